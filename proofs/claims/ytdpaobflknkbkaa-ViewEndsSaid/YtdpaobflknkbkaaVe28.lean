/- Laid together: VRx -/
import Derived.Test.YtdpaobflknkbkaaVe27

namespace Go.Proofs.Ytdpaobflknkbkaa
open Go.RowKit Go.ChangeShapes
set_option linter.unusedVariables false
theorem VRx_fld_spence_spenceref14_View_0_0 (w : World) (g : Nat) : (Instr.fieldAt 36 (.pointer (some ⟨g, 0, none⟩)) 0).run Try.prog w = .ok (.pointer (some ⟨g, 0, none⟩)) w := by kernel_rfl
theorem VRx_fld_spence_spenceref14_User_2_0 (w : World) (g : Nat) : (Instr.fieldAt 87 (.pointer (some ⟨g, 0, none⟩)) 2).run Try.prog w = .ok (.pointer (some ⟨g, 5, none⟩)) w := by kernel_rfl
def VrX (g ux ub n i9 q9 : Nat) (c m rc b3 f3 : Nat) (lo : Option Addr) (who : Int) (z : Nat) (L1 L2 : List (List Value)) (i : Nat) (v : Value) (W : World) : Prop :=
  match i with
  | 0 => v = .pointer (some ⟨g, 0, none⟩)
  | 1 => v = .pointer (some ⟨g, 0, none⟩)
  | 2 => v = .pointer (some ⟨g, 0, none⟩)
  | 3 => v = .slice (some ⟨ux, 0, none⟩) n c
  | 4 => v = .int .i64 who
  | 5 => v = .int .i64 (i9 : Nat)
  | 6 => ∃ b, v = .slice (some ⟨b, 0, none⟩) 0 0 ∧ OwnE 73 2 z W v []
  | 7 => v = .pointer (some ⟨ub, 5, none⟩)
  | 8 => v = .slice (some ⟨b3, f3, none⟩) m rc
  | 9 => v = .int .i64 (q9 : Nat)
  | 10 => v = .slice (some ⟨b3, f3, none⟩) q9 rc
  | 11 => OwnE 73 2 z W v L1
  | 12 => v = .pointer (some ⟨ub, 5, none⟩)
  | 13 => v = .slice (some ⟨b3, f3, none⟩) m rc
  | 14 => v = .int .i64 (q9 : Nat)
  | 15 => v = .int .i64 ((q9 + 1 : Nat) : Int)
  | 16 => v = .slice lo (m - (q9 + 1)) (rc - (q9 + 1))
  | 17 => OwnE 73 2 z W v (L1 ++ L2)
  | 18 => v = .pointer (some ⟨ux, i9 * 6, none⟩)
  | 19 => v = .pointer (some ⟨ux, i9 * 6 + 5, none⟩)
  | _ => True
theorem VrX.ext (g ux ub n i9 q9 : Nat) (c m rc b3 f3 : Nat) (lo : Option Addr) (who : Int) (z : Nat) (L1 L2 : List (List Value)) : ∀ (j : Nat) (u : Value) (W W' : World), ExtE 73 2 z (L1 ++ L2) W W' → VrX g ux ub n i9 q9 c m rc b3 f3 lo who z L1 L2 j u W → VrX g ux ub n i9 q9 c m rc b3 f3 lo who z L1 L2 j u W'
  | 0, u, W, W', hf, h => h
  | 1, u, W, W', hf, h => h
  | 2, u, W, W', hf, h => h
  | 3, u, W, W', hf, h => h
  | 4, u, W, W', hf, h => h
  | 5, u, W, W', hf, h => h
  | 6, u, W, W', hf, h => (by obtain ⟨b, h1, h2⟩ := h; exact ⟨b, h1, hf _ _ List.nil_prefix h2⟩)
  | 7, u, W, W', hf, h => h
  | 8, u, W, W', hf, h => h
  | 9, u, W, W', hf, h => h
  | 10, u, W, W', hf, h => h
  | 11, u, W, W', hf, h => hf _ _ ⟨L2, rfl⟩ h
  | 12, u, W, W', hf, h => h
  | 13, u, W, W', hf, h => h
  | 14, u, W, W', hf, h => h
  | 15, u, W, W', hf, h => h
  | 16, u, W, W', hf, h => h
  | 17, u, W, W', hf, h => hf _ _ (List.prefix_refl _) h
  | 18, u, W, W', hf, h => h
  | 19, u, W, W', hf, h => h
  | _ + 20, u, W, W', hf, h => trivial
section
variable {F : Nat → Prop} {w : World} {g u : Nat} {s : VS}
set_option maxRecDepth 100000
set_option maxHeartbeats 4000000
theorem runnote_any (h : RvAt F w g u s) (hp0 : Pl s) (who : Int) (N : ByteArray) (hN : N.size ≤ 140737488351232) : Calls Try.prog 46 #[.pointer (some ⟨g, 0, none⟩), .int .i64 who, .string N] w fun e w' => e = .returned (.int .i64 (unnoteE s who N.data.toList)) ∧ RvAt (newF F w w') w' g u (unnoteS s who N.data.toList) ∧ Fr (fun k => k = u) w w' := by
  have HW := Lib.hid h
  by_cases hu : isUser s who
  · have HI := Lib.hid (is_yes h who hu)
    obtain ⟨iw, hwi, hi⟩ := user_at hu
    obtain ⟨c, r1, r2, r3⟩ := h.row
    have c0 := cell_of_one r1
    obtain ⟨rv, nv, l, hr, hel, hnt, hnl⟩ := (h.us iw hi).ex
    rw [← hwi] at hnl
    obtain ⟨M, hM⟩ : ∃ M, M = l.map ntP := ⟨_, rfl⟩
    have hMV : M.map ntV = s.N who := by rw [hM, ntV_ntP, hnl]
    have hMO : VOk M := by
      have h9 := hp0.N who
      rw [← hMV] at h9
      exact VOk.unmap Prod.snd h9
    have hrc' := hnt.el
    rw [← rowE_ntP, ← hM] at hrc'
    obtain ⟨ra, rc, rfl⟩ : ∃ ra rc, nv = .slice ra M.length rc := by
      obtain ⟨ao, cap, hv, _⟩ := hrc'
      exact ⟨ao, cap, by rw [hv, List.length_map]⟩
    obtain ⟨na, nn, nc, rfl⟩ : ∃ na nn nc, rv = .slice na nn nc := by
      obtain ⟨ao, cap, hv, _⟩ := hel
      exact ⟨ao, _, cap, hv⟩
    obtain ⟨_, hmrc, hrc, b3, f3, hra, hrg⟩ := hrc'.rng
    obtain ⟨n, hn⟩ : ∃ n, n = s.Q.length := ⟨_, rfl⟩
    obtain ⟨m, hm⟩ : ∃ m, m = M.length := ⟨_, rfl⟩
    obtain ⟨q9, hq⟩ : ∃ q, q = s.Q[iw] := ⟨_, rfl⟩
    rw [← hn] at c0 r1
    rw [← hm] at hra hr hmrc hrc'
    rw [← hq] at hr
    have hlens := hp0.lens hi
    rw [← hwi, ← hMV, List.length_map, ← hm] at hlens
    have hm100 : m ≤ 400 := hlens.2.1
    have hn8 : n ≤ 8 := by rw [hn]; exact hlens.2.2
    have hi2 : (iw : Int) < (n : Int) := by omega
    have hw1 : IntKind.i64.wrap (who - 1) = (iw : Int) := by rw [show (who - 1) = (iw : Int) by omega]; exact wrap_in5 (by omega) (by omega)
    have hi0 : (0 : Int) ≤ (iw : Int) := by omega
    obtain ⟨UL, hUL⟩ : ∃ UL, UL = usL q9 (.slice na nn nc) (.slice ra m rc) := ⟨_, rfl⟩
    have HLU := Lib.hid (fun (oo : Oper) (a : Act) (e1 : oo.op = .load 87 (.tmp 19)) (e2 : a.eval (.tmp 19) = .pointer (some ⟨u, iw * 6, none⟩)) => op_loadAt e1 e2 (load_us hr))
    have hsz := szU q9 (.slice na nn nc) (.slice ra m rc)
    have hone := oneU q9 na ra nn m nc rc
    rw [← hUL] at HLU hsz hone
    have hzs : zU.size = UL.toArray.size := by rw [hUL]; rfl
    obtain ⟨W2, hW2⟩ : ∃ W2, W2 = (w.alloc (.cells zU 87)).setRow w.heap.size UL.toArray := ⟨_, rfl⟩
    have hf2 : Fr (fun _ => False) w W2 := by rw [hW2]; exact ((Fr.refl _ _).alloc _).setRow (.inr (Nat.le_refl _)) _
    have hb2 : W2.heap[w.heap.size]? = some (.cells UL.toArray 87 (0, 0)) := by rw [hW2]; exact setRow_heap _ _ _ _ _ _ (heap_alloc_new w _)
    obtain ⟨ub, hub⟩ : ∃ ub, ub = w.heap.size := ⟨_, rfl⟩
    rw [← hub] at hb2
    have cu5 : W2.cell? ⟨ub, 5, none⟩ = some (.slice ra m rc) := by rw [cell_of_row _ _ _ _ _ _ hb2, hUL]; rfl
    have HU := Lib.hid (And.intro hW2 (And.intro hf2 (And.intro hub (And.intro hsz (And.intro hzs hone)))))
    have HCU := Lib.hid cu5
    have HIx := Lib.hid (And.intro hwi (And.intro hi (And.intro hu (And.intro hMV hm))))
    have HEL := Lib.hid (And.intro (show ∀ j (hj : j < M.length), w.rangeAt b3 (f3 + j * 2) (rowE M[j]) from fun j hj => by have := hrg j (by rw [List.length_map]; exact hj); rwa [List.getElem_map] at this) (And.intro hra hrc'))
    have HMO := Lib.hid hMO
    have HMB := Lib.hid (show ∀ x ∈ M, BytesIn F w x.2.1 x.2.2 from fun x hx => by
      rw [hM] at hx
      obtain ⟨d, hd, rfl⟩ := List.mem_map.1 hx
      exact hnt.bytes d hd)
    have HON := Lib.hid (show ∀ x ∈ M, ∀ y ∈ rowE x, y.oneCell' = true from fun x hx y hy => by
      rcases List.mem_cons.1 hy with rfl | hy
      · rfl
      · rcases List.mem_cons.1 hy with rfl | hy
        · exact (HMB.out x hx).oneC
        · cases hy)
    obtain ⟨k, hk⟩ : ∃ k : Bs, k = N.data.toList := ⟨_, rfl⟩
    have hkN : (⟨k.toArray⟩ : ByteArray) = N := by rw [hk]
    have HK := Lib.hid (And.intro hk hkN)
    have hgv : vGet (s.N who) k = (vGet M k).map Prod.snd := by rw [← hMV]; exact vGet_map Prod.snd _ M
    have HGV := Lib.hid hgv
    have hrc2 : rc ≤ 9223372036854775807 := hrc
    have HRC := Lib.hid (And.intro hmrc r2)
    have HC0 := Lib.hid c0
    clear h hu hp0 hr hel hnt hnl hq hM hMV hMO hn hUL hW2 hf2 hb2 hsz hzs hone hlens hwi hrg hra r1 r2 r3 hm hk hkN cu5 hrc hrc' hub hmrc hgv
    rw [← HK.out.1]
    go_enter Try.func46, Try.ntmps46
    go_wp2_with (first
      | (go_at_call 48; refine HI.out.mono ?_; rintro e w1 ⟨rfl, hw9⟩; (obtain rfl : w = w1 := hw9.symm))
      | (with_reducible refine Go.Proofs.Ytdpaobflknkbkaa.wpList_value rfl (.agg UL.toArray) _ (HLU.out _ _ rfl rfl) ?_; refine stopAt ?_))
    refine Stop.mk ?_
    try simp only [Act.put, List.setIfInBounds_toArray, List.set_cons_succ, List.set_cons_zero]
    refine Go.Proofs.Ytdpaobflknkbkaa.wpList_value rfl _ _ (op_aU _ _ _ rfl) ?_
    try simp only [Act.put, List.setIfInBounds_toArray, List.set_cons_succ, List.set_cons_zero]
    refine Go.Proofs.Ytdpaobflknkbkaa.wpList_store_row rfl 87 (.tmp 7) (.tmp 20) rfl _ UL.toArray zU 87 rfl rfl (heap_alloc_new _ _) HU.out.2.2.2.1 HU.out.2.2.2.2.1 HU.out.2.2.2.2.2 ?_
    try simp only [Act.put]
    rw [← HU.out.1, ← HU.out.2.2.1]
    have cu5 := HCU.out
    go_wp2_with fail
    go_loopw [8] (fun iv wr => ∃ (j : Nat), j ≤ m ∧ iv = .int .i64 j ∧ Hid (Fr (fun _ => False) W2 wr ∧ ∀ t (ht : t < M.length), t < j → M[t].1 ≠ k)) (fun iv _ => m - (intOf iv).toNat)
    case atStart => exact ⟨0, by omega, rfl, Lib.hid ⟨Fr.refl _ _, fun t _ h => absurd h (Nat.not_lt_zero _)⟩⟩
    case round =>
      obtain ⟨j, hj, rfl, HS⟩ := hrel
      have cu5 := HS.out.1.cell HCU.out id
      have hfw : Fr (fun _ => False) w wr := HU.out.2.1.trans HS.out.1 (fun _ h => h.elim)
      have HFW := Lib.hid hfw
      have c0 := hfw.cell HC0.out id
      clear hfw
      by_cases hlt : j < m
      · have hjM : j < M.length := by have := HIx.out.2.2.2.2; omega
        obtain ⟨rfl, hFb⟩ := HEL.out.2.1 (by omega)
        have hrx : wr.rangeAt b3 (f3 + j * 2) (rowE M[j]) := Fr.range9 HFW.out (HEL.out.1 j hjM) id
        obtain ⟨x, hx⟩ : ∃ x, x = M[j] := ⟨_, rfl⟩
        rw [← hx] at hrx
        obtain ⟨X, hX⟩ : ∃ X : ByteArray, X = ⟨x.1.toArray⟩ := ⟨_, rfl⟩
        have cx : wr.cell? ⟨b3, f3 + j * 2, none⟩ = some (.string X) := by rw [hX]; exact hrx 0 _ rfl
        have hj64 : (j : Int) < (m : Int) := by omega
        have hXN : (X.toList == N.toList) = decide (x.1 = k) := by rw [hX, ← HK.out.2]; exact bs_str _ _
        have HX := Lib.hid (And.intro hjM (And.intro hx hrx))
        clear hx hX hrx
        by_cases he : x.1 = k
        · rw [decide_eq_true he] at hXN
          have HE := Lib.hid he
          clear he
          obtain ⟨lo, hlo⟩ : ∃ lo, lo = lowE (some ⟨b3, f3, none⟩) (j + 1) rc 2 := ⟨_, rfl⟩
          obtain ⟨L1, hL1⟩ : ∃ L1, L1 = (M.map rowE).take j := ⟨_, rfl⟩
          obtain ⟨L2, hL2⟩ : ∃ L2, L2 = (M.map rowE).drop (j + 1) := ⟨_, rfl⟩
          have hone : ∀ L : List (List Value), (∀ y ∈ L, y ∈ M.map rowE) → ∀ y ∈ L, ∀ v ∈ y, v.oneCell' = true := fun L hL y hy v hv => by
            obtain ⟨p, hp, rfl⟩ := List.mem_map.1 (hL y hy)
            exact HON.out p hp v hv
          have HLO := Lib.hid hlo
          have HL := Lib.hid (And.intro hL1 hL2)
          have HE1 := Lib.hid (fun W (hW : Fr (fun _ => False) wr W) => (show Elems 2 (fun _ => True) W (.slice (some ⟨b3, f3, none⟩) j rc) L1 from by rw [hL1]; exact ((((HEL.out.2.2).keep HFW.out (fun _ _ _ h => h)).keep hW (fun _ _ _ h => h)).mono (by decide) (fun _ _ _ => trivial)).take (by omega)))
          have HE2 := Lib.hid (fun W (hW : Fr (fun _ => False) wr W) => (show Elems 2 (fun _ => True) W (.slice lo (m - (j + 1)) (rc - (j + 1))) L2 from by rw [hL2, hlo]; exact ((((HEL.out.2.2).keep HFW.out (fun _ _ _ h => h)).keep hW (fun _ _ _ h => h)).mono (by decide) (fun _ _ _ => trivial)).drop (by omega)))
          have HC1 := Lib.hid (hone L1 (fun y hy => by rw [hL1] at hy; exact List.mem_of_mem_take hy))
          have HC2 := Lib.hid (hone L2 (fun y hy => by rw [hL2] at hy; exact List.mem_of_mem_drop hy))
          have hll : L1.length + L2.length ≤ 800 := by
            rw [hL1, hL2, List.length_take, List.length_drop, List.length_map]
            have := HIx.out.2.2.2.2
            omega
          have HN1 := Lib.hid (show ([] : List (List Value)).length + L1.length ≤ 1000000 by simp; omega)
          have HN2 := Lib.hid (show L1.length + L2.length ≤ 1000000 by omega)
          obtain ⟨z, hz⟩ : ∃ z, z = wr.heap.size := ⟨_, rfl⟩
          have HZZ := Lib.hid (show z ≤ wr.heap.size by omega)
          have HZQ := Lib.hid hz.symm
          have HWI := Lib.hid (show who - 1 = (iw : Int) by have := HIx.out.1; omega)
          have HQC := Lib.hid (show j ≤ rc by have := HRC.out.1; omega)
          have HQM := Lib.hid (show j + 1 ≤ m by omega)
          have HIU := Lib.hid (fun W => (by have := idxUs W u 0 n c iw (by omega); rwa [Nat.zero_add] at this : (Instr.indexAt 34 (.slice (some ⟨u, 0, none⟩) n c) (.int .i64 iw)).run Try.prog W = .ok (.pointer (some ⟨u, iw * 6, none⟩)) W))
          have LDG := Lib.hid (fun W (hW : Fr (fun _ => False) wr W) => load_one5 W 34 ⟨g, 0, none⟩ _ (by kernel_rfl) (hW.cell c0 id))
          have LDU := Lib.hid (fun W (hW : Fr (fun _ => False) wr W) => load_one5 W 63 ⟨ub, 5, none⟩ _ (by kernel_rfl) (hW.cell cu5 id))
          have hj9 : (j : Int) ≤ 400 := by omega
          clear hlo hL1 hL2 hone hll hz
          go_wp2_with fail
          refine wp_region_inv 20 (by kernel_rfl) (by kernel_rfl) (fun W => Fr (fun _ => False) wr W) (VrX g u ub n iw j c m rc b3 f3 lo who z L1 L2) (fun _ _ _ _ => True) (ExtE 73 2 z (L1 ++ L2)) (VrX.ext g u ub n iw j c m rc b3 f3 lo who z L1 L2) (Fr.refl _ _).drew ?_ ?_
          · intro i hi o ho
            replace hi : i < 20 := hi
            obtain rfl | rfl | rfl | rfl | rfl | rfl | rfl | rfl | rfl | rfl | rfl | rfl | rfl | rfl | rfl | rfl | rfl | rfl | rfl | rfl : i = 0 ∨ i = 1 ∨ i = 2 ∨ i = 3 ∨ i = 4 ∨ i = 5 ∨ i = 6 ∨ i = 7 ∨ i = 8 ∨ i = 9 ∨ i = 10 ∨ i = 11 ∨ i = 12 ∨ i = 13 ∨ i = 14 ∨ i = 15 ∨ i = 16 ∨ i = 17 ∨ i = 18 ∨ i = 19 := by omega
            · simp only [List.getElem?_cons_zero, Option.some.injEq] at ho
              subst ho
              intro a W vs hB hS hE hU
              refine wpG_plain rfl ?_
              have v0 : a.eval (.tmp 0) = .pointer (some ⟨g, 0, none⟩) := (hU 0 (by kernel_rfl)).trans rfl
              clear hE hU
              exact wp_value_inv (w' := W) (.pointer (some ⟨g, 0, none⟩)) (op_move rfl v0) ⟨_, rfl, hB, ExtE.refl _ _ _ _ _, rfl, fun _ _ _ _ _ => trivial⟩
            · simp only [List.getElem?_cons_zero, List.getElem?_cons_succ, Option.some.injEq] at ho
              subst ho
              intro a W vs hB hS hE hU
              refine wpG_plain rfl ?_
              obtain ⟨r0, e36⟩ := hE 0 36 (by kernel_rfl) (by kernel_rfl)
              have v36 : a.eval (.tmp 36) = .pointer (some ⟨g, 0, none⟩) := e36.trans r0
              clear hE hU
              exact wp_value_inv (w' := W) (.pointer (some ⟨g, 0, none⟩)) (op_nilCheck rfl v36) ⟨_, rfl, hB, ExtE.refl _ _ _ _ _, rfl, fun _ _ _ _ _ => trivial⟩
            · simp only [List.getElem?_cons_zero, List.getElem?_cons_succ, Option.some.injEq] at ho
              subst ho
              intro a W vs hB hS hE hU
              refine wpG_plain rfl ?_
              obtain ⟨r1, e37⟩ := hE 1 37 (by kernel_rfl) (by kernel_rfl)
              have v37 : a.eval (.tmp 37) = .pointer (some ⟨g, 0, none⟩) := e37.trans r1
              clear hE hU
              exact wp_value_inv (w' := W) (.pointer (some ⟨g, 0, none⟩)) (op_fieldAddr rfl v37 (VRx_fld_spence_spenceref14_View_0_0 W g)) ⟨_, rfl, hB, ExtE.refl _ _ _ _ _, rfl, fun _ _ _ _ _ => trivial⟩
            · simp only [List.getElem?_cons_zero, List.getElem?_cons_succ, Option.some.injEq] at ho
              subst ho
              intro a W vs hB hS hE hU
              refine wpG_plain rfl ?_
              obtain ⟨r2, e38⟩ := hE 2 38 (by kernel_rfl) (by kernel_rfl)
              have v38 : a.eval (.tmp 38) = .pointer (some ⟨g, 0, none⟩) := e38.trans r2
              clear hE hU
              exact wp_value_inv (w' := W) (.slice (some ⟨u, 0, none⟩) n c) (op_loadAt rfl v38 (LDG.out W hB)) ⟨_, rfl, hB, ExtE.refl _ _ _ _ _, rfl, fun _ _ _ _ _ => trivial⟩
            · simp only [List.getElem?_cons_zero, List.getElem?_cons_succ, Option.some.injEq] at ho
              subst ho
              intro a W vs hB hS hE hU
              refine wpG_plain rfl ?_
              have v1 : a.eval (.tmp 1) = .int .i64 who := (hU 1 (by kernel_rfl)).trans rfl
              clear hE hU
              exact wp_value_inv (w' := W) (.int .i64 who) (op_move rfl v1) ⟨_, rfl, hB, ExtE.refl _ _ _ _ _, rfl, fun _ _ _ _ _ => trivial⟩
            · simp only [List.getElem?_cons_zero, List.getElem?_cons_succ, Option.some.injEq] at ho
              subst ho
              intro a W vs hB hS hE hU
              refine wpG_plain rfl ?_
              obtain ⟨r4, e40⟩ := hE 4 40 (by kernel_rfl) (by kernel_rfl)
              have v40 : a.eval (.tmp 40) = .int .i64 who := e40.trans r4
              clear hE hU
              exact wp_value_inv (w' := W) (.int .i64 (iw : Nat)) (op_bin rfl v40 rfl rfl (sub_in5 HWI.out (by omega) (by omega))) ⟨_, rfl, hB, ExtE.refl _ _ _ _ _, rfl, fun _ _ _ _ _ => trivial⟩
            · simp only [List.getElem?_cons_zero, List.getElem?_cons_succ, Option.some.injEq] at ho
              subst ho
              intro a W vs hB hS hE hU
              refine wpG_plain rfl ?_
              clear hE hU
              have hfa : Fr (fun _ => False) W (W.alloc (.cells #[] 73)) := (Fr.refl _ _).alloc _
              exact wp_value_inv (w' := W.alloc (.cells #[] 73)) (.slice (some ⟨W.heap.size, 0, none⟩) 0 0) (op_rows (vs := #[]) rfl (by simp) (noneW9 W)) ⟨_, rfl, hB.trans hfa (fun _ h => h.elim), ExtE.quiet hfa, ⟨_, rfl, OwnE.none9 _ _ _ W (Nat.le_trans HZZ.out hB.size)⟩, fun _ _ _ _ _ => trivial⟩
            · simp only [List.getElem?_cons_zero, List.getElem?_cons_succ, Option.some.injEq] at ho
              subst ho
              intro a W vs hB hS hE hU
              refine wpG_plain rfl ?_
              have v7 : a.eval (.tmp 7) = .pointer (some ⟨ub, 0, none⟩) := (hU 7 (by kernel_rfl)).trans rfl
              clear hE hU
              exact wp_value_inv (w' := W) (.pointer (some ⟨ub, 5, none⟩)) (op_fieldAddr rfl v7 (VRx_fld_spence_spenceref14_User_2_0 W ub)) ⟨_, rfl, hB, ExtE.refl _ _ _ _ _, rfl, fun _ _ _ _ _ => trivial⟩
            · simp only [List.getElem?_cons_zero, List.getElem?_cons_succ, Option.some.injEq] at ho
              subst ho
              intro a W vs hB hS hE hU
              refine wpG_plain rfl ?_
              obtain ⟨r7, e43⟩ := hE 7 43 (by kernel_rfl) (by kernel_rfl)
              have v43 : a.eval (.tmp 43) = .pointer (some ⟨ub, 5, none⟩) := e43.trans r7
              clear hE hU
              exact wp_value_inv (w' := W) (.slice (some ⟨b3, f3, none⟩) m rc) (op_loadAt rfl v43 (LDU.out W hB)) ⟨_, rfl, hB, ExtE.refl _ _ _ _ _, rfl, fun _ _ _ _ _ => trivial⟩
            · simp only [List.getElem?_cons_zero, List.getElem?_cons_succ, Option.some.injEq] at ho
              subst ho
              intro a W vs hB hS hE hU
              refine wpG_plain rfl ?_
              have v8 : a.eval (.tmp 8) = .int .i64 (j : Nat) := (hU 8 (by kernel_rfl)).trans rfl
              clear hE hU
              exact wp_value_inv (w' := W) (.int .i64 (j : Nat)) (op_move rfl v8) ⟨_, rfl, hB, ExtE.refl _ _ _ _ _, rfl, fun _ _ _ _ _ => trivial⟩
            · simp only [List.getElem?_cons_zero, List.getElem?_cons_succ, Option.some.injEq] at ho
              subst ho
              intro a W vs hB hS hE hU
              refine wpG_plain rfl ?_
              obtain ⟨r8, e44⟩ := hE 8 44 (by kernel_rfl) (by kernel_rfl)
              have v44 : a.eval (.tmp 44) = .slice (some ⟨b3, f3, none⟩) m rc := e44.trans r8
              obtain ⟨r9, e45⟩ := hE 9 45 (by kernel_rfl) (by kernel_rfl)
              have v45 : a.eval (.tmp 45) = .int .i64 (j : Nat) := e45.trans r9
              clear hE hU
              exact wp_value_inv (w' := W) (.slice (some ⟨b3, f3, none⟩) j rc) (op_slice_h9 rfl v44 v45 (headW9 W _ _ _ _ HQC.out)) ⟨_, rfl, hB, ExtE.refl _ _ _ _ _, rfl, fun _ _ _ _ _ => trivial⟩
            · simp only [List.getElem?_cons_zero, List.getElem?_cons_succ, Option.some.injEq] at ho
              subst ho
              intro a W vs hB hS hE hU
              refine wpG_plain rfl ?_
              obtain ⟨r10, e46⟩ := hE 10 46 (by kernel_rfl) (by kernel_rfl)
              have v46 : a.eval (.tmp 46) = .slice (some ⟨b3, f3, none⟩) j rc := e46.trans r10
              skip
              obtain ⟨r6, e6⟩ := hE 6 42 (by kernel_rfl) (by kernel_rfl)
              obtain ⟨b9, hb9, ho9⟩ := r6
              obtain ⟨v', w', hr, ho, hf, hf0, hp⟩ := run_append_ek Try.underlying63 infoRow rowZ9 (by decide) (by decide) W _ (vs 6) _ [] L1 ho9 (HE1.out W hB) HC1.out (Nat.le_trans HZZ.out hB.size) HN1.out
              have hff := hf0 ⟨_, 0, hb9⟩
              rw [List.nil_append] at ho
              exact wp_value_inv (w' := w') v' (op_append9 rfl e6 v46 hr) ⟨_, rfl, hB.trans hff (fun _ h => h.elim), ExtE.quiet hff, ho, fun _ _ _ _ _ => trivial⟩
            · simp only [List.getElem?_cons_zero, List.getElem?_cons_succ, Option.some.injEq] at ho
              subst ho
              intro a W vs hB hS hE hU
              refine wpG_plain rfl ?_
              have v7 : a.eval (.tmp 7) = .pointer (some ⟨ub, 0, none⟩) := (hU 7 (by kernel_rfl)).trans rfl
              clear hE hU
              exact wp_value_inv (w' := W) (.pointer (some ⟨ub, 5, none⟩)) (op_fieldAddr rfl v7 (VRx_fld_spence_spenceref14_User_2_0 W ub)) ⟨_, rfl, hB, ExtE.refl _ _ _ _ _, rfl, fun _ _ _ _ _ => trivial⟩
            · simp only [List.getElem?_cons_zero, List.getElem?_cons_succ, Option.some.injEq] at ho
              subst ho
              intro a W vs hB hS hE hU
              refine wpG_plain rfl ?_
              obtain ⟨r12, e48⟩ := hE 12 48 (by kernel_rfl) (by kernel_rfl)
              have v48 : a.eval (.tmp 48) = .pointer (some ⟨ub, 5, none⟩) := e48.trans r12
              clear hE hU
              exact wp_value_inv (w' := W) (.slice (some ⟨b3, f3, none⟩) m rc) (op_loadAt rfl v48 (LDU.out W hB)) ⟨_, rfl, hB, ExtE.refl _ _ _ _ _, rfl, fun _ _ _ _ _ => trivial⟩
            · simp only [List.getElem?_cons_zero, List.getElem?_cons_succ, Option.some.injEq] at ho
              subst ho
              intro a W vs hB hS hE hU
              refine wpG_plain rfl ?_
              have v8 : a.eval (.tmp 8) = .int .i64 (j : Nat) := (hU 8 (by kernel_rfl)).trans rfl
              clear hE hU
              exact wp_value_inv (w' := W) (.int .i64 (j : Nat)) (op_move rfl v8) ⟨_, rfl, hB, ExtE.refl _ _ _ _ _, rfl, fun _ _ _ _ _ => trivial⟩
            · simp only [List.getElem?_cons_zero, List.getElem?_cons_succ, Option.some.injEq] at ho
              subst ho
              intro a W vs hB hS hE hU
              refine wpG_plain rfl ?_
              obtain ⟨r14, e50⟩ := hE 14 50 (by kernel_rfl) (by kernel_rfl)
              have v50 : a.eval (.tmp 50) = .int .i64 (j : Nat) := e50.trans r14
              clear hE hU
              exact wp_value_inv (w' := W) (.int .i64 ((j + 1 : Nat) : Int)) (op_bin rfl v50 rfl rfl (add_in5 (by omega) (by omega) (by omega))) ⟨_, rfl, hB, ExtE.refl _ _ _ _ _, rfl, fun _ _ _ _ _ => trivial⟩
            · simp only [List.getElem?_cons_zero, List.getElem?_cons_succ, Option.some.injEq] at ho
              subst ho
              intro a W vs hB hS hE hU
              refine wpG_plain rfl ?_
              obtain ⟨r13, e49⟩ := hE 13 49 (by kernel_rfl) (by kernel_rfl)
              have v49 : a.eval (.tmp 49) = .slice (some ⟨b3, f3, none⟩) m rc := e49.trans r13
              obtain ⟨r15, e51⟩ := hE 15 51 (by kernel_rfl) (by kernel_rfl)
              have v51 : a.eval (.tmp 51) = .int .i64 ((j + 1 : Nat) : Int) := e51.trans r15
              clear hE hU
              exact wp_value_inv (w' := W) (.slice lo (m - (j + 1)) (rc - (j + 1))) (op_slice_l9 rfl v49 v51 ((tailW9 W _ _ _ _ HQM.out).trans (by rw [← HLO.out]))) ⟨_, rfl, hB, ExtE.refl _ _ _ _ _, rfl, fun _ _ _ _ _ => trivial⟩
            · simp only [List.getElem?_cons_zero, List.getElem?_cons_succ, Option.some.injEq] at ho
              subst ho
              intro a W vs hB hS hE hU
              refine wpG_plain rfl ?_
              obtain ⟨r16, e52⟩ := hE 16 52 (by kernel_rfl) (by kernel_rfl)
              have v52 : a.eval (.tmp 52) = .slice lo (m - (j + 1)) (rc - (j + 1)) := e52.trans r16
              skip
              obtain ⟨r11, e11⟩ := hE 11 47 (by kernel_rfl) (by kernel_rfl)
              obtain ⟨v', w', hr, ho, hf, hf0, hp⟩ := run_append_ek Try.underlying63 infoRow rowZ9 (by decide) (by decide) W _ (vs 11) _ L1 L2 r11 (HE2.out W hB) HC2.out (Nat.le_trans HZZ.out hB.size) HN2.out
              exact wp_value_inv (w' := w') v' (op_append9 rfl e11 v52 hr) ⟨_, rfl, hB.trans hf (fun b hb => .inr (by rw [HZQ.out]; exact (r11.own b hb).1)), hp, ho, fun _ _ _ _ _ => trivial⟩
            · simp only [List.getElem?_cons_zero, List.getElem?_cons_succ, Option.some.injEq] at ho
              subst ho
              intro a W vs hB hS hE hU
              refine wpG_plain rfl ?_
              obtain ⟨r3, e39⟩ := hE 3 39 (by kernel_rfl) (by kernel_rfl)
              have v39 : a.eval (.tmp 39) = .slice (some ⟨u, 0, none⟩) n c := e39.trans r3
              obtain ⟨r5, e41⟩ := hE 5 41 (by kernel_rfl) (by kernel_rfl)
              have v41 : a.eval (.tmp 41) = .int .i64 (iw : Nat) := e41.trans r5
              clear hE hU
              exact wp_value_inv (w' := W) (.pointer (some ⟨u, iw * 6, none⟩)) (op_indexAddr rfl v39 v41 (HIU.out W)) ⟨_, rfl, hB, ExtE.refl _ _ _ _ _, rfl, fun _ _ _ _ _ => trivial⟩
            · simp only [List.getElem?_cons_zero, List.getElem?_cons_succ, Option.some.injEq] at ho
              subst ho
              intro a W vs hB hS hE hU
              refine wpG_plain rfl ?_
              obtain ⟨r18, e54⟩ := hE 18 54 (by kernel_rfl) (by kernel_rfl)
              have v54 : a.eval (.tmp 54) = .pointer (some ⟨u, iw * 6, none⟩) := e54.trans r18
              clear hE hU
              exact wp_value_inv (w' := W) (.pointer (some ⟨u, iw * 6 + 5, none⟩)) (op_fieldAddr rfl v54 (fldU5 W u (iw * 6))) ⟨_, rfl, hB, ExtE.refl _ _ _ _ _, rfl, fun _ _ _ _ _ => trivial⟩
          · intro vs Wz hB0 hR0 hD
            have H17 := Lib.hid (show OwnE 73 2 z Wz (vs 17) (L1 ++ L2) from hR0 17 (by decide))
            obtain ⟨a7, c7, hv7⟩ := OwnE.form H17.out
            have r55 : vs 19 = .pointer (some ⟨u, iw * 6 + 5, none⟩) := hR0 19 (by decide)
            have HZ := Lib.hid hB0
            clear hR0 hD hB0
            simp only [acts, if_true, dstAt, List.getElem?_cons_zero, List.getElem?_cons_succ, Option.bind_some, Act.put, List.setIfInBounds_toArray, List.set_cons_succ, List.set_cons_zero, List.drop_succ_cons]
            simp only [r55]
            clear r55
            obtain ⟨n7, hn7⟩ : ∃ n7, n7 = (L1 ++ L2).length := ⟨_, rfl⟩
            rw [← hn7] at hv7
            simp only [hv7]
            have ho7 : OwnE 73 2 z Wz (.slice a7 n7 c7) (L1 ++ L2) := by rw [← hv7]; exact H17.out
            have hLL : L1 ++ L2 = (vDel M k).map rowE := by
              rw [HL.out.1, HL.out.2, ← List.map_take, ← List.map_drop, ← List.map_append, vDel_at (k := k) HMO.out HX.out.1 (by rw [← HX.out.2.1]; exact HE.out)]
            rw [hLL] at ho7
            have hgt : vGet M k = some x.2 := by
              rw [HX.out.2.1]
              exact vGet_at HMO.out HX.out.1 (by rw [← HX.out.2.1]; exact HE.out)
            have hfW : Fr (fun _ => False) w Wz := HFW.out.trans HZ.out (fun _ h => h.elim)
            have hiL := HIx.out.2.1
            have hfin := HW.out.putN hfW hiL (l9 := (vDel M k).map ntD) (by rw [rowE_ntD]; exact ho7.lower (by rw [HZQ.out.symm]; exact HFW.out.size)) (fun p hp => by
              obtain ⟨y, hy, rfl⟩ := List.mem_map.1 hp
              exact ((HMB.out y (List.mem_filter.1 hy).1).keep hfW (fun _ _ _ h => h)).mono (fun _ _ h => .inl h))
            rw [← HIx.out.1] at hfin
            have hvd : ((vDel M k).map ntD).map RowD.row = vDel (s.N who) k := by
              rw [ntV_ntD, ← HIx.out.2.2.2.1]
              exact vDel_map Prod.snd k M
            rw [hvd] at hfin
            obtain ⟨rv9, nv9, l9, e9, _⟩ := (HW.out.us iw hiL).ex
            obtain ⟨cs9, hb9⟩ := HW.out.blk
            have hcl9 := hfW.cell (e9 5 nv9 rfl) id
            have hfz9 : Wz.frozen? ⟨u, iw * 6 + 5, none⟩ = false := frozen_of_row _ _ _ _ _ (hfW.heap hb9 id)
            have hE0 : unnoteE s who k = 0 := by unfold unnoteE; rw [if_pos HIx.out.2.2.1, HGV.out, hgt]; rfl
            have hS0 : unnoteS s who k = s.setN who (vDel (s.N who) k) := by unfold unnoteS; rw [hE0, if_pos rfl]
            have HFN := Lib.hid (And.intro hfin.1 (And.intro hfin.2 (And.intro hE0 hS0)))
            clear ho7 hLL hgt hfin e9 hb9 hn7 hv7 H17 hiL hfW hFb hE0 hS0 hvd
            go_wp2_with fail
            go_ret
            rw [HFN.out.2.2.1, HFN.out.2.2.2, newF_set]
            exact ⟨rfl, HFN.out.1, HFN.out.2.1⟩
        · rw [decide_eq_false he] at hXN
          have HE := Lib.hid he
          clear he
          go_wp2_with fail
          go_roundw
          case rel => exact ⟨j + 1, by omega, by go_num, Lib.hid ⟨HS.out.1, fun t ht htj => by
            by_cases e : t = j
            · subst e
              rw [← HX.out.2.1]
              exact HE.out
            · exact HS.out.2 t ht (by omega)⟩⟩
          case measure => simp [intOf]; omega
      · have hjm : j = m := by omega
        subst hjm
        have hg0 : vGet M k = none := vGet_no (fun t ht => HS.out.2 t ht (by have := HIx.out.2.2.2.2; omega))
        have hE5 : unnoteE s who k = 5 := by unfold unnoteE; rw [if_pos HIx.out.2.2.1, HGV.out, hg0]; rfl
        have hS5 : unnoteS s who k = s := by unfold unnoteS; rw [hE5, if_neg (by decide)]
        have HES := Lib.hid (And.intro hE5 hS5)
        clear hg0 hE5 hS5
        go_wp2_with fail
        go_ret
        rw [HES.out.1, HES.out.2]
        exact ⟨rfl, HW.out.newF HFW.out, HFW.out.mono (fun _ _ h => h.elim)⟩
  · have HI := Lib.hid (is_no h who hu)
    have hE : unnoteE s who N.data.toList = 18 := by unfold unnoteE; rw [if_neg hu]
    have hS : unnoteS s who N.data.toList = s := by unfold unnoteS; rw [hE, if_neg (by decide)]
    rw [hS, hE]
    clear h hu hE hS hp0
    go_enter Try.func46, Try.ntmps46
    go_wp2_with (go_at_call 48; refine HI.out.mono ?_; rintro e w1 ⟨rfl, hw9⟩; (obtain rfl : w = w1 := hw9.symm))
    go_ret
    exact ⟨rfl, HW.out.newF (Fr.refl _ _), Fr.refl _ _⟩
end
end Go.Proofs.Ytdpaobflknkbkaa
