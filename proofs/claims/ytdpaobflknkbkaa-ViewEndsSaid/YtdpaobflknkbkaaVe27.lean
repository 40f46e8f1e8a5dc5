/- Laid together: VRu -/
import Derived.Test.YtdpaobflknkbkaaVe26
import Derived.Deep.DeepCutAuto

namespace Go.Proofs.Ytdpaobflknkbkaa
open Go.RowKit Go.ChangeShapes
set_option linter.unusedVariables false
theorem fldU4 (W : World) (g o : Nat) : (Instr.fieldAt 87 (.pointer (some ⟨g, o, none⟩)) 1).run Try.prog W = .ok (.pointer (some ⟨g, o + 4, none⟩)) W := by kernel_rfl
theorem fldU5 (W : World) (g o : Nat) : (Instr.fieldAt 87 (.pointer (some ⟨g, o, none⟩)) 2).run Try.prog W = .ok (.pointer (some ⟨g, o + 5, none⟩)) W := by kernel_rfl
theorem VRu_fld_spence_spenceref14_View_0_0 (w : World) (g : Nat) : (Instr.fieldAt 36 (.pointer (some ⟨g, 0, none⟩)) 0).run Try.prog w = .ok (.pointer (some ⟨g, 0, none⟩)) w := by kernel_rfl
theorem VRu_fld_spence_spenceref14_User_1_0 (w : World) (g : Nat) : (Instr.fieldAt 87 (.pointer (some ⟨g, 0, none⟩)) 1).run Try.prog w = .ok (.pointer (some ⟨g, 4, none⟩)) w := by kernel_rfl
def VrU (g ux ub n i9 q9 : Nat) (c m rc b3 f3 : Nat) (lo : Option Addr) (who : Int) (z : Nat) (L1 L2 : List (List Value)) (i : Nat) (v : Value) (W : World) : Prop :=
  match i with
  | 0 => v = .pointer (some ⟨g, 0, none⟩)
  | 1 => v = .pointer (some ⟨g, 0, none⟩)
  | 2 => v = .pointer (some ⟨g, 0, none⟩)
  | 3 => v = .slice (some ⟨ux, 0, none⟩) n c
  | 4 => v = .int .i64 who
  | 5 => v = .int .i64 (i9 : Nat)
  | 6 => ∃ b, v = .slice (some ⟨b, 0, none⟩) 0 0 ∧ OwnE 95 22 z W v []
  | 7 => v = .pointer (some ⟨ub, 4, none⟩)
  | 8 => v = .slice (some ⟨b3, f3, none⟩) m rc
  | 9 => v = .int .i64 (q9 : Nat)
  | 10 => v = .slice (some ⟨b3, f3, none⟩) q9 rc
  | 11 => OwnE 95 22 z W v L1
  | 12 => v = .pointer (some ⟨ub, 4, none⟩)
  | 13 => v = .slice (some ⟨b3, f3, none⟩) m rc
  | 14 => v = .int .i64 (q9 : Nat)
  | 15 => v = .int .i64 ((q9 + 1 : Nat) : Int)
  | 16 => v = .slice lo (m - (q9 + 1)) (rc - (q9 + 1))
  | 17 => OwnE 95 22 z W v (L1 ++ L2)
  | 18 => v = .pointer (some ⟨ux, i9 * 6, none⟩)
  | 19 => v = .pointer (some ⟨ux, i9 * 6 + 4, none⟩)
  | _ => True
theorem VrU.ext (g ux ub n i9 q9 : Nat) (c m rc b3 f3 : Nat) (lo : Option Addr) (who : Int) (z : Nat) (L1 L2 : List (List Value)) : ∀ (j : Nat) (u : Value) (W W' : World), ExtE 95 22 z (L1 ++ L2) W W' → VrU g ux ub n i9 q9 c m rc b3 f3 lo who z L1 L2 j u W → VrU g ux ub n i9 q9 c m rc b3 f3 lo who z L1 L2 j u W'
  | 0, u, W, W', hf, h => h
  | 1, u, W, W', hf, h => h
  | 2, u, W, W', hf, h => h
  | 3, u, W, W', hf, h => h
  | 4, u, W, W', hf, h => h
  | 5, u, W, W', hf, h => h
  | 6, u, W, W', hf, h => (by obtain ⟨b, h1, h2⟩ := h; exact ⟨b, h1, hf _ _ List.nil_prefix h2⟩)
  | 7, u, W, W', hf, h => h
  | 8, u, W, W', hf, h => h
  | 9, u, W, W', hf, h => h
  | 10, u, W, W', hf, h => h
  | 11, u, W, W', hf, h => hf _ _ ⟨L2, rfl⟩ h
  | 12, u, W, W', hf, h => h
  | 13, u, W, W', hf, h => h
  | 14, u, W, W', hf, h => h
  | 15, u, W, W', hf, h => h
  | 16, u, W, W', hf, h => h
  | 17, u, W, W', hf, h => hf _ _ (List.prefix_refl _) h
  | 18, u, W, W', hf, h => h
  | 19, u, W, W', hf, h => h
  | _ + 20, u, W, W', hf, h => trivial
section
variable {F : Nat → Prop} {w : World} {g u : Nat} {s : VS}
set_option maxRecDepth 100000
set_option maxHeartbeats 4000000
theorem runroot_any (h : RvAt F w g u s) (hp0 : Pl s) (who : Int) (N : ByteArray) (hN : N.size ≤ 140737488351232) : Calls Try.prog 40 #[.pointer (some ⟨g, 0, none⟩), .int .i64 who, .string N] w fun e w' => e = .returned (.tuple #[unrootP s who N.data.toList, .int .i64 (unrootE s who N.data.toList)]) ∧ RvAt (newF F w w') w' g u (unrootS s who N.data.toList) ∧ Fr (fun k => k = u) w w' := by
  obtain ⟨W1, hW1⟩ : ∃ W1, W1 = w.alloc (.cells zC 43) := ⟨_, rfl⟩
  have hf1 : Fr (fun _ => False) w W1 := by rw [hW1]; exact (Fr.refl _ _).alloc _
  have hb1 : W1.heap[w.heap.size]? = some (.cells zC 43 (0, 0)) := by rw [hW1]; exact heap_alloc_new w _
  have h1 := h.quiet hf1
  have hzz : zC.size = zL.size := by rw [zL_zC]
  have hz21 : zC.size = 21 := pathC_size _ rfl _
  have hz1 : zL.all (·.oneCell') = true := by rw [zL_zC]; exact pathC_one _ _
  have hiz : (Try.prog.info? 43).map (·.size) = some zL.size := by rw [zL_zC, hz21]; kernel_rfl
  have HW := Lib.hid (And.intro hW1 (And.intro hf1 (And.intro hb1 h)))
  have HZP := Lib.hid (And.intro hzz (And.intro hiz hz1))
  have H0 := Lib.hid (((h.wider (G := fun k => F k ∧ k < w.heap.size) (fun k hk hF => ⟨hF, hk⟩) (fun hg => h.sep.2.1 hg.1) (fun hg => h.sep.2.2 hg.1)).quiet hf1))
  by_cases hu : isUser s who
  · have HI := Lib.hid (is_yes h1 who hu)
    obtain ⟨iw, hwi, hi⟩ := user_at hu
    obtain ⟨c, r1, r2, r3⟩ := h1.row
    have c0 := cell_of_one r1
    obtain ⟨rv, nv, l, hr, hel, hnt, _⟩ := (h1.us iw hi).ex
    rw [← hwi] at hel
    obtain ⟨M, hM⟩ : ∃ M, M = s.R who := ⟨_, rfl⟩
    rw [← hM] at hel
    obtain ⟨ra, rc, rfl⟩ : ∃ ra rc, rv = .slice ra M.length rc := by
      obtain ⟨ao, cap, hv, _⟩ := hel
      exact ⟨ao, cap, by rw [hv, List.length_map]⟩
    obtain ⟨na, nn, nc, rfl⟩ : ∃ na nn nc, nv = .slice na nn nc := by
      obtain ⟨ao, cap, hv, _⟩ := hnt.el
      exact ⟨ao, _, cap, hv⟩
    obtain ⟨_, hmrc, hrc, b3, f3, hra, hrg⟩ := hel.rng
    obtain ⟨n, hn⟩ : ∃ n, n = s.Q.length := ⟨_, rfl⟩
    obtain ⟨m, hm⟩ : ∃ m, m = M.length := ⟨_, rfl⟩
    obtain ⟨q9, hq⟩ : ∃ q, q = s.Q[iw] := ⟨_, rfl⟩
    rw [← hn] at c0 r1
    rw [← hm] at hra hr hel hmrc
    rw [← hq] at hr
    have hlens := hp0.lens hi
    rw [← hwi, ← hM, ← hm] at hlens
    have hm100 : m ≤ 100 := hlens.1
    have hn8 : n ≤ 8 := by rw [hn]; exact hlens.2.2
    have hi2 : (iw : Int) < (n : Int) := by omega
    have hw1 : IntKind.i64.wrap (who - 1) = (iw : Int) := by rw [show (who - 1) = (iw : Int) by omega]; exact wrap_in5 (by omega) (by omega)
    have hi0 : (0 : Int) ≤ (iw : Int) := by omega
    obtain ⟨UL, hUL⟩ : ∃ UL, UL = usL q9 (.slice ra m rc) (.slice na nn nc) := ⟨_, rfl⟩
    have HLU := Lib.hid (fun (oo : Oper) (a : Act) (e1 : oo.op = .load 87 (.tmp 21)) (e2 : a.eval (.tmp 21) = .pointer (some ⟨u, iw * 6, none⟩)) => op_loadAt e1 e2 (load_us hr))
    have hsz := szU q9 (.slice ra m rc) (.slice na nn nc)
    have hone := oneU q9 ra na m nn rc nc
    rw [← hUL] at HLU hsz hone
    have hzs : zU.size = UL.toArray.size := by rw [hUL]; rfl
    obtain ⟨W2, hW2⟩ : ∃ W2, W2 = (W1.alloc (.cells zU 87)).setRow W1.heap.size UL.toArray := ⟨_, rfl⟩
    have hf2 : Fr (fun _ => False) W1 W2 := by rw [hW2]; exact ((Fr.refl _ _).alloc _).setRow (.inr (Nat.le_refl _)) _
    have hb2 : W2.heap[W1.heap.size]? = some (.cells UL.toArray 87 (0, 0)) := by rw [hW2]; exact setRow_heap _ _ _ _ _ _ (heap_alloc_new W1 _)
    obtain ⟨ub, hub⟩ : ∃ ub, ub = W1.heap.size := ⟨_, rfl⟩
    rw [← hub] at hb2
    have cu4 : W2.cell? ⟨ub, 4, none⟩ = some (.slice ra m rc) := by rw [cell_of_row _ _ _ _ _ _ hb2, hUL]; rfl
    have HU := Lib.hid (And.intro hW2 (And.intro hf2 (And.intro hub (And.intro hsz (And.intro hzs hone)))))
    have HCU := Lib.hid cu4
    have HIx := Lib.hid (And.intro hwi (And.intro hi (And.intro hu (And.intro hM hm))))
    have HEL := Lib.hid (And.intro (show ∀ j (hj : j < M.length), W1.rangeAt b3 (f3 + j * 22) (rtC M[j]) from fun j hj => by have := hrg j (by rw [List.length_map]; exact hj); rwa [List.getElem_map] at this) (And.intro hra hel))
    have HMO := Lib.hid (show VOk M by rw [hM]; exact hp0.R who)
    obtain ⟨k, hk⟩ : ∃ k : Bs, k = N.data.toList := ⟨_, rfl⟩
    have hkN : (⟨k.toArray⟩ : ByteArray) = N := by rw [hk]
    have HK := Lib.hid (And.intro hk hkN)
    have hrc2 : rc ≤ 9223372036854775807 := hrc
    have HRC := Lib.hid (And.intro hmrc r2)
    have HC0 := Lib.hid c0
    clear h h1 hu hf1 hb1 hW1 hp0 hr hel hnt hq hM hn hUL hW2 hf2 hb2 hsz hzs hone hlens hwi hrg hra r1 r2 r3 hm hk hkN cu4 hrc hub hz21 hmrc hzz hiz hz1
    rw [← HK.out.1]
    go_enter Try.func40, Try.ntmps40
    go_wp2_with fail
    rw [← zC_lit, ← HW.out.1]
    go_wp2_with (first
      | (go_at_call 48; refine HI.out.mono ?_; rintro e w1 ⟨rfl, hw9⟩; (obtain rfl : W1 = w1 := hw9.symm))
      | (with_reducible refine Go.Proofs.Ytdpaobflknkbkaa.wpList_value rfl (.agg UL.toArray) _ (HLU.out _ _ rfl rfl) ?_; refine stopAt ?_))
    refine Stop.mk ?_
    try simp only [Act.put, List.setIfInBounds_toArray, List.set_cons_succ, List.set_cons_zero]
    refine Go.Proofs.Ytdpaobflknkbkaa.wpList_value rfl _ _ (op_aU _ _ _ rfl) ?_
    try simp only [Act.put, List.setIfInBounds_toArray, List.set_cons_succ, List.set_cons_zero]
    refine Go.Proofs.Ytdpaobflknkbkaa.wpList_store_row rfl 87 (.tmp 8) (.tmp 22) rfl _ UL.toArray zU 87 rfl rfl (heap_alloc_new _ _) HU.out.2.2.2.1 HU.out.2.2.2.2.1 HU.out.2.2.2.2.2 ?_
    try simp only [Act.put]
    rw [← HU.out.1, ← HU.out.2.2.1]
    have cu4 := HCU.out
    go_wp2_with fail
    go_loopw [9] (fun iv wr => ∃ (j : Nat), j ≤ m ∧ iv = .int .i64 j ∧ Hid (Fr (fun _ => False) W2 wr ∧ ∀ t (ht : t < M.length), t < j → M[t].1 ≠ k)) (fun iv _ => m - (intOf iv).toNat)
    case atStart => exact ⟨0, by omega, rfl, Lib.hid ⟨Fr.refl _ _, fun t _ h => absurd h (Nat.not_lt_zero _)⟩⟩
    case round =>
      obtain ⟨j, hj, rfl, HS⟩ := hrel
      have cu4 := HS.out.1.cell HCU.out id
      have hfw : Fr (fun _ => False) W1 wr := HU.out.2.1.trans HS.out.1 (fun _ h => h.elim)
      have HFW := Lib.hid hfw
      have c0 := hfw.cell HC0.out id
      clear hfw
      by_cases hlt : j < m
      · have hjM : j < M.length := by have := HIx.out.2.2.2.2; omega
        obtain ⟨rfl, hFb⟩ := HEL.out.2.1 (by omega)
        have hrx : wr.rangeAt b3 (f3 + j * 22) (rtC M[j]) := Fr.range9 HFW.out (HEL.out.1 j hjM) id
        obtain ⟨x, hx⟩ : ∃ x, x = M[j] := ⟨_, rfl⟩
        rw [← hx] at hrx
        obtain ⟨X, hX⟩ : ∃ X : ByteArray, X = ⟨x.1.toArray⟩ := ⟨_, rfl⟩
        have cx : wr.cell? ⟨b3, f3 + j * 22, none⟩ = some (.string X) := by rw [hX]; exact hrx 0 _ rfl
        have hj64 : (j : Int) < (m : Int) := by omega
        have hXN : (X.toList == N.toList) = decide (x.1 = k) := by rw [hX, ← HK.out.2]; exact bs_str _ _
        have HX := Lib.hid (And.intro hjM (And.intro hx hrx))
        clear hx hX hrx
        by_cases he : x.1 = k
        · rw [decide_eq_true he] at hXN
          have HE := Lib.hid he
          clear he
          obtain ⟨lo, hlo⟩ : ∃ lo, lo = lowE (some ⟨b3, f3, none⟩) (j + 1) rc 22 := ⟨_, rfl⟩
          obtain ⟨L1, hL1⟩ : ∃ L1, L1 = (M.map rtC).take j := ⟨_, rfl⟩
          obtain ⟨L2, hL2⟩ : ∃ L2, L2 = (M.map rtC).drop (j + 1) := ⟨_, rfl⟩
          have hone : ∀ L : List (List Value), (∀ y ∈ L, y ∈ M.map rtC) → ∀ y ∈ L, ∀ v ∈ y, v.oneCell' = true := fun L hL y hy v hv => by
            obtain ⟨p, _, rfl⟩ := List.mem_map.1 (hL y hy)
            exact rtC_one p v hv
          have HLO := Lib.hid hlo
          have HL := Lib.hid (And.intro hL1 hL2)
          have HE1 := Lib.hid (fun W (hW : Fr (fun _ => False) wr W) => (show Elems 22 (fun _ => True) W (.slice (some ⟨b3, f3, none⟩) j rc) L1 from by rw [hL1]; exact ((((HEL.out.2.2).keep HFW.out (fun _ _ _ h => h)).keep hW (fun _ _ _ h => h)).mono (by decide) (fun _ _ _ => trivial)).take (by omega)))
          have HE2 := Lib.hid (fun W (hW : Fr (fun _ => False) wr W) => (show Elems 22 (fun _ => True) W (.slice lo (m - (j + 1)) (rc - (j + 1))) L2 from by rw [hL2, hlo]; exact ((((HEL.out.2.2).keep HFW.out (fun _ _ _ h => h)).keep hW (fun _ _ _ h => h)).mono (by decide) (fun _ _ _ => trivial)).drop (by omega)))
          have HC1 := Lib.hid (hone L1 (fun y hy => by rw [hL1] at hy; exact List.mem_of_mem_take hy))
          have HC2 := Lib.hid (hone L2 (fun y hy => by rw [hL2] at hy; exact List.mem_of_mem_drop hy))
          have hll : L1.length + L2.length ≤ 200 := by
            rw [hL1, hL2, List.length_take, List.length_drop, List.length_map]
            have := HIx.out.2.2.2.2
            omega
          have HN1 := Lib.hid (show ([] : List (List Value)).length + L1.length ≤ 1000000 by simp; omega)
          have HN2 := Lib.hid (show L1.length + L2.length ≤ 1000000 by omega)
          obtain ⟨z, hz⟩ : ∃ z, z = wr.heap.size := ⟨_, rfl⟩
          have HZZ := Lib.hid (show z ≤ wr.heap.size by omega)
          have HZQ := Lib.hid hz.symm
          have HWI := Lib.hid (show who - 1 = (iw : Int) by have := HIx.out.1; omega)
          have HQC := Lib.hid (show j ≤ rc by have := HRC.out.1; omega)
          have HQM := Lib.hid (show j + 1 ≤ m by omega)
          have HIU := Lib.hid (fun W => (by have := idxUs W u 0 n c iw (by omega); rwa [Nat.zero_add] at this : (Instr.indexAt 34 (.slice (some ⟨u, 0, none⟩) n c) (.int .i64 iw)).run Try.prog W = .ok (.pointer (some ⟨u, iw * 6, none⟩)) W))
          have LDG := Lib.hid (fun W (hW : Fr (fun _ => False) wr W) => load_one5 W 34 ⟨g, 0, none⟩ _ (by kernel_rfl) (hW.cell c0 id))
          have LDU := Lib.hid (fun W (hW : Fr (fun _ => False) wr W) => load_one5 W 85 ⟨ub, 4, none⟩ _ (by kernel_rfl) (hW.cell cu4 id))
          have hj9 : (j : Int) ≤ 100 := by omega
          clear hlo hL1 hL2 hone hll hz
          go_wp2_with fail
          refine wp_region_inv 20 (by kernel_rfl) (by kernel_rfl) (fun W => Fr (fun _ => False) wr W) (VrU g u ub n iw j c m rc b3 f3 lo who z L1 L2) (fun _ _ _ _ => True) (ExtE 95 22 z (L1 ++ L2)) (VrU.ext g u ub n iw j c m rc b3 f3 lo who z L1 L2) (Fr.refl _ _).drew ?_ ?_
          · intro i hi o ho
            replace hi : i < 20 := hi
            obtain rfl | rfl | rfl | rfl | rfl | rfl | rfl | rfl | rfl | rfl | rfl | rfl | rfl | rfl | rfl | rfl | rfl | rfl | rfl | rfl : i = 0 ∨ i = 1 ∨ i = 2 ∨ i = 3 ∨ i = 4 ∨ i = 5 ∨ i = 6 ∨ i = 7 ∨ i = 8 ∨ i = 9 ∨ i = 10 ∨ i = 11 ∨ i = 12 ∨ i = 13 ∨ i = 14 ∨ i = 15 ∨ i = 16 ∨ i = 17 ∨ i = 18 ∨ i = 19 := by omega
            · simp only [List.getElem?_cons_zero, Option.some.injEq] at ho
              subst ho
              intro a W vs hB hS hE hU
              refine wpG_plain rfl ?_
              have v0 : a.eval (.tmp 0) = .pointer (some ⟨g, 0, none⟩) := (hU 0 (by kernel_rfl)).trans rfl
              clear hE hU
              exact wp_value_inv (w' := W) (.pointer (some ⟨g, 0, none⟩)) (op_move rfl v0) ⟨_, rfl, hB, ExtE.refl _ _ _ _ _, rfl, fun _ _ _ _ _ => trivial⟩
            · simp only [List.getElem?_cons_zero, List.getElem?_cons_succ, Option.some.injEq] at ho
              subst ho
              intro a W vs hB hS hE hU
              refine wpG_plain rfl ?_
              obtain ⟨r0, e38⟩ := hE 0 38 (by kernel_rfl) (by kernel_rfl)
              have v38 : a.eval (.tmp 38) = .pointer (some ⟨g, 0, none⟩) := e38.trans r0
              clear hE hU
              exact wp_value_inv (w' := W) (.pointer (some ⟨g, 0, none⟩)) (op_nilCheck rfl v38) ⟨_, rfl, hB, ExtE.refl _ _ _ _ _, rfl, fun _ _ _ _ _ => trivial⟩
            · simp only [List.getElem?_cons_zero, List.getElem?_cons_succ, Option.some.injEq] at ho
              subst ho
              intro a W vs hB hS hE hU
              refine wpG_plain rfl ?_
              obtain ⟨r1, e39⟩ := hE 1 39 (by kernel_rfl) (by kernel_rfl)
              have v39 : a.eval (.tmp 39) = .pointer (some ⟨g, 0, none⟩) := e39.trans r1
              clear hE hU
              exact wp_value_inv (w' := W) (.pointer (some ⟨g, 0, none⟩)) (op_fieldAddr rfl v39 (VRu_fld_spence_spenceref14_View_0_0 W g)) ⟨_, rfl, hB, ExtE.refl _ _ _ _ _, rfl, fun _ _ _ _ _ => trivial⟩
            · simp only [List.getElem?_cons_zero, List.getElem?_cons_succ, Option.some.injEq] at ho
              subst ho
              intro a W vs hB hS hE hU
              refine wpG_plain rfl ?_
              obtain ⟨r2, e40⟩ := hE 2 40 (by kernel_rfl) (by kernel_rfl)
              have v40 : a.eval (.tmp 40) = .pointer (some ⟨g, 0, none⟩) := e40.trans r2
              clear hE hU
              exact wp_value_inv (w' := W) (.slice (some ⟨u, 0, none⟩) n c) (op_loadAt rfl v40 (LDG.out W hB)) ⟨_, rfl, hB, ExtE.refl _ _ _ _ _, rfl, fun _ _ _ _ _ => trivial⟩
            · simp only [List.getElem?_cons_zero, List.getElem?_cons_succ, Option.some.injEq] at ho
              subst ho
              intro a W vs hB hS hE hU
              refine wpG_plain rfl ?_
              have v1 : a.eval (.tmp 1) = .int .i64 who := (hU 1 (by kernel_rfl)).trans rfl
              clear hE hU
              exact wp_value_inv (w' := W) (.int .i64 who) (op_move rfl v1) ⟨_, rfl, hB, ExtE.refl _ _ _ _ _, rfl, fun _ _ _ _ _ => trivial⟩
            · simp only [List.getElem?_cons_zero, List.getElem?_cons_succ, Option.some.injEq] at ho
              subst ho
              intro a W vs hB hS hE hU
              refine wpG_plain rfl ?_
              obtain ⟨r4, e42⟩ := hE 4 42 (by kernel_rfl) (by kernel_rfl)
              have v42 : a.eval (.tmp 42) = .int .i64 who := e42.trans r4
              clear hE hU
              exact wp_value_inv (w' := W) (.int .i64 (iw : Nat)) (op_bin rfl v42 rfl rfl (sub_in5 HWI.out (by omega) (by omega))) ⟨_, rfl, hB, ExtE.refl _ _ _ _ _, rfl, fun _ _ _ _ _ => trivial⟩
            · simp only [List.getElem?_cons_zero, List.getElem?_cons_succ, Option.some.injEq] at ho
              subst ho
              intro a W vs hB hS hE hU
              refine wpG_plain rfl ?_
              clear hE hU
              have hfa : Fr (fun _ => False) W (W.alloc (.cells #[] 95)) := (Fr.refl _ _).alloc _
              exact wp_value_inv (w' := W.alloc (.cells #[] 95)) (.slice (some ⟨W.heap.size, 0, none⟩) 0 0) (op_rows (vs := #[]) rfl (by simp) (noneR9 W)) ⟨_, rfl, hB.trans hfa (fun _ h => h.elim), ExtE.quiet hfa, ⟨_, rfl, OwnE.none9 _ _ _ W (Nat.le_trans HZZ.out hB.size)⟩, fun _ _ _ _ _ => trivial⟩
            · simp only [List.getElem?_cons_zero, List.getElem?_cons_succ, Option.some.injEq] at ho
              subst ho
              intro a W vs hB hS hE hU
              refine wpG_plain rfl ?_
              have v8 : a.eval (.tmp 8) = .pointer (some ⟨ub, 0, none⟩) := (hU 8 (by kernel_rfl)).trans rfl
              clear hE hU
              exact wp_value_inv (w' := W) (.pointer (some ⟨ub, 4, none⟩)) (op_fieldAddr rfl v8 (VRu_fld_spence_spenceref14_User_1_0 W ub)) ⟨_, rfl, hB, ExtE.refl _ _ _ _ _, rfl, fun _ _ _ _ _ => trivial⟩
            · simp only [List.getElem?_cons_zero, List.getElem?_cons_succ, Option.some.injEq] at ho
              subst ho
              intro a W vs hB hS hE hU
              refine wpG_plain rfl ?_
              obtain ⟨r7, e45⟩ := hE 7 45 (by kernel_rfl) (by kernel_rfl)
              have v45 : a.eval (.tmp 45) = .pointer (some ⟨ub, 4, none⟩) := e45.trans r7
              clear hE hU
              exact wp_value_inv (w' := W) (.slice (some ⟨b3, f3, none⟩) m rc) (op_loadAt rfl v45 (LDU.out W hB)) ⟨_, rfl, hB, ExtE.refl _ _ _ _ _, rfl, fun _ _ _ _ _ => trivial⟩
            · simp only [List.getElem?_cons_zero, List.getElem?_cons_succ, Option.some.injEq] at ho
              subst ho
              intro a W vs hB hS hE hU
              refine wpG_plain rfl ?_
              have v9 : a.eval (.tmp 9) = .int .i64 (j : Nat) := (hU 9 (by kernel_rfl)).trans rfl
              clear hE hU
              exact wp_value_inv (w' := W) (.int .i64 (j : Nat)) (op_move rfl v9) ⟨_, rfl, hB, ExtE.refl _ _ _ _ _, rfl, fun _ _ _ _ _ => trivial⟩
            · simp only [List.getElem?_cons_zero, List.getElem?_cons_succ, Option.some.injEq] at ho
              subst ho
              intro a W vs hB hS hE hU
              refine wpG_plain rfl ?_
              obtain ⟨r8, e46⟩ := hE 8 46 (by kernel_rfl) (by kernel_rfl)
              have v46 : a.eval (.tmp 46) = .slice (some ⟨b3, f3, none⟩) m rc := e46.trans r8
              obtain ⟨r9, e47⟩ := hE 9 47 (by kernel_rfl) (by kernel_rfl)
              have v47 : a.eval (.tmp 47) = .int .i64 (j : Nat) := e47.trans r9
              clear hE hU
              exact wp_value_inv (w' := W) (.slice (some ⟨b3, f3, none⟩) j rc) (op_slice_h9 rfl v46 v47 (headR9 W _ _ _ _ HQC.out)) ⟨_, rfl, hB, ExtE.refl _ _ _ _ _, rfl, fun _ _ _ _ _ => trivial⟩
            · simp only [List.getElem?_cons_zero, List.getElem?_cons_succ, Option.some.injEq] at ho
              subst ho
              intro a W vs hB hS hE hU
              refine wpG_plain rfl ?_
              obtain ⟨r10, e48⟩ := hE 10 48 (by kernel_rfl) (by kernel_rfl)
              have v48 : a.eval (.tmp 48) = .slice (some ⟨b3, f3, none⟩) j rc := e48.trans r10
              skip
              obtain ⟨r6, e6⟩ := hE 6 44 (by kernel_rfl) (by kernel_rfl)
              obtain ⟨b9, hb9, ho9⟩ := r6
              obtain ⟨v', w', hr, ho, hf, hf0, hp⟩ := run_append_ek Try.underlying85 infoR9 rtZ9 (by decide) (by decide) W _ (vs 6) _ [] L1 ho9 (HE1.out W hB) HC1.out (Nat.le_trans HZZ.out hB.size) HN1.out
              have hff := hf0 ⟨_, 0, hb9⟩
              rw [List.nil_append] at ho
              exact wp_value_inv (w' := w') v' (op_append9 rfl e6 v48 hr) ⟨_, rfl, hB.trans hff (fun _ h => h.elim), ExtE.quiet hff, ho, fun _ _ _ _ _ => trivial⟩
            · simp only [List.getElem?_cons_zero, List.getElem?_cons_succ, Option.some.injEq] at ho
              subst ho
              intro a W vs hB hS hE hU
              refine wpG_plain rfl ?_
              have v8 : a.eval (.tmp 8) = .pointer (some ⟨ub, 0, none⟩) := (hU 8 (by kernel_rfl)).trans rfl
              clear hE hU
              exact wp_value_inv (w' := W) (.pointer (some ⟨ub, 4, none⟩)) (op_fieldAddr rfl v8 (VRu_fld_spence_spenceref14_User_1_0 W ub)) ⟨_, rfl, hB, ExtE.refl _ _ _ _ _, rfl, fun _ _ _ _ _ => trivial⟩
            · simp only [List.getElem?_cons_zero, List.getElem?_cons_succ, Option.some.injEq] at ho
              subst ho
              intro a W vs hB hS hE hU
              refine wpG_plain rfl ?_
              obtain ⟨r12, e50⟩ := hE 12 50 (by kernel_rfl) (by kernel_rfl)
              have v50 : a.eval (.tmp 50) = .pointer (some ⟨ub, 4, none⟩) := e50.trans r12
              clear hE hU
              exact wp_value_inv (w' := W) (.slice (some ⟨b3, f3, none⟩) m rc) (op_loadAt rfl v50 (LDU.out W hB)) ⟨_, rfl, hB, ExtE.refl _ _ _ _ _, rfl, fun _ _ _ _ _ => trivial⟩
            · simp only [List.getElem?_cons_zero, List.getElem?_cons_succ, Option.some.injEq] at ho
              subst ho
              intro a W vs hB hS hE hU
              refine wpG_plain rfl ?_
              have v9 : a.eval (.tmp 9) = .int .i64 (j : Nat) := (hU 9 (by kernel_rfl)).trans rfl
              clear hE hU
              exact wp_value_inv (w' := W) (.int .i64 (j : Nat)) (op_move rfl v9) ⟨_, rfl, hB, ExtE.refl _ _ _ _ _, rfl, fun _ _ _ _ _ => trivial⟩
            · simp only [List.getElem?_cons_zero, List.getElem?_cons_succ, Option.some.injEq] at ho
              subst ho
              intro a W vs hB hS hE hU
              refine wpG_plain rfl ?_
              obtain ⟨r14, e52⟩ := hE 14 52 (by kernel_rfl) (by kernel_rfl)
              have v52 : a.eval (.tmp 52) = .int .i64 (j : Nat) := e52.trans r14
              clear hE hU
              exact wp_value_inv (w' := W) (.int .i64 ((j + 1 : Nat) : Int)) (op_bin rfl v52 rfl rfl (add_in5 (by omega) (by omega) (by omega))) ⟨_, rfl, hB, ExtE.refl _ _ _ _ _, rfl, fun _ _ _ _ _ => trivial⟩
            · simp only [List.getElem?_cons_zero, List.getElem?_cons_succ, Option.some.injEq] at ho
              subst ho
              intro a W vs hB hS hE hU
              refine wpG_plain rfl ?_
              obtain ⟨r13, e51⟩ := hE 13 51 (by kernel_rfl) (by kernel_rfl)
              have v51 : a.eval (.tmp 51) = .slice (some ⟨b3, f3, none⟩) m rc := e51.trans r13
              obtain ⟨r15, e53⟩ := hE 15 53 (by kernel_rfl) (by kernel_rfl)
              have v53 : a.eval (.tmp 53) = .int .i64 ((j + 1 : Nat) : Int) := e53.trans r15
              clear hE hU
              exact wp_value_inv (w' := W) (.slice lo (m - (j + 1)) (rc - (j + 1))) (op_slice_l9 rfl v51 v53 ((tailR9 W _ _ _ _ HQM.out).trans (by rw [← HLO.out]))) ⟨_, rfl, hB, ExtE.refl _ _ _ _ _, rfl, fun _ _ _ _ _ => trivial⟩
            · simp only [List.getElem?_cons_zero, List.getElem?_cons_succ, Option.some.injEq] at ho
              subst ho
              intro a W vs hB hS hE hU
              refine wpG_plain rfl ?_
              obtain ⟨r16, e54⟩ := hE 16 54 (by kernel_rfl) (by kernel_rfl)
              have v54 : a.eval (.tmp 54) = .slice lo (m - (j + 1)) (rc - (j + 1)) := e54.trans r16
              skip
              obtain ⟨r11, e11⟩ := hE 11 49 (by kernel_rfl) (by kernel_rfl)
              obtain ⟨v', w', hr, ho, hf, hf0, hp⟩ := run_append_ek Try.underlying85 infoR9 rtZ9 (by decide) (by decide) W _ (vs 11) _ L1 L2 r11 (HE2.out W hB) HC2.out (Nat.le_trans HZZ.out hB.size) HN2.out
              exact wp_value_inv (w' := w') v' (op_append9 rfl e11 v54 hr) ⟨_, rfl, hB.trans hf (fun b hb => .inr (by rw [HZQ.out]; exact (r11.own b hb).1)), hp, ho, fun _ _ _ _ _ => trivial⟩
            · simp only [List.getElem?_cons_zero, List.getElem?_cons_succ, Option.some.injEq] at ho
              subst ho
              intro a W vs hB hS hE hU
              refine wpG_plain rfl ?_
              obtain ⟨r3, e41⟩ := hE 3 41 (by kernel_rfl) (by kernel_rfl)
              have v41 : a.eval (.tmp 41) = .slice (some ⟨u, 0, none⟩) n c := e41.trans r3
              obtain ⟨r5, e43⟩ := hE 5 43 (by kernel_rfl) (by kernel_rfl)
              have v43 : a.eval (.tmp 43) = .int .i64 (iw : Nat) := e43.trans r5
              clear hE hU
              exact wp_value_inv (w' := W) (.pointer (some ⟨u, iw * 6, none⟩)) (op_indexAddr rfl v41 v43 (HIU.out W)) ⟨_, rfl, hB, ExtE.refl _ _ _ _ _, rfl, fun _ _ _ _ _ => trivial⟩
            · simp only [List.getElem?_cons_zero, List.getElem?_cons_succ, Option.some.injEq] at ho
              subst ho
              intro a W vs hB hS hE hU
              refine wpG_plain rfl ?_
              obtain ⟨r18, e56⟩ := hE 18 56 (by kernel_rfl) (by kernel_rfl)
              have v56 : a.eval (.tmp 56) = .pointer (some ⟨u, iw * 6, none⟩) := e56.trans r18
              clear hE hU
              exact wp_value_inv (w' := W) (.pointer (some ⟨u, iw * 6 + 4, none⟩)) (op_fieldAddr rfl v56 (fldU4 W u (iw * 6))) ⟨_, rfl, hB, ExtE.refl _ _ _ _ _, rfl, fun _ _ _ _ _ => trivial⟩
          · intro vs Wz hB0 hR0 hD
            have H17 := Lib.hid (show OwnE 95 22 z Wz (vs 17) (L1 ++ L2) from hR0 17 (by decide))
            obtain ⟨a7, c7, hv7⟩ := OwnE.form H17.out
            have r57 : vs 19 = .pointer (some ⟨u, iw * 6 + 4, none⟩) := hR0 19 (by decide)
            have HZ := Lib.hid hB0
            clear hR0 hD hB0
            simp only [acts, if_true, dstAt, List.getElem?_cons_zero, List.getElem?_cons_succ, Option.bind_some, Act.put, List.setIfInBounds_toArray, List.set_cons_succ, List.set_cons_zero, List.drop_succ_cons]
            simp only [r57]
            clear r57
            obtain ⟨n7, hn7⟩ : ∃ n7, n7 = (L1 ++ L2).length := ⟨_, rfl⟩
            rw [← hn7] at hv7
            simp only [hv7]
            have ho7 : OwnE 95 22 z Wz (.slice a7 n7 c7) (L1 ++ L2) := by rw [← hv7]; exact H17.out
            have hLL : L1 ++ L2 = (vDel M k).map rtC := by
              rw [HL.out.1, HL.out.2, ← List.map_take, ← List.map_drop, ← List.map_append, vDel_at (k := k) HMO.out HX.out.1 (by rw [← HX.out.2.1]; exact HE.out)]
            rw [hLL] at ho7
            have hgt : vGet M k = some x.2 := by
              rw [HX.out.2.1]
              exact vGet_at HMO.out HX.out.1 (by rw [← HX.out.2.1]; exact HE.out)
            have hfW : Fr (fun _ => False) W1 Wz := HFW.out.trans HZ.out (fun _ h => h.elim)
            have hiL := HIx.out.2.1
            have hfin := H0.out.putR hfW hiL (M := vDel M k) (ho7.lower (by rw [HZQ.out.symm]; exact HFW.out.size))
            rw [← HIx.out.1] at hfin
            obtain ⟨rv9, nv9, l9, e9, _⟩ := (H0.out.us iw hiL).ex
            obtain ⟨cs9, hb9⟩ := H0.out.blk
            have hcl9 := hfW.cell (e9 4 rv9 rfl) id
            have hfz9 : Wz.frozen? ⟨u, iw * 6 + 4, none⟩ = false := frozen_of_row _ _ _ _ _ (hfW.heap hb9 id)
            have hun : u < w.heap.size := HW.out.2.2.2.lt.2
            have hgn : g < w.heap.size := HW.out.2.2.2.lt.1
            have hub : w.heap.size < ub := by
              rw [HU.out.2.2.1, HW.out.1]
              simp
            have hbu : b3 ≠ u := fun e => HW.out.2.2.2.sep.2.2 (by rw [← e]; exact hFb)
            obtain ⟨W9, hW9⟩ : ∃ W9, W9 = Wz.setCell ⟨u, iw * 6 + 4, none⟩ (.slice a7 n7 c7) := ⟨_, rfl⟩
            have hf9 : Fr (fun k => k = u) Wz W9 := by rw [hW9]; exact Fr.cell1 Wz u _ _
            have cz4 := hf9.cell (HZ.out.cell cu4 id) (show ¬ ub = u by omega)
            have hrz := Fr.range9 hf9 (Fr.range9 HZ.out HX.out.2.2 id) hbu
            have hbz := hf9.heap (hfW.heap HW.out.2.2.1 id) (show ¬ w.heap.size = u by omega)
            obtain ⟨PL, hPL⟩ : ∃ PL, PL = pathC x.2.h x.2.n := ⟨_, rfl⟩
            have hrp : W9.rangeAt b3 (f3 + j * 22 + 1) (cellsX x.2) := fun t v hv => by
              have := hrz (t + 1) v (by rw [rtC, List.getElem?_cons_succ]; exact hv)
              rwa [show f3 + j * 22 + (t + 1) = f3 + j * 22 + 1 + t by omega] at this
            have hldp := root_path hrp
            rw [← hPL] at hldp
            have hps : PL.size = 21 := by rw [hPL]; exact pathC_size _ x.2.hl _
            have hp1 : PL.all (·.oneCell') = true := by rw [hPL]; exact pathC_one _ _
            have HPP := Lib.hid (And.intro (show (Try.prog.info? 43).map (·.size) = some PL.size by rw [hps]; kernel_rfl) (And.intro (show zC.size = PL.size by rw [hps]; exact pathC_size _ rfl _) (And.intro hp1 hbz)))
            rw [hW9] at cz4 hldp
            have HLP := Lib.hid (fun (oo : Oper) (a : Act) (e1 : oo.op = .load 43 (.tmp 62)) (e2 : a.eval (.tmp 62) = .pointer (some ⟨b3, f3 + j * 22 + 1, none⟩)) => op_loadAt e1 e2 hldp)
            have HFN := Lib.hid (And.intro hfin.1 (And.intro hfin.2 (And.intro hgt (And.intro hPL (And.intro hW9 (And.intro hun (And.intro hgn hub)))))))
            have HH9 := Lib.hid (And.intro hf9 hfW)
            clear ho7 hLL hgt hfin e9 hb9 hf9 hrz hbz hPL hrp hldp hps hp1 hW9 hn7 hv7 H17 hiL hfW hbu hFb hub hun hgn
            go_wp2_with (first
              | (with_reducible refine Go.Proofs.Ytdpaobflknkbkaa.wpList_value rfl (.agg PL) _ (HLP.out _ _ rfl rfl) ?_; refine stopAt ?_))
            refine Stop.mk ?_
            try simp only [Act.put, List.setIfInBounds_toArray, List.set_cons_succ, List.set_cons_zero]
            rw [← HFN.out.2.2.2.2.1]
            refine Go.Proofs.Ytdpaobflknkbkaa.wpList_store_row rfl 43 (.tmp 6) (.tmp 63) rfl w.heap.size PL zC 43 rfl rfl HPP.out.2.2.2 HPP.out.1 HPP.out.2.1 HPP.out.2.2.1 ?_
            try simp only [Act.put]
            go_wp2_with fail
            have hE0 : unrootE s who k = 0 := by unfold unrootE; rw [if_pos HIx.out.2.2.1, ← HIx.out.2.2.2.1, HFN.out.2.2.1]; rfl
            have hS0 : unrootS s who k = s.setR who (vDel M k) := by unfold unrootS; rw [hE0, if_pos rfl, ← HIx.out.2.2.2.1]
            have hP0 : unrootP s who k = .agg PL := by unfold unrootP; rw [if_pos HIx.out.2.2.1, ← HIx.out.2.2.2.1, HFN.out.2.2.1, HFN.out.2.2.2.1]
            refine bodyPost_ret (results_cell_row_tmp rfl _ _ w.heap.size 43 PL (0, 0) _ rfl (setRow_heap _ _ _ _ _ _ HPP.out.2.2.2) Try.underlying43 rfl HPP.out.1) rfl ⟨by rw [hE0, hP0]; rfl, ?_, ?_⟩
            · rw [hS0]
              have hs1 := HW.out.2.1.size
              have hsz1 : W1.heap.size = w.heap.size + 1 := by rw [HW.out.1]; simp
              have h9 := HFN.out.1
              rw [← HFN.out.2.2.2.2.1] at h9
              have hfr9 : Fr (fun k => k = w.heap.size) W9 (W9.setRow w.heap.size PL) := (Fr.refl (fun k => k = w.heap.size) W9).setRow (.inl rfl) _
              have hz9 := HH9.out.1.size
              have hz8 := HH9.out.2.size
              refine (h9.keep hfr9 (fun e => by have := HFN.out.2.2.2.2.2.2.1; omega) (fun e => by have := HFN.out.2.2.2.2.2.1; omega) (fun k _ hk e => ?_)).wider (fun k hkk hk => ?_) (fun hg => ?_) (fun hg => ?_)
              · rcases hk with hk | hk
                · have := hk.2; omega
                · omega
              · rcases hk with hk | hk
                · exact .inl hk.1
                · exact .inr ⟨by omega, hkk⟩
              · rcases hg with hg | hg
                · exact HW.out.2.2.2.sep.2.1 hg
                · have := HFN.out.2.2.2.2.2.2.1; omega
              · rcases hg with hg | hg
                · exact HW.out.2.2.2.sep.2.2 hg
                · have := HFN.out.2.2.2.2.2.1; omega
            · have h9 := HFN.out.2.1
              rw [← HFN.out.2.2.2.2.1] at h9
              exact ((HW.out.2.1.mono (T := fun k => k = u) (fun _ _ h => h.elim)).trans h9 (fun k hk => .inl hk)).setRow (.inr (Nat.le_refl _)) _
        · rw [decide_eq_false he] at hXN
          have HE := Lib.hid he
          clear he
          go_wp2_with fail
          go_roundw
          case rel => exact ⟨j + 1, by omega, by go_num, Lib.hid ⟨HS.out.1, fun t ht htj => by
            by_cases e : t = j
            · subst e
              rw [← HX.out.2.1]
              exact HE.out
            · exact HS.out.2 t ht (by omega)⟩⟩
          case measure => simp [intOf]; omega
      · have hjm : j = m := by omega
        subst hjm
        have hg0 : vGet M k = none := vGet_no (fun t ht => HS.out.2 t ht (by have := HIx.out.2.2.2.2; omega))
        have hE5 : unrootE s who k = 5 := by unfold unrootE; rw [if_pos HIx.out.2.2.1, ← HIx.out.2.2.2.1, hg0]; rfl
        have hS5 : unrootS s who k = s := by unfold unrootS; rw [hE5, if_neg (by decide)]
        have hP5 : unrootP s who k = zR := by unfold unrootP; rw [if_pos HIx.out.2.2.1, ← HIx.out.2.2.2.1, hg0]
        have HES := Lib.hid (And.intro hE5 (And.intro hS5 hP5))
        have HBB := Lib.hid (HFW.out.heap HW.out.2.2.1 id)
        clear hg0 hE5 hS5 hP5
        go_wp2_with (first
          | (with_reducible refine Go.Proofs.Ytdpaobflknkbkaa.wpList_store_row rfl 43 (.tmp 6) (.tmp 64) rfl w.heap.size zL zC 43 rfl rfl HBB.out HZP.out.2.1 HZP.out.1 HZP.out.2.2 ?_))
        refine bodyPost_ret (results_cell_row_tmp rfl _ _ w.heap.size 43 zL (0, 0) _ rfl (setRow_heap _ _ _ _ _ _ HBB.out) Try.underlying43 rfl HZP.out.2.1) rfl ⟨by rw [HES.out.1, HES.out.2.2, show zR = .agg zL from congrArg Value.agg zL_zC.symm]; rfl, ?_, ?_⟩
        · rw [HES.out.2.1]
          exact HW.out.2.2.2.newF ((HW.out.2.1.trans HFW.out (fun _ h => h.elim)).setRow (.inr (Nat.le_refl _)) _)
        · exact ((HW.out.2.1.trans HFW.out (fun _ h => h.elim)).setRow (.inr (Nat.le_refl _)) _).mono (fun _ _ h => h.elim)
  · have HI := Lib.hid (is_no h1 who hu)
    have hE : unrootE s who N.data.toList = 18 := by unfold unrootE; rw [if_neg hu]
    have hS : unrootS s who N.data.toList = s := by unfold unrootS; rw [hE, if_neg (by decide)]
    have hP : unrootP s who N.data.toList = zR := by unfold unrootP; rw [if_neg hu]
    rw [hS, hE, hP]
    clear h h1 hu hE hS hP hf1 hb1 hW1 hp0 hz21 hzz hiz hz1
    go_enter Try.func40, Try.ntmps40
    go_wp2_with fail
    rw [← zC_lit, ← HW.out.1]
    go_wp2_with (first
      | (go_at_call 48; refine HI.out.mono ?_; rintro e w1 ⟨rfl, hw9⟩; (obtain rfl : W1 = w1 := hw9.symm))
      | (with_reducible refine Go.Proofs.Ytdpaobflknkbkaa.wpList_store_row rfl 43 (.tmp 6) (.tmp 14) rfl w.heap.size zL zC 43 rfl rfl HW.out.2.2.1 HZP.out.2.1 HZP.out.1 HZP.out.2.2 ?_))
    refine bodyPost_ret (results_cell_row_tmp rfl _ _ w.heap.size 43 zL (0, 0) _ rfl (setRow_heap _ _ _ _ _ _ HW.out.2.2.1) Try.underlying43 rfl HZP.out.2.1) rfl ⟨by rw [show zR = .agg zL from congrArg Value.agg zL_zC.symm]; rfl, ?_, ?_⟩
    · exact HW.out.2.2.2.newF (HW.out.2.1.setRow (.inr (Nat.le_refl _)) _)
    · exact (HW.out.2.1.setRow (.inr (Nat.le_refl _)) _).mono (fun _ _ h => h.elim)
end
end Go.Proofs.Ytdpaobflknkbkaa
