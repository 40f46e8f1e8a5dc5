/- Laid together: VRo -/
import Derived.Test.YtdpaobflknkbkaaVe23
import Derived.Deep.DeepCutAuto

namespace Go.Proofs.Ytdpaobflknkbkaa
open Go.RowKit Go.ChangeShapes
set_option linter.unusedVariables false
structure InsAt (T : TypeId) (k : Nat) (W0 wr : World) (cs : List (List Value)) (a : Option Addr) (c : Nat) : Prop where
  own : OwnE T k W0.heap.size wr (.slice a cs.length c) cs
  fr : Fr (fun _ => False) W0 wr
theorem newF_set (F : Nat → Prop) (w w' : World) (p : Addr) (v : Value) : newF F w (w'.setCell p v) = newF F w w' := by
  funext k
  simp [newF]
theorem InsAt.of {T : TypeId} {k : Nat} {W0 w' : World} {css : List (List Value)} {x : List Value} {a : Option Addr} {c' : Nat} (ho : OwnE T k W0.heap.size w' (.slice a (css.length + 1) c') (css ++ [x])) (hf : Fr (fun _ => False) W0 w') : InsAt T k W0 w' (css ++ [x]) a c' :=
  ⟨by rw [List.length_append]; exact ho, hf⟩
theorem put_most {α : Type} {M : VT α} (hM : VOk M) {k : Bs} {v : α} {r : Int} (hc : (M.length : Int) ≤ r) : r < ((vPut M k v).length : Int) ↔ (vGet M k = none ∧ r ≤ (M.length : Int)) := by
  rw [vPut_len hM]
  cases hg : vGet M k with
  | none => simp; omega
  | some x => simp; omega
section
variable {F : Nat → Prop} {w : World} {g u : Nat} {s : VS}
set_option maxRecDepth 100000
set_option maxHeartbeats 4000000
theorem rroot_any (h : RvAt F w g u s) (hp0 : Pl s) (who : Int) (N : ByteArray) (hN : N.size ≤ 140737488351232) (p : PathX) (hp : p.n.size ≤ 140737488351232) : Calls Try.prog 47 #[.pointer (some ⟨g, 0, none⟩), .int .i64 who, .string N, .agg (pathC p.h p.n)] w fun e w' => e = .returned (.int .i64 (rootE s who N.data.toList p)) ∧ RvAt (newF F w w') w' g u (rootS s who N.data.toList p) ∧ Fr (fun k => k = u) w w' := by
  obtain ⟨CL, hCL⟩ : ∃ CL, CL = cellsX p := ⟨_, rfl⟩
  have hCC : pathC p.h p.n = CL.toArray := by rw [hCL]; exact (cellsX_C _).symm
  have hCs : CL.length = 21 := by rw [hCL]; exact cellsX_length _
  have hC20 : CL.toArray[20]? = some (.string p.n) := by rw [← hCC]; exact pathC_name p.h p.hl p.n
  rw [hCC]
  obtain ⟨W1, hW1⟩ : ∃ W1, W1 = w.alloc (.cells CL.toArray 43) := ⟨_, rfl⟩
  have hf1 : Fr (fun _ => False) w W1 := by rw [hW1]; exact (Fr.refl _ _).alloc _
  have hb1 : W1.heap[w.heap.size]? = some (.cells CL.toArray 43 (0, 0)) := by rw [hW1]; exact heap_alloc_new w _
  have h1 := h.quiet hf1
  have cn : W1.cell? ⟨w.heap.size, 20, none⟩ = some (.string p.n) := by rw [cell_of_row _ _ _ _ _ _ hb1]; exact hC20
  have HW := Lib.hid (And.intro hW1 (And.intro hf1 (And.intro hb1 h)))
  have HN1 := Lib.hid (fun W => rName_any N hN W)
  have HN2 := Lib.hid (fun W => rName_any p.n hp W)
  have HP0 := Lib.hid (And.intro hp0 (And.intro hCL hCs))
  by_cases hu : isUser s who
  · have HI := Lib.hid (is_yes h1 who hu)
    cases hn1 : nameB N.data.toList with
    | false =>
      have hE : rootE s who N.data.toList p = 2 := by unfold rootE; rw [if_pos hu, if_neg (fun h => by rw [hn1] at h; cases h.1)]
      have hS : rootS s who N.data.toList p = s := by unfold rootS; rw [hE, if_neg (by decide)]
      rw [hn1] at HN1
      rw [hS, hE]
      clear h h1 hu hE hS hf1 hb1 hW1 hCL hCC hCs hC20 cn hn1 hp0
      go_enter Try.func47, Try.ntmps47
      go_wp2_with fail
      rw [← HW.out.1]
      go_wp2_with (first
        | (go_at_call 48; refine HI.out.mono ?_; rintro e w1 ⟨rfl, hw9⟩; (obtain rfl : W1 = w1 := hw9.symm))
        | (go_at_call 70; with_reducible refine (HN1.out _).mono ?_; rintro e w2 ⟨rfl, rfl⟩))
      go_ret
      exact ⟨rfl, HW.out.2.2.2.newF HW.out.2.1, HW.out.2.1.mono (fun _ _ h => h.elim)⟩
    | true =>
      rw [hn1] at HN1
      have HNT := Lib.hid hn1
      cases hn2 : nameB p.n.data.toList with
      | false =>
        have hE : rootE s who N.data.toList p = 2 := by unfold rootE; rw [if_pos hu, if_neg (fun h => by rw [hn2] at h; cases h.2)]
        have hS : rootS s who N.data.toList p = s := by unfold rootS; rw [hE, if_neg (by decide)]
        rw [hn2] at HN2
        rw [hS, hE]
        clear h h1 hu hE hS hf1 hb1 hW1 hCL hCC hCs hC20 hn1 hn2 hp0
        go_enter Try.func47, Try.ntmps47
        go_wp2_with fail
        rw [← HW.out.1]
        go_wp2_with (first
          | (go_at_call 48; refine HI.out.mono ?_; rintro e w1 ⟨rfl, hw9⟩; (obtain rfl : W1 = w1 := hw9.symm))
          | (go_at_call 70; with_reducible refine (HN1.out _).mono ?_; rintro e w2 ⟨rfl, rfl⟩)
          | (go_at_call 70; with_reducible refine (HN2.out _).mono ?_; rintro e w2 ⟨rfl, rfl⟩))
        go_ret
        exact ⟨rfl, HW.out.2.2.2.newF HW.out.2.1, HW.out.2.1.mono (fun _ _ h => h.elim)⟩
      | true =>
        rw [hn2] at HN2
        obtain ⟨i, hwi, hi⟩ := user_at hu
        have hE : rootE s who N.data.toList p = (if vGet (s.R who) N.data.toList = none ∧ s.Q[i].r ≤ ((s.R who).length : Int) then 8 else 0) := by
          unfold rootE
          rw [if_pos hu, if_pos ⟨hn1, hn2⟩, hwi, quota_at hi]
        obtain ⟨c, r1, r2, r3⟩ := h1.row
        have c0 := cell_of_one r1
        obtain ⟨rv, nv, l, hr, hel, hnt, _⟩ := (h1.us i hi).ex
        rw [← hwi] at hel
        obtain ⟨M, hM⟩ : ∃ M, M = s.R who := ⟨_, rfl⟩
        rw [← hM] at hel hE
        obtain ⟨ra, rc, rfl⟩ : ∃ ra rc, rv = .slice ra M.length rc := by
          obtain ⟨ao, cap, hv, _⟩ := hel
          exact ⟨ao, cap, by rw [hv, List.length_map]⟩
        obtain ⟨na, nn, nc, rfl⟩ : ∃ na nn nc, nv = .slice na nn nc := by
          obtain ⟨ao, cap, hv, _⟩ := hnt.el
          exact ⟨ao, _, cap, hv⟩
        obtain ⟨_, _, hrc, b3, f3, hra, hrg⟩ := hel.rng
        obtain ⟨n, hn⟩ : ∃ n, n = s.Q.length := ⟨_, rfl⟩
        obtain ⟨m, hm⟩ : ∃ m, m = M.length := ⟨_, rfl⟩
        obtain ⟨q, hq⟩ : ∃ q, q = s.Q[i] := ⟨_, rfl⟩
        rw [← hn] at c0 r1
        rw [← hm] at hra hr hel
        rw [← hq] at hr hE
        have hlens := hp0.lens hi
        rw [← hwi, ← hM, ← hm] at hlens
        have hm100 : m ≤ 100 := hlens.1
        have hi2 : (i : Int) < (n : Int) := by omega
        have hw1 : IntKind.i64.wrap (who - 1) = (i : Int) := by rw [show (who - 1) = (i : Int) by omega]; exact wrap_in5 (by omega) (by omega)
        have hi0 : (0 : Int) ≤ (i : Int) := by omega
        obtain ⟨UL, hUL⟩ : ∃ UL, UL = usL q (.slice ra m rc) (.slice na nn nc) := ⟨_, rfl⟩
        have HLU := Lib.hid (fun (oo : Oper) (a : Act) (e1 : oo.op = .load 87 (.tmp 32)) (e2 : a.eval (.tmp 32) = .pointer (some ⟨u, i * 6, none⟩)) => op_loadAt e1 e2 (load_us hr))
        have hsz := szU q (.slice ra m rc) (.slice na nn nc)
        have hone := oneU q ra na m nn rc nc
        rw [← hUL] at HLU hsz hone
        have hzs : zU.size = UL.toArray.size := by rw [hUL]; rfl
        obtain ⟨W2, hW2⟩ : ∃ W2, W2 = (W1.alloc (.cells zU 87)).setRow W1.heap.size UL.toArray := ⟨_, rfl⟩
        have hf2 : Fr (fun _ => False) W1 W2 := by rw [hW2]; exact ((Fr.refl _ _).alloc _).setRow (.inr (Nat.le_refl _)) _
        have hb2 : W2.heap[W1.heap.size]? = some (.cells UL.toArray 87 (0, 0)) := by rw [hW2]; exact setRow_heap _ _ _ _ _ _ (heap_alloc_new W1 _)
        obtain ⟨ub, hub⟩ : ∃ ub, ub = W1.heap.size := ⟨_, rfl⟩
        rw [← hub] at hb2
        have cu4 : W2.cell? ⟨ub, 4, none⟩ = some (.slice ra m rc) := by rw [cell_of_row _ _ _ _ _ _ hb2, hUL]; rfl
        have cu2 : W2.cell? ⟨ub, 2, none⟩ = some (.int .i64 q.r) := by rw [cell_of_row _ _ _ _ _ _ hb2, hUL]; rfl
        have HU := Lib.hid (And.intro hW2 (And.intro hf2 (And.intro hub (And.intro hsz (And.intro hzs hone)))))
        have HCU := Lib.hid (And.intro cu4 cu2)
        have HIx := Lib.hid (And.intro hwi (And.intro hi (And.intro hu (And.intro hM (And.intro hq hm)))))
        have HE := Lib.hid hE
        have HEL := Lib.hid (And.intro (show ∀ j (hj : j < M.length), w.heap.size ≤ w.heap.size ∧ W1.rangeAt b3 (f3 + j * 22) (rtC M[j]) from fun j hj => ⟨Nat.le_refl _, by have := hrg j (by rw [List.length_map]; exact hj); rwa [List.getElem_map] at this⟩) hra)
        have HLP := Lib.hid (fun W (hW : Fr (fun _ => False) W1 W) (oo : Oper) (a : Act) (e1 : oo.op = .load 43 (.tmp 7)) (e2 : a.eval (.tmp 7) = .pointer (some ⟨w.heap.size, 0, none⟩)) => op_loadAt e1 e2 (ldX (w := W1) hb1 (by simp [hCs]) W hW))
        have HBD := Lib.hid (fun W (oo : Oper) (a : Act) (x y : Operand) (e1 : oo.op = .build 95 #[(0, x), (1, y)]) (e2 : a.eval x = .string N) (e3 : a.eval y = .agg CL.toArray) => rootR_build (w := W) hCs e1 e2 e3)
        obtain ⟨k, hk⟩ : ∃ k : Bs, k = N.data.toList := ⟨_, rfl⟩
        have hkN : (⟨k.toArray⟩ : ByteArray) = N := by rw [hk]
        have hkv : Value.string N :: CL = rtC (k, p) := by rw [hCL, ← hkN]; rfl
        obtain ⟨cK, hcK⟩ : ∃ cK, cK = Value.string N :: CL := ⟨_, rfl⟩
        rw [← hcK] at HBD hkv
        have hcKl : cK.length = 22 := by rw [hcK, List.length_cons, hCs]
        have HK := Lib.hid (And.intro hk (And.intro hkN (And.intro hkv (And.intro hcKl (show ∀ x ∈ cK, x.oneCell' = true by rw [hkv]; exact rtC_one _)))))
        have hrc2 : rc ≤ 9223372036854775807 := hrc
        clear h h1 hu hE hf1 hb1 hW1 hCL hCC hCs hC20 hn1 hn2 hp0 hr hel hnt hq hM hn hUL hW2 hf2 hb2 hsz hzs hone hlens hwi hrg hra r1 r2 r3 hm hk hkN hkv hcK hcKl cu4 cu2 hrc hub
        rw [← HK.out.1] at HE ⊢
        go_enter Try.func47, Try.ntmps47
        go_wp2_with fail
        rw [← HW.out.1]
        go_wp2_with (first
          | (go_at_call 48; refine HI.out.mono ?_; rintro e w1 ⟨rfl, hw9⟩; (obtain rfl : W1 = w1 := hw9.symm))
          | (go_at_call 70; with_reducible refine (HN1.out _).mono ?_; rintro e w2 ⟨rfl, rfl⟩)
          | (go_at_call 70; with_reducible refine (HN2.out _).mono ?_; rintro e w2 ⟨rfl, rfl⟩)
          | (with_reducible refine Go.Proofs.Ytdpaobflknkbkaa.wpList_value rfl (.agg UL.toArray) _ (HLU.out _ _ rfl rfl) ?_; refine stopAt ?_))
        refine Stop.mk ?_
        try simp only [Act.put, List.setIfInBounds_toArray, List.set_cons_succ, List.set_cons_zero]
        refine Go.Proofs.Ytdpaobflknkbkaa.wpList_value rfl _ _ (op_aU _ _ _ rfl) ?_
        try simp only [Act.put, List.setIfInBounds_toArray, List.set_cons_succ, List.set_cons_zero]
        refine Go.Proofs.Ytdpaobflknkbkaa.wpList_store_row rfl 87 (.tmp 9) (.tmp 33) rfl _ UL.toArray zU 87 rfl rfl (heap_alloc_new _ _) HU.out.2.2.2.1 HU.out.2.2.2.2.1 HU.out.2.2.2.2.2 ?_
        try simp only [Act.put]
        rw [← HU.out.1, ← HU.out.2.2.1]
        have cu4 := HCU.out.1
        go_wp2_with fail
        go_loopw [10, 11, 12] (fun ov pv iv wr => ∃ (j : Nat) (a : Option Addr) (c mc : Nat) (cs : List (List Value)) (b : Bool), j ≤ m ∧ iv = .int .i64 j ∧ pv = .bool b ∧ ov = .slice a mc c ∧ Hid (mc = cs.length ∧ InsAt 95 22 W2 wr cs a c ∧ cs = (insI k p M j).1.map rtC ∧ b = (insI k p M j).2)) (fun _ _ iv _ => m - (intOf iv).toNat)
        case atStart => exact ⟨0, none, 0, 0, [], false, by omega, rfl, rfl, rfl, Lib.hid ⟨rfl, ⟨OwnE.nil _ _ _ _, Fr.refl _ _⟩, rfl, rfl⟩⟩
        case round =>
          obtain ⟨j, a, c, mc, cs, b, hj, rfl, rfl, rfl, HS⟩ := hrel
          have cu4 := HS.out.2.1.fr.cell HCU.out.1 id
          obtain ⟨O, hO⟩ : ∃ O, O = (insI k p M j).1 := ⟨_, rfl⟩
          have hpr : insI k p M j = (O, b) := Prod.ext hO.symm HS.out.2.2.2.symm
          have hcs : cs = O.map rtC := by rw [hO]; exact HS.out.2.2.1
          have hol : cs.length ≤ 2 * j := by
            rw [hcs, List.length_map, hO]
            exact insI_len k p M j (by have := HIx.out.2.2.2.2.2; omega)
          have HO := Lib.hid (And.intro hpr (And.intro hcs (show cs.length + 1 + 1 ≤ 1000000 by omega)))
          clear hO hpr hcs hol
          obtain rfl := HS.out.1
          by_cases hlt : j < m
          · have hjM : j < M.length := by have := HIx.out.2.2.2.2.2; omega
            obtain ⟨rfl, _⟩ := HEL.out.2 (by omega)
            have HCX := Lib.hid (fun W (hW : Fr (fun _ => False) W2 W) => Fr.range9 (HU.out.2.1.trans hW (fun _ h => h.elim)) (HEL.out.1 j hjM).2 id)
            obtain ⟨x, hx⟩ : ∃ x, x = M[j] := ⟨_, rfl⟩
            rw [← hx] at HCX
            obtain ⟨X, hX⟩ : ∃ X : ByteArray, X = ⟨x.1.toArray⟩ := ⟨_, rfl⟩
            have HXC := Lib.hid (fun W (hW : Fr (fun _ => False) W2 W) => (show W.cell? ⟨b3, f3 + j * 22, none⟩ = some (.string X) by rw [hX]; exact HCX.out W hW 0 _ rfl))
            have cx := HXC.out wr HS.out.2.1.fr
            obtain ⟨cX, hcX⟩ : ∃ cX, cX = rtC x := ⟨_, rfl⟩
            have hcXl : cX.length = 22 := by rw [hcX]; exact rtC_len x
            have hcX1 : ∀ y ∈ cX, y.oneCell' = true := by rw [hcX]; exact rtC_one x
            have hj64 : (j : Int) < (m : Int) := by omega
            have HX := Lib.hid (And.intro hcX (And.intro hcXl (And.intro hcX1 (show insI k p M (j + 1) = insS k p (O, b) x by rw [insI_succ k p M j hjM, HO.out.1, hx]))))
            have HLX := Lib.hid (fun W (hW : Fr (fun _ => False) W2 W) (oo : Oper) (a : Act) (e1 : oo.op = .load 95 (.tmp 71)) (e2 : a.eval (.tmp 71) = .pointer (some ⟨b3, f3 + j * 22, none⟩)) => op_loadAt e1 e2 (show (Instr.loadAt 95 (.pointer (some ⟨b3, f3 + j * 22, none⟩))).run Try.prog W = .ok (.agg cX.toArray) W by rw [hcX]; exact load_rootR (HCX.out W hW)))
            have hNX : (N.toList == X.toList) = decide (k = x.1) := by rw [hX, ← HK.out.2.1]; exact bs_str _ _
            have hXN : (X.toList == N.toList) = decide (x.1 = k) := by rw [hX, ← HK.out.2.1]; exact bs_str _ _
            have hNL : Op.bytesLess N.toList X.toList = decide (k < x.1) := by rw [hX, ← HK.out.2.1]; exact bs_less _ _
            clear hjM hx hX hcX hcXl hcX1
            by_cases he : x.1 = k
            · rw [decide_eq_true he] at hXN
              rw [decide_eq_true he.symm] at hNX
              rw [decide_eq_false (fun h : k < x.1 => by rw [he] at h; exact List.lt_irrefl _ h)] at hNL
              have HE9 := Lib.hid (And.intro he (show ¬ x.1 < k from fun h => by rw [he] at h; exact List.lt_irrefl _ h))
              clear he
              cases b with
              | true =>
                as_aux_lemma =>
                  go_wp2_with fail
                  go_roundw
                  case rel => exact ⟨j + 1, a, c, _, cs, true, by omega, by go_num, rfl, rfl, Lib.hid ⟨rfl, HS.out.2.1, by rw [HX.out.2.2.2, ins_pair, if_neg (by simp), if_pos HE9.out.1]; exact HO.out.2.1, by rw [HX.out.2.2.2, ins_pair, if_neg (by simp), if_pos HE9.out.1]⟩⟩
                  case measure => simp [intOf]; omega
              | false =>
                as_aux_lemma =>
                  go_wp2_with (first
                    | (with_reducible refine Go.Proofs.Ytdpaobflknkbkaa.wpList_value rfl (.agg CL.toArray) wr (HLP.out wr (HU.out.2.1.trans HS.out.2.1.fr (fun _ h => h.elim)) _ _ rfl rfl) ?_; simp only [Act.put, List.setIfInBounds_toArray, List.set_cons_succ, List.set_cons_zero])
                    | (with_reducible refine Go.Proofs.Ytdpaobflknkbkaa.wpList_value rfl (.agg cK.toArray) wr (HBD.out wr _ _ _ _ rfl rfl rfl) ?_; simp only [Act.put, List.setIfInBounds_toArray, List.set_cons_succ, List.set_cons_zero])
                    | (refine wpList_snoc Try.underlying85 infoR9 rtZ9 (by decide) (by decide) W2 wr rfl rfl (.tmp 56) (.tmp 53) 57 rfl rfl _ cs cK rfl rfl rfl HS.out.2.1.fr HS.out.2.1.own HK.out.2.2.2.1 HK.out.2.2.2.2 (Nat.le_of_succ_le HO.out.2.2) (rootR_one wr cK HK.out.2.2.2.1) ?_; intro a7 c7 w7 ho hf; (have H7 := Lib.hid (InsAt.of ho hf)); clear ho hf; simp only [Act.put, List.setIfInBounds_toArray, List.set_cons_succ, List.set_cons_zero]; refine stopAt ?_))
                  refine Stop.mk ?_
                  have cu4 := H7.out.fr.cell HCU.out.1 id
                  have cx := HXC.out w7 H7.out.fr
                  go_wp2_with fail
                  go_roundw
                  case rel => exact ⟨j + 1, a7, c7, _, cs ++ [cK], true, by omega, by go_num, rfl, rfl, Lib.hid ⟨by simp, H7.out, by rw [HX.out.2.2.2, ins_pair, if_pos ⟨rfl, HE9.out.2⟩, if_pos HE9.out.1, List.map_append, ← HO.out.2.1, HK.out.2.2.1]; rfl, by rw [HX.out.2.2.2, ins_pair, if_pos ⟨rfl, HE9.out.2⟩, if_pos HE9.out.1]⟩⟩
                  case measure => simp [intOf]; omega
            · rw [decide_eq_false he] at hXN
              rw [decide_eq_false (fun h => he h.symm)] at hNX
              have HE9 := Lib.hid he
              cases b with
              | true =>
                clear hNL he
                as_aux_lemma =>
                  go_wp2_with (first
                    | (with_reducible refine Go.Proofs.Ytdpaobflknkbkaa.wpList_value rfl (.agg cX.toArray) wr (HLX.out wr HS.out.2.1.fr _ _ rfl rfl) ?_; simp only [Act.put, List.setIfInBounds_toArray, List.set_cons_succ, List.set_cons_zero])
                    | (refine wpList_snoc Try.underlying85 infoR9 rtZ9 (by decide) (by decide) W2 wr rfl rfl (.tmp 72) (.tmp 67) 73 rfl rfl _ cs cX rfl rfl rfl HS.out.2.1.fr HS.out.2.1.own HX.out.2.1 HX.out.2.2.1 (Nat.le_of_succ_le HO.out.2.2) (rootR_one wr cX HX.out.2.1) ?_; intro a7 c7 w7 ho hf; (have H7 := Lib.hid (InsAt.of ho hf)); clear ho hf; simp only [Act.put, List.setIfInBounds_toArray, List.set_cons_succ, List.set_cons_zero]; refine stopAt ?_))
                  refine Stop.mk ?_
                  go_wp2_with fail
                  go_roundw
                  case rel => exact ⟨j + 1, a7, c7, _, cs ++ [cX], true, by omega, by go_num, rfl, rfl, Lib.hid ⟨by simp, H7.out, by rw [HX.out.2.2.2, ins_pair, if_neg (by simp), if_neg HE9.out, List.map_append, ← HO.out.2.1, HX.out.1]; rfl, by rw [HX.out.2.2.2, ins_pair, if_neg (by simp), if_neg HE9.out]⟩⟩
                  case measure => simp [intOf]; omega
              | false =>
                by_cases hl : x.1 < k
                · rw [decide_eq_false (fun h : k < x.1 => List.lt_irrefl _ (List.lt_trans h hl))] at hNL
                  have HL9 := Lib.hid hl
                  clear hl he
                  as_aux_lemma =>
                    go_wp2_with (first
                      | (with_reducible refine Go.Proofs.Ytdpaobflknkbkaa.wpList_value rfl (.agg cX.toArray) wr (HLX.out wr HS.out.2.1.fr _ _ rfl rfl) ?_; simp only [Act.put, List.setIfInBounds_toArray, List.set_cons_succ, List.set_cons_zero])
                      | (refine wpList_snoc Try.underlying85 infoR9 rtZ9 (by decide) (by decide) W2 wr rfl rfl (.tmp 72) (.tmp 67) 73 rfl rfl _ cs cX rfl rfl rfl HS.out.2.1.fr HS.out.2.1.own HX.out.2.1 HX.out.2.2.1 (Nat.le_of_succ_le HO.out.2.2) (rootR_one wr cX HX.out.2.1) ?_; intro a7 c7 w7 ho hf; (have H7 := Lib.hid (InsAt.of ho hf)); clear ho hf; simp only [Act.put, List.setIfInBounds_toArray, List.set_cons_succ, List.set_cons_zero]; refine stopAt ?_))
                    refine Stop.mk ?_
                    go_wp2_with fail
                    go_roundw
                    case rel => exact ⟨j + 1, a7, c7, _, cs ++ [cX], false, by omega, by go_num, rfl, rfl, Lib.hid ⟨by simp, H7.out, by rw [HX.out.2.2.2, ins_pair, if_neg (fun h => h.2 HL9.out), if_neg HE9.out, List.map_append, ← HO.out.2.1, HX.out.1]; rfl, by rw [HX.out.2.2.2, ins_pair, if_neg (fun h => h.2 HL9.out), if_neg HE9.out]⟩⟩
                    case measure => simp [intOf]; omega
                · rw [decide_eq_true (bs_lt_or hl (fun h => he h.symm))] at hNL
                  have HL9 := Lib.hid hl
                  clear hl he
                  as_aux_lemma =>
                    go_wp2_with (first
                      | (with_reducible refine Go.Proofs.Ytdpaobflknkbkaa.wpList_value rfl (.agg CL.toArray) wr (HLP.out wr (HU.out.2.1.trans HS.out.2.1.fr (fun _ h => h.elim)) _ _ rfl rfl) ?_; simp only [Act.put, List.setIfInBounds_toArray, List.set_cons_succ, List.set_cons_zero])
                      | (with_reducible refine Go.Proofs.Ytdpaobflknkbkaa.wpList_value rfl (.agg cK.toArray) wr (HBD.out wr _ _ _ _ rfl rfl rfl) ?_; simp only [Act.put, List.setIfInBounds_toArray, List.set_cons_succ, List.set_cons_zero])
                      | (refine wpList_snoc Try.underlying85 infoR9 rtZ9 (by decide) (by decide) W2 wr rfl rfl (.tmp 56) (.tmp 53) 57 rfl rfl _ cs cK rfl rfl rfl HS.out.2.1.fr HS.out.2.1.own HK.out.2.2.2.1 HK.out.2.2.2.2 (Nat.le_of_succ_le HO.out.2.2) (rootR_one wr cK HK.out.2.2.2.1) ?_; intro a7 c7 w7 ho hf; (have H7 := Lib.hid (InsAt.of ho hf)); clear ho hf; simp only [Act.put, List.setIfInBounds_toArray, List.set_cons_succ, List.set_cons_zero]; refine stopAt ?_))
                    refine Stop.mk ?_
                    have cu4 := H7.out.fr.cell HCU.out.1 id
                    have cx := HXC.out w7 H7.out.fr
                    have HLN := Lib.hid (show (cs ++ [cK]).length = cs.length + 1 by simp)
                    have HOW := Lib.hid (show OwnE 95 22 W2.heap.size w7 (.slice a7 (cs.length + 1) c7) (cs ++ [cK]) by have := H7.out.own; rwa [HLN.out] at this)
                    go_wp2_with (first
                      | (with_reducible refine Go.Proofs.Ytdpaobflknkbkaa.wpList_value rfl (.agg cX.toArray) w7 (HLX.out w7 H7.out.fr _ _ rfl rfl) ?_; simp only [Act.put, List.setIfInBounds_toArray, List.set_cons_succ, List.set_cons_zero])
                      | (refine wpList_snoc Try.underlying85 infoR9 rtZ9 (by decide) (by decide) W2 w7 rfl rfl (.tmp 72) (.tmp 67) 73 rfl rfl _ (cs ++ [cK]) cX rfl rfl rfl H7.out.fr HOW.out HX.out.2.1 HX.out.2.2.1 (by rw [HLN.out]; exact HO.out.2.2) (rootR_one w7 cX HX.out.2.1) ?_; intro a8 c8 w8 ho hf; (have H8 := Lib.hid (InsAt.of ho hf)); clear ho hf; simp only [Act.put, List.setIfInBounds_toArray, List.set_cons_succ, List.set_cons_zero]; refine stopAt ?_))
                    refine Stop.mk ?_
                    go_wp2_with fail
                    go_roundw
                    case rel => exact ⟨j + 1, a8, c8, _, cs ++ [cK] ++ [cX], true, by omega, by go_num, rfl, rfl, Lib.hid ⟨by simp, H8.out, by rw [HX.out.2.2.2, ins_pair, if_pos ⟨rfl, HL9.out⟩, if_neg HE9.out, List.map_append, List.map_append, ← HO.out.2.1, HK.out.2.2.1, HX.out.1]; rfl, by rw [HX.out.2.2.2, ins_pair, if_pos ⟨rfl, HL9.out⟩, if_neg HE9.out]⟩⟩
                    case measure => simp [intOf]; omega
          · have hjm : j = m := by omega
            subst hjm
            cases b with
            | true =>
              as_aux_lemma =>
                have hvp : (vPut M k p).map rtC = cs := by
                  rw [← ins_put k p M (by rw [HIx.out.2.2.2.1]; exact HP0.out.1.R who), ← HIx.out.2.2.2.2.2, HO.out.1, insE, if_pos rfl]
                  exact HO.out.2.1.symm
                have hlen : (vPut M k p).length = cs.length := by
                  have h9 := congrArg List.length hvp
                  rw [List.length_map] at h9
                  rw [h9]
                have hcap : (M.length : Int) ≤ q.r := by
                  have hiQ := HIx.out.2.1
                  have h9 := (HP0.out.1.cap i hiQ).1
                  rw [← HIx.out.1, ← HIx.out.2.2.2.1, ← HIx.out.2.2.2.2.1] at h9
                  exact h9
                have hmost := put_most (v := p) (by rw [HIx.out.2.2.2.1]; exact HP0.out.1.R who) hcap (k := k)
                rw [hlen] at hmost
                have HV := Lib.hid (And.intro hvp (And.intro hlen hmost))
                clear hvp hlen hcap hmost
                have cu2 := HS.out.2.1.fr.cell HCU.out.2 id
                have hfw : Fr (fun _ => False) W1 wr := HU.out.2.1.trans HS.out.2.1.fr (fun _ h => h.elim)
                have c0 := hfw.cell c0 id
                have hfz : Fr (fun _ => False) w wr := HW.out.2.1.trans hfw (fun _ h => h.elim)
                obtain ⟨rv9, nv9, l9, e9, _⟩ := (HW.out.2.2.2.us i HIx.out.2.1).ex
                obtain ⟨cs9, hb9⟩ := HW.out.2.2.2.blk
                have hcl9 := hfz.cell (e9 4 rv9 rfl) id
                have hfz9 : wr.frozen? ⟨u, i * 6 + 4, none⟩ = false := frozen_of_row _ _ _ _ _ (hfz.heap hb9 id)
                have HFZ := Lib.hid hfz
                clear e9 hb9 hfw hfz
                by_cases hg : q.r < ((cs.length : Nat) : Int)
                · as_aux_lemma =>
                    have hE8 : rootE s who k p = 8 := by rw [HE.out, if_pos (HV.out.2.2.1 hg)]
                    have hS8 : rootS s who k p = s := by unfold rootS; rw [hE8, if_neg (by decide)]
                    have HES := Lib.hid (And.intro hE8 hS8)
                    clear hE8 hS8
                    go_wp2_with fail
                    go_ret
                    rw [HES.out.1, HES.out.2]
                    exact ⟨rfl, HW.out.2.2.2.newF HFZ.out, HFZ.out.mono (fun _ _ h => h.elim)⟩
                · as_aux_lemma =>
                    have hE0 : rootE s who k p = 0 := by rw [HE.out, if_neg (fun h => hg (HV.out.2.2.2 h))]
                    have hS0 : rootS s who k p = s.setR who (vPut M k p) := by unfold rootS; rw [hE0, if_pos rfl, ← HIx.out.2.2.2.1]
                    have hfin := HW.out.2.2.2.putR HFZ.out HIx.out.2.1 (M := vPut M k p) (a := a) (n := cs.length) (c := c) (by rw [HV.out.1]; exact OwnE.lower (show OwnE 95 22 W2.heap.size wr (.slice a cs.length c) cs from by have := HS.out.2.1.own; exact this) (Nat.le_trans HW.out.2.1.size HU.out.2.1.size))
                    rw [← HIx.out.1] at hfin
                    have HFIN := Lib.hid hfin
                    have HES := Lib.hid (And.intro hE0 hS0)
                    clear hE0 hS0 hfin
                    go_wp2_with fail
                    go_ret
                    rw [HES.out.1, HES.out.2, newF_set]
                    exact ⟨rfl, HFIN.out.1, HFIN.out.2⟩
            | false =>
              as_aux_lemma =>
                have hvp : (vPut M k p).map rtC = (cs ++ [cK]) := by
                  rw [← ins_put k p M (by rw [HIx.out.2.2.2.1]; exact HP0.out.1.R who), ← HIx.out.2.2.2.2.2, HO.out.1, insE, if_neg (by simp), List.map_append, ← HO.out.2.1, HK.out.2.2.1]
                  rfl
                have hlen : (vPut M k p).length = (cs.length + 1) := by
                  have h9 := congrArg List.length hvp
                  rw [List.length_map] at h9
                  rw [h9]
                  simp
                have hcap : (M.length : Int) ≤ q.r := by
                  have hiQ := HIx.out.2.1
                  have h9 := (HP0.out.1.cap i hiQ).1
                  rw [← HIx.out.1, ← HIx.out.2.2.2.1, ← HIx.out.2.2.2.2.1] at h9
                  exact h9
                have hmost := put_most (v := p) (by rw [HIx.out.2.2.2.1]; exact HP0.out.1.R who) hcap (k := k)
                rw [hlen] at hmost
                have HV := Lib.hid (And.intro hvp (And.intro hlen hmost))
                clear hvp hlen hcap hmost
                go_wp2_with (first
                  | (with_reducible refine Go.Proofs.Ytdpaobflknkbkaa.wpList_value rfl (.agg CL.toArray) wr (HLP.out wr (HU.out.2.1.trans HS.out.2.1.fr (fun _ h => h.elim)) _ _ rfl rfl) ?_; simp only [Act.put, List.setIfInBounds_toArray, List.set_cons_succ, List.set_cons_zero])
                  | (with_reducible refine Go.Proofs.Ytdpaobflknkbkaa.wpList_value rfl (.agg cK.toArray) wr (HBD.out wr _ _ _ _ rfl rfl rfl) ?_; simp only [Act.put, List.setIfInBounds_toArray, List.set_cons_succ, List.set_cons_zero])
                  | (refine wpList_snoc Try.underlying85 infoR9 rtZ9 (by decide) (by decide) W2 wr rfl rfl (.tmp 80) (.tmp 77) 81 rfl rfl _ cs cK rfl rfl rfl HS.out.2.1.fr HS.out.2.1.own HK.out.2.2.2.1 HK.out.2.2.2.2 (Nat.le_of_succ_le HO.out.2.2) (rootR_one wr cK HK.out.2.2.2.1) ?_; intro a7 c7 w7 ho hf; (have H7 := Lib.hid (InsAt.of ho hf)); clear ho hf; simp only [Act.put, List.setIfInBounds_toArray, List.set_cons_succ, List.set_cons_zero]; refine stopAt ?_))
                refine Stop.mk ?_
                have cu2 := H7.out.fr.cell HCU.out.2 id
                have hfw : Fr (fun _ => False) W1 w7 := HU.out.2.1.trans H7.out.fr (fun _ h => h.elim)
                have c0 := hfw.cell c0 id
                have hfz : Fr (fun _ => False) w w7 := HW.out.2.1.trans hfw (fun _ h => h.elim)
                obtain ⟨rv9, nv9, l9, e9, _⟩ := (HW.out.2.2.2.us i HIx.out.2.1).ex
                obtain ⟨cs9, hb9⟩ := HW.out.2.2.2.blk
                have hcl9 := hfz.cell (e9 4 rv9 rfl) id
                have hfz9 : w7.frozen? ⟨u, i * 6 + 4, none⟩ = false := frozen_of_row _ _ _ _ _ (hfz.heap hb9 id)
                have HFZ := Lib.hid hfz
                clear e9 hb9 hfw hfz
                by_cases hg : q.r < (((cs.length + 1) : Nat) : Int)
                · as_aux_lemma =>
                    have hE8 : rootE s who k p = 8 := by rw [HE.out, if_pos (HV.out.2.2.1 hg)]
                    have hS8 : rootS s who k p = s := by unfold rootS; rw [hE8, if_neg (by decide)]
                    have HES := Lib.hid (And.intro hE8 hS8)
                    clear hE8 hS8
                    go_wp2_with fail
                    go_ret
                    rw [HES.out.1, HES.out.2]
                    exact ⟨rfl, HW.out.2.2.2.newF HFZ.out, HFZ.out.mono (fun _ _ h => h.elim)⟩
                · as_aux_lemma =>
                    have hE0 : rootE s who k p = 0 := by rw [HE.out, if_neg (fun h => hg (HV.out.2.2.2 h))]
                    have hS0 : rootS s who k p = s.setR who (vPut M k p) := by unfold rootS; rw [hE0, if_pos rfl, ← HIx.out.2.2.2.1]
                    have hfin := HW.out.2.2.2.putR HFZ.out HIx.out.2.1 (M := vPut M k p) (a := a7) (n := (cs.length + 1)) (c := c7) (by rw [HV.out.1]; exact OwnE.lower (show OwnE 95 22 W2.heap.size w7 (.slice a7 (cs.length + 1) c7) (cs ++ [cK]) from by have := H7.out.own; rwa [List.length_append] at this) (Nat.le_trans HW.out.2.1.size HU.out.2.1.size))
                    rw [← HIx.out.1] at hfin
                    have HFIN := Lib.hid hfin
                    have HES := Lib.hid (And.intro hE0 hS0)
                    clear hE0 hS0 hfin
                    go_wp2_with fail
                    go_ret
                    rw [HES.out.1, HES.out.2, newF_set]
                    exact ⟨rfl, HFIN.out.1, HFIN.out.2⟩
  · have HI := Lib.hid (is_no h1 who hu)
    have hE : rootE s who N.data.toList p = 18 := by unfold rootE; rw [if_neg hu]
    have hS : rootS s who N.data.toList p = s := by unfold rootS; rw [hE, if_neg (by decide)]
    rw [hS, hE]
    clear h h1 hu hE hS hf1 hb1 hW1 hCL hCC hCs hC20 cn hp0
    go_enter Try.func47, Try.ntmps47
    go_wp2_with fail
    rw [← HW.out.1]
    go_wp2_with (go_at_call 48; refine HI.out.mono ?_; rintro e w1 ⟨rfl, hw9⟩; (obtain rfl : W1 = w1 := hw9.symm))
    go_ret
    exact ⟨rfl, HW.out.2.2.2.newF HW.out.2.1, HW.out.2.1.mono (fun _ _ h => h.elim)⟩
end
end Go.Proofs.Ytdpaobflknkbkaa
