/- Laid together by merge.py: TROpen TRef6 TOpd TBegin -/
import Derived.Test.YtiinmilfgclddaaGreatTr36
import Derived.Deep.QuietTactic
import Derived.BigQuiet
import Derived.Test.YtiinmilfgclddaaGreatTr33
import Derived.Test.YtiinmilfgclddaaGreatTr1
import Derived.Deep.RegionHeldLaw
import Derived.Test.YtiinmilfgclddaaGreatTr31
import Derived.Test.YtiinmilfgclddaaGreatTr34

/- The document's own: Open of a journal that has no record, with what the journal holds (the walk of JROpen); Area, Records. -/
namespace Go.Proofs.YtiinmilfgclddaaGreat
open Go.RowKit Go.ChangeShapes
set_option linter.unusedVariables false

/-- The document's journal at jn. -/
def RjAt (w : World) (jn g l la d : Nat) (h : Hd) : Prop := w.heap[jn]? = some (.cells #[.pointer (some ⟨g, 0, none⟩), .int .i64 l, .int .i64 la, .int .i64 d, .int .i64 h.area, .int .i64 h.size, .int .i64 0, .int .i64 h.round, .bool false] 216 (0, 0))
def ROpen2Post (w : World) (g l la d : Nat) (h : Hd) (e : Ending) (w' : World) : Prop := ∃ jn, e = .returned (.tuple #[.pointer (some ⟨jn, 0, none⟩), .int .i64 0]) ∧ w.heap.size ≤ jn ∧ RjAt w' jn g l la d h ∧ Fr (fun _ => False) w w'
set_option maxRecDepth 100000 in
set_option maxHeartbeats 1000000 in
/-- .. of a journal that has no record. -/
theorem rOpen2_any {D : Nat → Prop} (w : World) (g l la d s : Nat) (dv : Dv) (h : Hd) (hok : ShOk l la d s) (hd : RefAt w D g s dv) (hup : dv.down = false) (hw : dv.waits = []) (hsec : secAt dv.all 0 = h.sec) (hri : h.Right l la) (h0 : h.used = 0) :
    Calls Tryz.prog 118 #[.pointer (some ⟨g, 0, none⟩), .agg #[.int .i64 l, .int .i64 la, .int .i64 d]] w (ROpen2Post w g l la d h) := by
  have hl : l ≤ 8192 := by have := hok.sum; have := hok.most; omega
  have hla : la ≤ 8192 := by have := hok.sum; have := hok.most; omega
  have hs1 : 1 ≤ s := by have := hok.sum; omega
  obtain ⟨gw, hgw⟩ : ∃ gw, gw = w.heap.size := ⟨_, rfl⟩
  obtain ⟨W1, hW⟩ : ∃ W, W = w.alloc (.cells #[.int .i64 l, .int .i64 la, .int .i64 d] 23) := ⟨_, rfl⟩
  have hf : Fr (fun _ => False) w W1 := by rw [hW]; exact (Fr.refl _ _).alloc _
  have hrow : W1.heap[gw]? = some (.cells #[.int .i64 l, .int .i64 la, .int .i64 d] 23 (0, 0)) := by rw [hW, hgw]; exact heap_alloc_new w _
  have HRI := Lib.hid (fun W => hok.rRight W)
  have HSE := Lib.hid (fun W => hok.rSecs W)
  have HDS := Lib.hid (fun W (hB : Fr (fun _ => False) W1 W) => bSectors W g s dv ((hd.keep hf (fun _ _ _ h => h)).keep hB (fun _ _ _ h => h)))
  have LDS := Lib.hid (fun W (hW : Fr (fun _ => False) W1 W) => load_shape5 W gw 0 _ _ _ (range_row5 (hW.heap hrow id)))
  have HROW := Lib.hid hrow
  have HF := Lib.hid hf
  have HW := Lib.hid (And.intro hW hgw)
  have hrd := fun (W : World) (hf2 : Fr (fun _ => False) W1 W) => bRead W g s dv ((0 : Nat) : Int) (by rw [hw]; decide) ((hd.keep hf (fun _ _ _ h => h)).keep hf2 (fun _ _ _ h => h))
  rw [Dv.read_yes hup hw hs1, hsec] at hrd
  have HRD := Lib.hid hrd
  have HHO := Lib.hid (fun (G : Nat → Prop) (W : World) (vb : Value) (hb : BytesIn G W vb h.sec) => rHeadOf_any W vb l la d h (hri.num hl hla) hl hla hri hb)
  obtain ⟨x1, hx1⟩ : ∃ x, x = h.area := ⟨_, rfl⟩
  obtain ⟨x2, hx2⟩ : ∃ x, x = h.size := ⟨_, rfl⟩
  obtain ⟨x3, hx3⟩ : ∃ x, x = h.used := ⟨_, rfl⟩
  obtain ⟨x4, hx4⟩ : ∃ x, x = h.round := ⟨_, rfl⟩
  have HX := Lib.hid (And.intro hx1 (And.intro hx2 (And.intro hx3 hx4)))
  rw [h0] at hx3
  have HX3 := Lib.hid hx3
  clear hok hd hup hw hW hf hrow hrd hsec hri h0 hx1 hx2 hx3 hx4 hl hla hs1
  go_enter Tryz.func118, Tryz.ntmps118
  go_wp2_with fail
  rw [← HW.out.1, ← HW.out.2]
  clear hgw
  refine wp_region_inv 10 (by kernel_rfl) (by kernel_rfl) (fun W => Fr (fun _ => False) W1 W) (ROpR g gw l la d s) (fun _ _ _ _ => True) (Fr (fun _ => False)) (ROpR.ext g gw l la d s) (Fr.refl _ _).drew ?_ ?_
  · intro i hi o ho
    replace hi : i < 10 := hi
    obtain rfl | rfl | rfl | rfl | rfl | rfl | rfl | rfl | rfl | rfl : i = 0 ∨ i = 1 ∨ i = 2 ∨ i = 3 ∨ i = 4 ∨ i = 5 ∨ i = 6 ∨ i = 7 ∨ i = 8 ∨ i = 9 := by omega
    · simp only [List.getElem?_cons_zero, Option.some.injEq] at ho
      subst ho
      intro a W vs hB hS hE hU
      refine wpG_plain rfl ?_
      have v3 : a.eval (.tmp 3) = .pointer (some ⟨gw, 0, none⟩) := (hU 3 (by kernel_rfl)).trans rfl
      clear hE hU
      exact wp_value_inv (w' := W) (.agg #[.int .i64 (l : Nat), .int .i64 (la : Nat), .int .i64 (d : Nat)]) (op_loadAt rfl v3 (LDS.out W hB)) ⟨_, rfl, hB, Fr.refl _ _, rfl, fun _ _ _ _ _ => trivial⟩
    · simp only [List.getElem?_cons_zero, List.getElem?_cons_succ, Option.some.injEq] at ho
      subst ho
      intro a W vs hB hS hE hU
      refine wpG_plain rfl ?_
      obtain ⟨r0, e14⟩ := hE 0 14 (by kernel_rfl) (by kernel_rfl)
      have v14 : a.eval (.tmp 14) = .agg #[.int .i64 (l : Nat), .int .i64 (la : Nat), .int .i64 (d : Nat)] := e14.trans r0
      clear hE hU
      refine wp_call_inv 49 #[.tmp 14] #[23] rfl #[.agg #[.int .i64 (l : Nat), .int .i64 (la : Nat), .int .i64 (d : Nat)]] (by simp only [List.map_toArray, List.map_cons, List.map_nil, v14]) (ent_spence_spenceref05_Right _) (Post := fun v W' => v = .bool true ∧ Fr (fun _ => False) W W') ((HRI.out W).mono fun e w' h => ⟨_, h.1, rfl, h.2⟩) ?_
      rintro v W' ⟨rfl, hf⟩
      exact ⟨_, rfl, hB.trans hf (fun _ h => h.elim), hf, rfl, fun _ _ _ _ _ => trivial⟩
    · simp only [List.getElem?_cons_zero, List.getElem?_cons_succ, Option.some.injEq] at ho
      subst ho
      intro a W vs hB hS hE hU
      refine wpG_plain rfl ?_
      obtain ⟨r1, e15⟩ := hE 1 15 (by kernel_rfl) (by kernel_rfl)
      have v15 : a.eval (.tmp 15) = .bool true := e15.trans r1
      clear hE hU
      exact wp_value_inv (w' := W) (.bool false) (op_unop rfl v15 (by rfl)) ⟨_, rfl, hB, Fr.refl _ _, rfl, fun _ _ _ _ _ => trivial⟩
    · simp only [List.getElem?_cons_zero, List.getElem?_cons_succ, Option.some.injEq] at ho
      subst ho
      intro a W vs hB hS hE hU
      refine wpG_plain rfl ?_
      obtain ⟨r2, e16⟩ := hE 2 16 (by kernel_rfl) (by kernel_rfl)
      have v16 : a.eval (.tmp 16) = .bool false := e16.trans r2
      clear hE hU
      exact wp_value_inv (w' := W) (.bool false) (op_move rfl v16) ⟨_, rfl, hB, Fr.refl _ _, rfl, fun _ _ _ _ _ => trivial⟩
    · simp only [List.getElem?_cons_zero, List.getElem?_cons_succ, Option.some.injEq] at ho
      subst ho
      intro a W vs hB hS hE hU
      obtain ⟨r3, e17⟩ := hE 3 17 (by kernel_rfl) (by kernel_rfl)
      have v17 : a.eval (.tmp 17) = .bool false := e17.trans r3
      refine wpG_yes 3 false 17 rfl (by kernel_rfl) (by rw [hS]; first | simp | exact Nat.le_of_ble_eq_true rfl) v17 ?_
      have v0 : a.eval (.tmp 0) = .pointer (some ⟨g, 0, none⟩) := (hU 0 (by kernel_rfl)).trans rfl
      clear hE hU
      exact wp_value_inv (w' := W) (.pointer (some ⟨g, 0, none⟩)) (op_move rfl v0) ⟨_, rfl, hB, Fr.refl _ _, rfl, fun _ _ _ _ _ => trivial⟩
    · simp only [List.getElem?_cons_zero, List.getElem?_cons_succ, Option.some.injEq] at ho
      subst ho
      intro a W vs hB hS hE hU
      obtain ⟨r3, e17⟩ := hE 3 17 (by kernel_rfl) (by kernel_rfl)
      have v17 : a.eval (.tmp 17) = .bool false := e17.trans r3
      refine wpG_yes 3 false 17 rfl (by kernel_rfl) (by rw [hS]; first | simp | exact Nat.le_of_ble_eq_true rfl) v17 ?_
      obtain ⟨r4, e18⟩ := hE 4 18 (by kernel_rfl) (by kernel_rfl)
      have v18 : a.eval (.tmp 18) = .pointer (some ⟨g, 0, none⟩) := e18.trans r4
      clear hE hU
      refine wp_call_inv 83 #[.tmp 18] #[63] rfl #[.pointer (some ⟨g, 0, none⟩)] (by simp only [List.map_toArray, List.map_cons, List.map_nil, v18]) (ent___spence_spenceref04_Device__Sectors _) (Post := fun v W' => v = .int .i64 (s : Nat) ∧ Fr (fun _ => False) W W') ((HDS.out W hB).mono fun e w' h => ⟨_, h.1, rfl, h.2⟩) ?_
      rintro v W' ⟨rfl, hf⟩
      exact ⟨_, rfl, hB.trans hf (fun _ h => h.elim), hf, rfl, fun _ _ _ _ _ => trivial⟩
    · simp only [List.getElem?_cons_zero, List.getElem?_cons_succ, Option.some.injEq] at ho
      subst ho
      intro a W vs hB hS hE hU
      obtain ⟨r3, e17⟩ := hE 3 17 (by kernel_rfl) (by kernel_rfl)
      have v17 : a.eval (.tmp 17) = .bool false := e17.trans r3
      refine wpG_yes 3 false 17 rfl (by kernel_rfl) (by rw [hS]; first | simp | exact Nat.le_of_ble_eq_true rfl) v17 ?_
      have v3 : a.eval (.tmp 3) = .pointer (some ⟨gw, 0, none⟩) := (hU 3 (by kernel_rfl)).trans rfl
      clear hE hU
      exact wp_value_inv (w' := W) (.agg #[.int .i64 (l : Nat), .int .i64 (la : Nat), .int .i64 (d : Nat)]) (op_loadAt rfl v3 (LDS.out W hB)) ⟨_, rfl, hB, Fr.refl _ _, rfl, fun _ _ _ _ _ => trivial⟩
    · simp only [List.getElem?_cons_zero, List.getElem?_cons_succ, Option.some.injEq] at ho
      subst ho
      intro a W vs hB hS hE hU
      obtain ⟨r3, e17⟩ := hE 3 17 (by kernel_rfl) (by kernel_rfl)
      have v17 : a.eval (.tmp 17) = .bool false := e17.trans r3
      refine wpG_yes 3 false 17 rfl (by kernel_rfl) (by rw [hS]; first | simp | exact Nat.le_of_ble_eq_true rfl) v17 ?_
      obtain ⟨r6, e20⟩ := hE 6 20 (by kernel_rfl) (by kernel_rfl)
      have v20 : a.eval (.tmp 20) = .agg #[.int .i64 (l : Nat), .int .i64 (la : Nat), .int .i64 (d : Nat)] := e20.trans r6
      clear hE hU
      refine wp_call_inv 23 #[.tmp 20] #[23] rfl #[.agg #[.int .i64 (l : Nat), .int .i64 (la : Nat), .int .i64 (d : Nat)]] (by simp only [List.map_toArray, List.map_cons, List.map_nil, v20]) (ent_spence_spenceref05_Sectors _) (Post := fun v W' => v = .int .i64 (s : Nat) ∧ Fr (fun _ => False) W W') ((HSE.out W).mono fun e w' h => ⟨_, h.1, rfl, h.2⟩) ?_
      rintro v W' ⟨rfl, hf⟩
      exact ⟨_, rfl, hB.trans hf (fun _ h => h.elim), hf, rfl, fun _ _ _ _ _ => trivial⟩
    · simp only [List.getElem?_cons_zero, List.getElem?_cons_succ, Option.some.injEq] at ho
      subst ho
      intro a W vs hB hS hE hU
      obtain ⟨r3, e17⟩ := hE 3 17 (by kernel_rfl) (by kernel_rfl)
      have v17 : a.eval (.tmp 17) = .bool false := e17.trans r3
      refine wpG_yes 3 false 17 rfl (by kernel_rfl) (by rw [hS]; first | simp | exact Nat.le_of_ble_eq_true rfl) v17 ?_
      obtain ⟨r5, e19⟩ := hE 5 19 (by kernel_rfl) (by kernel_rfl)
      have v19 : a.eval (.tmp 19) = .int .i64 (s : Nat) := e19.trans r5
      obtain ⟨r7, e21⟩ := hE 7 21 (by kernel_rfl) (by kernel_rfl)
      have v21 : a.eval (.tmp 21) = .int .i64 (s : Nat) := e21.trans r7
      clear hE hU
      exact wp_value_inv (w' := W) (.bool false) (op_bin rfl v19 v21 (rfl) (lss_no (by omega))) ⟨_, rfl, hB, Fr.refl _ _, rfl, fun _ _ _ _ _ => trivial⟩
    · simp only [List.getElem?_cons_zero, List.getElem?_cons_succ, Option.some.injEq] at ho
      subst ho
      intro a W vs hB hS hE hU
      refine wpG_plain rfl ?_
      obtain ⟨r3, e17⟩ := hE 3 17 (by kernel_rfl) (by kernel_rfl)
      have v17 : a.eval (.tmp 17) = .bool false := e17.trans r3
      obtain ⟨r8, e22⟩ := hE 8 22 (by kernel_rfl) (by kernel_rfl)
      have v22 : a.eval (.tmp 22) = .bool false := e22.trans r8
      clear hE hU
      exact wp_value_inv (w' := W) (.bool false) (op_pick rfl v17 (by simp only [Bool.false_eq_true, if_false]; exact v22)) ⟨_, rfl, hB, Fr.refl _ _, rfl, fun _ _ _ _ _ => trivial⟩
  · intro vs Wa hB0 hR0 hD
    have r23 : vs 9 = .bool false := hR0 9 (by decide)
    have HB := Lib.hid hB0
    clear hR0 hD hB0
    simp only [acts, if_true, dstAt, List.getElem?_cons_zero, List.getElem?_cons_succ, Option.bind_some, Act.put, List.setIfInBounds_toArray, List.set_cons_succ, List.set_cons_zero, List.drop_succ_cons, List.drop_nil]
    simp only [r23]
    clear r23
    go_wp2_with fail
    refine Calls.mono (show Calls Tryz.prog 147 #[.pointer (some ⟨g, 0, none⟩), .int .i64 0] Wa _ from HRD.out Wa HB.out) ?_
    rintro e w3 ⟨v3, rfl, ho3, hf3⟩
    have H3 := Lib.hid (And.intro (HB.out.trans hf3 (fun _ h => h.elim)) ho3.bytes)
    clear ho3 hf3
    obtain ⟨s0, s1, s2⟩ := row3_cells (H3.out.1.heap HROW.out id)
    go_wp2_with fail
    refine (HHO.out _ w3 v3 H3.out.2).mono ?_
    rintro e w4 ⟨rfl, hf4⟩
    rw [← HX.out.1, ← HX.out.2.1, ← HX.out.2.2.1, ← HX.out.2.2.2, HX3.out]
    have H4 := Lib.hid (H3.out.1.trans hf4 (fun _ h => h.elim))
    clear hf4
    obtain ⟨W5, hW5⟩ : ∃ W, W = w4.alloc (.cells #[.int .i64 x1, .int .i64 x2, .int .i64 0, .int .i64 x4] 155) := ⟨_, rfl⟩
    obtain ⟨gh, hgh⟩ : ∃ gh, gh = w4.heap.size := ⟨_, rfl⟩
    have H5 := Lib.hid (show Fr (fun _ => False) W1 W5 ∧ W5.heap[gh]? = some (.cells #[.int .i64 x1, .int .i64 x2, .int .i64 0, .int .i64 x4] 155 (0, 0)) by
      rw [hW5, hgh]
      exact ⟨H4.out.alloc _, heap_alloc_new w4 _⟩)
    go_wp2_with fail
    rw [← hW5, ← hgh]
    clear hW5 hgh s0 s1 s2
    refine (rBytes0 W5 g 1).mono ?_
    rintro e w5 ⟨rfl, rfl⟩
    go_wp2_with fail
    refine (rParted0 W5).mono ?_
    rintro e w6 ⟨rfl, hf6⟩
    have H6 := Lib.hid (H5.out.1.trans hf6 (fun _ h => h.elim))
    obtain ⟨s0, s1, s2⟩ := row3_cells (H6.out.heap HROW.out id)
    obtain ⟨q0, q1, q2, q3⟩ := row4_cells (hf6.heap H5.out.2 id)
    clear hf6
    go_wp2_with fail
    go_ret2
    unfold ROpen2Post
    refine ⟨w6.heap.size, rfl, ?_, ?_, (HF.out.trans H6.out (fun _ h => h.elim)).alloc _⟩
    · have := HF.out.size; have := H6.out.size; omega
    · unfold RjAt
      rw [← HX.out.1, ← HX.out.2.1, ← HX.out.2.2.2]
      exact heap_alloc_new w6 _
theorem rBytes0' (w : World) (g at0 : Nat) :
    Calls Tryz.prog 149 #[.pointer (some ⟨g, 0, none⟩), .int .i64 at0, .int .i64 0] w fun e w' => e = .returned (.tuple #[.slice none 0 0, .int .i64 0]) ∧ w' = w := (rBytes0 w g at0).mono fun _ _ h => ⟨h.1, h.2.symm⟩
section
variable {w w' : World} {jn g l la d : Nat} {h : Hd}
theorem RjAt.keep {S : Nat → Prop} (H : RjAt w jn g l la d h) (hf : Fr S w w') (hS : ¬ S jn) : RjAt w' jn g l la d h := hf.heap H hS
theorem RjAt.cells (H : RjAt w jn g l la d h) : w.cell? ⟨jn, 0, none⟩ = some (.pointer (some ⟨g, 0, none⟩)) ∧ w.cell? ⟨jn, 1, none⟩ = some (.int .i64 l) ∧ w.cell? ⟨jn, 2, none⟩ = some (.int .i64 la) ∧ w.cell? ⟨jn, 4, none⟩ = some (.int .i64 h.area) ∧ w.cell? ⟨jn, 5, none⟩ = some (.int .i64 h.size) ∧ w.cell? ⟨jn, 6, none⟩ = some (.int .i64 0) ∧ w.cell? ⟨jn, 8, none⟩ = some (.bool false) := by
  refine ⟨?_, ?_, ?_, ?_, ?_, ?_, ?_⟩ <;> exact cell_of_row _ _ _ _ _ _ H
set_option maxRecDepth 100000 in
theorem rNote0 (w : World) (j : Nat) : Calls Tryz.prog 152 #[.pointer (some ⟨j, 0, none⟩), .int .i64 0] w fun e w' => e = .returned (.int .i64 0) ∧ w = w' := by
  go_enter Tryz.func152, Tryz.ntmps152
  go_wp2
  go_ret
  exact ⟨rfl, rfl⟩
set_option maxRecDepth 100000 in
set_option maxHeartbeats 1000000 in
/-- The area's sector, of the first area. -/
theorem rArea_any (H : RjAt w jn g l la d h) (hl : l ≤ 8192) (hla : la ≤ 8192) : Calls Tryz.prog 151 #[.pointer (some ⟨jn, 0, none⟩), .int .i64 0] w fun e w' => e = .returned (.int .i64 (1 + (l : Int))) ∧ ∃ m, w' = w.drewN m := by
  obtain ⟨c0, c1, c2, c4, c5, c6, c8⟩ := H.cells
  clear H
  go_enter Tryz.func151, Tryz.ntmps151
  go_wp2_with fail
  go_quiet (fail)
  go_wp2_with fail
  go_ret
  exact ⟨by simp, _, rfl⟩
set_option maxRecDepth 100000 in
set_option maxHeartbeats 1000000 in
/-- Area, of one with no bytes. -/
theorem rAreaOf0 (H : RjAt w jn g l la d h) (hl : l ≤ 8192) (hla : la ≤ 8192) (h0 : h.size = 0) (ha : h.area = 0) : Calls Tryz.prog 119 #[.pointer (some ⟨jn, 0, none⟩)] w fun e w' => e = .returned (.tuple #[.slice none 0 0, .int .i64 0]) ∧ Fr (fun _ => False) w w' := by
  obtain ⟨c0, c1, c2, c4, c5, c6, c8⟩ := H.cells
  rw [h0] at c5
  rw [ha] at c4
  have HAR := Lib.hid (fun (n : Nat) => rArea_any (H.keep ((Fr.refl (fun _ => False) w).drewN n) id) hl hla)
  have HBY := Lib.hid (fun (W : World) => rBytes0' W g (1 + l))
  have e1 : ((1 + l : Nat) : Int) = 1 + (l : Int) := by omega
  rw [e1] at HBY
  clear H h0 ha
  go_enter Tryz.func119, Tryz.ntmps119
  go_wp2_with fail
  go_quiet (first
    | (go_at_call 151; exact Calls.quiet_of (HAR.out _))
    | (go_at_call 149; exact Calls.quiet_of_same (HBY.out _)))
  go_wp2_with (go_at_call 152; refine (rNote0 _ _).mono ?_; rintro e w2 ⟨rfl, rfl⟩)
  go_ret2
  exact ⟨rfl, (Fr.refl (fun _ => False) w).drewN _⟩
set_option maxRecDepth 100000 in
set_option maxHeartbeats 1000000 in
/-- Records, of one with none. -/
theorem rRecs0 (H : RjAt w jn g l la d h) : Calls Tryz.prog 121 #[.pointer (some ⟨jn, 0, none⟩)] w fun e w' => e = .returned (.tuple #[.slice none 0 0, .int .i64 0]) ∧ Fr (fun _ => False) w w' := by
  obtain ⟨c0, c1, c2, c4, c5, c6, c8⟩ := H.cells
  have HBY := Lib.hid (fun (W : World) => rBytes0' W g 1)
  clear H
  go_enter Tryz.func121, Tryz.ntmps121
  go_wp2_with fail
  go_quiet (first
    | (go_at_call 149; exact Calls.quiet_of_same (HBY.out _)))
  go_wp2_with (go_at_call 150; refine (rParted0 _).mono ?_; rintro e w2 ⟨rfl, hf2⟩; (have H2 := Lib.hid hf2); clear hf2)
  go_ret2
  exact ⟨rfl, ((Fr.refl (fun _ => False) w).drewN _).trans H2.out (fun _ h => h.elim)⟩
set_option maxRecDepth 100000 in
theorem r6RowsOf0 (w : World) : Calls Tryz.prog 120 #[.slice none 0 0] w fun e w' => e = .returned (.tuple #[.slice none 0 0, .bool true]) ∧ w = w' := by
  go_enter Tryz.func120, Tryz.ntmps120
  go_wp2
  go_ret2
  exact ⟨rfl, rfl⟩
end
end Go.Proofs.YtiinmilfgclddaaGreat

/- The document's own table: Open of a journal that is empty. -/
namespace Go.Proofs.YtiinmilfgclddaaGreat
open Go.RowKit Go.ChangeShapes
set_option linter.unusedVariables false

set_option maxRecDepth 100000 in
set_option maxHeartbeats 1000000 in
theorem r6Bytes0 (w : World) : Calls Tryz.prog 156 #[.slice none 0 0] w fun e w' => (∃ ao c, e = .returned (.slice ao 1 c)) ∧ Fr (fun _ => False) w w' := by
  obtain ⟨W1, hW1⟩ : ∃ W1, W1 = w.alloc (.cells #[.slice none 0 0, .bool false] 208) := ⟨_, rfl⟩
  have hf1 : Fr (fun _ => False) w W1 := by rw [hW1]; exact (Fr.refl _ _).alloc _
  have hb1 : W1.heap[w.heap.size]? = some (.cells #[.slice none 0 0, .bool false] 208 (0, 0)) := by rw [hW1]; exact heap_alloc_new w _
  have hm : RMkAt (fun k => w.heap.size ≤ k) W1 w.heap.size [] false := ⟨Nat.le_refl _, _, _, hb1, OwnB.nil _ _⟩
  have HNU := Lib.hid (refNum_yes 0 W1 (by decide) (fun k hk => by have := hf1.size; omega) hm (by decide))
  have HW := Lib.hid (And.intro hW1 hf1)
  clear hW1 hf1 hb1 hm
  go_enter Tryz.func156, Tryz.ntmps156
  go_wp2_with (first
    | (go_at_call 145; rw [← HW.out.1]; refine HNU.out.mono ?_; rintro e w2 ⟨rfl, hf2, hm2⟩; (have H2 := Lib.hid (And.intro hf2 hm2)); clear hf2 hm2))
  obtain ⟨_, T, v, hb2, ho2⟩ := H2.out.2
  obtain ⟨ao, c, rfl⟩ := ho2.len
  obtain ⟨k0, k1, _⟩ := ref_cells hb2
  have hl : ([] ++ numBytes 5 0 : List UInt8).length = 1 := by decide +kernel
  rw [hl] at k0
  have HF := Lib.hid ((HW.out.2.mono (T := fun k => w.heap.size ≤ k) (fun _ _ h => h.elim)).trans H2.out.1 (fun _ h => .inl h))
  clear H2 hb2 ho2 hl HNU HW
  go_loopw [4] (fun iv wr => iv = .int .i64 0 ∧ wr = w2) (fun _ _ => 0)
  case atStart => exact ⟨rfl, rfl⟩
  case round =>
    obtain ⟨rfl, rfl⟩ := hrel
    go_wp2
    go_ret
    exact ⟨⟨_, _, rfl⟩, HF.out.mono (fun k hk h => by omega)⟩
set_option maxRecDepth 100000 in
set_option maxHeartbeats 1000000 in
theorem r6Full0 (w : World) (l la d : Nat) (h1 : 1 ≤ la) (h2 : la ≤ 8192) : Calls Tryz.prog 122 #[.slice none 0 0, .agg #[.int .i64 l, .int .i64 la, .int .i64 d]] w fun e w' => e = .returned (.bool false) ∧ Fr (fun _ => False) w w' := by
  obtain ⟨W1, hW1⟩ : ∃ W1, W1 = w.alloc (.cells #[.int .i64 l, .int .i64 la, .int .i64 d] 23) := ⟨_, rfl⟩
  have hf1 : Fr (fun _ => False) w W1 := by rw [hW1]; exact (Fr.refl _ _).alloc _
  have hb1 : W1.heap[w.heap.size]? = some (.cells #[.int .i64 l, .int .i64 la, .int .i64 d] 23 (0, 0)) := by rw [hW1]; exact heap_alloc_new w _
  have HW := Lib.hid (And.intro hW1 (And.intro hf1 hb1))
  have hc := cell_of_row _ _ 1 _ _ _ hb1
  simp only [List.getElem?_toArray, List.getElem?_cons_succ, List.getElem?_cons_zero] at hc
  have d1 : decide (((la : Int) * 64) < 1) = false := decide_eq_false (by omega)
  have d2 : ¬ ((la : Int) * 64) < 1 := by omega
  clear hW1 hf1 hb1
  go_enter Tryz.func122, Tryz.ntmps122
  go_wp2_with fail
  rw [← HW.out.1]
  go_region_held_law (fun w' => w'.cell? ⟨w.heap.size, 1, none⟩ = some (.int .i64 la)) (first | assumption | go_keep) (first
    | (go_at_call 156; refine (r6Bytes0 _).mono ?_; rintro e w2 ⟨⟨ao, c, rfl⟩, hf2⟩; (have hc := hf2.cell hc id); (have H2 := Lib.hid hf2); clear hf2))
  all_goals (
    have hwr : IntKind.i64.wrap ((la : Int) * 64) = (la : Int) * 64 := wraps_i64 _ (by omega) (by omega)
    rw [hwr, d1]
    go_wp2
    go_ret
    exact ⟨rfl, (HW.out.2.1.trans ((Fr.refl (fun _ => False) W1).drew) (fun _ h => h.elim)).trans H2.out (fun _ h => h.elim)⟩)
def R6Post (w : World) (e : Ending) (w' : World) : Prop := ∃ rn, e = .returned (.tuple #[.pointer (some ⟨rn, 0, none⟩), .int .i64 0]) ∧ Fr (fun _ => False) w w'
set_option maxRecDepth 100000 in
set_option maxHeartbeats 4000000 in
theorem r6Open_any {D : Nat → Prop} (w : World) (g l la d s : Nat) (dv : Dv) (h : Hd) (hok : ShOk l la d s) (hd : RefAt w D g s dv) (hup : dv.down = false) (hw : dv.waits = []) (hsec : secAt dv.all 0 = h.sec) (hri : h.Right l la) (h0 : h.used = 0) (h1 : h.size = 0) (h2 : h.area = 0) :
    Calls Tryz.prog 85 #[.pointer (some ⟨g, 0, none⟩), .agg #[.int .i64 l, .int .i64 la, .int .i64 d]] w (R6Post w) := by
  have hl : l ≤ 8192 := by have := hok.sum; have := hok.most; omega
  have hla : la ≤ 8192 := by have := hok.sum; have := hok.most; omega
  obtain ⟨W1, hW1⟩ : ∃ W1, W1 = w.alloc (.cells #[.int .i64 l, .int .i64 la, .int .i64 d] 23) := ⟨_, rfl⟩
  have hf1 : Fr (fun _ => False) w W1 := by rw [hW1]; exact (Fr.refl _ _).alloc _
  have hb1 : W1.heap[w.heap.size]? = some (.cells #[.int .i64 l, .int .i64 la, .int .i64 d] 23 (0, 0)) := by rw [hW1]; exact heap_alloc_new w _
  have HOP := Lib.hid (rOpen2_any W1 g l la d s dv h hok (hd.keep hf1 (fun _ _ _ h => h)) hup hw hsec hri h0)
  have HAR := Lib.hid (fun (W : World) (jn : Nat) (H : RjAt W jn g l la d h) => rAreaOf0 H hl hla h1 h2)
  have HRE := Lib.hid (fun (W : World) (jn : Nat) (H : RjAt W jn g l la d h) => rRecs0 H)
  have HFU := Lib.hid (fun (W : World) => r6Full0 W l la d hok.a1 hla)
  have HW := Lib.hid (And.intro hW1 (And.intro hf1 hb1))
  clear hW1 hf1 hb1 hd hup hw hsec hri h0 h1 h2 hok
  go_enter Tryz.func85, Tryz.ntmps85
  go_wp2_with (first
    | (go_at_call 118; rw [← HW.out.1]; refine HOP.out.mono ?_; rintro e w2 ⟨jn, rfl, hz2, hj2, hf2⟩; (have H2 := Lib.hid (And.intro hj2 (HW.out.2.1.trans hf2 (fun _ h => h.elim)))); (have hc0 := hf2.heap HW.out.2.2 id); (have HC0 := Lib.hid hc0); clear hz2 hj2 hf2 hc0)
    | (go_at_call 119; refine (HAR.out w2 jn H2.out.1).mono ?_; rintro e w3 ⟨rfl, hf3⟩; (have H3 := Lib.hid (And.intro (H2.out.1.keep hf3 id) (And.intro (H2.out.2.trans hf3 (fun _ h => h.elim)) (hf3.heap HC0.out id)))); clear hf3)
    | (go_at_call 120; refine (r6RowsOf0 _).mono ?_; rintro e w4 ⟨rfl, rfl⟩)
    | (go_at_call 121; refine (HRE.out w3 jn H3.out.1).mono ?_; rintro e w5 ⟨rfl, hf5⟩; (have H5 := Lib.hid (And.intro (H3.out.2.1.trans hf5 (fun _ h => h.elim)) (hf5.heap H3.out.2.2 id))); (obtain ⟨s0, s1, s2⟩ := row3_cells H5.out.2); clear hf5)
    | (go_at_call 122; refine (HFU.out _).mono ?_; rintro e w6 ⟨rfl, hf6⟩; (have H6 := Lib.hid (H5.out.1.trans hf6 (fun _ h => h.elim))); clear hf6))
  clear HOP HAR HRE HFU H2 H3 H5 HC0 s0 s1 s2
  go_loopw [10, 14, 15] (fun a b c wr => a = .slice none 0 0 ∧ b = .bool false ∧ c = .int .i64 0 ∧ wr = w6) (fun _ _ _ _ => 0)
  case atStart => exact ⟨rfl, rfl, rfl, rfl⟩
  case round =>
    obtain ⟨rfl, rfl, rfl, rfl⟩ := hrel
    go_wp2
    go_ret2
    exact ⟨_, rfl, H6.out.alloc _⟩
end Go.Proofs.YtiinmilfgclddaaGreat

/- The law's own: opened. -/
namespace Go.Proofs.YtiinmilfgclddaaGreat
open Go.RowKit Go.ChangeShapes
set_option linter.unusedVariables false

/-- Both: a shape, a device, a table, and the document's. -/
def BoAt (w : World) (p l la d g : Nat) (tv : Value) (gr : Nat) (rv : Value) : Prop :=
  w.heap[p]? = some (.cells #[.int .i64 l, .int .i64 la, .int .i64 d, .pointer (some ⟨g, 0, none⟩), tv, .pointer (some ⟨gr, 0, none⟩), rv] 66 (0, 0))
section
variable {w w' : World} {p l la d g gr : Nat} {tv rv : Value}
theorem BoAt.keep {S : Nat → Prop} (h : BoAt w p l la d g tv gr rv) (hf : Fr S w w') (hS : ¬ S p) : BoAt w' p l la d g tv gr rv := hf.heap h hS
theorem BoAt.lt (h : BoAt w p l la d g tv gr rv) : p < w.heap.size := lt_of_block h
theorem BoAt.cells (h : BoAt w p l la d g tv gr rv) :
    w.cell? ⟨p, 0, none⟩ = some (.int .i64 l) ∧ w.cell? ⟨p, 1, none⟩ = some (.int .i64 la) ∧ w.cell? ⟨p, 2, none⟩ = some (.int .i64 d) ∧ w.cell? ⟨p, 3, none⟩ = some (.pointer (some ⟨g, 0, none⟩)) ∧ w.cell? ⟨p, 4, none⟩ = some tv ∧ w.cell? ⟨p, 5, none⟩ = some (.pointer (some ⟨gr, 0, none⟩)) ∧ w.cell? ⟨p, 6, none⟩ = some rv := by
  refine ⟨?_, ?_, ?_, ?_, ?_, ?_, ?_⟩ <;> exact cell_of_row _ _ _ _ _ _ h
theorem BoAt.free (h : BoAt w p l la d g tv gr rv) (i : Nat) : w.frozen? ⟨p, i, none⟩ = false := frozen_of_row _ _ _ _ _ h
theorem BoAt.tset (h : BoAt w p l la d g tv gr rv) (x : Value) : BoAt (w.setCell ⟨p, 4, none⟩ x) p l la d g x gr rv := cell_put _ h
theorem BoAt.rset (h : BoAt w p l la d g tv gr rv) (x : Value) : BoAt (w.setCell ⟨p, 6, none⟩ x) p l la d g tv gr x := cell_put _ h
set_option maxRecDepth 100000 in
set_option maxHeartbeats 4000000 in
theorem opened_any (h : BoAt w p l la d g tv gr rv) {hd : Hd} {M : Tab} (hT : ∀ W, Fr (fun _ => False) w W → Calls Tryz.prog 11 #[.pointer (some ⟨g, 0, none⟩), .agg #[.int .i64 l, .int .i64 la, .int .i64 d]] W (OpPost l la d g hd M W))
    (hR : ∀ W, Fr (fun _ => False) w W → Calls Tryz.prog 85 #[.pointer (some ⟨gr, 0, none⟩), .agg #[.int .i64 l, .int .i64 la, .int .i64 d]] W (R6Post W)) :
    Calls Tryz.prog 48 #[.pointer (some ⟨p, 0, none⟩)] w fun e w' => ∃ (tb mb jn rn : Nat) (F : Nat → Prop), e = .returned (.bool true) ∧ BoAt w' p l la d g (.pointer (some ⟨tb, 0, none⟩)) gr (.pointer (some ⟨rn, 0, none⟩)) ∧ JnAt w' jn g hd l la d false ∧ TbRow F w' tb mb jn la M ∧ (w.heap.size ≤ tb ∧ w.heap.size ≤ mb ∧ w.heap.size ≤ jn ∧ jn ≠ tb ∧ jn ≠ mb ∧ ¬ F jn) ∧ (∀ k, F k → w.heap.size ≤ k ∧ k < w'.heap.size) ∧ Fr (fun k => k = p) w w' := by
  have HT := Lib.hid hT
  have HR := Lib.hid hR
  have HB := Lib.hid h
  have hlt := h.lt
  obtain ⟨c0, c1, c2, c3, c4, c5, c6⟩ := h.cells
  clear h hT hR
  go_enter Tryz.func48, Tryz.ntmps48
  go_wp2_with fail
  go_region_held_law (fun w' => w'.cell? ⟨p, 0, none⟩ = some (.int .i64 l) ∧ w'.cell? ⟨p, 1, none⟩ = some (.int .i64 la) ∧ w'.cell? ⟨p, 2, none⟩ = some (.int .i64 d) ∧ w'.cell? ⟨p, 3, none⟩ = some (.pointer (some ⟨g, 0, none⟩))) (first | exact ⟨by assumption, by assumption, by assumption, by assumption⟩ | go_keep) (first
    | (go_at_call 11; refine (HT.out _ (Fr.refl _ w).drew).mono ?_; rintro e w2 ⟨tb, mb, jn, F, rfl, hj2, ht2, ho2, hF2, hf2⟩; (have H2 := Lib.hid (And.intro hj2 (And.intro ht2 (And.intro ho2 (And.intro hF2 ((Fr.refl (fun _ => False) w).drew.trans hf2 (fun _ h => h.elim))))))); (obtain ⟨c0, c1, c2, c3, c4, c5, c6⟩ := (HB.out.keep H2.out.2.2.2.2 id).cells); clear hj2 ht2 ho2 hF2 hf2))
  all_goals (
    go_wp2_with fail
    go_region_held_law (fun w' => w'.cell? ⟨p, 0, none⟩ = some (.int .i64 l) ∧ w'.cell? ⟨p, 1, none⟩ = some (.int .i64 la) ∧ w'.cell? ⟨p, 2, none⟩ = some (.int .i64 d) ∧ w'.cell? ⟨p, 5, none⟩ = some (.pointer (some ⟨gr, 0, none⟩))) (first | exact ⟨by assumption, by assumption, by assumption, by assumption⟩ | go_keep) (first
      | (go_at_call 85; refine (HR.out _ (H2.out.2.2.2.2.trans (Fr.refl (fun _ => False) w2).drew (fun _ h => h.elim))).mono ?_; rintro e w3 ⟨rn, rfl, hf3⟩; (have H3 := Lib.hid ((Fr.refl (fun _ => False) w2).drew.trans hf3 (fun _ h => h.elim))); (obtain ⟨c0, c1, c2, c3, c4, c5, c6⟩ := ((HB.out.keep H2.out.2.2.2.2 id).keep H3.out id).cells); clear hf3)))
  all_goals (
    have HB3 := Lib.hid ((HB.out.keep H2.out.2.2.2.2 id).keep H3.out id)
    have f4 := HB3.out.free 4
    have f6 := HB3.out.free 6
    go_wp2_with fail
    have hb5 := (HB3.out.tset (.pointer (some ⟨tb, 0, none⟩))).rset (.pointer (some ⟨rn, 0, none⟩))
    have hf5 : Fr (fun k => k = p) w3 ((w3.setCell ⟨p, 4, none⟩ (.pointer (some ⟨tb, 0, none⟩))).setCell ⟨p, 6, none⟩ (.pointer (some ⟨rn, 0, none⟩))) := (Fr.cell1 w3 p 4 _).trans (Fr.cell1 _ p 6 _) (fun k h => .inl h)
    obtain ⟨hj2, ht2, ho2, hF2, hf2⟩ := H2.out
    replace ho2 : w.heap.size ≤ tb ∧ w.heap.size ≤ mb ∧ w.heap.size ≤ jn ∧ jn ≠ tb ∧ jn ≠ mb ∧ ¬ F jn := ho2
    replace hF2 : ∀ k, F k → w.heap.size ≤ k ∧ k < w2.heap.size := hF2
    have hz3 := H3.out.size
    have hz5 := hf5.size
    go_ret
    exact ⟨tb, mb, jn, rn, F, rfl, hb5, (hj2.keep H3.out id).keep hf5 (fun e => by have e' : jn = p := e; omega), RwAt.keep (RwAt.quiet ht2 H3.out) hf5 (fun e => by have e' : tb = p := e; omega) (fun e => by have e' : mb = p := e; omega) (fun k _ hk e => by have := hF2 k hk; have e' : k = p := e; omega), ho2, fun k hk => ⟨(hF2 k hk).1, by have := (hF2 k hk).2; omega⟩, ((hf2.trans H3.out (fun _ h => h.elim)).mono (fun _ _ h => h.elim)).trans hf5 (fun k h => .inl h)⟩)
end
end Go.Proofs.YtiinmilfgclddaaGreat

/- The law's own: begin. -/
namespace Go.Proofs.YtiinmilfgclddaaGreat
open Go.RowKit Go.ChangeShapes
set_option linter.unusedVariables false

set_option maxRecDepth 100000 in
theorem tFormat_any {D : Nat → Prop} (w : World) (g l la d s : Nat) (dv : Dv) (hok : ShOk l la d s) (hd : DevAt w D g s dv) (hk6 : dv.deeds ≤ 900000000) (hw6 : dv.waits.length ≤ 900000) :
    Calls Tryz.prog 10 #[.pointer (some ⟨g, 0, none⟩), .agg #[.int .i64 l, .int .i64 la, .int .i64 d]] w (WritePost D w g s (dv.tell s (Hd.sec ⟨0, 0, 0, 1⟩))) := by
  obtain ⟨W1, hW⟩ : ∃ W, W = w.alloc (.cells #[.int .i64 l, .int .i64 la, .int .i64 d] 23) := ⟨_, rfl⟩
  have hf : Fr (fun _ => False) w W1 := by rw [hW]; exact (Fr.refl _ _).alloc _
  have HF := Lib.hid (lFormat_any W1 g l la d s dv hok (hd.keep hf (fun _ _ _ h => h)) hk6 hw6)
  have HW := Lib.hid (And.intro hW hf)
  clear hok hd hk6 hw6 hW hf
  go_enter Tryz.func10, Tryz.ntmps10
  go_wp2_with (go_at_call 26; rw [← HW.out.1]; refine HF.out.mono ?_; rintro e w2 ⟨rfl, hd2, hf2⟩; (have H2 := Lib.hid (And.intro hd2 hf2)); clear hd2 hf2)
  go_ret
  exact ⟨rfl, H2.out.1.mono (fun k _ hk => hk.elim .inl (fun h => .inr (by have := HW.out.2.size; omega))), (HW.out.2.mono (fun _ _ h => h.elim)).trans H2.out.2 (fun _ h => .inl h)⟩
/-- A new device of a shape, formatted: its state, plain. -/
theorem TgK.new (l la d s : Nat) (hok : ShOk l la d s) : ∃ dv1, (Dv.new s).tell s (Hd.sec ⟨0, 0, 0, 1⟩) = (0, dv1) ∧ TgK dv1 l la s ⟨0, 0, 0, 1⟩ [] 0 ∧ Kp dv1.all l la s ⟨0, 0, 0, 1⟩ [] [] ∧ dv1.left = 0 := by
  obtain ⟨dv1, h1, h2⟩ := LgOk.new l la d s hok
  refine ⟨dv1, h1, ⟨h2.up, h2.waits, ⟨_, _, _, _, h2.kp, KpT.none⟩, ?_, by have := h2.deeds; omega, by have := h2.round; omega⟩, h2.kp, h2.left⟩
  have : tLen [] = 1 := by decide +kernel
  rw [this]
  have := hok.a1
  omega
def BegPost (w : World) (l la d s : Nat) (dv : Dv) (e : Ending) (w' : World) : Prop :=
  ∃ (p g tb mb jn gr rn : Nat) (D F : Nat → Prop), e = .returned (.pointer (some ⟨p, 0, none⟩)) ∧ BoAt w' p l la d g (.pointer (some ⟨tb, 0, none⟩)) gr (.pointer (some ⟨rn, 0, none⟩)) ∧ JnAt w' jn g ⟨0, 0, 0, 1⟩ l la d false ∧ TbRow F w' tb mb jn la [] ∧ DevAt w' D g s dv ∧
    (∀ k, D k → w.heap.size ≤ k ∧ k < w'.heap.size ∧ k ≠ p ∧ k ≠ jn ∧ k ≠ tb ∧ k ≠ mb ∧ ¬ F k) ∧ (w.heap.size ≤ p ∧ p < tb ∧ p < mb ∧ p < jn ∧ jn ≠ tb ∧ jn ≠ mb ∧ ¬ F jn) ∧ (∀ k, F k → p < k ∧ k < w'.heap.size) ∧ Fr (fun _ => False) w w'
set_option maxRecDepth 100000 in
set_option maxHeartbeats 4000000 in
theorem begin_any (w : World) (l la d s : Nat) (hok : ShOk l la d s) (dv1 : Dv) (ht : (Dv.new s).tell s (Hd.sec ⟨0, 0, 0, 1⟩) = (0, dv1)) (K : TgK dv1 l la s ⟨0, 0, 0, 1⟩ [] 0) (k0 : Kp dv1.all l la s ⟨0, 0, 0, 1⟩ [] []) :
    Calls Tryz.prog 22 #[.agg #[.int .i64 l, .int .i64 la, .int .i64 d]] w (BegPost w l la d s dv1) := by
  have hs1 : 1 ≤ s := by have := hok.sum; omega
  have hs2 := hok.most
  obtain ⟨W1, hW⟩ : ∃ W, W = w.alloc (.cells #[.int .i64 l, .int .i64 la, .int .i64 d] 23) := ⟨_, rfl⟩
  have hf : Fr (fun _ => False) w W1 := by rw [hW]; exact (Fr.refl _ _).alloc _
  have hrow : W1.heap[w.heap.size]? = some (.cells #[.int .i64 l, .int .i64 la, .int .i64 d] 23 (0, 0)) := by rw [hW]; exact heap_alloc_new w _
  have HW := Lib.hid hW
  have H1 := Lib.hid (And.intro hf hrow)
  have HSE := Lib.hid (fun W => hok.rSecs W)
  have HNW := Lib.hid (fun W => aNew W s hs1 hs2)
  have HNR := Lib.hid (fun W => bNew W s hs1 hs2)
  have HFA := Lib.hid (fun (W : World) (g : Nat) (D : Nat → Prop) (hd : DevAt W D g s (Dv.new s)) => tFormat_any W g l la d s (Dv.new s) hok hd (by simp [Dv.new]) (by simp [Dv.new]))
  have HFR := Lib.hid (fun (W : World) (g : Nat) (D : Nat → Prop) (hd : RefAt W D g s (Dv.new s)) => rFormat_any W g l la d s (Dv.new s) hok hd rfl rfl (by simp [Dv.new]) (by simp [Dv.new]))
  rw [ht] at HFA HFR
  have HOK := Lib.hid (And.intro hok (And.intro ht (And.intro K k0)))
  obtain ⟨s0, s1, s2⟩ := row3_cells hrow
  clear hok ht K k0 hW hf hrow hs1
  go_enter Tryz.func22, Tryz.ntmps22
  go_wp2_with fail
  rw [← HW.out]
  go_wp2_with (first
    | (go_at_call 23; (with_reducible refine (HSE.out W1).mono ?_); rintro e w2 ⟨rfl, hf2⟩; (have H2 := Lib.hid (And.intro (H1.out.1.trans hf2 (fun _ h => h.elim)) (hf2.heap H1.out.2 id))); clear hf2)
    | (go_at_call 8; (with_reducible refine (HNW.out w2).mono ?_); rintro e w3 ⟨g, rfl, hd3, hf3⟩; (have H3 := Lib.hid (And.intro (H2.out.1.trans hf3 (fun _ h => h.elim)) (And.intro (hf3.heap H2.out.2 id) (And.intro (hd3.mono (E := fun k => w2.heap.size ≤ k ∧ k < w3.heap.size) (fun k hk h => ⟨h, hk⟩)) hf3.size)))); (obtain ⟨s0, s1, s2⟩ := row3_cells H3.out.2.1); clear hf3 hd3)
    | (go_at_call 23; (with_reducible refine (HSE.out w3).mono ?_); rintro e w4 ⟨rfl, hf4⟩; (have H4 := Lib.hid (And.intro (H3.out.1.trans hf4 (fun _ h => h.elim)) (And.intro (hf4.heap H3.out.2.1 id) (And.intro (H3.out.2.2.1.keep hf4 (fun _ _ _ h => h)) hf4.size)))); clear hf4)
    | (go_at_call 46; (with_reducible refine (HNR.out w4).mono ?_); rintro e w5 ⟨gr, rfl, hd5, hf5⟩; (have H5 := Lib.hid (And.intro (H4.out.1.trans hf5 (fun _ h => h.elim)) (And.intro (hf5.heap H4.out.2.1 id) (And.intro (H4.out.2.2.1.keep hf5 (fun _ _ _ h => h)) (And.intro (hd5.mono (E := fun k => w4.heap.size ≤ k ∧ k < w5.heap.size) (fun k hk h => ⟨h, hk⟩)) hf5.size))))); (obtain ⟨s0, s1, s2⟩ := row3_cells H5.out.2.1); clear hf5 hd5))
  obtain ⟨h5a, h5b, h5c, h5d, h5e⟩ := H5.out
  have z1 := H1.out.1.size
  have z2 := H2.out.1.size
  have z3 := H3.out.2.2.2
  have z4 := H4.out.2.2.2
  have hg2 := lt_of_block H2.out.2
  refine (HFA.out w5 g _ h5c).mono ?_
  rintro e w6 ⟨rfl, hd6, hf6⟩
  have hr6 := h5d.keep hf6 (fun k _ hk hk2 => by omega)
  have hs6 := hf6.heap h5b (fun hh => by omega)
  have hd6' := hd6.mono (E := fun k => ((w2.heap.size ≤ k ∧ k < w3.heap.size) ∨ w5.heap.size ≤ k) ∧ k < w6.heap.size) (fun k hk h => ⟨h, hk⟩)
  have z6 := hf6.size
  have H6 := Lib.hid (And.intro (h5a.trans hf6 (fun k hk => .inr (by omega))) (And.intro hs6 (And.intro hd6' (And.intro hr6 z6))))
  obtain ⟨s0, s1, s2⟩ := row3_cells hs6
  have HZ := Lib.hid (And.intro hg2 (And.intro z1 (And.intro z2 (And.intro z3 (And.intro z4 h5e)))))
  clear h5a h5b h5c h5d h5e hd6 hf6 hr6 hs6 hd6' z6 z1 z2 z3 z4 hg2
  go_wp2_with fail
  obtain ⟨h6a, h6b, h6c, h6d, h6e⟩ := H6.out
  have hz := HZ.out
  refine (HFR.out w6 gr _ h6d).mono ?_
  rintro e w7 ⟨rfl, hd7, hf7⟩
  have hs7 := hf7.heap h6b (fun hh => by omega)
  have hv7 := h6c.keep hf7 (fun k _ hk hk2 => by omega)
  have hd7' := hd7.mono (E := fun k => ((w4.heap.size ≤ k ∧ k < w5.heap.size) ∨ w6.heap.size ≤ k) ∧ k < w7.heap.size) (fun k hk h => ⟨h, hk⟩)
  have H7 := Lib.hid (And.intro (h6a.trans hf7 (fun k hk => .inr (by omega))) (And.intro hs7 (And.intro hv7 (And.intro hd7' hf7.size))))
  obtain ⟨s0, s1, s2⟩ := row3_cells hs7
  clear h6a h6b h6c h6d h6e hd7 hf7 hs7 hv7 hd7' hz
  go_wp2_with fail
  obtain ⟨h7a, h7b, h7c, h7d, h7e⟩ := H7.out
  have hz := HZ.out
  have h6e := H6.out.2.2.2.2
  obtain ⟨hok, ht, K, k0⟩ := HOK.out
  obtain ⟨W8, hW8⟩ : ∃ W, W = w7.alloc (.cells #[.int .i64 l, .int .i64 la, .int .i64 d, .pointer (some ⟨g, 0, none⟩), .pointer none, .pointer (some ⟨gr, 0, none⟩), .pointer none] 66) := ⟨_, rfl⟩
  have hf8 : Fr (fun _ => False) w7 W8 := by rw [hW8]; exact (Fr.refl _ _).alloc _
  have hz8 : W8.heap.size = w7.heap.size + 1 := by rw [hW8]; simp
  have hb8 : BoAt W8 w7.heap.size l la d g (.pointer none) gr (.pointer none) := by rw [hW8]; exact heap_alloc_new w7 _
  have hd8 := h7c.keep hf8 (fun _ _ _ h => h)
  have hr8 := h7d.keep hf8 (fun _ _ _ h => h)
  have HOD := Lib.hid (opened_any hb8 (fun W hW => tOpen_any W g l la d s dv1 ⟨0, 0, 0, 1⟩ hok (hd8.keep hW (fun _ _ _ h => h)) K.up K.waits k0 KpT.none K.fit) (fun W hW => r6Open_any W gr l la d s dv1 ⟨0, 0, 0, 1⟩ hok (hr8.keep hW (fun _ _ _ h => h)) K.up K.waits k0.head k0.right rfl rfl rfl))
  rw [← hW8]
  have HX := Lib.hid (And.intro (h7a.trans hf8 (fun _ h => h.elim)) (And.intro hd8 (And.intro hz8 (And.intro h7e h6e))))
  clear h7a h7b h7c h7d h7e hz h6e hok ht K k0 hW8 hf8 hz8 hb8 hd8 hr8
  go_wp2_with (go_at_call 48; refine HOD.out.mono ?_; rintro e w9 ⟨tb, mb, jn, rn, F, rfl, a1, a2, a3, a4, a5, a6⟩; (have H9 := Lib.hid (And.intro a1 (And.intro a2 (And.intro a3 (And.intro a4 (And.intro a5 a6)))))); clear a1 a2 a3 a4 a5 a6)
  go_ret
  obtain ⟨a1, a2, a3, a4, a5, a6⟩ := H9.out
  obtain ⟨b1, b2, b3, b4, b5⟩ := HX.out
  have hz := HZ.out
  have hz9 := a6.size
  have hjl := a2.lt
  have htl := RwAt.lt a3
  exact ⟨w7.heap.size, g, tb, mb, jn, gr, rn, _, F, rfl, a1, a2, a3, b2.keep a6 (fun k _ hk e => by have e' : k = w7.heap.size := e; omega), fun k hk => ⟨by omega, by omega, by omega, by omega, by omega, by omega, fun hF => by have := a5 k hF; omega⟩, ⟨by omega, by omega, by omega, by omega, a4.2.2.2.1, a4.2.2.2.2.1, a4.2.2.2.2.2⟩, fun k hk => ⟨by have := a5 k hk; omega, (a5 k hk).2⟩, b1.trans a6 (fun k e => .inr (by have e' : k = w7.heap.size := e; omega))⟩
end Go.Proofs.YtiinmilfgclddaaGreat

