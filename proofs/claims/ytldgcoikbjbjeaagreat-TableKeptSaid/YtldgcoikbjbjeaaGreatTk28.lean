/- Laid together: TFit -/
import Derived.Test.YtldgcoikbjbjeaaGreatTk22
import Derived.Test.YtldgcoikbjbjeaaGreatTk27
import Derived.Test.YtldgcoikbjbjeaaGreatTk17

namespace Go.Proofs.YtldgcoikbjbjeaaGreat
open Go.RowKit Go.ChangeShapes
set_option linter.unusedVariables false
theorem leq6 {x y : Int} {b : Bool} {w : World} (h : decide (x ≤ y) = b) : (binOp .leq 3 (.int .i64 x) (.int .i64 y)).run Tryz.prog w = .ok (.bool b) w := by
  subst h
  by_cases hx : x ≤ y
  · rw [decide_eq_true hx]; exact leq_yes hx
  · rw [decide_eq_false hx]; exact leq_no (by omega)
def FitT (tb n t m : Nat) (i : Nat) (v : Value) (W : World) : Prop :=
  match i with
  | 0 => v = .pointer (some ⟨tb, 0, none⟩)
  | 1 => v = .pointer (some ⟨tb, 0, none⟩)
  | 2 => v = .pointer (some ⟨tb, 0, none⟩)
  | 3 => v = .int .i64 (n : Nat)
  | 4 => v = .bool true
  | 5 => v = .bool true
  | 6 => v = .pointer (some ⟨tb, 0, none⟩)
  | 7 => v = .pointer (some ⟨tb, 0, none⟩)
  | 8 => v = .pointer (some ⟨tb, 0, none⟩)
  | 9 => v = .int .i64 (t : Nat)
  | 10 => v = .pointer (some ⟨tb, 0, none⟩)
  | 11 => v = .pointer (some ⟨tb, 0, none⟩)
  | 12 => v = .pointer (some ⟨tb, 3, none⟩)
  | 13 => v = .int .i64 (m : Nat)
  | 14 => v = .bool true
  | 15 => v = .bool true
  | _ => True
theorem FitT.ext (tb n t m : Nat) : ∀ (j : Nat) (u : Value) (W W' : World), Fr (fun _ => False) W W' → FitT tb n t m j u W → FitT tb n t m j u W'
  | 0, u, W, W', hf, h => h
  | 1, u, W, W', hf, h => h
  | 2, u, W, W', hf, h => h
  | 3, u, W, W', hf, h => h
  | 4, u, W, W', hf, h => h
  | 5, u, W, W', hf, h => h
  | 6, u, W, W', hf, h => h
  | 7, u, W, W', hf, h => h
  | 8, u, W, W', hf, h => h
  | 9, u, W, W', hf, h => h
  | 10, u, W, W', hf, h => h
  | 11, u, W, W', hf, h => h
  | 12, u, W, W', hf, h => h
  | 13, u, W, W', hf, h => h
  | 14, u, W, W', hf, h => h
  | 15, u, W, W', hf, h => h
  | _ + 16, u, W, W', hf, h => trivial
def FitF (tb n t m : Nat) (i : Nat) (v : Value) (W : World) : Prop :=
  match i with
  | 0 => v = .pointer (some ⟨tb, 0, none⟩)
  | 1 => v = .pointer (some ⟨tb, 0, none⟩)
  | 2 => v = .pointer (some ⟨tb, 0, none⟩)
  | 3 => v = .int .i64 (n : Nat)
  | 4 => v = .bool true
  | 5 => v = .bool true
  | 6 => v = .pointer (some ⟨tb, 0, none⟩)
  | 7 => v = .pointer (some ⟨tb, 0, none⟩)
  | 8 => v = .pointer (some ⟨tb, 0, none⟩)
  | 9 => v = .int .i64 (t : Nat)
  | 10 => v = .pointer (some ⟨tb, 0, none⟩)
  | 11 => v = .pointer (some ⟨tb, 0, none⟩)
  | 12 => v = .pointer (some ⟨tb, 3, none⟩)
  | 13 => v = .int .i64 (m : Nat)
  | 14 => v = .bool false
  | 15 => v = .bool false
  | _ => True
theorem FitF.ext (tb n t m : Nat) : ∀ (j : Nat) (u : Value) (W W' : World), Fr (fun _ => False) W W' → FitF tb n t m j u W → FitF tb n t m j u W'
  | 0, u, W, W', hf, h => h
  | 1, u, W, W', hf, h => h
  | 2, u, W, W', hf, h => h
  | 3, u, W, W', hf, h => h
  | 4, u, W, W', hf, h => h
  | 5, u, W, W', hf, h => h
  | 6, u, W, W', hf, h => h
  | 7, u, W, W', hf, h => h
  | 8, u, W, W', hf, h => h
  | 9, u, W, W', hf, h => h
  | 10, u, W, W', hf, h => h
  | 11, u, W, W', hf, h => h
  | 12, u, W, W', hf, h => h
  | 13, u, W, W', hf, h => h
  | 14, u, W, W', hf, h => h
  | 15, u, W, W', hf, h => h
  | _ + 16, u, W, W', hf, h => trivial
def FitN (tb n t m : Nat) (i : Nat) (v : Value) (W : World) : Prop :=
  match i with
  | 0 => v = .pointer (some ⟨tb, 0, none⟩)
  | 1 => v = .pointer (some ⟨tb, 0, none⟩)
  | 2 => v = .pointer (some ⟨tb, 0, none⟩)
  | 3 => v = .int .i64 (n : Nat)
  | 4 => v = .bool false
  | 5 => v = .bool false
  | 6 => v = undef
  | 7 => v = undef
  | 8 => v = undef
  | 9 => v = undef
  | 10 => v = undef
  | 11 => v = undef
  | 12 => v = undef
  | 13 => v = undef
  | 14 => v = undef
  | 15 => v = .bool false
  | _ => True
theorem FitN.ext (tb n t m : Nat) : ∀ (j : Nat) (u : Value) (W W' : World), Fr (fun _ => False) W W' → FitN tb n t m j u W → FitN tb n t m j u W'
  | 0, u, W, W', hf, h => h
  | 1, u, W, W', hf, h => h
  | 2, u, W, W', hf, h => h
  | 3, u, W, W', hf, h => h
  | 4, u, W, W', hf, h => h
  | 5, u, W, W', hf, h => h
  | 6, u, W, W', hf, h => h
  | 7, u, W, W', hf, h => h
  | 8, u, W, W', hf, h => h
  | 9, u, W, W', hf, h => h
  | 10, u, W, W', hf, h => h
  | 11, u, W, W', hf, h => h
  | 12, u, W, W', hf, h => h
  | 13, u, W, W', hf, h => h
  | 14, u, W, W', hf, h => h
  | 15, u, W, W', hf, h => h
  | _ + 16, u, W, W', hf, h => trivial
section
variable {F S : Nat → Prop} {w w' : World} {tb mb jn la : Nat} {M : Tab}
set_option maxRecDepth 100000 in
set_option maxHeartbeats 2000000 in
theorem fits_any (h : TbRow F w tb mb jn la M) : Calls Tryz.prog 29 #[.pointer (some ⟨tb, 0, none⟩)] w fun e w' => e = .returned (.bool (decide (M.length ≤ 4000 ∧ tLen M ≤ 64 * la))) ∧ Fr (fun _ => False) w w' := by
  have hm := fun W hf => many_any W (RwAt.quiet (w := w) (w' := W) h hf)
  have hl := fun W hf => length_any W (RwAt.quiet (w := w) (w' := W) h hf)
  have htl := tLen_le h
  have hsm := RwAt.small h
  obtain ⟨n, hn⟩ : ∃ n, n = M.length := ⟨_, rfl⟩
  obtain ⟨t, ht⟩ : ∃ t, t = tLen M := ⟨_, rfl⟩
  obtain ⟨m, hm2⟩ : ∃ m, m = 64 * la := ⟨_, rfl⟩
  have HMA := Lib.hid (fun W (hf : Fr (fun _ => False) w W) => (hm W hf).mono (fun e w' (h : e = _ ∧ w' = W) => (⟨h.1, by rw [h.2]; exact Fr.refl _ _⟩ : e = _ ∧ Fr (fun _ => False) W w')))
  have HLE := Lib.hid hl
  rw [← hn] at HMA hsm
  rw [← ht] at HLE htl
  have LDM := Lib.hid (fun W (hf : Fr (fun _ => False) w W) => load_int5 W ⟨tb, 3, none⟩ (.int .i64 m) (by have := (TbRow.cells (RwAt.quiet (w := w) (w' := W) h hf)).2.1; rw [← hm2] at this; exact this))
  rw [← hn, ← ht, ← hm2]
  clear hm hl h hn ht hm2
  by_cases h1 : n ≤ 4000
  · have d1 : decide ((n : Int) ≤ (4000 : Int)) = true := by rw [decide_eq_true_iff]; omega
    by_cases h2 : t ≤ m
    · have d2 : decide ((t : Int) ≤ (m : Int)) = true := by rw [decide_eq_true_iff]; omega
      have hres : decide (n ≤ 4000 ∧ t ≤ m) = true := by simp [h1, h2]
      rw [hres]
      go_enter Tryz.func29, Tryz.ntmps29
      go_wp2_with fail
      refine wp_region_inv 16 (by kernel_rfl) (by kernel_rfl) (fun W => Fr (fun _ => False) w W) (FitT tb n t m) (fun _ _ _ _ => True) (Fr (fun _ => False)) (FitT.ext tb n t m) (Fr.refl _ _).drew ?_ ?_
      · intro i hi o ho
        replace hi : i < 16 := hi
        obtain rfl | rfl | rfl | rfl | rfl | rfl | rfl | rfl | rfl | rfl | rfl | rfl | rfl | rfl | rfl | rfl : i = 0 ∨ i = 1 ∨ i = 2 ∨ i = 3 ∨ i = 4 ∨ i = 5 ∨ i = 6 ∨ i = 7 ∨ i = 8 ∨ i = 9 ∨ i = 10 ∨ i = 11 ∨ i = 12 ∨ i = 13 ∨ i = 14 ∨ i = 15 := by omega
        · simp only [List.getElem?_cons_zero, Option.some.injEq] at ho
          subst ho
          intro a W vs hB hS hE hU
          refine wpG_plain rfl ?_
          have v0 : a.eval (.tmp 0) = .pointer (some ⟨tb, 0, none⟩) := (hU 0 (by kernel_rfl)).trans rfl
          clear hE hU
          exact wp_value_inv (w' := W) (.pointer (some ⟨tb, 0, none⟩)) (op_move rfl v0) ⟨_, rfl, hB, Fr.refl _ _, rfl, fun _ _ _ _ _ => trivial⟩
        · simp only [List.getElem?_cons_zero, List.getElem?_cons_succ, Option.some.injEq] at ho
          subst ho
          intro a W vs hB hS hE hU
          refine wpG_plain rfl ?_
          obtain ⟨r0, e3⟩ := hE 0 3 (by kernel_rfl) (by kernel_rfl)
          have v3 : a.eval (.tmp 3) = .pointer (some ⟨tb, 0, none⟩) := e3.trans r0
          clear hE hU
          exact wp_value_inv (w' := W) (.pointer (some ⟨tb, 0, none⟩)) (op_nilCheck rfl v3) ⟨_, rfl, hB, Fr.refl _ _, rfl, fun _ _ _ _ _ => trivial⟩
        · simp only [List.getElem?_cons_zero, List.getElem?_cons_succ, Option.some.injEq] at ho
          subst ho
          intro a W vs hB hS hE hU
          refine wpG_plain rfl ?_
          obtain ⟨r1, e4⟩ := hE 1 4 (by kernel_rfl) (by kernel_rfl)
          have v4 : a.eval (.tmp 4) = .pointer (some ⟨tb, 0, none⟩) := e4.trans r1
          clear hE hU
          exact wp_value_inv (w' := W) (.pointer (some ⟨tb, 0, none⟩)) (op_fieldAddr rfl v4 (fld_spence_table_Table_0_0 W tb)) ⟨_, rfl, hB, Fr.refl _ _, rfl, fun _ _ _ _ _ => trivial⟩
        · simp only [List.getElem?_cons_zero, List.getElem?_cons_succ, Option.some.injEq] at ho
          subst ho
          intro a W vs hB hS hE hU
          refine wpG_plain rfl ?_
          obtain ⟨r2, e5⟩ := hE 2 5 (by kernel_rfl) (by kernel_rfl)
          have v5 : a.eval (.tmp 5) = .pointer (some ⟨tb, 0, none⟩) := e5.trans r2
          clear hE hU
          refine wp_call_inv 42 #[.tmp 5] #[81] rfl #[.pointer (some ⟨tb, 0, none⟩)] (by simp only [List.map_toArray, List.map_cons, List.map_nil, v5]) (ent___spence_table_rows__many _) (Post := fun v W' => v = .int .i64 (n : Nat) ∧ Fr (fun _ => False) W W') ((HMA.out W hB).mono fun e w' h => ⟨_, h.1, rfl, h.2⟩) ?_
          rintro v W' ⟨rfl, hf⟩
          exact ⟨_, rfl, hB.trans hf (fun _ h => h.elim), hf, rfl, fun _ _ _ _ _ => trivial⟩
        · simp only [List.getElem?_cons_zero, List.getElem?_cons_succ, Option.some.injEq] at ho
          subst ho
          intro a W vs hB hS hE hU
          refine wpG_plain rfl ?_
          obtain ⟨r3, e6⟩ := hE 3 6 (by kernel_rfl) (by kernel_rfl)
          have v6 : a.eval (.tmp 6) = .int .i64 (n : Nat) := e6.trans r3
          clear hE hU
          exact wp_value_inv (w' := W) (.bool true) (op_bin rfl v6 rfl (rfl) (leq6 d1)) ⟨_, rfl, hB, Fr.refl _ _, rfl, fun _ _ _ _ _ => trivial⟩
        · simp only [List.getElem?_cons_zero, List.getElem?_cons_succ, Option.some.injEq] at ho
          subst ho
          intro a W vs hB hS hE hU
          refine wpG_plain rfl ?_
          obtain ⟨r4, e7⟩ := hE 4 7 (by kernel_rfl) (by kernel_rfl)
          have v7 : a.eval (.tmp 7) = .bool true := e7.trans r4
          clear hE hU
          exact wp_value_inv (w' := W) (.bool true) (op_move rfl v7) ⟨_, rfl, hB, Fr.refl _ _, rfl, fun _ _ _ _ _ => trivial⟩
        · simp only [List.getElem?_cons_zero, List.getElem?_cons_succ, Option.some.injEq] at ho
          subst ho
          intro a W vs hB hS hE hU
          obtain ⟨r5, e8⟩ := hE 5 8 (by kernel_rfl) (by kernel_rfl)
          have v8 : a.eval (.tmp 8) = .bool true := e8.trans r5
          refine wpG_yes 5 true 8 rfl (by kernel_rfl) (by rw [hS]; first | simp | exact Nat.le_of_ble_eq_true rfl) v8 ?_
          have v0 : a.eval (.tmp 0) = .pointer (some ⟨tb, 0, none⟩) := (hU 0 (by kernel_rfl)).trans rfl
          clear hE hU
          exact wp_value_inv (w' := W) (.pointer (some ⟨tb, 0, none⟩)) (op_move rfl v0) ⟨_, rfl, hB, Fr.refl _ _, rfl, fun _ _ _ _ _ => trivial⟩
        · simp only [List.getElem?_cons_zero, List.getElem?_cons_succ, Option.some.injEq] at ho
          subst ho
          intro a W vs hB hS hE hU
          obtain ⟨r5, e8⟩ := hE 5 8 (by kernel_rfl) (by kernel_rfl)
          have v8 : a.eval (.tmp 8) = .bool true := e8.trans r5
          refine wpG_yes 5 true 8 rfl (by kernel_rfl) (by rw [hS]; first | simp | exact Nat.le_of_ble_eq_true rfl) v8 ?_
          obtain ⟨r6, e9⟩ := hE 6 9 (by kernel_rfl) (by kernel_rfl)
          have v9 : a.eval (.tmp 9) = .pointer (some ⟨tb, 0, none⟩) := e9.trans r6
          clear hE hU
          exact wp_value_inv (w' := W) (.pointer (some ⟨tb, 0, none⟩)) (op_nilCheck rfl v9) ⟨_, rfl, hB, Fr.refl _ _, rfl, fun _ _ _ _ _ => trivial⟩
        · simp only [List.getElem?_cons_zero, List.getElem?_cons_succ, Option.some.injEq] at ho
          subst ho
          intro a W vs hB hS hE hU
          obtain ⟨r5, e8⟩ := hE 5 8 (by kernel_rfl) (by kernel_rfl)
          have v8 : a.eval (.tmp 8) = .bool true := e8.trans r5
          refine wpG_yes 5 true 8 rfl (by kernel_rfl) (by rw [hS]; first | simp | exact Nat.le_of_ble_eq_true rfl) v8 ?_
          obtain ⟨r7, e10⟩ := hE 7 10 (by kernel_rfl) (by kernel_rfl)
          have v10 : a.eval (.tmp 10) = .pointer (some ⟨tb, 0, none⟩) := e10.trans r7
          clear hE hU
          exact wp_value_inv (w' := W) (.pointer (some ⟨tb, 0, none⟩)) (op_fieldAddr rfl v10 (fld_spence_table_Table_0_0 W tb)) ⟨_, rfl, hB, Fr.refl _ _, rfl, fun _ _ _ _ _ => trivial⟩
        · simp only [List.getElem?_cons_zero, List.getElem?_cons_succ, Option.some.injEq] at ho
          subst ho
          intro a W vs hB hS hE hU
          obtain ⟨r5, e8⟩ := hE 5 8 (by kernel_rfl) (by kernel_rfl)
          have v8 : a.eval (.tmp 8) = .bool true := e8.trans r5
          refine wpG_yes 5 true 8 rfl (by kernel_rfl) (by rw [hS]; first | simp | exact Nat.le_of_ble_eq_true rfl) v8 ?_
          obtain ⟨r8, e11⟩ := hE 8 11 (by kernel_rfl) (by kernel_rfl)
          have v11 : a.eval (.tmp 11) = .pointer (some ⟨tb, 0, none⟩) := e11.trans r8
          clear hE hU
          refine wp_call_inv 43 #[.tmp 11] #[81] rfl #[.pointer (some ⟨tb, 0, none⟩)] (by simp only [List.map_toArray, List.map_cons, List.map_nil, v11]) (ent___spence_table_rows__length _) (Post := fun v W' => v = .int .i64 (t : Nat) ∧ Fr (fun _ => False) W W') ((HLE.out W hB).mono fun e w' h => ⟨_, h.1, rfl, h.2⟩) ?_
          rintro v W' ⟨rfl, hf⟩
          exact ⟨_, rfl, hB.trans hf (fun _ h => h.elim), hf, rfl, fun _ _ _ _ _ => trivial⟩
        · simp only [List.getElem?_cons_zero, List.getElem?_cons_succ, Option.some.injEq] at ho
          subst ho
          intro a W vs hB hS hE hU
          obtain ⟨r5, e8⟩ := hE 5 8 (by kernel_rfl) (by kernel_rfl)
          have v8 : a.eval (.tmp 8) = .bool true := e8.trans r5
          refine wpG_yes 5 true 8 rfl (by kernel_rfl) (by rw [hS]; first | simp | exact Nat.le_of_ble_eq_true rfl) v8 ?_
          have v0 : a.eval (.tmp 0) = .pointer (some ⟨tb, 0, none⟩) := (hU 0 (by kernel_rfl)).trans rfl
          clear hE hU
          exact wp_value_inv (w' := W) (.pointer (some ⟨tb, 0, none⟩)) (op_move rfl v0) ⟨_, rfl, hB, Fr.refl _ _, rfl, fun _ _ _ _ _ => trivial⟩
        · simp only [List.getElem?_cons_zero, List.getElem?_cons_succ, Option.some.injEq] at ho
          subst ho
          intro a W vs hB hS hE hU
          obtain ⟨r5, e8⟩ := hE 5 8 (by kernel_rfl) (by kernel_rfl)
          have v8 : a.eval (.tmp 8) = .bool true := e8.trans r5
          refine wpG_yes 5 true 8 rfl (by kernel_rfl) (by rw [hS]; first | simp | exact Nat.le_of_ble_eq_true rfl) v8 ?_
          obtain ⟨r10, e13⟩ := hE 10 13 (by kernel_rfl) (by kernel_rfl)
          have v13 : a.eval (.tmp 13) = .pointer (some ⟨tb, 0, none⟩) := e13.trans r10
          clear hE hU
          exact wp_value_inv (w' := W) (.pointer (some ⟨tb, 0, none⟩)) (op_nilCheck rfl v13) ⟨_, rfl, hB, Fr.refl _ _, rfl, fun _ _ _ _ _ => trivial⟩
        · simp only [List.getElem?_cons_zero, List.getElem?_cons_succ, Option.some.injEq] at ho
          subst ho
          intro a W vs hB hS hE hU
          obtain ⟨r5, e8⟩ := hE 5 8 (by kernel_rfl) (by kernel_rfl)
          have v8 : a.eval (.tmp 8) = .bool true := e8.trans r5
          refine wpG_yes 5 true 8 rfl (by kernel_rfl) (by rw [hS]; first | simp | exact Nat.le_of_ble_eq_true rfl) v8 ?_
          obtain ⟨r11, e14⟩ := hE 11 14 (by kernel_rfl) (by kernel_rfl)
          have v14 : a.eval (.tmp 14) = .pointer (some ⟨tb, 0, none⟩) := e14.trans r11
          clear hE hU
          exact wp_value_inv (w' := W) (.pointer (some ⟨tb, 3, none⟩)) (op_fieldAddr rfl v14 (fld_spence_table_Table_2_0 W tb)) ⟨_, rfl, hB, Fr.refl _ _, rfl, fun _ _ _ _ _ => trivial⟩
        · simp only [List.getElem?_cons_zero, List.getElem?_cons_succ, Option.some.injEq] at ho
          subst ho
          intro a W vs hB hS hE hU
          obtain ⟨r5, e8⟩ := hE 5 8 (by kernel_rfl) (by kernel_rfl)
          have v8 : a.eval (.tmp 8) = .bool true := e8.trans r5
          refine wpG_yes 5 true 8 rfl (by kernel_rfl) (by rw [hS]; first | simp | exact Nat.le_of_ble_eq_true rfl) v8 ?_
          obtain ⟨r12, e15⟩ := hE 12 15 (by kernel_rfl) (by kernel_rfl)
          have v15 : a.eval (.tmp 15) = .pointer (some ⟨tb, 3, none⟩) := e15.trans r12
          clear hE hU
          exact wp_value_inv (w' := W) (.int .i64 (m : Nat)) (op_loadAt rfl v15 (LDM.out W hB)) ⟨_, rfl, hB, Fr.refl _ _, rfl, fun _ _ _ _ _ => trivial⟩
        · simp only [List.getElem?_cons_zero, List.getElem?_cons_succ, Option.some.injEq] at ho
          subst ho
          intro a W vs hB hS hE hU
          obtain ⟨r5, e8⟩ := hE 5 8 (by kernel_rfl) (by kernel_rfl)
          have v8 : a.eval (.tmp 8) = .bool true := e8.trans r5
          refine wpG_yes 5 true 8 rfl (by kernel_rfl) (by rw [hS]; first | simp | exact Nat.le_of_ble_eq_true rfl) v8 ?_
          obtain ⟨r9, e12⟩ := hE 9 12 (by kernel_rfl) (by kernel_rfl)
          have v12 : a.eval (.tmp 12) = .int .i64 (t : Nat) := e12.trans r9
          obtain ⟨r13, e16⟩ := hE 13 16 (by kernel_rfl) (by kernel_rfl)
          have v16 : a.eval (.tmp 16) = .int .i64 (m : Nat) := e16.trans r13
          clear hE hU
          exact wp_value_inv (w' := W) (.bool true) (op_bin rfl v12 v16 (rfl) (leq6 d2)) ⟨_, rfl, hB, Fr.refl _ _, rfl, fun _ _ _ _ _ => trivial⟩
        · simp only [List.getElem?_cons_zero, List.getElem?_cons_succ, Option.some.injEq] at ho
          subst ho
          intro a W vs hB hS hE hU
          refine wpG_plain rfl ?_
          obtain ⟨r5, e8⟩ := hE 5 8 (by kernel_rfl) (by kernel_rfl)
          have v8 : a.eval (.tmp 8) = .bool true := e8.trans r5
          obtain ⟨r14, e17⟩ := hE 14 17 (by kernel_rfl) (by kernel_rfl)
          have v17 : a.eval (.tmp 17) = .bool true := e17.trans r14
          clear hE hU
          exact wp_value_inv (w' := W) (.bool true) (op_pick rfl v8 (by simp only [if_true]; exact v17)) ⟨_, rfl, hB, Fr.refl _ _, rfl, fun _ _ _ _ _ => trivial⟩
      · intro vs Wa hB0 hR0 hD
        have r18 : vs 15 = .bool true := hR0 15 (by decide)
        have HB := Lib.hid hB0
        clear hR0 hD hB0
        simp only [acts, if_true, dstAt, List.getElem?_cons_zero, List.getElem?_cons_succ, Option.bind_some, Act.put, List.setIfInBounds_toArray, List.set_cons_succ, List.set_cons_zero, List.drop_succ_cons]
        simp only [r18]
        clear r18
        go_wp2
        go_ret
        exact ⟨rfl, HB.out⟩
    · have d2 : decide ((t : Int) ≤ (m : Int)) = false := by rw [decide_eq_false_iff_not]; omega
      have hres : decide (n ≤ 4000 ∧ t ≤ m) = false := by simp [h2]
      rw [hres]
      go_enter Tryz.func29, Tryz.ntmps29
      go_wp2_with fail
      refine wp_region_inv 16 (by kernel_rfl) (by kernel_rfl) (fun W => Fr (fun _ => False) w W) (FitF tb n t m) (fun _ _ _ _ => True) (Fr (fun _ => False)) (FitF.ext tb n t m) (Fr.refl _ _).drew ?_ ?_
      · intro i hi o ho
        replace hi : i < 16 := hi
        obtain rfl | rfl | rfl | rfl | rfl | rfl | rfl | rfl | rfl | rfl | rfl | rfl | rfl | rfl | rfl | rfl : i = 0 ∨ i = 1 ∨ i = 2 ∨ i = 3 ∨ i = 4 ∨ i = 5 ∨ i = 6 ∨ i = 7 ∨ i = 8 ∨ i = 9 ∨ i = 10 ∨ i = 11 ∨ i = 12 ∨ i = 13 ∨ i = 14 ∨ i = 15 := by omega
        · simp only [List.getElem?_cons_zero, Option.some.injEq] at ho
          subst ho
          intro a W vs hB hS hE hU
          refine wpG_plain rfl ?_
          have v0 : a.eval (.tmp 0) = .pointer (some ⟨tb, 0, none⟩) := (hU 0 (by kernel_rfl)).trans rfl
          clear hE hU
          exact wp_value_inv (w' := W) (.pointer (some ⟨tb, 0, none⟩)) (op_move rfl v0) ⟨_, rfl, hB, Fr.refl _ _, rfl, fun _ _ _ _ _ => trivial⟩
        · simp only [List.getElem?_cons_zero, List.getElem?_cons_succ, Option.some.injEq] at ho
          subst ho
          intro a W vs hB hS hE hU
          refine wpG_plain rfl ?_
          obtain ⟨r0, e3⟩ := hE 0 3 (by kernel_rfl) (by kernel_rfl)
          have v3 : a.eval (.tmp 3) = .pointer (some ⟨tb, 0, none⟩) := e3.trans r0
          clear hE hU
          exact wp_value_inv (w' := W) (.pointer (some ⟨tb, 0, none⟩)) (op_nilCheck rfl v3) ⟨_, rfl, hB, Fr.refl _ _, rfl, fun _ _ _ _ _ => trivial⟩
        · simp only [List.getElem?_cons_zero, List.getElem?_cons_succ, Option.some.injEq] at ho
          subst ho
          intro a W vs hB hS hE hU
          refine wpG_plain rfl ?_
          obtain ⟨r1, e4⟩ := hE 1 4 (by kernel_rfl) (by kernel_rfl)
          have v4 : a.eval (.tmp 4) = .pointer (some ⟨tb, 0, none⟩) := e4.trans r1
          clear hE hU
          exact wp_value_inv (w' := W) (.pointer (some ⟨tb, 0, none⟩)) (op_fieldAddr rfl v4 (fld_spence_table_Table_0_0 W tb)) ⟨_, rfl, hB, Fr.refl _ _, rfl, fun _ _ _ _ _ => trivial⟩
        · simp only [List.getElem?_cons_zero, List.getElem?_cons_succ, Option.some.injEq] at ho
          subst ho
          intro a W vs hB hS hE hU
          refine wpG_plain rfl ?_
          obtain ⟨r2, e5⟩ := hE 2 5 (by kernel_rfl) (by kernel_rfl)
          have v5 : a.eval (.tmp 5) = .pointer (some ⟨tb, 0, none⟩) := e5.trans r2
          clear hE hU
          refine wp_call_inv 42 #[.tmp 5] #[81] rfl #[.pointer (some ⟨tb, 0, none⟩)] (by simp only [List.map_toArray, List.map_cons, List.map_nil, v5]) (ent___spence_table_rows__many _) (Post := fun v W' => v = .int .i64 (n : Nat) ∧ Fr (fun _ => False) W W') ((HMA.out W hB).mono fun e w' h => ⟨_, h.1, rfl, h.2⟩) ?_
          rintro v W' ⟨rfl, hf⟩
          exact ⟨_, rfl, hB.trans hf (fun _ h => h.elim), hf, rfl, fun _ _ _ _ _ => trivial⟩
        · simp only [List.getElem?_cons_zero, List.getElem?_cons_succ, Option.some.injEq] at ho
          subst ho
          intro a W vs hB hS hE hU
          refine wpG_plain rfl ?_
          obtain ⟨r3, e6⟩ := hE 3 6 (by kernel_rfl) (by kernel_rfl)
          have v6 : a.eval (.tmp 6) = .int .i64 (n : Nat) := e6.trans r3
          clear hE hU
          exact wp_value_inv (w' := W) (.bool true) (op_bin rfl v6 rfl (rfl) (leq6 d1)) ⟨_, rfl, hB, Fr.refl _ _, rfl, fun _ _ _ _ _ => trivial⟩
        · simp only [List.getElem?_cons_zero, List.getElem?_cons_succ, Option.some.injEq] at ho
          subst ho
          intro a W vs hB hS hE hU
          refine wpG_plain rfl ?_
          obtain ⟨r4, e7⟩ := hE 4 7 (by kernel_rfl) (by kernel_rfl)
          have v7 : a.eval (.tmp 7) = .bool true := e7.trans r4
          clear hE hU
          exact wp_value_inv (w' := W) (.bool true) (op_move rfl v7) ⟨_, rfl, hB, Fr.refl _ _, rfl, fun _ _ _ _ _ => trivial⟩
        · simp only [List.getElem?_cons_zero, List.getElem?_cons_succ, Option.some.injEq] at ho
          subst ho
          intro a W vs hB hS hE hU
          obtain ⟨r5, e8⟩ := hE 5 8 (by kernel_rfl) (by kernel_rfl)
          have v8 : a.eval (.tmp 8) = .bool true := e8.trans r5
          refine wpG_yes 5 true 8 rfl (by kernel_rfl) (by rw [hS]; first | simp | exact Nat.le_of_ble_eq_true rfl) v8 ?_
          have v0 : a.eval (.tmp 0) = .pointer (some ⟨tb, 0, none⟩) := (hU 0 (by kernel_rfl)).trans rfl
          clear hE hU
          exact wp_value_inv (w' := W) (.pointer (some ⟨tb, 0, none⟩)) (op_move rfl v0) ⟨_, rfl, hB, Fr.refl _ _, rfl, fun _ _ _ _ _ => trivial⟩
        · simp only [List.getElem?_cons_zero, List.getElem?_cons_succ, Option.some.injEq] at ho
          subst ho
          intro a W vs hB hS hE hU
          obtain ⟨r5, e8⟩ := hE 5 8 (by kernel_rfl) (by kernel_rfl)
          have v8 : a.eval (.tmp 8) = .bool true := e8.trans r5
          refine wpG_yes 5 true 8 rfl (by kernel_rfl) (by rw [hS]; first | simp | exact Nat.le_of_ble_eq_true rfl) v8 ?_
          obtain ⟨r6, e9⟩ := hE 6 9 (by kernel_rfl) (by kernel_rfl)
          have v9 : a.eval (.tmp 9) = .pointer (some ⟨tb, 0, none⟩) := e9.trans r6
          clear hE hU
          exact wp_value_inv (w' := W) (.pointer (some ⟨tb, 0, none⟩)) (op_nilCheck rfl v9) ⟨_, rfl, hB, Fr.refl _ _, rfl, fun _ _ _ _ _ => trivial⟩
        · simp only [List.getElem?_cons_zero, List.getElem?_cons_succ, Option.some.injEq] at ho
          subst ho
          intro a W vs hB hS hE hU
          obtain ⟨r5, e8⟩ := hE 5 8 (by kernel_rfl) (by kernel_rfl)
          have v8 : a.eval (.tmp 8) = .bool true := e8.trans r5
          refine wpG_yes 5 true 8 rfl (by kernel_rfl) (by rw [hS]; first | simp | exact Nat.le_of_ble_eq_true rfl) v8 ?_
          obtain ⟨r7, e10⟩ := hE 7 10 (by kernel_rfl) (by kernel_rfl)
          have v10 : a.eval (.tmp 10) = .pointer (some ⟨tb, 0, none⟩) := e10.trans r7
          clear hE hU
          exact wp_value_inv (w' := W) (.pointer (some ⟨tb, 0, none⟩)) (op_fieldAddr rfl v10 (fld_spence_table_Table_0_0 W tb)) ⟨_, rfl, hB, Fr.refl _ _, rfl, fun _ _ _ _ _ => trivial⟩
        · simp only [List.getElem?_cons_zero, List.getElem?_cons_succ, Option.some.injEq] at ho
          subst ho
          intro a W vs hB hS hE hU
          obtain ⟨r5, e8⟩ := hE 5 8 (by kernel_rfl) (by kernel_rfl)
          have v8 : a.eval (.tmp 8) = .bool true := e8.trans r5
          refine wpG_yes 5 true 8 rfl (by kernel_rfl) (by rw [hS]; first | simp | exact Nat.le_of_ble_eq_true rfl) v8 ?_
          obtain ⟨r8, e11⟩ := hE 8 11 (by kernel_rfl) (by kernel_rfl)
          have v11 : a.eval (.tmp 11) = .pointer (some ⟨tb, 0, none⟩) := e11.trans r8
          clear hE hU
          refine wp_call_inv 43 #[.tmp 11] #[81] rfl #[.pointer (some ⟨tb, 0, none⟩)] (by simp only [List.map_toArray, List.map_cons, List.map_nil, v11]) (ent___spence_table_rows__length _) (Post := fun v W' => v = .int .i64 (t : Nat) ∧ Fr (fun _ => False) W W') ((HLE.out W hB).mono fun e w' h => ⟨_, h.1, rfl, h.2⟩) ?_
          rintro v W' ⟨rfl, hf⟩
          exact ⟨_, rfl, hB.trans hf (fun _ h => h.elim), hf, rfl, fun _ _ _ _ _ => trivial⟩
        · simp only [List.getElem?_cons_zero, List.getElem?_cons_succ, Option.some.injEq] at ho
          subst ho
          intro a W vs hB hS hE hU
          obtain ⟨r5, e8⟩ := hE 5 8 (by kernel_rfl) (by kernel_rfl)
          have v8 : a.eval (.tmp 8) = .bool true := e8.trans r5
          refine wpG_yes 5 true 8 rfl (by kernel_rfl) (by rw [hS]; first | simp | exact Nat.le_of_ble_eq_true rfl) v8 ?_
          have v0 : a.eval (.tmp 0) = .pointer (some ⟨tb, 0, none⟩) := (hU 0 (by kernel_rfl)).trans rfl
          clear hE hU
          exact wp_value_inv (w' := W) (.pointer (some ⟨tb, 0, none⟩)) (op_move rfl v0) ⟨_, rfl, hB, Fr.refl _ _, rfl, fun _ _ _ _ _ => trivial⟩
        · simp only [List.getElem?_cons_zero, List.getElem?_cons_succ, Option.some.injEq] at ho
          subst ho
          intro a W vs hB hS hE hU
          obtain ⟨r5, e8⟩ := hE 5 8 (by kernel_rfl) (by kernel_rfl)
          have v8 : a.eval (.tmp 8) = .bool true := e8.trans r5
          refine wpG_yes 5 true 8 rfl (by kernel_rfl) (by rw [hS]; first | simp | exact Nat.le_of_ble_eq_true rfl) v8 ?_
          obtain ⟨r10, e13⟩ := hE 10 13 (by kernel_rfl) (by kernel_rfl)
          have v13 : a.eval (.tmp 13) = .pointer (some ⟨tb, 0, none⟩) := e13.trans r10
          clear hE hU
          exact wp_value_inv (w' := W) (.pointer (some ⟨tb, 0, none⟩)) (op_nilCheck rfl v13) ⟨_, rfl, hB, Fr.refl _ _, rfl, fun _ _ _ _ _ => trivial⟩
        · simp only [List.getElem?_cons_zero, List.getElem?_cons_succ, Option.some.injEq] at ho
          subst ho
          intro a W vs hB hS hE hU
          obtain ⟨r5, e8⟩ := hE 5 8 (by kernel_rfl) (by kernel_rfl)
          have v8 : a.eval (.tmp 8) = .bool true := e8.trans r5
          refine wpG_yes 5 true 8 rfl (by kernel_rfl) (by rw [hS]; first | simp | exact Nat.le_of_ble_eq_true rfl) v8 ?_
          obtain ⟨r11, e14⟩ := hE 11 14 (by kernel_rfl) (by kernel_rfl)
          have v14 : a.eval (.tmp 14) = .pointer (some ⟨tb, 0, none⟩) := e14.trans r11
          clear hE hU
          exact wp_value_inv (w' := W) (.pointer (some ⟨tb, 3, none⟩)) (op_fieldAddr rfl v14 (fld_spence_table_Table_2_0 W tb)) ⟨_, rfl, hB, Fr.refl _ _, rfl, fun _ _ _ _ _ => trivial⟩
        · simp only [List.getElem?_cons_zero, List.getElem?_cons_succ, Option.some.injEq] at ho
          subst ho
          intro a W vs hB hS hE hU
          obtain ⟨r5, e8⟩ := hE 5 8 (by kernel_rfl) (by kernel_rfl)
          have v8 : a.eval (.tmp 8) = .bool true := e8.trans r5
          refine wpG_yes 5 true 8 rfl (by kernel_rfl) (by rw [hS]; first | simp | exact Nat.le_of_ble_eq_true rfl) v8 ?_
          obtain ⟨r12, e15⟩ := hE 12 15 (by kernel_rfl) (by kernel_rfl)
          have v15 : a.eval (.tmp 15) = .pointer (some ⟨tb, 3, none⟩) := e15.trans r12
          clear hE hU
          exact wp_value_inv (w' := W) (.int .i64 (m : Nat)) (op_loadAt rfl v15 (LDM.out W hB)) ⟨_, rfl, hB, Fr.refl _ _, rfl, fun _ _ _ _ _ => trivial⟩
        · simp only [List.getElem?_cons_zero, List.getElem?_cons_succ, Option.some.injEq] at ho
          subst ho
          intro a W vs hB hS hE hU
          obtain ⟨r5, e8⟩ := hE 5 8 (by kernel_rfl) (by kernel_rfl)
          have v8 : a.eval (.tmp 8) = .bool true := e8.trans r5
          refine wpG_yes 5 true 8 rfl (by kernel_rfl) (by rw [hS]; first | simp | exact Nat.le_of_ble_eq_true rfl) v8 ?_
          obtain ⟨r9, e12⟩ := hE 9 12 (by kernel_rfl) (by kernel_rfl)
          have v12 : a.eval (.tmp 12) = .int .i64 (t : Nat) := e12.trans r9
          obtain ⟨r13, e16⟩ := hE 13 16 (by kernel_rfl) (by kernel_rfl)
          have v16 : a.eval (.tmp 16) = .int .i64 (m : Nat) := e16.trans r13
          clear hE hU
          exact wp_value_inv (w' := W) (.bool false) (op_bin rfl v12 v16 (rfl) (leq6 d2)) ⟨_, rfl, hB, Fr.refl _ _, rfl, fun _ _ _ _ _ => trivial⟩
        · simp only [List.getElem?_cons_zero, List.getElem?_cons_succ, Option.some.injEq] at ho
          subst ho
          intro a W vs hB hS hE hU
          refine wpG_plain rfl ?_
          obtain ⟨r5, e8⟩ := hE 5 8 (by kernel_rfl) (by kernel_rfl)
          have v8 : a.eval (.tmp 8) = .bool true := e8.trans r5
          obtain ⟨r14, e17⟩ := hE 14 17 (by kernel_rfl) (by kernel_rfl)
          have v17 : a.eval (.tmp 17) = .bool false := e17.trans r14
          clear hE hU
          exact wp_value_inv (w' := W) (.bool false) (op_pick rfl v8 (by simp only [if_true]; exact v17)) ⟨_, rfl, hB, Fr.refl _ _, rfl, fun _ _ _ _ _ => trivial⟩
      · intro vs Wa hB0 hR0 hD
        have r18 : vs 15 = .bool false := hR0 15 (by decide)
        have HB := Lib.hid hB0
        clear hR0 hD hB0
        simp only [acts, if_true, dstAt, List.getElem?_cons_zero, List.getElem?_cons_succ, Option.bind_some, Act.put, List.setIfInBounds_toArray, List.set_cons_succ, List.set_cons_zero, List.drop_succ_cons]
        simp only [r18]
        clear r18
        go_wp2
        go_ret
        exact ⟨rfl, HB.out⟩
  · have d1 : decide ((n : Int) ≤ (4000 : Int)) = false := by rw [decide_eq_false_iff_not]; omega
    have hres : decide (n ≤ 4000 ∧ t ≤ m) = false := by simp [h1]
    rw [hres]
    go_enter Tryz.func29, Tryz.ntmps29
    go_wp2_with fail
    refine wp_region_inv 16 (by kernel_rfl) (by kernel_rfl) (fun W => Fr (fun _ => False) w W) (FitN tb n t m) (fun _ _ _ _ => True) (Fr (fun _ => False)) (FitN.ext tb n t m) (Fr.refl _ _).drew ?_ ?_
    · intro i hi o ho
      replace hi : i < 16 := hi
      obtain rfl | rfl | rfl | rfl | rfl | rfl | rfl | rfl | rfl | rfl | rfl | rfl | rfl | rfl | rfl | rfl : i = 0 ∨ i = 1 ∨ i = 2 ∨ i = 3 ∨ i = 4 ∨ i = 5 ∨ i = 6 ∨ i = 7 ∨ i = 8 ∨ i = 9 ∨ i = 10 ∨ i = 11 ∨ i = 12 ∨ i = 13 ∨ i = 14 ∨ i = 15 := by omega
      · simp only [List.getElem?_cons_zero, Option.some.injEq] at ho
        subst ho
        intro a W vs hB hS hE hU
        refine wpG_plain rfl ?_
        have v0 : a.eval (.tmp 0) = .pointer (some ⟨tb, 0, none⟩) := (hU 0 (by kernel_rfl)).trans rfl
        clear hE hU
        exact wp_value_inv (w' := W) (.pointer (some ⟨tb, 0, none⟩)) (op_move rfl v0) ⟨_, rfl, hB, Fr.refl _ _, rfl, fun _ _ _ _ _ => trivial⟩
      · simp only [List.getElem?_cons_zero, List.getElem?_cons_succ, Option.some.injEq] at ho
        subst ho
        intro a W vs hB hS hE hU
        refine wpG_plain rfl ?_
        obtain ⟨r0, e3⟩ := hE 0 3 (by kernel_rfl) (by kernel_rfl)
        have v3 : a.eval (.tmp 3) = .pointer (some ⟨tb, 0, none⟩) := e3.trans r0
        clear hE hU
        exact wp_value_inv (w' := W) (.pointer (some ⟨tb, 0, none⟩)) (op_nilCheck rfl v3) ⟨_, rfl, hB, Fr.refl _ _, rfl, fun _ _ _ _ _ => trivial⟩
      · simp only [List.getElem?_cons_zero, List.getElem?_cons_succ, Option.some.injEq] at ho
        subst ho
        intro a W vs hB hS hE hU
        refine wpG_plain rfl ?_
        obtain ⟨r1, e4⟩ := hE 1 4 (by kernel_rfl) (by kernel_rfl)
        have v4 : a.eval (.tmp 4) = .pointer (some ⟨tb, 0, none⟩) := e4.trans r1
        clear hE hU
        exact wp_value_inv (w' := W) (.pointer (some ⟨tb, 0, none⟩)) (op_fieldAddr rfl v4 (fld_spence_table_Table_0_0 W tb)) ⟨_, rfl, hB, Fr.refl _ _, rfl, fun _ _ _ _ _ => trivial⟩
      · simp only [List.getElem?_cons_zero, List.getElem?_cons_succ, Option.some.injEq] at ho
        subst ho
        intro a W vs hB hS hE hU
        refine wpG_plain rfl ?_
        obtain ⟨r2, e5⟩ := hE 2 5 (by kernel_rfl) (by kernel_rfl)
        have v5 : a.eval (.tmp 5) = .pointer (some ⟨tb, 0, none⟩) := e5.trans r2
        clear hE hU
        refine wp_call_inv 42 #[.tmp 5] #[81] rfl #[.pointer (some ⟨tb, 0, none⟩)] (by simp only [List.map_toArray, List.map_cons, List.map_nil, v5]) (ent___spence_table_rows__many _) (Post := fun v W' => v = .int .i64 (n : Nat) ∧ Fr (fun _ => False) W W') ((HMA.out W hB).mono fun e w' h => ⟨_, h.1, rfl, h.2⟩) ?_
        rintro v W' ⟨rfl, hf⟩
        exact ⟨_, rfl, hB.trans hf (fun _ h => h.elim), hf, rfl, fun _ _ _ _ _ => trivial⟩
      · simp only [List.getElem?_cons_zero, List.getElem?_cons_succ, Option.some.injEq] at ho
        subst ho
        intro a W vs hB hS hE hU
        refine wpG_plain rfl ?_
        obtain ⟨r3, e6⟩ := hE 3 6 (by kernel_rfl) (by kernel_rfl)
        have v6 : a.eval (.tmp 6) = .int .i64 (n : Nat) := e6.trans r3
        clear hE hU
        exact wp_value_inv (w' := W) (.bool false) (op_bin rfl v6 rfl (rfl) (leq6 d1)) ⟨_, rfl, hB, Fr.refl _ _, rfl, fun _ _ _ _ _ => trivial⟩
      · simp only [List.getElem?_cons_zero, List.getElem?_cons_succ, Option.some.injEq] at ho
        subst ho
        intro a W vs hB hS hE hU
        refine wpG_plain rfl ?_
        obtain ⟨r4, e7⟩ := hE 4 7 (by kernel_rfl) (by kernel_rfl)
        have v7 : a.eval (.tmp 7) = .bool false := e7.trans r4
        clear hE hU
        exact wp_value_inv (w' := W) (.bool false) (op_move rfl v7) ⟨_, rfl, hB, Fr.refl _ _, rfl, fun _ _ _ _ _ => trivial⟩
      · simp only [List.getElem?_cons_zero, List.getElem?_cons_succ, Option.some.injEq] at ho
        subst ho
        intro a W vs hB hS hE hU
        obtain ⟨r5, e8⟩ := hE 5 8 (by kernel_rfl) (by kernel_rfl)
        have v8 : a.eval (.tmp 8) = .bool false := e8.trans r5
        exact wpG_no 5 true 8 rfl (by kernel_rfl) (by rw [hS]; first | simp | exact Nat.le_of_ble_eq_true rfl) v8 ⟨_, rfl, hB, Fr.refl _ _, rfl, fun _ _ _ _ _ => trivial⟩
      · simp only [List.getElem?_cons_zero, List.getElem?_cons_succ, Option.some.injEq] at ho
        subst ho
        intro a W vs hB hS hE hU
        obtain ⟨r5, e8⟩ := hE 5 8 (by kernel_rfl) (by kernel_rfl)
        have v8 : a.eval (.tmp 8) = .bool false := e8.trans r5
        exact wpG_no 5 true 8 rfl (by kernel_rfl) (by rw [hS]; first | simp | exact Nat.le_of_ble_eq_true rfl) v8 ⟨_, rfl, hB, Fr.refl _ _, rfl, fun _ _ _ _ _ => trivial⟩
      · simp only [List.getElem?_cons_zero, List.getElem?_cons_succ, Option.some.injEq] at ho
        subst ho
        intro a W vs hB hS hE hU
        obtain ⟨r5, e8⟩ := hE 5 8 (by kernel_rfl) (by kernel_rfl)
        have v8 : a.eval (.tmp 8) = .bool false := e8.trans r5
        exact wpG_no 5 true 8 rfl (by kernel_rfl) (by rw [hS]; first | simp | exact Nat.le_of_ble_eq_true rfl) v8 ⟨_, rfl, hB, Fr.refl _ _, rfl, fun _ _ _ _ _ => trivial⟩
      · simp only [List.getElem?_cons_zero, List.getElem?_cons_succ, Option.some.injEq] at ho
        subst ho
        intro a W vs hB hS hE hU
        obtain ⟨r5, e8⟩ := hE 5 8 (by kernel_rfl) (by kernel_rfl)
        have v8 : a.eval (.tmp 8) = .bool false := e8.trans r5
        exact wpG_no 5 true 8 rfl (by kernel_rfl) (by rw [hS]; first | simp | exact Nat.le_of_ble_eq_true rfl) v8 ⟨_, rfl, hB, Fr.refl _ _, rfl, fun _ _ _ _ _ => trivial⟩
      · simp only [List.getElem?_cons_zero, List.getElem?_cons_succ, Option.some.injEq] at ho
        subst ho
        intro a W vs hB hS hE hU
        obtain ⟨r5, e8⟩ := hE 5 8 (by kernel_rfl) (by kernel_rfl)
        have v8 : a.eval (.tmp 8) = .bool false := e8.trans r5
        exact wpG_no 5 true 8 rfl (by kernel_rfl) (by rw [hS]; first | simp | exact Nat.le_of_ble_eq_true rfl) v8 ⟨_, rfl, hB, Fr.refl _ _, rfl, fun _ _ _ _ _ => trivial⟩
      · simp only [List.getElem?_cons_zero, List.getElem?_cons_succ, Option.some.injEq] at ho
        subst ho
        intro a W vs hB hS hE hU
        obtain ⟨r5, e8⟩ := hE 5 8 (by kernel_rfl) (by kernel_rfl)
        have v8 : a.eval (.tmp 8) = .bool false := e8.trans r5
        exact wpG_no 5 true 8 rfl (by kernel_rfl) (by rw [hS]; first | simp | exact Nat.le_of_ble_eq_true rfl) v8 ⟨_, rfl, hB, Fr.refl _ _, rfl, fun _ _ _ _ _ => trivial⟩
      · simp only [List.getElem?_cons_zero, List.getElem?_cons_succ, Option.some.injEq] at ho
        subst ho
        intro a W vs hB hS hE hU
        obtain ⟨r5, e8⟩ := hE 5 8 (by kernel_rfl) (by kernel_rfl)
        have v8 : a.eval (.tmp 8) = .bool false := e8.trans r5
        exact wpG_no 5 true 8 rfl (by kernel_rfl) (by rw [hS]; first | simp | exact Nat.le_of_ble_eq_true rfl) v8 ⟨_, rfl, hB, Fr.refl _ _, rfl, fun _ _ _ _ _ => trivial⟩
      · simp only [List.getElem?_cons_zero, List.getElem?_cons_succ, Option.some.injEq] at ho
        subst ho
        intro a W vs hB hS hE hU
        obtain ⟨r5, e8⟩ := hE 5 8 (by kernel_rfl) (by kernel_rfl)
        have v8 : a.eval (.tmp 8) = .bool false := e8.trans r5
        exact wpG_no 5 true 8 rfl (by kernel_rfl) (by rw [hS]; first | simp | exact Nat.le_of_ble_eq_true rfl) v8 ⟨_, rfl, hB, Fr.refl _ _, rfl, fun _ _ _ _ _ => trivial⟩
      · simp only [List.getElem?_cons_zero, List.getElem?_cons_succ, Option.some.injEq] at ho
        subst ho
        intro a W vs hB hS hE hU
        obtain ⟨r5, e8⟩ := hE 5 8 (by kernel_rfl) (by kernel_rfl)
        have v8 : a.eval (.tmp 8) = .bool false := e8.trans r5
        exact wpG_no 5 true 8 rfl (by kernel_rfl) (by rw [hS]; first | simp | exact Nat.le_of_ble_eq_true rfl) v8 ⟨_, rfl, hB, Fr.refl _ _, rfl, fun _ _ _ _ _ => trivial⟩
      · simp only [List.getElem?_cons_zero, List.getElem?_cons_succ, Option.some.injEq] at ho
        subst ho
        intro a W vs hB hS hE hU
        refine wpG_plain rfl ?_
        obtain ⟨r5, e8⟩ := hE 5 8 (by kernel_rfl) (by kernel_rfl)
        have v8 : a.eval (.tmp 8) = .bool false := e8.trans r5
        clear hE hU
        exact wp_value_inv (w' := W) (.bool false) (op_pick rfl v8 (by simp only [Bool.false_eq_true, if_false]; rfl)) ⟨_, rfl, hB, Fr.refl _ _, rfl, fun _ _ _ _ _ => trivial⟩
    · intro vs Wa hB0 hR0 hD
      have r18 : vs 15 = .bool false := hR0 15 (by decide)
      have HB := Lib.hid hB0
      clear hR0 hD hB0
      simp only [acts, if_true, dstAt, List.getElem?_cons_zero, List.getElem?_cons_succ, Option.bind_some, Act.put, List.setIfInBounds_toArray, List.set_cons_succ, List.set_cons_zero, List.drop_succ_cons]
      simp only [r18]
      clear r18
      go_wp2
      go_ret
      exact ⟨rfl, HB.out⟩
end
end Go.Proofs.YtldgcoikbjbjeaaGreat
