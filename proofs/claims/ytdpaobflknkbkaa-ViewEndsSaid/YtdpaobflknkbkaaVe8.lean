/- Laid together: VJr -/
import Derived.Test.YtdpaobflknkbkaaVe7

namespace Go.Proofs.Ytdpaobflknkbkaa
open Go.RowKit Go.ChangeShapes
set_option linter.unusedVariables false
def rightS (L A D : Int) : Bool := manyS L && manyS A && manyS D && decide (1 + L + 2 * A + D ≤ 8192)
theorem rightS_yes {L A D : Int} (h : rightS L A D = true) : ∃ l a d : Nat, L = l ∧ A = a ∧ D = d ∧ 1 ≤ l ∧ 1 ≤ a ∧ 1 ≤ d ∧ 1 + l + 2 * a + d ≤ 8192 := by
  rw [rightS, Bool.and_eq_true, Bool.and_eq_true, Bool.and_eq_true, decide_eq_true_iff] at h
  obtain ⟨⟨⟨h1, h2⟩, h3⟩, h4⟩ := h
  obtain ⟨l, rfl, hl, _⟩ := manyS_yes h1
  obtain ⟨a, rfl, ha, _⟩ := manyS_yes h2
  obtain ⟨d, rfl, hd, _⟩ := manyS_yes h3
  exact ⟨l, a, d, rfl, rfl, rfl, hl, ha, hd, by omega⟩
theorem rightS_nat {l a d : Nat} (h1 : 1 ≤ l) (h2 : 1 ≤ a) (h3 : 1 ≤ d) (h : 1 + l + 2 * a + d ≤ 8192) : rightS l a d = true := by
  rw [rightS, manyS_nat h1 (by omega), manyS_nat h2 (by omega), manyS_nat h3 (by omega), decide_eq_true (by omega)]
  rfl
theorem load_shape5 (w : World) (g o : Nat) (x y z : Value) (h : w.rangeAt g o [x, y, z]) : (Instr.loadAt 51 (.pointer (some ⟨g, o, none⟩))).run Try.prog w = .ok (.agg #[x, y, z]) w :=
  run_loadAt_mid w g o 51 [x, y, z] _ h Try.underlying51 rfl (by kernel_rfl)
theorem lMany_fr (w : World) (n : Int) (b : Bool) (hb : manyS n = b) :
    Calls Try.prog 73 #[.int .i64 n] w fun e w' => e = .returned (.bool b) ∧ Fr (fun _ => False) w w' :=
  (lMany_any w n).mono fun e w' ⟨h1, h2⟩ => ⟨by rw [h1, hb], h2 ▸ Fr.refl _ _⟩
def RgtR0 (gw : Nat) (L : Int) (A : Int) (D : Int) (i : Nat) (v : Value) (W : World) : Prop :=
  match i with
  | 0 => v = .pointer (some ⟨gw, 0, none⟩)
  | 1 => v = .int .i64 L
  | 2 => v = .bool false
  | 3 => v = .bool false
  | 4 => v = undef
  | 5 => v = undef
  | 6 => v = undef
  | 7 => v = .bool false
  | 8 => v = .bool false
  | 9 => v = undef
  | 10 => v = undef
  | 11 => v = undef
  | 12 => v = .bool false
  | 13 => v = .bool false
  | 14 => v = undef
  | 15 => v = undef
  | 16 => v = undef
  | 17 => v = undef
  | 18 => v = undef
  | 19 => v = undef
  | 20 => v = .bool false
  | 21 => v = .bool false
  | _ => True
theorem RgtR0.ext (gw : Nat) (L : Int) (A : Int) (D : Int) : ∀ (j : Nat) (u : Value) (W W' : World), Fr (fun _ => False) W W' → RgtR0 gw L A D j u W → RgtR0 gw L A D j u W'
  | 0, u, W, W', hf, h => h
  | 1, u, W, W', hf, h => h
  | 2, u, W, W', hf, h => h
  | 3, u, W, W', hf, h => h
  | 4, u, W, W', hf, h => h
  | 5, u, W, W', hf, h => h
  | 6, u, W, W', hf, h => h
  | 7, u, W, W', hf, h => h
  | 8, u, W, W', hf, h => h
  | 9, u, W, W', hf, h => h
  | 10, u, W, W', hf, h => h
  | 11, u, W, W', hf, h => h
  | 12, u, W, W', hf, h => h
  | 13, u, W, W', hf, h => h
  | 14, u, W, W', hf, h => h
  | 15, u, W, W', hf, h => h
  | 16, u, W, W', hf, h => h
  | 17, u, W, W', hf, h => h
  | 18, u, W, W', hf, h => h
  | 19, u, W, W', hf, h => h
  | 20, u, W, W', hf, h => h
  | 21, u, W, W', hf, h => h
  | _ + 22, u, W, W', hf, h => trivial
def RgtR1 (gw : Nat) (l : Nat) (A : Int) (D : Int) (i : Nat) (v : Value) (W : World) : Prop :=
  match i with
  | 0 => v = .pointer (some ⟨gw, 0, none⟩)
  | 1 => v = .int .i64 (l : Nat)
  | 2 => v = .bool true
  | 3 => v = .bool true
  | 4 => v = .pointer (some ⟨gw, 1, none⟩)
  | 5 => v = .int .i64 A
  | 6 => v = .bool false
  | 7 => v = .bool false
  | 8 => v = .bool false
  | 9 => v = undef
  | 10 => v = undef
  | 11 => v = undef
  | 12 => v = .bool false
  | 13 => v = .bool false
  | 14 => v = undef
  | 15 => v = undef
  | 16 => v = undef
  | 17 => v = undef
  | 18 => v = undef
  | 19 => v = undef
  | 20 => v = .bool false
  | 21 => v = .bool false
  | _ => True
theorem RgtR1.ext (gw : Nat) (l : Nat) (A : Int) (D : Int) : ∀ (j : Nat) (u : Value) (W W' : World), Fr (fun _ => False) W W' → RgtR1 gw l A D j u W → RgtR1 gw l A D j u W'
  | 0, u, W, W', hf, h => h
  | 1, u, W, W', hf, h => h
  | 2, u, W, W', hf, h => h
  | 3, u, W, W', hf, h => h
  | 4, u, W, W', hf, h => h
  | 5, u, W, W', hf, h => h
  | 6, u, W, W', hf, h => h
  | 7, u, W, W', hf, h => h
  | 8, u, W, W', hf, h => h
  | 9, u, W, W', hf, h => h
  | 10, u, W, W', hf, h => h
  | 11, u, W, W', hf, h => h
  | 12, u, W, W', hf, h => h
  | 13, u, W, W', hf, h => h
  | 14, u, W, W', hf, h => h
  | 15, u, W, W', hf, h => h
  | 16, u, W, W', hf, h => h
  | 17, u, W, W', hf, h => h
  | 18, u, W, W', hf, h => h
  | 19, u, W, W', hf, h => h
  | 20, u, W, W', hf, h => h
  | 21, u, W, W', hf, h => h
  | _ + 22, u, W, W', hf, h => trivial
def RgtR2 (gw : Nat) (l : Nat) (la : Nat) (D : Int) (i : Nat) (v : Value) (W : World) : Prop :=
  match i with
  | 0 => v = .pointer (some ⟨gw, 0, none⟩)
  | 1 => v = .int .i64 (l : Nat)
  | 2 => v = .bool true
  | 3 => v = .bool true
  | 4 => v = .pointer (some ⟨gw, 1, none⟩)
  | 5 => v = .int .i64 (la : Nat)
  | 6 => v = .bool true
  | 7 => v = .bool true
  | 8 => v = .bool true
  | 9 => v = .pointer (some ⟨gw, 2, none⟩)
  | 10 => v = .int .i64 D
  | 11 => v = .bool false
  | 12 => v = .bool false
  | 13 => v = .bool false
  | 14 => v = undef
  | 15 => v = undef
  | 16 => v = undef
  | 17 => v = undef
  | 18 => v = undef
  | 19 => v = undef
  | 20 => v = .bool false
  | 21 => v = .bool false
  | _ => True
theorem RgtR2.ext (gw : Nat) (l : Nat) (la : Nat) (D : Int) : ∀ (j : Nat) (u : Value) (W W' : World), Fr (fun _ => False) W W' → RgtR2 gw l la D j u W → RgtR2 gw l la D j u W'
  | 0, u, W, W', hf, h => h
  | 1, u, W, W', hf, h => h
  | 2, u, W, W', hf, h => h
  | 3, u, W, W', hf, h => h
  | 4, u, W, W', hf, h => h
  | 5, u, W, W', hf, h => h
  | 6, u, W, W', hf, h => h
  | 7, u, W, W', hf, h => h
  | 8, u, W, W', hf, h => h
  | 9, u, W, W', hf, h => h
  | 10, u, W, W', hf, h => h
  | 11, u, W, W', hf, h => h
  | 12, u, W, W', hf, h => h
  | 13, u, W, W', hf, h => h
  | 14, u, W, W', hf, h => h
  | 15, u, W, W', hf, h => h
  | 16, u, W, W', hf, h => h
  | 17, u, W, W', hf, h => h
  | 18, u, W, W', hf, h => h
  | 19, u, W, W', hf, h => h
  | 20, u, W, W', hf, h => h
  | 21, u, W, W', hf, h => h
  | _ + 22, u, W, W', hf, h => trivial
def RgtR4 (gw : Nat) (l : Nat) (la : Nat) (d : Nat) (m : Nat) (i : Nat) (v : Value) (W : World) : Prop :=
  match i with
  | 0 => v = .pointer (some ⟨gw, 0, none⟩)
  | 1 => v = .int .i64 (l : Nat)
  | 2 => v = .bool true
  | 3 => v = .bool true
  | 4 => v = .pointer (some ⟨gw, 1, none⟩)
  | 5 => v = .int .i64 (la : Nat)
  | 6 => v = .bool true
  | 7 => v = .bool true
  | 8 => v = .bool true
  | 9 => v = .pointer (some ⟨gw, 2, none⟩)
  | 10 => v = .int .i64 (d : Nat)
  | 11 => v = .bool true
  | 12 => v = .bool true
  | 13 => v = .bool true
  | 14 => v = .agg #[.int .i64 (l : Nat), .int .i64 (la : Nat), .int .i64 (d : Nat)]
  | 15 => v = .int .i64 (m : Nat)
  | 16 => v = .pointer (some ⟨gw, 2, none⟩)
  | 17 => v = .int .i64 (d : Nat)
  | 18 => v = .int .i64 ((m + d : Nat) : Int)
  | 19 => v = .bool true
  | 20 => v = .bool true
  | 21 => v = .bool true
  | _ => True
theorem RgtR4.ext (gw : Nat) (l : Nat) (la : Nat) (d : Nat) (m : Nat) : ∀ (j : Nat) (u : Value) (W W' : World), Fr (fun _ => False) W W' → RgtR4 gw l la d m j u W → RgtR4 gw l la d m j u W'
  | 0, u, W, W', hf, h => h
  | 1, u, W, W', hf, h => h
  | 2, u, W, W', hf, h => h
  | 3, u, W, W', hf, h => h
  | 4, u, W, W', hf, h => h
  | 5, u, W, W', hf, h => h
  | 6, u, W, W', hf, h => h
  | 7, u, W, W', hf, h => h
  | 8, u, W, W', hf, h => h
  | 9, u, W, W', hf, h => h
  | 10, u, W, W', hf, h => h
  | 11, u, W, W', hf, h => h
  | 12, u, W, W', hf, h => h
  | 13, u, W, W', hf, h => h
  | 14, u, W, W', hf, h => h
  | 15, u, W, W', hf, h => h
  | 16, u, W, W', hf, h => h
  | 17, u, W, W', hf, h => h
  | 18, u, W, W', hf, h => h
  | 19, u, W, W', hf, h => h
  | 20, u, W, W', hf, h => h
  | 21, u, W, W', hf, h => h
  | _ + 22, u, W, W', hf, h => trivial
def RgtR5 (gw : Nat) (l : Nat) (la : Nat) (d : Nat) (m : Nat) (i : Nat) (v : Value) (W : World) : Prop :=
  match i with
  | 0 => v = .pointer (some ⟨gw, 0, none⟩)
  | 1 => v = .int .i64 (l : Nat)
  | 2 => v = .bool true
  | 3 => v = .bool true
  | 4 => v = .pointer (some ⟨gw, 1, none⟩)
  | 5 => v = .int .i64 (la : Nat)
  | 6 => v = .bool true
  | 7 => v = .bool true
  | 8 => v = .bool true
  | 9 => v = .pointer (some ⟨gw, 2, none⟩)
  | 10 => v = .int .i64 (d : Nat)
  | 11 => v = .bool true
  | 12 => v = .bool true
  | 13 => v = .bool true
  | 14 => v = .agg #[.int .i64 (l : Nat), .int .i64 (la : Nat), .int .i64 (d : Nat)]
  | 15 => v = .int .i64 (m : Nat)
  | 16 => v = .pointer (some ⟨gw, 2, none⟩)
  | 17 => v = .int .i64 (d : Nat)
  | 18 => v = .int .i64 ((m + d : Nat) : Int)
  | 19 => v = .bool false
  | 20 => v = .bool false
  | 21 => v = .bool false
  | _ => True
theorem RgtR5.ext (gw : Nat) (l : Nat) (la : Nat) (d : Nat) (m : Nat) : ∀ (j : Nat) (u : Value) (W W' : World), Fr (fun _ => False) W W' → RgtR5 gw l la d m j u W → RgtR5 gw l la d m j u W'
  | 0, u, W, W', hf, h => h
  | 1, u, W, W', hf, h => h
  | 2, u, W, W', hf, h => h
  | 3, u, W, W', hf, h => h
  | 4, u, W, W', hf, h => h
  | 5, u, W, W', hf, h => h
  | 6, u, W, W', hf, h => h
  | 7, u, W, W', hf, h => h
  | 8, u, W, W', hf, h => h
  | 9, u, W, W', hf, h => h
  | 10, u, W, W', hf, h => h
  | 11, u, W, W', hf, h => h
  | 12, u, W, W', hf, h => h
  | 13, u, W, W', hf, h => h
  | 14, u, W, W', hf, h => h
  | 15, u, W, W', hf, h => h
  | 16, u, W, W', hf, h => h
  | 17, u, W, W', hf, h => h
  | 18, u, W, W', hf, h => h
  | 19, u, W, W', hf, h => h
  | 20, u, W, W', hf, h => h
  | 21, u, W, W', hf, h => h
  | _ + 22, u, W, W', hf, h => trivial
set_option maxRecDepth 100000 in
set_option maxHeartbeats 4000000 in
theorem lRight_0 (w : World) (L A D : Int) (b1 : manyS L = false) :
    Calls Try.prog 53 #[.agg #[.int .i64 L, .int .i64 A, .int .i64 D]] w fun e w' => e = .returned (.bool false) ∧ Fr (fun _ => False) w w' := by
  have C1 := Lib.hid fun W => lMany_fr W L false b1
  clear b1
  obtain ⟨gw, hgw⟩ : ∃ gw, gw = w.heap.size := ⟨_, rfl⟩
  obtain ⟨W1, hW⟩ : ∃ W, W = w.alloc (.cells #[.int .i64 L, .int .i64 A, .int .i64 D] 51) := ⟨_, rfl⟩
  have hf : Fr (fun _ => False) w W1 := by rw [hW]; exact (Fr.refl _ _).alloc _
  have hrow : W1.heap[gw]? = some (.cells #[.int .i64 L, .int .i64 A, .int .i64 D] 51 (0, 0)) := by rw [hW, hgw]; exact heap_alloc_new w _
  have k0 : W1.cell? ⟨gw, 0, none⟩ = some (.int .i64 L) := cell_of_row _ _ _ _ _ _ hrow
  have k1 : W1.cell? ⟨gw, 1, none⟩ = some (.int .i64 A) := cell_of_row _ _ _ _ _ _ hrow
  have k2 : W1.cell? ⟨gw, 2, none⟩ = some (.int .i64 D) := cell_of_row _ _ _ _ _ _ hrow
  have HF := Lib.hid hf
  have HW := Lib.hid (And.intro hW hgw)
  clear hf hW hgw
  have LD0 := Lib.hid (fun W (hW : Fr (fun _ => False) W1 W) => load_int5 W ⟨gw, 0, none⟩ (.int .i64 L) (hW.cell k0 id))
  have LD1 := Lib.hid (fun W (hW : Fr (fun _ => False) W1 W) => load_int5 W ⟨gw, 1, none⟩ (.int .i64 A) (hW.cell k1 id))
  have LD2 := Lib.hid (fun W (hW : Fr (fun _ => False) W1 W) => load_int5 W ⟨gw, 2, none⟩ (.int .i64 D) (hW.cell k2 id))
  have LDS := Lib.hid (fun W (hW : Fr (fun _ => False) W1 W) => load_shape5 W gw 0 _ _ _ (range_row5 (hW.heap hrow id)))
  clear k0 k1 k2 hrow
  go_enter Try.func53, Try.ntmps53
  go_wp2_with fail
  rw [← HW.out.1, ← HW.out.2]
  refine wp_region_inv 22 (by kernel_rfl) (by kernel_rfl) (fun W => Fr (fun _ => False) W1 W) (RgtR0 gw L A D) (fun _ _ _ _ => True) (Fr (fun _ => False)) (RgtR0.ext gw L A D) (Fr.refl _ _).drew ?_ ?_
  · intro i hi o ho
    replace hi : i < 22 := hi
    obtain rfl | rfl | rfl | rfl | rfl | rfl | rfl | rfl | rfl | rfl | rfl | rfl | rfl | rfl | rfl | rfl | rfl | rfl | rfl | rfl | rfl | rfl : i = 0 ∨ i = 1 ∨ i = 2 ∨ i = 3 ∨ i = 4 ∨ i = 5 ∨ i = 6 ∨ i = 7 ∨ i = 8 ∨ i = 9 ∨ i = 10 ∨ i = 11 ∨ i = 12 ∨ i = 13 ∨ i = 14 ∨ i = 15 ∨ i = 16 ∨ i = 17 ∨ i = 18 ∨ i = 19 ∨ i = 20 ∨ i = 21 := by omega
    · simp only [List.getElem?_cons_zero, Option.some.injEq] at ho
      subst ho
      intro a W vs hB hS hE hU
      refine wpG_plain rfl ?_
      have v1 : a.eval (.tmp 1) = .pointer (some ⟨gw, 0, none⟩) := (hU 1 (by kernel_rfl)).trans rfl
      clear hE hU
      exact wp_value_inv (w' := W) (.pointer (some ⟨gw, 0, none⟩)) (op_fieldAddr rfl v1 (fld_spence_api_Shape_0_0 W gw)) ⟨_, rfl, hB, Fr.refl _ _, rfl, fun _ _ _ _ _ => trivial⟩
    · simp only [List.getElem?_cons_zero, List.getElem?_cons_succ, Option.some.injEq] at ho
      subst ho
      intro a W vs hB hS hE hU
      refine wpG_plain rfl ?_
      obtain ⟨r0, e3⟩ := hE 0 3 (by kernel_rfl) (by kernel_rfl)
      have v3 : a.eval (.tmp 3) = .pointer (some ⟨gw, 0, none⟩) := e3.trans r0
      clear hE hU
      exact wp_value_inv (w' := W) (.int .i64 L) (op_loadAt rfl v3 (LD0.out W hB)) ⟨_, rfl, hB, Fr.refl _ _, rfl, fun _ _ _ _ _ => trivial⟩
    · simp only [List.getElem?_cons_zero, List.getElem?_cons_succ, Option.some.injEq] at ho
      subst ho
      intro a W vs hB hS hE hU
      refine wpG_plain rfl ?_
      obtain ⟨r1, e4⟩ := hE 1 4 (by kernel_rfl) (by kernel_rfl)
      have v4 : a.eval (.tmp 4) = .int .i64 L := e4.trans r1
      clear hE hU
      refine wp_call_inv 73 #[.tmp 4] #[3] rfl #[.int .i64 L] (by simp only [List.map_toArray, List.map_cons, List.map_nil, v4]) (ent_spence_log_isMany _) (Post := fun v W' => v = .bool false ∧ Fr (fun _ => False) W W') (((C1.out W)).mono fun e w' h => ⟨_, h.1, rfl, h.2⟩) ?_
      rintro v W' ⟨rfl, hf⟩
      exact ⟨_, rfl, hB.trans hf (fun _ h => h.elim), hf, rfl, fun _ _ _ _ _ => trivial⟩
    · simp only [List.getElem?_cons_zero, List.getElem?_cons_succ, Option.some.injEq] at ho
      subst ho
      intro a W vs hB hS hE hU
      refine wpG_plain rfl ?_
      obtain ⟨r2, e5⟩ := hE 2 5 (by kernel_rfl) (by kernel_rfl)
      have v5 : a.eval (.tmp 5) = .bool false := e5.trans r2
      clear hE hU
      exact wp_value_inv (w' := W) (.bool false) (op_move rfl v5) ⟨_, rfl, hB, Fr.refl _ _, rfl, fun _ _ _ _ _ => trivial⟩
    · simp only [List.getElem?_cons_zero, List.getElem?_cons_succ, Option.some.injEq] at ho
      subst ho
      intro a W vs hB hS hE hU
      obtain ⟨r3, e6⟩ := hE 3 6 (by kernel_rfl) (by kernel_rfl)
      have v6 : a.eval (.tmp 6) = .bool false := e6.trans r3
      exact wpG_no 3 true 6 rfl (by kernel_rfl) (by rw [hS]; first | simp | exact Nat.le_of_ble_eq_true rfl) v6 ⟨_, rfl, hB, Fr.refl _ _, rfl, fun _ _ _ _ _ => trivial⟩
    · simp only [List.getElem?_cons_zero, List.getElem?_cons_succ, Option.some.injEq] at ho
      subst ho
      intro a W vs hB hS hE hU
      obtain ⟨r3, e6⟩ := hE 3 6 (by kernel_rfl) (by kernel_rfl)
      have v6 : a.eval (.tmp 6) = .bool false := e6.trans r3
      exact wpG_no 3 true 6 rfl (by kernel_rfl) (by rw [hS]; first | simp | exact Nat.le_of_ble_eq_true rfl) v6 ⟨_, rfl, hB, Fr.refl _ _, rfl, fun _ _ _ _ _ => trivial⟩
    · simp only [List.getElem?_cons_zero, List.getElem?_cons_succ, Option.some.injEq] at ho
      subst ho
      intro a W vs hB hS hE hU
      obtain ⟨r3, e6⟩ := hE 3 6 (by kernel_rfl) (by kernel_rfl)
      have v6 : a.eval (.tmp 6) = .bool false := e6.trans r3
      exact wpG_no 3 true 6 rfl (by kernel_rfl) (by rw [hS]; first | simp | exact Nat.le_of_ble_eq_true rfl) v6 ⟨_, rfl, hB, Fr.refl _ _, rfl, fun _ _ _ _ _ => trivial⟩
    · simp only [List.getElem?_cons_zero, List.getElem?_cons_succ, Option.some.injEq] at ho
      subst ho
      intro a W vs hB hS hE hU
      refine wpG_plain rfl ?_
      obtain ⟨r3, e6⟩ := hE 3 6 (by kernel_rfl) (by kernel_rfl)
      have v6 : a.eval (.tmp 6) = .bool false := e6.trans r3
      clear hE hU
      exact wp_value_inv (w' := W) (.bool false) (op_pick rfl v6 (by simp only [Bool.false_eq_true, if_false]; rfl)) ⟨_, rfl, hB, Fr.refl _ _, rfl, fun _ _ _ _ _ => trivial⟩
    · simp only [List.getElem?_cons_zero, List.getElem?_cons_succ, Option.some.injEq] at ho
      subst ho
      intro a W vs hB hS hE hU
      refine wpG_plain rfl ?_
      obtain ⟨r7, e10⟩ := hE 7 10 (by kernel_rfl) (by kernel_rfl)
      have v10 : a.eval (.tmp 10) = .bool false := e10.trans r7
      clear hE hU
      exact wp_value_inv (w' := W) (.bool false) (op_move rfl v10) ⟨_, rfl, hB, Fr.refl _ _, rfl, fun _ _ _ _ _ => trivial⟩
    · simp only [List.getElem?_cons_zero, List.getElem?_cons_succ, Option.some.injEq] at ho
      subst ho
      intro a W vs hB hS hE hU
      obtain ⟨r8, e11⟩ := hE 8 11 (by kernel_rfl) (by kernel_rfl)
      have v11 : a.eval (.tmp 11) = .bool false := e11.trans r8
      exact wpG_no 8 true 11 rfl (by kernel_rfl) (by rw [hS]; first | simp | exact Nat.le_of_ble_eq_true rfl) v11 ⟨_, rfl, hB, Fr.refl _ _, rfl, fun _ _ _ _ _ => trivial⟩
    · simp only [List.getElem?_cons_zero, List.getElem?_cons_succ, Option.some.injEq] at ho
      subst ho
      intro a W vs hB hS hE hU
      obtain ⟨r8, e11⟩ := hE 8 11 (by kernel_rfl) (by kernel_rfl)
      have v11 : a.eval (.tmp 11) = .bool false := e11.trans r8
      exact wpG_no 8 true 11 rfl (by kernel_rfl) (by rw [hS]; first | simp | exact Nat.le_of_ble_eq_true rfl) v11 ⟨_, rfl, hB, Fr.refl _ _, rfl, fun _ _ _ _ _ => trivial⟩
    · simp only [List.getElem?_cons_zero, List.getElem?_cons_succ, Option.some.injEq] at ho
      subst ho
      intro a W vs hB hS hE hU
      obtain ⟨r8, e11⟩ := hE 8 11 (by kernel_rfl) (by kernel_rfl)
      have v11 : a.eval (.tmp 11) = .bool false := e11.trans r8
      exact wpG_no 8 true 11 rfl (by kernel_rfl) (by rw [hS]; first | simp | exact Nat.le_of_ble_eq_true rfl) v11 ⟨_, rfl, hB, Fr.refl _ _, rfl, fun _ _ _ _ _ => trivial⟩
    · simp only [List.getElem?_cons_zero, List.getElem?_cons_succ, Option.some.injEq] at ho
      subst ho
      intro a W vs hB hS hE hU
      refine wpG_plain rfl ?_
      obtain ⟨r8, e11⟩ := hE 8 11 (by kernel_rfl) (by kernel_rfl)
      have v11 : a.eval (.tmp 11) = .bool false := e11.trans r8
      clear hE hU
      exact wp_value_inv (w' := W) (.bool false) (op_pick rfl v11 (by simp only [Bool.false_eq_true, if_false]; rfl)) ⟨_, rfl, hB, Fr.refl _ _, rfl, fun _ _ _ _ _ => trivial⟩
    · simp only [List.getElem?_cons_zero, List.getElem?_cons_succ, Option.some.injEq] at ho
      subst ho
      intro a W vs hB hS hE hU
      refine wpG_plain rfl ?_
      obtain ⟨r12, e15⟩ := hE 12 15 (by kernel_rfl) (by kernel_rfl)
      have v15 : a.eval (.tmp 15) = .bool false := e15.trans r12
      clear hE hU
      exact wp_value_inv (w' := W) (.bool false) (op_move rfl v15) ⟨_, rfl, hB, Fr.refl _ _, rfl, fun _ _ _ _ _ => trivial⟩
    · simp only [List.getElem?_cons_zero, List.getElem?_cons_succ, Option.some.injEq] at ho
      subst ho
      intro a W vs hB hS hE hU
      obtain ⟨r13, e16⟩ := hE 13 16 (by kernel_rfl) (by kernel_rfl)
      have v16 : a.eval (.tmp 16) = .bool false := e16.trans r13
      exact wpG_no 13 true 16 rfl (by kernel_rfl) (by rw [hS]; first | simp | exact Nat.le_of_ble_eq_true rfl) v16 ⟨_, rfl, hB, Fr.refl _ _, rfl, fun _ _ _ _ _ => trivial⟩
    · simp only [List.getElem?_cons_zero, List.getElem?_cons_succ, Option.some.injEq] at ho
      subst ho
      intro a W vs hB hS hE hU
      obtain ⟨r13, e16⟩ := hE 13 16 (by kernel_rfl) (by kernel_rfl)
      have v16 : a.eval (.tmp 16) = .bool false := e16.trans r13
      exact wpG_no 13 true 16 rfl (by kernel_rfl) (by rw [hS]; first | simp | exact Nat.le_of_ble_eq_true rfl) v16 ⟨_, rfl, hB, Fr.refl _ _, rfl, fun _ _ _ _ _ => trivial⟩
    · simp only [List.getElem?_cons_zero, List.getElem?_cons_succ, Option.some.injEq] at ho
      subst ho
      intro a W vs hB hS hE hU
      obtain ⟨r13, e16⟩ := hE 13 16 (by kernel_rfl) (by kernel_rfl)
      have v16 : a.eval (.tmp 16) = .bool false := e16.trans r13
      exact wpG_no 13 true 16 rfl (by kernel_rfl) (by rw [hS]; first | simp | exact Nat.le_of_ble_eq_true rfl) v16 ⟨_, rfl, hB, Fr.refl _ _, rfl, fun _ _ _ _ _ => trivial⟩
    · simp only [List.getElem?_cons_zero, List.getElem?_cons_succ, Option.some.injEq] at ho
      subst ho
      intro a W vs hB hS hE hU
      obtain ⟨r13, e16⟩ := hE 13 16 (by kernel_rfl) (by kernel_rfl)
      have v16 : a.eval (.tmp 16) = .bool false := e16.trans r13
      exact wpG_no 13 true 16 rfl (by kernel_rfl) (by rw [hS]; first | simp | exact Nat.le_of_ble_eq_true rfl) v16 ⟨_, rfl, hB, Fr.refl _ _, rfl, fun _ _ _ _ _ => trivial⟩
    · simp only [List.getElem?_cons_zero, List.getElem?_cons_succ, Option.some.injEq] at ho
      subst ho
      intro a W vs hB hS hE hU
      obtain ⟨r13, e16⟩ := hE 13 16 (by kernel_rfl) (by kernel_rfl)
      have v16 : a.eval (.tmp 16) = .bool false := e16.trans r13
      exact wpG_no 13 true 16 rfl (by kernel_rfl) (by rw [hS]; first | simp | exact Nat.le_of_ble_eq_true rfl) v16 ⟨_, rfl, hB, Fr.refl _ _, rfl, fun _ _ _ _ _ => trivial⟩
    · simp only [List.getElem?_cons_zero, List.getElem?_cons_succ, Option.some.injEq] at ho
      subst ho
      intro a W vs hB hS hE hU
      obtain ⟨r13, e16⟩ := hE 13 16 (by kernel_rfl) (by kernel_rfl)
      have v16 : a.eval (.tmp 16) = .bool false := e16.trans r13
      exact wpG_no 13 true 16 rfl (by kernel_rfl) (by rw [hS]; first | simp | exact Nat.le_of_ble_eq_true rfl) v16 ⟨_, rfl, hB, Fr.refl _ _, rfl, fun _ _ _ _ _ => trivial⟩
    · simp only [List.getElem?_cons_zero, List.getElem?_cons_succ, Option.some.injEq] at ho
      subst ho
      intro a W vs hB hS hE hU
      refine wpG_plain rfl ?_
      obtain ⟨r13, e16⟩ := hE 13 16 (by kernel_rfl) (by kernel_rfl)
      have v16 : a.eval (.tmp 16) = .bool false := e16.trans r13
      clear hE hU
      exact wp_value_inv (w' := W) (.bool false) (op_pick rfl v16 (by simp only [Bool.false_eq_true, if_false]; rfl)) ⟨_, rfl, hB, Fr.refl _ _, rfl, fun _ _ _ _ _ => trivial⟩
    · simp only [List.getElem?_cons_zero, List.getElem?_cons_succ, Option.some.injEq] at ho
      subst ho
      intro a W vs hB hS hE hU
      refine wpG_plain rfl ?_
      obtain ⟨r20, e23⟩ := hE 20 23 (by kernel_rfl) (by kernel_rfl)
      have v23 : a.eval (.tmp 23) = .bool false := e23.trans r20
      clear hE hU
      exact wp_value_inv (w' := W) (.bool false) (op_assign rfl v23) ⟨_, rfl, hB, Fr.refl _ _, rfl, fun _ _ _ _ _ => trivial⟩
  · intro vs Wa hB0 hR0 hD
    have r2 : vs 21 = .bool false := hR0 21 (by decide)
    have HB := Lib.hid hB0
    clear hR0 hD hB0
    simp only [acts, if_true, dstAt, List.getElem?_cons_zero, List.getElem?_cons_succ, Option.bind_some, Act.put, List.setIfInBounds_toArray, List.set_cons_succ, List.set_cons_zero, List.drop_succ_cons, List.drop_nil]
    simp only [r2]
    clear r2
    go_wp2
    go_ret
    exact ⟨rfl, HF.out.trans HB.out (fun _ h => h.elim)⟩
set_option maxRecDepth 100000 in
set_option maxHeartbeats 4000000 in
theorem lRight_1 (w : World) (l : Nat) (A D : Int) (b1 : manyS l = true) (b2 : manyS A = false) :
    Calls Try.prog 53 #[.agg #[.int .i64 l, .int .i64 A, .int .i64 D]] w fun e w' => e = .returned (.bool false) ∧ Fr (fun _ => False) w w' := by
  have C1 := Lib.hid fun W => lMany_fr W l true b1
  have C2 := Lib.hid fun W => lMany_fr W A false b2
  clear b1 b2
  obtain ⟨gw, hgw⟩ : ∃ gw, gw = w.heap.size := ⟨_, rfl⟩
  obtain ⟨W1, hW⟩ : ∃ W, W = w.alloc (.cells #[.int .i64 l, .int .i64 A, .int .i64 D] 51) := ⟨_, rfl⟩
  have hf : Fr (fun _ => False) w W1 := by rw [hW]; exact (Fr.refl _ _).alloc _
  have hrow : W1.heap[gw]? = some (.cells #[.int .i64 l, .int .i64 A, .int .i64 D] 51 (0, 0)) := by rw [hW, hgw]; exact heap_alloc_new w _
  have k0 : W1.cell? ⟨gw, 0, none⟩ = some (.int .i64 l) := cell_of_row _ _ _ _ _ _ hrow
  have k1 : W1.cell? ⟨gw, 1, none⟩ = some (.int .i64 A) := cell_of_row _ _ _ _ _ _ hrow
  have k2 : W1.cell? ⟨gw, 2, none⟩ = some (.int .i64 D) := cell_of_row _ _ _ _ _ _ hrow
  have HF := Lib.hid hf
  have HW := Lib.hid (And.intro hW hgw)
  clear hf hW hgw
  have LD0 := Lib.hid (fun W (hW : Fr (fun _ => False) W1 W) => load_int5 W ⟨gw, 0, none⟩ (.int .i64 l) (hW.cell k0 id))
  have LD1 := Lib.hid (fun W (hW : Fr (fun _ => False) W1 W) => load_int5 W ⟨gw, 1, none⟩ (.int .i64 A) (hW.cell k1 id))
  have LD2 := Lib.hid (fun W (hW : Fr (fun _ => False) W1 W) => load_int5 W ⟨gw, 2, none⟩ (.int .i64 D) (hW.cell k2 id))
  have LDS := Lib.hid (fun W (hW : Fr (fun _ => False) W1 W) => load_shape5 W gw 0 _ _ _ (range_row5 (hW.heap hrow id)))
  clear k0 k1 k2 hrow
  go_enter Try.func53, Try.ntmps53
  go_wp2_with fail
  rw [← HW.out.1, ← HW.out.2]
  refine wp_region_inv 22 (by kernel_rfl) (by kernel_rfl) (fun W => Fr (fun _ => False) W1 W) (RgtR1 gw l A D) (fun _ _ _ _ => True) (Fr (fun _ => False)) (RgtR1.ext gw l A D) (Fr.refl _ _).drew ?_ ?_
  · intro i hi o ho
    replace hi : i < 22 := hi
    obtain rfl | rfl | rfl | rfl | rfl | rfl | rfl | rfl | rfl | rfl | rfl | rfl | rfl | rfl | rfl | rfl | rfl | rfl | rfl | rfl | rfl | rfl : i = 0 ∨ i = 1 ∨ i = 2 ∨ i = 3 ∨ i = 4 ∨ i = 5 ∨ i = 6 ∨ i = 7 ∨ i = 8 ∨ i = 9 ∨ i = 10 ∨ i = 11 ∨ i = 12 ∨ i = 13 ∨ i = 14 ∨ i = 15 ∨ i = 16 ∨ i = 17 ∨ i = 18 ∨ i = 19 ∨ i = 20 ∨ i = 21 := by omega
    · simp only [List.getElem?_cons_zero, Option.some.injEq] at ho
      subst ho
      intro a W vs hB hS hE hU
      refine wpG_plain rfl ?_
      have v1 : a.eval (.tmp 1) = .pointer (some ⟨gw, 0, none⟩) := (hU 1 (by kernel_rfl)).trans rfl
      clear hE hU
      exact wp_value_inv (w' := W) (.pointer (some ⟨gw, 0, none⟩)) (op_fieldAddr rfl v1 (fld_spence_api_Shape_0_0 W gw)) ⟨_, rfl, hB, Fr.refl _ _, rfl, fun _ _ _ _ _ => trivial⟩
    · simp only [List.getElem?_cons_zero, List.getElem?_cons_succ, Option.some.injEq] at ho
      subst ho
      intro a W vs hB hS hE hU
      refine wpG_plain rfl ?_
      obtain ⟨r0, e3⟩ := hE 0 3 (by kernel_rfl) (by kernel_rfl)
      have v3 : a.eval (.tmp 3) = .pointer (some ⟨gw, 0, none⟩) := e3.trans r0
      clear hE hU
      exact wp_value_inv (w' := W) (.int .i64 (l : Nat)) (op_loadAt rfl v3 (LD0.out W hB)) ⟨_, rfl, hB, Fr.refl _ _, rfl, fun _ _ _ _ _ => trivial⟩
    · simp only [List.getElem?_cons_zero, List.getElem?_cons_succ, Option.some.injEq] at ho
      subst ho
      intro a W vs hB hS hE hU
      refine wpG_plain rfl ?_
      obtain ⟨r1, e4⟩ := hE 1 4 (by kernel_rfl) (by kernel_rfl)
      have v4 : a.eval (.tmp 4) = .int .i64 (l : Nat) := e4.trans r1
      clear hE hU
      refine wp_call_inv 73 #[.tmp 4] #[3] rfl #[.int .i64 (l : Nat)] (by simp only [List.map_toArray, List.map_cons, List.map_nil, v4]) (ent_spence_log_isMany _) (Post := fun v W' => v = .bool true ∧ Fr (fun _ => False) W W') (((C1.out W)).mono fun e w' h => ⟨_, h.1, rfl, h.2⟩) ?_
      rintro v W' ⟨rfl, hf⟩
      exact ⟨_, rfl, hB.trans hf (fun _ h => h.elim), hf, rfl, fun _ _ _ _ _ => trivial⟩
    · simp only [List.getElem?_cons_zero, List.getElem?_cons_succ, Option.some.injEq] at ho
      subst ho
      intro a W vs hB hS hE hU
      refine wpG_plain rfl ?_
      obtain ⟨r2, e5⟩ := hE 2 5 (by kernel_rfl) (by kernel_rfl)
      have v5 : a.eval (.tmp 5) = .bool true := e5.trans r2
      clear hE hU
      exact wp_value_inv (w' := W) (.bool true) (op_move rfl v5) ⟨_, rfl, hB, Fr.refl _ _, rfl, fun _ _ _ _ _ => trivial⟩
    · simp only [List.getElem?_cons_zero, List.getElem?_cons_succ, Option.some.injEq] at ho
      subst ho
      intro a W vs hB hS hE hU
      obtain ⟨r3, e6⟩ := hE 3 6 (by kernel_rfl) (by kernel_rfl)
      have v6 : a.eval (.tmp 6) = .bool true := e6.trans r3
      refine wpG_yes 3 true 6 rfl (by kernel_rfl) (by rw [hS]; first | simp | exact Nat.le_of_ble_eq_true rfl) v6 ?_
      have v1 : a.eval (.tmp 1) = .pointer (some ⟨gw, 0, none⟩) := (hU 1 (by kernel_rfl)).trans rfl
      clear hE hU
      exact wp_value_inv (w' := W) (.pointer (some ⟨gw, 1, none⟩)) (op_fieldAddr rfl v1 (fld_spence_api_Shape_1_0 W gw)) ⟨_, rfl, hB, Fr.refl _ _, rfl, fun _ _ _ _ _ => trivial⟩
    · simp only [List.getElem?_cons_zero, List.getElem?_cons_succ, Option.some.injEq] at ho
      subst ho
      intro a W vs hB hS hE hU
      obtain ⟨r3, e6⟩ := hE 3 6 (by kernel_rfl) (by kernel_rfl)
      have v6 : a.eval (.tmp 6) = .bool true := e6.trans r3
      refine wpG_yes 3 true 6 rfl (by kernel_rfl) (by rw [hS]; first | simp | exact Nat.le_of_ble_eq_true rfl) v6 ?_
      obtain ⟨r4, e7⟩ := hE 4 7 (by kernel_rfl) (by kernel_rfl)
      have v7 : a.eval (.tmp 7) = .pointer (some ⟨gw, 1, none⟩) := e7.trans r4
      clear hE hU
      exact wp_value_inv (w' := W) (.int .i64 A) (op_loadAt rfl v7 (LD1.out W hB)) ⟨_, rfl, hB, Fr.refl _ _, rfl, fun _ _ _ _ _ => trivial⟩
    · simp only [List.getElem?_cons_zero, List.getElem?_cons_succ, Option.some.injEq] at ho
      subst ho
      intro a W vs hB hS hE hU
      obtain ⟨r3, e6⟩ := hE 3 6 (by kernel_rfl) (by kernel_rfl)
      have v6 : a.eval (.tmp 6) = .bool true := e6.trans r3
      refine wpG_yes 3 true 6 rfl (by kernel_rfl) (by rw [hS]; first | simp | exact Nat.le_of_ble_eq_true rfl) v6 ?_
      obtain ⟨r5, e8⟩ := hE 5 8 (by kernel_rfl) (by kernel_rfl)
      have v8 : a.eval (.tmp 8) = .int .i64 A := e8.trans r5
      clear hE hU
      refine wp_call_inv 73 #[.tmp 8] #[3] rfl #[.int .i64 A] (by simp only [List.map_toArray, List.map_cons, List.map_nil, v8]) (ent_spence_log_isMany _) (Post := fun v W' => v = .bool false ∧ Fr (fun _ => False) W W') (((C2.out W)).mono fun e w' h => ⟨_, h.1, rfl, h.2⟩) ?_
      rintro v W' ⟨rfl, hf⟩
      exact ⟨_, rfl, hB.trans hf (fun _ h => h.elim), hf, rfl, fun _ _ _ _ _ => trivial⟩
    · simp only [List.getElem?_cons_zero, List.getElem?_cons_succ, Option.some.injEq] at ho
      subst ho
      intro a W vs hB hS hE hU
      refine wpG_plain rfl ?_
      obtain ⟨r3, e6⟩ := hE 3 6 (by kernel_rfl) (by kernel_rfl)
      have v6 : a.eval (.tmp 6) = .bool true := e6.trans r3
      obtain ⟨r6, e9⟩ := hE 6 9 (by kernel_rfl) (by kernel_rfl)
      have v9 : a.eval (.tmp 9) = .bool false := e9.trans r6
      clear hE hU
      exact wp_value_inv (w' := W) (.bool false) (op_pick rfl v6 (by simp only [if_true]; exact v9)) ⟨_, rfl, hB, Fr.refl _ _, rfl, fun _ _ _ _ _ => trivial⟩
    · simp only [List.getElem?_cons_zero, List.getElem?_cons_succ, Option.some.injEq] at ho
      subst ho
      intro a W vs hB hS hE hU
      refine wpG_plain rfl ?_
      obtain ⟨r7, e10⟩ := hE 7 10 (by kernel_rfl) (by kernel_rfl)
      have v10 : a.eval (.tmp 10) = .bool false := e10.trans r7
      clear hE hU
      exact wp_value_inv (w' := W) (.bool false) (op_move rfl v10) ⟨_, rfl, hB, Fr.refl _ _, rfl, fun _ _ _ _ _ => trivial⟩
    · simp only [List.getElem?_cons_zero, List.getElem?_cons_succ, Option.some.injEq] at ho
      subst ho
      intro a W vs hB hS hE hU
      obtain ⟨r8, e11⟩ := hE 8 11 (by kernel_rfl) (by kernel_rfl)
      have v11 : a.eval (.tmp 11) = .bool false := e11.trans r8
      exact wpG_no 8 true 11 rfl (by kernel_rfl) (by rw [hS]; first | simp | exact Nat.le_of_ble_eq_true rfl) v11 ⟨_, rfl, hB, Fr.refl _ _, rfl, fun _ _ _ _ _ => trivial⟩
    · simp only [List.getElem?_cons_zero, List.getElem?_cons_succ, Option.some.injEq] at ho
      subst ho
      intro a W vs hB hS hE hU
      obtain ⟨r8, e11⟩ := hE 8 11 (by kernel_rfl) (by kernel_rfl)
      have v11 : a.eval (.tmp 11) = .bool false := e11.trans r8
      exact wpG_no 8 true 11 rfl (by kernel_rfl) (by rw [hS]; first | simp | exact Nat.le_of_ble_eq_true rfl) v11 ⟨_, rfl, hB, Fr.refl _ _, rfl, fun _ _ _ _ _ => trivial⟩
    · simp only [List.getElem?_cons_zero, List.getElem?_cons_succ, Option.some.injEq] at ho
      subst ho
      intro a W vs hB hS hE hU
      obtain ⟨r8, e11⟩ := hE 8 11 (by kernel_rfl) (by kernel_rfl)
      have v11 : a.eval (.tmp 11) = .bool false := e11.trans r8
      exact wpG_no 8 true 11 rfl (by kernel_rfl) (by rw [hS]; first | simp | exact Nat.le_of_ble_eq_true rfl) v11 ⟨_, rfl, hB, Fr.refl _ _, rfl, fun _ _ _ _ _ => trivial⟩
    · simp only [List.getElem?_cons_zero, List.getElem?_cons_succ, Option.some.injEq] at ho
      subst ho
      intro a W vs hB hS hE hU
      refine wpG_plain rfl ?_
      obtain ⟨r8, e11⟩ := hE 8 11 (by kernel_rfl) (by kernel_rfl)
      have v11 : a.eval (.tmp 11) = .bool false := e11.trans r8
      clear hE hU
      exact wp_value_inv (w' := W) (.bool false) (op_pick rfl v11 (by simp only [Bool.false_eq_true, if_false]; rfl)) ⟨_, rfl, hB, Fr.refl _ _, rfl, fun _ _ _ _ _ => trivial⟩
    · simp only [List.getElem?_cons_zero, List.getElem?_cons_succ, Option.some.injEq] at ho
      subst ho
      intro a W vs hB hS hE hU
      refine wpG_plain rfl ?_
      obtain ⟨r12, e15⟩ := hE 12 15 (by kernel_rfl) (by kernel_rfl)
      have v15 : a.eval (.tmp 15) = .bool false := e15.trans r12
      clear hE hU
      exact wp_value_inv (w' := W) (.bool false) (op_move rfl v15) ⟨_, rfl, hB, Fr.refl _ _, rfl, fun _ _ _ _ _ => trivial⟩
    · simp only [List.getElem?_cons_zero, List.getElem?_cons_succ, Option.some.injEq] at ho
      subst ho
      intro a W vs hB hS hE hU
      obtain ⟨r13, e16⟩ := hE 13 16 (by kernel_rfl) (by kernel_rfl)
      have v16 : a.eval (.tmp 16) = .bool false := e16.trans r13
      exact wpG_no 13 true 16 rfl (by kernel_rfl) (by rw [hS]; first | simp | exact Nat.le_of_ble_eq_true rfl) v16 ⟨_, rfl, hB, Fr.refl _ _, rfl, fun _ _ _ _ _ => trivial⟩
    · simp only [List.getElem?_cons_zero, List.getElem?_cons_succ, Option.some.injEq] at ho
      subst ho
      intro a W vs hB hS hE hU
      obtain ⟨r13, e16⟩ := hE 13 16 (by kernel_rfl) (by kernel_rfl)
      have v16 : a.eval (.tmp 16) = .bool false := e16.trans r13
      exact wpG_no 13 true 16 rfl (by kernel_rfl) (by rw [hS]; first | simp | exact Nat.le_of_ble_eq_true rfl) v16 ⟨_, rfl, hB, Fr.refl _ _, rfl, fun _ _ _ _ _ => trivial⟩
    · simp only [List.getElem?_cons_zero, List.getElem?_cons_succ, Option.some.injEq] at ho
      subst ho
      intro a W vs hB hS hE hU
      obtain ⟨r13, e16⟩ := hE 13 16 (by kernel_rfl) (by kernel_rfl)
      have v16 : a.eval (.tmp 16) = .bool false := e16.trans r13
      exact wpG_no 13 true 16 rfl (by kernel_rfl) (by rw [hS]; first | simp | exact Nat.le_of_ble_eq_true rfl) v16 ⟨_, rfl, hB, Fr.refl _ _, rfl, fun _ _ _ _ _ => trivial⟩
    · simp only [List.getElem?_cons_zero, List.getElem?_cons_succ, Option.some.injEq] at ho
      subst ho
      intro a W vs hB hS hE hU
      obtain ⟨r13, e16⟩ := hE 13 16 (by kernel_rfl) (by kernel_rfl)
      have v16 : a.eval (.tmp 16) = .bool false := e16.trans r13
      exact wpG_no 13 true 16 rfl (by kernel_rfl) (by rw [hS]; first | simp | exact Nat.le_of_ble_eq_true rfl) v16 ⟨_, rfl, hB, Fr.refl _ _, rfl, fun _ _ _ _ _ => trivial⟩
    · simp only [List.getElem?_cons_zero, List.getElem?_cons_succ, Option.some.injEq] at ho
      subst ho
      intro a W vs hB hS hE hU
      obtain ⟨r13, e16⟩ := hE 13 16 (by kernel_rfl) (by kernel_rfl)
      have v16 : a.eval (.tmp 16) = .bool false := e16.trans r13
      exact wpG_no 13 true 16 rfl (by kernel_rfl) (by rw [hS]; first | simp | exact Nat.le_of_ble_eq_true rfl) v16 ⟨_, rfl, hB, Fr.refl _ _, rfl, fun _ _ _ _ _ => trivial⟩
    · simp only [List.getElem?_cons_zero, List.getElem?_cons_succ, Option.some.injEq] at ho
      subst ho
      intro a W vs hB hS hE hU
      obtain ⟨r13, e16⟩ := hE 13 16 (by kernel_rfl) (by kernel_rfl)
      have v16 : a.eval (.tmp 16) = .bool false := e16.trans r13
      exact wpG_no 13 true 16 rfl (by kernel_rfl) (by rw [hS]; first | simp | exact Nat.le_of_ble_eq_true rfl) v16 ⟨_, rfl, hB, Fr.refl _ _, rfl, fun _ _ _ _ _ => trivial⟩
    · simp only [List.getElem?_cons_zero, List.getElem?_cons_succ, Option.some.injEq] at ho
      subst ho
      intro a W vs hB hS hE hU
      refine wpG_plain rfl ?_
      obtain ⟨r13, e16⟩ := hE 13 16 (by kernel_rfl) (by kernel_rfl)
      have v16 : a.eval (.tmp 16) = .bool false := e16.trans r13
      clear hE hU
      exact wp_value_inv (w' := W) (.bool false) (op_pick rfl v16 (by simp only [Bool.false_eq_true, if_false]; rfl)) ⟨_, rfl, hB, Fr.refl _ _, rfl, fun _ _ _ _ _ => trivial⟩
    · simp only [List.getElem?_cons_zero, List.getElem?_cons_succ, Option.some.injEq] at ho
      subst ho
      intro a W vs hB hS hE hU
      refine wpG_plain rfl ?_
      obtain ⟨r20, e23⟩ := hE 20 23 (by kernel_rfl) (by kernel_rfl)
      have v23 : a.eval (.tmp 23) = .bool false := e23.trans r20
      clear hE hU
      exact wp_value_inv (w' := W) (.bool false) (op_assign rfl v23) ⟨_, rfl, hB, Fr.refl _ _, rfl, fun _ _ _ _ _ => trivial⟩
  · intro vs Wa hB0 hR0 hD
    have r2 : vs 21 = .bool false := hR0 21 (by decide)
    have HB := Lib.hid hB0
    clear hR0 hD hB0
    simp only [acts, if_true, dstAt, List.getElem?_cons_zero, List.getElem?_cons_succ, Option.bind_some, Act.put, List.setIfInBounds_toArray, List.set_cons_succ, List.set_cons_zero, List.drop_succ_cons, List.drop_nil]
    simp only [r2]
    clear r2
    go_wp2
    go_ret
    exact ⟨rfl, HF.out.trans HB.out (fun _ h => h.elim)⟩
set_option maxRecDepth 100000 in
set_option maxHeartbeats 4000000 in
theorem lRight_2 (w : World) (l la : Nat) (D : Int) (b1 : manyS l = true) (b2 : manyS la = true) (b3 : manyS D = false) :
    Calls Try.prog 53 #[.agg #[.int .i64 l, .int .i64 la, .int .i64 D]] w fun e w' => e = .returned (.bool false) ∧ Fr (fun _ => False) w w' := by
  have C1 := Lib.hid fun W => lMany_fr W l true b1
  have C2 := Lib.hid fun W => lMany_fr W la true b2
  have C3 := Lib.hid fun W => lMany_fr W D false b3
  clear b1 b2 b3
  obtain ⟨gw, hgw⟩ : ∃ gw, gw = w.heap.size := ⟨_, rfl⟩
  obtain ⟨W1, hW⟩ : ∃ W, W = w.alloc (.cells #[.int .i64 l, .int .i64 la, .int .i64 D] 51) := ⟨_, rfl⟩
  have hf : Fr (fun _ => False) w W1 := by rw [hW]; exact (Fr.refl _ _).alloc _
  have hrow : W1.heap[gw]? = some (.cells #[.int .i64 l, .int .i64 la, .int .i64 D] 51 (0, 0)) := by rw [hW, hgw]; exact heap_alloc_new w _
  have k0 : W1.cell? ⟨gw, 0, none⟩ = some (.int .i64 l) := cell_of_row _ _ _ _ _ _ hrow
  have k1 : W1.cell? ⟨gw, 1, none⟩ = some (.int .i64 la) := cell_of_row _ _ _ _ _ _ hrow
  have k2 : W1.cell? ⟨gw, 2, none⟩ = some (.int .i64 D) := cell_of_row _ _ _ _ _ _ hrow
  have HF := Lib.hid hf
  have HW := Lib.hid (And.intro hW hgw)
  clear hf hW hgw
  have LD0 := Lib.hid (fun W (hW : Fr (fun _ => False) W1 W) => load_int5 W ⟨gw, 0, none⟩ (.int .i64 l) (hW.cell k0 id))
  have LD1 := Lib.hid (fun W (hW : Fr (fun _ => False) W1 W) => load_int5 W ⟨gw, 1, none⟩ (.int .i64 la) (hW.cell k1 id))
  have LD2 := Lib.hid (fun W (hW : Fr (fun _ => False) W1 W) => load_int5 W ⟨gw, 2, none⟩ (.int .i64 D) (hW.cell k2 id))
  have LDS := Lib.hid (fun W (hW : Fr (fun _ => False) W1 W) => load_shape5 W gw 0 _ _ _ (range_row5 (hW.heap hrow id)))
  clear k0 k1 k2 hrow
  go_enter Try.func53, Try.ntmps53
  go_wp2_with fail
  rw [← HW.out.1, ← HW.out.2]
  refine wp_region_inv 22 (by kernel_rfl) (by kernel_rfl) (fun W => Fr (fun _ => False) W1 W) (RgtR2 gw l la D) (fun _ _ _ _ => True) (Fr (fun _ => False)) (RgtR2.ext gw l la D) (Fr.refl _ _).drew ?_ ?_
  · intro i hi o ho
    replace hi : i < 22 := hi
    obtain rfl | rfl | rfl | rfl | rfl | rfl | rfl | rfl | rfl | rfl | rfl | rfl | rfl | rfl | rfl | rfl | rfl | rfl | rfl | rfl | rfl | rfl : i = 0 ∨ i = 1 ∨ i = 2 ∨ i = 3 ∨ i = 4 ∨ i = 5 ∨ i = 6 ∨ i = 7 ∨ i = 8 ∨ i = 9 ∨ i = 10 ∨ i = 11 ∨ i = 12 ∨ i = 13 ∨ i = 14 ∨ i = 15 ∨ i = 16 ∨ i = 17 ∨ i = 18 ∨ i = 19 ∨ i = 20 ∨ i = 21 := by omega
    · simp only [List.getElem?_cons_zero, Option.some.injEq] at ho
      subst ho
      intro a W vs hB hS hE hU
      refine wpG_plain rfl ?_
      have v1 : a.eval (.tmp 1) = .pointer (some ⟨gw, 0, none⟩) := (hU 1 (by kernel_rfl)).trans rfl
      clear hE hU
      exact wp_value_inv (w' := W) (.pointer (some ⟨gw, 0, none⟩)) (op_fieldAddr rfl v1 (fld_spence_api_Shape_0_0 W gw)) ⟨_, rfl, hB, Fr.refl _ _, rfl, fun _ _ _ _ _ => trivial⟩
    · simp only [List.getElem?_cons_zero, List.getElem?_cons_succ, Option.some.injEq] at ho
      subst ho
      intro a W vs hB hS hE hU
      refine wpG_plain rfl ?_
      obtain ⟨r0, e3⟩ := hE 0 3 (by kernel_rfl) (by kernel_rfl)
      have v3 : a.eval (.tmp 3) = .pointer (some ⟨gw, 0, none⟩) := e3.trans r0
      clear hE hU
      exact wp_value_inv (w' := W) (.int .i64 (l : Nat)) (op_loadAt rfl v3 (LD0.out W hB)) ⟨_, rfl, hB, Fr.refl _ _, rfl, fun _ _ _ _ _ => trivial⟩
    · simp only [List.getElem?_cons_zero, List.getElem?_cons_succ, Option.some.injEq] at ho
      subst ho
      intro a W vs hB hS hE hU
      refine wpG_plain rfl ?_
      obtain ⟨r1, e4⟩ := hE 1 4 (by kernel_rfl) (by kernel_rfl)
      have v4 : a.eval (.tmp 4) = .int .i64 (l : Nat) := e4.trans r1
      clear hE hU
      refine wp_call_inv 73 #[.tmp 4] #[3] rfl #[.int .i64 (l : Nat)] (by simp only [List.map_toArray, List.map_cons, List.map_nil, v4]) (ent_spence_log_isMany _) (Post := fun v W' => v = .bool true ∧ Fr (fun _ => False) W W') (((C1.out W)).mono fun e w' h => ⟨_, h.1, rfl, h.2⟩) ?_
      rintro v W' ⟨rfl, hf⟩
      exact ⟨_, rfl, hB.trans hf (fun _ h => h.elim), hf, rfl, fun _ _ _ _ _ => trivial⟩
    · simp only [List.getElem?_cons_zero, List.getElem?_cons_succ, Option.some.injEq] at ho
      subst ho
      intro a W vs hB hS hE hU
      refine wpG_plain rfl ?_
      obtain ⟨r2, e5⟩ := hE 2 5 (by kernel_rfl) (by kernel_rfl)
      have v5 : a.eval (.tmp 5) = .bool true := e5.trans r2
      clear hE hU
      exact wp_value_inv (w' := W) (.bool true) (op_move rfl v5) ⟨_, rfl, hB, Fr.refl _ _, rfl, fun _ _ _ _ _ => trivial⟩
    · simp only [List.getElem?_cons_zero, List.getElem?_cons_succ, Option.some.injEq] at ho
      subst ho
      intro a W vs hB hS hE hU
      obtain ⟨r3, e6⟩ := hE 3 6 (by kernel_rfl) (by kernel_rfl)
      have v6 : a.eval (.tmp 6) = .bool true := e6.trans r3
      refine wpG_yes 3 true 6 rfl (by kernel_rfl) (by rw [hS]; first | simp | exact Nat.le_of_ble_eq_true rfl) v6 ?_
      have v1 : a.eval (.tmp 1) = .pointer (some ⟨gw, 0, none⟩) := (hU 1 (by kernel_rfl)).trans rfl
      clear hE hU
      exact wp_value_inv (w' := W) (.pointer (some ⟨gw, 1, none⟩)) (op_fieldAddr rfl v1 (fld_spence_api_Shape_1_0 W gw)) ⟨_, rfl, hB, Fr.refl _ _, rfl, fun _ _ _ _ _ => trivial⟩
    · simp only [List.getElem?_cons_zero, List.getElem?_cons_succ, Option.some.injEq] at ho
      subst ho
      intro a W vs hB hS hE hU
      obtain ⟨r3, e6⟩ := hE 3 6 (by kernel_rfl) (by kernel_rfl)
      have v6 : a.eval (.tmp 6) = .bool true := e6.trans r3
      refine wpG_yes 3 true 6 rfl (by kernel_rfl) (by rw [hS]; first | simp | exact Nat.le_of_ble_eq_true rfl) v6 ?_
      obtain ⟨r4, e7⟩ := hE 4 7 (by kernel_rfl) (by kernel_rfl)
      have v7 : a.eval (.tmp 7) = .pointer (some ⟨gw, 1, none⟩) := e7.trans r4
      clear hE hU
      exact wp_value_inv (w' := W) (.int .i64 (la : Nat)) (op_loadAt rfl v7 (LD1.out W hB)) ⟨_, rfl, hB, Fr.refl _ _, rfl, fun _ _ _ _ _ => trivial⟩
    · simp only [List.getElem?_cons_zero, List.getElem?_cons_succ, Option.some.injEq] at ho
      subst ho
      intro a W vs hB hS hE hU
      obtain ⟨r3, e6⟩ := hE 3 6 (by kernel_rfl) (by kernel_rfl)
      have v6 : a.eval (.tmp 6) = .bool true := e6.trans r3
      refine wpG_yes 3 true 6 rfl (by kernel_rfl) (by rw [hS]; first | simp | exact Nat.le_of_ble_eq_true rfl) v6 ?_
      obtain ⟨r5, e8⟩ := hE 5 8 (by kernel_rfl) (by kernel_rfl)
      have v8 : a.eval (.tmp 8) = .int .i64 (la : Nat) := e8.trans r5
      clear hE hU
      refine wp_call_inv 73 #[.tmp 8] #[3] rfl #[.int .i64 (la : Nat)] (by simp only [List.map_toArray, List.map_cons, List.map_nil, v8]) (ent_spence_log_isMany _) (Post := fun v W' => v = .bool true ∧ Fr (fun _ => False) W W') (((C2.out W)).mono fun e w' h => ⟨_, h.1, rfl, h.2⟩) ?_
      rintro v W' ⟨rfl, hf⟩
      exact ⟨_, rfl, hB.trans hf (fun _ h => h.elim), hf, rfl, fun _ _ _ _ _ => trivial⟩
    · simp only [List.getElem?_cons_zero, List.getElem?_cons_succ, Option.some.injEq] at ho
      subst ho
      intro a W vs hB hS hE hU
      refine wpG_plain rfl ?_
      obtain ⟨r3, e6⟩ := hE 3 6 (by kernel_rfl) (by kernel_rfl)
      have v6 : a.eval (.tmp 6) = .bool true := e6.trans r3
      obtain ⟨r6, e9⟩ := hE 6 9 (by kernel_rfl) (by kernel_rfl)
      have v9 : a.eval (.tmp 9) = .bool true := e9.trans r6
      clear hE hU
      exact wp_value_inv (w' := W) (.bool true) (op_pick rfl v6 (by simp only [if_true]; exact v9)) ⟨_, rfl, hB, Fr.refl _ _, rfl, fun _ _ _ _ _ => trivial⟩
    · simp only [List.getElem?_cons_zero, List.getElem?_cons_succ, Option.some.injEq] at ho
      subst ho
      intro a W vs hB hS hE hU
      refine wpG_plain rfl ?_
      obtain ⟨r7, e10⟩ := hE 7 10 (by kernel_rfl) (by kernel_rfl)
      have v10 : a.eval (.tmp 10) = .bool true := e10.trans r7
      clear hE hU
      exact wp_value_inv (w' := W) (.bool true) (op_move rfl v10) ⟨_, rfl, hB, Fr.refl _ _, rfl, fun _ _ _ _ _ => trivial⟩
    · simp only [List.getElem?_cons_zero, List.getElem?_cons_succ, Option.some.injEq] at ho
      subst ho
      intro a W vs hB hS hE hU
      obtain ⟨r8, e11⟩ := hE 8 11 (by kernel_rfl) (by kernel_rfl)
      have v11 : a.eval (.tmp 11) = .bool true := e11.trans r8
      refine wpG_yes 8 true 11 rfl (by kernel_rfl) (by rw [hS]; first | simp | exact Nat.le_of_ble_eq_true rfl) v11 ?_
      have v1 : a.eval (.tmp 1) = .pointer (some ⟨gw, 0, none⟩) := (hU 1 (by kernel_rfl)).trans rfl
      clear hE hU
      exact wp_value_inv (w' := W) (.pointer (some ⟨gw, 2, none⟩)) (op_fieldAddr rfl v1 (fld_spence_api_Shape_2_0 W gw)) ⟨_, rfl, hB, Fr.refl _ _, rfl, fun _ _ _ _ _ => trivial⟩
    · simp only [List.getElem?_cons_zero, List.getElem?_cons_succ, Option.some.injEq] at ho
      subst ho
      intro a W vs hB hS hE hU
      obtain ⟨r8, e11⟩ := hE 8 11 (by kernel_rfl) (by kernel_rfl)
      have v11 : a.eval (.tmp 11) = .bool true := e11.trans r8
      refine wpG_yes 8 true 11 rfl (by kernel_rfl) (by rw [hS]; first | simp | exact Nat.le_of_ble_eq_true rfl) v11 ?_
      obtain ⟨r9, e12⟩ := hE 9 12 (by kernel_rfl) (by kernel_rfl)
      have v12 : a.eval (.tmp 12) = .pointer (some ⟨gw, 2, none⟩) := e12.trans r9
      clear hE hU
      exact wp_value_inv (w' := W) (.int .i64 D) (op_loadAt rfl v12 (LD2.out W hB)) ⟨_, rfl, hB, Fr.refl _ _, rfl, fun _ _ _ _ _ => trivial⟩
    · simp only [List.getElem?_cons_zero, List.getElem?_cons_succ, Option.some.injEq] at ho
      subst ho
      intro a W vs hB hS hE hU
      obtain ⟨r8, e11⟩ := hE 8 11 (by kernel_rfl) (by kernel_rfl)
      have v11 : a.eval (.tmp 11) = .bool true := e11.trans r8
      refine wpG_yes 8 true 11 rfl (by kernel_rfl) (by rw [hS]; first | simp | exact Nat.le_of_ble_eq_true rfl) v11 ?_
      obtain ⟨r10, e13⟩ := hE 10 13 (by kernel_rfl) (by kernel_rfl)
      have v13 : a.eval (.tmp 13) = .int .i64 D := e13.trans r10
      clear hE hU
      refine wp_call_inv 73 #[.tmp 13] #[3] rfl #[.int .i64 D] (by simp only [List.map_toArray, List.map_cons, List.map_nil, v13]) (ent_spence_log_isMany _) (Post := fun v W' => v = .bool false ∧ Fr (fun _ => False) W W') (((C3.out W)).mono fun e w' h => ⟨_, h.1, rfl, h.2⟩) ?_
      rintro v W' ⟨rfl, hf⟩
      exact ⟨_, rfl, hB.trans hf (fun _ h => h.elim), hf, rfl, fun _ _ _ _ _ => trivial⟩
    · simp only [List.getElem?_cons_zero, List.getElem?_cons_succ, Option.some.injEq] at ho
      subst ho
      intro a W vs hB hS hE hU
      refine wpG_plain rfl ?_
      obtain ⟨r8, e11⟩ := hE 8 11 (by kernel_rfl) (by kernel_rfl)
      have v11 : a.eval (.tmp 11) = .bool true := e11.trans r8
      obtain ⟨r11, e14⟩ := hE 11 14 (by kernel_rfl) (by kernel_rfl)
      have v14 : a.eval (.tmp 14) = .bool false := e14.trans r11
      clear hE hU
      exact wp_value_inv (w' := W) (.bool false) (op_pick rfl v11 (by simp only [if_true]; exact v14)) ⟨_, rfl, hB, Fr.refl _ _, rfl, fun _ _ _ _ _ => trivial⟩
    · simp only [List.getElem?_cons_zero, List.getElem?_cons_succ, Option.some.injEq] at ho
      subst ho
      intro a W vs hB hS hE hU
      refine wpG_plain rfl ?_
      obtain ⟨r12, e15⟩ := hE 12 15 (by kernel_rfl) (by kernel_rfl)
      have v15 : a.eval (.tmp 15) = .bool false := e15.trans r12
      clear hE hU
      exact wp_value_inv (w' := W) (.bool false) (op_move rfl v15) ⟨_, rfl, hB, Fr.refl _ _, rfl, fun _ _ _ _ _ => trivial⟩
    · simp only [List.getElem?_cons_zero, List.getElem?_cons_succ, Option.some.injEq] at ho
      subst ho
      intro a W vs hB hS hE hU
      obtain ⟨r13, e16⟩ := hE 13 16 (by kernel_rfl) (by kernel_rfl)
      have v16 : a.eval (.tmp 16) = .bool false := e16.trans r13
      exact wpG_no 13 true 16 rfl (by kernel_rfl) (by rw [hS]; first | simp | exact Nat.le_of_ble_eq_true rfl) v16 ⟨_, rfl, hB, Fr.refl _ _, rfl, fun _ _ _ _ _ => trivial⟩
    · simp only [List.getElem?_cons_zero, List.getElem?_cons_succ, Option.some.injEq] at ho
      subst ho
      intro a W vs hB hS hE hU
      obtain ⟨r13, e16⟩ := hE 13 16 (by kernel_rfl) (by kernel_rfl)
      have v16 : a.eval (.tmp 16) = .bool false := e16.trans r13
      exact wpG_no 13 true 16 rfl (by kernel_rfl) (by rw [hS]; first | simp | exact Nat.le_of_ble_eq_true rfl) v16 ⟨_, rfl, hB, Fr.refl _ _, rfl, fun _ _ _ _ _ => trivial⟩
    · simp only [List.getElem?_cons_zero, List.getElem?_cons_succ, Option.some.injEq] at ho
      subst ho
      intro a W vs hB hS hE hU
      obtain ⟨r13, e16⟩ := hE 13 16 (by kernel_rfl) (by kernel_rfl)
      have v16 : a.eval (.tmp 16) = .bool false := e16.trans r13
      exact wpG_no 13 true 16 rfl (by kernel_rfl) (by rw [hS]; first | simp | exact Nat.le_of_ble_eq_true rfl) v16 ⟨_, rfl, hB, Fr.refl _ _, rfl, fun _ _ _ _ _ => trivial⟩
    · simp only [List.getElem?_cons_zero, List.getElem?_cons_succ, Option.some.injEq] at ho
      subst ho
      intro a W vs hB hS hE hU
      obtain ⟨r13, e16⟩ := hE 13 16 (by kernel_rfl) (by kernel_rfl)
      have v16 : a.eval (.tmp 16) = .bool false := e16.trans r13
      exact wpG_no 13 true 16 rfl (by kernel_rfl) (by rw [hS]; first | simp | exact Nat.le_of_ble_eq_true rfl) v16 ⟨_, rfl, hB, Fr.refl _ _, rfl, fun _ _ _ _ _ => trivial⟩
    · simp only [List.getElem?_cons_zero, List.getElem?_cons_succ, Option.some.injEq] at ho
      subst ho
      intro a W vs hB hS hE hU
      obtain ⟨r13, e16⟩ := hE 13 16 (by kernel_rfl) (by kernel_rfl)
      have v16 : a.eval (.tmp 16) = .bool false := e16.trans r13
      exact wpG_no 13 true 16 rfl (by kernel_rfl) (by rw [hS]; first | simp | exact Nat.le_of_ble_eq_true rfl) v16 ⟨_, rfl, hB, Fr.refl _ _, rfl, fun _ _ _ _ _ => trivial⟩
    · simp only [List.getElem?_cons_zero, List.getElem?_cons_succ, Option.some.injEq] at ho
      subst ho
      intro a W vs hB hS hE hU
      obtain ⟨r13, e16⟩ := hE 13 16 (by kernel_rfl) (by kernel_rfl)
      have v16 : a.eval (.tmp 16) = .bool false := e16.trans r13
      exact wpG_no 13 true 16 rfl (by kernel_rfl) (by rw [hS]; first | simp | exact Nat.le_of_ble_eq_true rfl) v16 ⟨_, rfl, hB, Fr.refl _ _, rfl, fun _ _ _ _ _ => trivial⟩
    · simp only [List.getElem?_cons_zero, List.getElem?_cons_succ, Option.some.injEq] at ho
      subst ho
      intro a W vs hB hS hE hU
      refine wpG_plain rfl ?_
      obtain ⟨r13, e16⟩ := hE 13 16 (by kernel_rfl) (by kernel_rfl)
      have v16 : a.eval (.tmp 16) = .bool false := e16.trans r13
      clear hE hU
      exact wp_value_inv (w' := W) (.bool false) (op_pick rfl v16 (by simp only [Bool.false_eq_true, if_false]; rfl)) ⟨_, rfl, hB, Fr.refl _ _, rfl, fun _ _ _ _ _ => trivial⟩
    · simp only [List.getElem?_cons_zero, List.getElem?_cons_succ, Option.some.injEq] at ho
      subst ho
      intro a W vs hB hS hE hU
      refine wpG_plain rfl ?_
      obtain ⟨r20, e23⟩ := hE 20 23 (by kernel_rfl) (by kernel_rfl)
      have v23 : a.eval (.tmp 23) = .bool false := e23.trans r20
      clear hE hU
      exact wp_value_inv (w' := W) (.bool false) (op_assign rfl v23) ⟨_, rfl, hB, Fr.refl _ _, rfl, fun _ _ _ _ _ => trivial⟩
  · intro vs Wa hB0 hR0 hD
    have r2 : vs 21 = .bool false := hR0 21 (by decide)
    have HB := Lib.hid hB0
    clear hR0 hD hB0
    simp only [acts, if_true, dstAt, List.getElem?_cons_zero, List.getElem?_cons_succ, Option.bind_some, Act.put, List.setIfInBounds_toArray, List.set_cons_succ, List.set_cons_zero, List.drop_succ_cons, List.drop_nil]
    simp only [r2]
    clear r2
    go_wp2
    go_ret
    exact ⟨rfl, HF.out.trans HB.out (fun _ h => h.elim)⟩
set_option maxRecDepth 100000 in
set_option maxHeartbeats 4000000 in
theorem lRight_4 (w : World) (l la d m : Nat) (b1 : manyS l = true) (b2 : manyS la = true) (b3 : manyS d = true) (hl2 : l ≤ 8192) (ha2 : la ≤ 8192) (hd2 : d ≤ 8192) (hm : m = 1 + l + 2 * la) (hle : m + d ≤ 8192) :
    Calls Try.prog 53 #[.agg #[.int .i64 l, .int .i64 la, .int .i64 d]] w fun e w' => e = .returned (.bool true) ∧ Fr (fun _ => False) w w' := by
  have C1 := Lib.hid fun W => lMany_fr W l true b1
  have C2 := Lib.hid fun W => lMany_fr W la true b2
  have C3 := Lib.hid fun W => lMany_fr W d true b3
  have HD := Lib.hid fun w => lData_any w l la d hl2 ha2
  rw [← hm] at HD
  have HMB := Lib.hid (And.intro (show m ≤ 30000 ∧ d ≤ 8192 by omega) hle)
  clear hm hle hl2 ha2 hd2
  clear b1 b2 b3
  obtain ⟨gw, hgw⟩ : ∃ gw, gw = w.heap.size := ⟨_, rfl⟩
  obtain ⟨W1, hW⟩ : ∃ W, W = w.alloc (.cells #[.int .i64 l, .int .i64 la, .int .i64 d] 51) := ⟨_, rfl⟩
  have hf : Fr (fun _ => False) w W1 := by rw [hW]; exact (Fr.refl _ _).alloc _
  have hrow : W1.heap[gw]? = some (.cells #[.int .i64 l, .int .i64 la, .int .i64 d] 51 (0, 0)) := by rw [hW, hgw]; exact heap_alloc_new w _
  have k0 : W1.cell? ⟨gw, 0, none⟩ = some (.int .i64 l) := cell_of_row _ _ _ _ _ _ hrow
  have k1 : W1.cell? ⟨gw, 1, none⟩ = some (.int .i64 la) := cell_of_row _ _ _ _ _ _ hrow
  have k2 : W1.cell? ⟨gw, 2, none⟩ = some (.int .i64 d) := cell_of_row _ _ _ _ _ _ hrow
  have HF := Lib.hid hf
  have HW := Lib.hid (And.intro hW hgw)
  clear hf hW hgw
  have LD0 := Lib.hid (fun W (hW : Fr (fun _ => False) W1 W) => load_int5 W ⟨gw, 0, none⟩ (.int .i64 l) (hW.cell k0 id))
  have LD1 := Lib.hid (fun W (hW : Fr (fun _ => False) W1 W) => load_int5 W ⟨gw, 1, none⟩ (.int .i64 la) (hW.cell k1 id))
  have LD2 := Lib.hid (fun W (hW : Fr (fun _ => False) W1 W) => load_int5 W ⟨gw, 2, none⟩ (.int .i64 d) (hW.cell k2 id))
  have LDS := Lib.hid (fun W (hW : Fr (fun _ => False) W1 W) => load_shape5 W gw 0 _ _ _ (range_row5 (hW.heap hrow id)))
  clear k0 k1 k2 hrow
  go_enter Try.func53, Try.ntmps53
  go_wp2_with fail
  rw [← HW.out.1, ← HW.out.2]
  refine wp_region_inv 22 (by kernel_rfl) (by kernel_rfl) (fun W => Fr (fun _ => False) W1 W) (RgtR4 gw l la d m) (fun _ _ _ _ => True) (Fr (fun _ => False)) (RgtR4.ext gw l la d m) (Fr.refl _ _).drew ?_ ?_
  · intro i hi o ho
    replace hi : i < 22 := hi
    obtain rfl | rfl | rfl | rfl | rfl | rfl | rfl | rfl | rfl | rfl | rfl | rfl | rfl | rfl | rfl | rfl | rfl | rfl | rfl | rfl | rfl | rfl : i = 0 ∨ i = 1 ∨ i = 2 ∨ i = 3 ∨ i = 4 ∨ i = 5 ∨ i = 6 ∨ i = 7 ∨ i = 8 ∨ i = 9 ∨ i = 10 ∨ i = 11 ∨ i = 12 ∨ i = 13 ∨ i = 14 ∨ i = 15 ∨ i = 16 ∨ i = 17 ∨ i = 18 ∨ i = 19 ∨ i = 20 ∨ i = 21 := by omega
    · simp only [List.getElem?_cons_zero, Option.some.injEq] at ho
      subst ho
      intro a W vs hB hS hE hU
      refine wpG_plain rfl ?_
      have v1 : a.eval (.tmp 1) = .pointer (some ⟨gw, 0, none⟩) := (hU 1 (by kernel_rfl)).trans rfl
      clear hE hU
      exact wp_value_inv (w' := W) (.pointer (some ⟨gw, 0, none⟩)) (op_fieldAddr rfl v1 (fld_spence_api_Shape_0_0 W gw)) ⟨_, rfl, hB, Fr.refl _ _, rfl, fun _ _ _ _ _ => trivial⟩
    · simp only [List.getElem?_cons_zero, List.getElem?_cons_succ, Option.some.injEq] at ho
      subst ho
      intro a W vs hB hS hE hU
      refine wpG_plain rfl ?_
      obtain ⟨r0, e3⟩ := hE 0 3 (by kernel_rfl) (by kernel_rfl)
      have v3 : a.eval (.tmp 3) = .pointer (some ⟨gw, 0, none⟩) := e3.trans r0
      clear hE hU
      exact wp_value_inv (w' := W) (.int .i64 (l : Nat)) (op_loadAt rfl v3 (LD0.out W hB)) ⟨_, rfl, hB, Fr.refl _ _, rfl, fun _ _ _ _ _ => trivial⟩
    · simp only [List.getElem?_cons_zero, List.getElem?_cons_succ, Option.some.injEq] at ho
      subst ho
      intro a W vs hB hS hE hU
      refine wpG_plain rfl ?_
      obtain ⟨r1, e4⟩ := hE 1 4 (by kernel_rfl) (by kernel_rfl)
      have v4 : a.eval (.tmp 4) = .int .i64 (l : Nat) := e4.trans r1
      clear hE hU
      refine wp_call_inv 73 #[.tmp 4] #[3] rfl #[.int .i64 (l : Nat)] (by simp only [List.map_toArray, List.map_cons, List.map_nil, v4]) (ent_spence_log_isMany _) (Post := fun v W' => v = .bool true ∧ Fr (fun _ => False) W W') (((C1.out W)).mono fun e w' h => ⟨_, h.1, rfl, h.2⟩) ?_
      rintro v W' ⟨rfl, hf⟩
      exact ⟨_, rfl, hB.trans hf (fun _ h => h.elim), hf, rfl, fun _ _ _ _ _ => trivial⟩
    · simp only [List.getElem?_cons_zero, List.getElem?_cons_succ, Option.some.injEq] at ho
      subst ho
      intro a W vs hB hS hE hU
      refine wpG_plain rfl ?_
      obtain ⟨r2, e5⟩ := hE 2 5 (by kernel_rfl) (by kernel_rfl)
      have v5 : a.eval (.tmp 5) = .bool true := e5.trans r2
      clear hE hU
      exact wp_value_inv (w' := W) (.bool true) (op_move rfl v5) ⟨_, rfl, hB, Fr.refl _ _, rfl, fun _ _ _ _ _ => trivial⟩
    · simp only [List.getElem?_cons_zero, List.getElem?_cons_succ, Option.some.injEq] at ho
      subst ho
      intro a W vs hB hS hE hU
      obtain ⟨r3, e6⟩ := hE 3 6 (by kernel_rfl) (by kernel_rfl)
      have v6 : a.eval (.tmp 6) = .bool true := e6.trans r3
      refine wpG_yes 3 true 6 rfl (by kernel_rfl) (by rw [hS]; first | simp | exact Nat.le_of_ble_eq_true rfl) v6 ?_
      have v1 : a.eval (.tmp 1) = .pointer (some ⟨gw, 0, none⟩) := (hU 1 (by kernel_rfl)).trans rfl
      clear hE hU
      exact wp_value_inv (w' := W) (.pointer (some ⟨gw, 1, none⟩)) (op_fieldAddr rfl v1 (fld_spence_api_Shape_1_0 W gw)) ⟨_, rfl, hB, Fr.refl _ _, rfl, fun _ _ _ _ _ => trivial⟩
    · simp only [List.getElem?_cons_zero, List.getElem?_cons_succ, Option.some.injEq] at ho
      subst ho
      intro a W vs hB hS hE hU
      obtain ⟨r3, e6⟩ := hE 3 6 (by kernel_rfl) (by kernel_rfl)
      have v6 : a.eval (.tmp 6) = .bool true := e6.trans r3
      refine wpG_yes 3 true 6 rfl (by kernel_rfl) (by rw [hS]; first | simp | exact Nat.le_of_ble_eq_true rfl) v6 ?_
      obtain ⟨r4, e7⟩ := hE 4 7 (by kernel_rfl) (by kernel_rfl)
      have v7 : a.eval (.tmp 7) = .pointer (some ⟨gw, 1, none⟩) := e7.trans r4
      clear hE hU
      exact wp_value_inv (w' := W) (.int .i64 (la : Nat)) (op_loadAt rfl v7 (LD1.out W hB)) ⟨_, rfl, hB, Fr.refl _ _, rfl, fun _ _ _ _ _ => trivial⟩
    · simp only [List.getElem?_cons_zero, List.getElem?_cons_succ, Option.some.injEq] at ho
      subst ho
      intro a W vs hB hS hE hU
      obtain ⟨r3, e6⟩ := hE 3 6 (by kernel_rfl) (by kernel_rfl)
      have v6 : a.eval (.tmp 6) = .bool true := e6.trans r3
      refine wpG_yes 3 true 6 rfl (by kernel_rfl) (by rw [hS]; first | simp | exact Nat.le_of_ble_eq_true rfl) v6 ?_
      obtain ⟨r5, e8⟩ := hE 5 8 (by kernel_rfl) (by kernel_rfl)
      have v8 : a.eval (.tmp 8) = .int .i64 (la : Nat) := e8.trans r5
      clear hE hU
      refine wp_call_inv 73 #[.tmp 8] #[3] rfl #[.int .i64 (la : Nat)] (by simp only [List.map_toArray, List.map_cons, List.map_nil, v8]) (ent_spence_log_isMany _) (Post := fun v W' => v = .bool true ∧ Fr (fun _ => False) W W') (((C2.out W)).mono fun e w' h => ⟨_, h.1, rfl, h.2⟩) ?_
      rintro v W' ⟨rfl, hf⟩
      exact ⟨_, rfl, hB.trans hf (fun _ h => h.elim), hf, rfl, fun _ _ _ _ _ => trivial⟩
    · simp only [List.getElem?_cons_zero, List.getElem?_cons_succ, Option.some.injEq] at ho
      subst ho
      intro a W vs hB hS hE hU
      refine wpG_plain rfl ?_
      obtain ⟨r3, e6⟩ := hE 3 6 (by kernel_rfl) (by kernel_rfl)
      have v6 : a.eval (.tmp 6) = .bool true := e6.trans r3
      obtain ⟨r6, e9⟩ := hE 6 9 (by kernel_rfl) (by kernel_rfl)
      have v9 : a.eval (.tmp 9) = .bool true := e9.trans r6
      clear hE hU
      exact wp_value_inv (w' := W) (.bool true) (op_pick rfl v6 (by simp only [if_true]; exact v9)) ⟨_, rfl, hB, Fr.refl _ _, rfl, fun _ _ _ _ _ => trivial⟩
    · simp only [List.getElem?_cons_zero, List.getElem?_cons_succ, Option.some.injEq] at ho
      subst ho
      intro a W vs hB hS hE hU
      refine wpG_plain rfl ?_
      obtain ⟨r7, e10⟩ := hE 7 10 (by kernel_rfl) (by kernel_rfl)
      have v10 : a.eval (.tmp 10) = .bool true := e10.trans r7
      clear hE hU
      exact wp_value_inv (w' := W) (.bool true) (op_move rfl v10) ⟨_, rfl, hB, Fr.refl _ _, rfl, fun _ _ _ _ _ => trivial⟩
    · simp only [List.getElem?_cons_zero, List.getElem?_cons_succ, Option.some.injEq] at ho
      subst ho
      intro a W vs hB hS hE hU
      obtain ⟨r8, e11⟩ := hE 8 11 (by kernel_rfl) (by kernel_rfl)
      have v11 : a.eval (.tmp 11) = .bool true := e11.trans r8
      refine wpG_yes 8 true 11 rfl (by kernel_rfl) (by rw [hS]; first | simp | exact Nat.le_of_ble_eq_true rfl) v11 ?_
      have v1 : a.eval (.tmp 1) = .pointer (some ⟨gw, 0, none⟩) := (hU 1 (by kernel_rfl)).trans rfl
      clear hE hU
      exact wp_value_inv (w' := W) (.pointer (some ⟨gw, 2, none⟩)) (op_fieldAddr rfl v1 (fld_spence_api_Shape_2_0 W gw)) ⟨_, rfl, hB, Fr.refl _ _, rfl, fun _ _ _ _ _ => trivial⟩
    · simp only [List.getElem?_cons_zero, List.getElem?_cons_succ, Option.some.injEq] at ho
      subst ho
      intro a W vs hB hS hE hU
      obtain ⟨r8, e11⟩ := hE 8 11 (by kernel_rfl) (by kernel_rfl)
      have v11 : a.eval (.tmp 11) = .bool true := e11.trans r8
      refine wpG_yes 8 true 11 rfl (by kernel_rfl) (by rw [hS]; first | simp | exact Nat.le_of_ble_eq_true rfl) v11 ?_
      obtain ⟨r9, e12⟩ := hE 9 12 (by kernel_rfl) (by kernel_rfl)
      have v12 : a.eval (.tmp 12) = .pointer (some ⟨gw, 2, none⟩) := e12.trans r9
      clear hE hU
      exact wp_value_inv (w' := W) (.int .i64 (d : Nat)) (op_loadAt rfl v12 (LD2.out W hB)) ⟨_, rfl, hB, Fr.refl _ _, rfl, fun _ _ _ _ _ => trivial⟩
    · simp only [List.getElem?_cons_zero, List.getElem?_cons_succ, Option.some.injEq] at ho
      subst ho
      intro a W vs hB hS hE hU
      obtain ⟨r8, e11⟩ := hE 8 11 (by kernel_rfl) (by kernel_rfl)
      have v11 : a.eval (.tmp 11) = .bool true := e11.trans r8
      refine wpG_yes 8 true 11 rfl (by kernel_rfl) (by rw [hS]; first | simp | exact Nat.le_of_ble_eq_true rfl) v11 ?_
      obtain ⟨r10, e13⟩ := hE 10 13 (by kernel_rfl) (by kernel_rfl)
      have v13 : a.eval (.tmp 13) = .int .i64 (d : Nat) := e13.trans r10
      clear hE hU
      refine wp_call_inv 73 #[.tmp 13] #[3] rfl #[.int .i64 (d : Nat)] (by simp only [List.map_toArray, List.map_cons, List.map_nil, v13]) (ent_spence_log_isMany _) (Post := fun v W' => v = .bool true ∧ Fr (fun _ => False) W W') (((C3.out W)).mono fun e w' h => ⟨_, h.1, rfl, h.2⟩) ?_
      rintro v W' ⟨rfl, hf⟩
      exact ⟨_, rfl, hB.trans hf (fun _ h => h.elim), hf, rfl, fun _ _ _ _ _ => trivial⟩
    · simp only [List.getElem?_cons_zero, List.getElem?_cons_succ, Option.some.injEq] at ho
      subst ho
      intro a W vs hB hS hE hU
      refine wpG_plain rfl ?_
      obtain ⟨r8, e11⟩ := hE 8 11 (by kernel_rfl) (by kernel_rfl)
      have v11 : a.eval (.tmp 11) = .bool true := e11.trans r8
      obtain ⟨r11, e14⟩ := hE 11 14 (by kernel_rfl) (by kernel_rfl)
      have v14 : a.eval (.tmp 14) = .bool true := e14.trans r11
      clear hE hU
      exact wp_value_inv (w' := W) (.bool true) (op_pick rfl v11 (by simp only [if_true]; exact v14)) ⟨_, rfl, hB, Fr.refl _ _, rfl, fun _ _ _ _ _ => trivial⟩
    · simp only [List.getElem?_cons_zero, List.getElem?_cons_succ, Option.some.injEq] at ho
      subst ho
      intro a W vs hB hS hE hU
      refine wpG_plain rfl ?_
      obtain ⟨r12, e15⟩ := hE 12 15 (by kernel_rfl) (by kernel_rfl)
      have v15 : a.eval (.tmp 15) = .bool true := e15.trans r12
      clear hE hU
      exact wp_value_inv (w' := W) (.bool true) (op_move rfl v15) ⟨_, rfl, hB, Fr.refl _ _, rfl, fun _ _ _ _ _ => trivial⟩
    · simp only [List.getElem?_cons_zero, List.getElem?_cons_succ, Option.some.injEq] at ho
      subst ho
      intro a W vs hB hS hE hU
      obtain ⟨r13, e16⟩ := hE 13 16 (by kernel_rfl) (by kernel_rfl)
      have v16 : a.eval (.tmp 16) = .bool true := e16.trans r13
      refine wpG_yes 13 true 16 rfl (by kernel_rfl) (by rw [hS]; first | simp | exact Nat.le_of_ble_eq_true rfl) v16 ?_
      have v1 : a.eval (.tmp 1) = .pointer (some ⟨gw, 0, none⟩) := (hU 1 (by kernel_rfl)).trans rfl
      clear hE hU
      exact wp_value_inv (w' := W) (.agg #[.int .i64 (l : Nat), .int .i64 (la : Nat), .int .i64 (d : Nat)]) (op_loadAt rfl v1 (LDS.out W hB)) ⟨_, rfl, hB, Fr.refl _ _, rfl, fun _ _ _ _ _ => trivial⟩
    · simp only [List.getElem?_cons_zero, List.getElem?_cons_succ, Option.some.injEq] at ho
      subst ho
      intro a W vs hB hS hE hU
      obtain ⟨r13, e16⟩ := hE 13 16 (by kernel_rfl) (by kernel_rfl)
      have v16 : a.eval (.tmp 16) = .bool true := e16.trans r13
      refine wpG_yes 13 true 16 rfl (by kernel_rfl) (by rw [hS]; first | simp | exact Nat.le_of_ble_eq_true rfl) v16 ?_
      obtain ⟨r14, e17⟩ := hE 14 17 (by kernel_rfl) (by kernel_rfl)
      have v17 : a.eval (.tmp 17) = .agg #[.int .i64 (l : Nat), .int .i64 (la : Nat), .int .i64 (d : Nat)] := e17.trans r14
      clear hE hU
      refine wp_call_inv 74 #[.tmp 17] #[51] rfl #[.agg #[.int .i64 (l : Nat), .int .i64 (la : Nat), .int .i64 (d : Nat)]] (by simp only [List.map_toArray, List.map_cons, List.map_nil, v17]) (ent_spence_log_dataAt _) (Post := fun v W' => v = .int .i64 (m : Nat) ∧ Fr (fun _ => False) W W') ((HD.out W).mono fun e w' h => ⟨_, h.1, rfl, h.2⟩) ?_
      rintro v W' ⟨rfl, hf⟩
      exact ⟨_, rfl, hB.trans hf (fun _ h => h.elim), hf, rfl, fun _ _ _ _ _ => trivial⟩
    · simp only [List.getElem?_cons_zero, List.getElem?_cons_succ, Option.some.injEq] at ho
      subst ho
      intro a W vs hB hS hE hU
      obtain ⟨r13, e16⟩ := hE 13 16 (by kernel_rfl) (by kernel_rfl)
      have v16 : a.eval (.tmp 16) = .bool true := e16.trans r13
      refine wpG_yes 13 true 16 rfl (by kernel_rfl) (by rw [hS]; first | simp | exact Nat.le_of_ble_eq_true rfl) v16 ?_
      have v1 : a.eval (.tmp 1) = .pointer (some ⟨gw, 0, none⟩) := (hU 1 (by kernel_rfl)).trans rfl
      clear hE hU
      exact wp_value_inv (w' := W) (.pointer (some ⟨gw, 2, none⟩)) (op_fieldAddr rfl v1 (fld_spence_api_Shape_2_0 W gw)) ⟨_, rfl, hB, Fr.refl _ _, rfl, fun _ _ _ _ _ => trivial⟩
    · simp only [List.getElem?_cons_zero, List.getElem?_cons_succ, Option.some.injEq] at ho
      subst ho
      intro a W vs hB hS hE hU
      obtain ⟨r13, e16⟩ := hE 13 16 (by kernel_rfl) (by kernel_rfl)
      have v16 : a.eval (.tmp 16) = .bool true := e16.trans r13
      refine wpG_yes 13 true 16 rfl (by kernel_rfl) (by rw [hS]; first | simp | exact Nat.le_of_ble_eq_true rfl) v16 ?_
      obtain ⟨r16, e19⟩ := hE 16 19 (by kernel_rfl) (by kernel_rfl)
      have v19 : a.eval (.tmp 19) = .pointer (some ⟨gw, 2, none⟩) := e19.trans r16
      clear hE hU
      exact wp_value_inv (w' := W) (.int .i64 (d : Nat)) (op_loadAt rfl v19 (LD2.out W hB)) ⟨_, rfl, hB, Fr.refl _ _, rfl, fun _ _ _ _ _ => trivial⟩
    · simp only [List.getElem?_cons_zero, List.getElem?_cons_succ, Option.some.injEq] at ho
      subst ho
      intro a W vs hB hS hE hU
      obtain ⟨r13, e16⟩ := hE 13 16 (by kernel_rfl) (by kernel_rfl)
      have v16 : a.eval (.tmp 16) = .bool true := e16.trans r13
      refine wpG_yes 13 true 16 rfl (by kernel_rfl) (by rw [hS]; first | simp | exact Nat.le_of_ble_eq_true rfl) v16 ?_
      obtain ⟨r15, e18⟩ := hE 15 18 (by kernel_rfl) (by kernel_rfl)
      have v18 : a.eval (.tmp 18) = .int .i64 (m : Nat) := e18.trans r15
      obtain ⟨r17, e20⟩ := hE 17 20 (by kernel_rfl) (by kernel_rfl)
      have v20 : a.eval (.tmp 20) = .int .i64 (d : Nat) := e20.trans r17
      clear hE hU
      exact wp_value_inv (w' := W) (.int .i64 ((m + d : Nat) : Int)) (op_bin rfl v18 v20 (rfl) (add_in5 (by push_cast; rfl) (by omega) (by have := HMB.out; omega))) ⟨_, rfl, hB, Fr.refl _ _, rfl, fun _ _ _ _ _ => trivial⟩
    · simp only [List.getElem?_cons_zero, List.getElem?_cons_succ, Option.some.injEq] at ho
      subst ho
      intro a W vs hB hS hE hU
      obtain ⟨r13, e16⟩ := hE 13 16 (by kernel_rfl) (by kernel_rfl)
      have v16 : a.eval (.tmp 16) = .bool true := e16.trans r13
      refine wpG_yes 13 true 16 rfl (by kernel_rfl) (by rw [hS]; first | simp | exact Nat.le_of_ble_eq_true rfl) v16 ?_
      obtain ⟨r18, e21⟩ := hE 18 21 (by kernel_rfl) (by kernel_rfl)
      have v21 : a.eval (.tmp 21) = .int .i64 ((m + d : Nat) : Int) := e21.trans r18
      clear hE hU
      exact wp_value_inv (w' := W) (.bool true) (op_bin rfl v21 rfl (rfl) (leq_yes (by have := HMB.out; omega))) ⟨_, rfl, hB, Fr.refl _ _, rfl, fun _ _ _ _ _ => trivial⟩
    · simp only [List.getElem?_cons_zero, List.getElem?_cons_succ, Option.some.injEq] at ho
      subst ho
      intro a W vs hB hS hE hU
      refine wpG_plain rfl ?_
      obtain ⟨r13, e16⟩ := hE 13 16 (by kernel_rfl) (by kernel_rfl)
      have v16 : a.eval (.tmp 16) = .bool true := e16.trans r13
      obtain ⟨r19, e22⟩ := hE 19 22 (by kernel_rfl) (by kernel_rfl)
      have v22 : a.eval (.tmp 22) = .bool true := e22.trans r19
      clear hE hU
      exact wp_value_inv (w' := W) (.bool true) (op_pick rfl v16 (by simp only [if_true]; exact v22)) ⟨_, rfl, hB, Fr.refl _ _, rfl, fun _ _ _ _ _ => trivial⟩
    · simp only [List.getElem?_cons_zero, List.getElem?_cons_succ, Option.some.injEq] at ho
      subst ho
      intro a W vs hB hS hE hU
      refine wpG_plain rfl ?_
      obtain ⟨r20, e23⟩ := hE 20 23 (by kernel_rfl) (by kernel_rfl)
      have v23 : a.eval (.tmp 23) = .bool true := e23.trans r20
      clear hE hU
      exact wp_value_inv (w' := W) (.bool true) (op_assign rfl v23) ⟨_, rfl, hB, Fr.refl _ _, rfl, fun _ _ _ _ _ => trivial⟩
  · intro vs Wa hB0 hR0 hD
    have r2 : vs 21 = .bool true := hR0 21 (by decide)
    have HB := Lib.hid hB0
    clear hR0 hD hB0
    simp only [acts, if_true, dstAt, List.getElem?_cons_zero, List.getElem?_cons_succ, Option.bind_some, Act.put, List.setIfInBounds_toArray, List.set_cons_succ, List.set_cons_zero, List.drop_succ_cons, List.drop_nil]
    simp only [r2]
    clear r2
    go_wp2
    go_ret
    exact ⟨rfl, HF.out.trans HB.out (fun _ h => h.elim)⟩
set_option maxRecDepth 100000 in
set_option maxHeartbeats 4000000 in
theorem lRight_5 (w : World) (l la d m : Nat) (b1 : manyS l = true) (b2 : manyS la = true) (b3 : manyS d = true) (hl2 : l ≤ 8192) (ha2 : la ≤ 8192) (hd2 : d ≤ 8192) (hm : m = 1 + l + 2 * la) (hle : ¬ m + d ≤ 8192) :
    Calls Try.prog 53 #[.agg #[.int .i64 l, .int .i64 la, .int .i64 d]] w fun e w' => e = .returned (.bool false) ∧ Fr (fun _ => False) w w' := by
  have C1 := Lib.hid fun W => lMany_fr W l true b1
  have C2 := Lib.hid fun W => lMany_fr W la true b2
  have C3 := Lib.hid fun W => lMany_fr W d true b3
  have HD := Lib.hid fun w => lData_any w l la d hl2 ha2
  rw [← hm] at HD
  have HMB := Lib.hid (And.intro (show m ≤ 30000 ∧ d ≤ 8192 by omega) hle)
  clear hm hle hl2 ha2 hd2
  clear b1 b2 b3
  obtain ⟨gw, hgw⟩ : ∃ gw, gw = w.heap.size := ⟨_, rfl⟩
  obtain ⟨W1, hW⟩ : ∃ W, W = w.alloc (.cells #[.int .i64 l, .int .i64 la, .int .i64 d] 51) := ⟨_, rfl⟩
  have hf : Fr (fun _ => False) w W1 := by rw [hW]; exact (Fr.refl _ _).alloc _
  have hrow : W1.heap[gw]? = some (.cells #[.int .i64 l, .int .i64 la, .int .i64 d] 51 (0, 0)) := by rw [hW, hgw]; exact heap_alloc_new w _
  have k0 : W1.cell? ⟨gw, 0, none⟩ = some (.int .i64 l) := cell_of_row _ _ _ _ _ _ hrow
  have k1 : W1.cell? ⟨gw, 1, none⟩ = some (.int .i64 la) := cell_of_row _ _ _ _ _ _ hrow
  have k2 : W1.cell? ⟨gw, 2, none⟩ = some (.int .i64 d) := cell_of_row _ _ _ _ _ _ hrow
  have HF := Lib.hid hf
  have HW := Lib.hid (And.intro hW hgw)
  clear hf hW hgw
  have LD0 := Lib.hid (fun W (hW : Fr (fun _ => False) W1 W) => load_int5 W ⟨gw, 0, none⟩ (.int .i64 l) (hW.cell k0 id))
  have LD1 := Lib.hid (fun W (hW : Fr (fun _ => False) W1 W) => load_int5 W ⟨gw, 1, none⟩ (.int .i64 la) (hW.cell k1 id))
  have LD2 := Lib.hid (fun W (hW : Fr (fun _ => False) W1 W) => load_int5 W ⟨gw, 2, none⟩ (.int .i64 d) (hW.cell k2 id))
  have LDS := Lib.hid (fun W (hW : Fr (fun _ => False) W1 W) => load_shape5 W gw 0 _ _ _ (range_row5 (hW.heap hrow id)))
  clear k0 k1 k2 hrow
  go_enter Try.func53, Try.ntmps53
  go_wp2_with fail
  rw [← HW.out.1, ← HW.out.2]
  refine wp_region_inv 22 (by kernel_rfl) (by kernel_rfl) (fun W => Fr (fun _ => False) W1 W) (RgtR5 gw l la d m) (fun _ _ _ _ => True) (Fr (fun _ => False)) (RgtR5.ext gw l la d m) (Fr.refl _ _).drew ?_ ?_
  · intro i hi o ho
    replace hi : i < 22 := hi
    obtain rfl | rfl | rfl | rfl | rfl | rfl | rfl | rfl | rfl | rfl | rfl | rfl | rfl | rfl | rfl | rfl | rfl | rfl | rfl | rfl | rfl | rfl : i = 0 ∨ i = 1 ∨ i = 2 ∨ i = 3 ∨ i = 4 ∨ i = 5 ∨ i = 6 ∨ i = 7 ∨ i = 8 ∨ i = 9 ∨ i = 10 ∨ i = 11 ∨ i = 12 ∨ i = 13 ∨ i = 14 ∨ i = 15 ∨ i = 16 ∨ i = 17 ∨ i = 18 ∨ i = 19 ∨ i = 20 ∨ i = 21 := by omega
    · simp only [List.getElem?_cons_zero, Option.some.injEq] at ho
      subst ho
      intro a W vs hB hS hE hU
      refine wpG_plain rfl ?_
      have v1 : a.eval (.tmp 1) = .pointer (some ⟨gw, 0, none⟩) := (hU 1 (by kernel_rfl)).trans rfl
      clear hE hU
      exact wp_value_inv (w' := W) (.pointer (some ⟨gw, 0, none⟩)) (op_fieldAddr rfl v1 (fld_spence_api_Shape_0_0 W gw)) ⟨_, rfl, hB, Fr.refl _ _, rfl, fun _ _ _ _ _ => trivial⟩
    · simp only [List.getElem?_cons_zero, List.getElem?_cons_succ, Option.some.injEq] at ho
      subst ho
      intro a W vs hB hS hE hU
      refine wpG_plain rfl ?_
      obtain ⟨r0, e3⟩ := hE 0 3 (by kernel_rfl) (by kernel_rfl)
      have v3 : a.eval (.tmp 3) = .pointer (some ⟨gw, 0, none⟩) := e3.trans r0
      clear hE hU
      exact wp_value_inv (w' := W) (.int .i64 (l : Nat)) (op_loadAt rfl v3 (LD0.out W hB)) ⟨_, rfl, hB, Fr.refl _ _, rfl, fun _ _ _ _ _ => trivial⟩
    · simp only [List.getElem?_cons_zero, List.getElem?_cons_succ, Option.some.injEq] at ho
      subst ho
      intro a W vs hB hS hE hU
      refine wpG_plain rfl ?_
      obtain ⟨r1, e4⟩ := hE 1 4 (by kernel_rfl) (by kernel_rfl)
      have v4 : a.eval (.tmp 4) = .int .i64 (l : Nat) := e4.trans r1
      clear hE hU
      refine wp_call_inv 73 #[.tmp 4] #[3] rfl #[.int .i64 (l : Nat)] (by simp only [List.map_toArray, List.map_cons, List.map_nil, v4]) (ent_spence_log_isMany _) (Post := fun v W' => v = .bool true ∧ Fr (fun _ => False) W W') (((C1.out W)).mono fun e w' h => ⟨_, h.1, rfl, h.2⟩) ?_
      rintro v W' ⟨rfl, hf⟩
      exact ⟨_, rfl, hB.trans hf (fun _ h => h.elim), hf, rfl, fun _ _ _ _ _ => trivial⟩
    · simp only [List.getElem?_cons_zero, List.getElem?_cons_succ, Option.some.injEq] at ho
      subst ho
      intro a W vs hB hS hE hU
      refine wpG_plain rfl ?_
      obtain ⟨r2, e5⟩ := hE 2 5 (by kernel_rfl) (by kernel_rfl)
      have v5 : a.eval (.tmp 5) = .bool true := e5.trans r2
      clear hE hU
      exact wp_value_inv (w' := W) (.bool true) (op_move rfl v5) ⟨_, rfl, hB, Fr.refl _ _, rfl, fun _ _ _ _ _ => trivial⟩
    · simp only [List.getElem?_cons_zero, List.getElem?_cons_succ, Option.some.injEq] at ho
      subst ho
      intro a W vs hB hS hE hU
      obtain ⟨r3, e6⟩ := hE 3 6 (by kernel_rfl) (by kernel_rfl)
      have v6 : a.eval (.tmp 6) = .bool true := e6.trans r3
      refine wpG_yes 3 true 6 rfl (by kernel_rfl) (by rw [hS]; first | simp | exact Nat.le_of_ble_eq_true rfl) v6 ?_
      have v1 : a.eval (.tmp 1) = .pointer (some ⟨gw, 0, none⟩) := (hU 1 (by kernel_rfl)).trans rfl
      clear hE hU
      exact wp_value_inv (w' := W) (.pointer (some ⟨gw, 1, none⟩)) (op_fieldAddr rfl v1 (fld_spence_api_Shape_1_0 W gw)) ⟨_, rfl, hB, Fr.refl _ _, rfl, fun _ _ _ _ _ => trivial⟩
    · simp only [List.getElem?_cons_zero, List.getElem?_cons_succ, Option.some.injEq] at ho
      subst ho
      intro a W vs hB hS hE hU
      obtain ⟨r3, e6⟩ := hE 3 6 (by kernel_rfl) (by kernel_rfl)
      have v6 : a.eval (.tmp 6) = .bool true := e6.trans r3
      refine wpG_yes 3 true 6 rfl (by kernel_rfl) (by rw [hS]; first | simp | exact Nat.le_of_ble_eq_true rfl) v6 ?_
      obtain ⟨r4, e7⟩ := hE 4 7 (by kernel_rfl) (by kernel_rfl)
      have v7 : a.eval (.tmp 7) = .pointer (some ⟨gw, 1, none⟩) := e7.trans r4
      clear hE hU
      exact wp_value_inv (w' := W) (.int .i64 (la : Nat)) (op_loadAt rfl v7 (LD1.out W hB)) ⟨_, rfl, hB, Fr.refl _ _, rfl, fun _ _ _ _ _ => trivial⟩
    · simp only [List.getElem?_cons_zero, List.getElem?_cons_succ, Option.some.injEq] at ho
      subst ho
      intro a W vs hB hS hE hU
      obtain ⟨r3, e6⟩ := hE 3 6 (by kernel_rfl) (by kernel_rfl)
      have v6 : a.eval (.tmp 6) = .bool true := e6.trans r3
      refine wpG_yes 3 true 6 rfl (by kernel_rfl) (by rw [hS]; first | simp | exact Nat.le_of_ble_eq_true rfl) v6 ?_
      obtain ⟨r5, e8⟩ := hE 5 8 (by kernel_rfl) (by kernel_rfl)
      have v8 : a.eval (.tmp 8) = .int .i64 (la : Nat) := e8.trans r5
      clear hE hU
      refine wp_call_inv 73 #[.tmp 8] #[3] rfl #[.int .i64 (la : Nat)] (by simp only [List.map_toArray, List.map_cons, List.map_nil, v8]) (ent_spence_log_isMany _) (Post := fun v W' => v = .bool true ∧ Fr (fun _ => False) W W') (((C2.out W)).mono fun e w' h => ⟨_, h.1, rfl, h.2⟩) ?_
      rintro v W' ⟨rfl, hf⟩
      exact ⟨_, rfl, hB.trans hf (fun _ h => h.elim), hf, rfl, fun _ _ _ _ _ => trivial⟩
    · simp only [List.getElem?_cons_zero, List.getElem?_cons_succ, Option.some.injEq] at ho
      subst ho
      intro a W vs hB hS hE hU
      refine wpG_plain rfl ?_
      obtain ⟨r3, e6⟩ := hE 3 6 (by kernel_rfl) (by kernel_rfl)
      have v6 : a.eval (.tmp 6) = .bool true := e6.trans r3
      obtain ⟨r6, e9⟩ := hE 6 9 (by kernel_rfl) (by kernel_rfl)
      have v9 : a.eval (.tmp 9) = .bool true := e9.trans r6
      clear hE hU
      exact wp_value_inv (w' := W) (.bool true) (op_pick rfl v6 (by simp only [if_true]; exact v9)) ⟨_, rfl, hB, Fr.refl _ _, rfl, fun _ _ _ _ _ => trivial⟩
    · simp only [List.getElem?_cons_zero, List.getElem?_cons_succ, Option.some.injEq] at ho
      subst ho
      intro a W vs hB hS hE hU
      refine wpG_plain rfl ?_
      obtain ⟨r7, e10⟩ := hE 7 10 (by kernel_rfl) (by kernel_rfl)
      have v10 : a.eval (.tmp 10) = .bool true := e10.trans r7
      clear hE hU
      exact wp_value_inv (w' := W) (.bool true) (op_move rfl v10) ⟨_, rfl, hB, Fr.refl _ _, rfl, fun _ _ _ _ _ => trivial⟩
    · simp only [List.getElem?_cons_zero, List.getElem?_cons_succ, Option.some.injEq] at ho
      subst ho
      intro a W vs hB hS hE hU
      obtain ⟨r8, e11⟩ := hE 8 11 (by kernel_rfl) (by kernel_rfl)
      have v11 : a.eval (.tmp 11) = .bool true := e11.trans r8
      refine wpG_yes 8 true 11 rfl (by kernel_rfl) (by rw [hS]; first | simp | exact Nat.le_of_ble_eq_true rfl) v11 ?_
      have v1 : a.eval (.tmp 1) = .pointer (some ⟨gw, 0, none⟩) := (hU 1 (by kernel_rfl)).trans rfl
      clear hE hU
      exact wp_value_inv (w' := W) (.pointer (some ⟨gw, 2, none⟩)) (op_fieldAddr rfl v1 (fld_spence_api_Shape_2_0 W gw)) ⟨_, rfl, hB, Fr.refl _ _, rfl, fun _ _ _ _ _ => trivial⟩
    · simp only [List.getElem?_cons_zero, List.getElem?_cons_succ, Option.some.injEq] at ho
      subst ho
      intro a W vs hB hS hE hU
      obtain ⟨r8, e11⟩ := hE 8 11 (by kernel_rfl) (by kernel_rfl)
      have v11 : a.eval (.tmp 11) = .bool true := e11.trans r8
      refine wpG_yes 8 true 11 rfl (by kernel_rfl) (by rw [hS]; first | simp | exact Nat.le_of_ble_eq_true rfl) v11 ?_
      obtain ⟨r9, e12⟩ := hE 9 12 (by kernel_rfl) (by kernel_rfl)
      have v12 : a.eval (.tmp 12) = .pointer (some ⟨gw, 2, none⟩) := e12.trans r9
      clear hE hU
      exact wp_value_inv (w' := W) (.int .i64 (d : Nat)) (op_loadAt rfl v12 (LD2.out W hB)) ⟨_, rfl, hB, Fr.refl _ _, rfl, fun _ _ _ _ _ => trivial⟩
    · simp only [List.getElem?_cons_zero, List.getElem?_cons_succ, Option.some.injEq] at ho
      subst ho
      intro a W vs hB hS hE hU
      obtain ⟨r8, e11⟩ := hE 8 11 (by kernel_rfl) (by kernel_rfl)
      have v11 : a.eval (.tmp 11) = .bool true := e11.trans r8
      refine wpG_yes 8 true 11 rfl (by kernel_rfl) (by rw [hS]; first | simp | exact Nat.le_of_ble_eq_true rfl) v11 ?_
      obtain ⟨r10, e13⟩ := hE 10 13 (by kernel_rfl) (by kernel_rfl)
      have v13 : a.eval (.tmp 13) = .int .i64 (d : Nat) := e13.trans r10
      clear hE hU
      refine wp_call_inv 73 #[.tmp 13] #[3] rfl #[.int .i64 (d : Nat)] (by simp only [List.map_toArray, List.map_cons, List.map_nil, v13]) (ent_spence_log_isMany _) (Post := fun v W' => v = .bool true ∧ Fr (fun _ => False) W W') (((C3.out W)).mono fun e w' h => ⟨_, h.1, rfl, h.2⟩) ?_
      rintro v W' ⟨rfl, hf⟩
      exact ⟨_, rfl, hB.trans hf (fun _ h => h.elim), hf, rfl, fun _ _ _ _ _ => trivial⟩
    · simp only [List.getElem?_cons_zero, List.getElem?_cons_succ, Option.some.injEq] at ho
      subst ho
      intro a W vs hB hS hE hU
      refine wpG_plain rfl ?_
      obtain ⟨r8, e11⟩ := hE 8 11 (by kernel_rfl) (by kernel_rfl)
      have v11 : a.eval (.tmp 11) = .bool true := e11.trans r8
      obtain ⟨r11, e14⟩ := hE 11 14 (by kernel_rfl) (by kernel_rfl)
      have v14 : a.eval (.tmp 14) = .bool true := e14.trans r11
      clear hE hU
      exact wp_value_inv (w' := W) (.bool true) (op_pick rfl v11 (by simp only [if_true]; exact v14)) ⟨_, rfl, hB, Fr.refl _ _, rfl, fun _ _ _ _ _ => trivial⟩
    · simp only [List.getElem?_cons_zero, List.getElem?_cons_succ, Option.some.injEq] at ho
      subst ho
      intro a W vs hB hS hE hU
      refine wpG_plain rfl ?_
      obtain ⟨r12, e15⟩ := hE 12 15 (by kernel_rfl) (by kernel_rfl)
      have v15 : a.eval (.tmp 15) = .bool true := e15.trans r12
      clear hE hU
      exact wp_value_inv (w' := W) (.bool true) (op_move rfl v15) ⟨_, rfl, hB, Fr.refl _ _, rfl, fun _ _ _ _ _ => trivial⟩
    · simp only [List.getElem?_cons_zero, List.getElem?_cons_succ, Option.some.injEq] at ho
      subst ho
      intro a W vs hB hS hE hU
      obtain ⟨r13, e16⟩ := hE 13 16 (by kernel_rfl) (by kernel_rfl)
      have v16 : a.eval (.tmp 16) = .bool true := e16.trans r13
      refine wpG_yes 13 true 16 rfl (by kernel_rfl) (by rw [hS]; first | simp | exact Nat.le_of_ble_eq_true rfl) v16 ?_
      have v1 : a.eval (.tmp 1) = .pointer (some ⟨gw, 0, none⟩) := (hU 1 (by kernel_rfl)).trans rfl
      clear hE hU
      exact wp_value_inv (w' := W) (.agg #[.int .i64 (l : Nat), .int .i64 (la : Nat), .int .i64 (d : Nat)]) (op_loadAt rfl v1 (LDS.out W hB)) ⟨_, rfl, hB, Fr.refl _ _, rfl, fun _ _ _ _ _ => trivial⟩
    · simp only [List.getElem?_cons_zero, List.getElem?_cons_succ, Option.some.injEq] at ho
      subst ho
      intro a W vs hB hS hE hU
      obtain ⟨r13, e16⟩ := hE 13 16 (by kernel_rfl) (by kernel_rfl)
      have v16 : a.eval (.tmp 16) = .bool true := e16.trans r13
      refine wpG_yes 13 true 16 rfl (by kernel_rfl) (by rw [hS]; first | simp | exact Nat.le_of_ble_eq_true rfl) v16 ?_
      obtain ⟨r14, e17⟩ := hE 14 17 (by kernel_rfl) (by kernel_rfl)
      have v17 : a.eval (.tmp 17) = .agg #[.int .i64 (l : Nat), .int .i64 (la : Nat), .int .i64 (d : Nat)] := e17.trans r14
      clear hE hU
      refine wp_call_inv 74 #[.tmp 17] #[51] rfl #[.agg #[.int .i64 (l : Nat), .int .i64 (la : Nat), .int .i64 (d : Nat)]] (by simp only [List.map_toArray, List.map_cons, List.map_nil, v17]) (ent_spence_log_dataAt _) (Post := fun v W' => v = .int .i64 (m : Nat) ∧ Fr (fun _ => False) W W') ((HD.out W).mono fun e w' h => ⟨_, h.1, rfl, h.2⟩) ?_
      rintro v W' ⟨rfl, hf⟩
      exact ⟨_, rfl, hB.trans hf (fun _ h => h.elim), hf, rfl, fun _ _ _ _ _ => trivial⟩
    · simp only [List.getElem?_cons_zero, List.getElem?_cons_succ, Option.some.injEq] at ho
      subst ho
      intro a W vs hB hS hE hU
      obtain ⟨r13, e16⟩ := hE 13 16 (by kernel_rfl) (by kernel_rfl)
      have v16 : a.eval (.tmp 16) = .bool true := e16.trans r13
      refine wpG_yes 13 true 16 rfl (by kernel_rfl) (by rw [hS]; first | simp | exact Nat.le_of_ble_eq_true rfl) v16 ?_
      have v1 : a.eval (.tmp 1) = .pointer (some ⟨gw, 0, none⟩) := (hU 1 (by kernel_rfl)).trans rfl
      clear hE hU
      exact wp_value_inv (w' := W) (.pointer (some ⟨gw, 2, none⟩)) (op_fieldAddr rfl v1 (fld_spence_api_Shape_2_0 W gw)) ⟨_, rfl, hB, Fr.refl _ _, rfl, fun _ _ _ _ _ => trivial⟩
    · simp only [List.getElem?_cons_zero, List.getElem?_cons_succ, Option.some.injEq] at ho
      subst ho
      intro a W vs hB hS hE hU
      obtain ⟨r13, e16⟩ := hE 13 16 (by kernel_rfl) (by kernel_rfl)
      have v16 : a.eval (.tmp 16) = .bool true := e16.trans r13
      refine wpG_yes 13 true 16 rfl (by kernel_rfl) (by rw [hS]; first | simp | exact Nat.le_of_ble_eq_true rfl) v16 ?_
      obtain ⟨r16, e19⟩ := hE 16 19 (by kernel_rfl) (by kernel_rfl)
      have v19 : a.eval (.tmp 19) = .pointer (some ⟨gw, 2, none⟩) := e19.trans r16
      clear hE hU
      exact wp_value_inv (w' := W) (.int .i64 (d : Nat)) (op_loadAt rfl v19 (LD2.out W hB)) ⟨_, rfl, hB, Fr.refl _ _, rfl, fun _ _ _ _ _ => trivial⟩
    · simp only [List.getElem?_cons_zero, List.getElem?_cons_succ, Option.some.injEq] at ho
      subst ho
      intro a W vs hB hS hE hU
      obtain ⟨r13, e16⟩ := hE 13 16 (by kernel_rfl) (by kernel_rfl)
      have v16 : a.eval (.tmp 16) = .bool true := e16.trans r13
      refine wpG_yes 13 true 16 rfl (by kernel_rfl) (by rw [hS]; first | simp | exact Nat.le_of_ble_eq_true rfl) v16 ?_
      obtain ⟨r15, e18⟩ := hE 15 18 (by kernel_rfl) (by kernel_rfl)
      have v18 : a.eval (.tmp 18) = .int .i64 (m : Nat) := e18.trans r15
      obtain ⟨r17, e20⟩ := hE 17 20 (by kernel_rfl) (by kernel_rfl)
      have v20 : a.eval (.tmp 20) = .int .i64 (d : Nat) := e20.trans r17
      clear hE hU
      exact wp_value_inv (w' := W) (.int .i64 ((m + d : Nat) : Int)) (op_bin rfl v18 v20 (rfl) (add_in5 (by push_cast; rfl) (by omega) (by have := HMB.out; omega))) ⟨_, rfl, hB, Fr.refl _ _, rfl, fun _ _ _ _ _ => trivial⟩
    · simp only [List.getElem?_cons_zero, List.getElem?_cons_succ, Option.some.injEq] at ho
      subst ho
      intro a W vs hB hS hE hU
      obtain ⟨r13, e16⟩ := hE 13 16 (by kernel_rfl) (by kernel_rfl)
      have v16 : a.eval (.tmp 16) = .bool true := e16.trans r13
      refine wpG_yes 13 true 16 rfl (by kernel_rfl) (by rw [hS]; first | simp | exact Nat.le_of_ble_eq_true rfl) v16 ?_
      obtain ⟨r18, e21⟩ := hE 18 21 (by kernel_rfl) (by kernel_rfl)
      have v21 : a.eval (.tmp 21) = .int .i64 ((m + d : Nat) : Int) := e21.trans r18
      clear hE hU
      exact wp_value_inv (w' := W) (.bool false) (op_bin rfl v21 rfl (rfl) (leq_no (by have := HMB.out; omega))) ⟨_, rfl, hB, Fr.refl _ _, rfl, fun _ _ _ _ _ => trivial⟩
    · simp only [List.getElem?_cons_zero, List.getElem?_cons_succ, Option.some.injEq] at ho
      subst ho
      intro a W vs hB hS hE hU
      refine wpG_plain rfl ?_
      obtain ⟨r13, e16⟩ := hE 13 16 (by kernel_rfl) (by kernel_rfl)
      have v16 : a.eval (.tmp 16) = .bool true := e16.trans r13
      obtain ⟨r19, e22⟩ := hE 19 22 (by kernel_rfl) (by kernel_rfl)
      have v22 : a.eval (.tmp 22) = .bool false := e22.trans r19
      clear hE hU
      exact wp_value_inv (w' := W) (.bool false) (op_pick rfl v16 (by simp only [if_true]; exact v22)) ⟨_, rfl, hB, Fr.refl _ _, rfl, fun _ _ _ _ _ => trivial⟩
    · simp only [List.getElem?_cons_zero, List.getElem?_cons_succ, Option.some.injEq] at ho
      subst ho
      intro a W vs hB hS hE hU
      refine wpG_plain rfl ?_
      obtain ⟨r20, e23⟩ := hE 20 23 (by kernel_rfl) (by kernel_rfl)
      have v23 : a.eval (.tmp 23) = .bool false := e23.trans r20
      clear hE hU
      exact wp_value_inv (w' := W) (.bool false) (op_assign rfl v23) ⟨_, rfl, hB, Fr.refl _ _, rfl, fun _ _ _ _ _ => trivial⟩
  · intro vs Wa hB0 hR0 hD
    have r2 : vs 21 = .bool false := hR0 21 (by decide)
    have HB := Lib.hid hB0
    clear hR0 hD hB0
    simp only [acts, if_true, dstAt, List.getElem?_cons_zero, List.getElem?_cons_succ, Option.bind_some, Act.put, List.setIfInBounds_toArray, List.set_cons_succ, List.set_cons_zero, List.drop_succ_cons, List.drop_nil]
    simp only [r2]
    clear r2
    go_wp2
    go_ret
    exact ⟨rfl, HF.out.trans HB.out (fun _ h => h.elim)⟩
theorem lRight_any (w : World) (L A D : Int) :
    Calls Try.prog 53 #[.agg #[.int .i64 L, .int .i64 A, .int .i64 D]] w fun e w' => e = .returned (.bool (rightS L A D)) ∧ Fr (fun _ => False) w w' := by
  cases b1 : manyS L with
  | false =>
    rw [show rightS L A D = false by rw [rightS, b1]; rfl]
    exact lRight_0 w L A D b1
  | true =>
    obtain ⟨l, rfl, hl1, hl2⟩ := manyS_yes b1
    cases b2 : manyS A with
    | false =>
      rw [show rightS l A D = false by rw [rightS, b1, b2]; rfl]
      exact lRight_1 w l A D b1 b2
    | true =>
      obtain ⟨a, rfl, ha1, ha2⟩ := manyS_yes b2
      cases b3 : manyS D with
      | false =>
        rw [show rightS l a D = false by rw [rightS, b1, b2, b3]; rfl]
        exact lRight_2 w l a D b1 b2 b3
      | true =>
        obtain ⟨d, rfl, hd1, hd2⟩ := manyS_yes b3
        by_cases hle : 1 + l + 2 * a + d ≤ 8192
        · rw [show rightS l a d = true from rightS_nat hl1 ha1 hd1 hle]
          exact lRight_4 w l a d _ b1 b2 b3 hl2 ha2 hd2 rfl hle
        · rw [show rightS l a d = false by
            rw [rightS, b1, b2, b3]
            simp only [Bool.true_and, decide_eq_false_iff_not]
            omega]
          exact lRight_5 w l a d _ b1 b2 b3 hl2 ha2 hd2 rfl hle
end Go.Proofs.Ytdpaobflknkbkaa
