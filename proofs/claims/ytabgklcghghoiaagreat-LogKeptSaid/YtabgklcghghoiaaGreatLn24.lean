/- Laid together by merge.py: JBoth -/
import Derived.Test.YtabgklcghghoiaaGreatLn23

/- The law's own: opened, reopened. Printed by gen_jboth.py (wip/gen). -/
namespace Go.Proofs.YtabgklcghghoiaaGreat
open Go.RowKit Go.ChangeShapes
set_option linter.unusedVariables false

abbrev tupj (j : Nat) : Value := .tuple #[.pointer (some ⟨j, 0, none⟩), .int .i64 0]
/-- Both: a shape, a device, a journal, and the document's. -/
def BoAt (w : World) (p l la d g : Nat) (jv : Value) (gr : Nat) (rv : Value) : Prop :=
  w.heap[p]? = some (.cells #[.int .i64 l, .int .i64 la, .int .i64 d, .pointer (some ⟨g, 0, none⟩), jv, .pointer (some ⟨gr, 0, none⟩), rv] 57 (0, 0))
theorem BoAt.keep {S : Nat → Prop} {w w' : World} {p l la d g gr : Nat} {jv rv : Value} (h : BoAt w p l la d g jv gr rv) (hf : Fr S w w') (hS : ¬ S p) : BoAt w' p l la d g jv gr rv := hf.heap h hS
theorem BoAt.lt {w : World} {p l la d g gr : Nat} {jv rv : Value} (h : BoAt w p l la d g jv gr rv) : p < w.heap.size := lt_of_block h
theorem BoAt.cells {w : World} {p l la d g gr : Nat} {jv rv : Value} (h : BoAt w p l la d g jv gr rv) :
    w.cell? ⟨p, 0, none⟩ = some (.int .i64 l) ∧ w.cell? ⟨p, 1, none⟩ = some (.int .i64 la) ∧ w.cell? ⟨p, 2, none⟩ = some (.int .i64 d) ∧ w.cell? ⟨p, 3, none⟩ = some (.pointer (some ⟨g, 0, none⟩)) ∧ w.cell? ⟨p, 4, none⟩ = some jv ∧ w.cell? ⟨p, 5, none⟩ = some (.pointer (some ⟨gr, 0, none⟩)) ∧ w.cell? ⟨p, 6, none⟩ = some rv := by
  refine ⟨?_, ?_, ?_, ?_, ?_, ?_, ?_⟩ <;> exact cell_of_row _ _ _ _ _ _ h
theorem BoAt.free {w : World} {p l la d g gr : Nat} {jv rv : Value} (h : BoAt w p l la d g jv gr rv) (i : Nat) : w.frozen? ⟨p, i, none⟩ = false := frozen_of_row _ _ _ _ _ h
theorem BoAt.jset {w : World} {p l la d g gr : Nat} {jv rv : Value} (h : BoAt w p l la d g jv gr rv) (x : Value) : BoAt (w.setCell ⟨p, 4, none⟩ x) p l la d g x gr rv := cell_put _ h
theorem BoAt.rset {w : World} {p l la d g gr : Nat} {jv rv : Value} (h : BoAt w p l la d g jv gr rv) (x : Value) : BoAt (w.setCell ⟨p, 6, none⟩ x) p l la d g jv gr x := cell_put _ h
theorem load_dev5 (w : World) (p : Addr) (v : Value) (h : w.cell? p = some v) : (Instr.loadAt 28 (.pointer (some p))).run Tryz.prog w = .ok v w := load_one5 w _ p v (by kernel_rfl) h
theorem load_ref5 (w : World) (p : Addr) (v : Value) (h : w.cell? p = some v) : (Instr.loadAt 54 (.pointer (some p))).run Tryz.prog w = .ok v w := load_one5 w _ p v (by kernel_rfl) h
theorem BoAt.shape {w : World} {p l la d g gr : Nat} {jv rv : Value} (h : BoAt w p l la d g jv gr rv) : w.rangeAt p 0 [.int .i64 (l : Nat), .int .i64 (la : Nat), .int .i64 (d : Nat)] := by
  obtain ⟨h0, h1, h2, _⟩ := h.cells
  intro j v hv
  match j with
  | 0 => simp at hv; rw [← hv]; exact h0
  | 1 => simp at hv; rw [← hv]; exact h1
  | 2 => simp at hv; rw [← hv]; exact h2
  | j + 3 => simp at hv
theorem fld_spence_spencelaw05_both_0_0 (w : World) (g : Nat) : (Instr.fieldAt 57 (.pointer (some ⟨g, 0, none⟩)) 0).run Tryz.prog w = .ok (.pointer (some ⟨g, 0, none⟩)) w := by kernel_rfl
theorem fld_spence_spencelaw05_both_1_0 (w : World) (g : Nat) : (Instr.fieldAt 57 (.pointer (some ⟨g, 0, none⟩)) 1).run Tryz.prog w = .ok (.pointer (some ⟨g, 3, none⟩)) w := by kernel_rfl
theorem fld_spence_spencelaw05_both_3_0 (w : World) (g : Nat) : (Instr.fieldAt 57 (.pointer (some ⟨g, 0, none⟩)) 3).run Tryz.prog w = .ok (.pointer (some ⟨g, 5, none⟩)) w := by kernel_rfl
def ReoR (p g l la d z0 : Nat) (h5 : Hd) (i : Nat) (v : Value) (W : World) : Prop :=
  match i with
  | 0 => v = .pointer (some ⟨p, 0, none⟩)
  | 1 => v = .pointer (some ⟨p, 0, none⟩)
  | 2 => v = .pointer (some ⟨p, 3, none⟩)
  | 3 => v = .pointer (some ⟨g, 0, none⟩)
  | 4 => v = .pointer (some ⟨p, 0, none⟩)
  | 5 => v = .pointer (some ⟨p, 0, none⟩)
  | 6 => v = .pointer (some ⟨p, 0, none⟩)
  | 7 => v = .agg #[.int .i64 (l : Nat), .int .i64 (la : Nat), .int .i64 (d : Nat)]
  | 8 => ∃ jn, v = tupj jn ∧ z0 ≤ jn ∧ JnAt W jn g h5 l la d false
  | 9 => ∃ jn, v = tupj jn ∧ z0 ≤ jn ∧ JnAt W jn g h5 l la d false
  | 10 => ∃ jn, v = .pointer (some ⟨jn, 0, none⟩) ∧ z0 ≤ jn ∧ JnAt W jn g h5 l la d false
  | 11 => v = .int .i64 0
  | 12 => ∃ jn, v = .pointer (some ⟨jn, 0, none⟩) ∧ z0 ≤ jn ∧ JnAt W jn g h5 l la d false
  | 13 => v = .int .i64 0
  | _ => True
theorem ReoR.ext (p g l la d z0 : Nat) (h5 : Hd) : ∀ (j : Nat) (u : Value) (W W' : World), Fr (fun _ => False) W W' → ReoR p g l la d z0 h5 j u W → ReoR p g l la d z0 h5 j u W'
  | 0, u, W, W', hf, h => h
  | 1, u, W, W', hf, h => h
  | 2, u, W, W', hf, h => h
  | 3, u, W, W', hf, h => h
  | 4, u, W, W', hf, h => h
  | 5, u, W, W', hf, h => h
  | 6, u, W, W', hf, h => h
  | 7, u, W, W', hf, h => h
  | 8, u, W, W', hf, h => (let ⟨j, h1, h2, h3⟩ := h; ⟨j, h1, h2, h3.keep hf id⟩)
  | 9, u, W, W', hf, h => (let ⟨j, h1, h2, h3⟩ := h; ⟨j, h1, h2, h3.keep hf id⟩)
  | 10, u, W, W', hf, h => (let ⟨j, h1, h2, h3⟩ := h; ⟨j, h1, h2, h3.keep hf id⟩)
  | 11, u, W, W', hf, h => h
  | 12, u, W, W', hf, h => (let ⟨j, h1, h2, h3⟩ := h; ⟨j, h1, h2, h3.keep hf id⟩)
  | 13, u, W, W', hf, h => h
  | _ + 14, u, W, W', hf, h => trivial
def OpdR (p g l la d z0 : Nat) (h5 : Hd) (i : Nat) (v : Value) (W : World) : Prop :=
  match i with
  | 0 => v = .pointer (some ⟨p, 0, none⟩)
  | 1 => v = .pointer (some ⟨p, 0, none⟩)
  | 2 => v = .pointer (some ⟨p, 3, none⟩)
  | 3 => v = .pointer (some ⟨g, 0, none⟩)
  | 4 => v = .pointer (some ⟨p, 0, none⟩)
  | 5 => v = .pointer (some ⟨p, 0, none⟩)
  | 6 => v = .pointer (some ⟨p, 0, none⟩)
  | 7 => v = .agg #[.int .i64 (l : Nat), .int .i64 (la : Nat), .int .i64 (d : Nat)]
  | 8 => ∃ jn, v = tupj jn ∧ z0 ≤ jn ∧ JnAt W jn g h5 l la d false
  | 9 => ∃ jn, v = tupj jn ∧ z0 ≤ jn ∧ JnAt W jn g h5 l la d false
  | 10 => ∃ jn, v = .pointer (some ⟨jn, 0, none⟩) ∧ z0 ≤ jn ∧ JnAt W jn g h5 l la d false
  | 11 => v = .int .i64 0
  | 12 => ∃ jn, v = .pointer (some ⟨jn, 0, none⟩) ∧ z0 ≤ jn ∧ JnAt W jn g h5 l la d false
  | 13 => v = .int .i64 0
  | _ => True
theorem OpdR.ext (p g l la d z0 : Nat) (h5 : Hd) : ∀ (j : Nat) (u : Value) (W W' : World), Fr (fun _ => False) W W' → OpdR p g l la d z0 h5 j u W → OpdR p g l la d z0 h5 j u W'
  | 0, u, W, W', hf, h => h
  | 1, u, W, W', hf, h => h
  | 2, u, W, W', hf, h => h
  | 3, u, W, W', hf, h => h
  | 4, u, W, W', hf, h => h
  | 5, u, W, W', hf, h => h
  | 6, u, W, W', hf, h => h
  | 7, u, W, W', hf, h => h
  | 8, u, W, W', hf, h => (let ⟨j, h1, h2, h3⟩ := h; ⟨j, h1, h2, h3.keep hf id⟩)
  | 9, u, W, W', hf, h => (let ⟨j, h1, h2, h3⟩ := h; ⟨j, h1, h2, h3.keep hf id⟩)
  | 10, u, W, W', hf, h => (let ⟨j, h1, h2, h3⟩ := h; ⟨j, h1, h2, h3.keep hf id⟩)
  | 11, u, W, W', hf, h => h
  | 12, u, W, W', hf, h => (let ⟨j, h1, h2, h3⟩ := h; ⟨j, h1, h2, h3.keep hf id⟩)
  | 13, u, W, W', hf, h => h
  | _ + 14, u, W, W', hf, h => trivial
def OprR (p g l la d : Nat) (i : Nat) (v : Value) (W : World) : Prop :=
  match i with
  | 0 => v = .pointer (some ⟨p, 0, none⟩)
  | 1 => v = .pointer (some ⟨p, 0, none⟩)
  | 2 => v = .pointer (some ⟨p, 5, none⟩)
  | 3 => v = .pointer (some ⟨g, 0, none⟩)
  | 4 => v = .pointer (some ⟨p, 0, none⟩)
  | 5 => v = .pointer (some ⟨p, 0, none⟩)
  | 6 => v = .pointer (some ⟨p, 0, none⟩)
  | 7 => v = .agg #[.int .i64 (l : Nat), .int .i64 (la : Nat), .int .i64 (d : Nat)]
  | 8 => ∃ jn, v = tupj jn
  | 9 => ∃ jn, v = tupj jn
  | 10 => ∃ jn, v = .pointer (some ⟨jn, 0, none⟩)
  | 11 => v = .int .i64 0
  | 12 => ∃ jn, v = .pointer (some ⟨jn, 0, none⟩)
  | 13 => v = .int .i64 0
  | _ => True
theorem OprR.ext (p g l la d : Nat) : ∀ (j : Nat) (u : Value) (W W' : World), Fr (fun _ => False) W W' → OprR p g l la d j u W → OprR p g l la d j u W'
  | 0, u, W, W', hf, h => h
  | 1, u, W, W', hf, h => h
  | 2, u, W, W', hf, h => h
  | 3, u, W, W', hf, h => h
  | 4, u, W, W', hf, h => h
  | 5, u, W, W', hf, h => h
  | 6, u, W, W', hf, h => h
  | 7, u, W, W', hf, h => h
  | 8, u, W, W', hf, h => (let ⟨j, h1⟩ := h; ⟨j, h1⟩)
  | 9, u, W, W', hf, h => (let ⟨j, h1⟩ := h; ⟨j, h1⟩)
  | 10, u, W, W', hf, h => (let ⟨j, h1⟩ := h; ⟨j, h1⟩)
  | 11, u, W, W', hf, h => h
  | 12, u, W, W', hf, h => (let ⟨j, h1⟩ := h; ⟨j, h1⟩)
  | 13, u, W, W', hf, h => h
  | _ + 14, u, W, W', hf, h => trivial

def ReopPost (w : World) (p l la d g gr : Nat) (h : Hd) (rv : Value) (e : Ending) (w' : World) : Prop :=
  ∃ jn, e = .returned (.bool true) ∧ w.heap.size ≤ jn ∧ JnAt w' jn g h l la d false ∧ BoAt w' p l la d g (.pointer (some ⟨jn, 0, none⟩)) gr rv ∧ Fr (· = p) w w'
set_option maxRecDepth 100000 in
set_option maxHeartbeats 1000000 in
theorem reopened_any (w : World) (p l la d g gr : Nat) (h5 : Hd) (jv rv : Value) (hb : BoAt w p l la d g jv gr rv) (hop : ∀ W, Fr (fun _ => False) w W → Calls Tryz.prog 11 #[.pointer (some ⟨g, 0, none⟩), .agg #[.int .i64 l, .int .i64 la, .int .i64 d]] W (OpenPost W g l la d h5)) :
    Calls Tryz.prog 24 #[.pointer (some ⟨p, 0, none⟩)] w (ReopPost w p l la d g gr h5 rv) := by
  obtain ⟨z0, hz0⟩ : ∃ z0, z0 = w.heap.size := ⟨_, rfl⟩
  have HZ0 := Lib.hid hz0
  have HOP := Lib.hid hop
  have HBO := Lib.hid hb
  have LDD := Lib.hid (fun W (hW : Fr (fun _ => False) w W) => load_dev5 W ⟨p, 3, none⟩ (.pointer (some ⟨g, 0, none⟩)) (hb.keep hW id).cells.2.2.2.1)
  have LDS := Lib.hid (fun W (hW : Fr (fun _ => False) w W) => load_shape5 W p 0 _ _ _ (hb.keep hW id).shape)
  clear hop hz0 hb
  go_enter Tryz.func24, Tryz.ntmps24
  go_wp2_with fail
  refine wp_region_inv 14 (by kernel_rfl) (by kernel_rfl) (fun W => Fr (fun _ => False) w W) (ReoR p g l la d z0 h5) (fun _ _ _ _ => True) (Fr (fun _ => False)) (ReoR.ext p g l la d z0 h5) (Fr.refl _ _).drew ?_ ?_
  · intro i hi o ho
    replace hi : i < 14 := hi
    obtain rfl | rfl | rfl | rfl | rfl | rfl | rfl | rfl | rfl | rfl | rfl | rfl | rfl | rfl : i = 0 ∨ i = 1 ∨ i = 2 ∨ i = 3 ∨ i = 4 ∨ i = 5 ∨ i = 6 ∨ i = 7 ∨ i = 8 ∨ i = 9 ∨ i = 10 ∨ i = 11 ∨ i = 12 ∨ i = 13 := by omega
    · simp only [List.getElem?_cons_zero, Option.some.injEq] at ho
      subst ho
      intro a W vs hB hS hE hU
      refine wpG_plain rfl ?_
      have v0 : a.eval (.tmp 0) = .pointer (some ⟨p, 0, none⟩) := (hU 0 (by kernel_rfl)).trans rfl
      clear hE hU
      exact wp_value_inv (w' := W) (.pointer (some ⟨p, 0, none⟩)) (op_move rfl v0) ⟨_, rfl, hB, Fr.refl _ _, rfl, fun _ _ _ _ _ => trivial⟩
    · simp only [List.getElem?_cons_zero, List.getElem?_cons_succ, Option.some.injEq] at ho
      subst ho
      intro a W vs hB hS hE hU
      refine wpG_plain rfl ?_
      obtain ⟨r0, e6⟩ := hE 0 6 (by kernel_rfl) (by kernel_rfl)
      have v6 : a.eval (.tmp 6) = .pointer (some ⟨p, 0, none⟩) := e6.trans r0
      clear hE hU
      exact wp_value_inv (w' := W) (.pointer (some ⟨p, 0, none⟩)) (op_nilCheck rfl v6) ⟨_, rfl, hB, Fr.refl _ _, rfl, fun _ _ _ _ _ => trivial⟩
    · simp only [List.getElem?_cons_zero, List.getElem?_cons_succ, Option.some.injEq] at ho
      subst ho
      intro a W vs hB hS hE hU
      refine wpG_plain rfl ?_
      obtain ⟨r1, e7⟩ := hE 1 7 (by kernel_rfl) (by kernel_rfl)
      have v7 : a.eval (.tmp 7) = .pointer (some ⟨p, 0, none⟩) := e7.trans r1
      clear hE hU
      exact wp_value_inv (w' := W) (.pointer (some ⟨p, 3, none⟩)) (op_fieldAddr rfl v7 (fld_spence_spencelaw05_both_1_0 W p)) ⟨_, rfl, hB, Fr.refl _ _, rfl, fun _ _ _ _ _ => trivial⟩
    · simp only [List.getElem?_cons_zero, List.getElem?_cons_succ, Option.some.injEq] at ho
      subst ho
      intro a W vs hB hS hE hU
      refine wpG_plain rfl ?_
      obtain ⟨r2, e8⟩ := hE 2 8 (by kernel_rfl) (by kernel_rfl)
      have v8 : a.eval (.tmp 8) = .pointer (some ⟨p, 3, none⟩) := e8.trans r2
      clear hE hU
      exact wp_value_inv (w' := W) (.pointer (some ⟨g, 0, none⟩)) (op_loadAt rfl v8 (LDD.out W hB)) ⟨_, rfl, hB, Fr.refl _ _, rfl, fun _ _ _ _ _ => trivial⟩
    · simp only [List.getElem?_cons_zero, List.getElem?_cons_succ, Option.some.injEq] at ho
      subst ho
      intro a W vs hB hS hE hU
      refine wpG_plain rfl ?_
      have v0 : a.eval (.tmp 0) = .pointer (some ⟨p, 0, none⟩) := (hU 0 (by kernel_rfl)).trans rfl
      clear hE hU
      exact wp_value_inv (w' := W) (.pointer (some ⟨p, 0, none⟩)) (op_move rfl v0) ⟨_, rfl, hB, Fr.refl _ _, rfl, fun _ _ _ _ _ => trivial⟩
    · simp only [List.getElem?_cons_zero, List.getElem?_cons_succ, Option.some.injEq] at ho
      subst ho
      intro a W vs hB hS hE hU
      refine wpG_plain rfl ?_
      obtain ⟨r4, e10⟩ := hE 4 10 (by kernel_rfl) (by kernel_rfl)
      have v10 : a.eval (.tmp 10) = .pointer (some ⟨p, 0, none⟩) := e10.trans r4
      clear hE hU
      exact wp_value_inv (w' := W) (.pointer (some ⟨p, 0, none⟩)) (op_nilCheck rfl v10) ⟨_, rfl, hB, Fr.refl _ _, rfl, fun _ _ _ _ _ => trivial⟩
    · simp only [List.getElem?_cons_zero, List.getElem?_cons_succ, Option.some.injEq] at ho
      subst ho
      intro a W vs hB hS hE hU
      refine wpG_plain rfl ?_
      obtain ⟨r5, e11⟩ := hE 5 11 (by kernel_rfl) (by kernel_rfl)
      have v11 : a.eval (.tmp 11) = .pointer (some ⟨p, 0, none⟩) := e11.trans r5
      clear hE hU
      exact wp_value_inv (w' := W) (.pointer (some ⟨p, 0, none⟩)) (op_fieldAddr rfl v11 (fld_spence_spencelaw05_both_0_0 W p)) ⟨_, rfl, hB, Fr.refl _ _, rfl, fun _ _ _ _ _ => trivial⟩
    · simp only [List.getElem?_cons_zero, List.getElem?_cons_succ, Option.some.injEq] at ho
      subst ho
      intro a W vs hB hS hE hU
      refine wpG_plain rfl ?_
      obtain ⟨r6, e12⟩ := hE 6 12 (by kernel_rfl) (by kernel_rfl)
      have v12 : a.eval (.tmp 12) = .pointer (some ⟨p, 0, none⟩) := e12.trans r6
      clear hE hU
      exact wp_value_inv (w' := W) (.agg #[.int .i64 (l : Nat), .int .i64 (la : Nat), .int .i64 (d : Nat)]) (op_loadAt rfl v12 (LDS.out W hB)) ⟨_, rfl, hB, Fr.refl _ _, rfl, fun _ _ _ _ _ => trivial⟩
    · simp only [List.getElem?_cons_zero, List.getElem?_cons_succ, Option.some.injEq] at ho
      subst ho
      intro a W vs hB hS hE hU
      refine wpG_plain rfl ?_
      obtain ⟨r3, e9⟩ := hE 3 9 (by kernel_rfl) (by kernel_rfl)
      have v9 : a.eval (.tmp 9) = .pointer (some ⟨g, 0, none⟩) := e9.trans r3
      obtain ⟨r7, e13⟩ := hE 7 13 (by kernel_rfl) (by kernel_rfl)
      have v13 : a.eval (.tmp 13) = .agg #[.int .i64 (l : Nat), .int .i64 (la : Nat), .int .i64 (d : Nat)] := e13.trans r7
      clear hE hU
      refine wp_call_inv 11 #[.tmp 9, .tmp 13] #[28, 23] rfl #[.pointer (some ⟨g, 0, none⟩), .agg #[.int .i64 (l : Nat), .int .i64 (la : Nat), .int .i64 (d : Nat)]] (by simp only [List.map_toArray, List.map_cons, List.map_nil, v9, v13]) (ent_spence_log_Open _) (Post := fun v W' => ∃ jn, v = tupj jn ∧ W.heap.size ≤ jn ∧ JnAt W' jn g h5 l la d false ∧ Fr (fun _ => False) W W') ((HOP.out W hB).mono fun e w' ⟨jn, h1, h2, h3, h4⟩ => ⟨_, h1, jn, rfl, h2, h3, h4⟩) ?_
      rintro v W' ⟨jn, rfl, hz, hj, hf⟩
      exact ⟨_, rfl, hB.trans hf (fun _ h => h.elim), hf, ⟨jn, rfl, Nat.le_trans (by rw [HZ0.out]; exact hB.size) hz, hj⟩, fun _ _ _ _ _ => trivial⟩
    · simp only [List.getElem?_cons_zero, List.getElem?_cons_succ, Option.some.injEq] at ho
      subst ho
      intro a W vs hB hS hE hU
      refine wpG_plain rfl ?_
      obtain ⟨⟨jn8, rg8, hz8, hj8⟩, e14⟩ := hE 8 14 (by kernel_rfl) (by kernel_rfl)
      have v14 : a.eval (.tmp 14) = tupj jn8 := e14.trans rg8
      clear hE hU
      exact wp_value_inv (w' := W) (tupj jn8) (op_move rfl v14) ⟨_, rfl, hB, Fr.refl _ _, ⟨jn8, rfl, hz8, hj8⟩, fun _ _ _ _ _ => trivial⟩
    · simp only [List.getElem?_cons_zero, List.getElem?_cons_succ, Option.some.injEq] at ho
      subst ho
      intro a W vs hB hS hE hU
      refine wpG_plain rfl ?_
      obtain ⟨⟨jn9, rg9, hz9, hj9⟩, e5⟩ := hE 9 5 (by kernel_rfl) (by kernel_rfl)
      have v5 : a.eval (.tmp 5) = tupj jn9 := e5.trans rg9
      clear hE hU
      exact wp_value_inv (w' := W) (.pointer (some ⟨jn9, 0, none⟩)) (op_extract5 rfl v5 rfl) ⟨_, rfl, hB, Fr.refl _ _, ⟨jn9, rfl, hz9, hj9⟩, fun _ _ _ _ _ => trivial⟩
    · simp only [List.getElem?_cons_zero, List.getElem?_cons_succ, Option.some.injEq] at ho
      subst ho
      intro a W vs hB hS hE hU
      refine wpG_plain rfl ?_
      obtain ⟨⟨jn9, rg9, hz9, hj9⟩, e5⟩ := hE 9 5 (by kernel_rfl) (by kernel_rfl)
      have v5 : a.eval (.tmp 5) = tupj jn9 := e5.trans rg9
      clear hE hU
      exact wp_value_inv (w' := W) (.int .i64 0) (op_extract5 rfl v5 rfl) ⟨_, rfl, hB, Fr.refl _ _, rfl, fun _ _ _ _ _ => trivial⟩
    · simp only [List.getElem?_cons_zero, List.getElem?_cons_succ, Option.some.injEq] at ho
      subst ho
      intro a W vs hB hS hE hU
      refine wpG_plain rfl ?_
      obtain ⟨⟨jn10, rg10, hz10, hj10⟩, e15⟩ := hE 10 15 (by kernel_rfl) (by kernel_rfl)
      have v15 : a.eval (.tmp 15) = .pointer (some ⟨jn10, 0, none⟩) := e15.trans rg10
      clear hE hU
      exact wp_value_inv (w' := W) (.pointer (some ⟨jn10, 0, none⟩)) (op_assign rfl v15) ⟨_, rfl, hB, Fr.refl _ _, ⟨jn10, rfl, hz10, hj10⟩, fun _ _ _ _ _ => trivial⟩
    · simp only [List.getElem?_cons_zero, List.getElem?_cons_succ, Option.some.injEq] at ho
      subst ho
      intro a W vs hB hS hE hU
      refine wpG_plain rfl ?_
      obtain ⟨r11, e16⟩ := hE 11 16 (by kernel_rfl) (by kernel_rfl)
      have v16 : a.eval (.tmp 16) = .int .i64 0 := e16.trans r11
      clear hE hU
      exact wp_value_inv (w' := W) (.int .i64 0) (op_assign rfl v16) ⟨_, rfl, hB, Fr.refl _ _, rfl, fun _ _ _ _ _ => trivial⟩
  · intro vs Wa hB0 hR0 hD
    have r4 : vs 13 = .int .i64 0 := hR0 13 (by decide)
    obtain ⟨jn, hjn, hz5, hj5⟩ := hR0 12 (by decide)
    have HB := Lib.hid hB0
    clear hR0 hD hB0
    simp only [acts, if_true, dstAt, List.getElem?_cons_zero, List.getElem?_cons_succ, Option.bind_some, Act.put, List.setIfInBounds_toArray, List.set_cons_succ, List.set_cons_zero, List.drop_succ_cons, List.drop_nil]
    simp only [hjn, r4]
    clear hjn r4
    have HJ := Lib.hid (And.intro hz5 hj5)
    have HBA := Lib.hid (HBO.out.keep HB.out id)
    have hne : jn ≠ p := by have := HBO.out.lt; have := HZ0.out; omega
    obtain ⟨_, _, _, _, c4, _, _⟩ := HBA.out.cells
    have f4 := HBA.out.free 4
    clear hz5 hj5
    go_wp2
    go_ret
    have hp := Fr.cell1 Wa p 4 (.pointer (some ⟨jn, 0, none⟩))
    exact ⟨jn, rfl, by have := HJ.out.1; have := HZ0.out; omega, HJ.out.2.keep hp hne, HBA.out.jset _, (HB.out.mono (fun _ _ h => h.elim)).trans hp (fun k h => .inl h)⟩
def OpdPost (w : World) (p l la d g gr : Nat) (h : Hd) (e : Ending) (w' : World) : Prop :=
  ∃ jn rn, e = .returned (.bool true) ∧ w.heap.size ≤ jn ∧ JnAt w' jn g h l la d false ∧ BoAt w' p l la d g (.pointer (some ⟨jn, 0, none⟩)) gr (.pointer (some ⟨rn, 0, none⟩)) ∧ Fr (· = p) w w'
set_option maxRecDepth 100000 in
set_option maxHeartbeats 1000000 in
theorem opened_any (w : World) (p l la d gd gr : Nat) (h5 : Hd) (jv rv : Value) (hb : BoAt w p l la d gd jv gr rv) (hop : ∀ W, Fr (fun _ => False) w W → Calls Tryz.prog 11 #[.pointer (some ⟨gd, 0, none⟩), .agg #[.int .i64 l, .int .i64 la, .int .i64 d]] W (OpenPost W gd l la d h5))
    (hor : ∀ W, Fr (fun _ => False) w W → Calls Tryz.prog 77 #[.pointer (some ⟨gr, 0, none⟩), .agg #[.int .i64 l, .int .i64 la, .int .i64 d]] W (ROpenPost W)) :
    Calls Tryz.prog 53 #[.pointer (some ⟨p, 0, none⟩)] w (OpdPost w p l la d gd gr h5) := by
  obtain ⟨z0, hz0⟩ : ∃ z0, z0 = w.heap.size := ⟨_, rfl⟩
  have HZ0 := Lib.hid hz0
  have HOP := Lib.hid hop
  have HOR0 := Lib.hid hor
  have HBO := Lib.hid hb
  have LDD := Lib.hid (fun W (hW : Fr (fun _ => False) w W) => load_dev5 W ⟨p, 3, none⟩ (.pointer (some ⟨gd, 0, none⟩)) (hb.keep hW id).cells.2.2.2.1)
  have LDS := Lib.hid (fun W (hW : Fr (fun _ => False) w W) => load_shape5 W p 0 _ _ _ (hb.keep hW id).shape)
  clear hop hor hz0 hb
  go_enter Tryz.func53, Tryz.ntmps53
  go_wp2_with fail
  refine wp_region_inv 14 (by kernel_rfl) (by kernel_rfl) (fun W => Fr (fun _ => False) w W) (OpdR p gd l la d z0 h5) (fun _ _ _ _ => True) (Fr (fun _ => False)) (OpdR.ext p gd l la d z0 h5) (Fr.refl _ _).drew ?_ ?_
  · intro i hi o ho
    replace hi : i < 14 := hi
    obtain rfl | rfl | rfl | rfl | rfl | rfl | rfl | rfl | rfl | rfl | rfl | rfl | rfl | rfl : i = 0 ∨ i = 1 ∨ i = 2 ∨ i = 3 ∨ i = 4 ∨ i = 5 ∨ i = 6 ∨ i = 7 ∨ i = 8 ∨ i = 9 ∨ i = 10 ∨ i = 11 ∨ i = 12 ∨ i = 13 := by omega
    · simp only [List.getElem?_cons_zero, Option.some.injEq] at ho
      subst ho
      intro a W vs hB hS hE hU
      refine wpG_plain rfl ?_
      have v0 : a.eval (.tmp 0) = .pointer (some ⟨p, 0, none⟩) := (hU 0 (by kernel_rfl)).trans rfl
      clear hE hU
      exact wp_value_inv (w' := W) (.pointer (some ⟨p, 0, none⟩)) (op_move rfl v0) ⟨_, rfl, hB, Fr.refl _ _, rfl, fun _ _ _ _ _ => trivial⟩
    · simp only [List.getElem?_cons_zero, List.getElem?_cons_succ, Option.some.injEq] at ho
      subst ho
      intro a W vs hB hS hE hU
      refine wpG_plain rfl ?_
      obtain ⟨r0, e8⟩ := hE 0 8 (by kernel_rfl) (by kernel_rfl)
      have v8 : a.eval (.tmp 8) = .pointer (some ⟨p, 0, none⟩) := e8.trans r0
      clear hE hU
      exact wp_value_inv (w' := W) (.pointer (some ⟨p, 0, none⟩)) (op_nilCheck rfl v8) ⟨_, rfl, hB, Fr.refl _ _, rfl, fun _ _ _ _ _ => trivial⟩
    · simp only [List.getElem?_cons_zero, List.getElem?_cons_succ, Option.some.injEq] at ho
      subst ho
      intro a W vs hB hS hE hU
      refine wpG_plain rfl ?_
      obtain ⟨r1, e9⟩ := hE 1 9 (by kernel_rfl) (by kernel_rfl)
      have v9 : a.eval (.tmp 9) = .pointer (some ⟨p, 0, none⟩) := e9.trans r1
      clear hE hU
      exact wp_value_inv (w' := W) (.pointer (some ⟨p, 3, none⟩)) (op_fieldAddr rfl v9 (fld_spence_spencelaw05_both_1_0 W p)) ⟨_, rfl, hB, Fr.refl _ _, rfl, fun _ _ _ _ _ => trivial⟩
    · simp only [List.getElem?_cons_zero, List.getElem?_cons_succ, Option.some.injEq] at ho
      subst ho
      intro a W vs hB hS hE hU
      refine wpG_plain rfl ?_
      obtain ⟨r2, e10⟩ := hE 2 10 (by kernel_rfl) (by kernel_rfl)
      have v10 : a.eval (.tmp 10) = .pointer (some ⟨p, 3, none⟩) := e10.trans r2
      clear hE hU
      exact wp_value_inv (w' := W) (.pointer (some ⟨gd, 0, none⟩)) (op_loadAt rfl v10 (LDD.out W hB)) ⟨_, rfl, hB, Fr.refl _ _, rfl, fun _ _ _ _ _ => trivial⟩
    · simp only [List.getElem?_cons_zero, List.getElem?_cons_succ, Option.some.injEq] at ho
      subst ho
      intro a W vs hB hS hE hU
      refine wpG_plain rfl ?_
      have v0 : a.eval (.tmp 0) = .pointer (some ⟨p, 0, none⟩) := (hU 0 (by kernel_rfl)).trans rfl
      clear hE hU
      exact wp_value_inv (w' := W) (.pointer (some ⟨p, 0, none⟩)) (op_move rfl v0) ⟨_, rfl, hB, Fr.refl _ _, rfl, fun _ _ _ _ _ => trivial⟩
    · simp only [List.getElem?_cons_zero, List.getElem?_cons_succ, Option.some.injEq] at ho
      subst ho
      intro a W vs hB hS hE hU
      refine wpG_plain rfl ?_
      obtain ⟨r4, e12⟩ := hE 4 12 (by kernel_rfl) (by kernel_rfl)
      have v12 : a.eval (.tmp 12) = .pointer (some ⟨p, 0, none⟩) := e12.trans r4
      clear hE hU
      exact wp_value_inv (w' := W) (.pointer (some ⟨p, 0, none⟩)) (op_nilCheck rfl v12) ⟨_, rfl, hB, Fr.refl _ _, rfl, fun _ _ _ _ _ => trivial⟩
    · simp only [List.getElem?_cons_zero, List.getElem?_cons_succ, Option.some.injEq] at ho
      subst ho
      intro a W vs hB hS hE hU
      refine wpG_plain rfl ?_
      obtain ⟨r5, e13⟩ := hE 5 13 (by kernel_rfl) (by kernel_rfl)
      have v13 : a.eval (.tmp 13) = .pointer (some ⟨p, 0, none⟩) := e13.trans r5
      clear hE hU
      exact wp_value_inv (w' := W) (.pointer (some ⟨p, 0, none⟩)) (op_fieldAddr rfl v13 (fld_spence_spencelaw05_both_0_0 W p)) ⟨_, rfl, hB, Fr.refl _ _, rfl, fun _ _ _ _ _ => trivial⟩
    · simp only [List.getElem?_cons_zero, List.getElem?_cons_succ, Option.some.injEq] at ho
      subst ho
      intro a W vs hB hS hE hU
      refine wpG_plain rfl ?_
      obtain ⟨r6, e14⟩ := hE 6 14 (by kernel_rfl) (by kernel_rfl)
      have v14 : a.eval (.tmp 14) = .pointer (some ⟨p, 0, none⟩) := e14.trans r6
      clear hE hU
      exact wp_value_inv (w' := W) (.agg #[.int .i64 (l : Nat), .int .i64 (la : Nat), .int .i64 (d : Nat)]) (op_loadAt rfl v14 (LDS.out W hB)) ⟨_, rfl, hB, Fr.refl _ _, rfl, fun _ _ _ _ _ => trivial⟩
    · simp only [List.getElem?_cons_zero, List.getElem?_cons_succ, Option.some.injEq] at ho
      subst ho
      intro a W vs hB hS hE hU
      refine wpG_plain rfl ?_
      obtain ⟨r3, e11⟩ := hE 3 11 (by kernel_rfl) (by kernel_rfl)
      have v11 : a.eval (.tmp 11) = .pointer (some ⟨gd, 0, none⟩) := e11.trans r3
      obtain ⟨r7, e15⟩ := hE 7 15 (by kernel_rfl) (by kernel_rfl)
      have v15 : a.eval (.tmp 15) = .agg #[.int .i64 (l : Nat), .int .i64 (la : Nat), .int .i64 (d : Nat)] := e15.trans r7
      clear hE hU
      refine wp_call_inv 11 #[.tmp 11, .tmp 15] #[28, 23] rfl #[.pointer (some ⟨gd, 0, none⟩), .agg #[.int .i64 (l : Nat), .int .i64 (la : Nat), .int .i64 (d : Nat)]] (by simp only [List.map_toArray, List.map_cons, List.map_nil, v11, v15]) (ent_spence_log_Open _) (Post := fun v W' => ∃ jn, v = tupj jn ∧ W.heap.size ≤ jn ∧ JnAt W' jn gd h5 l la d false ∧ Fr (fun _ => False) W W') ((HOP.out W hB).mono fun e w' ⟨jn, h1, h2, h3, h4⟩ => ⟨_, h1, jn, rfl, h2, h3, h4⟩) ?_
      rintro v W' ⟨jn, rfl, hz, hj, hf⟩
      exact ⟨_, rfl, hB.trans hf (fun _ h => h.elim), hf, ⟨jn, rfl, Nat.le_trans (by rw [HZ0.out]; exact hB.size) hz, hj⟩, fun _ _ _ _ _ => trivial⟩
    · simp only [List.getElem?_cons_zero, List.getElem?_cons_succ, Option.some.injEq] at ho
      subst ho
      intro a W vs hB hS hE hU
      refine wpG_plain rfl ?_
      obtain ⟨⟨jn8, rg8, hz8, hj8⟩, e16⟩ := hE 8 16 (by kernel_rfl) (by kernel_rfl)
      have v16 : a.eval (.tmp 16) = tupj jn8 := e16.trans rg8
      clear hE hU
      exact wp_value_inv (w' := W) (tupj jn8) (op_move rfl v16) ⟨_, rfl, hB, Fr.refl _ _, ⟨jn8, rfl, hz8, hj8⟩, fun _ _ _ _ _ => trivial⟩
    · simp only [List.getElem?_cons_zero, List.getElem?_cons_succ, Option.some.injEq] at ho
      subst ho
      intro a W vs hB hS hE hU
      refine wpG_plain rfl ?_
      obtain ⟨⟨jn9, rg9, hz9, hj9⟩, e7⟩ := hE 9 7 (by kernel_rfl) (by kernel_rfl)
      have v7 : a.eval (.tmp 7) = tupj jn9 := e7.trans rg9
      clear hE hU
      exact wp_value_inv (w' := W) (.pointer (some ⟨jn9, 0, none⟩)) (op_extract5 rfl v7 rfl) ⟨_, rfl, hB, Fr.refl _ _, ⟨jn9, rfl, hz9, hj9⟩, fun _ _ _ _ _ => trivial⟩
    · simp only [List.getElem?_cons_zero, List.getElem?_cons_succ, Option.some.injEq] at ho
      subst ho
      intro a W vs hB hS hE hU
      refine wpG_plain rfl ?_
      obtain ⟨⟨jn9, rg9, hz9, hj9⟩, e7⟩ := hE 9 7 (by kernel_rfl) (by kernel_rfl)
      have v7 : a.eval (.tmp 7) = tupj jn9 := e7.trans rg9
      clear hE hU
      exact wp_value_inv (w' := W) (.int .i64 0) (op_extract5 rfl v7 rfl) ⟨_, rfl, hB, Fr.refl _ _, rfl, fun _ _ _ _ _ => trivial⟩
    · simp only [List.getElem?_cons_zero, List.getElem?_cons_succ, Option.some.injEq] at ho
      subst ho
      intro a W vs hB hS hE hU
      refine wpG_plain rfl ?_
      obtain ⟨⟨jn10, rg10, hz10, hj10⟩, e17⟩ := hE 10 17 (by kernel_rfl) (by kernel_rfl)
      have v17 : a.eval (.tmp 17) = .pointer (some ⟨jn10, 0, none⟩) := e17.trans rg10
      clear hE hU
      exact wp_value_inv (w' := W) (.pointer (some ⟨jn10, 0, none⟩)) (op_assign rfl v17) ⟨_, rfl, hB, Fr.refl _ _, ⟨jn10, rfl, hz10, hj10⟩, fun _ _ _ _ _ => trivial⟩
    · simp only [List.getElem?_cons_zero, List.getElem?_cons_succ, Option.some.injEq] at ho
      subst ho
      intro a W vs hB hS hE hU
      refine wpG_plain rfl ?_
      obtain ⟨r11, e18⟩ := hE 11 18 (by kernel_rfl) (by kernel_rfl)
      have v18 : a.eval (.tmp 18) = .int .i64 0 := e18.trans r11
      clear hE hU
      exact wp_value_inv (w' := W) (.int .i64 0) (op_assign rfl v18) ⟨_, rfl, hB, Fr.refl _ _, rfl, fun _ _ _ _ _ => trivial⟩
  · intro vs Wa hB0 hR0 hD
    have r4 : vs 13 = .int .i64 0 := hR0 13 (by decide)
    obtain ⟨jn, hjn, hz5, hj5⟩ := hR0 12 (by decide)
    have HB := Lib.hid hB0
    clear hR0 hD hB0
    simp only [acts, if_true, dstAt, List.getElem?_cons_zero, List.getElem?_cons_succ, Option.bind_some, Act.put, List.setIfInBounds_toArray, List.set_cons_succ, List.set_cons_zero, List.drop_succ_cons, List.drop_nil]
    simp only [hjn, r4]
    clear hjn r4
    have HJ := Lib.hid (And.intro hz5 hj5)
    have HOR := Lib.hid (fun W (hW : Fr (fun _ => False) Wa W) => HOR0.out W (HB.out.trans hW (fun _ h => h.elim)))
    have LDE := Lib.hid (fun W (hW : Fr (fun _ => False) Wa W) => load_ref5 W ⟨p, 5, none⟩ (.pointer (some ⟨gr, 0, none⟩)) (HBO.out.keep (HB.out.trans hW (fun _ h => h.elim)) id).cells.2.2.2.2.2.1)
    have LDT := Lib.hid (fun W (hW : Fr (fun _ => False) Wa W) => load_shape5 W p 0 _ _ _ (HBO.out.keep (HB.out.trans hW (fun _ h => h.elim)) id).shape)
    clear hz5 hj5
    go_wp2_with fail
    refine wp_region_inv 14 (by kernel_rfl) (by kernel_rfl) (fun W => Fr (fun _ => False) Wa W) (OprR p gr l la d) (fun _ _ _ _ => True) (Fr (fun _ => False)) (OprR.ext p gr l la d) (Fr.refl _ _).drew ?_ ?_
    · intro i hi o ho
      replace hi : i < 14 := hi
      obtain rfl | rfl | rfl | rfl | rfl | rfl | rfl | rfl | rfl | rfl | rfl | rfl | rfl | rfl : i = 0 ∨ i = 1 ∨ i = 2 ∨ i = 3 ∨ i = 4 ∨ i = 5 ∨ i = 6 ∨ i = 7 ∨ i = 8 ∨ i = 9 ∨ i = 10 ∨ i = 11 ∨ i = 12 ∨ i = 13 := by omega
      · simp only [List.getElem?_cons_zero, Option.some.injEq] at ho
        subst ho
        intro a W vs hB hS hE hU
        refine wpG_plain rfl ?_
        have v0 : a.eval (.tmp 0) = .pointer (some ⟨p, 0, none⟩) := (hU 0 (by kernel_rfl)).trans rfl
        clear hE hU
        exact wp_value_inv (w' := W) (.pointer (some ⟨p, 0, none⟩)) (op_move rfl v0) ⟨_, rfl, hB, Fr.refl _ _, rfl, fun _ _ _ _ _ => trivial⟩
      · simp only [List.getElem?_cons_zero, List.getElem?_cons_succ, Option.some.injEq] at ho
        subst ho
        intro a W vs hB hS hE hU
        refine wpG_plain rfl ?_
        obtain ⟨r0, e20⟩ := hE 0 20 (by kernel_rfl) (by kernel_rfl)
        have v20 : a.eval (.tmp 20) = .pointer (some ⟨p, 0, none⟩) := e20.trans r0
        clear hE hU
        exact wp_value_inv (w' := W) (.pointer (some ⟨p, 0, none⟩)) (op_nilCheck rfl v20) ⟨_, rfl, hB, Fr.refl _ _, rfl, fun _ _ _ _ _ => trivial⟩
      · simp only [List.getElem?_cons_zero, List.getElem?_cons_succ, Option.some.injEq] at ho
        subst ho
        intro a W vs hB hS hE hU
        refine wpG_plain rfl ?_
        obtain ⟨r1, e21⟩ := hE 1 21 (by kernel_rfl) (by kernel_rfl)
        have v21 : a.eval (.tmp 21) = .pointer (some ⟨p, 0, none⟩) := e21.trans r1
        clear hE hU
        exact wp_value_inv (w' := W) (.pointer (some ⟨p, 5, none⟩)) (op_fieldAddr rfl v21 (fld_spence_spencelaw05_both_3_0 W p)) ⟨_, rfl, hB, Fr.refl _ _, rfl, fun _ _ _ _ _ => trivial⟩
      · simp only [List.getElem?_cons_zero, List.getElem?_cons_succ, Option.some.injEq] at ho
        subst ho
        intro a W vs hB hS hE hU
        refine wpG_plain rfl ?_
        obtain ⟨r2, e22⟩ := hE 2 22 (by kernel_rfl) (by kernel_rfl)
        have v22 : a.eval (.tmp 22) = .pointer (some ⟨p, 5, none⟩) := e22.trans r2
        clear hE hU
        exact wp_value_inv (w' := W) (.pointer (some ⟨gr, 0, none⟩)) (op_loadAt rfl v22 (LDE.out W hB)) ⟨_, rfl, hB, Fr.refl _ _, rfl, fun _ _ _ _ _ => trivial⟩
      · simp only [List.getElem?_cons_zero, List.getElem?_cons_succ, Option.some.injEq] at ho
        subst ho
        intro a W vs hB hS hE hU
        refine wpG_plain rfl ?_
        have v0 : a.eval (.tmp 0) = .pointer (some ⟨p, 0, none⟩) := (hU 0 (by kernel_rfl)).trans rfl
        clear hE hU
        exact wp_value_inv (w' := W) (.pointer (some ⟨p, 0, none⟩)) (op_move rfl v0) ⟨_, rfl, hB, Fr.refl _ _, rfl, fun _ _ _ _ _ => trivial⟩
      · simp only [List.getElem?_cons_zero, List.getElem?_cons_succ, Option.some.injEq] at ho
        subst ho
        intro a W vs hB hS hE hU
        refine wpG_plain rfl ?_
        obtain ⟨r4, e24⟩ := hE 4 24 (by kernel_rfl) (by kernel_rfl)
        have v24 : a.eval (.tmp 24) = .pointer (some ⟨p, 0, none⟩) := e24.trans r4
        clear hE hU
        exact wp_value_inv (w' := W) (.pointer (some ⟨p, 0, none⟩)) (op_nilCheck rfl v24) ⟨_, rfl, hB, Fr.refl _ _, rfl, fun _ _ _ _ _ => trivial⟩
      · simp only [List.getElem?_cons_zero, List.getElem?_cons_succ, Option.some.injEq] at ho
        subst ho
        intro a W vs hB hS hE hU
        refine wpG_plain rfl ?_
        obtain ⟨r5, e25⟩ := hE 5 25 (by kernel_rfl) (by kernel_rfl)
        have v25 : a.eval (.tmp 25) = .pointer (some ⟨p, 0, none⟩) := e25.trans r5
        clear hE hU
        exact wp_value_inv (w' := W) (.pointer (some ⟨p, 0, none⟩)) (op_fieldAddr rfl v25 (fld_spence_spencelaw05_both_0_0 W p)) ⟨_, rfl, hB, Fr.refl _ _, rfl, fun _ _ _ _ _ => trivial⟩
      · simp only [List.getElem?_cons_zero, List.getElem?_cons_succ, Option.some.injEq] at ho
        subst ho
        intro a W vs hB hS hE hU
        refine wpG_plain rfl ?_
        obtain ⟨r6, e26⟩ := hE 6 26 (by kernel_rfl) (by kernel_rfl)
        have v26 : a.eval (.tmp 26) = .pointer (some ⟨p, 0, none⟩) := e26.trans r6
        clear hE hU
        exact wp_value_inv (w' := W) (.agg #[.int .i64 (l : Nat), .int .i64 (la : Nat), .int .i64 (d : Nat)]) (op_loadAt rfl v26 (LDT.out W hB)) ⟨_, rfl, hB, Fr.refl _ _, rfl, fun _ _ _ _ _ => trivial⟩
      · simp only [List.getElem?_cons_zero, List.getElem?_cons_succ, Option.some.injEq] at ho
        subst ho
        intro a W vs hB hS hE hU
        refine wpG_plain rfl ?_
        obtain ⟨r3, e23⟩ := hE 3 23 (by kernel_rfl) (by kernel_rfl)
        have v23 : a.eval (.tmp 23) = .pointer (some ⟨gr, 0, none⟩) := e23.trans r3
        obtain ⟨r7, e27⟩ := hE 7 27 (by kernel_rfl) (by kernel_rfl)
        have v27 : a.eval (.tmp 27) = .agg #[.int .i64 (l : Nat), .int .i64 (la : Nat), .int .i64 (d : Nat)] := e27.trans r7
        clear hE hU
        refine wp_call_inv 77 #[.tmp 23, .tmp 27] #[54, 23] rfl #[.pointer (some ⟨gr, 0, none⟩), .agg #[.int .i64 (l : Nat), .int .i64 (la : Nat), .int .i64 (d : Nat)]] (by simp only [List.map_toArray, List.map_cons, List.map_nil, v23, v27]) (ent_spence_spenceref05_Open _) (Post := fun v W' => ∃ jn, v = tupj jn ∧ Fr (fun _ => False) W W') ((HOR.out W hB).mono fun e w' ⟨jn, h1, h2⟩ => ⟨_, h1, jn, rfl, h2⟩) ?_
        rintro v W' ⟨jn, rfl, hf⟩
        exact ⟨_, rfl, hB.trans hf (fun _ h => h.elim), hf, ⟨jn, rfl⟩, fun _ _ _ _ _ => trivial⟩
      · simp only [List.getElem?_cons_zero, List.getElem?_cons_succ, Option.some.injEq] at ho
        subst ho
        intro a W vs hB hS hE hU
        refine wpG_plain rfl ?_
        obtain ⟨⟨jn8, rg8⟩, e28⟩ := hE 8 28 (by kernel_rfl) (by kernel_rfl)
        have v28 : a.eval (.tmp 28) = tupj jn8 := e28.trans rg8
        clear hE hU
        exact wp_value_inv (w' := W) (tupj jn8) (op_move rfl v28) ⟨_, rfl, hB, Fr.refl _ _, ⟨jn8, rfl⟩, fun _ _ _ _ _ => trivial⟩
      · simp only [List.getElem?_cons_zero, List.getElem?_cons_succ, Option.some.injEq] at ho
        subst ho
        intro a W vs hB hS hE hU
        refine wpG_plain rfl ?_
        obtain ⟨⟨jn9, rg9⟩, e19⟩ := hE 9 19 (by kernel_rfl) (by kernel_rfl)
        have v19 : a.eval (.tmp 19) = tupj jn9 := e19.trans rg9
        clear hE hU
        exact wp_value_inv (w' := W) (.pointer (some ⟨jn9, 0, none⟩)) (op_extract5 rfl v19 rfl) ⟨_, rfl, hB, Fr.refl _ _, ⟨jn9, rfl⟩, fun _ _ _ _ _ => trivial⟩
      · simp only [List.getElem?_cons_zero, List.getElem?_cons_succ, Option.some.injEq] at ho
        subst ho
        intro a W vs hB hS hE hU
        refine wpG_plain rfl ?_
        obtain ⟨⟨jn9, rg9⟩, e19⟩ := hE 9 19 (by kernel_rfl) (by kernel_rfl)
        have v19 : a.eval (.tmp 19) = tupj jn9 := e19.trans rg9
        clear hE hU
        exact wp_value_inv (w' := W) (.int .i64 0) (op_extract5 rfl v19 rfl) ⟨_, rfl, hB, Fr.refl _ _, rfl, fun _ _ _ _ _ => trivial⟩
      · simp only [List.getElem?_cons_zero, List.getElem?_cons_succ, Option.some.injEq] at ho
        subst ho
        intro a W vs hB hS hE hU
        refine wpG_plain rfl ?_
        obtain ⟨⟨jn10, rg10⟩, e29⟩ := hE 10 29 (by kernel_rfl) (by kernel_rfl)
        have v29 : a.eval (.tmp 29) = .pointer (some ⟨jn10, 0, none⟩) := e29.trans rg10
        clear hE hU
        exact wp_value_inv (w' := W) (.pointer (some ⟨jn10, 0, none⟩)) (op_assign rfl v29) ⟨_, rfl, hB, Fr.refl _ _, ⟨jn10, rfl⟩, fun _ _ _ _ _ => trivial⟩
      · simp only [List.getElem?_cons_zero, List.getElem?_cons_succ, Option.some.injEq] at ho
        subst ho
        intro a W vs hB hS hE hU
        refine wpG_plain rfl ?_
        obtain ⟨r11, e30⟩ := hE 11 30 (by kernel_rfl) (by kernel_rfl)
        have v30 : a.eval (.tmp 30) = .int .i64 0 := e30.trans r11
        clear hE hU
        exact wp_value_inv (w' := W) (.int .i64 0) (op_assign rfl v30) ⟨_, rfl, hB, Fr.refl _ _, rfl, fun _ _ _ _ _ => trivial⟩
    · intro vs Wb hB0 hR0 hD
      have r6 : vs 13 = .int .i64 0 := hR0 13 (by decide)
      obtain ⟨rn, hrn⟩ := hR0 12 (by decide)
      have HB2 := Lib.hid hB0
      clear hR0 hD hB0
      simp only [acts, if_true, dstAt, List.getElem?_cons_zero, List.getElem?_cons_succ, Option.bind_some, Act.put, List.setIfInBounds_toArray, List.set_cons_succ, List.set_cons_zero, List.drop_succ_cons, List.drop_nil]
      simp only [hrn, r6]
      clear hrn r6
      have HFR := Lib.hid (HB.out.trans HB2.out (fun _ h => h.elim))
      have HBA := Lib.hid (HBO.out.keep HFR.out id)
      have HJB := Lib.hid (HJ.out.2.keep HB2.out id)
      have hne : jn ≠ p := by have := HBO.out.lt; have := HZ0.out; have := HJ.out.1; omega
      obtain ⟨_, _, _, _, c4, _, c6⟩ := HBA.out.cells
      have f4 := HBA.out.free 4
      have f6 := HBA.out.free 6
      go_wp2
      go_ret
      have hp := (Fr.cell1 Wb p 4 (.pointer (some ⟨jn, 0, none⟩))).trans (Fr.cell1 _ p 6 (.pointer (some ⟨rn, 0, none⟩))) (fun k h => .inl h)
      exact ⟨jn, rn, rfl, by have := HJ.out.1; have := HZ0.out; omega, HJB.out.keep hp hne, (HBA.out.jset _).rset _, (HFR.out.mono (fun _ _ h => h.elim)).trans hp (fun k h => .inl h)⟩
end Go.Proofs.YtabgklcghghoiaaGreat

