/- Laid together by merge.py: JFits JRSec Maker -/
import Derived.Test.YtabgklcghghoiaaGreatLn10
import Derived.Test.YtabgklcghghoiaaGreatLn2
import Derived.Deep.RegionLaw

/- log's own: Sectors, fits. Printed by gen_jfits.py (wip/gen). -/
namespace Go.Proofs.YtabgklcghghoiaaGreat
open Go.RowKit Go.ChangeShapes
set_option linter.unusedVariables false

/-- A right shape: l of log, la of an area, d of data: s sectors. -/
structure ShOk (l la d s : Nat) : Prop where
  l1 : 1 ≤ l
  a1 : 1 ≤ la
  d1 : 1 ≤ d
  sum : s = 1 + l + 2 * la + d
  most : s ≤ 8192
theorem ShOk.right {l la d s : Nat} (h : ShOk l la d s) (w : World) :
    Calls Tryz.prog 7 #[.agg #[.int .i64 l, .int .i64 la, .int .i64 d]] w fun e w' => e = .returned (.bool true) ∧ Fr (fun _ => False) w w' := by
  have h' := lRight_any w l la d
  rwa [rightS_nat h.l1 h.a1 h.d1 (by have := h.sum; have := h.most; omega)] at h'
theorem row3_cells {w : World} {g : Nat} {x y z : Value} {T : TypeId} (h : w.heap[g]? = some (.cells #[x, y, z] T (0, 0))) : w.cell? ⟨g, 0, none⟩ = some x ∧ w.cell? ⟨g, 1, none⟩ = some y ∧ w.cell? ⟨g, 2, none⟩ = some z :=
  ⟨cell_of_row _ _ _ _ _ _ h, cell_of_row _ _ _ _ _ _ h, cell_of_row _ _ _ _ _ _ h⟩
def SecR (gw l la d m : Nat) (i : Nat) (v : Value) (W : World) : Prop :=
  match i with
  | 0 => v = .agg #[.int .i64 (l : Nat), .int .i64 (la : Nat), .int .i64 (d : Nat)]
  | 1 => v = .int .i64 (m : Nat)
  | 2 => v = .pointer (some ⟨gw, 2, none⟩)
  | 3 => v = .int .i64 (d : Nat)
  | 4 => v = .int .i64 ((m + d : Nat) : Int)
  | 5 => v = .int .i64 ((m + d : Nat) : Int)
  | _ => True
theorem SecR.ext (gw l la d m : Nat) : ∀ (j : Nat) (u : Value) (W W' : World), Fr (fun _ => False) W W' → SecR gw l la d m j u W → SecR gw l la d m j u W'
  | 0, u, W, W', hf, h => h
  | 1, u, W, W', hf, h => h
  | 2, u, W, W', hf, h => h
  | 3, u, W, W', hf, h => h
  | 4, u, W, W', hf, h => h
  | 5, u, W, W', hf, h => h
  | _ + 6, u, W, W', hf, h => trivial

set_option maxRecDepth 100000 in
set_option maxHeartbeats 1000000 in
theorem lSectors_any (w : World) (l la d s : Nat) (h : ShOk l la d s) :
    Calls Tryz.prog 9 #[.agg #[.int .i64 l, .int .i64 la, .int .i64 d]] w fun e w' => e = .returned (.int .i64 s) ∧ Fr (fun _ => False) w w' := by
  obtain ⟨m, hm⟩ : ∃ m, m = 1 + l + 2 * la := ⟨_, rfl⟩
  have hs : s = m + d := by rw [hm]; exact h.sum
  have HRI := Lib.hid fun W => h.right W
  have HD := Lib.hid fun w => lData_any w l la d (by have := h.sum; have := h.most; omega) (by have := h.sum; have := h.most; omega)
  have HMB := Lib.hid (show m + d ≤ 8192 by rw [← hs]; exact h.most)
  rw [← hm] at HD
  rw [hs]
  clear hm hs h
  obtain ⟨gw, hgw⟩ : ∃ gw, gw = w.heap.size := ⟨_, rfl⟩
  obtain ⟨W1, hW⟩ : ∃ W, W = w.alloc (.cells #[.int .i64 l, .int .i64 la, .int .i64 d] 23) := ⟨_, rfl⟩
  have hf : Fr (fun _ => False) w W1 := by rw [hW]; exact (Fr.refl _ _).alloc _
  have hrow : W1.heap[gw]? = some (.cells #[.int .i64 l, .int .i64 la, .int .i64 d] 23 (0, 0)) := by rw [hW, hgw]; exact heap_alloc_new w _
  have HROW := Lib.hid hrow
  have HROWW := Lib.hid (show W1.heap[w.heap.size]? = some (.cells #[.int .i64 l, .int .i64 la, .int .i64 d] 23 (0, 0)) by rw [← hgw]; exact hrow)
  have HF := Lib.hid hf
  have HW := Lib.hid (And.intro hW hgw)
  clear hW hf hrow hgw
  go_enter Tryz.func9, Tryz.ntmps9
  go_wp2_with (go_at_call 7; refine (HRI.out _).mono ?_; rintro e w1 ⟨rfl, hf1⟩; rw [← HW.out.1] at hf1; (have HF1 := Lib.hid hf1); clear hf1)
  rw [← HW.out.2]
  have LD2 := Lib.hid (fun W (hW : Fr (fun _ => False) w1 W) => load_int5 W ⟨gw, 2, none⟩ (.int .i64 d) (cell_of_row _ _ _ _ _ _ (hW.heap (HF1.out.heap HROW.out id) id)))
  have LDS := Lib.hid (fun W (hW : Fr (fun _ => False) w1 W) => load_shape5 W gw 0 _ _ _ (range_row5 (hW.heap (HF1.out.heap HROW.out id) id)))
  refine wp_region_inv 6 (by kernel_rfl) (by kernel_rfl) (fun W => Fr (fun _ => False) w1 W) (SecR gw l la d m) (fun _ _ _ _ => True) (Fr (fun _ => False)) (SecR.ext gw l la d m) (Fr.refl _ _).drew ?_ ?_
  · intro i hi o ho
    replace hi : i < 6 := hi
    obtain rfl | rfl | rfl | rfl | rfl | rfl : i = 0 ∨ i = 1 ∨ i = 2 ∨ i = 3 ∨ i = 4 ∨ i = 5 := by omega
    · simp only [List.getElem?_cons_zero, Option.some.injEq] at ho
      subst ho
      intro a W vs hB hS hE hU
      refine wpG_plain rfl ?_
      have v1 : a.eval (.tmp 1) = .pointer (some ⟨gw, 0, none⟩) := (hU 1 (by kernel_rfl)).trans rfl
      clear hE hU
      exact wp_value_inv (w' := W) (.agg #[.int .i64 (l : Nat), .int .i64 (la : Nat), .int .i64 (d : Nat)]) (op_loadAt rfl v1 (LDS.out W hB)) ⟨_, rfl, hB, Fr.refl _ _, rfl, fun _ _ _ _ _ => trivial⟩
    · simp only [List.getElem?_cons_zero, List.getElem?_cons_succ, Option.some.injEq] at ho
      subst ho
      intro a W vs hB hS hE hU
      refine wpG_plain rfl ?_
      obtain ⟨r0, e6⟩ := hE 0 6 (by kernel_rfl) (by kernel_rfl)
      have v6 : a.eval (.tmp 6) = .agg #[.int .i64 (l : Nat), .int .i64 (la : Nat), .int .i64 (d : Nat)] := e6.trans r0
      clear hE hU
      refine wp_call_inv 28 #[.tmp 6] #[23] rfl #[.agg #[.int .i64 (l : Nat), .int .i64 (la : Nat), .int .i64 (d : Nat)]] (by simp only [List.map_toArray, List.map_cons, List.map_nil, v6]) (ent_spence_log_dataAt _) (Post := fun v W' => v = .int .i64 (m : Nat) ∧ Fr (fun _ => False) W W') ((HD.out W).mono fun e w' h => ⟨_, h.1, rfl, h.2⟩) ?_
      rintro v W' ⟨rfl, hf⟩
      exact ⟨_, rfl, hB.trans hf (fun _ h => h.elim), hf, rfl, fun _ _ _ _ _ => trivial⟩
    · simp only [List.getElem?_cons_zero, List.getElem?_cons_succ, Option.some.injEq] at ho
      subst ho
      intro a W vs hB hS hE hU
      refine wpG_plain rfl ?_
      have v1 : a.eval (.tmp 1) = .pointer (some ⟨gw, 0, none⟩) := (hU 1 (by kernel_rfl)).trans rfl
      clear hE hU
      exact wp_value_inv (w' := W) (.pointer (some ⟨gw, 2, none⟩)) (op_fieldAddr rfl v1 (fld_spence_api_Shape_2_0 W gw)) ⟨_, rfl, hB, Fr.refl _ _, rfl, fun _ _ _ _ _ => trivial⟩
    · simp only [List.getElem?_cons_zero, List.getElem?_cons_succ, Option.some.injEq] at ho
      subst ho
      intro a W vs hB hS hE hU
      refine wpG_plain rfl ?_
      obtain ⟨r2, e8⟩ := hE 2 8 (by kernel_rfl) (by kernel_rfl)
      have v8 : a.eval (.tmp 8) = .pointer (some ⟨gw, 2, none⟩) := e8.trans r2
      clear hE hU
      exact wp_value_inv (w' := W) (.int .i64 (d : Nat)) (op_loadAt rfl v8 (LD2.out W hB)) ⟨_, rfl, hB, Fr.refl _ _, rfl, fun _ _ _ _ _ => trivial⟩
    · simp only [List.getElem?_cons_zero, List.getElem?_cons_succ, Option.some.injEq] at ho
      subst ho
      intro a W vs hB hS hE hU
      refine wpG_plain rfl ?_
      obtain ⟨r1, e7⟩ := hE 1 7 (by kernel_rfl) (by kernel_rfl)
      have v7 : a.eval (.tmp 7) = .int .i64 (m : Nat) := e7.trans r1
      obtain ⟨r3, e9⟩ := hE 3 9 (by kernel_rfl) (by kernel_rfl)
      have v9 : a.eval (.tmp 9) = .int .i64 (d : Nat) := e9.trans r3
      clear hE hU
      exact wp_value_inv (w' := W) (.int .i64 ((m + d : Nat) : Int)) (op_bin rfl v7 v9 (rfl) (add_in5 (by push_cast; rfl) (by omega) (by have := HMB.out; omega))) ⟨_, rfl, hB, Fr.refl _ _, rfl, fun _ _ _ _ _ => trivial⟩
    · simp only [List.getElem?_cons_zero, List.getElem?_cons_succ, Option.some.injEq] at ho
      subst ho
      intro a W vs hB hS hE hU
      refine wpG_plain rfl ?_
      obtain ⟨r4, e10⟩ := hE 4 10 (by kernel_rfl) (by kernel_rfl)
      have v10 : a.eval (.tmp 10) = .int .i64 ((m + d : Nat) : Int) := e10.trans r4
      clear hE hU
      exact wp_value_inv (w' := W) (.int .i64 ((m + d : Nat) : Int)) (op_assign rfl v10) ⟨_, rfl, hB, Fr.refl _ _, rfl, fun _ _ _ _ _ => trivial⟩
  · intro vs Wa hB0 hR0 hD
    have r2 : vs 5 = .int .i64 ((m + d : Nat) : Int) := hR0 5 (by decide)
    have HB := Lib.hid hB0
    clear hR0 hD hB0
    simp only [acts, if_true, dstAt, List.getElem?_cons_zero, List.getElem?_cons_succ, Option.bind_some, Act.put, List.setIfInBounds_toArray, List.set_cons_succ, List.set_cons_zero, List.drop_succ_cons, List.drop_nil]
    simp only [r2]
    clear r2
    go_wp2
    go_ret
    exact ⟨rfl, (HF.out.trans HF1.out (fun _ h => h.elim)).trans HB.out (fun _ h => h.elim)⟩

set_option maxRecDepth 100000 in
set_option maxHeartbeats 1000000 in
/-- The device has the shape's sectors. -/
theorem lFits_any {D : Nat → Prop} (w : World) (g l la d s : Nat) (dv : Dv) (h : ShOk l la d s) (hd : DevAt w D g s dv) :
    Calls Tryz.prog 29 #[.pointer (some ⟨g, 0, none⟩), .agg #[.int .i64 l, .int .i64 la, .int .i64 d]] w fun e w' => e = .returned (.int .i64 0) ∧ Fr (fun _ => False) w w' := by
  have HRI := Lib.hid fun W => h.right W
  have HSE := Lib.hid fun W => lSectors_any W l la d s h
  have hs0 : 1 ≤ s := by have := h.sum; omega
  have hsb := h.most
  obtain ⟨gw, hgw⟩ : ∃ gw, gw = w.heap.size := ⟨_, rfl⟩
  obtain ⟨W1, hW⟩ : ∃ W, W = w.alloc (.cells #[.int .i64 l, .int .i64 la, .int .i64 d] 23) := ⟨_, rfl⟩
  have hf : Fr (fun _ => False) w W1 := by rw [hW]; exact (Fr.refl _ _).alloc _
  have hrow : W1.heap[gw]? = some (.cells #[.int .i64 l, .int .i64 la, .int .i64 d] 23 (0, 0)) := by rw [hW, hgw]; exact heap_alloc_new w _
  have HROW := Lib.hid hrow
  have HROWW := Lib.hid (show W1.heap[w.heap.size]? = some (.cells #[.int .i64 l, .int .i64 la, .int .i64 d] 23 (0, 0)) by rw [← hgw]; exact hrow)
  have HF := Lib.hid hf
  have HW := Lib.hid (And.intro hW hgw)
  have hst := aStat W1 g s dv (hd.keep hf (fun _ _ _ h => h))
  obtain ⟨n1, hn1⟩ : ∃ n, n = dv.waits.length := ⟨_, rfl⟩
  obtain ⟨n2, hn2⟩ : ∃ n, n = dv.deeds := ⟨_, rfl⟩
  obtain ⟨n3, hn3⟩ : ∃ n, n = dv.down := ⟨_, rfl⟩
  rw [← hn1, ← hn2, ← hn3] at hst
  have HST := Lib.hid hst
  clear hW hf hrow hgw h hd hst hn1 hn2 hn3
  have hfd : ∀ W : World, (Instr.field 100 (.agg #[.int .i64 s, .int .i64 n1, .int .i64 n2, .bool n3]) 0).run Tryz.prog W = .ok (.int .i64 s) W := fun W => by kernel_rfl
  have hs2 : ((s : Int) == 0) = false := by rw [beq_eq_false_iff_ne]; omega
  go_enter Tryz.func29, Tryz.ntmps29
  go_wp2_with (first
    | (go_at_call 56; go_loud (rw [← HW.out.1]; refine HST.out.mono ?_; rintro e w1 ⟨rfl, hf1⟩; (have HF1 := Lib.hid (And.intro (HF.out.trans hf1 (fun _ h => h.elim)) (hf1.heap HROWW.out id)); clear hf1); (obtain ⟨j0, j1, j2⟩ := row3_cells HF1.out.2)))
    | (go_at_call 7; refine (HRI.out _).mono ?_; rintro e w2 ⟨rfl, hf2⟩; (have HF2 := Lib.hid (And.intro (HF1.out.1.trans hf2 (fun _ h => h.elim)) (hf2.heap HF1.out.2 id)); clear hf2); (obtain ⟨j0, j1, j2⟩ := row3_cells HF2.out.2))
    | (go_at_call 9; refine (HSE.out _).mono ?_; rintro e w3 ⟨rfl, hf3⟩; (have HF3 := Lib.hid (HF2.out.1.trans hf3 (fun _ h => h.elim)); clear hf3)))
  go_ret
  exact ⟨rfl, HF3.out⟩
end Go.Proofs.YtabgklcghghoiaaGreat

/- The document's own shapes: within, Right, Sectors. Printed by gen_jrsec.py (wip/gen). -/
namespace Go.Proofs.YtabgklcghghoiaaGreat
open Go.RowKit Go.ChangeShapes
set_option linter.unusedVariables false

theorem rWithin_any (w : World) (n : Int) (b : Bool) (hb : manyS n = b) :
    Calls Tryz.prog 78 #[.int .i64 n] w fun e w' => e = .returned (.bool b) ∧ w = w' := by
  subst hb
  by_cases h1 : 1 ≤ n
  · by_cases h2 : n ≤ 8192
    · have hR : manyS n = true := by rw [manyS, decide_eq_true_iff]; exact ⟨h1, h2⟩
      rw [hR]
      clear hR
      go_enter Tryz.func78, Tryz.ntmps78
      go_wp2
      go_ret
      exact ⟨rfl, rfl⟩
    · have hR : manyS n = false := by rw [manyS, decide_eq_false_iff_not]; omega
      rw [hR]
      clear hR
      go_enter Tryz.func78, Tryz.ntmps78
      go_wp2
      go_ret
      exact ⟨rfl, rfl⟩
  · have hR : manyS n = false := by rw [manyS, decide_eq_false_iff_not]; omega
    rw [hR]
    clear hR
    go_enter Tryz.func78, Tryz.ntmps78
    go_wp2
    go_ret
    exact ⟨rfl, rfl⟩
theorem ent_spence_spenceref05_within (args : Array Value) (w : World) : (callFunc 78 args).run Tryz.prog w = .ok (.enter 78 args) w := by kernel_rfl
set_option maxRecDepth 100000 in
set_option maxHeartbeats 4000000 in
theorem rRight_0 (w : World) (L A D : Int) (b1 : manyS L = false) :
    Calls Tryz.prog 55 #[.agg #[.int .i64 L, .int .i64 A, .int .i64 D]] w fun e w' => e = .returned (.bool false) ∧ Fr (fun _ => False) w w' := by
  have C1 := Lib.hid fun W => rWithin_any W L false b1
  clear b1
  go_enter Tryz.func55, Tryz.ntmps55
  go_wp2_with (go_at_call 78; (first | ((with_reducible refine (C1.out _).mono ?_); rintro e w1 ⟨rfl, rfl⟩)))
  go_ret
  exact ⟨rfl, (Fr.refl _ w).alloc _⟩
set_option maxRecDepth 100000 in
set_option maxHeartbeats 4000000 in
theorem rRight_1 (w : World) (l : Nat) (A D : Int) (b1 : manyS l = true) (b2 : manyS A = false) :
    Calls Tryz.prog 55 #[.agg #[.int .i64 l, .int .i64 A, .int .i64 D]] w fun e w' => e = .returned (.bool false) ∧ Fr (fun _ => False) w w' := by
  have C1 := Lib.hid fun W => rWithin_any W l true b1
  have C2 := Lib.hid fun W => rWithin_any W A false b2
  clear b1 b2
  go_enter Tryz.func55, Tryz.ntmps55
  go_wp2_with (go_at_call 78; (first | ((with_reducible refine (C1.out _).mono ?_); rintro e w1 ⟨rfl, rfl⟩) | ((with_reducible refine (C2.out _).mono ?_); rintro e w1 ⟨rfl, rfl⟩)))
  go_ret
  exact ⟨rfl, (Fr.refl _ w).alloc _⟩
set_option maxRecDepth 100000 in
set_option maxHeartbeats 4000000 in
theorem rRight_2 (w : World) (l la : Nat) (D : Int) (b1 : manyS l = true) (b2 : manyS la = true) (b3 : manyS D = false) :
    Calls Tryz.prog 55 #[.agg #[.int .i64 l, .int .i64 la, .int .i64 D]] w fun e w' => e = .returned (.bool false) ∧ Fr (fun _ => False) w w' := by
  have C1 := Lib.hid fun W => rWithin_any W l true b1
  have C2 := Lib.hid fun W => rWithin_any W la true b2
  have C3 := Lib.hid fun W => rWithin_any W D false b3
  clear b1 b2 b3
  go_enter Tryz.func55, Tryz.ntmps55
  go_wp2_with (go_at_call 78; (first | ((with_reducible refine (C1.out _).mono ?_); rintro e w1 ⟨rfl, rfl⟩) | ((with_reducible refine (C2.out _).mono ?_); rintro e w1 ⟨rfl, rfl⟩) | ((with_reducible refine (C3.out _).mono ?_); rintro e w1 ⟨rfl, rfl⟩)))
  go_ret
  exact ⟨rfl, (Fr.refl _ w).alloc _⟩
set_option maxRecDepth 100000 in
set_option maxHeartbeats 4000000 in
theorem rRight_4 (w : World) (l la d : Nat) (b1 : manyS l = true) (b2 : manyS la = true) (b3 : manyS d = true) (hl2 : l ≤ 8192) (ha2 : la ≤ 8192) (hd2 : d ≤ 8192) (hle : 1 + l + 2 * la + d ≤ 8192) :
    Calls Tryz.prog 55 #[.agg #[.int .i64 l, .int .i64 la, .int .i64 d]] w fun e w' => e = .returned (.bool true) ∧ Fr (fun _ => False) w w' := by
  have C1 := Lib.hid fun W => rWithin_any W l true b1
  have C2 := Lib.hid fun W => rWithin_any W la true b2
  have C3 := Lib.hid fun W => rWithin_any W d true b3
  have hle2 : decide ((1 : Int) + l + 2 * la + d ≤ 8192) = true := by rw [decide_eq_true_iff]; omega
  clear hle
  clear b1 b2 b3
  go_enter Tryz.func55, Tryz.ntmps55
  go_wp2_with (go_at_call 78; (first | ((with_reducible refine (C1.out _).mono ?_); rintro e w1 ⟨rfl, rfl⟩) | ((with_reducible refine (C2.out _).mono ?_); rintro e w1 ⟨rfl, rfl⟩) | ((with_reducible refine (C3.out _).mono ?_); rintro e w1 ⟨rfl, rfl⟩)))
  go_ret
  exact ⟨rfl, (Fr.refl _ w).alloc _⟩
set_option maxRecDepth 100000 in
set_option maxHeartbeats 4000000 in
theorem rRight_5 (w : World) (l la d : Nat) (b1 : manyS l = true) (b2 : manyS la = true) (b3 : manyS d = true) (hl2 : l ≤ 8192) (ha2 : la ≤ 8192) (hd2 : d ≤ 8192) (hle : ¬ 1 + l + 2 * la + d ≤ 8192) :
    Calls Tryz.prog 55 #[.agg #[.int .i64 l, .int .i64 la, .int .i64 d]] w fun e w' => e = .returned (.bool false) ∧ Fr (fun _ => False) w w' := by
  have C1 := Lib.hid fun W => rWithin_any W l true b1
  have C2 := Lib.hid fun W => rWithin_any W la true b2
  have C3 := Lib.hid fun W => rWithin_any W d true b3
  have hle2 : decide ((1 : Int) + l + 2 * la + d ≤ 8192) = false := by rw [decide_eq_false_iff_not]; omega
  clear hle
  clear b1 b2 b3
  go_enter Tryz.func55, Tryz.ntmps55
  go_wp2_with (go_at_call 78; (first | ((with_reducible refine (C1.out _).mono ?_); rintro e w1 ⟨rfl, rfl⟩) | ((with_reducible refine (C2.out _).mono ?_); rintro e w1 ⟨rfl, rfl⟩) | ((with_reducible refine (C3.out _).mono ?_); rintro e w1 ⟨rfl, rfl⟩)))
  go_ret
  exact ⟨rfl, (Fr.refl _ w).alloc _⟩
theorem rRight_any (w : World) (L A D : Int) :
    Calls Tryz.prog 55 #[.agg #[.int .i64 L, .int .i64 A, .int .i64 D]] w fun e w' => e = .returned (.bool (rightS L A D)) ∧ Fr (fun _ => False) w w' := by
  cases b1 : manyS L with
  | false =>
    rw [show rightS L A D = false by rw [rightS, b1]; rfl]
    exact rRight_0 w L A D b1
  | true =>
    obtain ⟨l, rfl, hl1, hl2⟩ := manyS_yes b1
    cases b2 : manyS A with
    | false =>
      rw [show rightS l A D = false by rw [rightS, b1, b2]; rfl]
      exact rRight_1 w l A D b1 b2
    | true =>
      obtain ⟨a, rfl, ha1, ha2⟩ := manyS_yes b2
      cases b3 : manyS D with
      | false =>
        rw [show rightS l a D = false by rw [rightS, b1, b2, b3]; rfl]
        exact rRight_2 w l a D b1 b2 b3
      | true =>
        obtain ⟨d, rfl, hd1, hd2⟩ := manyS_yes b3
        by_cases hle : 1 + l + 2 * a + d ≤ 8192
        · rw [show rightS l a d = true from rightS_nat hl1 ha1 hd1 hle]
          exact rRight_4 w l a d b1 b2 b3 hl2 ha2 hd2 hle
        · rw [show rightS l a d = false by
            rw [rightS, b1, b2, b3]
            simp only [Bool.true_and, decide_eq_false_iff_not]
            omega]
          exact rRight_5 w l a d b1 b2 b3 hl2 ha2 hd2 hle
/-- Its sectors; 0 of a shape that is not right. -/
def secsS (L A D : Int) : Int := if rightS L A D = true then 1 + L + 2 * A + D else 0
theorem r5Sectors_any (w : World) (L A D : Int) :
    Calls Tryz.prog 26 #[.agg #[.int .i64 L, .int .i64 A, .int .i64 D]] w fun e w' => e = .returned (.int .i64 (secsS L A D)) ∧ Fr (fun _ => False) w w' := by
  obtain ⟨W1, hW1⟩ : ∃ W, W = w.alloc (.cells #[.int .i64 L, .int .i64 A, .int .i64 D] 23) := ⟨_, rfl⟩
  have hf : Fr (fun _ => False) w W1 := by rw [hW1]; exact (Fr.refl _ _).alloc _
  have hrow : W1.heap[w.heap.size]? = some (.cells #[.int .i64 L, .int .i64 A, .int .i64 D] 23 (0, 0)) := by rw [hW1]; exact heap_alloc_new w _
  have hr := rRight_any W1 L A D
  have HW := Lib.hid (And.intro hW1 (And.intro hf hrow))
  cases hb : rightS L A D with
  | false =>
    rw [secsS, hb, if_neg (by decide)]
    rw [hb] at hr
    have HR := Lib.hid hr
    clear hr hb hf hrow hW1
    go_enter Tryz.func26, Tryz.ntmps26
    go_wp2_with (go_at_call 55; rw [← HW.out.1]; refine HR.out.mono ?_; rintro e w2 ⟨rfl, hf2⟩; (have H2 := Lib.hid (HW.out.2.1.trans hf2 (fun _ h => h.elim))); clear hf2)
    go_ret
    exact ⟨rfl, H2.out⟩
  | true =>
    rw [secsS, hb, if_pos rfl]
    obtain ⟨l, a, d, rfl, rfl, rfl, h1, h2, h3, h4⟩ := rightS_yes hb
    rw [hb] at hr
    have HR := Lib.hid hr
    clear hr hb hf hrow hW1
    go_enter Tryz.func26, Tryz.ntmps26
    go_wp2_with (go_at_call 55; rw [← HW.out.1]; refine HR.out.mono ?_; rintro e w2 ⟨rfl, hf2⟩; (have H2 := Lib.hid (HW.out.2.1.trans hf2 (fun _ h => h.elim))); (obtain ⟨s0, s1, s2⟩ := row3_cells (hf2.heap HW.out.2.2 id)); clear hf2)
    go_ret
    exact ⟨rfl, H2.out⟩
end Go.Proofs.YtabgklcghghoiaaGreat

/- Contracts of code.Maker: what is put, what is told. -/
namespace Go.Proofs.YtabgklcghghoiaaGreat
open Go.RowKit Go.ChangeShapes
set_option linter.unusedVariables false

/-- At block b lies a maker: broken (none), or with bytes L; all that is its own lies in blocks of F. -/
def MakAt (F : Nat → Prop) (w : World) (b : Nat) (m : Option (List UInt8)) : Prop :=
  F b ∧ ∃ T : TypeId, match m with
    | none => ∃ hv o, w.heap[b]? = some (.cells #[hv, .int .i64 o, .bool true] T (0, 0))
    | some L => (L = [] ∧ w.heap[b]? = some (.cells #[.pointer none, .int .i64 0, .bool false] T (0, 0))) ∨
        ∃ h sv, h ≠ b ∧ F h ∧ w.heap[b]? = some (.cells #[.pointer (some ⟨h, 0, none⟩), .int .i64 L.length, .bool false] T (0, 0)) ∧
          w.heap[h]? = some (.cells #[sv] 37 (0, 0)) ∧ OwnB (fun k => F k ∧ k ≠ b ∧ k ≠ h) w sv L

theorem MakAt.keep {F S : Nat → Prop} {w w' : World} {b : Nat} {m : Option (List UInt8)} (h : MakAt F w b m) (hf : Fr S w w') (hd : ∀ k, k < w.heap.size → F k → ¬ S k) : MakAt F w' b m := by
  obtain ⟨h1, T, h2⟩ := h
  refine ⟨h1, T, ?_⟩
  cases m with
  | none =>
    obtain ⟨hv, o, h3⟩ := h2
    exact ⟨hv, o, hf.heap h3 (hd _ (lt_of_block h3) h1)⟩
  | some L =>
    rcases h2 with ⟨h3, h4⟩ | ⟨hb, sv, h3, h4, h5, h6, h7⟩
    · exact .inl ⟨h3, hf.heap h4 (hd _ (lt_of_block h4) h1)⟩
    · exact .inr ⟨hb, sv, h3, h4, hf.heap h5 (hd _ (lt_of_block h5) h1), hf.heap h6 (hd _ (lt_of_block h6) h4), h7.keep hf (fun k hk hF => hd k hk hF.1)⟩

theorem MakAt.mono {F G : Nat → Prop} {w : World} {b : Nat} {m : Option (List UInt8)} (h : MakAt F w b m) (hd : ∀ k, k < w.heap.size → F k → G k) : MakAt G w b m := by
  obtain ⟨h1, T, h2⟩ := h
  have hb : b < w.heap.size := by
    cases m with
    | none => obtain ⟨hv, o, h3⟩ := h2; exact lt_of_block h3
    | some L => rcases h2 with ⟨h3, h4⟩ | ⟨hb, sv, h3, h4, h5, h6, h7⟩; exact lt_of_block h4; exact lt_of_block h5
  refine ⟨hd _ hb h1, T, ?_⟩
  cases m with
  | none => exact h2
  | some L =>
    rcases h2 with ⟨h3, h4⟩ | ⟨hb, sv, h3, h4, h5, h6, h7⟩
    · exact .inl ⟨h3, h4⟩
    · exact .inr ⟨hb, sv, h3, hd _ (lt_of_block h6) h4, h5, h6, h7.mono fun k hk h => ⟨hd k hk h.1, h.2⟩⟩

theorem mak_cells {w : World} {b : Nat} {x y z : Value} {T : TypeId} (h1 : w.heap[b]? = some (.cells #[x, y, z] T (0, 0))) :
    w.cell? ⟨b, 0, none⟩ = some x ∧ w.cell? ⟨b, 1, none⟩ = some y ∧ w.cell? ⟨b, 2, none⟩ = some z ∧ w.frozen? ⟨b, 0, none⟩ = false ∧ w.frozen? ⟨b, 1, none⟩ = false ∧ w.frozen? ⟨b, 2, none⟩ = false :=
  ⟨by simp [World.cell?, h1], by simp [World.cell?, h1], by simp [World.cell?, h1], by simp [World.frozen?, h1], by simp [World.frozen?, h1], by simp [World.frozen?, h1]⟩

theorem grown_heap {w w1 : World} {row : Option Nat} {k : Nat} {o : Obj} (hg : w.grownBy w1 row) (h : w.heap[k]? = some o) (hk : row ≠ some k) : w1.heap[k]? = some o := by
  rw [hg.block k (lt_of_block h) (fun e => hk e.symm), h]

/-- What put leaves: the new value in the place of its own, the new length. -/
theorem MakAt.put {F : Nat → Prop} {w w1 : World} {b h : Nat} {sv v' : Value} {L M : List UInt8} {T : TypeId} (hF : ∀ k, w.heap.size ≤ k → F k) (hlt : b < w.heap.size) (hlth : h < w.heap.size)
    (hb : w1.heap[b]? = some (.cells #[.pointer (some ⟨h, 0, none⟩), .int .i64 L.length, .bool false] T (0, 0))) (hh : w1.heap[h]? = some (.cells #[sv] 37 (0, 0)))
    (hne : h ≠ b) (hFb : F b) (hFh : F h) (hown : OwnB (fun k => (F k ∧ k ≠ b ∧ k ≠ h) ∨ w.heap.size ≤ k) w1 v' M) (n : Int) (hn : n = M.length) :
    MakAt F ((w1.setCell ⟨h, 0, none⟩ v').setCell ⟨b, 1, none⟩ (.int .i64 n)) b (some M) := by
  refine ⟨hFb, T, .inr ⟨h, v', hne, hFh, ?_, ?_, ?_⟩⟩
  · have h1 : (w1.setCell ⟨h, 0, none⟩ v').heap[b]? = w1.heap[b]? := Below.heap_setCell _ _ _ _ (by simpa using Ne.symm hne)
    have := heap_setCell_at (i := 1) (.int .i64 n) (h1.trans hb)
    rw [this, hn]
    simp
  · rw [Below.heap_setCell _ _ _ _ (by simpa using hne)]
    have := heap_setCell_at (i := 0) v' hh
    rw [this]
    simp
  · have h2 : OwnB (fun k => F k ∧ k ≠ b ∧ k ≠ h) w1 v' M := hown.mono fun k hk hh => by
      rcases hh with hh | hh
      · exact hh
      · exact ⟨hF k hh, by omega, by omega⟩
    refine h2.keep (S := fun k => k = b ∨ k = h) (((Fr.refl _ _).setCell (p := ⟨h, 0, none⟩) (.inl (.inr rfl)) _).setCell (p := ⟨b, 1, none⟩) (.inl (.inl rfl)) _) (fun k _ hk hs => ?_)
    rcases hs with hs | hs
    · exact hk.2.1 hs
    · exact hk.2.2 hs

theorem put_frame {F : Nat → Prop} {w w1 : World} {b h : Nat} {sv v' u : Value} {L : List UInt8} (hFb : F b) (hFh : F h) (hown : OwnB (fun k => F k ∧ k ≠ b ∧ k ≠ h) w sv L) {n : Nat} (hgr : (w.drewN n).grownBy w1 sv.ownBlock) :
    Fr F w ((w1.setCell ⟨h, 0, none⟩ v').setCell ⟨b, 1, none⟩ u) :=
  (((((Fr.refl F w).drewN n).grown hgr (fun k hk => .inl (hown.2 k hk).1)).setCell (p := ⟨h, 0, none⟩) (.inl hFh) _).setCell (p := ⟨b, 1, none⟩) (.inl hFb) _)

set_option maxHeartbeats 1000000 in
/-- put, where the pile has a place of its own. -/
theorem put_held {F G : Nat → Prop} {b h : Nat} {sv x : Value} {L X : List UInt8} {T : TypeId} (w : World) (hF : ∀ k, w.heap.size ≤ k → F k)
    (hb : w.heap[b]? = some (.cells #[.pointer (some ⟨h, 0, none⟩), .int .i64 L.length, .bool false] T (0, 0))) (hh : w.heap[h]? = some (.cells #[sv] 37 (0, 0)))
    (hne : h ≠ b) (hFb : F b) (hFh : F h) (hown : OwnB (fun k => F k ∧ k ≠ b ∧ k ≠ h) w sv L) (hx : BytesIn G w x X) (hlen : L.length + X.length ≤ 140737488355328) :
    Calls Tryz.prog 94 #[.pointer (some ⟨b, 0, none⟩), x] w fun r w' => r = .returned (.tuple #[]) ∧ Fr F w w' ∧ MakAt F w' b (some (L ++ X)) := by
  obtain ⟨c0, c1, c2, f0, f1, f2⟩ := mak_cells hb
  have d0 := cell_of_one hh
  have e0 := free_of_one hh
  obtain ⟨ao, cap, rfl⟩ := hown.len
  have hlb : ((L.length : Int) != (L.length : Int)) = false := by simp
  have hltb := lt_of_block hb
  have hlth := lt_of_block hh
  have hnb : (Value.slice ao L.length cap).ownBlock ≠ some b := fun e => (hown.2 b e).2.1 rfl
  have hnh : (Value.slice ao L.length cap).ownBlock ≠ some h := fun e => (hown.2 h e).2.2 rfl
  have HF := Lib.hid hF
  have hne' : ¬ b = h := Ne.symm hne
  clear hF
  go_enter Tryz.func94, Tryz.ntmps94
  go_wp2_with fail
  go_quiet (fail)
  go_wp2_with fail
  go_region_law (refine step_append_bytes (F := fun k => F k ∧ k ≠ b ∧ k ≠ h) (G := G) rfl (.tmp 43) (.tmp 44) rfl (.slice ao L.length cap) x L X (by simp [Act.eval]) (by simp [Act.eval]) hown hx hlen ?_; intro v' w1 hown' hgr hnil; have hb1 := grown_heap hgr hb hnb; have hh1 := grown_heap hgr hh hnh; obtain ⟨g0, g1, g2, k0, k1, k2⟩ := mak_cells hb1; have g4 := cell_of_one hh1; have k4 := free_of_one hh1; obtain ⟨ao', cap', rfl⟩ := hown'.len; rw [List.length_append] at hown'; have HO := Lib.hid hown'; have HG := Lib.hid hgr; clear hnil hown' hgr)
  all_goals
    go_wp2
    go_end0
    exact ⟨rfl, put_frame hFb hFh hown HG.out, MakAt.put HF.out hltb hlth hb1 hh1 hne hFb hFh HO.out _ (by simp)⟩

/-- gathered, of a pile that has no place of its own. -/
theorem gathered_nil {b : Nat} {T : TypeId} {y z : Value} (w : World) (hb : w.heap[b]? = some (.cells #[.pointer none, y, z] T (0, 0))) :
    Calls Tryz.prog 74 #[.pointer (some ⟨b, 0, none⟩)] w fun r w' => r = .returned (.slice none 0 0) ∧ w = w' := by
  obtain ⟨c0, c1, c2, f0, f1, f2⟩ := mak_cells hb
  clear hb
  go_enter Tryz.func74, Tryz.ntmps74
  go_wp2
  go_ret
  exact ⟨rfl, rfl⟩

theorem gathered_held {F : Nat → Prop} {b h : Nat} {T : TypeId} {sv z : Value} {L : List UInt8} (w : World) (hb : w.heap[b]? = some (.cells #[.pointer (some ⟨h, 0, none⟩), .int .i64 L.length, z] T (0, 0)))
    (hh : w.heap[h]? = some (.cells #[sv] 37 (0, 0))) (hown : OwnB F w sv L) :
    Calls Tryz.prog 74 #[.pointer (some ⟨b, 0, none⟩)] w fun r w' => ∃ v, r = .returned v ∧ (∃ n, w' = w.drewN n) ∧ BytesIn F w v L := by
  obtain ⟨c0, c1, c2, f0, f1, f2⟩ := mak_cells hb
  have d0 := cell_of_one hh
  obtain ⟨ao, cap, rfl, hl, hm, h2⟩ := hown.bytes
  have HB := Lib.hid hown.bytes
  clear hown h2 hb hh
  unfold maxLen at hm
  go_enter Tryz.func74, Tryz.ntmps74
  go_wp2_with fail
  go_quiet (fail)
  go_wp2
  go_ret
  exact ⟨_, rfl, ⟨_, rfl⟩, HB.out⟩

theorem clone_nil (w : World) :
    Calls Tryz.prog 73 #[.slice none 0 0] w fun e w' => e = .returned (.slice none 0 0) ∧ w = w' := by
  have qn := fun (w : World) a n c => Lib.run_eql_slice_nil (P := Tryz.prog) w 37 5 a n c 0 0 Tryz.underlying37
  go_enter Tryz.func73, Tryz.ntmps73
  go_wp2
  go_ret
  exact ⟨rfl, rfl⟩

set_option maxHeartbeats 1000000 in
/-- put, where the pile has no place of its own yet. -/
theorem put_fresh {F G : Nat → Prop} {b : Nat} {x : Value} {X : List UInt8} {T : TypeId} (w : World) (hF : ∀ k, w.heap.size ≤ k → F k) (hG : ∀ k, G k → ¬ F k)
    (hb : w.heap[b]? = some (.cells #[.pointer none, .int .i64 0, .bool false] T (0, 0))) (hFb : F b) (hx : BytesIn G w x X) (hlen : X.length ≤ 140737488355328) :
    Calls Tryz.prog 94 #[.pointer (some ⟨b, 0, none⟩), x] w fun r w' => r = .returned (.tuple #[]) ∧ Fr F w w' ∧ MakAt F w' b (some X) := by
  obtain ⟨c0, c1, c2, f0, f1, f2⟩ := mak_cells hb
  have hltb := lt_of_block hb
  have HF := Lib.hid hF
  clear hF
  go_enter Tryz.func94, Tryz.ntmps94
  go_wp2_with fail
  go_quiet (fail)
  have hfr0 := (Fr.refl F w).drewN nq
  have hb' : (w.drewN nq).heap[b]? = _ := hb
  have hx' : BytesIn G (w.drewN nq) x X := hx
  have HF' : Hid (∀ k, (w.drewN nq).heap.size ≤ k → F k) := HF
  have hltb' : b < (w.drewN nq).heap.size := hltb
  clear hb hx HF hltb c0 c1 c2 f0 f1 f2
  generalize w.drewN nq = W at hfr0 hb' hx' HF' hltb' ⊢
  obtain ⟨c0, c1, c2, f0, f1, f2⟩ := mak_cells hb'
  have H0 := Lib.hid hfr0
  clear hfr0
  go_wp2_with (first
    | (go_at_call 74; refine (gathered_nil _ (by exact hb')).mono ?_; rintro e w' ⟨rfl, rfl⟩)
    | (go_at_call 73; refine (clone_nil _).mono ?_; rintro e w' ⟨rfl, rfl⟩))
  obtain ⟨W2, hW2⟩ : ∃ W2, W2 = (W.setCell ⟨b, 0, none⟩ (.pointer (some ⟨W.heap.size, 0, none⟩))).alloc (.cells #[.slice none 0 0] 37) := ⟨_, rfl⟩
  obtain ⟨h, hh⟩ : ∃ h, h = W.heap.size := ⟨_, rfl⟩
  have hne : h ≠ b := by omega
  have hFh : F h := HF'.out h (by omega)
  have hfr2 : Fr F w W2 := by rw [hW2]; exact (H0.out.setCell (p := ⟨b, 0, none⟩) (.inl hFb) _).alloc _
  have hsz : W2.heap.size = W.heap.size + 1 := by rw [hW2]; simp [World.setCell]
  have hb2 : W2.heap[b]? = some (.cells #[.pointer (some ⟨h, 0, none⟩), .int .i64 0, .bool false] T (0, 0)) := by
    rw [hW2, Below.heap_alloc _ _ _ (by simpa [World.setCell] using hltb'), heap_setCell_at _ hb', hh]
    simp
  have hh2 : W2.heap[h]? = some (.cells #[.slice none 0 0] 37 (0, 0)) := by
    rw [hW2, hh]
    have := heap_alloc_new (W.setCell ⟨b, 0, none⟩ (.pointer (some ⟨W.heap.size, 0, none⟩))) (.cells #[.slice none 0 0] 37)
    simpa [World.setCell] using this
  have hx2 : BytesIn G W2 x X := hx'.keep (S := F) (by rw [hW2]; exact ((Fr.refl F W).setCell (p := ⟨b, 0, none⟩) (.inl hFb) _).alloc _) (fun k _ => hG k)
  have HF2 := Lib.hid (show ∀ k, W2.heap.size ≤ k → F k from fun k hk => HF'.out k (by omega))
  have hlt2 := lt_of_block hb2
  have hlth2 := lt_of_block hh2
  rw [← hW2, ← hh]
  clear hW2 hh hb' hx' HF' hltb' c0 c1 c2 f0 f1 f2 H0 hsz
  have H0 := Lib.hid hfr2
  clear hfr2
  obtain ⟨c0, c1, c2, f0, f1, f2⟩ := mak_cells hb2
  have d0 := cell_of_one hh2
  have e0 := free_of_one hh2
  have hne' : ¬ b = h := Ne.symm hne
  have hnb : (Value.slice none 0 0).ownBlock ≠ some b := fun e => by cases e
  have hnh : (Value.slice none 0 0).ownBlock ≠ some h := fun e => by cases e
  have hown : OwnB (fun k => F k ∧ k ≠ b ∧ k ≠ h) W2 (.slice none 0 0) [] := OwnB.nil _ _
  go_region_law (refine step_append_bytes (F := fun k => F k ∧ k ≠ b ∧ k ≠ h) (G := G) rfl (.tmp 43) (.tmp 44) rfl (.slice none 0 0) x [] X (by simp [Act.eval]) (by simp [Act.eval]) hown hx2 (by simpa using hlen) ?_; intro v' w1 hown' hgr hnil; have hb1 := grown_heap hgr hb2 hnb; have hh1 := grown_heap hgr hh2 hnh; obtain ⟨g0, g1, g2, k0, k1, k2⟩ := mak_cells hb1; have g4 := cell_of_one hh1; have k4 := free_of_one hh1; obtain ⟨ao', cap', rfl⟩ := hown'.len; rw [List.nil_append] at hown'; have HO := Lib.hid hown'; have HG := Lib.hid hgr; clear hnil hown' hgr)
  all_goals
    go_wp2
    go_end0
    exact ⟨rfl, H0.out.trans (put_frame hFb hFh hown HG.out) (fun i hi => .inl hi), MakAt.put (L := []) HF2.out hlt2 hlth2 hb1 hh1 hne hFb hFh HO.out _ rfl⟩

end Go.Proofs.YtabgklcghghoiaaGreat

