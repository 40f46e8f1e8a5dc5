/- Laid together: JFits JRSec BCnt BMap -/
import Derived.Test.YtcbbcihfooaggaaBe8
import Derived.Test.YtcbbcihfooaggaaBe6
import Derived.Test.YtcbbcihfooaggaaBe7
import Derived.Maps.OwnSet
import Derived.WalkArith
import Derived.Laws.BitsAll
import Derived.Laws.Shifts

namespace Go.Proofs.Ytcbbcihfooaggaa
open Go.RowKit Go.ChangeShapes
set_option linter.unusedVariables false
structure ShOk (l la d s : Nat) : Prop where
  l1 : 1 ≤ l
  a1 : 1 ≤ la
  d1 : 1 ≤ d
  sum : s = 1 + l + 2 * la + d
  most : s ≤ 8192
theorem ShOk.right {l la d s : Nat} (h : ShOk l la d s) (w : World) :
    Calls Try.prog 35 #[.agg #[.int .i64 l, .int .i64 la, .int .i64 d]] w fun e w' => e = .returned (.bool true) ∧ Fr (fun _ => False) w w' := by
  have h' := lRight_any w l la d
  rwa [rightS_nat h.l1 h.a1 h.d1 (by have := h.sum; have := h.most; omega)] at h'
theorem row3_cells {w : World} {g : Nat} {x y z : Value} {T : TypeId} (h : w.heap[g]? = some (.cells #[x, y, z] T (0, 0))) : w.cell? ⟨g, 0, none⟩ = some x ∧ w.cell? ⟨g, 1, none⟩ = some y ∧ w.cell? ⟨g, 2, none⟩ = some z :=
  ⟨cell_of_row _ _ _ _ _ _ h, cell_of_row _ _ _ _ _ _ h, cell_of_row _ _ _ _ _ _ h⟩
def SecR (gw l la d m : Nat) (i : Nat) (v : Value) (W : World) : Prop :=
  match i with
  | 0 => v = .agg #[.int .i64 (l : Nat), .int .i64 (la : Nat), .int .i64 (d : Nat)]
  | 1 => v = .int .i64 (m : Nat)
  | 2 => v = .pointer (some ⟨gw, 2, none⟩)
  | 3 => v = .int .i64 (d : Nat)
  | 4 => v = .int .i64 ((m + d : Nat) : Int)
  | 5 => v = .int .i64 ((m + d : Nat) : Int)
  | _ => True
theorem SecR.ext (gw l la d m : Nat) : ∀ (j : Nat) (u : Value) (W W' : World), Fr (fun _ => False) W W' → SecR gw l la d m j u W → SecR gw l la d m j u W'
  | 0, u, W, W', hf, h => h
  | 1, u, W, W', hf, h => h
  | 2, u, W, W', hf, h => h
  | 3, u, W, W', hf, h => h
  | 4, u, W, W', hf, h => h
  | 5, u, W, W', hf, h => h
  | _ + 6, u, W, W', hf, h => trivial
set_option maxRecDepth 100000 in
set_option maxHeartbeats 1000000 in
theorem lSectors_any (w : World) (l la d s : Nat) (h : ShOk l la d s) :
    Calls Try.prog 36 #[.agg #[.int .i64 l, .int .i64 la, .int .i64 d]] w fun e w' => e = .returned (.int .i64 s) ∧ Fr (fun _ => False) w w' := by
  obtain ⟨m, hm⟩ : ∃ m, m = 1 + l + 2 * la := ⟨_, rfl⟩
  have hs : s = m + d := by rw [hm]; exact h.sum
  have HRI := Lib.hid fun W => h.right W
  have HD := Lib.hid fun w => lData_any w l la d (by have := h.sum; have := h.most; omega) (by have := h.sum; have := h.most; omega)
  have HMB := Lib.hid (show m + d ≤ 8192 by rw [← hs]; exact h.most)
  rw [← hm] at HD
  rw [hs]
  clear hm hs h
  obtain ⟨gw, hgw⟩ : ∃ gw, gw = w.heap.size := ⟨_, rfl⟩
  obtain ⟨W1, hW⟩ : ∃ W, W = w.alloc (.cells #[.int .i64 l, .int .i64 la, .int .i64 d] 23) := ⟨_, rfl⟩
  have hf : Fr (fun _ => False) w W1 := by rw [hW]; exact (Fr.refl _ _).alloc _
  have hrow : W1.heap[gw]? = some (.cells #[.int .i64 l, .int .i64 la, .int .i64 d] 23 (0, 0)) := by rw [hW, hgw]; exact heap_alloc_new w _
  have HROW := Lib.hid hrow
  have HROWW := Lib.hid (show W1.heap[w.heap.size]? = some (.cells #[.int .i64 l, .int .i64 la, .int .i64 d] 23 (0, 0)) by rw [← hgw]; exact hrow)
  have HF := Lib.hid hf
  have HW := Lib.hid (And.intro hW hgw)
  clear hW hf hrow hgw
  go_enter Try.func36, Try.ntmps36
  go_wp2_with (go_at_call 35; refine (HRI.out _).mono ?_; rintro e w1 ⟨rfl, hf1⟩; rw [← HW.out.1] at hf1; (have HF1 := Lib.hid hf1); clear hf1)
  rw [← HW.out.2]
  have LD2 := Lib.hid (fun W (hW : Fr (fun _ => False) w1 W) => load_int5 W ⟨gw, 2, none⟩ (.int .i64 d) (cell_of_row _ _ _ _ _ _ (hW.heap (HF1.out.heap HROW.out id) id)))
  have LDS := Lib.hid (fun W (hW : Fr (fun _ => False) w1 W) => load_shape5 W gw 0 _ _ _ (range_row5 (hW.heap (HF1.out.heap HROW.out id) id)))
  refine wp_region_inv 6 (by kernel_rfl) (by kernel_rfl) (fun W => Fr (fun _ => False) w1 W) (SecR gw l la d m) (fun _ _ _ _ => True) (Fr (fun _ => False)) (SecR.ext gw l la d m) (Fr.refl _ _).drew ?_ ?_
  · intro i hi o ho
    replace hi : i < 6 := hi
    obtain rfl | rfl | rfl | rfl | rfl | rfl : i = 0 ∨ i = 1 ∨ i = 2 ∨ i = 3 ∨ i = 4 ∨ i = 5 := by omega
    · simp only [List.getElem?_cons_zero, Option.some.injEq] at ho
      subst ho
      intro a W vs hB hS hE hU
      refine wpG_plain rfl ?_
      have v1 : a.eval (.tmp 1) = .pointer (some ⟨gw, 0, none⟩) := (hU 1 (by kernel_rfl)).trans rfl
      clear hE hU
      exact wp_value_inv (w' := W) (.agg #[.int .i64 (l : Nat), .int .i64 (la : Nat), .int .i64 (d : Nat)]) (op_loadAt rfl v1 (LDS.out W hB)) ⟨_, rfl, hB, Fr.refl _ _, rfl, fun _ _ _ _ _ => trivial⟩
    · simp only [List.getElem?_cons_zero, List.getElem?_cons_succ, Option.some.injEq] at ho
      subst ho
      intro a W vs hB hS hE hU
      refine wpG_plain rfl ?_
      obtain ⟨r0, e6⟩ := hE 0 6 (by kernel_rfl) (by kernel_rfl)
      have v6 : a.eval (.tmp 6) = .agg #[.int .i64 (l : Nat), .int .i64 (la : Nat), .int .i64 (d : Nat)] := e6.trans r0
      clear hE hU
      refine wp_call_inv 63 #[.tmp 6] #[23] rfl #[.agg #[.int .i64 (l : Nat), .int .i64 (la : Nat), .int .i64 (d : Nat)]] (by simp only [List.map_toArray, List.map_cons, List.map_nil, v6]) (ent_spence_log_dataAt _) (Post := fun v W' => v = .int .i64 (m : Nat) ∧ Fr (fun _ => False) W W') ((HD.out W).mono fun e w' h => ⟨_, h.1, rfl, h.2⟩) ?_
      rintro v W' ⟨rfl, hf⟩
      exact ⟨_, rfl, hB.trans hf (fun _ h => h.elim), hf, rfl, fun _ _ _ _ _ => trivial⟩
    · simp only [List.getElem?_cons_zero, List.getElem?_cons_succ, Option.some.injEq] at ho
      subst ho
      intro a W vs hB hS hE hU
      refine wpG_plain rfl ?_
      have v1 : a.eval (.tmp 1) = .pointer (some ⟨gw, 0, none⟩) := (hU 1 (by kernel_rfl)).trans rfl
      clear hE hU
      exact wp_value_inv (w' := W) (.pointer (some ⟨gw, 2, none⟩)) (op_fieldAddr rfl v1 (fld_spence_api_Shape_2_0 W gw)) ⟨_, rfl, hB, Fr.refl _ _, rfl, fun _ _ _ _ _ => trivial⟩
    · simp only [List.getElem?_cons_zero, List.getElem?_cons_succ, Option.some.injEq] at ho
      subst ho
      intro a W vs hB hS hE hU
      refine wpG_plain rfl ?_
      obtain ⟨r2, e8⟩ := hE 2 8 (by kernel_rfl) (by kernel_rfl)
      have v8 : a.eval (.tmp 8) = .pointer (some ⟨gw, 2, none⟩) := e8.trans r2
      clear hE hU
      exact wp_value_inv (w' := W) (.int .i64 (d : Nat)) (op_loadAt rfl v8 (LD2.out W hB)) ⟨_, rfl, hB, Fr.refl _ _, rfl, fun _ _ _ _ _ => trivial⟩
    · simp only [List.getElem?_cons_zero, List.getElem?_cons_succ, Option.some.injEq] at ho
      subst ho
      intro a W vs hB hS hE hU
      refine wpG_plain rfl ?_
      obtain ⟨r1, e7⟩ := hE 1 7 (by kernel_rfl) (by kernel_rfl)
      have v7 : a.eval (.tmp 7) = .int .i64 (m : Nat) := e7.trans r1
      obtain ⟨r3, e9⟩ := hE 3 9 (by kernel_rfl) (by kernel_rfl)
      have v9 : a.eval (.tmp 9) = .int .i64 (d : Nat) := e9.trans r3
      clear hE hU
      exact wp_value_inv (w' := W) (.int .i64 ((m + d : Nat) : Int)) (op_bin rfl v7 v9 (rfl) (add_in5 (by push_cast; rfl) (by omega) (by have := HMB.out; omega))) ⟨_, rfl, hB, Fr.refl _ _, rfl, fun _ _ _ _ _ => trivial⟩
    · simp only [List.getElem?_cons_zero, List.getElem?_cons_succ, Option.some.injEq] at ho
      subst ho
      intro a W vs hB hS hE hU
      refine wpG_plain rfl ?_
      obtain ⟨r4, e10⟩ := hE 4 10 (by kernel_rfl) (by kernel_rfl)
      have v10 : a.eval (.tmp 10) = .int .i64 ((m + d : Nat) : Int) := e10.trans r4
      clear hE hU
      exact wp_value_inv (w' := W) (.int .i64 ((m + d : Nat) : Int)) (op_assign rfl v10) ⟨_, rfl, hB, Fr.refl _ _, rfl, fun _ _ _ _ _ => trivial⟩
  · intro vs Wa hB0 hR0 hD
    have r2 : vs 5 = .int .i64 ((m + d : Nat) : Int) := hR0 5 (by decide)
    have HB := Lib.hid hB0
    clear hR0 hD hB0
    simp only [acts, if_true, dstAt, List.getElem?_cons_zero, List.getElem?_cons_succ, Option.bind_some, Act.put, List.setIfInBounds_toArray, List.set_cons_succ, List.set_cons_zero, List.drop_succ_cons, List.drop_nil]
    simp only [r2]
    clear r2
    go_wp2
    go_ret
    exact ⟨rfl, (HF.out.trans HF1.out (fun _ h => h.elim)).trans HB.out (fun _ h => h.elim)⟩
end Go.Proofs.Ytcbbcihfooaggaa
namespace Go.Proofs.Ytcbbcihfooaggaa
open Go.RowKit Go.ChangeShapes
set_option linter.unusedVariables false
theorem rWithin_any (w : World) (n : Int) (b : Bool) (hb : manyS n = b) :
    Calls Try.prog 65 #[.int .i64 n] w fun e w' => e = .returned (.bool b) ∧ w = w' := by
  subst hb
  by_cases h1 : 1 ≤ n
  · by_cases h2 : n ≤ 8192
    · have hR : manyS n = true := by rw [manyS, decide_eq_true_iff]; exact ⟨h1, h2⟩
      rw [hR]
      clear hR
      go_enter Try.func65, Try.ntmps65
      go_wp2
      go_ret
      exact ⟨rfl, rfl⟩
    · have hR : manyS n = false := by rw [manyS, decide_eq_false_iff_not]; omega
      rw [hR]
      clear hR
      go_enter Try.func65, Try.ntmps65
      go_wp2
      go_ret
      exact ⟨rfl, rfl⟩
  · have hR : manyS n = false := by rw [manyS, decide_eq_false_iff_not]; omega
    rw [hR]
    clear hR
    go_enter Try.func65, Try.ntmps65
    go_wp2
    go_ret
    exact ⟨rfl, rfl⟩
set_option maxRecDepth 100000 in
set_option maxHeartbeats 4000000 in
theorem rRight_0 (w : World) (L A D : Int) (b1 : manyS L = false) :
    Calls Try.prog 39 #[.agg #[.int .i64 L, .int .i64 A, .int .i64 D]] w fun e w' => e = .returned (.bool false) ∧ Fr (fun _ => False) w w' := by
  have C1 := Lib.hid fun W => rWithin_any W L false b1
  clear b1
  go_enter Try.func39, Try.ntmps39
  go_wp2_with (go_at_call 65; (first | ((with_reducible refine (C1.out _).mono ?_); rintro e w1 ⟨rfl, rfl⟩)))
  go_ret
  exact ⟨rfl, (Fr.refl _ w).alloc _⟩
set_option maxRecDepth 100000 in
set_option maxHeartbeats 4000000 in
theorem rRight_1 (w : World) (l : Nat) (A D : Int) (b1 : manyS l = true) (b2 : manyS A = false) :
    Calls Try.prog 39 #[.agg #[.int .i64 l, .int .i64 A, .int .i64 D]] w fun e w' => e = .returned (.bool false) ∧ Fr (fun _ => False) w w' := by
  have C1 := Lib.hid fun W => rWithin_any W l true b1
  have C2 := Lib.hid fun W => rWithin_any W A false b2
  clear b1 b2
  go_enter Try.func39, Try.ntmps39
  go_wp2_with (go_at_call 65; (first | ((with_reducible refine (C1.out _).mono ?_); rintro e w1 ⟨rfl, rfl⟩) | ((with_reducible refine (C2.out _).mono ?_); rintro e w1 ⟨rfl, rfl⟩)))
  go_ret
  exact ⟨rfl, (Fr.refl _ w).alloc _⟩
set_option maxRecDepth 100000 in
set_option maxHeartbeats 4000000 in
theorem rRight_2 (w : World) (l la : Nat) (D : Int) (b1 : manyS l = true) (b2 : manyS la = true) (b3 : manyS D = false) :
    Calls Try.prog 39 #[.agg #[.int .i64 l, .int .i64 la, .int .i64 D]] w fun e w' => e = .returned (.bool false) ∧ Fr (fun _ => False) w w' := by
  have C1 := Lib.hid fun W => rWithin_any W l true b1
  have C2 := Lib.hid fun W => rWithin_any W la true b2
  have C3 := Lib.hid fun W => rWithin_any W D false b3
  clear b1 b2 b3
  go_enter Try.func39, Try.ntmps39
  go_wp2_with (go_at_call 65; (first | ((with_reducible refine (C1.out _).mono ?_); rintro e w1 ⟨rfl, rfl⟩) | ((with_reducible refine (C2.out _).mono ?_); rintro e w1 ⟨rfl, rfl⟩) | ((with_reducible refine (C3.out _).mono ?_); rintro e w1 ⟨rfl, rfl⟩)))
  go_ret
  exact ⟨rfl, (Fr.refl _ w).alloc _⟩
set_option maxRecDepth 100000 in
set_option maxHeartbeats 4000000 in
theorem rRight_4 (w : World) (l la d : Nat) (b1 : manyS l = true) (b2 : manyS la = true) (b3 : manyS d = true) (hl2 : l ≤ 8192) (ha2 : la ≤ 8192) (hd2 : d ≤ 8192) (hle : 1 + l + 2 * la + d ≤ 8192) :
    Calls Try.prog 39 #[.agg #[.int .i64 l, .int .i64 la, .int .i64 d]] w fun e w' => e = .returned (.bool true) ∧ Fr (fun _ => False) w w' := by
  have C1 := Lib.hid fun W => rWithin_any W l true b1
  have C2 := Lib.hid fun W => rWithin_any W la true b2
  have C3 := Lib.hid fun W => rWithin_any W d true b3
  have hle2 : decide ((1 : Int) + l + 2 * la + d ≤ 8192) = true := by rw [decide_eq_true_iff]; omega
  clear hle
  clear b1 b2 b3
  go_enter Try.func39, Try.ntmps39
  go_wp2_with (go_at_call 65; (first | ((with_reducible refine (C1.out _).mono ?_); rintro e w1 ⟨rfl, rfl⟩) | ((with_reducible refine (C2.out _).mono ?_); rintro e w1 ⟨rfl, rfl⟩) | ((with_reducible refine (C3.out _).mono ?_); rintro e w1 ⟨rfl, rfl⟩)))
  go_ret
  exact ⟨rfl, (Fr.refl _ w).alloc _⟩
set_option maxRecDepth 100000 in
set_option maxHeartbeats 4000000 in
theorem rRight_5 (w : World) (l la d : Nat) (b1 : manyS l = true) (b2 : manyS la = true) (b3 : manyS d = true) (hl2 : l ≤ 8192) (ha2 : la ≤ 8192) (hd2 : d ≤ 8192) (hle : ¬ 1 + l + 2 * la + d ≤ 8192) :
    Calls Try.prog 39 #[.agg #[.int .i64 l, .int .i64 la, .int .i64 d]] w fun e w' => e = .returned (.bool false) ∧ Fr (fun _ => False) w w' := by
  have C1 := Lib.hid fun W => rWithin_any W l true b1
  have C2 := Lib.hid fun W => rWithin_any W la true b2
  have C3 := Lib.hid fun W => rWithin_any W d true b3
  have hle2 : decide ((1 : Int) + l + 2 * la + d ≤ 8192) = false := by rw [decide_eq_false_iff_not]; omega
  clear hle
  clear b1 b2 b3
  go_enter Try.func39, Try.ntmps39
  go_wp2_with (go_at_call 65; (first | ((with_reducible refine (C1.out _).mono ?_); rintro e w1 ⟨rfl, rfl⟩) | ((with_reducible refine (C2.out _).mono ?_); rintro e w1 ⟨rfl, rfl⟩) | ((with_reducible refine (C3.out _).mono ?_); rintro e w1 ⟨rfl, rfl⟩)))
  go_ret
  exact ⟨rfl, (Fr.refl _ w).alloc _⟩
theorem rRight_any (w : World) (L A D : Int) :
    Calls Try.prog 39 #[.agg #[.int .i64 L, .int .i64 A, .int .i64 D]] w fun e w' => e = .returned (.bool (rightS L A D)) ∧ Fr (fun _ => False) w w' := by
  cases b1 : manyS L with
  | false =>
    rw [show rightS L A D = false by rw [rightS, b1]; rfl]
    exact rRight_0 w L A D b1
  | true =>
    obtain ⟨l, rfl, hl1, hl2⟩ := manyS_yes b1
    cases b2 : manyS A with
    | false =>
      rw [show rightS l A D = false by rw [rightS, b1, b2]; rfl]
      exact rRight_1 w l A D b1 b2
    | true =>
      obtain ⟨a, rfl, ha1, ha2⟩ := manyS_yes b2
      cases b3 : manyS D with
      | false =>
        rw [show rightS l a D = false by rw [rightS, b1, b2, b3]; rfl]
        exact rRight_2 w l a D b1 b2 b3
      | true =>
        obtain ⟨d, rfl, hd1, hd2⟩ := manyS_yes b3
        by_cases hle : 1 + l + 2 * a + d ≤ 8192
        · rw [show rightS l a d = true from rightS_nat hl1 ha1 hd1 hle]
          exact rRight_4 w l a d b1 b2 b3 hl2 ha2 hd2 hle
        · rw [show rightS l a d = false by
            rw [rightS, b1, b2, b3]
            simp only [Bool.true_and, decide_eq_false_iff_not]
            omega]
          exact rRight_5 w l a d b1 b2 b3 hl2 ha2 hd2 hle
def secsS (L A D : Int) : Int := if rightS L A D = true then 1 + L + 2 * A + D else 0
theorem r5Sectors_any (w : World) (L A D : Int) :
    Calls Try.prog 8 #[.agg #[.int .i64 L, .int .i64 A, .int .i64 D]] w fun e w' => e = .returned (.int .i64 (secsS L A D)) ∧ Fr (fun _ => False) w w' := by
  obtain ⟨W1, hW1⟩ : ∃ W, W = w.alloc (.cells #[.int .i64 L, .int .i64 A, .int .i64 D] 23) := ⟨_, rfl⟩
  have hf : Fr (fun _ => False) w W1 := by rw [hW1]; exact (Fr.refl _ _).alloc _
  have hrow : W1.heap[w.heap.size]? = some (.cells #[.int .i64 L, .int .i64 A, .int .i64 D] 23 (0, 0)) := by rw [hW1]; exact heap_alloc_new w _
  have hr := rRight_any W1 L A D
  have HW := Lib.hid (And.intro hW1 (And.intro hf hrow))
  cases hb : rightS L A D with
  | false =>
    rw [secsS, hb, if_neg (by decide)]
    rw [hb] at hr
    have HR := Lib.hid hr
    clear hr hb hf hrow hW1
    go_enter Try.func8, Try.ntmps8
    go_wp2_with (go_at_call 39; rw [← HW.out.1]; refine HR.out.mono ?_; rintro e w2 ⟨rfl, hf2⟩; (have H2 := Lib.hid (HW.out.2.1.trans hf2 (fun _ h => h.elim))); clear hf2)
    go_ret
    exact ⟨rfl, H2.out⟩
  | true =>
    rw [secsS, hb, if_pos rfl]
    obtain ⟨l, a, d, rfl, rfl, rfl, h1, h2, h3, h4⟩ := rightS_yes hb
    rw [hb] at hr
    have HR := Lib.hid hr
    clear hr hb hf hrow hW1
    go_enter Try.func8, Try.ntmps8
    go_wp2_with (go_at_call 39; rw [← HW.out.1]; refine HR.out.mono ?_; rintro e w2 ⟨rfl, hf2⟩; (have H2 := Lib.hid (HW.out.2.1.trans hf2 (fun _ h => h.elim))); (obtain ⟨s0, s1, s2⟩ := row3_cells (hf2.heap HW.out.2.2 id)); clear hf2)
    go_ret
    exact ⟨rfl, H2.out⟩
end Go.Proofs.Ytcbbcihfooaggaa
namespace Go.Proofs.Ytcbbcihfooaggaa
open Go.RowKit Go.ChangeShapes
set_option linter.unusedVariables false
set_option maxRecDepth 100000 in
theorem bNeed_any (w : World) (n : Int) (h1 : -9223372036854775808 ≤ n) (h2 : n ≤ 9223372036854775807) :
    Calls Try.prog 14 #[.int .i64 n] w fun e w' => e = .returned (.int .i64 (need7 n)) ∧ w' = w := by
  by_cases h : n < 1
  · have hR : need7 n = 0 := by unfold need7; rw [if_pos h]
    rw [hR]
    clear hR
    go_enter Try.func14, Try.ntmps14
    go_wp2
    go_ret
    exact ⟨rfl, rfl⟩
  · have hR : (n - 1) / 64 + 1 = need7 n := by unfold need7; rw [if_neg h]
    have HR := Lib.hid hR
    clear hR
    go_enter Try.func14, Try.ntmps14
    go_wp2
    go_ret
    rw [← HR.out]
    exact ⟨rfl, rfl⟩
set_option maxRecDepth 100000 in
theorem rNeed_any (w : World) (n : Int) (h1 : -9223372036854775808 ≤ n) (h2 : n ≤ 9223372036854775807) :
    Calls Try.prog 15 #[.int .i64 n] w fun e w' => e = .returned (.int .i64 (need7 n)) ∧ w' = w := by
  by_cases h : n < 1
  · have hR : need7 n = 0 := by unfold need7; rw [if_pos h]
    rw [hR]
    clear hR
    go_enter Try.func15, Try.ntmps15
    go_wp2
    go_ret
    exact ⟨rfl, rfl⟩
  · have hR : (n - 1) / 64 + 1 = need7 n := by unfold need7; rw [if_neg h]
    have HR := Lib.hid hR
    clear hR
    go_enter Try.func15, Try.ntmps15
    go_wp2
    go_ret
    rw [← HR.out]
    exact ⟨rfl, rfl⟩
set_option maxRecDepth 100000 in
theorem isRun_any (w : World) (L A : Int) (d : Nat) (a m : Int) (hd : d ≤ 8192) (ha : -9223372036854775808 ≤ a) (ha2 : a ≤ 9223372036854775807) (hm : -9223372036854775808 ≤ m) (hm2 : m ≤ 9223372036854775807) :
    Calls Try.prog 66 #[.agg #[.int .i64 L, .int .i64 A, .int .i64 d], .agg #[.int .i64 a, .int .i64 m]] w fun e w' => e = .returned (.bool (rnOk d (a, m))) ∧ Fr (fun _ => False) w w' := by
  by_cases h1 : 0 ≤ a
  · by_cases h2 : 1 ≤ m
    · have hs : IntKind.i64.wrap ((d : Int) - a) = (d : Int) - a := wrap_in5 (by omega) (by omega)
      by_cases h3 : m ≤ (d : Int) - a
      · have hR : rnOk d (a, m) = true := rnOk_iff.2 ⟨h1, h2, h3⟩
        rw [hR]
        clear hR
        go_enter Try.func66, Try.ntmps66
        go_wp2
        go_ret
        exact ⟨rfl, ((Fr.refl _ _).alloc _).alloc _⟩
      · have hR : rnOk d (a, m) = false := by rw [← Bool.not_eq_true, rnOk_iff]; exact fun h => h3 h.2.2
        rw [hR]
        clear hR
        go_enter Try.func66, Try.ntmps66
        go_wp2
        go_ret
        exact ⟨rfl, ((Fr.refl _ _).alloc _).alloc _⟩
    · have hR : rnOk d (a, m) = false := by rw [← Bool.not_eq_true, rnOk_iff]; exact fun h => h2 h.2.1
      rw [hR]
      clear hR
      go_enter Try.func66, Try.ntmps66
      go_wp2
      go_ret
      exact ⟨rfl, ((Fr.refl _ _).alloc _).alloc _⟩
  · have hR : rnOk d (a, m) = false := by rw [← Bool.not_eq_true, rnOk_iff]; exact fun h => h1 h.1
    rw [hR]
    clear hR
    go_enter Try.func66, Try.ntmps66
    go_wp2
    go_ret
    exact ⟨rfl, ((Fr.refl _ _).alloc _).alloc _⟩
set_option maxRecDepth 100000 in
theorem rRun_any (w : World) (d : Nat) (a m : Int) (hd : d ≤ 8192) (ha : -9223372036854775808 ≤ a) (ha2 : a ≤ 9223372036854775807) (hm : -9223372036854775808 ≤ m) (hm2 : m ≤ 9223372036854775807) :
    Calls Try.prog 70 #[.int .i64 d, .agg #[.int .i64 a, .int .i64 m]] w fun e w' => e = .returned (.bool (rnOk d (a, m))) ∧ Fr (fun _ => False) w w' := by
  by_cases h1 : 0 ≤ a
  · by_cases h4 : a < (d : Int)
    · by_cases h2 : 1 ≤ m
      · have hs : IntKind.i64.wrap ((d : Int) - a) = (d : Int) - a := wrap_in5 (by omega) (by omega)
        by_cases h3 : m ≤ (d : Int) - a
        · have hR : rnOk d (a, m) = true := rnOk_iff.2 ⟨h1, h2, h3⟩
          rw [hR]
          clear hR
          go_enter Try.func70, Try.ntmps70
          go_wp2
          go_ret
          exact ⟨rfl, (Fr.refl _ _).alloc _⟩
        · have hR : rnOk d (a, m) = false := by rw [← Bool.not_eq_true, rnOk_iff]; exact fun h => h3 h.2.2
          rw [hR]
          clear hR
          go_enter Try.func70, Try.ntmps70
          go_wp2
          go_ret
          exact ⟨rfl, (Fr.refl _ _).alloc _⟩
      · have hR : rnOk d (a, m) = false := by rw [← Bool.not_eq_true, rnOk_iff]; exact fun h => h2 h.2.1
        rw [hR]
        clear hR
        go_enter Try.func70, Try.ntmps70
        go_wp2
        go_ret
        exact ⟨rfl, (Fr.refl _ _).alloc _⟩
    · have hR : rnOk d (a, m) = false := by rw [← Bool.not_eq_true, rnOk_iff]; simp only; omega
      rw [hR]
      clear hR
      go_enter Try.func70, Try.ntmps70
      go_wp2
      go_ret
      exact ⟨rfl, (Fr.refl _ _).alloc _⟩
  · have hR : rnOk d (a, m) = false := by rw [← Bool.not_eq_true, rnOk_iff]; exact fun h => h1 h.1
    rw [hR]
    clear hR
    go_enter Try.func70, Try.ntmps70
    go_wp2
    go_ret
    exact ⟨rfl, (Fr.refl _ _).alloc _⟩
theorem many7_take_le {d : Nat} {l : List Rn} (h : ∀ r ∈ l, rnOk d r = true) (hs : (secs7 l).length ≤ 8192) (i : Nat) : 0 ≤ many7 (l.take i) ∧ many7 (l.take i) ≤ 8192 := by
  have h1 : ∀ r ∈ l.take i, rnOk d r = true := fun r hr => h r (List.mem_of_mem_take hr)
  rw [many7_eq h1]
  have h2 : (secs7 l) = secs7 (l.take i) ++ secs7 (l.drop i) := by rw [← secs7_append, List.take_append_drop]
  have h3 := congrArg List.length h2
  rw [List.length_append] at h3
  omega
set_option maxRecDepth 100000 in
set_option maxHeartbeats 1000000 in
theorem count_any {F : Nat → Prop} {d : Nat} (w : World) (v : Value) (l : List Rn) (hl : RnsIn F w v l) (hd : d ≤ 8192) (hap : apart7 d l = true) :
    Calls Try.prog 41 #[v] w fun e w' => e = .returned (.int .i64 ((secs7 l).length : Nat)) ∧ Fr (fun _ => False) w w' := by
  have hle := apart7_le hap
  rw [apart7_iff] at hap
  have hle2 : (secs7 l).length ≤ 8192 := by omega
  have hmany := many7_eq hap.1
  have hcnt := secs7_many hap.1
  obtain ⟨ao, cap, rfl, hc1, hc2, b, off, hao, hcells⟩ := hl.open7
  obtain ⟨n, hnn⟩ : ∃ n, n = l.length := ⟨_, rfl⟩
  rw [← hnn] at hc1 hao ⊢
  have hn : n ≤ 8192 := by omega
  rw [← hmany]
  have HN := Lib.hid (And.intro hnn (And.intro hap.1 hle2))
  have HCE := Lib.hid hcells
  have HAO := Lib.hid hao
  have HLT := Lib.hid (show ∀ i (h : i < l.length), b < w.heap.size from fun i h => by have := World.block_lt_of_cell? _ _ (hcells i h).1; exact this)
  clear hl hle hle2 hap hmany hcnt hnn hcells hao
  go_enter Try.func41, Try.ntmps41
  go_wp2
  go_loopw [3, 8] (fun mv iv wr => ∃ (i : Nat), i ≤ n ∧ iv = .int .i64 i ∧ mv = .int .i64 (many7 (l.take i)) ∧ Hid (Fr (fun _ => False) w wr)) (fun _ iv _ => n - (intOf iv).toNat)
  case atStart => exact ⟨0, by omega, rfl, rfl, Lib.hid (Fr.refl _ _)⟩
  case round =>
    obtain ⟨i, hi, rfl, rfl, hR⟩ := hrel
    by_cases hlt : i < n
    · have hiL : i < l.length := by have := HN.out.1; omega
      obtain ⟨rfl, hFb⟩ := HAO.out (by have := HN.out.1; omega)
      have hce := HCE.out i hiL
      have f0 := hR.out.cell hce.1 id
      have f1 := hR.out.cell hce.2 id
      obtain ⟨x, hx⟩ : ∃ x, x = l[i].1 := ⟨_, rfl⟩
      obtain ⟨y, hy⟩ : ∃ y, y = l[i].2 := ⟨_, rfl⟩
      rw [← hx] at f0
      rw [← hy] at f1
      obtain ⟨s, hs⟩ : ∃ s, s = many7 (l.take i) := ⟨_, rfl⟩
      have hb1 := many7_take_le HN.out.2.1 HN.out.2.2 i
      have hb2 := many7_take_le HN.out.2.1 HN.out.2.2 (i + 1)
      have hsn : many7 (l.take (i + 1)) = s + y := by rw [List.take_succ_eq_append_getElem hiL, many7_snoc, ← hs, hy]
      rw [← hs] at hb1 ⊢
      rw [hsn] at hb2
      have HS := Lib.hid hsn
      have hlt64 : (i : Int) < (n : Int) := by omega
      obtain ⟨b1, b2⟩ := hb1
      obtain ⟨b3, b4⟩ := hb2
      have hw : IntKind.i64.wrap (s + y) = s + y := wrap_in5 (by omega) (by omega)
      clear hce hx hy hs hsn hiL
      go_wp2
      go_roundw
      case rel => exact ⟨i + 1, by omega, by go_num, by rw [HS.out], Lib.hid (hR.out.alloc _)⟩
      case measure => simp [intOf]; omega
    · obtain rfl : i = n := by omega
      have HE := Lib.hid (show l.take i = l from List.take_of_length_le (by have := HN.out.1; omega))
      go_wp2
      go_ret
      exact ⟨by rw [HE.out]; rfl, hR.out⟩
end Go.Proofs.Ytcbbcihfooaggaa
namespace Go.Proofs.Ytcbbcihfooaggaa
open Go.RowKit Go.ChangeShapes Go.Maps
set_option linter.unusedVariables false
def held7 : Value → Option (DataW Value × List MemPlace) := fun v => some (.held v, [])
def key7 (k : Nat) : Lit := .int .i64 (k : Int)
theorem key7_inj {i j : Nat} (h : key7 i = key7 j) : i = j := by
  simp only [key7, Lit.int.injEq, true_and] at h
  omega
theorem key7_lit (k : Nat) : WideAt.IsKeyLit (key7 k) := by simp [key7, WideAt.IsKeyLit]
def WordOk (S : List Nat) (k n : Nat) : Prop := n < 18446744073709551616 ∧ ∀ i, i < 64 → n.testBit i = decide (64 * k + i ∈ S)
def TkAt (w : World) (mb : Nat) (S : List Nat) : Prop := ∃ D, w.ownsMap Try.prog 3 held7 mb S.length D ∧ IsMap D ∧ ∀ k : Nat, ∃ n : Nat, D.atKey (key7 k) (.held (.int .u64 0)) = .held (.int .u64 n) ∧ WordOk S k n
theorem ownsMap_fr7 {w w' : World} {b n : Nat} {D : DataW Value} {S : Nat → Prop} (h : w.ownsMap Try.prog 3 held7 b n D) (hf : Fr S w w') (hb : ¬ S b) : w'.ownsMap Try.prog 3 held7 b n D := by
  obtain ⟨es, clock, h1, rest⟩ := h
  exact ⟨es, clock, hf.heap h1 hb, rest⟩
theorem TkAt.keep {w w' : World} {mb : Nat} {X : List Nat} {S : Nat → Prop} (h : TkAt w mb X) (hf : Fr S w w') (hb : ¬ S mb) : TkAt w' mb X := by
  obtain ⟨D, h1, h2⟩ := h
  exact ⟨D, ownsMap_fr7 h1 hf hb, h2⟩
theorem TkAt.lt {w : World} {mb : Nat} {X : List Nat} (h : TkAt w mb X) : mb < w.heap.size := by
  obtain ⟨D, h1, h2⟩ := h
  exact h1.lt
theorem TkAt.made (w : World) : TkAt (w.alloc (.map #[] 0)) w.heap.size [] :=
  ⟨.map [], World.ownsMap_made w _ _ _, ⟨_, rfl⟩, fun k => ⟨0, rfl, by decide, fun i _ => by simp⟩⟩
theorem TkAt.look {w : World} {mb : Nat} {S : List Nat} (h : TkAt w mb S) (k : Nat) (hk : k ≤ 1000000) :
    ∃ n : Nat, WordOk S k n ∧ (Instr.lookup 76 (.map (some mb)) (.int .i64 (k : Int)) false).run Try.prog w = .ok (.int .u64 n) w := by
  obtain ⟨D, h1, h2, h3⟩ := h
  obtain ⟨n, h4, h5⟩ := h3 k
  obtain ⟨v, ps, hr, hv⟩ := h1.lookup (t := 76) (e := 111) (int_keyed Try.underlying3) Try.underlying76 (z := .int .u64 0) (by kernel_rfl) (zd := .held (.int .u64 0)) (zp := []) rfl (key := .int .i64 (k : Int)) (kl := key7 k) (keyOf_int_mk Try.underlying3 (WalkArith.wf_i64 (by omega)))
  rw [h4, held7] at hv
  simp only [Option.some.injEq, Prod.mk.injEq, DataW.held.injEq] at hv
  rw [hv.1] at hr
  exact ⟨n, h5, hr⟩
theorem TkAt.put {w : World} {mb : Nat} {S : List Nat} (h : TkAt w mb S) (x k i n : Nat) (hx : x = 64 * k + i) (hi : i < 64) (hn : WordOk S k n) (hk : k ≤ 1000000) (hl : S.length < 1000000) :
    ∃ w', (Instr.mapUpdate 76 (.map (some mb)) (.int .i64 (k : Int)) (.int .u64 ((n ||| 2 ^ i : Nat) : Int))).run Try.prog w = .ok () w' ∧ TkAt w' mb (S ++ [x]) ∧ Fr (fun b => b = mb) w w' := by
  obtain ⟨D, h1, h2, h3⟩ := h
  obtain ⟨w', hr, ho, hg⟩ := h1.update (t := 76) (e := 111) (int_keyed Try.underlying3) Try.underlying76 (by unfold maxLen; omega) (key := .int .i64 (k : Int)) (val := .int .u64 ((n ||| 2 ^ i : Nat) : Int)) (kl := key7 k) (d := .held (.int .u64 ((n ||| 2 ^ i : Nat) : Int))) (ps := []) (keyOf_int_mk Try.underlying3 (WalkArith.wf_i64 (by omega))) rfl
  refine ⟨w', hr, ⟨_, by rw [List.length_append]; exact ho, h2.put _ _, fun j => ?_⟩, (Fr.refl _ w).grown hg (fun b hb => .inl (Option.some.inj hb).symm)⟩
  by_cases e : j = k
  · subst e
    refine ⟨_, atKey_put_same h2 (key7_lit j) _ _, ?_, fun t ht => ?_⟩
    · have h6 : 2 ^ i < 2 ^ 64 := Nat.pow_lt_pow_right (by decide) hi
      have := Nat.or_lt_two_pow hn.1 h6
      exact this
    · rw [Nat.testBit_or, hn.2 t ht, Nat.testBit_two_pow]
      by_cases hti : i = t
      · subst hti
        simp [hx]
      · have hne : ¬ 64 * j + t = x := by omega
        simp [hti, hne]
  · obtain ⟨m, h4, h5⟩ := h3 j
    refine ⟨m, by rw [atKey_put_other (fun h => e (key7_inj h))]; exact h4, h5.1, fun t ht => ?_⟩
    rw [h5.2 t ht]
    have hne : ¬ 64 * j + t = x := by omega
    simp [hne]
theorem shr_and_bit (n i : Nat) (b : Bool) (h : n.testBit i = b) : (n / 2 ^ i) % 2 = if b = true then 1 else 0 := by
  subst h
  rw [Nat.testBit_eq_decide_div_mod_eq]
  by_cases h : n / 2 ^ i % 2 = 1
  · simp [h]
  · simp [h]; omega
theorem bit_test (n i : Nat) (b : Bool) (hn : n < 18446744073709551616) (h : n.testBit i = b) : (bits BinOp.and IntKind.u64 ((n : Int) / 2 ^ i) 1 == 1) = b := by
  have h1 : n / 2 ^ i ≤ n := Nat.div_le_self _ _
  have h2 : (n : Int) / 2 ^ i = ((n / 2 ^ i : Nat) : Int) := by push_cast; rfl
  have h3 := u64_and_nat (n / 2 ^ i) 1 (by omega) (by decide)
  rw [h2, show (1 : Int) = ((1 : Nat) : Int) from rfl, h3, Nat.and_one_is_mod]
  have h4 := shr_and_bit n i b h
  rw [h4]
  cases b <;> decide
theorem bit_set (n i : Nat) (hn : n < 18446744073709551616) (hi : i < 64) : IntKind.u64.wrap (2 ^ i) = ((2 ^ i : Nat) : Int) ∧ bits BinOp.or IntKind.u64 (n : Int) ((2 ^ i : Nat) : Int) = ((n ||| 2 ^ i : Nat) : Int) := by
  have h6 : 2 ^ i < 18446744073709551616 := Nat.lt_of_lt_of_eq (Nat.pow_lt_pow_right (by decide) hi) (show 2 ^ 64 = 18446744073709551616 from rfl)
  have h5 : ((2 : Int) ^ i) = ((2 ^ i : Nat) : Int) := by push_cast; rfl
  rw [h5]
  generalize 2 ^ i = y at *
  refine ⟨?_, u64_or_nat n y hn h6⟩
  rw [IntKind.wrap_u64]
  omega
theorem wpList_tk (w w' : World) {ops : Array Oper} {rest : List Oper} {o : Oper} {a : Act} {Q : Exit → Act → World → Prop} (hg : o.guard = none) (m x v : Operand) (hop : o.op = Op.mapUpdate 76 m x v) (mv xv vv : Value) (hm : a.eval m = mv) (hx : a.eval x = xv) (hv : a.eval v = vv)
    (hr : (Instr.mapUpdate 76 mv xv vv).run Try.prog w = .ok () w') (hK : wpList Try.prog ops Q rest (a.put o.dst undef) w') : wpList Try.prog ops Q (o :: rest) a w := by
  refine wpList_plain hg fun K' hK' => ?_
  unfold Oper.wp
  simp [execOp, hop, hm, hx, hv, hr, Result.andThen]
  exact hK' _ _ hK
set_option maxRecDepth 100000 in
theorem has_any (w : World) (mb x : Nat) (S : List Nat) (h : TkAt w mb S) (hx : x ≤ 8192) :
    Calls Try.prog 69 #[.map (some mb), .int .i64 x] w fun e w' => e = .returned (.bool (decide (x ∈ S))) ∧ w' = w := by
  obtain ⟨k, hk⟩ : ∃ k, k = x / 64 := ⟨_, rfl⟩
  obtain ⟨i, hi⟩ : ∃ i, i = x % 64 := ⟨_, rfl⟩
  have hi64 : i < 64 := by omega
  obtain ⟨n, hn, hlk⟩ := h.look k (by omega)
  have hq : (x : Int) / 64 = (k : Nat) := by omega
  have hr : (x : Int) % 64 = (i : Nat) := by omega
  have hb := hn.2 i hi64
  rw [show 64 * k + i = x by omega] at hb
  have HB := Lib.hid (bit_test n i _ hn.1 hb)
  clear hk hi hb hn h
  go_enter Try.func69, Try.ntmps69
  go_wp2
  go_ret
  exact ⟨ret_bool HB.out, rfl⟩
set_option maxRecDepth 100000 in
theorem hold_no (w : World) (mb x : Nat) (S : List Nat) (h : TkAt w mb S) (hx : x ≤ 8192) (hm : x ∈ S) :
    Calls Try.prog 67 #[.map (some mb), .int .i64 x] w fun e w' => e = .returned (.bool false) ∧ w' = w := by
  have hc := has_any w mb x S h hx
  rw [show decide (x ∈ S) = true from decide_eq_true hm] at hc
  have HC := Lib.hid hc
  clear hc hm h
  go_enter Try.func67, Try.ntmps67
  go_wp2_with (go_at_call 69; refine HC.out.mono ?_; rintro e w1 ⟨rfl, rfl⟩)
  go_ret
  exact ⟨rfl, rfl⟩
set_option maxRecDepth 100000 in
theorem hold_yes (w : World) (mb x : Nat) (S : List Nat) (h : TkAt w mb S) (hx : x ≤ 8192) (hm : x ∉ S) (hS : S.length < 1000000) :
    Calls Try.prog 67 #[.map (some mb), .int .i64 x] w fun e w' => e = .returned (.bool true) ∧ TkAt w' mb (S ++ [x]) ∧ Fr (fun b => b = mb) w w' := by
  have hc := has_any w mb x S h hx
  rw [show decide (x ∈ S) = false from decide_eq_false hm] at hc
  have HC := Lib.hid hc
  obtain ⟨k, hk⟩ : ∃ k, k = x / 64 := ⟨_, rfl⟩
  obtain ⟨i, hi⟩ : ∃ i, i = x % 64 := ⟨_, rfl⟩
  have hi64 : i < 64 := by omega
  have hd : TkAt w.drew mb S := h.keep (Fr.refl (fun _ => False) w).drew id
  obtain ⟨n, hn, hlk⟩ := hd.look k (by omega)
  obtain ⟨hw2, hbs⟩ := bit_set n i hn.1 hi64
  obtain ⟨y, hy⟩ : ∃ y, y = 2 ^ i := ⟨_, rfl⟩
  obtain ⟨m, hm9⟩ : ∃ m, m = n ||| 2 ^ i := ⟨_, rfl⟩
  rw [← hy] at hw2
  rw [← hm9, ← hy] at hbs
  obtain ⟨w', hr, hT, hf⟩ := hd.put x k i n (by omega) hi64 hn (by omega) hS
  rw [← hm9] at hr
  have hq : (x : Int) / 64 = (k : Nat) := by omega
  have hr6 : (x : Int).tmod 64 = (i : Nat) := by rw [Int.tmod_eq_emod_of_nonneg (by omega)]; omega
  have hi0 : (0 : Int) ≤ (i : Int) := by omega
  have hti : (i : Int).toNat = i := by omega
  have hwk : IntKind.i64.wrap (k : Int) = (k : Int) := wrap_in5 (by omega) (by omega)
  have hwi : IntKind.i64.wrap (i : Int) = (i : Int) := wrap_in5 (by omega) (by omega)
  have HR := Lib.hid hr
  have HP := Lib.hid (And.intro hT (Fr.refl (fun b => b = mb) w).drew)
  have HF := Lib.hid hf
  clear hk hi hc hm h hn hr hT hf hd hS hm9 hy
  go_enter Try.func67, Try.ntmps67
  go_wp2_with (go_at_call 69; refine HC.out.mono ?_; rintro e w1 ⟨rfl, rfl⟩)
  go_still_tail 8, (by kernel_rfl)
  go_wp2_with (refine wpList_tk _ w' rfl (.tmp 8) (.tmp 10) (.tmp 15) rfl _ _ _ rfl rfl rfl HR.out ?_)
  go_ret
  exact ⟨rfl, HP.out.1, HP.out.2.trans HF.out (fun _ h => .inl h)⟩
end Go.Proofs.Ytcbbcihfooaggaa
