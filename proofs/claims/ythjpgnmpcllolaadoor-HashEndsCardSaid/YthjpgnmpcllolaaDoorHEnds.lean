/- HashEnds' walk. Printed by gen_hends.py (wip/gen). -/
import Derived.Test.YthjpgnmpcllolaaDoorEndsLib
namespace Go.Proofs.YthjpgnmpcllolaaDoor
open Go.RowKit Go.ChangeShapes
set_option linter.unusedVariables false

def l56 : List UInt8 := [97, 98, 99, 100, 98, 99, 100, 101, 99, 100, 101, 102, 100, 101, 102, 103, 101, 102, 103, 104, 102, 103, 104, 105, 103, 104, 105, 106, 104, 105, 106, 107, 105, 106, 107, 108, 106, 107, 108, 109, 107, 108, 109, 110, 108, 109, 110, 111, 109, 110, 111, 112, 110, 111, 112, 113]
theorem flat_one (L : List UInt8) : ([L] : List (List UInt8)).flatten = L := by simp
theorem Act.eval_const (a : Act) (v : Value) : a.eval (.const v) = v := rfl
theorem hsums_enter (args : Array Value) (w : World) : (callFunc 3 args).run Tryd.prog w = .ok (.enter 3 args) w := by rfl
theorem hfolds_enter (args : Array Value) (w : World) : (callFunc 4 args).run Tryd.prog w = .ok (.enter 4 args) w := by rfl
theorem op_not {P : Program} {w : World} {o : Oper} {a : Act} {t : TypeId} {x : Operand} {b : Bool} (ho : o.op = .unOp .not t x) (hx : a.eval x = .bool b) : (execOp a.eval o).run P w = .ok (.value (.bool (!b))) w := by
  unfold execOp
  rw [ho]
  simp only [hx]
  simp [go_sem, Op.unary]
theorem op_conv {P : Program} {w : World} {o : Oper} {a : Act} {s t : TypeId} {x : Operand} {vx v : Value} (ho : o.op = .convert s t x) (hx : a.eval x = vx) (hr : (convert s t vx).run P w = .ok v w) : (execOp a.eval o).run P w = .ok (.value v) w := by
  unfold execOp
  rw [ho]
  simp only [hx, Sem.run_bind, hr, Result.andThen_ok]
  rfl
theorem run_rem5 (w : World) (n r : Nat) (h : n % 5 = r) : (binOp .rem 3 (.int .i64 (n : Int)) (.int .i64 5)).run Tryd.prog w = .ok (.int .i64 (r : Int)) w := by
  have e : (n : Int).tmod 5 = (r : Int) := by rw [Int.tmod_eq_emod_of_nonneg (by omega)]; omega
  simp [binOp, go_sem, e]
  try omega
def HeR (ao : Option Addr) (l cap k r : Nat) (X D : List UInt8) (i : Nat) (v : Value) (W : World) : Prop :=
  match i with
  | 0 => v = .slice ao l cap
  | 1 => v = .int .i64 (k : Int)
  | 2 => v = .slice ao k cap
  | 3 => v = .slice ao l cap
  | 4 => v = .int .i64 (k : Int)
  | 5 => v = .slice (cutLow ao k cap) (l - k) (cap - k)
  | 6 => ∃ g, v = .slice (some ⟨g, 0, none⟩) 3 3 ∧ RowsIn (fun _ => True) W v [X.take k, [], X.drop k]
  | 7 => v = .bool true
  | 8 => v = .bool false
  | 9 => v = .bool false
  | 10 => v = .slice ao l cap
  | 11 => ∃ g, v = .slice (some ⟨g, 0, none⟩) 1 1 ∧ RowsIn (fun _ => True) W v [X]
  | 12 => v = .agg (D.map bv).toArray
  | 13 => v = .slice ao l cap
  | 14 => v = .int .i64 (l : Int)
  | 15 => v = .int .i64 (r : Int)
  | 16 => v = .slice ao r cap
  | 17 => v = .string ⟨(X.take r).toArray⟩
  | 18 => v = .slice ao l cap
  | 19 => v = .slice ao l cap
  | 20 => v = .int .i64 (k : Int)
  | 21 => v = .slice ao k cap
  | 22 => ∃ g, v = .slice (some ⟨g, 0, none⟩) 2 2 ∧ RowsIn (fun _ => True) W v [X, X.take k]
  | 23 => v = .bool true
  | 24 => v = .bool false
  | 25 => v = .bool false
  | _ => True
theorem HeR.ext (ao : Option Addr) (l cap k r : Nat) (X D : List UInt8) : ∀ (j : Nat) (u : Value) (W W' : World), Fr (fun _ => False) W W' → HeR ao l cap k r X D j u W → HeR ao l cap k r X D j u W'
  | 0, u, W, W', hf, h => h
  | 1, u, W, W', hf, h => h
  | 2, u, W, W', hf, h => h
  | 3, u, W, W', hf, h => h
  | 4, u, W, W', hf, h => h
  | 5, u, W, W', hf, h => h
  | 6, u, W, W', hf, h => (let ⟨g, h1, h2⟩ := h; ⟨g, h1, h2.keep hf (fun _ _ _ h => h)⟩)
  | 7, u, W, W', hf, h => h
  | 8, u, W, W', hf, h => h
  | 9, u, W, W', hf, h => h
  | 10, u, W, W', hf, h => h
  | 11, u, W, W', hf, h => (let ⟨g, h1, h2⟩ := h; ⟨g, h1, h2.keep hf (fun _ _ _ h => h)⟩)
  | 12, u, W, W', hf, h => h
  | 13, u, W, W', hf, h => h
  | 14, u, W, W', hf, h => h
  | 15, u, W, W', hf, h => h
  | 16, u, W, W', hf, h => h
  | 17, u, W, W', hf, h => h
  | 18, u, W, W', hf, h => h
  | 19, u, W, W', hf, h => h
  | 20, u, W, W', hf, h => h
  | 21, u, W, W', hf, h => h
  | 22, u, W, W', hf, h => (let ⟨g, h1, h2⟩ := h; ⟨g, h1, h2.keep hf (fun _ _ _ h => h)⟩)
  | 23, u, W, W', hf, h => h
  | 24, u, W, W', hf, h => h
  | 25, u, W, W', hf, h => h
  | _ + 26, u, W, W', hf, h => trivial

set_option maxRecDepth 100000 in
set_option maxHeartbeats 2000000 in
theorem hends_any (w : World) (hL : Laid w) :
    Calls Tryd.prog 5 #[] w fun e w' => e = .returned (.bool true) ∧ Fr (fun _ => False) w w' := by
  have HL := Lib.hid hL
  clear hL
  go_enter Tryd.func5, Tryd.ntmps5
  go_wp2_with fail
  go_loopw [1, 2] (fun bw nv wr => ∃ n : Nat, n ≤ 140 ∧ nv = .int .i64 n ∧ Hid (∃ L : List UInt8, L.length = n ∧ OwnB (fun k => w.heap.size ≤ k) wr bw L ∧ Fr (fun _ => False) w wr)) (fun _ nv _ => 140 - (intOf nv).toNat)
  case atStart => exact ⟨0, by omega, rfl, Lib.hid ⟨[], rfl, OwnB.nil _ _, Fr.refl _ _⟩⟩
  case round =>
    obtain ⟨l, hl, rfl, hR⟩ := hrel
    by_cases hlt : l < 140
    · obtain ⟨X, hXl, hO, hF⟩ := hR.out
      clear hR
      obtain ⟨ao, cap, hv, hlc, hcm, _⟩ := hO.bytes
      subst hv
      rw [hXl] at hlc hO ⊢
      unfold maxLen at hcm
      have HLN := Lib.hid hXl.symm
      have HF := Lib.hid hF
      have HO := Lib.hid hO
      clear hXl hF hO
      obtain ⟨q, hq⟩ : ∃ q, q = l * l := ⟨_, rfl⟩
      have hq1 : q ≤ 19600 := by rw [hq]; exact Nat.mul_le_mul (show l ≤ 140 by omega) (show l ≤ 140 by omega)
      obtain ⟨k, hk⟩ : ∃ k, k = q % (l + 1) := ⟨_, rfl⟩
      have hkl : k ≤ l := by have := Nat.mod_lt q (show 0 < l + 1 by omega); omega
      have hqi : (l : Int) * (l : Int) = (q : Int) := by rw [hq]; simp
      have hki : (q : Int) % ((l : Int) + 1) = (k : Int) := by rw [hk]; simp
      have hkt : (q : Int).tmod ((l : Int) + 1) = (k : Int) := by rw [Int.tmod_eq_emod_of_nonneg (by omega)]; exact hki
      clear hq hk
      obtain ⟨r, hr⟩ : ∃ r, r = l % 5 := ⟨_, rfl⟩
      have hrl : r ≤ l := by have := Nat.mod_le l 5; omega
      have HR5 := Lib.hid hr.symm
      have HLD := Lib.hid (HL.out.keep HF.out (fun _ _ h => h))
      obtain ⟨D, hD⟩ : ∃ D, D = digest X := ⟨_, rfl⟩
      have HDG := Lib.hid hD.symm
      have HDL := Lib.hid (show D.length = 32 by rw [hD]; rfl)
      clear hr hD
      have hX1 : BytesIn (fun _ => True) wr (.slice ao l cap) X := HO.out.bytes.mono (fun _ _ _ => trivial)
      have hX1' : BytesIn (fun _ => True) wr (.slice ao X.length cap) X := by rw [← HLN.out]; exact hX1
      have HX1 : ∀ W, Fr (fun _ => False) wr W → BytesIn (fun _ => True) W (.slice ao l cap) X := fun W hf => hX1.keep hf (fun _ _ _ h => h)
      have HSK : ∀ W, Fr (fun _ => False) wr W → BytesIn (fun _ => True) W (.slice ao k cap) (X.take k) := fun W hf => (hX1'.take k (by rw [← HLN.out]; exact hkl)).keep hf (fun _ _ _ h => h)
      have HSR : ∀ W, Fr (fun _ => False) wr W → BytesIn (fun _ => True) W (.slice ao r cap) (X.take r) := fun W hf => (hX1'.take r (by rw [← HLN.out]; exact hrl)).keep hf (fun _ _ _ h => h)
      have HSD : ∀ W, Fr (fun _ => False) wr W → BytesIn (fun _ => True) W (.slice (cutLow ao k cap) (l - k) (cap - k)) (X.drop k) := fun W hf => (hX1.cutLow k (by rw [← HLN.out]; exact hkl)).keep hf (fun _ _ _ h => h)
      have HNL : ∀ W, Fr (fun _ => False) wr W → BytesIn (fun _ => True) W (.slice none 0 0) [] := fun W _ => BytesIn.nil _ _
      have HB_HX1 : X.length ≤ 140737488351232 := by rw [← HLN.out]; omega
      have HB_HSK : (X.take k).length ≤ 140737488351232 := by rw [List.length_take]; omega
      have HB_HSD : (X.drop k).length ≤ 140737488351232 := by rw [List.length_drop]; omega
      have HB_HNL : ([] : List UInt8).length ≤ 140737488351232 := by simp
      have HFL1 := Lib.hid (show [X].flatten = X by simp)
      have HXB := Lib.hid (show X.length ≤ 100000000000 by rw [← HLN.out]; omega)
      have HTG := Lib.hid (show (⟨(X.take r).toArray⟩ : ByteArray).size ≤ 140737488351232 by show (X.take r).toArray.size ≤ _; simp; omega)
      clear hX1 hX1'
      go_wp2_with fail
      refine wp_region_inv 26 (by kernel_rfl) (by kernel_rfl) (fun W => Fr (fun _ => False) wr W) (HeR ao l cap k r X D) (fun _ _ _ _ => True) (Fr (fun _ => False)) (HeR.ext ao l cap k r X D) (Fr.refl _ _).drew ?_ ?_
      · intro i hi o ho
        replace hi : i < 26 := hi
        obtain rfl | rfl | rfl | rfl | rfl | rfl | rfl | rfl | rfl | rfl | rfl | rfl | rfl | rfl | rfl | rfl | rfl | rfl | rfl | rfl | rfl | rfl | rfl | rfl | rfl | rfl : i = 0 ∨ i = 1 ∨ i = 2 ∨ i = 3 ∨ i = 4 ∨ i = 5 ∨ i = 6 ∨ i = 7 ∨ i = 8 ∨ i = 9 ∨ i = 10 ∨ i = 11 ∨ i = 12 ∨ i = 13 ∨ i = 14 ∨ i = 15 ∨ i = 16 ∨ i = 17 ∨ i = 18 ∨ i = 19 ∨ i = 20 ∨ i = 21 ∨ i = 22 ∨ i = 23 ∨ i = 24 ∨ i = 25 := by omega
        · simp only [List.getElem?_cons_zero, Option.some.injEq] at ho
          subst ho
          intro a W vs hB hS hE hU
          refine wpG_plain rfl ?_
          have v1 : a.eval (.tmp 1) = .slice ao l cap := (hU 1 (by kernel_rfl)).trans rfl
          clear hE hU
          exact wp_value_inv (w' := W) (.slice ao l cap) (op_move rfl v1) ⟨_, rfl, hB, Fr.refl _ _, rfl, fun _ _ _ _ _ => trivial⟩
        · simp only [List.getElem?_cons_zero, List.getElem?_cons_succ, Option.some.injEq] at ho
          subst ho
          intro a W vs hB hS hE hU
          refine wpG_plain rfl ?_
          have v3 : a.eval (.tmp 3) = .int .i64 (k : Int) := (hU 3 (by kernel_rfl)).trans rfl
          clear hE hU
          exact wp_value_inv (w' := W) (.int .i64 (k : Int)) (op_move rfl v3) ⟨_, rfl, hB, Fr.refl _ _, rfl, fun _ _ _ _ _ => trivial⟩
        · simp only [List.getElem?_cons_zero, List.getElem?_cons_succ, Option.some.injEq] at ho
          subst ho
          intro a W vs hB hS hE hU
          refine wpG_plain rfl ?_
          obtain ⟨r0, e17⟩ := hE 0 17 (by kernel_rfl) (by kernel_rfl)
          have v17 : a.eval (.tmp 17) = .slice ao l cap := e17.trans r0
          obtain ⟨r1, e18⟩ := hE 1 18 (by kernel_rfl) (by kernel_rfl)
          have v18 : a.eval (.tmp 18) = .int .i64 (k : Int) := e18.trans r1
          clear hE hU
          exact wp_value_inv (w' := W) (.slice ao k cap) (op_slice_hi rfl v17 v18 (run_hi W ao l cap k (by omega))) ⟨_, rfl, hB, Fr.refl _ _, rfl, fun _ _ _ _ _ => trivial⟩
        · simp only [List.getElem?_cons_zero, List.getElem?_cons_succ, Option.some.injEq] at ho
          subst ho
          intro a W vs hB hS hE hU
          refine wpG_plain rfl ?_
          have v1 : a.eval (.tmp 1) = .slice ao l cap := (hU 1 (by kernel_rfl)).trans rfl
          clear hE hU
          exact wp_value_inv (w' := W) (.slice ao l cap) (op_move rfl v1) ⟨_, rfl, hB, Fr.refl _ _, rfl, fun _ _ _ _ _ => trivial⟩
        · simp only [List.getElem?_cons_zero, List.getElem?_cons_succ, Option.some.injEq] at ho
          subst ho
          intro a W vs hB hS hE hU
          refine wpG_plain rfl ?_
          have v3 : a.eval (.tmp 3) = .int .i64 (k : Int) := (hU 3 (by kernel_rfl)).trans rfl
          clear hE hU
          exact wp_value_inv (w' := W) (.int .i64 (k : Int)) (op_move rfl v3) ⟨_, rfl, hB, Fr.refl _ _, rfl, fun _ _ _ _ _ => trivial⟩
        · simp only [List.getElem?_cons_zero, List.getElem?_cons_succ, Option.some.injEq] at ho
          subst ho
          intro a W vs hB hS hE hU
          refine wpG_plain rfl ?_
          obtain ⟨r3, e20⟩ := hE 3 20 (by kernel_rfl) (by kernel_rfl)
          have v20 : a.eval (.tmp 20) = .slice ao l cap := e20.trans r3
          obtain ⟨r4, e21⟩ := hE 4 21 (by kernel_rfl) (by kernel_rfl)
          have v21 : a.eval (.tmp 21) = .int .i64 (k : Int) := e21.trans r4
          clear hE hU
          exact wp_value_inv (w' := W) (.slice (cutLow ao k cap) (l - k) (cap - k)) (op_slice_lo rfl v20 v21 (run_lo W ao l cap k (by omega))) ⟨_, rfl, hB, Fr.refl _ _, rfl, fun _ _ _ _ _ => trivial⟩
        · simp only [List.getElem?_cons_zero, List.getElem?_cons_succ, Option.some.injEq] at ho
          subst ho
          intro a W vs hB hS hE hU
          refine wpG_plain rfl ?_
          obtain ⟨r2, e19⟩ := hE 2 19 (by kernel_rfl) (by kernel_rfl)
          have v19 : a.eval (.tmp 19) = .slice ao k cap := e19.trans r2
          obtain ⟨r5, e22⟩ := hE 5 22 (by kernel_rfl) (by kernel_rfl)
          have v22 : a.eval (.tmp 22) = .slice (cutLow ao k cap) (l - k) (cap - k) := e22.trans r5
          clear hE hU
          refine wp_value_inv (w' := W.alloc (.cells #[.slice ao k cap, .slice none 0 0, .slice (cutLow ao k cap) (l - k) (cap - k)] 38)) (.slice (some ⟨W.heap.size, 0, none⟩) 3 3) (op_rows rfl (by simp only [List.map_toArray, List.map_cons, List.map_nil, Act.eval_const, v19, v22]) (run_rows3 W _ _ _ _ _ _ _ _ _)) ?_
          exact ⟨_, rfl, hB.alloc _, (Fr.refl _ W).alloc _, ⟨W.heap.size, rfl, RowsIn.three trivial (HSK W hB) (HNL W hB) (HSD W hB) HB_HSK HB_HNL HB_HSD⟩, fun _ _ _ _ _ => trivial⟩
        · simp only [List.getElem?_cons_zero, List.getElem?_cons_succ, Option.some.injEq] at ho
          subst ho
          intro a W vs hB hS hE hU
          refine wpG_plain rfl ?_
          obtain ⟨⟨g6, rg6, hrow6⟩, e23⟩ := hE 6 23 (by kernel_rfl) (by kernel_rfl)
          have v23 : a.eval (.tmp 23) = .slice (some ⟨g6, 0, none⟩) 3 3 := e23.trans rg6
          clear hE hU
          rw [rg6] at hrow6
          refine wp_call_inv 3 #[.tmp 23] #[22] rfl #[.slice (some ⟨g6, 0, none⟩) 3 3] (by simp only [List.map_toArray, List.map_cons, List.map_nil, v23]) (hsums_enter _) (Post := fun v W' => v = .bool true ∧ Fr (fun _ => False) W W') ((hsums_any _ _ W (HLD.out.keep hB (fun _ _ h => h)) (hrow6.mono (fun j hj _ => hj))).mono fun e w' h => ⟨_, h.1, rfl, h.2⟩) ?_
          rintro v W' ⟨rfl, hf⟩
          exact ⟨_, rfl, hB.trans hf (fun _ h => h.elim), hf, rfl, fun _ _ _ _ _ => trivial⟩
        · simp only [List.getElem?_cons_zero, List.getElem?_cons_succ, Option.some.injEq] at ho
          subst ho
          intro a W vs hB hS hE hU
          refine wpG_plain rfl ?_
          obtain ⟨r7, e24⟩ := hE 7 24 (by kernel_rfl) (by kernel_rfl)
          have v24 : a.eval (.tmp 24) = .bool true := e24.trans r7
          clear hE hU
          exact wp_value_inv (w' := W) (.bool false) (op_not rfl v24) ⟨_, rfl, hB, Fr.refl _ _, rfl, fun _ _ _ _ _ => trivial⟩
        · simp only [List.getElem?_cons_zero, List.getElem?_cons_succ, Option.some.injEq] at ho
          subst ho
          intro a W vs hB hS hE hU
          refine wpG_plain rfl ?_
          obtain ⟨r8, e25⟩ := hE 8 25 (by kernel_rfl) (by kernel_rfl)
          have v25 : a.eval (.tmp 25) = .bool false := e25.trans r8
          clear hE hU
          exact wp_value_inv (w' := W) (.bool false) (op_move rfl v25) ⟨_, rfl, hB, Fr.refl _ _, rfl, fun _ _ _ _ _ => trivial⟩
        · simp only [List.getElem?_cons_zero, List.getElem?_cons_succ, Option.some.injEq] at ho
          subst ho
          intro a W vs hB hS hE hU
          obtain ⟨r9, e26⟩ := hE 9 26 (by kernel_rfl) (by kernel_rfl)
          have v26 : a.eval (.tmp 26) = .bool false := e26.trans r9
          refine wpG_yes 9 false 26 rfl (by kernel_rfl) (by rw [hS]; simp) v26 ?_
          have v1 : a.eval (.tmp 1) = .slice ao l cap := (hU 1 (by kernel_rfl)).trans rfl
          clear hE hU
          exact wp_value_inv (w' := W) (.slice ao l cap) (op_move rfl v1) ⟨_, rfl, hB, Fr.refl _ _, rfl, fun _ _ _ _ _ => trivial⟩
        · simp only [List.getElem?_cons_zero, List.getElem?_cons_succ, Option.some.injEq] at ho
          subst ho
          intro a W vs hB hS hE hU
          obtain ⟨r9, e26⟩ := hE 9 26 (by kernel_rfl) (by kernel_rfl)
          have v26 : a.eval (.tmp 26) = .bool false := e26.trans r9
          refine wpG_yes 9 false 26 rfl (by kernel_rfl) (by rw [hS]; simp) v26 ?_
          obtain ⟨r10, e27⟩ := hE 10 27 (by kernel_rfl) (by kernel_rfl)
          have v27 : a.eval (.tmp 27) = .slice ao l cap := e27.trans r10
          clear hE hU
          refine wp_value_inv (w' := W.alloc (.cells #[.slice ao l cap] 38)) (.slice (some ⟨W.heap.size, 0, none⟩) 1 1) (op_rows rfl (by simp only [List.map_toArray, List.map_cons, List.map_nil, v27]) (run_rows1 W _ _ _)) ?_
          exact ⟨_, rfl, hB.alloc _, (Fr.refl _ W).alloc _, ⟨W.heap.size, rfl, RowsIn.one trivial (HX1 W hB) HB_HX1⟩, fun _ _ _ _ _ => trivial⟩
        · simp only [List.getElem?_cons_zero, List.getElem?_cons_succ, Option.some.injEq] at ho
          subst ho
          intro a W vs hB hS hE hU
          obtain ⟨r9, e26⟩ := hE 9 26 (by kernel_rfl) (by kernel_rfl)
          have v26 : a.eval (.tmp 26) = .bool false := e26.trans r9
          refine wpG_yes 9 false 26 rfl (by kernel_rfl) (by rw [hS]; simp) v26 ?_
          obtain ⟨⟨g11, rg11, hrow11⟩, e28⟩ := hE 11 28 (by kernel_rfl) (by kernel_rfl)
          have v28 : a.eval (.tmp 28) = .slice (some ⟨g11, 0, none⟩) 1 1 := e28.trans rg11
          clear hE hU
          rw [rg11] at hrow11
          refine wp_call_inv 11 #[.tmp 28] #[22] rfl #[.slice (some ⟨g11, 0, none⟩) 1 1] (by simp only [List.map_toArray, List.map_cons, List.map_nil, v28]) (sum_enter _) (Post := fun v W' => v = .agg (D.map bv).toArray ∧ Fr (fun _ => False) W W') ((sum_any (F := fun j => j < W.heap.size) W (HLD.out.keep hB (fun _ _ h => h)) (hrow11.mono (fun j hj _ => hj)) (fun j h => h) (by rw [HFL1.out]; exact HXB.out)).mono fun e w' h => ⟨_, h.1, by rw [HFL1.out, HDG.out], h.2⟩) ?_
          rintro v W' ⟨rfl, hf⟩
          exact ⟨_, rfl, hB.trans hf (fun _ h => h.elim), hf, rfl, fun _ _ _ _ _ => trivial⟩
        · simp only [List.getElem?_cons_zero, List.getElem?_cons_succ, Option.some.injEq] at ho
          subst ho
          intro a W vs hB hS hE hU
          obtain ⟨r9, e26⟩ := hE 9 26 (by kernel_rfl) (by kernel_rfl)
          have v26 : a.eval (.tmp 26) = .bool false := e26.trans r9
          refine wpG_yes 9 false 26 rfl (by kernel_rfl) (by rw [hS]; simp) v26 ?_
          have v1 : a.eval (.tmp 1) = .slice ao l cap := (hU 1 (by kernel_rfl)).trans rfl
          clear hE hU
          exact wp_value_inv (w' := W) (.slice ao l cap) (op_move rfl v1) ⟨_, rfl, hB, Fr.refl _ _, rfl, fun _ _ _ _ _ => trivial⟩
        · simp only [List.getElem?_cons_zero, List.getElem?_cons_succ, Option.some.injEq] at ho
          subst ho
          intro a W vs hB hS hE hU
          obtain ⟨r9, e26⟩ := hE 9 26 (by kernel_rfl) (by kernel_rfl)
          have v26 : a.eval (.tmp 26) = .bool false := e26.trans r9
          refine wpG_yes 9 false 26 rfl (by kernel_rfl) (by rw [hS]; simp) v26 ?_
          have v2 : a.eval (.tmp 2) = .int .i64 (l : Int) := (hU 2 (by kernel_rfl)).trans rfl
          clear hE hU
          exact wp_value_inv (w' := W) (.int .i64 (l : Int)) (op_move rfl v2) ⟨_, rfl, hB, Fr.refl _ _, rfl, fun _ _ _ _ _ => trivial⟩
        · simp only [List.getElem?_cons_zero, List.getElem?_cons_succ, Option.some.injEq] at ho
          subst ho
          intro a W vs hB hS hE hU
          obtain ⟨r9, e26⟩ := hE 9 26 (by kernel_rfl) (by kernel_rfl)
          have v26 : a.eval (.tmp 26) = .bool false := e26.trans r9
          refine wpG_yes 9 false 26 rfl (by kernel_rfl) (by rw [hS]; simp) v26 ?_
          obtain ⟨r14, e31⟩ := hE 14 31 (by kernel_rfl) (by kernel_rfl)
          have v31 : a.eval (.tmp 31) = .int .i64 (l : Int) := e31.trans r14
          clear hE hU
          exact wp_value_inv (w' := W) (.int .i64 (r : Int)) (op_bin rfl v31 (Act.eval_const _ _) rfl (run_rem5 W l r HR5.out)) ⟨_, rfl, hB, Fr.refl _ _, rfl, fun _ _ _ _ _ => trivial⟩
        · simp only [List.getElem?_cons_zero, List.getElem?_cons_succ, Option.some.injEq] at ho
          subst ho
          intro a W vs hB hS hE hU
          obtain ⟨r9, e26⟩ := hE 9 26 (by kernel_rfl) (by kernel_rfl)
          have v26 : a.eval (.tmp 26) = .bool false := e26.trans r9
          refine wpG_yes 9 false 26 rfl (by kernel_rfl) (by rw [hS]; simp) v26 ?_
          obtain ⟨r13, e30⟩ := hE 13 30 (by kernel_rfl) (by kernel_rfl)
          have v30 : a.eval (.tmp 30) = .slice ao l cap := e30.trans r13
          obtain ⟨r15, e32⟩ := hE 15 32 (by kernel_rfl) (by kernel_rfl)
          have v32 : a.eval (.tmp 32) = .int .i64 (r : Int) := e32.trans r15
          clear hE hU
          exact wp_value_inv (w' := W) (.slice ao r cap) (op_slice_hi rfl v30 v32 (run_hi W ao l cap r (by omega))) ⟨_, rfl, hB, Fr.refl _ _, rfl, fun _ _ _ _ _ => trivial⟩
        · simp only [List.getElem?_cons_zero, List.getElem?_cons_succ, Option.some.injEq] at ho
          subst ho
          intro a W vs hB hS hE hU
          obtain ⟨r9, e26⟩ := hE 9 26 (by kernel_rfl) (by kernel_rfl)
          have v26 : a.eval (.tmp 26) = .bool false := e26.trans r9
          refine wpG_yes 9 false 26 rfl (by kernel_rfl) (by rw [hS]; simp) v26 ?_
          obtain ⟨r16, e33⟩ := hE 16 33 (by kernel_rfl) (by kernel_rfl)
          have v33 : a.eval (.tmp 33) = .slice ao r cap := e33.trans r16
          clear hE hU
          exact wp_value_inv (w' := W) (.string ⟨(X.take r).toArray⟩) (op_conv rfl v33 (run_bytes_str W _ _ (HSR W hB))) ⟨_, rfl, hB, Fr.refl _ _, rfl, fun _ _ _ _ _ => trivial⟩
        · simp only [List.getElem?_cons_zero, List.getElem?_cons_succ, Option.some.injEq] at ho
          subst ho
          intro a W vs hB hS hE hU
          obtain ⟨r9, e26⟩ := hE 9 26 (by kernel_rfl) (by kernel_rfl)
          have v26 : a.eval (.tmp 26) = .bool false := e26.trans r9
          refine wpG_yes 9 false 26 rfl (by kernel_rfl) (by rw [hS]; simp) v26 ?_
          have v1 : a.eval (.tmp 1) = .slice ao l cap := (hU 1 (by kernel_rfl)).trans rfl
          clear hE hU
          exact wp_value_inv (w' := W) (.slice ao l cap) (op_move rfl v1) ⟨_, rfl, hB, Fr.refl _ _, rfl, fun _ _ _ _ _ => trivial⟩
        · simp only [List.getElem?_cons_zero, List.getElem?_cons_succ, Option.some.injEq] at ho
          subst ho
          intro a W vs hB hS hE hU
          obtain ⟨r9, e26⟩ := hE 9 26 (by kernel_rfl) (by kernel_rfl)
          have v26 : a.eval (.tmp 26) = .bool false := e26.trans r9
          refine wpG_yes 9 false 26 rfl (by kernel_rfl) (by rw [hS]; simp) v26 ?_
          have v1 : a.eval (.tmp 1) = .slice ao l cap := (hU 1 (by kernel_rfl)).trans rfl
          clear hE hU
          exact wp_value_inv (w' := W) (.slice ao l cap) (op_move rfl v1) ⟨_, rfl, hB, Fr.refl _ _, rfl, fun _ _ _ _ _ => trivial⟩
        · simp only [List.getElem?_cons_zero, List.getElem?_cons_succ, Option.some.injEq] at ho
          subst ho
          intro a W vs hB hS hE hU
          obtain ⟨r9, e26⟩ := hE 9 26 (by kernel_rfl) (by kernel_rfl)
          have v26 : a.eval (.tmp 26) = .bool false := e26.trans r9
          refine wpG_yes 9 false 26 rfl (by kernel_rfl) (by rw [hS]; simp) v26 ?_
          have v3 : a.eval (.tmp 3) = .int .i64 (k : Int) := (hU 3 (by kernel_rfl)).trans rfl
          clear hE hU
          exact wp_value_inv (w' := W) (.int .i64 (k : Int)) (op_move rfl v3) ⟨_, rfl, hB, Fr.refl _ _, rfl, fun _ _ _ _ _ => trivial⟩
        · simp only [List.getElem?_cons_zero, List.getElem?_cons_succ, Option.some.injEq] at ho
          subst ho
          intro a W vs hB hS hE hU
          obtain ⟨r9, e26⟩ := hE 9 26 (by kernel_rfl) (by kernel_rfl)
          have v26 : a.eval (.tmp 26) = .bool false := e26.trans r9
          refine wpG_yes 9 false 26 rfl (by kernel_rfl) (by rw [hS]; simp) v26 ?_
          obtain ⟨r19, e36⟩ := hE 19 36 (by kernel_rfl) (by kernel_rfl)
          have v36 : a.eval (.tmp 36) = .slice ao l cap := e36.trans r19
          obtain ⟨r20, e37⟩ := hE 20 37 (by kernel_rfl) (by kernel_rfl)
          have v37 : a.eval (.tmp 37) = .int .i64 (k : Int) := e37.trans r20
          clear hE hU
          exact wp_value_inv (w' := W) (.slice ao k cap) (op_slice_hi rfl v36 v37 (run_hi W ao l cap k (by omega))) ⟨_, rfl, hB, Fr.refl _ _, rfl, fun _ _ _ _ _ => trivial⟩
        · simp only [List.getElem?_cons_zero, List.getElem?_cons_succ, Option.some.injEq] at ho
          subst ho
          intro a W vs hB hS hE hU
          obtain ⟨r9, e26⟩ := hE 9 26 (by kernel_rfl) (by kernel_rfl)
          have v26 : a.eval (.tmp 26) = .bool false := e26.trans r9
          refine wpG_yes 9 false 26 rfl (by kernel_rfl) (by rw [hS]; simp) v26 ?_
          obtain ⟨r18, e35⟩ := hE 18 35 (by kernel_rfl) (by kernel_rfl)
          have v35 : a.eval (.tmp 35) = .slice ao l cap := e35.trans r18
          obtain ⟨r21, e38⟩ := hE 21 38 (by kernel_rfl) (by kernel_rfl)
          have v38 : a.eval (.tmp 38) = .slice ao k cap := e38.trans r21
          clear hE hU
          refine wp_value_inv (w' := W.alloc (.cells #[.slice ao l cap, .slice ao k cap] 38)) (.slice (some ⟨W.heap.size, 0, none⟩) 2 2) (op_rows rfl (by simp only [List.map_toArray, List.map_cons, List.map_nil, v35, v38]) (run_rows2 W _ _ _ _ _ _)) ?_
          exact ⟨_, rfl, hB.alloc _, (Fr.refl _ W).alloc _, ⟨W.heap.size, rfl, RowsIn.two trivial (HX1 W hB) (HSK W hB) HB_HX1 HB_HSK⟩, fun _ _ _ _ _ => trivial⟩
        · simp only [List.getElem?_cons_zero, List.getElem?_cons_succ, Option.some.injEq] at ho
          subst ho
          intro a W vs hB hS hE hU
          obtain ⟨r9, e26⟩ := hE 9 26 (by kernel_rfl) (by kernel_rfl)
          have v26 : a.eval (.tmp 26) = .bool false := e26.trans r9
          refine wpG_yes 9 false 26 rfl (by kernel_rfl) (by rw [hS]; simp) v26 ?_
          obtain ⟨r12, e29⟩ := hE 12 29 (by kernel_rfl) (by kernel_rfl)
          have v29 : a.eval (.tmp 29) = .agg (D.map bv).toArray := e29.trans r12
          obtain ⟨r17, e34⟩ := hE 17 34 (by kernel_rfl) (by kernel_rfl)
          have v34 : a.eval (.tmp 34) = .string ⟨(X.take r).toArray⟩ := e34.trans r17
          obtain ⟨⟨g22, rg22, hrow22⟩, e39⟩ := hE 22 39 (by kernel_rfl) (by kernel_rfl)
          have v39 : a.eval (.tmp 39) = .slice (some ⟨g22, 0, none⟩) 2 2 := e39.trans rg22
          clear hE hU
          rw [rg22] at hrow22
          refine wp_call_inv 4 #[.tmp 29, .tmp 34, .tmp 39] #[27, 9, 22] rfl #[.agg (D.map bv).toArray, .string ⟨(X.take r).toArray⟩, .slice (some ⟨g22, 0, none⟩) 2 2] (by simp only [List.map_toArray, List.map_cons, List.map_nil, v29, v34, v39]) (hfolds_enter _) (Post := fun v W' => v = .bool true ∧ Fr (fun _ => False) W W') ((hfolds_any D HDL.out ⟨(X.take r).toArray⟩ HTG.out _ _ W (HLD.out.keep hB (fun _ _ h => h)) (hrow22.mono (fun j hj _ => hj)) (by simp)).mono fun e w' h => ⟨_, h.1, rfl, h.2⟩) ?_
          rintro v W' ⟨rfl, hf⟩
          exact ⟨_, rfl, hB.trans hf (fun _ h => h.elim), hf, rfl, fun _ _ _ _ _ => trivial⟩
        · simp only [List.getElem?_cons_zero, List.getElem?_cons_succ, Option.some.injEq] at ho
          subst ho
          intro a W vs hB hS hE hU
          obtain ⟨r9, e26⟩ := hE 9 26 (by kernel_rfl) (by kernel_rfl)
          have v26 : a.eval (.tmp 26) = .bool false := e26.trans r9
          refine wpG_yes 9 false 26 rfl (by kernel_rfl) (by rw [hS]; simp) v26 ?_
          obtain ⟨r23, e40⟩ := hE 23 40 (by kernel_rfl) (by kernel_rfl)
          have v40 : a.eval (.tmp 40) = .bool true := e40.trans r23
          clear hE hU
          exact wp_value_inv (w' := W) (.bool false) (op_not rfl v40) ⟨_, rfl, hB, Fr.refl _ _, rfl, fun _ _ _ _ _ => trivial⟩
        · simp only [List.getElem?_cons_zero, List.getElem?_cons_succ, Option.some.injEq] at ho
          subst ho
          intro a W vs hB hS hE hU
          refine wpG_plain rfl ?_
          obtain ⟨r9, e26⟩ := hE 9 26 (by kernel_rfl) (by kernel_rfl)
          have v26 : a.eval (.tmp 26) = .bool false := e26.trans r9
          obtain ⟨r24, e41⟩ := hE 24 41 (by kernel_rfl) (by kernel_rfl)
          have v41 : a.eval (.tmp 41) = .bool false := e41.trans r24
          clear hE hU
          exact wp_value_inv (w' := W) (.bool false) (op_pick rfl v26 (by simp only [Bool.false_eq_true, if_false]; exact v41)) ⟨_, rfl, hB, Fr.refl _ _, rfl, fun _ _ _ _ _ => trivial⟩

      · intro vs W hB hR hD
        have r25 : vs 25 = .bool false := hR 25 (by decide)
        have r9 : vs 9 = .bool false := hR 9 (by decide)
        clear hR hD HX1 HSK HSR HSD HNL HB_HX1 HB_HSK HB_HSD HB_HNL
        simp only [acts, if_true, dstAt, List.getElem?_cons_zero, List.getElem?_cons_succ, Option.bind_some, Act.put, List.setIfInBounds_toArray, List.set_cons_succ, List.set_cons_zero, List.drop_succ_cons, List.drop_nil]
        have HB1 := Lib.hid hB
        clear hB
        rw [r25, r9]
        clear r25 r9
        obtain ⟨y, hy⟩ : ∃ y : UInt8, y = UInt8.ofNat ((q + l / 2) % 256) := ⟨_, rfl⟩
        have hyi : ((q : Int) + (l : Int) / 2) % 256 = (y.toNat : Int) := by rw [hy, UInt8.toNat_ofNat']; omega
        have HP := Lib.hid ((HO.out.keep HB1.out (fun _ _ _ h => h)).keep' ((Fr.refl (fun _ => False) W).alloc (.cells #[.int .u8 (y.toNat : Int)] 5)) (fun _ _ h => h))
        have HQ := Lib.hid ((HF.out.trans HB1.out (fun _ h => h.elim)).alloc (.cells #[.int .u8 (y.toNat : Int)] 5))
        have HOB := Lib.hid (one_byte W _ y rfl)
        have HLX := Lib.hid (show X.length + [y].length ≤ 140737488355328 by rw [← HLN.out]; simp; omega)
        clear hy
        go_wp2_with (first
          | (at_builtin; refine wpList_append_bytes (F := fun k => w.heap.size ≤ k) (G := fun b => b = W.heap.size) _ rfl (.tmp 43) (.tmp 51) rfl _ _ X [y] rfl rfl HP.out HOB.out HLX.out ?_; intro v5 w5 ho5 hg5 hn5; have HS5 : Hid (OwnB (fun k => w.heap.size ≤ k) w5 v5 (X ++ [y]) ∧ Fr (fun _ => False) w w5) := Lib.hid ⟨ho5.mono (G := fun k => w.heap.size ≤ k) (fun k _ h => h.elim id (fun h => Nat.le_trans HQ.out.size h)), HQ.out.grown hg5 (fun k hk => .inr (HP.out.2 k hk))⟩; clear ho5 hg5 hn5)
          | fail)
        go_roundw
        case rel => exact ⟨l + 1, by omega, by go_num, Lib.hid ⟨X ++ [y], by rw [List.length_append, ← HLN.out]; rfl, HS5.out⟩⟩
        case measure => simp [intOf]; omega
    · have hd : decide ((l : Int) < 140) = false := by rw [decide_eq_false_iff_not]; omega
      have HF := Lib.hid (show Fr (fun _ => False) w wr by obtain ⟨_, _, _, h⟩ := hR.out; exact h)
      clear hR
      go_wp2_with fail
      go_loopw [4] (fun nv wr => ∃ n : Nat, n ≤ 256 ∧ nv = .int .i64 n ∧ Hid (Fr (fun _ => False) w wr)) (fun nv _ => 256 - (intOf nv).toNat)
      case atStart => exact ⟨0, by omega, rfl, HF⟩
      case round =>
        clear HF
        obtain ⟨n, hn, rfl, hF⟩ := hrel
        by_cases hn256 : n < 256
        · obtain ⟨y, rfl⟩ : ∃ y : UInt8, n = y.toNat := ⟨UInt8.ofNat n, by rw [UInt8.toNat_ofNat']; omega⟩
          go_wp2_with fail
          have hy1 : y.toNat < 256 := hn256
          have hb := (one_byte wr _ y rfl).mono (G := fun k => k < wr.heap.size + 2) (fun k hk h => by omega)
          have hrow := RowsIn.one (w := wr.alloc (.cells #[.int .u8 (y.toNat : Int)] 5)) (F := fun k => k < wr.heap.size + 2) (by simp) hb (by simp)
          have h3 := hsums_any _ _ ((wr.alloc (.cells #[.int .u8 (y.toNat : Int)] 5)).alloc (.cells #[.slice (some ⟨wr.heap.size, 0, none⟩) 1 1] 38)) (HL.out.keep ((hF.out.alloc _).alloc _) (fun _ _ h => h)) (hrow.mono (fun k hk _ => hk))
          simp only [World.size_alloc] at h3
          refine h3.mono ?_
          rintro e w3 ⟨rfl, hf3⟩
          have HF3 := Lib.hid (((hF.out.alloc (.cells #[.int .u8 (y.toNat : Int)] 5)).alloc (.cells #[.slice (some ⟨wr.heap.size, 0, none⟩) 1 1] 38)).trans hf3 (fun _ h => h.elim))
          clear hf3 h3 hrow hb hF
          go_wp2_with fail
          go_roundw
          case rel => exact ⟨y.toNat + 1, by omega, by go_num, HF3⟩
          case measure => simp [intOf]; omega
        · have hd2 : decide ((n : Int) < 256) = false := by rw [decide_eq_false_iff_not]; omega
          have HT : ∀ W, Calls Tryd.prog 18 #[.int .i64 100] W fun e w' => e = .returned (.slice (some ⟨W.heap.size, 0, none⟩) 100 100) ∧ BytT w' W.heap.size 5 (List.replicate 100 97) ∧ Fr (fun _ => False) W w' := fun W => letters_any 100 W (by omega)
          have HT100 := Lib.hid HT
          have HT : ∀ W, Calls Tryd.prog 18 #[.int .i64 100000] W fun e w' => e = .returned (.slice (some ⟨W.heap.size, 0, none⟩) 100000 100000) ∧ BytT w' W.heap.size 5 (List.replicate 100000 97) ∧ Fr (fun _ => False) W w' := fun W => letters_any 100000 W (by omega)
          have HTK := Lib.hid HT
          clear HT
          go_wp2_with fail
          go_loopw [5, 6] (fun gv nv wr => ∃ n : Nat, n ≤ 1000 ∧ nv = .int .i64 n ∧ Hid (MadeAt w.heap.size wr gv (List.replicate n (List.replicate 100 97)) ∧ Fr (fun _ => False) w wr)) (fun _ nv _ => 1000 - (intOf nv).toNat)
          case atStart => exact ⟨0, by omega, rfl, Lib.hid ⟨MadeAt.nil _ _, hF.out⟩⟩
          case round =>
            clear hF
            obtain ⟨n_1, hn_1, rfl, hR⟩ := hrel
            by_cases hn1000 : n_1 < 1000
            · obtain ⟨⟨vs, hvl, hvo, hvi⟩, hfr⟩ := hR.out
              rw [List.length_replicate] at hvl hvo
              obtain ⟨av, cv, hv, _, _, hvg⟩ := ownsRow_form hvo
              subst hv
              have hgw : ∀ k, (Value.slice av n_1 cv).ownBlock = some k → w.heap.size ≤ k ∧ k < wr.heap.size := fun k hk => by
                rcases hvo.2 with ⟨e, _⟩ | ⟨g', cap', cur', e, hb', hg', _⟩
                · rw [e] at hk; simp [Value.ownBlock] at hk
                · rw [e] at hk; simp only [Value.ownBlock, Option.some.injEq] at hk; have := lt_of_block hg'; omega
              have hvo' : wr.ownsRow w.heap.size 38 1 (.slice av n_1 cv) vs.length vs := by rw [hvl]; exact hvo
              have HV := Lib.hid (And.intro hvo' (And.intro hfr (And.intro hgw (And.intro (show vs.length = (List.replicate n_1 (List.replicate 100 (97 : UInt8))).length by rw [List.length_replicate]; exact hvl) hvi))))
              have hsz := hfr.size
              have hvs : vs.length ≤ 1000000 := by omega
              have HVL := Lib.hid hvl
              clear hR hvl hvo hvo' hvi hfr hvg hgw
              go_wp2_with (first
                | (go_at_call 18; refine (HT100.out _).mono ?_; rintro e w1 ⟨rfl, hb1, hf1⟩; have HF1 := Lib.hid (hf1.alloc (.cells #[.slice (some ⟨wr.heap.size, 0, none⟩) 100 100] 38)); have HO1 := Lib.hid (ownsRow_keep HV.out.1 HF1.out (fun _ _ h => h)); have HY1 := Lib.hid (show BytesIn (fun k => w.heap.size ≤ k ∧ (Value.slice av n_1 cv).ownBlock ≠ some k) (w1.alloc (.cells #[.slice (some ⟨wr.heap.size, 0, none⟩) 100 100] 38)) (.slice (some ⟨wr.heap.size, 0, none⟩) 100 100) (List.replicate 100 97) from by
                    have h := Byt.bytes (w := w1) (g := wr.heap.size) (L := List.replicate 100 97) hb1 (by rw [List.length_replicate]; decide)
                    rw [List.length_replicate] at h
                    exact (h.mono (fun k hk e => ⟨by omega, fun e2 => by have := (HV.out.2.2.1 k e2).2; omega⟩)).keep (S := fun _ => False) ((Fr.refl _ w1).alloc _) (fun _ _ _ h => h)); have HC1 := Lib.hid (cell_of_one (heap_alloc_new w1 (.cells #[.slice (some ⟨wr.heap.size, 0, none⟩) 100 100] 38))); have hs1 := hf1.size; clear hb1 hf1)
                | (at_builtin; refine wpList_append_val w.heap.size _ rfl (.tmp 67) (.tmp 69) rfl (.slice av n_1 cv) (.slice (some ⟨wr.heap.size, 0, none⟩) 100 100) vs w1.heap.size rfl rfl HO1.out HC1.out rfl hvs (by simp; omega) ?_; intro v5 w5 ho5 hg5 hb5; have HS5 : Hid (MadeAt w.heap.size w5 v5 (List.replicate (n_1 + 1) (List.replicate 100 97)) ∧ Fr (fun _ => False) w w5) := Lib.hid ⟨by rw [List.replicate_succ']; exact MadeAt.snoc HV.out.2.2.2.1 HV.out.2.2.2.2 HF1.out HY1.out ho5 hg5 hb5, (HV.out.2.1.trans HF1.out (fun _ h => h.elim)).grown hg5 (fun k hk => .inr (HV.out.2.2.1 k hk).1)⟩; clear ho5 hg5 hb5)
                | fail)
              go_roundw
              case rel => exact ⟨n_1 + 1, by omega, by go_num, HS5⟩
              case measure => simp [intOf]; omega
            · have hd3 : decide ((n_1 : Int) < 1000) = false := by rw [decide_eq_false_iff_not]; omega
              obtain ⟨q5, hq5⟩ : ∃ q5, q5 = u5 := ⟨_, rfl⟩
              have hR5 := hR.out
              have hn3 : n_1 = 1000 := by omega
              rw [hn3] at hR5
              have H5 := Lib.hid hR5
              clear hR hR5 hn3 hq5
              have kc := fun (w : World) (C : Array Value) (n c : Nat) => Lib.run_convert_bytes_const (P := Tryd.prog) w 38 5 C n c Tryd.underlying38 Tryd.underlying5
              go_wp2_with fail
              have hb3 := (bytes_new wr l56 (56, 57) (by simp [l56, maxLen])).mono (G := fun k => k < wr.heap.size + 2) (fun k hk h => by omega)
              have hrow := RowsIn.one (w := wr.alloc (.cells (l56.map bv).toArray 5 (56, 57))) (F := fun k => k < wr.heap.size + 2) (by simp) hb3 (by simp [l56])
              have h3 := sum_any (F := fun k => k < wr.heap.size + 2) _ (HL.out.keep ((H5.out.2.alloc (.cells (l56.map bv).toArray 5 (56, 57))).alloc (.cells #[.slice (some ⟨wr.heap.size, 0, none⟩) 56 56] 38)) (fun _ _ h => h)) hrow (fun k hk => by simpa using hk) (by simp [l56])
              simp only [World.size_alloc] at h3
              refine h3.mono ?_
              rintro e w3 ⟨rfl, hf3⟩
              have HF3 := Lib.hid (((Fr.refl (fun _ => False) wr).alloc _).alloc _ |>.trans hf3 (fun _ h => h.elim))
              have hfl : ([l56] : List (List UInt8)).flatten = l56 := rfl
              rw [hfl]
              clear hf3 h3 hrow hb3 hfl
              obtain ⟨C3, hC3⟩ : ∃ C, C = ((digest l56).map bv).toArray := ⟨_, rfl⟩
              rw [← hC3]
              obtain ⟨r3, hr3⟩ := head_56
              have HB := Lib.hid (begins_lit w3 _ _ _ _ _ r3 hr3 36 141 106 97 rfl rfl rfl rfl)
              rw [show [97, 98, 99, 100, 98, 99, 100, 101, 99, 100, 101, 102, 100, 101, 102, 103, 101, 102, 103, 104, 102, 103, 104, 105, 103, 104, 105, 106, 104, 105, 106, 107, 105, 106, 107, 108, 106, 107, 108, 109, 107, 108, 109, 110, 108, 109, 110, 111, 109, 110, 111, 112, 110, 111, 112, 113] = l56 from rfl, ← hC3] at HB
              clear hC3 hr3
              have HW3 := Lib.hid (And.intro (H5.out.1.keep HF3.out) (H5.out.2.trans HF3.out (fun _ h => h.elim)))
              have HLK := Lib.hid (show (List.replicate 1000 (List.replicate 100 (97 : UInt8))).flatten = List.replicate 100000 97 by rw [List.flatten_replicate_replicate])
              obtain ⟨D, hD⟩ : ∃ D, D = digest (List.replicate 100000 97) := ⟨_, rfl⟩
              have HDG := Lib.hid hD.symm
              have hDl : D.length = 32 := by rw [hD]; rfl
              obtain ⟨C, hC⟩ : ∃ C, C = (D.map bv).toArray := ⟨_, rfl⟩
              have hgd : Tryd.prog.eqGuardType Tryd.prog.depth 27 = false := by kernel_rfl
              have he := fun w => run_eql_arr w 27 32 D D Tryd.underlying27 hDl hDl
              simp only [beq_self_eq_true, ← hC] at he
              have HC := Lib.hid hC.symm
              clear hD hDl hC H5 HF3 kc
              go_wp2_with (first
                | (go_at_call 19; refine HB.out.mono ?_; rintro e w4 ⟨rfl, hf4⟩; have HW4 := Lib.hid (And.intro (HW3.out.1.keep hf4) (HW3.out.2.trans hf4 (fun _ h => h.elim))); have HS4 := Lib.hid (sum_any (F := fun k => k < w4.heap.size) w4 (HL.out.keep HW4.out.2 (fun _ _ h => h)) (HW4.out.1.rows (fun X h => by rw [List.eq_of_mem_replicate h, List.length_replicate]; decide)) (fun k h => h) (by rw [HLK.out, List.length_replicate]; decide)); rw [HLK.out, HDG.out, HC.out] at HS4; clear hf4)
                | (go_at_call 11; refine HS4.out.mono ?_; rintro e w5 ⟨rfl, hf5⟩; have HF5 := Lib.hid (HW4.out.2.trans hf5 (fun _ h => h.elim)); clear hf5 HS4)
                | (go_at_call 18; refine (HTK.out _).mono ?_; rintro e w6 ⟨rfl, hb6, hf6⟩; have HF6 := Lib.hid (HF5.out.trans hf6 (fun _ h => h.elim)); have HR6 := Lib.hid (show RowsIn (fun k => k < (w6.alloc (.cells #[.slice (some ⟨w5.heap.size, 0, none⟩) 100000 100000] 38)).heap.size) (w6.alloc (.cells #[.slice (some ⟨w5.heap.size, 0, none⟩) 100000 100000] 38)) (.slice (some ⟨w6.heap.size, 0, none⟩) 1 1) [List.replicate 100000 97] from by
                    have h := Byt.bytes (w := w6) (g := w5.heap.size) (L := List.replicate 100000 97) hb6 (by rw [List.length_replicate]; decide)
                    rw [List.length_replicate] at h
                    exact RowsIn.one (by simp) (h.mono (fun k hk e => by simp; omega)) (by rw [List.length_replicate]; decide)); have HS7 := Lib.hid (sum_any _ (HL.out.keep (HF6.out.alloc (.cells #[.slice (some ⟨w5.heap.size, 0, none⟩) 100000 100000] 38)) (fun _ _ h => h)) HR6.out (fun k h => h) (by rw [flat_one, List.length_replicate]; decide)); rw [flat_one, HDG.out, HC.out] at HS7; clear hb6 hf6)
                | (go_at_call 11; refine HS7.out.mono ?_; rintro e w8 ⟨rfl, hf8⟩; have HF8 := Lib.hid ((HF6.out.alloc _).trans hf8 (fun _ h => h.elim)); have HA := Lib.hid (awake_any w8 (HL.out.keep HF8.out (fun _ _ h => h))); clear hf8)
                | (go_at_call 9; refine HA.out.mono ?_; rintro e w9 ⟨rfl, hf9⟩; have HF9 := Lib.hid (HF8.out.trans hf9 (fun _ h => h.elim)); clear hf9)
                | fail)
              go_ret
              exact ⟨rfl, HF9.out⟩
end Go.Proofs.YthjpgnmpcllolaaDoor
