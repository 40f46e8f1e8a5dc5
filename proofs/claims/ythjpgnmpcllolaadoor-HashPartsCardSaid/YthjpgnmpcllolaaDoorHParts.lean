/- HashParts' walk. Printed by gen_hparts.py (wip/gen). -/
import Derived.Test.YthjpgnmpcllolaaDoorReg
namespace Go.Proofs.YthjpgnmpcllolaaDoor
open Go.RowKit Go.ChangeShapes
set_option linter.unusedVariables false

theorem Act.eval_const (a : Act) (v : Value) : a.eval (.const v) = v := rfl
def HpR (ao : Option Addr) (l cap k m : Nat) (X D : List UInt8) (i : Nat) (v : Value) (W : World) : Prop :=
  match i with
  | 0 => v = .slice ao l cap
  | 1 => v = .int .i64 (k : Int)
  | 2 => v = .slice ao k cap
  | 3 => v = .slice ao l cap
  | 4 => v = .int .i64 (k : Int)
  | 5 => v = .slice (cutLow ao k cap) (l - k) (cap - k)
  | 6 => ∃ g, v = .slice (some ⟨g, 0, none⟩) 2 2 ∧ RowsIn (fun _ => True) W v [X.take k, X.drop k]
  | 7 => v = .agg (D.map bv).toArray
  | 8 => v = .slice ao l cap
  | 9 => ∃ g, v = .slice (some ⟨g, 0, none⟩) 1 1 ∧ RowsIn (fun _ => True) W v [X]
  | 10 => v = .agg (D.map bv).toArray
  | 11 => v = .bool false
  | 12 => v = .bool false
  | 13 => v = .slice ao l cap
  | 14 => v = .int .i64 (k : Int)
  | 15 => v = .slice ao k cap
  | 16 => v = .slice ao l cap
  | 17 => v = .int .i64 (k : Int)
  | 18 => v = .slice (cutLow ao k cap) (l - k) (cap - k)
  | 19 => ∃ g, v = .slice (some ⟨g, 0, none⟩) 3 3 ∧ RowsIn (fun _ => True) W v [X.take k, [], X.drop k]
  | 20 => v = .agg (D.map bv).toArray
  | 21 => v = .slice ao l cap
  | 22 => v = .int .i64 (m : Int)
  | 23 => v = .slice ao m cap
  | 24 => v = .slice ao l cap
  | 25 => v = .int .i64 (m : Int)
  | 26 => v = .slice (cutLow ao m cap) (l - m) (cap - m)
  | 27 => ∃ g, v = .slice (some ⟨g, 0, none⟩) 2 2 ∧ RowsIn (fun _ => True) W v [X.take m, X.drop m]
  | 28 => v = .agg (D.map bv).toArray
  | 29 => v = .bool false
  | 30 => v = .bool false
  | _ => True
theorem HpR.ext (ao : Option Addr) (l cap k m : Nat) (X D : List UInt8) : ∀ (j : Nat) (u : Value) (W W' : World), Fr (fun _ => False) W W' → HpR ao l cap k m X D j u W → HpR ao l cap k m X D j u W'
  | 0, u, W, W', hf, h => h
  | 1, u, W, W', hf, h => h
  | 2, u, W, W', hf, h => h
  | 3, u, W, W', hf, h => h
  | 4, u, W, W', hf, h => h
  | 5, u, W, W', hf, h => h
  | 6, u, W, W', hf, h => (let ⟨g, h1, h2⟩ := h; ⟨g, h1, h2.keep hf (fun _ _ _ h => h)⟩)
  | 7, u, W, W', hf, h => h
  | 8, u, W, W', hf, h => h
  | 9, u, W, W', hf, h => (let ⟨g, h1, h2⟩ := h; ⟨g, h1, h2.keep hf (fun _ _ _ h => h)⟩)
  | 10, u, W, W', hf, h => h
  | 11, u, W, W', hf, h => h
  | 12, u, W, W', hf, h => h
  | 13, u, W, W', hf, h => h
  | 14, u, W, W', hf, h => h
  | 15, u, W, W', hf, h => h
  | 16, u, W, W', hf, h => h
  | 17, u, W, W', hf, h => h
  | 18, u, W, W', hf, h => h
  | 19, u, W, W', hf, h => (let ⟨g, h1, h2⟩ := h; ⟨g, h1, h2.keep hf (fun _ _ _ h => h)⟩)
  | 20, u, W, W', hf, h => h
  | 21, u, W, W', hf, h => h
  | 22, u, W, W', hf, h => h
  | 23, u, W, W', hf, h => h
  | 24, u, W, W', hf, h => h
  | 25, u, W, W', hf, h => h
  | 26, u, W, W', hf, h => h
  | 27, u, W, W', hf, h => (let ⟨g, h1, h2⟩ := h; ⟨g, h1, h2.keep hf (fun _ _ _ h => h)⟩)
  | 28, u, W, W', hf, h => h
  | 29, u, W, W', hf, h => h
  | 30, u, W, W', hf, h => h
  | _ + 31, u, W, W', hf, h => trivial

def HqR (ao : Option Addr) (l cap k m bs : Nat) (X Hk Hm : List UInt8) (tag : ByteArray) (i : Nat) (v : Value) (W : World) : Prop :=
  match i with
  | 0 => v = .string tag
  | 1 => v = .slice ao l cap
  | 2 => v = .int .i64 (k : Int)
  | 3 => v = .slice ao k cap
  | 4 => v = .slice ao l cap
  | 5 => v = .int .i64 (k : Int)
  | 6 => v = .slice (cutLow ao k cap) (l - k) (cap - k)
  | 7 => ∃ g, v = .slice (some ⟨g, 0, none⟩) 2 2 ∧ RowsIn (fun _ => True) W v [X.take k, X.drop k]
  | 8 => v = .agg (Hk.map bv).toArray
  | 9 => v = .string tag
  | 10 => v = .slice ao l cap
  | 11 => v = .int .i64 (m : Int)
  | 12 => v = .slice ao m cap
  | 13 => v = .slice ao l cap
  | 14 => v = .int .i64 (m : Int)
  | 15 => v = .slice (cutLow ao m cap) (l - m) (cap - m)
  | 16 => ∃ g, v = .slice (some ⟨g, 0, none⟩) 2 2 ∧ RowsIn (fun _ => True) W v [X.take m, X.drop m]
  | 17 => v = .agg (Hm.map bv).toArray
  | 18 => ∃ g, v = .pointer (some ⟨g, 0, none⟩) ∧ bs ≤ g ∧ BytT W g 33 (List.replicate 20 0)
  | 19 => ∃ g, v = .pointer (some ⟨g, 0, none⟩) ∧ bs ≤ g ∧ BytT W g 33 (List.replicate 20 0)
  | _ => True
theorem HqR.ext (ao : Option Addr) (l cap k m bs : Nat) (X Hk Hm : List UInt8) (tag : ByteArray) : ∀ (j : Nat) (u : Value) (W W' : World), Fr (fun _ => False) W W' → HqR ao l cap k m bs X Hk Hm tag j u W → HqR ao l cap k m bs X Hk Hm tag j u W'
  | 0, u, W, W', hf, h => h
  | 1, u, W, W', hf, h => h
  | 2, u, W, W', hf, h => h
  | 3, u, W, W', hf, h => h
  | 4, u, W, W', hf, h => h
  | 5, u, W, W', hf, h => h
  | 6, u, W, W', hf, h => h
  | 7, u, W, W', hf, h => (let ⟨g, h1, h2⟩ := h; ⟨g, h1, h2.keep hf (fun _ _ _ h => h)⟩)
  | 8, u, W, W', hf, h => h
  | 9, u, W, W', hf, h => h
  | 10, u, W, W', hf, h => h
  | 11, u, W, W', hf, h => h
  | 12, u, W, W', hf, h => h
  | 13, u, W, W', hf, h => h
  | 14, u, W, W', hf, h => h
  | 15, u, W, W', hf, h => h
  | 16, u, W, W', hf, h => (let ⟨g, h1, h2⟩ := h; ⟨g, h1, h2.keep hf (fun _ _ _ h => h)⟩)
  | 17, u, W, W', hf, h => h
  | 18, u, W, W', hf, h => (let ⟨g, h1, h2, h3⟩ := h; ⟨g, h1, h2, h3.keep hf (fun h => h)⟩)
  | 19, u, W, W', hf, h => (let ⟨g, h1, h2, h3⟩ := h; ⟨g, h1, h2, h3.keep hf (fun h => h)⟩)
  | _ + 20, u, W, W', hf, h => trivial

def HqD (i j : Nat) (v u : Value) : Prop := 18 ≤ i → 18 ≤ j → ∀ g h, v = .pointer (some ⟨g, 0, none⟩) → u = .pointer (some ⟨h, 0, none⟩) → g ≠ h
theorem HqR.lt {ao : Option Addr} {l cap k m bs : Nat} {X Hk Hm : List UInt8} {tag : ByteArray} {j : Nat} {u : Value} {W : World} {h : Nat} (hj : j < 20) (h8 : 18 ≤ j) (hr : HqR ao l cap k m bs X Hk Hm tag j u W) (hh : u = .pointer (some ⟨h, 0, none⟩)) : h < W.heap.size := by
  obtain rfl | rfl : j = 18 ∨ j = 19 := by omega
  all_goals
    obtain ⟨g, h1, _, h3⟩ := hr
    rw [h1] at hh
    cases hh
    exact h3.lt

set_option maxRecDepth 100000 in
set_option maxHeartbeats 4000000 in
theorem hparts_any (v : Value) (X : List UInt8) (cut again : Int) (tag : ByteArray) (w : World) (hL : Laid w) (hx : BytesIn (fun k => k < w.heap.size) w v X)
    (hc1 : -9223372036854775808 ≤ cut) (hc2 : cut ≤ 9223372036854775807) (ha1 : -9223372036854775808 ≤ again) (ha2 : again ≤ 9223372036854775807) (hX : X.length ≤ 140737488351232) (hT : tag.size ≤ 140737488351232) :
    Calls Tryd.prog 6 #[v, .int .i64 cut, .int .i64 again, .string tag] w fun e w' => e = .returned (.bool true) ∧ Fr (fun _ => False) w w' := by
  obtain ⟨ao, cap, rfl, hlc, hcm, _⟩ := id hx
  have HA := Lib.hid (awake_any w hL)
  have HL := Lib.hid hL
  have HX := Lib.hid hx
  obtain ⟨l, hl⟩ : ∃ l, l = X.length := ⟨_, rfl⟩
  rw [← hl] at hlc hX HX ⊢
  unfold maxLen at hcm
  have HLN := Lib.hid hl
  clear hL hx hl
  by_cases hbig : 6000 < l + tag.size
  · have hb : (6000 : Int) < (l : Int) + (tag.size : Int) := by omega
    clear hbig
    go_enter Tryd.func6, Tryd.ntmps6
    go_wp2_with (go_at_call 9; refine HA.out.mono ?_; rintro e w1 ⟨rfl, hf1⟩; have HF1 := Lib.hid hf1; clear hf1)
    go_ret
    exact ⟨rfl, HF1.out⟩
  · have hb : ¬ (6000 : Int) < (l : Int) + (tag.size : Int) := by omega
    obtain ⟨k, hk⟩ : ∃ k : Nat, cut % ((l : Int) + 1) = (k : Int) := ⟨(cut % ((l : Int) + 1)).toNat, by have := Int.emod_nonneg cut (show ((l : Int) + 1) ≠ 0 by omega); omega⟩
    obtain ⟨m, hm⟩ : ∃ m : Nat, again % ((l : Int) + 1) = (m : Int) := ⟨(again % ((l : Int) + 1)).toNat, by have := Int.emod_nonneg again (show ((l : Int) + 1) ≠ 0 by omega); omega⟩
    have hkl : k ≤ l := by have := Int.emod_lt_of_pos cut (show (0 : Int) < (l : Int) + 1 by omega); omega
    have hml : m ≤ l := by have := Int.emod_lt_of_pos again (show (0 : Int) < (l : Int) + 1 by omega); omega
    have HPK := Lib.hid (fun w => pick_any cut ((l : Int) + 1) w (by omega) (by omega) hc1 hc2)
    have HPM := Lib.hid (fun w => pick_any again ((l : Int) + 1) w (by omega) (by omega) ha1 ha2)
    rw [hk] at HPK
    rw [hm] at HPM
    clear hk hm
    go_enter Tryd.func6, Tryd.ntmps6
    go_wp2_with fail
    refine HA.out.mono ?_
    rintro e w1 ⟨rfl, hf1⟩
    have HF1 := Lib.hid hf1
    clear hf1 HA
    go_wp2_with fail
    refine (HPK.out _).mono ?_
    rintro e w' ⟨rfl, rfl⟩
    go_wp2_with fail
    refine (HPM.out _).mono ?_
    rintro e w' ⟨rfl, rfl⟩
    go_wp2_with fail
    clear HPK HPM
    have HLD := Lib.hid (HL.out.keep HF1.out (fun _ _ h => h))
    have hX1 : BytesIn (fun _ => True) w1 (.slice ao l cap) X := (HX.out.keep HF1.out (fun _ _ _ h => h)).mono (fun _ _ _ => trivial)
    have hX1' : BytesIn (fun _ => True) w1 (.slice ao X.length cap) X := by rw [← HLN.out]; exact hX1
    obtain ⟨D, hD⟩ : ∃ D, D = digest X := ⟨_, rfl⟩
    have HDG := Lib.hid hD.symm
    have HDL := Lib.hid (show D.length = 32 by rw [hD]; rfl)
    have HX1 : ∀ W, Fr (fun _ => False) w1 W → BytesIn (fun _ => True) W (.slice ao l cap) X := fun W hf => hX1.keep hf (fun _ _ _ h => h)
    have HSK : ∀ W, Fr (fun _ => False) w1 W → BytesIn (fun _ => True) W (.slice ao k cap) (X.take k) := fun W hf => (hX1'.take k (by rw [← HLN.out]; exact hkl)).keep hf (fun _ _ _ h => h)
    have HSM : ∀ W, Fr (fun _ => False) w1 W → BytesIn (fun _ => True) W (.slice ao m cap) (X.take m) := fun W hf => (hX1'.take m (by rw [← HLN.out]; exact hml)).keep hf (fun _ _ _ h => h)
    have HSD : ∀ W, Fr (fun _ => False) w1 W → BytesIn (fun _ => True) W (.slice (cutLow ao k cap) (l - k) (cap - k)) (X.drop k) := fun W hf => (hX1.cutLow k (by rw [← HLN.out]; exact hkl)).keep hf (fun _ _ _ h => h)
    have HSE : ∀ W, Fr (fun _ => False) w1 W → BytesIn (fun _ => True) W (.slice (cutLow ao m cap) (l - m) (cap - m)) (X.drop m) := fun W hf => (hX1.cutLow m (by rw [← HLN.out]; exact hml)).keep hf (fun _ _ _ h => h)
    have HNL : ∀ W, Fr (fun _ => False) w1 W → BytesIn (fun _ => True) W (.slice none 0 0) [] := fun W _ => BytesIn.nil _ _
    have HB_HX1 : X.length ≤ 140737488351232 := by rw [← HLN.out]; exact hX
    have HB_HSK : (X.take k).length ≤ 140737488351232 := by rw [List.length_take]; omega
    have HB_HSM : (X.take m).length ≤ 140737488351232 := by rw [List.length_take]; omega
    have HB_HSD : (X.drop k).length ≤ 140737488351232 := by rw [List.length_drop]; omega
    have HB_HSE : (X.drop m).length ≤ 140737488351232 := by rw [List.length_drop]; omega
    have HB_HNL : ([] : List UInt8).length ≤ 140737488351232 := by simp
    have HFL1 := Lib.hid (show [X].flatten = X by simp)
    have HFL2 := Lib.hid (show [X.take k, X.drop k].flatten = X by simp)
    have HFL2m := Lib.hid (show [X.take m, X.drop m].flatten = X by simp)
    have HFL3 := Lib.hid (show [X.take k, [], X.drop k].flatten = X by simp)
    have HXB := Lib.hid (show X.length ≤ 100000000000 by rw [← HLN.out]; omega)
    refine wp_region_inv 31 (by kernel_rfl) (by kernel_rfl) (fun W => Fr (fun _ => False) w1 W) (HpR ao l cap k m X D) (fun _ _ _ _ => True) (Fr (fun _ => False)) (HpR.ext ao l cap k m X D) (Fr.refl _ _).drew ?_ ?_
    · intro i hi o ho
      replace hi : i < 31 := hi
      obtain rfl | rfl | rfl | rfl | rfl | rfl | rfl | rfl | rfl | rfl | rfl | rfl | rfl | rfl | rfl | rfl | rfl | rfl | rfl | rfl | rfl | rfl | rfl | rfl | rfl | rfl | rfl | rfl | rfl | rfl | rfl : i = 0 ∨ i = 1 ∨ i = 2 ∨ i = 3 ∨ i = 4 ∨ i = 5 ∨ i = 6 ∨ i = 7 ∨ i = 8 ∨ i = 9 ∨ i = 10 ∨ i = 11 ∨ i = 12 ∨ i = 13 ∨ i = 14 ∨ i = 15 ∨ i = 16 ∨ i = 17 ∨ i = 18 ∨ i = 19 ∨ i = 20 ∨ i = 21 ∨ i = 22 ∨ i = 23 ∨ i = 24 ∨ i = 25 ∨ i = 26 ∨ i = 27 ∨ i = 28 ∨ i = 29 ∨ i = 30 := by omega
      · simp only [List.getElem?_cons_zero, Option.some.injEq] at ho
        subst ho
        intro a W vs hB hS hE hU
        refine wpG_plain rfl ?_
        have v0 : a.eval (.tmp 0) = .slice ao l cap := (hU 0 (by kernel_rfl)).trans rfl
        clear hE hU
        exact wp_value_inv (w' := W) (.slice ao l cap) (op_move rfl v0) ⟨_, rfl, hB, Fr.refl _ _, rfl, fun _ _ _ _ _ => trivial⟩
      · simp only [List.getElem?_cons_zero, List.getElem?_cons_succ, Option.some.injEq] at ho
        subst ho
        intro a W vs hB hS hE hU
        refine wpG_plain rfl ?_
        have v9 : a.eval (.tmp 9) = .int .i64 (k : Int) := (hU 9 (by kernel_rfl)).trans rfl
        clear hE hU
        exact wp_value_inv (w' := W) (.int .i64 (k : Int)) (op_move rfl v9) ⟨_, rfl, hB, Fr.refl _ _, rfl, fun _ _ _ _ _ => trivial⟩
      · simp only [List.getElem?_cons_zero, List.getElem?_cons_succ, Option.some.injEq] at ho
        subst ho
        intro a W vs hB hS hE hU
        refine wpG_plain rfl ?_
        obtain ⟨r0, e31⟩ := hE 0 31 (by kernel_rfl) (by kernel_rfl)
        have v31 : a.eval (.tmp 31) = .slice ao l cap := e31.trans r0
        obtain ⟨r1, e32⟩ := hE 1 32 (by kernel_rfl) (by kernel_rfl)
        have v32 : a.eval (.tmp 32) = .int .i64 (k : Int) := e32.trans r1
        clear hE hU
        exact wp_value_inv (w' := W) (.slice ao k cap) (op_slice_hi rfl v31 v32 (run_hi W ao l cap k (by omega))) ⟨_, rfl, hB, Fr.refl _ _, rfl, fun _ _ _ _ _ => trivial⟩
      · simp only [List.getElem?_cons_zero, List.getElem?_cons_succ, Option.some.injEq] at ho
        subst ho
        intro a W vs hB hS hE hU
        refine wpG_plain rfl ?_
        have v0 : a.eval (.tmp 0) = .slice ao l cap := (hU 0 (by kernel_rfl)).trans rfl
        clear hE hU
        exact wp_value_inv (w' := W) (.slice ao l cap) (op_move rfl v0) ⟨_, rfl, hB, Fr.refl _ _, rfl, fun _ _ _ _ _ => trivial⟩
      · simp only [List.getElem?_cons_zero, List.getElem?_cons_succ, Option.some.injEq] at ho
        subst ho
        intro a W vs hB hS hE hU
        refine wpG_plain rfl ?_
        have v9 : a.eval (.tmp 9) = .int .i64 (k : Int) := (hU 9 (by kernel_rfl)).trans rfl
        clear hE hU
        exact wp_value_inv (w' := W) (.int .i64 (k : Int)) (op_move rfl v9) ⟨_, rfl, hB, Fr.refl _ _, rfl, fun _ _ _ _ _ => trivial⟩
      · simp only [List.getElem?_cons_zero, List.getElem?_cons_succ, Option.some.injEq] at ho
        subst ho
        intro a W vs hB hS hE hU
        refine wpG_plain rfl ?_
        obtain ⟨r3, e34⟩ := hE 3 34 (by kernel_rfl) (by kernel_rfl)
        have v34 : a.eval (.tmp 34) = .slice ao l cap := e34.trans r3
        obtain ⟨r4, e35⟩ := hE 4 35 (by kernel_rfl) (by kernel_rfl)
        have v35 : a.eval (.tmp 35) = .int .i64 (k : Int) := e35.trans r4
        clear hE hU
        exact wp_value_inv (w' := W) (.slice (cutLow ao k cap) (l - k) (cap - k)) (op_slice_lo rfl v34 v35 (run_lo W ao l cap k (by omega))) ⟨_, rfl, hB, Fr.refl _ _, rfl, fun _ _ _ _ _ => trivial⟩
      · simp only [List.getElem?_cons_zero, List.getElem?_cons_succ, Option.some.injEq] at ho
        subst ho
        intro a W vs hB hS hE hU
        refine wpG_plain rfl ?_
        obtain ⟨r2, e33⟩ := hE 2 33 (by kernel_rfl) (by kernel_rfl)
        have v33 : a.eval (.tmp 33) = .slice ao k cap := e33.trans r2
        obtain ⟨r5, e36⟩ := hE 5 36 (by kernel_rfl) (by kernel_rfl)
        have v36 : a.eval (.tmp 36) = .slice (cutLow ao k cap) (l - k) (cap - k) := e36.trans r5
        clear hE hU
        refine wp_value_inv (w' := W.alloc (.cells #[.slice ao k cap, .slice (cutLow ao k cap) (l - k) (cap - k)] 38)) (.slice (some ⟨W.heap.size, 0, none⟩) 2 2) (op_rows rfl (by simp only [List.map_toArray, List.map_cons, List.map_nil, v33, v36]) (run_rows2 W _ _ _ _ _ _)) ?_
        exact ⟨_, rfl, hB.alloc _, (Fr.refl _ W).alloc _, ⟨W.heap.size, rfl, RowsIn.two trivial (HSK W hB) (HSD W hB) HB_HSK HB_HSD⟩, fun _ _ _ _ _ => trivial⟩
      · simp only [List.getElem?_cons_zero, List.getElem?_cons_succ, Option.some.injEq] at ho
        subst ho
        intro a W vs hB hS hE hU
        refine wpG_plain rfl ?_
        obtain ⟨⟨g6, rg6, hrow6⟩, e37⟩ := hE 6 37 (by kernel_rfl) (by kernel_rfl)
        have v37 : a.eval (.tmp 37) = .slice (some ⟨g6, 0, none⟩) 2 2 := e37.trans rg6
        clear hE hU
        rw [rg6] at hrow6
        refine wp_call_inv 11 #[.tmp 37] #[22] rfl #[.slice (some ⟨g6, 0, none⟩) 2 2] (by simp only [List.map_toArray, List.map_cons, List.map_nil, v37]) (sum_enter _) (Post := fun v W' => v = .agg (D.map bv).toArray ∧ Fr (fun _ => False) W W') ((sum_any (F := fun j => j < W.heap.size) W (HLD.out.keep hB (fun _ _ h => h)) (hrow6.mono (fun j hj _ => hj)) (fun j h => h) (by rw [HFL2.out]; exact HXB.out)).mono fun e w' h => ⟨_, h.1, by rw [HFL2.out, HDG.out], h.2⟩) ?_
        rintro v W' ⟨rfl, hf⟩
        exact ⟨_, rfl, hB.trans hf (fun _ h => h.elim), hf, rfl, fun _ _ _ _ _ => trivial⟩
      · simp only [List.getElem?_cons_zero, List.getElem?_cons_succ, Option.some.injEq] at ho
        subst ho
        intro a W vs hB hS hE hU
        refine wpG_plain rfl ?_
        have v0 : a.eval (.tmp 0) = .slice ao l cap := (hU 0 (by kernel_rfl)).trans rfl
        clear hE hU
        exact wp_value_inv (w' := W) (.slice ao l cap) (op_move rfl v0) ⟨_, rfl, hB, Fr.refl _ _, rfl, fun _ _ _ _ _ => trivial⟩
      · simp only [List.getElem?_cons_zero, List.getElem?_cons_succ, Option.some.injEq] at ho
        subst ho
        intro a W vs hB hS hE hU
        refine wpG_plain rfl ?_
        obtain ⟨r8, e39⟩ := hE 8 39 (by kernel_rfl) (by kernel_rfl)
        have v39 : a.eval (.tmp 39) = .slice ao l cap := e39.trans r8
        clear hE hU
        refine wp_value_inv (w' := W.alloc (.cells #[.slice ao l cap] 38)) (.slice (some ⟨W.heap.size, 0, none⟩) 1 1) (op_rows rfl (by simp only [List.map_toArray, List.map_cons, List.map_nil, v39]) (run_rows1 W _ _ _)) ?_
        exact ⟨_, rfl, hB.alloc _, (Fr.refl _ W).alloc _, ⟨W.heap.size, rfl, RowsIn.one trivial (HX1 W hB) HB_HX1⟩, fun _ _ _ _ _ => trivial⟩
      · simp only [List.getElem?_cons_zero, List.getElem?_cons_succ, Option.some.injEq] at ho
        subst ho
        intro a W vs hB hS hE hU
        refine wpG_plain rfl ?_
        obtain ⟨⟨g9, rg9, hrow9⟩, e40⟩ := hE 9 40 (by kernel_rfl) (by kernel_rfl)
        have v40 : a.eval (.tmp 40) = .slice (some ⟨g9, 0, none⟩) 1 1 := e40.trans rg9
        clear hE hU
        rw [rg9] at hrow9
        refine wp_call_inv 11 #[.tmp 40] #[22] rfl #[.slice (some ⟨g9, 0, none⟩) 1 1] (by simp only [List.map_toArray, List.map_cons, List.map_nil, v40]) (sum_enter _) (Post := fun v W' => v = .agg (D.map bv).toArray ∧ Fr (fun _ => False) W W') ((sum_any (F := fun j => j < W.heap.size) W (HLD.out.keep hB (fun _ _ h => h)) (hrow9.mono (fun j hj _ => hj)) (fun j h => h) (by rw [HFL1.out]; exact HXB.out)).mono fun e w' h => ⟨_, h.1, by rw [HFL1.out, HDG.out], h.2⟩) ?_
        rintro v W' ⟨rfl, hf⟩
        exact ⟨_, rfl, hB.trans hf (fun _ h => h.elim), hf, rfl, fun _ _ _ _ _ => trivial⟩
      · simp only [List.getElem?_cons_zero, List.getElem?_cons_succ, Option.some.injEq] at ho
        subst ho
        intro a W vs hB hS hE hU
        refine wpG_plain rfl ?_
        obtain ⟨r7, e38⟩ := hE 7 38 (by kernel_rfl) (by kernel_rfl)
        have v38 : a.eval (.tmp 38) = .agg (D.map bv).toArray := e38.trans r7
        obtain ⟨r10, e41⟩ := hE 10 41 (by kernel_rfl) (by kernel_rfl)
        have v41 : a.eval (.tmp 41) = .agg (D.map bv).toArray := e41.trans r10
        clear hE hU
        exact wp_value_inv (w' := W) (.bool false) (op_bin rfl v38 v41 (run_eqGuard_agg W .neq 27 _ _ _ _ (by kernel_rfl)) ((run_neq_arr W 27 32 D D Tryd.underlying27 HDL.out HDL.out).trans (by simp))) ⟨_, rfl, hB, Fr.refl _ _, rfl, fun _ _ _ _ _ => trivial⟩
      · simp only [List.getElem?_cons_zero, List.getElem?_cons_succ, Option.some.injEq] at ho
        subst ho
        intro a W vs hB hS hE hU
        refine wpG_plain rfl ?_
        obtain ⟨r11, e42⟩ := hE 11 42 (by kernel_rfl) (by kernel_rfl)
        have v42 : a.eval (.tmp 42) = .bool false := e42.trans r11
        clear hE hU
        exact wp_value_inv (w' := W) (.bool false) (op_move rfl v42) ⟨_, rfl, hB, Fr.refl _ _, rfl, fun _ _ _ _ _ => trivial⟩
      · simp only [List.getElem?_cons_zero, List.getElem?_cons_succ, Option.some.injEq] at ho
        subst ho
        intro a W vs hB hS hE hU
        obtain ⟨r12, e43⟩ := hE 12 43 (by kernel_rfl) (by kernel_rfl)
        have v43 : a.eval (.tmp 43) = .bool false := e43.trans r12
        refine wpG_yes 12 false 43 rfl (by kernel_rfl) (by rw [hS]; simp) v43 ?_
        have v0 : a.eval (.tmp 0) = .slice ao l cap := (hU 0 (by kernel_rfl)).trans rfl
        clear hE hU
        exact wp_value_inv (w' := W) (.slice ao l cap) (op_move rfl v0) ⟨_, rfl, hB, Fr.refl _ _, rfl, fun _ _ _ _ _ => trivial⟩
      · simp only [List.getElem?_cons_zero, List.getElem?_cons_succ, Option.some.injEq] at ho
        subst ho
        intro a W vs hB hS hE hU
        obtain ⟨r12, e43⟩ := hE 12 43 (by kernel_rfl) (by kernel_rfl)
        have v43 : a.eval (.tmp 43) = .bool false := e43.trans r12
        refine wpG_yes 12 false 43 rfl (by kernel_rfl) (by rw [hS]; simp) v43 ?_
        have v9 : a.eval (.tmp 9) = .int .i64 (k : Int) := (hU 9 (by kernel_rfl)).trans rfl
        clear hE hU
        exact wp_value_inv (w' := W) (.int .i64 (k : Int)) (op_move rfl v9) ⟨_, rfl, hB, Fr.refl _ _, rfl, fun _ _ _ _ _ => trivial⟩
      · simp only [List.getElem?_cons_zero, List.getElem?_cons_succ, Option.some.injEq] at ho
        subst ho
        intro a W vs hB hS hE hU
        obtain ⟨r12, e43⟩ := hE 12 43 (by kernel_rfl) (by kernel_rfl)
        have v43 : a.eval (.tmp 43) = .bool false := e43.trans r12
        refine wpG_yes 12 false 43 rfl (by kernel_rfl) (by rw [hS]; simp) v43 ?_
        obtain ⟨r13, e44⟩ := hE 13 44 (by kernel_rfl) (by kernel_rfl)
        have v44 : a.eval (.tmp 44) = .slice ao l cap := e44.trans r13
        obtain ⟨r14, e45⟩ := hE 14 45 (by kernel_rfl) (by kernel_rfl)
        have v45 : a.eval (.tmp 45) = .int .i64 (k : Int) := e45.trans r14
        clear hE hU
        exact wp_value_inv (w' := W) (.slice ao k cap) (op_slice_hi rfl v44 v45 (run_hi W ao l cap k (by omega))) ⟨_, rfl, hB, Fr.refl _ _, rfl, fun _ _ _ _ _ => trivial⟩
      · simp only [List.getElem?_cons_zero, List.getElem?_cons_succ, Option.some.injEq] at ho
        subst ho
        intro a W vs hB hS hE hU
        obtain ⟨r12, e43⟩ := hE 12 43 (by kernel_rfl) (by kernel_rfl)
        have v43 : a.eval (.tmp 43) = .bool false := e43.trans r12
        refine wpG_yes 12 false 43 rfl (by kernel_rfl) (by rw [hS]; simp) v43 ?_
        have v0 : a.eval (.tmp 0) = .slice ao l cap := (hU 0 (by kernel_rfl)).trans rfl
        clear hE hU
        exact wp_value_inv (w' := W) (.slice ao l cap) (op_move rfl v0) ⟨_, rfl, hB, Fr.refl _ _, rfl, fun _ _ _ _ _ => trivial⟩
      · simp only [List.getElem?_cons_zero, List.getElem?_cons_succ, Option.some.injEq] at ho
        subst ho
        intro a W vs hB hS hE hU
        obtain ⟨r12, e43⟩ := hE 12 43 (by kernel_rfl) (by kernel_rfl)
        have v43 : a.eval (.tmp 43) = .bool false := e43.trans r12
        refine wpG_yes 12 false 43 rfl (by kernel_rfl) (by rw [hS]; simp) v43 ?_
        have v9 : a.eval (.tmp 9) = .int .i64 (k : Int) := (hU 9 (by kernel_rfl)).trans rfl
        clear hE hU
        exact wp_value_inv (w' := W) (.int .i64 (k : Int)) (op_move rfl v9) ⟨_, rfl, hB, Fr.refl _ _, rfl, fun _ _ _ _ _ => trivial⟩
      · simp only [List.getElem?_cons_zero, List.getElem?_cons_succ, Option.some.injEq] at ho
        subst ho
        intro a W vs hB hS hE hU
        obtain ⟨r12, e43⟩ := hE 12 43 (by kernel_rfl) (by kernel_rfl)
        have v43 : a.eval (.tmp 43) = .bool false := e43.trans r12
        refine wpG_yes 12 false 43 rfl (by kernel_rfl) (by rw [hS]; simp) v43 ?_
        obtain ⟨r16, e47⟩ := hE 16 47 (by kernel_rfl) (by kernel_rfl)
        have v47 : a.eval (.tmp 47) = .slice ao l cap := e47.trans r16
        obtain ⟨r17, e48⟩ := hE 17 48 (by kernel_rfl) (by kernel_rfl)
        have v48 : a.eval (.tmp 48) = .int .i64 (k : Int) := e48.trans r17
        clear hE hU
        exact wp_value_inv (w' := W) (.slice (cutLow ao k cap) (l - k) (cap - k)) (op_slice_lo rfl v47 v48 (run_lo W ao l cap k (by omega))) ⟨_, rfl, hB, Fr.refl _ _, rfl, fun _ _ _ _ _ => trivial⟩
      · simp only [List.getElem?_cons_zero, List.getElem?_cons_succ, Option.some.injEq] at ho
        subst ho
        intro a W vs hB hS hE hU
        obtain ⟨r12, e43⟩ := hE 12 43 (by kernel_rfl) (by kernel_rfl)
        have v43 : a.eval (.tmp 43) = .bool false := e43.trans r12
        refine wpG_yes 12 false 43 rfl (by kernel_rfl) (by rw [hS]; simp) v43 ?_
        obtain ⟨r15, e46⟩ := hE 15 46 (by kernel_rfl) (by kernel_rfl)
        have v46 : a.eval (.tmp 46) = .slice ao k cap := e46.trans r15
        obtain ⟨r18, e49⟩ := hE 18 49 (by kernel_rfl) (by kernel_rfl)
        have v49 : a.eval (.tmp 49) = .slice (cutLow ao k cap) (l - k) (cap - k) := e49.trans r18
        clear hE hU
        refine wp_value_inv (w' := W.alloc (.cells #[.slice ao k cap, .slice none 0 0, .slice (cutLow ao k cap) (l - k) (cap - k)] 38)) (.slice (some ⟨W.heap.size, 0, none⟩) 3 3) (op_rows rfl (by simp only [List.map_toArray, List.map_cons, List.map_nil, Act.eval_const, v46, v49]) (run_rows3 W _ _ _ _ _ _ _ _ _)) ?_
        exact ⟨_, rfl, hB.alloc _, (Fr.refl _ W).alloc _, ⟨W.heap.size, rfl, RowsIn.three trivial (HSK W hB) (HNL W hB) (HSD W hB) HB_HSK HB_HNL HB_HSD⟩, fun _ _ _ _ _ => trivial⟩
      · simp only [List.getElem?_cons_zero, List.getElem?_cons_succ, Option.some.injEq] at ho
        subst ho
        intro a W vs hB hS hE hU
        obtain ⟨r12, e43⟩ := hE 12 43 (by kernel_rfl) (by kernel_rfl)
        have v43 : a.eval (.tmp 43) = .bool false := e43.trans r12
        refine wpG_yes 12 false 43 rfl (by kernel_rfl) (by rw [hS]; simp) v43 ?_
        obtain ⟨⟨g19, rg19, hrow19⟩, e50⟩ := hE 19 50 (by kernel_rfl) (by kernel_rfl)
        have v50 : a.eval (.tmp 50) = .slice (some ⟨g19, 0, none⟩) 3 3 := e50.trans rg19
        clear hE hU
        rw [rg19] at hrow19
        refine wp_call_inv 11 #[.tmp 50] #[22] rfl #[.slice (some ⟨g19, 0, none⟩) 3 3] (by simp only [List.map_toArray, List.map_cons, List.map_nil, v50]) (sum_enter _) (Post := fun v W' => v = .agg (D.map bv).toArray ∧ Fr (fun _ => False) W W') ((sum_any (F := fun j => j < W.heap.size) W (HLD.out.keep hB (fun _ _ h => h)) (hrow19.mono (fun j hj _ => hj)) (fun j h => h) (by rw [HFL3.out]; exact HXB.out)).mono fun e w' h => ⟨_, h.1, by rw [HFL3.out, HDG.out], h.2⟩) ?_
        rintro v W' ⟨rfl, hf⟩
        exact ⟨_, rfl, hB.trans hf (fun _ h => h.elim), hf, rfl, fun _ _ _ _ _ => trivial⟩
      · simp only [List.getElem?_cons_zero, List.getElem?_cons_succ, Option.some.injEq] at ho
        subst ho
        intro a W vs hB hS hE hU
        obtain ⟨r12, e43⟩ := hE 12 43 (by kernel_rfl) (by kernel_rfl)
        have v43 : a.eval (.tmp 43) = .bool false := e43.trans r12
        refine wpG_yes 12 false 43 rfl (by kernel_rfl) (by rw [hS]; simp) v43 ?_
        have v0 : a.eval (.tmp 0) = .slice ao l cap := (hU 0 (by kernel_rfl)).trans rfl
        clear hE hU
        exact wp_value_inv (w' := W) (.slice ao l cap) (op_move rfl v0) ⟨_, rfl, hB, Fr.refl _ _, rfl, fun _ _ _ _ _ => trivial⟩
      · simp only [List.getElem?_cons_zero, List.getElem?_cons_succ, Option.some.injEq] at ho
        subst ho
        intro a W vs hB hS hE hU
        obtain ⟨r12, e43⟩ := hE 12 43 (by kernel_rfl) (by kernel_rfl)
        have v43 : a.eval (.tmp 43) = .bool false := e43.trans r12
        refine wpG_yes 12 false 43 rfl (by kernel_rfl) (by rw [hS]; simp) v43 ?_
        have v10 : a.eval (.tmp 10) = .int .i64 (m : Int) := (hU 10 (by kernel_rfl)).trans rfl
        clear hE hU
        exact wp_value_inv (w' := W) (.int .i64 (m : Int)) (op_move rfl v10) ⟨_, rfl, hB, Fr.refl _ _, rfl, fun _ _ _ _ _ => trivial⟩
      · simp only [List.getElem?_cons_zero, List.getElem?_cons_succ, Option.some.injEq] at ho
        subst ho
        intro a W vs hB hS hE hU
        obtain ⟨r12, e43⟩ := hE 12 43 (by kernel_rfl) (by kernel_rfl)
        have v43 : a.eval (.tmp 43) = .bool false := e43.trans r12
        refine wpG_yes 12 false 43 rfl (by kernel_rfl) (by rw [hS]; simp) v43 ?_
        obtain ⟨r21, e52⟩ := hE 21 52 (by kernel_rfl) (by kernel_rfl)
        have v52 : a.eval (.tmp 52) = .slice ao l cap := e52.trans r21
        obtain ⟨r22, e53⟩ := hE 22 53 (by kernel_rfl) (by kernel_rfl)
        have v53 : a.eval (.tmp 53) = .int .i64 (m : Int) := e53.trans r22
        clear hE hU
        exact wp_value_inv (w' := W) (.slice ao m cap) (op_slice_hi rfl v52 v53 (run_hi W ao l cap m (by omega))) ⟨_, rfl, hB, Fr.refl _ _, rfl, fun _ _ _ _ _ => trivial⟩
      · simp only [List.getElem?_cons_zero, List.getElem?_cons_succ, Option.some.injEq] at ho
        subst ho
        intro a W vs hB hS hE hU
        obtain ⟨r12, e43⟩ := hE 12 43 (by kernel_rfl) (by kernel_rfl)
        have v43 : a.eval (.tmp 43) = .bool false := e43.trans r12
        refine wpG_yes 12 false 43 rfl (by kernel_rfl) (by rw [hS]; simp) v43 ?_
        have v0 : a.eval (.tmp 0) = .slice ao l cap := (hU 0 (by kernel_rfl)).trans rfl
        clear hE hU
        exact wp_value_inv (w' := W) (.slice ao l cap) (op_move rfl v0) ⟨_, rfl, hB, Fr.refl _ _, rfl, fun _ _ _ _ _ => trivial⟩
      · simp only [List.getElem?_cons_zero, List.getElem?_cons_succ, Option.some.injEq] at ho
        subst ho
        intro a W vs hB hS hE hU
        obtain ⟨r12, e43⟩ := hE 12 43 (by kernel_rfl) (by kernel_rfl)
        have v43 : a.eval (.tmp 43) = .bool false := e43.trans r12
        refine wpG_yes 12 false 43 rfl (by kernel_rfl) (by rw [hS]; simp) v43 ?_
        have v10 : a.eval (.tmp 10) = .int .i64 (m : Int) := (hU 10 (by kernel_rfl)).trans rfl
        clear hE hU
        exact wp_value_inv (w' := W) (.int .i64 (m : Int)) (op_move rfl v10) ⟨_, rfl, hB, Fr.refl _ _, rfl, fun _ _ _ _ _ => trivial⟩
      · simp only [List.getElem?_cons_zero, List.getElem?_cons_succ, Option.some.injEq] at ho
        subst ho
        intro a W vs hB hS hE hU
        obtain ⟨r12, e43⟩ := hE 12 43 (by kernel_rfl) (by kernel_rfl)
        have v43 : a.eval (.tmp 43) = .bool false := e43.trans r12
        refine wpG_yes 12 false 43 rfl (by kernel_rfl) (by rw [hS]; simp) v43 ?_
        obtain ⟨r24, e55⟩ := hE 24 55 (by kernel_rfl) (by kernel_rfl)
        have v55 : a.eval (.tmp 55) = .slice ao l cap := e55.trans r24
        obtain ⟨r25, e56⟩ := hE 25 56 (by kernel_rfl) (by kernel_rfl)
        have v56 : a.eval (.tmp 56) = .int .i64 (m : Int) := e56.trans r25
        clear hE hU
        exact wp_value_inv (w' := W) (.slice (cutLow ao m cap) (l - m) (cap - m)) (op_slice_lo rfl v55 v56 (run_lo W ao l cap m (by omega))) ⟨_, rfl, hB, Fr.refl _ _, rfl, fun _ _ _ _ _ => trivial⟩
      · simp only [List.getElem?_cons_zero, List.getElem?_cons_succ, Option.some.injEq] at ho
        subst ho
        intro a W vs hB hS hE hU
        obtain ⟨r12, e43⟩ := hE 12 43 (by kernel_rfl) (by kernel_rfl)
        have v43 : a.eval (.tmp 43) = .bool false := e43.trans r12
        refine wpG_yes 12 false 43 rfl (by kernel_rfl) (by rw [hS]; simp) v43 ?_
        obtain ⟨r23, e54⟩ := hE 23 54 (by kernel_rfl) (by kernel_rfl)
        have v54 : a.eval (.tmp 54) = .slice ao m cap := e54.trans r23
        obtain ⟨r26, e57⟩ := hE 26 57 (by kernel_rfl) (by kernel_rfl)
        have v57 : a.eval (.tmp 57) = .slice (cutLow ao m cap) (l - m) (cap - m) := e57.trans r26
        clear hE hU
        refine wp_value_inv (w' := W.alloc (.cells #[.slice ao m cap, .slice (cutLow ao m cap) (l - m) (cap - m)] 38)) (.slice (some ⟨W.heap.size, 0, none⟩) 2 2) (op_rows rfl (by simp only [List.map_toArray, List.map_cons, List.map_nil, v54, v57]) (run_rows2 W _ _ _ _ _ _)) ?_
        exact ⟨_, rfl, hB.alloc _, (Fr.refl _ W).alloc _, ⟨W.heap.size, rfl, RowsIn.two trivial (HSM W hB) (HSE W hB) HB_HSM HB_HSE⟩, fun _ _ _ _ _ => trivial⟩
      · simp only [List.getElem?_cons_zero, List.getElem?_cons_succ, Option.some.injEq] at ho
        subst ho
        intro a W vs hB hS hE hU
        obtain ⟨r12, e43⟩ := hE 12 43 (by kernel_rfl) (by kernel_rfl)
        have v43 : a.eval (.tmp 43) = .bool false := e43.trans r12
        refine wpG_yes 12 false 43 rfl (by kernel_rfl) (by rw [hS]; simp) v43 ?_
        obtain ⟨⟨g27, rg27, hrow27⟩, e58⟩ := hE 27 58 (by kernel_rfl) (by kernel_rfl)
        have v58 : a.eval (.tmp 58) = .slice (some ⟨g27, 0, none⟩) 2 2 := e58.trans rg27
        clear hE hU
        rw [rg27] at hrow27
        refine wp_call_inv 11 #[.tmp 58] #[22] rfl #[.slice (some ⟨g27, 0, none⟩) 2 2] (by simp only [List.map_toArray, List.map_cons, List.map_nil, v58]) (sum_enter _) (Post := fun v W' => v = .agg (D.map bv).toArray ∧ Fr (fun _ => False) W W') ((sum_any (F := fun j => j < W.heap.size) W (HLD.out.keep hB (fun _ _ h => h)) (hrow27.mono (fun j hj _ => hj)) (fun j h => h) (by rw [HFL2m.out]; exact HXB.out)).mono fun e w' h => ⟨_, h.1, by rw [HFL2m.out, HDG.out], h.2⟩) ?_
        rintro v W' ⟨rfl, hf⟩
        exact ⟨_, rfl, hB.trans hf (fun _ h => h.elim), hf, rfl, fun _ _ _ _ _ => trivial⟩
      · simp only [List.getElem?_cons_zero, List.getElem?_cons_succ, Option.some.injEq] at ho
        subst ho
        intro a W vs hB hS hE hU
        obtain ⟨r12, e43⟩ := hE 12 43 (by kernel_rfl) (by kernel_rfl)
        have v43 : a.eval (.tmp 43) = .bool false := e43.trans r12
        refine wpG_yes 12 false 43 rfl (by kernel_rfl) (by rw [hS]; simp) v43 ?_
        obtain ⟨r20, e51⟩ := hE 20 51 (by kernel_rfl) (by kernel_rfl)
        have v51 : a.eval (.tmp 51) = .agg (D.map bv).toArray := e51.trans r20
        obtain ⟨r28, e59⟩ := hE 28 59 (by kernel_rfl) (by kernel_rfl)
        have v59 : a.eval (.tmp 59) = .agg (D.map bv).toArray := e59.trans r28
        clear hE hU
        exact wp_value_inv (w' := W) (.bool false) (op_bin rfl v51 v59 (run_eqGuard_agg W .neq 27 _ _ _ _ (by kernel_rfl)) ((run_neq_arr W 27 32 D D Tryd.underlying27 HDL.out HDL.out).trans (by simp))) ⟨_, rfl, hB, Fr.refl _ _, rfl, fun _ _ _ _ _ => trivial⟩
      · simp only [List.getElem?_cons_zero, List.getElem?_cons_succ, Option.some.injEq] at ho
        subst ho
        intro a W vs hB hS hE hU
        refine wpG_plain rfl ?_
        obtain ⟨r12, e43⟩ := hE 12 43 (by kernel_rfl) (by kernel_rfl)
        have v43 : a.eval (.tmp 43) = .bool false := e43.trans r12
        obtain ⟨r29, e60⟩ := hE 29 60 (by kernel_rfl) (by kernel_rfl)
        have v60 : a.eval (.tmp 60) = .bool false := e60.trans r29
        clear hE hU
        exact wp_value_inv (w' := W) (.bool false) (op_pick rfl v43 (by simp only [Bool.false_eq_true, if_false]; exact v60)) ⟨_, rfl, hB, Fr.refl _ _, rfl, fun _ _ _ _ _ => trivial⟩

    · intro vs W hB hR hD
      have r30 : vs 30 = .bool false := hR 30 (by decide)
      have r12 : vs 12 = .bool false := hR 12 (by decide)
      clear hR hD
      simp only [acts, if_true, dstAt, List.getElem?_cons_zero, List.getElem?_cons_succ, Option.bind_some, Act.put, List.setIfInBounds_toArray, List.set_cons_succ, List.set_cons_zero, List.drop_succ_cons, List.drop_nil]
      have HB1 := Lib.hid hB
      clear hB
      rw [r30, r12]
      clear r30 r12
      go_wp2_with fail
      obtain ⟨Hk, hHk⟩ : ∃ H, H = foldL (digest (textOf tag.data.toList ++ textsOf [X.take k, X.drop k])) := ⟨_, rfl⟩
      obtain ⟨Hm, hHm⟩ : ∃ H, H = foldL (digest (textOf tag.data.toList ++ textsOf [X.take m, X.drop m])) := ⟨_, rfl⟩
      have HHK := Lib.hid hHk.symm
      have HHM := Lib.hid hHm.symm
      have HLS := Lib.hid (show Hk.length = 20 ∧ Hm.length = 20 by rw [hHk, hHm]; simp [foldL, fl_length])
      have HKM := Lib.hid (show k = m → Hk = Hm by rintro rfl; rw [hHk, hHm])
      have hts : tag.data.toList.length = tag.size := by simp
      have htx : ∀ n, n ≤ l → tag.data.toList.length + (textsOf [X.take n, X.drop n]).length ≤ 1000000000 := fun n hn => by
        have h1 := textOf_length (X.take n)
        have h2 := textOf_length (X.drop n)
        have h3 := HLN.out
        simp only [textsOf, List.map_cons, List.map_nil, List.flatten_cons, List.flatten_nil, List.append_nil, List.length_append]
        rw [List.length_take] at h1
        rw [List.length_drop] at h2
        omega
      have HTBk := Lib.hid (htx k hkl)
      have HTBm := Lib.hid (htx m hml)
      clear hHk hHm hts htx
      generalize hbs : w1.heap.size = bs
      have HBS := Lib.hid hbs
      clear hbs
      refine wp_region_inv 20 (by kernel_rfl) (by kernel_rfl) (fun W => Fr (fun _ => False) w1 W) (HqR ao l cap k m w1.heap.size X Hk Hm tag) HqD (Fr (fun _ => False)) (HqR.ext ao l cap k m w1.heap.size X Hk Hm tag) HB1.out.drew ?_ ?_
      · intro i hi o ho
        replace hi : i < 20 := hi
        obtain rfl | rfl | rfl | rfl | rfl | rfl | rfl | rfl | rfl | rfl | rfl | rfl | rfl | rfl | rfl | rfl | rfl | rfl | rfl | rfl : i = 0 ∨ i = 1 ∨ i = 2 ∨ i = 3 ∨ i = 4 ∨ i = 5 ∨ i = 6 ∨ i = 7 ∨ i = 8 ∨ i = 9 ∨ i = 10 ∨ i = 11 ∨ i = 12 ∨ i = 13 ∨ i = 14 ∨ i = 15 ∨ i = 16 ∨ i = 17 ∨ i = 18 ∨ i = 19 := by omega
        · simp only [List.getElem?_cons_zero, Option.some.injEq] at ho
          subst ho
          intro a W vs hB hS hE hU
          refine wpG_plain rfl ?_
          have v3 : a.eval (.tmp 3) = .string tag := (hU 3 (by kernel_rfl)).trans rfl
          clear hE hU
          exact wp_value_inv (w' := W) (.string tag) (op_move rfl v3) ⟨_, rfl, hB, Fr.refl _ _, rfl, fun j u _ _ _ h8 => absurd h8 (by decide)⟩
        · simp only [List.getElem?_cons_zero, List.getElem?_cons_succ, Option.some.injEq] at ho
          subst ho
          intro a W vs hB hS hE hU
          refine wpG_plain rfl ?_
          have v0 : a.eval (.tmp 0) = .slice ao l cap := (hU 0 (by kernel_rfl)).trans rfl
          clear hE hU
          exact wp_value_inv (w' := W) (.slice ao l cap) (op_move rfl v0) ⟨_, rfl, hB, Fr.refl _ _, rfl, fun j u _ _ _ h8 => absurd h8 (by decide)⟩
        · simp only [List.getElem?_cons_zero, List.getElem?_cons_succ, Option.some.injEq] at ho
          subst ho
          intro a W vs hB hS hE hU
          refine wpG_plain rfl ?_
          have v9 : a.eval (.tmp 9) = .int .i64 (k : Int) := (hU 9 (by kernel_rfl)).trans rfl
          clear hE hU
          exact wp_value_inv (w' := W) (.int .i64 (k : Int)) (op_move rfl v9) ⟨_, rfl, hB, Fr.refl _ _, rfl, fun j u _ _ _ h8 => absurd h8 (by decide)⟩
        · simp only [List.getElem?_cons_zero, List.getElem?_cons_succ, Option.some.injEq] at ho
          subst ho
          intro a W vs hB hS hE hU
          refine wpG_plain rfl ?_
          obtain ⟨r1, e63⟩ := hE 1 63 (by kernel_rfl) (by kernel_rfl)
          have v63 : a.eval (.tmp 63) = .slice ao l cap := e63.trans r1
          obtain ⟨r2, e64⟩ := hE 2 64 (by kernel_rfl) (by kernel_rfl)
          have v64 : a.eval (.tmp 64) = .int .i64 (k : Int) := e64.trans r2
          clear hE hU
          exact wp_value_inv (w' := W) (.slice ao k cap) (op_slice_hi rfl v63 v64 (run_hi W ao l cap k (by omega))) ⟨_, rfl, hB, Fr.refl _ _, rfl, fun j u _ _ _ h8 => absurd h8 (by decide)⟩
        · simp only [List.getElem?_cons_zero, List.getElem?_cons_succ, Option.some.injEq] at ho
          subst ho
          intro a W vs hB hS hE hU
          refine wpG_plain rfl ?_
          have v0 : a.eval (.tmp 0) = .slice ao l cap := (hU 0 (by kernel_rfl)).trans rfl
          clear hE hU
          exact wp_value_inv (w' := W) (.slice ao l cap) (op_move rfl v0) ⟨_, rfl, hB, Fr.refl _ _, rfl, fun j u _ _ _ h8 => absurd h8 (by decide)⟩
        · simp only [List.getElem?_cons_zero, List.getElem?_cons_succ, Option.some.injEq] at ho
          subst ho
          intro a W vs hB hS hE hU
          refine wpG_plain rfl ?_
          have v9 : a.eval (.tmp 9) = .int .i64 (k : Int) := (hU 9 (by kernel_rfl)).trans rfl
          clear hE hU
          exact wp_value_inv (w' := W) (.int .i64 (k : Int)) (op_move rfl v9) ⟨_, rfl, hB, Fr.refl _ _, rfl, fun j u _ _ _ h8 => absurd h8 (by decide)⟩
        · simp only [List.getElem?_cons_zero, List.getElem?_cons_succ, Option.some.injEq] at ho
          subst ho
          intro a W vs hB hS hE hU
          refine wpG_plain rfl ?_
          obtain ⟨r4, e66⟩ := hE 4 66 (by kernel_rfl) (by kernel_rfl)
          have v66 : a.eval (.tmp 66) = .slice ao l cap := e66.trans r4
          obtain ⟨r5, e67⟩ := hE 5 67 (by kernel_rfl) (by kernel_rfl)
          have v67 : a.eval (.tmp 67) = .int .i64 (k : Int) := e67.trans r5
          clear hE hU
          exact wp_value_inv (w' := W) (.slice (cutLow ao k cap) (l - k) (cap - k)) (op_slice_lo rfl v66 v67 (run_lo W ao l cap k (by omega))) ⟨_, rfl, hB, Fr.refl _ _, rfl, fun j u _ _ _ h8 => absurd h8 (by decide)⟩
        · simp only [List.getElem?_cons_zero, List.getElem?_cons_succ, Option.some.injEq] at ho
          subst ho
          intro a W vs hB hS hE hU
          refine wpG_plain rfl ?_
          obtain ⟨r3, e65⟩ := hE 3 65 (by kernel_rfl) (by kernel_rfl)
          have v65 : a.eval (.tmp 65) = .slice ao k cap := e65.trans r3
          obtain ⟨r6, e68⟩ := hE 6 68 (by kernel_rfl) (by kernel_rfl)
          have v68 : a.eval (.tmp 68) = .slice (cutLow ao k cap) (l - k) (cap - k) := e68.trans r6
          clear hE hU
          refine wp_value_inv (w' := W.alloc (.cells #[.slice ao k cap, .slice (cutLow ao k cap) (l - k) (cap - k)] 38)) (.slice (some ⟨W.heap.size, 0, none⟩) 2 2) (op_rows rfl (by simp only [List.map_toArray, List.map_cons, List.map_nil, v65, v68]) (run_rows2 W _ _ _ _ _ _)) ?_
          exact ⟨_, rfl, hB.alloc _, (Fr.refl _ W).alloc _, ⟨W.heap.size, rfl, RowsIn.two trivial (HSK W hB) (HSD W hB) HB_HSK HB_HSD⟩, fun j u _ _ _ h8 => absurd h8 (by decide)⟩
        · simp only [List.getElem?_cons_zero, List.getElem?_cons_succ, Option.some.injEq] at ho
          subst ho
          intro a W vs hB hS hE hU
          refine wpG_plain rfl ?_
          obtain ⟨r0, e62⟩ := hE 0 62 (by kernel_rfl) (by kernel_rfl)
          have v62 : a.eval (.tmp 62) = .string tag := e62.trans r0
          obtain ⟨⟨g7, rg7, hrow7⟩, e69⟩ := hE 7 69 (by kernel_rfl) (by kernel_rfl)
          have v69 : a.eval (.tmp 69) = .slice (some ⟨g7, 0, none⟩) 2 2 := e69.trans rg7
          clear hE hU
          rw [rg7] at hrow7
          refine wp_call_inv 16 #[.tmp 62, .tmp 69] #[9, 22] rfl #[.string tag, .slice (some ⟨g7, 0, none⟩) 2 2] (by simp only [List.map_toArray, List.map_cons, List.map_nil, v62, v69]) (of_enter _) (Post := fun v W' => v = .agg (Hk.map bv).toArray ∧ Fr (fun _ => False) W W') ((of_any (F := fun j => j < W.heap.size) tag W (HLD.out.keep hB (fun _ _ h => h)) (hrow7.mono (fun j hj _ => hj)) (fun j h => h) HTBk.out).mono fun e w' h => ⟨_, h.1, by rw [HHK.out], h.2⟩) ?_
          rintro v W' ⟨rfl, hf⟩
          exact ⟨_, rfl, hB.trans hf (fun _ h => h.elim), hf, rfl, fun j u _ _ _ h8 => absurd h8 (by decide)⟩
        · simp only [List.getElem?_cons_zero, List.getElem?_cons_succ, Option.some.injEq] at ho
          subst ho
          intro a W vs hB hS hE hU
          refine wpG_plain rfl ?_
          have v3 : a.eval (.tmp 3) = .string tag := (hU 3 (by kernel_rfl)).trans rfl
          clear hE hU
          exact wp_value_inv (w' := W) (.string tag) (op_move rfl v3) ⟨_, rfl, hB, Fr.refl _ _, rfl, fun j u _ _ _ h8 => absurd h8 (by decide)⟩
        · simp only [List.getElem?_cons_zero, List.getElem?_cons_succ, Option.some.injEq] at ho
          subst ho
          intro a W vs hB hS hE hU
          refine wpG_plain rfl ?_
          have v0 : a.eval (.tmp 0) = .slice ao l cap := (hU 0 (by kernel_rfl)).trans rfl
          clear hE hU
          exact wp_value_inv (w' := W) (.slice ao l cap) (op_move rfl v0) ⟨_, rfl, hB, Fr.refl _ _, rfl, fun j u _ _ _ h8 => absurd h8 (by decide)⟩
        · simp only [List.getElem?_cons_zero, List.getElem?_cons_succ, Option.some.injEq] at ho
          subst ho
          intro a W vs hB hS hE hU
          refine wpG_plain rfl ?_
          have v10 : a.eval (.tmp 10) = .int .i64 (m : Int) := (hU 10 (by kernel_rfl)).trans rfl
          clear hE hU
          exact wp_value_inv (w' := W) (.int .i64 (m : Int)) (op_move rfl v10) ⟨_, rfl, hB, Fr.refl _ _, rfl, fun j u _ _ _ h8 => absurd h8 (by decide)⟩
        · simp only [List.getElem?_cons_zero, List.getElem?_cons_succ, Option.some.injEq] at ho
          subst ho
          intro a W vs hB hS hE hU
          refine wpG_plain rfl ?_
          obtain ⟨r10, e72⟩ := hE 10 72 (by kernel_rfl) (by kernel_rfl)
          have v72 : a.eval (.tmp 72) = .slice ao l cap := e72.trans r10
          obtain ⟨r11, e73⟩ := hE 11 73 (by kernel_rfl) (by kernel_rfl)
          have v73 : a.eval (.tmp 73) = .int .i64 (m : Int) := e73.trans r11
          clear hE hU
          exact wp_value_inv (w' := W) (.slice ao m cap) (op_slice_hi rfl v72 v73 (run_hi W ao l cap m (by omega))) ⟨_, rfl, hB, Fr.refl _ _, rfl, fun j u _ _ _ h8 => absurd h8 (by decide)⟩
        · simp only [List.getElem?_cons_zero, List.getElem?_cons_succ, Option.some.injEq] at ho
          subst ho
          intro a W vs hB hS hE hU
          refine wpG_plain rfl ?_
          have v0 : a.eval (.tmp 0) = .slice ao l cap := (hU 0 (by kernel_rfl)).trans rfl
          clear hE hU
          exact wp_value_inv (w' := W) (.slice ao l cap) (op_move rfl v0) ⟨_, rfl, hB, Fr.refl _ _, rfl, fun j u _ _ _ h8 => absurd h8 (by decide)⟩
        · simp only [List.getElem?_cons_zero, List.getElem?_cons_succ, Option.some.injEq] at ho
          subst ho
          intro a W vs hB hS hE hU
          refine wpG_plain rfl ?_
          have v10 : a.eval (.tmp 10) = .int .i64 (m : Int) := (hU 10 (by kernel_rfl)).trans rfl
          clear hE hU
          exact wp_value_inv (w' := W) (.int .i64 (m : Int)) (op_move rfl v10) ⟨_, rfl, hB, Fr.refl _ _, rfl, fun j u _ _ _ h8 => absurd h8 (by decide)⟩
        · simp only [List.getElem?_cons_zero, List.getElem?_cons_succ, Option.some.injEq] at ho
          subst ho
          intro a W vs hB hS hE hU
          refine wpG_plain rfl ?_
          obtain ⟨r13, e75⟩ := hE 13 75 (by kernel_rfl) (by kernel_rfl)
          have v75 : a.eval (.tmp 75) = .slice ao l cap := e75.trans r13
          obtain ⟨r14, e76⟩ := hE 14 76 (by kernel_rfl) (by kernel_rfl)
          have v76 : a.eval (.tmp 76) = .int .i64 (m : Int) := e76.trans r14
          clear hE hU
          exact wp_value_inv (w' := W) (.slice (cutLow ao m cap) (l - m) (cap - m)) (op_slice_lo rfl v75 v76 (run_lo W ao l cap m (by omega))) ⟨_, rfl, hB, Fr.refl _ _, rfl, fun j u _ _ _ h8 => absurd h8 (by decide)⟩
        · simp only [List.getElem?_cons_zero, List.getElem?_cons_succ, Option.some.injEq] at ho
          subst ho
          intro a W vs hB hS hE hU
          refine wpG_plain rfl ?_
          obtain ⟨r12, e74⟩ := hE 12 74 (by kernel_rfl) (by kernel_rfl)
          have v74 : a.eval (.tmp 74) = .slice ao m cap := e74.trans r12
          obtain ⟨r15, e77⟩ := hE 15 77 (by kernel_rfl) (by kernel_rfl)
          have v77 : a.eval (.tmp 77) = .slice (cutLow ao m cap) (l - m) (cap - m) := e77.trans r15
          clear hE hU
          refine wp_value_inv (w' := W.alloc (.cells #[.slice ao m cap, .slice (cutLow ao m cap) (l - m) (cap - m)] 38)) (.slice (some ⟨W.heap.size, 0, none⟩) 2 2) (op_rows rfl (by simp only [List.map_toArray, List.map_cons, List.map_nil, v74, v77]) (run_rows2 W _ _ _ _ _ _)) ?_
          exact ⟨_, rfl, hB.alloc _, (Fr.refl _ W).alloc _, ⟨W.heap.size, rfl, RowsIn.two trivial (HSM W hB) (HSE W hB) HB_HSM HB_HSE⟩, fun j u _ _ _ h8 => absurd h8 (by decide)⟩
        · simp only [List.getElem?_cons_zero, List.getElem?_cons_succ, Option.some.injEq] at ho
          subst ho
          intro a W vs hB hS hE hU
          refine wpG_plain rfl ?_
          obtain ⟨r9, e71⟩ := hE 9 71 (by kernel_rfl) (by kernel_rfl)
          have v71 : a.eval (.tmp 71) = .string tag := e71.trans r9
          obtain ⟨⟨g16, rg16, hrow16⟩, e78⟩ := hE 16 78 (by kernel_rfl) (by kernel_rfl)
          have v78 : a.eval (.tmp 78) = .slice (some ⟨g16, 0, none⟩) 2 2 := e78.trans rg16
          clear hE hU
          rw [rg16] at hrow16
          refine wp_call_inv 16 #[.tmp 71, .tmp 78] #[9, 22] rfl #[.string tag, .slice (some ⟨g16, 0, none⟩) 2 2] (by simp only [List.map_toArray, List.map_cons, List.map_nil, v71, v78]) (of_enter _) (Post := fun v W' => v = .agg (Hm.map bv).toArray ∧ Fr (fun _ => False) W W') ((of_any (F := fun j => j < W.heap.size) tag W (HLD.out.keep hB (fun _ _ h => h)) (hrow16.mono (fun j hj _ => hj)) (fun j h => h) HTBm.out).mono fun e w' h => ⟨_, h.1, by rw [HHM.out], h.2⟩) ?_
          rintro v W' ⟨rfl, hf⟩
          exact ⟨_, rfl, hB.trans hf (fun _ h => h.elim), hf, rfl, fun j u _ _ _ h8 => absurd h8 (by decide)⟩
        · simp only [List.getElem?_cons_zero, List.getElem?_cons_succ, Option.some.injEq] at ho
          subst ho
          intro a W vs hB hS hE hU
          refine wpG_plain rfl ?_
          clear hE hU
          refine wp_value_inv (w' := W.alloc (.cells ((List.replicate 20 (0 : UInt8)).map bv).toArray 33)) (.pointer (some ⟨W.heap.size, 0, none⟩)) (by rfl) ?_
          have hf : Fr (fun _ => False) W (W.alloc (.cells ((List.replicate 20 (0 : UInt8)).map bv).toArray 33)) := (Fr.refl _ _).alloc _
          refine ⟨_, rfl, hB.trans hf (fun _ h => h.elim), hf, ⟨W.heap.size, rfl, hB.size, heap_alloc_new _ _⟩, fun j u hj hji hr _ h8 g h hg hh => ?_⟩
          cases hg
          rintro rfl
          exact absurd (HqR.lt hj h8 hr hh) (by omega)
        · simp only [List.getElem?_cons_zero, List.getElem?_cons_succ, Option.some.injEq] at ho
          subst ho
          intro a W vs hB hS hE hU
          refine wpG_plain rfl ?_
          clear hE hU
          refine wp_value_inv (w' := W.alloc (.cells ((List.replicate 20 (0 : UInt8)).map bv).toArray 33)) (.pointer (some ⟨W.heap.size, 0, none⟩)) (by rfl) ?_
          have hf : Fr (fun _ => False) W (W.alloc (.cells ((List.replicate 20 (0 : UInt8)).map bv).toArray 33)) := (Fr.refl _ _).alloc _
          refine ⟨_, rfl, hB.trans hf (fun _ h => h.elim), hf, ⟨W.heap.size, rfl, hB.size, heap_alloc_new _ _⟩, fun j u hj hji hr _ h8 g h hg hh => ?_⟩
          cases hg
          rintro rfl
          exact absurd (HqR.lt hj h8 hr hh) (by omega)

      · intro us W2 hB hR hD
        have r8 : us 8 = .agg (Hk.map bv).toArray := hR 8 (by decide)
        have r17 : us 17 = .agg (Hm.map bv).toArray := hR 17 (by decide)
        obtain ⟨g18, e18, hg18, hb18⟩ := hR 18 (by decide)
        obtain ⟨g19, e19, hg19, hb19⟩ := hR 19 (by decide)
        have n1 : g18 ≠ g19 := by
          rcases hD 18 19 (by decide) (by decide) (by decide) with h | h
          · exact h (by decide) (by decide) _ _ e18 e19
          · exact (h (by decide) (by decide) _ _ e19 e18).symm
        clear hD hR
        simp only [acts, if_true, dstAt, List.getElem?_cons_zero, List.getElem?_cons_succ, Option.bind_some, Act.put, r8, r17, e18, e19, List.setIfInBounds_toArray, List.set_cons_succ, List.set_cons_zero, List.drop_succ_cons, List.drop_zero]
        have hz : ((List.replicate 20 (0 : UInt8)).map bv).toArray.size = 20 := by simp
        have hsz1 : (Hk.map bv).toArray.size = 20 := by simp [HLS.out.1]
        have hsz2 : (Hm.map bv).toArray.size = 20 := by simp [HLS.out.2]
        have hone : ∀ L : List UInt8, (L.map bv).toArray.all (·.oneCell') = true := fun L => all_oneCell_toArray (bv_one _)
        have ht : (Tryd.prog.info? 33).map (·.size) = some 20 := by kernel_rfl
        refine wpList_store_row rfl 33 (.tmp 11) (.tmp 70) rfl g18 _ _ 33 rfl rfl hb18 (by rw [hsz1]; exact ht) (by rw [hsz1, hz]) (hone _) ?_
        refine wpList_store_row rfl 33 (.tmp 12) (.tmp 79) rfl g19 _ _ 33 rfl rfl ((setRow_other _ _ _ _ n1.symm).trans hb19) (by rw [hsz2]; exact ht) (by rw [hsz2, hz]) (hone _) ?_
        obtain ⟨W4, hW4⟩ : ∃ W4, W4 = (W2.setRow g18 (Hk.map bv).toArray).setRow g19 (Hm.map bv).toArray := ⟨_, rfl⟩
        have hF : Fr (fun _ => False) w1 W4 := by
          rw [hW4]
          exact (hB.setRow (.inr hg18) _).setRow (.inr hg19) _
        have k19 : BytT W4 g19 33 Hm := by
          rw [hW4]
          exact setRow_heap _ _ _ _ _ _ ((setRow_other _ _ _ _ n1.symm).trans hb19)
        have k18 : BytT W4 g18 33 Hk := by
          rw [hW4]
          exact (setRow_other _ _ _ _ n1).trans (setRow_heap _ _ _ _ _ _ hb18)
        rw [← hW4]
        have HK := Lib.hid (And.intro hF (And.intro k18 k19))
        clear hW4 hF k18 k19 hz hsz1 hsz2 hone ht hb18 hb19 n1 r8 r17 e18 e19 hB hg18 hg19
        have hgd : Tryd.prog.eqGuardType Tryd.prog.depth 33 = false := by kernel_rfl
        by_cases hkm : k = m
        · have hKM := HKM.out hkm
          subst hkm
          rw [← hKM] at HK HLS
          have he := fun w => run_eql_arr w 33 20 Hk Hk Tryd.underlying33 HLS.out.1 HLS.out.1
          simp only [beq_self_eq_true] at he
          clear hKM HKM
          obtain ⟨CK, hCK⟩ : ∃ C, C = (Hk.map bv).toArray := ⟨_, rfl⟩
          have hCs : CK.size = 20 := by rw [hCK]; simp [HLS.out.1]
          have hk1 : W4.heap[g18]? = some (.cells CK 33 (0, 0)) := by rw [hCK]; exact HK.out.2.1
          have hk2 : W4.heap[g19]? = some (.cells CK 33 (0, 0)) := by rw [hCK]; exact HK.out.2.2
          simp only [← hCK] at he
          clear hCK
          go_wp2_with (first
            | (with_reducible refine wpList_load_row_g (by simp [Region.wanted, yielded]) 33 (.tmp 11) rfl g18 rfl 33 CK (0, 0) _ hk1 Tryd.underlying33 rfl (by rw [hCs]; kernel_rfl) ?_)
            | (with_reducible refine wpList_load_row_g (by simp [Region.wanted, yielded, Act.put]) 33 (.tmp 12) rfl g19 rfl 33 CK (0, 0) _ hk2 Tryd.underlying33 rfl (by rw [hCs]; kernel_rfl) ?_))
          go_ret
          exact ⟨rfl, HF1.out.trans HK.out.1 (fun _ h => h.elim)⟩
        · have hne : ((k : Int) != (m : Int)) = true := by rw [bne_iff_ne]; omega
          clear hkm
          go_wp2
          go_ret
          exact ⟨rfl, HF1.out.trans HK.out.1 (fun _ h => h.elim)⟩
end Go.Proofs.YthjpgnmpcllolaaDoor
