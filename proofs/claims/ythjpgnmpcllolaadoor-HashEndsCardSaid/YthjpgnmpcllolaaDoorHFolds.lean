/- HashFolds' walk. Printed by gen_hfolds.py (wip/gen). -/
import Derived.Test.YthjpgnmpcllolaaDoorHSums
import Derived.Test.YthjpgnmpcllolaaDoorROf
namespace Go.Proofs.YthjpgnmpcllolaaDoor
open Go.RowKit Go.ChangeShapes
set_option linter.unusedVariables false

theorem textsOf_le (P : List (List UInt8)) : (textsOf P).length ≤ 6 * P.length + P.flatten.length := by
  induction P with
  | nil => simp [textsOf]
  | cons X P ih =>
    have h1 := textOf_length X
    have h2 : textsOf (X :: P) = textOf X ++ textsOf P := by simp [textsOf]
    rw [h2, List.length_append, List.length_cons, List.flatten_cons, List.length_append]
    omega
theorem BytT.range {w : World} {g : Nat} {T : TypeId} {L : List UInt8} (h : BytT w g T L) : w.rangeAt g 0 (L.map bv) := by
  have h1 := World.rangeAt_of_block h 0 (L.map bv).length
  have h2 : ((L.map bv).toArray.extract 0 (0 + (L.map bv).length)).toList = L.map bv := by simp [List.take_of_length_le]
  rwa [h2] at h1

theorem Act.eval_const_ (a : Act) (v : Value) : a.eval (.const v) = v := rfl
theorem fold_enter (args : Array Value) (w : World) : (callFunc 14 args).run Tryd.prog w = .ok (.enter 14 args) w := by rfl
theorem rfold_enter (args : Array Value) (w : World) : (callFunc 15 args).run Tryd.prog w = .ok (.enter 15 args) w := by rfl
theorem rof_enter (args : Array Value) (w : World) : (callFunc 17 args).run Tryd.prog w = .ok (.enter 17 args) w := by rfl
theorem kept_enter (args : Array Value) (w : World) : (callFunc 13 args).run Tryd.prog w = .ok (.enter 13 args) w := by rfl
theorem awake_enter (args : Array Value) (w : World) : (callFunc 9 args).run Tryd.prog w = .ok (.enter 9 args) w := by rfl
def HdR (bx : Nat) (S Hh : List UInt8) (tag : ByteArray) (ul vp : Value) (i : Nat) (v : Value) (W : World) : Prop :=
  match i with
  | 0 => v = .agg (S.map bv).toArray
  | 1 => v = .agg ((foldL S).map bv).toArray
  | 2 => v = .agg (S.map bv).toArray
  | 3 => v = .agg ((foldL S).map bv).toArray
  | 4 => v = .bool true
  | 5 => v = .bool true
  | 6 => v = .string tag
  | 7 => v = ul
  | 8 => v = .agg (Hh.map bv).toArray
  | 9 => v = .string tag
  | 10 => v = vp
  | 11 => v = .agg (Hh.map bv).toArray
  | 12 => v = .bool true
  | 13 => v = .bool true
  | 14 => v = .bool true
  | 15 => v = ul
  | 16 => v = vp
  | 17 => v = .bool true
  | 18 => v = .bool true
  | 19 => v = .bool true
  | 20 => v = .bool true
  | 21 => v = .bool true
  | _ => True
theorem HdR.ext (bx : Nat) (S Hh : List UInt8) (tag : ByteArray) (ul vp : Value) : ∀ (j : Nat) (u : Value) (W W' : World), Fr (fun _ => False) W W' → HdR bx S Hh tag ul vp j u W → HdR bx S Hh tag ul vp j u W'
  | 0, u, W, W', hf, h => h
  | 1, u, W, W', hf, h => h
  | 2, u, W, W', hf, h => h
  | 3, u, W, W', hf, h => h
  | 4, u, W, W', hf, h => h
  | 5, u, W, W', hf, h => h
  | 6, u, W, W', hf, h => h
  | 7, u, W, W', hf, h => h
  | 8, u, W, W', hf, h => h
  | 9, u, W, W', hf, h => h
  | 10, u, W, W', hf, h => h
  | 11, u, W, W', hf, h => h
  | 12, u, W, W', hf, h => h
  | 13, u, W, W', hf, h => h
  | 14, u, W, W', hf, h => h
  | 15, u, W, W', hf, h => h
  | 16, u, W, W', hf, h => h
  | 17, u, W, W', hf, h => h
  | 18, u, W, W', hf, h => h
  | 19, u, W, W', hf, h => h
  | 20, u, W, W', hf, h => h
  | 21, u, W, W', hf, h => h
  | _ + 22, u, W, W', hf, h => trivial

set_option maxRecDepth 100000 in
set_option maxHeartbeats 800000 in
theorem hfolds_any (S : List UInt8) (hS : S.length = 32) (tag : ByteArray) (htag : tag.size ≤ 140737488351232) (vp : Value) (P : List (List UInt8)) (w : World) (hL : Laid w) (hP : RowsIn (fun k => k < w.heap.size) w vp P) (hPl : P.length ≤ 140737488351232) :
    Calls Tryd.prog 4 #[.agg (S.map bv).toArray, .string tag, vp] w fun e w' => e = .returned (.bool true) ∧ Fr (fun _ => False) w w' := by
  obtain ⟨CS, hCS⟩ : ∃ CS, CS = (S.map bv).toArray := ⟨_, rfl⟩
  have HCS := Lib.hid hCS
  rw [← hCS]
  have HL := Lib.hid hL
  have HP := Lib.hid hP
  clear hL hP hCS
  go_enter Tryd.func4, Tryd.ntmps4
  go_wp2_with fail
  obtain ⟨w0, hw0⟩ : ∃ w0, w0 = w.alloc (.cells CS 27) := ⟨_, rfl⟩
  have HB0 := Lib.hid (show BytT w0 w.heap.size 27 S by rw [hw0, HCS.out]; exact heap_alloc_new w _)
  have HF0 := Lib.hid (show Fr (fun _ => False) w w0 by rw [hw0]; exact (Fr.refl _ w).alloc _)
  rw [← hw0]
  clear hw0
  have HP0 := Lib.hid ((HP.out.keep HF0.out (fun _ _ _ h => h)))
  refine (size_any w0 HP0.out).mono ?_
  rintro e w' ⟨z, rfl, rfl, hz1, hz2, hz3, hz4⟩
  have hts : tag.size = tag.data.toList.length := by simp
  have HTS := Lib.hid hts
  clear hts
  by_cases hz : z + tag.size ≤ 6000
  · have ht := hz1 (by omega)
    have hzi : ¬ (6000 : Int) < (z : Int) + (tag.size : Int) := by omega
    have HT := Lib.hid (show P.length + P.flatten.length + tag.size ≤ 6000 by omega)
    have HM := Lib.hid (fun X (h : X ∈ P) => mem_flatten_le h)
    clear hz1 hz2 ht
    have HA := Lib.hid (LentRows_any w0 HP0.out (by have := HT.out; omega) (fun X h => by have := HM.out X h; have := HT.out; omega))
    go_wp2_with (first
      | (go_at_call 10; refine HA.out.mono ?_; rintro e w1 ⟨ul, rfl, hu, hf1⟩; have H1 := Lib.hid (And.intro hu hf1); have HB1 := Lib.hid (HB0.out.keep hf1 (fun h => h)); have HFF1 := Lib.hid (HF0.out.trans hf1 (fun _ h => h.elim)); have hz1 := hf1.size; clear hu hf1)
      | fail)
    obtain ⟨Hh, hHh⟩ : ∃ H, H = foldL (digest (textOf tag.data.toList ++ textsOf P)) := ⟨_, rfl⟩
    have HHE := Lib.hid hHh.symm
    have HH20 := Lib.hid (show Hh.length = 20 by rw [hHh]; simp [foldL, fl_length])
    have HS20 := Lib.hid (show (foldL S).length = 20 by simp [foldL, fl_length])
    have hS32 := Lib.hid hS
    have HTX := Lib.hid (show tag.data.toList.length + (textsOf P).length ≤ 1000000000 by have := HT.out; have := textsOf_le P; have := HTS.out; omega)
    have HMX := Lib.hid (fun X (h : X ∈ P) => show X.length ≤ 1000000000 by have := HM.out X h; have := HT.out; omega)
    clear hHh hS
    have HOF := fun W (hB : Fr (fun _ => False) w1 W) => of_any (F := fun k => w0.heap.size ≤ k ∧ k < W.heap.size) tag W (HL.out.keep (HFF1.out.trans hB (fun _ h => h.elim)) (fun _ _ h => h)) ((H1.out.1.keep hB (fun _ _ h => h)).rows (fun X h => by have := HMX.out X h; omega)) (fun k h => h.2) HTX.out
    have HROF := fun W (hB : Fr (fun _ => False) w1 W) => rof_any (F := fun k => k < w.heap.size) tag W (HP.out.keep (HFF1.out.trans hB (fun _ h => h.elim)) (fun _ _ _ h => h)) (fun k h => Nat.lt_of_lt_of_le h (HFF1.out.trans hB (fun _ h => h.elim)).size) HTX.out
    have HKR := fun W (hB : Fr (fun _ => False) w1 W) => KeptRows_any W (H1.out.1.keep hB (fun _ _ h => h)) (HP.out.keep (HFF1.out.trans hB (fun _ h => h.elim)) (fun _ _ _ h => h)) HMX.out
    have HAW := fun W (hB : Fr (fun _ => False) w1 W) => awake_any W (HL.out.keep (HFF1.out.trans hB (fun _ h => h.elim)) (fun _ _ h => h))
    refine wp_region_inv 22 (by kernel_rfl) (by kernel_rfl) (fun W => Fr (fun _ => False) w1 W) (HdR w.heap.size S Hh tag ul vp ) (fun _ _ _ _ => True) (Fr (fun _ => False)) (HdR.ext w.heap.size S Hh tag ul vp) (Fr.refl _ _).drew ?_ ?_
    · intro i hi o ho
      replace hi : i < 22 := hi
      generalize hbx : w.heap.size = bx at *
      obtain rfl | rfl | rfl | rfl | rfl | rfl | rfl | rfl | rfl | rfl | rfl | rfl | rfl | rfl | rfl | rfl | rfl | rfl | rfl | rfl | rfl | rfl : i = 0 ∨ i = 1 ∨ i = 2 ∨ i = 3 ∨ i = 4 ∨ i = 5 ∨ i = 6 ∨ i = 7 ∨ i = 8 ∨ i = 9 ∨ i = 10 ∨ i = 11 ∨ i = 12 ∨ i = 13 ∨ i = 14 ∨ i = 15 ∨ i = 16 ∨ i = 17 ∨ i = 18 ∨ i = 19 ∨ i = 20 ∨ i = 21 := by omega
      · simp only [List.getElem?_cons_zero, Option.some.injEq] at ho
        subst ho
        intro a W vs hB hS hE hU
        refine wpG_plain rfl ?_
        have v3 : a.eval (.tmp 3) = .pointer (some ⟨bx, 0, none⟩) := (hU 3 (by kernel_rfl)).trans rfl
        clear hE hU
        exact wp_load_row 27 (.tmp 3) rfl bx v3 27 (S.map bv).toArray (0, 0) _ (HB1.out.keep hB (fun h => h)) Tryd.underlying27 rfl (by rw [List.size_toArray, List.length_map, hS32.out]; kernel_rfl) ⟨_, rfl, hB, Fr.refl _ _, rfl, fun _ _ _ _ _ => trivial⟩
      · simp only [List.getElem?_cons_zero, List.getElem?_cons_succ, Option.some.injEq] at ho
        subst ho
        intro a W vs hB hS hE hU
        refine wpG_plain rfl ?_
        obtain ⟨r0, e17⟩ := hE 0 17 (by kernel_rfl) (by kernel_rfl)
        have v17 : a.eval (.tmp 17) = .agg (S.map bv).toArray := e17.trans r0
        clear hE hU
        refine wp_call_inv 14 #[.tmp 17] #[27] rfl #[.agg (S.map bv).toArray] (by simp only [List.map_toArray, List.map_cons, List.map_nil, v17]) (fold_enter _) (Post := fun v W' => v = .agg ((foldL S).map bv).toArray ∧ Fr (fun _ => False) W W') ((fold_any W S hS32.out).mono fun e w' h => ⟨_, h.1, rfl, h.2⟩) ?_
        rintro v W' ⟨rfl, hf⟩
        exact ⟨_, rfl, hB.trans hf (fun _ h => h.elim), hf, rfl, fun _ _ _ _ _ => trivial⟩
      · simp only [List.getElem?_cons_zero, List.getElem?_cons_succ, Option.some.injEq] at ho
        subst ho
        intro a W vs hB hS hE hU
        refine wpG_plain rfl ?_
        have v3 : a.eval (.tmp 3) = .pointer (some ⟨bx, 0, none⟩) := (hU 3 (by kernel_rfl)).trans rfl
        clear hE hU
        exact wp_load_row 27 (.tmp 3) rfl bx v3 27 (S.map bv).toArray (0, 0) _ (HB1.out.keep hB (fun h => h)) Tryd.underlying27 rfl (by rw [List.size_toArray, List.length_map, hS32.out]; kernel_rfl) ⟨_, rfl, hB, Fr.refl _ _, rfl, fun _ _ _ _ _ => trivial⟩
      · simp only [List.getElem?_cons_zero, List.getElem?_cons_succ, Option.some.injEq] at ho
        subst ho
        intro a W vs hB hS hE hU
        refine wpG_plain rfl ?_
        obtain ⟨r2, e19⟩ := hE 2 19 (by kernel_rfl) (by kernel_rfl)
        have v19 : a.eval (.tmp 19) = .agg (S.map bv).toArray := e19.trans r2
        clear hE hU
        refine wp_call_inv 15 #[.tmp 19] #[27] rfl #[.agg (S.map bv).toArray] (by simp only [List.map_toArray, List.map_cons, List.map_nil, v19]) (rfold_enter _) (Post := fun v W' => v = .agg ((foldL S).map bv).toArray ∧ Fr (fun _ => False) W W') ((rfold_any W S hS32.out).mono fun e w' h => ⟨_, h.1, rfl, h.2⟩) ?_
        rintro v W' ⟨rfl, hf⟩
        exact ⟨_, rfl, hB.trans hf (fun _ h => h.elim), hf, rfl, fun _ _ _ _ _ => trivial⟩
      · simp only [List.getElem?_cons_zero, List.getElem?_cons_succ, Option.some.injEq] at ho
        subst ho
        intro a W vs hB hS hE hU
        refine wpG_plain rfl ?_
        obtain ⟨r1, e18⟩ := hE 1 18 (by kernel_rfl) (by kernel_rfl)
        have v18 : a.eval (.tmp 18) = .agg ((foldL S).map bv).toArray := e18.trans r1
        obtain ⟨r3, e20⟩ := hE 3 20 (by kernel_rfl) (by kernel_rfl)
        have v20 : a.eval (.tmp 20) = .agg ((foldL S).map bv).toArray := e20.trans r3
        clear hE hU
        exact wp_value_inv (w' := W) (.bool true) (op_bin rfl v18 v20 (run_eqGuard_agg W .eql 33 _ _ _ _ (by kernel_rfl)) ((run_eql_arr W 33 20 (foldL S) (foldL S) Tryd.underlying33 HS20.out HS20.out).trans (by simp))) ⟨_, rfl, hB, Fr.refl _ _, rfl, fun _ _ _ _ _ => trivial⟩
      · simp only [List.getElem?_cons_zero, List.getElem?_cons_succ, Option.some.injEq] at ho
        subst ho
        intro a W vs hB hS hE hU
        refine wpG_plain rfl ?_
        obtain ⟨r4, e21⟩ := hE 4 21 (by kernel_rfl) (by kernel_rfl)
        have v21 : a.eval (.tmp 21) = .bool true := e21.trans r4
        clear hE hU
        exact wp_value_inv (w' := W) (.bool true) (op_move rfl v21) ⟨_, rfl, hB, Fr.refl _ _, rfl, fun _ _ _ _ _ => trivial⟩
      · simp only [List.getElem?_cons_zero, List.getElem?_cons_succ, Option.some.injEq] at ho
        subst ho
        intro a W vs hB hS hE hU
        obtain ⟨r5, e22⟩ := hE 5 22 (by kernel_rfl) (by kernel_rfl)
        have v22 : a.eval (.tmp 22) = .bool true := e22.trans r5
        refine wpG_yes 5 true 22 rfl (by kernel_rfl) (by rw [hS]; simp) v22 ?_
        have v1 : a.eval (.tmp 1) = .string tag := (hU 1 (by kernel_rfl)).trans rfl
        clear hE hU
        exact wp_value_inv (w' := W) (.string tag) (op_move rfl v1) ⟨_, rfl, hB, Fr.refl _ _, rfl, fun _ _ _ _ _ => trivial⟩
      · simp only [List.getElem?_cons_zero, List.getElem?_cons_succ, Option.some.injEq] at ho
        subst ho
        intro a W vs hB hS hE hU
        obtain ⟨r5, e22⟩ := hE 5 22 (by kernel_rfl) (by kernel_rfl)
        have v22 : a.eval (.tmp 22) = .bool true := e22.trans r5
        refine wpG_yes 5 true 22 rfl (by kernel_rfl) (by rw [hS]; simp) v22 ?_
        have v7 : a.eval (.tmp 7) = ul := (hU 7 (by kernel_rfl)).trans rfl
        clear hE hU
        exact wp_value_inv (w' := W) (ul) (op_move rfl v7) ⟨_, rfl, hB, Fr.refl _ _, rfl, fun _ _ _ _ _ => trivial⟩
      · simp only [List.getElem?_cons_zero, List.getElem?_cons_succ, Option.some.injEq] at ho
        subst ho
        intro a W vs hB hS hE hU
        obtain ⟨r5, e22⟩ := hE 5 22 (by kernel_rfl) (by kernel_rfl)
        have v22 : a.eval (.tmp 22) = .bool true := e22.trans r5
        refine wpG_yes 5 true 22 rfl (by kernel_rfl) (by rw [hS]; simp) v22 ?_
        obtain ⟨r6, e23⟩ := hE 6 23 (by kernel_rfl) (by kernel_rfl)
        have v23 : a.eval (.tmp 23) = .string tag := e23.trans r6
        obtain ⟨r7, e24⟩ := hE 7 24 (by kernel_rfl) (by kernel_rfl)
        have v24 : a.eval (.tmp 24) = ul := e24.trans r7
        clear hE hU
        refine wp_call_inv 16 #[.tmp 23, .tmp 24] #[9, 22] rfl #[.string tag, ul] (by simp only [List.map_toArray, List.map_cons, List.map_nil, v23, v24]) (of_enter _) (Post := fun v W' => v = .agg (Hh.map bv).toArray ∧ Fr (fun _ => False) W W') ((HOF W hB).mono fun e w' h => ⟨_, h.1, by rw [HHE.out], h.2⟩) ?_
        rintro v W' ⟨rfl, hf⟩
        exact ⟨_, rfl, hB.trans hf (fun _ h => h.elim), hf, rfl, fun _ _ _ _ _ => trivial⟩
      · simp only [List.getElem?_cons_zero, List.getElem?_cons_succ, Option.some.injEq] at ho
        subst ho
        intro a W vs hB hS hE hU
        obtain ⟨r5, e22⟩ := hE 5 22 (by kernel_rfl) (by kernel_rfl)
        have v22 : a.eval (.tmp 22) = .bool true := e22.trans r5
        refine wpG_yes 5 true 22 rfl (by kernel_rfl) (by rw [hS]; simp) v22 ?_
        have v1 : a.eval (.tmp 1) = .string tag := (hU 1 (by kernel_rfl)).trans rfl
        clear hE hU
        exact wp_value_inv (w' := W) (.string tag) (op_move rfl v1) ⟨_, rfl, hB, Fr.refl _ _, rfl, fun _ _ _ _ _ => trivial⟩
      · simp only [List.getElem?_cons_zero, List.getElem?_cons_succ, Option.some.injEq] at ho
        subst ho
        intro a W vs hB hS hE hU
        obtain ⟨r5, e22⟩ := hE 5 22 (by kernel_rfl) (by kernel_rfl)
        have v22 : a.eval (.tmp 22) = .bool true := e22.trans r5
        refine wpG_yes 5 true 22 rfl (by kernel_rfl) (by rw [hS]; simp) v22 ?_
        have v2 : a.eval (.tmp 2) = vp := (hU 2 (by kernel_rfl)).trans rfl
        clear hE hU
        exact wp_value_inv (w' := W) (vp) (op_move rfl v2) ⟨_, rfl, hB, Fr.refl _ _, rfl, fun _ _ _ _ _ => trivial⟩
      · simp only [List.getElem?_cons_zero, List.getElem?_cons_succ, Option.some.injEq] at ho
        subst ho
        intro a W vs hB hS hE hU
        obtain ⟨r5, e22⟩ := hE 5 22 (by kernel_rfl) (by kernel_rfl)
        have v22 : a.eval (.tmp 22) = .bool true := e22.trans r5
        refine wpG_yes 5 true 22 rfl (by kernel_rfl) (by rw [hS]; simp) v22 ?_
        obtain ⟨r9, e26⟩ := hE 9 26 (by kernel_rfl) (by kernel_rfl)
        have v26 : a.eval (.tmp 26) = .string tag := e26.trans r9
        obtain ⟨r10, e27⟩ := hE 10 27 (by kernel_rfl) (by kernel_rfl)
        have v27 : a.eval (.tmp 27) = vp := e27.trans r10
        clear hE hU
        refine wp_call_inv 17 #[.tmp 26, .tmp 27] #[9, 22] rfl #[.string tag, vp] (by simp only [List.map_toArray, List.map_cons, List.map_nil, v26, v27]) (rof_enter _) (Post := fun v W' => v = .agg (Hh.map bv).toArray ∧ Fr (fun _ => False) W W') ((HROF W hB).mono fun e w' h => ⟨_, h.1, by rw [HHE.out], h.2⟩) ?_
        rintro v W' ⟨rfl, hf⟩
        exact ⟨_, rfl, hB.trans hf (fun _ h => h.elim), hf, rfl, fun _ _ _ _ _ => trivial⟩
      · simp only [List.getElem?_cons_zero, List.getElem?_cons_succ, Option.some.injEq] at ho
        subst ho
        intro a W vs hB hS hE hU
        obtain ⟨r5, e22⟩ := hE 5 22 (by kernel_rfl) (by kernel_rfl)
        have v22 : a.eval (.tmp 22) = .bool true := e22.trans r5
        refine wpG_yes 5 true 22 rfl (by kernel_rfl) (by rw [hS]; simp) v22 ?_
        obtain ⟨r8, e25⟩ := hE 8 25 (by kernel_rfl) (by kernel_rfl)
        have v25 : a.eval (.tmp 25) = .agg (Hh.map bv).toArray := e25.trans r8
        obtain ⟨r11, e28⟩ := hE 11 28 (by kernel_rfl) (by kernel_rfl)
        have v28 : a.eval (.tmp 28) = .agg (Hh.map bv).toArray := e28.trans r11
        clear hE hU
        exact wp_value_inv (w' := W) (.bool true) (op_bin rfl v25 v28 (run_eqGuard_agg W .eql 33 _ _ _ _ (by kernel_rfl)) ((run_eql_arr W 33 20 (Hh) (Hh) Tryd.underlying33 HH20.out HH20.out).trans (by simp))) ⟨_, rfl, hB, Fr.refl _ _, rfl, fun _ _ _ _ _ => trivial⟩
      · simp only [List.getElem?_cons_zero, List.getElem?_cons_succ, Option.some.injEq] at ho
        subst ho
        intro a W vs hB hS hE hU
        refine wpG_plain rfl ?_
        obtain ⟨r5, e22⟩ := hE 5 22 (by kernel_rfl) (by kernel_rfl)
        have v22 : a.eval (.tmp 22) = .bool true := e22.trans r5
        obtain ⟨r12, e29⟩ := hE 12 29 (by kernel_rfl) (by kernel_rfl)
        have v29 : a.eval (.tmp 29) = .bool true := e29.trans r12
        clear hE hU
        exact wp_value_inv (w' := W) (.bool true) (op_pick rfl v22 (by simp only [if_true]; exact v29)) ⟨_, rfl, hB, Fr.refl _ _, rfl, fun _ _ _ _ _ => trivial⟩
      · simp only [List.getElem?_cons_zero, List.getElem?_cons_succ, Option.some.injEq] at ho
        subst ho
        intro a W vs hB hS hE hU
        refine wpG_plain rfl ?_
        obtain ⟨r13, e30⟩ := hE 13 30 (by kernel_rfl) (by kernel_rfl)
        have v30 : a.eval (.tmp 30) = .bool true := e30.trans r13
        clear hE hU
        exact wp_value_inv (w' := W) (.bool true) (op_move rfl v30) ⟨_, rfl, hB, Fr.refl _ _, rfl, fun _ _ _ _ _ => trivial⟩
      · simp only [List.getElem?_cons_zero, List.getElem?_cons_succ, Option.some.injEq] at ho
        subst ho
        intro a W vs hB hS hE hU
        obtain ⟨r14, e31⟩ := hE 14 31 (by kernel_rfl) (by kernel_rfl)
        have v31 : a.eval (.tmp 31) = .bool true := e31.trans r14
        refine wpG_yes 14 true 31 rfl (by kernel_rfl) (by rw [hS]; simp) v31 ?_
        have v7 : a.eval (.tmp 7) = ul := (hU 7 (by kernel_rfl)).trans rfl
        clear hE hU
        exact wp_value_inv (w' := W) (ul) (op_move rfl v7) ⟨_, rfl, hB, Fr.refl _ _, rfl, fun _ _ _ _ _ => trivial⟩
      · simp only [List.getElem?_cons_zero, List.getElem?_cons_succ, Option.some.injEq] at ho
        subst ho
        intro a W vs hB hS hE hU
        obtain ⟨r14, e31⟩ := hE 14 31 (by kernel_rfl) (by kernel_rfl)
        have v31 : a.eval (.tmp 31) = .bool true := e31.trans r14
        refine wpG_yes 14 true 31 rfl (by kernel_rfl) (by rw [hS]; simp) v31 ?_
        have v2 : a.eval (.tmp 2) = vp := (hU 2 (by kernel_rfl)).trans rfl
        clear hE hU
        exact wp_value_inv (w' := W) (vp) (op_move rfl v2) ⟨_, rfl, hB, Fr.refl _ _, rfl, fun _ _ _ _ _ => trivial⟩
      · simp only [List.getElem?_cons_zero, List.getElem?_cons_succ, Option.some.injEq] at ho
        subst ho
        intro a W vs hB hS hE hU
        obtain ⟨r14, e31⟩ := hE 14 31 (by kernel_rfl) (by kernel_rfl)
        have v31 : a.eval (.tmp 31) = .bool true := e31.trans r14
        refine wpG_yes 14 true 31 rfl (by kernel_rfl) (by rw [hS]; simp) v31 ?_
        obtain ⟨r15, e32⟩ := hE 15 32 (by kernel_rfl) (by kernel_rfl)
        have v32 : a.eval (.tmp 32) = ul := e32.trans r15
        obtain ⟨r16, e33⟩ := hE 16 33 (by kernel_rfl) (by kernel_rfl)
        have v33 : a.eval (.tmp 33) = vp := e33.trans r16
        clear hE hU
        refine wp_call_inv 13 #[.tmp 32, .tmp 33] #[22, 22] rfl #[ul, vp] (by simp only [List.map_toArray, List.map_cons, List.map_nil, v32, v33]) (kept_enter _) (Post := fun v W' => v = .bool true ∧ Fr (fun _ => False) W W') ((HKR W hB).mono fun e w' h => ⟨_, h.1, rfl, by obtain ⟨q, rfl⟩ := h.2; exact (Fr.refl _ W).drewN q⟩) ?_
        rintro v W' ⟨rfl, hf⟩
        exact ⟨_, rfl, hB.trans hf (fun _ h => h.elim), hf, rfl, fun _ _ _ _ _ => trivial⟩
      · simp only [List.getElem?_cons_zero, List.getElem?_cons_succ, Option.some.injEq] at ho
        subst ho
        intro a W vs hB hS hE hU
        refine wpG_plain rfl ?_
        obtain ⟨r14, e31⟩ := hE 14 31 (by kernel_rfl) (by kernel_rfl)
        have v31 : a.eval (.tmp 31) = .bool true := e31.trans r14
        obtain ⟨r17, e34⟩ := hE 17 34 (by kernel_rfl) (by kernel_rfl)
        have v34 : a.eval (.tmp 34) = .bool true := e34.trans r17
        clear hE hU
        exact wp_value_inv (w' := W) (.bool true) (op_pick rfl v31 (by simp only [if_true]; exact v34)) ⟨_, rfl, hB, Fr.refl _ _, rfl, fun _ _ _ _ _ => trivial⟩
      · simp only [List.getElem?_cons_zero, List.getElem?_cons_succ, Option.some.injEq] at ho
        subst ho
        intro a W vs hB hS hE hU
        refine wpG_plain rfl ?_
        obtain ⟨r18, e35⟩ := hE 18 35 (by kernel_rfl) (by kernel_rfl)
        have v35 : a.eval (.tmp 35) = .bool true := e35.trans r18
        clear hE hU
        exact wp_value_inv (w' := W) (.bool true) (op_move rfl v35) ⟨_, rfl, hB, Fr.refl _ _, rfl, fun _ _ _ _ _ => trivial⟩
      · simp only [List.getElem?_cons_zero, List.getElem?_cons_succ, Option.some.injEq] at ho
        subst ho
        intro a W vs hB hS hE hU
        obtain ⟨r19, e36⟩ := hE 19 36 (by kernel_rfl) (by kernel_rfl)
        have v36 : a.eval (.tmp 36) = .bool true := e36.trans r19
        refine wpG_yes 19 true 36 rfl (by kernel_rfl) (by rw [hS]; simp) v36 ?_
        clear hE hU
        refine wp_call_inv 9 #[] #[] rfl #[] (by simp) (awake_enter _) (Post := fun v W' => v = .bool true ∧ Fr (fun _ => False) W W') ((HAW W hB).mono fun e w' h => ⟨_, h.1, rfl, h.2⟩) ?_
        rintro v W' ⟨rfl, hf⟩
        exact ⟨_, rfl, hB.trans hf (fun _ h => h.elim), hf, rfl, fun _ _ _ _ _ => trivial⟩
      · simp only [List.getElem?_cons_zero, List.getElem?_cons_succ, Option.some.injEq] at ho
        subst ho
        intro a W vs hB hS hE hU
        refine wpG_plain rfl ?_
        obtain ⟨r19, e36⟩ := hE 19 36 (by kernel_rfl) (by kernel_rfl)
        have v36 : a.eval (.tmp 36) = .bool true := e36.trans r19
        obtain ⟨r20, e37⟩ := hE 20 37 (by kernel_rfl) (by kernel_rfl)
        have v37 : a.eval (.tmp 37) = .bool true := e37.trans r20
        clear hE hU
        exact wp_value_inv (w' := W) (.bool true) (op_pick rfl v36 (by simp only [if_true]; exact v37)) ⟨_, rfl, hB, Fr.refl _ _, rfl, fun _ _ _ _ _ => trivial⟩

    · intro vs W hB hR hD
      have r5 : vs 5 = .bool true := hR 5 (by decide)
      have r14 : vs 14 = .bool true := hR 14 (by decide)
      have r19 : vs 19 = .bool true := hR 19 (by decide)
      have r21 : vs 21 = .bool true := hR 21 (by decide)
      clear hR hD HOF HROF HKR HAW
      simp only [acts, if_true, dstAt, List.getElem?_cons_zero, List.getElem?_cons_succ, Option.bind_some, Act.put, List.setIfInBounds_toArray, List.set_cons_succ, List.set_cons_zero, List.drop_succ_cons, List.drop_zero]
      have HB2 := Lib.hid hB
      clear hB
      rw [r5, r14, r19, r21]
      clear r5 r14 r19 r21
      go_wp2
      go_ret
      exact ⟨rfl, HFF1.out.trans HB2.out (fun _ h => h.elim)⟩
  · have hzi : (6000 : Int) < (z : Int) + (tag.size : Int) := by omega
    have HA := Lib.hid (awake_any w0 (HL.out.keep HF0.out (fun _ _ h => h)))
    clear hz1 hz2
    go_wp2_with (go_at_call 9; refine HA.out.mono ?_; rintro e w1 ⟨rfl, hf1⟩; have HF1 := Lib.hid (HF0.out.trans hf1 (fun _ h => h.elim)); clear hf1)
    go_ret
    exact ⟨rfl, HF1.out⟩
end Go.Proofs.YthjpgnmpcllolaaDoor
