/- Laid together: RPlaces -/
import Derived.Test.YtcbbcihfooaggaaBe18
import Derived.Test.YtcbbcihfooaggaaBe13
import Derived.Test.YtcbbcihfooaggaaBe19
import Derived.Test.YtcbbcihfooaggaaBe9

namespace Go.Proofs.Ytcbbcihfooaggaa
open Go.RowKit Go.ChangeShapes
set_option linter.unusedVariables false
theorem rDevSecs {D : Nat → Prop} (w : World) (g s : Nat) (dv : Dv) (h : RefAt w D g s dv) :
    Calls Try.prog 76 #[.pointer (some ⟨g, 0, none⟩)] w fun e w' => e = .returned (.int .i64 s) ∧ Fr (fun _ => False) w w' := by
  obtain ⟨F, ga, vw, hm, hD⟩ := h
  exact (rSectors_any w g _ s _ vw dv.deeds _ dv.down hm.head hm.small).mono fun e w' h => ⟨h.1, by rw [← h.2]; exact Fr.refl _ _⟩
set_option maxRecDepth 100000 in
theorem rFirst_any (w : World) (l la d s : Nat) (h : ShOk l la d s) :
    Calls Try.prog 77 #[.agg #[.int .i64 l, .int .i64 la, .int .i64 d]] w fun e w' => e = .returned (.int .i64 ((1 + l + 2 * la : Nat) : Int)) ∧ Fr (fun _ => False) w w' := by
  obtain ⟨W1, hW1⟩ : ∃ W1, W1 = w.alloc (.cells #[.int .i64 l, .int .i64 la, .int .i64 d] 23) := ⟨_, rfl⟩
  have hsum := h.sum
  have hmost := h.most
  have hr := rRight_any W1 l la d
  rw [rightS_nat h.l1 h.a1 h.d1 (by omega)] at hr
  have HRI := Lib.hid hr
  have hsh : W1.heap[w.heap.size]? = some (.cells #[.int .i64 l, .int .i64 la, .int .i64 d] 23 (0, 0)) := by rw [hW1]; exact heap_alloc_new w _
  have HX := Lib.hid (And.intro hsh (show Fr (fun _ => False) w W1 by rw [hW1]; exact (Fr.refl _ _).alloc _))
  have HW := Lib.hid hW1
  have hb : l ≤ 8192 ∧ la ≤ 8192 := by omega
  have k1 : IntKind.i64.wrap (2 * (la : Int)) = 2 * (la : Int) := wrap_in5 (by omega) (by omega)
  have k2 : IntKind.i64.wrap (1 + (l : Int)) = 1 + (l : Int) := wrap_in5 (by omega) (by omega)
  have k3 : IntKind.i64.wrap (1 + (l : Int) + 2 * (la : Int)) = ((1 + l + 2 * la : Nat) : Int) := by rw [wrap_in5 (by omega) (by omega)]; push_cast; rfl
  clear hW1 hsh h hr hsum hmost
  go_enter Try.func77, Try.ntmps77
  go_wp2_with (go_at_call 39; rw [← HW.out]; refine HRI.out.mono ?_; rintro e w1 ⟨rfl, hf1⟩; (obtain ⟨s0, s1, s2⟩ := row3_cells (hf1.heap HX.out.1 id)); (have H1 := Lib.hid hf1); clear hf1)
  go_ret
  exact ⟨by first | rfl | (push_cast; rfl), HX.out.2.trans H1.out (fun _ h => h.elim)⟩
theorem p7_ent___spence_spenceref04_Device__Sectors (args : Array Value) (w : World) : (callFunc 76 args).run Try.prog w = .ok (.enter 76 args) w := by kernel_rfl
theorem p7_ent_spence_spenceref05_Sectors (args : Array Value) (w : World) : (callFunc 8 args).run Try.prog w = .ok (.enter 8 args) w := by kernel_rfl
theorem p7_ent_spence_spenceref07_Apart (args : Array Value) (w : World) : (callFunc 17 args).run Try.prog w = .ok (.enter 17 args) w := by kernel_rfl
def PlA (g b5 s nh ch : Nat) (L A Dt many sx : Int) (ah : Option Addr) (i : Nat) (v : Value) (W : World) : Prop :=
  match i with
  | 0 => v = .agg #[.int .i64 L, .int .i64 A, .int .i64 Dt]
  | 1 => v = .slice ah nh ch
  | 2 => v = .bool false
  | 3 => v = .bool true
  | 4 => v = .bool true
  | 5 => v = undef
  | 6 => v = undef
  | 7 => v = .bool true
  | 8 => v = .bool true
  | 9 => v = undef
  | 10 => v = undef
  | 11 => v = undef
  | 12 => v = undef
  | 13 => v = undef
  | 14 => v = .bool true
  | _ => True
theorem PlA.ext (g b5 s nh ch : Nat) (L A Dt many sx : Int) (ah : Option Addr) : ∀ (j : Nat) (u : Value) (W W' : World), Fr (fun _ => False) W W' → PlA g b5 s nh ch L A Dt many sx ah j u W → PlA g b5 s nh ch L A Dt many sx ah j u W'
  | 0, u, W, W', hf, h => h
  | 1, u, W, W', hf, h => h
  | 2, u, W, W', hf, h => h
  | 3, u, W, W', hf, h => h
  | 4, u, W, W', hf, h => h
  | 5, u, W, W', hf, h => h
  | 6, u, W, W', hf, h => h
  | 7, u, W, W', hf, h => h
  | 8, u, W, W', hf, h => h
  | 9, u, W, W', hf, h => h
  | 10, u, W, W', hf, h => h
  | 11, u, W, W', hf, h => h
  | 12, u, W, W', hf, h => h
  | 13, u, W, W', hf, h => h
  | 14, u, W, W', hf, h => h
  | _ + 15, u, W, W', hf, h => trivial
def PlB (g b5 s nh ch : Nat) (L A Dt many sx : Int) (ah : Option Addr) (i : Nat) (v : Value) (W : World) : Prop :=
  match i with
  | 0 => v = .agg #[.int .i64 L, .int .i64 A, .int .i64 Dt]
  | 1 => v = .slice ah nh ch
  | 2 => v = .bool true
  | 3 => v = .bool false
  | 4 => v = .bool false
  | 5 => v = .int .i64 many
  | 6 => v = .bool true
  | 7 => v = .bool true
  | 8 => v = .bool true
  | 9 => v = undef
  | 10 => v = undef
  | 11 => v = undef
  | 12 => v = undef
  | 13 => v = undef
  | 14 => v = .bool true
  | _ => True
theorem PlB.ext (g b5 s nh ch : Nat) (L A Dt many sx : Int) (ah : Option Addr) : ∀ (j : Nat) (u : Value) (W W' : World), Fr (fun _ => False) W W' → PlB g b5 s nh ch L A Dt many sx ah j u W → PlB g b5 s nh ch L A Dt many sx ah j u W'
  | 0, u, W, W', hf, h => h
  | 1, u, W, W', hf, h => h
  | 2, u, W, W', hf, h => h
  | 3, u, W, W', hf, h => h
  | 4, u, W, W', hf, h => h
  | 5, u, W, W', hf, h => h
  | 6, u, W, W', hf, h => h
  | 7, u, W, W', hf, h => h
  | 8, u, W, W', hf, h => h
  | 9, u, W, W', hf, h => h
  | 10, u, W, W', hf, h => h
  | 11, u, W, W', hf, h => h
  | 12, u, W, W', hf, h => h
  | 13, u, W, W', hf, h => h
  | 14, u, W, W', hf, h => h
  | _ + 15, u, W, W', hf, h => trivial
def PlC (g b5 s nh ch : Nat) (L A Dt many sx : Int) (ah : Option Addr) (i : Nat) (v : Value) (W : World) : Prop :=
  match i with
  | 0 => v = .agg #[.int .i64 L, .int .i64 A, .int .i64 Dt]
  | 1 => v = .slice ah nh ch
  | 2 => v = .bool true
  | 3 => v = .bool false
  | 4 => v = .bool false
  | 5 => v = .int .i64 many
  | 6 => v = .bool false
  | 7 => v = .bool false
  | 8 => v = .bool false
  | 9 => v = .pointer (some ⟨g, 0, none⟩)
  | 10 => v = .int .i64 (s : Nat)
  | 11 => v = .agg #[.int .i64 L, .int .i64 A, .int .i64 Dt]
  | 12 => v = .int .i64 sx
  | 13 => v = .bool true
  | 14 => v = .bool true
  | _ => True
theorem PlC.ext (g b5 s nh ch : Nat) (L A Dt many sx : Int) (ah : Option Addr) : ∀ (j : Nat) (u : Value) (W W' : World), Fr (fun _ => False) W W' → PlC g b5 s nh ch L A Dt many sx ah j u W → PlC g b5 s nh ch L A Dt many sx ah j u W'
  | 0, u, W, W', hf, h => h
  | 1, u, W, W', hf, h => h
  | 2, u, W, W', hf, h => h
  | 3, u, W, W', hf, h => h
  | 4, u, W, W', hf, h => h
  | 5, u, W, W', hf, h => h
  | 6, u, W, W', hf, h => h
  | 7, u, W, W', hf, h => h
  | 8, u, W, W', hf, h => h
  | 9, u, W, W', hf, h => h
  | 10, u, W, W', hf, h => h
  | 11, u, W, W', hf, h => h
  | 12, u, W, W', hf, h => h
  | 13, u, W, W', hf, h => h
  | 14, u, W, W', hf, h => h
  | _ + 15, u, W, W', hf, h => trivial
set_option maxRecDepth 100000 in
set_option maxHeartbeats 4000000 in
theorem rPlaces_no {D F : Nat → Prop} (w : World) (g s : Nat) (dv : Dv) (L A Dt many : Int) (v : Value) (l : List Rn) (h : RefAt w D g s dv) (hL : RnsIn F w v l) (hF : ∀ k, F k → k < w.heap.size) (hno : many < 0 ∨ ap7 L A Dt l = false ∨ (s : Int) < secsS L A Dt) :
    Calls Try.prog 53 #[.pointer (some ⟨g, 0, none⟩), .agg #[.int .i64 L, .int .i64 A, .int .i64 Dt], .int .i64 many, v] w fun e w' => e = .returned (.tuple #[.slice none 0 0, .bool false]) ∧ Fr (fun _ => False) w w' := by
  obtain ⟨ah, ch, rfl, hc1, hc2, -⟩ := hL.open7
  obtain ⟨nh, hn⟩ : ∃ nh, nh = l.length := ⟨_, rfl⟩
  rw [← hn] at hL hc1 ⊢
  obtain ⟨b5, hb5⟩ : ∃ b5, b5 = w.heap.size := ⟨_, rfl⟩
  obtain ⟨W1, hW1⟩ : ∃ W1, W1 = w.alloc (.cells #[.int .i64 L, .int .i64 A, .int .i64 Dt] 23) := ⟨_, rfl⟩
  have hf1 : Fr (fun _ => False) w W1 := by rw [hW1]; exact (Fr.refl _ _).alloc _
  have hrow : W1.heap[b5]? = some (.cells #[.int .i64 L, .int .i64 A, .int .i64 Dt] 23 (0, 0)) := by rw [hW1, hb5]; exact heap_alloc_new w _
  have hL1 := (hL.mono (G := fun k => F k ∧ k < w.heap.size) (fun k hk hF => ⟨hF, hk⟩)).quiet hf1
  have hd1 := h.keep hf1 (fun _ _ _ h => h)
  have LDS := Lib.hid (fun W (hW : Fr (fun _ => False) W1 W) => load_shape5 W b5 0 _ _ _ (range_row5 (hW.heap hrow id)))
  have HAP := Lib.hid (fun W (hW : Fr (fun _ => False) W1 W) => rApart_any W L A Dt (.slice ah nh ch) l (hL1.quiet hW) (fun k hk => by have := hk.2; have := hf1.size; have := hW.size; omega))
  have HSE := Lib.hid (fun W => r5Sectors_any W L A Dt)
  have HDS := Lib.hid (fun W (hW : Fr (fun _ => False) W1 W) => rDevSecs W g s dv (hd1.keep hW (fun _ _ _ h => h)))
  obtain ⟨sx, hsx⟩ : ∃ sx, sx = secsS L A Dt := ⟨_, rfl⟩
  rw [← hsx] at HSE hno
  have HF := Lib.hid hf1
  have HW := Lib.hid (And.intro hW1 hb5)
  clear hrow hL1 hd1 hsx hL hF h hf1 hn
  cases hap : ap7 L A Dt l with
  | false =>
    rw [hap] at HAP
    clear hap hno
    go_enter Try.func53, Try.ntmps53
    go_wp2
    rw [← hW1, ← hb5]
    clear hW1 hb5
    refine wp_region_inv 15 (by kernel_rfl) (by kernel_rfl) (fun W => Fr (fun _ => False) W1 W) (PlA g b5 s nh ch L A Dt many sx ah) (fun _ _ _ _ => True) (Fr (fun _ => False)) (PlA.ext g b5 s nh ch L A Dt many sx ah) (Fr.refl _ _).drew ?_ ?_
    · intro i hi o ho
      replace hi : i < 15 := hi
      obtain rfl | rfl | rfl | rfl | rfl | rfl | rfl | rfl | rfl | rfl | rfl | rfl | rfl | rfl | rfl : i = 0 ∨ i = 1 ∨ i = 2 ∨ i = 3 ∨ i = 4 ∨ i = 5 ∨ i = 6 ∨ i = 7 ∨ i = 8 ∨ i = 9 ∨ i = 10 ∨ i = 11 ∨ i = 12 ∨ i = 13 ∨ i = 14 := by omega
      · simp only [List.getElem?_cons_zero, Option.some.injEq] at ho
        subst ho
        intro a W vs hB hS hE hU
        refine wpG_plain rfl ?_
        have v5 : a.eval (.tmp 5) = .pointer (some ⟨b5, 0, none⟩) := (hU 5 (by kernel_rfl)).trans rfl
        clear hE hU
        exact wp_value_inv (w' := W) (.agg #[.int .i64 L, .int .i64 A, .int .i64 Dt]) (op_loadAt rfl v5 (LDS.out W hB)) ⟨_, rfl, hB, Fr.refl _ _, rfl, fun _ _ _ _ _ => trivial⟩
      · simp only [List.getElem?_cons_zero, List.getElem?_cons_succ, Option.some.injEq] at ho
        subst ho
        intro a W vs hB hS hE hU
        refine wpG_plain rfl ?_
        have v3 : a.eval (.tmp 3) = .slice ah nh ch := (hU 3 (by kernel_rfl)).trans rfl
        clear hE hU
        exact wp_value_inv (w' := W) (.slice ah nh ch) (op_move rfl v3) ⟨_, rfl, hB, Fr.refl _ _, rfl, fun _ _ _ _ _ => trivial⟩
      · simp only [List.getElem?_cons_zero, List.getElem?_cons_succ, Option.some.injEq] at ho
        subst ho
        intro a W vs hB hS hE hU
        refine wpG_plain rfl ?_
        obtain ⟨r0, e13⟩ := hE 0 13 (by kernel_rfl) (by kernel_rfl)
        have v13 : a.eval (.tmp 13) = .agg #[.int .i64 L, .int .i64 A, .int .i64 Dt] := e13.trans r0
        obtain ⟨r1, e14⟩ := hE 1 14 (by kernel_rfl) (by kernel_rfl)
        have v14 : a.eval (.tmp 14) = .slice ah nh ch := e14.trans r1
        clear hE hU
        refine wp_call_inv 17 #[.tmp 13, .tmp 14] #[23, 24] rfl #[.agg #[.int .i64 L, .int .i64 A, .int .i64 Dt], .slice ah nh ch] (by simp only [List.map_toArray, List.map_cons, List.map_nil, v13, v14]) (p7_ent_spence_spenceref07_Apart _) (Post := fun v W' => v = .bool false ∧ Fr (fun _ => False) W W') ((HAP.out W hB).mono fun e w' h => ⟨_, h.1, rfl, h.2⟩) ?_
        rintro v W' ⟨rfl, hf⟩
        exact ⟨_, rfl, hB.trans hf (fun _ h => h.elim), hf, rfl, fun _ _ _ _ _ => trivial⟩
      · simp only [List.getElem?_cons_zero, List.getElem?_cons_succ, Option.some.injEq] at ho
        subst ho
        intro a W vs hB hS hE hU
        refine wpG_plain rfl ?_
        obtain ⟨r2, e15⟩ := hE 2 15 (by kernel_rfl) (by kernel_rfl)
        have v15 : a.eval (.tmp 15) = .bool false := e15.trans r2
        clear hE hU
        exact wp_value_inv (w' := W) (.bool true) (op_unop rfl v15 (by rfl)) ⟨_, rfl, hB, Fr.refl _ _, rfl, fun _ _ _ _ _ => trivial⟩
      · simp only [List.getElem?_cons_zero, List.getElem?_cons_succ, Option.some.injEq] at ho
        subst ho
        intro a W vs hB hS hE hU
        refine wpG_plain rfl ?_
        obtain ⟨r3, e16⟩ := hE 3 16 (by kernel_rfl) (by kernel_rfl)
        have v16 : a.eval (.tmp 16) = .bool true := e16.trans r3
        clear hE hU
        exact wp_value_inv (w' := W) (.bool true) (op_move rfl v16) ⟨_, rfl, hB, Fr.refl _ _, rfl, fun _ _ _ _ _ => trivial⟩
      · simp only [List.getElem?_cons_zero, List.getElem?_cons_succ, Option.some.injEq] at ho
        subst ho
        intro a W vs hB hS hE hU
        obtain ⟨r4, e17⟩ := hE 4 17 (by kernel_rfl) (by kernel_rfl)
        have v17 : a.eval (.tmp 17) = .bool true := e17.trans r4
        exact wpG_no 4 false 17 rfl (by kernel_rfl) (by rw [hS]; first | simp | exact Nat.le_of_ble_eq_true rfl) v17 ⟨_, rfl, hB, Fr.refl _ _, rfl, fun _ _ _ _ _ => trivial⟩
      · simp only [List.getElem?_cons_zero, List.getElem?_cons_succ, Option.some.injEq] at ho
        subst ho
        intro a W vs hB hS hE hU
        obtain ⟨r4, e17⟩ := hE 4 17 (by kernel_rfl) (by kernel_rfl)
        have v17 : a.eval (.tmp 17) = .bool true := e17.trans r4
        exact wpG_no 4 false 17 rfl (by kernel_rfl) (by rw [hS]; first | simp | exact Nat.le_of_ble_eq_true rfl) v17 ⟨_, rfl, hB, Fr.refl _ _, rfl, fun _ _ _ _ _ => trivial⟩
      · simp only [List.getElem?_cons_zero, List.getElem?_cons_succ, Option.some.injEq] at ho
        subst ho
        intro a W vs hB hS hE hU
        refine wpG_plain rfl ?_
        obtain ⟨r4, e17⟩ := hE 4 17 (by kernel_rfl) (by kernel_rfl)
        have v17 : a.eval (.tmp 17) = .bool true := e17.trans r4
        clear hE hU
        exact wp_value_inv (w' := W) (.bool true) (op_pick rfl v17 (by simp only [if_true]; rfl)) ⟨_, rfl, hB, Fr.refl _ _, rfl, fun _ _ _ _ _ => trivial⟩
      · simp only [List.getElem?_cons_zero, List.getElem?_cons_succ, Option.some.injEq] at ho
        subst ho
        intro a W vs hB hS hE hU
        refine wpG_plain rfl ?_
        obtain ⟨r7, e20⟩ := hE 7 20 (by kernel_rfl) (by kernel_rfl)
        have v20 : a.eval (.tmp 20) = .bool true := e20.trans r7
        clear hE hU
        exact wp_value_inv (w' := W) (.bool true) (op_move rfl v20) ⟨_, rfl, hB, Fr.refl _ _, rfl, fun _ _ _ _ _ => trivial⟩
      · simp only [List.getElem?_cons_zero, List.getElem?_cons_succ, Option.some.injEq] at ho
        subst ho
        intro a W vs hB hS hE hU
        obtain ⟨r8, e21⟩ := hE 8 21 (by kernel_rfl) (by kernel_rfl)
        have v21 : a.eval (.tmp 21) = .bool true := e21.trans r8
        exact wpG_no 8 false 21 rfl (by kernel_rfl) (by rw [hS]; first | simp | exact Nat.le_of_ble_eq_true rfl) v21 ⟨_, rfl, hB, Fr.refl _ _, rfl, fun _ _ _ _ _ => trivial⟩
      · simp only [List.getElem?_cons_zero, List.getElem?_cons_succ, Option.some.injEq] at ho
        subst ho
        intro a W vs hB hS hE hU
        obtain ⟨r8, e21⟩ := hE 8 21 (by kernel_rfl) (by kernel_rfl)
        have v21 : a.eval (.tmp 21) = .bool true := e21.trans r8
        exact wpG_no 8 false 21 rfl (by kernel_rfl) (by rw [hS]; first | simp | exact Nat.le_of_ble_eq_true rfl) v21 ⟨_, rfl, hB, Fr.refl _ _, rfl, fun _ _ _ _ _ => trivial⟩
      · simp only [List.getElem?_cons_zero, List.getElem?_cons_succ, Option.some.injEq] at ho
        subst ho
        intro a W vs hB hS hE hU
        obtain ⟨r8, e21⟩ := hE 8 21 (by kernel_rfl) (by kernel_rfl)
        have v21 : a.eval (.tmp 21) = .bool true := e21.trans r8
        exact wpG_no 8 false 21 rfl (by kernel_rfl) (by rw [hS]; first | simp | exact Nat.le_of_ble_eq_true rfl) v21 ⟨_, rfl, hB, Fr.refl _ _, rfl, fun _ _ _ _ _ => trivial⟩
      · simp only [List.getElem?_cons_zero, List.getElem?_cons_succ, Option.some.injEq] at ho
        subst ho
        intro a W vs hB hS hE hU
        obtain ⟨r8, e21⟩ := hE 8 21 (by kernel_rfl) (by kernel_rfl)
        have v21 : a.eval (.tmp 21) = .bool true := e21.trans r8
        exact wpG_no 8 false 21 rfl (by kernel_rfl) (by rw [hS]; first | simp | exact Nat.le_of_ble_eq_true rfl) v21 ⟨_, rfl, hB, Fr.refl _ _, rfl, fun _ _ _ _ _ => trivial⟩
      · simp only [List.getElem?_cons_zero, List.getElem?_cons_succ, Option.some.injEq] at ho
        subst ho
        intro a W vs hB hS hE hU
        obtain ⟨r8, e21⟩ := hE 8 21 (by kernel_rfl) (by kernel_rfl)
        have v21 : a.eval (.tmp 21) = .bool true := e21.trans r8
        exact wpG_no 8 false 21 rfl (by kernel_rfl) (by rw [hS]; first | simp | exact Nat.le_of_ble_eq_true rfl) v21 ⟨_, rfl, hB, Fr.refl _ _, rfl, fun _ _ _ _ _ => trivial⟩
      · simp only [List.getElem?_cons_zero, List.getElem?_cons_succ, Option.some.injEq] at ho
        subst ho
        intro a W vs hB hS hE hU
        refine wpG_plain rfl ?_
        obtain ⟨r8, e21⟩ := hE 8 21 (by kernel_rfl) (by kernel_rfl)
        have v21 : a.eval (.tmp 21) = .bool true := e21.trans r8
        clear hE hU
        exact wp_value_inv (w' := W) (.bool true) (op_pick rfl v21 (by simp only [if_true]; rfl)) ⟨_, rfl, hB, Fr.refl _ _, rfl, fun _ _ _ _ _ => trivial⟩
    · intro vs Wa hB0 hR0 hD
      have r27 : vs 14 = .bool true := hR0 14 (by decide)
      have HB := Lib.hid hB0
      clear hR0 hD hB0
      simp only [acts, if_true, dstAt, List.getElem?_cons_zero, List.getElem?_cons_succ, Option.bind_some, Act.put, List.setIfInBounds_toArray, List.set_cons_succ, List.set_cons_zero, List.drop_succ_cons, List.drop_nil]
      simp only [r27]
      clear r27
      go_wp2
      go_ret2
      exact ⟨rfl, HF.out.trans HB.out (fun _ h => h.elim)⟩
  | true =>
    rw [hap] at HAP
    by_cases hm : many < 0
    · have HM0 := Lib.hid hm
      clear hap hno hm
      go_enter Try.func53, Try.ntmps53
      go_wp2
      rw [← hW1, ← hb5]
      clear hW1 hb5
      refine wp_region_inv 15 (by kernel_rfl) (by kernel_rfl) (fun W => Fr (fun _ => False) W1 W) (PlB g b5 s nh ch L A Dt many sx ah) (fun _ _ _ _ => True) (Fr (fun _ => False)) (PlB.ext g b5 s nh ch L A Dt many sx ah) (Fr.refl _ _).drew ?_ ?_
      · intro i hi o ho
        replace hi : i < 15 := hi
        obtain rfl | rfl | rfl | rfl | rfl | rfl | rfl | rfl | rfl | rfl | rfl | rfl | rfl | rfl | rfl : i = 0 ∨ i = 1 ∨ i = 2 ∨ i = 3 ∨ i = 4 ∨ i = 5 ∨ i = 6 ∨ i = 7 ∨ i = 8 ∨ i = 9 ∨ i = 10 ∨ i = 11 ∨ i = 12 ∨ i = 13 ∨ i = 14 := by omega
        · simp only [List.getElem?_cons_zero, Option.some.injEq] at ho
          subst ho
          intro a W vs hB hS hE hU
          refine wpG_plain rfl ?_
          have v5 : a.eval (.tmp 5) = .pointer (some ⟨b5, 0, none⟩) := (hU 5 (by kernel_rfl)).trans rfl
          clear hE hU
          exact wp_value_inv (w' := W) (.agg #[.int .i64 L, .int .i64 A, .int .i64 Dt]) (op_loadAt rfl v5 (LDS.out W hB)) ⟨_, rfl, hB, Fr.refl _ _, rfl, fun _ _ _ _ _ => trivial⟩
        · simp only [List.getElem?_cons_zero, List.getElem?_cons_succ, Option.some.injEq] at ho
          subst ho
          intro a W vs hB hS hE hU
          refine wpG_plain rfl ?_
          have v3 : a.eval (.tmp 3) = .slice ah nh ch := (hU 3 (by kernel_rfl)).trans rfl
          clear hE hU
          exact wp_value_inv (w' := W) (.slice ah nh ch) (op_move rfl v3) ⟨_, rfl, hB, Fr.refl _ _, rfl, fun _ _ _ _ _ => trivial⟩
        · simp only [List.getElem?_cons_zero, List.getElem?_cons_succ, Option.some.injEq] at ho
          subst ho
          intro a W vs hB hS hE hU
          refine wpG_plain rfl ?_
          obtain ⟨r0, e13⟩ := hE 0 13 (by kernel_rfl) (by kernel_rfl)
          have v13 : a.eval (.tmp 13) = .agg #[.int .i64 L, .int .i64 A, .int .i64 Dt] := e13.trans r0
          obtain ⟨r1, e14⟩ := hE 1 14 (by kernel_rfl) (by kernel_rfl)
          have v14 : a.eval (.tmp 14) = .slice ah nh ch := e14.trans r1
          clear hE hU
          refine wp_call_inv 17 #[.tmp 13, .tmp 14] #[23, 24] rfl #[.agg #[.int .i64 L, .int .i64 A, .int .i64 Dt], .slice ah nh ch] (by simp only [List.map_toArray, List.map_cons, List.map_nil, v13, v14]) (p7_ent_spence_spenceref07_Apart _) (Post := fun v W' => v = .bool true ∧ Fr (fun _ => False) W W') ((HAP.out W hB).mono fun e w' h => ⟨_, h.1, rfl, h.2⟩) ?_
          rintro v W' ⟨rfl, hf⟩
          exact ⟨_, rfl, hB.trans hf (fun _ h => h.elim), hf, rfl, fun _ _ _ _ _ => trivial⟩
        · simp only [List.getElem?_cons_zero, List.getElem?_cons_succ, Option.some.injEq] at ho
          subst ho
          intro a W vs hB hS hE hU
          refine wpG_plain rfl ?_
          obtain ⟨r2, e15⟩ := hE 2 15 (by kernel_rfl) (by kernel_rfl)
          have v15 : a.eval (.tmp 15) = .bool true := e15.trans r2
          clear hE hU
          exact wp_value_inv (w' := W) (.bool false) (op_unop rfl v15 (by rfl)) ⟨_, rfl, hB, Fr.refl _ _, rfl, fun _ _ _ _ _ => trivial⟩
        · simp only [List.getElem?_cons_zero, List.getElem?_cons_succ, Option.some.injEq] at ho
          subst ho
          intro a W vs hB hS hE hU
          refine wpG_plain rfl ?_
          obtain ⟨r3, e16⟩ := hE 3 16 (by kernel_rfl) (by kernel_rfl)
          have v16 : a.eval (.tmp 16) = .bool false := e16.trans r3
          clear hE hU
          exact wp_value_inv (w' := W) (.bool false) (op_move rfl v16) ⟨_, rfl, hB, Fr.refl _ _, rfl, fun _ _ _ _ _ => trivial⟩
        · simp only [List.getElem?_cons_zero, List.getElem?_cons_succ, Option.some.injEq] at ho
          subst ho
          intro a W vs hB hS hE hU
          obtain ⟨r4, e17⟩ := hE 4 17 (by kernel_rfl) (by kernel_rfl)
          have v17 : a.eval (.tmp 17) = .bool false := e17.trans r4
          refine wpG_yes 4 false 17 rfl (by kernel_rfl) (by rw [hS]; first | simp | exact Nat.le_of_ble_eq_true rfl) v17 ?_
          have v2 : a.eval (.tmp 2) = .int .i64 many := (hU 2 (by kernel_rfl)).trans rfl
          clear hE hU
          exact wp_value_inv (w' := W) (.int .i64 many) (op_move rfl v2) ⟨_, rfl, hB, Fr.refl _ _, rfl, fun _ _ _ _ _ => trivial⟩
        · simp only [List.getElem?_cons_zero, List.getElem?_cons_succ, Option.some.injEq] at ho
          subst ho
          intro a W vs hB hS hE hU
          obtain ⟨r4, e17⟩ := hE 4 17 (by kernel_rfl) (by kernel_rfl)
          have v17 : a.eval (.tmp 17) = .bool false := e17.trans r4
          refine wpG_yes 4 false 17 rfl (by kernel_rfl) (by rw [hS]; first | simp | exact Nat.le_of_ble_eq_true rfl) v17 ?_
          obtain ⟨r5, e18⟩ := hE 5 18 (by kernel_rfl) (by kernel_rfl)
          have v18 : a.eval (.tmp 18) = .int .i64 many := e18.trans r5
          clear hE hU
          exact wp_value_inv (w' := W) (.bool true) (op_bin rfl v18 rfl (rfl) (lss_yes HM0.out)) ⟨_, rfl, hB, Fr.refl _ _, rfl, fun _ _ _ _ _ => trivial⟩
        · simp only [List.getElem?_cons_zero, List.getElem?_cons_succ, Option.some.injEq] at ho
          subst ho
          intro a W vs hB hS hE hU
          refine wpG_plain rfl ?_
          obtain ⟨r4, e17⟩ := hE 4 17 (by kernel_rfl) (by kernel_rfl)
          have v17 : a.eval (.tmp 17) = .bool false := e17.trans r4
          obtain ⟨r6, e19⟩ := hE 6 19 (by kernel_rfl) (by kernel_rfl)
          have v19 : a.eval (.tmp 19) = .bool true := e19.trans r6
          clear hE hU
          exact wp_value_inv (w' := W) (.bool true) (op_pick rfl v17 (by simp only [Bool.false_eq_true, if_false]; exact v19)) ⟨_, rfl, hB, Fr.refl _ _, rfl, fun _ _ _ _ _ => trivial⟩
        · simp only [List.getElem?_cons_zero, List.getElem?_cons_succ, Option.some.injEq] at ho
          subst ho
          intro a W vs hB hS hE hU
          refine wpG_plain rfl ?_
          obtain ⟨r7, e20⟩ := hE 7 20 (by kernel_rfl) (by kernel_rfl)
          have v20 : a.eval (.tmp 20) = .bool true := e20.trans r7
          clear hE hU
          exact wp_value_inv (w' := W) (.bool true) (op_move rfl v20) ⟨_, rfl, hB, Fr.refl _ _, rfl, fun _ _ _ _ _ => trivial⟩
        · simp only [List.getElem?_cons_zero, List.getElem?_cons_succ, Option.some.injEq] at ho
          subst ho
          intro a W vs hB hS hE hU
          obtain ⟨r8, e21⟩ := hE 8 21 (by kernel_rfl) (by kernel_rfl)
          have v21 : a.eval (.tmp 21) = .bool true := e21.trans r8
          exact wpG_no 8 false 21 rfl (by kernel_rfl) (by rw [hS]; first | simp | exact Nat.le_of_ble_eq_true rfl) v21 ⟨_, rfl, hB, Fr.refl _ _, rfl, fun _ _ _ _ _ => trivial⟩
        · simp only [List.getElem?_cons_zero, List.getElem?_cons_succ, Option.some.injEq] at ho
          subst ho
          intro a W vs hB hS hE hU
          obtain ⟨r8, e21⟩ := hE 8 21 (by kernel_rfl) (by kernel_rfl)
          have v21 : a.eval (.tmp 21) = .bool true := e21.trans r8
          exact wpG_no 8 false 21 rfl (by kernel_rfl) (by rw [hS]; first | simp | exact Nat.le_of_ble_eq_true rfl) v21 ⟨_, rfl, hB, Fr.refl _ _, rfl, fun _ _ _ _ _ => trivial⟩
        · simp only [List.getElem?_cons_zero, List.getElem?_cons_succ, Option.some.injEq] at ho
          subst ho
          intro a W vs hB hS hE hU
          obtain ⟨r8, e21⟩ := hE 8 21 (by kernel_rfl) (by kernel_rfl)
          have v21 : a.eval (.tmp 21) = .bool true := e21.trans r8
          exact wpG_no 8 false 21 rfl (by kernel_rfl) (by rw [hS]; first | simp | exact Nat.le_of_ble_eq_true rfl) v21 ⟨_, rfl, hB, Fr.refl _ _, rfl, fun _ _ _ _ _ => trivial⟩
        · simp only [List.getElem?_cons_zero, List.getElem?_cons_succ, Option.some.injEq] at ho
          subst ho
          intro a W vs hB hS hE hU
          obtain ⟨r8, e21⟩ := hE 8 21 (by kernel_rfl) (by kernel_rfl)
          have v21 : a.eval (.tmp 21) = .bool true := e21.trans r8
          exact wpG_no 8 false 21 rfl (by kernel_rfl) (by rw [hS]; first | simp | exact Nat.le_of_ble_eq_true rfl) v21 ⟨_, rfl, hB, Fr.refl _ _, rfl, fun _ _ _ _ _ => trivial⟩
        · simp only [List.getElem?_cons_zero, List.getElem?_cons_succ, Option.some.injEq] at ho
          subst ho
          intro a W vs hB hS hE hU
          obtain ⟨r8, e21⟩ := hE 8 21 (by kernel_rfl) (by kernel_rfl)
          have v21 : a.eval (.tmp 21) = .bool true := e21.trans r8
          exact wpG_no 8 false 21 rfl (by kernel_rfl) (by rw [hS]; first | simp | exact Nat.le_of_ble_eq_true rfl) v21 ⟨_, rfl, hB, Fr.refl _ _, rfl, fun _ _ _ _ _ => trivial⟩
        · simp only [List.getElem?_cons_zero, List.getElem?_cons_succ, Option.some.injEq] at ho
          subst ho
          intro a W vs hB hS hE hU
          refine wpG_plain rfl ?_
          obtain ⟨r8, e21⟩ := hE 8 21 (by kernel_rfl) (by kernel_rfl)
          have v21 : a.eval (.tmp 21) = .bool true := e21.trans r8
          clear hE hU
          exact wp_value_inv (w' := W) (.bool true) (op_pick rfl v21 (by simp only [if_true]; rfl)) ⟨_, rfl, hB, Fr.refl _ _, rfl, fun _ _ _ _ _ => trivial⟩
      · intro vs Wa hB0 hR0 hD
        have r27 : vs 14 = .bool true := hR0 14 (by decide)
        have HB := Lib.hid hB0
        clear hR0 hD hB0
        simp only [acts, if_true, dstAt, List.getElem?_cons_zero, List.getElem?_cons_succ, Option.bind_some, Act.put, List.setIfInBounds_toArray, List.set_cons_succ, List.set_cons_zero, List.drop_succ_cons, List.drop_nil]
        simp only [r27]
        clear r27
        go_wp2
        go_ret2
        exact ⟨rfl, HF.out.trans HB.out (fun _ h => h.elim)⟩
    · have HM0 := Lib.hid (show (0 : Int) ≤ many by omega)
      have HS0 := Lib.hid (show (s : Int) < sx by
        rcases hno with h | h | h
        · exact absurd h hm
        · rw [hap] at h; cases h
        · exact h)
      clear hap hno hm
      go_enter Try.func53, Try.ntmps53
      go_wp2
      rw [← hW1, ← hb5]
      clear hW1 hb5
      refine wp_region_inv 15 (by kernel_rfl) (by kernel_rfl) (fun W => Fr (fun _ => False) W1 W) (PlC g b5 s nh ch L A Dt many sx ah) (fun _ _ _ _ => True) (Fr (fun _ => False)) (PlC.ext g b5 s nh ch L A Dt many sx ah) (Fr.refl _ _).drew ?_ ?_
      · intro i hi o ho
        replace hi : i < 15 := hi
        obtain rfl | rfl | rfl | rfl | rfl | rfl | rfl | rfl | rfl | rfl | rfl | rfl | rfl | rfl | rfl : i = 0 ∨ i = 1 ∨ i = 2 ∨ i = 3 ∨ i = 4 ∨ i = 5 ∨ i = 6 ∨ i = 7 ∨ i = 8 ∨ i = 9 ∨ i = 10 ∨ i = 11 ∨ i = 12 ∨ i = 13 ∨ i = 14 := by omega
        · simp only [List.getElem?_cons_zero, Option.some.injEq] at ho
          subst ho
          intro a W vs hB hS hE hU
          refine wpG_plain rfl ?_
          have v5 : a.eval (.tmp 5) = .pointer (some ⟨b5, 0, none⟩) := (hU 5 (by kernel_rfl)).trans rfl
          clear hE hU
          exact wp_value_inv (w' := W) (.agg #[.int .i64 L, .int .i64 A, .int .i64 Dt]) (op_loadAt rfl v5 (LDS.out W hB)) ⟨_, rfl, hB, Fr.refl _ _, rfl, fun _ _ _ _ _ => trivial⟩
        · simp only [List.getElem?_cons_zero, List.getElem?_cons_succ, Option.some.injEq] at ho
          subst ho
          intro a W vs hB hS hE hU
          refine wpG_plain rfl ?_
          have v3 : a.eval (.tmp 3) = .slice ah nh ch := (hU 3 (by kernel_rfl)).trans rfl
          clear hE hU
          exact wp_value_inv (w' := W) (.slice ah nh ch) (op_move rfl v3) ⟨_, rfl, hB, Fr.refl _ _, rfl, fun _ _ _ _ _ => trivial⟩
        · simp only [List.getElem?_cons_zero, List.getElem?_cons_succ, Option.some.injEq] at ho
          subst ho
          intro a W vs hB hS hE hU
          refine wpG_plain rfl ?_
          obtain ⟨r0, e13⟩ := hE 0 13 (by kernel_rfl) (by kernel_rfl)
          have v13 : a.eval (.tmp 13) = .agg #[.int .i64 L, .int .i64 A, .int .i64 Dt] := e13.trans r0
          obtain ⟨r1, e14⟩ := hE 1 14 (by kernel_rfl) (by kernel_rfl)
          have v14 : a.eval (.tmp 14) = .slice ah nh ch := e14.trans r1
          clear hE hU
          refine wp_call_inv 17 #[.tmp 13, .tmp 14] #[23, 24] rfl #[.agg #[.int .i64 L, .int .i64 A, .int .i64 Dt], .slice ah nh ch] (by simp only [List.map_toArray, List.map_cons, List.map_nil, v13, v14]) (p7_ent_spence_spenceref07_Apart _) (Post := fun v W' => v = .bool true ∧ Fr (fun _ => False) W W') ((HAP.out W hB).mono fun e w' h => ⟨_, h.1, rfl, h.2⟩) ?_
          rintro v W' ⟨rfl, hf⟩
          exact ⟨_, rfl, hB.trans hf (fun _ h => h.elim), hf, rfl, fun _ _ _ _ _ => trivial⟩
        · simp only [List.getElem?_cons_zero, List.getElem?_cons_succ, Option.some.injEq] at ho
          subst ho
          intro a W vs hB hS hE hU
          refine wpG_plain rfl ?_
          obtain ⟨r2, e15⟩ := hE 2 15 (by kernel_rfl) (by kernel_rfl)
          have v15 : a.eval (.tmp 15) = .bool true := e15.trans r2
          clear hE hU
          exact wp_value_inv (w' := W) (.bool false) (op_unop rfl v15 (by rfl)) ⟨_, rfl, hB, Fr.refl _ _, rfl, fun _ _ _ _ _ => trivial⟩
        · simp only [List.getElem?_cons_zero, List.getElem?_cons_succ, Option.some.injEq] at ho
          subst ho
          intro a W vs hB hS hE hU
          refine wpG_plain rfl ?_
          obtain ⟨r3, e16⟩ := hE 3 16 (by kernel_rfl) (by kernel_rfl)
          have v16 : a.eval (.tmp 16) = .bool false := e16.trans r3
          clear hE hU
          exact wp_value_inv (w' := W) (.bool false) (op_move rfl v16) ⟨_, rfl, hB, Fr.refl _ _, rfl, fun _ _ _ _ _ => trivial⟩
        · simp only [List.getElem?_cons_zero, List.getElem?_cons_succ, Option.some.injEq] at ho
          subst ho
          intro a W vs hB hS hE hU
          obtain ⟨r4, e17⟩ := hE 4 17 (by kernel_rfl) (by kernel_rfl)
          have v17 : a.eval (.tmp 17) = .bool false := e17.trans r4
          refine wpG_yes 4 false 17 rfl (by kernel_rfl) (by rw [hS]; first | simp | exact Nat.le_of_ble_eq_true rfl) v17 ?_
          have v2 : a.eval (.tmp 2) = .int .i64 many := (hU 2 (by kernel_rfl)).trans rfl
          clear hE hU
          exact wp_value_inv (w' := W) (.int .i64 many) (op_move rfl v2) ⟨_, rfl, hB, Fr.refl _ _, rfl, fun _ _ _ _ _ => trivial⟩
        · simp only [List.getElem?_cons_zero, List.getElem?_cons_succ, Option.some.injEq] at ho
          subst ho
          intro a W vs hB hS hE hU
          obtain ⟨r4, e17⟩ := hE 4 17 (by kernel_rfl) (by kernel_rfl)
          have v17 : a.eval (.tmp 17) = .bool false := e17.trans r4
          refine wpG_yes 4 false 17 rfl (by kernel_rfl) (by rw [hS]; first | simp | exact Nat.le_of_ble_eq_true rfl) v17 ?_
          obtain ⟨r5, e18⟩ := hE 5 18 (by kernel_rfl) (by kernel_rfl)
          have v18 : a.eval (.tmp 18) = .int .i64 many := e18.trans r5
          clear hE hU
          exact wp_value_inv (w' := W) (.bool false) (op_bin rfl v18 rfl (rfl) (lss_no HM0.out)) ⟨_, rfl, hB, Fr.refl _ _, rfl, fun _ _ _ _ _ => trivial⟩
        · simp only [List.getElem?_cons_zero, List.getElem?_cons_succ, Option.some.injEq] at ho
          subst ho
          intro a W vs hB hS hE hU
          refine wpG_plain rfl ?_
          obtain ⟨r4, e17⟩ := hE 4 17 (by kernel_rfl) (by kernel_rfl)
          have v17 : a.eval (.tmp 17) = .bool false := e17.trans r4
          obtain ⟨r6, e19⟩ := hE 6 19 (by kernel_rfl) (by kernel_rfl)
          have v19 : a.eval (.tmp 19) = .bool false := e19.trans r6
          clear hE hU
          exact wp_value_inv (w' := W) (.bool false) (op_pick rfl v17 (by simp only [Bool.false_eq_true, if_false]; exact v19)) ⟨_, rfl, hB, Fr.refl _ _, rfl, fun _ _ _ _ _ => trivial⟩
        · simp only [List.getElem?_cons_zero, List.getElem?_cons_succ, Option.some.injEq] at ho
          subst ho
          intro a W vs hB hS hE hU
          refine wpG_plain rfl ?_
          obtain ⟨r7, e20⟩ := hE 7 20 (by kernel_rfl) (by kernel_rfl)
          have v20 : a.eval (.tmp 20) = .bool false := e20.trans r7
          clear hE hU
          exact wp_value_inv (w' := W) (.bool false) (op_move rfl v20) ⟨_, rfl, hB, Fr.refl _ _, rfl, fun _ _ _ _ _ => trivial⟩
        · simp only [List.getElem?_cons_zero, List.getElem?_cons_succ, Option.some.injEq] at ho
          subst ho
          intro a W vs hB hS hE hU
          obtain ⟨r8, e21⟩ := hE 8 21 (by kernel_rfl) (by kernel_rfl)
          have v21 : a.eval (.tmp 21) = .bool false := e21.trans r8
          refine wpG_yes 8 false 21 rfl (by kernel_rfl) (by rw [hS]; first | simp | exact Nat.le_of_ble_eq_true rfl) v21 ?_
          have v0 : a.eval (.tmp 0) = .pointer (some ⟨g, 0, none⟩) := (hU 0 (by kernel_rfl)).trans rfl
          clear hE hU
          exact wp_value_inv (w' := W) (.pointer (some ⟨g, 0, none⟩)) (op_move rfl v0) ⟨_, rfl, hB, Fr.refl _ _, rfl, fun _ _ _ _ _ => trivial⟩
        · simp only [List.getElem?_cons_zero, List.getElem?_cons_succ, Option.some.injEq] at ho
          subst ho
          intro a W vs hB hS hE hU
          obtain ⟨r8, e21⟩ := hE 8 21 (by kernel_rfl) (by kernel_rfl)
          have v21 : a.eval (.tmp 21) = .bool false := e21.trans r8
          refine wpG_yes 8 false 21 rfl (by kernel_rfl) (by rw [hS]; first | simp | exact Nat.le_of_ble_eq_true rfl) v21 ?_
          obtain ⟨r9, e22⟩ := hE 9 22 (by kernel_rfl) (by kernel_rfl)
          have v22 : a.eval (.tmp 22) = .pointer (some ⟨g, 0, none⟩) := e22.trans r9
          clear hE hU
          refine wp_call_inv 76 #[.tmp 22] #[46] rfl #[.pointer (some ⟨g, 0, none⟩)] (by simp only [List.map_toArray, List.map_cons, List.map_nil, v22]) (p7_ent___spence_spenceref04_Device__Sectors _) (Post := fun v W' => v = .int .i64 (s : Nat) ∧ Fr (fun _ => False) W W') ((HDS.out W hB).mono fun e w' h => ⟨_, h.1, rfl, h.2⟩) ?_
          rintro v W' ⟨rfl, hf⟩
          exact ⟨_, rfl, hB.trans hf (fun _ h => h.elim), hf, rfl, fun _ _ _ _ _ => trivial⟩
        · simp only [List.getElem?_cons_zero, List.getElem?_cons_succ, Option.some.injEq] at ho
          subst ho
          intro a W vs hB hS hE hU
          obtain ⟨r8, e21⟩ := hE 8 21 (by kernel_rfl) (by kernel_rfl)
          have v21 : a.eval (.tmp 21) = .bool false := e21.trans r8
          refine wpG_yes 8 false 21 rfl (by kernel_rfl) (by rw [hS]; first | simp | exact Nat.le_of_ble_eq_true rfl) v21 ?_
          have v5 : a.eval (.tmp 5) = .pointer (some ⟨b5, 0, none⟩) := (hU 5 (by kernel_rfl)).trans rfl
          clear hE hU
          exact wp_value_inv (w' := W) (.agg #[.int .i64 L, .int .i64 A, .int .i64 Dt]) (op_loadAt rfl v5 (LDS.out W hB)) ⟨_, rfl, hB, Fr.refl _ _, rfl, fun _ _ _ _ _ => trivial⟩
        · simp only [List.getElem?_cons_zero, List.getElem?_cons_succ, Option.some.injEq] at ho
          subst ho
          intro a W vs hB hS hE hU
          obtain ⟨r8, e21⟩ := hE 8 21 (by kernel_rfl) (by kernel_rfl)
          have v21 : a.eval (.tmp 21) = .bool false := e21.trans r8
          refine wpG_yes 8 false 21 rfl (by kernel_rfl) (by rw [hS]; first | simp | exact Nat.le_of_ble_eq_true rfl) v21 ?_
          obtain ⟨r11, e24⟩ := hE 11 24 (by kernel_rfl) (by kernel_rfl)
          have v24 : a.eval (.tmp 24) = .agg #[.int .i64 L, .int .i64 A, .int .i64 Dt] := e24.trans r11
          clear hE hU
          refine wp_call_inv 8 #[.tmp 24] #[23] rfl #[.agg #[.int .i64 L, .int .i64 A, .int .i64 Dt]] (by simp only [List.map_toArray, List.map_cons, List.map_nil, v24]) (p7_ent_spence_spenceref05_Sectors _) (Post := fun v W' => v = .int .i64 sx ∧ Fr (fun _ => False) W W') ((HSE.out W).mono fun e w' h => ⟨_, h.1, rfl, h.2⟩) ?_
          rintro v W' ⟨rfl, hf⟩
          exact ⟨_, rfl, hB.trans hf (fun _ h => h.elim), hf, rfl, fun _ _ _ _ _ => trivial⟩
        · simp only [List.getElem?_cons_zero, List.getElem?_cons_succ, Option.some.injEq] at ho
          subst ho
          intro a W vs hB hS hE hU
          obtain ⟨r8, e21⟩ := hE 8 21 (by kernel_rfl) (by kernel_rfl)
          have v21 : a.eval (.tmp 21) = .bool false := e21.trans r8
          refine wpG_yes 8 false 21 rfl (by kernel_rfl) (by rw [hS]; first | simp | exact Nat.le_of_ble_eq_true rfl) v21 ?_
          obtain ⟨r10, e23⟩ := hE 10 23 (by kernel_rfl) (by kernel_rfl)
          have v23 : a.eval (.tmp 23) = .int .i64 (s : Nat) := e23.trans r10
          obtain ⟨r12, e25⟩ := hE 12 25 (by kernel_rfl) (by kernel_rfl)
          have v25 : a.eval (.tmp 25) = .int .i64 sx := e25.trans r12
          clear hE hU
          exact wp_value_inv (w' := W) (.bool true) (op_bin rfl v23 v25 (rfl) (lss_yes HS0.out)) ⟨_, rfl, hB, Fr.refl _ _, rfl, fun _ _ _ _ _ => trivial⟩
        · simp only [List.getElem?_cons_zero, List.getElem?_cons_succ, Option.some.injEq] at ho
          subst ho
          intro a W vs hB hS hE hU
          refine wpG_plain rfl ?_
          obtain ⟨r8, e21⟩ := hE 8 21 (by kernel_rfl) (by kernel_rfl)
          have v21 : a.eval (.tmp 21) = .bool false := e21.trans r8
          obtain ⟨r13, e26⟩ := hE 13 26 (by kernel_rfl) (by kernel_rfl)
          have v26 : a.eval (.tmp 26) = .bool true := e26.trans r13
          clear hE hU
          exact wp_value_inv (w' := W) (.bool true) (op_pick rfl v21 (by simp only [Bool.false_eq_true, if_false]; exact v26)) ⟨_, rfl, hB, Fr.refl _ _, rfl, fun _ _ _ _ _ => trivial⟩
      · intro vs Wa hB0 hR0 hD
        have r27 : vs 14 = .bool true := hR0 14 (by decide)
        have HB := Lib.hid hB0
        clear hR0 hD hB0
        simp only [acts, if_true, dstAt, List.getElem?_cons_zero, List.getElem?_cons_succ, Option.bind_some, Act.put, List.setIfInBounds_toArray, List.set_cons_succ, List.set_cons_zero, List.drop_succ_cons, List.drop_nil]
        simp only [r27]
        clear r27
        go_wp2
        go_ret2
        exact ⟨rfl, HF.out.trans HB.out (fun _ h => h.elim)⟩
end Go.Proofs.Ytcbbcihfooaggaa
