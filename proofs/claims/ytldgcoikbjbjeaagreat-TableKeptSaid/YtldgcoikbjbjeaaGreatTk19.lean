/- Laid together: JHead2 JAppend -/
import Derived.Test.YtldgcoikbjbjeaaGreatTk17
import Derived.Test.YtldgcoikbjbjeaaGreatTk18

namespace Go.Proofs.YtldgcoikbjbjeaaGreat
open Go.RowKit Go.ChangeShapes
set_option linter.unusedVariables false
theorem lAppended_any (w : World) (x1 x2 x3 x4 m : Nat) (h3 : x3 ≤ 1000000) (h4 : x4 ≤ 1099511627776) (hm : m ≤ 2000000) :
    Calls Tryz.prog 108 #[.agg #[.int .i64 x1, .int .i64 x2, .int .i64 x3, .int .i64 x4], .int .i64 m] w fun e w' => e = .returned (.agg #[.int .i64 x1, .int .i64 x2, .int .i64 ((x3 + m : Nat) : Int), .int .i64 ((x4 + 1 : Nat) : Int)]) ∧ Fr (fun _ => False) w w' := by
  have e1 : ((x3 + m : Nat) : Int) = (x3 : Int) + (m : Int) := by push_cast; rfl
  have e2 : ((x4 + 1 : Nat) : Int) = (x4 : Int) + 1 := by push_cast; rfl
  rw [e1, e2]
  clear e1 e2
  go_enter Tryz.func108, Tryz.ntmps108
  go_wp2
  refine bodyPost_ret (v := .agg #[.int .i64 x1, .int .i64 x2, .int .i64 ((x3 : Int) + (m : Int)), .int .i64 ((x4 : Int) + 1)]) (by simp [results, Tryz.results108, go_sem]) rfl ⟨rfl, ?_⟩
  exact ((Fr.refl _ w).alloc _).alloc _
theorem lSwitched_any (w : World) (x1 x2 x3 x4 m : Nat) (h1 : x1 ≤ 1) (h4 : x4 ≤ 1099511627776) (hm : m ≤ 2000000) :
    Calls Tryz.prog 109 #[.agg #[.int .i64 x1, .int .i64 x2, .int .i64 x3, .int .i64 x4], .int .i64 m] w fun e w' => e = .returned (.agg #[.int .i64 ((1 - x1 : Nat) : Int), .int .i64 m, .int .i64 0, .int .i64 ((x4 + 1 : Nat) : Int)]) ∧ Fr (fun _ => False) w w' := by
  have e1 : ((1 - x1 : Nat) : Int) = 1 - (x1 : Int) := by omega
  have e2 : ((x4 + 1 : Nat) : Int) = (x4 : Int) + 1 := by push_cast; rfl
  rw [e1, e2]
  clear e1 e2
  go_enter Tryz.func109, Tryz.ntmps109
  go_wp2
  refine bodyPost_ret (v := .agg #[.int .i64 (1 - (x1 : Int)), .int .i64 m, .int .i64 0, .int .i64 ((x4 : Int) + 1)]) (by simp [results, Tryz.results109, go_sem]) rfl ⟨rfl, ?_⟩
  exact ((Fr.refl _ w).alloc _).alloc _
theorem lWithin_any (w : World) (h : Hd) (l la d : Nat) (hl : l ≤ 8192) (hla : la ≤ 8192) (hr : h.Right l la) :
    Calls Tryz.prog 55 #[.agg #[.int .i64 h.area, .int .i64 h.size, .int .i64 h.used, .int .i64 h.round], .agg #[.int .i64 l, .int .i64 la, .int .i64 d]] w fun e w' => e = .returned (.bool true) ∧ Fr (fun _ => False) w w' := by
  have HRM := Lib.hid (fun W => lRoom_any W h l la d hl hr.used)
  obtain ⟨x2, hx2⟩ : ∃ x, x = h.size := ⟨_, rfl⟩
  obtain ⟨x3, hx3⟩ : ∃ x, x = h.used := ⟨_, rfl⟩
  obtain ⟨m, hm⟩ : ∃ m, m = 64 * l - h.used := ⟨_, rfl⟩
  have h2 : (x2 : Int) ≤ (la : Int) * 64 := by rw [hx2]; have := hr.size; omega
  rw [← hm, ← hx2, ← hx3] at HRM
  rw [← hx2, ← hx3]
  have hm0 : (0 : Int) ≤ (m : Int) := by omega
  clear hr hx2 hx3 hm
  go_enter Tryz.func55, Tryz.ntmps55
  go_wp2_with (go_at_call 96; refine (HRM.out _).mono ?_; rintro e w1 ⟨rfl, hf1⟩; (have H1 := Lib.hid hf1); clear hf1)
  go_ret
  exact ⟨rfl, (((Fr.refl _ w).alloc _).alloc _).trans H1.out (fun _ h => h.elim)⟩
end Go.Proofs.YtldgcoikbjbjeaaGreat
namespace Go.Proofs.YtldgcoikbjbjeaaGreat
open Go.RowKit Go.ChangeShapes
set_option linter.unusedVariables false
theorem load_head5 (w : World) (g o : Nat) (x y z u : Value) (h : w.rangeAt g o [x, y, z, u]) : (Instr.loadAt 106 (.pointer (some ⟨g, o, none⟩))).run Tryz.prog w = .ok (.agg #[x, y, z, u]) w :=
  run_loadAt_mid w g o 106 [x, y, z, u] _ h Tryz.underlying106 rfl (by kernel_rfl)
theorem jn_head {w : World} {g : Nat} {a b c d e f k l m n : Value} {T : TypeId} (h : w.heap[g]? = some (.cells #[a, b, c, d, e, f, k, l, m, n] T (0, 0))) : w.rangeAt g 0 [a, b, c, d] := fun j v hv => by
  rw [cell_of_row _ _ _ _ _ _ h]
  match j, hv with
  | 0, hv => simpa using hv
  | 1, hv => simpa using hv
  | 2, hv => simpa using hv
  | 3, hv => simpa using hv
theorem jn_shape {w : World} {g : Nat} {a b c d e f k l m n : Value} {T : TypeId} (h : w.heap[g]? = some (.cells #[a, b, c, d, e, f, k, l, m, n] T (0, 0))) : w.rangeAt g 5 [f, k, l] := fun j v hv => by
  rw [cell_of_row _ _ _ _ _ _ h]
  match j, hv with
  | 0, hv => simpa using hv
  | 1, hv => simpa using hv
  | 2, hv => simpa using hv
def RomR (jn x1 x2 x3 x4 l la d m : Nat) (i : Nat) (v : Value) (W : World) : Prop :=
  match i with
  | 0 => v = .pointer (some ⟨jn, 0, none⟩)
  | 1 => v = .pointer (some ⟨jn, 0, none⟩)
  | 2 => v = .pointer (some ⟨jn, 0, none⟩)
  | 3 => v = .agg #[.int .i64 (x1 : Nat), .int .i64 (x2 : Nat), .int .i64 (x3 : Nat), .int .i64 (x4 : Nat)]
  | 4 => v = .pointer (some ⟨jn, 0, none⟩)
  | 5 => v = .pointer (some ⟨jn, 0, none⟩)
  | 6 => v = .pointer (some ⟨jn, 5, none⟩)
  | 7 => v = .agg #[.int .i64 (l : Nat), .int .i64 (la : Nat), .int .i64 (d : Nat)]
  | 8 => v = .int .i64 (m : Nat)
  | 9 => v = .int .i64 (m : Nat)
  | _ => True
theorem RomR.ext (jn x1 x2 x3 x4 l la d m : Nat) : ∀ (j : Nat) (u : Value) (W W' : World), Fr (fun _ => False) W W' → RomR jn x1 x2 x3 x4 l la d m j u W → RomR jn x1 x2 x3 x4 l la d m j u W'
  | 0, u, W, W', hf, h => h
  | 1, u, W, W', hf, h => h
  | 2, u, W, W', hf, h => h
  | 3, u, W, W', hf, h => h
  | 4, u, W, W', hf, h => h
  | 5, u, W, W', hf, h => h
  | 6, u, W, W', hf, h => h
  | 7, u, W, W', hf, h => h
  | 8, u, W, W', hf, h => h
  | 9, u, W, W', hf, h => h
  | _ + 10, u, W, W', hf, h => trivial
def ApdR (jn x1 x2 x3 x4 tl ct : Nat) (ao : Option Addr) (i : Nat) (v : Value) (W : World) : Prop :=
  match i with
  | 0 => v = .pointer (some ⟨jn, 0, none⟩)
  | 1 => v = .pointer (some ⟨jn, 0, none⟩)
  | 2 => v = .pointer (some ⟨jn, 0, none⟩)
  | 3 => v = .pointer (some ⟨jn, 0, none⟩)
  | 4 => v = .pointer (some ⟨jn, 2, none⟩)
  | 5 => v = .int .i64 (x3 : Nat)
  | 6 => v = .int .i64 ((64 + x3 : Nat) : Int)
  | 7 => v = .slice ao tl ct
  | 8 => v = .pointer (some ⟨jn, 0, none⟩)
  | 9 => v = .pointer (some ⟨jn, 0, none⟩)
  | 10 => v = .pointer (some ⟨jn, 0, none⟩)
  | 11 => v = .agg #[.int .i64 (x1 : Nat), .int .i64 (x2 : Nat), .int .i64 (x3 : Nat), .int .i64 (x4 : Nat)]
  | 12 => v = .slice ao tl ct
  | 13 => v = .int .i64 (tl : Nat)
  | 14 => v = .agg #[.int .i64 (x1 : Nat), .int .i64 (x2 : Nat), .int .i64 ((x3 + tl : Nat) : Int), .int .i64 ((x4 + 1 : Nat) : Int)]
  | _ => True
theorem ApdR.ext (jn x1 x2 x3 x4 tl ct : Nat) (ao : Option Addr) : ∀ (j : Nat) (u : Value) (W W' : World), Fr (fun _ => False) W W' → ApdR jn x1 x2 x3 x4 tl ct ao j u W → ApdR jn x1 x2 x3 x4 tl ct ao j u W'
  | 0, u, W, W', hf, h => h
  | 1, u, W, W', hf, h => h
  | 2, u, W, W', hf, h => h
  | 3, u, W, W', hf, h => h
  | 4, u, W, W', hf, h => h
  | 5, u, W, W', hf, h => h
  | 6, u, W, W', hf, h => h
  | 7, u, W, W', hf, h => h
  | 8, u, W, W', hf, h => h
  | 9, u, W, W', hf, h => h
  | 10, u, W, W', hf, h => h
  | 11, u, W, W', hf, h => h
  | 12, u, W, W', hf, h => h
  | 13, u, W, W', hf, h => h
  | 14, u, W, W', hf, h => h
  | _ + 15, u, W, W', hf, h => trivial
set_option maxRecDepth 100000 in
set_option maxHeartbeats 1000000 in
theorem jRoom_any (w : World) (jn g : Nat) (h : Hd) (l la d : Nat) (hl : l ≤ 8192) (hu : h.used ≤ 64 * l) (hj : JnAt w jn g h l la d false) :
    Calls Tryz.prog 73 #[.pointer (some ⟨jn, 0, none⟩)] w fun e w' => e = .returned (.int .i64 ((64 * l - h.used : Nat) : Int)) ∧ Fr (fun _ => False) w w' := by
  have hc := jReady_any w jn g h l la d false hj
  have hro := fun W => lRoom_any W h l la d hl hu
  obtain ⟨m, hm⟩ : ∃ m, m = 64 * l - h.used := ⟨_, rfl⟩
  have HJ := Lib.hid hj
  obtain ⟨x1, hx1⟩ : ∃ x, x = h.area := ⟨_, rfl⟩
  obtain ⟨x2, hx2⟩ : ∃ x, x = h.size := ⟨_, rfl⟩
  obtain ⟨x3, hx3⟩ : ∃ x, x = h.used := ⟨_, rfl⟩
  obtain ⟨x4, hx4⟩ : ∃ x, x = h.round := ⟨_, rfl⟩
  have HX := Lib.hid (And.intro hx1 (And.intro hx2 (And.intro hx3 hx4)))
  unfold JnAt at HJ
  rw [← hm, ← hx1, ← hx2, ← hx3, ← hx4] at hro
  rw [← hx1, ← hx2, ← hx3, ← hx4] at HJ
  rw [← hm]
  have HRO := Lib.hid hro
  clear hj hro hm hx1 hx2 hx3 hx4 hu
  go_enter Tryz.func73, Tryz.ntmps73
  go_wp2_with (go_at_call 100; refine hc.mono ?_; rintro e w1 ⟨rfl, rfl⟩)
  have LDS := Lib.hid (fun W (hW : Fr (fun _ => False) w W) => load_shape5 W jn 5 _ _ _ (jn_shape (hW.heap HJ.out id)))
  have LDH := Lib.hid (fun W (hW : Fr (fun _ => False) w W) => load_head5 W jn 0 _ _ _ _ (jn_head (hW.heap HJ.out id)))
  refine wp_region_inv 10 (by kernel_rfl) (by kernel_rfl) (fun W => Fr (fun _ => False) w W) (RomR jn x1 x2 x3 x4 l la d m) (fun _ _ _ _ => True) (Fr (fun _ => False)) (RomR.ext jn x1 x2 x3 x4 l la d m) (Fr.refl _ _).drew ?_ ?_
  · intro i hi o ho
    replace hi : i < 10 := hi
    obtain rfl | rfl | rfl | rfl | rfl | rfl | rfl | rfl | rfl | rfl : i = 0 ∨ i = 1 ∨ i = 2 ∨ i = 3 ∨ i = 4 ∨ i = 5 ∨ i = 6 ∨ i = 7 ∨ i = 8 ∨ i = 9 := by omega
    · simp only [List.getElem?_cons_zero, Option.some.injEq] at ho
      subst ho
      intro a W vs hB hS hE hU
      refine wpG_plain rfl ?_
      have v0 : a.eval (.tmp 0) = .pointer (some ⟨jn, 0, none⟩) := (hU 0 (by kernel_rfl)).trans rfl
      clear hE hU
      exact wp_value_inv (w' := W) (.pointer (some ⟨jn, 0, none⟩)) (op_move rfl v0) ⟨_, rfl, hB, Fr.refl _ _, rfl, fun _ _ _ _ _ => trivial⟩
    · simp only [List.getElem?_cons_zero, List.getElem?_cons_succ, Option.some.injEq] at ho
      subst ho
      intro a W vs hB hS hE hU
      refine wpG_plain rfl ?_
      obtain ⟨r0, e6⟩ := hE 0 6 (by kernel_rfl) (by kernel_rfl)
      have v6 : a.eval (.tmp 6) = .pointer (some ⟨jn, 0, none⟩) := e6.trans r0
      clear hE hU
      exact wp_value_inv (w' := W) (.pointer (some ⟨jn, 0, none⟩)) (op_nilCheck rfl v6) ⟨_, rfl, hB, Fr.refl _ _, rfl, fun _ _ _ _ _ => trivial⟩
    · simp only [List.getElem?_cons_zero, List.getElem?_cons_succ, Option.some.injEq] at ho
      subst ho
      intro a W vs hB hS hE hU
      refine wpG_plain rfl ?_
      obtain ⟨r1, e7⟩ := hE 1 7 (by kernel_rfl) (by kernel_rfl)
      have v7 : a.eval (.tmp 7) = .pointer (some ⟨jn, 0, none⟩) := e7.trans r1
      clear hE hU
      exact wp_value_inv (w' := W) (.pointer (some ⟨jn, 0, none⟩)) (op_fieldAddr rfl v7 (fld_spence_log_Journal_0_0 W jn)) ⟨_, rfl, hB, Fr.refl _ _, rfl, fun _ _ _ _ _ => trivial⟩
    · simp only [List.getElem?_cons_zero, List.getElem?_cons_succ, Option.some.injEq] at ho
      subst ho
      intro a W vs hB hS hE hU
      refine wpG_plain rfl ?_
      obtain ⟨r2, e8⟩ := hE 2 8 (by kernel_rfl) (by kernel_rfl)
      have v8 : a.eval (.tmp 8) = .pointer (some ⟨jn, 0, none⟩) := e8.trans r2
      clear hE hU
      exact wp_value_inv (w' := W) (.agg #[.int .i64 (x1 : Nat), .int .i64 (x2 : Nat), .int .i64 (x3 : Nat), .int .i64 (x4 : Nat)]) (op_loadAt rfl v8 (LDH.out W hB)) ⟨_, rfl, hB, Fr.refl _ _, rfl, fun _ _ _ _ _ => trivial⟩
    · simp only [List.getElem?_cons_zero, List.getElem?_cons_succ, Option.some.injEq] at ho
      subst ho
      intro a W vs hB hS hE hU
      refine wpG_plain rfl ?_
      have v0 : a.eval (.tmp 0) = .pointer (some ⟨jn, 0, none⟩) := (hU 0 (by kernel_rfl)).trans rfl
      clear hE hU
      exact wp_value_inv (w' := W) (.pointer (some ⟨jn, 0, none⟩)) (op_move rfl v0) ⟨_, rfl, hB, Fr.refl _ _, rfl, fun _ _ _ _ _ => trivial⟩
    · simp only [List.getElem?_cons_zero, List.getElem?_cons_succ, Option.some.injEq] at ho
      subst ho
      intro a W vs hB hS hE hU
      refine wpG_plain rfl ?_
      obtain ⟨r4, e10⟩ := hE 4 10 (by kernel_rfl) (by kernel_rfl)
      have v10 : a.eval (.tmp 10) = .pointer (some ⟨jn, 0, none⟩) := e10.trans r4
      clear hE hU
      exact wp_value_inv (w' := W) (.pointer (some ⟨jn, 0, none⟩)) (op_nilCheck rfl v10) ⟨_, rfl, hB, Fr.refl _ _, rfl, fun _ _ _ _ _ => trivial⟩
    · simp only [List.getElem?_cons_zero, List.getElem?_cons_succ, Option.some.injEq] at ho
      subst ho
      intro a W vs hB hS hE hU
      refine wpG_plain rfl ?_
      obtain ⟨r5, e11⟩ := hE 5 11 (by kernel_rfl) (by kernel_rfl)
      have v11 : a.eval (.tmp 11) = .pointer (some ⟨jn, 0, none⟩) := e11.trans r5
      clear hE hU
      exact wp_value_inv (w' := W) (.pointer (some ⟨jn, 5, none⟩)) (op_fieldAddr rfl v11 (fld_spence_log_Journal_2_0 W jn)) ⟨_, rfl, hB, Fr.refl _ _, rfl, fun _ _ _ _ _ => trivial⟩
    · simp only [List.getElem?_cons_zero, List.getElem?_cons_succ, Option.some.injEq] at ho
      subst ho
      intro a W vs hB hS hE hU
      refine wpG_plain rfl ?_
      obtain ⟨r6, e12⟩ := hE 6 12 (by kernel_rfl) (by kernel_rfl)
      have v12 : a.eval (.tmp 12) = .pointer (some ⟨jn, 5, none⟩) := e12.trans r6
      clear hE hU
      exact wp_value_inv (w' := W) (.agg #[.int .i64 (l : Nat), .int .i64 (la : Nat), .int .i64 (d : Nat)]) (op_loadAt rfl v12 (LDS.out W hB)) ⟨_, rfl, hB, Fr.refl _ _, rfl, fun _ _ _ _ _ => trivial⟩
    · simp only [List.getElem?_cons_zero, List.getElem?_cons_succ, Option.some.injEq] at ho
      subst ho
      intro a W vs hB hS hE hU
      refine wpG_plain rfl ?_
      obtain ⟨r3, e9⟩ := hE 3 9 (by kernel_rfl) (by kernel_rfl)
      have v9 : a.eval (.tmp 9) = .agg #[.int .i64 (x1 : Nat), .int .i64 (x2 : Nat), .int .i64 (x3 : Nat), .int .i64 (x4 : Nat)] := e9.trans r3
      obtain ⟨r7, e13⟩ := hE 7 13 (by kernel_rfl) (by kernel_rfl)
      have v13 : a.eval (.tmp 13) = .agg #[.int .i64 (l : Nat), .int .i64 (la : Nat), .int .i64 (d : Nat)] := e13.trans r7
      clear hE hU
      refine wp_call_inv 96 #[.tmp 9, .tmp 13] #[106, 23] rfl #[.agg #[.int .i64 (x1 : Nat), .int .i64 (x2 : Nat), .int .i64 (x3 : Nat), .int .i64 (x4 : Nat)], .agg #[.int .i64 (l : Nat), .int .i64 (la : Nat), .int .i64 (d : Nat)]] (by simp only [List.map_toArray, List.map_cons, List.map_nil, v9, v13]) (ent__spence_log_head__room _) (Post := fun v W' => v = .int .i64 (m : Nat) ∧ Fr (fun _ => False) W W') ((HRO.out W).mono fun e w' h => ⟨_, h.1, rfl, h.2⟩) ?_
      rintro v W' ⟨rfl, hf⟩
      exact ⟨_, rfl, hB.trans hf (fun _ h => h.elim), hf, rfl, fun _ _ _ _ _ => trivial⟩
    · simp only [List.getElem?_cons_zero, List.getElem?_cons_succ, Option.some.injEq] at ho
      subst ho
      intro a W vs hB hS hE hU
      refine wpG_plain rfl ?_
      obtain ⟨r8, e14⟩ := hE 8 14 (by kernel_rfl) (by kernel_rfl)
      have v14 : a.eval (.tmp 14) = .int .i64 (m : Nat) := e14.trans r8
      clear hE hU
      exact wp_value_inv (w' := W) (.int .i64 (m : Nat)) (op_assign rfl v14) ⟨_, rfl, hB, Fr.refl _ _, rfl, fun _ _ _ _ _ => trivial⟩
  · intro vs Wa hB0 hR0 hD
    have r2 : vs 9 = .int .i64 (m : Nat) := hR0 9 (by decide)
    have HB := Lib.hid hB0
    clear hR0 hD hB0
    simp only [acts, if_true, dstAt, List.getElem?_cons_zero, List.getElem?_cons_succ, Option.bind_some, Act.put, List.setIfInBounds_toArray, List.set_cons_succ, List.set_cons_zero, List.drop_succ_cons, List.drop_nil]
    simp only [r2]
    clear r2
    go_wp2
    go_ret
    exact ⟨rfl, HB.out⟩
set_option maxRecDepth 100000 in
set_option maxHeartbeats 4000000 in
theorem jAppend_yes {D G : Nat → Prop} (w : World) (jn g s l la d : Nat) (h : Hd) (vb : Value) (X : List UInt8) (dv : Dv) (hl : l ≤ 8192) (hla2 : la ≤ 8192) (hr : h.Right l la) (hu : h.used ≤ 64 * l) (hX : X.length ≤ 1048576) (hj : JnAt w jn g h l la d false) (hb : BytesIn G w vb X)
    (hc1 : (recB X).length ≤ 64 * l - h.used) (hc2 : h.round < 1099511627776) (hjD : ¬ D jn) (hd : DevAt w D g s dv) (hup : dv.down = false) (hw : dv.waits = []) (hs : s ≤ 8192) (ho : 64 + 64 * l ≤ 64 * s) (hk6 : dv.deeds ≤ 900000000) :
    Calls Tryz.prog 74 #[.pointer (some ⟨jn, 0, none⟩), vb] w (StepPost D w jn g s l la d h ⟨h.area, h.size, h.used + (recB X).length, h.round + 1⟩ (dv.commit s (secsAt dv.all (64 + h.used) (recB X)) (Hd.sec ⟨h.area, h.size, h.used + (recB X).length, h.round + 1⟩))) := by
  have hc := jReady_any w jn g h l la d false hj
  have hrm := fun (W : World) (hf : Fr (fun _ => False) w W) => jRoom_any W jn g h l la d hl hu (hj.keep hf id)
  obtain ⟨m, hm⟩ : ∃ m, m = 64 * l - h.used := ⟨_, rfl⟩
  obtain ⟨W1, hW1⟩ : ∃ W1, W1 = w.alloc (.cells #[.pointer none, .int .i64 0, .bool false] 146) := ⟨_, rfl⟩
  obtain ⟨W2, hW2⟩ : ∃ W2, W2 = W1.alloc (.cells #[vb] 43) := ⟨_, rfl⟩
  have hf1 : Fr (fun _ => False) w W1 := by rw [hW1]; exact (Fr.refl _ _).alloc _
  have hf2 : Fr (fun _ => False) w W2 := by rw [hW2]; exact hf1.alloc _
  have hz1 : W1.heap.size = w.heap.size + 1 := by rw [hW1]; simp
  have hz2 : W2.heap.size = w.heap.size + 2 := by rw [hW2]; simp [hz1]
  have hmk : MakAt (fun k => k = w.heap.size ∨ w.heap.size + 2 ≤ k) W2 w.heap.size (some []) := ⟨.inl rfl, 146, .inl ⟨rfl, by rw [hW2]; exact (Fr.refl (fun _ => False) W1 |>.alloc _).heap (by rw [hW1]; exact heap_alloc_new w _) id⟩⟩
  have hrow : W2.cell? ⟨w.heap.size + 1, 0, none⟩ = some vb := by rw [← hz1]; exact cell_of_one (by rw [hW2]; exact heap_alloc_new W1 _)
  have htx := makerText_any (G := fun k => G k ∧ k < w.heap.size) W2 (fun k hk => .inr (by omega)) (fun k hk h => by have := hk.2; omega) hmk hrow ((hb.mono (fun k hk h => ⟨h, hk⟩)).keep hf2 (fun _ _ _ h => h)) (fun L hL => by cases hL; simp; omega)
  rw [show mkText X (some []) = some (recB X) by rw [mkText, if_pos hX]; rfl] at htx
  have HTX := Lib.hid htx
  have HW := Lib.hid (And.intro hW1 (And.intro hW2 (And.intro hf2 hz2)))
  have HJ := Lib.hid hj
  obtain ⟨tl, htl⟩ : ∃ tl, tl = (recB X).length := ⟨_, rfl⟩
  have htlb : tl ≤ 1048600 := by
    have := (numBytes_len 5 X.length).2
    rw [htl, recB, List.length_append]
    omega
  obtain ⟨ab, cb, hvb, _⟩ := id hb
  subst hvb
  obtain ⟨lb, hlb⟩ : ∃ lb, lb = X.length := ⟨_, rfl⟩
  rw [← hlb] at HW ⊢
  obtain ⟨x1, hx1⟩ : ∃ x, x = h.area := ⟨_, rfl⟩
  obtain ⟨x2, hx2⟩ : ∃ x, x = h.size := ⟨_, rfl⟩
  obtain ⟨x3, hx3⟩ : ∃ x, x = h.used := ⟨_, rfl⟩
  obtain ⟨x4, hx4⟩ : ∃ x, x = h.round := ⟨_, rfl⟩
  have HX := Lib.hid (And.intro hx1 (And.intro hx2 (And.intro hx3 hx4)))
  have hla := fun W => lLast_any W h false (by rw [decide_eq_false_iff_not]; omega)
  have hgt : ¬ m < tl := by rw [hm, htl]; omega
  have hnum : Hd.Num ⟨h.area, h.size, h.used + (recB X).length, h.round + 1⟩ := by
    have hn := hr.num hl hla2
    exact ⟨hn.area, hn.size, by simp only; omega, by simp only; omega⟩
  have hst := fun (Wa : World) (v : Value) (hf : Fr (fun _ => False) w Wa) (hv : OwnB (fun _ => True) Wa v (recB X)) => jStep_any (D := D) Wa jn g s l la d (64 + h.used) h ⟨h.area, h.size, h.used + (recB X).length, h.round + 1⟩ v (recB X) dv (hj.keep hf id) hjD (hd.keep hf (fun _ _ _ h => h)) hup hw hs (by omega) hv.bytes hnum hk6
  obtain ⟨r, hrr⟩ : ∃ r, r = dv.commit s (secsAt dv.all (64 + h.used) (recB X)) (Hd.sec ⟨h.area, h.size, h.used + (recB X).length, h.round + 1⟩) := ⟨_, rfl⟩
  rw [← hrr] at hst ⊢
  simp only at hst
  rw [← htl] at hst ⊢
  have HST := Lib.hid hst
  rw [← hx1, ← hx2, ← hx3, ← hx4] at HST
  have HMB := Lib.hid (show x3 ≤ 600000 by rw [hx3]; omega)
  have HAPP := Lib.hid (fun W => lAppended_any W x1 x2 x3 x4 tl (by have := HMB.out; omega) (by rw [hx4]; omega) (by omega))
  rw [← hm] at hrm
  rw [← hx1, ← hx2, ← hx3, ← hx4] at hla
  have HRM := Lib.hid hrm
  have HLA := Lib.hid hla
  have HTL := Lib.hid htl
  have HJR := Lib.hid hj
  unfold JnAt at HJR
  rw [← hx1, ← hx2, ← hx3, ← hx4] at HJR
  have HUN := Lib.hid (And.intro hx1 (And.intro hx2 (And.intro hx3 hx4)))
  clear hst hjD hd hup hw hs ho hk6 hnum hrr hla2
  clear hj hr hc1 hc2 hb hrm hla htl hW1 hW2 hf1 hf2 hz1 hz2 hmk hrow htx hm hx1 hx2 hx3 hx4 hX hu hlb
  go_enter Tryz.func74, Tryz.ntmps74
  go_wp2_with (first
    | (go_at_call 100; refine hc.mono ?_; rintro e w1 ⟨rfl, rfl⟩)
    | (go_at_call 105; rw [← HW.out.1, ← HW.out.2.1]; refine HTX.out.mono ?_; rintro e w3 ⟨rfl, hf3, hm3⟩; (have H3 := Lib.hid (And.intro (HW.out.2.2.1.trans hf3 (fun k hk => .inr (by omega))) hm3)); clear hf3 hm3)
    | (go_at_call 80; refine (done_yes w3 H3.out.2 (by rw [← HTL.out]; omega)).mono ?_; rintro e w4 ⟨v4, rfl, hf4, ho4⟩; obtain ⟨ao, ct, rfl⟩ := ho4.len; rw [← HTL.out] at ho4 ⊢; (have H4 := Lib.hid (And.intro (H3.out.1.trans hf4 (fun _ h => h.elim)) ho4)); clear hf4 ho4)
    | (go_at_call 73; refine (HRM.out w4 H4.out.1).mono ?_; rintro e w5 ⟨rfl, hf5⟩; (have H5 := Lib.hid (H4.out.1.trans hf5 (fun _ h => h.elim))); (have HF4 := Lib.hid hf5); (obtain ⟨c0, c1, c2, c3, _⟩ := (HJ.out.keep H5.out id).cells); rw [← HX.out.1] at c0; rw [← HX.out.2.1] at c1; rw [← HX.out.2.2.1] at c2; rw [← HX.out.2.2.2] at c3; clear hf5)
    | (go_at_call 106; refine (HLA.out w5).mono ?_; rintro e w6 ⟨rfl, hf6⟩; (have H6 := Lib.hid (H5.out.trans hf6 (fun _ h => h.elim))); (have HF45 := Lib.hid (HF4.out.trans hf6 (fun _ h => h.elim))); clear hf6))
  have LDU := Lib.hid (fun W (hW : Fr (fun _ => False) w6 W) => load_int5 W ⟨jn, 2, none⟩ (.int .i64 x3) (cell_of_row _ _ _ _ _ _ (hW.heap (H6.out.heap HJR.out id) id)))
  have LDH := Lib.hid (fun W (hW : Fr (fun _ => False) w6 W) => load_head5 W jn 0 _ _ _ _ (jn_head (hW.heap (H6.out.heap HJR.out id) id)))
  refine wp_region_inv 15 (by kernel_rfl) (by kernel_rfl) (fun W => Fr (fun _ => False) w6 W) (ApdR jn x1 x2 x3 x4 tl ct ao) (fun _ _ _ _ => True) (Fr (fun _ => False)) (ApdR.ext jn x1 x2 x3 x4 tl ct ao) (Fr.refl _ _).drew ?_ ?_
  · intro i hi o ho
    replace hi : i < 15 := hi
    obtain rfl | rfl | rfl | rfl | rfl | rfl | rfl | rfl | rfl | rfl | rfl | rfl | rfl | rfl | rfl : i = 0 ∨ i = 1 ∨ i = 2 ∨ i = 3 ∨ i = 4 ∨ i = 5 ∨ i = 6 ∨ i = 7 ∨ i = 8 ∨ i = 9 ∨ i = 10 ∨ i = 11 ∨ i = 12 ∨ i = 13 ∨ i = 14 := by omega
    · simp only [List.getElem?_cons_zero, Option.some.injEq] at ho
      subst ho
      intro a W vs hB hS hE hU
      refine wpG_plain rfl ?_
      have v0 : a.eval (.tmp 0) = .pointer (some ⟨jn, 0, none⟩) := (hU 0 (by kernel_rfl)).trans rfl
      clear hE hU
      exact wp_value_inv (w' := W) (.pointer (some ⟨jn, 0, none⟩)) (op_move rfl v0) ⟨_, rfl, hB, Fr.refl _ _, rfl, fun _ _ _ _ _ => trivial⟩
    · simp only [List.getElem?_cons_zero, List.getElem?_cons_succ, Option.some.injEq] at ho
      subst ho
      intro a W vs hB hS hE hU
      refine wpG_plain rfl ?_
      have v0 : a.eval (.tmp 0) = .pointer (some ⟨jn, 0, none⟩) := (hU 0 (by kernel_rfl)).trans rfl
      clear hE hU
      exact wp_value_inv (w' := W) (.pointer (some ⟨jn, 0, none⟩)) (op_move rfl v0) ⟨_, rfl, hB, Fr.refl _ _, rfl, fun _ _ _ _ _ => trivial⟩
    · simp only [List.getElem?_cons_zero, List.getElem?_cons_succ, Option.some.injEq] at ho
      subst ho
      intro a W vs hB hS hE hU
      refine wpG_plain rfl ?_
      obtain ⟨r1, e39⟩ := hE 1 39 (by kernel_rfl) (by kernel_rfl)
      have v39 : a.eval (.tmp 39) = .pointer (some ⟨jn, 0, none⟩) := e39.trans r1
      clear hE hU
      exact wp_value_inv (w' := W) (.pointer (some ⟨jn, 0, none⟩)) (op_nilCheck rfl v39) ⟨_, rfl, hB, Fr.refl _ _, rfl, fun _ _ _ _ _ => trivial⟩
    · simp only [List.getElem?_cons_zero, List.getElem?_cons_succ, Option.some.injEq] at ho
      subst ho
      intro a W vs hB hS hE hU
      refine wpG_plain rfl ?_
      obtain ⟨r2, e40⟩ := hE 2 40 (by kernel_rfl) (by kernel_rfl)
      have v40 : a.eval (.tmp 40) = .pointer (some ⟨jn, 0, none⟩) := e40.trans r2
      clear hE hU
      exact wp_value_inv (w' := W) (.pointer (some ⟨jn, 0, none⟩)) (op_fieldAddr rfl v40 (fld_spence_log_Journal_0_0 W jn)) ⟨_, rfl, hB, Fr.refl _ _, rfl, fun _ _ _ _ _ => trivial⟩
    · simp only [List.getElem?_cons_zero, List.getElem?_cons_succ, Option.some.injEq] at ho
      subst ho
      intro a W vs hB hS hE hU
      refine wpG_plain rfl ?_
      obtain ⟨r3, e41⟩ := hE 3 41 (by kernel_rfl) (by kernel_rfl)
      have v41 : a.eval (.tmp 41) = .pointer (some ⟨jn, 0, none⟩) := e41.trans r3
      clear hE hU
      exact wp_value_inv (w' := W) (.pointer (some ⟨jn, 2, none⟩)) (op_fieldAddr rfl v41 (fld_spence_log_head_2_0 W jn)) ⟨_, rfl, hB, Fr.refl _ _, rfl, fun _ _ _ _ _ => trivial⟩
    · simp only [List.getElem?_cons_zero, List.getElem?_cons_succ, Option.some.injEq] at ho
      subst ho
      intro a W vs hB hS hE hU
      refine wpG_plain rfl ?_
      obtain ⟨r4, e42⟩ := hE 4 42 (by kernel_rfl) (by kernel_rfl)
      have v42 : a.eval (.tmp 42) = .pointer (some ⟨jn, 2, none⟩) := e42.trans r4
      clear hE hU
      exact wp_value_inv (w' := W) (.int .i64 (x3 : Nat)) (op_loadAt rfl v42 (LDU.out W hB)) ⟨_, rfl, hB, Fr.refl _ _, rfl, fun _ _ _ _ _ => trivial⟩
    · simp only [List.getElem?_cons_zero, List.getElem?_cons_succ, Option.some.injEq] at ho
      subst ho
      intro a W vs hB hS hE hU
      refine wpG_plain rfl ?_
      obtain ⟨r5, e43⟩ := hE 5 43 (by kernel_rfl) (by kernel_rfl)
      have v43 : a.eval (.tmp 43) = .int .i64 (x3 : Nat) := e43.trans r5
      clear hE hU
      exact wp_value_inv (w' := W) (.int .i64 ((64 + x3 : Nat) : Int)) (op_bin rfl rfl v43 (rfl) (add_in5 (by push_cast; rfl) (by omega) (by have := HMB.out; omega))) ⟨_, rfl, hB, Fr.refl _ _, rfl, fun _ _ _ _ _ => trivial⟩
    · simp only [List.getElem?_cons_zero, List.getElem?_cons_succ, Option.some.injEq] at ho
      subst ho
      intro a W vs hB hS hE hU
      refine wpG_plain rfl ?_
      have v6 : a.eval (.tmp 6) = .slice ao tl ct := (hU 6 (by kernel_rfl)).trans rfl
      clear hE hU
      exact wp_value_inv (w' := W) (.slice ao tl ct) (op_move rfl v6) ⟨_, rfl, hB, Fr.refl _ _, rfl, fun _ _ _ _ _ => trivial⟩
    · simp only [List.getElem?_cons_zero, List.getElem?_cons_succ, Option.some.injEq] at ho
      subst ho
      intro a W vs hB hS hE hU
      refine wpG_plain rfl ?_
      have v0 : a.eval (.tmp 0) = .pointer (some ⟨jn, 0, none⟩) := (hU 0 (by kernel_rfl)).trans rfl
      clear hE hU
      exact wp_value_inv (w' := W) (.pointer (some ⟨jn, 0, none⟩)) (op_move rfl v0) ⟨_, rfl, hB, Fr.refl _ _, rfl, fun _ _ _ _ _ => trivial⟩
    · simp only [List.getElem?_cons_zero, List.getElem?_cons_succ, Option.some.injEq] at ho
      subst ho
      intro a W vs hB hS hE hU
      refine wpG_plain rfl ?_
      obtain ⟨r8, e46⟩ := hE 8 46 (by kernel_rfl) (by kernel_rfl)
      have v46 : a.eval (.tmp 46) = .pointer (some ⟨jn, 0, none⟩) := e46.trans r8
      clear hE hU
      exact wp_value_inv (w' := W) (.pointer (some ⟨jn, 0, none⟩)) (op_nilCheck rfl v46) ⟨_, rfl, hB, Fr.refl _ _, rfl, fun _ _ _ _ _ => trivial⟩
    · simp only [List.getElem?_cons_zero, List.getElem?_cons_succ, Option.some.injEq] at ho
      subst ho
      intro a W vs hB hS hE hU
      refine wpG_plain rfl ?_
      obtain ⟨r9, e47⟩ := hE 9 47 (by kernel_rfl) (by kernel_rfl)
      have v47 : a.eval (.tmp 47) = .pointer (some ⟨jn, 0, none⟩) := e47.trans r9
      clear hE hU
      exact wp_value_inv (w' := W) (.pointer (some ⟨jn, 0, none⟩)) (op_fieldAddr rfl v47 (fld_spence_log_Journal_0_0 W jn)) ⟨_, rfl, hB, Fr.refl _ _, rfl, fun _ _ _ _ _ => trivial⟩
    · simp only [List.getElem?_cons_zero, List.getElem?_cons_succ, Option.some.injEq] at ho
      subst ho
      intro a W vs hB hS hE hU
      refine wpG_plain rfl ?_
      obtain ⟨r10, e48⟩ := hE 10 48 (by kernel_rfl) (by kernel_rfl)
      have v48 : a.eval (.tmp 48) = .pointer (some ⟨jn, 0, none⟩) := e48.trans r10
      clear hE hU
      exact wp_value_inv (w' := W) (.agg #[.int .i64 (x1 : Nat), .int .i64 (x2 : Nat), .int .i64 (x3 : Nat), .int .i64 (x4 : Nat)]) (op_loadAt rfl v48 (LDH.out W hB)) ⟨_, rfl, hB, Fr.refl _ _, rfl, fun _ _ _ _ _ => trivial⟩
    · simp only [List.getElem?_cons_zero, List.getElem?_cons_succ, Option.some.injEq] at ho
      subst ho
      intro a W vs hB hS hE hU
      refine wpG_plain rfl ?_
      have v6 : a.eval (.tmp 6) = .slice ao tl ct := (hU 6 (by kernel_rfl)).trans rfl
      clear hE hU
      exact wp_value_inv (w' := W) (.slice ao tl ct) (op_move rfl v6) ⟨_, rfl, hB, Fr.refl _ _, rfl, fun _ _ _ _ _ => trivial⟩
    · simp only [List.getElem?_cons_zero, List.getElem?_cons_succ, Option.some.injEq] at ho
      subst ho
      intro a W vs hB hS hE hU
      refine wpG_plain rfl ?_
      obtain ⟨r12, e50⟩ := hE 12 50 (by kernel_rfl) (by kernel_rfl)
      have v50 : a.eval (.tmp 50) = .slice ao tl ct := e50.trans r12
      clear hE hU
      exact wp_value_inv (w' := W) (.int .i64 (tl : Nat)) (op_len5 rfl v50) ⟨_, rfl, hB, Fr.refl _ _, rfl, fun _ _ _ _ _ => trivial⟩
    · simp only [List.getElem?_cons_zero, List.getElem?_cons_succ, Option.some.injEq] at ho
      subst ho
      intro a W vs hB hS hE hU
      refine wpG_plain rfl ?_
      obtain ⟨r11, e49⟩ := hE 11 49 (by kernel_rfl) (by kernel_rfl)
      have v49 : a.eval (.tmp 49) = .agg #[.int .i64 (x1 : Nat), .int .i64 (x2 : Nat), .int .i64 (x3 : Nat), .int .i64 (x4 : Nat)] := e49.trans r11
      obtain ⟨r13, e51⟩ := hE 13 51 (by kernel_rfl) (by kernel_rfl)
      have v51 : a.eval (.tmp 51) = .int .i64 (tl : Nat) := e51.trans r13
      clear hE hU
      refine wp_call_inv 108 #[.tmp 49, .tmp 51] #[106, 3] rfl #[.agg #[.int .i64 (x1 : Nat), .int .i64 (x2 : Nat), .int .i64 (x3 : Nat), .int .i64 (x4 : Nat)], .int .i64 (tl : Nat)] (by simp only [List.map_toArray, List.map_cons, List.map_nil, v49, v51]) (ent__spence_log_head__appended _) (Post := fun v W' => v = .agg #[.int .i64 (x1 : Nat), .int .i64 (x2 : Nat), .int .i64 ((x3 + tl : Nat) : Int), .int .i64 ((x4 + 1 : Nat) : Int)] ∧ Fr (fun _ => False) W W') ((HAPP.out W).mono fun e w' h => ⟨_, h.1, rfl, h.2⟩) ?_
      rintro v W' ⟨rfl, hf⟩
      exact ⟨_, rfl, hB.trans hf (fun _ h => h.elim), hf, rfl, fun _ _ _ _ _ => trivial⟩
  · intro vs Wa hB0 hR0 hD
    have r38 : vs 0 = .pointer (some ⟨jn, 0, none⟩) := hR0 0 (by decide)
    have r44 : vs 6 = .int .i64 ((64 + x3 : Nat) : Int) := hR0 6 (by decide)
    have r45 : vs 7 = .slice ao tl ct := hR0 7 (by decide)
    have r52 : vs 14 = .agg #[.int .i64 (x1 : Nat), .int .i64 (x2 : Nat), .int .i64 ((x3 + tl : Nat) : Int), .int .i64 ((x4 + 1 : Nat) : Int)] := hR0 14 (by decide)
    have HB := Lib.hid hB0
    clear hR0 hD hB0
    simp only [acts, if_true, dstAt, List.getElem?_cons_zero, List.getElem?_cons_succ, Option.bind_some, Act.put, List.setIfInBounds_toArray, List.set_cons_succ, List.set_cons_zero, List.drop_succ_cons]
    simp only [r38, r44, r45, r52]
    clear r38 r44 r45 r52
    go_wp2_with (go_at_call 107; go_loud (refine (HST.out Wa (.slice ao tl ct) (H6.out.trans HB.out (fun _ h => h.elim)) (((((H4.out.2.mono (G := fun _ => True) (fun _ _ _ => trivial)).keep HF45.out (fun _ _ _ h => h)).keep HB.out (fun _ _ _ h => h))))).mono ?_; rintro e w8 hp8; (have H8 := Lib.hid (hp8.before (H6.out.trans HB.out (fun _ h => h.elim)))); (obtain ⟨e8, he8⟩ : ∃ e8, e8 = r.1 := ⟨_, rfl⟩); (have he9 : e = .returned (.int .i64 e8) := by rw [he8]; exact hp8.1); subst he9; (have HE8 := Lib.hid he8); clear hp8 he8))
    go_ret
    unfold StepPost at H8 ⊢
    rw [HUN.out.1, HUN.out.2.1, HUN.out.2.2.1, HUN.out.2.2.2] at *
    exact ⟨by rw [HE8.out]; rfl, H8.out.2⟩
end Go.Proofs.YtldgcoikbjbjeaaGreat
