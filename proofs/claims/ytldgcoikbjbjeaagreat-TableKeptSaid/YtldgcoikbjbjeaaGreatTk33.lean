/- Laid together: JROpen TROpen TRef6 -/
import Derived.Test.YtldgcoikbjbjeaaGreatTk32
import Derived.Test.YtldgcoikbjbjeaaGreatTk22
import Derived.Deep.QuietTactic
import Derived.BigQuiet
import Derived.Test.YtldgcoikbjbjeaaGreatTk31
import Derived.Test.YtldgcoikbjbjeaaGreatTk1
import Derived.Deep.RegionHeldLaw

namespace Go.Proofs.YtldgcoikbjbjeaaGreat
open Go.RowKit Go.ChangeShapes
set_option linter.unusedVariables false
theorem bSectors {D : Nat → Prop} (w : World) (g s : Nat) (dv : Dv) (h : RefAt w D g s dv) :
    Calls Tryz.prog 83 #[.pointer (some ⟨g, 0, none⟩)] w fun e w' => e = .returned (.int .i64 s) ∧ Fr (fun _ => False) w w' := by
  obtain ⟨F, ga, vw, hm, hD⟩ := h
  exact (rSectors_any w g _ s _ vw dv.deeds _ dv.down hm.head hm.small).mono fun e w' h => ⟨h.1, by rw [← h.2]; exact Fr.refl _ _⟩
theorem ent___spence_spenceref04_Device__Sectors (args : Array Value) (w : World) : (callFunc 83 args).run Tryz.prog w = .ok (.enter 83 args) w := by kernel_rfl
theorem ShOk.rRight {l la d s : Nat} (h : ShOk l la d s) (w : World) :
    Calls Tryz.prog 49 #[.agg #[.int .i64 l, .int .i64 la, .int .i64 d]] w fun e w' => e = .returned (.bool true) ∧ Fr (fun _ => False) w w' := by
  have h' := rRight_any w l la d
  rwa [rightS_nat h.l1 h.a1 h.d1 (by have := h.sum; have := h.most; omega)] at h'
theorem ShOk.rSecs {l la d s : Nat} (h : ShOk l la d s) (w : World) :
    Calls Tryz.prog 23 #[.agg #[.int .i64 l, .int .i64 la, .int .i64 d]] w fun e w' => e = .returned (.int .i64 (s : Nat)) ∧ Fr (fun _ => False) w w' := by
  have h' := r5Sectors_any w l la d
  rwa [secsS, if_pos (rightS_nat h.l1 h.a1 h.d1 (by have := h.sum; have := h.most; omega)), show (1 : Int) + l + 2 * la + d = ((s : Nat) : Int) by rw [h.sum]; push_cast; rfl] at h'
def RFoR (g gw l la d s : Nat) (i : Nat) (v : Value) (W : World) : Prop :=
  match i with
  | 0 => v = .agg #[.int .i64 (l : Nat), .int .i64 (la : Nat), .int .i64 (d : Nat)]
  | 1 => v = .bool true
  | 2 => v = .bool false
  | 3 => v = .bool false
  | 4 => v = .pointer (some ⟨g, 0, none⟩)
  | 5 => v = .int .i64 (s : Nat)
  | 6 => v = .agg #[.int .i64 (l : Nat), .int .i64 (la : Nat), .int .i64 (d : Nat)]
  | 7 => v = .int .i64 (s : Nat)
  | 8 => v = .bool false
  | 9 => v = .bool false
  | _ => True
theorem RFoR.ext (g gw l la d s : Nat) : ∀ (j : Nat) (u : Value) (W W' : World), Fr (fun _ => False) W W' → RFoR g gw l la d s j u W → RFoR g gw l la d s j u W'
  | 0, u, W, W', hf, h => h
  | 1, u, W, W', hf, h => h
  | 2, u, W, W', hf, h => h
  | 3, u, W, W', hf, h => h
  | 4, u, W, W', hf, h => h
  | 5, u, W, W', hf, h => h
  | 6, u, W, W', hf, h => h
  | 7, u, W, W', hf, h => h
  | 8, u, W, W', hf, h => h
  | 9, u, W, W', hf, h => h
  | _ + 10, u, W, W', hf, h => trivial
def ROpR (g gw l la d s : Nat) (i : Nat) (v : Value) (W : World) : Prop :=
  match i with
  | 0 => v = .agg #[.int .i64 (l : Nat), .int .i64 (la : Nat), .int .i64 (d : Nat)]
  | 1 => v = .bool true
  | 2 => v = .bool false
  | 3 => v = .bool false
  | 4 => v = .pointer (some ⟨g, 0, none⟩)
  | 5 => v = .int .i64 (s : Nat)
  | 6 => v = .agg #[.int .i64 (l : Nat), .int .i64 (la : Nat), .int .i64 (d : Nat)]
  | 7 => v = .int .i64 (s : Nat)
  | 8 => v = .bool false
  | 9 => v = .bool false
  | _ => True
theorem ROpR.ext (g gw l la d s : Nat) : ∀ (j : Nat) (u : Value) (W W' : World), Fr (fun _ => False) W W' → ROpR g gw l la d s j u W → ROpR g gw l la d s j u W'
  | 0, u, W, W', hf, h => h
  | 1, u, W, W', hf, h => h
  | 2, u, W, W', hf, h => h
  | 3, u, W, W', hf, h => h
  | 4, u, W, W', hf, h => h
  | 5, u, W, W', hf, h => h
  | 6, u, W, W', hf, h => h
  | 7, u, W, W', hf, h => h
  | 8, u, W, W', hf, h => h
  | 9, u, W, W', hf, h => h
  | _ + 10, u, W, W', hf, h => trivial
set_option maxRecDepth 100000 in
set_option maxHeartbeats 1000000 in
theorem rFormat_any {D : Nat → Prop} (w : World) (g l la d s : Nat) (dv : Dv) (hok : ShOk l la d s) (hd : RefAt w D g s dv) (hup : dv.down = false) (hlf : dv.left = 0) (hk6 : dv.deeds ≤ 900000000) (hw6 : dv.waits.length ≤ 900000) :
    Calls Tryz.prog 47 #[.pointer (some ⟨g, 0, none⟩), .agg #[.int .i64 l, .int .i64 la, .int .i64 d]] w (RTellPost D w g s (dv.tell s (Hd.sec ⟨0, 0, 0, 1⟩))) := by
  have hs1 : 1 ≤ s := by have := hok.sum; omega
  obtain ⟨gw, hgw⟩ : ∃ gw, gw = w.heap.size := ⟨_, rfl⟩
  obtain ⟨W1, hW⟩ : ∃ W, W = w.alloc (.cells #[.int .i64 l, .int .i64 la, .int .i64 d] 23) := ⟨_, rfl⟩
  have hf : Fr (fun _ => False) w W1 := by rw [hW]; exact (Fr.refl _ _).alloc _
  have hrow : W1.heap[gw]? = some (.cells #[.int .i64 l, .int .i64 la, .int .i64 d] 23 (0, 0)) := by rw [hW, hgw]; exact heap_alloc_new w _
  have HRI := Lib.hid (fun W => hok.rRight W)
  have HSE := Lib.hid (fun W => hok.rSecs W)
  have HDS := Lib.hid (fun W (hB : Fr (fun _ => False) W1 W) => bSectors W g s dv ((hd.keep hf (fun _ _ _ h => h)).keep hB (fun _ _ _ h => h)))
  have LDS := Lib.hid (fun W (hW : Fr (fun _ => False) W1 W) => load_shape5 W gw 0 _ _ _ (range_row5 (hW.heap hrow id)))
  have HROW := Lib.hid hrow
  have HF := Lib.hid hf
  have HW := Lib.hid (And.intro hW hgw)
  have HTL := Lib.hid (fun (W : World) (hf2 : Fr (fun _ => False) W1 W) => show Calls Tryz.prog 84 #[.pointer (some ⟨g, 0, none⟩), .agg #[.int .i64 0, .int .i64 0, .int .i64 0, .int .i64 1]] W (RTellPost D W g s (dv.tell s (Hd.sec ⟨0, 0, 0, 1⟩))) from rTell_any W g s dv ⟨0, 0, 0, 1⟩ ⟨by decide, by decide, by decide, by decide⟩ ((hd.keep hf (fun _ _ _ h => h)).keep hf2 (fun _ _ _ h => h)) hs1 hup hlf (by omega) hw6)
  obtain ⟨r, hr⟩ : ∃ r, r = dv.tell s (Hd.sec ⟨0, 0, 0, 1⟩) := ⟨_, rfl⟩
  rw [← hr] at HTL ⊢
  obtain ⟨e1, he1⟩ : ∃ e1, e1 = r.1 := ⟨_, rfl⟩
  have HE := Lib.hid he1
  clear hok hd hk6 hw6 hup hlf hW hf hrow hr he1 hs1
  go_enter Tryz.func47, Tryz.ntmps47
  go_wp2_with fail
  rw [← HW.out.1, ← HW.out.2]
  clear hgw
  refine wp_region_inv 10 (by kernel_rfl) (by kernel_rfl) (fun W => Fr (fun _ => False) W1 W) (RFoR g gw l la d s) (fun _ _ _ _ => True) (Fr (fun _ => False)) (RFoR.ext g gw l la d s) (Fr.refl _ _).drew ?_ ?_
  · intro i hi o ho
    replace hi : i < 10 := hi
    obtain rfl | rfl | rfl | rfl | rfl | rfl | rfl | rfl | rfl | rfl : i = 0 ∨ i = 1 ∨ i = 2 ∨ i = 3 ∨ i = 4 ∨ i = 5 ∨ i = 6 ∨ i = 7 ∨ i = 8 ∨ i = 9 := by omega
    · simp only [List.getElem?_cons_zero, Option.some.injEq] at ho
      subst ho
      intro a W vs hB hS hE hU
      refine wpG_plain rfl ?_
      have v3 : a.eval (.tmp 3) = .pointer (some ⟨gw, 0, none⟩) := (hU 3 (by kernel_rfl)).trans rfl
      clear hE hU
      exact wp_value_inv (w' := W) (.agg #[.int .i64 (l : Nat), .int .i64 (la : Nat), .int .i64 (d : Nat)]) (op_loadAt rfl v3 (LDS.out W hB)) ⟨_, rfl, hB, Fr.refl _ _, rfl, fun _ _ _ _ _ => trivial⟩
    · simp only [List.getElem?_cons_zero, List.getElem?_cons_succ, Option.some.injEq] at ho
      subst ho
      intro a W vs hB hS hE hU
      refine wpG_plain rfl ?_
      obtain ⟨r0, e5⟩ := hE 0 5 (by kernel_rfl) (by kernel_rfl)
      have v5 : a.eval (.tmp 5) = .agg #[.int .i64 (l : Nat), .int .i64 (la : Nat), .int .i64 (d : Nat)] := e5.trans r0
      clear hE hU
      refine wp_call_inv 49 #[.tmp 5] #[23] rfl #[.agg #[.int .i64 (l : Nat), .int .i64 (la : Nat), .int .i64 (d : Nat)]] (by simp only [List.map_toArray, List.map_cons, List.map_nil, v5]) (ent_spence_spenceref05_Right _) (Post := fun v W' => v = .bool true ∧ Fr (fun _ => False) W W') ((HRI.out W).mono fun e w' h => ⟨_, h.1, rfl, h.2⟩) ?_
      rintro v W' ⟨rfl, hf⟩
      exact ⟨_, rfl, hB.trans hf (fun _ h => h.elim), hf, rfl, fun _ _ _ _ _ => trivial⟩
    · simp only [List.getElem?_cons_zero, List.getElem?_cons_succ, Option.some.injEq] at ho
      subst ho
      intro a W vs hB hS hE hU
      refine wpG_plain rfl ?_
      obtain ⟨r1, e6⟩ := hE 1 6 (by kernel_rfl) (by kernel_rfl)
      have v6 : a.eval (.tmp 6) = .bool true := e6.trans r1
      clear hE hU
      exact wp_value_inv (w' := W) (.bool false) (op_unop rfl v6 (by rfl)) ⟨_, rfl, hB, Fr.refl _ _, rfl, fun _ _ _ _ _ => trivial⟩
    · simp only [List.getElem?_cons_zero, List.getElem?_cons_succ, Option.some.injEq] at ho
      subst ho
      intro a W vs hB hS hE hU
      refine wpG_plain rfl ?_
      obtain ⟨r2, e7⟩ := hE 2 7 (by kernel_rfl) (by kernel_rfl)
      have v7 : a.eval (.tmp 7) = .bool false := e7.trans r2
      clear hE hU
      exact wp_value_inv (w' := W) (.bool false) (op_move rfl v7) ⟨_, rfl, hB, Fr.refl _ _, rfl, fun _ _ _ _ _ => trivial⟩
    · simp only [List.getElem?_cons_zero, List.getElem?_cons_succ, Option.some.injEq] at ho
      subst ho
      intro a W vs hB hS hE hU
      obtain ⟨r3, e8⟩ := hE 3 8 (by kernel_rfl) (by kernel_rfl)
      have v8 : a.eval (.tmp 8) = .bool false := e8.trans r3
      refine wpG_yes 3 false 8 rfl (by kernel_rfl) (by rw [hS]; first | simp | exact Nat.le_of_ble_eq_true rfl) v8 ?_
      have v0 : a.eval (.tmp 0) = .pointer (some ⟨g, 0, none⟩) := (hU 0 (by kernel_rfl)).trans rfl
      clear hE hU
      exact wp_value_inv (w' := W) (.pointer (some ⟨g, 0, none⟩)) (op_move rfl v0) ⟨_, rfl, hB, Fr.refl _ _, rfl, fun _ _ _ _ _ => trivial⟩
    · simp only [List.getElem?_cons_zero, List.getElem?_cons_succ, Option.some.injEq] at ho
      subst ho
      intro a W vs hB hS hE hU
      obtain ⟨r3, e8⟩ := hE 3 8 (by kernel_rfl) (by kernel_rfl)
      have v8 : a.eval (.tmp 8) = .bool false := e8.trans r3
      refine wpG_yes 3 false 8 rfl (by kernel_rfl) (by rw [hS]; first | simp | exact Nat.le_of_ble_eq_true rfl) v8 ?_
      obtain ⟨r4, e9⟩ := hE 4 9 (by kernel_rfl) (by kernel_rfl)
      have v9 : a.eval (.tmp 9) = .pointer (some ⟨g, 0, none⟩) := e9.trans r4
      clear hE hU
      refine wp_call_inv 83 #[.tmp 9] #[63] rfl #[.pointer (some ⟨g, 0, none⟩)] (by simp only [List.map_toArray, List.map_cons, List.map_nil, v9]) (ent___spence_spenceref04_Device__Sectors _) (Post := fun v W' => v = .int .i64 (s : Nat) ∧ Fr (fun _ => False) W W') ((HDS.out W hB).mono fun e w' h => ⟨_, h.1, rfl, h.2⟩) ?_
      rintro v W' ⟨rfl, hf⟩
      exact ⟨_, rfl, hB.trans hf (fun _ h => h.elim), hf, rfl, fun _ _ _ _ _ => trivial⟩
    · simp only [List.getElem?_cons_zero, List.getElem?_cons_succ, Option.some.injEq] at ho
      subst ho
      intro a W vs hB hS hE hU
      obtain ⟨r3, e8⟩ := hE 3 8 (by kernel_rfl) (by kernel_rfl)
      have v8 : a.eval (.tmp 8) = .bool false := e8.trans r3
      refine wpG_yes 3 false 8 rfl (by kernel_rfl) (by rw [hS]; first | simp | exact Nat.le_of_ble_eq_true rfl) v8 ?_
      have v3 : a.eval (.tmp 3) = .pointer (some ⟨gw, 0, none⟩) := (hU 3 (by kernel_rfl)).trans rfl
      clear hE hU
      exact wp_value_inv (w' := W) (.agg #[.int .i64 (l : Nat), .int .i64 (la : Nat), .int .i64 (d : Nat)]) (op_loadAt rfl v3 (LDS.out W hB)) ⟨_, rfl, hB, Fr.refl _ _, rfl, fun _ _ _ _ _ => trivial⟩
    · simp only [List.getElem?_cons_zero, List.getElem?_cons_succ, Option.some.injEq] at ho
      subst ho
      intro a W vs hB hS hE hU
      obtain ⟨r3, e8⟩ := hE 3 8 (by kernel_rfl) (by kernel_rfl)
      have v8 : a.eval (.tmp 8) = .bool false := e8.trans r3
      refine wpG_yes 3 false 8 rfl (by kernel_rfl) (by rw [hS]; first | simp | exact Nat.le_of_ble_eq_true rfl) v8 ?_
      obtain ⟨r6, e11⟩ := hE 6 11 (by kernel_rfl) (by kernel_rfl)
      have v11 : a.eval (.tmp 11) = .agg #[.int .i64 (l : Nat), .int .i64 (la : Nat), .int .i64 (d : Nat)] := e11.trans r6
      clear hE hU
      refine wp_call_inv 23 #[.tmp 11] #[23] rfl #[.agg #[.int .i64 (l : Nat), .int .i64 (la : Nat), .int .i64 (d : Nat)]] (by simp only [List.map_toArray, List.map_cons, List.map_nil, v11]) (ent_spence_spenceref05_Sectors _) (Post := fun v W' => v = .int .i64 (s : Nat) ∧ Fr (fun _ => False) W W') ((HSE.out W).mono fun e w' h => ⟨_, h.1, rfl, h.2⟩) ?_
      rintro v W' ⟨rfl, hf⟩
      exact ⟨_, rfl, hB.trans hf (fun _ h => h.elim), hf, rfl, fun _ _ _ _ _ => trivial⟩
    · simp only [List.getElem?_cons_zero, List.getElem?_cons_succ, Option.some.injEq] at ho
      subst ho
      intro a W vs hB hS hE hU
      obtain ⟨r3, e8⟩ := hE 3 8 (by kernel_rfl) (by kernel_rfl)
      have v8 : a.eval (.tmp 8) = .bool false := e8.trans r3
      refine wpG_yes 3 false 8 rfl (by kernel_rfl) (by rw [hS]; first | simp | exact Nat.le_of_ble_eq_true rfl) v8 ?_
      obtain ⟨r5, e10⟩ := hE 5 10 (by kernel_rfl) (by kernel_rfl)
      have v10 : a.eval (.tmp 10) = .int .i64 (s : Nat) := e10.trans r5
      obtain ⟨r7, e12⟩ := hE 7 12 (by kernel_rfl) (by kernel_rfl)
      have v12 : a.eval (.tmp 12) = .int .i64 (s : Nat) := e12.trans r7
      clear hE hU
      exact wp_value_inv (w' := W) (.bool false) (op_bin rfl v10 v12 (rfl) (lss_no (by omega))) ⟨_, rfl, hB, Fr.refl _ _, rfl, fun _ _ _ _ _ => trivial⟩
    · simp only [List.getElem?_cons_zero, List.getElem?_cons_succ, Option.some.injEq] at ho
      subst ho
      intro a W vs hB hS hE hU
      refine wpG_plain rfl ?_
      obtain ⟨r3, e8⟩ := hE 3 8 (by kernel_rfl) (by kernel_rfl)
      have v8 : a.eval (.tmp 8) = .bool false := e8.trans r3
      obtain ⟨r8, e13⟩ := hE 8 13 (by kernel_rfl) (by kernel_rfl)
      have v13 : a.eval (.tmp 13) = .bool false := e13.trans r8
      clear hE hU
      exact wp_value_inv (w' := W) (.bool false) (op_pick rfl v8 (by simp only [Bool.false_eq_true, if_false]; exact v13)) ⟨_, rfl, hB, Fr.refl _ _, rfl, fun _ _ _ _ _ => trivial⟩
  · intro vs Wa hB0 hR0 hD
    have r14 : vs 9 = .bool false := hR0 9 (by decide)
    have HB := Lib.hid hB0
    clear hR0 hD hB0
    simp only [acts, if_true, dstAt, List.getElem?_cons_zero, List.getElem?_cons_succ, Option.bind_some, Act.put, List.setIfInBounds_toArray, List.set_cons_succ, List.set_cons_zero, List.drop_succ_cons, List.drop_nil]
    simp only [r14]
    clear r14
    go_wp2_with (go_at_call 84; refine (HTL.out Wa HB.out).mono ?_; rintro e w3 ⟨rfl, hd3, hf3⟩; rw [← HE.out]; (have H3 := Lib.hid (And.intro hd3 hf3)); clear hd3 hf3)
    go_ret
    unfold RTellPost
    exact ⟨by rw [HE.out]; rfl, H3.out.1.mono (fun k _ hk => hk.elim .inl (fun h => .inr (Nat.le_trans (HF.out.trans HB.out (fun _ h => h.elim)).size h))), ((HF.out.trans HB.out (fun _ h => h.elim)).mono (fun _ _ h => h.elim)).trans H3.out.2 (fun k h => .inl h)⟩
theorem rBytes0 (w : World) (g at0 : Nat) :
    Calls Tryz.prog 149 #[.pointer (some ⟨g, 0, none⟩), .int .i64 at0, .int .i64 0] w fun e w' => e = .returned (.tuple #[.slice none 0 0, .int .i64 0]) ∧ w = w' := by
  go_enter Tryz.func149, Tryz.ntmps149
  go_wp2_with fail
  go_loopw [8] (fun vs wr => vs = .slice none 0 0 ∧ wr = w) (fun _ _ => 0)
  case atStart => exact ⟨rfl, rfl⟩
  case round =>
    obtain ⟨rfl, rfl⟩ := hrel
    go_wp2_with fail
    exact bodyPost_ret (v := .tuple #[.slice none 0 0, .int .i64 0]) (by simp [results, Tryz.results149, go_sem]) rfl ⟨rfl, rfl⟩
theorem rParted0 (w : World) :
    Calls Tryz.prog 150 #[.slice none 0 0] w fun e w' => e = .returned (.tuple #[.slice none 0 0, .bool true]) ∧ Fr (fun _ => False) w w' := by
  go_enter Tryz.func150, Tryz.ntmps150
  go_wp2_with fail
  go_loopw [4] (fun vs wr => vs = .slice none 0 0 ∧ wr = w.alloc (.cells #[.slice none 0 0, .int .i64 0] 220)) (fun _ _ => 0)
  case atStart => exact ⟨rfl, rfl⟩
  case round =>
    obtain ⟨rfl, rfl⟩ := hrel
    go_wp2_with fail
    go_region
    go_wp2
    go_ret2
    exact ⟨rfl, ((Fr.refl _ _).alloc _).drew⟩
end Go.Proofs.YtldgcoikbjbjeaaGreat
namespace Go.Proofs.YtldgcoikbjbjeaaGreat
open Go.RowKit Go.ChangeShapes
set_option linter.unusedVariables false
def RjAt (w : World) (jn g l la d : Nat) (h : Hd) : Prop := w.heap[jn]? = some (.cells #[.pointer (some ⟨g, 0, none⟩), .int .i64 l, .int .i64 la, .int .i64 d, .int .i64 h.area, .int .i64 h.size, .int .i64 0, .int .i64 h.round, .bool false] 216 (0, 0))
def ROpen2Post (w : World) (g l la d : Nat) (h : Hd) (e : Ending) (w' : World) : Prop := ∃ jn, e = .returned (.tuple #[.pointer (some ⟨jn, 0, none⟩), .int .i64 0]) ∧ w.heap.size ≤ jn ∧ RjAt w' jn g l la d h ∧ Fr (fun _ => False) w w'
set_option maxRecDepth 100000 in
set_option maxHeartbeats 1000000 in
theorem rOpen2_any {D : Nat → Prop} (w : World) (g l la d s : Nat) (dv : Dv) (h : Hd) (hok : ShOk l la d s) (hd : RefAt w D g s dv) (hup : dv.down = false) (hw : dv.waits = []) (hsec : secAt dv.all 0 = h.sec) (hri : h.Right l la) (h0 : h.used = 0) :
    Calls Tryz.prog 118 #[.pointer (some ⟨g, 0, none⟩), .agg #[.int .i64 l, .int .i64 la, .int .i64 d]] w (ROpen2Post w g l la d h) := by
  have hl : l ≤ 8192 := by have := hok.sum; have := hok.most; omega
  have hla : la ≤ 8192 := by have := hok.sum; have := hok.most; omega
  have hs1 : 1 ≤ s := by have := hok.sum; omega
  obtain ⟨gw, hgw⟩ : ∃ gw, gw = w.heap.size := ⟨_, rfl⟩
  obtain ⟨W1, hW⟩ : ∃ W, W = w.alloc (.cells #[.int .i64 l, .int .i64 la, .int .i64 d] 23) := ⟨_, rfl⟩
  have hf : Fr (fun _ => False) w W1 := by rw [hW]; exact (Fr.refl _ _).alloc _
  have hrow : W1.heap[gw]? = some (.cells #[.int .i64 l, .int .i64 la, .int .i64 d] 23 (0, 0)) := by rw [hW, hgw]; exact heap_alloc_new w _
  have HRI := Lib.hid (fun W => hok.rRight W)
  have HSE := Lib.hid (fun W => hok.rSecs W)
  have HDS := Lib.hid (fun W (hB : Fr (fun _ => False) W1 W) => bSectors W g s dv ((hd.keep hf (fun _ _ _ h => h)).keep hB (fun _ _ _ h => h)))
  have LDS := Lib.hid (fun W (hW : Fr (fun _ => False) W1 W) => load_shape5 W gw 0 _ _ _ (range_row5 (hW.heap hrow id)))
  have HROW := Lib.hid hrow
  have HF := Lib.hid hf
  have HW := Lib.hid (And.intro hW hgw)
  have hrd := fun (W : World) (hf2 : Fr (fun _ => False) W1 W) => bRead W g s dv ((0 : Nat) : Int) (by rw [hw]; decide) ((hd.keep hf (fun _ _ _ h => h)).keep hf2 (fun _ _ _ h => h))
  rw [Dv.read_yes hup hw hs1, hsec] at hrd
  have HRD := Lib.hid hrd
  have HHO := Lib.hid (fun (G : Nat → Prop) (W : World) (vb : Value) (hb : BytesIn G W vb h.sec) => rHeadOf_any W vb l la d h (hri.num hl hla) hl hla hri hb)
  obtain ⟨x1, hx1⟩ : ∃ x, x = h.area := ⟨_, rfl⟩
  obtain ⟨x2, hx2⟩ : ∃ x, x = h.size := ⟨_, rfl⟩
  obtain ⟨x3, hx3⟩ : ∃ x, x = h.used := ⟨_, rfl⟩
  obtain ⟨x4, hx4⟩ : ∃ x, x = h.round := ⟨_, rfl⟩
  have HX := Lib.hid (And.intro hx1 (And.intro hx2 (And.intro hx3 hx4)))
  rw [h0] at hx3
  have HX3 := Lib.hid hx3
  clear hok hd hup hw hW hf hrow hrd hsec hri h0 hx1 hx2 hx3 hx4 hl hla hs1
  go_enter Tryz.func118, Tryz.ntmps118
  go_wp2_with fail
  rw [← HW.out.1, ← HW.out.2]
  clear hgw
  refine wp_region_inv 10 (by kernel_rfl) (by kernel_rfl) (fun W => Fr (fun _ => False) W1 W) (ROpR g gw l la d s) (fun _ _ _ _ => True) (Fr (fun _ => False)) (ROpR.ext g gw l la d s) (Fr.refl _ _).drew ?_ ?_
  · intro i hi o ho
    replace hi : i < 10 := hi
    obtain rfl | rfl | rfl | rfl | rfl | rfl | rfl | rfl | rfl | rfl : i = 0 ∨ i = 1 ∨ i = 2 ∨ i = 3 ∨ i = 4 ∨ i = 5 ∨ i = 6 ∨ i = 7 ∨ i = 8 ∨ i = 9 := by omega
    · simp only [List.getElem?_cons_zero, Option.some.injEq] at ho
      subst ho
      intro a W vs hB hS hE hU
      refine wpG_plain rfl ?_
      have v3 : a.eval (.tmp 3) = .pointer (some ⟨gw, 0, none⟩) := (hU 3 (by kernel_rfl)).trans rfl
      clear hE hU
      exact wp_value_inv (w' := W) (.agg #[.int .i64 (l : Nat), .int .i64 (la : Nat), .int .i64 (d : Nat)]) (op_loadAt rfl v3 (LDS.out W hB)) ⟨_, rfl, hB, Fr.refl _ _, rfl, fun _ _ _ _ _ => trivial⟩
    · simp only [List.getElem?_cons_zero, List.getElem?_cons_succ, Option.some.injEq] at ho
      subst ho
      intro a W vs hB hS hE hU
      refine wpG_plain rfl ?_
      obtain ⟨r0, e14⟩ := hE 0 14 (by kernel_rfl) (by kernel_rfl)
      have v14 : a.eval (.tmp 14) = .agg #[.int .i64 (l : Nat), .int .i64 (la : Nat), .int .i64 (d : Nat)] := e14.trans r0
      clear hE hU
      refine wp_call_inv 49 #[.tmp 14] #[23] rfl #[.agg #[.int .i64 (l : Nat), .int .i64 (la : Nat), .int .i64 (d : Nat)]] (by simp only [List.map_toArray, List.map_cons, List.map_nil, v14]) (ent_spence_spenceref05_Right _) (Post := fun v W' => v = .bool true ∧ Fr (fun _ => False) W W') ((HRI.out W).mono fun e w' h => ⟨_, h.1, rfl, h.2⟩) ?_
      rintro v W' ⟨rfl, hf⟩
      exact ⟨_, rfl, hB.trans hf (fun _ h => h.elim), hf, rfl, fun _ _ _ _ _ => trivial⟩
    · simp only [List.getElem?_cons_zero, List.getElem?_cons_succ, Option.some.injEq] at ho
      subst ho
      intro a W vs hB hS hE hU
      refine wpG_plain rfl ?_
      obtain ⟨r1, e15⟩ := hE 1 15 (by kernel_rfl) (by kernel_rfl)
      have v15 : a.eval (.tmp 15) = .bool true := e15.trans r1
      clear hE hU
      exact wp_value_inv (w' := W) (.bool false) (op_unop rfl v15 (by rfl)) ⟨_, rfl, hB, Fr.refl _ _, rfl, fun _ _ _ _ _ => trivial⟩
    · simp only [List.getElem?_cons_zero, List.getElem?_cons_succ, Option.some.injEq] at ho
      subst ho
      intro a W vs hB hS hE hU
      refine wpG_plain rfl ?_
      obtain ⟨r2, e16⟩ := hE 2 16 (by kernel_rfl) (by kernel_rfl)
      have v16 : a.eval (.tmp 16) = .bool false := e16.trans r2
      clear hE hU
      exact wp_value_inv (w' := W) (.bool false) (op_move rfl v16) ⟨_, rfl, hB, Fr.refl _ _, rfl, fun _ _ _ _ _ => trivial⟩
    · simp only [List.getElem?_cons_zero, List.getElem?_cons_succ, Option.some.injEq] at ho
      subst ho
      intro a W vs hB hS hE hU
      obtain ⟨r3, e17⟩ := hE 3 17 (by kernel_rfl) (by kernel_rfl)
      have v17 : a.eval (.tmp 17) = .bool false := e17.trans r3
      refine wpG_yes 3 false 17 rfl (by kernel_rfl) (by rw [hS]; first | simp | exact Nat.le_of_ble_eq_true rfl) v17 ?_
      have v0 : a.eval (.tmp 0) = .pointer (some ⟨g, 0, none⟩) := (hU 0 (by kernel_rfl)).trans rfl
      clear hE hU
      exact wp_value_inv (w' := W) (.pointer (some ⟨g, 0, none⟩)) (op_move rfl v0) ⟨_, rfl, hB, Fr.refl _ _, rfl, fun _ _ _ _ _ => trivial⟩
    · simp only [List.getElem?_cons_zero, List.getElem?_cons_succ, Option.some.injEq] at ho
      subst ho
      intro a W vs hB hS hE hU
      obtain ⟨r3, e17⟩ := hE 3 17 (by kernel_rfl) (by kernel_rfl)
      have v17 : a.eval (.tmp 17) = .bool false := e17.trans r3
      refine wpG_yes 3 false 17 rfl (by kernel_rfl) (by rw [hS]; first | simp | exact Nat.le_of_ble_eq_true rfl) v17 ?_
      obtain ⟨r4, e18⟩ := hE 4 18 (by kernel_rfl) (by kernel_rfl)
      have v18 : a.eval (.tmp 18) = .pointer (some ⟨g, 0, none⟩) := e18.trans r4
      clear hE hU
      refine wp_call_inv 83 #[.tmp 18] #[63] rfl #[.pointer (some ⟨g, 0, none⟩)] (by simp only [List.map_toArray, List.map_cons, List.map_nil, v18]) (ent___spence_spenceref04_Device__Sectors _) (Post := fun v W' => v = .int .i64 (s : Nat) ∧ Fr (fun _ => False) W W') ((HDS.out W hB).mono fun e w' h => ⟨_, h.1, rfl, h.2⟩) ?_
      rintro v W' ⟨rfl, hf⟩
      exact ⟨_, rfl, hB.trans hf (fun _ h => h.elim), hf, rfl, fun _ _ _ _ _ => trivial⟩
    · simp only [List.getElem?_cons_zero, List.getElem?_cons_succ, Option.some.injEq] at ho
      subst ho
      intro a W vs hB hS hE hU
      obtain ⟨r3, e17⟩ := hE 3 17 (by kernel_rfl) (by kernel_rfl)
      have v17 : a.eval (.tmp 17) = .bool false := e17.trans r3
      refine wpG_yes 3 false 17 rfl (by kernel_rfl) (by rw [hS]; first | simp | exact Nat.le_of_ble_eq_true rfl) v17 ?_
      have v3 : a.eval (.tmp 3) = .pointer (some ⟨gw, 0, none⟩) := (hU 3 (by kernel_rfl)).trans rfl
      clear hE hU
      exact wp_value_inv (w' := W) (.agg #[.int .i64 (l : Nat), .int .i64 (la : Nat), .int .i64 (d : Nat)]) (op_loadAt rfl v3 (LDS.out W hB)) ⟨_, rfl, hB, Fr.refl _ _, rfl, fun _ _ _ _ _ => trivial⟩
    · simp only [List.getElem?_cons_zero, List.getElem?_cons_succ, Option.some.injEq] at ho
      subst ho
      intro a W vs hB hS hE hU
      obtain ⟨r3, e17⟩ := hE 3 17 (by kernel_rfl) (by kernel_rfl)
      have v17 : a.eval (.tmp 17) = .bool false := e17.trans r3
      refine wpG_yes 3 false 17 rfl (by kernel_rfl) (by rw [hS]; first | simp | exact Nat.le_of_ble_eq_true rfl) v17 ?_
      obtain ⟨r6, e20⟩ := hE 6 20 (by kernel_rfl) (by kernel_rfl)
      have v20 : a.eval (.tmp 20) = .agg #[.int .i64 (l : Nat), .int .i64 (la : Nat), .int .i64 (d : Nat)] := e20.trans r6
      clear hE hU
      refine wp_call_inv 23 #[.tmp 20] #[23] rfl #[.agg #[.int .i64 (l : Nat), .int .i64 (la : Nat), .int .i64 (d : Nat)]] (by simp only [List.map_toArray, List.map_cons, List.map_nil, v20]) (ent_spence_spenceref05_Sectors _) (Post := fun v W' => v = .int .i64 (s : Nat) ∧ Fr (fun _ => False) W W') ((HSE.out W).mono fun e w' h => ⟨_, h.1, rfl, h.2⟩) ?_
      rintro v W' ⟨rfl, hf⟩
      exact ⟨_, rfl, hB.trans hf (fun _ h => h.elim), hf, rfl, fun _ _ _ _ _ => trivial⟩
    · simp only [List.getElem?_cons_zero, List.getElem?_cons_succ, Option.some.injEq] at ho
      subst ho
      intro a W vs hB hS hE hU
      obtain ⟨r3, e17⟩ := hE 3 17 (by kernel_rfl) (by kernel_rfl)
      have v17 : a.eval (.tmp 17) = .bool false := e17.trans r3
      refine wpG_yes 3 false 17 rfl (by kernel_rfl) (by rw [hS]; first | simp | exact Nat.le_of_ble_eq_true rfl) v17 ?_
      obtain ⟨r5, e19⟩ := hE 5 19 (by kernel_rfl) (by kernel_rfl)
      have v19 : a.eval (.tmp 19) = .int .i64 (s : Nat) := e19.trans r5
      obtain ⟨r7, e21⟩ := hE 7 21 (by kernel_rfl) (by kernel_rfl)
      have v21 : a.eval (.tmp 21) = .int .i64 (s : Nat) := e21.trans r7
      clear hE hU
      exact wp_value_inv (w' := W) (.bool false) (op_bin rfl v19 v21 (rfl) (lss_no (by omega))) ⟨_, rfl, hB, Fr.refl _ _, rfl, fun _ _ _ _ _ => trivial⟩
    · simp only [List.getElem?_cons_zero, List.getElem?_cons_succ, Option.some.injEq] at ho
      subst ho
      intro a W vs hB hS hE hU
      refine wpG_plain rfl ?_
      obtain ⟨r3, e17⟩ := hE 3 17 (by kernel_rfl) (by kernel_rfl)
      have v17 : a.eval (.tmp 17) = .bool false := e17.trans r3
      obtain ⟨r8, e22⟩ := hE 8 22 (by kernel_rfl) (by kernel_rfl)
      have v22 : a.eval (.tmp 22) = .bool false := e22.trans r8
      clear hE hU
      exact wp_value_inv (w' := W) (.bool false) (op_pick rfl v17 (by simp only [Bool.false_eq_true, if_false]; exact v22)) ⟨_, rfl, hB, Fr.refl _ _, rfl, fun _ _ _ _ _ => trivial⟩
  · intro vs Wa hB0 hR0 hD
    have r23 : vs 9 = .bool false := hR0 9 (by decide)
    have HB := Lib.hid hB0
    clear hR0 hD hB0
    simp only [acts, if_true, dstAt, List.getElem?_cons_zero, List.getElem?_cons_succ, Option.bind_some, Act.put, List.setIfInBounds_toArray, List.set_cons_succ, List.set_cons_zero, List.drop_succ_cons, List.drop_nil]
    simp only [r23]
    clear r23
    go_wp2_with fail
    refine Calls.mono (show Calls Tryz.prog 147 #[.pointer (some ⟨g, 0, none⟩), .int .i64 0] Wa _ from HRD.out Wa HB.out) ?_
    rintro e w3 ⟨v3, rfl, ho3, hf3⟩
    have H3 := Lib.hid (And.intro (HB.out.trans hf3 (fun _ h => h.elim)) ho3.bytes)
    clear ho3 hf3
    obtain ⟨s0, s1, s2⟩ := row3_cells (H3.out.1.heap HROW.out id)
    go_wp2_with fail
    refine (HHO.out _ w3 v3 H3.out.2).mono ?_
    rintro e w4 ⟨rfl, hf4⟩
    rw [← HX.out.1, ← HX.out.2.1, ← HX.out.2.2.1, ← HX.out.2.2.2, HX3.out]
    have H4 := Lib.hid (H3.out.1.trans hf4 (fun _ h => h.elim))
    clear hf4
    obtain ⟨W5, hW5⟩ : ∃ W, W = w4.alloc (.cells #[.int .i64 x1, .int .i64 x2, .int .i64 0, .int .i64 x4] 155) := ⟨_, rfl⟩
    obtain ⟨gh, hgh⟩ : ∃ gh, gh = w4.heap.size := ⟨_, rfl⟩
    have H5 := Lib.hid (show Fr (fun _ => False) W1 W5 ∧ W5.heap[gh]? = some (.cells #[.int .i64 x1, .int .i64 x2, .int .i64 0, .int .i64 x4] 155 (0, 0)) by
      rw [hW5, hgh]
      exact ⟨H4.out.alloc _, heap_alloc_new w4 _⟩)
    go_wp2_with fail
    rw [← hW5, ← hgh]
    clear hW5 hgh s0 s1 s2
    refine (rBytes0 W5 g 1).mono ?_
    rintro e w5 ⟨rfl, rfl⟩
    go_wp2_with fail
    refine (rParted0 W5).mono ?_
    rintro e w6 ⟨rfl, hf6⟩
    have H6 := Lib.hid (H5.out.1.trans hf6 (fun _ h => h.elim))
    obtain ⟨s0, s1, s2⟩ := row3_cells (H6.out.heap HROW.out id)
    obtain ⟨q0, q1, q2, q3⟩ := row4_cells (hf6.heap H5.out.2 id)
    clear hf6
    go_wp2_with fail
    go_ret2
    unfold ROpen2Post
    refine ⟨w6.heap.size, rfl, ?_, ?_, (HF.out.trans H6.out (fun _ h => h.elim)).alloc _⟩
    · have := HF.out.size; have := H6.out.size; omega
    · unfold RjAt
      rw [← HX.out.1, ← HX.out.2.1, ← HX.out.2.2.2]
      exact heap_alloc_new w6 _
theorem rBytes0' (w : World) (g at0 : Nat) :
    Calls Tryz.prog 149 #[.pointer (some ⟨g, 0, none⟩), .int .i64 at0, .int .i64 0] w fun e w' => e = .returned (.tuple #[.slice none 0 0, .int .i64 0]) ∧ w' = w := (rBytes0 w g at0).mono fun _ _ h => ⟨h.1, h.2.symm⟩
section
variable {w w' : World} {jn g l la d : Nat} {h : Hd}
theorem RjAt.keep {S : Nat → Prop} (H : RjAt w jn g l la d h) (hf : Fr S w w') (hS : ¬ S jn) : RjAt w' jn g l la d h := hf.heap H hS
theorem RjAt.cells (H : RjAt w jn g l la d h) : w.cell? ⟨jn, 0, none⟩ = some (.pointer (some ⟨g, 0, none⟩)) ∧ w.cell? ⟨jn, 1, none⟩ = some (.int .i64 l) ∧ w.cell? ⟨jn, 2, none⟩ = some (.int .i64 la) ∧ w.cell? ⟨jn, 4, none⟩ = some (.int .i64 h.area) ∧ w.cell? ⟨jn, 5, none⟩ = some (.int .i64 h.size) ∧ w.cell? ⟨jn, 6, none⟩ = some (.int .i64 0) ∧ w.cell? ⟨jn, 8, none⟩ = some (.bool false) := by
  refine ⟨?_, ?_, ?_, ?_, ?_, ?_, ?_⟩ <;> exact cell_of_row _ _ _ _ _ _ H
set_option maxRecDepth 100000 in
theorem rNote0 (w : World) (j : Nat) : Calls Tryz.prog 152 #[.pointer (some ⟨j, 0, none⟩), .int .i64 0] w fun e w' => e = .returned (.int .i64 0) ∧ w = w' := by
  go_enter Tryz.func152, Tryz.ntmps152
  go_wp2
  go_ret
  exact ⟨rfl, rfl⟩
set_option maxRecDepth 100000 in
set_option maxHeartbeats 1000000 in
theorem rArea_any (H : RjAt w jn g l la d h) (hl : l ≤ 8192) (hla : la ≤ 8192) : Calls Tryz.prog 151 #[.pointer (some ⟨jn, 0, none⟩), .int .i64 0] w fun e w' => e = .returned (.int .i64 (1 + (l : Int))) ∧ ∃ m, w' = w.drewN m := by
  obtain ⟨c0, c1, c2, c4, c5, c6, c8⟩ := H.cells
  clear H
  go_enter Tryz.func151, Tryz.ntmps151
  go_wp2_with fail
  go_quiet (fail)
  go_wp2_with fail
  go_ret
  exact ⟨by simp, _, rfl⟩
set_option maxRecDepth 100000 in
set_option maxHeartbeats 1000000 in
theorem rAreaOf0 (H : RjAt w jn g l la d h) (hl : l ≤ 8192) (hla : la ≤ 8192) (h0 : h.size = 0) (ha : h.area = 0) : Calls Tryz.prog 119 #[.pointer (some ⟨jn, 0, none⟩)] w fun e w' => e = .returned (.tuple #[.slice none 0 0, .int .i64 0]) ∧ Fr (fun _ => False) w w' := by
  obtain ⟨c0, c1, c2, c4, c5, c6, c8⟩ := H.cells
  rw [h0] at c5
  rw [ha] at c4
  have HAR := Lib.hid (fun (n : Nat) => rArea_any (H.keep ((Fr.refl (fun _ => False) w).drewN n) id) hl hla)
  have HBY := Lib.hid (fun (W : World) => rBytes0' W g (1 + l))
  have e1 : ((1 + l : Nat) : Int) = 1 + (l : Int) := by omega
  rw [e1] at HBY
  clear H h0 ha
  go_enter Tryz.func119, Tryz.ntmps119
  go_wp2_with fail
  go_quiet (first
    | (go_at_call 151; exact Calls.quiet_of (HAR.out _))
    | (go_at_call 149; exact Calls.quiet_of_same (HBY.out _)))
  go_wp2_with (go_at_call 152; refine (rNote0 _ _).mono ?_; rintro e w2 ⟨rfl, rfl⟩)
  go_ret2
  exact ⟨rfl, (Fr.refl (fun _ => False) w).drewN _⟩
set_option maxRecDepth 100000 in
set_option maxHeartbeats 1000000 in
theorem rRecs0 (H : RjAt w jn g l la d h) : Calls Tryz.prog 121 #[.pointer (some ⟨jn, 0, none⟩)] w fun e w' => e = .returned (.tuple #[.slice none 0 0, .int .i64 0]) ∧ Fr (fun _ => False) w w' := by
  obtain ⟨c0, c1, c2, c4, c5, c6, c8⟩ := H.cells
  have HBY := Lib.hid (fun (W : World) => rBytes0' W g 1)
  clear H
  go_enter Tryz.func121, Tryz.ntmps121
  go_wp2_with fail
  go_quiet (first
    | (go_at_call 149; exact Calls.quiet_of_same (HBY.out _)))
  go_wp2_with (go_at_call 150; refine (rParted0 _).mono ?_; rintro e w2 ⟨rfl, hf2⟩; (have H2 := Lib.hid hf2); clear hf2)
  go_ret2
  exact ⟨rfl, ((Fr.refl (fun _ => False) w).drewN _).trans H2.out (fun _ h => h.elim)⟩
set_option maxRecDepth 100000 in
theorem r6RowsOf0 (w : World) : Calls Tryz.prog 120 #[.slice none 0 0] w fun e w' => e = .returned (.tuple #[.slice none 0 0, .bool true]) ∧ w = w' := by
  go_enter Tryz.func120, Tryz.ntmps120
  go_wp2
  go_ret2
  exact ⟨rfl, rfl⟩
end
end Go.Proofs.YtldgcoikbjbjeaaGreat
namespace Go.Proofs.YtldgcoikbjbjeaaGreat
open Go.RowKit Go.ChangeShapes
set_option linter.unusedVariables false
set_option maxRecDepth 100000 in
set_option maxHeartbeats 1000000 in
theorem r6Bytes0 (w : World) : Calls Tryz.prog 156 #[.slice none 0 0] w fun e w' => (∃ ao c, e = .returned (.slice ao 1 c)) ∧ Fr (fun _ => False) w w' := by
  obtain ⟨W1, hW1⟩ : ∃ W1, W1 = w.alloc (.cells #[.slice none 0 0, .bool false] 208) := ⟨_, rfl⟩
  have hf1 : Fr (fun _ => False) w W1 := by rw [hW1]; exact (Fr.refl _ _).alloc _
  have hb1 : W1.heap[w.heap.size]? = some (.cells #[.slice none 0 0, .bool false] 208 (0, 0)) := by rw [hW1]; exact heap_alloc_new w _
  have hm : RMkAt (fun k => w.heap.size ≤ k) W1 w.heap.size [] false := ⟨Nat.le_refl _, _, _, hb1, OwnB.nil _ _⟩
  have HNU := Lib.hid (refNum_yes 0 W1 (by decide) (fun k hk => by have := hf1.size; omega) hm (by decide))
  have HW := Lib.hid (And.intro hW1 hf1)
  clear hW1 hf1 hb1 hm
  go_enter Tryz.func156, Tryz.ntmps156
  go_wp2_with (first
    | (go_at_call 145; rw [← HW.out.1]; refine HNU.out.mono ?_; rintro e w2 ⟨rfl, hf2, hm2⟩; (have H2 := Lib.hid (And.intro hf2 hm2)); clear hf2 hm2))
  obtain ⟨_, T, v, hb2, ho2⟩ := H2.out.2
  obtain ⟨ao, c, rfl⟩ := ho2.len
  obtain ⟨k0, k1, _⟩ := ref_cells hb2
  have hl : ([] ++ numBytes 5 0 : List UInt8).length = 1 := by decide +kernel
  rw [hl] at k0
  have HF := Lib.hid ((HW.out.2.mono (T := fun k => w.heap.size ≤ k) (fun _ _ h => h.elim)).trans H2.out.1 (fun _ h => .inl h))
  clear H2 hb2 ho2 hl HNU HW
  go_loopw [4] (fun iv wr => iv = .int .i64 0 ∧ wr = w2) (fun _ _ => 0)
  case atStart => exact ⟨rfl, rfl⟩
  case round =>
    obtain ⟨rfl, rfl⟩ := hrel
    go_wp2
    go_ret
    exact ⟨⟨_, _, rfl⟩, HF.out.mono (fun k hk h => by omega)⟩
set_option maxRecDepth 100000 in
set_option maxHeartbeats 1000000 in
theorem r6Full0 (w : World) (l la d : Nat) (h1 : 1 ≤ la) (h2 : la ≤ 8192) : Calls Tryz.prog 122 #[.slice none 0 0, .agg #[.int .i64 l, .int .i64 la, .int .i64 d]] w fun e w' => e = .returned (.bool false) ∧ Fr (fun _ => False) w w' := by
  obtain ⟨W1, hW1⟩ : ∃ W1, W1 = w.alloc (.cells #[.int .i64 l, .int .i64 la, .int .i64 d] 23) := ⟨_, rfl⟩
  have hf1 : Fr (fun _ => False) w W1 := by rw [hW1]; exact (Fr.refl _ _).alloc _
  have hb1 : W1.heap[w.heap.size]? = some (.cells #[.int .i64 l, .int .i64 la, .int .i64 d] 23 (0, 0)) := by rw [hW1]; exact heap_alloc_new w _
  have HW := Lib.hid (And.intro hW1 (And.intro hf1 hb1))
  have hc := cell_of_row _ _ 1 _ _ _ hb1
  simp only [List.getElem?_toArray, List.getElem?_cons_succ, List.getElem?_cons_zero] at hc
  have d1 : decide (((la : Int) * 64) < 1) = false := decide_eq_false (by omega)
  have d2 : ¬ ((la : Int) * 64) < 1 := by omega
  clear hW1 hf1 hb1
  go_enter Tryz.func122, Tryz.ntmps122
  go_wp2_with fail
  rw [← HW.out.1]
  go_region_held_law (fun w' => w'.cell? ⟨w.heap.size, 1, none⟩ = some (.int .i64 la)) (first | assumption | go_keep) (first
    | (go_at_call 156; refine (r6Bytes0 _).mono ?_; rintro e w2 ⟨⟨ao, c, rfl⟩, hf2⟩; (have hc := hf2.cell hc id); (have H2 := Lib.hid hf2); clear hf2))
  all_goals (
    have hwr : IntKind.i64.wrap ((la : Int) * 64) = (la : Int) * 64 := wraps_i64 _ (by omega) (by omega)
    rw [hwr, d1]
    go_wp2
    go_ret
    exact ⟨rfl, (HW.out.2.1.trans ((Fr.refl (fun _ => False) W1).drew) (fun _ h => h.elim)).trans H2.out (fun _ h => h.elim)⟩)
def R6Post (w : World) (e : Ending) (w' : World) : Prop := ∃ rn, e = .returned (.tuple #[.pointer (some ⟨rn, 0, none⟩), .int .i64 0]) ∧ Fr (fun _ => False) w w'
set_option maxRecDepth 100000 in
set_option maxHeartbeats 4000000 in
theorem r6Open_any {D : Nat → Prop} (w : World) (g l la d s : Nat) (dv : Dv) (h : Hd) (hok : ShOk l la d s) (hd : RefAt w D g s dv) (hup : dv.down = false) (hw : dv.waits = []) (hsec : secAt dv.all 0 = h.sec) (hri : h.Right l la) (h0 : h.used = 0) (h1 : h.size = 0) (h2 : h.area = 0) :
    Calls Tryz.prog 85 #[.pointer (some ⟨g, 0, none⟩), .agg #[.int .i64 l, .int .i64 la, .int .i64 d]] w (R6Post w) := by
  have hl : l ≤ 8192 := by have := hok.sum; have := hok.most; omega
  have hla : la ≤ 8192 := by have := hok.sum; have := hok.most; omega
  obtain ⟨W1, hW1⟩ : ∃ W1, W1 = w.alloc (.cells #[.int .i64 l, .int .i64 la, .int .i64 d] 23) := ⟨_, rfl⟩
  have hf1 : Fr (fun _ => False) w W1 := by rw [hW1]; exact (Fr.refl _ _).alloc _
  have hb1 : W1.heap[w.heap.size]? = some (.cells #[.int .i64 l, .int .i64 la, .int .i64 d] 23 (0, 0)) := by rw [hW1]; exact heap_alloc_new w _
  have HOP := Lib.hid (rOpen2_any W1 g l la d s dv h hok (hd.keep hf1 (fun _ _ _ h => h)) hup hw hsec hri h0)
  have HAR := Lib.hid (fun (W : World) (jn : Nat) (H : RjAt W jn g l la d h) => rAreaOf0 H hl hla h1 h2)
  have HRE := Lib.hid (fun (W : World) (jn : Nat) (H : RjAt W jn g l la d h) => rRecs0 H)
  have HFU := Lib.hid (fun (W : World) => r6Full0 W l la d hok.a1 hla)
  have HW := Lib.hid (And.intro hW1 (And.intro hf1 hb1))
  clear hW1 hf1 hb1 hd hup hw hsec hri h0 h1 h2 hok
  go_enter Tryz.func85, Tryz.ntmps85
  go_wp2_with (first
    | (go_at_call 118; rw [← HW.out.1]; refine HOP.out.mono ?_; rintro e w2 ⟨jn, rfl, hz2, hj2, hf2⟩; (have H2 := Lib.hid (And.intro hj2 (HW.out.2.1.trans hf2 (fun _ h => h.elim)))); (have hc0 := hf2.heap HW.out.2.2 id); (have HC0 := Lib.hid hc0); clear hz2 hj2 hf2 hc0)
    | (go_at_call 119; refine (HAR.out w2 jn H2.out.1).mono ?_; rintro e w3 ⟨rfl, hf3⟩; (have H3 := Lib.hid (And.intro (H2.out.1.keep hf3 id) (And.intro (H2.out.2.trans hf3 (fun _ h => h.elim)) (hf3.heap HC0.out id)))); clear hf3)
    | (go_at_call 120; refine (r6RowsOf0 _).mono ?_; rintro e w4 ⟨rfl, rfl⟩)
    | (go_at_call 121; refine (HRE.out w3 jn H3.out.1).mono ?_; rintro e w5 ⟨rfl, hf5⟩; (have H5 := Lib.hid (And.intro (H3.out.2.1.trans hf5 (fun _ h => h.elim)) (hf5.heap H3.out.2.2 id))); (obtain ⟨s0, s1, s2⟩ := row3_cells H5.out.2); clear hf5)
    | (go_at_call 122; refine (HFU.out _).mono ?_; rintro e w6 ⟨rfl, hf6⟩; (have H6 := Lib.hid (H5.out.1.trans hf6 (fun _ h => h.elim))); clear hf6))
  clear HOP HAR HRE HFU H2 H3 H5 HC0 s0 s1 s2
  go_loopw [10, 14, 15] (fun a b c wr => a = .slice none 0 0 ∧ b = .bool false ∧ c = .int .i64 0 ∧ wr = w6) (fun _ _ _ _ => 0)
  case atStart => exact ⟨rfl, rfl, rfl, rfl⟩
  case round =>
    obtain ⟨rfl, rfl, rfl, rfl⟩ := hrel
    go_wp2
    go_ret2
    exact ⟨_, rfl, H6.out.alloc _⟩
end Go.Proofs.YtldgcoikbjbjeaaGreat
