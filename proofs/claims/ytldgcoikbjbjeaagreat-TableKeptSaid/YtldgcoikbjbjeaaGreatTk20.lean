/- Laid together: JSwitch CurText JRead JRecs Str -/
import Derived.Test.YtldgcoikbjbjeaaGreatTk19
import Derived.Test.YtldgcoikbjbjeaaGreatTk2
import Derived.Test.YtldgcoikbjbjeaaGreatTk14
import Derived.Test.YtldgcoikbjbjeaaGreatTk10
import Derived.Test.YtldgcoikbjbjeaaGreatTk8
import Derived.Test.YtldgcoikbjbjeaaGreatTk15
import Derived.Laws.IdiomStrings
import Derived.Lib.BufferRead

namespace Go.Proofs.YtldgcoikbjbjeaaGreat
open Go.RowKit Go.ChangeShapes
set_option linter.unusedVariables false
def SwiR (jn gh x1 x2 x3 x4 y1 y2 y4 l la d m lb cb : Nat) (ab : Option Addr) (i : Nat) (v : Value) (W : World) : Prop :=
  match i with
  | 0 => v = .pointer (some ⟨jn, 0, none⟩)
  | 1 => v = .pointer (some ⟨jn, 0, none⟩)
  | 2 => v = .pointer (some ⟨jn, 0, none⟩)
  | 3 => v = .pointer (some ⟨jn, 5, none⟩)
  | 4 => v = .agg #[.int .i64 (l : Nat), .int .i64 (la : Nat), .int .i64 (d : Nat)]
  | 5 => v = .pointer (some ⟨gh, 0, none⟩)
  | 6 => v = .int .i64 (y1 : Nat)
  | 7 => v = .int .i64 (m : Nat)
  | 8 => v = .int .i64 ((64 * m : Nat) : Int)
  | 9 => v = .slice ab lb cb
  | 10 => v = .agg #[.int .i64 (y1 : Nat), .int .i64 (y2 : Nat), .int .i64 0, .int .i64 (y4 : Nat)]
  | _ => True
theorem SwiR.ext (jn gh x1 x2 x3 x4 y1 y2 y4 l la d m lb cb : Nat) (ab : Option Addr) : ∀ (j : Nat) (u : Value) (W W' : World), Fr (fun _ => False) W W' → SwiR jn gh x1 x2 x3 x4 y1 y2 y4 l la d m lb cb ab j u W → SwiR jn gh x1 x2 x3 x4 y1 y2 y4 l la d m lb cb ab j u W'
  | 0, u, W, W', hf, h => h
  | 1, u, W, W', hf, h => h
  | 2, u, W, W', hf, h => h
  | 3, u, W, W', hf, h => h
  | 4, u, W, W', hf, h => h
  | 5, u, W, W', hf, h => h
  | 6, u, W, W', hf, h => h
  | 7, u, W, W', hf, h => h
  | 8, u, W, W', hf, h => h
  | 9, u, W, W', hf, h => h
  | 10, u, W, W', hf, h => h
  | _ + 11, u, W, W', hf, h => trivial
set_option maxRecDepth 100000 in
set_option maxHeartbeats 4000000 in
theorem jSwitch_yes {D G : Nat → Prop} (w : World) (jn g s l la d : Nat) (h : Hd) (vb : Value) (X : List UInt8) (hl : l ≤ 8192) (hla2 : la ≤ 8192) (hr : h.Right l la) (hj : JnAt w jn g h l la d false) (hb : BytesIn G w vb X) (hc1 : X.length ≤ 64 * la) (dv : Dv) (hc2 : h.round < 1099511627776) (hjD : ¬ D jn) (hd : DevAt w D g s dv) (hup : dv.down = false) (hw : dv.waits = []) (hs : s ≤ 8192) (ho : 1 + l + 2 * la ≤ s) (hk6 : dv.deeds ≤ 900000000) :
    Calls Tryz.prog 75 #[.pointer (some ⟨jn, 0, none⟩), vb] w (StepPost D w jn g s l la d h ⟨1 - h.area, X.length, 0, h.round + 1⟩ (dv.commit s (secsAt dv.all (areaAt l la (1 - h.area)) X) (Hd.sec ⟨1 - h.area, X.length, 0, h.round + 1⟩))) := by
  have hc := jReady_any w jn g h l la d false hj
  have HJ := Lib.hid hj
  have HJR := Lib.hid hj
  unfold JnAt at HJR
  obtain ⟨ab, cb, hvb, _⟩ := id hb
  subst hvb
  obtain ⟨lb, hlb⟩ : ∃ lb, lb = X.length := ⟨_, rfl⟩
  obtain ⟨c0, c1, c2, c3, c4, c5, c6, c7, c8, c9⟩ := hj.cells
  obtain ⟨x1, hx1⟩ : ∃ x, x = h.area := ⟨_, rfl⟩
  obtain ⟨x2, hx2⟩ : ∃ x, x = h.size := ⟨_, rfl⟩
  obtain ⟨x3, hx3⟩ : ∃ x, x = h.used := ⟨_, rfl⟩
  obtain ⟨x4, hx4⟩ : ∃ x, x = h.round := ⟨_, rfl⟩
  have HX := Lib.hid (And.intro hx1 (And.intro hx2 (And.intro hx3 hx4)))
  have hla := fun W => lLast_any W h false (by rw [decide_eq_false_iff_not]; omega)
  have hgt : ¬ (la : Int) * 64 < (lb : Int) := by omega
  have hnum : Hd.Num ⟨1 - h.area, X.length, 0, h.round + 1⟩ := ⟨by simp only; omega, by simp only; omega, Nat.zero_le _, by simp only; omega⟩
  have harea : h.area ≤ 1 := hr.area
  have hoa : areaAt l la (1 - h.area) + X.length ≤ 64 * s := area_in ho (by omega) hc1
  have hst := fun (Wa : World) (hf : Fr (fun _ => False) w Wa) => jStep_any (D := D) Wa jn g s l la d (areaAt l la (1 - h.area)) h ⟨1 - h.area, X.length, 0, h.round + 1⟩ (.slice ab X.length cb) X dv (hj.keep hf id) hjD (hd.keep hf (fun _ _ _ h => h)) hup hw hs hoa ((hb.mono (G := fun k => True) (fun _ _ _ => trivial)).keep hf (fun _ _ _ h => h)) hnum hk6
  obtain ⟨r, hrr⟩ : ∃ r, r = dv.commit s (secsAt dv.all (areaAt l la (1 - h.area)) X) (Hd.sec ⟨1 - h.area, X.length, 0, h.round + 1⟩) := ⟨_, rfl⟩
  obtain ⟨y1, hy1⟩ : ∃ y, y = 1 - h.area := ⟨_, rfl⟩
  obtain ⟨y4, hy4⟩ : ∃ y, y = h.round + 1 := ⟨_, rfl⟩
  obtain ⟨m, hm⟩ : ∃ m, m = 1 + l + y1 * la := ⟨_, rfl⟩
  have ham : areaAt l la (1 - h.area) = 64 * m := by rw [hm, hy1]; rfl
  rw [← hrr] at hst ⊢
  simp only at hst
  rw [ham, ← hlb, ← hy1, ← hy4] at hst
  have HST := Lib.hid hst
  have HRR := Lib.hid (And.intro hy1 (And.intro hy4 hlb))
  rw [← hlb, ← hy1, ← hy4]
  have hsw := fun W => lSwitched_any W x1 x2 x3 x4 lb (by rw [hx1]; exact harea) (by rw [hx4]; omega) (by omega)
  rw [show 1 - x1 = y1 by rw [hx1, hy1], show x4 + 1 = y4 by rw [hx4, hy4]] at hsw
  have HSW := Lib.hid hsw
  have har := fun W => lArea_any W l la d y1 hl hla2 (by omega)
  rw [← hm] at har
  have HAR := Lib.hid har
  have HMB := Lib.hid (show m ≤ 100000 by
    have : y1 * la ≤ 1 * 8192 := Nat.mul_le_mul (by omega) hla2
    omega)
  rw [← hx1, ← hx2, ← hx3, ← hx4] at hla HJR
  rw [← hx1] at c0
  rw [← hx2] at c1
  rw [← hx3] at c2
  rw [← hx4] at c3
  have HLA := Lib.hid hla
  clear hst hjD hd hup hw hs ho hk6 hnum hrr hj hb hr hc1 hlb hla har hsw hm ham hoa hy1 hy4 hx1 hx2 hx3 hx4 hc2 harea
  go_enter Tryz.func75, Tryz.ntmps75
  go_wp2_with (first
    | (go_at_call 100; refine hc.mono ?_; rintro e w1 ⟨rfl, rfl⟩)
    | (go_at_call 106; refine (HLA.out w).mono ?_; rintro e w2 ⟨rfl, hf2⟩; (have H2 := Lib.hid hf2); (have d0 := hf2.cell c0 id); (have d1 := hf2.cell c1 id); (have d2 := hf2.cell c2 id); (have d3 := hf2.cell c3 id); clear hf2)
    | (go_at_call 109; refine (HSW.out w2).mono ?_; rintro e w3 ⟨rfl, hf3⟩; (have H3 := Lib.hid (H2.out.trans hf3 (fun _ h => h.elim))); clear hf3))
  obtain ⟨W6, hW6⟩ : ∃ W6, W6 = w3.alloc (.cells #[.int .i64 y1, .int .i64 lb, .int .i64 0, .int .i64 y4] 106) := ⟨_, rfl⟩
  obtain ⟨gh, hgh⟩ : ∃ gh, gh = w3.heap.size := ⟨_, rfl⟩
  have H6 := Lib.hid (show Fr (fun _ => False) w W6 by rw [hW6]; exact H3.out.alloc _)
  have HG := Lib.hid (show W6.heap[gh]? = some (.cells #[.int .i64 y1, .int .i64 lb, .int .i64 0, .int .i64 y4] 106 (0, 0)) by rw [hW6, hgh]; exact heap_alloc_new w3 _)
  rw [← hW6, ← hgh]
  clear hW6 hgh
  have LDS := Lib.hid (fun W (hW : Fr (fun _ => False) W6 W) => load_shape5 W jn 5 _ _ _ (jn_shape (hW.heap (H6.out.heap HJR.out id) id)))
  have LDY := Lib.hid (fun W (hW : Fr (fun _ => False) W6 W) => load_int5 W ⟨gh, 0, none⟩ (.int .i64 y1) (cell_of_row _ _ _ _ _ _ (hW.heap HG.out id)))
  have LDG := Lib.hid (fun W (hW : Fr (fun _ => False) W6 W) => load_head5 W gh 0 _ _ _ _ (range_row5 (hW.heap HG.out id)))
  refine wp_region_inv 11 (by kernel_rfl) (by kernel_rfl) (fun W => Fr (fun _ => False) W6 W) (SwiR jn gh x1 x2 x3 x4 y1 lb y4 l la d m lb cb ab) (fun _ _ _ _ => True) (Fr (fun _ => False)) (SwiR.ext jn gh x1 x2 x3 x4 y1 lb y4 l la d m lb cb ab) (Fr.refl _ _).drew ?_ ?_
  · intro i hi o ho
    replace hi : i < 11 := hi
    obtain rfl | rfl | rfl | rfl | rfl | rfl | rfl | rfl | rfl | rfl | rfl : i = 0 ∨ i = 1 ∨ i = 2 ∨ i = 3 ∨ i = 4 ∨ i = 5 ∨ i = 6 ∨ i = 7 ∨ i = 8 ∨ i = 9 ∨ i = 10 := by omega
    · simp only [List.getElem?_cons_zero, Option.some.injEq] at ho
      subst ho
      intro a W vs hB hS hE hU
      refine wpG_plain rfl ?_
      have v0 : a.eval (.tmp 0) = .pointer (some ⟨jn, 0, none⟩) := (hU 0 (by kernel_rfl)).trans rfl
      clear hE hU
      exact wp_value_inv (w' := W) (.pointer (some ⟨jn, 0, none⟩)) (op_move rfl v0) ⟨_, rfl, hB, Fr.refl _ _, rfl, fun _ _ _ _ _ => trivial⟩
    · simp only [List.getElem?_cons_zero, List.getElem?_cons_succ, Option.some.injEq] at ho
      subst ho
      intro a W vs hB hS hE hU
      refine wpG_plain rfl ?_
      have v0 : a.eval (.tmp 0) = .pointer (some ⟨jn, 0, none⟩) := (hU 0 (by kernel_rfl)).trans rfl
      clear hE hU
      exact wp_value_inv (w' := W) (.pointer (some ⟨jn, 0, none⟩)) (op_move rfl v0) ⟨_, rfl, hB, Fr.refl _ _, rfl, fun _ _ _ _ _ => trivial⟩
    · simp only [List.getElem?_cons_zero, List.getElem?_cons_succ, Option.some.injEq] at ho
      subst ho
      intro a W vs hB hS hE hU
      refine wpG_plain rfl ?_
      obtain ⟨r1, e36⟩ := hE 1 36 (by kernel_rfl) (by kernel_rfl)
      have v36 : a.eval (.tmp 36) = .pointer (some ⟨jn, 0, none⟩) := e36.trans r1
      clear hE hU
      exact wp_value_inv (w' := W) (.pointer (some ⟨jn, 0, none⟩)) (op_nilCheck rfl v36) ⟨_, rfl, hB, Fr.refl _ _, rfl, fun _ _ _ _ _ => trivial⟩
    · simp only [List.getElem?_cons_zero, List.getElem?_cons_succ, Option.some.injEq] at ho
      subst ho
      intro a W vs hB hS hE hU
      refine wpG_plain rfl ?_
      obtain ⟨r2, e37⟩ := hE 2 37 (by kernel_rfl) (by kernel_rfl)
      have v37 : a.eval (.tmp 37) = .pointer (some ⟨jn, 0, none⟩) := e37.trans r2
      clear hE hU
      exact wp_value_inv (w' := W) (.pointer (some ⟨jn, 5, none⟩)) (op_fieldAddr rfl v37 (fld_spence_log_Journal_2_0 W jn)) ⟨_, rfl, hB, Fr.refl _ _, rfl, fun _ _ _ _ _ => trivial⟩
    · simp only [List.getElem?_cons_zero, List.getElem?_cons_succ, Option.some.injEq] at ho
      subst ho
      intro a W vs hB hS hE hU
      refine wpG_plain rfl ?_
      obtain ⟨r3, e38⟩ := hE 3 38 (by kernel_rfl) (by kernel_rfl)
      have v38 : a.eval (.tmp 38) = .pointer (some ⟨jn, 5, none⟩) := e38.trans r3
      clear hE hU
      exact wp_value_inv (w' := W) (.agg #[.int .i64 (l : Nat), .int .i64 (la : Nat), .int .i64 (d : Nat)]) (op_loadAt rfl v38 (LDS.out W hB)) ⟨_, rfl, hB, Fr.refl _ _, rfl, fun _ _ _ _ _ => trivial⟩
    · simp only [List.getElem?_cons_zero, List.getElem?_cons_succ, Option.some.injEq] at ho
      subst ho
      intro a W vs hB hS hE hU
      refine wpG_plain rfl ?_
      have v6 : a.eval (.tmp 6) = .pointer (some ⟨gh, 0, none⟩) := (hU 6 (by kernel_rfl)).trans rfl
      clear hE hU
      exact wp_value_inv (w' := W) (.pointer (some ⟨gh, 0, none⟩)) (op_fieldAddr rfl v6 (fld_spence_log_head_0_0 W gh)) ⟨_, rfl, hB, Fr.refl _ _, rfl, fun _ _ _ _ _ => trivial⟩
    · simp only [List.getElem?_cons_zero, List.getElem?_cons_succ, Option.some.injEq] at ho
      subst ho
      intro a W vs hB hS hE hU
      refine wpG_plain rfl ?_
      obtain ⟨r5, e40⟩ := hE 5 40 (by kernel_rfl) (by kernel_rfl)
      have v40 : a.eval (.tmp 40) = .pointer (some ⟨gh, 0, none⟩) := e40.trans r5
      clear hE hU
      exact wp_value_inv (w' := W) (.int .i64 (y1 : Nat)) (op_loadAt rfl v40 (LDY.out W hB)) ⟨_, rfl, hB, Fr.refl _ _, rfl, fun _ _ _ _ _ => trivial⟩
    · simp only [List.getElem?_cons_zero, List.getElem?_cons_succ, Option.some.injEq] at ho
      subst ho
      intro a W vs hB hS hE hU
      refine wpG_plain rfl ?_
      obtain ⟨r4, e39⟩ := hE 4 39 (by kernel_rfl) (by kernel_rfl)
      have v39 : a.eval (.tmp 39) = .agg #[.int .i64 (l : Nat), .int .i64 (la : Nat), .int .i64 (d : Nat)] := e39.trans r4
      obtain ⟨r6, e41⟩ := hE 6 41 (by kernel_rfl) (by kernel_rfl)
      have v41 : a.eval (.tmp 41) = .int .i64 (y1 : Nat) := e41.trans r6
      clear hE hU
      refine wp_call_inv 50 #[.tmp 39, .tmp 41] #[23, 3] rfl #[.agg #[.int .i64 (l : Nat), .int .i64 (la : Nat), .int .i64 (d : Nat)], .int .i64 (y1 : Nat)] (by simp only [List.map_toArray, List.map_cons, List.map_nil, v39, v41]) (ent_spence_log_areaAt _) (Post := fun v W' => v = .int .i64 (m : Nat) ∧ Fr (fun _ => False) W W') ((HAR.out W).mono fun e w' h => ⟨_, h.1, rfl, h.2⟩) ?_
      rintro v W' ⟨rfl, hf⟩
      exact ⟨_, rfl, hB.trans hf (fun _ h => h.elim), hf, rfl, fun _ _ _ _ _ => trivial⟩
    · simp only [List.getElem?_cons_zero, List.getElem?_cons_succ, Option.some.injEq] at ho
      subst ho
      intro a W vs hB hS hE hU
      refine wpG_plain rfl ?_
      obtain ⟨r7, e42⟩ := hE 7 42 (by kernel_rfl) (by kernel_rfl)
      have v42 : a.eval (.tmp 42) = .int .i64 (m : Nat) := e42.trans r7
      clear hE hU
      exact wp_value_inv (w' := W) (.int .i64 ((64 * m : Nat) : Int)) (op_bin rfl v42 rfl (rfl) (mul_in5 (by push_cast; rw [Int.mul_comm]) (by omega) (by have := HMB.out; omega))) ⟨_, rfl, hB, Fr.refl _ _, rfl, fun _ _ _ _ _ => trivial⟩
    · simp only [List.getElem?_cons_zero, List.getElem?_cons_succ, Option.some.injEq] at ho
      subst ho
      intro a W vs hB hS hE hU
      refine wpG_plain rfl ?_
      have v1 : a.eval (.tmp 1) = .slice ab lb cb := (hU 1 (by kernel_rfl)).trans rfl
      clear hE hU
      exact wp_value_inv (w' := W) (.slice ab lb cb) (op_move rfl v1) ⟨_, rfl, hB, Fr.refl _ _, rfl, fun _ _ _ _ _ => trivial⟩
    · simp only [List.getElem?_cons_zero, List.getElem?_cons_succ, Option.some.injEq] at ho
      subst ho
      intro a W vs hB hS hE hU
      refine wpG_plain rfl ?_
      have v6 : a.eval (.tmp 6) = .pointer (some ⟨gh, 0, none⟩) := (hU 6 (by kernel_rfl)).trans rfl
      clear hE hU
      exact wp_value_inv (w' := W) (.agg #[.int .i64 (y1 : Nat), .int .i64 (lb : Nat), .int .i64 0, .int .i64 (y4 : Nat)]) (op_loadAt rfl v6 (LDG.out W hB)) ⟨_, rfl, hB, Fr.refl _ _, rfl, fun _ _ _ _ _ => trivial⟩
  · intro vs Wa hB0 hR0 hD
    have r35 : vs 0 = .pointer (some ⟨jn, 0, none⟩) := hR0 0 (by decide)
    have r43 : vs 8 = .int .i64 ((64 * m : Nat) : Int) := hR0 8 (by decide)
    have r44 : vs 9 = .slice ab lb cb := hR0 9 (by decide)
    have r45 : vs 10 = .agg #[.int .i64 (y1 : Nat), .int .i64 (lb : Nat), .int .i64 0, .int .i64 (y4 : Nat)] := hR0 10 (by decide)
    have HB := Lib.hid hB0
    clear hR0 hD hB0
    simp only [acts, if_true, dstAt, List.getElem?_cons_zero, List.getElem?_cons_succ, Option.bind_some, Act.put, List.setIfInBounds_toArray, List.set_cons_succ, List.set_cons_zero, List.drop_succ_cons]
    simp only [r35, r43, r44, r45]
    clear r35 r43 r44 r45
    go_wp2_with (go_at_call 107; refine (HST.out Wa (H6.out.trans HB.out (fun _ h => h.elim))).mono ?_; rintro e w8 hp8; (have H8 := Lib.hid (hp8.before (H6.out.trans HB.out (fun _ h => h.elim)))); (obtain ⟨e8, he8⟩ : ∃ e8, e8 = r.1 := ⟨_, rfl⟩); (have he9 : e = .returned (.int .i64 e8) := by rw [he8]; exact hp8.1); subst he9; (have HE8 := Lib.hid he8); clear hp8 he8)
    go_ret
    unfold StepPost at H8 ⊢
    exact ⟨by rw [HE8.out]; rfl, H8.out.2⟩
end Go.Proofs.YtldgcoikbjbjeaaGreat
namespace Go.Proofs.YtldgcoikbjbjeaaGreat
open Go.RowKit Go.ChangeShapes
set_option linter.unusedVariables false
def curText (most : Int) (X : List UInt8) (e : Int) : List UInt8 × List UInt8 × Int :=
  if e = 0 then
    if numS X = 0 then ([], [], 4)
    else if most < numV X then ([], [], 3)
    else if 1048576 < numV X then ([], [], 4)
    else curRaw (numV X) (X.drop (numS X)) 0
  else ([], X, e)
theorem curNum_none {X : List UInt8} (h : numS X = 0) : curNum 1099511627776 X 0 = (0, [], 4) := by simp [curNum, h]
theorem curNum_some {X : List UInt8} (h : numS X ≠ 0) : curNum 1099511627776 X 0 = ((numV X : Int), X.drop (numS X), 0) := by
  have := numV_le X
  rw [curNum, if_pos rfl, if_neg (by omega)]
set_option maxHeartbeats 1000000 in
theorem curText_any {F : Nat → Prop} {b : Nat} {X : List UInt8} {e : Int} (most : Int) (w : World) (h : CurAt F w b X e) (hX : X.length ≤ 140737488355328) :
    Calls Tryz.prog 98 #[.pointer (some ⟨b, 0, none⟩), .int .i64 most] w fun r w' => ∃ v, r = .returned v ∧ Fr (· = b) w w' ∧ OwnB (fun k => w.heap.size ≤ k) w' v (curText most X e).1 ∧ CurAt F w' b (curText most X e).2.1 (curText most X e).2.2 := by
  by_cases he : e = 0
  · subst he
    by_cases hs : numS X = 0
    · have hR : curText most X 0 = ([], [], 4) := by simp [curText, hs]
      have hN := curNum_any 1099511627776 w h
      rw [curNum_none hs] at hN
      rw [hR]
      clear hs hR
      go_enter Tryz.func98, Tryz.ntmps98
      go_wp2_with (first
        | (go_at_call 94; refine hN.mono ?_; rintro e w1 ⟨rfl, hfr, hc1⟩)
        | (go_at_call 129; refine (whole_no _ (by assumption) (by decide)).mono ?_; rintro e w' ⟨rfl, rfl⟩))
      go_ret
      exact ⟨_, rfl, hfr, OwnB.nil _ _, hc1⟩
    · have hN := curNum_any 1099511627776 w h
      rw [curNum_some hs] at hN
      have hl : (X.drop (numS X)).length ≤ 140737488355328 := by rw [List.length_drop]; omega
      have hv := numV_le X
      obtain ⟨n, hn⟩ : ∃ n, n = numV X := ⟨_, rfl⟩
      by_cases hm : most < numV X
      · have hR : curText most X 0 = ([], [], 3) := by simp [curText, hs, hm]
        rw [hR]
        rw [← hn] at hm hN hv
        clear hs hn hR
        have HN := Lib.hid hN
        clear hN
        go_enter Tryz.func98, Tryz.ntmps98
        go_wp2_with (first
          | (go_at_call 94; refine HN.out.mono ?_; rintro e w1 ⟨rfl, hfr, hc1⟩)
          | (go_at_call 129; refine (whole_yes _ (by assumption)).mono ?_; rintro e w' ⟨rfl, rfl⟩)
          | (go_at_call 131; refine (curfail_any 3 _ (by assumption)).mono ?_; rintro e w2 ⟨rfl, hfr2, hc2⟩))
        go_ret
        exact ⟨_, rfl, hfr.trans hfr2 (fun i hi => .inl hi), OwnB.nil _ _, hc2⟩
      · by_cases hbig : 1048576 < numV X
        · have hR : curText most X 0 = ([], [], 4) := by simp [curText, hs, hm, hbig]
          rw [hR]
          rw [← hn] at hm hN hv hbig
          clear hs hn hR
          have HN := Lib.hid hN
          clear hN
          go_enter Tryz.func98, Tryz.ntmps98
          go_wp2_with (first
            | (go_at_call 94; refine HN.out.mono ?_; rintro e w1 ⟨rfl, hfr, hc1⟩)
            | (go_at_call 129; refine (whole_yes _ (by assumption)).mono ?_; rintro e w' ⟨rfl, rfl⟩)
            | (go_at_call 131; refine (curfail_any 4 _ (by assumption)).mono ?_; rintro e w2 ⟨rfl, hfr2, hc2⟩))
          go_ret
          exact ⟨_, rfl, hfr.trans hfr2 (fun i hi => .inl hi), OwnB.nil _ _, hc2⟩
        · have hR : curText most X 0 = curRaw (numV X) (X.drop (numS X)) 0 := by simp [curText, hs, hm, hbig]
          rw [hR]
          rw [← hn] at hm hN hv hbig ⊢
          clear hs hn hR
          obtain ⟨Y, hY⟩ : ∃ Y, Y = X.drop (numS X) := ⟨_, rfl⟩
          rw [← hY] at hN hl ⊢
          clear hY hX h
          have HN := Lib.hid hN
          clear hN
          go_enter Tryz.func98, Tryz.ntmps98
          go_wp2_with (first
            | (go_at_call 94; refine HN.out.mono ?_; rintro e w1 ⟨rfl, hfr, hc1⟩)
            | (go_at_call 129; refine (whole_yes _ (by assumption)).mono ?_; rintro e w' ⟨rfl, rfl⟩)
            | (go_at_call 132; refine (curRaw_any (n : Int) _ (by assumption) hl (by omega) (by omega)).mono ?_; rintro e w2 ⟨v, rfl, hfr2, hown, hc2⟩))
          go_ret
          exact ⟨_, rfl, hfr.trans hfr2 (fun i hi => .inl hi), hown.mono (fun k _ h => Nat.le_trans hfr.size h), hc2⟩
  · have hR : curText most X e = ([], X, e) := by simp [curText, he]
    have hN := curNum_any 1099511627776 w h
    rw [show curNum 1099511627776 X e = (0, X, e) by simp [curNum, he]] at hN
    rw [hR]
    have HN := Lib.hid hN
    clear hN hR
    go_enter Tryz.func98, Tryz.ntmps98
    go_wp2_with (first
      | (go_at_call 94; refine HN.out.mono ?_; rintro e w1 ⟨rfl, hfr, hc1⟩)
      | (go_at_call 129; refine (whole_no _ (by assumption) he).mono ?_; rintro e w' ⟨rfl, rfl⟩))
    go_ret
    exact ⟨_, rfl, hfr, OwnB.nil _ _, hc1⟩
def curLeft (X : List UInt8) (e : Int) : Int := if e = 0 then X.length else 0
theorem curLeft_any {F : Nat → Prop} {b : Nat} {X : List UInt8} {e : Int} (w : World) (h : CurAt F w b X e) :
    Calls Tryz.prog 97 #[.pointer (some ⟨b, 0, none⟩)] w fun r w' => r = .returned (.int .i64 (curLeft X e)) ∧ w = w' := by
  by_cases he : e = 0
  · subst he
    obtain ⟨v, c0, c1, c2, f0, f1, hb⟩ := h.facts
    obtain ⟨ao, cap, rfl, hl, hm, _⟩ := hb
    have hR : curLeft X 0 = X.length := rfl
    rw [hR]
    clear hR
    go_enter Tryz.func97, Tryz.ntmps97
    go_wp2_with (go_at_call 129; refine (whole_yes _ h).mono ?_; rintro e w' ⟨rfl, rfl⟩)
    go_ret
    exact ⟨rfl, rfl⟩
  · have hR : curLeft X e = 0 := by simp [curLeft, he]
    rw [hR]
    go_enter Tryz.func97, Tryz.ntmps97
    go_wp2_with (go_at_call 129; refine (whole_no _ h he).mono ?_; rintro e w' ⟨rfl, rfl⟩)
    go_ret
    exact ⟨rfl, rfl⟩
def curEnd (X : List UInt8) (e : Int) : Int := if e = 0 ∧ X ≠ [] then 4 else e
theorem curEnd_any {F : Nat → Prop} {b : Nat} {X : List UInt8} {e : Int} (w : World) (h : CurAt F w b X e) :
    Calls Tryz.prog 99 #[.pointer (some ⟨b, 0, none⟩)] w fun r w' => r = .returned (.int .i64 (curEnd X e)) ∧ w = w' := by
  obtain ⟨v, c0, c1, c2, f0, f1, hb⟩ := h.facts
  obtain ⟨ao, cap, rfl, hl, hm, _⟩ := hb
  by_cases he : e = 0
  · subst he
    have he' : ((0 : Int) == 0) = true := rfl
    by_cases hX : X = []
    · subst hX
      have hR : curEnd [] 0 = 0 := rfl
      rw [hR]
      clear hR
      go_enter Tryz.func99, Tryz.ntmps99
      go_wp2_with (go_at_call 133; refine (isCursor_any _ h).mono ?_; rintro e w' ⟨rfl, rfl⟩)
      go_ret
      exact ⟨rfl, rfl⟩
    · have hR : curEnd X 0 = 4 := by simp [curEnd, hX]
      rw [hR]
      have hp : 0 < X.length := List.length_pos_iff.2 hX
      clear hR hX
      go_enter Tryz.func99, Tryz.ntmps99
      go_wp2_with (go_at_call 133; refine (isCursor_any _ h).mono ?_; rintro e w' ⟨rfl, rfl⟩)
      go_ret
      exact ⟨rfl, rfl⟩
  · have hR : curEnd X e = e := by simp [curEnd, he]
    rw [hR]
    have he' : (e == 0) = false := by simpa using he
    clear he hR
    go_enter Tryz.func99, Tryz.ntmps99
    go_wp2_with (go_at_call 133; refine (isCursor_any _ h).mono ?_; rintro e w' ⟨rfl, rfl⟩)
    go_ret
    exact ⟨rfl, rfl⟩
end Go.Proofs.YtldgcoikbjbjeaaGreat
namespace Go.Proofs.YtldgcoikbjbjeaaGreat
open Go.RowKit Go.ChangeShapes
set_option linter.unusedVariables false
theorem cut4_sec (K : List UInt8) (q k n : Nat) (hn : n ≤ 64) : cut4 K (64 * q) (64 * k + n) = cut4 K (64 * q) (64 * k) ++ (secAt K (q + k)).take n := by
  rw [cut4, cut4, List.take_add, List.drop_drop, secAt, List.take_take, Nat.min_eq_left hn, Nat.mul_add]
theorem op_slice_hi5 (w : World) (g cap n : Nat) (hn : n ≤ 64) (hc : 64 ≤ cap) : (Instr.slice 43 (.slice (some ⟨g, 0, none⟩) 64 cap) none (some (.int .i64 (n : Int))) none).run Tryz.prog w = .ok (.slice (some ⟨g, 0, none⟩) n cap) w := by
  have hs : ∀ w, (sizeOf 5).run Tryz.prog w = .ok 1 w := fun w => by kernel_rfl
  have h : n ≤ cap := by omega
  simp [Instr.slice, run_underlying Tryz.underlying43, Instr.sliceBounds, run_sliceBound, hs, h, Addr.add]
def lenOf5 : Value → Nat
  | .slice _ n _ => n
  | _ => 0
def ReadPost (w : World) (L : List UInt8) (e : Ending) (w' : World) : Prop := ∃ v, e = .returned (.tuple #[v, .int .i64 0]) ∧ OwnB (fun k => w.heap.size ≤ k) w' v L ∧ Fr (fun _ => False) w w'
set_option maxRecDepth 100000 in
set_option maxHeartbeats 4000000 in
theorem lRead_any {D : Nat → Prop} (w : World) (g s q n : Nat) (dv : Dv) (hd : DevAt w D g s dv) (hup : dv.down = false) (hw : dv.waits = []) (hs : s ≤ 8192) (ho : 64 * q + n ≤ 64 * s) :
    Calls Tryz.prog 56 #[.pointer (some ⟨g, 0, none⟩), .int .i64 q, .int .i64 n] w (ReadPost w (cut4 dv.all (64 * q) n)) := by
  have hK := hd.right.all
  have HD := Lib.hid (And.intro hd (And.intro hK (And.intro hup hw)))
  have HO := Lib.hid ho
  have hq : q ≤ 8192 := by omega
  have hn : n ≤ 524288 := by omega
  clear hd hK hup hw ho
  go_enter Tryz.func56, Tryz.ntmps56
  go_wp2_with fail
  go_loopw [1, 8] (fun qv bv wr => ∃ (x k len : Nat), qv = .int .i64 x ∧ x ≤ 100000 ∧ len ≤ n ∧ (len < n → len = 64 * k) ∧ (∃ ao cap, bv = .slice ao len cap) ∧ Hid (x = q + k ∧ OwnB (fun j => w.heap.size ≤ j) wr bv (cut4 dv.all (64 * q) len) ∧ Fr (fun _ => False) w wr)) (fun _ bv _ => n - lenOf5 bv)
  case atStart => exact ⟨q, 0, 0, rfl, by omega, by omega, fun _ => rfl, ⟨none, 0, rfl⟩, Lib.hid ⟨rfl, by rw [cut4_zero]; exact OwnB.nil _ _, Fr.refl _ _⟩⟩
  case round =>
    obtain ⟨x, k, len, rfl, hx, hl, hlk, ⟨ao, cap, rfl⟩, hR⟩ := hrel
    by_cases hlt : len < n
    · have hlk' := hlk hlt
      have hxs : x < s := by have := hR.out.1; have := HO.out; omega
      obtain ⟨m, hm⟩ : ∃ m, m = min 64 (n - len) := ⟨_, rfl⟩
      have hrd := aRead wr g s dv (x : Int) (by rw [HD.out.2.2.2]; decide) (HD.out.1.keep hR.out.2.2 (fun _ _ _ h => h))
      rw [Dv.read_yes HD.out.2.2.1 HD.out.2.2.2 hxs] at hrd
      have hsl := secAt_length dv.all s x HD.out.2.1 hxs
      have hmb : m ≤ 64 := by omega
      have hcut : cut4 dv.all (64 * q) len ++ (secAt dv.all x).take m = cut4 dv.all (64 * q) (len + m) := by
        rw [hR.out.1, hlk', cut4_sec _ _ _ _ hmb]
      obtain ⟨S, hS⟩ : ∃ S, S = secAt dv.all x := ⟨_, rfl⟩
      rw [← hS] at hrd hsl hcut
      have hml : (S.take m).length = m := by rw [List.length_take]; omega
      have hLl : (cut4 dv.all (64 * q) len).length = len := cut4_length _ _ _ (by rw [HD.out.2.1]; have := HO.out; omega)
      have HRD := Lib.hid hrd
      have HSL := Lib.hid (And.intro hsl (And.intro hml (And.intro hcut hLl)))
      have HLN := Lib.hid (show (cut4 dv.all (64 * q) len).length + (S.take m).length ≤ 140737488355328 by rw [hLl, hml]; omega)
      have HM := Lib.hid (And.intro hm (And.intro hlk' hmb))
      have hx1 : (x : Int) + 1 ≤ 200000 := by omega
      clear hsl hml hcut hLl hS hlk hrd
      obtain ⟨t, ht⟩ : ∃ t, t = n - len := ⟨_, rfl⟩
      have hti : (n : Int) - (len : Int) = (t : Int) := by omega
      have hmin : min (64 : Int) (t : Int) = (m : Int) := by omega
      clear hm hmb hlk' ht
      go_wp2_with (first
        | (go_at_call 53; refine HRD.out.mono ?_; rintro e w1 ⟨v, rfl, ht, hf1⟩; (have HT := Lib.hid ht.bytes); obtain ⟨g1, T, C, capr, rfl, hg1, hC, hCs, hc64, hcm, hCL⟩ := ht.block HSL.out.1; (have hsl5 := fun W : World => op_slice_hi5 W g1 capr m HM.out.2.2 hc64); (have HB5 := Lib.hid (show BytesIn (fun j => wr.heap.size ≤ j) w1 (.slice (some ⟨g1, 0, none⟩) m capr) (S.take m) from ((HT.out.mono (fun _ _ h => h))).take m (by rw [HSL.out.1]; exact HM.out.2.2))); (have HO1 := Lib.hid (hR.out.2.1.keep hf1 (fun _ _ _ h => h))); (have HF1 := Lib.hid (hR.out.2.2.trans hf1 (fun _ h => h.elim))); clear ht hf1 hC hCs hcm hCL hg1)
        | (at_builtin; refine wpList_append_bytes (F := fun j => w.heap.size ≤ j) (G := fun j => wr.heap.size ≤ j) w1 rfl (.tmp 26) (.tmp 35) rfl (.slice ao len cap) (.slice (some ⟨g1, 0, none⟩) m capr) (cut4 dv.all (64 * q) len) (S.take m) rfl rfl HO1.out HB5.out HLN.out ?_; intro v5 w5 ho5 hg5 hn5; (have HS5 := Lib.hid (show OwnB (fun j => w.heap.size ≤ j) w5 v5 (cut4 dv.all (64 * q) (len + m)) by rw [← HSL.out.2.2.1]; exact ho5.mono (fun j _ h => h.elim id (fun h => Nat.le_trans HF1.out.size h)))); (have HF5 := Lib.hid (HF1.out.grown hg5 (fun j hj => .inr (HO1.out.2 j hj)))); obtain ⟨ao5, cap5, hv5⟩ := HS5.out.len; (have hle5 : (cut4 dv.all (64 * q) (len + m)).length = len + m := cut4_length _ _ _ (by rw [HD.out.2.1]; have := HO.out; have := HM.out.1; omega)); rw [hle5] at hv5; subst hv5; clear ho5 hg5 hn5 hle5))
      go_roundw
      case rel => exact ⟨x + 1, k + 1, len + m, by go_num, by omega, by have := HM.out.1; omega, fun h => by have := HM.out.1; have := HM.out.2.1; omega, ⟨ao5, cap5, rfl⟩, Lib.hid ⟨by rw [hR.out.1, Nat.add_assoc], HS5.out, HF5.out⟩⟩
      case measure => simp only [lenOf5]; have := HM.out.1; omega
    · obtain rfl : len = n := by omega
      have HQ := Lib.hid hR.out.2
      clear hR hlk
      go_wp2
      go_ret2
      unfold ReadPost
      exact ⟨_, rfl, HQ.out.1, HQ.out.2⟩
end Go.Proofs.YtldgcoikbjbjeaaGreat
namespace Go.Proofs.YtldgcoikbjbjeaaGreat
open Go.RowKit Go.ChangeShapes
set_option linter.unusedVariables false
theorem curText_rec (most : Int) (r X : List UInt8) (hm : (r.length : Int) ≤ most) (hr : r.length ≤ 1048576) : curText most (recB r ++ X) 0 = (r, X, 0) := by
  have e : numOf (recB r ++ X) = some (r.length, (numBytes 5 r.length).length) := by
    rw [recB, List.append_assoc]
    exact numOf_bytes _ _ (by omega)
  have h1 : numS (recB r ++ X) = (numBytes 5 r.length).length := by unfold numS; rw [e]; rfl
  have h2 : numV (recB r ++ X) = r.length := by unfold numV; rw [e]; rfl
  have h3 := (numBytes_len 5 r.length).1
  rw [curText, if_pos rfl, h1, h2, if_neg (by omega), if_neg (by omega), if_neg (by omega), recB, List.append_assoc, List.drop_left', curRaw, if_pos rfl, if_neg (by rw [List.length_append]; omega)]
  · simp
  · rfl
theorem MadeAt.keepS {S : Nat → Prop} {z : Nat} {w w' : World} {v : Value} {P : List (List UInt8)} (h : MadeAt z w v P) (hf : Fr S w w') (hS : ∀ k, z ≤ k → ¬ S k) : MadeAt z w' v P := by
  obtain ⟨vs, hl, ho, hi⟩ := h
  refine ⟨vs, hl, ownsRow_keep ho hf (fun g hg => hS g ?_), fun i h1 h2 => (hi i h1 h2).keep hf (fun k _ hk => hS k hk.1)⟩
  rcases ho.2 with ⟨rfl, _⟩ | ⟨g', cap, cur, rfl, hb, _⟩
  · simp [Value.ownBlock] at hg
  · simp only [Value.ownBlock, Option.some.injEq] at hg
    omega
theorem MadeAt.own {z : Nat} {w : World} {v : Value} {P : List (List UInt8)} (h : MadeAt z w v P) : ∀ k, v.ownBlock = some k → z ≤ k ∧ k < w.heap.size := by
  obtain ⟨vs, hl, ho, hi⟩ := h
  exact fun k hk => ho.lt k hk
theorem CurAt.mono {F G : Nat → Prop} {w : World} {b : Nat} {X : List UInt8} {e : Int} (h : CurAt F w b X e) (hd : ∀ k, k < w.heap.size → F k → G k) (hb : ¬ G b) : CurAt G w b X e := by
  obtain ⟨v, h1, h2, h3⟩ := h
  exact ⟨v, h1, h2.mono hd, hb⟩
theorem recsB_length_le (R : List (List UInt8)) (r : List UInt8) (h : r ∈ R) : r.length + 1 ≤ (recsB R).length := by
  induction R with
  | nil => cases h
  | cons a R ih =>
    have h1 := recB_pos a
    rw [recsB_cons, List.length_append]
    rcases List.mem_cons.1 h with rfl | h
    · have := (numBytes_len 5 r.length).1
      rw [recB, List.length_append]
      omega
    · have := ih h
      omega
theorem recsB_count (R : List (List UInt8)) : R.length ≤ (recsB R).length := by
  induction R with
  | nil => simp
  | cons a R ih =>
    have h1 := recB_pos a
    rw [recsB_cons, List.length_append, List.length_cons]
    omega
def RecsPost (w : World) (R : List (List UInt8)) (e : Ending) (w' : World) : Prop := ∃ v, e = .returned (.tuple #[v, .int .i64 0]) ∧ RowsIn (fun k => k < w'.heap.size) w' v R ∧ Fr (fun _ => False) w w'
set_option maxRecDepth 100000 in
set_option maxHeartbeats 4000000 in
theorem lRecords_any {G : Nat → Prop} (w : World) (vb : Value) (R : List (List UInt8)) (hb : BytesIn G w vb (recsB R)) (hl : (recsB R).length ≤ 1000000) :
    Calls Tryz.prog 57 #[vb] w (RecsPost w R) := by
  obtain ⟨ab, cb, hvb, _⟩ := id hb
  subst hvb
  have hov := over_any w hb (by omega)
  obtain ⟨lb, hlb⟩ : ∃ lb, lb = (recsB R).length := ⟨_, rfl⟩
  have hcn := recsB_count R
  rw [← hlb] at hov hl hcn ⊢
  have HOV := Lib.hid hov
  have HL := Lib.hid hlb
  obtain ⟨n, hn⟩ : ∃ n, n = R.length := ⟨_, rfl⟩
  rw [← hn] at hcn
  have HN := Lib.hid hn
  clear hb hov hlb hn
  go_enter Tryz.func57, Tryz.ntmps57
  go_wp2_with (go_at_call 93; refine HOV.out.mono ?_; rintro e w1 ⟨b, rfl, hf1, hb1, hc1⟩; (have H1 := Lib.hid (And.intro hf1 (And.intro hb1 hc1))); clear hf1 hb1 hc1)
  have hbz : b < w1.heap.size := by obtain ⟨_, h, _⟩ := H1.out.2.2; exact lt_of_block h
  have HZ := Lib.hid hbz
  have H0 := Lib.hid (show MadeAt w1.heap.size w1 (.slice none 0 0) (R.take 0) ∧ CurAt (fun k => k < w1.heap.size ∧ k ≠ b) w1 b (recsB (R.drop 0)) 0 ∧ Fr (fun _ => False) w w1 ∧ w1.heap.size ≤ w1.heap.size from ⟨MadeAt.nil _ _, H1.out.2.2.mono (fun k hk h => ⟨hk, h.2⟩) (fun h => h.2 rfl), H1.out.1, Nat.le_refl _⟩)
  clear hbz
  go_loopw [4] (fun lv wr => ∃ (k : Nat), k ≤ n ∧ (∃ ao cap, lv = .slice ao k cap) ∧ Hid (MadeAt w1.heap.size wr lv (R.take k) ∧ CurAt (fun k => k < w1.heap.size ∧ k ≠ b) wr b (recsB (R.drop k)) 0 ∧ Fr (fun _ => False) w wr ∧ w1.heap.size ≤ wr.heap.size)) (fun lv _ => n - lenOf5 lv)
  case atStart => exact ⟨0, by omega, ⟨none, 0, rfl⟩, H0⟩
  case round =>
    obtain ⟨k, hk, ⟨ao, cap, rfl⟩, hR⟩ := hrel
    clear H0
    have hle := curLeft_any wr hR.out.2.1
    have hen := curEnd_any wr hR.out.2.1
    by_cases hlt : k < n
    · have hkR : k < R.length := by rw [← HN.out]; exact hlt
      obtain ⟨r, hr⟩ : ∃ r, r = R[k] := ⟨_, rfl⟩
      have hdr : recsB (R.drop k) = recB r ++ recsB (R.drop (k + 1)) := by rw [List.drop_eq_getElem_cons hkR, recsB_cons, ← hr]
      have hrl : r.length + 1 ≤ lb := by rw [HL.out]; exact recsB_length_le R r (by rw [hr]; exact List.getElem_mem _)
      have htx := curText_any (lb : Int) wr hR.out.2.1 (by
        rw [hdr, List.length_append]
        have h1 : (recsB R).length = (recsB (R.take k)).length + (recsB (R.drop k)).length := by
          conv => lhs; rw [← List.take_append_drop k R]
          simp only [recsB, List.map_append, List.flatten_append, List.length_append]
        rw [hdr, List.length_append, ← HL.out] at h1
        omega)
      rw [hdr, curText_rec _ _ _ (by omega) (by omega)] at htx
      rw [hdr, curLeft, if_pos rfl] at hle
      obtain ⟨m, hm⟩ : ∃ m, m = (recB r ++ recsB (R.drop (k + 1))).length := ⟨_, rfl⟩
      rw [← hm] at hle
      have hm0 : 0 < m := by have := recB_pos r; rw [hm, List.length_append]; omega
      have HTX := Lib.hid htx
      have HLE := Lib.hid hle
      have HR := Lib.hid (show R.take (k + 1) = R.take k ++ [r] by rw [List.take_succ_eq_append_getElem hkR, hr])
      have HKL := Lib.hid (show (R.take k).length = k by rw [List.length_take]; omega)
      clear htx hle hen hm hr hdr hkR hrl
      go_wp2_with (first
        | (go_at_call 97; refine HLE.out.mono ?_; rintro e w2 ⟨rfl, rfl⟩)
        | (go_at_call 98; refine HTX.out.mono ?_; rintro e w3 ⟨y, rfl, hf3, ho3, hc3⟩; obtain ⟨ay, cy, rfl⟩ := ho3.len; obtain ⟨vs, hvl, hvo, hvi⟩ := hR.out.1.keepS hf3 (fun j hj e => by have := HZ.out; have e' : j = b := e; omega); (have hv3 := hR.out.1.own); (have H3 := Lib.hid (And.intro hf3 (And.intro ho3 (And.intro hc3 (And.intro hvl (And.intro hvo (And.intro hvi hv3))))))); clear hf3 ho3 hc3 hvl hvo hvi hv3)
        | (at_builtin; refine wpList_append_val w1.heap.size (w3.alloc (.cells #[.slice ay r.length cy] 43)) rfl (.tmp 11) (.tmp 16) rfl (.slice ao k cap) (.slice ay r.length cy) vs w3.heap.size rfl rfl (ownsRow_keep (by have h := H3.out.2.2.2.2.1; rw [← H3.out.2.2.2.1] at h; exact h) ((Fr.refl (fun _ => False) w3).alloc _) (fun _ _ h => h)) (cell_of_one (heap_alloc_new w3 _)) rfl (by rw [H3.out.2.2.2.1, HKL.out]; omega) (by have := hR.out.2.2.2; have := H3.out.1.size; simp; omega) ?_; intro v5 w5 ho5 hg5 hb5; (have H5 := Lib.hid (MadeAt.snoc H3.out.2.2.2.1 H3.out.2.2.2.2.2.1 ((Fr.refl (fun _ => False) w3).alloc _) (((H3.out.2.1.bytes.mono (G := fun j => w1.heap.size ≤ j ∧ (Value.slice ao k cap).ownBlock ≠ some j) (fun j hj h => ⟨by have := hR.out.2.2.2; omega, fun e => by have := H3.out.2.2.2.2.2.2 j e; omega⟩))).keep (S := fun _ => False) ((Fr.refl _ w3).alloc _) (fun _ _ _ h => h)) ho5 hg5 hb5)); (have HG5 := Lib.hid hg5); (have hn5 : vs.length + 1 = k + 1 := by rw [H3.out.2.2.2.1, HKL.out]); (obtain ⟨a5, c5, rfl, _⟩ := ownsRow_form5 ho5); rw [hn5] at H5 ⊢; clear ho5 hg5 hb5 hn5))
      go_roundw
      case rel =>
        have hfb : Fr (fun j => (Value.slice ao k cap).ownBlock = some j) w3 w5 := (((Fr.refl _ w3).alloc _)).grown HG5.out (fun j hj => .inl hj)
        refine ⟨k + 1, by omega, ⟨a5, c5, rfl⟩, Lib.hid ⟨by rw [HR.out]; exact H5.out, H3.out.2.2.1.keep hfb (fun e => ?_) (fun j _ h1 e => ?_), (hR.out.2.2.1.trans (T := fun j => j = b) H3.out.1 (fun j e => .inr ?_)).trans hfb (fun j e => .inr ?_), ?_⟩⟩
        · have := (H3.out.2.2.2.2.2.2 b e).1
          have := HZ.out
          omega
        · have := (H3.out.2.2.2.2.2.2 j e).1
          omega
        · have e' : j = b := e
          have := H1.out.2.1
          omega
        · have := (H3.out.2.2.2.2.2.2 j e).1
          have := H1.out.1.size
          omega
        · have := hR.out.2.2.2
          have := H3.out.1.size
          have := hfb.size
          omega
      case measure => simp only [lenOf5]; omega
    · obtain rfl : k = n := by omega
      have h0 : R.drop k = [] := List.drop_of_length_le (by rw [← HN.out]; exact Nat.le_refl _)
      have h1 : R.take k = R := List.take_of_length_le (by rw [← HN.out]; exact Nat.le_refl _)
      rw [h0] at hle hen
      have HQ := Lib.hid (show RowsIn (fun j => j < wr.heap.size) wr (.slice ao k cap) R ∧ Fr (fun _ => False) w wr by
        have h := hR.out.1
        rw [h1] at h
        refine ⟨h.rows (fun X hX => ?_), hR.out.2.2.1⟩
        have := recsB_length_le R X hX
        have := HL.out
        omega)
      have hle2 : curLeft (recsB []) 0 = 0 := rfl
      have hen2 : curEnd (recsB []) 0 = 0 := rfl
      rw [hle2] at hle
      rw [hen2] at hen
      have HLE := Lib.hid hle
      have HEN := Lib.hid hen
      clear hR h0 h1 hle hen hle2 hen2
      go_wp2_with (first
        | (go_at_call 97; refine HLE.out.mono ?_; rintro e w2 ⟨rfl, rfl⟩)
        | (go_at_call 99; refine HEN.out.mono ?_; rintro e w2 ⟨rfl, rfl⟩))
      go_ret2
      unfold RecsPost
      exact ⟨_, rfl, HQ.out⟩
end Go.Proofs.YtldgcoikbjbjeaaGreat
namespace Go.Proofs.YtldgcoikbjbjeaaGreat
open Go.RowKit Go.ChangeShapes
set_option linter.unusedVariables false
theorem run_bytes_str {F : Nat → Prop} (w : World) (v : Value) (L : List UInt8) (h : BytesIn F w v L) : (convert 43 9 v).run Tryz.prog w = .ok (.string ⟨L.toArray⟩) w := by
  obtain ⟨ao, cap, rfl, h1, h2, h3, h4⟩ := h
  cases ao with
  | none =>
    obtain rfl := h3 rfl
    obtain rfl : L = [] := List.eq_nil_of_length_eq_zero (by omega)
    exact Lib.run_convert_nil_bytes w 43 9 5 0 Tryz.underlying43 Tryz.underlying5 Tryz.underlying9
  | some a =>
    refine run_convert_bytes_back w 43 9 5 a cap L Tryz.underlying43 Tryz.underlying5 Tryz.underlying9 (fun j hj => ?_)
    exact (h4 a rfl).1 j _ (by rw [List.getElem?_map, List.getElem?_eq_getElem hj]; rfl)
end Go.Proofs.YtldgcoikbjbjeaaGreat
