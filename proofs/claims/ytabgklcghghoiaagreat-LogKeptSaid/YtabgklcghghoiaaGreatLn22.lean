/- Laid together by merge.py: JSwitch JOpen -/
import Derived.Test.YtabgklcghghoiaaGreatLn21
import Derived.Test.YtabgklcghghoiaaGreatLn18

/- Contract: log's own journal: Switch. Printed by gen_jappend.py (wip/gen). -/
namespace Go.Proofs.YtabgklcghghoiaaGreat
open Go.RowKit Go.ChangeShapes
set_option linter.unusedVariables false

def SwiR (jn gh x1 x2 x3 x4 y1 y2 y4 l la d m lb cb : Nat) (ab : Option Addr) (i : Nat) (v : Value) (W : World) : Prop :=
  match i with
  | 0 => v = .pointer (some ⟨jn, 0, none⟩)
  | 1 => v = .pointer (some ⟨jn, 0, none⟩)
  | 2 => v = .pointer (some ⟨jn, 0, none⟩)
  | 3 => v = .pointer (some ⟨jn, 5, none⟩)
  | 4 => v = .agg #[.int .i64 (l : Nat), .int .i64 (la : Nat), .int .i64 (d : Nat)]
  | 5 => v = .pointer (some ⟨gh, 0, none⟩)
  | 6 => v = .int .i64 (y1 : Nat)
  | 7 => v = .int .i64 (m : Nat)
  | 8 => v = .int .i64 ((64 * m : Nat) : Int)
  | 9 => v = .slice ab lb cb
  | 10 => v = .agg #[.int .i64 (y1 : Nat), .int .i64 (y2 : Nat), .int .i64 0, .int .i64 (y4 : Nat)]
  | _ => True
theorem SwiR.ext (jn gh x1 x2 x3 x4 y1 y2 y4 l la d m lb cb : Nat) (ab : Option Addr) : ∀ (j : Nat) (u : Value) (W W' : World), Fr (fun _ => False) W W' → SwiR jn gh x1 x2 x3 x4 y1 y2 y4 l la d m lb cb ab j u W → SwiR jn gh x1 x2 x3 x4 y1 y2 y4 l la d m lb cb ab j u W'
  | 0, u, W, W', hf, h => h
  | 1, u, W, W', hf, h => h
  | 2, u, W, W', hf, h => h
  | 3, u, W, W', hf, h => h
  | 4, u, W, W', hf, h => h
  | 5, u, W, W', hf, h => h
  | 6, u, W, W', hf, h => h
  | 7, u, W, W', hf, h => h
  | 8, u, W, W', hf, h => h
  | 9, u, W, W', hf, h => h
  | 10, u, W, W', hf, h => h
  | _ + 11, u, W, W', hf, h => trivial
set_option maxRecDepth 100000 in
set_option maxHeartbeats 4000000 in
theorem jSwitch_long {D G : Nat → Prop} (w : World) (jn g s l la d : Nat) (h : Hd) (vb : Value) (X : List UInt8) (hl : l ≤ 8192) (hla2 : la ≤ 8192) (hr : h.Right l la) (hj : JnAt w jn g h l la d false) (hb : BytesIn G w vb X) (hc1 : 64 * la < X.length) :
    Calls Tryz.prog 20 #[.pointer (some ⟨jn, 0, none⟩), vb] w fun e w' => e = .returned (.int .i64 3) ∧ Fr (fun _ => False) w w' := by
  have hc := jReady_any w jn g h l la d false hj
  have HJ := Lib.hid hj
  have HJR := Lib.hid hj
  unfold JnAt at HJR
  obtain ⟨ab, cb, hvb, _⟩ := id hb
  subst hvb
  obtain ⟨lb, hlb⟩ : ∃ lb, lb = X.length := ⟨_, rfl⟩
  obtain ⟨c0, c1, c2, c3, c4, c5, c6, c7, c8, c9⟩ := hj.cells
  have hgt : (la : Int) * 64 < (lb : Int) := by omega
  rw [← hlb]
  clear hj hb hr hc1 hlb
  go_enter Tryz.func20, Tryz.ntmps20
  go_wp2_with (go_at_call 41; refine hc.mono ?_; rintro e w1 ⟨rfl, rfl⟩)
  go_ret
  exact ⟨rfl, Fr.refl _ _⟩
set_option maxRecDepth 100000 in
set_option maxHeartbeats 4000000 in
theorem jSwitch_yes {D G : Nat → Prop} (w : World) (jn g s l la d : Nat) (h : Hd) (vb : Value) (X : List UInt8) (hl : l ≤ 8192) (hla2 : la ≤ 8192) (hr : h.Right l la) (hj : JnAt w jn g h l la d false) (hb : BytesIn G w vb X) (hc1 : X.length ≤ 64 * la) (dv : Dv) (hc2 : h.round < 1099511627776) (hjD : ¬ D jn) (hd : DevAt w D g s dv) (hup : dv.down = false) (hw : dv.waits = []) (hs : s ≤ 8192) (ho : 1 + l + 2 * la ≤ s) (hk6 : dv.deeds ≤ 900000000) :
    Calls Tryz.prog 20 #[.pointer (some ⟨jn, 0, none⟩), vb] w (StepPost D w jn g s l la d h ⟨1 - h.area, X.length, 0, h.round + 1⟩ (dv.commit s (secsAt dv.all (areaAt l la (1 - h.area)) X) (Hd.sec ⟨1 - h.area, X.length, 0, h.round + 1⟩))) := by
  have hc := jReady_any w jn g h l la d false hj
  have HJ := Lib.hid hj
  have HJR := Lib.hid hj
  unfold JnAt at HJR
  obtain ⟨ab, cb, hvb, _⟩ := id hb
  subst hvb
  obtain ⟨lb, hlb⟩ : ∃ lb, lb = X.length := ⟨_, rfl⟩
  obtain ⟨c0, c1, c2, c3, c4, c5, c6, c7, c8, c9⟩ := hj.cells
  obtain ⟨x1, hx1⟩ : ∃ x, x = h.area := ⟨_, rfl⟩
  obtain ⟨x2, hx2⟩ : ∃ x, x = h.size := ⟨_, rfl⟩
  obtain ⟨x3, hx3⟩ : ∃ x, x = h.used := ⟨_, rfl⟩
  obtain ⟨x4, hx4⟩ : ∃ x, x = h.round := ⟨_, rfl⟩
  have HX := Lib.hid (And.intro hx1 (And.intro hx2 (And.intro hx3 hx4)))
  have hla := fun W => lLast_any W h false (by rw [decide_eq_false_iff_not]; omega)
  have hgt : ¬ (la : Int) * 64 < (lb : Int) := by omega
  have hnum : Hd.Num ⟨1 - h.area, X.length, 0, h.round + 1⟩ := ⟨by simp only; omega, by simp only; omega, Nat.zero_le _, by simp only; omega⟩
  have harea : h.area ≤ 1 := hr.area
  have hoa : areaAt l la (1 - h.area) + X.length ≤ 64 * s := area_in ho (by omega) hc1
  have hst := fun (Wa : World) (hf : Fr (fun _ => False) w Wa) => jStep_any (D := D) Wa jn g s l la d (areaAt l la (1 - h.area)) h ⟨1 - h.area, X.length, 0, h.round + 1⟩ (.slice ab X.length cb) X dv (hj.keep hf id) hjD (hd.keep hf (fun _ _ _ h => h)) hup hw hs hoa ((hb.mono (G := fun k => True) (fun _ _ _ => trivial)).keep hf (fun _ _ _ h => h)) hnum hk6
  obtain ⟨r, hrr⟩ : ∃ r, r = dv.commit s (secsAt dv.all (areaAt l la (1 - h.area)) X) (Hd.sec ⟨1 - h.area, X.length, 0, h.round + 1⟩) := ⟨_, rfl⟩
  obtain ⟨y1, hy1⟩ : ∃ y, y = 1 - h.area := ⟨_, rfl⟩
  obtain ⟨y4, hy4⟩ : ∃ y, y = h.round + 1 := ⟨_, rfl⟩
  obtain ⟨m, hm⟩ : ∃ m, m = 1 + l + y1 * la := ⟨_, rfl⟩
  have ham : areaAt l la (1 - h.area) = 64 * m := by rw [hm, hy1]; rfl
  rw [← hrr] at hst ⊢
  simp only at hst
  rw [ham, ← hlb, ← hy1, ← hy4] at hst
  have HST := Lib.hid hst
  have HRR := Lib.hid (And.intro hy1 (And.intro hy4 hlb))
  rw [← hlb, ← hy1, ← hy4]
  have hsw := fun W => lSwitched_any W x1 x2 x3 x4 lb (by rw [hx1]; exact harea) (by rw [hx4]; omega) (by omega)
  rw [show 1 - x1 = y1 by rw [hx1, hy1], show x4 + 1 = y4 by rw [hx4, hy4]] at hsw
  have HSW := Lib.hid hsw
  have har := fun W => lArea_any W l la d y1 hl hla2 (by omega)
  rw [← hm] at har
  have HAR := Lib.hid har
  have HMB := Lib.hid (show m ≤ 100000 by
    have : y1 * la ≤ 1 * 8192 := Nat.mul_le_mul (by omega) hla2
    omega)
  rw [← hx1, ← hx2, ← hx3, ← hx4] at hla HJR
  rw [← hx1] at c0
  rw [← hx2] at c1
  rw [← hx3] at c2
  rw [← hx4] at c3
  have HLA := Lib.hid hla
  clear hst hjD hd hup hw hs ho hk6 hnum hrr hj hb hr hc1 hlb hla har hsw hm ham hoa hy1 hy4 hx1 hx2 hx3 hx4 hc2 harea
  go_enter Tryz.func20, Tryz.ntmps20
  go_wp2_with (first
    | (go_at_call 41; refine hc.mono ?_; rintro e w1 ⟨rfl, rfl⟩)
    | (go_at_call 44; refine (HLA.out w).mono ?_; rintro e w2 ⟨rfl, hf2⟩; (have H2 := Lib.hid hf2); (have d0 := hf2.cell c0 id); (have d1 := hf2.cell c1 id); (have d2 := hf2.cell c2 id); (have d3 := hf2.cell c3 id); clear hf2)
    | (go_at_call 45; refine (HSW.out w2).mono ?_; rintro e w3 ⟨rfl, hf3⟩; (have H3 := Lib.hid (H2.out.trans hf3 (fun _ h => h.elim))); clear hf3))
  obtain ⟨W6, hW6⟩ : ∃ W6, W6 = w3.alloc (.cells #[.int .i64 y1, .int .i64 lb, .int .i64 0, .int .i64 y4] 71) := ⟨_, rfl⟩
  obtain ⟨gh, hgh⟩ : ∃ gh, gh = w3.heap.size := ⟨_, rfl⟩
  have H6 := Lib.hid (show Fr (fun _ => False) w W6 by rw [hW6]; exact H3.out.alloc _)
  have HG := Lib.hid (show W6.heap[gh]? = some (.cells #[.int .i64 y1, .int .i64 lb, .int .i64 0, .int .i64 y4] 71 (0, 0)) by rw [hW6, hgh]; exact heap_alloc_new w3 _)
  rw [← hW6, ← hgh]
  clear hW6 hgh
  have LDS := Lib.hid (fun W (hW : Fr (fun _ => False) W6 W) => load_shape5 W jn 5 _ _ _ (jn_shape (hW.heap (H6.out.heap HJR.out id) id)))
  have LDY := Lib.hid (fun W (hW : Fr (fun _ => False) W6 W) => load_int5 W ⟨gh, 0, none⟩ (.int .i64 y1) (cell_of_row _ _ _ _ _ _ (hW.heap HG.out id)))
  have LDG := Lib.hid (fun W (hW : Fr (fun _ => False) W6 W) => load_head5 W gh 0 _ _ _ _ (range_row5 (hW.heap HG.out id)))
  refine wp_region_inv 11 (by kernel_rfl) (by kernel_rfl) (fun W => Fr (fun _ => False) W6 W) (SwiR jn gh x1 x2 x3 x4 y1 lb y4 l la d m lb cb ab) (fun _ _ _ _ => True) (Fr (fun _ => False)) (SwiR.ext jn gh x1 x2 x3 x4 y1 lb y4 l la d m lb cb ab) (Fr.refl _ _).drew ?_ ?_
  · intro i hi o ho
    replace hi : i < 11 := hi
    obtain rfl | rfl | rfl | rfl | rfl | rfl | rfl | rfl | rfl | rfl | rfl : i = 0 ∨ i = 1 ∨ i = 2 ∨ i = 3 ∨ i = 4 ∨ i = 5 ∨ i = 6 ∨ i = 7 ∨ i = 8 ∨ i = 9 ∨ i = 10 := by omega
    · simp only [List.getElem?_cons_zero, Option.some.injEq] at ho
      subst ho
      intro a W vs hB hS hE hU
      refine wpG_plain rfl ?_
      have v0 : a.eval (.tmp 0) = .pointer (some ⟨jn, 0, none⟩) := (hU 0 (by kernel_rfl)).trans rfl
      clear hE hU
      exact wp_value_inv (w' := W) (.pointer (some ⟨jn, 0, none⟩)) (op_move rfl v0) ⟨_, rfl, hB, Fr.refl _ _, rfl, fun _ _ _ _ _ => trivial⟩
    · simp only [List.getElem?_cons_zero, List.getElem?_cons_succ, Option.some.injEq] at ho
      subst ho
      intro a W vs hB hS hE hU
      refine wpG_plain rfl ?_
      have v0 : a.eval (.tmp 0) = .pointer (some ⟨jn, 0, none⟩) := (hU 0 (by kernel_rfl)).trans rfl
      clear hE hU
      exact wp_value_inv (w' := W) (.pointer (some ⟨jn, 0, none⟩)) (op_move rfl v0) ⟨_, rfl, hB, Fr.refl _ _, rfl, fun _ _ _ _ _ => trivial⟩
    · simp only [List.getElem?_cons_zero, List.getElem?_cons_succ, Option.some.injEq] at ho
      subst ho
      intro a W vs hB hS hE hU
      refine wpG_plain rfl ?_
      obtain ⟨r1, e36⟩ := hE 1 36 (by kernel_rfl) (by kernel_rfl)
      have v36 : a.eval (.tmp 36) = .pointer (some ⟨jn, 0, none⟩) := e36.trans r1
      clear hE hU
      exact wp_value_inv (w' := W) (.pointer (some ⟨jn, 0, none⟩)) (op_nilCheck rfl v36) ⟨_, rfl, hB, Fr.refl _ _, rfl, fun _ _ _ _ _ => trivial⟩
    · simp only [List.getElem?_cons_zero, List.getElem?_cons_succ, Option.some.injEq] at ho
      subst ho
      intro a W vs hB hS hE hU
      refine wpG_plain rfl ?_
      obtain ⟨r2, e37⟩ := hE 2 37 (by kernel_rfl) (by kernel_rfl)
      have v37 : a.eval (.tmp 37) = .pointer (some ⟨jn, 0, none⟩) := e37.trans r2
      clear hE hU
      exact wp_value_inv (w' := W) (.pointer (some ⟨jn, 5, none⟩)) (op_fieldAddr rfl v37 (fld_spence_log_Journal_2_0 W jn)) ⟨_, rfl, hB, Fr.refl _ _, rfl, fun _ _ _ _ _ => trivial⟩
    · simp only [List.getElem?_cons_zero, List.getElem?_cons_succ, Option.some.injEq] at ho
      subst ho
      intro a W vs hB hS hE hU
      refine wpG_plain rfl ?_
      obtain ⟨r3, e38⟩ := hE 3 38 (by kernel_rfl) (by kernel_rfl)
      have v38 : a.eval (.tmp 38) = .pointer (some ⟨jn, 5, none⟩) := e38.trans r3
      clear hE hU
      exact wp_value_inv (w' := W) (.agg #[.int .i64 (l : Nat), .int .i64 (la : Nat), .int .i64 (d : Nat)]) (op_loadAt rfl v38 (LDS.out W hB)) ⟨_, rfl, hB, Fr.refl _ _, rfl, fun _ _ _ _ _ => trivial⟩
    · simp only [List.getElem?_cons_zero, List.getElem?_cons_succ, Option.some.injEq] at ho
      subst ho
      intro a W vs hB hS hE hU
      refine wpG_plain rfl ?_
      have v6 : a.eval (.tmp 6) = .pointer (some ⟨gh, 0, none⟩) := (hU 6 (by kernel_rfl)).trans rfl
      clear hE hU
      exact wp_value_inv (w' := W) (.pointer (some ⟨gh, 0, none⟩)) (op_fieldAddr rfl v6 (fld_spence_log_head_0_0 W gh)) ⟨_, rfl, hB, Fr.refl _ _, rfl, fun _ _ _ _ _ => trivial⟩
    · simp only [List.getElem?_cons_zero, List.getElem?_cons_succ, Option.some.injEq] at ho
      subst ho
      intro a W vs hB hS hE hU
      refine wpG_plain rfl ?_
      obtain ⟨r5, e40⟩ := hE 5 40 (by kernel_rfl) (by kernel_rfl)
      have v40 : a.eval (.tmp 40) = .pointer (some ⟨gh, 0, none⟩) := e40.trans r5
      clear hE hU
      exact wp_value_inv (w' := W) (.int .i64 (y1 : Nat)) (op_loadAt rfl v40 (LDY.out W hB)) ⟨_, rfl, hB, Fr.refl _ _, rfl, fun _ _ _ _ _ => trivial⟩
    · simp only [List.getElem?_cons_zero, List.getElem?_cons_succ, Option.some.injEq] at ho
      subst ho
      intro a W vs hB hS hE hU
      refine wpG_plain rfl ?_
      obtain ⟨r4, e39⟩ := hE 4 39 (by kernel_rfl) (by kernel_rfl)
      have v39 : a.eval (.tmp 39) = .agg #[.int .i64 (l : Nat), .int .i64 (la : Nat), .int .i64 (d : Nat)] := e39.trans r4
      obtain ⟨r6, e41⟩ := hE 6 41 (by kernel_rfl) (by kernel_rfl)
      have v41 : a.eval (.tmp 41) = .int .i64 (y1 : Nat) := e41.trans r6
      clear hE hU
      refine wp_call_inv 47 #[.tmp 39, .tmp 41] #[23, 3] rfl #[.agg #[.int .i64 (l : Nat), .int .i64 (la : Nat), .int .i64 (d : Nat)], .int .i64 (y1 : Nat)] (by simp only [List.map_toArray, List.map_cons, List.map_nil, v39, v41]) (ent_spence_log_areaAt _) (Post := fun v W' => v = .int .i64 (m : Nat) ∧ Fr (fun _ => False) W W') ((HAR.out W).mono fun e w' h => ⟨_, h.1, rfl, h.2⟩) ?_
      rintro v W' ⟨rfl, hf⟩
      exact ⟨_, rfl, hB.trans hf (fun _ h => h.elim), hf, rfl, fun _ _ _ _ _ => trivial⟩
    · simp only [List.getElem?_cons_zero, List.getElem?_cons_succ, Option.some.injEq] at ho
      subst ho
      intro a W vs hB hS hE hU
      refine wpG_plain rfl ?_
      obtain ⟨r7, e42⟩ := hE 7 42 (by kernel_rfl) (by kernel_rfl)
      have v42 : a.eval (.tmp 42) = .int .i64 (m : Nat) := e42.trans r7
      clear hE hU
      exact wp_value_inv (w' := W) (.int .i64 ((64 * m : Nat) : Int)) (op_bin rfl v42 rfl (rfl) (mul_in5 (by push_cast; rw [Int.mul_comm]) (by omega) (by have := HMB.out; omega))) ⟨_, rfl, hB, Fr.refl _ _, rfl, fun _ _ _ _ _ => trivial⟩
    · simp only [List.getElem?_cons_zero, List.getElem?_cons_succ, Option.some.injEq] at ho
      subst ho
      intro a W vs hB hS hE hU
      refine wpG_plain rfl ?_
      have v1 : a.eval (.tmp 1) = .slice ab lb cb := (hU 1 (by kernel_rfl)).trans rfl
      clear hE hU
      exact wp_value_inv (w' := W) (.slice ab lb cb) (op_move rfl v1) ⟨_, rfl, hB, Fr.refl _ _, rfl, fun _ _ _ _ _ => trivial⟩
    · simp only [List.getElem?_cons_zero, List.getElem?_cons_succ, Option.some.injEq] at ho
      subst ho
      intro a W vs hB hS hE hU
      refine wpG_plain rfl ?_
      have v6 : a.eval (.tmp 6) = .pointer (some ⟨gh, 0, none⟩) := (hU 6 (by kernel_rfl)).trans rfl
      clear hE hU
      exact wp_value_inv (w' := W) (.agg #[.int .i64 (y1 : Nat), .int .i64 (lb : Nat), .int .i64 0, .int .i64 (y4 : Nat)]) (op_loadAt rfl v6 (LDG.out W hB)) ⟨_, rfl, hB, Fr.refl _ _, rfl, fun _ _ _ _ _ => trivial⟩
  · intro vs Wa hB0 hR0 hD
    have r35 : vs 0 = .pointer (some ⟨jn, 0, none⟩) := hR0 0 (by decide)
    have r43 : vs 8 = .int .i64 ((64 * m : Nat) : Int) := hR0 8 (by decide)
    have r44 : vs 9 = .slice ab lb cb := hR0 9 (by decide)
    have r45 : vs 10 = .agg #[.int .i64 (y1 : Nat), .int .i64 (lb : Nat), .int .i64 0, .int .i64 (y4 : Nat)] := hR0 10 (by decide)
    have HB := Lib.hid hB0
    clear hR0 hD hB0
    simp only [acts, if_true, dstAt, List.getElem?_cons_zero, List.getElem?_cons_succ, Option.bind_some, Act.put, List.setIfInBounds_toArray, List.set_cons_succ, List.set_cons_zero, List.drop_succ_cons]
    simp only [r35, r43, r44, r45]
    clear r35 r43 r44 r45
    go_wp2_with (go_at_call 46; refine (HST.out Wa (H6.out.trans HB.out (fun _ h => h.elim))).mono ?_; rintro e w8 hp8; (have H8 := Lib.hid (hp8.before (H6.out.trans HB.out (fun _ h => h.elim)))); (obtain ⟨e8, he8⟩ : ∃ e8, e8 = r.1 := ⟨_, rfl⟩); (have he9 : e = .returned (.int .i64 e8) := by rw [he8]; exact hp8.1); subst he9; (have HE8 := Lib.hid he8); clear hp8 he8)
    go_ret
    unfold StepPost at H8 ⊢
    exact ⟨by rw [HE8.out]; rfl, H8.out.2⟩
end Go.Proofs.YtabgklcghghoiaaGreat

/- Contracts: log's own journal: read, Area, Records; Format. Printed by gen_jopen.py (wip/gen). -/
namespace Go.Proofs.YtabgklcghghoiaaGreat
open Go.RowKit Go.ChangeShapes
set_option linter.unusedVariables false

abbrev tup5 (y : Value) : Value := .tuple #[y, .int .i64 0]
theorem op_extract5 {P : Program} {w : World} {o : Oper} {a : Act} {x : Operand} {i : Nat} {vs : Array Value} {v : Value} (ho : o.op = .extract x i) (hx : a.eval x = .tuple vs) (hv : vs[i]? = some v) : (execOp a.eval o).run P w = .ok (.value v) w := by
  unfold execOp
  rw [ho]
  simp only [hx, Instr.extract, hv]
  rfl
def AreR (jn x1 x2 l la d m z0 : Nat) (L5 : List UInt8) (i : Nat) (v : Value) (W : World) : Prop :=
  match i with
  | 0 => v = .pointer (some ⟨jn, 0, none⟩)
  | 1 => v = .pointer (some ⟨jn, 0, none⟩)
  | 2 => v = .pointer (some ⟨jn, 0, none⟩)
  | 3 => v = .pointer (some ⟨jn, 5, none⟩)
  | 4 => v = .agg #[.int .i64 (l : Nat), .int .i64 (la : Nat), .int .i64 (d : Nat)]
  | 5 => v = .pointer (some ⟨jn, 0, none⟩)
  | 6 => v = .pointer (some ⟨jn, 0, none⟩)
  | 7 => v = .pointer (some ⟨jn, 0, none⟩)
  | 8 => v = .pointer (some ⟨jn, 0, none⟩)
  | 9 => v = .int .i64 (x1 : Nat)
  | 10 => v = .int .i64 (m : Nat)
  | 11 => v = .pointer (some ⟨jn, 0, none⟩)
  | 12 => v = .pointer (some ⟨jn, 0, none⟩)
  | 13 => v = .pointer (some ⟨jn, 0, none⟩)
  | 14 => v = .pointer (some ⟨jn, 1, none⟩)
  | 15 => v = .int .i64 (x2 : Nat)
  | 16 => ∃ y, v = tup5 y ∧ OwnB (fun k => z0 ≤ k) W y L5
  | 17 => ∃ y, v = y ∧ OwnB (fun k => z0 ≤ k) W y L5
  | 18 => v = .int .i64 0
  | 19 => ∃ y, v = y ∧ OwnB (fun k => z0 ≤ k) W y L5
  | 20 => v = .int .i64 0
  | _ => True
theorem AreR.ext (jn x1 x2 l la d m z0 : Nat) (L5 : List UInt8) : ∀ (j : Nat) (u : Value) (W W' : World), Fr (fun _ => False) W W' → AreR jn x1 x2 l la d m z0 L5 j u W → AreR jn x1 x2 l la d m z0 L5 j u W'
  | 0, u, W, W', hf, h => h
  | 1, u, W, W', hf, h => h
  | 2, u, W, W', hf, h => h
  | 3, u, W, W', hf, h => h
  | 4, u, W, W', hf, h => h
  | 5, u, W, W', hf, h => h
  | 6, u, W, W', hf, h => h
  | 7, u, W, W', hf, h => h
  | 8, u, W, W', hf, h => h
  | 9, u, W, W', hf, h => h
  | 10, u, W, W', hf, h => h
  | 11, u, W, W', hf, h => h
  | 12, u, W, W', hf, h => h
  | 13, u, W, W', hf, h => h
  | 14, u, W, W', hf, h => h
  | 15, u, W, W', hf, h => h
  | 16, u, W, W', hf, h => (let ⟨y, h1, h2⟩ := h; ⟨y, h1, h2.keep hf (fun _ _ _ h => h)⟩)
  | 17, u, W, W', hf, h => (let ⟨y, h1, h2⟩ := h; ⟨y, h1, h2.keep hf (fun _ _ _ h => h)⟩)
  | 18, u, W, W', hf, h => h
  | 19, u, W, W', hf, h => (let ⟨y, h1, h2⟩ := h; ⟨y, h1, h2.keep hf (fun _ _ _ h => h)⟩)
  | 20, u, W, W', hf, h => h
  | _ + 21, u, W, W', hf, h => trivial

theorem jRead_any {D : Nat → Prop} (w : World) (jn g s l la d q n : Nat) (h : Hd) (dv : Dv) (hj : JnAt w jn g h l la d false) (hd : DevAt w D g s dv) (hup : dv.down = false) (hw : dv.waits = []) (hs : s ≤ 8192) (ho : 64 * q + n ≤ 64 * s) :
    Calls Tryz.prog 54 #[.pointer (some ⟨jn, 0, none⟩), .int .i64 q, .int .i64 n] w (ReadPost w (cut4 dv.all (64 * q) n)) := by
  have HRD := Lib.hid (lRead_any w g s q n dv hd hup hw hs ho)
  obtain ⟨_, _, _, _, c4, _⟩ := hj.cells
  clear hj hd hup hw ho
  go_enter Tryz.func54, Tryz.ntmps54
  go_wp2_with (first
    | (go_at_call 34; refine HRD.out.mono ?_; rintro e w1 ⟨v, rfl, ho1, hf1⟩; (have H1 := Lib.hid (And.intro ho1 hf1)); clear ho1 hf1)
    | (go_at_call 71; refine (jHeed_no w1 jn).mono ?_; rintro e w2 ⟨rfl, rfl⟩))
  go_ret2
  unfold ReadPost
  exact ⟨v, rfl, H1.out⟩

set_option maxRecDepth 100000 in
set_option maxHeartbeats 1000000 in
theorem jArea_any {D : Nat → Prop} (w : World) (jn g s l la d : Nat) (h : Hd) (dv : Dv) (hl : l ≤ 8192) (hla : la ≤ 8192) (hr : h.Right l la) (hj : JnAt w jn g h l la d false) (hd : DevAt w D g s dv) (hup : dv.down = false) (hw : dv.waits = []) (hs : s ≤ 8192) (ho : 1 + l + 2 * la ≤ s) :
    Calls Tryz.prog 38 #[.pointer (some ⟨jn, 0, none⟩)] w (ReadPost w (cut4 dv.all (areaAt l la h.area) h.size)) := by
  have hc := jReady_any w jn g h l la d false hj
  have ha1 := hr.area
  have hin := area_in ho ha1 hr.size
  obtain ⟨m, hm⟩ : ∃ m, m = 1 + l + h.area * la := ⟨_, rfl⟩
  have ham : areaAt l la h.area = 64 * m := by rw [hm]; rfl
  have har := fun W => lArea_any W l la d h.area hl hla (by omega)
  rw [← hm] at har
  rw [ham] at hin ⊢
  have hrd := fun (W : World) (hf : Fr (fun _ => False) w W) => jRead_any (D := D) W jn g s l la d m h.size h dv (hj.keep hf id) (hd.keep hf (fun _ _ _ h => h)) hup hw hs hin
  have HJ := Lib.hid hj
  unfold JnAt at HJ
  obtain ⟨x1, hx1⟩ : ∃ x, x = h.area := ⟨_, rfl⟩
  obtain ⟨x2, hx2⟩ : ∃ x, x = h.size := ⟨_, rfl⟩
  rw [← hx1] at har
  rw [← hx1, ← hx2] at HJ
  rw [← hx2] at hrd
  rw [← hx2]
  obtain ⟨L5, hL5⟩ : ∃ L5, L5 = cut4 dv.all (64 * m) x2 := ⟨_, rfl⟩
  rw [← hL5] at hrd ⊢
  obtain ⟨z0, hz0⟩ : ∃ z0, z0 = w.heap.size := ⟨_, rfl⟩
  have HZ0 := Lib.hid hz0
  have HAR := Lib.hid har
  have HRD := Lib.hid hrd
  clear hr hj hd hup hw hs ho ha1 hin hm ham har hrd hx1 hx2 hL5 hz0
  go_enter Tryz.func38, Tryz.ntmps38
  go_wp2_with (go_at_call 41; refine hc.mono ?_; rintro e w1 ⟨rfl, rfl⟩)
  have LDA := Lib.hid (fun W (hW : Fr (fun _ => False) w W) => load_int5 W ⟨jn, 0, none⟩ (.int .i64 x1) (cell_of_row _ _ _ _ _ _ (hW.heap HJ.out id)))
  have LDB := Lib.hid (fun W (hW : Fr (fun _ => False) w W) => load_int5 W ⟨jn, 1, none⟩ (.int .i64 x2) (cell_of_row _ _ _ _ _ _ (hW.heap HJ.out id)))
  have LDS := Lib.hid (fun W (hW : Fr (fun _ => False) w W) => load_shape5 W jn 5 _ _ _ (jn_shape (hW.heap HJ.out id)))
  refine wp_region_inv 21 (by kernel_rfl) (by kernel_rfl) (fun W => Fr (fun _ => False) w W) (AreR jn x1 x2 l la d m z0 L5) (fun _ _ _ _ => True) (Fr (fun _ => False)) (AreR.ext jn x1 x2 l la d m z0 L5) (Fr.refl _ _).drew ?_ ?_
  · intro i hi o ho
    replace hi : i < 21 := hi
    obtain rfl | rfl | rfl | rfl | rfl | rfl | rfl | rfl | rfl | rfl | rfl | rfl | rfl | rfl | rfl | rfl | rfl | rfl | rfl | rfl | rfl : i = 0 ∨ i = 1 ∨ i = 2 ∨ i = 3 ∨ i = 4 ∨ i = 5 ∨ i = 6 ∨ i = 7 ∨ i = 8 ∨ i = 9 ∨ i = 10 ∨ i = 11 ∨ i = 12 ∨ i = 13 ∨ i = 14 ∨ i = 15 ∨ i = 16 ∨ i = 17 ∨ i = 18 ∨ i = 19 ∨ i = 20 := by omega
    · simp only [List.getElem?_cons_zero, Option.some.injEq] at ho
      subst ho
      intro a W vs hB hS hE hU
      refine wpG_plain rfl ?_
      have v0 : a.eval (.tmp 0) = .pointer (some ⟨jn, 0, none⟩) := (hU 0 (by kernel_rfl)).trans rfl
      clear hE hU
      exact wp_value_inv (w' := W) (.pointer (some ⟨jn, 0, none⟩)) (op_move rfl v0) ⟨_, rfl, hB, Fr.refl _ _, rfl, fun _ _ _ _ _ => trivial⟩
    · simp only [List.getElem?_cons_zero, List.getElem?_cons_succ, Option.some.injEq] at ho
      subst ho
      intro a W vs hB hS hE hU
      refine wpG_plain rfl ?_
      have v0 : a.eval (.tmp 0) = .pointer (some ⟨jn, 0, none⟩) := (hU 0 (by kernel_rfl)).trans rfl
      clear hE hU
      exact wp_value_inv (w' := W) (.pointer (some ⟨jn, 0, none⟩)) (op_move rfl v0) ⟨_, rfl, hB, Fr.refl _ _, rfl, fun _ _ _ _ _ => trivial⟩
    · simp only [List.getElem?_cons_zero, List.getElem?_cons_succ, Option.some.injEq] at ho
      subst ho
      intro a W vs hB hS hE hU
      refine wpG_plain rfl ?_
      obtain ⟨r1, e11⟩ := hE 1 11 (by kernel_rfl) (by kernel_rfl)
      have v11 : a.eval (.tmp 11) = .pointer (some ⟨jn, 0, none⟩) := e11.trans r1
      clear hE hU
      exact wp_value_inv (w' := W) (.pointer (some ⟨jn, 0, none⟩)) (op_nilCheck rfl v11) ⟨_, rfl, hB, Fr.refl _ _, rfl, fun _ _ _ _ _ => trivial⟩
    · simp only [List.getElem?_cons_zero, List.getElem?_cons_succ, Option.some.injEq] at ho
      subst ho
      intro a W vs hB hS hE hU
      refine wpG_plain rfl ?_
      obtain ⟨r2, e12⟩ := hE 2 12 (by kernel_rfl) (by kernel_rfl)
      have v12 : a.eval (.tmp 12) = .pointer (some ⟨jn, 0, none⟩) := e12.trans r2
      clear hE hU
      exact wp_value_inv (w' := W) (.pointer (some ⟨jn, 5, none⟩)) (op_fieldAddr rfl v12 (fld_spence_log_Journal_2_0 W jn)) ⟨_, rfl, hB, Fr.refl _ _, rfl, fun _ _ _ _ _ => trivial⟩
    · simp only [List.getElem?_cons_zero, List.getElem?_cons_succ, Option.some.injEq] at ho
      subst ho
      intro a W vs hB hS hE hU
      refine wpG_plain rfl ?_
      obtain ⟨r3, e13⟩ := hE 3 13 (by kernel_rfl) (by kernel_rfl)
      have v13 : a.eval (.tmp 13) = .pointer (some ⟨jn, 5, none⟩) := e13.trans r3
      clear hE hU
      exact wp_value_inv (w' := W) (.agg #[.int .i64 (l : Nat), .int .i64 (la : Nat), .int .i64 (d : Nat)]) (op_loadAt rfl v13 (LDS.out W hB)) ⟨_, rfl, hB, Fr.refl _ _, rfl, fun _ _ _ _ _ => trivial⟩
    · simp only [List.getElem?_cons_zero, List.getElem?_cons_succ, Option.some.injEq] at ho
      subst ho
      intro a W vs hB hS hE hU
      refine wpG_plain rfl ?_
      have v0 : a.eval (.tmp 0) = .pointer (some ⟨jn, 0, none⟩) := (hU 0 (by kernel_rfl)).trans rfl
      clear hE hU
      exact wp_value_inv (w' := W) (.pointer (some ⟨jn, 0, none⟩)) (op_move rfl v0) ⟨_, rfl, hB, Fr.refl _ _, rfl, fun _ _ _ _ _ => trivial⟩
    · simp only [List.getElem?_cons_zero, List.getElem?_cons_succ, Option.some.injEq] at ho
      subst ho
      intro a W vs hB hS hE hU
      refine wpG_plain rfl ?_
      obtain ⟨r5, e15⟩ := hE 5 15 (by kernel_rfl) (by kernel_rfl)
      have v15 : a.eval (.tmp 15) = .pointer (some ⟨jn, 0, none⟩) := e15.trans r5
      clear hE hU
      exact wp_value_inv (w' := W) (.pointer (some ⟨jn, 0, none⟩)) (op_nilCheck rfl v15) ⟨_, rfl, hB, Fr.refl _ _, rfl, fun _ _ _ _ _ => trivial⟩
    · simp only [List.getElem?_cons_zero, List.getElem?_cons_succ, Option.some.injEq] at ho
      subst ho
      intro a W vs hB hS hE hU
      refine wpG_plain rfl ?_
      obtain ⟨r6, e16⟩ := hE 6 16 (by kernel_rfl) (by kernel_rfl)
      have v16 : a.eval (.tmp 16) = .pointer (some ⟨jn, 0, none⟩) := e16.trans r6
      clear hE hU
      exact wp_value_inv (w' := W) (.pointer (some ⟨jn, 0, none⟩)) (op_fieldAddr rfl v16 (fld_spence_log_Journal_0_0 W jn)) ⟨_, rfl, hB, Fr.refl _ _, rfl, fun _ _ _ _ _ => trivial⟩
    · simp only [List.getElem?_cons_zero, List.getElem?_cons_succ, Option.some.injEq] at ho
      subst ho
      intro a W vs hB hS hE hU
      refine wpG_plain rfl ?_
      obtain ⟨r7, e17⟩ := hE 7 17 (by kernel_rfl) (by kernel_rfl)
      have v17 : a.eval (.tmp 17) = .pointer (some ⟨jn, 0, none⟩) := e17.trans r7
      clear hE hU
      exact wp_value_inv (w' := W) (.pointer (some ⟨jn, 0, none⟩)) (op_fieldAddr rfl v17 (fld_spence_log_head_0_0 W jn)) ⟨_, rfl, hB, Fr.refl _ _, rfl, fun _ _ _ _ _ => trivial⟩
    · simp only [List.getElem?_cons_zero, List.getElem?_cons_succ, Option.some.injEq] at ho
      subst ho
      intro a W vs hB hS hE hU
      refine wpG_plain rfl ?_
      obtain ⟨r8, e18⟩ := hE 8 18 (by kernel_rfl) (by kernel_rfl)
      have v18 : a.eval (.tmp 18) = .pointer (some ⟨jn, 0, none⟩) := e18.trans r8
      clear hE hU
      exact wp_value_inv (w' := W) (.int .i64 (x1 : Nat)) (op_loadAt rfl v18 (LDA.out W hB)) ⟨_, rfl, hB, Fr.refl _ _, rfl, fun _ _ _ _ _ => trivial⟩
    · simp only [List.getElem?_cons_zero, List.getElem?_cons_succ, Option.some.injEq] at ho
      subst ho
      intro a W vs hB hS hE hU
      refine wpG_plain rfl ?_
      obtain ⟨r4, e14⟩ := hE 4 14 (by kernel_rfl) (by kernel_rfl)
      have v14 : a.eval (.tmp 14) = .agg #[.int .i64 (l : Nat), .int .i64 (la : Nat), .int .i64 (d : Nat)] := e14.trans r4
      obtain ⟨r9, e19⟩ := hE 9 19 (by kernel_rfl) (by kernel_rfl)
      have v19 : a.eval (.tmp 19) = .int .i64 (x1 : Nat) := e19.trans r9
      clear hE hU
      refine wp_call_inv 47 #[.tmp 14, .tmp 19] #[23, 3] rfl #[.agg #[.int .i64 (l : Nat), .int .i64 (la : Nat), .int .i64 (d : Nat)], .int .i64 (x1 : Nat)] (by simp only [List.map_toArray, List.map_cons, List.map_nil, v14, v19]) (ent_spence_log_areaAt _) (Post := fun v W' => v = .int .i64 (m : Nat) ∧ Fr (fun _ => False) W W') ((HAR.out W).mono fun e w' h => ⟨_, h.1, rfl, h.2⟩) ?_
      rintro v W' ⟨rfl, hf⟩
      exact ⟨_, rfl, hB.trans hf (fun _ h => h.elim), hf, rfl, fun _ _ _ _ _ => trivial⟩
    · simp only [List.getElem?_cons_zero, List.getElem?_cons_succ, Option.some.injEq] at ho
      subst ho
      intro a W vs hB hS hE hU
      refine wpG_plain rfl ?_
      have v0 : a.eval (.tmp 0) = .pointer (some ⟨jn, 0, none⟩) := (hU 0 (by kernel_rfl)).trans rfl
      clear hE hU
      exact wp_value_inv (w' := W) (.pointer (some ⟨jn, 0, none⟩)) (op_move rfl v0) ⟨_, rfl, hB, Fr.refl _ _, rfl, fun _ _ _ _ _ => trivial⟩
    · simp only [List.getElem?_cons_zero, List.getElem?_cons_succ, Option.some.injEq] at ho
      subst ho
      intro a W vs hB hS hE hU
      refine wpG_plain rfl ?_
      obtain ⟨r11, e21⟩ := hE 11 21 (by kernel_rfl) (by kernel_rfl)
      have v21 : a.eval (.tmp 21) = .pointer (some ⟨jn, 0, none⟩) := e21.trans r11
      clear hE hU
      exact wp_value_inv (w' := W) (.pointer (some ⟨jn, 0, none⟩)) (op_nilCheck rfl v21) ⟨_, rfl, hB, Fr.refl _ _, rfl, fun _ _ _ _ _ => trivial⟩
    · simp only [List.getElem?_cons_zero, List.getElem?_cons_succ, Option.some.injEq] at ho
      subst ho
      intro a W vs hB hS hE hU
      refine wpG_plain rfl ?_
      obtain ⟨r12, e22⟩ := hE 12 22 (by kernel_rfl) (by kernel_rfl)
      have v22 : a.eval (.tmp 22) = .pointer (some ⟨jn, 0, none⟩) := e22.trans r12
      clear hE hU
      exact wp_value_inv (w' := W) (.pointer (some ⟨jn, 0, none⟩)) (op_fieldAddr rfl v22 (fld_spence_log_Journal_0_0 W jn)) ⟨_, rfl, hB, Fr.refl _ _, rfl, fun _ _ _ _ _ => trivial⟩
    · simp only [List.getElem?_cons_zero, List.getElem?_cons_succ, Option.some.injEq] at ho
      subst ho
      intro a W vs hB hS hE hU
      refine wpG_plain rfl ?_
      obtain ⟨r13, e23⟩ := hE 13 23 (by kernel_rfl) (by kernel_rfl)
      have v23 : a.eval (.tmp 23) = .pointer (some ⟨jn, 0, none⟩) := e23.trans r13
      clear hE hU
      exact wp_value_inv (w' := W) (.pointer (some ⟨jn, 1, none⟩)) (op_fieldAddr rfl v23 (fld_spence_log_head_1_0 W jn)) ⟨_, rfl, hB, Fr.refl _ _, rfl, fun _ _ _ _ _ => trivial⟩
    · simp only [List.getElem?_cons_zero, List.getElem?_cons_succ, Option.some.injEq] at ho
      subst ho
      intro a W vs hB hS hE hU
      refine wpG_plain rfl ?_
      obtain ⟨r14, e24⟩ := hE 14 24 (by kernel_rfl) (by kernel_rfl)
      have v24 : a.eval (.tmp 24) = .pointer (some ⟨jn, 1, none⟩) := e24.trans r14
      clear hE hU
      exact wp_value_inv (w' := W) (.int .i64 (x2 : Nat)) (op_loadAt rfl v24 (LDB.out W hB)) ⟨_, rfl, hB, Fr.refl _ _, rfl, fun _ _ _ _ _ => trivial⟩
    · simp only [List.getElem?_cons_zero, List.getElem?_cons_succ, Option.some.injEq] at ho
      subst ho
      intro a W vs hB hS hE hU
      refine wpG_plain rfl ?_
      obtain ⟨r0, e10⟩ := hE 0 10 (by kernel_rfl) (by kernel_rfl)
      have v10 : a.eval (.tmp 10) = .pointer (some ⟨jn, 0, none⟩) := e10.trans r0
      obtain ⟨r10, e20⟩ := hE 10 20 (by kernel_rfl) (by kernel_rfl)
      have v20 : a.eval (.tmp 20) = .int .i64 (m : Nat) := e20.trans r10
      obtain ⟨r15, e25⟩ := hE 15 25 (by kernel_rfl) (by kernel_rfl)
      have v25 : a.eval (.tmp 25) = .int .i64 (x2 : Nat) := e25.trans r15
      clear hE hU
      refine wp_call_inv 54 #[.tmp 10, .tmp 20, .tmp 25] #[34, 3, 3] rfl #[.pointer (some ⟨jn, 0, none⟩), .int .i64 (m : Nat), .int .i64 (x2 : Nat)] (by simp only [List.map_toArray, List.map_cons, List.map_nil, v10, v20, v25]) (ent___spence_log_Journal__read _) (Post := fun v W' => ∃ y, v = .tuple #[y, .int .i64 0] ∧ OwnB (fun k => W.heap.size ≤ k) W' y L5 ∧ Fr (fun _ => False) W W') ((HRD.out W hB).mono fun e w' ⟨y, h1, h2, h3⟩ => ⟨_, h1, y, rfl, h2, h3⟩) ?_
      rintro v W' ⟨y, rfl, ho, hf⟩
      exact ⟨_, rfl, hB.trans hf (fun _ h => h.elim), hf, ⟨y, rfl, ho.mono (fun k _ h => Nat.le_trans (by rw [HZ0.out]; exact hB.size) h)⟩, fun _ _ _ _ _ => trivial⟩
    · simp only [List.getElem?_cons_zero, List.getElem?_cons_succ, Option.some.injEq] at ho
      subst ho
      intro a W vs hB hS hE hU
      refine wpG_plain rfl ?_
      obtain ⟨⟨y16, rg16, hg16⟩, e26⟩ := hE 16 26 (by kernel_rfl) (by kernel_rfl)
      have v26 : a.eval (.tmp 26) = tup5 y16 := e26.trans rg16
      clear hE hU
      exact wp_value_inv (w' := W) y16 (op_extract5 rfl v26 rfl) ⟨_, rfl, hB, Fr.refl _ _, ⟨y16, rfl, hg16⟩, fun _ _ _ _ _ => trivial⟩
    · simp only [List.getElem?_cons_zero, List.getElem?_cons_succ, Option.some.injEq] at ho
      subst ho
      intro a W vs hB hS hE hU
      refine wpG_plain rfl ?_
      obtain ⟨⟨y16, rg16, hg16⟩, e26⟩ := hE 16 26 (by kernel_rfl) (by kernel_rfl)
      have v26 : a.eval (.tmp 26) = tup5 y16 := e26.trans rg16
      clear hE hU
      exact wp_value_inv (w' := W) (.int .i64 0) (op_extract5 rfl v26 rfl) ⟨_, rfl, hB, Fr.refl _ _, rfl, fun _ _ _ _ _ => trivial⟩
    · simp only [List.getElem?_cons_zero, List.getElem?_cons_succ, Option.some.injEq] at ho
      subst ho
      intro a W vs hB hS hE hU
      refine wpG_plain rfl ?_
      obtain ⟨⟨y17, rg17, hg17⟩, e27⟩ := hE 17 27 (by kernel_rfl) (by kernel_rfl)
      have v27 : a.eval (.tmp 27) = y17 := e27.trans rg17
      clear hE hU
      exact wp_value_inv (w' := W) y17 (op_assign rfl v27) ⟨_, rfl, hB, Fr.refl _ _, ⟨y17, rfl, hg17⟩, fun _ _ _ _ _ => trivial⟩
    · simp only [List.getElem?_cons_zero, List.getElem?_cons_succ, Option.some.injEq] at ho
      subst ho
      intro a W vs hB hS hE hU
      refine wpG_plain rfl ?_
      obtain ⟨r18, e28⟩ := hE 18 28 (by kernel_rfl) (by kernel_rfl)
      have v28 : a.eval (.tmp 28) = .int .i64 0 := e28.trans r18
      clear hE hU
      exact wp_value_inv (w' := W) (.int .i64 0) (op_assign rfl v28) ⟨_, rfl, hB, Fr.refl _ _, rfl, fun _ _ _ _ _ => trivial⟩
  · intro vs Wa hB0 hR0 hD
    have r3 : vs 20 = .int .i64 0 := hR0 20 (by decide)
    obtain ⟨y, hy, hoy⟩ := hR0 19 (by decide)
    have HO := Lib.hid hoy
    have HB := Lib.hid hB0
    clear hR0 hD hB0 hoy
    simp only [acts, if_true, dstAt, List.getElem?_cons_zero, List.getElem?_cons_succ, Option.bind_some, Act.put, List.setIfInBounds_toArray, List.set_cons_succ, List.set_cons_zero, List.drop_succ_cons, List.drop_nil]
    simp only [r3, hy]
    clear r3 hy
    go_wp2
    go_ret2
    unfold ReadPost
    exact ⟨y, rfl, by rw [HZ0.out] at HO; exact HO.out, HB.out⟩

set_option maxRecDepth 100000 in
theorem jRecords_any {D : Nat → Prop} (w : World) (jn g s l la d : Nat) (h : Hd) (dv : Dv) (R : List (List UInt8)) (hj : JnAt w jn g h l la d false) (hd : DevAt w D g s dv) (hup : dv.down = false) (hw : dv.waits = []) (hs : s ≤ 8192) (ho : 64 + h.used ≤ 64 * s) (hR : cut4 dv.all 64 h.used = recsB R) :
    Calls Tryz.prog 25 #[.pointer (some ⟨jn, 0, none⟩)] w (RecsPost w R) := by
  have hc := jReady_any w jn g h l la d false hj
  have hrd := jRead_any (D := D) w jn g s l la d 1 h.used h dv hj hd hup hw hs (by omega)
  rw [show 64 * 1 = 64 from rfl, hR] at hrd
  have hlen : (recsB R).length ≤ 1000000 := by rw [← hR, cut4_length _ _ _ (by rw [hd.right.all]; exact ho)]; omega
  obtain ⟨_, _, c2, _⟩ := hj.cells
  obtain ⟨x3, hx3⟩ : ∃ x, x = h.used := ⟨_, rfl⟩
  rw [← hx3] at c2 hrd
  have HRD := Lib.hid hrd
  have HL := Lib.hid hlen
  clear hj hd hup hw ho hR hrd hlen hx3
  go_enter Tryz.func25, Tryz.ntmps25
  go_wp2_with (first
    | (go_at_call 41; refine hc.mono ?_; rintro e w1 ⟨rfl, rfl⟩)
    | (go_at_call 54; refine HRD.out.mono ?_; rintro e w2 ⟨v, rfl, ho2, hf2⟩; (have H2 := Lib.hid (And.intro ho2 hf2)); clear ho2 hf2)
    | (go_at_call 35; refine (lRecords_any w2 v R H2.out.1.bytes HL.out).mono ?_; rintro e w3 ⟨v3, rfl, hr3, hf3⟩; (have H3 := Lib.hid (And.intro hr3 (H2.out.2.trans hf3 (fun _ h => h.elim)))); clear hr3 hf3))
  go_ret2
  unfold RecsPost
  exact ⟨v3, rfl, H3.out⟩

set_option maxRecDepth 100000 in
theorem lFormat_any {D : Nat → Prop} (w : World) (g l la d s : Nat) (dv : Dv) (hok : ShOk l la d s) (hd : DevAt w D g s dv) (hk6 : dv.deeds ≤ 900000000) (hw6 : dv.waits.length ≤ 900000) :
    Calls Tryz.prog 10 #[.pointer (some ⟨g, 0, none⟩), .agg #[.int .i64 l, .int .i64 la, .int .i64 d]] w (WritePost D w g s (dv.tell s (Hd.sec ⟨0, 0, 0, 1⟩))) := by
  obtain ⟨W1, hW1⟩ : ∃ W1, W1 = w.alloc (.cells #[.int .i64 l, .int .i64 la, .int .i64 d] 23) := ⟨_, rfl⟩
  have hf1 : Fr (fun _ => False) w W1 := by rw [hW1]; exact (Fr.refl _ _).alloc _
  have HFI := Lib.hid (lFits_any W1 g l la d s dv hok (hd.keep hf1 (fun _ _ _ h => h)))
  have HTL := Lib.hid (fun (W : World) (hf : Fr (fun _ => False) w W) => show Calls Tryz.prog 30 #[.pointer (some ⟨g, 0, none⟩), .agg #[.int .i64 0, .int .i64 0, .int .i64 0, .int .i64 1]] W (WritePost D W g s (dv.tell s (Hd.sec ⟨0, 0, 0, 1⟩))) from lTell_any W g s dv ⟨0, 0, 0, 1⟩ ⟨by decide, by decide, by decide, by decide⟩ (hd.keep hf (fun _ _ _ h => h)) (by omega) hw6)
  have HW := Lib.hid (And.intro hW1 hf1)
  obtain ⟨r, hr⟩ : ∃ r, r = dv.tell s (Hd.sec ⟨0, 0, 0, 1⟩) := ⟨_, rfl⟩
  rw [← hr] at HTL ⊢
  obtain ⟨e1, he1⟩ : ∃ e1, e1 = r.1 := ⟨_, rfl⟩
  have HE := Lib.hid he1
  clear hok hd hk6 hw6 hW1 hf1 hr he1
  go_enter Tryz.func10, Tryz.ntmps10
  go_wp2_with (first
    | (go_at_call 29; rw [← HW.out.1]; refine HFI.out.mono ?_; rintro e w2 ⟨rfl, hf2⟩; (have H2 := Lib.hid (HW.out.2.trans hf2 (fun _ h => h.elim))); clear hf2)
    | (go_at_call 30; refine (HTL.out w2 H2.out).mono ?_; rintro e w3 ⟨rfl, hd3, hf3⟩; rw [← HE.out]; (have H3 := Lib.hid (And.intro hd3 hf3)); clear hd3 hf3))
  go_ret
  unfold WritePost
  exact ⟨by rw [HE.out]; rfl, H3.out.1.mono (fun k _ hk => hk.elim .inl (fun h => .inr (Nat.le_trans H2.out.size h))), (H2.out.mono (fun _ _ h => h.elim)).trans H3.out.2 (fun k h => .inl h)⟩
end Go.Proofs.YtabgklcghghoiaaGreat

