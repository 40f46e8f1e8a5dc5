/- Laid together by merge.py: JIs JThen -/
import Derived.Test.YtabgklcghghoiaaGreatLn26

/- The law's own: (model).is: does a journal have just this? Printed by gen_jis.py (wip/gen). -/
namespace Go.Proofs.YtabgklcghghoiaaGreat
open Go.RowKit Go.ChangeShapes
set_option linter.unusedVariables false

theorem fld_spence_spencelaw05_model_1_0 (w : World) (g : Nat) : (Instr.fieldAt 40 (.pointer (some ⟨g, 0, none⟩)) 1).run Tryz.prog w = .ok (.pointer (some ⟨g, 1, none⟩)) w := by kernel_rfl
theorem run_index_rows5 (w : World) (b off n cap i : Nat) (h : i < n) : (Instr.indexAt 38 (.slice (some ⟨b, off, none⟩) n cap) (.int .i64 i)).run Tryz.prog w = .ok (.pointer (some ⟨b, off + i, none⟩)) w := by
  simp [Instr.indexAt, h, Addr.add, asIntOf]
def IsyR (br rf bq qf gm nn cr cq ix : Nat) (x1 y1 : Value) (i : Nat) (v : Value) (W : World) : Prop :=
  match i with
  | 0 => v = .slice (some ⟨br, rf, none⟩) nn cr
  | 1 => v = .int .i64 (ix : Nat)
  | 2 => v = .pointer (some ⟨br, rf + ix, none⟩)
  | 3 => v = x1
  | 4 => v = .pointer (some ⟨gm, 1, none⟩)
  | 5 => v = .slice (some ⟨bq, qf, none⟩) nn cq
  | 6 => v = .int .i64 (ix : Nat)
  | 7 => v = .pointer (some ⟨bq, qf + ix, none⟩)
  | 8 => v = y1
  | 9 => v = .bool true
  | 10 => v = .bool false
  | _ => True
theorem IsyR.ext (br rf bq qf gm nn cr cq ix : Nat) (x1 y1 : Value) : ∀ (j : Nat) (u : Value) (W W' : World), Fr (fun _ => False) W W' → IsyR br rf bq qf gm nn cr cq ix x1 y1 j u W → IsyR br rf bq qf gm nn cr cq ix x1 y1 j u W'
  | 0, u, W, W', hf, h => h
  | 1, u, W, W', hf, h => h
  | 2, u, W, W', hf, h => h
  | 3, u, W, W', hf, h => h
  | 4, u, W, W', hf, h => h
  | 5, u, W, W', hf, h => h
  | 6, u, W, W', hf, h => h
  | 7, u, W, W', hf, h => h
  | 8, u, W, W', hf, h => h
  | 9, u, W, W', hf, h => h
  | 10, u, W, W', hf, h => h
  | _ + 11, u, W, W', hf, h => trivial
def IsnR (br rf bq qf gm nn cr cq ix : Nat) (x1 y1 : Value) (i : Nat) (v : Value) (W : World) : Prop :=
  match i with
  | 0 => v = .slice (some ⟨br, rf, none⟩) nn cr
  | 1 => v = .int .i64 (ix : Nat)
  | 2 => v = .pointer (some ⟨br, rf + ix, none⟩)
  | 3 => v = x1
  | 4 => v = .pointer (some ⟨gm, 1, none⟩)
  | 5 => v = .slice (some ⟨bq, qf, none⟩) nn cq
  | 6 => v = .int .i64 (ix : Nat)
  | 7 => v = .pointer (some ⟨bq, qf + ix, none⟩)
  | 8 => v = y1
  | 9 => v = .bool false
  | 10 => v = .bool true
  | _ => True
theorem IsnR.ext (br rf bq qf gm nn cr cq ix : Nat) (x1 y1 : Value) : ∀ (j : Nat) (u : Value) (W W' : World), Fr (fun _ => False) W W' → IsnR br rf bq qf gm nn cr cq ix x1 y1 j u W → IsnR br rf bq qf gm nn cr cq ix x1 y1 j u W'
  | 0, u, W, W', hf, h => h
  | 1, u, W, W', hf, h => h
  | 2, u, W, W', hf, h => h
  | 3, u, W, W', hf, h => h
  | 4, u, W, W', hf, h => h
  | 5, u, W, W', hf, h => h
  | 6, u, W, W', hf, h => h
  | 7, u, W, W', hf, h => h
  | 8, u, W, W', hf, h => h
  | 9, u, W, W', hf, h => h
  | 10, u, W, W', hf, h => h
  | _ + 11, u, W, W', hf, h => trivial

/-- A journal has this area, these records. -/
def isB (B A : List UInt8) (R Q : List (List UInt8)) : Bool := decide (B = A ∧ R = Q)
theorem rows_next {R Q : List (List UInt8)} {i : Nat} (h1 : i < R.length) (h2 : i < Q.length) (h : R.take i = Q.take i) (e : R[i] = Q[i]) : R.take (i + 1) = Q.take (i + 1) := by
  rw [List.take_succ_eq_append_getElem h1, List.take_succ_eq_append_getElem h2, h, e]
set_option maxRecDepth 100000 in
set_option maxHeartbeats 4000000 in
theorem is_any {w0 w : World} {jn g s l la d : Nat} {h : Hd} {dv : Dv} {X F F2 : Nat → Prop} (H : LgAt w0 w jn g s l la d h false dv X) (hok : ShOk l la d s) {B : List UInt8} {R : List (List UInt8)} (hup : dv.down = false) (hw : dv.waits = []) (k : Kp dv.all l la s h B R) (va vr : Value) (A : List UInt8) (Q : List (List UInt8)) (hA : BytesIn F w va A) (hQ : RowsIn F2 w vr Q) :
    Calls Tryz.prog 15 #[.agg #[va, vr], .pointer (some ⟨jn, 0, none⟩)] w fun e w' => e = .returned (.bool (isB B A R Q)) ∧ Fr (fun _ => False) w w' := by
  obtain ⟨gm, hgm⟩ : ∃ gm, gm = w.heap.size := ⟨_, rfl⟩
  obtain ⟨W1, hW1⟩ : ∃ W, W = w.alloc (.cells #[va, vr] 40) := ⟨_, rfl⟩
  have hf1 : Fr (fun _ => False) w W1 := by rw [hW1]; exact (Fr.refl _ _).alloc _
  have hrow : W1.heap[gm]? = some (.cells #[va, vr] 40 (0, 0)) := by rw [hW1, hgm]; exact heap_alloc_new w _
  have H1 := Lib.hid (And.intro hf1 hrow)
  have HW := Lib.hid (And.intro hW1 hgm)
  have HG := Lib.hid (H.quiet hf1)
  have HK := Lib.hid (And.intro hok (And.intro hup (And.intro hw k)))
  have HA := Lib.hid hA
  have HQ := Lib.hid hQ
  obtain ⟨aa, ca, rfl, _⟩ := id hA
  obtain ⟨aq, cq, rfl, hq1, hq2, _, hq4⟩ := id hQ
  obtain ⟨nq, hnq⟩ : ∃ nq, nq = Q.length := ⟨_, rfl⟩
  clear H hok hup hw k hA hQ hW1 hgm hf1 hrow
  go_enter Tryz.func15, Tryz.ntmps15
  go_wp2_with (first
    | (go_at_call 38; rw [← HW.out.1, ← HW.out.2]; refine (gArea HG.out HK.out.1 HK.out.2.1 HK.out.2.2.1 HK.out.2.2.2).mono ?_; rintro e w2 ⟨v2, rfl, ho2, hf2⟩; (have HG := Lib.hid (HG.out.quiet hf2)); (have H2 := Lib.hid (And.intro (H1.out.1.trans hf2 (fun _ h => h.elim)) (And.intro (hf2.heap H1.out.2 id) ho2.bytes))); clear ho2 hf2)
    | (go_at_call 25; refine (gRecords HG.out HK.out.1 HK.out.2.1 HK.out.2.2.1 HK.out.2.2.2).mono ?_; rintro e w3 ⟨v3, rfl, ho3, hf3⟩; (have HG := Lib.hid (HG.out.quiet hf3)); (have H3 := Lib.hid (And.intro (H2.out.1.trans hf3 (fun _ h => h.elim)) (And.intro (hf3.heap H2.out.2.1 id) (And.intro (H2.out.2.2.keep hf3 (fun _ _ _ h => h)) ho3)))); clear ho3 hf3; (obtain ⟨m0, m1, _, _⟩ := ref_cells H3.out.2.1)))
  obtain ⟨ar, cr, rfl, hr1, hr2, _, hr4⟩ := id H3.out.2.2.2
  have hbr : ∃ br rf, (0 < R.length → ar = some ⟨br, rf, none⟩) ∧ ∀ i (h : i < R.length), ∃ x, w3.cell? ⟨br, rf + i, none⟩ = some x ∧ BytesIn (fun k => k < w3.heap.size) w3 x R[i] := by
    by_cases hl : R = []
    · subst hl
      exact ⟨0, 0, fun h => absurd h (by simp), fun i h => absurd h (by simp)⟩
    · obtain ⟨b, off, ha, _, hi⟩ := hr4 hl
      exact ⟨b, off, fun _ => ha, hi⟩
  have hbq : ∃ bq qf, (0 < Q.length → aq = some ⟨bq, qf, none⟩) ∧ ∀ i (h : i < Q.length), ∃ x, w.cell? ⟨bq, qf + i, none⟩ = some x ∧ BytesIn F2 w x Q[i] := by
    by_cases hl : Q = []
    · subst hl
      exact ⟨0, 0, fun h => absurd h (by simp), fun i h => absurd h (by simp)⟩
    · obtain ⟨b, off, ha, _, hi⟩ := hq4 hl
      exact ⟨b, off, fun _ => ha, hi⟩
  obtain ⟨br, rf, har, hri⟩ := hbr
  obtain ⟨bq, qf, haq, hqi⟩ := hbq
  have HR := Lib.hid (And.intro har hri)
  have HQI := Lib.hid (And.intro haq hqi)
  have HSM := Lib.hid (same_any v2 _ B A w3 H3.out.2.2.1 (HA.out.keep H3.out.1 (fun _ _ _ h => h)))
  obtain ⟨nn, hnn⟩ : ∃ nn, nn = R.length := ⟨_, rfl⟩
  have HNN := Lib.hid (And.intro hnn hnq)
  rw [← hnn] at hr1 H3 ⊢
  rw [← hnq] at hq1 H1 H2 H3 HW m1 ⊢
  clear har hri haq hqi hr4 hq4 hnn hnq
  by_cases hBA : B = A
  · rw [sameB_eq hBA] at HSM
    by_cases hln : nn = nq
    · subst hln
      go_wp2_with (first
        | (go_at_call 22; refine HSM.out.mono ?_; rintro e w4 ⟨rfl, hdr⟩; (have H4 := Lib.hid (show Fr (fun _ => False) w3 w4 by obtain ⟨n4, rfl⟩ := hdr; exact (Fr.refl _ _).drewN n4)); clear hdr; (obtain ⟨m0, m1, _, _⟩ := ref_cells (H4.out.heap H3.out.2.1 id))))
      clear m0 m1
      have HL0 := Lib.hid (show Fr (fun _ => False) w3 w4 ∧ R.take 0 = Q.take 0 from ⟨H4.out, rfl⟩)
      go_loopw [9] (fun iv wr => ∃ ix : Nat, ix ≤ nn ∧ iv = .int .i64 ix ∧ Hid (Fr (fun _ => False) w3 wr ∧ R.take ix = Q.take ix)) (fun iv _ => nn - (intOf iv).toNat)
      case atStart => exact ⟨0, by omega, rfl, HL0⟩
      case round =>
        clear HL0
        obtain ⟨ix, hi, rfl, hR⟩ := hrel
        by_cases hlt : ix < nn
        · have hx1 := HR.out.1 (by have := HNN.out.1; omega)
          have hy1 := HQI.out.1 (by have := HNN.out.2; omega)
          subst hx1
          subst hy1
          have hl1 : ix < R.length := by have := HNN.out.1; omega
          have hl2 : ix < Q.length := by have := HNN.out.2; omega
          obtain ⟨x1, hxc, hxb⟩ := HR.out.2 ix hl1
          obtain ⟨y1, hyc, hyb⟩ := HQI.out.2 ix hl2
          have hnx := rows_next hl1 hl2 hR.out.2
          obtain ⟨X1, hX1⟩ : ∃ X1, X1 = R[ix] := ⟨_, rfl⟩
          obtain ⟨Y1, hY1⟩ : ∃ Y1, Y1 = Q[ix] := ⟨_, rfl⟩
          rw [← hX1] at hxb
          rw [← hY1] at hyb
          rw [← hX1, ← hY1] at hnx
          have HNX := Lib.hid hnx
          have HXY := Lib.hid (And.intro hX1 hY1)
          have hfw := H3.out.1.trans hR.out.1 (fun _ h => h.elim)
          have LD1 := Lib.hid (fun W (hW : Fr (fun _ => False) wr W) => load_one5 W 37 ⟨br, rf + ix, none⟩ x1 (by kernel_rfl) (hW.cell (hR.out.1.cell hxc id) id))
          have LD2 := Lib.hid (fun W (hW : Fr (fun _ => False) wr W) => load_one5 W 37 ⟨bq, qf + ix, none⟩ y1 (by kernel_rfl) (hW.cell (hfw.cell hyc id) id))
          have LDV := Lib.hid (fun W (hW : Fr (fun _ => False) wr W) => load_one5 W 38 ⟨gm, 1, none⟩ (.slice (some ⟨bq, qf, none⟩) nn cq) (by kernel_rfl) (cell_of_row _ _ _ _ _ _ (hW.heap (hR.out.1.heap H3.out.2.1 id) id)))
          have HX1 := Lib.hid (hxb.keep hR.out.1 (fun _ _ _ h => h))
          have HY1 := Lib.hid (hyb.keep hfw (fun _ _ _ h => h))
          have HIN := Lib.hid hlt
          have HFW := Lib.hid hfw
          have d1 : decide ((ix : Int) < (nn : Int)) = true := by rw [decide_eq_true_iff]; omega
          clear hxc hxb hyc hyb hX1 hY1 hnx hfw
          by_cases hxy : X1 = Y1
          · have HSA := Lib.hid (sameB_eq hxy)
            go_wp2_with fail
            have HSB := Lib.hid (fun W (hW : Fr (fun _ => False) wr W) => show Calls Tryz.prog 22 #[x1, y1] W (fun e w' => e = .returned (.bool true) ∧ Fr (fun _ => False) W w') from (same_any x1 y1 X1 Y1 W (HX1.out.keep hW (fun _ _ _ h => h)) (HY1.out.keep hW (fun _ _ _ h => h))).mono fun e w' ⟨h1, n, h2⟩ => ⟨by rw [h1, HSA.out], by rw [h2]; exact (Fr.refl _ _).drewN n⟩)
            refine wp_region_inv 11 (by kernel_rfl) (by kernel_rfl) (fun W => Fr (fun _ => False) wr W) (IsyR br rf bq qf gm nn cr cq ix x1 y1) (fun _ _ _ _ => True) (Fr (fun _ => False)) (IsyR.ext br rf bq qf gm nn cr cq ix x1 y1) (Fr.refl _ _).drew ?_ ?_
            · intro i hi o ho
              replace hi : i < 11 := hi
              obtain rfl | rfl | rfl | rfl | rfl | rfl | rfl | rfl | rfl | rfl | rfl : i = 0 ∨ i = 1 ∨ i = 2 ∨ i = 3 ∨ i = 4 ∨ i = 5 ∨ i = 6 ∨ i = 7 ∨ i = 8 ∨ i = 9 ∨ i = 10 := by omega
              · simp only [List.getElem?_cons_zero, Option.some.injEq] at ho
                subst ho
                intro a W vs hB hS hE hU
                refine wpG_plain rfl ?_
                have v7 : a.eval (.tmp 7) = .slice (some ⟨br, rf, none⟩) nn cr := (hU 7 (by kernel_rfl)).trans rfl
                clear hE hU
                exact wp_value_inv (w' := W) (.slice (some ⟨br, rf, none⟩) nn cr) (op_move rfl v7) ⟨_, rfl, hB, Fr.refl _ _, rfl, fun _ _ _ _ _ => trivial⟩
              · simp only [List.getElem?_cons_zero, List.getElem?_cons_succ, Option.some.injEq] at ho
                subst ho
                intro a W vs hB hS hE hU
                refine wpG_plain rfl ?_
                have v9 : a.eval (.tmp 9) = .int .i64 (ix : Nat) := (hU 9 (by kernel_rfl)).trans rfl
                clear hE hU
                exact wp_value_inv (w' := W) (.int .i64 (ix : Nat)) (op_move rfl v9) ⟨_, rfl, hB, Fr.refl _ _, rfl, fun _ _ _ _ _ => trivial⟩
              · simp only [List.getElem?_cons_zero, List.getElem?_cons_succ, Option.some.injEq] at ho
                subst ho
                intro a W vs hB hS hE hU
                refine wpG_plain rfl ?_
                obtain ⟨r0, e47⟩ := hE 0 47 (by kernel_rfl) (by kernel_rfl)
                have v47 : a.eval (.tmp 47) = .slice (some ⟨br, rf, none⟩) nn cr := e47.trans r0
                obtain ⟨r1, e48⟩ := hE 1 48 (by kernel_rfl) (by kernel_rfl)
                have v48 : a.eval (.tmp 48) = .int .i64 (ix : Nat) := e48.trans r1
                clear hE hU
                exact wp_value_inv (w' := W) (.pointer (some ⟨br, rf + ix, none⟩)) (op_indexAddr rfl v47 v48 (run_index_rows5 W br rf nn cr ix HIN.out)) ⟨_, rfl, hB, Fr.refl _ _, rfl, fun _ _ _ _ _ => trivial⟩
              · simp only [List.getElem?_cons_zero, List.getElem?_cons_succ, Option.some.injEq] at ho
                subst ho
                intro a W vs hB hS hE hU
                refine wpG_plain rfl ?_
                obtain ⟨r2, e49⟩ := hE 2 49 (by kernel_rfl) (by kernel_rfl)
                have v49 : a.eval (.tmp 49) = .pointer (some ⟨br, rf + ix, none⟩) := e49.trans r2
                clear hE hU
                exact wp_value_inv (w' := W) (x1) (op_loadAt rfl v49 (LD1.out W hB)) ⟨_, rfl, hB, Fr.refl _ _, rfl, fun _ _ _ _ _ => trivial⟩
              · simp only [List.getElem?_cons_zero, List.getElem?_cons_succ, Option.some.injEq] at ho
                subst ho
                intro a W vs hB hS hE hU
                refine wpG_plain rfl ?_
                have v2 : a.eval (.tmp 2) = .pointer (some ⟨gm, 0, none⟩) := (hU 2 (by kernel_rfl)).trans rfl
                clear hE hU
                exact wp_value_inv (w' := W) (.pointer (some ⟨gm, 1, none⟩)) (op_fieldAddr rfl v2 (fld_spence_spencelaw05_model_1_0 W gm)) ⟨_, rfl, hB, Fr.refl _ _, rfl, fun _ _ _ _ _ => trivial⟩
              · simp only [List.getElem?_cons_zero, List.getElem?_cons_succ, Option.some.injEq] at ho
                subst ho
                intro a W vs hB hS hE hU
                refine wpG_plain rfl ?_
                obtain ⟨r4, e51⟩ := hE 4 51 (by kernel_rfl) (by kernel_rfl)
                have v51 : a.eval (.tmp 51) = .pointer (some ⟨gm, 1, none⟩) := e51.trans r4
                clear hE hU
                exact wp_value_inv (w' := W) (.slice (some ⟨bq, qf, none⟩) nn cq) (op_loadAt rfl v51 (LDV.out W hB)) ⟨_, rfl, hB, Fr.refl _ _, rfl, fun _ _ _ _ _ => trivial⟩
              · simp only [List.getElem?_cons_zero, List.getElem?_cons_succ, Option.some.injEq] at ho
                subst ho
                intro a W vs hB hS hE hU
                refine wpG_plain rfl ?_
                have v9 : a.eval (.tmp 9) = .int .i64 (ix : Nat) := (hU 9 (by kernel_rfl)).trans rfl
                clear hE hU
                exact wp_value_inv (w' := W) (.int .i64 (ix : Nat)) (op_move rfl v9) ⟨_, rfl, hB, Fr.refl _ _, rfl, fun _ _ _ _ _ => trivial⟩
              · simp only [List.getElem?_cons_zero, List.getElem?_cons_succ, Option.some.injEq] at ho
                subst ho
                intro a W vs hB hS hE hU
                refine wpG_plain rfl ?_
                obtain ⟨r5, e52⟩ := hE 5 52 (by kernel_rfl) (by kernel_rfl)
                have v52 : a.eval (.tmp 52) = .slice (some ⟨bq, qf, none⟩) nn cq := e52.trans r5
                obtain ⟨r6, e53⟩ := hE 6 53 (by kernel_rfl) (by kernel_rfl)
                have v53 : a.eval (.tmp 53) = .int .i64 (ix : Nat) := e53.trans r6
                clear hE hU
                exact wp_value_inv (w' := W) (.pointer (some ⟨bq, qf + ix, none⟩)) (op_indexAddr rfl v52 v53 (run_index_rows5 W bq qf nn cq ix HIN.out)) ⟨_, rfl, hB, Fr.refl _ _, rfl, fun _ _ _ _ _ => trivial⟩
              · simp only [List.getElem?_cons_zero, List.getElem?_cons_succ, Option.some.injEq] at ho
                subst ho
                intro a W vs hB hS hE hU
                refine wpG_plain rfl ?_
                obtain ⟨r7, e54⟩ := hE 7 54 (by kernel_rfl) (by kernel_rfl)
                have v54 : a.eval (.tmp 54) = .pointer (some ⟨bq, qf + ix, none⟩) := e54.trans r7
                clear hE hU
                exact wp_value_inv (w' := W) (y1) (op_loadAt rfl v54 (LD2.out W hB)) ⟨_, rfl, hB, Fr.refl _ _, rfl, fun _ _ _ _ _ => trivial⟩
              · simp only [List.getElem?_cons_zero, List.getElem?_cons_succ, Option.some.injEq] at ho
                subst ho
                intro a W vs hB hS hE hU
                refine wpG_plain rfl ?_
                obtain ⟨r3, e50⟩ := hE 3 50 (by kernel_rfl) (by kernel_rfl)
                have v50 : a.eval (.tmp 50) = x1 := e50.trans r3
                obtain ⟨r8, e55⟩ := hE 8 55 (by kernel_rfl) (by kernel_rfl)
                have v55 : a.eval (.tmp 55) = y1 := e55.trans r8
                clear hE hU
                refine wp_call_inv 22 #[.tmp 50, .tmp 55] #[37, 37] rfl #[x1, y1] (by simp only [List.map_toArray, List.map_cons, List.map_nil, v50, v55]) (ent_spence_spencekit_SameBytes _) (Post := fun v W' => v = .bool true ∧ Fr (fun _ => False) W W') ((HSB.out W hB).mono fun e w' h => ⟨_, h.1, rfl, h.2⟩) ?_
                rintro v W' ⟨rfl, hf⟩
                exact ⟨_, rfl, hB.trans hf (fun _ h => h.elim), hf, rfl, fun _ _ _ _ _ => trivial⟩
              · simp only [List.getElem?_cons_zero, List.getElem?_cons_succ, Option.some.injEq] at ho
                subst ho
                intro a W vs hB hS hE hU
                refine wpG_plain rfl ?_
                obtain ⟨r9, e56⟩ := hE 9 56 (by kernel_rfl) (by kernel_rfl)
                have v56 : a.eval (.tmp 56) = .bool true := e56.trans r9
                clear hE hU
                exact wp_value_inv (w' := W) (.bool false) (op_unop rfl v56 (by rfl)) ⟨_, rfl, hB, Fr.refl _ _, rfl, fun _ _ _ _ _ => trivial⟩
            · intro vs Wb hB0 hR0 hD
              have r57 : vs 10 = .bool false := hR0 10 (by decide)
              have HB9 := Lib.hid hB0
              clear hR0 hD hB0
              simp only [acts, if_true, dstAt, List.getElem?_cons_zero, List.getElem?_cons_succ, Option.bind_some, Act.put, List.setIfInBounds_toArray, List.set_cons_succ, List.set_cons_zero, List.drop_succ_cons, List.drop_nil]
              simp only [r57]
              clear r57
              go_wp2_with fail
              go_roundw
              case rel => exact ⟨ix + 1, by omega, by go_num, Lib.hid ⟨hR.out.1.trans HB9.out (fun _ h => h.elim), HNX.out hxy⟩⟩
              case measure => simp [intOf]; omega
          · have HSA := Lib.hid (sameB_ne hxy)
            go_wp2_with fail
            have HSB := Lib.hid (fun W (hW : Fr (fun _ => False) wr W) => show Calls Tryz.prog 22 #[x1, y1] W (fun e w' => e = .returned (.bool false) ∧ Fr (fun _ => False) W w') from (same_any x1 y1 X1 Y1 W (HX1.out.keep hW (fun _ _ _ h => h)) (HY1.out.keep hW (fun _ _ _ h => h))).mono fun e w' ⟨h1, n, h2⟩ => ⟨by rw [h1, HSA.out], by rw [h2]; exact (Fr.refl _ _).drewN n⟩)
            refine wp_region_inv 11 (by kernel_rfl) (by kernel_rfl) (fun W => Fr (fun _ => False) wr W) (IsnR br rf bq qf gm nn cr cq ix x1 y1) (fun _ _ _ _ => True) (Fr (fun _ => False)) (IsnR.ext br rf bq qf gm nn cr cq ix x1 y1) (Fr.refl _ _).drew ?_ ?_
            · intro i hi o ho
              replace hi : i < 11 := hi
              obtain rfl | rfl | rfl | rfl | rfl | rfl | rfl | rfl | rfl | rfl | rfl : i = 0 ∨ i = 1 ∨ i = 2 ∨ i = 3 ∨ i = 4 ∨ i = 5 ∨ i = 6 ∨ i = 7 ∨ i = 8 ∨ i = 9 ∨ i = 10 := by omega
              · simp only [List.getElem?_cons_zero, Option.some.injEq] at ho
                subst ho
                intro a W vs hB hS hE hU
                refine wpG_plain rfl ?_
                have v7 : a.eval (.tmp 7) = .slice (some ⟨br, rf, none⟩) nn cr := (hU 7 (by kernel_rfl)).trans rfl
                clear hE hU
                exact wp_value_inv (w' := W) (.slice (some ⟨br, rf, none⟩) nn cr) (op_move rfl v7) ⟨_, rfl, hB, Fr.refl _ _, rfl, fun _ _ _ _ _ => trivial⟩
              · simp only [List.getElem?_cons_zero, List.getElem?_cons_succ, Option.some.injEq] at ho
                subst ho
                intro a W vs hB hS hE hU
                refine wpG_plain rfl ?_
                have v9 : a.eval (.tmp 9) = .int .i64 (ix : Nat) := (hU 9 (by kernel_rfl)).trans rfl
                clear hE hU
                exact wp_value_inv (w' := W) (.int .i64 (ix : Nat)) (op_move rfl v9) ⟨_, rfl, hB, Fr.refl _ _, rfl, fun _ _ _ _ _ => trivial⟩
              · simp only [List.getElem?_cons_zero, List.getElem?_cons_succ, Option.some.injEq] at ho
                subst ho
                intro a W vs hB hS hE hU
                refine wpG_plain rfl ?_
                obtain ⟨r0, e47⟩ := hE 0 47 (by kernel_rfl) (by kernel_rfl)
                have v47 : a.eval (.tmp 47) = .slice (some ⟨br, rf, none⟩) nn cr := e47.trans r0
                obtain ⟨r1, e48⟩ := hE 1 48 (by kernel_rfl) (by kernel_rfl)
                have v48 : a.eval (.tmp 48) = .int .i64 (ix : Nat) := e48.trans r1
                clear hE hU
                exact wp_value_inv (w' := W) (.pointer (some ⟨br, rf + ix, none⟩)) (op_indexAddr rfl v47 v48 (run_index_rows5 W br rf nn cr ix HIN.out)) ⟨_, rfl, hB, Fr.refl _ _, rfl, fun _ _ _ _ _ => trivial⟩
              · simp only [List.getElem?_cons_zero, List.getElem?_cons_succ, Option.some.injEq] at ho
                subst ho
                intro a W vs hB hS hE hU
                refine wpG_plain rfl ?_
                obtain ⟨r2, e49⟩ := hE 2 49 (by kernel_rfl) (by kernel_rfl)
                have v49 : a.eval (.tmp 49) = .pointer (some ⟨br, rf + ix, none⟩) := e49.trans r2
                clear hE hU
                exact wp_value_inv (w' := W) (x1) (op_loadAt rfl v49 (LD1.out W hB)) ⟨_, rfl, hB, Fr.refl _ _, rfl, fun _ _ _ _ _ => trivial⟩
              · simp only [List.getElem?_cons_zero, List.getElem?_cons_succ, Option.some.injEq] at ho
                subst ho
                intro a W vs hB hS hE hU
                refine wpG_plain rfl ?_
                have v2 : a.eval (.tmp 2) = .pointer (some ⟨gm, 0, none⟩) := (hU 2 (by kernel_rfl)).trans rfl
                clear hE hU
                exact wp_value_inv (w' := W) (.pointer (some ⟨gm, 1, none⟩)) (op_fieldAddr rfl v2 (fld_spence_spencelaw05_model_1_0 W gm)) ⟨_, rfl, hB, Fr.refl _ _, rfl, fun _ _ _ _ _ => trivial⟩
              · simp only [List.getElem?_cons_zero, List.getElem?_cons_succ, Option.some.injEq] at ho
                subst ho
                intro a W vs hB hS hE hU
                refine wpG_plain rfl ?_
                obtain ⟨r4, e51⟩ := hE 4 51 (by kernel_rfl) (by kernel_rfl)
                have v51 : a.eval (.tmp 51) = .pointer (some ⟨gm, 1, none⟩) := e51.trans r4
                clear hE hU
                exact wp_value_inv (w' := W) (.slice (some ⟨bq, qf, none⟩) nn cq) (op_loadAt rfl v51 (LDV.out W hB)) ⟨_, rfl, hB, Fr.refl _ _, rfl, fun _ _ _ _ _ => trivial⟩
              · simp only [List.getElem?_cons_zero, List.getElem?_cons_succ, Option.some.injEq] at ho
                subst ho
                intro a W vs hB hS hE hU
                refine wpG_plain rfl ?_
                have v9 : a.eval (.tmp 9) = .int .i64 (ix : Nat) := (hU 9 (by kernel_rfl)).trans rfl
                clear hE hU
                exact wp_value_inv (w' := W) (.int .i64 (ix : Nat)) (op_move rfl v9) ⟨_, rfl, hB, Fr.refl _ _, rfl, fun _ _ _ _ _ => trivial⟩
              · simp only [List.getElem?_cons_zero, List.getElem?_cons_succ, Option.some.injEq] at ho
                subst ho
                intro a W vs hB hS hE hU
                refine wpG_plain rfl ?_
                obtain ⟨r5, e52⟩ := hE 5 52 (by kernel_rfl) (by kernel_rfl)
                have v52 : a.eval (.tmp 52) = .slice (some ⟨bq, qf, none⟩) nn cq := e52.trans r5
                obtain ⟨r6, e53⟩ := hE 6 53 (by kernel_rfl) (by kernel_rfl)
                have v53 : a.eval (.tmp 53) = .int .i64 (ix : Nat) := e53.trans r6
                clear hE hU
                exact wp_value_inv (w' := W) (.pointer (some ⟨bq, qf + ix, none⟩)) (op_indexAddr rfl v52 v53 (run_index_rows5 W bq qf nn cq ix HIN.out)) ⟨_, rfl, hB, Fr.refl _ _, rfl, fun _ _ _ _ _ => trivial⟩
              · simp only [List.getElem?_cons_zero, List.getElem?_cons_succ, Option.some.injEq] at ho
                subst ho
                intro a W vs hB hS hE hU
                refine wpG_plain rfl ?_
                obtain ⟨r7, e54⟩ := hE 7 54 (by kernel_rfl) (by kernel_rfl)
                have v54 : a.eval (.tmp 54) = .pointer (some ⟨bq, qf + ix, none⟩) := e54.trans r7
                clear hE hU
                exact wp_value_inv (w' := W) (y1) (op_loadAt rfl v54 (LD2.out W hB)) ⟨_, rfl, hB, Fr.refl _ _, rfl, fun _ _ _ _ _ => trivial⟩
              · simp only [List.getElem?_cons_zero, List.getElem?_cons_succ, Option.some.injEq] at ho
                subst ho
                intro a W vs hB hS hE hU
                refine wpG_plain rfl ?_
                obtain ⟨r3, e50⟩ := hE 3 50 (by kernel_rfl) (by kernel_rfl)
                have v50 : a.eval (.tmp 50) = x1 := e50.trans r3
                obtain ⟨r8, e55⟩ := hE 8 55 (by kernel_rfl) (by kernel_rfl)
                have v55 : a.eval (.tmp 55) = y1 := e55.trans r8
                clear hE hU
                refine wp_call_inv 22 #[.tmp 50, .tmp 55] #[37, 37] rfl #[x1, y1] (by simp only [List.map_toArray, List.map_cons, List.map_nil, v50, v55]) (ent_spence_spencekit_SameBytes _) (Post := fun v W' => v = .bool false ∧ Fr (fun _ => False) W W') ((HSB.out W hB).mono fun e w' h => ⟨_, h.1, rfl, h.2⟩) ?_
                rintro v W' ⟨rfl, hf⟩
                exact ⟨_, rfl, hB.trans hf (fun _ h => h.elim), hf, rfl, fun _ _ _ _ _ => trivial⟩
              · simp only [List.getElem?_cons_zero, List.getElem?_cons_succ, Option.some.injEq] at ho
                subst ho
                intro a W vs hB hS hE hU
                refine wpG_plain rfl ?_
                obtain ⟨r9, e56⟩ := hE 9 56 (by kernel_rfl) (by kernel_rfl)
                have v56 : a.eval (.tmp 56) = .bool false := e56.trans r9
                clear hE hU
                exact wp_value_inv (w' := W) (.bool true) (op_unop rfl v56 (by rfl)) ⟨_, rfl, hB, Fr.refl _ _, rfl, fun _ _ _ _ _ => trivial⟩
            · intro vs Wb hB0 hR0 hD
              have r57 : vs 10 = .bool true := hR0 10 (by decide)
              have HB9 := Lib.hid hB0
              clear hR0 hD hB0
              simp only [acts, if_true, dstAt, List.getElem?_cons_zero, List.getElem?_cons_succ, Option.bind_some, Act.put, List.setIfInBounds_toArray, List.set_cons_succ, List.set_cons_zero, List.drop_succ_cons, List.drop_nil]
              simp only [r57]
              clear r57
              go_wp2_with fail
              go_ret
              have hne : R ≠ Q := fun e => by
                have h1 := HXY.out.1
                have h2 := HXY.out.2
                subst e
                exact hxy (h1.trans h2.symm)
              exact ⟨by rw [isB, decide_eq_false (fun h => hne h.2)]; rfl, HFW.out.trans HB9.out (fun _ h => h.elim)⟩
        · have d1 : decide ((ix : Int) < (nn : Int)) = false := by rw [decide_eq_false_iff_not]; omega
          have hRQ : R = Q := by
            have h1 := hR.out.2
            have h2 := HNN.out
            rwa [List.take_of_length_le (by omega), List.take_of_length_le (by omega)] at h1
          have HFW := Lib.hid (H3.out.1.trans hR.out.1 (fun _ h => h.elim))
          have HRQ := Lib.hid hRQ
          clear hRQ
          go_wp2_with fail
          go_ret
          exact ⟨by rw [isB, decide_eq_true ⟨hBA, HRQ.out⟩]; rfl, HFW.out⟩
    · have d2 : ((nn : Int) != (nq : Int)) = true := by rw [bne_iff_ne]; omega
      have d3 : ¬ ((nn : Int) = (nq : Int)) := by omega
      go_wp2_with (first
        | (go_at_call 22; refine HSM.out.mono ?_; rintro e w4 ⟨rfl, hdr⟩; (have H4 := Lib.hid (show Fr (fun _ => False) w3 w4 by obtain ⟨n4, rfl⟩ := hdr; exact (Fr.refl _ _).drewN n4)); clear hdr; (obtain ⟨m0, m1, _, _⟩ := ref_cells (H4.out.heap H3.out.2.1 id))))
      go_ret
      exact ⟨by rw [isB, decide_eq_false (fun h => hln (by rw [HNN.out.1, HNN.out.2, h.2]))]; rfl, H3.out.1.trans H4.out (fun _ h => h.elim)⟩
  · rw [sameB_ne hBA] at HSM
    go_wp2_with (first
      | (go_at_call 22; refine HSM.out.mono ?_; rintro e w4 ⟨rfl, hdr⟩; (have H4 := Lib.hid (show Fr (fun _ => False) w3 w4 by obtain ⟨n4, rfl⟩ := hdr; exact (Fr.refl _ _).drewN n4)); clear hdr; (obtain ⟨m0, m1, _, _⟩ := ref_cells (H4.out.heap H3.out.2.1 id))))
    go_ret
    exact ⟨by rw [isB, decide_eq_false (fun h => hBA h.1)]; rfl, H3.out.1.trans H4.out (fun _ h => h.elim)⟩
end Go.Proofs.YtabgklcghghoiaaGreat

/- The law's own: (model).then, of a Switch. -/
namespace Go.Proofs.YtabgklcghghoiaaGreat
open Go.RowKit Go.ChangeShapes
set_option linter.unusedVariables false

section
variable {w0 w1 w w' : World} {jn g s l la d : Nat} {h : Hd} {dn : Bool} {dv : Dv} {X Y : Nat → Prop}
theorem LgAt.fresh (H : LgAt w0 w1 jn g s l la d h dn dv X) (hf : Fr (fun _ => False) w1 w) (hY : ∀ k, Y k → w1.heap.size ≤ k ∧ k < w.heap.size) : LgAt w0 w jn g s l la d h dn dv (fun k => X k ∨ Y k) := by
  have hz := hf.size
  have hj := H.jrn.lt
  obtain ⟨D, h1, h2⟩ := H.dev
  exact ⟨H.jrn.keep hf id, ⟨D, h1.keep hf (fun _ _ _ h => h), fun k hk => ⟨(h2 k hk).1, by have := (h2 k hk).2.1; omega, (h2 k hk).2.2.1, fun hh => hh.elim (h2 k hk).2.2.2 (fun hy => by have := (h2 k hk).2.1; have := (hY k hy).1; omega)⟩⟩, ⟨H.low.1, fun hh => hh.elim H.low.2 (fun hy => by have := (hY _ hy).1; omega)⟩, fun k hk => hk.elim (fun hx => by have := H.xs k hx; omega) (fun hy => (hY k hy).2), H.fr.trans hf (fun _ h => h.elim)⟩
theorem LgAt.less (H : LgAt w0 w jn g s l la d h dn dv Y) (hX : ∀ k, X k → Y k) : LgAt w0 w jn g s l la d h dn dv X := by
  obtain ⟨D, h1, h2⟩ := H.dev
  exact ⟨H.jrn, ⟨D, h1, fun k hk => ⟨(h2 k hk).1, (h2 k hk).2.1, (h2 k hk).2.2.1, fun hx => (h2 k hk).2.2.2 (hX k hx)⟩⟩, ⟨H.low.1, fun hx => H.low.2 (hX _ hx)⟩, fun k hk => H.xs k (hX k hk), H.fr⟩
end
set_option maxRecDepth 100000 in
set_option maxHeartbeats 4000000 in
theorem then_switch {w0 w : World} {jn g s l la d : Nat} {h h' : Hd} {dn' : Bool} {dv dv' : Dv} {X G : Nat → Prop} {r1 : Int} (H : LgAt w0 w jn g s l la d h false dv X) (what n bit : Int) (hw1 : -9223372036854775808 ≤ what) (hw2 : what ≤ 9223372036854775807) (hwh : what % 9 = 2) (vb va vr : Value) (B : List UInt8) (hb : BytesIn G w vb B)
    (hcall : ∀ (W : World) (Y : Nat → Prop), LgAt w0 W jn g s l la d h false dv Y → Fr (fun k => w.heap.size ≤ k) w W → Calls Tryz.prog 20 #[.pointer (some ⟨jn, 0, none⟩), vb] W fun e w' => e = .returned (.int .i64 r1) ∧ LgAt w0 w' jn g s l la d h' dn' dv' Y ∧ Fr (LgT w0 Y) W w') :
    Calls Tryz.prog 14 #[.agg #[va, vr], .pointer (some ⟨jn, 0, none⟩), .agg #[.int .i64 what, .int .i64 n, .int .i64 bit, vb]] w fun e w' => e = .returned (.tuple #[.agg #[vb, .slice none 0 0], .int .i64 r1]) ∧ LgAt w0 w' jn g s l la d h' dn' dv' X ∧ Fr (LgT w0 X) w w' := by
  obtain ⟨ab, cb, hvb, _⟩ := id hb
  subst hvb
  obtain ⟨W1, hW1⟩ : ∃ W, W = w.alloc (.cells #[va, vr] 40) := ⟨_, rfl⟩
  obtain ⟨W2, hW2⟩ : ∃ W, W = W1.alloc (.cells #[.int .i64 what, .int .i64 n, .int .i64 bit, .slice ab B.length cb] 42) := ⟨_, rfl⟩
  obtain ⟨W3, hW3⟩ : ∃ W, W = W2.alloc (.cells #[.slice none 0 0, .slice none 0 0] 40) := ⟨_, rfl⟩
  have hf1 : Fr (fun _ => False) w W1 := by rw [hW1]; exact (Fr.refl _ _).alloc _
  have hf2 : Fr (fun _ => False) w W2 := by rw [hW2]; exact hf1.alloc _
  have hf3 : Fr (fun _ => False) w W3 := by rw [hW3]; exact hf2.alloc _
  have hz1 : W1.heap.size = w.heap.size + 1 := by rw [hW1]; simp
  have hz2 : W2.heap.size = w.heap.size + 2 := by rw [hW2]; simp [hz1]
  have hz3 : W3.heap.size = w.heap.size + 3 := by rw [hW3]; simp [hz2]
  obtain ⟨gd, hgd⟩ : ∃ gd, gd = w.heap.size + 1 := ⟨_, rfl⟩
  obtain ⟨gr, hgr⟩ : ∃ gr, gr = w.heap.size + 2 := ⟨_, rfl⟩
  have hde : W3.heap[gd]? = some (.cells #[.int .i64 what, .int .i64 n, .int .i64 bit, .slice ab B.length cb] 42 (0, 0)) := by
    rw [hW3]
    exact ((Fr.refl (fun _ => False) W2).alloc _).heap (by rw [hW2, hgd, ← hz1]; exact heap_alloc_new W1 _) id
  have hre : W3.heap[gr]? = some (.cells #[.slice none 0 0, .slice none 0 0] 40 (0, 0)) := by rw [hW3, hgr, ← hz2]; exact heap_alloc_new W2 _
  have HG := Lib.hid (LgAt.quiet (LgAt.fresh (Y := fun k => w.heap.size ≤ k ∧ k < w.heap.size + 3) H hf3 (fun k hk => ⟨hk.1, by omega⟩)) (Fr.refl _ _).drew)
  have HW := Lib.hid (And.intro hW1 (And.intro hW2 (And.intro hW3 (And.intro hf3 (And.intro hde hre)))))
  have HZ := Lib.hid (And.intro hz1 (And.intro hz2 (And.intro hgd hgr)))
  have HH := Lib.hid H
  have HC := Lib.hid hcall
  have hsw : (what % 9 == (2 : Int)) = true := by rw [beq_iff_eq]; exact hwh
  clear H hb hcall hW1 hW2 hW3 hf1 hf2 hf3 hz1 hz2 hz3 hde hre hwh hgd hgr
  go_enter Tryz.func14, Tryz.ntmps14
  go_wp2_with (go_at_call 12; rw [← HW.out.1, ← HW.out.2.1, ← HW.out.2.2.1]; refine (pick_any what 9 _ (by decide) (by decide) hw1 hw2).mono ?_; rintro e r4 ⟨rfl, rfl⟩)
  have hgr2 : w.heap.size + 1 + 1 = gr := by rw [HZ.out.2.2.2]
  have hdec : W3.drew.cell? ⟨gd, 3, none⟩ = some (.slice ab B.length cb) := cell_of_row _ _ 3 _ _ _ (show W3.drew.heap[gd]? = _ from HW.out.2.2.2.2.1)
  rw [hgr2, ← HZ.out.2.2.1]
  clear hgr2
  have hne : gd ≠ gr := by have := HZ.out.2.2; omega
  have hne2 : gr ≠ gd := fun e => hne e.symm
  go_region_held3 (fun w' => w'.cell? ⟨gd, 3, none⟩ = some (.slice ab B.length cb)) (first | assumption | go_keep)
    (first
      | (go_at_call 20; refine (HC.out _ _ HG.out (HW.out.2.2.2.1.drew.mono (fun _ _ h => h.elim))).mono ?_; rintro e w4 ⟨rfl, hL4, hf4⟩; (have HL4 := Lib.hid (And.intro hL4 hf4)); (have hgr4 := hf4.heap (show W3.drew.heap[gr]? = _ from HW.out.2.2.2.2.2) (fun hh => hh.2 (.inr ⟨by have := HZ.out.2.2.2; omega, by have := HZ.out.2.2.2; omega⟩))); (have hgd4 := hf4.heap (show W3.drew.heap[gd]? = _ from HW.out.2.2.2.2.1) (fun hh => hh.2 (.inr ⟨by have := HZ.out.2.2.1; omega, by have := HZ.out.2.2.1; omega⟩))); (obtain ⟨k0, k1, z0, z1⟩ := ref_cells hgr4); (have hdec := cell_of_row _ _ 3 _ _ _ hgd4); (have HR4 := Lib.hid (And.intro hgr4 hgd4)); clear hL4 hf4 hgr4 hgd4))
  go_wp2
  have hs4 := HR4.out.1
  have q0 : ((w4.setCell ⟨gr, 0, none⟩ (.slice ab B.length cb)).setCell ⟨gr, 1, none⟩ (.slice none 0 0)).heap[gr]? = some (.cells #[.slice ab B.length cb, .slice none 0 0] 40 (0, 0)) := cell_put _ (cell_put _ hs4)
  obtain ⟨q1, q2, _, _⟩ := ref_cells q0
  refine bodyPost_ret (v := .tuple #[.agg #[.slice ab B.length cb, .slice none 0 0], .int .i64 r1]) (by simp [results, Tryz.results14, q1, q2, go_sem]) rfl ?_
  have hp := (Fr.cell1 w4 gr 0 (.slice ab B.length cb)).trans (Fr.cell1 _ gr 1 (.slice none 0 0)) (fun k h => .inl h)
  have hz := HH.out.fr.size
  have hzr := HZ.out.2.2.2
  exact ⟨rfl, (HL4.out.1.away hp (fun k (e : k = gr) => ⟨.inr ⟨by omega, by omega⟩, by omega⟩)).less (fun k h => .inl h), ((HW.out.2.2.2.1.drew.mono (fun _ _ h => h.elim)).trans (HL4.out.2.mono (T := LgT w0 X) (fun k _ hk => ⟨hk.1, fun hx => hk.2 (.inl hx)⟩)) (fun k h => .inl h)).trans hp (fun k (e : k = gr) => .inr (by omega))⟩
end Go.Proofs.YtabgklcghghoiaaGreat

