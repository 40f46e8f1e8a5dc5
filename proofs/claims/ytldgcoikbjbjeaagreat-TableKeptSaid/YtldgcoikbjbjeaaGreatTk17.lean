/- Laid together: JFits RDev5 RDev6 JHead -/
import Derived.Test.YtldgcoikbjbjeaaGreatTk16
import Derived.Test.YtldgcoikbjbjeaaGreatTk4
import Derived.Laws.Tables
import Derived.Test.YtldgcoikbjbjeaaGreatTk6
import Derived.Test.YtldgcoikbjbjeaaGreatTk10
import Derived.Test.YtldgcoikbjbjeaaGreatTk8

namespace Go.Proofs.YtldgcoikbjbjeaaGreat
open Go.RowKit Go.ChangeShapes
set_option linter.unusedVariables false
structure ShOk (l la d s : Nat) : Prop where
  l1 : 1 ≤ l
  a1 : 1 ≤ la
  d1 : 1 ≤ d
  sum : s = 1 + l + 2 * la + d
  most : s ≤ 8192
theorem ShOk.right {l la d s : Nat} (h : ShOk l la d s) (w : World) :
    Calls Tryz.prog 7 #[.agg #[.int .i64 l, .int .i64 la, .int .i64 d]] w fun e w' => e = .returned (.bool true) ∧ Fr (fun _ => False) w w' := by
  have h' := lRight_any w l la d
  rwa [rightS_nat h.l1 h.a1 h.d1 (by have := h.sum; have := h.most; omega)] at h'
theorem row3_cells {w : World} {g : Nat} {x y z : Value} {T : TypeId} (h : w.heap[g]? = some (.cells #[x, y, z] T (0, 0))) : w.cell? ⟨g, 0, none⟩ = some x ∧ w.cell? ⟨g, 1, none⟩ = some y ∧ w.cell? ⟨g, 2, none⟩ = some z :=
  ⟨cell_of_row _ _ _ _ _ _ h, cell_of_row _ _ _ _ _ _ h, cell_of_row _ _ _ _ _ _ h⟩
def SecR (gw l la d m : Nat) (i : Nat) (v : Value) (W : World) : Prop :=
  match i with
  | 0 => v = .agg #[.int .i64 (l : Nat), .int .i64 (la : Nat), .int .i64 (d : Nat)]
  | 1 => v = .int .i64 (m : Nat)
  | 2 => v = .pointer (some ⟨gw, 2, none⟩)
  | 3 => v = .int .i64 (d : Nat)
  | 4 => v = .int .i64 ((m + d : Nat) : Int)
  | 5 => v = .int .i64 ((m + d : Nat) : Int)
  | _ => True
theorem SecR.ext (gw l la d m : Nat) : ∀ (j : Nat) (u : Value) (W W' : World), Fr (fun _ => False) W W' → SecR gw l la d m j u W → SecR gw l la d m j u W'
  | 0, u, W, W', hf, h => h
  | 1, u, W, W', hf, h => h
  | 2, u, W, W', hf, h => h
  | 3, u, W, W', hf, h => h
  | 4, u, W, W', hf, h => h
  | 5, u, W, W', hf, h => h
  | _ + 6, u, W, W', hf, h => trivial
set_option maxRecDepth 100000 in
set_option maxHeartbeats 1000000 in
theorem lSectors_any (w : World) (l la d s : Nat) (h : ShOk l la d s) :
    Calls Tryz.prog 9 #[.agg #[.int .i64 l, .int .i64 la, .int .i64 d]] w fun e w' => e = .returned (.int .i64 s) ∧ Fr (fun _ => False) w w' := by
  obtain ⟨m, hm⟩ : ∃ m, m = 1 + l + 2 * la := ⟨_, rfl⟩
  have hs : s = m + d := by rw [hm]; exact h.sum
  have HRI := Lib.hid fun W => h.right W
  have HD := Lib.hid fun w => lData_any w l la d (by have := h.sum; have := h.most; omega) (by have := h.sum; have := h.most; omega)
  have HMB := Lib.hid (show m + d ≤ 8192 by rw [← hs]; exact h.most)
  rw [← hm] at HD
  rw [hs]
  clear hm hs h
  obtain ⟨gw, hgw⟩ : ∃ gw, gw = w.heap.size := ⟨_, rfl⟩
  obtain ⟨W1, hW⟩ : ∃ W, W = w.alloc (.cells #[.int .i64 l, .int .i64 la, .int .i64 d] 23) := ⟨_, rfl⟩
  have hf : Fr (fun _ => False) w W1 := by rw [hW]; exact (Fr.refl _ _).alloc _
  have hrow : W1.heap[gw]? = some (.cells #[.int .i64 l, .int .i64 la, .int .i64 d] 23 (0, 0)) := by rw [hW, hgw]; exact heap_alloc_new w _
  have HROW := Lib.hid hrow
  have HROWW := Lib.hid (show W1.heap[w.heap.size]? = some (.cells #[.int .i64 l, .int .i64 la, .int .i64 d] 23 (0, 0)) by rw [← hgw]; exact hrow)
  have HF := Lib.hid hf
  have HW := Lib.hid (And.intro hW hgw)
  clear hW hf hrow hgw
  go_enter Tryz.func9, Tryz.ntmps9
  go_wp2_with (go_at_call 7; refine (HRI.out _).mono ?_; rintro e w1 ⟨rfl, hf1⟩; rw [← HW.out.1] at hf1; (have HF1 := Lib.hid hf1); clear hf1)
  rw [← HW.out.2]
  have LD2 := Lib.hid (fun W (hW : Fr (fun _ => False) w1 W) => load_int5 W ⟨gw, 2, none⟩ (.int .i64 d) (cell_of_row _ _ _ _ _ _ (hW.heap (HF1.out.heap HROW.out id) id)))
  have LDS := Lib.hid (fun W (hW : Fr (fun _ => False) w1 W) => load_shape5 W gw 0 _ _ _ (range_row5 (hW.heap (HF1.out.heap HROW.out id) id)))
  refine wp_region_inv 6 (by kernel_rfl) (by kernel_rfl) (fun W => Fr (fun _ => False) w1 W) (SecR gw l la d m) (fun _ _ _ _ => True) (Fr (fun _ => False)) (SecR.ext gw l la d m) (Fr.refl _ _).drew ?_ ?_
  · intro i hi o ho
    replace hi : i < 6 := hi
    obtain rfl | rfl | rfl | rfl | rfl | rfl : i = 0 ∨ i = 1 ∨ i = 2 ∨ i = 3 ∨ i = 4 ∨ i = 5 := by omega
    · simp only [List.getElem?_cons_zero, Option.some.injEq] at ho
      subst ho
      intro a W vs hB hS hE hU
      refine wpG_plain rfl ?_
      have v1 : a.eval (.tmp 1) = .pointer (some ⟨gw, 0, none⟩) := (hU 1 (by kernel_rfl)).trans rfl
      clear hE hU
      exact wp_value_inv (w' := W) (.agg #[.int .i64 (l : Nat), .int .i64 (la : Nat), .int .i64 (d : Nat)]) (op_loadAt rfl v1 (LDS.out W hB)) ⟨_, rfl, hB, Fr.refl _ _, rfl, fun _ _ _ _ _ => trivial⟩
    · simp only [List.getElem?_cons_zero, List.getElem?_cons_succ, Option.some.injEq] at ho
      subst ho
      intro a W vs hB hS hE hU
      refine wpG_plain rfl ?_
      obtain ⟨r0, e6⟩ := hE 0 6 (by kernel_rfl) (by kernel_rfl)
      have v6 : a.eval (.tmp 6) = .agg #[.int .i64 (l : Nat), .int .i64 (la : Nat), .int .i64 (d : Nat)] := e6.trans r0
      clear hE hU
      refine wp_call_inv 25 #[.tmp 6] #[23] rfl #[.agg #[.int .i64 (l : Nat), .int .i64 (la : Nat), .int .i64 (d : Nat)]] (by simp only [List.map_toArray, List.map_cons, List.map_nil, v6]) (ent_spence_log_dataAt _) (Post := fun v W' => v = .int .i64 (m : Nat) ∧ Fr (fun _ => False) W W') ((HD.out W).mono fun e w' h => ⟨_, h.1, rfl, h.2⟩) ?_
      rintro v W' ⟨rfl, hf⟩
      exact ⟨_, rfl, hB.trans hf (fun _ h => h.elim), hf, rfl, fun _ _ _ _ _ => trivial⟩
    · simp only [List.getElem?_cons_zero, List.getElem?_cons_succ, Option.some.injEq] at ho
      subst ho
      intro a W vs hB hS hE hU
      refine wpG_plain rfl ?_
      have v1 : a.eval (.tmp 1) = .pointer (some ⟨gw, 0, none⟩) := (hU 1 (by kernel_rfl)).trans rfl
      clear hE hU
      exact wp_value_inv (w' := W) (.pointer (some ⟨gw, 2, none⟩)) (op_fieldAddr rfl v1 (fld_spence_api_Shape_2_0 W gw)) ⟨_, rfl, hB, Fr.refl _ _, rfl, fun _ _ _ _ _ => trivial⟩
    · simp only [List.getElem?_cons_zero, List.getElem?_cons_succ, Option.some.injEq] at ho
      subst ho
      intro a W vs hB hS hE hU
      refine wpG_plain rfl ?_
      obtain ⟨r2, e8⟩ := hE 2 8 (by kernel_rfl) (by kernel_rfl)
      have v8 : a.eval (.tmp 8) = .pointer (some ⟨gw, 2, none⟩) := e8.trans r2
      clear hE hU
      exact wp_value_inv (w' := W) (.int .i64 (d : Nat)) (op_loadAt rfl v8 (LD2.out W hB)) ⟨_, rfl, hB, Fr.refl _ _, rfl, fun _ _ _ _ _ => trivial⟩
    · simp only [List.getElem?_cons_zero, List.getElem?_cons_succ, Option.some.injEq] at ho
      subst ho
      intro a W vs hB hS hE hU
      refine wpG_plain rfl ?_
      obtain ⟨r1, e7⟩ := hE 1 7 (by kernel_rfl) (by kernel_rfl)
      have v7 : a.eval (.tmp 7) = .int .i64 (m : Nat) := e7.trans r1
      obtain ⟨r3, e9⟩ := hE 3 9 (by kernel_rfl) (by kernel_rfl)
      have v9 : a.eval (.tmp 9) = .int .i64 (d : Nat) := e9.trans r3
      clear hE hU
      exact wp_value_inv (w' := W) (.int .i64 ((m + d : Nat) : Int)) (op_bin rfl v7 v9 (rfl) (add_in5 (by push_cast; rfl) (by omega) (by have := HMB.out; omega))) ⟨_, rfl, hB, Fr.refl _ _, rfl, fun _ _ _ _ _ => trivial⟩
    · simp only [List.getElem?_cons_zero, List.getElem?_cons_succ, Option.some.injEq] at ho
      subst ho
      intro a W vs hB hS hE hU
      refine wpG_plain rfl ?_
      obtain ⟨r4, e10⟩ := hE 4 10 (by kernel_rfl) (by kernel_rfl)
      have v10 : a.eval (.tmp 10) = .int .i64 ((m + d : Nat) : Int) := e10.trans r4
      clear hE hU
      exact wp_value_inv (w' := W) (.int .i64 ((m + d : Nat) : Int)) (op_assign rfl v10) ⟨_, rfl, hB, Fr.refl _ _, rfl, fun _ _ _ _ _ => trivial⟩
  · intro vs Wa hB0 hR0 hD
    have r2 : vs 5 = .int .i64 ((m + d : Nat) : Int) := hR0 5 (by decide)
    have HB := Lib.hid hB0
    clear hR0 hD hB0
    simp only [acts, if_true, dstAt, List.getElem?_cons_zero, List.getElem?_cons_succ, Option.bind_some, Act.put, List.setIfInBounds_toArray, List.set_cons_succ, List.set_cons_zero, List.drop_succ_cons, List.drop_nil]
    simp only [r2]
    clear r2
    go_wp2
    go_ret
    exact ⟨rfl, (HF.out.trans HF1.out (fun _ h => h.elim)).trans HB.out (fun _ h => h.elim)⟩
set_option maxRecDepth 100000 in
set_option maxHeartbeats 1000000 in
theorem lFits_any {D : Nat → Prop} (w : World) (g l la d s : Nat) (dv : Dv) (h : ShOk l la d s) (hd : DevAt w D g s dv) :
    Calls Tryz.prog 51 #[.pointer (some ⟨g, 0, none⟩), .agg #[.int .i64 l, .int .i64 la, .int .i64 d]] w fun e w' => e = .returned (.int .i64 0) ∧ Fr (fun _ => False) w w' := by
  have HRI := Lib.hid fun W => h.right W
  have HSE := Lib.hid fun W => lSectors_any W l la d s h
  have hs0 : 1 ≤ s := by have := h.sum; omega
  have hsb := h.most
  obtain ⟨gw, hgw⟩ : ∃ gw, gw = w.heap.size := ⟨_, rfl⟩
  obtain ⟨W1, hW⟩ : ∃ W, W = w.alloc (.cells #[.int .i64 l, .int .i64 la, .int .i64 d] 23) := ⟨_, rfl⟩
  have hf : Fr (fun _ => False) w W1 := by rw [hW]; exact (Fr.refl _ _).alloc _
  have hrow : W1.heap[gw]? = some (.cells #[.int .i64 l, .int .i64 la, .int .i64 d] 23 (0, 0)) := by rw [hW, hgw]; exact heap_alloc_new w _
  have HROW := Lib.hid hrow
  have HROWW := Lib.hid (show W1.heap[w.heap.size]? = some (.cells #[.int .i64 l, .int .i64 la, .int .i64 d] 23 (0, 0)) by rw [← hgw]; exact hrow)
  have HF := Lib.hid hf
  have HW := Lib.hid (And.intro hW hgw)
  have hst := aStat W1 g s dv (hd.keep hf (fun _ _ _ h => h))
  obtain ⟨n1, hn1⟩ : ∃ n, n = dv.waits.length := ⟨_, rfl⟩
  obtain ⟨n2, hn2⟩ : ∃ n, n = dv.deeds := ⟨_, rfl⟩
  obtain ⟨n3, hn3⟩ : ∃ n, n = dv.down := ⟨_, rfl⟩
  rw [← hn1, ← hn2, ← hn3] at hst
  have HST := Lib.hid hst
  clear hW hf hrow hgw h hd hst hn1 hn2 hn3
  have hfd : ∀ W : World, (Instr.field 159 (.agg #[.int .i64 s, .int .i64 n1, .int .i64 n2, .bool n3]) 0).run Tryz.prog W = .ok (.int .i64 s) W := fun W => by kernel_rfl
  have hs2 : ((s : Int) == 0) = false := by rw [beq_eq_false_iff_ne]; omega
  go_enter Tryz.func51, Tryz.ntmps51
  go_wp2_with (first
    | (go_at_call 87; go_loud (rw [← HW.out.1]; refine HST.out.mono ?_; rintro e w1 ⟨rfl, hf1⟩; (have HF1 := Lib.hid (And.intro (HF.out.trans hf1 (fun _ h => h.elim)) (hf1.heap HROWW.out id)); clear hf1); (obtain ⟨j0, j1, j2⟩ := row3_cells HF1.out.2)))
    | (go_at_call 7; refine (HRI.out _).mono ?_; rintro e w2 ⟨rfl, hf2⟩; (have HF2 := Lib.hid (And.intro (HF1.out.1.trans hf2 (fun _ h => h.elim)) (hf2.heap HF1.out.2 id)); clear hf2); (obtain ⟨j0, j1, j2⟩ := row3_cells HF2.out.2))
    | (go_at_call 9; refine (HSE.out _).mono ?_; rintro e w3 ⟨rfl, hf3⟩; (have HF3 := Lib.hid (HF2.out.1.trans hf3 (fun _ h => h.elim)); clear hf3)))
  go_ret
  exact ⟨rfl, HF3.out⟩
end Go.Proofs.YtldgcoikbjbjeaaGreat
namespace Go.Proofs.YtldgcoikbjbjeaaGreat
open Go.RowKit Go.ChangeShapes
set_option linter.unusedVariables false
theorem flatW_snoc (p : Pend) (g : Nat) : ∀ (W : List Pend) (gs : List Nat), gs.length = W.length → flatW (W ++ [p]) (gs ++ [g]) = flatW W gs ++ pendC p g
  | [], [], _ => by simp [flatW]
  | q :: W, x :: gs, h => by
    rw [List.cons_append, List.cons_append, flatW, flatW, flatW_snoc p g W gs (by simpa using h), List.append_assoc]
  | [], g :: gs, h => by simp at h
  | p :: W, [], h => by simp at h
theorem Tryz.infoW : (Tryz.prog.info? 205).map (fun i => (i.zero, i.size, i.bytes)) = some (some (.agg #[.int .i64 0, .slice none 0 0]), 2, 32) := by kernel_rfl
theorem run_append_pend {F : Nat → Prop} (w : World) (ty : TypeId) (v : Value) (W : List Pend) (p : Pend) (g b : Nat) (hP : PendAt F w v W) (hb : w.heap[b]? = some (.cells (pendC p g).toArray 205 (0, 0))) (hg : BytT w g 5 p.2) (hn : W.length + 1 ≤ 1000000) :
    ∃ v' w', (Builtin.append_ #[150, 150] ty #[v, .slice (some ⟨b, 0, none⟩) 1 1]).run Tryz.prog w = .ok v' w' ∧ PendAt (fun k => F k ∨ w.heap.size ≤ k ∨ k = g) w' v' (W ++ [p]) ∧ w.grownBy w' v.ownBlock ∧ (v'.ownBlock = v.ownBlock ∨ v'.ownBlock = some w.heap.size) := by
  obtain ⟨gs, h1, h2, h3, h4⟩ := hP
  obtain ⟨i0, hi, hz0, hz1, hz2⟩ := info_parts Tryz.infoW
  obtain ⟨v', w', hr, k2, k3, k4, k5⟩ := run_append_own_at (P := Tryz.prog) w 0 150 ty 205 i0 (.agg #[.int .i64 0, .slice none 0 0]) 2 32 Tryz.underlying150 hi hz0 hz1 hz2 rfl (by decide) v W.length _ h2 ⟨b, 0, none⟩ 1 1 (pendC p g)
    rfl (fun j u hu => by
      rw [addr_plain, Nat.zero_add, cell_of_row _ _ _ _ _ _ hb]
      simpa using hu) (fun u hu => by simp [pendC] at hu; rcases hu with rfl | rfl <;> rfl) (by unfold maxLen; omega) (by omega) (Nat.zero_le _)
  have hother : ∀ x L, BytT w x 5 L → v.ownBlock ≠ some x := by
    intro x L hx e
    rcases h2.2 with ⟨hv, _⟩ | ⟨gv, cap, cur, hv, _, hgv, _⟩
    · rw [hv] at e; simp [Value.ownBlock] at e
    · rw [hv] at e
      simp [Value.ownBlock] at e
      subst e
      rw [BytT, hgv] at hx
      simp at hx
  have hkept : ∀ x L, BytT w x 5 L → BytT w' x 5 L := fun x L hx => (k3.block x (lt_of_block hx) (Ne.symm (hother x L hx))).trans hx
  refine ⟨v', w', hr, ⟨gs ++ [g], by simp [h1], ?_, ?_, fun i hi1 hi2 => ?_⟩, k3, k5⟩
  · rw [List.length_append, List.length_singleton, flatW_snoc p g W gs h1]
    exact k2
  · intro x hx
    rcases k5 with k5 | k5
    · exact .inl (h3 x (by rw [← k5, hx]))
    · rw [hx] at k5
      exact .inr (.inl (by have := Option.some.inj k5; omega))
  · by_cases hlt : i < W.length
    · have e1 : (W ++ [p])[i] = W[i] := List.getElem_append_left hlt
      have e2 : (gs ++ [g])[i] = gs[i]'(by omega) := List.getElem_append_left (by omega)
      rw [e1, e2]
      exact ⟨hkept _ _ (h4 i hlt (by omega)).1, .inl (h4 i hlt (by omega)).2⟩
    · have hiW : i = W.length := by simp at hi1; omega
      subst hiW
      have e1 : (W ++ [p])[W.length] = p := by simp
      have e2 : (gs ++ [g])[W.length]'hi2 = g := by simp [← h1]
      rw [e1, e2]
      exact ⟨hkept _ _ hg, .inr (.inr rfl)⟩
end Go.Proofs.YtldgcoikbjbjeaaGreat
namespace Go.Proofs.YtldgcoikbjbjeaaGreat
open Go.RowKit Go.ChangeShapes
set_option linter.unusedVariables false
set_option maxRecDepth 100000 in
theorem run_copy_full {G : Nat → Prop} (w : World) (ty : TypeId) (gf : Nat) (vb : Value) (b : List UInt8) (hz : BytT w gf 5 (List.replicate 64 0)) (hb : BytesIn G w vb b) (hl : b.length ≤ 64) :
    ∃ v w', (Builtin.copy_ #[43, 43] ty #[.slice (some ⟨gf, 0, none⟩) 64 64, vb]).run Tryz.prog w = .ok v w' ∧ BytT w' gf 5 (full64 b) ∧ Fr (· = gf) w w' := by
  obtain ⟨ao, cap, rfl, h1, h2, h3, h4⟩ := hb
  cases ao with
  | none =>
    have hb0 : b = [] := List.eq_nil_of_length_eq_zero (by have := h3 rfl; omega)
    subst hb0
    obtain rfl := h3 rfl
    exact ⟨_, w, run_copy_nil (P := Tryz.prog) w 43 43 ty 5 ⟨gf, 0, none⟩ 64 64 Tryz.underlying43 (by kernel_rfl), hz, Fr.refl _ _⟩
  | some ad =>
    have hr := run_copy_row (P := Tryz.prog) w 43 43 ty 5 gf 0 64 64 ad b.length cap ((List.replicate 64 (0 : UInt8)).map bv).toArray 5 (b.map bv) Tryz.underlying43 (by kernel_rfl) hz (by rw [List.length_map]; exact (Nat.min_eq_left hl).symm)
      (h4 ad rfl).1 (by simp; exact hl) (bv_one _)
    have e : (((List.replicate 64 (0 : UInt8)).map bv).toArray.toList.take 0 ++ b.map bv ++ ((List.replicate 64 (0 : UInt8)).map bv).toArray.toList.drop (0 + (b.map bv).length)).toArray = ((full64 b).map bv).toArray := by
      rw [full64, List.map_append, List.take_zero, List.nil_append, Nat.zero_add, List.length_map]
      congr 2
      rw [← List.map_drop, List.drop_replicate]
    rw [e] at hr
    exact ⟨_, _, hr, setRow_heap w gf _ _ _ (0, 0) hz, (Fr.refl (· = gf) w).setRow (.inl rfl) _⟩
theorem wpList_copy_full {G : Nat → Prop} (w : World) {ops : Array Oper} {rest : List Oper} {o : Oper} {a : Act} {Q : Exit → Act → World → Prop} (hgd : o.guard = none) (d s : Operand)
    (hop : o.op = Op.call { callee := Callee.builtin Builtin.copy, args := #[d, s], argTypes := #[43, 43] })
    (gf : Nat) (vb : Value) (b : List UInt8) (hd : a.eval d = .slice (some ⟨gf, 0, none⟩) 64 64) (hs : a.eval s = vb) (hz : BytT w gf 5 (List.replicate 64 0)) (hb : BytesIn G w vb b) (hl : b.length ≤ 64)
    (hK : ∀ v' w', BytT w' gf 5 (full64 b) → Fr (· = gf) w w' → wpList Tryz.prog ops Q rest (a.put o.dst v') w') : wpList Tryz.prog ops Q (o :: rest) a w := by
  refine wpList_plain hgd fun K hK' => ?_
  subst hs
  obtain ⟨v', w', hr, h1, h2⟩ := run_copy_full w o.type gf _ b hz hb hl
  unfold Oper.wp
  simp [execOp, hop, resolve, invoke, builtin, hd, hr, Result.andThen]
  exact hK' _ _ (hK v' w' h1 h2)
theorem wpList_append_pend {F : Nat → Prop} (w : World) {ops : Array Oper} {rest : List Oper} {o : Oper} {a : Act} {Q : Exit → Act → World → Prop} (hgd : o.guard = none) (s x : Operand)
    (hop : o.op = Op.call { callee := Callee.builtin Builtin.append, args := #[s, x], argTypes := #[150, 150] })
    (v : Value) (W : List Pend) (p : Pend) (g b : Nat) (hs : a.eval s = v) (hx : a.eval x = .slice (some ⟨b, 0, none⟩) 1 1) (hP : PendAt F w v W) (hb : w.heap[b]? = some (.cells (pendC p g).toArray 205 (0, 0))) (hg : BytT w g 5 p.2) (hn : W.length + 1 ≤ 1000000)
    (hK : ∀ v' w', PendAt (fun k => F k ∨ w.heap.size ≤ k ∨ k = g) w' v' (W ++ [p]) → w.grownBy w' v.ownBlock → (v'.ownBlock = v.ownBlock ∨ v'.ownBlock = some w.heap.size) → wpList Tryz.prog ops Q rest (a.put o.dst v') w') : wpList Tryz.prog ops Q (o :: rest) a w := by
  refine wpList_plain hgd fun K hK' => ?_
  subst hs
  obtain ⟨v', w', hr, h1, h2, h3⟩ := run_append_pend w o.type _ W p g b hP hb hg hn
  unfold Oper.wp
  simp [execOp, hop, resolve, invoke, builtin, hx, hr, Result.andThen]
  exact hK' _ _ (hK v' w' h1 h2 h3)
theorem run_build_pend (w : World) (a : Int) (g : Nat) : (Instr.buildSlice 150 1 #[(0, .agg #[.int .i64 a, .slice (some ⟨g, 0, none⟩) 64 64])]).run Tryz.prog w = .ok (.slice (some ⟨w.heap.size, 0, none⟩) 1 1) (w.alloc (.cells #[.int .i64 a, .slice (some ⟨g, 0, none⟩) 64 64] 205)) := by kernel_rfl
theorem PendAt.mono {F G : Nat → Prop} {w : World} {v : Value} {W : List Pend} (h : PendAt F w v W) (hd : ∀ k, F k → G k) : PendAt G w v W := by
  obtain ⟨gs, h1, h2, h3, h4⟩ := h
  exact ⟨gs, h1, h2, fun g hg => hd g (h3 g hg), fun i hi hi2 => ⟨(h4 i hi hi2).1, hd _ (h4 i hi hi2).2⟩⟩
theorem PendAt.own {F : Nat → Prop} {w : World} {v : Value} {W : List Pend} (h : PendAt F w v W) : ∀ g, v.ownBlock = some g → F g := by
  obtain ⟨gs, h1, h2, h3, h4⟩ := h
  exact h3
theorem rWrite_down (w : World) (g : Nat) (va vw vb : Value) (k l a : Int) (h : DevH w g va vw k l true) :
    Calls Tryz.prog 115 #[.pointer (some ⟨g, 0, none⟩), .int .i64 a, vb] w fun e w' => e = .returned (.int .i64 10) ∧ w = w' := by
  obtain ⟨_, _, _, _, h4⟩ := h.cells
  clear h
  go_enter Tryz.func115, Tryz.ntmps115
  go_wp2
  go_ret
  exact ⟨rfl, rfl⟩
set_option maxRecDepth 100000 in
set_option maxHeartbeats 4000000 in
theorem rWrite_ok {F G : Nat → Prop} (w : World) (g ga s a : Nat) (vw vb : Value) (Wt : List Pend) (b : List UInt8) (k l : Int) (h : DevH w g (.slice (some ⟨ga, 0, none⟩) (64 * s) (64 * s)) vw k l false) (hP : PendAt F w vw Wt) (hb : BytesIn G w vb b) (hGw : ∀ i, G i → i < w.heap.size ∧ i ≠ g) (hbl : b.length ≤ 64) (ha : a < s) (hs : s ≤ 8192) (hgF : ¬ F g)
    (hk0 : 0 ≤ k) (hk : k ≤ 1000000000) (hl0 : 0 ≤ l) (hll : l ≤ 9223372036854775807) (hl1 : l ≠ 1) (hn6 : Wt.length + 1 ≤ 1000000) :
    Calls Tryz.prog 115 #[.pointer (some ⟨g, 0, none⟩), .int .i64 a, vb] w fun e w' => e = .returned (.int .i64 0) ∧ ∃ vw', DevH w' g (.slice (some ⟨ga, 0, none⟩) (64 * s) (64 * s)) vw' (k + 1) (if l = 0 then 0 else l - 1) false ∧ PendAt (fun i => F i ∨ w.heap.size ≤ i) w' vw' (Wt ++ [(a, full64 b)]) ∧ Fr (fun i => i = g ∨ F i) w w' := by
  obtain ⟨ab, cb, hvb, _, _⟩ : ∃ ao cap, vb = .slice ao b.length cap ∧ True ∧ True := by obtain ⟨x, y, hx, _⟩ := hb; exact ⟨x, y, hx, trivial, trivial⟩
  subst hvb
  have hsec := fun W vw k l dn h => rSectors_any W g (some ⟨ga, 0, none⟩) s (64 * s) vw k l dn h hs
  have hd0 := rdeed_any w g (.slice (some ⟨ga, 0, none⟩) (64 * s) (64 * s)) vw k l false hk0 hk hl0 hll h
  rw [decide_eq_true hl1, if_neg hl1, if_neg hl1] at hd0
  have hs0 := hsec w vw k l false h
  obtain ⟨m, hm⟩ : ∃ m : Nat, m = 64 * s := ⟨_, rfl⟩
  rw [← hm] at h hd0 ⊢
  obtain ⟨l', hl'⟩ : ∃ x : Int, x = if l = 0 then 0 else l - 1 := ⟨_, rfl⟩
  rw [← hl'] at hd0 ⊢
  obtain ⟨Z, hZ⟩ : ∃ Z, Z = ((List.replicate 64 (0 : UInt8)).map bv).toArray := ⟨_, rfl⟩
  have hmk := fun W => run_make_bytes W 64 64 rfl (by decide)
  rw [← hZ] at hmk
  obtain ⟨_, _, _, _, c4⟩ := h.cells
  obtain ⟨q, hq⟩ : ∃ q, q = b.length := ⟨_, rfl⟩
  have d1 : decide ((a : Int) < 0) = false := by rw [decide_eq_false_iff_not]; omega
  have d2 : decide ((s : Int) ≤ (a : Int)) = false := by rw [decide_eq_false_iff_not]; omega
  have d3 : decide (64 < (q : Int)) = false := by rw [decide_eq_false_iff_not]; omega
  have d4 : decide (s ≤ a) = false := by rw [decide_eq_false_iff_not]; omega
  have d5 : decide (64 < q) = false := by rw [decide_eq_false_iff_not]; omega
  have d6 : ¬ s ≤ a := by omega
  have d7 : ¬ 64 < q := by omega
  have HB := Lib.hid hb
  rw [← hq] at HB ⊢
  have HD := Lib.hid hd0
  have HS := Lib.hid hs0
  have HZ := Lib.hid hZ
  have HX := Lib.hid (And.intro hP (And.intro hGw (And.intro hbl (And.intro hgF hn6))))
  have HQ := Lib.hid hq
  have HGL := Lib.hid (lt_of_block h)
  clear hsec hd0 hs0 hm hl' hZ hP hGw hbl hgF hn6 h hq hb hk0 hk hl0 hll hl1 ha hs
  go_enter Tryz.func115, Tryz.ntmps115
  go_wp2_with (first
    | (go_at_call 83; (with_reducible refine HS.out.mono ?_); rintro e w0 ⟨rfl, rfl⟩)
    | (go_at_call 144; (with_reducible refine HD.out.mono ?_); rintro e w1 ⟨rfl, hh, hf⟩; (have HH := Lib.hid hh); (have HF := Lib.hid hf); (have HZ1 := Lib.hid (show BytT (w1.alloc (.cells Z 5)) w1.heap.size 5 (List.replicate 64 0) by rw [HZ.out]; exact heap_alloc_new w1 _)); (have HB1 := Lib.hid ((HB.out.keep hf (fun i hi hg e => (HX.out.2.1 i hg).2 e)).keep ((Fr.refl (fun _ => False) w1).alloc (.cells Z 5)) (fun _ _ _ h => h))); clear hh hf)
    | (refine wpList_copy_full (G := G) (w1.alloc (.cells Z 5)) rfl (.tmp 29) (.tmp 30) rfl w1.heap.size (.slice ab q cb) b rfl rfl HZ1.out HB1.out HX.out.2.2.1 ?_; intro v2 w2 hb2 hf2; (have HB2 := Lib.hid hb2); (have HF2 := Lib.hid (show Fr (fun _ => False) w1 w2 from ((Fr.refl (fun _ => False) w1).alloc (.cells Z 5)).trans hf2 (fun i e => .inr (by rw [show i = _ from e]; exact Nat.le_refl _)))); (have HH2 := Lib.hid (HH.out.keep HF2.out (fun h => h))); (have HP2 := Lib.hid ((HX.out.1.keep HF.out (fun i _ hi e => HX.out.2.2.2.1 (e ▸ hi))).keep HF2.out (fun _ _ _ h => h))); (have c1 := HH2.out.cells.2.1); clear hb2 hf2; (have HGF := Lib.hid (show w.heap.size ≤ w1.heap.size from HF.out.size)); (have HG2 := Lib.hid (show w1.heap.size ≤ w2.heap.size from HF2.out.size)); generalize w1.heap.size = gf at *)
    | (refine wpList_one rfl 150 (.tmp 39) rfl (.agg #[.int .i64 a, .slice (some ⟨gf, 0, none⟩) 64 64]) (.slice (some ⟨w2.heap.size, 0, none⟩) 1 1) (w2.alloc (.cells #[.int .i64 a, .slice (some ⟨gf, 0, none⟩) 64 64] 205)) rfl (run_build_pend w2 a gf) ?_)
    | (refine wpList_append_pend (F := F) (w2.alloc (.cells #[.int .i64 a, .slice (some ⟨gf, 0, none⟩) 64 64] 205)) rfl (.tmp 36) (.tmp 40) rfl vw Wt (a, full64 b) gf w2.heap.size rfl rfl (HP2.out.keep ((Fr.refl (fun _ => False) w2).alloc _) (fun _ _ _ h => h)) (heap_alloc_new w2 _) (((Fr.refl (fun _ => False) w2).alloc _).heap HB2.out (fun h => h)) HX.out.2.2.2.2 ?_; intro v4 w4 hp4 hg4 hk4; (have HP4 := Lib.hid hp4); (have HG4 := Lib.hid hg4); (have HH4 := Lib.hid (show DevH w4 g (.slice (some ⟨ga, 0, none⟩) m m) vw (k + 1) l' false from (HH2.out.keep ((Fr.refl (fun _ => False) w2).alloc _) (fun h => h)).keep ((Fr.refl (fun x => vw.ownBlock = some x) _).grown hg4 (fun x hx => .inl hx)) (fun e => HX.out.2.2.2.1 (HX.out.1.own g e)))); (have d1' := HH4.out.cells.2.1); (have d2' := HH4.out.free 1); obtain ⟨a4, q4, hv4, _, _⟩ := hp4.form; subst hv4; clear hp4 hg4 hk4 c1))
  go_ret
  refine ⟨rfl, _, HH4.out.put1 _, ?_, ?_⟩
  · have hp4 := HP4.out
    rw [show (Wt ++ [(a, full64 b)]).length = Wt.length + 1 by simp] at hp4
    refine (hp4.keep (Fr.cell1 w4 g 1 _) (fun i _ hi e => ?_)).mono (fun i hi => ?_)
    · have h1 := HGL.out
      have h2 := HGF.out
      have h3 := HG2.out
      rcases hi with hi | hi | hi
      · exact HX.out.2.2.2.1 (e ▸ hi)
      · simp at hi; omega
      · omega
    · have h2 := HGF.out
      have h3 := HG2.out
      rcases hi with hi | hi | hi
      · exact .inl hi
      · simp at hi; exact .inr (by omega)
      · exact .inr (by omega)
  · have hA : Fr (fun i => i = g ∨ F i) w w1 := HF.out.mono (fun _ _ e => .inl e)
    have hB : Fr (fun i => i = g ∨ F i) w w2 := hA.trans HF2.out (fun _ h => h.elim)
    exact ((hB.alloc _).grown HG4.out (fun x hx => .inl (.inr (HX.out.1.own x hx)))).trans (Fr.cell1 w4 g 1 _) (fun i e => .inl (.inl e))
end Go.Proofs.YtldgcoikbjbjeaaGreat
namespace Go.Proofs.YtldgcoikbjbjeaaGreat
open Go.RowKit Go.ChangeShapes
set_option linter.unusedVariables false
def numsB (N : List Nat) : List UInt8 := (N.map (numBytes 5)).flatten
theorem numsB_take_succ (N : List Nat) (k : Nat) (h : k < N.length) : numsB (N.take (k + 1)) = numsB (N.take k) ++ numBytes 5 N[k] := by
  rw [numsB, numsB, List.take_succ_eq_append_getElem h, List.map_append, List.flatten_append]
  simp
theorem numsB_len (N : List Nat) : (numsB N).length ≤ 6 * N.length := by
  induction N with
  | nil => simp [numsB]
  | cons a N ih =>
    have := (numBytes_len 5 a).2
    simp only [numsB, List.map_cons, List.flatten_cons, List.length_append, List.length_cons] at ih ⊢
    omega
theorem Hd.bytes_eq (h : Hd) : h.bytes = numsB [h.area, h.size, h.used, h.round] := by simp [Hd.bytes, numsB]
set_option maxRecDepth 100000 in
set_option maxHeartbeats 1000000 in
theorem makerNums_any {F : Nat → Prop} {b s : Nat} {N : List Nat} (w : World) (hF : ∀ k, w.heap.size ≤ k → F k) (hm : MakAt F w b (some [])) (hs : ∀ i (h : i < N.length), w.cell? ⟨s, i, none⟩ = some (.int .i64 (N[i] : Nat))) (hsF : ¬ F s) (hN : ∀ n ∈ N, n ≤ 1099511627776) (hl : N.length ≤ 100) :
    Calls Tryz.prog 79 #[.pointer (some ⟨b, 0, none⟩), .slice (some ⟨s, 0, none⟩) N.length N.length] w fun r w' => r = .returned (.pointer (some ⟨b, 0, none⟩)) ∧ Fr F w w' ∧ MakAt F w' b (some (numsB N)) := by
  have H := Lib.hid (And.intro hF (And.intro hm (And.intro hs (And.intro hsF hN))))
  obtain ⟨l, hll⟩ : ∃ l, l = N.length := ⟨_, rfl⟩
  rw [← hll] at hl ⊢
  have HL := Lib.hid hll
  clear hF hm hs hsF hN hll
  go_enter Tryz.func79, Tryz.ntmps79
  go_wp2
  go_loopw [11] (fun iv wr => ∃ k : Nat, k ≤ l ∧ iv = .int .i64 k ∧ Hid (Fr F w wr ∧ MakAt F wr b (some (numsB (N.take k))))) (fun iv _ => l - (intOf iv).toNat)
  case atStart => exact ⟨0, by omega, rfl, Lib.hid ⟨Fr.refl _ _, H.out.2.1⟩⟩
  case round =>
    obtain ⟨k, hk, rfl, hR⟩ := hrel
    by_cases hlt : k < l
    · have hkN : k < N.length := by rw [← HL.out]; exact hlt
      obtain ⟨x, hx⟩ : ∃ x, x = N[k] := ⟨_, rfl⟩
      have hc := hR.out.1.cell (H.out.2.2.1 k hkN) H.out.2.2.2.1
      rw [← hx] at hc
      have HNX := Lib.hid (number_any x wr (H.out.2.2.2.2 x (by rw [hx]; exact List.getElem_mem _)) (fun j hj => H.out.1 j (Nat.le_trans hR.out.1.size hj)) hR.out.2 (fun L hL => by
        cases hL
        have h1 := numsB_len (N.take k)
        rw [List.length_take] at h1
        omega))
      have HS := Lib.hid (numsB_take_succ N k hkN)
      rw [← hx] at HS
      have hk0 : (0 : Int) ≤ (k : Int) := by omega
      have hk1 : (k : Int) < (l : Int) := by omega
      clear hx hkN
      go_wp2_with (go_at_call 111; refine HNX.out.mono ?_; rintro e w1 ⟨rfl, hf1, hM1⟩; (have H1 := Lib.hid (show Fr F w w1 ∧ MakAt F w1 b (some (numsB (N.take (k + 1)))) by rw [HS.out]; exact ⟨hR.out.1.trans hf1 (fun _ h => .inl h), hM1⟩)); clear hf1 hM1)
      go_roundw
      case rel => exact ⟨k + 1, by omega, by go_num, H1⟩
      case measure => simp [intOf]; omega
    · obtain rfl : k = l := by omega
      have HQ := Lib.hid (show Fr F w wr ∧ MakAt F wr b (some (numsB N)) by have h := hR.out; rw [List.take_of_length_le (by rw [← HL.out]; exact Nat.le_refl _)] at h; exact h)
      clear hR
      go_wp2
      go_ret
      exact ⟨rfl, HQ.out⟩
theorem OwnB.ofBlock {F : Nat → Prop} {w : World} {g n : Nat} {L : List UInt8} (h : BytT w g 5 L) (hl : L.length = n) (hn : n ≤ 1000000) (hF : F g) : OwnB F w (.slice (some ⟨g, 0, none⟩) n n) L := by
  subst hl
  refine ⟨⟨by simp, .inr ⟨g, L.length, (L.map bv).toArray, rfl, Nat.zero_le _, h, Nat.le_refl _, by unfold maxLen; omega, by simp, by simp [List.take_of_length_le]⟩⟩, fun k hk => ?_⟩
  simp only [Value.ownBlock, Option.some.injEq] at hk
  exact hk ▸ hF
set_option maxRecDepth 100000 in
set_option maxHeartbeats 1000000 in
theorem lPadded_any (w : World) (s : Nat) (N : List Nat) (hs : ∀ i (h : i < N.length), w.cell? ⟨s, i, none⟩ = some (.int .i64 (N[i] : Nat))) (hsl : s < w.heap.size) (hN : ∀ n ∈ N, n ≤ 1099511627776) (hl : N.length ≤ 10) (hb : (numsB N).length ≤ 64) :
    Calls Tryz.prog 127 #[.slice (some ⟨s, 0, none⟩) N.length N.length] w fun e w' => ∃ v, e = .returned v ∧ OwnB (fun k => w.heap.size ≤ k) w' v (full64 (numsB N)) ∧ Fr (fun _ => False) w w' := by
  have hmk := fun w : World => run_make_bytes w 64 64 rfl (by decide)
  obtain ⟨Z, hZ⟩ : ∃ Z, Z = ((List.replicate 64 (0 : UInt8)).map bv).toArray := ⟨_, rfl⟩
  obtain ⟨W1, hW1⟩ : ∃ W1, W1 = w.alloc (.cells Z 5) := ⟨_, rfl⟩
  obtain ⟨W2, hW2⟩ : ∃ W2, W2 = W1.alloc (.cells #[.pointer none, .int .i64 0, .bool false] 146) := ⟨_, rfl⟩
  rw [← hZ] at hmk
  have hf1 : Fr (fun _ => False) w W1 := by rw [hW1]; exact (Fr.refl _ _).alloc _
  have hf2 : Fr (fun _ => False) w W2 := by rw [hW2]; exact hf1.alloc _
  have hz1 : W1.heap.size = w.heap.size + 1 := by rw [hW1]; simp
  have hz2 : W2.heap.size = w.heap.size + 2 := by rw [hW2]; simp [hz1]
  have hB1 : BytT W1 w.heap.size 5 (List.replicate 64 0) := by rw [hW1, hZ]; exact heap_alloc_new w _
  have hB2 : BytT W2 w.heap.size 5 (List.replicate 64 0) := by rw [hW2]; exact hB1.keep ((Fr.refl (fun _ => False) W1).alloc _) id
  have hm : MakAt (fun k => w.heap.size + 1 ≤ k) W2 (w.heap.size + 1) (some []) := ⟨Nat.le_refl _, 146, .inl ⟨rfl, by rw [hW2, ← hz1]; exact heap_alloc_new W1 _⟩⟩
  have HNUM := Lib.hid (makerNums_any W2 (fun k hk => by omega) hm (fun i h => hf2.cell (hs i h) id) (by omega) hN (by omega))
  have HB2 := Lib.hid hB2
  have HW := Lib.hid (And.intro hW1 (And.intro hW2 hf2))
  have HL := Lib.hid hb
  obtain ⟨l, hll⟩ : ∃ l, l = N.length := ⟨_, rfl⟩
  rw [← hll] at HNUM ⊢
  clear hs hsl hN hl hb hf1 hf2 hz1 hz2 hB1 hB2 hm hZ hW1 hW2 hll
  go_enter Tryz.func127, Tryz.ntmps127
  go_wp2_with (first
    | (go_at_call 79; rw [← HW.out.1, ← HW.out.2.1]; refine HNUM.out.mono ?_; rintro e w1 ⟨rfl, hf1, hm1⟩; (have H1 := Lib.hid (And.intro hf1 hm1)); clear hf1 hm1)
    | (go_at_call 80; refine (done_yes w1 H1.out.2 (by have := HL.out; omega)).mono ?_; rintro e w2 ⟨v, rfl, hf2, ho2⟩; (have H2 := Lib.hid (And.intro (H1.out.1.trans hf2 (fun _ h => h.elim)) ho2)); (have HZ := Lib.hid (HB2.out.keep H2.out.1 (by omega))); clear hf2 ho2)
    | (refine wpList_copy_full (G := fun k => w1.heap.size ≤ k) w2 rfl (.tmp 15) (.tmp 16) rfl w.heap.size v (numsB N) rfl rfl HZ.out H2.out.2.bytes HL.out ?_; intro v2 w3 hb3 hf3; (have H3 := Lib.hid (And.intro hb3 hf3)); clear hb3 hf3))
  go_ret
  exact ⟨_, rfl, OwnB.ofBlock H3.out.1 (full64_length _ HL.out) (by decide) (Nat.le_refl _), (HW.out.2.2.trans H2.out.1 (fun k h => .inr (by omega))).trans H3.out.2 (fun k h => .inr (by rw [show k = _ from h]; exact Nat.le_refl _))⟩
structure Hd.Num (h : Hd) : Prop where
  area : h.area ≤ 1099511627776
  size : h.size ≤ 1099511627776
  used : h.used ≤ 1099511627776
  round : h.round ≤ 1099511627776
theorem Hd.Right.num {h : Hd} {L A : Nat} (r : h.Right L A) (hL : L ≤ 8192) (hA : A ≤ 8192) : h.Num := by
  have := r.area; have := r.size; have := r.used; have := r.round
  exact ⟨by omega, by omega, by omega, by omega⟩
set_option maxRecDepth 100000 in
set_option maxHeartbeats 1000000 in
theorem lBytes_any (w : World) (h : Hd) (hn : h.Num) :
    Calls Tryz.prog 89 #[.agg #[.int .i64 h.area, .int .i64 h.size, .int .i64 h.used, .int .i64 h.round]] w fun e w' => ∃ v, e = .returned v ∧ OwnB (fun k => w.heap.size ≤ k) w' v h.sec ∧ Fr (fun _ => False) w w' := by
  obtain ⟨W1, hW1⟩ : ∃ W1, W1 = w.alloc (.cells #[.int .i64 h.area, .int .i64 h.size, .int .i64 h.used, .int .i64 h.round] 106) := ⟨_, rfl⟩
  obtain ⟨W2, hW2⟩ : ∃ W2, W2 = W1.alloc (.cells #[.int .i64 h.area, .int .i64 h.size, .int .i64 h.used, .int .i64 h.round] 3) := ⟨_, rfl⟩
  have hf1 : Fr (fun _ => False) w W1 := by rw [hW1]; exact (Fr.refl _ _).alloc _
  have hf2 : Fr (fun _ => False) w W2 := by rw [hW2]; exact hf1.alloc _
  have hz1 : W1.heap.size = w.heap.size + 1 := by rw [hW1]; simp
  have hz2 : W2.heap.size = w.heap.size + 2 := by rw [hW2]; simp [hz1]
  have hrow : W2.heap[w.heap.size + 1]? = some (.cells #[.int .i64 h.area, .int .i64 h.size, .int .i64 h.used, .int .i64 h.round] 3 (0, 0)) := by rw [hW2, ← hz1]; exact heap_alloc_new W1 _
  have hp := lPadded_any W2 (w.heap.size + 1) [h.area, h.size, h.used, h.round] (fun i hi => by
    rw [cell_of_row _ _ _ _ _ _ hrow]
    match i, hi with
    | 0, _ => rfl
    | 1, _ => rfl
    | 2, _ => rfl
    | 3, _ => rfl) (by omega) (fun n hm => by
      simp only [List.mem_cons, List.not_mem_nil, or_false] at hm
      have := hn.area; have := hn.size; have := hn.used; have := hn.round
      rcases hm with rfl | rfl | rfl | rfl <;> assumption) (by simp) (by rw [← Hd.bytes_eq]; have := h.bytes_le; omega)
  rw [← Hd.bytes_eq] at hp
  have HP := Lib.hid hp
  have HW := Lib.hid (And.intro hW1 (And.intro hW2 (And.intro hf2 hz2)))
  obtain ⟨x1, hx1⟩ : ∃ x, x = h.area := ⟨_, rfl⟩
  obtain ⟨x2, hx2⟩ : ∃ x, x = h.size := ⟨_, rfl⟩
  obtain ⟨x3, hx3⟩ : ∃ x, x = h.used := ⟨_, rfl⟩
  obtain ⟨x4, hx4⟩ : ∃ x, x = h.round := ⟨_, rfl⟩
  rw [← hx1, ← hx2, ← hx3, ← hx4] at HW ⊢
  clear hf1 hf2 hz1 hz2 hrow hp hW1 hW2 hn hx1 hx2 hx3 hx4
  go_enter Tryz.func89, Tryz.ntmps89
  go_wp2_with (first
    | (go_at_call 127; rw [← HW.out.1, ← HW.out.2.1]; refine HP.out.mono ?_; rintro e w1 ⟨v, rfl, ho1, hf1⟩; (have H1 := Lib.hid (And.intro ho1 hf1)); clear ho1 hf1))
  go_ret
  exact ⟨_, rfl, H1.out.1.mono (fun k _ hk => by have := HW.out.2.2.2; omega), HW.out.2.2.1.trans H1.out.2 (fun _ h => h.elim)⟩
theorem lRoom_any (w : World) (h : Hd) (l la d : Nat) (hl : l ≤ 8192) (hu : h.used ≤ 64 * l) :
    Calls Tryz.prog 96 #[.agg #[.int .i64 h.area, .int .i64 h.size, .int .i64 h.used, .int .i64 h.round], .agg #[.int .i64 l, .int .i64 la, .int .i64 d]] w fun e w' => e = .returned (.int .i64 ((64 * l - h.used : Nat) : Int)) ∧ Fr (fun _ => False) w w' := by
  obtain ⟨x3, hx3⟩ : ∃ x, x = h.used := ⟨_, rfl⟩
  rw [← hx3] at hu ⊢
  clear hx3
  go_enter Tryz.func96, Tryz.ntmps96
  go_wp2
  go_ret
  exact ⟨ret_int (a := (l : Int) * 64 - (x3 : Int)) (by omega), ((Fr.refl _ _).alloc _).alloc _⟩
theorem lLast_any (w : World) (h : Hd) (b : Bool) (hb : decide (1099511627776 ≤ h.round) = b) :
    Calls Tryz.prog 106 #[.agg #[.int .i64 h.area, .int .i64 h.size, .int .i64 h.used, .int .i64 h.round]] w fun e w' => e = .returned (.bool b) ∧ Fr (fun _ => False) w w' := by
  obtain ⟨x3, hx3⟩ : ∃ x, x = h.round := ⟨_, rfl⟩
  rw [← hx3] at hb ⊢
  clear hx3
  have hb2 : decide (1099511627776 ≤ (x3 : Int)) = b := by rw [← hb]; exact decide_eq_decide.2 (by omega)
  clear hb
  cases b
  · have h2 : ¬ (1099511627776 ≤ (x3 : Int)) := by simpa using hb2
    clear hb2
    go_enter Tryz.func106, Tryz.ntmps106
    go_wp2
    go_ret
    exact ⟨rfl, (Fr.refl _ _).alloc _⟩
  · have h2 : 1099511627776 ≤ (x3 : Int) := by simpa using hb2
    clear hb2
    go_enter Tryz.func106, Tryz.ntmps106
    go_wp2
    go_ret
    exact ⟨rfl, (Fr.refl _ _).alloc _⟩
end Go.Proofs.YtldgcoikbjbjeaaGreat
