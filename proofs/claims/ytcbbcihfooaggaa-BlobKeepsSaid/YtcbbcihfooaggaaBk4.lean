/- Laid together: DAdd DOps -/
import Derived.Test.YtcbbcihfooaggaaBk3
import Derived.Deep.RegionLawGrows
import Derived.Great.BuildSlice
import Derived.Deep.RegionHeld3

namespace Go.Proofs.Ytcbbcihfooaggaa
open Go.RowKit Go.ChangeShapes
set_option linter.unusedVariables false
theorem op_copy {w w' : World} {o : Oper} {a : Act} {d s : Operand} {vd vs v : Value} (ho : o.op = .call { callee := .builtin .copy, args := #[d, s], argTypes := #[40, 40] }) (hd : a.eval d = vd) (hs : a.eval s = vs) (hr : ∀ ty, (Builtin.copy_ #[40, 40] ty #[vd, vs]).run Try.prog w = .ok v w') : (execOp a.eval o).run Try.prog w = .ok (.value v) w' := by
  obtain ⟨dd, op, ty, pos, aft, g⟩ := o
  simp only at ho
  subst ho
  simp [execOp, resolve, invoke, builtin, hd, hs, hr, Result.andThen]
theorem run_copy_wr {G : Nat → Prop} (w : World) (B a : Nat) (vb : Value) (b : List UInt8) (hz : w.heap[B]? = some (.cells (wrC (a, List.replicate 64 0)).toArray 123 (0, 0))) (hb : BytesIn G w vb b) (hl : b.length ≤ 64) :
    ∃ v w', (∀ ty, (Builtin.copy_ #[40, 40] ty #[.slice (some ⟨B, 1, none⟩) 64 64, vb]).run Try.prog w = .ok v w') ∧ w'.heap[B]? = some (.cells (wrC (a, full64 b)).toArray 123 (0, 0)) ∧ Fr (· = B) w w' := by
  obtain ⟨ao, cap, rfl, h1, h2, h3, h4⟩ := hb
  cases ao with
  | none =>
    have hb0 : b = [] := List.eq_nil_of_length_eq_zero (by have := h3 rfl; omega)
    subst hb0
    obtain rfl := h3 rfl
    exact ⟨_, w, fun ty => run_copy_nil (P := Try.prog) w 40 40 ty 5 ⟨B, 1, none⟩ 64 64 Try.underlying40 (by kernel_rfl), hz, Fr.refl _ _⟩
  | some ad =>
    have hr := fun ty => run_copy_row (P := Try.prog) w 40 40 ty 5 B 1 64 64 ad b.length cap (wrC (a, List.replicate 64 0)).toArray 123 (b.map bv) Try.underlying40 (by kernel_rfl) hz (by rw [List.length_map]; exact (Nat.min_eq_left hl).symm)
      (h4 ad rfl).1 (by rw [List.length_map, List.size_toArray, wrC_length _ (by simp)]; omega) (bv_one _)
    have e : ((wrC (a, List.replicate 64 0)).toArray.toList.take 1 ++ b.map bv ++ (wrC (a, List.replicate 64 0)).toArray.toList.drop (1 + (b.map bv).length)).toArray = (wrC (a, full64 b)).toArray := by
      have e1 : ((wrC (a, List.replicate 64 0)).drop (1 + (b.map bv).length)) = (List.replicate (64 - b.length) (0 : UInt8)).map bv := by
        rw [Nat.add_comm, wrC, List.drop_succ_cons, List.length_map, ← List.map_drop, List.drop_replicate]
      rw [show (wrC (a, List.replicate 64 0)).toArray.toList = wrC (a, List.replicate 64 0) from rfl, e1]
      simp [wrC, full64]
    rw [e] at hr
    exact ⟨_, _, hr, setRow_heap w B _ _ _ (0, 0) hz, (Fr.refl (· = B) w).setRow (.inl rfl) _⟩
theorem Try.infoD : (Try.prog.info? 123).map (fun i => (i.zero, i.size, i.bytes)) = some (some (.agg zWr), 65, 72) := by kernel_rfl
theorem fold_set : ∀ (l : List Value) (k : Nat) (cs : Array Value), k + l.length ≤ cs.size → ∀ i : Nat, ((l.zipIdx k).foldl (fun (cs : Array Value) (x : Value × Nat) => cs.setIfInBounds (0 + x.2) x.1) cs)[i]? = if k ≤ i ∧ i < k + l.length then l[i - k]? else cs[i]?
  | [], k, cs, _, i => by
    rw [if_neg (fun h => by simp at h; omega)]
    rfl
  | v :: l, k, cs, h, i => by
    rw [List.zipIdx_cons, List.foldl_cons, fold_set l (k + 1) _ (by simp at h ⊢; omega) i]
    simp only [List.length_cons] at h ⊢
    by_cases h1 : k + 1 ≤ i ∧ i < k + 1 + l.length
    · rw [if_pos h1, if_pos (by omega), show i - k = (i - (k + 1)) + 1 by omega, List.getElem?_cons_succ]
    · rw [if_neg h1, Nat.zero_add]
      by_cases h2 : i = k
      · subst h2
        rw [if_pos (by omega), Nat.sub_self, List.getElem?_cons_zero, Array.getElem?_setIfInBounds_self_of_lt (by omega)]
      · rw [if_neg (by omega), Array.getElem?_setIfInBounds_ne (by omega)]
theorem fill_whole (cells init : Array Value) (h : init.size = cells.size) : cells.zipIdx.foldl (fun cs (c, j) => cs.setIfInBounds (0 + j) c) init = cells := by
  have e : cells.zipIdx.foldl (fun cs (c, j) => cs.setIfInBounds (0 + j) c) init = (cells.toList.zipIdx 0).foldl (fun (cs : Array Value) (x : Value × Nat) => cs.setIfInBounds (0 + x.2) x.1) init := by
    rw [← Array.foldl_toList, Array.toList_zipIdx]
  rw [e]
  apply Array.ext_getElem?
  intro i
  rw [fold_set cells.toList 0 init (by simp; omega) i]
  by_cases hi : i < cells.size
  · rw [if_pos (by simp; omega)]
    simp
  · rw [if_neg (by simp; omega), Array.getElem?_eq_none (by omega), Array.getElem?_eq_none (by omega)]
theorem run_build_wr (w : World) (C : Array Value) (hC : C.size = 65) : (Instr.buildSlice 90 1 #[(0, .agg C)]).run Try.prog w = .ok (.slice (some ⟨w.heap.size, 0, none⟩) 1 1) (w.alloc (.cells C 123)) := by
  obtain ⟨i0, hi, hz0, hz1, hz2⟩ := info_parts Try.infoD
  refine run_buildSlice (P := Try.prog) w 90 123 1 #[(0, .agg C)] C i0 (.agg zWr) Try.underlying90 hi hz0 (by rw [hz1]; decide) (by rw [hz1]; decide) ?_
  rw [hz1]
  have e := fill_whole C ((Array.range (1 * 65)).map (fun k => (Value.agg zWr).cells[k % (Value.agg zWr).cells.size]!)) (by simp [hC])
  have hs : (Value.agg C).cells = C := rfl
  simp only [Instr.fill, hs, hC, Nat.zero_mul, Nat.zero_add, Array.size_map, Array.size_range]
  rw [if_neg (by simp)]
  simpa using e
theorem run_append_wr {F : Nat → Prop} (w : World) (ty : TypeId) (v : Value) (W : List Pend) (p : Pend) (b : Nat) (hP : WrAt F w v W) (hp : p.2.length = 64) (hb : w.heap[b]? = some (.cells (wrC p).toArray 123 (0, 0))) (hn : W.length + 1 ≤ 1000000) :
    ∃ v' w', (Builtin.append_ #[90, 90] ty #[v, .slice (some ⟨b, 0, none⟩) 1 1]).run Try.prog w = .ok v' w' ∧ WrAt (fun k => F k ∨ w.heap.size ≤ k) w' v' (W ++ [p]) ∧ w.grownBy w' v.ownBlock := by
  obtain ⟨i0, hi, hz0, hz1, hz2⟩ := info_parts Try.infoD
  obtain ⟨v', w', hr, k2, k3, k4, k5⟩ := run_append_own_at (P := Try.prog) w 0 90 ty 123 i0 (.agg zWr) 65 72 Try.underlying90 hi hz0 hz1 hz2 zWr_size (by decide) v W.length _ hP.1 ⟨b, 0, none⟩ 1 1 (wrC p)
    (by rw [wrC_length p hp]) (fun j u hu => by
      rw [addr_plain, Nat.zero_add, cell_of_row _ _ _ _ _ _ hb]
      simpa using hu) (wrC_one p) (by unfold maxLen; omega) (by omega) (Nat.zero_le _)
  refine ⟨v', w', hr, ⟨?_, ?_⟩, k3⟩
  · rw [List.length_append, List.length_singleton, flatD_snoc p W]
    exact k2
  · intro x hx
    rcases k5 with k5 | k5
    · exact .inl (hP.2 x (by rw [← k5, hx]))
    · rw [hx] at k5
      exact .inr (by have := Option.some.inj k5; omega)
theorem op_nilCheck {P : Program} {w : World} {o : Oper} {a : Act} {x : Operand} {p : Addr} (ho : o.op = .nilCheck x) (hx : a.eval x = .pointer (some p)) : (execOp a.eval o).run P w = .ok (.value (.pointer (some p))) w := by
  unfold execOp
  rw [ho]
  simp only [hx]
  rfl
theorem op_fieldAddr {P : Program} {w : World} {o : Oper} {a : Act} {x : Operand} {t : TypeId} {i : Nat} {v v' : Value} (ho : o.op = .fieldAddr t x i) (hx : a.eval x = v) (hr : (Instr.fieldAt t v i).run P w = .ok v' w) : (execOp a.eval o).run P w = .ok (.value v') w := by
  unfold execOp
  rw [ho]
  simp only [hx, Sem.run_bind, hr, Result.andThen_ok]
  rfl
theorem run_field_writes (w : World) (g : Nat) : (Instr.fieldAt 92 (.pointer (some ⟨g, 0, none⟩)) 1).run Try.prog w = .ok (.pointer (some ⟨g, 3, none⟩)) w := by kernel_rfl
theorem run_load_slice (w : World) (p : Addr) (vw : Value) (h : w.cell? p = some vw) : (Instr.loadAt 90 (.pointer (some p))).run Try.prog w = .ok vw w := by
  have ha : (isAgg 90).run Try.prog w = .ok false w := by kernel_rfl
  simp [Instr.loadAt, Instr.sureAddr, loadVar, ha, h, go_sem]
theorem op_append_wr {w w' : World} {o : Oper} {a : Act} {s x : Operand} {v vx v' : Value} (ho : o.op = Op.call { callee := Callee.builtin Builtin.append, args := #[s, x], argTypes := #[90, 90] }) (hs : a.eval s = v) (hx : a.eval x = vx) (hr : (Builtin.append_ #[90, 90] o.type #[v, vx]).run Try.prog w = .ok v' w') : (execOp a.eval o).run Try.prog w = .ok (.value v') w' := by
  obtain ⟨dd, op, ty, pos, aft, g⟩ := o
  simp only at ho hr
  subst ho
  simp [execOp, resolve, invoke, builtin, hs, hx, hr, Result.andThen]
theorem built_wr (a : Nat) : Try.prog.built 123 [(0, .int .i64 a)] = some (wrC (a, List.replicate 64 0)).toArray := by kernel_rfl
set_option maxRecDepth 100000 in
set_option maxHeartbeats 4000000 in
theorem dAdd_any {F G : Nat → Prop} (w : World) (g kb s a : Nat) (vw vb : Value) (Wt : List Pend) (b : List UInt8) (k l : Int) (dn : Bool) (h : DvH w g kb s vw k l dn) (hP : WrAt F w vw Wt) (hb : BytesIn G w vb b) (hGw : ∀ i, G i → i < w.heap.size ∧ i ≠ g) (hbl : b.length ≤ 64) (hgF : ¬ F g) (hn6 : Wt.length + 1 ≤ 1000000) :
    Calls Try.prog 75 #[.pointer (some ⟨g, 0, none⟩), .int .i64 a, vb] w fun e w' => e = .returned (.tuple #[]) ∧ ∃ vw', DvH w' g kb s vw' k l dn ∧ WrAt (fun i => F i ∨ w.heap.size ≤ i) w' vw' (Wt ++ [(a, full64 b)]) ∧ Fr (fun i => i = g ∨ F i) w w' := by
  obtain ⟨Ca, hCa⟩ : ∃ Ca, Ca = (wrC (a, List.replicate 64 0)).toArray := ⟨_, rfl⟩
  have hCas : Ca.size = 65 := by rw [hCa]; simp [wrC_length]
  have hCa1 : Ca.all (·.oneCell') = true := by rw [hCa]; exact all_oneCell_toArray (wrC_one _)
  have hz2 : (Try.prog.info? 123).map (·.size) = some Ca.size := by rw [hCas]; kernel_rfl
  have hzs : zWr.size = Ca.size := by rw [zWr_size, hCas]
  have hbt := built_wr a
  rw [← hCa] at hbt
  have hzv := zWr_zero
  have hf0 : Fr (fun _ => False) w (w.alloc (.cells Ca 123)) := (Fr.refl _ _).alloc _
  obtain ⟨v2, w2, hcp, hrow, hf2⟩ := run_copy_wr (w.alloc (.cells Ca 123)) w.heap.size a vb b (by rw [hCa]; exact heap_alloc_new w _) (hb.keep hf0 (fun _ _ _ h => h)) hbl
  have hf3 : Fr (fun _ => False) w w2 := hf0.trans hf2 (fun i e => .inr (by rw [show i = _ from e]; exact Nat.le_refl _))
  have hl64 := full64_length b hbl
  obtain ⟨C, hC⟩ : ∃ C, C = (wrC (a, full64 b)).toArray := ⟨_, rfl⟩
  have hCs : C.size = 65 := by rw [hC, List.size_toArray]; exact wrC_length (a, full64 b) hl64
  rw [← hC] at hrow
  have hz3 : (Try.prog.info? 123).map (·.size) = some C.size := by rw [hCs]; kernel_rfl
  have hbd := fun W => run_build_wr W C hCs
  have H2 := Lib.hid (h.keep hf3 id)
  have HP2 := Lib.hid (hP.keep hf3 (fun _ _ _ h => h))
  have HF3 := Lib.hid hf3
  have HROW := Lib.hid hrow
  have HC := Lib.hid hC
  have HL := Lib.hid (And.intro hl64 (And.intro hgF hn6))
  have HCP := Lib.hid hcp
  have HGS := Lib.hid (show w.heap.size + 1 ≤ w2.heap.size by have := hf2.size; simpa using this)
  have HGL := Lib.hid h.lt
  clear h hP hb hGw hf0 hf2 hf3 hrow hl64 hgF hn6 hC hCs hCas hCa hcp
  go_enter Try.func75, Try.ntmps75
  go_wp2_with (first
    | (refine wpList_value rfl (.agg Ca) w (op_build (vs := #[(0, .int .i64 a)]) rfl (by simp [Act.eval, Act.put]) hbt) ?_)
    | (with_reducible refine wpList_store_new rfl 123 (.tmp 6) (.tmp 8) rfl Ca zWr 123 w rfl rfl rfl hz2 hzs hCa1 ?_)
    | (refine wpList_value rfl v2 w2 (op_copy rfl rfl rfl HCP.out) ?_))
  go_simp
  have hld : ∀ W, W.heap[w.heap.size]? = some (.cells C 123 (0, 0)) → (Instr.loadAt 123 (.pointer (some ⟨w.heap.size, 0, none⟩))).run Try.prog W = .ok (.agg C) W := fun W hW => by
    have hr : W.rangeAt w.heap.size 0 C.toList := fun j v hv => by
      rw [Nat.zero_add, cell_of_row _ _ _ _ _ _ hW]
      simpa using hv
    have := run_loadAt_mid (P := Try.prog) W w.heap.size 0 123 C.toList _ hr Try.underlying123 rfl (by rw [Array.length_toList]; exact hz3)
    simpa using this
  obtain ⟨w3, hw3⟩ : ∃ w3, w3 = w2.drew.alloc (.cells C 123) := ⟨_, rfl⟩
  have hf4 : Fr (fun _ => False) w2 w3 := by rw [hw3]; exact ((Fr.refl _ w2).drew).alloc _
  have hnew : w3.heap[w2.drew.heap.size]? = some (.cells C 123 (0, 0)) := by rw [hw3]; exact heap_alloc_new _ _
  have hc1 := H2.out.cells.2.2.2.1
  have hc2 := (H2.out.keep hf4 id).cells.2.2.2.1
  obtain ⟨v5, w5, hap, hp5, hg5⟩ := run_append_wr (F := F) w3 90 vw Wt (a, full64 b) w2.drew.heap.size (HP2.out.keep hf4 (fun _ _ _ h => h)) HL.out.1 (by rw [← HC.out]; exact hnew) HL.out.2.2
  obtain ⟨Wd, hWdE⟩ : ∃ Wd : (Nat → Bool) → World, ∀ f, Wd f = if f 7 = true then w5 else if f 6 = true then w3 else w2.drew := ⟨_, fun _ => rfl⟩
  have hWd : ∀ f g : Nat → Bool, (f 6 = g 6 ∧ f 7 = g 7) → Wd f = Wd g := fun f g h => by rw [hWdE, hWdE, h.1, h.2]
  generalize hgfe : w.heap.size = gf at *
  have HGF := Lib.hid hgfe
  clear hgfe
  refine wp_region_det 10 (by kernel_rfl) (by kernel_rfl) (fun i => match i with | 0 => .pointer (some ⟨g, 0, none⟩) | 1 => .pointer (some ⟨g, 0, none⟩) | 2 => .pointer (some ⟨g, 0, none⟩) | 3 => .pointer (some ⟨g, 3, none⟩) | 4 => vw | 5 => .agg C | 6 => .slice (some ⟨w2.drew.heap.size, 0, none⟩) 1 1 | 7 => v5 | 8 => .pointer (some ⟨g, 0, none⟩) | 9 => .pointer (some ⟨g, 3, none⟩) | _ => undef) Wd (by rw [hWdE]; rfl) (fun f g h => hWd f g ⟨h 6 (by decide), h 7 (by decide)⟩) ?_ ?_
  · intro i hi o ho
    replace hi : i < 10 := hi
    obtain rfl | rfl | rfl | rfl | rfl | rfl | rfl | rfl | rfl | rfl : i = 0 ∨ i = 1 ∨ i = 2 ∨ i = 3 ∨ i = 4 ∨ i = 5 ∨ i = 6 ∨ i = 7 ∨ i = 8 ∨ i = 9 := by omega
    · simp only [List.getElem?_cons_zero, Option.some.injEq] at ho
      subst ho
      intro a1 f hfi hfa hcl hS hE hU
      refine wpG_plain rfl ?_
      have v0 : a1.eval (.tmp 0) = .pointer (some ⟨g, 0, none⟩) := (hU 0 (by kernel_rfl)).trans rfl
      exact wp_value_inv (.pointer (some ⟨g, 0, none⟩)) (op_move rfl v0) ⟨rfl, hWd _ _ (by simp)⟩
    · simp only [List.getElem?_cons_zero, List.getElem?_cons_succ, Option.some.injEq] at ho
      subst ho
      intro a1 f hfi hfa hcl hS hE hU
      refine wpG_plain rfl ?_
      have v0 : a1.eval (.tmp 0) = .pointer (some ⟨g, 0, none⟩) := (hU 0 (by kernel_rfl)).trans rfl
      exact wp_value_inv (.pointer (some ⟨g, 0, none⟩)) (op_move rfl v0) ⟨rfl, hWd _ _ (by simp)⟩
    · simp only [List.getElem?_cons_zero, List.getElem?_cons_succ, Option.some.injEq] at ho
      subst ho
      intro a1 f hfi hfa hcl hS hE hU
      refine wpG_plain rfl ?_
      have v14 : a1.eval (.tmp 14) = .pointer (some ⟨g, 0, none⟩) := hE 1 14 (by kernel_rfl) (by kernel_rfl)
      exact wp_value_inv (.pointer (some ⟨g, 0, none⟩)) (op_nilCheck rfl v14) ⟨rfl, hWd _ _ (by simp)⟩
    · simp only [List.getElem?_cons_zero, List.getElem?_cons_succ, Option.some.injEq] at ho
      subst ho
      intro a1 f hfi hfa hcl hS hE hU
      refine wpG_plain rfl ?_
      have v15 : a1.eval (.tmp 15) = .pointer (some ⟨g, 0, none⟩) := hE 2 15 (by kernel_rfl) (by kernel_rfl)
      exact wp_value_inv (.pointer (some ⟨g, 3, none⟩)) (op_fieldAddr rfl v15 (run_field_writes _ g)) ⟨rfl, hWd _ _ (by simp)⟩
    · simp only [List.getElem?_cons_zero, List.getElem?_cons_succ, Option.some.injEq] at ho
      subst ho
      intro a1 f hfi hfa hcl hS hE hU
      refine wpG_plain rfl ?_
      have v16 : a1.eval (.tmp 16) = .pointer (some ⟨g, 3, none⟩) := hE 3 16 (by kernel_rfl) (by kernel_rfl)
      have f7 : f 7 = false := by
        cases h7 : f 7 with
        | false => rfl
        | true => rw [hcl 7 _ rfl h7 4 (by kernel_rfl)] at hfi; cases hfi
      have hc : (Wd f).cell? ⟨g, 3, none⟩ = some vw := by
        rw [hWdE, f7]
        cases f 6
        · exact hc1
        · exact hc2
      exact wp_value_inv (vw) (op_load_ rfl v16 (run_load_slice _ _ vw hc)) ⟨rfl, hWd _ _ (by simp)⟩
    · simp only [List.getElem?_cons_zero, List.getElem?_cons_succ, Option.some.injEq] at ho
      subst ho
      intro a1 f hfi hfa hcl hS hE hU
      refine wpG_plain rfl ?_
      have v6 : a1.eval (.tmp 6) = .pointer (some ⟨gf, 0, none⟩) := (hU 6 (by kernel_rfl)).trans rfl
      have f6 : f 6 = false := by
        cases h6 : f 6 with
        | false => rfl
        | true => rw [hcl 6 _ rfl h6 5 (by kernel_rfl)] at hfi; cases hfi
      have f7 : f 7 = false := by
        cases h7 : f 7 with
        | false => rfl
        | true => rw [hcl 7 _ rfl h7 6 (by kernel_rfl)] at f6; cases f6
      have hw : Wd f = w2.drew := by rw [hWdE, f6, f7]; rfl
      rw [hw]
      exact wp_value_inv (.agg C) (op_load_ rfl v6 (hld w2.drew HROW.out)) ⟨rfl, by rw [hWdE]; simp [f6, f7]⟩
    · simp only [List.getElem?_cons_zero, List.getElem?_cons_succ, Option.some.injEq] at ho
      subst ho
      intro a1 f hfi hfa hcl hS hE hU
      refine wpG_plain rfl ?_
      have v18 : a1.eval (.tmp 18) = .agg C := hE 5 18 (by kernel_rfl) (by kernel_rfl)
      have f7 : f 7 = false := by
        cases h7 : f 7 with
        | false => rfl
        | true => rw [hcl 7 _ rfl h7 6 (by kernel_rfl)] at hfi; cases hfi
      have hw : Wd f = w2.drew := by rw [hWdE, hfi, f7]; rfl
      rw [hw]
      exact wp_value_inv (.slice (some ⟨w2.drew.heap.size, 0, none⟩) 1 1) (op_rows (vs := #[(0, .agg C)]) rfl (by simp [v18]) (hbd _)) ⟨rfl, by rw [hWdE]; simp [f7, hw3]⟩
    · simp only [List.getElem?_cons_zero, List.getElem?_cons_succ, Option.some.injEq] at ho
      subst ho
      intro a1 f hfi hfa hcl hS hE hU
      refine wpG_plain rfl ?_
      have v17 : a1.eval (.tmp 17) = vw := hE 4 17 (by kernel_rfl) (by kernel_rfl)
      have v19 : a1.eval (.tmp 19) = .slice (some ⟨w2.drew.heap.size, 0, none⟩) 1 1 := hE 6 19 (by kernel_rfl) (by kernel_rfl)
      have f6 := hfa 6 (by kernel_rfl)
      have hw : Wd f = w3 := by rw [hWdE, hfi, f6]; rfl
      rw [hw]
      exact wp_value_inv v5 (op_append_wr rfl v17 v19 hap) ⟨rfl, by rw [hWdE]; simp⟩
    · simp only [List.getElem?_cons_zero, List.getElem?_cons_succ, Option.some.injEq] at ho
      subst ho
      intro a1 f hfi hfa hcl hS hE hU
      refine wpG_plain rfl ?_
      have v13 : a1.eval (.tmp 13) = .pointer (some ⟨g, 0, none⟩) := hE 0 13 (by kernel_rfl) (by kernel_rfl)
      exact wp_value_inv (.pointer (some ⟨g, 0, none⟩)) (op_nilCheck rfl v13) ⟨rfl, hWd _ _ (by simp)⟩
    · simp only [List.getElem?_cons_zero, List.getElem?_cons_succ, Option.some.injEq] at ho
      subst ho
      intro a1 f hfi hfa hcl hS hE hU
      refine wpG_plain rfl ?_
      have v21 : a1.eval (.tmp 21) = .pointer (some ⟨g, 0, none⟩) := hE 8 21 (by kernel_rfl) (by kernel_rfl)
      exact wp_value_inv (.pointer (some ⟨g, 3, none⟩)) (op_fieldAddr rfl v21 (run_field_writes _ g)) ⟨rfl, hWd _ _ (by simp)⟩
  · rw [hWdE]
    simp only [if_true]
    have hh5 : DvH w5 g kb s vw k l dn := (H2.out.keep hf4 id).keep ((Fr.refl (fun x => vw.ownBlock = some x) _).grown hg5 (fun x hx => .inl hx)) (fun e => HL.out.2.1 (HP2.out.2 g e))
    have hc5 := hh5.cells.2.2.2.1
    have hf5 := hh5.free 3
    have HH5 := Lib.hid hh5
    obtain ⟨a5, q5, hv5, _, _⟩ := hp5.form
    have HP5 := Lib.hid hp5
    have HG5 := Lib.hid (And.intro hg5 hf4)
    clear hh5 hp5 hg5 hf4 hap hld hbd hnew hWd hWdE hc1 hc2
    subst hv5
    simp only [acts, if_true, dstAt, List.getElem?_cons_zero, List.getElem?_cons_succ, Option.bind_some, Act.put, List.setIfInBounds_toArray, List.set_cons_succ, List.set_cons_zero, List.drop_succ_cons, List.drop_zero]
    go_wp2
    refine bodyPost_end (results_none rfl _ _ _) rfl ?_
    refine ⟨rfl, _, HH5.out.put3 _, ?_, ?_⟩
    · have h2 := HF3.out.size
      have h3 := HG5.out.2.size
      have hgl := HGL.out
      rw [← HGF.out] at hgl
      have hp := HP5.out
      rw [show (Wt ++ [(a, full64 b)]).length = Wt.length + 1 by simp] at hp
      refine (hp.keep (Fr.cell1 w5 g 3 _) (fun i _ hi e => ?_)).mono (fun i _ hi => hi.elim .inl (fun h => .inr (by omega)))
      rcases hi with hi | hi
      · exact HL.out.2.1 (e ▸ hi)
      · rw [show i = g from e] at hi; omega
    · have hA : Fr (fun i => i = g ∨ F i) w w3 := (HF3.out.trans HG5.out.2 (fun _ h => h.elim)).mono (fun _ _ h => h.elim)
      exact (hA.grown HG5.out.1 (fun x hx => .inl (.inr (HP2.out.2 x hx)))).trans (Fr.cell1 w5 g 3 _) (fun i e => .inl (.inl e))
end Go.Proofs.Ytcbbcihfooaggaa
namespace Go.Proofs.Ytcbbcihfooaggaa
open Go.RowKit Go.ChangeShapes
set_option linter.unusedVariables false
theorem Dv.flush_down {d : Dv} (h : d.down = true) : d.flush = (10, d) := by unfold Dv.flush; rw [if_pos h]
theorem Dv.flush_out {d : Dv} (h : d.down = false) (h1 : d.left = 1) : d.flush = (10, { d with left := 0, down := true }) := by
  unfold Dv.flush Dv.deed
  rw [if_neg (by rw [h]; decide), if_pos h1]
theorem Dv.flush_ok {d : Dv} (h : d.down = false) (h1 : d.left ≠ 1) : d.flush = (0, { all := wakeL (fun _ => true) 0 d.waits d.all, waits := [], left := d.left - 1, deeds := d.deeds + 1, down := d.down }) := by
  unfold Dv.flush Dv.deed
  rw [if_neg (by rw [h]; decide), if_neg h1]
theorem Dv.write_down {d : Dv} {s : Nat} {a : Int} {b : List UInt8} (h : d.down = true) : d.write s a b = (10, d) := by unfold Dv.write; rw [if_pos h]
theorem Dv.write_arg {d : Dv} {s : Nat} {a : Int} {b : List UInt8} (h : d.down = false) (h1 : a < 0 ∨ (s : Int) ≤ a ∨ 64 < b.length) : d.write s a b = (2, d) := by
  unfold Dv.write
  rw [if_neg (by rw [h]; decide), if_pos h1]
theorem Dv.write_out {d : Dv} {s : Nat} {a : Int} {b : List UInt8} (h : d.down = false) (h0 : ¬ (a < 0 ∨ (s : Int) ≤ a ∨ 64 < b.length)) (h1 : d.left = 1) : d.write s a b = (10, { d with left := 0, down := true }) := by
  unfold Dv.write Dv.deed
  rw [if_neg (by rw [h]; decide), if_neg h0, if_pos h1]
theorem Dv.write_ok {d : Dv} {s : Nat} {a : Int} {b : List UInt8} (h : d.down = false) (h0 : ¬ (a < 0 ∨ (s : Int) ≤ a ∨ 64 < b.length)) (h1 : d.left ≠ 1) : d.write s a b = (0, { all := d.all, waits := d.waits ++ [(a.toNat, full64 b)], left := d.left - 1, deeds := d.deeds + 1, down := d.down }) := by
  unfold Dv.write Dv.deed
  rw [if_neg (by rw [h]; decide), if_neg h0, if_neg h1]
structure DvM (w : World) (F : Nat → Prop) (g kb s : Nat) (vw : Value) (d : Dv) : Prop where
  head : ∃ l : Int, (d.down = false → l = d.left) ∧ 0 ≤ l ∧ l ≤ 9223372036854775807 ∧ DvH w g kb s vw d.deeds l d.down
  kept : BytT w kb 104 d.all
  wr : WrAt F w vw d.waits
  right : d.Right s
  sep : g ≠ kb ∧ ¬ F g ∧ ¬ F kb
  small : s ≤ 8192
theorem DvM.lt {w : World} {F : Nat → Prop} {g kb s : Nat} {vw : Value} {d : Dv} (h : DvM w F g kb s vw d) : g < w.heap.size ∧ kb < w.heap.size := by
  obtain ⟨l, _, _, _, hh⟩ := h.head
  exact ⟨hh.lt, h.kept.lt⟩
def DevAt (w : World) (D : Nat → Prop) (g s : Nat) (d : Dv) : Prop := ∃ F kb vw, DvM w F g kb s vw d ∧ ∀ k, k = g ∨ k = kb ∨ F k → D k
theorem DevAt.keep {D S : Nat → Prop} {w w' : World} {g s : Nat} {d : Dv} (h : DevAt w D g s d) (hf : Fr S w w') (hd : ∀ k, k < w.heap.size → D k → ¬ S k) : DevAt w' D g s d := by
  obtain ⟨F, kb, vw, hm, hD⟩ := h
  obtain ⟨hg, hk⟩ := hm.lt
  obtain ⟨l, h1, h2, h3, hh⟩ := hm.head
  exact ⟨F, kb, vw, ⟨⟨l, h1, h2, h3, hh.keep hf (hd g hg (hD g (.inl rfl)))⟩, hf.heap hm.kept (hd kb hk (hD kb (.inr (.inl rfl)))), hm.wr.keep hf (fun k hk hF => hd k hk (hD k (.inr (.inr hF)))), hm.right, hm.sep, hm.small⟩, hD⟩
theorem DevAt.mono {D E : Nat → Prop} {w : World} {g s : Nat} {d : Dv} (h : DevAt w D g s d) (hd : ∀ k, k < w.heap.size → D k → E k) : DevAt w E g s d := by
  obtain ⟨F, kb, vw, hm, hD⟩ := h
  obtain ⟨hg, hk⟩ := hm.lt
  refine ⟨fun k => F k ∧ k < w.heap.size, kb, vw, ⟨hm.head, hm.kept, hm.wr.mono (fun k hk hF => ⟨hF, hk⟩), hm.right, ⟨hm.sep.1, fun h => hm.sep.2.1 h.1, fun h => hm.sep.2.2 h.1⟩, hm.small⟩, fun k hk' => ?_⟩
  rcases hk' with rfl | rfl | hk'
  · exact hd _ hg (hD _ (.inl rfl))
  · exact hd _ hk (hD _ (.inr (.inl rfl)))
  · exact hd _ hk'.2 (hD _ (.inr (.inr hk'.1)))
theorem DevAt.right {D : Nat → Prop} {w : World} {g s : Nat} {d : Dv} (h : DevAt w D g s d) : d.Right s := by
  obtain ⟨F, kb, vw, hm, hD⟩ := h
  exact hm.right
theorem DevAt.lt {D : Nat → Prop} {w : World} {g s : Nat} {d : Dv} (h : DevAt w D g s d) : g < w.heap.size ∧ D g := by
  obtain ⟨F, kb, vw, hm, hD⟩ := h
  exact ⟨hm.lt.1, hD g (.inl rfl)⟩
abbrev More (D : Nat → Prop) (w : World) : Nat → Prop := fun k => D k ∨ w.heap.size ≤ k
theorem Dv.Right.same {d e : Dv} {s : Nat} (h : d.Right s) (h1 : e.all = d.all) (h2 : e.waits = d.waits) : e.Right s := ⟨by rw [h1]; exact h.all, by rw [h2]; exact h.waits⟩
theorem aCrash {D : Nat → Prop} (w : World) (g s : Nat) (d : Dv) (h : DevAt w D g s d) :
    Calls Try.prog 38 #[.pointer (some ⟨g, 0, none⟩)] w fun e w' => e = .returned (.int .i64 d.crash.1) ∧ DevAt w' (More D w) g s d.crash.2 ∧ Fr D w w' := by
  obtain ⟨F, kb, vw, hm, hD⟩ := h
  obtain ⟨l, h1, h2, h3, hh⟩ := hm.head
  refine (dCrash_any w g kb s vw d.deeds l d.down hh).mono ?_
  rintro e w' ⟨rfl, hh', hf⟩
  have hk' := hf.heap hm.kept (fun e => hm.sep.1 e.symm)
  have hw' := hm.wr.keep hf (fun k _ hF e => hm.sep.2.1 (e ▸ hF))
  have hfr := hf.mono (T := D) (fun k _ e => hD k (.inl e))
  unfold Dv.crash
  cases hd : d.down with
  | true =>
    simp only [if_true]
    exact ⟨trivial, ⟨F, kb, vw, ⟨⟨l, fun h => (by rw [hd] at h; cases h), h2, h3, by rw [hd]; exact hh'⟩, hk', hw', hm.right, hm.sep, hm.small⟩, fun k hk => .inl (hD k hk)⟩, hfr⟩
  | false => exact ⟨by rfl, ⟨F, kb, vw, ⟨⟨l, fun h => (by cases h), h2, h3, hh'⟩, hk', hw', hm.right.same rfl rfl, hm.sep, hm.small⟩, fun k hk => .inl (hD k hk)⟩, hfr⟩
theorem dSettle_any {F : Nat → Prop} {s : Nat} (w : World) (g kb : Nat) (L : List UInt8) (Wt : List Pend) (vw : Value) (k l : Int) (dn : Bool) (keep : Int) (hkp0 : -9223372036854775808 ≤ keep) (hkp1 : keep ≤ 9223372036854775807) (h : DvH w g kb s vw k l dn) (hL : BytT w kb 104 L) (hl : L.length = 64 * s) (hW : Pends s Wt)
    (hP : WrAt F w vw Wt) (hgF : ¬ F g) (hkF : ¬ F kb) (hne : g ≠ kb) (hs : s ≤ 8192) (hn6 : Wt.length ≤ 1000000) :
    Calls Try.prog 59 #[.pointer (some ⟨g, 0, none⟩), .int .i64 keep] w fun e w' => e = .returned (.tuple #[]) ∧ DvH w' g kb s (.slice none 0 0) k l dn ∧ BytT w' kb 104 (wakeL (bitOf keep) 0 Wt L) ∧ Fr (fun b => b = g ∨ b = kb) w w' := by
  obtain ⟨xs, rfl⟩ := exists_valsX Wt hW
  rw [wakeL_pick]
  exact callsIn_wide.1 (dSettle_in w g kb L xs vw k l dn keep hkp0 hkp1 h hL hl hP hgF hkF hne hs (by simpa [valsX] using hn6))
theorem wakeL_congr (f f' : Nat → Bool) (hf : ∀ i, f i = f' i) : ∀ (W : List Pend) (i : Nat) (K : List UInt8), wakeL f i W K = wakeL f' i W K
  | [], i, K => rfl
  | p :: W, i, K => by rw [wakeL, wakeL, wakeL_congr f f' hf W, hf i]
theorem aFlush {D : Nat → Prop} (w : World) (g s : Nat) (d : Dv) (hk6 : d.deeds ≤ 1000000000) (hn6 : d.waits.length ≤ 1000000) (h : DevAt w D g s d) :
    Calls Try.prog 52 #[.pointer (some ⟨g, 0, none⟩)] w fun e w' => e = .returned (.int .i64 d.flush.1) ∧ DevAt w' (More D w) g s d.flush.2 ∧ Fr D w w' := by
  have hR := h.right
  obtain ⟨F, kb, vw, hm, hD⟩ := h
  obtain ⟨l, h1, h2, h3, hh⟩ := hm.head
  have hc := dReady_any w g kb s vw d.deeds l d.down hh
  cases hd : d.down with
  | true =>
    rw [Dv.flush_down hd]
    rw [hd] at hc
    have HM := Lib.hid (show DevAt w (More D w) g s d from ⟨F, kb, vw, hm, fun k hk => .inl (hD k hk)⟩)
    clear hm hh hR h1
    go_enter Try.func52, Try.ntmps52
    go_wp2_with (go_at_call 46; refine hc.mono ?_; rintro e w1 ⟨rfl, rfl⟩)
    go_ret
    exact ⟨rfl, HM.out, Fr.refl _ _⟩
  | false =>
    have hl := h1 hd
    rw [hd] at hc hh
    have hde := dDeed_any w g kb s vw d.deeds l false (by omega) (by omega) h2 h3 hh
    by_cases e1 : d.left = 1
    · rw [Dv.flush_out hd e1]
      have el : l = 1 := by omega
      subst el
      have HDE := Lib.hid hde
      have HM := Lib.hid (And.intro hm (And.intro hD hR))
      clear hm hh hR h1 hde hl
      go_enter Try.func52, Try.ntmps52
      go_wp2_with (first
        | (go_at_call 46; refine hc.mono ?_; rintro e w1 ⟨rfl, rfl⟩)
        | (go_at_call 74; refine HDE.out.mono ?_; rintro e w1 ⟨rfl, hh, hf⟩; (have HS := Lib.hid (And.intro hh hf)); clear hh hf))
      go_ret
      obtain ⟨hm, hD, hR⟩ := HM.out
      obtain ⟨hh, hf⟩ := HS.out
      exact ⟨rfl, ⟨F, kb, vw, ⟨⟨1, fun h => (by cases h), by decide, by decide, hh⟩, hf.heap hm.kept (fun e => hm.sep.1 e.symm), hm.wr.keep hf (fun k _ hF e => hm.sep.2.1 (e ▸ hF)), hR.same rfl rfl, hm.sep, hm.small⟩, fun k hk => .inl (hD k hk)⟩, hf.mono (fun k _ e => hD k (.inl e))⟩
    · rw [Dv.flush_ok hd e1]
      have el : l ≠ 1 := by omega
      have et : decide (l ≠ 1) = true := by rw [decide_eq_true_iff]; exact el
      rw [et, if_neg el, if_neg el] at hde
      obtain ⟨l', hl'⟩ : ∃ l', l' = if l = 0 ∨ l = 1 then l else l - 1 := ⟨_, rfl⟩
      have hl2 : l' = ((d.left - 1 : Nat) : Int) := by rw [hl']; split <;> omega
      have hl3 : 0 ≤ l' ∧ l' ≤ 9223372036854775807 := by omega
      rw [← hl'] at hde
      have hst := fun W (hD : DvH W g kb s vw (d.deeds + 1) l' false) (hf : Fr (· = g) w W) => dSettle_any W g kb d.all d.waits vw (d.deeds + 1) l' false (-1) (by decide) (by decide) hD (hf.heap hm.kept (fun e => hm.sep.1 e.symm)) hR.all hR.waits (hm.wr.keep hf (fun k _ hF e => hm.sep.2.1 (e ▸ hF))) hm.sep.2.1 hm.sep.2.2 hm.sep.1 hm.small hn6
      have HDE := Lib.hid hde
      have HST := Lib.hid hst
      have HM := Lib.hid (And.intro hm (And.intro hD hR))
      have HL := Lib.hid (And.intro hl2 hl3)
      clear hm hh hR h1 hde hl hst hl2 hl3 hl'
      go_enter Try.func52, Try.ntmps52
      go_wp2_with (first
        | (go_at_call 46; refine hc.mono ?_; rintro e w1 ⟨rfl, rfl⟩)
        | (go_at_call 74; refine HDE.out.mono ?_; rintro e w1 ⟨rfl, hh, hf⟩; (have HS := Lib.hid (And.intro hh hf)); clear hh hf)
        | (go_at_call 59; refine (HST.out _ HS.out.1 HS.out.2).mono ?_; rintro e w2 ⟨rfl, hh, hb, hf⟩; (have HS2 := Lib.hid (And.intro hh (And.intro hb hf))); clear hh hb hf))
      go_ret
      obtain ⟨hm, hD, hR⟩ := HM.out
      obtain ⟨hh, hb, hf⟩ := HS2.out
      rw [wakeL_congr _ (fun _ => true) bitOf_all] at hb
      exact ⟨rfl, ⟨F, kb, _, ⟨⟨l', fun _ => HL.out.1, HL.out.2.1, HL.out.2.2, by rw [hd]; exact hh⟩, hb, WrAt.nil _ _, ⟨wakeL_length _ s d.waits 0 d.all hR.waits hR.all, fun p hp => by cases hp⟩, hm.sep, hm.small⟩, fun k hk => .inl (hD k hk)⟩, (HS.out.2.mono (fun k _ e => hD k (.inl e))).trans hf (fun k e => .inl (hD k (e.elim .inl (fun h => .inr (.inl h)))))⟩
theorem aWake {D : Nat → Prop} (w : World) (g s : Nat) (d : Dv) (keep : Int) (hkp0 : -9223372036854775808 ≤ keep) (hkp1 : keep ≤ 9223372036854775807) (hn6 : d.waits.length ≤ 1000000) (h : DevAt w D g s d) :
    Calls Try.prog 33 #[.pointer (some ⟨g, 0, none⟩), .int .i64 keep] w fun e w' => e = .returned (.int .i64 (d.wake keep).1) ∧ DevAt w' (More D w) g s (d.wake keep).2 ∧ Fr D w w' := by
  have hR := h.right
  obtain ⟨F, kb, vw, hm, hD⟩ := h
  obtain ⟨l, h1, h2, h3, hh⟩ := hm.head
  have hc := dReady_any w g kb s vw d.deeds l d.down hh
  unfold Dv.wake
  cases hd : d.down with
  | false =>
    rw [hd] at hc
    have HM := Lib.hid (show DevAt w (More D w) g s d from ⟨F, kb, vw, hm, fun k hk => .inl (hD k hk)⟩)
    clear hm hh hR h1
    go_enter Try.func33, Try.ntmps33
    go_wp2_with (go_at_call 46; refine hc.mono ?_; rintro e w1 ⟨rfl, rfl⟩)
    go_ret
    exact ⟨rfl, HM.out, Fr.refl _ _⟩
  | true =>
    rw [hd] at hc hh
    have hst := dSettle_any w g kb d.all d.waits vw d.deeds l true keep hkp0 hkp1 hh hm.kept hR.all hR.waits hm.wr hm.sep.2.1 hm.sep.2.2 hm.sep.1 hm.small hn6
    have hri := fun W h => dRise_any W g kb s (.slice none 0 0) d.deeds l true h
    have HST := Lib.hid hst
    have HRI := Lib.hid hri
    have HM := Lib.hid (And.intro hm (And.intro hD hR))
    clear hm hh hR h1 hst hri
    go_enter Try.func33, Try.ntmps33
    go_wp2_with (first
      | (go_at_call 46; refine hc.mono ?_; rintro e w1 ⟨rfl, rfl⟩)
      | (go_at_call 59; refine HST.out.mono ?_; rintro e w2 ⟨rfl, hh, hb, hf⟩; (have HS2 := Lib.hid (And.intro hh (And.intro hb hf))); clear hh hb hf)
      | (go_at_call 60; refine (HRI.out _ HS2.out.1).mono ?_; rintro e w3 ⟨rfl, hh, hf⟩; (have HS3 := Lib.hid (And.intro hh hf)); clear hh hf))
    go_ret
    obtain ⟨hm, hD, hR⟩ := HM.out
    obtain ⟨_, hb, hf⟩ := HS2.out
    obtain ⟨hh, hf3⟩ := HS3.out
    exact ⟨rfl, ⟨F, kb, _, ⟨⟨0, fun _ => rfl, by decide, by decide, hh⟩, hf3.heap hb (fun e => hm.sep.1 e.symm), WrAt.nil _ _, ⟨wakeL_length _ s d.waits 0 d.all hR.waits hR.all, fun p hp => by cases hp⟩, hm.sep, hm.small⟩, fun k hk => .inl (hD k hk)⟩, (hf.mono (fun k _ e => hD k (e.elim .inl (fun h => .inr (.inl h))))).trans hf3 (fun k e => .inl (hD k (.inl e)))⟩
end Go.Proofs.Ytcbbcihfooaggaa
