/- Laid together: DAdd JOps BlobL -/
import Derived.Test.YtcbbcihfooaggaaBe4
import Derived.Test.YtcbbcihfooaggaaBe1
import Derived.Deep.RegionLawGrows
import Derived.Great.BuildSlice
import Derived.Deep.RegionHeld3
import Derived.Deep.MidRow
import Derived.Test.YtcbbcihfooaggaaRows

namespace Go.Proofs.Ytcbbcihfooaggaa
open Go.RowKit Go.ChangeShapes
set_option linter.unusedVariables false
theorem op_copy {w w' : World} {o : Oper} {a : Act} {d s : Operand} {vd vs v : Value} (ho : o.op = .call { callee := .builtin .copy, args := #[d, s], argTypes := #[40, 40] }) (hd : a.eval d = vd) (hs : a.eval s = vs) (hr : ∀ ty, (Builtin.copy_ #[40, 40] ty #[vd, vs]).run Try.prog w = .ok v w') : (execOp a.eval o).run Try.prog w = .ok (.value v) w' := by
  obtain ⟨dd, op, ty, pos, aft, g⟩ := o
  simp only at ho
  subst ho
  simp [execOp, resolve, invoke, builtin, hd, hs, hr, Result.andThen]
theorem run_copy_wr {G : Nat → Prop} (w : World) (B a : Nat) (vb : Value) (b : List UInt8) (hz : w.heap[B]? = some (.cells (wrC (a, List.replicate 64 0)).toArray 123 (0, 0))) (hb : BytesIn G w vb b) (hl : b.length ≤ 64) :
    ∃ v w', (∀ ty, (Builtin.copy_ #[40, 40] ty #[.slice (some ⟨B, 1, none⟩) 64 64, vb]).run Try.prog w = .ok v w') ∧ w'.heap[B]? = some (.cells (wrC (a, full64 b)).toArray 123 (0, 0)) ∧ Fr (· = B) w w' := by
  obtain ⟨ao, cap, rfl, h1, h2, h3, h4⟩ := hb
  cases ao with
  | none =>
    have hb0 : b = [] := List.eq_nil_of_length_eq_zero (by have := h3 rfl; omega)
    subst hb0
    obtain rfl := h3 rfl
    exact ⟨_, w, fun ty => run_copy_nil (P := Try.prog) w 40 40 ty 5 ⟨B, 1, none⟩ 64 64 Try.underlying40 (by kernel_rfl), hz, Fr.refl _ _⟩
  | some ad =>
    have hr := fun ty => run_copy_row (P := Try.prog) w 40 40 ty 5 B 1 64 64 ad b.length cap (wrC (a, List.replicate 64 0)).toArray 123 (b.map bv) Try.underlying40 (by kernel_rfl) hz (by rw [List.length_map]; exact (Nat.min_eq_left hl).symm)
      (h4 ad rfl).1 (by rw [List.length_map, List.size_toArray, wrC_length _ (by simp)]; omega) (bv_one _)
    have e : ((wrC (a, List.replicate 64 0)).toArray.toList.take 1 ++ b.map bv ++ (wrC (a, List.replicate 64 0)).toArray.toList.drop (1 + (b.map bv).length)).toArray = (wrC (a, full64 b)).toArray := by
      have e1 : ((wrC (a, List.replicate 64 0)).drop (1 + (b.map bv).length)) = (List.replicate (64 - b.length) (0 : UInt8)).map bv := by
        rw [Nat.add_comm, wrC, List.drop_succ_cons, List.length_map, ← List.map_drop, List.drop_replicate]
      rw [show (wrC (a, List.replicate 64 0)).toArray.toList = wrC (a, List.replicate 64 0) from rfl, e1]
      simp [wrC, full64]
    rw [e] at hr
    exact ⟨_, _, hr, setRow_heap w B _ _ _ (0, 0) hz, (Fr.refl (· = B) w).setRow (.inl rfl) _⟩
theorem Try.infoD : (Try.prog.info? 123).map (fun i => (i.zero, i.size, i.bytes)) = some (some (.agg zWr), 65, 72) := by kernel_rfl
theorem fold_set : ∀ (l : List Value) (k : Nat) (cs : Array Value), k + l.length ≤ cs.size → ∀ i : Nat, ((l.zipIdx k).foldl (fun (cs : Array Value) (x : Value × Nat) => cs.setIfInBounds (0 + x.2) x.1) cs)[i]? = if k ≤ i ∧ i < k + l.length then l[i - k]? else cs[i]?
  | [], k, cs, _, i => by
    rw [if_neg (fun h => by simp at h; omega)]
    rfl
  | v :: l, k, cs, h, i => by
    rw [List.zipIdx_cons, List.foldl_cons, fold_set l (k + 1) _ (by simp at h ⊢; omega) i]
    simp only [List.length_cons] at h ⊢
    by_cases h1 : k + 1 ≤ i ∧ i < k + 1 + l.length
    · rw [if_pos h1, if_pos (by omega), show i - k = (i - (k + 1)) + 1 by omega, List.getElem?_cons_succ]
    · rw [if_neg h1, Nat.zero_add]
      by_cases h2 : i = k
      · subst h2
        rw [if_pos (by omega), Nat.sub_self, List.getElem?_cons_zero, Array.getElem?_setIfInBounds_self_of_lt (by omega)]
      · rw [if_neg (by omega), Array.getElem?_setIfInBounds_ne (by omega)]
theorem fill_whole (cells init : Array Value) (h : init.size = cells.size) : cells.zipIdx.foldl (fun cs (c, j) => cs.setIfInBounds (0 + j) c) init = cells := by
  have e : cells.zipIdx.foldl (fun cs (c, j) => cs.setIfInBounds (0 + j) c) init = (cells.toList.zipIdx 0).foldl (fun (cs : Array Value) (x : Value × Nat) => cs.setIfInBounds (0 + x.2) x.1) init := by
    rw [← Array.foldl_toList, Array.toList_zipIdx]
  rw [e]
  apply Array.ext_getElem?
  intro i
  rw [fold_set cells.toList 0 init (by simp; omega) i]
  by_cases hi : i < cells.size
  · rw [if_pos (by simp; omega)]
    simp
  · rw [if_neg (by simp; omega), Array.getElem?_eq_none (by omega), Array.getElem?_eq_none (by omega)]
theorem run_build_wr (w : World) (C : Array Value) (hC : C.size = 65) : (Instr.buildSlice 90 1 #[(0, .agg C)]).run Try.prog w = .ok (.slice (some ⟨w.heap.size, 0, none⟩) 1 1) (w.alloc (.cells C 123)) := by
  obtain ⟨i0, hi, hz0, hz1, hz2⟩ := info_parts Try.infoD
  refine run_buildSlice (P := Try.prog) w 90 123 1 #[(0, .agg C)] C i0 (.agg zWr) Try.underlying90 hi hz0 (by rw [hz1]; decide) (by rw [hz1]; decide) ?_
  rw [hz1]
  have e := fill_whole C ((Array.range (1 * 65)).map (fun k => (Value.agg zWr).cells[k % (Value.agg zWr).cells.size]!)) (by simp [hC])
  have hs : (Value.agg C).cells = C := rfl
  simp only [Instr.fill, hs, hC, Nat.zero_mul, Nat.zero_add, Array.size_map, Array.size_range]
  rw [if_neg (by simp)]
  simpa using e
theorem run_append_wr {F : Nat → Prop} (w : World) (ty : TypeId) (v : Value) (W : List Pend) (p : Pend) (b : Nat) (hP : WrAt F w v W) (hp : p.2.length = 64) (hb : w.heap[b]? = some (.cells (wrC p).toArray 123 (0, 0))) (hn : W.length + 1 ≤ 1000000) :
    ∃ v' w', (Builtin.append_ #[90, 90] ty #[v, .slice (some ⟨b, 0, none⟩) 1 1]).run Try.prog w = .ok v' w' ∧ WrAt (fun k => F k ∨ w.heap.size ≤ k) w' v' (W ++ [p]) ∧ w.grownBy w' v.ownBlock := by
  obtain ⟨i0, hi, hz0, hz1, hz2⟩ := info_parts Try.infoD
  obtain ⟨v', w', hr, k2, k3, k4, k5⟩ := run_append_own_at (P := Try.prog) w 0 90 ty 123 i0 (.agg zWr) 65 72 Try.underlying90 hi hz0 hz1 hz2 zWr_size (by decide) v W.length _ hP.1 ⟨b, 0, none⟩ 1 1 (wrC p)
    (by rw [wrC_length p hp]) (fun j u hu => by
      rw [addr_plain, Nat.zero_add, cell_of_row _ _ _ _ _ _ hb]
      simpa using hu) (wrC_one p) (by unfold maxLen; omega) (by omega) (Nat.zero_le _)
  refine ⟨v', w', hr, ⟨?_, ?_⟩, k3⟩
  · rw [List.length_append, List.length_singleton, flatD_snoc p W]
    exact k2
  · intro x hx
    rcases k5 with k5 | k5
    · exact .inl (hP.2 x (by rw [← k5, hx]))
    · rw [hx] at k5
      exact .inr (by have := Option.some.inj k5; omega)
theorem op_nilCheck {P : Program} {w : World} {o : Oper} {a : Act} {x : Operand} {p : Addr} (ho : o.op = .nilCheck x) (hx : a.eval x = .pointer (some p)) : (execOp a.eval o).run P w = .ok (.value (.pointer (some p))) w := by
  unfold execOp
  rw [ho]
  simp only [hx]
  rfl
theorem op_fieldAddr {P : Program} {w : World} {o : Oper} {a : Act} {x : Operand} {t : TypeId} {i : Nat} {v v' : Value} (ho : o.op = .fieldAddr t x i) (hx : a.eval x = v) (hr : (Instr.fieldAt t v i).run P w = .ok v' w) : (execOp a.eval o).run P w = .ok (.value v') w := by
  unfold execOp
  rw [ho]
  simp only [hx, Sem.run_bind, hr, Result.andThen_ok]
  rfl
theorem run_field_writes (w : World) (g : Nat) : (Instr.fieldAt 92 (.pointer (some ⟨g, 0, none⟩)) 1).run Try.prog w = .ok (.pointer (some ⟨g, 3, none⟩)) w := by kernel_rfl
theorem run_load_slice (w : World) (p : Addr) (vw : Value) (h : w.cell? p = some vw) : (Instr.loadAt 90 (.pointer (some p))).run Try.prog w = .ok vw w := by
  have ha : (isAgg 90).run Try.prog w = .ok false w := by kernel_rfl
  simp [Instr.loadAt, Instr.sureAddr, loadVar, ha, h, go_sem]
theorem op_append_wr {w w' : World} {o : Oper} {a : Act} {s x : Operand} {v vx v' : Value} (ho : o.op = Op.call { callee := Callee.builtin Builtin.append, args := #[s, x], argTypes := #[90, 90] }) (hs : a.eval s = v) (hx : a.eval x = vx) (hr : (Builtin.append_ #[90, 90] o.type #[v, vx]).run Try.prog w = .ok v' w') : (execOp a.eval o).run Try.prog w = .ok (.value v') w' := by
  obtain ⟨dd, op, ty, pos, aft, g⟩ := o
  simp only at ho hr
  subst ho
  simp [execOp, resolve, invoke, builtin, hs, hx, hr, Result.andThen]
theorem built_wr (a : Nat) : Try.prog.built 123 [(0, .int .i64 a)] = some (wrC (a, List.replicate 64 0)).toArray := by kernel_rfl
set_option maxRecDepth 100000 in
set_option maxHeartbeats 4000000 in
theorem dAdd_any {F G : Nat → Prop} (w : World) (g kb s a : Nat) (vw vb : Value) (Wt : List Pend) (b : List UInt8) (k l : Int) (dn : Bool) (h : DvH w g kb s vw k l dn) (hP : WrAt F w vw Wt) (hb : BytesIn G w vb b) (hGw : ∀ i, G i → i < w.heap.size ∧ i ≠ g) (hbl : b.length ≤ 64) (hgF : ¬ F g) (hn6 : Wt.length + 1 ≤ 1000000) :
    Calls Try.prog 75 #[.pointer (some ⟨g, 0, none⟩), .int .i64 a, vb] w fun e w' => e = .returned (.tuple #[]) ∧ ∃ vw', DvH w' g kb s vw' k l dn ∧ WrAt (fun i => F i ∨ w.heap.size ≤ i) w' vw' (Wt ++ [(a, full64 b)]) ∧ Fr (fun i => i = g ∨ F i) w w' := by
  obtain ⟨Ca, hCa⟩ : ∃ Ca, Ca = (wrC (a, List.replicate 64 0)).toArray := ⟨_, rfl⟩
  have hCas : Ca.size = 65 := by rw [hCa]; simp [wrC_length]
  have hCa1 : Ca.all (·.oneCell') = true := by rw [hCa]; exact all_oneCell_toArray (wrC_one _)
  have hz2 : (Try.prog.info? 123).map (·.size) = some Ca.size := by rw [hCas]; kernel_rfl
  have hzs : zWr.size = Ca.size := by rw [zWr_size, hCas]
  have hbt := built_wr a
  rw [← hCa] at hbt
  have hzv := zWr_zero
  have hf0 : Fr (fun _ => False) w (w.alloc (.cells Ca 123)) := (Fr.refl _ _).alloc _
  obtain ⟨v2, w2, hcp, hrow, hf2⟩ := run_copy_wr (w.alloc (.cells Ca 123)) w.heap.size a vb b (by rw [hCa]; exact heap_alloc_new w _) (hb.keep hf0 (fun _ _ _ h => h)) hbl
  have hf3 : Fr (fun _ => False) w w2 := hf0.trans hf2 (fun i e => .inr (by rw [show i = _ from e]; exact Nat.le_refl _))
  have hl64 := full64_length b hbl
  obtain ⟨C, hC⟩ : ∃ C, C = (wrC (a, full64 b)).toArray := ⟨_, rfl⟩
  have hCs : C.size = 65 := by rw [hC, List.size_toArray]; exact wrC_length (a, full64 b) hl64
  rw [← hC] at hrow
  have hz3 : (Try.prog.info? 123).map (·.size) = some C.size := by rw [hCs]; kernel_rfl
  have hbd := fun W => run_build_wr W C hCs
  have H2 := Lib.hid (h.keep hf3 id)
  have HP2 := Lib.hid (hP.keep hf3 (fun _ _ _ h => h))
  have HF3 := Lib.hid hf3
  have HROW := Lib.hid hrow
  have HC := Lib.hid hC
  have HL := Lib.hid (And.intro hl64 (And.intro hgF hn6))
  have HCP := Lib.hid hcp
  have HGS := Lib.hid (show w.heap.size + 1 ≤ w2.heap.size by have := hf2.size; simpa using this)
  have HGL := Lib.hid h.lt
  clear h hP hb hGw hf0 hf2 hf3 hrow hl64 hgF hn6 hC hCs hCas hCa hcp
  go_enter Try.func75, Try.ntmps75
  go_wp2_with (first
    | (refine wpList_value rfl (.agg Ca) w (op_build (vs := #[(0, .int .i64 a)]) rfl (by simp [Act.eval, Act.put]) hbt) ?_)
    | (with_reducible refine wpList_store_new rfl 123 (.tmp 6) (.tmp 8) rfl Ca zWr 123 w rfl rfl rfl hz2 hzs hCa1 ?_)
    | (refine wpList_value rfl v2 w2 (op_copy rfl rfl rfl HCP.out) ?_))
  go_simp
  have hld : ∀ W, W.heap[w.heap.size]? = some (.cells C 123 (0, 0)) → (Instr.loadAt 123 (.pointer (some ⟨w.heap.size, 0, none⟩))).run Try.prog W = .ok (.agg C) W := fun W hW => by
    have hr : W.rangeAt w.heap.size 0 C.toList := fun j v hv => by
      rw [Nat.zero_add, cell_of_row _ _ _ _ _ _ hW]
      simpa using hv
    have := run_loadAt_mid (P := Try.prog) W w.heap.size 0 123 C.toList _ hr Try.underlying123 rfl (by rw [Array.length_toList]; exact hz3)
    simpa using this
  obtain ⟨w3, hw3⟩ : ∃ w3, w3 = w2.drew.alloc (.cells C 123) := ⟨_, rfl⟩
  have hf4 : Fr (fun _ => False) w2 w3 := by rw [hw3]; exact ((Fr.refl _ w2).drew).alloc _
  have hnew : w3.heap[w2.drew.heap.size]? = some (.cells C 123 (0, 0)) := by rw [hw3]; exact heap_alloc_new _ _
  have hc1 := H2.out.cells.2.2.2.1
  have hc2 := (H2.out.keep hf4 id).cells.2.2.2.1
  obtain ⟨v5, w5, hap, hp5, hg5⟩ := run_append_wr (F := F) w3 90 vw Wt (a, full64 b) w2.drew.heap.size (HP2.out.keep hf4 (fun _ _ _ h => h)) HL.out.1 (by rw [← HC.out]; exact hnew) HL.out.2.2
  obtain ⟨Wd, hWdE⟩ : ∃ Wd : (Nat → Bool) → World, ∀ f, Wd f = if f 7 = true then w5 else if f 6 = true then w3 else w2.drew := ⟨_, fun _ => rfl⟩
  have hWd : ∀ f g : Nat → Bool, (f 6 = g 6 ∧ f 7 = g 7) → Wd f = Wd g := fun f g h => by rw [hWdE, hWdE, h.1, h.2]
  generalize hgfe : w.heap.size = gf at *
  have HGF := Lib.hid hgfe
  clear hgfe
  refine wp_region_det 10 (by kernel_rfl) (by kernel_rfl) (fun i => match i with | 0 => .pointer (some ⟨g, 0, none⟩) | 1 => .pointer (some ⟨g, 0, none⟩) | 2 => .pointer (some ⟨g, 0, none⟩) | 3 => .pointer (some ⟨g, 3, none⟩) | 4 => vw | 5 => .agg C | 6 => .slice (some ⟨w2.drew.heap.size, 0, none⟩) 1 1 | 7 => v5 | 8 => .pointer (some ⟨g, 0, none⟩) | 9 => .pointer (some ⟨g, 3, none⟩) | _ => undef) Wd (by rw [hWdE]; rfl) (fun f g h => hWd f g ⟨h 6 (by decide), h 7 (by decide)⟩) ?_ ?_
  · intro i hi o ho
    replace hi : i < 10 := hi
    obtain rfl | rfl | rfl | rfl | rfl | rfl | rfl | rfl | rfl | rfl : i = 0 ∨ i = 1 ∨ i = 2 ∨ i = 3 ∨ i = 4 ∨ i = 5 ∨ i = 6 ∨ i = 7 ∨ i = 8 ∨ i = 9 := by omega
    · simp only [List.getElem?_cons_zero, Option.some.injEq] at ho
      subst ho
      intro a1 f hfi hfa hcl hS hE hU
      refine wpG_plain rfl ?_
      have v0 : a1.eval (.tmp 0) = .pointer (some ⟨g, 0, none⟩) := (hU 0 (by kernel_rfl)).trans rfl
      exact wp_value_inv (.pointer (some ⟨g, 0, none⟩)) (op_move rfl v0) ⟨rfl, hWd _ _ (by simp)⟩
    · simp only [List.getElem?_cons_zero, List.getElem?_cons_succ, Option.some.injEq] at ho
      subst ho
      intro a1 f hfi hfa hcl hS hE hU
      refine wpG_plain rfl ?_
      have v0 : a1.eval (.tmp 0) = .pointer (some ⟨g, 0, none⟩) := (hU 0 (by kernel_rfl)).trans rfl
      exact wp_value_inv (.pointer (some ⟨g, 0, none⟩)) (op_move rfl v0) ⟨rfl, hWd _ _ (by simp)⟩
    · simp only [List.getElem?_cons_zero, List.getElem?_cons_succ, Option.some.injEq] at ho
      subst ho
      intro a1 f hfi hfa hcl hS hE hU
      refine wpG_plain rfl ?_
      have v14 : a1.eval (.tmp 14) = .pointer (some ⟨g, 0, none⟩) := hE 1 14 (by kernel_rfl) (by kernel_rfl)
      exact wp_value_inv (.pointer (some ⟨g, 0, none⟩)) (op_nilCheck rfl v14) ⟨rfl, hWd _ _ (by simp)⟩
    · simp only [List.getElem?_cons_zero, List.getElem?_cons_succ, Option.some.injEq] at ho
      subst ho
      intro a1 f hfi hfa hcl hS hE hU
      refine wpG_plain rfl ?_
      have v15 : a1.eval (.tmp 15) = .pointer (some ⟨g, 0, none⟩) := hE 2 15 (by kernel_rfl) (by kernel_rfl)
      exact wp_value_inv (.pointer (some ⟨g, 3, none⟩)) (op_fieldAddr rfl v15 (run_field_writes _ g)) ⟨rfl, hWd _ _ (by simp)⟩
    · simp only [List.getElem?_cons_zero, List.getElem?_cons_succ, Option.some.injEq] at ho
      subst ho
      intro a1 f hfi hfa hcl hS hE hU
      refine wpG_plain rfl ?_
      have v16 : a1.eval (.tmp 16) = .pointer (some ⟨g, 3, none⟩) := hE 3 16 (by kernel_rfl) (by kernel_rfl)
      have f7 : f 7 = false := by
        cases h7 : f 7 with
        | false => rfl
        | true => rw [hcl 7 _ rfl h7 4 (by kernel_rfl)] at hfi; cases hfi
      have hc : (Wd f).cell? ⟨g, 3, none⟩ = some vw := by
        rw [hWdE, f7]
        cases f 6
        · exact hc1
        · exact hc2
      exact wp_value_inv (vw) (op_load_ rfl v16 (run_load_slice _ _ vw hc)) ⟨rfl, hWd _ _ (by simp)⟩
    · simp only [List.getElem?_cons_zero, List.getElem?_cons_succ, Option.some.injEq] at ho
      subst ho
      intro a1 f hfi hfa hcl hS hE hU
      refine wpG_plain rfl ?_
      have v6 : a1.eval (.tmp 6) = .pointer (some ⟨gf, 0, none⟩) := (hU 6 (by kernel_rfl)).trans rfl
      have f6 : f 6 = false := by
        cases h6 : f 6 with
        | false => rfl
        | true => rw [hcl 6 _ rfl h6 5 (by kernel_rfl)] at hfi; cases hfi
      have f7 : f 7 = false := by
        cases h7 : f 7 with
        | false => rfl
        | true => rw [hcl 7 _ rfl h7 6 (by kernel_rfl)] at f6; cases f6
      have hw : Wd f = w2.drew := by rw [hWdE, f6, f7]; rfl
      rw [hw]
      exact wp_value_inv (.agg C) (op_load_ rfl v6 (hld w2.drew HROW.out)) ⟨rfl, by rw [hWdE]; simp [f6, f7]⟩
    · simp only [List.getElem?_cons_zero, List.getElem?_cons_succ, Option.some.injEq] at ho
      subst ho
      intro a1 f hfi hfa hcl hS hE hU
      refine wpG_plain rfl ?_
      have v18 : a1.eval (.tmp 18) = .agg C := hE 5 18 (by kernel_rfl) (by kernel_rfl)
      have f7 : f 7 = false := by
        cases h7 : f 7 with
        | false => rfl
        | true => rw [hcl 7 _ rfl h7 6 (by kernel_rfl)] at hfi; cases hfi
      have hw : Wd f = w2.drew := by rw [hWdE, hfi, f7]; rfl
      rw [hw]
      exact wp_value_inv (.slice (some ⟨w2.drew.heap.size, 0, none⟩) 1 1) (op_rows (vs := #[(0, .agg C)]) rfl (by simp [v18]) (hbd _)) ⟨rfl, by rw [hWdE]; simp [f7, hw3]⟩
    · simp only [List.getElem?_cons_zero, List.getElem?_cons_succ, Option.some.injEq] at ho
      subst ho
      intro a1 f hfi hfa hcl hS hE hU
      refine wpG_plain rfl ?_
      have v17 : a1.eval (.tmp 17) = vw := hE 4 17 (by kernel_rfl) (by kernel_rfl)
      have v19 : a1.eval (.tmp 19) = .slice (some ⟨w2.drew.heap.size, 0, none⟩) 1 1 := hE 6 19 (by kernel_rfl) (by kernel_rfl)
      have f6 := hfa 6 (by kernel_rfl)
      have hw : Wd f = w3 := by rw [hWdE, hfi, f6]; rfl
      rw [hw]
      exact wp_value_inv v5 (op_append_wr rfl v17 v19 hap) ⟨rfl, by rw [hWdE]; simp⟩
    · simp only [List.getElem?_cons_zero, List.getElem?_cons_succ, Option.some.injEq] at ho
      subst ho
      intro a1 f hfi hfa hcl hS hE hU
      refine wpG_plain rfl ?_
      have v13 : a1.eval (.tmp 13) = .pointer (some ⟨g, 0, none⟩) := hE 0 13 (by kernel_rfl) (by kernel_rfl)
      exact wp_value_inv (.pointer (some ⟨g, 0, none⟩)) (op_nilCheck rfl v13) ⟨rfl, hWd _ _ (by simp)⟩
    · simp only [List.getElem?_cons_zero, List.getElem?_cons_succ, Option.some.injEq] at ho
      subst ho
      intro a1 f hfi hfa hcl hS hE hU
      refine wpG_plain rfl ?_
      have v21 : a1.eval (.tmp 21) = .pointer (some ⟨g, 0, none⟩) := hE 8 21 (by kernel_rfl) (by kernel_rfl)
      exact wp_value_inv (.pointer (some ⟨g, 3, none⟩)) (op_fieldAddr rfl v21 (run_field_writes _ g)) ⟨rfl, hWd _ _ (by simp)⟩
  · rw [hWdE]
    simp only [if_true]
    have hh5 : DvH w5 g kb s vw k l dn := (H2.out.keep hf4 id).keep ((Fr.refl (fun x => vw.ownBlock = some x) _).grown hg5 (fun x hx => .inl hx)) (fun e => HL.out.2.1 (HP2.out.2 g e))
    have hc5 := hh5.cells.2.2.2.1
    have hf5 := hh5.free 3
    have HH5 := Lib.hid hh5
    obtain ⟨a5, q5, hv5, _, _⟩ := hp5.form
    have HP5 := Lib.hid hp5
    have HG5 := Lib.hid (And.intro hg5 hf4)
    clear hh5 hp5 hg5 hf4 hap hld hbd hnew hWd hWdE hc1 hc2
    subst hv5
    simp only [acts, if_true, dstAt, List.getElem?_cons_zero, List.getElem?_cons_succ, Option.bind_some, Act.put, List.setIfInBounds_toArray, List.set_cons_succ, List.set_cons_zero, List.drop_succ_cons, List.drop_zero]
    go_wp2
    refine bodyPost_end (results_none rfl _ _ _) rfl ?_
    refine ⟨rfl, _, HH5.out.put3 _, ?_, ?_⟩
    · have h2 := HF3.out.size
      have h3 := HG5.out.2.size
      have hgl := HGL.out
      rw [← HGF.out] at hgl
      have hp := HP5.out
      rw [show (Wt ++ [(a, full64 b)]).length = Wt.length + 1 by simp] at hp
      refine (hp.keep (Fr.cell1 w5 g 3 _) (fun i _ hi e => ?_)).mono (fun i _ hi => hi.elim .inl (fun h => .inr (by omega)))
      rcases hi with hi | hi
      · exact HL.out.2.1 (e ▸ hi)
      · rw [show i = g from e] at hi; omega
    · have hA : Fr (fun i => i = g ∨ F i) w w3 := (HF3.out.trans HG5.out.2 (fun _ h => h.elim)).mono (fun _ _ h => h.elim)
      exact (hA.grown HG5.out.1 (fun x hx => .inl (.inr (HP2.out.2 x hx)))).trans (Fr.cell1 w5 g 3 _) (fun i e => .inl (.inl e))
end Go.Proofs.Ytcbbcihfooaggaa
namespace Go.Proofs.Ytcbbcihfooaggaa
open Go.RowKit Go.ChangeShapes
set_option linter.unusedVariables false
section
variable {P : Program} {w : World} {o : Oper} {a : Act}
theorem op_loadAt {t : TypeId} {x : Operand} {vx v : Value} (ho : o.op = .load t x) (hx : a.eval x = vx) (hr : (Instr.loadAt t vx).run P w = .ok v w) : (execOp a.eval o).run P w = .ok (.value v) w := by
  unfold execOp
  rw [ho]
  simp only [hx, Sem.run_bind, hr, Result.andThen_ok]
  rfl
theorem op_unop {t : TypeId} {op : UnOp} {x : Operand} {vx v : Value} (ho : o.op = .unOp op t x) (hx : a.eval x = vx) (hr : (Op.unary op vx).run P w = .ok v w) : (execOp a.eval o).run P w = .ok (.value v) w := by
  unfold execOp
  rw [ho]
  simp only [hx, Sem.run_bind, hr, Result.andThen_ok]
  rfl
theorem op_indexAddr {t : TypeId} {x i : Operand} {vx vi v : Value} (ho : o.op = .indexAddr t x i) (hx : a.eval x = vx) (hi : a.eval i = vi) (hr : (Instr.indexAt t vx vi).run P w = .ok v w) : (execOp a.eval o).run P w = .ok (.value v) w := by
  unfold execOp
  rw [ho]
  simp only [hx, hi, Sem.run_bind, hr, Result.andThen_ok]
  rfl
theorem eval_const5 (a : Act) (v : Value) : a.eval (.const v) = v := rfl
end
theorem op_len5 {w : World} {o : Oper} {a : Act} {x : Operand} {ao : Option Addr} {n cap : Nat} (ho : o.op = .call { callee := .builtin .len, args := #[x], argTypes := #[40] }) (hx : a.eval x = .slice ao n cap) :
    (execOp a.eval o).run Try.prog w = .ok (.value (.int .i64 n)) w := by
  obtain ⟨d, op, ty, pos, aft, g⟩ := o
  simp only at ho
  subst ho
  simp [execOp, resolve, invoke, builtin, Builtin.len_, hx, Result.andThen, goInt]
theorem guard_int (w : World) (op : BinOp) (T : TypeId) (k : IntKind) (x y : Operand) (A Bb : Int) : (eqGuard op T x y (.int k A) (.int k Bb)).run Try.prog w = .ok () w := by cases op <;> rfl
theorem guard_bool (w : World) (op : BinOp) (T : TypeId) (x y : Operand) (A Bb : Bool) : (eqGuard op T x y (.bool A) (.bool Bb)).run Try.prog w = .ok () w := by cases op <;> rfl
theorem load_one5 (w : World) (T : TypeId) (p : Addr) (v : Value) (hT : (isAgg T).run Try.prog w = .ok false w) (h : w.cell? p = some v) : (Instr.loadAt T (.pointer (some p))).run Try.prog w = .ok v w := by
  simp [Instr.loadAt, Instr.sureAddr, loadVar, hT, h, go_sem]
theorem load_int5 (w : World) (p : Addr) (v : Value) (h : w.cell? p = some v) : (Instr.loadAt 3 (.pointer (some p))).run Try.prog w = .ok v w := load_one5 w _ p v (by kernel_rfl) h
section
variable {w : World} {T : TypeId} {k : IntKind} {x y : Int}
theorem leq_yes (h : x ≤ y) : (binOp .leq T (.int k x) (.int k y)).run Try.prog w = .ok (.bool true) w := by rw [binOp_leq]; simp [h]
theorem leq_no (h : y < x) : (binOp .leq T (.int k x) (.int k y)).run Try.prog w = .ok (.bool false) w := by rw [binOp_leq]; simp [h]
theorem lss_yes (h : x < y) : (binOp .lss T (.int k x) (.int k y)).run Try.prog w = .ok (.bool true) w := by rw [binOp_lss]; simp [h]
theorem lss_no (h : y ≤ x) : (binOp .lss T (.int k x) (.int k y)).run Try.prog w = .ok (.bool false) w := by rw [binOp_lss]; simp [h]
theorem eql_yes : (binOp .eql T (.int k x) (.int k x)).run Try.prog w = .ok (.bool true) w := by rw [binOp_eql]; simp
end
theorem wrap_in5 {x : Int} (h0 : -9223372036854775808 ≤ x) (h1 : x ≤ 9223372036854775807) : IntKind.i64.wrap x = x := IntWalk.i64_in x (by omega)
theorem add_in5 {w : World} {T : TypeId} {x y z : Int} (hz : x + y = z) (h0 : -9223372036854775808 ≤ z) (h1 : z ≤ 9223372036854775807) : (binOp .add T (.int .i64 x) (.int .i64 y)).run Try.prog w = .ok (.int .i64 z) w := by
  rw [binOp_add]
  subst hz
  simp [Op.intArith, wrap_in5 h0 h1, go_sem]
theorem sub_in5 {w : World} {T : TypeId} {x y z : Int} (hz : x - y = z) (h0 : -9223372036854775808 ≤ z) (h1 : z ≤ 9223372036854775807) : (binOp .sub T (.int .i64 x) (.int .i64 y)).run Try.prog w = .ok (.int .i64 z) w := by
  rw [binOp_sub]
  subst hz
  simp [Op.intArith, wrap_in5 h0 h1, go_sem]
theorem mul_in5 {w : World} {T : TypeId} {x y z : Int} (hz : x * y = z) (h0 : -9223372036854775808 ≤ z) (h1 : z ≤ 9223372036854775807) : (binOp .mul T (.int .i64 x) (.int .i64 y)).run Try.prog w = .ok (.int .i64 z) w := by
  rw [binOp_mul]
  subst hz
  simp [Op.intArith, wrap_in5 h0 h1, go_sem]
theorem range_row5 {w : World} {g : Nat} {C : Array Value} {T : TypeId} (h : w.heap[g]? = some (.cells C T (0, 0))) : w.rangeAt g 0 C.toList := fun j v hv => by
  rw [Nat.zero_add, cell_of_row _ _ _ _ _ _ h]
  simpa using hv
end Go.Proofs.Ytcbbcihfooaggaa
namespace Go.Proofs.Ytcbbcihfooaggaa
set_option linter.unusedVariables false
abbrev Rn := Int × Int
def rnOk (d : Nat) (r : Rn) : Bool := decide (0 ≤ r.1 ∧ 1 ≤ r.2 ∧ r.2 ≤ d - r.1)
def rnSecs (r : Rn) : List Nat := (List.range r.2.toNat).map (r.1.toNat + ·)
def secs7 (l : List Rn) : List Nat := l.flatMap rnSecs
def apart7 (d : Nat) (l : List Rn) : Bool := l.all (rnOk d) && decide (secs7 l).Nodup
theorem rnOk_iff {d : Nat} {r : Rn} : rnOk d r = true ↔ 0 ≤ r.1 ∧ 1 ≤ r.2 ∧ r.2 ≤ d - r.1 := by rw [rnOk, decide_eq_true_iff]
theorem rnOk_nat {d : Nat} {r : Rn} (h : rnOk d r = true) : ∃ a m : Nat, r = ((a : Int), (m : Int)) ∧ 1 ≤ m ∧ a + m ≤ d := by
  obtain ⟨h1, h2, h3⟩ := rnOk_iff.1 h
  refine ⟨r.1.toNat, r.2.toNat, ?_, by omega, by omega⟩
  obtain ⟨x, y⟩ := r
  simp only [Prod.mk.injEq]
  simp only at h1 h2
  exact ⟨by omega, by omega⟩
theorem rnSecs_nat (a m : Nat) : rnSecs ((a : Int), (m : Int)) = (List.range m).map (a + ·) := by simp [rnSecs]
theorem rnSecs_length (r : Rn) : (rnSecs r).length = r.2.toNat := by simp [rnSecs]
theorem mem_rnSecs {a m x : Nat} : x ∈ rnSecs ((a : Int), (m : Int)) ↔ a ≤ x ∧ x < a + m := by
  rw [rnSecs_nat, List.mem_map]
  constructor
  · rintro ⟨i, hi, rfl⟩
    have := List.mem_range.1 hi
    omega
  · intro h
    exact ⟨x - a, List.mem_range.2 (by omega), by omega⟩
theorem secs7_cons (r : Rn) (l : List Rn) : secs7 (r :: l) = rnSecs r ++ secs7 l := by simp [secs7]
theorem secs7_append (l m : List Rn) : secs7 (l ++ m) = secs7 l ++ secs7 m := by simp [secs7]
theorem secs7_one (r : Rn) : secs7 [r] = rnSecs r := by simp [secs7]
theorem apart7_iff {d : Nat} {l : List Rn} : apart7 d l = true ↔ (∀ r ∈ l, rnOk d r = true) ∧ (secs7 l).Nodup := by
  rw [apart7, Bool.and_eq_true, List.all_eq_true, decide_eq_true_iff]
theorem apart7_nil (d : Nat) : apart7 d [] = true := by rw [apart7_iff]; exact ⟨(fun _ h => by cases h), List.nodup_nil⟩
theorem apart7_left {d : Nat} {l m : List Rn} (h : apart7 d (l ++ m) = true) : apart7 d l = true := by
  rw [apart7_iff] at h ⊢
  rw [secs7_append] at h
  exact ⟨fun r hr => h.1 r (List.mem_append_left _ hr), (List.nodup_append.1 h.2).1⟩
theorem secs7_lt {d : Nat} {l : List Rn} (h : ∀ r ∈ l, rnOk d r = true) {x : Nat} (hx : x ∈ secs7 l) : x < d := by
  unfold secs7 at hx
  obtain ⟨r, hr, hx⟩ := List.mem_flatMap.1 hx
  obtain ⟨a, m, rfl, h1, h2⟩ := rnOk_nat (h r hr)
  have := mem_rnSecs.1 hx
  omega
theorem nodup_bound : ∀ (d : Nat) (l : List Nat), l.Nodup → (∀ x ∈ l, x < d) → l.length ≤ d := by
  intro d l hn hl
  have h1 : l ⊆ List.range d := fun x hx => List.mem_range.2 (hl x hx)
  have h2 : ∀ (l m : List Nat), l.Nodup → l ⊆ m → l.length ≤ m.length := by
    intro l
    induction l with
    | nil => intro m _ _; simp
    | cons x l ih =>
      intro m hn hs
      have hx : x ∈ m := hs List.mem_cons_self
      have hn2 := List.nodup_cons.1 hn
      have := ih (m.erase x) hn2.2 (fun y hy => by
        have hne : y ≠ x := fun e => hn2.1 (e ▸ hy)
        exact (List.mem_erase_of_ne hne).2 (hs (List.mem_cons_of_mem _ hy)))
      rw [List.length_erase_of_mem hx] at this
      have hp := List.length_pos_of_mem hx
      simp only [List.length_cons]
      omega
  have := h2 l (List.range d) hn h1
  rwa [List.length_range] at this
theorem apart7_le {d : Nat} {l : List Rn} (h : apart7 d l = true) : (secs7 l).length ≤ d := by
  rw [apart7_iff] at h
  exact nodup_bound d _ h.2 (fun x hx => secs7_lt h.1 hx)
theorem secs7_many {d : Nat} {l : List Rn} (h : ∀ r ∈ l, rnOk d r = true) : l.length ≤ (secs7 l).length := by
  induction l with
  | nil => simp
  | cons r l ih =>
    have := ih (fun q hq => h q (List.mem_cons_of_mem _ hq))
    have h1 := (rnOk_iff.1 (h r List.mem_cons_self)).2.1
    rw [secs7_cons, List.length_append, rnSecs_length, List.length_cons]
    omega
def many7 (l : List Rn) : Int := (l.map (·.2)).sum
theorem many7_eq {d : Nat} {l : List Rn} (h : ∀ r ∈ l, rnOk d r = true) : many7 l = (secs7 l).length := by
  induction l with
  | nil => rfl
  | cons r l ih =>
    have := ih (fun q hq => h q (List.mem_cons_of_mem _ hq))
    have h1 := (rnOk_iff.1 (h r List.mem_cons_self)).2.1
    rw [secs7_cons, List.length_append, rnSecs_length]
    simp only [many7, List.map_cons, List.sum_cons] at this ⊢
    rw [this]
    omega
theorem many7_snoc (l : List Rn) (r : Rn) : many7 (l ++ [r]) = many7 l + r.2 := by simp [many7]
def free7 (d : Nat) (l : List Rn) : List Nat := (List.range d).filter (fun x => !decide (x ∈ secs7 l))
theorem mem_free7 {d : Nat} {l : List Rn} {x : Nat} : x ∈ free7 d l ↔ x < d ∧ x ∉ secs7 l := by simp [free7]
theorem filter_count (S : List Nat) : ∀ (d : Nat), S.Nodup → (∀ x ∈ S, x < d) → ((List.range d).filter (fun x => decide (x ∈ S))).length = S.length := by
  intro d hn hl
  have hp : ((List.range d).filter (fun x => decide (x ∈ S))).Perm S := by
    rw [List.perm_ext_iff_of_nodup (List.nodup_range.filter _) hn]
    intro x
    simp only [List.mem_filter, List.mem_range, decide_eq_true_eq]
    exact ⟨fun h => h.2, fun h => ⟨hl x h, h⟩⟩
  exact hp.length_eq
theorem filter_not_length {α : Type} (p : α → Bool) : ∀ l : List α, (l.filter p).length + (l.filter (fun x => !p x)).length = l.length
  | [] => rfl
  | x :: l => by
    have := filter_not_length p l
    cases h : p x <;> simp [h] <;> omega
theorem free7_length {d : Nat} {l : List Rn} (h : apart7 d l = true) : (free7 d l).length + (secs7 l).length = d := by
  have h1 := filter_not_length (fun x => decide (x ∈ secs7 l)) (List.range d)
  rw [apart7_iff] at h
  rw [filter_count _ d h.2 (fun x hx => secs7_lt h.1 hx), List.length_range] at h1
  unfold free7
  omega
def jn7 (l : List Rn) (x : Nat) : List Rn :=
  match l.getLast? with
  | some r => if r.1 + r.2 = x then l.dropLast ++ [(r.1, r.2 + 1)] else l ++ [((x : Int), 1)]
  | none => l ++ [((x : Int), 1)]
def joins7 (xs : List Nat) : List Rn := xs.foldl jn7 []
theorem joins7_snoc (xs : List Nat) (x : Nat) : joins7 (xs ++ [x]) = jn7 (joins7 xs) x := by simp [joins7]
theorem jn7_nil (x : Nat) : jn7 [] x = [((x : Int), 1)] := rfl
theorem jn7_snoc (l : List Rn) (r : Rn) (x : Nat) : jn7 (l ++ [r]) x = if r.1 + r.2 = x then l ++ [(r.1, r.2 + 1)] else l ++ [r] ++ [((x : Int), 1)] := by
  unfold jn7
  rw [List.getLast?_concat, List.dropLast_concat]
def find7 (d : Nat) (l : List Rn) (n : Nat) : List Rn := joins7 ((free7 d l).take n)
def RnPos (l : List Rn) : Prop := ∀ r ∈ l, 0 ≤ r.1 ∧ 1 ≤ r.2
theorem jn7_pos {l : List Rn} (h : RnPos l) (x : Nat) : RnPos (jn7 l x) := by
  rcases List.eq_nil_or_concat l with rfl | ⟨l, r, rfl⟩
  · rw [jn7_nil]
    intro q hq
    rw [List.mem_singleton.1 hq]
    exact ⟨by simp, by simp⟩
  · rw [List.concat_eq_append, jn7_snoc]
    rw [List.concat_eq_append] at h
    have hr := h r (by simp)
    split
    · intro q hq
      rcases List.mem_append.1 hq with hq | hq
      · exact h q (List.mem_append_left _ hq)
      · rw [List.mem_singleton.1 hq]
        exact ⟨hr.1, by simp only; omega⟩
    · intro q hq
      rcases List.mem_append.1 hq with hq | hq
      · exact h q hq
      · rw [List.mem_singleton.1 hq]
        exact ⟨by simp, by simp⟩
theorem jn7_secs {l : List Rn} (h : RnPos l) (x : Nat) : secs7 (jn7 l x) = secs7 l ++ [x] := by
  rcases List.eq_nil_or_concat l with rfl | ⟨l, r, rfl⟩
  · rw [jn7_nil, secs7_one, rnSecs]
    simp [secs7]
  · rw [List.concat_eq_append, jn7_snoc]
    rw [List.concat_eq_append] at h
    have hr := h r (by simp)
    split
    · rename_i e
      rw [secs7_append, secs7_append, secs7_one, secs7_one, List.append_assoc]
      congr 1
      unfold rnSecs
      simp only
      rw [show (r.2 + 1).toNat = r.2.toNat + 1 by omega, List.range_succ, List.map_append]
      congr 1
      simp only [List.map_cons, List.map_nil, List.cons.injEq, and_true]
      omega
    · rw [secs7_append (l ++ [r]), secs7_one (((x : Int), 1) : Rn)]
      congr 1
theorem joins7_pos : ∀ (xs : List Nat) (l : List Rn), RnPos l → RnPos (xs.foldl jn7 l)
  | [], l, h => h
  | x :: xs, l, h => joins7_pos xs _ (jn7_pos h x)
theorem joins7_secs_ : ∀ (xs : List Nat) (l : List Rn), RnPos l → secs7 (xs.foldl jn7 l) = secs7 l ++ xs
  | [], l, h => by simp
  | x :: xs, l, h => by
    rw [List.foldl_cons, joins7_secs_ xs _ (jn7_pos h x), jn7_secs h, List.append_assoc]
    rfl
theorem joins7_secs (xs : List Nat) : secs7 (joins7 xs) = xs := by
  have := joins7_secs_ xs [] (fun _ h => by cases h)
  simpa [joins7, secs7] using this
theorem joins7_Pos (xs : List Nat) : RnPos (joins7 xs) := joins7_pos xs [] (fun _ h => by cases h)
theorem rnOk_of {d : Nat} {l : List Rn} (h : RnPos l) (hd : ∀ x ∈ secs7 l, x < d) : ∀ r ∈ l, rnOk d r = true := by
  intro r hr
  have h1 := h r hr
  rw [rnOk_iff]
  refine ⟨h1.1, h1.2, ?_⟩
  have hm : r.1.toNat + (r.2.toNat - 1) ∈ secs7 l := by
    unfold secs7
    refine List.mem_flatMap.2 ⟨r, hr, ?_⟩
    unfold rnSecs
    exact List.mem_map.2 ⟨r.2.toNat - 1, List.mem_range.2 (by omega), rfl⟩
  have := hd _ hm
  omega
end Go.Proofs.Ytcbbcihfooaggaa
