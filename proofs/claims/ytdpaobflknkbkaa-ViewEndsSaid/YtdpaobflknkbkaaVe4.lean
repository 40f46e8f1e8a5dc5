/- Laid together: VPt0 -/
import Derived.Test.YtdpaobflknkbkaaVe3
import Derived.Laws.Tables

namespace Go.Proofs.Ytdpaobflknkbkaa
open Go.RowKit Go.ChangeShapes
set_option linter.unusedVariables false
def zC : Array Value := pathC (List.replicate 20 0) ⟨#[]⟩
theorem zC_lit : zC = #[.int .u8 0, .int .u8 0, .int .u8 0, .int .u8 0, .int .u8 0, .int .u8 0, .int .u8 0, .int .u8 0, .int .u8 0, .int .u8 0, .int .u8 0, .int .u8 0, .int .u8 0, .int .u8 0, .int .u8 0, .int .u8 0, .int .u8 0, .int .u8 0, .int .u8 0, .int .u8 0, .string ⟨#[]⟩] := by kernel_rfl
theorem allocR (w : World) : (Instr.alloc 43 true (.tuple #[])).run Try.prog w = .ok (.pointer (some ⟨w.heap.size, 0, none⟩)) (w.alloc (.cells zC 43)) := by kernel_rfl
theorem geq9 {w : World} {T : TypeId} {x y : Int} {b : Bool} (h : decide (y ≤ x) = b) : (binOp .geq T (.int .i64 x) (.int .i64 y)).run Try.prog w = .ok (.bool b) w := by
  subst h
  by_cases hx : y ≤ x
  · rw [decide_eq_true hx]; exact geq_yes hx
  · rw [decide_eq_false hx]; exact geq_no (by omega)
theorem addL (w : World) {T : TypeId} {L : Nat} (h : L ≤ 1000000) : (binOp .add T (.int .i64 (L : Nat)) (.int .i64 1)).run Try.prog w = .ok (.int .i64 (L + 1 : Nat)) w := add_in5 (by push_cast; rfl) (by omega) (by omega)
theorem subL (w : World) {T : TypeId} {L : Nat} (h : 1 ≤ L ∧ L ≤ 1000000) : (binOp .sub T (.int .i64 (L : Nat)) (.int .i64 1)).run Try.prog w = .ok (.int .i64 (L - 1 : Nat)) w := sub_in5 (by omega) (by omega) (by omega)
theorem ldX {w : World} {xb : Nat} {C : Array Value} (h : w.heap[xb]? = some (.cells C 43 (0, 0))) (hC : C.size = 21) : ∀ W, Fr (fun _ => False) w W → (Instr.loadAt 43 (.pointer (some ⟨xb, 0, none⟩))).run Try.prog W = .ok (.agg C) W := fun W hf => by
  simp only [Instr.loadAt, Instr.sureAddr, Sem.run_bind, Sem.run_pure, Result.andThen_ok, run_loadVar_row W xb _ _ C (0, 0) _ (hf.heap h id) Try.underlying43 rfl (show (Try.prog.info? 43).map (·.size) = some C.size by rw [hC]; kernel_rfl)]
theorem results_cell_row {P : Program} {fn : Func} {p : Tmp} {ty : TypeId} (h : fn.results = #[.cell p ty]) (tmps : Array Value) (w : World) (g : Nat) (t : TypeId) (cs : Array Value) (fr : Nat × Nat) (d : TypeDesc)
    (hp : tmps.getD p undef = .pointer (some ⟨g, 0, none⟩)) (hg : w.heap[g]? = some (.cells cs t fr))
    (hu : P.underlying ty = some d) (hd : (match d with | .struct _ | .array _ _ => true | _ => false) = true) (hi : (P.info? ty).map (·.size) = some cs.size) :
    (results fn tmps).run P w = .ok (.agg cs) w := by
  have hp' : tmps[p]?.getD undef = .pointer (some ⟨g, 0, none⟩) := by simpa using hp
  simp [results, h, hp', asAddr, run_loadVar_row w g t ty cs fr d hg hu hd hi]
theorem results_cell_row_tmp {P : Program} {fn : Func} {p u : Tmp} {ty : TypeId} (h : fn.results = #[.cell p ty, .tmp u]) (tmps : Array Value) (w : World) (g : Nat) (t : TypeId) (cs : Array Value) (fr : Nat × Nat) (d : TypeDesc)
    (hp : tmps.getD p undef = .pointer (some ⟨g, 0, none⟩)) (hg : w.heap[g]? = some (.cells cs t fr))
    (hu : P.underlying ty = some d) (hd : (match d with | .struct _ | .array _ _ => true | _ => false) = true) (hi : (P.info? ty).map (·.size) = some cs.size) :
    (results fn tmps).run P w = .ok (.tuple #[.agg cs, tmps.getD u undef]) w := by
  have hp' : tmps[p]?.getD undef = .pointer (some ⟨g, 0, none⟩) := by simpa using hp
  simp [results, h, hp', asAddr, run_loadVar_row w g t ty cs fr d hg hu hd hi]
theorem ldP {w : World} {pb : Nat} {i : Int} {N : ByteArray} (h : w.heap[pb]? = some (.cells #[.int .i64 i, .string N] 114 (0, 0))) : ∀ W, Fr (fun _ => False) w W → (Instr.loadAt 114 (.pointer (some ⟨pb, 0, none⟩))).run Try.prog W = .ok (.agg #[.int .i64 i, .string N]) W := fun W hf => by
  simp only [Instr.loadAt, Instr.sureAddr, Sem.run_bind, Sem.run_pure, Result.andThen_ok, run_loadVar_row W pb _ _ _ (0, 0) _ (hf.heap h id) place_under rfl (show (Try.prog.info? 114).map (·.size) = some (#[Value.int .i64 i, .string N] : Array Value).size by kernel_rfl)]
theorem ldW {w : World} {pb : Nat} {i : Int} {N : ByteArray} (h : w.heap[pb]? = some (.cells #[.int .i64 i, .string N] 114 (0, 0))) : ∀ W, Fr (fun _ => False) w W → (Instr.loadAt 3 (.pointer (some ⟨pb, 0, none⟩))).run Try.prog W = .ok (.int .i64 i) W := fun W hf => load_int5 W ⟨pb, 0, none⟩ _ (cell_of_row _ _ _ _ _ _ (hf.heap h id))
section
variable {α : Type} {B : Int → VT α} {n : Nat}
theorem upd_len {who : Int} {M : VT α} {m : Nat} (h : M.length = m) : upd (fun i => (B i).length) who m = fun i => (upd B who M i).length := by
  funext i
  by_cases e : i = who
  · subst e
    rw [upd_same, upd_same, h]
  · rw [upd_other _ _ e, upd_other _ _ e]
theorem len_self {who : Int} {M : VT α} (h : M.length = (B who).length) : (fun i => (B i).length) = fun i => (upd B who M i).length := by
  rw [← upd_len h]
  exact (upd_self (fun i => (B i).length) who).symm
theorem okPut (h : ∀ i, VOk (B i) ∧ (B i).length ≤ n ∧ ∀ p ∈ B i, p.1.length ≤ 64) (who : Int) (N : ByteArray) (hN : N.size ≤ 64) (x : α) : ∀ i, VOk (upd B who (vPut (B who) N.data.toList x) i) ∧ (upd B who (vPut (B who) N.data.toList x) i).length ≤ n + 1 ∧ ∀ p ∈ upd B who (vPut (B who) N.data.toList x) i, p.1.length ≤ 64 := fun i => by
  by_cases e : i = who
  · subst e
    rw [upd_same]
    refine ⟨(h i).1.put _ _, ?_, fun p hp => ?_⟩
    · rw [vPut_len (h i).1]
      have := (h i).2.1
      split <;> omega
    · rcases vPut_keys hp with rfl | hp
      · show N.data.toList.length ≤ 64
        rw [size_list]; exact hN
      · exact (h i).2.2 p hp
  · rw [upd_other _ _ e]
    exact ⟨(h i).1, Nat.le_succ_of_le (h i).2.1, (h i).2.2⟩
theorem okDel (h : ∀ i, VOk (B i) ∧ (B i).length ≤ n ∧ ∀ p ∈ B i, p.1.length ≤ 64) (who : Int) (s : Bs) : ∀ i, VOk (upd B who (vDel (B who) s) i) ∧ (upd B who (vDel (B who) s) i).length ≤ n + 1 ∧ ∀ p ∈ upd B who (vDel (B who) s) i, p.1.length ≤ 64 := fun i => by
  by_cases e : i = who
  · subst e
    rw [upd_same]
    refine ⟨(h i).1.del _, ?_, fun p hp => (h i).2.2 p (List.mem_filter.1 hp).1⟩
    have := vDel_le (B i) s
    have := (h i).2.1
    omega
  · rw [upd_other _ _ e]
    exact ⟨(h i).1, Nat.le_succ_of_le (h i).2.1, (h i).2.2⟩
end
def B9 (ia ib z : Nat) (C0 C : Array Value) (T : TypeId) (W1 : World) (f : Nat → Bool) (W : World) : Prop :=
  Fr (fun _ => False) W1 W ∧ (f ia = false → W.heap.size = z) ∧ (f ia = true → W.heap[z]? = some (.cells (if f ib = true then C else C0) T (0, 0))) ∧ (f ib = true → f ia = true)
section
variable {ia ib z : Nat} {C0 C : Array Value} {T : TypeId} {W1 W : World} {f : Nat → Bool}
theorem B9.start (hz : W1.heap.size = z) : B9 ia ib z C0 C T W1 (fun _ => false) W1.drew := ⟨(Fr.refl _ _).drew, fun _ => hz, (fun h => by cases h), (fun h => by cases h)⟩
theorem B9.pure {i : Nat} (h : B9 ia ib z C0 C T W1 f W) (h1 : ia ≠ i) (h2 : ib ≠ i) : B9 ia ib z C0 C T W1 (fun k => if k = i then true else f k) W := by
  unfold B9 at h ⊢
  simp only [if_neg h1, if_neg h2]
  exact h
theorem B9.alloc (h : B9 ia ib z C0 C T W1 f W) (hf : f ia = false) (hi : ia ≠ ib) : W.heap.size = z ∧ B9 ia ib z C0 C T W1 (fun k => if k = ia then true else f k) (W.alloc (.cells C0 T)) := by
  have hb : f ib = false := by
    cases hq : f ib with
    | false => rfl
    | true => have := h.2.2.2 hq; rw [hf] at this; cases this
  refine ⟨h.2.1 hf, h.1.alloc _, fun h => by simp at h, fun _ => ?_, fun h => by simp⟩
  simp only [if_neg hi.symm, hb]
  rw [← h.2.1 hf]
  exact heap_alloc_new W _
theorem B9.store (h : B9 ia ib z C0 C T W1 f W) (hz : W1.heap.size = z) (ha : f ia = true) (hf : f ib = false) (hi : ia ≠ ib) : W.heap[z]? = some (.cells C0 T (0, 0)) ∧ B9 ia ib z C0 C T W1 (fun k => if k = ib then true else f k) (W.setRow z C) := by
  have h1 := h.2.2.1 ha
  rw [hf] at h1
  simp only [Bool.false_eq_true, if_false] at h1
  refine ⟨h1, h.1.setRow (.inr (by omega)) C, fun h => ?_, fun _ => ?_, fun _ => ?_⟩
  · simp only [if_neg hi] at h
    rw [ha] at h; cases h
  · simp only [if_true]
    exact setRow_heap W z C0 C T (0, 0) h1
  · simp only [if_neg hi]
    exact ha
theorem B9.done (h : B9 ia ib z C0 C T W1 f W) (ha : f ia = true) (hb : f ib = true) : Fr (fun _ => False) W1 W ∧ W.heap[z]? = some (.cells C T (0, 0)) := by
  have h1 := h.2.2.1 ha
  rw [hb] at h1
  simp only [if_true] at h1
  exact ⟨h.1, h1⟩
end
theorem wpList_mu {w w' : World} {ops : Array Oper} {rest : List Oper} {o : Oper} {a : Act} {Q : Exit → Act → World → Prop} (hg : o.guard = none) (t : TypeId) (m x v : Operand) (hop : o.op = Op.mapUpdate t m x v) (mv xv vv : Value) (hm : a.eval m = mv) (hx : a.eval x = xv) (hv : a.eval v = vv)
    (hr : (Instr.mapUpdate t mv xv vv).run Try.prog w = .ok () w') (hK : wpList Try.prog ops Q rest (a.put o.dst undef) w') : wpList Try.prog ops Q (o :: rest) a w := by
  refine wpList_plain hg fun K' hK' => ?_
  unfold Oper.wp
  simp [execOp, hop, hm, hx, hv, hr, Result.andThen]
  exact hK' _ _ hK
theorem wpList_dl {w w' : World} {ops : Array Oper} {rest : List Oper} {o : Oper} {a : Act} {Q : Exit → Act → World → Prop} (hg : o.guard = none) (t k : TypeId) (m x : Operand) (hop : o.op = Op.call { callee := Callee.builtin Builtin.delete, args := #[m, x], argTypes := #[t, k] }) (mv xv : Value) (hm : a.eval m = mv) (hx : a.eval x = xv)
    (hr : ∀ ty, (Builtin.delete_ #[t, k] ty #[mv, xv]).run Try.prog w = .ok (.tuple #[]) w') (hK : wpList Try.prog ops Q rest (a.put o.dst (.tuple #[])) w') : wpList Try.prog ops Q (o :: rest) a w := by
  refine wpList_plain hg fun K' hK' => ?_
  unfold Oper.wp
  simp [execOp, hop, resolve, invoke, builtin, hm, hx, hr, Result.andThen]
  exact hK' _ _ hK
end Go.Proofs.Ytdpaobflknkbkaa
