/- Laid together: BNil BApp -/
import Derived.Test.YtcbbcihfooaggaaBe18
import Derived.Test.YtcbbcihfooaggaaBe14
import Derived.Test.YtcbbcihfooaggaaBe0
import Derived.Deep.AppendSrc
import Derived.Deep.Upon

namespace Go.Proofs.Ytcbbcihfooaggaa
open Go.RowKit Go.ChangeShapes
set_option linter.unusedVariables false
theorem isDevice_nil (w : World) :
    Calls Try.prog 58 #[.pointer none] w fun e w' => e = .returned (.bool false) ∧ w = w' := by
  go_enter Try.func58, Try.ntmps58
  go_wp2
  go_ret
  exact ⟨rfl, rfl⟩
theorem stat_nil (w : World) :
    Calls Try.prog 32 #[.pointer none] w fun e w' => e = .returned (.agg #[.int .i64 0, .int .i64 0, .int .i64 0, .bool false]) ∧ Fr (fun _ => False) w w' := by
  obtain ⟨W0, hW0⟩ : ∃ W0, W0 = w.alloc (.cells #[.int .i64 0, .int .i64 0, .int .i64 0, .bool false] 63) := ⟨_, rfl⟩
  have hf0 : Fr (fun _ => False) w W0 := by rw [hW0]; exact (Fr.refl _ _).alloc _
  have hc := isDevice_nil W0
  have hnew : W0.heap[w.heap.size]? = some (.cells #[.int .i64 0, .int .i64 0, .int .i64 0, .bool false] 63 (0, 0)) := by rw [hW0]; exact heap_alloc_new _ _
  have HF0 := Lib.hid (And.intro hf0 hnew)
  have HW := Lib.hid hW0
  have HC := Lib.hid hc
  clear hf0 hW0 hnew hc
  go_enter Try.func32, Try.ntmps32
  go_wp2_with (first
    | (go_at_call 58; rw [← HW.out]; refine HC.out.mono ?_; rintro e w1 ⟨rfl, rfl⟩; (generalize hgb : w.heap.size = gb at *); (have HGB := Lib.hid hgb); clear hgb HC)
    | (refine wpList_store_row rfl 63 (.tmp 2) (.tmp 6) rfl gb #[.int .i64 0, .int .i64 0, .int .i64 0, .bool false] #[.int .i64 0, .int .i64 0, .int .i64 0, .bool false] 63 rfl rfl HF0.out.2 (by kernel_rfl) rfl (by kernel_rfl) ?_))
  have hst := setRow_heap W0 gb _ #[.int .i64 0, .int .i64 0, .int .i64 0, .bool false] _ (0, 0) HF0.out.2
  refine bodyPost_ret (results_cell_row rfl _ _ gb 63 _ (0, 0) _ rfl hst Try.underlying63 rfl (by kernel_rfl)) rfl ⟨rfl, ?_⟩
  exact HF0.out.1.trans ((Fr.refl (· = gb) W0).setRow (.inl rfl) _) (fun k e => .inr (by rw [HGB.out, show k = gb from e]; exact Nat.le_refl _))
theorem fits_nil (w : World) (L A Dt many : Int) (v : Value) :
    Calls Try.prog 48 #[.pointer none, .agg #[.int .i64 L, .int .i64 A, .int .i64 Dt], .int .i64 many, v] w fun e w' => e = .returned (.int .i64 1) ∧ Fr (fun _ => False) w w' := by
  obtain ⟨W1, hW1⟩ : ∃ W1, W1 = w.alloc (.cells #[.int .i64 L, .int .i64 A, .int .i64 Dt] 23) := ⟨_, rfl⟩
  have hf1 : Fr (fun _ => False) w W1 := by rw [hW1]; exact (Fr.refl _ _).alloc _
  have hfd : ∀ W : World, (Instr.field 63 (.agg #[.int .i64 0, .int .i64 0, .int .i64 0, .bool false]) 0).run Try.prog W = .ok (.int .i64 0) W := fun W => by kernel_rfl
  have HST := Lib.hid (stat_nil W1)
  have HW := Lib.hid (And.intro hW1 hf1)
  clear hW1 hf1
  go_enter Try.func48, Try.ntmps48
  go_wp2_with (go_at_call 32; rw [← HW.out.1]; refine HST.out.mono ?_; rintro e w2 ⟨rfl, hf⟩; (have H2 := Lib.hid hf); clear hf)
  go_ret
  exact ⟨rfl, HW.out.2.trans H2.out (fun _ h => h.elim)⟩
set_option maxRecDepth 100000 in
set_option maxHeartbeats 4000000 in
theorem bWrite_nil (w : World) (L A Dt : Int) (v : Value) :
    Calls Try.prog 24 #[.pointer none, .agg #[.int .i64 L, .int .i64 A, .int .i64 Dt], .slice none 0 0, v] w fun e w' => e = .returned (.int .i64 1) ∧ Fr (fun _ => False) w w' := by
  refine callsIn_wide.1 (show CallsIn Fence.wide 3 _ _ _ _ _ from ?_)
  refine callsIn_of_wp_marks Try.func24 rfl trivial ?_ rfl
  simp only [Try.ntmps24, List.size_toArray, List.length_cons, List.length_nil, Nat.reduceAdd, Nat.reduceSub, Array.replicate_succ, Array.replicate_zero, List.push_toArray, List.append_toArray, List.nil_append, List.cons_append]
  have HFT := Lib.hid (fun (W : World) => WideF.out.calls (n := 2) (fits_nil W L A Dt 0 v))
  obtain ⟨k4, k5, k6, k8⟩ := heap4_new w (.cells #[.pointer none] 43) (.cells #[.int .i64 L, .int .i64 A, .int .i64 Dt] 23) (.cells #[.slice none 0 0] 40) (.cells #[.int .i64 0] 27)
  have HK := Lib.hid k8
  clear k4 k5 k6 k8
  gi_wp2_with (refine ⟨trivial, ?_⟩; gi_at_call 48; refine (HFT.out _).mono ?_; rintro e w2 ⟨rfl, hf2⟩; (have h8 := hf2.heap HK.out id); (obtain ⟨e8, q8⟩ := one_cell h8); (have H2 := Lib.hid (And.intro h8 hf2)); clear h8 hf2)
  have hf2 : Fr (fun _ => False) w w2 := (((((Fr.refl (fun _ => False) w).alloc _).alloc _).alloc _).alloc _).trans H2.out.2 (fun _ h => h.elim)
  have hf9 : Fr (fun _ => False) w (w2.setCell ⟨w.heap.size + 1 + 1 + 1, 0, none⟩ (.int .i64 1)) := hf2.trans (Fr.cell1 w2 (w.heap.size + 1 + 1 + 1) 0 (.int .i64 1)) (fun k e => .inr (by have : k = w.heap.size + 1 + 1 + 1 := e; omega))
  have h8 := one_put H2.out.1 (.int .i64 1)
  exact leaves_marks (by simp) (w2.setCell ⟨w.heap.size + 1 + 1 + 1, 0, none⟩ (.int .i64 1)).heap.size [] [] _ (MarksOk.nil _ _) (fun W' hW => by
    have h9 := hW.heap h8 (fun ⟨_, ds, hd⟩ => by rw [h8] at hd; cases hd)
    exact ⟨_, results_cell1 rfl _ _ (w.heap.size + 1 + 1 + 1) _ (by kernel_rfl) rfl (cell_of_one h9), rfl, hf9.trans hW (fun k hk => .inr (Nat.le_trans hf9.size hk.1))⟩)
set_option maxRecDepth 100000 in
set_option maxHeartbeats 4000000 in
theorem bRead_nil (w : World) (L A Dt many : Int) (v : Value) :
    Calls Try.prog 28 #[.pointer none, .agg #[.int .i64 L, .int .i64 A, .int .i64 Dt], .int .i64 many, v] w fun e w' => e = .returned (.tuple #[.slice none 0 0, .int .i64 1]) ∧ Fr (fun _ => False) w w' := by
  refine callsIn_wide.1 (show CallsIn Fence.wide 3 _ _ _ _ _ from ?_)
  refine callsIn_of_wp_marks Try.func28 rfl trivial ?_ rfl
  simp only [Try.ntmps28, List.size_toArray, List.length_cons, List.length_nil, Nat.reduceAdd, Nat.reduceSub, Array.replicate_succ, Array.replicate_zero, List.push_toArray, List.append_toArray, List.nil_append, List.cons_append]
  have HFT := Lib.hid (fun (W : World) => WideF.out.calls (n := 2) (fits_nil W L A Dt many v))
  obtain ⟨k4, k5, k6, k8, k9⟩ := heap5_new w (.cells #[.pointer none] 43) (.cells #[.int .i64 L, .int .i64 A, .int .i64 Dt] 23) (.cells #[.int .i64 many] 3) (.cells #[.slice none 0 0] 40) (.cells #[.int .i64 0] 27)
  have hne : w.heap.size + 1 + 1 + 1 ≠ w.heap.size + 1 + 1 + 1 + 1 := by omega
  have HK := Lib.hid (And.intro k8 (And.intro k9 hne))
  clear k4 k5 k6 k8 k9 hne
  gi_wp2_with (refine ⟨trivial, ?_⟩; gi_at_call 48; refine (HFT.out _).mono ?_; rintro e w2 ⟨rfl, hf2⟩; (have h8 := hf2.heap HK.out.1 id); (have h9 := hf2.heap HK.out.2.1 id); (obtain ⟨e8, q8⟩ := one_cell h8); (obtain ⟨e9, q9⟩ := one_cell (one_put2 h8 h9 HK.out.2.2 (.slice none 0 0))); (have H2 := Lib.hid (And.intro h8 (And.intro h9 hf2))); clear h8 h9 hf2)
  have hf2 : Fr (fun _ => False) w w2 := ((((((Fr.refl (fun _ => False) w).alloc _).alloc _).alloc _).alloc _).alloc _).trans H2.out.2.2 (fun _ h => h.elim)
  have hf9 : Fr (fun _ => False) w ((w2.setCell ⟨w.heap.size + 1 + 1 + 1, 0, none⟩ (.slice none 0 0)).setCell ⟨w.heap.size + 1 + 1 + 1 + 1, 0, none⟩ (.int .i64 1)) :=
    (hf2.trans (Fr.cell1 w2 (w.heap.size + 1 + 1 + 1) 0 (.slice none 0 0)) (fun k e => .inr (by have : k = w.heap.size + 1 + 1 + 1 := e; omega))).trans (Fr.cell1 _ (w.heap.size + 1 + 1 + 1 + 1) 0 (.int .i64 1)) (fun k e => .inr (by have : k = w.heap.size + 1 + 1 + 1 + 1 := e; omega))
  have h8 := (Fr.cell1 (w2.setCell ⟨w.heap.size + 1 + 1 + 1, 0, none⟩ (.slice none 0 0)) (w.heap.size + 1 + 1 + 1 + 1) 0 (.int .i64 1)).heap (one_put H2.out.1 (.slice none 0 0)) HK.out.2.2
  have h9 := one_put (one_put2 H2.out.1 H2.out.2.1 HK.out.2.2 (.slice none 0 0)) (.int .i64 1)
  exact leaves_marks (by simp) ((w2.setCell ⟨w.heap.size + 1 + 1 + 1, 0, none⟩ (.slice none 0 0)).setCell ⟨w.heap.size + 1 + 1 + 1 + 1, 0, none⟩ (.int .i64 1)).heap.size [] [] _ (MarksOk.nil _ _) (fun W' hW => by
    have g8 := hW.heap h8 (fun ⟨_, ds, hd⟩ => by rw [h8] at hd; cases hd)
    have g9 := hW.heap h9 (fun ⟨_, ds, hd⟩ => by rw [h9] at hd; cases hd)
    exact ⟨_, results_cells2 rfl _ _ (w.heap.size + 1 + 1 + 1) (w.heap.size + 1 + 1 + 1 + 1) _ _ (by kernel_rfl) (by kernel_rfl) rfl rfl (cell_of_one g8) (cell_of_one g9), rfl, hf9.trans hW (fun k hk => .inr (Nat.le_trans hf9.size hk.1))⟩)
end Go.Proofs.Ytcbbcihfooaggaa
namespace Go.Proofs.Ytcbbcihfooaggaa
open Go.RowKit Go.ChangeShapes
set_option linter.unusedVariables false
theorem run_build7 (w : World) (a b : Int) : (Instr.build 68 #[(0, .int .i64 a), (1, .int .i64 b)]).run Try.prog w = .ok (.agg #[.int .i64 a, .int .i64 b]) w := run_build w _ _ _ (by kernel_rfl)
theorem run_one7 (w : World) (a b : Int) : (Instr.buildSlice 24 1 #[(0, .agg #[.int .i64 a, .int .i64 b])]).run Try.prog w = .ok (.slice (some ⟨w.heap.size, 0, none⟩) 1 1) (w.alloc (.cells #[.int .i64 a, .int .i64 b] 68)) := by kernel_rfl
theorem op_build7 {w : World} {o : Oper} {a : Act} {x y : Operand} {p q : Int} (ho : o.op = .build 68 #[(0, x), (1, y)]) (hx : a.eval x = .int .i64 p) (hy : a.eval y = .int .i64 q) : (execOp a.eval o).run Try.prog w = .ok (.value (.agg #[.int .i64 p, .int .i64 q])) w := by
  unfold execOp
  rw [ho]
  simp only [List.map_toArray, List.map_cons, List.map_nil, hx, hy, Sem.run_bind, run_build7, Result.andThen_ok]
  rfl
end Go.Proofs.Ytcbbcihfooaggaa
