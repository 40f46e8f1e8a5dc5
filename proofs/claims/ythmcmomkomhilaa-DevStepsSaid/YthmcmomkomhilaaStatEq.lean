/- '!=' of what Stat tells. -/
import Derived.Test.YthmcmomkomhilaaOps
import Derived.Test.YthmcmomkomhilaaDevFuse
import Derived.Laws.StructEq
import Derived.DeepKeys4
namespace Go.Proofs.Ythmcmomkomhilaa
open Go.RowKit Go.ChangeShapes
set_option linter.unusedVariables false

theorem stat_fields : (Try.prog.fieldsOf 46).toList.map (fun f => (f.name, f.type, f.offset)) = [("Sectors", 3, 0), ("Pending", 3, 1), ("Deeds", 3, 2), ("Down", 4, 3)] := by kernel_rfl
theorem four_of_map {α β : Type} {g : α → β} {l : List α} {x y z u : β} (h : l.map g = [x, y, z, u]) : ∃ a b c d, l = [a, b, c, d] ∧ g a = x ∧ g b = y ∧ g c = z ∧ g d = u := by
  have hl := congrArg List.length h
  rw [List.length_map] at hl
  match l, hl with
  | [a, b, c, d], _ =>
    simp only [List.map_cons, List.map_nil, List.cons.injEq, and_true] at h
    exact ⟨a, b, c, d, rfl, h.1, h.2.1, h.2.2.1, h.2.2.2⟩
theorem eqFields_cons4 {P : Program} (w : World) (d : Nat) (xs ys : Array Value) (f : Field) (fs : List Field) (hn : f.name ≠ "_") (a b : Value) (r : Bool) (h1 : (part f.type xs f.offset).run P w = .ok a w) (h2 : (part f.type ys f.offset).run P w = .ok b w)
    (h3 : (Op.equalIn d f.type a b).run P w = .ok r w) : (Op.eqFields d xs ys (f :: fs)).run P w = if r = true then (Op.eqFields d xs ys fs).run P w else .ok false w := by
  rw [Op.eqFields, if_pos hn]
  simp only [Sem.run_bind, h1, h2, h3, Result.andThen_ok]
  cases r
  · simp
  · simp
theorem eq_int_self (w : World) (d : Nat) (a : Int) : (Op.equalIn (d + 1) 3 (.int .i64 a) (.int .i64 a)).run Try.prog w = .ok true w := by
  have h : (Op.equalIn (d + 1) 3 (.int .i64 a) (.int .i64 a)).run Try.prog w = .ok (a == a) w := by kernel_rfl
  rw [h, beq_self_eq_true]
theorem eq_bool_self (w : World) (d : Nat) (a : Bool) : (Op.equalIn (d + 1) 4 (.bool a) (.bool a)).run Try.prog w = .ok true w := by
  cases a <;> kernel_rfl
theorem run_neq_stat (w : World) (a b c : Int) (d : Bool) :
    (binOp .neq 46 (.agg #[.int .i64 a, .int .i64 b, .int .i64 c, .bool d]) (.agg #[.int .i64 a, .int .i64 b, .int .i64 c, .bool d])).run Try.prog w = .ok (.bool false) w := by
  rw [run_neq_struct, show Op.equalIn 10000 = Op.equalIn (9998 + 2) from rfl]
  have h : (Op.equalIn (9998 + 2) 46 (.agg #[.int .i64 a, .int .i64 b, .int .i64 c, .bool d]) (.agg #[.int .i64 a, .int .i64 b, .int .i64 c, .bool d])).run Try.prog w = .ok true w := by
    rw [run_equalIn_struct w (9998 + 1) 46 _ _ (by kernel_rfl) (by kernel_rfl)]
    obtain ⟨f1, f2, f3, f4, hf, x1, x2, x3, x4⟩ := four_of_map stat_fields
    simp only [Prod.mk.injEq] at x1 x2 x3 x4
    obtain ⟨n1, t1, o1⟩ := x1
    obtain ⟨n2, t2, o2⟩ := x2
    obtain ⟨n3, t3, o3⟩ := x3
    obtain ⟨n4, t4, o4⟩ := x4
    rw [hf]
    rw [eqFields_cons4 w _ _ _ f1 _ (by rw [n1]; decide) (.int .i64 a) (.int .i64 a) true (by rw [t1, o1]; kernel_rfl) (by rw [t1, o1]; kernel_rfl) (by rw [t1]; exact eq_int_self w 9998 a), if_pos rfl,
      eqFields_cons4 w _ _ _ f2 _ (by rw [n2]; decide) (.int .i64 b) (.int .i64 b) true (by rw [t2, o2]; kernel_rfl) (by rw [t2, o2]; kernel_rfl) (by rw [t2]; exact eq_int_self w 9998 b), if_pos rfl,
      eqFields_cons4 w _ _ _ f3 _ (by rw [n3]; decide) (.int .i64 c) (.int .i64 c) true (by rw [t3, o3]; kernel_rfl) (by rw [t3, o3]; kernel_rfl) (by rw [t3]; exact eq_int_self w 9998 c), if_pos rfl,
      eqFields_cons4 w _ _ _ f4 _ (by rw [n4]; decide) (.bool d) (.bool d) true (by rw [t4, o4]; kernel_rfl) (by rw [t4, o4]; kernel_rfl) (by rw [t4]; exact eq_bool_self w 9998 d), if_pos rfl]
    rfl
  rw [h]
  rfl
theorem guard_stat (w : World) (op : BinOp) (x y : Operand) (A Bb : Array Value) : (eqGuard op 46 x y (.agg A) (.agg Bb)).run Try.prog w = .ok () w := run_eqGuard_agg w op _ x y A Bb (by kernel_rfl)
end Go.Proofs.Ythmcmomkomhilaa
