/- '==' and '!=' of paths; of hashes; and their keys in maps. -/
import Derived.Test.YtdmlalnekjihfaaRPath
import Derived.Test.YtdmlalnekjihfaaOps
import Derived.Laws.StructEq
import Derived.Maps.OwnSet
import Derived.DeepKeys4
namespace Go.Proofs.Ytdmlalnekjihfaa
open Go.RowKit Go.ChangeShapes Go.WideMaps Go.Maps
set_option linter.unusedVariables false

/-- Are two paths one? Not unfolded by a walk. -/
def sameP (H1 : List UInt8) (N1 : ByteArray) (H2 : List UInt8) (N2 : ByteArray) : Bool := decide (H1 = H2 ∧ N1 = N2)
theorem sameP_refl (H : List UInt8) (N : ByteArray) : sameP H N H N = true := by simp [sameP]

theorem path_fields : (Try.prog.fieldsOf 25).toList.map (fun f => (f.name, f.type, f.offset)) = [("Hash", 23, 0), ("Name", 9, 20)] := by kernel_rfl
theorem path_part_hash (w : World) (H : List UInt8) (N : ByteArray) (h : H.length = 20) : (part 23 (pathC H N) 0).run Try.prog w = .ok (.agg (H.map bv).toArray) w := by
  simp only [part, Sem.run_bind, Try.isAgg23, Try.sizeOf23, Result.andThen_ok, if_true, Sem.run_pure]
  congr 2
  apply Array.ext'
  simp only [pathC, Array.toList_extract, List.extract_eq_take_drop, List.drop_zero, Nat.zero_add, Nat.sub_zero]
  rw [List.take_append_of_le_length (by simp [h]), List.take_of_length_le (by simp [h])]
theorem path_part_name (w : World) (H : List UInt8) (N : ByteArray) (h : H.length = 20) : (part 9 (pathC H N) 20).run Try.prog w = .ok (.string N) w := by
  have e := pathC_name H h N
  simp [part, Try.isAgg9, e]
theorem eqFields_cons {P : Program} (w : World) (d : Nat) (xs ys : Array Value) (f : Field) (fs : List Field) (hn : f.name ≠ "_") (a b : Value) (r : Bool) (h1 : (part f.type xs f.offset).run P w = .ok a w) (h2 : (part f.type ys f.offset).run P w = .ok b w)
    (h3 : (Op.equalIn d f.type a b).run P w = .ok r w) : (Op.eqFields d xs ys (f :: fs)).run P w = if r = true then (Op.eqFields d xs ys fs).run P w else .ok false w := by
  rw [Op.eqFields, if_pos hn]
  simp only [Sem.run_bind, h1, h2, h3, Result.andThen_ok]
  cases r
  · simp
  · simp
theorem two_of_map {α β : Type} {g : α → β} {l : List α} {x y : β} (h : l.map g = [x, y]) : ∃ a b, l = [a, b] ∧ g a = x ∧ g b = y := by
  have hl := congrArg List.length h
  rw [List.length_map] at hl
  match l, hl with
  | [a, b], _ =>
    simp only [List.map_cons, List.map_nil, List.cons.injEq, and_true] at h
    exact ⟨a, b, rfl, h.1, h.2⟩
theorem run_equalIn_pathD (d : Nat) (w : World) (H1 : List UInt8) (N1 : ByteArray) (H2 : List UInt8) (N2 : ByteArray) (h1 : H1.length = 20) (h2 : H2.length = 20) :
    (Op.equalIn (d + 3) 25 (.agg (pathC H1 N1)) (.agg (pathC H2 N2))).run Try.prog w = .ok (sameP H1 N1 H2 N2) w := by
  rw [run_equalIn_struct w (d + 2) 25 _ _ (by kernel_rfl) (by kernel_rfl)]
  obtain ⟨f1, f2, hf, a, b⟩ := two_of_map path_fields
  simp only [Prod.mk.injEq] at a b
  obtain ⟨n1, t1, o1⟩ := a
  obtain ⟨n2, t2, o2⟩ := b
  have n1 : f1.name ≠ "_" := by rw [n1]; decide
  have n2 : f2.name ≠ "_" := by rw [n2]; decide
  rw [hf]
  have e1 := run_equalIn_bytes (P := Try.prog) w d 23 5 20 Try.underlying23 Try.underlying5 (fun w => by kernel_rfl) H1 H2 h1 h2
  have e1 : (Op.equalIn (d + 2) 23 (.agg (H1.map bv).toArray) (.agg (H2.map bv).toArray)).run Try.prog w = .ok (H1 == H2) w := e1
  have e2 := run_equalIn_string (P := Try.prog) w (d + 1) 9 N1 N2 Try.underlying9
  rw [eqFields_cons w (d + 2) _ _ f1 [f2] n1 (.agg (H1.map bv).toArray) (.agg (H2.map bv).toArray) (H1 == H2) (by rw [t1, o1]; exact path_part_hash w _ _ h1) (by rw [t1, o1]; exact path_part_hash w _ _ h2) (by rw [t1]; exact e1),
    eqFields_cons w (d + 2) _ _ f2 [] n2 (.string N1) (.string N2) (N1.toList == N2.toList) (by rw [t2, o2]; exact path_part_name w _ _ h1) (by rw [t2, o2]; exact path_part_name w _ _ h2) (by rw [t2]; exact e2)]
  have hr : sameP H1 N1 H2 N2 = ((H1 == H2) && (N1.toList == N2.toList)) := by
    rw [Bool.eq_iff_iff, Bool.and_eq_true, beq_iff_eq, beq_iff_eq, sameP, decide_eq_true_iff]
    refine ⟨fun ⟨a, b⟩ => ⟨a, by rw [b]⟩, fun ⟨a, b⟩ => ⟨a, ?_⟩⟩
    rw [Go.ByteArray.toList_eq, Go.ByteArray.toList_eq] at b
    exact ByteArray.ext (Array.toList_inj.1 b)
  rw [hr]
  have hnil : (Op.eqFields (d + 2) (pathC H1 N1) (pathC H2 N2) []).run Try.prog w = .ok true w := rfl
  rw [hnil]
  cases (H1 == H2)
  · rfl
  · cases (N1.toList == N2.toList)
    · rfl
    · rfl
theorem run_equalIn_path (w : World) (H1 : List UInt8) (N1 : ByteArray) (H2 : List UInt8) (N2 : ByteArray) (h1 : H1.length = 20) (h2 : H2.length = 20) :
    (Op.equalIn 10000 25 (.agg (pathC H1 N1)) (.agg (pathC H2 N2))).run Try.prog w = .ok (sameP H1 N1 H2 N2) w := by
  rw [show Op.equalIn 10000 = Op.equalIn (9997 + 3) from rfl]
  exact run_equalIn_pathD 9997 w H1 N1 H2 N2 h1 h2
theorem run_eql_path (w : World) (H1 : List UInt8) (N1 : ByteArray) (H2 : List UInt8) (N2 : ByteArray) (h1 : H1.length = 20) (h2 : H2.length = 20) :
    (binOp .eql 25 (.agg (pathC H1 N1)) (.agg (pathC H2 N2))).run Try.prog w = .ok (.bool (sameP H1 N1 H2 N2)) w := by
  rw [run_eql_struct, run_equalIn_path w H1 N1 H2 N2 h1 h2]
  rfl
theorem run_neq_path (w : World) (H1 : List UInt8) (N1 : ByteArray) (H2 : List UInt8) (N2 : ByteArray) (h1 : H1.length = 20) (h2 : H2.length = 20) :
    (binOp .neq 25 (.agg (pathC H1 N1)) (.agg (pathC H2 N2))).run Try.prog w = .ok (.bool (!sameP H1 N1 H2 N2)) w := by
  rw [run_neq_struct, run_equalIn_path w H1 N1 H2 N2 h1 h2]
  rfl
theorem guard_path (w : World) (op : BinOp) (x y : Operand) (A Bb : Array Value) : (eqGuard op 25 x y (.agg A) (.agg Bb)).run Try.prog w = .ok () w := run_eqGuard_agg w op _ x y A Bb (by kernel_rfl)
theorem guard_hash (w : World) (op : BinOp) (x y : Operand) (A Bb : Array Value) : (eqGuard op 23 x y (.agg A) (.agg Bb)).run Try.prog w = .ok () w := run_eqGuard_agg w op _ x y A Bb (by kernel_rfl)

/-- The law of the keys. -/
theorem laidOutP : laidOutB Try.prog = true := by kernel_rfl
theorem lawP : Keyed Try.prog 25 := Keyed.of_law (deep_law_laid laidOutP (m := 5) (by decide) (Nat.le_of_ble_eq_true (by kernel_rfl)) (by kernel_rfl) (by kernel_rfl))
end Go.Proofs.Ytdmlalnekjihfaa
