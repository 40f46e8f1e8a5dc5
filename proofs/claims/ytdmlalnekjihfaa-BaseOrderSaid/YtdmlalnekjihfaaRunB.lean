/- What the operations of a drawn region come to: fields, loads, '==' of one and the same; rows that lie in blocks of their own. -/
import Derived.Test.YtdmlalnekjihfaaPathEq
import Derived.Test.YtdmlalnekjihfaaBOrder
import Derived.Test.YtdmlalnekjihfaaBParse
import Derived.Deep.MidRow
namespace Go.Proofs.Ytdmlalnekjihfaa
open Go.RowKit Go.ChangeShapes
set_option linter.unusedVariables false

section
variable {P : Program} {w : World} {o : Oper} {a : Act}
theorem op_fieldAddr {s : TypeId} {x : Operand} {f : Nat} {vx v : Value} (ho : o.op = .fieldAddr s x f) (hx : a.eval x = vx) (hr : (Instr.fieldAt s vx f).run P w = .ok v w) : (execOp a.eval o).run P w = .ok (.value v) w := by
  unfold execOp
  rw [ho]
  simp only [hx, Sem.run_bind, hr, Result.andThen_ok]
  rfl
theorem op_loadAt {t : TypeId} {x : Operand} {vx v : Value} (ho : o.op = .load t x) (hx : a.eval x = vx) (hr : (Instr.loadAt t vx).run P w = .ok v w) : (execOp a.eval o).run P w = .ok (.value v) w := by
  unfold execOp
  rw [ho]
  simp only [hx, Sem.run_bind, hr, Result.andThen_ok]
  rfl
theorem op_unop {t : TypeId} {op : UnOp} {x : Operand} {vx v : Value} (ho : o.op = .unOp op t x) (hx : a.eval x = vx) (hr : (Op.unary op vx).run P w = .ok v w) : (execOp a.eval o).run P w = .ok (.value v) w := by
  unfold execOp
  rw [ho]
  simp only [hx, Sem.run_bind, hr, Result.andThen_ok]
  rfl
theorem op_indexAddr {t : TypeId} {x i : Operand} {vx vi v : Value} (ho : o.op = .indexAddr t x i) (hx : a.eval x = vx) (hi : a.eval i = vi) (hr : (Instr.indexAt t vx vi).run P w = .ok v w) : (execOp a.eval o).run P w = .ok (.value v) w := by
  unfold execOp
  rw [ho]
  simp only [hx, hi, Sem.run_bind, hr, Result.andThen_ok]
  rfl
end
theorem field_hash (w : World) (g : Nat) : (Instr.fieldAt 25 (.pointer (some ⟨g, 0, none⟩)) 0).run Try.prog w = .ok (.pointer (some ⟨g, 0, none⟩)) w := by kernel_rfl
theorem field_name (w : World) (g : Nat) : (Instr.fieldAt 25 (.pointer (some ⟨g, 0, none⟩)) 1).run Try.prog w = .ok (.pointer (some ⟨g, 20, none⟩)) w := by kernel_rfl
theorem load_string (w : World) (g o : Nat) (N : ByteArray) (h : w.cell? ⟨g, o, none⟩ = some (.string N)) : (Instr.loadAt 9 (.pointer (some ⟨g, o, none⟩))).run Try.prog w = .ok (.string N) w := by
  simp [Instr.loadAt, Instr.sureAddr, loadVar, isAgg, run_underlying Try.underlying9, h]
theorem load_hash (w : World) (g : Nat) (H : List UInt8) (h : w.heap[g]? = some (.cells (H.map bv).toArray 23 (0, 0))) (hH : H.length = 20) :
    (Instr.loadAt 23 (.pointer (some ⟨g, 0, none⟩))).run Try.prog w = .ok (.agg (H.map bv).toArray) w :=
  by simp only [Instr.loadAt, Instr.sureAddr, Sem.run_bind, Sem.run_pure, Result.andThen_ok, run_loadVar_row w g _ _ _ (0, 0) _ h Try.underlying23 rfl (show (Try.prog.info? 23).map (·.size) = some (H.map bv).toArray.size by rw [List.size_toArray, List.length_map, hH]; kernel_rfl)]
theorem load_path (w : World) (g : Nat) (H : List UInt8) (N : ByteArray) (h : PathT w g H N) (hH : H.length = 20) :
    (Instr.loadAt 25 (.pointer (some ⟨g, 0, none⟩))).run Try.prog w = .ok (.agg (pathC H N)) w :=
  by
  have h' : w.heap[g]? = some (.cells (pathC H N) 25 (0, 0)) := h
  simp only [Instr.loadAt, Instr.sureAddr, Sem.run_bind, Sem.run_pure, Result.andThen_ok, run_loadVar_row w g _ _ _ (0, 0) _ h' Try.underlying25 rfl (show (Try.prog.info? 25).map (·.size) = some (pathC H N).size by rw [pathC_size H hH N]; kernel_rfl)]
theorem load_path_hash (w : World) (g : Nat) (H : List UInt8) (N : ByteArray) (h : PathT w g H N) (hH : H.length = 20) :
    (Instr.loadAt 23 (.pointer (some ⟨g, 0, none⟩))).run Try.prog w = .ok (.agg (H.map bv).toArray) w :=
  run_loadAt_mid w g 0 _ (H.map bv) _ h.range Try.underlying23 rfl (by rw [List.length_map, hH]; kernel_rfl)

theorem guard_str (w : World) (op : BinOp) (x y : Operand) (A Bb : ByteArray) : (eqGuard op 9 x y (.string A) (.string Bb)).run Try.prog w = .ok () w := by cases op <;> rfl
theorem guard_int (w : World) (op : BinOp) (T : TypeId) (k : IntKind) (x y : Operand) (A Bb : Int) : (eqGuard op T x y (.int k A) (.int k Bb)).run Try.prog w = .ok () w := by cases op <;> rfl
theorem guard_bool (w : World) (op : BinOp) (T : TypeId) (x y : Operand) (A Bb : Bool) : (eqGuard op T x y (.bool A) (.bool Bb)).run Try.prog w = .ok () w := by cases op <;> rfl
theorem eql_str (w : World) (A : ByteArray) : (binOp .eql 9 (.string A) (.string A)).run Try.prog w = .ok (.bool true) w := by
  rw [binOp_string_eql]
  simp
theorem eql_err (w : World) (A : Int) : (binOp .eql 27 (.int .i64 A) (.int .i64 A)).run Try.prog w = .ok (.bool true) w := by
  rw [binOp_eql]
  simp
theorem eql_bool (w : World) (A : Bool) : (binOp .eql 4 (.bool A) (.bool A)).run Try.prog w = .ok (.bool true) w := by
  rw [run_eql_bool w _ A A Try.underlying4]
  simp
theorem eql_hash_one (w : World) (A : List UInt8) (h : A.length = 20) : (binOp .eql 23 (.agg (A.map bv).toArray) (.agg (A.map bv).toArray)).run Try.prog w = .ok (.bool true) w := by
  rw [run_eql_hash w A A h h]
  simp
theorem eql_path_one (w : World) (H : List UInt8) (N : ByteArray) (h : H.length = 20) : (binOp .eql 25 (.agg (pathC H N)) (.agg (pathC H N))).run Try.prog w = .ok (.bool true) w := by
  rw [run_eql_path w H N H N h h, sameP_refl]

/-- Rows that lie in blocks of their own. -/
def Rows (w : World) (l : List (Nat × Array Value × TypeId)) : Prop := ∀ x ∈ l, w.heap[x.1]? = some (.cells x.2.1 x.2.2 (0, 0))
theorem Rows.nth {w : World} {l : List (Nat × Array Value × TypeId)} (h : Rows w l) (i : Nat) (g : Nat) (C : Array Value) (T : TypeId) (hi : l[i]? = some (g, C, T)) : w.heap[g]? = some (.cells C T (0, 0)) :=
  h (g, C, T) (List.mem_of_getElem? hi)
theorem Rows.keep {w w' : World} {l : List (Nat × Array Value × TypeId)} (h : Rows w l) (hf : Fr (fun _ => False) w w') : Rows w' l := fun x hx => hf.heap (h x hx) (fun h => h)
theorem Rows.laid {w : World} {l : List (Nat × Array Value × TypeId)} (h : Rows w l) (Z C : Array Value) (T : TypeId) : Rows ((w.alloc (.cells Z T)).setRow w.heap.size C) ((w.heap.size, C, T) :: l) := by
  intro x hx
  rcases List.mem_cons.1 hx with rfl | hx
  · exact setRow_heap (w.alloc (.cells Z T)) w.heap.size Z C T (0, 0) (heap_alloc_new w _)
  · exact (h.keep (((Fr.refl (fun _ => False) w).alloc (.cells Z T)).setRow (.inr (Nat.le_refl _)) C)) x hx
theorem Fr.laid (w : World) (Z C : Array Value) (T : TypeId) : Fr (fun _ => False) w ((w.alloc (.cells Z T)).setRow w.heap.size C) := ((Fr.refl (fun _ => False) w).alloc (.cells Z T)).setRow (.inr (Nat.le_refl _)) C

/-- What Hash, Path, Parse tell, in their shapes. -/
theorem hashT_shape (S : List UInt8) : ∃ (X : List UInt8) (e : Int), X.length = 20 ∧ hashT S = .tuple #[.agg (X.map bv).toArray, .int .i64 e] := by
  unfold hashT
  split
  · exact ⟨hashL S 160, 0, hashL_length S 160, rfl⟩
  · exact ⟨List.replicate 20 0, 4, rfl, rfl⟩
theorem parseT_shape (s : ByteArray) : ∃ (X : List UInt8) (N : ByteArray) (e : Int), X.length = 20 ∧ N.size ≤ s.size ∧ parseT s = .tuple #[.agg (pathC X N), .int .i64 e] := by
  unfold parseT
  split
  · exact ⟨_, _, 0, hashL_length _ 160, cut_size _ _ _, rfl⟩
  · exact ⟨List.replicate 20 0, ⟨#[]⟩, 4, rfl, Nat.zero_le _, rfl⟩
theorem pathT_shape (H : List UInt8) (N : ByteArray) : ∃ (PS : ByteArray) (e : Int), (if nameB N.data.toList = true then Value.tuple #[.string ⟨(letL H ++ 45 :: N.data.toList).toArray⟩, .int .i64 0] else .tuple #[.string ⟨#[]⟩, .int .i64 2]) = .tuple #[.string PS, .int .i64 e] := by
  split
  · exact ⟨_, 0, rfl⟩
  · exact ⟨_, 2, rfl⟩

theorem bLetters_enter (args : Array Value) (w : World) : (callFunc 15 args).run Try.prog w = .ok (.enter 15 args) w := by rfl
theorem rLetters_enter (args : Array Value) (w : World) : (callFunc 16 args).run Try.prog w = .ok (.enter 16 args) w := by rfl
theorem bName_enter (args : Array Value) (w : World) : (callFunc 17 args).run Try.prog w = .ok (.enter 17 args) w := by rfl
theorem rName_enter (args : Array Value) (w : World) : (callFunc 18 args).run Try.prog w = .ok (.enter 18 args) w := by rfl
theorem bLess_enter (args : Array Value) (w : World) : (callFunc 21 args).run Try.prog w = .ok (.enter 21 args) w := by rfl
theorem rLess_enter (args : Array Value) (w : World) : (callFunc 22 args).run Try.prog w = .ok (.enter 22 args) w := by rfl
end Go.Proofs.Ytdmlalnekjihfaa
