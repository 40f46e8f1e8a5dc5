/- What strings' operations come to: cut, put together; paths built of parts. -/
import Derived.Test.YtdmlalnekjihfaaRunB
namespace Go.Proofs.Ytdmlalnekjihfaa
open Go.RowKit Go.ChangeShapes
set_option linter.unusedVariables false

theorem run_str_lo (w : World) (s : ByteArray) (n : Nat) (i : Int) (hi : i = n) (h : n ≤ s.size) : (Instr.sliceAt 9 (.string s) (some (.int .i64 i)) none none).run Try.prog w = .ok (.string (s.extract n s.size)) w := by
  subst hi
  have h0 : (0 : Int) ≤ (n : Int) ∧ (n : Int) ≤ (s.size : Int) := by omega
  simp [Instr.sliceAt, Instr.slice, Instr.sliceBounds, Instr.sliceBound, run_underlying Try.underlying9, asIntOf, h]
theorem run_str_hi (w : World) (s : ByteArray) (n : Nat) (i : Int) (hi : i = n) (h : n ≤ s.size) : (Instr.sliceAt 9 (.string s) none (some (.int .i64 i)) none).run Try.prog w = .ok (.string (s.extract 0 n)) w := by
  subst hi
  have h0 : (0 : Int) ≤ (n : Int) ∧ (n : Int) ≤ (s.size : Int) := by omega
  simp [Instr.sliceAt, Instr.slice, Instr.sliceBounds, Instr.sliceBound, run_underlying Try.underlying9, asIntOf, h]
theorem run_add (w : World) (a b : ByteArray) (h : a.size + b.size ≤ 281474976710656) : (binOp .add 9 (.string a) (.string b)).run Try.prog w = .ok (.string (a ++ b)) w := by
  rw [binOp_string_add]
  exact run_cat w a b h
theorem op_str_lo {P : Program} {w : World} {o : Oper} {a : Act} {t : TypeId} {x lo : Operand} {vx vl v : Value} (ho : o.op = .slice t x (some lo) none none) (hx : a.eval x = vx) (hl : a.eval lo = vl) (hr : (Instr.sliceAt t vx (some vl) none none).run P w = .ok v w) : (execOp a.eval o).run P w = .ok (.value v) w := op_slice_lo ho hx hl hr

theorem guard_add (w : World) (x y : Operand) (A Bb : ByteArray) : (eqGuard .add 9 x y (.string A) (.string Bb)).run Try.prog w = .ok () w := guard_str w .add x y A Bb
theorem path_built_h20 (a0 a1 a2 a3 a4 a5 a6 a7 a8 a9 a10 a11 a12 a13 a14 a15 a16 a17 a18 a19 : Value) : Try.prog.built 25 [(0, .agg #[a0, a1, a2, a3, a4, a5, a6, a7, a8, a9, a10, a11, a12, a13, a14, a15, a16, a17, a18, a19])] = some #[a0, a1, a2, a3, a4, a5, a6, a7, a8, a9, a10, a11, a12, a13, a14, a15, a16, a17, a18, a19, .string ⟨#[]⟩] := by kernel_rfl
theorem path_built_h (A : List Value) (h : A.length = 20) : Try.prog.built 25 [(0, .agg A.toArray)] = some (A ++ [Value.string ⟨#[]⟩]).toArray := by
  match A, h with
  | [a0, a1, a2, a3, a4, a5, a6, a7, a8, a9, a10, a11, a12, a13, a14, a15, a16, a17, a18, a19], _ => exact path_built_h20 a0 a1 a2 a3 a4 a5 a6 a7 a8 a9 a10 a11 a12 a13 a14 a15 a16 a17 a18 a19
theorem path_built_n (N : ByteArray) : Try.prog.built 25 [(1, .string N)] = some (pathC (List.replicate 20 0) N) := by kernel_rfl
theorem path_built_0 : Try.prog.built 25 [] = some (pathC (List.replicate 20 0) ⟨#[]⟩) := by kernel_rfl
end Go.Proofs.Ytdmlalnekjihfaa
