/- Operations of regions at slices of paths: len, index, load, one less. -/
import Derived.Test.YtdmlalnekjihfaaSortC
import Derived.Deep.MidRow
namespace Go.Proofs.Ytdmlalnekjihfaa
open Go.RowKit Go.ChangeShapes
set_option linter.unusedVariables false

theorem op_len_paths {w : World} {o : Oper} {a : Act} {x : Operand} {ao : Option Addr} {n cap : Nat} (ho : o.op = .call { callee := .builtin .len, args := #[x], argTypes := #[37] }) (hx : a.eval x = .slice ao n cap) :
    (execOp a.eval o).run Try.prog w = .ok (.value (.int .i64 n)) w := by
  obtain ⟨d, op, ty, pos, aft, g⟩ := o
  simp only at ho
  subst ho
  simp [execOp, resolve, invoke, builtin, Builtin.len_, hx, Result.andThen, goInt]
theorem run_index_paths (w : World) (b off n cap i : Nat) (h : i < n) : (Instr.indexAt 37 (.slice (some ⟨b, off, none⟩) n cap) (.int .i64 i)).run Try.prog w = .ok (.pointer (some ⟨b, off + i * 21, none⟩)) w := by
  simp [Instr.indexAt, h, Addr.add, asIntOf]
theorem run_one_less (w : World) (n : Nat) (h : 0 < n) (hn : n ≤ 1000000) : (binOp .sub 3 (.int .i64 n) (.int .i64 1)).run Try.prog w = .ok (.int .i64 ((n - 1 : Nat) : Int)) w := by
  have e : (n : Int) - 1 = ((n - 1 : Nat) : Int) := by omega
  simp [binOp, Op.intArith, e, IntKind.wrap, IntKind.bits, IntKind.signed]
  omega
theorem run_eq_zero (w : World) (n : Nat) : (binOp .eql 3 (.int .i64 n) (.int .i64 0)).run Try.prog w = .ok (.bool (decide (n = 0))) w := by
  simp [binOp, Op.intCmp]
  rw [Bool.eq_iff_iff, beq_iff_eq, decide_eq_true_iff]
  omega
theorem load_mid_path (w : World) (b o : Nat) (x : PathX) (h : w.rangeAt b o (cellsX x)) : (Instr.loadAt 25 (.pointer (some ⟨b, o, none⟩))).run Try.prog w = .ok (.agg (pathC x.h x.n)) w := by
  exact run_loadAt_mid w b o 25 (cellsX x) _ h Try.underlying25 rfl (by rw [cellsX_length]; kernel_rfl)
theorem rLessX_any (x y : PathX) (w : World) :
    Calls Try.prog 22 #[.agg (pathC x.h x.n), .agg (pathC y.h y.n)] w fun e w' => e = .returned (.bool (lessX x y)) ∧ Fr (fun _ => False) w w' := rLess_any x.h x.n y.h y.n x.hl y.hl w
theorem bLessX_any (x y : PathX) (w : World) :
    Calls Try.prog 21 #[.agg (pathC x.h x.n), .agg (pathC y.h y.n)] w fun e w' => e = .returned (.bool (lessX x y)) ∧ Fr (fun _ => False) w w' := bLess_any x.h x.n y.h y.n x.hl y.hl w
end Go.Proofs.Ytdmlalnekjihfaa
