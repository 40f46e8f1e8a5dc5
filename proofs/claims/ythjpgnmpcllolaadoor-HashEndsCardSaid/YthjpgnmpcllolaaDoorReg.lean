/- What the operations of a drawn region come to, one by one: moves, cuts, new rows of rows, '==' of arrays. -/
import Derived.Test.YthjpgnmpcllolaaDoorOf
import Derived.Test.YthjpgnmpcllolaaDoorInv
import Derived.Stop.BytesEq
namespace Go.Proofs.YthjpgnmpcllolaaDoor
open Go.RowKit Go.ChangeShapes
set_option linter.unusedVariables false

theorem run_eql_arr (w : World) (T : TypeId) (n : Nat) (A Bb : List UInt8) (hT : Tryd.prog.underlying T = some (.array n 5)) (hA : A.length = n) (hB : Bb.length = n) :
    (binOp .eql T (.agg (A.map bv).toArray) (.agg (Bb.map bv).toArray)).run Tryd.prog w = .ok (.bool (A == Bb)) w :=
  run_eql_bytes w T 5 n hT Tryd.underlying5 (fun w => by kernel_rfl) A Bb hA hB
theorem run_neq_arr (w : World) (T : TypeId) (n : Nat) (A Bb : List UInt8) (hT : Tryd.prog.underlying T = some (.array n 5)) (hA : A.length = n) (hB : Bb.length = n) :
    (binOp .neq T (.agg (A.map bv).toArray) (.agg (Bb.map bv).toArray)).run Tryd.prog w = .ok (.bool (!(A == Bb))) w := by
  rw [run_neq_struct, show Op.equalIn 10000 = Op.equalIn (9998 + 2) from rfl]
  have h := run_equalIn_bytes (P := Tryd.prog) w 9998 T 5 n hT Tryd.underlying5 (fun w => by kernel_rfl) A Bb hA hB
  have h' : (Op.equalIn (9998 + 2) T (.agg (A.map bv).toArray) (.agg (Bb.map bv).toArray)).run Tryd.prog w = .ok (A == Bb) w := h
  rw [h']
  rfl

section
variable {P : Program} {w : World} {o : Oper} {a : Act}
theorem op_move {x : Operand} {v : Value} (ho : o.op = .move x) (hv : a.eval x = v) : (execOp a.eval o).run P w = .ok (.value v) w := by
  unfold execOp
  rw [ho]
  simp only [hv]
  rfl
theorem op_assign {x : Operand} {v : Value} (ho : o.op = .assign x) (hv : a.eval x = v) : (execOp a.eval o).run P w = .ok (.value v) w := by
  unfold execOp
  rw [ho]
  simp only [hv]
  rfl
/-- x[:hi]. -/
theorem op_slice_hi {t : TypeId} {x hi : Operand} {vx vh v : Value} (ho : o.op = .slice t x none (some hi) none) (hx : a.eval x = vx) (hh : a.eval hi = vh) (hr : (Instr.sliceAt t vx none (some vh) none).run P w = .ok v w) : (execOp a.eval o).run P w = .ok (.value v) w := by
  unfold execOp
  rw [ho]
  simp only [hx, hh, Option.map_some, Option.map_none, Sem.run_bind, hr, Result.andThen_ok]
  rfl
/-- x[lo:]. -/
theorem op_slice_lo {t : TypeId} {x lo : Operand} {vx vl v : Value} (ho : o.op = .slice t x (some lo) none none) (hx : a.eval x = vx) (hl : a.eval lo = vl) (hr : (Instr.sliceAt t vx (some vl) none none).run P w = .ok v w) : (execOp a.eval o).run P w = .ok (.value v) w := by
  unfold execOp
  rw [ho]
  simp only [hx, hl, Option.map_some, Option.map_none, Sem.run_bind, hr, Result.andThen_ok]
  rfl
theorem op_pick {c x y : Operand} {b : Bool} {v : Value} (ho : o.op = .pick c x y) (hc : a.eval c = .bool b) (hv : (if b = true then a.eval x else a.eval y) = v) : (execOp a.eval o).run P w = .ok (.value v) w := by
  unfold execOp
  rw [ho]
  simp only [hc, asBool, Sem.run_bind, Sem.run_pure, Result.andThen_ok, hv]
theorem op_bin {op : BinOp} {t t' : TypeId} {x y : Operand} {vx vy v : Value} (ho : o.op = .binOp op t x y t') (hx : a.eval x = vx) (hy : a.eval y = vy) (hg : (eqGuard op t x y vx vy).run P w = .ok () w) (hr : (binOp op t vx vy).run P w = .ok v w) : (execOp a.eval o).run P w = .ok (.value v) w := by
  unfold execOp
  rw [ho]
  simp only [hx, hy, Sem.run_bind, hg, hr, Result.andThen_ok]
  rfl
end

theorem run_sliceAt_slice (w : World) (x : Value) (lo hi mx : Option Value) : (Instr.sliceAt 38 x lo hi mx).run Tryd.prog w = (Instr.slice 38 x lo hi mx).run Tryd.prog w := by
  simp [Instr.sliceAt, run_underlying Tryd.underlying38]
theorem run_hi (w : World) (ao : Option Addr) (l cap n : Nat) (hn : n ≤ cap) : (Instr.sliceAt 38 (.slice ao l cap) none (some (.int .i64 (n : Int))) none).run Tryd.prog w = .ok (.slice ao n cap) w := by
  rw [run_sliceAt_slice]
  exact run_take w ao l cap n n rfl hn
theorem run_lo (w : World) (ao : Option Addr) (l cap n : Nat) (hn : n ≤ l) : (Instr.sliceAt 38 (.slice ao l cap) (some (.int .i64 (n : Int))) none none).run Tryd.prog w = .ok (.slice (cutLow ao n cap) (l - n) (cap - n)) w := by
  rw [run_sliceAt_slice]
  exact run_cutLow w ao l cap n hn

/-- [][]byte{x}, .. -/
theorem run_rows1 (w : World) (a1 : Option Addr) (l1 c1 : Nat) :
    (Instr.buildSlice 22 1 #[(0, .slice a1 l1 c1)]).run Tryd.prog w = .ok (.slice (some ⟨w.heap.size, 0, none⟩) 1 1) (w.alloc (.cells #[.slice a1 l1 c1] 38)) := by
  kernel_rfl
theorem run_rows2 (w : World) (a1 a2 : Option Addr) (l1 c1 l2 c2 : Nat) :
    (Instr.buildSlice 22 2 #[(0, .slice a1 l1 c1), (1, .slice a2 l2 c2)]).run Tryd.prog w = .ok (.slice (some ⟨w.heap.size, 0, none⟩) 2 2) (w.alloc (.cells #[.slice a1 l1 c1, .slice a2 l2 c2] 38)) := by
  kernel_rfl
theorem run_rows3 (w : World) (a1 a2 a3 : Option Addr) (l1 c1 l2 c2 l3 c3 : Nat) :
    (Instr.buildSlice 22 3 #[(0, .slice a1 l1 c1), (1, .slice a2 l2 c2), (2, .slice a3 l3 c3)]).run Tryd.prog w = .ok (.slice (some ⟨w.heap.size, 0, none⟩) 3 3) (w.alloc (.cells #[.slice a1 l1 c1, .slice a2 l2 c2, .slice a3 l3 c3] 38)) := by
  kernel_rfl
theorem op_rows {P : Program} {w w' : World} {o : Oper} {a : Act} {t : TypeId} {n : Nat} {ps : Array (Nat × Operand)} {vs : Array (Nat × Value)} {v : Value} (ho : o.op = .buildSlice t n ps) (hp : (ps.map fun x => (x.1, a.eval x.2)) = vs) (hr : (Instr.buildSlice t n vs).run P w = .ok v w') : (execOp a.eval o).run P w = .ok (.value v) w' := by
  subst hp
  unfold execOp
  rw [ho]
  simp only [Sem.run_bind]
  rw [hr]
  rfl
/-- A whole array out of a block of its own, where the guard wants it. -/
theorem wpList_load_row_g {P : Program} {ops : Array Oper} {rest : List Oper} {o : Oper} {a : Act} {w : World} {Q : Exit → Act → World → Prop} (hw : Region.wanted o (yielded ops a.tmps) = true) (ty : TypeId) (x : Operand) (ho : o.op = .load ty x)
    (g : Nat) (hx : a.eval x = .pointer (some ⟨g, 0, none⟩)) (t : TypeId) (cs : Array Value) (fr : Nat × Nat) (d : TypeDesc) (hg : w.heap[g]? = some (.cells cs t fr))
    (hu : P.underlying ty = some d) (hd : (match d with | .struct _ | .array _ _ => true | _ => false) = true) (hi : (P.info? ty).map (·.size) = some cs.size)
    (h : wpList P ops Q rest (a.put o.dst (.agg cs)) w) : wpList P ops Q (o :: rest) a w :=
  wpList_step fun _ hK => by
    rw [if_pos hw]
    exact wp_load_row ty x ho g hx t cs fr d hg hu hd hi (hK _ _ h)
theorem sum_enter (args : Array Value) (w : World) : (callFunc 11 args).run Tryd.prog w = .ok (.enter 11 args) w := by rfl
theorem of_enter (args : Array Value) (w : World) : (callFunc 16 args).run Tryd.prog w = .ok (.enter 16 args) w := by rfl
end Go.Proofs.YthjpgnmpcllolaaDoor
