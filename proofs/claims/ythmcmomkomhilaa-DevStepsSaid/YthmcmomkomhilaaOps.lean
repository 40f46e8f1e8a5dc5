/- What the operations of a drawn region come to, one by one, whatever the program; '==' of arrays of bytes. -/
import Derived.Test.YthmcmomkomhilaaInv
import Derived.Test.YthmcmomkomhilaaArr
import Derived.Stop.BytesEq
namespace Go.Proofs.Ythmcmomkomhilaa
open Go.RowKit Go.ChangeShapes
set_option linter.unusedVariables false

theorem run_eql_arr (w : World) (T : TypeId) (n : Nat) (A Bb : List UInt8) (hT : Try.prog.underlying T = some (.array n 5)) (hA : A.length = n) (hB : Bb.length = n) :
    (binOp .eql T (.agg (A.map bv).toArray) (.agg (Bb.map bv).toArray)).run Try.prog w = .ok (.bool (A == Bb)) w :=
  run_eql_bytes w T 5 n hT Try.underlying5 (fun w => by kernel_rfl) A Bb hA hB
theorem run_neq_arr (w : World) (T : TypeId) (n : Nat) (A Bb : List UInt8) (hT : Try.prog.underlying T = some (.array n 5)) (hA : A.length = n) (hB : Bb.length = n) :
    (binOp .neq T (.agg (A.map bv).toArray) (.agg (Bb.map bv).toArray)).run Try.prog w = .ok (.bool (!(A == Bb))) w := by
  rw [run_neq_struct, show Op.equalIn 10000 = Op.equalIn (9998 + 2) from rfl]
  have h := run_equalIn_bytes (P := Try.prog) w 9998 T 5 n hT Try.underlying5 (fun w => by kernel_rfl) A Bb hA hB
  have h' : (Op.equalIn (9998 + 2) T (.agg (A.map bv).toArray) (.agg (Bb.map bv).toArray)).run Try.prog w = .ok (A == Bb) w := h
  rw [h']
  rfl

section
variable {P : Program} {w : World} {o : Oper} {a : Act}
theorem op_move {x : Operand} {v : Value} (ho : o.op = .move x) (hv : a.eval x = v) : (execOp a.eval o).run P w = .ok (.value v) w := by
  unfold execOp
  rw [ho]
  simp only [hv]
  rfl
theorem op_assign {x : Operand} {v : Value} (ho : o.op = .assign x) (hv : a.eval x = v) : (execOp a.eval o).run P w = .ok (.value v) w := by
  unfold execOp
  rw [ho]
  simp only [hv]
  rfl
/-- x[:hi]. -/
theorem op_slice_hi {t : TypeId} {x hi : Operand} {vx vh v : Value} (ho : o.op = .slice t x none (some hi) none) (hx : a.eval x = vx) (hh : a.eval hi = vh) (hr : (Instr.sliceAt t vx none (some vh) none).run P w = .ok v w) : (execOp a.eval o).run P w = .ok (.value v) w := by
  unfold execOp
  rw [ho]
  simp only [hx, hh, Option.map_some, Option.map_none, Sem.run_bind, hr, Result.andThen_ok]
  rfl
/-- x[lo:]. -/
theorem op_slice_lo {t : TypeId} {x lo : Operand} {vx vl v : Value} (ho : o.op = .slice t x (some lo) none none) (hx : a.eval x = vx) (hl : a.eval lo = vl) (hr : (Instr.sliceAt t vx (some vl) none none).run P w = .ok v w) : (execOp a.eval o).run P w = .ok (.value v) w := by
  unfold execOp
  rw [ho]
  simp only [hx, hl, Option.map_some, Option.map_none, Sem.run_bind, hr, Result.andThen_ok]
  rfl
theorem op_pick {c x y : Operand} {b : Bool} {v : Value} (ho : o.op = .pick c x y) (hc : a.eval c = .bool b) (hv : (if b = true then a.eval x else a.eval y) = v) : (execOp a.eval o).run P w = .ok (.value v) w := by
  unfold execOp
  rw [ho]
  simp only [hc, asBool, Sem.run_bind, Sem.run_pure, Result.andThen_ok, hv]
theorem op_bin {op : BinOp} {t t' : TypeId} {x y : Operand} {vx vy v : Value} (ho : o.op = .binOp op t x y t') (hx : a.eval x = vx) (hy : a.eval y = vy) (hg : (eqGuard op t x y vx vy).run P w = .ok () w) (hr : (binOp op t vx vy).run P w = .ok v w) : (execOp a.eval o).run P w = .ok (.value v) w := by
  unfold execOp
  rw [ho]
  simp only [hx, hy, Sem.run_bind, hg, hr, Result.andThen_ok]
  rfl
end

theorem op_rows {P : Program} {w w' : World} {o : Oper} {a : Act} {t : TypeId} {n : Nat} {ps : Array (Nat × Operand)} {vs : Array (Nat × Value)} {v : Value} (ho : o.op = .buildSlice t n ps) (hp : (ps.map fun x => (x.1, a.eval x.2)) = vs) (hr : (Instr.buildSlice t n vs).run P w = .ok v w') : (execOp a.eval o).run P w = .ok (.value v) w' := by
  subst hp
  unfold execOp
  rw [ho]
  simp only [Sem.run_bind]
  rw [hr]
  rfl
/-- A whole array out of a block of its own, where the guard wants it. -/
theorem wpList_load_row_g {P : Program} {ops : Array Oper} {rest : List Oper} {o : Oper} {a : Act} {w : World} {Q : Exit → Act → World → Prop} (hw : Region.wanted o (yielded ops a.tmps) = true) (ty : TypeId) (x : Operand) (ho : o.op = .load ty x)
    (g : Nat) (hx : a.eval x = .pointer (some ⟨g, 0, none⟩)) (t : TypeId) (cs : Array Value) (fr : Nat × Nat) (d : TypeDesc) (hg : w.heap[g]? = some (.cells cs t fr))
    (hu : P.underlying ty = some d) (hd : (match d with | .struct _ | .array _ _ => true | _ => false) = true) (hi : (P.info? ty).map (·.size) = some cs.size)
    (h : wpList P ops Q rest (a.put o.dst (.agg cs)) w) : wpList P ops Q (o :: rest) a w :=
  wpList_step fun _ hK => by
    rw [if_pos hw]
    exact wp_load_row ty x ho g hx t cs fr d hg hu hd hi (hK _ _ h)
/-- An operation that comes to a value by itself, at a plain region's list. -/
theorem wpList_value {P : Program} {ops : Array Oper} {rest : List Oper} {o : Oper} {a : Act} {w : World} {Q : Exit → Act → World → Prop} (hgd : o.guard = none) (v : Value) (w' : World) (h : (execOp a.eval o).run P w = .ok (.value v) w')
    (hK : wpList P ops Q rest (a.put o.dst v) w') : wpList P ops Q (o :: rest) a w :=
  wpList_plain hgd fun _ hK' => wp_value_inv v h (hK' _ _ hK)
/-- A new slice of one. -/
theorem wpList_one {P : Program} {ops : Array Oper} {rest : List Oper} {o : Oper} {a : Act} {w : World} {Q : Exit → Act → World → Prop} (hgd : o.guard = none) (t : TypeId) (x : Operand) (ho : o.op = .buildSlice t 1 #[(0, x)]) (y v : Value) (w' : World) (hx : a.eval x = y)
    (hr : (Instr.buildSlice t 1 #[(0, y)]).run P w = .ok v w') (hK : wpList P ops Q rest (a.put o.dst v) w') : wpList P ops Q (o :: rest) a w :=
  wpList_value hgd v w' (op_rows (vs := #[(0, y)]) ho (by simp [hx]) hr) hK
/-- T{..}. -/
theorem op_build {P : Program} {w : World} {o : Oper} {a : Act} {t : TypeId} {ps : Array (Nat × Operand)} {vs : Array (Nat × Value)} {cells : Array Value} (ho : o.op = .build t ps) (hp : (ps.map fun x => (x.1, a.eval x.2)) = vs) (hc : P.built t vs.toList = some cells) : (execOp a.eval o).run P w = .ok (.value (.agg cells)) w := by
  subst hp
  unfold execOp
  rw [ho]
  simp only [Sem.run_bind, run_build w t _ cells hc, Result.andThen_ok]
  rfl
end Go.Proofs.Ythmcmomkomhilaa
