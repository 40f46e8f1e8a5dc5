/- Laid together: Clone Arr Ops DevL RDev0 DHead DNew -/
import Derived.Test.YtcbbcihfooaggaaBe0
import Derived.Lib.SliceRun
import Derived.Deep.Slices
import Derived.Laws.Rows
import Derived.Deep.WholeRow
import Derived.Laws.MakeOwn
import Derived.Laws.IdiomStrings
import Derived.Stop.BytesEq
import Derived.LaidEqlPtr

namespace Go.Proofs.Ytcbbcihfooaggaa
open Go.RowKit Go.ChangeShapes
set_option linter.unusedVariables false
def cutLow (ao : Option Addr) (n cap : Nat) : Option Addr := if cap = n then ao else ao.map (·.add n)
theorem run_cutLow (w : World) (ao : Option Addr) (l cap n : Nat) (hn : n ≤ l) :
    (Instr.slice 40 (.slice ao l cap) (some (.int .i64 (n : Int))) none none).run Try.prog w = .ok (.slice (cutLow ao n cap) (l - n) (cap - n)) w := by
  have hs : ∀ w, (sizeOf 5).run Try.prog w = .ok 1 w := fun w => by kernel_rfl
  simp [Instr.slice, run_underlying Try.underlying40, Instr.sliceBounds, run_sliceBound, hs, cutLow, hn]
theorem BytesIn.cutLow {F : Nat → Prop} {w : World} {ao : Option Addr} {l cap : Nat} {X : List UInt8} (h : BytesIn F w (.slice ao l cap) X) (n : Nat) (hn : n ≤ X.length) :
    BytesIn F w (.slice (cutLow ao n cap) (l - n) (cap - n)) (X.drop n) := by
  obtain ⟨ao', cap', hv, h1, hm, h2, h3⟩ := h
  simp only [Value.slice.injEq] at hv
  obtain ⟨rfl, rfl, rfl⟩ := hv
  unfold Ytcbbcihfooaggaa.cutLow
  refine ⟨_, cap - n, by rw [List.length_drop], by rw [List.length_drop]; omega, by omega, ?_, ?_⟩
  · intro h
    split at h
    · omega
    · have := h2 (by simpa using h); omega
  · intro a ha
    split at ha
    · rename_i hc
      obtain hX : X.drop n = [] := List.drop_eq_nil_of_le (by omega)
      rw [hX]
      exact ⟨fun j u hu => by simp at hu, fun h => absurd rfl h⟩
    · cases ao with
      | none => cases ha
      | some a0 =>
        simp only [Option.map_some, Option.some.injEq] at ha
        subst ha
        refine ⟨fun j u hu => ?_, fun hX => by rw [add_block]; exact (h3 _ rfl).2 (fun h => by subst h; simp at hX)⟩
        have := (h3 _ rfl).1 (n + j) u (by rw [← hu, List.getElem?_map, List.getElem?_map, List.getElem?_drop])
        rwa [Go.Deep.add_add]
theorem BytesIn.take {F : Nat → Prop} {w : World} {ao : Option Addr} {l cap : Nat} {X : List UInt8} (h : BytesIn F w (.slice ao l cap) X) (n : Nat) (hn : n ≤ X.length) :
    BytesIn F w (.slice ao n cap) (X.take n) := by
  obtain ⟨ao', cap', hv, h1, hm, h2, h3⟩ := h
  simp only [Value.slice.injEq] at hv
  obtain ⟨rfl, _, rfl⟩ := hv
  have hl : (X.take n).length = n := by rw [List.length_take]; omega
  refine ⟨ao, cap, by rw [hl], by omega, hm, h2, fun a ha => ⟨fun j u hu => (h3 a ha).1 j u ?_, fun hX => (h3 a ha).2 (fun h => by subst h; simp at hX)⟩⟩
  rw [← hu, List.map_take, List.getElem?_take]
  have hj : j < n := by have := (List.getElem?_eq_some_iff.1 hu).1; simp at this; omega
  rw [if_pos hj]
end Go.Proofs.Ytcbbcihfooaggaa
namespace Go.Proofs.Ytcbbcihfooaggaa
open Go.RowKit Go.ChangeShapes
set_option linter.unusedVariables false
theorem Fr.setRow {S : Nat → Prop} {a w : World} {g : Nat} (h : Fr S a w) (hg : S g ∨ a.heap.size ≤ g) (cs : Array Value) : Fr S a (w.setRow g cs) :=
  ⟨h.os, h.tape, h.output, by simpa using h.size, fun i hi hs => by
    rw [setRow_other _ _ _ _ (by rintro rfl; rcases hg with h1 | h1; exact hs h1; omega), h.block i hi hs]⟩
theorem wpList_store_row {P : Program} {ops : Array Oper} {rest : List Oper} {op : Oper} {a : Act} {w : World} {Q : Exit → Act → World → Prop} (hgd : op.guard = none) (ty : TypeId) (x y : Operand) (ho : op.op = .store ty x y)
    (g : Nat) (cells old : Array Value) (t : TypeId) (hx : a.eval x = .pointer (some ⟨g, 0, none⟩)) (hy : a.eval y = .agg cells)
    (hg : w.heap[g]? = some (.cells old t (0, 0))) (hi : (P.info? ty).map (·.size) = some cells.size) (hs : old.size = cells.size) (h1 : cells.all (·.oneCell') = true)
    (h : wpList P ops Q rest (a.put op.dst undef) (w.setRow g cells)) : wpList P ops Q (op :: rest) a w :=
  wpList_plain hgd fun _ hK => by
    unfold Oper.wp execOp
    simp only [ho, hx, hy, Instr.storeAt, Instr.sureAddr, Sem.run_bind, Sem.run_pure, Result.andThen_ok, run_storeVar_row w g t ty old cells hg hi hs h1]
    exact hK _ _ h
theorem run_make_bytes (w : World) (m : Int) (n : Nat) (hm : m = n) (hn : n ≤ 140737488355328) :
    (Instr.makeSlice 40 (.int .i64 m) (.int .i64 m)).run Try.prog w = .ok (.slice (some ⟨w.heap.size, 0, none⟩) n n) (w.alloc (.cells ((List.replicate n (0 : UInt8)).map bv).toArray 5)) := by
  subst hm
  obtain ⟨i0, hi, hz0, hz1, hz2⟩ := info_parts Try.infoB
  have h := run_make (P := Try.prog) w 40 5 i0 (.int .u8 0) Try.underlying40 hi hz0 .i64 .i64 (n : Int) (n : Int) (by omega) (Int.le_refl _) (by rw [hz2]; omega) (by omega)
  rw [h, hz1, Int.toNat_natCast, Nat.mul_one]
  have e : madeCells (Value.int .u8 0).cells n = ((List.replicate n (0 : UInt8)).map bv).toArray := by
    apply Array.ext'
    simp only [madeCells, Value.cells, Array.toList_map, Array.toList_range, List.map_replicate]
    apply List.ext_getElem
    · simp
    · intro k h1 h2
      simp [Nat.mod_one]
      rfl
  rw [e]
def BytT (w : World) (g : Nat) (T : TypeId) (L : List UInt8) : Prop := w.heap[g]? = some (.cells (L.map bv).toArray T (0, 0))
theorem BytT.cell {w : World} {g : Nat} {T : TypeId} {L : List UInt8} (h : BytT w g T L) (i : Nat) (hi : i < L.length) : w.cell? ⟨g, i, none⟩ = some (.int .u8 (L.getD i 0).toNat) := by
  rw [cell_of_row _ _ _ _ _ _ h, List.getElem?_toArray, List.getElem?_map, List.getD_eq_getElem?_getD, List.getElem?_eq_getElem hi]
  rfl
theorem BytT.free {w : World} {g : Nat} {T : TypeId} {L : List UInt8} (h : BytT w g T L) (i : Nat) : w.frozen? ⟨g, i, none⟩ = false := frozen_of_row _ _ _ _ _ h
theorem BytT.keep {S : Nat → Prop} {w w' : World} {g : Nat} {T : TypeId} {L : List UInt8} (h : BytT w g T L) (hf : Fr S w w') (hg : ¬ S g) : BytT w' g T L := hf.heap h hg
theorem BytT.set_ {w : World} {g : Nat} {T : TypeId} {L : List UInt8} (h : BytT w g T L) (i : Nat) (x : Int) (y : UInt8) (hx : x = y.toNat) : BytT (w.setCell ⟨g, i, none⟩ (.int .u8 x)) g T (L.set i y) := by
  subst hx
  refine (heap_setCell_at _ h).trans ?_
  rw [List.setIfInBounds_toArray, List.map_set]
  rfl
theorem BytT.lt {w : World} {g : Nat} {T : TypeId} {L : List UInt8} (h : BytT w g T L) : g < w.heap.size := lt_of_block h
end Go.Proofs.Ytcbbcihfooaggaa
namespace Go.Proofs.Ytcbbcihfooaggaa
open Go.RowKit Go.ChangeShapes
set_option linter.unusedVariables false
section
variable {P : Program} {w : World} {o : Oper} {a : Act}
theorem op_move {x : Operand} {v : Value} (ho : o.op = .move x) (hv : a.eval x = v) : (execOp a.eval o).run P w = .ok (.value v) w := by
  unfold execOp
  rw [ho]
  simp only [hv]
  rfl
theorem op_assign {x : Operand} {v : Value} (ho : o.op = .assign x) (hv : a.eval x = v) : (execOp a.eval o).run P w = .ok (.value v) w := by
  unfold execOp
  rw [ho]
  simp only [hv]
  rfl
theorem op_slice_hi {t : TypeId} {x hi : Operand} {vx vh v : Value} (ho : o.op = .slice t x none (some hi) none) (hx : a.eval x = vx) (hh : a.eval hi = vh) (hr : (Instr.sliceAt t vx none (some vh) none).run P w = .ok v w) : (execOp a.eval o).run P w = .ok (.value v) w := by
  unfold execOp
  rw [ho]
  simp only [hx, hh, Option.map_some, Option.map_none, Sem.run_bind, hr, Result.andThen_ok]
  rfl
theorem op_pick {c x y : Operand} {b : Bool} {v : Value} (ho : o.op = .pick c x y) (hc : a.eval c = .bool b) (hv : (if b = true then a.eval x else a.eval y) = v) : (execOp a.eval o).run P w = .ok (.value v) w := by
  unfold execOp
  rw [ho]
  simp only [hc, asBool, Sem.run_bind, Sem.run_pure, Result.andThen_ok, hv]
theorem op_bin {op : BinOp} {t t' : TypeId} {x y : Operand} {vx vy v : Value} (ho : o.op = .binOp op t x y t') (hx : a.eval x = vx) (hy : a.eval y = vy) (hg : (eqGuard op t x y vx vy).run P w = .ok () w) (hr : (binOp op t vx vy).run P w = .ok v w) : (execOp a.eval o).run P w = .ok (.value v) w := by
  unfold execOp
  rw [ho]
  simp only [hx, hy, Sem.run_bind, hg, hr, Result.andThen_ok]
  rfl
end
theorem op_rows {P : Program} {w w' : World} {o : Oper} {a : Act} {t : TypeId} {n : Nat} {ps : Array (Nat × Operand)} {vs : Array (Nat × Value)} {v : Value} (ho : o.op = .buildSlice t n ps) (hp : (ps.map fun x => (x.1, a.eval x.2)) = vs) (hr : (Instr.buildSlice t n vs).run P w = .ok v w') : (execOp a.eval o).run P w = .ok (.value v) w' := by
  subst hp
  unfold execOp
  rw [ho]
  simp only [Sem.run_bind]
  rw [hr]
  rfl
theorem wpList_value {P : Program} {ops : Array Oper} {rest : List Oper} {o : Oper} {a : Act} {w : World} {Q : Exit → Act → World → Prop} (hgd : o.guard = none) (v : Value) (w' : World) (h : (execOp a.eval o).run P w = .ok (.value v) w')
    (hK : wpList P ops Q rest (a.put o.dst v) w') : wpList P ops Q (o :: rest) a w :=
  wpList_plain hgd fun _ hK' => wp_value_inv v h (hK' _ _ hK)
theorem wpList_one {P : Program} {ops : Array Oper} {rest : List Oper} {o : Oper} {a : Act} {w : World} {Q : Exit → Act → World → Prop} (hgd : o.guard = none) (t : TypeId) (x : Operand) (ho : o.op = .buildSlice t 1 #[(0, x)]) (y v : Value) (w' : World) (hx : a.eval x = y)
    (hr : (Instr.buildSlice t 1 #[(0, y)]).run P w = .ok v w') (hK : wpList P ops Q rest (a.put o.dst v) w') : wpList P ops Q (o :: rest) a w :=
  wpList_value hgd v w' (op_rows (vs := #[(0, y)]) ho (by simp [hx]) hr) hK
theorem op_build {P : Program} {w : World} {o : Oper} {a : Act} {t : TypeId} {ps : Array (Nat × Operand)} {vs : Array (Nat × Value)} {cells : Array Value} (ho : o.op = .build t ps) (hp : (ps.map fun x => (x.1, a.eval x.2)) = vs) (hc : P.built t vs.toList = some cells) : (execOp a.eval o).run P w = .ok (.value (.agg cells)) w := by
  subst hp
  unfold execOp
  rw [ho]
  simp only [Sem.run_bind, run_build w t _ cells hc, Result.andThen_ok]
  rfl
end Go.Proofs.Ytcbbcihfooaggaa
namespace Go.Proofs.Ytcbbcihfooaggaa
set_option linter.unusedVariables false
def secAt (K : List UInt8) (a : Nat) : List UInt8 := (K.drop (64 * a)).take 64
def putSec (K : List UInt8) (a : Nat) (b : List UInt8) : List UInt8 := K.take (64 * a) ++ b ++ K.drop (64 * a + 64)
def full64 (b : List UInt8) : List UInt8 := b ++ List.replicate (64 - b.length) 0
theorem full64_length (b : List UInt8) (h : b.length ≤ 64) : (full64 b).length = 64 := by simp [full64]; omega
theorem secAt_length (K : List UInt8) (s a : Nat) (hK : K.length = 64 * s) (ha : a < s) : (secAt K a).length = 64 := by simp [secAt, hK]; omega
theorem putSec_length (K : List UInt8) (s a : Nat) (b : List UInt8) (hK : K.length = 64 * s) (ha : a < s) (hb : b.length = 64) : (putSec K a b).length = 64 * s := by
  simp [putSec, hK, hb]
  omega
theorem putSec_get (K : List UInt8) (s a : Nat) (b : List UInt8) (hK : K.length = 64 * s) (ha : a < s) (hb : b.length = 64) (j : Nat) :
    (putSec K a b)[j]? = if j / 64 = a then b[j % 64]? else K[j]? := by
  have h1 : (K.take (64 * a)).length = 64 * a := by simp [hK]; omega
  rw [putSec, List.append_assoc]
  by_cases h : j < 64 * a
  · rw [List.getElem?_append_left (by rw [h1]; exact h), if_neg (by omega), List.getElem?_take, if_pos h]
  · rw [List.getElem?_append_right (by rw [h1]; omega), h1]
    by_cases h2 : j < 64 * a + 64
    · rw [List.getElem?_append_left (by omega), if_pos (by omega), show j % 64 = j - 64 * a by omega]
    · rw [List.getElem?_append_right (by omega), if_neg (by omega), List.getElem?_drop, hb]
      congr 1
      omega
theorem secAt_get (K : List UInt8) (a j : Nat) (hj : j < 64) : (secAt K a)[j]? = K[64 * a + j]? := by
  rw [secAt, List.getElem?_take, if_pos hj, List.getElem?_drop]
theorem secAt_put (K : List UInt8) (s a : Nat) (b : List UInt8) (hK : K.length = 64 * s) (ha : a < s) (hb : b.length = 64) (c : Nat) (hc : c < s) :
    secAt (putSec K a b) c = if c = a then b else secAt K c := by
  apply List.ext_getElem?
  intro j
  by_cases hj : j < 64
  · rw [secAt_get _ _ _ hj, putSec_get K s a b hK ha hb]
    have e1 : (64 * c + j) / 64 = c := by omega
    have e2 : (64 * c + j) % 64 = j := by omega
    rw [e1, e2]
    by_cases h : c = a
    · rw [if_pos h, if_pos h]
    · rw [if_neg h, if_neg h, secAt_get _ _ _ hj]
  · have l1 := secAt_length (putSec K a b) s c (putSec_length K s a b hK ha hb) hc
    rw [List.getElem?_eq_none (by omega)]
    split
    · rw [List.getElem?_eq_none (by omega)]
    · rw [List.getElem?_eq_none (by rw [secAt_length K s c hK hc]; omega)]
abbrev Pend := Nat × List UInt8
def Pends (s : Nat) (W : List Pend) : Prop := ∀ p ∈ W, p.1 < s ∧ p.2.length = 64
def wakeL (f : Nat → Bool) : Nat → List Pend → List UInt8 → List UInt8
  | _, [], K => K
  | i, p :: W, K => wakeL f (i + 1) W (if f i = true then putSec K p.1 p.2 else K)
def lastL (f : Nat → Bool) (a : Nat) : Nat → List Pend → List UInt8 → List UInt8
  | _, [], x => x
  | i, p :: W, x => lastL f a (i + 1) W (if f i = true ∧ a = p.1 then p.2 else x)
theorem wakeL_length (f : Nat → Bool) (s : Nat) : ∀ (W : List Pend) (i : Nat) (K : List UInt8), Pends s W → K.length = 64 * s → (wakeL f i W K).length = 64 * s
  | [], _, K, _, hK => hK
  | p :: W, i, K, hW, hK => by
    have hp := hW p (by simp)
    refine wakeL_length f s W (i + 1) _ (fun q hq => hW q (by simp [hq])) ?_
    split
    · exact putSec_length K s p.1 p.2 hK hp.1 hp.2
    · exact hK
theorem wakeL_sec (f : Nat → Bool) (s a : Nat) (ha : a < s) : ∀ (W : List Pend) (i : Nat) (K : List UInt8), Pends s W → K.length = 64 * s → secAt (wakeL f i W K) a = lastL f a i W (secAt K a)
  | [], _, K, _, _ => rfl
  | p :: W, i, K, hW, hK => by
    have hp := hW p (by simp)
    rw [wakeL, lastL]
    by_cases h : f i = true
    · rw [if_pos h, wakeL_sec f s a ha W (i + 1) _ (fun q hq => hW q (by simp [hq])) (putSec_length K s p.1 p.2 hK hp.1 hp.2), secAt_put K s p.1 p.2 hK hp.1 hp.2 a ha]
      by_cases h2 : a = p.1
      · rw [if_pos h2, if_pos ⟨h, h2⟩]
      · rw [if_neg h2, if_neg (fun hh => h2 hh.2)]
    · rw [if_neg h, if_neg (fun hh => h hh.1)]
      exact wakeL_sec f s a ha W (i + 1) K (fun q hq => hW q (by simp [hq])) hK
theorem wakeL_snoc (f : Nat → Bool) (p : Pend) : ∀ (W : List Pend) (i : Nat) (K : List UInt8), wakeL f i (W ++ [p]) K = if f (i + W.length) = true then putSec (wakeL f i W K) p.1 p.2 else wakeL f i W K
  | [], i, K => by simp [wakeL]
  | q :: W, i, K => by
    rw [List.cons_append, wakeL, wakeL, wakeL_snoc f p W (i + 1), List.length_cons, show i + 1 + W.length = i + (W.length + 1) by omega]
theorem lastL_snoc (f : Nat → Bool) (a : Nat) (p : Pend) : ∀ (W : List Pend) (i : Nat) (x : List UInt8), lastL f a i (W ++ [p]) x = if f (i + W.length) = true ∧ a = p.1 then p.2 else lastL f a i W x
  | [], i, x => by simp [lastL]
  | q :: W, i, x => by
    rw [List.cons_append, lastL, lastL, lastL_snoc f a p W (i + 1), List.length_cons, show i + 1 + W.length = i + (W.length + 1) by omega]
def bitOf (keep : Int) (i : Nat) : Bool := decide (keep / 2 ^ (i % 62) % 2 = 1)
theorem bits_all : ∀ k : Fin 62, (-1 : Int) / 2 ^ k.val % 2 = 1 := by decide +kernel
theorem bitOf_all (i : Nat) : bitOf (-1) i = true := by
  rw [bitOf, decide_eq_true_iff]
  exact bits_all ⟨i % 62, Nat.mod_lt _ (by decide)⟩
structure Dv where
  all : List UInt8
  waits : List Pend
  deeds : Nat
  left : Nat
  down : Bool
structure Dv.Right (d : Dv) (s : Nat) : Prop where
  all : d.all.length = 64 * s
  waits : Pends s d.waits
def Dv.seen (d : Dv) (a : Nat) : List UInt8 := lastL (fun _ => true) a 0 d.waits (secAt d.all a)
def Dv.deed (d : Dv) : Bool × Dv := if d.left = 1 then (false, { d with left := 0, down := true }) else (true, { d with left := d.left - 1, deeds := d.deeds + 1 })
def Dv.write (d : Dv) (s : Nat) (a : Int) (b : List UInt8) : Int × Dv :=
  if d.down = true then (10, d) else if a < 0 ∨ (s : Int) ≤ a ∨ 64 < b.length then (2, d) else
    match d.deed with
    | (false, d) => (10, d)
    | (true, d) => (0, { d with waits := d.waits ++ [(a.toNat, full64 b)] })
def Dv.flush (d : Dv) : Int × Dv :=
  if d.down = true then (10, d) else
    match d.deed with
    | (false, d) => (10, d)
    | (true, d) => (0, { d with all := wakeL (fun _ => true) 0 d.waits d.all, waits := [] })
def Dv.fuse (d : Dv) (n : Int) : Int × Dv := if d.down = true then (10, d) else (0, { d with left := n.toNat })
def Dv.wake (d : Dv) (keep : Int) : Int × Dv := if d.down = true then (0, { d with all := wakeL (bitOf keep) 0 d.waits d.all, waits := [], left := 0, down := false }) else (15, d)
theorem Dv.Right.write {d : Dv} {s : Nat} (h : d.Right s) (a : Int) (b : List UInt8) : (d.write s a b).2.Right s := by
  unfold Dv.write
  split
  · exact h
  · split
    · exact h
    · next hn =>
      unfold Dv.deed
      by_cases hl : d.left = 1
      · simp only [if_pos hl]
        exact ⟨h.all, h.waits⟩
      · simp only [if_neg hl]
        refine ⟨h.all, fun p hp => ?_⟩
        rcases List.mem_append.1 hp with hp | hp
        · exact h.waits p hp
        · obtain rfl := List.mem_singleton.1 hp
          exact ⟨by simp only; omega, full64_length b (by omega)⟩
theorem Dv.Right.flush {d : Dv} {s : Nat} (h : d.Right s) : d.flush.2.Right s := by
  unfold Dv.flush
  split
  · exact h
  · unfold Dv.deed
    by_cases hl : d.left = 1
    · simp only [if_pos hl]
      exact ⟨h.all, h.waits⟩
    · simp only [if_neg hl]
      exact ⟨wakeL_length _ s d.waits 0 d.all h.waits h.all, fun p hp => by cases hp⟩
theorem Dv.Right.wake {d : Dv} {s : Nat} (h : d.Right s) (keep : Int) : (d.wake keep).2.Right s := by
  unfold Dv.wake
  split
  · exact ⟨wakeL_length _ s d.waits 0 d.all h.waits h.all, fun p hp => by cases hp⟩
  · exact h
theorem Dv.Right.fuse {d : Dv} {s : Nat} (h : d.Right s) (n : Int) : (d.fuse n).2.Right s := by
  unfold Dv.fuse
  split
  · exact h
  · exact ⟨h.all, h.waits⟩
end Go.Proofs.Ytcbbcihfooaggaa
namespace Go.Proofs.Ytcbbcihfooaggaa
open Go.RowKit Go.ChangeShapes
set_option linter.unusedVariables false
theorem cell_put {w : World} {b i : Nat} {c : Array Value} {t : TypeId} {z : Nat × Nat} (u : Value) (h : w.heap[b]? = some (.cells c t z)) :
    (w.setCell ⟨b, i, none⟩ u).heap[b]? = some (.cells (c.setIfInBounds i u) t z) := by
  simp only [World.setCell, Array.getElem?_modify, h]
  simp
theorem Fr.cell1 (w : World) (b i : Nat) (u : Value) : Fr (· = b) w (w.setCell ⟨b, i, none⟩ u) := (Fr.refl (· = b) w).setCell (p := ⟨b, i, none⟩) (.inl rfl) u
def DevH (w : World) (g : Nat) (va vw : Value) (k l : Int) (dn : Bool) : Prop :=
  w.heap[g]? = some (.cells #[va, vw, .int .i64 k, .int .i64 l, .bool dn] 61 (0, 0))
theorem DevH.keep {S : Nat → Prop} {w w' : World} {g : Nat} {va vw : Value} {k l : Int} {dn : Bool} (h : DevH w g va vw k l dn) (hf : Fr S w w') (hg : ¬ S g) : DevH w' g va vw k l dn := hf.heap h hg
theorem DevH.cells {w : World} {g : Nat} {va vw : Value} {k l : Int} {dn : Bool} (h : DevH w g va vw k l dn) :
    w.cell? ⟨g, 0, none⟩ = some va ∧ w.cell? ⟨g, 1, none⟩ = some vw ∧ w.cell? ⟨g, 2, none⟩ = some (.int .i64 k) ∧ w.cell? ⟨g, 3, none⟩ = some (.int .i64 l) ∧ w.cell? ⟨g, 4, none⟩ = some (.bool dn) := by
  refine ⟨?_, ?_, ?_, ?_, ?_⟩ <;> exact cell_of_row _ _ _ _ _ _ h
theorem DevH.free {w : World} {g : Nat} {va vw : Value} {k l : Int} {dn : Bool} (h : DevH w g va vw k l dn) (i : Nat) : w.frozen? ⟨g, i, none⟩ = false := frozen_of_row _ _ _ _ _ h
theorem DevH.put0 {w : World} {g : Nat} {va vw : Value} {k l : Int} {dn : Bool} (h : DevH w g va vw k l dn) (v : Value) : DevH (w.setCell ⟨g, 0, none⟩ v) g v vw k l dn := cell_put v h
theorem DevH.put1 {w : World} {g : Nat} {va vw : Value} {k l : Int} {dn : Bool} (h : DevH w g va vw k l dn) (v : Value) : DevH (w.setCell ⟨g, 1, none⟩ v) g va v k l dn := cell_put v h
theorem DevH.put2 {w : World} {g : Nat} {va vw : Value} {k l : Int} {dn : Bool} (h : DevH w g va vw k l dn) (k' : Int) : DevH (w.setCell ⟨g, 2, none⟩ (.int .i64 k')) g va vw k' l dn := cell_put _ h
theorem DevH.put3 {w : World} {g : Nat} {va vw : Value} {k l : Int} {dn : Bool} (h : DevH w g va vw k l dn) (l' : Int) : DevH (w.setCell ⟨g, 3, none⟩ (.int .i64 l')) g va vw k l' dn := cell_put _ h
theorem DevH.put4 {w : World} {g : Nat} {va vw : Value} {k l : Int} {dn : Bool} (h : DevH w g va vw k l dn) (b : Bool) : DevH (w.setCell ⟨g, 4, none⟩ (.bool b)) g va vw k l b := cell_put _ h
theorem rSectors_any (w : World) (g : Nat) (ao : Option Addr) (s cap : Nat) (vw : Value) (k l : Int) (dn : Bool) (h : DevH w g (.slice ao (64 * s) cap) vw k l dn) (hs : s ≤ 8192) :
    Calls Try.prog 76 #[.pointer (some ⟨g, 0, none⟩)] w fun e w' => e = .returned (.int .i64 s) ∧ w = w' := by
  obtain ⟨h0, _⟩ := h.cells
  have hq : ((64 * s : Nat) : Int) / 64 = (s : Int) := by omega
  have hq2 : ((64 * s : Nat) : Int).tdiv 64 = (s : Int) := by rw [Int.tdiv_eq_ediv_of_nonneg (by omega)]; exact hq
  generalize 64 * s = m at *
  go_enter Try.func76, Try.ntmps76
  go_wp2
  go_ret
  exact ⟨by first | rfl | (rw [hq2]) | (rw [hq]), rfl⟩
theorem rFuse_any (w : World) (g : Nat) (va vw : Value) (k l : Int) (dn : Bool) (n : Int) (hn : n ≤ 9223372036854775807) (hn0 : -9223372036854775808 ≤ n) (h : DevH w g va vw k l dn) :
    Calls Try.prog 23 #[.pointer (some ⟨g, 0, none⟩), .int .i64 n] w fun e w' => e = .returned (.int .i64 (if dn = true then 10 else 0)) ∧ DevH w' g va vw k (if dn = true then l else max n 0) dn ∧ Fr (· = g) w w' := by
  obtain ⟨_, _, _, h3, h4⟩ := h.cells
  have hf3 := h.free 3
  have H := Lib.hid h
  clear h
  cases dn with
  | true =>
    go_enter Try.func23, Try.ntmps23
    go_wp2
    go_ret
    exact ⟨rfl, H.out, Fr.refl _ _⟩
  | false =>
    by_cases hp : n < 0
    · have hm : max n 0 = 0 := by omega
      rw [hm]
      go_enter Try.func23, Try.ntmps23
      go_wp2
      go_ret
      exact ⟨rfl, H.out.put3 _, Fr.cell1 _ _ _ _⟩
    · have hm : max n 0 = n := by omega
      rw [hm]
      go_enter Try.func23, Try.ntmps23
      go_wp2
      go_ret
      exact ⟨rfl, H.out.put3 _, Fr.cell1 _ _ _ _⟩
theorem rdeed_any (w : World) (g : Nat) (va vw : Value) (k l : Int) (dn : Bool) (hk0 : 0 ≤ k) (hk : k ≤ 1000000000) (hl0 : 0 ≤ l) (hl : l ≤ 9223372036854775807) (h : DevH w g va vw k l dn) :
    Calls Try.prog 78 #[.pointer (some ⟨g, 0, none⟩)] w fun e w' => e = .returned (.bool (decide (l ≠ 1))) ∧ DevH w' g va vw (if l = 1 then k else k + 1) (if l = 0 then 0 else l - 1) (if l = 1 then true else dn) ∧ Fr (· = g) w w' := by
  obtain ⟨_, _, h2, h3, h4⟩ := h.cells
  have hf2 := h.free 2
  have hf3 := h.free 3
  have hf4 := h.free 4
  have H := Lib.hid h
  clear h
  by_cases h1 : l = 1
  · subst h1
    go_enter Try.func78, Try.ntmps78
    go_wp2
    go_ret
    exact ⟨rfl, (H.out.put3 0).put4 true, (Fr.cell1 _ _ _ _).trans (Fr.cell1 _ _ _ _) (fun _ h => .inl h)⟩
  · by_cases h0 : l = 0
    · subst h0
      go_enter Try.func78, Try.ntmps78
      go_wp2
      go_ret
      exact ⟨rfl, H.out.put2 _, Fr.cell1 _ _ _ _⟩
    · have hn : decide (l ≠ 1) = true := by rw [decide_eq_true_iff]; exact h1
      rw [hn, if_neg h1, if_neg h0, if_neg h1]
      have hd1 : (l == 1) = false := by rw [beq_eq_false_iff_ne]; exact h1
      have hd2 : decide (0 < l) = true := by rw [decide_eq_true_iff]; omega
      have hp : 0 < l := by omega
      go_enter Try.func78, Try.ntmps78
      go_wp2
      go_ret
      exact ⟨rfl, (H.out.put3 _).put2 _, (Fr.cell1 _ _ _ _).trans (Fr.cell1 _ _ _ _) (fun _ h => .inl h)⟩
end Go.Proofs.Ytcbbcihfooaggaa
namespace Go.Proofs.Ytcbbcihfooaggaa
open Go.RowKit Go.ChangeShapes
set_option linter.unusedVariables false
def DvH (w : World) (g kb s : Nat) (vw : Value) (k l : Int) (dn : Bool) : Prop :=
  w.heap[g]? = some (.cells #[.int .i64 k, .int .i64 l, .bool dn, vw, .slice (some ⟨kb, 0, none⟩) s s, .pointer (some ⟨g, 0, none⟩)] 94 (0, 0))
section
variable {S : Nat → Prop} {w w' : World} {g kb s : Nat} {vw : Value} {k l : Int} {dn : Bool}
theorem DvH.keep (h : DvH w g kb s vw k l dn) (hf : Fr S w w') (hg : ¬ S g) : DvH w' g kb s vw k l dn := hf.heap h hg
theorem DvH.cells (h : DvH w g kb s vw k l dn) :
    w.cell? ⟨g, 0, none⟩ = some (.int .i64 k) ∧ w.cell? ⟨g, 1, none⟩ = some (.int .i64 l) ∧ w.cell? ⟨g, 2, none⟩ = some (.bool dn) ∧ w.cell? ⟨g, 3, none⟩ = some vw ∧ w.cell? ⟨g, 4, none⟩ = some (.slice (some ⟨kb, 0, none⟩) s s) ∧ w.cell? ⟨g, 5, none⟩ = some (.pointer (some ⟨g, 0, none⟩)) := by
  refine ⟨?_, ?_, ?_, ?_, ?_, ?_⟩ <;> exact cell_of_row _ _ _ _ _ _ h
theorem DvH.free (h : DvH w g kb s vw k l dn) (i : Nat) : w.frozen? ⟨g, i, none⟩ = false := frozen_of_row _ _ _ _ _ h
theorem DvH.put0 (h : DvH w g kb s vw k l dn) (k' : Int) : DvH (w.setCell ⟨g, 0, none⟩ (.int .i64 k')) g kb s vw k' l dn := cell_put _ h
theorem DvH.put1 (h : DvH w g kb s vw k l dn) (l' : Int) : DvH (w.setCell ⟨g, 1, none⟩ (.int .i64 l')) g kb s vw k l' dn := cell_put _ h
theorem DvH.put2 (h : DvH w g kb s vw k l dn) (b : Bool) : DvH (w.setCell ⟨g, 2, none⟩ (.bool b)) g kb s vw k l b := cell_put _ h
theorem DvH.put3 (h : DvH w g kb s vw k l dn) (v : Value) : DvH (w.setCell ⟨g, 3, none⟩ v) g kb s v k l dn := cell_put v h
theorem DvH.lt (h : DvH w g kb s vw k l dn) : g < w.heap.size := lt_of_block h
end
theorem run_eql_dev (w : World) (a : Addr) : (binOp .eql 43 (.pointer (some a)) (.pointer (some a))).run Try.prog w = .ok (.bool true) w := by
  have hi : (Try.prog.info? 94).isSome = true := by kernel_rfl
  obtain ⟨j, hte⟩ := Option.isSome_iff_exists.1 hi
  exact run_eql_ptr_same (P := Try.prog) w a Try.underlying43 hte
theorem dIs_yes (w : World) (g kb s : Nat) (vw : Value) (k l : Int) (dn : Bool) (h : DvH w g kb s vw k l dn) :
    Calls Try.prog 58 #[.pointer (some ⟨g, 0, none⟩)] w fun e w' => e = .returned (.bool true) ∧ w = w' := by
  have heq := run_eql_dev
  obtain ⟨_, _, _, _, _, h5⟩ := h.cells
  clear h
  go_enter Try.func58, Try.ntmps58
  go_wp2
  go_ret
  exact ⟨rfl, rfl⟩
theorem dReady_any (w : World) (g kb s : Nat) (vw : Value) (k l : Int) (dn : Bool) (h : DvH w g kb s vw k l dn) :
    Calls Try.prog 46 #[.pointer (some ⟨g, 0, none⟩)] w fun e w' => e = .returned (.int .i64 (if dn = true then 10 else 0)) ∧ w = w' := by
  have hc := dIs_yes w g kb s vw k l dn h
  obtain ⟨_, _, h2, _⟩ := h.cells
  clear h
  cases dn with
  | true =>
    go_enter Try.func46, Try.ntmps46
    go_wp2_with (go_at_call 58; refine hc.mono ?_; rintro e w1 ⟨rfl, rfl⟩)
    go_ret
    exact ⟨rfl, rfl⟩
  | false =>
    go_enter Try.func46, Try.ntmps46
    go_wp2_with (go_at_call 58; refine hc.mono ?_; rintro e w1 ⟨rfl, rfl⟩)
    go_ret
    exact ⟨rfl, rfl⟩
theorem dFall_any (w : World) (g kb s : Nat) (vw : Value) (k l : Int) (dn : Bool) (h : DvH w g kb s vw k l dn) :
    Calls Try.prog 64 #[.pointer (some ⟨g, 0, none⟩)] w fun e w' => e = .returned (.tuple #[]) ∧ DvH w' g kb s vw k l true ∧ Fr (· = g) w w' := by
  obtain ⟨_, _, h2, _⟩ := h.cells
  have hf := h.free 2
  have H := Lib.hid h
  clear h
  go_enter Try.func64, Try.ntmps64
  go_wp2
  refine bodyPost_end (results_none rfl _ _ _) rfl ?_
  exact ⟨rfl, H.out.put2 true, Fr.cell1 _ _ _ _⟩
theorem dRise_any (w : World) (g kb s : Nat) (vw : Value) (k l : Int) (dn : Bool) (h : DvH w g kb s vw k l dn) :
    Calls Try.prog 60 #[.pointer (some ⟨g, 0, none⟩)] w fun e w' => e = .returned (.tuple #[]) ∧ DvH w' g kb s vw k 0 false ∧ Fr (· = g) w w' := by
  obtain ⟨_, h1, h2, _⟩ := h.cells
  have hf := h.free 2
  have hf1 := h.free 1
  have H := Lib.hid h
  clear h
  go_enter Try.func60, Try.ntmps60
  go_wp2
  refine bodyPost_end (results_none rfl _ _ _) rfl ?_
  exact ⟨rfl, (H.out.put2 false).put1 0, (Fr.cell1 _ _ _ _).trans (Fr.cell1 _ _ _ _) (fun _ h => .inl h)⟩
theorem dLight_any (w : World) (g kb s : Nat) (vw : Value) (k l : Int) (dn : Bool) (n : Int) (hn : n ≤ 9223372036854775807) (hn0 : -9223372036854775808 ≤ n) (h : DvH w g kb s vw k l dn) :
    Calls Try.prog 47 #[.pointer (some ⟨g, 0, none⟩), .int .i64 n] w fun e w' => e = .returned (.tuple #[]) ∧ DvH w' g kb s vw k (max n 0) dn ∧ Fr (· = g) w w' := by
  obtain ⟨_, h1, _⟩ := h.cells
  have hf1 := h.free 1
  have H := Lib.hid h
  clear h
  by_cases hp : n < 0
  · have hm : max n 0 = 0 := by omega
    rw [hm]
    go_enter Try.func47, Try.ntmps47
    go_wp2
    refine bodyPost_end (results_none rfl _ _ _) rfl ?_
    exact ⟨rfl, H.out.put1 _, Fr.cell1 _ _ _ _⟩
  · have hm : max n 0 = n := by omega
    rw [hm]
    go_enter Try.func47, Try.ntmps47
    go_wp2
    refine bodyPost_end (results_none rfl _ _ _) rfl ?_
    exact ⟨rfl, H.out.put1 _, Fr.cell1 _ _ _ _⟩
theorem dDeed_any (w : World) (g kb s : Nat) (vw : Value) (k l : Int) (dn : Bool) (hk0 : 0 ≤ k) (hk : k ≤ 1000000000) (hl0 : 0 ≤ l) (hl : l ≤ 9223372036854775807) (h : DvH w g kb s vw k l dn) :
    Calls Try.prog 74 #[.pointer (some ⟨g, 0, none⟩)] w fun e w' => e = .returned (.bool (decide (l ≠ 1))) ∧ DvH w' g kb s vw (if l = 1 then k else k + 1) (if l = 0 ∨ l = 1 then l else l - 1) (if l = 1 then true else dn) ∧ Fr (· = g) w w' := by
  obtain ⟨h0, h1, h2, _⟩ := h.cells
  have hf0 := h.free 0
  have hf1 := h.free 1
  have H := Lib.hid h
  by_cases e1 : l = 1
  · subst e1
    have hc := Lib.hid (dFall_any w g kb s vw k 1 dn h)
    clear h
    go_enter Try.func74, Try.ntmps74
    go_wp2_with (go_at_call 64; refine hc.out.mono ?_; rintro e w1 ⟨rfl, hh, hf⟩; (have HS := Lib.hid (And.intro hh hf)); clear hh hf)
    go_ret
    exact ⟨rfl, HS.out.1, HS.out.2⟩
  · clear h
    by_cases e0 : l = 0
    · subst e0
      go_enter Try.func74, Try.ntmps74
      go_wp2
      go_ret
      exact ⟨rfl, H.out.put0 _, Fr.cell1 _ _ _ _⟩
    · have hn : decide (l ≠ 1) = true := by rw [decide_eq_true_iff]; exact e1
      rw [hn, if_neg e1, if_neg (by omega), if_neg e1]
      have hd1 : (l == 1) = false := by rw [beq_eq_false_iff_ne]; exact e1
      have hd0 : (l == 0) = false := by rw [beq_eq_false_iff_ne]; exact e0
      go_enter Try.func74, Try.ntmps74
      go_wp2
      go_ret
      exact ⟨rfl, (H.out.put1 _).put0 _, (Fr.cell1 _ _ _ _).trans (Fr.cell1 _ _ _ _) (fun _ h => .inl h)⟩
theorem dHas_any (w : World) (g kb s : Nat) (vw : Value) (k l : Int) (dn : Bool) (a : Int) (h : DvH w g kb s vw k l dn) :
    Calls Try.prog 73 #[.pointer (some ⟨g, 0, none⟩), .int .i64 a] w fun e w' => e = .returned (.bool (decide (0 ≤ a ∧ a < (s : Int)))) ∧ w = w' := by
  obtain ⟨_, _, _, _, h4, _⟩ := h.cells
  clear h
  by_cases h0 : 0 ≤ a
  · have hd : decide (0 ≤ a) = true := by rw [decide_eq_true_iff]; exact h0
    by_cases h1 : a < (s : Int)
    · have hd1 : decide (a < (s : Int)) = true := by rw [decide_eq_true_iff]; exact h1
      rw [show decide (0 ≤ a ∧ a < (s : Int)) = true by rw [decide_eq_true_iff]; exact ⟨h0, h1⟩]
      go_enter Try.func73, Try.ntmps73
      go_wp2
      go_ret
      exact ⟨rfl, rfl⟩
    · have hd1 : decide (a < (s : Int)) = false := by rw [decide_eq_false_iff_not]; exact h1
      rw [show decide (0 ≤ a ∧ a < (s : Int)) = false by rw [decide_eq_false_iff_not]; exact fun h => h1 h.2]
      go_enter Try.func73, Try.ntmps73
      go_wp2
      go_ret
      exact ⟨rfl, rfl⟩
  · have hd : decide (0 ≤ a) = false := by rw [decide_eq_false_iff_not]; exact h0
    rw [show decide (0 ≤ a ∧ a < (s : Int)) = false by rw [decide_eq_false_iff_not]; exact fun h => h0 h.1]
    go_enter Try.func73, Try.ntmps73
    go_wp2
    go_ret
    exact ⟨rfl, rfl⟩
theorem dFuse_any (w : World) (g kb s : Nat) (vw : Value) (k l : Int) (dn : Bool) (n : Int) (hn : n ≤ 9223372036854775807) (hn0 : -9223372036854775808 ≤ n) (h : DvH w g kb s vw k l dn) :
    Calls Try.prog 22 #[.pointer (some ⟨g, 0, none⟩), .int .i64 n] w fun e w' => e = .returned (.int .i64 (if dn = true then 10 else 0)) ∧ DvH w' g kb s vw k (if dn = true then l else max n 0) dn ∧ Fr (· = g) w w' := by
  have hc := dReady_any w g kb s vw k l dn h
  have hd := Lib.hid (dLight_any w g kb s vw k l dn n hn hn0 h)
  have H := Lib.hid h
  clear h
  cases dn with
  | true =>
    go_enter Try.func22, Try.ntmps22
    go_wp2_with (go_at_call 46; refine hc.mono ?_; rintro e w1 ⟨rfl, rfl⟩)
    go_ret
    exact ⟨rfl, H.out, Fr.refl _ _⟩
  | false =>
    go_enter Try.func22, Try.ntmps22
    go_wp2_with (first | (go_at_call 46; refine hc.mono ?_; rintro e w1 ⟨rfl, rfl⟩) | (go_at_call 47; refine hd.out.mono ?_; rintro e w1 ⟨rfl, hh, hf⟩; (have HS := Lib.hid (And.intro hh hf)); clear hh hf))
    go_ret
    exact ⟨rfl, HS.out.1, HS.out.2⟩
end Go.Proofs.Ytcbbcihfooaggaa
namespace Go.Proofs.Ytcbbcihfooaggaa
open Go.RowKit Go.ChangeShapes
set_option linter.unusedVariables false
theorem Try.infoSec : (Try.prog.info? 104).map (fun i => (i.zero, i.size, i.bytes)) = some (some (.agg (Array.replicate 64 (.int .u8 0))), 64, 64) := by kernel_rfl
theorem run_make_secs (w : World) (m : Int) (s : Nat) (hm : m = s) (hs : s ≤ 8192) :
    (Instr.makeSlice 87 (.int .i64 m) (.int .i64 m)).run Try.prog w = .ok (.slice (some ⟨w.heap.size, 0, none⟩) s s) (w.alloc (.cells ((List.replicate (64 * s) (0 : UInt8)).map bv).toArray 104)) := by
  subst hm
  obtain ⟨i0, hi, hz0, hz1, hz2⟩ := info_parts Try.infoSec
  have h := run_make (P := Try.prog) w 87 104 i0 (.agg (Array.replicate 64 (.int .u8 0))) Try.underlying87 hi hz0 .i64 .i64 (s : Int) (s : Int) (by omega) (Int.le_refl _) (by rw [hz2]; omega) (by omega)
  rw [h, hz1, Int.toNat_natCast]
  have e : madeCells (Value.agg (Array.replicate 64 (.int .u8 0))).cells (s * 64) = ((List.replicate (64 * s) (0 : UInt8)).map bv).toArray := by
    apply Array.ext
    · simp [madeCells]
      omega
    · intro k h1 h2
      have hk : k % 64 < 64 := Nat.mod_lt _ (by decide)
      simp [madeCells, Value.cells, hk, bv]
  rw [e]
theorem dNew_no (w : World) (n : Int) (hn : ¬ (1 ≤ n ∧ n ≤ 8192)) :
    Calls Try.prog 19 #[.int .i64 n] w fun e w' => e = .returned (.tuple #[.pointer none, .int .i64 2]) ∧ w = w' := by
  by_cases h1 : n < 1
  · go_enter Try.func19, Try.ntmps19
    go_wp2
    go_ret2
    exact ⟨rfl, rfl⟩
  · have h2 : 8192 < n := by omega
    have h3 : decide (n < 1) = false := by rw [decide_eq_false_iff_not]; exact h1
    have h4 : decide (8192 < n) = true := by rw [decide_eq_true_iff]; exact h2
    go_enter Try.func19, Try.ntmps19
    go_wp2
    go_ret2
    exact ⟨rfl, rfl⟩
theorem dNew_yes (w : World) (s : Nat) (h1 : 1 ≤ s) (h2 : s ≤ 8192) :
    Calls Try.prog 19 #[.int .i64 s] w fun e w' => ∃ g kb, e = .returned (.tuple #[.pointer (some ⟨g, 0, none⟩), .int .i64 0]) ∧ w.heap.size ≤ g ∧ w.heap.size ≤ kb ∧ g ≠ kb ∧ DvH w' g kb s (.slice none 0 0) 0 0 false ∧ BytT w' kb 104 (List.replicate (64 * s) 0) ∧ Fr (fun _ => False) w w' := by
  have hmk := fun W => run_make_secs W (s : Int) s rfl h2
  have h3 : decide ((s : Int) < 1) = false := by rw [decide_eq_false_iff_not]; omega
  have h4 : decide (8192 < (s : Int)) = false := by rw [decide_eq_false_iff_not]; omega
  obtain ⟨Z, hZ⟩ : ∃ Z, Z = ((List.replicate (64 * s) (0 : UInt8)).map bv).toArray := ⟨_, rfl⟩
  rw [← hZ] at hmk
  have HZ := Lib.hid hZ
  clear hZ
  go_enter Try.func19, Try.ntmps19
  go_wp2
  go_ret2
  refine ⟨w.heap.size + 1, w.heap.size, rfl, by omega, Nat.le_refl _, by omega, ?_, ?_, ((Fr.refl _ _).alloc _).alloc _⟩
  · exact heap_alloc2_new w _ _
  · rw [HZ.out]; exact heap_alloc2_old w _ _
end Go.Proofs.Ytcbbcihfooaggaa
