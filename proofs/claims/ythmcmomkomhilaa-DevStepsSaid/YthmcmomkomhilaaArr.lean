/- Whole arrays by value: out of a block of their own, and into it. -/
import Derived.Test.YthmcmomkomhilaaClone
import Derived.Laws.Rows
import Derived.Deep.WholeRow
import Derived.Laws.MakeOwn
import Derived.Laws.IdiomStrings
namespace Go.Proofs.Ythmcmomkomhilaa
open Go.RowKit Go.ChangeShapes
set_option linter.unusedVariables false

theorem Fr.setRow {S : Nat → Prop} {a w : World} {g : Nat} (h : Fr S a w) (hg : S g ∨ a.heap.size ≤ g) (cs : Array Value) : Fr S a (w.setRow g cs) :=
  ⟨h.os, h.tape, h.output, by simpa using h.size, fun i hi hs => by
    rw [setRow_other _ _ _ _ (by rintro rfl; rcases hg with h1 | h1; exact hs h1; omega), h.block i hi hs]⟩

theorem wpList_store_row {P : Program} {ops : Array Oper} {rest : List Oper} {op : Oper} {a : Act} {w : World} {Q : Exit → Act → World → Prop} (hgd : op.guard = none) (ty : TypeId) (x y : Operand) (ho : op.op = .store ty x y)
    (g : Nat) (cells old : Array Value) (t : TypeId) (hx : a.eval x = .pointer (some ⟨g, 0, none⟩)) (hy : a.eval y = .agg cells)
    (hg : w.heap[g]? = some (.cells old t (0, 0))) (hi : (P.info? ty).map (·.size) = some cells.size) (hs : old.size = cells.size) (h1 : cells.all (·.oneCell') = true)
    (h : wpList P ops Q rest (a.put op.dst undef) (w.setRow g cells)) : wpList P ops Q (op :: rest) a w :=
  wpList_plain hgd fun _ hK => by
    unfold Oper.wp execOp
    simp only [ho, hx, hy, Instr.storeAt, Instr.sureAddr, Sem.run_bind, Sem.run_pure, Result.andThen_ok, run_storeVar_row w g t ty old cells hg hi hs h1]
    exact hK _ _ h

/-- Block g is just the bytes L. -/
def Byt (w : World) (g : Nat) (L : List UInt8) : Prop := w.heap[g]? = some (.cells (L.map bv).toArray 5 (0, 0))
theorem Byt.cell {w : World} {g : Nat} {L : List UInt8} (h : Byt w g L) (i : Nat) (hi : i < L.length) : w.cell? ⟨g, i, none⟩ = some (.int .u8 (L.getD i 0).toNat) := by
  rw [cell_of_row _ _ _ _ _ _ h, List.getElem?_toArray, List.getElem?_map, List.getD_eq_getElem?_getD, List.getElem?_eq_getElem hi]
  rfl
theorem Byt.free {w : World} {g : Nat} {L : List UInt8} (h : Byt w g L) (i : Nat) : w.frozen? ⟨g, i, none⟩ = false := frozen_of_row _ _ _ _ _ h
theorem Byt.keep {S : Nat → Prop} {w w' : World} {g : Nat} {L : List UInt8} (h : Byt w g L) (hf : Fr S w w') (hg : ¬ S g) : Byt w' g L := hf.heap h hg
theorem Byt.set_ {w : World} {g : Nat} {L : List UInt8} (h : Byt w g L) (i : Nat) (x : Int) (y : UInt8) (hx : x = y.toNat) : Byt (w.setCell ⟨g, i, none⟩ (.int .u8 x)) g (L.set i y) := by
  subst hx
  refine (heap_setCell_at _ h).trans ?_
  rw [List.setIfInBounds_toArray, List.map_set]
  rfl
theorem Byt.bytes {w : World} {g : Nat} {L : List UInt8} (h : Byt w g L) (hl : L.length ≤ maxLen) : BytesIn (fun k => k = g) w (.slice (some ⟨g, 0, none⟩) L.length L.length) L := by
  refine ⟨_, L.length, rfl, Nat.le_refl _, hl, (fun h => by cases h), ?_⟩
  intro a ha
  cases ha
  refine ⟨fun j u hu => ?_, fun _ => rfl⟩
  rw [addr_plain, Nat.zero_add, cell_of_row _ _ _ _ _ _ h]
  simpa using hu
theorem Byt.lt {w : World} {g : Nat} {L : List UInt8} (h : Byt w g L) : g < w.heap.size := lt_of_block h
theorem Byt.new (w : World) (L : List UInt8) : Byt (w.alloc (.cells (L.map bv).toArray 5)) w.heap.size L := heap_alloc_new w _
/-- make([]byte, n). -/
theorem run_make_bytes (w : World) (m : Int) (n : Nat) (hm : m = n) (hn : n ≤ 140737488355328) :
    (Instr.makeSlice 33 (.int .i64 m) (.int .i64 m)).run Try.prog w = .ok (.slice (some ⟨w.heap.size, 0, none⟩) n n) (w.alloc (.cells ((List.replicate n (0 : UInt8)).map bv).toArray 5)) := by
  subst hm
  obtain ⟨i0, hi, hz0, hz1, hz2⟩ := info_parts Try.infoB
  have h := run_make (P := Try.prog) w 33 5 i0 (.int .u8 0) Try.underlying33 hi hz0 .i64 .i64 (n : Int) (n : Int) (by omega) (Int.le_refl _) (by rw [hz2]; omega) (by omega)
  rw [h, hz1, Int.toNat_natCast, Nat.mul_one]
  have e : madeCells (Value.int .u8 0).cells n = ((List.replicate n (0 : UInt8)).map bv).toArray := by
    apply Array.ext'
    simp only [madeCells, Value.cells, Array.toList_map, Array.toList_range, List.map_replicate]
    apply List.ext_getElem
    · simp
    · intro k h1 h2
      simp [Nat.mod_one]
      rfl
  rw [e]
/-- The cells of n noughts: not unfolded by a walk. -/
def zerosA (n : Nat) : Array Value := ((List.replicate n (0 : UInt8)).map bv).toArray
theorem zerosA_get (n i : Nat) (hi : i < n) : (zerosA n)[i]? = some (.int .u8 0) := by
  unfold zerosA
  rw [List.getElem?_toArray, List.getElem?_map, List.getElem?_replicate, if_pos hi]
  rfl
theorem zerosA_set (n i : Nat) (x : Int) (y : UInt8) (hx : x = y.toNat) : (zerosA n).setIfInBounds i (.int .u8 x) = (((List.replicate n (0 : UInt8)).set i y).map bv).toArray := by
  subst hx
  unfold zerosA
  rw [List.setIfInBounds_toArray, List.map_set]
  rfl

/-- Block g is just the bytes L, as an array of type T. -/
def BytT (w : World) (g : Nat) (T : TypeId) (L : List UInt8) : Prop := w.heap[g]? = some (.cells (L.map bv).toArray T (0, 0))
theorem BytT.cell {w : World} {g : Nat} {T : TypeId} {L : List UInt8} (h : BytT w g T L) (i : Nat) (hi : i < L.length) : w.cell? ⟨g, i, none⟩ = some (.int .u8 (L.getD i 0).toNat) := by
  rw [cell_of_row _ _ _ _ _ _ h, List.getElem?_toArray, List.getElem?_map, List.getD_eq_getElem?_getD, List.getElem?_eq_getElem hi]
  rfl
theorem BytT.free {w : World} {g : Nat} {T : TypeId} {L : List UInt8} (h : BytT w g T L) (i : Nat) : w.frozen? ⟨g, i, none⟩ = false := frozen_of_row _ _ _ _ _ h
theorem BytT.keep {S : Nat → Prop} {w w' : World} {g : Nat} {T : TypeId} {L : List UInt8} (h : BytT w g T L) (hf : Fr S w w') (hg : ¬ S g) : BytT w' g T L := hf.heap h hg
theorem BytT.set_ {w : World} {g : Nat} {T : TypeId} {L : List UInt8} (h : BytT w g T L) (i : Nat) (x : Int) (y : UInt8) (hx : x = y.toNat) : BytT (w.setCell ⟨g, i, none⟩ (.int .u8 x)) g T (L.set i y) := by
  subst hx
  refine (heap_setCell_at _ h).trans ?_
  rw [List.setIfInBounds_toArray, List.map_set]
  rfl
theorem BytT.lt {w : World} {g : Nat} {T : TypeId} {L : List UInt8} (h : BytT w g T L) : g < w.heap.size := lt_of_block h
/-- a[i], of an array of bytes by value. -/
theorem run_index_byte (w : World) (t : TypeId) (n : Nat) (D : List UInt8) (k : Nat) (ht : Try.prog.underlying t = some (.array n 5)) (hn : D.length = n) (hk : k < n) :
    (Instr.index t (.agg (D.map bv).toArray) (.int .i64 (k : Int))).run Try.prog w = .ok (.int .u8 (D.getD k 0).toNat) w := by
  have hs : ∀ w, (sizeOf 5).run Try.prog w = .ok 1 w := fun w => by kernel_rfl
  have ha : ∀ w, (isAgg 5).run Try.prog w = .ok false w := fun w => by kernel_rfl
  have hk' : k < D.length := by omega
  have h0 : (0 : Int) ≤ k ∧ (k : Int) < (n : Int) := by omega
  have h1 : ¬ n ≤ k := by omega
  simp [Instr.index, run_underlying ht, asIntOf, h0, h1, hs, part, ha, hk', bv, List.getD_eq_getElem?_getD]

/-- []byte(s). -/
theorem run_tag (w : World) (s : ByteArray) (hs : s.size ≤ maxLen) :
    ∃ cap W, (convert 9 33 (.string s)).run Try.prog w = .ok (.slice (some ⟨w.heap.size, 0, none⟩) s.size cap) W ∧ Fr (fun _ => False) w W ∧ BytesIn (fun k => k = w.heap.size) W (.slice (some ⟨w.heap.size, 0, none⟩) s.size cap) s.data.toList ∧ W.heap.size = w.heap.size + 1 := by
  refine ⟨_, _, run_bytes_of_string w 9 33 5 s Try.underlying9 Try.underlying33 Try.underlying5, (Fr.refl _ w).drew.alloc _, ?_, by simp⟩
  have hge := grownCap_ge w s.size 0 5
  have hle := grownCap_le_maxLen w s.size 0 5 hs
  generalize grownCap w s.size 0 5 = cap at *
  have hl : s.data.toList.length = s.size := by simp
  refine ⟨_, cap, by rw [hl], by rw [hl]; exact hge, hle, (fun h => by cases h), ?_⟩
  intro a ha
  cases ha
  refine ⟨fun j u hu => ?_, fun _ => rfl⟩
  have hj : j < s.data.size := by have := (List.getElem?_eq_some_iff.1 hu).1; simpa using this
  rw [addr_plain, Nat.zero_add]
  refine (cell_of_row _ w.heap.size j _ _ _ (heap_alloc_new w.drew _)).trans ?_
  rw [bytesRow_at s cap j hj, ← hu, List.getElem?_map, Array.getElem?_toList, Array.getElem?_eq_getElem hj]
  rfl
end Go.Proofs.Ythmcmomkomhilaa
