/- The taker in memory; contract: (*hash.taker).takeSome. -/
import Derived.Test.YthjpgnmpcllolaaDoorTurn
import Derived.Laws.CopyRow
import Derived.Deep.RegionLaw
import Derived.Deep.RegionWith
namespace Go.Proofs.YthjpgnmpcllolaaDoor
open Go.RowKit Go.ChangeShapes
set_option linter.unusedVariables false

/-- What stands in the taker's words, when it has taken M. -/
def takSt (M : List UInt8) : St := blocks (M.length / 64) h0 M
theorem takSt_ok (M : List UInt8) : (takSt M).Ok := blocks_ok _ _ _ h0_ok
/-- .. and in its block: the bytes of the block that is under way. -/
def BufOk (M buf : List UInt8) : Prop := buf.length = 64 ∧ buf.take (M.length % 64) = M.drop (64 * (M.length / 64))

theorem takSt_whole (M X : List UInt8) (hM : M.length % 64 = 0) (hX : X.length = 64) : takSt (M ++ X) = comp (takSt M) X := by
  have e1 : (M ++ X).length / 64 = M.length / 64 + 1 := by rw [List.length_append]; omega
  have e2 : 64 * (M.length / 64) = M.length := by omega
  unfold takSt
  rw [e1, blocks_succ, blocks_append _ _ M X (by omega), e2, List.drop_append_of_le_length (by omega), List.drop_eq_nil_of_le (by omega), List.nil_append, List.take_of_length_le (by omega)]
theorem buf_whole (M X buf : List UInt8) (hM : M.length % 64 = 0) (hX : X.length = 64) (h : buf.length = 64) : BufOk (M ++ X) buf := by
  refine ⟨h, ?_⟩
  have e1 : (M ++ X).length % 64 = 0 := by rw [List.length_append]; omega
  rw [e1, List.take_zero, List.drop_eq_nil_of_le (by rw [List.length_append]; omega)]
theorem drop_app (M X : List UInt8) : (M ++ X).drop (64 * (M.length / 64)) = M.drop (64 * (M.length / 64)) ++ X := List.drop_append_of_le_length (by omega)
theorem takSt_full (M X buf : List UInt8) (h : BufOk M buf) (hX : M.length % 64 + X.length = 64) : takSt (M ++ X) = comp (takSt M) (buf.take (M.length % 64) ++ X) := by
  have e1 : (M ++ X).length / 64 = M.length / 64 + 1 := by rw [List.length_append]; omega
  unfold takSt
  rw [e1, blocks_succ, blocks_append _ _ M X (by omega), drop_app, h.2, List.take_of_length_le (by rw [List.length_append, List.length_drop]; omega)]
theorem buf_full (M X buf : List UInt8) (h : buf.length = 64) (hX : M.length % 64 + X.length = 64) : BufOk (M ++ X) buf := by
  refine ⟨h, ?_⟩
  have e1 : (M ++ X).length % 64 = 0 := by rw [List.length_append]; omega
  rw [e1, List.take_zero, List.drop_eq_nil_of_le (by rw [List.length_append]; omega)]
theorem takSt_part (M X : List UInt8) (hX : M.length % 64 + X.length < 64) : takSt (M ++ X) = takSt M := by
  have e1 : (M ++ X).length / 64 = M.length / 64 := by rw [List.length_append]; omega
  unfold takSt
  rw [e1, blocks_append _ _ M X (by omega)]
/-- The block's bytes behind a copy. -/
def bufPut (buf : List UInt8) (at_ : Nat) (X : List UInt8) : List UInt8 := buf.take at_ ++ X ++ buf.drop (at_ + X.length)
theorem bufPut_length (buf : List UInt8) (i : Nat) (X : List UInt8) (h : buf.length = 64) (hX : i + X.length ≤ 64) : (bufPut buf i X).length = 64 := by
  simp [bufPut]
  omega
theorem bufPut_take (buf : List UInt8) (i : Nat) (X : List UInt8) (h : buf.length = 64) (hX : i + X.length ≤ 64) : (bufPut buf i X).take (i + X.length) = buf.take i ++ X := by
  unfold bufPut
  rw [List.take_append_of_le_length (by simp; omega), List.take_of_length_le (by simp; omega)]
theorem buf_part (M X buf : List UInt8) (h : BufOk M buf) (hX : M.length % 64 + X.length < 64) : BufOk (M ++ X) (bufPut buf (M.length % 64) X) := by
  refine ⟨bufPut_length _ _ _ h.1 (by omega), ?_⟩
  have e1 : (M ++ X).length / 64 = M.length / 64 := by rw [List.length_append]; omega
  have e2 : (M ++ X).length % 64 = M.length % 64 + X.length := by rw [List.length_append]; omega
  rw [e1, e2, drop_app, ← h.2]
  exact bufPut_take _ _ _ h.1 (by omega)

/-- The cells of a taker. -/
def takCells (s : St) (buf : List UInt8) (n : Int) : Array Value := (stc s ++ (buf.map bv ++ [Value.int .i64 n])).toArray
def TakAt (w : World) (b : Nat) (M : List UInt8) : Prop := ∃ buf, BufOk M buf ∧ w.heap[b]? = some (.cells (takCells (takSt M) buf M.length) 58 (0, 0))
theorem TakAt.keep {S : Nat → Prop} {w w' : World} {b : Nat} {M : List UInt8} (h : TakAt w b M) (hf : Fr S w w') (hb : ¬ S b) : TakAt w' b M := by
  obtain ⟨buf, h1, h2⟩ := h
  exact ⟨buf, h1, hf.heap h2 hb⟩
theorem takCells_n (s : St) (buf : List UInt8) (n : Int) (h : buf.length = 64) : (takCells s buf n)[72]? = some (.int .i64 n) := by
  simp only [takCells, List.getElem?_toArray]
  rw [List.getElem?_append_right (by simp [stc]), show 72 - (stc s).length = 64 from rfl, List.getElem?_append_right (by simp [h]), List.length_map, h]
  rfl
theorem takCells_buf (s : St) (buf : List UInt8) (n : Int) (h : buf.length = 64) (j : Nat) (hj : j < 64) : (takCells s buf n)[8 + j]? = some (bv (buf[j]'(by omega))) := by
  simp only [takCells, List.getElem?_toArray]
  rw [List.getElem?_append_right (by simp [stc]), show 8 + j - (stc s).length = j by simp [stc], List.getElem?_append_left (by simp; omega), List.getElem?_map, List.getElem?_eq_getElem (by omega)]
  rfl
theorem takCells_set (s : St) (buf : List UInt8) (n m : Int) (h : buf.length = 64) : (takCells s buf n).setIfInBounds 72 (.int .i64 m) = takCells s buf m := by
  simp only [takCells, List.setIfInBounds_toArray]
  rw [List.set_append_right _ _ (by simp [stc]), show 72 - (stc s).length = 64 from rfl, List.set_append_right _ _ (by simp [h]), List.length_map, h]
  rfl
theorem takCells_copy (s : St) (buf X : List UInt8) (i : Nat) (n : Int) (h : buf.length = 64) (hi : i + X.length ≤ 64) :
    ((takCells s buf n).toList.take (8 + i) ++ X.map bv ++ (takCells s buf n).toList.drop (8 + i + (X.map bv).length)).toArray = takCells s (bufPut buf i X) n := by
  have e : (stc s).length = 8 := rfl
  simp only [takCells, bufPut]
  congr 1
  rw [List.take_append, List.drop_append, e, List.take_of_length_le (by rw [e]; omega), List.drop_eq_nil_of_le (by rw [e]; omega), show 8 + i - 8 = i by omega, List.length_map, show 8 + i + X.length - 8 = i + X.length by omega,
    List.take_append_of_le_length (by simp; omega), List.drop_append_of_le_length (by simp; omega)]
  simp

theorem BytesIn.src {F : Nat → Prop} {w : World} {a : Addr} {l cap : Nat} {X : List UInt8} (h : BytesIn F w (.slice (some a) l cap) X) : ∀ j u, (X.map bv)[j]? = some u → w.cell? (a.add j) = some u := by
  obtain ⟨ao', cap', hv, h1, hm, h2, h3⟩ := h
  simp only [Value.slice.injEq] at hv
  obtain ⟨rfl, _, rfl⟩ := hv
  exact (h3 a rfl).1
theorem run_sliceAt_arr (w : World) (b o i : Nat) (hi : i < 64) :
    (Instr.sliceAt 56 (.pointer (some ⟨b, o, none⟩)) (some (.int .i64 (i : Int))) none none).run Tryd.prog w = .ok (.slice (some ⟨b, o + i, none⟩) (64 - i) (64 - i)) w := by
  have hs : ∀ w, (sizeOf 5).run Tryd.prog w = .ok 1 w := fun w => by kernel_rfl
  have h1 : (i : Int) ≤ ((64 : Nat) : Int) := by omega
  have h2 : ¬ 64 = i := by omega
  simp [Instr.sliceAt, Instr.sureAddr, run_underlying Tryd.underlying56, Instr.sliceBounds, run_sliceBound _ _ (i : Int) 64 _ (by omega) h1, hs, h2, addr_plain]
theorem run_sliceAt_all (w : World) (b o : Nat) :
    (Instr.sliceAt 56 (.pointer (some ⟨b, o, none⟩)) none none none).run Tryd.prog w = .ok (.slice (some ⟨b, o, none⟩) 64 64) w := by
  have hs : ∀ w, (sizeOf 5).run Tryd.prog w = .ok 1 w := fun w => by kernel_rfl
  simp [Instr.sliceAt, Instr.sureAddr, run_underlying Tryd.underlying56, Instr.sliceBounds, hs, addr_plain]
theorem run_take (w : World) (ao : Option Addr) (l cap n : Nat) (m : Int) (hm : m = n) (hn : n ≤ cap) :
    (Instr.slice 38 (.slice ao l cap) none (some (.int .i64 m)) none).run Tryd.prog w = .ok (.slice ao n cap) w := by
  subst hm
  have hs : ∀ w, (sizeOf 5).run Tryd.prog w = .ok 1 w := fun w => by kernel_rfl
  simp [Instr.slice, run_underlying Tryd.underlying38, Instr.sliceBounds, run_sliceBound, hs, hn]
  intro _
  cases ao with
  | none => rfl
  | some a => simp [Addr.add]

theorem buf_in {w : World} {b : Nat} {st : St} {buf : List UInt8} {n : Int} (hg : w.heap[b]? = some (.cells (takCells st buf n) 58 (0, 0))) (hb : buf.length = 64) :
    BytesIn (fun k => k = b) w (.slice (some ⟨b, 8, none⟩) 64 64) buf := by
  refine ⟨_, 64, by rw [hb], by omega, by simp [maxLen], (fun h => by cases h), ?_⟩
  intro a ha
  cases ha
  refine ⟨fun j u hu => ?_, fun _ => rfl⟩
  have hj : j < 64 := by have := (List.getElem?_eq_some_iff.1 hu).1; simp [hb] at this; exact this
  rw [addr_plain, cell_of_row _ _ _ _ _ _ hg, takCells_buf st buf n hb j hj, ← hu, List.getElem?_map, List.getElem?_eq_getElem (by omega)]
  rfl

/-- copy of bytes into the midst of a block, in a region that draws its order. -/
theorem step_copy_row {P : Program} {ops : Array Oper} {o : Oper} {a : Act} {w : World} {K : Act → World → Prop} {Q : Exit → Act → World → Prop} {E : Prop}
    (hgd : o.guard = none) (d s : Operand) (dT sT elem : TypeId) (ho : o.op = .call { callee := .builtin .copy, args := #[d, s], argTypes := #[dT, sT] })
    (hu : P.underlying dT = some (.slice elem)) (hs : (P.info? elem).map (·.size) = some 1)
    (g off dLen dCap : Nat) (ad : Addr) (sLen sCap : Nat) (cur : Array Value) (t : TypeId) (cs : List Value)
    (hd : a.eval d = .slice (some ⟨g, off, none⟩) dLen dCap) (hx : a.eval s = .slice (some ad) sLen sCap)
    (hg : w.heap[g]? = some (.cells cur t (0, 0))) (hn : cs.length = Nat.min sLen dLen)
    (hsrc : ∀ j v, cs[j]? = some v → w.cell? (ad.add j) = some v) (hfit : off + cs.length ≤ cur.size) (h1 : ∀ v ∈ cs, v.oneCell' = true)
    (hK : K (a.put o.dst (goInt cs.length)) (w.setRow g (cur.toList.take off ++ cs ++ cur.toList.drop (off + cs.length)).toArray)) :
    if Region.wanted o (yielded ops a.tmps) = true then Oper.wp P o a w K Q else E := by
  have hw : Region.wanted o (yielded ops a.tmps) = true := by simp [Region.wanted, hgd]
  rw [if_pos hw]
  unfold Oper.wp execOp
  simp only [ho, resolve, invoke, builtin, Sem.run_bind, Sem.run_pure, Result.andThen_ok, List.map_toArray, List.map_cons, List.map_nil, hd, hx, run_copy_row P w dT sT o.type elem g off dLen dCap ad sLen sCap cur t cs hu hs hg hn hsrc hfit h1]
  exact hK

theorem step_copy_tak {ops : Array Oper} {o : Oper} {a : Act} {w : World} {K : Act → World → Prop} {Q : Exit → Act → World → Prop} {E : Prop}
    (hgd : o.guard = none) (d s : Operand) (ho : o.op = .call { callee := .builtin .copy, args := #[d, s], argTypes := #[38, 38] })
    (b i dLen dCap : Nat) (ad : Addr) (sLen sCap : Nat) (st : St) (buf : List UInt8) (n : Int) (X : List UInt8) {F : Nat → Prop}
    (hd : a.eval d = .slice (some ⟨b, 8 + i, none⟩) dLen dCap) (hx : a.eval s = .slice (some ad) sLen sCap)
    (hg : w.heap[b]? = some (.cells (takCells st buf n) 58 (0, 0))) (hb : buf.length = 64) (hn : X.length = Nat.min sLen dLen) (hX : BytesIn F w (.slice (some ad) sLen sCap) X) (hi : i + X.length ≤ 64)
    (hK : ∀ v, K (a.put o.dst v) (w.setRow b (takCells st (bufPut buf i X) n))) :
    if Region.wanted o (yielded ops a.tmps) = true then Oper.wp Tryd.prog o a w K Q else E := by
  refine step_copy_row hgd d s 38 38 5 ho Tryd.underlying38 (by kernel_rfl) b (8 + i) dLen dCap ad sLen sCap (takCells st buf n) 58 (X.map bv) hd hx hg (by rw [List.length_map]; exact hn) hX.src ?_ (bv_one _) ?_
  · simp [takCells, stc, hb]
    omega
  · rw [takCells_copy st buf X i n hb hi]
    exact hK _
end Go.Proofs.YthjpgnmpcllolaaDoor
