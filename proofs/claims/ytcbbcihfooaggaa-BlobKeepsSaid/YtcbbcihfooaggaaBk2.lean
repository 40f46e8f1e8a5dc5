/- Laid together: DMem DLatest RDev4 DChosen DSettle -/
import Derived.Test.YtcbbcihfooaggaaBk1
import Derived.Laws.CopyRow
import Derived.Test.YtcbbcihfooaggaaBk0
import Derived.Deep.RegionLawGrows
import Derived.Deep.MidRow
import Derived.Shelf.Abstract

namespace Go.Proofs.Ytcbbcihfooaggaa
open Go.RowKit Go.ChangeShapes
set_option linter.unusedVariables false
theorem op_load_ {P : Program} {w : World} {o : Oper} {a : Act} {t : TypeId} {x : Operand} {vx v : Value} (ho : o.op = .load t x) (hx : a.eval x = vx) (hr : (Instr.loadAt t vx).run P w = .ok v w) : (execOp a.eval o).run P w = .ok (.value v) w := by
  unfold execOp
  rw [ho]
  simp only [hx, Sem.run_bind, hr, Result.andThen_ok]
  rfl
theorem run_store_at {P : Program} (w : World) (ty : TypeId) (g o : Nat) (cells cur : Array Value) (t : TypeId) (hg : w.heap[g]? = some (.cells cur t (0, 0))) (hi : (P.info? ty).map (·.size) = some cells.size) (hfit : o + cells.size ≤ cur.size) (h1 : cells.all (·.oneCell') = true) :
    (Instr.storeAt ty (.pointer (some ⟨g, o, none⟩)) (.agg cells)).run P w = .ok () (w.setRow g (cur.toList.take o ++ cells.toList ++ cur.toList.drop (o + cells.size)).toArray) := by
  have hst := run_storeCells_at P g o t cells.toList 0 cur w hg (by simpa using hfit) (fun v hv => (Array.all_eq_true_iff_forall_mem.1 h1) v (by simpa using hv))
  cases hq : P.info? ty with
  | none => simp [hq] at hi
  | some i =>
    have hs : cells.size = i.size := by simp [hq] at hi; omega
    simp only [Nat.add_zero, Array.length_toList] at hst
    simp only [Instr.storeAt, Instr.sureAddr, Sem.run_bind, Sem.run_pure, Result.andThen_ok]
    simp [storeVar, sizeOf, typeInfo, hq, Value.cells, hs]
    rw [hs] at hst
    simpa using hst
theorem alloc_setRow (w : World) (old new : Array Value) (t : TypeId) : (w.alloc (.cells old t)).setRow w.heap.size new = w.alloc (.cells new t) := by
  show ({ w with heap := (w.heap.push (.cells old t)).modify w.heap.size _ } : World) = { w with heap := w.heap.push (.cells new t) }
  congr 1
  apply Array.ext
  · simp
  · intro i h1 h2
    rw [Array.getElem_modify]
    split
    · next h => subst h; simp
    · next h =>
      have : i < w.heap.size := by simp at h1; omega
      simp [Array.getElem_push, this]
section
variable {F : Fence} {n : Nat} {P : Program} {ops : Array Oper} {Q : Exit → Act → World → Prop} {rest : List Oper} {o : Oper} {a : Act} {w : World}
theorem wpListIn_value_g (hF : WideF F) (hw : Region.wanted o (yielded ops a.tmps) = true) (hd : ∀ c, o.op ≠ .defer c) (v : Value) (w' : World) (h : (execOp a.eval o).run P w = .ok (.value v) w') (hK : wpListIn F n P ops Q rest (a.put o.dst v) w') : wpListIn F n P ops Q (o :: rest) a w :=
  wpListIn_step fun _ hK' => by
    rw [if_pos hw]
    exact wpIn_value hF hd v h (hK' _ _ hK)
theorem wpListIn_load_mid (hF : WideF F) (hgd : o.guard = none) (ty : TypeId) (x : Operand) (ho : o.op = .load ty x)
    (b q : Nat) (hx : a.eval x = .pointer (some ⟨b, q, none⟩)) (cs : List Value) (d : TypeDesc) (hc : w.rangeAt b q cs)
    (hu : P.underlying ty = some d) (hd : d.isRow = true) (hi : (P.info? ty).map (·.size) = some cs.length)
    (h : wpListIn F n P ops Q rest (a.put o.dst (.agg cs.toArray)) w) : wpListIn F n P ops Q (o :: rest) a w :=
  wpListIn_value hF hgd (by rw [ho]; intro c h; cases h) _ w (op_load_ ho hx (run_loadAt_mid w b q ty cs d hc hu hd hi)) h
theorem wpListIn_load_mid_g (hF : WideF F) (hw : Region.wanted o (yielded ops a.tmps) = true) (ty : TypeId) (x : Operand) (ho : o.op = .load ty x)
    (b q : Nat) (hx : a.eval x = .pointer (some ⟨b, q, none⟩)) (cs : List Value) (d : TypeDesc) (hc : w.rangeAt b q cs)
    (hu : P.underlying ty = some d) (hd : d.isRow = true) (hi : (P.info? ty).map (·.size) = some cs.length)
    (h : wpListIn F n P ops Q rest (a.put o.dst (.agg cs.toArray)) w) : wpListIn F n P ops Q (o :: rest) a w :=
  wpListIn_value_g hF hw (by rw [ho]; intro c h; cases h) _ w (op_load_ ho hx (run_loadAt_mid w b q ty cs d hc hu hd hi)) h
theorem wpListIn_store_at (hF : WideF F) (hgd : o.guard = none) (ty : TypeId) (x y : Operand) (ho : o.op = .store ty x y)
    (g q : Nat) (cells cur : Array Value) (t : TypeId) (hx : a.eval x = .pointer (some ⟨g, q, none⟩)) (hy : a.eval y = .agg cells)
    (hg : w.heap[g]? = some (.cells cur t (0, 0))) (hi : (P.info? ty).map (·.size) = some cells.size) (hfit : q + cells.size ≤ cur.size) (h1 : cells.all (·.oneCell') = true)
    (h : wpListIn F n P ops Q rest (a.put o.dst undef) (w.setRow g (cur.toList.take q ++ cells.toList ++ cur.toList.drop (q + cells.size)).toArray)) : wpListIn F n P ops Q (o :: rest) a w :=
  wpListIn_plain hgd fun _ hK => by
    refine ⟨fun f _ => hF.fn f, ?_⟩
    rw [Oper.semAt_plain F _ _ (by rw [ho]; intro c h; cases h)]
    unfold execOp
    simp only [ho, hx, hy, Sem.run_bind, run_store_at w ty g q cells cur t hg hi hfit h1, Result.andThen_ok]
    exact hK _ _ h
theorem wpListIn_store_new (hF : WideF F) (hgd : o.guard = none) (ty : TypeId) (x y : Operand) (ho : o.op = .store ty x y)
    (cells cur : Array Value) (t : TypeId) (w0 : World) (hw : w = w0.alloc (.cells cur t)) (hx : a.eval x = .pointer (some ⟨w0.heap.size, 0, none⟩)) (hy : a.eval y = .agg cells)
    (hi : (P.info? ty).map (·.size) = some cells.size) (hs : cur.size = cells.size) (h1 : cells.all (·.oneCell') = true)
    (h : wpListIn F n P ops Q rest (a.put o.dst undef) (w0.alloc (.cells cells t))) : wpListIn F n P ops Q (o :: rest) a w := by
  subst hw
  refine wpListIn_store_at hF hgd ty x y ho w0.heap.size 0 cells cur t hx hy (heap_alloc_new w0 _) hi (by omega) h1 ?_
  rw [alloc_setRow]
  have e : (cur.toList.take 0 ++ cells.toList ++ cur.toList.drop (0 + cells.size)).toArray = cells := by
    rw [List.take_zero, List.nil_append, List.drop_eq_nil_of_le (by simp; omega), List.append_nil]
  rw [e]
  exact h
end
section
variable {P : Program} {ops : Array Oper} {Q : Exit → Act → World → Prop} {rest : List Oper} {o : Oper} {a : Act} {w : World}
theorem wpList_store_at (hgd : o.guard = none) (ty : TypeId) (x y : Operand) (ho : o.op = .store ty x y)
    (g q : Nat) (cells cur : Array Value) (t : TypeId) (hx : a.eval x = .pointer (some ⟨g, q, none⟩)) (hy : a.eval y = .agg cells)
    (hg : w.heap[g]? = some (.cells cur t (0, 0))) (hi : (P.info? ty).map (·.size) = some cells.size) (hfit : q + cells.size ≤ cur.size) (h1 : cells.all (·.oneCell') = true)
    (h : wpList P ops Q rest (a.put o.dst undef) (w.setRow g (cur.toList.take q ++ cells.toList ++ cur.toList.drop (q + cells.size)).toArray)) : wpList P ops Q (o :: rest) a w :=
  wpList_plain hgd fun _ hK => by
    unfold Oper.wp execOp
    simp only [ho, hx, hy, Sem.run_bind, run_store_at w ty g q cells cur t hg hi hfit h1, Result.andThen_ok]
    exact hK _ _ h
theorem wpList_store_new (hgd : o.guard = none) (ty : TypeId) (x y : Operand) (ho : o.op = .store ty x y)
    (cells cur : Array Value) (t : TypeId) (w0 : World) (hw : w = w0.alloc (.cells cur t)) (hx : a.eval x = .pointer (some ⟨w0.heap.size, 0, none⟩)) (hy : a.eval y = .agg cells)
    (hi : (P.info? ty).map (·.size) = some cells.size) (hs : cur.size = cells.size) (h1 : cells.all (·.oneCell') = true)
    (h : wpList P ops Q rest (a.put o.dst undef) (w0.alloc (.cells cells t))) : wpList P ops Q (o :: rest) a w := by
  subst hw
  refine wpList_store_at hgd ty x y ho w0.heap.size 0 cells cur t hx hy (heap_alloc_new w0 _) hi (by omega) h1 ?_
  rw [alloc_setRow]
  have e : (cur.toList.take 0 ++ cells.toList ++ cur.toList.drop (0 + cells.size)).toArray = cells := by
    rw [List.take_zero, List.nil_append, List.drop_eq_nil_of_le (by simp; omega), List.append_nil]
  rw [e]
  exact h
end
def zWr : Array Value := (wrC (0, List.replicate 64 0)).toArray
theorem zWr_zero (w : World) : (zeroValue 123).run Try.prog w = .ok (.agg zWr) w := by kernel_rfl
theorem zWr_size : zWr.size = 65 := by kernel_rfl
def zSec : Array Value := ((List.replicate 64 (0 : UInt8)).map bv).toArray
theorem zSec_zero (w : World) : (zeroValue 104).run Try.prog w = .ok (.agg zSec) w := by kernel_rfl
theorem zSec_size : zSec.size = 64 := by kernel_rfl
end Go.Proofs.Ytcbbcihfooaggaa
namespace Go.Proofs.Ytcbbcihfooaggaa
open Go.RowKit Go.ChangeShapes
set_option linter.unusedVariables false
attribute [local go_sem] Oper.semAt_some
theorem load_sec (w : World) (b o : Nat) (x : List UInt8) (hx : x.length = 64) (h : w.rangeAt b o (x.map bv)) : (Instr.loadAt 104 (.pointer (some ⟨b, o, none⟩))).run Try.prog w = .ok (.agg (x.map bv).toArray) w :=
  run_loadAt_mid w b o 104 (x.map bv) _ h Try.underlying104 rfl (by rw [List.length_map, hx]; kernel_rfl)
theorem wrC_bytes {w : World} {b o : Nat} {p : Pend} (h : w.rangeAt b o (wrC p)) : w.cell? ⟨b, o, none⟩ = some (.int .i64 p.1) ∧ w.rangeAt b (o + 1) (p.2.map bv) := by
  refine ⟨h 0 _ rfl, fun j v hv => ?_⟩
  have := h (j + 1) v (by rw [wrC, List.getElem?_cons_succ]; exact hv)
  rwa [show o + (j + 1) = o + 1 + j by omega] at this
theorem rev_take {α : Type} (xs : List α) (r : Nat) (hr : r < xs.length) : xs.reverse.take (xs.length - r) = xs.reverse.take (xs.length - (r + 1)) ++ [xs[r]] := by
  have e : xs.length - r = xs.length - (r + 1) + 1 := by omega
  have h2 : xs.length - (r + 1) < xs.reverse.length := by simp; omega
  rw [e, List.take_succ_eq_append_getElem h2, List.getElem_reverse]
  congr 3
  omega
set_option maxRecDepth 100000 in
set_option maxHeartbeats 4000000 in
theorem latest1_in {T F : Nat → Prop} {s : Nat} (n : Nat) (l Bp g : Nat) (xs : List (PendX s)) (vw : Value) (hn6 : xs.length ≤ 1000000) (hT1 : ¬ T Bp) (hT2 : ¬ T g) (hT3 : ∀ k, F k → ¬ T k) (B0 : Nat) (J Jx : List (PendX s) → World → Prop) (hJ : AbidesFrom B0 J)
    (hY : ∀ pre x W, J pre W → pre.length < xs.length → YieldAt Fence.wide (n - 1) Try.prog l (encsX x) W fun e W' =>
      (e = .returned (.bool true) ∧ J (pre ++ [x]) W' ∧ Fr T W W') ∨ (e = .returned (.bool false) ∧ Jx (pre ++ [x]) W'))
    (W : World) (hR : ItR W F Bp g vw (valsX xs)) (h0 : J [] W) :
    CallsIn Fence.wide n Try.prog 84 #[.func (.yield l) #[] #[], .pointer (some ⟨Bp, 0, none⟩)] W fun e W' => (∃ v, e = .returned v) ∧
      ((∃ ys, ys = xs.reverse ∧ J ys W') ∨ (∃ pre, pre <+: xs.reverse ∧ Jx pre W')) := by
  obtain ⟨ao, cap, hvf, hc1, hc2⟩ := hR.wr.form
  have hvl : (valsX xs).length = xs.length := by simp [valsX]
  obtain ⟨m, hm⟩ : ∃ m, m = xs.length := ⟨_, rfl⟩
  rw [hvl, ← hm] at hvf
  subst hvf
  rw [← hm] at hn6
  obtain ⟨hbx, hhd, _⟩ := id hR
  have HR := Lib.hid hR
  have HM := Lib.hid hm
  have HY := Lib.hid hY
  have HJ := Lib.hid hJ
  have HT := Lib.hid (And.intro hT1 (And.intro hT2 hT3))
  have HL := Lib.hid (valsX_len xs)
  have e1 : IntKind.i64.wrap ((m : Int) - 1) = (m : Int) - 1 := by
    simp [IntKind.wrap, IntKind.bits, IntKind.signed]
    omega
  clear hR hm hY hJ hT1 hT2 hT3 hvl hc1 hc2
  refine callsIn_of_wp Try.func84 rfl trivial ?_ rfl
  simp only [Try.ntmps84, List.size_toArray, List.length_cons, List.length_nil, Nat.reduceAdd, Nat.reduceSub, Array.replicate_succ, Array.replicate_zero, List.push_toArray, List.append_toArray, List.nil_append, List.cons_append]
  gi_wp2
  gi_loopw [3] (fun iv wr => ∃ j : Nat, j ≤ m ∧ iv = .int .i64 ((j : Int) - 1) ∧ J (xs.reverse.take (m - j)) wr ∧ Hid (ItR wr F Bp g (.slice ao m cap) (valsX xs)))
    (fun iv _ => (intOf iv + 1).toNat)
  case atStart => exact ⟨m, by omega, rfl, by rw [Nat.sub_self]; exact h0, HR⟩
  case round =>
    obtain ⟨j, hj, rfl, hJs, hRr⟩ := hrel
    cases j with
    | zero =>
      gi_wp2
      go_end0
      exact ⟨⟨_, rfl⟩, .inl ⟨_, rfl, by rwa [List.take_of_length_le (by rw [List.length_reverse, HM.out]; omega)] at hJs⟩⟩
    | succ r =>
      have er : ((r + 1 : Nat) : Int) - 1 = (r : Int) := by omega
      rw [er]
      have hrx : r < xs.length := by rw [← HM.out]; omega
      obtain ⟨hb1, hh1, hw1⟩ := hRr.out
      obtain ⟨b, rfl, hFb, hrg⟩ := hw1.elem HL.out r (by simpa [valsX] using hrx)
      have ex : (valsX xs)[r]'(by simpa [valsX] using hrx) = xs[r].1 := by simp [valsX]
      rw [ex] at hrg
      obtain ⟨hat, hto⟩ := wrC_bytes hrg
      have hJd : J (xs.reverse.take (m - (r + 1))) wr.drew := HJ.out _ _ _ none hJs (grownBy_drew wr) (fun r e => by cases e)
      obtain ⟨fn, tmps, assign, body, hy, hRd⟩ := HY.out _ xs[r] wr.drew hJd (by simp [HM.out]; omega)
      have hre := rev_take xs r hrx
      rw [← HM.out] at hre
      obtain ⟨x, hx⟩ : ∃ x, x = xs[r] := ⟨_, rfl⟩
      rw [← hx] at hat hto hy hRd hre
      simp only [encsX] at hy
      have hxl := x.2.2
      have hld := load_sec wr.drew b (r * 65 + 1) x.1.2 hxl hto
      have HRE := Lib.hid hre
      have hrm : (r : Int) < (m : Int) := by omega
      have hr0 : (0 : Int) ≤ (r : Int) := by omega
      clear hre hx hrg hto hw1 hJd ex hJs hrx
      gi_wp2
      refine wpIn_still_tail 17 .out (by kernel_rfl) (by kernel_rfl) (by kernel_rfl) ?_
      simp only [List.take_succ_cons, List.take_zero, List.drop_succ_cons, List.drop_zero]
      iterate 16 still_step
      refine still_value rfl _ (op_load_ rfl rfl hld) ?_
      refine wpStill_nil ?_
      go_simp
      gi_wp2
      refine ⟨fun hx => WideF.out.free hx, hRd.mono ?_⟩
      rintro e W3 (⟨rfl, hJ3, hk3⟩ | ⟨rfl, hJx3⟩)
      · have HR3 := Lib.hid (hRr.out.keep (S := T) (w' := W3) (Fr.ofDrew hk3) HT.out.1 HT.out.2.1 (fun k _ hk => HT.out.2.2 k hk))
        gi_wp2
        go_roundw
        case rel => exact ⟨r, by omega, rfl, by rw [HRE.out]; exact hJ3, HR3⟩
        case measure => simp [intOf]
      · gi_wp2
        refine bodyPost_ret (results_none rfl _ _ _) rfl ?_
        exact ⟨⟨_, rfl⟩, .inr ⟨_, List.take_prefix _ _, by rw [HRE.out]; exact hJx3⟩⟩
theorem latest_any (w : World) (g : Nat) :
    Calls Try.prog 82 #[.pointer (some ⟨g, 0, none⟩)] w fun e w' => e = .returned (.func (.func 84) #[] #[.pointer (some ⟨w.heap.size, 0, none⟩)]) ∧ w' = w.alloc (.cells #[.pointer (some ⟨g, 0, none⟩)] 121) := by
  go_enter Try.func82, Try.ntmps82
  go_wp2
  go_ret
  exact ⟨rfl, rfl⟩
theorem ItR.below {w W : World} {F : Nat → Prop} {Bp g : Nat} {vw : Value} {V : List Pend} (h : ItR w F Bp g vw V) (hb : Below w.heap.size w W) : ItR W F Bp g vw V := by
  have h1 := World.block_lt_of_cell? _ _ h.box
  have h2 := World.block_lt_of_cell? _ _ h.head
  exact h.keep (Fr.ofBelow hb) (fun h => by simp only at h1; omega) (fun h => by simp only at h2; omega) (fun k hk _ h => by omega)
theorem latest_stops {T F : Nat → Prop} {s : Nat} (n Bp g : Nat) (xs : List (PendX s)) (vw : Value) (hn6 : xs.length ≤ 1000000) (hT1 : ¬ T Bp) (hT2 : ¬ T g) (hT3 : ∀ k, F k → ¬ T k) (w : World) (hR : ItR w F Bp g vw (valsX xs)) :
    SeqStopsK Fence.wide n Try.prog 84 #[.pointer (some ⟨Bp, 0, none⟩)] encsX (Fr T) (fun ys => ys = xs.reverse) (fun pre => pre <+: xs.reverse) xs.length w :=
  fun l J Jx W hW hJ hJx hY h0 => latest1_in n l Bp g xs vw hn6 hT1 hT2 hT3 _ J Jx hJ hY W (hR.below hW) h0
end Go.Proofs.Ytcbbcihfooaggaa
namespace Go.Proofs.Ytcbbcihfooaggaa
open Go.RowKit Go.ChangeShapes
set_option linter.unusedVariables false
theorem and_one_i64 (x : Int) : bits BinOp.and IntKind.i64 x 1 = x % 2 := by
  have e : (BitVec.ofInt 64 x &&& BitVec.ofInt 64 1).toNat = (x % 18446744073709551616).toNat % 2 := by
    rw [BitVec.toNat_and, BitVec.toNat_ofInt, show (BitVec.ofInt 64 1).toNat = 1 from rfl, Nat.and_one_is_mod]
    rfl
  show IntKind.i64.wrap (((BitVec.ofInt 64 x &&& BitVec.ofInt 64 1).toNat : Nat) : Int) = x % 2
  rw [e]
  simp only [IntKind.bits, IntKind.wrap, IntKind.signed]
  simp
  split <;> omega
theorem bit_tested (keep : Int) (i : Nat) : (bits BinOp.and IntKind.i64 (keep / 2 ^ (i % 62)) 1 == 1) = bitOf keep i := by
  rw [and_one_i64, bitOf, Bool.eq_iff_iff, beq_iff_eq, decide_eq_true_iff]
end Go.Proofs.Ytcbbcihfooaggaa
namespace Go.Proofs.Ytcbbcihfooaggaa
open Go.RowKit Go.ChangeShapes
set_option linter.unusedVariables false
attribute [local go_sem] Oper.semAt_some
def pickL {α : Type} (f : Nat → Bool) : Nat → List α → List α
  | _, [] => []
  | i, x :: xs => if f i = true then x :: pickL f (i + 1) xs else pickL f (i + 1) xs
theorem pickL_snoc {α : Type} (f : Nat → Bool) (x : α) : ∀ (xs : List α) (i : Nat), pickL f i (xs ++ [x]) = if f (i + xs.length) = true then pickL f i xs ++ [x] else pickL f i xs
  | [], i => by simp [pickL]
  | y :: xs, i => by
    rw [List.cons_append, pickL, pickL, pickL_snoc f x xs (i + 1), List.length_cons, show i + 1 + xs.length = i + (xs.length + 1) by omega]
    split <;> split <;> simp_all
theorem pickL_le {α : Type} (f : Nat → Bool) : ∀ (xs : List α) (i : Nat), (pickL f i xs).length ≤ xs.length
  | [], i => by simp [pickL]
  | y :: xs, i => by
    have := pickL_le f xs (i + 1)
    rw [pickL]
    split <;> simp <;> omega
theorem pickL_append {α : Type} (f : Nat → Bool) (zs : List α) : ∀ (xs : List α) (i : Nat), pickL f i (xs ++ zs) = pickL f i xs ++ pickL f (i + xs.length) zs
  | [], i => by simp [pickL]
  | y :: xs, i => by
    rw [List.cons_append, pickL, pickL, pickL_append f zs xs (i + 1), List.length_cons, show i + 1 + xs.length = i + (xs.length + 1) by omega]
    split <;> simp
theorem pickL_take {α : Type} (f : Nat → Bool) (xs : List α) (k : Nat) : pickL f 0 (xs.take k) <+: pickL f 0 xs := by
  conv => rhs; rw [← List.take_append_drop k xs]
  rw [pickL_append]
  exact List.prefix_append _ _
def putAll (K : List UInt8) : List Pend → List UInt8
  | [] => K
  | p :: W => putAll (putSec K p.1 p.2) W
theorem putAll_snoc (p : Pend) : ∀ (W : List Pend) (K : List UInt8), putAll K (W ++ [p]) = putSec (putAll K W) p.1 p.2
  | [], K => rfl
  | q :: W, K => by rw [List.cons_append, putAll, putAll, putAll_snoc p W]
theorem wakeL_pick {s : Nat} (f : Nat → Bool) : ∀ (xs : List (PendX s)) (i : Nat) (K : List UInt8), wakeL f i (valsX xs) K = putAll K (valsX (pickL f i xs))
  | [], i, K => rfl
  | x :: xs, i, K => by
    show wakeL f (i + 1) (valsX xs) (if f i = true then putSec K x.1.1 x.1.2 else K) = _
    rw [wakeL_pick f xs (i + 1), pickL]
    split <;> rfl
theorem putAll_length {s : Nat} : ∀ (xs : List (PendX s)) (K : List UInt8), K.length = 64 * s → (putAll K (valsX xs)).length = 64 * s
  | [], K, h => h
  | x :: xs, K, h => putAll_length xs _ (putSec_length K s x.1.1 x.1.2 h x.2.1 x.2.2)
structure ItB (w : World) (F : Nat → Prop) (Bp Bk g : Nat) (vw : Value) (keep : Int) (W : List Pend) : Prop where
  it : ItR w F Bp g vw W
  bits : w.cell? ⟨Bk, 0, none⟩ = some (.int .i64 keep)
theorem ItB.keep {F S : Nat → Prop} {w w' : World} {Bp Bk g : Nat} {vw : Value} {kp : Int} {W : List Pend} (h : ItB w F Bp Bk g vw kp W) (hf : Fr S w w') (h1 : ¬ S Bp) (h4 : ¬ S Bk) (h2 : ¬ S g) (h3 : ∀ k, k < w.heap.size → F k → ¬ S k) : ItB w' F Bp Bk g vw kp W :=
  ⟨h.it.keep hf h1 h2 h3, hf.cell h.bits h4⟩
theorem ItB.alloc {F : Nat → Prop} {w : World} {Bp Bk g : Nat} {vw : Value} {kp : Int} {W : List Pend} (h : ItB w F Bp Bk g vw kp W) (o : Obj) : ItB (w.alloc o) F Bp Bk g vw kp W :=
  h.keep (S := fun _ => False) ((Fr.refl _ _).alloc o) id id id (fun _ _ _ h => h)
set_option maxRecDepth 100000 in
set_option maxHeartbeats 4000000 in
theorem chosen1_in {T F : Nat → Prop} {s : Nat} (n : Nat) (l Bp Bk g : Nat) (keep : Int) (hkp0 : -9223372036854775808 ≤ keep) (hkp1 : keep ≤ 9223372036854775807) (xs : List (PendX s)) (vw : Value) (hn6 : xs.length ≤ 1000000) (hT1 : ¬ T Bp) (hT4 : ¬ T Bk) (hT2 : ¬ T g) (hT3 : ∀ k, F k → ¬ T k) (B0 : Nat) (J Jx : List (PendX s) → World → Prop) (hJ : AbidesFrom B0 J)
    (hY : ∀ pre x W, J pre W → pre.length < xs.length → YieldAt Fence.wide (n - 1) Try.prog l (encsX x) W fun e W' =>
      (e = .returned (.bool true) ∧ J (pre ++ [x]) W' ∧ Fr T W W') ∨ (e = .returned (.bool false) ∧ Jx (pre ++ [x]) W'))
    (W : World) (hR : ItB W F Bp Bk g vw keep (valsX xs)) (h0 : J [] W) :
    CallsIn Fence.wide n Try.prog 83 #[.func (.yield l) #[] #[], .pointer (some ⟨Bp, 0, none⟩), .pointer (some ⟨Bk, 0, none⟩)] W fun e W' => (∃ v, e = .returned v) ∧
      ((∃ ys, ys = pickL (bitOf keep) 0 xs ∧ J ys W') ∨ (∃ pre, pre <+: pickL (bitOf keep) 0 xs ∧ Jx pre W')) := by
  obtain ⟨ao, cap, hvf, hc1, hc2⟩ := hR.it.wr.form
  have hvl : (valsX xs).length = xs.length := by simp [valsX]
  obtain ⟨m, hm⟩ : ∃ m, m = xs.length := ⟨_, rfl⟩
  rw [hvl, ← hm] at hvf
  subst hvf
  rw [← hm] at hn6
  obtain ⟨⟨hbx, hhd, _⟩, hbt⟩ := id hR
  have HR := Lib.hid hR
  have HM := Lib.hid hm
  have HY := Lib.hid hY
  have HJ := Lib.hid hJ
  have HT := Lib.hid (And.intro hT1 (And.intro hT4 (And.intro hT2 hT3)))
  have HL := Lib.hid (valsX_len xs)
  clear hR hm hY hJ hT1 hT2 hT3 hT4 hvl hc1 hc2
  refine callsIn_of_wp Try.func83 rfl trivial ?_ rfl
  simp only [Try.ntmps83, List.size_toArray, List.length_cons, List.length_nil, Nat.reduceAdd, Nat.reduceSub, Array.replicate_succ, Array.replicate_zero, List.push_toArray, List.append_toArray, List.nil_append, List.cons_append]
  gi_wp2
  gi_loopw [11] (fun iv wr => ∃ i : Nat, i ≤ m ∧ iv = .int .i64 i ∧ J (pickL (bitOf keep) 0 (xs.take i)) wr ∧ Hid (ItB wr F Bp Bk g (.slice ao m cap) keep (valsX xs)))
    (fun iv _ => m - (intOf iv).toNat)
  case atStart => exact ⟨0, by omega, rfl, h0, HR⟩
  case round =>
    obtain ⟨i, hi, rfl, hJs, hRr⟩ := hrel
    by_cases hlt : i < m
    · have hrx : i < xs.length := by rw [← HM.out]; exact hlt
      obtain ⟨⟨hb1, hh1, hw1⟩, hbt1⟩ := id hRr.out
      obtain ⟨b, rfl, hFb, hrg⟩ := hw1.elem HL.out i (by simpa [valsX] using hrx)
      have ex : (valsX xs)[i]'(by simpa [valsX] using hrx) = xs[i].1 := by simp [valsX]
      rw [ex] at hrg
      obtain ⟨x, hx⟩ : ∃ x, x = xs[i] := ⟨_, rfl⟩
      rw [← hx] at hrg
      have hst : pickL (bitOf keep) 0 (xs.take (i + 1)) = if bitOf keep i = true then pickL (bitOf keep) 0 (xs.take i) ++ [x] else pickL (bitOf keep) 0 (xs.take i) := by
        rw [List.take_succ_eq_append_getElem hrx, pickL_snoc, ← hx, Nat.zero_add, List.length_take, Nat.min_eq_left (by omega)]
      have HST := Lib.hid hst
      have hxl := x.2.2
      have hd : decide ((i : Int) < (m : Int)) = true := by rw [decide_eq_true_iff]; omega
      have hkn : (i : Int) < (m : Int) := by omega
      have hi0 : (0 : Int) ≤ (i : Int) := by omega
      obtain ⟨C, hC⟩ : ∃ C, C = (wrC x.1).toArray := ⟨_, rfl⟩
      have hCs : C.size = 65 := by rw [hC]; simp [wrC_length _ hxl]
      have hC1 : C.all (·.oneCell') = true := by rw [hC]; exact all_oneCell_toArray (wrC_one _)
      have hz : (Try.prog.info? 123).map (·.size) = some (wrC x.1).length := by rw [wrC_length _ hxl]; kernel_rfl
      have hz2 : (Try.prog.info? 123).map (·.size) = some C.size := by rw [hCs]; kernel_rfl
      have hzs : zWr.size = C.size := by rw [zWr_size, hCs]
      have hzv := zWr_zero
      have HC := Lib.hid hC
      have hr : ((i : Int)).tmod 62 = ((i % 62 : Nat) : Int) := rfl
      have hb := bit_tested keep i
      obtain ⟨r, hrr⟩ : ∃ r, r = i % 62 := ⟨_, rfl⟩
      have hr62 : r < 62 := by omega
      rw [← hrr] at hr hb
      have hJ2 := HJ.out _ _ _ none hJs (World.grownBy_alloc wr (.cells C 123) none) (fun r e => by cases e)
      have HR2 := Lib.hid (hRr.out.alloc (.cells C 123))
      have hbt2 := HR2.out.bits
      have hnb : (wr.alloc (.cells C 123)).heap[wr.heap.size]? = some (.cells C 123 (0, 0)) := heap_alloc_new wr _
      have hn0 : (wr.alloc (.cells C 123)).cell? ⟨wr.heap.size, 0, none⟩ = some (.int .i64 x.1.1) := by
        rw [cell_of_row _ _ _ _ _ _ hnb, hC]; rfl
      have hn1 : (wr.alloc (.cells C 123)).rangeAt wr.heap.size 1 (x.1.2.map bv) := fun j v hv => by
        rw [cell_of_row _ _ _ _ _ _ hnb, hC, List.getElem?_toArray, wrC, show 1 + j = j + 1 by omega, List.getElem?_cons_succ]; exact hv
      have hz3 : (Try.prog.info? 104).map (·.size) = some (x.1.2.map bv).length := by rw [List.length_map, hxl]; kernel_rfl
      clear hrr hst hx hw1 hRr ex hJs hnb hC
      by_cases hbit : bitOf keep i = true
      · obtain ⟨fn, tmps, assign, body, hy, hRd⟩ := HY.out _ x _ hJ2 (Nat.lt_of_le_of_lt (pickL_le _ _ _) (by rw [List.length_take]; omega))
        simp only [encsX] at hy
        have HBIT := Lib.hid hbit
        rw [hbit] at hb
        clear hbit hJ2
        gi_wp2_with (first
          | (with_reducible refine wpListIn_load_mid .out rfl 123 (.tmp 14) rfl b (i * 65) rfl (wrC x.1) _ hrg Try.underlying123 rfl hz ?_; rw [← HC.out])
          | (with_reducible refine wpListIn_store_new .out rfl 123 (.tmp 5) (.tmp 15) rfl C zWr 123 wr rfl rfl rfl hz2 hzs hC1 ?_)
          | (refine wpListIn_load_mid_g .out (by simp [Region.wanted, yielded, Act.put]) 104 (.tmp 26) rfl wr.heap.size 1 rfl (x.1.2.map bv) _ hn1 Try.underlying104 rfl hz3 ?_))
        refine ⟨fun hx => WideF.out.free hx, hRd.mono ?_⟩
        rintro e W3 (⟨rfl, hJ3, hk3⟩ | ⟨rfl, hJx3⟩)
        · have HR3 := Lib.hid (HR2.out.keep (S := T) (w' := W3) hk3 HT.out.1 HT.out.2.1 HT.out.2.2.1 (fun k _ hk => HT.out.2.2.2 k hk))
          gi_wp2
          go_roundw
          case rel => exact ⟨i + 1, by omega, by go_num, by rw [HST.out, if_pos HBIT.out]; exact hJ3, HR3⟩
          case measure => simp [intOf]; omega
        · gi_wp2
          refine bodyPost_ret (results_none rfl _ _ _) rfl ?_
          have hx3 : Jx (pickL (bitOf keep) 0 (xs.take (i + 1))) W3 := by rw [HST.out, if_pos HBIT.out]; exact hJx3
          exact ⟨⟨_, rfl⟩, .inr ⟨_, pickL_take _ _ _, hx3⟩⟩
      · have hbf : bitOf keep i = false := by simpa using hbit
        have HBIT := Lib.hid hbf
        rw [hbf] at hb
        clear hbit hbf
        gi_wp2_with (first
          | (with_reducible refine wpListIn_load_mid .out rfl 123 (.tmp 14) rfl b (i * 65) rfl (wrC x.1) _ hrg Try.underlying123 rfl hz ?_; rw [← HC.out])
          | (with_reducible refine wpListIn_store_new .out rfl 123 (.tmp 5) (.tmp 15) rfl C zWr 123 wr rfl rfl rfl hz2 hzs hC1 ?_))
        refine ⟨fun _ h => (by cases h), ?_⟩
        gi_wp2
        go_roundw
        case rel => exact ⟨i + 1, by omega, by go_num, by rw [HST.out, if_neg (by rw [HBIT.out]; decide)]; exact hJ2, HR2⟩
        case measure => simp [intOf]; omega
    · have hkn : i = m := by omega
      have hd : decide ((i : Int) < (m : Int)) = false := by rw [decide_eq_false_iff_not]; omega
      have HJE := Lib.hid (show J (pickL (bitOf keep) 0 xs) wr by rwa [List.take_of_length_le (by rw [← HM.out]; omega)] at hJs)
      clear hkn hJs
      gi_wp2
      go_end0
      exact ⟨⟨_, rfl⟩, .inl ⟨_, rfl, HJE.out⟩⟩
theorem chosen_any (w : World) (g : Nat) (keep : Int) :
    Calls Try.prog 80 #[.pointer (some ⟨g, 0, none⟩), .int .i64 keep] w fun e w' => e = .returned (.func (.func 83) #[] #[.pointer (some ⟨w.heap.size, 0, none⟩), .pointer (some ⟨w.heap.size + 1, 0, none⟩)]) ∧ w' = (w.alloc (.cells #[.pointer (some ⟨g, 0, none⟩)] 121)).alloc (.cells #[.int .i64 keep] 3) := by
  go_enter Try.func80, Try.ntmps80
  go_wp2
  go_ret
  exact ⟨rfl, rfl⟩
theorem ItB.below {w W : World} {F : Nat → Prop} {Bp Bk g : Nat} {vw : Value} {kp : Int} {V : List Pend} (h : ItB w F Bp Bk g vw kp V) (hb : Below w.heap.size w W) : ItB W F Bp Bk g vw kp V := by
  have h1 : Bk < w.heap.size := World.block_lt_of_cell? _ _ h.bits
  exact ⟨h.it.below hb, (Fr.ofBelow hb).cell h.bits (fun h => by have h : w.heap.size ≤ Bk := h; omega)⟩
theorem chosen_stops {T F : Nat → Prop} {s : Nat} (n Bp Bk g : Nat) (keep : Int) (hkp0 : -9223372036854775808 ≤ keep) (hkp1 : keep ≤ 9223372036854775807) (xs : List (PendX s)) (vw : Value) (hn6 : xs.length ≤ 1000000) (hT1 : ¬ T Bp) (hT4 : ¬ T Bk) (hT2 : ¬ T g) (hT3 : ∀ k, F k → ¬ T k) (w : World) (hR : ItB w F Bp Bk g vw keep (valsX xs)) :
    SeqStopsK Fence.wide n Try.prog 83 #[.pointer (some ⟨Bp, 0, none⟩), .pointer (some ⟨Bk, 0, none⟩)] encsX (Fr T) (fun ys => ys = pickL (bitOf keep) 0 xs) (fun pre => pre <+: pickL (bitOf keep) 0 xs) xs.length w :=
  fun l J Jx W hW hJ hJx hY h0 => chosen1_in n l Bp Bk g keep hkp0 hkp1 xs vw hn6 hT1 hT4 hT2 hT3 _ J Jx hJ hY W (hR.below hW) h0
end Go.Proofs.Ytcbbcihfooaggaa
namespace Go.Proofs.Ytcbbcihfooaggaa
open Go.RowKit Go.ChangeShapes Go.Shelf
set_option linter.unusedVariables false
attribute [local go_sem] Oper.semAt_some
theorem ownFrom_fr {β : Type} {T : Nat → Prop} {n0 : Nat} {w0 : World} (hT : ∀ k, n0 ≤ k → T k) : OwnFrom n0 (fun (_ : β) W => Fr T w0 W) :=
  fun _ A B row h hg hr => h.grown hg (fun k e => .inl (hT k (hr k e).1))
theorem ownFrom_bytT {β : Type} {n0 g : Nat} {T : TypeId} (f : β → List UInt8) : OwnFrom n0 (fun s W => BytT W g T (f s)) :=
  fun s A B row h hg hr => (hg.block g (lt_of_block h) (fun e => by
    obtain ⟨_, o, ho, hc⟩ := hr g e.symm
    rw [show A.heap[g]? = _ from h] at ho
    cases ho
    cases hc)).trans h
theorem fr_putObj {T : Nat → Prop} (W : World) (l : Nat) (o' : Obj) (hT : T l) : Fr T W (W.putObj l o') :=
  (Fr.refl T W).grown (grownBy_putObj' W l o') (fun k e => by cases e; exact .inl hT)
theorem keepsFrom_fr {S : Nat → Prop} {n0 : Nat} {W W' : World} (h : Fr S W W') (hS : ∀ k, S k → k < n0) : KeepsFrom n0 W W' :=
  ⟨h.size, fun k o hB hk _ => h.heap hk (fun hs => by have := hS k hs; omega)⟩
theorem put_splice (L b : List UInt8) (a : Nat) (hb : b.length = 64) (q : Nat) (hq : q = a * 64) : ((L.map bv).toArray.toList.take q ++ (b.map bv).toArray.toList ++ (L.map bv).toArray.toList.drop (q + (b.map bv).toArray.size)).toArray = ((putSec L a b).map bv).toArray := by
  subst hq
  simp only [putSec, List.map_append, List.map_take, List.map_drop, List.size_toArray, List.length_map, hb, show a * 64 = 64 * a by omega]
set_option maxRecDepth 100000 in
set_option maxHeartbeats 4000000 in
theorem dSettle_in {F : Nat → Prop} {s : Nat} (w : World) (g kb : Nat) (L : List UInt8) (xs : List (PendX s)) (vw : Value) (k l : Int) (dn : Bool) (keep : Int) (hkp0 : -9223372036854775808 ≤ keep) (hkp1 : keep ≤ 9223372036854775807) (h : DvH w g kb s vw k l dn) (hL : BytT w kb 104 L) (hl : L.length = 64 * s)
    (hP : WrAt F w vw (valsX xs)) (hgF : ¬ F g) (hkF : ¬ F kb) (hne : g ≠ kb) (hs : s ≤ 8192) (hn6 : xs.length ≤ 1000000) :
    CallsIn Fence.wide 3 Try.prog 59 #[.pointer (some ⟨g, 0, none⟩), .int .i64 keep] w fun e w' => e = .returned (.tuple #[]) ∧ DvH w' g kb s (.slice none 0 0) k l dn ∧ BytT w' kb 104 (putAll L (valsX (pickL (bitOf keep) 0 xs))) ∧ Fr (fun b => b = g ∨ b = kb) w w' := by
  refine callsIn_of_wp_marks Try.func59 rfl trivial ?_ rfl
  simp only [Try.ntmps59, List.size_toArray, List.length_cons, List.length_nil, Nat.reduceAdd, Nat.reduceSub, Array.replicate_succ, Array.replicate_zero, List.push_toArray, List.append_toArray, List.nil_append, List.cons_append]
  obtain ⟨w1, hw1⟩ : ∃ w1, w1 = w.alloc (.cells #[.pointer (some ⟨g, 0, none⟩)] 43) := ⟨_, rfl⟩
  have hch := WideF.out.calls (n := 2) (chosen_any w1 g keep)
  rw [hw1] at hch
  gi_wp2_with (refine ⟨trivial, ?_⟩; gi_at_call 80; refine hch.mono ?_; rintro e w2 ⟨rfl, rfl⟩)
  obtain ⟨W0, hW0⟩ : ∃ W0, W0 = ((w.alloc (.cells #[.pointer (some ⟨g, 0, none⟩)] 43)).alloc (.cells #[.pointer (some ⟨g, 0, none⟩)] 121)).alloc (.cells #[.int .i64 keep] 3) := ⟨_, rfl⟩
  have hsz : W0.heap.size = w.heap.size + 3 := by rw [hW0]; simp
  have hf0 : Fr (fun _ => False) w W0 := by rw [hW0]; exact (((Fr.refl _ _).alloc _).alloc _).alloc _
  have hg := h.lt
  have hkb := hL.lt
  have hbd : W0.heap[w.heap.size]? = some (.cells #[.pointer (some ⟨g, 0, none⟩)] 43 (0, 0)) := by
    rw [hW0]
    exact ((Fr.refl (fun _ => False) _).alloc _).heap (heap_alloc2_old w _ _) id
  have hbp : W0.heap[w.heap.size + 1]? = some (.cells #[.pointer (some ⟨g, 0, none⟩)] 121 (0, 0)) := by
    rw [hW0]
    exact ((Fr.refl (fun _ => False) _).alloc _).heap (heap_alloc2_new w _ _) id
  have hbk : W0.heap[w.heap.size + 1 + 1]? = some (.cells #[.int .i64 keep] 3 (0, 0)) := by
    rw [hW0]
    have := heap_alloc2_new (w.alloc (.cells #[.pointer (some ⟨g, 0, none⟩)] 43)) (.cells #[.pointer (some ⟨g, 0, none⟩)] 121) (.cells #[.int .i64 keep] 3)
    simpa using this
  rw [← hW0]
  have h0 := h.keep hf0 id
  have hL0 : BytT W0 kb 104 L := hf0.heap hL id
  have hP0 : WrAt (fun b => F b ∧ b < w.heap.size) W0 vw (valsX xs) := (hP.mono (G := fun b => F b ∧ b < w.heap.size) (fun b hb hF => ⟨hF, hb⟩)).keep hf0 (fun _ _ _ h => h)
  obtain ⟨T, hT⟩ : ∃ T : Nat → Prop, T = fun b => b = kb ∨ W0.heap.size ≤ b := ⟨_, rfl⟩
  have hT0 : ∀ k, W0.heap.size ≤ k → T k := fun k hk => by rw [hT]; exact .inr hk
  have hTn : ∀ k, k ≠ kb → k < W0.heap.size → ¬ T k := fun k h1 h2 h3 => by rw [hT] at h3; rcases h3 with h3 | h3 <;> omega
  have hIt : ItB W0 (fun b => F b ∧ b < w.heap.size) (w.heap.size + 1) (w.heap.size + 1 + 1) g vw keep (valsX xs) := ⟨⟨cell_of_row _ _ _ _ _ _ hbp, h0.cells.2.2.2.1, hP0⟩, cell_of_row _ _ _ _ _ _ hbk⟩
  refine wpIn_rangeFunc_ownH rfl (by decide) (gf := 83) (lb := #[.pointer (some ⟨w.heap.size + 1, 0, none⟩), .pointer (some ⟨w.heap.size + 1 + 1, 0, none⟩)]) rfl trivial (enters_of Try.func83 (by kernel_rfl) rfl)
    (chosen_stops (T := T) 2 (w.heap.size + 1) (w.heap.size + 1 + 1) g keep hkp0 hkp1 xs vw hn6 (hTn _ (by omega) (by omega)) (hTn _ (by omega) (by omega)) (hTn _ hne (by omega)) (fun k hk => hTn k (fun e => hkF (e ▸ hk.1)) (by have := hk.2; omega)) W0 hIt)
    (fun h k => h.trans k (fun _ hi => .inl hi)) (fun W l o o' hl _ _ _ => fr_putObj W l o' (hT0 l hl)) (Below.refl _ _) (fun _ => rfl)
    (fun pre W => BytT W kb 104 (putAll L (valsX pre)) ∧ Fr T W0 W)
    (fun _ _ _ => False)
    (OwnFrom.and (ownFrom_bytT (fun pre => putAll L (valsX pre))) (ownFrom_fr hT0))
    (fun _ _ _ _ _ hs _ _ => hs)
    ⟨hL0, Fr.refl _ _⟩
    (fun x a' W => ∃ Bx, W0.heap.size ≤ Bx ∧ BytT W Bx 104 x.1.2 ∧ a' = { tmps := #[.pointer (some ⟨g, 0, none⟩), .int .i64 keep, .pointer (some ⟨w.heap.size, 0, none⟩), undef, .int .i64 x.1.1, .pointer (some ⟨Bx, 0, none⟩), .pointer (some ⟨g, 0, none⟩), .pointer (some ⟨g, 0, none⟩), .pointer (some ⟨g, 0, none⟩), .int .i64 keep, .func (.func 83) #[] #[.pointer (some ⟨w.heap.size + 1, 0, none⟩), .pointer (some ⟨w.heap.size + 1 + 1, 0, none⟩)], .int .i64 x.1.1, .agg (x.1.2.map bv).toArray, undef, undef, undef, undef, undef, undef, undef, undef, undef, undef, undef], defers := [] })
    (fun x a' s A B row hs hg hr => by
      obtain ⟨Bx, h1, h2, h3⟩ := hs
      exact ⟨Bx, h1, ownFrom_bytT (β := Unit) (fun _ => x.1.2) () A B row h2 hg hr, h3⟩)
    ?assign ?body ?done ?stop
  case assign =>
    rintro l pre x W K ⟨hi1, hi2⟩ hK
    have hzv := zSec_zero
    have hxl := x.2.2
    have hz2 : (Try.prog.info? 104).map (·.size) = some (x.1.2.map bv).toArray.size := by rw [List.size_toArray, List.length_map, hxl]; kernel_rfl
    have hzs : zSec.size = (x.1.2.map bv).toArray.size := by rw [zSec_size, List.size_toArray, List.length_map, hxl]
    have hC1 : (x.1.2.map bv).toArray.all (·.oneCell') = true := all_oneCell_toArray (bv_one _)
    obtain ⟨C, hC⟩ : ∃ C, C = (x.1.2.map bv).toArray := ⟨_, rfl⟩
    rw [← hC] at hz2 hzs hC1
    simp only [encsX]
    rw [← hC]
    have HC := Lib.hid hC
    have HK := Lib.hid hK
    clear hC
    have hsw : W0.heap.size ≤ W.heap.size := hi2.size
    clear hK
    gi_wp2_with (with_reducible refine wpListIn_store_new (.round l) rfl 104 (.tmp 5) (.tmp 12) rfl C zSec 104 W rfl rfl rfl hz2 hzs hC1 ?_)
    rw [HC.out]
    refine HK.out _ _ (keepsFrom_fr (S := fun _ => False) ((Fr.refl _ _).alloc _) (fun _ h => h.elim)) ((Fr.refl _ _).alloc _) ⟨((Fr.refl (fun _ => False) _).alloc _).heap hi1 id, hi2.alloc _⟩ ⟨W.heap.size, hsw, heap_alloc_new W _, rfl⟩
  case body =>
    rintro l pre x a' W hll ⟨r, hr⟩ ⟨hi1, hi2⟩ ⟨Bx, hBx, hbx, rfl⟩ hlt
    have hxl := x.2.2
    have hxs : (x.1.1 : Int) < (s : Int) := by have := x.2.1; omega
    have hx0 : (0 : Int) ≤ (x.1.1 : Int) := by omega
    have hsb : W.cell? ⟨w.heap.size, 0, none⟩ = some (.pointer (some ⟨g, 0, none⟩)) := cell_of_row _ _ _ _ _ _ (hi2.heap hbd (hTn _ (by omega) (by omega)))
    have hsk : W.cell? ⟨g, 4, none⟩ = some (.slice (some ⟨kb, 0, none⟩) s s) := (h0.keep hi2 (hTn _ hne (by omega))).cells.2.2.2.2.1
    have hpl := putAll_length pre L hl
    have hld : (Instr.loadAt 104 (.pointer (some ⟨Bx, 0, none⟩))).run Try.prog W.drew = .ok (.agg (x.1.2.map bv).toArray) W.drew := load_sec W.drew Bx 0 x.1.2 hxl (fun j v hv => by
      rw [Nat.zero_add]
      have hb : W.drew.heap[Bx]? = some (.cells (x.1.2.map bv).toArray 104 (0, 0)) := hbx
      rw [cell_of_row _ _ _ _ _ _ hb]
      simpa using hv)
    have hz2 : (Try.prog.info? 104).map (·.size) = some (x.1.2.map bv).toArray.size := by rw [List.size_toArray, List.length_map, hxl]; kernel_rfl
    have hfit : x.1.1 * 64 + (x.1.2.map bv).toArray.size ≤ ((putAll L (valsX pre)).map bv).toArray.size := by
      rw [List.size_toArray, List.size_toArray, List.length_map, List.length_map, hxl, hpl]
      have := x.2.1
      omega
    have hC1 : (x.1.2.map bv).toArray.all (·.oneCell') = true := all_oneCell_toArray (bv_one _)
    have hi3 : W.drew.heap[kb]? = some (.cells ((putAll L (valsX pre)).map bv).toArray 104 (0, 0)) := hi1
    gi_wp2
    refine wpIn_still_tail 7 (.round l) (by kernel_rfl) (by kernel_rfl) (by kernel_rfl) ?_
    simp only [List.take_succ_cons, List.take_zero, List.drop_succ_cons, List.drop_zero]
    iterate 5 still_step
    refine still_value rfl _ (op_load_ rfl rfl hld) ?_
    still_step
    refine wpStill_nil ?_
    go_simp
    refine wpListIn_store_at (.round l) rfl 104 (.tmp 19) (.tmp 18) rfl kb (x.1.1 * 64) _ _ 104 rfl rfl hi3 hz2 hfit hC1 ?_
    rw [put_splice _ _ x.1.1 hxl _ rfl]
    obtain ⟨W2, hW2⟩ : ∃ W2, W2 = W.drew.setRow kb (List.map bv (putSec (putAll L (valsX pre)) x.1.1 x.1.2)).toArray := ⟨_, rfl⟩
    have hf2 : Fr (· = kb) W W2 := by rw [hW2]; exact Fr.ofDrew ((Fr.refl (· = kb) W.drew).setRow (.inl rfl) _)
    have hb2 : BytT W2 kb 104 (putAll L (valsX (pre ++ [x]))) := by
      rw [hW2, show valsX (pre ++ [x]) = valsX pre ++ [x.1] by simp [valsX], putAll_snoc]
      exact setRow_heap _ _ _ _ _ (0, 0) hi3
    rw [← hW2]
    clear hW2
    gi_wp2
    exact ⟨keepsFrom_fr hf2 (fun k e => by omega), hf2.mono (fun k _ e => by rw [hT]; exact .inl e), hb2, hi2.trans hf2 (fun k e => .inl (by rw [hT]; exact .inl e))⟩
  case done =>
    rintro D ys W hD rfl ⟨hi1, hi2⟩ hK
    have hsb : W.cell? ⟨w.heap.size, 0, none⟩ = some (.pointer (some ⟨g, 0, none⟩)) := cell_of_row _ _ _ _ _ _ (hi2.heap hbd (hTn _ (by omega) (by omega)))
    have hd0 := h0.keep hi2 (hTn _ hne (by omega))
    have hc3 := hd0.cells.2.2.2.1
    have hf3 := hd0.free 3
    have HD := Lib.hid hd0
    have HI := Lib.hid (And.intro hi1 hi2)
    have HTE := Lib.hid hT
    clear hd0 hi1 hi2 hT
    gi_wp2
    have hK' := (KeepsOthers.setCell W ⟨g, 3, none⟩ (.slice none 0 0)).same D _ hK rfl
    refine ⟨by simp, .inl ⟨_, _, rfl, run_takeDeferred hK', ?_⟩⟩
    have hfw : Fr (fun b => b = g ∨ b = kb ∨ W0.heap.size ≤ b) W0 ((W.setCell ⟨g, 3, none⟩ (.slice none 0 0)).putObj D (.deferred none)) :=
      ((HI.out.2.mono (T := fun b => b = g ∨ b = kb ∨ W0.heap.size ≤ b) (fun k _ e => by rw [HTE.out] at e; exact .inr e)).trans (Fr.cell1 W g 3 _) (fun k e => .inl (.inl e))).trans (fr_putObj (T := fun b => W0.heap.size ≤ b) _ D _ hD) (fun k e => .inl (.inr (.inr e)))
    have hfd := fr_putObj (T := (· = D)) (W.setCell ⟨g, 3, none⟩ (.slice none 0 0)) D (.deferred none) rfl
    refine ⟨_, results_none rfl _ _ _, rfl, (HD.out.put3 _).keep hfd (fun e => by omega), hfd.heap ((Fr.cell1 W g 3 _).heap HI.out.1 (fun e => hne e.symm)) (fun e => by omega), ?_⟩
    exact (hf0.mono (T := fun b => b = g ∨ b = kb) (fun _ _ h => h.elim)).trans hfw (fun i hi => by
      rcases hi with h | h | h
      · exact .inl (.inl h)
      · exact .inl (.inr h)
      · exact .inr (by omega))
  case stop =>
    rintro D c pre W _ _ h _
    exact h.elim
end Go.Proofs.Ytcbbcihfooaggaa
