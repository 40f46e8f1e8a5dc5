/- Laid together: DMem DLatest RDev1 RDev2 RDev3 RDev4 -/
import Derived.Test.YtldgcoikbjbjeaaGreatTk3
import Derived.Laws.CopyRow
import Derived.Test.YtldgcoikbjbjeaaGreatTk0
import Derived.Test.YtldgcoikbjbjeaaGreatTk2
import Derived.Deep.RegionLawGrows
import Derived.Deep.MidRow

namespace Go.Proofs.YtldgcoikbjbjeaaGreat
open Go.RowKit Go.ChangeShapes
set_option linter.unusedVariables false
theorem op_load_ {P : Program} {w : World} {o : Oper} {a : Act} {t : TypeId} {x : Operand} {vx v : Value} (ho : o.op = .load t x) (hx : a.eval x = vx) (hr : (Instr.loadAt t vx).run P w = .ok v w) : (execOp a.eval o).run P w = .ok (.value v) w := by
  unfold execOp
  rw [ho]
  simp only [hx, Sem.run_bind, hr, Result.andThen_ok]
  rfl
theorem run_store_at {P : Program} (w : World) (ty : TypeId) (g o : Nat) (cells cur : Array Value) (t : TypeId) (hg : w.heap[g]? = some (.cells cur t (0, 0))) (hi : (P.info? ty).map (·.size) = some cells.size) (hfit : o + cells.size ≤ cur.size) (h1 : cells.all (·.oneCell') = true) :
    (Instr.storeAt ty (.pointer (some ⟨g, o, none⟩)) (.agg cells)).run P w = .ok () (w.setRow g (cur.toList.take o ++ cells.toList ++ cur.toList.drop (o + cells.size)).toArray) := by
  have hst := run_storeCells_at P g o t cells.toList 0 cur w hg (by simpa using hfit) (fun v hv => (Array.all_eq_true_iff_forall_mem.1 h1) v (by simpa using hv))
  cases hq : P.info? ty with
  | none => simp [hq] at hi
  | some i =>
    have hs : cells.size = i.size := by simp [hq] at hi; omega
    simp only [Nat.add_zero, Array.length_toList] at hst
    simp only [Instr.storeAt, Instr.sureAddr, Sem.run_bind, Sem.run_pure, Result.andThen_ok]
    simp [storeVar, sizeOf, typeInfo, hq, Value.cells, hs]
    rw [hs] at hst
    simpa using hst
theorem alloc_setRow (w : World) (old new : Array Value) (t : TypeId) : (w.alloc (.cells old t)).setRow w.heap.size new = w.alloc (.cells new t) := by
  show ({ w with heap := (w.heap.push (.cells old t)).modify w.heap.size _ } : World) = { w with heap := w.heap.push (.cells new t) }
  congr 1
  apply Array.ext
  · simp
  · intro i h1 h2
    rw [Array.getElem_modify]
    split
    · next h => subst h; simp
    · next h =>
      have : i < w.heap.size := by simp at h1; omega
      simp [Array.getElem_push, this]
section
variable {F : Fence} {n : Nat} {P : Program} {ops : Array Oper} {Q : Exit → Act → World → Prop} {rest : List Oper} {o : Oper} {a : Act} {w : World}
theorem wpListIn_value_g (hF : WideF F) (hw : Region.wanted o (yielded ops a.tmps) = true) (hd : ∀ c, o.op ≠ .defer c) (v : Value) (w' : World) (h : (execOp a.eval o).run P w = .ok (.value v) w') (hK : wpListIn F n P ops Q rest (a.put o.dst v) w') : wpListIn F n P ops Q (o :: rest) a w :=
  wpListIn_step fun _ hK' => by
    rw [if_pos hw]
    exact wpIn_value hF hd v h (hK' _ _ hK)
theorem wpListIn_load_mid (hF : WideF F) (hgd : o.guard = none) (ty : TypeId) (x : Operand) (ho : o.op = .load ty x)
    (b q : Nat) (hx : a.eval x = .pointer (some ⟨b, q, none⟩)) (cs : List Value) (d : TypeDesc) (hc : w.rangeAt b q cs)
    (hu : P.underlying ty = some d) (hd : d.isRow = true) (hi : (P.info? ty).map (·.size) = some cs.length)
    (h : wpListIn F n P ops Q rest (a.put o.dst (.agg cs.toArray)) w) : wpListIn F n P ops Q (o :: rest) a w :=
  wpListIn_value hF hgd (by rw [ho]; intro c h; cases h) _ w (op_load_ ho hx (run_loadAt_mid w b q ty cs d hc hu hd hi)) h
theorem wpListIn_load_mid_g (hF : WideF F) (hw : Region.wanted o (yielded ops a.tmps) = true) (ty : TypeId) (x : Operand) (ho : o.op = .load ty x)
    (b q : Nat) (hx : a.eval x = .pointer (some ⟨b, q, none⟩)) (cs : List Value) (d : TypeDesc) (hc : w.rangeAt b q cs)
    (hu : P.underlying ty = some d) (hd : d.isRow = true) (hi : (P.info? ty).map (·.size) = some cs.length)
    (h : wpListIn F n P ops Q rest (a.put o.dst (.agg cs.toArray)) w) : wpListIn F n P ops Q (o :: rest) a w :=
  wpListIn_value_g hF hw (by rw [ho]; intro c h; cases h) _ w (op_load_ ho hx (run_loadAt_mid w b q ty cs d hc hu hd hi)) h
theorem wpListIn_store_at (hF : WideF F) (hgd : o.guard = none) (ty : TypeId) (x y : Operand) (ho : o.op = .store ty x y)
    (g q : Nat) (cells cur : Array Value) (t : TypeId) (hx : a.eval x = .pointer (some ⟨g, q, none⟩)) (hy : a.eval y = .agg cells)
    (hg : w.heap[g]? = some (.cells cur t (0, 0))) (hi : (P.info? ty).map (·.size) = some cells.size) (hfit : q + cells.size ≤ cur.size) (h1 : cells.all (·.oneCell') = true)
    (h : wpListIn F n P ops Q rest (a.put o.dst undef) (w.setRow g (cur.toList.take q ++ cells.toList ++ cur.toList.drop (q + cells.size)).toArray)) : wpListIn F n P ops Q (o :: rest) a w :=
  wpListIn_plain hgd fun _ hK => by
    refine ⟨fun f _ => hF.fn f, ?_⟩
    rw [Oper.semAt_plain F _ _ (by rw [ho]; intro c h; cases h)]
    unfold execOp
    simp only [ho, hx, hy, Sem.run_bind, run_store_at w ty g q cells cur t hg hi hfit h1, Result.andThen_ok]
    exact hK _ _ h
theorem wpListIn_store_new (hF : WideF F) (hgd : o.guard = none) (ty : TypeId) (x y : Operand) (ho : o.op = .store ty x y)
    (cells cur : Array Value) (t : TypeId) (w0 : World) (hw : w = w0.alloc (.cells cur t)) (hx : a.eval x = .pointer (some ⟨w0.heap.size, 0, none⟩)) (hy : a.eval y = .agg cells)
    (hi : (P.info? ty).map (·.size) = some cells.size) (hs : cur.size = cells.size) (h1 : cells.all (·.oneCell') = true)
    (h : wpListIn F n P ops Q rest (a.put o.dst undef) (w0.alloc (.cells cells t))) : wpListIn F n P ops Q (o :: rest) a w := by
  subst hw
  refine wpListIn_store_at hF hgd ty x y ho w0.heap.size 0 cells cur t hx hy (heap_alloc_new w0 _) hi (by omega) h1 ?_
  rw [alloc_setRow]
  have e : (cur.toList.take 0 ++ cells.toList ++ cur.toList.drop (0 + cells.size)).toArray = cells := by
    rw [List.take_zero, List.nil_append, List.drop_eq_nil_of_le (by simp; omega), List.append_nil]
  rw [e]
  exact h
end
section
variable {P : Program} {ops : Array Oper} {Q : Exit → Act → World → Prop} {rest : List Oper} {o : Oper} {a : Act} {w : World}
theorem wpList_store_at (hgd : o.guard = none) (ty : TypeId) (x y : Operand) (ho : o.op = .store ty x y)
    (g q : Nat) (cells cur : Array Value) (t : TypeId) (hx : a.eval x = .pointer (some ⟨g, q, none⟩)) (hy : a.eval y = .agg cells)
    (hg : w.heap[g]? = some (.cells cur t (0, 0))) (hi : (P.info? ty).map (·.size) = some cells.size) (hfit : q + cells.size ≤ cur.size) (h1 : cells.all (·.oneCell') = true)
    (h : wpList P ops Q rest (a.put o.dst undef) (w.setRow g (cur.toList.take q ++ cells.toList ++ cur.toList.drop (q + cells.size)).toArray)) : wpList P ops Q (o :: rest) a w :=
  wpList_plain hgd fun _ hK => by
    unfold Oper.wp execOp
    simp only [ho, hx, hy, Sem.run_bind, run_store_at w ty g q cells cur t hg hi hfit h1, Result.andThen_ok]
    exact hK _ _ h
theorem wpList_store_new (hgd : o.guard = none) (ty : TypeId) (x y : Operand) (ho : o.op = .store ty x y)
    (cells cur : Array Value) (t : TypeId) (w0 : World) (hw : w = w0.alloc (.cells cur t)) (hx : a.eval x = .pointer (some ⟨w0.heap.size, 0, none⟩)) (hy : a.eval y = .agg cells)
    (hi : (P.info? ty).map (·.size) = some cells.size) (hs : cur.size = cells.size) (h1 : cells.all (·.oneCell') = true)
    (h : wpList P ops Q rest (a.put o.dst undef) (w0.alloc (.cells cells t))) : wpList P ops Q (o :: rest) a w := by
  subst hw
  refine wpList_store_at hgd ty x y ho w0.heap.size 0 cells cur t hx hy (heap_alloc_new w0 _) hi (by omega) h1 ?_
  rw [alloc_setRow]
  have e : (cur.toList.take 0 ++ cells.toList ++ cur.toList.drop (0 + cells.size)).toArray = cells := by
    rw [List.take_zero, List.nil_append, List.drop_eq_nil_of_le (by simp; omega), List.append_nil]
  rw [e]
  exact h
end
def zWr : Array Value := (wrC (0, List.replicate 64 0)).toArray
theorem zWr_zero (w : World) : (zeroValue 176).run Tryz.prog w = .ok (.agg zWr) w := by kernel_rfl
theorem zWr_size : zWr.size = 65 := by kernel_rfl
def zSec : Array Value := ((List.replicate 64 (0 : UInt8)).map bv).toArray
theorem zSec_zero (w : World) : (zeroValue 140).run Tryz.prog w = .ok (.agg zSec) w := by kernel_rfl
theorem zSec_size : zSec.size = 64 := by kernel_rfl
end Go.Proofs.YtldgcoikbjbjeaaGreat
namespace Go.Proofs.YtldgcoikbjbjeaaGreat
open Go.RowKit Go.ChangeShapes
set_option linter.unusedVariables false
attribute [local go_sem] Oper.semAt_some
theorem load_sec (w : World) (b o : Nat) (x : List UInt8) (hx : x.length = 64) (h : w.rangeAt b o (x.map bv)) : (Instr.loadAt 140 (.pointer (some ⟨b, o, none⟩))).run Tryz.prog w = .ok (.agg (x.map bv).toArray) w :=
  run_loadAt_mid w b o 140 (x.map bv) _ h Tryz.underlying140 rfl (by rw [List.length_map, hx]; kernel_rfl)
theorem wrC_bytes {w : World} {b o : Nat} {p : Pend} (h : w.rangeAt b o (wrC p)) : w.cell? ⟨b, o, none⟩ = some (.int .i64 p.1) ∧ w.rangeAt b (o + 1) (p.2.map bv) := by
  refine ⟨h 0 _ rfl, fun j v hv => ?_⟩
  have := h (j + 1) v (by rw [wrC, List.getElem?_cons_succ]; exact hv)
  rwa [show o + (j + 1) = o + 1 + j by omega] at this
theorem rev_take {α : Type} (xs : List α) (r : Nat) (hr : r < xs.length) : xs.reverse.take (xs.length - r) = xs.reverse.take (xs.length - (r + 1)) ++ [xs[r]] := by
  have e : xs.length - r = xs.length - (r + 1) + 1 := by omega
  have h2 : xs.length - (r + 1) < xs.reverse.length := by simp; omega
  rw [e, List.take_succ_eq_append_getElem h2, List.getElem_reverse]
  congr 3
  omega
set_option maxRecDepth 100000 in
set_option maxHeartbeats 4000000 in
theorem latest1_in {T F : Nat → Prop} {s : Nat} (n : Nat) (l Bp g : Nat) (xs : List (PendX s)) (vw : Value) (hn6 : xs.length ≤ 1000000) (hT1 : ¬ T Bp) (hT2 : ¬ T g) (hT3 : ∀ k, F k → ¬ T k) (B0 : Nat) (J Jx : List (PendX s) → World → Prop) (hJ : AbidesFrom B0 J)
    (hY : ∀ pre x W, J pre W → pre.length < xs.length → YieldAt Fence.wide (n - 1) Tryz.prog l (encsX x) W fun e W' =>
      (e = .returned (.bool true) ∧ J (pre ++ [x]) W' ∧ Fr T W W') ∨ (e = .returned (.bool false) ∧ Jx (pre ++ [x]) W'))
    (W : World) (hR : ItR W F Bp g vw (valsX xs)) (h0 : J [] W) :
    CallsIn Fence.wide n Tryz.prog 160 #[.func (.yield l) #[] #[], .pointer (some ⟨Bp, 0, none⟩)] W fun e W' => (∃ v, e = .returned v) ∧
      ((∃ ys, ys = xs.reverse ∧ J ys W') ∨ (∃ pre, pre <+: xs.reverse ∧ Jx pre W')) := by
  obtain ⟨ao, cap, hvf, hc1, hc2⟩ := hR.wr.form
  have hvl : (valsX xs).length = xs.length := by simp [valsX]
  obtain ⟨m, hm⟩ : ∃ m, m = xs.length := ⟨_, rfl⟩
  rw [hvl, ← hm] at hvf
  subst hvf
  rw [← hm] at hn6
  obtain ⟨hbx, hhd, _⟩ := id hR
  have HR := Lib.hid hR
  have HM := Lib.hid hm
  have HY := Lib.hid hY
  have HJ := Lib.hid hJ
  have HT := Lib.hid (And.intro hT1 (And.intro hT2 hT3))
  have HL := Lib.hid (valsX_len xs)
  have e1 : IntKind.i64.wrap ((m : Int) - 1) = (m : Int) - 1 := by
    simp [IntKind.wrap, IntKind.bits, IntKind.signed]
    omega
  clear hR hm hY hJ hT1 hT2 hT3 hvl hc1 hc2
  refine callsIn_of_wp Tryz.func160 rfl trivial ?_ rfl
  simp only [Tryz.ntmps160, List.size_toArray, List.length_cons, List.length_nil, Nat.reduceAdd, Nat.reduceSub, Array.replicate_succ, Array.replicate_zero, List.push_toArray, List.append_toArray, List.nil_append, List.cons_append]
  gi_wp2
  gi_loopw [3] (fun iv wr => ∃ j : Nat, j ≤ m ∧ iv = .int .i64 ((j : Int) - 1) ∧ J (xs.reverse.take (m - j)) wr ∧ Hid (ItR wr F Bp g (.slice ao m cap) (valsX xs)))
    (fun iv _ => (intOf iv + 1).toNat)
  case atStart => exact ⟨m, by omega, rfl, by rw [Nat.sub_self]; exact h0, HR⟩
  case round =>
    obtain ⟨j, hj, rfl, hJs, hRr⟩ := hrel
    cases j with
    | zero =>
      gi_wp2
      go_end0
      exact ⟨⟨_, rfl⟩, .inl ⟨_, rfl, by rwa [List.take_of_length_le (by rw [List.length_reverse, HM.out]; omega)] at hJs⟩⟩
    | succ r =>
      have er : ((r + 1 : Nat) : Int) - 1 = (r : Int) := by omega
      rw [er]
      have hrx : r < xs.length := by rw [← HM.out]; omega
      obtain ⟨hb1, hh1, hw1⟩ := hRr.out
      obtain ⟨b, rfl, hFb, hrg⟩ := hw1.elem HL.out r (by simpa [valsX] using hrx)
      have ex : (valsX xs)[r]'(by simpa [valsX] using hrx) = xs[r].1 := by simp [valsX]
      rw [ex] at hrg
      obtain ⟨hat, hto⟩ := wrC_bytes hrg
      have hJd : J (xs.reverse.take (m - (r + 1))) wr.drew := HJ.out _ _ _ none hJs (grownBy_drew wr) (fun r e => by cases e)
      obtain ⟨fn, tmps, assign, body, hy, hRd⟩ := HY.out _ xs[r] wr.drew hJd (by simp [HM.out]; omega)
      have hre := rev_take xs r hrx
      rw [← HM.out] at hre
      obtain ⟨x, hx⟩ : ∃ x, x = xs[r] := ⟨_, rfl⟩
      rw [← hx] at hat hto hy hRd hre
      simp only [encsX] at hy
      have hxl := x.2.2
      have hld := load_sec wr.drew b (r * 65 + 1) x.1.2 hxl hto
      have HRE := Lib.hid hre
      have hrm : (r : Int) < (m : Int) := by omega
      have hr0 : (0 : Int) ≤ (r : Int) := by omega
      clear hre hx hrg hto hw1 hJd ex hJs hrx
      gi_wp2
      refine wpIn_still_tail 17 .out (by kernel_rfl) (by kernel_rfl) (by kernel_rfl) ?_
      simp only [List.take_succ_cons, List.take_zero, List.drop_succ_cons, List.drop_zero]
      iterate 16 still_step
      refine still_value rfl _ (op_load_ rfl rfl hld) ?_
      refine wpStill_nil ?_
      go_simp
      gi_wp2
      refine ⟨fun hx => WideF.out.free hx, hRd.mono ?_⟩
      rintro e W3 (⟨rfl, hJ3, hk3⟩ | ⟨rfl, hJx3⟩)
      · have HR3 := Lib.hid (hRr.out.keep (S := T) (w' := W3) (Fr.ofDrew hk3) HT.out.1 HT.out.2.1 (fun k _ hk => HT.out.2.2 k hk))
        gi_wp2
        go_roundw
        case rel => exact ⟨r, by omega, rfl, by rw [HRE.out]; exact hJ3, HR3⟩
        case measure => simp [intOf]
      · gi_wp2
        refine bodyPost_ret (results_none rfl _ _ _) rfl ?_
        exact ⟨⟨_, rfl⟩, .inr ⟨_, List.take_prefix _ _, by rw [HRE.out]; exact hJx3⟩⟩
theorem latest_any (w : World) (g : Nat) :
    Calls Tryz.prog 128 #[.pointer (some ⟨g, 0, none⟩)] w fun e w' => e = .returned (.func (.func 160) #[] #[.pointer (some ⟨w.heap.size, 0, none⟩)]) ∧ w' = w.alloc (.cells #[.pointer (some ⟨g, 0, none⟩)] 173) := by
  go_enter Tryz.func128, Tryz.ntmps128
  go_wp2
  go_ret
  exact ⟨rfl, rfl⟩
theorem ItR.below {w W : World} {F : Nat → Prop} {Bp g : Nat} {vw : Value} {V : List Pend} (h : ItR w F Bp g vw V) (hb : Below w.heap.size w W) : ItR W F Bp g vw V := by
  have h1 := World.block_lt_of_cell? _ _ h.box
  have h2 := World.block_lt_of_cell? _ _ h.head
  exact h.keep (Fr.ofBelow hb) (fun h => by simp only at h1; omega) (fun h => by simp only at h2; omega) (fun k hk _ h => by omega)
theorem latest_stops {T F : Nat → Prop} {s : Nat} (n Bp g : Nat) (xs : List (PendX s)) (vw : Value) (hn6 : xs.length ≤ 1000000) (hT1 : ¬ T Bp) (hT2 : ¬ T g) (hT3 : ∀ k, F k → ¬ T k) (w : World) (hR : ItR w F Bp g vw (valsX xs)) :
    SeqStopsK Fence.wide n Tryz.prog 160 #[.pointer (some ⟨Bp, 0, none⟩)] encsX (Fr T) (fun ys => ys = xs.reverse) (fun pre => pre <+: xs.reverse) xs.length w :=
  fun l J Jx W hW hJ hJx hY h0 => latest1_in n l Bp g xs vw hn6 hT1 hT2 hT3 _ J Jx hJ hY W (hR.below hW) h0
end Go.Proofs.YtldgcoikbjbjeaaGreat
namespace Go.Proofs.YtldgcoikbjbjeaaGreat
open Go.RowKit Go.ChangeShapes
set_option linter.unusedVariables false
theorem rNew_yes (w : World) (s : Nat) (h1 : 1 ≤ s) (h2 : s ≤ 8192) :
    Calls Tryz.prog 46 #[.int .i64 s] w fun e w' => ∃ g ga, e = .returned (.tuple #[.pointer (some ⟨g, 0, none⟩), .int .i64 0]) ∧ w.heap.size ≤ g ∧ w.heap.size ≤ ga ∧ g ≠ ga ∧ DevH w' g (.slice (some ⟨ga, 0, none⟩) (64 * s) (64 * s)) (.slice none 0 0) 0 0 false ∧ BytT w' ga 5 (List.replicate (64 * s) 0) ∧ Fr (fun _ => False) w w' := by
  obtain ⟨m, hm⟩ : ∃ m : Nat, m = 64 * s := ⟨_, rfl⟩
  have hmk := fun W => run_make_bytes W (m : Int) m rfl (by omega)
  rw [← hm]
  have e1 : (s : Int) * 64 = (m : Int) := by omega
  have h3 : decide ((s : Int) < 1) = false := by rw [decide_eq_false_iff_not]; omega
  have h4 : decide (8192 < (s : Int)) = false := by rw [decide_eq_false_iff_not]; omega
  obtain ⟨Z, hZ⟩ : ∃ Z, Z = ((List.replicate m (0 : UInt8)).map bv).toArray := ⟨_, rfl⟩
  rw [← hZ] at hmk
  have HZ := Lib.hid hZ
  clear hZ hm
  go_enter Tryz.func46, Tryz.ntmps46
  go_wp2
  go_ret2
  refine ⟨w.heap.size + 1, w.heap.size, rfl, by omega, Nat.le_refl _, by omega, ?_, ?_, ((Fr.refl _ _).alloc _).alloc _⟩
  · exact heap_alloc2_new w _ _
  · rw [HZ.out]; exact heap_alloc2_old w _ _
end Go.Proofs.YtldgcoikbjbjeaaGreat
namespace Go.Proofs.YtldgcoikbjbjeaaGreat
open Go.RowKit Go.ChangeShapes
set_option linter.unusedVariables false
theorem step_copy_sec {ops : Array Oper} {o : Oper} {a : Act} {w : World} {K : Act → World → Prop} {Q : Exit → Act → World → Prop} {E : Prop}
    (hgd : o.guard = none) (d s : Operand) (ho : o.op = .call { callee := .builtin .copy, args := #[d, s], argTypes := #[43, 43] })
    (ga gb q m : Nat) (L b : List UInt8) (hd : a.eval d = .slice (some ⟨ga, q, none⟩) (m - q) (m - q)) (hx : a.eval s = .slice (some ⟨gb, 0, none⟩) 64 64)
    (hL : BytT w ga 5 L) (hb : BytT w gb 5 b) (hm : L.length = m) (hq : q + 64 ≤ m) (hbl : b.length = 64) (C : Array Value) (hC : C = ((L.take q ++ b ++ L.drop (q + 64)).map bv).toArray)
    (hK : ∀ v, K (a.put o.dst v) (w.setRow ga C)) :
    if Region.wanted o (yielded ops a.tmps) = true then Oper.wp Tryz.prog o a w K Q else E := by
  have hw : Region.wanted o (yielded ops a.tmps) = true := by simp [Region.wanted, hgd]
  rw [if_pos hw]
  have hr := run_copy_row (P := Tryz.prog) w 43 43 o.type 5 ga q (m - q) (m - q) ⟨gb, 0, none⟩ 64 64 (L.map bv).toArray 5 (b.map bv) Tryz.underlying43 (by kernel_rfl) hL (by rw [List.length_map, hbl]; exact (Nat.min_eq_left (by omega)).symm)
    (fun j v hv => by
      rw [addr_plain, Nat.zero_add, cell_of_row _ _ _ _ _ _ hb]
      simpa using hv) (by rw [List.length_map, hbl, List.size_toArray, List.length_map, hm]; exact hq) (bv_one _)
  have e : ((L.map bv).toArray.toList.take q ++ b.map bv ++ (L.map bv).toArray.toList.drop (q + (b.map bv).length)).toArray = ((L.take q ++ b ++ L.drop (q + 64)).map bv).toArray := by
    simp [hbl]
  rw [e, ← hC] at hr
  unfold Oper.wp execOp
  simp only [ho, resolve, invoke, builtin, Sem.run_bind, Sem.run_pure, Result.andThen_ok, List.map_toArray, List.map_cons, List.map_nil, hd, hx, hr]
  exact hK _
theorem rkeep_any (w : World) (g ga gb s a : Nat) (L b : List UInt8) (vw : Value) (k l : Int) (dn : Bool) (h : DevH w g (.slice (some ⟨ga, 0, none⟩) (64 * s) (64 * s)) vw k l dn) (hL : BytT w ga 5 L) (hl : L.length = 64 * s) (hb : BytT w gb 5 b) (hbl : b.length = 64) (ha : a < s) (hs : s ≤ 8192) :
    Calls Tryz.prog 146 #[.pointer (some ⟨g, 0, none⟩), .agg #[.int .i64 a, .slice (some ⟨gb, 0, none⟩) 64 64]] w fun e w' => e = .returned (.tuple #[]) ∧ BytT w' ga 5 (putSec L a b) ∧ Fr (· = ga) w w' := by
  obtain ⟨m, hm⟩ : ∃ m : Nat, m = 64 * s := ⟨_, rfl⟩
  obtain ⟨q, hq⟩ : ∃ q : Nat, q = 64 * a := ⟨_, rfl⟩
  have hqm : q + 64 ≤ m := by omega
  have e1 : (a : Int) * 64 = (q : Int) := by omega
  have hput : putSec L a b = L.take q ++ b ++ L.drop (q + 64) := by rw [putSec, hq]
  rw [hput]
  rw [← hm] at h hl
  have hm6 : m ≤ 524288 := by omega
  have hcut := fun W => run_cutLow W (some ⟨ga, 0, none⟩) m m q (by omega)
  have ec : cutLow (some ⟨ga, 0, none⟩) q m = some ⟨ga, q, none⟩ := by
    rw [cutLow, if_neg (by omega)]
    simp [Addr.add]
    omega
  rw [ec] at hcut
  have hwr : IntKind.i64.wrap (q : Int) = (q : Int) := by
    simp [IntKind.wrap, IntKind.bits, IntKind.signed]
    omega
  have hq0 : (0 : Int) ≤ (q : Int) := by omega
  have hq1 : (q : Int) ≤ (m : Int) := by omega
  have hne : ¬ m = q := by omega
  obtain ⟨W, hW⟩ : ∃ W, W = w.alloc (.cells #[.int .i64 a, .slice (some ⟨gb, 0, none⟩) 64 64] 205) := ⟨_, rfl⟩
  have hF : Fr (fun _ => False) w W := by rw [hW]; exact (Fr.refl _ _).alloc _
  have hbx : W.heap[w.heap.size]? = some (.cells #[.int .i64 a, .slice (some ⟨gb, 0, none⟩) 64 64] 205 (0, 0)) := by rw [hW]; exact heap_alloc_new w _
  have c0 : W.cell? ⟨w.heap.size, 0, none⟩ = some (.int .i64 a) := cell_of_row _ _ _ _ _ _ hbx
  have c1 : W.cell? ⟨w.heap.size, 1, none⟩ = some (.slice (some ⟨gb, 0, none⟩) 64 64) := cell_of_row _ _ _ _ _ _ hbx
  obtain ⟨d0, _⟩ := (h.keep hF (fun h => h)).cells
  have HL := Lib.hid (show BytT W ga 5 L from hF.heap hL (fun h => h))
  have HB := Lib.hid (show BytT W gb 5 b from hF.heap hb (fun h => h))
  have HF := Lib.hid hF
  have HWL := Lib.hid hW
  obtain ⟨C, hC⟩ : ∃ C, C = ((L.take q ++ b ++ L.drop (q + 64)).map bv).toArray := ⟨_, rfl⟩
  have HC := Lib.hid hC
  clear h hL hb hF hbx ec hput hW hm hq hC
  go_enter Tryz.func146, Tryz.ntmps146
  go_wp2_with fail
  rw [← HWL.out]
  generalize w.heap.size = gx at *
  go_region_law (refine step_copy_sec rfl (.tmp 11) (.tmp 13) rfl ga gb q m L b (by simp [Act.eval, Act.put]) (by simp [Act.eval, Act.put]) HL.out HB.out hl hqm hbl C HC.out ?_; intro v2)
  all_goals (
    go_wp2
    refine bodyPost_end (results_none rfl _ _ _) rfl ?_
    refine ⟨rfl, ?_, ?_⟩
    · rw [BytT, ← HC.out]; exact setRow_heap _ _ _ _ _ (0, 0) (show _ from HL.out)
    · exact (HF.out.mono (T := (· = ga)) (fun _ _ h => h.elim)).drew.setRow (.inl rfl) _)
end Go.Proofs.YtldgcoikbjbjeaaGreat
namespace Go.Proofs.YtldgcoikbjbjeaaGreat
open Go.RowKit Go.ChangeShapes
set_option linter.unusedVariables false
def pendC (p : Pend) (g : Nat) : List Value := [.int .i64 p.1, .slice (some ⟨g, 0, none⟩) 64 64]
def flatW : List Pend → List Nat → List Value
  | p :: W, g :: gs => pendC p g ++ flatW W gs
  | _, _ => []
theorem flatW_get : ∀ (W : List Pend) (gs : List Nat) (i j : Nat) (h : i < W.length) (h2 : i < gs.length) (hj : j < 2), (flatW W gs)[i * 2 + j]? = (pendC W[i] gs[i])[j]?
  | [], _, i, j, h, _, _ => by simp at h
  | p :: W, [], i, j, _, h2, _ => by simp at h2
  | p :: W, g :: gs, 0, j, _, _, hj => by
    rw [flatW, Nat.zero_mul, Nat.zero_add, List.getElem?_append_left (by simpa [pendC] using hj)]
    rfl
  | p :: W, g :: gs, i + 1, j, h, h2, hj => by
    rw [flatW, List.getElem?_append_right (by simp [pendC]; omega), show (pendC p g).length = 2 from rfl, show (i + 1) * 2 + j - 2 = i * 2 + j by omega]
    exact flatW_get W gs i j (by simpa using h) (by simpa using h2) hj
def PendAt (F : Nat → Prop) (w : World) (v : Value) (W : List Pend) : Prop :=
  ∃ gs : List Nat, gs.length = W.length ∧ w.ownsRow 0 205 2 v W.length (flatW W gs) ∧ (∀ g, v.ownBlock = some g → F g) ∧ ∀ i (h : i < W.length) (h2 : i < gs.length), BytT w gs[i] 5 W[i].2 ∧ F gs[i]
theorem PendAt.nil (F : Nat → Prop) (w : World) : PendAt F w (.slice none 0 0) [] := ⟨[], rfl, World.ownsRow_nil _ _ _ _, (fun g h => by simp [Value.ownBlock] at h), fun i h => by simp at h⟩
theorem PendAt.keep {F S : Nat → Prop} {w w' : World} {v : Value} {W : List Pend} (h : PendAt F w v W) (hf : Fr S w w') (hd : ∀ k, k < w.heap.size → F k → ¬ S k) : PendAt F w' v W := by
  obtain ⟨gs, h1, h2, h3, h4⟩ := h
  refine ⟨gs, h1, ⟨h2.1, ?_⟩, h3, fun i hi hi2 => ⟨hf.heap (h4 i hi hi2).1 (hd _ (lt_of_block (h4 i hi hi2).1) (h4 i hi hi2).2), (h4 i hi hi2).2⟩⟩
  rcases h2.2 with e | ⟨g, cap, cur, hv, hb, hg, r⟩
  · exact .inl e
  · exact .inr ⟨g, cap, cur, hv, hb, hf.heap hg (hd g (lt_of_block hg) (h3 g (by rw [hv]; rfl))), r⟩
theorem PendAt.form {F : Nat → Prop} {w : World} {v : Value} {W : List Pend} (h : PendAt F w v W) : ∃ ao cap, v = .slice ao W.length cap ∧ W.length ≤ cap ∧ cap ≤ maxLen := by
  obtain ⟨gs, h1, h2, h3, h4⟩ := h
  rcases h2.2 with ⟨hv, h0⟩ | ⟨g, cap, cur, hv, _, hg, c1, c2, _⟩
  · rw [h0]; exact ⟨none, 0, hv, Nat.le_refl _, by simp [maxLen]⟩
  · exact ⟨_, cap, hv, c1, c2⟩
theorem PendAt.elem {F : Nat → Prop} {w : World} {ao : Option Addr} {n cap : Nat} {W : List Pend} (h : PendAt F w (.slice ao n cap) W) (i : Nat) (hi : i < W.length) :
    ∃ b gb, ao = some ⟨b, 0, none⟩ ∧ F b ∧ w.rangeAt b (i * 2) (pendC W[i] gb) ∧ BytT w gb 5 W[i].2 ∧ F gb := by
  obtain ⟨gs, h1, h2, h3, h4⟩ := h
  have hi2 : i < gs.length := by omega
  rcases h2.2 with ⟨hv, h0⟩ | ⟨g, cap', cur, hv, _, hg, c1, c2, c3, c4⟩
  · omega
  · injection hv with e1 e2 e3
    subst e1
    refine ⟨g, gs[i], rfl, h3 g rfl, fun j u hu => ?_, (h4 i hi hi2).1, (h4 i hi hi2).2⟩
    have hj : j < 2 := by
      have := (List.getElem?_eq_some_iff.1 hu).1
      simpa [pendC] using this
    rw [cell_of_row _ _ _ _ _ _ hg]
    have hx := flatW_get W gs i j hi hi2 hj
    rw [hu, ← c4, List.getElem?_take] at hx
    split at hx
    · rwa [Array.getElem?_toList] at hx
    · cases hx
structure FluAt (F : Nat → Prop) (w wr : World) (g ga m : Nat) (vw : Value) (k l : Int) (L : List UInt8) (Wt : List Pend) (i : Nat) : Prop where
  head : DevH wr g (.slice (some ⟨ga, 0, none⟩) m m) vw k l false
  all : BytT wr ga 5 (wakeL (fun _ => true) 0 (Wt.take i) L)
  pend : PendAt F wr vw Wt
  fr : Fr (fun b => b = g ∨ b = ga) w wr
set_option maxRecDepth 100000 in
set_option maxHeartbeats 4000000 in
theorem rFlush_ok {F : Nat → Prop} (w : World) (g ga s : Nat) (L : List UInt8) (Wt : List Pend) (vw : Value) (k l : Int) (h : DevH w g (.slice (some ⟨ga, 0, none⟩) (64 * s) (64 * s)) vw k l false) (hL : BytT w ga 5 L) (hl : L.length = 64 * s) (hs : s ≤ 8192)
    (hP : PendAt F w vw Wt) (hW : Pends s Wt) (hg : ¬ F g) (hga : ¬ F ga) (hne : g ≠ ga) (hk0 : 0 ≤ k) (hk : k ≤ 1000000000) (hl0 : 0 ≤ l) (hll : l ≤ 9223372036854775807) (hl1 : l ≠ 1) (hn6 : Wt.length ≤ 1000000) :
    Calls Tryz.prog 117 #[.pointer (some ⟨g, 0, none⟩)] w fun e w' => e = .returned (.int .i64 0) ∧ DevH w' g (.slice (some ⟨ga, 0, none⟩) (64 * s) (64 * s)) (.slice none 0 0) (k + 1) (if l = 0 then 0 else l - 1) false ∧ BytT w' ga 5 (wakeL (fun _ => true) 0 Wt L) ∧ Fr (fun b => b = g ∨ b = ga) w w' := by
  obtain ⟨ao, cap, hvf, hwc, hwm⟩ := hP.form
  subst hvf
  unfold maxLen at hwm
  obtain ⟨n, hn⟩ : ∃ n, n = Wt.length := ⟨_, rfl⟩
  have hd0 := rdeed_any w g (.slice (some ⟨ga, 0, none⟩) (64 * s) (64 * s)) (.slice ao Wt.length cap) k l false hk0 hk hl0 hll h
  rw [decide_eq_true hl1, if_neg hl1, if_neg hl1] at hd0
  have hkp := fun W a gb b vw k l dn (h : DevH W g (.slice (some ⟨ga, 0, none⟩) (64 * s) (64 * s)) vw k l dn) L hL hl hb hbl ha => rkeep_any W g ga gb s a L b vw k l dn h hL hl hb hbl ha hs
  have hwl := fun i => wakeL_length (fun _ => true) s (Wt.take i) 0 L (fun p hp => hW p (List.mem_of_mem_take hp)) hl
  obtain ⟨m, hm⟩ : ∃ m : Nat, m = 64 * s := ⟨_, rfl⟩
  rw [← hm] at h hd0 hkp ⊢
  rw [← hn] at h hd0 hP hn6 hwc
  obtain ⟨l', hl'⟩ : ∃ x : Int, x = if l = 0 then 0 else l - 1 := ⟨_, rfl⟩
  rw [← hl'] at hd0 ⊢
  obtain ⟨_, _, _, _, c4⟩ := h.cells
  have HD := Lib.hid hd0
  have HKP := Lib.hid hkp
  have HN := Lib.hid hn
  have HW := Lib.hid hW
  have HM := Lib.hid hm
  have HWLN := Lib.hid hwl
  have HG := Lib.hid (And.intro hg (And.intro hga hne))
  have HPL := Lib.hid (And.intro hP (And.intro hL h))
  clear hd0 hkp hn hW hm hwl hg hga hne hP hL h hl' hk0 hk hl0 hll hl1 hl hs
  go_enter Tryz.func117, Tryz.ntmps117
  go_wp2_with (go_at_call 144; refine HD.out.mono ?_; rintro e w1 ⟨rfl, hh, hf⟩; (have HS := Lib.hid (show FluAt F w w1 g ga m (.slice ao n cap) (k + 1) l' (wakeL (fun _ => true) 0 (Wt.take 0) []) Wt 0 → True from fun _ => trivial)); (have HF0 := Lib.hid (show FluAt F w w1 g ga m (.slice ao n cap) (k + 1) l' _ Wt 0 from ⟨hh, hf.heap HPL.out.2.1 (fun e => HG.out.2.2 e.symm), HPL.out.1.keep hf (fun q _ hq e => HG.out.1 (e ▸ hq)), hf.mono (fun _ _ e => .inl e)⟩)); clear HS hh hf)
  go_loopw [3] (fun iv wr => ∃ i : Nat, i ≤ n ∧ iv = .int .i64 i ∧ Hid (FluAt F w wr g ga m (.slice ao n cap) (k + 1) l' L Wt i)) (fun iv _ => n - (intOf iv).toNat)
  case atStart => exact ⟨0, by omega, rfl, HF0⟩
  case round =>
    clear HF0
    obtain ⟨i, hi, rfl, hR⟩ := hrel
    have hcc := hR.out.head.cells.2.1
    by_cases hlt : i < n
    · have hil : i < Wt.length := by rw [← HN.out]; exact hlt
      obtain ⟨b, gb, rfl, hFb, hrg, hbb, hFg⟩ := hR.out.pend.elem i hil
      obtain ⟨p, hp⟩ : ∃ p, p = Wt[i] := ⟨_, rfl⟩
      rw [← hp] at hrg hbb
      have hpw := HW.out p (by rw [hp]; exact List.getElem_mem _)
      have hst : wakeL (fun _ => true) 0 (Wt.take (i + 1)) L = putSec (wakeL (fun _ => true) 0 (Wt.take i) L) p.1 p.2 := by
        rw [List.take_succ_eq_append_getElem hil, wakeL_snoc, ← hp]
        rfl
      have HST := Lib.hid hst
      have HPC := Lib.hid (HKP.out wr p.1 gb p.2 _ _ _ _ hR.out.head _ hR.out.all (by rw [HWLN.out i]; exact HM.out.symm ▸ rfl) hbb hpw.2 hpw.1)
      obtain ⟨PC, hPC⟩ : ∃ C, C = pendC p gb := ⟨_, rfl⟩
      rw [← hPC] at hrg
      have HPCE := Lib.hid (show PC.toArray = #[.int .i64 p.1, .slice (some ⟨gb, 0, none⟩) 64 64] by rw [hPC]; rfl)
      have hiL : (Tryz.prog.info? 205).map (·.size) = some PC.length := by rw [hPC]; kernel_rfl
      have hd : decide ((i : Int) < (n : Int)) = true := by rw [decide_eq_true_iff]; omega
      have hkn : (i : Int) < (n : Int) := by omega
      have hi0 : (0 : Int) ≤ (i : Int) := by omega
      clear hil hp hpw hst hPC hbb
      go_wp2_with (first
        | (with_reducible refine wpList_load_mid rfl 205 (.tmp 28) rfl b (i * 2) rfl PC _ hrg Tryz.underlying205 rfl hiL ?_; rw [HPCE.out])
        | (go_at_call 146; refine HPC.out.mono ?_; rintro e w2 ⟨rfl, hall, hf⟩; (have HN2 := Lib.hid (show FluAt F w w2 g ga m _ (k + 1) l' L Wt (i + 1) from ⟨hR.out.head.keep hf (fun e => HG.out.2.2 e), by rw [HST.out]; exact hall, hR.out.pend.keep hf (fun q _ hq e => HG.out.2.1 (e ▸ hq)), hR.out.fr.trans hf (fun q hq => .inl (.inr hq))⟩)); clear hall hf))
      go_roundw
      case rel => exact ⟨i + 1, by omega, by go_num, HN2⟩
      case measure => simp [intOf]; omega
    · have hkn : i = n := by omega
      have hd : decide ((i : Int) < (n : Int)) = false := by rw [decide_eq_false_iff_not]; omega
      have hf1 := hR.out.head.free 1
      have HALL := Lib.hid (show BytT wr ga 5 (wakeL (fun _ => true) 0 Wt L) by
        have h := hR.out.all
        rwa [List.take_of_length_le (by rw [← HN.out]; omega)] at h)
      clear hkn
      go_wp2_with fail
      go_ret
      exact ⟨rfl, hR.out.head.put1 _, (Fr.cell1 wr g 1 _).heap HALL.out (fun e => HG.out.2.2 e.symm), hR.out.fr.trans (Fr.cell1 wr g 1 _) (fun q hq => .inl (.inl hq))⟩
end Go.Proofs.YtldgcoikbjbjeaaGreat
namespace Go.Proofs.YtldgcoikbjbjeaaGreat
open Go.RowKit Go.ChangeShapes
set_option linter.unusedVariables false
theorem and_one_i64 (x : Int) : bits BinOp.and IntKind.i64 x 1 = x % 2 := by
  have e : (BitVec.ofInt 64 x &&& BitVec.ofInt 64 1).toNat = (x % 18446744073709551616).toNat % 2 := by
    rw [BitVec.toNat_and, BitVec.toNat_ofInt, show (BitVec.ofInt 64 1).toNat = 1 from rfl, Nat.and_one_is_mod]
    rfl
  show IntKind.i64.wrap (((BitVec.ofInt 64 x &&& BitVec.ofInt 64 1).toNat : Nat) : Int) = x % 2
  rw [e]
  simp only [IntKind.bits, IntKind.wrap, IntKind.signed]
  simp
  split <;> omega
theorem bit_tested (keep : Int) (i : Nat) : (bits BinOp.and IntKind.i64 (keep / 2 ^ (i % 62)) 1 == 1) = bitOf keep i := by
  rw [and_one_i64, bitOf, Bool.eq_iff_iff, beq_iff_eq, decide_eq_true_iff]
theorem rFlush_down (w : World) (g : Nat) (va vw : Value) (k l : Int) (h : DevH w g va vw k l true) :
    Calls Tryz.prog 117 #[.pointer (some ⟨g, 0, none⟩)] w fun e w' => e = .returned (.int .i64 10) ∧ w = w' := by
  obtain ⟨_, _, _, _, h4⟩ := h.cells
  clear h
  go_enter Tryz.func117, Tryz.ntmps117
  go_wp2
  go_ret
  exact ⟨rfl, rfl⟩
theorem rFlush_out (w : World) (g : Nat) (va vw : Value) (k : Int) (hk0 : 0 ≤ k) (hk : k ≤ 1000000000) (h : DevH w g va vw k 1 false) :
    Calls Tryz.prog 117 #[.pointer (some ⟨g, 0, none⟩)] w fun e w' => e = .returned (.int .i64 10) ∧ DevH w' g va vw k 0 true ∧ Fr (· = g) w w' := by
  obtain ⟨_, _, _, _, h4⟩ := h.cells
  have HD := Lib.hid (rdeed_any w g va vw k 1 false hk0 hk (by decide) (by decide) h)
  clear h hk0 hk
  go_enter Tryz.func117, Tryz.ntmps117
  go_wp2_with (go_at_call 144; refine HD.out.mono ?_; rintro e w1 ⟨rfl, hh, hf⟩; (have HS := Lib.hid (And.intro hh hf)); clear hh hf)
  go_ret
  exact ⟨rfl, HS.out.1, HS.out.2⟩
end Go.Proofs.YtldgcoikbjbjeaaGreat
