/- Laid together: RfPs SortOps RfO RfRw RfN -/
import Derived.Test.YtfkgdjoaoidkeaaRg2
import Derived.Test.YtfkgdjoaoidkeaaRg5
import Derived.Deep.MidRow
import Derived.Test.YtfkgdjoaoidkeaaRg4
import Derived.Laws.CopyRow
import Derived.Deep.RegionHeldLaw
import Derived.Test.YtfkgdjoaoidkeaaRg3
import Derived.Deep.WholeRow

namespace Go.Proofs.Ytfkgdjoaoidkeaa
open Go.RowKit Go.ChangeShapes
set_option linter.unusedVariables false
attribute [local go_sem] Oper.semAt_some
structure PsAt (T : Nat → Prop) (z : Nat) (W0 W : World) (bl : Nat) (xs : List Nat) : Prop where
  own : ∃ v, W.heap[bl]? = some (.cells #[v] 26 (0, 0)) ∧ OwnI z W v xs
  fr : Fr T W0 W
theorem PsAt.grown {T : Nat → Prop} {z : Nat} {W0 W W' : World} {bl : Nat} {xs : List Nat} {row : Option Nat} (h : PsAt T z W0 W bl xs) (hb : bl < z) (hT : ∀ k, z ≤ k → T k) (hg : W.grownBy W' row) (hr : ∀ r, row = some r → z ≤ r ∧ ∃ o : Obj, W.heap[r]? = some o ∧ o.isCells = false) : PsAt T z W0 W' bl xs := by
  have hf : Fr (fun k => row = some k) W W' := (Fr.refl _ W).grown hg (fun k hk => .inl hk)
  obtain ⟨v, h1, h2⟩ := h.own
  exact ⟨⟨v, hf.heap h1 (fun e => by have := (hr _ e).1; omega), OwnE.grown h2 hg (fun r e => (hr r e).2)⟩, h.fr.trans hf (fun k hk => .inl (hT k (hr k hk).1))⟩
theorem PsAt.step {T : Nat → Prop} {z : Nat} {W0 W w8 : World} {bl x : Nat} {xs : List Nat} {v0 v8 : Value} (h : PsAt T z W0 W bl xs) (hb : bl < z) (hT : ∀ k, z ≤ k → T k) (hTl : T bl) (h1 : W.heap[bl]? = some (.cells #[v0] 26 (0, 0))) (h0 : OwnI z W v0 xs) (h8 : OwnI z w8 v8 (xs ++ [x])) (hf8 : Fr (fun k => v0.ownBlock = some k) W w8) :
    KeepsFrom z W (w8.setCell ⟨bl, 0, none⟩ v8) ∧ Fr T W (w8.setCell ⟨bl, 0, none⟩ v8) ∧ PsAt T z W0 (w8.setCell ⟨bl, 0, none⟩ v8) bl (xs ++ [x]) := by
  have hob : ∀ k, v0.ownBlock = some k → z ≤ k ∧ ∃ cs, W.heap[k]? = some (.cells cs 3 (0, 0)) := fun k hk => ⟨(OwnE.own h0 k hk).1, OwnE.ownCells h0 hk⟩
  have hl8 := hf8.heap h1 (fun e => by have := (hob _ e).1; omega)
  have f1 := Fr.cell1 w8 bl 0 v8
  have hall : Fr (fun k => v0.ownBlock = some k ∨ k = bl) W (w8.setCell ⟨bl, 0, none⟩ v8) :=
    (hf8.mono (T := fun k => v0.ownBlock = some k ∨ k = bl) (fun _ _ h => .inl h)).trans f1 (fun k e => .inl (.inr e))
  have hallT : Fr T W (w8.setCell ⟨bl, 0, none⟩ v8) := hall.mono (fun k _ hk => by
    rcases hk with hk | rfl
    · exact hT k (hob k hk).1
    · exact hTl)
  refine ⟨⟨hall.size, fun k o hzk hk hc => hall.heap hk (fun hs => ?_)⟩, hallT, ⟨⟨v8, one_put hl8 v8, OwnE.keep h8 f1 (fun g hg e => ?_)⟩, h.fr.trans hallT (fun _ h => .inl h)⟩⟩
  · rcases hs with hs | rfl
    · obtain ⟨_, cs, hb9⟩ := hob k hs
      rw [hb9] at hk
      cases hk
      cases hc
    · omega
  · have := (OwnE.own h8 g hg).1
    have e' : g = bl := e
    omega
set_option maxRecDepth 100000 in
set_option maxHeartbeats 4000000 in
theorem fPlaces_in {F : Nat → Prop} (w : World) (v : Value) (b H : List UInt8) (hH : H.length = 20) (hv : BytesIn F w v b) (hF : ∀ k, F k → k < w.heap.size) (hb : b.length ≤ 1000000) (hm : MlAt w) :
    CallsIn Fence.wide 3 Try.prog 6 #[v, .agg (H.map bv).toArray] w fun e w' => ∃ u, e = .returned u ∧ OwnI w.heap.size w' u (placesR b (letL H)) ∧ Fr (fun _ => False) w w' := by
  obtain ⟨ao, n, cap, rfl⟩ : ∃ ao n cap, v = .slice ao n cap := by obtain ⟨ao, cap, h, _⟩ := hv; exact ⟨_, _, _, h⟩
  obtain ⟨C, hC⟩ : ∃ C, C = (H.map bv).toArray := ⟨_, rfl⟩
  have hcs : C.size = 20 := by rw [hC]; simp [hH]
  have HLO := Lib.hid (fun W => lettersOf_any H hH W)
  rw [← hC] at HLO ⊢
  have hsl := letL_length H
  obtain ⟨s, hs⟩ : ∃ s, s = letL H := ⟨_, rfl⟩
  rw [← hs] at HLO hsl ⊢
  clear hC hs hH
  obtain ⟨W1, hW1⟩ : ∃ W1, W1 = (w.alloc (.cells C 24)).alloc (.cells #[.slice none 0 0] 26) := ⟨_, rfl⟩
  have hf1 : Fr (fun _ => False) w W1 := by rw [hW1]; exact ((Fr.refl _ _).alloc _).alloc _
  have hz1 : W1.heap.size = w.heap.size + 2 := by rw [hW1]; simp
  have hr1 : W1.heap[w.heap.size]? = some (.cells C 24 (0, 0)) := by rw [hW1]; exact heap_alloc2_old w _ _
  have hr2 : W1.heap[w.heap.size + 1]? = some (.cells #[.slice none 0 0] 26 (0, 0)) := by rw [hW1]; exact heap_alloc2_new w _ _
  have HW := Lib.hid hW1
  have HX := Lib.hid (And.intro hf1 (And.intro hr2 (And.intro hv (And.intro hF (And.intro hm (And.intro hb hsl))))))
  have HR1 := Lib.hid hr1
  clear hW1 hf1 hr1 hr2 hv hF hm hb hsl
  refine callsIn_of_wp_marks Try.func6 rfl trivial ?_ rfl
  simp only [Try.ntmps6, List.size_toArray, List.length_cons, List.length_nil, Nat.reduceAdd, Nat.reduceSub, Array.replicate_succ, Array.replicate_zero, List.push_toArray, List.append_toArray, List.nil_append, List.cons_append]
  refine wpIn_wide.2 ?_
  go_wp2_with (first
    | (rw [← HW.out]; (with_reducible refine wpList_load_row rfl 24 (.tmp 3) rfl w.heap.size rfl 24 C (0, 0) _ HR1.out Try.underlying24 rfl (by rw [hcs]; kernel_rfl) ?_))
    | (go_at_call 18; refine (HLO.out _).mono ?_; rintro e w2 ⟨rfl, hf2⟩)
    | (go_at_call 17; refine (places_any _ _ _ _ _).mono ?_; rintro e w3 ⟨rfl, rfl⟩))
  obtain ⟨bb, hbb⟩ : ∃ bb, bb = w2.heap.size := ⟨_, rfl⟩
  obtain ⟨bl, hbl⟩ : ∃ bl, bl = w.heap.size + 1 := ⟨_, rfl⟩
  obtain ⟨W0, hW0⟩ : ∃ W0, W0 = (w2.alloc (.cells #[.slice ao n cap] 22)).alloc (.cells (ltC s) 47) := ⟨_, rfl⟩
  have hf0 : Fr (fun _ => False) w2 W0 := by rw [hW0]; exact ((Fr.refl _ _).alloc _).alloc _
  have hz0 : W0.heap.size = bb + 2 := by rw [hW0, hbb]; simp
  have j1 : W0.heap[bb]? = some (.cells #[.slice ao n cap] 22 (0, 0)) := by rw [hW0, hbb]; exact heap_alloc2_old w2 _ _
  have j2 : W0.heap[bb + 1]? = some (.cells (ltC s) 47 (0, 0)) := by rw [hW0, hbb]; exact heap_alloc2_new w2 _ _
  rw [← hbb, ← hbl, ← hW0]
  have hf10 : Fr (fun _ => False) W1 W0 := hf2.trans hf0 (fun _ h => h.elim)
  have hfw : Fr (fun _ => False) w W0 := HX.out.1.trans hf10 (fun _ h => h.elim)
  have hs12 := hf2.size
  obtain ⟨T, hT⟩ : ∃ T : Nat → Prop, T = fun k => k = bl ∨ W0.heap.size ≤ k := ⟨_, rfl⟩
  have hT0 : ∀ k, W0.heap.size ≤ k → T k := fun k hk => by rw [hT]; exact .inr hk
  have hTn : ∀ k, k ≠ bl → k < W0.heap.size → ¬ T k := fun k h1 h2 h3 => by rw [hT] at h3; rcases h3 with h3 | h3 <;> omega
  have hml := HX.out.2.2.2.2.1.lt
  have hFw := HX.out.2.2.2.1
  have hIt : ItP (fun k => F k) bb (bb + 1) (.slice ao n cap) b s W0 := ⟨cell_of_one j1, j2, HX.out.2.2.1.keep hfw (fun _ _ _ h => h), HX.out.2.2.2.2.1.keep hfw (fun h => h)⟩
  have hst0 : PsAt T W0.heap.size W0 W0 bl [] := ⟨⟨_, by rw [hbl]; exact hf10.heap HX.out.2.1 (fun h => h), OwnI.nil _ _⟩, Fr.refl _ _⟩
  have hblw : bl < W0.heap.size := by omega
  have h1 := hTn bb (by omega) (by omega)
  have h2 := hTn (bb + 1) (by omega) (by omega)
  have h3 : ∀ k, F k → ¬ T k := fun k hk => hTn _ (by have := hFw k hk; omega) (by have := hFw k hk; omega)
  have h4 := hTn 0 (by omega) (by omega)
  have h5 : ∀ k, F k → k < W0.heap.size := fun k hk => by have := hFw k hk; omega
  have hpn := placesR_length b s
  have HV := Lib.hid (And.intro hT (And.intro hT0 (And.intro hz0 (And.intro hfw (And.intro hblw (And.intro hbl hpn))))))
  clear hf2 hf0 hf10 j1 j2 hs12 hW0 hT hbb hbl hz0 hz1 hml hFw hfw hpn
  refine (wpIn_wide (n := 3)).1 ?_
  refine wpIn_rangeFunc_ownH rfl (by decide) (gf := 25) (lb := #[.pointer (some ⟨bb, 0, none⟩), .pointer (some ⟨bb + 1, 0, none⟩)]) rfl trivial (enters_of Try.func25 (by kernel_rfl) rfl)
    (places_stops (T := T) 2 bb (bb + 1) _ b s HX.out.2.2.2.2.2.2 (by have := HX.out.2.2.2.2.2.1; omega) h1 h2 h3 h4 W0 h5 hIt)
    (fun h k => h.trans k (fun _ hi => .inl hi)) (fun W l o o' hl _ _ _ => fr_putObj W l o' (hT0 l hl)) (Below.refl _ _) (fun _ => rfl)
    (fun (pre : List Nat) W => PsAt T W0.heap.size W0 W bl pre ∧ pre.length ≤ 1000000)
    (fun c (pre : List Nat) W => False)
    (fun pre A B row hs hg hr => ⟨hs.1.grown hblw hT0 hg hr, hs.2⟩)
    (fun c pre A B row hs hg hr => hs.elim)
    ⟨hst0, by simp⟩
    (fun x a' W => a' = ⟨#[.slice ao n cap, .agg C, undef, .pointer (some ⟨w.heap.size, 0, none⟩), .slice none 0 0, .pointer (some ⟨bl, 0, none⟩), .int .i64 (x : Nat), .slice ao n cap, .agg C, .agg (ltC s), .func (.func 25) #[] #[.pointer (some ⟨bb, 0, none⟩), .pointer (some ⟨bb + 1, 0, none⟩)], .int .i64 (x : Nat), undef, undef, undef, undef, undef], []⟩)
    (fun x a' s A B row hs hg hr => hs) ?assign ?body ?done ?stop
  case assign =>
    rintro l9 pre x W' K hI hK
    simp only [encI]
    gi_wp2
    exact hK _ _ (KeepsFrom.refl _ _) (Fr.refl _ _) hI rfl
  case body =>
    rintro l9 pre x a' W hll hr9 hst rfl hlt9
    obtain ⟨v0, h1, ho⟩ := hst.1.own
    obtain ⟨a0, c0, rfl⟩ := ho.form
    have el := cell_of_one h1
    have hbi := run_int1 W (x : Int)
    obtain ⟨a9, n9, c9, w9, hrun, ho9, hf9⟩ := run_append_i W 26 _ pre x ho (by have := hst.1.fr.size; omega) (by have := HV.out.2.2.2.2.2.2; have := HX.out.2.2.2.2.2.1; omega)
    have hs := hst.1.step hblw hT0 (by rw [HV.out.1]; exact .inl rfl) h1 ho ho9 hf9
    have hl9 := hf9.heap h1 (fun e => by have := (OwnE.own ho _ e).1; omega)
    obtain ⟨q1, q2⟩ := one_cell hl9
    have HS := Lib.hid hs
    have hpl : pre.length + 1 ≤ 1000000 := by have := HV.out.2.2.2.2.2.2; have := HX.out.2.2.2.2.2.1; omega
    clear hs ho9 hf9 h1 ho hst hl9
    gi_wp2_with (refine wpListIn_value (.round l9) rfl (by intro c h; cases h) (.slice a9 n9 c9) w9 (op_append7 rfl rfl rfl hrun) ?_)
    exact ⟨HS.out.1, HS.out.2.1, HS.out.2.2, by rw [List.length_append]; exact hpl⟩
  case done =>
    rintro D ys W hD rfl hst hK
    obtain ⟨v0, h1, ho⟩ := hst.1.own
    obtain ⟨a0, c0, rfl⟩ := ho.form
    have el := cell_of_one h1
    have HI := Lib.hid (And.intro ho hst.1.fr)
    have HK := Lib.hid hK
    clear h1 ho hst hK
    go_wp2
    refine ⟨by simp, .inl ⟨_, _, rfl, run_takeDeferred HK.out, ?_⟩⟩
    have hfd := fr_putObj (T := (· = D)) W D (.deferred none) rfl
    refine ⟨_, results_tmp rfl _ _ _, _, rfl, ?_, (HV.out.2.2.2.1.trans (S := fun _ => False) HI.out.2 (fun k hk => ?_)).trans hfd (fun k e => .inr (by have : k = D := e; have := HV.out.2.2.2.1.size; omega))⟩
    · have h9 := OwnE.keep HI.out.1 hfd (fun g hg e => by
        obtain ⟨cs, hb⟩ := OwnE.ownCells HI.out.1 hg
        rw [show g = D from e, HK.out] at hb
        cases hb)
      exact OwnI.lower h9 (HV.out.2.2.2.1.size)
    · rw [HV.out.1] at hk
      have := HV.out.2.2.2.1.size
      have := HV.out.2.2.2.2.2.1
      rcases hk with hk | hk <;> exact .inr (by omega)
  case stop =>
    rintro D c pre W hD hpre hst hK
    exact hst.elim
theorem fPlaces_any {F : Nat → Prop} (w : World) (v : Value) (b H : List UInt8) (hH : H.length = 20) (hv : BytesIn F w v b) (hF : ∀ k, F k → k < w.heap.size) (hb : b.length ≤ 1000000) (hm : MlAt w) :
    Calls Try.prog 6 #[v, .agg (H.map bv).toArray] w fun e w' => ∃ u, e = .returned u ∧ OwnI w.heap.size w' u (placesR b (letL H)) ∧ Fr (fun _ => False) w w' := callsIn_wide.1 (fPlaces_in w v b H hH hv hF hb hm)
end Go.Proofs.Ytfkgdjoaoidkeaa
namespace Go.Proofs.Ytfkgdjoaoidkeaa
open Go.RowKit Go.ChangeShapes
set_option linter.unusedVariables false
theorem run_index_paths (w : World) (b off n cap i : Nat) (h : i < n) : (Instr.indexAt 35 (.slice (some ⟨b, off, none⟩) n cap) (.int .i64 i)).run Try.prog w = .ok (.pointer (some ⟨b, off + i * 21, none⟩)) w := by
  simp [Instr.indexAt, h, Addr.add, asIntOf]
theorem load_mid_path (w : World) (b o : Nat) (x : PathX) (h : w.rangeAt b o (cellsX x)) : (Instr.loadAt 37 (.pointer (some ⟨b, o, none⟩))).run Try.prog w = .ok (.agg (pathC x.h x.n)) w := by
  exact run_loadAt_mid w b o 37 (cellsX x) _ h Try.underlying37 rfl (by rw [cellsX_length]; kernel_rfl)
theorem bLessX_any (x y : PathX) (w : World) :
    Calls Try.prog 14 #[.agg (pathC x.h x.n), .agg (pathC y.h y.n)] w fun e w' => e = .returned (.bool (lessX x y)) ∧ Fr (fun _ => False) w w' := bLess_any x.h x.n y.h y.n x.hl y.hl w
end Go.Proofs.Ytfkgdjoaoidkeaa
namespace Go.Proofs.Ytfkgdjoaoidkeaa
open Go.RowKit Go.ChangeShapes
set_option linter.unusedVariables false
section
variable {P : Program} {w : World} {o : Oper} {a : Act}
end
theorem load_one5 (w : World) (T : TypeId) (p : Addr) (v : Value) (hT : (isAgg T).run Try.prog w = .ok false w) (h : w.cell? p = some v) : (Instr.loadAt T (.pointer (some p))).run Try.prog w = .ok v w := by
  simp [Instr.loadAt, Instr.sureAddr, loadVar, hT, h, go_sem]
section
variable {w : World} {T : TypeId} {k : IntKind} {x y : Int}
theorem gtr_yes (h : y < x) : (binOp .gtr T (.int k x) (.int k y)).run Try.prog w = .ok (.bool true) w := by rw [binOp_gtr]; simp [h]
theorem gtr_no (h : x ≤ y) : (binOp .gtr T (.int k x) (.int k y)).run Try.prog w = .ok (.bool false) w := by rw [binOp_gtr]; simp [h]
end
theorem wrap_in5 {x : Int} (h0 : -9223372036854775808 ≤ x) (h1 : x ≤ 9223372036854775807) : IntKind.i64.wrap x = x := IntWalk.i64_in x (by omega)
theorem sub_in5 {w : World} {T : TypeId} {x y z : Int} (hz : x - y = z) (h0 : -9223372036854775808 ≤ z) (h1 : z ≤ 9223372036854775807) : (binOp .sub T (.int .i64 x) (.int .i64 y)).run Try.prog w = .ok (.int .i64 z) w := by
  rw [binOp_sub]
  subst hz
  simp [Op.intArith, wrap_in5 h0 h1, go_sem]
end Go.Proofs.Ytfkgdjoaoidkeaa
namespace Go.Proofs.Ytfkgdjoaoidkeaa
open Go.RowKit Go.ChangeShapes
set_option linter.unusedVariables false
theorem ent_spence_refs_lettersOf (args : Array Value) (w : World) : (callFunc 18 args).run Try.prog w = .ok (.enter 18 args) w := by kernel_rfl
end Go.Proofs.Ytfkgdjoaoidkeaa
namespace Go.Proofs.Ytfkgdjoaoidkeaa
open Go.RowKit Go.ChangeShapes
set_option linter.unusedVariables false
theorem alloc_setRow (w : World) (old new : Array Value) (t : TypeId) : (w.alloc (.cells old t)).setRow w.heap.size new = w.alloc (.cells new t) := by
  show ({ w with heap := (w.heap.push (.cells old t)).modify w.heap.size _ } : World) = { w with heap := w.heap.push (.cells new t) }
  congr 1
  apply Array.ext
  · simp
  · intro i h1 h2
    rw [Array.getElem_modify]
    split
    · next h => subst h; simp
    · next h =>
      have : i < w.heap.size := by simp at h1; omega
      simp [Array.getElem_push, this]
theorem run_store_at {P : Program} (w : World) (ty : TypeId) (g o : Nat) (cells cur : Array Value) (t : TypeId) (hg : w.heap[g]? = some (.cells cur t (0, 0))) (hi : (P.info? ty).map (·.size) = some cells.size) (hfit : o + cells.size ≤ cur.size) (h1 : cells.all (·.oneCell') = true) :
    (Instr.storeAt ty (.pointer (some ⟨g, o, none⟩)) (.agg cells)).run P w = .ok () (w.setRow g (cur.toList.take o ++ cells.toList ++ cur.toList.drop (o + cells.size)).toArray) := by
  have hst := run_storeCells_at P g o t cells.toList 0 cur w hg (by simpa using hfit) (fun v hv => (Array.all_eq_true_iff_forall_mem.1 h1) v (by simpa using hv))
  cases hq : P.info? ty with
  | none => simp [hq] at hi
  | some i =>
    have hs : cells.size = i.size := by simp [hq] at hi; omega
    simp only [Nat.add_zero, Array.length_toList] at hst
    simp only [Instr.storeAt, Instr.sureAddr, Sem.run_bind, Sem.run_pure, Result.andThen_ok]
    simp [storeVar, sizeOf, typeInfo, hq, Value.cells, hs]
    rw [hs] at hst
    simpa using hst
section
variable {F : Fence} {n : Nat} {P : Program} {ops : Array Oper} {Q : Exit → Act → World → Prop} {rest : List Oper} {o : Oper} {a : Act} {w : World}
theorem wpListIn_store_at (hF : WideF F) (hgd : o.guard = none) (ty : TypeId) (x y : Operand) (ho : o.op = .store ty x y)
    (g q : Nat) (cells cur : Array Value) (t : TypeId) (hx : a.eval x = .pointer (some ⟨g, q, none⟩)) (hy : a.eval y = .agg cells)
    (hg : w.heap[g]? = some (.cells cur t (0, 0))) (hi : (P.info? ty).map (·.size) = some cells.size) (hfit : q + cells.size ≤ cur.size) (h1 : cells.all (·.oneCell') = true)
    (h : wpListIn F n P ops Q rest (a.put o.dst undef) (w.setRow g (cur.toList.take q ++ cells.toList ++ cur.toList.drop (q + cells.size)).toArray)) : wpListIn F n P ops Q (o :: rest) a w :=
  wpListIn_plain hgd fun _ hK => by
    refine ⟨fun f _ => hF.fn f, ?_⟩
    rw [Oper.semAt_plain F _ _ (by rw [ho]; intro c h; cases h)]
    unfold execOp
    simp only [ho, hx, hy, Sem.run_bind, run_store_at w ty g q cells cur t hg hi hfit h1, Result.andThen_ok]
    exact hK _ _ h
theorem wpListIn_store_new (hF : WideF F) (hgd : o.guard = none) (ty : TypeId) (x y : Operand) (ho : o.op = .store ty x y)
    (cells cur : Array Value) (t : TypeId) (w0 : World) (hw : w = w0.alloc (.cells cur t)) (hx : a.eval x = .pointer (some ⟨w0.heap.size, 0, none⟩)) (hy : a.eval y = .agg cells)
    (hi : (P.info? ty).map (·.size) = some cells.size) (hs : cur.size = cells.size) (h1 : cells.all (·.oneCell') = true)
    (h : wpListIn F n P ops Q rest (a.put o.dst undef) (w0.alloc (.cells cells t))) : wpListIn F n P ops Q (o :: rest) a w := by
  subst hw
  refine wpListIn_store_at hF hgd ty x y ho w0.heap.size 0 cells cur t hx hy (heap_alloc_new w0 _) hi (by omega) h1 ?_
  rw [alloc_setRow]
  have e : (cur.toList.take 0 ++ cells.toList ++ cur.toList.drop (0 + cells.size)).toArray = cells := by
    rw [List.take_zero, List.nil_append, List.drop_eq_nil_of_le (by simp; omega), List.append_nil]
  rw [e]
  exact h
end
theorem op_delete10 {w w' : World} {o : Oper} {a : Act} {s x : Operand} {T U : TypeId} {v y u : Value} (ho : o.op = Op.call { callee := Callee.builtin Builtin.delete, args := #[s, x], argTypes := #[T, U] }) (hs : a.eval s = v) (hx : a.eval x = y) (hr : (Builtin.delete_ #[T, U] o.type #[v, y]).run Try.prog w = .ok u w') : (execOp a.eval o).run Try.prog w = .ok (.value u) w' := by
  simp [execOp, ho, resolve, invoke, builtin, hs, hx, hr, Result.andThen]
end Go.Proofs.Ytfkgdjoaoidkeaa
