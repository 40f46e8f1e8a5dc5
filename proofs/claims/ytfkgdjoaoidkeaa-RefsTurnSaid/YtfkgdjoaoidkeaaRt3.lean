/- Laid together: RfM RfPs RfWi HashL RunB OpenArr PathX RfO -/
import Derived.Test.YtfkgdjoaoidkeaaRt2
import Derived.Test.YtfkgdjoaoidkeaaRt0
import Derived.RangeFuncBound
import Derived.RangeFuncNested
import Derived.Laws.CopyRow
import Derived.Deep.RegionHeldLaw
import Derived.Deep.RegionHeld3
import Derived.Deep.MidRow
import Derived.Test.YtfkgdjoaoidkeaaRt1
import Derived.Laws.StructEq
import Derived.Maps.OwnSet
import Derived.DeepKeys4
import Derived.Lib.OthersKept
import Derived.Laws.RangeAny
import Derived.Deep.LoopGhost
import Derived.Lib.TrimU
import Derived.Test.YtfkgdjoaoidkeaaShelf
import Derived.Test.YtfkgdjoaoidkeaaShelfS
import Derived.Lib.BytesEntry
import Derived.Laws.Externs
import Derived.StillTailTactics
import Derived.ProofKit
import Derived.OpenShut
import Derived.SizedLaws
import Derived.Deep.Slices
import Derived.Carry
import Derived.Laws.Tables

namespace Go.Proofs.Ytfkgdjoaoidkeaa
open Go.RowKit Go.ChangeShapes
set_option linter.unusedVariables false
theorem cell_put {w : World} {b i : Nat} {c : Array Value} {t : TypeId} {z : Nat × Nat} (u : Value) (h : w.heap[b]? = some (.cells c t z)) :
    (w.setCell ⟨b, i, none⟩ u).heap[b]? = some (.cells (c.setIfInBounds i u) t z) := by
  simp only [World.setCell, Array.getElem?_modify, h]
  simp
theorem Fr.cell1 (w : World) (b i : Nat) (u : Value) : Fr (· = b) w (w.setCell ⟨b, i, none⟩ u) := (Fr.refl (· = b) w).setCell (p := ⟨b, i, none⟩) (.inl rfl) u
theorem fr_putObj {T : Nat → Prop} (W : World) (l : Nat) (o' : Obj) (hT : T l) : Fr T W (W.putObj l o') :=
  (Fr.refl T W).grown (grownBy_putObj' W l o') (fun k e => by cases e; exact .inl hT)
theorem one_cell {w : World} {b : Nat} {x : Value} {T : TypeId} (h : w.heap[b]? = some (.cells #[x] T (0, 0))) : w.cell? ⟨b, 0, none⟩ = some x ∧ w.frozen? ⟨b, 0, none⟩ = false := ⟨cell_of_one h, by simp [World.frozen?, h]⟩
theorem one_put {w : World} {b : Nat} {x : Value} {T : TypeId} (h : w.heap[b]? = some (.cells #[x] T (0, 0))) (u : Value) : (w.setCell ⟨b, 0, none⟩ u).heap[b]? = some (.cells #[u] T (0, 0)) := cell_put (i := 0) u h
theorem op_append7 {w w' : World} {o : Oper} {a : Act} {s x : Operand} {ST : TypeId} {v y u : Value} (ho : o.op = Op.call { callee := Callee.builtin Builtin.append, args := #[s, x], argTypes := #[ST, ST] }) (hs : a.eval s = v) (hx : a.eval x = y) (hr : (Builtin.append_ #[ST, ST] o.type #[v, y]).run Try.prog w = .ok u w') : (execOp a.eval o).run Try.prog w = .ok (.value u) w' := by
  simp [execOp, ho, resolve, invoke, builtin, hs, hx, hr, Result.andThen]
theorem OwnE.ownCells {T : TypeId} {k z : Nat} {w : World} {v : Value} {css : List (List Value)} (h : OwnE T k z w v css) {g : Nat} (hg : v.ownBlock = some g) : ∃ cs, w.heap[g]? = some (.cells cs T (0, 0)) := by
  rcases h.row.2 with ⟨hv, _⟩ | ⟨g', cap, cur, hv, hb, hg', _⟩
  · rw [hv] at hg; simp [Value.ownBlock] at hg
  · rw [hv] at hg
    simp only [Value.ownBlock, Option.some.injEq] at hg
    subst hg
    exact ⟨_, hg'⟩
theorem OwnE.grown {T : TypeId} {k z : Nat} {w w' : World} {v : Value} {css : List (List Value)} {row : Option Nat} (h : OwnE T k z w v css) (hg : w.grownBy w' row) (hr : ∀ r, row = some r → ∃ o : Obj, w.heap[r]? = some o ∧ o.isCells = false) : OwnE T k z w' v css :=
  OwnE.keep h ((Fr.refl (fun k => row = some k) w).grown hg (fun k hk => .inl hk)) (fun g hgb e => by
    obtain ⟨cs, hb⟩ := h.ownCells hgb
    obtain ⟨o, ho, hc⟩ := hr g e
    rw [hb] at ho
    cases ho
    cases hc)
end Go.Proofs.Ytfkgdjoaoidkeaa
namespace Go.Proofs.Ytfkgdjoaoidkeaa
open Go.RowKit Go.ChangeShapes
set_option linter.unusedVariables false
attribute [local go_sem] Oper.semAt_some
structure PsAt (T : Nat → Prop) (z : Nat) (W0 W : World) (bl : Nat) (xs : List Nat) : Prop where
  own : ∃ v, W.heap[bl]? = some (.cells #[v] 26 (0, 0)) ∧ OwnI z W v xs
  fr : Fr T W0 W
theorem PsAt.grown {T : Nat → Prop} {z : Nat} {W0 W W' : World} {bl : Nat} {xs : List Nat} {row : Option Nat} (h : PsAt T z W0 W bl xs) (hb : bl < z) (hT : ∀ k, z ≤ k → T k) (hg : W.grownBy W' row) (hr : ∀ r, row = some r → z ≤ r ∧ ∃ o : Obj, W.heap[r]? = some o ∧ o.isCells = false) : PsAt T z W0 W' bl xs := by
  have hf : Fr (fun k => row = some k) W W' := (Fr.refl _ W).grown hg (fun k hk => .inl hk)
  obtain ⟨v, h1, h2⟩ := h.own
  exact ⟨⟨v, hf.heap h1 (fun e => by have := (hr _ e).1; omega), OwnE.grown h2 hg (fun r e => (hr r e).2)⟩, h.fr.trans hf (fun k hk => .inl (hT k (hr k hk).1))⟩
theorem PsAt.step {T : Nat → Prop} {z : Nat} {W0 W w8 : World} {bl x : Nat} {xs : List Nat} {v0 v8 : Value} (h : PsAt T z W0 W bl xs) (hb : bl < z) (hT : ∀ k, z ≤ k → T k) (hTl : T bl) (h1 : W.heap[bl]? = some (.cells #[v0] 26 (0, 0))) (h0 : OwnI z W v0 xs) (h8 : OwnI z w8 v8 (xs ++ [x])) (hf8 : Fr (fun k => v0.ownBlock = some k) W w8) :
    KeepsFrom z W (w8.setCell ⟨bl, 0, none⟩ v8) ∧ Fr T W (w8.setCell ⟨bl, 0, none⟩ v8) ∧ PsAt T z W0 (w8.setCell ⟨bl, 0, none⟩ v8) bl (xs ++ [x]) := by
  have hob : ∀ k, v0.ownBlock = some k → z ≤ k ∧ ∃ cs, W.heap[k]? = some (.cells cs 3 (0, 0)) := fun k hk => ⟨(OwnE.own h0 k hk).1, OwnE.ownCells h0 hk⟩
  have hl8 := hf8.heap h1 (fun e => by have := (hob _ e).1; omega)
  have f1 := Fr.cell1 w8 bl 0 v8
  have hall : Fr (fun k => v0.ownBlock = some k ∨ k = bl) W (w8.setCell ⟨bl, 0, none⟩ v8) :=
    (hf8.mono (T := fun k => v0.ownBlock = some k ∨ k = bl) (fun _ _ h => .inl h)).trans f1 (fun k e => .inl (.inr e))
  have hallT : Fr T W (w8.setCell ⟨bl, 0, none⟩ v8) := hall.mono (fun k _ hk => by
    rcases hk with hk | rfl
    · exact hT k (hob k hk).1
    · exact hTl)
  refine ⟨⟨hall.size, fun k o hzk hk hc => hall.heap hk (fun hs => ?_)⟩, hallT, ⟨⟨v8, one_put hl8 v8, OwnE.keep h8 f1 (fun g hg e => ?_)⟩, h.fr.trans hallT (fun _ h => .inl h)⟩⟩
  · rcases hs with hs | rfl
    · obtain ⟨_, cs, hb9⟩ := hob k hs
      rw [hb9] at hk
      cases hk
      cases hc
    · omega
  · have := (OwnE.own h8 g hg).1
    have e' : g = bl := e
    omega
set_option maxRecDepth 100000 in
set_option maxHeartbeats 4000000 in
theorem fPlaces_in {F : Nat → Prop} (w : World) (v : Value) (b H : List UInt8) (hH : H.length = 20) (hv : BytesIn F w v b) (hF : ∀ k, F k → k < w.heap.size) (hb : b.length ≤ 1000000) (hm : MlAt w) :
    CallsIn Fence.wide 3 Try.prog 6 #[v, .agg (H.map bv).toArray] w fun e w' => ∃ u, e = .returned u ∧ OwnI w.heap.size w' u (placesR b (letL H)) ∧ Fr (fun _ => False) w w' := by
  obtain ⟨ao, n, cap, rfl⟩ : ∃ ao n cap, v = .slice ao n cap := by obtain ⟨ao, cap, h, _⟩ := hv; exact ⟨_, _, _, h⟩
  obtain ⟨C, hC⟩ : ∃ C, C = (H.map bv).toArray := ⟨_, rfl⟩
  have hcs : C.size = 20 := by rw [hC]; simp [hH]
  have HLO := Lib.hid (fun W => lettersOf_any H hH W)
  rw [← hC] at HLO ⊢
  have hsl := letL_length H
  obtain ⟨s, hs⟩ : ∃ s, s = letL H := ⟨_, rfl⟩
  rw [← hs] at HLO hsl ⊢
  clear hC hs hH
  obtain ⟨W1, hW1⟩ : ∃ W1, W1 = (w.alloc (.cells C 24)).alloc (.cells #[.slice none 0 0] 26) := ⟨_, rfl⟩
  have hf1 : Fr (fun _ => False) w W1 := by rw [hW1]; exact ((Fr.refl _ _).alloc _).alloc _
  have hz1 : W1.heap.size = w.heap.size + 2 := by rw [hW1]; simp
  have hr1 : W1.heap[w.heap.size]? = some (.cells C 24 (0, 0)) := by rw [hW1]; exact heap_alloc2_old w _ _
  have hr2 : W1.heap[w.heap.size + 1]? = some (.cells #[.slice none 0 0] 26 (0, 0)) := by rw [hW1]; exact heap_alloc2_new w _ _
  have HW := Lib.hid hW1
  have HX := Lib.hid (And.intro hf1 (And.intro hr2 (And.intro hv (And.intro hF (And.intro hm (And.intro hb hsl))))))
  have HR1 := Lib.hid hr1
  clear hW1 hf1 hr1 hr2 hv hF hm hb hsl
  refine callsIn_of_wp_marks Try.func6 rfl trivial ?_ rfl
  simp only [Try.ntmps6, List.size_toArray, List.length_cons, List.length_nil, Nat.reduceAdd, Nat.reduceSub, Array.replicate_succ, Array.replicate_zero, List.push_toArray, List.append_toArray, List.nil_append, List.cons_append]
  refine wpIn_wide.2 ?_
  go_wp2_with (first
    | (rw [← HW.out]; (with_reducible refine wpList_load_row rfl 24 (.tmp 3) rfl w.heap.size rfl 24 C (0, 0) _ HR1.out Try.underlying24 rfl (by rw [hcs]; kernel_rfl) ?_))
    | (go_at_call 18; refine (HLO.out _).mono ?_; rintro e w2 ⟨rfl, hf2⟩)
    | (go_at_call 17; refine (places_any _ _ _ _ _).mono ?_; rintro e w3 ⟨rfl, rfl⟩))
  obtain ⟨bb, hbb⟩ : ∃ bb, bb = w2.heap.size := ⟨_, rfl⟩
  obtain ⟨bl, hbl⟩ : ∃ bl, bl = w.heap.size + 1 := ⟨_, rfl⟩
  obtain ⟨W0, hW0⟩ : ∃ W0, W0 = (w2.alloc (.cells #[.slice ao n cap] 22)).alloc (.cells (ltC s) 47) := ⟨_, rfl⟩
  have hf0 : Fr (fun _ => False) w2 W0 := by rw [hW0]; exact ((Fr.refl _ _).alloc _).alloc _
  have hz0 : W0.heap.size = bb + 2 := by rw [hW0, hbb]; simp
  have j1 : W0.heap[bb]? = some (.cells #[.slice ao n cap] 22 (0, 0)) := by rw [hW0, hbb]; exact heap_alloc2_old w2 _ _
  have j2 : W0.heap[bb + 1]? = some (.cells (ltC s) 47 (0, 0)) := by rw [hW0, hbb]; exact heap_alloc2_new w2 _ _
  rw [← hbb, ← hbl, ← hW0]
  have hf10 : Fr (fun _ => False) W1 W0 := hf2.trans hf0 (fun _ h => h.elim)
  have hfw : Fr (fun _ => False) w W0 := HX.out.1.trans hf10 (fun _ h => h.elim)
  have hs12 := hf2.size
  obtain ⟨T, hT⟩ : ∃ T : Nat → Prop, T = fun k => k = bl ∨ W0.heap.size ≤ k := ⟨_, rfl⟩
  have hT0 : ∀ k, W0.heap.size ≤ k → T k := fun k hk => by rw [hT]; exact .inr hk
  have hTn : ∀ k, k ≠ bl → k < W0.heap.size → ¬ T k := fun k h1 h2 h3 => by rw [hT] at h3; rcases h3 with h3 | h3 <;> omega
  have hml := HX.out.2.2.2.2.1.lt
  have hFw := HX.out.2.2.2.1
  have hIt : ItP (fun k => F k) bb (bb + 1) (.slice ao n cap) b s W0 := ⟨cell_of_one j1, j2, HX.out.2.2.1.keep hfw (fun _ _ _ h => h), HX.out.2.2.2.2.1.keep hfw (fun h => h)⟩
  have hst0 : PsAt T W0.heap.size W0 W0 bl [] := ⟨⟨_, by rw [hbl]; exact hf10.heap HX.out.2.1 (fun h => h), OwnI.nil _ _⟩, Fr.refl _ _⟩
  have hblw : bl < W0.heap.size := by omega
  have h1 := hTn bb (by omega) (by omega)
  have h2 := hTn (bb + 1) (by omega) (by omega)
  have h3 : ∀ k, F k → ¬ T k := fun k hk => hTn _ (by have := hFw k hk; omega) (by have := hFw k hk; omega)
  have h4 := hTn 0 (by omega) (by omega)
  have h5 : ∀ k, F k → k < W0.heap.size := fun k hk => by have := hFw k hk; omega
  have hpn := placesR_length b s
  have HV := Lib.hid (And.intro hT (And.intro hT0 (And.intro hz0 (And.intro hfw (And.intro hblw (And.intro hbl hpn))))))
  clear hf2 hf0 hf10 j1 j2 hs12 hW0 hT hbb hbl hz0 hz1 hml hFw hfw hpn
  refine (wpIn_wide (n := 3)).1 ?_
  refine wpIn_rangeFunc_ownH rfl (by decide) (gf := 25) (lb := #[.pointer (some ⟨bb, 0, none⟩), .pointer (some ⟨bb + 1, 0, none⟩)]) rfl trivial (enters_of Try.func25 (by kernel_rfl) rfl)
    (places_stops (T := T) 2 bb (bb + 1) _ b s HX.out.2.2.2.2.2.2 (by have := HX.out.2.2.2.2.2.1; omega) h1 h2 h3 h4 W0 h5 hIt)
    (fun h k => h.trans k (fun _ hi => .inl hi)) (fun W l o o' hl _ _ _ => fr_putObj W l o' (hT0 l hl)) (Below.refl _ _) (fun _ => rfl)
    (fun (pre : List Nat) W => PsAt T W0.heap.size W0 W bl pre ∧ pre.length ≤ 1000000)
    (fun c (pre : List Nat) W => False)
    (fun pre A B row hs hg hr => ⟨hs.1.grown hblw hT0 hg hr, hs.2⟩)
    (fun c pre A B row hs hg hr => hs.elim)
    ⟨hst0, by simp⟩
    (fun x a' W => a' = ⟨#[.slice ao n cap, .agg C, undef, .pointer (some ⟨w.heap.size, 0, none⟩), .slice none 0 0, .pointer (some ⟨bl, 0, none⟩), .int .i64 (x : Nat), .slice ao n cap, .agg C, .agg (ltC s), .func (.func 25) #[] #[.pointer (some ⟨bb, 0, none⟩), .pointer (some ⟨bb + 1, 0, none⟩)], .int .i64 (x : Nat), undef, undef, undef, undef, undef], []⟩)
    (fun x a' s A B row hs hg hr => hs) ?assign ?body ?done ?stop
  case assign =>
    rintro l9 pre x W' K hI hK
    simp only [encI]
    gi_wp2
    exact hK _ _ (KeepsFrom.refl _ _) (Fr.refl _ _) hI rfl
  case body =>
    rintro l9 pre x a' W hll hr9 hst rfl hlt9
    obtain ⟨v0, h1, ho⟩ := hst.1.own
    obtain ⟨a0, c0, rfl⟩ := ho.form
    have el := cell_of_one h1
    have hbi := run_int1 W (x : Int)
    obtain ⟨a9, n9, c9, w9, hrun, ho9, hf9⟩ := run_append_i W 26 _ pre x ho (by have := hst.1.fr.size; omega) (by have := HV.out.2.2.2.2.2.2; have := HX.out.2.2.2.2.2.1; omega)
    have hs := hst.1.step hblw hT0 (by rw [HV.out.1]; exact .inl rfl) h1 ho ho9 hf9
    have hl9 := hf9.heap h1 (fun e => by have := (OwnE.own ho _ e).1; omega)
    obtain ⟨q1, q2⟩ := one_cell hl9
    have HS := Lib.hid hs
    have hpl : pre.length + 1 ≤ 1000000 := by have := HV.out.2.2.2.2.2.2; have := HX.out.2.2.2.2.2.1; omega
    clear hs ho9 hf9 h1 ho hst hl9
    gi_wp2_with (refine wpListIn_value (.round l9) rfl (by intro c h; cases h) (.slice a9 n9 c9) w9 (op_append7 rfl rfl rfl hrun) ?_)
    exact ⟨HS.out.1, HS.out.2.1, HS.out.2.2, by rw [List.length_append]; exact hpl⟩
  case done =>
    rintro D ys W hD rfl hst hK
    obtain ⟨v0, h1, ho⟩ := hst.1.own
    obtain ⟨a0, c0, rfl⟩ := ho.form
    have el := cell_of_one h1
    have HI := Lib.hid (And.intro ho hst.1.fr)
    have HK := Lib.hid hK
    clear h1 ho hst hK
    go_wp2
    refine ⟨by simp, .inl ⟨_, _, rfl, run_takeDeferred HK.out, ?_⟩⟩
    have hfd := fr_putObj (T := (· = D)) W D (.deferred none) rfl
    refine ⟨_, results_tmp rfl _ _ _, _, rfl, ?_, (HV.out.2.2.2.1.trans (S := fun _ => False) HI.out.2 (fun k hk => ?_)).trans hfd (fun k e => .inr (by have : k = D := e; have := HV.out.2.2.2.1.size; omega))⟩
    · have h9 := OwnE.keep HI.out.1 hfd (fun g hg e => by
        obtain ⟨cs, hb⟩ := OwnE.ownCells HI.out.1 hg
        rw [show g = D from e, HK.out] at hb
        cases hb)
      exact OwnI.lower h9 (HV.out.2.2.2.1.size)
    · rw [HV.out.1] at hk
      have := HV.out.2.2.2.1.size
      have := HV.out.2.2.2.2.2.1
      rcases hk with hk | hk <;> exact .inr (by omega)
  case stop =>
    rintro D c pre W hD hpre hst hK
    exact hst.elim
theorem fPlaces_any {F : Nat → Prop} (w : World) (v : Value) (b H : List UInt8) (hH : H.length = 20) (hv : BytesIn F w v b) (hF : ∀ k, F k → k < w.heap.size) (hb : b.length ≤ 1000000) (hm : MlAt w) :
    Calls Try.prog 6 #[v, .agg (H.map bv).toArray] w fun e w' => ∃ u, e = .returned u ∧ OwnI w.heap.size w' u (placesR b (letL H)) ∧ Fr (fun _ => False) w w' := callsIn_wide.1 (fPlaces_in w v b H hH hv hF hb hm)
end Go.Proofs.Ytfkgdjoaoidkeaa
namespace Go.Proofs.Ytfkgdjoaoidkeaa
open Go.RowKit Go.ChangeShapes
set_option linter.unusedVariables false
theorem OwnB.caseB {F : Nat → Prop} {w : World} {v : Value} {L : List UInt8} (h : OwnB F w v L) : (v = .slice none 0 0 ∧ L = []) ∨ ∃ g cap cur, v = .slice (some ⟨g, 0, none⟩) L.length cap ∧ F g ∧ w.heap[g]? = some (.cells cur 5 (0, 0)) ∧ L.length ≤ cap ∧ cap ≤ maxLen ∧ cur.size = cap ∧ cur.toList.take L.length = L.map bv := by
  rcases h.1.2 with ⟨hv, h0⟩ | ⟨g, cap, cur, hv, hb, hg, hnc, hcm, hcs, ht⟩
  · exact .inl ⟨hv, List.eq_nil_of_length_eq_zero h0⟩
  · refine .inr ⟨g, cap, cur, hv, h.2 g (by rw [hv]; rfl), hg, hnc, hcm, by simpa using hcs, by simpa using ht⟩
theorem run_copy_put {F : Nat → Prop} (w : World) (g cap p gl : Nat) (L s : List UInt8) (h : OwnB F w (.slice (some ⟨g, 0, none⟩) L.length cap) L) (hl : w.heap[gl]? = some (.cells (ltC s) 47 (0, 0))) (hs : s.length = 32) (hp : p + 32 ≤ L.length) :
    ∃ w', (∀ ty, (Builtin.copy_ #[22, 22] ty #[.slice (some ⟨g, p, none⟩) (L.length - p) (cap - p), .slice (some ⟨gl, 0, none⟩) 32 32]).run Try.prog w = .ok (.int .i64 32) w') ∧ OwnB F w' (.slice (some ⟨g, 0, none⟩) L.length cap) (putR s L p) ∧ Fr (· = g) w w' := by
  rcases h.1.2 with ⟨hv, h0⟩ | ⟨g', cap', cur, hv, hb, hg, hnc, hcm, hcs, ht⟩
  · cases hv
  · simp only [Value.slice.injEq, Option.some.injEq, Addr.mk.injEq, and_true, true_and] at hv
    obtain ⟨rfl, rfl⟩ := hv
    rw [Nat.mul_one] at hcs ht
    have hrun := fun ty => run_copy_row (P := Try.prog) w 22 22 ty 5 g p (L.length - p) (cap - p) ⟨gl, 0, none⟩ 32 32 cur 5 (s.map bv) Try.underlying22 (by kernel_rfl) hg (by rw [List.length_map, hs]; exact (Nat.min_eq_left (by omega)).symm)
      (fun j v hv => by
        rw [addr_plain, Nat.zero_add, cell_of_row _ _ _ _ _ _ hl]
        unfold ltC
        rw [List.getElem?_toArray]
        exact hv) (by rw [List.length_map, hs]; omega) (bv_one _)
    refine ⟨_, fun ty => by rw [hrun ty, List.length_map, hs]; rfl, ⟨⟨?_, .inr ⟨g, cap, _, by rw [putR_length hs hp], hb, setRow_heap w g _ _ _ (0, 0) hg, by rw [putR_length hs hp]; exact hnc, hcm, ?_, ?_⟩⟩, h.2⟩, (Fr.refl (· = g) w).setRow (.inl rfl) _⟩
    · rw [List.length_map, putR_length hs hp]; simp
    · have hcl : cur.toList.length = cap := by rw [Array.length_toList]; exact hcs
      simp only [List.size_toArray, List.length_append, List.length_take, List.length_drop, List.length_map, hcl, hs]
      omega
    · have hcl : cur.toList.length = cap := by rw [Array.length_toList]; exact hcs
      rw [Nat.mul_one, putR_length hs hp]
      unfold putR
      rw [List.map_append, List.map_append, List.map_take, List.map_drop, ← ht, List.take_take, Nat.min_eq_left (by omega), List.drop_take]
      have h1 : (cur.toList.take p).length = p := by rw [List.length_take]; omega
      have h2 : (cur.toList.take p ++ s.map bv).length = p + 32 := by rw [List.length_append, h1, List.length_map, hs]
      rw [List.take_append, h2, List.take_of_length_le (by rw [h2]; omega)]
set_option maxRecDepth 100000 in
set_option maxHeartbeats 4000000 in
theorem fWith_any {F : Nat → Prop} (w : World) (v : Value) (b H s : List UInt8) (hH : H.length = 20) (hs : s.length = 32) (hv : BytesIn F w v b) (hF : ∀ k, F k → k < w.heap.size) (hb : b.length ≤ 1000000) (hm : MlAt w) :
    Calls Try.prog 19 #[v, .agg (H.map bv).toArray, .agg (ltC s)] w fun e w' => ∃ x y, e = .returned (.tuple #[x, y]) ∧ OwnB (fun k => w.heap.size ≤ k) w' x (withR s b (placesR b (letL H))) ∧ IntsR (fun k => w.heap.size ≤ k) w' y (placesR b (letL H)) ∧ Fr (fun _ => False) w w' := by
  obtain ⟨C, hC⟩ : ∃ C, C = (H.map bv).toArray := ⟨_, rfl⟩
  have hcs : C.size = 20 := by rw [hC]; simp [hH]
  have HPL := Lib.hid (fun W (hv : BytesIn F W v b) (hF : ∀ k, F k → k < W.heap.size) (hm : MlAt W) => fPlaces_any W v b H hH hv hF hb hm)
  rw [← hC] at HPL ⊢
  have hroom := fun p hp => placesR_room (b := b) (letL_length H) (p := p) hp
  have hpn := placesR_length b (letL H)
  obtain ⟨L, hL⟩ : ∃ L, L = placesR b (letL H) := ⟨_, rfl⟩
  rw [← hL] at HPL hroom hpn ⊢
  clear hC hL hH
  obtain ⟨S, hS⟩ : ∃ S, S = ltC s := ⟨_, rfl⟩
  rw [← hS]
  obtain ⟨W1, hW1⟩ : ∃ W1, W1 = (w.alloc (.cells C 24)).alloc (.cells S 47) := ⟨_, rfl⟩
  have hf1 : Fr (fun _ => False) w W1 := by rw [hW1]; exact ((Fr.refl _ _).alloc _).alloc _
  have hz1 : W1.heap.size = w.heap.size + 2 := by rw [hW1]; simp
  have hr1 : W1.heap[w.heap.size]? = some (.cells C 24 (0, 0)) := by rw [hW1]; exact heap_alloc2_old w _ _
  have hr2 : W1.heap[w.heap.size + 1]? = some (.cells S 47 (0, 0)) := by rw [hW1]; exact heap_alloc2_new w _ _
  have HW := Lib.hid hW1
  have HX := Lib.hid (And.intro hf1 (And.intro hr1 (And.intro hr2 (And.intro (hv.keep hf1 (fun _ _ _ h => h)) (And.intro (hm.keep hf1 (fun h => h)) (And.intro hF hz1))))))
  have HB := Lib.hid (And.intro hb (And.intro hroom (And.intro hpn (And.intro hs hS))))
  clear hW1 hf1 hr1 hr2 hv hF hm hb hroom hpn hs hS hz1
  go_enter Try.func19, Try.ntmps19
  go_wp2_with (first
    | (rw [← HW.out]; (at_builtin; refine wpList_append_bytes (F := fun k => W1.heap.size ≤ k) (G := F) _ rfl (.const (.slice none 0 0)) (.tmp 12) rfl _ _ [] b rfl rfl (OwnB.nil _ _) HX.out.2.2.2.1 (by have := HB.out.1; simp; omega) ?next)))
  case next =>
    intro x0 w2 ho2 hg2 _
    have hf2 : Fr (fun _ => False) W1 w2 := (Fr.refl _ _).grown hg2 (fun k hk => by simp [Value.ownBlock] at hk)
    obtain ⟨g, cap, ao, rfl, hao, hcap, hown⟩ : ∃ g cap ao, x0 = .slice ao b.length cap ∧ (0 < b.length → ao = some ⟨g, 0, none⟩ ∧ b.length ≤ cap) ∧ cap ≤ maxLen ∧ ∀ j, (Value.slice ao b.length cap).ownBlock = some j → W1.heap.size ≤ j ∧ j < w2.heap.size := by
      rcases ho2.caseB with ⟨rfl, rfl⟩ | ⟨g, cap, cur, rfl, h1, h2, h3, h4, h5, h6⟩
      · exact ⟨0, 0, none, rfl, fun h => by simp at h, by simp, fun j hj => by simp [Value.ownBlock] at hj⟩
      · exact ⟨g, cap, _, rfl, fun _ => ⟨rfl, h3⟩, h4, fun j hj => by
          simp only [Value.ownBlock, Option.some.injEq] at hj
          exact hj ▸ ⟨h1, lt_of_block h2⟩⟩
    have hr4 := hf2.heap HX.out.2.1 (fun h => h)
    have HP := Lib.hid (HPL.out w2 (HX.out.2.2.2.1.keep hf2 (fun _ _ _ h => h)) (fun k hk => by have := HX.out.2.2.2.2.2.1 k hk; have := hf2.size; have := HX.out.2.2.2.2.2.2; omega) (HX.out.2.2.2.2.1.keep hf2 (fun h => h)))
    have H2 := Lib.hid (And.intro ho2 (And.intro hf2 (And.intro hao (And.intro hcap hown))))
    clear ho2 hg2 hf2 hao hcap hown
    go_wp2_with (first
      | (with_reducible refine wpList_load_row rfl 24 (.tmp 4) rfl w.heap.size rfl 24 C (0, 0) _ hr4 Try.underlying24 rfl (by rw [hcs]; kernel_rfl) ?_)
      | (go_at_call 6; refine HP.out.mono ?_; rintro e w3 ⟨u, rfl, ho3, hf3⟩; (obtain ⟨au, cu, hu, hcu1, hcu2, bq, oq, hau, hcq⟩ := ho3.ints); subst hu; (have H3 := Lib.hid (And.intro ho3 (And.intro hf3 (And.intro hau hcq)))); (obtain ⟨m, hmm⟩ : ∃ m, m = L.length := ⟨_, rfl⟩); (have HM := Lib.hid (show L.length = m from hmm.symm)); rw [← hmm]; clear ho3 hf3 hau hcq hmm hr4))
    have hm6 : m ≤ 1000000 := by have := HM.out; have := HB.out.1; have := HB.out.2.2.1; omega
    obtain ⟨x0, hx0⟩ : ∃ x0, x0 = Value.slice ao b.length cap := ⟨_, rfl⟩
    have H0 := Lib.hid (show OwnB (fun k => W1.heap.size ≤ k) w3 x0 (withR s b (L.take 0)) ∧ Fr (fun j => x0.ownBlock = some j) w3 w3 from ⟨by rw [hx0]; exact H2.out.1.keep H3.out.2.1 (fun _ _ _ h => h), Fr.refl _ _⟩)
    have HX0 := Lib.hid hx0
    clear hx0
    go_loopw [11, 19] (fun pv kv wr => ∃ k : Nat, k ≤ m ∧ kv = .int .i64 k ∧ Hid (OwnB (fun k => W1.heap.size ≤ k) wr x0 (withR s b (L.take k)) ∧ Fr (fun j => x0.ownBlock = some j) w3 wr)) (fun _ kv _ => m - (intOf kv).toNat)
    case atStart => exact ⟨0, by omega, rfl, H0⟩
    case round =>
      clear H0
      obtain ⟨k, hk, rfl, hR⟩ := hrel
      by_cases hlt : k < m
      · have hkL : k < L.length := by have := HM.out; omega
        obtain ⟨p, hp⟩ : ∃ p, p = L[k] := ⟨_, rfl⟩
        have hpr : p + 32 ≤ b.length := HB.out.2.1 p (by rw [hp]; exact List.getElem_mem _)
        obtain ⟨rfl, hbq⟩ := H3.out.2.2.1 (by omega)
        obtain ⟨rfl, hncap⟩ := H2.out.2.2.1 (by omega)
        have hng : ∀ j, x0.ownBlock = some j → j = g := fun j hj => by rw [HX0.out] at hj; simpa [Value.ownBlock] using hj.symm
        have hgl := H2.out.2.2.2.2 g rfl
        have hcq : wr.cell? ⟨bq, oq + k, none⟩ = some (.int .i64 (p : Nat)) := hR.out.2.cell (by rw [hp]; exact H3.out.2.2.2 k hkL) (fun e => by have := hng _ e; simp only at this; omega)
        have hlb : wr.heap[w.heap.size + 1]? = some (.cells (ltC s) 47 (0, 0)) := hR.out.2.heap (by rw [← HB.out.2.2.2.2]; exact H3.out.2.1.heap (H2.out.2.1.heap HX.out.2.2.1 (fun h => h)) (fun h => h)) (fun e => by have := hng _ e; have := HX.out.2.2.2.2.2.2; omega)
        have hwl : (withR s b (L.take k)).length = b.length := withR_length HB.out.2.2.2.1 _ _ (fun q hq => HB.out.2.1 q (List.mem_of_mem_take hq))
        have hob := hR.out.1
        rw [HX0.out, ← hwl] at hob
        obtain ⟨w9, hcp, ho9, hf9⟩ := run_copy_put wr.drew g cap p (w.heap.size + 1) _ s hob hlb HB.out.2.2.2.1 (by rw [hwl]; exact hpr)
        rw [hwl] at hcp ho9
        have hcl := fun W => run_cutLow W (some ⟨g, 0, none⟩) b.length cap p (by omega)
        rw [show cutLow (some ⟨g, 0, none⟩) p cap = some ⟨g, p, none⟩ by unfold cutLow; rw [if_neg (by omega), Option.map_some, addr_plain, Nat.zero_add]] at hcl
        have hcb := fun W => run_cutLet W (w.heap.size + 1)
        have H9 := Lib.hid (And.intro ho9 (And.intro hf9 (show x0.ownBlock = some g by rw [HX0.out]; rfl)))
        have HP9 := Lib.hid hp
        have hlt64 : (k : Int) < (m : Int) := by omega
        have hkcu : k < m := hlt
        clear hp hpr hbq hncap hng hgl hlb hwl hob ho9 hf9
        go_wp2
        go_region
        go_wp2
        go_roundw
        case rel =>
          refine ⟨k + 1, by omega, by go_num, Lib.hid ⟨?_, hR.out.2.trans ((Fr.ofDrew H9.out.2.1).mono (T := fun j => x0.ownBlock = some j) (fun i _ e => by rw [show i = g from e]; exact H9.out.2.2)) (fun _ h => .inl h)⟩⟩
          rw [withR_take_succ hkL, ← HP9.out, HX0.out]
          exact H9.out.1
        case measure => simp [intOf]; omega
      · obtain rfl : k = m := by omega
        have hd : decide ((k : Int) < (k : Int)) = false := by rw [decide_eq_false_iff_not]; omega
        have HF := Lib.hid (show OwnB (fun k => W1.heap.size ≤ k) wr (.slice ao b.length cap) (withR s b L) ∧ Fr (fun j => x0.ownBlock = some j) w3 wr by
          have h1 := hR.out.1
          rw [List.take_of_length_le (by rw [HM.out]; exact Nat.le_refl _), HX0.out] at h1
          exact ⟨h1, hR.out.2⟩)
        go_wp2
        go_ret2
        trace_state
        have hx : ∀ j, x0.ownBlock = some j → W1.heap.size ≤ j ∧ j < w2.heap.size := fun j hj => by rw [HX0.out] at hj; exact H2.out.2.2.2.2 j hj
        have hz := HX.out.2.2.2.2.2.2
        have hz2 := H2.out.2.1.size
        refine ⟨_, _, rfl, HF.out.1.mono (fun j _ hj => by omega), ?_, ((HX.out.1.trans H2.out.2.1 (fun _ h => h.elim)).trans H3.out.2.1 (fun _ h => h.elim)).trans HF.out.2 (fun j hj => .inr (by have := (hx j hj).1; omega))⟩
        have h1 := (H3.out.1.ints).keep HF.out.2 (fun j _ hj e => by have := (hx j e).2; omega)
        rw [HM.out] at h1
        exact h1.mono (fun j _ hj => by omega)
end Go.Proofs.Ytfkgdjoaoidkeaa
namespace Go.Proofs.Ytfkgdjoaoidkeaa
def valN (c : UInt8) : Nat := (valI c).toNat
def hashBit (S : List UInt8) (p : Nat) : Nat := valN (S.getD (p / 5) 0) / 2 ^ (p % 5) % 2
def hbyte (S : List UInt8) (j m : Nat) : Nat → Nat
  | 0 => 0
  | t + 1 => hbyte S j m t + (if 8 * m + t < j then hashBit S (8 * m + t) * 2 ^ t else 0)
def hB (S : List UInt8) (j m : Nat) : Nat := hbyte S j m 8
end Go.Proofs.Ytfkgdjoaoidkeaa
namespace Go.Proofs.Ytfkgdjoaoidkeaa
open Go.RowKit Go.ChangeShapes
set_option linter.unusedVariables false
section
variable {P : Program} {w : World} {o : Oper} {a : Act}
theorem op_loadAt {t : TypeId} {x : Operand} {vx v : Value} (ho : o.op = .load t x) (hx : a.eval x = vx) (hr : (Instr.loadAt t vx).run P w = .ok v w) : (execOp a.eval o).run P w = .ok (.value v) w := by
  unfold execOp
  rw [ho]
  simp only [hx, Sem.run_bind, hr, Result.andThen_ok]
  rfl
theorem op_indexAddr {t : TypeId} {x i : Operand} {vx vi v : Value} (ho : o.op = .indexAddr t x i) (hx : a.eval x = vx) (hi : a.eval i = vi) (hr : (Instr.indexAt t vx vi).run P w = .ok v w) : (execOp a.eval o).run P w = .ok (.value v) w := by
  unfold execOp
  rw [ho]
  simp only [hx, hi, Sem.run_bind, hr, Result.andThen_ok]
  rfl
end
theorem guard_str (w : World) (op : BinOp) (x y : Operand) (A Bb : ByteArray) : (eqGuard op 9 x y (.string A) (.string Bb)).run Try.prog w = .ok () w := by cases op <;> rfl
theorem guard_int (w : World) (op : BinOp) (T : TypeId) (k : IntKind) (x y : Operand) (A Bb : Int) : (eqGuard op T x y (.int k A) (.int k Bb)).run Try.prog w = .ok () w := by cases op <;> rfl
def Rows (w : World) (l : List (Nat × Array Value × TypeId)) : Prop := ∀ x ∈ l, w.heap[x.1]? = some (.cells x.2.1 x.2.2 (0, 0))
theorem Rows.keep {w w' : World} {l : List (Nat × Array Value × TypeId)} (h : Rows w l) (hf : Fr (fun _ => False) w w') : Rows w' l := fun x hx => hf.heap (h x hx) (fun h => h)
end Go.Proofs.Ytfkgdjoaoidkeaa
namespace Go.Proofs.Ytfkgdjoaoidkeaa
open Go.RowKit Go.ChangeShapes Go.WideShapes Go.Deep
set_option linter.unusedVariables false
theorem u8_of_wf {n : Int} (h : (Lit.int .u8 n).wf = true) : ((UInt8.ofNat n.toNat).toNat : Int) = n := by
  obtain ⟨h0, h1⟩ := bounds_u8 h
  rw [UInt8.toNat_ofNat']
  omega
theorem Try.cellsB : Try.prog.cellsOf 5 = 1 := by kernel_rfl
theorem Try.bytesB : Try.prog.bytesOf 5 = 1 := by kernel_rfl
section
variable {H : Type} {enc : TypeId × Value → H} {w : World} {base fuel : Nat} {held : Bool} {cs : List Value} {x : DataW H × List MemPlace}
theorem open_arr {t : TypeId} {n : Nat} (ht : Try.prog.underlying t = some (.array n 5)) (hc : Try.prog.cellsOf t = n) (h : DataW.trod enc Try.prog w base (fun _ => true) held fuel t cs = some x) :
    ∃ L : List UInt8, L.length = n ∧ cs = L.map bv := by
  obtain ⟨xs, m, rfl, _, hl, hn, hi⟩ := DataW.trod_array ht h
  rw [hc] at hl
  refine ⟨cs.map fun v => match v with | .int _ z => UInt8.ofNat z.toNat | _ => 0, by simpa using hl, ?_⟩
  rw [List.map_map]
  apply List.ext_getElem?
  intro i
  rw [List.getElem?_map]
  by_cases hin : i < n
  · have h1 := hi i hin
    rw [Try.cellsB, Nat.mul_one] at h1
    have hx : xs[i]? = some (xs[i]'(by omega)) := List.getElem?_eq_getElem (by omega)
    rw [hx] at h1
    obtain ⟨z, e1, _, e3⟩ := DataW.trod_int Try.underlying5 h1
    have h2 : cs[i]? = some (.int .u8 z) := by
      have := congrArg (·[0]?) e1
      simpa [List.getElem?_take, List.getElem?_drop] using this
    rw [h2]
    simp only [Option.map_some, Function.comp, bv, u8_of_wf e3]
  · rw [List.getElem?_eq_none (by omega)]
    rfl
theorem open_bytes (h : DataW.trod enc Try.prog w base (fun _ => true) held fuel 22 cs = some x) (hz : ∀ n ∈ x.1.weights Try.prog 22, n ≤ reachBytes) :
    ∃ v L, cs = [v] ∧ BytesIn (fun k => k < w.heap.size) w v L ∧ L.length ≤ 140737488351232 := by
  rcases open_ints Try.underlying22 Try.underlying5 Try.cellsB h with ⟨rfl, _⟩ | ⟨a, len, cap, zs, rfl, _, hl, hm, hzl, hx, hc, hwf⟩
  · exact ⟨_, [], rfl, BytesIn.nil _ _, by simp⟩
  · simp only [if_true] at hzl
    have hlen : ((zs.take len).map fun z => UInt8.ofNat z.toNat).length = len := by rw [List.length_map, List.length_take]; omega
    refine ⟨_, (zs.take len).map fun z => UInt8.ofNat z.toNat, rfl, ⟨some a, cap, by rw [hlen], by rw [hlen]; exact hl, hm, (fun h => by cases h), ?_⟩, ?_⟩
    · intro a' ha
      cases ha
      refine ⟨fun j u hu => ?_, fun hL => ?_⟩
      · have hj : j < len := by have := (List.getElem?_eq_some_iff.1 hu).1; rw [List.length_map, hlen] at this; exact this
        have hjz : j < zs.length := by omega
        rw [hc j hjz]
        have hmem := hwf (zs[j]) (List.getElem_mem _)
        rw [List.getElem?_map, List.getElem?_map, List.getElem?_take, if_pos hj, List.getElem?_eq_getElem hjz] at hu
        simp only [Option.map_some, Option.some.injEq] at hu
        rw [← hu, bv, u8_of_wf hmem]
        simp [List.getD, List.getElem?_eq_getElem hjz]
      · have hp : 0 < len := by have := List.length_pos_iff.2 hL; omega
        have := World.block_lt_of_cell? _ _ (hc 0 (by omega))
        rwa [add_block] at this
    · rw [hlen]
      have := hz ((zs.take len).length + (zs.drop len).length) (by rw [hx]; simp [DataW.weights, Try.underlying22, Try.bytesB, lits])
      rw [List.length_take, List.length_drop] at this
      simp only [reachBytes] at this
      omega
end
end Go.Proofs.Ytfkgdjoaoidkeaa
namespace Go.Proofs.Ytfkgdjoaoidkeaa
open Go.RowKit Go.ChangeShapes Go.WideShapes Go.Deep
set_option linter.unusedVariables false
structure PathX where
  h : List UInt8
  n : ByteArray
  hl : h.length = 20
instance : Inhabited PathX := ⟨⟨List.replicate 20 0, ⟨#[]⟩, rfl⟩⟩
theorem PathX.ext {x y : PathX} (h1 : x.h = y.h) (h2 : x.n = y.n) : x = y := by
  obtain ⟨a, b, c⟩ := x
  obtain ⟨a', b', c'⟩ := y
  simp only at h1 h2
  subst h1
  subst h2
  rfl
instance : DecidableEq PathX := fun x y =>
  if h : x.h = y.h ∧ x.n = y.n then .isTrue (PathX.ext h.1 h.2) else .isFalse (fun e => h (by rw [e]; exact ⟨rfl, rfl⟩))
theorem Fr.range {S : Nat → Prop} {w w' : World} {b o : Nat} {cs : List Value} (hf : Fr S w w') (h : w.rangeAt b o cs) (hb : ¬ S b) : w'.rangeAt b o cs := fun j v hv => by
  exact hf.cell (h j v hv) hb
section
variable {H : Type} {enc : TypeId × Value → H} {w : World} {base fuel : Nat} {held : Bool} {cs : List Value} {x : DataW H × List MemPlace}
end
end Go.Proofs.Ytfkgdjoaoidkeaa
namespace Go.Proofs.Ytfkgdjoaoidkeaa
open Go.RowKit Go.ChangeShapes
set_option linter.unusedVariables false
section
variable {P : Program} {w : World} {o : Oper} {a : Act}
end
theorem op_len5 {w : World} {o : Oper} {a : Act} {x : Operand} {ao : Option Addr} {n cap : Nat} (ho : o.op = .call { callee := .builtin .len, args := #[x], argTypes := #[22] }) (hx : a.eval x = .slice ao n cap) :
    (execOp a.eval o).run Try.prog w = .ok (.value (.int .i64 n)) w := by
  obtain ⟨d, op, ty, pos, aft, g⟩ := o
  simp only at ho
  subst ho
  simp [execOp, resolve, invoke, builtin, Builtin.len_, hx, Result.andThen, goInt]
theorem load_one5 (w : World) (T : TypeId) (p : Addr) (v : Value) (hT : (isAgg T).run Try.prog w = .ok false w) (h : w.cell? p = some v) : (Instr.loadAt T (.pointer (some p))).run Try.prog w = .ok v w := by
  simp [Instr.loadAt, Instr.sureAddr, loadVar, hT, h, go_sem]
theorem load_int5 (w : World) (p : Addr) (v : Value) (h : w.cell? p = some v) : (Instr.loadAt 3 (.pointer (some p))).run Try.prog w = .ok v w := load_one5 w _ p v (by kernel_rfl) h
section
variable {w : World} {T : TypeId} {k : IntKind} {x y : Int}
theorem lss_no (h : y ≤ x) : (binOp .lss T (.int k x) (.int k y)).run Try.prog w = .ok (.bool false) w := by rw [binOp_lss]; simp [h]
theorem gtr_yes (h : y < x) : (binOp .gtr T (.int k x) (.int k y)).run Try.prog w = .ok (.bool true) w := by rw [binOp_gtr]; simp [h]
theorem gtr_no (h : x ≤ y) : (binOp .gtr T (.int k x) (.int k y)).run Try.prog w = .ok (.bool false) w := by rw [binOp_gtr]; simp [h]
theorem eql_yes : (binOp .eql T (.int k x) (.int k x)).run Try.prog w = .ok (.bool true) w := by rw [binOp_eql]; simp
end
theorem wrap_in5 {x : Int} (h0 : -9223372036854775808 ≤ x) (h1 : x ≤ 9223372036854775807) : IntKind.i64.wrap x = x := IntWalk.i64_in x (by omega)
theorem add_in5 {w : World} {T : TypeId} {x y z : Int} (hz : x + y = z) (h0 : -9223372036854775808 ≤ z) (h1 : z ≤ 9223372036854775807) : (binOp .add T (.int .i64 x) (.int .i64 y)).run Try.prog w = .ok (.int .i64 z) w := by
  rw [binOp_add]
  subst hz
  simp [Op.intArith, wrap_in5 h0 h1, go_sem]
theorem sub_in5 {w : World} {T : TypeId} {x y z : Int} (hz : x - y = z) (h0 : -9223372036854775808 ≤ z) (h1 : z ≤ 9223372036854775807) : (binOp .sub T (.int .i64 x) (.int .i64 y)).run Try.prog w = .ok (.int .i64 z) w := by
  rw [binOp_sub]
  subst hz
  simp [Op.intArith, wrap_in5 h0 h1, go_sem]
theorem op_extract5 {P : Program} {w : World} {o : Oper} {a : Act} {x : Operand} {i : Nat} {vs : Array Value} {v : Value} (ho : o.op = .extract x i) (hx : a.eval x = .tuple vs) (hv : vs[i]? = some v) : (execOp a.eval o).run P w = .ok (.value v) w := by
  unfold execOp
  rw [ho]
  simp only [hx, Instr.extract, hv]
  rfl
end Go.Proofs.Ytfkgdjoaoidkeaa
