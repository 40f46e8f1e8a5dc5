/- ViewLast returns true for every quota and every list of deeds, and each argument reads afterwards as it read before. No condition but the given row's own. -/
import Derived.Test.YteockhemeneioaaVl0
import Derived.Test.YteockhemeneioaaVl7
import Derived.Deep.Fields
import Derived.Test.YteockhemeneioaaVl19
import Derived.Test.YteockhemeneioaaVl2
import Derived.ChangeOld
import Derived.Below

namespace Go.Proofs.Yteockhemeneioaa
open Go.RowKit Go.ChangeShapes Go.WideShapes Go.Deep
set_option linter.unusedVariables false
section
variable {H : Type} {enc : TypeId × Value → H} {w : World} {base fuel : Nat} {held : Bool} {cs : List Value} {x : DataW H × List MemPlace}
theorem list4c {α : Type} {l : List α} (h : l.length = 4) : ∃ a b c d, l = [a, b, c, d] := by
  match l, h with
  | [a, b, c, d], _ => exact ⟨a, b, c, d, rfl⟩
theorem Try.cellsQt : Try.prog.cellsOf 38 = 4 := by kernel_rfl
theorem Try.cellsI : Try.prog.cellsOf 3 = 1 := by kernel_rfl
theorem open_quota {n : Nat} {y : DataW H × List MemPlace} (h : DataW.trod enc Try.prog w base (fun _ => true) held n 38 cs = some y) :
    ∃ q : Qt, cs = qC q := by
  obtain ⟨xs, m, _, hy, hcl, hxl, hf⟩ := DataW.trod_struct Try.underlying38 h
  rw [Try.cellsQt] at hcl
  obtain ⟨c0, c1, c2, c3, rfl⟩ := list4c hcl
  obtain ⟨y0, y1, y2, y3, rfl⟩ := list4c (l := xs) hxl
  have e0 : DataW.trod enc Try.prog w base (fun _ => true) held m 3 [c0] = some y0 := by
    have h : DataW.trod enc Try.prog w base (fun _ => true) held m 3 (([c0, c1, c2, c3].drop 0).take (Try.prog.cellsOf 3)) = some y0 := hf 0 _ rfl
    rw [Try.cellsI] at h
    exact h
  have e1 : DataW.trod enc Try.prog w base (fun _ => true) held m 3 [c1] = some y1 := by
    have h : DataW.trod enc Try.prog w base (fun _ => true) held m 3 (([c0, c1, c2, c3].drop 1).take (Try.prog.cellsOf 3)) = some y1 := hf 1 _ rfl
    rw [Try.cellsI] at h
    exact h
  have e2 : DataW.trod enc Try.prog w base (fun _ => true) held m 3 [c2] = some y2 := by
    have h : DataW.trod enc Try.prog w base (fun _ => true) held m 3 (([c0, c1, c2, c3].drop 2).take (Try.prog.cellsOf 3)) = some y2 := hf 2 _ rfl
    rw [Try.cellsI] at h
    exact h
  have e3 : DataW.trod enc Try.prog w base (fun _ => true) held m 3 [c3] = some y3 := by
    have h : DataW.trod enc Try.prog w base (fun _ => true) held m 3 (([c0, c1, c2, c3].drop 3).take (Try.prog.cellsOf 3)) = some y3 := hf 3 _ rfl
    rw [Try.cellsI] at h
    exact h
  obtain ⟨n0, r0, _, w0⟩ := DataW.trod_int Try.underlying3 e0
  obtain ⟨n1, r1, _, w1⟩ := DataW.trod_int Try.underlying3 e1
  obtain ⟨n2, r2, _, w2⟩ := DataW.trod_int Try.underlying3 e2
  obtain ⟨n3, r3, _, w3⟩ := DataW.trod_int Try.underlying3 e3
  simp only [List.cons.injEq, and_true] at r0 r1 r2 r3
  subst r0 r1 r2 r3
  exact ⟨⟨n0, n1, n2, n3⟩, rfl⟩
end
end Go.Proofs.Yteockhemeneioaa
namespace Go.Proofs.Yteockhemeneioaa.viewLast
open Go.RowKit Go.ChangeShapes Go.WideShapes Go.ChangeAt
set_option linter.unusedVariables false
theorem own : ownKnob Try.prog.godebug = none := by kernel_rfl
theorem laidOut : laidOutB Try.prog = true := by kernel_rfl
set_option maxRecDepth 100000 in
set_option maxHeartbeats 4000000 in
theorem lifted (os : Os) (started : os.Started) (H : Type) (enc : TypeId × Value → H) :
    ReturnsInHanded {} Try.checked os 7 .any (Rows.viewLastSpec.pre6 enc Try.prog Try.f7 Rows.viewLastRow.domain false) (Rows.viewLastSpec.post enc Try.prog Try.f7 false true false false) := by
  refine returnsInHanded_of_change_sized (C := Try.checked) own started (by kernel_rfl) Try.func7
    (ChangeSpec.witness6 (enc := enc) (C := Try.checked) false ⟨#[], #[.agg #[.int .i64 0, .int .i64 0, .int .i64 0, .int .i64 0], .slice none 0 0], []⟩ 8 (by kernel_rfl) (by kernel_rfl) (by kernel_rfl) (by kernel_rfl)) ?_
  intro W base args ds gs before hval0 hW hcnd hsz0 _
  have hval : ∀ (j : Nat) t v, Try.f7.params[j]? = some t → args[j]? = some v → Value.okWide Try.prog W .any base t v := hval0
  have hsz : (DataW.weightsEach Try.prog (Try.f7.params.toList ++ Rows.viewLastSpec.plain.varTypes Try.prog) (ds ++ gs)).all (· ≤ reachBytes) = true := hsz0
  have hW' := hW
  obtain ⟨p, q, hA0, hV, rfl, hfz, hnd⟩ := hW
  have hA : DataW.TrodAll enc Try.prog W 0 (fun _ => true) true Try.f7.params.toList args.toList ds p := hA0
  rw [Try.params7] at hA hval hsz
  obtain ⟨v0, vs0, d0, ds0, p0, q0, hargs, rfl, rfl, h0, r0⟩ := trodAll_cons hA
  obtain ⟨v1, vs1, d1, ds1, p1, q1, rfl, rfl, rfl, h1, r1⟩ := trodAll_cons r0
  obtain ⟨rfl, rfl, rfl⟩ := trodAll_nil r1
  obtain rfl : args = #[v0, v1] := by cases args; simp_all
  obtain ⟨rfl, rfl⟩ := trodVars_none hV
  have k0 := h0
  have k1 := h1
  have lt0 : ∀ x ∈ p0, x.block < W.heap.size := by obtain ⟨m, hm⟩ := k0; exact DataW.trod_lt m _ _ _ hm
  have lt1 : ∀ x ∈ p1, x.block < W.heap.size := by obtain ⟨m, hm⟩ := k1; exact DataW.trod_lt m _ _ _ hm
  have z := List.all_eq_true.1 hsz
  obtain ⟨c0, rfl, hs0⟩ := WideShapes.okWide_struct Try.underlying38 (hval 0 38 v0 rfl rfl)
  obtain ⟨f0, hf0⟩ := h0
  obtain ⟨X0, eX0⟩ := open_quota hf0
  have e0 : c0 = #[.int .i64 X0.b, .int .i64 X0.o, .int .i64 X0.r, .int .i64 X0.n] := by obtain ⟨l⟩ := c0; have h : l = qC X0 := eX0; rw [h]; rfl
  subst e0
  obtain ⟨ao1, len1, cap1, rfl⟩ := okWide_slice Try.underlying23 (hval 1 23 v1 rfl rfl)
  obtain ⟨f1, hf1⟩ := h1
  obtain ⟨u1, X1, e1, hX1⟩ := open_deeds hf1 (fun n hn => by simpa using z n (DataW.weights_mem_each (j := 1) (t := 23) (d := d1) rfl rfl n hn))
  simp only [Value.cells, List.cons.injEq, and_true] at e1
  subst e1
  clear hA0 hval0 hsz0 hsz z
  refine (viewLast_any W X0 _ X1 hX1).mono fun e W' ⟨he, hfr⟩ => ?_
  have bel : Below W.heap.size W W' := hfr.below (Nat.le_refl _) (fun _ h => h.elim)
  subst he
  exact ⟨_, rfl, _, _, _, [], _, [], hW', trodAll_mk1 (shut_bool Try.underlying4 _), (trodAll_cons_mk (Below.trod laidOut (by kernel_rfl) (of_decide_eq_true (by kernel_rfl)) k0 bel lt0) (trodAll_cons_mk (Below.trod laidOut (by kernel_rfl) (of_decide_eq_true (by kernel_rfl)) k1 bel lt1) trodAll_mk0)), rfl, bel.frame _, fun h => by cases h⟩
theorem said : Rows.viewLastRow.holds Try.pinned (OpenSpec.ofChange Rows.viewLastSpec) :=
  OpenClaim.holds_of_wide 7 Try.f7 rfl rfl rfl rfl rfl rfl rfl ⟨rfl, rfl, rfl, rfl, rfl⟩ rfl rfl rfl rfl rfl (by kernel_rfl) Try.func7 (by kernel_rfl)
    (of_decide_eq_true (by kernel_rfl)) (by unfold Func.isWrapper; first | (rw [if_pos (by decide +kernel)]; kernel_rfl) | (rw [if_neg (by decide +kernel)]; exact ⟨rfl, rfl⟩))
    (fun os started H enc _ => lifted os started H enc)
end Go.Proofs.Yteockhemeneioaa.viewLast
namespace Go.Proofs.Yteockhemeneioaa
theorem viewLast_holds : Rows.ViewLastSaid := viewLast.said
end Go.Proofs.Yteockhemeneioaa
