/- BaseOrder returns true for all paths and every list of paths, and each argument reads afterwards as it read before. No condition but the given row's own. -/
import Derived.Test.YtdmlalnekjihfaaBaseOrder
import Derived.Test.YtdmlalnekjihfaaPathX
import Derived.ChangeOld
import Derived.Below
namespace Go.Proofs.Ytdmlalnekjihfaa.baseOrder
open Go.RowKit Go.ChangeShapes Go.WideShapes Go.ChangeAt
set_option linter.unusedVariables false

theorem own : ownKnob Try.prog.godebug = none := by kernel_rfl
theorem laidOut : laidOutB Try.prog = true := by kernel_rfl

set_option maxRecDepth 100000 in
set_option maxHeartbeats 4000000 in
theorem lifted (os : Os) (started : os.Started) (H : Type) (enc : TypeId × Value → H) :
    ReturnsInHanded {} Try.checked os 7 .any (Rows.baseOrderSpec.pre6 enc Try.prog Try.f7 Rows.baseOrderRow.domain false) (Rows.baseOrderSpec.post enc Try.prog Try.f7 false true false false) := by
  refine returnsInHanded_of_change_sized (C := Try.checked) own started (by kernel_rfl) Try.func7
    (ChangeSpec.witness6 (enc := enc) (C := Try.checked) false ⟨#[], #[.agg (pathC (List.replicate 20 0) ⟨#[]⟩), .agg (pathC (List.replicate 20 0) ⟨#[]⟩), .agg (pathC (List.replicate 20 0) ⟨#[]⟩), .slice none 0 0], []⟩ 8 (by kernel_rfl) (by kernel_rfl) (by kernel_rfl) (by kernel_rfl)) ?_
  intro W base args ds gs before hval0 hW hcnd hsz0 _
  have hval : ∀ (j : Nat) t v, Try.f7.params[j]? = some t → args[j]? = some v → Value.okWide Try.prog W .any base t v := hval0
  have hsz : (DataW.weightsEach Try.prog (Try.f7.params.toList ++ Rows.baseOrderSpec.plain.varTypes Try.prog) (ds ++ gs)).all (· ≤ reachBytes) = true := hsz0
  have hW' := hW
  obtain ⟨p, q, hA0, hV, rfl, hfz, hnd⟩ := hW
  have hA : DataW.TrodAll enc Try.prog W 0 (fun _ => true) true Try.f7.params.toList args.toList ds p := hA0
  rw [Try.params7] at hA hval hsz
  obtain ⟨v0, vs0, d0, ds0, p0, q0, hargs, rfl, rfl, h0, r0⟩ := trodAll_cons hA
  obtain ⟨v1, vs1, d1, ds1, p1, q1, rfl, rfl, rfl, h1, r1⟩ := trodAll_cons r0
  obtain ⟨v2, vs2, d2, ds2, p2, q2, rfl, rfl, rfl, h2, r2⟩ := trodAll_cons r1
  obtain ⟨v3, vs3, d3, ds3, p3, q3, rfl, rfl, rfl, h3, r3⟩ := trodAll_cons r2
  obtain ⟨rfl, rfl, rfl⟩ := trodAll_nil r3
  obtain rfl : args = #[v0, v1, v2, v3] := by cases args; simp_all
  obtain ⟨rfl, rfl⟩ := trodVars_none hV
  have k0 := h0
  have k1 := h1
  have k2 := h2
  have k3 := h3
  have lt0 : ∀ x ∈ p0, x.block < W.heap.size := by obtain ⟨m, hm⟩ := k0; exact DataW.trod_lt m _ _ _ hm
  have lt1 : ∀ x ∈ p1, x.block < W.heap.size := by obtain ⟨m, hm⟩ := k1; exact DataW.trod_lt m _ _ _ hm
  have lt2 : ∀ x ∈ p2, x.block < W.heap.size := by obtain ⟨m, hm⟩ := k2; exact DataW.trod_lt m _ _ _ hm
  have lt3 : ∀ x ∈ p3, x.block < W.heap.size := by obtain ⟨m, hm⟩ := k3; exact DataW.trod_lt m _ _ _ hm
  have z := List.all_eq_true.1 hsz
  obtain ⟨c0, rfl, hs0⟩ := okWide_struct Try.underlying25 (hval 0 25 v0 rfl rfl)
  obtain ⟨f0, hf0⟩ := h0
  obtain ⟨X0, eX0, hn0⟩ := open_path hf0 (fun n hn => by simpa using z n (DataW.weights_mem_each (j := 0) (t := 25) (d := d0) rfl rfl n hn))
  have e0 : c0 = pathC X0.h X0.n := by obtain ⟨l⟩ := c0; have h : l = cellsX X0 := eX0; rw [h]; rfl
  subst e0
  obtain ⟨c1, rfl, hs1⟩ := okWide_struct Try.underlying25 (hval 1 25 v1 rfl rfl)
  obtain ⟨f1, hf1⟩ := h1
  obtain ⟨X1, eX1, hn1⟩ := open_path hf1 (fun n hn => by simpa using z n (DataW.weights_mem_each (j := 1) (t := 25) (d := d1) rfl rfl n hn))
  have e1 : c1 = pathC X1.h X1.n := by obtain ⟨l⟩ := c1; have h : l = cellsX X1 := eX1; rw [h]; rfl
  subst e1
  obtain ⟨c2, rfl, hs2⟩ := okWide_struct Try.underlying25 (hval 2 25 v2 rfl rfl)
  obtain ⟨f2, hf2⟩ := h2
  obtain ⟨X2, eX2, hn2⟩ := open_path hf2 (fun n hn => by simpa using z n (DataW.weights_mem_each (j := 2) (t := 25) (d := d2) rfl rfl n hn))
  have e2 : c2 = pathC X2.h X2.n := by obtain ⟨l⟩ := c2; have h : l = cellsX X2 := eX2; rw [h]; rfl
  subst e2
  obtain ⟨ao3, len3, cap3, rfl⟩ := okWide_slice Try.underlying37 (hval 3 37 v3 rfl rfl)
  obtain ⟨f3, hf3⟩ := h3
  obtain ⟨u3, X3, e3, hX3, hl3, hn3⟩ := open_paths hf3 (fun n hn => by simpa using z n (DataW.weights_mem_each (j := 3) (t := 37) (d := d3) rfl rfl n hn))
  simp only [Value.cells, List.cons.injEq, and_true] at e3
  subst e3
  clear hA0 hval0 hsz0 hsz z
  refine (baseOrder_any W X0 X1 X2 _ X3 hn0 hn1 hn2 hX3 hl3 hn3).mono fun e W' ⟨he, hfr⟩ => ?_
  have bel : Below W.heap.size W W' := hfr.below (Nat.le_refl _) (fun _ h => h.elim)
  subst he
  exact ⟨_, rfl, _, _, _, [], _, [], hW', trodAll_mk1 (shut_bool Try.underlying4 _), (trodAll_cons_mk (Below.trod laidOut (by kernel_rfl) (of_decide_eq_true (by kernel_rfl)) k0 bel lt0) (trodAll_cons_mk (Below.trod laidOut (by kernel_rfl) (of_decide_eq_true (by kernel_rfl)) k1 bel lt1) (trodAll_cons_mk (Below.trod laidOut (by kernel_rfl) (of_decide_eq_true (by kernel_rfl)) k2 bel lt2) (trodAll_cons_mk (Below.trod laidOut (by kernel_rfl) (of_decide_eq_true (by kernel_rfl)) k3 bel lt3) trodAll_mk0)))), rfl, bel.frame _, fun h => by cases h⟩

theorem said : Rows.baseOrderRow.holds Try.pinned (OpenSpec.ofChange Rows.baseOrderSpec) :=
  OpenClaim.holds_of_wide 7 Try.f7 rfl rfl rfl rfl rfl rfl rfl ⟨rfl, rfl, rfl, rfl, rfl⟩ rfl rfl rfl rfl rfl (by kernel_rfl) Try.func7 (by kernel_rfl)
    (of_decide_eq_true (by kernel_rfl)) (by unfold Func.isWrapper; first | (rw [if_pos (by decide +kernel)]; kernel_rfl) | (rw [if_neg (by decide +kernel)]; exact ⟨rfl, rfl⟩))
    (fun os started H enc _ => lifted os started H enc)

end Go.Proofs.Ytdmlalnekjihfaa.baseOrder

namespace Go.Proofs.Ytdmlalnekjihfaa
theorem baseOrder_holds : Rows.BaseOrderSaid := baseOrder.said
end Go.Proofs.Ytdmlalnekjihfaa
