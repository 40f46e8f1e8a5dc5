/- RefsTell returns true for all bytes, every two hashes and every list of paths, and each argument reads afterwards as it read before. No condition but the given row's own. -/
import Derived.Test.YtfkgdjoaoidkeaaGreatTl18
import Derived.Test.YtfkgdjoaoidkeaaGreatTl4
import Derived.ChangeOld
import Derived.Below
import Derived.HandedShaped

namespace Go.Proofs.YtfkgdjoaoidkeaaGreat.refsTell
open Go.RowKit Go.ChangeShapes Go.WideShapes Go.ChangeAt
set_option linter.unusedVariables false
theorem okWide_array {P : Program} {w : World} {r : Reach} {base : Nat} {t : TypeId} {v : Value} {n : Nat} {e : TypeId} (ht : P.underlying t = some (.array n e)) (h : Value.okWide P w r base t v) : ∃ cs, v = .agg cs ∧ cs.size = P.cellsOf t := by
  simp only [Value.okWide, ht] at h
  obtain ⟨cs, h1, h2, _⟩ := h
  exact ⟨cs, h1, h2⟩
theorem own : ownKnob Tryz.prog.godebug = none := by kernel_rfl
theorem laidOut : laidOutB Tryz.prog = true := by kernel_rfl
set_option maxRecDepth 100000 in
set_option maxHeartbeats 4000000 in
theorem lifted (os : Os) (started : os.Started) (H : Type) (enc : TypeId × Value → H) :
    ReturnsInHanded {} Tryz.checked os 3 .any (Rows.refsTellSpec.pre6 enc Tryz.prog Tryz.f3 Rows.refsTellRow.domain false) (Rows.refsTellSpec.post enc Tryz.prog Tryz.f3 false true false false) := by
  refine returnsInHanded_of_change_shaped (C := Tryz.checked) own started (by kernel_rfl) Tryz.func3
    (ChangeSpec.witness6 (enc := enc) (C := Tryz.checked) false ⟨#[], #[.slice none 0 0, .agg ((List.replicate 20 (0 : UInt8)).map bv).toArray, .agg ((List.replicate 20 (0 : UInt8)).map bv).toArray, .slice none 0 0], []⟩ 8 (by kernel_rfl) (by kernel_rfl) (by kernel_rfl) (by kernel_rfl)) ?_
  intro W base args ds gs before hval0 hW hcnd hsz0 hsh _
  have hval : ∀ (j : Nat) t v, Tryz.f3.params[j]? = some t → args[j]? = some v → Value.okWide Tryz.prog W .any base t v := hval0
  have hsz : (DataW.weightsEach Tryz.prog (Tryz.f3.params.toList ++ Rows.refsTellSpec.plain.varTypes Tryz.prog) (ds ++ gs)).all (· ≤ reachBytes) = true := hsz0
  have hW' := hW
  obtain ⟨p, q, hA0, hV, rfl, hfz, hnd⟩ := hW
  have hA : DataW.TrodAll enc Tryz.prog W 0 (fun _ => true) true Tryz.f3.params.toList args.toList ds p := hA0
  rw [Tryz.params3] at hA hval hsz
  obtain ⟨v0, vs0, d0, ds0, p0, q0, hargs, rfl, rfl, h0, r0⟩ := trodAll_cons hA
  obtain ⟨v1, vs1, d1, ds1, p1, q1, rfl, rfl, rfl, h1, r1⟩ := trodAll_cons r0
  obtain ⟨v2, vs2, d2, ds2, p2, q2, rfl, rfl, rfl, h2, r2⟩ := trodAll_cons r1
  obtain ⟨v3, vs3, d3, ds3, p3, q3, rfl, rfl, rfl, h3, r3⟩ := trodAll_cons r2
  obtain ⟨rfl, rfl, rfl⟩ := trodAll_nil r3
  obtain rfl : args = #[v0, v1, v2, v3] := by cases args; simp_all
  obtain ⟨rfl, rfl⟩ := trodVars_none hV
  have k0 := h0
  have k1 := h1
  have k2 := h2
  have k3 := h3
  have lt0 : ∀ x ∈ p0, x.block < W.heap.size := by obtain ⟨m, hm⟩ := k0; exact DataW.trod_lt m _ _ _ hm
  have lt1 : ∀ x ∈ p1, x.block < W.heap.size := by obtain ⟨m, hm⟩ := k1; exact DataW.trod_lt m _ _ _ hm
  have lt2 : ∀ x ∈ p2, x.block < W.heap.size := by obtain ⟨m, hm⟩ := k2; exact DataW.trod_lt m _ _ _ hm
  have lt3 : ∀ x ∈ p3, x.block < W.heap.size := by obtain ⟨m, hm⟩ := k3; exact DataW.trod_lt m _ _ _ hm
  have z := List.all_eq_true.1 hsz
  obtain ⟨ao0, len0, cap0, rfl⟩ := okWide_slice Tryz.underlying22 (hval 0 22 v0 rfl rfl)
  obtain ⟨f0, hf0⟩ := h0
  obtain ⟨u0, X0, e0, hX0, hl0⟩ := open_bytes hf0 (fun n hn => by simpa using z n (DataW.weights_mem_each (j := 0) (t := 22) (d := d0) rfl rfl n hn))
  simp only [Value.cells, List.cons.injEq, and_true] at e0
  subst e0
  obtain ⟨c1, rfl, hs1⟩ := okWide_array Tryz.underlying24 (hval 1 24 v1 rfl rfl)
  obtain ⟨f1, hf1⟩ := h1
  obtain ⟨X1, hX1, eX1⟩ := open_arr Tryz.underlying24 (by kernel_rfl) hf1
  have e1 : c1 = (X1.map bv).toArray := by obtain ⟨l⟩ := c1; have h : l = X1.map bv := eX1; rw [h]
  subst e1
  obtain ⟨c2, rfl, hs2⟩ := okWide_array Tryz.underlying24 (hval 2 24 v2 rfl rfl)
  obtain ⟨f2, hf2⟩ := h2
  obtain ⟨X2, hX2, eX2⟩ := open_arr Tryz.underlying24 (by kernel_rfl) hf2
  have e2 : c2 = (X2.map bv).toArray := by obtain ⟨l⟩ := c2; have h : l = X2.map bv := eX2; rw [h]
  subst e2
  obtain ⟨ao3, len3, cap3, rfl⟩ := okWide_slice Tryz.underlying25 (hval 3 25 v3 rfl rfl)
  obtain ⟨f3, hf3⟩ := h3
  obtain ⟨u3, X3, e3, hX3, hl3, hn3⟩ := open_paths hf3 (fun n hn => by simpa using z n (DataW.weights_mem_each (j := 3) (t := 25) (d := d3) rfl rfl n hn))
  simp only [Value.cells, List.cons.injEq, and_true] at e3
  subst e3
  clear hA0 hval0 hsz0 hsz z
  refine (refsTell_any W _ _ X0 X1 X2 X3 hX1 hX2 hX0 (fun k hk => hk) hX3 hl0 hl3 hn3 (show MlAt W from Tryz.laysM185.s1_3 W hsh)).mono fun e W' ⟨he, hfr⟩ => ?_
  have bel : Below W.heap.size W W' := hfr.below (Nat.le_refl _) (fun _ h => h.elim)
  subst he
  exact ⟨_, rfl, _, _, _, [], _, [], hW', trodAll_mk1 (shut_bool Tryz.underlying4 _), (trodAll_cons_mk (Below.trod laidOut (by kernel_rfl) (of_decide_eq_true (by kernel_rfl)) k0 bel lt0) (trodAll_cons_mk (Below.trod laidOut (by kernel_rfl) (of_decide_eq_true (by kernel_rfl)) k1 bel lt1) (trodAll_cons_mk (Below.trod laidOut (by kernel_rfl) (of_decide_eq_true (by kernel_rfl)) k2 bel lt2) (trodAll_cons_mk (Below.trod laidOut (by kernel_rfl) (of_decide_eq_true (by kernel_rfl)) k3 bel lt3) trodAll_mk0)))), rfl, bel.frame _, fun h => by cases h⟩
theorem said : Rows.refsTellRow.holds Tryz.pinned (OpenSpec.ofChange Rows.refsTellSpec) :=
  OpenClaim.holds_of_wide 3 Tryz.f3 rfl rfl rfl rfl rfl rfl rfl ⟨rfl, rfl, rfl, rfl, rfl⟩ rfl rfl rfl rfl rfl (by kernel_rfl) Tryz.func3 (by kernel_rfl)
    (of_decide_eq_true (by kernel_rfl)) (by unfold Func.isWrapper; first | (rw [if_pos (by decide +kernel)]; kernel_rfl) | (rw [if_neg (by decide +kernel)]; exact ⟨rfl, rfl⟩))
    (fun os started H enc _ => lifted os started H enc)
end Go.Proofs.YtfkgdjoaoidkeaaGreat.refsTell
namespace Go.Proofs.YtfkgdjoaoidkeaaGreat
theorem refsTell_holds : Rows.RefsTellSaid := refsTell.said
end Go.Proofs.YtfkgdjoaoidkeaaGreat
