/- ViewFits returns true for every shape and every list of quotas, and each argument reads afterwards as it read before. No condition but the given row's own. -/
import Derived.Test.YtifhkgcabifepaaVf0
import Derived.ProofKit
import Derived.OpenShut
import Derived.SizedLaws
import Derived.Deep.Slices
import Derived.Carry
import Derived.Test.YtifhkgcabifepaaVf7
import Derived.Deep.Fields
import Derived.Test.YtifhkgcabifepaaVf15
import Derived.ChangeOld
import Derived.Below

namespace Go.Proofs.Ytifhkgcabifepaa
open Go.RowKit Go.ChangeShapes Go.WideShapes Go.Deep
set_option linter.unusedVariables false
section
variable {H : Type} {enc : TypeId × Value → H} {w : World} {base fuel : Nat} {held : Bool} {cs : List Value} {x : DataW H × List MemPlace}
theorem list4c {α : Type} {l : List α} (h : l.length = 4) : ∃ a b c d, l = [a, b, c, d] := by
  match l, h with
  | [a, b, c, d], _ => exact ⟨a, b, c, d, rfl⟩
theorem list3 {α : Type} {l : List α} (h : l.length = 3) : ∃ a b c, l = [a, b, c] := by
  match l, h with
  | [a, b, c], _ => exact ⟨a, b, c, rfl⟩
theorem Try.bytesQt : Try.prog.bytesOf 38 = 32 := by kernel_rfl
theorem Try.cellsQt : Try.prog.cellsOf 38 = 4 := by kernel_rfl
theorem Try.cellsSh : Try.prog.cellsOf 51 = 3 := by kernel_rfl
theorem Try.cellsI : Try.prog.cellsOf 3 = 1 := by kernel_rfl
theorem open_shape (h : DataW.trod enc Try.prog w base (fun _ => true) held fuel 51 cs = some x) :
    ∃ L A D : Int, cs = [.int .i64 L, .int .i64 A, .int .i64 D] := by
  obtain ⟨xs, m, _, hy, hcl, hxl, hf⟩ := DataW.trod_struct Try.underlying51 h
  rw [Try.cellsSh] at hcl
  obtain ⟨c0, c1, c2, rfl⟩ := list3 hcl
  obtain ⟨y0, y1, y2, rfl⟩ := list3 (l := xs) hxl
  have e0 : DataW.trod enc Try.prog w base (fun _ => true) held m 3 [c0] = some y0 := by
    have h : DataW.trod enc Try.prog w base (fun _ => true) held m 3 (([c0, c1, c2].drop 0).take (Try.prog.cellsOf 3)) = some y0 := hf 0 _ rfl
    rw [Try.cellsI] at h
    exact h
  have e1 : DataW.trod enc Try.prog w base (fun _ => true) held m 3 [c1] = some y1 := by
    have h : DataW.trod enc Try.prog w base (fun _ => true) held m 3 (([c0, c1, c2].drop 1).take (Try.prog.cellsOf 3)) = some y1 := hf 1 _ rfl
    rw [Try.cellsI] at h
    exact h
  have e2 : DataW.trod enc Try.prog w base (fun _ => true) held m 3 [c2] = some y2 := by
    have h : DataW.trod enc Try.prog w base (fun _ => true) held m 3 (([c0, c1, c2].drop 2).take (Try.prog.cellsOf 3)) = some y2 := hf 2 _ rfl
    rw [Try.cellsI] at h
    exact h
  obtain ⟨n0, r0, _, w0⟩ := DataW.trod_int Try.underlying3 e0
  obtain ⟨n1, r1, _, w1⟩ := DataW.trod_int Try.underlying3 e1
  obtain ⟨n2, r2, _, w2⟩ := DataW.trod_int Try.underlying3 e2
  simp only [List.cons.injEq, and_true] at r0 r1 r2
  subst r0 r1 r2
  exact ⟨n0, n1, n2, rfl⟩
theorem open_quota {n : Nat} {y : DataW H × List MemPlace} (h : DataW.trod enc Try.prog w base (fun _ => true) held n 38 cs = some y) :
    ∃ q : Qt, cs = qC q := by
  obtain ⟨xs, m, _, hy, hcl, hxl, hf⟩ := DataW.trod_struct Try.underlying38 h
  rw [Try.cellsQt] at hcl
  obtain ⟨c0, c1, c2, c3, rfl⟩ := list4c hcl
  obtain ⟨y0, y1, y2, y3, rfl⟩ := list4c (l := xs) hxl
  have e0 : DataW.trod enc Try.prog w base (fun _ => true) held m 3 [c0] = some y0 := by
    have h : DataW.trod enc Try.prog w base (fun _ => true) held m 3 (([c0, c1, c2, c3].drop 0).take (Try.prog.cellsOf 3)) = some y0 := hf 0 _ rfl
    rw [Try.cellsI] at h
    exact h
  have e1 : DataW.trod enc Try.prog w base (fun _ => true) held m 3 [c1] = some y1 := by
    have h : DataW.trod enc Try.prog w base (fun _ => true) held m 3 (([c0, c1, c2, c3].drop 1).take (Try.prog.cellsOf 3)) = some y1 := hf 1 _ rfl
    rw [Try.cellsI] at h
    exact h
  have e2 : DataW.trod enc Try.prog w base (fun _ => true) held m 3 [c2] = some y2 := by
    have h : DataW.trod enc Try.prog w base (fun _ => true) held m 3 (([c0, c1, c2, c3].drop 2).take (Try.prog.cellsOf 3)) = some y2 := hf 2 _ rfl
    rw [Try.cellsI] at h
    exact h
  have e3 : DataW.trod enc Try.prog w base (fun _ => true) held m 3 [c3] = some y3 := by
    have h : DataW.trod enc Try.prog w base (fun _ => true) held m 3 (([c0, c1, c2, c3].drop 3).take (Try.prog.cellsOf 3)) = some y3 := hf 3 _ rfl
    rw [Try.cellsI] at h
    exact h
  obtain ⟨n0, r0, _, w0⟩ := DataW.trod_int Try.underlying3 e0
  obtain ⟨n1, r1, _, w1⟩ := DataW.trod_int Try.underlying3 e1
  obtain ⟨n2, r2, _, w2⟩ := DataW.trod_int Try.underlying3 e2
  obtain ⟨n3, r3, _, w3⟩ := DataW.trod_int Try.underlying3 e3
  simp only [List.cons.injEq, and_true] at r0 r1 r2 r3
  subst r0 r1 r2 r3
  exact ⟨⟨n0, n1, n2, n3⟩, rfl⟩
theorem open_quotas (h : DataW.trod enc Try.prog w base (fun _ => true) held fuel 22 cs = some x) (hz : ∀ n ∈ x.1.weights Try.prog 22, n ≤ reachBytes) :
    ∃ v l, cs = [v] ∧ QsIn (fun k => k < w.heap.size) w v l := by
  rcases open_slice Try.underlying22 h with ⟨rfl, _⟩ | ⟨a, len, cap, m, n, D, Pl, rfl, _, hl, hm, hmm, hx, hi⟩
  · exact ⟨_, [], rfl, Elems.nil _ _ _⟩
  · simp only [if_true] at hmm
    subst hmm
    rw [Try.cellsQt] at hi
    have hm2 : m * 32 ≤ 140737488351232 := by
      have := hz ((len + (m - len)) * 32) (by rw [hx]; simp [DataW.weights, Try.underlying22, Try.bytesQt])
      simp only [reachBytes] at this
      omega
    unfold maxLen at hm
    by_cases h0 : len = 0
    · subst h0
      exact ⟨_, [], rfl, ⟨some a, m, rfl, Nat.zero_le _, by omega, (fun _ h => by cases h), fun h => absurd rfl h⟩⟩
    · obtain ⟨b, off, spot⟩ := a
      have hs : spot = none := by
        obtain ⟨cs', hc, ht⟩ := hi 0 (by omega)
        obtain ⟨_, hcl, hat⟩ := World.cells?_some hc
        have := hat 0 (by decide)
        obtain ⟨c0, c1, c2, c3, rfl⟩ := list4c hcl
        simpa [Addr.add] using World.cell?_spot this
      subst hs
      have hone : ∀ i, ∃ p : Qt, i < len → (b < w.heap.size ∧ ∀ j, j < 4 → w.cell? ⟨b, off + i * 4 + j, none⟩ = (qC p)[j]?) := by
        intro i
        by_cases hil : i < len
        · obtain ⟨cs', hc, ht⟩ := hi i (by omega)
          obtain ⟨_, hcl, hat⟩ := World.cells?_some hc
          have hat' : ∀ j, j < 4 → w.cell? ⟨b, off + i * 4 + j, none⟩ = cs'[j]? := fun j hj => by
            have := hat j hj
            rwa [addr_plain, addr_plain] at this
          have hb : b < w.heap.size := by
            have := hat' 0 (by decide)
            rw [List.getElem?_eq_getElem (by omega)] at this
            exact World.block_lt_of_cell? _ _ this
          obtain ⟨p, rfl⟩ := open_quota ht
          exact ⟨p, fun _ => ⟨hb, hat'⟩⟩
        · exact ⟨default, fun h => absurd h hil⟩
      obtain ⟨f, hf⟩ := Classical.axiomOfChoice hone
      have hlen : ((List.range len).map f).length = len := by simp
      refine ⟨_, (List.range len).map f, rfl, ⟨some ⟨b, off, none⟩, m, by rw [List.length_map, hlen], by rw [List.length_map, hlen]; exact hl, by omega, qC_len _, fun _ => ⟨b, off, rfl, (hf 0 (by omega)).1, fun i hi j hj => ?_⟩⟩⟩
      rw [List.length_map, hlen] at hi
      rw [(hf i hi).2 j hj]
      simp
end
end Go.Proofs.Ytifhkgcabifepaa
namespace Go.Proofs.Ytifhkgcabifepaa.viewFits
open Go.RowKit Go.ChangeShapes Go.WideShapes Go.ChangeAt
set_option linter.unusedVariables false
theorem own : ownKnob Try.prog.godebug = none := by kernel_rfl
theorem laidOut : laidOutB Try.prog = true := by kernel_rfl
set_option maxRecDepth 100000 in
set_option maxHeartbeats 4000000 in
theorem lifted (os : Os) (started : os.Started) (H : Type) (enc : TypeId × Value → H) :
    ReturnsInHanded {} Try.checked os 4 .any (Rows.viewFitsSpec.pre6 enc Try.prog Try.f4 Rows.viewFitsRow.domain false) (Rows.viewFitsSpec.post enc Try.prog Try.f4 false true false false) := by
  refine returnsInHanded_of_change_sized (C := Try.checked) own started (by kernel_rfl) Try.func4
    (ChangeSpec.witness6 (enc := enc) (C := Try.checked) false ⟨#[], #[.agg #[.int .i64 0, .int .i64 0, .int .i64 0], .slice none 0 0], []⟩ 8 (by kernel_rfl) (by kernel_rfl) (by kernel_rfl) (by kernel_rfl)) ?_
  intro W base args ds gs before hval0 hW hcnd hsz0 _
  have hval : ∀ (j : Nat) t v, Try.f4.params[j]? = some t → args[j]? = some v → Value.okWide Try.prog W .any base t v := hval0
  have hsz : (DataW.weightsEach Try.prog (Try.f4.params.toList ++ Rows.viewFitsSpec.plain.varTypes Try.prog) (ds ++ gs)).all (· ≤ reachBytes) = true := hsz0
  have hW' := hW
  obtain ⟨p, q, hA0, hV, rfl, hfz, hnd⟩ := hW
  have hA : DataW.TrodAll enc Try.prog W 0 (fun _ => true) true Try.f4.params.toList args.toList ds p := hA0
  rw [Try.params4] at hA hval hsz
  obtain ⟨v0, vs0, d0, ds0, p0, q0, hargs, rfl, rfl, h0, r0⟩ := trodAll_cons hA
  obtain ⟨v1, vs1, d1, ds1, p1, q1, rfl, rfl, rfl, h1, r1⟩ := trodAll_cons r0
  obtain ⟨rfl, rfl, rfl⟩ := trodAll_nil r1
  obtain rfl : args = #[v0, v1] := by cases args; simp_all
  obtain ⟨rfl, rfl⟩ := trodVars_none hV
  have k0 := h0
  have k1 := h1
  have lt0 : ∀ x ∈ p0, x.block < W.heap.size := by obtain ⟨m, hm⟩ := k0; exact DataW.trod_lt m _ _ _ hm
  have lt1 : ∀ x ∈ p1, x.block < W.heap.size := by obtain ⟨m, hm⟩ := k1; exact DataW.trod_lt m _ _ _ hm
  have z := List.all_eq_true.1 hsz
  obtain ⟨c0, rfl, hs0⟩ := WideShapes.okWide_struct Try.underlying51 (hval 0 51 v0 rfl rfl)
  obtain ⟨f0, hf0⟩ := h0
  obtain ⟨XL0, XA0, XD0, eX0⟩ := open_shape hf0
  have e0 : c0 = #[.int .i64 XL0, .int .i64 XA0, .int .i64 XD0] := by obtain ⟨l⟩ := c0; have h : l = [.int .i64 XL0, .int .i64 XA0, .int .i64 XD0] := eX0; rw [h]
  subst e0
  obtain ⟨ao1, len1, cap1, rfl⟩ := okWide_slice Try.underlying22 (hval 1 22 v1 rfl rfl)
  obtain ⟨f1, hf1⟩ := h1
  obtain ⟨u1, X1, e1, hX1⟩ := open_quotas hf1 (fun n hn => by simpa using z n (DataW.weights_mem_each (j := 1) (t := 22) (d := d1) rfl rfl n hn))
  simp only [Value.cells, List.cons.injEq, and_true] at e1
  subst e1
  clear hA0 hval0 hsz0 hsz z
  refine (viewFits_any W XL0 XA0 XD0 _ X1 hX1).mono fun e W' ⟨he, hfr⟩ => ?_
  have bel : Below W.heap.size W W' := hfr.below (Nat.le_refl _) (fun _ h => h.elim)
  subst he
  exact ⟨_, rfl, _, _, _, [], _, [], hW', trodAll_mk1 (shut_bool Try.underlying4 _), (trodAll_cons_mk (Below.trod laidOut (by kernel_rfl) (of_decide_eq_true (by kernel_rfl)) k0 bel lt0) (trodAll_cons_mk (Below.trod laidOut (by kernel_rfl) (of_decide_eq_true (by kernel_rfl)) k1 bel lt1) trodAll_mk0)), rfl, bel.frame _, fun h => by cases h⟩
theorem said : Rows.viewFitsRow.holds Try.pinned (OpenSpec.ofChange Rows.viewFitsSpec) :=
  OpenClaim.holds_of_wide 4 Try.f4 rfl rfl rfl rfl rfl rfl rfl ⟨rfl, rfl, rfl, rfl, rfl⟩ rfl rfl rfl rfl rfl (by kernel_rfl) Try.func4 (by kernel_rfl)
    (of_decide_eq_true (by kernel_rfl)) (by unfold Func.isWrapper; first | (rw [if_pos (by decide +kernel)]; kernel_rfl) | (rw [if_neg (by decide +kernel)]; exact ⟨rfl, rfl⟩))
    (fun os started H enc _ => lifted os started H enc)
end Go.Proofs.Ytifhkgcabifepaa.viewFits
namespace Go.Proofs.Ytifhkgcabifepaa
theorem viewFits_holds : Rows.ViewFitsSaid := viewFits.said
end Go.Proofs.Ytifhkgcabifepaa
