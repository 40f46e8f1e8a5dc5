/- The law TableKept answers true at every input, and leaves its arguments as they were: a commit that is told OK stays through crashes, one that is not is done whole or not at all. No condition beside those of the given row. -/
import Derived.Test.YtldgcoikbjbjeaaGreatTk39
import Derived.Test.YtldgcoikbjbjeaaGreatTk40
import Derived.ChangeOld
import Derived.Below

namespace Go.Proofs.YtldgcoikbjbjeaaGreat
open Go.RowKit Go.ChangeShapes Go.WideShapes Go.Deep
set_option linter.unusedVariables false
section
variable {H : Type} {enc : TypeId × Value → H} {w : World} {base fuel : Nat} {held : Bool} {cs : List Value} {x : DataW H × List MemPlace}
theorem list3 {α : Type} {l : List α} (h : l.length = 3) : ∃ a b c, l = [a, b, c] := by
  match l, h with
  | [a, b, c], _ => exact ⟨a, b, c, rfl⟩
theorem Tryz.cellsSh : Tryz.prog.cellsOf 23 = 3 := by kernel_rfl
theorem open_shape (h : DataW.trod enc Tryz.prog w base (fun _ => true) held fuel 23 cs = some x) :
    ∃ L A D : Int, cs = [.int .i64 L, .int .i64 A, .int .i64 D] := by
  obtain ⟨xs, m, _, hy, hcl, hxl, hf⟩ := DataW.trod_struct Tryz.underlying23 h
  rw [Tryz.cellsSh] at hcl
  obtain ⟨c0, c1, c2, rfl⟩ := list3 hcl
  obtain ⟨y0, y1, y2, rfl⟩ := list3 (l := xs) hxl
  have e0 : DataW.trod enc Tryz.prog w base (fun _ => true) held m 3 [c0] = some y0 := by
    have h : DataW.trod enc Tryz.prog w base (fun _ => true) held m 3 (([c0, c1, c2].drop 0).take (Tryz.prog.cellsOf 3)) = some y0 := hf 0 _ rfl
    rw [Tryz.cellsI] at h
    exact h
  have e1 : DataW.trod enc Tryz.prog w base (fun _ => true) held m 3 [c1] = some y1 := by
    have h : DataW.trod enc Tryz.prog w base (fun _ => true) held m 3 (([c0, c1, c2].drop 1).take (Tryz.prog.cellsOf 3)) = some y1 := hf 1 _ rfl
    rw [Tryz.cellsI] at h
    exact h
  have e2 : DataW.trod enc Tryz.prog w base (fun _ => true) held m 3 [c2] = some y2 := by
    have h : DataW.trod enc Tryz.prog w base (fun _ => true) held m 3 (([c0, c1, c2].drop 2).take (Tryz.prog.cellsOf 3)) = some y2 := hf 2 _ rfl
    rw [Tryz.cellsI] at h
    exact h
  obtain ⟨n0, r0, _, w0⟩ := DataW.trod_int Tryz.underlying3 e0
  obtain ⟨n1, r1, _, w1⟩ := DataW.trod_int Tryz.underlying3 e1
  obtain ⟨n2, r2, _, w2⟩ := DataW.trod_int Tryz.underlying3 e2
  simp only [List.cons.injEq, and_true] at r0 r1 r2
  subst r0 r1 r2
  exact ⟨n0, n1, n2, rfl⟩
end
end Go.Proofs.YtldgcoikbjbjeaaGreat
namespace Go.Proofs.YtldgcoikbjbjeaaGreat.tableKept
open Go.RowKit Go.ChangeShapes Go.WideShapes Go.ChangeAt
set_option linter.unusedVariables false
theorem own : ownKnob Tryz.prog.godebug = none := by kernel_rfl
theorem laidOut : laidOutB Tryz.prog = true := by kernel_rfl
set_option maxRecDepth 100000 in
set_option maxHeartbeats 4000000 in
theorem lifted (os : Os) (started : os.Started) (H : Type) (enc : TypeId × Value → H) :
    ReturnsInHanded {} Tryz.checked os 3 .any (Rows.tableKeptSpec.pre6 enc Tryz.prog Tryz.f3 Rows.tableKeptRow.domain false) (Rows.tableKeptSpec.post enc Tryz.prog Tryz.f3 false true false false) := by
  refine returnsInHanded_of_change_sized (C := Tryz.checked) own started (by kernel_rfl) Tryz.func3
    (ChangeSpec.witness6 (enc := enc) (C := Tryz.checked) false ⟨#[], #[.agg #[.int .i64 0, .int .i64 0, .int .i64 0], .slice none 0 0], []⟩ 8 (by kernel_rfl) (by kernel_rfl) (by kernel_rfl) (by kernel_rfl)) ?_
  intro W base args ds gs before hval0 hW hcnd hsz0 _
  have hval : ∀ (j : Nat) t v, Tryz.f3.params[j]? = some t → args[j]? = some v → Value.okWide Tryz.prog W .any base t v := hval0
  have hsz : (DataW.weightsEach Tryz.prog (Tryz.f3.params.toList ++ Rows.tableKeptSpec.plain.varTypes Tryz.prog) (ds ++ gs)).all (· ≤ reachBytes) = true := hsz0
  have hW' := hW
  obtain ⟨p, q, hA0, hV, rfl, hfz, hnd⟩ := hW
  have hA : DataW.TrodAll enc Tryz.prog W 0 (fun _ => true) true Tryz.f3.params.toList args.toList ds p := hA0
  rw [Tryz.params3] at hA hval hsz
  obtain ⟨v0, vs0, d0, ds0, p0, q0, hargs, rfl, rfl, h0, r0⟩ := trodAll_cons hA
  obtain ⟨v1, vs1, d1, ds1, p1, q1, rfl, rfl, rfl, h1, r1⟩ := trodAll_cons r0
  obtain ⟨rfl, rfl, rfl⟩ := trodAll_nil r1
  obtain rfl : args = #[v0, v1] := by cases args; simp_all
  obtain ⟨rfl, rfl⟩ := trodVars_none hV
  have k0 := h0
  have k1 := h1
  have lt0 : ∀ x ∈ p0, x.block < W.heap.size := by obtain ⟨m, hm⟩ := k0; exact DataW.trod_lt m _ _ _ hm
  have lt1 : ∀ x ∈ p1, x.block < W.heap.size := by obtain ⟨m, hm⟩ := k1; exact DataW.trod_lt m _ _ _ hm
  have z := List.all_eq_true.1 hsz
  obtain ⟨c0, rfl, hs0⟩ := WideShapes.okWide_struct Tryz.underlying23 (hval 0 23 v0 rfl rfl)
  obtain ⟨f0, hf0⟩ := h0
  obtain ⟨XL0, XA0, XD0, eX0⟩ := open_shape hf0
  have e0 : c0 = #[.int .i64 XL0, .int .i64 XA0, .int .i64 XD0] := by obtain ⟨l⟩ := c0; have h : l = [.int .i64 XL0, .int .i64 XA0, .int .i64 XD0] := eX0; rw [h]
  subst e0
  obtain ⟨ao1, len1, cap1, rfl⟩ := okWide_slice Tryz.underlying24 (hval 1 24 v1 rfl rfl)
  obtain ⟨f1, hf1⟩ := h1
  obtain ⟨u1, X1, e1, hX1⟩ := open_deeds hf1 (fun n hn => by simpa using z n (DataW.weights_mem_each (j := 1) (t := 24) (d := d1) rfl rfl n hn))
  simp only [Value.cells, List.cons.injEq, and_true] at e1
  subst e1
  clear hA0 hval0 hsz0 hsz z
  refine (tableKept_any W XL0 XA0 XD0 _ X1 hX1).mono fun e W' ⟨he, hfr⟩ => ?_
  have bel : Below W.heap.size W W' := hfr.below (Nat.le_refl _) (fun _ h => h.elim)
  subst he
  exact ⟨_, rfl, _, _, _, [], _, [], hW', trodAll_mk1 (shut_bool Tryz.underlying4 _), (trodAll_cons_mk (Below.trod laidOut (by kernel_rfl) (of_decide_eq_true (by kernel_rfl)) k0 bel lt0) (trodAll_cons_mk (Below.trod laidOut (by kernel_rfl) (of_decide_eq_true (by kernel_rfl)) k1 bel lt1) trodAll_mk0)), rfl, bel.frame _, fun h => by cases h⟩
theorem said : Rows.tableKeptRow.holds Tryz.pinned (OpenSpec.ofChange Rows.tableKeptSpec) :=
  OpenClaim.holds_of_wide 3 Tryz.f3 rfl rfl rfl rfl rfl rfl rfl ⟨rfl, rfl, rfl, rfl, rfl⟩ rfl rfl rfl rfl rfl (by kernel_rfl) Tryz.func3 (by kernel_rfl)
    (of_decide_eq_true (by kernel_rfl)) (by unfold Func.isWrapper; first | (rw [if_pos (by decide +kernel)]; kernel_rfl) | (rw [if_neg (by decide +kernel)]; exact ⟨rfl, rfl⟩))
    (fun os started H enc _ => lifted os started H enc)
end Go.Proofs.YtldgcoikbjbjeaaGreat.tableKept
namespace Go.Proofs.YtldgcoikbjbjeaaGreat
theorem tableKept_holds : Rows.TableKeptSaid := tableKept.said
end Go.Proofs.YtldgcoikbjbjeaaGreat
