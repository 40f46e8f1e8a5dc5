/- The listed tables, as a law's row gives them: where they stand. The start that the door's own run leaves meets the condition. -/
import Derived.Test.YthjpgnmpcllolaaDoorSum
import Derived.Test.YthjpgnmpcllolaaDoorCards
import Derived.Test.YthjpgnmpcllolaaDoorTie
import Derived.ProofKit
import Derived.LaidMore
import Derived.OpenShut
import Derived.Stop.Joined
import Derived.Lib.LaidTab
import Derived.ChangeOld
import Derived.Below
namespace Go.Proofs.YthjpgnmpcllolaaDoor
open Go.ChangeShapes Go.WideShapes Go.ChangeAt Go.RowKit
set_option linter.unusedVariables false

theorem own : ownKnob Tryd.prog.godebug = none := by kernel_rfl
theorem laidOut : laidOutB Tryd.prog = true := by kernel_rfl
theorem gFirst : Tryd.prog.globalNamed "spence/hash.first" = some 0 := by kernel_rfl
theorem gSteps : Tryd.prog.globalNamed "spence/hash.steps" = some 1 := by kernel_rfl
theorem tFirst : (Tryd.prog.globals[0]?).map (·.type) = some 55 := by kernel_rfl
theorem tSteps : (Tryd.prog.globals[1]?).map (·.type) = some 74 := by kernel_rfl

/-- What is listed. -/
abbrev laid2 : List (String × DataW Unit) := [("spence/hash.first", Rows.laid_spence_hash_first), ("spence/hash.steps", Rows.laid_spence_hash_steps)]
theorem laid_of {W : World} (h : laidMetH Tryd.prog laid2 W) : Laid W := by
  rw [MakeChecks.laidMetH_plain _ _ _ (by kernel_rfl)] at h
  obtain ⟨ps, ⟨g0, t0, cs0, f0, p0, q0, hg0, ht0, hv0, hd0, ⟨g1, t1, cs1, f1, p1, q1, hg1, ht1, hv1, hd1, _, _⟩, _⟩, _, _⟩ := h
  obtain rfl := Option.some.inj (gFirst.symm.trans hg0)
  obtain rfl := Option.some.inj (gSteps.symm.trans hg1)
  obtain rfl := Option.some.inj (tFirst.symm.trans ht0)
  obtain rfl := Option.some.inj (tSteps.symm.trans ht1)
  have e0 := Lib.cells_of_tab (k := .u32) (zs := h0.list.map fun (n : Nat) => (n : Int)) Tryd.underlying55 Tryd.underlying53 (by kernel_rfl) (by kernel_rfl) hd0
  have e1 := Lib.cells_of_tab (k := .u32) (zs := ks.map fun (n : Nat) => (n : Int)) Tryd.underlying74 Tryd.underlying53 (by kernel_rfl) (by kernel_rfl) hd1
  have c0 : ∀ i, W.cell? ⟨0, i, none⟩ = (stc h0)[i]? := fun i => by
    rw [World.var?_cell hg0 hv0 i, ← Array.getElem?_toList, e0]
    rfl
  have c1 : ∀ i, i < 64 → W.cell? ⟨1, i, none⟩ = some (.int .u32 (ks.getD i 0 : Nat)) := fun i hi => by
    rw [World.var?_cell hg1 hv1 i, ← Array.getElem?_toList, e1, List.map_map, List.getElem?_map, List.getD_eq_getElem?_getD, List.getElem?_eq_getElem (by rw [ks_length]; exact hi)]
    rfl
  exact ⟨fun i v hv => (c0 i).trans hv, c1, World.block_lt_of_cell? _ _ (c1 0 (by decide))⟩

theorem door_met (os : Os) (args : Array Value) : laidMetH Tryd.prog laid2 ((World.doorLaid Tryd.prog 400 os).forCall (fun _ _ => 0) ⟨#[], args, []⟩).memory :=
  laidMetH_of_parts3 (fuel := 8) (laidMet_of_run' 8 (by kernel_rfl) (by kernel_rfl)) (by kernel_rfl) (by kernel_rfl)
theorem door_shaped (os : Os) (args : Array Value) : ((World.doorLaid Tryd.prog 400 os).forCall (fun _ _ => 0) ⟨#[], args, []⟩).Shaped Tryd.prog :=
  World.shaped_of_RefB (by kernel_rfl) (by kernel_rfl)
end Go.Proofs.YthjpgnmpcllolaaDoor
