/- The document's own device, made anew. -/
import Derived.Test.YthmcmomkomhilaaRDev0
import Derived.Test.YthmcmomkomhilaaArr
namespace Go.Proofs.Ythmcmomkomhilaa
open Go.RowKit Go.ChangeShapes
set_option linter.unusedVariables false

/-- New: none where there are too few sectors, or too many. -/
theorem rNew_no (w : World) (n : Int) (hn : ¬ (1 ≤ n ∧ n ≤ 8192)) :
    Calls Try.prog 10 #[.int .i64 n] w fun e w' => e = .returned (.tuple #[.pointer none, .int .i64 2]) ∧ w = w' := by
  by_cases h1 : n < 1
  · go_enter Try.func10, Try.ntmps10
    go_wp2
    go_ret2
    exact ⟨rfl, rfl⟩
  · have h2 : 8192 < n := by omega
    have h3 : decide (n < 1) = false := by rw [decide_eq_false_iff_not]; exact h1
    have h4 : decide (8192 < n) = true := by rw [decide_eq_true_iff]; exact h2
    go_enter Try.func10, Try.ntmps10
    go_wp2
    go_ret2
    exact ⟨rfl, rfl⟩
/-- .. else one of noughts: its head in a new block, its bytes in another one. -/
theorem rNew_yes (w : World) (s : Nat) (h1 : 1 ≤ s) (h2 : s ≤ 8192) :
    Calls Try.prog 10 #[.int .i64 s] w fun e w' => ∃ g ga, e = .returned (.tuple #[.pointer (some ⟨g, 0, none⟩), .int .i64 0]) ∧ w.heap.size ≤ g ∧ w.heap.size ≤ ga ∧ g ≠ ga ∧ DevH w' g (.slice (some ⟨ga, 0, none⟩) (64 * s) (64 * s)) (.slice none 0 0) 0 0 false ∧ BytT w' ga 5 (List.replicate (64 * s) 0) ∧ Fr (fun _ => False) w w' := by
  obtain ⟨m, hm⟩ : ∃ m : Nat, m = 64 * s := ⟨_, rfl⟩
  have hmk := fun W => run_make_bytes W (m : Int) m rfl (by omega)
  rw [← hm]
  have e1 : (s : Int) * 64 = (m : Int) := by omega
  have h3 : decide ((s : Int) < 1) = false := by rw [decide_eq_false_iff_not]; omega
  have h4 : decide (8192 < (s : Int)) = false := by rw [decide_eq_false_iff_not]; omega
  obtain ⟨Z, hZ⟩ : ∃ Z, Z = ((List.replicate m (0 : UInt8)).map bv).toArray := ⟨_, rfl⟩
  rw [← hZ] at hmk
  have HZ := Lib.hid hZ
  clear hZ hm
  go_enter Try.func10, Try.ntmps10
  go_wp2
  go_ret2
  refine ⟨w.heap.size + 1, w.heap.size, rfl, by omega, Nat.le_refl _, by omega, ?_, ?_, ((Fr.refl _ _).alloc _).alloc _⟩
  · exact heap_alloc2_new w _ _
  · rw [HZ.out]; exact heap_alloc2_old w _ _
end Go.Proofs.Ythmcmomkomhilaa
