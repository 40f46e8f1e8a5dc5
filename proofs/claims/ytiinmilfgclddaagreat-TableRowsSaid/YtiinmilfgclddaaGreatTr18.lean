/- Laid together by merge.py: DOps4 JShape -/
import Derived.Test.YtiinmilfgclddaaGreatTr8
import Derived.Test.YtiinmilfgclddaaGreatTr16
import Derived.Deep.RegionHeld3

/- dev's own device, whole: Kept. -/
namespace Go.Proofs.YtiinmilfgclddaaGreat
open Go.RowKit Go.ChangeShapes
set_option linter.unusedVariables false

theorem OwnB.madeN (w : World) (n : Nat) (hn : n ≤ maxLen) : OwnB (fun k => k = w.heap.size) (w.alloc (.cells ((List.replicate n (0 : UInt8)).map bv).toArray 5)) (.slice (some ⟨w.heap.size, 0, none⟩) 0 n) [] := by
  refine ⟨⟨by simp, .inr ⟨w.heap.size, n, _, rfl, Nat.zero_le _, heap_alloc_new w _, Nat.zero_le _, hn, by simp, by simp⟩⟩, fun g hg => ?_⟩
  simp [Value.ownBlock] at hg
  exact hg.symm
theorem run_make0 (w : World) (m : Int) (n : Nat) (hm : m = n) (hn : n ≤ 140737488355328) :
    (Instr.makeSlice 43 (.int .i64 0) (.int .i64 m)).run Tryz.prog w = .ok (.slice (some ⟨w.heap.size, 0, none⟩) 0 n) (w.alloc (.cells ((List.replicate n (0 : UInt8)).map bv).toArray 5)) := by
  subst hm
  obtain ⟨i0, hi, hz0, hz1, hz2⟩ := info_parts Tryz.infoB
  have h := run_make (P := Tryz.prog) w 43 5 i0 (.int .u8 0) Tryz.underlying43 hi hz0 .i64 .i64 0 (n : Int) (by omega) (by omega) (by rw [hz2]; omega) (by omega)
  rw [h, hz1, Int.toNat_natCast, Nat.mul_one]
  have e : madeCells (Value.int .u8 0).cells n = ((List.replicate n (0 : UInt8)).map bv).toArray := by
    apply Array.ext'
    simp only [madeCells, Value.cells, Array.toList_map, Array.toList_range, List.map_replicate]
    apply List.ext_getElem
    · simp
    · intro k h1 h2
      simp [Nat.mod_one]
      rfl
  rw [e]
  rfl
theorem take_sec (L : List UInt8) (i : Nat) : L.take (64 * (i + 1)) = L.take (64 * i) ++ secAt L i := by
  rw [secAt, show 64 * (i + 1) = 64 * i + 64 by omega, List.take_add]

end Go.Proofs.YtiinmilfgclddaaGreat

/- log's own shapes: isMany, areaAt, dataAt, Right, Sectors, fits. -/
namespace Go.Proofs.YtiinmilfgclddaaGreat
open Go.RowKit Go.ChangeShapes
set_option linter.unusedVariables false

def manyS (n : Int) : Bool := decide (1 ≤ n ∧ n ≤ 8192)
theorem lMany_any (w : World) (n : Int) :
    Calls Tryz.prog 24 #[.int .i64 n] w fun e w' => e = .returned (.bool (manyS n)) ∧ w = w' := by
  by_cases h1 : 1 ≤ n
  · by_cases h2 : n ≤ 8192
    · have hR : manyS n = true := by rw [manyS, decide_eq_true_iff]; exact ⟨h1, h2⟩
      rw [hR]
      clear hR
      go_enter Tryz.func24, Tryz.ntmps24
      go_wp2
      go_ret
      exact ⟨rfl, rfl⟩
    · have hR : manyS n = false := by rw [manyS, decide_eq_false_iff_not]; omega
      rw [hR]
      clear hR
      go_enter Tryz.func24, Tryz.ntmps24
      go_wp2
      go_ret
      exact ⟨rfl, rfl⟩
  · have hR : manyS n = false := by rw [manyS, decide_eq_false_iff_not]; omega
    rw [hR]
    clear hR
    go_enter Tryz.func24, Tryz.ntmps24
    go_wp2
    go_ret
    exact ⟨rfl, rfl⟩
theorem manyS_yes {n : Int} (h : manyS n = true) : ∃ m : Nat, n = m ∧ 1 ≤ m ∧ m ≤ 8192 := by
  rw [manyS, decide_eq_true_iff] at h
  exact ⟨n.toNat, by omega, by omega, by omega⟩
theorem manyS_nat {m : Nat} (h1 : 1 ≤ m) (h2 : m ≤ 8192) : manyS (m : Int) = true := by
  rw [manyS, decide_eq_true_iff]; omega

theorem lArea_any (w : World) (L A D n : Nat) (hL : L ≤ 8192) (hA : A ≤ 8192) (hn : n ≤ 2) :
    Calls Tryz.prog 50 #[.agg #[.int .i64 L, .int .i64 A, .int .i64 D], .int .i64 n] w fun e w' => e = .returned (.int .i64 ((1 + L + n * A : Nat) : Int)) ∧ Fr (fun _ => False) w w' := by
  obtain ⟨m, hm⟩ : ∃ m, m = n * A := ⟨_, rfl⟩
  have hmb : m ≤ 16384 := by rw [hm]; exact Nat.le_trans (Nat.mul_le_mul hn hA) (by decide)
  have hmi : (n : Int) * (A : Int) = (m : Int) := by rw [hm]; push_cast; rfl
  rw [← hm]
  have HM := Lib.hid hm
  clear hm
  go_enter Tryz.func50, Tryz.ntmps50
  go_wp2
  go_ret
  exact ⟨by push_cast; rfl, (Fr.refl _ _).alloc _⟩
theorem lData_any (w : World) (L A D : Nat) (hL : L ≤ 8192) (hA : A ≤ 8192) :
    Calls Tryz.prog 25 #[.agg #[.int .i64 L, .int .i64 A, .int .i64 D]] w fun e w' => e = .returned (.int .i64 ((1 + L + 2 * A : Nat) : Int)) ∧ Fr (fun _ => False) w w' := by
  have hc := fun w => lArea_any w L A D 2 hL hA (by decide)
  have HC := Lib.hid hc
  clear hc
  go_enter Tryz.func25, Tryz.ntmps25
  go_wp2_with (go_at_call 50; refine (HC.out _).mono ?_; rintro e w1 ⟨rfl, hf1⟩; (have H1 := Lib.hid hf1); clear hf1)
  go_ret
  exact ⟨rfl, ((Fr.refl _ w).alloc _).trans H1.out (fun _ h => h.elim)⟩
end Go.Proofs.YtiinmilfgclddaaGreat

