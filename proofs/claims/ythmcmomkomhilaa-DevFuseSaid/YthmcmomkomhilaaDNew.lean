/- dev's own device, made anew. -/
import Derived.Test.YthmcmomkomhilaaDHead
import Derived.Test.YthmcmomkomhilaaArr
namespace Go.Proofs.Ythmcmomkomhilaa
open Go.RowKit Go.ChangeShapes
set_option linter.unusedVariables false

theorem Try.infoSec : (Try.prog.info? 70).map (fun i => (i.zero, i.size, i.bytes)) = some (some (.agg (Array.replicate 64 (.int .u8 0))), 64, 64) := by kernel_rfl
/-- make([]sector, s). -/
theorem run_make_secs (w : World) (m : Int) (s : Nat) (hm : m = s) (hs : s ≤ 8192) :
    (Instr.makeSlice 51 (.int .i64 m) (.int .i64 m)).run Try.prog w = .ok (.slice (some ⟨w.heap.size, 0, none⟩) s s) (w.alloc (.cells ((List.replicate (64 * s) (0 : UInt8)).map bv).toArray 70)) := by
  subst hm
  obtain ⟨i0, hi, hz0, hz1, hz2⟩ := info_parts Try.infoSec
  have h := run_make (P := Try.prog) w 51 70 i0 (.agg (Array.replicate 64 (.int .u8 0))) Try.underlying51 hi hz0 .i64 .i64 (s : Int) (s : Int) (by omega) (Int.le_refl _) (by rw [hz2]; omega) (by omega)
  rw [h, hz1, Int.toNat_natCast]
  have e : madeCells (Value.agg (Array.replicate 64 (.int .u8 0))).cells (s * 64) = ((List.replicate (64 * s) (0 : UInt8)).map bv).toArray := by
    apply Array.ext
    · simp [madeCells]
      omega
    · intro k h1 h2
      have hk : k % 64 < 64 := Nat.mod_lt _ (by decide)
      simp [madeCells, Value.cells, hk, bv]
  rw [e]
/-- New: none where there are too few sectors, or too many. -/
theorem dNew_no (w : World) (n : Int) (hn : ¬ (1 ≤ n ∧ n ≤ 8192)) :
    Calls Try.prog 9 #[.int .i64 n] w fun e w' => e = .returned (.tuple #[.pointer none, .int .i64 2]) ∧ w = w' := by
  by_cases h1 : n < 1
  · go_enter Try.func9, Try.ntmps9
    go_wp2
    go_ret2
    exact ⟨rfl, rfl⟩
  · have h2 : 8192 < n := by omega
    have h3 : decide (n < 1) = false := by rw [decide_eq_false_iff_not]; exact h1
    have h4 : decide (8192 < n) = true := by rw [decide_eq_true_iff]; exact h2
    go_enter Try.func9, Try.ntmps9
    go_wp2
    go_ret2
    exact ⟨rfl, rfl⟩
theorem dNew_yes (w : World) (s : Nat) (h1 : 1 ≤ s) (h2 : s ≤ 8192) :
    Calls Try.prog 9 #[.int .i64 s] w fun e w' => ∃ g kb, e = .returned (.tuple #[.pointer (some ⟨g, 0, none⟩), .int .i64 0]) ∧ w.heap.size ≤ g ∧ w.heap.size ≤ kb ∧ g ≠ kb ∧ DvH w' g kb s (.slice none 0 0) 0 0 false ∧ BytT w' kb 70 (List.replicate (64 * s) 0) ∧ Fr (fun _ => False) w w' := by
  have hmk := fun W => run_make_secs W (s : Int) s rfl h2
  have h3 : decide ((s : Int) < 1) = false := by rw [decide_eq_false_iff_not]; omega
  have h4 : decide (8192 < (s : Int)) = false := by rw [decide_eq_false_iff_not]; omega
  obtain ⟨Z, hZ⟩ : ∃ Z, Z = ((List.replicate (64 * s) (0 : UInt8)).map bv).toArray := ⟨_, rfl⟩
  rw [← hZ] at hmk
  have HZ := Lib.hid hZ
  clear hZ
  go_enter Try.func9, Try.ntmps9
  go_wp2
  go_ret2
  refine ⟨w.heap.size + 1, w.heap.size, rfl, by omega, Nat.le_refl _, by omega, ?_, ?_, ((Fr.refl _ _).alloc _).alloc _⟩
  · exact heap_alloc2_new w _ _
  · rw [HZ.out]; exact heap_alloc2_old w _ _
end Go.Proofs.Ythmcmomkomhilaa
