/- Laid together: Flat0 ApartLib Apart ApartBytes -/
import Derived.Test.YtfkgdjoaoidkeaaGreatRz0
import Derived.Test.YtfkgdjoaoidkeaaGreatRz15

namespace Go.Proofs.YtfkgdjoaoidkeaaGreat
open Go.RowKit Go.ChangeShapes
set_option linter.unusedVariables false
set_option maxHeartbeats 1000000 in
set_option maxRecDepth 100000 in
theorem flatLimbs_nil (w : World) :
    Calls Tryz.prog 46 #[.slice none 0 0] w fun e w' => e = .returned (.bool true) ∧ Fr (fun _ => False) w w' := by
  have hmk : ∀ w : World, (Instr.makeSlice 64 (.int .i64 0) (.int .i64 0)).run Tryz.prog w = .ok (.slice (some ⟨w.heap.size, 0, none⟩) 0 0) (w.alloc (.cells #[] 127)) := fun _ => by kernel_rfl
  go_enter Tryz.func46, Tryz.ntmps46
  go_wp2
  refine wp_loop_rounds 1 ?_
  rw [rounds_succ]
  go_wp2
  refine wp_loop_rounds 1 ?_
  rw [rounds_succ]
  go_wp2
  refine wp_loop_rounds 1 ?_
  rw [rounds_succ]
  go_wp2
  refine wp_loop_rounds 1 ?_
  rw [rounds_succ]
  go_wp2
  refine wp_loop_rounds 1 ?_
  rw [rounds_succ]
  go_wp2
  go_ret
  exact ⟨rfl, (Fr.refl _ _).alloc _⟩
set_option maxHeartbeats 1000000 in
set_option maxRecDepth 100000 in
theorem flatWords_nil (w : World) :
    Calls Tryz.prog 47 #[.slice none 0 0] w fun e w' => e = .returned (.bool true) ∧ Fr (fun _ => False) w w' := by
  have hmk : ∀ w : World, (Instr.makeSlice 65 (.int .i64 0) (.int .i64 0)).run Tryz.prog w = .ok (.slice (some ⟨w.heap.size, 0, none⟩) 0 0) (w.alloc (.cells #[] 129)) := fun _ => by kernel_rfl
  go_enter Tryz.func47, Tryz.ntmps47
  go_wp2
  refine wp_loop_rounds 1 ?_
  rw [rounds_succ]
  go_wp2
  refine wp_loop_rounds 1 ?_
  rw [rounds_succ]
  go_wp2
  refine wp_loop_rounds 1 ?_
  rw [rounds_succ]
  go_wp2
  refine wp_loop_rounds 1 ?_
  rw [rounds_succ]
  go_wp2
  refine wp_loop_rounds 1 ?_
  rw [rounds_succ]
  go_wp2
  go_ret
  exact ⟨rfl, (Fr.refl _ _).alloc _⟩
set_option maxHeartbeats 1000000 in
set_option maxRecDepth 100000 in
theorem flatInts_nil (w : World) :
    Calls Tryz.prog 48 #[.slice none 0 0] w fun e w' => e = .returned (.bool true) ∧ Fr (fun _ => False) w w' := by
  have hmk : ∀ w : World, (Instr.makeSlice 66 (.int .i64 0) (.int .i64 0)).run Tryz.prog w = .ok (.slice (some ⟨w.heap.size, 0, none⟩) 0 0) (w.alloc (.cells #[] 31)) := fun _ => by kernel_rfl
  go_enter Tryz.func48, Tryz.ntmps48
  go_wp2
  refine wp_loop_rounds 1 ?_
  rw [rounds_succ]
  go_wp2
  refine wp_loop_rounds 1 ?_
  rw [rounds_succ]
  go_wp2
  refine wp_loop_rounds 1 ?_
  rw [rounds_succ]
  go_wp2
  refine wp_loop_rounds 1 ?_
  rw [rounds_succ]
  go_wp2
  refine wp_loop_rounds 1 ?_
  rw [rounds_succ]
  go_wp2
  go_ret
  exact ⟨rfl, (Fr.refl _ _).alloc _⟩
set_option maxHeartbeats 1000000 in
set_option maxRecDepth 100000 in
theorem flatLongs_nil (w : World) :
    Calls Tryz.prog 49 #[.slice none 0 0] w fun e w' => e = .returned (.bool true) ∧ Fr (fun _ => False) w w' := by
  have hmk : ∀ w : World, (Instr.makeSlice 67 (.int .i64 0) (.int .i64 0)).run Tryz.prog w = .ok (.slice (some ⟨w.heap.size, 0, none⟩) 0 0) (w.alloc (.cells #[] 130)) := fun _ => by kernel_rfl
  go_enter Tryz.func49, Tryz.ntmps49
  go_wp2
  refine wp_loop_rounds 1 ?_
  rw [rounds_succ]
  go_wp2
  refine wp_loop_rounds 1 ?_
  rw [rounds_succ]
  go_wp2
  refine wp_loop_rounds 1 ?_
  rw [rounds_succ]
  go_wp2
  refine wp_loop_rounds 1 ?_
  rw [rounds_succ]
  go_wp2
  refine wp_loop_rounds 1 ?_
  rw [rounds_succ]
  go_wp2
  go_ret
  exact ⟨rfl, (Fr.refl _ _).alloc _⟩
set_option maxHeartbeats 1000000 in
set_option maxRecDepth 100000 in
theorem flatTexts_nil (w : World) :
    Calls Tryz.prog 50 #[.slice none 0 0] w fun e w' => e = .returned (.bool true) ∧ Fr (fun _ => False) w w' := by
  have hmk : ∀ w : World, (Instr.makeSlice 68 (.int .i64 0) (.int .i64 0)).run Tryz.prog w = .ok (.slice (some ⟨w.heap.size, 0, none⟩) 0 0) (w.alloc (.cells #[] 131)) := fun _ => by kernel_rfl
  go_enter Tryz.func50, Tryz.ntmps50
  go_wp2
  refine wp_loop_rounds 1 ?_
  rw [rounds_succ]
  go_wp2
  refine wp_loop_rounds 1 ?_
  rw [rounds_succ]
  go_wp2
  refine wp_loop_rounds 1 ?_
  rw [rounds_succ]
  go_wp2
  refine wp_loop_rounds 1 ?_
  rw [rounds_succ]
  go_wp2
  refine wp_loop_rounds 1 ?_
  rw [rounds_succ]
  go_wp2
  go_ret
  exact ⟨rfl, (Fr.refl _ _).alloc _⟩
set_option maxHeartbeats 1000000 in
set_option maxRecDepth 100000 in
theorem flatTruths_nil (w : World) :
    Calls Tryz.prog 52 #[.slice none 0 0] w fun e w' => e = .returned (.bool true) ∧ Fr (fun _ => False) w w' := by
  have hmk : ∀ w : World, (Instr.makeSlice 69 (.int .i64 0) (.int .i64 0)).run Tryz.prog w = .ok (.slice (some ⟨w.heap.size, 0, none⟩) 0 0) (w.alloc (.cells #[] 132)) := fun _ => by kernel_rfl
  go_enter Tryz.func52, Tryz.ntmps52
  go_wp2
  refine wp_loop_rounds 1 ?_
  rw [rounds_succ]
  go_wp2
  refine wp_loop_rounds 1 ?_
  rw [rounds_succ]
  go_wp2
  refine wp_loop_rounds 1 ?_
  rw [rounds_succ]
  go_wp2
  refine wp_loop_rounds 1 ?_
  rw [rounds_succ]
  go_wp2
  refine wp_loop_rounds 1 ?_
  rw [rounds_succ]
  go_wp2
  go_ret
  exact ⟨rfl, (Fr.refl _ _).alloc _⟩
set_option maxHeartbeats 1000000 in
set_option maxRecDepth 100000 in
theorem flatPaths_nil (w : World) :
    Calls Tryz.prog 53 #[.slice none 0 0] w fun e w' => e = .returned (.bool true) ∧ Fr (fun _ => False) w w' := by
  have hmk : ∀ w : World, (Instr.makeSlice 70 (.int .i64 0) (.int .i64 0)).run Tryz.prog w = .ok (.slice (some ⟨w.heap.size, 0, none⟩) 0 0) (w.alloc (.cells #[] 25)) := fun _ => by kernel_rfl
  go_enter Tryz.func53, Tryz.ntmps53
  go_wp2
  refine wp_loop_rounds 1 ?_
  rw [rounds_succ]
  go_wp2
  refine wp_loop_rounds 1 ?_
  rw [rounds_succ]
  go_wp2
  refine wp_loop_rounds 1 ?_
  rw [rounds_succ]
  go_wp2
  refine wp_loop_rounds 1 ?_
  rw [rounds_succ]
  go_wp2
  refine wp_loop_rounds 1 ?_
  rw [rounds_succ]
  go_wp2
  go_ret
  exact ⟨rfl, (Fr.refl _ _).alloc _⟩
set_option maxHeartbeats 1000000 in
set_option maxRecDepth 100000 in
theorem flatKids_nil (w : World) :
    Calls Tryz.prog 54 #[.slice none 0 0] w fun e w' => e = .returned (.bool true) ∧ Fr (fun _ => False) w w' := by
  have hmk : ∀ w : World, (Instr.makeSlice 71 (.int .i64 0) (.int .i64 0)).run Tryz.prog w = .ok (.slice (some ⟨w.heap.size, 0, none⟩) 0 0) (w.alloc (.cells #[] 133)) := fun _ => by kernel_rfl
  go_enter Tryz.func54, Tryz.ntmps54
  go_wp2
  refine wp_loop_rounds 1 ?_
  rw [rounds_succ]
  go_wp2
  refine wp_loop_rounds 1 ?_
  rw [rounds_succ]
  go_wp2
  refine wp_loop_rounds 1 ?_
  rw [rounds_succ]
  go_wp2
  refine wp_loop_rounds 1 ?_
  rw [rounds_succ]
  go_wp2
  refine wp_loop_rounds 1 ?_
  rw [rounds_succ]
  go_wp2
  go_ret
  exact ⟨rfl, (Fr.refl _ _).alloc _⟩
set_option maxHeartbeats 1000000 in
set_option maxRecDepth 100000 in
theorem flatNodes_nil (w : World) :
    Calls Tryz.prog 55 #[.slice none 0 0] w fun e w' => e = .returned (.bool true) ∧ Fr (fun _ => False) w w' := by
  have hmk : ∀ w : World, (Instr.makeSlice 72 (.int .i64 0) (.int .i64 0)).run Tryz.prog w = .ok (.slice (some ⟨w.heap.size, 0, none⟩) 0 0) (w.alloc (.cells #[] 141)) := fun _ => by kernel_rfl
  go_enter Tryz.func55, Tryz.ntmps55
  go_wp2
  refine wp_loop_rounds 1 ?_
  rw [rounds_succ]
  go_wp2
  refine wp_loop_rounds 1 ?_
  rw [rounds_succ]
  go_wp2
  refine wp_loop_rounds 1 ?_
  rw [rounds_succ]
  go_wp2
  refine wp_loop_rounds 1 ?_
  rw [rounds_succ]
  go_wp2
  refine wp_loop_rounds 1 ?_
  rw [rounds_succ]
  go_wp2
  go_ret
  exact ⟨rfl, (Fr.refl _ _).alloc _⟩
set_option maxHeartbeats 1000000 in
set_option maxRecDepth 100000 in
theorem flatLines_nil (w : World) :
    Calls Tryz.prog 56 #[.slice none 0 0] w fun e w' => e = .returned (.bool true) ∧ Fr (fun _ => False) w w' := by
  have hmk : ∀ w : World, (Instr.makeSlice 73 (.int .i64 0) (.int .i64 0)).run Tryz.prog w = .ok (.slice (some ⟨w.heap.size, 0, none⟩) 0 0) (w.alloc (.cells #[] 144)) := fun _ => by kernel_rfl
  go_enter Tryz.func56, Tryz.ntmps56
  go_wp2
  refine wp_loop_rounds 1 ?_
  rw [rounds_succ]
  go_wp2
  refine wp_loop_rounds 1 ?_
  rw [rounds_succ]
  go_wp2
  refine wp_loop_rounds 1 ?_
  rw [rounds_succ]
  go_wp2
  refine wp_loop_rounds 1 ?_
  rw [rounds_succ]
  go_wp2
  refine wp_loop_rounds 1 ?_
  rw [rounds_succ]
  go_wp2
  go_ret
  exact ⟨rfl, (Fr.refl _ _).alloc _⟩
set_option maxHeartbeats 1000000 in
set_option maxRecDepth 100000 in
theorem flatChanges_nil (w : World) :
    Calls Tryz.prog 57 #[.slice none 0 0] w fun e w' => e = .returned (.bool true) ∧ Fr (fun _ => False) w w' := by
  have hmk : ∀ w : World, (Instr.makeSlice 74 (.int .i64 0) (.int .i64 0)).run Tryz.prog w = .ok (.slice (some ⟨w.heap.size, 0, none⟩) 0 0) (w.alloc (.cells #[] 149)) := fun _ => by kernel_rfl
  go_enter Tryz.func57, Tryz.ntmps57
  go_wp2
  refine wp_loop_rounds 1 ?_
  rw [rounds_succ]
  go_wp2
  refine wp_loop_rounds 1 ?_
  rw [rounds_succ]
  go_wp2
  refine wp_loop_rounds 1 ?_
  rw [rounds_succ]
  go_wp2
  refine wp_loop_rounds 1 ?_
  rw [rounds_succ]
  go_wp2
  refine wp_loop_rounds 1 ?_
  rw [rounds_succ]
  go_wp2
  go_ret
  exact ⟨rfl, (Fr.refl _ _).alloc _⟩
set_option maxHeartbeats 1000000 in
set_option maxRecDepth 100000 in
theorem flatRuns_nil (w : World) :
    Calls Tryz.prog 58 #[.slice none 0 0] w fun e w' => e = .returned (.bool true) ∧ Fr (fun _ => False) w w' := by
  have hmk : ∀ w : World, (Instr.makeSlice 75 (.int .i64 0) (.int .i64 0)).run Tryz.prog w = .ok (.slice (some ⟨w.heap.size, 0, none⟩) 0 0) (w.alloc (.cells #[] 154)) := fun _ => by kernel_rfl
  go_enter Tryz.func58, Tryz.ntmps58
  go_wp2
  refine wp_loop_rounds 1 ?_
  rw [rounds_succ]
  go_wp2
  refine wp_loop_rounds 1 ?_
  rw [rounds_succ]
  go_wp2
  refine wp_loop_rounds 1 ?_
  rw [rounds_succ]
  go_wp2
  refine wp_loop_rounds 1 ?_
  rw [rounds_succ]
  go_wp2
  refine wp_loop_rounds 1 ?_
  rw [rounds_succ]
  go_wp2
  go_ret
  exact ⟨rfl, (Fr.refl _ _).alloc _⟩
set_option maxHeartbeats 1000000 in
set_option maxRecDepth 100000 in
theorem flatObjects_nil (w : World) :
    Calls Tryz.prog 59 #[.slice none 0 0] w fun e w' => e = .returned (.bool true) ∧ Fr (fun _ => False) w w' := by
  have hmk : ∀ w : World, (Instr.makeSlice 76 (.int .i64 0) (.int .i64 0)).run Tryz.prog w = .ok (.slice (some ⟨w.heap.size, 0, none⟩) 0 0) (w.alloc (.cells #[] 158)) := fun _ => by kernel_rfl
  go_enter Tryz.func59, Tryz.ntmps59
  go_wp2
  refine wp_loop_rounds 1 ?_
  rw [rounds_succ]
  go_wp2
  refine wp_loop_rounds 1 ?_
  rw [rounds_succ]
  go_wp2
  refine wp_loop_rounds 1 ?_
  rw [rounds_succ]
  go_wp2
  refine wp_loop_rounds 1 ?_
  rw [rounds_succ]
  go_wp2
  refine wp_loop_rounds 1 ?_
  rw [rounds_succ]
  go_wp2
  go_ret
  exact ⟨rfl, (Fr.refl _ _).alloc _⟩
set_option maxHeartbeats 1000000 in
set_option maxRecDepth 100000 in
theorem flatQuotas_nil (w : World) :
    Calls Tryz.prog 60 #[.slice none 0 0] w fun e w' => e = .returned (.bool true) ∧ Fr (fun _ => False) w w' := by
  have hmk : ∀ w : World, (Instr.makeSlice 77 (.int .i64 0) (.int .i64 0)).run Tryz.prog w = .ok (.slice (some ⟨w.heap.size, 0, none⟩) 0 0) (w.alloc (.cells #[] 163)) := fun _ => by kernel_rfl
  go_enter Tryz.func60, Tryz.ntmps60
  go_wp2
  refine wp_loop_rounds 1 ?_
  rw [rounds_succ]
  go_wp2
  refine wp_loop_rounds 1 ?_
  rw [rounds_succ]
  go_wp2
  refine wp_loop_rounds 1 ?_
  rw [rounds_succ]
  go_wp2
  refine wp_loop_rounds 1 ?_
  rw [rounds_succ]
  go_wp2
  refine wp_loop_rounds 1 ?_
  rw [rounds_succ]
  go_wp2
  go_ret
  exact ⟨rfl, (Fr.refl _ _).alloc _⟩
set_option maxHeartbeats 1000000 in
set_option maxRecDepth 100000 in
theorem flatNameds_nil (w : World) :
    Calls Tryz.prog 61 #[.slice none 0 0] w fun e w' => e = .returned (.bool true) ∧ Fr (fun _ => False) w w' := by
  have hmk : ∀ w : World, (Instr.makeSlice 78 (.int .i64 0) (.int .i64 0)).run Tryz.prog w = .ok (.slice (some ⟨w.heap.size, 0, none⟩) 0 0) (w.alloc (.cells #[] 167)) := fun _ => by kernel_rfl
  go_enter Tryz.func61, Tryz.ntmps61
  go_wp2
  refine wp_loop_rounds 1 ?_
  rw [rounds_succ]
  go_wp2
  refine wp_loop_rounds 1 ?_
  rw [rounds_succ]
  go_wp2
  refine wp_loop_rounds 1 ?_
  rw [rounds_succ]
  go_wp2
  refine wp_loop_rounds 1 ?_
  rw [rounds_succ]
  go_wp2
  refine wp_loop_rounds 1 ?_
  rw [rounds_succ]
  go_wp2
  go_ret
  exact ⟨rfl, (Fr.refl _ _).alloc _⟩
set_option maxHeartbeats 1000000 in
set_option maxRecDepth 100000 in
theorem flatDrvs_nil (w : World) :
    Calls Tryz.prog 62 #[.slice none 0 0] w fun e w' => e = .returned (.bool true) ∧ Fr (fun _ => False) w w' := by
  have hmk : ∀ w : World, (Instr.makeSlice 79 (.int .i64 0) (.int .i64 0)).run Tryz.prog w = .ok (.slice (some ⟨w.heap.size, 0, none⟩) 0 0) (w.alloc (.cells #[] 173)) := fun _ => by kernel_rfl
  go_enter Tryz.func62, Tryz.ntmps62
  go_wp2
  refine wp_loop_rounds 1 ?_
  rw [rounds_succ]
  go_wp2
  refine wp_loop_rounds 1 ?_
  rw [rounds_succ]
  go_wp2
  refine wp_loop_rounds 1 ?_
  rw [rounds_succ]
  go_wp2
  refine wp_loop_rounds 1 ?_
  rw [rounds_succ]
  go_wp2
  refine wp_loop_rounds 1 ?_
  rw [rounds_succ]
  go_wp2
  go_ret
  exact ⟨rfl, (Fr.refl _ _).alloc _⟩
set_option maxHeartbeats 1000000 in
set_option maxRecDepth 100000 in
theorem flatMades_nil (w : World) :
    Calls Tryz.prog 63 #[.slice none 0 0] w fun e w' => e = .returned (.bool true) ∧ Fr (fun _ => False) w w' := by
  have hmk : ∀ w : World, (Instr.makeSlice 80 (.int .i64 0) (.int .i64 0)).run Tryz.prog w = .ok (.slice (some ⟨w.heap.size, 0, none⟩) 0 0) (w.alloc (.cells #[] 178)) := fun _ => by kernel_rfl
  go_enter Tryz.func63, Tryz.ntmps63
  go_wp2
  refine wp_loop_rounds 1 ?_
  rw [rounds_succ]
  go_wp2
  refine wp_loop_rounds 1 ?_
  rw [rounds_succ]
  go_wp2
  refine wp_loop_rounds 1 ?_
  rw [rounds_succ]
  go_wp2
  refine wp_loop_rounds 1 ?_
  rw [rounds_succ]
  go_wp2
  refine wp_loop_rounds 1 ?_
  rw [rounds_succ]
  go_wp2
  go_ret
  exact ⟨rfl, (Fr.refl _ _).alloc _⟩
set_option maxHeartbeats 1000000 in
set_option maxRecDepth 100000 in
theorem flatBuilts_nil (w : World) :
    Calls Tryz.prog 64 #[.slice none 0 0] w fun e w' => e = .returned (.bool true) ∧ Fr (fun _ => False) w w' := by
  have hmk : ∀ w : World, (Instr.makeSlice 81 (.int .i64 0) (.int .i64 0)).run Tryz.prog w = .ok (.slice (some ⟨w.heap.size, 0, none⟩) 0 0) (w.alloc (.cells #[] 182)) := fun _ => by kernel_rfl
  go_enter Tryz.func64, Tryz.ntmps64
  go_wp2
  refine wp_loop_rounds 1 ?_
  rw [rounds_succ]
  go_wp2
  refine wp_loop_rounds 1 ?_
  rw [rounds_succ]
  go_wp2
  refine wp_loop_rounds 1 ?_
  rw [rounds_succ]
  go_wp2
  refine wp_loop_rounds 1 ?_
  rw [rounds_succ]
  go_wp2
  refine wp_loop_rounds 1 ?_
  rw [rounds_succ]
  go_wp2
  go_ret
  exact ⟨rfl, (Fr.refl _ _).alloc _⟩
set_option maxHeartbeats 1000000 in
set_option maxRecDepth 100000 in
theorem flatRequests_nil (w : World) :
    Calls Tryz.prog 65 #[.slice none 0 0] w fun e w' => e = .returned (.bool true) ∧ Fr (fun _ => False) w w' := by
  have hmk : ∀ w : World, (Instr.makeSlice 82 (.int .i64 0) (.int .i64 0)).run Tryz.prog w = .ok (.slice (some ⟨w.heap.size, 0, none⟩) 0 0) (w.alloc (.cells #[] 187)) := fun _ => by kernel_rfl
  go_enter Tryz.func65, Tryz.ntmps65
  go_wp2
  refine wp_loop_rounds 1 ?_
  rw [rounds_succ]
  go_wp2
  refine wp_loop_rounds 1 ?_
  rw [rounds_succ]
  go_wp2
  refine wp_loop_rounds 1 ?_
  rw [rounds_succ]
  go_wp2
  refine wp_loop_rounds 1 ?_
  rw [rounds_succ]
  go_wp2
  refine wp_loop_rounds 1 ?_
  rw [rounds_succ]
  go_wp2
  go_ret
  exact ⟨rfl, (Fr.refl _ _).alloc _⟩
set_option maxHeartbeats 1000000 in
set_option maxRecDepth 100000 in
theorem flatReplies_nil (w : World) :
    Calls Tryz.prog 66 #[.slice none 0 0] w fun e w' => e = .returned (.bool true) ∧ Fr (fun _ => False) w w' := by
  have hmk : ∀ w : World, (Instr.makeSlice 83 (.int .i64 0) (.int .i64 0)).run Tryz.prog w = .ok (.slice (some ⟨w.heap.size, 0, none⟩) 0 0) (w.alloc (.cells #[] 193)) := fun _ => by kernel_rfl
  go_enter Tryz.func66, Tryz.ntmps66
  go_wp2
  refine wp_loop_rounds 1 ?_
  rw [rounds_succ]
  go_wp2
  refine wp_loop_rounds 1 ?_
  rw [rounds_succ]
  go_wp2
  refine wp_loop_rounds 1 ?_
  rw [rounds_succ]
  go_wp2
  refine wp_loop_rounds 1 ?_
  rw [rounds_succ]
  go_wp2
  refine wp_loop_rounds 1 ?_
  rw [rounds_succ]
  go_wp2
  go_ret
  exact ⟨rfl, (Fr.refl _ _).alloc _⟩
end Go.Proofs.YtfkgdjoaoidkeaaGreat
namespace Go.Proofs.YtfkgdjoaoidkeaaGreat
open Go.RowKit Go.ChangeShapes
set_option linter.unusedVariables false
def bagC (v : Value) : Array Value := #[.slice none 0 0, .slice none 0 0, .slice none 0 0, .slice none 0 0, .slice none 0 0, v, .slice none 0 0, .slice none 0 0, .slice none 0 0, .slice none 0 0, .slice none 0 0, .slice none 0 0, .slice none 0 0, .slice none 0 0, .slice none 0 0, .slice none 0 0, .slice none 0 0, .slice none 0 0, .slice none 0 0, .slice none 0 0, .slice none 0 0]
theorem bag_set (v v' : Value) : (bagC v).setIfInBounds 5 v' = bagC v' := rfl
theorem bag_cell0 {w : World} {b : Nat} {v : Value} {T : TypeId} (h : w.heap[b]? = some (.cells (bagC v) T (0, 0))) : w.cell? ⟨b, 0, none⟩ = some (.slice none 0 0) := by simp [World.cell?, h, bagC]
theorem bag_cell1 {w : World} {b : Nat} {v : Value} {T : TypeId} (h : w.heap[b]? = some (.cells (bagC v) T (0, 0))) : w.cell? ⟨b, 1, none⟩ = some (.slice none 0 0) := by simp [World.cell?, h, bagC]
theorem bag_cell2 {w : World} {b : Nat} {v : Value} {T : TypeId} (h : w.heap[b]? = some (.cells (bagC v) T (0, 0))) : w.cell? ⟨b, 2, none⟩ = some (.slice none 0 0) := by simp [World.cell?, h, bagC]
theorem bag_cell3 {w : World} {b : Nat} {v : Value} {T : TypeId} (h : w.heap[b]? = some (.cells (bagC v) T (0, 0))) : w.cell? ⟨b, 3, none⟩ = some (.slice none 0 0) := by simp [World.cell?, h, bagC]
theorem bag_cell4 {w : World} {b : Nat} {v : Value} {T : TypeId} (h : w.heap[b]? = some (.cells (bagC v) T (0, 0))) : w.cell? ⟨b, 4, none⟩ = some (.slice none 0 0) := by simp [World.cell?, h, bagC]
theorem bag_cell5 {w : World} {b : Nat} {v : Value} {T : TypeId} (h : w.heap[b]? = some (.cells (bagC v) T (0, 0))) : w.cell? ⟨b, 5, none⟩ = some (v) := by simp [World.cell?, h, bagC]
theorem bag_cell6 {w : World} {b : Nat} {v : Value} {T : TypeId} (h : w.heap[b]? = some (.cells (bagC v) T (0, 0))) : w.cell? ⟨b, 6, none⟩ = some (.slice none 0 0) := by simp [World.cell?, h, bagC]
theorem bag_cell7 {w : World} {b : Nat} {v : Value} {T : TypeId} (h : w.heap[b]? = some (.cells (bagC v) T (0, 0))) : w.cell? ⟨b, 7, none⟩ = some (.slice none 0 0) := by simp [World.cell?, h, bagC]
theorem bag_cell8 {w : World} {b : Nat} {v : Value} {T : TypeId} (h : w.heap[b]? = some (.cells (bagC v) T (0, 0))) : w.cell? ⟨b, 8, none⟩ = some (.slice none 0 0) := by simp [World.cell?, h, bagC]
theorem bag_cell9 {w : World} {b : Nat} {v : Value} {T : TypeId} (h : w.heap[b]? = some (.cells (bagC v) T (0, 0))) : w.cell? ⟨b, 9, none⟩ = some (.slice none 0 0) := by simp [World.cell?, h, bagC]
theorem bag_cell10 {w : World} {b : Nat} {v : Value} {T : TypeId} (h : w.heap[b]? = some (.cells (bagC v) T (0, 0))) : w.cell? ⟨b, 10, none⟩ = some (.slice none 0 0) := by simp [World.cell?, h, bagC]
theorem bag_cell11 {w : World} {b : Nat} {v : Value} {T : TypeId} (h : w.heap[b]? = some (.cells (bagC v) T (0, 0))) : w.cell? ⟨b, 11, none⟩ = some (.slice none 0 0) := by simp [World.cell?, h, bagC]
theorem bag_cell12 {w : World} {b : Nat} {v : Value} {T : TypeId} (h : w.heap[b]? = some (.cells (bagC v) T (0, 0))) : w.cell? ⟨b, 12, none⟩ = some (.slice none 0 0) := by simp [World.cell?, h, bagC]
theorem bag_cell13 {w : World} {b : Nat} {v : Value} {T : TypeId} (h : w.heap[b]? = some (.cells (bagC v) T (0, 0))) : w.cell? ⟨b, 13, none⟩ = some (.slice none 0 0) := by simp [World.cell?, h, bagC]
theorem bag_cell14 {w : World} {b : Nat} {v : Value} {T : TypeId} (h : w.heap[b]? = some (.cells (bagC v) T (0, 0))) : w.cell? ⟨b, 14, none⟩ = some (.slice none 0 0) := by simp [World.cell?, h, bagC]
theorem bag_cell15 {w : World} {b : Nat} {v : Value} {T : TypeId} (h : w.heap[b]? = some (.cells (bagC v) T (0, 0))) : w.cell? ⟨b, 15, none⟩ = some (.slice none 0 0) := by simp [World.cell?, h, bagC]
theorem bag_cell16 {w : World} {b : Nat} {v : Value} {T : TypeId} (h : w.heap[b]? = some (.cells (bagC v) T (0, 0))) : w.cell? ⟨b, 16, none⟩ = some (.slice none 0 0) := by simp [World.cell?, h, bagC]
theorem bag_cell17 {w : World} {b : Nat} {v : Value} {T : TypeId} (h : w.heap[b]? = some (.cells (bagC v) T (0, 0))) : w.cell? ⟨b, 17, none⟩ = some (.slice none 0 0) := by simp [World.cell?, h, bagC]
theorem bag_cell18 {w : World} {b : Nat} {v : Value} {T : TypeId} (h : w.heap[b]? = some (.cells (bagC v) T (0, 0))) : w.cell? ⟨b, 18, none⟩ = some (.slice none 0 0) := by simp [World.cell?, h, bagC]
theorem bag_cell19 {w : World} {b : Nat} {v : Value} {T : TypeId} (h : w.heap[b]? = some (.cells (bagC v) T (0, 0))) : w.cell? ⟨b, 19, none⟩ = some (.slice none 0 0) := by simp [World.cell?, h, bagC]
theorem bag_cell20 {w : World} {b : Nat} {v : Value} {T : TypeId} (h : w.heap[b]? = some (.cells (bagC v) T (0, 0))) : w.cell? ⟨b, 20, none⟩ = some (.slice none 0 0) := by simp [World.cell?, h, bagC]
theorem bag_frozen {w : World} {b : Nat} {v : Value} {T : TypeId} (h : w.heap[b]? = some (.cells (bagC v) T (0, 0))) (i : Nat) : w.frozen? ⟨b, i, none⟩ = false := by simp [World.frozen?, h]
def RowV (w : World) (v : Value) (n : Nat) (X : Nat → Value) : Prop := w.ownsRow 0 22 1 v n ((List.range n).map X)
theorem RowV.form {w : World} {v : Value} {n : Nat} {X : Nat → Value} (h : RowV w v n X) : ∃ ao c, v = .slice ao n c := by
  rcases h.2 with ⟨rfl, h0⟩ | ⟨g, cap, cur, hv, _⟩
  · exact ⟨none, 0, by rw [h0]⟩
  · exact ⟨_, _, hv⟩
theorem RowV.full {w : World} {v : Value} {n : Nat} {X : Nat → Value} (h : RowV w v n X) (hn : 0 < n) : ∃ g c, v = .slice (some ⟨g, 0, none⟩) n c ∧ n ≤ c ∧ c ≤ maxLen ∧ ∀ j, j < n → w.cell? ⟨g, j, none⟩ = some (X j) := by
  rcases h.2 with ⟨rfl, h0⟩ | ⟨g, cap, cur, hv, hb, hg, hnc, hcm, hcs, ht⟩
  · omega
  · refine ⟨g, cap, hv, hnc, hcm, fun j hj => ?_⟩
    subst hv
    have h' : w.ownsRow 0 22 1 (.slice (some ⟨g, 0, none⟩) n cap) n ((List.range n).map X) := h
    rw [World.ownsRow.cellAt h' j (by omega)]
    simp [hj]
theorem RowV.keep {S : Nat → Prop} {w w' : World} {v : Value} {n : Nat} {X : Nat → Value} (h : RowV w v n X) (hf : Fr S w w') (hd : ∀ g, v.ownBlock = some g → ¬ S g) : RowV w' v n X := by
  refine ⟨h.1, ?_⟩
  rcases h.2 with h1 | ⟨g, cap, cur, hv, hb, hg, r⟩
  · exact .inl h1
  · exact .inr ⟨g, cap, cur, hv, hb, hf.heap hg (hd g (by rw [hv]; rfl)), r⟩
theorem run_append_row (w : World) (ty : TypeId) (v y : Value) (k h : Nat) (X : Nat → Value) (hown : RowV w v k X) (hcell : w.cell? ⟨h, 0, none⟩ = some y) (hy : y.oneCell' = true) (hk : k ≤ 100000) (e : X k = y) :
    ∃ v' w', (Builtin.append_ #[42, 42] ty #[v, .slice (some ⟨h, 0, none⟩) 1 1]).run Tryz.prog w = .ok v' w' ∧ RowV w' v' (k + 1) X ∧ w.grownBy w' v.ownBlock ∧ (v'.ownBlock = v.ownBlock ∨ v'.ownBlock = some w.heap.size) := by
  obtain ⟨i0, hi, hz0, hz1, hz2⟩ := info_parts Tryz.infoS
  obtain ⟨v', w', hr, h2, h3, h4, h5⟩ := run_append_own_at (P := Tryz.prog) w 0 42 ty 22 i0 (.slice none 0 0) 1 24 Tryz.underlying42 hi hz0 hz1 hz2 rfl (by decide) v k _ hown ⟨h, 0, none⟩ 1 1 [y]
    rfl (by
      intro j u hu
      match j, hu with
      | 0, hu =>
        simp at hu
        subst hu
        simpa [Addr.add] using hcell) (by simpa using hy) (by unfold maxLen; omega) (by omega) (Nat.zero_le _)
  refine ⟨v', w', hr, ?_, h3, h5⟩
  unfold RowV
  rw [List.range_succ, List.map_append, List.map_singleton, e]
  exact h2
theorem wpList_append_row (w : World) {ops : Array Oper} {rest : List Oper} {o : Oper} {a : Act} {Q : Exit → Act → World → Prop} (hgd : o.guard = none) (s x : Operand)
    (hop : o.op = Op.call { callee := Callee.builtin Builtin.append, args := #[s, x], argTypes := #[42, 42] })
    (v y : Value) (k h : Nat) (X : Nat → Value) (hs : a.eval s = v) (hx : a.eval x = .slice (some ⟨h, 0, none⟩) 1 1) (hown : RowV w v k X) (hcell : w.cell? ⟨h, 0, none⟩ = some y) (hy : y.oneCell' = true) (hk : k ≤ 100000) (e : X k = y)
    (hK : ∀ v' w', RowV w' v' (k + 1) X → w.grownBy w' v.ownBlock → (v'.ownBlock = v.ownBlock ∨ v'.ownBlock = some w.heap.size) → wpList Tryz.prog ops Q rest (a.put o.dst v') w') : wpList Tryz.prog ops Q (o :: rest) a w := by
  refine wpList_plain hgd fun K hK' => ?_
  subst hs
  obtain ⟨v', w', hr, h1, h2, h3⟩ := run_append_row w o.type _ _ k h X hown hcell hy hk e
  unfold Oper.wp
  simp [execOp, hop, resolve, invoke, builtin, hx, hr, Result.andThen]
  exact hK' _ _ (hK v' w' h1 h2 h3)
theorem putBytes_any (b k m : Nat) (ao ax : Option Addr) (co cx : Nat) (T : TypeId) (X : Nat → Value) (w : World) (hk : k ≤ 1000) (hb : w.heap[b]? = some (.cells (bagC (.slice ao k co)) T (0, 0))) (hr : RowV w (.slice ao k co) k X)
    (hne : (Value.slice ao k co).ownBlock ≠ some b) (e : X k = .slice ax m cx) :
    Calls Tryz.prog 34 #[.pointer (some ⟨b, 0, none⟩), .slice ax m cx] w fun e w' => e = .returned (.tuple #[]) ∧
      ∃ v', w'.heap[b]? = some (.cells (bagC v') T (0, 0)) ∧ RowV w' v' (k + 1) X ∧ v'.ownBlock ≠ some b ∧ (∀ g, v'.ownBlock = some g → (Value.slice ao k co).ownBlock = some g ∨ w.heap.size ≤ g) ∧ Fr (fun i => i = b ∨ (Value.slice ao k co).ownBlock = some i) w w' := by
  have hlt := lt_of_block hb
  have hc5 := bag_cell5 hb
  have hcn := cell_of_one (heap_alloc_new w (.cells #[.slice ax m cx] 22))
  have HB := Lib.hid hb
  have HCN := Lib.hid hcn
  have HR := Lib.hid (hr.keep (S := fun _ => False) ((Fr.refl _ w).alloc (.cells #[.slice ax m cx] 22)) (fun _ _ h => h))
  have HNE := Lib.hid hne
  have HE := Lib.hid e
  clear hb hr hne e hcn
  go_enter Tryz.func34, Tryz.ntmps34
  go_wp2_with (first
    | (at_builtin; refine wpList_append_row _ rfl (.tmp 8) (.tmp 10) rfl (.slice ao k co) (.slice ax m cx) k w.heap.size X rfl rfl HR.out HCN.out rfl (by omega) HE.out ?_; intro v5 w5 ho5 hg5 hb5; have hbb := ((((Fr.refl (fun i => (Value.slice ao k co).ownBlock = some i) w).alloc (.cells #[.slice ax m cx] 22)).grown hg5 (fun i hi => .inl hi)).heap HB.out HNE.out); have HBB := Lib.hid hbb; have hf5 := bag_frozen hbb 5; have hc6 := bag_cell5 hbb; have HO5 := Lib.hid ho5; have HG5 := Lib.hid hg5; have HB5 := Lib.hid hb5; obtain ⟨a6, c6, hv6⟩ := ho5.form; subst hv6; clear hbb ho5 hg5 hb5)
    | fail)
  have hsz : (w.alloc (.cells #[.slice ax m cx] 22)).heap.size = w.heap.size + 1 := by simp
  have hnb : (Value.slice a6 (k + 1) c6).ownBlock ≠ some b := by
    rcases HB5.out with h | h
    · rw [h]; exact HNE.out
    · rw [h, hsz]
      intro h2
      have := Option.some.inj h2
      omega
  refine bodyPost_end (results_none rfl _ _ _) rfl ?_
  refine ⟨rfl, _, ?_, ?_, hnb, ?_, ?_⟩
  · have := heap_setCell_at (i := 5) (.slice a6 (k + 1) c6) HBB.out
    rw [bag_set] at this
    exact this
  · exact HO5.out.keep (Fr.one w5 b 5 _) (fun g hg e => hnb (by rw [hg, e]))
  · intro g hg
    rcases HB5.out with h | h
    · exact .inl (by rw [← h, hg])
    · rw [hg, hsz] at h
      exact .inr (by have := Option.some.inj h; omega)
  · exact ((((Fr.refl (fun i => i = b ∨ (Value.slice ao k co).ownBlock = some i) w).alloc _).grown HG5.out (fun i hi => .inl (.inr hi))).setCell (p := ⟨b, 5, none⟩) (.inl (.inl rfl)) _)
end Go.Proofs.YtfkgdjoaoidkeaaGreat
namespace Go.Proofs.YtfkgdjoaoidkeaaGreat
open Go.RowKit Go.ChangeShapes
set_option linter.unusedVariables false
def BagSt (w0 w : World) (b n : Nat) (T : TypeId) (v : Value) (X : Nat → Value) : Prop := w.heap[b]? = some (.cells (bagC v) T (0, 0)) ∧ Fr (BlksB n X) w0 w
theorem BagSt.next {w0 w w' : World} {b n : Nat} {T : TypeId} {v : Value} {X : Nat → Value} (h : BagSt w0 w b n T v X) (hf : Fr (fun _ => False) w w') : BagSt w0 w' b n T v X :=
  ⟨hf.heap h.1 (fun h => h), h.2.trans hf (fun _ h => h.elim)⟩
theorem BagSt.marked {w0 w w' : World} {b n : Nat} {T : TypeId} {v : Value} {X : Nat → Value} (h : BagSt w0 w b n T v X) (hb : ¬ BlksB n X b) (hf : Fr (BlksB n X) w w') : BagSt w0 w' b n T v X :=
  ⟨hf.heap h.1 hb, h.2.trans hf (fun _ h => .inl h)⟩
set_option maxHeartbeats 8000000 in
set_option maxRecDepth 100000 in
theorem apart_bytes (b n lb cl : Nat) (T : TypeId) (X : Nat → Value) (L : Nat → List UInt8) (w : World) (hn : n ≤ 1000) (hcl : n ≤ cl) (hcm : cl ≤ maxLen) (hb : w.heap[b]? = some (.cells (bagC (.slice (some ⟨lb, 0, none⟩) n cl)) T (0, 0)))
    (hls : ∀ j, j < n → w.cell? ⟨lb, j, none⟩ = some (X j)) (hr : RowsB w n X L) (hD : DistB n X) (hlb : ¬ BlksB n X lb) (hbb : ¬ BlksB n X b) (hL : ∀ j, j < n → (L j).length ≤ 140737488350000) :
    Calls Tryz.prog 35 #[.pointer (some ⟨b, 0, none⟩)] w fun e w' => e = .returned (.bool true) ∧ Fr (BlksB n X) w w' := by
  have H0 := Lib.hid (show BagSt w w b n T (.slice (some ⟨lb, 0, none⟩) n cl) X from ⟨hb, Fr.refl _ _⟩)
  have c0 := bag_cell0 hb
  have HFB := Lib.hid (fun (w5 : World) (hf : Fr (fun _ => False) w w5) => flatBytes_any n lb cl X L w5 hn hcl hcm (fun j hj => hf.cell (hls j hj) (fun h => h)) (hr.keep hf (fun _ _ h => h)) hD hlb hL)
  have HG0 := Lib.hid (Fr.refl (fun _ => False) w)
  have HBB := Lib.hid hbb
  clear hb hls hr hD hlb hL hbb hcm hcl
  go_enter Tryz.func35, Tryz.ntmps35
  go_wp2_with (first
    | (go_at_call 46; refine (flatLimbs_nil _).mono ?_; rintro e w1 ⟨rfl, hf⟩; have H1 := Lib.hid (H0.out.next hf); have HG1 := Lib.hid (HG0.out.trans hf (fun _ h => h.elim)); have c1 := bag_cell1 H1.out.1; clear c0 hf H0 HG0)
    | (go_at_call 47; refine (flatWords_nil _).mono ?_; rintro e w2 ⟨rfl, hf⟩; have H2 := Lib.hid (H1.out.next hf); have HG2 := Lib.hid (HG1.out.trans hf (fun _ h => h.elim)); have c2 := bag_cell2 H2.out.1; clear c1 hf H1 HG1)
    | (go_at_call 48; refine (flatInts_nil _).mono ?_; rintro e w3 ⟨rfl, hf⟩; have H3 := Lib.hid (H2.out.next hf); have HG3 := Lib.hid (HG2.out.trans hf (fun _ h => h.elim)); have c3 := bag_cell3 H3.out.1; clear c2 hf H2 HG2)
    | (go_at_call 49; refine (flatLongs_nil _).mono ?_; rintro e w4 ⟨rfl, hf⟩; have H4 := Lib.hid (H3.out.next hf); have HG4 := Lib.hid (HG3.out.trans hf (fun _ h => h.elim)); have c4 := bag_cell4 H4.out.1; clear c3 hf H3 HG3)
    | (go_at_call 50; refine (flatTexts_nil _).mono ?_; rintro e w5 ⟨rfl, hf⟩; have H5 := Lib.hid (H4.out.next hf); have HG5 := Lib.hid (HG4.out.trans hf (fun _ h => h.elim)); have c5 := bag_cell5 H5.out.1; clear c4 hf H4 HG4)
    | (go_at_call 51; refine (HFB.out _ HG5.out).mono ?_; rintro e w6 ⟨rfl, hf⟩; have H6 := Lib.hid (H5.out.marked HBB.out hf); have c6 := bag_cell6 H6.out.1; clear c5 hf H5 HG5 HFB)
    | (go_at_call 52; refine (flatTruths_nil _).mono ?_; rintro e w7 ⟨rfl, hf⟩; have H7 := Lib.hid (H6.out.next hf); have c7 := bag_cell7 H7.out.1; clear c6 hf H6)
    | (go_at_call 53; refine (flatPaths_nil _).mono ?_; rintro e w8 ⟨rfl, hf⟩; have H8 := Lib.hid (H7.out.next hf); have c8 := bag_cell8 H8.out.1; clear c7 hf H7)
    | (go_at_call 54; refine (flatKids_nil _).mono ?_; rintro e w9 ⟨rfl, hf⟩; have H9 := Lib.hid (H8.out.next hf); have c9 := bag_cell9 H9.out.1; clear c8 hf H8)
    | (go_at_call 55; refine (flatNodes_nil _).mono ?_; rintro e w10 ⟨rfl, hf⟩; have H10 := Lib.hid (H9.out.next hf); have c10 := bag_cell10 H10.out.1; clear c9 hf H9)
    | (go_at_call 56; refine (flatLines_nil _).mono ?_; rintro e w11 ⟨rfl, hf⟩; have H11 := Lib.hid (H10.out.next hf); have c11 := bag_cell11 H11.out.1; clear c10 hf H10)
    | (go_at_call 57; refine (flatChanges_nil _).mono ?_; rintro e w12 ⟨rfl, hf⟩; have H12 := Lib.hid (H11.out.next hf); have c12 := bag_cell12 H12.out.1; clear c11 hf H11)
    | (go_at_call 58; refine (flatRuns_nil _).mono ?_; rintro e w13 ⟨rfl, hf⟩; have H13 := Lib.hid (H12.out.next hf); have c13 := bag_cell13 H13.out.1; clear c12 hf H12)
    | (go_at_call 59; refine (flatObjects_nil _).mono ?_; rintro e w14 ⟨rfl, hf⟩; have H14 := Lib.hid (H13.out.next hf); have c14 := bag_cell14 H14.out.1; clear c13 hf H13)
    | (go_at_call 60; refine (flatQuotas_nil _).mono ?_; rintro e w15 ⟨rfl, hf⟩; have H15 := Lib.hid (H14.out.next hf); have c15 := bag_cell15 H15.out.1; clear c14 hf H14)
    | (go_at_call 61; refine (flatNameds_nil _).mono ?_; rintro e w16 ⟨rfl, hf⟩; have H16 := Lib.hid (H15.out.next hf); have c16 := bag_cell16 H16.out.1; clear c15 hf H15)
    | (go_at_call 62; refine (flatDrvs_nil _).mono ?_; rintro e w17 ⟨rfl, hf⟩; have H17 := Lib.hid (H16.out.next hf); have c17 := bag_cell17 H17.out.1; clear c16 hf H16)
    | (go_at_call 63; refine (flatMades_nil _).mono ?_; rintro e w18 ⟨rfl, hf⟩; have H18 := Lib.hid (H17.out.next hf); have c18 := bag_cell18 H18.out.1; clear c17 hf H17)
    | (go_at_call 64; refine (flatBuilts_nil _).mono ?_; rintro e w19 ⟨rfl, hf⟩; have H19 := Lib.hid (H18.out.next hf); have c19 := bag_cell19 H19.out.1; clear c18 hf H18)
    | (go_at_call 65; refine (flatRequests_nil _).mono ?_; rintro e w20 ⟨rfl, hf⟩; have H20 := Lib.hid (H19.out.next hf); have c20 := bag_cell20 H20.out.1; clear c19 hf H19)
    | (go_at_call 66; refine (flatReplies_nil _).mono ?_; rintro e w21 ⟨rfl, hf⟩; have H21 := Lib.hid (H20.out.next hf); clear c20 hf H20)
    | fail)
  go_ret
  exact ⟨rfl, H21.out.2⟩
end Go.Proofs.YtfkgdjoaoidkeaaGreat
namespace Go.Proofs.YtfkgdjoaoidkeaaGreat
open Go.RowKit Go.ChangeShapes
set_option linter.unusedVariables false
set_option maxHeartbeats 1000000 in
theorem ApartBytes_any (n lb cl : Nat) (X : Nat → Value) (L : Nat → List UInt8) (w : World) (h0 : 0 < n) (hn : n ≤ 1000) (hcl : n ≤ cl)
    (hls : ∀ j, j < n → w.cell? ⟨lb, j, none⟩ = some (X j)) (hr : RowsB w n X L) (hD : DistB n X) (hL : ∀ j, j < n → (L j).length ≤ 140737488350000) :
    Calls Tryz.prog 20 #[.slice (some ⟨lb, 0, none⟩) n cl] w fun e w' => e = .returned (.bool true) ∧ Fr (BlksB n X) w w' := by
  have hB0 := heap_alloc_new w (.cells (bagC (.slice none 0 0)) 85)
  have hF0 : Fr (fun _ => False) w (w.alloc (.cells (bagC (.slice none 0 0)) 85)) := (Fr.refl _ _).alloc _
  have hx : ∀ j, j < n → ∃ ax m cx, X j = .slice ax m cx := fun j hj => by
    obtain ⟨ax, cx, h⟩ := (hr j hj).len
    exact ⟨ax, _, cx, h⟩
  have hblk : ∀ g, BlksB n X g → g < w.heap.size := fun g ⟨j, hj, hg⟩ => ((hr j hj).1.lt g hg).2
  have HX := Lib.hid hx
  have HLS := Lib.hid hls
  have HR := Lib.hid hr
  have HD := Lib.hid hD
  have HL := Lib.hid hL
  have HBL := Lib.hid hblk
  have HS : Hid ((w.alloc (.cells (bagC (.slice none 0 0)) 85)).heap[w.heap.size]? = some (.cells (bagC (.slice none 0 0)) 85 (0, 0)) ∧ RowV (w.alloc (.cells (bagC (.slice none 0 0)) 85)) (.slice none 0 0) 0 X ∧ (∀ g, (Value.slice none 0 0).ownBlock = some g → w.heap.size < g) ∧ Fr (fun _ => False) w (w.alloc (.cells (bagC (.slice none 0 0)) 85))) :=
    Lib.hid ⟨hB0, World.ownsRow_nil _ _ _ _, (fun g hg => by cases hg), hF0⟩
  clear hls hr hD hL hx hblk hB0 hF0
  go_enter Tryz.func20, Tryz.ntmps20
  go_wp2
  go_loopw [4] (fun kv wr => ∃ (k : Nat) (v : Value), k ≤ n ∧ kv = .int .i64 k ∧ Hid (wr.heap[w.heap.size]? = some (.cells (bagC v) 85 (0, 0)) ∧ RowV wr v k X ∧ (∀ g, v.ownBlock = some g → w.heap.size < g) ∧ Fr (fun _ => False) w wr)) (fun kv _ => n - (intOf kv).toNat)
  case atStart => exact ⟨0, .slice none 0 0, by omega, rfl, HS⟩
  case round =>
    obtain ⟨k, v, hk, rfl, hst⟩ := hrel
    clear HS
    by_cases hlt : k < n
    · obtain ⟨ao, co, hv⟩ := hst.out.2.1.form
      subst hv
      obtain ⟨ax, m, cx, hX⟩ := HX.out k hlt
      have hc := hst.out.2.2.2.cell (HLS.out k hlt) (fun h => h)
      rw [hX] at hc
      have HXk := Lib.hid hX
      have HP := Lib.hid (putBytes_any w.heap.size k m ao ax co cx 85 X wr (by omega) hst.out.1 hst.out.2.1 (fun e => Nat.lt_irrefl _ (hst.out.2.2.1 _ e)) hX)
      clear hX
      go_wp2_with (go_at_call 34; refine HP.out.mono ?_; rintro e w' ⟨rfl, v', h1, h2, h3, h4, h5⟩; have HN := Lib.hid (And.intro h1 (And.intro h2 (And.intro h4 h5))); clear h1 h2 h3 h4 h5)
      go_roundw
      case rel =>
        refine ⟨k + 1, v', by omega, by go_num, Lib.hid ⟨HN.out.1, HN.out.2.1, fun g hg => ?_, hst.out.2.2.2.trans HN.out.2.2.2 (fun i hi => .inr ?_)⟩⟩
        · rcases HN.out.2.2.1 g hg with h | h
          · exact hst.out.2.2.1 g h
          · exact Nat.lt_of_lt_of_le (lt_of_block hst.out.1) h
        · rcases hi with rfl | h
          · exact Nat.le_refl _
          · exact Nat.le_of_lt (hst.out.2.2.1 i h)
      case measure => simp [intOf]; omega
    · rw [show k = n by omega] at hst
      obtain ⟨g, c, hv, hnc, hcm, hcells⟩ := hst.out.2.1.full h0
      subst hv
      have HP := Lib.hid (apart_bytes w.heap.size n g c 85 X L wr hn hnc hcm hst.out.1 hcells (HR.out.keep hst.out.2.2.2 (fun _ _ h => h)) HD.out
        (fun h => by have h1 := HBL.out g h; have h2 := hst.out.2.2.1 g rfl; omega) (fun h => Nat.lt_irrefl _ (HBL.out _ h)) HL.out)
      have HF := Lib.hid hst.out.2.2.2
      clear hst hcells
      go_wp2_with (go_at_call 35; refine HP.out.mono ?_; rintro e w' ⟨rfl, h1⟩; have HN := Lib.hid h1; clear h1)
      go_ret
      exact ⟨rfl, HF.out.mono (fun _ _ h => h.elim) |>.trans HN.out (fun _ h => .inl h)⟩
end Go.Proofs.YtfkgdjoaoidkeaaGreat
