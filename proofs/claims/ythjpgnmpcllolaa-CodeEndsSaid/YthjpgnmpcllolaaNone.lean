/- none: no maker, no cursor. -/
import Derived.Test.YthjpgnmpcllolaaMaker3
import Derived.Test.YthjpgnmpcllolaaCurText
namespace Go.Proofs.Ythjpgnmpcllolaa
open Go.RowKit Go.ChangeShapes
set_option linter.unusedVariables false

theorem nilNum_any (w : World) (s : Nat) (n : Int) (hc : w.cell? ⟨s, 0, none⟩ = some (.int .i64 n)) :
    Calls Try.prog 11 #[.pointer none, .slice (some ⟨s, 0, none⟩) 1 1] w fun r w' => r = .returned (.pointer none) ∧ w' = w := by
  go_enter Try.func11, Try.ntmps11
  go_wp2
  go_ret
  exact ⟨rfl, rfl⟩
theorem nilRaw_any (w : World) (ax : Option Addr) (m c : Nat) :
    Calls Try.prog 13 #[.pointer none, .slice ax m c] w fun r w' => r = .returned (.pointer none) ∧ w' = w := by
  go_enter Try.func13, Try.ntmps13
  go_wp2
  go_ret
  exact ⟨rfl, rfl⟩
theorem nilDone_any (w : World) :
    Calls Try.prog 17 #[.pointer none] w fun r w' => r = .returned (.tuple #[.slice none 0 0, .int .i64 1]) ∧ w' = w := by
  go_enter Try.func17, Try.ntmps17
  go_wp2
  go_ret2
  exact ⟨rfl, rfl⟩
theorem nilText_any (w : World) (s : Nat) (ax : Option Addr) (m c : Nat) (hc : w.cell? ⟨s, 0, none⟩ = some (.slice ax m c)) :
    Calls Try.prog 15 #[.pointer none, .slice (some ⟨s, 0, none⟩) 1 1] w fun r w' => r = .returned (.pointer none) ∧ w' = w := by
  go_enter Try.func15, Try.ntmps15
  go_wp2
  go_ret
  exact ⟨rfl, rfl⟩
theorem nilCNum_any (w : World) (n : Int) :
    Calls Try.prog 30 #[.pointer none, .int .i64 n] w fun r w' => r = .returned (.int .i64 0) ∧ w' = w := by
  go_enter Try.func30, Try.ntmps30
  go_wp2
  go_ret
  exact ⟨rfl, rfl⟩
theorem nilCRaw_any (w : World) (n : Int) :
    Calls Try.prog 31 #[.pointer none, .int .i64 n] w fun r w' => r = .returned (.slice none 0 0) ∧ w' = w := by
  go_enter Try.func31, Try.ntmps31
  go_wp2
  go_ret
  exact ⟨rfl, rfl⟩
theorem nilCText_any (w : World) (n : Int) :
    Calls Try.prog 32 #[.pointer none, .int .i64 n] w fun r w' => r = .returned (.slice none 0 0) ∧ w' = w := by
  go_enter Try.func32, Try.ntmps32
  go_wp2
  go_ret
  exact ⟨rfl, rfl⟩
theorem nilCLeft_any (w : World) :
    Calls Try.prog 28 #[.pointer none] w fun r w' => r = .returned (.int .i64 0) ∧ w' = w := by
  go_enter Try.func28, Try.ntmps28
  go_wp2
  go_ret
  exact ⟨rfl, rfl⟩
theorem nilCEnd_any (w : World) :
    Calls Try.prog 29 #[.pointer none] w fun r w' => r = .returned (.int .i64 1) ∧ w' = w := by
  go_enter Try.func29, Try.ntmps29
  go_wp2
  go_ret
  exact ⟨rfl, rfl⟩
end Go.Proofs.Ythjpgnmpcllolaa
