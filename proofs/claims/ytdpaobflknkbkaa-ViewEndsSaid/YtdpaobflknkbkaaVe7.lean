/- Laid together: VJs VJe -/
import Derived.Test.YtdpaobflknkbkaaVe3
import Derived.Deep.RegionHeld3

namespace Go.Proofs.Ytdpaobflknkbkaa
open Go.RowKit Go.ChangeShapes
set_option linter.unusedVariables false
def manyS (n : Int) : Bool := decide (1 ≤ n ∧ n ≤ 8192)
theorem lMany_any (w : World) (n : Int) :
    Calls Try.prog 73 #[.int .i64 n] w fun e w' => e = .returned (.bool (manyS n)) ∧ w = w' := by
  by_cases h1 : 1 ≤ n
  · by_cases h2 : n ≤ 8192
    · have hR : manyS n = true := by rw [manyS, decide_eq_true_iff]; exact ⟨h1, h2⟩
      rw [hR]
      clear hR
      go_enter Try.func73, Try.ntmps73
      go_wp2
      go_ret
      exact ⟨rfl, rfl⟩
    · have hR : manyS n = false := by rw [manyS, decide_eq_false_iff_not]; omega
      rw [hR]
      clear hR
      go_enter Try.func73, Try.ntmps73
      go_wp2
      go_ret
      exact ⟨rfl, rfl⟩
  · have hR : manyS n = false := by rw [manyS, decide_eq_false_iff_not]; omega
    rw [hR]
    clear hR
    go_enter Try.func73, Try.ntmps73
    go_wp2
    go_ret
    exact ⟨rfl, rfl⟩
theorem manyS_yes {n : Int} (h : manyS n = true) : ∃ m : Nat, n = m ∧ 1 ≤ m ∧ m ≤ 8192 := by
  rw [manyS, decide_eq_true_iff] at h
  exact ⟨n.toNat, by omega, by omega, by omega⟩
theorem manyS_nat {m : Nat} (h1 : 1 ≤ m) (h2 : m ≤ 8192) : manyS (m : Int) = true := by
  rw [manyS, decide_eq_true_iff]; omega
theorem lArea_any (w : World) (L A D n : Nat) (hL : L ≤ 8192) (hA : A ≤ 8192) (hn : n ≤ 2) :
    Calls Try.prog 84 #[.agg #[.int .i64 L, .int .i64 A, .int .i64 D], .int .i64 n] w fun e w' => e = .returned (.int .i64 ((1 + L + n * A : Nat) : Int)) ∧ Fr (fun _ => False) w w' := by
  obtain ⟨m, hm⟩ : ∃ m, m = n * A := ⟨_, rfl⟩
  have hmb : m ≤ 16384 := by rw [hm]; exact Nat.le_trans (Nat.mul_le_mul hn hA) (by decide)
  have hmi : (n : Int) * (A : Int) = (m : Int) := by rw [hm]; push_cast; rfl
  rw [← hm]
  have HM := Lib.hid hm
  clear hm
  go_enter Try.func84, Try.ntmps84
  go_wp2
  go_ret
  exact ⟨by push_cast; rfl, (Fr.refl _ _).alloc _⟩
theorem lData_any (w : World) (L A D : Nat) (hL : L ≤ 8192) (hA : A ≤ 8192) :
    Calls Try.prog 74 #[.agg #[.int .i64 L, .int .i64 A, .int .i64 D]] w fun e w' => e = .returned (.int .i64 ((1 + L + 2 * A : Nat) : Int)) ∧ Fr (fun _ => False) w w' := by
  have hc := fun w => lArea_any w L A D 2 hL hA (by decide)
  have HC := Lib.hid hc
  clear hc
  go_enter Try.func74, Try.ntmps74
  go_wp2_with (go_at_call 84; refine (HC.out _).mono ?_; rintro e w1 ⟨rfl, hf1⟩; (have H1 := Lib.hid hf1); clear hf1)
  go_ret
  exact ⟨rfl, ((Fr.refl _ w).alloc _).trans H1.out (fun _ h => h.elim)⟩
end Go.Proofs.Ytdpaobflknkbkaa
namespace Go.Proofs.Ytdpaobflknkbkaa
open Go.RowKit Go.ChangeShapes
set_option linter.unusedVariables false
theorem ent_spence_log_isMany (args : Array Value) (w : World) : (callFunc 73 args).run Try.prog w = .ok (.enter 73 args) w := by kernel_rfl
theorem ent_spence_log_dataAt (args : Array Value) (w : World) : (callFunc 74 args).run Try.prog w = .ok (.enter 74 args) w := by kernel_rfl
theorem fld_spence_api_Shape_0_0 (w : World) (g : Nat) : (Instr.fieldAt 51 (.pointer (some ⟨g, 0, none⟩)) 0).run Try.prog w = .ok (.pointer (some ⟨g, 0, none⟩)) w := by kernel_rfl
theorem fld_spence_api_Shape_1_0 (w : World) (g : Nat) : (Instr.fieldAt 51 (.pointer (some ⟨g, 0, none⟩)) 1).run Try.prog w = .ok (.pointer (some ⟨g, 1, none⟩)) w := by kernel_rfl
theorem fld_spence_api_Shape_2_0 (w : World) (g : Nat) : (Instr.fieldAt 51 (.pointer (some ⟨g, 0, none⟩)) 2).run Try.prog w = .ok (.pointer (some ⟨g, 2, none⟩)) w := by kernel_rfl
end Go.Proofs.Ytdpaobflknkbkaa
