/- Contracts: bits.RotateLeft32, hash.turned. -/
import Derived.Test.YthjpgnmpcllolaaDoorSha
import Derived.Test.YthjpgnmpcllolaaDoorKit
import Derived.Laws.BitsAll
import Derived.Laws.Shifts
namespace Go.Proofs.YthjpgnmpcllolaaDoor
open Go.RowKit Go.ChangeShapes
set_option linter.unusedVariables false

/-- A turn, as the walk spells it. -/
theorem rot_spell (x c d : Nat) (hx : x < 4294967296) (hd : c = 32 - d) : bits .or .u32 ((x : Int) * 2 ^ c % 4294967296) ((x : Int) / 2 ^ d) = (rotr x d : Nat) := by
  subst hd
  have h := u32_or_nat ((x <<< (32 - d)) % 4294967296) (x >>> d) (Nat.mod_lt _ (by decide)) (shr_lt hx)
  rw [Nat.shiftLeft_eq, Nat.shiftRight_eq_div_pow] at h
  have h1 : (x : Int) * 2 ^ (32 - d) = ((x * 2 ^ (32 - d) : Nat) : Int) := by push_cast; rfl
  have h2 : (x : Int) / 2 ^ d = ((x / 2 ^ d : Nat) : Int) := by push_cast; rfl
  have h3 : rotr x d = (x * 2 ^ (32 - d)) % 4294967296 ||| x / 2 ^ d := by unfold rotr; rw [Nat.shiftLeft_eq, Nat.shiftRight_eq_div_pow]
  have h4 : ((x * 2 ^ (32 - d) : Nat) : Int) % 4294967296 = ((x * 2 ^ (32 - d) % 4294967296 : Nat) : Int) := by generalize x * 2 ^ (32 - d) = y; omega
  rw [h1, h2, h4, h3]
  exact h

theorem rotl_any (x c : Nat) (k : Int) (w : World) (hx : x < 4294967296) (hk : bits .and .u64 (IntKind.u64.wrap k) 31 = (c : Int)) (hc : 1 ≤ c) (hc2 : c ≤ 31) :
    Calls Tryd.prog 50 #[.int .u32 x, .int .i64 k] w fun e w' => e = .returned (.int .u32 (rotr x (32 - c) : Nat)) ∧ w = w' := by
  have e2 : IntKind.u64.wrap (32 - (c : Int)) = ((32 - c : Nat) : Int) := by rw [IntKind.wrap_u64]; omega
  have e4 := rot_spell x c (32 - c) hx (by omega)
  go_enter Tryd.func50, Tryd.ntmps50
  go_wp2
  go_ret
  exact ⟨ret_int rfl, rfl⟩

theorem turned_bits : ∀ p : Nat, p < 32 → 1 ≤ p → bits .and .u64 (IntKind.u64.wrap (-(p : Int))) 31 = ((32 - p : Nat) : Int) := by decide

/-- hash.turned: right-turned. -/
theorem turned_any (x p : Nat) (w : World) (hx : x < 4294967296) (h1 : 1 ≤ p) (h2 : p ≤ 31) :
    Calls Tryd.prog 45 #[.int .u32 x, .int .i64 p] w fun e w' => e = .returned (.int .u32 (rotr x p : Nat)) ∧ w = w' := by
  have HC := Lib.hid (rotl_any x (32 - p) (-(p : Int)) w hx (turned_bits p (by omega) h1) (by omega) (by omega))
  have HE := Lib.hid (show 32 - (32 - p) = p by omega)
  go_enter Tryd.func45, Tryd.ntmps45
  go_wp2_with (go_at_call 50; refine HC.out.mono ?_; rintro e w' ⟨rfl, rfl⟩)
  go_ret
  exact ⟨ret_int (by rw [HE.out]), rfl⟩
theorem turned_int (x : Nat) (p : Int) (w : World) (hx : x < 4294967296) (h1 : 1 ≤ p) (h2 : p ≤ 31) :
    Calls Tryd.prog 45 #[.int .u32 x, .int .i64 p] w fun e w' => e = .returned (.int .u32 (rotr x p.toNat : Nat)) ∧ w = w' := by
  obtain ⟨k, rfl⟩ := Int.eq_ofNat_of_zero_le (show 0 ≤ p by omega)
  exact turned_any x k w hx (by omega) (by omega)
theorem turned_q (x : Nat) (p : Int) (w : World) (hx : x < 4294967296) (h1 : 1 ≤ p) (h2 : p ≤ 31) :
    Calls Tryd.prog 45 #[.int .u32 x, .int .i64 p] w fun e w' => e = .returned (.int .u32 (rotr x p.toNat : Nat)) ∧ w' = w :=
  (turned_int x p w hx h1 h2).mono fun _ _ h => ⟨h.1, h.2.symm⟩
end Go.Proofs.YthjpgnmpcllolaaDoor
