/- Contracts of code.Cursor. -/
import Derived.Test.YthmcmomkomhilaaKit
import Derived.Test.YthmcmomkomhilaaNum
import Derived.Test.YthmcmomkomhilaaBits
namespace Go.Proofs.Ythmcmomkomhilaa
open Go.RowKit Go.ChangeShapes
set_option linter.unusedVariables false

/-- Is it a number? Not unfolded by a walk. -/
def isNumB (n : Int) : Bool := decide (0 ≤ n ∧ n ≤ 1099511627776)
theorem isNumB_yes {n : Int} (h : 0 ≤ n) (h2 : n ≤ 1099511627776) : isNumB n = true := by simp [isNumB, h, h2]
theorem isNumB_no {n : Int} (h : n < 0 ∨ 1099511627776 < n) : isNumB n = false := by simp [isNumB]; omega

theorem numV_none {X : List UInt8} (h : numOf X = none) : numV X = 0 := by simp [numV, h]
theorem numS_none {X : List UInt8} (h : numOf X = none) : numS X = 0 := by simp [numS, h]
theorem numV_some {X : List UInt8} {v s : Nat} (h : numOf X = some (v, s)) : numV X = v := by simp [numV, h]
theorem numS_some {X : List UInt8} {v s : Nat} (h : numOf X = some (v, s)) : numS X = s := by simp [numS, h]
theorem numFrom_end {f i n k : Nat} {X : List UInt8} (h : X.length ≤ k) : numFrom f i n (X.drop k) = none := by
  rw [List.drop_eq_nil_of_le h]
  cases f <;> rfl
theorem pow_7 (k : Nat) : 128 ^ k = 2 ^ (7 * k) := by rw [Nat.pow_mul]
theorem numAt_step (m y k : Nat) (hk : k ≤ 5) (hm : m < 128 ^ k) (hy : y < 128) : y * 2 ^ (7 * k) < 2 ^ 62 ∧ bits .or .i64 (m : Int) ((y * 2 ^ (7 * k) : Nat) : Int) = ((m + y * 2 ^ (7 * k) : Nat) : Int) := by
  have h2 : 2 ^ (7 * k) ≤ 2 ^ 35 := Nat.pow_le_pow_right (by decide) (by omega)
  have h3 : y * 2 ^ (7 * k) ≤ 127 * 2 ^ 35 := Nat.mul_le_mul (by omega) h2
  rw [pow_7] at hm
  exact ⟨by omega, i64_or (7 * k) m _ hm (Nat.dvd_mul_left _ _) (by omega) (by omega)⟩
theorem wrap64_mul_of (y k : Nat) (h : y * 2 ^ (7 * k) < 2 ^ 62) : wrap64 ((y : Int) * 2 ^ (7 * k)) = (y : Int) * 2 ^ (7 * k) := by
  have e : ((y : Int) * 2 ^ (7 * k)) = ((y * 2 ^ (7 * k) : Nat) : Int) := by push_cast; rfl
  rw [e]
  exact IntWalk.wrap64_in _ ⟨by omega, by omega⟩
theorem numAt_lt {m k z mz : Nat} (hm : m < 128 ^ k) (hz : z < 2 ^ 62) (h : mz = m + z) (hk : k ≤ 5) : mz < 2 ^ 63 := by
  have : 128 ^ k ≤ 128 ^ 5 := Nat.pow_le_pow_right (by decide) hk
  omega
theorem numAt_next (m y k mz : Nat) (hm : m < 128 ^ k) (h : mz = m + y * 2 ^ (7 * k)) (hy : y < 128) : mz < 128 ^ (k + 1) := by
  rw [← pow_7] at h
  have : y * 128 ^ k ≤ 127 * 128 ^ k := Nat.mul_le_mul_right _ (by omega)
  rw [Nat.pow_succ]
  omega

end Go.Proofs.Ythmcmomkomhilaa
