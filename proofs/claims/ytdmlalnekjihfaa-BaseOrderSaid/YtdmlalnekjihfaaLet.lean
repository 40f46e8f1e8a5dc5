/- A hash's letters, plainly. No program. -/
import Derived.Test.YtdmlalnekjihfaaRows
import Derived.WalkKit
namespace Go.Proofs.Ytdmlalnekjihfaa

def abc : List UInt8 := [48, 49, 50, 51, 52, 53, 54, 55, 56, 57, 97, 98, 99, 100, 102, 103, 104, 105, 106, 107, 108, 109, 110, 112, 113, 114, 115, 118, 119, 120, 121, 122]
theorem abc_length : abc.length = 32 := rfl
/-- Bit i of a hash. -/
def bitN (H : List UInt8) (i : Nat) : Nat := (H.getD (i / 8) 0).toNat / 2 ^ (i % 8) % 2
theorem bitN_lt (H : List UInt8) (i : Nat) : bitN H i < 2 := Nat.mod_lt _ (by decide)
/-- The k highest ones of the five bits of letter i. -/
def fiveFrom (H : List UInt8) (i : Nat) : Nat → Nat
  | 0 => 0
  | k + 1 => 2 * fiveFrom H i k + bitN H (5 * i + (4 - k))
theorem fiveFrom_lt (H : List UInt8) (i k : Nat) : fiveFrom H i k < 2 ^ k := by
  induction k with
  | zero => simp [fiveFrom]
  | succ k ih =>
    have := bitN_lt H (5 * i + (4 - k))
    rw [fiveFrom, Nat.pow_succ]
    omega
def five (H : List UInt8) (i : Nat) : Nat := fiveFrom H i 5
theorem five_lt (H : List UInt8) (i : Nat) : five H i < 32 := fiveFrom_lt H i 5
def letL (H : List UInt8) : List UInt8 := (List.range 32).map fun i => abc.getD (five H i) 0
theorem letL_length (H : List UInt8) : (letL H).length = 32 := by simp [letL]
theorem letL_get (H : List UInt8) (i : Nat) (h : i < 32) : (letL H).getD i 0 = abc.getD (five H i) 0 := by
  rw [List.getD_eq_getElem?_getD, List.getElem?_eq_getElem (by rw [letL_length]; exact h)]
  simp [letL]
theorem letL_take_succ (H : List UInt8) (i : Nat) (h : i < 32) : (letL H).take (i + 1) = (letL H).take i ++ [abc.getD (five H i) 0] := by
  rw [List.take_succ_eq_append_getElem (by rw [letL_length]; exact h)]
  simp [letL]

/-- A letter's value; below 0: it is none. -/
def valL : List UInt8 → Nat → UInt8 → Int
  | [], _, _ => -1
  | x :: r, i, c => if x = c then i else valL r (i + 1) c
def valI (c : UInt8) : Int := valL abc 0 c
theorem valL_step (i : Nat) (c : UInt8) (h : i < 32) : valL (abc.drop i) i c = if abc.getD i 0 = c then (i : Int) else valL (abc.drop (i + 1)) (i + 1) c := by
  rw [List.drop_eq_getElem_cons (by rw [abc_length]; exact h), valL, List.getD_eq_getElem?_getD, List.getElem?_eq_getElem (by rw [abc_length]; exact h)]
  rfl
theorem valL_end (c : UInt8) : valL (abc.drop 32) 32 c = -1 := rfl
theorem valI_all : ∀ c : Fin 256, (valI (UInt8.ofNat c.val) = -1 ∧ ¬ UInt8.ofNat c.val ∈ abc) ∨ (0 ≤ valI (UInt8.ofNat c.val) ∧ valI (UInt8.ofNat c.val) < 32 ∧ abc.getD (valI (UInt8.ofNat c.val)).toNat 0 = UInt8.ofNat c.val) := by decide +kernel
theorem valI_abc : ∀ n : Fin 32, valI (abc.getD n.val 0) = (n.val : Int) := by decide +kernel
theorem valI_cases (c : UInt8) : (valI c = -1 ∧ ¬ c ∈ abc) ∨ (0 ≤ valI c ∧ valI c < 32 ∧ abc.getD (valI c).toNat 0 = c) := by
  have h := valI_all ⟨c.toNat, c.toNat_lt⟩
  have e : UInt8.ofNat c.toNat = c := by simp
  simp only [e] at h
  exact h
end Go.Proofs.Ytdmlalnekjihfaa
