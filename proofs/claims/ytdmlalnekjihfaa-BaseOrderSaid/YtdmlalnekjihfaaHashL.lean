/- The hash of letters, plainly. No program. -/
import Derived.Test.YtdmlalnekjihfaaLet
import Derived.Test.YtdmlalnekjihfaaBase
namespace Go.Proofs.Ytdmlalnekjihfaa

def valN (c : UInt8) : Nat := (valI c).toNat
/-- Bit p of what letters S tell. -/
def hashBit (S : List UInt8) (p : Nat) : Nat := valN (S.getD (p / 5) 0) / 2 ^ (p % 5) % 2
theorem hashBit_lt (S : List UInt8) (p : Nat) : hashBit S p < 2 := Nat.mod_lt _ (by decide)
/-- The t lowest bits of byte m, of those that stand under j. -/
def hbyte (S : List UInt8) (j m : Nat) : Nat → Nat
  | 0 => 0
  | t + 1 => hbyte S j m t + (if 8 * m + t < j then hashBit S (8 * m + t) * 2 ^ t else 0)
theorem hbyte_lt (S : List UInt8) (j m t : Nat) : hbyte S j m t < 2 ^ t := by
  induction t with
  | zero => simp [hbyte]
  | succ t ih =>
    have h := hashBit_lt S (8 * m + t)
    rw [hbyte, Nat.pow_succ]
    have h2 : hashBit S (8 * m + t) * 2 ^ t ≤ 1 * 2 ^ t := Nat.mul_le_mul_right _ (by omega)
    split <;> omega
/-- The bits behind j are none. -/
theorem hbyte_low (S : List UInt8) (j m : Nat) (r : Nat) (h : j = 8 * m + r) (t : Nat) : hbyte S j m t < 2 ^ r := by
  induction t with
  | zero => simp [hbyte]; exact Nat.pos_of_ne_zero (by simp)
  | succ t ih =>
    rw [hbyte]
    by_cases h1 : 8 * m + t < j
    · have h2 := hbyte_lt S j m (t + 1)
      rw [hbyte] at h2
      have : 2 ^ (t + 1) ≤ 2 ^ r := Nat.pow_le_pow_right (by decide) (by omega)
      omega
    · rw [if_neg h1]
      omega
theorem hbyte_far (S : List UInt8) (j m : Nat) (hm : m ≠ j / 8) (t : Nat) (ht : t ≤ 8) : hbyte S (j + 1) m t = hbyte S j m t := by
  induction t with
  | zero => rfl
  | succ t ih =>
    rw [hbyte, hbyte, ih (by omega)]
    congr 1
    by_cases h : 8 * m + t < j
    · rw [if_pos h, if_pos (by omega)]
    · rw [if_neg h, if_neg (by omega)]
theorem hbyte_near (S : List UInt8) (j m r : Nat) (h : j = 8 * m + r) (t : Nat) : hbyte S (j + 1) m t = hbyte S j m t + (if r < t then hashBit S j * 2 ^ r else 0) := by
  induction t with
  | zero => simp [hbyte]
  | succ t ih =>
    rw [hbyte, hbyte, ih]
    by_cases h1 : r < t
    · simp only [if_pos h1, if_neg (show ¬ 8 * m + t < j + 1 by omega), if_neg (show ¬ 8 * m + t < j by omega), if_pos (show r < t + 1 by omega)]
      omega
    · by_cases h2 : r = t
      · subst h2
        rw [← h]
        simp only [if_neg h1, if_pos (show j < j + 1 by omega), if_neg (show ¬ j < j by omega), if_pos (show r < r + 1 by omega)]
      · simp only [if_neg h1, if_neg (show ¬ r < t + 1 by omega), if_pos (show 8 * m + t < j + 1 by omega), if_pos (show 8 * m + t < j by omega)]
        omega
def hB (S : List UInt8) (j m : Nat) : Nat := hbyte S j m 8
theorem hB_lt (S : List UInt8) (j m : Nat) : hB S j m < 256 := hbyte_lt S j m 8
theorem hB_at (S : List UInt8) (j : Nat) : hB S j (j / 8) < 2 ^ (j % 8) := hbyte_low S j (j / 8) (j % 8) (by omega) 8
theorem hB_succ (S : List UInt8) (j m : Nat) : hB S (j + 1) m = if m = j / 8 then hB S j m + hashBit S j * 2 ^ (j % 8) else hB S j m := by
  unfold hB
  by_cases h : m = j / 8
  · rw [if_pos h, hbyte_near S j m (j % 8) (by omega) 8, if_pos (by omega)]
  · rw [if_neg h, hbyte_far S j m h 8 (by omega)]
/-- The hash, of the first j bits. -/
def hashL (S : List UInt8) (j : Nat) : List UInt8 := (List.range 20).map fun m => UInt8.ofNat (hB S j m)
theorem hashL_length (S : List UInt8) (j : Nat) : (hashL S j).length = 20 := by simp [hashL]
theorem hashL_get (S : List UInt8) (j m : Nat) (h : m < 20) : ((hashL S j).getD m 0).toNat = hB S j m := by
  rw [List.getD_eq_getElem?_getD, List.getElem?_eq_getElem (by rw [hashL_length]; exact h)]
  have := hB_lt S j m
  simp only [hashL, List.getElem_map, List.getElem_range, Option.getD_some, UInt8.toNat_ofNat']
  omega
theorem hbyte_zero (S : List UInt8) (m t : Nat) : hbyte S 0 m t = 0 := by
  induction t with
  | zero => rfl
  | succ t ih => rw [hbyte, ih]; simp
theorem hashL_zero (S : List UInt8) : hashL S 0 = List.replicate 20 0 := by
  apply List.ext_getElem
  · simp [hashL]
  · intro j h1 h2
    rw [List.getElem_replicate]
    simp [hashL, hB, hbyte_zero]
theorem hashL_set (S : List UInt8) (j : Nat) (x : Nat) (hx : x = hB S j (j / 8) + hashBit S j * 2 ^ (j % 8)) : (hashL S j).set (j / 8) (UInt8.ofNat x) = hashL S (j + 1) := by
  apply List.ext_getElem
  · simp [hashL]
  · intro m h1 h2
    rw [List.getElem_set]
    simp only [hashL, List.getElem_map, List.getElem_range, hB_succ]
    by_cases e : j / 8 = m
    · subst e
      rw [if_pos rfl, if_pos rfl, hx]
    · rw [if_neg e, if_neg (Ne.symm e)]
theorem hashL_same (S : List UInt8) (j : Nat) (h0 : hashBit S j = 0) : hashL S (j + 1) = hashL S j := by
  unfold hashL
  congr 1
  funext m
  rw [hB_succ, h0]
  split <;> simp
/-- Are they a hash's letters? -/
def hashOk (S : List UInt8) : Bool := decide (S.length = 32) && S.all fun c => decide (0 ≤ valI c)
end Go.Proofs.Ytdmlalnekjihfaa
