/- Contracts of package base: place, valueAt. -/
import Derived.Test.YtdmlalnekjihfaaRLetters
import Derived.Test.YtdmlalnekjihfaaBits
import Derived.Laws.Shifts
namespace Go.Proofs.Ytdmlalnekjihfaa
open Go.RowKit Go.ChangeShapes
set_option linter.unusedVariables false

theorem ret_two {a b c d : Int} (h : a = c) (h' : b = d) : Ending.returned (.tuple #[.int .i64 a, .int .i64 b]) = .returned (.tuple #[.int .i64 c, .int .i64 d]) := by rw [h, h']

theorem place_any (i b : Nat) (hi : i < 32) (hb : b < 5) (w : World) :
    Calls Try.prog 34 #[.int .i64 i, .int .i64 b] w fun e w' => e = .returned (.tuple #[.int .i64 ((5 * i + b) / 8 : Nat), .int .i64 ((5 * i + b) % 8 : Nat)]) ∧ w = w' := by
  have h1 : (0 : Int) ≤ 5 * (i : Int) + (b : Int) := by omega
  go_enter Try.func34, Try.ntmps34
  go_wp2
  go_ret2
  exact ⟨ret_two (by omega) (by omega), rfl⟩

/-- The k lowest ones of the five bits of letter i. -/
def lowFive (H : List UInt8) (i : Nat) : Nat → Nat
  | 0 => 0
  | k + 1 => lowFive H i k + bitN H (5 * i + k) * 2 ^ k
theorem lowFive_lt (H : List UInt8) (i k : Nat) : lowFive H i k < 2 ^ k := by
  induction k with
  | zero => simp [lowFive]
  | succ k ih =>
    have h := bitN_lt H (5 * i + k)
    rw [lowFive, Nat.pow_succ]
    have h2 : bitN H (5 * i + k) * 2 ^ k ≤ 1 * 2 ^ k := Nat.mul_le_mul_right _ (by omega)
    omega
theorem lowFive_five (H : List UInt8) (i : Nat) : lowFive H i 5 = five H i := by
  simp only [lowFive, five, fiveFrom, Nat.sub_zero, show 4 - 1 = 3 from rfl, show 4 - 2 = 2 from rfl, show 4 - 3 = 1 from rfl, show 4 - 4 = 0 from rfl]
  omega
theorem u8_and1 (n : Nat) (h : n < 256) : bits .and .u8 (n : Int) 1 = ((n % 2 : Nat) : Int) := by
  have := bits_mask .u8 8 (by decide) wraps_u8 1 (by decide) (n : Int) (by omega) (by omega)
  simpa using this
theorem bit_or (v b k : Nat) (hv : v < 2 ^ k) (hb : b < 2) (hk : k < 5) : bits .or .i64 (v : Int) ((b : Int) * 2 ^ k) = ((v + b * 2 ^ k : Nat) : Int) := by
  have h5 : 2 ^ k ≤ 2 ^ 4 := Nat.pow_le_pow_right (by decide) (by omega)
  have h6 : b * 2 ^ k ≤ 1 * 2 ^ k := Nat.mul_le_mul_right _ (by omega)
  have h := i64_or k v (b * 2 ^ k) hv ⟨b, Nat.mul_comm _ _⟩ (by omega) (by omega)
  rw [← h]
  push_cast
  rfl

set_option maxHeartbeats 1000000 in
theorem valueAt_any (H : List UInt8) (hH : H.length = 20) (i : Nat) (hi : i < 32) (w : World) :
    Calls Try.prog 28 #[.agg (H.map bv).toArray, .int .i64 i] w fun e w' => e = .returned (.int .i64 (five H i)) ∧ Fr (fun _ => False) w w' := by
  obtain ⟨C, hC⟩ : ∃ C, C = (H.map bv).toArray := ⟨_, rfl⟩
  have HB := Lib.hid (show BytT (w.alloc (.cells C 23)) w.heap.size 23 H by rw [hC]; exact heap_alloc_new w _)
  have HPL := Lib.hid (fun b (hb : b < 5) W => place_any i b hi hb W)
  have HL := Lib.hid (lowFive_five H i)
  have HH := Lib.hid hH
  rw [← hC]
  clear hC hH
  go_enter Try.func28, Try.ntmps28
  go_wp2_with fail
  go_loop [5, 9] (fun vv kv => ∃ k v : Nat, k ≤ 5 ∧ v < 32 ∧ kv = .int .i64 k ∧ vv = .int .i64 v ∧ Hid (v = lowFive H i k)) (fun _ kv => 5 - (intOf kv).toNat)
  case atStart => exact ⟨0, 0, by omega, by omega, rfl, rfl, Lib.hid rfl⟩
  case round =>
    obtain ⟨k, v, hk, hv, rfl, rfl, hV⟩ := hrel
    by_cases hlt : k < 5
    · have HP := HPL.out k hlt
      obtain ⟨p, hp⟩ : ∃ p, p = 5 * i + k := ⟨_, rfl⟩
      obtain ⟨q, hq⟩ : ∃ q, q = p / 8 := ⟨_, rfl⟩
      obtain ⟨r, hr⟩ : ∃ r, r = p % 8 := ⟨_, rfl⟩
      rw [← hp, ← hq, ← hr] at HP
      have HP := Lib.hid HP
      have hq20 : q < 20 := by omega
      have hr8 : r < 8 := by omega
      have c1 := HB.out.cell q (by rw [HH.out]; exact hq20)
      obtain ⟨x, hx⟩ : ∃ x, x = (H.getD q 0).toNat := ⟨_, rfl⟩
      rw [← hx] at c1
      have hx256 : x < 256 := by rw [hx]; exact UInt8.toNat_lt _
      obtain ⟨b, hb⟩ : ∃ b, b = bitN H (5 * i + k) := ⟨_, rfl⟩
      have hb2 : b < 2 := by rw [hb]; exact bitN_lt _ _
      have hbx : x / 2 ^ r % 2 = b := by rw [hb, bitN, ← hp, ← hq, ← hr, ← hx]
      have hxr : x / 2 ^ r < 256 := Nat.lt_of_le_of_lt (Nat.div_le_self _ _) hx256
      have e1 : bits .and .u8 ((x : Int) / 2 ^ r) 1 = (b : Int) := by
        have h := u8_and1 (x / 2 ^ r) hxr
        rw [hbx] at h
        rw [← h]
        push_cast
        rfl
      have hvl : v < 2 ^ k := by rw [hV.out]; exact lowFive_lt H i k
      have e2 := bit_or v b k hvl hb2 hlt
      have h2k : 2 ^ k ≤ 2 ^ 4 := Nat.pow_le_pow_right (by decide) (by omega)
      have hst : v + b * 2 ^ k = lowFive H i (k + 1) := by rw [lowFive, ← hV.out, ← hb]
      have hst2 : v + b * 2 ^ k < 32 := by
        have h6 : b * 2 ^ k ≤ 1 * 2 ^ k := Nat.mul_le_mul_right _ (by omega)
        omega
      have HST := Lib.hid hst
      have HW := Lib.hid (show ∀ y : Int, y = (b : Int) * 2 ^ k → 0 ≤ y ∧ y ≤ 16 by
        rintro y rfl
        have h6 : b * 2 ^ k ≤ 1 * 2 ^ k := Nat.mul_le_mul_right _ (by omega)
        have h7 : (b : Int) * 2 ^ k = ((b * 2 ^ k : Nat) : Int) := by push_cast; rfl
        omega)
      have bq : (q : Int) < 20 := by omega
      have bq0 : (0 : Int) ≤ (q : Int) := by omega
      clear hst hx hb hbx hp hq hr hV hvl
      go_wp2_with (go_at_call 34; refine (HP.out _).mono ?_; rintro e w2 ⟨rfl, rfl⟩)
      go_round
      case rel => exact ⟨k + 1, _, by omega, hst2, by go_num, by rw [IntWalk.wrap64_in _ (by have := HW.out _ rfl; omega), e2], HST⟩
      case measure => simp [intOf]; omega
    · have HE := Lib.hid (show v = five H i by
        rw [hV.out, show k = 5 by omega, HL.out])
      clear hV
      go_wp2_with fail
      go_ret
      exact ⟨ret_int (by rw [HE.out]), (Fr.refl _ _).alloc _⟩
end Go.Proofs.Ytdmlalnekjihfaa
