/- Letters and back, plainly. No program. -/
import Derived.Test.YtdmlalnekjihfaaRParse
import Derived.Test.YtdmlalnekjihfaaBPlace
namespace Go.Proofs.Ytdmlalnekjihfaa
open Go.RowKit Go.ChangeShapes
set_option linter.unusedVariables false

theorem five_bits (H : List UInt8) (i : Nat) : five H i = bitN H (5 * i) + bitN H (5 * i + 1) * 2 + bitN H (5 * i + 2) * 4 + bitN H (5 * i + 3) * 8 + bitN H (5 * i + 4) * 16 := by
  rw [← lowFive_five]
  simp only [lowFive, Nat.add_zero]
  omega
theorem five_bit (H : List UInt8) (i k : Nat) (hk : k < 5) : five H i / 2 ^ k % 2 = bitN H (5 * i + k) := by
  rw [five_bits]
  have h0 := bitN_lt H (5 * i)
  have h1 := bitN_lt H (5 * i + 1)
  have h2 := bitN_lt H (5 * i + 2)
  have h3 := bitN_lt H (5 * i + 3)
  have h4 := bitN_lt H (5 * i + 4)
  obtain rfl | rfl | rfl | rfl | rfl : k = 0 ∨ k = 1 ∨ k = 2 ∨ k = 3 ∨ k = 4 := by omega
  all_goals simp only [Nat.add_zero, show (2 : Nat) ^ 0 = 1 from rfl, show (2 : Nat) ^ 1 = 2 from rfl, show (2 : Nat) ^ 2 = 4 from rfl, show (2 : Nat) ^ 3 = 8 from rfl, show (2 : Nat) ^ 4 = 16 from rfl]
  all_goals omega
theorem valN_abc (n : Nat) (h : n < 32) : valN (abc.getD n 0) = n := by
  have e := valI_abc ⟨n, h⟩
  simp only at e
  rw [valN, e]
  simp
theorem hashBit_letL (H : List UInt8) (p : Nat) (hp : p < 160) : hashBit (letL H) p = bitN H p := by
  rw [hashBit, letL_get H (p / 5) (by omega), valN_abc _ (five_lt H _), five_bit H (p / 5) (p % 5) (by omega)]
  congr 1
  omega
theorem hB_all (S : List UInt8) (m : Nat) (hm : m < 20) : hB S 160 m = hashBit S (8 * m) + hashBit S (8 * m + 1) * 2 + hashBit S (8 * m + 2) * 4 + hashBit S (8 * m + 3) * 8 + hashBit S (8 * m + 4) * 16 + hashBit S (8 * m + 5) * 32 + hashBit S (8 * m + 6) * 64 + hashBit S (8 * m + 7) * 128 := by
  simp only [hB, hbyte]
  rw [if_pos (by omega), if_pos (by omega), if_pos (by omega), if_pos (by omega), if_pos (by omega), if_pos (by omega), if_pos (by omega), if_pos (by omega)]
  simp only [Nat.add_zero]
  omega
theorem byte_bits : ∀ x : Fin 256, x.val % 2 + x.val / 2 % 2 * 2 + x.val / 4 % 2 * 4 + x.val / 8 % 2 * 8 + x.val / 16 % 2 * 16 + x.val / 32 % 2 * 32 + x.val / 64 % 2 * 64 + x.val / 128 % 2 * 128 = x.val := by decide +kernel
theorem bitN_at (H : List UInt8) (m t : Nat) (ht : t < 8) : bitN H (8 * m + t) = (H.getD m 0).toNat / 2 ^ t % 2 := by
  rw [bitN, show (8 * m + t) / 8 = m by omega, show (8 * m + t) % 8 = t by omega]
/-- The letters of a hash tell it. -/
theorem hashL_letL (H : List UInt8) (hH : H.length = 20) : hashL (letL H) 160 = H := by
  apply List.ext_getElem
  · rw [hashL_length, hH]
  · intro m h1 h2
    rw [hashL_length] at h1
    apply UInt8.toNat_inj.1
    have e := hashL_get (letL H) 160 m h1
    rw [List.getD_eq_getElem?_getD, List.getElem?_eq_getElem (by rw [hashL_length]; exact h1), Option.getD_some] at e
    rw [e, hB_all _ m h1]
    have hb : ∀ t, t < 8 → hashBit (letL H) (8 * m + t) = (H.getD m 0).toNat / 2 ^ t % 2 := fun t ht => by rw [hashBit_letL H _ (by omega), bitN_at H m t ht]
    have b0 := hb 0 (by omega)
    rw [Nat.add_zero] at b0
    rw [b0, hb 1 (by omega), hb 2 (by omega), hb 3 (by omega), hb 4 (by omega), hb 5 (by omega), hb 6 (by omega), hb 7 (by omega)]
    have hx := byte_bits ⟨(H.getD m 0).toNat, UInt8.toNat_lt _⟩
    have e2 : H.getD m 0 = H[m] := by rw [List.getD_eq_getElem?_getD, List.getElem?_eq_getElem h2, Option.getD_some]
    rw [e2] at hx ⊢
    simp only [show (2 : Nat) ^ 0 = 1 from rfl, show (2 : Nat) ^ 1 = 2 from rfl, show (2 : Nat) ^ 2 = 4 from rfl, show (2 : Nat) ^ 3 = 8 from rfl, show (2 : Nat) ^ 4 = 16 from rfl, show (2 : Nat) ^ 5 = 32 from rfl, show (2 : Nat) ^ 6 = 64 from rfl, show (2 : Nat) ^ 7 = 128 from rfl, Nat.div_one] at hx ⊢
    exact hx
theorem hashOk_letL (H : List UInt8) : hashOk (letL H) = true := by
  refine hashOk_all _ (letL_length H) (fun i hi => ?_)
  rw [letL_get H i hi, show valI (abc.getD (five H i) 0) = (five H i : Int) from valI_abc ⟨five H i, five_lt H i⟩]
  omega
theorem letL_inj (A Bb : List UInt8) (hA : A.length = 20) (hB : Bb.length = 20) (h : letL A = letL Bb) : A = Bb := by
  rw [← hashL_letL A hA, ← hashL_letL Bb hB, h]
theorem hB_bit (S : List UInt8) (p : Nat) (hp : p < 160) : bitN (hashL S 160) p = hashBit S p := by
  rw [bitN, hashL_get S 160 (p / 8) (by omega), hB_all S (p / 8) (by omega)]
  obtain ⟨m, hm⟩ : ∃ m, m = p / 8 := ⟨_, rfl⟩
  obtain ⟨r, hr⟩ : ∃ r, r = p % 8 := ⟨_, rfl⟩
  have hpr : p = 8 * m + r := by omega
  rw [← hm, ← hr, hpr]
  have h0 := hashBit_lt S (8 * m)
  have h1 := hashBit_lt S (8 * m + 1)
  have h2 := hashBit_lt S (8 * m + 2)
  have h3 := hashBit_lt S (8 * m + 3)
  have h4 := hashBit_lt S (8 * m + 4)
  have h5 := hashBit_lt S (8 * m + 5)
  have h6 := hashBit_lt S (8 * m + 6)
  have h7 := hashBit_lt S (8 * m + 7)
  clear hm hpr
  obtain rfl | rfl | rfl | rfl | rfl | rfl | rfl | rfl : r = 0 ∨ r = 1 ∨ r = 2 ∨ r = 3 ∨ r = 4 ∨ r = 5 ∨ r = 6 ∨ r = 7 := by omega
  all_goals simp only [Nat.add_zero, show (2 : Nat) ^ 0 = 1 from rfl, show (2 : Nat) ^ 1 = 2 from rfl, show (2 : Nat) ^ 2 = 4 from rfl, show (2 : Nat) ^ 3 = 8 from rfl, show (2 : Nat) ^ 4 = 16 from rfl, show (2 : Nat) ^ 5 = 32 from rfl, show (2 : Nat) ^ 6 = 64 from rfl, show (2 : Nat) ^ 7 = 128 from rfl, Nat.div_one]
  all_goals omega
theorem five_back (S : List UInt8) (i : Nat) (hi : i < 32) (hv : valN (S.getD i 0) < 32) : five (hashL S 160) i = valN (S.getD i 0) := by
  rw [five_bits, hB_bit S _ (by omega), hB_bit S _ (by omega), hB_bit S _ (by omega), hB_bit S _ (by omega), hB_bit S _ (by omega)]
  simp only [hashBit]
  rw [show 5 * i / 5 = i by omega, show (5 * i + 1) / 5 = i by omega, show (5 * i + 2) / 5 = i by omega, show (5 * i + 3) / 5 = i by omega, show (5 * i + 4) / 5 = i by omega,
    show 5 * i % 5 = 0 by omega, show (5 * i + 1) % 5 = 1 by omega, show (5 * i + 2) % 5 = 2 by omega, show (5 * i + 3) % 5 = 3 by omega, show (5 * i + 4) % 5 = 4 by omega]
  simp only [show (2 : Nat) ^ 0 = 1 from rfl, show (2 : Nat) ^ 1 = 2 from rfl, show (2 : Nat) ^ 2 = 4 from rfl, show (2 : Nat) ^ 3 = 8 from rfl, show (2 : Nat) ^ 4 = 16 from rfl, Nat.div_one]
  omega
/-- Letters that tell a hash are its own. -/
theorem letL_hashL (S : List UInt8) (h : hashOk S = true) : letL (hashL S 160) = S := by
  simp only [hashOk, Bool.and_eq_true, List.all_eq_true, decide_eq_true_eq] at h
  obtain ⟨h32, hv⟩ := h
  apply List.ext_getElem
  · rw [letL_length, h32]
  · intro i h1 h2
    rw [letL_length] at h1
    have hm := hv S[i] (List.getElem_mem _)
    have e2 : S.getD i 0 = S[i] := by rw [List.getD_eq_getElem?_getD, List.getElem?_eq_getElem h2, Option.getD_some]
    rcases valI_cases S[i] with hc | hc
    · omega
    · have hl := letL_get (hashL S 160) i h1
      rw [List.getD_eq_getElem?_getD, List.getElem?_eq_getElem (by rw [letL_length]; exact h1), Option.getD_some] at hl
      have hvn : valN (S.getD i 0) < 32 := by rw [e2, valN]; omega
      rw [hl, five_back S i h1 hvn, e2, valN, hc.2.2]

/-- A path's text is parsed. -/
theorem parse_text (H : List UInt8) (N : ByteArray) (hH : H.length = 20) (hN : nameB N.data.toList = true) : parseT ⟨(letL H ++ 45 :: N.data.toList).toArray⟩ = .tuple #[.agg (pathC H N), .int .i64 0] := by
  have ht : (letL H ++ 45 :: N.data.toList).take 32 = letL H := by
    rw [List.take_append_of_le_length (by rw [letL_length]; omega), List.take_of_length_le (by rw [letL_length]; omega)]
  have hd : (letL H ++ 45 :: N.data.toList).drop 33 = N.data.toList := by
    rw [List.drop_append, letL_length, List.drop_eq_nil_of_le (by rw [letL_length]; omega)]
    rfl
  have h45 : (letL H ++ 45 :: N.data.toList).getD 32 0 = 45 := by
    rw [List.getD_eq_getElem?_getD, List.getElem?_append_right (by rw [letL_length]; omega), letL_length]
    rfl
  have hl : 34 ≤ (letL H ++ 45 :: N.data.toList).length := by
    have h := hN
    simp only [nameB, Bool.and_eq_true, decide_eq_true_eq] at h
    rw [List.length_append, letL_length, List.length_cons]
    omega
  have hok : parseOk (letL H ++ 45 :: N.data.toList) = true := by
    simp only [parseOk]
    rw [decide_eq_true hl, h45, hd, hN, ht, hashOk_letL]
    rfl
  rw [parseT]
  have e0 : (⟨(letL H ++ 45 :: N.data.toList).toArray⟩ : ByteArray).data.toList = letL H ++ 45 :: N.data.toList := rfl
  rw [e0, if_pos hok, ht, hashL_letL H hH]
  have eN : (⟨(letL H ++ 45 :: N.data.toList).toArray⟩ : ByteArray).extract 33 (⟨(letL H ++ 45 :: N.data.toList).toArray⟩ : ByteArray).size = N := by
    apply ByteArray.ext
    apply Array.toList_inj.1
    rw [cut_drop, e0, hd]
  rw [eN]
/-- What is parsed has just that text. -/
theorem parse_back (s : ByteArray) (h : parseOk s.data.toList = true) : nameB (s.extract 33 s.size).data.toList = true ∧ (⟨(letL (hashL (s.data.toList.take 32) 160) ++ 45 :: (s.extract 33 s.size).data.toList).toArray⟩ : ByteArray) = s := by
  simp only [parseOk, Bool.and_eq_true, decide_eq_true_eq, beq_iff_eq] at h
  obtain ⟨h34, h45, hn, hh⟩ := h
  refine ⟨by rw [cut_drop]; exact hn, ?_⟩
  apply ByteArray.ext
  apply Array.toList_inj.1
  rw [letL_hashL _ hh, cut_drop]
  show s.data.toList.take 32 ++ 45 :: s.data.toList.drop 33 = s.data.toList
  have e : (45 : UInt8) :: s.data.toList.drop 33 = s.data.toList.drop 32 := by
    rw [List.drop_eq_getElem_cons (show 32 < s.data.toList.length by omega)]
    congr 1
    rw [List.getD_eq_getElem?_getD, List.getElem?_eq_getElem (show 32 < s.data.toList.length by omega), Option.getD_some] at h45
    exact h45.symm
  rw [e, List.take_append_drop]
end Go.Proofs.Ytdmlalnekjihfaa
