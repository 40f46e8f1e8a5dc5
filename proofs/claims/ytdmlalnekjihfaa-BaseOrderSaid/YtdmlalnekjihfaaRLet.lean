/- Contracts of the document's own: spenceref03.bit, Letters, value. -/
import Derived.Test.YtdmlalnekjihfaaLet
import Derived.Test.YtdmlalnekjihfaaArr
namespace Go.Proofs.Ytdmlalnekjihfaa
open Go.RowKit Go.ChangeShapes
set_option linter.unusedVariables false

theorem bit_val (x r : Nat) : ((x : Int) / 2 ^ r).tmod 2 = ((x / 2 ^ r % 2 : Nat) : Int) := by
  have e : (x : Int) / 2 ^ r = ((x / 2 ^ r : Nat) : Int) := by simp
  rw [e]
  generalize x / 2 ^ r = n
  rw [Int.tmod_eq_emod_of_nonneg (by omega)]
  omega
theorem abc_get (i : Nat) (h : i < (⟨#[48, 49, 50, 51, 52, 53, 54, 55, 56, 57, 97, 98, 99, 100, 102, 103, 104, 105, 106, 107, 108, 109, 110, 112, 113, 114, 115, 118, 119, 120, 121, 122]⟩ : ByteArray).size) : (⟨#[48, 49, 50, 51, 52, 53, 54, 55, 56, 57, 97, 98, 99, 100, 102, 103, 104, 105, 106, 107, 108, 109, 110, 112, 113, 114, 115, 118, 119, 120, 121, 122]⟩ : ByteArray)[i] = abc.getD i 0 := by
  have hi : i < abc.length := h
  rw [List.getD_eq_getElem?_getD, List.getElem?_eq_getElem hi]
  rfl

set_option maxHeartbeats 1000000 in
theorem rbit_any (H : List UInt8) (hH : H.length = 20) (i : Nat) (hi : i < 160) (w : World) :
    Calls Try.prog 29 #[.agg (H.map bv).toArray, .int .i64 i] w fun e w' => e = .returned (.int .i64 (bitN H i)) ∧ Fr (fun _ => False) w w' := by
  obtain ⟨C, hC⟩ : ∃ C, C = (H.map bv).toArray := ⟨_, rfl⟩
  have hB := (show BytT (w.alloc (.cells C 23)) w.heap.size 23 H by rw [hC]; exact heap_alloc_new w _)
  obtain ⟨q, hq⟩ : ∃ q, q = i / 8 := ⟨_, rfl⟩
  obtain ⟨r, hr⟩ : ∃ r, r = i % 8 := ⟨_, rfl⟩
  have hq20 : q < 20 := by omega
  have hr8 : r < 8 := by omega
  have c1 := hB.cell q (by omega)
  obtain ⟨x, hx⟩ : ∃ x, x = (H.getD q 0).toNat := ⟨_, rfl⟩
  rw [← hx] at c1
  have hx256 : x < 256 := by rw [hx]; exact UInt8.toNat_lt _
  have HV := Lib.hid (show bitN H i = x / 2 ^ r % 2 by rw [bitN, ← hq, ← hr, ← hx])
  have eq1 : (i : Int) / 8 = (q : Int) := by omega
  have eq2 : (i : Int).tdiv 8 = (q : Int) := by rw [Int.tdiv_eq_ediv_of_nonneg (by omega)]; exact eq1
  have er1 : (i : Int) % 8 = (r : Int) := by omega
  have er2 : (i : Int).tmod 8 = (r : Int) := by rw [Int.tmod_eq_emod_of_nonneg (by omega)]; exact er1
  have bq : (q : Int) < 20 := by omega
  have bq0 : (0 : Int) ≤ (q : Int) := by omega
  rw [← hC]
  rw [HV.out]
  clear hB hx hq hr hC
  go_enter Try.func29, Try.ntmps29
  go_wp2
  go_ret
  exact ⟨ret_int (bit_val x r), (Fr.refl _ _).alloc _⟩

set_option maxHeartbeats 1000000 in
theorem rvalue_any (c : UInt8) (w : World) :
    Calls Try.prog 26 #[.int .u8 c.toNat] w fun e w' => e = .returned (.int .i64 (valI c)) ∧ w = w' := by
  go_enter Try.func26, Try.ntmps26
  go_wp2
  go_loop [3] (fun iv => ∃ i : Nat, i ≤ 32 ∧ iv = .int .i64 i ∧ Hid (valL (abc.drop i) i c = valI c)) (fun iv => 32 - (intOf iv).toNat)
  case atStart => exact ⟨0, by omega, rfl, Lib.hid rfl⟩
  case round =>
    obtain ⟨i, hi, rfl, hV⟩ := hrel
    by_cases hlt : i < 32
    · have hst := valL_step i c hlt
      obtain ⟨y, hy⟩ : ∃ y, y = abc.getD i 0 := ⟨_, rfl⟩
      rw [← hy] at hst
      have hi0 : (0 : Int) ≤ (i : Int) := by omega
      have hi1 : (i : Int) < 32 := by omega
      have hg := fun h => abc_get i h
      rw [← hy] at hg
      have HST := hV.out.symm.trans hst
      clear hst hy hV
      by_cases hyc : y = c
      · have hyt : ((y.toNat : Int) == (c.toNat : Int)) = true := by rw [hyc]; simp
        rw [if_pos hyc] at HST
        have HS1 := Lib.hid HST
        clear hyc HST
        go_wp2_with fail
        go_ret
        exact ⟨ret_int HS1.out.symm, rfl⟩
      · have hyt : ((y.toNat : Int) == (c.toNat : Int)) = false := by
          rw [beq_eq_false_iff_ne]
          intro h
          exact hyc (UInt8.toNat_inj.1 (by omega))
        rw [if_neg hyc] at HST
        have HS1 := Lib.hid HST
        clear hyc HST
        go_wp2_with fail
        go_round
        case rel => exact ⟨i + 1, by omega, by go_num, Lib.hid HS1.out.symm⟩
        case measure => simp [intOf]; omega
    · have HE := Lib.hid (show valI c = -1 by
        have h := hV.out
        obtain rfl : i = 32 := by omega
        rw [← h]
        rfl)
      clear hV
      go_wp2_with fail
      go_ret
      exact ⟨ret_int HE.out.symm, rfl⟩
end Go.Proofs.Ytdmlalnekjihfaa
