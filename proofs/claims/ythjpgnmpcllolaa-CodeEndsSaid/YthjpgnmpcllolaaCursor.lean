/- Contracts of code.Cursor. -/
import Derived.Test.YthjpgnmpcllolaaKit
import Derived.Test.YthjpgnmpcllolaaNum
import Derived.Test.YthjpgnmpcllolaaBits
namespace Go.Proofs.Ythjpgnmpcllolaa
open Go.RowKit Go.ChangeShapes
set_option linter.unusedVariables false

/-- Is it a number? Not unfolded by a walk. -/
def isNumB (n : Int) : Bool := decide (0 ≤ n ∧ n ≤ 1099511627776)
theorem isNumB_yes {n : Int} (h : 0 ≤ n) (h2 : n ≤ 1099511627776) : isNumB n = true := by simp [isNumB, h, h2]
theorem isNumB_no {n : Int} (h : n < 0 ∨ 1099511627776 < n) : isNumB n = false := by simp [isNumB]; omega

theorem isNum_any (n : Int) (w : World) :
    Calls Try.prog 51 #[.int .i64 n] w fun e w' => e = .returned (.bool (isNumB n)) ∧ w = w' := by
  by_cases h : 0 ≤ n
  · by_cases h2 : n ≤ 1099511627776
    · have HE := Lib.hid (isNumB_yes h h2)
      rw [HE.out]
      go_enter Try.func51, Try.ntmps51
      go_wp2
      go_ret
      exact ⟨rfl, rfl⟩
    · have HE := Lib.hid (isNumB_no (show n < 0 ∨ 1099511627776 < n by omega))
      rw [HE.out]
      go_enter Try.func51, Try.ntmps51
      go_wp2
      go_ret
      exact ⟨rfl, rfl⟩
  · have HE := Lib.hid (isNumB_no (show n < 0 ∨ 1099511627776 < n by omega))
    rw [HE.out]
    go_enter Try.func51, Try.ntmps51
    go_wp2
    go_ret
    exact ⟨rfl, rfl⟩

theorem numV_none {X : List UInt8} (h : numOf X = none) : numV X = 0 := by simp [numV, h]
theorem numS_none {X : List UInt8} (h : numOf X = none) : numS X = 0 := by simp [numS, h]
theorem numV_some {X : List UInt8} {v s : Nat} (h : numOf X = some (v, s)) : numV X = v := by simp [numV, h]
theorem numS_some {X : List UInt8} {v s : Nat} (h : numOf X = some (v, s)) : numS X = s := by simp [numS, h]
theorem numFrom_end {f i n k : Nat} {X : List UInt8} (h : X.length ≤ k) : numFrom f i n (X.drop k) = none := by
  rw [List.drop_eq_nil_of_le h]
  cases f <;> rfl
theorem pow_7 (k : Nat) : 128 ^ k = 2 ^ (7 * k) := by rw [Nat.pow_mul]
theorem numAt_step (m y k : Nat) (hk : k ≤ 5) (hm : m < 128 ^ k) (hy : y < 128) : y * 2 ^ (7 * k) < 2 ^ 62 ∧ bits .or .i64 (m : Int) ((y * 2 ^ (7 * k) : Nat) : Int) = ((m + y * 2 ^ (7 * k) : Nat) : Int) := by
  have h2 : 2 ^ (7 * k) ≤ 2 ^ 35 := Nat.pow_le_pow_right (by decide) (by omega)
  have h3 : y * 2 ^ (7 * k) ≤ 127 * 2 ^ 35 := Nat.mul_le_mul (by omega) h2
  rw [pow_7] at hm
  exact ⟨by omega, i64_or (7 * k) m _ hm (Nat.dvd_mul_left _ _) (by omega) (by omega)⟩
theorem wrap64_mul_of (y k : Nat) (h : y * 2 ^ (7 * k) < 2 ^ 62) : wrap64 ((y : Int) * 2 ^ (7 * k)) = (y : Int) * 2 ^ (7 * k) := by
  have e : ((y : Int) * 2 ^ (7 * k)) = ((y * 2 ^ (7 * k) : Nat) : Int) := by push_cast; rfl
  rw [e]
  exact IntWalk.wrap64_in _ ⟨by omega, by omega⟩
theorem numAt_lt {m k z mz : Nat} (hm : m < 128 ^ k) (hz : z < 2 ^ 62) (h : mz = m + z) (hk : k ≤ 5) : mz < 2 ^ 63 := by
  have : 128 ^ k ≤ 128 ^ 5 := Nat.pow_le_pow_right (by decide) hk
  omega
theorem numAt_next (m y k mz : Nat) (hm : m < 128 ^ k) (h : mz = m + y * 2 ^ (7 * k)) (hy : y < 128) : mz < 128 ^ (k + 1) := by
  rw [← pow_7] at h
  have : y * 128 ^ k ≤ 127 * 128 ^ k := Nat.mul_le_mul_right _ (by omega)
  rw [Nat.pow_succ]
  omega

set_option maxHeartbeats 4000000 in
theorem numAt_any {F : Nat → Prop} (v : Value) (X : List UInt8) (w : World) (h : BytesIn F w v X) :
    Calls Try.prog 48 #[v] w fun e w' => e = .returned (.tuple #[.int .i64 (numV X), .int .i64 (numS X)]) ∧ ∃ n, w' = w.drewN n := by
  by_cases hn : X = []
  · subst hn
    obtain ⟨ao, cap, rfl, h1, hm, _⟩ := h
    unfold maxLen at hm
    go_enter Try.func48, Try.ntmps48
    go_wp2
    refine wp_loop_rounds 1 ?_
    rw [rounds_succ]
    go_wp2
    go_ret2
    exact ⟨rfl, 0, rfl⟩
  · obtain ⟨b, off, cap, rfl, h1, hm, _, hc⟩ := h.plain hn
    obtain ⟨n, hn'⟩ : ∃ n, n = X.length := ⟨_, rfl⟩
    have hpos : 0 < n := by have := List.length_pos_iff.2 hn; omega
    rw [← hn'] at h1 ⊢
    unfold maxLen at hm
    obtain ⟨t, ht, ht6, htn⟩ : ∃ t : Nat, t = min n 6 ∧ t ≤ 6 ∧ t ≤ n := ⟨_, rfl, by omega, by omega⟩
    have hcA : ∀ j, j < n → w.cell? ⟨b, off + j, none⟩ = some (.int .u8 (X.getD j 0).toNat) := fun j hj => by
      rw [hc j (by omega)]; simp [bv, List.getD, List.getElem?_eq_getElem (show j < X.length by omega)]
    clear hc h hn
    have HN := Lib.hid hn'
    clear hn'
    by_cases h6 : n ≤ 6
    · go_enter Try.func48, Try.ntmps48
      go_wp2
      go_loopw [2, 12] (fun r i wr => ∃ k m : Nat, k ≤ n ∧ i = .int .i64 k ∧ r = .int .i64 m ∧ Hid (m < 128 ^ k) ∧ Hid (numOf X = numFrom (6 - k) k m (X.drop k)) ∧ ∃ d, wr = w.drewN d) (fun _ i _ => n - (intOf i).toNat)
      case atStart => exact ⟨0, 0, by omega, rfl, rfl, Lib.hid (by simp), Lib.hid rfl, 0, rfl⟩
      case round =>
        obtain ⟨k, m, hk, rfl, rfl, hmk, heq, d, rfl⟩ := hrel
        by_cases hlt : k < n
        · have h0 := hcA k (by omega)
          obtain ⟨x, hx⟩ : ∃ x, x = X.getD k 0 := ⟨_, rfl⟩
          rw [← hx] at h0
          have hxl := x.toNat_lt
          have hdrop : X.drop k = x :: X.drop (k + 1) := by
            rw [List.drop_eq_getElem_cons (by have := HN.out; omega), hx]; simp [List.getD, List.getElem?_eq_getElem (show k < X.length by have := HN.out; omega)]
          clear hcA hx
          have HD := Lib.hid hdrop
          clear hdrop
          obtain ⟨y, e1, hy⟩ : ∃ y : Nat, bits .and .u8 (x.toNat : Int) 127 = (y : Int) ∧ y = x.toNat % 128 := ⟨_, u8_and127 x, rfl⟩
          have hy1 : y < 128 := by omega
          obtain ⟨hz1, e3⟩ := numAt_step m y k (by omega) hmk.out hy1
          obtain ⟨z, hz⟩ : ∃ z, z = y * 2 ^ (7 * k) := ⟨_, rfl⟩
          rw [← hz] at hz1 e3
          have e2 : wrap64 ((y : Int) * 2 ^ (7 * k)) = (z : Int) := by
            rw [hz]; push_cast; exact wrap64_mul_of y k (by rw [← hz]; exact hz1)
          obtain ⟨mz, hmz⟩ : ∃ mz, mz = m + z := ⟨_, rfl⟩
          rw [← hmz] at e3
          have HZ := Lib.hid (show mz = m + x.toNat % 128 * 128 ^ k by rw [hmz, hz, hy, Nat.pow_mul])
          have hmz63 : mz < 2 ^ 63 := numAt_lt hmk.out hz1 hmz (by omega)
          have hstep := Lib.hid (numAt_next m y k mz hmk.out (by rw [hmz, hz]) hy1)
          clear hz1 hz hmz hy hmk
          by_cases h128 : 128 ≤ x.toNat
          · have e4 := u8_and128_hi x h128
            have heq1 := Lib.hid (show numOf X = numFrom (6 - (k + 1)) (k + 1) mz (X.drop (k + 1)) by
              rw [heq.out, HD.out, show 6 - k = (6 - (k + 1)) + 1 by omega, numFrom, if_pos h128, HZ.out])
            clear heq HD HZ h128
            go_wp2_with fail
            go_roundw
            case rel => exact ⟨k + 1, mz, by omega, by go_num, rfl, hstep, heq1, d, rfl⟩
            case measure => simp [intOf]; omega
          · have e4 := u8_and128_lo x (by omega)
            have heq1 := Lib.hid (show numOf X = if (0 < k ∧ x.toNat = 0) ∨ 1099511627776 < mz then none else some (mz, k + 1) by
              rw [heq.out, HD.out, show 6 - k = (5 - k) + 1 by omega, numFrom, if_neg h128, HZ.out])
            clear heq HD HZ h128
            by_cases hz : 0 < k ∧ x.toNat = 0
            · have hfin := Lib.hid (show numOf X = none by rw [heq1.out, if_pos (.inl hz)])
              obtain ⟨hk0, hx0⟩ := hz
              have hx0' : ((x.toNat : Int) == 0) = true := by simp; omega
              clear heq1 hx0
              go_wp2_with fail
              go_ret2
              exact ⟨by rw [numV_none hfin.out, numS_none hfin.out]; rfl, d, rfl⟩
            · by_cases hbig : 1099511627776 < mz
              · have hfin := Lib.hid (show numOf X = none by rw [heq1.out, if_pos (.inr hbig)])
                have hb : isNumB (mz : Int) = false := isNumB_no (by omega)
                clear heq1
                by_cases hk0 : 0 < k
                · have hx0' : ((x.toNat : Int) == 0) = false := by simp; omega
                  clear hz
                  go_wp2_with (go_at_call 51; refine (isNum_any _ _).mono ?_; rintro e w' ⟨rfl, rfl⟩)
                  go_ret2
                  exact ⟨by rw [numV_none hfin.out, numS_none hfin.out]; rfl, d, rfl⟩
                · clear hz
                  go_wp2_with (go_at_call 51; refine (isNum_any _ _).mono ?_; rintro e w' ⟨rfl, rfl⟩)
                  go_ret2
                  exact ⟨by rw [numV_none hfin.out, numS_none hfin.out]; rfl, d, rfl⟩
              · have hfin := Lib.hid (show numOf X = some (mz, k + 1) by rw [heq1.out, if_neg (by omega)])
                have hb : isNumB (mz : Int) = true := isNumB_yes (by omega) (by omega)
                clear heq1
                by_cases hk0 : 0 < k
                · have hx0' : ((x.toNat : Int) == 0) = false := by simp; omega
                  clear hz
                  go_wp2_with (go_at_call 51; refine (isNum_any _ _).mono ?_; rintro e w' ⟨rfl, rfl⟩)
                  go_ret2
                  exact ⟨by rw [numV_some hfin.out, numS_some hfin.out]; rfl, d, rfl⟩
                · clear hz
                  go_wp2_with (go_at_call 51; refine (isNum_any _ _).mono ?_; rintro e w' ⟨rfl, rfl⟩)
                  go_ret2
                  exact ⟨by rw [numV_some hfin.out, numS_some hfin.out]; rfl, d, rfl⟩
        · have hfin := Lib.hid (show numOf X = none by
            have hk6 : k = n := by omega
            rw [heq.out, hk6]; exact numFrom_end (by have := HN.out; omega))
          go_wp2
          go_ret2
          exact ⟨by rw [numV_none hfin.out, numS_none hfin.out]; rfl, d, rfl⟩
    · go_enter Try.func48, Try.ntmps48
      go_wp2
      go_loopw [2, 12] (fun r i wr => ∃ k m : Nat, k ≤ 6 ∧ i = .int .i64 k ∧ r = .int .i64 m ∧ Hid (m < 128 ^ k) ∧ Hid (numOf X = numFrom (6 - k) k m (X.drop k)) ∧ ∃ d, wr = w.drewN d) (fun _ i _ => 6 - (intOf i).toNat)
      case atStart => exact ⟨0, 0, by omega, rfl, rfl, Lib.hid (by simp), Lib.hid rfl, 0, rfl⟩
      case round =>
        obtain ⟨k, m, hk, rfl, rfl, hmk, heq, d, rfl⟩ := hrel
        by_cases hlt : k < 6
        · have h0 := hcA k (by omega)
          obtain ⟨x, hx⟩ : ∃ x, x = X.getD k 0 := ⟨_, rfl⟩
          rw [← hx] at h0
          have hxl := x.toNat_lt
          have hdrop : X.drop k = x :: X.drop (k + 1) := by
            rw [List.drop_eq_getElem_cons (by have := HN.out; omega), hx]; simp [List.getD, List.getElem?_eq_getElem (show k < X.length by have := HN.out; omega)]
          clear hcA hx
          have HD := Lib.hid hdrop
          clear hdrop
          obtain ⟨y, e1, hy⟩ : ∃ y : Nat, bits .and .u8 (x.toNat : Int) 127 = (y : Int) ∧ y = x.toNat % 128 := ⟨_, u8_and127 x, rfl⟩
          have hy1 : y < 128 := by omega
          obtain ⟨hz1, e3⟩ := numAt_step m y k (by omega) hmk.out hy1
          obtain ⟨z, hz⟩ : ∃ z, z = y * 2 ^ (7 * k) := ⟨_, rfl⟩
          rw [← hz] at hz1 e3
          have e2 : wrap64 ((y : Int) * 2 ^ (7 * k)) = (z : Int) := by
            rw [hz]; push_cast; exact wrap64_mul_of y k (by rw [← hz]; exact hz1)
          obtain ⟨mz, hmz⟩ : ∃ mz, mz = m + z := ⟨_, rfl⟩
          rw [← hmz] at e3
          have HZ := Lib.hid (show mz = m + x.toNat % 128 * 128 ^ k by rw [hmz, hz, hy, Nat.pow_mul])
          have hmz63 : mz < 2 ^ 63 := numAt_lt hmk.out hz1 hmz (by omega)
          have hstep := Lib.hid (numAt_next m y k mz hmk.out (by rw [hmz, hz]) hy1)
          clear hz1 hz hmz hy hmk
          by_cases h128 : 128 ≤ x.toNat
          · have e4 := u8_and128_hi x h128
            have heq1 := Lib.hid (show numOf X = numFrom (6 - (k + 1)) (k + 1) mz (X.drop (k + 1)) by
              rw [heq.out, HD.out, show 6 - k = (6 - (k + 1)) + 1 by omega, numFrom, if_pos h128, HZ.out])
            clear heq HD HZ h128
            go_wp2_with fail
            go_roundw
            case rel => exact ⟨k + 1, mz, by omega, by go_num, rfl, hstep, heq1, d, rfl⟩
            case measure => simp [intOf]; omega
          · have e4 := u8_and128_lo x (by omega)
            have heq1 := Lib.hid (show numOf X = if (0 < k ∧ x.toNat = 0) ∨ 1099511627776 < mz then none else some (mz, k + 1) by
              rw [heq.out, HD.out, show 6 - k = (5 - k) + 1 by omega, numFrom, if_neg h128, HZ.out])
            clear heq HD HZ h128
            by_cases hz : 0 < k ∧ x.toNat = 0
            · have hfin := Lib.hid (show numOf X = none by rw [heq1.out, if_pos (.inl hz)])
              obtain ⟨hk0, hx0⟩ := hz
              have hx0' : ((x.toNat : Int) == 0) = true := by simp; omega
              clear heq1 hx0
              go_wp2_with fail
              go_ret2
              exact ⟨by rw [numV_none hfin.out, numS_none hfin.out]; rfl, d, rfl⟩
            · by_cases hbig : 1099511627776 < mz
              · have hfin := Lib.hid (show numOf X = none by rw [heq1.out, if_pos (.inr hbig)])
                have hb : isNumB (mz : Int) = false := isNumB_no (by omega)
                clear heq1
                by_cases hk0 : 0 < k
                · have hx0' : ((x.toNat : Int) == 0) = false := by simp; omega
                  clear hz
                  go_wp2_with (go_at_call 51; refine (isNum_any _ _).mono ?_; rintro e w' ⟨rfl, rfl⟩)
                  go_ret2
                  exact ⟨by rw [numV_none hfin.out, numS_none hfin.out]; rfl, d, rfl⟩
                · clear hz
                  go_wp2_with (go_at_call 51; refine (isNum_any _ _).mono ?_; rintro e w' ⟨rfl, rfl⟩)
                  go_ret2
                  exact ⟨by rw [numV_none hfin.out, numS_none hfin.out]; rfl, d, rfl⟩
              · have hfin := Lib.hid (show numOf X = some (mz, k + 1) by rw [heq1.out, if_neg (by omega)])
                have hb : isNumB (mz : Int) = true := isNumB_yes (by omega) (by omega)
                clear heq1
                by_cases hk0 : 0 < k
                · have hx0' : ((x.toNat : Int) == 0) = false := by simp; omega
                  clear hz
                  go_wp2_with (go_at_call 51; refine (isNum_any _ _).mono ?_; rintro e w' ⟨rfl, rfl⟩)
                  go_ret2
                  exact ⟨by rw [numV_some hfin.out, numS_some hfin.out]; rfl, d, rfl⟩
                · clear hz
                  go_wp2_with (go_at_call 51; refine (isNum_any _ _).mono ?_; rintro e w' ⟨rfl, rfl⟩)
                  go_ret2
                  exact ⟨by rw [numV_some hfin.out, numS_some hfin.out]; rfl, d, rfl⟩
        · have hfin := Lib.hid (show numOf X = none by
            have hk6 : k = 6 := by omega
            rw [heq.out, hk6]; rfl)
          go_wp2
          go_ret2
          exact ⟨by rw [numV_none hfin.out, numS_none hfin.out]; rfl, d, rfl⟩
end Go.Proofs.Ythjpgnmpcllolaa
