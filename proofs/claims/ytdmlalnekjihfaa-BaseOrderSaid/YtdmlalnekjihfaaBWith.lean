/- Contract of base.withValue: a hash with one letter more. -/
import Derived.Test.YtdmlalnekjihfaaBPlace
import Derived.Test.YtdmlalnekjihfaaRHash
namespace Go.Proofs.Ytdmlalnekjihfaa
open Go.RowKit Go.ChangeShapes
set_option linter.unusedVariables false

theorem i64_and1 (n : Nat) (h : n < 2 ^ 63) : bits .and .i64 (n : Int) 1 = ((n % 2 : Nat) : Int) := by
  have := bits_mask .i64 63 (by decide) wraps_i64 1 (by decide) (n : Int) (by omega) (by exact_mod_cast h)
  simpa using this
theorem byte_or (x b r : Nat) (hx : x < 2 ^ r) (hb : b < 2) (hr : r < 8) : bits .or .u8 (x : Int) ((b * 2 ^ r : Nat) : Int) = ((x + b * 2 ^ r : Nat) : Int) := by
  have h5 : 2 ^ r ≤ 2 ^ 7 := Nat.pow_le_pow_right (by decide) (by omega)
  have h6 : b * 2 ^ r ≤ 1 * 2 ^ r := Nat.mul_le_mul_right _ (by omega)
  rw [u8_or_nat _ _ (by omega) (by omega), Nat.mul_comm b, Nat.or_comm, ← Nat.two_pow_add_eq_or_of_lt hx b, Nat.add_comm]

set_option maxRecDepth 100000 in
set_option maxHeartbeats 4000000 in
theorem withValue_any (S : List UInt8) (i n : Nat) (hi : i < 32) (hn : n < 32) (hS : valN (S.getD i 0) = n) (w : World) :
    Calls Try.prog 25 #[.agg ((hashL S (5 * i)).map bv).toArray, .int .i64 i, .int .i64 n] w fun e w' => e = .returned (.agg ((hashL S (5 * (i + 1))).map bv).toArray) ∧ Fr (fun _ => False) w w' := by
  obtain ⟨C, hC⟩ : ∃ C, C = ((hashL S (5 * i)).map bv).toArray := ⟨_, rfl⟩
  obtain ⟨W, hW⟩ : ∃ W, W = (w.alloc (.cells C 23)).alloc (.cells ((List.replicate 20 (0 : UInt8)).map bv).toArray 23) := ⟨_, rfl⟩
  have H0 := Lib.hid (show Fr (fun _ => False) w W ∧ BytT W w.heap.size 23 (hashL S (5 * i)) ∧ BytT W (w.heap.size + 1) 23 (List.replicate 20 0) by
    rw [hW, hC]
    exact ⟨((Fr.refl _ _).alloc _).alloc _, heap_alloc2_old w _ _, heap_alloc2_new w _ _⟩)
  have HPL := Lib.hid (fun b (hb : b < 5) W => place_any i b hi hb W)
  have HS := Lib.hid hS
  have HW := Lib.hid (show (w.alloc (.cells C 23)).alloc (.cells #[.int .u8 0, .int .u8 0, .int .u8 0, .int .u8 0, .int .u8 0, .int .u8 0, .int .u8 0, .int .u8 0, .int .u8 0, .int .u8 0, .int .u8 0, .int .u8 0, .int .u8 0, .int .u8 0, .int .u8 0, .int .u8 0, .int .u8 0, .int .u8 0, .int .u8 0, .int .u8 0] 23) = W by rw [hW]; rfl)
  rw [← hC]
  clear hC hW hS
  go_enter Try.func25, Try.ntmps25
  go_wp2_with fail
  rw [HW.out]
  clear HW
  go_loopw [10] (fun kv wr => ∃ k : Nat, k ≤ 5 ∧ kv = .int .i64 k ∧ Hid (Fr (fun _ => False) w wr ∧ BytT wr w.heap.size 23 (hashL S (5 * i + k)) ∧ BytT wr (w.heap.size + 1) 23 (List.replicate 20 0))) (fun kv _ => 5 - (intOf kv).toNat)
  case atStart => exact ⟨0, by omega, rfl, H0⟩
  case round =>
    clear H0
    obtain ⟨k, hk, rfl, hR⟩ := hrel
    by_cases hlk : k < 5
    · have HP := HPL.out k hlk
      obtain ⟨j, hj⟩ : ∃ j, j = 5 * i + k := ⟨_, rfl⟩
      obtain ⟨q, hq⟩ : ∃ q, q = j / 8 := ⟨_, rfl⟩
      obtain ⟨r, hr⟩ : ∃ r, r = j % 8 := ⟨_, rfl⟩
      rw [← hj, ← hq, ← hr] at HP
      have HP := Lib.hid HP
      have hq20 : q < 20 := by omega
      have hr8 : r < 8 := by omega
      have hbit : hashBit S j = n / 2 ^ k % 2 := by
        rw [hashBit, show j / 5 = i by omega, show j % 5 = k by omega, HS.out]
      have hb2 := hashBit_lt S j
      have HR := Lib.hid (show Fr (fun _ => False) w wr ∧ BytT wr w.heap.size 23 (hashL S j) ∧ BytT wr (w.heap.size + 1) 23 (List.replicate 20 0) by rw [hj]; exact hR.out)
      have HJ := Lib.hid (And.intro hj (And.intro hq hr))
      obtain ⟨b, hb⟩ : ∃ b, b = hashBit S j := ⟨_, rfl⟩
      rw [← hb] at hbit hb2
      have HB := Lib.hid hb
      have hnk : n / 2 ^ k < 32 := Nat.lt_of_le_of_lt (Nat.div_le_self _ _) hn
      have e1 : bits .and .i64 ((n : Int) / 2 ^ k) 1 = (b : Int) := by
        have h := i64_and1 (n / 2 ^ k) (by omega)
        rw [← hbit] at h
        rw [← h]
        push_cast
        rfl
      have e2 : IntKind.u8.wrap (b : Int) = (b : Int) := by rw [IntKind.wrap_u8]; omega
      obtain ⟨x, hx⟩ : ∃ x, x = hB S j q := ⟨_, rfl⟩
      obtain ⟨z, hz⟩ : ∃ z : Nat, z = b * 2 ^ r := ⟨_, rfl⟩
      have hxp : x < 2 ^ r := by rw [hx, HJ.out.2.1, HJ.out.2.2]; exact hB_at S j
      have hz128 : z ≤ 128 := by
        have h5 : 2 ^ r ≤ 2 ^ 7 := Nat.pow_le_pow_right (by decide) (by omega)
        have h6 : b * 2 ^ r ≤ 1 * 2 ^ r := Nat.mul_le_mul_right _ (by omega)
        omega
      have e3 : (b : Int) * 2 ^ r = (z : Int) := by rw [hz]; push_cast; rfl
      have e4 : IntKind.u8.wrap (z : Int) = (z : Int) := by rw [IntKind.wrap_u8]; omega
      have e5 := byte_or x b r hxp hb2 hr8
      rw [← hz] at e5
      have cj := HR.out.2.1.cell q (by rw [hashL_length]; exact hq20)
      rw [hashL_get S j q hq20, ← hx] at cj
      have fj := HR.out.2.1.free q
      have hxz : x + z < 256 := by
        have h := hB_lt S (j + 1) q
        rw [hB_succ, if_pos HJ.out.2.1, ← hx, ← HJ.out.2.2, ← hb, ← hz] at h
        exact h
      have HST := Lib.hid (show BytT (wr.drew.setCell ⟨w.heap.size, q, none⟩ (.int .u8 ((x + z : Nat) : Int))) w.heap.size 23 (hashL S (5 * i + (k + 1))) by
        rw [show 5 * i + (k + 1) = j + 1 by have := HJ.out.1; omega, ← hashL_set S j (x + z) (by rw [hz, hx, hb, HJ.out.2.1, HJ.out.2.2]), ← HJ.out.2.1]
        have h : BytT wr.drew w.heap.size 23 (hashL S j) := HR.out.2.1
        exact h.set_ q _ _ (by rw [UInt8.toNat_ofNat']; omega))
      have bq : (q : Int) < 20 := by omega
      have bq0 : (0 : Int) ≤ (q : Int) := by omega
      have tnq : (q : Int).toNat = q := by omega
      have sr8 : (r : Int) < 8 := by omega
      have sr0 : (0 : Int) ≤ (r : Int) := by omega
      have tnr : (r : Int).toNat = r := by omega
      have sk8 : (k : Int) < 64 := by omega
      have sk0 : (0 : Int) ≤ (k : Int) := by omega
      have tnk : (k : Int).toNat = k := by omega
      clear hbit hb hx hz hj hq hr hR hxp
      go_wp2_with (go_at_call 34; refine (HP.out _).mono ?_; rintro e w2 ⟨rfl, rfl⟩)
      go_still_tail 12, (by kernel_rfl)
      go_wp2
      go_roundw
      case rel =>
        have hf : ∀ v, Fr (fun i => i = w.heap.size) wr (wr.drew.setCell ⟨w.heap.size, q, none⟩ v) := fun v => (Fr.refl (fun i => i = w.heap.size) wr).drew.setCell (p := ⟨w.heap.size, q, none⟩) (.inl rfl) v
        exact ⟨k + 1, by omega, by go_num, Lib.hid ⟨HR.out.1.drew.setCell (.inr (by simp)) _, HST.out, HR.out.2.2.keep (hf _) (by omega)⟩⟩
      case measure => simp [intOf]; omega
    · have hk5 : k = 5 := by omega
      obtain ⟨X, hX⟩ : ∃ X, X = ((hashL S (5 * (i + 1))).map bv).toArray := ⟨_, rfl⟩
      obtain ⟨Z, hZ⟩ : ∃ Z, Z = ((List.replicate 20 (0 : UInt8)).map bv).toArray := ⟨_, rfl⟩
      have hr1 : wr.heap[w.heap.size]? = some (.cells X 23 (0, 0)) := by
        have h := hR.out.2.1
        rw [show 5 * i + k = 5 * (i + 1) by omega] at h
        rw [hX]
        exact h
      have hr2 : wr.heap[w.heap.size + 1]? = some (.cells Z 23 (0, 0)) := by rw [hZ]; exact hR.out.2.2
      have hs1 : X.size = 20 := by rw [hX]; simp [hashL_length]
      have hs2 : Z.size = X.size := by rw [hs1, hZ]; simp
      have hii : (Try.prog.info? 23).map (·.size) = some X.size := by rw [hs1]; kernel_rfl
      have hone : X.all (·.oneCell') = true := by rw [hX]; exact row_one _
      have HF := Lib.hid hR.out.1
      have HX := Lib.hid hX
      have hkd : decide ((k : Int) < 5) = false := by rw [decide_eq_false_iff_not]; omega
      clear hX hZ hR hk5
      go_wp2_with (first
        | (with_reducible refine wpList_load_row rfl 23 (.tmp 3) rfl w.heap.size rfl 23 X (0, 0) _ hr1 Try.underlying23 rfl hii ?_)
        | (with_reducible refine wpList_store_row rfl 23 (.tmp 6) (.tmp 32) rfl (w.heap.size + 1) X Z 23 rfl rfl hr2 hii hs2 hone ?_))
      refine bodyPost_ret (results_cell_row rfl _ _ (w.heap.size + 1) 23 X (0, 0) _ rfl (setRow_heap _ _ _ _ _ _ hr2) Try.underlying23 rfl hii) rfl ⟨by rw [HX.out], HF.out.setRow (.inr (by omega)) _⟩
end Go.Proofs.Ytdmlalnekjihfaa
