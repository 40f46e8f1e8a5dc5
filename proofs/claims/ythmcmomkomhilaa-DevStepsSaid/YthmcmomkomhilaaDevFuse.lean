/- Contract: DevFuse. -/
import Derived.Test.YthmcmomkomhilaaAwake4
namespace Go.Proofs.Ythmcmomkomhilaa
open Go.RowKit Go.ChangeShapes
set_option linter.unusedVariables false

theorem Dv.fuse_up {d : Dv} {n : Int} (h : d.down = false) : d.fuse n = (0, { d with left := n.toNat }) := by unfold Dv.fuse; rw [if_neg (by rw [h]; decide)]
theorem Dv.wake_up {d : Dv} {k : Int} (h : d.down = true) : d.wake k = (0, { d with all := wakeL (bitOf k) 0 d.waits d.all, waits := [], left := 0, down := false }) := by unfold Dv.wake; rw [if_pos h]
theorem run_stat3 (w : World) (a b c d : Value) : (Instr.field 46 (.agg #[a, b, c, d]) 3).run Try.prog w = .ok d w := by kernel_rfl
theorem run_stat2 (w : World) (a b c d : Value) : (Instr.field 46 (.agg #[a, b, c, d]) 2).run Try.prog w = .ok c w := by kernel_rfl
theorem run_stat1 (w : World) (a b c d : Value) : (Instr.field 46 (.agg #[a, b, c, d]) 1).run Try.prog w = .ok b w := by kernel_rfl
/-- Where the first loop stands. -/
structure FuA (w wr : World) (g n i : Nat) : Prop where
  ex : ∃ d, Dev1 w wr g 1 d ∧ (i ≤ n → d.down = false ∧ d.left = n + 1 - i ∧ d.deeds = i - 1 ∧ d.waits.length ≤ i - 1) ∧ (i = n + 1 → d.down = true ∧ d.deeds = n - 1 ∧ d.waits.length ≤ n)
/-- Where the second one stands. -/
structure FuB (w wr : World) (g n j : Nat) : Prop where
  ex : ∃ d, Dev1 w wr g 1 d ∧ d.down = false ∧ d.left = 0 ∧ d.deeds = n - 1 + j ∧ d.waits.length = j
/-- A deed of the first loop, by a flush. -/
theorem fuFlush (w wr : World) (g n i : Nat) (hi : 1 ≤ i) (hin : i ≤ n) (hn : n ≤ 150) (h : FuA w wr g n i) :
    Calls Try.prog 16 #[.pointer (some ⟨g, 0, none⟩)] wr fun e w' => e = .returned (.int .i64 (if i = n then 10 else 0)) ∧ FuA w w' g n (i + 1) := by
  obtain ⟨d, h1, h2, _⟩ := h.ex
  obtain ⟨a1, a2, a3, a4⟩ := h2 hin
  refine (cFlush w wr g 1 d (by omega) (by omega) h1).mono ?_
  rintro e w' ⟨rfl, hd⟩
  by_cases e1 : i = n
  · rw [Dv.flush_out a1 (by omega)] at hd ⊢
    rw [if_pos e1]
    exact ⟨rfl, ⟨_, hd, fun h => by omega, fun _ => ⟨rfl, by simp only; omega, by simp only; omega⟩⟩⟩
  · rw [Dv.flush_ok a1 (by omega)] at hd ⊢
    rw [if_neg e1]
    exact ⟨rfl, ⟨_, hd, fun h => ⟨a1, by simp only; omega, by simp only; omega, by simp⟩, fun h => by omega⟩⟩
theorem fuWrite (w wr : World) (g n i : Nat) (x : UInt8) (hi : 1 ≤ i) (hin : i ≤ n) (hn : n ≤ 150) (h : FuA w wr g n i) :
    Calls Try.prog 14 #[.pointer (some ⟨g, 0, none⟩), .int .i64 0, .slice (some ⟨wr.heap.size, 0, none⟩) 1 1] (wr.alloc (.cells #[.int .u8 x.toNat] 5)) fun e w' => e = .returned (.int .i64 (if i = n then 10 else 0)) ∧ FuA w w' g n (i + 1) := by
  obtain ⟨d, h1, h2, _⟩ := h.ex
  obtain ⟨a1, a2, a3, a4⟩ := h2 hin
  refine (cWrite1 w wr g 1 d 0 x (by decide) (by decide) (by omega) (by omega) h1).mono ?_
  rintro e w' ⟨rfl, hd⟩
  have h0 : ¬ ((0 : Int) < 0 ∨ ((1 : Nat) : Int) ≤ 0 ∨ 64 < [x].length) := by simp
  by_cases e1 : i = n
  · rw [Dv.write_out a1 h0 (by omega)] at hd ⊢
    rw [if_pos e1]
    exact ⟨rfl, ⟨_, hd, fun h => by omega, fun _ => ⟨rfl, by simp only; omega, by simp only; omega⟩⟩⟩
  · rw [Dv.write_ok a1 h0 (by omega)] at hd ⊢
    rw [if_neg e1]
    exact ⟨rfl, ⟨_, hd, fun h => ⟨a1, by simp only; omega, by simp only; omega, by simp; omega⟩, fun h => by omega⟩⟩
theorem fuMore (w wr : World) (g n j : Nat) (hj : j ≤ 150) (hn : n ≤ 150) (h : FuB w wr g n j) :
    Calls Try.prog 14 #[.pointer (some ⟨g, 0, none⟩), .int .i64 0, .slice none 0 0] wr fun e w' => e = .returned (.int .i64 0) ∧ FuB w w' g n (j + 1) := by
  obtain ⟨d, h1, a1, a2, a3, a4⟩ := h.ex
  refine (cWrite (G := fun _ => False) w wr g 1 d 0 _ [] (by decide) (by decide) (by omega) (by omega) (BytesIn.nil _ _) (fun _ h => h.elim) h1).mono ?_
  rintro e w' ⟨rfl, hd⟩
  have h0 : ¬ ((0 : Int) < 0 ∨ ((1 : Nat) : Int) ≤ 0 ∨ 64 < ([] : List UInt8).length) := by simp
  rw [Dv.write_ok a1 h0 (by omega)] at hd ⊢
  exact ⟨rfl, ⟨_, hd, a1, by simp only; omega, by simp only; omega, by simp; omega⟩⟩

set_option maxRecDepth 100000 in
set_option maxHeartbeats 4000000 in
theorem devFuse_any (n0 m0 : Int) (w : World) (hn1 : -9223372036854775808 ≤ n0) (hn2 : n0 ≤ 9223372036854775807) (hm1 : -9223372036854775808 ≤ m0) (hm2 : m0 ≤ 9223372036854775807) :
    Calls Try.prog 6 #[.int .i64 n0, .int .i64 m0] w fun e w' => e = .returned (.bool true) ∧ Fr (fun _ => False) w w' := by
  have HA := Lib.hid (awake_any w)
  by_cases g1 : n0 < 1
  · go_enter Try.func6, Try.ntmps6
    go_wp2_with (go_at_call 8; refine HA.out.mono ?_; rintro e w1 ⟨rfl, hf⟩; (have HF := Lib.hid hf); clear hf)
    go_ret
    exact ⟨rfl, HF.out⟩
  by_cases g2 : 150 < n0
  · have d1 : decide (n0 < 1) = false := by rw [decide_eq_false_iff_not]; exact g1
    go_enter Try.func6, Try.ntmps6
    go_wp2_with (go_at_call 8; refine HA.out.mono ?_; rintro e w1 ⟨rfl, hf⟩; (have HF := Lib.hid hf); clear hf)
    go_ret
    exact ⟨rfl, HF.out⟩
  have d1 : decide (n0 < 1) = false := by rw [decide_eq_false_iff_not]; exact g1
  have d2 : decide (150 < n0) = false := by rw [decide_eq_false_iff_not]; exact g2
  by_cases g3 : m0 < 0
  · go_enter Try.func6, Try.ntmps6
    go_wp2_with (go_at_call 8; refine HA.out.mono ?_; rintro e w1 ⟨rfl, hf⟩; (have HF := Lib.hid hf); clear hf)
    go_ret
    exact ⟨rfl, HF.out⟩
  have d3 : decide (m0 < 0) = false := by rw [decide_eq_false_iff_not]; exact g3
  by_cases g4 : 150 < m0
  · go_enter Try.func6, Try.ntmps6
    go_wp2_with (go_at_call 8; refine HA.out.mono ?_; rintro e w1 ⟨rfl, hf⟩; (have HF := Lib.hid hf); clear hf)
    go_ret
    exact ⟨rfl, HF.out⟩
  have d4 : decide (150 < m0) = false := by rw [decide_eq_false_iff_not]; exact g4
  obtain ⟨n, rfl⟩ : ∃ n : Nat, n0 = n := ⟨n0.toNat, by omega⟩
  obtain ⟨m, rfl⟩ : ∃ m : Nat, m0 = m := ⟨m0.toNat, by omega⟩
  have k1 : 1 ≤ n := by omega
  have k2 : n ≤ 150 := by omega
  have k3 : m ≤ 150 := by omega
  have HK := Lib.hid (And.intro k1 (And.intro k2 k3))
  have HNW := Lib.hid (fun W => cNew_any W 1 (by decide) (by decide))
  clear k1 k2 k3
  go_enter Try.func6, Try.ntmps6
  go_wp2_with (first
    | (go_at_call 8; refine HA.out.mono ?_; rintro e w1 ⟨rfl, hf⟩; (have HF := Lib.hid hf); clear hf)
    | (go_at_call 9; refine (HNW.out _).mono ?_; rintro e w2 ⟨g, rfl, hd⟩; (have HFU := Lib.hid (cFuse w1 w2 g 1 _ n (by omega) (by omega) hd)); clear hd)
    | (go_at_call 22; refine HFU.out.mono ?_; rintro e w3 ⟨he, hd⟩; obtain rfl := he.trans (ret_int (show _ = (0 : Int) from rfl)); (have HD3 := Lib.hid (show FuA w1 w3 g n 1 from ⟨_, hd, fun _ => ⟨rfl, by show (n : Int).toNat = _; omega, rfl, Nat.le_refl _⟩, fun h => by have := HK.out.1; omega⟩)); clear hd he HFU))
  --LOOP1
  go_loopw [7] (fun iv wr => ∃ i : Nat, 1 ≤ i ∧ i ≤ n + 1 ∧ iv = .int .i64 i ∧ Hid (FuA w1 wr g n i)) (fun iv _ => n + 1 - (intOf iv).toNat)
  case atStart => exact ⟨1, Nat.le_refl _, by omega, rfl, HD3⟩
  case round =>
    clear HD3
    obtain ⟨i, hi1, hi, rfl, hR⟩ := hrel
    by_cases hlt : i ≤ n
    · have hle : decide ((i : Int) ≤ (n : Int)) = true := by rw [decide_eq_true_iff]; omega
      have hle2 : (i : Int) ≤ (n : Int) := by omega
      have hn1i : i ≤ 150 := by have := HK.out.2.1; omega
      have hr : ((i : Int)).tmod 3 = ((i % 3 : Nat) : Int) := rfl
      obtain ⟨r, hrr⟩ : ∃ r, r = i % 3 := ⟨_, rfl⟩
      rw [← hrr] at hr
      have HFL := Lib.hid (fuFlush w1 wr g n i hi1 hlt HK.out.2.1 hR.out)
      obtain ⟨x, hx⟩ : ∃ x : UInt8, IntKind.u8.wrap (i : Int) = (x.toNat : Int) := ⟨UInt8.ofNat i, by rw [UInt8.toNat_ofNat']; simp [IntKind.wrap, IntKind.bits, IntKind.signed]⟩
      have HWR := Lib.hid (fuWrite w1 wr g n i x hi1 hlt HK.out.2.1 hR.out)
      clear hR
      by_cases hr0 : r = 0
      · have hrz : ((r : Int) == 0) = true := by rw [beq_iff_eq]; omega
        clear hrr
        by_cases e1 : i = n
        · have hl : decide ((i : Int) < (n : Int)) = false := by rw [decide_eq_false_iff_not]; omega
          have hlN : decide (i < n) = false := by rw [decide_eq_false_iff_not]; omega
          have hl3 : ¬ (i : Int) < (n : Int) := by omega
          have hl4 : (n : Int) ≤ (i : Int) := by omega
          rw [if_pos e1] at HFL
          have E1 := Lib.hid e1
          clear e1 hr0 HWR hlt
          go_wp2_with (go_at_call 16; refine HFL.out.mono ?_; rintro e w4 ⟨rfl, hd⟩; (have HD4 := Lib.hid hd); clear hd)
          go_roundw
          case rel => exact ⟨i + 1, by omega, by have := E1.out; omega, by go_num, HD4⟩
          case measure => simp [intOf]; omega
        · have hl : decide ((i : Int) < (n : Int)) = true := by rw [decide_eq_true_iff]; omega
          have hl2 : (i : Int) < (n : Int) := by omega
          rw [if_neg e1] at HFL
          clear e1 hr0 HWR
          go_wp2_with (go_at_call 16; refine HFL.out.mono ?_; rintro e w4 ⟨rfl, hd⟩; (have HD4 := Lib.hid hd); clear hd)
          go_roundw
          case rel => exact ⟨i + 1, by omega, by have := HK.out.2.1; omega, by go_num, HD4⟩
          case measure => simp [intOf]; omega
      · have hrz : ((r : Int) == 0) = false := by rw [beq_eq_false_iff_ne]; omega
        clear hrr
        by_cases e1 : i = n
        · have hl : decide ((i : Int) < (n : Int)) = false := by rw [decide_eq_false_iff_not]; omega
          have hlN : decide (i < n) = false := by rw [decide_eq_false_iff_not]; omega
          have hl3 : ¬ (i : Int) < (n : Int) := by omega
          have hl4 : (n : Int) ≤ (i : Int) := by omega
          rw [if_pos e1] at HWR
          have E1 := Lib.hid e1
          clear e1 hr0 HFL hlt
          go_wp2_with (go_at_call 14; refine HWR.out.mono ?_; rintro e w4 ⟨rfl, hd⟩; (have HD4 := Lib.hid hd); clear hd)
          go_roundw
          case rel => exact ⟨i + 1, by omega, by have := E1.out; omega, by go_num, HD4⟩
          case measure => simp [intOf]; omega
        · have hl : decide ((i : Int) < (n : Int)) = true := by rw [decide_eq_true_iff]; omega
          have hl2 : (i : Int) < (n : Int) := by omega
          rw [if_neg e1] at HWR
          clear e1 hr0 HFL
          go_wp2_with (go_at_call 14; refine HWR.out.mono ?_; rintro e w4 ⟨rfl, hd⟩; (have HD4 := Lib.hid hd); clear hd)
          go_roundw
          case rel => exact ⟨i + 1, by omega, by have := HK.out.2.1; omega, by go_num, HD4⟩
          case measure => simp [intOf]; omega
    · have hle : decide ((i : Int) ≤ (n : Int)) = false := by rw [decide_eq_false_iff_not]; omega
      have hleN : decide (i ≤ n) = false := by rw [decide_eq_false_iff_not]; omega
      have hfld3 := run_stat3
      have hfld2 := run_stat2
      have hfld1 := run_stat1
      obtain ⟨d, hd1, _, hd3⟩ := hR.out.ex
      obtain ⟨b1, b2, b3⟩ := hd3 (by omega)
      obtain ⟨q, hq⟩ : ∃ q : Nat, q = n - 1 := ⟨_, rfl⟩
      have hqi : (n : Int) - 1 = (q : Int) := by have := HK.out.1; omega
      have HST := Lib.hid (cStat w1 wr g 1 d hd1)
      rw [b1, b2, ← hq] at HST
      have HQ := Lib.hid (And.intro b1 (And.intro b2 (And.intro b3 hq)))
      clear hR hd1 hd3 b1 b2 b3 hq hi1 hi
      go_wp2_with (first
        | (go_at_call 23; refine HST.out.mono ?_; rintro e w4 ⟨rfl, hd⟩; (have HST2 := Lib.hid (cStat w1 w4 g 1 d hd)); rw [HQ.out.1, HQ.out.2.1, ← HQ.out.2.2.2] at HST2; clear hd HST)
        | (go_at_call 23; refine HST2.out.mono ?_; rintro e w5 ⟨rfl, hd⟩; (have HWK := Lib.hid (cWake w1 w5 g 1 d 0 (by decide) (by decide) (by have := HQ.out.2.2.1; have := HK.out.2.1; omega) hd)); rw [Dv.wake_up HQ.out.1] at HWK; clear hd HST2)
        | (go_at_call 20; refine HWK.out.mono ?_; rintro e w6 ⟨rfl, hd⟩; (have HB6 := Lib.hid (show FuB w1 w6 g n 0 from ⟨_, hd, rfl, rfl, HQ.out.2.1, rfl⟩)); clear hd HWK))
      go_loopw [9] (fun iv wr => ∃ j : Nat, j ≤ m ∧ iv = .int .i64 j ∧ Hid (FuB w1 wr g n j)) (fun iv _ => m - (intOf iv).toNat)
      case atStart => exact ⟨0, by omega, rfl, HB6⟩
      case round =>
        clear HB6
        obtain ⟨j, hj, rfl, hR⟩ := hrel
        by_cases hjm : j < m
        · have hle : decide ((j : Int) < (m : Int)) = true := by rw [decide_eq_true_iff]; omega
          have hle2 : (j : Int) < (m : Int) := by omega
          have hj150 : j ≤ 150 := by have := HK.out.2.2; omega
          have HWR := Lib.hid (fuMore w1 wr g n j hj150 HK.out.2.1 hR.out)
          clear hR
          go_wp2_with (go_at_call 14; refine HWR.out.mono ?_; rintro e w7 ⟨rfl, hd⟩; (have HD7 := Lib.hid hd); clear hd)
          go_roundw
          case rel => exact ⟨j + 1, by omega, by go_num, HD7⟩
          case measure => simp [intOf]; omega
        · have hle : decide ((j : Int) < (m : Int)) = false := by rw [decide_eq_false_iff_not]; omega
          have hleN2 : decide (j < m) = false := by rw [decide_eq_false_iff_not]; omega
          obtain ⟨d2, hd1, c1, c2, c3, c4⟩ := hR.out.ex
          have hjm2 : j = m := by omega
          obtain ⟨t, ht⟩ : ∃ t, t = q + m := ⟨_, rfl⟩
          have hdm : d2.deeds = t := by rw [c3, ← HQ.out.2.2.2, hjm2, ht]
          have HST := Lib.hid (cStat w1 _ g 1 d2 hd1)
          rw [hdm, c4, hjm2] at HST
          have HE := Lib.hid (And.intro hdm (And.intro (c4.trans hjm2) hd1))
          have hqm : (q : Int) + (m : Int) = (t : Int) := by omega
          have ht300 : t ≤ 300 := by have := HK.out.2; have := HQ.out.2.2.2; omega
          clear hR hd1 hdm c1 c2 c3 c4 hjm2 ht
          go_wp2_with (first
            | (go_at_call 23; refine HST.out.mono ?_; rintro e w8 ⟨rfl, hd⟩; (have HST2 := Lib.hid (cStat w1 w8 g 1 d2 hd)); rw [HE.out.1, HE.out.2.1] at HST2; clear hd HST)
            | (go_at_call 23; refine HST2.out.mono ?_; rintro e w9 ⟨rfl, hd⟩; (have HF9 := Lib.hid hd.fr); clear hd HST2))
          go_ret
          exact ⟨rfl, HF.out.trans HF9.out (fun _ h => h.elim)⟩
end Go.Proofs.Ythmcmomkomhilaa
