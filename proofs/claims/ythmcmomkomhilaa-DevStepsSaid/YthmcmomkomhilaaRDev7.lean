/- The document's own device: Write told ErrArg, and with the fuse out; Spoil. -/
import Derived.Test.YthmcmomkomhilaaRDev6
import Derived.Test.YthmcmomkomhilaaDSpoil
namespace Go.Proofs.Ythmcmomkomhilaa
open Go.RowKit Go.ChangeShapes
set_option linter.unusedVariables false

theorem rWrite_arg (w : World) (g ga s : Nat) (vw : Value) (k l : Int) (a : Int) (ab : Option Addr) (q cb : Nat) (h : DevH w g (.slice (some ⟨ga, 0, none⟩) (64 * s) (64 * s)) vw k l false) (hs : s ≤ 8192) (hn : a < 0 ∨ (s : Int) ≤ a ∨ 64 < q) :
    Calls Try.prog 29 #[.pointer (some ⟨g, 0, none⟩), .int .i64 a, .slice ab q cb] w fun e w' => e = .returned (.int .i64 2) ∧ w = w' := by
  have HS := Lib.hid (rSectors_any w g (some ⟨ga, 0, none⟩) s (64 * s) vw k l false h hs)
  obtain ⟨_, _, _, _, c4⟩ := h.cells
  clear h
  by_cases h1 : a < 0
  · have d1 : decide (a < 0) = true := by rw [decide_eq_true_iff]; exact h1
    clear h1 hn
    go_enter Try.func29, Try.ntmps29
    go_wp2
    go_ret
    exact ⟨rfl, rfl⟩
  · have d1 : decide (a < 0) = false := by rw [decide_eq_false_iff_not]; exact h1
    by_cases h2 : (s : Int) ≤ a
    · have d2 : decide ((s : Int) ≤ a) = true := by rw [decide_eq_true_iff]; exact h2
      clear h1 h2 hn
      go_enter Try.func29, Try.ntmps29
      go_wp2_with (go_at_call 36; (with_reducible refine HS.out.mono ?_); rintro e w0 ⟨rfl, rfl⟩)
      go_ret
      exact ⟨rfl, rfl⟩
    · have d2 : decide ((s : Int) ≤ a) = false := by rw [decide_eq_false_iff_not]; exact h2
      have h3 : 64 < q := by omega
      have d3 : decide (64 < (q : Int)) = true := by rw [decide_eq_true_iff]; omega
      have d5 : decide (64 < q) = true := by rw [decide_eq_true_iff]; omega
      clear h1 h2 hn
      go_enter Try.func29, Try.ntmps29
      go_wp2_with (go_at_call 36; (with_reducible refine HS.out.mono ?_); rintro e w0 ⟨rfl, rfl⟩)
      go_ret
      exact ⟨rfl, rfl⟩
theorem rWrite_out (w : World) (g ga s a : Nat) (vw : Value) (k : Int) (ab : Option Addr) (q cb : Nat) (hk0 : 0 ≤ k) (hk : k ≤ 1000000000) (h : DevH w g (.slice (some ⟨ga, 0, none⟩) (64 * s) (64 * s)) vw k 1 false) (hs : s ≤ 8192) (ha : a < s) (hq : q ≤ 64) :
    Calls Try.prog 29 #[.pointer (some ⟨g, 0, none⟩), .int .i64 a, .slice ab q cb] w fun e w' => e = .returned (.int .i64 10) ∧ DevH w' g (.slice (some ⟨ga, 0, none⟩) (64 * s) (64 * s)) vw k 0 true ∧ Fr (· = g) w w' := by
  have HS := Lib.hid (rSectors_any w g (some ⟨ga, 0, none⟩) s (64 * s) vw k 1 false h hs)
  have HD := Lib.hid (rdeed_any w g (.slice (some ⟨ga, 0, none⟩) (64 * s) (64 * s)) vw k 1 false hk0 hk (by decide) (by decide) h)
  obtain ⟨_, _, _, _, c4⟩ := h.cells
  have d1 : decide ((a : Int) < 0) = false := by rw [decide_eq_false_iff_not]; omega
  have d2 : decide ((s : Int) ≤ (a : Int)) = false := by rw [decide_eq_false_iff_not]; omega
  have d3 : decide (64 < (q : Int)) = false := by rw [decide_eq_false_iff_not]; omega
  have d4 : decide (s ≤ a) = false := by rw [decide_eq_false_iff_not]; omega
  have d5 : decide (64 < q) = false := by rw [decide_eq_false_iff_not]; omega
  have d6 : ¬ s ≤ a := by omega
  have d7 : ¬ 64 < q := by omega
  obtain ⟨m, hm⟩ : ∃ m : Nat, m = 64 * s := ⟨_, rfl⟩
  rw [← hm] at HD ⊢
  clear h hk0 hk hs ha hq hm
  go_enter Try.func29, Try.ntmps29
  go_wp2_with (first
    | (go_at_call 36; (with_reducible refine HS.out.mono ?_); rintro e w0 ⟨rfl, rfl⟩)
    | (go_at_call 48; (with_reducible refine HD.out.mono ?_); rintro e w1 ⟨rfl, hh, hf⟩; (have HH := Lib.hid (And.intro hh hf)); clear hh hf))
  go_ret
  exact ⟨rfl, HH.out.1, HH.out.2⟩

set_option maxRecDepth 100000 in
set_option maxHeartbeats 2000000 in
theorem rSpoil_ok (w : World) (g ga s : Nat) (vw : Value) (k l : Int) (dn : Bool) (L : List UInt8) (a n : Nat) (h : DevH w g (.slice (some ⟨ga, 0, none⟩) (64 * s) (64 * s)) vw k l dn) (hL : BytT w ga 5 L) (hl : L.length = 64 * s) (hs : s ≤ 8192) (ha : a < s) (hn : n < 512) :
    Calls Try.prog 35 #[.pointer (some ⟨g, 0, none⟩), .int .i64 a, .int .i64 n] w fun e w' => e = .returned (.int .i64 0) ∧ BytT w' ga 5 (flipAt L a n) ∧ Fr (· = ga) w w' := by
  have HS := Lib.hid (rSectors_any w g (some ⟨ga, 0, none⟩) s (64 * s) vw k l dn h hs)
  obtain ⟨c0, _⟩ := h.cells
  obtain ⟨q, hq⟩ : ∃ q, q = n / 8 := ⟨_, rfl⟩
  obtain ⟨r, hr⟩ : ∃ r, r = n % 8 := ⟨_, rfl⟩
  obtain ⟨m, hm⟩ : ∃ m, m = 64 * a + q := ⟨_, rfl⟩
  obtain ⟨M, hM⟩ : ∃ M, M = 64 * s := ⟨_, rfl⟩
  obtain ⟨c, hc⟩ : ∃ c, c = 64 * a := ⟨_, rfl⟩
  obtain ⟨x, hx⟩ : ∃ x, x = L.getD m 0 := ⟨_, rfl⟩
  have hq64 : q < 64 := by omega
  have hr8 : r < 8 := by omega
  have hml : m < L.length := by omega
  have eq1 : (n : Int) / 8 = (q : Int) := by omega
  have eq2 : (n : Int).tdiv 8 = (q : Int) := by rw [Int.tdiv_eq_ediv_of_nonneg (by omega)]; exact eq1
  have er1 : (n : Int) % 8 = (r : Int) := by omega
  have er2 : (n : Int).tmod 8 = (r : Int) := by rw [Int.tmod_eq_emod_of_nonneg (by omega)]; exact er1
  have cm := hL.cell m hml
  rw [← hx] at cm
  have fm := hL.free m
  have hFL : flipAt L a n = L.set m (flipB x r) := by rw [flipAt, ← hq, ← hr, ← hm, ← hx]
  have HST := Lib.hid (show BytT (w.drew.setCell ⟨ga, m, none⟩ (.int .u8 (bits BinOp.xor .u8 (x.toNat : Int) (IntKind.u8.wrap (2 ^ r))))) ga 5 (flipAt L a n) by
    rw [hFL]
    have h : BytT w.drew ga 5 L := hL
    exact h.set_ m _ _ (flipB_val x r).symm)
  have d0 : decide ((a : Int) < 0) = false := by rw [decide_eq_false_iff_not]; omega
  have d4 : decide ((s : Int) ≤ (a : Int)) = false := by rw [decide_eq_false_iff_not]; omega
  have d5 : decide (s ≤ a) = false := by rw [decide_eq_false_iff_not]; omega
  have d1 : decide ((n : Int) < 0) = false := by rw [decide_eq_false_iff_not]; omega
  have d2 : decide ((512 : Int) ≤ (n : Int)) = false := by rw [decide_eq_false_iff_not]; omega
  have d3 : decide (512 ≤ n) = false := by rw [decide_eq_false_iff_not]; omega
  have bm : (m : Int) < (M : Int) := by omega
  have bm0 : (0 : Int) ≤ (m : Int) := by omega
  have tm : (m : Int).toNat = m := by omega
  have sr8 : (r : Int) < 8 := by omega
  have sr0 : (0 : Int) ≤ (r : Int) := by omega
  have tnr : (r : Int).toNat = r := by omega
  have ec : (a : Int) * 64 = (c : Int) := by omega
  have em : (c : Int) + (q : Int) = (m : Int) := by omega
  have wc : IntKind.i64.wrap (c : Int) = (c : Int) := IntWalk.i64_in _ (by omega)
  have wm : IntKind.i64.wrap (m : Int) = (m : Int) := IntWalk.i64_in _ (by omega)
  have wq : IntKind.i64.wrap (q : Int) = (q : Int) := IntWalk.i64_in _ (by omega)
  have wr8 : IntKind.i64.wrap (r : Int) = (r : Int) := IntWalk.i64_in _ (by omega)
  rw [← hM] at c0
  clear h hL hl hs ha hn hq hr hm hx hFL hml er1 eq1 hM hc
  go_enter Try.func35, Try.ntmps35
  go_wp2_with (go_at_call 36; (with_reducible refine HS.out.mono ?_); rintro e w0 ⟨rfl, rfl⟩)
  go_still_tail 17, (by kernel_rfl)
  go_wp2
  go_ret
  exact ⟨rfl, HST.out, (Fr.refl (· = ga) w).drew.setCell (p := ⟨ga, m, none⟩) (.inl rfl) _⟩
theorem rSpoil_arg (w : World) (g ga s : Nat) (vw : Value) (k l : Int) (dn : Bool) (a n : Int) (h : DevH w g (.slice (some ⟨ga, 0, none⟩) (64 * s) (64 * s)) vw k l dn) (hs : s ≤ 8192) (hn : ¬ ((0 ≤ a ∧ a < (s : Int)) ∧ 0 ≤ n ∧ n < 512)) :
    Calls Try.prog 35 #[.pointer (some ⟨g, 0, none⟩), .int .i64 a, .int .i64 n] w fun e w' => e = .returned (.int .i64 2) ∧ w = w' := by
  have HS := Lib.hid (rSectors_any w g (some ⟨ga, 0, none⟩) s (64 * s) vw k l dn h hs)
  clear h
  by_cases h1 : a < 0
  · have d1 : decide (a < 0) = true := by rw [decide_eq_true_iff]; exact h1
    clear h1 hn
    go_enter Try.func35, Try.ntmps35
    go_wp2
    go_ret
    exact ⟨rfl, rfl⟩
  have d1 : decide (a < 0) = false := by rw [decide_eq_false_iff_not]; exact h1
  by_cases h2 : (s : Int) ≤ a
  · have d2 : decide ((s : Int) ≤ a) = true := by rw [decide_eq_true_iff]; exact h2
    clear h1 h2 hn
    go_enter Try.func35, Try.ntmps35
    go_wp2_with (go_at_call 36; (with_reducible refine HS.out.mono ?_); rintro e w0 ⟨rfl, rfl⟩)
    go_ret
    exact ⟨rfl, rfl⟩
  have d2 : decide ((s : Int) ≤ a) = false := by rw [decide_eq_false_iff_not]; exact h2
  by_cases h3 : n < 0
  · have d3 : decide (n < 0) = true := by rw [decide_eq_true_iff]; exact h3
    clear h1 h2 h3 hn
    go_enter Try.func35, Try.ntmps35
    go_wp2_with (go_at_call 36; (with_reducible refine HS.out.mono ?_); rintro e w0 ⟨rfl, rfl⟩)
    go_ret
    exact ⟨rfl, rfl⟩
  have d3 : decide (n < 0) = false := by rw [decide_eq_false_iff_not]; exact h3
  have d4 : decide (512 ≤ n) = true := by rw [decide_eq_true_iff]; omega
  clear h1 h2 h3 hn
  go_enter Try.func35, Try.ntmps35
  go_wp2_with (go_at_call 36; (with_reducible refine HS.out.mono ?_); rintro e w0 ⟨rfl, rfl⟩)
  go_ret
  exact ⟨rfl, rfl⟩
end Go.Proofs.Ythmcmomkomhilaa
