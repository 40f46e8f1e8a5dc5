/- Contract: hash.wordAt. -/
import Derived.Test.YthjpgnmpcllolaaDoorRot
namespace Go.Proofs.YthjpgnmpcllolaaDoor
open Go.RowKit Go.ChangeShapes
set_option linter.unusedVariables false

theorem BytesIn.four {F : Nat → Prop} {w : World} {v : Value} {L : List UInt8} (h : BytesIn F w v L) (hl : 4 ≤ L.length) :
    ∃ b off cap, v = .slice (some ⟨b, off, none⟩) L.length cap ∧ L.length ≤ cap ∧ cap ≤ maxLen ∧ ∃ x0 x1 x2 x3 : UInt8, L.take 4 = [x0, x1, x2, x3] ∧
      w.cell? ⟨b, off, none⟩ = some (.int .u8 x0.toNat) ∧ w.cell? ⟨b, off + 1, none⟩ = some (.int .u8 x1.toNat) ∧ w.cell? ⟨b, off + 2, none⟩ = some (.int .u8 x2.toNat) ∧ w.cell? ⟨b, off + 3, none⟩ = some (.int .u8 x3.toNat) := by
  obtain ⟨x0, x1, x2, x3, r, rfl⟩ : ∃ x0 x1 x2 x3 r, L = x0 :: x1 :: x2 :: x3 :: r := by
    match L, hl with
    | x0 :: x1 :: x2 :: x3 :: r, _ => exact ⟨_, _, _, _, _, rfl⟩
  obtain ⟨b, off, cap, hv, h1, h2, _, hc⟩ := h.plain (by simp)
  exact ⟨b, off, cap, hv, h1, h2, x0, x1, x2, x3, rfl, hc 0 (by simp), hc 1 (by simp), hc 2 (by simp), hc 3 (by simp)⟩

theorem or_add (i a b : Nat) (hb : b < 2 ^ i) : a * 2 ^ i ||| b = a * 2 ^ i + b := by
  rw [Nat.mul_comm]
  exact (Nat.two_pow_add_eq_or_of_lt hb a).symm
/-- A word, as the walk spells it. -/
theorem word_spell (x0 x1 x2 x3 : Nat) (h0 : x0 < 256) (h1 : x1 < 256) (h2 : x2 < 256) (h3 : x3 < 256) :
    bits .or .u32 (bits .or .u32 (bits .or .u32 ((x0 : Int) % 4294967296 * 16777216 % 4294967296) ((x1 : Int) % 4294967296 * 65536 % 4294967296)) ((x2 : Int) % 4294967296 * 256 % 4294967296)) ((x3 : Int) % 4294967296) =
      ((((x0 * 256 + x1) * 256 + x2) * 256 + x3 : Nat) : Int) := by
  have e0 : (x0 : Int) % 4294967296 * 16777216 % 4294967296 = ((x0 * 2 ^ 24 : Nat) : Int) := by omega
  have e1 : (x1 : Int) % 4294967296 * 65536 % 4294967296 = ((x1 * 2 ^ 16 : Nat) : Int) := by omega
  have e2 : (x2 : Int) % 4294967296 * 256 % 4294967296 = ((x2 * 2 ^ 8 : Nat) : Int) := by omega
  have e3 : (x3 : Int) % 4294967296 = ((x3 : Nat) : Int) := by omega
  rw [e0, e1, e2, e3, u32_or_nat _ _ (by omega) (by omega), or_add 24 x0 _ (by omega), show x0 * 2 ^ 24 + x1 * 2 ^ 16 = (x0 * 2 ^ 8 + x1) * 2 ^ 16 by omega,
    u32_or_nat _ _ (by omega) (by omega), or_add 16 _ _ (by omega), show (x0 * 2 ^ 8 + x1) * 2 ^ 16 + x2 * 2 ^ 8 = ((x0 * 2 ^ 8 + x1) * 2 ^ 8 + x2) * 2 ^ 8 by omega,
    u32_or_nat _ _ (by omega) (by omega), or_add 8 _ _ (by omega)]

set_option maxHeartbeats 1000000 in
theorem wordAt_any {F : Nat → Prop} {v : Value} {L : List UInt8} (w : World) (h : BytesIn F w v L) (hl : 4 ≤ L.length) :
    Calls Tryd.prog 49 #[v] w fun e w' => e = .returned (.int .u32 (wordOf L : Nat)) ∧ ∃ n, w' = w.drewN n := by
  obtain ⟨b, off, cap, rfl, h1, h2, x0, x1, x2, x3, hx, c0, c1, c2, c3⟩ := h.four hl
  have HX := Lib.hid (wordOf_take hx)
  have HS := Lib.hid (word_spell x0.toNat x1.toNat x2.toNat x3.toNat x0.toNat_lt x1.toNat_lt x2.toNat_lt x3.toNat_lt)
  obtain ⟨n, hn⟩ : ∃ n, n = L.length := ⟨_, rfl⟩
  rw [← hn] at hl h1 ⊢
  clear h hx hn
  unfold maxLen at h2
  have hi0 : (0 : Int) < n := by omega
  have hi1 : (1 : Int) < n := by omega
  have hi2 : (2 : Int) < n := by omega
  have hi3 : (3 : Int) < n := by omega
  go_enter Tryd.func49, Tryd.ntmps49
  go_wp2_with fail
  go_quiet (fail)
  go_wp2
  go_ret
  exact ⟨ret_int (by rw [HX.out, ← HS.out]), _, rfl⟩
end Go.Proofs.YthjpgnmpcllolaaDoor
