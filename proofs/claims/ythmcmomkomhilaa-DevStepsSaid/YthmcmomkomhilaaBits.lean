/- Bits of small numbers, in the walk's spelling. No program. -/
import Derived.Test.YthmcmomkomhilaaRows
import Derived.WalkKit
namespace Go.Proofs.Ythmcmomkomhilaa

theorem wraps_i64 (n : Int) (h0 : 0 ≤ n) (h1 : n < 2 ^ 63) : IntKind.i64.wrap n = n := by rw [IntKind.wrap_i64]; omega
theorem u8_and127 (x : UInt8) : bits .and .u8 (x.toNat : Int) 127 = ((x.toNat % 128 : Nat) : Int) := by
  have h := x.toNat_lt
  have := bits_mask .u8 8 (by decide) wraps_u8 7 (by decide) (x.toNat : Int) (by omega) (by omega)
  simpa using this
theorem nat_and128 : ∀ n : Fin 256, n.val &&& 128 = if n.val < 128 then 0 else 128 := by decide +kernel
theorem nat_or128 : ∀ n : Fin 128, n.val ||| 128 = n.val + 128 := by decide +kernel
theorem u8_and128_lo (x : UInt8) (h : x.toNat < 128) : bits .and .u8 (x.toNat : Int) 128 = 0 := by
  have hx := x.toNat_lt
  have := (bits_nat .u8 8 (by decide) wraps_u8 x.toNat 128 (by omega) (by omega)).1
  have h2 := nat_and128 ⟨x.toNat, by omega⟩
  simp only [h, if_true] at h2
  rw [h2] at this
  simpa using this
theorem u8_and128_hi (x : UInt8) (h : 128 ≤ x.toNat) : bits .and .u8 (x.toNat : Int) 128 = 128 := by
  have hx := x.toNat_lt
  have := (bits_nat .u8 8 (by decide) wraps_u8 x.toNat 128 (by omega) (by omega)).1
  have h2 := nat_and128 ⟨x.toNat, by omega⟩
  simp only [show ¬ x.toNat < 128 by omega, if_false] at h2
  rw [h2] at this
  simpa using this
theorem u8_or128 (n : Nat) (h : n < 128) : bits .or .u8 (n : Int) 128 = ((n + 128 : Nat) : Int) := by
  have := (bits_nat .u8 8 (by decide) wraps_u8 n 128 (by omega) (by omega)).2
  have h2 := nat_or128 ⟨n, h⟩
  simp only at h2
  rw [h2] at this
  simpa using this
/-- A number under 2 ^ i, and one of which 2 ^ i is a part. -/
theorem i64_or (i m z : Nat) (hm : m < 2 ^ i) (hz : 2 ^ i ∣ z) (h1 : m < 2 ^ 63) (h2 : z < 2 ^ 63) : bits .or .i64 (m : Int) (z : Int) = ((m + z : Nat) : Int) := by
  rw [(bits_nat .i64 63 (by decide) wraps_i64 m z h1 h2).2]
  obtain ⟨q, rfl⟩ := hz
  rw [Nat.or_comm, ← Nat.two_pow_add_eq_or_of_lt hm q, Nat.add_comm]
theorem i64_and127 (n : Nat) (h : n < 2 ^ 63) : bits .and .i64 (n : Int) 127 = ((n % 128 : Nat) : Int) := by
  have := bits_mask .i64 63 (by decide) wraps_i64 7 (by decide) (n : Int) (by omega) (by exact_mod_cast h)
  simpa using this

end Go.Proofs.Ythmcmomkomhilaa
