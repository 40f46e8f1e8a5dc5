/- Numbers as bytes, plainly: what a maker puts, what a cursor gets. No program. -/
import Derived.Test.YthmcmomkomhilaaRows
namespace Go.Proofs.Ythmcmomkomhilaa

/-- A number's bytes: by sevens, the lowest first; k bounds how many. -/
def numBytes : Nat → Nat → List UInt8
  | 0, n => [UInt8.ofNat n]
  | k + 1, n => if n < 128 then [UInt8.ofNat n] else UInt8.ofNat (n % 128 + 128) :: numBytes k (n / 128)

/-- From the byte of place i on, n having been gathered: the number, and how many bytes it has in all. -/
def numFrom : Nat → Nat → Nat → List UInt8 → Option (Nat × Nat)
  | 0, _, _, _ => none
  | _ + 1, _, _, [] => none
  | f + 1, i, n, x :: r =>
    if 128 ≤ x.toNat then numFrom f (i + 1) (n + x.toNat % 128 * 128 ^ i) r
    else if (0 < i ∧ x.toNat = 0) ∨ 1099511627776 < n + x.toNat % 128 * 128 ^ i then none
    else some (n + x.toNat % 128 * 128 ^ i, i + 1)

/-- The number that bytes begin with, and how many bytes it has. -/
def numOf (X : List UInt8) : Option (Nat × Nat) := numFrom 6 0 0 X
def numV (X : List UInt8) : Nat := ((numOf X).map (·.1)).getD 0
def numS (X : List UInt8) : Nat := ((numOf X).map (·.2)).getD 0

theorem numFrom_bound (f : Nat) : ∀ (i n : Nat) (X : List UInt8) (v s : Nat), numFrom f i n X = some (v, s) → v ≤ 1099511627776 ∧ i < s ∧ s ≤ i + X.length ∧ s ≤ i + f := by
  induction f with
  | zero => intro i n X v s h; cases X <;> simp [numFrom] at h
  | succ f ih =>
    intro i n X v s h
    cases X with
    | nil => simp [numFrom] at h
    | cons x r =>
      unfold numFrom at h
      split at h
      · obtain ⟨h1, h2, h3, h4⟩ := ih _ _ _ _ _ h
        simp only [List.length_cons]
        omega
      · split at h
        · cases h
        · simp only [Option.some.injEq, Prod.mk.injEq] at h
          simp only [List.length_cons]
          omega

theorem numV_le (X : List UInt8) : numV X ≤ 1099511627776 := by
  unfold numV numOf
  cases h : numFrom 6 0 0 X with
  | none => simp
  | some p => have := (numFrom_bound 6 0 0 X p.1 p.2 h).1; simpa using this
theorem numS_le (X : List UInt8) : numS X ≤ X.length ∧ numS X ≤ 6 := by
  unfold numS numOf
  cases h : numFrom 6 0 0 X with
  | none => simp
  | some p => have := numFrom_bound 6 0 0 X p.1 p.2 h; simp; omega

theorem numBytes_len (k : Nat) : ∀ n, 1 ≤ (numBytes k n).length ∧ (numBytes k n).length ≤ k + 1 := by
  induction k with
  | zero => intro n; simp [numBytes]
  | succ k ih =>
    intro n
    unfold numBytes
    split
    · simp
    · have := ih (n / 128)
      simp only [List.length_cons]
      omega

/-- What is made is got, whatever stands behind. -/
theorem numFrom_bytes (k : Nat) : ∀ (f i n m : Nat) (R : List UInt8), k < f → n < 128 ^ (k + 1) → m + n * 128 ^ i ≤ 1099511627776 → (0 < i → n ≠ 0) →
    numFrom f i m (numBytes k n ++ R) = some (m + n * 128 ^ i, i + (numBytes k n).length) := by
  induction k with
  | zero =>
    intro f i n m R hf hn hm hz
    obtain ⟨f, rfl⟩ : ∃ g, f = g + 1 := ⟨f - 1, by omega⟩
    have hx : (UInt8.ofNat n).toNat = n := by rw [UInt8.toNat_ofNat']; omega
    simp only [numBytes, List.cons_append, List.nil_append, numFrom, hx]
    rw [if_neg (by omega), Nat.mod_eq_of_lt (by omega), if_neg (by rintro (⟨h1, h2⟩ | h); exact hz h1 h2; omega)]
    simp
  | succ k ih =>
    intro f i n m R hf hn hm hz
    obtain ⟨f, rfl⟩ : ∃ g, f = g + 1 := ⟨f - 1, by omega⟩
    by_cases h : n < 128
    · have hx : (UInt8.ofNat n).toNat = n := by rw [UInt8.toNat_ofNat']; omega
      simp only [numBytes, if_pos h, List.cons_append, List.nil_append, numFrom, hx]
      rw [if_neg (by omega), Nat.mod_eq_of_lt (by omega), if_neg (by rintro (⟨h1, h2⟩ | h); exact hz h1 h2; omega)]
      simp
    · have hx : (UInt8.ofNat (n % 128 + 128)).toNat = n % 128 + 128 := by rw [UInt8.toNat_ofNat']; omega
      have e : m + n % 128 * 128 ^ i + n / 128 * 128 ^ (i + 1) = m + n * 128 ^ i := by
        rw [Nat.pow_succ, Nat.add_assoc]
        congr 1
        have : n / 128 * (128 ^ i * 128) = (n / 128 * 128) * 128 ^ i := by rw [Nat.mul_comm (128 ^ i) 128, Nat.mul_assoc]
        rw [this, ← Nat.add_mul]
        congr 1
        omega
      have h2 : (n % 128 + 128) % 128 = n % 128 := by omega
      simp only [numBytes, if_neg h, List.cons_append, numFrom, hx]
      rw [if_pos (by omega), h2, ih f (i + 1) (n / 128) _ R (by omega) (by rw [Nat.pow_succ] at hn; omega) (by rw [e]; exact hm) (by intro _; omega), e]
      simp only [List.length_cons]
      congr 2
      omega

theorem numOf_bytes (n : Nat) (R : List UInt8) (h : n ≤ 1099511627776) : numOf (numBytes 5 n ++ R) = some (n, (numBytes 5 n).length) := by
  have := numFrom_bytes 5 6 0 n 0 R (by omega) (by omega) (by omega) (by omega)
  simpa [numOf] using this

/-- What is got is made. -/
theorem numFrom_made (f : Nat) : ∀ (i m : Nat) (X : List UInt8) (v s : Nat), numFrom f i m X = some (v, s) →
    ∃ n, v = m + n * 128 ^ i ∧ s ≤ i + X.length ∧ (0 < i → n ≠ 0) ∧ ∀ k, f ≤ k + 1 → X.take (s - i) = numBytes k n := by
  induction f with
  | zero => intro i m X v s h; cases X <;> simp [numFrom] at h
  | succ f ih =>
    intro i m X v s h
    cases X with
    | nil => simp [numFrom] at h
    | cons x r =>
      have hxl := x.toNat_lt
      unfold numFrom at h
      split at h
      · rename_i hx
        have hs := (numFrom_bound _ _ _ _ _ _ h)
        obtain ⟨n, hv, h1, hz, h2⟩ := ih _ _ _ _ _ h
        have hn := hz (by omega)
        refine ⟨x.toNat % 128 + n * 128, ?_, by simp only [List.length_cons]; omega, by omega, fun k hk => ?_⟩
        · rw [hv, Nat.pow_succ, Nat.add_mul, Nat.add_assoc]
          congr 2
          rw [Nat.mul_comm (128 ^ i) 128, Nat.mul_assoc]
        · obtain ⟨k, rfl⟩ : ∃ j, k = j + 1 := by
            refine ⟨k - 1, ?_⟩
            rcases f with _ | f
            · cases r <;> simp [numFrom] at h
            · omega
          have hd : (x.toNat % 128 + n * 128) / 128 = n := by omega
          have hm : (x.toNat % 128 + n * 128) % 128 + 128 = x.toNat := by omega
          rw [numBytes, if_neg (by omega), hd, hm, ← h2 k (by omega), show s - i = (s - (i + 1)) + 1 by omega, List.take_succ_cons]
          simp
      · rename_i hx
        split at h
        · cases h
        · rename_i hc
          simp only [Option.some.injEq, Prod.mk.injEq] at h
          obtain ⟨rfl, rfl⟩ := h
          refine ⟨x.toNat % 128, rfl, by simp only [List.length_cons]; omega, by omega, fun k hk => ?_⟩
          have hm : x.toNat % 128 = x.toNat := by omega
          rw [hm, show i + 1 - i = 1 by omega]
          cases k with
          | zero => simp [numBytes]
          | succ k => rw [numBytes, if_pos (by omega)]; simp

theorem numOf_made (X : List UInt8) (v s : Nat) (h : numOf X = some (v, s)) : X.take s = numBytes 5 v := by
  obtain ⟨n, hv, _, _, h2⟩ := numFrom_made 6 0 0 X v s h
  have := h2 5 (by omega)
  rw [hv]
  simpa using this

end Go.Proofs.Ythmcmomkomhilaa
