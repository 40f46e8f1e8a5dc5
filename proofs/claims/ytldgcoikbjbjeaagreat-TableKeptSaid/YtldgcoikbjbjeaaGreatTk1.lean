/- Laid together: DHead Num Bits Cursor -/
import Derived.Test.YtldgcoikbjbjeaaGreatTk0
import Derived.LaidEqlPtr
import Derived.Test.YtldgcoikbjbjeaaGreatRows
import Derived.WalkKit

namespace Go.Proofs.YtldgcoikbjbjeaaGreat
open Go.RowKit Go.ChangeShapes
set_option linter.unusedVariables false
def DvH (w : World) (g kb s : Nat) (vw : Value) (k l : Int) (dn : Bool) : Prop :=
  w.heap[g]? = some (.cells #[.int .i64 k, .int .i64 l, .bool dn, vw, .slice (some ⟨kb, 0, none⟩) s s, .pointer (some ⟨g, 0, none⟩)] 75 (0, 0))
section
variable {S : Nat → Prop} {w w' : World} {g kb s : Nat} {vw : Value} {k l : Int} {dn : Bool}
theorem DvH.keep (h : DvH w g kb s vw k l dn) (hf : Fr S w w') (hg : ¬ S g) : DvH w' g kb s vw k l dn := hf.heap h hg
theorem DvH.cells (h : DvH w g kb s vw k l dn) :
    w.cell? ⟨g, 0, none⟩ = some (.int .i64 k) ∧ w.cell? ⟨g, 1, none⟩ = some (.int .i64 l) ∧ w.cell? ⟨g, 2, none⟩ = some (.bool dn) ∧ w.cell? ⟨g, 3, none⟩ = some vw ∧ w.cell? ⟨g, 4, none⟩ = some (.slice (some ⟨kb, 0, none⟩) s s) ∧ w.cell? ⟨g, 5, none⟩ = some (.pointer (some ⟨g, 0, none⟩)) := by
  refine ⟨?_, ?_, ?_, ?_, ?_, ?_⟩ <;> exact cell_of_row _ _ _ _ _ _ h
theorem DvH.free (h : DvH w g kb s vw k l dn) (i : Nat) : w.frozen? ⟨g, i, none⟩ = false := frozen_of_row _ _ _ _ _ h
theorem DvH.put0 (h : DvH w g kb s vw k l dn) (k' : Int) : DvH (w.setCell ⟨g, 0, none⟩ (.int .i64 k')) g kb s vw k' l dn := cell_put _ h
theorem DvH.put1 (h : DvH w g kb s vw k l dn) (l' : Int) : DvH (w.setCell ⟨g, 1, none⟩ (.int .i64 l')) g kb s vw k l' dn := cell_put _ h
theorem DvH.put2 (h : DvH w g kb s vw k l dn) (b : Bool) : DvH (w.setCell ⟨g, 2, none⟩ (.bool b)) g kb s vw k l b := cell_put _ h
theorem DvH.put3 (h : DvH w g kb s vw k l dn) (v : Value) : DvH (w.setCell ⟨g, 3, none⟩ v) g kb s v k l dn := cell_put v h
theorem DvH.lt (h : DvH w g kb s vw k l dn) : g < w.heap.size := lt_of_block h
end
theorem run_eql_dev (w : World) (a : Addr) : (binOp .eql 28 (.pointer (some a)) (.pointer (some a))).run Tryz.prog w = .ok (.bool true) w := by
  have hi : (Tryz.prog.info? 75).isSome = true := by kernel_rfl
  obtain ⟨j, hte⟩ := Option.isSome_iff_exists.1 hi
  exact run_eql_ptr_same (P := Tryz.prog) w a Tryz.underlying28 hte
theorem dIs_yes (w : World) (g kb s : Nat) (vw : Value) (k l : Int) (dn : Bool) (h : DvH w g kb s vw k l dn) :
    Calls Tryz.prog 62 #[.pointer (some ⟨g, 0, none⟩)] w fun e w' => e = .returned (.bool true) ∧ w = w' := by
  have heq := run_eql_dev
  obtain ⟨_, _, _, _, _, h5⟩ := h.cells
  clear h
  go_enter Tryz.func62, Tryz.ntmps62
  go_wp2
  go_ret
  exact ⟨rfl, rfl⟩
theorem dReady_any (w : World) (g kb s : Nat) (vw : Value) (k l : Int) (dn : Bool) (h : DvH w g kb s vw k l dn) :
    Calls Tryz.prog 30 #[.pointer (some ⟨g, 0, none⟩)] w fun e w' => e = .returned (.int .i64 (if dn = true then 10 else 0)) ∧ w = w' := by
  have hc := dIs_yes w g kb s vw k l dn h
  obtain ⟨_, _, h2, _⟩ := h.cells
  clear h
  cases dn with
  | true =>
    go_enter Tryz.func30, Tryz.ntmps30
    go_wp2_with (go_at_call 62; refine hc.mono ?_; rintro e w1 ⟨rfl, rfl⟩)
    go_ret
    exact ⟨rfl, rfl⟩
  | false =>
    go_enter Tryz.func30, Tryz.ntmps30
    go_wp2_with (go_at_call 62; refine hc.mono ?_; rintro e w1 ⟨rfl, rfl⟩)
    go_ret
    exact ⟨rfl, rfl⟩
theorem dFall_any (w : World) (g kb s : Nat) (vw : Value) (k l : Int) (dn : Bool) (h : DvH w g kb s vw k l dn) :
    Calls Tryz.prog 159 #[.pointer (some ⟨g, 0, none⟩)] w fun e w' => e = .returned (.tuple #[]) ∧ DvH w' g kb s vw k l true ∧ Fr (· = g) w w' := by
  obtain ⟨_, _, h2, _⟩ := h.cells
  have hf := h.free 2
  have H := Lib.hid h
  clear h
  go_enter Tryz.func159, Tryz.ntmps159
  go_wp2
  refine bodyPost_end (results_none rfl _ _ _) rfl ?_
  exact ⟨rfl, H.out.put2 true, Fr.cell1 _ _ _ _⟩
theorem dRise_any (w : World) (g kb s : Nat) (vw : Value) (k l : Int) (dn : Bool) (h : DvH w g kb s vw k l dn) :
    Calls Tryz.prog 40 #[.pointer (some ⟨g, 0, none⟩)] w fun e w' => e = .returned (.tuple #[]) ∧ DvH w' g kb s vw k 0 false ∧ Fr (· = g) w w' := by
  obtain ⟨_, h1, h2, _⟩ := h.cells
  have hf := h.free 2
  have hf1 := h.free 1
  have H := Lib.hid h
  clear h
  go_enter Tryz.func40, Tryz.ntmps40
  go_wp2
  refine bodyPost_end (results_none rfl _ _ _) rfl ?_
  exact ⟨rfl, (H.out.put2 false).put1 0, (Fr.cell1 _ _ _ _).trans (Fr.cell1 _ _ _ _) (fun _ h => .inl h)⟩
theorem dLight_any (w : World) (g kb s : Nat) (vw : Value) (k l : Int) (dn : Bool) (n : Int) (hn : n ≤ 9223372036854775807) (hn0 : -9223372036854775808 ≤ n) (h : DvH w g kb s vw k l dn) :
    Calls Tryz.prog 31 #[.pointer (some ⟨g, 0, none⟩), .int .i64 n] w fun e w' => e = .returned (.tuple #[]) ∧ DvH w' g kb s vw k (max n 0) dn ∧ Fr (· = g) w w' := by
  obtain ⟨_, h1, _⟩ := h.cells
  have hf1 := h.free 1
  have H := Lib.hid h
  clear h
  by_cases hp : n < 0
  · have hm : max n 0 = 0 := by omega
    rw [hm]
    go_enter Tryz.func31, Tryz.ntmps31
    go_wp2
    refine bodyPost_end (results_none rfl _ _ _) rfl ?_
    exact ⟨rfl, H.out.put1 _, Fr.cell1 _ _ _ _⟩
  · have hm : max n 0 = n := by omega
    rw [hm]
    go_enter Tryz.func31, Tryz.ntmps31
    go_wp2
    refine bodyPost_end (results_none rfl _ _ _) rfl ?_
    exact ⟨rfl, H.out.put1 _, Fr.cell1 _ _ _ _⟩
theorem dDeed_any (w : World) (g kb s : Nat) (vw : Value) (k l : Int) (dn : Bool) (hk0 : 0 ≤ k) (hk : k ≤ 1000000000) (hl0 : 0 ≤ l) (hl : l ≤ 9223372036854775807) (h : DvH w g kb s vw k l dn) :
    Calls Tryz.prog 125 #[.pointer (some ⟨g, 0, none⟩)] w fun e w' => e = .returned (.bool (decide (l ≠ 1))) ∧ DvH w' g kb s vw (if l = 1 then k else k + 1) (if l = 0 ∨ l = 1 then l else l - 1) (if l = 1 then true else dn) ∧ Fr (· = g) w w' := by
  obtain ⟨h0, h1, h2, _⟩ := h.cells
  have hf0 := h.free 0
  have hf1 := h.free 1
  have H := Lib.hid h
  by_cases e1 : l = 1
  · subst e1
    have hc := Lib.hid (dFall_any w g kb s vw k 1 dn h)
    clear h
    go_enter Tryz.func125, Tryz.ntmps125
    go_wp2_with (go_at_call 159; refine hc.out.mono ?_; rintro e w1 ⟨rfl, hh, hf⟩; (have HS := Lib.hid (And.intro hh hf)); clear hh hf)
    go_ret
    exact ⟨rfl, HS.out.1, HS.out.2⟩
  · clear h
    by_cases e0 : l = 0
    · subst e0
      go_enter Tryz.func125, Tryz.ntmps125
      go_wp2
      go_ret
      exact ⟨rfl, H.out.put0 _, Fr.cell1 _ _ _ _⟩
    · have hn : decide (l ≠ 1) = true := by rw [decide_eq_true_iff]; exact e1
      rw [hn, if_neg e1, if_neg (by omega), if_neg e1]
      have hd1 : (l == 1) = false := by rw [beq_eq_false_iff_ne]; exact e1
      have hd0 : (l == 0) = false := by rw [beq_eq_false_iff_ne]; exact e0
      go_enter Tryz.func125, Tryz.ntmps125
      go_wp2
      go_ret
      exact ⟨rfl, (H.out.put1 _).put0 _, (Fr.cell1 _ _ _ _).trans (Fr.cell1 _ _ _ _) (fun _ h => .inl h)⟩
theorem dHas_any (w : World) (g kb s : Nat) (vw : Value) (k l : Int) (dn : Bool) (a : Int) (h : DvH w g kb s vw k l dn) :
    Calls Tryz.prog 91 #[.pointer (some ⟨g, 0, none⟩), .int .i64 a] w fun e w' => e = .returned (.bool (decide (0 ≤ a ∧ a < (s : Int)))) ∧ w = w' := by
  obtain ⟨_, _, _, _, h4, _⟩ := h.cells
  clear h
  by_cases h0 : 0 ≤ a
  · have hd : decide (0 ≤ a) = true := by rw [decide_eq_true_iff]; exact h0
    by_cases h1 : a < (s : Int)
    · have hd1 : decide (a < (s : Int)) = true := by rw [decide_eq_true_iff]; exact h1
      rw [show decide (0 ≤ a ∧ a < (s : Int)) = true by rw [decide_eq_true_iff]; exact ⟨h0, h1⟩]
      go_enter Tryz.func91, Tryz.ntmps91
      go_wp2
      go_ret
      exact ⟨rfl, rfl⟩
    · have hd1 : decide (a < (s : Int)) = false := by rw [decide_eq_false_iff_not]; exact h1
      rw [show decide (0 ≤ a ∧ a < (s : Int)) = false by rw [decide_eq_false_iff_not]; exact fun h => h1 h.2]
      go_enter Tryz.func91, Tryz.ntmps91
      go_wp2
      go_ret
      exact ⟨rfl, rfl⟩
  · have hd : decide (0 ≤ a) = false := by rw [decide_eq_false_iff_not]; exact h0
    rw [show decide (0 ≤ a ∧ a < (s : Int)) = false by rw [decide_eq_false_iff_not]; exact fun h => h0 h.1]
    go_enter Tryz.func91, Tryz.ntmps91
    go_wp2
    go_ret
    exact ⟨rfl, rfl⟩
theorem dFuse_any (w : World) (g kb s : Nat) (vw : Value) (k l : Int) (dn : Bool) (n : Int) (hn : n ≤ 9223372036854775807) (hn0 : -9223372036854775808 ≤ n) (h : DvH w g kb s vw k l dn) :
    Calls Tryz.prog 13 #[.pointer (some ⟨g, 0, none⟩), .int .i64 n] w fun e w' => e = .returned (.int .i64 (if dn = true then 10 else 0)) ∧ DvH w' g kb s vw k (if dn = true then l else max n 0) dn ∧ Fr (· = g) w w' := by
  have hc := dReady_any w g kb s vw k l dn h
  have hd := Lib.hid (dLight_any w g kb s vw k l dn n hn hn0 h)
  have H := Lib.hid h
  clear h
  cases dn with
  | true =>
    go_enter Tryz.func13, Tryz.ntmps13
    go_wp2_with (go_at_call 30; refine hc.mono ?_; rintro e w1 ⟨rfl, rfl⟩)
    go_ret
    exact ⟨rfl, H.out, Fr.refl _ _⟩
  | false =>
    go_enter Tryz.func13, Tryz.ntmps13
    go_wp2_with (first | (go_at_call 30; refine hc.mono ?_; rintro e w1 ⟨rfl, rfl⟩) | (go_at_call 31; refine hd.out.mono ?_; rintro e w1 ⟨rfl, hh, hf⟩; (have HS := Lib.hid (And.intro hh hf)); clear hh hf))
    go_ret
    exact ⟨rfl, HS.out.1, HS.out.2⟩
end Go.Proofs.YtldgcoikbjbjeaaGreat
namespace Go.Proofs.YtldgcoikbjbjeaaGreat
def numBytes : Nat → Nat → List UInt8
  | 0, n => [UInt8.ofNat n]
  | k + 1, n => if n < 128 then [UInt8.ofNat n] else UInt8.ofNat (n % 128 + 128) :: numBytes k (n / 128)
def numFrom : Nat → Nat → Nat → List UInt8 → Option (Nat × Nat)
  | 0, _, _, _ => none
  | _ + 1, _, _, [] => none
  | f + 1, i, n, x :: r =>
    if 128 ≤ x.toNat then numFrom f (i + 1) (n + x.toNat % 128 * 128 ^ i) r
    else if (0 < i ∧ x.toNat = 0) ∨ 1099511627776 < n + x.toNat % 128 * 128 ^ i then none
    else some (n + x.toNat % 128 * 128 ^ i, i + 1)
def numOf (X : List UInt8) : Option (Nat × Nat) := numFrom 6 0 0 X
def numV (X : List UInt8) : Nat := ((numOf X).map (·.1)).getD 0
def numS (X : List UInt8) : Nat := ((numOf X).map (·.2)).getD 0
theorem numFrom_bound (f : Nat) : ∀ (i n : Nat) (X : List UInt8) (v s : Nat), numFrom f i n X = some (v, s) → v ≤ 1099511627776 ∧ i < s ∧ s ≤ i + X.length ∧ s ≤ i + f := by
  induction f with
  | zero => intro i n X v s h; cases X <;> simp [numFrom] at h
  | succ f ih =>
    intro i n X v s h
    cases X with
    | nil => simp [numFrom] at h
    | cons x r =>
      unfold numFrom at h
      split at h
      · obtain ⟨h1, h2, h3, h4⟩ := ih _ _ _ _ _ h
        simp only [List.length_cons]
        omega
      · split at h
        · cases h
        · simp only [Option.some.injEq, Prod.mk.injEq] at h
          simp only [List.length_cons]
          omega
theorem numV_le (X : List UInt8) : numV X ≤ 1099511627776 := by
  unfold numV numOf
  cases h : numFrom 6 0 0 X with
  | none => simp
  | some p => have := (numFrom_bound 6 0 0 X p.1 p.2 h).1; simpa using this
theorem numS_le (X : List UInt8) : numS X ≤ X.length ∧ numS X ≤ 6 := by
  unfold numS numOf
  cases h : numFrom 6 0 0 X with
  | none => simp
  | some p => have := numFrom_bound 6 0 0 X p.1 p.2 h; simp; omega
theorem numBytes_len (k : Nat) : ∀ n, 1 ≤ (numBytes k n).length ∧ (numBytes k n).length ≤ k + 1 := by
  induction k with
  | zero => intro n; simp [numBytes]
  | succ k ih =>
    intro n
    unfold numBytes
    split
    · simp
    · have := ih (n / 128)
      simp only [List.length_cons]
      omega
theorem numFrom_bytes (k : Nat) : ∀ (f i n m : Nat) (R : List UInt8), k < f → n < 128 ^ (k + 1) → m + n * 128 ^ i ≤ 1099511627776 → (0 < i → n ≠ 0) →
    numFrom f i m (numBytes k n ++ R) = some (m + n * 128 ^ i, i + (numBytes k n).length) := by
  induction k with
  | zero =>
    intro f i n m R hf hn hm hz
    obtain ⟨f, rfl⟩ : ∃ g, f = g + 1 := ⟨f - 1, by omega⟩
    have hx : (UInt8.ofNat n).toNat = n := by rw [UInt8.toNat_ofNat']; omega
    simp only [numBytes, List.cons_append, List.nil_append, numFrom, hx]
    rw [if_neg (by omega), Nat.mod_eq_of_lt (by omega), if_neg (by rintro (⟨h1, h2⟩ | h); exact hz h1 h2; omega)]
    simp
  | succ k ih =>
    intro f i n m R hf hn hm hz
    obtain ⟨f, rfl⟩ : ∃ g, f = g + 1 := ⟨f - 1, by omega⟩
    by_cases h : n < 128
    · have hx : (UInt8.ofNat n).toNat = n := by rw [UInt8.toNat_ofNat']; omega
      simp only [numBytes, if_pos h, List.cons_append, List.nil_append, numFrom, hx]
      rw [if_neg (by omega), Nat.mod_eq_of_lt (by omega), if_neg (by rintro (⟨h1, h2⟩ | h); exact hz h1 h2; omega)]
      simp
    · have hx : (UInt8.ofNat (n % 128 + 128)).toNat = n % 128 + 128 := by rw [UInt8.toNat_ofNat']; omega
      have e : m + n % 128 * 128 ^ i + n / 128 * 128 ^ (i + 1) = m + n * 128 ^ i := by
        rw [Nat.pow_succ, Nat.add_assoc]
        congr 1
        have : n / 128 * (128 ^ i * 128) = (n / 128 * 128) * 128 ^ i := by rw [Nat.mul_comm (128 ^ i) 128, Nat.mul_assoc]
        rw [this, ← Nat.add_mul]
        congr 1
        omega
      have h2 : (n % 128 + 128) % 128 = n % 128 := by omega
      simp only [numBytes, if_neg h, List.cons_append, numFrom, hx]
      rw [if_pos (by omega), h2, ih f (i + 1) (n / 128) _ R (by omega) (by rw [Nat.pow_succ] at hn; omega) (by rw [e]; exact hm) (by intro _; omega), e]
      simp only [List.length_cons]
      congr 2
      omega
theorem numOf_bytes (n : Nat) (R : List UInt8) (h : n ≤ 1099511627776) : numOf (numBytes 5 n ++ R) = some (n, (numBytes 5 n).length) := by
  have := numFrom_bytes 5 6 0 n 0 R (by omega) (by omega) (by omega) (by omega)
  simpa [numOf] using this
end Go.Proofs.YtldgcoikbjbjeaaGreat
namespace Go.Proofs.YtldgcoikbjbjeaaGreat
theorem wraps_i64 (n : Int) (h0 : 0 ≤ n) (h1 : n < 2 ^ 63) : IntKind.i64.wrap n = n := by rw [IntKind.wrap_i64]; omega
theorem u8_and127 (x : UInt8) : bits .and .u8 (x.toNat : Int) 127 = ((x.toNat % 128 : Nat) : Int) := by
  have h := x.toNat_lt
  have := bits_mask .u8 8 (by decide) wraps_u8 7 (by decide) (x.toNat : Int) (by omega) (by omega)
  simpa using this
theorem nat_and128 : ∀ n : Fin 256, n.val &&& 128 = if n.val < 128 then 0 else 128 := by decide +kernel
theorem nat_or128 : ∀ n : Fin 128, n.val ||| 128 = n.val + 128 := by decide +kernel
theorem u8_and128_lo (x : UInt8) (h : x.toNat < 128) : bits .and .u8 (x.toNat : Int) 128 = 0 := by
  have hx := x.toNat_lt
  have := (bits_nat .u8 8 (by decide) wraps_u8 x.toNat 128 (by omega) (by omega)).1
  have h2 := nat_and128 ⟨x.toNat, by omega⟩
  simp only [h, if_true] at h2
  rw [h2] at this
  simpa using this
theorem u8_and128_hi (x : UInt8) (h : 128 ≤ x.toNat) : bits .and .u8 (x.toNat : Int) 128 = 128 := by
  have hx := x.toNat_lt
  have := (bits_nat .u8 8 (by decide) wraps_u8 x.toNat 128 (by omega) (by omega)).1
  have h2 := nat_and128 ⟨x.toNat, by omega⟩
  simp only [show ¬ x.toNat < 128 by omega, if_false] at h2
  rw [h2] at this
  simpa using this
theorem u8_or128 (n : Nat) (h : n < 128) : bits .or .u8 (n : Int) 128 = ((n + 128 : Nat) : Int) := by
  have := (bits_nat .u8 8 (by decide) wraps_u8 n 128 (by omega) (by omega)).2
  have h2 := nat_or128 ⟨n, h⟩
  simp only at h2
  rw [h2] at this
  simpa using this
theorem i64_or (i m z : Nat) (hm : m < 2 ^ i) (hz : 2 ^ i ∣ z) (h1 : m < 2 ^ 63) (h2 : z < 2 ^ 63) : bits .or .i64 (m : Int) (z : Int) = ((m + z : Nat) : Int) := by
  rw [(bits_nat .i64 63 (by decide) wraps_i64 m z h1 h2).2]
  obtain ⟨q, rfl⟩ := hz
  rw [Nat.or_comm, ← Nat.two_pow_add_eq_or_of_lt hm q, Nat.add_comm]
theorem i64_and127 (n : Nat) (h : n < 2 ^ 63) : bits .and .i64 (n : Int) 127 = ((n % 128 : Nat) : Int) := by
  have := bits_mask .i64 63 (by decide) wraps_i64 7 (by decide) (n : Int) (by omega) (by exact_mod_cast h)
  simpa using this
end Go.Proofs.YtldgcoikbjbjeaaGreat
namespace Go.Proofs.YtldgcoikbjbjeaaGreat
open Go.RowKit Go.ChangeShapes
set_option linter.unusedVariables false
def isNumB (n : Int) : Bool := decide (0 ≤ n ∧ n ≤ 1099511627776)
theorem isNumB_yes {n : Int} (h : 0 ≤ n) (h2 : n ≤ 1099511627776) : isNumB n = true := by simp [isNumB, h, h2]
theorem isNumB_no {n : Int} (h : n < 0 ∨ 1099511627776 < n) : isNumB n = false := by simp [isNumB]; omega
theorem isNum_any (n : Int) (w : World) :
    Calls Tryz.prog 138 #[.int .i64 n] w fun e w' => e = .returned (.bool (isNumB n)) ∧ w = w' := by
  by_cases h : 0 ≤ n
  · by_cases h2 : n ≤ 1099511627776
    · have HE := Lib.hid (isNumB_yes h h2)
      rw [HE.out]
      go_enter Tryz.func138, Tryz.ntmps138
      go_wp2
      go_ret
      exact ⟨rfl, rfl⟩
    · have HE := Lib.hid (isNumB_no (show n < 0 ∨ 1099511627776 < n by omega))
      rw [HE.out]
      go_enter Tryz.func138, Tryz.ntmps138
      go_wp2
      go_ret
      exact ⟨rfl, rfl⟩
  · have HE := Lib.hid (isNumB_no (show n < 0 ∨ 1099511627776 < n by omega))
    rw [HE.out]
    go_enter Tryz.func138, Tryz.ntmps138
    go_wp2
    go_ret
    exact ⟨rfl, rfl⟩
theorem numV_none {X : List UInt8} (h : numOf X = none) : numV X = 0 := by simp [numV, h]
theorem numS_none {X : List UInt8} (h : numOf X = none) : numS X = 0 := by simp [numS, h]
theorem numV_some {X : List UInt8} {v s : Nat} (h : numOf X = some (v, s)) : numV X = v := by simp [numV, h]
theorem numS_some {X : List UInt8} {v s : Nat} (h : numOf X = some (v, s)) : numS X = s := by simp [numS, h]
theorem numFrom_end {f i n k : Nat} {X : List UInt8} (h : X.length ≤ k) : numFrom f i n (X.drop k) = none := by
  rw [List.drop_eq_nil_of_le h]
  cases f <;> rfl
theorem pow_7 (k : Nat) : 128 ^ k = 2 ^ (7 * k) := by rw [Nat.pow_mul]
theorem numAt_step (m y k : Nat) (hk : k ≤ 5) (hm : m < 128 ^ k) (hy : y < 128) : y * 2 ^ (7 * k) < 2 ^ 62 ∧ bits .or .i64 (m : Int) ((y * 2 ^ (7 * k) : Nat) : Int) = ((m + y * 2 ^ (7 * k) : Nat) : Int) := by
  have h2 : 2 ^ (7 * k) ≤ 2 ^ 35 := Nat.pow_le_pow_right (by decide) (by omega)
  have h3 : y * 2 ^ (7 * k) ≤ 127 * 2 ^ 35 := Nat.mul_le_mul (by omega) h2
  rw [pow_7] at hm
  exact ⟨by omega, i64_or (7 * k) m _ hm (Nat.dvd_mul_left _ _) (by omega) (by omega)⟩
theorem wrap64_mul_of (y k : Nat) (h : y * 2 ^ (7 * k) < 2 ^ 62) : wrap64 ((y : Int) * 2 ^ (7 * k)) = (y : Int) * 2 ^ (7 * k) := by
  have e : ((y : Int) * 2 ^ (7 * k)) = ((y * 2 ^ (7 * k) : Nat) : Int) := by push_cast; rfl
  rw [e]
  exact IntWalk.wrap64_in _ ⟨by omega, by omega⟩
theorem numAt_lt {m k z mz : Nat} (hm : m < 128 ^ k) (hz : z < 2 ^ 62) (h : mz = m + z) (hk : k ≤ 5) : mz < 2 ^ 63 := by
  have : 128 ^ k ≤ 128 ^ 5 := Nat.pow_le_pow_right (by decide) hk
  omega
theorem numAt_next (m y k mz : Nat) (hm : m < 128 ^ k) (h : mz = m + y * 2 ^ (7 * k)) (hy : y < 128) : mz < 128 ^ (k + 1) := by
  rw [← pow_7] at h
  have : y * 128 ^ k ≤ 127 * 128 ^ k := Nat.mul_le_mul_right _ (by omega)
  rw [Nat.pow_succ]
  omega
set_option maxHeartbeats 4000000 in
theorem numAt_any {F : Nat → Prop} (v : Value) (X : List UInt8) (w : World) (h : BytesIn F w v X) :
    Calls Tryz.prog 130 #[v] w fun e w' => e = .returned (.tuple #[.int .i64 (numV X), .int .i64 (numS X)]) ∧ ∃ n, w' = w.drewN n := by
  by_cases hn : X = []
  · subst hn
    obtain ⟨ao, cap, rfl, h1, hm, _⟩ := h
    unfold maxLen at hm
    go_enter Tryz.func130, Tryz.ntmps130
    go_wp2
    refine wp_loop_rounds 1 ?_
    rw [rounds_succ]
    go_wp2
    go_ret2
    exact ⟨rfl, 0, rfl⟩
  · obtain ⟨b, off, cap, rfl, h1, hm, _, hc⟩ := h.plain hn
    obtain ⟨n, hn'⟩ : ∃ n, n = X.length := ⟨_, rfl⟩
    have hpos : 0 < n := by have := List.length_pos_iff.2 hn; omega
    rw [← hn'] at h1 ⊢
    unfold maxLen at hm
    obtain ⟨t, ht, ht6, htn⟩ : ∃ t : Nat, t = min n 6 ∧ t ≤ 6 ∧ t ≤ n := ⟨_, rfl, by omega, by omega⟩
    have hcA : ∀ j, j < n → w.cell? ⟨b, off + j, none⟩ = some (.int .u8 (X.getD j 0).toNat) := fun j hj => by
      rw [hc j (by omega)]; simp [bv, List.getD, List.getElem?_eq_getElem (show j < X.length by omega)]
    clear hc h hn
    have HN := Lib.hid hn'
    clear hn'
    by_cases h6 : n ≤ 6
    · go_enter Tryz.func130, Tryz.ntmps130
      go_wp2
      go_loopw [2, 12] (fun r i wr => ∃ k m : Nat, k ≤ n ∧ i = .int .i64 k ∧ r = .int .i64 m ∧ Hid (m < 128 ^ k) ∧ Hid (numOf X = numFrom (6 - k) k m (X.drop k)) ∧ ∃ d, wr = w.drewN d) (fun _ i _ => n - (intOf i).toNat)
      case atStart => exact ⟨0, 0, by omega, rfl, rfl, Lib.hid (by simp), Lib.hid rfl, 0, rfl⟩
      case round =>
        obtain ⟨k, m, hk, rfl, rfl, hmk, heq, d, rfl⟩ := hrel
        by_cases hlt : k < n
        · have h0 := hcA k (by omega)
          obtain ⟨x, hx⟩ : ∃ x, x = X.getD k 0 := ⟨_, rfl⟩
          rw [← hx] at h0
          have hxl := x.toNat_lt
          have hdrop : X.drop k = x :: X.drop (k + 1) := by
            rw [List.drop_eq_getElem_cons (by have := HN.out; omega), hx]; simp [List.getD, List.getElem?_eq_getElem (show k < X.length by have := HN.out; omega)]
          clear hcA hx
          have HD := Lib.hid hdrop
          clear hdrop
          obtain ⟨y, e1, hy⟩ : ∃ y : Nat, bits .and .u8 (x.toNat : Int) 127 = (y : Int) ∧ y = x.toNat % 128 := ⟨_, u8_and127 x, rfl⟩
          have hy1 : y < 128 := by omega
          obtain ⟨hz1, e3⟩ := numAt_step m y k (by omega) hmk.out hy1
          obtain ⟨z, hz⟩ : ∃ z, z = y * 2 ^ (7 * k) := ⟨_, rfl⟩
          rw [← hz] at hz1 e3
          have e2 : wrap64 ((y : Int) * 2 ^ (7 * k)) = (z : Int) := by
            rw [hz]; push_cast; exact wrap64_mul_of y k (by rw [← hz]; exact hz1)
          obtain ⟨mz, hmz⟩ : ∃ mz, mz = m + z := ⟨_, rfl⟩
          rw [← hmz] at e3
          have HZ := Lib.hid (show mz = m + x.toNat % 128 * 128 ^ k by rw [hmz, hz, hy, Nat.pow_mul])
          have hmz63 : mz < 2 ^ 63 := numAt_lt hmk.out hz1 hmz (by omega)
          have hstep := Lib.hid (numAt_next m y k mz hmk.out (by rw [hmz, hz]) hy1)
          clear hz1 hz hmz hy hmk
          by_cases h128 : 128 ≤ x.toNat
          · have e4 := u8_and128_hi x h128
            have heq1 := Lib.hid (show numOf X = numFrom (6 - (k + 1)) (k + 1) mz (X.drop (k + 1)) by
              rw [heq.out, HD.out, show 6 - k = (6 - (k + 1)) + 1 by omega, numFrom, if_pos h128, HZ.out])
            clear heq HD HZ h128
            go_wp2_with fail
            go_roundw
            case rel => exact ⟨k + 1, mz, by omega, by go_num, rfl, hstep, heq1, d, rfl⟩
            case measure => simp [intOf]; omega
          · have e4 := u8_and128_lo x (by omega)
            have heq1 := Lib.hid (show numOf X = if (0 < k ∧ x.toNat = 0) ∨ 1099511627776 < mz then none else some (mz, k + 1) by
              rw [heq.out, HD.out, show 6 - k = (5 - k) + 1 by omega, numFrom, if_neg h128, HZ.out])
            clear heq HD HZ h128
            by_cases hz : 0 < k ∧ x.toNat = 0
            · have hfin := Lib.hid (show numOf X = none by rw [heq1.out, if_pos (.inl hz)])
              obtain ⟨hk0, hx0⟩ := hz
              have hx0' : ((x.toNat : Int) == 0) = true := by simp; omega
              clear heq1 hx0
              go_wp2_with fail
              go_ret2
              exact ⟨by rw [numV_none hfin.out, numS_none hfin.out]; rfl, d, rfl⟩
            · by_cases hbig : 1099511627776 < mz
              · have hfin := Lib.hid (show numOf X = none by rw [heq1.out, if_pos (.inr hbig)])
                have hb : isNumB (mz : Int) = false := isNumB_no (by omega)
                clear heq1
                by_cases hk0 : 0 < k
                · have hx0' : ((x.toNat : Int) == 0) = false := by simp; omega
                  clear hz
                  go_wp2_with (go_at_call 138; refine (isNum_any _ _).mono ?_; rintro e w' ⟨rfl, rfl⟩)
                  go_ret2
                  exact ⟨by rw [numV_none hfin.out, numS_none hfin.out]; rfl, d, rfl⟩
                · clear hz
                  go_wp2_with (go_at_call 138; refine (isNum_any _ _).mono ?_; rintro e w' ⟨rfl, rfl⟩)
                  go_ret2
                  exact ⟨by rw [numV_none hfin.out, numS_none hfin.out]; rfl, d, rfl⟩
              · have hfin := Lib.hid (show numOf X = some (mz, k + 1) by rw [heq1.out, if_neg (by omega)])
                have hb : isNumB (mz : Int) = true := isNumB_yes (by omega) (by omega)
                clear heq1
                by_cases hk0 : 0 < k
                · have hx0' : ((x.toNat : Int) == 0) = false := by simp; omega
                  clear hz
                  go_wp2_with (go_at_call 138; refine (isNum_any _ _).mono ?_; rintro e w' ⟨rfl, rfl⟩)
                  go_ret2
                  exact ⟨by rw [numV_some hfin.out, numS_some hfin.out]; rfl, d, rfl⟩
                · clear hz
                  go_wp2_with (go_at_call 138; refine (isNum_any _ _).mono ?_; rintro e w' ⟨rfl, rfl⟩)
                  go_ret2
                  exact ⟨by rw [numV_some hfin.out, numS_some hfin.out]; rfl, d, rfl⟩
        · have hfin := Lib.hid (show numOf X = none by
            have hk6 : k = n := by omega
            rw [heq.out, hk6]; exact numFrom_end (by have := HN.out; omega))
          go_wp2
          go_ret2
          exact ⟨by rw [numV_none hfin.out, numS_none hfin.out]; rfl, d, rfl⟩
    · go_enter Tryz.func130, Tryz.ntmps130
      go_wp2
      go_loopw [2, 12] (fun r i wr => ∃ k m : Nat, k ≤ 6 ∧ i = .int .i64 k ∧ r = .int .i64 m ∧ Hid (m < 128 ^ k) ∧ Hid (numOf X = numFrom (6 - k) k m (X.drop k)) ∧ ∃ d, wr = w.drewN d) (fun _ i _ => 6 - (intOf i).toNat)
      case atStart => exact ⟨0, 0, by omega, rfl, rfl, Lib.hid (by simp), Lib.hid rfl, 0, rfl⟩
      case round =>
        obtain ⟨k, m, hk, rfl, rfl, hmk, heq, d, rfl⟩ := hrel
        by_cases hlt : k < 6
        · have h0 := hcA k (by omega)
          obtain ⟨x, hx⟩ : ∃ x, x = X.getD k 0 := ⟨_, rfl⟩
          rw [← hx] at h0
          have hxl := x.toNat_lt
          have hdrop : X.drop k = x :: X.drop (k + 1) := by
            rw [List.drop_eq_getElem_cons (by have := HN.out; omega), hx]; simp [List.getD, List.getElem?_eq_getElem (show k < X.length by have := HN.out; omega)]
          clear hcA hx
          have HD := Lib.hid hdrop
          clear hdrop
          obtain ⟨y, e1, hy⟩ : ∃ y : Nat, bits .and .u8 (x.toNat : Int) 127 = (y : Int) ∧ y = x.toNat % 128 := ⟨_, u8_and127 x, rfl⟩
          have hy1 : y < 128 := by omega
          obtain ⟨hz1, e3⟩ := numAt_step m y k (by omega) hmk.out hy1
          obtain ⟨z, hz⟩ : ∃ z, z = y * 2 ^ (7 * k) := ⟨_, rfl⟩
          rw [← hz] at hz1 e3
          have e2 : wrap64 ((y : Int) * 2 ^ (7 * k)) = (z : Int) := by
            rw [hz]; push_cast; exact wrap64_mul_of y k (by rw [← hz]; exact hz1)
          obtain ⟨mz, hmz⟩ : ∃ mz, mz = m + z := ⟨_, rfl⟩
          rw [← hmz] at e3
          have HZ := Lib.hid (show mz = m + x.toNat % 128 * 128 ^ k by rw [hmz, hz, hy, Nat.pow_mul])
          have hmz63 : mz < 2 ^ 63 := numAt_lt hmk.out hz1 hmz (by omega)
          have hstep := Lib.hid (numAt_next m y k mz hmk.out (by rw [hmz, hz]) hy1)
          clear hz1 hz hmz hy hmk
          by_cases h128 : 128 ≤ x.toNat
          · have e4 := u8_and128_hi x h128
            have heq1 := Lib.hid (show numOf X = numFrom (6 - (k + 1)) (k + 1) mz (X.drop (k + 1)) by
              rw [heq.out, HD.out, show 6 - k = (6 - (k + 1)) + 1 by omega, numFrom, if_pos h128, HZ.out])
            clear heq HD HZ h128
            go_wp2_with fail
            go_roundw
            case rel => exact ⟨k + 1, mz, by omega, by go_num, rfl, hstep, heq1, d, rfl⟩
            case measure => simp [intOf]; omega
          · have e4 := u8_and128_lo x (by omega)
            have heq1 := Lib.hid (show numOf X = if (0 < k ∧ x.toNat = 0) ∨ 1099511627776 < mz then none else some (mz, k + 1) by
              rw [heq.out, HD.out, show 6 - k = (5 - k) + 1 by omega, numFrom, if_neg h128, HZ.out])
            clear heq HD HZ h128
            by_cases hz : 0 < k ∧ x.toNat = 0
            · have hfin := Lib.hid (show numOf X = none by rw [heq1.out, if_pos (.inl hz)])
              obtain ⟨hk0, hx0⟩ := hz
              have hx0' : ((x.toNat : Int) == 0) = true := by simp; omega
              clear heq1 hx0
              go_wp2_with fail
              go_ret2
              exact ⟨by rw [numV_none hfin.out, numS_none hfin.out]; rfl, d, rfl⟩
            · by_cases hbig : 1099511627776 < mz
              · have hfin := Lib.hid (show numOf X = none by rw [heq1.out, if_pos (.inr hbig)])
                have hb : isNumB (mz : Int) = false := isNumB_no (by omega)
                clear heq1
                by_cases hk0 : 0 < k
                · have hx0' : ((x.toNat : Int) == 0) = false := by simp; omega
                  clear hz
                  go_wp2_with (go_at_call 138; refine (isNum_any _ _).mono ?_; rintro e w' ⟨rfl, rfl⟩)
                  go_ret2
                  exact ⟨by rw [numV_none hfin.out, numS_none hfin.out]; rfl, d, rfl⟩
                · clear hz
                  go_wp2_with (go_at_call 138; refine (isNum_any _ _).mono ?_; rintro e w' ⟨rfl, rfl⟩)
                  go_ret2
                  exact ⟨by rw [numV_none hfin.out, numS_none hfin.out]; rfl, d, rfl⟩
              · have hfin := Lib.hid (show numOf X = some (mz, k + 1) by rw [heq1.out, if_neg (by omega)])
                have hb : isNumB (mz : Int) = true := isNumB_yes (by omega) (by omega)
                clear heq1
                by_cases hk0 : 0 < k
                · have hx0' : ((x.toNat : Int) == 0) = false := by simp; omega
                  clear hz
                  go_wp2_with (go_at_call 138; refine (isNum_any _ _).mono ?_; rintro e w' ⟨rfl, rfl⟩)
                  go_ret2
                  exact ⟨by rw [numV_some hfin.out, numS_some hfin.out]; rfl, d, rfl⟩
                · clear hz
                  go_wp2_with (go_at_call 138; refine (isNum_any _ _).mono ?_; rintro e w' ⟨rfl, rfl⟩)
                  go_ret2
                  exact ⟨by rw [numV_some hfin.out, numS_some hfin.out]; rfl, d, rfl⟩
        · have hfin := Lib.hid (show numOf X = none by
            have hk6 : k = 6 := by omega
            rw [heq.out, hk6]; rfl)
          go_wp2
          go_ret2
          exact ⟨by rw [numV_none hfin.out, numS_none hfin.out]; rfl, d, rfl⟩
end Go.Proofs.YtldgcoikbjbjeaaGreat
