/- Contracts of the kit's plain helpers: Pick, SameBytes. -/
import Derived.Test.YthmcmomkomhilaaBase
import Derived.WalkLawsBesides
import Derived.WalkSpells
import Derived.Deep.QuietTactic
import Derived.BigQuiet
import Derived.Outline
import Derived.Lib.Hide
namespace Go.Proofs.Ythmcmomkomhilaa
open Go.RowKit Go.ChangeShapes
set_option linter.unusedVariables false

theorem ret_int {k : IntKind} {a b : Int} (h : a = b) : Ending.returned (.int k a) = .returned (.int k b) := by rw [h]
theorem ret_bool {a b : Bool} (h : a = b) : Ending.returned (.bool a) = .returned (.bool b) := by rw [h]

theorem mod_neg (x n : Int) (h1 : 1 ≤ n) (h : x.tmod n < 0) : x.tmod n + n = x % n := by
  have e : x.tmod n = x % n - (if 0 ≤ x ∨ n ∣ x then 0 else n.natAbs) := Int.tmod_eq_emod (a := x) (b := n)
  have hp := Int.emod_nonneg x (show n ≠ 0 by omega)
  split at e <;> omega
theorem mod_pos (x n : Int) (h1 : 1 ≤ n) (h : ¬ x.tmod n < 0) : x.tmod n = x % n := by
  have e : x.tmod n = x % n - (if 0 ≤ x ∨ n ∣ x then 0 else n.natAbs) := Int.tmod_eq_emod (a := x) (b := n)
  have hp := Int.emod_lt_of_pos x (show 0 < n by omega)
  split at e <;> omega

theorem pick_any (x n : Int) (w : World) (h1 : 1 ≤ n) (h2 : n ≤ 1000000) (hx : -9223372036854775808 ≤ x) (hx2 : x ≤ 9223372036854775807) :
    Calls Try.prog 15 #[.int .i64 x, .int .i64 n] w fun e w' => e = .returned (.int .i64 (x % n)) ∧ w = w' := by
  have hb : -n < x.tmod n ∧ x.tmod n < n := by
    constructor
    · have := Int.lt_tmod_of_pos x (show 0 < n by omega); omega
    · exact Int.tmod_lt_of_pos x (by omega)
  obtain ⟨b1, b2⟩ := hb
  have hn : ¬ n < 1 := by omega
  by_cases h : x.tmod n < 0
  · have HE := Lib.hid (mod_neg x n h1 h)
    go_enter Try.func15, Try.ntmps15
    go_wp2
    go_ret
    exact ⟨ret_int HE.out, rfl⟩
  · have HE := Lib.hid (mod_pos x n h1 h)
    go_enter Try.func15, Try.ntmps15
    go_wp2
    go_ret
    exact ⟨ret_int HE.out, rfl⟩
/-- Are two rows of bytes the same? Not unfolded by a walk. -/
def sameB (A B : List UInt8) : Bool := decide (A = B)
theorem sameB_eq {A B : List UInt8} (h : A = B) : sameB A B = true := by simp [sameB, h]
theorem sameB_ne {A B : List UInt8} (h : A ≠ B) : sameB A B = false := by simp [sameB, h]

theorem addr_plain (b o i : Nat) : (⟨b, o, none⟩ : Addr).add i = ⟨b, o + i, none⟩ := by unfold Addr.add; split <;> simp_all
/-- The cells of bytes, at plain addresses. -/
theorem BytesIn.plain {F : Nat → Prop} {w : World} {v : Value} {L : List UInt8} (h : BytesIn F w v L) (hL : L ≠ []) :
    ∃ b off cap, v = .slice (some ⟨b, off, none⟩) L.length cap ∧ L.length ≤ cap ∧ cap ≤ maxLen ∧ F b ∧ ∀ j (hj : j < L.length), w.cell? ⟨b, off + j, none⟩ = some (bv L[j]) := by
  obtain ⟨ao, cap, rfl, h1, hm, h2, h3⟩ := h
  obtain ⟨x, r, rfl⟩ := List.exists_cons_of_ne_nil hL
  cases ao with
  | none => have := h2 rfl; simp at h1; omega
  | some a =>
    obtain ⟨b, off, spot⟩ := a
    have hc := (h3 _ rfl).1
    have hs : spot = none := by simpa [Addr.add] using World.cell?_spot (hc 0 (bv x) rfl)
    subst hs
    refine ⟨b, off, cap, rfl, h1, hm, (h3 _ rfl).2 hL, fun j hj => ?_⟩
    have := hc j (bv (x :: r)[j]) (by rw [List.getElem?_map, List.getElem?_eq_getElem hj]; rfl)
    rwa [addr_plain] at this

set_option maxHeartbeats 400000 in
theorem same_any {F G : Nat → Prop} (v u : Value) (A B : List UInt8) (w : World) (hA : BytesIn F w v A) (hB : BytesIn G w u B) :
    Calls Try.prog 18 #[v, u] w fun e w' => e = .returned (.bool (sameB A B)) ∧ ∃ n, w' = w.drewN n := by
  by_cases hl : A.length = B.length
  · by_cases hn : A = []
    · subst hn
      obtain rfl : B = [] := List.eq_nil_of_length_eq_zero (by simpa using hl.symm)
      obtain ⟨ao, cap, rfl, _⟩ := hA
      obtain ⟨ao', cap', rfl, _⟩ := hB
      clear hl
      go_enter Try.func18, Try.ntmps18
      go_wp2
      refine wp_loop_rounds 1 ?_
      rw [rounds_succ]
      go_wp2
      go_ret
      exact ⟨ret_bool (sameB_eq rfl).symm, 0, rfl⟩
    · obtain ⟨b, off, cap, rfl, h1, hm, _, hc⟩ := hA.plain hn
      obtain ⟨b', off', cap', rfl, h1', hm', _, hc'⟩ := hB.plain (fun h => by subst h; simp at hl; exact hn hl)
      obtain ⟨n, hn'⟩ : ∃ n, n = A.length := ⟨_, rfl⟩
      have hlb : n = B.length := by omega
      clear hA hB hn hl
      rw [← hn'] at h1 ⊢
      rw [← hlb] at h1' ⊢
      have hcA : ∀ j, j < n → w.cell? ⟨b, off + j, none⟩ = some (.int .u8 (A.getD j 0).toNat) := fun j hj => by
        rw [hc j (by omega)]; simp [bv, List.getD, List.getElem?_eq_getElem (show j < A.length by omega)]
      have hcB : ∀ j, j < n → w.cell? ⟨b', off' + j, none⟩ = some (.int .u8 (B.getD j 0).toNat) := fun j hj => by
        rw [hc' j (by omega)]; simp [bv, List.getD, List.getElem?_eq_getElem (show j < B.length by omega)]
      clear hc hc'
      have hnm : n ≤ 9223372036854775807 := by unfold maxLen at hm; omega
      have HA := Lib.hid hn'; have HB := Lib.hid hlb
      clear hn' hlb hm hm'
      go_enter Try.func18, Try.ntmps18
      go_wp2
      go_loopw [5] (fun i wr => ∃ k : Nat, k ≤ n ∧ i = .int .i64 k ∧ Hid (A.take k = B.take k) ∧ ∃ m, wr = w.drewN m) (fun i _ => n - (intOf i).toNat)
      case atStart => exact ⟨0, by omega, rfl, Lib.hid rfl, 0, rfl⟩
      case round =>
        obtain ⟨k, hk, rfl, heq, m, rfl⟩ := hrel
        by_cases hlt : k < n
        · have h0 := hcA k hlt
          have h0' := hcB k hlt
          have hA1 : A.take (k + 1) = A.take k ++ [A.getD k 0] := by
            rw [List.take_succ_eq_append_getElem (by have := HA.out; omega)]; simp [List.getD, List.getElem?_eq_getElem (show k < A.length by have := HA.out; omega)]
          have hB1 : B.take (k + 1) = B.take k ++ [B.getD k 0] := by
            rw [List.take_succ_eq_append_getElem (by have := HB.out; omega)]; simp [List.getD, List.getElem?_eq_getElem (show k < B.length by have := HB.out; omega)]
          obtain ⟨x, hx⟩ : ∃ x, x = A.getD k 0 := ⟨_, rfl⟩
          obtain ⟨y, hy⟩ : ∃ y, y = B.getD k 0 := ⟨_, rfl⟩
          rw [← hx] at h0 hA1
          rw [← hy] at h0' hB1
          clear hcA hcB hx hy
          by_cases hxy : x = y
          · subst hxy
            have heq1 := Lib.hid (show A.take (k + 1) = B.take (k + 1) by rw [hA1, hB1, heq.out])
            clear hA1 hB1
            go_wp2_with fail
            go_quiet (fail)
            go_wp2
            go_roundw
            case rel => exact ⟨k + 1, by omega, by go_num, heq1, _, rfl⟩
            case measure => simp [intOf]; omega
          · have hne : ((x.toNat : Int) != (y.toNat : Int)) = true := by
              rw [bne_iff_ne]; intro h; exact hxy (UInt8.toNat_inj.1 (by omega))
            have hf := Lib.hid (show sameB A B = false by
              refine sameB_ne fun h => hxy ?_
              have := congrArg (List.take (k + 1)) h
              rw [hA1, hB1, heq.out] at this
              simpa using this)
            clear hA1 hB1 hxy
            go_wp2_with fail
            go_quiet (fail)
            go_wp2
            go_ret
            exact ⟨ret_bool hf.out.symm, m + nq, World.drewN_drewN ..⟩
        · have hkn := Lib.hid (show k = n by omega)
          go_wp2
          go_ret
          refine ⟨ret_bool (sameB_eq ?_).symm, _, rfl⟩
          have := heq.out
          rwa [hkn.out, List.take_of_length_le (by have := HA.out; omega), List.take_of_length_le (by have := HB.out; omega)] at this
  · obtain ⟨ao, cap, rfl, hA1, hA2, _⟩ := hA
    obtain ⟨ao', cap', rfl, hB1, hB2, _⟩ := hB
    have hne : ((A.length : Int) != (B.length : Int)) = true := by rw [bne_iff_ne]; omega
    have hf := Lib.hid (sameB_ne (fun h => hl (by rw [h]) : A ≠ B))
    clear hl
    go_enter Try.func18, Try.ntmps18
    go_wp2
    go_ret
    exact ⟨ret_bool hf.out.symm, 0, rfl⟩
end Go.Proofs.Ythmcmomkomhilaa
