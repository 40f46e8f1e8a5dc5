/- Spoil: a bit of what is kept turned, on both sides. -/
import Derived.Test.YthmcmomkomhilaaDOps
import Derived.StillTailTactics
namespace Go.Proofs.Ythmcmomkomhilaa
open Go.RowKit Go.ChangeShapes
set_option linter.unusedVariables false

/-- Byte x, its bit r turned. -/
def flipB (x : UInt8) (r : Nat) : UInt8 := UInt8.ofNat (bits BinOp.xor .u8 (x.toNat : Int) (IntKind.u8.wrap (2 ^ r))).toNat
theorem flipB_val (x : UInt8) (r : Nat) : ((flipB x r).toNat : Int) = bits BinOp.xor .u8 (x.toNat : Int) (IntKind.u8.wrap (2 ^ r)) := by
  have h0 : ∀ a b : Int, 0 ≤ bits BinOp.xor .u8 a b ∧ bits BinOp.xor .u8 a b < 256 := fun a b => by
    show 0 ≤ IntKind.u8.wrap _ ∧ IntKind.u8.wrap _ < 256
    rw [IntKind.wrap_u8]
    omega
  have := h0 (x.toNat : Int) (IntKind.u8.wrap (2 ^ r))
  rw [flipB, UInt8.toNat_ofNat']
  omega
/-- Bit of sector a turned, n = 8 * the byte + its bit. -/
def flipAt (L : List UInt8) (a n : Nat) : List UInt8 := L.set (64 * a + n / 8) (flipB (L.getD (64 * a + n / 8) 0) (n % 8))
def Dv.spoil (d : Dv) (s : Nat) (a n : Int) : Int × Dv := if (0 ≤ a ∧ a < (s : Int)) ∧ 0 ≤ n ∧ n < 512 then (0, { d with all := flipAt d.all a.toNat n.toNat }) else (2, d)
theorem Dv.Right.spoil {d : Dv} {s : Nat} (h : d.Right s) (a n : Int) : (d.spoil s a n).2.Right s := by
  unfold Dv.spoil
  split
  · exact ⟨by simp [flipAt, h.all], h.waits⟩
  · exact h

set_option maxRecDepth 100000 in
set_option maxHeartbeats 2000000 in
theorem dSpoil_ok (w : World) (g kb s : Nat) (vw : Value) (k l : Int) (dn : Bool) (L : List UInt8) (a n : Nat) (h : DvH w g kb s vw k l dn) (hL : BytT w kb 70 L) (hl : L.length = 64 * s) (hs : s ≤ 8192) (ha : a < s) (hn : n < 512) :
    Calls Try.prog 34 #[.pointer (some ⟨g, 0, none⟩), .int .i64 a, .int .i64 n] w fun e w' => e = .returned (.int .i64 0) ∧ BytT w' kb 70 (flipAt L a n) ∧ Fr (· = kb) w w' := by
  have hc := dIs_yes w g kb s vw k l dn h
  have hh := dHas_any w g kb s vw k l dn (a : Int) h
  rw [show decide (0 ≤ (a : Int) ∧ (a : Int) < (s : Int)) = true by rw [decide_eq_true_iff]; omega] at hh
  obtain ⟨_, _, _, _, h4, _⟩ := h.cells
  obtain ⟨q, hq⟩ : ∃ q, q = n / 8 := ⟨_, rfl⟩
  obtain ⟨r, hr⟩ : ∃ r, r = n % 8 := ⟨_, rfl⟩
  obtain ⟨m, hm⟩ : ∃ m, m = 64 * a + q := ⟨_, rfl⟩
  obtain ⟨x, hx⟩ : ∃ x, x = L.getD m 0 := ⟨_, rfl⟩
  have hq64 : q < 64 := by omega
  have hr8 : r < 8 := by omega
  have hml : m < L.length := by omega
  have eq1 : (n : Int) / 8 = (q : Int) := by omega
  have eq2 : (n : Int).tdiv 8 = (q : Int) := by rw [Int.tdiv_eq_ediv_of_nonneg (by omega)]; exact eq1
  have er1 : (n : Int) % 8 = (r : Int) := by omega
  have er2 : (n : Int).tmod 8 = (r : Int) := by rw [Int.tmod_eq_emod_of_nonneg (by omega)]; exact er1
  have cm := hL.cell m hml
  rw [← hx] at cm
  have fm := hL.free m
  have hFL : flipAt L a n = L.set m (flipB x r) := by rw [flipAt, ← hq, ← hr, ← hm, ← hx]
  have HS := Lib.hid (show BytT (w.drew.setCell ⟨kb, m, none⟩ (.int .u8 (bits BinOp.xor .u8 (x.toNat : Int) (IntKind.u8.wrap (2 ^ r))))) kb 70 (flipAt L a n) by
    rw [hFL]
    have h : BytT w.drew kb 70 L := hL
    exact h.set_ m _ _ ((flipB_val x r).symm))
  have d1 : decide ((n : Int) < 0) = false := by rw [decide_eq_false_iff_not]; omega
  have d2 : decide ((512 : Int) ≤ (n : Int)) = false := by rw [decide_eq_false_iff_not]; omega
  have d3 : decide (512 ≤ n) = false := by rw [decide_eq_false_iff_not]; omega
  have ba : (a : Int) < (s : Int) := by omega
  have ba0 : (0 : Int) ≤ (a : Int) := by omega
  have bq : (q : Int) < 64 := by omega
  have bq0 : (0 : Int) ≤ (q : Int) := by omega
  have tq : (q : Int).toNat = q := by omega
  have sr8 : (r : Int) < 8 := by omega
  have sr0 : (0 : Int) ≤ (r : Int) := by omega
  have tnr : (r : Int).toNat = r := by omega
  have wq : IntKind.i64.wrap (q : Int) = (q : Int) := IntWalk.i64_in _ (by omega)
  have wr8 : IntKind.i64.wrap (r : Int) = (r : Int) := IntWalk.i64_in _ (by omega)
  have ta : (a : Int).toNat = a := by omega
  have hm2 : a * 64 + q = m := by omega
  have HC := Lib.hid hc
  have HH := Lib.hid hh
  clear h hL hl hs ha hn hc hh hq hr hm hx hFL hml er1 eq1
  go_enter Try.func34, Try.ntmps34
  go_wp2_with (first
    | (go_at_call 42; refine HC.out.mono ?_; rintro e w1 ⟨rfl, rfl⟩)
    | (go_at_call 38; refine HH.out.mono ?_; rintro e w1 ⟨rfl, rfl⟩))
  go_still_tail 16, (by kernel_rfl)
  go_wp2
  go_ret
  exact ⟨rfl, HS.out, (Fr.refl (· = kb) w).drew.setCell (p := ⟨kb, m, none⟩) (.inl rfl) _⟩
theorem dSpoil_arg (w : World) (g kb s : Nat) (vw : Value) (k l : Int) (dn : Bool) (a n : Int) (h : DvH w g kb s vw k l dn) (hn : ¬ ((0 ≤ a ∧ a < (s : Int)) ∧ 0 ≤ n ∧ n < 512)) :
    Calls Try.prog 34 #[.pointer (some ⟨g, 0, none⟩), .int .i64 a, .int .i64 n] w fun e w' => e = .returned (.int .i64 2) ∧ w = w' := by
  have HC := Lib.hid (dIs_yes w g kb s vw k l dn h)
  have hh := dHas_any w g kb s vw k l dn a h
  clear h
  by_cases h1 : 0 ≤ a ∧ a < (s : Int)
  · rw [show decide (0 ≤ a ∧ a < (s : Int)) = true by rw [decide_eq_true_iff]; exact h1] at hh
    have HH := Lib.hid hh
    by_cases h2 : n < 0
    · have d1 : decide (n < 0) = true := by rw [decide_eq_true_iff]; exact h2
      clear h1 h2 hn hh
      go_enter Try.func34, Try.ntmps34
      go_wp2_with (first
        | (go_at_call 42; refine HC.out.mono ?_; rintro e w1 ⟨rfl, rfl⟩)
        | (go_at_call 38; refine HH.out.mono ?_; rintro e w1 ⟨rfl, rfl⟩))
      go_ret
      exact ⟨rfl, rfl⟩
    · have d1 : decide (n < 0) = false := by rw [decide_eq_false_iff_not]; exact h2
      have d2 : decide (512 ≤ n) = true := by rw [decide_eq_true_iff]; omega
      clear h1 h2 hn hh
      go_enter Try.func34, Try.ntmps34
      go_wp2_with (first
        | (go_at_call 42; refine HC.out.mono ?_; rintro e w1 ⟨rfl, rfl⟩)
        | (go_at_call 38; refine HH.out.mono ?_; rintro e w1 ⟨rfl, rfl⟩))
      go_ret
      exact ⟨rfl, rfl⟩
  · rw [show decide (0 ≤ a ∧ a < (s : Int)) = false by rw [decide_eq_false_iff_not]; exact h1] at hh
    have HH := Lib.hid hh
    clear h1 hn hh
    go_enter Try.func34, Try.ntmps34
    go_wp2_with (first
      | (go_at_call 42; refine HC.out.mono ?_; rintro e w1 ⟨rfl, rfl⟩)
      | (go_at_call 38; refine HH.out.mono ?_; rintro e w1 ⟨rfl, rfl⟩))
    go_ret
    exact ⟨rfl, rfl⟩
theorem aSpoil {D : Nat → Prop} (w : World) (g s : Nat) (d : Dv) (a n : Int) (h : DevAt w D g s d) :
    Calls Try.prog 34 #[.pointer (some ⟨g, 0, none⟩), .int .i64 a, .int .i64 n] w fun e w' => e = .returned (.int .i64 (d.spoil s a n).1) ∧ DevAt w' (More D w) g s (d.spoil s a n).2 ∧ Fr D w w' := by
  have hR := h.right
  obtain ⟨F, kb, vw, hm, hD⟩ := h
  obtain ⟨l, h1, h2, h3, hh⟩ := hm.head
  unfold Dv.spoil
  by_cases hok : (0 ≤ a ∧ a < (s : Int)) ∧ 0 ≤ n ∧ n < 512
  · rw [if_pos hok]
    obtain ⟨a, rfl⟩ : ∃ x : Nat, a = x := ⟨a.toNat, by omega⟩
    obtain ⟨n, rfl⟩ : ∃ x : Nat, n = x := ⟨n.toNat, by omega⟩
    refine (dSpoil_ok w g kb s vw d.deeds l d.down d.all a n hh hm.kept hR.all hm.small (by omega) (by omega)).mono ?_
    rintro e w' ⟨rfl, hb, hf⟩
    have hfr := hf.mono (T := D) (fun k _ e => hD k (.inr (.inl e)))
    exact ⟨rfl, ⟨F, kb, vw, ⟨⟨l, h1, h2, h3, hh.keep hf hm.sep.1⟩, hb, hm.wr.keep hf (fun k _ hF e => hm.sep.2.2 (e ▸ hF)), ⟨by simp [flipAt, hR.all], hR.waits⟩, hm.sep, hm.small⟩, fun k hk => .inl (hD k hk)⟩, hfr⟩
  · rw [if_neg hok]
    refine (dSpoil_arg w g kb s vw d.deeds l d.down a n hh hok).mono ?_
    rintro e w' ⟨rfl, rfl⟩
    exact ⟨rfl, ⟨F, kb, vw, hm, fun k hk => .inl (hD k hk)⟩, Fr.refl _ _⟩
end Go.Proofs.Ythmcmomkomhilaa
