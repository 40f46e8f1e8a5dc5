/- dev's own device, whole: Flush, Wake, Fuse, Crash. -/
import Derived.Test.YthmcmomkomhilaaDAdd
namespace Go.Proofs.Ythmcmomkomhilaa
open Go.RowKit Go.ChangeShapes
set_option linter.unusedVariables false

theorem Dv.flush_down {d : Dv} (h : d.down = true) : d.flush = (10, d) := by unfold Dv.flush; rw [if_pos h]
theorem Dv.flush_out {d : Dv} (h : d.down = false) (h1 : d.left = 1) : d.flush = (10, { d with left := 0, down := true }) := by
  unfold Dv.flush Dv.deed
  rw [if_neg (by rw [h]; decide), if_pos h1]
theorem Dv.flush_ok {d : Dv} (h : d.down = false) (h1 : d.left ≠ 1) : d.flush = (0, { all := wakeL (fun _ => true) 0 d.waits d.all, waits := [], left := d.left - 1, deeds := d.deeds + 1, down := d.down }) := by
  unfold Dv.flush Dv.deed
  rw [if_neg (by rw [h]; decide), if_neg h1]
theorem Dv.write_down {d : Dv} {s : Nat} {a : Int} {b : List UInt8} (h : d.down = true) : d.write s a b = (10, d) := by unfold Dv.write; rw [if_pos h]
theorem Dv.write_arg {d : Dv} {s : Nat} {a : Int} {b : List UInt8} (h : d.down = false) (h1 : a < 0 ∨ (s : Int) ≤ a ∨ 64 < b.length) : d.write s a b = (2, d) := by
  unfold Dv.write
  rw [if_neg (by rw [h]; decide), if_pos h1]
theorem Dv.write_out {d : Dv} {s : Nat} {a : Int} {b : List UInt8} (h : d.down = false) (h0 : ¬ (a < 0 ∨ (s : Int) ≤ a ∨ 64 < b.length)) (h1 : d.left = 1) : d.write s a b = (10, { d with left := 0, down := true }) := by
  unfold Dv.write Dv.deed
  rw [if_neg (by rw [h]; decide), if_neg h0, if_pos h1]
theorem Dv.write_ok {d : Dv} {s : Nat} {a : Int} {b : List UInt8} (h : d.down = false) (h0 : ¬ (a < 0 ∨ (s : Int) ≤ a ∨ 64 < b.length)) (h1 : d.left ≠ 1) : d.write s a b = (0, { all := d.all, waits := d.waits ++ [(a.toNat, full64 b)], left := d.left - 1, deeds := d.deeds + 1, down := d.down }) := by
  unfold Dv.write Dv.deed
  rw [if_neg (by rw [h]; decide), if_neg h0, if_neg h1]

/-- A device in memory. -/
structure DvM (w : World) (F : Nat → Prop) (g kb s : Nat) (vw : Value) (d : Dv) : Prop where
  head : ∃ l : Int, (d.down = false → l = d.left) ∧ 0 ≤ l ∧ l ≤ 9223372036854775807 ∧ DvH w g kb s vw d.deeds l d.down
  kept : BytT w kb 70 d.all
  wr : WrAt F w vw d.waits
  right : d.Right s
  sep : g ≠ kb ∧ ¬ F g ∧ ¬ F kb
  small : s ≤ 8192
theorem DvM.lt {w : World} {F : Nat → Prop} {g kb s : Nat} {vw : Value} {d : Dv} (h : DvM w F g kb s vw d) : g < w.heap.size ∧ kb < w.heap.size := by
  obtain ⟨l, _, _, _, hh⟩ := h.head
  exact ⟨hh.lt, h.kept.lt⟩
/-- .. in blocks of D. -/
def DevAt (w : World) (D : Nat → Prop) (g s : Nat) (d : Dv) : Prop := ∃ F kb vw, DvM w F g kb s vw d ∧ ∀ k, k = g ∨ k = kb ∨ F k → D k
theorem DevAt.keep {D S : Nat → Prop} {w w' : World} {g s : Nat} {d : Dv} (h : DevAt w D g s d) (hf : Fr S w w') (hd : ∀ k, k < w.heap.size → D k → ¬ S k) : DevAt w' D g s d := by
  obtain ⟨F, kb, vw, hm, hD⟩ := h
  obtain ⟨hg, hk⟩ := hm.lt
  obtain ⟨l, h1, h2, h3, hh⟩ := hm.head
  exact ⟨F, kb, vw, ⟨⟨l, h1, h2, h3, hh.keep hf (hd g hg (hD g (.inl rfl)))⟩, hf.heap hm.kept (hd kb hk (hD kb (.inr (.inl rfl)))), hm.wr.keep hf (fun k hk hF => hd k hk (hD k (.inr (.inr hF)))), hm.right, hm.sep, hm.small⟩, hD⟩
theorem DevAt.mono {D E : Nat → Prop} {w : World} {g s : Nat} {d : Dv} (h : DevAt w D g s d) (hd : ∀ k, k < w.heap.size → D k → E k) : DevAt w E g s d := by
  obtain ⟨F, kb, vw, hm, hD⟩ := h
  obtain ⟨hg, hk⟩ := hm.lt
  refine ⟨fun k => F k ∧ k < w.heap.size, kb, vw, ⟨hm.head, hm.kept, hm.wr.mono (fun k hk hF => ⟨hF, hk⟩), hm.right, ⟨hm.sep.1, fun h => hm.sep.2.1 h.1, fun h => hm.sep.2.2 h.1⟩, hm.small⟩, fun k hk' => ?_⟩
  rcases hk' with rfl | rfl | hk'
  · exact hd _ hg (hD _ (.inl rfl))
  · exact hd _ hk (hD _ (.inr (.inl rfl)))
  · exact hd _ hk'.2 (hD _ (.inr (.inr hk'.1)))
theorem DevAt.right {D : Nat → Prop} {w : World} {g s : Nat} {d : Dv} (h : DevAt w D g s d) : d.Right s := by
  obtain ⟨F, kb, vw, hm, hD⟩ := h
  exact hm.right
theorem DevAt.lt {D : Nat → Prop} {w : World} {g s : Nat} {d : Dv} (h : DevAt w D g s d) : g < w.heap.size ∧ D g := by
  obtain ⟨F, kb, vw, hm, hD⟩ := h
  exact ⟨hm.lt.1, hD g (.inl rfl)⟩
/-- Its own blocks, and new ones. -/
abbrev More (D : Nat → Prop) (w : World) : Nat → Prop := fun k => D k ∨ w.heap.size ≤ k
theorem Dv.Right.same {d e : Dv} {s : Nat} (h : d.Right s) (h1 : e.all = d.all) (h2 : e.waits = d.waits) : e.Right s := ⟨by rw [h1]; exact h.all, by rw [h2]; exact h.waits⟩

theorem aFuse {D : Nat → Prop} (w : World) (g s : Nat) (d : Dv) (n : Int) (hn : n ≤ 9223372036854775807) (hn0 : -9223372036854775808 ≤ n) (h : DevAt w D g s d) :
    Calls Try.prog 22 #[.pointer (some ⟨g, 0, none⟩), .int .i64 n] w fun e w' => e = .returned (.int .i64 (d.fuse n).1) ∧ DevAt w' (More D w) g s (d.fuse n).2 ∧ Fr D w w' := by
  obtain ⟨F, kb, vw, hm, hD⟩ := h
  obtain ⟨l, h1, h2, h3, hh⟩ := hm.head
  refine (dFuse_any w g kb s vw d.deeds l d.down n hn hn0 hh).mono ?_
  rintro e w' ⟨rfl, hh', hf⟩
  have hk' := hf.heap hm.kept (fun e => hm.sep.1 e.symm)
  have hw' := hm.wr.keep hf (fun k _ hF e => hm.sep.2.1 (e ▸ hF))
  have hfr := hf.mono (T := D) (fun k _ e => hD k (.inl e))
  unfold Dv.fuse
  cases hd : d.down with
  | true =>
    rw [hd] at hh'
    simp only [if_true] at hh' ⊢
    refine ⟨trivial, ⟨F, kb, vw, ⟨⟨l, fun h => (by rw [hd] at h; cases h), h2, h3, by rw [hd]; exact hh'⟩, hk', hw', hm.right, hm.sep, hm.small⟩, fun k hk => .inl (hD k hk)⟩, hfr⟩
  | false =>
    rw [hd] at hh'
    refine ⟨by rfl, ⟨F, kb, vw, ⟨⟨max n 0, fun _ => by simp, by omega, by omega, hh'⟩, hk', hw', hm.right.same rfl rfl, hm.sep, hm.small⟩, fun k hk => .inl (hD k hk)⟩, hfr⟩
theorem aCrash {D : Nat → Prop} (w : World) (g s : Nat) (d : Dv) (h : DevAt w D g s d) :
    Calls Try.prog 19 #[.pointer (some ⟨g, 0, none⟩)] w fun e w' => e = .returned (.int .i64 d.crash.1) ∧ DevAt w' (More D w) g s d.crash.2 ∧ Fr D w w' := by
  obtain ⟨F, kb, vw, hm, hD⟩ := h
  obtain ⟨l, h1, h2, h3, hh⟩ := hm.head
  refine (dCrash_any w g kb s vw d.deeds l d.down hh).mono ?_
  rintro e w' ⟨rfl, hh', hf⟩
  have hk' := hf.heap hm.kept (fun e => hm.sep.1 e.symm)
  have hw' := hm.wr.keep hf (fun k _ hF e => hm.sep.2.1 (e ▸ hF))
  have hfr := hf.mono (T := D) (fun k _ e => hD k (.inl e))
  unfold Dv.crash
  cases hd : d.down with
  | true =>
    simp only [if_true]
    exact ⟨trivial, ⟨F, kb, vw, ⟨⟨l, fun h => (by rw [hd] at h; cases h), h2, h3, by rw [hd]; exact hh'⟩, hk', hw', hm.right, hm.sep, hm.small⟩, fun k hk => .inl (hD k hk)⟩, hfr⟩
  | false => exact ⟨by rfl, ⟨F, kb, vw, ⟨⟨l, fun h => (by cases h), h2, h3, hh'⟩, hk', hw', hm.right.same rfl rfl, hm.sep, hm.small⟩, fun k hk => .inl (hD k hk)⟩, hfr⟩
theorem dSettle_any {F : Nat → Prop} {s : Nat} (w : World) (g kb : Nat) (L : List UInt8) (Wt : List Pend) (vw : Value) (k l : Int) (dn : Bool) (keep : Int) (hkp0 : -9223372036854775808 ≤ keep) (hkp1 : keep ≤ 9223372036854775807) (h : DvH w g kb s vw k l dn) (hL : BytT w kb 70 L) (hl : L.length = 64 * s) (hW : Pends s Wt)
    (hP : WrAt F w vw Wt) (hgF : ¬ F g) (hkF : ¬ F kb) (hne : g ≠ kb) (hs : s ≤ 8192) (hn6 : Wt.length ≤ 1000000) :
    Calls Try.prog 41 #[.pointer (some ⟨g, 0, none⟩), .int .i64 keep] w fun e w' => e = .returned (.tuple #[]) ∧ DvH w' g kb s (.slice none 0 0) k l dn ∧ BytT w' kb 70 (wakeL (bitOf keep) 0 Wt L) ∧ Fr (fun b => b = g ∨ b = kb) w w' := by
  obtain ⟨xs, rfl⟩ := exists_valsX Wt hW
  rw [wakeL_pick]
  exact callsIn_wide.1 (dSettle_in w g kb L xs vw k l dn keep hkp0 hkp1 h hL hl hP hgF hkF hne hs (by simpa [valsX] using hn6))
theorem wakeL_congr (f f' : Nat → Bool) (hf : ∀ i, f i = f' i) : ∀ (W : List Pend) (i : Nat) (K : List UInt8), wakeL f i W K = wakeL f' i W K
  | [], i, K => rfl
  | p :: W, i, K => by rw [wakeL, wakeL, wakeL_congr f f' hf W, hf i]

theorem aFlush {D : Nat → Prop} (w : World) (g s : Nat) (d : Dv) (hk6 : d.deeds ≤ 1000000000) (hn6 : d.waits.length ≤ 1000000) (h : DevAt w D g s d) :
    Calls Try.prog 16 #[.pointer (some ⟨g, 0, none⟩)] w fun e w' => e = .returned (.int .i64 d.flush.1) ∧ DevAt w' (More D w) g s d.flush.2 ∧ Fr D w w' := by
  have hR := h.right
  obtain ⟨F, kb, vw, hm, hD⟩ := h
  obtain ⟨l, h1, h2, h3, hh⟩ := hm.head
  have hc := dReady_any w g kb s vw d.deeds l d.down hh
  cases hd : d.down with
  | true =>
    rw [Dv.flush_down hd]
    rw [hd] at hc
    have HM := Lib.hid (show DevAt w (More D w) g s d from ⟨F, kb, vw, hm, fun k hk => .inl (hD k hk)⟩)
    clear hm hh hR h1
    go_enter Try.func16, Try.ntmps16
    go_wp2_with (go_at_call 37; refine hc.mono ?_; rintro e w1 ⟨rfl, rfl⟩)
    go_ret
    exact ⟨rfl, HM.out, Fr.refl _ _⟩
  | false =>
    have hl := h1 hd
    rw [hd] at hc hh
    have hde := dDeed_any w g kb s vw d.deeds l false (by omega) (by omega) h2 h3 hh
    by_cases e1 : d.left = 1
    · rw [Dv.flush_out hd e1]
      have el : l = 1 := by omega
      subst el
      have HDE := Lib.hid hde
      have HM := Lib.hid (And.intro hm (And.intro hD hR))
      clear hm hh hR h1 hde hl
      go_enter Try.func16, Try.ntmps16
      go_wp2_with (first
        | (go_at_call 37; refine hc.mono ?_; rintro e w1 ⟨rfl, rfl⟩)
        | (go_at_call 39; refine HDE.out.mono ?_; rintro e w1 ⟨rfl, hh, hf⟩; (have HS := Lib.hid (And.intro hh hf)); clear hh hf))
      go_ret
      obtain ⟨hm, hD, hR⟩ := HM.out
      obtain ⟨hh, hf⟩ := HS.out
      exact ⟨rfl, ⟨F, kb, vw, ⟨⟨1, fun h => (by cases h), by decide, by decide, hh⟩, hf.heap hm.kept (fun e => hm.sep.1 e.symm), hm.wr.keep hf (fun k _ hF e => hm.sep.2.1 (e ▸ hF)), hR.same rfl rfl, hm.sep, hm.small⟩, fun k hk => .inl (hD k hk)⟩, hf.mono (fun k _ e => hD k (.inl e))⟩
    · rw [Dv.flush_ok hd e1]
      have el : l ≠ 1 := by omega
      have et : decide (l ≠ 1) = true := by rw [decide_eq_true_iff]; exact el
      rw [et, if_neg el, if_neg el] at hde
      obtain ⟨l', hl'⟩ : ∃ l', l' = if l = 0 ∨ l = 1 then l else l - 1 := ⟨_, rfl⟩
      have hl2 : l' = ((d.left - 1 : Nat) : Int) := by rw [hl']; split <;> omega
      have hl3 : 0 ≤ l' ∧ l' ≤ 9223372036854775807 := by omega
      rw [← hl'] at hde
      have hst := fun W (hD : DvH W g kb s vw (d.deeds + 1) l' false) (hf : Fr (· = g) w W) => dSettle_any W g kb d.all d.waits vw (d.deeds + 1) l' false (-1) (by decide) (by decide) hD (hf.heap hm.kept (fun e => hm.sep.1 e.symm)) hR.all hR.waits (hm.wr.keep hf (fun k _ hF e => hm.sep.2.1 (e ▸ hF))) hm.sep.2.1 hm.sep.2.2 hm.sep.1 hm.small hn6
      have HDE := Lib.hid hde
      have HST := Lib.hid hst
      have HM := Lib.hid (And.intro hm (And.intro hD hR))
      have HL := Lib.hid (And.intro hl2 hl3)
      clear hm hh hR h1 hde hl hst hl2 hl3 hl'
      go_enter Try.func16, Try.ntmps16
      go_wp2_with (first
        | (go_at_call 37; refine hc.mono ?_; rintro e w1 ⟨rfl, rfl⟩)
        | (go_at_call 39; refine HDE.out.mono ?_; rintro e w1 ⟨rfl, hh, hf⟩; (have HS := Lib.hid (And.intro hh hf)); clear hh hf)
        | (go_at_call 41; refine (HST.out _ HS.out.1 HS.out.2).mono ?_; rintro e w2 ⟨rfl, hh, hb, hf⟩; (have HS2 := Lib.hid (And.intro hh (And.intro hb hf))); clear hh hb hf))
      go_ret
      obtain ⟨hm, hD, hR⟩ := HM.out
      obtain ⟨hh, hb, hf⟩ := HS2.out
      rw [wakeL_congr _ (fun _ => true) bitOf_all] at hb
      exact ⟨rfl, ⟨F, kb, _, ⟨⟨l', fun _ => HL.out.1, HL.out.2.1, HL.out.2.2, by rw [hd]; exact hh⟩, hb, WrAt.nil _ _, ⟨wakeL_length _ s d.waits 0 d.all hR.waits hR.all, fun p hp => by cases hp⟩, hm.sep, hm.small⟩, fun k hk => .inl (hD k hk)⟩, (HS.out.2.mono (fun k _ e => hD k (.inl e))).trans hf (fun k e => .inl (hD k (e.elim .inl (fun h => .inr (.inl h)))))⟩
theorem aWake {D : Nat → Prop} (w : World) (g s : Nat) (d : Dv) (keep : Int) (hkp0 : -9223372036854775808 ≤ keep) (hkp1 : keep ≤ 9223372036854775807) (hn6 : d.waits.length ≤ 1000000) (h : DevAt w D g s d) :
    Calls Try.prog 20 #[.pointer (some ⟨g, 0, none⟩), .int .i64 keep] w fun e w' => e = .returned (.int .i64 (d.wake keep).1) ∧ DevAt w' (More D w) g s (d.wake keep).2 ∧ Fr D w w' := by
  have hR := h.right
  obtain ⟨F, kb, vw, hm, hD⟩ := h
  obtain ⟨l, h1, h2, h3, hh⟩ := hm.head
  have hc := dReady_any w g kb s vw d.deeds l d.down hh
  unfold Dv.wake
  cases hd : d.down with
  | false =>
    rw [hd] at hc
    have HM := Lib.hid (show DevAt w (More D w) g s d from ⟨F, kb, vw, hm, fun k hk => .inl (hD k hk)⟩)
    clear hm hh hR h1
    go_enter Try.func20, Try.ntmps20
    go_wp2_with (go_at_call 37; refine hc.mono ?_; rintro e w1 ⟨rfl, rfl⟩)
    go_ret
    exact ⟨rfl, HM.out, Fr.refl _ _⟩
  | true =>
    rw [hd] at hc hh
    have hst := dSettle_any w g kb d.all d.waits vw d.deeds l true keep hkp0 hkp1 hh hm.kept hR.all hR.waits hm.wr hm.sep.2.1 hm.sep.2.2 hm.sep.1 hm.small hn6
    have hri := fun W h => dRise_any W g kb s (.slice none 0 0) d.deeds l true h
    have HST := Lib.hid hst
    have HRI := Lib.hid hri
    have HM := Lib.hid (And.intro hm (And.intro hD hR))
    clear hm hh hR h1 hst hri
    go_enter Try.func20, Try.ntmps20
    go_wp2_with (first
      | (go_at_call 37; refine hc.mono ?_; rintro e w1 ⟨rfl, rfl⟩)
      | (go_at_call 41; refine HST.out.mono ?_; rintro e w2 ⟨rfl, hh, hb, hf⟩; (have HS2 := Lib.hid (And.intro hh (And.intro hb hf))); clear hh hb hf)
      | (go_at_call 44; refine (HRI.out _ HS2.out.1).mono ?_; rintro e w3 ⟨rfl, hh, hf⟩; (have HS3 := Lib.hid (And.intro hh hf)); clear hh hf))
    go_ret
    obtain ⟨hm, hD, hR⟩ := HM.out
    obtain ⟨_, hb, hf⟩ := HS2.out
    obtain ⟨hh, hf3⟩ := HS3.out
    exact ⟨rfl, ⟨F, kb, _, ⟨⟨0, fun _ => rfl, by decide, by decide, hh⟩, hf3.heap hb (fun e => hm.sep.1 e.symm), WrAt.nil _ _, ⟨wakeL_length _ s d.waits 0 d.all hR.waits hR.all, fun p hp => by cases hp⟩, hm.sep, hm.small⟩, fun k hk => .inl (hD k hk)⟩, (hf.mono (fun k _ e => hD k (e.elim .inl (fun h => .inr (.inl h))))).trans hf3 (fun k e => .inl (hD k (.inl e)))⟩
end Go.Proofs.Ythmcmomkomhilaa
