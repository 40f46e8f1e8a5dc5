/- dev's own device, whole: New, Write, Read. -/
import Derived.Test.YthmcmomkomhilaaDOps
namespace Go.Proofs.Ythmcmomkomhilaa
open Go.RowKit Go.ChangeShapes
set_option linter.unusedVariables false

/-- A device of s sectors, made anew. -/
def Dv.new (s : Nat) : Dv := { all := List.replicate (64 * s) 0, waits := [], deeds := 0, left := 0, down := false }
theorem aNew (w : World) (s : Nat) (h1 : 1 ≤ s) (h2 : s ≤ 8192) :
    Calls Try.prog 9 #[.int .i64 s] w fun e w' => ∃ g, e = .returned (.tuple #[.pointer (some ⟨g, 0, none⟩), .int .i64 0]) ∧ DevAt w' (fun k => w.heap.size ≤ k) g s (Dv.new s) ∧ Fr (fun _ => False) w w' := by
  refine (dNew_yes w s h1 h2).mono ?_
  rintro e w' ⟨g, kb, rfl, hg, hk, hne, hh, hb, hf⟩
  exact ⟨g, rfl, ⟨fun _ => False, kb, _, ⟨⟨0, fun _ => rfl, by decide, by decide, hh⟩, hb, WrAt.nil _ _, ⟨by simp [Dv.new], fun p hp => by cases hp⟩, ⟨hne, id, id⟩, h2⟩, fun k hk' => by
    rcases hk' with rfl | rfl | h
    · exact hg
    · exact hk
    · exact h.elim⟩, hf⟩

set_option maxHeartbeats 1000000 in
theorem aWrite {D G : Nat → Prop} (w : World) (g s : Nat) (d : Dv) (a : Int) (vb : Value) (b : List UInt8) (ha0 : -9223372036854775808 ≤ a) (ha1 : a ≤ 9223372036854775807) (hk6 : d.deeds ≤ 1000000000) (hn6 : d.waits.length + 1 ≤ 1000000) (hb : BytesIn G w vb b) (hG : ∀ k, k < w.heap.size → G k → ¬ D k) (h : DevAt w D g s d) :
    Calls Try.prog 14 #[.pointer (some ⟨g, 0, none⟩), .int .i64 a, vb] w fun e w' => e = .returned (.int .i64 (d.write s a b).1) ∧ DevAt w' (More D w) g s (d.write s a b).2 ∧ Fr D w w' := by
  have hR := h.right
  have hgD := h.lt
  obtain ⟨F, kb, vw, hm, hD⟩ := h
  obtain ⟨l, h1, h2, h3, hh⟩ := hm.head
  have hc := dReady_any w g kb s vw d.deeds l d.down hh
  obtain ⟨ab, cb, hvb⟩ : ∃ ao cap, vb = .slice ao b.length cap := by obtain ⟨x, y, hx, _⟩ := hb; exact ⟨x, y, hx⟩
  subst hvb
  have HM0 := Lib.hid (show DevAt w (More D w) g s d from ⟨F, kb, vw, hm, fun k hk => .inl (hD k hk)⟩)
  cases hd : d.down with
  | true =>
    rw [Dv.write_down hd]
    rw [hd] at hc
    clear hm hh hR h1 hb
    go_enter Try.func14, Try.ntmps14
    go_wp2_with (go_at_call 37; refine hc.mono ?_; rintro e w1 ⟨rfl, rfl⟩)
    go_ret
    exact ⟨rfl, HM0.out, Fr.refl _ _⟩
  | false =>
    have hl := h1 hd
    rw [hd] at hc hh
    have hha := dHas_any w g kb s vw d.deeds l false a hh
    obtain ⟨q, hq⟩ : ∃ q, q = b.length := ⟨_, rfl⟩
    by_cases h0 : a < 0 ∨ (s : Int) ≤ a ∨ 64 < b.length
    · rw [Dv.write_arg hd h0]
      by_cases hs : 0 ≤ a ∧ a < (s : Int)
      · rw [show decide (0 ≤ a ∧ a < (s : Int)) = true by rw [decide_eq_true_iff]; exact hs] at hha
        have hbl : 64 < q := by omega
        have hd1 : decide (64 < (q : Int)) = true := by rw [decide_eq_true_iff]; omega
        have hd2 : decide (64 < q) = true := by rw [decide_eq_true_iff]; omega
        rw [← hq] at *
        clear hm hh hR h1 hb h0 hs hl hq
        go_enter Try.func14, Try.ntmps14
        go_wp2_with (first
          | (go_at_call 37; refine hc.mono ?_; rintro e w1 ⟨rfl, rfl⟩)
          | (go_at_call 38; refine hha.mono ?_; rintro e w1 ⟨rfl, rfl⟩))
        go_ret
        exact ⟨rfl, HM0.out, Fr.refl _ _⟩
      · rw [show decide (0 ≤ a ∧ a < (s : Int)) = false by rw [decide_eq_false_iff_not]; exact hs] at hha
        clear hm hh hR h1 hb h0 hs hl hq
        go_enter Try.func14, Try.ntmps14
        go_wp2_with (first
          | (go_at_call 37; refine hc.mono ?_; rintro e w1 ⟨rfl, rfl⟩)
          | (go_at_call 38; refine hha.mono ?_; rintro e w1 ⟨rfl, rfl⟩))
        go_ret
        exact ⟨rfl, HM0.out, Fr.refl _ _⟩
    · have hs : 0 ≤ a ∧ a < (s : Int) := by omega
      rw [show decide (0 ≤ a ∧ a < (s : Int)) = true by rw [decide_eq_true_iff]; exact hs] at hha
      have hbl : ¬ 64 < q := by omega
      have hd1 : decide (64 < (q : Int)) = false := by rw [decide_eq_false_iff_not]; omega
      have hd2 : decide (64 < q) = false := by rw [decide_eq_false_iff_not]; omega
      have hde := dDeed_any w g kb s vw d.deeds l false (by omega) (by omega) h2 h3 hh
      obtain ⟨n, hn⟩ : ∃ n : Nat, a = n := ⟨a.toNat, by omega⟩
      by_cases e1 : d.left = 1
      · rw [Dv.write_out hd h0 e1]
        have el : l = 1 := by omega
        subst el
        have HDE := Lib.hid hde
        have HM := Lib.hid (And.intro hm (And.intro hD hR))
        rw [← hq] at *
        clear hm hh hR h1 hde hl hb h0 hs hq hn
        go_enter Try.func14, Try.ntmps14
        go_wp2_with (first
          | (go_at_call 37; refine hc.mono ?_; rintro e w1 ⟨rfl, rfl⟩)
          | (go_at_call 38; refine hha.mono ?_; rintro e w1 ⟨rfl, rfl⟩)
          | (go_at_call 39; refine HDE.out.mono ?_; rintro e w1 ⟨rfl, hh, hf⟩; (have HS := Lib.hid (And.intro hh hf)); clear hh hf))
        go_ret
        obtain ⟨hm, hD, hR⟩ := HM.out
        obtain ⟨hh, hf⟩ := HS.out
        exact ⟨rfl, ⟨F, kb, vw, ⟨⟨1, fun h => (by cases h), by decide, by decide, hh⟩, hf.heap hm.kept (fun e => hm.sep.1 e.symm), hm.wr.keep hf (fun k _ hF e => hm.sep.2.1 (e ▸ hF)), hR.same rfl rfl, hm.sep, hm.small⟩, fun k hk => .inl (hD k hk)⟩, hf.mono (fun k _ e => hD k (.inl e))⟩
      · rw [Dv.write_ok hd h0 e1]
        have hRW := hR.write a b
        rw [Dv.write_ok hd h0 e1] at hRW
        have el : l ≠ 1 := by omega
        have et : decide (l ≠ 1) = true := by rw [decide_eq_true_iff]; exact el
        rw [et, if_neg el, if_neg el] at hde
        obtain ⟨l', hl'⟩ : ∃ l', l' = if l = 0 ∨ l = 1 then l else l - 1 := ⟨_, rfl⟩
        have hl2 : l' = ((d.left - 1 : Nat) : Int) := by rw [hl']; split <;> omega
        have hl3 : 0 ≤ l' ∧ l' ≤ 9223372036854775807 := by omega
        rw [← hl'] at hde
        subst hn
        have had := fun W (hD2 : DvH W g kb s vw (d.deeds + 1) l' false) (hf : Fr (· = g) w W) => dAdd_any (G := fun k => G k ∧ k < w.heap.size) W g kb s n vw (.slice ab b.length cb) d.waits b (d.deeds + 1) l' false hD2 (hm.wr.keep hf (fun k _ hF e => hm.sep.2.1 (e ▸ hF)))
          ((hb.mono (G := fun k => G k ∧ k < w.heap.size) (fun k hk hg => ⟨hg, hk⟩)).keep hf (fun k hk hg e => hG k hk hg.1 (e ▸ hgD.2))) (fun i hi => ⟨Nat.lt_of_lt_of_le hi.2 hf.size, fun e => hG i hi.2 hi.1 (e ▸ hgD.2)⟩) (by omega) hm.sep.2.1 hn6
        have HDE := Lib.hid hde
        have HAD := Lib.hid had
        have HM := Lib.hid (And.intro hm (And.intro hD (And.intro hR hRW)))
        have HL := Lib.hid (And.intro hl2 hl3)
        rw [← hq] at *
        clear hm hh hR h1 hde hl hb h0 hs had hl2 hl3 hl' hRW hq
        go_enter Try.func14, Try.ntmps14
        go_wp2_with (first
          | (go_at_call 37; refine hc.mono ?_; rintro e w1 ⟨rfl, rfl⟩)
          | (go_at_call 38; refine hha.mono ?_; rintro e w1 ⟨rfl, rfl⟩)
          | (go_at_call 39; refine HDE.out.mono ?_; rintro e w1 ⟨rfl, hh, hf⟩; (have HS := Lib.hid (And.intro hh hf)); clear hh hf)
          | (go_at_call 40; refine (HAD.out _ HS.out.1 HS.out.2).mono ?_; rintro e w2 ⟨rfl, vw2, hh, hp, hf⟩; (have HS2 := Lib.hid (And.intro hh (And.intro hp hf))); clear hh hp hf))
        go_ret
        obtain ⟨hm, hD, hR, hRW⟩ := HM.out
        obtain ⟨hh, hp, hf⟩ := HS2.out
        have hlt := hm.lt
        have hsz := HS.out.2.size
        have hkb : BytT w2 kb 70 d.all := hf.heap (HS.out.2.heap hm.kept (fun e => hm.sep.1 e.symm)) (fun e => e.elim (fun e => hm.sep.1 e.symm) hm.sep.2.2)
        refine ⟨rfl, ⟨fun k => F k ∨ w1.heap.size ≤ k, kb, vw2, ⟨⟨l', fun _ => HL.out.1, HL.out.2.1, HL.out.2.2, by rw [hd]; exact hh⟩, hkb, by simpa using hp, hRW, ⟨hm.sep.1, fun h => h.elim hm.sep.2.1 (fun h => by omega), fun h => h.elim hm.sep.2.2 (fun h => by omega)⟩, hm.small⟩, fun k hk => ?_⟩, (HS.out.2.mono (T := D) (fun k _ e => hD k (.inl e))).trans hf (fun k e => .inl (hD k (e.elim .inl (fun h => .inr (.inr h)))))⟩
        rcases hk with hk | hk | hk | hk
        · exact .inl (hD k (.inl hk))
        · exact .inl (hD k (.inr (.inl hk)))
        · exact .inl (hD k (.inr (.inr hk)))
        · exact .inr (by omega)
end Go.Proofs.Ythmcmomkomhilaa
