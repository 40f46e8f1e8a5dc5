/- Laid together: RefAt -/
import Derived.Test.YtcbbcihfooaggaaBe18

namespace Go.Proofs.Ytcbbcihfooaggaa
open Go.RowKit Go.ChangeShapes
set_option linter.unusedVariables false
structure RfM (w : World) (F : Nat → Prop) (g ga s : Nat) (vw : Value) (d : Dv) : Prop where
  head : DevH w g (.slice (some ⟨ga, 0, none⟩) (64 * s) (64 * s)) vw d.deeds (d.left : Nat) d.down
  left : d.left ≤ 9223372036854775807
  kept : BytT w ga 5 d.all
  pend : PendAt F w vw d.waits
  right : d.Right s
  sep : g ≠ ga ∧ ¬ F g ∧ ¬ F ga
  small : s ≤ 8192
theorem RfM.lt {w : World} {F : Nat → Prop} {g ga s : Nat} {vw : Value} {d : Dv} (h : RfM w F g ga s vw d) : g < w.heap.size ∧ ga < w.heap.size := ⟨lt_of_block h.head, lt_of_block h.kept⟩
def RefAt (w : World) (D : Nat → Prop) (g s : Nat) (d : Dv) : Prop := ∃ F ga vw, RfM w F g ga s vw d ∧ ∀ k, k = g ∨ k = ga ∨ F k → D k
theorem PendAt.mono' {F G : Nat → Prop} {w : World} {v : Value} {W : List Pend} (h : PendAt F w v W) (hd : ∀ k, k < w.heap.size → F k → G k) : PendAt G w v W := by
  obtain ⟨gs, h1, h2, h3, h4⟩ := h
  refine ⟨gs, h1, h2, fun g hg => hd g ?_ (h3 g hg), fun i hi hi2 => ⟨(h4 i hi hi2).1, hd _ (lt_of_block (h4 i hi hi2).1) (h4 i hi hi2).2⟩⟩
  rcases h2.2 with ⟨hv, h0⟩ | ⟨b, cap, cur, hv, _, hb, _⟩
  · rw [hv] at hg; simp [Value.ownBlock] at hg
  · rw [hv] at hg
    simp only [Value.ownBlock, Option.some.injEq] at hg
    subst hg
    exact lt_of_block hb
theorem RefAt.keep {D S : Nat → Prop} {w w' : World} {g s : Nat} {d : Dv} (h : RefAt w D g s d) (hf : Fr S w w') (hd : ∀ k, k < w.heap.size → D k → ¬ S k) : RefAt w' D g s d := by
  obtain ⟨F, ga, vw, hm, hD⟩ := h
  obtain ⟨hg, hk⟩ := hm.lt
  exact ⟨F, ga, vw, ⟨hm.head.keep hf (hd g hg (hD g (.inl rfl))), hm.left, hm.kept.keep hf (hd ga hk (hD ga (.inr (.inl rfl)))), hm.pend.keep hf (fun k hk hF => hd k hk (hD k (.inr (.inr hF)))), hm.right, hm.sep, hm.small⟩, hD⟩
theorem RefAt.mono {D E : Nat → Prop} {w : World} {g s : Nat} {d : Dv} (h : RefAt w D g s d) (hd : ∀ k, k < w.heap.size → D k → E k) : RefAt w E g s d := by
  obtain ⟨F, ga, vw, hm, hD⟩ := h
  obtain ⟨hg, hk⟩ := hm.lt
  refine ⟨fun k => F k ∧ k < w.heap.size, ga, vw, ⟨hm.head, hm.left, hm.kept, hm.pend.mono' (fun k hk hF => ⟨hF, hk⟩), hm.right, ⟨hm.sep.1, fun h => hm.sep.2.1 h.1, fun h => hm.sep.2.2 h.1⟩, hm.small⟩, fun k hk' => ?_⟩
  rcases hk' with rfl | rfl | hk'
  · exact hd _ hg (hD _ (.inl rfl))
  · exact hd _ hk (hD _ (.inr (.inl rfl)))
  · exact hd _ hk'.2 (hD _ (.inr (.inr hk'.1)))
theorem RefAt.right {D : Nat → Prop} {w : World} {g s : Nat} {d : Dv} (h : RefAt w D g s d) : d.Right s := by
  obtain ⟨F, ga, vw, hm, hD⟩ := h
  exact hm.right
theorem RefAt.lt {D : Nat → Prop} {w : World} {g s : Nat} {d : Dv} (h : RefAt w D g s d) : g < w.heap.size ∧ D g := by
  obtain ⟨F, ga, vw, hm, hD⟩ := h
  exact ⟨hm.lt.1, hD g (.inl rfl)⟩
theorem bNew (w : World) (s : Nat) (h1 : 1 ≤ s) (h2 : s ≤ 8192) :
    Calls Try.prog 20 #[.int .i64 s] w fun e w' => ∃ g, e = .returned (.tuple #[.pointer (some ⟨g, 0, none⟩), .int .i64 0]) ∧ RefAt w' (fun k => w.heap.size ≤ k) g s (Dv.new s) ∧ Fr (fun _ => False) w w' := by
  refine (rNew_yes w s h1 h2).mono ?_
  rintro e w' ⟨g, ga, rfl, hg, hga, hne, hh, hb, hf⟩
  exact ⟨g, rfl, ⟨fun _ => False, ga, _, ⟨hh, Nat.zero_le _, hb, PendAt.nil _ _, ⟨by simp [Dv.new], fun p hp => by cases hp⟩, ⟨hne, id, id⟩, h2⟩, fun k hk' => by
    rcases hk' with rfl | rfl | h
    · exact hg
    · exact hga
    · exact h.elim⟩, hf⟩
theorem bFuse {D : Nat → Prop} (w : World) (g s : Nat) (d : Dv) (n : Int) (hn : n ≤ 9223372036854775807) (hn0 : -9223372036854775808 ≤ n) (h : RefAt w D g s d) :
    Calls Try.prog 23 #[.pointer (some ⟨g, 0, none⟩), .int .i64 n] w fun e w' => e = .returned (.int .i64 (d.fuse n).1) ∧ RefAt w' (More D w) g s (d.fuse n).2 ∧ Fr D w w' := by
  obtain ⟨F, ga, vw, hm, hD⟩ := h
  refine (rFuse_any w g _ vw d.deeds _ d.down n hn hn0 hm.head).mono ?_
  rintro e w' ⟨rfl, hh', hf⟩
  have hk' := hm.kept.keep hf (fun e => hm.sep.1 e.symm)
  have hw' := hm.pend.keep hf (fun k _ hF e => hm.sep.2.1 (e ▸ hF))
  have hfr := hf.mono (T := D) (fun k _ e => hD k (.inl e))
  unfold Dv.fuse
  cases hd : d.down with
  | true =>
    rw [hd] at hh'
    simp only [if_true] at hh' ⊢
    exact ⟨trivial, ⟨F, ga, vw, ⟨by rw [hd]; exact hh', hm.left, hk', hw', hm.right, hm.sep, hm.small⟩, fun k hk => .inl (hD k hk)⟩, hfr⟩
  | false =>
    rw [hd] at hh'
    refine ⟨rfl, ⟨F, ga, vw, ⟨?_, ?_, hk', hw', hm.right.same rfl rfl, hm.sep, hm.small⟩, fun k hk => .inl (hD k hk)⟩, hfr⟩
    · have e : ((n.toNat : Nat) : Int) = max n 0 := by omega
      show DevH w' g _ vw d.deeds ((n.toNat : Nat) : Int) _
      rw [e]
      simpa using hh'
    · show n.toNat ≤ _
      omega
theorem left_pred (l : Nat) (h : l ≠ 1) : (if (l : Int) = 0 then (0 : Int) else (l : Int) - 1) = ((l - 1 : Nat) : Int) := by
  split <;> omega
theorem bFlush {D : Nat → Prop} (w : World) (g s : Nat) (d : Dv) (hk6 : d.deeds ≤ 1000000000) (hn6 : d.waits.length ≤ 1000000) (h : RefAt w D g s d) :
    Calls Try.prog 55 #[.pointer (some ⟨g, 0, none⟩)] w fun e w' => e = .returned (.int .i64 d.flush.1) ∧ RefAt w' (More D w) g s d.flush.2 ∧ Fr D w w' := by
  have hR := h.right
  obtain ⟨F, ga, vw, hm, hD⟩ := h
  have hh := hm.head
  cases hd : d.down with
  | true =>
    rw [hd] at hh
    rw [Dv.flush_down hd]
    refine (rFlush_down w g _ vw d.deeds _ hh).mono ?_
    rintro e w' ⟨rfl, rfl⟩
    exact ⟨rfl, ⟨F, ga, vw, hm, fun k hk => .inl (hD k hk)⟩, Fr.refl _ _⟩
  | false =>
    rw [hd] at hh
    by_cases h1 : d.left = 1
    · rw [Dv.flush_out hd h1]
      rw [h1] at hh
      refine (rFlush_out w g _ vw d.deeds (by omega) (by omega) hh).mono ?_
      rintro e w' ⟨rfl, hh', hf⟩
      exact ⟨rfl, ⟨F, ga, vw, ⟨hh', by simp only; omega, hm.kept.keep hf (fun e => hm.sep.1 e.symm), hm.pend.keep hf (fun k _ hF e => hm.sep.2.1 (e ▸ hF)), hm.right.same rfl rfl, hm.sep, hm.small⟩, fun k hk => .inl (hD k hk)⟩, hf.mono (fun k _ e => hD k (.inl e))⟩
    · rw [Dv.flush_ok hd h1]
      refine (rFlush_ok w g ga s d.all d.waits vw d.deeds _ hh hm.kept hR.all hm.small hm.pend hR.waits hm.sep.2.1 hm.sep.2.2 hm.sep.1 (by omega) (by omega) (by omega) (by have := hm.left; omega) (by omega) hn6).mono ?_
      rintro e w' ⟨rfl, hh', hb, hf⟩
      rw [left_pred _ h1] at hh'
      refine ⟨rfl, ⟨fun _ => False, ga, _, ⟨?_, by have := hm.left; simp only; omega, hb, PendAt.nil _ _, ⟨wakeL_length _ s d.waits 0 d.all hR.waits hR.all, fun p hp => by cases hp⟩, ⟨hm.sep.1, id, id⟩, hm.small⟩, fun k hk => ?_⟩, hf.mono (fun k _ e => hD k (e.elim .inl (fun h => .inr (.inl h))))⟩
      · rw [hd]
        exact hh'
      · rcases hk with hk | hk | hk
        · exact .inl (hD k (.inl hk))
        · exact .inl (hD k (.inr (.inl hk)))
        · exact hk.elim
theorem bWake {D : Nat → Prop} (w : World) (g s : Nat) (d : Dv) (keep : Int) (hkp0 : -9223372036854775808 ≤ keep) (hkp1 : keep ≤ 9223372036854775807) (hn6 : d.waits.length ≤ 1000000) (h : RefAt w D g s d) :
    Calls Try.prog 34 #[.pointer (some ⟨g, 0, none⟩), .int .i64 keep] w fun e w' => e = .returned (.int .i64 (d.wake keep).1) ∧ RefAt w' (More D w) g s (d.wake keep).2 ∧ Fr D w w' := by
  have hR := h.right
  obtain ⟨F, ga, vw, hm, hD⟩ := h
  have hh := hm.head
  unfold Dv.wake
  cases hd : d.down with
  | false =>
    rw [hd] at hh
    simp only [Bool.false_eq_true, if_false]
    refine (rWake_up w g _ vw d.deeds _ keep hh).mono ?_
    rintro e w' ⟨rfl, rfl⟩
    exact ⟨rfl, ⟨F, ga, vw, hm, fun k hk => .inl (hD k hk)⟩, Fr.refl _ _⟩
  | true =>
    rw [hd] at hh
    simp only [if_true]
    refine (rWake_ok w g ga s d.all d.waits vw d.deeds _ keep hkp0 hkp1 hh hm.kept hR.all hm.small hm.pend hR.waits hm.sep.2.1 hm.sep.2.2 hm.sep.1 hn6).mono ?_
    rintro e w' ⟨rfl, hh', hb, hf⟩
    refine ⟨rfl, ⟨fun _ => False, ga, _, ⟨hh', by simp only; omega, hb, PendAt.nil _ _, ⟨wakeL_length _ s d.waits 0 d.all hR.waits hR.all, fun p hp => by cases hp⟩, ⟨hm.sep.1, id, id⟩, hm.small⟩, fun k hk => ?_⟩, hf.mono (fun k _ e => hD k (e.elim .inl (fun h => .inr (.inl h))))⟩
    rcases hk with hk | hk | hk
    · exact .inl (hD k (.inl hk))
    · exact .inl (hD k (.inr (.inl hk)))
    · exact hk.elim
theorem bWrite {D G : Nat → Prop} (w : World) (g s : Nat) (d : Dv) (a : Int) (vb : Value) (b : List UInt8) (hk6 : d.deeds ≤ 1000000000) (hn6 : d.waits.length + 1 ≤ 1000000) (hb : BytesIn G w vb b) (hG : ∀ k, G k → k < w.heap.size ∧ ¬ D k) (h : RefAt w D g s d) :
    Calls Try.prog 54 #[.pointer (some ⟨g, 0, none⟩), .int .i64 a, vb] w fun e w' => e = .returned (.int .i64 (d.write s a b).1) ∧ RefAt w' (More D w) g s (d.write s a b).2 ∧ Fr D w w' := by
  have hR := h.right
  have hRw := hR.write a b
  obtain ⟨F, ga, vw, hm, hD⟩ := h
  have hh := hm.head
  obtain ⟨ab, cb, hvb⟩ : ∃ ao cap, vb = .slice ao b.length cap := by obtain ⟨x, y, hx, _⟩ := hb; exact ⟨x, y, hx⟩
  subst hvb
  cases hd : d.down with
  | true =>
    rw [hd] at hh
    rw [Dv.write_down hd]
    refine (rWrite_down w g _ vw _ d.deeds _ a hh).mono ?_
    rintro e w' ⟨rfl, rfl⟩
    exact ⟨rfl, ⟨F, ga, vw, hm, fun k hk => .inl (hD k hk)⟩, Fr.refl _ _⟩
  | false =>
    rw [hd] at hh
    by_cases h0 : a < 0 ∨ (s : Int) ≤ a ∨ 64 < b.length
    · rw [Dv.write_arg hd h0]
      refine (rWrite_arg w g ga s vw d.deeds _ a ab b.length cb hh hm.small h0).mono ?_
      rintro e w' ⟨rfl, rfl⟩
      exact ⟨rfl, ⟨F, ga, vw, hm, fun k hk => .inl (hD k hk)⟩, Fr.refl _ _⟩
    obtain ⟨a, rfl⟩ : ∃ x : Nat, a = x := ⟨a.toNat, by omega⟩
    by_cases h1 : d.left = 1
    · rw [Dv.write_out hd h0 h1]
      rw [h1] at hh
      refine (rWrite_out w g ga s a vw d.deeds ab b.length cb (by omega) (by omega) hh hm.small (by omega) (by omega)).mono ?_
      rintro e w' ⟨rfl, hh', hf⟩
      exact ⟨rfl, ⟨F, ga, vw, ⟨hh', by simp only; omega, hm.kept.keep hf (fun e => hm.sep.1 e.symm), hm.pend.keep hf (fun k _ hF e => hm.sep.2.1 (e ▸ hF)), hm.right.same rfl rfl, hm.sep, hm.small⟩, fun k hk => .inl (hD k hk)⟩, hf.mono (fun k _ e => hD k (.inl e))⟩
    · rw [Dv.write_ok hd h0 h1] at hRw ⊢
      have hlt := hm.lt
      refine (rWrite_ok (F := fun k => F k ∧ k < w.heap.size) w g ga s a vw _ d.waits b d.deeds _ hh (hm.pend.mono' (fun k hk hF => ⟨hF, hk⟩)) hb (fun i hi => ⟨(hG i hi).1, fun e => (hG i hi).2 (hD i (.inl e))⟩) (by omega) (by omega) hm.small (fun h => hm.sep.2.1 h.1) (by omega) (by omega) (by omega) (by have := hm.left; omega) (by omega) hn6).mono ?_
      rintro e w' ⟨rfl, vw', hh', hp, hf⟩
      rw [left_pred _ h1] at hh'
      refine ⟨rfl, ⟨_, ga, vw', ⟨?_, by have := hm.left; simp only; omega, hm.kept.keep hf (fun e => e.elim (fun e => hm.sep.1 e.symm) (fun e => hm.sep.2.2 e.1)), hp, hRw, ⟨hm.sep.1, fun e => e.elim (fun e => hm.sep.2.1 e.1) (fun e => by have := hlt.1; omega), fun e => e.elim (fun e => hm.sep.2.2 e.1) (fun e => by have := hlt.2; omega)⟩, hm.small⟩, fun k hk => ?_⟩, hf.mono (fun k _ e => hD k (e.elim .inl (fun h => .inr (.inr h.1))))⟩
      · rw [hd]
        exact hh'
      · rcases hk with hk | hk | hk
        · exact .inl (hD k (.inl hk))
        · exact .inl (hD k (.inr (.inl hk)))
        · exact hk.elim (fun h => .inl (hD k (.inr (.inr h.1)))) .inr
theorem bRead {D : Nat → Prop} (w : World) (g s : Nat) (d : Dv) (a : Int) (hn6 : d.waits.length ≤ 1000000) (h : RefAt w D g s d) :
    Calls Try.prog 57 #[.pointer (some ⟨g, 0, none⟩), .int .i64 a] w fun e w' => ∃ v, e = .returned (.tuple #[v, .int .i64 (d.read s a).1]) ∧ OwnB (fun k => w.heap.size ≤ k) w' v (d.read s a).2 ∧ Fr (fun _ => False) w w' := by
  have hR := h.right
  obtain ⟨F, ga, vw, hm, hD⟩ := h
  have hh := hm.head
  unfold Dv.read
  cases hd : d.down with
  | true =>
    rw [hd] at hh
    simp only [if_true]
    refine (rRead_down w g _ vw d.deeds _ a hh).mono ?_
    rintro e w' ⟨rfl, rfl⟩
    exact ⟨_, rfl, OwnB.nil _ _, Fr.refl _ _⟩
  | false =>
    rw [hd] at hh
    simp only [Bool.false_eq_true, if_false]
    by_cases h0 : a < 0 ∨ (s : Int) ≤ a
    · rw [if_pos h0]
      refine (rRead_arg w g ga s vw d.deeds _ a hh hm.small h0).mono ?_
      rintro e w' ⟨rfl, rfl⟩
      exact ⟨_, rfl, OwnB.nil _ _, Fr.refl _ _⟩
    · rw [if_neg h0]
      obtain ⟨a, rfl⟩ : ∃ x : Nat, a = x := ⟨a.toNat, by omega⟩
      exact rRead_ok w g ga s a d.all d.waits vw d.deeds _ hh hm.kept hR.all hm.small hm.pend hR.waits (by omega) hn6
end Go.Proofs.Ytcbbcihfooaggaa
