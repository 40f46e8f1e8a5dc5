/- Laid together: RfL RfE Wide RfPl RfM -/
import Derived.Lib.IndexMore
import Derived.Test.YtfkgdjoaoidkeaaRg0
import Derived.Deep.MidRow
import Derived.Test.YtfkgdjoaoidkeaaRg1
import Derived.RangeFuncNested
import Derived.RangeFuncBound
import Derived.OwnWalkIn
import Derived.TacticsInMore
import Derived.LoopIn
import Derived.LoopNIn
import Derived.Laws.Rows
import Derived.Deep.WholeRow
import Derived.Test.YtfkgdjoaoidkeaaShelf
import Derived.Deep.QuietTactic
import Derived.BigQuiet

namespace Go.Proofs.Ytfkgdjoaoidkeaa
set_option linter.unusedVariables false
def occR (b s : List UInt8) (i : Nat) : Bool := decide ((b.drop i).take 32 = s)
theorem occR_room {b s : List UInt8} {i : Nat} (hs : s.length = 32) (h : occR b s i = true) : i + 32 ≤ b.length := by
  have h1 := of_decide_eq_true h
  have h2 := congrArg List.length h1
  rw [List.length_take, List.length_drop, hs] at h2
  omega
theorem occR_occAt {b s : List UInt8} {k i : Nat} (hs : s.length = 32) (h : k + i + 32 ≤ b.length) : Go.Lib.occAt (b.drop k) s i = occR b s (k + i) := by
  rw [Go.Lib.occAt_iff_take _ _ _ (by rw [List.length_drop]; omega), List.drop_drop, hs]
  unfold occR
  by_cases he : List.take 32 (List.drop (k + i) b) = s
  · rw [decide_eq_true he]; simpa using he
  · rw [decide_eq_false he]; simpa using he
def stepR (b s : List UInt8) (st : List Nat × Nat) (i : Nat) : List Nat × Nat := if st.2 ≤ i ∧ occR b s i = true then (st.1 ++ [i], i + 32) else st
def goR (b s : List UInt8) : Nat → List Nat × Nat
  | 0 => ([], 0)
  | k + 1 => stepR b s (goR b s k) k
def placesR (b s : List UInt8) : List Nat := (goR b s b.length).1
theorem goR_pass {b s : List UInt8} {k : Nat} (h : k < (goR b s k).2 ∨ occR b s k = false) : goR b s (k + 1) = goR b s k := by
  show stepR b s (goR b s k) k = _
  unfold stepR
  rw [if_neg (by rintro ⟨h1, h2⟩; rcases h with h | h; (· omega); rw [h] at h2; cases h2)]
theorem goR_skip {b s : List UInt8} {k : Nat} : ∀ (j : Nat), (∀ i, k ≤ i → i < k + j → i < (goR b s k).2 ∨ occR b s i = false) → goR b s (k + j) = goR b s k
  | 0, _ => rfl
  | j + 1, h => by
    have ih := goR_skip j (fun i h1 h2 => h i h1 (by omega))
    have h3 := h (k + j) (by omega) (by omega)
    rw [← ih] at h3
    rw [← Nat.add_assoc, goR_pass h3, ih]
theorem goR_hit {b s : List UInt8} {k : Nat} (h : (goR b s k).2 ≤ k) (ho : occR b s k = true) : goR b s (k + 1) = ((goR b s k).1 ++ [k], k + 32) := by
  show stepR b s (goR b s k) k = _
  unfold stepR
  rw [if_pos ⟨h, ho⟩]
theorem goR_over {b s : List UInt8} {k : Nat} (h : (goR b s k).2 ≤ k) (ho : occR b s k = true) : goR b s (k + 32) = ((goR b s k).1 ++ [k], k + 32) := by
  have h1 := goR_hit h ho
  have h2 := goR_skip (b := b) (s := s) (k := k + 1) 31 (fun i h2 h3 => .inl (by rw [h1]; show i < k + 32; omega))
  rw [show k + 32 = k + 1 + 31 by omega, h2, h1]
theorem goR_prefix {b s : List UInt8} (k : Nat) : ∀ j, ∃ r, (goR b s (k + j)).1 = (goR b s k).1 ++ r
  | 0 => ⟨[], by simp⟩
  | j + 1 => by
    obtain ⟨r, hr⟩ := goR_prefix (b := b) (s := s) k j
    have e : goR b s (k + (j + 1)) = stepR b s (goR b s (k + j)) (k + j) := rfl
    rw [e]
    unfold stepR
    split
    · exact ⟨r ++ [k + j], by rw [← List.append_assoc, ← hr]⟩
    · exact ⟨r, hr⟩
def AtR (b s : List UInt8) (k : Nat) (L : List Nat) : Prop := k ≤ b.length ∧ (goR b s k).1 = L ∧ (goR b s k).2 ≤ k
theorem AtR.zero (b s : List UInt8) : AtR b s 0 [] := ⟨Nat.zero_le _, rfl, Nat.le_refl _⟩
theorem AtR.more {b s : List UInt8} {k j : Nat} {L : List Nat} (hs : s.length = 32) (h : AtR b s k L) (hi : Go.Lib.index (b.drop k) s = (j : Nat)) : AtR b s (k + j + 32) (L ++ [k + j]) := by
  obtain ⟨h0, h1, h2⟩ := h
  rcases Go.Lib.index_spec (b.drop k) s with ⟨he, _⟩ | ⟨i, he, hl, ho, hn⟩
  · rw [he] at hi; omega
  · rw [he] at hi
    obtain rfl : i = j := by omega
    have hroom := Go.Lib.index_room (b.drop k) s (by rw [he]; omega)
    rw [he, List.length_drop, hs] at hroom
    have hr : k + i + 32 ≤ b.length := by omega
    have ho' : occR b s (k + i) = true := by rw [← occR_occAt hs hr]; exact ho
    have hsk := goR_skip (b := b) (s := s) (k := k) i (fun x hx1 hx2 => .inr (by
      have := hn (x - k) (by omega)
      rw [occR_occAt hs (by omega), show k + (x - k) = x by omega] at this
      exact this))
    have hle : (goR b s (k + i)).2 ≤ k + i := by rw [hsk]; omega
    have hov := goR_over hle ho'
    refine ⟨by omega, by rw [hov, hsk, h1], by rw [hov]; exact Nat.le_refl _⟩
theorem AtR.done {b s : List UInt8} {k : Nat} {L : List Nat} (hs : s.length = 32) (h : AtR b s k L) (hi : Go.Lib.index (b.drop k) s < 0) : placesR b s = L := by
  obtain ⟨h0, h1, h2⟩ := h
  rcases Go.Lib.index_spec (b.drop k) s with ⟨he, hn⟩ | ⟨i, he, hl, ho, hn⟩
  · have hsk := goR_skip (b := b) (s := s) (k := k) (b.length - k) (fun x hx1 hx2 => .inr (by
      by_cases hr : x + 32 ≤ b.length
      · have := hn (x - k) (by rw [List.length_drop]; omega)
        rw [occR_occAt hs (by omega), show k + (x - k) = x by omega] at this
        exact this
      · cases hq : occR b s x with
        | false => rfl
        | true => exact absurd (occR_room hs hq) hr))
    unfold placesR
    rw [show b.length = k + (b.length - k) by omega, hsk, h1]
  · rw [he] at hi; omega
theorem AtR.pre {b s : List UInt8} {k : Nat} {L : List Nat} (h : AtR b s k L) : ∃ r, placesR b s = L ++ r := by
  obtain ⟨h0, h1, h2⟩ := h
  obtain ⟨r, hr⟩ := goR_prefix (b := b) (s := s) k (b.length - k)
  refine ⟨r, ?_⟩
  unfold placesR
  rw [show b.length = k + (b.length - k) by omega, hr, h1]
theorem AtR.take {b s : List UInt8} {k : Nat} {L : List Nat} (h : AtR b s k L) : (placesR b s).take L.length = L := by
  obtain ⟨r, hr⟩ := h.pre
  rw [hr, List.take_left']
  rfl
theorem goR_good {b s : List UInt8} (hs : s.length = 32) : ∀ k, (∀ p ∈ (goR b s k).1, occR b s p = true ∧ p + 32 ≤ (goR b s k).2) ∧ (goR b s k).1.Pairwise (fun p q => p + 32 ≤ q) ∧ ((goR b s k).1 = [] → (goR b s k).2 = 0)
  | 0 => ⟨fun p hp => by simp [goR] at hp, by simp [goR], fun _ => rfl⟩
  | k + 1 => by
    obtain ⟨h1, h2, h3⟩ := goR_good hs k
    by_cases h : (goR b s k).2 ≤ k ∧ occR b s k = true
    · rw [goR_hit h.1 h.2]
      refine ⟨fun p hp => ?_, ?_, fun e => by simp at e⟩
      · rcases List.mem_append.1 hp with hp | hp
        · have := h1 p hp
          exact ⟨this.1, by show p + 32 ≤ k + 32; omega⟩
        · obtain rfl : p = k := by simpa using hp
          exact ⟨h.2, Nat.le_refl _⟩
      · refine List.pairwise_append.2 ⟨h2, List.pairwise_singleton _ _, fun p hp q hq => ?_⟩
        obtain rfl : q = k := by simpa using hq
        have := h1 p hp
        omega
    · rw [goR_pass (by
        by_cases h4 : (goR b s k).2 ≤ k
        · refine .inr ?_
          cases hq : occR b s k with
          | false => rfl
          | true => exact absurd ⟨h4, hq⟩ h
        · exact .inl (by omega))]
      exact ⟨h1, h2, h3⟩
theorem goR_length (b s : List UInt8) : ∀ k, (goR b s k).1.length ≤ k
  | 0 => Nat.le_refl _
  | k + 1 => by
    have ih := goR_length b s k
    show (stepR b s (goR b s k) k).1.length ≤ k + 1
    unfold stepR
    split
    · rw [List.length_append]; simp; omega
    · omega
theorem placesR_length (b s : List UInt8) : (placesR b s).length ≤ b.length := goR_length b s _
theorem placesR_occ {b s : List UInt8} (hs : s.length = 32) {p : Nat} (hp : p ∈ placesR b s) : occR b s p = true := ((goR_good hs b.length).1 p hp).1
theorem placesR_none {b s : List UInt8} (hs : s.length = 32) {i : Nat} (h : occR b s i = true) : placesR b s ≠ [] := by
  intro he
  have hr := occR_room hs h
  obtain ⟨r, hr1⟩ := goR_prefix (b := b) (s := s) i (b.length - i)
  obtain ⟨r2, hr2⟩ := goR_prefix (b := b) (s := s) (i + 1) (b.length - (i + 1))
  rw [show i + (b.length - i) = b.length by omega] at hr1
  rw [show i + 1 + (b.length - (i + 1)) = b.length by omega] at hr2
  have e1 : (goR b s i).1 = [] := by
    have : (goR b s i).1 ++ r = [] := by rw [← hr1]; exact he
    exact (List.append_eq_nil_iff.1 this).1
  have e2 := (goR_good hs i).2.2 e1
  have e3 := goR_hit (b := b) (s := s) (k := i) (by omega) h
  have : (goR b s (i + 1)).1 ++ r2 = [] := by rw [← hr2]; exact he
  rw [e3] at this
  simp at this
def anyR (b s : List UInt8) : Bool := decide (placesR b s ≠ [])
theorem anyR_iff {b s : List UInt8} (hs : s.length = 32) : anyR b s = true ↔ ∃ i, occR b s i = true := by
  constructor
  · intro h
    have h := of_decide_eq_true h
    obtain ⟨p, r, he⟩ := List.exists_cons_of_ne_nil h
    exact ⟨p, placesR_occ hs (by rw [he]; exact List.mem_cons_self)⟩
  · rintro ⟨i, h⟩
    exact decide_eq_true (placesR_none hs h)
theorem occR_left {a b s : List UInt8} {i : Nat} (hs : s.length = 32) (h : occR a s i = true) : occR (a ++ b) s i = true := by
  have hr := occR_room hs h
  unfold occR at h ⊢
  have h := of_decide_eq_true h
  refine decide_eq_true ?_
  rw [List.drop_append_of_le_length (by omega), List.take_append_of_le_length (by rw [List.length_drop]; omega)]
  exact h
theorem occR_right {a b s : List UInt8} {i : Nat} (h : occR b s i = true) : occR (a ++ b) s (a.length + i) = true := by
  unfold occR at h ⊢
  have h := of_decide_eq_true h
  refine decide_eq_true ?_
  rw [List.drop_append, List.drop_of_length_le (by omega), List.nil_append, show a.length + i - a.length = i by omega]
  exact h
theorem anyR_left {a b s : List UInt8} (hs : s.length = 32) (h : anyR a s = true) : anyR (a ++ b) s = true := by
  obtain ⟨i, hi⟩ := (anyR_iff hs).1 h
  exact (anyR_iff hs).2 ⟨i, occR_left hs hi⟩
theorem anyR_right {a b s : List UInt8} (hs : s.length = 32) (h : anyR b s = true) : anyR (a ++ b) s = true := by
  obtain ⟨i, hi⟩ := (anyR_iff hs).1 h
  exact (anyR_iff hs).2 ⟨_, occR_right hi⟩
end Go.Proofs.Ytfkgdjoaoidkeaa
namespace Go.Proofs.Ytfkgdjoaoidkeaa
open Go.RowKit Go.ChangeShapes
set_option linter.unusedVariables false
def Elems (k : Nat) (F : Nat → Prop) (w : World) (v : Value) (css : List (List Value)) : Prop :=
  ∃ ao cap, v = .slice ao css.length cap ∧ css.length ≤ cap ∧ cap ≤ 9223372036854775807 ∧ (∀ c ∈ css, c.length = k) ∧
    (css ≠ [] → ∃ b off, ao = some ⟨b, off, none⟩ ∧ F b ∧ ∀ i (h : i < css.length) j, j < k → w.cell? ⟨b, off + i * k + j, none⟩ = css[i][j]?)
theorem Elems.nil (k : Nat) (F : Nat → Prop) (w : World) : Elems k F w (.slice none 0 0) [] := ⟨none, 0, rfl, Nat.le_refl _, by simp, (fun _ h => by cases h), fun h => absurd rfl h⟩
theorem Elems.keep {k : Nat} {F S : Nat → Prop} {w w' : World} {v : Value} {css : List (List Value)} (h : Elems k F w v css) (hf : Fr S w w') (hd : ∀ b, b < w.heap.size → F b → ¬ S b) : Elems k F w' v css := by
  obtain ⟨ao, cap, hv, h1, h2, h3, h4⟩ := h
  refine ⟨ao, cap, hv, h1, h2, h3, fun hl => ?_⟩
  obtain ⟨b, off, ha, hF, hi⟩ := h4 hl
  refine ⟨b, off, ha, hF, fun i h j hj => ?_⟩
  have h5 := hi i h j hj
  have hlen := h3 _ (List.getElem_mem h)
  rw [List.getElem?_eq_getElem (by omega)] at h5 ⊢
  exact hf.cell h5 (hd b (World.block_lt_of_cell? _ _ h5) hF)
theorem Elems.mono {k : Nat} {F G : Nat → Prop} {w : World} {v : Value} {css : List (List Value)} (h : Elems k F w v css) (hk : 0 < k) (hd : ∀ b, b < w.heap.size → F b → G b) : Elems k G w v css := by
  obtain ⟨ao, cap, hv, h1, h2, h3, h4⟩ := h
  refine ⟨ao, cap, hv, h1, h2, h3, fun hl => ?_⟩
  obtain ⟨b, off, ha, hF, hi⟩ := h4 hl
  have hp := List.length_pos_iff.2 hl
  have h5 := hi 0 hp 0 hk
  have hlen := h3 _ (List.getElem_mem hp)
  rw [List.getElem?_eq_getElem (by omega)] at h5
  exact ⟨b, off, ha, hd b (World.block_lt_of_cell? _ _ h5) hF, hi⟩
theorem flat_get {α : Type} {k : Nat} : ∀ (css : List (List α)), (∀ c ∈ css, c.length = k) → ∀ i (h : i < css.length) j, j < k → css.flatten[i * k + j]? = css[i][j]?
  | [], _, i, h, _, _ => by simp at h
  | c :: css, hc, 0, h, j, hj => by
    have := hc c List.mem_cons_self
    rw [List.flatten_cons, Nat.zero_mul, Nat.zero_add, List.getElem?_append_left (by omega)]
    rfl
  | c :: css, hc, i + 1, h, j, hj => by
    have := hc c List.mem_cons_self
    have e : (i + 1) * k + j - c.length = i * k + j := by rw [Nat.add_mul, this]; omega
    have e2 : k ≤ (i + 1) * k := by rw [Nat.add_mul]; omega
    rw [List.flatten_cons, List.getElem?_append_right (by omega), e, flat_get css (fun d hd => hc d (List.mem_cons_of_mem _ hd)) i (by simpa using h) j hj]
    rfl
theorem flat_len {α : Type} {k : Nat} : ∀ (css : List (List α)), (∀ c ∈ css, c.length = k) → css.flatten.length = css.length * k
  | [], _ => by simp
  | c :: css, hc => by rw [List.flatten_cons, List.length_append, hc c List.mem_cons_self, flat_len css (fun d hd => hc d (List.mem_cons_of_mem _ hd)), List.length_cons, Nat.add_mul]; omega
structure OwnE (T : TypeId) (k z : Nat) (w : World) (v : Value) (css : List (List Value)) : Prop where
  row : w.ownsRow z T k v css.length css.flatten
  each : ∀ c ∈ css, c.length = k
theorem OwnE.nil (T : TypeId) (k z : Nat) (w : World) : OwnE T k z w (.slice none 0 0) [] := ⟨World.ownsRow_nil _ _ _ _, fun _ h => by cases h⟩
theorem OwnE.keep {S : Nat → Prop} {T : TypeId} {k z : Nat} {w w' : World} {v : Value} {css : List (List Value)} (h : OwnE T k z w v css) (hf : Fr S w w') (hd : ∀ g, v.ownBlock = some g → ¬ S g) : OwnE T k z w' v css := by
  refine ⟨⟨h.row.1, ?_⟩, h.each⟩
  rcases h.row.2 with e | ⟨g, cap, cur, hv, hb, hg, r⟩
  · exact .inl e
  · exact .inr ⟨g, cap, cur, hv, hb, hf.heap hg (hd g (by rw [hv]; rfl)), r⟩
theorem OwnE.own {T : TypeId} {k z : Nat} {w : World} {v : Value} {css : List (List Value)} (h : OwnE T k z w v css) (g : Nat) (hg : v.ownBlock = some g) : z ≤ g ∧ g < w.heap.size := by
  rcases h.row.2 with ⟨hv, _⟩ | ⟨g', cap, cur, hv, hb, hg', _⟩
  · rw [hv] at hg; simp [Value.ownBlock] at hg
  · rw [hv] at hg
    simp only [Value.ownBlock, Option.some.injEq] at hg
    exact hg ▸ ⟨hb, lt_of_block hg'⟩
theorem OwnE.elems {T : TypeId} {k z : Nat} {w : World} {v : Value} {css : List (List Value)} (h : OwnE T k z w v css) : Elems k (fun b => v.ownBlock = some b) w v css := by
  rcases h.row.2 with ⟨hv, h0⟩ | ⟨g, cap, cur, hv, hb, hg, hnc, hcm, hcs, ht⟩
  · obtain rfl := List.eq_nil_of_length_eq_zero h0
    rw [hv]
    exact Elems.nil _ _ _
  · unfold maxLen at hcm
    refine ⟨_, cap, hv, hnc, by omega, h.each, fun _ => ⟨g, 0, rfl, by rw [hv]; rfl, fun i hi j hj => ?_⟩⟩
    have hfl := flat_len css h.each
    have hlt : i * k + j < css.length * k := Nat.lt_of_lt_of_le (show i * k + j < (i + 1) * k by rw [Nat.add_mul]; omega) (Nat.mul_le_mul_right k hi)
    have hr := h.row
    rw [hv] at hr
    have := World.ownsRow.cellAt hr (i * k + j) (by omega)
    rw [Nat.zero_add, this, flat_get css h.each i hi j hj]
theorem OwnE.form {T : TypeId} {k z : Nat} {w : World} {v : Value} {css : List (List Value)} (h : OwnE T k z w v css) : ∃ ao c, v = .slice ao css.length c := by
  obtain ⟨ao, c, hv, _⟩ := h.elems
  exact ⟨ao, c, hv⟩
theorem run_append_e {T ST : TypeId} {k bs : Nat} {zv : Value} (hu : Try.prog.underlying ST = some (.slice T)) (hinf : (Try.prog.info? T).map (fun i => (i.zero, i.size, i.bytes)) = some (some zv, k, bs)) (hzs : zv.cells.size = k) (hk0 : 0 < k) (hbs : bs ≤ 100)
    {F : Nat → Prop} {z : Nat} (w : World) (ty : TypeId) (v x : Value) (css dss : List (List Value)) (hown : OwnE T k z w v css) (hx : Elems k F w x dss) (h1 : ∀ c ∈ dss, ∀ u ∈ c, u.oneCell' = true) (hz : z ≤ w.heap.size) (hn : css.length + dss.length ≤ 1000000) :
    ∃ v' w', (Builtin.append_ #[ST, ST] ty #[v, x]).run Try.prog w = .ok v' w' ∧ OwnE T k z w' v' (css ++ dss) ∧ w.grownBy w' v.ownBlock ∧ (v'.ownBlock = v.ownBlock ∨ v'.ownBlock = some w.heap.size) := by
  obtain ⟨i0, hi, hz0, hz1, hz2⟩ := info_parts hinf
  have heach : ∀ c ∈ css ++ dss, c.length = k := by
    obtain ⟨_, _, _, _, _, h3, _⟩ := hx
    intro c hc
    rcases List.mem_append.1 hc with hc | hc
    · exact hown.each c hc
    · exact h3 c hc
  obtain ⟨ao, cap, rfl, hc1, hc2, h3, h4⟩ := hx
  by_cases he : dss = []
  · subst he
    rw [List.append_nil]
    cases ao with
    | none =>
      have hcap : cap = 0 ∨ cap ≠ 0 := by omega
      rcases hcap with rfl | hcap
      · exact ⟨v, w, run_append_owned_none (P := Try.prog) (w := w) z ST ty T i0 k hu hi v css.length _ hown.row, hown, World.grownBy.refl _ _, .inl rfl⟩
      · exact ⟨v, w, run_append_owned_none (P := Try.prog) (w := w) z ST ty T i0 k hu hi v css.length _ hown.row, hown, World.grownBy.refl _ _, .inl rfl⟩
    | some a =>
      obtain ⟨v', w', hr, r2, r3, r4, r5⟩ := run_append_own_at (P := Try.prog) w z ST ty T i0 zv k bs hu hi hz0 hz1 hz2 hzs hk0 v css.length _ hown.row a 0 cap [] (by simp) (by simp) (by simp) (by unfold maxLen; simp at hn; omega) (Nat.le_trans (Nat.mul_le_mul (show css.length + 0 ≤ 1000000 by simpa using hn) hbs) (by decide)) hz
      exact ⟨v', w', hr, ⟨by simpa using r2, hown.each⟩, r3, r5⟩
  · obtain ⟨b, off, rfl, hF, hcell⟩ := h4 he
    obtain ⟨v', w', hr, r2, r3, r4, r5⟩ := run_append_own_at (P := Try.prog) w z ST ty T i0 zv k bs hu hi hz0 hz1 hz2 hzs hk0 v css.length _ hown.row ⟨b, off, none⟩ dss.length cap dss.flatten (flat_len dss h3) (fun j u hu => by
        have hfl := flat_len dss h3
        have hj : j < dss.flatten.length := (List.getElem?_eq_some_iff.1 hu).1
        rw [hfl] at hj
        have hq : j / k < dss.length := Nat.div_lt_of_lt_mul (by rw [Nat.mul_comm]; exact hj)
        have hm := Nat.div_add_mod j k
        have hml := Nat.mod_lt j hk0
        have e : off + (j / k) * k + j % k = off + j := by rw [Nat.mul_comm (j / k) k]; omega
        have h5 := hcell (j / k) hq (j % k) hml
        rw [e, ← flat_get dss h3 (j / k) hq (j % k) hml, show (j / k) * k + j % k = j by rw [Nat.mul_comm]; omega, hu] at h5
        rw [addr_plain]
        exact h5) (fun u hu => by
        obtain ⟨c, hc, huc⟩ := List.mem_flatten.1 hu
        exact h1 c hc u huc) (by unfold maxLen; omega) (Nat.le_trans (Nat.mul_le_mul hn hbs) (by decide)) hz
    refine ⟨v', w', hr, ⟨?_, heach⟩, r3, r5⟩
    rw [List.length_append, List.flatten_append]
    exact r2
theorem Elems.ofBlock {k : Nat} {w : World} {b : Nat} {T : TypeId} {c : List Value} (h : w.heap[b]? = some (.cells c.toArray T (0, 0))) (hc : c.length = k) : Elems k (fun j => j = b) w (.slice (some ⟨b, 0, none⟩) 1 1) [c] := by
  refine ⟨_, 1, rfl, Nat.le_refl _, by decide, (fun d hd => by rw [List.mem_singleton.1 hd]; exact hc), fun _ => ⟨b, 0, rfl, rfl, fun i hi j hj => ?_⟩⟩
  have : i = 0 := by simp at hi; omega
  subst this
  rw [cell_of_row _ _ _ _ _ _ h]
  simp
def inC (x : Int) : List Value := [.int .i64 x]
theorem infoI7 : (Try.prog.info? 3).map (fun i => (i.zero, i.size, i.bytes)) = some (some (.int .i64 0), 1, 8) := by kernel_rfl
def OwnI (z : Nat) (w : World) (v : Value) (l : List Nat) : Prop := OwnE 3 1 z w v (l.map (fun (x : Nat) => inC x))
theorem OwnI.nil (z : Nat) (w : World) : OwnI z w (.slice none 0 0) [] := OwnE.nil _ _ _ _
theorem OwnI.form {z : Nat} {w : World} {v : Value} {l : List Nat} (h : OwnI z w v l) : ∃ ao c, v = .slice ao l.length c := by
  obtain ⟨ao, c, hv⟩ := OwnE.form h
  rw [List.length_map] at hv
  exact ⟨ao, c, hv⟩
theorem OwnI.lower {z z' : Nat} {w : World} {v : Value} {l : List Nat} (h : OwnI z w v l) (hz : z' ≤ z) : OwnI z' w v l := by
  refine ⟨⟨(OwnE.row h).1, ?_⟩, OwnE.each h⟩
  rcases (OwnE.row h).2 with e | ⟨g, cap, cur, hv, hb, r⟩
  · exact .inl e
  · exact .inr ⟨g, cap, cur, hv, Nat.le_trans hz hb, r⟩
theorem run_int1 (w : World) (x : Int) : (Instr.buildSlice 26 1 #[(0, .int .i64 x)]).run Try.prog w = .ok (.slice (some ⟨w.heap.size, 0, none⟩) 1 1) (w.alloc (.cells #[.int .i64 x] 3)) := by kernel_rfl
theorem one_int (w : World) (x : Nat) : Elems 1 (fun j => j = w.heap.size) (w.alloc (.cells #[.int .i64 (x : Int)] 3)) (.slice (some ⟨w.heap.size, 0, none⟩) 1 1) ([x].map (fun (x : Nat) => inC x)) := Elems.ofBlock (c := [.int .i64 (x : Int)]) (heap_alloc_new w _) rfl
theorem run_append_i {z : Nat} (w : World) (ty : TypeId) (v : Value) (l : List Nat) (x : Nat) (hown : OwnI z w v l) (hz : z ≤ w.heap.size) (hn : l.length + 1 ≤ 1000000) :
    ∃ a n c w', (Builtin.append_ #[26, 26] ty #[v, .slice (some ⟨w.heap.size, 0, none⟩) 1 1]).run Try.prog (w.alloc (.cells #[.int .i64 (x : Int)] 3)) = .ok (.slice a n c) w' ∧ OwnI z w' (.slice a n c) (l ++ [x]) ∧ Fr (fun k => v.ownBlock = some k) w w' := by
  have hf : Fr (fun _ => False) w (w.alloc (.cells #[.int .i64 (x : Int)] 3)) := (Fr.refl _ _).alloc _
  obtain ⟨v', w', hr, h1, h2, h3⟩ := run_append_e (T := 3) (ST := 26) Try.underlying26 infoI7 rfl (by decide) (by decide) (w.alloc (.cells #[.int .i64 (x : Int)] 3)) ty v _ (l.map (fun (x : Nat) => inC x)) ([x].map (fun (x : Nat) => inC x)) (OwnE.keep hown hf (fun _ _ h => h)) (one_int w x) (by intro c hc u hu; simp [inC] at hc; subst hc; simp at hu; subst hu; rfl) (by have := hf.size; omega) (by simp; omega)
  rw [← List.map_append] at h1
  obtain ⟨a, c, rfl⟩ := OwnI.form h1
  exact ⟨_, _, _, w', hr, h1, (hf.mono (T := fun k => v.ownBlock = some k) (fun _ _ h => h.elim)).trans ((Fr.refl _ _).grown h2 (fun k hk => .inl hk)) (fun _ h => .inl h)⟩
def IntsR (F : Nat → Prop) (w : World) (v : Value) (l : List Nat) : Prop :=
  ∃ ao cap, v = .slice ao l.length cap ∧ l.length ≤ cap ∧ cap ≤ 9223372036854775807 ∧ ∃ b off, (0 < l.length → ao = some ⟨b, off, none⟩ ∧ F b) ∧ ∀ i (hi : i < l.length), w.cell? ⟨b, off + i, none⟩ = some (.int .i64 (l[i] : Nat))
theorem IntsR.keep {F S : Nat → Prop} {w w' : World} {v : Value} {l : List Nat} (h : IntsR F w v l) (hf : Fr S w w') (hd : ∀ k, k < w.heap.size → F k → ¬ S k) : IntsR F w' v l := by
  obtain ⟨ao, cap, hv, h1, h2, b, off, h3, h4⟩ := h
  exact ⟨ao, cap, hv, h1, h2, b, off, h3, fun i hi => hf.cell (h4 i hi) (hd b (World.block_lt_of_cell? _ _ (h4 i hi)) (h3 (by omega)).2)⟩
theorem IntsR.mono {F G : Nat → Prop} {w : World} {v : Value} {l : List Nat} (h : IntsR F w v l) (hd : ∀ k, k < w.heap.size → F k → G k) : IntsR G w v l := by
  obtain ⟨ao, cap, hv, h1, h2, b, off, h3, h4⟩ := h
  exact ⟨ao, cap, hv, h1, h2, b, off, fun h0 => ⟨(h3 h0).1, hd b (World.block_lt_of_cell? _ _ (h4 0 h0)) (h3 h0).2⟩, h4⟩
theorem IntsR.nil (F : Nat → Prop) (w : World) : IntsR F w (.slice none 0 0) [] := ⟨none, 0, rfl, Nat.le_refl _, by decide, 0, 0, fun h => by simp at h, fun i h => by simp at h⟩
theorem OwnI.ints {z : Nat} {w : World} {v : Value} {l : List Nat} (h : OwnI z w v l) : IntsR (fun k => z ≤ k) w v l := by
  have hO := OwnE.own h
  obtain ⟨ao, cap, hv, h1, h2, h3, h4⟩ := OwnE.elems h
  rw [List.length_map] at hv h1
  refine ⟨ao, cap, hv, h1, h2, ?_⟩
  by_cases h0 : l = []
  · subst h0
    exact ⟨0, 0, (fun h => by simp at h), fun i hi => by simp at hi⟩
  · obtain ⟨b, off, ha, hb, hc⟩ := h4 (by simpa using h0)
    refine ⟨b, off, fun _ => ⟨ha, (hO b hb).1⟩, fun i hi => ?_⟩
    have := hc i (by rw [List.length_map]; exact hi) 0 (by omega)
    rw [List.getElem_map] at this
    simpa [inC] using this
end Go.Proofs.Ytfkgdjoaoidkeaa
namespace Go.Proofs.Ytfkgdjoaoidkeaa
open Go.RowKit
set_option linter.unusedVariables false
inductive WideF : Fence → Prop
  | out : WideF Fence.wide
  | round (l : Nat) : WideF (Fence.wide.inRound l)
theorem WideF.fn {F : Fence} (h : WideF F) (f : FuncId) : F.fn f := by cases h <;> trivial
theorem WideF.free {F : Fence} (h : WideF F) {p : Prop} (hd : F.depth.isSome = true) : p := by cases h <;> simp [Fence.wide, Fence.inRound] at hd
section
variable {F : Fence} {n : Nat} {P : Program} {ops : Array Oper} {md : Region.Mode} {Q : Exit → Act → World → Prop}
theorem wpIn_value {o : Oper} {a : Act} {w w' : World} {K : Act → World → Prop} (hF : WideF F) (hd : ∀ c, o.op ≠ .defer c) (v : Value) (h : (execOp a.eval o).run P w = .ok (.value v) w') (hK : K (a.put o.dst v) w') : o.wpIn F n P a w K Q := by
  refine ⟨fun f _ => hF.fn f, ?_⟩
  rw [Oper.semAt_plain F _ _ hd, h]
  exact hK
theorem wpListIn_value {rest : List Oper} {o : Oper} {a : Act} {w : World} (hF : WideF F) (hg : o.guard = none) (hd : ∀ c, o.op ≠ .defer c) (v : Value) (w' : World) (h : (execOp a.eval o).run P w = .ok (.value v) w') (hK : wpListIn F n P ops Q rest (a.put o.dst v) w') : wpListIn F n P ops Q (o :: rest) a w :=
  wpListIn_plain hg fun _ hK' => wpIn_value hF hd v h (hK' _ _ hK)
end
end Go.Proofs.Ytfkgdjoaoidkeaa
namespace Go.Proofs.Ytfkgdjoaoidkeaa
open Go.RowKit Go.ChangeShapes
set_option linter.unusedVariables false
attribute [local go_sem] Oper.semAt_some
def MlAt (w : World) : Prop := ∃ m : Int, w.cell? ⟨0, 0, none⟩ = some (.int .i64 m)
theorem MlAt.keep {S : Nat → Prop} {w w' : World} (h : MlAt w) (hf : Fr S w w') (hn : ¬ S 0) : MlAt w' := by
  obtain ⟨m, hm⟩ := h
  exact ⟨m, hf.cell hm hn⟩
theorem MlAt.lt {w : World} (h : MlAt w) : 0 < w.heap.size := by
  obtain ⟨m, hm⟩ := h
  exact World.block_lt_of_cell? _ _ hm
theorem ints_bytesOf (L : List UInt8) : Go.Lib.bytesOf (L.map fun u => (u.toNat : Int)) = L := by
  unfold Go.Lib.bytesOf
  rw [List.map_map]
  conv => rhs; rw [← List.map_id L]
  refine List.map_congr_left fun u _ => ?_
  simp
theorem u8_ints (L : List UInt8) : ∀ x ∈ (L.map fun u => (u.toNat : Int)), 0 ≤ x ∧ x < 256 := by
  intro x hx
  obtain ⟨u, _, rfl⟩ := List.mem_map.1 hx
  have := u.toNat_lt
  omega
theorem index_any {F : Nat → Prop} (w : World) (v : Value) (L s : List UInt8) (g : Nat) (hv : BytesIn F w v L) (hg : w.heap[g]? = some (.cells (ltC s) 47 (0, 0))) (hs : s.length = 32) (hL : L.length ≤ 1000000000) (hm : MlAt w) :
    Calls Try.prog 26 #[v, .slice (some ⟨g, 0, none⟩) 32 32] w fun e w' => e = .returned (.int .i64 (Go.Lib.index L s)) ∧ ∃ q, w' = w.drewN q := by
  obtain ⟨m, hm⟩ := hm
  obtain ⟨ao, cap, rfl, h1, h2, h3, h4⟩ := hv
  have hc2 : ∀ i, i < 32 → w.cell? ((⟨g, 0, none⟩ : Addr).add i) = some (.int .u8 ((s.map fun u => (u.toNat : Int)).getD i 0)) := fun i hi => by
    rw [addr_plain, Nat.zero_add, cell_of_row _ _ _ _ _ _ hg]
    unfold ltC
    have hi' : i < s.length := by omega
    rw [List.getElem?_toArray, List.getElem?_map, List.getElem?_eq_getElem hi', List.getD_eq_getElem?_getD, List.getElem?_map, List.getElem?_eq_getElem hi']
    rfl
  cases ao with
  | none =>
    obtain rfl := h3 rfl
    obtain rfl : L = [] := List.eq_nil_of_length_eq_zero (by omega)
    have := Try.bytes_Index_nil (some ⟨g, 0, none⟩) 32 32 w (by decide) (fun h => by omega)
    refine this.mono ?_
    rintro e w' ⟨rfl, rfl⟩
    refine ⟨?_, 0, rfl⟩
    rw [if_neg (by decide)]
    rcases Go.Lib.index_spec [] s with ⟨he, _⟩ | ⟨i, he, hl, ho, _⟩
    · rw [he]
    · have hr := Go.Lib.occAt_room ho
      rw [hs] at hr
      rcases hr with hr | hr
      · simp at hr
      · rw [hr] at hs; simp at hs
  | some a =>
    have := Try.bytes_Index_at a ⟨g, 0, none⟩ L.length cap 32 32 (L.map fun u => (u.toNat : Int)) (s.map fun u => (u.toNat : Int)) m w (by simp) (by simpa using hs) (u8_ints L) (u8_ints s) (fun i hi => by
      have := (h4 a rfl).1 i (bv L[i]) (by rw [List.getElem?_map, List.getElem?_eq_getElem hi]; rfl)
      rw [this, List.getD_eq_getElem?_getD, List.getElem?_map, List.getElem?_eq_getElem hi]
      rfl) hc2 h1 (by omega) (by decide) hm
    rw [ints_bytesOf, ints_bytesOf] at this
    exact this
theorem run_cutLet (w : World) (g : Nat) : (Instr.sliceAt 47 (.pointer (some ⟨g, 0, none⟩)) none none none).run Try.prog w = .ok (.slice (some ⟨g, 0, none⟩) 32 32) w := by kernel_rfl
theorem Fr.grew {A B : World} (h : Fr (fun _ => False) A B) : A.grownBy B none := ⟨h.os, h.tape, h.output, h.size, fun k hk _ => h.block k hk id⟩
structure ItP (F : Nat → Prop) (Bb Bl : Nat) (v : Value) (b s : List UInt8) (W : World) : Prop where
  box : W.cell? ⟨Bb, 0, none⟩ = some v
  lets : W.heap[Bl]? = some (.cells (ltC s) 47 (0, 0))
  byt : BytesIn F W v b
  ml : MlAt W
theorem ItP.keep {T F : Nat → Prop} {Bb Bl : Nat} {v : Value} {b s : List UInt8} {W W' : World} (h : ItP F Bb Bl v b s W) (hf : Fr T W W') (h1 : ¬ T Bb) (h2 : ¬ T Bl) (h3 : ∀ k, F k → ¬ T k) (h4 : ¬ T 0) : ItP F Bb Bl v b s W' :=
  ⟨hf.cell h.box h1, hf.heap h.lets h2, h.byt.keep hf (fun k _ hk => h3 k hk), h.ml.keep hf h4⟩
def encI (x : Nat) : Array Value := #[.int .i64 (x : Nat)]
set_option maxRecDepth 100000 in
set_option maxHeartbeats 4000000 in
theorem places1_in {T F : Nat → Prop} (n0 : Nat) (l Bb Bl : Nat) (v : Value) (b s : List UInt8) (hs : s.length = 32) (hb : b.length ≤ 1000000000) (hT1 : ¬ T Bb) (hT2 : ¬ T Bl) (hT3 : ∀ k, F k → ¬ T k) (hT4 : ¬ T 0) (B0 : Nat) (J Jx : List Nat → World → Prop) (hJ : AbidesFrom B0 J)
    (hY : ∀ pre x W, J pre W → pre.length < (placesR b s).length → YieldAt Fence.wide (n0 - 1) Try.prog l (encI x) W fun e W' =>
      (e = .returned (.bool true) ∧ J (pre ++ [x]) W' ∧ Fr T W W') ∨ (e = .returned (.bool false) ∧ Jx (pre ++ [x]) W'))
    (W : World) (hR : ItP F Bb Bl v b s W) (h0 : J [] W) :
    CallsIn Fence.wide n0 Try.prog 25 #[.func (.yield l) #[] #[], .pointer (some ⟨Bb, 0, none⟩), .pointer (some ⟨Bl, 0, none⟩)] W fun e W' => (∃ v, e = .returned v) ∧
      ((∃ ys, ys = placesR b s ∧ J ys W') ∨ (∃ pre, pre <+: placesR b s ∧ Jx pre W')) := by
  obtain ⟨X, hX⟩ : ∃ X, X = placesR b s := ⟨_, rfl⟩
  rw [← hX] at hY
  rw [← hX]
  have hvf : ∃ ao cap, v = .slice ao b.length cap := by
    obtain ⟨ao, cap, hv, _⟩ := hR.byt
    exact ⟨ao, cap, hv⟩
  obtain ⟨ao, cap, rfl⟩ := hvf
  obtain ⟨n, hn⟩ : ∃ n, n = b.length := ⟨_, rfl⟩
  rw [← hn] at hb hR
  have HR := Lib.hid hR
  have HY := Lib.hid hY
  have HJ := Lib.hid hJ
  have HT := Lib.hid (And.intro hT1 (And.intro hT2 (And.intro hT3 hT4)))
  have HN := Lib.hid (And.intro hn (And.intro hX hs))
  clear hR hY hJ hT1 hT2 hT3 hT4 hn hX hs
  refine callsIn_of_wp Try.func25 rfl trivial ?_ rfl
  simp only [Try.ntmps25, List.size_toArray, List.length_cons, List.length_nil, Nat.reduceAdd, Nat.reduceSub, Array.replicate_succ, Array.replicate_zero, List.push_toArray, List.append_toArray, List.nil_append, List.cons_append]
  gi_wp2
  gi_loopw [4, 5] (fun iv jv wr => ∃ k p : Nat, k ≤ n ∧ iv = .int .i64 k ∧ J (X.take p) wr ∧ Hid (AtR b s k (X.take p) ∧ p = (X.take p).length ∧ ItP F Bb Bl (.slice ao n cap) b s wr)) (fun iv _ _ => n - (intOf iv).toNat)
  case atStart => exact ⟨0, 0, by omega, rfl, h0, Lib.hid ⟨by simpa using AtR.zero b s, by simp, HR.out⟩⟩
  case round =>
    clear h0
    obtain ⟨k, p, hk, rfl, hJs, hRr⟩ := hrel
    have hbx := hRr.out.2.2.box
    have hcl := fun W => run_cutLow W ao n cap k hk
    have hcb := fun W => run_cutLet W Bl
    have HI := Lib.hid (fun q => index_any (wr.drewN q) _ _ s Bl ((hRr.out.2.2.byt.cutLow k (by rw [← HN.out.1]; exact hk)).drewN q) hRr.out.2.2.lets HN.out.2.2 (by have := HN.out.1; rw [List.length_drop]; omega) (by obtain ⟨m, hm⟩ := hRr.out.2.2.ml; exact ⟨m, hm⟩))
    obtain ⟨z, hz⟩ : ∃ z, z = Go.Lib.index (b.drop k) s := ⟨_, rfl⟩
    rw [← hz] at HI
    have HZ := Lib.hid hz
    clear hz
    gi_wp2
    refine wpIn_wide.2 ?_
    go_quiet ((go_at_call 26; exact Calls.quiet_of (HI.out _)))
    have hf2 : Fr (fun _ => False) wr (wr.drewN nq) := (Fr.refl _ _).drewN nq
    have hJ2 : J (X.take p) (wr.drewN nq) := HJ.out _ _ _ none hJs (Fr.grew hf2) (fun r e => by cases e)
    have HR2 := Lib.hid (hRr.out.2.2.keep hf2 (fun h => h) (fun h => h) (fun _ _ h => h) (fun h => h))
    generalize hW2 : wr.drewN nq = W2 at *
    have HA := Lib.hid (And.intro hRr.out.1 hRr.out.2.1)
    clear hW2 hf2 hJs hbx hcl hcb HI hRr
    by_cases hz : z < 0
    · have HD := Lib.hid (show X.take p = X by
        have h1 := HA.out.1.done HN.out.2.2 (by rw [← HZ.out]; exact hz)
        rw [← HN.out.2.1] at h1
        exact h1.symm)
      gi_wp2
      refine ⟨fun _ h => (by cases h), ?_⟩
      gi_wp2
      refine bodyPost_ret (results_none rfl _ _ _) rfl ?_
      exact ⟨⟨_, rfl⟩, .inl ⟨_, rfl, by rw [HD.out] at hJ2; exact hJ2⟩⟩
    · obtain ⟨j, rfl⟩ : ∃ j : Nat, z = j := ⟨z.toNat, by omega⟩
      have hmo := HA.out.1.more HN.out.2.2 HZ.out.symm
      have hjn : k + j + 32 ≤ n := by have := hmo.1; have := HN.out.1; omega
      obtain ⟨x, hx⟩ : ∃ x, x = k + j := ⟨_, rfl⟩
      rw [← hx] at hmo
      have hki : (k : Int) + (j : Int) = (x : Nat) := by omega
      have hpl : (X.take p).length < X.length := by
        have h1 := hmo.take
        rw [← HN.out.2.1] at h1
        have h2 := congrArg List.length h1
        rw [List.length_take, List.length_append] at h2
        simp only [List.length_cons, List.length_nil] at h2
        omega
      have htk : X.take (p + 1) = X.take p ++ [x] := by
        have h1 := hmo.take
        rw [← HN.out.2.1, List.length_append, ← HA.out.2] at h1
        exact h1
      obtain ⟨fn, tmps, assign, body, hy, hRd⟩ := HY.out _ x W2 hJ2 hpl
      simp only [encI] at hy
      have HM := Lib.hid (And.intro hmo htk)
      have hxn : x + 32 ≤ n := by omega
      have hx64 : (x : Int) ≤ 1000000000 := by omega
      have hzd : decide ((j : Int) < 0) = false := by rw [decide_eq_false_iff_not]; omega
      have hzn : ¬ (j : Int) < 0 := by omega
      have HX := Lib.hid hx
      clear hmo htk hpl hx hJ2
      gi_wp2
      refine ⟨fun hx => WideF.out.free hx, hRd.mono ?_⟩
      rintro e W3 (⟨rfl, hJ3, hk3⟩ | ⟨rfl, hJx3⟩)
      · have HR3 := Lib.hid (HR2.out.keep hk3 HT.out.1 HT.out.2.1 HT.out.2.2.1 HT.out.2.2.2)
        gi_wp2
        go_roundw
        case rel =>
          refine ⟨x + 32, p + 1, hxn, ?_, by rw [HM.out.2]; exact hJ3, Lib.hid ⟨by rw [HM.out.2]; exact HM.out.1, by rw [HM.out.2, List.length_append, ← HA.out.2]; rfl, HR3.out⟩⟩
          have := HX.out
          rw [show (k : Int) + ((j : Int) + 32) = ((x + 32 : Nat) : Int) by omega]
        case measure => simp [intOf]; omega
      · gi_wp2
        refine bodyPost_ret (results_none rfl _ _ _) rfl ?_
        exact ⟨⟨_, rfl⟩, .inr ⟨_, by rw [← HM.out.2]; exact List.take_prefix _ _, hJx3⟩⟩
theorem ItP.below {F : Nat → Prop} {Bb Bl : Nat} {v : Value} {b s : List UInt8} {w W : World} (h : ItP F Bb Bl v b s w) (hF : ∀ k, F k → k < w.heap.size) (hb : Below w.heap.size w W) : ItP F Bb Bl v b s W := by
  have h1 := World.block_lt_of_cell? _ _ h.box
  have h2 := lt_of_block h.lets
  have h3 := h.ml.lt
  simp only at h1
  exact h.keep (Fr.ofBelow hb) (fun h => by omega) (fun h => by omega) (fun k hk h => by have := hF k hk; omega) (fun h => by omega)
theorem places_stops {T F : Nat → Prop} (n0 Bb Bl : Nat) (v : Value) (b s : List UInt8) (hs : s.length = 32) (hb : b.length ≤ 1000000000) (hT1 : ¬ T Bb) (hT2 : ¬ T Bl) (hT3 : ∀ k, F k → ¬ T k) (hT4 : ¬ T 0) (w : World) (hF : ∀ k, F k → k < w.heap.size) (hR : ItP F Bb Bl v b s w) :
    SeqStopsK Fence.wide n0 Try.prog 25 #[.pointer (some ⟨Bb, 0, none⟩), .pointer (some ⟨Bl, 0, none⟩)] encI (Fr T) (fun ys => ys = placesR b s) (fun pre => pre <+: placesR b s) (placesR b s).length w :=
  fun l J Jx W hW hJ hJx hY h0 => places1_in n0 l Bb Bl v b s hs hb hT1 hT2 hT3 hT4 _ J Jx hJ hY W (hR.below hF hW) h0
theorem places_any (w : World) (ao : Option Addr) (n cap : Nat) (C : Array Value) :
    Calls Try.prog 17 #[.slice ao n cap, .agg C] w fun e w' => e = .returned (.func (.func 25) #[] #[.pointer (some ⟨w.heap.size, 0, none⟩), .pointer (some ⟨w.heap.size + 1, 0, none⟩)]) ∧ w' = (w.alloc (.cells #[.slice ao n cap] 22)).alloc (.cells C 47) := by
  go_enter Try.func17, Try.ntmps17
  go_wp2
  go_ret
  exact ⟨rfl, rfl⟩
end Go.Proofs.Ytfkgdjoaoidkeaa
namespace Go.Proofs.Ytfkgdjoaoidkeaa
open Go.RowKit Go.ChangeShapes
set_option linter.unusedVariables false
theorem cell_put {w : World} {b i : Nat} {c : Array Value} {t : TypeId} {z : Nat × Nat} (u : Value) (h : w.heap[b]? = some (.cells c t z)) :
    (w.setCell ⟨b, i, none⟩ u).heap[b]? = some (.cells (c.setIfInBounds i u) t z) := by
  simp only [World.setCell, Array.getElem?_modify, h]
  simp
theorem Fr.cell1 (w : World) (b i : Nat) (u : Value) : Fr (· = b) w (w.setCell ⟨b, i, none⟩ u) := (Fr.refl (· = b) w).setCell (p := ⟨b, i, none⟩) (.inl rfl) u
theorem fr_putObj {T : Nat → Prop} (W : World) (l : Nat) (o' : Obj) (hT : T l) : Fr T W (W.putObj l o') :=
  (Fr.refl T W).grown (grownBy_putObj' W l o') (fun k e => by cases e; exact .inl hT)
theorem one_cell {w : World} {b : Nat} {x : Value} {T : TypeId} (h : w.heap[b]? = some (.cells #[x] T (0, 0))) : w.cell? ⟨b, 0, none⟩ = some x ∧ w.frozen? ⟨b, 0, none⟩ = false := ⟨cell_of_one h, by simp [World.frozen?, h]⟩
theorem one_put {w : World} {b : Nat} {x : Value} {T : TypeId} (h : w.heap[b]? = some (.cells #[x] T (0, 0))) (u : Value) : (w.setCell ⟨b, 0, none⟩ u).heap[b]? = some (.cells #[u] T (0, 0)) := cell_put (i := 0) u h
theorem op_append7 {w w' : World} {o : Oper} {a : Act} {s x : Operand} {ST : TypeId} {v y u : Value} (ho : o.op = Op.call { callee := Callee.builtin Builtin.append, args := #[s, x], argTypes := #[ST, ST] }) (hs : a.eval s = v) (hx : a.eval x = y) (hr : (Builtin.append_ #[ST, ST] o.type #[v, y]).run Try.prog w = .ok u w') : (execOp a.eval o).run Try.prog w = .ok (.value u) w' := by
  simp [execOp, ho, resolve, invoke, builtin, hs, hx, hr, Result.andThen]
theorem OwnE.ownCells {T : TypeId} {k z : Nat} {w : World} {v : Value} {css : List (List Value)} (h : OwnE T k z w v css) {g : Nat} (hg : v.ownBlock = some g) : ∃ cs, w.heap[g]? = some (.cells cs T (0, 0)) := by
  rcases h.row.2 with ⟨hv, _⟩ | ⟨g', cap, cur, hv, hb, hg', _⟩
  · rw [hv] at hg; simp [Value.ownBlock] at hg
  · rw [hv] at hg
    simp only [Value.ownBlock, Option.some.injEq] at hg
    subst hg
    exact ⟨_, hg'⟩
theorem OwnE.grown {T : TypeId} {k z : Nat} {w w' : World} {v : Value} {css : List (List Value)} {row : Option Nat} (h : OwnE T k z w v css) (hg : w.grownBy w' row) (hr : ∀ r, row = some r → ∃ o : Obj, w.heap[r]? = some o ∧ o.isCells = false) : OwnE T k z w' v css :=
  OwnE.keep h ((Fr.refl (fun k => row = some k) w).grown hg (fun k hk => .inl hk)) (fun g hgb e => by
    obtain ⟨cs, hb⟩ := h.ownCells hgb
    obtain ⟨o, ho, hc⟩ := hr g e
    rw [hb] at ho
    cases ho
    cases hc)
end Go.Proofs.Ytfkgdjoaoidkeaa
