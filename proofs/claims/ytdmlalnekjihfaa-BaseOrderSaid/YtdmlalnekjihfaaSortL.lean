/- The plain side of Sorted: pick the next above the last, again and again. No program. -/
import Derived.Test.YtdmlalnekjihfaaRLess
namespace Go.Proofs.Ytdmlalnekjihfaa
set_option linter.unusedVariables false

section
variable {α : Type} (lt : α → α → Bool)
/-- Above the last that was taken. -/
def aboveL (out : List α) (x : α) : Bool := match out.getLast? with | none => true | some y => lt y x
/-- One row of the inner loop. -/
def nextS (out : List α) (best : Option α) (x : α) : Option α := if (aboveL lt out x && (match best with | none => true | some b => lt x b)) = true then some x else best
/-- The inner loop, n rows. -/
def nextL (l out : List α) (n : Nat) : Option α := (l.take n).foldl (nextS lt out) none
theorem nextL_zero (l out : List α) : nextL lt l out 0 = none := by simp [nextL]
theorem nextL_succ (l out : List α) (n : Nat) (h : n < l.length) : nextL lt l out (n + 1) = nextS lt out (nextL lt l out n) l[n] := by
  rw [nextL, nextL, List.take_succ_eq_append_getElem h, List.foldl_append]
  rfl
/-- The outer loop: with k rounds left. -/
def sortL (l : List α) : Nat → List α → List α
  | 0, out => out
  | k + 1, out => match nextL lt l out l.length with | none => out | some b => sortL l k (out ++ [b])
/-- A strict order, and any two are the same or one is below. -/
structure Strict (lt : α → α → Bool) : Prop where
  irr : ∀ a, lt a a = false
  trans : ∀ a b c, lt a b = true → lt b c = true → lt a c = true
  tri : ∀ a b, lt a b = false → lt b a = false → a = b
variable {lt}
/-- What the inner loop has found after n rows. -/
theorem nextL_says (S : Strict lt) (l out : List α) : ∀ n, n ≤ l.length →
    match nextL lt l out n with
    | none => ∀ x ∈ l.take n, aboveL lt out x = false
    | some b => b ∈ l.take n ∧ aboveL lt out b = true ∧ ∀ x ∈ l.take n, aboveL lt out x = true → lt x b = false := by
  intro n
  induction n with
  | zero => intro _; simp [nextL]
  | succ n ih =>
    intro h
    have hl : n < l.length := by omega
    have ih := ih (by omega)
    rw [nextL_succ lt l out n hl, List.take_succ_eq_append_getElem hl]
    cases hb : nextL lt l out n with
    | none =>
      rw [hb] at ih
      cases ha : aboveL lt out l[n] with
      | false =>
        simp only [nextS, ha, Bool.false_and, Bool.false_eq_true, if_false]
        intro x hx
        rcases List.mem_append.1 hx with h | h
        · exact ih x h
        · obtain rfl := List.mem_singleton.1 h; exact ha
      | true =>
        rw [show nextS lt out none l[n] = some l[n] by simp [nextS, ha]]
        refine ⟨List.mem_append_right _ (List.mem_singleton.2 rfl), ha, fun x hx hxa => ?_⟩
        rcases List.mem_append.1 hx with h | h
        · rw [ih x h] at hxa; cases hxa
        · obtain rfl := List.mem_singleton.1 h; exact S.irr _
    | some b =>
      rw [hb] at ih
      obtain ⟨i1, i2, i3⟩ := ih
      cases ha : (aboveL lt out l[n] && lt l[n] b) with
      | false =>
        simp only [nextS, ha, Bool.false_eq_true, if_false]
        refine ⟨List.mem_append_left _ i1, i2, fun x hx hxa => ?_⟩
        rcases List.mem_append.1 hx with h | h
        · exact i3 x h hxa
        · obtain rfl := List.mem_singleton.1 h
          rw [hxa, Bool.true_and] at ha
          exact ha
      | true =>
        rw [show nextS lt out (some b) l[n] = some l[n] by simp only [nextS, ha, if_true]]
        rw [Bool.and_eq_true] at ha
        refine ⟨List.mem_append_right _ (List.mem_singleton.2 rfl), ha.1, fun x hx hxa => ?_⟩
        rcases List.mem_append.1 hx with h | h
        · have h1 := i3 x h hxa
          cases h2 : lt x l[n] with
          | false => rfl
          | true => rw [S.trans _ _ _ h2 ha.2] at h1; cases h1
        · obtain rfl := List.mem_singleton.1 h; exact S.irr _
/-- Ascending. -/
def Asc (lt : α → α → Bool) (l : List α) : Prop := l.Pairwise fun a b => lt a b = true
theorem Asc.nodup (S : Strict lt) {l : List α} (h : Asc lt l) : l.Nodup := List.Pairwise.imp (fun {a b} hab => by rintro rfl; rw [S.irr] at hab; cases hab) h
theorem Asc.last (S : Strict lt) {l : List α} (h : Asc lt l) (y : α) (hy : l.getLast? = some y) : ∀ x ∈ l, x = y ∨ lt x y = true := by
  obtain ⟨l', rfl⟩ := List.getLast?_eq_some_iff.1 hy
  intro x hx
  rcases List.mem_append.1 hx with hx | hx
  · exact .inr ((List.pairwise_append.1 h).2.2 x hx y (by simp))
  · exact .inl (List.mem_singleton.1 hx)
/-- What the outer loop keeps. -/
structure Upto (lt : α → α → Bool) (l out : List α) : Prop where
  asc : Asc lt out
  sub : ∀ x ∈ out, x ∈ l
  all : ∀ x ∈ l, x ∈ out ∨ aboveL lt out x = true
theorem Upto.nil (l : List α) : Upto lt l [] := ⟨List.Pairwise.nil, by simp, fun x _ => .inr rfl⟩
theorem Upto.next (S : Strict lt) {l out : List α} (h : Upto lt l out) {b : α} (hb : nextL lt l out l.length = some b) : Upto lt l (out ++ [b]) := by
  have hs := nextL_says S l out l.length (Nat.le_refl _)
  rw [hb, List.take_length] at hs
  obtain ⟨s1, s2, s3⟩ := hs
  refine ⟨?_, ?_, ?_⟩
  · refine List.pairwise_append.2 ⟨h.asc, by simp, fun x hx y hy => ?_⟩
    obtain rfl := List.mem_singleton.1 hy
    cases hl : out.getLast? with
    | none => rw [List.getLast?_eq_none_iff.1 hl] at hx; cases hx
    | some z =>
      rw [aboveL, hl] at s2
      rcases h.asc.last S z hl x hx with rfl | h1
      · exact s2
      · exact S.trans _ _ _ h1 s2
  · intro x hx
    rcases List.mem_append.1 hx with hx | hx
    · exact h.sub x hx
    · obtain rfl := List.mem_singleton.1 hx; exact s1
  · intro x hx
    rcases h.all x hx with h1 | h1
    · exact .inl (List.mem_append_left _ h1)
    · have h2 := s3 x hx h1
      rw [aboveL, show (out ++ [b]).getLast? = some b by simp]
      show x ∈ out ++ [b] ∨ lt b x = true
      cases h3 : lt b x with
      | true => exact .inr rfl
      | false => exact .inl (by rw [S.tri x b h2 h3]; simp)
theorem Upto.done (S : Strict lt) {l out : List α} (h : Upto lt l out) (hb : nextL lt l out l.length = none) : ∀ x, x ∈ out ↔ x ∈ l := by
  have hs := nextL_says S l out l.length (Nat.le_refl _)
  rw [hb, List.take_length] at hs
  refine fun x => ⟨h.sub x, fun hx => ?_⟩
  rcases h.all x hx with h1 | h1
  · exact h1
  · rw [hs x hx] at h1; cases h1
/-- Two ascending lists of the same members are the same. -/
theorem Asc.same (S : Strict lt) : ∀ {l m : List α}, Asc lt l → Asc lt m → (∀ x, x ∈ l ↔ x ∈ m) → l = m := by
  intro l
  induction l with
  | nil =>
    intro m _ _ h
    cases m with
    | nil => rfl
    | cons y m => exact absurd ((h y).2 (by simp)) (by simp)
  | cons x l ih =>
    intro m hl hm h
    cases m with
    | nil => exact absurd ((h x).1 (by simp)) (by simp)
    | cons y m =>
      obtain ⟨l1, l2⟩ := List.pairwise_cons.1 hl
      obtain ⟨m1, m2⟩ := List.pairwise_cons.1 hm
      have hxy : x = y := by
        rcases List.mem_cons.1 ((h x).1 (by simp)) with rfl | h1
        · rfl
        · rcases List.mem_cons.1 ((h y).2 (by simp)) with rfl | h2
          · rfl
          · have := S.trans _ _ _ (l1 y h2) (m1 x h1)
            rw [S.irr] at this
            cases this
      subst hxy
      rw [ih l2 m2 (fun z => ⟨fun hz => ?_, fun hz => ?_⟩)]
      · rcases List.mem_cons.1 ((h z).1 (List.mem_cons_of_mem _ hz)) with rfl | h1
        · have := l1 z hz; rw [S.irr] at this; cases this
        · exact h1
      · rcases List.mem_cons.1 ((h z).2 (List.mem_cons_of_mem _ hz)) with rfl | h1
        · have := m1 z hz; rw [S.irr] at this; cases this
        · exact h1
theorem nodup_le [DecidableEq α] : ∀ {l m : List α}, l.Nodup → (∀ x ∈ l, x ∈ m) → l.length ≤ m.length := by
  intro l
  induction l with
  | nil => intro m _ _; simp
  | cons x l ih =>
    intro m h hs
    obtain ⟨h1, h2⟩ := List.nodup_cons.1 h
    have hx := hs x (by simp)
    have := ih (m := m.erase x) h2 (fun y hy => by
      have hne : y ≠ x := by rintro rfl; exact h1 hy
      exact (List.mem_erase_of_ne hne).2 (hs y (List.mem_cons_of_mem _ hy)))
    rw [List.length_erase_of_mem hx] at this
    have hp := List.length_pos_of_mem hx
    simp only [List.length_cons]
    omega
theorem Upto.short [DecidableEq α] (S : Strict lt) {l out : List α} (h : Upto lt l out) : out.length ≤ l.length := nodup_le (h.asc.nodup S) h.sub
end

theorem bytesLess_trans : ∀ (a b c : List UInt8), Op.bytesLess a b = true → Op.bytesLess b c = true → Op.bytesLess a c = true := by
  intro a
  induction a with
  | nil =>
    intro b c h1 h2
    cases c with
    | nil => simp [Op.bytesLess] at h2
    | cons z c => rfl
  | cons x a ih =>
    intro b c h1 h2
    cases b with
    | nil => simp [Op.bytesLess] at h1
    | cons y b =>
      cases c with
      | nil => simp [Op.bytesLess] at h2
      | cons z c =>
        simp only [Op.bytesLess, Bool.or_eq_true, Bool.and_eq_true, decide_eq_true_eq, beq_iff_eq] at *
        rcases h1 with h1 | ⟨rfl, h1⟩ <;> rcases h2 with h2 | ⟨rfl, h2⟩
        · exact .inl (UInt8.lt_trans h1 h2)
        · exact .inl h1
        · exact .inl h2
        · exact .inr ⟨rfl, ih b c h1 h2⟩
theorem bytesLess_tri : ∀ (a b : List UInt8), Op.bytesLess a b = false → Op.bytesLess b a = false → a = b := by
  intro a
  induction a with
  | nil =>
    intro b h1 h2
    cases b with
    | nil => rfl
    | cons y b => simp [Op.bytesLess] at h1
  | cons x a ih =>
    intro b h1 h2
    cases b with
    | nil => simp [Op.bytesLess] at h2
    | cons y b =>
      simp only [Op.bytesLess, Bool.or_eq_false_iff, Bool.and_eq_false_iff, decide_eq_false_iff_not, beq_eq_false_iff_ne] at h1 h2
      have e : x = y := by
        have h3 := UInt8.not_lt.1 h1.1
        have h4 := UInt8.not_lt.1 h2.1
        exact UInt8.le_antisymm h4 h3
      subst e
      rw [ih b (h1.2.resolve_left (fun h => h rfl)) (h2.2.resolve_left (fun h => h rfl))]
/-- A path, plain. -/
abbrev PathV := List UInt8 × ByteArray
def lessV (a b : PathV) : Bool := lessP a.1 a.2 b.1 b.2
theorem lessV_strict : Strict lessV := by
  refine ⟨fun a => ?_, fun a b c h1 h2 => ?_, fun a b h1 h2 => ?_⟩
  · simp [lessV, lessP, less_irrefl]
  · simp only [lessV, lessP, Bool.or_eq_true, Bool.and_eq_true, beq_iff_eq] at *
    rcases h1 with h1 | ⟨e1, h1⟩ <;> rcases h2 with h2 | ⟨e2, h2⟩
    · exact .inl (bytesLess_trans _ _ _ h1 h2)
    · exact .inl (e2 ▸ h1)
    · exact .inl (e1 ▸ h2)
    · exact .inr ⟨e1.trans e2, bytesLess_trans _ _ _ h1 h2⟩
  · simp only [lessV, lessP, Bool.or_eq_false_iff, Bool.and_eq_false_iff, beq_eq_false_iff_ne] at h1 h2
    have e := bytesLess_tri _ _ h1.1 h2.1
    have e2 := bytesLess_tri _ _ (h1.2.resolve_left (fun h => h e)) (h2.2.resolve_left (fun h => h e.symm))
    rw [Go.ByteArray.toList_eq, Go.ByteArray.toList_eq] at e2
    obtain ⟨a1, a2⟩ := a
    obtain ⟨b1, b2⟩ := b
    simp only at e e2
    rw [e, ByteArray.ext (Array.toList_inj.1 e2)]
end Go.Proofs.Ytdmlalnekjihfaa
