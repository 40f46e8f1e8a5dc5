/- CodeMakes: what the document's maker has behind a part; both makers, apart. -/
import Derived.Test.YthjpgnmpcllolaaRefMaker
import Derived.Test.YthjpgnmpcllolaaPlain
import Derived.Test.YthjpgnmpcllolaaKept
import Derived.Test.YthjpgnmpcllolaaApartBytes
namespace Go.Proofs.Ythjpgnmpcllolaa
open Go.RowKit Go.ChangeShapes
set_option linter.unusedVariables false

/-- What the document's maker has behind one part: its bytes, whether it is broken. -/
def refPart (p : PartD) (s : List UInt8 × Bool) : List UInt8 × Bool :=
  if p.what % 3 = 0 then (if 0 ≤ p.n ∧ p.n ≤ 1099511627776 then (s.1 ++ numBytes 5 p.n.toNat, s.2) else (s.1, true))
  else if p.what % 3 = 1 then (s.1 ++ p.B, s.2)
  else if p.B.length ≤ 1048576 then (s.1 ++ numBytes 5 p.B.length ++ p.B, s.2) else (s.1, true)

/-- What it would tell. -/
def refTold (s : List UInt8 × Bool) : Option (List UInt8) := if s.2 then none else some s.1

theorem refTold_part (p : PartD) (s : List UInt8 × Bool) : mkPart p (refTold s) = refTold (refPart p s) := by
  obtain ⟨L, br⟩ := s
  unfold mkPart refPart refTold mkNum mkText
  cases br <;> simp <;> (repeat' split) <;> simp_all

theorem refPart_len (p : PartD) (s : List UInt8 × Bool) : (refPart p s).1.length ≤ s.1.length + 6 + p.B.length := by
  have h1 := (numBytes_len 5 p.n.toNat).2
  have h2 := (numBytes_len 5 p.B.length).2
  unfold refPart
  (repeat' split) <;> simp <;> omega

def refAll (l : List PartD) : List UInt8 × Bool := l.foldl (fun s p => refPart p s) ([], false)

theorem foldl_told (l : List PartD) : ∀ s, l.foldl (fun m p => mkPart p m) (refTold s) = refTold (l.foldl (fun s p => refPart p s) s) := by
  induction l with
  | nil => intro s; rfl
  | cons p r ih => intro s; rw [List.foldl_cons, List.foldl_cons, refTold_part, ih]

/-- Both tell the same. -/
theorem mkAll_told (l : List PartD) : mkAll l (some []) = refTold (refAll l) := foldl_told l ([], false)

theorem refAll_take_succ (l : List PartD) (k : Nat) (h : k < l.length) : refAll (l.take (k + 1)) = refPart l[k] (refAll (l.take k)) := by
  unfold refAll
  rw [List.take_succ_eq_append_getElem h, List.foldl_append]
  rfl

theorem foldl_len (l : List PartD) : ∀ s : List UInt8 × Bool, (l.foldl (fun s p => refPart p s) s).1.length ≤ s.1.length + 6 * l.length + (l.map (·.B.length)).sum := by
  induction l with
  | nil => intro s; simp
  | cons p r ih =>
    intro s
    have h1 := ih (refPart p s)
    have h2 := refPart_len p s
    rw [List.foldl_cons, List.map_cons, List.sum_cons, List.length_cons]
    omega

theorem refAll_take_len (l : List PartD) (k : Nat) (hb : bulkOf l ≤ 4000) : (refAll (l.take k)).1.length ≤ 30000 := by
  have h1 := foldl_len (l.take k) ([], false)
  have h2 := sum_take_le l k
  have h3 : (l.take k).length ≤ l.length := by rw [List.length_take]; omega
  unfold bulkOf at hb
  unfold refAll
  simp only [List.length_nil, Nat.zero_add] at h1
  omega

/-- Both makers in memory, each in blocks of its own, above B. -/
def BothAt (B : Nat) (w : World) (mb rb : Nat) (s : List UInt8 × Bool) : Prop :=
  ∃ D E : Nat → Prop, MakAt D w mb (refTold s) ∧ RefAt E w rb s.1 s.2 ∧ (∀ k, D k → B ≤ k) ∧ (∀ k, E k → B ≤ k) ∧ (∀ k, D k → ¬ E k) ∧ (∀ k, D k → k < w.heap.size) ∧ (∀ k, E k → k < w.heap.size)

/-- .. and both off block g. -/
def BothOff (B : Nat) (w : World) (mb rb : Nat) (s : List UInt8 × Bool) (g : Nat) : Prop :=
  ∃ D E : Nat → Prop, MakAt D w mb (refTold s) ∧ RefAt E w rb s.1 s.2 ∧ (∀ k, D k → B ≤ k) ∧ (∀ k, E k → B ≤ k) ∧ (∀ k, D k → ¬ E k) ∧ (∀ k, D k → k < w.heap.size) ∧ (∀ k, E k → k < w.heap.size) ∧ ¬ D g ∧ ¬ E g
theorem BothOff.at {B : Nat} {w : World} {mb rb : Nat} {s : List UInt8 × Bool} {g : Nat} (h : BothOff B w mb rb s g) : BothAt B w mb rb s := by
  obtain ⟨D, E, h1, h2, h3, h4, h5, h6, h7, _, _⟩ := h
  exact ⟨D, E, h1, h2, h3, h4, h5, h6, h7⟩
/-- Where only g and newer blocks are turned they stay. -/
theorem BothOff.keep {S : Nat → Prop} {B : Nat} {w w' : World} {mb rb g : Nat} {s : List UInt8 × Bool} (h : BothOff B w mb rb s g) (hf : Fr S w w') (hS : ∀ k, S k → k = g ∨ w.heap.size ≤ k) : BothOff B w' mb rb s g := by
  obtain ⟨D, E, h1, h2, h3, h4, h5, h6, h7, h8, h9⟩ := h
  refine ⟨D, E, h1.keep hf (fun k hk hd hs => ?_), h2.keep hf (fun k hk hd hs => ?_), h3, h4, h5, fun k hk => Nat.lt_of_lt_of_le (h6 k hk) hf.size, fun k hk => Nat.lt_of_lt_of_le (h7 k hk) hf.size, h8, h9⟩
  · rcases hS k hs with rfl | h
    · exact h8 hd
    · omega
  · rcases hS k hs with rfl | h
    · exact h9 hd
    · omega

theorem done_told {B mb rb g : Nat} {s : List UInt8 × Bool} (w : World) (h : BothOff B w mb rb s g) (hlen : s.1.length ≤ 100000) :
    Calls Try.prog 17 #[.pointer (some ⟨mb, 0, none⟩)] w fun r w' => ∃ v, r = .returned (.tuple #[v, .int .i64 (if s.2 then 2 else 0)]) ∧ Fr (fun _ => False) w w' ∧ OwnB (fun k => w.heap.size ≤ k) w' v (if s.2 then [] else s.1) := by
  obtain ⟨D, E, h1, _⟩ := h
  obtain ⟨L, br⟩ := s
  cases br with
  | true =>
    refine (done_no w h1).mono ?_
    rintro e w' ⟨rfl, rfl⟩
    exact ⟨_, rfl, Fr.refl _ _, OwnB.nil _ _⟩
  | false =>
    refine (done_yes w h1 (Nat.le_trans hlen (by omega))).mono ?_
    rintro e w' ⟨v, rfl, hf, ho⟩
    exact ⟨v, rfl, hf, ho⟩

theorem refDone_told {B mb rb g : Nat} {s : List UInt8 × Bool} (w : World) (h : BothOff B w mb rb s g) (hlen : s.1.length ≤ 100000) :
    Calls Try.prog 18 #[.pointer (some ⟨rb, 0, none⟩)] w fun r w' => ∃ v, r = .returned (.tuple #[v, .int .i64 (if s.2 then 2 else 0)]) ∧ Fr (fun _ => False) w w' ∧ OwnB (fun k => w.heap.size ≤ k) w' v (if s.2 then [] else s.1) := by
  obtain ⟨D, E, _, h1, _⟩ := h
  obtain ⟨L, br⟩ := s
  cases br with
  | true =>
    refine (refDone_no w h1).mono ?_
    rintro e w' ⟨rfl, rfl⟩
    exact ⟨_, rfl, Fr.refl _ _, OwnB.nil _ _⟩
  | false =>
    refine (refDone_yes w h1 (Nat.le_trans hlen (by omega))).mono ?_
    rintro e w' ⟨v, rfl, hf, ho⟩
    exact ⟨v, rfl, hf, ho⟩

/-- The three lists of a round, by their places. -/
def tri (x y z : Value) : Nat → Value | 0 => x | 1 => y | _ => z
def triL (x y z : List UInt8) : Nat → List UInt8 | 0 => x | 1 => y | _ => z

/-- ApartBytes of three lists, each newer than the one before. -/
theorem apart_three {lb : Nat} {va vc vi : Value} {La Lc Li : List UInt8} {Fa Fc Fi : Nat → Prop} (w : World) (h0 : w.heap[lb]? = some (.cells #[va, vc, vi] 32 (0, 0)))
    (ha : OwnB Fa w va La) (hc : OwnB Fc w vc Lc) (hi : OwnB Fi w vi Li) (hac : ∀ k, Fa k → ¬ Fc k) (hai : ∀ k, Fa k → ¬ Fi k) (hci : ∀ k, Fc k → ¬ Fi k)
    (la : La.length ≤ 1000000) (lc : Lc.length ≤ 1000000) (li : Li.length ≤ 1000000) :
    Calls Try.prog 21 #[.slice (some ⟨lb, 0, none⟩) 3 3] w fun e w' => e = .returned (.bool true) ∧ Fr (fun k => Fa k ∨ Fc k ∨ Fi k) w w' := by
  refine (ApartBytes_any 3 lb 3 (tri va vc vi) (triL La Lc Li) w (by omega) (by omega) (by omega) ?_ ?_ ?_ ?_).mono ?_
  · intro j hj
    match j, hj with
    | 0, _ => simp [World.cell?, h0, tri]
    | 1, _ => simp [World.cell?, h0, tri]
    | 2, _ => simp [World.cell?, h0, tri]
  · intro j hj
    match j, hj with
    | 0, _ => exact ha.mono (fun _ _ _ => trivial)
    | 1, _ => exact hc.mono (fun _ _ _ => trivial)
    | 2, _ => exact hi.mono (fun _ _ _ => trivial)
  · intro i j hi' hj hij g hg hg2
    match i, j, hi', hj with
    | 0, 0, _, _ => exact hij rfl
    | 1, 1, _, _ => exact hij rfl
    | 2, 2, _, _ => exact hij rfl
    | 0, 1, _, _ => exact hac g (ha.2 g hg) (hc.2 g hg2)
    | 1, 0, _, _ => exact hac g (ha.2 g hg2) (hc.2 g hg)
    | 0, 2, _, _ => exact hai g (ha.2 g hg) (hi.2 g hg2)
    | 2, 0, _, _ => exact hai g (ha.2 g hg2) (hi.2 g hg)
    | 1, 2, _, _ => exact hci g (hc.2 g hg) (hi.2 g hg2)
    | 2, 1, _, _ => exact hci g (hc.2 g hg2) (hi.2 g hg)
  · intro j hj
    match j, hj with
    | 0, _ => show La.length ≤ _; omega
    | 1, _ => show Lc.length ≤ _; omega
    | 2, _ => show Li.length ≤ _; omega
  · rintro e w' ⟨rfl, hf⟩
    refine ⟨rfl, hf.mono ?_⟩
    rintro k _ ⟨j, hj, hk⟩
    match j, hj with
    | 0, _ => exact .inl (ha.2 k hk)
    | 1, _ => exact .inr (.inl (hc.2 k hk))
    | 2, _ => exact .inr (.inr (hi.2 k hk))

/-- A call of the maker, then one of the document's, each in blocks of its own and new ones. -/
theorem BothAt.step {B g : Nat} {w w1 w2 w3 w4 : World} {mb rb : Nat} {D E : Nat → Prop} {s' : List UInt8 × Bool} (hB : B ≤ w.heap.size)
    (h3 : ∀ k, D k → B ≤ k) (h4 : ∀ k, E k → B ≤ k) (h5 : ∀ k, D k → ¬ E k) (h6 : ∀ k, D k → k < w.heap.size) (h7 : ∀ k, E k → k < w.heap.size)
    (hg1 : w.heap.size ≤ g) (hg2 : g < w1.heap.size)
    (f1 : Fr (fun _ => False) w w1) (hm : MakAt (fun k => D k ∨ w1.heap.size ≤ k) w2 mb (refTold s')) (f2 : Fr (fun k => D k ∨ w1.heap.size ≤ k) w1 w2)
    (f3 : Fr (fun _ => False) w2 w3) (hr : RefAt (fun k => E k ∨ w3.heap.size ≤ k) w4 rb s'.1 s'.2) (f4 : Fr (fun k => E k ∨ w3.heap.size ≤ k) w3 w4) : BothOff B w4 mb rb s' g := by
  have z1 := f1.size; have z2 := f2.size; have z3 := f3.size; have z4 := f4.size
  refine ⟨fun k => (D k ∨ w1.heap.size ≤ k) ∧ k < w2.heap.size, fun k => (E k ∨ w3.heap.size ≤ k) ∧ k < w4.heap.size, ?_, hr.mono (fun k hk h => ⟨h, hk⟩), ?_, ?_, ?_, ?_, ?_, ?_, ?_⟩
  · have m1 := hm.mono (G := fun k => (D k ∨ w1.heap.size ≤ k) ∧ k < w2.heap.size) (fun k hk h => ⟨h, hk⟩)
    refine (m1.keep f3 (fun k _ _ h => h)).keep f4 (fun k hk h hs => ?_)
    rcases hs with hs | hs
    · rcases h.1 with hd | hd
      · exact h5 k hd hs
      · have := h7 k hs; omega
    · have := h.2; omega
  · rintro k ⟨h | h, _⟩
    · exact h3 k h
    · omega
  · rintro k ⟨h | h, _⟩
    · exact h4 k h
    · omega
  · rintro k ⟨h | h, h'⟩ ⟨g | g, _⟩
    · exact h5 k h g
    · have := h6 k h; omega
    · have := h7 k g; omega
    · omega
  · rintro k ⟨_, h⟩; omega
  · rintro k ⟨_, h⟩; exact h
  · rintro ⟨h | h, _⟩
    · have := h6 g h; omega
    · omega
  · rintro ⟨h | h, _⟩
    · have := h7 g h; omega
    · omega
end Go.Proofs.Ythjpgnmpcllolaa
