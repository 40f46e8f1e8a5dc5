/- The law's plain mathematics: what is made of parts, what is got of bytes. No walk. -/
import Derived.Test.YthjpgnmpcllolaaParts
namespace Go.Proofs.Ythjpgnmpcllolaa
set_option linter.unusedVariables false

/-- What a maker has behind one part. -/
def mkPart (p : PartD) (m : Option (List UInt8)) : Option (List UInt8) :=
  if p.what % 3 = 0 then mkNum p.n m else if p.what % 3 = 1 then m.map (· ++ p.B) else mkText p.B m
def mkAll (l : List PartD) (m : Option (List UInt8)) : Option (List UInt8) := l.foldl (fun m p => mkPart p m) m

/-- The bytes of one part that may be put. -/
def partBytes (p : PartD) : Option (List UInt8) :=
  if p.what % 3 = 0 then (if 0 ≤ p.n ∧ p.n ≤ 1099511627776 then some (numBytes 5 p.n.toNat) else none) else if p.what % 3 = 1 then some p.B else if p.B.length ≤ 1048576 then some (numBytes 5 p.B.length ++ p.B) else none

theorem mkPart_eq (p : PartD) (m : Option (List UInt8)) : mkPart p m = match partBytes p with | some P => m.map (· ++ P) | none => none := by
  unfold mkPart partBytes mkNum mkText
  split
  · split <;> rfl
  · split
    · rfl
    · split <;> rfl

theorem mkPart_len (p : PartD) (m : Option (List UInt8)) : ∀ L, mkPart p m = some L → ∃ L0, m = some L0 ∧ L.length ≤ L0.length + 6 + p.B.length := by
  intro L h
  unfold mkPart mkNum mkText at h
  split at h
  · split at h
    · obtain ⟨L0, hL0, rfl⟩ := Option.map_eq_some_iff.1 h
      have := (numBytes_len 5 p.n.toNat).2
      exact ⟨L0, hL0, by simp; omega⟩
    · cases h
  · split at h
    · obtain ⟨L0, hL0, rfl⟩ := Option.map_eq_some_iff.1 h
      exact ⟨L0, hL0, by rw [List.length_append]; omega⟩
    · split at h
      · obtain ⟨L0, hL0, rfl⟩ := Option.map_eq_some_iff.1 h
        have := (numBytes_len 5 p.B.length).2
        exact ⟨L0, hL0, by simp; omega⟩
      · cases h

/-- What a cursor tells of one part: is it the part's own; what is left. -/
def gotPart (p : PartD) (X : List UInt8) (e : Int) : Bool × List UInt8 × Int :=
  if p.what % 3 = 0 then (decide ((curNum p.n X e).1 = p.n), (curNum p.n X e).2)
  else if p.what % 3 = 1 then (sameB (curRaw p.B.length X e).1 p.B, (curRaw p.B.length X e).2)
  else (sameB (curText p.B.length X e).1 p.B, (curText p.B.length X e).2)

/-- .. of a row of parts: it stops at the first one that is not. -/
def gotAll : List PartD → List UInt8 → Int → Bool × List UInt8 × Int
  | [], X, e => (true, X, e)
  | p :: l, X, e => if (gotPart p X e).1 then gotAll l (gotPart p X e).2.1 (gotPart p X e).2.2 else (false, (gotPart p X e).2)

theorem numS_pos (n : Nat) (R : List UInt8) (h : n ≤ 1099511627776) : numS (numBytes 5 n ++ R) = (numBytes 5 n).length ∧ numV (numBytes 5 n ++ R) = n := by
  simp [numS, numV, numOf_bytes n R h]

theorem gotPart_made (p : PartD) (P R : List UInt8) (h : partBytes p = some P) : gotPart p (P ++ R) 0 = (true, R, 0) := by
  unfold partBytes at h
  unfold gotPart
  split at h
  · rename_i h0
    split at h
    · rename_i hn
      cases h
      obtain ⟨k, hk⟩ := Int.eq_ofNat_of_zero_le hn.1
      have hk' : p.n.toNat = k := by omega
      obtain ⟨h1, h2⟩ := numS_pos k R (by omega)
      have hl := (numBytes_len 5 k).1
      rw [if_pos h0, hk']
      have : curNum p.n (numBytes 5 k ++ R) 0 = ((k : Int), R, 0) := by
        rw [curNum, if_pos rfl, h1, h2, if_neg (by omega), List.drop_left]
      rw [this, hk]
      simp
    · cases h
  · rename_i h0
    rw [if_neg h0]
    split at h
    · rename_i h1
      cases h
      rw [if_pos h1]
      have : curRaw p.B.length (p.B ++ R) 0 = (p.B, R, 0) := by
        rw [curRaw, if_pos rfl, if_neg (by simp; omega), Int.toNat_natCast, List.take_left, List.drop_left]
      rw [this]
      simp [sameB]
    · rename_i h1
      rw [if_neg h1]
      split at h
      · rename_i h2
        cases h
        obtain ⟨h3, h4⟩ := numS_pos p.B.length (p.B ++ R) (by omega)
        have hl := (numBytes_len 5 p.B.length).1
        have : curText p.B.length ((numBytes 5 p.B.length ++ p.B) ++ R) 0 = (p.B, R, 0) := by
          rw [List.append_assoc, curText, if_pos rfl, h3, h4, if_neg (by omega), if_neg (by omega), if_neg (by omega), List.drop_left, curRaw, if_pos rfl, if_neg (by simp; omega), Int.toNat_natCast, List.take_left, List.drop_left]
        rw [this]
        simp [sameB]
      · cases h

/-- What is told of one part is its own, and nothing is broken: its bytes stood there. -/
theorem gotPart_own (p : PartD) (X Y : List UInt8) (e : Int) (h : gotPart p X e = (true, Y, 0)) : e = 0 ∧ ∃ P, partBytes p = some P ∧ X = P ++ Y := by
  unfold gotPart at h
  unfold partBytes
  split at h
  · rename_i h0
    simp only [h0, if_true]
    simp only [Prod.mk.injEq, decide_eq_true_eq] at h
    obtain ⟨h1, h2⟩ := h
    unfold curNum at h1 h2
    split at h2
    · rename_i he
      split at h2
      · cases h2
      · rename_i hc
        simp only [he, if_true, hc, if_false] at h1
        simp only [Prod.mk.injEq] at h2
        have hv := numV_le X
        obtain ⟨v, s, hvs⟩ : ∃ v s, numOf X = some (v, s) := by
          cases hX : numOf X with
          | none => simp [numS, hX] at hc
          | some q => exact ⟨q.1, q.2, rfl⟩
        have h3 := numOf_made X v s hvs
        have e1 : numV X = v := by simp [numV, hvs]
        have e2 : numS X = s := by simp [numS, hvs]
        refine ⟨he, numBytes 5 p.n.toNat, by rw [if_pos (by omega)], ?_⟩
        rw [← h2.1, e2, show p.n.toNat = v by omega, ← h3, List.take_append_drop]
    · rename_i he
      simp only [Prod.mk.injEq] at h2
      exact absurd h2.2 he
  · rename_i h0
    simp only [h0, if_false]
    split at h
    · rename_i h1
      simp only [h1, if_true]
      simp only [Prod.mk.injEq] at h
      obtain ⟨h1, h2⟩ := h
      unfold curRaw at h1 h2
      split at h2
      · rename_i he
        split at h2
        · cases h2
        · rename_i hc
          simp only [he, if_true, hc, if_false, sameB, decide_eq_true_eq] at h1
          simp only [Prod.mk.injEq] at h2
          refine ⟨he, p.B, rfl, ?_⟩
          have hX := List.take_append_drop ((p.B.length : Int)).toNat X
          rw [h1, h2.1] at hX
          exact hX.symm
      · rename_i he
        simp only [Prod.mk.injEq] at h2
        exact absurd h2.2 he
    · rename_i h1
      simp only [h1, if_false]
      simp only [Prod.mk.injEq] at h
      obtain ⟨h3, h2⟩ := h
      unfold curText at h3 h2
      split at h2
      · rename_i he
        split at h2
        · cases h2
        · rename_i hs
          split at h2
          · cases h2
          · rename_i hm
            split at h2
            · cases h2
            · rename_i hb
              simp only [he, if_true, hs, if_false, hm, hb] at h3
              unfold curRaw at h3 h2
              simp only [if_true] at h3 h2
              split at h2
              · cases h2
              · rename_i hc
                simp only [hc, if_false, sameB, decide_eq_true_eq] at h3
                simp only [Prod.mk.injEq, Int.toNat_natCast] at h2 h3
                have hv := numV_le X
                obtain ⟨v, s, hvs⟩ : ∃ v s, numOf X = some (v, s) := by
                  cases hX : numOf X with
                  | none => simp [numS, hX] at hs
                  | some q => exact ⟨q.1, q.2, rfl⟩
                have h5 := numOf_made X v s hvs
                have e1 : numV X = v := by simp [numV, hvs]
                have e2 : numS X = s := by simp [numS, hvs]
                have hlen : p.B.length = v := by
                  rw [← h3, List.length_take, e1]
                  rw [e1] at hc
                  omega
                refine ⟨he, numBytes 5 p.B.length ++ p.B, by rw [if_pos (by omega)], ?_⟩
                rw [List.append_assoc, ← h2.1, e1, e2, hlen, ← h5]
                conv => lhs; rw [← List.take_append_drop s X]
                congr 1
                conv => lhs; rw [← List.take_append_drop v (X.drop s)]
                congr 1
                rw [← h3, e1, e2]
      · rename_i he
        simp only [Prod.mk.injEq] at h2
        exact absurd h2.2 he

/-- What is made is got, in its order. -/
theorem gotAll_made (l : List PartD) : ∀ (A R L : List UInt8), mkAll l (some A) = some L → ∃ M, L = A ++ M ∧ gotAll l (M ++ R) 0 = (true, R, 0) := by
  induction l with
  | nil => intro A R L h; cases h; exact ⟨[], by simp, rfl⟩
  | cons p l ih =>
    intro A R L h
    simp only [mkAll, List.foldl_cons] at h
    rw [mkPart_eq] at h
    cases hP : partBytes p with
    | none =>
      rw [hP] at h
      have hn : ∀ l : List PartD, l.foldl (fun m p => mkPart p m) none = none := by
        intro l
        induction l with
        | nil => rfl
        | cons q l ih => rw [List.foldl_cons, mkPart_eq]; cases partBytes q <;> simp [ih]
      simp only [hn] at h
      cases h
    | some P =>
      rw [hP] at h
      obtain ⟨M, hM, hg⟩ := ih (A ++ P) R L h
      refine ⟨P ++ M, by rw [hM, List.append_assoc], ?_⟩
      rw [gotAll, List.append_assoc, gotPart_made p P (M ++ R) hP]
      simpa using hg

/-- What is got whole, and nothing broken, was made. -/
theorem gotAll_own (l : List PartD) : ∀ (X Y A : List UInt8) (e : Int), gotAll l X e = (true, Y, 0) → e = 0 ∧ ∃ M, X = M ++ Y ∧ mkAll l (some A) = some (A ++ M) := by
  induction l with
  | nil => intro X Y A e h; simp only [gotAll, Prod.mk.injEq] at h; exact ⟨h.2.2, [], by simpa using h.2.1, by simp [mkAll]⟩
  | cons p l ih =>
    intro X Y A e h
    rw [gotAll] at h
    cases hg : (gotPart p X e).1 with
    | false => rw [hg] at h; simp at h
    | true =>
      rw [hg] at h
      simp only [if_true] at h
      obtain ⟨e2, hM0⟩ : (gotPart p X e).2.2 = 0 ∧ True := ⟨(ih _ Y A _ h).1, trivial⟩
      have hq : gotPart p X e = (true, (gotPart p X e).2.1, 0) := by
        rw [← hg, ← e2]
      obtain ⟨he, P, hP, hX⟩ := gotPart_own p X _ e hq
      obtain ⟨_, M, hM, hmk⟩ := ih (gotPart p X e).2.1 Y (A ++ P) _ h
      refine ⟨he, P ++ M, by rw [hX, List.append_assoc, ← hM], ?_⟩
      simp only [mkAll, List.foldl_cons]
      rw [mkPart_eq, hP]
      simp only [Option.map_some]
      rw [← List.append_assoc]
      exact hmk

end Go.Proofs.Ythjpgnmpcllolaa
