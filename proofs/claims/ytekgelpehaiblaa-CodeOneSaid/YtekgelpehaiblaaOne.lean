/- The walk of CodeOne. -/
import Derived.Test.YtekgelpehaiblaaBack
import Derived.Deep.DeepCutAuto
namespace Go.Proofs.Ytekgelpehaiblaa
open Go.RowKit Go.ChangeShapes
set_option linter.unusedVariables false

theorem numBytes_mono (k : Nat) : ∀ a b : Nat, a ≤ b → (numBytes k a).length ≤ (numBytes k b).length := by
  induction k with
  | zero => intro a b _; simp [numBytes]
  | succ k ih =>
    intro a b h
    unfold numBytes
    by_cases ha : a < 128
    · rw [if_pos ha]
      split
      · simp
      · simp
    · rw [if_neg ha, if_neg (by omega)]
      have := ih (a / 128) (b / 128) (by omega)
      simp only [List.length_cons]
      omega
theorem numBytes_inj {a b : Nat} (ha : a ≤ 1099511627776) (hb : b ≤ 1099511627776) (h : numBytes 5 a = numBytes 5 b) : a = b := by
  have h1 := numOf_bytes a [] ha
  have h2 := numOf_bytes b [] hb
  rw [h, h2] at h1
  simp only [Option.some.injEq, Prod.mk.injEq] at h1
  exact h1.1.symm

/-- Done, of any maker. -/
theorem done_any {F : Nat → Prop} {b : Nat} {m : Option (List UInt8)} (w : World) (hm : MakAt F w b m) (hlen : ∀ L, m = some L → L.length ≤ 140737488355328) :
    Calls Try.prog 17 #[.pointer (some ⟨b, 0, none⟩)] w fun r w' => ∃ v, r = .returned (.tuple #[v, .int .i64 (if m.isSome then 0 else 2)]) ∧ Fr (fun _ => False) w w' ∧ OwnB (fun k => w.heap.size ≤ k) w' v (m.getD []) := by
  cases m with
  | none => exact (done_no w hm).mono fun r w' ⟨hr, hw⟩ => ⟨_, hr, hw ▸ Fr.refl _ _, OwnB.nil _ _⟩
  | some L => exact (done_yes w hm (hlen L rfl)).mono fun r w' ⟨v, hr, hf, ho⟩ => ⟨v, hr, hf, ho⟩

/-- A maker of one number: Num, then Done; what it tells, and its error. -/
def numTold (n : Int) : List UInt8 × Int := if 0 ≤ n ∧ n ≤ 1099511627776 then (numBytes 5 n.toNat, 0) else ([], 2)
theorem done_num {F : Nat → Prop} {b : Nat} (n : Int) (w : World) (hm : MakAt F w b (mkNum n (some []))) :
    Calls Try.prog 17 #[.pointer (some ⟨b, 0, none⟩)] w fun r w' => ∃ v, r = .returned (.tuple #[v, .int .i64 (numTold n).2]) ∧ Fr (fun _ => False) w w' ∧ OwnB (fun k => w.heap.size ≤ k) w' v (numTold n).1 := by
  have hl : ∀ L, mkNum n (some []) = some L → L.length ≤ 140737488355328 := by
    intro L hL
    obtain ⟨L0, h0, h1⟩ := mkNum_len n (some []) L hL
    cases h0
    simp at h1
    omega
  refine (done_any w hm hl).mono fun r w' ⟨v, hr, hf, ho⟩ => ⟨v, ?_, hf, ?_⟩
  · rw [hr, numTold, mkNum]
    split <;> rfl
  · have e : (numTold n).1 = (mkNum n (some [])).getD [] := by
      rw [numTold, mkNum]
      split <;> simp
    rw [e]
    exact ho
theorem numTold_same {x y : Int} (hx : (numTold x).2 = 0) (hy : (numTold y).2 = 0) : sameB (numTold x).1 (numTold y).1 = (x == y) ∧ (x ≤ y → (numTold x).1.length ≤ (numTold y).1.length) := by
  unfold numTold at *
  split at hx
  · split at hy
    · rename_i h1 h2
      simp only [h1, h2, and_self, if_true]
      refine ⟨?_, fun h => numBytes_mono 5 _ _ (by omega)⟩
      by_cases e : x = y
      · subst e
        rw [sameB_eq rfl]
        simp
      · rw [sameB_ne (fun h => e (by have := numBytes_inj (by omega) (by omega) h; omega))]
        simp [e]
    · cases hy
  · cases hx

/-- What the loop does to the cursor and to the maker, at one part. -/
def oneStep (p : PartD) (X : List UInt8) (e : Int) (m : Option (List UInt8)) : List UInt8 × Int × Option (List UInt8) :=
  if p.what % 3 = 0 then ((curNum 1099511627776 X e).2.1, (curNum 1099511627776 X e).2.2, mkNum (curNum 1099511627776 X e).1 m)
  else if p.what % 3 = 1 then ((curRaw p.most X e).2.1, (curRaw p.most X e).2.2, m.map (· ++ (curRaw p.most X e).1))
  else ((curText 4000 X e).2.1, (curText 4000 X e).2.2, mkText (curText 4000 X e).1 m)

/-- All that holds of both, of the bytes B. -/
def OneInv (B X : List UInt8) (e : Int) (m : Option (List UInt8)) : Prop :=
  (e = 0 ∧ ∃ M, m = some M ∧ M ++ X = B) ∨ (e ≠ 0 ∧ ∀ L, m = some L → L.length ≤ B.length + 6)

theorem oneStep_inv (p : PartD) (B X : List UInt8) (m : Option (List UInt8)) (h : OneInv B X 0 m) : OneInv B (oneStep p X 0 m).1 (oneStep p X 0 m).2.1 (oneStep p X 0 m).2.2 := by
  rcases h with ⟨_, M, rfl, hB⟩ | ⟨h, _⟩
  · have hBl : M.length + X.length = B.length := by rw [← hB]; simp
    unfold oneStep
    split
    · have hv := numV_le X
      by_cases hs : numS X = 0
      · rw [curNum_none hs]
        refine .inr ⟨(show (4 : Int) ≠ 0 by decide), fun L hL => ?_⟩
        obtain ⟨L0, h0, h1⟩ := mkNum_len 0 (some M) L hL
        cases h0
        omega
      · rw [curNum_some hs]
        obtain ⟨v, s, hvs⟩ : ∃ v s, numOf X = some (v, s) := by
          cases hX : numOf X with
          | none => simp [numS, hX] at hs
          | some q => exact ⟨q.1, q.2, rfl⟩
        have h5 := numOf_made X v s hvs
        have e1 : numV X = v := by simp [numV, hvs]
        have e2 : numS X = s := by simp [numS, hvs]
        refine .inl ⟨rfl, M ++ numBytes 5 v, ?_, ?_⟩
        · rw [e1] at hv ⊢
          rw [mkNum, if_pos (by omega), Option.map_some]
          simp
        · rw [e2, List.append_assoc, ← h5, List.take_append_drop]; exact hB
    · split
      · unfold curRaw
        rw [if_pos rfl]
        split
        · refine .inr ⟨(show (4 : Int) ≠ 0 by decide), fun L hL => ?_⟩
          simp only [Option.map_some, Option.some.injEq] at hL
          subst hL
          simp
          omega
        · refine .inl ⟨rfl, M ++ X.take p.most.toNat, rfl, ?_⟩
          rw [List.append_assoc, List.take_append_drop]; exact hB
      · have hmt : ∀ L, mkText [] (some M) = some L → L.length ≤ B.length + 6 := by
          intro L hL
          simp only [mkText, List.length_nil, Nat.zero_le, if_true, Option.map_some, Option.some.injEq] at hL
          subst hL
          have := (numBytes_len 5 0).2
          simp
          omega
        by_cases hs : numS X = 0
        · have : curText 4000 X 0 = ([], [], 4) := by simp [curText, hs]
          rw [this]
          exact .inr ⟨(show (4 : Int) ≠ 0 by decide), hmt⟩
        · by_cases hm : (4000 : Int) < numV X
          · have : curText 4000 X 0 = ([], [], 3) := by simp [curText, hs]; omega
            rw [this]
            exact .inr ⟨(show (3 : Int) ≠ 0 by decide), hmt⟩
          · have hct : curText 4000 X 0 = curRaw (numV X) (X.drop (numS X)) 0 := by
              rw [curText, if_pos rfl, if_neg hs, if_neg hm, if_neg (by omega)]
            rw [hct]
            unfold curRaw
            rw [if_pos rfl]
            obtain ⟨v, s, hvs⟩ : ∃ v s, numOf X = some (v, s) := by
              cases hX : numOf X with
              | none => simp [numS, hX] at hs
              | some q => exact ⟨q.1, q.2, rfl⟩
            have h5 := numOf_made X v s hvs
            have e1 : numV X = v := by simp [numV, hvs]
            have e2 : numS X = s := by simp [numS, hvs]
            rw [e1, e2]
            rw [e1] at hm
            split
            · exact .inr ⟨(show (4 : Int) ≠ 0 by decide), hmt⟩
            · rename_i hc
              have htl : ((X.drop s).take ((v : Int)).toNat).length = v := by rw [List.length_take, Int.toNat_natCast]; omega
              refine .inl ⟨rfl, M ++ (numBytes 5 v ++ (X.drop s).take ((v : Int)).toNat), ?_, ?_⟩
              · rw [mkText, htl, if_pos (by omega), Option.map_some]
              · rw [List.append_assoc, List.append_assoc, List.take_append_drop, ← h5, List.take_append_drop]; exact hB
  · exact absurd rfl h

theorem OneInv.len {B X : List UInt8} {e : Int} {m : Option (List UInt8)} (h : OneInv B X e m) : ∀ L, m = some L → L.length ≤ B.length + 6 := by
  rcases h with ⟨_, M, rfl, hB⟩ | ⟨_, h⟩
  · intro L hL
    cases hL
    rw [← hB]
    simp
    omega
  · exact h

theorem OneInv.fin {B X : List UInt8} {e : Int} {m : Option (List UInt8)} (h : OneInv B X e m) (he : curEnd X e = 0) : m = some B := by
  unfold curEnd at he
  split at he
  · cases he
  · rename_i hc
    subst he
    rcases h with ⟨_, M, rfl, hB⟩ | ⟨h, _⟩
    · have hX : X = [] := Classical.byContradiction fun hne => hc ⟨rfl, hne⟩
      rw [hX, List.append_nil] at hB
      rw [hB]
    · exact absurd rfl h

end Go.Proofs.Ytekgelpehaiblaa
