/- A region that draws its order, where all is known ahead: each of its first n operations comes to one value, and the world hangs on which of them have come alone. No program of its own. -/
import Derived.Test.YthmcmomkomhilaaInv
namespace Go.Proofs.Ythmcmomkomhilaa
open Go.RowKit
set_option linter.unusedVariables false
section
variable {P : Program}

/-- One operation: what it may lean on, and what it owes. -/
def DetStep (P : Program) (l : List Oper) (n : Nat) (Q : Exit → Act → World → Prop) (vals : Nat → Value) (Wd : (Nat → Bool) → World) (a0 : Act) (i : Nat) (o : Oper) : Prop :=
  ∀ (a : Act) (f : Nat → Bool), f i = false → (∀ j, waitsOn o j = true → f j = true) → (∀ j oj, l[j]? = some oj → f j = true → ∀ k, waitsOn oj k = true → f k = true) → a.tmps.size = a0.tmps.size →
    (∀ j t, waitsOn o j = true → dstAt l j = some t → a.eval (.tmp t) = vals j) → (∀ t, untouched l n t = true → a.eval (.tmp t) = a0.eval (.tmp t)) →
    WpG P l o a (Wd f) (fun a' w' => a' = a.put o.dst (vals i) ∧ w' = Wd (fun j => if j = i then true else f j)) Q

theorem wp_region_det {id : Nat} {Q : Exit → Act → World → Prop} {a : Act} {w : World} {l : List Oper} (n : Nat) (hm : P.follows .mixedOrders = true) (hB : invB l n a.tmps.size = true)
    (vals : Nat → Value) (Wd : (Nat → Bool) → World) (hW0 : Wd (fun _ => false) = w.drew) (hWc : ∀ f g : Nat → Bool, (∀ j, j < n → f j = g j) → Wd f = Wd g)
    (hstep : ∀ i, i < n → ∀ o, l[i]? = some o → DetStep P l n Q vals Wd a i o)
    (htail : wpList P l.toArray Q (l.drop n) (acts l (fun _ => true) vals a n) (Wd (fun _ => true))) : (Code.region id l.toArray true).wp P Q a w := by
  simp only [invB, Bool.and_eq_true, decide_eq_true_eq, Bool.or_eq_true] at hB
  obtain ⟨⟨⟨⟨hn, hops⟩, hdst⟩, hwait⟩, hseq⟩ := hB
  have hop : ∀ i, i < n → ∃ o, l[i]? = some o ∧ (∀ e ∈ o.after, Region.binds .any e = true → e.on < i) ∧ (∀ d, o.dst = some d → d < a.tmps.size) := by
    intro i hi
    have h := List.all_eq_true.1 hops i (List.mem_range.2 hi)
    cases ho : l[i]? with
    | none => rw [ho] at h; cases h
    | some o =>
      rw [ho] at h
      simp only [Bool.and_eq_true] at h
      obtain ⟨h2, h3⟩ := h
      refine ⟨o, rfl, fun e he hb => ?_, fun d hd => ?_⟩
      · have := Array.all_eq_true_iff_forall_mem.1 h2 e he
        rw [hb] at this
        simpa using this
      · rw [hd] at h3
        simpa using h3
  have hdis : ∀ i j, i < n → j < n → j ≠ i → ∀ d, dstAt l i = some d → dstAt l j ≠ some d := by
    intro i j hi hj hji d hd hd2
    have h := List.all_eq_true.1 (List.all_eq_true.1 hdst i (List.mem_range.2 hi)) j (List.mem_range.2 hj)
    rw [hd, hd2] at h
    simp at h
    omega
  have hwo : ∀ (o : Oper) (j : Nat), waitsOn o j = true → ∃ e ∈ o.after, Region.binds .any e = true ∧ e.on = j := by
    intro o j hj
    obtain ⟨e, he, hb⟩ := Array.any_eq_true'.1 hj
    simp only [Bool.and_eq_true, beq_iff_eq] at hb
    exact ⟨e, he, hb.1, hb.2⟩
  refine wp_region_any hm ?_
  have main : ∀ (m : Nat) (listed : Array Bool) (w' : World), left n listed = m → HeadInv .any l.toArray n listed → w' = Wd (fun i => listed.getD i false) →
      wpAny P .any l.toArray Q (m + (l.length - n)) listed (acts l (fun i => listed.getD i false) vals a n) w' := by
    intro m
    induction m with
    | zero =>
      intro listed w' hl inv hw
      have hall : ∀ i, i < n → listed.getD i false = true := fun i hi => by simpa using countP_zero n hl i hi
      have hlisted : listed = (List.replicate n true ++ List.replicate (l.length - n) false).toArray := by
        apply Array.ext
        · rw [inv.size]; simp; omega
        · intro i h1 h2
          have hi : i < l.length := by rw [inv.size] at h1; simpa using h1
          have e1 : listed[i] = listed.getD i false := by simp [h1]
          rw [e1]
          by_cases h : i < n
          · rw [hall i h]
            simp [h]
          · rw [getD_both (inv.tail i (by omega) (by simpa using hi))]
            simp [List.getElem_append, h]
      have hact : acts l (fun i => listed.getD i false) vals a n = acts l (fun _ => true) vals a n := acts_congr n fun j hj => ⟨hall j hj, fun _ => rfl⟩
      rw [hact, Nat.zero_add, hw, hWc _ (fun _ => true) (fun j hj => hall j hj)]
      have hdl : (l.drop n).length = l.length - n := by simp
      rw [← hdl]
      refine wpAny_of_seq (l.drop n) n listed _ _ (fun j => by simp [List.getElem?_drop]) ?_ htail
      rw [hdl, hlisted]
      exact hseq
    | succ m ih =>
      intro listed w' hl inv hw
      have hex : ∃ i, i < n ∧ listed.getD i false = false := by
        by_cases h : ∃ i, i < n ∧ listed.getD i false = false
        · exact h
        · exfalso
          have : left n listed = 0 := by
            unfold left
            rw [List.countP_eq_zero]
            intro i hi
            have hi' := List.mem_range.1 hi
            cases hg : listed.getD i false with
            | true => simp
            | false => exact absurd ⟨i, hi', hg⟩ h
          omega
      obtain ⟨i0, hi0, hun0⟩ := hex
      have hne : Region.ready .any l.toArray listed ≠ [] := by
        obtain ⟨i1, ⟨hi1, hun1⟩, hmin⟩ := least (p := fun i => i < n ∧ listed.getD i false = false) i0 ⟨hi0, hun0⟩
        obtain ⟨o, ho, hback, _⟩ := hop i1 hi1
        have : i1 ∈ Region.ready .any l.toArray listed := by
          refine mem_ready.2 ⟨getD_in (by rw [inv.size]; simp; omega) hun1, o, by simpa using ho, fun e he hb => ?_⟩
          have h1 := hback e he hb
          cases hg : listed.getD e.on false with
          | true => rfl
          | false => exact absurd ⟨by omega, hg⟩ (hmin e.on h1)
        intro h
        rw [h] at this
        cases this
      rw [show m + 1 + (l.length - n) = (m + (l.length - n)) + 1 by omega]
      refine ⟨fun h => absurd h hne, fun i hi => ?_⟩
      have hin : i < n := by
        rcases Nat.lt_or_ge i n with h | h
        · exact h
        · exfalso
          rcases hwait with hw | ⟨⟨hs, hc⟩, hlt⟩
          · obtain ⟨_, o, ho, _⟩ := mem_ready.1 hi
            have := (Array.getElem?_eq_some_iff.1 ho).1
            simp at this
            omega
          · exact tail_waits hs hc (by simpa using hlt) inv _ i0 rfl hi0 (getD_in (by rw [inv.size]; simp; omega) hun0) i h hi
      obtain ⟨hun, o', ho', hall⟩ := mem_ready.1 hi
      obtain ⟨o, ho, hback, hds⟩ := hop i hin
      have : o' = o := by simpa [ho] using ho'.symm
      subst this
      have hdo : dstAt l i = o'.dst := by simp [dstAt, ho]
      have hunf := getD_both hun
      have hst := hstep i hin o' ho (acts l (fun i => listed.getD i false) vals a n) (fun i => listed.getD i false) hunf
        (fun j hj => by obtain ⟨e, he, hb, rfl⟩ := hwo o' j hj; exact hall e he hb)
        (fun j oj hoj hlj k hk => by
          obtain ⟨e, he, hb, rfl⟩ := hwo oj k hk
          exact inv.closed j oj (by simpa using hoj) hlj e he hb) (acts_size n)
        (fun j t hj ht => by
          obtain ⟨e, he, hb, rfl⟩ := hwo o' j hj
          have h1 := hall e he hb
          have h2 := hback e he hb
          obtain ⟨oe, hoe, _, hde⟩ := hop e.on (by omega)
          exact acts_eval_eq h1 ht (hde t (by simpa [dstAt, hoe] using ht)) n (by omega) (fun j hj hji => hdis e.on j (by omega) hj hji t ht))
        (fun t ht => acts_eval_ne n (fun j hj => by simpa using List.all_eq_true.1 ht j (List.mem_range.2 hj)))
      have hgo : ∀ a' w2, (a' = (acts l (fun i => listed.getD i false) vals a n).put o'.dst (vals i) ∧ w2 = Wd (fun j => if j = i then true else listed.getD j false)) →
          wpAny P .any l.toArray Q (m + (l.length - n)) (listed.setIfInBounds i true) a' w2 := by
        rintro a' w2 ⟨rfl, rfl⟩
        have hput := acts_put (l := l) (f := fun i => listed.getD i false) (vs := vals) (a0 := a) (i := i) (v := vals i) hunf n hin (fun j hj hji d hd => hdis i j hin hj hji d hd)
        rw [← hdo, ← hput]
        have hsz : i < listed.size := by rw [inv.size]; simp; omega
        have hset : ∀ j, (if j = i then true else listed.getD j false) = (listed.setIfInBounds i true).getD j false := by
          intro j
          by_cases hji : j = i
          · subst hji
            rw [if_pos rfl]
            simp [hsz]
          · rw [if_neg hji, getD_set_ne false (Ne.symm hji)]
        have hcong : acts l (fun j => if j = i then true else listed.getD j false) (fun j => if j = i then vals i else vals j) a n = acts l (fun j => (listed.setIfInBounds i true).getD j false) vals a n := by
          refine acts_congr n fun j hj => ⟨hset j, fun _ => ?_⟩
          split
          · next h => rw [h]
          · rfl
        rw [hcong]
        refine ih _ _ ?_ (inv.set hi hin) (hWc _ _ (fun j _ => hset j))
        have := countP_one (f := fun j => !listed.getD j false) (g := fun j => !(listed.setIfInBounds i true).getD j false) (i := i) (by simp only [hunf]; rfl) (by simp [hsz]) (fun j hj => by simp only [getD_set_ne false (Ne.symm hj)]) n
        rw [if_pos hin] at this
        unfold left at hl ⊢
        omega
      unfold wpOp
      rw [ho']
      unfold WpG at hst
      simp only
      rw [hw]
      split
      · rename_i hw
        rw [if_pos hw] at hst
        exact .inl (Oper.wp_mono (fun a' w2 h => hgo a' w2 h) hst)
      · rename_i hw
        rw [if_neg hw] at hst
        exact hgo _ _ hst
  have h0 : left n (Array.replicate l.length false) = n := by
    unfold left
    have : ((List.range n).countP fun i => !(Array.replicate l.length false).getD i false) = (List.range n).length := by
      rw [List.countP_eq_length]
      intro i _
      rw [getD_replicate_false]
      rfl
    rw [this, List.length_range]
  have hmain := main n (Array.replicate l.length false) w.drew h0
    ⟨by simp, fun j oj _ hl => (by rw [getD_replicate_false] at hl; cases hl), fun t _ ht => getD_in (by simpa using ht) (getD_replicate_false _ _)⟩ (by rw [← hW0]; exact hWc _ _ (fun j _ => by rw [getD_replicate_false]))
  have e1 : acts l (fun i => (Array.replicate l.length false).getD i false) vals a n = a := by
    have : ∀ k, acts l (fun i => (Array.replicate l.length false).getD i false) vals a k = a := by
      intro k
      induction k with
      | zero => rfl
      | succ k ih => unfold acts; rw [if_neg (by rw [getD_replicate_false]; decide), ih]
    exact this n
  rw [e1, show n + (l.length - n) = l.length by omega] at hmain
  exact hmain
end
end Go.Proofs.Ythmcmomkomhilaa
