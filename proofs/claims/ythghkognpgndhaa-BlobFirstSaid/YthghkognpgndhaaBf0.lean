/- Laid together: Inv Base Kit Cur Arr Ops DevL RDev0 Wide DSettle DAdd JOps BlobL ElemG DOps BlobD -/
import Derived.Test.YthghkognpgndhaaRows
import Derived.StillTail
import Derived.WalkKit
import Derived.Maps.AppendAt
import Derived.Laws.OwnMore
import Derived.WalkSmall
import Derived.Deep.Draws
import Derived.WalkLawsBesides
import Derived.WalkSpells
import Derived.Deep.QuietTactic
import Derived.BigQuiet
import Derived.Outline
import Derived.Lib.Hide
import Derived.Lib.SliceRun
import Derived.Deep.Slices
import Derived.Laws.Rows
import Derived.Deep.WholeRow
import Derived.Laws.MakeOwn
import Derived.Laws.IdiomStrings
import Derived.Stop.BytesEq
import Derived.RangeFuncNested
import Derived.RangeFuncBound
import Derived.OwnWalkIn
import Derived.TacticsInMore
import Derived.LoopIn
import Derived.LoopNIn
import Derived.LaidEqlPtr
import Derived.Deep.MidRow
import Derived.StillTailTactics
import Derived.Laws.CopyRow
import Derived.Deep.RegionLawGrows
import Derived.Shelf.Abstract
import Derived.Great.BuildSlice
import Derived.Deep.RegionHeld3

namespace Go.Proofs.Ythghkognpgndhaa
open Go.RowKit
set_option linter.unusedVariables false
section
variable {P : Program}
def dstAt (l : List Oper) (i : Nat) : Option Tmp := (l[i]?).bind (·.dst)
def acts (l : List Oper) (lst : Nat → Bool) (vs : Nat → Value) (a0 : Act) : Nat → Act
  | 0 => a0
  | k + 1 => if lst k then (acts l lst vs a0 k).put (dstAt l k) (vs k) else acts l lst vs a0 k
def untouched (l : List Oper) (n : Nat) (t : Tmp) : Bool := (List.range n).all fun j => dstAt l j != some t
def waitsOn (o : Oper) (j : Nat) : Bool := o.after.any fun e => Region.binds .any e && e.on == j
def WpG (P : Program) (l : List Oper) (o : Oper) (a : Act) (w : World) (K : Act → World → Prop) (Q : Exit → Act → World → Prop) : Prop :=
  if Region.wanted o (yielded l.toArray a.tmps) = true then o.wp P a w K Q else K (a.put o.dst undef) w
theorem wpG_plain {l : List Oper} {o : Oper} {a : Act} {w : World} {K : Act → World → Prop} {Q : Exit → Act → World → Prop} (hg : o.guard = none) (h : o.wp P a w K Q) : WpG P l o a w K Q := by
  unfold WpG
  rw [if_pos (by simp [Region.wanted, hg])]
  exact h
theorem wpG_yes {l : List Oper} {o : Oper} {a : Act} {w : World} {K : Act → World → Prop} {Q : Exit → Act → World → Prop} (g : Nat) (b : Bool) (t : Tmp) (hg : o.guard = some (g, b)) (ht : dstAt l g = some t) (hs : t < a.tmps.size) (he : a.eval (.tmp t) = .bool b)
    (h : o.wp P a w K Q) : WpG P l o a w K Q := by
  unfold WpG
  have hy : yielded l.toArray a.tmps g = some b := by
    have h1 : (l.toArray[g]?.bind fun x => x.dst) = some t := by simpa [dstAt] using ht
    have h2 : a.tmps[t]? = some (.bool b) := by
      have h3 : a.tmps.getD t undef = .bool b := he
      rw [Array.getElem?_eq_getElem hs]
      simpa [hs] using h3
    unfold yielded
    rw [h1]
    simp only [Option.bind_some, h2]
  rw [if_pos (by simp [Region.wanted, hg, hy])]
  exact h
theorem wpG_no {l : List Oper} {o : Oper} {a : Act} {w : World} {K : Act → World → Prop} {Q : Exit → Act → World → Prop} (g : Nat) (b : Bool) (t : Tmp) (hg : o.guard = some (g, b)) (ht : dstAt l g = some t) (hs : t < a.tmps.size) (he : a.eval (.tmp t) = .bool (!b))
    (h : K (a.put o.dst undef) w) : WpG P l o a w K Q := by
  unfold WpG
  have hy : yielded l.toArray a.tmps g = some (!b) := by
    have h1 : (l.toArray[g]?.bind fun x => x.dst) = some t := by simpa [dstAt] using ht
    have h2 : a.tmps[t]? = some (.bool (!b)) := by
      have h3 : a.tmps.getD t undef = .bool (!b) := he
      rw [Array.getElem?_eq_getElem hs]
      simpa [hs] using h3
    unfold yielded
    rw [h1]
    simp only [Option.bind_some, h2]
  rw [if_neg (by simp [Region.wanted, hg, hy])]
  exact h
def InvStep (P : Program) (l : List Oper) (n : Nat) (Q : Exit → Act → World → Prop) (B : World → Prop) (R : Nat → Value → World → Prop) (D : Nat → Nat → Value → Value → Prop) (Ext : World → World → Prop) (a0 : Act) (i : Nat) (o : Oper) : Prop :=
  ∀ (a : Act) (w : World) (vs : Nat → Value), B w → a.tmps.size = a0.tmps.size →
    (∀ j t, waitsOn o j = true → dstAt l j = some t → R j (vs j) w ∧ a.eval (.tmp t) = vs j) →
    (∀ t, untouched l n t = true → a.eval (.tmp t) = a0.eval (.tmp t)) →
    WpG P l o a w (fun a' w' => ∃ v, a' = a.put o.dst v ∧ B w' ∧ Ext w w' ∧ R i v w' ∧ ∀ j u, j < n → j ≠ i → R j u w → D i j v u) Q
def invB (l : List Oper) (n size : Nat) : Bool :=
  decide (n ≤ l.length) &&
  ((List.range n).all fun i => match l[i]? with
    | some o => (o.after.all fun e => !Region.binds .any e || decide (e.on < i)) && (match o.dst with | some d => decide (d < size) | none => true)
    | none => false) &&
  ((List.range n).all fun i => (List.range n).all fun j => decide (i = j) || (match dstAt l i, dstAt l j with | some x, some y => decide (x ≠ y) | _, _ => true)) &&
  (decide (n = l.length) || (Region.sinkB .any l.toArray n && Region.chainB .any l.toArray n && decide (n < l.length))) &&
  Region.seqB .any l.toArray (l.length - n) n (List.replicate n true ++ List.replicate (l.length - n) false).toArray
theorem acts_congr {l : List Oper} {f g : Nat → Bool} {vs us : Nat → Value} {a0 : Act} : ∀ (k : Nat), (∀ j, j < k → f j = g j ∧ (f j = true → vs j = us j)) → acts l f vs a0 k = acts l g us a0 k
  | 0, _ => rfl
  | k + 1, h => by
    have ih := acts_congr (l := l) (a0 := a0) k (fun j hj => h j (by omega))
    obtain ⟨h1, h2⟩ := h k (by omega)
    unfold acts
    rw [ih, ← h1]
    by_cases hk : f k = true
    · rw [if_pos hk, if_pos hk, h2 hk]
    · rw [if_neg hk, if_neg hk]
theorem acts_put {l : List Oper} {f : Nat → Bool} {vs : Nat → Value} {a0 : Act} {i : Nat} {v : Value} (hf : f i = false) : ∀ (k : Nat), i < k →
    (∀ j, j < k → j ≠ i → ∀ d, dstAt l i = some d → dstAt l j ≠ some d) →
    acts l (fun j => if j = i then true else f j) (fun j => if j = i then v else vs j) a0 k = (acts l f vs a0 k).put (dstAt l i) v
  | 0, h, _ => by omega
  | k + 1, h, hd => by
    by_cases hk : k = i
    · subst hk
      have e := acts_congr (l := l) (a0 := a0) (f := fun j => if j = k then true else f j) (g := f) (vs := fun j => if j = k then v else vs j) (us := vs) k (fun j hj => ⟨if_neg (by omega), fun _ => if_neg (by omega)⟩)
      simp only [acts, if_true, hf, Bool.false_eq_true, if_false]
      rw [e]
    · have ih := acts_put (vs := vs) (a0 := a0) (v := v) hf k (by omega) (fun j hj hji => hd j (by omega) hji)
      unfold acts
      rw [ih]
      simp only [if_neg hk]
      by_cases hfk : f k = true
      · rw [if_pos hfk, if_pos hfk]
        exact Act.put_comm _ _ _ (fun d hx => hd k (by omega) hk d hx)
      · rw [if_neg hfk, if_neg hfk]
theorem put_size (a : Act) (d : Option Tmp) (v : Value) : (a.put d v).tmps.size = a.tmps.size := by
  cases d <;> simp [Act.put]
theorem acts_size {l : List Oper} {f : Nat → Bool} {vs : Nat → Value} {a0 : Act} : ∀ k, (acts l f vs a0 k).tmps.size = a0.tmps.size
  | 0 => rfl
  | k + 1 => by
    unfold acts
    split
    · rw [put_size, acts_size k]
    · exact acts_size k
theorem eval_put_ne {a : Act} {d : Option Tmp} {v : Value} {t : Tmp} (h : d ≠ some t) : (a.put d v).eval (.tmp t) = a.eval (.tmp t) :=
  Act.eval_put fun d' hd e => h (by rw [hd]; injection e with e; rw [e])
theorem eval_put_eq {a : Act} {v : Value} {t : Tmp} (h : t < a.tmps.size) : (a.put (some t) v).eval (.tmp t) = v := by
  simp [Act.put, Act.eval, h]
theorem acts_eval_ne {l : List Oper} {f : Nat → Bool} {vs : Nat → Value} {a0 : Act} {t : Tmp} : ∀ k, (∀ j, j < k → dstAt l j ≠ some t) → (acts l f vs a0 k).eval (.tmp t) = a0.eval (.tmp t)
  | 0, _ => rfl
  | k + 1, h => by
    unfold acts
    split
    · rw [eval_put_ne (h k (by omega)), acts_eval_ne k (fun j hj => h j (by omega))]
    · exact acts_eval_ne k (fun j hj => h j (by omega))
theorem acts_eval_eq {l : List Oper} {f : Nat → Bool} {vs : Nat → Value} {a0 : Act} {t : Tmp} {i : Nat} (hi : f i = true) (ht : dstAt l i = some t) (hs : t < a0.tmps.size) : ∀ k, i < k →
    (∀ j, j < k → j ≠ i → dstAt l j ≠ some t) → (acts l f vs a0 k).eval (.tmp t) = vs i
  | 0, h, _ => by omega
  | k + 1, h, hd => by
    unfold acts
    by_cases hk : k = i
    · subst hk
      rw [if_pos hi, ht, eval_put_eq (by rw [acts_size]; exact hs)]
    · have ih := acts_eval_eq (vs := vs) hi ht hs k (by omega) (fun j hj hji => hd j (by omega) hji)
      split
      · rw [eval_put_ne (hd k (by omega) hk), ih]
      · exact ih
def left (n : Nat) (listed : Array Bool) : Nat := (List.range n).countP fun i => !listed.getD i false
theorem countP_one {f g : Nat → Bool} {i : Nat} (hf : f i = true) (hg : g i = false) (he : ∀ j, j ≠ i → f j = g j) : ∀ n, (List.range n).countP f = (List.range n).countP g + (if i < n then 1 else 0)
  | 0 => by simp
  | n + 1 => by
    rw [List.range_succ, List.countP_append, List.countP_append, countP_one hf hg he n]
    by_cases h : n = i
    · subst h
      simp [hf, hg]
    · have := he n h
      simp only [List.countP_cons, List.countP_nil, this]
      by_cases h2 : i < n
      · have h3 : i < n + 1 := by omega
        simp only [h2, h3, if_true]
        omega
      · have h3 : ¬ i < n + 1 := by omega
        simp only [h2, h3, if_false]
        omega
theorem countP_zero {f : Nat → Bool} : ∀ n, (List.range n).countP f = 0 → ∀ i, i < n → f i = false
  | 0, _, i, h => by omega
  | n + 1, hc, i, h => by
    rw [List.range_succ, List.countP_append] at hc
    by_cases hi : i = n
    · subst hi
      by_cases hf : f i = true
      · simp [hf] at hc
      · simpa using hf
    · exact countP_zero n (by omega) i (by omega)
theorem least {p : Nat → Prop} (n : Nat) (hn : p n) : ∃ m, p m ∧ ∀ j, j < m → ¬ p j := by
  induction n using Nat.strongRecOn with
  | _ n ih =>
    by_cases h : ∃ j, j < n ∧ p j
    · obtain ⟨j, hj, hp⟩ := h
      exact ih j hj hp
    · exact ⟨n, hn, fun j hj hp => h ⟨j, hj, hp⟩⟩
theorem wp_region_inv {id : Nat} {Q : Exit → Act → World → Prop} {a : Act} {w : World} {l : List Oper} (n : Nat) (hm : P.follows .mixedOrders = true) (hB : invB l n a.tmps.size = true)
    (B : World → Prop) (R : Nat → Value → World → Prop) (D : Nat → Nat → Value → Value → Prop) (Ext : World → World → Prop) (hext : ∀ j u w w', Ext w w' → R j u w → R j u w') (hB0 : B w.drew)
    (hstep : ∀ i, i < n → ∀ o, l[i]? = some o → InvStep P l n Q B R D Ext a i o)
    (htail : ∀ vs w', B w' → (∀ i, i < n → R i (vs i) w') → (∀ i j, i < n → j < n → i ≠ j → D i j (vs i) (vs j) ∨ D j i (vs j) (vs i)) → wpList P l.toArray Q (l.drop n) (acts l (fun _ => true) vs a n) w') : (Code.region id l.toArray true).wp P Q a w := by
  simp only [invB, Bool.and_eq_true, decide_eq_true_eq, Bool.or_eq_true] at hB
  obtain ⟨⟨⟨⟨hn, hops⟩, hdst⟩, hwait⟩, hseq⟩ := hB
  have hop : ∀ i, i < n → ∃ o, l[i]? = some o ∧ (∀ e ∈ o.after, Region.binds .any e = true → e.on < i) ∧ (∀ d, o.dst = some d → d < a.tmps.size) := by
    intro i hi
    have h := List.all_eq_true.1 hops i (List.mem_range.2 hi)
    cases ho : l[i]? with
    | none => rw [ho] at h; cases h
    | some o =>
      rw [ho] at h
      simp only [Bool.and_eq_true] at h
      obtain ⟨h2, h3⟩ := h
      refine ⟨o, rfl, fun e he hb => ?_, fun d hd => ?_⟩
      · have := Array.all_eq_true_iff_forall_mem.1 h2 e he
        rw [hb] at this
        simpa using this
      · rw [hd] at h3
        simpa using h3
  have hdis : ∀ i j, i < n → j < n → j ≠ i → ∀ d, dstAt l i = some d → dstAt l j ≠ some d := by
    intro i j hi hj hji d hd hd2
    have h := List.all_eq_true.1 (List.all_eq_true.1 hdst i (List.mem_range.2 hi)) j (List.mem_range.2 hj)
    rw [hd, hd2] at h
    simp at h
    omega
  refine wp_region_any hm ?_
  have main : ∀ (m : Nat) (listed : Array Bool) (vs : Nat → Value) (w' : World), left n listed = m → HeadInv .any l.toArray n listed → B w' → (∀ i, i < n → listed.getD i false = true → R i (vs i) w') →
      (∀ i j, i < n → j < n → listed.getD i false = true → listed.getD j false = true → i ≠ j → D i j (vs i) (vs j) ∨ D j i (vs j) (vs i)) →
      wpAny P .any l.toArray Q (m + (l.length - n)) listed (acts l (fun i => listed.getD i false) vs a n) w' := by
    intro m
    induction m with
    | zero =>
      intro listed vs w' hl inv hBw hR hD
      have hall : ∀ i, i < n → listed.getD i false = true := fun i hi => by simpa using countP_zero n hl i hi
      have hlisted : listed = (List.replicate n true ++ List.replicate (l.length - n) false).toArray := by
        apply Array.ext
        · rw [inv.size]; simp; omega
        · intro i h1 h2
          have hi : i < l.length := by rw [inv.size] at h1; simpa using h1
          have e1 : listed[i] = listed.getD i false := by simp [h1]
          rw [e1]
          by_cases h : i < n
          · rw [hall i h]
            simp [h]
          · rw [getD_both (inv.tail i (by omega) (by simpa using hi))]
            simp [List.getElem_append, h]
      have hact : acts l (fun i => listed.getD i false) vs a n = acts l (fun _ => true) vs a n := acts_congr n fun j hj => ⟨hall j hj, fun _ => rfl⟩
      rw [hact, Nat.zero_add]
      have hdl : (l.drop n).length = l.length - n := by simp
      rw [← hdl]
      refine wpAny_of_seq (l.drop n) n listed _ w' (fun j => by simp [List.getElem?_drop]) ?_ (htail vs w' hBw (fun i hi => hR i hi (hall i hi)) (fun i j hi hj hij => hD i j hi hj (hall i hi) (hall j hj) hij))
      rw [hdl, hlisted]
      exact hseq
    | succ m ih =>
      intro listed vs w' hl inv hBw hR hD
      have hex : ∃ i, i < n ∧ listed.getD i false = false := by
        by_cases h : ∃ i, i < n ∧ listed.getD i false = false
        · exact h
        · exfalso
          have : left n listed = 0 := by
            unfold left
            rw [List.countP_eq_zero]
            intro i hi
            have hi' := List.mem_range.1 hi
            cases hg : listed.getD i false with
            | true => simp
            | false => exact absurd ⟨i, hi', hg⟩ h
          omega
      obtain ⟨i0, hi0, hun0⟩ := hex
      have hne : Region.ready .any l.toArray listed ≠ [] := by
        obtain ⟨i1, ⟨hi1, hun1⟩, hmin⟩ := least (p := fun i => i < n ∧ listed.getD i false = false) i0 ⟨hi0, hun0⟩
        obtain ⟨o, ho, hback, _⟩ := hop i1 hi1
        have : i1 ∈ Region.ready .any l.toArray listed := by
          refine mem_ready.2 ⟨getD_in (by rw [inv.size]; simp; omega) hun1, o, by simpa using ho, fun e he hb => ?_⟩
          have h1 := hback e he hb
          cases hg : listed.getD e.on false with
          | true => rfl
          | false => exact absurd ⟨by omega, hg⟩ (hmin e.on h1)
        intro h
        rw [h] at this
        cases this
      rw [show m + 1 + (l.length - n) = (m + (l.length - n)) + 1 by omega]
      refine ⟨fun h => absurd h hne, fun i hi => ?_⟩
      have hin : i < n := by
        rcases Nat.lt_or_ge i n with h | h
        · exact h
        · exfalso
          rcases hwait with hw | ⟨⟨hs, hc⟩, hlt⟩
          · obtain ⟨_, o, ho, _⟩ := mem_ready.1 hi
            have := (Array.getElem?_eq_some_iff.1 ho).1
            simp at this
            omega
          · exact tail_waits hs hc (by simpa using hlt) inv _ i0 rfl hi0 (getD_in (by rw [inv.size]; simp; omega) hun0) i h hi
      obtain ⟨hun, o', ho', hall⟩ := mem_ready.1 hi
      obtain ⟨o, ho, hback, hds⟩ := hop i hin
      have : o' = o := by simpa [ho] using ho'.symm
      subst this
      have hdo : dstAt l i = o'.dst := by simp [dstAt, ho]
      have hunf := getD_both hun
      have hst := hstep i hin o' ho (acts l (fun i => listed.getD i false) vs a n) w' vs hBw (acts_size n)
        (fun j t hj ht => by
          obtain ⟨e, he, hb⟩ := Array.any_eq_true'.1 hj
          simp only [Bool.and_eq_true, beq_iff_eq] at hb
          obtain ⟨hb, rfl⟩ := hb
          have h1 := hall e he hb
          have h2 := hback e he hb
          refine ⟨hR e.on (by omega) h1, ?_⟩
          obtain ⟨oe, hoe, _, hde⟩ := hop e.on (by omega)
          exact acts_eval_eq h1 ht (hde t (by simpa [dstAt, hoe] using ht)) n (by omega) (fun j hj hji => hdis e.on j (by omega) hj hji t ht))
        (fun t ht => acts_eval_ne n (fun j hj => by simpa using List.all_eq_true.1 ht j (List.mem_range.2 hj)))
      have hgo : ∀ a' w2, (∃ v, a' = (acts l (fun i => listed.getD i false) vs a n).put o'.dst v ∧ B w2 ∧ Ext w' w2 ∧ R i v w2 ∧ ∀ j u, j < n → j ≠ i → R j u w' → D i j v u) →
          wpAny P .any l.toArray Q (m + (l.length - n)) (listed.setIfInBounds i true) a' w2 := by
        rintro a' w2 ⟨v, rfl, hB2, hE, hRv, hDv⟩
        have hput := acts_put (l := l) (f := fun i => listed.getD i false) (vs := vs) (a0 := a) (i := i) (v := v) hunf n hin (fun j hj hji d hd => hdis i j hin hj hji d hd)
        rw [← hdo, ← hput]
        have hcong : acts l (fun j => if j = i then true else listed.getD j false) (fun j => if j = i then v else vs j) a n = acts l (fun j => (listed.setIfInBounds i true).getD j false) (fun j => if j = i then v else vs j) a n := by
          refine acts_congr n fun j hj => ⟨?_, fun _ => rfl⟩
          by_cases hji : j = i
          · subst hji
            rw [if_pos rfl]
            have : j < listed.size := by rw [inv.size]; simp; omega
            simp [this]
          · rw [if_neg hji, getD_set_ne false (Ne.symm hji)]
        rw [hcong]
        refine ih _ _ w2 ?_ (inv.set hi hin) hB2 (fun j hj hlj => ?_) (fun j k hj hk hlj hlk hjk => ?_)
        · have hsz : i < listed.size := by rw [inv.size]; simp; omega
          have := countP_one (f := fun j => !listed.getD j false) (g := fun j => !(listed.setIfInBounds i true).getD j false) (i := i) (by simp only [hunf]; rfl) (by simp [hsz]) (fun j hj => by simp only [getD_set_ne false (Ne.symm hj)]) n
          rw [if_pos hin] at this
          unfold left at hl ⊢
          omega
        · by_cases hji : j = i
          · subst hji
            rw [if_pos rfl]
            exact hRv
          · rw [if_neg hji]
            rw [getD_set_ne false (Ne.symm hji)] at hlj
            exact hext _ _ _ _ hE (hR j hj hlj)
        · by_cases hji : j = i
          · subst hji
            rw [if_pos rfl, if_neg (Ne.symm hjk)]
            rw [getD_set_ne false hjk] at hlk
            exact .inl (hDv k _ hk (Ne.symm hjk) (hR k hk hlk))
          · rw [if_neg hji]
            rw [getD_set_ne false (Ne.symm hji)] at hlj
            by_cases hki : k = i
            · subst hki
              rw [if_pos rfl]
              exact .inr (hDv j _ hj hji (hR j hj hlj))
            · rw [if_neg hki]
              rw [getD_set_ne false (Ne.symm hki)] at hlk
              exact hD j k hj hk hlj hlk hjk
      unfold wpOp
      rw [ho']
      unfold WpG at hst
      simp only
      split
      · rename_i hw
        rw [if_pos hw] at hst
        exact .inl (Oper.wp_mono (fun a' w2 h => hgo a' w2 h) hst)
      · rename_i hw
        rw [if_neg hw] at hst
        exact hgo _ _ hst
  have h0 : left n (Array.replicate l.length false) = n := by
    unfold left
    have : ((List.range n).countP fun i => !(Array.replicate l.length false).getD i false) = (List.range n).length := by
      rw [List.countP_eq_length]
      intro i _
      rw [getD_replicate_false]
      rfl
    rw [this, List.length_range]
  have hmain := main n (Array.replicate l.length false) (fun _ => undef) w.drew h0
    ⟨by simp, fun j oj _ hl => (by rw [getD_replicate_false] at hl; cases hl), fun t _ ht => getD_in (by simpa using ht) (getD_replicate_false _ _)⟩ hB0 (fun i _ hl => by rw [getD_replicate_false] at hl; cases hl) (fun i j _ _ hl => by rw [getD_replicate_false] at hl; cases hl)
  have e1 : acts l (fun i => (Array.replicate l.length false).getD i false) (fun _ => undef) a n = a := by
    have : ∀ k, acts l (fun i => (Array.replicate l.length false).getD i false) (fun _ => undef) a k = a := by
      intro k
      induction k with
      | zero => rfl
      | succ k ih => unfold acts; rw [if_neg (by rw [getD_replicate_false]; decide), ih]
    exact this n
  rw [e1, show n + (l.length - n) = l.length by omega] at hmain
  exact hmain
theorem wp_call_inv {o : Oper} {a : Act} {w : World} {K : Act → World → Prop} {Q : Exit → Act → World → Prop} (f : FuncId) (xs : Array Operand) (tys : Array TypeId)
    (ho : o.op = .call { callee := .value (.func f), args := xs, argTypes := tys }) (args : Array Value) (ha : xs.map a.eval = args) (hf : ∀ w, (callFunc f args).run P w = .ok (.enter f args) w) {Post : Value → World → Prop}
    (hc : Calls P f args w fun e w' => ∃ v, e = .returned v ∧ Post v w') (hK : ∀ v w', Post v w' → K (a.put o.dst v) w') : o.wp P a w K Q := by
  have he : (execOp a.eval o).run P w = .ok (.enter f args) w := by
    obtain ⟨d, op, ty, pos, aft, g⟩ := o
    simp only at ho
    subst ho
    have e : execOp a.eval { dst := d, op := .call { callee := .value (.func f), args := xs, argTypes := tys }, type := ty, pos := pos, after := aft, guard := g } = callFunc f (#[] ++ xs.map a.eval ++ #[]) := rfl
    rw [e, ha, Array.append_empty, Array.empty_append]
    exact hf w
  unfold Oper.wp
  rw [he]
  refine Calls.mono hc ?_
  rintro e w' ⟨v, rfl, hp⟩
  exact hK v w' hp
theorem wp_value_inv {o : Oper} {a : Act} {w w' : World} {K : Act → World → Prop} {Q : Exit → Act → World → Prop} (v : Value) (h : (execOp a.eval o).run P w = .ok (.value v) w') (hK : K (a.put o.dst v) w') : o.wp P a w K Q := by
  unfold Oper.wp
  rw [h]
  exact hK
end
end Go.Proofs.Ythghkognpgndhaa
namespace Go.Proofs.Ythghkognpgndhaa
open Go.RowKit
structure Fr (S : Nat → Prop) (w w' : World) : Prop where
  os : w'.os = w.os
  tape : w'.tape = w.tape
  output : w'.output = w.output
  size : w.heap.size ≤ w'.heap.size
  block : ∀ k, k < w.heap.size → ¬ S k → w'.heap[k]? = w.heap[k]?
theorem Fr.refl (S : Nat → Prop) (w : World) : Fr S w w := ⟨rfl, rfl, rfl, Nat.le_refl _, fun _ _ _ => rfl⟩
theorem Fr.trans {S T : Nat → Prop} {a b c : World} (h : Fr S a b) (k : Fr T b c) (hT : ∀ i, T i → S i ∨ a.heap.size ≤ i) : Fr S a c :=
  ⟨k.os.trans h.os, k.tape.trans h.tape, k.output.trans h.output, Nat.le_trans h.size k.size, fun i hi hs => by
    rw [k.block i (Nat.lt_of_lt_of_le hi h.size) (fun ht => by rcases hT i ht with h1 | h1; exact hs h1; omega), h.block i hi hs]⟩
theorem Fr.mono {S T : Nat → Prop} {a b : World} (h : Fr S a b) (hT : ∀ i, i < a.heap.size → S i → T i) : Fr T a b :=
  ⟨h.os, h.tape, h.output, h.size, fun i hi ht => h.block i hi (fun hs => ht (hT i hi hs))⟩
theorem Fr.drew {S : Nat → Prop} {a w : World} (h : Fr S a w) : Fr S a w.drew := ⟨h.os, h.tape, h.output, h.size, h.block⟩
theorem Fr.drewN {S : Nat → Prop} {a w : World} (h : Fr S a w) (n : Nat) : Fr S a (w.drewN n) := ⟨h.os, h.tape, h.output, h.size, h.block⟩
theorem Fr.alloc {S : Nat → Prop} {a w : World} (h : Fr S a w) (o : Obj) : Fr S a (w.alloc o) :=
  ⟨h.os, h.tape, h.output, Nat.le_trans h.size (by simp), fun i hi hs => by rw [Below.heap_alloc _ _ _ (Nat.lt_of_lt_of_le hi h.size), h.block i hi hs]⟩
theorem Fr.setCell {S : Nat → Prop} {a w : World} (h : Fr S a w) {p : Addr} (hp : S p.block ∨ a.heap.size ≤ p.block) (u : Value) : Fr S a (w.setCell p u) :=
  ⟨h.os, h.tape, h.output, by simpa [World.setCell] using h.size, fun i hi hs => by
    rw [Below.heap_setCell _ _ _ _ (by rintro rfl; rcases hp with h1 | h1; exact hs h1; omega), h.block i hi hs]⟩
theorem Fr.grown {S : Nat → Prop} {a w w' : World} {row : Option Nat} (h : Fr S a w) (hg : w.grownBy w' row) (hr : ∀ k, row = some k → S k ∨ a.heap.size ≤ k) : Fr S a w' :=
  h.trans (T := fun k => row = some k) ⟨hg.os, hg.tape, hg.output, hg.size, fun k hk hn => hg.block k hk (fun e => hn e.symm)⟩ hr
theorem Fr.below {S : Nat → Prop} {a w : World} {B : Nat} (h : Fr S a w) (hB : B ≤ a.heap.size) (hS : ∀ k, S k → B ≤ k) : Below B a w :=
  ⟨h.os, h.tape, h.output, h.size, fun k hk => h.block k (by omega) (fun hs => by have := hS k hs; omega)⟩
theorem Fr.ofBelow {a w : World} {B : Nat} (h : Below B a w) : Fr (fun k => B ≤ k) a w :=
  ⟨h.os, h.tape, h.output, h.size, fun k _ hn => h.block k (by omega)⟩
theorem Fr.heap {S : Nat → Prop} {a w : World} {b : Nat} {o : Obj} (h : Fr S a w) (hb : a.heap[b]? = some o) (hs : ¬ S b) : w.heap[b]? = some o := by
  rw [h.block b (lt_of_block hb) hs, hb]
theorem Fr.cell {S : Nat → Prop} {a w : World} {p : Addr} {v : Value} (h : Fr S a w) (hc : a.cell? p = some v) (hs : ¬ S p.block) : w.cell? p = some v := by
  rw [World.cell?_of_block (h.block p.block (World.block_lt_of_cell? _ _ hc) hs), hc]
end Go.Proofs.Ythghkognpgndhaa
namespace Go.Proofs.Ythghkognpgndhaa
open Go.RowKit Go.ChangeShapes
set_option linter.unusedVariables false
theorem ret_bool {a b : Bool} (h : a = b) : Ending.returned (.bool a) = .returned (.bool b) := by rw [h]
theorem addr_plain (b o i : Nat) : (⟨b, o, none⟩ : Addr).add i = ⟨b, o + i, none⟩ := by unfold Addr.add; split <;> simp_all
end Go.Proofs.Ythghkognpgndhaa
namespace Go.Proofs.Ythghkognpgndhaa
open Go.RowKit Go.ChangeShapes
set_option linter.unusedVariables false
theorem Fr.one (w : World) (b i : Nat) (u : Value) : Fr (· = b) w (w.setCell ⟨b, i, none⟩ u) := (Fr.refl (· = b) w).setCell (p := ⟨b, i, none⟩) (.inl rfl) u
theorem Fr.two (w : World) (b i j : Nat) (u v : Value) : Fr (· = b) w ((w.setCell ⟨b, i, none⟩ u).setCell ⟨b, j, none⟩ v) := (Fr.one w b i u).setCell (p := ⟨b, j, none⟩) (.inl rfl) _
end Go.Proofs.Ythghkognpgndhaa
namespace Go.Proofs.Ythghkognpgndhaa
open Go.RowKit Go.ChangeShapes
set_option linter.unusedVariables false
theorem Fr.setRow {S : Nat → Prop} {a w : World} {g : Nat} (h : Fr S a w) (hg : S g ∨ a.heap.size ≤ g) (cs : Array Value) : Fr S a (w.setRow g cs) :=
  ⟨h.os, h.tape, h.output, by simpa using h.size, fun i hi hs => by
    rw [setRow_other _ _ _ _ (by rintro rfl; rcases hg with h1 | h1; exact hs h1; omega), h.block i hi hs]⟩
end Go.Proofs.Ythghkognpgndhaa
namespace Go.Proofs.Ythghkognpgndhaa
open Go.RowKit Go.ChangeShapes
set_option linter.unusedVariables false
section
variable {P : Program} {w : World} {o : Oper} {a : Act}
theorem op_move {x : Operand} {v : Value} (ho : o.op = .move x) (hv : a.eval x = v) : (execOp a.eval o).run P w = .ok (.value v) w := by
  unfold execOp
  rw [ho]
  simp only [hv]
  rfl
theorem op_assign {x : Operand} {v : Value} (ho : o.op = .assign x) (hv : a.eval x = v) : (execOp a.eval o).run P w = .ok (.value v) w := by
  unfold execOp
  rw [ho]
  simp only [hv]
  rfl
theorem op_pick {c x y : Operand} {b : Bool} {v : Value} (ho : o.op = .pick c x y) (hc : a.eval c = .bool b) (hv : (if b = true then a.eval x else a.eval y) = v) : (execOp a.eval o).run P w = .ok (.value v) w := by
  unfold execOp
  rw [ho]
  simp only [hc, asBool, Sem.run_bind, Sem.run_pure, Result.andThen_ok, hv]
theorem op_bin {op : BinOp} {t t' : TypeId} {x y : Operand} {vx vy v : Value} (ho : o.op = .binOp op t x y t') (hx : a.eval x = vx) (hy : a.eval y = vy) (hg : (eqGuard op t x y vx vy).run P w = .ok () w) (hr : (binOp op t vx vy).run P w = .ok v w) : (execOp a.eval o).run P w = .ok (.value v) w := by
  unfold execOp
  rw [ho]
  simp only [hx, hy, Sem.run_bind, hg, hr, Result.andThen_ok]
  rfl
end
theorem op_rows {P : Program} {w w' : World} {o : Oper} {a : Act} {t : TypeId} {n : Nat} {ps : Array (Nat × Operand)} {vs : Array (Nat × Value)} {v : Value} (ho : o.op = .buildSlice t n ps) (hp : (ps.map fun x => (x.1, a.eval x.2)) = vs) (hr : (Instr.buildSlice t n vs).run P w = .ok v w') : (execOp a.eval o).run P w = .ok (.value v) w' := by
  subst hp
  unfold execOp
  rw [ho]
  simp only [Sem.run_bind]
  rw [hr]
  rfl
end Go.Proofs.Ythghkognpgndhaa
namespace Go.Proofs.Ythghkognpgndhaa
set_option linter.unusedVariables false
abbrev Pend := Nat × List UInt8
def Pends (s : Nat) (W : List Pend) : Prop := ∀ p ∈ W, p.1 < s ∧ p.2.length = 64
structure Dv where
  all : List UInt8
  waits : List Pend
  deeds : Nat
  left : Nat
  down : Bool
structure Dv.Right (d : Dv) (s : Nat) : Prop where
  all : d.all.length = 64 * s
  waits : Pends s d.waits
end Go.Proofs.Ythghkognpgndhaa
namespace Go.Proofs.Ythghkognpgndhaa
open Go.RowKit Go.ChangeShapes
set_option linter.unusedVariables false
theorem cell_put {w : World} {b i : Nat} {c : Array Value} {t : TypeId} {z : Nat × Nat} (u : Value) (h : w.heap[b]? = some (.cells c t z)) :
    (w.setCell ⟨b, i, none⟩ u).heap[b]? = some (.cells (c.setIfInBounds i u) t z) := by
  simp only [World.setCell, Array.getElem?_modify, h]
  simp
theorem Fr.cell1 (w : World) (b i : Nat) (u : Value) : Fr (· = b) w (w.setCell ⟨b, i, none⟩ u) := (Fr.refl (· = b) w).setCell (p := ⟨b, i, none⟩) (.inl rfl) u
end Go.Proofs.Ythghkognpgndhaa
namespace Go.Proofs.Ythghkognpgndhaa
open Go.RowKit
set_option linter.unusedVariables false
inductive WideF : Fence → Prop
  | out : WideF Fence.wide
  | round (l : Nat) : WideF (Fence.wide.inRound l)
theorem WideF.fn {F : Fence} (h : WideF F) (f : FuncId) : F.fn f := by cases h <;> trivial
theorem WideF.free {F : Fence} (h : WideF F) {p : Prop} (hd : F.depth.isSome = true) : p := by cases h <;> simp [Fence.wide, Fence.inRound] at hd
theorem WideF.calls {F : Fence} (h : WideF F) {n : Nat} {P : Program} {f : FuncId} {args : Array Value} {w : World} {R : Ending → World → Prop} (hc : Calls P f args w R) : CallsIn F n P f args w R := by
  cases h with
  | out => exact callsIn_wide.2 hc
  | round l => exact CallsIn.inRound l (callsIn_wide.2 hc)
section
variable {F : Fence} {n : Nat} {P : Program} {ops : Array Oper} {md : Region.Mode} {Q : Exit → Act → World → Prop}
end
end Go.Proofs.Ythghkognpgndhaa
namespace Go.Proofs.Ythghkognpgndhaa
open Go.RowKit Go.ChangeShapes Go.Shelf
set_option linter.unusedVariables false
attribute [local go_sem] Oper.semAt_some
theorem fr_putObj {T : Nat → Prop} (W : World) (l : Nat) (o' : Obj) (hT : T l) : Fr T W (W.putObj l o') :=
  (Fr.refl T W).grown (grownBy_putObj' W l o') (fun k e => by cases e; exact .inl hT)
theorem keepsFrom_fr {S : Nat → Prop} {n0 : Nat} {W W' : World} (h : Fr S W W') (hS : ∀ k, S k → k < n0) : KeepsFrom n0 W W' :=
  ⟨h.size, fun k o hB hk _ => h.heap hk (fun hs => by have := hS k hs; omega)⟩
end Go.Proofs.Ythghkognpgndhaa
namespace Go.Proofs.Ythghkognpgndhaa
open Go.RowKit Go.ChangeShapes
set_option linter.unusedVariables false
theorem op_fieldAddr {P : Program} {w : World} {o : Oper} {a : Act} {x : Operand} {t : TypeId} {i : Nat} {v v' : Value} (ho : o.op = .fieldAddr t x i) (hx : a.eval x = v) (hr : (Instr.fieldAt t v i).run P w = .ok v' w) : (execOp a.eval o).run P w = .ok (.value v') w := by
  unfold execOp
  rw [ho]
  simp only [hx, Sem.run_bind, hr, Result.andThen_ok]
  rfl
end Go.Proofs.Ythghkognpgndhaa
namespace Go.Proofs.Ythghkognpgndhaa
open Go.RowKit Go.ChangeShapes
set_option linter.unusedVariables false
section
variable {P : Program} {w : World} {o : Oper} {a : Act}
theorem op_loadAt {t : TypeId} {x : Operand} {vx v : Value} (ho : o.op = .load t x) (hx : a.eval x = vx) (hr : (Instr.loadAt t vx).run P w = .ok v w) : (execOp a.eval o).run P w = .ok (.value v) w := by
  unfold execOp
  rw [ho]
  simp only [hx, Sem.run_bind, hr, Result.andThen_ok]
  rfl
end
theorem guard_int (w : World) (op : BinOp) (T : TypeId) (k : IntKind) (x y : Operand) (A Bb : Int) : (eqGuard op T x y (.int k A) (.int k Bb)).run Try.prog w = .ok () w := by cases op <;> rfl
theorem load_one5 (w : World) (T : TypeId) (p : Addr) (v : Value) (hT : (isAgg T).run Try.prog w = .ok false w) (h : w.cell? p = some v) : (Instr.loadAt T (.pointer (some p))).run Try.prog w = .ok v w := by
  simp [Instr.loadAt, Instr.sureAddr, loadVar, hT, h, go_sem]
theorem load_int5 (w : World) (p : Addr) (v : Value) (h : w.cell? p = some v) : (Instr.loadAt 3 (.pointer (some p))).run Try.prog w = .ok v w := load_one5 w _ p v (by kernel_rfl) h
section
variable {w : World} {T : TypeId} {k : IntKind} {x y : Int}
theorem leq_yes (h : x ≤ y) : (binOp .leq T (.int k x) (.int k y)).run Try.prog w = .ok (.bool true) w := by rw [binOp_leq]; simp [h]
theorem leq_no (h : y < x) : (binOp .leq T (.int k x) (.int k y)).run Try.prog w = .ok (.bool false) w := by rw [binOp_leq]; simp [h]
theorem eql_yes : (binOp .eql T (.int k x) (.int k x)).run Try.prog w = .ok (.bool true) w := by rw [binOp_eql]; simp
end
theorem wrap_in5 {x : Int} (h0 : -9223372036854775808 ≤ x) (h1 : x ≤ 9223372036854775807) : IntKind.i64.wrap x = x := IntWalk.i64_in x (by omega)
theorem add_in5 {w : World} {T : TypeId} {x y z : Int} (hz : x + y = z) (h0 : -9223372036854775808 ≤ z) (h1 : z ≤ 9223372036854775807) : (binOp .add T (.int .i64 x) (.int .i64 y)).run Try.prog w = .ok (.int .i64 z) w := by
  rw [binOp_add]
  subst hz
  simp [Op.intArith, wrap_in5 h0 h1, go_sem]
theorem range_row5 {w : World} {g : Nat} {C : Array Value} {T : TypeId} (h : w.heap[g]? = some (.cells C T (0, 0))) : w.rangeAt g 0 C.toList := fun j v hv => by
  rw [Nat.zero_add, cell_of_row _ _ _ _ _ _ h]
  simpa using hv
end Go.Proofs.Ythghkognpgndhaa
namespace Go.Proofs.Ythghkognpgndhaa
set_option linter.unusedVariables false
abbrev Rn := Int × Int
def rnOk (d : Nat) (r : Rn) : Bool := decide (0 ≤ r.1 ∧ 1 ≤ r.2 ∧ r.2 ≤ d - r.1)
def rnSecs (r : Rn) : List Nat := (List.range r.2.toNat).map (r.1.toNat + ·)
def secs7 (l : List Rn) : List Nat := l.flatMap rnSecs
def apart7 (d : Nat) (l : List Rn) : Bool := l.all (rnOk d) && decide (secs7 l).Nodup
theorem rnOk_iff {d : Nat} {r : Rn} : rnOk d r = true ↔ 0 ≤ r.1 ∧ 1 ≤ r.2 ∧ r.2 ≤ d - r.1 := by rw [rnOk, decide_eq_true_iff]
theorem rnOk_nat {d : Nat} {r : Rn} (h : rnOk d r = true) : ∃ a m : Nat, r = ((a : Int), (m : Int)) ∧ 1 ≤ m ∧ a + m ≤ d := by
  obtain ⟨h1, h2, h3⟩ := rnOk_iff.1 h
  refine ⟨r.1.toNat, r.2.toNat, ?_, by omega, by omega⟩
  obtain ⟨x, y⟩ := r
  simp only [Prod.mk.injEq]
  simp only at h1 h2
  exact ⟨by omega, by omega⟩
theorem rnSecs_nat (a m : Nat) : rnSecs ((a : Int), (m : Int)) = (List.range m).map (a + ·) := by simp [rnSecs]
theorem rnSecs_length (r : Rn) : (rnSecs r).length = r.2.toNat := by simp [rnSecs]
theorem rnSecs_nodup (r : Rn) : (rnSecs r).Nodup := by
  unfold rnSecs
  rw [List.nodup_iff_pairwise_ne, List.pairwise_map]
  exact List.nodup_range.imp (fun h e => h (by omega))
theorem mem_rnSecs {a m x : Nat} : x ∈ rnSecs ((a : Int), (m : Int)) ↔ a ≤ x ∧ x < a + m := by
  rw [rnSecs_nat, List.mem_map]
  constructor
  · rintro ⟨i, hi, rfl⟩
    have := List.mem_range.1 hi
    omega
  · intro h
    exact ⟨x - a, List.mem_range.2 (by omega), by omega⟩
theorem secs7_cons (r : Rn) (l : List Rn) : secs7 (r :: l) = rnSecs r ++ secs7 l := by simp [secs7]
theorem secs7_append (l m : List Rn) : secs7 (l ++ m) = secs7 l ++ secs7 m := by simp [secs7]
theorem secs7_one (r : Rn) : secs7 [r] = rnSecs r := by simp [secs7]
theorem apart7_iff {d : Nat} {l : List Rn} : apart7 d l = true ↔ (∀ r ∈ l, rnOk d r = true) ∧ (secs7 l).Nodup := by
  rw [apart7, Bool.and_eq_true, List.all_eq_true, decide_eq_true_iff]
theorem apart7_nil (d : Nat) : apart7 d [] = true := by rw [apart7_iff]; exact ⟨(fun _ h => by cases h), List.nodup_nil⟩
theorem apart7_left {d : Nat} {l m : List Rn} (h : apart7 d (l ++ m) = true) : apart7 d l = true := by
  rw [apart7_iff] at h ⊢
  rw [secs7_append] at h
  exact ⟨fun r hr => h.1 r (List.mem_append_left _ hr), (List.nodup_append.1 h.2).1⟩
theorem secs7_lt {d : Nat} {l : List Rn} (h : ∀ r ∈ l, rnOk d r = true) {x : Nat} (hx : x ∈ secs7 l) : x < d := by
  unfold secs7 at hx
  obtain ⟨r, hr, hx⟩ := List.mem_flatMap.1 hx
  obtain ⟨a, m, rfl, h1, h2⟩ := rnOk_nat (h r hr)
  have := mem_rnSecs.1 hx
  omega
theorem nodup_bound : ∀ (d : Nat) (l : List Nat), l.Nodup → (∀ x ∈ l, x < d) → l.length ≤ d := by
  intro d l hn hl
  have h1 : l ⊆ List.range d := fun x hx => List.mem_range.2 (hl x hx)
  have h2 : ∀ (l m : List Nat), l.Nodup → l ⊆ m → l.length ≤ m.length := by
    intro l
    induction l with
    | nil => intro m _ _; simp
    | cons x l ih =>
      intro m hn hs
      have hx : x ∈ m := hs List.mem_cons_self
      have hn2 := List.nodup_cons.1 hn
      have := ih (m.erase x) hn2.2 (fun y hy => by
        have hne : y ≠ x := fun e => hn2.1 (e ▸ hy)
        exact (List.mem_erase_of_ne hne).2 (hs (List.mem_cons_of_mem _ hy)))
      rw [List.length_erase_of_mem hx] at this
      have hp := List.length_pos_of_mem hx
      simp only [List.length_cons]
      omega
  have := h2 l (List.range d) hn h1
  rwa [List.length_range] at this
theorem apart7_le {d : Nat} {l : List Rn} (h : apart7 d l = true) : (secs7 l).length ≤ d := by
  rw [apart7_iff] at h
  exact nodup_bound d _ h.2 (fun x hx => secs7_lt h.1 hx)
theorem secs7_many {d : Nat} {l : List Rn} (h : ∀ r ∈ l, rnOk d r = true) : l.length ≤ (secs7 l).length := by
  induction l with
  | nil => simp
  | cons r l ih =>
    have := ih (fun q hq => h q (List.mem_cons_of_mem _ hq))
    have h1 := (rnOk_iff.1 (h r List.mem_cons_self)).2.1
    rw [secs7_cons, List.length_append, rnSecs_length, List.length_cons]
    omega
theorem apart7_snoc {d : Nat} {l : List Rn} {r : Rn} : apart7 d (l ++ [r]) = true ↔ apart7 d l = true ∧ rnOk d r = true ∧ ∀ x ∈ rnSecs r, x ∉ secs7 l := by
  rw [apart7_iff, apart7_iff, secs7_append, secs7_one, List.nodup_append]
  constructor
  · rintro ⟨h1, h2, _, h3⟩
    exact ⟨⟨fun q hq => h1 q (List.mem_append_left _ hq), h2⟩, h1 r (by simp), fun x hx hx2 => h3 x hx2 x hx rfl⟩
  · rintro ⟨⟨h1, h2⟩, h3, h4⟩
    refine ⟨fun q hq => ?_, h2, rnSecs_nodup r, fun x hx y hy e => ?_⟩
    · rcases List.mem_append.1 hq with hq | hq
      · exact h1 q hq
      · rw [List.mem_singleton.1 hq]; exact h3
    · subst e
      exact h4 x hy hx
def many7 (l : List Rn) : Int := (l.map (·.2)).sum
theorem many7_eq {d : Nat} {l : List Rn} (h : ∀ r ∈ l, rnOk d r = true) : many7 l = (secs7 l).length := by
  induction l with
  | nil => rfl
  | cons r l ih =>
    have := ih (fun q hq => h q (List.mem_cons_of_mem _ hq))
    have h1 := (rnOk_iff.1 (h r List.mem_cons_self)).2.1
    rw [secs7_cons, List.length_append, rnSecs_length]
    simp only [many7, List.map_cons, List.sum_cons] at this ⊢
    rw [this]
    omega
theorem many7_snoc (l : List Rn) (r : Rn) : many7 (l ++ [r]) = many7 l + r.2 := by simp [many7]
def free7 (d : Nat) (l : List Rn) : List Nat := (List.range d).filter (fun x => !decide (x ∈ secs7 l))
theorem mem_free7 {d : Nat} {l : List Rn} {x : Nat} : x ∈ free7 d l ↔ x < d ∧ x ∉ secs7 l := by simp [free7]
theorem filter_count (S : List Nat) : ∀ (d : Nat), S.Nodup → (∀ x ∈ S, x < d) → ((List.range d).filter (fun x => decide (x ∈ S))).length = S.length := by
  intro d hn hl
  have hp : ((List.range d).filter (fun x => decide (x ∈ S))).Perm S := by
    rw [List.perm_ext_iff_of_nodup (List.nodup_range.filter _) hn]
    intro x
    simp only [List.mem_filter, List.mem_range, decide_eq_true_eq]
    exact ⟨fun h => h.2, fun h => ⟨hl x h, h⟩⟩
  exact hp.length_eq
theorem filter_not_length {α : Type} (p : α → Bool) : ∀ l : List α, (l.filter p).length + (l.filter (fun x => !p x)).length = l.length
  | [] => rfl
  | x :: l => by
    have := filter_not_length p l
    cases h : p x <;> simp [h] <;> omega
theorem free7_length {d : Nat} {l : List Rn} (h : apart7 d l = true) : (free7 d l).length + (secs7 l).length = d := by
  have h1 := filter_not_length (fun x => decide (x ∈ secs7 l)) (List.range d)
  rw [apart7_iff] at h
  rw [filter_count _ d h.2 (fun x hx => secs7_lt h.1 hx), List.length_range] at h1
  unfold free7
  omega
theorem free7_nodup (d : Nat) (l : List Rn) : (free7 d l).Nodup := List.nodup_range.filter _
theorem free7_sorted (d : Nat) (l : List Rn) : (free7 d l).Pairwise (· < ·) := List.pairwise_lt_range.filter _
def jn7 (l : List Rn) (x : Nat) : List Rn :=
  match l.getLast? with
  | some r => if r.1 + r.2 = x then l.dropLast ++ [(r.1, r.2 + 1)] else l ++ [((x : Int), 1)]
  | none => l ++ [((x : Int), 1)]
def joins7 (xs : List Nat) : List Rn := xs.foldl jn7 []
theorem joins7_snoc (xs : List Nat) (x : Nat) : joins7 (xs ++ [x]) = jn7 (joins7 xs) x := by simp [joins7]
theorem jn7_nil (x : Nat) : jn7 [] x = [((x : Int), 1)] := rfl
theorem jn7_snoc (l : List Rn) (r : Rn) (x : Nat) : jn7 (l ++ [r]) x = if r.1 + r.2 = x then l ++ [(r.1, r.2 + 1)] else l ++ [r] ++ [((x : Int), 1)] := by
  unfold jn7
  rw [List.getLast?_concat, List.dropLast_concat]
def find7 (d : Nat) (l : List Rn) (n : Nat) : List Rn := joins7 ((free7 d l).take n)
def RnPos (l : List Rn) : Prop := ∀ r ∈ l, 0 ≤ r.1 ∧ 1 ≤ r.2
theorem jn7_pos {l : List Rn} (h : RnPos l) (x : Nat) : RnPos (jn7 l x) := by
  rcases List.eq_nil_or_concat l with rfl | ⟨l, r, rfl⟩
  · rw [jn7_nil]
    intro q hq
    rw [List.mem_singleton.1 hq]
    exact ⟨by simp, by simp⟩
  · rw [List.concat_eq_append, jn7_snoc]
    rw [List.concat_eq_append] at h
    have hr := h r (by simp)
    split
    · intro q hq
      rcases List.mem_append.1 hq with hq | hq
      · exact h q (List.mem_append_left _ hq)
      · rw [List.mem_singleton.1 hq]
        exact ⟨hr.1, by simp only; omega⟩
    · intro q hq
      rcases List.mem_append.1 hq with hq | hq
      · exact h q hq
      · rw [List.mem_singleton.1 hq]
        exact ⟨by simp, by simp⟩
theorem jn7_secs {l : List Rn} (h : RnPos l) (x : Nat) : secs7 (jn7 l x) = secs7 l ++ [x] := by
  rcases List.eq_nil_or_concat l with rfl | ⟨l, r, rfl⟩
  · rw [jn7_nil, secs7_one, rnSecs]
    simp [secs7]
  · rw [List.concat_eq_append, jn7_snoc]
    rw [List.concat_eq_append] at h
    have hr := h r (by simp)
    split
    · rename_i e
      rw [secs7_append, secs7_append, secs7_one, secs7_one, List.append_assoc]
      congr 1
      unfold rnSecs
      simp only
      rw [show (r.2 + 1).toNat = r.2.toNat + 1 by omega, List.range_succ, List.map_append]
      congr 1
      simp only [List.map_cons, List.map_nil, List.cons.injEq, and_true]
      omega
    · rw [secs7_append (l ++ [r]), secs7_one (((x : Int), 1) : Rn)]
      congr 1
theorem joins7_pos : ∀ (xs : List Nat) (l : List Rn), RnPos l → RnPos (xs.foldl jn7 l)
  | [], l, h => h
  | x :: xs, l, h => joins7_pos xs _ (jn7_pos h x)
theorem joins7_secs_ : ∀ (xs : List Nat) (l : List Rn), RnPos l → secs7 (xs.foldl jn7 l) = secs7 l ++ xs
  | [], l, h => by simp
  | x :: xs, l, h => by
    rw [List.foldl_cons, joins7_secs_ xs _ (jn7_pos h x), jn7_secs h, List.append_assoc]
    rfl
theorem joins7_secs (xs : List Nat) : secs7 (joins7 xs) = xs := by
  have := joins7_secs_ xs [] (fun _ h => by cases h)
  simpa [joins7, secs7] using this
theorem joins7_Pos (xs : List Nat) : RnPos (joins7 xs) := joins7_pos xs [] (fun _ h => by cases h)
theorem rnOk_of {d : Nat} {l : List Rn} (h : RnPos l) (hd : ∀ x ∈ secs7 l, x < d) : ∀ r ∈ l, rnOk d r = true := by
  intro r hr
  have h1 := h r hr
  rw [rnOk_iff]
  refine ⟨h1.1, h1.2, ?_⟩
  have hm : r.1.toNat + (r.2.toNat - 1) ∈ secs7 l := by
    unfold secs7
    refine List.mem_flatMap.2 ⟨r, hr, ?_⟩
    unfold rnSecs
    exact List.mem_map.2 ⟨r.2.toNat - 1, List.mem_range.2 (by omega), rfl⟩
  have := hd _ hm
  omega
theorem find7_secs (d : Nat) (l : List Rn) (n : Nat) : secs7 (find7 d l n) = (free7 d l).take n := joins7_secs _
theorem find7_apart {d : Nat} {l : List Rn} (n : Nat) (h : apart7 d l = true) : apart7 d (l ++ find7 d l n) = true := by
  have hf := find7_secs d l n
  rw [apart7_iff] at h ⊢
  refine ⟨fun r hr => ?_, ?_⟩
  · rcases List.mem_append.1 hr with hr | hr
    · exact h.1 r hr
    · exact rnOk_of (joins7_Pos _) (fun x hx => by
        rw [show joins7 ((free7 d l).take n) = find7 d l n from rfl, hf] at hx
        exact (mem_free7.1 (List.mem_of_mem_take hx)).1) r hr
  · rw [secs7_append, hf, List.nodup_append]
    refine ⟨h.2, (free7_nodup d l).sublist (List.take_sublist _ _), fun x hx y hy e => ?_⟩
    subst e
    exact (mem_free7.1 (List.mem_of_mem_take hy)).2 hx
end Go.Proofs.Ythghkognpgndhaa
namespace Go.Proofs.Ythghkognpgndhaa
open Go.RowKit Go.ChangeShapes
set_option linter.unusedVariables false
def Elems (k : Nat) (F : Nat → Prop) (w : World) (v : Value) (css : List (List Value)) : Prop :=
  ∃ ao cap, v = .slice ao css.length cap ∧ css.length ≤ cap ∧ cap ≤ 9223372036854775807 ∧ (∀ c ∈ css, c.length = k) ∧
    (css ≠ [] → ∃ b off, ao = some ⟨b, off, none⟩ ∧ F b ∧ ∀ i (h : i < css.length) j, j < k → w.cell? ⟨b, off + i * k + j, none⟩ = css[i][j]?)
theorem Elems.nil (k : Nat) (F : Nat → Prop) (w : World) : Elems k F w (.slice none 0 0) [] := ⟨none, 0, rfl, Nat.le_refl _, by simp, (fun _ h => by cases h), fun h => absurd rfl h⟩
theorem Elems.keep {k : Nat} {F S : Nat → Prop} {w w' : World} {v : Value} {css : List (List Value)} (h : Elems k F w v css) (hf : Fr S w w') (hd : ∀ b, b < w.heap.size → F b → ¬ S b) : Elems k F w' v css := by
  obtain ⟨ao, cap, hv, h1, h2, h3, h4⟩ := h
  refine ⟨ao, cap, hv, h1, h2, h3, fun hl => ?_⟩
  obtain ⟨b, off, ha, hF, hi⟩ := h4 hl
  refine ⟨b, off, ha, hF, fun i h j hj => ?_⟩
  have h5 := hi i h j hj
  have hlen := h3 _ (List.getElem_mem h)
  rw [List.getElem?_eq_getElem (by omega)] at h5 ⊢
  exact hf.cell h5 (hd b (World.block_lt_of_cell? _ _ h5) hF)
theorem Elems.mono {k : Nat} {F G : Nat → Prop} {w : World} {v : Value} {css : List (List Value)} (h : Elems k F w v css) (hk : 0 < k) (hd : ∀ b, b < w.heap.size → F b → G b) : Elems k G w v css := by
  obtain ⟨ao, cap, hv, h1, h2, h3, h4⟩ := h
  refine ⟨ao, cap, hv, h1, h2, h3, fun hl => ?_⟩
  obtain ⟨b, off, ha, hF, hi⟩ := h4 hl
  have hp := List.length_pos_iff.2 hl
  have h5 := hi 0 hp 0 hk
  have hlen := h3 _ (List.getElem_mem hp)
  rw [List.getElem?_eq_getElem (by omega)] at h5
  exact ⟨b, off, ha, hd b (World.block_lt_of_cell? _ _ h5) hF, hi⟩
theorem flat_get {α : Type} {k : Nat} : ∀ (css : List (List α)), (∀ c ∈ css, c.length = k) → ∀ i (h : i < css.length) j, j < k → css.flatten[i * k + j]? = css[i][j]?
  | [], _, i, h, _, _ => by simp at h
  | c :: css, hc, 0, h, j, hj => by
    have := hc c List.mem_cons_self
    rw [List.flatten_cons, Nat.zero_mul, Nat.zero_add, List.getElem?_append_left (by omega)]
    rfl
  | c :: css, hc, i + 1, h, j, hj => by
    have := hc c List.mem_cons_self
    have e : (i + 1) * k + j - c.length = i * k + j := by rw [Nat.add_mul, this]; omega
    have e2 : k ≤ (i + 1) * k := by rw [Nat.add_mul]; omega
    rw [List.flatten_cons, List.getElem?_append_right (by omega), e, flat_get css (fun d hd => hc d (List.mem_cons_of_mem _ hd)) i (by simpa using h) j hj]
    rfl
theorem flat_len {α : Type} {k : Nat} : ∀ (css : List (List α)), (∀ c ∈ css, c.length = k) → css.flatten.length = css.length * k
  | [], _ => by simp
  | c :: css, hc => by rw [List.flatten_cons, List.length_append, hc c List.mem_cons_self, flat_len css (fun d hd => hc d (List.mem_cons_of_mem _ hd)), List.length_cons, Nat.add_mul]; omega
structure OwnE (T : TypeId) (k z : Nat) (w : World) (v : Value) (css : List (List Value)) : Prop where
  row : w.ownsRow z T k v css.length css.flatten
  each : ∀ c ∈ css, c.length = k
theorem OwnE.nil (T : TypeId) (k z : Nat) (w : World) : OwnE T k z w (.slice none 0 0) [] := ⟨World.ownsRow_nil _ _ _ _, fun _ h => by cases h⟩
theorem OwnE.keep {S : Nat → Prop} {T : TypeId} {k z : Nat} {w w' : World} {v : Value} {css : List (List Value)} (h : OwnE T k z w v css) (hf : Fr S w w') (hd : ∀ g, v.ownBlock = some g → ¬ S g) : OwnE T k z w' v css := by
  refine ⟨⟨h.row.1, ?_⟩, h.each⟩
  rcases h.row.2 with e | ⟨g, cap, cur, hv, hb, hg, r⟩
  · exact .inl e
  · exact .inr ⟨g, cap, cur, hv, hb, hf.heap hg (hd g (by rw [hv]; rfl)), r⟩
theorem OwnE.own {T : TypeId} {k z : Nat} {w : World} {v : Value} {css : List (List Value)} (h : OwnE T k z w v css) (g : Nat) (hg : v.ownBlock = some g) : z ≤ g ∧ g < w.heap.size := by
  rcases h.row.2 with ⟨hv, _⟩ | ⟨g', cap, cur, hv, hb, hg', _⟩
  · rw [hv] at hg; simp [Value.ownBlock] at hg
  · rw [hv] at hg
    simp only [Value.ownBlock, Option.some.injEq] at hg
    exact hg ▸ ⟨hb, lt_of_block hg'⟩
theorem OwnE.elems {T : TypeId} {k z : Nat} {w : World} {v : Value} {css : List (List Value)} (h : OwnE T k z w v css) : Elems k (fun b => v.ownBlock = some b) w v css := by
  rcases h.row.2 with ⟨hv, h0⟩ | ⟨g, cap, cur, hv, hb, hg, hnc, hcm, hcs, ht⟩
  · obtain rfl := List.eq_nil_of_length_eq_zero h0
    rw [hv]
    exact Elems.nil _ _ _
  · unfold maxLen at hcm
    refine ⟨_, cap, hv, hnc, by omega, h.each, fun _ => ⟨g, 0, rfl, by rw [hv]; rfl, fun i hi j hj => ?_⟩⟩
    have hfl := flat_len css h.each
    have hlt : i * k + j < css.length * k := Nat.lt_of_lt_of_le (show i * k + j < (i + 1) * k by rw [Nat.add_mul]; omega) (Nat.mul_le_mul_right k hi)
    have hr := h.row
    rw [hv] at hr
    have := World.ownsRow.cellAt hr (i * k + j) (by omega)
    rw [Nat.zero_add, this, flat_get css h.each i hi j hj]
theorem OwnE.form {T : TypeId} {k z : Nat} {w : World} {v : Value} {css : List (List Value)} (h : OwnE T k z w v css) : ∃ ao c, v = .slice ao css.length c := by
  obtain ⟨ao, c, hv, _⟩ := h.elems
  exact ⟨ao, c, hv⟩
theorem run_append_e {T ST : TypeId} {k bs : Nat} {zv : Value} {i0 : TypeInfo} (hu : Try.prog.underlying ST = some (.slice T)) (hinf : (Try.prog.info? T).map (fun i => (i.zero, i.size, i.bytes)) = some (some zv, k, bs)) (hzs : zv.cells.size = k) (hk0 : 0 < k) (hbs : bs ≤ 100)
    {F : Nat → Prop} {z : Nat} (w : World) (ty : TypeId) (v x : Value) (css dss : List (List Value)) (hown : OwnE T k z w v css) (hx : Elems k F w x dss) (h1 : ∀ c ∈ dss, ∀ u ∈ c, u.oneCell' = true) (hz : z ≤ w.heap.size) (hn : css.length + dss.length ≤ 1000000) :
    ∃ v' w', (Builtin.append_ #[ST, ST] ty #[v, x]).run Try.prog w = .ok v' w' ∧ OwnE T k z w' v' (css ++ dss) ∧ w.grownBy w' v.ownBlock ∧ (v'.ownBlock = v.ownBlock ∨ v'.ownBlock = some w.heap.size) := by
  obtain ⟨i0, hi, hz0, hz1, hz2⟩ := info_parts hinf
  have heach : ∀ c ∈ css ++ dss, c.length = k := by
    obtain ⟨_, _, _, _, _, h3, _⟩ := hx
    intro c hc
    rcases List.mem_append.1 hc with hc | hc
    · exact hown.each c hc
    · exact h3 c hc
  obtain ⟨ao, cap, rfl, hc1, hc2, h3, h4⟩ := hx
  by_cases he : dss = []
  · subst he
    rw [List.append_nil]
    cases ao with
    | none =>
      have hcap : cap = 0 ∨ cap ≠ 0 := by omega
      rcases hcap with rfl | hcap
      · exact ⟨v, w, run_append_owned_none (P := Try.prog) (w := w) z ST ty T i0 k hu hi v css.length _ hown.row, hown, World.grownBy.refl _ _, .inl rfl⟩
      · exact ⟨v, w, run_append_owned_none (P := Try.prog) (w := w) z ST ty T i0 k hu hi v css.length _ hown.row, hown, World.grownBy.refl _ _, .inl rfl⟩
    | some a =>
      obtain ⟨v', w', hr, r2, r3, r4, r5⟩ := run_append_own_at (P := Try.prog) w z ST ty T i0 zv k bs hu hi hz0 hz1 hz2 hzs hk0 v css.length _ hown.row a 0 cap [] (by simp) (by simp) (by simp) (by unfold maxLen; simp at hn; omega) (Nat.le_trans (Nat.mul_le_mul (show css.length + 0 ≤ 1000000 by simpa using hn) hbs) (by decide)) hz
      exact ⟨v', w', hr, ⟨by simpa using r2, hown.each⟩, r3, r5⟩
  · obtain ⟨b, off, rfl, hF, hcell⟩ := h4 he
    obtain ⟨v', w', hr, r2, r3, r4, r5⟩ := run_append_own_at (P := Try.prog) w z ST ty T i0 zv k bs hu hi hz0 hz1 hz2 hzs hk0 v css.length _ hown.row ⟨b, off, none⟩ dss.length cap dss.flatten (flat_len dss h3) (fun j u hu => by
        have hfl := flat_len dss h3
        have hj : j < dss.flatten.length := (List.getElem?_eq_some_iff.1 hu).1
        rw [hfl] at hj
        have hq : j / k < dss.length := Nat.div_lt_of_lt_mul (by rw [Nat.mul_comm]; exact hj)
        have hm := Nat.div_add_mod j k
        have hml := Nat.mod_lt j hk0
        have e : off + (j / k) * k + j % k = off + j := by rw [Nat.mul_comm (j / k) k]; omega
        have h5 := hcell (j / k) hq (j % k) hml
        rw [e, ← flat_get dss h3 (j / k) hq (j % k) hml, show (j / k) * k + j % k = j by rw [Nat.mul_comm]; omega, hu] at h5
        rw [addr_plain]
        exact h5) (fun u hu => by
        obtain ⟨c, hc, huc⟩ := List.mem_flatten.1 hu
        exact h1 c hc u huc) (by unfold maxLen; omega) (Nat.le_trans (Nat.mul_le_mul hn hbs) (by decide)) hz
    refine ⟨v', w', hr, ⟨?_, heach⟩, r3, r5⟩
    rw [List.length_append, List.flatten_append]
    exact r2
theorem wpList_append_e {T ST : TypeId} {k bs : Nat} {zv : Value} (hu : Try.prog.underlying ST = some (.slice T)) (hinf : (Try.prog.info? T).map (fun i => (i.zero, i.size, i.bytes)) = some (some zv, k, bs)) (hzs : zv.cells.size = k) (hk0 : 0 < k) (hbs : bs ≤ 100)
    {F : Nat → Prop} {z : Nat} (w : World) {ops : Array Oper} {rest : List Oper} {o : Oper} {a : Act} {Q : Exit → Act → World → Prop} (hgd : o.guard = none) (s x : Operand)
    (hop : o.op = Op.call { callee := Callee.builtin Builtin.append, args := #[s, x], argTypes := #[ST, ST] })
    (v y : Value) (css dss : List (List Value)) (hs : a.eval s = v) (hx : a.eval x = y) (hown : OwnE T k z w v css) (he : Elems k F w y dss) (h1 : ∀ c ∈ dss, ∀ u ∈ c, u.oneCell' = true) (hz : z ≤ w.heap.size) (hn : css.length + dss.length ≤ 1000000)
    (hK : ∀ v' w', OwnE T k z w' v' (css ++ dss) → w.grownBy w' v.ownBlock → (v'.ownBlock = v.ownBlock ∨ v'.ownBlock = some w.heap.size) → wpList Try.prog ops Q rest (a.put o.dst v') w') : wpList Try.prog ops Q (o :: rest) a w := by
  refine wpList_plain hgd fun K hK' => ?_
  subst hs
  subst hx
  obtain ⟨i0, hi⟩ : ∃ i, Try.prog.info? T = some i := by
    cases h : Try.prog.info? T with
    | none => rw [h] at hinf; cases hinf
    | some i => exact ⟨i, rfl⟩
  obtain ⟨v', w', hr, r1, r2, r3⟩ := run_append_e (i0 := i0) hu hinf hzs hk0 hbs w o.type _ _ css dss hown he h1 hz hn
  unfold Oper.wp
  simp [execOp, hop, resolve, invoke, builtin, hr, Result.andThen]
  exact hK' _ _ (hK v' w' r1 r2 r3)
theorem Elems.ofBlock {k : Nat} {w : World} {b : Nat} {T : TypeId} {c : List Value} (h : w.heap[b]? = some (.cells c.toArray T (0, 0))) (hc : c.length = k) : Elems k (fun j => j = b) w (.slice (some ⟨b, 0, none⟩) 1 1) [c] := by
  refine ⟨_, 1, rfl, Nat.le_refl _, by decide, (fun d hd => by rw [List.mem_singleton.1 hd]; exact hc), fun _ => ⟨b, 0, rfl, rfl, fun i hi j hj => ?_⟩⟩
  have : i = 0 := by simp at hi; omega
  subst this
  rw [cell_of_row _ _ _ _ _ _ h]
  simp
def rnC (r : Rn) : List Value := [.int .i64 r.1, .int .i64 r.2]
theorem rnC_len (l : List Rn) : ∀ c ∈ l.map rnC, c.length = 2 := by
  intro c hc
  obtain ⟨r, _, rfl⟩ := List.mem_map.1 hc
  rfl
def RnsIn (F : Nat → Prop) (w : World) (v : Value) (l : List Rn) : Prop := Elems 2 F w v (l.map rnC) ∧ ∀ r ∈ l, -9223372036854775808 ≤ r.1 ∧ r.1 ≤ 9223372036854775807 ∧ -9223372036854775808 ≤ r.2 ∧ r.2 ≤ 9223372036854775807
theorem RnsIn.keep {F S : Nat → Prop} {w w' : World} {v : Value} {l : List Rn} (h : RnsIn F w v l) (hf : Fr S w w') (hd : ∀ b, b < w.heap.size → F b → ¬ S b) : RnsIn F w' v l := ⟨h.1.keep hf hd, h.2⟩
theorem RnsIn.quiet {F : Nat → Prop} {w w' : World} {v : Value} {l : List Rn} (h : RnsIn F w v l) (hf : Fr (fun _ => False) w w') : RnsIn F w' v l := h.keep hf (fun _ _ _ h => h)
theorem RnsIn.mono {F G : Nat → Prop} {w : World} {v : Value} {l : List Rn} (h : RnsIn F w v l) (hd : ∀ b, b < w.heap.size → F b → G b) : RnsIn G w v l := ⟨h.1.mono (by decide) hd, h.2⟩
theorem RnsIn.nil (F : Nat → Prop) (w : World) : RnsIn F w (.slice none 0 0) [] := ⟨Elems.nil _ _ _, fun _ h => by cases h⟩
theorem RnsIn.open7 {F : Nat → Prop} {w : World} {v : Value} {l : List Rn} (h : RnsIn F w v l) : ∃ ao cap, v = .slice ao l.length cap ∧ l.length ≤ cap ∧ cap ≤ 9223372036854775807 ∧
    ∃ b off, (0 < l.length → ao = some ⟨b, off, none⟩ ∧ F b) ∧ ∀ i (h : i < l.length), w.cell? ⟨b, off + i * 2, none⟩ = some (.int .i64 l[i].1) ∧ w.cell? ⟨b, off + i * 2 + 1, none⟩ = some (.int .i64 l[i].2) := by
  obtain ⟨ao, cap, hv, h1, h2, h3, h4⟩ := h.1
  rw [List.length_map] at hv h1
  refine ⟨ao, cap, hv, h1, h2, ?_⟩
  by_cases hl : l = []
  · subst hl
    exact ⟨0, 0, fun h => by simp at h, fun i h => by simp at h⟩
  · obtain ⟨b, off, ha, hF, hi⟩ := h4 (by simpa using hl)
    refine ⟨b, off, fun _ => ⟨ha, hF⟩, fun i h => ?_⟩
    have g := fun j hj => hi i (by simpa using h) j hj
    exact ⟨by simpa [rnC] using g 0 (by decide), by simpa [rnC] using g 1 (by decide)⟩
theorem infoRn : (Try.prog.info? 68).map (fun i => (i.zero, i.size, i.bytes)) = some (some (.agg #[.int .i64 0, .int .i64 0]), 2, 16) := by kernel_rfl
def OwnRn (z : Nat) (w : World) (v : Value) (l : List Rn) : Prop := OwnE 68 2 z w v (l.map rnC)
theorem OwnRn.nil (z : Nat) (w : World) : OwnRn z w (.slice none 0 0) [] := OwnE.nil _ _ _ _
theorem OwnRn.form {z : Nat} {w : World} {v : Value} {l : List Rn} (h : OwnRn z w v l) : ∃ ao c, v = .slice ao l.length c := by
  obtain ⟨ao, c, hv⟩ := OwnE.form h
  rw [List.length_map] at hv
  exact ⟨ao, c, hv⟩
theorem OwnRn.block {z : Nat} {w : World} {v : Value} {l : List Rn} (h : OwnRn z w v l) : (v = .slice none 0 0 ∧ l = []) ∨ ∃ g cap cur, v = .slice (some ⟨g, 0, none⟩) l.length cap ∧ z ≤ g ∧ w.heap[g]? = some (.cells cur 68 (0, 0)) ∧ l.length ≤ cap ∧ cap ≤ 9223372036854775807 ∧ cur.size = cap * 2 ∧ cur.toList.take (l.length * 2) = (l.map rnC).flatten := by
  rcases OwnE.row h with ⟨_, hv⟩
  rcases hv with ⟨hv, h0⟩ | ⟨g, cap, cur, hv, hb, hg, hnc, hcm, hcs, ht⟩
  · left
    rw [List.length_map] at h0
    exact ⟨hv, List.eq_nil_of_length_eq_zero h0⟩
  · right
    rw [List.length_map] at hv hnc
    unfold maxLen at hcm
    refine ⟨g, cap, cur, hv, hb, hg, hnc, by omega, hcs, ?_⟩
    rw [List.length_map] at ht
    exact ht
end Go.Proofs.Ythghkognpgndhaa
namespace Go.Proofs.Ythghkognpgndhaa
open Go.RowKit Go.ChangeShapes
set_option linter.unusedVariables false
theorem Dv.Right.same {d e : Dv} {s : Nat} (h : d.Right s) (h1 : e.all = d.all) (h2 : e.waits = d.waits) : e.Right s := ⟨by rw [h1]; exact h.all, by rw [h2]; exact h.waits⟩
end Go.Proofs.Ythghkognpgndhaa
namespace Go.Proofs.Ythghkognpgndhaa
set_option linter.unusedVariables false
def need7 (n : Int) : Int := if n < 1 then 0 else (n - 1) / 64 + 1
end Go.Proofs.Ythghkognpgndhaa
