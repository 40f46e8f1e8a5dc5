/- Laid together: Inv Ops PathEq PathX KeysX VwL -/
import Derived.Test.YtdpaobflknkbkaaRows
import Derived.StillTail
import Derived.WalkKit
import Derived.Test.YtdpaobflknkbkaaVe0
import Derived.Stop.BytesEq
import Derived.Laws.StructEq
import Derived.Maps.OwnSet
import Derived.DeepKeys4
import Derived.ProofKit
import Derived.OpenShut
import Derived.SizedLaws
import Derived.Deep.Slices
import Derived.Carry
import Derived.Lib.Strings
import Derived.Laws.Strings3

namespace Go.Proofs.Ytdpaobflknkbkaa
open Go.RowKit
set_option linter.unusedVariables false
section
variable {P : Program}
def dstAt (l : List Oper) (i : Nat) : Option Tmp := (l[i]?).bind (·.dst)
def acts (l : List Oper) (lst : Nat → Bool) (vs : Nat → Value) (a0 : Act) : Nat → Act
  | 0 => a0
  | k + 1 => if lst k then (acts l lst vs a0 k).put (dstAt l k) (vs k) else acts l lst vs a0 k
def untouched (l : List Oper) (n : Nat) (t : Tmp) : Bool := (List.range n).all fun j => dstAt l j != some t
def waitsOn (o : Oper) (j : Nat) : Bool := o.after.any fun e => Region.binds .any e && e.on == j
def WpG (P : Program) (l : List Oper) (o : Oper) (a : Act) (w : World) (K : Act → World → Prop) (Q : Exit → Act → World → Prop) : Prop :=
  if Region.wanted o (yielded l.toArray a.tmps) = true then o.wp P a w K Q else K (a.put o.dst undef) w
theorem wpG_plain {l : List Oper} {o : Oper} {a : Act} {w : World} {K : Act → World → Prop} {Q : Exit → Act → World → Prop} (hg : o.guard = none) (h : o.wp P a w K Q) : WpG P l o a w K Q := by
  unfold WpG
  rw [if_pos (by simp [Region.wanted, hg])]
  exact h
theorem wpG_yes {l : List Oper} {o : Oper} {a : Act} {w : World} {K : Act → World → Prop} {Q : Exit → Act → World → Prop} (g : Nat) (b : Bool) (t : Tmp) (hg : o.guard = some (g, b)) (ht : dstAt l g = some t) (hs : t < a.tmps.size) (he : a.eval (.tmp t) = .bool b)
    (h : o.wp P a w K Q) : WpG P l o a w K Q := by
  unfold WpG
  have hy : yielded l.toArray a.tmps g = some b := by
    have h1 : (l.toArray[g]?.bind fun x => x.dst) = some t := by simpa [dstAt] using ht
    have h2 : a.tmps[t]? = some (.bool b) := by
      have h3 : a.tmps.getD t undef = .bool b := he
      rw [Array.getElem?_eq_getElem hs]
      simpa [hs] using h3
    unfold yielded
    rw [h1]
    simp only [Option.bind_some, h2]
  rw [if_pos (by simp [Region.wanted, hg, hy])]
  exact h
theorem wpG_no {l : List Oper} {o : Oper} {a : Act} {w : World} {K : Act → World → Prop} {Q : Exit → Act → World → Prop} (g : Nat) (b : Bool) (t : Tmp) (hg : o.guard = some (g, b)) (ht : dstAt l g = some t) (hs : t < a.tmps.size) (he : a.eval (.tmp t) = .bool (!b))
    (h : K (a.put o.dst undef) w) : WpG P l o a w K Q := by
  unfold WpG
  have hy : yielded l.toArray a.tmps g = some (!b) := by
    have h1 : (l.toArray[g]?.bind fun x => x.dst) = some t := by simpa [dstAt] using ht
    have h2 : a.tmps[t]? = some (.bool (!b)) := by
      have h3 : a.tmps.getD t undef = .bool (!b) := he
      rw [Array.getElem?_eq_getElem hs]
      simpa [hs] using h3
    unfold yielded
    rw [h1]
    simp only [Option.bind_some, h2]
  rw [if_neg (by simp [Region.wanted, hg, hy])]
  exact h
def InvStep (P : Program) (l : List Oper) (n : Nat) (Q : Exit → Act → World → Prop) (B : World → Prop) (R : Nat → Value → World → Prop) (D : Nat → Nat → Value → Value → Prop) (Ext : World → World → Prop) (a0 : Act) (i : Nat) (o : Oper) : Prop :=
  ∀ (a : Act) (w : World) (vs : Nat → Value), B w → a.tmps.size = a0.tmps.size →
    (∀ j t, waitsOn o j = true → dstAt l j = some t → R j (vs j) w ∧ a.eval (.tmp t) = vs j) →
    (∀ t, untouched l n t = true → a.eval (.tmp t) = a0.eval (.tmp t)) →
    WpG P l o a w (fun a' w' => ∃ v, a' = a.put o.dst v ∧ B w' ∧ Ext w w' ∧ R i v w' ∧ ∀ j u, j < n → j ≠ i → R j u w → D i j v u) Q
def invB (l : List Oper) (n size : Nat) : Bool :=
  decide (n ≤ l.length) &&
  ((List.range n).all fun i => match l[i]? with
    | some o => (o.after.all fun e => !Region.binds .any e || decide (e.on < i)) && (match o.dst with | some d => decide (d < size) | none => true)
    | none => false) &&
  ((List.range n).all fun i => (List.range n).all fun j => decide (i = j) || (match dstAt l i, dstAt l j with | some x, some y => decide (x ≠ y) | _, _ => true)) &&
  (decide (n = l.length) || (Region.sinkB .any l.toArray n && Region.chainB .any l.toArray n && decide (n < l.length))) &&
  Region.seqB .any l.toArray (l.length - n) n (List.replicate n true ++ List.replicate (l.length - n) false).toArray
theorem acts_congr {l : List Oper} {f g : Nat → Bool} {vs us : Nat → Value} {a0 : Act} : ∀ (k : Nat), (∀ j, j < k → f j = g j ∧ (f j = true → vs j = us j)) → acts l f vs a0 k = acts l g us a0 k
  | 0, _ => rfl
  | k + 1, h => by
    have ih := acts_congr (l := l) (a0 := a0) k (fun j hj => h j (by omega))
    obtain ⟨h1, h2⟩ := h k (by omega)
    unfold acts
    rw [ih, ← h1]
    by_cases hk : f k = true
    · rw [if_pos hk, if_pos hk, h2 hk]
    · rw [if_neg hk, if_neg hk]
theorem acts_put {l : List Oper} {f : Nat → Bool} {vs : Nat → Value} {a0 : Act} {i : Nat} {v : Value} (hf : f i = false) : ∀ (k : Nat), i < k →
    (∀ j, j < k → j ≠ i → ∀ d, dstAt l i = some d → dstAt l j ≠ some d) →
    acts l (fun j => if j = i then true else f j) (fun j => if j = i then v else vs j) a0 k = (acts l f vs a0 k).put (dstAt l i) v
  | 0, h, _ => by omega
  | k + 1, h, hd => by
    by_cases hk : k = i
    · subst hk
      have e := acts_congr (l := l) (a0 := a0) (f := fun j => if j = k then true else f j) (g := f) (vs := fun j => if j = k then v else vs j) (us := vs) k (fun j hj => ⟨if_neg (by omega), fun _ => if_neg (by omega)⟩)
      simp only [acts, if_true, hf, Bool.false_eq_true, if_false]
      rw [e]
    · have ih := acts_put (vs := vs) (a0 := a0) (v := v) hf k (by omega) (fun j hj hji => hd j (by omega) hji)
      unfold acts
      rw [ih]
      simp only [if_neg hk]
      by_cases hfk : f k = true
      · rw [if_pos hfk, if_pos hfk]
        exact Act.put_comm _ _ _ (fun d hx => hd k (by omega) hk d hx)
      · rw [if_neg hfk, if_neg hfk]
theorem put_size (a : Act) (d : Option Tmp) (v : Value) : (a.put d v).tmps.size = a.tmps.size := by
  cases d <;> simp [Act.put]
theorem acts_size {l : List Oper} {f : Nat → Bool} {vs : Nat → Value} {a0 : Act} : ∀ k, (acts l f vs a0 k).tmps.size = a0.tmps.size
  | 0 => rfl
  | k + 1 => by
    unfold acts
    split
    · rw [put_size, acts_size k]
    · exact acts_size k
theorem eval_put_ne {a : Act} {d : Option Tmp} {v : Value} {t : Tmp} (h : d ≠ some t) : (a.put d v).eval (.tmp t) = a.eval (.tmp t) :=
  Act.eval_put fun d' hd e => h (by rw [hd]; injection e with e; rw [e])
theorem eval_put_eq {a : Act} {v : Value} {t : Tmp} (h : t < a.tmps.size) : (a.put (some t) v).eval (.tmp t) = v := by
  simp [Act.put, Act.eval, h]
theorem acts_eval_ne {l : List Oper} {f : Nat → Bool} {vs : Nat → Value} {a0 : Act} {t : Tmp} : ∀ k, (∀ j, j < k → dstAt l j ≠ some t) → (acts l f vs a0 k).eval (.tmp t) = a0.eval (.tmp t)
  | 0, _ => rfl
  | k + 1, h => by
    unfold acts
    split
    · rw [eval_put_ne (h k (by omega)), acts_eval_ne k (fun j hj => h j (by omega))]
    · exact acts_eval_ne k (fun j hj => h j (by omega))
theorem acts_eval_eq {l : List Oper} {f : Nat → Bool} {vs : Nat → Value} {a0 : Act} {t : Tmp} {i : Nat} (hi : f i = true) (ht : dstAt l i = some t) (hs : t < a0.tmps.size) : ∀ k, i < k →
    (∀ j, j < k → j ≠ i → dstAt l j ≠ some t) → (acts l f vs a0 k).eval (.tmp t) = vs i
  | 0, h, _ => by omega
  | k + 1, h, hd => by
    unfold acts
    by_cases hk : k = i
    · subst hk
      rw [if_pos hi, ht, eval_put_eq (by rw [acts_size]; exact hs)]
    · have ih := acts_eval_eq (vs := vs) hi ht hs k (by omega) (fun j hj hji => hd j (by omega) hji)
      split
      · rw [eval_put_ne (hd k (by omega) hk), ih]
      · exact ih
def left (n : Nat) (listed : Array Bool) : Nat := (List.range n).countP fun i => !listed.getD i false
theorem countP_one {f g : Nat → Bool} {i : Nat} (hf : f i = true) (hg : g i = false) (he : ∀ j, j ≠ i → f j = g j) : ∀ n, (List.range n).countP f = (List.range n).countP g + (if i < n then 1 else 0)
  | 0 => by simp
  | n + 1 => by
    rw [List.range_succ, List.countP_append, List.countP_append, countP_one hf hg he n]
    by_cases h : n = i
    · subst h
      simp [hf, hg]
    · have := he n h
      simp only [List.countP_cons, List.countP_nil, this]
      by_cases h2 : i < n
      · have h3 : i < n + 1 := by omega
        simp only [h2, h3, if_true]
        omega
      · have h3 : ¬ i < n + 1 := by omega
        simp only [h2, h3, if_false]
        omega
theorem countP_zero {f : Nat → Bool} : ∀ n, (List.range n).countP f = 0 → ∀ i, i < n → f i = false
  | 0, _, i, h => by omega
  | n + 1, hc, i, h => by
    rw [List.range_succ, List.countP_append] at hc
    by_cases hi : i = n
    · subst hi
      by_cases hf : f i = true
      · simp [hf] at hc
      · simpa using hf
    · exact countP_zero n (by omega) i (by omega)
theorem least {p : Nat → Prop} (n : Nat) (hn : p n) : ∃ m, p m ∧ ∀ j, j < m → ¬ p j := by
  induction n using Nat.strongRecOn with
  | _ n ih =>
    by_cases h : ∃ j, j < n ∧ p j
    · obtain ⟨j, hj, hp⟩ := h
      exact ih j hj hp
    · exact ⟨n, hn, fun j hj hp => h ⟨j, hj, hp⟩⟩
theorem wp_region_inv {id : Nat} {Q : Exit → Act → World → Prop} {a : Act} {w : World} {l : List Oper} (n : Nat) (hm : P.follows .mixedOrders = true) (hB : invB l n a.tmps.size = true)
    (B : World → Prop) (R : Nat → Value → World → Prop) (D : Nat → Nat → Value → Value → Prop) (Ext : World → World → Prop) (hext : ∀ j u w w', Ext w w' → R j u w → R j u w') (hB0 : B w.drew)
    (hstep : ∀ i, i < n → ∀ o, l[i]? = some o → InvStep P l n Q B R D Ext a i o)
    (htail : ∀ vs w', B w' → (∀ i, i < n → R i (vs i) w') → (∀ i j, i < n → j < n → i ≠ j → D i j (vs i) (vs j) ∨ D j i (vs j) (vs i)) → wpList P l.toArray Q (l.drop n) (acts l (fun _ => true) vs a n) w') : (Code.region id l.toArray true).wp P Q a w := by
  simp only [invB, Bool.and_eq_true, decide_eq_true_eq, Bool.or_eq_true] at hB
  obtain ⟨⟨⟨⟨hn, hops⟩, hdst⟩, hwait⟩, hseq⟩ := hB
  have hop : ∀ i, i < n → ∃ o, l[i]? = some o ∧ (∀ e ∈ o.after, Region.binds .any e = true → e.on < i) ∧ (∀ d, o.dst = some d → d < a.tmps.size) := by
    intro i hi
    have h := List.all_eq_true.1 hops i (List.mem_range.2 hi)
    cases ho : l[i]? with
    | none => rw [ho] at h; cases h
    | some o =>
      rw [ho] at h
      simp only [Bool.and_eq_true] at h
      obtain ⟨h2, h3⟩ := h
      refine ⟨o, rfl, fun e he hb => ?_, fun d hd => ?_⟩
      · have := Array.all_eq_true_iff_forall_mem.1 h2 e he
        rw [hb] at this
        simpa using this
      · rw [hd] at h3
        simpa using h3
  have hdis : ∀ i j, i < n → j < n → j ≠ i → ∀ d, dstAt l i = some d → dstAt l j ≠ some d := by
    intro i j hi hj hji d hd hd2
    have h := List.all_eq_true.1 (List.all_eq_true.1 hdst i (List.mem_range.2 hi)) j (List.mem_range.2 hj)
    rw [hd, hd2] at h
    simp at h
    omega
  refine wp_region_any hm ?_
  have main : ∀ (m : Nat) (listed : Array Bool) (vs : Nat → Value) (w' : World), left n listed = m → HeadInv .any l.toArray n listed → B w' → (∀ i, i < n → listed.getD i false = true → R i (vs i) w') →
      (∀ i j, i < n → j < n → listed.getD i false = true → listed.getD j false = true → i ≠ j → D i j (vs i) (vs j) ∨ D j i (vs j) (vs i)) →
      wpAny P .any l.toArray Q (m + (l.length - n)) listed (acts l (fun i => listed.getD i false) vs a n) w' := by
    intro m
    induction m with
    | zero =>
      intro listed vs w' hl inv hBw hR hD
      have hall : ∀ i, i < n → listed.getD i false = true := fun i hi => by simpa using countP_zero n hl i hi
      have hlisted : listed = (List.replicate n true ++ List.replicate (l.length - n) false).toArray := by
        apply Array.ext
        · rw [inv.size]; simp; omega
        · intro i h1 h2
          have hi : i < l.length := by rw [inv.size] at h1; simpa using h1
          have e1 : listed[i] = listed.getD i false := by simp [h1]
          rw [e1]
          by_cases h : i < n
          · rw [hall i h]
            simp [h]
          · rw [getD_both (inv.tail i (by omega) (by simpa using hi))]
            simp [List.getElem_append, h]
      have hact : acts l (fun i => listed.getD i false) vs a n = acts l (fun _ => true) vs a n := acts_congr n fun j hj => ⟨hall j hj, fun _ => rfl⟩
      rw [hact, Nat.zero_add]
      have hdl : (l.drop n).length = l.length - n := by simp
      rw [← hdl]
      refine wpAny_of_seq (l.drop n) n listed _ w' (fun j => by simp [List.getElem?_drop]) ?_ (htail vs w' hBw (fun i hi => hR i hi (hall i hi)) (fun i j hi hj hij => hD i j hi hj (hall i hi) (hall j hj) hij))
      rw [hdl, hlisted]
      exact hseq
    | succ m ih =>
      intro listed vs w' hl inv hBw hR hD
      have hex : ∃ i, i < n ∧ listed.getD i false = false := by
        by_cases h : ∃ i, i < n ∧ listed.getD i false = false
        · exact h
        · exfalso
          have : left n listed = 0 := by
            unfold left
            rw [List.countP_eq_zero]
            intro i hi
            have hi' := List.mem_range.1 hi
            cases hg : listed.getD i false with
            | true => simp
            | false => exact absurd ⟨i, hi', hg⟩ h
          omega
      obtain ⟨i0, hi0, hun0⟩ := hex
      have hne : Region.ready .any l.toArray listed ≠ [] := by
        obtain ⟨i1, ⟨hi1, hun1⟩, hmin⟩ := least (p := fun i => i < n ∧ listed.getD i false = false) i0 ⟨hi0, hun0⟩
        obtain ⟨o, ho, hback, _⟩ := hop i1 hi1
        have : i1 ∈ Region.ready .any l.toArray listed := by
          refine mem_ready.2 ⟨getD_in (by rw [inv.size]; simp; omega) hun1, o, by simpa using ho, fun e he hb => ?_⟩
          have h1 := hback e he hb
          cases hg : listed.getD e.on false with
          | true => rfl
          | false => exact absurd ⟨by omega, hg⟩ (hmin e.on h1)
        intro h
        rw [h] at this
        cases this
      rw [show m + 1 + (l.length - n) = (m + (l.length - n)) + 1 by omega]
      refine ⟨fun h => absurd h hne, fun i hi => ?_⟩
      have hin : i < n := by
        rcases Nat.lt_or_ge i n with h | h
        · exact h
        · exfalso
          rcases hwait with hw | ⟨⟨hs, hc⟩, hlt⟩
          · obtain ⟨_, o, ho, _⟩ := mem_ready.1 hi
            have := (Array.getElem?_eq_some_iff.1 ho).1
            simp at this
            omega
          · exact tail_waits hs hc (by simpa using hlt) inv _ i0 rfl hi0 (getD_in (by rw [inv.size]; simp; omega) hun0) i h hi
      obtain ⟨hun, o', ho', hall⟩ := mem_ready.1 hi
      obtain ⟨o, ho, hback, hds⟩ := hop i hin
      have : o' = o := by simpa [ho] using ho'.symm
      subst this
      have hdo : dstAt l i = o'.dst := by simp [dstAt, ho]
      have hunf := getD_both hun
      have hst := hstep i hin o' ho (acts l (fun i => listed.getD i false) vs a n) w' vs hBw (acts_size n)
        (fun j t hj ht => by
          obtain ⟨e, he, hb⟩ := Array.any_eq_true'.1 hj
          simp only [Bool.and_eq_true, beq_iff_eq] at hb
          obtain ⟨hb, rfl⟩ := hb
          have h1 := hall e he hb
          have h2 := hback e he hb
          refine ⟨hR e.on (by omega) h1, ?_⟩
          obtain ⟨oe, hoe, _, hde⟩ := hop e.on (by omega)
          exact acts_eval_eq h1 ht (hde t (by simpa [dstAt, hoe] using ht)) n (by omega) (fun j hj hji => hdis e.on j (by omega) hj hji t ht))
        (fun t ht => acts_eval_ne n (fun j hj => by simpa using List.all_eq_true.1 ht j (List.mem_range.2 hj)))
      have hgo : ∀ a' w2, (∃ v, a' = (acts l (fun i => listed.getD i false) vs a n).put o'.dst v ∧ B w2 ∧ Ext w' w2 ∧ R i v w2 ∧ ∀ j u, j < n → j ≠ i → R j u w' → D i j v u) →
          wpAny P .any l.toArray Q (m + (l.length - n)) (listed.setIfInBounds i true) a' w2 := by
        rintro a' w2 ⟨v, rfl, hB2, hE, hRv, hDv⟩
        have hput := acts_put (l := l) (f := fun i => listed.getD i false) (vs := vs) (a0 := a) (i := i) (v := v) hunf n hin (fun j hj hji d hd => hdis i j hin hj hji d hd)
        rw [← hdo, ← hput]
        have hcong : acts l (fun j => if j = i then true else listed.getD j false) (fun j => if j = i then v else vs j) a n = acts l (fun j => (listed.setIfInBounds i true).getD j false) (fun j => if j = i then v else vs j) a n := by
          refine acts_congr n fun j hj => ⟨?_, fun _ => rfl⟩
          by_cases hji : j = i
          · subst hji
            rw [if_pos rfl]
            have : j < listed.size := by rw [inv.size]; simp; omega
            simp [this]
          · rw [if_neg hji, getD_set_ne false (Ne.symm hji)]
        rw [hcong]
        refine ih _ _ w2 ?_ (inv.set hi hin) hB2 (fun j hj hlj => ?_) (fun j k hj hk hlj hlk hjk => ?_)
        · have hsz : i < listed.size := by rw [inv.size]; simp; omega
          have := countP_one (f := fun j => !listed.getD j false) (g := fun j => !(listed.setIfInBounds i true).getD j false) (i := i) (by simp only [hunf]; rfl) (by simp [hsz]) (fun j hj => by simp only [getD_set_ne false (Ne.symm hj)]) n
          rw [if_pos hin] at this
          unfold left at hl ⊢
          omega
        · by_cases hji : j = i
          · subst hji
            rw [if_pos rfl]
            exact hRv
          · rw [if_neg hji]
            rw [getD_set_ne false (Ne.symm hji)] at hlj
            exact hext _ _ _ _ hE (hR j hj hlj)
        · by_cases hji : j = i
          · subst hji
            rw [if_pos rfl, if_neg (Ne.symm hjk)]
            rw [getD_set_ne false hjk] at hlk
            exact .inl (hDv k _ hk (Ne.symm hjk) (hR k hk hlk))
          · rw [if_neg hji]
            rw [getD_set_ne false (Ne.symm hji)] at hlj
            by_cases hki : k = i
            · subst hki
              rw [if_pos rfl]
              exact .inr (hDv j _ hj hji (hR j hj hlj))
            · rw [if_neg hki]
              rw [getD_set_ne false (Ne.symm hki)] at hlk
              exact hD j k hj hk hlj hlk hjk
      unfold wpOp
      rw [ho']
      unfold WpG at hst
      simp only
      split
      · rename_i hw
        rw [if_pos hw] at hst
        exact .inl (Oper.wp_mono (fun a' w2 h => hgo a' w2 h) hst)
      · rename_i hw
        rw [if_neg hw] at hst
        exact hgo _ _ hst
  have h0 : left n (Array.replicate l.length false) = n := by
    unfold left
    have : ((List.range n).countP fun i => !(Array.replicate l.length false).getD i false) = (List.range n).length := by
      rw [List.countP_eq_length]
      intro i _
      rw [getD_replicate_false]
      rfl
    rw [this, List.length_range]
  have hmain := main n (Array.replicate l.length false) (fun _ => undef) w.drew h0
    ⟨by simp, fun j oj _ hl => (by rw [getD_replicate_false] at hl; cases hl), fun t _ ht => getD_in (by simpa using ht) (getD_replicate_false _ _)⟩ hB0 (fun i _ hl => by rw [getD_replicate_false] at hl; cases hl) (fun i j _ _ hl => by rw [getD_replicate_false] at hl; cases hl)
  have e1 : acts l (fun i => (Array.replicate l.length false).getD i false) (fun _ => undef) a n = a := by
    have : ∀ k, acts l (fun i => (Array.replicate l.length false).getD i false) (fun _ => undef) a k = a := by
      intro k
      induction k with
      | zero => rfl
      | succ k ih => unfold acts; rw [if_neg (by rw [getD_replicate_false]; decide), ih]
    exact this n
  rw [e1, show n + (l.length - n) = l.length by omega] at hmain
  exact hmain
theorem wp_call_inv {o : Oper} {a : Act} {w : World} {K : Act → World → Prop} {Q : Exit → Act → World → Prop} (f : FuncId) (xs : Array Operand) (tys : Array TypeId)
    (ho : o.op = .call { callee := .value (.func f), args := xs, argTypes := tys }) (args : Array Value) (ha : xs.map a.eval = args) (hf : ∀ w, (callFunc f args).run P w = .ok (.enter f args) w) {Post : Value → World → Prop}
    (hc : Calls P f args w fun e w' => ∃ v, e = .returned v ∧ Post v w') (hK : ∀ v w', Post v w' → K (a.put o.dst v) w') : o.wp P a w K Q := by
  have he : (execOp a.eval o).run P w = .ok (.enter f args) w := by
    obtain ⟨d, op, ty, pos, aft, g⟩ := o
    simp only at ho
    subst ho
    have e : execOp a.eval { dst := d, op := .call { callee := .value (.func f), args := xs, argTypes := tys }, type := ty, pos := pos, after := aft, guard := g } = callFunc f (#[] ++ xs.map a.eval ++ #[]) := rfl
    rw [e, ha, Array.append_empty, Array.empty_append]
    exact hf w
  unfold Oper.wp
  rw [he]
  refine Calls.mono hc ?_
  rintro e w' ⟨v, rfl, hp⟩
  exact hK v w' hp
theorem wp_value_inv {o : Oper} {a : Act} {w w' : World} {K : Act → World → Prop} {Q : Exit → Act → World → Prop} (v : Value) (h : (execOp a.eval o).run P w = .ok (.value v) w') (hK : K (a.put o.dst v) w') : o.wp P a w K Q := by
  unfold Oper.wp
  rw [h]
  exact hK
end
end Go.Proofs.Ytdpaobflknkbkaa
namespace Go.Proofs.Ytdpaobflknkbkaa
open Go.RowKit Go.ChangeShapes
set_option linter.unusedVariables false
section
variable {P : Program} {w : World} {o : Oper} {a : Act}
theorem op_move {x : Operand} {v : Value} (ho : o.op = .move x) (hv : a.eval x = v) : (execOp a.eval o).run P w = .ok (.value v) w := by
  unfold execOp
  rw [ho]
  simp only [hv]
  rfl
theorem op_assign {x : Operand} {v : Value} (ho : o.op = .assign x) (hv : a.eval x = v) : (execOp a.eval o).run P w = .ok (.value v) w := by
  unfold execOp
  rw [ho]
  simp only [hv]
  rfl
theorem op_pick {c x y : Operand} {b : Bool} {v : Value} (ho : o.op = .pick c x y) (hc : a.eval c = .bool b) (hv : (if b = true then a.eval x else a.eval y) = v) : (execOp a.eval o).run P w = .ok (.value v) w := by
  unfold execOp
  rw [ho]
  simp only [hc, asBool, Sem.run_bind, Sem.run_pure, Result.andThen_ok, hv]
theorem op_bin {op : BinOp} {t t' : TypeId} {x y : Operand} {vx vy v : Value} (ho : o.op = .binOp op t x y t') (hx : a.eval x = vx) (hy : a.eval y = vy) (hg : (eqGuard op t x y vx vy).run P w = .ok () w) (hr : (binOp op t vx vy).run P w = .ok v w) : (execOp a.eval o).run P w = .ok (.value v) w := by
  unfold execOp
  rw [ho]
  simp only [hx, hy, Sem.run_bind, hg, hr, Result.andThen_ok]
  rfl
end
theorem op_rows {P : Program} {w w' : World} {o : Oper} {a : Act} {t : TypeId} {n : Nat} {ps : Array (Nat × Operand)} {vs : Array (Nat × Value)} {v : Value} (ho : o.op = .buildSlice t n ps) (hp : (ps.map fun x => (x.1, a.eval x.2)) = vs) (hr : (Instr.buildSlice t n vs).run P w = .ok v w') : (execOp a.eval o).run P w = .ok (.value v) w' := by
  subst hp
  unfold execOp
  rw [ho]
  simp only [Sem.run_bind]
  rw [hr]
  rfl
theorem wpList_load_row_g {P : Program} {ops : Array Oper} {rest : List Oper} {o : Oper} {a : Act} {w : World} {Q : Exit → Act → World → Prop} (hw : Region.wanted o (yielded ops a.tmps) = true) (ty : TypeId) (x : Operand) (ho : o.op = .load ty x)
    (g : Nat) (hx : a.eval x = .pointer (some ⟨g, 0, none⟩)) (t : TypeId) (cs : Array Value) (fr : Nat × Nat) (d : TypeDesc) (hg : w.heap[g]? = some (.cells cs t fr))
    (hu : P.underlying ty = some d) (hd : (match d with | .struct _ | .array _ _ => true | _ => false) = true) (hi : (P.info? ty).map (·.size) = some cs.size)
    (h : wpList P ops Q rest (a.put o.dst (.agg cs)) w) : wpList P ops Q (o :: rest) a w :=
  wpList_step fun _ hK => by
    rw [if_pos hw]
    exact wp_load_row ty x ho g hx t cs fr d hg hu hd hi (hK _ _ h)
theorem wpList_value {P : Program} {ops : Array Oper} {rest : List Oper} {o : Oper} {a : Act} {w : World} {Q : Exit → Act → World → Prop} (hgd : o.guard = none) (v : Value) (w' : World) (h : (execOp a.eval o).run P w = .ok (.value v) w')
    (hK : wpList P ops Q rest (a.put o.dst v) w') : wpList P ops Q (o :: rest) a w :=
  wpList_plain hgd fun _ hK' => wp_value_inv v h (hK' _ _ hK)
theorem op_build {P : Program} {w : World} {o : Oper} {a : Act} {t : TypeId} {ps : Array (Nat × Operand)} {vs : Array (Nat × Value)} {cells : Array Value} (ho : o.op = .build t ps) (hp : (ps.map fun x => (x.1, a.eval x.2)) = vs) (hc : P.built t vs.toList = some cells) : (execOp a.eval o).run P w = .ok (.value (.agg cells)) w := by
  subst hp
  unfold execOp
  rw [ho]
  simp only [Sem.run_bind, run_build w t _ cells hc, Result.andThen_ok]
  rfl
end Go.Proofs.Ytdpaobflknkbkaa
namespace Go.Proofs.Ytdpaobflknkbkaa
open Go.RowKit Go.ChangeShapes Go.WideMaps Go.Maps
set_option linter.unusedVariables false
def sameP (H1 : List UInt8) (N1 : ByteArray) (H2 : List UInt8) (N2 : ByteArray) : Bool := decide (H1 = H2 ∧ N1 = N2)
theorem sameP_refl (H : List UInt8) (N : ByteArray) : sameP H N H N = true := by simp [sameP]
theorem path_fields : (Try.prog.fieldsOf 43).toList.map (fun f => (f.name, f.type, f.offset)) = [("Hash", 41, 0), ("Name", 9, 20)] := by kernel_rfl
theorem path_part_hash (w : World) (H : List UInt8) (N : ByteArray) (h : H.length = 20) : (part 41 (pathC H N) 0).run Try.prog w = .ok (.agg (H.map bv).toArray) w := by
  simp only [part, Sem.run_bind, Try.isAgg41, Try.sizeOf41, Result.andThen_ok, if_true, Sem.run_pure]
  congr 2
  apply Array.ext'
  simp only [pathC, Array.toList_extract, List.extract_eq_take_drop, List.drop_zero, Nat.zero_add, Nat.sub_zero]
  rw [List.take_append_of_le_length (by simp [h]), List.take_of_length_le (by simp [h])]
theorem path_part_name (w : World) (H : List UInt8) (N : ByteArray) (h : H.length = 20) : (part 9 (pathC H N) 20).run Try.prog w = .ok (.string N) w := by
  have e := pathC_name H h N
  simp [part, Try.isAgg9, e]
theorem eqFields_cons {P : Program} (w : World) (d : Nat) (xs ys : Array Value) (f : Field) (fs : List Field) (hn : f.name ≠ "_") (a b : Value) (r : Bool) (h1 : (part f.type xs f.offset).run P w = .ok a w) (h2 : (part f.type ys f.offset).run P w = .ok b w)
    (h3 : (Op.equalIn d f.type a b).run P w = .ok r w) : (Op.eqFields d xs ys (f :: fs)).run P w = if r = true then (Op.eqFields d xs ys fs).run P w else .ok false w := by
  rw [Op.eqFields, if_pos hn]
  simp only [Sem.run_bind, h1, h2, h3, Result.andThen_ok]
  cases r
  · simp
  · simp
theorem two_of_map {α β : Type} {g : α → β} {l : List α} {x y : β} (h : l.map g = [x, y]) : ∃ a b, l = [a, b] ∧ g a = x ∧ g b = y := by
  have hl := congrArg List.length h
  rw [List.length_map] at hl
  match l, hl with
  | [a, b], _ =>
    simp only [List.map_cons, List.map_nil, List.cons.injEq, and_true] at h
    exact ⟨a, b, rfl, h.1, h.2⟩
theorem run_equalIn_pathD (d : Nat) (w : World) (H1 : List UInt8) (N1 : ByteArray) (H2 : List UInt8) (N2 : ByteArray) (h1 : H1.length = 20) (h2 : H2.length = 20) :
    (Op.equalIn (d + 3) 43 (.agg (pathC H1 N1)) (.agg (pathC H2 N2))).run Try.prog w = .ok (sameP H1 N1 H2 N2) w := by
  rw [run_equalIn_struct w (d + 2) 43 _ _ (by kernel_rfl) (by kernel_rfl)]
  obtain ⟨f1, f2, hf, a, b⟩ := two_of_map path_fields
  simp only [Prod.mk.injEq] at a b
  obtain ⟨n1, t1, o1⟩ := a
  obtain ⟨n2, t2, o2⟩ := b
  have n1 : f1.name ≠ "_" := by rw [n1]; decide
  have n2 : f2.name ≠ "_" := by rw [n2]; decide
  rw [hf]
  have e1 := run_equalIn_bytes (P := Try.prog) w d 41 5 20 Try.underlying41 Try.underlying5 (fun w => by kernel_rfl) H1 H2 h1 h2
  have e1 : (Op.equalIn (d + 2) 41 (.agg (H1.map bv).toArray) (.agg (H2.map bv).toArray)).run Try.prog w = .ok (H1 == H2) w := e1
  have e2 := run_equalIn_string (P := Try.prog) w (d + 1) 9 N1 N2 Try.underlying9
  rw [eqFields_cons w (d + 2) _ _ f1 [f2] n1 (.agg (H1.map bv).toArray) (.agg (H2.map bv).toArray) (H1 == H2) (by rw [t1, o1]; exact path_part_hash w _ _ h1) (by rw [t1, o1]; exact path_part_hash w _ _ h2) (by rw [t1]; exact e1),
    eqFields_cons w (d + 2) _ _ f2 [] n2 (.string N1) (.string N2) (N1.toList == N2.toList) (by rw [t2, o2]; exact path_part_name w _ _ h1) (by rw [t2, o2]; exact path_part_name w _ _ h2) (by rw [t2]; exact e2)]
  have hr : sameP H1 N1 H2 N2 = ((H1 == H2) && (N1.toList == N2.toList)) := by
    rw [Bool.eq_iff_iff, Bool.and_eq_true, beq_iff_eq, beq_iff_eq, sameP, decide_eq_true_iff]
    refine ⟨fun ⟨a, b⟩ => ⟨a, by rw [b]⟩, fun ⟨a, b⟩ => ⟨a, ?_⟩⟩
    rw [Go.ByteArray.toList_eq, Go.ByteArray.toList_eq] at b
    exact ByteArray.ext (Array.toList_inj.1 b)
  rw [hr]
  have hnil : (Op.eqFields (d + 2) (pathC H1 N1) (pathC H2 N2) []).run Try.prog w = .ok true w := rfl
  rw [hnil]
  cases (H1 == H2)
  · rfl
  · cases (N1.toList == N2.toList)
    · rfl
    · rfl
theorem run_equalIn_path (w : World) (H1 : List UInt8) (N1 : ByteArray) (H2 : List UInt8) (N2 : ByteArray) (h1 : H1.length = 20) (h2 : H2.length = 20) :
    (Op.equalIn 10000 43 (.agg (pathC H1 N1)) (.agg (pathC H2 N2))).run Try.prog w = .ok (sameP H1 N1 H2 N2) w := by
  rw [show Op.equalIn 10000 = Op.equalIn (9997 + 3) from rfl]
  exact run_equalIn_pathD 9997 w H1 N1 H2 N2 h1 h2
theorem run_eql_path (w : World) (H1 : List UInt8) (N1 : ByteArray) (H2 : List UInt8) (N2 : ByteArray) (h1 : H1.length = 20) (h2 : H2.length = 20) :
    (binOp .eql 43 (.agg (pathC H1 N1)) (.agg (pathC H2 N2))).run Try.prog w = .ok (.bool (sameP H1 N1 H2 N2)) w := by
  rw [run_eql_struct, run_equalIn_path w H1 N1 H2 N2 h1 h2]
  rfl
theorem run_neq_path (w : World) (H1 : List UInt8) (N1 : ByteArray) (H2 : List UInt8) (N2 : ByteArray) (h1 : H1.length = 20) (h2 : H2.length = 20) :
    (binOp .neq 43 (.agg (pathC H1 N1)) (.agg (pathC H2 N2))).run Try.prog w = .ok (.bool (!sameP H1 N1 H2 N2)) w := by
  rw [run_neq_struct, run_equalIn_path w H1 N1 H2 N2 h1 h2]
  rfl
theorem guard_path (w : World) (op : BinOp) (x y : Operand) (A Bb : Array Value) : (eqGuard op 43 x y (.agg A) (.agg Bb)).run Try.prog w = .ok () w := run_eqGuard_agg w op _ x y A Bb (by kernel_rfl)
theorem laidOutP : laidOutB Try.prog = true := by kernel_rfl
end Go.Proofs.Ytdpaobflknkbkaa
namespace Go.Proofs.Ytdpaobflknkbkaa
open Go.RowKit Go.ChangeShapes Go.WideShapes Go.Deep
set_option linter.unusedVariables false
structure PathX where
  h : List UInt8
  n : ByteArray
  hl : h.length = 20
instance : Inhabited PathX := ⟨⟨List.replicate 20 0, ⟨#[]⟩, rfl⟩⟩
theorem PathX.ext {x y : PathX} (h1 : x.h = y.h) (h2 : x.n = y.n) : x = y := by
  obtain ⟨a, b, c⟩ := x
  obtain ⟨a', b', c'⟩ := y
  simp only at h1 h2
  subst h1
  subst h2
  rfl
instance : DecidableEq PathX := fun x y =>
  if h : x.h = y.h ∧ x.n = y.n then .isTrue (PathX.ext h.1 h.2) else .isFalse (fun e => h (by rw [e]; exact ⟨rfl, rfl⟩))
def cellsX (x : PathX) : List Value := x.h.map bv ++ [Value.string x.n]
theorem cellsX_length (x : PathX) : (cellsX x).length = 21 := by simp [cellsX, x.hl]
theorem cellsX_one (x : PathX) : ∀ v ∈ cellsX x, v.oneCell' = true := by
  intro v hv
  rcases List.mem_append.1 hv with h | h
  · exact bv_one _ v h
  · obtain rfl := List.mem_singleton.1 h
    rfl
theorem cellsX_C (x : PathX) : (cellsX x).toArray = pathC x.h x.n := rfl
theorem Fr.range {S : Nat → Prop} {w w' : World} {b o : Nat} {cs : List Value} (hf : Fr S w w') (h : w.rangeAt b o cs) (hb : ¬ S b) : w'.rangeAt b o cs := fun j v hv => by
  exact hf.cell (h j v hv) hb
theorem Try.cellsS : Try.prog.cellsOf 9 = 1 := by kernel_rfl
section
variable {H : Type} {enc : TypeId × Value → H} {w : World} {base fuel : Nat} {held : Bool} {cs : List Value} {x : DataW H × List MemPlace}
end
end Go.Proofs.Ytdpaobflknkbkaa
namespace Go.Proofs.Ytdpaobflknkbkaa
open Go.RowKit Go.ChangeShapes Go.WideMaps Go.Maps
set_option linter.unusedVariables false
set_option maxRecDepth 100000 in
theorem keyLits_str (m : Nat) (s : ByteArray) (h : s.size ≤ maxLen) : Try.prog.keyLits (m + 1) 9 [.string s] = some [.string s.data.toList] := by
  simp [Program.keyLits, Try.underlying9, h]
end Go.Proofs.Ytdpaobflknkbkaa
namespace Go.Proofs.Ytdpaobflknkbkaa
set_option linter.unusedVariables false
abbrev Bs := List UInt8
abbrev VT (α : Type) := List (Bs × α)
abbrev VOk {α : Type} (M : VT α) : Prop := M.Pairwise (fun p q => p.1 < q.1)
def vGet {α : Type} (M : VT α) (k : Bs) : Option α := (M.find? (fun p => p.1 == k)).map (·.2)
def vDel {α : Type} (M : VT α) (k : Bs) : VT α := M.filter (fun p => p.1 != k)
def vPut {α : Type} : VT α → Bs → α → VT α
  | [], k, v => [(k, v)]
  | p :: r, k, v => if k < p.1 then (k, v) :: p :: r else if p.1 = k then (k, v) :: r else p :: vPut r k v
theorem bs_lt_or {a b : Bs} (h : ¬ a < b) (hn : b ≠ a) : b < a := by
  by_cases hb : b < a
  · exact hb
  · exact absurd (List.le_antisymm (List.not_lt.1 h) (List.not_lt.1 hb)) hn
theorem bs_ne {a b : Bs} (h : a < b) : a ≠ b := fun e => by subst e; exact List.lt_irrefl a h
section
variable {α : Type}
theorem vGet_nil (k : Bs) : vGet ([] : VT α) k = none := rfl
theorem vGet_cons (p : Bs × α) (M : VT α) (k : Bs) : vGet (p :: M) k = if p.1 = k then some p.2 else vGet M k := by
  unfold vGet
  rw [List.find?_cons]
  by_cases h : p.1 = k
  · simp [h]
  · have : (p.1 == k) = false := by simpa using h
    simp [h, this]
theorem vGet_mem {M : VT α} {k : Bs} {v : α} (h : vGet M k = some v) : (k, v) ∈ M := by
  unfold vGet at h
  cases hf : M.find? (fun p => p.1 == k) with
  | none => rw [hf] at h; cases h
  | some p =>
    rw [hf] at h
    simp only [Option.map_some, Option.some.injEq] at h
    have h1 := List.find?_some hf
    have h2 := List.mem_of_find?_eq_some hf
    simp only [beq_iff_eq] at h1
    subst h1; subst h
    exact h2
theorem vGet_none {M : VT α} {k : Bs} : vGet M k = none ↔ ∀ p ∈ M, p.1 ≠ k := by
  unfold vGet
  rw [Option.map_eq_none_iff, List.find?_eq_none]
  simp
theorem vGet_of_mem {M : VT α} (hM : VOk M) {p : Bs × α} (h : p ∈ M) : vGet M p.1 = some p.2 := by
  induction M with
  | nil => cases h
  | cons q M ih =>
    rw [vGet_cons]
    rcases List.mem_cons.1 h with rfl | h
    · rw [if_pos rfl]
    · have h1 := List.pairwise_cons.1 hM
      rw [if_neg (bs_ne (h1.1 p h))]
      exact ih h1.2 h
theorem vDel_none {M : VT α} {k : Bs} (h : vGet M k = none) : vDel M k = M := by
  rw [vDel, List.filter_eq_self]
  intro p hp
  simpa using vGet_none.1 h p hp
theorem vGet_del_same (M : VT α) (k : Bs) : vGet (vDel M k) k = none := by
  rw [vGet_none]
  intro p hp
  have := (List.mem_filter.1 hp).2
  simpa using this
theorem vGet_del_other {M : VT α} {k j : Bs} (h : j ≠ k) : vGet (vDel M k) j = vGet M j := by
  induction M with
  | nil => rfl
  | cons p M ih =>
    by_cases hp : p.1 = k
    · have e : vDel (p :: M) k = vDel M k := by simp [vDel, hp]
      rw [e, ih, vGet_cons, if_neg (fun e => h (by rw [← e, hp]))]
    · have e : vDel (p :: M) k = p :: vDel M k := by simp [vDel, hp]
      rw [e, vGet_cons, vGet_cons, ih]
theorem VOk.del {M : VT α} (h : VOk M) (k : Bs) : VOk (vDel M k) := h.filter _
theorem vPut_keys {M : VT α} {k : Bs} {v : α} {p : Bs × α} (h : p ∈ vPut M k v) : p = (k, v) ∨ p ∈ M := by
  induction M with
  | nil => simp [vPut] at h; exact .inl h
  | cons q M ih =>
    unfold vPut at h
    split at h
    · rcases List.mem_cons.1 h with h | h
      · exact .inl h
      · exact .inr h
    · split at h
      · rcases List.mem_cons.1 h with h | h
        · exact .inl h
        · exact .inr (List.mem_cons_of_mem _ h)
      · rcases List.mem_cons.1 h with h | h
        · exact .inr (h ▸ List.mem_cons_self)
        · exact (ih h).imp id (List.mem_cons_of_mem _)
theorem VOk.put {M : VT α} (h : VOk M) (k : Bs) (v : α) : VOk (vPut M k v) := by
  induction M with
  | nil => simp [vPut, VOk]
  | cons q M ih =>
    have h1 := List.pairwise_cons.1 h
    unfold vPut
    split
    · next hlt =>
      refine List.pairwise_cons.2 ⟨fun p hp => ?_, h⟩
      rcases List.mem_cons.1 hp with rfl | hp
      · exact hlt
      · exact List.lt_trans hlt (h1.1 p hp)
    · next hnl =>
      split
      · next he => exact List.pairwise_cons.2 ⟨fun p hp => by rw [← he]; exact h1.1 p hp, h1.2⟩
      · next hne =>
        refine List.pairwise_cons.2 ⟨fun p hp => ?_, ih h1.2⟩
        rcases vPut_keys hp with rfl | hp
        · exact bs_lt_or hnl hne
        · exact h1.1 p hp
theorem vGet_put_same (M : VT α) (k : Bs) (v : α) : vGet (vPut M k v) k = some v := by
  induction M with
  | nil => simp [vPut, vGet_cons]
  | cons q M ih =>
    unfold vPut
    split
    · rw [vGet_cons, if_pos rfl]
    · split
      · rw [vGet_cons, if_pos rfl]
      · next hne => rw [vGet_cons, if_neg hne, ih]
theorem vGet_put_other {M : VT α} {k j : Bs} {v : α} (h : j ≠ k) : vGet (vPut M k v) j = vGet M j := by
  induction M with
  | nil => rw [vPut, vGet_cons, if_neg (fun e => h e.symm)]
  | cons q M ih =>
    unfold vPut
    split
    · rw [vGet_cons, if_neg (fun e => h e.symm)]
    · split
      · next he => rw [vGet_cons, vGet_cons, if_neg (fun e => h e.symm), if_neg (fun e => h (by rw [← e, he]))]
      · rw [vGet_cons, vGet_cons, ih]
theorem vDel_len {M : VT α} (h : VOk M) {k : Bs} (hg : (vGet M k).isSome = true) : (vDel M k).length + 1 = M.length := by
  induction M with
  | nil => cases hg
  | cons p M ih =>
    have h1 := List.pairwise_cons.1 h
    rw [vGet_cons] at hg
    by_cases e : p.1 = k
    · have e2 : vDel (p :: M) k = M := by
        have : vDel (p :: M) k = vDel M k := by simp [vDel, e]
        rw [this]
        exact vDel_none (vGet_none.2 fun r hr => by rw [← e]; exact (bs_ne (h1.1 r hr)).symm)
      rw [e2, List.length_cons]
    · rw [if_neg e] at hg
      have e2 : vDel (p :: M) k = p :: vDel M k := by simp [vDel, e]
      have := ih h1.2 hg
      rw [e2, List.length_cons, List.length_cons]
      omega
theorem vPut_len {M : VT α} (h : VOk M) (k : Bs) (v : α) : (vPut M k v).length = M.length + (if (vGet M k).isSome = true then 0 else 1) := by
  induction M with
  | nil => simp [vPut, vGet_nil]
  | cons p M ih =>
    have h1 := List.pairwise_cons.1 h
    have := ih h1.2
    unfold vPut
    split
    · next hlt =>
      have hn : vGet (p :: M) k = none := vGet_none.2 fun r hr => by
        rcases List.mem_cons.1 hr with rfl | hr
        · exact (bs_ne hlt).symm
        · exact (bs_ne (List.lt_trans hlt (h1.1 r hr))).symm
      rw [hn]
      simp
    · split
      · next he => rw [vGet_cons, if_pos he]; simp
      · next hne =>
        rw [vGet_cons, if_neg hne, List.length_cons, this, List.length_cons]
        omega
theorem vDel_le (M : VT α) (k : Bs) : (vDel M k).length ≤ M.length := List.length_filter_le _ _
def vKeys (M : VT α) (P : Bs) : List Bs := (M.filter (fun p => Lib.hasPrefix p.1 P)).map (·.1)
theorem vKeys_mem {M : VT α} {P k : Bs} : k ∈ vKeys M P ↔ (vGet M k).isSome = true ∧ Lib.hasPrefix k P = true := by
  unfold vKeys
  rw [List.mem_map]
  constructor
  · rintro ⟨p, hp, rfl⟩
    obtain ⟨h1, h2⟩ := List.mem_filter.1 hp
    refine ⟨?_, h2⟩
    cases h : vGet M p.1 with
    | none => exact absurd rfl (vGet_none.1 h p h1)
    | some b => rfl
  · rintro ⟨h1, h2⟩
    obtain ⟨b, hb⟩ := Option.isSome_iff_exists.1 h1
    exact ⟨(k, b), List.mem_filter.2 ⟨vGet_mem hb, h2⟩, rfl⟩
theorem vKeys_asc {M : VT α} (h : VOk M) (P : Bs) : (vKeys M P).Pairwise (· < ·) := by
  unfold vKeys
  rw [List.pairwise_map]
  exact h.filter _
theorem vKeys_le (M : VT α) (P : Bs) : (vKeys M P).length ≤ M.length := by unfold vKeys; rw [List.length_map]; exact List.length_filter_le _ _
end
end Go.Proofs.Ytdpaobflknkbkaa
