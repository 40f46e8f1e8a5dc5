/- Laid together: DNew Inv Wide DIter -/
import Derived.Test.YtcbbcihfooaggaaBk0
import Derived.Test.YtcbbcihfooaggaaRows
import Derived.StillTail
import Derived.WalkKit
import Derived.RangeFuncNested
import Derived.RangeFuncBound
import Derived.OwnWalkIn
import Derived.TacticsInMore
import Derived.LoopIn
import Derived.LoopNIn
import Derived.Laws.Rows
import Derived.Deep.WholeRow
import Derived.Deep.MidRow
import Derived.StillTailTactics

namespace Go.Proofs.Ytcbbcihfooaggaa
open Go.RowKit Go.ChangeShapes
set_option linter.unusedVariables false
theorem Try.infoSec : (Try.prog.info? 104).map (fun i => (i.zero, i.size, i.bytes)) = some (some (.agg (Array.replicate 64 (.int .u8 0))), 64, 64) := by kernel_rfl
theorem run_make_secs (w : World) (m : Int) (s : Nat) (hm : m = s) (hs : s ≤ 8192) :
    (Instr.makeSlice 87 (.int .i64 m) (.int .i64 m)).run Try.prog w = .ok (.slice (some ⟨w.heap.size, 0, none⟩) s s) (w.alloc (.cells ((List.replicate (64 * s) (0 : UInt8)).map bv).toArray 104)) := by
  subst hm
  obtain ⟨i0, hi, hz0, hz1, hz2⟩ := info_parts Try.infoSec
  have h := run_make (P := Try.prog) w 87 104 i0 (.agg (Array.replicate 64 (.int .u8 0))) Try.underlying87 hi hz0 .i64 .i64 (s : Int) (s : Int) (by omega) (Int.le_refl _) (by rw [hz2]; omega) (by omega)
  rw [h, hz1, Int.toNat_natCast]
  have e : madeCells (Value.agg (Array.replicate 64 (.int .u8 0))).cells (s * 64) = ((List.replicate (64 * s) (0 : UInt8)).map bv).toArray := by
    apply Array.ext
    · simp [madeCells]
      omega
    · intro k h1 h2
      have hk : k % 64 < 64 := Nat.mod_lt _ (by decide)
      simp [madeCells, Value.cells, hk, bv]
  rw [e]
theorem dNew_yes (w : World) (s : Nat) (h1 : 1 ≤ s) (h2 : s ≤ 8192) :
    Calls Try.prog 19 #[.int .i64 s] w fun e w' => ∃ g kb, e = .returned (.tuple #[.pointer (some ⟨g, 0, none⟩), .int .i64 0]) ∧ w.heap.size ≤ g ∧ w.heap.size ≤ kb ∧ g ≠ kb ∧ DvH w' g kb s (.slice none 0 0) 0 0 false ∧ BytT w' kb 104 (List.replicate (64 * s) 0) ∧ Fr (fun _ => False) w w' := by
  have hmk := fun W => run_make_secs W (s : Int) s rfl h2
  have h3 : decide ((s : Int) < 1) = false := by rw [decide_eq_false_iff_not]; omega
  have h4 : decide (8192 < (s : Int)) = false := by rw [decide_eq_false_iff_not]; omega
  obtain ⟨Z, hZ⟩ : ∃ Z, Z = ((List.replicate (64 * s) (0 : UInt8)).map bv).toArray := ⟨_, rfl⟩
  rw [← hZ] at hmk
  have HZ := Lib.hid hZ
  clear hZ
  go_enter Try.func19, Try.ntmps19
  go_wp2
  go_ret2
  refine ⟨w.heap.size + 1, w.heap.size, rfl, by omega, Nat.le_refl _, by omega, ?_, ?_, ((Fr.refl _ _).alloc _).alloc _⟩
  · exact heap_alloc2_new w _ _
  · rw [HZ.out]; exact heap_alloc2_old w _ _
end Go.Proofs.Ytcbbcihfooaggaa
namespace Go.Proofs.Ytcbbcihfooaggaa
open Go.RowKit
set_option linter.unusedVariables false
section
variable {P : Program}
def dstAt (l : List Oper) (i : Nat) : Option Tmp := (l[i]?).bind (·.dst)
def acts (l : List Oper) (lst : Nat → Bool) (vs : Nat → Value) (a0 : Act) : Nat → Act
  | 0 => a0
  | k + 1 => if lst k then (acts l lst vs a0 k).put (dstAt l k) (vs k) else acts l lst vs a0 k
def untouched (l : List Oper) (n : Nat) (t : Tmp) : Bool := (List.range n).all fun j => dstAt l j != some t
def waitsOn (o : Oper) (j : Nat) : Bool := o.after.any fun e => Region.binds .any e && e.on == j
def WpG (P : Program) (l : List Oper) (o : Oper) (a : Act) (w : World) (K : Act → World → Prop) (Q : Exit → Act → World → Prop) : Prop :=
  if Region.wanted o (yielded l.toArray a.tmps) = true then o.wp P a w K Q else K (a.put o.dst undef) w
theorem wpG_plain {l : List Oper} {o : Oper} {a : Act} {w : World} {K : Act → World → Prop} {Q : Exit → Act → World → Prop} (hg : o.guard = none) (h : o.wp P a w K Q) : WpG P l o a w K Q := by
  unfold WpG
  rw [if_pos (by simp [Region.wanted, hg])]
  exact h
theorem wpG_yes {l : List Oper} {o : Oper} {a : Act} {w : World} {K : Act → World → Prop} {Q : Exit → Act → World → Prop} (g : Nat) (b : Bool) (t : Tmp) (hg : o.guard = some (g, b)) (ht : dstAt l g = some t) (hs : t < a.tmps.size) (he : a.eval (.tmp t) = .bool b)
    (h : o.wp P a w K Q) : WpG P l o a w K Q := by
  unfold WpG
  have hy : yielded l.toArray a.tmps g = some b := by
    have h1 : (l.toArray[g]?.bind fun x => x.dst) = some t := by simpa [dstAt] using ht
    have h2 : a.tmps[t]? = some (.bool b) := by
      have h3 : a.tmps.getD t undef = .bool b := he
      rw [Array.getElem?_eq_getElem hs]
      simpa [hs] using h3
    unfold yielded
    rw [h1]
    simp only [Option.bind_some, h2]
  rw [if_pos (by simp [Region.wanted, hg, hy])]
  exact h
theorem wpG_no {l : List Oper} {o : Oper} {a : Act} {w : World} {K : Act → World → Prop} {Q : Exit → Act → World → Prop} (g : Nat) (b : Bool) (t : Tmp) (hg : o.guard = some (g, b)) (ht : dstAt l g = some t) (hs : t < a.tmps.size) (he : a.eval (.tmp t) = .bool (!b))
    (h : K (a.put o.dst undef) w) : WpG P l o a w K Q := by
  unfold WpG
  have hy : yielded l.toArray a.tmps g = some (!b) := by
    have h1 : (l.toArray[g]?.bind fun x => x.dst) = some t := by simpa [dstAt] using ht
    have h2 : a.tmps[t]? = some (.bool (!b)) := by
      have h3 : a.tmps.getD t undef = .bool (!b) := he
      rw [Array.getElem?_eq_getElem hs]
      simpa [hs] using h3
    unfold yielded
    rw [h1]
    simp only [Option.bind_some, h2]
  rw [if_neg (by simp [Region.wanted, hg, hy])]
  exact h
def InvStep (P : Program) (l : List Oper) (n : Nat) (Q : Exit → Act → World → Prop) (B : World → Prop) (R : Nat → Value → World → Prop) (D : Nat → Nat → Value → Value → Prop) (Ext : World → World → Prop) (a0 : Act) (i : Nat) (o : Oper) : Prop :=
  ∀ (a : Act) (w : World) (vs : Nat → Value), B w → a.tmps.size = a0.tmps.size →
    (∀ j t, waitsOn o j = true → dstAt l j = some t → R j (vs j) w ∧ a.eval (.tmp t) = vs j) →
    (∀ t, untouched l n t = true → a.eval (.tmp t) = a0.eval (.tmp t)) →
    WpG P l o a w (fun a' w' => ∃ v, a' = a.put o.dst v ∧ B w' ∧ Ext w w' ∧ R i v w' ∧ ∀ j u, j < n → j ≠ i → R j u w → D i j v u) Q
def invB (l : List Oper) (n size : Nat) : Bool :=
  decide (n ≤ l.length) &&
  ((List.range n).all fun i => match l[i]? with
    | some o => (o.after.all fun e => !Region.binds .any e || decide (e.on < i)) && (match o.dst with | some d => decide (d < size) | none => true)
    | none => false) &&
  ((List.range n).all fun i => (List.range n).all fun j => decide (i = j) || (match dstAt l i, dstAt l j with | some x, some y => decide (x ≠ y) | _, _ => true)) &&
  (decide (n = l.length) || (Region.sinkB .any l.toArray n && Region.chainB .any l.toArray n && decide (n < l.length))) &&
  Region.seqB .any l.toArray (l.length - n) n (List.replicate n true ++ List.replicate (l.length - n) false).toArray
theorem acts_congr {l : List Oper} {f g : Nat → Bool} {vs us : Nat → Value} {a0 : Act} : ∀ (k : Nat), (∀ j, j < k → f j = g j ∧ (f j = true → vs j = us j)) → acts l f vs a0 k = acts l g us a0 k
  | 0, _ => rfl
  | k + 1, h => by
    have ih := acts_congr (l := l) (a0 := a0) k (fun j hj => h j (by omega))
    obtain ⟨h1, h2⟩ := h k (by omega)
    unfold acts
    rw [ih, ← h1]
    by_cases hk : f k = true
    · rw [if_pos hk, if_pos hk, h2 hk]
    · rw [if_neg hk, if_neg hk]
theorem acts_put {l : List Oper} {f : Nat → Bool} {vs : Nat → Value} {a0 : Act} {i : Nat} {v : Value} (hf : f i = false) : ∀ (k : Nat), i < k →
    (∀ j, j < k → j ≠ i → ∀ d, dstAt l i = some d → dstAt l j ≠ some d) →
    acts l (fun j => if j = i then true else f j) (fun j => if j = i then v else vs j) a0 k = (acts l f vs a0 k).put (dstAt l i) v
  | 0, h, _ => by omega
  | k + 1, h, hd => by
    by_cases hk : k = i
    · subst hk
      have e := acts_congr (l := l) (a0 := a0) (f := fun j => if j = k then true else f j) (g := f) (vs := fun j => if j = k then v else vs j) (us := vs) k (fun j hj => ⟨if_neg (by omega), fun _ => if_neg (by omega)⟩)
      simp only [acts, if_true, hf, Bool.false_eq_true, if_false]
      rw [e]
    · have ih := acts_put (vs := vs) (a0 := a0) (v := v) hf k (by omega) (fun j hj hji => hd j (by omega) hji)
      unfold acts
      rw [ih]
      simp only [if_neg hk]
      by_cases hfk : f k = true
      · rw [if_pos hfk, if_pos hfk]
        exact Act.put_comm _ _ _ (fun d hx => hd k (by omega) hk d hx)
      · rw [if_neg hfk, if_neg hfk]
theorem put_size (a : Act) (d : Option Tmp) (v : Value) : (a.put d v).tmps.size = a.tmps.size := by
  cases d <;> simp [Act.put]
theorem acts_size {l : List Oper} {f : Nat → Bool} {vs : Nat → Value} {a0 : Act} : ∀ k, (acts l f vs a0 k).tmps.size = a0.tmps.size
  | 0 => rfl
  | k + 1 => by
    unfold acts
    split
    · rw [put_size, acts_size k]
    · exact acts_size k
theorem eval_put_ne {a : Act} {d : Option Tmp} {v : Value} {t : Tmp} (h : d ≠ some t) : (a.put d v).eval (.tmp t) = a.eval (.tmp t) :=
  Act.eval_put fun d' hd e => h (by rw [hd]; injection e with e; rw [e])
theorem eval_put_eq {a : Act} {v : Value} {t : Tmp} (h : t < a.tmps.size) : (a.put (some t) v).eval (.tmp t) = v := by
  simp [Act.put, Act.eval, h]
theorem acts_eval_ne {l : List Oper} {f : Nat → Bool} {vs : Nat → Value} {a0 : Act} {t : Tmp} : ∀ k, (∀ j, j < k → dstAt l j ≠ some t) → (acts l f vs a0 k).eval (.tmp t) = a0.eval (.tmp t)
  | 0, _ => rfl
  | k + 1, h => by
    unfold acts
    split
    · rw [eval_put_ne (h k (by omega)), acts_eval_ne k (fun j hj => h j (by omega))]
    · exact acts_eval_ne k (fun j hj => h j (by omega))
theorem acts_eval_eq {l : List Oper} {f : Nat → Bool} {vs : Nat → Value} {a0 : Act} {t : Tmp} {i : Nat} (hi : f i = true) (ht : dstAt l i = some t) (hs : t < a0.tmps.size) : ∀ k, i < k →
    (∀ j, j < k → j ≠ i → dstAt l j ≠ some t) → (acts l f vs a0 k).eval (.tmp t) = vs i
  | 0, h, _ => by omega
  | k + 1, h, hd => by
    unfold acts
    by_cases hk : k = i
    · subst hk
      rw [if_pos hi, ht, eval_put_eq (by rw [acts_size]; exact hs)]
    · have ih := acts_eval_eq (vs := vs) hi ht hs k (by omega) (fun j hj hji => hd j (by omega) hji)
      split
      · rw [eval_put_ne (hd k (by omega) hk), ih]
      · exact ih
def left (n : Nat) (listed : Array Bool) : Nat := (List.range n).countP fun i => !listed.getD i false
theorem countP_one {f g : Nat → Bool} {i : Nat} (hf : f i = true) (hg : g i = false) (he : ∀ j, j ≠ i → f j = g j) : ∀ n, (List.range n).countP f = (List.range n).countP g + (if i < n then 1 else 0)
  | 0 => by simp
  | n + 1 => by
    rw [List.range_succ, List.countP_append, List.countP_append, countP_one hf hg he n]
    by_cases h : n = i
    · subst h
      simp [hf, hg]
    · have := he n h
      simp only [List.countP_cons, List.countP_nil, this]
      by_cases h2 : i < n
      · have h3 : i < n + 1 := by omega
        simp only [h2, h3, if_true]
        omega
      · have h3 : ¬ i < n + 1 := by omega
        simp only [h2, h3, if_false]
        omega
theorem countP_zero {f : Nat → Bool} : ∀ n, (List.range n).countP f = 0 → ∀ i, i < n → f i = false
  | 0, _, i, h => by omega
  | n + 1, hc, i, h => by
    rw [List.range_succ, List.countP_append] at hc
    by_cases hi : i = n
    · subst hi
      by_cases hf : f i = true
      · simp [hf] at hc
      · simpa using hf
    · exact countP_zero n (by omega) i (by omega)
theorem least {p : Nat → Prop} (n : Nat) (hn : p n) : ∃ m, p m ∧ ∀ j, j < m → ¬ p j := by
  induction n using Nat.strongRecOn with
  | _ n ih =>
    by_cases h : ∃ j, j < n ∧ p j
    · obtain ⟨j, hj, hp⟩ := h
      exact ih j hj hp
    · exact ⟨n, hn, fun j hj hp => h ⟨j, hj, hp⟩⟩
theorem wp_region_inv {id : Nat} {Q : Exit → Act → World → Prop} {a : Act} {w : World} {l : List Oper} (n : Nat) (hm : P.follows .mixedOrders = true) (hB : invB l n a.tmps.size = true)
    (B : World → Prop) (R : Nat → Value → World → Prop) (D : Nat → Nat → Value → Value → Prop) (Ext : World → World → Prop) (hext : ∀ j u w w', Ext w w' → R j u w → R j u w') (hB0 : B w.drew)
    (hstep : ∀ i, i < n → ∀ o, l[i]? = some o → InvStep P l n Q B R D Ext a i o)
    (htail : ∀ vs w', B w' → (∀ i, i < n → R i (vs i) w') → (∀ i j, i < n → j < n → i ≠ j → D i j (vs i) (vs j) ∨ D j i (vs j) (vs i)) → wpList P l.toArray Q (l.drop n) (acts l (fun _ => true) vs a n) w') : (Code.region id l.toArray true).wp P Q a w := by
  simp only [invB, Bool.and_eq_true, decide_eq_true_eq, Bool.or_eq_true] at hB
  obtain ⟨⟨⟨⟨hn, hops⟩, hdst⟩, hwait⟩, hseq⟩ := hB
  have hop : ∀ i, i < n → ∃ o, l[i]? = some o ∧ (∀ e ∈ o.after, Region.binds .any e = true → e.on < i) ∧ (∀ d, o.dst = some d → d < a.tmps.size) := by
    intro i hi
    have h := List.all_eq_true.1 hops i (List.mem_range.2 hi)
    cases ho : l[i]? with
    | none => rw [ho] at h; cases h
    | some o =>
      rw [ho] at h
      simp only [Bool.and_eq_true] at h
      obtain ⟨h2, h3⟩ := h
      refine ⟨o, rfl, fun e he hb => ?_, fun d hd => ?_⟩
      · have := Array.all_eq_true_iff_forall_mem.1 h2 e he
        rw [hb] at this
        simpa using this
      · rw [hd] at h3
        simpa using h3
  have hdis : ∀ i j, i < n → j < n → j ≠ i → ∀ d, dstAt l i = some d → dstAt l j ≠ some d := by
    intro i j hi hj hji d hd hd2
    have h := List.all_eq_true.1 (List.all_eq_true.1 hdst i (List.mem_range.2 hi)) j (List.mem_range.2 hj)
    rw [hd, hd2] at h
    simp at h
    omega
  refine wp_region_any hm ?_
  have main : ∀ (m : Nat) (listed : Array Bool) (vs : Nat → Value) (w' : World), left n listed = m → HeadInv .any l.toArray n listed → B w' → (∀ i, i < n → listed.getD i false = true → R i (vs i) w') →
      (∀ i j, i < n → j < n → listed.getD i false = true → listed.getD j false = true → i ≠ j → D i j (vs i) (vs j) ∨ D j i (vs j) (vs i)) →
      wpAny P .any l.toArray Q (m + (l.length - n)) listed (acts l (fun i => listed.getD i false) vs a n) w' := by
    intro m
    induction m with
    | zero =>
      intro listed vs w' hl inv hBw hR hD
      have hall : ∀ i, i < n → listed.getD i false = true := fun i hi => by simpa using countP_zero n hl i hi
      have hlisted : listed = (List.replicate n true ++ List.replicate (l.length - n) false).toArray := by
        apply Array.ext
        · rw [inv.size]; simp; omega
        · intro i h1 h2
          have hi : i < l.length := by rw [inv.size] at h1; simpa using h1
          have e1 : listed[i] = listed.getD i false := by simp [h1]
          rw [e1]
          by_cases h : i < n
          · rw [hall i h]
            simp [h]
          · rw [getD_both (inv.tail i (by omega) (by simpa using hi))]
            simp [List.getElem_append, h]
      have hact : acts l (fun i => listed.getD i false) vs a n = acts l (fun _ => true) vs a n := acts_congr n fun j hj => ⟨hall j hj, fun _ => rfl⟩
      rw [hact, Nat.zero_add]
      have hdl : (l.drop n).length = l.length - n := by simp
      rw [← hdl]
      refine wpAny_of_seq (l.drop n) n listed _ w' (fun j => by simp [List.getElem?_drop]) ?_ (htail vs w' hBw (fun i hi => hR i hi (hall i hi)) (fun i j hi hj hij => hD i j hi hj (hall i hi) (hall j hj) hij))
      rw [hdl, hlisted]
      exact hseq
    | succ m ih =>
      intro listed vs w' hl inv hBw hR hD
      have hex : ∃ i, i < n ∧ listed.getD i false = false := by
        by_cases h : ∃ i, i < n ∧ listed.getD i false = false
        · exact h
        · exfalso
          have : left n listed = 0 := by
            unfold left
            rw [List.countP_eq_zero]
            intro i hi
            have hi' := List.mem_range.1 hi
            cases hg : listed.getD i false with
            | true => simp
            | false => exact absurd ⟨i, hi', hg⟩ h
          omega
      obtain ⟨i0, hi0, hun0⟩ := hex
      have hne : Region.ready .any l.toArray listed ≠ [] := by
        obtain ⟨i1, ⟨hi1, hun1⟩, hmin⟩ := least (p := fun i => i < n ∧ listed.getD i false = false) i0 ⟨hi0, hun0⟩
        obtain ⟨o, ho, hback, _⟩ := hop i1 hi1
        have : i1 ∈ Region.ready .any l.toArray listed := by
          refine mem_ready.2 ⟨getD_in (by rw [inv.size]; simp; omega) hun1, o, by simpa using ho, fun e he hb => ?_⟩
          have h1 := hback e he hb
          cases hg : listed.getD e.on false with
          | true => rfl
          | false => exact absurd ⟨by omega, hg⟩ (hmin e.on h1)
        intro h
        rw [h] at this
        cases this
      rw [show m + 1 + (l.length - n) = (m + (l.length - n)) + 1 by omega]
      refine ⟨fun h => absurd h hne, fun i hi => ?_⟩
      have hin : i < n := by
        rcases Nat.lt_or_ge i n with h | h
        · exact h
        · exfalso
          rcases hwait with hw | ⟨⟨hs, hc⟩, hlt⟩
          · obtain ⟨_, o, ho, _⟩ := mem_ready.1 hi
            have := (Array.getElem?_eq_some_iff.1 ho).1
            simp at this
            omega
          · exact tail_waits hs hc (by simpa using hlt) inv _ i0 rfl hi0 (getD_in (by rw [inv.size]; simp; omega) hun0) i h hi
      obtain ⟨hun, o', ho', hall⟩ := mem_ready.1 hi
      obtain ⟨o, ho, hback, hds⟩ := hop i hin
      have : o' = o := by simpa [ho] using ho'.symm
      subst this
      have hdo : dstAt l i = o'.dst := by simp [dstAt, ho]
      have hunf := getD_both hun
      have hst := hstep i hin o' ho (acts l (fun i => listed.getD i false) vs a n) w' vs hBw (acts_size n)
        (fun j t hj ht => by
          obtain ⟨e, he, hb⟩ := Array.any_eq_true'.1 hj
          simp only [Bool.and_eq_true, beq_iff_eq] at hb
          obtain ⟨hb, rfl⟩ := hb
          have h1 := hall e he hb
          have h2 := hback e he hb
          refine ⟨hR e.on (by omega) h1, ?_⟩
          obtain ⟨oe, hoe, _, hde⟩ := hop e.on (by omega)
          exact acts_eval_eq h1 ht (hde t (by simpa [dstAt, hoe] using ht)) n (by omega) (fun j hj hji => hdis e.on j (by omega) hj hji t ht))
        (fun t ht => acts_eval_ne n (fun j hj => by simpa using List.all_eq_true.1 ht j (List.mem_range.2 hj)))
      have hgo : ∀ a' w2, (∃ v, a' = (acts l (fun i => listed.getD i false) vs a n).put o'.dst v ∧ B w2 ∧ Ext w' w2 ∧ R i v w2 ∧ ∀ j u, j < n → j ≠ i → R j u w' → D i j v u) →
          wpAny P .any l.toArray Q (m + (l.length - n)) (listed.setIfInBounds i true) a' w2 := by
        rintro a' w2 ⟨v, rfl, hB2, hE, hRv, hDv⟩
        have hput := acts_put (l := l) (f := fun i => listed.getD i false) (vs := vs) (a0 := a) (i := i) (v := v) hunf n hin (fun j hj hji d hd => hdis i j hin hj hji d hd)
        rw [← hdo, ← hput]
        have hcong : acts l (fun j => if j = i then true else listed.getD j false) (fun j => if j = i then v else vs j) a n = acts l (fun j => (listed.setIfInBounds i true).getD j false) (fun j => if j = i then v else vs j) a n := by
          refine acts_congr n fun j hj => ⟨?_, fun _ => rfl⟩
          by_cases hji : j = i
          · subst hji
            rw [if_pos rfl]
            have : j < listed.size := by rw [inv.size]; simp; omega
            simp [this]
          · rw [if_neg hji, getD_set_ne false (Ne.symm hji)]
        rw [hcong]
        refine ih _ _ w2 ?_ (inv.set hi hin) hB2 (fun j hj hlj => ?_) (fun j k hj hk hlj hlk hjk => ?_)
        · have hsz : i < listed.size := by rw [inv.size]; simp; omega
          have := countP_one (f := fun j => !listed.getD j false) (g := fun j => !(listed.setIfInBounds i true).getD j false) (i := i) (by simp only [hunf]; rfl) (by simp [hsz]) (fun j hj => by simp only [getD_set_ne false (Ne.symm hj)]) n
          rw [if_pos hin] at this
          unfold left at hl ⊢
          omega
        · by_cases hji : j = i
          · subst hji
            rw [if_pos rfl]
            exact hRv
          · rw [if_neg hji]
            rw [getD_set_ne false (Ne.symm hji)] at hlj
            exact hext _ _ _ _ hE (hR j hj hlj)
        · by_cases hji : j = i
          · subst hji
            rw [if_pos rfl, if_neg (Ne.symm hjk)]
            rw [getD_set_ne false hjk] at hlk
            exact .inl (hDv k _ hk (Ne.symm hjk) (hR k hk hlk))
          · rw [if_neg hji]
            rw [getD_set_ne false (Ne.symm hji)] at hlj
            by_cases hki : k = i
            · subst hki
              rw [if_pos rfl]
              exact .inr (hDv j _ hj hji (hR j hj hlj))
            · rw [if_neg hki]
              rw [getD_set_ne false (Ne.symm hki)] at hlk
              exact hD j k hj hk hlj hlk hjk
      unfold wpOp
      rw [ho']
      unfold WpG at hst
      simp only
      split
      · rename_i hw
        rw [if_pos hw] at hst
        exact .inl (Oper.wp_mono (fun a' w2 h => hgo a' w2 h) hst)
      · rename_i hw
        rw [if_neg hw] at hst
        exact hgo _ _ hst
  have h0 : left n (Array.replicate l.length false) = n := by
    unfold left
    have : ((List.range n).countP fun i => !(Array.replicate l.length false).getD i false) = (List.range n).length := by
      rw [List.countP_eq_length]
      intro i _
      rw [getD_replicate_false]
      rfl
    rw [this, List.length_range]
  have hmain := main n (Array.replicate l.length false) (fun _ => undef) w.drew h0
    ⟨by simp, fun j oj _ hl => (by rw [getD_replicate_false] at hl; cases hl), fun t _ ht => getD_in (by simpa using ht) (getD_replicate_false _ _)⟩ hB0 (fun i _ hl => by rw [getD_replicate_false] at hl; cases hl) (fun i j _ _ hl => by rw [getD_replicate_false] at hl; cases hl)
  have e1 : acts l (fun i => (Array.replicate l.length false).getD i false) (fun _ => undef) a n = a := by
    have : ∀ k, acts l (fun i => (Array.replicate l.length false).getD i false) (fun _ => undef) a k = a := by
      intro k
      induction k with
      | zero => rfl
      | succ k ih => unfold acts; rw [if_neg (by rw [getD_replicate_false]; decide), ih]
    exact this n
  rw [e1, show n + (l.length - n) = l.length by omega] at hmain
  exact hmain
theorem wp_call_inv {o : Oper} {a : Act} {w : World} {K : Act → World → Prop} {Q : Exit → Act → World → Prop} (f : FuncId) (xs : Array Operand) (tys : Array TypeId)
    (ho : o.op = .call { callee := .value (.func f), args := xs, argTypes := tys }) (args : Array Value) (ha : xs.map a.eval = args) (hf : ∀ w, (callFunc f args).run P w = .ok (.enter f args) w) {Post : Value → World → Prop}
    (hc : Calls P f args w fun e w' => ∃ v, e = .returned v ∧ Post v w') (hK : ∀ v w', Post v w' → K (a.put o.dst v) w') : o.wp P a w K Q := by
  have he : (execOp a.eval o).run P w = .ok (.enter f args) w := by
    obtain ⟨d, op, ty, pos, aft, g⟩ := o
    simp only at ho
    subst ho
    have e : execOp a.eval { dst := d, op := .call { callee := .value (.func f), args := xs, argTypes := tys }, type := ty, pos := pos, after := aft, guard := g } = callFunc f (#[] ++ xs.map a.eval ++ #[]) := rfl
    rw [e, ha, Array.append_empty, Array.empty_append]
    exact hf w
  unfold Oper.wp
  rw [he]
  refine Calls.mono hc ?_
  rintro e w' ⟨v, rfl, hp⟩
  exact hK v w' hp
theorem wp_value_inv {o : Oper} {a : Act} {w w' : World} {K : Act → World → Prop} {Q : Exit → Act → World → Prop} (v : Value) (h : (execOp a.eval o).run P w = .ok (.value v) w') (hK : K (a.put o.dst v) w') : o.wp P a w K Q := by
  unfold Oper.wp
  rw [h]
  exact hK
end
end Go.Proofs.Ytcbbcihfooaggaa
namespace Go.Proofs.Ytcbbcihfooaggaa
open Go.RowKit
set_option linter.unusedVariables false
inductive WideF : Fence → Prop
  | out : WideF Fence.wide
  | round (l : Nat) : WideF (Fence.wide.inRound l)
theorem WideF.fn {F : Fence} (h : WideF F) (f : FuncId) : F.fn f := by cases h <;> trivial
theorem WideF.free {F : Fence} (h : WideF F) {p : Prop} (hd : F.depth.isSome = true) : p := by cases h <;> simp [Fence.wide, Fence.inRound] at hd
theorem WideF.calls {F : Fence} (h : WideF F) {n : Nat} {P : Program} {f : FuncId} {args : Array Value} {w : World} {R : Ending → World → Prop} (hc : Calls P f args w R) : CallsIn F n P f args w R := by
  cases h with
  | out => exact callsIn_wide.2 hc
  | round l => exact CallsIn.inRound l (callsIn_wide.2 hc)
section
variable {F : Fence} {n : Nat} {P : Program} {ops : Array Oper} {md : Region.Mode} {Q : Exit → Act → World → Prop}
theorem wpIn_value {o : Oper} {a : Act} {w w' : World} {K : Act → World → Prop} (hF : WideF F) (hd : ∀ c, o.op ≠ .defer c) (v : Value) (h : (execOp a.eval o).run P w = .ok (.value v) w') (hK : K (a.put o.dst v) w') : o.wpIn F n P a w K Q := by
  refine ⟨fun f _ => hF.fn f, ?_⟩
  rw [Oper.semAt_plain F _ _ hd, h]
  exact hK
theorem wpListIn_value {rest : List Oper} {o : Oper} {a : Act} {w : World} (hF : WideF F) (hg : o.guard = none) (hd : ∀ c, o.op ≠ .defer c) (v : Value) (w' : World) (h : (execOp a.eval o).run P w = .ok (.value v) w') (hK : wpListIn F n P ops Q rest (a.put o.dst v) w') : wpListIn F n P ops Q (o :: rest) a w :=
  wpListIn_plain hg fun _ hK' => wpIn_value hF hd v h (hK' _ _ hK)
theorem wpOpIn_of_stOp {i : Nat} {a : Act} {w : World} {K : Act → Prop} {K' : Act → World → Prop} (hF : WideF F) (hd : ∀ o, ops[i]? = some o → ∀ c, o.op ≠ .defer c) (h : ∀ a, K a → K' a w) (hh : stOp P ops w i K a) : wpOpIn F n P ops Q i K' a w := by
  unfold stOp at hh
  unfold wpOpIn
  cases ho : ops[i]? with
  | none => simp only [ho] at hh; exact h _ hh
  | some o =>
    simp only [ho] at hh
    simp only
    split
    · rename_i hw
      simp only [hw, if_true] at hh
      refine ⟨fun f _ => hF.fn f, ?_⟩
      rw [Oper.semAt_plain F _ _ (hd o ho)]
      unfold Oper.still at hh
      generalize (execOp a.eval o).run P w = r at *
      cases r with
      | ok m w' =>
        cases m <;> simp only [Oper.stillUpon] at hh <;> simp only [Oper.uponIn]
        case enter f args =>
          obtain ⟨rfl, v, hc, hn⟩ := hh
          exact ⟨fun hx => hF.free hx, (hF.calls hc).mono fun e w'' ⟨he, hw⟩ => by subst he; subst hw; exact h _ hn⟩
        all_goals (obtain ⟨rfl, h2⟩ := hh; exact h _ h2)
      | halt x w' => simp only [Oper.stillUpon] at hh
    · rename_i hw
      simp only [hw] at hh
      exact ⟨fun f _ => hF.fn f, h _ hh⟩
theorem wpAnyIn_of_head {w : World} {m g : Nat} {L : Array Bool → Act → Prop} (hF : WideF F) (hd : ∀ (i : Nat) (o : Oper), ops[i]? = some o → ∀ c, o.op ≠ .defer c) (hL : ∀ listed a, L listed a → wpAnyIn F n P md ops Q g listed a w) :
    ∀ (f : Nat) (listed : Array Bool) (a : Act), wpAnyL P md ops w m L f listed a → wpAnyIn F n P md ops Q (f + g) listed a w
  | 0, listed, a, h => by rw [Nat.zero_add]; exact hL _ _ h
  | f + 1, listed, a, h => by
    rw [show f + 1 + g = (f + g) + 1 by omega]
    exact ⟨fun h0 => absurd h0 h.1, fun i hi => wpOpIn_of_stOp hF (hd i) (fun a' h' => wpAnyIn_of_head hF hd hL f _ a' h') (h.2 i hi).2⟩
theorem wpAnyIn_of_seq : ∀ (l : List Oper) (k : Nat) (listed : Array Bool) (a : Act) (w : World), (∀ j, l[j]? = ops[k + j]?) →
    Region.seqB md ops l.length k listed = true → wpListIn F n P ops Q l a w → wpAnyIn F n P md ops Q l.length listed a w
  | [], _, _, _, _, _, hB, h => ⟨by simpa [Region.seqB] using hB, h⟩
  | o :: l, k, listed, a, w, hl, hB, h => by
    have h0 : ops[k]? = some o := by simpa using (hl 0).symm
    simp only [List.length_cons, Region.seqB, Bool.and_eq_true, decide_eq_true_eq] at hB
    refine ⟨fun h1 => (by rw [hB.1] at h1; cases h1), fun i hi => ?_⟩
    rw [hB.1] at hi
    have hik : i = k := by simpa using hi
    subst hik
    have hw : wpOpIn F n P ops Q i (wpListIn F n P ops Q l) a w := by unfold wpOpIn; simp only [h0]; exact h
    exact wpOpIn_mono (fun a' w' h' => wpAnyIn_of_seq l (i + 1) _ a' w' (fun j => by have := hl (j + 1); simpa [Nat.add_assoc, Nat.add_comm 1 j] using this) hB.2 h') hw
def noDefer (o : Oper) : Bool := match o.op with | .defer _ => false | _ => true
theorem noDefer_ne {o : Oper} (h : noDefer o = true) (c : Call) : o.op ≠ .defer c := by
  intro e
  unfold noDefer at h
  rw [e] at h
  cases h
theorem wpIn_still_tail {id : Nat} {a : Act} {w : World} {l : List Oper} (m : Nat) (hF : WideF F) (hm : P.follows .mixedOrders = true) (hd : l.all noDefer = true) (hB : Region.lexTailB .any l.toArray m = true)
    (h : wpStill P l.toArray w.drew (fun a' => wpListIn F n P l.toArray Q (l.drop m) a' w.drew) (l.take m) a) : (Code.region id l.toArray true).wpIn F n P Q a w := by
  simp only [Region.lexTailB, Bool.and_eq_true, decide_eq_true_eq] at hB
  obtain ⟨⟨⟨⟨hsel, hn⟩, hs⟩, hc⟩, hlex⟩ := hB
  have hn' : m < l.length := by simpa using hn
  have htl : (l.take m).length = m := by simp; omega
  have hdl : (l.drop m).length = l.toArray.size - m := by simp
  have hdd : ∀ (i : Nat) (o : Oper), l.toArray[i]? = some o → ∀ c, o.op ≠ .defer c := by
    intro i o ho
    exact noDefer_ne (List.all_eq_true.1 hd o (by
      have ho' : l[i]? = some o := by simpa using ho
      exact List.mem_of_getElem? ho'))
  have inv0 : HeadInv .any l.toArray m (Array.replicate l.toArray.size false) :=
    ⟨by simp, fun j oj _ hl => (by rw [getD_replicate_false] at hl; cases hl), fun t _ ht => getD_in (by simpa using ht) (getD_replicate_false _ _)⟩
  have H := wpAnyL_lex (md := .any) (g := l.toArray.size - m) hsel hs hc hn (l.take m) 0 _ a (fun j hj => by
    have hj' : j < m := by rw [htl] at hj; exact hj
    simp [hj']) (by simpa using htl) inv0 (by rw [htl]; exact hlex) h
  refine wpIn_region_any hm ?_
  have := wpAnyIn_of_head (F := F) (n := n) (Q := Q) (g := l.toArray.size - m) hF hdd (fun listed a' hL => by
    have := wpAnyIn_of_seq (md := .any) (F := F) (n := n) (Q := Q) (l.drop m) m listed a' w.drew (fun j => by simp [List.getElem?_drop]) (by rw [hdl]; exact hL.1) hL.2
    rwa [hdl] at this) _ _ _ H
  rw [htl, show m + (l.toArray.size - m) = l.toArray.size by omega] at this
  exact this
theorem still_value {w : World} {o : Oper} {a : Act} {rest : List Oper} {Q' : Act → Prop} (hg : o.guard = none) (v : Value) (h : (execOp a.eval o).run P w = .ok (.value v) w) (hK : wpStill P ops w Q' rest (a.put o.dst v)) : wpStill P ops w Q' (o :: rest) a := by
  unfold wpStill
  rw [if_pos (by simp [Region.wanted, hg])]
  unfold Oper.still
  rw [h]
  exact ⟨rfl, hK⟩
end
end Go.Proofs.Ytcbbcihfooaggaa
namespace Go.Proofs.Ytcbbcihfooaggaa
open Go.RowKit Go.ChangeShapes
set_option linter.unusedVariables false
def wrC (p : Pend) : List Value := .int .i64 p.1 :: p.2.map bv
theorem wrC_length (p : Pend) (h : p.2.length = 64) : (wrC p).length = 65 := by simp [wrC, h]
theorem wrC_one (p : Pend) : ∀ v ∈ wrC p, v.oneCell' = true := by
  intro v hv
  rcases List.mem_cons.1 hv with rfl | h
  · rfl
  · exact bv_one _ v h
def flatD : List Pend → List Value
  | [] => []
  | p :: W => wrC p ++ flatD W
theorem flatD_snoc (p : Pend) : ∀ (W : List Pend), flatD (W ++ [p]) = flatD W ++ wrC p
  | [] => by simp [flatD]
  | q :: W => by rw [List.cons_append, flatD, flatD, flatD_snoc p W, List.append_assoc]
theorem flatD_get : ∀ (W : List Pend) (i j : Nat) (h : i < W.length) (hj : j < 65), (∀ p ∈ W, p.2.length = 64) → (flatD W)[i * 65 + j]? = (wrC W[i])[j]?
  | [], i, j, h, _, _ => by simp at h
  | p :: W, 0, j, _, hj, hl => by
    rw [flatD, Nat.zero_mul, Nat.zero_add, List.getElem?_append_left (by rw [wrC_length p (hl p (by simp))]; exact hj)]
    rfl
  | p :: W, i + 1, j, h, hj, hl => by
    have e := wrC_length p (hl p (by simp))
    rw [flatD, List.getElem?_append_right (by rw [e]; omega), e, show (i + 1) * 65 + j - 65 = i * 65 + j by omega]
    exact flatD_get W i j (by simpa using h) hj (fun q hq => hl q (by simp [hq]))
def WrAt (F : Nat → Prop) (w : World) (v : Value) (W : List Pend) : Prop :=
  w.ownsRow 0 123 65 v W.length (flatD W) ∧ ∀ g, v.ownBlock = some g → F g
theorem WrAt.nil (F : Nat → Prop) (w : World) : WrAt F w (.slice none 0 0) [] := ⟨World.ownsRow_nil _ _ _ _, fun g h => by simp [Value.ownBlock] at h⟩
theorem WrAt.keep {F S : Nat → Prop} {w w' : World} {v : Value} {W : List Pend} (h : WrAt F w v W) (hf : Fr S w w') (hd : ∀ k, k < w.heap.size → F k → ¬ S k) : WrAt F w' v W := by
  refine ⟨⟨h.1.1, ?_⟩, h.2⟩
  rcases h.1.2 with e | ⟨g, cap, cur, hv, hb, hg, r⟩
  · exact .inl e
  · exact .inr ⟨g, cap, cur, hv, hb, hf.heap hg (hd g (lt_of_block hg) (h.2 g (by rw [hv]; rfl))), r⟩
theorem WrAt.mono {F G : Nat → Prop} {w : World} {v : Value} {W : List Pend} (h : WrAt F w v W) (hd : ∀ k, k < w.heap.size → F k → G k) : WrAt G w v W := by
  refine ⟨h.1, fun g hg => hd g ?_ (h.2 g hg)⟩
  rcases h.1.2 with ⟨e, _⟩ | ⟨g', cap, cur, hv, hb, hg', r⟩
  · rw [e] at hg; simp [Value.ownBlock] at hg
  · rw [hv] at hg
    simp [Value.ownBlock] at hg
    subst hg
    exact lt_of_block hg'
theorem WrAt.form {F : Nat → Prop} {w : World} {v : Value} {W : List Pend} (h : WrAt F w v W) : ∃ ao cap, v = .slice ao W.length cap ∧ W.length ≤ cap ∧ cap ≤ maxLen := by
  rcases h.1.2 with ⟨hv, h0⟩ | ⟨g, cap, cur, hv, _, hg, c1, c2, _⟩
  · rw [h0]; exact ⟨none, 0, hv, Nat.le_refl _, by simp [maxLen]⟩
  · exact ⟨_, cap, hv, c1, c2⟩
theorem WrAt.elem {F : Nat → Prop} {w : World} {ao : Option Addr} {n cap : Nat} {W : List Pend} (h : WrAt F w (.slice ao n cap) W) (hl : ∀ p ∈ W, p.2.length = 64) (i : Nat) (hi : i < W.length) :
    ∃ b, ao = some ⟨b, 0, none⟩ ∧ F b ∧ w.rangeAt b (i * 65) (wrC W[i]) := by
  rcases h.1.2 with ⟨hv, h0⟩ | ⟨g, cap', cur, hv, _, hg, c1, c2, c3, c4⟩
  · omega
  · injection hv with e1 e2 e3
    subst e1
    refine ⟨g, rfl, h.2 g rfl, fun j u hu => ?_⟩
    have hj : j < 65 := by
      have := (List.getElem?_eq_some_iff.1 hu).1
      rwa [wrC_length _ (hl _ (List.getElem_mem _))] at this
    rw [cell_of_row _ _ _ _ _ _ hg]
    have hx := flatD_get W i j hi hj hl
    rw [hu, ← c4, List.getElem?_take] at hx
    split at hx
    · rwa [Array.getElem?_toList] at hx
    · cases hx
abbrev PendX (s : Nat) := { p : Pend // p.1 < s ∧ p.2.length = 64 }
def valsX {s : Nat} (xs : List (PendX s)) : List Pend := xs.map (·.1)
theorem valsX_len {s : Nat} (xs : List (PendX s)) : ∀ p ∈ valsX xs, p.2.length = 64 := by
  intro p hp
  obtain ⟨x, _, rfl⟩ := List.mem_map.1 hp
  exact x.2.2
theorem exists_valsX {s : Nat} : ∀ (W : List Pend), Pends s W → ∃ xs : List (PendX s), valsX xs = W
  | [], _ => ⟨[], rfl⟩
  | p :: W, h => by
    obtain ⟨xs, hx⟩ := exists_valsX W (fun q hq => h q (by simp [hq]))
    exact ⟨⟨p, h p (by simp)⟩ :: xs, by show p :: valsX xs = p :: W; rw [hx]⟩
def encsX {s : Nat} (x : PendX s) : Array Value := #[.int .i64 x.1.1, .agg (x.1.2.map bv).toArray]
structure ItR (w : World) (F : Nat → Prop) (Bp g : Nat) (vw : Value) (W : List Pend) : Prop where
  box : w.cell? ⟨Bp, 0, none⟩ = some (.pointer (some ⟨g, 0, none⟩))
  head : w.cell? ⟨g, 3, none⟩ = some vw
  wr : WrAt F w vw W
theorem ItR.keep {F S : Nat → Prop} {w w' : World} {Bp g : Nat} {vw : Value} {W : List Pend} (h : ItR w F Bp g vw W) (hf : Fr S w w') (h1 : ¬ S Bp) (h2 : ¬ S g) (h3 : ∀ k, k < w.heap.size → F k → ¬ S k) : ItR w' F Bp g vw W :=
  ⟨hf.cell h.box h1, hf.cell h.head h2, h.wr.keep hf h3⟩
theorem grownBy_drew (w : World) : w.grownBy w.drew none := ⟨rfl, rfl, rfl, Nat.le_refl _, fun _ _ _ => rfl⟩
end Go.Proofs.Ytcbbcihfooaggaa
