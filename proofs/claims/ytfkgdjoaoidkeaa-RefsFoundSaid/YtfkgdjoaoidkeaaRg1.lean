/- Laid together: BLetters Inv Ops RfLet -/
import Derived.Test.YtfkgdjoaoidkeaaRg0
import Derived.Test.YtfkgdjoaoidkeaaRows
import Derived.StillTail
import Derived.WalkKit
import Derived.Stop.BytesEq
import Derived.Deep.MidRow
import Derived.Deep.WholeRow

namespace Go.Proofs.Ytfkgdjoaoidkeaa
open Go.RowKit Go.ChangeShapes
set_option linter.unusedVariables false
def partL (L : List UInt8) (i : Nat) : List UInt8 := L.take i ++ List.replicate (L.length - i) 0
theorem partL_zero (L : List UInt8) : partL L 0 = List.replicate L.length 0 := by simp [partL]
theorem partL_all (L : List UInt8) (i : Nat) (h : L.length ≤ i) : partL L i = L := by
  rw [partL, List.take_of_length_le h, show L.length - i = 0 by omega]
  simp
theorem partL_length (L : List UInt8) (i : Nat) (h : i ≤ L.length) : (partL L i).length = L.length := by
  simp [partL]
  omega
theorem partL_set (L : List UInt8) (i : Nat) (h : i < L.length) (y : UInt8) (hy : y = L.getD i 0) : (partL L i).set i y = partL L (i + 1) := by
  have e : L.length - i = (L.length - (i + 1)) + 1 := by omega
  rw [partL, partL, e, List.replicate_succ, List.set_append_right _ _ (by rw [List.length_take]; omega), List.take_succ_eq_append_getElem h]
  have e2 : i - (L.take i).length = 0 := by rw [List.length_take]; omega
  rw [e2, List.set_cons_zero, hy, List.getD_eq_getElem?_getD, List.getElem?_eq_getElem h, List.append_assoc]
  rfl
theorem BytT.bytes {w : World} {g : Nat} {T : TypeId} {L : List UInt8} (h : BytT w g T L) (hl : L.length ≤ maxLen) : BytesIn (fun k => k = g) w (.slice (some ⟨g, 0, none⟩) L.length L.length) L := by
  refine ⟨_, L.length, rfl, Nat.le_refl _, hl, (fun h => by cases h), ?_⟩
  intro a ha
  cases ha
  refine ⟨fun j u hu => ?_, fun _ => rfl⟩
  rw [addr_plain, Nat.zero_add, cell_of_row _ _ _ _ _ _ h]
  simpa using hu
set_option maxRecDepth 100000 in
set_option maxHeartbeats 2000000 in
theorem bLetters_any (H : List UInt8) (hH : H.length = 20) (w : World) :
    Calls Try.prog 9 #[.agg (H.map bv).toArray] w fun e w' => e = .returned (.string ⟨(letL H).toArray⟩) ∧ Fr (fun _ => False) w w' := by
  obtain ⟨C, hC⟩ : ∃ C, C = (H.map bv).toArray := ⟨_, rfl⟩
  have HC := Lib.hid hC
  have hcs : C.size = 20 := by rw [hC]; simp [hH]
  have HVA := Lib.hid (fun i (h : i < 32) W => valueAt_any H hH i h W)
  rw [← hC] at HVA
  rw [← hC]
  have H0 := Lib.hid (show Fr (fun _ => False) w ((w.alloc (.cells C 24)).alloc (.cells ((List.replicate 32 (0 : UInt8)).map bv).toArray 46)) ∧ ((w.alloc (.cells C 24)).alloc (.cells ((List.replicate 32 (0 : UInt8)).map bv).toArray 46)).heap[w.heap.size]? = some (.cells C 24 (0, 0)) ∧ BytT ((w.alloc (.cells C 24)).alloc (.cells ((List.replicate 32 (0 : UInt8)).map bv).toArray 46)) (w.heap.size + 1) 46 (partL (letL H) 0) from
    ⟨((Fr.refl _ _).alloc _).alloc _, heap_alloc2_old w _ _, by rw [partL_zero, letL_length]; exact heap_alloc2_new w _ _⟩)
  obtain ⟨W, hW⟩ : ∃ W, W = (w.alloc (.cells C 24)).alloc (.cells ((List.replicate 32 (0 : UInt8)).map bv).toArray 46) := ⟨_, rfl⟩
  rw [← hW] at H0
  have HW := Lib.hid (show (w.alloc (.cells C 24)).alloc (.cells #[.int .u8 0, .int .u8 0, .int .u8 0, .int .u8 0, .int .u8 0, .int .u8 0, .int .u8 0, .int .u8 0, .int .u8 0, .int .u8 0, .int .u8 0, .int .u8 0, .int .u8 0, .int .u8 0, .int .u8 0, .int .u8 0, .int .u8 0, .int .u8 0, .int .u8 0, .int .u8 0, .int .u8 0, .int .u8 0, .int .u8 0, .int .u8 0, .int .u8 0, .int .u8 0, .int .u8 0, .int .u8 0, .int .u8 0, .int .u8 0, .int .u8 0, .int .u8 0] 46) = W by rw [hW]; rfl)
  clear hC hW
  go_enter Try.func9, Try.ntmps9
  go_wp2_with fail
  rw [HW.out]
  clear HW
  go_loopw [5] (fun iv wr => ∃ i : Nat, i ≤ 32 ∧ iv = .int .i64 i ∧ Hid (Fr (fun _ => False) w wr ∧ wr.heap[w.heap.size]? = some (.cells C 24 (0, 0)) ∧ BytT wr (w.heap.size + 1) 46 (partL (letL H) i))) (fun iv _ => 32 - (intOf iv).toNat)
  case atStart => exact ⟨0, by omega, rfl, H0⟩
  case round =>
    clear H0
    obtain ⟨i, hi, rfl, hR⟩ := hrel
    by_cases hlt : i < 32
    · have hr1 := hR.out.2.1
      have HV := HVA.out i hlt
      obtain ⟨n, hn⟩ : ∃ n, n = five H i := ⟨_, rfl⟩
      have hn32 : n < 32 := by rw [hn]; exact five_lt H i
      rw [← hn] at HV
      have HV := Lib.hid HV
      obtain ⟨y, hy⟩ : ∃ y, y = abc.getD n 0 := ⟨_, rfl⟩
      have hg := fun h => abc_get n h
      rw [← hy] at hg
      have HY := Lib.hid (show y = (letL H).getD i 0 by rw [letL_get H i hlt, ← hn, hy])
      have bn0 : (0 : Int) ≤ (n : Int) := by omega
      have bn : (n : Int) < 32 := by omega
      have bi0 : (0 : Int) ≤ (i : Int) := by omega
      have bi : (i : Int) < 32 := by omega
      clear hn hy
      go_wp2_with (first
        | (with_reducible refine wpList_load_row rfl 24 (.tmp 1) rfl w.heap.size rfl 24 C (0, 0) _ hr1 Try.underlying24 rfl (by rw [hcs]; kernel_rfl) ?_)
        | (go_at_call 20; refine (HV.out _).mono ?_; rintro e w2 ⟨rfl, hf2⟩; have HR2 := Lib.hid (And.intro (hR.out.1.trans hf2 (fun _ h => h.elim)) (And.intro (hf2.heap hr1 (fun h => h)) (hR.out.2.2.keep hf2 (fun h => h)))); have c2 := HR2.out.2.2.cell i (by rw [partL_length _ _ (by rw [letL_length]; omega), letL_length]; exact hlt); have f2 := HR2.out.2.2.free i; clear hf2 HV))
      go_roundw
      case rel =>
        have hf : ∀ v, Fr (fun i => i = w.heap.size + 1) w2 (w2.setCell ⟨w.heap.size + 1, i, none⟩ v) := fun v => (Fr.refl (fun i => i = w.heap.size + 1) w2).setCell (p := ⟨w.heap.size + 1, i, none⟩) (.inl rfl) v
        refine ⟨i + 1, by omega, by go_num, Lib.hid ⟨HR2.out.1.setCell (.inr (by simp)) _, (hf _).heap HR2.out.2.1 (by omega), ?_⟩⟩
        rw [← partL_set (letL H) i (by rw [letL_length]; exact hlt) y HY.out]
        exact HR2.out.2.2.set_ i _ _ rfl
      case measure => simp [intOf]; omega
    · have hd : ¬ (i : Int) < 32 := by omega
      have HB := Lib.hid (show BytesIn (fun k => k = w.heap.size + 1) wr (.slice (some ⟨w.heap.size + 1, 0, none⟩) 32 32) (letL H) by
        have h := hR.out.2.2
        rw [partL_all _ _ (by rw [letL_length]; omega)] at h
        have h2 := h.bytes (by rw [letL_length]; unfold maxLen; omega)
        rwa [letL_length] at h2)
      have hcv := fun W (h : BytesIn (fun k => k = w.heap.size + 1) W (.slice (some ⟨w.heap.size + 1, 0, none⟩) 32 32) (letL H)) => run_bytes_str W _ _ h
      have hcv := hcv wr HB.out
      go_wp2_with fail
      go_ret
      exact ⟨rfl, hR.out.1⟩
end Go.Proofs.Ytfkgdjoaoidkeaa
namespace Go.Proofs.Ytfkgdjoaoidkeaa
open Go.RowKit
set_option linter.unusedVariables false
section
variable {P : Program}
def dstAt (l : List Oper) (i : Nat) : Option Tmp := (l[i]?).bind (·.dst)
def acts (l : List Oper) (lst : Nat → Bool) (vs : Nat → Value) (a0 : Act) : Nat → Act
  | 0 => a0
  | k + 1 => if lst k then (acts l lst vs a0 k).put (dstAt l k) (vs k) else acts l lst vs a0 k
def untouched (l : List Oper) (n : Nat) (t : Tmp) : Bool := (List.range n).all fun j => dstAt l j != some t
def waitsOn (o : Oper) (j : Nat) : Bool := o.after.any fun e => Region.binds .any e && e.on == j
def WpG (P : Program) (l : List Oper) (o : Oper) (a : Act) (w : World) (K : Act → World → Prop) (Q : Exit → Act → World → Prop) : Prop :=
  if Region.wanted o (yielded l.toArray a.tmps) = true then o.wp P a w K Q else K (a.put o.dst undef) w
theorem wpG_plain {l : List Oper} {o : Oper} {a : Act} {w : World} {K : Act → World → Prop} {Q : Exit → Act → World → Prop} (hg : o.guard = none) (h : o.wp P a w K Q) : WpG P l o a w K Q := by
  unfold WpG
  rw [if_pos (by simp [Region.wanted, hg])]
  exact h
theorem wpG_yes {l : List Oper} {o : Oper} {a : Act} {w : World} {K : Act → World → Prop} {Q : Exit → Act → World → Prop} (g : Nat) (b : Bool) (t : Tmp) (hg : o.guard = some (g, b)) (ht : dstAt l g = some t) (hs : t < a.tmps.size) (he : a.eval (.tmp t) = .bool b)
    (h : o.wp P a w K Q) : WpG P l o a w K Q := by
  unfold WpG
  have hy : yielded l.toArray a.tmps g = some b := by
    have h1 : (l.toArray[g]?.bind fun x => x.dst) = some t := by simpa [dstAt] using ht
    have h2 : a.tmps[t]? = some (.bool b) := by
      have h3 : a.tmps.getD t undef = .bool b := he
      rw [Array.getElem?_eq_getElem hs]
      simpa [hs] using h3
    unfold yielded
    rw [h1]
    simp only [Option.bind_some, h2]
  rw [if_pos (by simp [Region.wanted, hg, hy])]
  exact h
theorem wpG_no {l : List Oper} {o : Oper} {a : Act} {w : World} {K : Act → World → Prop} {Q : Exit → Act → World → Prop} (g : Nat) (b : Bool) (t : Tmp) (hg : o.guard = some (g, b)) (ht : dstAt l g = some t) (hs : t < a.tmps.size) (he : a.eval (.tmp t) = .bool (!b))
    (h : K (a.put o.dst undef) w) : WpG P l o a w K Q := by
  unfold WpG
  have hy : yielded l.toArray a.tmps g = some (!b) := by
    have h1 : (l.toArray[g]?.bind fun x => x.dst) = some t := by simpa [dstAt] using ht
    have h2 : a.tmps[t]? = some (.bool (!b)) := by
      have h3 : a.tmps.getD t undef = .bool (!b) := he
      rw [Array.getElem?_eq_getElem hs]
      simpa [hs] using h3
    unfold yielded
    rw [h1]
    simp only [Option.bind_some, h2]
  rw [if_neg (by simp [Region.wanted, hg, hy])]
  exact h
def InvStep (P : Program) (l : List Oper) (n : Nat) (Q : Exit → Act → World → Prop) (B : World → Prop) (R : Nat → Value → World → Prop) (D : Nat → Nat → Value → Value → Prop) (Ext : World → World → Prop) (a0 : Act) (i : Nat) (o : Oper) : Prop :=
  ∀ (a : Act) (w : World) (vs : Nat → Value), B w → a.tmps.size = a0.tmps.size →
    (∀ j t, waitsOn o j = true → dstAt l j = some t → R j (vs j) w ∧ a.eval (.tmp t) = vs j) →
    (∀ t, untouched l n t = true → a.eval (.tmp t) = a0.eval (.tmp t)) →
    WpG P l o a w (fun a' w' => ∃ v, a' = a.put o.dst v ∧ B w' ∧ Ext w w' ∧ R i v w' ∧ ∀ j u, j < n → j ≠ i → R j u w → D i j v u) Q
def invB (l : List Oper) (n size : Nat) : Bool :=
  decide (n ≤ l.length) &&
  ((List.range n).all fun i => match l[i]? with
    | some o => (o.after.all fun e => !Region.binds .any e || decide (e.on < i)) && (match o.dst with | some d => decide (d < size) | none => true)
    | none => false) &&
  ((List.range n).all fun i => (List.range n).all fun j => decide (i = j) || (match dstAt l i, dstAt l j with | some x, some y => decide (x ≠ y) | _, _ => true)) &&
  (decide (n = l.length) || (Region.sinkB .any l.toArray n && Region.chainB .any l.toArray n && decide (n < l.length))) &&
  Region.seqB .any l.toArray (l.length - n) n (List.replicate n true ++ List.replicate (l.length - n) false).toArray
theorem acts_congr {l : List Oper} {f g : Nat → Bool} {vs us : Nat → Value} {a0 : Act} : ∀ (k : Nat), (∀ j, j < k → f j = g j ∧ (f j = true → vs j = us j)) → acts l f vs a0 k = acts l g us a0 k
  | 0, _ => rfl
  | k + 1, h => by
    have ih := acts_congr (l := l) (a0 := a0) k (fun j hj => h j (by omega))
    obtain ⟨h1, h2⟩ := h k (by omega)
    unfold acts
    rw [ih, ← h1]
    by_cases hk : f k = true
    · rw [if_pos hk, if_pos hk, h2 hk]
    · rw [if_neg hk, if_neg hk]
theorem acts_put {l : List Oper} {f : Nat → Bool} {vs : Nat → Value} {a0 : Act} {i : Nat} {v : Value} (hf : f i = false) : ∀ (k : Nat), i < k →
    (∀ j, j < k → j ≠ i → ∀ d, dstAt l i = some d → dstAt l j ≠ some d) →
    acts l (fun j => if j = i then true else f j) (fun j => if j = i then v else vs j) a0 k = (acts l f vs a0 k).put (dstAt l i) v
  | 0, h, _ => by omega
  | k + 1, h, hd => by
    by_cases hk : k = i
    · subst hk
      have e := acts_congr (l := l) (a0 := a0) (f := fun j => if j = k then true else f j) (g := f) (vs := fun j => if j = k then v else vs j) (us := vs) k (fun j hj => ⟨if_neg (by omega), fun _ => if_neg (by omega)⟩)
      simp only [acts, if_true, hf, Bool.false_eq_true, if_false]
      rw [e]
    · have ih := acts_put (vs := vs) (a0 := a0) (v := v) hf k (by omega) (fun j hj hji => hd j (by omega) hji)
      unfold acts
      rw [ih]
      simp only [if_neg hk]
      by_cases hfk : f k = true
      · rw [if_pos hfk, if_pos hfk]
        exact Act.put_comm _ _ _ (fun d hx => hd k (by omega) hk d hx)
      · rw [if_neg hfk, if_neg hfk]
theorem put_size (a : Act) (d : Option Tmp) (v : Value) : (a.put d v).tmps.size = a.tmps.size := by
  cases d <;> simp [Act.put]
theorem acts_size {l : List Oper} {f : Nat → Bool} {vs : Nat → Value} {a0 : Act} : ∀ k, (acts l f vs a0 k).tmps.size = a0.tmps.size
  | 0 => rfl
  | k + 1 => by
    unfold acts
    split
    · rw [put_size, acts_size k]
    · exact acts_size k
theorem eval_put_ne {a : Act} {d : Option Tmp} {v : Value} {t : Tmp} (h : d ≠ some t) : (a.put d v).eval (.tmp t) = a.eval (.tmp t) :=
  Act.eval_put fun d' hd e => h (by rw [hd]; injection e with e; rw [e])
theorem eval_put_eq {a : Act} {v : Value} {t : Tmp} (h : t < a.tmps.size) : (a.put (some t) v).eval (.tmp t) = v := by
  simp [Act.put, Act.eval, h]
theorem acts_eval_ne {l : List Oper} {f : Nat → Bool} {vs : Nat → Value} {a0 : Act} {t : Tmp} : ∀ k, (∀ j, j < k → dstAt l j ≠ some t) → (acts l f vs a0 k).eval (.tmp t) = a0.eval (.tmp t)
  | 0, _ => rfl
  | k + 1, h => by
    unfold acts
    split
    · rw [eval_put_ne (h k (by omega)), acts_eval_ne k (fun j hj => h j (by omega))]
    · exact acts_eval_ne k (fun j hj => h j (by omega))
theorem acts_eval_eq {l : List Oper} {f : Nat → Bool} {vs : Nat → Value} {a0 : Act} {t : Tmp} {i : Nat} (hi : f i = true) (ht : dstAt l i = some t) (hs : t < a0.tmps.size) : ∀ k, i < k →
    (∀ j, j < k → j ≠ i → dstAt l j ≠ some t) → (acts l f vs a0 k).eval (.tmp t) = vs i
  | 0, h, _ => by omega
  | k + 1, h, hd => by
    unfold acts
    by_cases hk : k = i
    · subst hk
      rw [if_pos hi, ht, eval_put_eq (by rw [acts_size]; exact hs)]
    · have ih := acts_eval_eq (vs := vs) hi ht hs k (by omega) (fun j hj hji => hd j (by omega) hji)
      split
      · rw [eval_put_ne (hd k (by omega) hk), ih]
      · exact ih
def left (n : Nat) (listed : Array Bool) : Nat := (List.range n).countP fun i => !listed.getD i false
theorem countP_one {f g : Nat → Bool} {i : Nat} (hf : f i = true) (hg : g i = false) (he : ∀ j, j ≠ i → f j = g j) : ∀ n, (List.range n).countP f = (List.range n).countP g + (if i < n then 1 else 0)
  | 0 => by simp
  | n + 1 => by
    rw [List.range_succ, List.countP_append, List.countP_append, countP_one hf hg he n]
    by_cases h : n = i
    · subst h
      simp [hf, hg]
    · have := he n h
      simp only [List.countP_cons, List.countP_nil, this]
      by_cases h2 : i < n
      · have h3 : i < n + 1 := by omega
        simp only [h2, h3, if_true]
        omega
      · have h3 : ¬ i < n + 1 := by omega
        simp only [h2, h3, if_false]
        omega
theorem countP_zero {f : Nat → Bool} : ∀ n, (List.range n).countP f = 0 → ∀ i, i < n → f i = false
  | 0, _, i, h => by omega
  | n + 1, hc, i, h => by
    rw [List.range_succ, List.countP_append] at hc
    by_cases hi : i = n
    · subst hi
      by_cases hf : f i = true
      · simp [hf] at hc
      · simpa using hf
    · exact countP_zero n (by omega) i (by omega)
theorem least {p : Nat → Prop} (n : Nat) (hn : p n) : ∃ m, p m ∧ ∀ j, j < m → ¬ p j := by
  induction n using Nat.strongRecOn with
  | _ n ih =>
    by_cases h : ∃ j, j < n ∧ p j
    · obtain ⟨j, hj, hp⟩ := h
      exact ih j hj hp
    · exact ⟨n, hn, fun j hj hp => h ⟨j, hj, hp⟩⟩
theorem wp_region_inv {id : Nat} {Q : Exit → Act → World → Prop} {a : Act} {w : World} {l : List Oper} (n : Nat) (hm : P.follows .mixedOrders = true) (hB : invB l n a.tmps.size = true)
    (B : World → Prop) (R : Nat → Value → World → Prop) (D : Nat → Nat → Value → Value → Prop) (Ext : World → World → Prop) (hext : ∀ j u w w', Ext w w' → R j u w → R j u w') (hB0 : B w.drew)
    (hstep : ∀ i, i < n → ∀ o, l[i]? = some o → InvStep P l n Q B R D Ext a i o)
    (htail : ∀ vs w', B w' → (∀ i, i < n → R i (vs i) w') → (∀ i j, i < n → j < n → i ≠ j → D i j (vs i) (vs j) ∨ D j i (vs j) (vs i)) → wpList P l.toArray Q (l.drop n) (acts l (fun _ => true) vs a n) w') : (Code.region id l.toArray true).wp P Q a w := by
  simp only [invB, Bool.and_eq_true, decide_eq_true_eq, Bool.or_eq_true] at hB
  obtain ⟨⟨⟨⟨hn, hops⟩, hdst⟩, hwait⟩, hseq⟩ := hB
  have hop : ∀ i, i < n → ∃ o, l[i]? = some o ∧ (∀ e ∈ o.after, Region.binds .any e = true → e.on < i) ∧ (∀ d, o.dst = some d → d < a.tmps.size) := by
    intro i hi
    have h := List.all_eq_true.1 hops i (List.mem_range.2 hi)
    cases ho : l[i]? with
    | none => rw [ho] at h; cases h
    | some o =>
      rw [ho] at h
      simp only [Bool.and_eq_true] at h
      obtain ⟨h2, h3⟩ := h
      refine ⟨o, rfl, fun e he hb => ?_, fun d hd => ?_⟩
      · have := Array.all_eq_true_iff_forall_mem.1 h2 e he
        rw [hb] at this
        simpa using this
      · rw [hd] at h3
        simpa using h3
  have hdis : ∀ i j, i < n → j < n → j ≠ i → ∀ d, dstAt l i = some d → dstAt l j ≠ some d := by
    intro i j hi hj hji d hd hd2
    have h := List.all_eq_true.1 (List.all_eq_true.1 hdst i (List.mem_range.2 hi)) j (List.mem_range.2 hj)
    rw [hd, hd2] at h
    simp at h
    omega
  refine wp_region_any hm ?_
  have main : ∀ (m : Nat) (listed : Array Bool) (vs : Nat → Value) (w' : World), left n listed = m → HeadInv .any l.toArray n listed → B w' → (∀ i, i < n → listed.getD i false = true → R i (vs i) w') →
      (∀ i j, i < n → j < n → listed.getD i false = true → listed.getD j false = true → i ≠ j → D i j (vs i) (vs j) ∨ D j i (vs j) (vs i)) →
      wpAny P .any l.toArray Q (m + (l.length - n)) listed (acts l (fun i => listed.getD i false) vs a n) w' := by
    intro m
    induction m with
    | zero =>
      intro listed vs w' hl inv hBw hR hD
      have hall : ∀ i, i < n → listed.getD i false = true := fun i hi => by simpa using countP_zero n hl i hi
      have hlisted : listed = (List.replicate n true ++ List.replicate (l.length - n) false).toArray := by
        apply Array.ext
        · rw [inv.size]; simp; omega
        · intro i h1 h2
          have hi : i < l.length := by rw [inv.size] at h1; simpa using h1
          have e1 : listed[i] = listed.getD i false := by simp [h1]
          rw [e1]
          by_cases h : i < n
          · rw [hall i h]
            simp [h]
          · rw [getD_both (inv.tail i (by omega) (by simpa using hi))]
            simp [List.getElem_append, h]
      have hact : acts l (fun i => listed.getD i false) vs a n = acts l (fun _ => true) vs a n := acts_congr n fun j hj => ⟨hall j hj, fun _ => rfl⟩
      rw [hact, Nat.zero_add]
      have hdl : (l.drop n).length = l.length - n := by simp
      rw [← hdl]
      refine wpAny_of_seq (l.drop n) n listed _ w' (fun j => by simp [List.getElem?_drop]) ?_ (htail vs w' hBw (fun i hi => hR i hi (hall i hi)) (fun i j hi hj hij => hD i j hi hj (hall i hi) (hall j hj) hij))
      rw [hdl, hlisted]
      exact hseq
    | succ m ih =>
      intro listed vs w' hl inv hBw hR hD
      have hex : ∃ i, i < n ∧ listed.getD i false = false := by
        by_cases h : ∃ i, i < n ∧ listed.getD i false = false
        · exact h
        · exfalso
          have : left n listed = 0 := by
            unfold left
            rw [List.countP_eq_zero]
            intro i hi
            have hi' := List.mem_range.1 hi
            cases hg : listed.getD i false with
            | true => simp
            | false => exact absurd ⟨i, hi', hg⟩ h
          omega
      obtain ⟨i0, hi0, hun0⟩ := hex
      have hne : Region.ready .any l.toArray listed ≠ [] := by
        obtain ⟨i1, ⟨hi1, hun1⟩, hmin⟩ := least (p := fun i => i < n ∧ listed.getD i false = false) i0 ⟨hi0, hun0⟩
        obtain ⟨o, ho, hback, _⟩ := hop i1 hi1
        have : i1 ∈ Region.ready .any l.toArray listed := by
          refine mem_ready.2 ⟨getD_in (by rw [inv.size]; simp; omega) hun1, o, by simpa using ho, fun e he hb => ?_⟩
          have h1 := hback e he hb
          cases hg : listed.getD e.on false with
          | true => rfl
          | false => exact absurd ⟨by omega, hg⟩ (hmin e.on h1)
        intro h
        rw [h] at this
        cases this
      rw [show m + 1 + (l.length - n) = (m + (l.length - n)) + 1 by omega]
      refine ⟨fun h => absurd h hne, fun i hi => ?_⟩
      have hin : i < n := by
        rcases Nat.lt_or_ge i n with h | h
        · exact h
        · exfalso
          rcases hwait with hw | ⟨⟨hs, hc⟩, hlt⟩
          · obtain ⟨_, o, ho, _⟩ := mem_ready.1 hi
            have := (Array.getElem?_eq_some_iff.1 ho).1
            simp at this
            omega
          · exact tail_waits hs hc (by simpa using hlt) inv _ i0 rfl hi0 (getD_in (by rw [inv.size]; simp; omega) hun0) i h hi
      obtain ⟨hun, o', ho', hall⟩ := mem_ready.1 hi
      obtain ⟨o, ho, hback, hds⟩ := hop i hin
      have : o' = o := by simpa [ho] using ho'.symm
      subst this
      have hdo : dstAt l i = o'.dst := by simp [dstAt, ho]
      have hunf := getD_both hun
      have hst := hstep i hin o' ho (acts l (fun i => listed.getD i false) vs a n) w' vs hBw (acts_size n)
        (fun j t hj ht => by
          obtain ⟨e, he, hb⟩ := Array.any_eq_true'.1 hj
          simp only [Bool.and_eq_true, beq_iff_eq] at hb
          obtain ⟨hb, rfl⟩ := hb
          have h1 := hall e he hb
          have h2 := hback e he hb
          refine ⟨hR e.on (by omega) h1, ?_⟩
          obtain ⟨oe, hoe, _, hde⟩ := hop e.on (by omega)
          exact acts_eval_eq h1 ht (hde t (by simpa [dstAt, hoe] using ht)) n (by omega) (fun j hj hji => hdis e.on j (by omega) hj hji t ht))
        (fun t ht => acts_eval_ne n (fun j hj => by simpa using List.all_eq_true.1 ht j (List.mem_range.2 hj)))
      have hgo : ∀ a' w2, (∃ v, a' = (acts l (fun i => listed.getD i false) vs a n).put o'.dst v ∧ B w2 ∧ Ext w' w2 ∧ R i v w2 ∧ ∀ j u, j < n → j ≠ i → R j u w' → D i j v u) →
          wpAny P .any l.toArray Q (m + (l.length - n)) (listed.setIfInBounds i true) a' w2 := by
        rintro a' w2 ⟨v, rfl, hB2, hE, hRv, hDv⟩
        have hput := acts_put (l := l) (f := fun i => listed.getD i false) (vs := vs) (a0 := a) (i := i) (v := v) hunf n hin (fun j hj hji d hd => hdis i j hin hj hji d hd)
        rw [← hdo, ← hput]
        have hcong : acts l (fun j => if j = i then true else listed.getD j false) (fun j => if j = i then v else vs j) a n = acts l (fun j => (listed.setIfInBounds i true).getD j false) (fun j => if j = i then v else vs j) a n := by
          refine acts_congr n fun j hj => ⟨?_, fun _ => rfl⟩
          by_cases hji : j = i
          · subst hji
            rw [if_pos rfl]
            have : j < listed.size := by rw [inv.size]; simp; omega
            simp [this]
          · rw [if_neg hji, getD_set_ne false (Ne.symm hji)]
        rw [hcong]
        refine ih _ _ w2 ?_ (inv.set hi hin) hB2 (fun j hj hlj => ?_) (fun j k hj hk hlj hlk hjk => ?_)
        · have hsz : i < listed.size := by rw [inv.size]; simp; omega
          have := countP_one (f := fun j => !listed.getD j false) (g := fun j => !(listed.setIfInBounds i true).getD j false) (i := i) (by simp only [hunf]; rfl) (by simp [hsz]) (fun j hj => by simp only [getD_set_ne false (Ne.symm hj)]) n
          rw [if_pos hin] at this
          unfold left at hl ⊢
          omega
        · by_cases hji : j = i
          · subst hji
            rw [if_pos rfl]
            exact hRv
          · rw [if_neg hji]
            rw [getD_set_ne false (Ne.symm hji)] at hlj
            exact hext _ _ _ _ hE (hR j hj hlj)
        · by_cases hji : j = i
          · subst hji
            rw [if_pos rfl, if_neg (Ne.symm hjk)]
            rw [getD_set_ne false hjk] at hlk
            exact .inl (hDv k _ hk (Ne.symm hjk) (hR k hk hlk))
          · rw [if_neg hji]
            rw [getD_set_ne false (Ne.symm hji)] at hlj
            by_cases hki : k = i
            · subst hki
              rw [if_pos rfl]
              exact .inr (hDv j _ hj hji (hR j hj hlj))
            · rw [if_neg hki]
              rw [getD_set_ne false (Ne.symm hki)] at hlk
              exact hD j k hj hk hlj hlk hjk
      unfold wpOp
      rw [ho']
      unfold WpG at hst
      simp only
      split
      · rename_i hw
        rw [if_pos hw] at hst
        exact .inl (Oper.wp_mono (fun a' w2 h => hgo a' w2 h) hst)
      · rename_i hw
        rw [if_neg hw] at hst
        exact hgo _ _ hst
  have h0 : left n (Array.replicate l.length false) = n := by
    unfold left
    have : ((List.range n).countP fun i => !(Array.replicate l.length false).getD i false) = (List.range n).length := by
      rw [List.countP_eq_length]
      intro i _
      rw [getD_replicate_false]
      rfl
    rw [this, List.length_range]
  have hmain := main n (Array.replicate l.length false) (fun _ => undef) w.drew h0
    ⟨by simp, fun j oj _ hl => (by rw [getD_replicate_false] at hl; cases hl), fun t _ ht => getD_in (by simpa using ht) (getD_replicate_false _ _)⟩ hB0 (fun i _ hl => by rw [getD_replicate_false] at hl; cases hl) (fun i j _ _ hl => by rw [getD_replicate_false] at hl; cases hl)
  have e1 : acts l (fun i => (Array.replicate l.length false).getD i false) (fun _ => undef) a n = a := by
    have : ∀ k, acts l (fun i => (Array.replicate l.length false).getD i false) (fun _ => undef) a k = a := by
      intro k
      induction k with
      | zero => rfl
      | succ k ih => unfold acts; rw [if_neg (by rw [getD_replicate_false]; decide), ih]
    exact this n
  rw [e1, show n + (l.length - n) = l.length by omega] at hmain
  exact hmain
theorem wp_call_inv {o : Oper} {a : Act} {w : World} {K : Act → World → Prop} {Q : Exit → Act → World → Prop} (f : FuncId) (xs : Array Operand) (tys : Array TypeId)
    (ho : o.op = .call { callee := .value (.func f), args := xs, argTypes := tys }) (args : Array Value) (ha : xs.map a.eval = args) (hf : ∀ w, (callFunc f args).run P w = .ok (.enter f args) w) {Post : Value → World → Prop}
    (hc : Calls P f args w fun e w' => ∃ v, e = .returned v ∧ Post v w') (hK : ∀ v w', Post v w' → K (a.put o.dst v) w') : o.wp P a w K Q := by
  have he : (execOp a.eval o).run P w = .ok (.enter f args) w := by
    obtain ⟨d, op, ty, pos, aft, g⟩ := o
    simp only at ho
    subst ho
    have e : execOp a.eval { dst := d, op := .call { callee := .value (.func f), args := xs, argTypes := tys }, type := ty, pos := pos, after := aft, guard := g } = callFunc f (#[] ++ xs.map a.eval ++ #[]) := rfl
    rw [e, ha, Array.append_empty, Array.empty_append]
    exact hf w
  unfold Oper.wp
  rw [he]
  refine Calls.mono hc ?_
  rintro e w' ⟨v, rfl, hp⟩
  exact hK v w' hp
theorem wp_value_inv {o : Oper} {a : Act} {w w' : World} {K : Act → World → Prop} {Q : Exit → Act → World → Prop} (v : Value) (h : (execOp a.eval o).run P w = .ok (.value v) w') (hK : K (a.put o.dst v) w') : o.wp P a w K Q := by
  unfold Oper.wp
  rw [h]
  exact hK
end
end Go.Proofs.Ytfkgdjoaoidkeaa
namespace Go.Proofs.Ytfkgdjoaoidkeaa
open Go.RowKit Go.ChangeShapes
set_option linter.unusedVariables false
theorem run_eql_arr (w : World) (T : TypeId) (n : Nat) (A Bb : List UInt8) (hT : Try.prog.underlying T = some (.array n 5)) (hA : A.length = n) (hB : Bb.length = n) :
    (binOp .eql T (.agg (A.map bv).toArray) (.agg (Bb.map bv).toArray)).run Try.prog w = .ok (.bool (A == Bb)) w :=
  run_eql_bytes w T 5 n hT Try.underlying5 (fun w => by kernel_rfl) A Bb hA hB
section
variable {P : Program} {w : World} {o : Oper} {a : Act}
theorem op_move {x : Operand} {v : Value} (ho : o.op = .move x) (hv : a.eval x = v) : (execOp a.eval o).run P w = .ok (.value v) w := by
  unfold execOp
  rw [ho]
  simp only [hv]
  rfl
theorem op_pick {c x y : Operand} {b : Bool} {v : Value} (ho : o.op = .pick c x y) (hc : a.eval c = .bool b) (hv : (if b = true then a.eval x else a.eval y) = v) : (execOp a.eval o).run P w = .ok (.value v) w := by
  unfold execOp
  rw [ho]
  simp only [hc, asBool, Sem.run_bind, Sem.run_pure, Result.andThen_ok, hv]
theorem op_bin {op : BinOp} {t t' : TypeId} {x y : Operand} {vx vy v : Value} (ho : o.op = .binOp op t x y t') (hx : a.eval x = vx) (hy : a.eval y = vy) (hg : (eqGuard op t x y vx vy).run P w = .ok () w) (hr : (binOp op t vx vy).run P w = .ok v w) : (execOp a.eval o).run P w = .ok (.value v) w := by
  unfold execOp
  rw [ho]
  simp only [hx, hy, Sem.run_bind, hg, hr, Result.andThen_ok]
  rfl
end
theorem op_rows {P : Program} {w w' : World} {o : Oper} {a : Act} {t : TypeId} {n : Nat} {ps : Array (Nat × Operand)} {vs : Array (Nat × Value)} {v : Value} (ho : o.op = .buildSlice t n ps) (hp : (ps.map fun x => (x.1, a.eval x.2)) = vs) (hr : (Instr.buildSlice t n vs).run P w = .ok v w') : (execOp a.eval o).run P w = .ok (.value v) w' := by
  subst hp
  unfold execOp
  rw [ho]
  simp only [Sem.run_bind]
  rw [hr]
  rfl
theorem wpList_value {P : Program} {ops : Array Oper} {rest : List Oper} {o : Oper} {a : Act} {w : World} {Q : Exit → Act → World → Prop} (hgd : o.guard = none) (v : Value) (w' : World) (h : (execOp a.eval o).run P w = .ok (.value v) w')
    (hK : wpList P ops Q rest (a.put o.dst v) w') : wpList P ops Q (o :: rest) a w :=
  wpList_plain hgd fun _ hK' => wp_value_inv v h (hK' _ _ hK)
theorem wpList_one {P : Program} {ops : Array Oper} {rest : List Oper} {o : Oper} {a : Act} {w : World} {Q : Exit → Act → World → Prop} (hgd : o.guard = none) (t : TypeId) (x : Operand) (ho : o.op = .buildSlice t 1 #[(0, x)]) (y v : Value) (w' : World) (hx : a.eval x = y)
    (hr : (Instr.buildSlice t 1 #[(0, y)]).run P w = .ok v w') (hK : wpList P ops Q rest (a.put o.dst v) w') : wpList P ops Q (o :: rest) a w :=
  wpList_value hgd v w' (op_rows (vs := #[(0, y)]) ho (by simp [hx]) hr) hK
theorem op_build {P : Program} {w : World} {o : Oper} {a : Act} {t : TypeId} {ps : Array (Nat × Operand)} {vs : Array (Nat × Value)} {cells : Array Value} (ho : o.op = .build t ps) (hp : (ps.map fun x => (x.1, a.eval x.2)) = vs) (hc : P.built t vs.toList = some cells) : (execOp a.eval o).run P w = .ok (.value (.agg cells)) w := by
  subst hp
  unfold execOp
  rw [ho]
  simp only [Sem.run_bind, run_build w t _ cells hc, Result.andThen_ok]
  rfl
end Go.Proofs.Ytfkgdjoaoidkeaa
namespace Go.Proofs.Ytfkgdjoaoidkeaa
open Go.RowKit Go.ChangeShapes
set_option linter.unusedVariables false
def ltC (s : List UInt8) : Array Value := (s.map bv).toArray
theorem ltC_size (s : List UInt8) : (ltC s).size = s.length := by simp [ltC]
theorem ltC_one (s : List UInt8) : (ltC s).all (·.oneCell') = true := all_oneCell_toArray (bv_one _)
def zLet : Array Value := #[.int .u8 0, .int .u8 0, .int .u8 0, .int .u8 0, .int .u8 0, .int .u8 0, .int .u8 0, .int .u8 0, .int .u8 0, .int .u8 0, .int .u8 0, .int .u8 0, .int .u8 0, .int .u8 0, .int .u8 0, .int .u8 0, .int .u8 0, .int .u8 0, .int .u8 0, .int .u8 0, .int .u8 0, .int .u8 0, .int .u8 0, .int .u8 0, .int .u8 0, .int .u8 0, .int .u8 0, .int .u8 0, .int .u8 0, .int .u8 0, .int .u8 0, .int .u8 0]
theorem zLet_size : zLet.size = 32 := rfl
theorem run_arr (w : World) (a : Option Addr) (n c : Nat) (h : 32 ≤ n) : (Instr.arrayAt 47 (.slice a n c)).run Try.prog w = .ok (.pointer a) w := by
  simp [Instr.arrayAt, run_underlying Try.underlying47, show ¬ n < 32 by omega]
theorem str_bytes (L : List UInt8) : (⟨L.toArray⟩ : ByteArray).data.toList = L := rfl
theorem str_size (L : List UInt8) : (⟨L.toArray⟩ : ByteArray).size = L.length := by simp [ByteArray.size]
theorem BytesIn.range {F : Nat → Prop} {w : World} {g n cap : Nat} {L : List UInt8} (h : BytesIn F w (.slice (some ⟨g, 0, none⟩) n cap) L) : w.rangeAt g 0 (L.map bv) := by
  obtain ⟨ao, c, hv, h1, h2, h3, h4⟩ := h
  simp only [Value.slice.injEq] at hv
  obtain ⟨rfl, rfl, rfl⟩ := hv
  intro j v hv
  have := (h4 _ rfl).1 j v hv
  rw [addr_plain] at this
  exact this
set_option maxRecDepth 100000 in
set_option maxHeartbeats 2000000 in
theorem lettersOf_any (H : List UInt8) (hH : H.length = 20) (w : World) :
    Calls Try.prog 18 #[.agg (H.map bv).toArray] w fun e w' => e = .returned (.agg (ltC (letL H))) ∧ Fr (fun _ => False) w w' := by
  obtain ⟨C, hC⟩ : ∃ C, C = (H.map bv).toArray := ⟨_, rfl⟩
  have hcs : C.size = 20 := by rw [hC]; simp [hH]
  have HBL := Lib.hid (fun W => bLetters_any H hH W)
  rw [← hC] at HBL ⊢
  have HL := Lib.hid (letL_length H)
  obtain ⟨L, hL⟩ : ∃ L, L = letL H := ⟨_, rfl⟩
  rw [← hL] at HBL HL ⊢
  clear hC hL
  have hzi : (Try.prog.info? 47).map (·.size) = some (L.map bv).toArray.size := by rw [List.size_toArray, List.length_map, HL.out]; kernel_rfl
  have hl1 : (L.map bv).toArray.all (·.oneCell') = true := ltC_one L
  have hzz : zLet.size = (L.map bv).toArray.size := zLet_size.trans (by rw [List.size_toArray, List.length_map, HL.out])
  obtain ⟨W, hW⟩ : ∃ W, W = (w.alloc (.cells C 24)).alloc (.cells zLet 47) := ⟨_, rfl⟩
  have HW := Lib.hid (show (w.alloc (.cells C 24)).alloc (.cells #[.int .u8 0, .int .u8 0, .int .u8 0, .int .u8 0, .int .u8 0, .int .u8 0, .int .u8 0, .int .u8 0, .int .u8 0, .int .u8 0, .int .u8 0, .int .u8 0, .int .u8 0, .int .u8 0, .int .u8 0, .int .u8 0, .int .u8 0, .int .u8 0, .int .u8 0, .int .u8 0, .int .u8 0, .int .u8 0, .int .u8 0, .int .u8 0, .int .u8 0, .int .u8 0, .int .u8 0, .int .u8 0, .int .u8 0, .int .u8 0, .int .u8 0, .int .u8 0] 47) = W by rw [hW]; rfl)
  have hf0 : Fr (fun _ => False) w W := by rw [hW]; exact ((Fr.refl _ _).alloc _).alloc _
  have hr1 : W.heap[w.heap.size]? = some (.cells C 24 (0, 0)) := by rw [hW]; exact heap_alloc2_old w _ _
  have hr2 : W.heap[w.heap.size + 1]? = some (.cells zLet 47 (0, 0)) := by rw [hW]; exact heap_alloc2_new w _ _
  have HR := Lib.hid (And.intro hf0 hr2)
  clear hW hf0 hr2
  go_enter Try.func18, Try.ntmps18
  go_wp2_with (first
    | (rw [HW.out]; (with_reducible refine wpList_load_row rfl 24 (.tmp 1) rfl w.heap.size rfl 24 C (0, 0) _ hr1 Try.underlying24 rfl (by rw [hcs]; kernel_rfl) ?_); clear HW)
    | (go_at_call 9; refine (HBL.out _).mono ?_; rintro e w2 ⟨rfl, hf2⟩; (obtain ⟨cap, W3, hcv, hf3, hb3, hs3⟩ := run_tag w2 ⟨L.toArray⟩ (by rw [str_size, HL.out]; decide)); rw [str_size, HL.out] at hcv hb3; rw [str_bytes] at hb3; (have har := run_arr W3 (some ⟨w2.heap.size, 0, none⟩) 32 cap (Nat.le_refl _)); (have hrg := hb3.range); (have hLs : (Try.prog.info? 47).map (·.size) = some (L.map bv).length := by rw [List.length_map, HL.out]; kernel_rfl); (have HR3 := Lib.hid (And.intro (HR.out.1.trans (hf2.trans hf3 (fun _ h => .inl h)) (fun _ h => h.elim)) (hf3.heap (hf2.heap HR.out.2 (fun h => h)) (fun h => h)))); clear hf2 hf3 hb3 hs3)
    | (with_reducible refine wpList_load_mid rfl 47 (.tmp 6) rfl w2.heap.size 0 rfl (L.map bv) _ hrg Try.underlying47 rfl hLs ?_)
    | (with_reducible refine wpList_store_row rfl 47 (.tmp 2) (.tmp 7) rfl (w.heap.size + 1) (L.map bv).toArray zLet 47 rfl rfl HR3.out.2 hzi hzz hl1 ?_))
  have hfin := setRow_heap W3 (w.heap.size + 1) zLet (L.map bv).toArray 47 (0, 0) HR3.out.2
  refine bodyPost_ret (results_cell_row rfl _ _ (w.heap.size + 1) 47 (ltC L) (0, 0) _ rfl hfin Try.underlying47 rfl hzi) rfl ?_
  exact ⟨rfl, HR3.out.1.setRow (.inr (by omega)) _⟩
end Go.Proofs.Ytfkgdjoaoidkeaa
