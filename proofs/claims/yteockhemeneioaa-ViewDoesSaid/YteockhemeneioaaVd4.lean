/- Laid together: VOf0 VInv VPt0 -/
import Derived.Test.YteockhemeneioaaVd3
import Derived.Test.YteockhemeneioaaVd2
import Derived.Test.YteockhemeneioaaVd1
import Derived.Laws.Tables

namespace Go.Proofs.Yteockhemeneioaa
open Go.RowKit Go.ChangeShapes Go.Maps Go.WideMaps
set_option linter.unusedVariables false
def zR : Value := .agg (pathC (List.replicate 20 0) ⟨#[]⟩)
theorem zeroR {w : World} : (zeroValue 43).run Try.prog w = .ok zR w := by kernel_rfl
def KpV (T : Nat → Prop) (A B : World) : Prop := Fr T A B ∧ ∀ k, StrB A k → B.heap[k]? = A.heap[k]?
theorem StrB.lt {w : World} {k : Nat} (h : StrB w k) : k < w.heap.size := by obtain ⟨cs, fr, s, h1, _⟩ := h; exact lt_of_block h1
theorem StrB.same {A B : World} {k : Nat} (h : StrB A k) (e : B.heap[k]? = A.heap[k]?) : StrB B k := by obtain ⟨cs, fr, s, h1, h2⟩ := h; exact ⟨cs, fr, s, by rw [e]; exact h1, h2⟩
theorem KpV.trans {T : Nat → Prop} {A B C : World} (h : KpV T A B) (k : KpV T B C) : KpV T A C := ⟨h.1.trans k.1 (fun _ h => .inl h), fun i hi => by rw [k.2 i (hi.same (h.2 i hi)), h.2 i hi]⟩
theorem KpV.of {S T : Nat → Prop} {A B : World} (h : Fr S A B) (h1 : ∀ k, k < A.heap.size → S k → T k) (h2 : ∀ k, StrB A k → ¬ S k) : KpV T A B := ⟨h.mono h1, fun k hk => h.block k hk.lt (h2 k hk)⟩
theorem StrB.keep {S : Nat → Prop} {A B : World} {k : Nat} (h : StrB A k) (hf : Fr S A B) (hs : ¬ S k) : StrB B k := h.same (hf.block k h.lt hs)
theorem FrV.grew {A B : World} (h : Fr (fun _ => False) A B) : A.grownBy B none := ⟨h.os, h.tape, h.output, h.size, fun k hk _ => h.block k hk id⟩
section
variable {α : Type}
abbrev KeyV (M : VT α) := {k : Bs // (vGet M k).isSome = true}
def getV {M : VT α} (x : KeyV M) : α := (vGet M x.1).get x.2
theorem getV_eq {M : VT α} (x : KeyV M) : vGet M x.1 = some (getV x) := by unfold getV; simp
def keysV (M : VT α) (P : Bs) : List (KeyV M) := (vKeys M P).attach.map (fun k => ⟨k.1, (vKeys_mem.1 k.2).1⟩)
theorem keysV_map (M : VT α) (P : Bs) : (keysV M P).map (·.1) = vKeys M P := by unfold keysV; rw [List.map_map]; exact List.attach_map_subtype_val _
theorem keysV_length (M : VT α) (P : Bs) : (keysV M P).length = (vKeys M P).length := by unfold keysV; simp
def rowV {M : VT α} (x : KeyV M) : Bs × α := (x.1, getV x)
theorem rowsV_map {M : VT α} (hM : VOk M) (P : Bs) : (keysV M P).map rowV = M.filter (fun p => Lib.hasPrefix p.1 P) := by
  have h2 : (M.filter (fun p => Lib.hasPrefix p.1 P)).map (·.1) = vKeys M P := rfl
  have h3 : ((keysV M P).map rowV).map (·.1) = vKeys M P := by rw [List.map_map]; exact keysV_map M P
  refine List.ext_getElem (by rw [List.length_map, keysV_length, ← h2, List.length_map]) fun i hi hj => ?_
  have hi2 : i < (keysV M P).length := by simpa using hi
  have e1 : ((keysV M P).map rowV)[i].1 = (M.filter (fun p => Lib.hasPrefix p.1 P))[i].1 := by
    have a : (((keysV M P).map rowV).map (·.1))[i]'(by simpa using hi2) = ((M.filter (fun p => Lib.hasPrefix p.1 P)).map (·.1))[i]'(by simpa using hj) := List.getElem_of_eq (h3.trans h2.symm) _
    simpa only [List.getElem_map] using a
  have hm := (List.mem_filter.1 (List.getElem_mem hj)).1
  have hg := vGet_of_mem hM hm
  rw [← e1] at hg
  have hx := getV_eq ((keysV M P)[i])
  have e2 : ((keysV M P).map rowV)[i] = rowV (keysV M P)[i] := List.getElem_map ..
  rw [e2] at e1 hg ⊢
  have e3 : vGet M (rowV (keysV M P)[i]).1 = some (getV (keysV M P)[i]) := hx
  rw [e3] at hg
  exact Prod.ext e1 (Option.some.inj hg)
def encV {M : VT α} (val : Bs → Value) (x : KeyV M) : Array Value := #[encStr x.1, val x.1]
theorem ThAt.vals {K : VKind α} {F : Nat → Prop} {w : World} {tm n : Nat} {B : Int → VT α} (h : ThAt K F w tm n B) (who : Int) (hw : Wf who) (hl : ∀ p ∈ B who, p.1.length ≤ 64) : ∃ (D : DataW Value) (val : Bs → Value), w.ownsMap Try.prog 114 heldR9 tm n D ∧ ∀ k x, vGet (B who) k = some x → (∀ z, D.atKey (keyP who k) z = .held (val k)) ∧ K.vi F w (val k) x := by
  obtain ⟨D, h1, h2, h3⟩ := h
  have : ∀ k, ∃ v, ∀ x, vGet (B who) k = some x → (∀ z, D.atKey (keyP who k) z = .held v) ∧ K.vi F w v x := fun k => by
    cases hg : vGet (B who) k with
    | none => exact ⟨.nilFunc, fun b h => by cases h⟩
    | some x =>
      have hk := hl _ (vGet_mem hg)
      obtain ⟨v, hv⟩ := h3 who k x hw (by unfold maxLen; simp only at hk; omega) hg
      exact ⟨v, fun x' e => by obtain rfl := Option.some.inj e; exact hv⟩
  obtain ⟨f, hf⟩ := Classical.axiomOfChoice this
  exact ⟨D, f, h1, hf⟩
end
end Go.Proofs.Yteockhemeneioaa
namespace Go.Proofs.Yteockhemeneioaa
open Go.RowKit
set_option linter.unusedVariables false
section
variable {P : Program}
def InvStep9 (P : Program) (l : List Oper) (n : Nat) (Q : Exit → Act → World → Prop) (B : (Nat → Bool) → World → Prop) (R : Nat → Value → World → Prop) (D : Nat → Nat → Value → Value → Prop) (Ext : World → World → Prop) (a0 : Act) (i : Nat) (o : Oper) : Prop :=
  ∀ (a : Act) (w : World) (vs : Nat → Value) (f : Nat → Bool), f i = false → B f w → a.tmps.size = a0.tmps.size →
    (∀ j t, waitsOn o j = true → dstAt l j = some t → f j = true ∧ R j (vs j) w ∧ a.eval (.tmp t) = vs j) →
    (∀ t, untouched l n t = true → a.eval (.tmp t) = a0.eval (.tmp t)) →
    WpG P l o a w (fun a' w' => ∃ v, a' = a.put o.dst v ∧ B (fun k => if k = i then true else f k) w' ∧ Ext w w' ∧ R i v w' ∧ ∀ j u, j < n → j ≠ i → R j u w → D i j v u) Q
theorem wp_region_inv9 {id : Nat} {Q : Exit → Act → World → Prop} {a : Act} {w : World} {l : List Oper} (n : Nat) (hm : P.follows .mixedOrders = true) (hB : invB l n a.tmps.size = true)
    (B : (Nat → Bool) → World → Prop) (R : Nat → Value → World → Prop) (D : Nat → Nat → Value → Value → Prop) (Ext : World → World → Prop) (hext : ∀ j u w w', Ext w w' → R j u w → R j u w') (hB0 : B (fun _ => false) w.drew)
    (hstep : ∀ i, i < n → ∀ o, l[i]? = some o → InvStep9 P l n Q B R D Ext a i o)
    (htail : ∀ f vs w', (∀ i, i < n → f i = true) → B f w' → (∀ i, i < n → R i (vs i) w') → (∀ i j, i < n → j < n → i ≠ j → D i j (vs i) (vs j) ∨ D j i (vs j) (vs i)) → wpList P l.toArray Q (l.drop n) (acts l (fun _ => true) vs a n) w') : (Code.region id l.toArray true).wp P Q a w := by
  simp only [invB, Bool.and_eq_true, decide_eq_true_eq, Bool.or_eq_true] at hB
  obtain ⟨⟨⟨⟨hn, hops⟩, hdst⟩, hwait⟩, hseq⟩ := hB
  have hop : ∀ i, i < n → ∃ o, l[i]? = some o ∧ (∀ e ∈ o.after, Region.binds .any e = true → e.on < i) ∧ (∀ d, o.dst = some d → d < a.tmps.size) := by
    intro i hi
    have h := List.all_eq_true.1 hops i (List.mem_range.2 hi)
    cases ho : l[i]? with
    | none => rw [ho] at h; cases h
    | some o =>
      rw [ho] at h
      simp only [Bool.and_eq_true] at h
      obtain ⟨h2, h3⟩ := h
      refine ⟨o, rfl, fun e he hb => ?_, fun d hd => ?_⟩
      · have := Array.all_eq_true_iff_forall_mem.1 h2 e he
        rw [hb] at this
        simpa using this
      · rw [hd] at h3
        simpa using h3
  have hdis : ∀ i j, i < n → j < n → j ≠ i → ∀ d, dstAt l i = some d → dstAt l j ≠ some d := by
    intro i j hi hj hji d hd hd2
    have h := List.all_eq_true.1 (List.all_eq_true.1 hdst i (List.mem_range.2 hi)) j (List.mem_range.2 hj)
    rw [hd, hd2] at h
    simp at h
    omega
  refine wp_region_any hm ?_
  have main : ∀ (m : Nat) (listed : Array Bool) (vs : Nat → Value) (w' : World), left n listed = m → HeadInv .any l.toArray n listed → B (fun i => listed.getD i false) w' → (∀ i, i < n → listed.getD i false = true → R i (vs i) w') →
      (∀ i j, i < n → j < n → listed.getD i false = true → listed.getD j false = true → i ≠ j → D i j (vs i) (vs j) ∨ D j i (vs j) (vs i)) →
      wpAny P .any l.toArray Q (m + (l.length - n)) listed (acts l (fun i => listed.getD i false) vs a n) w' := by
    intro m
    induction m with
    | zero =>
      intro listed vs w' hl inv hBw hR hD
      have hall : ∀ i, i < n → listed.getD i false = true := fun i hi => by simpa using countP_zero n hl i hi
      have hlisted : listed = (List.replicate n true ++ List.replicate (l.length - n) false).toArray := by
        apply Array.ext
        · rw [inv.size]; simp; omega
        · intro i h1 h2
          have hi : i < l.length := by rw [inv.size] at h1; simpa using h1
          have e1 : listed[i] = listed.getD i false := by simp [h1]
          rw [e1]
          by_cases h : i < n
          · rw [hall i h]
            simp [h]
          · rw [getD_both (inv.tail i (by omega) (by simpa using hi))]
            simp [List.getElem_append, h]
      have hact : acts l (fun i => listed.getD i false) vs a n = acts l (fun _ => true) vs a n := acts_congr n fun j hj => ⟨hall j hj, fun _ => rfl⟩
      rw [hact, Nat.zero_add]
      have hdl : (l.drop n).length = l.length - n := by simp
      rw [← hdl]
      refine wpAny_of_seq (l.drop n) n listed _ w' (fun j => by simp [List.getElem?_drop]) ?_ (htail _ vs w' hall hBw (fun i hi => hR i hi (hall i hi)) (fun i j hi hj hij => hD i j hi hj (hall i hi) (hall j hj) hij))
      rw [hdl, hlisted]
      exact hseq
    | succ m ih =>
      intro listed vs w' hl inv hBw hR hD
      have hex : ∃ i, i < n ∧ listed.getD i false = false := by
        by_cases h : ∃ i, i < n ∧ listed.getD i false = false
        · exact h
        · exfalso
          have : left n listed = 0 := by
            unfold left
            rw [List.countP_eq_zero]
            intro i hi
            have hi' := List.mem_range.1 hi
            cases hg : listed.getD i false with
            | true => simp
            | false => exact absurd ⟨i, hi', hg⟩ h
          omega
      obtain ⟨i0, hi0, hun0⟩ := hex
      have hne : Region.ready .any l.toArray listed ≠ [] := by
        obtain ⟨i1, ⟨hi1, hun1⟩, hmin⟩ := least (p := fun i => i < n ∧ listed.getD i false = false) i0 ⟨hi0, hun0⟩
        obtain ⟨o, ho, hback, _⟩ := hop i1 hi1
        have : i1 ∈ Region.ready .any l.toArray listed := by
          refine mem_ready.2 ⟨getD_in (by rw [inv.size]; simp; omega) hun1, o, by simpa using ho, fun e he hb => ?_⟩
          have h1 := hback e he hb
          cases hg : listed.getD e.on false with
          | true => rfl
          | false => exact absurd ⟨by omega, hg⟩ (hmin e.on h1)
        intro h
        rw [h] at this
        cases this
      rw [show m + 1 + (l.length - n) = (m + (l.length - n)) + 1 by omega]
      refine ⟨fun h => absurd h hne, fun i hi => ?_⟩
      have hin : i < n := by
        rcases Nat.lt_or_ge i n with h | h
        · exact h
        · exfalso
          rcases hwait with hw | ⟨⟨hs, hc⟩, hlt⟩
          · obtain ⟨_, o, ho, _⟩ := mem_ready.1 hi
            have := (Array.getElem?_eq_some_iff.1 ho).1
            simp at this
            omega
          · exact tail_waits hs hc (by simpa using hlt) inv _ i0 rfl hi0 (getD_in (by rw [inv.size]; simp; omega) hun0) i h hi
      obtain ⟨hun, o', ho', hall⟩ := mem_ready.1 hi
      obtain ⟨o, ho, hback, hds⟩ := hop i hin
      have : o' = o := by simpa [ho] using ho'.symm
      subst this
      have hdo : dstAt l i = o'.dst := by simp [dstAt, ho]
      have hunf := getD_both hun
      have hst := hstep i hin o' ho (acts l (fun i => listed.getD i false) vs a n) w' vs (fun i => listed.getD i false) hunf hBw (acts_size n)
        (fun j t hj ht => by
          obtain ⟨e, he, hb⟩ := Array.any_eq_true'.1 hj
          simp only [Bool.and_eq_true, beq_iff_eq] at hb
          obtain ⟨hb, rfl⟩ := hb
          have h1 := hall e he hb
          have h2 := hback e he hb
          refine ⟨h1, hR e.on (by omega) h1, ?_⟩
          obtain ⟨oe, hoe, _, hde⟩ := hop e.on (by omega)
          exact acts_eval_eq h1 ht (hde t (by simpa [dstAt, hoe] using ht)) n (by omega) (fun j hj hji => hdis e.on j (by omega) hj hji t ht))
        (fun t ht => acts_eval_ne n (fun j hj => by simpa using List.all_eq_true.1 ht j (List.mem_range.2 hj)))
      have hgo : ∀ a' w2, (∃ v, a' = (acts l (fun i => listed.getD i false) vs a n).put o'.dst v ∧ B (fun k => if k = i then true else listed.getD k false) w2 ∧ Ext w' w2 ∧ R i v w2 ∧ ∀ j u, j < n → j ≠ i → R j u w' → D i j v u) →
          wpAny P .any l.toArray Q (m + (l.length - n)) (listed.setIfInBounds i true) a' w2 := by
        rintro a' w2 ⟨v, rfl, hB2, hE, hRv, hDv⟩
        have hput := acts_put (l := l) (f := fun i => listed.getD i false) (vs := vs) (a0 := a) (i := i) (v := v) hunf n hin (fun j hj hji d hd => hdis i j hin hj hji d hd)
        rw [← hdo, ← hput]
        have hcong : acts l (fun j => if j = i then true else listed.getD j false) (fun j => if j = i then v else vs j) a n = acts l (fun j => (listed.setIfInBounds i true).getD j false) (fun j => if j = i then v else vs j) a n := by
          refine acts_congr n fun j hj => ⟨?_, fun _ => rfl⟩
          by_cases hji : j = i
          · subst hji
            rw [if_pos rfl]
            have : j < listed.size := by rw [inv.size]; simp; omega
            simp [this]
          · rw [if_neg hji, getD_set_ne false (Ne.symm hji)]
        rw [hcong]
        have hBs : (fun k => if k = i then true else listed.getD k false) = (fun k => (listed.setIfInBounds i true).getD k false) := by
          funext k
          by_cases hki : k = i
          · subst hki
            rw [if_pos rfl]
            have : k < listed.size := by rw [inv.size]; simp; omega
            simp [this]
          · rw [if_neg hki, getD_set_ne false (Ne.symm hki)]
        rw [hBs] at hB2
        refine ih _ _ w2 ?_ (inv.set hi hin) hB2 (fun j hj hlj => ?_) (fun j k hj hk hlj hlk hjk => ?_)
        · have hsz : i < listed.size := by rw [inv.size]; simp; omega
          have := countP_one (f := fun j => !listed.getD j false) (g := fun j => !(listed.setIfInBounds i true).getD j false) (i := i) (by simp only [hunf]; rfl) (by simp [hsz]) (fun j hj => by simp only [getD_set_ne false (Ne.symm hj)]) n
          rw [if_pos hin] at this
          unfold left at hl ⊢
          omega
        · by_cases hji : j = i
          · subst hji
            rw [if_pos rfl]
            exact hRv
          · rw [if_neg hji]
            rw [getD_set_ne false (Ne.symm hji)] at hlj
            exact hext _ _ _ _ hE (hR j hj hlj)
        · by_cases hji : j = i
          · subst hji
            rw [if_pos rfl, if_neg (Ne.symm hjk)]
            rw [getD_set_ne false hjk] at hlk
            exact .inl (hDv k _ hk (Ne.symm hjk) (hR k hk hlk))
          · rw [if_neg hji]
            rw [getD_set_ne false (Ne.symm hji)] at hlj
            by_cases hki : k = i
            · subst hki
              rw [if_pos rfl]
              exact .inr (hDv j _ hj hji (hR j hj hlj))
            · rw [if_neg hki]
              rw [getD_set_ne false (Ne.symm hki)] at hlk
              exact hD j k hj hk hlj hlk hjk
      unfold wpOp
      rw [ho']
      unfold WpG at hst
      simp only
      split
      · rename_i hw
        rw [if_pos hw] at hst
        exact .inl (Oper.wp_mono (fun a' w2 h => hgo a' w2 h) hst)
      · rename_i hw
        rw [if_neg hw] at hst
        exact hgo _ _ hst
  have h0 : left n (Array.replicate l.length false) = n := by
    unfold left
    have : ((List.range n).countP fun i => !(Array.replicate l.length false).getD i false) = (List.range n).length := by
      rw [List.countP_eq_length]
      intro i _
      rw [getD_replicate_false]
      rfl
    rw [this, List.length_range]
  have hmain := main n (Array.replicate l.length false) (fun _ => undef) w.drew h0
    ⟨by simp, fun j oj _ hl => (by rw [getD_replicate_false] at hl; cases hl), fun t _ ht => getD_in (by simpa using ht) (getD_replicate_false _ _)⟩ (by have e : (fun i => (Array.replicate l.length false).getD i false) = (fun _ => false) := funext fun i => getD_replicate_false _ _; rw [e]; exact hB0) (fun i _ hl => by rw [getD_replicate_false] at hl; cases hl) (fun i j _ _ hl => by rw [getD_replicate_false] at hl; cases hl)
  have e1 : acts l (fun i => (Array.replicate l.length false).getD i false) (fun _ => undef) a n = a := by
    have : ∀ k, acts l (fun i => (Array.replicate l.length false).getD i false) (fun _ => undef) a k = a := by
      intro k
      induction k with
      | zero => rfl
      | succ k ih => unfold acts; rw [if_neg (by rw [getD_replicate_false]; decide), ih]
    exact this n
  rw [e1, show n + (l.length - n) = l.length by omega] at hmain
  exact hmain
theorem wp_skip_inv {o : Oper} {a : Act} {w w' : World} {K : Act → World → Prop} {Q : Exit → Act → World → Prop} (h : (execOp a.eval o).run P w = .ok .skip w') (hK : K (a.put o.dst undef) w') : o.wp P a w K Q := by
  unfold Oper.wp
  rw [h]
  exact hK
end
end Go.Proofs.Yteockhemeneioaa
namespace Go.Proofs.Yteockhemeneioaa
open Go.RowKit Go.ChangeShapes
set_option linter.unusedVariables false
def zC : Array Value := pathC (List.replicate 20 0) ⟨#[]⟩
theorem zC_lit : zC = #[.int .u8 0, .int .u8 0, .int .u8 0, .int .u8 0, .int .u8 0, .int .u8 0, .int .u8 0, .int .u8 0, .int .u8 0, .int .u8 0, .int .u8 0, .int .u8 0, .int .u8 0, .int .u8 0, .int .u8 0, .int .u8 0, .int .u8 0, .int .u8 0, .int .u8 0, .int .u8 0, .string ⟨#[]⟩] := by kernel_rfl
theorem allocR (w : World) : (Instr.alloc 43 true (.tuple #[])).run Try.prog w = .ok (.pointer (some ⟨w.heap.size, 0, none⟩)) (w.alloc (.cells zC 43)) := by kernel_rfl
theorem geq9 {w : World} {T : TypeId} {x y : Int} {b : Bool} (h : decide (y ≤ x) = b) : (binOp .geq T (.int .i64 x) (.int .i64 y)).run Try.prog w = .ok (.bool b) w := by
  subst h
  by_cases hx : y ≤ x
  · rw [decide_eq_true hx]; exact geq_yes hx
  · rw [decide_eq_false hx]; exact geq_no (by omega)
theorem addL (w : World) {T : TypeId} {L : Nat} (h : L ≤ 1000000) : (binOp .add T (.int .i64 (L : Nat)) (.int .i64 1)).run Try.prog w = .ok (.int .i64 (L + 1 : Nat)) w := add_in5 (by push_cast; rfl) (by omega) (by omega)
theorem subL (w : World) {T : TypeId} {L : Nat} (h : 1 ≤ L ∧ L ≤ 1000000) : (binOp .sub T (.int .i64 (L : Nat)) (.int .i64 1)).run Try.prog w = .ok (.int .i64 (L - 1 : Nat)) w := sub_in5 (by omega) (by omega) (by omega)
theorem ldX {w : World} {xb : Nat} {C : Array Value} (h : w.heap[xb]? = some (.cells C 43 (0, 0))) (hC : C.size = 21) : ∀ W, Fr (fun _ => False) w W → (Instr.loadAt 43 (.pointer (some ⟨xb, 0, none⟩))).run Try.prog W = .ok (.agg C) W := fun W hf => by
  simp only [Instr.loadAt, Instr.sureAddr, Sem.run_bind, Sem.run_pure, Result.andThen_ok, run_loadVar_row W xb _ _ C (0, 0) _ (hf.heap h id) Try.underlying43 rfl (show (Try.prog.info? 43).map (·.size) = some C.size by rw [hC]; kernel_rfl)]
theorem results_cell_row {P : Program} {fn : Func} {p : Tmp} {ty : TypeId} (h : fn.results = #[.cell p ty]) (tmps : Array Value) (w : World) (g : Nat) (t : TypeId) (cs : Array Value) (fr : Nat × Nat) (d : TypeDesc)
    (hp : tmps.getD p undef = .pointer (some ⟨g, 0, none⟩)) (hg : w.heap[g]? = some (.cells cs t fr))
    (hu : P.underlying ty = some d) (hd : (match d with | .struct _ | .array _ _ => true | _ => false) = true) (hi : (P.info? ty).map (·.size) = some cs.size) :
    (results fn tmps).run P w = .ok (.agg cs) w := by
  have hp' : tmps[p]?.getD undef = .pointer (some ⟨g, 0, none⟩) := by simpa using hp
  simp [results, h, hp', asAddr, run_loadVar_row w g t ty cs fr d hg hu hd hi]
theorem results_cell_row_tmp {P : Program} {fn : Func} {p u : Tmp} {ty : TypeId} (h : fn.results = #[.cell p ty, .tmp u]) (tmps : Array Value) (w : World) (g : Nat) (t : TypeId) (cs : Array Value) (fr : Nat × Nat) (d : TypeDesc)
    (hp : tmps.getD p undef = .pointer (some ⟨g, 0, none⟩)) (hg : w.heap[g]? = some (.cells cs t fr))
    (hu : P.underlying ty = some d) (hd : (match d with | .struct _ | .array _ _ => true | _ => false) = true) (hi : (P.info? ty).map (·.size) = some cs.size) :
    (results fn tmps).run P w = .ok (.tuple #[.agg cs, tmps.getD u undef]) w := by
  have hp' : tmps[p]?.getD undef = .pointer (some ⟨g, 0, none⟩) := by simpa using hp
  simp [results, h, hp', asAddr, run_loadVar_row w g t ty cs fr d hg hu hd hi]
theorem ldP {w : World} {pb : Nat} {i : Int} {N : ByteArray} (h : w.heap[pb]? = some (.cells #[.int .i64 i, .string N] 114 (0, 0))) : ∀ W, Fr (fun _ => False) w W → (Instr.loadAt 114 (.pointer (some ⟨pb, 0, none⟩))).run Try.prog W = .ok (.agg #[.int .i64 i, .string N]) W := fun W hf => by
  simp only [Instr.loadAt, Instr.sureAddr, Sem.run_bind, Sem.run_pure, Result.andThen_ok, run_loadVar_row W pb _ _ _ (0, 0) _ (hf.heap h id) place_under rfl (show (Try.prog.info? 114).map (·.size) = some (#[Value.int .i64 i, .string N] : Array Value).size by kernel_rfl)]
theorem ldW {w : World} {pb : Nat} {i : Int} {N : ByteArray} (h : w.heap[pb]? = some (.cells #[.int .i64 i, .string N] 114 (0, 0))) : ∀ W, Fr (fun _ => False) w W → (Instr.loadAt 3 (.pointer (some ⟨pb, 0, none⟩))).run Try.prog W = .ok (.int .i64 i) W := fun W hf => load_int5 W ⟨pb, 0, none⟩ _ (cell_of_row _ _ _ _ _ _ (hf.heap h id))
section
variable {α : Type} {B : Int → VT α} {n : Nat}
theorem upd_len {who : Int} {M : VT α} {m : Nat} (h : M.length = m) : upd (fun i => (B i).length) who m = fun i => (upd B who M i).length := by
  funext i
  by_cases e : i = who
  · subst e
    rw [upd_same, upd_same, h]
  · rw [upd_other _ _ e, upd_other _ _ e]
theorem len_self {who : Int} {M : VT α} (h : M.length = (B who).length) : (fun i => (B i).length) = fun i => (upd B who M i).length := by
  rw [← upd_len h]
  exact (upd_self (fun i => (B i).length) who).symm
theorem okPut (h : ∀ i, VOk (B i) ∧ (B i).length ≤ n ∧ ∀ p ∈ B i, p.1.length ≤ 64) (who : Int) (N : ByteArray) (hN : N.size ≤ 64) (x : α) : ∀ i, VOk (upd B who (vPut (B who) N.data.toList x) i) ∧ (upd B who (vPut (B who) N.data.toList x) i).length ≤ n + 1 ∧ ∀ p ∈ upd B who (vPut (B who) N.data.toList x) i, p.1.length ≤ 64 := fun i => by
  by_cases e : i = who
  · subst e
    rw [upd_same]
    refine ⟨(h i).1.put _ _, ?_, fun p hp => ?_⟩
    · rw [vPut_len (h i).1]
      have := (h i).2.1
      split <;> omega
    · rcases vPut_keys hp with rfl | hp
      · show N.data.toList.length ≤ 64
        rw [size_list]; exact hN
      · exact (h i).2.2 p hp
  · rw [upd_other _ _ e]
    exact ⟨(h i).1, Nat.le_succ_of_le (h i).2.1, (h i).2.2⟩
theorem okDel (h : ∀ i, VOk (B i) ∧ (B i).length ≤ n ∧ ∀ p ∈ B i, p.1.length ≤ 64) (who : Int) (s : Bs) : ∀ i, VOk (upd B who (vDel (B who) s) i) ∧ (upd B who (vDel (B who) s) i).length ≤ n + 1 ∧ ∀ p ∈ upd B who (vDel (B who) s) i, p.1.length ≤ 64 := fun i => by
  by_cases e : i = who
  · subst e
    rw [upd_same]
    refine ⟨(h i).1.del _, ?_, fun p hp => (h i).2.2 p (List.mem_filter.1 hp).1⟩
    have := vDel_le (B i) s
    have := (h i).2.1
    omega
  · rw [upd_other _ _ e]
    exact ⟨(h i).1, Nat.le_succ_of_le (h i).2.1, (h i).2.2⟩
end
def B9 (ia ib z : Nat) (C0 C : Array Value) (T : TypeId) (W1 : World) (f : Nat → Bool) (W : World) : Prop :=
  Fr (fun _ => False) W1 W ∧ (f ia = false → W.heap.size = z) ∧ (f ia = true → W.heap[z]? = some (.cells (if f ib = true then C else C0) T (0, 0))) ∧ (f ib = true → f ia = true)
section
variable {ia ib z : Nat} {C0 C : Array Value} {T : TypeId} {W1 W : World} {f : Nat → Bool}
theorem B9.start (hz : W1.heap.size = z) : B9 ia ib z C0 C T W1 (fun _ => false) W1.drew := ⟨(Fr.refl _ _).drew, fun _ => hz, (fun h => by cases h), (fun h => by cases h)⟩
theorem B9.pure {i : Nat} (h : B9 ia ib z C0 C T W1 f W) (h1 : ia ≠ i) (h2 : ib ≠ i) : B9 ia ib z C0 C T W1 (fun k => if k = i then true else f k) W := by
  unfold B9 at h ⊢
  simp only [if_neg h1, if_neg h2]
  exact h
theorem B9.alloc (h : B9 ia ib z C0 C T W1 f W) (hf : f ia = false) (hi : ia ≠ ib) : W.heap.size = z ∧ B9 ia ib z C0 C T W1 (fun k => if k = ia then true else f k) (W.alloc (.cells C0 T)) := by
  have hb : f ib = false := by
    cases hq : f ib with
    | false => rfl
    | true => have := h.2.2.2 hq; rw [hf] at this; cases this
  refine ⟨h.2.1 hf, h.1.alloc _, fun h => by simp at h, fun _ => ?_, fun h => by simp⟩
  simp only [if_neg hi.symm, hb]
  rw [← h.2.1 hf]
  exact heap_alloc_new W _
theorem B9.store (h : B9 ia ib z C0 C T W1 f W) (hz : W1.heap.size = z) (ha : f ia = true) (hf : f ib = false) (hi : ia ≠ ib) : W.heap[z]? = some (.cells C0 T (0, 0)) ∧ B9 ia ib z C0 C T W1 (fun k => if k = ib then true else f k) (W.setRow z C) := by
  have h1 := h.2.2.1 ha
  rw [hf] at h1
  simp only [Bool.false_eq_true, if_false] at h1
  refine ⟨h1, h.1.setRow (.inr (by omega)) C, fun h => ?_, fun _ => ?_, fun _ => ?_⟩
  · simp only [if_neg hi] at h
    rw [ha] at h; cases h
  · simp only [if_true]
    exact setRow_heap W z C0 C T (0, 0) h1
  · simp only [if_neg hi]
    exact ha
theorem B9.done (h : B9 ia ib z C0 C T W1 f W) (ha : f ia = true) (hb : f ib = true) : Fr (fun _ => False) W1 W ∧ W.heap[z]? = some (.cells C T (0, 0)) := by
  have h1 := h.2.2.1 ha
  rw [hb] at h1
  simp only [if_true] at h1
  exact ⟨h.1, h1⟩
end
theorem wpList_mu {w w' : World} {ops : Array Oper} {rest : List Oper} {o : Oper} {a : Act} {Q : Exit → Act → World → Prop} (hg : o.guard = none) (t : TypeId) (m x v : Operand) (hop : o.op = Op.mapUpdate t m x v) (mv xv vv : Value) (hm : a.eval m = mv) (hx : a.eval x = xv) (hv : a.eval v = vv)
    (hr : (Instr.mapUpdate t mv xv vv).run Try.prog w = .ok () w') (hK : wpList Try.prog ops Q rest (a.put o.dst undef) w') : wpList Try.prog ops Q (o :: rest) a w := by
  refine wpList_plain hg fun K' hK' => ?_
  unfold Oper.wp
  simp [execOp, hop, hm, hx, hv, hr, Result.andThen]
  exact hK' _ _ hK
theorem wpList_dl {w w' : World} {ops : Array Oper} {rest : List Oper} {o : Oper} {a : Act} {Q : Exit → Act → World → Prop} (hg : o.guard = none) (t k : TypeId) (m x : Operand) (hop : o.op = Op.call { callee := Callee.builtin Builtin.delete, args := #[m, x], argTypes := #[t, k] }) (mv xv : Value) (hm : a.eval m = mv) (hx : a.eval x = xv)
    (hr : ∀ ty, (Builtin.delete_ #[t, k] ty #[mv, xv]).run Try.prog w = .ok (.tuple #[]) w') (hK : wpList Try.prog ops Q rest (a.put o.dst (.tuple #[])) w') : wpList Try.prog ops Q (o :: rest) a w := by
  refine wpList_plain hg fun K' hK' => ?_
  unfold Oper.wp
  simp [execOp, hop, resolve, invoke, builtin, hm, hx, hr, Result.andThen]
  exact hK' _ _ hK
end Go.Proofs.Yteockhemeneioaa
