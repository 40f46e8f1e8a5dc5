/- Laid together: InvIn VOfR -/
import Derived.Test.YtdpaobflknkbkaaVe2
import Derived.Test.YtdpaobflknkbkaaVe11
import Derived.Test.YtdpaobflknkbkaaVe3

namespace Go.Proofs.Ytdpaobflknkbkaa
open Go.RowKit
set_option linter.unusedVariables false
section
variable {P : Program}
theorem Oper.wpIn_of_wp {F : Fence} {n : Nat} (hF : WideF F) {o : Oper} (hd : ∀ c, o.op ≠ Op.defer c) {a : Act} {w : World} {K : Act → World → Prop} {Q : Exit → Act → World → Prop} (h : o.wp P a w K Q) : o.wpIn F n P a w K Q := by
  refine ⟨fun f _ => hF.fn f, ?_⟩
  rw [Oper.semAt_plain F _ _ hd]
  unfold Oper.wp at h
  generalize (execOp a.eval o).run P w = r at *
  cases r with
  | ok m w' =>
    cases m
    case value v => exact h
    case skip => exact h
    case defer d => exact h
    case enter f args =>
      refine ⟨fun hx => hF.free hx, hF.calls (Calls.mono h fun e w2 he => ?_)⟩
      cases e <;> exact he
    case row r args =>
      refine ⟨fun hx => hF.free hx, ?_⟩
      cases hF with
      | out =>
        intro c cs _
        obtain ⟨v, w2, hr, hs⟩ := h c cs
        exact ⟨v, w2, hr, stepsIn_wide.2 hs⟩
      | round l =>
        intro c cs _
        obtain ⟨v, w2, hr, hs⟩ := h c cs
        exact ⟨v, w2, hr, stepsIn_wide.2 hs⟩
    all_goals exact absurd h (by simp [Oper.upon])
  | halt x w' =>
    cases x <;> first | exact h | exact absurd h (by simp [Oper.upon])
theorem wpIn_region_inv {F : Fence} {fl : Nat} (hF : WideF F) {id : Nat} {Q : Exit → Act → World → Prop} {a : Act} {w : World} {l : List Oper} (n : Nat) (hm : P.follows .mixedOrders = true) (hdf : ∀ (i : Nat) (o : Oper), l[i]? = some o → ∀ c, o.op ≠ Op.defer c) (hB : invB l n a.tmps.size = true)
    (B : World → Prop) (R : Nat → Value → World → Prop) (D : Nat → Nat → Value → Value → Prop) (Ext : World → World → Prop) (hext : ∀ j u w w', Ext w w' → R j u w → R j u w') (hB0 : B w.drew)
    (hstep : ∀ i, i < n → ∀ o, l[i]? = some o → InvStep P l n Q B R D Ext a i o)
    (htail : ∀ vs w', B w' → (∀ i, i < n → R i (vs i) w') → (∀ i j, i < n → j < n → i ≠ j → D i j (vs i) (vs j) ∨ D j i (vs j) (vs i)) → wpListIn F fl P l.toArray Q (l.drop n) (acts l (fun _ => true) vs a n) w') : (Code.region id l.toArray true).wpIn F fl P Q a w := by
  simp only [invB, Bool.and_eq_true, decide_eq_true_eq, Bool.or_eq_true] at hB
  obtain ⟨⟨⟨⟨hn, hops⟩, hdst⟩, hwait⟩, hseq⟩ := hB
  have hop : ∀ i, i < n → ∃ o, l[i]? = some o ∧ (∀ e ∈ o.after, Region.binds .any e = true → e.on < i) ∧ (∀ d, o.dst = some d → d < a.tmps.size) := by
    intro i hi
    have h := List.all_eq_true.1 hops i (List.mem_range.2 hi)
    cases ho : l[i]? with
    | none => rw [ho] at h; cases h
    | some o =>
      rw [ho] at h
      simp only [Bool.and_eq_true] at h
      obtain ⟨h2, h3⟩ := h
      refine ⟨o, rfl, fun e he hb => ?_, fun d hd => ?_⟩
      · have := Array.all_eq_true_iff_forall_mem.1 h2 e he
        rw [hb] at this
        simpa using this
      · rw [hd] at h3
        simpa using h3
  have hdis : ∀ i j, i < n → j < n → j ≠ i → ∀ d, dstAt l i = some d → dstAt l j ≠ some d := by
    intro i j hi hj hji d hd hd2
    have h := List.all_eq_true.1 (List.all_eq_true.1 hdst i (List.mem_range.2 hi)) j (List.mem_range.2 hj)
    rw [hd, hd2] at h
    simp at h
    omega
  refine wpIn_region_any hm ?_
  have main : ∀ (m : Nat) (listed : Array Bool) (vs : Nat → Value) (w' : World), left n listed = m → HeadInv .any l.toArray n listed → B w' → (∀ i, i < n → listed.getD i false = true → R i (vs i) w') →
      (∀ i j, i < n → j < n → listed.getD i false = true → listed.getD j false = true → i ≠ j → D i j (vs i) (vs j) ∨ D j i (vs j) (vs i)) →
      wpAnyIn F fl P .any l.toArray Q (m + (l.length - n)) listed (acts l (fun i => listed.getD i false) vs a n) w' := by
    intro m
    induction m with
    | zero =>
      intro listed vs w' hl inv hBw hR hD
      have hall : ∀ i, i < n → listed.getD i false = true := fun i hi => by simpa using countP_zero n hl i hi
      have hlisted : listed = (List.replicate n true ++ List.replicate (l.length - n) false).toArray := by
        apply Array.ext
        · rw [inv.size]; simp; omega
        · intro i h1 h2
          have hi : i < l.length := by rw [inv.size] at h1; simpa using h1
          have e1 : listed[i] = listed.getD i false := by simp [h1]
          rw [e1]
          by_cases h : i < n
          · rw [hall i h]
            simp [h]
          · rw [getD_both (inv.tail i (by omega) (by simpa using hi))]
            simp [List.getElem_append, h]
      have hact : acts l (fun i => listed.getD i false) vs a n = acts l (fun _ => true) vs a n := acts_congr n fun j hj => ⟨hall j hj, fun _ => rfl⟩
      rw [hact, Nat.zero_add]
      have hdl : (l.drop n).length = l.length - n := by simp
      rw [← hdl]
      refine wpAnyIn_of_seq (l.drop n) n listed _ w' (fun j => by simp [List.getElem?_drop]) ?_ (htail vs w' hBw (fun i hi => hR i hi (hall i hi)) (fun i j hi hj hij => hD i j hi hj (hall i hi) (hall j hj) hij))
      rw [hdl, hlisted]
      exact hseq
    | succ m ih =>
      intro listed vs w' hl inv hBw hR hD
      have hex : ∃ i, i < n ∧ listed.getD i false = false := by
        by_cases h : ∃ i, i < n ∧ listed.getD i false = false
        · exact h
        · exfalso
          have : left n listed = 0 := by
            unfold left
            rw [List.countP_eq_zero]
            intro i hi
            have hi' := List.mem_range.1 hi
            cases hg : listed.getD i false with
            | true => simp
            | false => exact absurd ⟨i, hi', hg⟩ h
          omega
      obtain ⟨i0, hi0, hun0⟩ := hex
      have hne : Region.ready .any l.toArray listed ≠ [] := by
        obtain ⟨i1, ⟨hi1, hun1⟩, hmin⟩ := least (p := fun i => i < n ∧ listed.getD i false = false) i0 ⟨hi0, hun0⟩
        obtain ⟨o, ho, hback, _⟩ := hop i1 hi1
        have : i1 ∈ Region.ready .any l.toArray listed := by
          refine mem_ready.2 ⟨getD_in (by rw [inv.size]; simp; omega) hun1, o, by simpa using ho, fun e he hb => ?_⟩
          have h1 := hback e he hb
          cases hg : listed.getD e.on false with
          | true => rfl
          | false => exact absurd ⟨by omega, hg⟩ (hmin e.on h1)
        intro h
        rw [h] at this
        cases this
      rw [show m + 1 + (l.length - n) = (m + (l.length - n)) + 1 by omega]
      refine ⟨fun h => absurd h hne, fun i hi => ?_⟩
      have hin : i < n := by
        rcases Nat.lt_or_ge i n with h | h
        · exact h
        · exfalso
          rcases hwait with hw | ⟨⟨hs, hc⟩, hlt⟩
          · obtain ⟨_, o, ho, _⟩ := mem_ready.1 hi
            have := (Array.getElem?_eq_some_iff.1 ho).1
            simp at this
            omega
          · exact tail_waits hs hc (by simpa using hlt) inv _ i0 rfl hi0 (getD_in (by rw [inv.size]; simp; omega) hun0) i h hi
      obtain ⟨hun, o', ho', hall⟩ := mem_ready.1 hi
      obtain ⟨o, ho, hback, hds⟩ := hop i hin
      have : o' = o := by simpa [ho] using ho'.symm
      subst this
      have hdo : dstAt l i = o'.dst := by simp [dstAt, ho]
      have hunf := getD_both hun
      have hst := hstep i hin o' ho (acts l (fun i => listed.getD i false) vs a n) w' vs hBw (acts_size n)
        (fun j t hj ht => by
          obtain ⟨e, he, hb⟩ := Array.any_eq_true'.1 hj
          simp only [Bool.and_eq_true, beq_iff_eq] at hb
          obtain ⟨hb, rfl⟩ := hb
          have h1 := hall e he hb
          have h2 := hback e he hb
          refine ⟨hR e.on (by omega) h1, ?_⟩
          obtain ⟨oe, hoe, _, hde⟩ := hop e.on (by omega)
          exact acts_eval_eq h1 ht (hde t (by simpa [dstAt, hoe] using ht)) n (by omega) (fun j hj hji => hdis e.on j (by omega) hj hji t ht))
        (fun t ht => acts_eval_ne n (fun j hj => by simpa using List.all_eq_true.1 ht j (List.mem_range.2 hj)))
      have hgo : ∀ a' w2, (∃ v, a' = (acts l (fun i => listed.getD i false) vs a n).put o'.dst v ∧ B w2 ∧ Ext w' w2 ∧ R i v w2 ∧ ∀ j u, j < n → j ≠ i → R j u w' → D i j v u) →
          wpAnyIn F fl P .any l.toArray Q (m + (l.length - n)) (listed.setIfInBounds i true) a' w2 := by
        rintro a' w2 ⟨v, rfl, hB2, hE, hRv, hDv⟩
        have hput := acts_put (l := l) (f := fun i => listed.getD i false) (vs := vs) (a0 := a) (i := i) (v := v) hunf n hin (fun j hj hji d hd => hdis i j hin hj hji d hd)
        rw [← hdo, ← hput]
        have hcong : acts l (fun j => if j = i then true else listed.getD j false) (fun j => if j = i then v else vs j) a n = acts l (fun j => (listed.setIfInBounds i true).getD j false) (fun j => if j = i then v else vs j) a n := by
          refine acts_congr n fun j hj => ⟨?_, fun _ => rfl⟩
          by_cases hji : j = i
          · subst hji
            rw [if_pos rfl]
            have : j < listed.size := by rw [inv.size]; simp; omega
            simp [this]
          · rw [if_neg hji, getD_set_ne false (Ne.symm hji)]
        rw [hcong]
        refine ih _ _ w2 ?_ (inv.set hi hin) hB2 (fun j hj hlj => ?_) (fun j k hj hk hlj hlk hjk => ?_)
        · have hsz : i < listed.size := by rw [inv.size]; simp; omega
          have := countP_one (f := fun j => !listed.getD j false) (g := fun j => !(listed.setIfInBounds i true).getD j false) (i := i) (by simp only [hunf]; rfl) (by simp [hsz]) (fun j hj => by simp only [getD_set_ne false (Ne.symm hj)]) n
          rw [if_pos hin] at this
          unfold left at hl ⊢
          omega
        · by_cases hji : j = i
          · subst hji
            rw [if_pos rfl]
            exact hRv
          · rw [if_neg hji]
            rw [getD_set_ne false (Ne.symm hji)] at hlj
            exact hext _ _ _ _ hE (hR j hj hlj)
        · by_cases hji : j = i
          · subst hji
            rw [if_pos rfl, if_neg (Ne.symm hjk)]
            rw [getD_set_ne false hjk] at hlk
            exact .inl (hDv k _ hk (Ne.symm hjk) (hR k hk hlk))
          · rw [if_neg hji]
            rw [getD_set_ne false (Ne.symm hji)] at hlj
            by_cases hki : k = i
            · subst hki
              rw [if_pos rfl]
              exact .inr (hDv j _ hj hji (hR j hj hlj))
            · rw [if_neg hki]
              rw [getD_set_ne false (Ne.symm hki)] at hlk
              exact hD j k hj hk hlj hlk hjk
      unfold wpOpIn
      rw [ho']
      unfold WpG at hst
      simp only
      split
      · rename_i hw
        rw [if_pos hw] at hst
        exact Oper.wpIn_mono (fun a' w2 h => hgo a' w2 h) (Oper.wpIn_of_wp hF (hdf i o' ho) hst)
      · rename_i hw
        rw [if_neg hw] at hst
        exact ⟨fun f _ => hF.fn f, hgo _ _ hst⟩
  have h0 : left n (Array.replicate l.length false) = n := by
    unfold left
    have : ((List.range n).countP fun i => !(Array.replicate l.length false).getD i false) = (List.range n).length := by
      rw [List.countP_eq_length]
      intro i _
      rw [getD_replicate_false]
      rfl
    rw [this, List.length_range]
  have hmain := main n (Array.replicate l.length false) (fun _ => undef) w.drew h0
    ⟨by simp, fun j oj _ hl => (by rw [getD_replicate_false] at hl; cases hl), fun t _ ht => getD_in (by simpa using ht) (getD_replicate_false _ _)⟩ hB0 (fun i _ hl => by rw [getD_replicate_false] at hl; cases hl) (fun i j _ _ hl => by rw [getD_replicate_false] at hl; cases hl)
  have e1 : acts l (fun i => (Array.replicate l.length false).getD i false) (fun _ => undef) a n = a := by
    have : ∀ k, acts l (fun i => (Array.replicate l.length false).getD i false) (fun _ => undef) a k = a := by
      intro k
      induction k with
      | zero => rfl
      | succ k ih => unfold acts; rw [if_neg (by rw [getD_replicate_false]; decide), ih]
    exact this n
  rw [e1, show n + (l.length - n) = l.length by omega] at hmain
  exact hmain
end
end Go.Proofs.Ytdpaobflknkbkaa
namespace Go.Proofs.Ytdpaobflknkbkaa
open Go.RowKit Go.ChangeShapes Go.Maps Go.WideMaps
set_option linter.unusedVariables false
attribute [local go_sem] Oper.semAt_some
structure ItR (F : Nat → Prop) (bk tm mm n : Nat) (B : Int → VT PathX) (who : Int) (P : ByteArray) (Bp Bw Bq : Nat) (D : DataW Value) (W : World) : Prop where
  box : W.cell? ⟨Bp, 0, none⟩ = some (.pointer (some ⟨bk, 0, none⟩))
  bw : W.cell? ⟨Bw, 0, none⟩ = some (.int .i64 who)
  bq : W.cell? ⟨Bq, 0, none⟩ = some (.string P)
  at_ : BkAt kR 118 F W bk tm mm n B
  own : W.ownsMap Try.prog 114 heldR9 tm n D
theorem ItR.keep {S F : Nat → Prop} {bk tm mm n : Nat} {B : Int → VT PathX} {who : Int} {P : ByteArray} {Bp Bw Bq : Nat} {D : DataW Value} {W W' : World} (h : ItR F bk tm mm n B who P Bp Bw Bq D W) (hf : Fr S W W') (h1 : ¬ S Bp) (h2 : ¬ S Bw) (h3 : ¬ S Bq) (h4 : ¬ S bk) (h5 : ¬ S tm) (h6 : ¬ S mm) (h7 : ∀ k, k < W.heap.size → F k → ¬ S k) : ItR F bk tm mm n B who P Bp Bw Bq D W' :=
  ⟨hf.cell h.box h1, hf.cell h.bw h2, hf.cell h.bq h3, h.at_.keep hf h4 h5 h6 h7, ownsMap_kept9 h.own hf h5⟩
theorem look_valR {w : World} {tm n : Nat} {D : DataW Value} (h : w.ownsMap Try.prog 114 heldR9 tm n D) (i : Int) (hi : Wf i) (N : ByteArray) (hN : N.size ≤ 1000000) {x : Value} (hx : ∀ z, D.atKey (keyP i N.data.toList) z = .held x) : (Instr.lookup 115 (.map (some tm)) (.agg #[.int .i64 i, .string N]) false).run Try.prog w = .ok x w := by
  obtain ⟨v, ps, hr, hv⟩ := h.lookup (t := 115) (e := 43) lawPl Try.underlying115 (z := zR) zeroR (zd := .held zR) (zp := []) rfl (keyP_of i N hi (by unfold maxLen; omega))
  rw [hx, heldR9] at hv
  simp only [Option.some.injEq, Prod.mk.injEq, DataW.held.injEq] at hv
  rw [show Value.agg #[.int .i64 i, .string N] = .agg (plC i N) from rfl, hr, hv.1]
theorem fldOfR_0_0 (w : World) (g : Nat) : (Instr.fieldAt 118 (.pointer (some ⟨g, 0, none⟩)) 0).run Try.prog w = .ok (.pointer (some ⟨g, 0, none⟩)) w := by kernel_rfl
def OfRR (l Bp Bw bk tm : Nat) (who : Int) (N : ByteArray) (xv : Value) (i : Nat) (v : Value) (W : World) : Prop :=
  match i with
  | 0 => v = .func (.yield l) #[] #[]
  | 1 => v = .string N
  | 2 => v = .pointer (some ⟨bk, 0, none⟩)
  | 3 => v = .pointer (some ⟨bk, 0, none⟩)
  | 4 => v = .pointer (some ⟨bk, 0, none⟩)
  | 5 => v = .map (some tm)
  | 6 => v = .int .i64 who
  | 7 => v = .string N
  | 8 => v = .agg #[.int .i64 who, .string N]
  | 9 => v = xv
  | _ => True
theorem OfRR.ext (l Bp Bw bk tm : Nat) (who : Int) (N : ByteArray) (xv : Value) : ∀ (j : Nat) (u : Value) (W W' : World), Fr (fun _ => False) W W' → OfRR l Bp Bw bk tm who N xv j u W → OfRR l Bp Bw bk tm who N xv j u W'
  | 0, u, W, W', hf, h => h
  | 1, u, W, W', hf, h => h
  | 2, u, W, W', hf, h => h
  | 3, u, W, W', hf, h => h
  | 4, u, W, W', hf, h => h
  | 5, u, W, W', hf, h => h
  | 6, u, W, W', hf, h => h
  | 7, u, W, W', hf, h => h
  | 8, u, W, W', hf, h => h
  | 9, u, W, W', hf, h => h
  | _ + 10, u, W, W', hf, h => trivial
set_option maxRecDepth 100000 in
set_option maxHeartbeats 4000000 in
theorem of1R_in {T F : Nat → Prop} (n0 : Nat) (l Bp Bw Bq bk tm mm n : Nat) (B : Int → VT PathX) (who : Int) (hw : Wf who) (hn : n ≤ 100000) (P : ByteArray) (D : DataW Value) (val : Bs → Value) (hval : ∀ k x, vGet (B who) k = some x → ∀ z, D.atKey (keyP who k) z = .held (val k))
    (hT1 : ¬ T Bp) (hT2 : ¬ T Bw) (hT3 : ¬ T Bq) (hT4 : ¬ T bk) (hT5 : ¬ T tm) (hT6 : ¬ T mm) (hT7 : ∀ k, F k → ¬ T k) (B0 : Nat) (J Jx : List (KeyV (B who)) → World → Prop) (hJ : AbidesFrom B0 J)
    (hY : ∀ pre x W, J pre W → pre.length < (vKeys (B who) P.data.toList).length → YieldAt Fence.wide (n0 - 1) Try.prog l (encV val x) W fun e W' =>
      (e = .returned (.bool true) ∧ J (pre ++ [x]) W' ∧ KpV T W W') ∨ (e = .returned (.bool false) ∧ Jx (pre ++ [x]) W'))
    (W : World) (hR : ItR F bk tm mm n B who P Bp Bw Bq D W) (h0 : J [] W) :
    CallsIn Fence.wide n0 Try.prog 76 #[.func (.yield l) #[] #[], .pointer (some ⟨Bp, 0, none⟩), .pointer (some ⟨Bw, 0, none⟩), .pointer (some ⟨Bq, 0, none⟩)] W fun e W' => (∃ v, e = .returned v) ∧
      ((∃ ys, ys = keysV (B who) P.data.toList ∧ J ys W') ∨ (∃ pre, pre <+: keysV (B who) P.data.toList ∧ Jx pre W')) := by
  obtain ⟨hbx, hbw, hbq, hrw, hown⟩ := id hR
  have hkeys := WideF.out.calls (n := n0 - 1) (namesR_any W hrw hn who hw P)
  have HR := Lib.hid hR
  have HY := Lib.hid hY
  have HJ := Lib.hid hJ
  have HT := Lib.hid (And.intro hT1 (And.intro hT2 (And.intro hT3 (And.intro hT4 (And.intro hT5 (And.intro hT6 hT7))))))
  have HKE := Lib.hid hkeys
  have HV := Lib.hid hval
  have HWN := Lib.hid (And.intro hw hn)
  clear hR hY hJ hT1 hT2 hT3 hT4 hT5 hT6 hT7 hrw hown hkeys hval hw hn
  refine callsIn_of_wp Try.func76 rfl trivial ?_ rfl
  simp only [Try.ntmps76, List.size_toArray, List.length_cons, List.length_nil, Nat.reduceAdd, Nat.reduceSub, Array.replicate_succ, Array.replicate_zero, List.push_toArray, List.append_toArray, List.nil_append, List.cons_append]
  obtain ⟨m, hm⟩ : ∃ m, m = (vKeys (B who) P.data.toList).length := ⟨_, rfl⟩
  have HM := Lib.hid hm
  gi_wp2_with (refine ⟨trivial, fun hx => WideF.out.free hx, ?_⟩; gi_at_call 77; refine HKE.out.mono ?_; rintro e w2 ⟨v, rfl, he2, hf2, hs2⟩; (obtain ⟨ao, cap, rfl, hc1, hc2, hc3, hc4⟩ := id he2); rw [List.length_map] at he2 hc1 ⊢; rw [← hm] at he2 hc1 hs2 ⊢; (have H2 := Lib.hid (And.intro he2 (And.intro hf2 (And.intro hs2 hc4)))); clear he2 hf2 hs2 hc3 hc4)
  have hJ2 : J [] w2 := HJ.out _ _ _ none h0 (FrV.grew H2.out.2.1) (fun r e => by cases e)
  have HR2 := Lib.hid (HR.out.keep H2.out.2.1 id id id id id id (fun _ _ _ h => h))
  have HS2 := Lib.hid (show ∀ i (h : i < (vKeys (B who) P.data.toList).length), ∃ g off, ao = some ⟨g, off, none⟩ ∧ StrB w2 g ∧ w2.cell? ⟨g, off + i, none⟩ = some (encStr (vKeys (B who) P.data.toList)[i]) from fun i h => by
    obtain ⟨b, off, ha, hF, hi⟩ := H2.out.2.2.2 (by intro e; rw [List.map_eq_nil_iff] at e; rw [e] at h; simp at h)
    obtain ⟨g, c, hv, hst⟩ := H2.out.2.2.1 (by intro e; rw [e] at h; simp at h)
    simp only [Value.slice.injEq] at hv
    have h5 := hi i (by rw [List.length_map]; exact h) 0 (by decide)
    rw [List.getElem_map] at h5
    rw [ha] at hv
    have e2 : b = g ∧ off = 0 := by have := hv.1; simp at this; exact this
    exact ⟨b, off, ha, by rw [e2.1]; exact hst, by rw [show off + i = off + i * 1 + 0 by omega]; exact h5⟩)
  clear h0
  gi_loopw [12] (fun iv wr => ∃ i : Nat, i ≤ m ∧ iv = .int .i64 i ∧ J ((keysV (B who) P.data.toList).take i) wr ∧ Hid (ItR F bk tm mm n B who P Bp Bw Bq D wr ∧ KpV T w2 wr)) (fun iv _ => m - (intOf iv).toNat)
  case atStart => exact ⟨0, by omega, rfl, hJ2, Lib.hid ⟨HR2.out, Fr.refl _ _, fun _ _ => rfl⟩⟩
  case round =>
    clear hJ2
    obtain ⟨i, hi, rfl, hJs, hRr⟩ := hrel
    by_cases hlt : i < m
    · have hiL : i < (vKeys (B who) P.data.toList).length := by have := HM.out; omega
      obtain ⟨g, off, rfl, hst, hce⟩ := HS2.out i hiL
      have hce2 : wr.cell? ⟨g, off + i, none⟩ = some (encStr (vKeys (B who) P.data.toList)[i]) := by
        rw [World.cell?_of_block (hRr.out.2.2 g hst)]; exact hce
      have hiO : i < (keysV (B who) P.data.toList).length := by rw [keysV_length]; exact hiL
      obtain ⟨x, hx⟩ : ∃ x, x = (keysV (B who) P.data.toList)[i] := ⟨_, rfl⟩
      have hxk : (vKeys (B who) P.data.toList)[i] = x.1 := by
        have h1 : ((keysV (B who) P.data.toList).map (·.1))[i]'(by rw [List.length_map]; exact hiO) = x.1 := by rw [List.getElem_map, hx]
        rw [← h1]
        congr 1
        rw [keysV_map]
      rw [hxk] at hce2
      obtain ⟨b1, b2, b3, b4, b5⟩ := hRr.out.1
      obtain ⟨c0, c1⟩ := b4.cells
      have hxs : x.1.length ≤ 64 := (b4.ok who).2.2 _ (vGet_mem (getV_eq x))
      obtain ⟨N, hN⟩ : ∃ N : ByteArray, encStr x.1 = .string N ∧ N.size ≤ 1000000 ∧ N.data.toList = x.1 := ⟨⟨x.1.toArray⟩, rfl, by show x.1.toArray.size ≤ 1000000; simp; omega, by simp⟩
      obtain ⟨xv, hxv⟩ : ∃ v, v = val x.1 := ⟨_, rfl⟩
      have LD1 := Lib.hid (fun W (hf : Fr (fun _ => False) wr W) => load_one5 W 78 ⟨Bp, 0, none⟩ _ (by kernel_rfl) (hf.cell b1 id))
      have LD3 := Lib.hid (fun W (hf : Fr (fun _ => False) wr W) => load_int5 W ⟨Bw, 0, none⟩ _ (hf.cell b2 id))
      have LD2 := Lib.hid (fun W (hf : Fr (fun _ => False) wr W) => load_one5 W 115 ⟨bk, 0, none⟩ _ (by kernel_rfl) (hf.cell c0 id))
      have LK := Lib.hid (fun W (hf : Fr (fun _ => False) wr W) => look_valR (w := W) (ownsMap_kept9 b5 hf id) who HWN.out.1 N hN.2.1 (x := xv) (by rw [hN.2.2, hxv]; exact HV.out _ _ (getV_eq x)))
      have htk : (keysV (B who) P.data.toList).take (i + 1) = (keysV (B who) P.data.toList).take i ++ [x] := by rw [List.take_succ_eq_append_getElem hiO, hx]
      rw [hN.1] at hce2
      have HXV := Lib.hid (And.intro hN hxv)
      have HTK := Lib.hid (And.intro htk hJs)
      have hi64 : (i : Int) < (m : Int) := by omega
      clear hst hce hx hxk htk b4 b5 hJs hN hxv c0 c1
      gi_wp2
      refine wpIn_region_inv .out 10 (by kernel_rfl) ?nodefer (by kernel_rfl) (fun W => Fr (fun _ => False) wr W) (OfRR l Bp Bw bk tm who N xv) (fun _ _ _ _ => True) (Fr (fun _ => False)) (OfRR.ext l Bp Bw bk tm who N xv) (Fr.refl _ _).drew ?steps ?tail
      case nodefer =>
        intro i o ho c
        rcases i with _ | _ | _ | _ | _ | _ | _ | _ | _ | _ | _ | _ | i <;> simp at ho
        all_goals (subst ho; intro h; cases h)
      case steps =>
        intro i hi o ho
        replace hi : i < 10 := hi
        obtain rfl | rfl | rfl | rfl | rfl | rfl | rfl | rfl | rfl | rfl : i = 0 ∨ i = 1 ∨ i = 2 ∨ i = 3 ∨ i = 4 ∨ i = 5 ∨ i = 6 ∨ i = 7 ∨ i = 8 ∨ i = 9 := by omega
        · simp only [List.getElem?_cons_zero, Option.some.injEq] at ho
          subst ho
          intro a W vs hB hS hE hU
          refine wpG_plain rfl ?_
          have v0 : a.eval (.tmp 0) = .func (.yield l) #[] #[] := (hU 0 (by kernel_rfl)).trans rfl
          clear hE hU
          exact wp_value_inv (w' := W) (.func (.yield l) #[] #[]) (op_move rfl v0) ⟨_, rfl, hB, Fr.refl _ _, rfl, fun _ _ _ _ _ => trivial⟩
        · simp only [List.getElem?_cons_zero, List.getElem?_cons_succ, Option.some.injEq] at ho
          subst ho
          intro a W vs hB hS hE hU
          refine wpG_plain rfl ?_
          have v6 : a.eval (.tmp 6) = .string N := (hU 6 (by kernel_rfl)).trans rfl
          clear hE hU
          exact wp_value_inv (w' := W) (.string N) (op_move rfl v6) ⟨_, rfl, hB, Fr.refl _ _, rfl, fun _ _ _ _ _ => trivial⟩
        · simp only [List.getElem?_cons_zero, List.getElem?_cons_succ, Option.some.injEq] at ho
          subst ho
          intro a W vs hB hS hE hU
          refine wpG_plain rfl ?_
          have v1 : a.eval (.tmp 1) = .pointer (some ⟨Bp, 0, none⟩) := (hU 1 (by kernel_rfl)).trans rfl
          clear hE hU
          exact wp_value_inv (w' := W) (.pointer (some ⟨bk, 0, none⟩)) (op_loadAt rfl v1 (LD1.out W hB)) ⟨_, rfl, hB, Fr.refl _ _, rfl, fun _ _ _ _ _ => trivial⟩
        · simp only [List.getElem?_cons_zero, List.getElem?_cons_succ, Option.some.injEq] at ho
          subst ho
          intro a W vs hB hS hE hU
          refine wpG_plain rfl ?_
          obtain ⟨r2, e18⟩ := hE 2 18 (by kernel_rfl) (by kernel_rfl)
          have v18 : a.eval (.tmp 18) = .pointer (some ⟨bk, 0, none⟩) := e18.trans r2
          clear hE hU
          exact wp_value_inv (w' := W) (.pointer (some ⟨bk, 0, none⟩)) (op_nilCheck rfl v18) ⟨_, rfl, hB, Fr.refl _ _, rfl, fun _ _ _ _ _ => trivial⟩
        · simp only [List.getElem?_cons_zero, List.getElem?_cons_succ, Option.some.injEq] at ho
          subst ho
          intro a W vs hB hS hE hU
          refine wpG_plain rfl ?_
          obtain ⟨r3, e19⟩ := hE 3 19 (by kernel_rfl) (by kernel_rfl)
          have v19 : a.eval (.tmp 19) = .pointer (some ⟨bk, 0, none⟩) := e19.trans r3
          clear hE hU
          exact wp_value_inv (w' := W) (.pointer (some ⟨bk, 0, none⟩)) (op_fieldAddr rfl v19 (fldOfR_0_0 W bk)) ⟨_, rfl, hB, Fr.refl _ _, rfl, fun _ _ _ _ _ => trivial⟩
        · simp only [List.getElem?_cons_zero, List.getElem?_cons_succ, Option.some.injEq] at ho
          subst ho
          intro a W vs hB hS hE hU
          refine wpG_plain rfl ?_
          obtain ⟨r4, e20⟩ := hE 4 20 (by kernel_rfl) (by kernel_rfl)
          have v20 : a.eval (.tmp 20) = .pointer (some ⟨bk, 0, none⟩) := e20.trans r4
          clear hE hU
          exact wp_value_inv (w' := W) (.map (some tm)) (op_loadAt rfl v20 (LD2.out W hB)) ⟨_, rfl, hB, Fr.refl _ _, rfl, fun _ _ _ _ _ => trivial⟩
        · simp only [List.getElem?_cons_zero, List.getElem?_cons_succ, Option.some.injEq] at ho
          subst ho
          intro a W vs hB hS hE hU
          refine wpG_plain rfl ?_
          have v2 : a.eval (.tmp 2) = .pointer (some ⟨Bw, 0, none⟩) := (hU 2 (by kernel_rfl)).trans rfl
          clear hE hU
          exact wp_value_inv (w' := W) (.int .i64 who) (op_loadAt rfl v2 (LD3.out W hB)) ⟨_, rfl, hB, Fr.refl _ _, rfl, fun _ _ _ _ _ => trivial⟩
        · simp only [List.getElem?_cons_zero, List.getElem?_cons_succ, Option.some.injEq] at ho
          subst ho
          intro a W vs hB hS hE hU
          refine wpG_plain rfl ?_
          have v6 : a.eval (.tmp 6) = .string N := (hU 6 (by kernel_rfl)).trans rfl
          clear hE hU
          exact wp_value_inv (w' := W) (.string N) (op_move rfl v6) ⟨_, rfl, hB, Fr.refl _ _, rfl, fun _ _ _ _ _ => trivial⟩
        · simp only [List.getElem?_cons_zero, List.getElem?_cons_succ, Option.some.injEq] at ho
          subst ho
          intro a W vs hB hS hE hU
          refine wpG_plain rfl ?_
          obtain ⟨r6, e22⟩ := hE 6 22 (by kernel_rfl) (by kernel_rfl)
          have v22 : a.eval (.tmp 22) = .int .i64 who := e22.trans r6
          obtain ⟨r7, e23⟩ := hE 7 23 (by kernel_rfl) (by kernel_rfl)
          have v23 : a.eval (.tmp 23) = .string N := e23.trans r7
          clear hE hU
          exact wp_value_inv (w' := W) (.agg #[.int .i64 who, .string N]) (op_build rfl (vs := #[(0, .int .i64 who), (1, .string N)]) (by simp only [List.map_toArray, List.map_cons, List.map_nil, v22, v23]) (place_built _ _)) ⟨_, rfl, hB, Fr.refl _ _, rfl, fun _ _ _ _ _ => trivial⟩
        · simp only [List.getElem?_cons_zero, List.getElem?_cons_succ, Option.some.injEq] at ho
          subst ho
          intro a W vs hB hS hE hU
          refine wpG_plain rfl ?_
          obtain ⟨r5, e21⟩ := hE 5 21 (by kernel_rfl) (by kernel_rfl)
          have v21 : a.eval (.tmp 21) = .map (some tm) := e21.trans r5
          obtain ⟨r8, e24⟩ := hE 8 24 (by kernel_rfl) (by kernel_rfl)
          have v24 : a.eval (.tmp 24) = .agg #[.int .i64 who, .string N] := e24.trans r8
          clear hE hU
          exact wp_value_inv (w' := W) (xv) (op_lookup rfl v21 v24 (LK.out W hB)) ⟨_, rfl, hB, Fr.refl _ _, rfl, fun _ _ _ _ _ => trivial⟩
      case tail =>
        intro vs Wa hB0 hR0 hD
        have r16 : vs 0 = .func (.yield l) #[] #[] := hR0 0 (by decide)
        have r17 : vs 1 = .string N := hR0 1 (by decide)
        have r25 : vs 9 = xv := hR0 9 (by decide)
        have HB := Lib.hid hB0
        have hJa := HJ.out _ _ _ none HTK.out.2 (FrV.grew hB0) (fun r e => by cases e)
        obtain ⟨fn, tmps, assign, body, hy, hRd⟩ := HY.out _ x Wa hJa (by simp; omega)
        simp only [encV, HXV.out.1.1, ← HXV.out.2] at hy
        clear hR0 hD hB0 hJa
        simp only [acts, if_true, dstAt, List.getElem?_cons_zero, List.getElem?_cons_succ, Option.bind_some, Act.put, List.setIfInBounds_toArray, List.set_cons_succ, List.set_cons_zero, List.drop_succ_cons, List.drop_zero]
        simp only [r16, r17, r25]
        clear r16 r17 r25
        gi_wp2
        refine ⟨fun hx => WideF.out.free hx, hRd.mono ?_⟩
        rintro e W3 (⟨rfl, hJ3, hk3⟩ | ⟨rfl, hJx3⟩)
        · have HR3 := Lib.hid (And.intro ((hRr.out.1.keep HB.out id id id id id id (fun _ _ _ h => h)).keep hk3.1 HT.out.1 HT.out.2.1 HT.out.2.2.1 HT.out.2.2.2.1 HT.out.2.2.2.2.1 HT.out.2.2.2.2.2.1 (fun k _ hk => HT.out.2.2.2.2.2.2 k hk)) ((hRr.out.2.trans (KpV.of (S := fun _ => False) HB.out (fun _ _ h => h.elim) (fun _ _ h => h))).trans hk3))
          gi_wp2
          go_roundw
          case rel => exact ⟨i + 1, by omega, by go_num, by rw [HTK.out.1]; exact hJ3, HR3⟩
          case measure => simp [intOf]; omega
        · gi_wp2
          refine bodyPost_ret (results_none rfl _ _ _) rfl ?_
          exact ⟨⟨_, rfl⟩, .inr ⟨_, List.take_prefix _ _, by rw [HTK.out.1]; exact hJx3⟩⟩
    · obtain rfl : i = m := by omega
      gi_wp2
      go_end0
      exact ⟨⟨_, rfl⟩, .inl ⟨_, rfl, by rwa [List.take_of_length_le (by rw [keysV_length, ← HM.out]; exact Nat.le_refl _)] at hJs⟩⟩
theorem ItR.below {F : Nat → Prop} {bk tm mm n : Nat} {B : Int → VT PathX} {who : Int} {P : ByteArray} {Bp Bw Bq : Nat} {D : DataW Value} {w W : World} (h : ItR F bk tm mm n B who P Bp Bw Bq D w) (hF : ∀ k, F k → k < w.heap.size) (hb : Below w.heap.size w W) : ItR F bk tm mm n B who P Bp Bw Bq D W := by
  have h1 := World.block_lt_of_cell? _ _ h.box
  have h2 := World.block_lt_of_cell? _ _ h.bw
  have h3 := World.block_lt_of_cell? _ _ h.bq
  have h4 := h.at_.lt
  simp only at h1 h2 h3
  exact h.keep (Fr.ofBelow hb) (fun h => by omega) (fun h => by omega) (fun h => by omega) (fun h => by omega) (fun h => by omega) (fun h => by omega) (fun k hk hF' h => by omega)
theorem ofR_stops {T F : Nat → Prop} (n0 : Nat) (Bp Bw Bq bk tm mm n : Nat) (B : Int → VT PathX) (who : Int) (hw : Wf who) (hn : n ≤ 100000) (P : ByteArray) (D : DataW Value) (val : Bs → Value) (hval : ∀ k x, vGet (B who) k = some x → ∀ z, D.atKey (keyP who k) z = .held (val k))
    (hT1 : ¬ T Bp) (hT2 : ¬ T Bw) (hT3 : ¬ T Bq) (hT4 : ¬ T bk) (hT5 : ¬ T tm) (hT6 : ¬ T mm) (hT7 : ∀ k, F k → ¬ T k) (w : World) (hF : ∀ k, F k → k < w.heap.size) (hR : ItR F bk tm mm n B who P Bp Bw Bq D w) :
    SeqStopsK Fence.wide n0 Try.prog 76 #[.pointer (some ⟨Bp, 0, none⟩), .pointer (some ⟨Bw, 0, none⟩), .pointer (some ⟨Bq, 0, none⟩)] (encV val) (KpV T) (fun ys => ys = keysV (B who) P.data.toList) (fun pre => pre <+: keysV (B who) P.data.toList) (vKeys (B who) P.data.toList).length w :=
  fun l J Jx W hW hJ hJx hY h0 => of1R_in n0 l Bp Bw Bq bk tm mm n B who hw hn P D val hval hT1 hT2 hT3 hT4 hT5 hT6 hT7 _ J Jx hJ hY W (hR.below hF hW) h0
set_option maxRecDepth 100000 in
theorem ofR_any (w : World) (g : Nat) (who : Int) (P : ByteArray) :
    Calls Try.prog 60 #[.pointer (some ⟨g, 0, none⟩), .int .i64 who, .string P] w fun e w' => e = .returned (.func (.func 76) #[] #[.pointer (some ⟨w.heap.size, 0, none⟩), .pointer (some ⟨w.heap.size + 1, 0, none⟩), .pointer (some ⟨w.heap.size + 2, 0, none⟩)]) ∧ w' = ((w.alloc (.cells #[.pointer (some ⟨g, 0, none⟩)] 78)).alloc (.cells #[.int .i64 who] 3)).alloc (.cells #[.string P] 9) := by
  go_enter Try.func60, Try.ntmps60
  go_wp2
  go_ret
  exact ⟨rfl, rfl⟩
end Go.Proofs.Ytdpaobflknkbkaa
