/- Laid together: VNmR InvIn -/
import Derived.Test.YteockhemeneioaaVa3
import Derived.Test.YteockhemeneioaaVa2

namespace Go.Proofs.Yteockhemeneioaa
open Go.RowKit Go.ChangeShapes Go.Maps Go.WideMaps Go.Sort
set_option linter.unusedVariables false
set_option maxRecDepth 100000 in
set_option maxHeartbeats 2000000 in
theorem namesR_any {F : Nat → Prop} {bk tm mm n : Nat} {B : Int → VT PathX} (w : World) (h : BkAt kR 118 F w bk tm mm n B) (hn : n ≤ 100000) (who : Int) (hw : Wf who) (P : ByteArray) :
    Calls Try.prog 77 #[.pointer (some ⟨bk, 0, none⟩), .int .i64 who, .string P] w fun e w' => ∃ v, e = .returned v ∧ Elems 1 (fun k => w.heap.size ≤ k) w' v ((vKeys (B who) P.data.toList).map encK) ∧ Fr (fun _ => False) w w' ∧ (vKeys (B who) P.data.toList ≠ [] → ∃ g c, v = .slice (some ⟨g, 0, none⟩) (vKeys (B who) P.data.toList).length c ∧ StrB w' g) := by
  obtain ⟨c0, c1⟩ := h.cells
  obtain ⟨D, hD1, hD2, hD3⟩ := id h.th
  have hlt := h.lt
  have HR := Lib.hid h
  have HD := Lib.hid (And.intro hD2 hD3)
  have HLT := Lib.hid hlt
  have HW := Lib.hid (And.intro hw hn)
  have hsz := hD1.size_le
  obtain ⟨cnt0, hcnt0⟩ : ∃ c, c = Maps.size D := ⟨_, rfl⟩
  have HC0 := Lib.hid hcnt0
  clear h hD2 hD3 hlt hw hn hcnt0
  go_enter Try.func77, Try.ntmps77
  go_wp2_with (at_range; refine wpList_range_own _ rfl _ 115 rfl 114 43 lawPl Try.underlying115 heldR9 tm _ D rfl hD1 ?_; intro w0 hrg0 hg0 hs0; (have H0 := Lib.hid (And.intro hrg0 (And.intro hg0 hs0))); clear hrg0 hg0 hs0)
  go_frame
  go_loopw [7] (fun lv wr => ∃ (ks : List Bs) (left : Lit → Bool) (cnt : Nat), (∃ ao c, lv = .slice ao ks.length c) ∧ Hid (wr.ranges Try.prog 114 heldR9 tm w.heap.size n D left cnt ∧ NmSt B who P.data.toList (w.heap.size + 1) w wr lv ks left)) (fun _ wr => wr.rangeLeft tm w.heap.size)
  case atStart =>
    have hf0 : Fr (fun _ => False) w w0 := (Fr.refl _ w).grown H0.out.2.1 (fun k hk => by cases hk)
    refine ⟨[], _, _, ⟨none, 0, rfl⟩, Lib.hid ⟨H0.out.1, ⟨OwnE.nil _ _ _ _, List.Pairwise.nil, fun k => ⟨(fun h => by cases h), fun h => ?_⟩, fun i k hi hk h => by rw [← HD.out.1 i k hi hk]; exact h, hf0⟩⟩⟩
    obtain ⟨h1, h2⟩ := h
    have h3 := (vKeys_mem.1 h1).1
    obtain ⟨x, hx⟩ := Option.isSome_iff_exists.1 h3
    have h4 := ((HR.out.ok who).2.2 _ (vGet_mem hx))
    simp only at h4
    rw [← HD.out.1 who k HW.out.1 (by unfold maxLen; omega), h2] at h3
    cases h3
  case round =>
    obtain ⟨ks, left, cnt, ⟨ao, c, rfl⟩, hR⟩ := hrel
    go_wp2_with (at_next; refine wpList_next_ranges (α := Int × ByteArray) (β := Value) _ rfl _ rfl 114 lawPl heldR9 (fun x => Value.agg #[.int .i64 x.1, .string x.2]) id (fun key kl h => by obtain ⟨i, N, e, _⟩ := keyP_back h; exact ⟨(i, N), e⟩) (fun v y h => ⟨v, rfl⟩) tm w.heap.size n D left cnt rfl hR.out.1 ?_ ?_)
    · intro hc0 hl0
      have hks : ∀ k, k ∈ ks ↔ k ∈ vKeys (B who) P.data.toList := fun k => by rw [hR.out.2.mem k]; exact ⟨fun h => h.1, fun h => ⟨h, hl0 _⟩⟩
      have hlk : ks.length ≤ 1000000 := by
        have h1 := hR.out.2.le
        have h2 := (HR.out.ok who).2.1
        have := HW.out.2
        omega
      have HS := Lib.hid (sort_vkeys (HR.out.ok who).1 P.data.toList wr _ ks hR.out.2.own hR.out.2.nodup hks hlk)
      clear hks hlk hl0 hc0
      go_wp2_with (go_at_call 86; refine HS.out.mono ?_; rintro e w3 ⟨rfl, he3, hf3⟩; (have H3 := Lib.hid (And.intro he3 hf3)); clear he3 hf3)
      go_ret
      exact ⟨_, rfl, H3.out.1.mono (by decide) (fun k _ hk => by omega), hR.out.2.fr.trans H3.out.2.1 (fun k hk => .inr (by have := hR.out.2.own.own k hk; omega)), H3.out.2.2⟩
    · intro i N cv kl ya yb w1 cnt1 hkey hlk hv hat hrg1 hlt1 hg1 hs1 hen
      have hkey' : keyOf Try.prog 114 (.agg (plC i N)) = some kl := hkey
      obtain ⟨i', N', hx', hwi, hNs, hkl⟩ := keyP_back hkey'
      simp only [plC, Value.agg.injEq, Array.mk.injEq, List.cons.injEq, Value.int.injEq, Value.string.injEq, true_and, and_true] at hx'
      obtain ⟨rfl, rfl⟩ := hx'
      subst hkl
      have hNl : N.data.toList.length ≤ maxLen := by rw [size_list]; exact hNs
      have hf1 : Fr (fun k => k = w.heap.size) wr w1 := (Fr.refl _ wr).grown hg1 (fun k hk => .inl (by injection hk with hk; exact hk.symm))
      have hfw1 : Fr (fun _ => False) w w1 := hR.out.2.fr.trans hf1 (fun k hk => .inr (by rw [show k = w.heap.size from hk]; exact Nat.le_refl _))
      have hown1 := hR.out.2.own.keep hf1 (fun g hg e => by have := hR.out.2.own.own g hg; have e2 : g = w.heap.size := e; omega)
      have hle := hR.out.2.le
      have hsm := (HR.out.ok who).2.1
      have H1 := Lib.hid (And.intro hrg1 (And.intro hfw1 (And.intro hown1 (And.intro hlk (And.intro hlt1 (And.intro hR.out.2 (And.intro hR.out.1 hs1)))))))
      have HLE := Lib.hid (show ks.length ≤ 100000 by have := HW.out.2; omega)
      have HI := Lib.hid (And.intro hwi hNl)
      have hpl := hasPrefix_any N P
      obtain ⟨q, hq⟩ : ∃ q, q = Lib.hasPrefix N.data.toList P.data.toList := ⟨_, rfl⟩
      rw [← hq] at hpl
      have HPL := Lib.hid hpl
      have HQ := Lib.hid hq
      clear hR hkey hkey' hlk hv hat hrg1 hlt1 hg1 hs1 hf1 hfw1 hown1 hle hsm hpl hq hwi hNl hNs
      by_cases hiw : i = who
      · have hb : (i == who) = true := by rw [hiw]; exact beq_self_eq_true _
        have HIW := Lib.hid hiw
        clear hiw
        cases q with
        | true =>
          go_wp2_with (first
            | (go_at_call 85; refine (HPL.out _).mono ?_; rintro e w3 ⟨rfl, rfl⟩)
            | (at_builtin; refine wpList_append_e (T := 9) (z := w.heap.size + 1) Try.underlying131 infoStr rfl (by decide) (by decide) ((w1.alloc (.cells #[.int .i64 i, .string N] 114)).alloc (.cells #[.string N] 9)) rfl (.tmp 28) (.tmp 31) rfl (.slice ao ks.length c) _ (ks.map encK) [[.string N]] rfl rfl (H1.out.2.2.1.keep (((Fr.refl (fun _ => False) w1).alloc _).alloc _) (fun _ _ h => h)) (Elems.ofBlock (c := [.string N]) (heap_alloc2_new w1 _ _) rfl) (fun c hc u hu => by rw [List.mem_singleton.1 hc] at hu; rw [List.mem_singleton.1 hu]; rfl) (by have := H1.out.2.1.size; simp; have := H1.out.2.2.2.2.2.2.2; have := lt_range9 H1.out.2.2.2.2.2.2.1; omega) (by rw [List.length_map]; have := HLE.out; simp; omega) ?_; intro v5 w5 ho5 hg5 hb5; (obtain ⟨a5, c5, rfl⟩ := ho5.form); (have H5 := Lib.hid (And.intro ho5 (And.intro hg5 hb5))); clear ho5 hg5 hb5))
          go_roundw
          case rel =>
            have hf5 : Fr (fun k => (Value.slice ao ks.length c).ownBlock = some k) w1 w5 := (((Fr.refl _ w1).alloc _).alloc _).grown H5.out.2.1 (fun k hk => .inl hk)
            have hog := H1.out.2.2.1.own
            have hfw5 : Fr (fun _ => False) w w5 := H1.out.2.1.trans hf5 (fun k hk => .inr (by have := hog k hk; omega))
            obtain ⟨ks', hk1, hk2⟩ := H1.out.2.2.2.2.2.1.next (fun p hp => (HR.out.ok who).2.2 p hp) HW.out.1 HI.out.1 HI.out.2 H1.out.2.2.2.1 hfw5 (.inl ⟨⟨HIW.out, HQ.out.symm⟩, by rw [encK_str]; exact H5.out.1⟩)
            have hln : ks'.length = ks.length + 1 := by rw [hk2, if_pos ⟨HIW.out, HQ.out.symm⟩]
            rw [show (ks.map encK ++ [[Value.string N]]).length = ks.length + 1 by simp] at hk1
            rw [← hln] at hk1 ⊢
            exact ⟨ks', _, cnt1, ⟨a5, c5, rfl⟩, Lib.hid ⟨World.ranges.keep9 H1.out.1 hf5 (fun e => by have := hog tm e; have := HLT.out; omega) (fun e => by have := hog _ e; omega), hk1⟩⟩
          case measure =>
            have hf5 : Fr (fun k => (Value.slice ao ks.length c).ownBlock = some k) w1 w5 := (((Fr.refl _ w1).alloc _).alloc _).grown H5.out.2.1 (fun k hk => .inl hk)
            have hog := H1.out.2.2.1.own
            have h5 := World.ranges.keep9 H1.out.1 hf5 (fun e => by have := hog tm e; have := HLT.out; omega) (fun e => by have := hog _ e; omega)
            rw [World.ranges.left_eq h5, World.ranges.left_eq H1.out.2.2.2.2.2.2.1]
            exact H1.out.2.2.2.2.1
        | false =>
          go_wp2_with (first
            | (go_at_call 85; refine (HPL.out _).mono ?_; rintro e w3 ⟨rfl, rfl⟩))
          go_roundw
          case rel =>
            have hf5 : Fr (fun _ => False) w1 (w1.alloc (.cells #[.int .i64 i, .string N] 114)) := (Fr.refl _ w1).alloc _
            obtain ⟨ks', hk1, hk2⟩ := H1.out.2.2.2.2.2.1.next (fun p hp => (HR.out.ok who).2.2 p hp) HW.out.1 HI.out.1 HI.out.2 H1.out.2.2.2.1 (H1.out.2.1.trans hf5 (fun _ h => h.elim)) (.inr ⟨(fun h => by have := HQ.out; rw [h.2] at this; cases this), H1.out.2.2.1.keep hf5 (fun _ _ h => h)⟩)
            have hln : ks'.length = ks.length := by rw [hk2, if_neg (fun h => by have := HQ.out; rw [h.2] at this; cases this)]; rfl
            rw [← hln] at hk1 ⊢
            exact ⟨ks', _, cnt1, ⟨ao, c, rfl⟩, Lib.hid ⟨World.ranges.keep9 H1.out.1 hf5 id id, hk1⟩⟩
          case measure =>
            have hf5 : Fr (fun _ => False) w1 (w1.alloc (.cells #[.int .i64 i, .string N] 114)) := (Fr.refl _ w1).alloc _
            rw [World.ranges.left_eq (World.ranges.keep9 H1.out.1 hf5 id id), World.ranges.left_eq H1.out.2.2.2.2.2.2.1]
            exact H1.out.2.2.2.2.1
      · have hb : (i == who) = false := by rw [beq_eq_false_iff_ne]; exact hiw
        have HIW := Lib.hid hiw
        clear hiw
        go_wp2
        go_roundw
        case rel =>
          have hf5 : Fr (fun _ => False) w1 (w1.alloc (.cells #[.int .i64 i, .string N] 114)) := (Fr.refl _ w1).alloc _
          obtain ⟨ks', hk1, hk2⟩ := H1.out.2.2.2.2.2.1.next (fun p hp => (HR.out.ok who).2.2 p hp) HW.out.1 HI.out.1 HI.out.2 H1.out.2.2.2.1 (H1.out.2.1.trans hf5 (fun _ h => h.elim)) (.inr ⟨fun h => HIW.out h.1, H1.out.2.2.1.keep hf5 (fun _ _ h => h)⟩)
          have hln : ks'.length = ks.length := by rw [hk2, if_neg (fun h => HIW.out h.1)]; rfl
          rw [← hln] at hk1 ⊢
          exact ⟨ks', _, cnt1, ⟨ao, c, rfl⟩, Lib.hid ⟨World.ranges.keep9 H1.out.1 hf5 id id, hk1⟩⟩
        case measure =>
          have hf5 : Fr (fun _ => False) w1 (w1.alloc (.cells #[.int .i64 i, .string N] 114)) := (Fr.refl _ w1).alloc _
          rw [World.ranges.left_eq (World.ranges.keep9 H1.out.1 hf5 id id), World.ranges.left_eq H1.out.2.2.2.2.2.2.1]
          exact H1.out.2.2.2.2.1
end Go.Proofs.Yteockhemeneioaa
namespace Go.Proofs.Yteockhemeneioaa
open Go.RowKit
set_option linter.unusedVariables false
section
variable {P : Program}
theorem Oper.wpIn_of_wp {F : Fence} {n : Nat} (hF : WideF F) {o : Oper} (hd : ∀ c, o.op ≠ Op.defer c) {a : Act} {w : World} {K : Act → World → Prop} {Q : Exit → Act → World → Prop} (h : o.wp P a w K Q) : o.wpIn F n P a w K Q := by
  refine ⟨fun f _ => hF.fn f, ?_⟩
  rw [Oper.semAt_plain F _ _ hd]
  unfold Oper.wp at h
  generalize (execOp a.eval o).run P w = r at *
  cases r with
  | ok m w' =>
    cases m
    case value v => exact h
    case skip => exact h
    case defer d => exact h
    case enter f args =>
      refine ⟨fun hx => hF.free hx, hF.calls (Calls.mono h fun e w2 he => ?_)⟩
      cases e <;> exact he
    case row r args =>
      refine ⟨fun hx => hF.free hx, ?_⟩
      cases hF with
      | out =>
        intro c cs _
        obtain ⟨v, w2, hr, hs⟩ := h c cs
        exact ⟨v, w2, hr, stepsIn_wide.2 hs⟩
      | round l =>
        intro c cs _
        obtain ⟨v, w2, hr, hs⟩ := h c cs
        exact ⟨v, w2, hr, stepsIn_wide.2 hs⟩
    all_goals exact absurd h (by simp [Oper.upon])
  | halt x w' =>
    cases x <;> first | exact h | exact absurd h (by simp [Oper.upon])
theorem wpIn_region_inv {F : Fence} {fl : Nat} (hF : WideF F) {id : Nat} {Q : Exit → Act → World → Prop} {a : Act} {w : World} {l : List Oper} (n : Nat) (hm : P.follows .mixedOrders = true) (hdf : ∀ (i : Nat) (o : Oper), l[i]? = some o → ∀ c, o.op ≠ Op.defer c) (hB : invB l n a.tmps.size = true)
    (B : World → Prop) (R : Nat → Value → World → Prop) (D : Nat → Nat → Value → Value → Prop) (Ext : World → World → Prop) (hext : ∀ j u w w', Ext w w' → R j u w → R j u w') (hB0 : B w.drew)
    (hstep : ∀ i, i < n → ∀ o, l[i]? = some o → InvStep P l n Q B R D Ext a i o)
    (htail : ∀ vs w', B w' → (∀ i, i < n → R i (vs i) w') → (∀ i j, i < n → j < n → i ≠ j → D i j (vs i) (vs j) ∨ D j i (vs j) (vs i)) → wpListIn F fl P l.toArray Q (l.drop n) (acts l (fun _ => true) vs a n) w') : (Code.region id l.toArray true).wpIn F fl P Q a w := by
  simp only [invB, Bool.and_eq_true, decide_eq_true_eq, Bool.or_eq_true] at hB
  obtain ⟨⟨⟨⟨hn, hops⟩, hdst⟩, hwait⟩, hseq⟩ := hB
  have hop : ∀ i, i < n → ∃ o, l[i]? = some o ∧ (∀ e ∈ o.after, Region.binds .any e = true → e.on < i) ∧ (∀ d, o.dst = some d → d < a.tmps.size) := by
    intro i hi
    have h := List.all_eq_true.1 hops i (List.mem_range.2 hi)
    cases ho : l[i]? with
    | none => rw [ho] at h; cases h
    | some o =>
      rw [ho] at h
      simp only [Bool.and_eq_true] at h
      obtain ⟨h2, h3⟩ := h
      refine ⟨o, rfl, fun e he hb => ?_, fun d hd => ?_⟩
      · have := Array.all_eq_true_iff_forall_mem.1 h2 e he
        rw [hb] at this
        simpa using this
      · rw [hd] at h3
        simpa using h3
  have hdis : ∀ i j, i < n → j < n → j ≠ i → ∀ d, dstAt l i = some d → dstAt l j ≠ some d := by
    intro i j hi hj hji d hd hd2
    have h := List.all_eq_true.1 (List.all_eq_true.1 hdst i (List.mem_range.2 hi)) j (List.mem_range.2 hj)
    rw [hd, hd2] at h
    simp at h
    omega
  refine wpIn_region_any hm ?_
  have main : ∀ (m : Nat) (listed : Array Bool) (vs : Nat → Value) (w' : World), left n listed = m → HeadInv .any l.toArray n listed → B w' → (∀ i, i < n → listed.getD i false = true → R i (vs i) w') →
      (∀ i j, i < n → j < n → listed.getD i false = true → listed.getD j false = true → i ≠ j → D i j (vs i) (vs j) ∨ D j i (vs j) (vs i)) →
      wpAnyIn F fl P .any l.toArray Q (m + (l.length - n)) listed (acts l (fun i => listed.getD i false) vs a n) w' := by
    intro m
    induction m with
    | zero =>
      intro listed vs w' hl inv hBw hR hD
      have hall : ∀ i, i < n → listed.getD i false = true := fun i hi => by simpa using countP_zero n hl i hi
      have hlisted : listed = (List.replicate n true ++ List.replicate (l.length - n) false).toArray := by
        apply Array.ext
        · rw [inv.size]; simp; omega
        · intro i h1 h2
          have hi : i < l.length := by rw [inv.size] at h1; simpa using h1
          have e1 : listed[i] = listed.getD i false := by simp [h1]
          rw [e1]
          by_cases h : i < n
          · rw [hall i h]
            simp [h]
          · rw [getD_both (inv.tail i (by omega) (by simpa using hi))]
            simp [List.getElem_append, h]
      have hact : acts l (fun i => listed.getD i false) vs a n = acts l (fun _ => true) vs a n := acts_congr n fun j hj => ⟨hall j hj, fun _ => rfl⟩
      rw [hact, Nat.zero_add]
      have hdl : (l.drop n).length = l.length - n := by simp
      rw [← hdl]
      refine wpAnyIn_of_seq (l.drop n) n listed _ w' (fun j => by simp [List.getElem?_drop]) ?_ (htail vs w' hBw (fun i hi => hR i hi (hall i hi)) (fun i j hi hj hij => hD i j hi hj (hall i hi) (hall j hj) hij))
      rw [hdl, hlisted]
      exact hseq
    | succ m ih =>
      intro listed vs w' hl inv hBw hR hD
      have hex : ∃ i, i < n ∧ listed.getD i false = false := by
        by_cases h : ∃ i, i < n ∧ listed.getD i false = false
        · exact h
        · exfalso
          have : left n listed = 0 := by
            unfold left
            rw [List.countP_eq_zero]
            intro i hi
            have hi' := List.mem_range.1 hi
            cases hg : listed.getD i false with
            | true => simp
            | false => exact absurd ⟨i, hi', hg⟩ h
          omega
      obtain ⟨i0, hi0, hun0⟩ := hex
      have hne : Region.ready .any l.toArray listed ≠ [] := by
        obtain ⟨i1, ⟨hi1, hun1⟩, hmin⟩ := least (p := fun i => i < n ∧ listed.getD i false = false) i0 ⟨hi0, hun0⟩
        obtain ⟨o, ho, hback, _⟩ := hop i1 hi1
        have : i1 ∈ Region.ready .any l.toArray listed := by
          refine mem_ready.2 ⟨getD_in (by rw [inv.size]; simp; omega) hun1, o, by simpa using ho, fun e he hb => ?_⟩
          have h1 := hback e he hb
          cases hg : listed.getD e.on false with
          | true => rfl
          | false => exact absurd ⟨by omega, hg⟩ (hmin e.on h1)
        intro h
        rw [h] at this
        cases this
      rw [show m + 1 + (l.length - n) = (m + (l.length - n)) + 1 by omega]
      refine ⟨fun h => absurd h hne, fun i hi => ?_⟩
      have hin : i < n := by
        rcases Nat.lt_or_ge i n with h | h
        · exact h
        · exfalso
          rcases hwait with hw | ⟨⟨hs, hc⟩, hlt⟩
          · obtain ⟨_, o, ho, _⟩ := mem_ready.1 hi
            have := (Array.getElem?_eq_some_iff.1 ho).1
            simp at this
            omega
          · exact tail_waits hs hc (by simpa using hlt) inv _ i0 rfl hi0 (getD_in (by rw [inv.size]; simp; omega) hun0) i h hi
      obtain ⟨hun, o', ho', hall⟩ := mem_ready.1 hi
      obtain ⟨o, ho, hback, hds⟩ := hop i hin
      have : o' = o := by simpa [ho] using ho'.symm
      subst this
      have hdo : dstAt l i = o'.dst := by simp [dstAt, ho]
      have hunf := getD_both hun
      have hst := hstep i hin o' ho (acts l (fun i => listed.getD i false) vs a n) w' vs hBw (acts_size n)
        (fun j t hj ht => by
          obtain ⟨e, he, hb⟩ := Array.any_eq_true'.1 hj
          simp only [Bool.and_eq_true, beq_iff_eq] at hb
          obtain ⟨hb, rfl⟩ := hb
          have h1 := hall e he hb
          have h2 := hback e he hb
          refine ⟨hR e.on (by omega) h1, ?_⟩
          obtain ⟨oe, hoe, _, hde⟩ := hop e.on (by omega)
          exact acts_eval_eq h1 ht (hde t (by simpa [dstAt, hoe] using ht)) n (by omega) (fun j hj hji => hdis e.on j (by omega) hj hji t ht))
        (fun t ht => acts_eval_ne n (fun j hj => by simpa using List.all_eq_true.1 ht j (List.mem_range.2 hj)))
      have hgo : ∀ a' w2, (∃ v, a' = (acts l (fun i => listed.getD i false) vs a n).put o'.dst v ∧ B w2 ∧ Ext w' w2 ∧ R i v w2 ∧ ∀ j u, j < n → j ≠ i → R j u w' → D i j v u) →
          wpAnyIn F fl P .any l.toArray Q (m + (l.length - n)) (listed.setIfInBounds i true) a' w2 := by
        rintro a' w2 ⟨v, rfl, hB2, hE, hRv, hDv⟩
        have hput := acts_put (l := l) (f := fun i => listed.getD i false) (vs := vs) (a0 := a) (i := i) (v := v) hunf n hin (fun j hj hji d hd => hdis i j hin hj hji d hd)
        rw [← hdo, ← hput]
        have hcong : acts l (fun j => if j = i then true else listed.getD j false) (fun j => if j = i then v else vs j) a n = acts l (fun j => (listed.setIfInBounds i true).getD j false) (fun j => if j = i then v else vs j) a n := by
          refine acts_congr n fun j hj => ⟨?_, fun _ => rfl⟩
          by_cases hji : j = i
          · subst hji
            rw [if_pos rfl]
            have : j < listed.size := by rw [inv.size]; simp; omega
            simp [this]
          · rw [if_neg hji, getD_set_ne false (Ne.symm hji)]
        rw [hcong]
        refine ih _ _ w2 ?_ (inv.set hi hin) hB2 (fun j hj hlj => ?_) (fun j k hj hk hlj hlk hjk => ?_)
        · have hsz : i < listed.size := by rw [inv.size]; simp; omega
          have := countP_one (f := fun j => !listed.getD j false) (g := fun j => !(listed.setIfInBounds i true).getD j false) (i := i) (by simp only [hunf]; rfl) (by simp [hsz]) (fun j hj => by simp only [getD_set_ne false (Ne.symm hj)]) n
          rw [if_pos hin] at this
          unfold left at hl ⊢
          omega
        · by_cases hji : j = i
          · subst hji
            rw [if_pos rfl]
            exact hRv
          · rw [if_neg hji]
            rw [getD_set_ne false (Ne.symm hji)] at hlj
            exact hext _ _ _ _ hE (hR j hj hlj)
        · by_cases hji : j = i
          · subst hji
            rw [if_pos rfl, if_neg (Ne.symm hjk)]
            rw [getD_set_ne false hjk] at hlk
            exact .inl (hDv k _ hk (Ne.symm hjk) (hR k hk hlk))
          · rw [if_neg hji]
            rw [getD_set_ne false (Ne.symm hji)] at hlj
            by_cases hki : k = i
            · subst hki
              rw [if_pos rfl]
              exact .inr (hDv j _ hj hji (hR j hj hlj))
            · rw [if_neg hki]
              rw [getD_set_ne false (Ne.symm hki)] at hlk
              exact hD j k hj hk hlj hlk hjk
      unfold wpOpIn
      rw [ho']
      unfold WpG at hst
      simp only
      split
      · rename_i hw
        rw [if_pos hw] at hst
        exact Oper.wpIn_mono (fun a' w2 h => hgo a' w2 h) (Oper.wpIn_of_wp hF (hdf i o' ho) hst)
      · rename_i hw
        rw [if_neg hw] at hst
        exact ⟨fun f _ => hF.fn f, hgo _ _ hst⟩
  have h0 : left n (Array.replicate l.length false) = n := by
    unfold left
    have : ((List.range n).countP fun i => !(Array.replicate l.length false).getD i false) = (List.range n).length := by
      rw [List.countP_eq_length]
      intro i _
      rw [getD_replicate_false]
      rfl
    rw [this, List.length_range]
  have hmain := main n (Array.replicate l.length false) (fun _ => undef) w.drew h0
    ⟨by simp, fun j oj _ hl => (by rw [getD_replicate_false] at hl; cases hl), fun t _ ht => getD_in (by simpa using ht) (getD_replicate_false _ _)⟩ hB0 (fun i _ hl => by rw [getD_replicate_false] at hl; cases hl) (fun i j _ _ hl => by rw [getD_replicate_false] at hl; cases hl)
  have e1 : acts l (fun i => (Array.replicate l.length false).getD i false) (fun _ => undef) a n = a := by
    have : ∀ k, acts l (fun i => (Array.replicate l.length false).getD i false) (fun _ => undef) a k = a := by
      intro k
      induction k with
      | zero => rfl
      | succ k ih => unfold acts; rw [if_neg (by rw [getD_replicate_false]; decide), ih]
    exact this n
  rw [e1, show n + (l.length - n) = l.length by omega] at hmain
  exact hmain
end
end Go.Proofs.Yteockhemeneioaa
