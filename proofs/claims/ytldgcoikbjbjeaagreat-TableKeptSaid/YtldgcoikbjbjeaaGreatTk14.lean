/- Laid together: LogKp LogRedo JMap JLaid JOps JLaid2 JEnt -/
import Derived.Test.YtldgcoikbjbjeaaGreatTk8
import Derived.Test.YtldgcoikbjbjeaaGreatTk13
import Derived.Maps.OwnSet
import Derived.WalkArith
import Derived.Test.YtldgcoikbjbjeaaGreatTk2
import Derived.Test.YtldgcoikbjbjeaaGreatTk6
import Derived.Test.YtldgcoikbjbjeaaGreatTk7
import Derived.Deep.MidRow

namespace Go.Proofs.YtldgcoikbjbjeaaGreat
set_option linter.unusedVariables false
def areaAt (L A n : Nat) : Nat := 64 * (1 + L + n * A)
structure Kp (K : List UInt8) (L A s : Nat) (h : Hd) (B : List UInt8) (R : List (List UInt8)) : Prop where
  len : K.length = 64 * s
  shape : 1 + L + 2 * A ≤ s ∧ s ≤ 8192
  head : secAt K 0 = h.sec
  right : h.Right L A
  area : cut4 K (areaAt L A h.area) h.size = B
  recs : cut4 K 64 h.used = recsB R
theorem area_in {L A s n z : Nat} (hs : 1 + L + 2 * A ≤ s) (hn : n ≤ 1) (hz : z ≤ 64 * A) : areaAt L A n + z ≤ 64 * s := by
  unfold areaAt
  rcases (show n = 0 ∨ n = 1 by omega) with rfl | rfl <;> omega
theorem Kp.keep {K M : List UInt8} {L A s : Nat} {h : Hd} {B : List UInt8} {R : List (List UInt8)} (k : Kp K L A s h B R) (hM : M.length = 64 * s)
    (he : ∀ j, j < 64 * s → (j < 64 + h.used ∨ (areaAt L A h.area ≤ j ∧ j < areaAt L A h.area + h.size)) → M[j]? = K[j]?) : Kp M L A s h B R := by
  have ha := area_in k.shape.1 k.right.area k.right.size
  have hu := k.right.used
  have hsh := k.shape.1
  refine ⟨hM, k.shape, ?_, k.right, ?_, ?_⟩
  · rw [← k.head]
    apply List.ext_getElem?
    intro r
    by_cases hr : r < 64
    · rw [secAt_get _ _ _ hr, secAt_get _ _ _ hr, he _ (by omega) (.inl (by omega))]
    · rw [List.getElem?_eq_none (by rw [secAt_length M s 0 hM (by omega)]; omega), List.getElem?_eq_none (by rw [secAt_length K s 0 k.len (by omega)]; omega)]
  · rw [← k.area]
    exact cut4_congr K M _ _ (by rw [k.len]; exact ha) (by rw [hM]; exact ha) (fun j h1 h2 => he j (by omega) (.inr ⟨h1, h2⟩))
  · rw [← k.recs]
    exact cut4_congr K M _ _ (by rw [k.len]; omega) (by rw [hM]; omega) (fun j h1 h2 => he j (by omega) (.inl (by omega)))
theorem Kp.part {K : List UInt8} {L A s : Nat} {h : Hd} {B : List UInt8} {R : List (List UInt8)} (k : Kp K L A s h B R) (o : Nat) (X : List UInt8) (ho : o + X.length ≤ 64 * s)
    (hout : ∀ j, (j < 64 + h.used ∨ (areaAt L A h.area ≤ j ∧ j < areaAt L A h.area + h.size)) → ¬ (o ≤ j ∧ j < o + X.length)) (f : Nat → Bool) (qs : List Pend) (hq : qs <+: secsOf (over4 K o X) (firstSec o) (manySecs o X.length)) :
    Kp (wakeL f 0 qs K) L A s h B R := by
  have hl := over4_length K o X (by rw [k.len]; exact ho)
  rw [k.len] at hl
  rcases manySecs_le s o X.length ho with hm | hm
  · have hr : Pends s qs := fun p hp => secsOf_right _ s _ _ hl hm p (hq.subset hp)
    refine k.keep (wakeL_length f s qs 0 K hr k.len) fun j hj hc => part_secsOf f K _ s _ _ k.len hl hm qs hq j hj ?_
    rw [over4_get K o X (by rw [k.len]; exact ho), if_neg (hout j hc)]
  · have hq0 : qs = [] := by
      have : secsOf (over4 K o X) (firstSec o) (manySecs o X.length) = [] := by simp [secsOf, manySecs, hm]
      rw [this] at hq
      exact List.prefix_nil.1 hq
    subst hq0
    exact k
theorem Kp.put_all {K : List UInt8} {s o : Nat} {X : List UInt8} (hK : K.length = 64 * s) (ho : o + X.length ≤ 64 * s) : putAll4 (secsOf (over4 K o X) (firstSec o) (manySecs o X.length)) K = over4 K o X := by
  have hl := over4_length K o X (by rw [hK]; exact ho)
  rw [hK] at hl
  rcases manySecs_le s o X.length ho with hm | hm
  · exact put_secsOf K _ s _ _ hK hl hm (fun c hc hn => over4_sec K s o X hK ho c hc hn)
  · have : X = [] := List.eq_nil_of_length_eq_zero hm
    subst this
    simp [putAll4, secsOf, manySecs, wakeL, over4]
theorem Kp.over {K : List UInt8} {L A s : Nat} {h : Hd} {B : List UInt8} {R : List (List UInt8)} (k : Kp K L A s h B R) (o : Nat) (X : List UInt8) (ho : o + X.length ≤ 64 * s)
    (hout : ∀ j, (j < 64 + h.used ∨ (areaAt L A h.area ≤ j ∧ j < areaAt L A h.area + h.size)) → ¬ (o ≤ j ∧ j < o + X.length)) : Kp (over4 K o X) L A s h B R :=
  k.keep (by rw [over4_length K o X (by rw [k.len]; exact ho)]; exact k.len) fun j hj hc => by rw [over4_get K o X (by rw [k.len]; exact ho), if_neg (hout j hc)]
theorem putSec_behind (K : List UInt8) (s : Nat) (b : List UInt8) (hK : K.length = 64 * s) (hs : 1 ≤ s) (hb : b.length = 64) (j : Nat) (hj : 64 ≤ j) : (putSec K 0 b)[j]? = K[j]? := by
  rw [putSec_get K s 0 b hK (by omega) hb, if_neg (by omega)]
theorem cut4_behind (K : List UInt8) (s : Nat) (b : List UInt8) (hK : K.length = 64 * s) (hs : 1 ≤ s) (hb : b.length = 64) (o n : Nat) (ho : 64 ≤ o) (hn : o + n ≤ 64 * s) : cut4 (putSec K 0 b) o n = cut4 K o n :=
  cut4_congr K _ o n (by rw [hK]; exact hn) (by rw [putSec_length K s 0 b hK (by omega) hb]; exact hn) (fun j h1 h2 => putSec_behind K s b hK hs hb j (by omega))
theorem Kp.append {K : List UInt8} {L A s : Nat} {h : Hd} {B : List UInt8} {R : List (List UInt8)} (k : Kp K L A s h B R) (r : List UInt8) (hr : h.used + (recB r).length ≤ 64 * L) (hn : h.round < 1099511627776) :
    Kp (putSec (over4 K (64 + h.used) (recB r)) 0 (Hd.sec ⟨h.area, h.size, h.used + (recB r).length, h.round + 1⟩)) L A s ⟨h.area, h.size, h.used + (recB r).length, h.round + 1⟩ B (R ++ [r]) := by
  have hsh := k.shape.1
  have ha := area_in k.shape.1 k.right.area k.right.size
  have hu := k.right.used
  have ho : 64 + h.used + (recB r).length ≤ 64 * s := by omega
  have hl := over4_length K (64 + h.used) (recB r) (by rw [k.len]; exact ho)
  rw [k.len] at hl
  have hsl := Hd.sec_length ⟨h.area, h.size, h.used + (recB r).length, h.round + 1⟩
  have ha2 : 64 + 64 * L ≤ areaAt L A h.area := by unfold areaAt; rw [Nat.mul_add, Nat.mul_add]; omega
  refine ⟨putSec_length _ s 0 _ hl (by omega) hsl, k.shape, ?_, ⟨k.right.area, k.right.size, hr, by simp only; have := k.right.round; omega⟩, ?_, ?_⟩
  · rw [secAt_put _ s 0 _ hl (by omega) hsl 0 (by omega), if_pos rfl]
  · rw [cut4_behind _ s _ hl (by omega) hsl _ _ (by omega) ha, ← k.area]
    exact cut4_congr K _ _ _ (by rw [k.len]; exact ha) (by rw [hl]; exact ha) (fun j h1 h2 => by rw [over4_get K _ _ (by rw [k.len]; exact ho), if_neg (by omega)])
  · rw [cut4_behind _ s _ hl (by omega) hsl _ _ (Nat.le_refl _) (by simp only; omega), recsB_snoc, ← k.recs]
    exact cut4_more K 64 h.used (recB r) (by rw [k.len]; exact ho)
theorem Kp.switch {K : List UInt8} {L A s : Nat} {h : Hd} {B : List UInt8} {R : List (List UInt8)} (k : Kp K L A s h B R) (X : List UInt8) (hX : X.length ≤ 64 * A) (hn : h.round < 1099511627776) :
    Kp (putSec (over4 K (areaAt L A (1 - h.area)) X) 0 (Hd.sec ⟨1 - h.area, X.length, 0, h.round + 1⟩)) L A s ⟨1 - h.area, X.length, 0, h.round + 1⟩ X [] := by
  have hsh := k.shape.1
  have ho := area_in (n := 1 - h.area) k.shape.1 (by omega) hX
  have hl := over4_length K (areaAt L A (1 - h.area)) X (by rw [k.len]; exact ho)
  rw [k.len] at hl
  have hsl := Hd.sec_length ⟨1 - h.area, X.length, 0, h.round + 1⟩
  have ha2 : 64 ≤ areaAt L A (1 - h.area) := by unfold areaAt; rw [Nat.mul_add, Nat.mul_add]; omega
  refine ⟨putSec_length _ s 0 _ hl (by omega) hsl, k.shape, ?_, ⟨by simp only; omega, hX, Nat.zero_le _, by simp only; have := k.right.round; omega⟩, ?_, ?_⟩
  · rw [secAt_put _ s 0 _ hl (by omega) hsl 0 (by omega), if_pos rfl]
  · rw [cut4_behind _ s _ hl (by omega) hsl _ _ ha2 ho]
    exact cut4_over K _ X (by rw [k.len]; exact ho)
  · simp [cut4, recsB]
theorem Kp.switch_out {K : List UInt8} {L A s : Nat} {h : Hd} {B : List UInt8} {R : List (List UInt8)} (k : Kp K L A s h B R) (n : Nat) (hn : n ≤ 64 * A) (j : Nat) (hj : j < 64 + h.used ∨ (areaAt L A h.area ≤ j ∧ j < areaAt L A h.area + h.size)) : ¬ (areaAt L A (1 - h.area) ≤ j ∧ j < areaAt L A (1 - h.area) + n) := by
  have h1 := k.right.area
  have h2 := k.right.size
  have h3 := k.right.used
  unfold areaAt at *
  rcases (show h.area = 0 ∨ h.area = 1 by omega) with e | e <;> rw [e] at hj ⊢ <;> omega
theorem Kp.append_out {K : List UInt8} {L A s : Nat} {h : Hd} {B : List UInt8} {R : List (List UInt8)} (k : Kp K L A s h B R) (n : Nat) (hn : h.used + n ≤ 64 * L) (j : Nat) (hj : j < 64 + h.used ∨ (areaAt L A h.area ≤ j ∧ j < areaAt L A h.area + h.size)) : ¬ (64 + h.used ≤ j ∧ j < 64 + h.used + n) := by
  have ha2 : 64 + 64 * L ≤ areaAt L A h.area := by unfold areaAt; rw [Nat.mul_add, Nat.mul_add]; omega
  omega
end Go.Proofs.YtldgcoikbjbjeaaGreat
namespace Go.Proofs.YtldgcoikbjbjeaaGreat
set_option linter.unusedVariables false
abbrev secsAt (K : List UInt8) (o : Nat) (X : List UInt8) : List Pend := secsOf (over4 K o X) (firstSec o) (manySecs o X.length)
theorem secsAt_right {K : List UInt8} {s o : Nat} {X : List UInt8} (hK : K.length = 64 * s) (ho : o + X.length ≤ 64 * s) : Pends s (secsAt K o X) := by
  have hl := over4_length K o X (by rw [hK]; exact ho)
  rw [hK] at hl
  rcases manySecs_le s o X.length ho with hm | hm
  · exact secsOf_right _ s _ _ hl hm
  · intro p hp
    simp [secsAt, secsOf, manySecs, hm] at hp
theorem Kp.redo {d : Dv} {L A s : Nat} {h h' : Hd} {B B' : List UInt8} {R R' : List (List UInt8)} (k : Kp d.all L A s h B R) (o : Nat) (X : List UInt8) (ho : o + X.length ≤ 64 * s)
    (hout : ∀ j, (j < 64 + h.used ∨ (areaAt L A h.area ≤ j ∧ j < areaAt L A h.area + h.size)) → ¬ (o ≤ j ∧ j < o + X.length))
    (hnew : Kp (putSec (over4 d.all o X) 0 h'.sec) L A s h' B' R') (hd : d.down = false) (hw : d.waits = []) :
    ((d.commit s (secsAt d.all o X) h'.sec).1 = 0 → Kp (d.commit s (secsAt d.all o X) h'.sec).2.all L A s h' B' R') ∧
    ((d.commit s (secsAt d.all o X) h'.sec).1 ≠ 0 → (d.commit s (secsAt d.all o X) h'.sec).1 = 10 ∧ (d.commit s (secsAt d.all o X) h'.sec).2.down = true ∧
      ∀ keep, Kp ((d.commit s (secsAt d.all o X) h'.sec).2.wake keep).2.all L A s h B R ∨ Kp ((d.commit s (secsAt d.all o X) h'.sec).2.wake keep).2.all L A s h' B' R') := by
  have hs : 1 ≤ s := by have := k.shape.1; omega
  have hp := secsAt_right k.len ho
  have hh := h'.sec_length
  have hall : putAll4 (secsAt d.all o X) d.all = over4 d.all o X := Kp.put_all k.len ho
  refine ⟨fun h0 => ?_, fun h0 => ?_⟩
  · rcases Dv.commit_cases d s hs _ h'.sec hd hw hp hh with ⟨_, a2, _⟩ | ⟨_, b1, _⟩
    · rw [a2, hall]
      exact hnew
    · rw [b1] at h0
      exact absurd h0 (by decide)
  · have hc := Dv.commit_cases d s hs _ h'.sec hd hw hp hh
    have hb : (d.commit s (secsAt d.all o X) h'.sec).1 = 10 ∧ (d.commit s (secsAt d.all o X) h'.sec).2.down = true := by
      rcases hc with ⟨a1, _⟩ | ⟨_, b1, b2, _⟩
      · exact absurd a1 h0
      · exact ⟨b1, b2⟩
    refine ⟨hb.1, hb.2, fun keep => ?_⟩
    obtain ⟨_, _, _, _, _, hk⟩ := Dv.commit_woken d s hs _ h'.sec keep hd hw hp hh h0
    rcases hk with ⟨qs, hq, e⟩ | e | e
    · rw [e]
      exact .inl (k.part o X ho hout _ qs hq)
    · rw [e, hall]
      exact .inl (k.over o X ho hout)
    · rw [e, hall]
      exact .inr hnew
theorem cut4_zero (K : List UInt8) (o : Nat) : cut4 K o 0 = [] := by simp [cut4]
theorem Kp.formatted {K : List UInt8} {L A s : Nat} (hK : K.length = 64 * s) (hs : 1 + L + 2 * A ≤ s ∧ s ≤ 8192) : Kp (putSec K 0 (Hd.sec ⟨0, 0, 0, 1⟩)) L A s ⟨0, 0, 0, 1⟩ [] [] := by
  have hsl := Hd.sec_length ⟨0, 0, 0, 1⟩
  refine ⟨putSec_length _ s 0 _ hK (by omega) hsl, hs, ?_, ⟨Nat.zero_le _, Nat.zero_le _, Nat.zero_le _, ⟨Nat.le_refl _, by decide⟩⟩, cut4_zero _ _, ?_⟩
  · rw [secAt_put _ s 0 _ hK (by omega) hsl 0 (by omega), if_pos rfl]
  · rw [cut4_zero]
    rfl
end Go.Proofs.YtldgcoikbjbjeaaGreat
namespace Go.Proofs.YtldgcoikbjbjeaaGreat
open Go.RowKit Go.Maps Go.Sort Go.Shelf
set_option linter.unusedVariables false
def heldR : Value → Option (DataW Value × List MemPlace) := fun v => some (.held v, [])
def keyN (a i : Nat) : Lit := .int .i64 ((a + i : Nat) : Int)
theorem keyN_inj {a i j : Nat} (h : keyN a i = keyN a j) : i = j := by
  simp only [keyN, Lit.int.injEq, true_and] at h
  omega
theorem keyN_lit (a i : Nat) : WideAt.IsKeyLit (keyN a i) := by simp [keyN, WideAt.IsKeyLit]
def mD (a : Nat) (vs : Nat → Value) : Nat → DataW Value
  | 0 => .map []
  | n + 1 => (mD a vs n).put (keyN a n) (.held (vs n))
theorem mD_congr (a : Nat) (vs us : Nat → Value) : ∀ n, (∀ i, i < n → vs i = us i) → mD a vs n = mD a us n
  | 0, _ => rfl
  | n + 1, h => by rw [mD, mD, mD_congr a vs us n (fun i hi => h i (by omega)), h n (by omega)]
theorem mD_isMap (a : Nat) (vs : Nat → Value) : ∀ n, IsMap (mD a vs n)
  | 0 => ⟨_, rfl⟩
  | n + 1 => (mD_isMap a vs n).put _ _
theorem mD_at (a : Nat) (vs : Nat → Value) (z : DataW Value) : ∀ n i, i < n → (mD a vs n).atKey (keyN a i) z = .held (vs i)
  | n + 1, i, h => by
    rw [mD]
    by_cases e : i = n
    · subst e
      exact atKey_put_same (mD_isMap a vs i) (keyN_lit a i) _ _
    · rw [atKey_put_other (fun h => e (keyN_inj h))]
      exact mD_at a vs z n i (by omega)
theorem insert_perm5 {H : Type} (x : Lit × DataW H) : ∀ l : List (Lit × DataW H), (DataW.insert x l).Perm (x :: l)
  | [] => .refl _
  | y :: r => by
    unfold DataW.insert
    split
    · exact .refl _
    · exact ((insert_perm5 x r).cons y).trans (.swap x y r)
theorem mD_keys (a : Nat) (vs : Nat → Value) : ∀ n, ∃ es, mD a vs n = .map es ∧ (es.map (·.1)).Perm ((List.range n).map (keyN a))
  | 0 => ⟨[], rfl, by simp⟩
  | n + 1 => by
    obtain ⟨es, he, hp⟩ := mD_keys a vs n
    have hf : es.filter (fun p => !p.1.sameKey (keyN a n)) = es := by
      rw [List.filter_eq_self]
      intro p hm
      have h1 : p.1 ∈ (List.range n).map (keyN a) := hp.subset (List.mem_map_of_mem hm)
      obtain ⟨i, hi, e⟩ := List.mem_map.1 h1
      rw [← e, sameKey_ne (fun h => by have := keyN_inj h; have := List.mem_range.1 hi; omega)]
      rfl
    refine ⟨DataW.insert (keyN a n, .held (vs n)) es, ?_, ?_⟩
    · rw [mD, he, DataW.put, hf]
    · refine ((insert_perm5 _ es).map _).trans ?_
      rw [List.map_cons, List.range_succ, List.map_append]
      exact (hp.cons _).trans (List.perm_append_singleton _ _).symm
theorem mD_size (a : Nat) (vs : Nat → Value) (n : Nat) : Maps.size (mD a vs n) = n := by
  obtain ⟨es, he, hp⟩ := mD_keys a vs n
  rw [he, size_eq]
  have := hp.length_eq
  simpa using this
theorem mD_sorted (a : Nat) (vs : Nat → Value) (n : Nat) (ss : List Int) (h : ss.Perm (intKeys (mD a vs n))) : ss.mergeSort (fun x y => decide (x ≤ y)) = (List.range n).map (fun i => ((a + i : Nat) : Int)) := by
  obtain ⟨es, he, hp⟩ := mD_keys a vs n
  rw [he] at h
  have h1 : (intKeys (.map es)).Perm ((List.range n).map (fun i => ((a + i : Nat) : Int))) := by
    have h2 := hp.map Go.intOf
    rw [List.map_map, List.map_map] at h2
    exact h2
  rw [mergeSort_of_perm_i (h.trans h1)]
  refine List.mergeSort_of_pairwise ?_
  rw [List.pairwise_map]
  refine List.Pairwise.imp_of_mem ?_ List.pairwise_lt_range
  intro i j _ _ hij
  simp only [decide_eq_true_eq]
  omega
theorem mD_count (a : Nat) (vs : Nat → Value) (n : Nat) (ss : List Int) (h : ss.Perm (intKeys (mD a vs n))) : ss.length = n := by
  have := congrArg List.length (mD_sorted a vs n ss h)
  simpa using this
theorem mD_lookup {w : World} {b nn a n : Nat} {vs : Nat → Value} (h : w.ownsMap Tryz.prog 3 heldR b nn (mD a vs n)) (i : Nat) (hi : i < n) (hb : a + n ≤ 1000000) :
    (Instr.lookup 223 (.map (some b)) (.int .i64 ((a + i : Nat) : Int)) false).run Tryz.prog w = .ok (vs i) w := by
  obtain ⟨v, ps, hr, hv⟩ := h.lookup (t := 223) (e := 43) (int_keyed Tryz.underlying3) Tryz.underlying223 (z := .slice none 0 0) (by kernel_rfl) (zd := .held (.slice none 0 0)) (zp := []) rfl (key := .int .i64 ((a + i : Nat) : Int)) (kl := keyN a i) (keyOf_int_mk Tryz.underlying3 (WalkArith.wf_i64 (by omega)))
  rw [mD_at a vs _ n i hi, heldR] at hv
  simp only [Option.some.injEq, Prod.mk.injEq, DataW.held.injEq] at hv
  rw [← hv.1]
  exact hr
end Go.Proofs.YtldgcoikbjbjeaaGreat
namespace Go.Proofs.YtldgcoikbjbjeaaGreat
open Go.RowKit Go.ChangeShapes
set_option linter.unusedVariables false
def cAt (o n k : Nat) : Nat := min n (64 * (o / 64 + k) - o)
theorem cAt_zero (o n : Nat) : cAt o n 0 = 0 := by unfold cAt; omega
theorem cAt_many (o n k : Nat) (h : cAt o n k < n) : k + 1 ≤ manySecs o n := by
  unfold cAt at h
  unfold manySecs
  rw [if_neg (by omega)]
  omega
theorem cAt_done (o n k : Nat) (hk : k ≤ manySecs o n) (h : cAt o n k = n) : k = manySecs o n := by
  unfold cAt at h
  unfold manySecs at hk ⊢
  split
  · rename_i h0
    rw [if_pos h0] at hk
    omega
  · rename_i h0
    rw [if_neg h0] at hk
    omega
theorem cAt_sec (o n k : Nat) (h : cAt o n k < n) : (o + cAt o n k) / 64 = o / 64 + k := by unfold cAt at *; omega
theorem cAt_succ (o n k : Nat) (h : cAt o n k < n) : cAt o n k + min (64 - (o + cAt o n k) % 64) (n - cAt o n k) = cAt o n (k + 1) := by unfold cAt at *; omega
theorem laid_sec (K : List UInt8) (s o k : Nat) (X : List UInt8) (hK : K.length = 64 * s) (ho : o + X.length ≤ 64 * s) (h : cAt o X.length k < X.length) (c r m : Nat) (hc : c = cAt o X.length k) (hr : r = (o + c) % 64) (hm : m = min (64 - r) (X.length - c)) :
    (secAt K (o / 64 + k)).take r ++ (X.drop c).take m ++ (secAt K (o / 64 + k)).drop (r + m) = secAt (over4 K o X) (o / 64 + k) := by
  have hs := cAt_sec o X.length k h
  rw [← hc] at hs h
  have hq : o / 64 + k < s := by omega
  have l1 := secAt_length K s _ hK hq
  have hlo := over4_length K o X (by omega)
  have l2 := secAt_length (over4 K o X) s _ (by rw [hlo]; exact hK) hq
  have h0 : r = 0 ∨ c = 0 := by unfold cAt at hc; omega
  obtain ⟨q, hqe⟩ : ∃ q, q = o / 64 + k := ⟨_, rfl⟩
  rw [← hqe] at hs hq l1 l2 ⊢
  have hoc : o + c = 64 * q + r := by omega
  have hr64 : r < 64 := by omega
  have e1 : ((secAt K q).take r).length = r := by rw [List.length_take]; omega
  have e2 : ((X.drop c).take m).length = m := by rw [List.length_take, List.length_drop]; omega
  apply List.ext_getElem?
  intro j
  by_cases hj : j < 64
  · rw [secAt_get _ _ _ hj, over4_get K o X (by omega)]
    by_cases hj1 : j < r
    · rw [List.append_assoc, List.getElem?_append_left (by omega), List.getElem?_take, if_pos hj1, secAt_get _ _ _ hj, if_neg (by omega)]
    · by_cases hj2 : j < r + m
      · rw [List.append_assoc, List.getElem?_append_right (by omega), e1, List.getElem?_append_left (by omega), List.getElem?_take, if_pos (by omega), List.getElem?_drop, if_pos (by omega)]
        congr 1
        omega
      · rw [List.getElem?_append_right (by rw [List.length_append]; omega), List.length_append, e1, e2, List.getElem?_drop, secAt_get _ _ _ (by omega), if_neg (by omega)]
        congr 1
        omega
  · rw [List.getElem?_eq_none (by simp only [List.length_append, List.length_drop, e1, e2]; omega), List.getElem?_eq_none (by omega)]
theorem op_slice_lo5 (w : World) (g cap r : Nat) (hr : r < 64) (hc : 64 ≤ cap) : (Instr.slice 43 (.slice (some ⟨g, 0, none⟩) 64 cap) (some (.int .i64 (r : Int))) none none).run Tryz.prog w = .ok (.slice (some ⟨g, r, none⟩) (64 - r) (cap - r)) w := by
  rw [run_cutLow w (some ⟨g, 0, none⟩) 64 cap r (by omega), cutLow]
  split
  · omega
  · rw [Option.map_some, addr_plain, Nat.zero_add]
theorem take_map_get {X : List UInt8} {m j : Nat} {u : Value} (h : ((X.take m).map bv)[j]? = some u) : (X.map bv)[j]? = some u := by
  rw [List.map_take, List.getElem?_take] at h
  split at h
  · exact h
  · cases h
theorem copy_told {G : Nat → Prop} (w : World) (g : Nat) (T : TypeId) (C : Array Value) (L X : List UInt8) (vb : Value) (cap r m : Nat) (hC : w.heap[g]? = some (.cells C T (0, 0))) (hCs : C.size = cap) (hL : L.length = 64) (hc : 64 ≤ cap) (hCL : C.toList.take 64 = L.map bv) (hr : r < 64) (hb : BytesIn G w vb X) (hX : X ≠ []) (hm : m = min (64 - r) X.length) :
    ∃ w' C', (∀ ty, (Builtin.copy_ #[43, 43] ty #[.slice (some ⟨g, r, none⟩) (64 - r) (cap - r), vb]).run Tryz.prog w = .ok (.int .i64 m) w') ∧ w'.heap[g]? = some (.cells C' T (0, 0)) ∧ C'.size = cap ∧ C'.toList.take 64 = ((L.take r ++ X.take m ++ L.drop (r + m)).map bv) ∧ Fr (· = g) w w' := by
  obtain ⟨ao, capx, rfl, h1, h2, h3, h4⟩ := hb
  cases ao with
  | none =>
    exfalso
    have := h3 rfl
    exact hX (List.eq_nil_of_length_eq_zero (by omega))
  | some ad =>
    have hcl : ((X.take m).map bv).length = m := by rw [List.length_map, List.length_take]; omega
    have hrun := fun ty => run_copy_row (P := Tryz.prog) w 43 43 ty 5 g r (64 - r) (cap - r) ad X.length capx C T ((X.take m).map bv) Tryz.underlying43 (by kernel_rfl) hC (by rw [hcl, hm]; exact Nat.min_comm _ _)
      (fun j u hu => (h4 ad rfl).1 j u (take_map_get hu)) (by rw [hcl]; omega) (bv_one _)
    have hCl : C.toList.length = cap := by rw [Array.length_toList]; exact hCs
    refine ⟨_, _, fun ty => by rw [hrun ty, hcl]; rfl, setRow_heap w g _ _ _ (0, 0) hC, ?_, ?_, (Fr.refl (· = g) w).setRow (.inl rfl) _⟩
    · simp only [List.size_toArray, List.length_append, List.length_take, List.length_drop, hcl, hCl]
      omega
    · have d1 : C.toList.take r = (L.take r).map bv := by
        rw [List.map_take, ← hCL, List.take_take, Nat.min_eq_left (by omega)]
      have d2 : (C.toList.drop (r + m)).take (64 - (r + m)) = (L.drop (r + m)).map bv := by
        rw [List.map_drop, ← hCL, List.drop_take]
      rw [List.map_append, List.map_append, ← d1, ← d2]
      have hl1 : (C.toList.take r).length = r := by rw [List.length_take]; omega
      rw [List.take_append, List.take_of_length_le (by rw [List.length_append, hl1, hcl]; omega), List.length_append, hl1, hcl]
end Go.Proofs.YtldgcoikbjbjeaaGreat
namespace Go.Proofs.YtldgcoikbjbjeaaGreat
open Go.RowKit Go.ChangeShapes
set_option linter.unusedVariables false
section
variable {P : Program} {w : World} {o : Oper} {a : Act}
theorem op_loadAt {t : TypeId} {x : Operand} {vx v : Value} (ho : o.op = .load t x) (hx : a.eval x = vx) (hr : (Instr.loadAt t vx).run P w = .ok v w) : (execOp a.eval o).run P w = .ok (.value v) w := by
  unfold execOp
  rw [ho]
  simp only [hx, Sem.run_bind, hr, Result.andThen_ok]
  rfl
theorem op_unop {t : TypeId} {op : UnOp} {x : Operand} {vx v : Value} (ho : o.op = .unOp op t x) (hx : a.eval x = vx) (hr : (Op.unary op vx).run P w = .ok v w) : (execOp a.eval o).run P w = .ok (.value v) w := by
  unfold execOp
  rw [ho]
  simp only [hx, Sem.run_bind, hr, Result.andThen_ok]
  rfl
theorem op_indexAddr {t : TypeId} {x i : Operand} {vx vi v : Value} (ho : o.op = .indexAddr t x i) (hx : a.eval x = vx) (hi : a.eval i = vi) (hr : (Instr.indexAt t vx vi).run P w = .ok v w) : (execOp a.eval o).run P w = .ok (.value v) w := by
  unfold execOp
  rw [ho]
  simp only [hx, hi, Sem.run_bind, hr, Result.andThen_ok]
  rfl
theorem eval_const5 (a : Act) (v : Value) : a.eval (.const v) = v := rfl
end
theorem op_len5 {w : World} {o : Oper} {a : Act} {x : Operand} {ao : Option Addr} {n cap : Nat} (ho : o.op = .call { callee := .builtin .len, args := #[x], argTypes := #[43] }) (hx : a.eval x = .slice ao n cap) :
    (execOp a.eval o).run Tryz.prog w = .ok (.value (.int .i64 n)) w := by
  obtain ⟨d, op, ty, pos, aft, g⟩ := o
  simp only at ho
  subst ho
  simp [execOp, resolve, invoke, builtin, Builtin.len_, hx, Result.andThen, goInt]
theorem guard_int (w : World) (op : BinOp) (T : TypeId) (k : IntKind) (x y : Operand) (A Bb : Int) : (eqGuard op T x y (.int k A) (.int k Bb)).run Tryz.prog w = .ok () w := by cases op <;> rfl
theorem load_one5 (w : World) (T : TypeId) (p : Addr) (v : Value) (hT : (isAgg T).run Tryz.prog w = .ok false w) (h : w.cell? p = some v) : (Instr.loadAt T (.pointer (some p))).run Tryz.prog w = .ok v w := by
  simp [Instr.loadAt, Instr.sureAddr, loadVar, hT, h, go_sem]
theorem load_int5 (w : World) (p : Addr) (v : Value) (h : w.cell? p = some v) : (Instr.loadAt 3 (.pointer (some p))).run Tryz.prog w = .ok v w := load_one5 w _ p v (by kernel_rfl) h
section
variable {w : World} {T : TypeId} {k : IntKind} {x y : Int}
theorem leq_yes (h : x ≤ y) : (binOp .leq T (.int k x) (.int k y)).run Tryz.prog w = .ok (.bool true) w := by rw [binOp_leq]; simp [h]
theorem leq_no (h : y < x) : (binOp .leq T (.int k x) (.int k y)).run Tryz.prog w = .ok (.bool false) w := by rw [binOp_leq]; simp [h]
theorem lss_no (h : y ≤ x) : (binOp .lss T (.int k x) (.int k y)).run Tryz.prog w = .ok (.bool false) w := by rw [binOp_lss]; simp [h]
end
theorem wrap_in5 {x : Int} (h0 : -9223372036854775808 ≤ x) (h1 : x ≤ 9223372036854775807) : IntKind.i64.wrap x = x := IntWalk.i64_in x (by omega)
theorem add_in5 {w : World} {T : TypeId} {x y z : Int} (hz : x + y = z) (h0 : -9223372036854775808 ≤ z) (h1 : z ≤ 9223372036854775807) : (binOp .add T (.int .i64 x) (.int .i64 y)).run Tryz.prog w = .ok (.int .i64 z) w := by
  rw [binOp_add]
  subst hz
  simp [Op.intArith, wrap_in5 h0 h1, go_sem]
theorem mul_in5 {w : World} {T : TypeId} {x y z : Int} (hz : x * y = z) (h0 : -9223372036854775808 ≤ z) (h1 : z ≤ 9223372036854775807) : (binOp .mul T (.int .i64 x) (.int .i64 y)).run Tryz.prog w = .ok (.int .i64 z) w := by
  rw [binOp_mul]
  subst hz
  simp [Op.intArith, wrap_in5 h0 h1, go_sem]
theorem range_row5 {w : World} {g : Nat} {C : Array Value} {T : TypeId} (h : w.heap[g]? = some (.cells C T (0, 0))) : w.rangeAt g 0 C.toList := fun j v hv => by
  rw [Nat.zero_add, cell_of_row _ _ _ _ _ _ h]
  simpa using hv
end Go.Proofs.YtldgcoikbjbjeaaGreat
namespace Go.Proofs.YtldgcoikbjbjeaaGreat
open Go.RowKit Go.ChangeShapes Go.Maps
set_option linter.unusedVariables false
theorem Dv.read_yes {dv : Dv} {s q : Nat} (h1 : dv.down = false) (h2 : dv.waits = []) (hq : q < s) : dv.read s (q : Int) = (0, secAt dv.all q) := by
  unfold Dv.read
  rw [if_neg (by rw [h1]; decide), if_neg (by omega)]
  simp only [Dv.seen, h2, lastL, Int.toNat_natCast]
structure LaidAt (w0 w : World) (mb o k : Nat) (X : List UInt8) (K : List UInt8) (vs : Nat → Value) : Prop where
  map : w.ownsMap Tryz.prog 3 heldR mb k (mD (o / 64) vs k)
  secs : ∀ i, i < k → ToldT (fun j => w0.heap.size ≤ j ∧ j ≠ mb) w (vs i) (secAt (over4 K o X) (o / 64 + i))
  fr : Fr (fun _ => False) w0 w
theorem ownsMap_fr {w w' : World} {b n : Nat} {D : DataW Value} (h : w.ownsMap Tryz.prog 3 heldR b n D) (hf : Fr (fun _ => False) w w') : w'.ownsMap Tryz.prog 3 heldR b n D := by
  obtain ⟨es, clock, hb, rest⟩ := h
  exact ⟨es, clock, hf.heap hb id, rest⟩
theorem ToldT.block {F : Nat → Prop} {w : World} {v : Value} {L : List UInt8} (h : ToldT F w v L) (hL : L.length = 64) :
    ∃ g T C cap, v = .slice (some ⟨g, 0, none⟩) 64 cap ∧ F g ∧ w.heap[g]? = some (.cells C T (0, 0)) ∧ C.size = cap ∧ 64 ≤ cap ∧ cap ≤ maxLen ∧ C.toList.take 64 = L.map bv := by
  rcases h with ⟨_, rfl⟩ | ⟨g, T, C, cap, rfl, h1, h2, h3, h4, h5, h6⟩
  · cases hL
  · rw [hL] at h4 h6 ⊢
    exact ⟨g, T, C, cap, rfl, h1, h2, h3, h4, h5, h6⟩
theorem LaidAt.step {w0 wr w2 w3 : World} {mb o k g cap : Nat} {X K : List UInt8} {vs : Nat → Value} {T : TypeId} {C : Array Value} (h : LaidAt w0 wr mb o k X K vs) (hf : Fr (fun _ => False) wr w2) (hmb : w0.heap.size ≤ mb) (hlt : mb < wr.heap.size)
    (hg : wr.heap.size ≤ g) (hl : (secAt (over4 K o X) (o / 64 + k)).length = 64) (hC : w2.heap[g]? = some (.cells C T (0, 0))) (hCs : C.size = cap) (hc : 64 ≤ cap) (hcm : cap ≤ maxLen) (hCL : C.toList.take 64 = (secAt (over4 K o X) (o / 64 + k)).map bv)
    (hm : w3.ownsMap Tryz.prog 3 heldR mb (k + 1) ((mD (o / 64) vs k).put (keyN (o / 64) k) (.held (.slice (some ⟨g, 0, none⟩) 64 cap)))) (hgr : w2.grownBy w3 (some mb)) :
    LaidAt w0 w3 mb o (k + 1) X K (fun i => if i = k then .slice (some ⟨g, 0, none⟩) 64 cap else vs i) := by
  have hs := h.fr.size
  have hf3 : Fr (fun j => j = mb) w2 w3 := (Fr.refl _ w2).grown hgr (fun j hj => .inl (Option.some.inj hj).symm)
  refine ⟨?_, fun i hi => ?_, (h.fr.trans hf (fun _ h => h.elim)).trans hf3 (fun j e => .inr (by rw [show j = mb from e]; exact hmb))⟩
  · rw [mD, mD_congr _ _ vs k (fun i hi => if_neg (by omega)), if_pos rfl]
    exact hm
  · by_cases e : i = k
    · subst e
      rw [if_pos rfl]
      have ht : ToldT (fun j => w0.heap.size ≤ j ∧ j ≠ mb) w2 (.slice (some ⟨g, 0, none⟩) 64 cap) (secAt (over4 K o X) (o / 64 + i)) := .inr ⟨g, T, C, cap, by rw [hl], ⟨by omega, by omega⟩, hC, hCs, by omega, hcm, by rw [hl]; exact hCL⟩
      exact ht.keep hf3 (fun j _ h1 h2 => h1.2 h2)
    · rw [if_neg e]
      exact ((h.secs i (by omega)).keep hf (fun _ _ _ h => h)).keep hf3 (fun j _ h1 h2 => h1.2 h2)
def LaidPost (w : World) (o k : Nat) (X K : List UInt8) (e : Ending) (w' : World) : Prop := ∃ mb vs, e = .returned (.tuple #[.map (some mb), .int .i64 0]) ∧ w.heap.size ≤ mb ∧ LaidAt w w' mb o k X K vs
set_option maxRecDepth 100000 in
set_option maxHeartbeats 4000000 in
theorem lLaid_any {D G : Nat → Prop} (w : World) (g s o : Nat) (dv : Dv) (vb : Value) (X : List UInt8) (hd : DevAt w D g s dv) (hup : dv.down = false) (hw : dv.waits = []) (hs : s ≤ 8192) (ho : o + X.length ≤ 64 * s) (hb : BytesIn G w vb X) :
    Calls Tryz.prog 161 #[.pointer (some ⟨g, 0, none⟩), .int .i64 o, vb] w (LaidPost w o (manySecs o X.length) X dv.all) := by
  have hK := hd.right.all
  obtain ⟨ao, cap, rfl, h1, h2, _⟩ := id hb
  unfold maxLen at h2
  obtain ⟨n, hn⟩ : ∃ n, n = X.length := ⟨_, rfl⟩
  obtain ⟨mb, hmb⟩ : ∃ mb, mb = w.heap.size := ⟨_, rfl⟩
  have hmbl : n ≤ 524288 := by omega
  have hol : o ≤ 524288 := by omega
  have hmk := run_makeMap (P := Tryz.prog)
  have hf0 : Fr (fun _ => False) w (w.alloc (.map #[] 0)) := (Fr.refl _ _).alloc _
  have HB := Lib.hid ((hb.mono (G := fun k => G k ∧ k < w.heap.size) (fun k hk h => ⟨h, hk⟩)).keep hf0 (fun _ _ _ h => h))
  have H0 := Lib.hid (show LaidAt w (w.alloc (.map #[] 0)) mb o 0 X dv.all (fun _ => undef) from ⟨by rw [hmb]; exact World.ownsMap_made w _ _ _, fun i hi => absurd hi (by omega), hf0⟩)
  have HD := Lib.hid (And.intro hd (And.intro hK (And.intro hup hw)))
  have HN := Lib.hid (And.intro hn (And.intro hmb ho))
  rw [← hn]
  rw [← hn] at h1
  rw [← hn] at HB
  clear hd hK hup hw hb hf0 ho hn hmb
  go_enter Tryz.func161, Tryz.ntmps161
  go_wp2_with fail
  go_loopw [1, 2] (fun fv xv wr => ∃ (p c k : Nat) (vs : Nat → Value), c ≤ n ∧ p ≤ 1048576 ∧ fv = .int .i64 (p : Nat) ∧ Hid (p = o + c ∧ c = cAt o n k ∧ k ≤ manySecs o n ∧ LaidAt w wr mb o k X dv.all vs ∧ mb < wr.heap.size) ∧ Hid (BytesIn (fun j => G j ∧ j < w.heap.size) wr xv (X.drop c))) (fun fv _ _ => 2097152 - (intOf fv).toNat)
  case atStart => exact ⟨o, 0, 0, _, by omega, by omega, rfl, Lib.hid ⟨rfl, (cAt_zero o n).symm, Nat.zero_le _, H0.out, by rw [HN.out.2.1]; simp⟩, HB⟩
  case round =>
    obtain ⟨p, c, k, vs, hcn, hp, rfl, hR, hXB⟩ := hrel
    clear HB H0
    have hxl : (X.drop c).length = n - c := by rw [List.length_drop, ← HN.out.1]
    obtain ⟨ao2, cap2, rfl, l1, l2, _⟩ := id hXB.out
    unfold maxLen at l2
    obtain ⟨q, hq⟩ : ∃ q, q = (X.drop c).length := ⟨_, rfl⟩
    rw [← hq] at l1
    have hqb : q = n - c := by rw [hq]; exact hxl
    rw [← hq] at hXB ⊢
    by_cases hlt : c < n
    · have hq0 : 0 < q := by omega
      have hq1 : q ≤ 524288 := by omega
      have hcl : cAt o n k < n := by rw [← hR.out.2.1]; exact hlt
      obtain ⟨a, ha⟩ : ∃ a, a = o / 64 + k := ⟨_, rfl⟩
      obtain ⟨r, hr⟩ : ∃ r, r = (o + c) % 64 := ⟨_, rfl⟩
      have hpa : p / 64 = a := by rw [hR.out.1, ha, hR.out.2.1]; exact cAt_sec o n k hcl
      have hqi : (p : Int) / 64 = (a : Nat) := by omega
      have hpr : p % 64 = r := by rw [hR.out.1, hr]
      have hri : (p : Int) % 64 = (r : Nat) := by omega
      have hr64 : r < 64 := by omega
      have has : a < s := by have := HN.out.2.2; have := HN.out.1; have := hR.out.1; omega
      obtain ⟨m, hm⟩ : ∃ m, m = min (64 - r) q := ⟨_, rfl⟩
      have hmb1 : m ≤ q ∧ 0 < m ∧ m ≤ 64 := by omega
      have hdr := HD.out.1.keep hR.out.2.2.2.1.fr (fun _ _ _ h => h)
      have hrd := aRead wr g s dv (a : Int) (by rw [HD.out.2.2.2]; decide) hdr
      rw [Dv.read_yes HD.out.2.2.1 HD.out.2.2.2 has] at hrd
      have hsl := secAt_length dv.all s a HD.out.2.1 has
      obtain ⟨S, hS⟩ : ∃ S, S = secAt dv.all a := ⟨_, rfl⟩
      rw [← hS] at hrd hsl
      have HRD := Lib.hid hrd
      have HSL := Lib.hid (And.intro hsl hS)
      have HM := Lib.hid (And.intro hm (And.intro hq (And.intro ha hr)))
      have hcut := fun W : World => run_cutLow W ao2 q cap2 m hmb1.1
      have HCL := Lib.hid hcl
      have HLAID := Lib.hid (laid_sec dv.all s o k X HD.out.2.1 HN.out.2.2 (by rw [← HN.out.1]; exact hcl) c r m (by rw [← HN.out.1]; exact hR.out.2.1) hr (by rw [hm, hqb, HN.out.1]))
      have HTL := Lib.hid (show (X.drop c) ≠ [] from fun h => by rw [h] at hq; simp at hq; omega)
      have HKEY := Lib.hid (keyOf_int_mk (P := Tryz.prog) Tryz.underlying3 (a := ((a : Nat) : Int)) (WalkArith.wf_i64 (by omega)))
      have HQB := Lib.hid (And.intro hqb (And.intro hmb1 (And.intro hp (And.intro hcn hlt))))
      have hmp : (p : Int) + (m : Int) ≤ 2000000 := by omega
      have hm0 : 0 < m := hmb1.2.1
      have hmq : m ≤ q := hmb1.1
      clear hdr hrd hsl hS hq hqb ha hr hpa hpr hm hcl hxl hmb1 hcn hlt
      go_wp2_with (first
        | (go_at_call 53; refine HRD.out.mono ?_; rintro e w1 ⟨v, rfl, ht, hf1⟩; obtain ⟨g1, T, C, capr, rfl, hg1, hC, hCs, hc64, hcm, hCL⟩ := ht.block HSL.out.1; (have hsl5 := fun W : World => op_slice_lo5 W g1 capr r hr64 hc64); obtain ⟨w2, C2, hcp, hC2, hC2s, hC2L, hf2⟩ := copy_told w1 g1 T C S (X.drop c) (.slice ao2 q cap2) capr r m hC hCs HSL.out.1 hc64 hCL hr64 (hXB.out.keep hf1 (fun _ _ _ h => h)) HTL.out (by rw [HM.out.1, HM.out.2.1]); (have HCP := Lib.hid hcp); (have H2 := Lib.hid (And.intro (hf1.trans hf2 (fun j e => .inr (by rw [show j = g1 from e]; exact hg1))) (And.intro hg1 (And.intro hC2 (And.intro hC2s (And.intro hc64 (And.intro hcm hC2L))))))); clear ht hf1 hC hCs hcm hCL hcp hC2 hC2s hC2L hf2 hg1)
        | (refine wpList_value rfl (.int .i64 m) w2 (op_copy rfl rfl rfl HCP.out) ?_)
        | (at_mapUpdate; refine wpList_mapUpdate_own w2 rfl (.tmp 36) (.tmp 37) (.tmp 38) 223 rfl 3 43 (int_keyed Tryz.underlying3) Tryz.underlying223 heldR mb k (mD (o / 64) vs k) (by rw [HN.out.2.1]; rfl) (ownsMap_fr hR.out.2.2.2.1.map H2.out.1) (by have := hR.out.2.2.1; unfold manySecs at this; unfold maxLen; split at this <;> omega) (.int .i64 a) (.slice (some ⟨g1, 0, none⟩) 64 capr) _ rfl rfl HKEY.out (.held (.slice (some ⟨g1, 0, none⟩) 64 capr)) [] rfl ?_; intro w3 hm3 hgr3; (have H3 := Lib.hid (And.intro hm3 hgr3)); clear hm3 hgr3))
      go_roundw
      case rel =>
        have hcs : c + m = cAt o n (k + 1) := by
          rw [← cAt_succ o n k HCL.out, ← hR.out.2.1, HM.out.1, HM.out.2.2.2, HQB.out.1]
        have hsec : (secAt (over4 dv.all o X) (o / 64 + k)).length = 64 := secAt_length _ s _ (by rw [over4_length _ _ _ (by rw [HD.out.2.1]; exact HN.out.2.2)]; exact HD.out.2.1) (by rw [← HM.out.2.2.1]; exact has)
        have hf3 : Fr (fun j => j = mb) w2 w3 := (Fr.refl _ w2).grown H3.out.2 (fun j hj => .inl (Option.some.inj hj).symm)
        refine ⟨p + m, c + m, k + 1, _, by have := HQB.out.2.1; have := HQB.out.1; omega, by omega, by go_num, Lib.hid ⟨by rw [hR.out.1, Nat.add_assoc], hcs, cAt_many o n k HCL.out, hR.out.2.2.2.1.step H2.out.1 (by rw [HN.out.2.1]; exact Nat.le_refl _) hR.out.2.2.2.2 H2.out.2.1 hsec H2.out.2.2.1 H2.out.2.2.2.1 H2.out.2.2.2.2.1 H2.out.2.2.2.2.2.1 (by rw [← HLAID.out, ← HM.out.2.2.1, ← HSL.out.2]; exact H2.out.2.2.2.2.2.2) (by have h := H3.out.1; rw [HM.out.2.2.1] at h; exact h) H3.out.2, ?_⟩, ?_⟩
        · exact Nat.lt_of_lt_of_le (Nat.lt_of_lt_of_le hR.out.2.2.2.2 H2.out.1.size) hf3.size
        · have h := ((hXB.out.keep H2.out.1 (fun _ _ _ h => h)).keep hf3 (fun j _ h e => by have := HN.out.2.1; have e' : j = mb := e; have := h.2; omega)).cutLow m (by rw [← HM.out.2.1]; exact HQB.out.2.1.1)
          rw [List.drop_drop] at h
          exact Lib.hid h
      case measure => simp [intOf]; omega
    · have hq0 : q = 0 := by omega
      subst hq0
      have HP := Lib.hid (show w.heap.size ≤ mb ∧ LaidAt w wr mb o (manySecs o n) X dv.all vs by
        have hcn2 : cAt o n k = n := by rw [← hR.out.2.1]; omega
        refine ⟨by rw [HN.out.2.1]; exact Nat.le_refl _, ?_⟩
        rw [← cAt_done o n k hR.out.2.2.1 hcn2]
        exact hR.out.2.2.2.1)
      have HMB := Lib.hid (HN.out.2.1)
      clear hR hXB hq hqb hcn hlt hxl
      go_wp2
      go_ret2
      exact ⟨mb, vs, by rw [HMB.out]; rfl, HP.out⟩
end Go.Proofs.YtldgcoikbjbjeaaGreat
namespace Go.Proofs.YtldgcoikbjbjeaaGreat
open Go.RowKit Go.ChangeShapes
set_option linter.unusedVariables false
theorem ent_spence_log_isMany (args : Array Value) (w : World) : (callFunc 24 args).run Tryz.prog w = .ok (.enter 24 args) w := by kernel_rfl
theorem ent_spence_log_dataAt (args : Array Value) (w : World) : (callFunc 25 args).run Tryz.prog w = .ok (.enter 25 args) w := by kernel_rfl
theorem ent_spence_log_areaAt (args : Array Value) (w : World) : (callFunc 50 args).run Tryz.prog w = .ok (.enter 50 args) w := by kernel_rfl
theorem ent__spence_log_head__room (args : Array Value) (w : World) : (callFunc 96 args).run Tryz.prog w = .ok (.enter 96 args) w := by kernel_rfl
theorem ent__spence_log_head__appended (args : Array Value) (w : World) : (callFunc 108 args).run Tryz.prog w = .ok (.enter 108 args) w := by kernel_rfl
theorem ent___spence_log_Journal__read (args : Array Value) (w : World) : (callFunc 101 args).run Tryz.prog w = .ok (.enter 101 args) w := by kernel_rfl
theorem ent_spence_spenceref05_Sectors (args : Array Value) (w : World) : (callFunc 23 args).run Tryz.prog w = .ok (.enter 23 args) w := by kernel_rfl
theorem ent_spence_spenceref05_Right (args : Array Value) (w : World) : (callFunc 49 args).run Tryz.prog w = .ok (.enter 49 args) w := by kernel_rfl
theorem fld_spence_api_Shape_0_0 (w : World) (g : Nat) : (Instr.fieldAt 23 (.pointer (some ⟨g, 0, none⟩)) 0).run Tryz.prog w = .ok (.pointer (some ⟨g, 0, none⟩)) w := by kernel_rfl
theorem fld_spence_api_Shape_1_0 (w : World) (g : Nat) : (Instr.fieldAt 23 (.pointer (some ⟨g, 0, none⟩)) 1).run Tryz.prog w = .ok (.pointer (some ⟨g, 1, none⟩)) w := by kernel_rfl
theorem fld_spence_api_Shape_2_0 (w : World) (g : Nat) : (Instr.fieldAt 23 (.pointer (some ⟨g, 0, none⟩)) 2).run Tryz.prog w = .ok (.pointer (some ⟨g, 2, none⟩)) w := by kernel_rfl
theorem fld_spence_log_head_0_0 (w : World) (g : Nat) : (Instr.fieldAt 106 (.pointer (some ⟨g, 0, none⟩)) 0).run Tryz.prog w = .ok (.pointer (some ⟨g, 0, none⟩)) w := by kernel_rfl
theorem fld_spence_log_head_1_0 (w : World) (g : Nat) : (Instr.fieldAt 106 (.pointer (some ⟨g, 0, none⟩)) 1).run Tryz.prog w = .ok (.pointer (some ⟨g, 1, none⟩)) w := by kernel_rfl
theorem fld_spence_log_head_2_0 (w : World) (g : Nat) : (Instr.fieldAt 106 (.pointer (some ⟨g, 0, none⟩)) 2).run Tryz.prog w = .ok (.pointer (some ⟨g, 2, none⟩)) w := by kernel_rfl
theorem fld_spence_log_Journal_0_0 (w : World) (g : Nat) : (Instr.fieldAt 114 (.pointer (some ⟨g, 0, none⟩)) 0).run Tryz.prog w = .ok (.pointer (some ⟨g, 0, none⟩)) w := by kernel_rfl
theorem fld_spence_log_Journal_2_0 (w : World) (g : Nat) : (Instr.fieldAt 114 (.pointer (some ⟨g, 0, none⟩)) 2).run Tryz.prog w = .ok (.pointer (some ⟨g, 5, none⟩)) w := by kernel_rfl
end Go.Proofs.YtldgcoikbjbjeaaGreat
