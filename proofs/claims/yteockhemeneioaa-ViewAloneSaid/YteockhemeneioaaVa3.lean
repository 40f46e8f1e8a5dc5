/- Laid together: VEl VNm0 VOps VGreat VOf0 -/
import Derived.Test.YteockhemeneioaaVa1
import Derived.Test.YteockhemeneioaaVa0
import Derived.Maps.AppendAt
import Derived.Test.YteockhemeneioaaVa2
import Derived.Test.YteockhemeneioaaShelf
import Derived.Lib.Strings
import Derived.Laws.Strings3
import Derived.Lib.Slices
import Derived.Sort.KeysCollected
import Derived.Deep.MidRow
import Derived.Deep.QuietTactic
import Derived.BigQuiet

namespace Go.Proofs.Yteockhemeneioaa
open Go.RowKit Go.ChangeShapes
set_option linter.unusedVariables false
def Elems (k : Nat) (F : Nat → Prop) (w : World) (v : Value) (css : List (List Value)) : Prop :=
  ∃ ao cap, v = .slice ao css.length cap ∧ css.length ≤ cap ∧ cap ≤ 9223372036854775807 ∧ (∀ c ∈ css, c.length = k) ∧
    (css ≠ [] → ∃ b off, ao = some ⟨b, off, none⟩ ∧ F b ∧ ∀ i (h : i < css.length) j, j < k → w.cell? ⟨b, off + i * k + j, none⟩ = css[i][j]?)
theorem Elems.nil (k : Nat) (F : Nat → Prop) (w : World) : Elems k F w (.slice none 0 0) [] := ⟨none, 0, rfl, Nat.le_refl _, by simp, (fun _ h => by cases h), fun h => absurd rfl h⟩
theorem Elems.keep {k : Nat} {F S : Nat → Prop} {w w' : World} {v : Value} {css : List (List Value)} (h : Elems k F w v css) (hf : Fr S w w') (hd : ∀ b, b < w.heap.size → F b → ¬ S b) : Elems k F w' v css := by
  obtain ⟨ao, cap, hv, h1, h2, h3, h4⟩ := h
  refine ⟨ao, cap, hv, h1, h2, h3, fun hl => ?_⟩
  obtain ⟨b, off, ha, hF, hi⟩ := h4 hl
  refine ⟨b, off, ha, hF, fun i h j hj => ?_⟩
  have h5 := hi i h j hj
  have hlen := h3 _ (List.getElem_mem h)
  rw [List.getElem?_eq_getElem (by omega)] at h5 ⊢
  exact hf.cell h5 (hd b (World.block_lt_of_cell? _ _ h5) hF)
theorem Elems.mono {k : Nat} {F G : Nat → Prop} {w : World} {v : Value} {css : List (List Value)} (h : Elems k F w v css) (hk : 0 < k) (hd : ∀ b, b < w.heap.size → F b → G b) : Elems k G w v css := by
  obtain ⟨ao, cap, hv, h1, h2, h3, h4⟩ := h
  refine ⟨ao, cap, hv, h1, h2, h3, fun hl => ?_⟩
  obtain ⟨b, off, ha, hF, hi⟩ := h4 hl
  have hp := List.length_pos_iff.2 hl
  have h5 := hi 0 hp 0 hk
  have hlen := h3 _ (List.getElem_mem hp)
  rw [List.getElem?_eq_getElem (by omega)] at h5
  exact ⟨b, off, ha, hd b (World.block_lt_of_cell? _ _ h5) hF, hi⟩
theorem flat_get {α : Type} {k : Nat} : ∀ (css : List (List α)), (∀ c ∈ css, c.length = k) → ∀ i (h : i < css.length) j, j < k → css.flatten[i * k + j]? = css[i][j]?
  | [], _, i, h, _, _ => by simp at h
  | c :: css, hc, 0, h, j, hj => by
    have := hc c List.mem_cons_self
    rw [List.flatten_cons, Nat.zero_mul, Nat.zero_add, List.getElem?_append_left (by omega)]
    rfl
  | c :: css, hc, i + 1, h, j, hj => by
    have := hc c List.mem_cons_self
    have e : (i + 1) * k + j - c.length = i * k + j := by rw [Nat.add_mul, this]; omega
    have e2 : k ≤ (i + 1) * k := by rw [Nat.add_mul]; omega
    rw [List.flatten_cons, List.getElem?_append_right (by omega), e, flat_get css (fun d hd => hc d (List.mem_cons_of_mem _ hd)) i (by simpa using h) j hj]
    rfl
theorem flat_len {α : Type} {k : Nat} : ∀ (css : List (List α)), (∀ c ∈ css, c.length = k) → css.flatten.length = css.length * k
  | [], _ => by simp
  | c :: css, hc => by rw [List.flatten_cons, List.length_append, hc c List.mem_cons_self, flat_len css (fun d hd => hc d (List.mem_cons_of_mem _ hd)), List.length_cons, Nat.add_mul]; omega
structure OwnE (T : TypeId) (k z : Nat) (w : World) (v : Value) (css : List (List Value)) : Prop where
  row : w.ownsRow z T k v css.length css.flatten
  each : ∀ c ∈ css, c.length = k
theorem OwnE.nil (T : TypeId) (k z : Nat) (w : World) : OwnE T k z w (.slice none 0 0) [] := ⟨World.ownsRow_nil _ _ _ _, fun _ h => by cases h⟩
theorem OwnE.keep {S : Nat → Prop} {T : TypeId} {k z : Nat} {w w' : World} {v : Value} {css : List (List Value)} (h : OwnE T k z w v css) (hf : Fr S w w') (hd : ∀ g, v.ownBlock = some g → ¬ S g) : OwnE T k z w' v css := by
  refine ⟨⟨h.row.1, ?_⟩, h.each⟩
  rcases h.row.2 with e | ⟨g, cap, cur, hv, hb, hg, r⟩
  · exact .inl e
  · exact .inr ⟨g, cap, cur, hv, hb, hf.heap hg (hd g (by rw [hv]; rfl)), r⟩
theorem OwnE.own {T : TypeId} {k z : Nat} {w : World} {v : Value} {css : List (List Value)} (h : OwnE T k z w v css) (g : Nat) (hg : v.ownBlock = some g) : z ≤ g ∧ g < w.heap.size := by
  rcases h.row.2 with ⟨hv, _⟩ | ⟨g', cap, cur, hv, hb, hg', _⟩
  · rw [hv] at hg; simp [Value.ownBlock] at hg
  · rw [hv] at hg
    simp only [Value.ownBlock, Option.some.injEq] at hg
    exact hg ▸ ⟨hb, lt_of_block hg'⟩
theorem OwnE.elems {T : TypeId} {k z : Nat} {w : World} {v : Value} {css : List (List Value)} (h : OwnE T k z w v css) : Elems k (fun b => v.ownBlock = some b) w v css := by
  rcases h.row.2 with ⟨hv, h0⟩ | ⟨g, cap, cur, hv, hb, hg, hnc, hcm, hcs, ht⟩
  · obtain rfl := List.eq_nil_of_length_eq_zero h0
    rw [hv]
    exact Elems.nil _ _ _
  · unfold maxLen at hcm
    refine ⟨_, cap, hv, hnc, by omega, h.each, fun _ => ⟨g, 0, rfl, by rw [hv]; rfl, fun i hi j hj => ?_⟩⟩
    have hfl := flat_len css h.each
    have hlt : i * k + j < css.length * k := Nat.lt_of_lt_of_le (show i * k + j < (i + 1) * k by rw [Nat.add_mul]; omega) (Nat.mul_le_mul_right k hi)
    have hr := h.row
    rw [hv] at hr
    have := World.ownsRow.cellAt hr (i * k + j) (by omega)
    rw [Nat.zero_add, this, flat_get css h.each i hi j hj]
theorem OwnE.form {T : TypeId} {k z : Nat} {w : World} {v : Value} {css : List (List Value)} (h : OwnE T k z w v css) : ∃ ao c, v = .slice ao css.length c := by
  obtain ⟨ao, c, hv, _⟩ := h.elems
  exact ⟨ao, c, hv⟩
theorem run_append_e {T ST : TypeId} {k bs : Nat} {zv : Value} {i0 : TypeInfo} (hu : Try.prog.underlying ST = some (.slice T)) (hinf : (Try.prog.info? T).map (fun i => (i.zero, i.size, i.bytes)) = some (some zv, k, bs)) (hzs : zv.cells.size = k) (hk0 : 0 < k) (hbs : bs ≤ 100)
    {F : Nat → Prop} {z : Nat} (w : World) (ty : TypeId) (v x : Value) (css dss : List (List Value)) (hown : OwnE T k z w v css) (hx : Elems k F w x dss) (h1 : ∀ c ∈ dss, ∀ u ∈ c, u.oneCell' = true) (hz : z ≤ w.heap.size) (hn : css.length + dss.length ≤ 1000000) :
    ∃ v' w', (Builtin.append_ #[ST, ST] ty #[v, x]).run Try.prog w = .ok v' w' ∧ OwnE T k z w' v' (css ++ dss) ∧ w.grownBy w' v.ownBlock ∧ (v'.ownBlock = v.ownBlock ∨ v'.ownBlock = some w.heap.size) := by
  obtain ⟨i0, hi, hz0, hz1, hz2⟩ := info_parts hinf
  have heach : ∀ c ∈ css ++ dss, c.length = k := by
    obtain ⟨_, _, _, _, _, h3, _⟩ := hx
    intro c hc
    rcases List.mem_append.1 hc with hc | hc
    · exact hown.each c hc
    · exact h3 c hc
  obtain ⟨ao, cap, rfl, hc1, hc2, h3, h4⟩ := hx
  by_cases he : dss = []
  · subst he
    rw [List.append_nil]
    cases ao with
    | none =>
      have hcap : cap = 0 ∨ cap ≠ 0 := by omega
      rcases hcap with rfl | hcap
      · exact ⟨v, w, run_append_owned_none (P := Try.prog) (w := w) z ST ty T i0 k hu hi v css.length _ hown.row, hown, World.grownBy.refl _ _, .inl rfl⟩
      · exact ⟨v, w, run_append_owned_none (P := Try.prog) (w := w) z ST ty T i0 k hu hi v css.length _ hown.row, hown, World.grownBy.refl _ _, .inl rfl⟩
    | some a =>
      obtain ⟨v', w', hr, r2, r3, r4, r5⟩ := run_append_own_at (P := Try.prog) w z ST ty T i0 zv k bs hu hi hz0 hz1 hz2 hzs hk0 v css.length _ hown.row a 0 cap [] (by simp) (by simp) (by simp) (by unfold maxLen; simp at hn; omega) (Nat.le_trans (Nat.mul_le_mul (show css.length + 0 ≤ 1000000 by simpa using hn) hbs) (by decide)) hz
      exact ⟨v', w', hr, ⟨by simpa using r2, hown.each⟩, r3, r5⟩
  · obtain ⟨b, off, rfl, hF, hcell⟩ := h4 he
    obtain ⟨v', w', hr, r2, r3, r4, r5⟩ := run_append_own_at (P := Try.prog) w z ST ty T i0 zv k bs hu hi hz0 hz1 hz2 hzs hk0 v css.length _ hown.row ⟨b, off, none⟩ dss.length cap dss.flatten (flat_len dss h3) (fun j u hu => by
        have hfl := flat_len dss h3
        have hj : j < dss.flatten.length := (List.getElem?_eq_some_iff.1 hu).1
        rw [hfl] at hj
        have hq : j / k < dss.length := Nat.div_lt_of_lt_mul (by rw [Nat.mul_comm]; exact hj)
        have hm := Nat.div_add_mod j k
        have hml := Nat.mod_lt j hk0
        have e : off + (j / k) * k + j % k = off + j := by rw [Nat.mul_comm (j / k) k]; omega
        have h5 := hcell (j / k) hq (j % k) hml
        rw [e, ← flat_get dss h3 (j / k) hq (j % k) hml, show (j / k) * k + j % k = j by rw [Nat.mul_comm]; omega, hu] at h5
        rw [addr_plain]
        exact h5) (fun u hu => by
        obtain ⟨c, hc, huc⟩ := List.mem_flatten.1 hu
        exact h1 c hc u huc) (by unfold maxLen; omega) (Nat.le_trans (Nat.mul_le_mul hn hbs) (by decide)) hz
    refine ⟨v', w', hr, ⟨?_, heach⟩, r3, r5⟩
    rw [List.length_append, List.flatten_append]
    exact r2
theorem wpList_append_e {T ST : TypeId} {k bs : Nat} {zv : Value} (hu : Try.prog.underlying ST = some (.slice T)) (hinf : (Try.prog.info? T).map (fun i => (i.zero, i.size, i.bytes)) = some (some zv, k, bs)) (hzs : zv.cells.size = k) (hk0 : 0 < k) (hbs : bs ≤ 100)
    {F : Nat → Prop} {z : Nat} (w : World) {ops : Array Oper} {rest : List Oper} {o : Oper} {a : Act} {Q : Exit → Act → World → Prop} (hgd : o.guard = none) (s x : Operand)
    (hop : o.op = Op.call { callee := Callee.builtin Builtin.append, args := #[s, x], argTypes := #[ST, ST] })
    (v y : Value) (css dss : List (List Value)) (hs : a.eval s = v) (hx : a.eval x = y) (hown : OwnE T k z w v css) (he : Elems k F w y dss) (h1 : ∀ c ∈ dss, ∀ u ∈ c, u.oneCell' = true) (hz : z ≤ w.heap.size) (hn : css.length + dss.length ≤ 1000000)
    (hK : ∀ v' w', OwnE T k z w' v' (css ++ dss) → w.grownBy w' v.ownBlock → (v'.ownBlock = v.ownBlock ∨ v'.ownBlock = some w.heap.size) → wpList Try.prog ops Q rest (a.put o.dst v') w') : wpList Try.prog ops Q (o :: rest) a w := by
  refine wpList_plain hgd fun K hK' => ?_
  subst hs
  subst hx
  obtain ⟨i0, hi⟩ : ∃ i, Try.prog.info? T = some i := by
    cases h : Try.prog.info? T with
    | none => rw [h] at hinf; cases hinf
    | some i => exact ⟨i, rfl⟩
  obtain ⟨v', w', hr, r1, r2, r3⟩ := run_append_e (i0 := i0) hu hinf hzs hk0 hbs w o.type _ _ css dss hown he h1 hz hn
  unfold Oper.wp
  simp [execOp, hop, resolve, invoke, builtin, hr, Result.andThen]
  exact hK' _ _ (hK v' w' r1 r2 r3)
theorem Elems.ofBlock {k : Nat} {w : World} {b : Nat} {T : TypeId} {c : List Value} (h : w.heap[b]? = some (.cells c.toArray T (0, 0))) (hc : c.length = k) : Elems k (fun j => j = b) w (.slice (some ⟨b, 0, none⟩) 1 1) [c] := by
  refine ⟨_, 1, rfl, Nat.le_refl _, by decide, (fun d hd => by rw [List.mem_singleton.1 hd]; exact hc), fun _ => ⟨b, 0, rfl, rfl, fun i hi j hj => ?_⟩⟩
  have : i = 0 := by simp at hi; omega
  subst this
  rw [cell_of_row _ _ _ _ _ _ h]
  simp
end Go.Proofs.Yteockhemeneioaa
namespace Go.Proofs.Yteockhemeneioaa
open Go.RowKit Go.ChangeShapes Go.Maps Go.WideMaps Go.Sort
set_option linter.unusedVariables false
set_option maxHeartbeats 1000000 in
theorem hasPrefixLite_any (s p : ByteArray) (w : World) :
    Calls Try.prog 87 #[.string s, .string p] w fun e w' => e = .returned (.bool (Lib.hasPrefix s.data.toList p.data.toList)) ∧ w' = w := by
  rw [← Lib.hasPrefix_of_take, ← Lib.size_eq, ← Lib.size_eq]
  go_enter Try.func87, Try.ntmps87
  go_wp2
  · rename_i h
    go_ret
    refine ⟨?_, rfl⟩
    show Ending.returned (Value.bool ((s.extract 0 p.size).toList == p.toList)) = _
    rw [Lib.extract_toList, Lib.toList_data]
    simp [h]
  · rename_i h
    go_ret
    refine ⟨?_, rfl⟩
    show Ending.returned (Value.bool false) = _
    simp [h]
set_option maxHeartbeats 1000000 in
theorem hasPrefix_any (s p : ByteArray) (w : World) :
    Calls Try.prog 85 #[.string s, .string p] w fun e w' => e = .returned (.bool (Lib.hasPrefix s.data.toList p.data.toList)) ∧ w' = w := by
  go_enter Try.func85, Try.ntmps85
  go_wp2_with (go_at_call 87; refine (hasPrefixLite_any _ _ _).mono ?_; rintro e w' ⟨rfl, hw⟩; rw [hw])
  go_ret
  exact ⟨rfl, rfl⟩
theorem lt_range9 {w : World} {b r n cnt : Nat} {D : DataW Value} {left : Lit → Bool} (h : w.ranges Try.prog 114 heldR9 b r n D left cnt) : r < w.heap.size := by
  obtain ⟨es, clock, since, seen, c0, h1, h2, h3, h4, h5, h6⟩ := h
  exact lt_of_block h5
theorem infoStr : (Try.prog.info? 9).map (fun i => (i.zero, i.size, i.bytes)) = some (some (.string ⟨#[]⟩), 1, 16) := by kernel_rfl
theorem World.ranges.keep9 {S : Nat → Prop} {w w' : World} {b r n cnt : Nat} {D : DataW Value} {left : Lit → Bool} (h : w.ranges Try.prog 114 heldR9 b r n D left cnt) (hf : Fr S w w') (hb : ¬ S b) (hr : ¬ S r) : w'.ranges Try.prog 114 heldR9 b r n D left cnt := by
  obtain ⟨es, clock, since, seen, c0, h1, h2, h3, h4, h5, h6⟩ := h
  exact ⟨es, clock, since, seen, c0, hf.heap h1 hb, h2, h3, h4, hf.heap h5 hr, h6⟩
def encK (k : Bs) : List Value := [encStr k]
theorem encK_str (N : ByteArray) : encK N.data.toList = [.string N] := by simp [encK, encStr]
def StrB (w : World) (k : Nat) : Prop := ∃ cs fr s, w.heap[k]? = some (.cells cs 9 fr) ∧ cs[0]? = some (Value.string s)
section
variable {α : Type}
theorem sorted_vkeys {M : VT α} (hM : VOk M) (P : Bs) {ks : List Bs} (hn : ks.Nodup) (hk : ∀ k, k ∈ ks ↔ k ∈ vKeys M P) : ks.mergeSort (fun x y => decide (x ≤ y)) = vKeys M P := by
  have hasc := vKeys_asc hM P
  have hnd : (vKeys M P).Nodup := hasc.imp (fun h e => bs_ne h e)
  have hp : ks.Perm (vKeys M P) := (List.perm_ext_iff_of_nodup hn hnd).2 hk
  have h1 : ks.mergeSort leB = (vKeys M P).mergeSort leB := mergeSort_of_perm hp
  refine h1.trans (List.mergeSort_of_pairwise (hasc.imp (fun h => ?_)))
  exact decide_eq_true (List.le_of_lt h)
structure NmSt (B : Int → VT α) (who : Int) (P : Bs) (z : Nat) (w W : World) (v : Value) (ks : List Bs) (left : Lit → Bool) : Prop where
  own : OwnE 9 1 z W v (ks.map encK)
  nodup : ks.Nodup
  mem : ∀ k, k ∈ ks ↔ k ∈ vKeys (B who) P ∧ left (keyP who k) = false
  left : ∀ i k, Wf i → k.length ≤ maxLen → left (keyP i k) = true → (vGet (B i) k).isSome = true
  fr : Fr (fun _ => False) w W
theorem sort_vkeys {z : Nat} {M : VT α} (hM : VOk M) (P : Bs) (w : World) (v : Value) (ks : List Bs) (h : OwnE 9 1 z w v (ks.map encK)) (hn : ks.Nodup) (hk : ∀ k, k ∈ ks ↔ k ∈ vKeys M P) (hl : ks.length ≤ 1000000) :
    Calls Try.prog 86 #[v] w fun e w' => e = .returned (.tuple #[]) ∧ Elems 1 (fun k => z ≤ k) w' v ((vKeys M P).map encK) ∧ Fr (fun k => v.ownBlock = some k) w w' ∧ (vKeys M P ≠ [] → ∃ g c, v = .slice (some ⟨g, 0, none⟩) (vKeys M P).length c ∧ StrB w' g) := by
  have hsk := sorted_vkeys hM P hn hk
  have hlk : (vKeys M P).length = ks.length := by rw [← hsk]; simp
  rcases h.row.2 with ⟨hv, h0⟩ | ⟨g, cap, cur, hv, hb, hg, hnc, hcm, hcs, ht⟩
  · rw [List.length_map] at h0
    obtain rfl := List.eq_nil_of_length_eq_zero h0
    subst hv
    refine (Try.slices_Sort_string_none none 0 w).mono ?_
    rintro e w' ⟨rfl, rfl⟩
    have e : vKeys M P = [] := List.eq_nil_of_length_eq_zero hlk
    rw [e]
    exact ⟨rfl, Elems.nil _ _ _, Fr.refl _ _, fun h => absurd rfl h⟩
  · subst hv
    rw [List.length_map] at hnc ht ⊢
    have hH : Holds encStr w g 0 ks.toArray := fun j hj => by
      rw [List.size_toArray] at hj
      refine ⟨?_, frozen_of_row _ _ _ _ _ hg⟩
      rw [cell_of_row _ _ _ _ _ _ hg, Nat.zero_add, ← Array.getElem?_toList]
      have e : ks.toArray[j]! = ks[j] := by simp [hj]
      have h1 := flat_get (k := 1) (ks.map encK) (fun c hc => by obtain ⟨p, _, rfl⟩ := List.mem_map.1 hc; rfl) j (by simpa using hj) 0 (by decide)
      rw [← ht, List.getElem?_take, if_pos (by omega), List.getElem_map, show j * 1 + 0 = j by omega] at h1
      rw [h1, e]
      rfl
    have hgl := lt_of_block hg
    refine (Try.slices_Sort_string g 0 cap ks w hH hgl (by omega)).mono ?_
    rintro e w' ⟨rfl, m, os, rfl⟩
    rw [hsk]
    have hgm : g < (Sort.ahead w m).heap.size := hgl
    have hHn : Holds encStr (grow (putRow encStr (Sort.ahead w m) g 0 (vKeys M P).toArray) os) g 0 (vKeys M P).toArray := by
      refine holds_grow encStr _ os g 0 _ (by rw [size_putRow]; exact hgl) (holds_putRow encStr _ g 0 ks.toArray _ hH (by simp [hlk]))
    refine ⟨rfl, ?_, ?_, fun hne => ?_⟩
    · refine ⟨_, cap, by rw [List.length_map, hlk], by rw [List.length_map]; omega, by unfold maxLen at hcm; omega, (fun c hc => by obtain ⟨p, _, rfl⟩ := List.mem_map.1 hc; rfl), fun _ => ⟨g, 0, rfl, hb, fun i hi j hj => ?_⟩⟩
      rw [List.length_map] at hi
      obtain rfl : j = 0 := by omega
      have h1 := (hHn i (by simpa using hi)).1
      rw [show 0 + i * 1 + 0 = 0 + i by omega, h1, List.getElem_map]
      simp [hi, encK]
    · refine ⟨rfl, rfl, rfl, by simp [grow, putRow, mapBlock, Sort.ahead], fun i hi hs => ?_⟩
      have hne : i ≠ g := fun e => hs (by rw [e]; rfl)
      have hi' : i < (putRow encStr (Sort.ahead w m) g 0 (vKeys M P).toArray).heap.size := by rw [size_putRow]; exact hi
      rw [heap_grow_old _ _ hi']
      show ((Sort.ahead w m).heap.modify g _)[i]? = _
      rw [Array.getElem?_modify, if_neg (fun e => hne e.symm)]
      rfl
    · have h0 := (hHn 0 (by rw [List.size_toArray]; exact List.length_pos_iff.2 hne)).1
      have hbk : (grow (putRow encStr (Sort.ahead w m) g 0 (vKeys M P).toArray) os).heap[g]? = some (.cells (putCells encStr 0 (vKeys M P).toArray cur) 9 (0, 0)) := by
        rw [heap_grow_old _ _ (by rw [size_putRow]; exact hgl)]
        show ((Sort.ahead w m).heap.modify g _)[g]? = _
        rw [Array.getElem?_modify, if_pos rfl]
        show Option.map _ w.heap[g]? = _
        rw [hg]
        rfl
      rw [cell_of_row _ _ _ _ _ _ hbk] at h0
      exact ⟨g, cap, by rw [hlk], _, _, _, hbk, h0⟩
theorem NmSt.next {B : Int → VT α} {who : Int} {P : Bs} {z : Nat} {w W W' : World} {v v' : Value} {ks : List Bs} {left : Lit → Bool} (hlen : ∀ p ∈ B who, p.1.length ≤ 64) (hw : Wf who) (H : NmSt B who P z w W v ks left) {i : Int} {s : Bs} (hi : Wf i) (hs : s.length ≤ maxLen) (hl : left (keyP i s) = true) (hf : Fr (fun _ => False) w W')
    (hp : ((i = who ∧ Lib.hasPrefix s P = true) ∧ OwnE 9 1 z W' v' (ks.map encK ++ [encK s])) ∨ (¬ (i = who ∧ Lib.hasPrefix s P = true) ∧ OwnE 9 1 z W' v' (ks.map encK))) :
    ∃ ks', NmSt B who P z w W' v' ks' (fun y => left y && !y.sameKey (keyP i s)) ∧ ks'.length = ks.length + (if i = who ∧ Lib.hasPrefix s P = true then 1 else 0) := by
  have hkl : ∀ k, k ∈ vKeys (B who) P → k.length ≤ maxLen := fun k hk => by
    obtain ⟨h1, _⟩ := vKeys_mem.1 hk
    obtain ⟨x, hx⟩ := Option.isSome_iff_exists.1 h1
    have := hlen _ (vGet_mem hx)
    unfold maxLen
    simp only at this
    omega
  have hleft : ∀ k, k.length ≤ maxLen → (left (keyP who k) && !(keyP who k).sameKey (keyP i s)) = (left (keyP who k) && !decide (who = i ∧ k = s)) := fun k hk => by rw [sameKey_keyP hw hi hk hs]
  have hL : ∀ j k, Wf j → k.length ≤ maxLen → (left (keyP j k) && !(keyP j k).sameKey (keyP i s)) = true → (vGet (B j) k).isSome = true := fun j k hj hk h => H.left j k hj hk (Bool.and_eq_true_iff.1 h).1
  rcases hp with ⟨⟨rfl, h1⟩, h2⟩ | ⟨h1, h2⟩
  · have hnx : s ∉ ks := fun h => by have := ((H.mem s).1 h).2; rw [hl] at this; cases this
    have hsm : s ∈ vKeys (B i) P := vKeys_mem.2 ⟨H.left i s hi hs hl, h1⟩
    refine ⟨ks ++ [s], ⟨by rw [List.map_append]; exact h2, ?_, fun k => ?_, hL, hf⟩, by rw [if_pos ⟨rfl, h1⟩]; simp⟩
    · rw [List.nodup_append]
      exact ⟨H.nodup, by simp, fun a ha b hb e => hnx (by rw [List.mem_singleton.1 hb] at e; exact e ▸ ha)⟩
    · rw [List.mem_append, H.mem k, List.mem_singleton]
      constructor
      · rintro (⟨h3, h4⟩ | rfl)
        · exact ⟨h3, by rw [hleft k (hkl k h3), h4]; rfl⟩
        · exact ⟨hsm, by rw [hleft k (hkl k hsm)]; simp⟩
      · rintro ⟨h3, h4⟩
        rw [hleft k (hkl k h3)] at h4
        by_cases e : k = s
        · exact .inr e
        · rw [decide_eq_false (fun h => e h.2)] at h4
          exact .inl ⟨h3, by simpa using h4⟩
  · refine ⟨ks, ⟨h2, H.nodup, fun k => ?_, hL, hf⟩, by rw [if_neg h1]; rfl⟩
    rw [H.mem k]
    constructor
    · rintro ⟨h3, h4⟩
      exact ⟨h3, by rw [hleft k (hkl k h3), h4]; rfl⟩
    · rintro ⟨h3, h4⟩
      rw [hleft k (hkl k h3)] at h4
      have hne : ¬ (who = i ∧ k = s) := by
        rintro ⟨rfl, rfl⟩
        exact h1 ⟨rfl, (vKeys_mem.1 h3).2⟩
      rw [decide_eq_false hne] at h4
      exact ⟨h3, by simpa using h4⟩
theorem NmSt.le {B : Int → VT α} {who : Int} {P : Bs} {z : Nat} {w W : World} {v : Value} {ks : List Bs} {left : Lit → Bool} (H : NmSt B who P z w W v ks left) : ks.length ≤ (B who).length :=
  Nat.le_trans (H.nodup.length_le_of_subset (fun k hk => ((H.mem k).1 hk).1)) (vKeys_le (B who) P)
end
end Go.Proofs.Yteockhemeneioaa
namespace Go.Proofs.Yteockhemeneioaa
open Go.RowKit Go.ChangeShapes
set_option linter.unusedVariables false
section
variable {P : Program} {w : World} {o : Oper} {a : Act}
set_option maxRecDepth 100000 in
theorem op_fieldAddr {s : TypeId} {x : Operand} {f : Nat} {vx v : Value} (ho : o.op = .fieldAddr s x f) (hx : a.eval x = vx) (hr : (Instr.fieldAt s vx f).run P w = .ok v w) : (execOp a.eval o).run P w = .ok (.value v) w := by
  unfold execOp
  rw [ho]
  simp only [hx, Sem.run_bind, hr, Result.andThen_ok]
  rfl
set_option maxRecDepth 100000 in
theorem op_loadAt {t : TypeId} {x : Operand} {vx v : Value} (ho : o.op = .load t x) (hx : a.eval x = vx) (hr : (Instr.loadAt t vx).run P w = .ok v w) : (execOp a.eval o).run P w = .ok (.value v) w := by
  unfold execOp
  rw [ho]
  simp only [hx, Sem.run_bind, hr, Result.andThen_ok]
  rfl
set_option maxRecDepth 100000 in
theorem op_unop {t : TypeId} {op : UnOp} {x : Operand} {vx v : Value} (ho : o.op = .unOp op t x) (hx : a.eval x = vx) (hr : (Op.unary op vx).run P w = .ok v w) : (execOp a.eval o).run P w = .ok (.value v) w := by
  unfold execOp
  rw [ho]
  simp only [hx, Sem.run_bind, hr, Result.andThen_ok]
  rfl
set_option maxRecDepth 100000 in
theorem op_indexAddr {t : TypeId} {x i : Operand} {vx vi v : Value} (ho : o.op = .indexAddr t x i) (hx : a.eval x = vx) (hi : a.eval i = vi) (hr : (Instr.indexAt t vx vi).run P w = .ok v w) : (execOp a.eval o).run P w = .ok (.value v) w := by
  unfold execOp
  rw [ho]
  simp only [hx, hi, Sem.run_bind, hr, Result.andThen_ok]
  rfl
end
section
variable {P : Program} {w : World} {o : Oper} {a : Act}
theorem eval_const5 (a : Act) (v : Value) : a.eval (.const v) = v := rfl
end
theorem load_one5 (w : World) (T : TypeId) (p : Addr) (v : Value) (hT : (isAgg T).run Try.prog w = .ok false w) (h : w.cell? p = some v) : (Instr.loadAt T (.pointer (some p))).run Try.prog w = .ok v w := by
  simp [Instr.loadAt, Instr.sureAddr, loadVar, hT, h, go_sem]
theorem load_int5 (w : World) (p : Addr) (v : Value) (h : w.cell? p = some v) : (Instr.loadAt 3 (.pointer (some p))).run Try.prog w = .ok v w := load_one5 w _ p v (by kernel_rfl) h
section
variable {w : World} {T : TypeId} {k : IntKind} {x y : Int}
theorem gtr_no (h : x ≤ y) : (binOp .gtr T (.int k x) (.int k y)).run Try.prog w = .ok (.bool false) w := by rw [binOp_gtr]; simp [h]
theorem geq_yes (h : y ≤ x) : (binOp .geq T (.int k x) (.int k y)).run Try.prog w = .ok (.bool true) w := by rw [binOp_geq]; simp [h]
theorem geq_no (h : x < y) : (binOp .geq T (.int k x) (.int k y)).run Try.prog w = .ok (.bool false) w := by rw [binOp_geq]; simp [h]
theorem eql_yes : (binOp .eql T (.int k x) (.int k x)).run Try.prog w = .ok (.bool true) w := by rw [binOp_eql]; simp
theorem eql_no (h : x ≠ y) : (binOp .eql T (.int k x) (.int k y)).run Try.prog w = .ok (.bool false) w := by rw [binOp_eql]; simp [h]
theorem neq_no : (binOp .neq T (.int k x) (.int k x)).run Try.prog w = .ok (.bool false) w := by rw [binOp_neq]; simp
end
theorem wrap_in5 {x : Int} (h0 : -9223372036854775808 ≤ x) (h1 : x ≤ 9223372036854775807) : IntKind.i64.wrap x = x := IntWalk.i64_in x (by omega)
theorem add_in5 {w : World} {T : TypeId} {x y z : Int} (hz : x + y = z) (h0 : -9223372036854775808 ≤ z) (h1 : z ≤ 9223372036854775807) : (binOp .add T (.int .i64 x) (.int .i64 y)).run Try.prog w = .ok (.int .i64 z) w := by
  rw [binOp_add]
  subst hz
  simp [Op.intArith, wrap_in5 h0 h1, go_sem]
theorem sub_in5 {w : World} {T : TypeId} {x y z : Int} (hz : x - y = z) (h0 : -9223372036854775808 ≤ z) (h1 : z ≤ 9223372036854775807) : (binOp .sub T (.int .i64 x) (.int .i64 y)).run Try.prog w = .ok (.int .i64 z) w := by
  rw [binOp_sub]
  subst hz
  simp [Op.intArith, wrap_in5 h0 h1, go_sem]
theorem op_extract5 {P : Program} {w : World} {o : Oper} {a : Act} {x : Operand} {i : Nat} {vs : Array Value} {v : Value} (ho : o.op = .extract x i) (hx : a.eval x = .tuple vs) (hv : vs[i]? = some v) : (execOp a.eval o).run P w = .ok (.value v) w := by
  unfold execOp
  rw [ho]
  simp only [hx, Instr.extract, hv]
  rfl
theorem op_nilCheck {P : Program} {w : World} {o : Oper} {a : Act} {x : Operand} {p : Addr} (ho : o.op = .nilCheck x) (hx : a.eval x = .pointer (some p)) : (execOp a.eval o).run P w = .ok (.value (.pointer (some p))) w := by
  unfold execOp
  rw [ho]
  simp only [hx]
  rfl
theorem op_lookup {P : Program} {w : World} {o : Oper} {a : Act} {t : TypeId} {m x : Operand} {c : Bool} {vm vx v : Value} (ho : o.op = .lookup t m x c) (hm : a.eval m = vm) (hx : a.eval x = vx) (hr : (Instr.lookup t vm vx c).run P w = .ok v w) : (execOp a.eval o).run P w = .ok (.value v) w := by
  unfold execOp
  rw [ho]
  simp only [hm, hx, Sem.run_bind, hr, Result.andThen_ok]
  rfl
theorem op_append9 {w w' : World} {o : Oper} {a : Act} {s x : Operand} {ST : TypeId} {v y u : Value} (ho : o.op = Op.call { callee := Callee.builtin Builtin.append, args := #[s, x], argTypes := #[ST, ST] }) (hs : a.eval s = v) (hx : a.eval x = y) (hr : (Builtin.append_ #[ST, ST] o.type #[v, y]).run Try.prog w = .ok u w') : (execOp a.eval o).run Try.prog w = .ok (.value u) w' := by
  simp [execOp, ho, resolve, invoke, builtin, hs, hx, hr, Result.andThen]
theorem op_store_row {P : Program} {w : World} {o : Oper} {a : Act} {ty : TypeId} {x y : Operand} {g : Nat} {cells old : Array Value} {t : TypeId} (ho : o.op = .store ty x y) (hx : a.eval x = .pointer (some ⟨g, 0, none⟩)) (hy : a.eval y = .agg cells)
    (hg : w.heap[g]? = some (.cells old t (0, 0))) (hi : (P.info? ty).map (·.size) = some cells.size) (hs : old.size = cells.size) (h1 : cells.all (·.oneCell') = true) : (execOp a.eval o).run P w = .ok .skip (w.setRow g cells) := by
  unfold execOp
  simp only [ho, hx, hy, Instr.storeAt, Instr.sureAddr, Sem.run_bind, Sem.run_pure, Result.andThen_ok, run_storeVar_row w g t ty old cells hg hi hs h1]
theorem op_alloc9 {P : Program} {w w' : World} {o : Oper} {a : Act} {t : TypeId} {v : Value} (ho : o.op = .alloc t) (hr : (Instr.alloc t true (.tuple #[])).run P w = .ok v w') : (execOp a.eval o).run P w = .ok (.value v) w' := by
  unfold execOp
  rw [ho]
  simp only [Sem.run_bind, hr, Result.andThen_ok]
  rfl
theorem place_built (i : Int) (N : ByteArray) : Try.prog.built 114 #[(0, Value.int .i64 i), (1, Value.string N)].toList = some #[.int .i64 i, .string N] := by kernel_rfl
end Go.Proofs.Yteockhemeneioaa
namespace Go.Proofs.Yteockhemeneioaa
open Go.RowKit Go.ChangeShapes
set_option linter.unusedVariables false
def GreatPost (qn : Nat) (l : List DeedD) (w : World) (e : Ending) (w' : World) : Prop :=
  ∃ b, e = .returned (.bool b) ∧ (b = false → l.length ≤ 60 ∧ qn ≤ 50) ∧ Fr (fun _ => False) w w'
set_option maxRecDepth 100000 in
set_option maxHeartbeats 4000000 in
theorem great_any {F : Nat → Prop} {v : Value} {l : List DeedD} (w : World) (qa : Option Addr) (qn qc : Nat) (h : DeedsIn F w v l) :
    Calls Try.prog 8 #[.slice qa qn qc, v] w (GreatPost qn l w) := by
  obtain ⟨ao, cap, rfl, h1, h2, h4⟩ := h
  obtain ⟨n, hn⟩ : ∃ n, n = l.length := ⟨_, rfl⟩
  have hb : ∃ b off, (0 < n → ao = some ⟨b, off, none⟩) ∧ ∀ i (h : i < l.length), DeedAt F w b (off + i * 25) l[i] := by
    by_cases hl : l = []
    · subst hl
      exact ⟨0, 0, fun h => by simp at hn; omega, fun i h => by simp at h⟩
    · obtain ⟨b, off, ha, hi⟩ := h4 hl
      exact ⟨b, off, fun _ => ha, hi⟩
  obtain ⟨b, off, hao, hi⟩ := hb
  rw [← hn] at h1 h2 ⊢
  have HI := Lib.hid hi
  have HN := Lib.hid hn
  have HAO := Lib.hid hao
  clear hi hn h4 hao
  go_enter Try.func8, Try.ntmps8
  go_wp2_with fail
  go_loopw [5, 6] (fun s i wr => ∃ k t : Nat, k ≤ n ∧ k ≤ 60 ∧ i = .int .i64 k ∧ s = .int .i64 t ∧ t ≤ 2000000000000000 ∧ Hid (Fr (fun _ => False) w wr)) (fun _ i _ => n - (intOf i).toNat)
  case atStart => exact ⟨0, 0, by omega, by omega, rfl, rfl, by omega, Lib.hid (Fr.refl _ _)⟩
  case round =>
    obtain ⟨k, t, hk, hk60, rfl, rfl, htb, hR⟩ := hrel
    by_cases hlt : k < n
    · by_cases hl60 : k < 60
      · by_cases ht6 : t ≤ 6000
        · have hil : k < l.length := by have := HN.out; omega
          obtain ⟨hw1, hn1, nm, pa, cv, hbyt, hin, hwf, hf1, hf2, hf3⟩ := (HI.out k hil).keep hR.out (fun _ _ _ h => h)
          obtain ⟨ar, cpr, hxr, _⟩ := id hbyt
          rw [hxr] at cv
          have pn := pa 20 (.string l[k].p.n) (by simp [cellsX, l[k].p.hl])
          obtain ⟨r, hr⟩ : ∃ r, r = l[k].V.length := ⟨_, rfl⟩
          obtain ⟨y, hy⟩ : ∃ y, y = l[k].name := ⟨_, rfl⟩
          obtain ⟨z, hz⟩ : ∃ z, z = l[k].p.n := ⟨_, rfl⟩
          rw [← hr] at cv hf3
          rw [← hy] at nm hf1
          rw [← hz] at pn hf2
          have hao2 := HAO.out (by omega)
          subst hao2
          obtain ⟨ys, hys⟩ : ∃ ys, ys = y.size := ⟨_, rfl⟩
          obtain ⟨zs, hzs⟩ : ∃ zs, zs = z.size := ⟨_, rfl⟩
          rw [← hys] at hf1
          rw [← hzs] at hf2
          have hys' : y.size = ys := hys.symm
          have hzs' : z.size = zs := hzs.symm
          have d1 : decide ((k : Int) < (n : Int)) = true := by rw [decide_eq_true_iff]; omega
          have d2 : decide ((k : Int) < 60) = true := by rw [decide_eq_true_iff]; omega
          have d2b : decide ((t : Int) ≤ 6000) = true := by rw [decide_eq_true_iff]; omega
          have d3 : (k : Int) < (n : Int) := by omega
          have d4 : (0 : Int) ≤ (k : Int) := by omega
          have s1 : IntKind.i64.wrap ((t : Int) + (ys : Int)) = (t : Int) + (ys : Int) := wrap_in5 (by omega) (by omega)
          have s2 : IntKind.i64.wrap ((t : Int) + (ys : Int) + (zs : Int)) = (t : Int) + (ys : Int) + (zs : Int) := wrap_in5 (by omega) (by omega)
          have s3 : IntKind.i64.wrap ((t : Int) + (ys : Int) + (zs : Int) + (r : Int)) = (t : Int) + (ys : Int) + (zs : Int) + (r : Int) := wrap_in5 (by omega) (by omega)
          clear hw1 hn1 hbyt hin hwf hxr hr hy hz hys hzs pa
          go_wp2_with fail
          go_quiet (fail)
          go_wp2_with fail
          go_roundw
          case rel => exact ⟨k + 1, t + ys + zs + r, by omega, by omega, by go_num, by go_num, by omega, Lib.hid (hR.out.trans ((Fr.refl (fun _ => False) wr).drewN _) (fun _ h => h.elim))⟩
          case measure => simp [intOf]; omega
        · have d1 : decide ((k : Int) < (n : Int)) = true := by rw [decide_eq_true_iff]; omega
          have d2 : decide ((k : Int) < 60) = true := by rw [decide_eq_true_iff]; omega
          have d2b : decide ((t : Int) ≤ 6000) = false := by rw [decide_eq_false_iff_not]; omega
          have d2c : decide (6000 < (t : Int)) = true := by rw [decide_eq_true_iff]; omega
          by_cases hn6 : 60 < n
          · have e1 : decide (60 < (n : Int)) = true := by rw [decide_eq_true_iff]; omega
            go_wp2_with fail
            go_ret
            exact ⟨_, rfl, (fun h => by cases h), hR.out⟩
          · have e1 : decide (60 < (n : Int)) = false := by rw [decide_eq_false_iff_not]; omega
            go_wp2_with fail
            go_ret
            exact ⟨_, rfl, (fun h => by cases h), hR.out⟩
      · have d1 : decide ((k : Int) < (n : Int)) = true := by rw [decide_eq_true_iff]; omega
        have d2 : decide ((k : Int) < 60) = false := by rw [decide_eq_false_iff_not]; omega
        have e1 : decide (60 < (n : Int)) = true := by rw [decide_eq_true_iff]; omega
        go_wp2_with fail
        go_ret
        exact ⟨_, rfl, (fun h => by cases h), hR.out⟩
    · have d1 : decide ((k : Int) < (n : Int)) = false := by rw [decide_eq_false_iff_not]; omega
      have e1 : decide (60 < (n : Int)) = false := by rw [decide_eq_false_iff_not]; omega
      by_cases ht6 : t ≤ 6000
      · have e2 : decide (6000 < (t : Int)) = false := by rw [decide_eq_false_iff_not]; omega
        by_cases hq : 50 < qn
        · have e3 : decide (50 < (qn : Int)) = true := by rw [decide_eq_true_iff]; omega
          go_wp2_with fail
          go_ret
          exact ⟨_, rfl, (fun h => by cases h), hR.out⟩
        · have e3 : decide (50 < (qn : Int)) = false := by rw [decide_eq_false_iff_not]; omega
          go_wp2_with fail
          go_ret
          exact ⟨_, rfl, fun _ => ⟨by have := HN.out; omega, by omega⟩, hR.out⟩
      · have e2 : decide (6000 < (t : Int)) = true := by rw [decide_eq_true_iff]; omega
        go_wp2_with fail
        go_ret
        exact ⟨_, rfl, (fun h => by cases h), hR.out⟩
end Go.Proofs.Yteockhemeneioaa
namespace Go.Proofs.Yteockhemeneioaa
open Go.RowKit Go.ChangeShapes Go.Maps Go.WideMaps
set_option linter.unusedVariables false
def zR : Value := .agg (pathC (List.replicate 20 0) ⟨#[]⟩)
theorem zeroR {w : World} : (zeroValue 43).run Try.prog w = .ok zR w := by kernel_rfl
def KpV (T : Nat → Prop) (A B : World) : Prop := Fr T A B ∧ ∀ k, StrB A k → B.heap[k]? = A.heap[k]?
theorem StrB.lt {w : World} {k : Nat} (h : StrB w k) : k < w.heap.size := by obtain ⟨cs, fr, s, h1, _⟩ := h; exact lt_of_block h1
theorem StrB.same {A B : World} {k : Nat} (h : StrB A k) (e : B.heap[k]? = A.heap[k]?) : StrB B k := by obtain ⟨cs, fr, s, h1, h2⟩ := h; exact ⟨cs, fr, s, by rw [e]; exact h1, h2⟩
theorem KpV.trans {T : Nat → Prop} {A B C : World} (h : KpV T A B) (k : KpV T B C) : KpV T A C := ⟨h.1.trans k.1 (fun _ h => .inl h), fun i hi => by rw [k.2 i (hi.same (h.2 i hi)), h.2 i hi]⟩
theorem KpV.of {S T : Nat → Prop} {A B : World} (h : Fr S A B) (h1 : ∀ k, k < A.heap.size → S k → T k) (h2 : ∀ k, StrB A k → ¬ S k) : KpV T A B := ⟨h.mono h1, fun k hk => h.block k hk.lt (h2 k hk)⟩
theorem StrB.keep {S : Nat → Prop} {A B : World} {k : Nat} (h : StrB A k) (hf : Fr S A B) (hs : ¬ S k) : StrB B k := h.same (hf.block k h.lt hs)
theorem FrV.grew {A B : World} (h : Fr (fun _ => False) A B) : A.grownBy B none := ⟨h.os, h.tape, h.output, h.size, fun k hk _ => h.block k hk id⟩
section
variable {α : Type}
abbrev KeyV (M : VT α) := {k : Bs // (vGet M k).isSome = true}
def getV {M : VT α} (x : KeyV M) : α := (vGet M x.1).get x.2
theorem getV_eq {M : VT α} (x : KeyV M) : vGet M x.1 = some (getV x) := by unfold getV; simp
def keysV (M : VT α) (P : Bs) : List (KeyV M) := (vKeys M P).attach.map (fun k => ⟨k.1, (vKeys_mem.1 k.2).1⟩)
theorem keysV_map (M : VT α) (P : Bs) : (keysV M P).map (·.1) = vKeys M P := by unfold keysV; rw [List.map_map]; exact List.attach_map_subtype_val _
theorem keysV_length (M : VT α) (P : Bs) : (keysV M P).length = (vKeys M P).length := by unfold keysV; simp
def rowV {M : VT α} (x : KeyV M) : Bs × α := (x.1, getV x)
theorem rowsV_map {M : VT α} (hM : VOk M) (P : Bs) : (keysV M P).map rowV = M.filter (fun p => Lib.hasPrefix p.1 P) := by
  have h2 : (M.filter (fun p => Lib.hasPrefix p.1 P)).map (·.1) = vKeys M P := rfl
  have h3 : ((keysV M P).map rowV).map (·.1) = vKeys M P := by rw [List.map_map]; exact keysV_map M P
  refine List.ext_getElem (by rw [List.length_map, keysV_length, ← h2, List.length_map]) fun i hi hj => ?_
  have hi2 : i < (keysV M P).length := by simpa using hi
  have e1 : ((keysV M P).map rowV)[i].1 = (M.filter (fun p => Lib.hasPrefix p.1 P))[i].1 := by
    have a : (((keysV M P).map rowV).map (·.1))[i]'(by simpa using hi2) = ((M.filter (fun p => Lib.hasPrefix p.1 P)).map (·.1))[i]'(by simpa using hj) := List.getElem_of_eq (h3.trans h2.symm) _
    simpa only [List.getElem_map] using a
  have hm := (List.mem_filter.1 (List.getElem_mem hj)).1
  have hg := vGet_of_mem hM hm
  rw [← e1] at hg
  have hx := getV_eq ((keysV M P)[i])
  have e2 : ((keysV M P).map rowV)[i] = rowV (keysV M P)[i] := List.getElem_map ..
  rw [e2] at e1 hg ⊢
  have e3 : vGet M (rowV (keysV M P)[i]).1 = some (getV (keysV M P)[i]) := hx
  rw [e3] at hg
  exact Prod.ext e1 (Option.some.inj hg)
def encV {M : VT α} (val : Bs → Value) (x : KeyV M) : Array Value := #[encStr x.1, val x.1]
theorem ThAt.vals {K : VKind α} {F : Nat → Prop} {w : World} {tm n : Nat} {B : Int → VT α} (h : ThAt K F w tm n B) (who : Int) (hw : Wf who) (hl : ∀ p ∈ B who, p.1.length ≤ 64) : ∃ (D : DataW Value) (val : Bs → Value), w.ownsMap Try.prog 114 heldR9 tm n D ∧ ∀ k x, vGet (B who) k = some x → (∀ z, D.atKey (keyP who k) z = .held (val k)) ∧ K.vi F w (val k) x := by
  obtain ⟨D, h1, h2, h3⟩ := h
  have : ∀ k, ∃ v, ∀ x, vGet (B who) k = some x → (∀ z, D.atKey (keyP who k) z = .held v) ∧ K.vi F w v x := fun k => by
    cases hg : vGet (B who) k with
    | none => exact ⟨.nilFunc, fun b h => by cases h⟩
    | some x =>
      have hk := hl _ (vGet_mem hg)
      obtain ⟨v, hv⟩ := h3 who k x hw (by unfold maxLen; simp only at hk; omega) hg
      exact ⟨v, fun x' e => by obtain rfl := Option.some.inj e; exact hv⟩
  obtain ⟨f, hf⟩ := Classical.axiomOfChoice this
  exact ⟨D, f, h1, hf⟩
end
end Go.Proofs.Yteockhemeneioaa
