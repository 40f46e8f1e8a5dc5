/- Laid together: VBk VEl VNm0 VOps -/
import Derived.Test.YteockhemeneioaaVd2
import Derived.Test.YteockhemeneioaaVd0
import Derived.Test.YteockhemeneioaaVd1
import Derived.Maps.AppendAt
import Derived.Test.YteockhemeneioaaShelf
import Derived.Lib.Strings
import Derived.Laws.Strings3
import Derived.Lib.Slices
import Derived.Sort.KeysCollected
import Derived.Deep.MidRow

namespace Go.Proofs.Yteockhemeneioaa
open Go.RowKit Go.ChangeShapes Go.WideMaps Go.Maps
set_option linter.unusedVariables false
structure Stop (p : Prop) : Prop where
  go : p
theorem stopAt {p : Prop} (h : Stop p) : p := h.go
def heldR9 : Value → Option (DataW Value × List MemPlace) := fun v => some (.held v, [])
theorem mapTurned_fr9 {w w' : World} {b : Nat} (h : w.mapTurned w' b) : Fr (fun k => k = b) w w' :=
  (Fr.refl _ w).grown h.grown (fun k hk => .inl (by injection hk with hk; exact hk.symm))
theorem ownsMap_kept9 {S : Nat → Prop} {w w' : World} {kt : TypeId} {b n : Nat} {D : DataW Value} (h : w.ownsMap Try.prog kt heldR9 b n D) (hf : Fr S w w') (hb : ¬ S b) : w'.ownsMap Try.prog kt heldR9 b n D := by
  obtain ⟨es, clock, h1, h2⟩ := h
  exact ⟨es, clock, hf.heap h1 hb, h2⟩
structure VKind (α : Type) where
  vi : (Nat → Prop) → World → Value → α → Prop
  keep : ∀ {F S : Nat → Prop} {w w' : World} {v : Value} {x : α}, vi F w v x → Fr S w w' → (∀ k, k < w.heap.size → F k → ¬ S k) → vi F w' v x
  mono : ∀ {F G : Nat → Prop} {w : World} {v : Value} {x : α}, vi F w v x → (∀ k, k < w.heap.size → F k → G k) → vi G w v x
def kR : VKind PathX := ⟨fun _ _ v x => v = .agg (pathC x.h x.n) ∧ x.n.size ≤ 64, fun h _ _ => h, fun h _ => h⟩
def kN : VKind Bs := ⟨fun F w v b => BytesIn F w v b ∧ b.length ≤ 2048, fun h hf hd => ⟨h.1.keep hf hd, h.2⟩, fun h hd => ⟨h.1.mono hd, h.2⟩⟩
abbrev Wf (i : Int) : Prop := (Lit.int .i64 i).wf = true
def upd {β : Type} (B : Int → β) (i : Int) (M : β) : Int → β := fun j => if j = i then M else B j
theorem upd_same {β : Type} (B : Int → β) (i : Int) (M : β) : upd B i M i = M := by simp [upd]
theorem upd_other {β : Type} (B : Int → β) {i j : Int} (M : β) (h : j ≠ i) : upd B i M j = B j := by simp [upd, h]
theorem upd_self {β : Type} (B : Int → β) (i : Int) : upd B i (B i) = B := by
  funext j
  by_cases h : j = i
  · rw [h, upd_same]
  · rw [upd_other _ _ h]
def ThAt {α : Type} (K : VKind α) (F : Nat → Prop) (w : World) (tm n : Nat) (B : Int → VT α) : Prop :=
  ∃ D : DataW Value, w.ownsMap Try.prog 114 heldR9 tm n D ∧ (∀ i s, Wf i → s.length ≤ maxLen → Maps.has D (keyP i s) = (vGet (B i) s).isSome) ∧
    (∀ i s x, Wf i → s.length ≤ maxLen → vGet (B i) s = some x → ∃ v, (∀ z, D.atKey (keyP i s) z = .held v) ∧ K.vi F w v x)
def MnAt (w : World) (mm n : Nat) (L : Int → Nat) : Prop :=
  ∃ D : DataW Value, w.ownsMap Try.prog 3 heldR9 mm n D ∧ ∀ i, Wf i → D.atKey (.int .i64 i) (.held (.int .i64 0)) = .held (.int .i64 (L i : Nat))
section
variable {α : Type} {K : VKind α} {F G S : Nat → Prop} {w w' : World} {tm mm n : Nat} {B : Int → VT α} {L : Int → Nat}
theorem ThAt.keep (h : ThAt K F w tm n B) (hf : Fr S w w') (hb : ¬ S tm) (hd : ∀ k, k < w.heap.size → F k → ¬ S k) : ThAt K F w' tm n B := by
  obtain ⟨D, h1, h2, h3⟩ := h
  refine ⟨D, ownsMap_kept9 h1 hf hb, h2, fun i s x hi hs hx => ?_⟩
  obtain ⟨v, hv, hb⟩ := h3 i s x hi hs hx
  exact ⟨v, hv, K.keep hb hf hd⟩
theorem ThAt.mono (h : ThAt K F w tm n B) (hd : ∀ k, k < w.heap.size → F k → G k) : ThAt K G w tm n B := by
  obtain ⟨D, h1, h2, h3⟩ := h
  refine ⟨D, h1, h2, fun i s x hi hs hx => ?_⟩
  obtain ⟨v, hv, hb⟩ := h3 i s x hi hs hx
  exact ⟨v, hv, K.mono hb hd⟩
theorem ThAt.lt (h : ThAt K F w tm n B) : tm < w.heap.size := by
  obtain ⟨D, h1, _⟩ := h
  exact h1.lt
theorem ThAt.more {m : Nat} (h : ThAt K F w tm n B) (hm : n ≤ m) : ThAt K F w tm m B := by
  obtain ⟨D, ⟨es, clock, hb, Ft, hs, hD⟩, h2⟩ := h
  exact ⟨D, ⟨es, clock, hb, Ft, Nat.le_trans hs hm, hD⟩, h2⟩
theorem ThAt.made (F : Nat → Prop) (w : World) : ThAt K F (w.alloc (.map #[] 0)) w.heap.size 0 (fun _ => []) :=
  ⟨.map [], World.ownsMap_made _ _ _ _, fun i s _ _ => rfl, fun i s x _ _ h => by cases h⟩
theorem MnAt.keep (h : MnAt w mm n L) (hf : Fr S w w') (hb : ¬ S mm) : MnAt w' mm n L := by
  obtain ⟨D, h1, h2⟩ := h
  exact ⟨D, ownsMap_kept9 h1 hf hb, h2⟩
theorem MnAt.lt (h : MnAt w mm n L) : mm < w.heap.size := by
  obtain ⟨D, h1, _⟩ := h
  exact h1.lt
theorem MnAt.more {m : Nat} (h : MnAt w mm n L) (hm : n ≤ m) : MnAt w mm m L := by
  obtain ⟨D, ⟨es, clock, hb, Ft, hs, hD⟩, h2⟩ := h
  exact ⟨D, ⟨es, clock, hb, Ft, Nat.le_trans hs hm, hD⟩, h2⟩
theorem MnAt.made (w : World) : MnAt (w.alloc (.map #[] 0)) w.heap.size 0 (fun _ => 0) := ⟨.map [], World.ownsMap_made _ _ _ _, fun i _ => rfl⟩
theorem MnAt.look (h : MnAt w mm n L) (i : Int) (hi : Wf i) : (Instr.lookup 116 (.map (some mm)) (.int .i64 i) false).run Try.prog w = .ok (.int .i64 (L i : Nat)) w := by
  obtain ⟨D, h1, h2⟩ := h
  obtain ⟨v, ps, hr, hv⟩ := h1.lookup (t := 116) (e := 3) (int_keyed Try.underlying3) Try.underlying116 (z := .int .i64 0) (by kernel_rfl) (zd := .held (.int .i64 0)) (zp := []) rfl (key := .int .i64 i) (kl := .int .i64 i) (keyOf_int_mk Try.underlying3 hi)
  rw [h2 i hi, heldR9] at hv
  simp only [Option.some.injEq, Prod.mk.injEq, DataW.held.injEq] at hv
  rw [hr, hv.1]
theorem MnAt.put (h : MnAt w mm n L) (hn : n < 1000000) (i : Int) (hi : Wf i) (m : Nat) : ∃ w', (Instr.mapUpdate 116 (.map (some mm)) (.int .i64 i) (.int .i64 (m : Nat))).run Try.prog w = .ok () w' ∧ MnAt w' mm (n + 1) (upd L i m) ∧ Fr (fun k => k = mm) w w' := by
  obtain ⟨D, h1, h2⟩ := h
  have him : IsMap D := h1.isMap
  obtain ⟨w', hr, ho, ht⟩ := h1.store (t := 116) (e := 3) (int_keyed Try.underlying3) Try.underlying116 (by unfold maxLen; omega) (key := .int .i64 i) (kl := .int .i64 i) (keyOf_int_mk Try.underlying3 hi) (val := .int .i64 (m : Nat)) (d := .held (.int .i64 (m : Nat))) (ps := []) rfl
  refine ⟨w', hr, ⟨_, ho, fun j hj => ?_⟩, mapTurned_fr9 ht⟩
  by_cases e : j = i
  · subst e
    rw [upd_same]
    exact atKey_put_same him (by simp [WideAt.IsKeyLit]) _ _
  · rw [upd_other _ _ e, atKey_put_other (fun h => e (by injection h))]
    exact h2 j hj
theorem ThAt.put' {MT ET : TypeId} (hMT : Try.prog.underlying MT = some (.map 114 ET)) (h : ThAt K F w tm n B) (hn : n < 1000000) (i : Int) (hi : Wf i) (N : ByteArray) (hN : N.size ≤ maxLen) (hB : VOk (B i)) (v : Value) (x : α) (hv : K.vi F w v x) (hF : ¬ F tm) :
    ∃ w', (Instr.mapUpdate MT (.map (some tm)) (.agg (plC i N)) v).run Try.prog w = .ok () w' ∧ ThAt K F w' tm (n + 1) (upd B i (vPut (B i) N.data.toList x)) ∧ Fr (fun k => k = tm) w w' := by
  obtain ⟨D, h1, h2, h3⟩ := h
  have him : IsMap D := h1.isMap
  have hNl : N.data.toList.length ≤ maxLen := by rw [size_list]; exact hN
  obtain ⟨w', hr, ho, ht⟩ := h1.store (t := MT) (e := ET) lawPl hMT (by unfold maxLen; omega) (keyP_of i N hi hN) (val := v) (d := .held v) (ps := []) rfl
  have hf := mapTurned_fr9 ht
  have hFm : ∀ k, k < w.heap.size → F k → ¬ k = tm := fun k _ hk e => hF (e ▸ hk)
  refine ⟨w', hr, ⟨_, ho, fun j s hj hs => ?_, fun j s y hj hs hy => ?_⟩, hf⟩
  · by_cases e : j = i ∧ s = N.data.toList
    · obtain ⟨rfl, rfl⟩ := e
      rw [has_put_same him (keyP_lit _ _), upd_same, vGet_put_same]
      rfl
    · rw [has_put_other (fun h => e (keyP_inj hj hi hs hNl h)), h2 j s hj hs]
      by_cases e1 : j = i
      · subst e1
        rw [upd_same, vGet_put_other (fun h => e ⟨rfl, h⟩)]
      · rw [upd_other _ _ e1]
  · by_cases e : j = i ∧ s = N.data.toList
    · obtain ⟨rfl, rfl⟩ := e
      rw [upd_same, vGet_put_same] at hy
      obtain rfl := Option.some.inj hy
      exact ⟨v, fun z => atKey_put_same him (keyP_lit _ _) _ z, K.keep hv hf hFm⟩
    · have hy2 : vGet (B j) s = some y := by
        by_cases e1 : j = i
        · subst e1
          rwa [upd_same, vGet_put_other (fun h => e ⟨rfl, h⟩)] at hy
        · rwa [upd_other _ _ e1] at hy
      obtain ⟨u, hu, hbu⟩ := h3 j s y hj hs hy2
      exact ⟨u, fun z => by rw [atKey_put_other (fun h => e (keyP_inj hj hi hs hNl h))]; exact hu z, K.keep hbu hf hFm⟩
theorem ThAt.del' {MT ET : TypeId} (hMT : Try.prog.underlying MT = some (.map 114 ET)) (h : ThAt K F w tm n B) (i : Int) (hi : Wf i) (N : ByteArray) (hN : N.size ≤ maxLen) (hF : ¬ F tm) (ty : TypeId) :
    ∃ w', (Builtin.delete_ #[MT, 114] ty #[.map (some tm), .agg (plC i N)]).run Try.prog w = .ok (.tuple #[]) w' ∧ ThAt K F w' tm n (upd B i (vDel (B i) N.data.toList)) ∧ Fr (fun k => k = tm) w w' := by
  obtain ⟨D, h1, h2, h3⟩ := h
  have hNl : N.data.toList.length ≤ maxLen := by rw [size_list]; exact hN
  have hti := h1.tidy lawPl
  obtain ⟨w', hr, ho, ht⟩ := h1.drop (t := MT) (e := ET) lawPl hMT (keyP_of i N hi hN) ty
  have hf := mapTurned_fr9 ht
  have hFm : ∀ k, k < w.heap.size → F k → ¬ k = tm := fun k _ hk e => hF (e ▸ hk)
  refine ⟨w', hr, ⟨_, ho, fun j s hj hs => ?_, fun j s y hj hs hy => ?_⟩, hf⟩
  · by_cases e : j = i ∧ s = N.data.toList
    · obtain ⟨rfl, rfl⟩ := e
      rw [has_del_same, upd_same, vGet_del_same]
      rfl
    · rw [has_del_other (fun h => e (keyP_inj hj hi hs hNl h)), h2 j s hj hs]
      by_cases e1 : j = i
      · subst e1
        rw [upd_same, vGet_del_other (fun h => e ⟨rfl, h⟩)]
      · rw [upd_other _ _ e1]
  · by_cases e : j = i ∧ s = N.data.toList
    · obtain ⟨rfl, rfl⟩ := e
      rw [upd_same, vGet_del_same] at hy
      cases hy
    · have hy2 : vGet (B j) s = some y := by
        by_cases e1 : j = i
        · subst e1
          rwa [upd_same, vGet_del_other (fun h => e ⟨rfl, h⟩)] at hy
        · rwa [upd_other _ _ e1] at hy
      obtain ⟨u, hu, hbu⟩ := h3 j s y hj hs hy2
      exact ⟨u, fun z => by rw [atKey_del_other (fun h => e (keyP_inj hj hi hs hNl h))]; exact hu z, K.keep hbu hf hFm⟩
theorem ThAt.look' {MT ET : TypeId} {z : Value} (hMT : Try.prog.underlying MT = some (.map 114 ET)) (hz : (zeroValue ET).run Try.prog w = .ok z w) (h : ThAt K F w tm n B) (i : Int) (hi : Wf i) (N : ByteArray) (hN : N.size ≤ maxLen) :
    ∃ v, (Instr.lookup MT (.map (some tm)) (.agg (plC i N)) true).run Try.prog w = .ok (.tuple #[v, .bool (vGet (B i) N.data.toList).isSome]) w ∧ (Instr.lookup MT (.map (some tm)) (.agg (plC i N)) false).run Try.prog w = .ok v w ∧ (∀ x, vGet (B i) N.data.toList = some x → K.vi F w v x) ∧ (vGet (B i) N.data.toList = none → v = z) := by
  obtain ⟨D, h1, h2, h3⟩ := h
  have hNl : N.data.toList.length ≤ maxLen := by rw [size_list]; exact hN
  obtain ⟨v, ps, hr, hv⟩ := h1.look_ok (t := MT) (e := ET) lawPl hMT (z := z) hz (zd := .held z) (zp := []) rfl (keyP_of i N hi hN)
  obtain ⟨v2, ps2, hr2, hv2⟩ := h1.lookup (t := MT) (e := ET) lawPl hMT (z := z) hz (zd := .held z) (zp := []) rfl (keyP_of i N hi hN)
  rw [h2 i _ hi hNl] at hr
  have e : v2 = v := by
    have a := hv
    have b := hv2
    simp only [heldR9, Option.some.injEq, Prod.mk.injEq] at a b
    have c := b.1.trans a.1.symm
    injection c
  rw [e] at hr2
  refine ⟨v, hr, hr2, fun x hx => ?_, fun hn => ?_⟩
  · obtain ⟨u, hu, hbu⟩ := h3 i _ x hi hNl hx
    rw [hu, heldR9] at hv
    simp only [Option.some.injEq, Prod.mk.injEq, DataW.held.injEq] at hv
    rw [hv.1]
    exact hbu
  · rw [atKey_of_not_has (by rw [h2 i _ hi hNl, hn]; rfl), heldR9] at hv
    simp only [Option.some.injEq, Prod.mk.injEq, DataW.held.injEq] at hv
    exact hv.1
end
structure BkAt {α : Type} (K : VKind α) (T : TypeId) (F : Nat → Prop) (w : World) (bk tm mm n : Nat) (B : Int → VT α) : Prop where
  row : w.heap[bk]? = some (.cells #[.map (some tm), .map (some mm)] T (0, 0))
  th : ThAt K F w tm n B
  mn : MnAt w mm n (fun i => (B i).length)
  ok : ∀ i, VOk (B i) ∧ (B i).length ≤ n ∧ ∀ p ∈ B i, p.1.length ≤ 64
  sep : bk ≠ tm ∧ bk ≠ mm ∧ tm ≠ mm ∧ ¬ F bk ∧ ¬ F tm ∧ ¬ F mm
section
variable {α : Type} {K : VKind α} {T : TypeId} {F G S : Nat → Prop} {w w' : World} {bk tm mm n : Nat} {B : Int → VT α}
theorem BkAt.cells (h : BkAt K T F w bk tm mm n B) : w.cell? ⟨bk, 0, none⟩ = some (.map (some tm)) ∧ w.cell? ⟨bk, 1, none⟩ = some (.map (some mm)) := ⟨cell_of_row _ _ _ _ _ _ h.row, cell_of_row _ _ _ _ _ _ h.row⟩
theorem BkAt.lt (h : BkAt K T F w bk tm mm n B) : bk < w.heap.size ∧ tm < w.heap.size ∧ mm < w.heap.size := ⟨lt_of_block h.row, h.th.lt, h.mn.lt⟩
theorem BkAt.keep (h : BkAt K T F w bk tm mm n B) (hf : Fr S w w') (h1 : ¬ S bk) (h2 : ¬ S tm) (h3 : ¬ S mm) (hd : ∀ k, k < w.heap.size → F k → ¬ S k) : BkAt K T F w' bk tm mm n B :=
  ⟨hf.heap h.row h1, h.th.keep hf h2 hd, h.mn.keep hf h3, h.ok, h.sep⟩
theorem BkAt.quiet (h : BkAt K T F w bk tm mm n B) (hf : Fr (fun _ => False) w w') : BkAt K T F w' bk tm mm n B := h.keep hf id id id (fun _ _ _ h => h)
theorem BkAt.more {m : Nat} (h : BkAt K T F w bk tm mm n B) (hm : n ≤ m) : BkAt K T F w bk tm mm m B :=
  ⟨h.row, h.th.more hm, h.mn.more hm, fun i => ⟨(h.ok i).1, Nat.le_trans (h.ok i).2.1 hm, (h.ok i).2.2⟩, h.sep⟩
end
end Go.Proofs.Yteockhemeneioaa
namespace Go.Proofs.Yteockhemeneioaa
open Go.RowKit Go.ChangeShapes
set_option linter.unusedVariables false
def Elems (k : Nat) (F : Nat → Prop) (w : World) (v : Value) (css : List (List Value)) : Prop :=
  ∃ ao cap, v = .slice ao css.length cap ∧ css.length ≤ cap ∧ cap ≤ 9223372036854775807 ∧ (∀ c ∈ css, c.length = k) ∧
    (css ≠ [] → ∃ b off, ao = some ⟨b, off, none⟩ ∧ F b ∧ ∀ i (h : i < css.length) j, j < k → w.cell? ⟨b, off + i * k + j, none⟩ = css[i][j]?)
theorem Elems.nil (k : Nat) (F : Nat → Prop) (w : World) : Elems k F w (.slice none 0 0) [] := ⟨none, 0, rfl, Nat.le_refl _, by simp, (fun _ h => by cases h), fun h => absurd rfl h⟩
theorem Elems.keep {k : Nat} {F S : Nat → Prop} {w w' : World} {v : Value} {css : List (List Value)} (h : Elems k F w v css) (hf : Fr S w w') (hd : ∀ b, b < w.heap.size → F b → ¬ S b) : Elems k F w' v css := by
  obtain ⟨ao, cap, hv, h1, h2, h3, h4⟩ := h
  refine ⟨ao, cap, hv, h1, h2, h3, fun hl => ?_⟩
  obtain ⟨b, off, ha, hF, hi⟩ := h4 hl
  refine ⟨b, off, ha, hF, fun i h j hj => ?_⟩
  have h5 := hi i h j hj
  have hlen := h3 _ (List.getElem_mem h)
  rw [List.getElem?_eq_getElem (by omega)] at h5 ⊢
  exact hf.cell h5 (hd b (World.block_lt_of_cell? _ _ h5) hF)
theorem Elems.mono {k : Nat} {F G : Nat → Prop} {w : World} {v : Value} {css : List (List Value)} (h : Elems k F w v css) (hk : 0 < k) (hd : ∀ b, b < w.heap.size → F b → G b) : Elems k G w v css := by
  obtain ⟨ao, cap, hv, h1, h2, h3, h4⟩ := h
  refine ⟨ao, cap, hv, h1, h2, h3, fun hl => ?_⟩
  obtain ⟨b, off, ha, hF, hi⟩ := h4 hl
  have hp := List.length_pos_iff.2 hl
  have h5 := hi 0 hp 0 hk
  have hlen := h3 _ (List.getElem_mem hp)
  rw [List.getElem?_eq_getElem (by omega)] at h5
  exact ⟨b, off, ha, hd b (World.block_lt_of_cell? _ _ h5) hF, hi⟩
theorem flat_get {α : Type} {k : Nat} : ∀ (css : List (List α)), (∀ c ∈ css, c.length = k) → ∀ i (h : i < css.length) j, j < k → css.flatten[i * k + j]? = css[i][j]?
  | [], _, i, h, _, _ => by simp at h
  | c :: css, hc, 0, h, j, hj => by
    have := hc c List.mem_cons_self
    rw [List.flatten_cons, Nat.zero_mul, Nat.zero_add, List.getElem?_append_left (by omega)]
    rfl
  | c :: css, hc, i + 1, h, j, hj => by
    have := hc c List.mem_cons_self
    have e : (i + 1) * k + j - c.length = i * k + j := by rw [Nat.add_mul, this]; omega
    have e2 : k ≤ (i + 1) * k := by rw [Nat.add_mul]; omega
    rw [List.flatten_cons, List.getElem?_append_right (by omega), e, flat_get css (fun d hd => hc d (List.mem_cons_of_mem _ hd)) i (by simpa using h) j hj]
    rfl
theorem flat_len {α : Type} {k : Nat} : ∀ (css : List (List α)), (∀ c ∈ css, c.length = k) → css.flatten.length = css.length * k
  | [], _ => by simp
  | c :: css, hc => by rw [List.flatten_cons, List.length_append, hc c List.mem_cons_self, flat_len css (fun d hd => hc d (List.mem_cons_of_mem _ hd)), List.length_cons, Nat.add_mul]; omega
structure OwnE (T : TypeId) (k z : Nat) (w : World) (v : Value) (css : List (List Value)) : Prop where
  row : w.ownsRow z T k v css.length css.flatten
  each : ∀ c ∈ css, c.length = k
theorem OwnE.nil (T : TypeId) (k z : Nat) (w : World) : OwnE T k z w (.slice none 0 0) [] := ⟨World.ownsRow_nil _ _ _ _, fun _ h => by cases h⟩
theorem OwnE.keep {S : Nat → Prop} {T : TypeId} {k z : Nat} {w w' : World} {v : Value} {css : List (List Value)} (h : OwnE T k z w v css) (hf : Fr S w w') (hd : ∀ g, v.ownBlock = some g → ¬ S g) : OwnE T k z w' v css := by
  refine ⟨⟨h.row.1, ?_⟩, h.each⟩
  rcases h.row.2 with e | ⟨g, cap, cur, hv, hb, hg, r⟩
  · exact .inl e
  · exact .inr ⟨g, cap, cur, hv, hb, hf.heap hg (hd g (by rw [hv]; rfl)), r⟩
theorem OwnE.own {T : TypeId} {k z : Nat} {w : World} {v : Value} {css : List (List Value)} (h : OwnE T k z w v css) (g : Nat) (hg : v.ownBlock = some g) : z ≤ g ∧ g < w.heap.size := by
  rcases h.row.2 with ⟨hv, _⟩ | ⟨g', cap, cur, hv, hb, hg', _⟩
  · rw [hv] at hg; simp [Value.ownBlock] at hg
  · rw [hv] at hg
    simp only [Value.ownBlock, Option.some.injEq] at hg
    exact hg ▸ ⟨hb, lt_of_block hg'⟩
theorem OwnE.elems {T : TypeId} {k z : Nat} {w : World} {v : Value} {css : List (List Value)} (h : OwnE T k z w v css) : Elems k (fun b => v.ownBlock = some b) w v css := by
  rcases h.row.2 with ⟨hv, h0⟩ | ⟨g, cap, cur, hv, hb, hg, hnc, hcm, hcs, ht⟩
  · obtain rfl := List.eq_nil_of_length_eq_zero h0
    rw [hv]
    exact Elems.nil _ _ _
  · unfold maxLen at hcm
    refine ⟨_, cap, hv, hnc, by omega, h.each, fun _ => ⟨g, 0, rfl, by rw [hv]; rfl, fun i hi j hj => ?_⟩⟩
    have hfl := flat_len css h.each
    have hlt : i * k + j < css.length * k := Nat.lt_of_lt_of_le (show i * k + j < (i + 1) * k by rw [Nat.add_mul]; omega) (Nat.mul_le_mul_right k hi)
    have hr := h.row
    rw [hv] at hr
    have := World.ownsRow.cellAt hr (i * k + j) (by omega)
    rw [Nat.zero_add, this, flat_get css h.each i hi j hj]
theorem OwnE.form {T : TypeId} {k z : Nat} {w : World} {v : Value} {css : List (List Value)} (h : OwnE T k z w v css) : ∃ ao c, v = .slice ao css.length c := by
  obtain ⟨ao, c, hv, _⟩ := h.elems
  exact ⟨ao, c, hv⟩
theorem run_append_e {T ST : TypeId} {k bs : Nat} {zv : Value} {i0 : TypeInfo} (hu : Try.prog.underlying ST = some (.slice T)) (hinf : (Try.prog.info? T).map (fun i => (i.zero, i.size, i.bytes)) = some (some zv, k, bs)) (hzs : zv.cells.size = k) (hk0 : 0 < k) (hbs : bs ≤ 100)
    {F : Nat → Prop} {z : Nat} (w : World) (ty : TypeId) (v x : Value) (css dss : List (List Value)) (hown : OwnE T k z w v css) (hx : Elems k F w x dss) (h1 : ∀ c ∈ dss, ∀ u ∈ c, u.oneCell' = true) (hz : z ≤ w.heap.size) (hn : css.length + dss.length ≤ 1000000) :
    ∃ v' w', (Builtin.append_ #[ST, ST] ty #[v, x]).run Try.prog w = .ok v' w' ∧ OwnE T k z w' v' (css ++ dss) ∧ w.grownBy w' v.ownBlock ∧ (v'.ownBlock = v.ownBlock ∨ v'.ownBlock = some w.heap.size) := by
  obtain ⟨i0, hi, hz0, hz1, hz2⟩ := info_parts hinf
  have heach : ∀ c ∈ css ++ dss, c.length = k := by
    obtain ⟨_, _, _, _, _, h3, _⟩ := hx
    intro c hc
    rcases List.mem_append.1 hc with hc | hc
    · exact hown.each c hc
    · exact h3 c hc
  obtain ⟨ao, cap, rfl, hc1, hc2, h3, h4⟩ := hx
  by_cases he : dss = []
  · subst he
    rw [List.append_nil]
    cases ao with
    | none =>
      have hcap : cap = 0 ∨ cap ≠ 0 := by omega
      rcases hcap with rfl | hcap
      · exact ⟨v, w, run_append_owned_none (P := Try.prog) (w := w) z ST ty T i0 k hu hi v css.length _ hown.row, hown, World.grownBy.refl _ _, .inl rfl⟩
      · exact ⟨v, w, run_append_owned_none (P := Try.prog) (w := w) z ST ty T i0 k hu hi v css.length _ hown.row, hown, World.grownBy.refl _ _, .inl rfl⟩
    | some a =>
      obtain ⟨v', w', hr, r2, r3, r4, r5⟩ := run_append_own_at (P := Try.prog) w z ST ty T i0 zv k bs hu hi hz0 hz1 hz2 hzs hk0 v css.length _ hown.row a 0 cap [] (by simp) (by simp) (by simp) (by unfold maxLen; simp at hn; omega) (Nat.le_trans (Nat.mul_le_mul (show css.length + 0 ≤ 1000000 by simpa using hn) hbs) (by decide)) hz
      exact ⟨v', w', hr, ⟨by simpa using r2, hown.each⟩, r3, r5⟩
  · obtain ⟨b, off, rfl, hF, hcell⟩ := h4 he
    obtain ⟨v', w', hr, r2, r3, r4, r5⟩ := run_append_own_at (P := Try.prog) w z ST ty T i0 zv k bs hu hi hz0 hz1 hz2 hzs hk0 v css.length _ hown.row ⟨b, off, none⟩ dss.length cap dss.flatten (flat_len dss h3) (fun j u hu => by
        have hfl := flat_len dss h3
        have hj : j < dss.flatten.length := (List.getElem?_eq_some_iff.1 hu).1
        rw [hfl] at hj
        have hq : j / k < dss.length := Nat.div_lt_of_lt_mul (by rw [Nat.mul_comm]; exact hj)
        have hm := Nat.div_add_mod j k
        have hml := Nat.mod_lt j hk0
        have e : off + (j / k) * k + j % k = off + j := by rw [Nat.mul_comm (j / k) k]; omega
        have h5 := hcell (j / k) hq (j % k) hml
        rw [e, ← flat_get dss h3 (j / k) hq (j % k) hml, show (j / k) * k + j % k = j by rw [Nat.mul_comm]; omega, hu] at h5
        rw [addr_plain]
        exact h5) (fun u hu => by
        obtain ⟨c, hc, huc⟩ := List.mem_flatten.1 hu
        exact h1 c hc u huc) (by unfold maxLen; omega) (Nat.le_trans (Nat.mul_le_mul hn hbs) (by decide)) hz
    refine ⟨v', w', hr, ⟨?_, heach⟩, r3, r5⟩
    rw [List.length_append, List.flatten_append]
    exact r2
theorem wpList_append_e {T ST : TypeId} {k bs : Nat} {zv : Value} (hu : Try.prog.underlying ST = some (.slice T)) (hinf : (Try.prog.info? T).map (fun i => (i.zero, i.size, i.bytes)) = some (some zv, k, bs)) (hzs : zv.cells.size = k) (hk0 : 0 < k) (hbs : bs ≤ 100)
    {F : Nat → Prop} {z : Nat} (w : World) {ops : Array Oper} {rest : List Oper} {o : Oper} {a : Act} {Q : Exit → Act → World → Prop} (hgd : o.guard = none) (s x : Operand)
    (hop : o.op = Op.call { callee := Callee.builtin Builtin.append, args := #[s, x], argTypes := #[ST, ST] })
    (v y : Value) (css dss : List (List Value)) (hs : a.eval s = v) (hx : a.eval x = y) (hown : OwnE T k z w v css) (he : Elems k F w y dss) (h1 : ∀ c ∈ dss, ∀ u ∈ c, u.oneCell' = true) (hz : z ≤ w.heap.size) (hn : css.length + dss.length ≤ 1000000)
    (hK : ∀ v' w', OwnE T k z w' v' (css ++ dss) → w.grownBy w' v.ownBlock → (v'.ownBlock = v.ownBlock ∨ v'.ownBlock = some w.heap.size) → wpList Try.prog ops Q rest (a.put o.dst v') w') : wpList Try.prog ops Q (o :: rest) a w := by
  refine wpList_plain hgd fun K hK' => ?_
  subst hs
  subst hx
  obtain ⟨i0, hi⟩ : ∃ i, Try.prog.info? T = some i := by
    cases h : Try.prog.info? T with
    | none => rw [h] at hinf; cases hinf
    | some i => exact ⟨i, rfl⟩
  obtain ⟨v', w', hr, r1, r2, r3⟩ := run_append_e (i0 := i0) hu hinf hzs hk0 hbs w o.type _ _ css dss hown he h1 hz hn
  unfold Oper.wp
  simp [execOp, hop, resolve, invoke, builtin, hr, Result.andThen]
  exact hK' _ _ (hK v' w' r1 r2 r3)
theorem Elems.ofBlock {k : Nat} {w : World} {b : Nat} {T : TypeId} {c : List Value} (h : w.heap[b]? = some (.cells c.toArray T (0, 0))) (hc : c.length = k) : Elems k (fun j => j = b) w (.slice (some ⟨b, 0, none⟩) 1 1) [c] := by
  refine ⟨_, 1, rfl, Nat.le_refl _, by decide, (fun d hd => by rw [List.mem_singleton.1 hd]; exact hc), fun _ => ⟨b, 0, rfl, rfl, fun i hi j hj => ?_⟩⟩
  have : i = 0 := by simp at hi; omega
  subst this
  rw [cell_of_row _ _ _ _ _ _ h]
  simp
end Go.Proofs.Yteockhemeneioaa
namespace Go.Proofs.Yteockhemeneioaa
open Go.RowKit Go.ChangeShapes Go.Maps Go.WideMaps Go.Sort
set_option linter.unusedVariables false
set_option maxHeartbeats 1000000 in
theorem hasPrefixLite_any (s p : ByteArray) (w : World) :
    Calls Try.prog 87 #[.string s, .string p] w fun e w' => e = .returned (.bool (Lib.hasPrefix s.data.toList p.data.toList)) ∧ w' = w := by
  rw [← Lib.hasPrefix_of_take, ← Lib.size_eq, ← Lib.size_eq]
  go_enter Try.func87, Try.ntmps87
  go_wp2
  · rename_i h
    go_ret
    refine ⟨?_, rfl⟩
    show Ending.returned (Value.bool ((s.extract 0 p.size).toList == p.toList)) = _
    rw [Lib.extract_toList, Lib.toList_data]
    simp [h]
  · rename_i h
    go_ret
    refine ⟨?_, rfl⟩
    show Ending.returned (Value.bool false) = _
    simp [h]
set_option maxHeartbeats 1000000 in
theorem hasPrefix_any (s p : ByteArray) (w : World) :
    Calls Try.prog 85 #[.string s, .string p] w fun e w' => e = .returned (.bool (Lib.hasPrefix s.data.toList p.data.toList)) ∧ w' = w := by
  go_enter Try.func85, Try.ntmps85
  go_wp2_with (go_at_call 87; refine (hasPrefixLite_any _ _ _).mono ?_; rintro e w' ⟨rfl, hw⟩; rw [hw])
  go_ret
  exact ⟨rfl, rfl⟩
theorem lt_range9 {w : World} {b r n cnt : Nat} {D : DataW Value} {left : Lit → Bool} (h : w.ranges Try.prog 114 heldR9 b r n D left cnt) : r < w.heap.size := by
  obtain ⟨es, clock, since, seen, c0, h1, h2, h3, h4, h5, h6⟩ := h
  exact lt_of_block h5
theorem infoStr : (Try.prog.info? 9).map (fun i => (i.zero, i.size, i.bytes)) = some (some (.string ⟨#[]⟩), 1, 16) := by kernel_rfl
theorem World.ranges.keep9 {S : Nat → Prop} {w w' : World} {b r n cnt : Nat} {D : DataW Value} {left : Lit → Bool} (h : w.ranges Try.prog 114 heldR9 b r n D left cnt) (hf : Fr S w w') (hb : ¬ S b) (hr : ¬ S r) : w'.ranges Try.prog 114 heldR9 b r n D left cnt := by
  obtain ⟨es, clock, since, seen, c0, h1, h2, h3, h4, h5, h6⟩ := h
  exact ⟨es, clock, since, seen, c0, hf.heap h1 hb, h2, h3, h4, hf.heap h5 hr, h6⟩
def encK (k : Bs) : List Value := [encStr k]
theorem encK_str (N : ByteArray) : encK N.data.toList = [.string N] := by simp [encK, encStr]
def StrB (w : World) (k : Nat) : Prop := ∃ cs fr s, w.heap[k]? = some (.cells cs 9 fr) ∧ cs[0]? = some (Value.string s)
section
variable {α : Type}
theorem sorted_vkeys {M : VT α} (hM : VOk M) (P : Bs) {ks : List Bs} (hn : ks.Nodup) (hk : ∀ k, k ∈ ks ↔ k ∈ vKeys M P) : ks.mergeSort (fun x y => decide (x ≤ y)) = vKeys M P := by
  have hasc := vKeys_asc hM P
  have hnd : (vKeys M P).Nodup := hasc.imp (fun h e => bs_ne h e)
  have hp : ks.Perm (vKeys M P) := (List.perm_ext_iff_of_nodup hn hnd).2 hk
  have h1 : ks.mergeSort leB = (vKeys M P).mergeSort leB := mergeSort_of_perm hp
  refine h1.trans (List.mergeSort_of_pairwise (hasc.imp (fun h => ?_)))
  exact decide_eq_true (List.le_of_lt h)
structure NmSt (B : Int → VT α) (who : Int) (P : Bs) (z : Nat) (w W : World) (v : Value) (ks : List Bs) (left : Lit → Bool) : Prop where
  own : OwnE 9 1 z W v (ks.map encK)
  nodup : ks.Nodup
  mem : ∀ k, k ∈ ks ↔ k ∈ vKeys (B who) P ∧ left (keyP who k) = false
  left : ∀ i k, Wf i → k.length ≤ maxLen → left (keyP i k) = true → (vGet (B i) k).isSome = true
  fr : Fr (fun _ => False) w W
theorem sort_vkeys {z : Nat} {M : VT α} (hM : VOk M) (P : Bs) (w : World) (v : Value) (ks : List Bs) (h : OwnE 9 1 z w v (ks.map encK)) (hn : ks.Nodup) (hk : ∀ k, k ∈ ks ↔ k ∈ vKeys M P) (hl : ks.length ≤ 1000000) :
    Calls Try.prog 86 #[v] w fun e w' => e = .returned (.tuple #[]) ∧ Elems 1 (fun k => z ≤ k) w' v ((vKeys M P).map encK) ∧ Fr (fun k => v.ownBlock = some k) w w' ∧ (vKeys M P ≠ [] → ∃ g c, v = .slice (some ⟨g, 0, none⟩) (vKeys M P).length c ∧ StrB w' g) := by
  have hsk := sorted_vkeys hM P hn hk
  have hlk : (vKeys M P).length = ks.length := by rw [← hsk]; simp
  rcases h.row.2 with ⟨hv, h0⟩ | ⟨g, cap, cur, hv, hb, hg, hnc, hcm, hcs, ht⟩
  · rw [List.length_map] at h0
    obtain rfl := List.eq_nil_of_length_eq_zero h0
    subst hv
    refine (Try.slices_Sort_string_none none 0 w).mono ?_
    rintro e w' ⟨rfl, rfl⟩
    have e : vKeys M P = [] := List.eq_nil_of_length_eq_zero hlk
    rw [e]
    exact ⟨rfl, Elems.nil _ _ _, Fr.refl _ _, fun h => absurd rfl h⟩
  · subst hv
    rw [List.length_map] at hnc ht ⊢
    have hH : Holds encStr w g 0 ks.toArray := fun j hj => by
      rw [List.size_toArray] at hj
      refine ⟨?_, frozen_of_row _ _ _ _ _ hg⟩
      rw [cell_of_row _ _ _ _ _ _ hg, Nat.zero_add, ← Array.getElem?_toList]
      have e : ks.toArray[j]! = ks[j] := by simp [hj]
      have h1 := flat_get (k := 1) (ks.map encK) (fun c hc => by obtain ⟨p, _, rfl⟩ := List.mem_map.1 hc; rfl) j (by simpa using hj) 0 (by decide)
      rw [← ht, List.getElem?_take, if_pos (by omega), List.getElem_map, show j * 1 + 0 = j by omega] at h1
      rw [h1, e]
      rfl
    have hgl := lt_of_block hg
    refine (Try.slices_Sort_string g 0 cap ks w hH hgl (by omega)).mono ?_
    rintro e w' ⟨rfl, m, os, rfl⟩
    rw [hsk]
    have hgm : g < (Sort.ahead w m).heap.size := hgl
    have hHn : Holds encStr (grow (putRow encStr (Sort.ahead w m) g 0 (vKeys M P).toArray) os) g 0 (vKeys M P).toArray := by
      refine holds_grow encStr _ os g 0 _ (by rw [size_putRow]; exact hgl) (holds_putRow encStr _ g 0 ks.toArray _ hH (by simp [hlk]))
    refine ⟨rfl, ?_, ?_, fun hne => ?_⟩
    · refine ⟨_, cap, by rw [List.length_map, hlk], by rw [List.length_map]; omega, by unfold maxLen at hcm; omega, (fun c hc => by obtain ⟨p, _, rfl⟩ := List.mem_map.1 hc; rfl), fun _ => ⟨g, 0, rfl, hb, fun i hi j hj => ?_⟩⟩
      rw [List.length_map] at hi
      obtain rfl : j = 0 := by omega
      have h1 := (hHn i (by simpa using hi)).1
      rw [show 0 + i * 1 + 0 = 0 + i by omega, h1, List.getElem_map]
      simp [hi, encK]
    · refine ⟨rfl, rfl, rfl, by simp [grow, putRow, mapBlock, Sort.ahead], fun i hi hs => ?_⟩
      have hne : i ≠ g := fun e => hs (by rw [e]; rfl)
      have hi' : i < (putRow encStr (Sort.ahead w m) g 0 (vKeys M P).toArray).heap.size := by rw [size_putRow]; exact hi
      rw [heap_grow_old _ _ hi']
      show ((Sort.ahead w m).heap.modify g _)[i]? = _
      rw [Array.getElem?_modify, if_neg (fun e => hne e.symm)]
      rfl
    · have h0 := (hHn 0 (by rw [List.size_toArray]; exact List.length_pos_iff.2 hne)).1
      have hbk : (grow (putRow encStr (Sort.ahead w m) g 0 (vKeys M P).toArray) os).heap[g]? = some (.cells (putCells encStr 0 (vKeys M P).toArray cur) 9 (0, 0)) := by
        rw [heap_grow_old _ _ (by rw [size_putRow]; exact hgl)]
        show ((Sort.ahead w m).heap.modify g _)[g]? = _
        rw [Array.getElem?_modify, if_pos rfl]
        show Option.map _ w.heap[g]? = _
        rw [hg]
        rfl
      rw [cell_of_row _ _ _ _ _ _ hbk] at h0
      exact ⟨g, cap, by rw [hlk], _, _, _, hbk, h0⟩
theorem NmSt.next {B : Int → VT α} {who : Int} {P : Bs} {z : Nat} {w W W' : World} {v v' : Value} {ks : List Bs} {left : Lit → Bool} (hlen : ∀ p ∈ B who, p.1.length ≤ 64) (hw : Wf who) (H : NmSt B who P z w W v ks left) {i : Int} {s : Bs} (hi : Wf i) (hs : s.length ≤ maxLen) (hl : left (keyP i s) = true) (hf : Fr (fun _ => False) w W')
    (hp : ((i = who ∧ Lib.hasPrefix s P = true) ∧ OwnE 9 1 z W' v' (ks.map encK ++ [encK s])) ∨ (¬ (i = who ∧ Lib.hasPrefix s P = true) ∧ OwnE 9 1 z W' v' (ks.map encK))) :
    ∃ ks', NmSt B who P z w W' v' ks' (fun y => left y && !y.sameKey (keyP i s)) ∧ ks'.length = ks.length + (if i = who ∧ Lib.hasPrefix s P = true then 1 else 0) := by
  have hkl : ∀ k, k ∈ vKeys (B who) P → k.length ≤ maxLen := fun k hk => by
    obtain ⟨h1, _⟩ := vKeys_mem.1 hk
    obtain ⟨x, hx⟩ := Option.isSome_iff_exists.1 h1
    have := hlen _ (vGet_mem hx)
    unfold maxLen
    simp only at this
    omega
  have hleft : ∀ k, k.length ≤ maxLen → (left (keyP who k) && !(keyP who k).sameKey (keyP i s)) = (left (keyP who k) && !decide (who = i ∧ k = s)) := fun k hk => by rw [sameKey_keyP hw hi hk hs]
  have hL : ∀ j k, Wf j → k.length ≤ maxLen → (left (keyP j k) && !(keyP j k).sameKey (keyP i s)) = true → (vGet (B j) k).isSome = true := fun j k hj hk h => H.left j k hj hk (Bool.and_eq_true_iff.1 h).1
  rcases hp with ⟨⟨rfl, h1⟩, h2⟩ | ⟨h1, h2⟩
  · have hnx : s ∉ ks := fun h => by have := ((H.mem s).1 h).2; rw [hl] at this; cases this
    have hsm : s ∈ vKeys (B i) P := vKeys_mem.2 ⟨H.left i s hi hs hl, h1⟩
    refine ⟨ks ++ [s], ⟨by rw [List.map_append]; exact h2, ?_, fun k => ?_, hL, hf⟩, by rw [if_pos ⟨rfl, h1⟩]; simp⟩
    · rw [List.nodup_append]
      exact ⟨H.nodup, by simp, fun a ha b hb e => hnx (by rw [List.mem_singleton.1 hb] at e; exact e ▸ ha)⟩
    · rw [List.mem_append, H.mem k, List.mem_singleton]
      constructor
      · rintro (⟨h3, h4⟩ | rfl)
        · exact ⟨h3, by rw [hleft k (hkl k h3), h4]; rfl⟩
        · exact ⟨hsm, by rw [hleft k (hkl k hsm)]; simp⟩
      · rintro ⟨h3, h4⟩
        rw [hleft k (hkl k h3)] at h4
        by_cases e : k = s
        · exact .inr e
        · rw [decide_eq_false (fun h => e h.2)] at h4
          exact .inl ⟨h3, by simpa using h4⟩
  · refine ⟨ks, ⟨h2, H.nodup, fun k => ?_, hL, hf⟩, by rw [if_neg h1]; rfl⟩
    rw [H.mem k]
    constructor
    · rintro ⟨h3, h4⟩
      exact ⟨h3, by rw [hleft k (hkl k h3), h4]; rfl⟩
    · rintro ⟨h3, h4⟩
      rw [hleft k (hkl k h3)] at h4
      have hne : ¬ (who = i ∧ k = s) := by
        rintro ⟨rfl, rfl⟩
        exact h1 ⟨rfl, (vKeys_mem.1 h3).2⟩
      rw [decide_eq_false hne] at h4
      exact ⟨h3, by simpa using h4⟩
theorem NmSt.le {B : Int → VT α} {who : Int} {P : Bs} {z : Nat} {w W : World} {v : Value} {ks : List Bs} {left : Lit → Bool} (H : NmSt B who P z w W v ks left) : ks.length ≤ (B who).length :=
  Nat.le_trans (H.nodup.length_le_of_subset (fun k hk => ((H.mem k).1 hk).1)) (vKeys_le (B who) P)
end
end Go.Proofs.Yteockhemeneioaa
namespace Go.Proofs.Yteockhemeneioaa
open Go.RowKit Go.ChangeShapes
set_option linter.unusedVariables false
section
variable {P : Program} {w : World} {o : Oper} {a : Act}
set_option maxRecDepth 100000 in
theorem op_fieldAddr {s : TypeId} {x : Operand} {f : Nat} {vx v : Value} (ho : o.op = .fieldAddr s x f) (hx : a.eval x = vx) (hr : (Instr.fieldAt s vx f).run P w = .ok v w) : (execOp a.eval o).run P w = .ok (.value v) w := by
  unfold execOp
  rw [ho]
  simp only [hx, Sem.run_bind, hr, Result.andThen_ok]
  rfl
set_option maxRecDepth 100000 in
theorem op_loadAt {t : TypeId} {x : Operand} {vx v : Value} (ho : o.op = .load t x) (hx : a.eval x = vx) (hr : (Instr.loadAt t vx).run P w = .ok v w) : (execOp a.eval o).run P w = .ok (.value v) w := by
  unfold execOp
  rw [ho]
  simp only [hx, Sem.run_bind, hr, Result.andThen_ok]
  rfl
set_option maxRecDepth 100000 in
theorem op_indexAddr {t : TypeId} {x i : Operand} {vx vi v : Value} (ho : o.op = .indexAddr t x i) (hx : a.eval x = vx) (hi : a.eval i = vi) (hr : (Instr.indexAt t vx vi).run P w = .ok v w) : (execOp a.eval o).run P w = .ok (.value v) w := by
  unfold execOp
  rw [ho]
  simp only [hx, hi, Sem.run_bind, hr, Result.andThen_ok]
  rfl
end
section
variable {P : Program} {w : World} {o : Oper} {a : Act}
theorem eval_const5 (a : Act) (v : Value) : a.eval (.const v) = v := rfl
end
theorem load_one5 (w : World) (T : TypeId) (p : Addr) (v : Value) (hT : (isAgg T).run Try.prog w = .ok false w) (h : w.cell? p = some v) : (Instr.loadAt T (.pointer (some p))).run Try.prog w = .ok v w := by
  simp [Instr.loadAt, Instr.sureAddr, loadVar, hT, h, go_sem]
theorem load_int5 (w : World) (p : Addr) (v : Value) (h : w.cell? p = some v) : (Instr.loadAt 3 (.pointer (some p))).run Try.prog w = .ok v w := load_one5 w _ p v (by kernel_rfl) h
section
variable {w : World} {T : TypeId} {k : IntKind} {x y : Int}
theorem geq_yes (h : y ≤ x) : (binOp .geq T (.int k x) (.int k y)).run Try.prog w = .ok (.bool true) w := by rw [binOp_geq]; simp [h]
theorem geq_no (h : x < y) : (binOp .geq T (.int k x) (.int k y)).run Try.prog w = .ok (.bool false) w := by rw [binOp_geq]; simp [h]
theorem eql_yes : (binOp .eql T (.int k x) (.int k x)).run Try.prog w = .ok (.bool true) w := by rw [binOp_eql]; simp
theorem neq_no : (binOp .neq T (.int k x) (.int k x)).run Try.prog w = .ok (.bool false) w := by rw [binOp_neq]; simp
end
theorem wrap_in5 {x : Int} (h0 : -9223372036854775808 ≤ x) (h1 : x ≤ 9223372036854775807) : IntKind.i64.wrap x = x := IntWalk.i64_in x (by omega)
theorem add_in5 {w : World} {T : TypeId} {x y z : Int} (hz : x + y = z) (h0 : -9223372036854775808 ≤ z) (h1 : z ≤ 9223372036854775807) : (binOp .add T (.int .i64 x) (.int .i64 y)).run Try.prog w = .ok (.int .i64 z) w := by
  rw [binOp_add]
  subst hz
  simp [Op.intArith, wrap_in5 h0 h1, go_sem]
theorem sub_in5 {w : World} {T : TypeId} {x y z : Int} (hz : x - y = z) (h0 : -9223372036854775808 ≤ z) (h1 : z ≤ 9223372036854775807) : (binOp .sub T (.int .i64 x) (.int .i64 y)).run Try.prog w = .ok (.int .i64 z) w := by
  rw [binOp_sub]
  subst hz
  simp [Op.intArith, wrap_in5 h0 h1, go_sem]
theorem op_extract5 {P : Program} {w : World} {o : Oper} {a : Act} {x : Operand} {i : Nat} {vs : Array Value} {v : Value} (ho : o.op = .extract x i) (hx : a.eval x = .tuple vs) (hv : vs[i]? = some v) : (execOp a.eval o).run P w = .ok (.value v) w := by
  unfold execOp
  rw [ho]
  simp only [hx, Instr.extract, hv]
  rfl
theorem op_nilCheck {P : Program} {w : World} {o : Oper} {a : Act} {x : Operand} {p : Addr} (ho : o.op = .nilCheck x) (hx : a.eval x = .pointer (some p)) : (execOp a.eval o).run P w = .ok (.value (.pointer (some p))) w := by
  unfold execOp
  rw [ho]
  simp only [hx]
  rfl
theorem op_lookup {P : Program} {w : World} {o : Oper} {a : Act} {t : TypeId} {m x : Operand} {c : Bool} {vm vx v : Value} (ho : o.op = .lookup t m x c) (hm : a.eval m = vm) (hx : a.eval x = vx) (hr : (Instr.lookup t vm vx c).run P w = .ok v w) : (execOp a.eval o).run P w = .ok (.value v) w := by
  unfold execOp
  rw [ho]
  simp only [hm, hx, Sem.run_bind, hr, Result.andThen_ok]
  rfl
theorem op_append9 {w w' : World} {o : Oper} {a : Act} {s x : Operand} {ST : TypeId} {v y u : Value} (ho : o.op = Op.call { callee := Callee.builtin Builtin.append, args := #[s, x], argTypes := #[ST, ST] }) (hs : a.eval s = v) (hx : a.eval x = y) (hr : (Builtin.append_ #[ST, ST] o.type #[v, y]).run Try.prog w = .ok u w') : (execOp a.eval o).run Try.prog w = .ok (.value u) w' := by
  simp [execOp, ho, resolve, invoke, builtin, hs, hx, hr, Result.andThen]
theorem op_store_row {P : Program} {w : World} {o : Oper} {a : Act} {ty : TypeId} {x y : Operand} {g : Nat} {cells old : Array Value} {t : TypeId} (ho : o.op = .store ty x y) (hx : a.eval x = .pointer (some ⟨g, 0, none⟩)) (hy : a.eval y = .agg cells)
    (hg : w.heap[g]? = some (.cells old t (0, 0))) (hi : (P.info? ty).map (·.size) = some cells.size) (hs : old.size = cells.size) (h1 : cells.all (·.oneCell') = true) : (execOp a.eval o).run P w = .ok .skip (w.setRow g cells) := by
  unfold execOp
  simp only [ho, hx, hy, Instr.storeAt, Instr.sureAddr, Sem.run_bind, Sem.run_pure, Result.andThen_ok, run_storeVar_row w g t ty old cells hg hi hs h1]
theorem op_alloc9 {P : Program} {w w' : World} {o : Oper} {a : Act} {t : TypeId} {v : Value} (ho : o.op = .alloc t) (hr : (Instr.alloc t true (.tuple #[])).run P w = .ok v w') : (execOp a.eval o).run P w = .ok (.value v) w' := by
  unfold execOp
  rw [ho]
  simp only [Sem.run_bind, hr, Result.andThen_ok]
  rfl
theorem place_built (i : Int) (N : ByteArray) : Try.prog.built 114 #[(0, Value.int .i64 i), (1, Value.string N)].toList = some #[.int .i64 i, .string N] := by kernel_rfl
end Go.Proofs.Yteockhemeneioaa
