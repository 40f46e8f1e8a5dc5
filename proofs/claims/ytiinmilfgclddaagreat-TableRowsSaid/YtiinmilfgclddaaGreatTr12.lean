/- Laid together by merge.py: Elems CurText Str TCh -/
import Derived.Test.YtiinmilfgclddaaGreatTr11
import Derived.Test.YtiinmilfgclddaaGreatTr2
import Derived.Laws.IdiomStrings
import Derived.Lib.BufferRead

/- Slices of structs, cells by cells: what reads as one, what the call makes; append of any row of them. Changes. -/
namespace Go.Proofs.YtiinmilfgclddaaGreat
open Go.RowKit Go.ChangeShapes
set_option linter.unusedVariables false

/-- A slice value whose elements have just these cells (k each), in a block of F. -/
def Elems (k : Nat) (F : Nat → Prop) (w : World) (v : Value) (css : List (List Value)) : Prop :=
  ∃ ao cap, v = .slice ao css.length cap ∧ css.length ≤ cap ∧ cap ≤ 9223372036854775807 ∧ (∀ c ∈ css, c.length = k) ∧
    (css ≠ [] → ∃ b off, ao = some ⟨b, off, none⟩ ∧ F b ∧ ∀ i (h : i < css.length) j, j < k → w.cell? ⟨b, off + i * k + j, none⟩ = css[i][j]?)
theorem Elems.nil (k : Nat) (F : Nat → Prop) (w : World) : Elems k F w (.slice none 0 0) [] := ⟨none, 0, rfl, Nat.le_refl _, by simp, (fun _ h => by cases h), fun h => absurd rfl h⟩
theorem Elems.keep {k : Nat} {F S : Nat → Prop} {w w' : World} {v : Value} {css : List (List Value)} (h : Elems k F w v css) (hf : Fr S w w') (hd : ∀ b, b < w.heap.size → F b → ¬ S b) : Elems k F w' v css := by
  obtain ⟨ao, cap, hv, h1, h2, h3, h4⟩ := h
  refine ⟨ao, cap, hv, h1, h2, h3, fun hl => ?_⟩
  obtain ⟨b, off, ha, hF, hi⟩ := h4 hl
  refine ⟨b, off, ha, hF, fun i h j hj => ?_⟩
  have h5 := hi i h j hj
  have hlen := h3 _ (List.getElem_mem h)
  rw [List.getElem?_eq_getElem (by omega)] at h5 ⊢
  exact hf.cell h5 (hd b (World.block_lt_of_cell? _ _ h5) hF)
theorem Elems.mono {k : Nat} {F G : Nat → Prop} {w : World} {v : Value} {css : List (List Value)} (h : Elems k F w v css) (hk : 0 < k) (hd : ∀ b, b < w.heap.size → F b → G b) : Elems k G w v css := by
  obtain ⟨ao, cap, hv, h1, h2, h3, h4⟩ := h
  refine ⟨ao, cap, hv, h1, h2, h3, fun hl => ?_⟩
  obtain ⟨b, off, ha, hF, hi⟩ := h4 hl
  have hp := List.length_pos_iff.2 hl
  have h5 := hi 0 hp 0 hk
  have hlen := h3 _ (List.getElem_mem hp)
  rw [List.getElem?_eq_getElem (by omega)] at h5
  exact ⟨b, off, ha, hd b (World.block_lt_of_cell? _ _ h5) hF, hi⟩
theorem flat_get {α : Type} {k : Nat} : ∀ (css : List (List α)), (∀ c ∈ css, c.length = k) → ∀ i (h : i < css.length) j, j < k → css.flatten[i * k + j]? = css[i][j]?
  | [], _, i, h, _, _ => by simp at h
  | c :: css, hc, 0, h, j, hj => by
    have := hc c List.mem_cons_self
    rw [List.flatten_cons, Nat.zero_mul, Nat.zero_add, List.getElem?_append_left (by omega)]
    rfl
  | c :: css, hc, i + 1, h, j, hj => by
    have := hc c List.mem_cons_self
    have e : (i + 1) * k + j - c.length = i * k + j := by rw [Nat.add_mul, this]; omega
    have e2 : k ≤ (i + 1) * k := by rw [Nat.add_mul]; omega
    rw [List.flatten_cons, List.getElem?_append_right (by omega), e, flat_get css (fun d hd => hc d (List.mem_cons_of_mem _ hd)) i (by simpa using h) j hj]
    rfl
theorem flat_len {α : Type} {k : Nat} : ∀ (css : List (List α)), (∀ c ∈ css, c.length = k) → css.flatten.length = css.length * k
  | [], _ => by simp
  | c :: css, hc => by rw [List.flatten_cons, List.length_append, hc c List.mem_cons_self, flat_len css (fun d hd => hc d (List.mem_cons_of_mem _ hd)), List.length_cons, Nat.add_mul]; omega
/-- A slice of structs that the call owns. -/
structure OwnE (T : TypeId) (k z : Nat) (w : World) (v : Value) (css : List (List Value)) : Prop where
  row : w.ownsRow z T k v css.length css.flatten
  each : ∀ c ∈ css, c.length = k
theorem OwnE.nil (T : TypeId) (k z : Nat) (w : World) : OwnE T k z w (.slice none 0 0) [] := ⟨World.ownsRow_nil _ _ _ _, fun _ h => by cases h⟩
theorem OwnE.keep {S : Nat → Prop} {T : TypeId} {k z : Nat} {w w' : World} {v : Value} {css : List (List Value)} (h : OwnE T k z w v css) (hf : Fr S w w') (hd : ∀ g, v.ownBlock = some g → ¬ S g) : OwnE T k z w' v css := by
  refine ⟨⟨h.row.1, ?_⟩, h.each⟩
  rcases h.row.2 with e | ⟨g, cap, cur, hv, hb, hg, r⟩
  · exact .inl e
  · exact .inr ⟨g, cap, cur, hv, hb, hf.heap hg (hd g (by rw [hv]; rfl)), r⟩
theorem OwnE.own {T : TypeId} {k z : Nat} {w : World} {v : Value} {css : List (List Value)} (h : OwnE T k z w v css) (g : Nat) (hg : v.ownBlock = some g) : z ≤ g ∧ g < w.heap.size := by
  rcases h.row.2 with ⟨hv, _⟩ | ⟨g', cap, cur, hv, hb, hg', _⟩
  · rw [hv] at hg; simp [Value.ownBlock] at hg
  · rw [hv] at hg
    simp only [Value.ownBlock, Option.some.injEq] at hg
    exact hg ▸ ⟨hb, lt_of_block hg'⟩
theorem OwnE.elems {T : TypeId} {k z : Nat} {w : World} {v : Value} {css : List (List Value)} (h : OwnE T k z w v css) : Elems k (fun b => v.ownBlock = some b) w v css := by
  rcases h.row.2 with ⟨hv, h0⟩ | ⟨g, cap, cur, hv, hb, hg, hnc, hcm, hcs, ht⟩
  · obtain rfl := List.eq_nil_of_length_eq_zero h0
    rw [hv]
    exact Elems.nil _ _ _
  · unfold maxLen at hcm
    refine ⟨_, cap, hv, hnc, by omega, h.each, fun _ => ⟨g, 0, rfl, by rw [hv]; rfl, fun i hi j hj => ?_⟩⟩
    have hfl := flat_len css h.each
    have hlt : i * k + j < css.length * k := Nat.lt_of_lt_of_le (show i * k + j < (i + 1) * k by rw [Nat.add_mul]; omega) (Nat.mul_le_mul_right k hi)
    have hr := h.row
    rw [hv] at hr
    have := World.ownsRow.cellAt hr (i * k + j) (by omega)
    rw [Nat.zero_add, this, flat_get css h.each i hi j hj]
theorem OwnE.form {T : TypeId} {k z : Nat} {w : World} {v : Value} {css : List (List Value)} (h : OwnE T k z w v css) : ∃ ao c, v = .slice ao css.length c := by
  obtain ⟨ao, c, hv, _⟩ := h.elems
  exact ⟨ao, c, hv⟩
/-- append of a row of structs onto one that the call owns. -/
theorem run_append_e {T ST : TypeId} {k bs : Nat} {zv : Value} {i0 : TypeInfo} (hu : Tryz.prog.underlying ST = some (.slice T)) (hinf : (Tryz.prog.info? T).map (fun i => (i.zero, i.size, i.bytes)) = some (some zv, k, bs)) (hzs : zv.cells.size = k) (hk0 : 0 < k) (hbs : bs ≤ 100)
    {F : Nat → Prop} {z : Nat} (w : World) (ty : TypeId) (v x : Value) (css dss : List (List Value)) (hown : OwnE T k z w v css) (hx : Elems k F w x dss) (h1 : ∀ c ∈ dss, ∀ u ∈ c, u.oneCell' = true) (hz : z ≤ w.heap.size) (hn : css.length + dss.length ≤ 1000000) :
    ∃ v' w', (Builtin.append_ #[ST, ST] ty #[v, x]).run Tryz.prog w = .ok v' w' ∧ OwnE T k z w' v' (css ++ dss) ∧ w.grownBy w' v.ownBlock ∧ (v'.ownBlock = v.ownBlock ∨ v'.ownBlock = some w.heap.size) := by
  obtain ⟨i0, hi, hz0, hz1, hz2⟩ := info_parts hinf
  have heach : ∀ c ∈ css ++ dss, c.length = k := by
    obtain ⟨_, _, _, _, _, h3, _⟩ := hx
    intro c hc
    rcases List.mem_append.1 hc with hc | hc
    · exact hown.each c hc
    · exact h3 c hc
  obtain ⟨ao, cap, rfl, hc1, hc2, h3, h4⟩ := hx
  by_cases he : dss = []
  · subst he
    rw [List.append_nil]
    cases ao with
    | none =>
      have hcap : cap = 0 ∨ cap ≠ 0 := by omega
      rcases hcap with rfl | hcap
      · exact ⟨v, w, run_append_owned_none (P := Tryz.prog) (w := w) z ST ty T i0 k hu hi v css.length _ hown.row, hown, World.grownBy.refl _ _, .inl rfl⟩
      · exact ⟨v, w, run_append_owned_none (P := Tryz.prog) (w := w) z ST ty T i0 k hu hi v css.length _ hown.row, hown, World.grownBy.refl _ _, .inl rfl⟩
    | some a =>
      obtain ⟨v', w', hr, r2, r3, r4, r5⟩ := run_append_own_at (P := Tryz.prog) w z ST ty T i0 zv k bs hu hi hz0 hz1 hz2 hzs hk0 v css.length _ hown.row a 0 cap [] (by simp) (by simp) (by simp) (by unfold maxLen; simp at hn; omega) (Nat.le_trans (Nat.mul_le_mul (show css.length + 0 ≤ 1000000 by simpa using hn) hbs) (by decide)) hz
      exact ⟨v', w', hr, ⟨by simpa using r2, hown.each⟩, r3, r5⟩
  · obtain ⟨b, off, rfl, hF, hcell⟩ := h4 he
    obtain ⟨v', w', hr, r2, r3, r4, r5⟩ := run_append_own_at (P := Tryz.prog) w z ST ty T i0 zv k bs hu hi hz0 hz1 hz2 hzs hk0 v css.length _ hown.row ⟨b, off, none⟩ dss.length cap dss.flatten (flat_len dss h3) (fun j u hu => by
        have hfl := flat_len dss h3
        have hj : j < dss.flatten.length := (List.getElem?_eq_some_iff.1 hu).1
        rw [hfl] at hj
        have hq : j / k < dss.length := Nat.div_lt_of_lt_mul (by rw [Nat.mul_comm]; exact hj)
        have hm := Nat.div_add_mod j k
        have hml := Nat.mod_lt j hk0
        have e : off + (j / k) * k + j % k = off + j := by rw [Nat.mul_comm (j / k) k]; omega
        have h5 := hcell (j / k) hq (j % k) hml
        rw [e, ← flat_get dss h3 (j / k) hq (j % k) hml, show (j / k) * k + j % k = j by rw [Nat.mul_comm]; omega, hu] at h5
        rw [addr_plain]
        exact h5) (fun u hu => by
        obtain ⟨c, hc, huc⟩ := List.mem_flatten.1 hu
        exact h1 c hc u huc) (by unfold maxLen; omega) (Nat.le_trans (Nat.mul_le_mul hn hbs) (by decide)) hz
    refine ⟨v', w', hr, ⟨?_, heach⟩, r3, r5⟩
    rw [List.length_append, List.flatten_append]
    exact r2
theorem wpList_append_e {T ST : TypeId} {k bs : Nat} {zv : Value} (hu : Tryz.prog.underlying ST = some (.slice T)) (hinf : (Tryz.prog.info? T).map (fun i => (i.zero, i.size, i.bytes)) = some (some zv, k, bs)) (hzs : zv.cells.size = k) (hk0 : 0 < k) (hbs : bs ≤ 100)
    {F : Nat → Prop} {z : Nat} (w : World) {ops : Array Oper} {rest : List Oper} {o : Oper} {a : Act} {Q : Exit → Act → World → Prop} (hgd : o.guard = none) (s x : Operand)
    (hop : o.op = Op.call { callee := Callee.builtin Builtin.append, args := #[s, x], argTypes := #[ST, ST] })
    (v y : Value) (css dss : List (List Value)) (hs : a.eval s = v) (hx : a.eval x = y) (hown : OwnE T k z w v css) (he : Elems k F w y dss) (h1 : ∀ c ∈ dss, ∀ u ∈ c, u.oneCell' = true) (hz : z ≤ w.heap.size) (hn : css.length + dss.length ≤ 1000000)
    (hK : ∀ v' w', OwnE T k z w' v' (css ++ dss) → w.grownBy w' v.ownBlock → (v'.ownBlock = v.ownBlock ∨ v'.ownBlock = some w.heap.size) → wpList Tryz.prog ops Q rest (a.put o.dst v') w') : wpList Tryz.prog ops Q (o :: rest) a w := by
  refine wpList_plain hgd fun K hK' => ?_
  subst hs
  subst hx
  obtain ⟨i0, hi⟩ : ∃ i, Tryz.prog.info? T = some i := by
    cases h : Tryz.prog.info? T with
    | none => rw [h] at hinf; cases hinf
    | some i => exact ⟨i, rfl⟩
  obtain ⟨v', w', hr, r1, r2, r3⟩ := run_append_e (i0 := i0) hu hinf hzs hk0 hbs w o.type _ _ css dss hown he h1 hz hn
  unfold Oper.wp
  simp [execOp, hop, resolve, invoke, builtin, hr, Result.andThen]
  exact hK' _ _ (hK v' w' r1 r2 r3)
theorem Elems.ofBlock {k : Nat} {w : World} {b : Nat} {T : TypeId} {c : List Value} (h : w.heap[b]? = some (.cells c.toArray T (0, 0))) (hc : c.length = k) : Elems k (fun j => j = b) w (.slice (some ⟨b, 0, none⟩) 1 1) [c] := by
  refine ⟨_, 1, rfl, Nat.le_refl _, by decide, (fun d hd => by rw [List.mem_singleton.1 hd]; exact hc), fun _ => ⟨b, 0, rfl, rfl, fun i hi j hj => ?_⟩⟩
  have : i = 0 := by simp at hi; omega
  subst this
  rw [cell_of_row _ _ _ _ _ _ h]
  simp

/-- A change: key, the value and the bytes of Val, Gone. -/
structure ChgD where
  key : ByteArray
  x : Value
  B : List UInt8
  gone : Bool
def chgC (p : ChgD) : List Value := [.string p.key, p.x, .bool p.gone]
def ChgD.chg (p : ChgD) : Chg := (p.key.data.toList, if p.gone then none else some p.B)
/-- A slice value that reads as a row of changes. -/
structure ChgsIn (F : Nat → Prop) (w : World) (v : Value) (l : List ChgD) : Prop where
  el : Elems 3 F w v (l.map chgC)
  bytes : ∀ p ∈ l, BytesIn F w p.x p.B
theorem ChgsIn.keep {F S : Nat → Prop} {w w' : World} {v : Value} {l : List ChgD} (h : ChgsIn F w v l) (hf : Fr S w w') (hd : ∀ b, b < w.heap.size → F b → ¬ S b) : ChgsIn F w' v l := ⟨h.el.keep hf hd, fun p hp => (h.bytes p hp).keep hf hd⟩
theorem ChgsIn.mono {F G : Nat → Prop} {w : World} {v : Value} {l : List ChgD} (h : ChgsIn F w v l) (hd : ∀ b, b < w.heap.size → F b → G b) : ChgsIn G w v l := ⟨h.el.mono (by decide) hd, fun p hp => (h.bytes p hp).mono hd⟩
theorem ChgsIn.nil (F : Nat → Prop) (w : World) : ChgsIn F w (.slice none 0 0) [] := ⟨Elems.nil _ _ _, fun _ h => by cases h⟩
/-- It is a slice of that length; where it has an element, the cells of each. -/
theorem ChgsIn.open6 {F : Nat → Prop} {w : World} {v : Value} {l : List ChgD} (h : ChgsIn F w v l) : ∃ ao cap, v = .slice ao l.length cap ∧ l.length ≤ cap ∧ cap ≤ 9223372036854775807 ∧
    ∃ b off, (0 < l.length → ao = some ⟨b, off, none⟩ ∧ F b) ∧ ∀ i (h : i < l.length), w.cell? ⟨b, off + i * 3, none⟩ = some (.string l[i].key) ∧ w.cell? ⟨b, off + i * 3 + 1, none⟩ = some l[i].x ∧ w.cell? ⟨b, off + i * 3 + 2, none⟩ = some (.bool l[i].gone) := by
  obtain ⟨ao, cap, hv, h1, h2, h3, h4⟩ := h.el
  rw [List.length_map] at hv h1
  refine ⟨ao, cap, hv, h1, h2, ?_⟩
  by_cases hl : l = []
  · subst hl
    exact ⟨0, 0, fun h => by simp at h, fun i h => by simp at h⟩
  · obtain ⟨b, off, ha, hF, hi⟩ := h4 (by simpa using hl)
    refine ⟨b, off, fun _ => ⟨ha, hF⟩, fun i h => ?_⟩
    have g := fun j hj => hi i (by simpa using h) j hj
    exact ⟨by simpa [chgC] using g 0 (by decide), by simpa [chgC] using g 1 (by decide), by simpa [chgC] using g 2 (by decide)⟩
theorem infoCh : (Tryz.prog.info? 53).map (fun i => (i.zero, i.size, i.bytes)) = some (some (.agg #[.string ByteArray.empty, .slice none 0 0, .bool false]), 3, 48) := by kernel_rfl
/-- A row of changes that the call owns; their bytes lie elsewhere. -/
structure OwnC (F : Nat → Prop) (z : Nat) (w : World) (v : Value) (l : List ChgD) : Prop where
  own : OwnE 53 3 z w v (l.map chgC)
  bytes : ∀ p ∈ l, BytesIn (fun k => F k ∧ v.ownBlock ≠ some k) w p.x p.B
  one : ∀ p ∈ l, p.x.oneCell' = true
theorem OwnC.nil (F : Nat → Prop) (z : Nat) (w : World) : OwnC F z w (.slice none 0 0) [] := ⟨OwnE.nil _ _ _ _, (fun _ h => by cases h), (fun _ h => by cases h)⟩
theorem OwnC.keep {F S : Nat → Prop} {z : Nat} {w w' : World} {v : Value} {l : List ChgD} (h : OwnC F z w v l) (hf : Fr S w w') (hd : ∀ g, v.ownBlock = some g → ¬ S g) (hF : ∀ k, k < w.heap.size → F k → ¬ S k) : OwnC F z w' v l := ⟨h.own.keep hf hd, fun p hp => (h.bytes p hp).keep hf (fun k hk hh => hF k hk hh.1), h.one⟩
theorem OwnC.mono {F G : Nat → Prop} {z : Nat} {w : World} {v : Value} {l : List ChgD} (h : OwnC F z w v l) (hd : ∀ b, b < w.heap.size → F b → G b) : OwnC G z w v l := ⟨h.own, fun p hp => (h.bytes p hp).mono (fun k hk hh => ⟨hd k hk hh.1, hh.2⟩), h.one⟩
theorem OwnC.form {F : Nat → Prop} {z : Nat} {w : World} {v : Value} {l : List ChgD} (h : OwnC F z w v l) : ∃ ao c, v = .slice ao l.length c := by
  obtain ⟨ao, c, hv⟩ := h.own.form
  rw [List.length_map] at hv
  exact ⟨ao, c, hv⟩
theorem OwnC.chgs {F : Nat → Prop} {z : Nat} {w : World} {v : Value} {l : List ChgD} (h : OwnC F z w v l) : ChgsIn (fun k => F k ∨ v.ownBlock = some k) w v l := ⟨h.own.elems.mono (by decide) (fun _ _ h => .inr h), fun p hp => (h.bytes p hp).mono (fun _ _ h => .inl h.1)⟩
/-- .. one more of it: the slice of the one was made at block b. -/
theorem wpList_append_chg {F G : Nat → Prop} {z : Nat} (w : World) {ops : Array Oper} {rest : List Oper} {o : Oper} {a : Act} {Q : Exit → Act → World → Prop} (hgd : o.guard = none) (s x : Operand)
    (hop : o.op = Op.call { callee := Callee.builtin Builtin.append, args := #[s, x], argTypes := #[42, 42] })
    (v : Value) (l : List ChgD) (p : ChgD) (b : Nat) (hs : a.eval s = v) (hx : a.eval x = .slice (some ⟨b, 0, none⟩) 1 1) (hb : w.heap[b]? = some (.cells #[.string p.key, p.x, .bool p.gone] 53 (0, 0)))
    (hown : OwnC F z w v l) (hp : BytesIn G w p.x p.B) (hG : ∀ k, k < w.heap.size → G k → F k ∧ v.ownBlock ≠ some k) (h1 : p.x.oneCell' = true) (hz : z ≤ w.heap.size) (hn : l.length + 1 ≤ 1000000)
    (hK : ∀ v' w', OwnC F z w' v' (l ++ [p]) → Fr (fun k => v.ownBlock = some k) w w' → (v'.ownBlock = v.ownBlock ∨ v'.ownBlock = some w.heap.size) → wpList Tryz.prog ops Q rest (a.put o.dst v') w') : wpList Tryz.prog ops Q (o :: rest) a w := by
  refine wpList_append_e (T := 53) Tryz.underlying42 infoCh rfl (by decide) (by decide) w hgd s x hop v _ _ _ hs hx hown.own (Elems.ofBlock (c := chgC p) hb rfl) (fun c hc u hu => by
    rw [List.mem_singleton.1 hc] at hu
    simp only [chgC, List.mem_cons, List.not_mem_nil, or_false] at hu
    rcases hu with rfl | rfl | rfl
    · rfl
    · exact h1
    · rfl) hz (by simpa using hn) fun v' w' ho hg hv => ?_
  have hf : Fr (fun k => v.ownBlock = some k) w w' := (Fr.refl _ w).grown hg (fun k hk => .inl hk)
  have hne : ∀ k, k < w.heap.size → v.ownBlock ≠ some k → v'.ownBlock ≠ some k := fun k hk hne e => by
    rcases hv with hv | hv
    · exact hne (hv ▸ e)
    · rw [hv] at e; have := Option.some.inj e; omega
  refine hK v' w' ⟨by rw [List.map_append]; exact ho, fun q hq => ?_, fun q hq => ?_⟩ hf ?_
  · have hq2 : BytesIn (fun k => (F k ∧ v.ownBlock ≠ some k) ∧ k < w.heap.size) w q.x q.B := by
      rcases List.mem_append.1 hq with hq | hq
      · exact (hown.bytes q hq).mono (fun k hk hh => ⟨hh, hk⟩)
      · rw [List.mem_singleton.1 hq]
        exact hp.mono (fun k hk hh => ⟨hG k hk hh, hk⟩)
    exact (hq2.keep hf (fun k _ hh e => hh.1.2 e)).mono (fun k _ hh => ⟨hh.1.1, hne k hh.2 hh.1.2⟩)
  · rcases List.mem_append.1 hq with hq | hq
    · exact hown.one q hq
    · rw [List.mem_singleton.1 hq]; exact h1
  · exact hv
end Go.Proofs.YtiinmilfgclddaaGreat

/- Contracts: code.Cursor's Text, Left, End. -/
namespace Go.Proofs.YtiinmilfgclddaaGreat
open Go.RowKit Go.ChangeShapes
set_option linter.unusedVariables false

/-- What Text tells, and what it leaves. -/
def curText (most : Int) (X : List UInt8) (e : Int) : List UInt8 × List UInt8 × Int :=
  if e = 0 then
    if numS X = 0 then ([], [], 4)
    else if most < numV X then ([], [], 3)
    else if 1048576 < numV X then ([], [], 4)
    else curRaw (numV X) (X.drop (numS X)) 0
  else ([], X, e)

theorem curNum_none {X : List UInt8} (h : numS X = 0) : curNum 1099511627776 X 0 = (0, [], 4) := by simp [curNum, h]
theorem curNum_some {X : List UInt8} (h : numS X ≠ 0) : curNum 1099511627776 X 0 = ((numV X : Int), X.drop (numS X), 0) := by
  have := numV_le X
  rw [curNum, if_pos rfl, if_neg (by omega)]

set_option maxHeartbeats 1000000 in
theorem curText_any {F : Nat → Prop} {b : Nat} {X : List UInt8} {e : Int} (most : Int) (w : World) (h : CurAt F w b X e) (hX : X.length ≤ 140737488355328) :
    Calls Tryz.prog 98 #[.pointer (some ⟨b, 0, none⟩), .int .i64 most] w fun r w' => ∃ v, r = .returned v ∧ Fr (· = b) w w' ∧ OwnB (fun k => w.heap.size ≤ k) w' v (curText most X e).1 ∧ CurAt F w' b (curText most X e).2.1 (curText most X e).2.2 := by
  by_cases he : e = 0
  · subst he
    by_cases hs : numS X = 0
    · have hR : curText most X 0 = ([], [], 4) := by simp [curText, hs]
      have hN := curNum_any 1099511627776 w h
      rw [curNum_none hs] at hN
      rw [hR]
      clear hs hR
      go_enter Tryz.func98, Tryz.ntmps98
      go_wp2_with (first
        | (go_at_call 94; refine hN.mono ?_; rintro e w1 ⟨rfl, hfr, hc1⟩)
        | (go_at_call 129; refine (whole_no _ (by assumption) (by decide)).mono ?_; rintro e w' ⟨rfl, rfl⟩))
      go_ret
      exact ⟨_, rfl, hfr, OwnB.nil _ _, hc1⟩
    · have hN := curNum_any 1099511627776 w h
      rw [curNum_some hs] at hN
      have hl : (X.drop (numS X)).length ≤ 140737488355328 := by rw [List.length_drop]; omega
      have hv := numV_le X
      obtain ⟨n, hn⟩ : ∃ n, n = numV X := ⟨_, rfl⟩
      by_cases hm : most < numV X
      · have hR : curText most X 0 = ([], [], 3) := by simp [curText, hs, hm]
        rw [hR]
        rw [← hn] at hm hN hv
        clear hs hn hR
        have HN := Lib.hid hN
        clear hN
        go_enter Tryz.func98, Tryz.ntmps98
        go_wp2_with (first
          | (go_at_call 94; refine HN.out.mono ?_; rintro e w1 ⟨rfl, hfr, hc1⟩)
          | (go_at_call 129; refine (whole_yes _ (by assumption)).mono ?_; rintro e w' ⟨rfl, rfl⟩)
          | (go_at_call 131; refine (curfail_any 3 _ (by assumption)).mono ?_; rintro e w2 ⟨rfl, hfr2, hc2⟩))
        go_ret
        exact ⟨_, rfl, hfr.trans hfr2 (fun i hi => .inl hi), OwnB.nil _ _, hc2⟩
      · by_cases hbig : 1048576 < numV X
        · have hR : curText most X 0 = ([], [], 4) := by simp [curText, hs, hm, hbig]
          rw [hR]
          rw [← hn] at hm hN hv hbig
          clear hs hn hR
          have HN := Lib.hid hN
          clear hN
          go_enter Tryz.func98, Tryz.ntmps98
          go_wp2_with (first
            | (go_at_call 94; refine HN.out.mono ?_; rintro e w1 ⟨rfl, hfr, hc1⟩)
            | (go_at_call 129; refine (whole_yes _ (by assumption)).mono ?_; rintro e w' ⟨rfl, rfl⟩)
            | (go_at_call 131; refine (curfail_any 4 _ (by assumption)).mono ?_; rintro e w2 ⟨rfl, hfr2, hc2⟩))
          go_ret
          exact ⟨_, rfl, hfr.trans hfr2 (fun i hi => .inl hi), OwnB.nil _ _, hc2⟩
        · have hR : curText most X 0 = curRaw (numV X) (X.drop (numS X)) 0 := by simp [curText, hs, hm, hbig]
          rw [hR]
          rw [← hn] at hm hN hv hbig ⊢
          clear hs hn hR
          obtain ⟨Y, hY⟩ : ∃ Y, Y = X.drop (numS X) := ⟨_, rfl⟩
          rw [← hY] at hN hl ⊢
          clear hY hX h
          have HN := Lib.hid hN
          clear hN
          go_enter Tryz.func98, Tryz.ntmps98
          go_wp2_with (first
            | (go_at_call 94; refine HN.out.mono ?_; rintro e w1 ⟨rfl, hfr, hc1⟩)
            | (go_at_call 129; refine (whole_yes _ (by assumption)).mono ?_; rintro e w' ⟨rfl, rfl⟩)
            | (go_at_call 132; refine (curRaw_any (n : Int) _ (by assumption) hl (by omega) (by omega)).mono ?_; rintro e w2 ⟨v, rfl, hfr2, hown, hc2⟩))
          go_ret
          exact ⟨_, rfl, hfr.trans hfr2 (fun i hi => .inl hi), hown.mono (fun k _ h => Nat.le_trans hfr.size h), hc2⟩
  · have hR : curText most X e = ([], X, e) := by simp [curText, he]
    have hN := curNum_any 1099511627776 w h
    rw [show curNum 1099511627776 X e = (0, X, e) by simp [curNum, he]] at hN
    rw [hR]
    have HN := Lib.hid hN
    clear hN hR
    go_enter Tryz.func98, Tryz.ntmps98
    go_wp2_with (first
      | (go_at_call 94; refine HN.out.mono ?_; rintro e w1 ⟨rfl, hfr, hc1⟩)
      | (go_at_call 129; refine (whole_no _ (by assumption) he).mono ?_; rintro e w' ⟨rfl, rfl⟩))
    go_ret
    exact ⟨_, rfl, hfr, OwnB.nil _ _, hc1⟩

/-- How many bytes are left. -/
def curLeft (X : List UInt8) (e : Int) : Int := if e = 0 then X.length else 0
theorem curLeft_any {F : Nat → Prop} {b : Nat} {X : List UInt8} {e : Int} (w : World) (h : CurAt F w b X e) :
    Calls Tryz.prog 97 #[.pointer (some ⟨b, 0, none⟩)] w fun r w' => r = .returned (.int .i64 (curLeft X e)) ∧ w = w' := by
  by_cases he : e = 0
  · subst he
    obtain ⟨v, c0, c1, c2, f0, f1, hb⟩ := h.facts
    obtain ⟨ao, cap, rfl, hl, hm, _⟩ := hb
    have hR : curLeft X 0 = X.length := rfl
    rw [hR]
    clear hR
    go_enter Tryz.func97, Tryz.ntmps97
    go_wp2_with (go_at_call 129; refine (whole_yes _ h).mono ?_; rintro e w' ⟨rfl, rfl⟩)
    go_ret
    exact ⟨rfl, rfl⟩
  · have hR : curLeft X e = 0 := by simp [curLeft, he]
    rw [hR]
    go_enter Tryz.func97, Tryz.ntmps97
    go_wp2_with (go_at_call 129; refine (whole_no _ h he).mono ?_; rintro e w' ⟨rfl, rfl⟩)
    go_ret
    exact ⟨rfl, rfl⟩

/-- The error at the end. -/
def curEnd (X : List UInt8) (e : Int) : Int := if e = 0 ∧ X ≠ [] then 4 else e
theorem curEnd_any {F : Nat → Prop} {b : Nat} {X : List UInt8} {e : Int} (w : World) (h : CurAt F w b X e) :
    Calls Tryz.prog 99 #[.pointer (some ⟨b, 0, none⟩)] w fun r w' => r = .returned (.int .i64 (curEnd X e)) ∧ w = w' := by
  obtain ⟨v, c0, c1, c2, f0, f1, hb⟩ := h.facts
  obtain ⟨ao, cap, rfl, hl, hm, _⟩ := hb
  by_cases he : e = 0
  · subst he
    have he' : ((0 : Int) == 0) = true := rfl
    by_cases hX : X = []
    · subst hX
      have hR : curEnd [] 0 = 0 := rfl
      rw [hR]
      clear hR
      go_enter Tryz.func99, Tryz.ntmps99
      go_wp2_with (go_at_call 133; refine (isCursor_any _ h).mono ?_; rintro e w' ⟨rfl, rfl⟩)
      go_ret
      exact ⟨rfl, rfl⟩
    · have hR : curEnd X 0 = 4 := by simp [curEnd, hX]
      rw [hR]
      have hp : 0 < X.length := List.length_pos_iff.2 hX
      clear hR hX
      go_enter Tryz.func99, Tryz.ntmps99
      go_wp2_with (go_at_call 133; refine (isCursor_any _ h).mono ?_; rintro e w' ⟨rfl, rfl⟩)
      go_ret
      exact ⟨rfl, rfl⟩
  · have hR : curEnd X e = e := by simp [curEnd, he]
    rw [hR]
    have he' : (e == 0) = false := by simpa using he
    clear he hR
    go_enter Tryz.func99, Tryz.ntmps99
    go_wp2_with (go_at_call 133; refine (isCursor_any _ h).mono ?_; rintro e w' ⟨rfl, rfl⟩)
    go_ret
    exact ⟨rfl, rfl⟩

end Go.Proofs.YtiinmilfgclddaaGreat

/- string(b): bytes to a string. -/
namespace Go.Proofs.YtiinmilfgclddaaGreat
open Go.RowKit Go.ChangeShapes
set_option linter.unusedVariables false

/-- string(b). -/
theorem run_bytes_str {F : Nat → Prop} (w : World) (v : Value) (L : List UInt8) (h : BytesIn F w v L) : (convert 43 9 v).run Tryz.prog w = .ok (.string ⟨L.toArray⟩) w := by
  obtain ⟨ao, cap, rfl, h1, h2, h3, h4⟩ := h
  cases ao with
  | none =>
    obtain rfl := h3 rfl
    obtain rfl : L = [] := List.eq_nil_of_length_eq_zero (by omega)
    exact Lib.run_convert_nil_bytes w 43 9 5 0 Tryz.underlying43 Tryz.underlying5 Tryz.underlying9
  | some a =>
    refine run_convert_bytes_back w 43 9 5 a cap L Tryz.underlying43 Tryz.underlying5 Tryz.underlying9 (fun j hj => ?_)
    exact (h4 a rfl).1 j _ (by rw [List.getElem?_map, List.getElem?_eq_getElem hj]; rfl)

end Go.Proofs.YtiinmilfgclddaaGreat

/- A change read, as it was written. -/
namespace Go.Proofs.YtiinmilfgclddaaGreat
open Go.RowKit Go.ChangeShapes
set_option linter.unusedVariables false

theorem curNum_num (most : Int) (n : Nat) (Y : Bs) (hm : (n : Int) ≤ most) (hn : n ≤ 1099511627776) : curNum most (numBytes 5 n ++ Y) 0 = ((n : Int), Y, 0) := by
  have e := numOf_bytes n Y hn
  have h1 : numS (numBytes 5 n ++ Y) = (numBytes 5 n).length := by unfold numS; rw [e]; rfl
  have h2 : numV (numBytes 5 n ++ Y) = n := by unfold numV; rw [e]; rfl
  have h3 := (numBytes_len 5 n).1
  rw [curNum, if_pos rfl, h1, h2, if_neg (by omega)]
  simp
theorem curText_rec6 (most : Int) (r X : List UInt8) (hm : (r.length : Int) ≤ most) (hr : r.length ≤ 1048576) : curText most (recB r ++ X) 0 = (r, X, 0) := by
  have e : numOf (recB r ++ X) = some (r.length, (numBytes 5 r.length).length) := by
    rw [recB, List.append_assoc]
    exact numOf_bytes _ _ (by omega)
  have h1 : numS (recB r ++ X) = (numBytes 5 r.length).length := by unfold numS; rw [e]; rfl
  have h2 : numV (recB r ++ X) = r.length := by unfold numV; rw [e]; rfl
  have h3 := (numBytes_len 5 r.length).1
  rw [curText, if_pos rfl, h1, h2, if_neg (by omega), if_neg (by omega), if_neg (by omega), recB, List.append_assoc, List.drop_left', curRaw, if_pos rfl, if_neg (by rw [List.length_append]; omega)]
  · simp
  · rfl
theorem CurAt.lt6 {F : Nat → Prop} {w : World} {b : Nat} {X : List UInt8} {e : Int} (h : CurAt F w b X e) : b < w.heap.size := by obtain ⟨_, h, _⟩ := h; exact lt_of_block h
/-- Only the cursor's own block, and new ones, turned: the cursor's bytes stand. -/
theorem CurAt.quiet {F : Nat → Prop} {w w' : World} {b : Nat} {X : List UInt8} {e : Int} (h : CurAt F w b X e) (hf : Fr (fun _ => False) w w') : CurAt F w' b X e := h.keep hf id (fun _ _ _ h => h)
theorem row3_open7 {w : World} {b : Nat} {x y z : Value} {T : TypeId} (h : w.heap[b]? = some (.cells #[x, y, z] T (0, 0))) : w.cell? ⟨b, 0, none⟩ = some x ∧ w.cell? ⟨b, 1, none⟩ = some y ∧ w.cell? ⟨b, 2, none⟩ = some z ∧ (w.frozen? ⟨b, 0, none⟩ = false ∧ w.frozen? ⟨b, 1, none⟩ = false ∧ w.frozen? ⟨b, 2, none⟩ = false) :=
  ⟨cell_of_row _ _ _ _ _ _ h, cell_of_row _ _ _ _ _ _ h, cell_of_row _ _ _ _ _ _ h, by simp [World.frozen?, h]⟩
theorem row3_put7 {w : World} {b : Nat} {x0 y0 z0 x y z : Value} {T : TypeId} (r0 : w.heap[b]? = some (.cells #[x0, y0, z0] T (0, 0))) : (((w.setCell ⟨b, 0, none⟩ x).setCell ⟨b, 1, none⟩ y).setCell ⟨b, 2, none⟩ z).heap[b]? = some (.cells #[x, y, z] T (0, 0)) := cell_put _ (cell_put _ (cell_put _ r0))
theorem fr_put3_7 (w : World) (b : Nat) (x y z : Value) : Fr (fun k => k = b) w (((w.setCell ⟨b, 0, none⟩ x).setCell ⟨b, 1, none⟩ y).setCell ⟨b, 2, none⟩ z) := ((Fr.cell1 w b 0 x).trans (Fr.cell1 _ b 1 y) (fun k h => .inl h)).trans (Fr.cell1 _ b 2 z) (fun k h => .inl h)
theorem CurAt.mono6 {F G : Nat → Prop} {w : World} {b : Nat} {X : List UInt8} {e : Int} (h : CurAt F w b X e) (hd : ∀ k, k < w.heap.size → F k → G k) (hb : ¬ G b) : CurAt G w b X e := by
  obtain ⟨v, h1, h2, h3⟩ := h
  exact ⟨v, h1, h2.mono hd, hb⟩
theorem CurAt.not6 {F : Nat → Prop} {w : World} {b : Nat} {X : List UInt8} {e : Int} (h : CurAt F w b X e) : ¬ F b := h.choose_spec.2.2
/-- What changeAt tells. -/
def ChAtPost (F : Nat → Prop) (b : Nat) (c : Chg) (X : Bs) (w : World) (e : Ending) (w' : World) : Prop :=
  ∃ N ax nx cx B gb, e = .returned (.agg #[.string N, .slice ax nx cx, .bool gb]) ∧ (⟨N, .slice ax nx cx, B, gb⟩ : ChgD).chg = c ∧ (gb = true → B = []) ∧ BytesIn (fun k => w.heap.size ≤ k) w' (.slice ax nx cx) B ∧ Fr (fun k => k = b) w w' ∧ CurAt F w' b X 0
set_option maxRecDepth 100000 in
set_option maxHeartbeats 2000000 in
theorem changeAt_any {F : Nat → Prop} {b : Nat} (w : World) (c : Chg) (hc : chgOk c) (X : Bs) (h0 : CurAt F w b (chgB c ++ X) 0) (hX : (chgB c ++ X).length ≤ 1000000000) :
    Calls Tryz.prog 102 #[.pointer (some ⟨b, 0, none⟩)] w (ChAtPost F b c X w) := by
  have HNF := Lib.hid h0.not6
  have h : CurAt (fun k => F k ∧ k < w.heap.size) w b (chgB c ++ X) 0 := h0.mono6 (fun k hk hF => ⟨hF, hk⟩) (fun hh => h0.not6 hh.1)
  clear h0
  obtain ⟨key, vo⟩ := c
  obtain ⟨hk, hv⟩ := hc
  simp only at hk hv
  obtain ⟨W1, hW1⟩ : ∃ W1, W1 = w.alloc (.cells #[.string ⟨#[]⟩, .slice none 0 0, .bool false] 53) := ⟨_, rfl⟩
  have hf1 : Fr (fun _ => False) w W1 := by rw [hW1]; exact (Fr.refl _ _).alloc _
  have hb1 : W1.heap[w.heap.size]? = some (.cells #[.string ⟨#[]⟩, .slice none 0 0, .bool false] 53 (0, 0)) := by rw [hW1]; exact heap_alloc_new w _
  obtain ⟨rb2, hrb2⟩ : ∃ r, r = w.heap.size := ⟨_, rfl⟩
  have hlb := h.lt6
  have h1 := h.quiet hf1
  have hk2 : key.length ≤ 64 := hk.2
  have HB := Lib.hid hb1
  have HR2 := Lib.hid hrb2
  have HL := Lib.hid hlb
  have HW := Lib.hid (And.intro hW1 hf1)
  rw [← hrb2] at HB
  cases vo with
  | none =>
    have e1 : chgB (key, none) ++ X = numBytes 5 1 ++ (recB key ++ X) := by simp [chgB, List.append_assoc]
    rw [e1] at h1 hX
    have hnum := curNum_any 1 W1 h1
    rw [curNum_num 1 1 _ (by decide) (by decide)] at hnum
    have hlx : (recB key ++ X).length ≤ 140737488355328 := by rw [List.length_append] at hX; omega
    have HN := Lib.hid hnum
    have HT := Lib.hid (fun (w2 : World) (h2 : CurAt (fun k => F k ∧ k < w.heap.size) w2 b (recB key ++ X) 0) => curText_any 64 w2 h2 hlx)
    have HK := Lib.hid (curText_rec6 64 key X (by omega) (by omega))
    clear h1 hnum hlx hX h hf1 hb1 hrb2 hlb e1 hk hv hk2 hW1
    go_enter Tryz.func102, Tryz.ntmps102
    go_wp2_with (first
      | (go_at_call 94; rw [← HW.out.1]; refine HN.out.mono ?_; rintro e w2 ⟨rfl, hf2, hc2⟩; (have H2 := Lib.hid (And.intro hf2 hc2)); clear hf2 hc2)
      | (go_at_call 98; refine (HT.out _ H2.out.2).mono ?_; rw [HK.out]; rintro e w3 ⟨v3, rfl, hf3, ho3, hc3⟩; (have hcv := run_bytes_str w3 v3 key ho3.bytes); (have H3 := Lib.hid (And.intro (H2.out.1.trans hf3 (fun _ h => .inl h)) hc3)); (obtain ⟨r0, r1, r2, r3⟩ := row3_open7 (b := w.heap.size) (H3.out.1.heap (by have := HB.out; rw [HR2.out] at this; exact this) (by have := HL.out; omega))); clear hf3 ho3 hc3))
    have hrow := H3.out.1.heap HB.out (by have := HL.out; have := HR2.out; omega)
    have hp3 := row3_put7 (r0 := hrow) (x := .string ⟨key.toArray⟩) (y := .slice none 0 0) (z := .bool true)
    have hfp := fr_put3_7 w3 rb2 (.string ⟨key.toArray⟩) (.slice none 0 0) (.bool true)
    rw [HR2.out] at hp3 hfp
    obtain ⟨W4, hW4⟩ : ∃ W, W = ((w3.setCell ⟨w.heap.size, 0, none⟩ (.string ⟨key.toArray⟩)).setCell ⟨w.heap.size, 1, none⟩ (.slice none 0 0)).setCell ⟨w.heap.size, 2, none⟩ (.bool true) := ⟨_, rfl⟩
    rw [← hW4] at hp3 hfp ⊢
    obtain ⟨t0, t1, t2, _⟩ := row3_open7 hp3
    refine bodyPost_ret (v := .agg #[.string ⟨key.toArray⟩, .slice none 0 0, .bool true]) (by simp [results, Tryz.results102, go_sem, t0, t1, t2]) rfl ⟨_, none, 0, 0, [], true, rfl, rfl, fun _ => rfl, BytesIn.nil _ _, ((HW.out.2.mono (T := fun k => k = b) (fun _ _ h => h.elim)).trans H3.out.1 (fun _ h => .inl h)).trans hfp (fun k e => .inr (by have e' : k = w.heap.size := e; omega)), (H3.out.2.keep hfp (fun e => by have := HL.out; have e' : b = w.heap.size := e; omega) (fun k hk hF e => by have := hF.2; have e' : k = w.heap.size := e; omega)).mono6 (fun k _ hF => hF.1) HNF.out⟩
  | some v =>
    have hv2 : v.length ≤ 2048 := hv v rfl
    have e1 : chgB (key, some v) ++ X = numBytes 5 0 ++ (recB key ++ (recB v ++ X)) := by simp [chgB, List.append_assoc]
    rw [e1] at h1 hX
    have hnum := curNum_any 1 W1 h1
    rw [curNum_num 1 0 _ (by decide) (by decide)] at hnum
    have hlx : (recB key ++ (recB v ++ X)).length ≤ 140737488355328 := by rw [List.length_append] at hX; omega
    have hly : (recB v ++ X).length ≤ 140737488355328 := by rw [List.length_append] at hlx; omega
    have HN := Lib.hid hnum
    have HT := Lib.hid (fun (w2 : World) (h2 : CurAt (fun k => F k ∧ k < w.heap.size) w2 b (recB key ++ (recB v ++ X)) 0) => curText_any 64 w2 h2 hlx)
    have HT2 := Lib.hid (fun (w2 : World) (h2 : CurAt (fun k => F k ∧ k < w.heap.size) w2 b (recB v ++ X) 0) => curText_any 2048 w2 h2 hly)
    have HK := Lib.hid (curText_rec6 64 key (recB v ++ X) (by omega) (by omega))
    have HV := Lib.hid (curText_rec6 2048 v X (by omega) (by omega))
    clear h1 hnum hlx hly hX h hf1 hb1 hrb2 hlb e1 hk hv hk2 hv2 hW1
    go_enter Tryz.func102, Tryz.ntmps102
    go_wp2_with (first
      | (go_at_call 94; rw [← HW.out.1]; refine HN.out.mono ?_; rintro e w2 ⟨rfl, hf2, hc2⟩; (have H2 := Lib.hid (And.intro hf2 hc2)); clear hf2 hc2)
      | (go_at_call 98; (with_reducible refine (HT.out _ H2.out.2).mono ?_); rw [HK.out]; rintro e w3 ⟨v3, rfl, hf3, ho3, hc3⟩; (have hcv := run_bytes_str w3 v3 key ho3.bytes); (have H3 := Lib.hid (And.intro (H2.out.1.trans hf3 (fun _ h => .inl h)) hc3)); clear hf3 ho3 hc3)
      | (go_at_call 98; (with_reducible refine (HT2.out _ H3.out.2).mono ?_); rw [HV.out]; rintro e w4 ⟨v4, rfl, hf4, ho4, hc4⟩; (obtain ⟨a4, c4, rfl⟩ := ho4.len); (have H4 := Lib.hid (And.intro (H3.out.1.trans hf4 (fun _ h => .inl h)) (And.intro hc4 (ho4.bytes.mono (G := fun k => w.heap.size ≤ k ∧ k ≠ w.heap.size) (fun k _ hk => ⟨by have := HW.out.2.size; have := H3.out.1.size; have hk' : w3.heap.size ≤ k := hk; omega, by have := HR2.out; have := lt_of_block HB.out; have := H3.out.1.size; have hk' : w3.heap.size ≤ k := hk; omega⟩))))); (obtain ⟨r0, r1, r2, r3⟩ := row3_open7 (b := w.heap.size) (H4.out.1.heap (by have := HB.out; rw [HR2.out] at this; exact this) (by have := HL.out; omega))); clear hf4 ho4 hc4))
    have hrow := H4.out.1.heap HB.out (by have := HL.out; have := HR2.out; omega)
    have hp3 := row3_put7 (r0 := hrow) (x := .string ⟨key.toArray⟩) (y := .slice a4 v.length c4) (z := .bool false)
    have hfp := fr_put3_7 w4 rb2 (.string ⟨key.toArray⟩) (.slice a4 v.length c4) (.bool false)
    rw [HR2.out] at hp3 hfp
    obtain ⟨W4, hW4⟩ : ∃ W, W = ((w4.setCell ⟨w.heap.size, 0, none⟩ (.string ⟨key.toArray⟩)).setCell ⟨w.heap.size, 1, none⟩ (.slice a4 v.length c4)).setCell ⟨w.heap.size, 2, none⟩ (.bool false) := ⟨_, rfl⟩
    rw [← hW4] at hp3 hfp ⊢
    obtain ⟨t0, t1, t2, _⟩ := row3_open7 hp3
    refine bodyPost_ret (v := .agg #[.string ⟨key.toArray⟩, .slice a4 v.length c4, .bool false]) (by simp [results, Tryz.results102, go_sem, t0, t1, t2]) rfl ⟨_, a4, _, c4, v, false, rfl, rfl, (fun h => by cases h), (H4.out.2.2.keep hfp (fun k _ hk e => hk.2 e)).mono (fun k _ hk => hk.1), ((HW.out.2.mono (T := fun k => k = b) (fun _ _ h => h.elim)).trans H4.out.1 (fun _ h => .inl h)).trans hfp (fun k e => .inr (by have e' : k = w.heap.size := e; omega)), (H4.out.2.1.keep hfp (fun e => by have := HL.out; have e' : b = w.heap.size := e; omega) (fun k hk hF e => by have := hF.2; have e' : k = w.heap.size := e; omega)).mono6 (fun k _ hF => hF.1) HNF.out⟩
end Go.Proofs.YtiinmilfgclddaaGreat

