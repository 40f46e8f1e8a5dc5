/- Laid together: ElemG DOps DOps2 -/
import Derived.Test.YtcbbcihfooaggaaBe5
import Derived.Test.YtcbbcihfooaggaaBe4

namespace Go.Proofs.Ytcbbcihfooaggaa
open Go.RowKit Go.ChangeShapes
set_option linter.unusedVariables false
def Elems (k : Nat) (F : Nat → Prop) (w : World) (v : Value) (css : List (List Value)) : Prop :=
  ∃ ao cap, v = .slice ao css.length cap ∧ css.length ≤ cap ∧ cap ≤ 9223372036854775807 ∧ (∀ c ∈ css, c.length = k) ∧
    (css ≠ [] → ∃ b off, ao = some ⟨b, off, none⟩ ∧ F b ∧ ∀ i (h : i < css.length) j, j < k → w.cell? ⟨b, off + i * k + j, none⟩ = css[i][j]?)
theorem Elems.nil (k : Nat) (F : Nat → Prop) (w : World) : Elems k F w (.slice none 0 0) [] := ⟨none, 0, rfl, Nat.le_refl _, by simp, (fun _ h => by cases h), fun h => absurd rfl h⟩
theorem Elems.keep {k : Nat} {F S : Nat → Prop} {w w' : World} {v : Value} {css : List (List Value)} (h : Elems k F w v css) (hf : Fr S w w') (hd : ∀ b, b < w.heap.size → F b → ¬ S b) : Elems k F w' v css := by
  obtain ⟨ao, cap, hv, h1, h2, h3, h4⟩ := h
  refine ⟨ao, cap, hv, h1, h2, h3, fun hl => ?_⟩
  obtain ⟨b, off, ha, hF, hi⟩ := h4 hl
  refine ⟨b, off, ha, hF, fun i h j hj => ?_⟩
  have h5 := hi i h j hj
  have hlen := h3 _ (List.getElem_mem h)
  rw [List.getElem?_eq_getElem (by omega)] at h5 ⊢
  exact hf.cell h5 (hd b (World.block_lt_of_cell? _ _ h5) hF)
theorem Elems.mono {k : Nat} {F G : Nat → Prop} {w : World} {v : Value} {css : List (List Value)} (h : Elems k F w v css) (hk : 0 < k) (hd : ∀ b, b < w.heap.size → F b → G b) : Elems k G w v css := by
  obtain ⟨ao, cap, hv, h1, h2, h3, h4⟩ := h
  refine ⟨ao, cap, hv, h1, h2, h3, fun hl => ?_⟩
  obtain ⟨b, off, ha, hF, hi⟩ := h4 hl
  have hp := List.length_pos_iff.2 hl
  have h5 := hi 0 hp 0 hk
  have hlen := h3 _ (List.getElem_mem hp)
  rw [List.getElem?_eq_getElem (by omega)] at h5
  exact ⟨b, off, ha, hd b (World.block_lt_of_cell? _ _ h5) hF, hi⟩
theorem flat_get {α : Type} {k : Nat} : ∀ (css : List (List α)), (∀ c ∈ css, c.length = k) → ∀ i (h : i < css.length) j, j < k → css.flatten[i * k + j]? = css[i][j]?
  | [], _, i, h, _, _ => by simp at h
  | c :: css, hc, 0, h, j, hj => by
    have := hc c List.mem_cons_self
    rw [List.flatten_cons, Nat.zero_mul, Nat.zero_add, List.getElem?_append_left (by omega)]
    rfl
  | c :: css, hc, i + 1, h, j, hj => by
    have := hc c List.mem_cons_self
    have e : (i + 1) * k + j - c.length = i * k + j := by rw [Nat.add_mul, this]; omega
    have e2 : k ≤ (i + 1) * k := by rw [Nat.add_mul]; omega
    rw [List.flatten_cons, List.getElem?_append_right (by omega), e, flat_get css (fun d hd => hc d (List.mem_cons_of_mem _ hd)) i (by simpa using h) j hj]
    rfl
theorem flat_len {α : Type} {k : Nat} : ∀ (css : List (List α)), (∀ c ∈ css, c.length = k) → css.flatten.length = css.length * k
  | [], _ => by simp
  | c :: css, hc => by rw [List.flatten_cons, List.length_append, hc c List.mem_cons_self, flat_len css (fun d hd => hc d (List.mem_cons_of_mem _ hd)), List.length_cons, Nat.add_mul]; omega
structure OwnE (T : TypeId) (k z : Nat) (w : World) (v : Value) (css : List (List Value)) : Prop where
  row : w.ownsRow z T k v css.length css.flatten
  each : ∀ c ∈ css, c.length = k
theorem OwnE.nil (T : TypeId) (k z : Nat) (w : World) : OwnE T k z w (.slice none 0 0) [] := ⟨World.ownsRow_nil _ _ _ _, fun _ h => by cases h⟩
theorem OwnE.keep {S : Nat → Prop} {T : TypeId} {k z : Nat} {w w' : World} {v : Value} {css : List (List Value)} (h : OwnE T k z w v css) (hf : Fr S w w') (hd : ∀ g, v.ownBlock = some g → ¬ S g) : OwnE T k z w' v css := by
  refine ⟨⟨h.row.1, ?_⟩, h.each⟩
  rcases h.row.2 with e | ⟨g, cap, cur, hv, hb, hg, r⟩
  · exact .inl e
  · exact .inr ⟨g, cap, cur, hv, hb, hf.heap hg (hd g (by rw [hv]; rfl)), r⟩
theorem OwnE.own {T : TypeId} {k z : Nat} {w : World} {v : Value} {css : List (List Value)} (h : OwnE T k z w v css) (g : Nat) (hg : v.ownBlock = some g) : z ≤ g ∧ g < w.heap.size := by
  rcases h.row.2 with ⟨hv, _⟩ | ⟨g', cap, cur, hv, hb, hg', _⟩
  · rw [hv] at hg; simp [Value.ownBlock] at hg
  · rw [hv] at hg
    simp only [Value.ownBlock, Option.some.injEq] at hg
    exact hg ▸ ⟨hb, lt_of_block hg'⟩
theorem OwnE.elems {T : TypeId} {k z : Nat} {w : World} {v : Value} {css : List (List Value)} (h : OwnE T k z w v css) : Elems k (fun b => v.ownBlock = some b) w v css := by
  rcases h.row.2 with ⟨hv, h0⟩ | ⟨g, cap, cur, hv, hb, hg, hnc, hcm, hcs, ht⟩
  · obtain rfl := List.eq_nil_of_length_eq_zero h0
    rw [hv]
    exact Elems.nil _ _ _
  · unfold maxLen at hcm
    refine ⟨_, cap, hv, hnc, by omega, h.each, fun _ => ⟨g, 0, rfl, by rw [hv]; rfl, fun i hi j hj => ?_⟩⟩
    have hfl := flat_len css h.each
    have hlt : i * k + j < css.length * k := Nat.lt_of_lt_of_le (show i * k + j < (i + 1) * k by rw [Nat.add_mul]; omega) (Nat.mul_le_mul_right k hi)
    have hr := h.row
    rw [hv] at hr
    have := World.ownsRow.cellAt hr (i * k + j) (by omega)
    rw [Nat.zero_add, this, flat_get css h.each i hi j hj]
theorem OwnE.form {T : TypeId} {k z : Nat} {w : World} {v : Value} {css : List (List Value)} (h : OwnE T k z w v css) : ∃ ao c, v = .slice ao css.length c := by
  obtain ⟨ao, c, hv, _⟩ := h.elems
  exact ⟨ao, c, hv⟩
theorem run_append_e {T ST : TypeId} {k bs : Nat} {zv : Value} {i0 : TypeInfo} (hu : Try.prog.underlying ST = some (.slice T)) (hinf : (Try.prog.info? T).map (fun i => (i.zero, i.size, i.bytes)) = some (some zv, k, bs)) (hzs : zv.cells.size = k) (hk0 : 0 < k) (hbs : bs ≤ 100)
    {F : Nat → Prop} {z : Nat} (w : World) (ty : TypeId) (v x : Value) (css dss : List (List Value)) (hown : OwnE T k z w v css) (hx : Elems k F w x dss) (h1 : ∀ c ∈ dss, ∀ u ∈ c, u.oneCell' = true) (hz : z ≤ w.heap.size) (hn : css.length + dss.length ≤ 1000000) :
    ∃ v' w', (Builtin.append_ #[ST, ST] ty #[v, x]).run Try.prog w = .ok v' w' ∧ OwnE T k z w' v' (css ++ dss) ∧ w.grownBy w' v.ownBlock ∧ (v'.ownBlock = v.ownBlock ∨ v'.ownBlock = some w.heap.size) := by
  obtain ⟨i0, hi, hz0, hz1, hz2⟩ := info_parts hinf
  have heach : ∀ c ∈ css ++ dss, c.length = k := by
    obtain ⟨_, _, _, _, _, h3, _⟩ := hx
    intro c hc
    rcases List.mem_append.1 hc with hc | hc
    · exact hown.each c hc
    · exact h3 c hc
  obtain ⟨ao, cap, rfl, hc1, hc2, h3, h4⟩ := hx
  by_cases he : dss = []
  · subst he
    rw [List.append_nil]
    cases ao with
    | none =>
      have hcap : cap = 0 ∨ cap ≠ 0 := by omega
      rcases hcap with rfl | hcap
      · exact ⟨v, w, run_append_owned_none (P := Try.prog) (w := w) z ST ty T i0 k hu hi v css.length _ hown.row, hown, World.grownBy.refl _ _, .inl rfl⟩
      · exact ⟨v, w, run_append_owned_none (P := Try.prog) (w := w) z ST ty T i0 k hu hi v css.length _ hown.row, hown, World.grownBy.refl _ _, .inl rfl⟩
    | some a =>
      obtain ⟨v', w', hr, r2, r3, r4, r5⟩ := run_append_own_at (P := Try.prog) w z ST ty T i0 zv k bs hu hi hz0 hz1 hz2 hzs hk0 v css.length _ hown.row a 0 cap [] (by simp) (by simp) (by simp) (by unfold maxLen; simp at hn; omega) (Nat.le_trans (Nat.mul_le_mul (show css.length + 0 ≤ 1000000 by simpa using hn) hbs) (by decide)) hz
      exact ⟨v', w', hr, ⟨by simpa using r2, hown.each⟩, r3, r5⟩
  · obtain ⟨b, off, rfl, hF, hcell⟩ := h4 he
    obtain ⟨v', w', hr, r2, r3, r4, r5⟩ := run_append_own_at (P := Try.prog) w z ST ty T i0 zv k bs hu hi hz0 hz1 hz2 hzs hk0 v css.length _ hown.row ⟨b, off, none⟩ dss.length cap dss.flatten (flat_len dss h3) (fun j u hu => by
        have hfl := flat_len dss h3
        have hj : j < dss.flatten.length := (List.getElem?_eq_some_iff.1 hu).1
        rw [hfl] at hj
        have hq : j / k < dss.length := Nat.div_lt_of_lt_mul (by rw [Nat.mul_comm]; exact hj)
        have hm := Nat.div_add_mod j k
        have hml := Nat.mod_lt j hk0
        have e : off + (j / k) * k + j % k = off + j := by rw [Nat.mul_comm (j / k) k]; omega
        have h5 := hcell (j / k) hq (j % k) hml
        rw [e, ← flat_get dss h3 (j / k) hq (j % k) hml, show (j / k) * k + j % k = j by rw [Nat.mul_comm]; omega, hu] at h5
        rw [addr_plain]
        exact h5) (fun u hu => by
        obtain ⟨c, hc, huc⟩ := List.mem_flatten.1 hu
        exact h1 c hc u huc) (by unfold maxLen; omega) (Nat.le_trans (Nat.mul_le_mul hn hbs) (by decide)) hz
    refine ⟨v', w', hr, ⟨?_, heach⟩, r3, r5⟩
    rw [List.length_append, List.flatten_append]
    exact r2
theorem wpList_append_e {T ST : TypeId} {k bs : Nat} {zv : Value} (hu : Try.prog.underlying ST = some (.slice T)) (hinf : (Try.prog.info? T).map (fun i => (i.zero, i.size, i.bytes)) = some (some zv, k, bs)) (hzs : zv.cells.size = k) (hk0 : 0 < k) (hbs : bs ≤ 100)
    {F : Nat → Prop} {z : Nat} (w : World) {ops : Array Oper} {rest : List Oper} {o : Oper} {a : Act} {Q : Exit → Act → World → Prop} (hgd : o.guard = none) (s x : Operand)
    (hop : o.op = Op.call { callee := Callee.builtin Builtin.append, args := #[s, x], argTypes := #[ST, ST] })
    (v y : Value) (css dss : List (List Value)) (hs : a.eval s = v) (hx : a.eval x = y) (hown : OwnE T k z w v css) (he : Elems k F w y dss) (h1 : ∀ c ∈ dss, ∀ u ∈ c, u.oneCell' = true) (hz : z ≤ w.heap.size) (hn : css.length + dss.length ≤ 1000000)
    (hK : ∀ v' w', OwnE T k z w' v' (css ++ dss) → w.grownBy w' v.ownBlock → (v'.ownBlock = v.ownBlock ∨ v'.ownBlock = some w.heap.size) → wpList Try.prog ops Q rest (a.put o.dst v') w') : wpList Try.prog ops Q (o :: rest) a w := by
  refine wpList_plain hgd fun K hK' => ?_
  subst hs
  subst hx
  obtain ⟨i0, hi⟩ : ∃ i, Try.prog.info? T = some i := by
    cases h : Try.prog.info? T with
    | none => rw [h] at hinf; cases hinf
    | some i => exact ⟨i, rfl⟩
  obtain ⟨v', w', hr, r1, r2, r3⟩ := run_append_e (i0 := i0) hu hinf hzs hk0 hbs w o.type _ _ css dss hown he h1 hz hn
  unfold Oper.wp
  simp [execOp, hop, resolve, invoke, builtin, hr, Result.andThen]
  exact hK' _ _ (hK v' w' r1 r2 r3)
theorem Elems.ofBlock {k : Nat} {w : World} {b : Nat} {T : TypeId} {c : List Value} (h : w.heap[b]? = some (.cells c.toArray T (0, 0))) (hc : c.length = k) : Elems k (fun j => j = b) w (.slice (some ⟨b, 0, none⟩) 1 1) [c] := by
  refine ⟨_, 1, rfl, Nat.le_refl _, by decide, (fun d hd => by rw [List.mem_singleton.1 hd]; exact hc), fun _ => ⟨b, 0, rfl, rfl, fun i hi j hj => ?_⟩⟩
  have : i = 0 := by simp at hi; omega
  subst this
  rw [cell_of_row _ _ _ _ _ _ h]
  simp
def rnC (r : Rn) : List Value := [.int .i64 r.1, .int .i64 r.2]
theorem rnC_len (l : List Rn) : ∀ c ∈ l.map rnC, c.length = 2 := by
  intro c hc
  obtain ⟨r, _, rfl⟩ := List.mem_map.1 hc
  rfl
def RnsIn (F : Nat → Prop) (w : World) (v : Value) (l : List Rn) : Prop := Elems 2 F w v (l.map rnC) ∧ ∀ r ∈ l, -9223372036854775808 ≤ r.1 ∧ r.1 ≤ 9223372036854775807 ∧ -9223372036854775808 ≤ r.2 ∧ r.2 ≤ 9223372036854775807
theorem RnsIn.keep {F S : Nat → Prop} {w w' : World} {v : Value} {l : List Rn} (h : RnsIn F w v l) (hf : Fr S w w') (hd : ∀ b, b < w.heap.size → F b → ¬ S b) : RnsIn F w' v l := ⟨h.1.keep hf hd, h.2⟩
theorem RnsIn.quiet {F : Nat → Prop} {w w' : World} {v : Value} {l : List Rn} (h : RnsIn F w v l) (hf : Fr (fun _ => False) w w') : RnsIn F w' v l := h.keep hf (fun _ _ _ h => h)
theorem RnsIn.mono {F G : Nat → Prop} {w : World} {v : Value} {l : List Rn} (h : RnsIn F w v l) (hd : ∀ b, b < w.heap.size → F b → G b) : RnsIn G w v l := ⟨h.1.mono (by decide) hd, h.2⟩
theorem RnsIn.nil (F : Nat → Prop) (w : World) : RnsIn F w (.slice none 0 0) [] := ⟨Elems.nil _ _ _, fun _ h => by cases h⟩
theorem RnsIn.open7 {F : Nat → Prop} {w : World} {v : Value} {l : List Rn} (h : RnsIn F w v l) : ∃ ao cap, v = .slice ao l.length cap ∧ l.length ≤ cap ∧ cap ≤ 9223372036854775807 ∧
    ∃ b off, (0 < l.length → ao = some ⟨b, off, none⟩ ∧ F b) ∧ ∀ i (h : i < l.length), w.cell? ⟨b, off + i * 2, none⟩ = some (.int .i64 l[i].1) ∧ w.cell? ⟨b, off + i * 2 + 1, none⟩ = some (.int .i64 l[i].2) := by
  obtain ⟨ao, cap, hv, h1, h2, h3, h4⟩ := h.1
  rw [List.length_map] at hv h1
  refine ⟨ao, cap, hv, h1, h2, ?_⟩
  by_cases hl : l = []
  · subst hl
    exact ⟨0, 0, fun h => by simp at h, fun i h => by simp at h⟩
  · obtain ⟨b, off, ha, hF, hi⟩ := h4 (by simpa using hl)
    refine ⟨b, off, fun _ => ⟨ha, hF⟩, fun i h => ?_⟩
    have g := fun j hj => hi i (by simpa using h) j hj
    exact ⟨by simpa [rnC] using g 0 (by decide), by simpa [rnC] using g 1 (by decide)⟩
theorem infoRn : (Try.prog.info? 68).map (fun i => (i.zero, i.size, i.bytes)) = some (some (.agg #[.int .i64 0, .int .i64 0]), 2, 16) := by kernel_rfl
def OwnRn (z : Nat) (w : World) (v : Value) (l : List Rn) : Prop := OwnE 68 2 z w v (l.map rnC)
theorem OwnRn.nil (z : Nat) (w : World) : OwnRn z w (.slice none 0 0) [] := OwnE.nil _ _ _ _
theorem OwnRn.form {z : Nat} {w : World} {v : Value} {l : List Rn} (h : OwnRn z w v l) : ∃ ao c, v = .slice ao l.length c := by
  obtain ⟨ao, c, hv⟩ := OwnE.form h
  rw [List.length_map] at hv
  exact ⟨ao, c, hv⟩
theorem OwnRn.block {z : Nat} {w : World} {v : Value} {l : List Rn} (h : OwnRn z w v l) : (v = .slice none 0 0 ∧ l = []) ∨ ∃ g cap cur, v = .slice (some ⟨g, 0, none⟩) l.length cap ∧ z ≤ g ∧ w.heap[g]? = some (.cells cur 68 (0, 0)) ∧ l.length ≤ cap ∧ cap ≤ 9223372036854775807 ∧ cur.size = cap * 2 ∧ cur.toList.take (l.length * 2) = (l.map rnC).flatten := by
  rcases OwnE.row h with ⟨_, hv⟩
  rcases hv with ⟨hv, h0⟩ | ⟨g, cap, cur, hv, hb, hg, hnc, hcm, hcs, ht⟩
  · left
    rw [List.length_map] at h0
    exact ⟨hv, List.eq_nil_of_length_eq_zero h0⟩
  · right
    rw [List.length_map] at hv hnc
    unfold maxLen at hcm
    refine ⟨g, cap, cur, hv, hb, hg, hnc, by omega, hcs, ?_⟩
    rw [List.length_map] at ht
    exact ht
end Go.Proofs.Ytcbbcihfooaggaa
namespace Go.Proofs.Ytcbbcihfooaggaa
open Go.RowKit Go.ChangeShapes
set_option linter.unusedVariables false
theorem Dv.flush_down {d : Dv} (h : d.down = true) : d.flush = (10, d) := by unfold Dv.flush; rw [if_pos h]
theorem Dv.flush_out {d : Dv} (h : d.down = false) (h1 : d.left = 1) : d.flush = (10, { d with left := 0, down := true }) := by
  unfold Dv.flush Dv.deed
  rw [if_neg (by rw [h]; decide), if_pos h1]
theorem Dv.flush_ok {d : Dv} (h : d.down = false) (h1 : d.left ≠ 1) : d.flush = (0, { all := wakeL (fun _ => true) 0 d.waits d.all, waits := [], left := d.left - 1, deeds := d.deeds + 1, down := d.down }) := by
  unfold Dv.flush Dv.deed
  rw [if_neg (by rw [h]; decide), if_neg h1]
theorem Dv.write_down {d : Dv} {s : Nat} {a : Int} {b : List UInt8} (h : d.down = true) : d.write s a b = (10, d) := by unfold Dv.write; rw [if_pos h]
theorem Dv.write_arg {d : Dv} {s : Nat} {a : Int} {b : List UInt8} (h : d.down = false) (h1 : a < 0 ∨ (s : Int) ≤ a ∨ 64 < b.length) : d.write s a b = (2, d) := by
  unfold Dv.write
  rw [if_neg (by rw [h]; decide), if_pos h1]
theorem Dv.write_out {d : Dv} {s : Nat} {a : Int} {b : List UInt8} (h : d.down = false) (h0 : ¬ (a < 0 ∨ (s : Int) ≤ a ∨ 64 < b.length)) (h1 : d.left = 1) : d.write s a b = (10, { d with left := 0, down := true }) := by
  unfold Dv.write Dv.deed
  rw [if_neg (by rw [h]; decide), if_neg h0, if_pos h1]
theorem Dv.write_ok {d : Dv} {s : Nat} {a : Int} {b : List UInt8} (h : d.down = false) (h0 : ¬ (a < 0 ∨ (s : Int) ≤ a ∨ 64 < b.length)) (h1 : d.left ≠ 1) : d.write s a b = (0, { all := d.all, waits := d.waits ++ [(a.toNat, full64 b)], left := d.left - 1, deeds := d.deeds + 1, down := d.down }) := by
  unfold Dv.write Dv.deed
  rw [if_neg (by rw [h]; decide), if_neg h0, if_neg h1]
structure DvM (w : World) (F : Nat → Prop) (g kb s : Nat) (vw : Value) (d : Dv) : Prop where
  head : ∃ l : Int, (d.down = false → l = d.left) ∧ 0 ≤ l ∧ l ≤ 9223372036854775807 ∧ DvH w g kb s vw d.deeds l d.down
  kept : BytT w kb 104 d.all
  wr : WrAt F w vw d.waits
  right : d.Right s
  sep : g ≠ kb ∧ ¬ F g ∧ ¬ F kb
  small : s ≤ 8192
theorem DvM.lt {w : World} {F : Nat → Prop} {g kb s : Nat} {vw : Value} {d : Dv} (h : DvM w F g kb s vw d) : g < w.heap.size ∧ kb < w.heap.size := by
  obtain ⟨l, _, _, _, hh⟩ := h.head
  exact ⟨hh.lt, h.kept.lt⟩
def DevAt (w : World) (D : Nat → Prop) (g s : Nat) (d : Dv) : Prop := ∃ F kb vw, DvM w F g kb s vw d ∧ ∀ k, k = g ∨ k = kb ∨ F k → D k
theorem DevAt.keep {D S : Nat → Prop} {w w' : World} {g s : Nat} {d : Dv} (h : DevAt w D g s d) (hf : Fr S w w') (hd : ∀ k, k < w.heap.size → D k → ¬ S k) : DevAt w' D g s d := by
  obtain ⟨F, kb, vw, hm, hD⟩ := h
  obtain ⟨hg, hk⟩ := hm.lt
  obtain ⟨l, h1, h2, h3, hh⟩ := hm.head
  exact ⟨F, kb, vw, ⟨⟨l, h1, h2, h3, hh.keep hf (hd g hg (hD g (.inl rfl)))⟩, hf.heap hm.kept (hd kb hk (hD kb (.inr (.inl rfl)))), hm.wr.keep hf (fun k hk hF => hd k hk (hD k (.inr (.inr hF)))), hm.right, hm.sep, hm.small⟩, hD⟩
theorem DevAt.mono {D E : Nat → Prop} {w : World} {g s : Nat} {d : Dv} (h : DevAt w D g s d) (hd : ∀ k, k < w.heap.size → D k → E k) : DevAt w E g s d := by
  obtain ⟨F, kb, vw, hm, hD⟩ := h
  obtain ⟨hg, hk⟩ := hm.lt
  refine ⟨fun k => F k ∧ k < w.heap.size, kb, vw, ⟨hm.head, hm.kept, hm.wr.mono (fun k hk hF => ⟨hF, hk⟩), hm.right, ⟨hm.sep.1, fun h => hm.sep.2.1 h.1, fun h => hm.sep.2.2 h.1⟩, hm.small⟩, fun k hk' => ?_⟩
  rcases hk' with rfl | rfl | hk'
  · exact hd _ hg (hD _ (.inl rfl))
  · exact hd _ hk (hD _ (.inr (.inl rfl)))
  · exact hd _ hk'.2 (hD _ (.inr (.inr hk'.1)))
theorem DevAt.right {D : Nat → Prop} {w : World} {g s : Nat} {d : Dv} (h : DevAt w D g s d) : d.Right s := by
  obtain ⟨F, kb, vw, hm, hD⟩ := h
  exact hm.right
theorem DevAt.lt {D : Nat → Prop} {w : World} {g s : Nat} {d : Dv} (h : DevAt w D g s d) : g < w.heap.size ∧ D g := by
  obtain ⟨F, kb, vw, hm, hD⟩ := h
  exact ⟨hm.lt.1, hD g (.inl rfl)⟩
abbrev More (D : Nat → Prop) (w : World) : Nat → Prop := fun k => D k ∨ w.heap.size ≤ k
theorem Dv.Right.same {d e : Dv} {s : Nat} (h : d.Right s) (h1 : e.all = d.all) (h2 : e.waits = d.waits) : e.Right s := ⟨by rw [h1]; exact h.all, by rw [h2]; exact h.waits⟩
theorem aFuse {D : Nat → Prop} (w : World) (g s : Nat) (d : Dv) (n : Int) (hn : n ≤ 9223372036854775807) (hn0 : -9223372036854775808 ≤ n) (h : DevAt w D g s d) :
    Calls Try.prog 22 #[.pointer (some ⟨g, 0, none⟩), .int .i64 n] w fun e w' => e = .returned (.int .i64 (d.fuse n).1) ∧ DevAt w' (More D w) g s (d.fuse n).2 ∧ Fr D w w' := by
  obtain ⟨F, kb, vw, hm, hD⟩ := h
  obtain ⟨l, h1, h2, h3, hh⟩ := hm.head
  refine (dFuse_any w g kb s vw d.deeds l d.down n hn hn0 hh).mono ?_
  rintro e w' ⟨rfl, hh', hf⟩
  have hk' := hf.heap hm.kept (fun e => hm.sep.1 e.symm)
  have hw' := hm.wr.keep hf (fun k _ hF e => hm.sep.2.1 (e ▸ hF))
  have hfr := hf.mono (T := D) (fun k _ e => hD k (.inl e))
  unfold Dv.fuse
  cases hd : d.down with
  | true =>
    rw [hd] at hh'
    simp only [if_true] at hh' ⊢
    refine ⟨trivial, ⟨F, kb, vw, ⟨⟨l, fun h => (by rw [hd] at h; cases h), h2, h3, by rw [hd]; exact hh'⟩, hk', hw', hm.right, hm.sep, hm.small⟩, fun k hk => .inl (hD k hk)⟩, hfr⟩
  | false =>
    rw [hd] at hh'
    refine ⟨by rfl, ⟨F, kb, vw, ⟨⟨max n 0, fun _ => by simp, by omega, by omega, hh'⟩, hk', hw', hm.right.same rfl rfl, hm.sep, hm.small⟩, fun k hk => .inl (hD k hk)⟩, hfr⟩
theorem dSettle_any {F : Nat → Prop} {s : Nat} (w : World) (g kb : Nat) (L : List UInt8) (Wt : List Pend) (vw : Value) (k l : Int) (dn : Bool) (keep : Int) (hkp0 : -9223372036854775808 ≤ keep) (hkp1 : keep ≤ 9223372036854775807) (h : DvH w g kb s vw k l dn) (hL : BytT w kb 104 L) (hl : L.length = 64 * s) (hW : Pends s Wt)
    (hP : WrAt F w vw Wt) (hgF : ¬ F g) (hkF : ¬ F kb) (hne : g ≠ kb) (hs : s ≤ 8192) (hn6 : Wt.length ≤ 1000000) :
    Calls Try.prog 59 #[.pointer (some ⟨g, 0, none⟩), .int .i64 keep] w fun e w' => e = .returned (.tuple #[]) ∧ DvH w' g kb s (.slice none 0 0) k l dn ∧ BytT w' kb 104 (wakeL (bitOf keep) 0 Wt L) ∧ Fr (fun b => b = g ∨ b = kb) w w' := by
  obtain ⟨xs, rfl⟩ := exists_valsX Wt hW
  rw [wakeL_pick]
  exact callsIn_wide.1 (dSettle_in w g kb L xs vw k l dn keep hkp0 hkp1 h hL hl hP hgF hkF hne hs (by simpa [valsX] using hn6))
theorem wakeL_congr (f f' : Nat → Bool) (hf : ∀ i, f i = f' i) : ∀ (W : List Pend) (i : Nat) (K : List UInt8), wakeL f i W K = wakeL f' i W K
  | [], i, K => rfl
  | p :: W, i, K => by rw [wakeL, wakeL, wakeL_congr f f' hf W, hf i]
theorem aFlush {D : Nat → Prop} (w : World) (g s : Nat) (d : Dv) (hk6 : d.deeds ≤ 1000000000) (hn6 : d.waits.length ≤ 1000000) (h : DevAt w D g s d) :
    Calls Try.prog 52 #[.pointer (some ⟨g, 0, none⟩)] w fun e w' => e = .returned (.int .i64 d.flush.1) ∧ DevAt w' (More D w) g s d.flush.2 ∧ Fr D w w' := by
  have hR := h.right
  obtain ⟨F, kb, vw, hm, hD⟩ := h
  obtain ⟨l, h1, h2, h3, hh⟩ := hm.head
  have hc := dReady_any w g kb s vw d.deeds l d.down hh
  cases hd : d.down with
  | true =>
    rw [Dv.flush_down hd]
    rw [hd] at hc
    have HM := Lib.hid (show DevAt w (More D w) g s d from ⟨F, kb, vw, hm, fun k hk => .inl (hD k hk)⟩)
    clear hm hh hR h1
    go_enter Try.func52, Try.ntmps52
    go_wp2_with (go_at_call 46; refine hc.mono ?_; rintro e w1 ⟨rfl, rfl⟩)
    go_ret
    exact ⟨rfl, HM.out, Fr.refl _ _⟩
  | false =>
    have hl := h1 hd
    rw [hd] at hc hh
    have hde := dDeed_any w g kb s vw d.deeds l false (by omega) (by omega) h2 h3 hh
    by_cases e1 : d.left = 1
    · rw [Dv.flush_out hd e1]
      have el : l = 1 := by omega
      subst el
      have HDE := Lib.hid hde
      have HM := Lib.hid (And.intro hm (And.intro hD hR))
      clear hm hh hR h1 hde hl
      go_enter Try.func52, Try.ntmps52
      go_wp2_with (first
        | (go_at_call 46; refine hc.mono ?_; rintro e w1 ⟨rfl, rfl⟩)
        | (go_at_call 74; refine HDE.out.mono ?_; rintro e w1 ⟨rfl, hh, hf⟩; (have HS := Lib.hid (And.intro hh hf)); clear hh hf))
      go_ret
      obtain ⟨hm, hD, hR⟩ := HM.out
      obtain ⟨hh, hf⟩ := HS.out
      exact ⟨rfl, ⟨F, kb, vw, ⟨⟨1, fun h => (by cases h), by decide, by decide, hh⟩, hf.heap hm.kept (fun e => hm.sep.1 e.symm), hm.wr.keep hf (fun k _ hF e => hm.sep.2.1 (e ▸ hF)), hR.same rfl rfl, hm.sep, hm.small⟩, fun k hk => .inl (hD k hk)⟩, hf.mono (fun k _ e => hD k (.inl e))⟩
    · rw [Dv.flush_ok hd e1]
      have el : l ≠ 1 := by omega
      have et : decide (l ≠ 1) = true := by rw [decide_eq_true_iff]; exact el
      rw [et, if_neg el, if_neg el] at hde
      obtain ⟨l', hl'⟩ : ∃ l', l' = if l = 0 ∨ l = 1 then l else l - 1 := ⟨_, rfl⟩
      have hl2 : l' = ((d.left - 1 : Nat) : Int) := by rw [hl']; split <;> omega
      have hl3 : 0 ≤ l' ∧ l' ≤ 9223372036854775807 := by omega
      rw [← hl'] at hde
      have hst := fun W (hD : DvH W g kb s vw (d.deeds + 1) l' false) (hf : Fr (· = g) w W) => dSettle_any W g kb d.all d.waits vw (d.deeds + 1) l' false (-1) (by decide) (by decide) hD (hf.heap hm.kept (fun e => hm.sep.1 e.symm)) hR.all hR.waits (hm.wr.keep hf (fun k _ hF e => hm.sep.2.1 (e ▸ hF))) hm.sep.2.1 hm.sep.2.2 hm.sep.1 hm.small hn6
      have HDE := Lib.hid hde
      have HST := Lib.hid hst
      have HM := Lib.hid (And.intro hm (And.intro hD hR))
      have HL := Lib.hid (And.intro hl2 hl3)
      clear hm hh hR h1 hde hl hst hl2 hl3 hl'
      go_enter Try.func52, Try.ntmps52
      go_wp2_with (first
        | (go_at_call 46; refine hc.mono ?_; rintro e w1 ⟨rfl, rfl⟩)
        | (go_at_call 74; refine HDE.out.mono ?_; rintro e w1 ⟨rfl, hh, hf⟩; (have HS := Lib.hid (And.intro hh hf)); clear hh hf)
        | (go_at_call 59; refine (HST.out _ HS.out.1 HS.out.2).mono ?_; rintro e w2 ⟨rfl, hh, hb, hf⟩; (have HS2 := Lib.hid (And.intro hh (And.intro hb hf))); clear hh hb hf))
      go_ret
      obtain ⟨hm, hD, hR⟩ := HM.out
      obtain ⟨hh, hb, hf⟩ := HS2.out
      rw [wakeL_congr _ (fun _ => true) bitOf_all] at hb
      exact ⟨rfl, ⟨F, kb, _, ⟨⟨l', fun _ => HL.out.1, HL.out.2.1, HL.out.2.2, by rw [hd]; exact hh⟩, hb, WrAt.nil _ _, ⟨wakeL_length _ s d.waits 0 d.all hR.waits hR.all, fun p hp => by cases hp⟩, hm.sep, hm.small⟩, fun k hk => .inl (hD k hk)⟩, (HS.out.2.mono (fun k _ e => hD k (.inl e))).trans hf (fun k e => .inl (hD k (e.elim .inl (fun h => .inr (.inl h)))))⟩
theorem aWake {D : Nat → Prop} (w : World) (g s : Nat) (d : Dv) (keep : Int) (hkp0 : -9223372036854775808 ≤ keep) (hkp1 : keep ≤ 9223372036854775807) (hn6 : d.waits.length ≤ 1000000) (h : DevAt w D g s d) :
    Calls Try.prog 33 #[.pointer (some ⟨g, 0, none⟩), .int .i64 keep] w fun e w' => e = .returned (.int .i64 (d.wake keep).1) ∧ DevAt w' (More D w) g s (d.wake keep).2 ∧ Fr D w w' := by
  have hR := h.right
  obtain ⟨F, kb, vw, hm, hD⟩ := h
  obtain ⟨l, h1, h2, h3, hh⟩ := hm.head
  have hc := dReady_any w g kb s vw d.deeds l d.down hh
  unfold Dv.wake
  cases hd : d.down with
  | false =>
    rw [hd] at hc
    have HM := Lib.hid (show DevAt w (More D w) g s d from ⟨F, kb, vw, hm, fun k hk => .inl (hD k hk)⟩)
    clear hm hh hR h1
    go_enter Try.func33, Try.ntmps33
    go_wp2_with (go_at_call 46; refine hc.mono ?_; rintro e w1 ⟨rfl, rfl⟩)
    go_ret
    exact ⟨rfl, HM.out, Fr.refl _ _⟩
  | true =>
    rw [hd] at hc hh
    have hst := dSettle_any w g kb d.all d.waits vw d.deeds l true keep hkp0 hkp1 hh hm.kept hR.all hR.waits hm.wr hm.sep.2.1 hm.sep.2.2 hm.sep.1 hm.small hn6
    have hri := fun W h => dRise_any W g kb s (.slice none 0 0) d.deeds l true h
    have HST := Lib.hid hst
    have HRI := Lib.hid hri
    have HM := Lib.hid (And.intro hm (And.intro hD hR))
    clear hm hh hR h1 hst hri
    go_enter Try.func33, Try.ntmps33
    go_wp2_with (first
      | (go_at_call 46; refine hc.mono ?_; rintro e w1 ⟨rfl, rfl⟩)
      | (go_at_call 59; refine HST.out.mono ?_; rintro e w2 ⟨rfl, hh, hb, hf⟩; (have HS2 := Lib.hid (And.intro hh (And.intro hb hf))); clear hh hb hf)
      | (go_at_call 60; refine (HRI.out _ HS2.out.1).mono ?_; rintro e w3 ⟨rfl, hh, hf⟩; (have HS3 := Lib.hid (And.intro hh hf)); clear hh hf))
    go_ret
    obtain ⟨hm, hD, hR⟩ := HM.out
    obtain ⟨_, hb, hf⟩ := HS2.out
    obtain ⟨hh, hf3⟩ := HS3.out
    exact ⟨rfl, ⟨F, kb, _, ⟨⟨0, fun _ => rfl, by decide, by decide, hh⟩, hf3.heap hb (fun e => hm.sep.1 e.symm), WrAt.nil _ _, ⟨wakeL_length _ s d.waits 0 d.all hR.waits hR.all, fun p hp => by cases hp⟩, hm.sep, hm.small⟩, fun k hk => .inl (hD k hk)⟩, (hf.mono (fun k _ e => hD k (e.elim .inl (fun h => .inr (.inl h))))).trans hf3 (fun k e => .inl (hD k (.inl e)))⟩
end Go.Proofs.Ytcbbcihfooaggaa
namespace Go.Proofs.Ytcbbcihfooaggaa
open Go.RowKit Go.ChangeShapes
set_option linter.unusedVariables false
def Dv.new (s : Nat) : Dv := { all := List.replicate (64 * s) 0, waits := [], deeds := 0, left := 0, down := false }
theorem aNew (w : World) (s : Nat) (h1 : 1 ≤ s) (h2 : s ≤ 8192) :
    Calls Try.prog 19 #[.int .i64 s] w fun e w' => ∃ g, e = .returned (.tuple #[.pointer (some ⟨g, 0, none⟩), .int .i64 0]) ∧ DevAt w' (fun k => w.heap.size ≤ k) g s (Dv.new s) ∧ Fr (fun _ => False) w w' := by
  refine (dNew_yes w s h1 h2).mono ?_
  rintro e w' ⟨g, kb, rfl, hg, hk, hne, hh, hb, hf⟩
  exact ⟨g, rfl, ⟨fun _ => False, kb, _, ⟨⟨0, fun _ => rfl, by decide, by decide, hh⟩, hb, WrAt.nil _ _, ⟨by simp [Dv.new], fun p hp => by cases hp⟩, ⟨hne, id, id⟩, h2⟩, fun k hk' => by
    rcases hk' with rfl | rfl | h
    · exact hg
    · exact hk
    · exact h.elim⟩, hf⟩
set_option maxHeartbeats 1000000 in
theorem aWrite {D G : Nat → Prop} (w : World) (g s : Nat) (d : Dv) (a : Int) (vb : Value) (b : List UInt8) (ha0 : -9223372036854775808 ≤ a) (ha1 : a ≤ 9223372036854775807) (hk6 : d.deeds ≤ 1000000000) (hn6 : d.waits.length + 1 ≤ 1000000) (hb : BytesIn G w vb b) (hG : ∀ k, k < w.heap.size → G k → ¬ D k) (h : DevAt w D g s d) :
    Calls Try.prog 51 #[.pointer (some ⟨g, 0, none⟩), .int .i64 a, vb] w fun e w' => e = .returned (.int .i64 (d.write s a b).1) ∧ DevAt w' (More D w) g s (d.write s a b).2 ∧ Fr D w w' := by
  have hR := h.right
  have hgD := h.lt
  obtain ⟨F, kb, vw, hm, hD⟩ := h
  obtain ⟨l, h1, h2, h3, hh⟩ := hm.head
  have hc := dReady_any w g kb s vw d.deeds l d.down hh
  obtain ⟨ab, cb, hvb⟩ : ∃ ao cap, vb = .slice ao b.length cap := by obtain ⟨x, y, hx, _⟩ := hb; exact ⟨x, y, hx⟩
  subst hvb
  have HM0 := Lib.hid (show DevAt w (More D w) g s d from ⟨F, kb, vw, hm, fun k hk => .inl (hD k hk)⟩)
  cases hd : d.down with
  | true =>
    rw [Dv.write_down hd]
    rw [hd] at hc
    clear hm hh hR h1 hb
    go_enter Try.func51, Try.ntmps51
    go_wp2_with (go_at_call 46; refine hc.mono ?_; rintro e w1 ⟨rfl, rfl⟩)
    go_ret
    exact ⟨rfl, HM0.out, Fr.refl _ _⟩
  | false =>
    have hl := h1 hd
    rw [hd] at hc hh
    have hha := dHas_any w g kb s vw d.deeds l false a hh
    obtain ⟨q, hq⟩ : ∃ q, q = b.length := ⟨_, rfl⟩
    by_cases h0 : a < 0 ∨ (s : Int) ≤ a ∨ 64 < b.length
    · rw [Dv.write_arg hd h0]
      by_cases hs : 0 ≤ a ∧ a < (s : Int)
      · rw [show decide (0 ≤ a ∧ a < (s : Int)) = true by rw [decide_eq_true_iff]; exact hs] at hha
        have hbl : 64 < q := by omega
        have hd1 : decide (64 < (q : Int)) = true := by rw [decide_eq_true_iff]; omega
        have hd2 : decide (64 < q) = true := by rw [decide_eq_true_iff]; omega
        rw [← hq] at *
        clear hm hh hR h1 hb h0 hs hl hq
        go_enter Try.func51, Try.ntmps51
        go_wp2_with (first
          | (go_at_call 46; refine hc.mono ?_; rintro e w1 ⟨rfl, rfl⟩)
          | (go_at_call 73; refine hha.mono ?_; rintro e w1 ⟨rfl, rfl⟩))
        go_ret
        exact ⟨rfl, HM0.out, Fr.refl _ _⟩
      · rw [show decide (0 ≤ a ∧ a < (s : Int)) = false by rw [decide_eq_false_iff_not]; exact hs] at hha
        clear hm hh hR h1 hb h0 hs hl hq
        go_enter Try.func51, Try.ntmps51
        go_wp2_with (first
          | (go_at_call 46; refine hc.mono ?_; rintro e w1 ⟨rfl, rfl⟩)
          | (go_at_call 73; refine hha.mono ?_; rintro e w1 ⟨rfl, rfl⟩))
        go_ret
        exact ⟨rfl, HM0.out, Fr.refl _ _⟩
    · have hs : 0 ≤ a ∧ a < (s : Int) := by omega
      rw [show decide (0 ≤ a ∧ a < (s : Int)) = true by rw [decide_eq_true_iff]; exact hs] at hha
      have hbl : ¬ 64 < q := by omega
      have hd1 : decide (64 < (q : Int)) = false := by rw [decide_eq_false_iff_not]; omega
      have hd2 : decide (64 < q) = false := by rw [decide_eq_false_iff_not]; omega
      have hde := dDeed_any w g kb s vw d.deeds l false (by omega) (by omega) h2 h3 hh
      obtain ⟨n, hn⟩ : ∃ n : Nat, a = n := ⟨a.toNat, by omega⟩
      by_cases e1 : d.left = 1
      · rw [Dv.write_out hd h0 e1]
        have el : l = 1 := by omega
        subst el
        have HDE := Lib.hid hde
        have HM := Lib.hid (And.intro hm (And.intro hD hR))
        rw [← hq] at *
        clear hm hh hR h1 hde hl hb h0 hs hq hn
        go_enter Try.func51, Try.ntmps51
        go_wp2_with (first
          | (go_at_call 46; refine hc.mono ?_; rintro e w1 ⟨rfl, rfl⟩)
          | (go_at_call 73; refine hha.mono ?_; rintro e w1 ⟨rfl, rfl⟩)
          | (go_at_call 74; refine HDE.out.mono ?_; rintro e w1 ⟨rfl, hh, hf⟩; (have HS := Lib.hid (And.intro hh hf)); clear hh hf))
        go_ret
        obtain ⟨hm, hD, hR⟩ := HM.out
        obtain ⟨hh, hf⟩ := HS.out
        exact ⟨rfl, ⟨F, kb, vw, ⟨⟨1, fun h => (by cases h), by decide, by decide, hh⟩, hf.heap hm.kept (fun e => hm.sep.1 e.symm), hm.wr.keep hf (fun k _ hF e => hm.sep.2.1 (e ▸ hF)), hR.same rfl rfl, hm.sep, hm.small⟩, fun k hk => .inl (hD k hk)⟩, hf.mono (fun k _ e => hD k (.inl e))⟩
      · rw [Dv.write_ok hd h0 e1]
        have hRW := hR.write a b
        rw [Dv.write_ok hd h0 e1] at hRW
        have el : l ≠ 1 := by omega
        have et : decide (l ≠ 1) = true := by rw [decide_eq_true_iff]; exact el
        rw [et, if_neg el, if_neg el] at hde
        obtain ⟨l', hl'⟩ : ∃ l', l' = if l = 0 ∨ l = 1 then l else l - 1 := ⟨_, rfl⟩
        have hl2 : l' = ((d.left - 1 : Nat) : Int) := by rw [hl']; split <;> omega
        have hl3 : 0 ≤ l' ∧ l' ≤ 9223372036854775807 := by omega
        rw [← hl'] at hde
        subst hn
        have had := fun W (hD2 : DvH W g kb s vw (d.deeds + 1) l' false) (hf : Fr (· = g) w W) => dAdd_any (G := fun k => G k ∧ k < w.heap.size) W g kb s n vw (.slice ab b.length cb) d.waits b (d.deeds + 1) l' false hD2 (hm.wr.keep hf (fun k _ hF e => hm.sep.2.1 (e ▸ hF)))
          ((hb.mono (G := fun k => G k ∧ k < w.heap.size) (fun k hk hg => ⟨hg, hk⟩)).keep hf (fun k hk hg e => hG k hk hg.1 (e ▸ hgD.2))) (fun i hi => ⟨Nat.lt_of_lt_of_le hi.2 hf.size, fun e => hG i hi.2 hi.1 (e ▸ hgD.2)⟩) (by omega) hm.sep.2.1 hn6
        have HDE := Lib.hid hde
        have HAD := Lib.hid had
        have HM := Lib.hid (And.intro hm (And.intro hD (And.intro hR hRW)))
        have HL := Lib.hid (And.intro hl2 hl3)
        rw [← hq] at *
        clear hm hh hR h1 hde hl hb h0 hs had hl2 hl3 hl' hRW hq
        go_enter Try.func51, Try.ntmps51
        go_wp2_with (first
          | (go_at_call 46; refine hc.mono ?_; rintro e w1 ⟨rfl, rfl⟩)
          | (go_at_call 73; refine hha.mono ?_; rintro e w1 ⟨rfl, rfl⟩)
          | (go_at_call 74; refine HDE.out.mono ?_; rintro e w1 ⟨rfl, hh, hf⟩; (have HS := Lib.hid (And.intro hh hf)); clear hh hf)
          | (go_at_call 75; refine (HAD.out _ HS.out.1 HS.out.2).mono ?_; rintro e w2 ⟨rfl, vw2, hh, hp, hf⟩; (have HS2 := Lib.hid (And.intro hh (And.intro hp hf))); clear hh hp hf))
        go_ret
        obtain ⟨hm, hD, hR, hRW⟩ := HM.out
        obtain ⟨hh, hp, hf⟩ := HS2.out
        have hlt := hm.lt
        have hsz := HS.out.2.size
        have hkb : BytT w2 kb 104 d.all := hf.heap (HS.out.2.heap hm.kept (fun e => hm.sep.1 e.symm)) (fun e => e.elim (fun e => hm.sep.1 e.symm) hm.sep.2.2)
        refine ⟨rfl, ⟨fun k => F k ∨ w1.heap.size ≤ k, kb, vw2, ⟨⟨l', fun _ => HL.out.1, HL.out.2.1, HL.out.2.2, by rw [hd]; exact hh⟩, hkb, by simpa using hp, hRW, ⟨hm.sep.1, fun h => h.elim hm.sep.2.1 (fun h => by omega), fun h => h.elim hm.sep.2.2 (fun h => by omega)⟩, hm.small⟩, fun k hk => ?_⟩, (HS.out.2.mono (T := D) (fun k _ e => hD k (.inl e))).trans hf (fun k e => .inl (hD k (e.elim .inl (fun h => .inr (.inr h)))))⟩
        rcases hk with hk | hk | hk | hk
        · exact .inl (hD k (.inl hk))
        · exact .inl (hD k (.inr (.inl hk)))
        · exact .inl (hD k (.inr (.inr hk)))
        · exact .inr (by omega)
end Go.Proofs.Ytcbbcihfooaggaa
