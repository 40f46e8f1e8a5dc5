/- Contracts: size, LentRows, KeptRows: rows of rows of bytes, lent and looked at again. -/
import Derived.Test.YthjpgnmpcllolaaDoorRSum
import Derived.Test.YthjpgnmpcllolaaDoorKept
namespace Go.Proofs.YthjpgnmpcllolaaDoor
open Go.RowKit Go.ChangeShapes
set_option linter.unusedVariables false


/-- append of one value onto a row that the call owns. -/
theorem run_append_val (z : Nat) (w : World) (ty : TypeId) (v y : Value) (vs : List Value) (h : Nat) (hown : w.ownsRow z 38 1 v vs.length vs) (hcell : w.cell? ⟨h, 0, none⟩ = some y) (hy : y.oneCell' = true) (hk : vs.length ≤ 1000000) (hz : z ≤ w.heap.size) :
    ∃ v' w', (Builtin.append_ #[22, 22] ty #[v, .slice (some ⟨h, 0, none⟩) 1 1]).run Tryd.prog w = .ok v' w' ∧ w'.ownsRow z 38 1 v' (vs.length + 1) (vs ++ [y]) ∧ w.grownBy w' v.ownBlock ∧ (v'.ownBlock = v.ownBlock ∨ v'.ownBlock = some w.heap.size) := by
  obtain ⟨i0, hi, hz0, hz1, hz2⟩ := info_parts Tryd.infoS
  obtain ⟨v', w', hr, h2, h3, h4, h5⟩ := run_append_own_at (P := Tryd.prog) w z 22 ty 38 i0 (.slice none 0 0) 1 24 Tryd.underlying22 hi hz0 hz1 hz2 rfl (by decide) v vs.length _ hown ⟨h, 0, none⟩ 1 1 [y]
    rfl (by
      intro j u hu
      match j, hu with
      | 0, hu =>
        simp at hu
        subst hu
        simpa [Addr.add] using hcell) (by simpa using hy) (by unfold maxLen; omega) (by omega) hz
  exact ⟨v', w', hr, h2, h3, h5⟩
theorem wpList_append_val (z : Nat) (w : World) {ops : Array Oper} {rest : List Oper} {o : Oper} {a : Act} {Q : Exit → Act → World → Prop} (hgd : o.guard = none) (s x : Operand)
    (hop : o.op = Op.call { callee := Callee.builtin Builtin.append, args := #[s, x], argTypes := #[22, 22] })
    (v y : Value) (vs : List Value) (h : Nat) (hs : a.eval s = v) (hx : a.eval x = .slice (some ⟨h, 0, none⟩) 1 1) (hown : w.ownsRow z 38 1 v vs.length vs) (hcell : w.cell? ⟨h, 0, none⟩ = some y) (hy : y.oneCell' = true) (hk : vs.length ≤ 1000000) (hz : z ≤ w.heap.size)
    (hK : ∀ v' w', w'.ownsRow z 38 1 v' (vs.length + 1) (vs ++ [y]) → w.grownBy w' v.ownBlock → (v'.ownBlock = v.ownBlock ∨ v'.ownBlock = some w.heap.size) → wpList Tryd.prog ops Q rest (a.put o.dst v') w') : wpList Tryd.prog ops Q (o :: rest) a w := by
  refine wpList_plain hgd fun K hK' => ?_
  subst hs
  obtain ⟨v', w', hr, h1, h2, h3⟩ := run_append_val z w o.type _ _ vs h hown hcell hy hk hz
  unfold Oper.wp
  simp [execOp, hop, resolve, invoke, builtin, hx, hr, Result.andThen]
  exact hK' _ _ (hK v' w' h1 h2 h3)

theorem ownsRow_keep {S : Nat → Prop} {w w' : World} {z n : Nat} {e : TypeId} {v : Value} {vs : List Value} (h : w.ownsRow z e 1 v n vs) (hf : Fr S w w') (hd : ∀ g, v.ownBlock = some g → ¬ S g) : w'.ownsRow z e 1 v n vs := by
  refine ⟨h.1, ?_⟩
  rcases h.2 with h1 | ⟨g, cap, cur, hv, hb, hg, r⟩
  · exact .inl h1
  · exact .inr ⟨g, cap, cur, hv, hb, hf.heap hg (hd g (by rw [hv]; rfl)), r⟩
theorem ownsRow_form {w : World} {z n : Nat} {v : Value} {vs : List Value} (h : w.ownsRow z 38 1 v n vs) : ∃ ao c, v = .slice ao n c ∧ n ≤ c ∧ c ≤ 9223372036854775807 ∧ (0 < n → ∃ g, ao = some ⟨g, 0, none⟩ ∧ z ≤ g ∧ g < w.heap.size ∧ ∀ j (hj : j < vs.length), w.cell? ⟨g, j, none⟩ = some vs[j]) := by
  have hl : vs.length = n := by simpa using h.1
  rcases h.2 with ⟨rfl, h0⟩ | ⟨g, cap, cur, rfl, hb, hg, hnc, hcm, hcs, ht⟩
  · exact ⟨none, 0, by rw [h0], by omega, by omega, fun hn => by omega⟩
  · unfold maxLen at hcm
    exact ⟨_, cap, rfl, hnc, by omega, fun _ => ⟨g, rfl, hb, lt_of_block hg, fun j hj => by
      rw [World.ownsRow.cellAt h j (by omega), List.getElem?_eq_getElem hj]⟩⟩

theorem LentAt.keep_ {F S : Nat → Prop} {w w' : World} {g c : Nat} {L : List UInt8} (h : LentAt F w g c L) (hf : Fr S w w') (hd : ¬ S g) : LentAt F w' g c L := by
  refine ⟨h.1, h.2.1, h.2.2.keep' hf (fun k hk e => ?_)⟩
  simp only [Value.ownBlock, Option.some.injEq] at hk
  subst hk
  exact hd e
/-- Rows that were lent: each in a block of its own, marks behind it. -/
def LentRowsAt (z : Nat) (w : World) (v : Value) (P : List (List UInt8)) : Prop :=
  ∃ vs : List Value, vs.length = P.length ∧ w.ownsRow z 38 1 v P.length vs ∧ ∀ i (h1 : i < vs.length) (h2 : i < P.length), ∃ g c, vs[i] = .slice (some ⟨g, 0, none⟩) P[i].length c ∧ g < w.heap.size ∧ LentAt (fun k => z ≤ k) w g c P[i] ∧ v.ownBlock ≠ some g
theorem LentRowsAt.nil (z : Nat) (w : World) : LentRowsAt z w (.slice none 0 0) [] := ⟨[], rfl, World.ownsRow_nil _ _ _ _, fun i h => by simp at h⟩
theorem LentRowsAt.keep {S : Nat → Prop} {z : Nat} {w w' : World} {v : Value} {P : List (List UInt8)} (h : LentRowsAt z w v P) (hf : Fr S w w') (hS : ∀ k, z ≤ k → ¬ S k) : LentRowsAt z w' v P := by
  obtain ⟨vs, hl, ho, hi⟩ := h
  refine ⟨vs, hl, ownsRow_keep ho hf (fun g hg => hS g ?_), fun i h1 h2 => ?_⟩
  · rcases ho.2 with ⟨rfl, _⟩ | ⟨g', cap, cur, rfl, hb, _⟩
    · simp [Value.ownBlock] at hg
    · simp only [Value.ownBlock, Option.some.injEq] at hg
      omega
  · obtain ⟨g, c, e1, e2, e3, e4⟩ := hi i h1 h2
    exact ⟨g, c, e1, Nat.lt_of_lt_of_le e2 hf.size, e3.keep_ hf (hS g (e3.2.2.2 g rfl)), e4⟩
/-- One more. -/
theorem LentRowsAt.snoc {z : Nat} {w w2 w5 : World} {v v5 : Value} {P : List (List UInt8)} {vs : List Value} {L : List UInt8} {g c : Nat} (hl : vs.length = P.length)
    (hi : ∀ i (h1 : i < vs.length) (h2 : i < P.length), ∃ g c, vs[i] = .slice (some ⟨g, 0, none⟩) P[i].length c ∧ g < w.heap.size ∧ LentAt (fun k => z ≤ k) w g c P[i] ∧ v.ownBlock ≠ some g)
    (hf : Fr (fun _ => False) w w2) (hg : LentAt (fun k => z ≤ k) w2 g c L) (hgl : g < w2.heap.size) (hgv : v.ownBlock ≠ some g)
    (ho : w5.ownsRow z 38 1 v5 (vs.length + 1) (vs ++ [.slice (some ⟨g, 0, none⟩) L.length c])) (hgr : w2.grownBy w5 v.ownBlock) (hb : v5.ownBlock = v.ownBlock ∨ v5.ownBlock = some w2.heap.size) : LentRowsAt z w5 v5 (P ++ [L]) := by
  have hf5 : Fr (fun k => v.ownBlock = some k) w2 w5 := (Fr.refl _ w2).grown hgr (fun k hk => .inl hk)
  have hne : ∀ k, k < w2.heap.size → v.ownBlock ≠ some k → v5.ownBlock ≠ some k := fun k hk h1 h2 => by
    rcases hb with hb | hb
    · exact h1 (by rw [← hb, h2])
    · rw [hb] at h2; injection h2 with h2; omega
  refine ⟨vs ++ [.slice (some ⟨g, 0, none⟩) L.length c], by simp [hl], by rw [List.length_append, ← hl]; exact ho, fun i h1 h2 => ?_⟩
  by_cases h : i < vs.length
  · obtain ⟨g', c', e1, e2, e3, e4⟩ := hi i h (by omega)
    have e5 : g' < w2.heap.size := Nat.lt_of_lt_of_le e2 hf.size
    have ep : (P ++ [L])[i] = P[i]'(by omega) := List.getElem_append_left (by omega)
    rw [List.getElem_append_left h, ep]
    exact ⟨g', c', e1, Nat.lt_of_lt_of_le e5 hf5.size, (e3.keep_ hf (fun h => h)).keep_ hf5 (fun h => e4 h), hne g' e5 e4⟩
  · have h1' : i = vs.length := by simp at h1; omega
    subst h1'
    have ep : (P ++ [L])[vs.length] = L := by rw [List.getElem_append_right (by omega)]; simp [hl]
    rw [ep]
    refine ⟨g, c, by simp, Nat.lt_of_lt_of_le hgl hf5.size, hg.keep_ hf5 (fun h => hgv h), hne g hgl hgv⟩
theorem LentAt.bytes {F : Nat → Prop} {w : World} {g c : Nat} {L : List UInt8} (h : LentAt F w g c L) : BytesIn F w (.slice (some ⟨g, 0, none⟩) L.length c) L := by
  have h1 := h.2.2.bytes.take L.length (by simp)
  rwa [List.take_left] at h1
theorem LentAt.lt {F : Nat → Prop} {w : World} {g c : Nat} {L : List UInt8} (h : LentAt F w g c L) : g < w.heap.size := by
  obtain ⟨g', cap, hv, _, _, _, hc⟩ := h.2.2.form (by rw [List.length_append, marks_length]; omega)
  simp only [Value.slice.injEq, Option.some.injEq, Addr.mk.injEq] at hv
  obtain ⟨⟨rfl, _⟩, _⟩ := hv
  exact World.block_lt_of_cell? _ _ (hc 0 (by rw [List.length_append, marks_length]; omega)).1
theorem LentAt.mono_ {F G : Nat → Prop} {w : World} {g c : Nat} {L : List UInt8} (h : LentAt F w g c L) (hFG : ∀ k, F k → G k) : LentAt G w g c L :=
  ⟨h.1, h.2.1, h.2.2.1, fun k hk => hFG k (h.2.2.2 k hk)⟩
/-- They read as they were. -/
theorem LentRowsAt.rows {z : Nat} {w : World} {v : Value} {P : List (List UInt8)} (h : LentRowsAt z w v P) (hP : ∀ X ∈ P, X.length ≤ 140737488351232) : RowsIn (fun k => z ≤ k ∧ k < w.heap.size) w v P := by
  obtain ⟨vs, hl, ho, hi⟩ := h
  obtain ⟨ao, c, rfl, h1, h2, h3⟩ := ownsRow_form ho
  refine ⟨ao, c, rfl, h1, h2, hP, fun hne => ?_⟩
  obtain ⟨g, rfl, hg1, hg2, hc⟩ := h3 (List.length_pos_iff.2 hne)
  refine ⟨g, 0, rfl, ⟨hg1, hg2⟩, fun i hil => ?_⟩
  obtain ⟨g', c', e1, e2, e3, _⟩ := hi i (by omega) hil
  refine ⟨vs[i]'(by omega), by rw [Nat.zero_add]; exact hc i (by omega), ?_⟩
  rw [e1]
  exact e3.bytes.mono (fun k hk h => ⟨h, hk⟩)
end Go.Proofs.YthjpgnmpcllolaaDoor
