/- Laid together: BApp -/
import Derived.Test.YtcbbcihfooaggaaBk12
import Derived.Test.YtcbbcihfooaggaaBk1
import Derived.Deep.AppendSrc
import Derived.Deep.Upon

namespace Go.Proofs.Ytcbbcihfooaggaa
open Go.RowKit Go.ChangeShapes
set_option linter.unusedVariables false
theorem flat_prefix {k m : List Rn} (h : k <+: m) {j : Nat} (hj : j < k.length * 2) : (k.map rnC).flatten[j]? = (m.map rnC).flatten[j]? := by
  obtain ⟨r, rfl⟩ := h
  rw [List.map_append, List.flatten_append, List.getElem?_append_left]
  rw [flat_len _ (rnC_len k), List.length_map]
  exact hj
theorem OwnRn.over {z : Nat} {w : World} {g cap : Nat} {cur : Array Value} {l m : List Rn} (hg : w.heap[g]? = some (.cells cur 68 (0, 0))) (hcs : cur.size = cap * 2) (hfit : l.length + m.length ≤ cap) (ht : cur.toList.take (l.length * 2) = (l.map rnC).flatten) {u : Value} {k : List Rn} (hk : k <+: l ++ m) (h : OwnRn z w u k) :
    OwnRn z (w.setRow g (cur.toList.take (l.length * 2) ++ (m.map rnC).flatten ++ cur.toList.drop (l.length * 2 + (m.map rnC).flatten.length)).toArray) u k := by
  have hf : Fr (fun b => b = g) w (w.setRow g (cur.toList.take (l.length * 2) ++ (m.map rnC).flatten ++ cur.toList.drop (l.length * 2 + (m.map rnC).flatten.length)).toArray) := (Fr.refl (fun b => b = g) w).setRow (.inl rfl) _
  by_cases hu : u.ownBlock = some g
  · rcases OwnRn.block h with ⟨rfl, _⟩ | ⟨g', cap', cur', rfl, h1, h2, h3, h4, h5, h6⟩
    · simp [Value.ownBlock] at hu
    · simp only [Value.ownBlock, Option.some.injEq] at hu
      subst hu
      rw [hg] at h2
      simp only [Option.some.injEq, Obj.cells.injEq, and_true] at h2
      subst h2
      have hml : (m.map rnC).flatten.length = m.length * 2 := by rw [flat_len _ (rnC_len m), List.length_map]
      have hll : (l.map rnC).flatten.length = l.length * 2 := by rw [flat_len _ (rnC_len l), List.length_map]
      have hkl : (k.map rnC).flatten.length = k.length * 2 := by rw [flat_len _ (rnC_len k), List.length_map]
      have hcl : cur.toList.length = cap * 2 := by rw [Array.length_toList]; exact hcs
      have hkm : k.length ≤ l.length + m.length := by have := hk.length_le; simpa using this
      refine ⟨⟨by rw [hkl, List.length_map], .inr ⟨g', cap', _, by rw [List.length_map], h1, setRow_heap w g' _ _ _ (0, 0) hg, by rw [List.length_map]; exact h3, by unfold maxLen; omega, ?_, ?_⟩⟩, rnC_len k⟩
      · simp only [List.size_toArray, List.length_append, List.length_take, List.length_drop, hcl, hml]
        omega
      · rw [List.length_map]
        apply List.ext_getElem?
        intro j
        rw [List.getElem?_take]
        by_cases hj : j < k.length * 2
        · rw [if_pos hj, flat_prefix hk hj, List.map_append, List.flatten_append, ht]
          have hA : ∀ Y : List Value, ((l.map rnC).flatten ++ Y)[j]? = if j < l.length * 2 then (l.map rnC).flatten[j]? else Y[j - l.length * 2]? := fun Y => by rw [List.getElem?_append, hll]
          rw [List.append_assoc, hA, hA]
          split
          · rfl
          · rw [List.getElem?_append_left (by rw [hml]; omega)]
        · rw [if_neg hj, List.getElem?_eq_none (by omega)]
  · exact OwnE.keep h hf (fun g' hg' e => hu (by rw [hg', show g' = g from e]))
theorem info_rn : ∃ i0, Try.prog.info? 68 = some i0 ∧ i0.zero = some (.agg #[.int .i64 0, .int .i64 0]) ∧ i0.size = 2 ∧ i0.bytes = 16 := by
  obtain ⟨i0, hi, hz0, hz1, hz2⟩ := info_parts infoRn
  exact ⟨i0, hi, hz0, hz1, hz2⟩
theorem run_append_rk {F : Nat → Prop} {z : Nat} (w : World) (ty : TypeId) (v x : Value) (l m : List Rn) (hown : OwnRn z w v l) (hx : RnsIn F w x m) (hz : z ≤ w.heap.size) (hn : l.length + m.length ≤ 1000000) :
    ∃ v' w', (Builtin.append_ #[24, 24] ty #[v, x]).run Try.prog w = .ok v' w' ∧ OwnRn z w' v' (l ++ m) ∧ Fr (fun k => v.ownBlock = some k) w w' ∧ ((∃ ao n, v = .slice ao n n) → Fr (fun _ => False) w w') ∧ (∀ u k, k <+: l ++ m → OwnRn z w u k → OwnRn z w' u k) ∧
      (∀ (g : Nat) (r : Rn), m = [r] → w.heap[g]? = some (.cells #[.int .i64 r.1, .int .i64 r.2] 68 (0, 0)) → w'.heap[g]? = some (.cells #[.int .i64 r.1, .int .i64 r.2] 68 (0, 0))) := by
  obtain ⟨i0, hi, hz0, hz1, hz2⟩ := info_rn
  by_cases hroom : ∃ g cap, v = .slice (some ⟨g, 0, none⟩) l.length cap ∧ l.length + m.length ≤ cap ∧ m ≠ []
  · obtain ⟨g, cap, rfl, hfit, hm⟩ := hroom
    rcases OwnRn.block hown with ⟨hv, _⟩ | ⟨g', cap', cur, hv, h1, h2, h3, h4, h5, h6⟩
    · cases hv
    · simp only [Value.slice.injEq, Option.some.injEq, Addr.mk.injEq, and_true, true_and] at hv
      obtain ⟨rfl, rfl⟩ := hv
      obtain ⟨ao, capx, rfl, hc1, hc2, _, h9⟩ := hx.1
      obtain ⟨b, off, rfl, hFb, hcell⟩ := h9 (by simpa using hm)
      rw [List.length_map] at hc1 ⊢
      have hml : (m.map rnC).flatten.length = m.length * 2 := by rw [flat_len _ (rnC_len m), List.length_map]
      have hnews : ∀ j u, (m.map rnC).flatten[j]? = some u → w.cell? ((⟨b, off, none⟩ : Addr).add j) = some u := fun j u hu => by
        have hj : j < m.length * 2 := by have := (List.getElem?_eq_some_iff.1 hu).1; omega
        have h8 := hcell (j / 2) (by rw [List.length_map]; omega) (j % 2) (by omega)
        rw [← flat_get _ (rnC_len m) (j / 2) (by rw [List.length_map]; omega) (j % 2) (by omega), show j / 2 * 2 + j % 2 = j by omega, hu, show off + j / 2 * 2 + j % 2 = off + j by omega] at h8
        rw [addr_plain]
        exact h8
      have hr := run_append_room (P := Try.prog) w 24 ty 68 i0 Try.underlying24 hi g l.length cap cur h2 ⟨b, off, none⟩ m.length capx (m.map rnC).flatten (by rw [hz1]; exact hml) hnews (fun u hu => by
        obtain ⟨c, hc, huc⟩ := List.mem_flatten.1 hu
        exact rnC_one c hc u huc) hfit (by rw [hz1, hml, h5]; omega)
      rw [hz1] at hr
      have hpre : ∀ u k, k <+: l ++ m → OwnRn z w u k → OwnRn z (w.setRow g (cur.toList.take (l.length * 2) ++ (m.map rnC).flatten ++ cur.toList.drop (l.length * 2 + (m.map rnC).flatten.length)).toArray) u k := fun u k hk h => h.over h2 h5 hfit h6 hk
      have hf : Fr (fun k => (Value.slice (some ⟨g, 0, none⟩) l.length cap).ownBlock = some k) w (w.setRow g (cur.toList.take (l.length * 2) ++ (m.map rnC).flatten ++ cur.toList.drop (l.length * 2 + (m.map rnC).flatten.length)).toArray) := (Fr.refl (fun k => (Value.slice (some ⟨g, 0, none⟩) l.length cap).ownBlock = some k) w).setRow (.inl rfl) _
      have hcl : cur.toList.length = cap * 2 := by rw [Array.length_toList]; exact h5
      have hll : (l.map rnC).flatten.length = l.length * 2 := by rw [flat_len _ (rnC_len l), List.length_map]
      refine ⟨_, _, hr, ⟨⟨by rw [flat_len _ (rnC_len _)], .inr ⟨g, cap, _, by rw [List.length_map, List.length_append], h1, setRow_heap w g _ _ _ (0, 0) h2, by rw [List.length_map, List.length_append]; exact hfit, by unfold maxLen; omega, ?_, ?_⟩⟩, rnC_len _⟩, hf, fun ⟨ao, n, e⟩ => ?_, hpre, fun g2 r hmr hg2 => ?_⟩
      · simp only [List.size_toArray, List.length_append, List.length_take, List.length_drop, hcl, hml]
        omega
      · rw [List.length_map, List.length_append, h6, List.map_append, List.flatten_append]
        have e : ((l.map rnC).flatten ++ (m.map rnC).flatten).length = (l.length + m.length) * 2 := by rw [List.length_append, hll, hml]; omega
        rw [← e]
        exact List.take_left
      · simp only [Value.slice.injEq] at e
        exact absurd (List.eq_nil_of_length_eq_zero (by omega)) hm
      · by_cases e : g2 = g
        · subst e
          rw [h2] at hg2
          simp only [Option.some.injEq, Obj.cells.injEq, and_true] at hg2
          subst hg2
          have hcap : cap = 1 := by simp at h5; omega
          have hl0 : l = [] := List.eq_nil_of_length_eq_zero (by rw [hmr] at hfit; simp at hfit; omega)
          rw [setRow_heap w g2 _ _ _ (0, 0) h2, hl0, hmr]
          simp [rnC]
        · exact hf.heap hg2 (fun h => e (by simp only [Value.ownBlock, Option.some.injEq] at h; exact h.symm))
  · have hgrown : ∀ w' : World, Fr (fun _ => False) w w' → (∀ u k, k <+: l ++ m → OwnRn z w u k → OwnRn z w' u k) ∧ (∀ (g : Nat) (r : Rn), m = [r] → w.heap[g]? = some (.cells #[.int .i64 r.1, .int .i64 r.2] 68 (0, 0)) → w'.heap[g]? = some (.cells #[.int .i64 r.1, .int .i64 r.2] 68 (0, 0))) := fun w' hf =>
      ⟨fun u k _ h => OwnE.keep h hf (fun _ _ h => h), fun g r _ h => hf.heap h id⟩
    have hnoc : ∀ (u : Value) (c : Nat) (b : Option Addr), True := fun _ _ _ => trivial
    obtain ⟨ao, capx, rfl, hc1, hc2, _, h9⟩ := hx.1
    rw [List.length_map] at hc1 ⊢
    by_cases hm : m = []
    · subst hm
      obtain ⟨a0, c0, hv, hl0⟩ : ∃ a0 c0, v = .slice a0 l.length c0 ∧ l.length ≤ c0 := by
        rcases OwnRn.block hown with ⟨hv, hl⟩ | ⟨g, cap, cur, hv, _, _, h3, _⟩
        · subst hl; exact ⟨none, 0, hv, Nat.le_refl _⟩
        · exact ⟨_, cap, hv, h3⟩
      have hsrc : Src Try.prog i0.size 24 (.slice ao 0 capx) 0 [] w := by
        cases ao with
        | none => exact Src.ofNil w Try.underlying24 capx
        | some a => exact Src.ofSlice w Try.underlying24 a 0 capx [] (by simp) (fun j u hu => by simp at hu) (fun _ h => by cases h)
      have hr := run_append_nothing (P := Try.prog) w 24 24 ty 68 i0 Try.underlying24 hi a0 l.length c0 hl0 (.slice ao 0 capx) hsrc
      refine ⟨_, _, by rw [hv]; exact hr, ?_, Fr.refl _ _, fun _ => Fr.refl _ _, (hgrown w (Fr.refl _ _)).1, (hgrown w (Fr.refl _ _)).2⟩
      rw [List.append_nil, ← hv]
      exact hown
    · obtain ⟨b, off, rfl, hFb, hcell⟩ := h9 (by simpa using hm)
      have hmp := List.length_pos_iff.2 hm
      have hml : (m.map rnC).flatten.length = m.length * 2 := by rw [flat_len _ (rnC_len m), List.length_map]
      have hll : (l.map rnC).flatten.length = l.length * 2 := by rw [flat_len _ (rnC_len l), List.length_map]
      have hnews : ∀ j u, (m.map rnC).flatten[j]? = some u → w.cell? ((⟨b, off, none⟩ : Addr).add j) = some u := fun j u hu => by
        have hj : j < m.length * 2 := by have := (List.getElem?_eq_some_iff.1 hu).1; omega
        have h8 := hcell (j / 2) (by rw [List.length_map]; omega) (j % 2) (by omega)
        rw [← flat_get _ (rnC_len m) (j / 2) (by rw [List.length_map]; omega) (j % 2) (by omega), show j / 2 * 2 + j % 2 = j by omega, hu, show off + j / 2 * 2 + j % 2 = off + j by omega] at h8
        rw [addr_plain]
        exact h8
      have key : ∀ (cs : Array Value) (cp : Nat), l.length + m.length ≤ cp → cp ≤ 9223372036854775807 → cs.size = cp * 2 → cs.toList.take ((l.length + m.length) * 2) = ((l ++ m).map rnC).flatten →
          OwnRn z (w.drew.alloc (.cells cs 68)) (.slice (some ⟨w.heap.size, 0, none⟩) (l.length + m.length) cp) (l ++ m) := fun cs cp h1 h2 h3 h4 =>
        ⟨⟨flat_len _ (rnC_len _), .inr ⟨w.heap.size, cp, cs, by rw [List.length_map, List.length_append], hz, heap_alloc_new w.drew _, by rw [List.length_map, List.length_append]; exact h1, by unfold maxLen; omega, h3, by rw [List.length_map, List.length_append]; exact h4⟩⟩, rnC_len _⟩
      have hfa : ∀ o : Obj, Fr (fun _ => False) w (w.drew.alloc o) := fun o => (Fr.refl _ w).drew.alloc o
      rcases OwnRn.block hown with ⟨rfl, rfl⟩ | ⟨g, cap, cur, rfl, _, h2, h3, h4, h5, h6⟩
      · have hge := grownCap_ge w m.length 0 68
        have hcm := grownCap_le_maxLen w m.length 0 68 (by unfold maxLen; omega)
        unfold maxLen at hcm
        have hr := run_append_nil (P := Try.prog) w 24 ty 68 i0 _ Try.underlying24 hi hz0 ⟨b, off, none⟩ m.length capx (m.map rnC).flatten (by rw [hz1]; exact hml) hnews hmp (by omega) (by rw [hz2]; omega)
        have hk := key ((m.map rnC).flatten.toArray ++ Builtin.zeroCells (Value.agg #[.int .i64 0, .int .i64 0]).cells (grownCap w m.length 0 68 - m.length)) (grownCap w m.length 0 68) (by simpa using hge) (by omega) (by
          rw [Array.size_append, List.size_toArray, hml, size_zeroCells]
          show m.length * 2 + (grownCap w m.length 0 68 - m.length) * 2 = _
          omega) (by
          simp only [List.length_nil, Nat.zero_add, List.nil_append, Array.toList_append]
          rw [← hml]
          exact List.take_left)
        simp only [List.length_nil, Nat.zero_add] at hk
        exact ⟨_, _, hr, hk, (hfa _).mono (fun _ _ h => h.elim), fun _ => hfa _, (hgrown _ (hfa _)).1, (hgrown _ (hfa _)).2⟩
      · have hnf : ¬ l.length + m.length ≤ cap := fun h => hroom ⟨g, cap, rfl, h, hm⟩
        have hge := grownCap_ge w (l.length + m.length) cap 68
        have hcm := grownCap_le_maxLen w (l.length + m.length) cap 68 (by unfold maxLen; omega)
        unfold maxLen at hcm
        have holds : ∀ j u, (l.map rnC).flatten[j]? = some u → w.cell? ((⟨g, 0, none⟩ : Addr).add j) = some u := (OwnE.row hown).cells (g := g) rfl
        have hr := run_append_grow (P := Try.prog) w 24 ty 68 i0 _ Try.underlying24 hi hz0 ⟨g, 0, none⟩ l.length cap (l.map rnC).flatten (by rw [hz1]; exact hll) holds ⟨b, off, none⟩ m.length capx (m.map rnC).flatten (by rw [hz1]; exact hml) hnews (by omega) (by omega) (growslice_fits (by omega) (by rw [hz2]; omega))
        have hk := key ((l.map rnC).flatten.toArray ++ (m.map rnC).flatten.toArray ++ Builtin.zeroCells (Value.agg #[.int .i64 0, .int .i64 0]).cells (grownCap w (l.length + m.length) cap 68 - (l.length + m.length))) (grownCap w (l.length + m.length) cap 68) hge (by omega) (by
          rw [Array.size_append, Array.size_append, List.size_toArray, List.size_toArray, hml, hll, size_zeroCells]
          show l.length * 2 + m.length * 2 + (grownCap w (l.length + m.length) cap 68 - (l.length + m.length)) * 2 = _
          omega) (by
          simp only [Array.toList_append, List.map_append, List.flatten_append]
          have e : ((l.map rnC).flatten ++ (m.map rnC).flatten).length = (l.length + m.length) * 2 := by rw [List.length_append, hll, hml]; omega
          rw [← e]
          exact List.take_left)
        exact ⟨_, _, hr, hk, (hfa _).mono (fun _ _ h => h.elim), fun _ => hfa _, (hgrown _ (hfa _)).1, (hgrown _ (hfa _)).2⟩
structure ExtB (z : Nat) (X : List Rn) (r : Rn) (b : Bool) (w w' : World) : Prop where
  own : ∀ u k, k <+: X → OwnRn z w u k → OwnRn z w' u k
  one : b = true → ∀ g : Nat, w.heap[g]? = some (.cells #[.int .i64 r.1, .int .i64 r.2] 68 (0, 0)) → w'.heap[g]? = some (.cells #[.int .i64 r.1, .int .i64 r.2] 68 (0, 0))
theorem ExtB.refl (z : Nat) (X : List Rn) (r : Rn) (b : Bool) (w : World) : ExtB z X r b w w := ⟨fun _ _ _ h => h, fun _ _ h => h⟩
theorem ExtB.quiet {z : Nat} {X : List Rn} {r : Rn} {b : Bool} {w w' : World} (h : Fr (fun _ => False) w w') : ExtB z X r b w w' := ⟨fun _ _ _ ho => OwnE.keep ho h (fun _ _ h => h), fun _ _ hg => h.heap hg id⟩
theorem wp_append_rk {F : Nat → Prop} {z : Nat} {w : World} {o : Oper} {a : Act} {K : Act → World → Prop} {Q : Exit → Act → World → Prop} (s x : Operand)
    (hop : o.op = Op.call { callee := Callee.builtin Builtin.append, args := #[s, x], argTypes := #[24, 24] })
    {v y : Value} {l m : List Rn} (hs : a.eval s = v) (hx : a.eval x = y) (hown : OwnRn z w v l) (he : RnsIn F w y m) (hz : z ≤ w.heap.size) (hn : l.length + m.length ≤ 1000000)
    (hK : ∀ v' w', OwnRn z w' v' (l ++ m) → Fr (fun k => v.ownBlock = some k) w w' → ((∃ ao n, v = .slice ao n n) → Fr (fun _ => False) w w') → (∀ u k, k <+: l ++ m → OwnRn z w u k → OwnRn z w' u k) → (∀ (g : Nat) (r : Rn), m = [r] → w.heap[g]? = some (.cells #[.int .i64 r.1, .int .i64 r.2] 68 (0, 0)) → w'.heap[g]? = some (.cells #[.int .i64 r.1, .int .i64 r.2] 68 (0, 0))) → K (a.put o.dst v') w') : o.wp Try.prog a w K Q := by
  obtain ⟨v', w', hr, r1, r2, r3, r4, r5⟩ := run_append_rk w o.type v y l m hown he hz hn
  refine wp_value_inv (w' := w') v' ?_ (hK v' w' r1 r2 r3 r4 r5)
  subst hs
  subst hx
  unfold execOp
  simp [hop, resolve, invoke, builtin, hr, Result.andThen]
end Go.Proofs.Ytcbbcihfooaggaa
