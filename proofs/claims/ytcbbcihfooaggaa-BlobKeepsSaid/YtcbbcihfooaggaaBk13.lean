/- Laid together: BRow1 BFits -/
import Derived.Test.YtcbbcihfooaggaaBk12
import Derived.Test.YtcbbcihfooaggaaBk0
import Derived.Deep.AppendSrc
import Derived.Deep.Upon
import Derived.Test.YtcbbcihfooaggaaBk9
import Derived.Test.YtcbbcihfooaggaaBk5

namespace Go.Proofs.Ytcbbcihfooaggaa
open Go.RowKit Go.ChangeShapes
set_option linter.unusedVariables false
def Row1 (z : Nat) (w : World) (v : Value) (xs : List Value) : Prop :=
  (v = .slice none 0 0 ∧ xs = []) ∨ ∃ g cap, v = .slice (some ⟨g, 0, none⟩) xs.length cap ∧ z ≤ g ∧ g < w.heap.size ∧ xs.length ≤ cap ∧ cap ≤ maxLen ∧
    (∀ j, j < xs.length → w.cell? ⟨g, j, none⟩ = xs[j]?) ∧ ∀ j, j < cap → (w.cell? ⟨g, j, none⟩).isSome = true ∧ w.frozen? ⟨g, j, none⟩ = false
theorem Row1.nil (z : Nat) (w : World) : Row1 z w (.slice none 0 0) [] := .inl ⟨rfl, rfl⟩
theorem Row1.own {z : Nat} {w : World} {v : Value} {xs : List Value} (h : Row1 z w v xs) (g : Nat) (hg : v.ownBlock = some g) : z ≤ g ∧ g < w.heap.size := by
  rcases h with ⟨rfl, _⟩ | ⟨g', cap, rfl, h1, h2, _⟩
  · simp [Value.ownBlock] at hg
  · simp only [Value.ownBlock, Option.some.injEq] at hg
    exact hg ▸ ⟨h1, h2⟩
theorem Row1.form {z : Nat} {w : World} {v : Value} {xs : List Value} (h : Row1 z w v xs) : ∃ ao c, v = .slice ao xs.length c ∧ xs.length ≤ c ∧ c ≤ maxLen ∧ (0 < xs.length → ∃ g, ao = some ⟨g, 0, none⟩) := by
  rcases h with ⟨rfl, rfl⟩ | ⟨g', cap, rfl, _, _, h3, h4, _⟩
  · exact ⟨none, 0, rfl, Nat.le_refl _, by decide, fun h => by simp at h⟩
  · exact ⟨_, _, rfl, h3, h4, fun _ => ⟨_, rfl⟩⟩
theorem Row1.keep {S : Nat → Prop} {z : Nat} {w w' : World} {v : Value} {xs : List Value} (h : Row1 z w v xs) (hf : Fr S w w') (hd : ∀ g, v.ownBlock = some g → ¬ S g) : Row1 z w' v xs := by
  rcases h with e | ⟨g, cap, rfl, h1, h2, h3, h4, h5, h6⟩
  · exact .inl e
  · have hb := hf.block g h2 (hd g rfl)
    refine .inr ⟨g, cap, rfl, h1, Nat.lt_of_lt_of_le h2 hf.size, h3, h4, fun j hj => ?_, fun j hj => ?_⟩
    · rw [World.cell?_of_block (a := ⟨g, j, none⟩) hb]; exact h5 j hj
    · rw [World.cell?_of_block (a := ⟨g, j, none⟩) hb, World.frozen?_of_block (a := ⟨g, j, none⟩) hb]; exact h6 j hj
theorem Row1.elems {z : Nat} {w : World} {v : Value} {xs : List Value} (h : Row1 z w v xs) : Elems 1 (fun b => v.ownBlock = some b) w v (xs.map fun x => [x]) := by
  rcases h with ⟨rfl, rfl⟩ | ⟨g, cap, rfl, h1, h2, h3, h4, h5, h6⟩
  · exact Elems.nil _ _ _
  · unfold maxLen at h4
    refine ⟨_, cap, by rw [List.length_map], by rw [List.length_map]; exact h3, by omega, fun c hc => by obtain ⟨_, _, rfl⟩ := List.mem_map.1 hc; rfl, fun _ => ⟨g, 0, rfl, rfl, fun i hi j hj => ?_⟩⟩
    rw [List.length_map] at hi
    obtain rfl : j = 0 := by omega
    rw [show 0 + i * 1 + 0 = i by omega, h5 i hi, List.getElem?_eq_getElem hi]
    simp
theorem Row1.cut {z : Nat} {w : World} {ao : Option Addr} {n c : Nat} {xs : List Value} (h : Row1 z w (.slice ao n c) xs) (k : Nat) (hk : k ≤ xs.length) : Row1 z w (.slice ao k k) (xs.take k) := by
  rcases h with ⟨e, rfl⟩ | ⟨g, cap, e, h1, h2, h3, h4, h5, h6⟩
  · simp only [Value.slice.injEq] at e
    obtain ⟨rfl, -, -⟩ := e
    obtain rfl : k = 0 := by simpa using hk
    exact .inl ⟨rfl, by simp⟩
  · simp only [Value.slice.injEq] at e
    obtain ⟨rfl, -, rfl⟩ := e
    have hl : (xs.take k).length = k := by rw [List.length_take]; omega
    refine .inr ⟨g, k, by rw [hl], h1, h2, by omega, by omega, fun j hj => ?_, fun j hj => h6 j (by omega)⟩
    rw [hl] at hj
    rw [h5 j (by omega), List.getElem?_take_of_lt hj]
theorem Fr.setCells {S : Nat → Prop} (g : Nat) (hg : S g) : ∀ (vs : List Value) (o : Nat) (w : World), Fr S w (w.setCells g o vs)
  | [], _, w => Fr.refl _ w
  | v :: vs, o, w => (Fr.setCell (p := ⟨g, o, none⟩) (Fr.refl S w) (.inl hg) v).trans (Fr.setCells g hg vs (o + 1) _) (fun _ h => .inl h)
theorem Elems.cutLow {F : Nat → Prop} {w : World} {ao : Option Addr} {l cap : Nat} {css : List (List Value)} (h : Elems 1 F w (.slice ao l cap) css) (n : Nat) (hn : n ≤ css.length) :
    Elems 1 F w (.slice (cutLow ao n cap) (l - n) (cap - n)) (css.drop n) := by
  obtain ⟨ao', cap', hv, h1, h2, h3, h4⟩ := h
  simp only [Value.slice.injEq] at hv
  obtain ⟨rfl, rfl, rfl⟩ := hv
  unfold Ytcbbcihfooaggaa.cutLow
  refine ⟨_, cap - n, by rw [List.length_drop], by rw [List.length_drop]; omega, by omega, fun c hc => h3 c (List.mem_of_mem_drop hc), fun hl => ?_⟩
  have hlt : n < css.length := by
    rcases Nat.lt_or_ge n css.length with h | h
    · exact h
    · exact absurd (List.drop_eq_nil_of_le h) hl
  obtain ⟨b, off, rfl, hF, hi⟩ := h4 (fun e => by rw [e] at hlt; simp at hlt)
  rw [if_neg (by omega)]
  refine ⟨b, off + n, by simp [Addr.add], hF, fun i h j hj => ?_⟩
  rw [List.length_drop] at h
  rw [show off + n + i * 1 + j = off + (n + i) * 1 + j by omega, hi (n + i) (by omega) j hj]
  simp
theorem Elems.open1 {F : Nat → Prop} {w : World} {v : Value} {xs : List Value} (h : Elems 1 F w v (xs.map fun x => [x])) : ∃ ao cap, v = .slice ao xs.length cap ∧ xs.length ≤ cap ∧ cap ≤ 9223372036854775807 ∧
    ∃ b off, (0 < xs.length → ao = some ⟨b, off, none⟩ ∧ F b) ∧ ∀ i (h : i < xs.length), w.cell? ⟨b, off + i, none⟩ = some xs[i] := by
  obtain ⟨ao, cap, hv, h1, h2, h3, h4⟩ := h
  rw [List.length_map] at hv h1
  refine ⟨ao, cap, hv, h1, h2, ?_⟩
  by_cases hl : xs = []
  · subst hl
    exact ⟨0, 0, fun h => by simp at h, fun i h => by simp at h⟩
  · obtain ⟨b, off, ha, hF, hi⟩ := h4 (by simpa using hl)
    refine ⟨b, off, fun _ => ⟨ha, hF⟩, fun i h => ?_⟩
    have g0 := hi i (by rw [List.length_map]; exact h) 0 (by decide)
    rw [List.getElem_map, show off + i * 1 + 0 = off + i by omega] at g0
    exact g0
structure RowT (T : TypeId) (z : Nat) (w : World) (v : Value) (xs : List Value) : Prop where
  row : Row1 z w v xs
  ty : ∀ g, v.ownBlock = some g → ∃ cur, w.heap[g]? = some (.cells cur T (0, 0))
theorem RowT.keep {S : Nat → Prop} {T : TypeId} {z : Nat} {w w' : World} {v : Value} {xs : List Value} (h : RowT T z w v xs) (hf : Fr S w w') (hd : ∀ g, v.ownBlock = some g → ¬ S g) : RowT T z w' v xs :=
  ⟨h.row.keep hf hd, fun g hg => by obtain ⟨cur, hc⟩ := h.ty g hg; exact ⟨cur, hf.heap hc (hd g hg)⟩⟩
theorem RowT.cut {T : TypeId} {z : Nat} {w : World} {ao : Option Addr} {n c : Nat} {xs : List Value} (h : RowT T z w (.slice ao n c) xs) (k : Nat) (hk : k ≤ xs.length) : RowT T z w (.slice ao k k) (xs.take k) := ⟨h.row.cut k hk, fun g hg => h.ty g (by cases ao <;> exact hg)⟩
theorem RowT.apart {T U : TypeId} {z y : Nat} {w : World} {v u : Value} {xs ys : List Value} (h : RowT T z w v xs) (h' : RowT U y w u ys) (hTU : T ≠ U) (g : Nat) (hg : v.ownBlock = some g) : u.ownBlock ≠ some g := fun e => by
  obtain ⟨c, hc⟩ := h.ty g hg
  obtain ⟨d, hd⟩ := h'.ty g e
  rw [hc] at hd
  simp only [Option.some.injEq, Obj.cells.injEq] at hd
  exact hTU hd.2.1
theorem setCells_ty {w : World} {g : Nat} {T : TypeId} : ∀ {cur : Array Value}, w.heap[g]? = some (.cells cur T (0, 0)) → ∀ (vs : List Value) (o : Nat), ∃ cur', (w.setCells g o vs).heap[g]? = some (.cells cur' T (0, 0)) := by
  intro cur h vs
  induction vs generalizing w cur with
  | nil => exact fun o => ⟨cur, h⟩
  | cons v vs ih => exact fun o => ih (cell_put v h) (o + 1)
theorem RowT.over {T : TypeId} {z : Nat} {w : World} {g n : Nat} {ys : List Value} (hsome : ∀ j, j < ys.length → (w.cell? ⟨g, n + j, none⟩).isSome = true) {u : Value} {zs : List Value} (h : RowT T z w u zs) (hz : ∀ j, n ≤ j → j < n + ys.length → j < zs.length → zs[j]? = ys[j - n]?) : RowT T z (w.setCells g n ys) u zs := by
  have hf := Fr.setCells (S := fun k => k = g) g rfl ys n w
  by_cases hu : u.ownBlock = some g
  · refine ⟨?_, fun g' hg' => ?_⟩
    · rcases h.row with e | ⟨g', cap, rfl, h1, h2, h3, h4, h5, h6⟩
      · exact .inl e
      · simp only [Value.ownBlock, Option.some.injEq] at hu
        subst hu
        refine .inr ⟨g', cap, rfl, h1, Nat.lt_of_lt_of_le h2 hf.size, h3, h4, fun j hj => ?_, fun j hj => ⟨?_, (World.frozen?_setCells g' _ _ _ _).trans (h6 j hj).2⟩⟩
        · by_cases hin : n ≤ j ∧ j < n + ys.length
          · have := World.cell?_setCells_in g' ys n w hsome (j - n) (by omega)
            rw [show n + (j - n) = j by omega] at this
            rw [this, hz j hin.1 hin.2 hj, List.getElem?_eq_getElem (by omega)]
          · rw [World.cell?_setCells_out g' _ _ _ _ (fun _ _ => by show j < n ∨ n + ys.length ≤ j; omega)]
            exact h5 j hj
        · by_cases hin : n ≤ j ∧ j < n + ys.length
          · have := World.cell?_setCells_in g' ys n w hsome (j - n) (by omega)
            rw [show n + (j - n) = j by omega] at this
            rw [this]; rfl
          · rw [World.cell?_setCells_out g' _ _ _ _ (fun _ _ => by show j < n ∨ n + ys.length ≤ j; omega)]
            exact (h6 j hj).1
    · obtain ⟨cur, hc⟩ := h.ty g' hg'
      rw [hu] at hg'
      obtain rfl := Option.some.inj hg'
      exact setCells_ty hc ys n
  · exact h.keep hf (fun g' hg' e => hu (by rw [hg', show g' = g from e]))
theorem run_append_t {T ST : TypeId} {bs : Nat} {zv : Value} (hu : Try.prog.underlying ST = some (.slice T)) (hinf : (Try.prog.info? T).map (fun i => (i.zero, i.size, i.bytes)) = some (some zv, 1, bs)) (hzs : zv.cells.size = 1) (hbs : bs ≤ 100)
    {F : Nat → Prop} {z : Nat} (w : World) (ty : TypeId) (v x : Value) (xs ys : List Value) (hown : RowT T z w v xs) (hx : Elems 1 F w x (ys.map fun y => [y])) (h1 : ∀ u ∈ ys, u.oneCell' = true) (hz : z ≤ w.heap.size) (hn : xs.length + ys.length ≤ 1000000) :
    ∃ v' w', (Builtin.append_ #[ST, ST] ty #[v, x]).run Try.prog w = .ok v' w' ∧ RowT T z w' v' (xs ++ ys) ∧ Fr (fun k => v.ownBlock = some k) w w' ∧ ((∃ ao n, v = .slice ao n n) → Fr (fun _ => False) w w') ∧ (∀ u zs, (zs = xs ∨ zs = xs ++ ys) → RowT T z w u zs → RowT T z w' u zs) ∧ (v'.ownBlock = v.ownBlock ∨ v'.ownBlock = some w.heap.size) := by
  obtain ⟨i0, hi, hz0, hz1, hz2⟩ := info_parts hinf
  have hsrc : Src Try.prog i0.size ST x ys.length ys w := by
    obtain ⟨ao, cap, rfl, hc1, hc2, h3, h4⟩ := hx
    rw [List.length_map] at hc1 ⊢
    rw [hz1]
    by_cases he : ys = []
    · subst he
      cases ao with
      | none => exact Src.ofNil w hu cap
      | some a => exact Src.ofSlice w hu a 0 cap [] rfl (fun j u hu => by simp at hu) h1
    · obtain ⟨b, off, rfl, hF, hcell⟩ := h4 (by simpa using he)
      refine Src.ofSlice w hu ⟨b, off, none⟩ ys.length cap ys (by simp) (fun j u hju => ?_) h1
      have hj : j < ys.length := (List.getElem?_eq_some_iff.1 hju).1
      have h5 := hcell j (by rw [List.length_map]; exact hj) 0 (by decide)
      rw [addr_plain]
      rw [List.getElem_map, show off + j * 1 + 0 = off + j by omega] at h5
      rw [h5]
      have : ys[j] = u := (List.getElem?_eq_some_iff.1 hju).2
      simp [this]
  have hml : maxLen = 9223372036854775807 := rfl
  have hmb : ∀ n, n ≤ 1000000 → n * i0.bytes ≤ 140737488355328 := fun n hn => by rw [hz2]; exact Nat.le_trans (Nat.mul_le_mul hn hbs) (by decide)
  have hfb : ∀ (o : Obj), Fr (fun _ => False) w (w.drew.alloc o) := fun o => (Fr.refl _ w).drew.alloc o
  have hfa : ∀ (o : Obj), Fr (fun k => v.ownBlock = some k) w (w.drew.alloc o) := fun o => (Fr.refl _ w).drew.alloc o
  have grow : ∀ (bs' : Option Addr) (sc : Nat), v = .slice bs' xs.length sc → sc < xs.length + ys.length → (Builtin.firstCells i0.size xs.length (.slice bs' xs.length sc)).run Try.prog w.drew = .ok xs.toArray w.drew →
      ∃ v' w', (Builtin.append_ #[ST, ST] ty #[v, x]).run Try.prog w = .ok v' w' ∧ RowT T z w' v' (xs ++ ys) ∧ Fr (fun k => v.ownBlock = some k) w w' ∧ ((∃ ao n, v = .slice ao n n) → Fr (fun _ => False) w w') ∧ (∀ u zs, (zs = xs ∨ zs = xs ++ ys) → RowT T z w u zs → RowT T z w' u zs) ∧ (v'.ownBlock = v.ownBlock ∨ v'.ownBlock = some w.heap.size) := by
    intro bs' sc hv hg hold
    have hrun := run_append_grow_src (P := Try.prog) w ST ST ty T i0 zv hu hi hz0 bs' xs.length sc xs hold x ys.length ys hsrc hg (by omega) (growslice_fits hg (hmb _ hn))
    have hge := grownCap_ge w (xs.length + ys.length) sc T
    have hcm := grownCap_le_maxLen w (xs.length + ys.length) sc T (by omega)
    rw [← hv] at hrun
    refine ⟨_, _, hrun, ⟨.inr ⟨w.heap.size, _, by rw [List.length_append], hz, ?_, by rw [List.length_append]; exact hge, hcm, fun j hj => ?_, fun j hj => ⟨?_, World.frozen?_alloc_new w.drew _ _ j⟩⟩, fun g hg => ?_⟩, hfa _, fun _ => hfb _, fun u zs _ h => h.keep (hfb _) (fun _ _ h => h), .inr rfl⟩
    · exact lt_of_block (heap_alloc_new w.drew _)
    · have e1 : (w.drew.alloc (.cells ((xs ++ ys).toArray ++ Builtin.zeroCells zv.cells (grownCap w (xs.length + ys.length) sc T - (xs.length + ys.length))) T)).cell? ⟨w.heap.size, j, none⟩ = _ := World.cell?_alloc_new w.drew _ _ j
      rw [e1, Array.getElem?_append_left (by simpa using hj), List.getElem?_toArray]
    · have e1 : (w.drew.alloc (.cells ((xs ++ ys).toArray ++ Builtin.zeroCells zv.cells (grownCap w (xs.length + ys.length) sc T - (xs.length + ys.length))) T)).cell? ⟨w.heap.size, j, none⟩ = _ := World.cell?_alloc_new w.drew _ _ j
      rw [e1]
      have hsz : ((xs ++ ys).toArray ++ Builtin.zeroCells zv.cells (grownCap w (xs.length + ys.length) sc T - (xs.length + ys.length))).size = grownCap w (xs.length + ys.length) sc T := by
        rw [Array.size_append, List.size_toArray, List.length_append, size_zeroCells, hzs, Nat.mul_one]
        omega
      rw [Array.getElem?_eq_getElem (by rw [hsz]; exact hj)]
      rfl
    · simp only [Value.ownBlock, Option.some.injEq] at hg
      rw [← hg]
      exact ⟨_, heap_alloc_new w.drew _⟩
  obtain ⟨hown, hty⟩ := hown
  rcases hown with ⟨rfl, rfl⟩ | ⟨g, cap, rfl, g1, g2, g3, g4, g5, g6⟩
  · by_cases he : ys = []
    · subst he
      exact ⟨_, _, run_append_nothing (P := Try.prog) w ST ST ty T i0 hu hi none 0 0 (Nat.le_refl _) x hsrc, ⟨.inl ⟨rfl, rfl⟩, hty⟩, Fr.refl _ _, fun _ => Fr.refl _ _, fun _ _ _ h => h, .inl rfl⟩
    · exact grow none 0 rfl (by have := List.length_pos_iff.2 he; simp; omega) (run_firstCells_none w.drew i0.size 0 0 0)
  · by_cases hfit : xs.length + ys.length ≤ cap
    · have hsome : ∀ j, j < ys.length → (w.cell? ⟨g, 0 + xs.length * i0.size + j, none⟩).isSome = true := fun j hj => by rw [hz1]; exact (g6 _ (by omega)).1
      have hrun := run_append_room_src (P := Try.prog) w ST ST ty T i0 hu hi g 0 xs.length cap x ys.length ys hsrc hfit hsome (fun j hj => by rw [hz1]; exact (g6 _ (by omega)).2)
      rw [hz1, Nat.mul_one, Nat.zero_add] at hrun hsome
      refine ⟨_, _, hrun, ⟨.inr ⟨g, cap, by rw [List.length_append], g1, ?_, by rw [List.length_append]; exact hfit, g4, fun j hj => ?_, fun j hj => ⟨?_, (World.frozen?_setCells g _ _ _ _).trans (g6 j hj).2⟩⟩, fun g' hg' => ?_⟩, Fr.setCells (S := fun k => (Value.slice (some ⟨g, 0, none⟩) xs.length cap).ownBlock = some k) g rfl ys xs.length w, fun ⟨ao, n, e⟩ => ?_, fun u zs hzs h => h.over hsome (fun j j1 j2 j3 => ?_), .inl rfl⟩
      · have := (Fr.setCells (S := fun k => k = g) g rfl ys xs.length w).size
        omega
      · rw [List.length_append] at hj
        by_cases hjo : j < xs.length
        · rw [World.cell?_setCells_out g _ _ _ _ (fun _ _ => Or.inl (by show j < xs.length; omega)), List.getElem?_append_left hjo]
          exact g5 j hjo
        · have := World.cell?_setCells_in g ys xs.length w hsome (j - xs.length) (by omega)
          rw [show xs.length + (j - xs.length) = j by omega] at this
          rw [this, List.getElem?_append_right (by omega), List.getElem?_eq_getElem (by omega)]
      · by_cases hin : xs.length ≤ j ∧ j < xs.length + ys.length
        · have := World.cell?_setCells_in g ys xs.length w hsome (j - xs.length) (by omega)
          rw [show xs.length + (j - xs.length) = j by omega] at this
          rw [this]; rfl
        · rw [World.cell?_setCells_out g _ _ _ _ (fun _ _ => by show j < xs.length ∨ xs.length + ys.length ≤ j; omega)]
          exact (g6 j hj).1
      · obtain ⟨cur, hcur⟩ := hty g' hg'
        simp only [Value.ownBlock, Option.some.injEq] at hg'
        subst hg'
        exact setCells_ty hcur ys _
      · simp only [Value.slice.injEq] at e
        obtain rfl : ys = [] := List.eq_nil_of_length_eq_zero (by omega)
        exact Fr.refl _ _
      · rcases hzs with rfl | rfl
        · omega
        · rw [List.getElem?_append_right j1]
    · refine grow (some ⟨g, 0, none⟩) cap rfl (by omega) ?_
      refine run_firstCells_some w.drew i0.size xs.length ⟨g, 0, none⟩ xs.length cap xs (by rw [hz1, Nat.mul_one]) (fun j u hju => ?_)
      have hj : j < xs.length := (List.getElem?_eq_some_iff.1 hju).1
      rw [Addr.add_lit, Nat.zero_add]
      exact (g5 j hj).trans hju
theorem wpList_append_t {T ST : TypeId} {bs : Nat} {zv : Value} (hu : Try.prog.underlying ST = some (.slice T)) (hinf : (Try.prog.info? T).map (fun i => (i.zero, i.size, i.bytes)) = some (some zv, 1, bs)) (hzs : zv.cells.size = 1) (hbs : bs ≤ 100)
    {F : Nat → Prop} {z : Nat} (w : World) {ops : Array Oper} {rest : List Oper} {o : Oper} {a : Act} {Q : Exit → Act → World → Prop} (hgd : o.guard = none) (s x : Operand)
    (hop : o.op = Op.call { callee := Callee.builtin Builtin.append, args := #[s, x], argTypes := #[ST, ST] })
    (v y : Value) (xs ys : List Value) (hs : a.eval s = v) (hx : a.eval x = y) (hown : RowT T z w v xs) (he : Elems 1 F w y (ys.map fun y => [y])) (h1 : ∀ u ∈ ys, u.oneCell' = true) (hz : z ≤ w.heap.size) (hn : xs.length + ys.length ≤ 1000000)
    (hK : ∀ v' w', RowT T z w' v' (xs ++ ys) → Fr (fun k => v.ownBlock = some k) w w' → ((∃ ao n, v = .slice ao n n) → Fr (fun _ => False) w w') → (∀ u zs, (zs = xs ∨ zs = xs ++ ys) → RowT T z w u zs → RowT T z w' u zs) → (v'.ownBlock = v.ownBlock ∨ v'.ownBlock = some w.heap.size) → wpList Try.prog ops Q rest (a.put o.dst v') w') : wpList Try.prog ops Q (o :: rest) a w := by
  refine wpList_plain hgd fun K hK' => ?_
  subst hs
  subst hx
  obtain ⟨v', w', hr, r1, r2, r4, r5, r3⟩ := run_append_t hu hinf hzs hbs w o.type _ _ xs ys hown he h1 hz hn
  unfold Oper.wp
  simp [execOp, hop, resolve, invoke, builtin, hr, Result.andThen]
  exact hK' _ _ (hK v' w' r1 r2 r4 r5 r3)
theorem infoB1 : (Try.prog.info? 40).map (fun i => (i.zero, i.size, i.bytes)) = some (some (.slice none 0 0), 1, 24) := by kernel_rfl
theorem infoR1 : (Try.prog.info? 24).map (fun i => (i.zero, i.size, i.bytes)) = some (some (.slice none 0 0), 1, 24) := by kernel_rfl
theorem run_cutB8 (w : World) (ao : Option Addr) (l cap n : Nat) (hn : n ≤ l) :
    (Instr.sliceAt 69 (.slice ao l cap) (some (.int .i64 (n : Int))) none none).run Try.prog w = .ok (.slice (cutLow ao n cap) (l - n) (cap - n)) w := by
  have hs : ∀ w, (sizeOf 40).run Try.prog w = .ok 1 w := fun w => by kernel_rfl
  simp [Instr.sliceAt, Instr.slice, run_underlying Try.underlying69, Instr.sliceBounds, run_sliceBound, hs, cutLow, hn]
theorem run_cutR8 (w : World) (ao : Option Addr) (l cap n : Nat) (hn : n ≤ l) :
    (Instr.sliceAt 71 (.slice ao l cap) (some (.int .i64 (n : Int))) none none).run Try.prog w = .ok (.slice (cutLow ao n cap) (l - n) (cap - n)) w := by
  have hs : ∀ w, (sizeOf 24).run Try.prog w = .ok 1 w := fun w => by kernel_rfl
  simp [Instr.sliceAt, Instr.slice, run_underlying Try.underlying71, Instr.sliceBounds, run_sliceBound, hs, cutLow, hn]
theorem run_headB8 (w : World) (ao : Option Addr) (l cap k : Nat) (hk : k ≤ cap) :
    (Instr.sliceAt 69 (.slice ao l cap) none (some (.int .i64 (k : Int))) (some (.int .i64 (k : Int)))).run Try.prog w = .ok (.slice ao k k) w := by
  have hs : ∀ w, (sizeOf 40).run Try.prog w = .ok 1 w := fun w => by kernel_rfl
  cases ao <;> simp [Instr.sliceAt, Instr.slice, run_underlying Try.underlying69, Instr.sliceBounds, run_sliceBound, hs, hk, Addr.add]
theorem run_headR8 (w : World) (ao : Option Addr) (l cap k : Nat) (hk : k ≤ cap) :
    (Instr.sliceAt 71 (.slice ao l cap) none (some (.int .i64 (k : Int))) (some (.int .i64 (k : Int)))).run Try.prog w = .ok (.slice ao k k) w := by
  have hs : ∀ w, (sizeOf 24).run Try.prog w = .ok 1 w := fun w => by kernel_rfl
  cases ao <;> simp [Instr.sliceAt, Instr.slice, run_underlying Try.underlying71, Instr.sliceBounds, run_sliceBound, hs, hk, Addr.add]
end Go.Proofs.Ytcbbcihfooaggaa
namespace Go.Proofs.Ytcbbcihfooaggaa
open Go.RowKit Go.ChangeShapes
set_option linter.unusedVariables false
def fit7 (s : Nat) (L A D many : Int) (l : List Rn) : Int := if many < 0 ∨ ap7 L A D l = false then 2 else if ((secs7 l).length : Int) ≠ need7 many ∨ (s : Int) < secsS L A D then 2 else 0
set_option maxRecDepth 100000 in
theorem lFirst_any (w : World) (l la d s : Nat) (h : ShOk l la d s) :
    Calls Try.prog 49 #[.agg #[.int .i64 l, .int .i64 la, .int .i64 d]] w fun e w' => e = .returned (.int .i64 ((1 + l + 2 * la : Nat) : Int)) ∧ Fr (fun _ => False) w w' := by
  obtain ⟨W1, hW1⟩ : ∃ W1, W1 = w.alloc (.cells #[.int .i64 l, .int .i64 la, .int .i64 d] 23) := ⟨_, rfl⟩
  have hsum := h.sum
  have hmost := h.most
  have HRI := Lib.hid (h.right W1)
  have HDA := Lib.hid (fun W => lData_any W l la d (by omega) (by omega))
  have hsh : W1.heap[w.heap.size]? = some (.cells #[.int .i64 l, .int .i64 la, .int .i64 d] 23 (0, 0)) := by rw [hW1]; exact heap_alloc_new w _
  have HX := Lib.hid (And.intro hsh (show Fr (fun _ => False) w W1 by rw [hW1]; exact (Fr.refl _ _).alloc _))
  have HW := Lib.hid hW1
  clear hW1 hsh h
  go_enter Try.func49, Try.ntmps49
  go_wp2_with (first
    | (go_at_call 35; rw [← HW.out]; refine HRI.out.mono ?_; rintro e w1 ⟨rfl, hf1⟩; (obtain ⟨s0, s1, s2⟩ := row3_cells (hf1.heap HX.out.1 id)); (have H1 := Lib.hid hf1); clear hf1)
    | (go_at_call 63; refine (HDA.out w1).mono ?_; rintro e w2 ⟨rfl, hf2⟩; (have H2 := Lib.hid (H1.out.trans hf2 (fun _ h => h.elim))); clear hf2))
  go_ret
  exact ⟨rfl, HX.out.2.trans H2.out (fun _ h => h.elim)⟩
set_option maxRecDepth 100000 in
set_option maxHeartbeats 1000000 in
theorem fits_any {D F : Nat → Prop} (w : World) (g s : Nat) (dv : Dv) (L A Dt many : Int) (v : Value) (l : List Rn) (h : DevAt w D g s dv) (hs1 : 1 ≤ s) (hs2 : s ≤ 8192) (hm1 : -9223372036854775808 ≤ many) (hm2 : many ≤ 9223372036854775807) (hL : RnsIn F w v l) (hF : ∀ k, F k → k < w.heap.size) :
    Calls Try.prog 48 #[.pointer (some ⟨g, 0, none⟩), .agg #[.int .i64 L, .int .i64 A, .int .i64 Dt], .int .i64 many, v] w fun e w' => e = .returned (.int .i64 (fit7 s L A Dt many l)) ∧ Fr (fun _ => False) w w' := by
  obtain ⟨r, hr⟩ : ∃ r, r = fit7 s L A Dt many l := ⟨_, rfl⟩
  rw [← hr]
  obtain ⟨W1, hW1⟩ : ∃ W1, W1 = w.alloc (.cells #[.int .i64 L, .int .i64 A, .int .i64 Dt] 23) := ⟨_, rfl⟩
  have hf1 : Fr (fun _ => False) w W1 := by rw [hW1]; exact (Fr.refl _ _).alloc _
  have hrow : W1.heap[w.heap.size]? = some (.cells #[.int .i64 L, .int .i64 A, .int .i64 Dt] 23 (0, 0)) := by rw [hW1]; exact heap_alloc_new w _
  have hL1 := (hL.mono (G := fun k => F k ∧ k < w.heap.size) (fun k hk hF => ⟨hF, hk⟩)).quiet hf1
  have hd1 := h.keep hf1 (fun _ _ _ h => h)
  have HST := Lib.hid (aStat W1 g s dv hd1)
  have hs0 : ((s : Int) == 0) = false := by rw [beq_eq_false_iff_ne]; omega
  have hfd : ∀ W : World, (Instr.field 63 (.agg #[.int .i64 s, .int .i64 dv.waits.length, .int .i64 dv.deeds, .bool dv.down]) 0).run Try.prog W = .ok (.int .i64 s) W := fun W => by kernel_rfl
  have HX := Lib.hid (And.intro hf1 (And.intro hrow hL1))
  have HW := Lib.hid hW1
  have HSH := Lib.hid (fun (W : World) (hW : Fr (fun _ => False) W1 W) => row3_cells (hW.heap HX.out.2.1 id))
  have HAP := Lib.hid (fun (W : World) (hW : Fr (fun _ => False) W1 W) => bApart_any W L A Dt v l (HX.out.2.2.quiet hW) (fun k hk => by have := hk.2; have := HX.out.1.size; have := hW.size; omega))
  have HRR := Lib.hid hr
  clear hW1 hf1 hrow hL1 hd1 h hL hF hr
  by_cases hm0 : many < 0
  · obtain rfl : r = 2 := by rw [HRR.out]; unfold fit7; rw [if_pos (.inl hm0)]
    have d1 : decide (many < 0) = true := by rw [decide_eq_true_iff]; exact hm0
    go_enter Try.func48, Try.ntmps48
    go_wp2_with (go_at_call 32; rw [← HW.out]; refine HST.out.mono ?_; rintro e w2 ⟨rfl, hf⟩; (obtain ⟨s0, s1, s2⟩ := HSH.out w2 hf); (have H2 := Lib.hid hf); clear hf)
    go_ret
    exact ⟨rfl, HX.out.1.trans H2.out (fun _ h => h.elim)⟩
  · have d1 : decide (many < 0) = false := by rw [decide_eq_false_iff_not]; exact hm0
    cases hap : ap7 L A Dt l with
    | false =>
      obtain rfl : r = 2 := by rw [HRR.out]; unfold fit7; rw [if_pos (.inr hap)]
      rw [hap] at HAP
      clear hap
      go_enter Try.func48, Try.ntmps48
      go_wp2_with (first
        | (go_at_call 32; rw [← HW.out]; refine HST.out.mono ?_; rintro e w2 ⟨rfl, hf⟩; (obtain ⟨s0, s1, s2⟩ := HSH.out w2 hf); (have H2 := Lib.hid hf); clear hf)
        | (go_at_call 16; refine (HAP.out w2 H2.out).mono ?_; rintro e w3 ⟨rfl, hf⟩; (have H3 := Lib.hid (H2.out.trans hf (fun _ h => h.elim))); clear hf))
      go_ret
      exact ⟨rfl, HX.out.1.trans H3.out (fun _ h => h.elim)⟩
    | true =>
      obtain ⟨l0, la, d, s0', rfl, rfl, rfl, hs, hap0⟩ := ap7_open hap
      rw [hap] at HAP
      have hd : d ≤ 8192 := by have := hs.sum; have := hs.most; omega
      have hS : secsS (l0 : Int) la d = s0' := by
        unfold secsS
        rw [if_pos (by unfold ap7 at hap; rw [Bool.and_eq_true] at hap; exact hap.1), hs.sum]
        push_cast
        rfl
      have hr2 : r = if ((secs7 l).length : Int) ≠ need7 many ∨ (s : Int) < s0' then 2 else 0 := by
        rw [HRR.out]
        unfold fit7
        rw [if_neg (by rw [hap]; simp; omega), hS]
      have HCN := Lib.hid (fun (W : World) (hW : Fr (fun _ => False) W1 W) => count_any W v l (HX.out.2.2.quiet hW) hd hap0)
      have HN := Lib.hid (fun W => bNeed_any W many hm1 hm2)
      have HSC := Lib.hid (fun W => lSectors_any W l0 la d s0' hs)
      obtain ⟨c, hc⟩ : ∃ c, c = (secs7 l).length := ⟨_, rfl⟩
      obtain ⟨nd, hnd⟩ : ∃ nd, nd = need7 many := ⟨_, rfl⟩
      rw [← hc] at HCN hr2
      rw [← hnd] at HN hr2
      clear hap hap0 hs hS hc hnd HRR
      by_cases hcn : (c : Int) = nd
      · have e1 : ((c : Int) != nd) = false := by rw [bne_eq_false_iff_eq]; exact hcn
        by_cases hlt : (s : Int) < s0'
        · obtain rfl : r = 2 := by rw [hr2, if_pos (.inr hlt)]
          clear hr2
          have d2 : decide ((s : Int) < (s0' : Int)) = true := by rw [decide_eq_true_iff]; exact hlt
          go_enter Try.func48, Try.ntmps48
          go_wp2_with (first
            | (go_at_call 32; rw [← HW.out]; refine HST.out.mono ?_; rintro e w2 ⟨rfl, hf⟩; (obtain ⟨s0, s1, s2⟩ := HSH.out w2 hf); (have H2 := Lib.hid hf); clear hf)
            | (go_at_call 16; refine (HAP.out w2 H2.out).mono ?_; rintro e w3 ⟨rfl, hf⟩; (have H3 := Lib.hid (H2.out.trans hf (fun _ h => h.elim))); clear hf)
            | (go_at_call 41; refine (HCN.out w3 H3.out).mono ?_; rintro e w4 ⟨rfl, hf⟩; (obtain ⟨s0, s1, s2⟩ := HSH.out w4 (H3.out.trans hf (fun _ h => h.elim))); (have H4 := Lib.hid (H3.out.trans hf (fun _ h => h.elim))); clear hf)
            | (go_at_call 14; refine (HN.out w4).mono ?_; rintro e w5 ⟨rfl, hww⟩; (obtain rfl := hww.symm))
            | (go_at_call 36; refine (HSC.out w4).mono ?_; rintro e w6 ⟨rfl, hf⟩; (have H6 := Lib.hid (H4.out.trans hf (fun _ h => h.elim))); clear hf))
          go_ret
          exact ⟨rfl, HX.out.1.trans H6.out (fun _ h => h.elim)⟩
        · obtain rfl : r = 0 := by rw [hr2, if_neg (by intro h; rcases h with h | h; exact h hcn; exact hlt h)]
          clear hr2
          have d2 : decide ((s : Int) < (s0' : Int)) = false := by rw [decide_eq_false_iff_not]; exact hlt
          go_enter Try.func48, Try.ntmps48
          go_wp2_with (first
            | (go_at_call 32; rw [← HW.out]; refine HST.out.mono ?_; rintro e w2 ⟨rfl, hf⟩; (obtain ⟨s0, s1, s2⟩ := HSH.out w2 hf); (have H2 := Lib.hid hf); clear hf)
            | (go_at_call 16; refine (HAP.out w2 H2.out).mono ?_; rintro e w3 ⟨rfl, hf⟩; (have H3 := Lib.hid (H2.out.trans hf (fun _ h => h.elim))); clear hf)
            | (go_at_call 41; refine (HCN.out w3 H3.out).mono ?_; rintro e w4 ⟨rfl, hf⟩; (obtain ⟨s0, s1, s2⟩ := HSH.out w4 (H3.out.trans hf (fun _ h => h.elim))); (have H4 := Lib.hid (H3.out.trans hf (fun _ h => h.elim))); clear hf)
            | (go_at_call 14; refine (HN.out w4).mono ?_; rintro e w5 ⟨rfl, hww⟩; (obtain rfl := hww.symm))
            | (go_at_call 36; refine (HSC.out w4).mono ?_; rintro e w6 ⟨rfl, hf⟩; (have H6 := Lib.hid (H4.out.trans hf (fun _ h => h.elim))); clear hf))
          go_ret
          exact ⟨rfl, HX.out.1.trans H6.out (fun _ h => h.elim)⟩
      · have e1 : ((c : Int) != nd) = true := by rw [bne_iff_ne]; exact hcn
        obtain rfl : r = 2 := by rw [hr2, if_pos (.inl hcn)]
        clear hr2
        go_enter Try.func48, Try.ntmps48
        go_wp2_with (first
          | (go_at_call 32; rw [← HW.out]; refine HST.out.mono ?_; rintro e w2 ⟨rfl, hf⟩; (obtain ⟨s0, s1, s2⟩ := HSH.out w2 hf); (have H2 := Lib.hid hf); clear hf)
          | (go_at_call 16; refine (HAP.out w2 H2.out).mono ?_; rintro e w3 ⟨rfl, hf⟩; (have H3 := Lib.hid (H2.out.trans hf (fun _ h => h.elim))); clear hf)
          | (go_at_call 41; refine (HCN.out w3 H3.out).mono ?_; rintro e w4 ⟨rfl, hf⟩; (have H4 := Lib.hid (H3.out.trans hf (fun _ h => h.elim))); clear hf)
          | (go_at_call 14; refine (HN.out w4).mono ?_; rintro e w5 ⟨rfl, hww⟩; (obtain rfl := hww.symm)))
        go_ret
        exact ⟨rfl, HX.out.1.trans H4.out (fun _ h => h.elim)⟩
end Go.Proofs.Ytcbbcihfooaggaa
