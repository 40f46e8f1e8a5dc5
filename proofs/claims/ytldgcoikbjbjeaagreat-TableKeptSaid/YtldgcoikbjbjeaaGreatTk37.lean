/- Laid together: TTurnP -/
import Derived.Test.YtldgcoikbjbjeaaGreatTk36
import Derived.Test.YtldgcoikbjbjeaaGreatTk3
import Derived.Test.YtldgcoikbjbjeaaGreatTk14
import Derived.Test.YtldgcoikbjbjeaaGreatTk30
import Derived.Deep.RegionHeldLaw

namespace Go.Proofs.YtldgcoikbjbjeaaGreat
open Go.RowKit Go.ChangeShapes
set_option linter.unusedVariables false
theorem op_append_t {T ST : TypeId} {bs : Nat} {zv : Value} (hu : Tryz.prog.underlying ST = some (.slice T)) (hinf : (Tryz.prog.info? T).map (fun i => (i.zero, i.size, i.bytes)) = some (some zv, 1, bs)) (hzs : zv.cells.size = 1) (hbs : bs ≤ 100)
    {F : Nat → Prop} {z : Nat} {w : World} {o : Oper} {a : Act} {s x : Operand}
    (hop : o.op = Op.call { callee := Callee.builtin Builtin.append, args := #[s, x], argTypes := #[ST, ST] })
    {v y : Value} {xs ys : List Value} (hs : a.eval s = v) (hx : a.eval x = y) (hown : RowT T z w v xs) (he : Elems 1 F w y (ys.map fun y => [y])) (h1 : ∀ u ∈ ys, u.oneCell' = true) (hz : z ≤ w.heap.size) (hn : xs.length + ys.length ≤ 1000000) :
    ∃ v' w', (execOp a.eval o).run Tryz.prog w = .ok (.value v') w' ∧ RowT T z w' v' (xs ++ ys) ∧ Fr (fun k => v.ownBlock = some k) w w' ∧ ((∃ ao n, v = .slice ao n n) → Fr (fun _ => False) w w') ∧ (∀ u zs, (zs = xs ∨ zs = xs ++ ys) → RowT T z w u zs → RowT T z w' u zs) := by
  obtain ⟨v', w', hr, r1, r2, r3, r4, _⟩ := run_append_t hu hinf hzs hbs w o.type v y xs ys hown he h1 hz hn
  refine ⟨v', w', ?_, r1, r2, r3, r4⟩
  subst hs
  subst hx
  unfold execOp
  simp [hop, resolve, invoke, builtin, hr, Result.andThen]
theorem wp_append_t {T ST : TypeId} {bs : Nat} {zv : Value} (hu : Tryz.prog.underlying ST = some (.slice T)) (hinf : (Tryz.prog.info? T).map (fun i => (i.zero, i.size, i.bytes)) = some (some zv, 1, bs)) (hzs : zv.cells.size = 1) (hbs : bs ≤ 100)
    {F : Nat → Prop} {z : Nat} {w : World} {o : Oper} {a : Act} {K : Act → World → Prop} {Q : Exit → Act → World → Prop} (s x : Operand)
    (hop : o.op = Op.call { callee := Callee.builtin Builtin.append, args := #[s, x], argTypes := #[ST, ST] })
    {v y : Value} {xs ys : List Value} (hs : a.eval s = v) (hx : a.eval x = y) (hown : RowT T z w v xs) (he : Elems 1 F w y (ys.map fun y => [y])) (h1 : ∀ u ∈ ys, u.oneCell' = true) (hz : z ≤ w.heap.size) (hn : xs.length + ys.length ≤ 1000000)
    (hK : ∀ v' w', RowT T z w' v' (xs ++ ys) → Fr (fun k => v.ownBlock = some k) w w' → ((∃ ao n, v = .slice ao n n) → Fr (fun _ => False) w w') → K (a.put o.dst v') w') : o.wp Tryz.prog a w K Q := by
  obtain ⟨v', w', hr, r1, r2, r3, _⟩ := op_append_t hu hinf hzs hbs hop hs hx hown he h1 hz hn
  exact wp_value_inv v' hr (hK v' w' r1 r2 r3)
theorem wp_append_o {T ST : TypeId} {bs : Nat} {zv : Value} (hu : Tryz.prog.underlying ST = some (.slice T)) (hinf : (Tryz.prog.info? T).map (fun i => (i.zero, i.size, i.bytes)) = some (some zv, 1, bs)) (hzs : zv.cells.size = 1) (hbs : bs ≤ 100)
    {F : Nat → Prop} {z : Nat} {w : World} {o : Oper} {a : Act} {K : Act → World → Prop} {Q : Exit → Act → World → Prop} (s x : Operand)
    (hop : o.op = Op.call { callee := Callee.builtin Builtin.append, args := #[s, x], argTypes := #[ST, ST] })
    {v y : Value} {xs ys : List Value} (hs : a.eval s = v) (hx : a.eval x = y) (hown : RowT T z w v xs) (he : Elems 1 F w y (ys.map fun y => [y])) (h1 : ∀ u ∈ ys, u.oneCell' = true) (hz : z ≤ w.heap.size) (hn : xs.length + ys.length ≤ 1000000)
    (hK : ∀ v' w', RowT T z w' v' (xs ++ ys) → Fr (fun k => v.ownBlock = some k) w w' → (∀ u zs, (zs = xs ∨ zs = xs ++ ys) → RowT T z w u zs → RowT T z w' u zs) → K (a.put o.dst v') w') : o.wp Tryz.prog a w K Q := by
  obtain ⟨v', w', hr, r1, r2, _, r3⟩ := op_append_t hu hinf hzs hbs hop hs hx hown he h1 hz hn
  exact wp_value_inv v' hr (hK v' w' r1 r2 r3)
theorem run_allocV (w : World) : (Instr.alloc 40 true (.tuple #[])).run Tryz.prog w = .ok (.pointer (some ⟨w.heap.size, 0, none⟩)) (w.alloc (.cells #[.slice none 0 0, .slice none 0 0] 40)) := by kernel_rfl
theorem op_allocV {w : World} {o : Oper} {a : Act} (ho : o.op = .alloc 40) : (execOp a.eval o).run Tryz.prog w = .ok (.value (.pointer (some ⟨w.heap.size, 0, none⟩))) (w.alloc (.cells #[.slice none 0 0, .slice none 0 0] 40)) := by
  unfold execOp
  rw [ho]
  simp only [Sem.run_bind, run_allocV, Result.andThen_ok]
  rfl
theorem run_buildV (w : World) (a b : Option Addr) (n m c d : Nat) : (Instr.build 40 #[(0, .slice a n c), (1, .slice b m d)]).run Tryz.prog w = .ok (.agg #[.slice a n c, .slice b m d]) w := run_build w _ _ _ (by kernel_rfl)
theorem op_buildV {w : World} {o : Oper} {a : Act} {x y : Operand} {p q : Option Addr} {n m c d : Nat} (ho : o.op = .build 40 #[(0, x), (1, y)]) (hx : a.eval x = .slice p n c) (hy : a.eval y = .slice q m d) : (execOp a.eval o).run Tryz.prog w = .ok (.value (.agg #[.slice p n c, .slice q m d])) w := by
  unfold execOp
  rw [ho]
  simp only [List.map_toArray, List.map_cons, List.map_nil, hx, hy, Sem.run_bind, run_buildV, Result.andThen_ok]
  rfl
theorem run_noneS (w : World) : (Instr.buildSlice 37 0 #[]).run Tryz.prog w = .ok (.slice (some ⟨w.heap.size, 0, none⟩) 0 0) (w.alloc (.cells #[] 9)) := by kernel_rfl
theorem run_noneB (w : World) : (Instr.buildSlice 38 0 #[]).run Tryz.prog w = .ok (.slice (some ⟨w.heap.size, 0, none⟩) 0 0) (w.alloc (.cells #[] 43)) := by kernel_rfl
theorem RowT.empty (T : TypeId) (z : Nat) (w : World) (hz : z ≤ w.heap.size) : RowT T z (w.alloc (.cells #[] T)) (.slice (some ⟨w.heap.size, 0, Option.none⟩) 0 0) [] :=
  ⟨.inr ⟨w.heap.size, 0, rfl, hz, lt_of_block (heap_alloc_new w _), Nat.le_refl _, by decide, fun j hj => by simp at hj, fun j hj => by omega⟩, fun g hg => by
    simp only [Value.ownBlock, Option.some.injEq] at hg
    rw [← hg]
    exact ⟨_, heap_alloc_new w _⟩⟩
structure VsOut (D : Nat → Prop) (z : Nat) (w : World) (gc : Nat) (kv vv : Value) (l : List RowD) : Prop where
  box : w.heap[gc]? = some (.cells #[kv, vv] 40 (0, 0))
  low : z ≤ gc
  kr : RowT 9 z w kv (keyV l)
  vr : RowT 43 z w vv (valV l)
  bytes : ∀ p ∈ l, BytesIn D w p.x p.B
theorem valV_one {D : Nat → Prop} {w : World} {l : List RowD} (h : ∀ p ∈ l, BytesIn D w p.x p.B) : ∀ u ∈ valV l, u.oneCell' = true := by
  intro u hu
  obtain ⟨p, hp, rfl⟩ := List.mem_map.1 hu
  obtain ⟨ao, cap, e, _⟩ := h p hp
  rw [e]
  rfl
theorem keyV_one (l : List RowD) : ∀ u ∈ keyV l, u.oneCell' = true := by
  intro u hu
  obtain ⟨p, hp, rfl⟩ := List.mem_map.1 hu
  rfl
theorem VsOut.key_ne {D : Nat → Prop} {z gc : Nat} {w : World} {kv vv : Value} {l : List RowD} (h : VsOut D z w gc kv vv l) : kv.ownBlock ≠ some gc ∧ vv.ownBlock ≠ some gc ∧ ∀ g, kv.ownBlock = some g → vv.ownBlock ≠ some g := by
  refine ⟨fun e => ?_, fun e => ?_, fun g hg => h.kr.apart h.vr (by decide) g hg⟩
  · obtain ⟨c, hc⟩ := h.kr.ty gc e
    rw [h.box] at hc
    simp only [Option.some.injEq, Obj.cells.injEq] at hc
    exact absurd hc.2.1 (by decide)
  · obtain ⟨c, hc⟩ := h.vr.ty gc e
    rw [h.box] at hc
    simp only [Option.some.injEq, Obj.cells.injEq] at hc
    exact absurd hc.2.1 (by decide)
theorem VsOut.keep {D S : Nat → Prop} {z gc : Nat} {w w' : World} {kv vv : Value} {l : List RowD} (h : VsOut D z w gc kv vv l) (hf : Fr S w w') (hS : ∀ k, k < w.heap.size → z ≤ k → ¬ S k) (hD : ∀ k, k < w.heap.size → D k → ¬ S k) : VsOut D z w' gc kv vv l :=
  ⟨hf.heap h.box (hS _ (lt_of_block h.box) h.low), h.low, h.kr.keep hf (fun g hg => hS g (h.kr.row.own g hg).2 (h.kr.row.own g hg).1), h.vr.keep hf (fun g hg => hS g (h.vr.row.own g hg).2 (h.vr.row.own g hg).1), fun p hp => (h.bytes p hp).keep hf hD⟩
theorem VsOut.vs {D : Nat → Prop} {z gc : Nat} {w : World} {kv vv : Value} {l : List RowD} (h : VsOut D z w gc kv vv l) : VsIn (fun k => D k ∨ (z ≤ k ∧ k < w.heap.size)) w kv vv l :=
  ⟨h.kr.row.elems.mono (by decide) (fun b _ hb => .inr (h.kr.row.own b hb)), h.vr.row.elems.mono (by decide) (fun b _ hb => .inr (h.vr.row.own b hb)), fun p hp => (h.bytes p hp).mono (fun _ _ h => .inl h)⟩
theorem VsOut.putK {D : Nat → Prop} {z gc : Nat} {w w' : World} {kv kv' vv : Value} {l : List RowD} {ks : List Value} (h : VsOut D z w gc kv vv l) (hf : Fr (fun k => kv.ownBlock = some k) w w') (hD : ∀ k, D k → k < z) (hr : RowT 9 z w' kv' ks) :
    (w'.setCell ⟨gc, 0, none⟩ kv').heap[gc]? = some (.cells #[kv', vv] 40 (0, 0)) ∧ RowT 9 z (w'.setCell ⟨gc, 0, none⟩ kv') kv' ks ∧ RowT 43 z (w'.setCell ⟨gc, 0, none⟩ kv') vv (valV l) ∧ (∀ p ∈ l, BytesIn D (w'.setCell ⟨gc, 0, none⟩ kv') p.x p.B) ∧ (∀ S : Nat → Prop, ∀ w0, Fr S w0 w → w0.heap.size ≤ z → Fr S w0 (w'.setCell ⟨gc, 0, none⟩ kv')) := by
  obtain ⟨n1, n2, n3⟩ := h.key_ne
  have hb : w'.heap[gc]? = some (.cells #[kv, vv] 40 (0, 0)) := hf.heap h.box n1
  have hg := Fr.cell1 w' gc 0 kv'
  have hkg : kv'.ownBlock ≠ some gc := fun e => by
    obtain ⟨c, hc⟩ := hr.ty gc e
    rw [hb] at hc
    simp only [Option.some.injEq, Obj.cells.injEq] at hc
    exact absurd hc.2.1 (by decide)
  refine ⟨cell_put _ hb, hr.keep hg (fun g hg e => hkg (e ▸ hg)), (h.vr.keep hf (fun g hg e => n3 g e hg)).keep hg (fun g hg e => n2 (e ▸ hg)), fun p hp => ((h.bytes p hp).keep hf (fun k _ hk e => by have := hD k hk; have := (h.kr.row.own k e).1; omega)).keep hg (fun k _ hk e => by have := hD k hk; have := h.low; have e2 : k = gc := e; omega), fun S w0 h0 hz => (h0.trans hf (fun k e => .inr (by have := (h.kr.row.own k e).1; omega))).trans hg (fun k e => .inr (by have := h.low; have e2 : k = gc := e; omega))⟩
theorem VsOut.putV {D : Nat → Prop} {z gc : Nat} {w w' : World} {kv vv vv' : Value} {l : List RowD} {ks vs : List Value} (hbox : w.heap[gc]? = some (.cells #[kv, vv] 40 (0, 0))) (hlow : z ≤ gc) (hk : RowT 9 z w kv ks) (hv : RowT 43 z w vv vs) (hby : ∀ p ∈ l, BytesIn D w p.x p.B) (hf : Fr (fun k => vv.ownBlock = some k) w w') (hD : ∀ k, D k → k < z) (hr : RowT 43 z w' vv' (valV l)) (hks : ks = keyV l) :
    VsOut D z (w'.setCell ⟨gc, 1, none⟩ vv') gc kv vv' l ∧ (∀ S : Nat → Prop, ∀ w0, Fr S w0 w → w0.heap.size ≤ z → Fr S w0 (w'.setCell ⟨gc, 1, none⟩ vv')) := by
  subst hks
  have hty : ∀ (W : World) (T : TypeId) (v : Value) (zs : List Value), RowT T z W v zs → W.heap[gc]? = some (.cells #[kv, vv] 40 (0, 0)) → T ≠ 40 → v.ownBlock ≠ some gc := fun W T v zs hr hb hT e => by
    obtain ⟨c, hc⟩ := hr.ty gc e
    rw [hb] at hc
    simp only [Option.some.injEq, Obj.cells.injEq] at hc
    exact hT hc.2.1.symm
  have n1 := hty _ _ _ _ hk hbox (by decide)
  have n2 := hty _ _ _ _ hv hbox (by decide)
  have hb : w'.heap[gc]? = some (.cells #[kv, vv] 40 (0, 0)) := hf.heap hbox n2
  have n3 := hty _ _ _ _ hr hb (by decide)
  have hg := Fr.cell1 w' gc 1 vv'
  refine ⟨⟨cell_put _ hb, hlow, (hk.keep hf (fun g hg e => hk.apart hv (by decide) g hg e)).keep hg (fun g hg e => n1 (e ▸ hg)), hr.keep hg (fun g hg e => n3 (e ▸ hg)), fun p hp => ((hby p hp).keep hf (fun k _ hk e => by have := hD k hk; have := (hv.row.own k e).1; omega)).keep hg (fun k _ hk e => by have := hD k hk; have e2 : k = gc := e; omega)⟩, fun S w0 h0 hz => (h0.trans hf (fun k e => .inr (by have := (hv.row.own k e).1; omega))).trans hg (fun k e => .inr (by have e2 : k = gc := e; omega))⟩
theorem Row1.put {z : Nat} {w : World} {g n c : Nat} {xs : List Value} (h : Row1 z w (.slice (some ⟨g, 0, none⟩) n c) xs) (k : Nat) (hk : k < xs.length) (y : Value) : Row1 z (w.setCell ⟨g, k, none⟩ y) (.slice (some ⟨g, 0, none⟩) n c) (xs.set k y) := by
  rcases h with ⟨e, _⟩ | ⟨g', cap, e, h1, h2, h3, h4, h5, h6⟩
  · cases e
  · simp only [Value.slice.injEq, Option.some.injEq, Addr.mk.injEq, and_true] at e
    obtain ⟨rfl, rfl, rfl⟩ := e
    have hs := (Fr.cell1 w g k y).size
    obtain ⟨u, hu⟩ := Option.isSome_iff_exists.1 (h6 k (by omega)).1
    refine .inr ⟨g, c, by rw [List.length_set], h1, by omega, by rw [List.length_set]; exact h3, h4, fun j hj => ?_, fun j hj => ⟨?_, ?_⟩⟩
    · rw [List.length_set] at hj
      by_cases e : j = k
      · subst e
        rw [World.cell?_setCell_same _ _ _ hu, List.getElem?_set_self hj]
      · rw [World.cell?_setCell_other _ _ _ _ (fun e' => e (congrArg Addr.off e').symm), List.getElem?_set_ne (by omega)]
        exact h5 j hj
    · by_cases e : j = k
      · subst e
        rw [World.cell?_setCell_same _ _ _ hu]
        rfl
      · rw [World.cell?_setCell_other _ _ _ _ (fun e' => e (congrArg Addr.off e').symm)]
        exact (h6 j hj).1
    · rw [World.frozen?_setCell]
      exact (h6 j hj).2
theorem RowT.put {T : TypeId} {z : Nat} {w : World} {g n c : Nat} {xs : List Value} (h : RowT T z w (.slice (some ⟨g, 0, none⟩) n c) xs) (k : Nat) (hk : k < xs.length) (y : Value) : RowT T z (w.setCell ⟨g, k, none⟩ y) (.slice (some ⟨g, 0, none⟩) n c) (xs.set k y) :=
  ⟨h.row.put k hk y, fun g' hg' => by
    simp only [Value.ownBlock, Option.some.injEq] at hg'
    subst hg'
    obtain ⟨cur, hc⟩ := h.ty g rfl
    exact ⟨_, cell_put y hc⟩⟩
theorem row_split (l : List RowD) (k : Nat) (hk : k < l.length) : l.map RowD.row = (l.take k).map RowD.row ++ l[k].row :: (l.drop (k + 1)).map RowD.row := (congrArg (List.map RowD.row) (split_at l k hk)).trans (by rw [List.map_append, List.map_cons])
theorem rep_del {l : List RowD} {M : Tab} {key : ByteArray} (h : TRep (l.map RowD.row) M) (k : Nat) (hk : k < l.length) (hkey : l[k].key = key) : TRep ((l.take k ++ l.drop (k + 1)).map RowD.row) (tDo M (key.data.toList, none)) := by
  rw [row_split l k hk] at h
  have := h.del
  rw [List.map_append, ← hkey]
  exact this
theorem rep_set {l : List RowD} {M : Tab} {key : ByteArray} (h : TRep (l.map RowD.row) M) (k : Nat) (hk : k < l.length) (hkey : l[k].key = key) (x : Value) (B : List UInt8) : TRep ((l.set k (⟨key, x, B⟩ : RowD)).map RowD.row) (tDo M (key.data.toList, some B)) := by
  rw [row_split l k hk] at h
  have := h.set B
  rw [List.set_eq_take_append_cons_drop, if_pos hk, List.map_append, List.map_cons, ← hkey]
  exact this
theorem rep_add {l : List RowD} {M : Tab} {key : ByteArray} (h : TRep (l.map RowD.row) M) (hn : fnd l key = none) (x : Value) (B : List UInt8) : TRep ((l ++ [(⟨key, x, B⟩ : RowD)]).map RowD.row) (tDo M (key.data.toList, some B)) := by
  rw [List.map_append]
  exact h.add _ _ (fnd_not hn)
theorem rep_not {l : List RowD} {M : Tab} {key : ByteArray} (h : TRep (l.map RowD.row) M) (hn : fnd l key = none) : TRep (l.map RowD.row) (tDo M (key.data.toList, none)) := by
  have e : tDo M (key.data.toList, none) = M := tDel_none (by rw [← h.get]; exact fnd_not hn)
  rw [e]
  exact h
theorem keyV_set {l : List RowD} {key : ByteArray} (k : Nat) (hk : k < l.length) (hkey : l[k].key = key) (x : Value) (B : List UInt8) : keyV (l.set k ⟨key, x, B⟩) = keyV l := by
  unfold keyV
  rw [List.map_set]
  apply List.ext_getElem?
  intro j
  by_cases e : k = j
  · subst e
    rw [List.getElem?_set_self (by rw [List.length_map]; exact hk), List.getElem?_map, List.getElem?_eq_getElem hk]
    simp [hkey]
  · rw [List.getElem?_set_ne e]
theorem VsOut.putE {D : Nat → Prop} {z gc gv n c n' c' : Nat} {w : World} {ak : Option Addr} {l : List RowD} (h : VsOut D z w gc (.slice ak n c) (.slice (some ⟨gv, 0, none⟩) n' c') l) (k : Nat) (hk : k < l.length) (key : ByteArray) (hkey : l[k].key = key) (x : Value) (B : List UInt8) (hx : BytesIn D w x B) (hD : ∀ k, D k → k < z) :
    VsOut D z (w.setCell ⟨gv, k, none⟩ x) gc (.slice ak n c) (.slice (some ⟨gv, 0, none⟩) n' c') (l.set k (⟨key, x, B⟩ : RowD)) ∧ (∀ S : Nat → Prop, ∀ w0, Fr S w0 w → w0.heap.size ≤ z → Fr S w0 (w.setCell ⟨gv, k, none⟩ x)) := by
  obtain ⟨n1, n2, n3⟩ := h.key_ne
  have hg := Fr.cell1 w gv k x
  have hzv := (h.vr.row.own gv rfl).1
  have hne : gc ≠ gv := fun e => n2 (by rw [e]; rfl)
  refine ⟨⟨hg.heap h.box hne, h.low, ?_, ?_, fun p hp => ?_⟩, fun S w0 h0 hz => h0.trans hg (fun k e => .inr (by have e2 : k = gv := e; omega))⟩
  · rw [keyV_set k hk hkey]
    exact h.kr.keep hg (fun g hg' e => n3 g hg' (by rw [show g = gv from e]; rfl))
  · have e : valV (l.set k (⟨key, x, B⟩ : RowD)) = (valV l).set k x := by simp [valV, List.map_set]
    rw [e]
    exact h.vr.put k (by simpa [valV] using hk) x
  · have hb : BytesIn D w p.x p.B := by
      rcases List.mem_or_eq_of_mem_set hp with hp | rfl
      · exact h.bytes p hp
      · exact hx
    exact hb.keep hg (fun k _ hk e => by have := hD k hk; have e2 : k = gv := e; omega)
theorem op_slice_hm {t : TypeId} {w : World} {o : Oper} {a : Act} {x hi mx : Operand} {vx vh vm v : Value} (ho : o.op = .slice t x none (some hi) (some mx)) (hx : a.eval x = vx) (hh : a.eval hi = vh) (hm : a.eval mx = vm) (hr : (Instr.sliceAt t vx none (some vh) (some vm)).run Tryz.prog w = .ok v w) : (execOp a.eval o).run Tryz.prog w = .ok (.value v) w := by
  unfold execOp
  rw [ho]
  simp only [hx, hh, hm, Option.map_some, Option.map_none, Sem.run_bind, hr, Result.andThen_ok]
  rfl
theorem at_S (w : World) (x : Value) (lo hi mx : Option Value) : (Instr.sliceAt 37 x lo hi mx).run Tryz.prog w = (Instr.slice 37 x lo hi mx).run Tryz.prog w := by
  rw [run_sliceAt_slice]
  kernel_rfl
theorem at_B (w : World) (x : Value) (lo hi mx : Option Value) : (Instr.sliceAt 38 x lo hi mx).run Tryz.prog w = (Instr.slice 38 x lo hi mx).run Tryz.prog w := by
  rw [run_sliceAt_slice]
  kernel_rfl
theorem add1_i64 (w : World) (k : Nat) (h : IntKind.i64.wrap ((k : Int) + 1) = (k : Int) + 1) : (binOp .add 3 (.int .i64 (k : Nat)) (.int .i64 1)).run Tryz.prog w = .ok (.int .i64 ((k : Int) + 1)) w := by
  simp [h, go_sem]
structure BO (T : TypeId) (z : Nat) (w4 : World) (v : Value) (ks : List Value) (W : World) : Prop where
  fr : Fr (fun q => v.ownBlock = some q) w4 W
  row : RowT T z W v ks
structure ExtO (T : TypeId) (z : Nat) (v : Value) (zs : List Value) (W W' : World) : Prop where
  fr : Fr (fun q => v.ownBlock = some q) W W'
  row : ∀ u, RowT T z W u zs → RowT T z W' u zs
theorem ExtO.refl (T : TypeId) (z : Nat) (v : Value) (zs : List Value) (W : World) : ExtO T z v zs W W := ⟨Fr.refl _ _, fun _ h => h⟩
theorem ExtO.of {T : TypeId} {z : Nat} {v : Value} {zs : List Value} {W W' : World} (h : Fr (fun _ => False) W W') : ExtO T z v zs W W' := ⟨h.mono (fun _ _ h => h.elim), fun _ hu => hu.keep h (fun _ _ h => h)⟩
theorem BO.ext {T : TypeId} {z : Nat} {w4 : World} {v : Value} {ks : List Value} {W W' : World} (hB : BO T z w4 v ks W) (h : Fr (fun _ => False) W W') : BO T z w4 v ks W' := ⟨hB.fr.trans h (fun _ h => h.elim), hB.row.keep h (fun _ _ h => h)⟩
theorem run_index_ch6 (w : World) (b off n cap i : Nat) (h : i < n) : (Instr.indexAt 42 (.slice (some ⟨b, off, none⟩) n cap) (.int .i64 i)).run Tryz.prog w = .ok (.pointer (some ⟨b, off + i * 3, none⟩)) w := by
  simp [Instr.indexAt, h, Addr.add, asIntOf]
theorem fld_ch0 (w : World) (b o : Nat) : (Instr.fieldAt 53 (.pointer (some ⟨b, o, none⟩)) 0).run Tryz.prog w = .ok (.pointer (some ⟨b, o, none⟩)) w := by kernel_rfl
theorem fld_ch1 (w : World) (b o : Nat) : (Instr.fieldAt 53 (.pointer (some ⟨b, o, none⟩)) 1).run Tryz.prog w = .ok (.pointer (some ⟨b, o + 1, none⟩)) w := by kernel_rfl
theorem made_str1 (w : World) (x : ByteArray) : (Instr.buildSlice 37 1 #[(0, .string x)]).run Tryz.prog w = .ok (.slice (some ⟨w.heap.size, 0, none⟩) 1 1) (w.alloc (.cells #[.string x] 9)) := by kernel_rfl
theorem made_bs1 (w : World) (a : Option Addr) (n c : Nat) : (Instr.buildSlice 38 1 #[(0, .slice a n c)]).run Tryz.prog w = .ok (.slice (some ⟨w.heap.size, 0, none⟩) 1 1) (w.alloc (.cells #[.slice a n c] 43)) := by kernel_rfl
structure VsOwn (D : Nat → Prop) (z : Nat) (w : World) (kv vv : Value) (l : List RowD) : Prop where
  kr : RowT 9 z w kv (keyV l)
  vr : RowT 43 z w vv (valV l)
  bytes : ∀ p ∈ l, BytesIn D w p.x p.B
theorem RowT.mono {T : TypeId} {z y : Nat} {w : World} {v : Value} {xs : List Value} (h : RowT T z w v xs) (hy : y ≤ z) : RowT T y w v xs := ⟨by
  rcases h.row with e | ⟨g, cap, e, h1, r⟩
  · exact .inl e
  · exact .inr ⟨g, cap, e, by omega, r⟩, h.ty⟩
theorem RowT.nil (T : TypeId) (z : Nat) (w : World) : RowT T z w (.slice Option.none 0 0) [] := ⟨Row1.nil z w, fun g hg => by simp [Value.ownBlock] at hg⟩
theorem RowT.not {T U : TypeId} {z : Nat} {w : World} {v : Value} {xs : List Value} (h : RowT T z w v xs) {g : Nat} {c : Array Value} (hb : w.heap[g]? = some (.cells c U (0, 0))) (hTU : T ≠ U) : v.ownBlock ≠ some g := fun e => by
  obtain ⟨d, hd⟩ := h.ty g e
  rw [hb] at hd
  simp only [Option.some.injEq, Obj.cells.injEq] at hd
  exact hTU hd.2.1.symm
theorem VsOwn.nil (D : Nat → Prop) (z : Nat) (w : World) : VsOwn D z w (.slice Option.none 0 0) (.slice Option.none 0 0) [] := ⟨RowT.nil _ _ _, RowT.nil _ _ _, fun _ h => by cases h⟩
theorem VsOwn.keep {D S : Nat → Prop} {z : Nat} {w w' : World} {kv vv : Value} {l : List RowD} (h : VsOwn D z w kv vv l) (hf : Fr S w w') (hk : ∀ g, kv.ownBlock = some g → ¬ S g) (hv : ∀ g, vv.ownBlock = some g → ¬ S g) (hD : ∀ k, k < w.heap.size → D k → ¬ S k) : VsOwn D z w' kv vv l := ⟨h.kr.keep hf hk, h.vr.keep hf hv, fun p hp => (h.bytes p hp).keep hf hD⟩
theorem VsOwn.quiet {D : Nat → Prop} {z : Nat} {w w' : World} {kv vv : Value} {l : List RowD} (h : VsOwn D z w kv vv l) (hf : Fr (fun _ => False) w w') : VsOwn D z w' kv vv l := h.keep hf (fun _ _ h => h) (fun _ _ h => h) (fun _ _ _ h => h)
theorem VsOwn.mono {D : Nat → Prop} {z y : Nat} {w : World} {kv vv : Value} {l : List RowD} (h : VsOwn D z w kv vv l) (hy : y ≤ z) : VsOwn D y w kv vv l := ⟨h.kr.mono hy, h.vr.mono hy, h.bytes⟩
theorem VsOwn.vs {D : Nat → Prop} {z : Nat} {w : World} {kv vv : Value} {l : List RowD} (h : VsOwn D z w kv vv l) : VsIn (fun k => D k ∨ k < w.heap.size) w kv vv l :=
  ⟨h.kr.row.elems.mono (by decide) (fun b _ hb => .inr (h.kr.row.own b hb).2), h.vr.row.elems.mono (by decide) (fun b _ hb => .inr (h.vr.row.own b hb).2), fun p hp => (h.bytes p hp).mono (fun _ _ h => .inl h)⟩
end Go.Proofs.YtldgcoikbjbjeaaGreat
