/- Laid together by merge.py: JThen2 JThen3 JKeptP JThenA -/
import Derived.Test.YtabgklcghghoiaaGreatLn27
import Derived.Test.YtabgklcghghoiaaGreatLn26

/- The law's own: (model).then, of an Append. -/
namespace Go.Proofs.YtabgklcghghoiaaGreat
open Go.RowKit Go.ChangeShapes
set_option linter.unusedVariables false

theorem RowsIn.mono5 {F G : Nat → Prop} {w : World} {v : Value} {P : List (List UInt8)} (h : RowsIn F w v P) (hd : ∀ k, k < w.heap.size → F k → G k) : RowsIn G w v P := by
  obtain ⟨ao, cap, hv, h1, h2, h3, h4⟩ := h
  refine ⟨ao, cap, hv, h1, h2, h3, fun hl => ?_⟩
  obtain ⟨b, off, ha, hF, hi⟩ := h4 hl
  have hb : b < w.heap.size := by
    obtain ⟨x, hx, _⟩ := hi 0 (List.length_pos_iff.2 hl)
    exact World.block_lt_of_cell? _ _ hx
  refine ⟨b, off, ha, hd b hb hF, fun i h => ?_⟩
  obtain ⟨x, hx, hbx⟩ := hi i h
  exact ⟨x, hx, hbx.mono hd⟩
theorem Tryz.infoK5 : (Tryz.prog.info? 37).map (fun i => (i.zero, i.size, i.bytes)) = some (some (.slice none 0 0), 1, 24) := by kernel_rfl
/-- append of a whole row onto one of its own that has none. -/
theorem run_append_rows0 {F : Nat → Prop} (w : World) (ty : TypeId) (e : Nat) (vr : Value) (Q : List (List UInt8)) (he : w.heap[e]? = some (.cells #[] 37 (0, 0))) (hq : RowsIn F w vr Q) (hn : Q.length ≤ 1000000) :
    ∃ v' w' ys, (Builtin.append_ #[38, 38] ty #[.slice (some ⟨e, 0, none⟩) 0 0, vr]).run Tryz.prog w = .ok v' w' ∧ w'.ownsRow e 37 1 v' Q.length ys ∧ ys.length = Q.length ∧ (∀ i (h1 : i < ys.length) (h2 : i < Q.length), BytesIn F w ys[i] Q[i]) ∧ Fr (fun k => k = e) w w' ∧ (v'.ownBlock = some e ∨ v'.ownBlock = some w.heap.size) := by
  obtain ⟨i0, hi, hz0, hz1, hz2⟩ := info_parts Tryz.infoK5
  obtain ⟨ao, cap, rfl, h1, h2, h3, h4⟩ := hq
  have helt := lt_of_block he
  have hown : w.ownsRow e 37 1 (.slice (some ⟨e, 0, none⟩) 0 0) 0 [] := ⟨rfl, .inr ⟨e, 0, #[], rfl, Nat.le_refl _, he, Nat.le_refl _, by unfold maxLen; omega, rfl, by simp⟩⟩
  by_cases hQ : Q = []
  · subst hQ
    cases ao with
    | none =>
      refine ⟨.slice (some ⟨e, 0, none⟩) 0 0, w, [], ?_, hown, rfl, fun i h1 => by simp at h1, Fr.refl _ _, .inl rfl⟩
      simp [Builtin.append_, run_underlying Tryz.underlying38, sizeOf, typeInfo, hi, Builtin.lenOf, Builtin.firstCells, storeCells]
    | some a =>
      obtain ⟨v', w', hr, a2, a3, a4, a5⟩ := run_append_own_at (P := Tryz.prog) w e 38 ty 37 i0 (.slice none 0 0) 1 24 Tryz.underlying38 hi hz0 hz1 hz2 rfl (by decide) _ 0 [] hown a 0 cap [] rfl (by simp) (by simp) (by unfold maxLen; omega) (by omega) (Nat.le_of_lt helt)
      exact ⟨v', w', [], hr, a2, rfl, fun i h1 => by simp at h1, (Fr.refl _ w).grown a3 (fun k hk => .inl (by simp [Value.ownBlock] at hk; exact hk.symm)), a5⟩
  · obtain ⟨b, off, rfl, hFb, hi4⟩ := h4 hQ
    have hch : ∀ i : Nat, ∃ x, ∀ h : i < Q.length, w.cell? ⟨b, off + i, none⟩ = some x ∧ BytesIn F w x Q[i] := by
      intro i
      by_cases h : i < Q.length
      · obtain ⟨x, hx⟩ := hi4 i h
        exact ⟨x, fun _ => hx⟩
      · exact ⟨.bool false, fun h' => absurd h' h⟩
    obtain ⟨f, hf⟩ := Classical.axiomOfChoice hch
    obtain ⟨v', w', hr, a2, a3, a4, a5⟩ := run_append_own_at (P := Tryz.prog) w e 38 ty 37 i0 (.slice none 0 0) 1 24 Tryz.underlying38 hi hz0 hz1 hz2 rfl (by decide) _ 0 [] hown ⟨b, off, none⟩ Q.length cap ((List.range Q.length).map f) (by simp)
      (by
        intro j u hu
        rw [List.getElem?_map] at hu
        by_cases hj : j < Q.length
        · rw [List.getElem?_range hj] at hu
          simp only [Option.map_some, Option.some.injEq] at hu
          subst hu
          have h9 := (hf j hj).1
          by_cases h0 : j = 0
          · subst h0
            simpa [Addr.add] using h9
          · simpa [Addr.add, h0] using h9
        · rw [List.getElem?_eq_none (by simp; omega)] at hu
          cases hu)
      (by
        intro u hu
        obtain ⟨j, hj, rfl⟩ := List.mem_map.1 hu
        obtain ⟨ao, c, e1, _⟩ := (hf j (List.mem_range.1 hj)).2
        rw [e1]
        rfl)
      (by unfold maxLen; omega) (by omega) (Nat.le_of_lt helt)
    refine ⟨v', w', (List.range Q.length).map f, hr, by simpa using a2, by simp, fun i h1 h2 => ?_, (Fr.refl _ w).grown a3 (fun k hk => .inl (by simp [Value.ownBlock] at hk; exact hk.symm)), a5⟩
    simp only [List.getElem_map, List.getElem_range]
    exact (hf i h2).2
/-- .. as a step of a region that draws its order. -/
theorem step_append_rows0 {F : Nat → Prop} {ops : Array Oper} {o : Oper} {a : Act} {w : World} {K : Act → World → Prop} {Q' : Exit → Act → World → Prop} {E : Prop}
    (hg : o.guard = none) (s x : Operand) (hop : o.op = Op.call { callee := Callee.builtin Builtin.append, args := #[s, x], argTypes := #[38, 38] })
    (e : Nat) (vr : Value) (Q : List (List UInt8)) (hs : a.eval s = .slice (some ⟨e, 0, none⟩) 0 0) (hx : a.eval x = vr) (he : w.heap[e]? = some (.cells #[] 37 (0, 0))) (hq : RowsIn F w vr Q) (hn : Q.length ≤ 1000000)
    (hK : ∀ v' w' ys, w'.ownsRow e 37 1 v' Q.length ys → ys.length = Q.length → (∀ i (h1 : i < ys.length) (h2 : i < Q.length), BytesIn F w ys[i] Q[i]) → Fr (fun k => k = e) w w' → (v'.ownBlock = some e ∨ v'.ownBlock = some w.heap.size) → K (a.put o.dst v') w') :
    if Region.wanted o (yielded ops a.tmps) = true then Oper.wp Tryz.prog o a w K Q' else E := by
  have hw : Region.wanted o (yielded ops a.tmps) = true := by simp [Region.wanted, hg]
  rw [if_pos hw]
  obtain ⟨v', w', ys, hr, h1, h2, h3, h4, h5⟩ := run_append_rows0 w o.type e vr Q he hq hn
  unfold Oper.wp
  rw [← hs, ← hx] at hr
  simp [execOp, hop, resolve, invoke, builtin, hr, Result.andThen]
  exact hK v' w' ys h1 h2 h3 h4 h5
/-- append of one value, as such a step. -/
theorem step_append_val (z : Nat) {ops : Array Oper} {o : Oper} {a : Act} {w : World} {K : Act → World → Prop} {Q' : Exit → Act → World → Prop} {E : Prop}
    (hg : o.guard = none) (s x : Operand) (hop : o.op = Op.call { callee := Callee.builtin Builtin.append, args := #[s, x], argTypes := #[38, 38] })
    (v y : Value) (vs : List Value) (n h : Nat) (hs : a.eval s = v) (hx : a.eval x = .slice (some ⟨h, 0, none⟩) 1 1) (hn : vs.length = n) (hown : w.ownsRow z 37 1 v n vs) (hcell : w.cell? ⟨h, 0, none⟩ = some y) (hy : y.oneCell' = true) (hk : n ≤ 1000000) (hz : z ≤ w.heap.size)
    (hK : ∀ v' w', w'.ownsRow z 37 1 v' (n + 1) (vs ++ [y]) → w.grownBy w' v.ownBlock → (v'.ownBlock = v.ownBlock ∨ v'.ownBlock = some w.heap.size) → K (a.put o.dst v') w') :
    if Region.wanted o (yielded ops a.tmps) = true then Oper.wp Tryz.prog o a w K Q' else E := by
  have hw : Region.wanted o (yielded ops a.tmps) = true := by simp [Region.wanted, hg]
  rw [if_pos hw]
  subst hn
  subst hs
  obtain ⟨v', w', hr, h1, h2, h3⟩ := run_append_val z w o.type _ _ vs h hown hcell hy hk hz
  unfold Oper.wp
  simp [execOp, hop, resolve, invoke, builtin, hx, hr, Result.andThen]
  exact hK v' w' h1 h2 h3
/-- The row that came out, read. -/
theorem made_rows {F : Nat → Prop} {w6 : World} {z : Nat} {v : Value} {ys : List Value} {y : Value} {Q : List (List UInt8)} {B : List UInt8} (hl : ys.length = Q.length) (ho : w6.ownsRow z 37 1 v (Q.length + 1) (ys ++ [y]))
    (hi : ∀ i (h1 : i < ys.length) (h2 : i < Q.length), BytesIn F w6 ys[i] Q[i]) (hy : BytesIn F w6 y B) (hQ : ∀ X ∈ Q ++ [B], X.length ≤ 140737488351232) (hF : ∀ k, v.ownBlock = some k → F k) : RowsIn F w6 v (Q ++ [B]) := by
  obtain ⟨ao, c, rfl, h1, h2, h3⟩ := ownsRow_form ho
  have e : (Q ++ [B]).length = Q.length + 1 := by simp
  refine ⟨ao, c, by rw [e], by rw [e]; exact h1, h2, hQ, fun hne => ?_⟩
  obtain ⟨g, rfl, hg1, hg2, hc⟩ := h3 (by omega)
  refine ⟨g, 0, rfl, hF g rfl, fun i hil => ?_⟩
  have hlen : (ys ++ [y]).length = Q.length + 1 := by simp [hl]
  refine ⟨(ys ++ [y])[i]'(by omega), by rw [Nat.zero_add]; exact hc i (by omega), ?_⟩
  by_cases h : i < Q.length
  · rw [List.getElem_append_left (by omega), List.getElem_append_left h]
    exact hi i (by omega) h
  · have h1' : i = Q.length := by omega
    subst h1'
    rw [List.getElem_append_right (by omega), List.getElem_append_right (by omega)]
    simp only [Nat.sub_self, List.getElem_cons_zero, hl]
    exact hy
end Go.Proofs.YtabgklcghghoiaaGreat

/- The law's own: (model).then, of an Append. -/
namespace Go.Proofs.YtabgklcghghoiaaGreat
open Go.RowKit Go.ChangeShapes
set_option linter.unusedVariables false

theorem Fr.toDrew {S : Nat → Prop} {a w : World} (h : Fr S a w) : Fr S a.drew w := ⟨h.os, h.tape, h.output, h.size, h.block⟩
theorem own_mono5 {w : World} {z z' n : Nat} {v : Value} {vs : List Value} {T : TypeId} (h : w.ownsRow z T 1 v n vs) (hz : z' ≤ z) : w.ownsRow z' T 1 v n vs := by
  refine ⟨h.1, ?_⟩
  rcases h.2 with h1 | ⟨g, cap, cur, hv, hb, r⟩
  · exact .inl h1
  · exact .inr ⟨g, cap, cur, hv, by omega, r⟩
theorem then_rows {F : Nat → Prop} {W3 w5 wx w6 : World} {nq : Nat} {v5 v6 vb : Value} {ys5 : List Value} {Q : List (List UInt8)} {B : List UInt8} (hl : ys5.length = Q.length) (hn : nq = Q.length) (h5 : Fr (fun _ => False) W3 w5) (hx : Fr (fun _ => False) w5 wx) (ho5 : w5.ownsRow W3.heap.size 37 1 v5 nq ys5) (hg6 : wx.grownBy w6 v5.ownBlock) (ho6 : w6.ownsRow W3.heap.size 37 1 v6 (nq + 1) (ys5 ++ [vb]))
    (hy : ∀ i (h1 : i < ys5.length) (h2 : i < Q.length), BytesIn F w5 ys5[i] Q[i]) (hB : BytesIn F W3 vb B) (hQB : ∀ Y ∈ Q ++ [B], Y.length ≤ 140737488351232) (hFL : ∀ k, F k → k < W3.heap.size) :
    Fr (fun _ => False) W3 w6 ∧ RowsIn (fun k => F k ∨ (W3.heap.size ≤ k ∧ k < w6.heap.size)) w6 v6 (Q ++ [B]) := by
  have hown : ∀ k, v5.ownBlock = some k → W3.heap.size ≤ k := fun k hk => (ho5.lt k hk).1
  have h6 : Fr (fun _ => False) W3 w6 := (h5.trans hx (fun _ h => h.elim)).grown hg6 (fun k hk => .inr (hown k hk))
  have g6 : Fr (fun k => W3.heap.size ≤ k) w5 w6 := (hx.mono (fun _ _ h => h.elim)).grown hg6 (fun k hk => .inl (hown k hk))
  refine ⟨h6, made_rows hl (by rw [← hn]; exact ho6) (fun i h1 h2 => ?_) ?_ hQB (fun k hk => .inr (ho6.lt k hk))⟩
  · exact ((hy i h1 h2).keep g6 (fun k _ hk e => by have := hFL k hk; have e2 : W3.heap.size ≤ k := e; omega)).mono (fun k _ hk => .inl hk)
  · exact (hB.keep h6 (fun _ _ _ h => h)).mono (fun k _ hk => .inl hk)
theorem cell_al {w : World} {o : Obj} {p : Addr} {v : Value} (h : w.cell? p = some v) : (w.alloc o).cell? p = some v := ((Fr.refl (fun _ => False) w).alloc o).cell h id
theorem cell_al2 {w : World} {o : Obj} {p : Addr} {v : Value} (h : w.cell? p = some v) : (w.alloc o).drew.cell? p = some v := ((Fr.refl (fun _ => False) w).alloc o).drew.cell h id
set_option maxRecDepth 100000 in
set_option maxHeartbeats 4000000 in
theorem then_append {w0 w : World} {jn g s l la d : Nat} {h h' : Hd} {dn' : Bool} {dv dv' : Dv} {X F : Nat → Prop} {r1 : Int} (H : LgAt w0 w jn g s l la d h false dv X) (hF : ∀ k, F k → k < w0.heap.size ∨ X k) (what n bit : Int) (hw1 : -9223372036854775808 ≤ what) (hw2 : what ≤ 9223372036854775807) (hwh : ¬ what % 9 = 2) (vb va vr : Value) (A B : List UInt8) (Q : List (List UInt8)) (hb : BytesIn F w vb B) (ha : BytesIn F w va A) (hq : RowsIn F w vr Q) (hQn : Q.length ≤ 100000) (hQB : ∀ Y ∈ Q ++ [B], Y.length ≤ 140737488351232)
    (hcall : ∀ (W : World) (Y : Nat → Prop), LgAt w0 W jn g s l la d h false dv Y → Fr (fun k => w.heap.size ≤ k) w W → Calls Tryz.prog 21 #[.pointer (some ⟨jn, 0, none⟩), vb] W fun e w' => e = .returned (.int .i64 r1) ∧ LgAt w0 w' jn g s l la d h' dn' dv' Y ∧ Fr (LgT w0 Y) W w') :
    Calls Tryz.prog 14 #[.agg #[va, vr], .pointer (some ⟨jn, 0, none⟩), .agg #[.int .i64 what, .int .i64 n, .int .i64 bit, vb]] w fun e w' => ∃ v6 Y, e = .returned (.tuple #[.agg #[va, v6], .int .i64 r1]) ∧ (∀ k, X k → Y k) ∧ LgAt w0 w' jn g s l la d h' dn' dv' Y ∧ RowsIn (fun k => F k ∨ (w.heap.size ≤ k ∧ Y k)) w' v6 (Q ++ [B]) ∧ Fr (LgT w0 X) w w' := by
  obtain ⟨ab, cb, hvb, _⟩ := id hb
  obtain ⟨aa, ca, hva, _⟩ := id ha
  obtain ⟨aq, cq, hvr, _⟩ := id hq
  subst hvb
  subst hva
  subst hvr
  obtain ⟨W1, hW1⟩ : ∃ W, W = w.alloc (.cells #[.slice aa A.length ca, .slice aq Q.length cq] 40) := ⟨_, rfl⟩
  obtain ⟨W2, hW2⟩ : ∃ W, W = W1.alloc (.cells #[.int .i64 what, .int .i64 n, .int .i64 bit, .slice ab B.length cb] 42) := ⟨_, rfl⟩
  obtain ⟨W3, hW3⟩ : ∃ W, W = W2.alloc (.cells #[.slice none 0 0, .slice none 0 0] 40) := ⟨_, rfl⟩
  have hf1 : Fr (fun _ => False) w W1 := by rw [hW1]; exact (Fr.refl _ _).alloc _
  have hf2 : Fr (fun _ => False) w W2 := by rw [hW2]; exact hf1.alloc _
  have hf3 : Fr (fun _ => False) w W3 := by rw [hW3]; exact hf2.alloc _
  have hz1 : W1.heap.size = w.heap.size + 1 := by rw [hW1]; simp
  have hz2 : W2.heap.size = w.heap.size + 2 := by rw [hW2]; simp [hz1]
  have hz3 : W3.heap.size = w.heap.size + 3 := by rw [hW3]; simp [hz2]
  obtain ⟨gm, hgm⟩ : ∃ gm, gm = w.heap.size := ⟨_, rfl⟩
  obtain ⟨gd, hgd⟩ : ∃ gd, gd = w.heap.size + 1 := ⟨_, rfl⟩
  obtain ⟨gr, hgr⟩ : ∃ gr, gr = w.heap.size + 2 := ⟨_, rfl⟩
  have hme : W3.heap[gm]? = some (.cells #[.slice aa A.length ca, .slice aq Q.length cq] 40 (0, 0)) := by
    rw [hW3]
    exact ((Fr.refl (fun _ => False) W2).alloc _).heap (by rw [hW2]; exact ((Fr.refl (fun _ => False) W1).alloc _).heap (by rw [hW1, hgm]; exact heap_alloc_new w _) id) id
  have hde : W3.heap[gd]? = some (.cells #[.int .i64 what, .int .i64 n, .int .i64 bit, .slice ab B.length cb] 42 (0, 0)) := by
    rw [hW3]
    exact ((Fr.refl (fun _ => False) W2).alloc _).heap (by rw [hW2, hgd, ← hz1]; exact heap_alloc_new W1 _) id
  have hre : W3.heap[gr]? = some (.cells #[.slice none 0 0, .slice none 0 0] 40 (0, 0)) := by rw [hW3, hgr, ← hz2]; exact heap_alloc_new W2 _
  have HG := Lib.hid (LgAt.quiet (LgAt.fresh (Y := fun k => w.heap.size ≤ k ∧ k < w.heap.size + 3) H hf3 (fun k hk => ⟨hk.1, by omega⟩)) (Fr.refl _ _).drew)
  have HW := Lib.hid (And.intro hW1 (And.intro hW2 (And.intro hW3 (And.intro hf3 (And.intro hde (And.intro hre hme))))))
  have HZ := Lib.hid (And.intro hz1 (And.intro hz2 (And.intro hgd (And.intro hgr (And.intro hgm hz3)))))
  have HH := Lib.hid (And.intro H (And.intro hF True.intro))
  have HC := Lib.hid hcall
  have HQ := Lib.hid (show RowsIn F W3 (.slice aq Q.length cq) Q from hq.keep hf3 (fun _ _ _ h => h))
  have HB := Lib.hid (show BytesIn F W3 (.slice ab B.length cb) B from hb.keep hf3 (fun _ _ _ h => h))
  have HQB := Lib.hid hQB
  have HFL := Lib.hid (show ∀ k, F k → k < W3.heap.size from fun k hk => by have := H.fr.size; rcases hF k hk with h | h; omega; have := H.xs k h; omega)
  have hsw : (what % 9 == (2 : Int)) = false := by rw [beq_eq_false_iff_ne]; exact hwh
  obtain ⟨nq, hnq⟩ : ∃ nq, nq = Q.length := ⟨_, rfl⟩
  have HN := Lib.hid hnq
  rw [← hnq] at hQn ⊢
  clear H hb ha hq hcall hW1 hW2 hW3 hf1 hf2 hf3 hz1 hz2 hz3 hde hre hme hwh hgd hgr hgm hF hQB hnq
  go_enter Tryz.func14, Tryz.ntmps14
  go_wp2_with (go_at_call 12; rw [HN.out, ← HW.out.1, ← HW.out.2.1, ← HW.out.2.2.1]; refine (pick_any what 9 _ (by decide) (by decide) hw1 hw2).mono ?_; rintro e r4 ⟨rfl, rfl⟩)
  have hgr2 : w.heap.size + 1 + 1 = gr := by rw [HZ.out.2.2.2.1]
  obtain ⟨m0, m1, _, _⟩ := ref_cells (show W3.drew.heap[gm]? = _ from HW.out.2.2.2.2.2.2)
  rw [← HN.out] at m1
  have hdec : W3.drew.cell? ⟨gd, 3, none⟩ = some (.slice ab B.length cb) := cell_of_row _ _ 3 _ _ _ (show W3.drew.heap[gd]? = _ from HW.out.2.2.2.2.1)
  rw [hgr2, ← HZ.out.2.2.1, ← HZ.out.2.2.2.2.1]
  clear hgr2
  have HN1 := Lib.hid hQn
  have hne : gd ≠ gr := by have := HZ.out.2.2; omega
  have hne2 : gr ≠ gd := fun e => hne e.symm
  have hne3 : gm ≠ gr := by have := HZ.out.2.2; omega
  have hne4 : gr ≠ gm := fun e => hne3 e.symm
  have HM := Lib.hid (show W3.cell? ⟨gm, 0, none⟩ = _ ∧ W3.cell? ⟨gm, 1, none⟩ = _ ∧ W3.cell? ⟨gd, 3, none⟩ = _ from ⟨m0, m1, hdec⟩)
  rw [← HN.out] at HQ
  go_region_held3 (fun w' => w'.cell? ⟨gm, 0, none⟩ = some (.slice aa A.length ca) ∧ w'.cell? ⟨gm, 1, none⟩ = some (.slice aq nq cq) ∧ w'.cell? ⟨gd, 3, none⟩ = some (.slice ab B.length cb)) (((try go_split_ands); refine ⟨?_, ?_, ?_⟩ <;> first | assumption | exact cell_al2 (by assumption) | exact cell_al (by assumption) | go_keep))
    (first
      | (refine step_append_rows0 (F := F) rfl (.tmp 21) (.tmp 23) rfl _ (.slice aq nq cq) Q rfl rfl (by first | exact heap_alloc_new W3 _ | exact ((Fr.refl (fun _ => False) _).alloc _).heap (heap_alloc_new W3 _) id | (show (World.drew _).heap[W3.heap.size + 1]? = _; rw [show W3.heap.size + 1 = (W3.alloc (Obj.cells #[.slice ab B.length cb] 37)).heap.size by simp]; exact heap_alloc_new (W3.alloc (Obj.cells #[.slice ab B.length cb] 37)) _) | (rw [show W3.heap.size + 1 = (W3.alloc (Obj.cells #[.slice ab B.length cb] 37)).heap.size by simp]; exact heap_alloc_new (W3.alloc (Obj.cells #[.slice ab B.length cb] 37)) _)) (HQ.out.keep (by (first | exact ((Fr.refl (fun _ => False) W3).alloc _).drew | exact (((Fr.refl (fun _ => False) W3).alloc _).alloc _).drew | exact (Fr.refl (fun _ => False) W3).alloc _ | exact ((Fr.refl (fun _ => False) W3).alloc _).alloc _)) (fun _ _ _ h => h)) (by have := HN1.out; have := HN.out; omega) ?_; intro v5 w5 ys5 ho5 hl5 hy5 hf5 hb5; (have hF5 : Fr (fun _ => False) W3 w5 := Fr.trans (by (first | exact ((Fr.refl (fun _ => False) W3).alloc _).drew | exact (((Fr.refl (fun _ => False) W3).alloc _).alloc _).drew | exact (Fr.refl (fun _ => False) W3).alloc _ | exact ((Fr.refl (fun _ => False) W3).alloc _).alloc _)) hf5 (fun k hk => .inr (by have e2 : k = _ := hk; first | omega | (rw [e2]; simp)))); (have ho5' : w5.ownsRow W3.heap.size 37 1 v5 nq ys5 := HN.out ▸ own_mono5 ho5 (by simp)); (first | (have hone := hf5.cell (p := ⟨W3.heap.size + 1, 0, none⟩) (v := .slice ab B.length cb) (by rw [show W3.heap.size + 1 = (W3.alloc (Obj.cells #[] 37)).heap.size by simp]; exact cell_of_one (heap_alloc_new (W3.alloc (Obj.cells #[] 37)) _)) (by simp)) | (have hone := hf5.cell (p := ⟨W3.heap.size, 0, none⟩) (v := .slice ab B.length cb) (((Fr.refl (fun _ => False) _).alloc _).drew.cell (cell_of_one (heap_alloc_new W3 _)) id) (by simp)) | skip); (have HY5 := Lib.hid (show ∀ i (h1 : i < ys5.length) (h2 : i < Q.length), BytesIn F w5 ys5[i] Q[i] from fun i h1 h2 => (hy5 i h1 h2).keep hf5 (fun k _ hk e => by have := HFL.out k hk; have e2 : k = _ := e; first | omega | (simp only [World.drew] at e2; omega)))); (have c50 := hF5.cell HM.out.1 id); (have c51 := hF5.cell HM.out.2.1 id); (have c52 := hF5.cell HM.out.2.2 id); (have HF5 := Lib.hid hF5); (have HL5 := Lib.hid hl5); (have HO5 := Lib.hid ho5'); clear ho5 ho5' hl5 hy5 hf5 hb5 hF5)
      | (refine step_append_val (z := W3.heap.size) rfl (.tmp 24) (.tmp 27) rfl v5 (.slice ab B.length cb) ys5 nq _ rfl rfl (HL5.out.trans HN.out.symm) (by first | exact HO5.out | exact ownsRow_keep HO5.out ((Fr.refl (fun _ => False) _).alloc _) (fun _ _ h => h)) (by first | assumption | exact cell_of_one (heap_alloc_new _ _)) rfl (by have := HN1.out; omega) (by first | exact HF5.out.size | exact Nat.le_trans HF5.out.size (by simp)) ?_; intro v6 w6 ho6 hg6 hb6; (obtain ⟨hF6, hR6⟩ := then_rows HL5.out HN.out HF5.out (by first | exact Fr.refl _ _ | exact (Fr.refl _ _).alloc _) HO5.out hg6 ho6 HY5.out HB.out HQB.out HFL.out); (obtain ⟨ao6, m6, c6, rfl⟩ : ∃ a m c, v6 = .slice a m c := by obtain ⟨a, c, e, _⟩ := hR6; exact ⟨a, _, c, e⟩); (have HR6 := Lib.hid hR6); (have c60 := hF6.cell HM.out.1 id); (have c61 := hF6.cell HM.out.2.1 id); (have c62 := hF6.cell HM.out.2.2 id); (have HF6 := Lib.hid hF6); clear ho6 hg6 hb6 hF6 hR6)
      | (go_at_call 21; refine (HC.out _ (fun k => (X k ∨ w.heap.size ≤ k ∧ k < w.heap.size + 3) ∨ (W3.heap.size ≤ k ∧ k < w6.heap.size)) (HG.out.fresh HF6.out.toDrew (fun k hk => hk)) ((HW.out.2.2.2.1.trans HF6.out (fun _ h => h.elim)).mono (fun _ _ h => h.elim))).mono ?_; rintro e w7 ⟨rfl, hL7, hf7⟩; (have hr7 := hf7.heap (HF6.out.heap HW.out.2.2.2.2.2.1 id) (fun hh => hh.2 (.inl (.inr ⟨by have := HZ.out.2.2.2.1; omega, by have := HZ.out.2.2.2.1; omega⟩)))); (have hm7 := hf7.heap (HF6.out.heap HW.out.2.2.2.2.2.2 id) (fun hh => hh.2 (.inl (.inr ⟨by have := HZ.out.2.2.2.2.1; omega, by have := HZ.out.2.2.2.2.1; omega⟩)))); (have hd7 := hf7.heap (HF6.out.heap HW.out.2.2.2.2.1 id) (fun hh => hh.2 (.inl (.inr ⟨by have := HZ.out.2.2.1; omega, by have := HZ.out.2.2.1; omega⟩)))); (rw [← HN.out] at hm7); (obtain ⟨k0, k1, z0, z1⟩ := ref_cells hr7); (obtain ⟨c70, c71, _, _⟩ := ref_cells hm7); (have c72 := cell_of_row _ _ 3 _ _ _ hd7); (have HL7 := Lib.hid (And.intro hL7 hf7)); (have HR7 := Lib.hid hr7); clear hL7 hf7 hr7 hm7 hd7))
  all_goals (
    go_wp2
    have q0 : ((w7.setCell ⟨gr, 0, none⟩ (.slice aa A.length ca)).setCell ⟨gr, 1, none⟩ (.slice ao6 m6 c6)).heap[gr]? = some (.cells #[.slice aa A.length ca, .slice ao6 m6 c6] 40 (0, 0)) := cell_put _ (cell_put _ HR7.out)
    obtain ⟨q1, q2, _, _⟩ := ref_cells q0
    refine bodyPost_ret (v := .tuple #[.agg #[.slice aa A.length ca, .slice ao6 m6 c6], .int .i64 r1]) (by simp [results, Tryz.results14, q1, q2, go_sem]) rfl ?_
    have hp := (Fr.cell1 w7 gr 0 (.slice aa A.length ca)).trans (Fr.cell1 _ gr 1 (.slice ao6 m6 c6)) (fun k h => .inl h)
    have hz := HH.out.1.fr.size
    have hzr := HZ.out.2.2.2.1
    have hz6 := HF6.out.size
    have hz3 := HZ.out.2.2.2.2.2
    have hFw : ∀ k, F k → k < w.heap.size := fun k hk => by rcases HH.out.2.1 k hk with h | h; omega; exact HH.out.1.xs k h
    refine ⟨_, _, rfl, (fun k h => .inl (.inl h)), HL7.out.1.away hp (fun k (e : k = gr) => ⟨.inl (.inr ⟨by omega, by omega⟩), by omega⟩), ?_, ?_⟩
    · refine RowsIn.mono5 ((HR6.out.keep HL7.out.2 (fun k _ hk hh => ?_)).keep hp (fun k _ hk (e : k = gr) => ?_)) ?_
      · rcases hk with hk | hk
        · rcases HH.out.2.1 k hk with h | h
          · have := hh.1; omega
          · exact hh.2 (.inl (.inl h))
        · exact hh.2 (.inr hk)
      · rcases hk with hk | hk
        · have := hFw k hk; omega
        · omega
      · exact fun k _ hk => hk.elim .inl (fun h => .inr ⟨by have := h.1; omega, .inr h⟩)
    · exact (((HW.out.2.2.2.1.trans HF6.out (fun _ h => h.elim)).mono (fun _ _ h => h.elim)).trans (HL7.out.2.mono (T := LgT w0 X) (fun k _ hk => ⟨hk.1, fun hx => hk.2 (.inl (.inl hx))⟩)) (fun k h => .inl h)).trans hp (fun k (e : k = gr) => .inr (by omega)))
end Go.Proofs.YtabgklcghghoiaaGreat

/- What LogKept needs, plain: the state of a journal between deeds, what a commit leaves, told OK or crashed. -/
namespace Go.Proofs.YtabgklcghghoiaaGreat
open Go.RowKit Go.ChangeShapes
set_option linter.unusedVariables false

/-- The state of a journal, plain, after i deeds (a fuse may be laid). -/
structure LgK (dv : Dv) (l la s : Nat) (h : Hd) (B : List UInt8) (R : List (List UInt8)) (i : Nat) : Prop where
  up : dv.down = false
  waits : dv.waits = []
  kp : Kp dv.all l la s h B R
  deeds : dv.deeds ≤ 2 + 70 * i
  round : h.round ≤ 1 + i
theorem LgOk.k {dv : Dv} {l la s : Nat} {h : Hd} {B : List UInt8} {R : List (List UInt8)} {i : Nat} (H : LgOk dv l la s h B R i) : LgK dv l la s h B R i := ⟨H.up, H.waits, H.kp, H.deeds, H.round⟩
theorem LgK.next {dv : Dv} {l la s : Nat} {h : Hd} {B : List UInt8} {R : List (List UInt8)} {i : Nat} (H : LgK dv l la s h B R i) : LgK dv l la s h B R (i + 1) :=
  ⟨H.up, H.waits, H.kp, by have := H.deeds; omega, by have := H.round; omega⟩
theorem LgK.fuse {dv : Dv} {l la s : Nat} {h : Hd} {B : List UInt8} {R : List (List UInt8)} {i : Nat} (H : LgK dv l la s h B R i) (n : Int) : LgK (dv.fuse n).2 l la s h B R i := by
  unfold Dv.fuse
  rw [if_neg (by rw [H.up]; decide)]
  exact ⟨H.up, H.waits, H.kp, H.deeds, H.round⟩
/-- What a deed tells, and leaves: refused, done, or crashed (woken by any bits the one or the other is kept). -/
def ToldK (r : Int) (dn : Bool) (dv : Dv) (l la s : Nat) (h : Hd) (A A' : List UInt8) (Q Q' : List (List UInt8)) (i : Nat) : Prop :=
  (r = 3 ∧ dn = false ∧ LgK dv l la s h A Q i) ∨ (r = 0 ∧ dn = false ∧ LgK dv l la s h A' Q' i) ∨
  (r = 10 ∧ dn = true ∧ dv.waits.length ≤ 1000000 ∧ ∀ keep, (dv.wake keep).1 = 0 ∧ ∃ h2, LgK (dv.wake keep).2 l la s h2 A Q i ∨ LgK (dv.wake keep).2 l la s h2 A' Q' i)
theorem LgK.commit {dv : Dv} {l la s : Nat} {h h' : Hd} {B B' : List UInt8} {R R' : List (List UInt8)} {i : Nat} (H : LgK dv l la s h B R i) (hs : s ≤ 60) (o : Nat) (X : List UInt8) (ho : o + X.length ≤ 64 * s)
    (hout : ∀ j, (j < 64 + h.used ∨ (areaAt l la h.area ≤ j ∧ j < areaAt l la h.area + h.size)) → ¬ (o ≤ j ∧ j < o + X.length))
    (hnew : Kp (putSec (over4 dv.all o X) 0 h'.sec) l la s h' B' R') (hr : h'.round ≤ 1 + (i + 1)) :
    ToldK (dv.commit s (secsAt dv.all o X) h'.sec).1 (if (dv.commit s (secsAt dv.all o X) h'.sec).1 = 0 then false else true) (dv.commit s (secsAt dv.all o X) h'.sec).2 l la s (if (dv.commit s (secsAt dv.all o X) h'.sec).1 = 0 then h' else h) B B' R R' (i + 1) := by
  have k := H.kp
  have hs1 : 1 ≤ s := by have := k.shape.1; omega
  have hrd := k.redo o X ho hout hnew H.up H.waits
  have hle := secsAt_le (K := dv.all) ho
  have hps := secsAt_right k.len ho
  have hde := H.deeds
  have hro := H.round
  rcases dv.commit_cases s hs1 _ h'.sec H.up H.waits hps h'.sec_length with ⟨a1, _, a3, a4, a5, _⟩ | ⟨_, b1, b2, b3, b4⟩
  · refine .inr (.inl ⟨a1, by rw [if_pos a1], ?_⟩)
    rw [if_pos a1]
    exact ⟨a4, a3, hrd.1 a1, by omega, hr⟩
  · have hn : (dv.commit s (secsAt dv.all o X) h'.sec).1 ≠ 0 := by rw [b1]; decide
    refine .inr (.inr ⟨b1, by rw [if_neg hn], ?_, fun keep => ?_⟩)
    · rcases b4 with ⟨_, qs, c2, c3⟩ | ⟨_, c2 | c2⟩
      · rw [c3]
        have := c2.length_le
        omega
      · rw [c2]; decide
      · rw [c2]; simp
    · obtain ⟨w1, w2, w3, _, w5, _⟩ := Dv.commit_woken dv s hs1 _ h'.sec keep H.up H.waits hps h'.sec_length hn
      refine ⟨w1, ?_⟩
      rcases (hrd.2 hn).2.2 keep with hk | hk
      · exact ⟨h, .inl ⟨w3, w2, hk, by omega, by omega⟩⟩
      · exact ⟨h', .inr ⟨w3, w2, hk, by omega, hr⟩⟩
theorem LgK.append {dv : Dv} {l la s : Nat} {h : Hd} {B : List UInt8} {R : List (List UInt8)} {i : Nat} (H : LgK dv l la s h B R i) (hs : s ≤ 60) (hi : i ≤ 60) (X : List UInt8) (hX : h.used + (recB X).length ≤ 64 * l) :
    ToldK (dv.commit s (secsAt dv.all (64 + h.used) (recB X)) (Hd.sec ⟨h.area, h.size, h.used + (recB X).length, h.round + 1⟩)).1 (if (dv.commit s (secsAt dv.all (64 + h.used) (recB X)) (Hd.sec ⟨h.area, h.size, h.used + (recB X).length, h.round + 1⟩)).1 = 0 then false else true) (dv.commit s (secsAt dv.all (64 + h.used) (recB X)) (Hd.sec ⟨h.area, h.size, h.used + (recB X).length, h.round + 1⟩)).2 l la s (if (dv.commit s (secsAt dv.all (64 + h.used) (recB X)) (Hd.sec ⟨h.area, h.size, h.used + (recB X).length, h.round + 1⟩)).1 = 0 then ⟨h.area, h.size, h.used + (recB X).length, h.round + 1⟩ else h) B B R (R ++ [X]) (i + 1) := by
  have hsh := H.kp.shape.1
  have hr := H.round
  exact H.commit hs (64 + h.used) (recB X) (by omega) (H.kp.append_out _ hX) (H.kp.append X hX (by omega)) (by simp only; omega)
theorem LgK.switch {dv : Dv} {l la s : Nat} {h : Hd} {B : List UInt8} {R : List (List UInt8)} {i : Nat} (H : LgK dv l la s h B R i) (hs : s ≤ 60) (hi : i ≤ 60) (X : List UInt8) (hX : X.length ≤ 64 * la) :
    ToldK (dv.commit s (secsAt dv.all (areaAt l la (1 - h.area)) X) (Hd.sec ⟨1 - h.area, X.length, 0, h.round + 1⟩)).1 (if (dv.commit s (secsAt dv.all (areaAt l la (1 - h.area)) X) (Hd.sec ⟨1 - h.area, X.length, 0, h.round + 1⟩)).1 = 0 then false else true) (dv.commit s (secsAt dv.all (areaAt l la (1 - h.area)) X) (Hd.sec ⟨1 - h.area, X.length, 0, h.round + 1⟩)).2 l la s (if (dv.commit s (secsAt dv.all (areaAt l la (1 - h.area)) X) (Hd.sec ⟨1 - h.area, X.length, 0, h.round + 1⟩)).1 = 0 then ⟨1 - h.area, X.length, 0, h.round + 1⟩ else h) B X R [] (i + 1) := by
  have hr := H.round
  exact H.commit hs (areaAt l la (1 - h.area)) X (area_in H.kp.shape.1 (by omega) hX) (H.kp.switch_out _ hX) (H.kp.switch X hX (by omega)) (by simp only; omega)
theorem isB_self (B : List UInt8) (R : List (List UInt8)) : decide (B = B ∧ R = R) = true := by simp
end Go.Proofs.YtabgklcghghoiaaGreat

/- The law's own: (model).then, whatever the deed. -/
namespace Go.Proofs.YtabgklcghghoiaaGreat
open Go.RowKit Go.ChangeShapes
set_option linter.unusedVariables false

/-- What a deed makes of a model. -/
def thenB (p : DeedD) (A : List UInt8) : List UInt8 := if p.what % 9 = 2 then p.B else A
def thenR (p : DeedD) (Q : List (List UInt8)) : List (List UInt8) := if p.what % 9 = 2 then [] else Q ++ [p.B]
/-- The blocks that no call turns. -/
abbrev Safe (w0 : World) (X : Nat → Prop) : Nat → Prop := fun k => k < w0.heap.size ∨ X k
theorem Safe.not {w0 : World} {X : Nat → Prop} {k : Nat} (h : Safe w0 X k) : ¬ LgT w0 X k := fun hh => h.elim (fun h => by have := hh.1; omega) hh.2
theorem recs_many {K : List UInt8} {l la s : Nat} {h : Hd} {B : List UInt8} {R : List (List UInt8)} (k : Kp K l la s h B R) : R.length ≤ 64 * l := by
  have h1 := recsB_count R
  have h2 := k.recs
  have h3 := k.right.used
  have h4 : (cut4 K 64 h.used).length ≤ h.used := by unfold cut4; simp; omega
  rw [h2] at h4
  omega
theorem then_any {w0 w : World} {jn g s l la d i : Nat} {h : Hd} {dv : Dv} {X F : Nat → Prop} (hFS : ∀ k, F k → Safe w0 X k) {A : List UInt8} {Q : List (List UInt8)} (H : LgAt w0 w jn g s l la d h false dv X) (hok : ShOk l la d s) (hs : s ≤ 60) (hi : i ≤ 60) (K : LgK dv l la s h A Q i) (p : DeedD) (hwf : IntOk p.what) (hpB : p.B.length ≤ 6000) (va vr : Value) (hb : BytesIn F w p.x p.B) (ha : BytesIn F w va A) (hq : RowsIn F w vr Q) :
    Calls Tryz.prog 14 #[.agg #[va, vr], .pointer (some ⟨jn, 0, none⟩), .agg #[.int .i64 p.what, .int .i64 p.n, .int .i64 p.bit, p.x]] w fun e w' => ∃ (r1 : Int) (h' : Hd) (dn' : Bool) (dv' : Dv) (va' vr' : Value) (Y : Nat → Prop), e = .returned (.tuple #[.agg #[va', vr'], .int .i64 r1]) ∧ (∀ k, X k → Y k) ∧ LgAt w0 w' jn g s l la d h' dn' dv' Y ∧ BytesIn (fun k => F k ∨ (w.heap.size ≤ k ∧ Y k)) w' va' (thenB p A) ∧ RowsIn (fun k => F k ∨ (w.heap.size ≤ k ∧ Y k)) w' vr' (thenR p Q) ∧ Fr (LgT w0 X) w w' ∧ ToldK r1 dn' dv' l la s h' A (thenB p A) Q (thenR p Q) (i + 1) := by
  have hr := K.kp.right
  have hro := K.round
  have hde := K.deeds
  have hl := hok.sum
  have keepB : ∀ {v : Value} {L : List UInt8} {w' : World} {Y : Nat → Prop}, BytesIn F w v L → Fr (LgT w0 X) w w' → (∀ k, X k → Y k) → BytesIn (fun k => F k ∨ (w.heap.size ≤ k ∧ Y k)) w' v L := fun hb hf hXY => (hb.keep hf (fun k _ hk => (hFS k hk).not)).mono (fun k _ hk => .inl hk)
  by_cases hsw : p.what % 9 = 2
  · have e1 : thenB p A = p.B := by unfold thenB; rw [if_pos hsw]
    have e2 : thenR p Q = [] := by unfold thenR; rw [if_pos hsw]
    rw [e1, e2]
    have go : ∀ (r1 : Int) (h' : Hd) (dn' : Bool) (dv' : Dv), ToldK r1 dn' dv' l la s h' A p.B Q [] (i + 1) →
        (∀ (W : World) (Y : Nat → Prop), LgAt w0 W jn g s l la d h false dv Y → Fr (fun k => w.heap.size ≤ k) w W → Calls Tryz.prog 20 #[.pointer (some ⟨jn, 0, none⟩), p.x] W fun e w' => e = .returned (.int .i64 r1) ∧ LgAt w0 w' jn g s l la d h' dn' dv' Y ∧ Fr (LgT w0 Y) W w') →
        Calls Tryz.prog 14 #[.agg #[va, vr], .pointer (some ⟨jn, 0, none⟩), .agg #[.int .i64 p.what, .int .i64 p.n, .int .i64 p.bit, p.x]] w fun e w' => ∃ (r1 : Int) (h' : Hd) (dn' : Bool) (dv' : Dv) (va' vr' : Value) (Y : Nat → Prop), e = .returned (.tuple #[.agg #[va', vr'], .int .i64 r1]) ∧ (∀ k, X k → Y k) ∧ LgAt w0 w' jn g s l la d h' dn' dv' Y ∧ BytesIn (fun k => F k ∨ (w.heap.size ≤ k ∧ Y k)) w' va' p.B ∧ RowsIn (fun k => F k ∨ (w.heap.size ≤ k ∧ Y k)) w' vr' [] ∧ Fr (LgT w0 X) w w' ∧ ToldK r1 dn' dv' l la s h' A p.B Q [] (i + 1) := by
      intro r1 h' dn' dv' ht hc
      refine (then_switch H p.what p.n p.bit hwf.1 hwf.2 hsw p.x va vr p.B hb hc).mono ?_
      rintro e w' ⟨rfl, hL, hf⟩
      exact ⟨r1, h', dn', dv', p.x, _, X, rfl, fun _ h => h, hL, keepB hb hf (fun _ h => h), ⟨none, 0, rfl, Nat.le_refl _, by omega, by simp, fun h => absurd rfl h⟩, hf, ht⟩
    by_cases hfit : p.B.length ≤ 64 * la
    · refine go _ _ _ _ (K.switch hs hi p.B hfit) fun W Y hL hF => ?_
      refine (gSwitch hL hok hr p.x p.B (hb.keep hF (fun k hk _ (h : w.heap.size ≤ k) => by omega)) hfit (by omega) K.up K.waits (by omega)).mono ?_
      rintro e w' ⟨rfl, hL', hf⟩
      exact ⟨rfl, hL', hf⟩
    · refine go 3 h false dv (.inl ⟨rfl, rfl, K.next⟩) fun W Y hL hF => ?_
      refine (jSwitch_long (D := fun _ => False) W jn g s l la d h p.x p.B hok.l8 hok.la8 hr hL.jrn (hb.keep hF (fun k hk _ (h : w.heap.size ≤ k) => by omega)) (by omega)).mono ?_
      rintro e w' ⟨rfl, hf⟩
      exact ⟨rfl, hL.quiet hf, hf.mono (fun _ _ h => h.elim)⟩
  · have e1 : thenB p A = A := by unfold thenB; rw [if_neg hsw]
    have e2 : thenR p Q = Q ++ [p.B] := by unfold thenR; rw [if_neg hsw]
    rw [e1, e2]
    have hQn : Q.length ≤ 100000 := by have := recs_many K.kp; omega
    have hQB : ∀ Y ∈ Q ++ [p.B], Y.length ≤ 140737488351232 := by
      intro Y hY
      rcases List.mem_append.1 hY with h | h
      · obtain ⟨_, _, _, _, _, h3, _⟩ := hq
        exact h3 Y h
      · rw [List.mem_singleton.1 h]; omega
    have go : ∀ (r1 : Int) (h' : Hd) (dn' : Bool) (dv' : Dv), ToldK r1 dn' dv' l la s h' A A Q (Q ++ [p.B]) (i + 1) →
        (∀ (W : World) (Y : Nat → Prop), LgAt w0 W jn g s l la d h false dv Y → Fr (fun k => w.heap.size ≤ k) w W → Calls Tryz.prog 21 #[.pointer (some ⟨jn, 0, none⟩), p.x] W fun e w' => e = .returned (.int .i64 r1) ∧ LgAt w0 w' jn g s l la d h' dn' dv' Y ∧ Fr (LgT w0 Y) W w') →
        Calls Tryz.prog 14 #[.agg #[va, vr], .pointer (some ⟨jn, 0, none⟩), .agg #[.int .i64 p.what, .int .i64 p.n, .int .i64 p.bit, p.x]] w fun e w' => ∃ (r1 : Int) (h' : Hd) (dn' : Bool) (dv' : Dv) (va' vr' : Value) (Y : Nat → Prop), e = .returned (.tuple #[.agg #[va', vr'], .int .i64 r1]) ∧ (∀ k, X k → Y k) ∧ LgAt w0 w' jn g s l la d h' dn' dv' Y ∧ BytesIn (fun k => F k ∨ (w.heap.size ≤ k ∧ Y k)) w' va' A ∧ RowsIn (fun k => F k ∨ (w.heap.size ≤ k ∧ Y k)) w' vr' (Q ++ [p.B]) ∧ Fr (LgT w0 X) w w' ∧ ToldK r1 dn' dv' l la s h' A A Q (Q ++ [p.B]) (i + 1) := by
      intro r1 h' dn' dv' ht hc
      refine (then_append (F := F) H hFS p.what p.n p.bit hwf.1 hwf.2 hsw p.x va vr A p.B Q hb ha hq hQn hQB hc).mono ?_
      rintro e w' ⟨v6, Y, rfl, hXY, hL, hR, hf⟩
      exact ⟨r1, h', dn', dv', va, v6, Y, rfl, hXY, hL, keepB ha hf hXY, hR, hf, ht⟩
    by_cases hfit : h.used + (recB p.B).length ≤ 64 * l
    · refine go _ _ _ _ (K.append hs hi p.B hfit) fun W Y hL hF => ?_
      refine (gAppend hL hok hr p.x p.B (by omega) (hb.keep hF (fun k hk _ (h : w.heap.size ≤ k) => by omega)) (by omega) (by omega) K.up K.waits (by omega)).mono ?_
      rintro e w' ⟨rfl, hL', hf⟩
      exact ⟨rfl, hL', hf⟩
    · refine go 3 h false dv (.inl ⟨rfl, rfl, K.next⟩) fun W Y hL hF => ?_
      refine (jAppend_long (D := fun _ => False) W jn g s l la d h p.x p.B dv hok.l8 hr hr.used (by omega) hL.jrn (hb.keep hF (fun k hk _ (h : w.heap.size ≤ k) => by omega)) (by have := hr.used; omega) trivial).mono ?_
      rintro e w' ⟨rfl, hf⟩
      exact ⟨rfl, hL.quiet hf, hf.mono (fun _ _ h => h.elim)⟩
end Go.Proofs.YtabgklcghghoiaaGreat

