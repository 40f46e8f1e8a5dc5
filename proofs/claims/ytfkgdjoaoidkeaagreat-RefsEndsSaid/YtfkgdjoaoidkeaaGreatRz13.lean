/- Laid together: FlatLib Lent -/
import Derived.Test.YtfkgdjoaoidkeaaGreatRz12
import Derived.ArgAppend
import Derived.Test.YtfkgdjoaoidkeaaGreatRz0
import Derived.Test.YtfkgdjoaoidkeaaGreatRows
import Derived.Deep.LoopGhost

namespace Go.Proofs.YtfkgdjoaoidkeaaGreat
open Go.RowKit Go.ChangeShapes
set_option linter.unusedVariables false
theorem OwnB.store {F : Nat → Prop} {w : World} {g m cap : Nat} {L : List UInt8} (h : OwnB F w (.slice (some ⟨g, 0, none⟩) m cap) L) (i : Nat) (b : UInt8) :
    OwnB F (w.setCell ⟨g, i, none⟩ (bv b)) (.slice (some ⟨g, 0, none⟩) m cap) (L.set i b) := by
  obtain ⟨ao, c, hv⟩ := h.len
  simp only [Value.slice.injEq] at hv
  obtain ⟨_, hm, _⟩ := hv
  subst hm
  refine ⟨?_, h.2⟩
  have := (World.ownsRow.stored h.1 i (bv b)).1
  rw [← List.map_set] at this
  simpa using this
theorem OwnB.head {F : Nat → Prop} {w : World} {ao : Option Addr} {m cap : Nat} {L : List UInt8} (h : OwnB F w (.slice ao m cap) L) (n : Nat) (hn : n ≤ L.length) (hz : ao ≠ none) : OwnB F w (.slice ao n cap) (L.take n) := by
  rcases h.1.2 with ⟨hv, _⟩ | ⟨g, cap', cur, hv, hb, hg, hnc, hcm, hcs, ht⟩
  · simp only [Value.slice.injEq] at hv
    exact absurd hv.1 hz
  · simp only [Value.slice.injEq] at hv
    obtain ⟨rfl, _, rfl⟩ := hv
    have hl : (L.take n).length = n := by rw [List.length_take]; omega
    refine ⟨⟨by simp, .inr ⟨g, cap, cur, by rw [hl], hb, hg, by omega, hcm, hcs, ?_⟩⟩, fun k hk => h.2 k hk⟩
    rw [hl, List.map_take, ← ht, List.take_take]
    congr 1
    omega
theorem run_append_keep {F G : Nat → Prop} (w : World) (ty : TypeId) (v x : Value) (L X : List UInt8) (hown : OwnB F w v L) (hx : BytesIn G w x X) (hb : L.length + X.length ≤ 140737488355328) :
    ∃ v' w', (Builtin.append_ #[22, 22] ty #[v, x]).run Tryz.prog w = .ok v' w' ∧ OwnB F w' v L ∧ OwnB (fun k => v.ownBlock = some k ∨ w.heap.size ≤ k) w' v' (L ++ X) ∧ w.grownBy w' v.ownBlock := by
  obtain ⟨i0, hi, hz0, hz1, hz2⟩ := info_parts Tryz.infoB
  obtain ⟨ao, cap, rfl, hl, hm, hn, hc⟩ := hx
  have hmx : L.length + X.length ≤ maxLen := by unfold maxLen; omega
  cases ao with
  | none =>
    obtain rfl := hn rfl
    obtain rfl : X = [] := List.eq_nil_of_length_eq_zero (by omega)
    have hr := run_append_owned_none (P := Tryz.prog) (w := w) 0 22 ty 5 i0 1 Tryz.underlying22 hi v L.length _ hown.1
    refine ⟨v, w, hr, hown, ?_, World.grownBy.refl _ _⟩
    rw [List.append_nil]
    exact ⟨hown.1, fun g hg => .inl hg⟩
  | some a =>
    rcases hown.1.2 with ⟨rfl, h0⟩ | ⟨g, vc, cur, rfl, hbase, hg, hnc, hcm, hcs, ht⟩
    · obtain rfl : L = [] := List.eq_nil_of_length_eq_zero h0
      obtain ⟨v', w', hr, h2, h3, h4, h5⟩ := run_append_own_at (P := Tryz.prog) w 0 22 ty 5 i0 (.int .u8 0) 1 1 Tryz.underlying22 hi hz0 hz1 hz2 rfl (by decide) (.slice none 0 0) 0 [] hown.1 a X.length cap (X.map bv)
        (by simp) (hc a rfl).1 (bv_one X) (by simpa using hmx) (by simp at hb; omega) (Nat.zero_le _)
      refine ⟨v', w', hr, OwnB.nil _ _, ⟨by simpa using h2, fun g hg => ?_⟩, h3⟩
      rcases h5 with h5 | h5
      · rw [hg] at h5; cases h5
      · rw [hg] at h5; exact .inr (by have := Option.some.inj h5; omega)
    · by_cases hroom : L.length + X.length ≤ vc
      · obtain ⟨w', hr, h2, h3⟩ := run_append_fits (P := Tryz.prog) (w := w) 0 22 ty 5 i0 1 Tryz.underlying22 hi hz1 g L.length vc _ hown.1 a X.length cap (X.map bv) (by simp) (hc a rfl).1 (bv_one X) hroom
        have h4 : OwnB (fun k => (Value.slice (some ⟨g, 0, none⟩) L.length vc).ownBlock = some k ∨ w.heap.size ≤ k) w' (.slice (some ⟨g, 0, none⟩) (L.length + X.length) vc) (L ++ X) :=
          ⟨by rw [List.length_append, List.map_append]; exact h2, fun k hk => .inl hk⟩
        refine ⟨_, w', hr, ?_, h4, h3⟩
        have := h4.head L.length (by simp) (by simp)
        rw [List.take_left] at this
        exact ⟨this.1, hown.2⟩
      · obtain ⟨v', w', hr, h2, h3⟩ := run_append_arg_grows (P := Tryz.prog) w 22 ty 5 i0 (.int .u8 0) 1 1 Tryz.underlying22 hi hz0 hz1 hz2 rfl (by decide) ⟨g, 0, none⟩ L.length vc (L.map bv) (by simp) (hown.1.cells (g := g) rfl)
          a X.length cap (X.map bv) (by simp) (hc a rfl).1 (by omega) hmx (by omega)
        have hlt := lt_of_block hg
        refine ⟨v', w', hr, ?_, ⟨?_, fun k hk => .inr (h2.lt k hk).1⟩, ?_⟩
        · exact hown.keep (S := fun _ => False) ((Fr.refl _ w).grown h3 (fun k hk => by cases hk)) (fun _ _ _ h => h)
        · rw [List.length_append, List.map_append]
          exact ⟨h2.1, h2.2.imp id (fun ⟨g', c', cur', r1, r2, r3⟩ => ⟨g', c', cur', r1, Nat.zero_le _, r3⟩)⟩
        · exact ⟨h3.os, h3.tape, h3.output, h3.size, fun k hk _ => h3.block k hk (by simp)⟩
theorem wpList_append_keep {F G : Nat → Prop} (w : World) {ops : Array Oper} {rest : List Oper} {o : Oper} {a : Act} {Q : Exit → Act → World → Prop} (hgd : o.guard = none) (s x : Operand)
    (hop : o.op = Op.call { callee := Callee.builtin Builtin.append, args := #[s, x], argTypes := #[22, 22] })
    (v y : Value) (L X : List UInt8) (hs : a.eval s = v) (hx : a.eval x = y) (hown : OwnB F w v L) (hX : BytesIn G w y X) (hb : L.length + X.length ≤ 140737488355328)
    (hK : ∀ v' w', OwnB F w' v L → OwnB (fun k => v.ownBlock = some k ∨ w.heap.size ≤ k) w' v' (L ++ X) → w.grownBy w' v.ownBlock → wpList Tryz.prog ops Q rest (a.put o.dst v') w') : wpList Tryz.prog ops Q (o :: rest) a w := by
  refine wpList_plain hgd fun K hK' => ?_
  subst hs; subst hx
  obtain ⟨v', w', hr, h1, h2, h3⟩ := run_append_keep w o.type _ _ L X hown hX hb
  unfold Oper.wp
  simp [execOp, hop, resolve, invoke, builtin, hr, Result.andThen]
  exact hK' _ _ (hK v' w' h1 h2 h3)
def marks (k m : Nat) : List UInt8 := (List.range m).map (mB k)
theorem marks_length (k m : Nat) : (marks k m).length = m := by simp [marks]
theorem marks_succ (k m : Nat) : marks k (m + 1) = marks k m ++ [mB k m] := by simp [marks, List.range_succ]
theorem marks_get (k m i : Nat) (h : i < m) : (marks k m)[i]? = some (mB k i) := by
  simp [marks, h]
def RowsB (w : World) (n : Nat) (X : Nat → Value) (Lf : Nat → List UInt8) : Prop := ∀ j, j < n → OwnB (fun _ => True) w (X j) (Lf j)
def DistB (n : Nat) (X : Nat → Value) : Prop := ∀ i j, i < n → j < n → i ≠ j → ∀ g, (X i).ownBlock = some g → (X j).ownBlock ≠ some g
def BlksB (n : Nat) (X : Nat → Value) (b : Nat) : Prop := ∃ j, j < n ∧ (X j).ownBlock = some b
theorem OwnB.keep' {F S : Nat → Prop} {w w' : World} {v : Value} {L : List UInt8} (h : OwnB F w v L) (hf : Fr S w w') (hd : ∀ g, v.ownBlock = some g → ¬ S g) : OwnB F w' v L := by
  have h1 : OwnB (fun k => v.ownBlock = some k) w v L := ⟨h.1, fun g hg => hg⟩
  have h2 := h1.keep hf (fun k _ hk => hd k hk)
  exact ⟨h2.1, h.2⟩
theorem RowsB.keep {S : Nat → Prop} {w w' : World} {n : Nat} {X : Nat → Value} {Lf : Nat → List UInt8} (h : RowsB w n X Lf) (hf : Fr S w w') (hd : ∀ b, BlksB n X b → ¬ S b) : RowsB w' n X Lf :=
  fun j hj => (h j hj).keep' hf (fun g hg => hd g ⟨j, hj, hg⟩)
theorem RowsB.congr {w : World} {n : Nat} {X : Nat → Value} {Lf Mf : Nat → List UInt8} (h : RowsB w n X Lf) (e : ∀ j, j < n → Lf j = Mf j) : RowsB w n X Mf := fun j hj => e j hj ▸ h j hj
theorem RowsB.turn {w w' : World} {n k : Nat} {X : Nat → Value} {Lf : Nat → List UInt8} {M : List UInt8} (h : RowsB w n X Lf) (hD : DistB n X) (hk : k < n) (hf : Fr (fun b => (X k).ownBlock = some b) w w') (hM : OwnB (fun _ => True) w' (X k) M) :
    RowsB w' n X (fun j => if j = k then M else Lf j) := by
  intro j hj
  by_cases e : j = k
  · subst e
    simpa using hM
  · simp only [e, if_false]
    exact (h j hj).keep' hf (fun g hg hk' => hD j k hj hk e g hg hk')
def ph1 (L : Nat → List UInt8) (k i : Nat) : Nat → List UInt8 := fun j => if j < k then marks j (L j).length else if j = k then marks k i ++ (L k).drop i else L j
theorem ph1_zero (L : Nat → List UInt8) (k : Nat) (j : Nat) : ph1 L k 0 j = if j < k then marks j (L j).length else L j := by
  unfold ph1
  split
  · rfl
  · split
    · subst_vars; simp [marks]
    · rfl
theorem ph1_end (L : Nat → List UInt8) (k : Nat) (j : Nat) : ph1 L k (L k).length j = ph1 L (k + 1) 0 j := by
  rw [ph1_zero]
  unfold ph1
  by_cases h1 : j < k
  · simp [h1, show j < k + 1 by omega]
  · by_cases h2 : j = k
    · subst h2; simp
    · simp [h1, h2, show ¬ j < k + 1 by omega]
theorem ph1_len (L : Nat → List UInt8) (k i j : Nat) (hi : i ≤ (L k).length) : (ph1 L k i j).length = (L j).length := by
  unfold ph1
  split
  · rw [marks_length]
  · split
    · subst_vars; rw [List.length_append, marks_length, List.length_drop]; omega
    · rfl
theorem ph1_set (L : Nat → List UInt8) (k i : Nat) (hi : i < (L k).length) : (ph1 L k i k).set i (mB k i) = ph1 L k (i + 1) k := by
  unfold ph1
  simp only [Nat.lt_irrefl, if_false, if_true]
  rw [marks_succ, List.set_append_right (h := by rw [marks_length]; exact Nat.le_refl _), marks_length, Nat.sub_self, List.drop_eq_getElem_cons hi, List.set_cons_zero, List.append_assoc]
  rfl
theorem OwnB.form {F : Nat → Prop} {w : World} {v : Value} {L : List UInt8} (h : OwnB F w v L) (hL : 0 < L.length) :
    ∃ g cap, v = .slice (some ⟨g, 0, none⟩) L.length cap ∧ L.length ≤ cap ∧ cap ≤ maxLen ∧ F g ∧ ∀ i, i < L.length → w.cell? ⟨g, i, none⟩ = some (.int .u8 (L.getD i 0).toNat) ∧ w.frozen? ⟨g, i, none⟩ = false := by
  rcases h.1.2 with ⟨_, h0⟩ | ⟨g, cap, cur, hv, hb, hg, hnc, hcm, hcs, ht⟩
  · omega
  · subst hv
    refine ⟨g, cap, rfl, hnc, hcm, h.2 g rfl, fun i hi => ⟨?_, World.ownsRow.frozenAt h.1 i⟩⟩
    rw [World.ownsRow.cellAt h.1 i (by omega), List.getElem?_map, List.getElem?_eq_getElem hi]
    simp [bv, List.getD, List.getElem?_eq_getElem hi]
theorem OwnB.follow {F G K : Nat → Prop} {w w' : World} {v x : Value} {L M : List UInt8} {g : Nat} (hv : OwnB F w v L) (hx : OwnB G w x M) (hvg : v.ownBlock = some g) (hxg : x.ownBlock = some g) (hl : M.length ≤ L.length) (hv' : OwnB K w' v L) : OwnB G w' x M := by
  rcases hv.1.2 with ⟨rfl, _⟩ | ⟨g1, c1, u1, rfl, _, hg1, hn1, hm1, hs1, ht1⟩
  · cases hvg
  rcases hx.1.2 with ⟨rfl, _⟩ | ⟨g2, c2, u2, rfl, _, hg2, hn2, hm2, hs2, ht2⟩
  · cases hxg
  simp only [Value.ownBlock, Option.some.injEq] at hvg hxg
  subst hvg; subst hxg
  rw [hg1] at hg2
  simp only [Option.some.injEq, Obj.cells.injEq, and_true] at hg2
  subst hg2
  obtain rfl : c1 = c2 := by omega
  have hh := hv'.head M.length hl (by simp)
  refine ⟨?_, hx.2⟩
  have e : M.map bv = (L.take M.length).map bv := by
    rw [List.map_take, ← ht1, List.take_take, ← ht2]
    congr 1
    omega
  have := hh.1
  rw [← e, List.length_take, Nat.min_eq_left hl] at this
  exact this
def GsAt (w : World) (gb n : Nat) (G : Nat → Value) : Prop := w.ownsRow 0 22 1 (.slice (some ⟨gb, 0, none⟩) n n) n ((List.range n).map G)
theorem GsAt.keep {S : Nat → Prop} {w w' : World} {gb n : Nat} {G : Nat → Value} (h : GsAt w gb n G) (hf : Fr S w w') (hd : ¬ S gb) : GsAt w' gb n G := by
  refine ⟨h.1, ?_⟩
  rcases h.2 with h1 | ⟨g, cap, cur, hv, hb, hg, r⟩
  · exact .inl h1
  · have : gb = g := by simp only [Value.slice.injEq, Option.some.injEq, Addr.mk.injEq] at hv; exact hv.1.1
    subst this
    exact .inr ⟨gb, cap, cur, hv, hb, hf.heap hg hd, r⟩
theorem GsAt.lt {w : World} {gb n : Nat} {G : Nat → Value} (h : GsAt w gb n G) : gb < w.heap.size := (World.ownsRow.lt h gb rfl).2
theorem GsAt.cell {w : World} {gb n : Nat} {G : Nat → Value} (h : GsAt w gb n G) (j : Nat) (hj : j < n) : w.cell? ⟨gb, j, none⟩ = some (G j) ∧ w.frozen? ⟨gb, j, none⟩ = false := by
  refine ⟨?_, World.ownsRow.frozenAt h j⟩
  rw [World.ownsRow.cellAt h j (by omega)]
  simp [hj]
theorem GsAt.store {w : World} {gb n : Nat} {G : Nat → Value} (h : GsAt w gb n G) (k : Nat) (v : Value) : GsAt (w.setCell ⟨gb, k, none⟩ v) gb n (fun j => if j = k then v else G j) := by
  have := (World.ownsRow.stored h k v).1
  unfold GsAt
  have e : (List.range n).map (fun j => if j = k then v else G j) = ((List.range n).map G).set k v := by
    apply List.ext_getElem?
    intro i
    rw [List.getElem?_set]
    by_cases hi : i < n
    · by_cases hik : k = i
      · subst hik; simp [hi]
      · simp [hi, hik, Ne.symm hik]
    · simp [hi]
      intro hki
      omega
  rw [e]
  exact this
theorem Tryz.infoS : (Tryz.prog.info? 22).map (fun i => (i.zero, i.size, i.bytes)) = some (some (.slice none 0 0), 1, 24) := by kernel_rfl
theorem grow_row {wo w1 w2 : World} {x v v' : Value} {L M N : List UInt8} {K : Nat → Prop} (hv : OwnB (fun b => x.ownBlock = some b ∨ wo.heap.size ≤ b) w1 v L) (hx : OwnB (fun _ => True) w1 x M) (hl : M.length ≤ L.length)
    (hf : Fr (fun b => x.ownBlock = some b) wo w1) (hv2 : OwnB K w2 v L) (hn : OwnB (fun b => v.ownBlock = some b ∨ w1.heap.size ≤ b) w2 v' N) (hg : w1.grownBy w2 v.ownBlock) :
    OwnB (fun b => x.ownBlock = some b ∨ wo.heap.size ≤ b) w2 v' N ∧ OwnB (fun _ => True) w2 x M ∧ Fr (fun b => x.ownBlock = some b) wo w2 := by
  refine ⟨hn.mono (fun b _ hb => ?_), ?_, hf.grown hg (fun b hb => hv.2 b hb)⟩
  · rcases hb with hb | hb
    · exact hv.2 b hb
    · exact .inr (Nat.le_trans hf.size hb)
  · cases hvo : v.ownBlock with
    | none =>
      rw [hvo] at hg
      exact hx.keep' ((Fr.refl (fun _ => False) w1).grown hg (fun b hb => by cases hb)) (fun _ _ h => h)
    | some g =>
      by_cases hxg : x.ownBlock = some g
      · exact hv.follow hx hvo hxg hl hv2
      · rw [hvo] at hg
        exact hx.keep' ((Fr.refl (fun b => b = g) w1).grown hg (fun b hb => .inl (Option.some.inj hb).symm)) (fun b hb e => hxg (by rw [hb, e]))
theorem grow_made {wo w1 : World} {x v : Value} {L M : List UInt8} (o : Obj) (hv : OwnB (fun b => x.ownBlock = some b ∨ wo.heap.size ≤ b) w1 v L) (hx : OwnB (fun _ => True) w1 x M)
    (hf : Fr (fun b => x.ownBlock = some b) wo w1) :
    OwnB (fun b => x.ownBlock = some b ∨ wo.heap.size ≤ b) (w1.alloc o) v L ∧ OwnB (fun _ => True) (w1.alloc o) x M ∧ Fr (fun b => x.ownBlock = some b) wo (w1.alloc o) :=
  ⟨hv.keep' ((Fr.refl (fun _ => False) w1).alloc o) (fun _ _ h => h), hx.keep' ((Fr.refl (fun _ => False) w1).alloc o) (fun _ _ h => h), hf.alloc o⟩
def FlAt (w wr : World) (n k gb : Nat) (X : Nat → Value) (L : Nat → List UInt8) (G : Nat → Value) (Mf : Nat → List UInt8) : Prop :=
  GsAt wr gb n G ∧ RowsB wr n X (fun j => marks j (L j).length) ∧ (∀ j, j < k → OwnB (fun b => (X j).ownBlock = some b ∨ gb < b) wr (G j) (Mf j)) ∧ Fr (BlksB n X) w wr
theorem FlAt.drew {w wr : World} {n k gb : Nat} {X : Nat → Value} {L : Nat → List UInt8} {G : Nat → Value} {Mf : Nat → List UInt8} (h : FlAt w wr n k gb X L G Mf) : FlAt w wr.drew n k gb X L G Mf :=
  ⟨h.1, h.2.1, h.2.2.1, h.2.2.2.drew⟩
theorem FlAt.drewN {w wr : World} {n k gb : Nat} {X : Nat → Value} {L : Nat → List UInt8} {G : Nat → Value} {Mf : Nat → List UInt8} (h : FlAt w wr n k gb X L G Mf) (q : Nat) : FlAt w (wr.drewN q) n k gb X L G Mf :=
  ⟨h.1, h.2.1, h.2.2.1, h.2.2.2.drewN q⟩
def fill64 (q i : Nat) : List UInt8 := marks q i ++ List.replicate (64 - i) 0
theorem fill64_zero (q : Nat) : fill64 q 0 = List.replicate 64 0 := by simp [fill64, marks]
theorem fill64_end (q : Nat) : fill64 q 64 = marks q 64 := by simp [fill64]
theorem fill64_len (q i : Nat) (h : i ≤ 64) : (fill64 q i).length = 64 := by
  unfold fill64
  rw [List.length_append, marks_length, List.length_replicate]; omega
theorem fill64_set (q i : Nat) (h : i < 64) : (fill64 q i).set i (mB q i) = fill64 q (i + 1) := by
  unfold fill64
  rw [marks_succ, List.set_append_right (h := by rw [marks_length]; exact Nat.le_refl _), marks_length, Nat.sub_self, show 64 - i = (64 - (i + 1)) + 1 by omega, List.replicate_succ, List.set_cons_zero, List.append_assoc]
  rfl
theorem fill64_made : (madeCells #[Value.int .u8 0] 64).toList = (List.replicate 64 (0 : UInt8)).map bv := by
  rw [toList_madeCells_one, List.map_replicate]
  rfl
theorem marks_app (k m i : Nat) (R : List UInt8) (h : i < m) : (marks k m ++ R)[i]? = some (mB k i) := by
  rw [List.getElem?_append_left (by rw [marks_length]; exact h)]
  exact marks_get k m i h
theorem mark_quiet (k i : Nat) (w : World) (q : Nat) (hk : k ≤ 1000000000) (hi : i ≤ 1000000000000000) :
    Calls Tryz.prog 24 #[.int .i64 k, .int .i64 i] (w.drewN q) fun e w' => e = .returned (.int .u8 (mB k i).toNat) ∧ w' = w.drewN q :=
  (markByte_any k i (w.drewN q) hk hi).mono fun _ _ ⟨h, e⟩ => ⟨h, e.symm⟩
theorem FlAt.store {w wo wi : World} {n k gb : Nat} {X : Nat → Value} {L : Nat → List UInt8} {G : Nat → Value} {Mf : Nat → List UInt8} {v : Value} (h : FlAt w wo n k gb X L G Mf) (hk : k < n) (hD : DistB n X)
    (hXB : ∀ j, j < n → ∀ b, (X j).ownBlock = some b → b < gb) (hGB : w.heap.size ≤ gb)
    (hv : OwnB (fun b => (X k).ownBlock = some b ∨ wo.heap.size ≤ b) wi v (Mf k)) (hx : OwnB (fun _ => True) wi (X k) (marks k (L k).length)) (hf : Fr (fun b => (X k).ownBlock = some b) wo wi) :
    FlAt w (wi.setCell ⟨gb, k, none⟩ v) n (k + 1) gb X L (fun j => if j = k then v else G j) Mf := by
  obtain ⟨h1, h2, h3, h4⟩ := h
  have hlt := h1.lt
  have hgk : (X k).ownBlock ≠ some gb := fun e => by have := hXB k hk gb e; omega
  have hs : Fr (fun b => b = gb) wi (wi.setCell ⟨gb, k, none⟩ v) := (Fr.refl (fun b => b = gb) wi).setCell (p := ⟨gb, k, none⟩) (.inl rfl) v
  refine ⟨(h1.keep hf hgk).store k v, ?_, ?_, ?_⟩
  · intro j hj
    have hj1 : OwnB (fun _ => True) wi (X j) (marks j (L j).length) := by
      by_cases e : j = k
      · subst e; exact hx
      · exact (h2 j hj).keep' hf (fun g hg hk' => hD j k hj hk e g hg hk')
    exact hj1.keep' hs (fun g hg e => by have := hXB j hj g hg; omega)
  · intro j hj
    by_cases e : j = k
    · subst e
      show OwnB _ _ (if j = j then v else G j) _
      rw [if_pos rfl]
      refine (hv.mono (G := fun b => (X j).ownBlock = some b ∨ gb < b) (fun b _ hb => hb.imp id (fun h => by omega))).keep' hs (fun g hg e => ?_)
      rcases hv.2 g hg with h | h
      · exact hgk (by rw [h, e])
      · omega
    · show OwnB _ _ (if j = k then v else G j) _
      rw [if_neg e]
      refine ((h3 j (by omega)).keep' hf (fun g hg hk' => ?_)).keep' hs (fun g hg e' => ?_)
      · rcases (h3 j (by omega)).2 g hg with h | h
        · exact hD j k (by omega) hk e g h hk'
        · have := hXB k hk g hk'; omega
      · rcases (h3 j (by omega)).2 g hg with h | h
        · have := hXB j (by omega) g h; omega
        · omega
  · refine (h4.trans hf (fun b hb => .inl ⟨k, hk, hb⟩)).setCell (p := ⟨gb, k, none⟩) (.inr hGB) v
end Go.Proofs.YtfkgdjoaoidkeaaGreat
namespace Go.Proofs.YtfkgdjoaoidkeaaGreat
open Go.RowKit Go.ChangeShapes
set_option linter.unusedVariables false
theorem one_b (w : World) (z : Int) (x : UInt8) (hz : z = x.toNat) : BytesIn (fun k => k = w.heap.size) (w.alloc (.cells #[.int .u8 z] 5)) (.slice (some ⟨w.heap.size, 0, none⟩) 1 1) [x] := by
  subst hz
  refine ⟨_, 1, rfl, Nat.le_refl _, by simp [maxLen], (fun h => by cases h), ?_⟩
  intro a ha
  cases ha
  refine ⟨fun j u hu => ?_, fun _ => rfl⟩
  match j, hu with
  | 0, hu =>
    simp at hu
    subst hu
    have := heap_alloc_new w (.cells #[bv x] 5)
    simp only [Addr.add, if_true]
    exact cell_of_one this
def LentAt (F : Nat → Prop) (w : World) (g c : Nat) (L : List UInt8) : Prop :=
  L.length + 12 ≤ c ∧ c ≤ maxLen ∧ OwnB F w (.slice (some ⟨g, 0, none⟩) (L.length + 12) c) (L ++ marks 1 12)
set_option maxHeartbeats 1000000 in
theorem LentBytes_any {G : Nat → Prop} (x : Value) (L : List UInt8) (w : World) (hx : BytesIn G w x L) (hL : L.length ≤ 1000000000) :
    Calls Tryz.prog 6 #[x] w fun e w' => ∃ g c, e = .returned (.slice (some ⟨g, 0, none⟩) L.length c) ∧ LentAt (fun k => w.heap.size ≤ k) w' g c L ∧ Fr (fun _ => False) w w' := by
  obtain ⟨ao, cp, hv, h1, hm, h2, h3⟩ := hx
  have HX0 := Lib.hid (show BytesIn G w (.slice ao L.length cp) L from ⟨ao, cp, rfl, h1, hm, h2, h3⟩)
  obtain ⟨n, hn⟩ : ∃ n, n = L.length := ⟨_, rfl⟩
  subst hv
  clear h1 h2 h3 hm
  rw [← hn] at HX0 hL ⊢
  have HN := Lib.hid hn
  clear hn
  obtain ⟨i1, hi1, hz0, hz1, hz2⟩ := info_parts Tryz.infoB
  have HI1 := Lib.hid (And.intro hi1 (And.intro hz0 (And.intro hz1 hz2)))
  clear hi1 hz0 hz1 hz2
  go_enter Tryz.func6, Tryz.ntmps6
  go_wp2_with (first
    | (at_make; refine wpList_make_own w rfl (.const (.int .i64 0)) (.tmp 7) 22 rfl 0 5 i1 (.int .u8 0) 1 Tryz.underlying22 HI1.out.1 HI1.out.2.1 HI1.out.2.2.1 .i64 .i64 ((n : Int) + 12) (n + 12) rfl rfl (by omega) (by rw [HI1.out.2.2.2]; omega) (by unfold maxLen; omega) (Nat.zero_le _) ?_; intro w2 ho2 hg2; have HO2 := Lib.hid (show OwnB (fun k => w.heap.size ≤ k) w2 (.slice (some ⟨w.heap.size, 0, none⟩) 0 (n + 12)) [] from ⟨ho2, fun g hg => by simp only [Value.ownBlock, Option.some.injEq] at hg; omega⟩); have HF2 := Lib.hid ((Fr.refl (fun _ => False) w).grown hg2 (fun k hk => by cases hk)); clear ho2 hg2)
    | (at_builtin; refine wpList_append_bytes (F := fun k => w.heap.size ≤ k) (G := G) _ rfl (.tmp 9) (.tmp 10) rfl _ _ [] L rfl rfl HO2.out (HX0.out.keep HF2.out (fun _ _ _ h => h)) (by rw [← HN.out]; simp; omega) ?_; intro v3 w3 ho3 hg3 hn3; have HS3 : Hid (OwnB (fun k => w.heap.size ≤ k) w3 v3 (L ++ marks 1 0) ∧ Fr (fun _ => False) w w3) := Lib.hid ⟨by have h := ho3.mono (G := fun k => w.heap.size ≤ k) (fun k _ h => h.elim id (fun h => Nat.le_trans HF2.out.size h)); simpa [marks] using h, HF2.out.grown hg3 (fun k hk => .inr (HO2.out.2 k hk))⟩; clear ho3 hg3 hn3)
    | fail)
  go_loopw [3, 4] (fun gv iv wi => ∃ i : Nat, i ≤ 12 ∧ iv = .int .i64 i ∧ Hid (OwnB (fun k => w.heap.size ≤ k) wi gv (L ++ marks 1 i) ∧ Fr (fun _ => False) w wi)) (fun _ iv _ => 12 - (intOf iv).toNat)
  case atStart => exact ⟨0, by omega, rfl, HS3⟩
  case round =>
    obtain ⟨i, hi, rfl, hw⟩ := hrel
    clear HS3 HO2 HF2 HX0
    by_cases hil : i < 12
    · have HMB : Hid (∀ w', Calls Tryz.prog 24 #[.int .i64 1, .int .i64 (i : Int)] w' fun e w'' => e = .returned (bv (mB 1 i)) ∧ w' = w'') := Lib.hid fun w' => markByte_any 1 i w' (by omega) (by omega)
      have HBV := Lib.hid (show bv (mB 1 i) = .int .u8 (mB 1 i).toNat from rfl)
      have HP := Lib.hid (hw.out.1.keep' ((Fr.refl (fun _ => False) wr).alloc (.cells #[.int .u8 (mB 1 i).toNat] 5)) (fun _ _ h => h))
      have HQ := Lib.hid (hw.out.2.alloc (.cells #[.int .u8 (mB 1 i).toNat] 5))
      have HOB := Lib.hid (one_b wr _ (mB 1 i) rfl)
      have HLN := Lib.hid (show (L ++ marks 1 i).length + [mB 1 i].length ≤ 140737488355328 by rw [List.length_append, marks_length, ← HN.out]; simp; omega)
      clear hw
      go_wp2_with (first
        | (go_at_call 24; refine (HMB.out _).mono ?_; rintro e w' ⟨rfl, rfl⟩; rw [HBV.out])
        | (at_builtin; refine wpList_append_bytes (F := fun k => w.heap.size ≤ k) (G := fun b => b = wr.heap.size) _ rfl (.tmp 16) (.tmp 19) rfl _ _ (L ++ marks 1 i) [mB 1 i] rfl rfl HP.out HOB.out HLN.out ?_; intro v5 w5 ho5 hg5 hn5; have HS5 : Hid (OwnB (fun k => w.heap.size ≤ k) w5 v5 (L ++ marks 1 (i + 1)) ∧ Fr (fun _ => False) w w5) := Lib.hid ⟨by have h := ho5.mono (G := fun k => w.heap.size ≤ k) (fun k _ h => h.elim id (fun h => Nat.le_trans HQ.out.size h)); rwa [List.append_assoc, ← marks_succ] at h, HQ.out.grown hg5 (fun k hk => .inr (HP.out.2 k hk))⟩; clear ho5 hg5 hn5)
        | fail)
      go_roundw
      case rel => exact ⟨i + 1, by omega, by go_num, HS5⟩
      case measure => simp [intOf]; omega
    · obtain rfl : i = 12 := by omega
      obtain ⟨g, c, hv, hc1, hc2, hc3, _⟩ := hw.out.1.form (by rw [List.length_append, marks_length]; omega)
      rw [List.length_append, marks_length, ← HN.out] at hv hc1
      subst hv
      have HS := Lib.hid hw.out
      have HC2 := Lib.hid hc2
      clear hw hc3 hc2
      go_wp2
      go_ret
      exact ⟨g, c, rfl, ⟨by rw [← HN.out]; exact hc1, HC2.out, by rw [← HN.out]; exact HS.out.1⟩, HS.out.2⟩
end Go.Proofs.YtfkgdjoaoidkeaaGreat
