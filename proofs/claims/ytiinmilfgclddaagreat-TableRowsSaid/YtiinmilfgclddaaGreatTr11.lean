/- Laid together by merge.py: JRowP TRow TRow2 -/
import Derived.Test.YtiinmilfgclddaaGreatTr2
import Derived.Test.YtiinmilfgclddaaGreatTr10
import Derived.Test.YtiinmilfgclddaaGreatTr9
import Derived.Deep.RegionHeld3

/- Rows of byte slices: what reads as one, what the call makes of them (out of Take, RowL, EndsLib, for seats without hash). -/
namespace Go.Proofs.YtiinmilfgclddaaGreat
open Go.RowKit Go.ChangeShapes
set_option linter.unusedVariables false

theorem Tryz.infoS5 : (Tryz.prog.info? 43).map (fun i => (i.zero, i.size, i.bytes)) = some (some (.slice none 0 0), 1, 24) := by kernel_rfl
/-- A slice value that reads as a row of rows of bytes. -/
def RowsIn (F : Nat → Prop) (w : World) (v : Value) (P : List (List UInt8)) : Prop :=
  ∃ ao cap, v = .slice ao P.length cap ∧ P.length ≤ cap ∧ cap ≤ 9223372036854775807 ∧ (∀ X ∈ P, X.length ≤ 140737488351232) ∧
    (P ≠ [] → ∃ b off, ao = some ⟨b, off, none⟩ ∧ F b ∧ ∀ i (h : i < P.length), ∃ x, w.cell? ⟨b, off + i, none⟩ = some x ∧ BytesIn F w x P[i])
theorem RowsIn.keep {F S : Nat → Prop} {w w' : World} {v : Value} {P : List (List UInt8)} (h : RowsIn F w v P) (hf : Fr S w w') (hd : ∀ k, k < w.heap.size → F k → ¬ S k) : RowsIn F w' v P := by
  obtain ⟨ao, cap, hv, h1, h2, h3, h4⟩ := h
  refine ⟨ao, cap, hv, h1, h2, h3, fun hl => ?_⟩
  obtain ⟨b, off, ha, hF, hi⟩ := h4 hl
  refine ⟨b, off, ha, hF, fun i h => ?_⟩
  obtain ⟨x, hx, hb⟩ := hi i h
  exact ⟨x, hf.cell hx (hd b (World.block_lt_of_cell? _ _ hx) hF), hb.keep hf hd⟩
/-- append of one value onto a row that the call owns. -/
theorem run_append_val (z : Nat) (w : World) (ty : TypeId) (v y : Value) (vs : List Value) (h : Nat) (hown : w.ownsRow z 43 1 v vs.length vs) (hcell : w.cell? ⟨h, 0, none⟩ = some y) (hy : y.oneCell' = true) (hk : vs.length ≤ 1000000) (hz : z ≤ w.heap.size) :
    ∃ v' w', (Builtin.append_ #[38, 38] ty #[v, .slice (some ⟨h, 0, none⟩) 1 1]).run Tryz.prog w = .ok v' w' ∧ w'.ownsRow z 43 1 v' (vs.length + 1) (vs ++ [y]) ∧ w.grownBy w' v.ownBlock ∧ (v'.ownBlock = v.ownBlock ∨ v'.ownBlock = some w.heap.size) := by
  obtain ⟨i0, hi, hz0, hz1, hz2⟩ := info_parts Tryz.infoS5
  obtain ⟨v', w', hr, h2, h3, h4, h5⟩ := run_append_own_at (P := Tryz.prog) w z 38 ty 43 i0 (.slice none 0 0) 1 24 Tryz.underlying38 hi hz0 hz1 hz2 rfl (by decide) v vs.length _ hown ⟨h, 0, none⟩ 1 1 [y]
    rfl (by
      intro j u hu
      match j, hu with
      | 0, hu =>
        simp at hu
        subst hu
        simpa [Addr.add] using hcell) (by simpa using hy) (by unfold maxLen; omega) (by omega) hz
  exact ⟨v', w', hr, h2, h3, h5⟩
theorem wpList_append_val (z : Nat) (w : World) {ops : Array Oper} {rest : List Oper} {o : Oper} {a : Act} {Q : Exit → Act → World → Prop} (hgd : o.guard = none) (s x : Operand)
    (hop : o.op = Op.call { callee := Callee.builtin Builtin.append, args := #[s, x], argTypes := #[38, 38] })
    (v y : Value) (vs : List Value) (h : Nat) (hs : a.eval s = v) (hx : a.eval x = .slice (some ⟨h, 0, none⟩) 1 1) (hown : w.ownsRow z 43 1 v vs.length vs) (hcell : w.cell? ⟨h, 0, none⟩ = some y) (hy : y.oneCell' = true) (hk : vs.length ≤ 1000000) (hz : z ≤ w.heap.size)
    (hK : ∀ v' w', w'.ownsRow z 43 1 v' (vs.length + 1) (vs ++ [y]) → w.grownBy w' v.ownBlock → (v'.ownBlock = v.ownBlock ∨ v'.ownBlock = some w.heap.size) → wpList Tryz.prog ops Q rest (a.put o.dst v') w') : wpList Tryz.prog ops Q (o :: rest) a w := by
  refine wpList_plain hgd fun K hK' => ?_
  subst hs
  obtain ⟨v', w', hr, h1, h2, h3⟩ := run_append_val z w o.type _ _ vs h hown hcell hy hk hz
  unfold Oper.wp
  simp [execOp, hop, resolve, invoke, builtin, hx, hr, Result.andThen]
  exact hK' _ _ (hK v' w' h1 h2 h3)

theorem ownsRow_keep {S : Nat → Prop} {w w' : World} {z n : Nat} {e : TypeId} {v : Value} {vs : List Value} (h : w.ownsRow z e 1 v n vs) (hf : Fr S w w') (hd : ∀ g, v.ownBlock = some g → ¬ S g) : w'.ownsRow z e 1 v n vs := by
  refine ⟨h.1, ?_⟩
  rcases h.2 with h1 | ⟨g, cap, cur, hv, hb, hg, r⟩
  · exact .inl h1
  · exact .inr ⟨g, cap, cur, hv, hb, hf.heap hg (hd g (by rw [hv]; rfl)), r⟩
theorem ownsRow_form {w : World} {z n : Nat} {v : Value} {vs : List Value} (h : w.ownsRow z 43 1 v n vs) : ∃ ao c, v = .slice ao n c ∧ n ≤ c ∧ c ≤ 9223372036854775807 ∧ (0 < n → ∃ g, ao = some ⟨g, 0, none⟩ ∧ z ≤ g ∧ g < w.heap.size ∧ ∀ j (hj : j < vs.length), w.cell? ⟨g, j, none⟩ = some vs[j]) := by
  have hl : vs.length = n := by simpa using h.1
  rcases h.2 with ⟨rfl, h0⟩ | ⟨g, cap, cur, rfl, hb, hg, hnc, hcm, hcs, ht⟩
  · exact ⟨none, 0, by rw [h0], by omega, by omega, fun hn => by omega⟩
  · unfold maxLen at hcm
    exact ⟨_, cap, rfl, hnc, by omega, fun _ => ⟨g, rfl, hb, lt_of_block hg, fun j hj => by
      rw [World.ownsRow.cellAt h j (by omega), List.getElem?_eq_getElem hj]⟩⟩

/-- Rows that are made one by one. -/
def MadeAt (z : Nat) (w : World) (v : Value) (P : List (List UInt8)) : Prop :=
  ∃ vs : List Value, vs.length = P.length ∧ w.ownsRow z 43 1 v P.length vs ∧ ∀ i (h1 : i < vs.length) (h2 : i < P.length), BytesIn (fun k => z ≤ k ∧ v.ownBlock ≠ some k) w vs[i] P[i]
theorem MadeAt.nil (z : Nat) (w : World) : MadeAt z w (.slice none 0 0) [] := ⟨[], rfl, World.ownsRow_nil _ _ _ _, fun i h => by simp at h⟩
theorem MadeAt.snoc {z : Nat} {w w2 w5 : World} {v v5 : Value} {P : List (List UInt8)} {vs : List Value} {y : Value} {L : List UInt8} (hl : vs.length = P.length)
    (hi : ∀ i (h1 : i < vs.length) (h2 : i < P.length), BytesIn (fun k => z ≤ k ∧ v.ownBlock ≠ some k) w vs[i] P[i])
    (hf : Fr (fun _ => False) w w2) (hg : BytesIn (fun k => z ≤ k ∧ v.ownBlock ≠ some k) w2 y L)
    (ho : w5.ownsRow z 43 1 v5 (vs.length + 1) (vs ++ [y])) (hgr : w2.grownBy w5 v.ownBlock) (hb : v5.ownBlock = v.ownBlock ∨ v5.ownBlock = some w2.heap.size) : MadeAt z w5 v5 (P ++ [L]) := by
  have hf5 : Fr (fun k => v.ownBlock = some k) w2 w5 := (Fr.refl _ w2).grown hgr (fun k hk => .inl hk)
  have hne : ∀ k, k < w2.heap.size → z ≤ k ∧ v.ownBlock ≠ some k → z ≤ k ∧ v5.ownBlock ≠ some k := fun k hk h1 => ⟨h1.1, fun h2 => by
    rcases hb with hb | hb
    · exact h1.2 (by rw [← hb, h2])
    · rw [hb] at h2; injection h2 with h2; omega⟩
  have go : ∀ (y : Value) (L : List UInt8), BytesIn (fun k => z ≤ k ∧ v.ownBlock ≠ some k) w2 y L → BytesIn (fun k => z ≤ k ∧ v5.ownBlock ≠ some k) w5 y L := fun y L h =>
    ((h.mono (G := fun k => (z ≤ k ∧ v.ownBlock ≠ some k) ∧ k < w2.heap.size) (fun k hk h => ⟨h, hk⟩)).keep hf5 (fun k hk h1 h2 => h1.1.2 h2)).mono (fun k hk h => hne k h.2 h.1)
  refine ⟨vs ++ [y], by simp [hl], by rw [List.length_append, ← hl]; exact ho, fun i h1 h2 => ?_⟩
  by_cases h : i < vs.length
  · have ep : (P ++ [L])[i] = P[i]'(by omega) := List.getElem_append_left (by omega)
    rw [List.getElem_append_left h, ep]
    exact go _ _ ((hi i h (by omega)).keep hf (fun _ _ _ h => h))
  · have h1' : i = vs.length := by simp at h1; omega
    subst h1'
    have ep : (P ++ [L])[vs.length] = L := by rw [List.getElem_append_right (by omega)]; simp [hl]
    rw [ep]
    simp only [List.getElem_append_right (Nat.le_refl _), Nat.sub_self, List.getElem_cons_zero]
    exact go _ _ hg
theorem MadeAt.keep {z : Nat} {w w' : World} {v : Value} {P : List (List UInt8)} (h : MadeAt z w v P) (hf : Fr (fun _ => False) w w') : MadeAt z w' v P := by
  obtain ⟨vs, hl, ho, hi⟩ := h
  exact ⟨vs, hl, ownsRow_keep ho hf (fun _ _ h => h), fun i h1 h2 => (hi i h1 h2).keep hf (fun _ _ _ h => h)⟩
theorem MadeAt.rows {z : Nat} {w : World} {v : Value} {P : List (List UInt8)} (h : MadeAt z w v P) (hP : ∀ X ∈ P, X.length ≤ 140737488351232) : RowsIn (fun k => k < w.heap.size) w v P := by
  obtain ⟨vs, hl, ho, hi⟩ := h
  obtain ⟨ao, c, rfl, h1, h2, h3⟩ := ownsRow_form ho
  refine ⟨ao, c, rfl, h1, h2, hP, fun hne => ?_⟩
  obtain ⟨g, rfl, hg1, hg2, hc⟩ := h3 (List.length_pos_iff.2 hne)
  exact ⟨g, 0, rfl, hg2, fun i hil => ⟨vs[i]'(by omega), by rw [Nat.zero_add]; exact hc i (by omega), (hi i (by omega) hil).mono (fun k hk h => hk)⟩⟩
end Go.Proofs.YtiinmilfgclddaaGreat

/- table's rows: lengths; keys and values that may be. -/
namespace Go.Proofs.YtiinmilfgclddaaGreat
open Go.RowKit Go.ChangeShapes
set_option linter.unusedVariables false

theorem recB_len (X : Bs) : (recB X).length = (numBytes 5 X.length).length + X.length := by unfold recB; rw [List.length_append]
theorem mkNum_one (n : Nat) (h : n ≤ 1099511627776) : mkNum n (some []) = some (numBytes 5 n) := by
  unfold mkNum
  rw [if_pos ⟨by omega, by omega⟩]
  simp
set_option maxRecDepth 100000 in
set_option maxHeartbeats 1000000 in
theorem textLength_any {F : Nat → Prop} (w : World) (v : Value) (X : Bs) (hb : BytesIn F w v X) (hX : X.length ≤ 1000000000) :
    Calls Tryz.prog 72 #[v] w fun e w' => e = .returned (.int .i64 ((recB X).length : Nat)) ∧ Fr (fun _ => False) w w' := by
  obtain ⟨ao, cap, rfl, _⟩ := hb
  rw [recB_len]
  obtain ⟨n, hn⟩ : ∃ n, n = X.length := ⟨_, rfl⟩
  rw [← hn] at hX ⊢
  clear hn
  obtain ⟨W1, hW1⟩ : ∃ W1, W1 = w.alloc (.cells #[.pointer none, .int .i64 0, .bool false] 146) := ⟨_, rfl⟩
  obtain ⟨W2, hW2⟩ : ∃ W2, W2 = W1.alloc (.cells #[.int .i64 n] 3) := ⟨_, rfl⟩
  have hf1 : Fr (fun _ => False) w W1 := by rw [hW1]; exact (Fr.refl _ _).alloc _
  have hf2 : Fr (fun _ => False) w W2 := by rw [hW2]; exact hf1.alloc _
  have hz1 : W1.heap.size = w.heap.size + 1 := by rw [hW1]; simp
  have hz2 : W2.heap.size = w.heap.size + 2 := by rw [hW2]; simp [hz1]
  have hm : MakAt (fun k => w.heap.size ≤ k) W2 w.heap.size (some []) := ⟨Nat.le_refl _, 146, .inl ⟨rfl, by rw [hW2]; exact ((Fr.refl (fun _ => False) W1).alloc _).heap (by rw [hW1]; exact heap_alloc_new w _) id⟩⟩
  have hs : W2.cell? ⟨w.heap.size + 1, 0, none⟩ = some (.int .i64 n) := by rw [hW2, ← hz1]; exact cell_of_one (heap_alloc_new W1 _)
  have hnum := makerNum_any (F := fun k => w.heap.size ≤ k) (n : Int) W2 (fun k hk => by omega) hm hs (fun L hL => by cases hL; simp)
  rw [mkNum_one n (by omega)] at hnum
  have HNUM := Lib.hid hnum
  have HW := Lib.hid (And.intro hW1 (And.intro hW2 hf2))
  have hq := (numBytes_len 5 n).2
  obtain ⟨q, hqq⟩ : ∃ q, q = (numBytes 5 n).length := ⟨_, rfl⟩
  have HQ := Lib.hid hqq
  rw [← hqq] at hq ⊢
  clear hW1 hW2 hf1 hf2 hz1 hz2 hm hs hnum hqq
  go_enter Tryz.func72, Tryz.ntmps72
  go_wp2_with (first
    | (go_at_call 79; rw [← HW.out.1, ← HW.out.2.1]; refine HNUM.out.mono ?_; rintro e w1 ⟨rfl, hf1, hm1⟩; (have H1 := Lib.hid (And.intro hf1 hm1)); clear hf1 hm1)
    | (go_at_call 80; refine (done_yes w1 H1.out.2 (by rw [← HQ.out]; omega)).mono ?_; rintro e w2 ⟨v, rfl, hf2, ho2⟩; obtain ⟨a2, c2, rfl⟩ := ho2.len; rw [← HQ.out]; (have H2 := Lib.hid (H1.out.1.trans hf2 (fun _ h => h.elim))); clear hf2 ho2))
  go_ret
  exact ⟨by rw [show ((q + n : Nat) : Int) = (q : Int) + n from by push_cast; rfl]; rfl, HW.out.2.2.trans H2.out (fun k h => .inr h)⟩
set_option maxRecDepth 100000 in
theorem isKey_any (w : World) (N : ByteArray) (hN : N.size ≤ 1000000000000) :
    Calls Tryz.prog 65 #[.string N] w fun e w' => e = .returned (.bool (decide (1 ≤ N.size ∧ N.size ≤ 64))) ∧ w' = w := by
  by_cases h1 : 1 ≤ N.size
  · have d1 : decide ((1 : Int) ≤ (N.size : Int)) = true := by rw [decide_eq_true_iff]; omega
    by_cases h2 : N.size ≤ 64
    · have d2 : decide ((N.size : Int) ≤ (64 : Int)) = true := by rw [decide_eq_true_iff]; omega
      go_enter Tryz.func65, Tryz.ntmps65
      go_wp2
      go_ret
      exact ⟨by simp [h1, h2], rfl⟩
    · have d2 : decide ((N.size : Int) ≤ (64 : Int)) = false := by rw [decide_eq_false_iff_not]; omega
      go_enter Tryz.func65, Tryz.ntmps65
      go_wp2
      go_ret
      exact ⟨by simp [h1, h2], rfl⟩
  · have d1 : decide ((1 : Int) ≤ (N.size : Int)) = false := by rw [decide_eq_false_iff_not]; omega
    go_enter Tryz.func65, Tryz.ntmps65
    go_wp2
    go_ret
    exact ⟨by simp [h1], rfl⟩
theorem isVal_any (w : World) (ao : Option Addr) (n cap : Nat) :
    Calls Tryz.prog 66 #[.slice ao n cap] w fun e w' => e = .returned (.bool (decide (n ≤ 2048))) ∧ w' = w := by
  by_cases h2 : n ≤ 2048
  · have d2 : decide ((n : Int) ≤ (2048 : Int)) = true := by rw [decide_eq_true_iff]; omega
    go_enter Tryz.func66, Tryz.ntmps66
    go_wp2
    go_ret
    exact ⟨by simp [h2], rfl⟩
  · have d2 : decide ((n : Int) ≤ (2048 : Int)) = false := by rw [decide_eq_false_iff_not]; omega
    go_enter Tryz.func66, Tryz.ntmps66
    go_wp2
    go_ret
    exact ⟨by simp [h2], rfl⟩
set_option maxRecDepth 100000 in
set_option maxHeartbeats 1000000 in
/-- rowLength. -/
theorem rowLength_any {F : Nat → Prop} (w : World) (N : ByteArray) (v : Value) (b : Bs) (hN : N.size ≤ 1000000) (hv : BytesIn F w v b) (hb : b.length ≤ 1000000) :
    Calls Tryz.prog 104 #[.string N, v] w fun e w' => e = .returned (.int .i64 (rowLen (N.data.toList, b) : Nat)) ∧ Fr (fun _ => False) w w' := by
  obtain ⟨ao, cap, rfl, _⟩ := id hv
  have HV := Lib.hid hv
  have hNl := size_list N
  have q1 : (recB N.data.toList).length ≤ 1100000 := by have := (numBytes_len 5 N.data.toList.length).2; rw [recB_len]; omega
  have q2 : (recB b).length ≤ 1100000 := by have := (numBytes_len 5 b.length).2; rw [recB_len]; omega
  obtain ⟨x, hx⟩ : ∃ x, x = (recB N.data.toList).length := ⟨_, rfl⟩
  obtain ⟨y, hy⟩ : ∃ y, y = (recB b).length := ⟨_, rfl⟩
  have hr : rowLen (N.data.toList, b) = x + y := by rw [hx, hy]; rfl
  have HX := Lib.hid (And.intro hx (And.intro hy (And.intro hNl (And.intro hN hb))))
  rw [hr]
  rw [← hx] at q1
  rw [← hy] at q2
  obtain ⟨cap3, w3, hcv, hf3, hb3, _⟩ := run_tag w N (by unfold maxLen; omega)
  have H3 := Lib.hid (And.intro hf3 (And.intro hb3 (hv.keep hf3 (fun _ _ _ h => h))))
  have HL := Lib.hid (And.intro hNl (And.intro hN hb))
  clear hv hr hx hy hNl hN hb hf3 hb3
  go_enter Tryz.func104, Tryz.ntmps104
  go_wp2_with (first
    | (go_at_call 72; (with_reducible refine (textLength_any w3 (.slice (some ⟨w.heap.size, 0, none⟩) N.size cap3) N.data.toList H3.out.2.1 (by have := HL.out; omega)).mono ?_); rintro e w4 ⟨rfl, hf4⟩; rw [← HX.out.1]; (have H4 := Lib.hid (And.intro (H3.out.1.trans hf4 (fun _ h => h.elim)) (H3.out.2.2.keep hf4 (fun _ _ _ h => h)))); clear hf4)
    | (go_at_call 72; (with_reducible refine (textLength_any w4 _ b H4.out.2 (by have := HL.out; omega)).mono ?_); rintro e w5 ⟨rfl, hf5⟩; rw [← HX.out.2.1]; (have H5 := Lib.hid (H4.out.1.trans hf5 (fun _ h => h.elim))); clear hf5))
  go_ret
  exact ⟨by rw [show ((x + y : Nat) : Int) = (x : Int) + y from by push_cast; rfl]; rfl, H5.out⟩
/-- The rows of a table: at block rb the map mb, and how many bytes they have (then other cells); their values lie in blocks of F. -/
structure RwAt (F : Nat → Prop) (w : World) (rb mb : Nat) (M : Tab) (T : TypeId) (rest : List Value) : Prop where
  row : w.heap[rb]? = some (.cells (.map (some mb) :: .int .i64 (tSum M : Nat) :: rest).toArray T (0, 0))
  tm : TMt F w mb M
  ok : tabOk M
  small : M.length ≤ 100000
  sep : rb ≠ mb ∧ ¬ F rb ∧ ¬ F mb
theorem tSum_le {M : Tab} (h : ∀ p ∈ M, keyOk p.1 ∧ p.2.length ≤ 2048) : tSum M ≤ 2200 * M.length := by
  induction M with
  | nil => simp [tSum]
  | cons p M ih =>
    have h1 := ih (fun q hq => h q (List.mem_cons_of_mem _ hq))
    have h2 := h p List.mem_cons_self
    rw [tSum_cons, List.length_cons]
    have : rowLen p ≤ 2200 := by
      unfold rowLen
      rw [recB_len, recB_len]
      have := (numBytes_len 5 p.1.length).2
      have := (numBytes_len 5 p.2.length).2
      have := h2.1.2
      omega
    omega
theorem cell_list {w : World} {g i : Nat} {l : List Value} {T : TypeId} {v : Value} (h : w.heap[g]? = some (.cells l.toArray T (0, 0))) (hi : l[i]? = some v) : w.cell? ⟨g, i, none⟩ = some v := by
  rw [cell_of_row _ _ _ _ _ _ h]
  simpa using hi
section
variable {F G S : Nat → Prop} {w w' : World} {rb mb : Nat} {M : Tab} {T : TypeId} {rest : List Value}
theorem RwAt.cells (h : RwAt F w rb mb M T rest) : w.cell? ⟨rb, 0, none⟩ = some (.map (some mb)) ∧ w.cell? ⟨rb, 1, none⟩ = some (.int .i64 (tSum M : Nat)) ∧ w.frozen? ⟨rb, 1, none⟩ = false :=
  ⟨cell_list h.row rfl, cell_list h.row rfl, by simp [World.frozen?, h.row]⟩
theorem RwAt.lt (h : RwAt F w rb mb M T rest) : rb < w.heap.size ∧ mb < w.heap.size := ⟨lt_of_block h.row, h.tm.lt⟩
theorem RwAt.sum (h : RwAt F w rb mb M T rest) : tSum M ≤ 220000000 := by
  have := tSum_le h.ok.2
  have := h.small
  omega
theorem RwAt.keep (h : RwAt F w rb mb M T rest) (hf : Fr S w w') (h1 : ¬ S rb) (h2 : ¬ S mb) (hd : ∀ k, k < w.heap.size → F k → ¬ S k) : RwAt F w' rb mb M T rest :=
  ⟨hf.heap h.row h1, h.tm.keep hf h2 hd, h.ok, h.small, h.sep⟩
theorem RwAt.quiet (h : RwAt F w rb mb M T rest) (hf : Fr (fun _ => False) w w') : RwAt F w' rb mb M T rest := h.keep hf id id (fun _ _ _ h => h)
end
set_option maxRecDepth 100000 in
theorem many_any {F : Nat → Prop} {rb mb : Nat} {M : Tab} {T : TypeId} {rest : List Value} (w : World) (h : RwAt F w rb mb M T rest) :
    Calls Tryz.prog 42 #[.pointer (some ⟨rb, 0, none⟩)] w fun e w' => e = .returned (.int .i64 M.length) ∧ w' = w := by
  obtain ⟨c0, c1, f1⟩ := h.cells
  have hlen := h.tm.len
  clear h
  go_enter Tryz.func42, Tryz.ntmps42
  go_wp2
  go_ret
  exact ⟨rfl, rfl⟩
set_option maxRecDepth 100000 in
theorem get_any {F : Nat → Prop} {rb mb : Nat} {M : Tab} {T : TypeId} {rest : List Value} (w : World) (h : RwAt F w rb mb M T rest) (N : ByteArray) (hN : N.size ≤ 1000000) :
    Calls Tryz.prog 77 #[.pointer (some ⟨rb, 0, none⟩), .string N] w fun e w' => ∃ v, e = .returned (.tuple #[v, .bool (tGet M N.data.toList).isSome]) ∧ w' = w ∧ (∀ b, tGet M N.data.toList = some b → BytesIn F w v b) ∧ (tGet M N.data.toList = none → v = .slice none 0 0) := by
  obtain ⟨c0, c1, f1⟩ := h.cells
  obtain ⟨v, hlk, h1, h2⟩ := h.tm.look N hN
  have H := Lib.hid (And.intro h1 h2)
  obtain ⟨g, hg⟩ : ∃ g, g = (tGet M N.data.toList).isSome := ⟨_, rfl⟩
  rw [← hg] at hlk ⊢
  clear h h1 h2 hg hN
  go_enter Tryz.func77, Tryz.ntmps77
  go_wp2
  refine bodyPost_ret (v := .tuple #[v, .bool g]) (by simp [results, Tryz.results77, go_sem]) rfl ⟨v, rfl, rfl, H.out.1, H.out.2⟩
end Go.Proofs.YtiinmilfgclddaaGreat

/- table's rows: how long they are; drop, put, now. -/
namespace Go.Proofs.YtiinmilfgclddaaGreat
open Go.RowKit Go.ChangeShapes
set_option linter.unusedVariables false

set_option maxRecDepth 100000 in
set_option maxHeartbeats 1000000 in
theorem length_any {F : Nat → Prop} {rb mb : Nat} {M : Tab} {T : TypeId} {rest : List Value} (w : World) (h : RwAt F w rb mb M T rest) :
    Calls Tryz.prog 43 #[.pointer (some ⟨rb, 0, none⟩)] w fun e w' => e = .returned (.int .i64 (tLen M : Nat)) ∧ Fr (fun _ => False) w w' := by
  have hs := h.sum
  have hsm := h.small
  have htl : tLen M = (numBytes 5 M.length).length + tSum M := rfl
  rw [htl]
  obtain ⟨n, hn⟩ : ∃ n, n = M.length := ⟨_, rfl⟩
  obtain ⟨t, ht⟩ : ∃ t, t = tSum M := ⟨_, rfl⟩
  obtain ⟨W1, hW1⟩ : ∃ W1, W1 = w.alloc (.cells #[.pointer none, .int .i64 0, .bool false] 146) := ⟨_, rfl⟩
  obtain ⟨W2, hW2⟩ : ∃ W2, W2 = W1.alloc (.cells #[.int .i64 n] 3) := ⟨_, rfl⟩
  have hf1 : Fr (fun _ => False) w W1 := by rw [hW1]; exact (Fr.refl _ _).alloc _
  have hf2 : Fr (fun _ => False) w W2 := by rw [hW2]; exact hf1.alloc _
  have hz1 : W1.heap.size = w.heap.size + 1 := by rw [hW1]; simp
  have hz2 : W2.heap.size = w.heap.size + 2 := by rw [hW2]; simp [hz1]
  have hm : MakAt (fun k => w.heap.size ≤ k) W2 w.heap.size (some []) := ⟨Nat.le_refl _, 146, .inl ⟨rfl, by rw [hW2]; exact ((Fr.refl (fun _ => False) W1).alloc _).heap (by rw [hW1]; exact heap_alloc_new w _) id⟩⟩
  have hs2 : W2.cell? ⟨W1.heap.size, 0, none⟩ = some (.int .i64 n) := by rw [hW2]; exact cell_of_one (heap_alloc_new W1 _)
  have hnum := makerNum_any (F := fun k => w.heap.size ≤ k) (n : Int) W2 (fun k hk => by omega) hm hs2 (fun L hL => by cases hL; simp)
  rw [mkNum_one n (by omega)] at hnum
  have HNUM := Lib.hid hnum
  have hq := (numBytes_len 5 n).2
  obtain ⟨q, hqq⟩ : ∃ q, q = (numBytes 5 n).length := ⟨_, rfl⟩
  have HQ := Lib.hid hqq
  have HM := Lib.hid (many_any W1 (h.quiet hf1))
  rw [← hn] at HM
  have HW := Lib.hid (And.intro hW1 (And.intro hW2 hf2))
  have HR := Lib.hid h
  have HT := Lib.hid ht
  have hrl := h.lt.1
  rw [← hn, ← hqq, ← ht]
  rw [← hqq] at hq
  rw [← ht] at hs
  clear hW1 hW2 hf1 hf2 hz1 hz2 hm hs2 hnum hqq h hn ht htl hsm
  go_enter Tryz.func43, Tryz.ntmps43
  go_wp2_with (first
    | (go_at_call 42; rw [← HW.out.1]; refine HM.out.mono ?_; rintro e w0 ⟨rfl, rfl⟩)
    | (go_at_call 79; rw [← HW.out.2.1]; refine HNUM.out.mono ?_; rintro e w1 ⟨rfl, hf1, hm1⟩; (have H1 := Lib.hid (And.intro hf1 hm1)); clear hf1 hm1)
    | (go_at_call 80; refine (done_yes w1 H1.out.2 (by rw [← HQ.out]; omega)).mono ?_; rintro e w2 ⟨v, rfl, hf2, ho2⟩; obtain ⟨a2, c2, rfl⟩ := ho2.len; rw [← HQ.out]; (have H2 := Lib.hid (HW.out.2.2.trans (H1.out.1.trans hf2 (fun _ h => h.elim)) (fun k h => .inr h))); (obtain ⟨c0, c1, f1⟩ := (HR.out.quiet H2.out).cells); rw [← HT.out] at c1; clear hf2 ho2))
  go_ret
  exact ⟨by rw [show ((q + t : Nat) : Int) = (q : Int) + t from by push_cast; rfl]; rfl, H2.out⟩
/-- 'delete(m, k)', at a plain region's list. -/
theorem wpList_del6 {F : Nat → Prop} {w : World} {mb : Nat} {M : Tab} {ops : Array Oper} {rest : List Oper} {o : Oper} {a : Act} {Q : Exit → Act → World → Prop} (hg : o.guard = none) (m x : Operand) (hop : o.op = Op.call { callee := Callee.builtin Builtin.delete, args := #[m, x], argTypes := #[79, 9] })
    (h : TMt F w mb M) (hM : Tab.Ok M) (N : ByteArray) (hN : N.size ≤ 1000000) (hF : ¬ F mb) (hm : a.eval m = .map (some mb)) (hx : a.eval x = .string N)
    (hK : ∀ w', TMt F w' mb (tDel M N.data.toList) → Fr (fun k => k = mb) w w' → wpList Tryz.prog ops Q rest (a.put o.dst (.tuple #[])) w') : wpList Tryz.prog ops Q (o :: rest) a w := by
  refine wpList_plain hg fun K' hK' => ?_
  obtain ⟨w', hrun, r1, r2⟩ := h.del hM N hN hF o.type
  unfold Oper.wp
  simp [execOp, hop, resolve, invoke, builtin, hm, hx, hrun, Result.andThen]
  exact hK' _ _ (hK w' r1 r2)
theorem tDel_le (M : Tab) (k : Bs) : (tDel M k).length ≤ M.length := List.length_filter_le _ _
theorem tabOk.del {M : Tab} (h : tabOk M) (k : Bs) : tabOk (tDel M k) := ⟨h.1.del k, fun p hp => h.2 p (List.mem_filter.1 hp).1⟩
theorem set_row1 {w : World} {rb : Nat} {x y z : Value} {rest : List Value} {T : TypeId} (h : w.heap[rb]? = some (.cells (x :: y :: rest).toArray T (0, 0))) : (w.setCell ⟨rb, 1, none⟩ z).heap[rb]? = some (.cells (x :: z :: rest).toArray T (0, 0)) := by
  rw [cell_put z h]
  simp
set_option maxRecDepth 100000 in
set_option maxHeartbeats 2000000 in
theorem drop_any {F : Nat → Prop} {rb mb : Nat} {M : Tab} {T : TypeId} {rest : List Value} (w : World) (h : RwAt F w rb mb M T rest) (N : ByteArray) (hN : N.size ≤ 64) :
    Calls Tryz.prog 68 #[.pointer (some ⟨rb, 0, none⟩), .string N] w fun e w' => e = .returned (.tuple #[]) ∧ RwAt F w' rb mb (tDel M N.data.toList) T rest ∧ Fr (fun k => k = rb ∨ k = mb) w w' := by
  obtain ⟨c0, c1, f1⟩ := h.cells
  obtain ⟨v, hlk, h1, h2⟩ := h.tm.look N (by omega)
  cases hg : tGet M N.data.toList with
  | none =>
    rw [hg] at hlk
    have H := Lib.hid (show RwAt F w rb mb (tDel M N.data.toList) T rest by rw [tDel_none hg]; exact h)
    clear h h1 h2 hg
    go_enter Tryz.func68, Tryz.ntmps68
    go_wp2
    go_end0
    exact ⟨rfl, H.out, Fr.refl _ _⟩
  | some b =>
    rw [hg] at hlk
    have hb := h1 b hg
    have hd := tDel_sum h.ok.1 hg
    have hbl := (h.ok.2 _ (tGet_mem hg)).2
    have hmx := h.sum
    have hsep := h.sep
    have hlt := h.lt
    have HR := Lib.hid (rowLength_any w.drew N v b (by omega) (show BytesIn F w.drew v b from hb) (by have := hbl; simp only at this; omega))
    obtain ⟨l, hl⟩ : ∃ l, l = rowLen (N.data.toList, b) := ⟨_, rfl⟩
    obtain ⟨t, ht⟩ : ∃ t, t = tSum M := ⟨_, rfl⟩
    obtain ⟨t2, ht2⟩ : ∃ t2, t2 = tSum (tDel M N.data.toList) := ⟨_, rfl⟩
    rw [← hl] at HR hd
    rw [← ht] at hd c1 hmx
    rw [← ht2] at hd
    have hsub : (t : Int) - (l : Int) = (t2 : Int) := by omega
    have hwr : IntKind.i64.wrap (t2 : Int) = (t2 : Int) := IntWalk.i64_in _ (by omega)
    have H := Lib.hid h
    have HT := Lib.hid (And.intro ht ht2)
    have HNN := Lib.hid hN
    obtain ⟨ab, nb, cb, rfl⟩ : ∃ a n c, v = .slice a n c := by obtain ⟨a, c, e, _⟩ := hb; exact ⟨a, _, c, e⟩
    have hne : rb ≠ mb := hsep.1
    have hrow := h.row
    clear h h1 h2 hg hb hd hbl hsep hlt hl ht ht2 hN hrow
    go_enter Tryz.func68, Tryz.ntmps68
    go_wp2_with fail
    go_region_with (first
        | (go_at_call 104; refine HR.out.mono ?_; rintro e w1 ⟨rfl, hf1⟩; (have H1 := Lib.hid (And.intro (H.out.quiet hf1.ofDrew) hf1.ofDrew)); (obtain ⟨c0, c1, f1⟩ := H1.out.1.cells); (rw [← HT.out.1] at c1); clear hf1))
    all_goals (
      obtain ⟨W2, hW2⟩ : ∃ W, W = w1.setCell ⟨rb, 1, none⟩ (.int .i64 (t2 : Nat)) := ⟨_, rfl⟩
      have hp : Fr (fun k => k = rb) w1 W2 := by rw [hW2]; exact Fr.cell1 w1 rb 1 _
      have hrow2 : W2.heap[rb]? = some (.cells (.map (some mb) :: .int .i64 (t2 : Nat) :: rest).toArray T (0, 0)) := by rw [hW2]; exact set_row1 H1.out.1.row
      have HT2 := Lib.hid (And.intro (H1.out.1.tm.keep hp (fun e => hne e.symm) (fun k _ hk e => H1.out.1.sep.2.1 (e ▸ hk))) (And.intro hp hrow2))
      have d0 : W2.cell? ⟨rb, 0, none⟩ = some (.map (some mb)) := cell_list hrow2 rfl
      rw [← hW2]
      clear hW2 hp hrow2
      go_wp2_with (at_delete; refine wpList_del6 rfl (.tmp 29) (.tmp 30) rfl HT2.out.1 H.out.ok.1 N (by have := HNN.out; omega) H.out.sep.2.2 rfl rfl ?_; intro w3 htm3 hf3; (have H3 := Lib.hid (And.intro htm3 hf3)); clear htm3 hf3)
      go_end0
      have hr3 := H3.out.2.heap HT2.out.2.2 (fun e => hne e)
      rw [HT.out.2] at hr3
      exact ⟨rfl, ⟨hr3, H3.out.1, H.out.ok.del _, Nat.le_trans (tDel_le _ _) H.out.small, H.out.sep⟩, (((H1.out.2.mono (T := fun k => k = rb ∨ k = mb) (fun _ _ h => h.elim)).trans HT2.out.2.1 (fun k h => .inl (.inl h))).trans H3.out.2 (fun k h => .inl (.inr h)) : Fr (fun k => k = rb ∨ k = mb) w w3)⟩)
theorem tPut_le (M : Tab) (k v : Bs) : (tPut M k v).length ≤ M.length + 1 := by
  induction M with
  | nil => simp [tPut]
  | cons p M ih =>
    unfold tPut
    split
    · simp
    · split
      · simp
      · simp only [List.length_cons]; omega
theorem tabOk.put {M : Tab} (h : tabOk M) {k v : Bs} (hk : keyOk k) (hv : v.length ≤ 2048) : tabOk (tPut M k v) := ⟨h.1.put k v, fun p hp => by
  rcases tPut_keys hp with rfl | hp
  · exact ⟨hk, hv⟩
  · exact h.2 p hp⟩
set_option maxRecDepth 100000 in
set_option maxHeartbeats 2000000 in
theorem put_any6 {F G : Nat → Prop} {rb mb : Nat} {M : Tab} {T : TypeId} {rest : List Value} (w : World) (h : RwAt F w rb mb M T rest) (N : ByteArray) (hN : keyOk N.data.toList) (v : Value) (b : Bs) (hv : BytesIn G w v b) (hbl : b.length ≤ 2048) (hG : ¬ G mb) (hg : tGet M N.data.toList = none) (hsm : M.length + 1 ≤ 100000) :
    Calls Tryz.prog 69 #[.pointer (some ⟨rb, 0, none⟩), .string N, v] w fun e w' => e = .returned (.tuple #[]) ∧ RwAt (fun k => F k ∨ (w.heap.size ≤ k ∧ k < w'.heap.size)) w' rb mb (tPut M N.data.toList b) T rest ∧ Fr (fun k => k = rb ∨ k = mb) w w' := by
  obtain ⟨c0, c1, f1⟩ := h.cells
  have hNs : N.size ≤ 64 := by have := hN.2; rw [size_list] at this; exact this
  have hlt := h.lt
  have hsum := tPut_sum (v := b) hg
  have hmx := h.sum
  obtain ⟨l, hl⟩ : ∃ l, l = rowLen (N.data.toList, b) := ⟨_, rfl⟩
  obtain ⟨t, ht⟩ : ∃ t, t = tSum M := ⟨_, rfl⟩
  obtain ⟨t2, ht2⟩ : ∃ t2, t2 = tSum (tPut M N.data.toList b) := ⟨_, rfl⟩
  rw [← hl, ← ht, ← ht2] at hsum
  rw [← ht] at c1 hmx
  have hl2 : l ≤ 3000 := by
    rw [hl]; unfold rowLen; rw [recB_len, recB_len]
    have := (numBytes_len 5 N.data.toList.length).2
    have := (numBytes_len 5 b.length).2
    have := hN.2
    simp only
    omega
  have hadd : (t : Int) + (l : Int) = (t2 : Int) := by omega
  have hwr : IntKind.i64.wrap (t2 : Int) = (t2 : Int) := IntWalk.i64_in _ (by omega)
  have H := Lib.hid h
  have HT := Lib.hid (And.intro ht (And.intro ht2 hl))
  have HC := Lib.hid (And.intro hN (And.intro hNs (And.intro hbl (And.intro hG (And.intro hg hsm)))))
  obtain ⟨ab, nb, cb, rfl⟩ : ∃ a n c, v = .slice a n c := by obtain ⟨a, c, e, _⟩ := hv; exact ⟨a, _, c, e⟩
  have HV := Lib.hid hv
  have hne : rb ≠ mb := h.sep.1
  have HLT := Lib.hid hlt
  clear h hN hNs hlt hsum hl ht ht2 hl2 hv hbl hG hg hsm
  go_enter Tryz.func69, Tryz.ntmps69
  go_wp2_with fail
  go_region_held3 (fun w' => w'.cell? ⟨rb, 0, none⟩ = some (.map (some mb))) (first | assumption | go_keep)
    (first
      | (go_at_call 45; refine (clone_any w.drew (show BytesIn G w.drew _ b from HV.out) (by have := HC.out; omega)).mono ?_; rintro e w1 ⟨v1, rfl, hf1, ho1⟩; (have hf1' := hf1.ofDrew); (have hq := H.out.quiet hf1'); (obtain ⟨c0, c1, f1⟩ := hq.cells); (rw [← HT.out.1] at c1); (obtain ⟨w2, hmu, htm, hf2⟩ := (hq.tm.mono (G := fun k => F k ∨ w.heap.size ≤ k) (fun _ _ h => .inl h)).put (by have := H.out.small; omega) N (by have := HC.out; omega) HC.out.2.2.2.2.1 v1 b (ho1.bytes.mono (fun k _ h => .inr h)) (fun hh => hh.elim H.out.sep.2.2 (fun h => by have := HLT.out.2; omega))); (have e0 := hf2.cell c0 (fun e => hne e)); (have H2 := Lib.hid (And.intro htm (And.intro hf2 (And.intro hf1' hq)))); clear hf1 ho1 hf1' hq htm hf2))
  have hr2 := H2.out.2.1.heap H2.out.2.2.2.row (fun e => hne e)
  have HR := Lib.hid (rowLength_any w2.drew N (.slice ab nb cb) b (by have := HC.out; omega) (show BytesIn G w2.drew _ b from (HV.out.keep H2.out.2.2.1 (fun _ _ _ h => h)).keep (H2.out.2.1.drew) (fun k _ hk (e : k = mb) => HC.out.2.2.2.1 (e ▸ hk))) (by have := HC.out; omega))
  rw [← HT.out.2.2] at HR
  rw [← HT.out.1] at hr2
  have HR2 := Lib.hid hr2
  have g1 : w2.cell? ⟨rb, 1, none⟩ = some (.int .i64 (t : Nat)) := cell_list hr2 rfl
  have g2 : w2.frozen? ⟨rb, 1, none⟩ = false := by simp [World.frozen?, hr2]
  clear hr2 c0 c1 f1 e0 hmu
  go_wp2_with fail
  go_region_with (first
    | (go_at_call 104; refine HR.out.mono ?_; rintro e w3 ⟨rfl, hf3⟩; (have hr3 := hf3.ofDrew.heap HR2.out id); (have g1 : w3.cell? ⟨rb, 1, none⟩ = some (.int .i64 (t : Nat)) := cell_list hr3 rfl); (have g2 : w3.frozen? ⟨rb, 1, none⟩ = false := by simp [World.frozen?, hr3]); (have H3 := Lib.hid (And.intro hf3.ofDrew hr3)); clear hf3 hr3))
  all_goals (
    go_wp2
    go_end0
    have hr4 := set_row1 (z := .int .i64 (t2 : Nat)) H3.out.2
    have hp := Fr.cell1 w3 rb 1 (.int .i64 (t2 : Nat))
    have hz := H2.out.2.2.1.size
    have hz2 := H2.out.2.1.size
    rw [HT.out.2.1] at hr4
    have htm := (H2.out.1.keep H3.out.1 id (fun _ _ _ h => h)).keep hp (fun e => hne e.symm) (fun k _ hk e => hk.elim (fun h => H.out.sep.2.1 (e ▸ h)) (fun h => by have := HLT.out.1; have e2 : k = rb := e; omega))
    rw [← HT.out.2.1] at hr4
    exact ⟨rfl, ⟨by rw [← HT.out.2.1]; exact hr4, htm.mono (fun k hk h => h.imp id (fun h => ⟨h, hk⟩)), H.out.ok.put HC.out.1 HC.out.2.2.1, Nat.le_trans (tPut_le _ _ _) HC.out.2.2.2.2.2, H.out.sep.1, (fun h => h.elim H.out.sep.2.1 (fun h => by have := HLT.out.1; omega)), (fun h => h.elim H.out.sep.2.2 (fun h => by have := HLT.out.2; omega))⟩, (((H2.out.2.2.1.mono (T := fun k => k = rb ∨ k = mb) (fun _ _ h => h.elim)).trans H2.out.2.1 (fun k h => .inl (.inr h))).trans H3.out.1 (fun _ h => h.elim)).trans hp (fun k h => .inl (.inl h))⟩)
end Go.Proofs.YtiinmilfgclddaaGreat

