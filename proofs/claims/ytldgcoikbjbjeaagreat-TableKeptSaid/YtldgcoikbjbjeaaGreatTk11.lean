/- Laid together: TRow2 Elems -/
import Derived.Test.YtldgcoikbjbjeaaGreatTk10
import Derived.Deep.RegionHeld3

namespace Go.Proofs.YtldgcoikbjbjeaaGreat
open Go.RowKit Go.ChangeShapes
set_option linter.unusedVariables false
set_option maxRecDepth 100000 in
set_option maxHeartbeats 1000000 in
theorem length_any {F : Nat → Prop} {rb mb : Nat} {M : Tab} {T : TypeId} {rest : List Value} (w : World) (h : RwAt F w rb mb M T rest) :
    Calls Tryz.prog 43 #[.pointer (some ⟨rb, 0, none⟩)] w fun e w' => e = .returned (.int .i64 (tLen M : Nat)) ∧ Fr (fun _ => False) w w' := by
  have hs := h.sum
  have hsm := h.small
  have htl : tLen M = (numBytes 5 M.length).length + tSum M := rfl
  rw [htl]
  obtain ⟨n, hn⟩ : ∃ n, n = M.length := ⟨_, rfl⟩
  obtain ⟨t, ht⟩ : ∃ t, t = tSum M := ⟨_, rfl⟩
  obtain ⟨W1, hW1⟩ : ∃ W1, W1 = w.alloc (.cells #[.pointer none, .int .i64 0, .bool false] 146) := ⟨_, rfl⟩
  obtain ⟨W2, hW2⟩ : ∃ W2, W2 = W1.alloc (.cells #[.int .i64 n] 3) := ⟨_, rfl⟩
  have hf1 : Fr (fun _ => False) w W1 := by rw [hW1]; exact (Fr.refl _ _).alloc _
  have hf2 : Fr (fun _ => False) w W2 := by rw [hW2]; exact hf1.alloc _
  have hz1 : W1.heap.size = w.heap.size + 1 := by rw [hW1]; simp
  have hz2 : W2.heap.size = w.heap.size + 2 := by rw [hW2]; simp [hz1]
  have hm : MakAt (fun k => w.heap.size ≤ k) W2 w.heap.size (some []) := ⟨Nat.le_refl _, 146, .inl ⟨rfl, by rw [hW2]; exact ((Fr.refl (fun _ => False) W1).alloc _).heap (by rw [hW1]; exact heap_alloc_new w _) id⟩⟩
  have hs2 : W2.cell? ⟨W1.heap.size, 0, none⟩ = some (.int .i64 n) := by rw [hW2]; exact cell_of_one (heap_alloc_new W1 _)
  have hnum := makerNum_any (F := fun k => w.heap.size ≤ k) (n : Int) W2 (fun k hk => by omega) hm hs2 (fun L hL => by cases hL; simp)
  rw [mkNum_one n (by omega)] at hnum
  have HNUM := Lib.hid hnum
  have hq := (numBytes_len 5 n).2
  obtain ⟨q, hqq⟩ : ∃ q, q = (numBytes 5 n).length := ⟨_, rfl⟩
  have HQ := Lib.hid hqq
  have HM := Lib.hid (many_any W1 (h.quiet hf1))
  rw [← hn] at HM
  have HW := Lib.hid (And.intro hW1 (And.intro hW2 hf2))
  have HR := Lib.hid h
  have HT := Lib.hid ht
  have hrl := h.lt.1
  rw [← hn, ← hqq, ← ht]
  rw [← hqq] at hq
  rw [← ht] at hs
  clear hW1 hW2 hf1 hf2 hz1 hz2 hm hs2 hnum hqq h hn ht htl hsm
  go_enter Tryz.func43, Tryz.ntmps43
  go_wp2_with (first
    | (go_at_call 42; rw [← HW.out.1]; refine HM.out.mono ?_; rintro e w0 ⟨rfl, rfl⟩)
    | (go_at_call 79; rw [← HW.out.2.1]; refine HNUM.out.mono ?_; rintro e w1 ⟨rfl, hf1, hm1⟩; (have H1 := Lib.hid (And.intro hf1 hm1)); clear hf1 hm1)
    | (go_at_call 80; refine (done_yes w1 H1.out.2 (by rw [← HQ.out]; omega)).mono ?_; rintro e w2 ⟨v, rfl, hf2, ho2⟩; obtain ⟨a2, c2, rfl⟩ := ho2.len; rw [← HQ.out]; (have H2 := Lib.hid (HW.out.2.2.trans (H1.out.1.trans hf2 (fun _ h => h.elim)) (fun k h => .inr h))); (obtain ⟨c0, c1, f1⟩ := (HR.out.quiet H2.out).cells); rw [← HT.out] at c1; clear hf2 ho2))
  go_ret
  exact ⟨by rw [show ((q + t : Nat) : Int) = (q : Int) + t from by push_cast; rfl]; rfl, H2.out⟩
theorem wpList_del6 {F : Nat → Prop} {w : World} {mb : Nat} {M : Tab} {ops : Array Oper} {rest : List Oper} {o : Oper} {a : Act} {Q : Exit → Act → World → Prop} (hg : o.guard = none) (m x : Operand) (hop : o.op = Op.call { callee := Callee.builtin Builtin.delete, args := #[m, x], argTypes := #[79, 9] })
    (h : TMt F w mb M) (hM : Tab.Ok M) (N : ByteArray) (hN : N.size ≤ 1000000) (hF : ¬ F mb) (hm : a.eval m = .map (some mb)) (hx : a.eval x = .string N)
    (hK : ∀ w', TMt F w' mb (tDel M N.data.toList) → Fr (fun k => k = mb) w w' → wpList Tryz.prog ops Q rest (a.put o.dst (.tuple #[])) w') : wpList Tryz.prog ops Q (o :: rest) a w := by
  refine wpList_plain hg fun K' hK' => ?_
  obtain ⟨w', hrun, r1, r2⟩ := h.del hM N hN hF o.type
  unfold Oper.wp
  simp [execOp, hop, resolve, invoke, builtin, hm, hx, hrun, Result.andThen]
  exact hK' _ _ (hK w' r1 r2)
theorem tDel_le (M : Tab) (k : Bs) : (tDel M k).length ≤ M.length := List.length_filter_le _ _
theorem tabOk.del {M : Tab} (h : tabOk M) (k : Bs) : tabOk (tDel M k) := ⟨h.1.del k, fun p hp => h.2 p (List.mem_filter.1 hp).1⟩
theorem set_row1 {w : World} {rb : Nat} {x y z : Value} {rest : List Value} {T : TypeId} (h : w.heap[rb]? = some (.cells (x :: y :: rest).toArray T (0, 0))) : (w.setCell ⟨rb, 1, none⟩ z).heap[rb]? = some (.cells (x :: z :: rest).toArray T (0, 0)) := by
  rw [cell_put z h]
  simp
set_option maxRecDepth 100000 in
set_option maxHeartbeats 2000000 in
theorem drop_any {F : Nat → Prop} {rb mb : Nat} {M : Tab} {T : TypeId} {rest : List Value} (w : World) (h : RwAt F w rb mb M T rest) (N : ByteArray) (hN : N.size ≤ 64) :
    Calls Tryz.prog 68 #[.pointer (some ⟨rb, 0, none⟩), .string N] w fun e w' => e = .returned (.tuple #[]) ∧ RwAt F w' rb mb (tDel M N.data.toList) T rest ∧ Fr (fun k => k = rb ∨ k = mb) w w' := by
  obtain ⟨c0, c1, f1⟩ := h.cells
  obtain ⟨v, hlk, h1, h2⟩ := h.tm.look N (by omega)
  cases hg : tGet M N.data.toList with
  | none =>
    rw [hg] at hlk
    have H := Lib.hid (show RwAt F w rb mb (tDel M N.data.toList) T rest by rw [tDel_none hg]; exact h)
    clear h h1 h2 hg
    go_enter Tryz.func68, Tryz.ntmps68
    go_wp2
    go_end0
    exact ⟨rfl, H.out, Fr.refl _ _⟩
  | some b =>
    rw [hg] at hlk
    have hb := h1 b hg
    have hd := tDel_sum h.ok.1 hg
    have hbl := (h.ok.2 _ (tGet_mem hg)).2
    have hmx := h.sum
    have hsep := h.sep
    have hlt := h.lt
    have HR := Lib.hid (rowLength_any w.drew N v b (by omega) (show BytesIn F w.drew v b from hb) (by have := hbl; simp only at this; omega))
    obtain ⟨l, hl⟩ : ∃ l, l = rowLen (N.data.toList, b) := ⟨_, rfl⟩
    obtain ⟨t, ht⟩ : ∃ t, t = tSum M := ⟨_, rfl⟩
    obtain ⟨t2, ht2⟩ : ∃ t2, t2 = tSum (tDel M N.data.toList) := ⟨_, rfl⟩
    rw [← hl] at HR hd
    rw [← ht] at hd c1 hmx
    rw [← ht2] at hd
    have hsub : (t : Int) - (l : Int) = (t2 : Int) := by omega
    have hwr : IntKind.i64.wrap (t2 : Int) = (t2 : Int) := IntWalk.i64_in _ (by omega)
    have H := Lib.hid h
    have HT := Lib.hid (And.intro ht ht2)
    have HNN := Lib.hid hN
    obtain ⟨ab, nb, cb, rfl⟩ : ∃ a n c, v = .slice a n c := by obtain ⟨a, c, e, _⟩ := hb; exact ⟨a, _, c, e⟩
    have hne : rb ≠ mb := hsep.1
    have hrow := h.row
    clear h h1 h2 hg hb hd hbl hsep hlt hl ht ht2 hN hrow
    go_enter Tryz.func68, Tryz.ntmps68
    go_wp2_with fail
    go_region_with (first
        | (go_at_call 104; refine HR.out.mono ?_; rintro e w1 ⟨rfl, hf1⟩; (have H1 := Lib.hid (And.intro (H.out.quiet hf1.ofDrew) hf1.ofDrew)); (obtain ⟨c0, c1, f1⟩ := H1.out.1.cells); (rw [← HT.out.1] at c1); clear hf1))
    all_goals (
      obtain ⟨W2, hW2⟩ : ∃ W, W = w1.setCell ⟨rb, 1, none⟩ (.int .i64 (t2 : Nat)) := ⟨_, rfl⟩
      have hp : Fr (fun k => k = rb) w1 W2 := by rw [hW2]; exact Fr.cell1 w1 rb 1 _
      have hrow2 : W2.heap[rb]? = some (.cells (.map (some mb) :: .int .i64 (t2 : Nat) :: rest).toArray T (0, 0)) := by rw [hW2]; exact set_row1 H1.out.1.row
      have HT2 := Lib.hid (And.intro (H1.out.1.tm.keep hp (fun e => hne e.symm) (fun k _ hk e => H1.out.1.sep.2.1 (e ▸ hk))) (And.intro hp hrow2))
      have d0 : W2.cell? ⟨rb, 0, none⟩ = some (.map (some mb)) := cell_list hrow2 rfl
      rw [← hW2]
      clear hW2 hp hrow2
      go_wp2_with (at_delete; refine wpList_del6 rfl (.tmp 29) (.tmp 30) rfl HT2.out.1 H.out.ok.1 N (by have := HNN.out; omega) H.out.sep.2.2 rfl rfl ?_; intro w3 htm3 hf3; (have H3 := Lib.hid (And.intro htm3 hf3)); clear htm3 hf3)
      go_end0
      have hr3 := H3.out.2.heap HT2.out.2.2 (fun e => hne e)
      rw [HT.out.2] at hr3
      exact ⟨rfl, ⟨hr3, H3.out.1, H.out.ok.del _, Nat.le_trans (tDel_le _ _) H.out.small, H.out.sep⟩, (((H1.out.2.mono (T := fun k => k = rb ∨ k = mb) (fun _ _ h => h.elim)).trans HT2.out.2.1 (fun k h => .inl (.inl h))).trans H3.out.2 (fun k h => .inl (.inr h)) : Fr (fun k => k = rb ∨ k = mb) w w3)⟩)
theorem tPut_le (M : Tab) (k v : Bs) : (tPut M k v).length ≤ M.length + 1 := by
  induction M with
  | nil => simp [tPut]
  | cons p M ih =>
    unfold tPut
    split
    · simp
    · split
      · simp
      · simp only [List.length_cons]; omega
theorem tabOk.put {M : Tab} (h : tabOk M) {k v : Bs} (hk : keyOk k) (hv : v.length ≤ 2048) : tabOk (tPut M k v) := ⟨h.1.put k v, fun p hp => by
  rcases tPut_keys hp with rfl | hp
  · exact ⟨hk, hv⟩
  · exact h.2 p hp⟩
set_option maxRecDepth 100000 in
set_option maxHeartbeats 2000000 in
theorem put_any6 {F G : Nat → Prop} {rb mb : Nat} {M : Tab} {T : TypeId} {rest : List Value} (w : World) (h : RwAt F w rb mb M T rest) (N : ByteArray) (hN : keyOk N.data.toList) (v : Value) (b : Bs) (hv : BytesIn G w v b) (hbl : b.length ≤ 2048) (hG : ¬ G mb) (hg : tGet M N.data.toList = none) (hsm : M.length + 1 ≤ 100000) :
    Calls Tryz.prog 69 #[.pointer (some ⟨rb, 0, none⟩), .string N, v] w fun e w' => e = .returned (.tuple #[]) ∧ RwAt (fun k => F k ∨ (w.heap.size ≤ k ∧ k < w'.heap.size)) w' rb mb (tPut M N.data.toList b) T rest ∧ Fr (fun k => k = rb ∨ k = mb) w w' := by
  obtain ⟨c0, c1, f1⟩ := h.cells
  have hNs : N.size ≤ 64 := by have := hN.2; rw [size_list] at this; exact this
  have hlt := h.lt
  have hsum := tPut_sum (v := b) hg
  have hmx := h.sum
  obtain ⟨l, hl⟩ : ∃ l, l = rowLen (N.data.toList, b) := ⟨_, rfl⟩
  obtain ⟨t, ht⟩ : ∃ t, t = tSum M := ⟨_, rfl⟩
  obtain ⟨t2, ht2⟩ : ∃ t2, t2 = tSum (tPut M N.data.toList b) := ⟨_, rfl⟩
  rw [← hl, ← ht, ← ht2] at hsum
  rw [← ht] at c1 hmx
  have hl2 : l ≤ 3000 := by
    rw [hl]; unfold rowLen; rw [recB_len, recB_len]
    have := (numBytes_len 5 N.data.toList.length).2
    have := (numBytes_len 5 b.length).2
    have := hN.2
    simp only
    omega
  have hadd : (t : Int) + (l : Int) = (t2 : Int) := by omega
  have hwr : IntKind.i64.wrap (t2 : Int) = (t2 : Int) := IntWalk.i64_in _ (by omega)
  have H := Lib.hid h
  have HT := Lib.hid (And.intro ht (And.intro ht2 hl))
  have HC := Lib.hid (And.intro hN (And.intro hNs (And.intro hbl (And.intro hG (And.intro hg hsm)))))
  obtain ⟨ab, nb, cb, rfl⟩ : ∃ a n c, v = .slice a n c := by obtain ⟨a, c, e, _⟩ := hv; exact ⟨a, _, c, e⟩
  have HV := Lib.hid hv
  have hne : rb ≠ mb := h.sep.1
  have HLT := Lib.hid hlt
  clear h hN hNs hlt hsum hl ht ht2 hl2 hv hbl hG hg hsm
  go_enter Tryz.func69, Tryz.ntmps69
  go_wp2_with fail
  go_region_held3 (fun w' => w'.cell? ⟨rb, 0, none⟩ = some (.map (some mb))) (first | assumption | go_keep)
    (first
      | (go_at_call 45; refine (clone_any w.drew (show BytesIn G w.drew _ b from HV.out) (by have := HC.out; omega)).mono ?_; rintro e w1 ⟨v1, rfl, hf1, ho1⟩; (have hf1' := hf1.ofDrew); (have hq := H.out.quiet hf1'); (obtain ⟨c0, c1, f1⟩ := hq.cells); (rw [← HT.out.1] at c1); (obtain ⟨w2, hmu, htm, hf2⟩ := (hq.tm.mono (G := fun k => F k ∨ w.heap.size ≤ k) (fun _ _ h => .inl h)).put (by have := H.out.small; omega) N (by have := HC.out; omega) HC.out.2.2.2.2.1 v1 b (ho1.bytes.mono (fun k _ h => .inr h)) (fun hh => hh.elim H.out.sep.2.2 (fun h => by have := HLT.out.2; omega))); (have e0 := hf2.cell c0 (fun e => hne e)); (have H2 := Lib.hid (And.intro htm (And.intro hf2 (And.intro hf1' hq)))); clear hf1 ho1 hf1' hq htm hf2))
  have hr2 := H2.out.2.1.heap H2.out.2.2.2.row (fun e => hne e)
  have HR := Lib.hid (rowLength_any w2.drew N (.slice ab nb cb) b (by have := HC.out; omega) (show BytesIn G w2.drew _ b from (HV.out.keep H2.out.2.2.1 (fun _ _ _ h => h)).keep (H2.out.2.1.drew) (fun k _ hk (e : k = mb) => HC.out.2.2.2.1 (e ▸ hk))) (by have := HC.out; omega))
  rw [← HT.out.2.2] at HR
  rw [← HT.out.1] at hr2
  have HR2 := Lib.hid hr2
  have g1 : w2.cell? ⟨rb, 1, none⟩ = some (.int .i64 (t : Nat)) := cell_list hr2 rfl
  have g2 : w2.frozen? ⟨rb, 1, none⟩ = false := by simp [World.frozen?, hr2]
  clear hr2 c0 c1 f1 e0 hmu
  go_wp2_with fail
  go_region_with (first
    | (go_at_call 104; refine HR.out.mono ?_; rintro e w3 ⟨rfl, hf3⟩; (have hr3 := hf3.ofDrew.heap HR2.out id); (have g1 : w3.cell? ⟨rb, 1, none⟩ = some (.int .i64 (t : Nat)) := cell_list hr3 rfl); (have g2 : w3.frozen? ⟨rb, 1, none⟩ = false := by simp [World.frozen?, hr3]); (have H3 := Lib.hid (And.intro hf3.ofDrew hr3)); clear hf3 hr3))
  all_goals (
    go_wp2
    go_end0
    have hr4 := set_row1 (z := .int .i64 (t2 : Nat)) H3.out.2
    have hp := Fr.cell1 w3 rb 1 (.int .i64 (t2 : Nat))
    have hz := H2.out.2.2.1.size
    have hz2 := H2.out.2.1.size
    rw [HT.out.2.1] at hr4
    have htm := (H2.out.1.keep H3.out.1 id (fun _ _ _ h => h)).keep hp (fun e => hne e.symm) (fun k _ hk e => hk.elim (fun h => H.out.sep.2.1 (e ▸ h)) (fun h => by have := HLT.out.1; have e2 : k = rb := e; omega))
    rw [← HT.out.2.1] at hr4
    exact ⟨rfl, ⟨by rw [← HT.out.2.1]; exact hr4, htm.mono (fun k hk h => h.imp id (fun h => ⟨h, hk⟩)), H.out.ok.put HC.out.1 HC.out.2.2.1, Nat.le_trans (tPut_le _ _ _) HC.out.2.2.2.2.2, H.out.sep.1, (fun h => h.elim H.out.sep.2.1 (fun h => by have := HLT.out.1; omega)), (fun h => h.elim H.out.sep.2.2 (fun h => by have := HLT.out.2; omega))⟩, (((H2.out.2.2.1.mono (T := fun k => k = rb ∨ k = mb) (fun _ _ h => h.elim)).trans H2.out.2.1 (fun k h => .inl (.inr h))).trans H3.out.1 (fun _ h => h.elim)).trans hp (fun k h => .inl (.inl h))⟩)
end Go.Proofs.YtldgcoikbjbjeaaGreat
namespace Go.Proofs.YtldgcoikbjbjeaaGreat
open Go.RowKit Go.ChangeShapes
set_option linter.unusedVariables false
def Elems (k : Nat) (F : Nat → Prop) (w : World) (v : Value) (css : List (List Value)) : Prop :=
  ∃ ao cap, v = .slice ao css.length cap ∧ css.length ≤ cap ∧ cap ≤ 9223372036854775807 ∧ (∀ c ∈ css, c.length = k) ∧
    (css ≠ [] → ∃ b off, ao = some ⟨b, off, none⟩ ∧ F b ∧ ∀ i (h : i < css.length) j, j < k → w.cell? ⟨b, off + i * k + j, none⟩ = css[i][j]?)
theorem Elems.nil (k : Nat) (F : Nat → Prop) (w : World) : Elems k F w (.slice none 0 0) [] := ⟨none, 0, rfl, Nat.le_refl _, by simp, (fun _ h => by cases h), fun h => absurd rfl h⟩
theorem Elems.keep {k : Nat} {F S : Nat → Prop} {w w' : World} {v : Value} {css : List (List Value)} (h : Elems k F w v css) (hf : Fr S w w') (hd : ∀ b, b < w.heap.size → F b → ¬ S b) : Elems k F w' v css := by
  obtain ⟨ao, cap, hv, h1, h2, h3, h4⟩ := h
  refine ⟨ao, cap, hv, h1, h2, h3, fun hl => ?_⟩
  obtain ⟨b, off, ha, hF, hi⟩ := h4 hl
  refine ⟨b, off, ha, hF, fun i h j hj => ?_⟩
  have h5 := hi i h j hj
  have hlen := h3 _ (List.getElem_mem h)
  rw [List.getElem?_eq_getElem (by omega)] at h5 ⊢
  exact hf.cell h5 (hd b (World.block_lt_of_cell? _ _ h5) hF)
theorem Elems.mono {k : Nat} {F G : Nat → Prop} {w : World} {v : Value} {css : List (List Value)} (h : Elems k F w v css) (hk : 0 < k) (hd : ∀ b, b < w.heap.size → F b → G b) : Elems k G w v css := by
  obtain ⟨ao, cap, hv, h1, h2, h3, h4⟩ := h
  refine ⟨ao, cap, hv, h1, h2, h3, fun hl => ?_⟩
  obtain ⟨b, off, ha, hF, hi⟩ := h4 hl
  have hp := List.length_pos_iff.2 hl
  have h5 := hi 0 hp 0 hk
  have hlen := h3 _ (List.getElem_mem hp)
  rw [List.getElem?_eq_getElem (by omega)] at h5
  exact ⟨b, off, ha, hd b (World.block_lt_of_cell? _ _ h5) hF, hi⟩
theorem flat_get {α : Type} {k : Nat} : ∀ (css : List (List α)), (∀ c ∈ css, c.length = k) → ∀ i (h : i < css.length) j, j < k → css.flatten[i * k + j]? = css[i][j]?
  | [], _, i, h, _, _ => by simp at h
  | c :: css, hc, 0, h, j, hj => by
    have := hc c List.mem_cons_self
    rw [List.flatten_cons, Nat.zero_mul, Nat.zero_add, List.getElem?_append_left (by omega)]
    rfl
  | c :: css, hc, i + 1, h, j, hj => by
    have := hc c List.mem_cons_self
    have e : (i + 1) * k + j - c.length = i * k + j := by rw [Nat.add_mul, this]; omega
    have e2 : k ≤ (i + 1) * k := by rw [Nat.add_mul]; omega
    rw [List.flatten_cons, List.getElem?_append_right (by omega), e, flat_get css (fun d hd => hc d (List.mem_cons_of_mem _ hd)) i (by simpa using h) j hj]
    rfl
theorem flat_len {α : Type} {k : Nat} : ∀ (css : List (List α)), (∀ c ∈ css, c.length = k) → css.flatten.length = css.length * k
  | [], _ => by simp
  | c :: css, hc => by rw [List.flatten_cons, List.length_append, hc c List.mem_cons_self, flat_len css (fun d hd => hc d (List.mem_cons_of_mem _ hd)), List.length_cons, Nat.add_mul]; omega
structure OwnE (T : TypeId) (k z : Nat) (w : World) (v : Value) (css : List (List Value)) : Prop where
  row : w.ownsRow z T k v css.length css.flatten
  each : ∀ c ∈ css, c.length = k
theorem OwnE.nil (T : TypeId) (k z : Nat) (w : World) : OwnE T k z w (.slice none 0 0) [] := ⟨World.ownsRow_nil _ _ _ _, fun _ h => by cases h⟩
theorem OwnE.keep {S : Nat → Prop} {T : TypeId} {k z : Nat} {w w' : World} {v : Value} {css : List (List Value)} (h : OwnE T k z w v css) (hf : Fr S w w') (hd : ∀ g, v.ownBlock = some g → ¬ S g) : OwnE T k z w' v css := by
  refine ⟨⟨h.row.1, ?_⟩, h.each⟩
  rcases h.row.2 with e | ⟨g, cap, cur, hv, hb, hg, r⟩
  · exact .inl e
  · exact .inr ⟨g, cap, cur, hv, hb, hf.heap hg (hd g (by rw [hv]; rfl)), r⟩
theorem OwnE.own {T : TypeId} {k z : Nat} {w : World} {v : Value} {css : List (List Value)} (h : OwnE T k z w v css) (g : Nat) (hg : v.ownBlock = some g) : z ≤ g ∧ g < w.heap.size := by
  rcases h.row.2 with ⟨hv, _⟩ | ⟨g', cap, cur, hv, hb, hg', _⟩
  · rw [hv] at hg; simp [Value.ownBlock] at hg
  · rw [hv] at hg
    simp only [Value.ownBlock, Option.some.injEq] at hg
    exact hg ▸ ⟨hb, lt_of_block hg'⟩
theorem OwnE.elems {T : TypeId} {k z : Nat} {w : World} {v : Value} {css : List (List Value)} (h : OwnE T k z w v css) : Elems k (fun b => v.ownBlock = some b) w v css := by
  rcases h.row.2 with ⟨hv, h0⟩ | ⟨g, cap, cur, hv, hb, hg, hnc, hcm, hcs, ht⟩
  · obtain rfl := List.eq_nil_of_length_eq_zero h0
    rw [hv]
    exact Elems.nil _ _ _
  · unfold maxLen at hcm
    refine ⟨_, cap, hv, hnc, by omega, h.each, fun _ => ⟨g, 0, rfl, by rw [hv]; rfl, fun i hi j hj => ?_⟩⟩
    have hfl := flat_len css h.each
    have hlt : i * k + j < css.length * k := Nat.lt_of_lt_of_le (show i * k + j < (i + 1) * k by rw [Nat.add_mul]; omega) (Nat.mul_le_mul_right k hi)
    have hr := h.row
    rw [hv] at hr
    have := World.ownsRow.cellAt hr (i * k + j) (by omega)
    rw [Nat.zero_add, this, flat_get css h.each i hi j hj]
theorem OwnE.form {T : TypeId} {k z : Nat} {w : World} {v : Value} {css : List (List Value)} (h : OwnE T k z w v css) : ∃ ao c, v = .slice ao css.length c := by
  obtain ⟨ao, c, hv, _⟩ := h.elems
  exact ⟨ao, c, hv⟩
theorem run_append_e {T ST : TypeId} {k bs : Nat} {zv : Value} {i0 : TypeInfo} (hu : Tryz.prog.underlying ST = some (.slice T)) (hinf : (Tryz.prog.info? T).map (fun i => (i.zero, i.size, i.bytes)) = some (some zv, k, bs)) (hzs : zv.cells.size = k) (hk0 : 0 < k) (hbs : bs ≤ 100)
    {F : Nat → Prop} {z : Nat} (w : World) (ty : TypeId) (v x : Value) (css dss : List (List Value)) (hown : OwnE T k z w v css) (hx : Elems k F w x dss) (h1 : ∀ c ∈ dss, ∀ u ∈ c, u.oneCell' = true) (hz : z ≤ w.heap.size) (hn : css.length + dss.length ≤ 1000000) :
    ∃ v' w', (Builtin.append_ #[ST, ST] ty #[v, x]).run Tryz.prog w = .ok v' w' ∧ OwnE T k z w' v' (css ++ dss) ∧ w.grownBy w' v.ownBlock ∧ (v'.ownBlock = v.ownBlock ∨ v'.ownBlock = some w.heap.size) := by
  obtain ⟨i0, hi, hz0, hz1, hz2⟩ := info_parts hinf
  have heach : ∀ c ∈ css ++ dss, c.length = k := by
    obtain ⟨_, _, _, _, _, h3, _⟩ := hx
    intro c hc
    rcases List.mem_append.1 hc with hc | hc
    · exact hown.each c hc
    · exact h3 c hc
  obtain ⟨ao, cap, rfl, hc1, hc2, h3, h4⟩ := hx
  by_cases he : dss = []
  · subst he
    rw [List.append_nil]
    cases ao with
    | none =>
      have hcap : cap = 0 ∨ cap ≠ 0 := by omega
      rcases hcap with rfl | hcap
      · exact ⟨v, w, run_append_owned_none (P := Tryz.prog) (w := w) z ST ty T i0 k hu hi v css.length _ hown.row, hown, World.grownBy.refl _ _, .inl rfl⟩
      · exact ⟨v, w, run_append_owned_none (P := Tryz.prog) (w := w) z ST ty T i0 k hu hi v css.length _ hown.row, hown, World.grownBy.refl _ _, .inl rfl⟩
    | some a =>
      obtain ⟨v', w', hr, r2, r3, r4, r5⟩ := run_append_own_at (P := Tryz.prog) w z ST ty T i0 zv k bs hu hi hz0 hz1 hz2 hzs hk0 v css.length _ hown.row a 0 cap [] (by simp) (by simp) (by simp) (by unfold maxLen; simp at hn; omega) (Nat.le_trans (Nat.mul_le_mul (show css.length + 0 ≤ 1000000 by simpa using hn) hbs) (by decide)) hz
      exact ⟨v', w', hr, ⟨by simpa using r2, hown.each⟩, r3, r5⟩
  · obtain ⟨b, off, rfl, hF, hcell⟩ := h4 he
    obtain ⟨v', w', hr, r2, r3, r4, r5⟩ := run_append_own_at (P := Tryz.prog) w z ST ty T i0 zv k bs hu hi hz0 hz1 hz2 hzs hk0 v css.length _ hown.row ⟨b, off, none⟩ dss.length cap dss.flatten (flat_len dss h3) (fun j u hu => by
        have hfl := flat_len dss h3
        have hj : j < dss.flatten.length := (List.getElem?_eq_some_iff.1 hu).1
        rw [hfl] at hj
        have hq : j / k < dss.length := Nat.div_lt_of_lt_mul (by rw [Nat.mul_comm]; exact hj)
        have hm := Nat.div_add_mod j k
        have hml := Nat.mod_lt j hk0
        have e : off + (j / k) * k + j % k = off + j := by rw [Nat.mul_comm (j / k) k]; omega
        have h5 := hcell (j / k) hq (j % k) hml
        rw [e, ← flat_get dss h3 (j / k) hq (j % k) hml, show (j / k) * k + j % k = j by rw [Nat.mul_comm]; omega, hu] at h5
        rw [addr_plain]
        exact h5) (fun u hu => by
        obtain ⟨c, hc, huc⟩ := List.mem_flatten.1 hu
        exact h1 c hc u huc) (by unfold maxLen; omega) (Nat.le_trans (Nat.mul_le_mul hn hbs) (by decide)) hz
    refine ⟨v', w', hr, ⟨?_, heach⟩, r3, r5⟩
    rw [List.length_append, List.flatten_append]
    exact r2
theorem wpList_append_e {T ST : TypeId} {k bs : Nat} {zv : Value} (hu : Tryz.prog.underlying ST = some (.slice T)) (hinf : (Tryz.prog.info? T).map (fun i => (i.zero, i.size, i.bytes)) = some (some zv, k, bs)) (hzs : zv.cells.size = k) (hk0 : 0 < k) (hbs : bs ≤ 100)
    {F : Nat → Prop} {z : Nat} (w : World) {ops : Array Oper} {rest : List Oper} {o : Oper} {a : Act} {Q : Exit → Act → World → Prop} (hgd : o.guard = none) (s x : Operand)
    (hop : o.op = Op.call { callee := Callee.builtin Builtin.append, args := #[s, x], argTypes := #[ST, ST] })
    (v y : Value) (css dss : List (List Value)) (hs : a.eval s = v) (hx : a.eval x = y) (hown : OwnE T k z w v css) (he : Elems k F w y dss) (h1 : ∀ c ∈ dss, ∀ u ∈ c, u.oneCell' = true) (hz : z ≤ w.heap.size) (hn : css.length + dss.length ≤ 1000000)
    (hK : ∀ v' w', OwnE T k z w' v' (css ++ dss) → w.grownBy w' v.ownBlock → (v'.ownBlock = v.ownBlock ∨ v'.ownBlock = some w.heap.size) → wpList Tryz.prog ops Q rest (a.put o.dst v') w') : wpList Tryz.prog ops Q (o :: rest) a w := by
  refine wpList_plain hgd fun K hK' => ?_
  subst hs
  subst hx
  obtain ⟨i0, hi⟩ : ∃ i, Tryz.prog.info? T = some i := by
    cases h : Tryz.prog.info? T with
    | none => rw [h] at hinf; cases hinf
    | some i => exact ⟨i, rfl⟩
  obtain ⟨v', w', hr, r1, r2, r3⟩ := run_append_e (i0 := i0) hu hinf hzs hk0 hbs w o.type _ _ css dss hown he h1 hz hn
  unfold Oper.wp
  simp [execOp, hop, resolve, invoke, builtin, hr, Result.andThen]
  exact hK' _ _ (hK v' w' r1 r2 r3)
theorem Elems.ofBlock {k : Nat} {w : World} {b : Nat} {T : TypeId} {c : List Value} (h : w.heap[b]? = some (.cells c.toArray T (0, 0))) (hc : c.length = k) : Elems k (fun j => j = b) w (.slice (some ⟨b, 0, none⟩) 1 1) [c] := by
  refine ⟨_, 1, rfl, Nat.le_refl _, by decide, (fun d hd => by rw [List.mem_singleton.1 hd]; exact hc), fun _ => ⟨b, 0, rfl, rfl, fun i hi j hj => ?_⟩⟩
  have : i = 0 := by simp at hi; omega
  subst this
  rw [cell_of_row _ _ _ _ _ _ h]
  simp
structure ChgD where
  key : ByteArray
  x : Value
  B : List UInt8
  gone : Bool
def chgC (p : ChgD) : List Value := [.string p.key, p.x, .bool p.gone]
def ChgD.chg (p : ChgD) : Chg := (p.key.data.toList, if p.gone then none else some p.B)
structure ChgsIn (F : Nat → Prop) (w : World) (v : Value) (l : List ChgD) : Prop where
  el : Elems 3 F w v (l.map chgC)
  bytes : ∀ p ∈ l, BytesIn F w p.x p.B
theorem ChgsIn.keep {F S : Nat → Prop} {w w' : World} {v : Value} {l : List ChgD} (h : ChgsIn F w v l) (hf : Fr S w w') (hd : ∀ b, b < w.heap.size → F b → ¬ S b) : ChgsIn F w' v l := ⟨h.el.keep hf hd, fun p hp => (h.bytes p hp).keep hf hd⟩
theorem ChgsIn.mono {F G : Nat → Prop} {w : World} {v : Value} {l : List ChgD} (h : ChgsIn F w v l) (hd : ∀ b, b < w.heap.size → F b → G b) : ChgsIn G w v l := ⟨h.el.mono (by decide) hd, fun p hp => (h.bytes p hp).mono hd⟩
theorem ChgsIn.nil (F : Nat → Prop) (w : World) : ChgsIn F w (.slice none 0 0) [] := ⟨Elems.nil _ _ _, fun _ h => by cases h⟩
theorem ChgsIn.open6 {F : Nat → Prop} {w : World} {v : Value} {l : List ChgD} (h : ChgsIn F w v l) : ∃ ao cap, v = .slice ao l.length cap ∧ l.length ≤ cap ∧ cap ≤ 9223372036854775807 ∧
    ∃ b off, (0 < l.length → ao = some ⟨b, off, none⟩ ∧ F b) ∧ ∀ i (h : i < l.length), w.cell? ⟨b, off + i * 3, none⟩ = some (.string l[i].key) ∧ w.cell? ⟨b, off + i * 3 + 1, none⟩ = some l[i].x ∧ w.cell? ⟨b, off + i * 3 + 2, none⟩ = some (.bool l[i].gone) := by
  obtain ⟨ao, cap, hv, h1, h2, h3, h4⟩ := h.el
  rw [List.length_map] at hv h1
  refine ⟨ao, cap, hv, h1, h2, ?_⟩
  by_cases hl : l = []
  · subst hl
    exact ⟨0, 0, fun h => by simp at h, fun i h => by simp at h⟩
  · obtain ⟨b, off, ha, hF, hi⟩ := h4 (by simpa using hl)
    refine ⟨b, off, fun _ => ⟨ha, hF⟩, fun i h => ?_⟩
    have g := fun j hj => hi i (by simpa using h) j hj
    exact ⟨by simpa [chgC] using g 0 (by decide), by simpa [chgC] using g 1 (by decide), by simpa [chgC] using g 2 (by decide)⟩
theorem infoCh : (Tryz.prog.info? 53).map (fun i => (i.zero, i.size, i.bytes)) = some (some (.agg #[.string ByteArray.empty, .slice none 0 0, .bool false]), 3, 48) := by kernel_rfl
structure OwnC (F : Nat → Prop) (z : Nat) (w : World) (v : Value) (l : List ChgD) : Prop where
  own : OwnE 53 3 z w v (l.map chgC)
  bytes : ∀ p ∈ l, BytesIn (fun k => F k ∧ v.ownBlock ≠ some k) w p.x p.B
  one : ∀ p ∈ l, p.x.oneCell' = true
theorem OwnC.nil (F : Nat → Prop) (z : Nat) (w : World) : OwnC F z w (.slice none 0 0) [] := ⟨OwnE.nil _ _ _ _, (fun _ h => by cases h), (fun _ h => by cases h)⟩
theorem OwnC.keep {F S : Nat → Prop} {z : Nat} {w w' : World} {v : Value} {l : List ChgD} (h : OwnC F z w v l) (hf : Fr S w w') (hd : ∀ g, v.ownBlock = some g → ¬ S g) (hF : ∀ k, k < w.heap.size → F k → ¬ S k) : OwnC F z w' v l := ⟨h.own.keep hf hd, fun p hp => (h.bytes p hp).keep hf (fun k hk hh => hF k hk hh.1), h.one⟩
theorem OwnC.mono {F G : Nat → Prop} {z : Nat} {w : World} {v : Value} {l : List ChgD} (h : OwnC F z w v l) (hd : ∀ b, b < w.heap.size → F b → G b) : OwnC G z w v l := ⟨h.own, fun p hp => (h.bytes p hp).mono (fun k hk hh => ⟨hd k hk hh.1, hh.2⟩), h.one⟩
theorem OwnC.form {F : Nat → Prop} {z : Nat} {w : World} {v : Value} {l : List ChgD} (h : OwnC F z w v l) : ∃ ao c, v = .slice ao l.length c := by
  obtain ⟨ao, c, hv⟩ := h.own.form
  rw [List.length_map] at hv
  exact ⟨ao, c, hv⟩
theorem OwnC.chgs {F : Nat → Prop} {z : Nat} {w : World} {v : Value} {l : List ChgD} (h : OwnC F z w v l) : ChgsIn (fun k => F k ∨ v.ownBlock = some k) w v l := ⟨h.own.elems.mono (by decide) (fun _ _ h => .inr h), fun p hp => (h.bytes p hp).mono (fun _ _ h => .inl h.1)⟩
theorem wpList_append_chg {F G : Nat → Prop} {z : Nat} (w : World) {ops : Array Oper} {rest : List Oper} {o : Oper} {a : Act} {Q : Exit → Act → World → Prop} (hgd : o.guard = none) (s x : Operand)
    (hop : o.op = Op.call { callee := Callee.builtin Builtin.append, args := #[s, x], argTypes := #[42, 42] })
    (v : Value) (l : List ChgD) (p : ChgD) (b : Nat) (hs : a.eval s = v) (hx : a.eval x = .slice (some ⟨b, 0, none⟩) 1 1) (hb : w.heap[b]? = some (.cells #[.string p.key, p.x, .bool p.gone] 53 (0, 0)))
    (hown : OwnC F z w v l) (hp : BytesIn G w p.x p.B) (hG : ∀ k, k < w.heap.size → G k → F k ∧ v.ownBlock ≠ some k) (h1 : p.x.oneCell' = true) (hz : z ≤ w.heap.size) (hn : l.length + 1 ≤ 1000000)
    (hK : ∀ v' w', OwnC F z w' v' (l ++ [p]) → Fr (fun k => v.ownBlock = some k) w w' → (v'.ownBlock = v.ownBlock ∨ v'.ownBlock = some w.heap.size) → wpList Tryz.prog ops Q rest (a.put o.dst v') w') : wpList Tryz.prog ops Q (o :: rest) a w := by
  refine wpList_append_e (T := 53) Tryz.underlying42 infoCh rfl (by decide) (by decide) w hgd s x hop v _ _ _ hs hx hown.own (Elems.ofBlock (c := chgC p) hb rfl) (fun c hc u hu => by
    rw [List.mem_singleton.1 hc] at hu
    simp only [chgC, List.mem_cons, List.not_mem_nil, or_false] at hu
    rcases hu with rfl | rfl | rfl
    · rfl
    · exact h1
    · rfl) hz (by simpa using hn) fun v' w' ho hg hv => ?_
  have hf : Fr (fun k => v.ownBlock = some k) w w' := (Fr.refl _ w).grown hg (fun k hk => .inl hk)
  have hne : ∀ k, k < w.heap.size → v.ownBlock ≠ some k → v'.ownBlock ≠ some k := fun k hk hne e => by
    rcases hv with hv | hv
    · exact hne (hv ▸ e)
    · rw [hv] at e; have := Option.some.inj e; omega
  refine hK v' w' ⟨by rw [List.map_append]; exact ho, fun q hq => ?_, fun q hq => ?_⟩ hf ?_
  · have hq2 : BytesIn (fun k => (F k ∧ v.ownBlock ≠ some k) ∧ k < w.heap.size) w q.x q.B := by
      rcases List.mem_append.1 hq with hq | hq
      · exact (hown.bytes q hq).mono (fun k hk hh => ⟨hh, hk⟩)
      · rw [List.mem_singleton.1 hq]
        exact hp.mono (fun k hk hh => ⟨hG k hk hh, hk⟩)
    exact (hq2.keep hf (fun k _ hh e => hh.1.2 e)).mono (fun k _ hh => ⟨hh.1.1, hne k hh.2 hh.1.2⟩)
  · rcases List.mem_append.1 hq with hq | hq
    · exact hown.one q hq
    · rw [List.mem_singleton.1 hq]; exact h1
  · exact hv
end Go.Proofs.YtldgcoikbjbjeaaGreat
