/- Laid together: TRev TDo -/
import Derived.Test.YtldgcoikbjbjeaaGreatTk11
import Derived.Test.YtldgcoikbjbjeaaGreatShelf

namespace Go.Proofs.YtldgcoikbjbjeaaGreat
open Go.RowKit Go.ChangeShapes Go.Sort
set_option linter.unusedVariables false
abbrev ChgO := {p : ChgD // p.x.oneCell' = true}
instance : Inhabited ChgO := ⟨⟨⟨ByteArray.empty, .bool false, [], false⟩, rfl⟩⟩
def chgO (p : ChgO) : List Value := chgC p.1
theorem chgO_one (p : ChgO) : ∀ v ∈ chgO p, v.oneCell' = true := by
  intro u hu
  simp only [chgO, chgC, List.mem_cons, List.not_mem_nil, or_false] at hu
  rcases hu with rfl | rfl | rfl
  · rfl
  · exact p.2
  · rfl
theorem chgO_of : ∀ l : List ChgD, (∀ p ∈ l, p.x.oneCell' = true) → ∃ O : List ChgO, O.map (·.1) = l
  | [], _ => ⟨[], rfl⟩
  | p :: l, h => by
    obtain ⟨O, hO⟩ := chgO_of l (fun q hq => h q (List.mem_cons_of_mem _ hq))
    exact ⟨⟨p, h p List.mem_cons_self⟩ :: O, by rw [List.map_cons, hO]⟩
theorem holdsC (w : World) (g : Nat) (cur : Array Value) (T : TypeId) (O : List ChgO) (css : List (List Value)) (hO : css = O.map chgO) (hg : w.heap[g]? = some (.cells cur T (0, 0))) (h : cur.toList.take (css.length * 3) = css.flatten) : HoldsK chgO 3 w g 0 O.toArray := by
  subst hO
  intro t ht
  rw [size_flatK, List.size_toArray] at ht
  refine ⟨?_, frozen_of_row _ _ _ _ _ hg⟩
  have hi : t / 3 < O.length := by omega
  rw [cell_of_row _ _ _ _ _ _ hg, Nat.zero_add, get_flatK _ _ _ t (by rw [List.size_toArray]; exact ht)]
  have e : O.toArray[t / 3]! = O[t / 3] := by simp [hi]
  rw [e]
  have h1 := flat_get (k := 3) (O.map chgO) (fun c hc => by obtain ⟨p, _, rfl⟩ := List.mem_map.1 hc; rfl) (t / 3) (by simpa using hi) (t % 3) (by omega)
  rw [show t / 3 * 3 + t % 3 = t by omega, ← h, List.getElem?_take, if_pos (by rw [List.length_map]; omega), List.getElem_map] at h1
  rw [← Array.getElem?_toList, h1]
  have hlt : t % 3 < (chgO O[t / 3]).length := by show t % 3 < 3; omega
  rw [List.getElem?_eq_getElem hlt]
  simp [hlt]
theorem fr_putRowK (w : World) (g m : Nat) (M : Array ChgO) : Fr (fun i => i = g) w (putRowK chgO 3 (Sort.ahead w m) g 0 M) := by
  refine ⟨rfl, rfl, rfl, by show w.heap.size ≤ ((Sort.ahead w m).heap.modify g _).size; rw [Array.size_modify]; exact Nat.le_refl _, fun i hi hs => ?_⟩
  show ((Sort.ahead w m).heap.modify g _)[i]? = _
  rw [Array.getElem?_modify, if_neg (fun e => hs e.symm)]
  rfl
theorem elems_of_holds (w : World) (g cap : Nat) (M : List ChgO) (hl : M.length ≤ cap) (hm : cap ≤ 9223372036854775807) (h : HoldsK chgO 3 w g 0 M.toArray) : Elems 3 (fun j => j = g) w (.slice (some ⟨g, 0, none⟩) M.length cap) (M.map chgO) := by
  refine ⟨_, cap, by rw [List.length_map], by rw [List.length_map]; exact hl, hm, (fun c hc => by obtain ⟨p, _, rfl⟩ := List.mem_map.1 hc; rfl), fun _ => ⟨g, 0, rfl, rfl, fun i hi j hj => ?_⟩⟩
  rw [List.length_map] at hi
  have h1 := (h.cell (i := i) (c := j) (by simpa using hi) hj).1
  rw [h1, List.getElem_map]
  have hlt : j < (chgO M[i]).length := hj
  simp [hi, hlt]
theorem reverse_any {F : Nat → Prop} {z : Nat} (w : World) (v : Value) (l : List ChgD) (h : OwnC F z w v l) (hn : l.length ≤ 1000000) :
    Calls Tryz.prog 70 #[v] w fun e w' => e = .returned (.tuple #[]) ∧ ChgsIn (fun k => F k ∨ v.ownBlock = some k) w' v l.reverse ∧ Fr (fun k => v.ownBlock = some k) w w' := by
  rcases h.own.row.2 with ⟨hv, h0⟩ | ⟨g, cap, cur, hv, hb, hg, hnc, hcm, hcs, ht⟩
  · rw [List.length_map] at h0
    obtain rfl := List.eq_nil_of_length_eq_zero h0
    subst hv
    have hc := AnyQ.slices_Reverse_empty Tryz.reverseP none 0 w
    change Calls Tryz.prog 70 _ _ _ at hc
    refine hc.mono ?_
    rintro e w' ⟨rfl, rfl⟩
    exact ⟨rfl, ChgsIn.nil _ _, Fr.refl _ _⟩
  · subst hv
    obtain ⟨O, hO⟩ := chgO_of l h.one
    have hcss : l.map chgC = O.map chgO := by rw [← hO, List.map_map]; rfl
    have hlO : O.length = l.length := by rw [← hO, List.length_map]
    have hH := holdsC w g cur _ O _ hcss hg ht
    have hc := AnyQ.slices_Reverse Tryz.reverseP 3 Tryz.isAgg53 Tryz.sizeOf53 chgO (fun _ => rfl) chgO_one g 0 cap O.toArray w hH (by rw [List.size_toArray]; omega)
    change Calls Tryz.prog 70 _ _ _ at hc
    rw [List.size_toArray, hlO] at hc
    rw [List.length_map] at hnc ⊢
    refine hc.mono ?_
    rintro e w' ⟨rfl, m, rfl⟩
    have hf := fr_putRowK w g m O.toArray.reverse
    have hH' : HoldsK chgO 3 (putRowK chgO 3 (Sort.ahead w m) g 0 O.toArray.reverse) g 0 O.reverse.toArray := by
      have := holdsK_putRowK chgO 3 (Sort.ahead w m) g 0 O.toArray O.toArray.reverse (holdsK_ahead chgO 3 w m g 0 O.toArray hH) (by simp)
      simpa using this
    have hel := elems_of_holds _ g cap O.reverse (by rw [List.length_reverse]; omega) (by unfold maxLen at hcm; omega) hH'
    refine ⟨rfl, ⟨?_, fun p hp => ?_⟩, hf.mono (fun i _ e => by rw [e]; rfl)⟩
    · rw [List.map_reverse, hcss, ← List.map_reverse]
      rw [List.length_reverse, hlO] at hel
      exact hel.mono (by decide) (fun k _ e => .inr (by rw [e]; rfl))
    · exact ((h.bytes p (List.mem_reverse.1 hp)).keep hf (fun k _ hh e => hh.2 (by rw [e]; rfl))).mono (fun k _ hh => .inl hh.1)
end Go.Proofs.YtldgcoikbjbjeaaGreat
namespace Go.Proofs.YtldgcoikbjbjeaaGreat
open Go.RowKit Go.ChangeShapes
set_option linter.unusedVariables false
theorem tBack_snoc (M : Tab) (L : List Chg) (c : Chg) : tBack M (L ++ [c]) = tBack M L ++ [tNow (tDoAll M L) c.1] := by
  induction L generalizing M with
  | nil => rfl
  | cons d L ih => rw [List.cons_append, tBack, tBack, ih (tDo M d), List.cons_append]; rfl
theorem tDoAll_snoc (M : Tab) (L : List Chg) (c : Chg) : tDoAll M (L ++ [c]) = tDo (tDoAll M L) c := by unfold tDoAll; rw [List.foldl_append]; rfl
theorem tDo_le (M : Tab) (c : Chg) : (tDo M c).length ≤ M.length + 1 := by
  unfold tDo
  split
  · exact Nat.le_succ_of_le (tDel_le M c.1)
  · exact tPut_le M c.1 _
theorem tDoAll_le (M : Tab) (L : List Chg) : (tDoAll M L).length ≤ M.length + L.length := by
  induction L generalizing M with
  | nil => exact Nat.le_refl _
  | cons c L ih => have h1 := ih (tDo M c); have h2 := tDo_le M c; rw [List.length_cons]; show (tDoAll (tDo M c) L).length ≤ _; omega
theorem tBack_length (M : Tab) (L : List Chg) : (tBack M L).length = L.length := by
  induction L generalizing M with
  | nil => rfl
  | cons c L ih => rw [tBack, List.length_cons, List.length_cons, ih]
theorem tNow_ok {M : Tab} (h : tabOk M) {k : Bs} (hk : keyOk k) : chgOk (tNow M k) := ⟨hk, fun v hv => (h.2 (k, v) (tGet_mem hv)).2⟩
theorem tBack_ok {M : Tab} (h : tabOk M) {L : List Chg} (hL : ∀ c ∈ L, chgOk c) : ∀ c ∈ tBack M L, chgOk c := by
  induction L generalizing M with
  | nil => intro c hc; cases hc
  | cons d L ih =>
    intro c hc
    rcases List.mem_cons.1 hc with rfl | hc
    · exact tNow_ok h (hL d List.mem_cons_self).1
    · exact ih (h.do (hL d List.mem_cons_self)) (fun c hc => hL c (List.mem_cons_of_mem _ hc)) c hc
theorem got_slice {F : Nat → Prop} {w : World} {M : Tab} {k : Bs} {v : Value} (h1 : ∀ b, tGet M k = some b → BytesIn F w v b) (h2 : tGet M k = none → v = .slice none 0 0) : ∃ a n c, v = .slice a n c := by
  cases h : tGet M k with
  | none => exact ⟨_, _, _, h2 h⟩
  | some b => obtain ⟨a, c, e, _⟩ := h1 b h; exact ⟨_, _, _, e⟩
theorem row3_open {w : World} {b : Nat} {x y z : Value} {T : TypeId} (h : w.heap[b]? = some (.cells #[x, y, z] T (0, 0))) : w.cell? ⟨b, 0, none⟩ = some x ∧ w.cell? ⟨b, 1, none⟩ = some y ∧ w.cell? ⟨b, 2, none⟩ = some z ∧ (w.frozen? ⟨b, 0, none⟩ = false ∧ w.frozen? ⟨b, 1, none⟩ = false ∧ w.frozen? ⟨b, 2, none⟩ = false) :=
  ⟨cell_of_row _ _ _ _ _ _ h, cell_of_row _ _ _ _ _ _ h, cell_of_row _ _ _ _ _ _ h, by simp [World.frozen?, h]⟩
theorem row3_put {w : World} {b : Nat} {x0 y0 z0 x y z : Value} {T : TypeId} (r0 : w.heap[b]? = some (.cells #[x0, y0, z0] T (0, 0))) : (((w.setCell ⟨b, 0, none⟩ x).setCell ⟨b, 1, none⟩ y).setCell ⟨b, 2, none⟩ z).heap[b]? = some (.cells #[x, y, z] T (0, 0)) := cell_put _ (cell_put _ (cell_put _ r0))
theorem fr_put3 (w : World) (b : Nat) (x y z : Value) : Fr (fun k => k = b) w (((w.setCell ⟨b, 0, none⟩ x).setCell ⟨b, 1, none⟩ y).setCell ⟨b, 2, none⟩ z) := ((Fr.cell1 w b 0 x).trans (Fr.cell1 _ b 1 y) (fun k h => .inl h)).trans (Fr.cell1 _ b 2 z) (fun k h => .inl h)
set_option maxRecDepth 100000 in
set_option maxHeartbeats 1000000 in
theorem now_any {F : Nat → Prop} {rb mb : Nat} {M : Tab} {T : TypeId} {rest : List Value} (w : World) (h : RwAt F w rb mb M T rest) (hF : ∀ k, F k → k < w.heap.size) (N : ByteArray) (hN : N.size ≤ 1000000) :
    Calls Tryz.prog 67 #[.pointer (some ⟨rb, 0, none⟩), .string N] w fun e w' => ∃ av nv cv b gn, e = .returned (.agg #[.string N, .slice av nv cv, .bool gn]) ∧ (⟨N, .slice av nv cv, b, gn⟩ : ChgD).chg = tNow M N.data.toList ∧ BytesIn F w' (.slice av nv cv) b ∧ Fr (fun _ => False) w w' := by
  obtain ⟨W1, hW1⟩ : ∃ W1, W1 = w.alloc (.cells #[.string ⟨#[]⟩, .slice none 0 0, .bool false] 53) := ⟨_, rfl⟩
  have hf1 : Fr (fun _ => False) w W1 := by rw [hW1]; exact (Fr.refl _ _).alloc _
  have hg := get_any W1 (h.quiet hf1) N hN
  have HW := Lib.hid (And.intro hW1 hf1)
  have hb1 : W1.heap[w.heap.size]? = some (.cells #[.string ⟨#[]⟩, .slice none 0 0, .bool false] 53 (0, 0)) := by rw [hW1]; exact heap_alloc_new w _
  have HB := Lib.hid hb1
  obtain ⟨rb2, hrb2⟩ : ∃ r, r = w.heap.size := ⟨_, rfl⟩
  have HR2 := Lib.hid hrb2
  rw [← hrb2] at HB
  obtain ⟨b, hb⟩ : ∃ b, b = (tGet M N.data.toList).getD [] := ⟨_, rfl⟩
  obtain ⟨gn, hgn⟩ : ∃ g, g = (tGet M N.data.toList).isSome := ⟨_, rfl⟩
  rw [← hgn] at hg
  have hchg : ∀ v, (⟨N, v, b, !gn⟩ : ChgD).chg = tNow M N.data.toList := fun v => by
    rw [hb, hgn]
    cases hq : tGet M N.data.toList <;> simp [ChgD.chg, tNow, hq]
  have HG := Lib.hid hg
  have HC := Lib.hid (And.intro hchg (And.intro hb hgn))
  have HF := Lib.hid hF
  clear hF hg hW1 hf1 h hN hb1 hrb2 hb hgn hchg
  go_enter Tryz.func67, Tryz.ntmps67
  go_wp2_with (go_at_call 77; rw [← HW.out.1]; refine HG.out.mono ?_; rintro e w2 ⟨v, rfl, rfl, h1, h2⟩; (obtain ⟨av, nv, cv, rfl⟩ : ∃ a n c, v = .slice a n c := got_slice h1 h2); (have H2 := Lib.hid (And.intro h1 h2)); (obtain ⟨r0, r1, r2, r3⟩ := row3_open (b := w.heap.size) (by have := HB.out; rw [HR2.out] at this; exact this)); clear h1 h2)
  have hp3 := row3_put (r0 := HB.out) (x := .string N) (y := .slice av nv cv) (z := .bool (!gn))
  have hfp := fr_put3 w2 rb2 (.string N) (.slice av nv cv) (.bool (!gn))
  rw [HR2.out] at hp3 hfp
  obtain ⟨W3, hW3⟩ : ∃ W, W = ((w2.setCell ⟨w.heap.size, 0, none⟩ (.string N)).setCell ⟨w.heap.size, 1, none⟩ (.slice av nv cv)).setCell ⟨w.heap.size, 2, none⟩ (.bool (!gn)) := ⟨_, rfl⟩
  rw [← hW3] at hp3 hfp ⊢
  obtain ⟨t0, t1, t2, _⟩ := row3_open hp3
  refine bodyPost_ret (v := .agg #[.string N, .slice av nv cv, .bool (!gn)]) (by simp [results, Tryz.results67, go_sem, t0, t1, t2]) rfl ⟨av, nv, cv, b, !gn, rfl, HC.out.1 _, ?_, ?_⟩
  · have hbb := HC.out.2.1
    cases hq : tGet M N.data.toList with
    | none =>
      have e := H2.out.2 hq
      simp only [Value.slice.injEq] at e
      obtain ⟨rfl, rfl, rfl⟩ := e
      rw [hq] at hbb
      obtain rfl : b = [] := hbb
      exact BytesIn.nil _ _
    | some x =>
      rw [hq] at hbb
      obtain rfl : b = x := hbb
      exact (H2.out.1 _ hq).keep hfp (fun k _ hk e => by have := HF.out k hk; omega)
  · exact HW.out.2.trans hfp (fun k e => .inr (by omega))
def DoPost (F : Nat → Prop) (rb mb : Nat) (M : Tab) (T : TypeId) (rest : List Value) (L : List Chg) (w : World) (e : Ending) (w' : World) : Prop :=
  ∃ (vb : Value) (Lb : List ChgD) (F' : Nat → Prop), e = .returned vb ∧ RwAt F' w' rb mb (tDoAll M L) T rest ∧ (∀ k, F' k → (F k ∨ w.heap.size ≤ k) ∧ k < w'.heap.size) ∧ (∀ k, F k → F' k) ∧
    ChgsIn (fun k => (F' k ∨ w.heap.size ≤ k) ∧ k < w'.heap.size) w' vb Lb ∧ Lb.map ChgD.chg = (tBack M L).reverse ∧ Fr (fun k => k = rb ∨ k = mb) w w'
structure DoSt (F' G : Nat → Prop) (rb mb : Nat) (M : Tab) (T : TypeId) (rest : List Value) (w wr W : World) (kb : Nat) (N : ByteArray) (x : Value) (B : Bs) (gb : Bool) (v : Value) (Lb : List ChgD) : Prop where
  rw : RwAt F' W rb mb M T rest
  own : OwnC F' w.heap.size W v Lb
  row : W.heap[kb]? = some (.cells #[.string N, x, .bool gb] 53 (0, 0))
  bytes : BytesIn G W x B
  not : ∀ g, v.ownBlock = some g → ¬ F' g
  gs : ∀ k, G k → ¬ (k = rb ∨ k = mb)
  lo : rb < w.heap.size ∧ mb < w.heap.size ∧ w.heap.size ≤ kb
  fr : Fr (fun k => k = rb ∨ k = mb ∨ (w.heap.size ≤ k ∧ k < wr.heap.size)) wr W
  fs : ∀ k, F' k → k < wr.heap.size
theorem DoSt.drop {F' G : Nat → Prop} {rb mb : Nat} {M M' : Tab} {T : TypeId} {rest : List Value} {w wr W W' : World} {kb : Nat} {N : ByteArray} {x : Value} {B : Bs} {gb : Bool} {v : Value} {Lb : List ChgD}
    (H : DoSt F' G rb mb M T rest w wr W kb N x B gb v Lb) (hr : RwAt F' W' rb mb M' T rest) (hf : Fr (fun k => k = rb ∨ k = mb) W W') : DoSt F' G rb mb M' T rest w wr W' kb N x B gb v Lb := by
  have hlo := H.lo
  refine ⟨hr, H.own.keep hf (fun g hg e => ?_) (fun k _ hk e => ?_), hf.heap H.row (fun e => by omega), H.bytes.keep hf (fun k _ hk => H.gs k hk), H.not, H.gs, H.lo, H.fr.trans hf (fun k hk => .inl (by rcases hk with h | h; exact .inl h; exact .inr (.inl h))), H.fs⟩
  · have := H.own.own.own g hg; omega
  · rcases e with rfl | rfl
    · exact H.rw.sep.2.1 hk
    · exact H.rw.sep.2.2 hk
theorem do_step4 {F' G : Nat → Prop} {rb mb : Nat} {M : Tab} {T : TypeId} {rest : List Value} {w wr W1 w2 w4 : World} {N : ByteArray} {x : Value} {B : Bs} {gb : Bool} {v v4 : Value} {Lb Lb4 : List ChgD} {o : Obj} {P : Nat → Prop}
    (hFi : ∀ k, F' k → P k ∧ k < wr.heap.size) (hnot : ∀ g, v.ownBlock = some g → ¬ F' g) (hLT : rb < w.heap.size ∧ mb < w.heap.size) (hz : w.heap.size ≤ wr.heap.size) (hf1 : Fr (fun _ => False) wr W1) (hz1 : W1.heap.size = wr.heap.size + 1) (ho : OwnC F' w.heap.size wr v Lb) (hr : RwAt F' w2 rb mb M T rest)
    (hrow : w2.heap[wr.heap.size]? = some (.cells #[.string N, x, .bool gb] 53 (0, 0))) (hb : BytesIn G w2 x B) (hG : ∀ k, G k → k < w.heap.size ∧ k ≠ rb ∧ k ≠ mb) (hf2 : Fr (fun _ => False) W1 w2) (ho4 : OwnC F' w.heap.size w4 v4 Lb4) (hf4 : Fr (fun k => v.ownBlock = some k) (w2.alloc o) w4) (hv : v4.ownBlock = v.ownBlock ∨ v4.ownBlock = some (w2.alloc o).heap.size) :
    DoSt F' G rb mb M T rest w wr w4 wr.heap.size N x B gb v4 Lb4 := by
  have hfo : Fr (fun _ => False) w2 (w2.alloc o) := (Fr.refl _ _).alloc _
  have hzo : (w2.alloc o).heap.size = w2.heap.size + 1 := by simp
  have hz2 := hf2.size
  have hown := fun g hg => ho.own.own g hg
  refine ⟨(hr.quiet hfo).keep hf4 (fun e => by have := hown rb e; omega) (fun e => by have := hown mb e; omega) (fun k _ hk e => hnot k e hk), ho4, hf4.heap (hfo.heap hrow id) (fun e => by have := hown _ e; omega), (hb.keep hfo (fun _ _ _ h => h)).keep hf4 (fun k _ hk e => by have := hown k e; have := hG k hk; omega), fun g hg hF => ?_, fun k hk e => by have := hG k hk; omega, ⟨hLT.1, hLT.2, hz⟩, ((hf1.trans hf2 (fun _ h => h.elim)).trans hfo (fun _ h => h.elim) |>.mono (fun _ _ h => h.elim)).trans hf4 (fun k hk => .inl (.inr (.inr (hown k hk)))), fun k hk => (hFi k hk).2⟩
  rcases hv with hv | hv
  · exact hnot g (by rw [← hv, hg]) hF
  · rw [hg] at hv
    have := Option.some.inj hv
    have := (hFi g hF).2
    omega
set_option maxRecDepth 100000 in
set_option maxHeartbeats 4000000 in
theorem do_any {F G : Nat → Prop} {rb mb : Nat} {M : Tab} {T : TypeId} {rest : List Value} (w : World) (h : RwAt F w rb mb M T rest) (hF : ∀ k, F k → k < w.heap.size) (v : Value) (L : List ChgD) (hL : ChgsIn G w v L) (hG : ∀ k, G k → k < w.heap.size ∧ k ≠ rb ∧ k ≠ mb) (hok : ∀ p ∈ L, chgOk p.chg) (hn : L.length ≤ 1000) (hm : M.length ≤ 50000) :
    Calls Tryz.prog 36 #[.pointer (some ⟨rb, 0, none⟩), v] w (DoPost F rb mb M T rest (L.map ChgD.chg) w) := by
  obtain ⟨ao, cap, rfl, hc1, hc2, b, off, hao, hcells⟩ := hL.open6
  obtain ⟨n, hnn⟩ : ∃ n, n = L.length := ⟨_, rfl⟩
  rw [← hnn] at hn hc1 hao ⊢
  have HN := Lib.hid hnn
  have HL := Lib.hid (And.intro hL (And.intro hG (And.intro hok (And.intro hm hF))))
  have HCE := Lib.hid hcells
  have HAO := Lib.hid hao
  have hlt := h.lt
  have H0 := Lib.hid (show RwAt F w rb mb (tDoAll M ((L.take 0).map ChgD.chg)) T rest ∧ (∀ k, F k → (F k ∨ w.heap.size ≤ k) ∧ k < w.heap.size) ∧ (∀ k, F k → F k) ∧ OwnC F w.heap.size w (.slice none 0 0) [] ∧ (∀ g, (Value.slice none 0 0).ownBlock = some g → ¬ F g) ∧ ([] : List ChgD).map ChgD.chg = tBack M ((L.take 0).map ChgD.chg) ∧ Fr (fun k => k = rb ∨ k = mb) w w from ⟨h, fun k hk => ⟨.inl hk, hF k hk⟩, fun k hk => hk, OwnC.nil _ _ _, (fun g hg => by simp [Value.ownBlock] at hg), rfl, Fr.refl _ _⟩)
  have HLT := Lib.hid hlt
  clear h hL hG hok hm hF hnn hcells hao hlt
  go_enter Tryz.func36, Tryz.ntmps36
  go_wp2
  go_loopw [4, 9] (fun bv iv wr => ∃ (i : Nat), i ≤ n ∧ iv = .int .i64 i ∧ (∃ ab cb, bv = .slice ab i cb) ∧ Hid (∃ (Lb : List ChgD) (F' : Nat → Prop), RwAt F' wr rb mb (tDoAll M ((L.take i).map ChgD.chg)) T rest ∧ (∀ k, F' k → (F k ∨ w.heap.size ≤ k) ∧ k < wr.heap.size) ∧ (∀ k, F k → F' k) ∧ OwnC F' w.heap.size wr bv Lb ∧ (∀ g, bv.ownBlock = some g → ¬ F' g) ∧ Lb.map ChgD.chg = tBack M ((L.take i).map ChgD.chg) ∧ Fr (fun k => k = rb ∨ k = mb) w wr)) (fun _ iv _ => n - (intOf iv).toNat)
  case atStart => exact ⟨0, by omega, rfl, ⟨none, 0, rfl⟩, Lib.hid ⟨[], F, H0.out⟩⟩
  case round =>
    clear H0
    obtain ⟨i, hi, rfl, ⟨ab, cb, rfl⟩, hR⟩ := hrel
    by_cases hlt : i < n
    · obtain ⟨Lb, Fi, hRw, hFi, hFF, hO, hown, hbk, hfr⟩ := hR.out
      have hiL : i < L.length := by have := HN.out; omega
      obtain ⟨N, x, B, gb, hp⟩ : ∃ N x B gb, L[i] = (⟨N, x, B, gb⟩ : ChgD) := ⟨_, _, _, _, rfl⟩
      have hce := HCE.out i hiL
      rw [hp] at hce
      obtain ⟨e0, e1, e2⟩ := hce
      have hbx := HL.out.1.bytes _ (List.getElem_mem hiL)
      have hcok := HL.out.2.2.1 _ (List.getElem_mem hiL)
      rw [hp] at hbx hcok
      obtain ⟨ax, nx, cx, rfl⟩ : ∃ a n c, x = .slice a n c := by obtain ⟨a, c, e, _⟩ := hbx; exact ⟨a, _, c, e⟩
      have hGS : ∀ k, G k → ¬ (k = rb ∨ k = mb) := fun k hk e => by have := HL.out.2.1 k hk; omega
      obtain ⟨rfl, hGb⟩ := HAO.out (by omega)
      have f0 := hfr.cell e0 (hGS b hGb)
      have f1 := hfr.cell e1 (hGS b hGb)
      have f2 := hfr.cell e2 (hGS b hGb)
      have hbx2 := hbx.keep hfr (fun k _ hk => hGS k hk)
      have hsn : (L.take (i + 1)).map ChgD.chg = (L.take i).map ChgD.chg ++ [(⟨N, .slice ax nx cx, B, gb⟩ : ChgD).chg] := by rw [List.take_succ_eq_append_getElem hiL, hp, List.map_append]; rfl
      obtain ⟨Mi, hMi⟩ : ∃ Mi, Mi = tDoAll M ((L.take i).map ChgD.chg) := ⟨_, rfl⟩
      have hMl : Mi.length ≤ 51000 := by
        have h1 := tDoAll_le M ((L.take i).map ChgD.chg)
        rw [List.length_map, List.length_take] at h1
        have := HL.out.2.2.2.1
        rw [hMi]; omega
      have hdo : tDoAll M ((L.take (i + 1)).map ChgD.chg) = tDo Mi (⟨N, .slice ax nx cx, B, gb⟩ : ChgD).chg := by rw [hsn, tDoAll_snoc, ← hMi]
      have hbs : tBack M ((L.take (i + 1)).map ChgD.chg) = tBack M ((L.take i).map ChgD.chg) ++ [tNow Mi N.data.toList] := by rw [hsn, tBack_snoc, ← hMi]; rfl
      rw [← hMi] at hRw
      have hkey : keyOk N.data.toList := hcok.1
      have hNs : N.size ≤ 64 := by have := hkey.2; rw [size_list] at this; exact this
      obtain ⟨W1, hW1⟩ : ∃ W1, W1 = wr.alloc (.cells #[.string N, .slice ax nx cx, .bool gb] 53) := ⟨_, rfl⟩
      have hf1 : Fr (fun _ => False) wr W1 := by rw [hW1]; exact (Fr.refl _ _).alloc _
      have hrow1 : W1.heap[wr.heap.size]? = some (.cells #[.string N, .slice ax nx cx, .bool gb] 53 (0, 0)) := by rw [hW1]; exact heap_alloc_new wr _
      have hz1 : W1.heap.size = wr.heap.size + 1 := by rw [hW1]; simp
      have hzr := hfr.size
      have hlt2 := hRw.lt
      have hLbl : Lb.length = i := by have h1 := congrArg List.length hbk; rw [List.length_map, tBack_length, List.length_map, List.length_take] at h1; omega
      have S1 := Lib.hid (And.intro (hRw.quiet hf1) (And.intro (hO.keep hf1 (fun _ _ h => h) (fun _ _ _ h => h)) (And.intro hrow1 (hbx2.keep hf1 (fun _ _ _ h => h)))))
      have hnow := now_any W1 S1.out.1 (fun k hk => by have := hFi k hk; omega) N (by omega)
      have HNOW := Lib.hid hnow
      have HW := Lib.hid (And.intro hW1 (And.intro hf1 hz1))
      have HK := Lib.hid (And.intro hFi (And.intro hFF (And.intro hown (And.intro hbk (And.intro hfr (And.intro hdo (And.intro hbs (And.intro hMl (And.intro hkey (And.intro hNs (And.intro hLbl hGS)))))))))))
      have HOO := Lib.hid hO
      have HX := Lib.hid (And.intro hcok (And.intro hzr hRw.ok))
      obtain ⟨k0, k1, k2, _⟩ := row3_open hrow1
      rw [hW1] at k0 k1 k2
      clear hR hRw hFi hFF hO hown hbk hfr e0 e1 e2 hbx hcok hGS hbx2 hsn hMi hMl hdo hbs hkey hNs hW1 hf1 hrow1 hz1 hzr hlt2 hnow hp hGb hLbl
      cases gb with
      | true =>
        go_wp2_with (first
          | (go_at_call 67; rw [← HW.out.1]; refine HNOW.out.mono ?_; rintro e w2 ⟨aq, nq, cq, bq, gq, rfl, hq1, hq2, hf2⟩; (have S2 := Lib.hid (And.intro (S1.out.1.quiet hf2) (And.intro (S1.out.2.1.keep hf2 (fun _ _ h => h) (fun _ _ _ h => h)) (And.intro (hf2.heap S1.out.2.2.1 id) (And.intro (S1.out.2.2.2.keep hf2 (fun _ _ _ h => h)) (And.intro hq1 (And.intro hq2 hf2))))))); (obtain ⟨k0, k1, k2, _⟩ := row3_open S2.out.2.2.1); clear hq1 hq2 hf2)
          | (at_builtin; refine wpList_append_chg (z := w.heap.size) (F := Fi) (G := Fi) (w2.alloc (.cells #[.string N, .slice aq nq cq, .bool gq] 53)) rfl (.tmp 13) (.tmp 18) rfl (.slice ab i cb) Lb ⟨N, .slice aq nq cq, bq, gq⟩ w2.heap.size rfl rfl (heap_alloc_new w2 _) (S2.out.2.1.keep ((Fr.refl (fun _ => False) w2).alloc _) (fun _ _ h => h) (fun _ _ _ h => h)) (S2.out.2.2.2.2.2.1.keep ((Fr.refl (fun _ => False) w2).alloc _) (fun _ _ _ h => h)) (fun k _ hk => ⟨hk, fun e => HK.out.2.2.1 k e hk⟩) rfl (by have := S2.out.2.2.2.2.2.2.size; have := HW.out.2.2; have := HX.out.2.1; simp; omega) (by rw [HK.out.2.2.2.2.2.2.2.2.2.2.1]; omega) ?_; intro v4 w4 ho4 hf4 hv4; (obtain ⟨a4, c4, rfl⟩ := ho4.form); (have S4 := Lib.hid (do_step4 HK.out.1 HK.out.2.2.1 HLT.out HX.out.2.1 HW.out.2.1 HW.out.2.2 HOO.out S2.out.1 S2.out.2.2.1 S2.out.2.2.2.1 HL.out.2.1 S2.out.2.2.2.2.2.2 ho4 hf4 hv4)); (rw [show (Lb ++ [(⟨N, .slice aq nq cq, bq, gq⟩ : ChgD)]).length = i + 1 by rw [List.length_append, HK.out.2.2.2.2.2.2.2.2.2.2.1]; rfl] at S4 ⊢); (obtain ⟨k0, k1, k2, _⟩ := row3_open S4.out.row); clear ho4 hf4 hv4)
          | (go_at_call 68; refine (drop_any w4 S4.out.rw N HK.out.2.2.2.2.2.2.2.2.2.1).mono ?_; rintro e w5 ⟨rfl, hr5, hf5⟩; (have S5 := Lib.hid (S4.out.drop hr5 hf5)); (obtain ⟨k0, k1, k2, _⟩ := row3_open S5.out.row); clear hr5 hf5))
        go_roundw
        case rel =>
          refine ⟨i + 1, by omega, by go_num, ⟨a4, c4, rfl⟩, Lib.hid ⟨_, Fi, ?_, fun k hk => ⟨(HK.out.1 k hk).1, ?_⟩, HK.out.2.1, S5.out.own, S5.out.not, ?_, HK.out.2.2.2.2.1.trans S5.out.fr (fun k hk => ?_)⟩⟩
          · rw [HK.out.2.2.2.2.2.1]; exact S5.out.rw
          · have := (HK.out.1 k hk).2; have := S5.out.fr.size; omega
          · rw [List.map_append, HK.out.2.2.2.1, HK.out.2.2.2.2.2.2.1, ← S2.out.2.2.2.2.1]; rfl
          · rcases hk with h | h | h
            · exact .inl (.inl h)
            · exact .inl (.inr h)
            · exact .inr h.1
        case measure => simp [intOf]; omega
      | false =>
        go_wp2_with (first
          | (go_at_call 67; rw [← HW.out.1]; refine HNOW.out.mono ?_; rintro e w2 ⟨aq, nq, cq, bq, gq, rfl, hq1, hq2, hf2⟩; (have S2 := Lib.hid (And.intro (S1.out.1.quiet hf2) (And.intro (S1.out.2.1.keep hf2 (fun _ _ h => h) (fun _ _ _ h => h)) (And.intro (hf2.heap S1.out.2.2.1 id) (And.intro (S1.out.2.2.2.keep hf2 (fun _ _ _ h => h)) (And.intro hq1 (And.intro hq2 hf2))))))); (obtain ⟨k0, k1, k2, _⟩ := row3_open S2.out.2.2.1); clear hq1 hq2 hf2)
          | (at_builtin; refine wpList_append_chg (z := w.heap.size) (F := Fi) (G := Fi) (w2.alloc (.cells #[.string N, .slice aq nq cq, .bool gq] 53)) rfl (.tmp 13) (.tmp 18) rfl (.slice ab i cb) Lb ⟨N, .slice aq nq cq, bq, gq⟩ w2.heap.size rfl rfl (heap_alloc_new w2 _) (S2.out.2.1.keep ((Fr.refl (fun _ => False) w2).alloc _) (fun _ _ h => h) (fun _ _ _ h => h)) (S2.out.2.2.2.2.2.1.keep ((Fr.refl (fun _ => False) w2).alloc _) (fun _ _ _ h => h)) (fun k _ hk => ⟨hk, fun e => HK.out.2.2.1 k e hk⟩) rfl (by have := S2.out.2.2.2.2.2.2.size; have := HW.out.2.2; have := HX.out.2.1; simp; omega) (by rw [HK.out.2.2.2.2.2.2.2.2.2.2.1]; omega) ?_; intro v4 w4 ho4 hf4 hv4; (obtain ⟨a4, c4, rfl⟩ := ho4.form); (have S4 := Lib.hid (do_step4 HK.out.1 HK.out.2.2.1 HLT.out HX.out.2.1 HW.out.2.1 HW.out.2.2 HOO.out S2.out.1 S2.out.2.2.1 S2.out.2.2.2.1 HL.out.2.1 S2.out.2.2.2.2.2.2 ho4 hf4 hv4)); (rw [show (Lb ++ [(⟨N, .slice aq nq cq, bq, gq⟩ : ChgD)]).length = i + 1 by rw [List.length_append, HK.out.2.2.2.2.2.2.2.2.2.2.1]; rfl] at S4 ⊢); (obtain ⟨k0, k1, k2, _⟩ := row3_open S4.out.row); clear ho4 hf4 hv4)
          | (go_at_call 68; refine (drop_any w4 S4.out.rw N HK.out.2.2.2.2.2.2.2.2.2.1).mono ?_; rintro e w5 ⟨rfl, hr5, hf5⟩; (have S5 := Lib.hid (S4.out.drop hr5 hf5)); (obtain ⟨k0, k1, k2, _⟩ := row3_open S5.out.row); clear hr5 hf5)
          | (go_at_call 69; refine (put_any6 w5 S5.out.rw N HK.out.2.2.2.2.2.2.2.2.1 (.slice ax nx cx) B S5.out.bytes (HX.out.1.2 B rfl) (fun hk => S5.out.gs mb hk (.inr rfl)) (tGet_del_same _ _) (by have := tDel_le Mi N.data.toList; have := HK.out.2.2.2.2.2.2.2.1; omega)).mono ?_; rintro e w6 ⟨rfl, hr6, hf6⟩; (have S6 := Lib.hid (And.intro hr6 hf6)); clear hr6 hf6))
        go_roundw
        case rel =>
          refine ⟨i + 1, by omega, by go_num, ⟨a4, c4, rfl⟩, Lib.hid ⟨_, fun k => Fi k ∨ (w5.heap.size ≤ k ∧ k < w6.heap.size), ?_, fun k hk => ?_, fun k hk => .inl (HK.out.2.1 k hk), (S5.out.own.keep S6.out.2 (fun g hg e => ?_) (fun k _ hk e => ?_)).mono (fun k _ hk => .inl hk), fun g hg hk => ?_, ?_, (HK.out.2.2.2.2.1.trans S5.out.fr (fun k hk => ?_)).trans S6.out.2 (fun k hk => .inl hk)⟩⟩
          · have h6 := S6.out.1
            rw [tPut_del HX.out.2.2.1] at h6
            rw [HK.out.2.2.2.2.2.1]; exact h6
          · have := S6.out.2.size
            have := S5.out.fr.size
            have := HX.out.2.1
            rcases hk with hk | hk
            · have := HK.out.1 k hk; exact ⟨this.1, by omega⟩
            · exact ⟨.inr (by omega), hk.2⟩
          · have := S5.out.own.own.own g hg; have := HLT.out; omega
          · rcases e with rfl | rfl
            · exact S5.out.rw.sep.2.1 hk
            · exact S5.out.rw.sep.2.2 hk
          · have := S5.out.own.own.own g hg
            rcases hk with hk | hk
            · exact S5.out.not g hg hk
            · omega
          · rw [List.map_append, HK.out.2.2.2.1, HK.out.2.2.2.2.2.2.1, ← S2.out.2.2.2.2.1]; rfl
          · rcases hk with h | h | h
            · exact .inl (.inl h)
            · exact .inl (.inr h)
            · exact .inr h.1
        case measure => simp [intOf]; omega
    · obtain rfl : i = n := by omega
      obtain ⟨Lb, Fi, hRw, hFi, hFF, hO, hown, hbk, hfr⟩ := hR.out
      have htk : L.take i = L := List.take_of_length_le (by rw [← HN.out]; exact Nat.le_refl _)
      rw [htk] at hRw hbk
      have hLbl : Lb.length ≤ 1000000 := by have h1 := congrArg List.length hbk; rw [List.length_map, tBack_length, List.length_map, ← HN.out] at h1; omega
      have H := Lib.hid (And.intro hRw (And.intro hFi (And.intro hFF (And.intro hO (And.intro hown (And.intro hbk hfr))))))
      have HREV := Lib.hid (reverse_any wr _ Lb hO hLbl)
      clear hR hRw hFi hFF hO hown hbk hfr htk hLbl
      go_wp2_with (go_at_call 70; refine HREV.out.mono ?_; rintro e w2 ⟨rfl, hc2, hf2⟩; (have H2 := Lib.hid (And.intro hc2 hf2)); clear hc2 hf2)
      go_ret
      obtain ⟨hRw, hFi, hFF, hO, hown, hbk, hfr⟩ := H.out
      have hz := H2.out.2.size
      refine ⟨_, Lb.reverse, Fi, rfl, hRw.keep H2.out.2 (fun e => ?_) (fun e => ?_) (fun k _ hk e => hown k e hk), fun k hk => ⟨(hFi k hk).1, by have := (hFi k hk).2; omega⟩, hFF, (H2.out.1.mono (fun k hk h => ⟨h.elim .inl (fun e => .inr (hO.own.own k e).1), hk⟩)), by rw [List.map_reverse, hbk], hfr.trans H2.out.2 (fun k e => .inr (hO.own.own k e).1)⟩
      · have := hO.own.own rb e; have := HLT.out; omega
      · have := hO.own.own mb e; have := HLT.out; omega
end Go.Proofs.YtldgcoikbjbjeaaGreat
