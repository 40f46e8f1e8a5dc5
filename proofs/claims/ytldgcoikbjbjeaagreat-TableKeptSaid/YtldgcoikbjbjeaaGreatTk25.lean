/- Laid together: TMk TBytes TChs -/
import Derived.Test.YtldgcoikbjbjeaaGreatTk11
import Derived.Test.YtldgcoikbjbjeaaGreatTk12
import Derived.Deep.RegionHeldLaw
import Derived.Test.YtldgcoikbjbjeaaGreatTk24

namespace Go.Proofs.YtldgcoikbjbjeaaGreat
open Go.RowKit Go.ChangeShapes
set_option linter.unusedVariables false
abbrev Grow (F : Nat → Prop) (w w' : World) : Nat → Prop := fun k => (F k ∨ w.heap.size ≤ k) ∧ k < w'.heap.size
structure MkAt (F : Nat → Prop) (w : World) (b : Nat) (L : Bs) : Prop where
  mak : MakAt F w b (some L)
  lt : ∀ k, F k → k < w.heap.size
section
variable {F G S : Nat → Prop} {w w' : World} {b s : Nat} {L X Y : Bs} {x y : Value}
theorem MkAt.keep (h : MkAt F w b L) (hf : Fr S w w') (hd : ∀ k, F k → ¬ S k) : MkAt F w' b L := ⟨h.mak.keep hf (fun k _ hk => hd k hk), fun k hk => by have := h.lt k hk; have := hf.size; omega⟩
theorem MkAt.of (h : MakAt (fun k => F k ∨ w.heap.size ≤ k) w' b (some L)) : MkAt (Grow F w w') w' b L := ⟨h.mono (fun k hk hh => ⟨hh, hk⟩), fun k hk => hk.2⟩
theorem MkAt.in (h : MkAt F w b L) : MakAt (fun k => F k ∨ w.heap.size ≤ k) w b (some L) := h.mak.mono (fun k _ hh => .inl hh)
theorem Fr.low (h : Fr (fun k => F k ∨ w.heap.size ≤ k) w w') : Fr F w w' := h.mono (fun k hk hh => hh.elim id (fun e => by omega))
theorem mkNum_any (h : MkAt F w b L) (n : Nat) (hn : n ≤ 1099511627776) (hs : w.cell? ⟨s, 0, none⟩ = some (.int .i64 n)) (hlen : L.length ≤ 1000000000) :
    Calls Tryz.prog 79 #[.pointer (some ⟨b, 0, none⟩), .slice (some ⟨s, 0, none⟩) 1 1] w fun r w' => r = .returned (.pointer (some ⟨b, 0, none⟩)) ∧ Fr F w w' ∧ MkAt (Grow F w w') w' b (L ++ numBytes 5 n) := by
  refine (makerNum_any (F := fun k => F k ∨ w.heap.size ≤ k) (n : Int) w (fun k hk => .inr hk) h.in hs (fun M hM => by cases hM; omega)).mono ?_
  rintro e w' ⟨rfl, hf, hm⟩
  rw [mkNum, if_pos ⟨by omega, by omega⟩] at hm
  exact ⟨rfl, hf.low, MkAt.of (by simpa using hm)⟩
theorem mkText_some (hX : X.length ≤ 1048576) : mkText X (some L) = some (L ++ recB X) := by rw [mkText, if_pos hX]; rfl
theorem mkText1_any (h : MkAt F w b L) (hs : w.cell? ⟨s, 0, none⟩ = some x) (hx : BytesIn G w x X) (hG : ∀ k, k < w.heap.size → G k → ¬ F k) (hX : X.length ≤ 1048576) (hlen : L.length ≤ 1000000000) :
    Calls Tryz.prog 105 #[.pointer (some ⟨b, 0, none⟩), .slice (some ⟨s, 0, none⟩) 1 1] w fun r w' => r = .returned (.pointer (some ⟨b, 0, none⟩)) ∧ Fr F w w' ∧ MkAt (Grow F w w') w' b (L ++ recB X) := by
  refine (makerText_any (F := fun k => F k ∨ w.heap.size ≤ k) (G := fun k => G k ∧ k < w.heap.size) w (fun k hk => .inr hk) (fun k hk hh => hh.elim (hG k hk.2 hk.1) (fun e => by have := hk.2; omega)) h.in hs (hx.mono (fun k hk hh => ⟨hh, hk⟩)) (fun M hM => by cases hM; omega)).mono ?_
  rintro e w' ⟨rfl, hf, hm⟩
  rw [mkText_some hX] at hm
  exact ⟨rfl, hf.low, MkAt.of hm⟩
set_option maxRecDepth 100000 in
set_option maxHeartbeats 1000000 in
theorem mkText2_any (h : MkAt F w b L) (hs : w.cell? ⟨s, 0, none⟩ = some x) (hs2 : w.cell? ⟨s, 1, none⟩ = some y) (hsF : ¬ F s) (hx : BytesIn G w x X) (hy : BytesIn G w y Y) (hG : ∀ k, k < w.heap.size → G k → ¬ F k) (hX : X.length ≤ 1048576) (hY : Y.length ≤ 1048576) (hlen : L.length ≤ 1000000000) :
    Calls Tryz.prog 105 #[.pointer (some ⟨b, 0, none⟩), .slice (some ⟨s, 0, none⟩) 2 2] w fun r w' => r = .returned (.pointer (some ⟨b, 0, none⟩)) ∧ Fr F w w' ∧ MkAt (Grow F w w') w' b (L ++ recB X ++ recB Y) := by
  obtain ⟨ax, cx, rfl, _⟩ := id hx
  obtain ⟨ay, cy, rfl, _⟩ := id hy
  have hsl := World.block_lt_of_cell? _ _ hs
  have hrx : (recB X).length ≤ 1050000 := by rw [recB_len]; have := (numBytes_len 5 X.length).2; omega
  have hy2 : BytesIn (fun k => G k ∧ k < w.heap.size) w (.slice ay Y.length cy) Y := hy.mono (fun k hk hh => ⟨hh, hk⟩)
  have HN := Lib.hid (text_any (F := fun k => F k ∨ w.heap.size ≤ k) (G := fun k => G k ∧ k < w.heap.size) w (fun k hk => .inr hk) (fun k hk hh => hh.elim (hG k hk.2 hk.1) (fun e => by have := hk.2; omega)) h.in (hx.mono (fun k hk hh => ⟨hh, hk⟩)) (fun M hM => by cases hM; omega))
  have HN2 := Lib.hid (fun (w1 : World) (hf : Fr (fun k => F k ∨ w.heap.size ≤ k) w w1) (hm : MakAt (fun k => F k ∨ w.heap.size ≤ k) w1 b (some (L ++ recB X))) => text_any (F := fun k => F k ∨ w.heap.size ≤ k) (G := fun k => G k ∧ k < w.heap.size) w1 (fun k hk => .inr (Nat.le_trans hf.size hk)) (fun k hk hh => hh.elim (hG k hk.2 hk.1) (fun e => by have := hk.2; omega)) hm (hy2.keep hf (fun k _ hk hh => hh.elim (hG k hk.2 hk.1) (fun e => by have := hk.2; omega))) (fun M hM => by cases hM; rw [List.length_append]; omega))
  have HS := Lib.hid (fun (w1 : World) (hf : Fr (fun k => F k ∨ w.heap.size ≤ k) w w1) => (hf.cell hs2 (fun hh => hh.elim hsF (fun e => Nat.not_lt.2 e hsl)) : w1.cell? ⟨s, 1, none⟩ = some (.slice ay Y.length cy)))
  have HXY := Lib.hid (And.intro hX hY)
  clear hx hy hy2 h hs2
  go_enter Tryz.func105, Tryz.ntmps105
  go_wp2
  refine wp_loop_rounds 3 ?_
  rw [rounds_succ]
  go_wp2_with (go_at_call 136; refine HN.out.mono ?_; rintro e w1 ⟨rfl, hf1, hM1⟩; rw [mkText_some HXY.out.1] at hM1; have H1 := Lib.hid hf1; have HN3 := Lib.hid (HN2.out w1 hf1 hM1); have hc := HS.out w1 hf1; clear hf1 hM1)
  rw [rounds_succ]
  go_wp2_with (go_at_call 136; refine HN3.out.mono ?_; rintro e w2 ⟨rfl, hf2, hM2⟩; rw [mkText_some HXY.out.2] at hM2; have H2 := Lib.hid (H1.out.trans hf2 (fun k hk => .inl hk)); have H3 := Lib.hid hM2; clear hf2 hM2)
  rw [rounds_succ]
  go_wp2
  go_ret
  exact ⟨rfl, H2.out.low, MkAt.of H3.out⟩
theorem MkAt.new (w : World) (T : TypeId) : MkAt (fun k => k = w.heap.size) (w.alloc (.cells #[.pointer none, .int .i64 0, .bool false] T)) w.heap.size [] :=
  ⟨⟨rfl, T, .inl ⟨rfl, heap_alloc_new w _⟩⟩, fun k hk => by subst hk; simp⟩
theorem mkDone_any (h : MkAt F w b L) (hlen : L.length ≤ 1000000000) :
    Calls Tryz.prog 80 #[.pointer (some ⟨b, 0, none⟩)] w fun r w' => ∃ ao c, r = .returned (.tuple #[.slice ao L.length c, .int .i64 0]) ∧ Fr (fun _ => False) w w' ∧ OwnB (fun k => w.heap.size ≤ k) w' (.slice ao L.length c) L := by
  refine (done_yes w h.mak (by omega)).mono ?_
  rintro e w' ⟨v, rfl, hf, ho⟩
  obtain ⟨ao, c, rfl⟩ := ho.len
  exact ⟨ao, c, rfl, hf, ho⟩
end
end Go.Proofs.YtldgcoikbjbjeaaGreat
namespace Go.Proofs.YtldgcoikbjbjeaaGreat
open Go.RowKit Go.ChangeShapes
set_option linter.unusedVariables false
set_option linter.unusedSimpArgs false
theorem conv_all (N : ByteArray) (hN : N.size ≤ maxLen) : ∃ (cp : World → Nat) (cw : World → World), (∀ w, (convert 9 43 (.string N)).run Tryz.prog w = .ok (.slice (some ⟨w.heap.size, 0, none⟩) N.size (cp w)) (cw w)) ∧ ∀ w, Fr (fun _ => False) w (cw w) ∧ BytesIn (fun k => k = w.heap.size) (cw w) (.slice (some ⟨w.heap.size, 0, none⟩) N.size (cp w)) N.data.toList ∧ (cw w).heap.size = w.heap.size + 1 := by
  have h : ∀ w : World, ∃ q : Nat × World, (convert 9 43 (.string N)).run Tryz.prog w = .ok (.slice (some ⟨w.heap.size, 0, none⟩) N.size q.1) q.2 ∧ Fr (fun _ => False) w q.2 ∧ BytesIn (fun k => k = w.heap.size) q.2 (.slice (some ⟨w.heap.size, 0, none⟩) N.size q.1) N.data.toList ∧ q.2.heap.size = w.heap.size + 1 := fun w => by
    obtain ⟨c, W, h1, h2, h3, h4⟩ := run_tag w N hN
    exact ⟨(c, W), h1, h2, h3, h4⟩
  obtain ⟨f, hf⟩ := Classical.axiomOfChoice h
  exact ⟨fun w => (f w).1, fun w => (f w).2, fun w => (hf w).1, fun w => (hf w).2⟩
theorem chg_bytes_le (l : List Chg) (h : ∀ c ∈ l, chgOk c) : (l.flatMap chgB).length ≤ 2300 * l.length := by
  induction l with
  | nil => simp
  | cons c l ih =>
    have h1 := ih (fun d hd => h d (List.mem_cons_of_mem _ hd))
    have h2 := h c List.mem_cons_self
    have : (chgB c).length ≤ 2300 := by
      have hk := h2.1.2
      have n1 := (numBytes_len 5 1).2
      have n0 := (numBytes_len 5 0).2
      have nk := (numBytes_len 5 c.1.length).2
      unfold chgB
      split
      · rw [List.length_append, recB_len]; omega
      · next v e =>
        have hv := h2.2 v e
        have nv := (numBytes_len 5 v.length).2
        rw [List.length_append, List.length_append, recB_len, recB_len]; omega
    rw [List.flatMap_cons, List.length_append, List.length_cons]
    omega
section
variable {F : Nat → Prop} {W3 X Z X1 w1 W w4 : World} {b z k : Nat} {L : Bs}
theorem cell_new1 {s : Nat} {v : Value} {T : TypeId} (h : s = X.heap.size) : (X.alloc (.cells #[v] T)).cell? ⟨s, 0, none⟩ = some v := by rw [h]; exact cell_of_one (heap_alloc_new X _)
theorem cell_new2a {s : Nat} {x y : Value} {T : TypeId} (h : s = X.heap.size) : (X.alloc (.cells #[x, y] T)).cell? ⟨s, 0, none⟩ = some x := by rw [h]; exact cell_of_row _ _ _ _ _ _ (heap_alloc_new X _)
theorem cell_new2b {s : Nat} {x y : Value} {T : TypeId} (h : s = X.heap.size) : (X.alloc (.cells #[x, y] T)).cell? ⟨s, 1, none⟩ = some y := by rw [h]; exact cell_of_row _ _ _ _ _ _ (heap_alloc_new X _)
theorem cell_drew {q : Addr} {u : Value} (h : X.cell? q = some u) : X.drew.cell? q = some u := h
theorem cell_old {q : Addr} {u : Value} {o : Obj} (h : X.cell? q = some u) : (X.alloc o).cell? q = some u := ((Fr.refl (fun _ => False) X).alloc o).cell h id
theorem conv_bytes {cw : World → World} {cp : World → Nat} {N : ByteArray} {s : Nat} (hcw : ∀ w, Fr (fun _ => False) w (cw w) ∧ BytesIn (fun k => k = w.heap.size) (cw w) (.slice (some ⟨w.heap.size, 0, none⟩) N.size (cp w)) N.data.toList ∧ (cw w).heap.size = w.heap.size + 1)
    (hs : s = X.heap.size) (h1 : W3.heap.size ≤ X.heap.size) (h2 : Fr F (cw X) W) (hF : ∀ k, F k → k < W3.heap.size) : BytesIn (fun k => k = s) W (.slice (some ⟨s, 0, none⟩) N.size (cp X)) N.data.toList := by
  rw [hs]
  exact (hcw X).2.1.keep h2 (fun k _ e hk => by have := hF k hk; omega)
theorem old_not (h3 : Fr F W3 X1) (h : k < W3.heap.size ∧ ¬ F k) : ¬ Grow F X1 w1 k := by
  rintro ⟨hh, hlt⟩
  have := h3.size
  rcases hh with hh | hh
  · exact h.2 hh
  · omega
theorem MkAt.low (hm : MkAt (Grow F X1 w1) w1 b L) (h : Fr F W3 X1) (hF : ∀ k, F k → z ≤ k) (hz : z ≤ W3.heap.size) : ∀ k, Grow F X1 w1 k → z ≤ k := fun k hk => hk.1.elim (hF k) (fun e => by have := h.size; omega)
theorem text_out (h3 : Fr F W3 W) (hf : Fr (Grow F X1 w1) W w4) (hm : MkAt (Grow (Grow F X1 w1) W w4) w4 b L) (hl : ∀ k, Grow F X1 w1 k → z ≤ k) (hz : z ≤ W3.heap.size) (hF : ∀ k, F k → z ≤ k) : (∀ k, Grow (Grow F X1 w1) W w4 k → z ≤ k) ∧ Fr (fun k => z ≤ k) W3 w4 :=
  ⟨fun k hk => hk.1.elim (hl k) (fun e => by have := h3.size; omega), (h3.mono (fun k _ hk => hF k hk)).trans hf (fun k hk => .inl (hl k hk))⟩
end
set_option maxRecDepth 100000 in
set_option maxHeartbeats 8000000 in
theorem changesBytes_any {G : Nat → Prop} (w : World) (v : Value) (L : List ChgD) (hL : ChgsIn G w v L) (hG : ∀ k, G k → k < w.heap.size) (hok : ∀ p ∈ L, chgOk p.chg) (hn : L.length ≤ 1000) :
    Calls Tryz.prog 71 #[v] w fun e w' => ∃ ao c, e = .returned (.slice ao (chgsB (L.map ChgD.chg)).length c) ∧ BytesIn (fun k => w.heap.size ≤ k) w' (.slice ao (chgsB (L.map ChgD.chg)).length c) (chgsB (L.map ChgD.chg)) ∧ Fr (fun _ => False) w w' := by
  obtain ⟨ao, cap, rfl, hc1, hc2, b, off, hao, hcells⟩ := hL.open6
  obtain ⟨n, hnn⟩ : ∃ n, n = L.length := ⟨_, rfl⟩
  rw [← hnn] at hn hc1 hao ⊢
  have HN := Lib.hid hnn
  obtain ⟨W1, hW1⟩ : ∃ W1, W1 = w.alloc (.cells #[.pointer none, .int .i64 0, .bool false] 146) := ⟨_, rfl⟩
  obtain ⟨W2, hW2⟩ : ∃ W2, W2 = W1.alloc (.cells #[.int .i64 n] 3) := ⟨_, rfl⟩
  have hf1 : Fr (fun _ => False) w W1 := by rw [hW1]; exact (Fr.refl _ _).alloc _
  have hf12 : Fr (fun _ => False) W1 W2 := by rw [hW2]; exact (Fr.refl _ _).alloc _
  have hf2 := hf1.trans hf12 (fun _ h => h.elim)
  have hz1 : W1.heap.size = w.heap.size + 1 := by rw [hW1]; simp
  have hs2 : W2.cell? ⟨w.heap.size + 1, 0, none⟩ = some (.int .i64 n) := by rw [← hz1, hW2]; exact cell_of_one (heap_alloc_new W1 _)
  have hm0 : MkAt (fun k => k = w.heap.size) W1 w.heap.size [] := by rw [hW1]; exact MkAt.new w _
  have hnum := mkNum_any (hm0.keep hf12 (fun _ _ h => h)) n (by omega) hs2 (by simp)
  have HNUM := Lib.hid hnum
  have HW := Lib.hid (And.intro hW1 (And.intro hW2 hf2))
  have HL := Lib.hid (And.intro hL (And.intro hG hok))
  have HCE := Lib.hid hcells
  have HAO := Lib.hid hao
  clear hL hG hok hnn hcells hao hW1 hW2 hf1 hf12 hf2 hz1 hs2 hm0 hnum
  go_enter Tryz.func71, Tryz.ntmps71
  go_wp2_with (first
    | (go_at_call 79; rw [← HW.out.1, ← HW.out.2.1]; refine HNUM.out.mono ?_; rintro e w1 ⟨rfl, hf1, hm1⟩; (have H1 := Lib.hid (And.intro hm1 (HW.out.2.2.trans hf1 (fun k hk => .inr (by rw [show k = w.heap.size from hk]; exact Nat.le_refl _))))); clear hf1 hm1))
  go_loopw [16] (fun iv wr => ∃ (i : Nat), i ≤ n ∧ iv = .int .i64 i ∧ Hid (∃ F : Nat → Prop, MkAt F wr w.heap.size (numBytes 5 n ++ ((L.take i).map ChgD.chg).flatMap chgB) ∧ (∀ k, F k → w.heap.size ≤ k) ∧ Fr (fun _ => False) w wr)) (fun iv _ => n - (intOf iv).toNat)
  case atStart => exact ⟨0, by omega, rfl, Lib.hid ⟨_, by simpa using H1.out.1, (fun k (hk : (k = w.heap.size ∨ _) ∧ _) => hk.1.elim (fun e => by rw [e]; exact Nat.le_refl _) (fun h => Nat.le_trans (show w.heap.size ≤ W2.heap.size from HW.out.2.2.size) h)), H1.out.2⟩⟩
  case round =>
    clear H1
    obtain ⟨i, hi, rfl, hR⟩ := hrel
    by_cases hlt : i < n
    · obtain ⟨F, hM, hFl, hfr⟩ := hR.out
      have hiL : i < L.length := by have := HN.out; omega
      obtain ⟨N, x, B, gb, hp⟩ : ∃ N x B gb, L[i] = (⟨N, x, B, gb⟩ : ChgD) := ⟨_, _, _, _, rfl⟩
      have hce := HCE.out i hiL
      rw [hp] at hce
      obtain ⟨e0, e1, e2⟩ := hce
      have hbx := HL.out.1.bytes _ (List.getElem_mem hiL)
      have hcok := HL.out.2.2 _ (List.getElem_mem hiL)
      rw [hp] at hbx hcok
      obtain ⟨ax, nx, cx, rfl⟩ : ∃ a n c, x = .slice a n c := by obtain ⟨a, c, e, _⟩ := hbx; exact ⟨a, _, c, e⟩
      obtain ⟨rfl, hGb⟩ := HAO.out (by omega)
      have f0 := hfr.cell e0 id
      have f1 := hfr.cell e1 id
      have f2 := hfr.cell e2 id
      have hbx2 := hbx.keep hfr (fun k _ hk h => h)
      have hsn : (L.take (i + 1)).map ChgD.chg = (L.take i).map ChgD.chg ++ [(⟨N, .slice ax nx cx, B, gb⟩ : ChgD).chg] := by rw [List.take_succ_eq_append_getElem hiL, hp, List.map_append]; rfl
      have hkey : keyOk N.data.toList := hcok.1
      obtain ⟨W3, hW3⟩ : ∃ W1, W1 = wr.alloc (.cells #[.string N, .slice ax nx cx, .bool gb] 53) := ⟨_, rfl⟩
      have hf3 : Fr (fun _ => False) wr W3 := by rw [hW3]; exact (Fr.refl _ _).alloc _
      have hrow3 : W3.heap[wr.heap.size]? = some (.cells #[.string N, .slice ax nx cx, .bool gb] 53 (0, 0)) := by rw [hW3]; exact heap_alloc_new wr _
      obtain ⟨k0, k1, k2, _⟩ := row3_open hrow3
      have HS := Lib.hid (And.intro hM (And.intro hFl (And.intro hfr (And.intro hsn (And.intro hkey (And.intro hrow3 (And.intro (hbx2.keep hf3 (fun _ _ _ h => h)) (And.intro hcok hf3))))))))
      have HW3 := Lib.hid hW3
      rw [hW3] at k0 k1 k2
      have HM3 := Lib.hid (hM.keep hf3 (fun _ _ h => h))
      have hnF : ¬ F wr.heap.size := fun hh => by have := hM.lt _ hh; omega
      obtain ⟨q0, q1, _, _⟩ := row3_open hrow3
      have HKB := Lib.hid (show wr.heap.size < W3.heap.size ∧ ¬ F wr.heap.size from ⟨lt_of_block hrow3, hnF⟩)
      have HKC := Lib.hid (fun (X : World) (hx : Fr F W3 X) => (hx.cell q0 hnF : X.cell? ⟨wr.heap.size, 0, none⟩ = some (.string N)))
      have HKD := Lib.hid (fun (X : World) (hx : Fr F W3 X) => (hx.cell q1 hnF : X.cell? ⟨wr.heap.size, 1, none⟩ = some (.slice ax nx cx)))
      have HMF := Lib.hid (fun k hk => (HM3.out.lt k hk : k < W3.heap.size))
      have hblen := chg_bytes_le ((L.take i).map ChgD.chg) (fun c hc => by obtain ⟨p, hp, rfl⟩ := List.mem_map.1 hc; exact HL.out.2.2 p (List.mem_of_mem_take hp))
      rw [List.length_map, List.length_take] at hblen
      have HFL := Lib.hid hFl
      have HZ3 := Lib.hid (Nat.le_trans hfr.size hf3.size)
      have HLN := Lib.hid (show (numBytes 5 n ++ ((L.take i).map ChgD.chg).flatMap chgB).length ≤ 100000000 by have := (numBytes_len 5 n).2; rw [List.length_append]; omega)
      have HLT := Lib.hid (fun (q : Bs) (hq : q.length ≤ 10) => (show (numBytes 5 n ++ ((L.take i).map ChgD.chg).flatMap chgB ++ q).length ≤ 1000000000 by have := HLN.out; rw [List.length_append]; omega))
      have HKL := Lib.hid (show N.data.toList.length ≤ 1048576 by have := hkey.2; omega)
      have HBX := Lib.hid (hbx2.keep hf3 (fun _ _ _ h => h))
      have HGF := Lib.hid (fun (k : Nat) (_ : k < W3.heap.size) (hk : G k) (hh : F k) => (by have := hFl k hh; have := HL.out.2.1 k hk; omega : False))
      have HGN := Lib.hid (fun (k : Nat) (hk : G k) => (⟨by have := HL.out.2.1 k hk; have := hfr.size; have := hf3.size; omega, fun hh => by have := hFl k hh; have := HL.out.2.1 k hk; omega⟩ : k < W3.heap.size ∧ ¬ F k))
      clear q0 q1 hR hM hFl hfr e0 e1 e2 hbx hcok hbx2 hsn hW3 hf3 hrow3 hp hGb hblen
      obtain ⟨cp, cw, hcv, hcw⟩ := conv_all N (by have := hkey.2; rw [size_list] at this; unfold maxLen; omega)
      have hck : ∀ (X : World) (q : Addr) (u : Value), X.cell? q = some u → (cw X).cell? q = some u := fun X q u hu => (hcw X).1.cell hu id
      have hcs : ∀ X : World, (cw X).heap.size = X.heap.size + 1 := fun X => (hcw X).2.2
      have HCW := Lib.hid hcw
      clear hcw hkey
      cases gb with
      | true =>
        go_wp2_with fail
        rw [← HW3.out] at k0 k1 k2 ⊢
        go_region_held_law (fun w' => w'.cell? ⟨wr.heap.size, 0, none⟩ = some (.string N)) (first | assumption | (refine hck _ _ _ ?_; first | assumption | go_keep) | go_keep)
          (first
            | (go_at_call 79; refine (mkNum_any (HM3.out.keep (S := fun _ => False) (by (repeat (first | with_reducible exact Fr.refl _ _ | with_reducible apply Fr.drew | with_reducible apply Fr.alloc | (with_reducible refine Fr.trans ?_ (HCW.out _).1 (fun _ h => h.elim)) | (with_reducible refine Fr.trans ?_ H1.out.1 (fun _ h => .inl h))))) (fun _ _ h => h)) 1 (by decide) (by show _ = some (Value.int .i64 1); (repeat (first | with_reducible exact cell_new1 (by simp [hcs]) | (with_reducible refine hck _ _ _ ?_) | (with_reducible refine cell_drew ?_) | (with_reducible refine cell_old ?_) | (with_reducible refine H1.out.1.cell ?_ (fun hh => by have q1 := HMF.out _ hh; (try simp [hcs] at q1) <;> omega))))) (by have := HLN.out; omega)).mono ?_; rintro e w1 ⟨rfl, hf1, hm1⟩; (have H1 := Lib.hid (And.intro hf1 (And.intro hm1 (hm1.low (W3 := W3) (by (repeat (first | with_reducible exact Fr.refl _ _ | with_reducible apply Fr.drew | with_reducible apply Fr.alloc | (with_reducible refine Fr.trans ?_ (HCW.out _).1 (fun _ h => h.elim)) | (with_reducible refine Fr.trans ?_ H1.out.1 (fun _ h => .inl h))))) HFL.out HZ3.out)))); (have k0 := HKC.out w1 (by (repeat (first | with_reducible exact Fr.refl _ _ | with_reducible apply Fr.drew | with_reducible apply Fr.alloc | (with_reducible refine Fr.trans ?_ (HCW.out _).1 (fun _ h => h.elim)) | (with_reducible refine Fr.trans ?_ H1.out.1 (fun _ h => .inl h)))))); clear hf1 hm1)
            | (go_at_call 105; go_loud (refine (mkText1_any (H1.out.2.1.keep (S := fun _ => False) (by (repeat (first | with_reducible exact Fr.refl _ _ | with_reducible apply Fr.drew | with_reducible apply Fr.alloc | (with_reducible refine Fr.trans ?_ (HCW.out _).1 (fun _ h => h.elim)) | (with_reducible refine Fr.trans ?_ H1.out.1 (fun _ h => .inl h))))) (fun _ _ h => h)) (by (repeat (first | with_reducible exact cell_new1 (by simp [hcs]) | (with_reducible refine hck _ _ _ ?_) | (with_reducible refine cell_drew ?_) | (with_reducible refine cell_old ?_) | (with_reducible refine H1.out.1.cell ?_ (fun hh => by have q1 := HMF.out _ hh; (try simp [hcs] at q1) <;> omega))))) (conv_bytes (F := F) HCW.out (W3 := W3) (by first | rfl | (simp [hcs]; done)) (Fr.size (S := F) (by (repeat (first | with_reducible exact Fr.refl _ _ | with_reducible apply Fr.drew | with_reducible apply Fr.alloc | (with_reducible refine Fr.trans ?_ (HCW.out _).1 (fun _ h => h.elim)) | (with_reducible refine Fr.trans ?_ H1.out.1 (fun _ h => .inl h)))))) (by (repeat (first | with_reducible exact Fr.refl _ _ | with_reducible apply Fr.drew | with_reducible apply Fr.alloc | (with_reducible refine Fr.trans ?_ (HCW.out _).1 (fun _ h => h.elim)) | (with_reducible refine Fr.trans ?_ H1.out.1 (fun _ h => .inl h))))) HMF.out) (fun k _ e => by rw [e]; exact (fun hh => by have q1 := hh.2; have q2 := hh.1.elim (fun a => Or.inl (HMF.out _ a)) Or.inr; have q3 := H1.out.1.size; (try simp [hcs] at q1 q2 q3) <;> omega)) HKL.out (HLT.out _ (by have := (numBytes_len 5 1).2; omega))).mono ?_); rintro e w4 ⟨rfl, hf4, hm4⟩; (have k0 := hf4.cell (HKC.out _ (by (repeat (first | with_reducible exact Fr.refl _ _ | with_reducible apply Fr.drew | with_reducible apply Fr.alloc | (with_reducible refine Fr.trans ?_ (HCW.out _).1 (fun _ h => h.elim)) | (with_reducible refine Fr.trans ?_ H1.out.1 (fun _ h => .inl h)))))) (old_not (W3 := W3) (by (repeat (first | with_reducible exact Fr.refl _ _ | with_reducible apply Fr.drew | with_reducible apply Fr.alloc | (with_reducible refine Fr.trans ?_ (HCW.out _).1 (fun _ h => h.elim)) | (with_reducible refine Fr.trans ?_ H1.out.1 (fun _ h => .inl h))))) HKB.out)); (have H4 := Lib.hid (And.intro hm4 (text_out (W3 := W3) (by (repeat (first | with_reducible exact Fr.refl _ _ | with_reducible apply Fr.drew | with_reducible apply Fr.alloc | (with_reducible refine Fr.trans ?_ (HCW.out _).1 (fun _ h => h.elim)) | (with_reducible refine Fr.trans ?_ H1.out.1 (fun _ h => .inl h))))) hf4 hm4 H1.out.2.2 HZ3.out HFL.out))); clear hf4 hm4))
        all_goals (
          go_wp2_with fail
          go_roundw
          case rel =>
            have e : numBytes 5 n ++ ((L.take (i + 1)).map ChgD.chg).flatMap chgB = numBytes 5 n ++ ((L.take i).map ChgD.chg).flatMap chgB ++ numBytes 5 1 ++ recB N.data.toList := by
              rw [HS.out.2.2.2.1, List.flatMap_append]
              simp [chgB, ChgD.chg, List.append_assoc]
            exact ⟨i + 1, by omega, by go_num, Lib.hid ⟨_, by rw [e]; simpa only [List.append_assoc] using H4.out.1, H4.out.2.1, (HS.out.2.2.1.trans HS.out.2.2.2.2.2.2.2.2 (fun _ h => h.elim)).trans H4.out.2.2 (fun k hk => .inr hk)⟩⟩
          case measure => simp [intOf]; omega)
      | false =>
        have HBL := Lib.hid (show B.length ≤ 1048576 by have := HS.out.2.2.2.2.2.2.2.1.2 B rfl; omega)
        go_wp2_with fail
        rw [← HW3.out] at k0 k1 k2 ⊢
        go_region_held_law (fun w' => w'.cell? ⟨wr.heap.size, 0, none⟩ = some (.string N) ∧ w'.cell? ⟨wr.heap.size, 1, none⟩ = some (.slice ax nx cx)) (first | assumption | (refine hck _ _ _ ?_; first | assumption | go_keep) | go_keep)
          (first
            | (go_at_call 79; refine (mkNum_any (HM3.out.keep (S := fun _ => False) (by (repeat (first | with_reducible exact Fr.refl _ _ | with_reducible apply Fr.drew | with_reducible apply Fr.alloc | (with_reducible refine Fr.trans ?_ (HCW.out _).1 (fun _ h => h.elim)) | (with_reducible refine Fr.trans ?_ H1.out.1 (fun _ h => .inl h))))) (fun _ _ h => h)) 0 (by decide) (by show _ = some (Value.int .i64 0); (repeat (first | with_reducible exact cell_new1 (by simp [hcs]) | (with_reducible refine hck _ _ _ ?_) | (with_reducible refine cell_drew ?_) | (with_reducible refine cell_old ?_) | (with_reducible refine H1.out.1.cell ?_ (fun hh => by have q1 := HMF.out _ hh; (try simp [hcs] at q1) <;> omega))))) (by have := HLN.out; omega)).mono ?_; rintro e w1 ⟨rfl, hf1, hm1⟩; (have H1 := Lib.hid (And.intro hf1 (And.intro hm1 (hm1.low (W3 := W3) (by (repeat (first | with_reducible exact Fr.refl _ _ | with_reducible apply Fr.drew | with_reducible apply Fr.alloc | (with_reducible refine Fr.trans ?_ (HCW.out _).1 (fun _ h => h.elim)) | (with_reducible refine Fr.trans ?_ H1.out.1 (fun _ h => .inl h))))) HFL.out HZ3.out)))); (have k0 := HKC.out w1 (by (repeat (first | with_reducible exact Fr.refl _ _ | with_reducible apply Fr.drew | with_reducible apply Fr.alloc | (with_reducible refine Fr.trans ?_ (HCW.out _).1 (fun _ h => h.elim)) | (with_reducible refine Fr.trans ?_ H1.out.1 (fun _ h => .inl h)))))); (have k1 := HKD.out w1 (by (repeat (first | with_reducible exact Fr.refl _ _ | with_reducible apply Fr.drew | with_reducible apply Fr.alloc | (with_reducible refine Fr.trans ?_ (HCW.out _).1 (fun _ h => h.elim)) | (with_reducible refine Fr.trans ?_ H1.out.1 (fun _ h => .inl h)))))); clear hf1 hm1)
            | (go_at_call 105; go_loud (refine (mkText2_any (H1.out.2.1.keep (S := fun _ => False) (by (repeat (first | with_reducible exact Fr.refl _ _ | with_reducible apply Fr.drew | with_reducible apply Fr.alloc | (with_reducible refine Fr.trans ?_ (HCW.out _).1 (fun _ h => h.elim)) | (with_reducible refine Fr.trans ?_ H1.out.1 (fun _ h => .inl h))))) (fun _ _ h => h)) (by (repeat (first | with_reducible exact cell_new2a (by simp [hcs]) | (with_reducible refine hck _ _ _ ?_) | (with_reducible refine cell_drew ?_) | (with_reducible refine cell_old ?_) | (with_reducible refine H1.out.1.cell ?_ (fun hh => by have q1 := HMF.out _ hh; (try simp [hcs] at q1) <;> omega))))) (by (repeat (first | with_reducible exact cell_new2b (by simp [hcs]) | (with_reducible refine hck _ _ _ ?_) | (with_reducible refine cell_drew ?_) | (with_reducible refine cell_old ?_) | (with_reducible refine H1.out.1.cell ?_ (fun hh => by have q1 := HMF.out _ hh; (try simp [hcs] at q1) <;> omega))))) (fun hh => by have q1 := hh.2; have q2 := hh.1.elim (fun a => Or.inl (HMF.out _ a)) Or.inr; have q3 := H1.out.1.size; (try simp [hcs] at q1 q2 q3) <;> omega) ((conv_bytes (F := F) HCW.out (W3 := W3) (by first | rfl | (simp [hcs]; done)) (Fr.size (S := F) (by (repeat (first | with_reducible exact Fr.refl _ _ | with_reducible apply Fr.drew | with_reducible apply Fr.alloc | (with_reducible refine Fr.trans ?_ (HCW.out _).1 (fun _ h => h.elim)) | (with_reducible refine Fr.trans ?_ H1.out.1 (fun _ h => .inl h)))))) (by (repeat (first | with_reducible exact Fr.refl _ _ | with_reducible apply Fr.drew | with_reducible apply Fr.alloc | (with_reducible refine Fr.trans ?_ (HCW.out _).1 (fun _ h => h.elim)) | (with_reducible refine Fr.trans ?_ H1.out.1 (fun _ h => .inl h))))) HMF.out).mono (G := fun k => k = _ ∨ G k) (fun _ _ h => .inl h)) ((HBX.out.keep (S := F) (by (repeat (first | with_reducible exact Fr.refl _ _ | with_reducible apply Fr.drew | with_reducible apply Fr.alloc | (with_reducible refine Fr.trans ?_ (HCW.out _).1 (fun _ h => h.elim)) | (with_reducible refine Fr.trans ?_ H1.out.1 (fun _ h => .inl h))))) HGF.out).mono (fun _ _ h => .inr h)) (fun k _ e => e.elim (fun e => by rw [e]; exact (fun hh => by have q1 := hh.2; have q2 := hh.1.elim (fun a => Or.inl (HMF.out _ a)) Or.inr; have q3 := H1.out.1.size; (try simp [hcs] at q1 q2 q3) <;> omega)) (fun e => old_not (W3 := W3) (by (repeat (first | with_reducible exact Fr.refl _ _ | with_reducible apply Fr.drew | with_reducible apply Fr.alloc | (with_reducible refine Fr.trans ?_ (HCW.out _).1 (fun _ h => h.elim)) | (with_reducible refine Fr.trans ?_ H1.out.1 (fun _ h => .inl h))))) (HGN.out k e))) HKL.out HBL.out (HLT.out _ (by have := (numBytes_len 5 0).2; omega))).mono ?_); rintro e w4 ⟨rfl, hf4, hm4⟩; (have k0 := hf4.cell (HKC.out _ (by (repeat (first | with_reducible exact Fr.refl _ _ | with_reducible apply Fr.drew | with_reducible apply Fr.alloc | (with_reducible refine Fr.trans ?_ (HCW.out _).1 (fun _ h => h.elim)) | (with_reducible refine Fr.trans ?_ H1.out.1 (fun _ h => .inl h)))))) (old_not (W3 := W3) (by (repeat (first | with_reducible exact Fr.refl _ _ | with_reducible apply Fr.drew | with_reducible apply Fr.alloc | (with_reducible refine Fr.trans ?_ (HCW.out _).1 (fun _ h => h.elim)) | (with_reducible refine Fr.trans ?_ H1.out.1 (fun _ h => .inl h))))) HKB.out)); (have k1 := hf4.cell (HKD.out _ (by (repeat (first | with_reducible exact Fr.refl _ _ | with_reducible apply Fr.drew | with_reducible apply Fr.alloc | (with_reducible refine Fr.trans ?_ (HCW.out _).1 (fun _ h => h.elim)) | (with_reducible refine Fr.trans ?_ H1.out.1 (fun _ h => .inl h)))))) (old_not (W3 := W3) (by (repeat (first | with_reducible exact Fr.refl _ _ | with_reducible apply Fr.drew | with_reducible apply Fr.alloc | (with_reducible refine Fr.trans ?_ (HCW.out _).1 (fun _ h => h.elim)) | (with_reducible refine Fr.trans ?_ H1.out.1 (fun _ h => .inl h))))) HKB.out)); (have H4 := Lib.hid (And.intro hm4 (text_out (W3 := W3) (by (repeat (first | with_reducible exact Fr.refl _ _ | with_reducible apply Fr.drew | with_reducible apply Fr.alloc | (with_reducible refine Fr.trans ?_ (HCW.out _).1 (fun _ h => h.elim)) | (with_reducible refine Fr.trans ?_ H1.out.1 (fun _ h => .inl h))))) hf4 hm4 H1.out.2.2 HZ3.out HFL.out))); clear hf4 hm4))
        all_goals (
          go_wp2_with fail
          go_roundw
          case rel =>
            have e : numBytes 5 n ++ ((L.take (i + 1)).map ChgD.chg).flatMap chgB = numBytes 5 n ++ ((L.take i).map ChgD.chg).flatMap chgB ++ numBytes 5 0 ++ recB N.data.toList ++ recB B := by
              rw [HS.out.2.2.2.1, List.flatMap_append]
              simp [chgB, ChgD.chg, List.append_assoc]
            exact ⟨i + 1, by omega, by go_num, Lib.hid ⟨_, by rw [e]; simpa only [List.append_assoc] using H4.out.1, H4.out.2.1, (HS.out.2.2.1.trans HS.out.2.2.2.2.2.2.2.2 (fun _ h => h.elim)).trans H4.out.2.2 (fun k hk => .inr hk)⟩⟩
          case measure => simp [intOf]; omega)
    · obtain rfl : i = n := by omega
      obtain ⟨F, hM, hFl, hfr⟩ := hR.out
      rw [List.take_of_length_le (by rw [← HN.out]; exact Nat.le_refl _)] at hM
      have hlen : (chgsB (L.map ChgD.chg)).length ≤ 1000000000 := by
        have h1 := chg_bytes_le (L.map ChgD.chg) (fun c hc => by obtain ⟨p, hp, rfl⟩ := List.mem_map.1 hc; exact HL.out.2.2 p hp)
        have := (numBytes_len 5 (L.map ChgD.chg).length).2
        rw [List.length_map, ← HN.out] at h1
        rw [chgsB, List.length_append]
        omega
      have hM2 : MkAt F wr w.heap.size (chgsB (L.map ChgD.chg)) := by
        rw [chgsB, List.length_map, ← HN.out]; exact hM
      have HD := Lib.hid (mkDone_any hM2 hlen)
      have HFR := Lib.hid hfr
      clear hR hM hFl hfr hM2 hlen
      go_wp2_with (go_at_call 80; refine HD.out.mono ?_; rintro e w5 ⟨ao5, c5, rfl, hf5, ho5⟩; (have H5 := Lib.hid (And.intro hf5 ho5)); clear hf5 ho5)
      go_ret
      exact ⟨_, _, rfl, H5.out.2.bytes.mono (fun k _ hk => Nat.le_trans HFR.out.size hk), HFR.out.trans H5.out.1 (fun _ h => h.elim)⟩
end Go.Proofs.YtldgcoikbjbjeaaGreat
namespace Go.Proofs.YtldgcoikbjbjeaaGreat
open Go.RowKit Go.ChangeShapes
set_option linter.unusedVariables false
theorem wrongB_ok {N : ByteArray} {a : Option Addr} {nx cx : Nat} {B : Bs} {gb : Bool} (h : chgOk (⟨N, .slice a nx cx, B, gb⟩ : ChgD).chg) (hn : nx = B.length) (hg : gb = true → B = []) : wrongB N nx gb = false := by
  obtain ⟨⟨h1, h2⟩, h3⟩ := h
  replace h1 : 1 ≤ N.size := by rw [← size_list]; exact h1
  replace h2 : N.size ≤ 64 := by rw [← size_list]; exact h2
  unfold wrongB
  have h4 : nx ≤ 2048 := by
    cases gb with
    | true => rw [hn, hg rfl]; decide
    | false => rw [hn]; exact h3 B rfl
  have h5 : (gb && decide (0 < nx)) = false := by
    cases gb with
    | true => rw [hn, hg rfl]; rfl
    | false => rfl
  rw [h5, decide_eq_true (And.intro h1 h2), decide_eq_true h4]
  rfl
set_option maxRecDepth 100000 in
set_option maxHeartbeats 4000000 in
theorem changesOf_any {G : Nat → Prop} (w : World) (v : Value) (L : List Chg) (hb : BytesIn G w v (chgsB L)) (hok : ∀ c ∈ L, chgOk c) (hn : L.length ≤ 1000) :
    Calls Tryz.prog 61 #[v] w fun e w' => ∃ x l, e = .returned (.tuple #[x, .bool true]) ∧ ChgsIn (fun k => w.heap.size ≤ k ∧ k < w'.heap.size) w' x l ∧ l.map ChgD.chg = L ∧ Fr (fun _ => False) w w' := by
  have hlen := chg_bytes_le L hok
  have hl2 : (chgsB L).length ≤ 10000000 := by have := (numBytes_len 5 L.length).2; rw [chgsB, List.length_append]; omega
  obtain ⟨ab, cb, hvb, _⟩ := id hb
  subst hvb
  have hov := over_any w hb (by omega)
  obtain ⟨lb, hlb⟩ : ∃ lb, lb = (chgsB L).length := ⟨_, rfl⟩
  rw [← hlb] at hov ⊢
  obtain ⟨n, hnn⟩ : ∃ n, n = L.length := ⟨_, rfl⟩
  rw [← hnn] at hn
  have HOV := Lib.hid hov
  have HN := Lib.hid hnn
  have HL := Lib.hid (And.intro hok (show (L.flatMap chgB).length ≤ 10000000 by rw [chgsB, List.length_append] at hl2; omega))
  clear hb hov hlb hnn hok hlen hl2
  go_enter Tryz.func61, Tryz.ntmps61
  go_wp2_with (first
    | (go_at_call 93; refine HOV.out.mono ?_; rintro e w1 ⟨b, rfl, hf1, hb1, hc1⟩; (have H1 := Lib.hid (And.intro hf1 (And.intro hb1 hc1))); clear hf1 hb1 hc1)
    | (go_at_call 94; (have hnum := curNum_any 1099511627776 w1 H1.out.2.2); rw [chgsB, curNum_num _ _ _ (by rw [← HN.out]; omega) (by rw [← HN.out]; omega), ← HN.out] at hnum; refine hnum.mono ?_; rintro e w2 ⟨rfl, hf2, hc2⟩; (have H2 := Lib.hid (And.intro hf2 hc2)); clear hf2 hc2 hnum))
  have hbz : b < w1.heap.size := by obtain ⟨_, h, _⟩ := H1.out.2.2; exact lt_of_block h
  have HZ := Lib.hid hbz
  have hz2 := H2.out.1.size
  have H0 := Lib.hid (show OwnC (fun k => w2.heap.size ≤ k) w2.heap.size w2 (.slice none 0 0) [] ∧ ([] : List ChgD).map ChgD.chg = L.take 0 ∧ CurAt (fun k => k < w2.heap.size ∧ k ≠ b) w2 b ((L.drop 0).flatMap chgB) 0 ∧ Fr (fun k => k = b) w2 w2 from ⟨OwnC.nil _ _ _, rfl, H2.out.2.mono6 (fun k hk h => ⟨hk, h.2⟩) (fun h => h.2 rfl), Fr.refl _ _⟩)
  have HB2 := Lib.hid (Nat.lt_of_lt_of_le hbz hz2)
  clear hbz hz2
  go_loopw [4, 11] (fun lv iv wr => ∃ (i : Nat), i ≤ n ∧ iv = .int .i64 i ∧ (∃ ao cap, lv = .slice ao i cap) ∧ Hid (∃ l : List ChgD, OwnC (fun k => w2.heap.size ≤ k) w2.heap.size wr lv l ∧ l.map ChgD.chg = L.take i ∧ CurAt (fun k => k < w2.heap.size ∧ k ≠ b) wr b ((L.drop i).flatMap chgB) 0 ∧ Fr (fun k => k = b) w2 wr)) (fun _ iv _ => n - (intOf iv).toNat)
  case atStart => exact ⟨0, by omega, rfl, ⟨none, 0, rfl⟩, Lib.hid ⟨[], H0.out⟩⟩
  case round =>
    clear H0
    obtain ⟨i, hi, rfl, ⟨ao, cap, rfl⟩, hR⟩ := hrel
    obtain ⟨l, hO, hm, hc, hfr⟩ := hR.out
    by_cases hlt : i < n
    · have hiL : i < L.length := by rw [← HN.out]; exact hlt
      obtain ⟨c, hcc⟩ : ∃ c, c = L[i] := ⟨_, rfl⟩
      have hdr : (L.drop i).flatMap chgB = chgB c ++ (L.drop (i + 1)).flatMap chgB := by rw [List.drop_eq_getElem_cons hiL, List.flatMap_cons, ← hcc]
      have htk : L.take (i + 1) = L.take i ++ [c] := by rw [List.take_succ_eq_append_getElem hiL, hcc]
      have hcok := HL.out.1 c (by rw [hcc]; exact List.getElem_mem _)
      have hll : (chgB c ++ (L.drop (i + 1)).flatMap chgB).length ≤ 1000000000 := by
        have h1 : L.flatMap chgB = (L.take i).flatMap chgB ++ (L.drop i).flatMap chgB := by rw [← List.flatMap_append, List.take_append_drop]
        have h2 := HL.out.2
        rw [h1, hdr, List.length_append] at h2
        omega
      have hlL : l.length = i := by have h1 := congrArg List.length hm; rw [List.length_map, List.length_take] at h1; omega
      rw [hdr] at hc
      have HCA := Lib.hid (changeAt_any wr c hcok _ hc hll)
      have HS := Lib.hid (And.intro hO (And.intro hm (And.intro hfr (And.intro htk (And.intro hcok hlL)))))
      clear hR hO hm hc hfr hcc hdr htk hcok hll hlL
      go_wp2_with (first
        | (go_at_call 102; refine HCA.out.mono ?_; rintro e w3 ⟨N, ax, nx, cx, B, gb, rfl, hchg, hgb, hbx, hf3, hc3⟩; (obtain ⟨k0, k1, k2, _⟩ := row3_open (heap_alloc_new w3 (.cells #[.string N, .slice ax nx cx, .bool gb] 53))); (have H3 := Lib.hid (And.intro hchg (And.intro hgb (And.intro hbx (And.intro hf3 (And.intro hc3 (And.intro (heap_alloc_new w3 (.cells #[.string N, .slice ax nx cx, .bool gb] 53)) ((Fr.refl (fun _ => False) w3).alloc (.cells #[.string N, .slice ax nx cx, .bool gb] 53))))))))); clear hchg hgb hbx hf3 hc3)
        | (go_at_call 35; refine (isWrong_any _ N ax nx cx gb).mono ?_; rw [wrongB_ok (a := ax) (cx := cx) (by rw [H3.out.1]; exact HS.out.2.2.2.2.1) (by obtain ⟨_, _, e, _⟩ := H3.out.2.2.1; simp only [Value.slice.injEq] at e; exact e.2.1) H3.out.2.1]; rintro e w4 ⟨rfl, hf4⟩; (have H4 := Lib.hid (H3.out.2.2.2.2.2.2.trans hf4 (fun _ h => h.elim))); (obtain ⟨k0, k1, k2, _⟩ := row3_open (hf4.heap H3.out.2.2.2.2.2.1 id)); clear hf4)
        | (at_builtin; refine wpList_append_chg (z := w2.heap.size) (F := fun k => w2.heap.size ≤ k) (G := fun k => wr.heap.size ≤ k) (w4.alloc (.cells #[.string N, .slice ax nx cx, .bool gb] 53)) rfl (.tmp 17) (.tmp 19) rfl (.slice ao i cap) l ⟨N, .slice ax nx cx, B, gb⟩ w4.heap.size rfl rfl (heap_alloc_new w4 _) (((HS.out.1.keep (S := fun k => k = b) H3.out.2.2.2.1 (fun g hg e => by have := HS.out.1.own.own g hg; have := HB2.out; have e' : g = b := e; omega) (fun k _ hk e => by have := HB2.out; have e' : k = b := e; have hk' : w2.heap.size ≤ k := hk; omega)).keep H4.out (fun _ _ h => h) (fun _ _ _ h => h)).keep ((Fr.refl (fun _ => False) w4).alloc _) (fun _ _ h => h) (fun _ _ _ h => h)) ((H3.out.2.2.1.keep H4.out (fun _ _ _ h => h)).keep ((Fr.refl (fun _ => False) w4).alloc _) (fun _ _ _ h => h)) (fun k _ (hk : wr.heap.size ≤ k) => ⟨Nat.le_trans HS.out.2.2.1.size hk, fun e => by have := HS.out.1.own.own k e; omega⟩) rfl (Nat.le_trans (Nat.le_trans HS.out.2.2.1.size (Nat.le_trans H3.out.2.2.2.1.size H4.out.size)) (by simp)) (by rw [HS.out.2.2.2.2.2]; omega) ?_; intro v5 w5 ho5 hf5 hv5; (obtain ⟨a5, c5, rfl⟩ := ho5.form); (rw [show (l ++ [(⟨N, .slice ax nx cx, B, gb⟩ : ChgD)]).length = i + 1 by rw [List.length_append, HS.out.2.2.2.2.2]; rfl] at ho5 ⊢); (have H5 := Lib.hid (And.intro ho5 (((H4.out.alloc (.cells #[.string N, .slice ax nx cx, .bool gb] 53)).mono (T := fun k => (Value.slice ao i cap).ownBlock = some k) (fun _ _ h => h.elim)).trans hf5 (fun _ h => .inl h)))); clear ho5 hf5 hv5))
      go_roundw
      case rel =>
        have hog := HS.out.1.own.own
        refine ⟨i + 1, by omega, by go_num, ⟨a5, c5, rfl⟩, Lib.hid ⟨_, H5.out.1, ?_, H3.out.2.2.2.2.1.keep H5.out.2 (fun e => ?_) (fun k _ hk e => ?_), (HS.out.2.2.1.trans H3.out.2.2.2.1 (fun _ h => .inl h)).trans H5.out.2 (fun k e => .inr (hog k e).1)⟩⟩
        · rw [List.map_append, HS.out.2.1, HS.out.2.2.2.1, ← H3.out.1]; rfl
        · have := hog b e; have := HB2.out; omega
        · have := hog k e; have := hk.1; omega
      case measure => simp [intOf]; omega
    · obtain rfl : i = n := by omega
      have h0 : L.drop i = [] := List.drop_of_length_le (by rw [← HN.out]; exact Nat.le_refl _)
      have h1 : L.take i = L := List.take_of_length_le (by rw [← HN.out]; exact Nat.le_refl _)
      rw [h0] at hc
      rw [h1] at hm
      have hen := curEnd_any wr hc
      have hen2 : curEnd (([] : List Chg).flatMap chgB) 0 = 0 := rfl
      rw [hen2] at hen
      have HEN := Lib.hid hen
      have HF := Lib.hid (And.intro hO (And.intro hm hfr))
      clear hR hO hm hc hfr h0 h1 hen hen2
      go_wp2_with (go_at_call 99; refine HEN.out.mono ?_; rintro e w3 ⟨rfl, rfl⟩)
      go_ret2
      have hz := H1.out.1.size
      have hz2 := H2.out.1.size
      refine ⟨_, _, rfl, HF.out.1.chgs.mono (fun k hk hh => ⟨?_, hk⟩), HF.out.2.1, (H1.out.1.trans H2.out.1 (fun k e => .inr ?_)).trans HF.out.2.2 (fun k e => .inr ?_)⟩
      · rcases hh with hh | hh
        · have hh' : w2.heap.size ≤ k := hh; omega
        · have := HF.out.1.own.own k hh; omega
      · have e' : k = b := e; have := H1.out.2.1; omega
      · have e' : k = b := e; have := H1.out.2.1; omega
end Go.Proofs.YtldgcoikbjbjeaaGreat
