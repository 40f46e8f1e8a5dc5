/- Laid together: TOpd TBegin -/
import Derived.Test.YtldgcoikbjbjeaaGreatTk33
import Derived.Test.YtldgcoikbjbjeaaGreatTk29
import Derived.Test.YtldgcoikbjbjeaaGreatTk31

namespace Go.Proofs.YtldgcoikbjbjeaaGreat
open Go.RowKit Go.ChangeShapes
set_option linter.unusedVariables false
def BoAt (w : World) (p l la d g : Nat) (tv : Value) (gr : Nat) (rv : Value) : Prop :=
  w.heap[p]? = some (.cells #[.int .i64 l, .int .i64 la, .int .i64 d, .pointer (some ⟨g, 0, none⟩), tv, .pointer (some ⟨gr, 0, none⟩), rv] 66 (0, 0))
section
variable {w w' : World} {p l la d g gr : Nat} {tv rv : Value}
theorem BoAt.keep {S : Nat → Prop} (h : BoAt w p l la d g tv gr rv) (hf : Fr S w w') (hS : ¬ S p) : BoAt w' p l la d g tv gr rv := hf.heap h hS
theorem BoAt.lt (h : BoAt w p l la d g tv gr rv) : p < w.heap.size := lt_of_block h
theorem BoAt.cells (h : BoAt w p l la d g tv gr rv) :
    w.cell? ⟨p, 0, none⟩ = some (.int .i64 l) ∧ w.cell? ⟨p, 1, none⟩ = some (.int .i64 la) ∧ w.cell? ⟨p, 2, none⟩ = some (.int .i64 d) ∧ w.cell? ⟨p, 3, none⟩ = some (.pointer (some ⟨g, 0, none⟩)) ∧ w.cell? ⟨p, 4, none⟩ = some tv ∧ w.cell? ⟨p, 5, none⟩ = some (.pointer (some ⟨gr, 0, none⟩)) ∧ w.cell? ⟨p, 6, none⟩ = some rv := by
  refine ⟨?_, ?_, ?_, ?_, ?_, ?_, ?_⟩ <;> exact cell_of_row _ _ _ _ _ _ h
theorem BoAt.free (h : BoAt w p l la d g tv gr rv) (i : Nat) : w.frozen? ⟨p, i, none⟩ = false := frozen_of_row _ _ _ _ _ h
theorem BoAt.tset (h : BoAt w p l la d g tv gr rv) (x : Value) : BoAt (w.setCell ⟨p, 4, none⟩ x) p l la d g x gr rv := cell_put _ h
theorem BoAt.rset (h : BoAt w p l la d g tv gr rv) (x : Value) : BoAt (w.setCell ⟨p, 6, none⟩ x) p l la d g tv gr x := cell_put _ h
set_option maxRecDepth 100000 in
set_option maxHeartbeats 4000000 in
theorem opened_any (h : BoAt w p l la d g tv gr rv) {hd : Hd} {M : Tab} (hT : ∀ W, Fr (fun _ => False) w W → Calls Tryz.prog 11 #[.pointer (some ⟨g, 0, none⟩), .agg #[.int .i64 l, .int .i64 la, .int .i64 d]] W (OpPost l la d g hd M W))
    (hR : ∀ W, Fr (fun _ => False) w W → Calls Tryz.prog 85 #[.pointer (some ⟨gr, 0, none⟩), .agg #[.int .i64 l, .int .i64 la, .int .i64 d]] W (R6Post W)) :
    Calls Tryz.prog 48 #[.pointer (some ⟨p, 0, none⟩)] w fun e w' => ∃ (tb mb jn rn : Nat) (F : Nat → Prop), e = .returned (.bool true) ∧ BoAt w' p l la d g (.pointer (some ⟨tb, 0, none⟩)) gr (.pointer (some ⟨rn, 0, none⟩)) ∧ JnAt w' jn g hd l la d false ∧ TbRow F w' tb mb jn la M ∧ (w.heap.size ≤ tb ∧ w.heap.size ≤ mb ∧ w.heap.size ≤ jn ∧ jn ≠ tb ∧ jn ≠ mb ∧ ¬ F jn) ∧ (∀ k, F k → w.heap.size ≤ k ∧ k < w'.heap.size) ∧ Fr (fun k => k = p) w w' := by
  have HT := Lib.hid hT
  have HR := Lib.hid hR
  have HB := Lib.hid h
  have hlt := h.lt
  obtain ⟨c0, c1, c2, c3, c4, c5, c6⟩ := h.cells
  clear h hT hR
  go_enter Tryz.func48, Tryz.ntmps48
  go_wp2_with fail
  go_region_held_law (fun w' => w'.cell? ⟨p, 0, none⟩ = some (.int .i64 l) ∧ w'.cell? ⟨p, 1, none⟩ = some (.int .i64 la) ∧ w'.cell? ⟨p, 2, none⟩ = some (.int .i64 d) ∧ w'.cell? ⟨p, 3, none⟩ = some (.pointer (some ⟨g, 0, none⟩))) (first | exact ⟨by assumption, by assumption, by assumption, by assumption⟩ | go_keep) (first
    | (go_at_call 11; refine (HT.out _ (Fr.refl _ w).drew).mono ?_; rintro e w2 ⟨tb, mb, jn, F, rfl, hj2, ht2, ho2, hF2, hf2⟩; (have H2 := Lib.hid (And.intro hj2 (And.intro ht2 (And.intro ho2 (And.intro hF2 ((Fr.refl (fun _ => False) w).drew.trans hf2 (fun _ h => h.elim))))))); (obtain ⟨c0, c1, c2, c3, c4, c5, c6⟩ := (HB.out.keep H2.out.2.2.2.2 id).cells); clear hj2 ht2 ho2 hF2 hf2))
  all_goals (
    go_wp2_with fail
    go_region_held_law (fun w' => w'.cell? ⟨p, 0, none⟩ = some (.int .i64 l) ∧ w'.cell? ⟨p, 1, none⟩ = some (.int .i64 la) ∧ w'.cell? ⟨p, 2, none⟩ = some (.int .i64 d) ∧ w'.cell? ⟨p, 5, none⟩ = some (.pointer (some ⟨gr, 0, none⟩))) (first | exact ⟨by assumption, by assumption, by assumption, by assumption⟩ | go_keep) (first
      | (go_at_call 85; refine (HR.out _ (H2.out.2.2.2.2.trans (Fr.refl (fun _ => False) w2).drew (fun _ h => h.elim))).mono ?_; rintro e w3 ⟨rn, rfl, hf3⟩; (have H3 := Lib.hid ((Fr.refl (fun _ => False) w2).drew.trans hf3 (fun _ h => h.elim))); (obtain ⟨c0, c1, c2, c3, c4, c5, c6⟩ := ((HB.out.keep H2.out.2.2.2.2 id).keep H3.out id).cells); clear hf3)))
  all_goals (
    have HB3 := Lib.hid ((HB.out.keep H2.out.2.2.2.2 id).keep H3.out id)
    have f4 := HB3.out.free 4
    have f6 := HB3.out.free 6
    go_wp2_with fail
    have hb5 := (HB3.out.tset (.pointer (some ⟨tb, 0, none⟩))).rset (.pointer (some ⟨rn, 0, none⟩))
    have hf5 : Fr (fun k => k = p) w3 ((w3.setCell ⟨p, 4, none⟩ (.pointer (some ⟨tb, 0, none⟩))).setCell ⟨p, 6, none⟩ (.pointer (some ⟨rn, 0, none⟩))) := (Fr.cell1 w3 p 4 _).trans (Fr.cell1 _ p 6 _) (fun k h => .inl h)
    obtain ⟨hj2, ht2, ho2, hF2, hf2⟩ := H2.out
    replace ho2 : w.heap.size ≤ tb ∧ w.heap.size ≤ mb ∧ w.heap.size ≤ jn ∧ jn ≠ tb ∧ jn ≠ mb ∧ ¬ F jn := ho2
    replace hF2 : ∀ k, F k → w.heap.size ≤ k ∧ k < w2.heap.size := hF2
    have hz3 := H3.out.size
    have hz5 := hf5.size
    go_ret
    exact ⟨tb, mb, jn, rn, F, rfl, hb5, (hj2.keep H3.out id).keep hf5 (fun e => by have e' : jn = p := e; omega), RwAt.keep (RwAt.quiet ht2 H3.out) hf5 (fun e => by have e' : tb = p := e; omega) (fun e => by have e' : mb = p := e; omega) (fun k _ hk e => by have := hF2 k hk; have e' : k = p := e; omega), ho2, fun k hk => ⟨(hF2 k hk).1, by have := (hF2 k hk).2; omega⟩, ((hf2.trans H3.out (fun _ h => h.elim)).mono (fun _ _ h => h.elim)).trans hf5 (fun k h => .inl h)⟩)
end
end Go.Proofs.YtldgcoikbjbjeaaGreat
namespace Go.Proofs.YtldgcoikbjbjeaaGreat
open Go.RowKit Go.ChangeShapes
set_option linter.unusedVariables false
set_option maxRecDepth 100000 in
theorem tFormat_any {D : Nat → Prop} (w : World) (g l la d s : Nat) (dv : Dv) (hok : ShOk l la d s) (hd : DevAt w D g s dv) (hk6 : dv.deeds ≤ 900000000) (hw6 : dv.waits.length ≤ 900000) :
    Calls Tryz.prog 10 #[.pointer (some ⟨g, 0, none⟩), .agg #[.int .i64 l, .int .i64 la, .int .i64 d]] w (WritePost D w g s (dv.tell s (Hd.sec ⟨0, 0, 0, 1⟩))) := by
  obtain ⟨W1, hW⟩ : ∃ W, W = w.alloc (.cells #[.int .i64 l, .int .i64 la, .int .i64 d] 23) := ⟨_, rfl⟩
  have hf : Fr (fun _ => False) w W1 := by rw [hW]; exact (Fr.refl _ _).alloc _
  have HF := Lib.hid (lFormat_any W1 g l la d s dv hok (hd.keep hf (fun _ _ _ h => h)) hk6 hw6)
  have HW := Lib.hid (And.intro hW hf)
  clear hok hd hk6 hw6 hW hf
  go_enter Tryz.func10, Tryz.ntmps10
  go_wp2_with (go_at_call 26; rw [← HW.out.1]; refine HF.out.mono ?_; rintro e w2 ⟨rfl, hd2, hf2⟩; (have H2 := Lib.hid (And.intro hd2 hf2)); clear hd2 hf2)
  go_ret
  exact ⟨rfl, H2.out.1.mono (fun k _ hk => hk.elim .inl (fun h => .inr (by have := HW.out.2.size; omega))), (HW.out.2.mono (fun _ _ h => h.elim)).trans H2.out.2 (fun _ h => .inl h)⟩
theorem TgK.new (l la d s : Nat) (hok : ShOk l la d s) : ∃ dv1, (Dv.new s).tell s (Hd.sec ⟨0, 0, 0, 1⟩) = (0, dv1) ∧ TgK dv1 l la s ⟨0, 0, 0, 1⟩ [] 0 ∧ Kp dv1.all l la s ⟨0, 0, 0, 1⟩ [] [] ∧ dv1.left = 0 := by
  obtain ⟨dv1, h1, h2⟩ := LgOk.new l la d s hok
  refine ⟨dv1, h1, ⟨h2.up, h2.waits, ⟨_, _, _, _, h2.kp, KpT.none⟩, ?_, by have := h2.deeds; omega, by have := h2.round; omega⟩, h2.kp, h2.left⟩
  have : tLen [] = 1 := by decide +kernel
  rw [this]
  have := hok.a1
  omega
def BegPost (w : World) (l la d s : Nat) (dv : Dv) (e : Ending) (w' : World) : Prop :=
  ∃ (p g tb mb jn gr rn : Nat) (D F : Nat → Prop), e = .returned (.pointer (some ⟨p, 0, none⟩)) ∧ BoAt w' p l la d g (.pointer (some ⟨tb, 0, none⟩)) gr (.pointer (some ⟨rn, 0, none⟩)) ∧ JnAt w' jn g ⟨0, 0, 0, 1⟩ l la d false ∧ TbRow F w' tb mb jn la [] ∧ DevAt w' D g s dv ∧
    (∀ k, D k → w.heap.size ≤ k ∧ k < w'.heap.size ∧ k ≠ p ∧ k ≠ jn ∧ k ≠ tb ∧ k ≠ mb ∧ ¬ F k) ∧ (w.heap.size ≤ p ∧ p < tb ∧ p < mb ∧ p < jn ∧ jn ≠ tb ∧ jn ≠ mb ∧ ¬ F jn) ∧ (∀ k, F k → p < k ∧ k < w'.heap.size) ∧ Fr (fun _ => False) w w'
set_option maxRecDepth 100000 in
set_option maxHeartbeats 4000000 in
theorem begin_any (w : World) (l la d s : Nat) (hok : ShOk l la d s) (dv1 : Dv) (ht : (Dv.new s).tell s (Hd.sec ⟨0, 0, 0, 1⟩) = (0, dv1)) (K : TgK dv1 l la s ⟨0, 0, 0, 1⟩ [] 0) (k0 : Kp dv1.all l la s ⟨0, 0, 0, 1⟩ [] []) :
    Calls Tryz.prog 22 #[.agg #[.int .i64 l, .int .i64 la, .int .i64 d]] w (BegPost w l la d s dv1) := by
  have hs1 : 1 ≤ s := by have := hok.sum; omega
  have hs2 := hok.most
  obtain ⟨W1, hW⟩ : ∃ W, W = w.alloc (.cells #[.int .i64 l, .int .i64 la, .int .i64 d] 23) := ⟨_, rfl⟩
  have hf : Fr (fun _ => False) w W1 := by rw [hW]; exact (Fr.refl _ _).alloc _
  have hrow : W1.heap[w.heap.size]? = some (.cells #[.int .i64 l, .int .i64 la, .int .i64 d] 23 (0, 0)) := by rw [hW]; exact heap_alloc_new w _
  have HW := Lib.hid hW
  have H1 := Lib.hid (And.intro hf hrow)
  have HSE := Lib.hid (fun W => hok.rSecs W)
  have HNW := Lib.hid (fun W => aNew W s hs1 hs2)
  have HNR := Lib.hid (fun W => bNew W s hs1 hs2)
  have HFA := Lib.hid (fun (W : World) (g : Nat) (D : Nat → Prop) (hd : DevAt W D g s (Dv.new s)) => tFormat_any W g l la d s (Dv.new s) hok hd (by simp [Dv.new]) (by simp [Dv.new]))
  have HFR := Lib.hid (fun (W : World) (g : Nat) (D : Nat → Prop) (hd : RefAt W D g s (Dv.new s)) => rFormat_any W g l la d s (Dv.new s) hok hd rfl rfl (by simp [Dv.new]) (by simp [Dv.new]))
  rw [ht] at HFA HFR
  have HOK := Lib.hid (And.intro hok (And.intro ht (And.intro K k0)))
  obtain ⟨s0, s1, s2⟩ := row3_cells hrow
  clear hok ht K k0 hW hf hrow hs1
  go_enter Tryz.func22, Tryz.ntmps22
  go_wp2_with fail
  rw [← HW.out]
  go_wp2_with (first
    | (go_at_call 23; (with_reducible refine (HSE.out W1).mono ?_); rintro e w2 ⟨rfl, hf2⟩; (have H2 := Lib.hid (And.intro (H1.out.1.trans hf2 (fun _ h => h.elim)) (hf2.heap H1.out.2 id))); clear hf2)
    | (go_at_call 8; (with_reducible refine (HNW.out w2).mono ?_); rintro e w3 ⟨g, rfl, hd3, hf3⟩; (have H3 := Lib.hid (And.intro (H2.out.1.trans hf3 (fun _ h => h.elim)) (And.intro (hf3.heap H2.out.2 id) (And.intro (hd3.mono (E := fun k => w2.heap.size ≤ k ∧ k < w3.heap.size) (fun k hk h => ⟨h, hk⟩)) hf3.size)))); (obtain ⟨s0, s1, s2⟩ := row3_cells H3.out.2.1); clear hf3 hd3)
    | (go_at_call 23; (with_reducible refine (HSE.out w3).mono ?_); rintro e w4 ⟨rfl, hf4⟩; (have H4 := Lib.hid (And.intro (H3.out.1.trans hf4 (fun _ h => h.elim)) (And.intro (hf4.heap H3.out.2.1 id) (And.intro (H3.out.2.2.1.keep hf4 (fun _ _ _ h => h)) hf4.size)))); clear hf4)
    | (go_at_call 46; (with_reducible refine (HNR.out w4).mono ?_); rintro e w5 ⟨gr, rfl, hd5, hf5⟩; (have H5 := Lib.hid (And.intro (H4.out.1.trans hf5 (fun _ h => h.elim)) (And.intro (hf5.heap H4.out.2.1 id) (And.intro (H4.out.2.2.1.keep hf5 (fun _ _ _ h => h)) (And.intro (hd5.mono (E := fun k => w4.heap.size ≤ k ∧ k < w5.heap.size) (fun k hk h => ⟨h, hk⟩)) hf5.size))))); (obtain ⟨s0, s1, s2⟩ := row3_cells H5.out.2.1); clear hf5 hd5))
  obtain ⟨h5a, h5b, h5c, h5d, h5e⟩ := H5.out
  have z1 := H1.out.1.size
  have z2 := H2.out.1.size
  have z3 := H3.out.2.2.2
  have z4 := H4.out.2.2.2
  have hg2 := lt_of_block H2.out.2
  refine (HFA.out w5 g _ h5c).mono ?_
  rintro e w6 ⟨rfl, hd6, hf6⟩
  have hr6 := h5d.keep hf6 (fun k _ hk hk2 => by omega)
  have hs6 := hf6.heap h5b (fun hh => by omega)
  have hd6' := hd6.mono (E := fun k => ((w2.heap.size ≤ k ∧ k < w3.heap.size) ∨ w5.heap.size ≤ k) ∧ k < w6.heap.size) (fun k hk h => ⟨h, hk⟩)
  have z6 := hf6.size
  have H6 := Lib.hid (And.intro (h5a.trans hf6 (fun k hk => .inr (by omega))) (And.intro hs6 (And.intro hd6' (And.intro hr6 z6))))
  obtain ⟨s0, s1, s2⟩ := row3_cells hs6
  have HZ := Lib.hid (And.intro hg2 (And.intro z1 (And.intro z2 (And.intro z3 (And.intro z4 h5e)))))
  clear h5a h5b h5c h5d h5e hd6 hf6 hr6 hs6 hd6' z6 z1 z2 z3 z4 hg2
  go_wp2_with fail
  obtain ⟨h6a, h6b, h6c, h6d, h6e⟩ := H6.out
  have hz := HZ.out
  refine (HFR.out w6 gr _ h6d).mono ?_
  rintro e w7 ⟨rfl, hd7, hf7⟩
  have hs7 := hf7.heap h6b (fun hh => by omega)
  have hv7 := h6c.keep hf7 (fun k _ hk hk2 => by omega)
  have hd7' := hd7.mono (E := fun k => ((w4.heap.size ≤ k ∧ k < w5.heap.size) ∨ w6.heap.size ≤ k) ∧ k < w7.heap.size) (fun k hk h => ⟨h, hk⟩)
  have H7 := Lib.hid (And.intro (h6a.trans hf7 (fun k hk => .inr (by omega))) (And.intro hs7 (And.intro hv7 (And.intro hd7' hf7.size))))
  obtain ⟨s0, s1, s2⟩ := row3_cells hs7
  clear h6a h6b h6c h6d h6e hd7 hf7 hs7 hv7 hd7' hz
  go_wp2_with fail
  obtain ⟨h7a, h7b, h7c, h7d, h7e⟩ := H7.out
  have hz := HZ.out
  have h6e := H6.out.2.2.2.2
  obtain ⟨hok, ht, K, k0⟩ := HOK.out
  obtain ⟨W8, hW8⟩ : ∃ W, W = w7.alloc (.cells #[.int .i64 l, .int .i64 la, .int .i64 d, .pointer (some ⟨g, 0, none⟩), .pointer none, .pointer (some ⟨gr, 0, none⟩), .pointer none] 66) := ⟨_, rfl⟩
  have hf8 : Fr (fun _ => False) w7 W8 := by rw [hW8]; exact (Fr.refl _ _).alloc _
  have hz8 : W8.heap.size = w7.heap.size + 1 := by rw [hW8]; simp
  have hb8 : BoAt W8 w7.heap.size l la d g (.pointer none) gr (.pointer none) := by rw [hW8]; exact heap_alloc_new w7 _
  have hd8 := h7c.keep hf8 (fun _ _ _ h => h)
  have hr8 := h7d.keep hf8 (fun _ _ _ h => h)
  have HOD := Lib.hid (opened_any hb8 (fun W hW => tOpen_any W g l la d s dv1 ⟨0, 0, 0, 1⟩ hok (hd8.keep hW (fun _ _ _ h => h)) K.up K.waits k0 KpT.none K.fit) (fun W hW => r6Open_any W gr l la d s dv1 ⟨0, 0, 0, 1⟩ hok (hr8.keep hW (fun _ _ _ h => h)) K.up K.waits k0.head k0.right rfl rfl rfl))
  rw [← hW8]
  have HX := Lib.hid (And.intro (h7a.trans hf8 (fun _ h => h.elim)) (And.intro hd8 (And.intro hz8 (And.intro h7e h6e))))
  clear h7a h7b h7c h7d h7e hz h6e hok ht K k0 hW8 hf8 hz8 hb8 hd8 hr8
  go_wp2_with (go_at_call 48; refine HOD.out.mono ?_; rintro e w9 ⟨tb, mb, jn, rn, F, rfl, a1, a2, a3, a4, a5, a6⟩; (have H9 := Lib.hid (And.intro a1 (And.intro a2 (And.intro a3 (And.intro a4 (And.intro a5 a6)))))); clear a1 a2 a3 a4 a5 a6)
  go_ret
  obtain ⟨a1, a2, a3, a4, a5, a6⟩ := H9.out
  obtain ⟨b1, b2, b3, b4, b5⟩ := HX.out
  have hz := HZ.out
  have hz9 := a6.size
  have hjl := a2.lt
  have htl := RwAt.lt a3
  exact ⟨w7.heap.size, g, tb, mb, jn, gr, rn, _, F, rfl, a1, a2, a3, b2.keep a6 (fun k _ hk e => by have e' : k = w7.heap.size := e; omega), fun k hk => ⟨by omega, by omega, by omega, by omega, by omega, by omega, fun hF => by have := a5 k hF; omega⟩, ⟨by omega, by omega, by omega, by omega, a4.2.2.2.1, a4.2.2.2.2.1, a4.2.2.2.2.2⟩, fun k hk => ⟨by have := a5 k hk; omega, (a5 k hk).2⟩, b1.trans a6 (fun k e => .inr (by have e' : k = w7.heap.size := e; omega))⟩
end Go.Proofs.YtldgcoikbjbjeaaGreat
