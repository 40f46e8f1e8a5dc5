/- Laid together by merge.py: JRHead -/
import Derived.Test.YtiinmilfgclddaaGreatTr34
import Derived.Test.YtiinmilfgclddaaGreatTr25

/- Contract of the document's own: headOf, of a sector that has a head. -/
namespace Go.Proofs.YtiinmilfgclddaaGreat
open Go.RowKit Go.ChangeShapes
set_option linter.unusedVariables false

/-- Amid it: the shape (at gs), the head that is told (at gr), the one that is got (at gh), the cursor. -/
structure RhAt (w0 w : World) (l la d gs gr gh b : Nat) (x1 x2 x3 x4 : Int) (G : Nat → Prop) (X : List UInt8) : Prop where
  shp : w.heap[gs]? = some (.cells #[.int .i64 l, .int .i64 la, .int .i64 d] 23 (0, 0))
  res : w.heap[gr]? = some (.cells #[.int .i64 0, .int .i64 0, .int .i64 0, .int .i64 0] 155 (0, 0))
  got : w.heap[gh]? = some (.cells #[.int .i64 x1, .int .i64 x2, .int .i64 x3, .int .i64 x4] 155 (0, 0))
  cur : RCur G w b X 0
  sep : (gs ≠ gr ∧ gs ≠ gh ∧ gs ≠ b ∧ gr ≠ gh ∧ gr ≠ b ∧ gh ≠ b) ∧ (w0.heap.size ≤ gs ∧ w0.heap.size ≤ gr ∧ w0.heap.size ≤ gh ∧ w0.heap.size ≤ b) ∧ ∀ k, G k → k < w0.heap.size
  fr : Fr (fun _ => False) w0 w
theorem RhAt.go {w0 w w' : World} {l la d gs gr gh b : Nat} {x1 x2 x3 x4 : Int} {G : Nat → Prop} {X Y : List UInt8} (h : RhAt w0 w l la d gs gr gh b x1 x2 x3 x4 G X) (hf : Fr (· = b) w w') (hc : RCur G w' b Y 0) : RhAt w0 w' l la d gs gr gh b x1 x2 x3 x4 G Y :=
  ⟨hf.heap h.shp h.sep.1.2.2.1, hf.heap h.res h.sep.1.2.2.2.2.1, hf.heap h.got h.sep.1.2.2.2.2.2, hc, h.sep, h.fr.trans hf fun k e => .inr (by rw [show k = b from e]; exact h.sep.2.1.2.2.2)⟩
theorem RhAt.frs {w0 w w' : World} {l la d gs gr gh b : Nat} {x1 x2 x3 x4 y1 y2 y3 y4 : Int} {G : Nat → Prop} {X : List UInt8} (h : RhAt w0 w l la d gs gr gh b x1 x2 x3 x4 G X) (hf : Fr (· = gh) w w') (hg : w'.heap[gh]? = some (.cells #[.int .i64 y1, .int .i64 y2, .int .i64 y3, .int .i64 y4] 155 (0, 0))) : RhAt w0 w' l la d gs gr gh b y1 y2 y3 y4 G X :=
  ⟨hf.heap h.shp h.sep.1.2.1, hf.heap h.res h.sep.1.2.2.2.1, hg, h.cur.keep hf (fun e => h.sep.1.2.2.2.2.2 e.symm) (fun k _ h1 e => by have := h.sep.2.2 k h1; have e' : k = gh := e; have := h.sep.2.1.2.2.1; omega), h.sep, h.fr.trans hf fun k e => .inr (by rw [show k = gh from e]; exact h.sep.2.1.2.2.1)⟩
theorem RhAt.set1 {w0 w : World} {l la d gs gr gh b : Nat} {x1 x2 x3 x4 : Int} {G : Nat → Prop} {X : List UInt8} (h : RhAt w0 w l la d gs gr gh b x1 x2 x3 x4 G X) (y : Int) : RhAt w0 (w.setCell ⟨gh, 1, none⟩ (.int .i64 y)) l la d gs gr gh b x1 y x3 x4 G X := h.frs (Fr.cell1 _ _ _ _) (cell_put _ h.got)
theorem RhAt.set2 {w0 w : World} {l la d gs gr gh b : Nat} {x1 x2 x3 x4 : Int} {G : Nat → Prop} {X : List UInt8} (h : RhAt w0 w l la d gs gr gh b x1 x2 x3 x4 G X) (y : Int) : RhAt w0 (w.setCell ⟨gh, 2, none⟩ (.int .i64 y)) l la d gs gr gh b x1 x2 y x4 G X := h.frs (Fr.cell1 _ _ _ _) (cell_put _ h.got)
theorem RhAt.set3 {w0 w : World} {l la d gs gr gh b : Nat} {x1 x2 x3 x4 : Int} {G : Nat → Prop} {X : List UInt8} (h : RhAt w0 w l la d gs gr gh b x1 x2 x3 x4 G X) (y : Int) : RhAt w0 (w.setCell ⟨gh, 3, none⟩ (.int .i64 y)) l la d gs gr gh b x1 x2 x3 y G X := h.frs (Fr.cell1 _ _ _ _) (cell_put _ h.got)
set_option maxRecDepth 100000 in
set_option maxHeartbeats 4000000 in
theorem rHeadOf_any {G : Nat → Prop} (w : World) (vb : Value) (l la d : Nat) (h : Hd) (hn : h.Num) (hl : l ≤ 8192) (hla : la ≤ 8192) (hri : h.Right l la) (hb : BytesIn G w vb h.sec) :
    Calls Tryz.prog 148 #[vb, .agg #[.int .i64 l, .int .i64 la, .int .i64 d]] w (HeadPost w h) := by
  have hsl := h.sec_length
  obtain ⟨ab, cb, hvb, _⟩ := id hb
  subst hvb
  obtain ⟨W1, hW1⟩ : ∃ W, W = w.alloc (.cells #[.int .i64 l, .int .i64 la, .int .i64 d] 23) := ⟨_, rfl⟩
  obtain ⟨W2, hW2⟩ : ∃ W, W = W1.alloc (.cells #[.int .i64 0, .int .i64 0, .int .i64 0, .int .i64 0] 155) := ⟨_, rfl⟩
  obtain ⟨W3, hW3⟩ : ∃ W, W = W2.alloc (.cells #[.slice ab h.sec.length cb, .int .i64 0] 220) := ⟨_, rfl⟩
  have hf1 : Fr (fun _ => False) w W1 := by rw [hW1]; exact (Fr.refl _ _).alloc _
  have hf2 : Fr (fun _ => False) w W2 := by rw [hW2]; exact hf1.alloc _
  have hf3 : Fr (fun _ => False) w W3 := by rw [hW3]; exact hf2.alloc _
  have hz1 : W1.heap.size = w.heap.size + 1 := by rw [hW1]; simp
  have hz2 : W2.heap.size = w.heap.size + 2 := by rw [hW2]; simp [hz1]
  have hz3 : W3.heap.size = w.heap.size + 3 := by rw [hW3]; simp [hz2]
  have hf13 : Fr (fun _ => False) W1 W3 := by rw [hW3, hW2]; exact ((Fr.refl _ W1).alloc _).alloc _
  have hf23 : Fr (fun _ => False) W2 W3 := by rw [hW3]; exact (Fr.refl _ W2).alloc _
  have hs1 : W3.heap[w.heap.size]? = some (.cells #[.int .i64 l, .int .i64 la, .int .i64 d] 23 (0, 0)) := hf13.heap (by rw [hW1]; exact heap_alloc_new w _) id
  have hs2 : W3.heap[w.heap.size + 1]? = some (.cells #[.int .i64 0, .int .i64 0, .int .i64 0, .int .i64 0] 155 (0, 0)) := hf23.heap (by rw [hW2, ← hz1]; exact heap_alloc_new W1 _) id
  have hcur : RCur (fun k => G k ∧ k < w.heap.size) W3 (w.heap.size + 2) h.sec 0 := ⟨_, 220, by rw [hW3, ← hz2]; exact heap_alloc_new W2 _, (hb.mono (fun k hk h => ⟨h, hk⟩)).keep hf3 (fun _ _ _ h => h), fun hh => by have := hh.2; omega⟩
  obtain ⟨Z, hZ⟩ : ∃ Z : List UInt8, Z = List.replicate (64 - h.bytes.length) 0 := ⟨_, rfl⟩
  have hsec : h.sec = numBytes 5 h.area ++ (numBytes 5 h.size ++ (numBytes 5 h.used ++ (numBytes 5 h.round ++ Z))) := by
    rw [Hd.sec, full64, Hd.bytes, hZ, Hd.bytes]
    simp only [List.append_assoc]
  have HW := Lib.hid (And.intro hW1 (And.intro hW2 (And.intro hW3 (And.intro hf3 (And.intro hz3 (And.intro hs1 hs2))))))
  have e1 := fun X => curNum_bytes 1 h.area X (by have := hri.area; omega) hn.area
  have e2 := fun X => curNum_bytes 1099511627776 h.size X (by have := hn.size; omega) hn.size
  have e3 := fun X => curNum_bytes 1099511627776 h.used X (by have := hn.used; omega) hn.used
  have e4 := fun X => curNum_bytes 1099511627776 h.round X (by have := hn.round; omega) hn.round
  have HEQ := Lib.hid (And.intro e1 (And.intro e2 (And.intro e3 e4)))
  have hb1 := h.bytes_le
  obtain ⟨x1, hx1⟩ : ∃ x, x = h.area := ⟨_, rfl⟩
  obtain ⟨x2, hx2⟩ : ∃ x, x = h.size := ⟨_, rfl⟩
  obtain ⟨x3, hx3⟩ : ∃ x, x = h.used := ⟨_, rfl⟩
  obtain ⟨x4, hx4⟩ : ∃ x, x = h.round := ⟨_, rfl⟩
  have HX := Lib.hid (And.intro hx1 (And.intro hx2 (And.intro hx3 hx4)))
  have hg4 : ¬ ((x4 : Int) < 1) := by rw [hx4]; have := hri.round; omega
  have hg2 : ¬ ((la : Int) * 64 < (x2 : Int)) := by rw [hx2]; have := hri.size; omega
  have hg3 : ¬ ((l : Int) * 64 < (x3 : Int)) := by rw [hx3]; have := hri.used; omega
  have hwa : wrap64 ((la : Int) * 64) = (la : Int) * 64 := by unfold wrap64; omega
  have hwl : wrap64 ((l : Int) * 64) = (l : Int) * 64 := by unfold wrap64; omega
  rw [← hx1, ← hx2, ← hx3, ← hx4] at HEQ hsec
  have HLN := Lib.hid (show (numBytes 5 x1 ++ (numBytes 5 x2 ++ (numBytes 5 x3 ++ (numBytes 5 x4 ++ Z)))).length ≤ 1000000 ∧ (numBytes 5 x2 ++ (numBytes 5 x3 ++ (numBytes 5 x4 ++ Z))).length ≤ 1000000 ∧ (numBytes 5 x3 ++ (numBytes 5 x4 ++ Z)).length ≤ 1000000 ∧ (numBytes 5 x4 ++ Z).length ≤ 1000000 by
    have h64 := h.sec_length
    rw [hsec] at h64
    simp only [List.length_append] at h64 ⊢
    omega)
  rw [hsec] at hcur
  have HC := Lib.hid hcur
  have HZ := Lib.hid (show (∀ i (hi : i < Z.length), Z[i] = 0) ∧ Z.length ≤ 64 by rw [hZ]; exact ⟨fun i hi => by simp, by simp⟩)
  rw [hsl] at HW ⊢
  clear hb hn hri hsl hW1 hW2 hW3 hf1 hf2 hf3 hz1 hz2 hz3 hf13 hf23 hs1 hs2 hcur hsec e1 e2 e3 e4 hZ hx1 hx2 hx3 hx4 hb1 hl hla
  go_enter Tryz.func148, Tryz.ntmps148
  go_wp2_with fail
  rw [← HW.out.1, ← HW.out.2.1, ← HW.out.2.2.1]
  have hc0 := rNum_any 1 W3 HC.out (fun h => absurd rfl h) (by have := HLN.out.1; omega)
  rw [HEQ.out.1] at hc0
  refine hc0.mono ?_
  rintro e w1 ⟨rfl, hf, hcu⟩
  have G0 := Lib.hid (And.intro hf hcu)
  clear hc0 hf hcu
  obtain ⟨W4, hW4⟩ : ∃ W, W = w1.alloc (.cells #[.int .i64 x1, .int .i64 0, .int .i64 0, .int .i64 0] 155) := ⟨_, rfl⟩
  have hs1 := G0.out.1.size
  have H1 := Lib.hid (show RhAt w W4 l la d w.heap.size (w.heap.size + 1) w1.heap.size (w.heap.size + 2) x1 0 0 0 (fun k => G k ∧ k < w.heap.size) (numBytes 5 x2 ++ (numBytes 5 x3 ++ (numBytes 5 x4 ++ Z))) by
    have hz3 := HW.out.2.2.2.2.1
    have hfa : Fr (fun _ => False) w1 W4 := by rw [hW4]; exact (Fr.refl _ w1).alloc _
    refine ⟨hfa.heap (G0.out.1.heap HW.out.2.2.2.2.2.1 (by omega)) id, hfa.heap (G0.out.1.heap HW.out.2.2.2.2.2.2 (by omega)) id, by rw [hW4]; exact heap_alloc_new w1 _, G0.out.2.keep hfa id (fun _ _ _ h => h), ⟨⟨by omega, by omega, by omega, by omega, by omega, by omega⟩, ⟨by omega, by omega, by omega, by omega⟩, fun k hk => hk.2⟩, (HW.out.2.2.2.1.trans (T := fun k => k = w.heap.size + 2) G0.out.1 (fun k e => .inr (by omega))).trans hfa (fun _ h => h.elim)⟩)
  have HW4 := Lib.hid hW4
  clear hW4 hs1
  go_wp2_with fail
  rw [← HW4.out]
  obtain ⟨gh, hgh⟩ : ∃ gh, gh = w1.heap.size := ⟨_, rfl⟩
  rw [← hgh] at H1 ⊢
  clear hgh
  have hc1 := rNum_any 1099511627776 W4 H1.out.cur (fun h => absurd rfl h) (by have := HLN.out.2.1; omega)
  rw [HEQ.out.2.1] at hc1
  refine hc1.mono ?_
  rintro e w2 ⟨rfl, hf, hcu⟩
  have G1 := Lib.hid (H1.out.go hf hcu)
  clear hc1 hf hcu
  obtain ⟨q0, q1, q2, q3⟩ := row4_cells G1.out.got
  have r0 := frozen_of_row _ _ 0 _ _ G1.out.got
  have r1 := frozen_of_row _ _ 1 _ _ G1.out.got
  have r2 := frozen_of_row _ _ 2 _ _ G1.out.got
  have r3 := frozen_of_row _ _ 3 _ _ G1.out.got
  have H2 := Lib.hid (G1.out.set1 (x2 : Nat))
  go_wp2_with fail
  clear q0 q1 q2 q3 r0 r1 r2 r3
  have hc2 := rNum_any 1099511627776 (w2.setCell ⟨gh, 1, none⟩ (.int .i64 x2)) H2.out.cur (fun h => absurd rfl h) (by have := HLN.out.2.2.1; omega)
  rw [HEQ.out.2.2.1] at hc2
  refine hc2.mono ?_
  rintro e w3 ⟨rfl, hf, hcu⟩
  have G2 := Lib.hid (H2.out.go hf hcu)
  clear hc2 hf hcu
  obtain ⟨q0, q1, q2, q3⟩ := row4_cells G2.out.got
  have r0 := frozen_of_row _ _ 0 _ _ G2.out.got
  have r1 := frozen_of_row _ _ 1 _ _ G2.out.got
  have r2 := frozen_of_row _ _ 2 _ _ G2.out.got
  have r3 := frozen_of_row _ _ 3 _ _ G2.out.got
  have H3 := Lib.hid (G2.out.set2 (x3 : Nat))
  go_wp2_with fail
  clear q0 q1 q2 q3 r0 r1 r2 r3
  have hc3 := rNum_any 1099511627776 (w3.setCell ⟨gh, 2, none⟩ (.int .i64 x3)) H3.out.cur (fun h => absurd rfl h) (by have := HLN.out.2.2.2; omega)
  rw [HEQ.out.2.2.2] at hc3
  refine hc3.mono ?_
  rintro e w4 ⟨rfl, hf, hcu⟩
  have G3 := Lib.hid (H3.out.go hf hcu)
  clear hc3 hf hcu
  obtain ⟨q0, q1, q2, q3⟩ := row4_cells G3.out.got
  have r0 := frozen_of_row _ _ 0 _ _ G3.out.got
  have r1 := frozen_of_row _ _ 1 _ _ G3.out.got
  have r2 := frozen_of_row _ _ 2 _ _ G3.out.got
  have r3 := frozen_of_row _ _ 3 _ _ G3.out.got
  have H4 := Lib.hid (G3.out.set3 (x4 : Nat))
  obtain ⟨s0, s1, s2⟩ := row3_cells G3.out.shp
  have hne := G3.out.sep.1
  have hb0 : w.heap.size + 2 = w.heap.size + 1 + 1 := rfl
  obtain ⟨vz, T, hcb, hbz, _⟩ := G3.out.cur
  have cc := ref_cells hcb
  obtain ⟨k0, k1, _, _⟩ := cc
  have hd4 : decide ((x4 : Int) < 1) = false := by rw [decide_eq_false_iff_not]; omega
  have hd2 : decide ((la : Int) * 64 < (x2 : Int)) = false := by rw [decide_eq_false_iff_not]; omega
  have hd3 : decide ((l : Int) * 64 < (x3 : Int)) = false := by rw [decide_eq_false_iff_not]; omega
  clear hcb hbz
  go_wp2_with fail
  obtain ⟨W5, hW5⟩ : ∃ W, W = w4.setCell ⟨gh, 3, none⟩ (.int .i64 x4) := ⟨_, rfl⟩
  rw [← hW5] at H4 ⊢
  clear q0 q1 q2 q3 r0 r1 r2 r3 s0 s1 s2 k0 k1 hW5 hd4 hd2 hd3 hwa hwl hg4 hg2 hg3
  go_loopw [8] (fun iv wr => ∃ i : Nat, i ≤ Z.length ∧ iv = .int .i64 i ∧ wr = W5) (fun iv _ => Z.length - (intOf iv).toNat)
  case atStart => exact ⟨0, by omega, rfl, rfl⟩
  case round =>
    obtain ⟨i, hi, rfl, rfl⟩ := hrel
    have hz64 := HZ.out.2
    obtain ⟨vz, T, hcb, hbz, _⟩ := H4.out.cur
    obtain ⟨k0, k1, _, _⟩ := ref_cells hcb
    by_cases hlt : i < Z.length
    · obtain ⟨bz, oz, cz, rfl, hlz, hmz, _, hez⟩ := hbz.plain (by intro h; rw [h] at hlt; simp at hlt)
      have hel := hez i hlt
      rw [HZ.out.1 i hlt, show bv 0 = .int .u8 0 from rfl] at hel
      have hd : decide ((i : Int) < (Z.length : Int)) = true := by rw [decide_eq_true_iff]; omega
      clear hez hcb hbz
      go_wp2_with fail
      go_roundw
      case rel => exact ⟨i + 1, by omega, by go_num, trivial⟩
      case measure => simp [intOf]; omega
    · obtain ⟨az, cz, rfl, hlz, hmz, _, _⟩ := id hbz
      have hiz : i = Z.length := by omega
      have hd : decide ((i : Int) < (Z.length : Int)) = false := by rw [decide_eq_false_iff_not]; omega
      obtain ⟨q0, q1, q2, q3⟩ := row4_cells H4.out.got
      obtain ⟨q5, q6, q7, q8⟩ := row4_cells H4.out.res
      have r0 := frozen_of_row _ _ 0 _ _ H4.out.res
      have r1 := frozen_of_row _ _ 1 _ _ H4.out.res
      have r2 := frozen_of_row _ _ 2 _ _ H4.out.res
      have r3 := frozen_of_row _ _ 3 _ _ H4.out.res
      clear hcb hbz
      go_wp2_with fail
      refine bodyPost_ret (v := .tuple #[.agg #[.int .i64 x1, .int .i64 x2, .int .i64 x3, .int .i64 x4], .bool true]) (by simp [results, Tryz.results148, q5, q6, q7, q8, go_sem]) rfl ?_
      unfold HeadPost
      rw [← HX.out.1, ← HX.out.2.1, ← HX.out.2.2.1, ← HX.out.2.2.2]
      exact ⟨rfl, (((H4.out.fr.setCell (p := ⟨w.heap.size + 1, 0, none⟩) (.inr (Nat.le_succ _)) _).setCell (p := ⟨w.heap.size + 1, 1, none⟩) (.inr (Nat.le_succ _)) _).setCell (p := ⟨w.heap.size + 1, 2, none⟩) (.inr (Nat.le_succ _)) _).setCell (p := ⟨w.heap.size + 1, 3, none⟩) (.inr (Nat.le_succ _)) _⟩
end Go.Proofs.YtiinmilfgclddaaGreat

