/- Laid together: JHeadOf JOpen -/
import Derived.Test.YtldgcoikbjbjeaaGreatTk19
import Derived.Test.YtldgcoikbjbjeaaGreatTk20
import Derived.Test.YtldgcoikbjbjeaaGreatTk18

namespace Go.Proofs.YtldgcoikbjbjeaaGreat
open Go.RowKit Go.ChangeShapes
set_option linter.unusedVariables false
theorem curNum_bytes (most : Int) (n : Nat) (X : List UInt8) (hm : (n : Int) ≤ most) (hn : n ≤ 1099511627776) : curNum most (numBytes 5 n ++ X) 0 = ((n : Int), X, 0) := by
  have e := numOf_bytes n X hn
  have h1 : numS (numBytes 5 n ++ X) = (numBytes 5 n).length := by unfold numS; rw [e]; rfl
  have h2 : numV (numBytes 5 n ++ X) = n := by unfold numV; rw [e]; rfl
  have h3 := (numBytes_len 5 n).1
  rw [curNum, if_pos rfl, h1, h2, if_neg (by omega), List.drop_left']
  rfl
structure HoAt (w0 w : World) (gr gh b : Nat) (x1 x2 x3 x4 : Int) (X : List UInt8) : Prop where
  res : w.heap[gr]? = some (.cells #[.int .i64 0, .int .i64 0, .int .i64 0, .int .i64 0] 106 (0, 0))
  got : w.heap[gh]? = some (.cells #[.int .i64 x1, .int .i64 x2, .int .i64 x3, .int .i64 x4] 106 (0, 0))
  cur : CurAt (fun k => w0.heap.size ≤ k ∧ k ≠ b ∧ k ≠ gr ∧ k ≠ gh) w b X 0
  sep : gr ≠ gh ∧ gr ≠ b ∧ gh ≠ b ∧ w0.heap.size ≤ gr ∧ w0.heap.size ≤ gh ∧ w0.heap.size ≤ b
  fr : Fr (fun _ => False) w0 w
theorem HoAt.go {w0 w w' : World} {gr gh b : Nat} {x1 x2 x3 x4 : Int} {X Y : List UInt8} (h : HoAt w0 w gr gh b x1 x2 x3 x4 X) (hf : Fr (· = b) w w') (hc : CurAt (fun k => w0.heap.size ≤ k ∧ k ≠ b ∧ k ≠ gr ∧ k ≠ gh) w' b Y 0) : HoAt w0 w' gr gh b x1 x2 x3 x4 Y :=
  ⟨hf.heap h.res h.sep.2.1, hf.heap h.got h.sep.2.2.1, hc, h.sep, h.fr.trans hf fun k e => .inr (by rw [show k = b from e]; exact h.sep.2.2.2.2.2)⟩
theorem HoAt.quiet {w0 w w' : World} {gr gh b : Nat} {x1 x2 x3 x4 : Int} {X : List UInt8} (h : HoAt w0 w gr gh b x1 x2 x3 x4 X) (hf : Fr (fun _ => False) w w') : HoAt w0 w' gr gh b x1 x2 x3 x4 X :=
  ⟨hf.heap h.res id, hf.heap h.got id, h.cur.keep hf id (fun _ _ _ h => h), h.sep, h.fr.trans hf fun _ h => h.elim⟩
theorem HoAt.frs {w0 w w' : World} {gr gh b : Nat} {x1 x2 x3 x4 y1 y2 y3 y4 : Int} {X : List UInt8} (h : HoAt w0 w gr gh b x1 x2 x3 x4 X) (hf : Fr (· = gh) w w') (hg : w'.heap[gh]? = some (.cells #[.int .i64 y1, .int .i64 y2, .int .i64 y3, .int .i64 y4] 106 (0, 0))) : HoAt w0 w' gr gh b y1 y2 y3 y4 X :=
  ⟨hf.heap h.res h.sep.1, hg, h.cur.keep hf (fun e => h.sep.2.2.1 e.symm) (fun k _ h1 e => h1.2.2.2 e), h.sep, h.fr.trans hf fun k e => .inr (by rw [show k = gh from e]; exact h.sep.2.2.2.2.1)⟩
theorem HoAt.set0 {w0 w : World} {gr gh b : Nat} {x1 x2 x3 x4 : Int} {X : List UInt8} (h : HoAt w0 w gr gh b x1 x2 x3 x4 X) (y : Int) : HoAt w0 (w.setCell ⟨gh, 0, none⟩ (.int .i64 y)) gr gh b y x2 x3 x4 X := h.frs (Fr.cell1 _ _ _ _) (cell_put _ h.got)
theorem HoAt.set1 {w0 w : World} {gr gh b : Nat} {x1 x2 x3 x4 : Int} {X : List UInt8} (h : HoAt w0 w gr gh b x1 x2 x3 x4 X) (y : Int) : HoAt w0 (w.setCell ⟨gh, 1, none⟩ (.int .i64 y)) gr gh b x1 y x3 x4 X := h.frs (Fr.cell1 _ _ _ _) (cell_put _ h.got)
theorem HoAt.set2 {w0 w : World} {gr gh b : Nat} {x1 x2 x3 x4 : Int} {X : List UInt8} (h : HoAt w0 w gr gh b x1 x2 x3 x4 X) (y : Int) : HoAt w0 (w.setCell ⟨gh, 2, none⟩ (.int .i64 y)) gr gh b x1 x2 y x4 X := h.frs (Fr.cell1 _ _ _ _) (cell_put _ h.got)
theorem HoAt.set3 {w0 w : World} {gr gh b : Nat} {x1 x2 x3 x4 : Int} {X : List UInt8} (h : HoAt w0 w gr gh b x1 x2 x3 x4 X) (y : Int) : HoAt w0 (w.setCell ⟨gh, 3, none⟩ (.int .i64 y)) gr gh b x1 x2 x3 y X := h.frs (Fr.cell1 _ _ _ _) (cell_put _ h.got)
def HeadPost (w : World) (h : Hd) (e : Ending) (w' : World) : Prop := e = .returned (.tuple #[.agg #[.int .i64 h.area, .int .i64 h.size, .int .i64 h.used, .int .i64 h.round], .bool true]) ∧ Fr (fun _ => False) w w'
set_option maxRecDepth 100000 in
set_option maxHeartbeats 4000000 in
theorem lHeadOf_any {G : Nat → Prop} (w : World) (vb : Value) (h : Hd) (hn : h.Num) (ha : h.area ≤ 1) (hr : 1 ≤ h.round) (hb : BytesIn G w vb h.sec) :
    Calls Tryz.prog 54 #[vb] w (HeadPost w h) := by
  have hsl := h.sec_length
  obtain ⟨ab, cb, hvb, _⟩ := id hb
  subst hvb
  obtain ⟨W1, hW1⟩ : ∃ W1, W1 = w.alloc (.cells #[.int .i64 0, .int .i64 0, .int .i64 0, .int .i64 0] 106) := ⟨_, rfl⟩
  have hf1 : Fr (fun _ => False) w W1 := by rw [hW1]; exact (Fr.refl _ _).alloc _
  have hz1 : W1.heap.size = w.heap.size + 1 := by rw [hW1]; simp
  have hres : W1.heap[w.heap.size]? = some (.cells #[.int .i64 0, .int .i64 0, .int .i64 0, .int .i64 0] 106 (0, 0)) := by rw [hW1]; exact heap_alloc_new w _
  have hb1 := (hb.mono (G := fun k => G k ∧ k < w.heap.size) (fun k hk h => ⟨h, hk⟩)).keep hf1 (fun _ _ _ h => h)
  have hov := over_any W1 hb1 (by rw [hsl]; decide)
  obtain ⟨Z, hZ⟩ : ∃ Z : List UInt8, Z = List.replicate (64 - h.bytes.length) 0 := ⟨_, rfl⟩
  have hsec : h.sec = numBytes 5 h.area ++ (numBytes 5 h.size ++ (numBytes 5 h.used ++ (numBytes 5 h.round ++ Z))) := by
    rw [Hd.sec, full64, Hd.bytes, hZ, Hd.bytes]
    simp only [List.append_assoc]
  have HBY := Lib.hid (fun W => lBytes_any W h hn)
  have HB := Lib.hid hb
  have HNM := Lib.hid (And.intro hn (And.intro ha hr))
  have HW := Lib.hid (And.intro hW1 (And.intro hf1 (And.intro hz1 hres)))
  have HS := Lib.hid hsec
  rw [hsl] at HB hov ⊢
  have HOV := Lib.hid hov
  have e1 := fun X => curNum_bytes 1 h.area X (by have := HNM.out.2.1; omega) HNM.out.1.area
  have e2 := fun X => curNum_bytes 1099511627776 h.size X (by have := HNM.out.1.size; omega) HNM.out.1.size
  have e3 := fun X => curNum_bytes 1099511627776 h.used X (by have := HNM.out.1.used; omega) HNM.out.1.used
  have e4 := fun X => curNum_bytes 1099511627776 h.round X (by have := HNM.out.1.round; omega) HNM.out.1.round
  have HEQ := Lib.hid (And.intro e1 (And.intro e2 (And.intro e3 e4)))
  have hgd : ¬ ((h.round : Int) < 1) := by omega
  obtain ⟨x1, hx1⟩ : ∃ x, x = h.area := ⟨_, rfl⟩
  obtain ⟨x2, hx2⟩ : ∃ x, x = h.size := ⟨_, rfl⟩
  obtain ⟨x3, hx3⟩ : ∃ x, x = h.used := ⟨_, rfl⟩
  obtain ⟨x4, hx4⟩ : ∃ x, x = h.round := ⟨_, rfl⟩
  have HX := Lib.hid (And.intro hx1 (And.intro hx2 (And.intro hx3 hx4)))
  rw [← hx1, ← hx2, ← hx3, ← hx4] at HBY HEQ HS
  rw [← hx4] at hgd
  clear hb hn ha hr hsl hW1 hf1 hz1 hres hb1 hov hsec e1 e2 e3 e4 hZ hx1 hx2 hx3 hx4
  go_enter Tryz.func54, Tryz.ntmps54
  go_wp2_with (first
    | (go_at_call 93; rw [← HW.out.1]; refine HOV.out.mono ?_; rintro e w1 ⟨b, rfl, hf1, hb1, hc1⟩; (have H1 := Lib.hid (show HoAt w (w1.alloc (.cells #[.int .i64 0, .int .i64 0, .int .i64 0, .int .i64 0] 106)) w.heap.size w1.heap.size b 0 0 0 0 h.sec by
        have hlb : b < w1.heap.size := by obtain ⟨_, hh, _⟩ := hc1; exact lt_of_block hh
        have hsz := HW.out.2.2.1
        have hsz2 := hf1.size
        refine ⟨((Fr.refl (fun _ => False) w1).alloc _).heap (hf1.heap HW.out.2.2.2 id) id, heap_alloc_new w1 _, ?_, ⟨by omega, by omega, by omega, Nat.le_refl _, by omega, by omega⟩, (HW.out.2.1.trans hf1 (fun _ h => h.elim)).alloc _⟩
        exact (hc1.mono (G := fun k => w.heap.size ≤ k ∧ k ≠ b ∧ k ≠ w.heap.size ∧ k ≠ w1.heap.size) (fun k hk hh => ⟨by omega, hh.2, by omega, by omega⟩) (fun hh => hh.2.1 rfl)).keep ((Fr.refl (fun _ => False) w1).alloc _) id (fun _ _ _ h => h))); clear hf1 hb1 hc1)
    | fail)
  obtain ⟨W2, hW2⟩ : ∃ W2, W2 = w1.alloc (.cells #[.int .i64 0, .int .i64 0, .int .i64 0, .int .i64 0] 106) := ⟨_, rfl⟩
  obtain ⟨gh, hgh⟩ : ∃ gh, gh = w1.heap.size := ⟨_, rfl⟩
  rw [← hW2, ← hgh, HS.out] at H1
  rw [← hW2, ← hgh]
  clear hW2 hgh
  have hc1 := curNum_any 1 W2 H1.out.cur
  rw [HEQ.out.1] at hc1
  refine hc1.mono ?_
  rintro e w2 ⟨rfl, hf, hcu⟩
  have G1 := Lib.hid (H1.out.go hf hcu)
  clear hc1 hf hcu
  have q0 := cell_of_row _ _ 0 _ _ _ G1.out.got
  have q1 := cell_of_row _ _ 1 _ _ _ G1.out.got
  have q2 := cell_of_row _ _ 2 _ _ _ G1.out.got
  have q3 := cell_of_row _ _ 3 _ _ _ G1.out.got
  simp only [List.getElem?_toArray, List.getElem?_cons_zero, List.getElem?_cons_succ] at q0 q1 q2 q3
  have r0 := frozen_of_row _ _ 0 _ _ G1.out.got
  have r1 := frozen_of_row _ _ 1 _ _ G1.out.got
  have r2 := frozen_of_row _ _ 2 _ _ G1.out.got
  have r3 := frozen_of_row _ _ 3 _ _ G1.out.got
  have H2 := Lib.hid (G1.out.set0 (x1 : Nat))
  go_wp2_with fail
  clear q0 q1 q2 q3 r0 r1 r2 r3
  have hc2 := curNum_any 1099511627776 (w2.setCell ⟨gh, 0, none⟩ (.int .i64 x1)) H2.out.cur
  rw [HEQ.out.2.1] at hc2
  refine hc2.mono ?_
  rintro e w3 ⟨rfl, hf, hcu⟩
  have G2 := Lib.hid (H2.out.go hf hcu)
  clear hc2 hf hcu
  have q0 := cell_of_row _ _ 0 _ _ _ G2.out.got
  have q1 := cell_of_row _ _ 1 _ _ _ G2.out.got
  have q2 := cell_of_row _ _ 2 _ _ _ G2.out.got
  have q3 := cell_of_row _ _ 3 _ _ _ G2.out.got
  simp only [List.getElem?_toArray, List.getElem?_cons_zero, List.getElem?_cons_succ] at q0 q1 q2 q3
  have r0 := frozen_of_row _ _ 0 _ _ G2.out.got
  have r1 := frozen_of_row _ _ 1 _ _ G2.out.got
  have r2 := frozen_of_row _ _ 2 _ _ G2.out.got
  have r3 := frozen_of_row _ _ 3 _ _ G2.out.got
  have H3 := Lib.hid (G2.out.set1 (x2 : Nat))
  go_wp2_with fail
  clear q0 q1 q2 q3 r0 r1 r2 r3
  have hc3 := curNum_any 1099511627776 (w3.setCell ⟨gh, 1, none⟩ (.int .i64 x2)) H3.out.cur
  rw [HEQ.out.2.2.1] at hc3
  refine hc3.mono ?_
  rintro e w4 ⟨rfl, hf, hcu⟩
  have G3 := Lib.hid (H3.out.go hf hcu)
  clear hc3 hf hcu
  have q0 := cell_of_row _ _ 0 _ _ _ G3.out.got
  have q1 := cell_of_row _ _ 1 _ _ _ G3.out.got
  have q2 := cell_of_row _ _ 2 _ _ _ G3.out.got
  have q3 := cell_of_row _ _ 3 _ _ _ G3.out.got
  simp only [List.getElem?_toArray, List.getElem?_cons_zero, List.getElem?_cons_succ] at q0 q1 q2 q3
  have r0 := frozen_of_row _ _ 0 _ _ G3.out.got
  have r1 := frozen_of_row _ _ 1 _ _ G3.out.got
  have r2 := frozen_of_row _ _ 2 _ _ G3.out.got
  have r3 := frozen_of_row _ _ 3 _ _ G3.out.got
  have H4 := Lib.hid (G3.out.set2 (x3 : Nat))
  go_wp2_with fail
  clear q0 q1 q2 q3 r0 r1 r2 r3
  have hc4 := curNum_any 1099511627776 (w4.setCell ⟨gh, 2, none⟩ (.int .i64 x3)) H4.out.cur
  rw [HEQ.out.2.2.2] at hc4
  refine hc4.mono ?_
  rintro e w5 ⟨rfl, hf, hcu⟩
  have G4 := Lib.hid (H4.out.go hf hcu)
  clear hc4 hf hcu
  have q0 := cell_of_row _ _ 0 _ _ _ G4.out.got
  have q1 := cell_of_row _ _ 1 _ _ _ G4.out.got
  have q2 := cell_of_row _ _ 2 _ _ _ G4.out.got
  have q3 := cell_of_row _ _ 3 _ _ _ G4.out.got
  simp only [List.getElem?_toArray, List.getElem?_cons_zero, List.getElem?_cons_succ] at q0 q1 q2 q3
  have r0 := frozen_of_row _ _ 0 _ _ G4.out.got
  have r1 := frozen_of_row _ _ 1 _ _ G4.out.got
  have r2 := frozen_of_row _ _ 2 _ _ G4.out.got
  have r3 := frozen_of_row _ _ 3 _ _ G4.out.got
  have H5 := Lib.hid (G4.out.set3 (x4 : Nat))
  have q5 := cell_of_row _ _ 0 _ _ _ G4.out.res
  have q6 := cell_of_row _ _ 1 _ _ _ G4.out.res
  have q7 := cell_of_row _ _ 2 _ _ _ G4.out.res
  have q8 := cell_of_row _ _ 3 _ _ _ G4.out.res
  go_wp2_with fail
  refine (HBY.out _).mono ?_
  rintro e w6 ⟨v6, rfl, ho6, hf6⟩
  have H6 := Lib.hid (H5.out.quiet hf6)
  have HO6 := Lib.hid ho6
  clear ho6 hf6 q0 q1 q2 q3 r0 r1 r2 r3 q5 q6 q7 q8
  go_wp2_with fail
  refine (Tryz.bytes_Equal_strs v6 _ ⟨h.sec.toArray⟩ ⟨h.sec.toArray⟩ w6 (run_bytes_str w6 v6 h.sec HO6.out.bytes) (run_bytes_str w6 _ h.sec (HB.out.keep H6.out.fr (fun _ _ _ h => h)))).mono ?_
  rintro e w7 ⟨rfl, hw7⟩
  subst hw7
  have heq : ((⟨h.sec.toArray⟩ : ByteArray).toList == (⟨h.sec.toArray⟩ : ByteArray).toList) = true := by simp
  rw [heq]
  clear heq
  obtain ⟨q0, q1, q2, q3⟩ := row4_cells H6.out.got
  obtain ⟨q5, q6, q7, q8⟩ := row4_cells H6.out.res
  have r0 := frozen_of_row _ _ 0 _ _ H6.out.res
  have r1 := frozen_of_row _ _ 1 _ _ H6.out.res
  have r2 := frozen_of_row _ _ 2 _ _ H6.out.res
  have r3 := frozen_of_row _ _ 3 _ _ H6.out.res
  go_wp2
  refine bodyPost_ret (v := .tuple #[.agg #[.int .i64 x1, .int .i64 x2, .int .i64 x3, .int .i64 x4], .bool true]) (by simp [results, Tryz.results54, q5, q6, q7, q8, go_sem]) rfl ?_
  unfold HeadPost
  rw [← HX.out.1, ← HX.out.2.1, ← HX.out.2.2.1, ← HX.out.2.2.2]
  exact ⟨rfl, (((H6.out.fr.setCell (p := ⟨w.heap.size, 0, none⟩) (.inr (Nat.le_refl _)) _).setCell (p := ⟨w.heap.size, 1, none⟩) (.inr (Nat.le_refl _)) _).setCell (p := ⟨w.heap.size, 2, none⟩) (.inr (Nat.le_refl _)) _).setCell (p := ⟨w.heap.size, 3, none⟩) (.inr (Nat.le_refl _)) _⟩
end Go.Proofs.YtldgcoikbjbjeaaGreat
namespace Go.Proofs.YtldgcoikbjbjeaaGreat
open Go.RowKit Go.ChangeShapes
set_option linter.unusedVariables false
abbrev tup5 (y : Value) : Value := .tuple #[y, .int .i64 0]
theorem op_extract5 {P : Program} {w : World} {o : Oper} {a : Act} {x : Operand} {i : Nat} {vs : Array Value} {v : Value} (ho : o.op = .extract x i) (hx : a.eval x = .tuple vs) (hv : vs[i]? = some v) : (execOp a.eval o).run P w = .ok (.value v) w := by
  unfold execOp
  rw [ho]
  simp only [hx, Instr.extract, hv]
  rfl
def AreR (jn x1 x2 l la d m z0 : Nat) (L5 : List UInt8) (i : Nat) (v : Value) (W : World) : Prop :=
  match i with
  | 0 => v = .pointer (some ⟨jn, 0, none⟩)
  | 1 => v = .pointer (some ⟨jn, 0, none⟩)
  | 2 => v = .pointer (some ⟨jn, 0, none⟩)
  | 3 => v = .pointer (some ⟨jn, 5, none⟩)
  | 4 => v = .agg #[.int .i64 (l : Nat), .int .i64 (la : Nat), .int .i64 (d : Nat)]
  | 5 => v = .pointer (some ⟨jn, 0, none⟩)
  | 6 => v = .pointer (some ⟨jn, 0, none⟩)
  | 7 => v = .pointer (some ⟨jn, 0, none⟩)
  | 8 => v = .pointer (some ⟨jn, 0, none⟩)
  | 9 => v = .int .i64 (x1 : Nat)
  | 10 => v = .int .i64 (m : Nat)
  | 11 => v = .pointer (some ⟨jn, 0, none⟩)
  | 12 => v = .pointer (some ⟨jn, 0, none⟩)
  | 13 => v = .pointer (some ⟨jn, 0, none⟩)
  | 14 => v = .pointer (some ⟨jn, 1, none⟩)
  | 15 => v = .int .i64 (x2 : Nat)
  | 16 => ∃ y, v = tup5 y ∧ OwnB (fun k => z0 ≤ k) W y L5
  | 17 => ∃ y, v = y ∧ OwnB (fun k => z0 ≤ k) W y L5
  | 18 => v = .int .i64 0
  | 19 => ∃ y, v = y ∧ OwnB (fun k => z0 ≤ k) W y L5
  | 20 => v = .int .i64 0
  | _ => True
theorem AreR.ext (jn x1 x2 l la d m z0 : Nat) (L5 : List UInt8) : ∀ (j : Nat) (u : Value) (W W' : World), Fr (fun _ => False) W W' → AreR jn x1 x2 l la d m z0 L5 j u W → AreR jn x1 x2 l la d m z0 L5 j u W'
  | 0, u, W, W', hf, h => h
  | 1, u, W, W', hf, h => h
  | 2, u, W, W', hf, h => h
  | 3, u, W, W', hf, h => h
  | 4, u, W, W', hf, h => h
  | 5, u, W, W', hf, h => h
  | 6, u, W, W', hf, h => h
  | 7, u, W, W', hf, h => h
  | 8, u, W, W', hf, h => h
  | 9, u, W, W', hf, h => h
  | 10, u, W, W', hf, h => h
  | 11, u, W, W', hf, h => h
  | 12, u, W, W', hf, h => h
  | 13, u, W, W', hf, h => h
  | 14, u, W, W', hf, h => h
  | 15, u, W, W', hf, h => h
  | 16, u, W, W', hf, h => (let ⟨y, h1, h2⟩ := h; ⟨y, h1, h2.keep hf (fun _ _ _ h => h)⟩)
  | 17, u, W, W', hf, h => (let ⟨y, h1, h2⟩ := h; ⟨y, h1, h2.keep hf (fun _ _ _ h => h)⟩)
  | 18, u, W, W', hf, h => h
  | 19, u, W, W', hf, h => (let ⟨y, h1, h2⟩ := h; ⟨y, h1, h2.keep hf (fun _ _ _ h => h)⟩)
  | 20, u, W, W', hf, h => h
  | _ + 21, u, W, W', hf, h => trivial
theorem jRead_any {D : Nat → Prop} (w : World) (jn g s l la d q n : Nat) (h : Hd) (dv : Dv) (hj : JnAt w jn g h l la d false) (hd : DevAt w D g s dv) (hup : dv.down = false) (hw : dv.waits = []) (hs : s ≤ 8192) (ho : 64 * q + n ≤ 64 * s) :
    Calls Tryz.prog 101 #[.pointer (some ⟨jn, 0, none⟩), .int .i64 q, .int .i64 n] w (ReadPost w (cut4 dv.all (64 * q) n)) := by
  have HRD := Lib.hid (lRead_any w g s q n dv hd hup hw hs ho)
  obtain ⟨_, _, _, _, c4, _⟩ := hj.cells
  clear hj hd hup hw ho
  go_enter Tryz.func101, Tryz.ntmps101
  go_wp2_with (first
    | (go_at_call 56; refine HRD.out.mono ?_; rintro e w1 ⟨v, rfl, ho1, hf1⟩; (have H1 := Lib.hid (And.intro ho1 hf1)); clear ho1 hf1)
    | (go_at_call 135; refine (jHeed_no w1 jn).mono ?_; rintro e w2 ⟨rfl, rfl⟩))
  go_ret2
  unfold ReadPost
  exact ⟨v, rfl, H1.out⟩
set_option maxRecDepth 100000 in
set_option maxHeartbeats 1000000 in
theorem jArea_any {D : Nat → Prop} (w : World) (jn g s l la d : Nat) (h : Hd) (dv : Dv) (hl : l ≤ 8192) (hla : la ≤ 8192) (hr : h.Right l la) (hj : JnAt w jn g h l la d false) (hd : DevAt w D g s dv) (hup : dv.down = false) (hw : dv.waits = []) (hs : s ≤ 8192) (ho : 1 + l + 2 * la ≤ s) :
    Calls Tryz.prog 58 #[.pointer (some ⟨jn, 0, none⟩)] w (ReadPost w (cut4 dv.all (areaAt l la h.area) h.size)) := by
  have hc := jReady_any w jn g h l la d false hj
  have ha1 := hr.area
  have hin := area_in ho ha1 hr.size
  obtain ⟨m, hm⟩ : ∃ m, m = 1 + l + h.area * la := ⟨_, rfl⟩
  have ham : areaAt l la h.area = 64 * m := by rw [hm]; rfl
  have har := fun W => lArea_any W l la d h.area hl hla (by omega)
  rw [← hm] at har
  rw [ham] at hin ⊢
  have hrd := fun (W : World) (hf : Fr (fun _ => False) w W) => jRead_any (D := D) W jn g s l la d m h.size h dv (hj.keep hf id) (hd.keep hf (fun _ _ _ h => h)) hup hw hs hin
  have HJ := Lib.hid hj
  unfold JnAt at HJ
  obtain ⟨x1, hx1⟩ : ∃ x, x = h.area := ⟨_, rfl⟩
  obtain ⟨x2, hx2⟩ : ∃ x, x = h.size := ⟨_, rfl⟩
  rw [← hx1] at har
  rw [← hx1, ← hx2] at HJ
  rw [← hx2] at hrd
  rw [← hx2]
  obtain ⟨L5, hL5⟩ : ∃ L5, L5 = cut4 dv.all (64 * m) x2 := ⟨_, rfl⟩
  rw [← hL5] at hrd ⊢
  obtain ⟨z0, hz0⟩ : ∃ z0, z0 = w.heap.size := ⟨_, rfl⟩
  have HZ0 := Lib.hid hz0
  have HAR := Lib.hid har
  have HRD := Lib.hid hrd
  clear hr hj hd hup hw hs ho ha1 hin hm ham har hrd hx1 hx2 hL5 hz0
  go_enter Tryz.func58, Tryz.ntmps58
  go_wp2_with (go_at_call 100; refine hc.mono ?_; rintro e w1 ⟨rfl, rfl⟩)
  have LDA := Lib.hid (fun W (hW : Fr (fun _ => False) w W) => load_int5 W ⟨jn, 0, none⟩ (.int .i64 x1) (cell_of_row _ _ _ _ _ _ (hW.heap HJ.out id)))
  have LDB := Lib.hid (fun W (hW : Fr (fun _ => False) w W) => load_int5 W ⟨jn, 1, none⟩ (.int .i64 x2) (cell_of_row _ _ _ _ _ _ (hW.heap HJ.out id)))
  have LDS := Lib.hid (fun W (hW : Fr (fun _ => False) w W) => load_shape5 W jn 5 _ _ _ (jn_shape (hW.heap HJ.out id)))
  refine wp_region_inv 21 (by kernel_rfl) (by kernel_rfl) (fun W => Fr (fun _ => False) w W) (AreR jn x1 x2 l la d m z0 L5) (fun _ _ _ _ => True) (Fr (fun _ => False)) (AreR.ext jn x1 x2 l la d m z0 L5) (Fr.refl _ _).drew ?_ ?_
  · intro i hi o ho
    replace hi : i < 21 := hi
    obtain rfl | rfl | rfl | rfl | rfl | rfl | rfl | rfl | rfl | rfl | rfl | rfl | rfl | rfl | rfl | rfl | rfl | rfl | rfl | rfl | rfl : i = 0 ∨ i = 1 ∨ i = 2 ∨ i = 3 ∨ i = 4 ∨ i = 5 ∨ i = 6 ∨ i = 7 ∨ i = 8 ∨ i = 9 ∨ i = 10 ∨ i = 11 ∨ i = 12 ∨ i = 13 ∨ i = 14 ∨ i = 15 ∨ i = 16 ∨ i = 17 ∨ i = 18 ∨ i = 19 ∨ i = 20 := by omega
    · simp only [List.getElem?_cons_zero, Option.some.injEq] at ho
      subst ho
      intro a W vs hB hS hE hU
      refine wpG_plain rfl ?_
      have v0 : a.eval (.tmp 0) = .pointer (some ⟨jn, 0, none⟩) := (hU 0 (by kernel_rfl)).trans rfl
      clear hE hU
      exact wp_value_inv (w' := W) (.pointer (some ⟨jn, 0, none⟩)) (op_move rfl v0) ⟨_, rfl, hB, Fr.refl _ _, rfl, fun _ _ _ _ _ => trivial⟩
    · simp only [List.getElem?_cons_zero, List.getElem?_cons_succ, Option.some.injEq] at ho
      subst ho
      intro a W vs hB hS hE hU
      refine wpG_plain rfl ?_
      have v0 : a.eval (.tmp 0) = .pointer (some ⟨jn, 0, none⟩) := (hU 0 (by kernel_rfl)).trans rfl
      clear hE hU
      exact wp_value_inv (w' := W) (.pointer (some ⟨jn, 0, none⟩)) (op_move rfl v0) ⟨_, rfl, hB, Fr.refl _ _, rfl, fun _ _ _ _ _ => trivial⟩
    · simp only [List.getElem?_cons_zero, List.getElem?_cons_succ, Option.some.injEq] at ho
      subst ho
      intro a W vs hB hS hE hU
      refine wpG_plain rfl ?_
      obtain ⟨r1, e11⟩ := hE 1 11 (by kernel_rfl) (by kernel_rfl)
      have v11 : a.eval (.tmp 11) = .pointer (some ⟨jn, 0, none⟩) := e11.trans r1
      clear hE hU
      exact wp_value_inv (w' := W) (.pointer (some ⟨jn, 0, none⟩)) (op_nilCheck rfl v11) ⟨_, rfl, hB, Fr.refl _ _, rfl, fun _ _ _ _ _ => trivial⟩
    · simp only [List.getElem?_cons_zero, List.getElem?_cons_succ, Option.some.injEq] at ho
      subst ho
      intro a W vs hB hS hE hU
      refine wpG_plain rfl ?_
      obtain ⟨r2, e12⟩ := hE 2 12 (by kernel_rfl) (by kernel_rfl)
      have v12 : a.eval (.tmp 12) = .pointer (some ⟨jn, 0, none⟩) := e12.trans r2
      clear hE hU
      exact wp_value_inv (w' := W) (.pointer (some ⟨jn, 5, none⟩)) (op_fieldAddr rfl v12 (fld_spence_log_Journal_2_0 W jn)) ⟨_, rfl, hB, Fr.refl _ _, rfl, fun _ _ _ _ _ => trivial⟩
    · simp only [List.getElem?_cons_zero, List.getElem?_cons_succ, Option.some.injEq] at ho
      subst ho
      intro a W vs hB hS hE hU
      refine wpG_plain rfl ?_
      obtain ⟨r3, e13⟩ := hE 3 13 (by kernel_rfl) (by kernel_rfl)
      have v13 : a.eval (.tmp 13) = .pointer (some ⟨jn, 5, none⟩) := e13.trans r3
      clear hE hU
      exact wp_value_inv (w' := W) (.agg #[.int .i64 (l : Nat), .int .i64 (la : Nat), .int .i64 (d : Nat)]) (op_loadAt rfl v13 (LDS.out W hB)) ⟨_, rfl, hB, Fr.refl _ _, rfl, fun _ _ _ _ _ => trivial⟩
    · simp only [List.getElem?_cons_zero, List.getElem?_cons_succ, Option.some.injEq] at ho
      subst ho
      intro a W vs hB hS hE hU
      refine wpG_plain rfl ?_
      have v0 : a.eval (.tmp 0) = .pointer (some ⟨jn, 0, none⟩) := (hU 0 (by kernel_rfl)).trans rfl
      clear hE hU
      exact wp_value_inv (w' := W) (.pointer (some ⟨jn, 0, none⟩)) (op_move rfl v0) ⟨_, rfl, hB, Fr.refl _ _, rfl, fun _ _ _ _ _ => trivial⟩
    · simp only [List.getElem?_cons_zero, List.getElem?_cons_succ, Option.some.injEq] at ho
      subst ho
      intro a W vs hB hS hE hU
      refine wpG_plain rfl ?_
      obtain ⟨r5, e15⟩ := hE 5 15 (by kernel_rfl) (by kernel_rfl)
      have v15 : a.eval (.tmp 15) = .pointer (some ⟨jn, 0, none⟩) := e15.trans r5
      clear hE hU
      exact wp_value_inv (w' := W) (.pointer (some ⟨jn, 0, none⟩)) (op_nilCheck rfl v15) ⟨_, rfl, hB, Fr.refl _ _, rfl, fun _ _ _ _ _ => trivial⟩
    · simp only [List.getElem?_cons_zero, List.getElem?_cons_succ, Option.some.injEq] at ho
      subst ho
      intro a W vs hB hS hE hU
      refine wpG_plain rfl ?_
      obtain ⟨r6, e16⟩ := hE 6 16 (by kernel_rfl) (by kernel_rfl)
      have v16 : a.eval (.tmp 16) = .pointer (some ⟨jn, 0, none⟩) := e16.trans r6
      clear hE hU
      exact wp_value_inv (w' := W) (.pointer (some ⟨jn, 0, none⟩)) (op_fieldAddr rfl v16 (fld_spence_log_Journal_0_0 W jn)) ⟨_, rfl, hB, Fr.refl _ _, rfl, fun _ _ _ _ _ => trivial⟩
    · simp only [List.getElem?_cons_zero, List.getElem?_cons_succ, Option.some.injEq] at ho
      subst ho
      intro a W vs hB hS hE hU
      refine wpG_plain rfl ?_
      obtain ⟨r7, e17⟩ := hE 7 17 (by kernel_rfl) (by kernel_rfl)
      have v17 : a.eval (.tmp 17) = .pointer (some ⟨jn, 0, none⟩) := e17.trans r7
      clear hE hU
      exact wp_value_inv (w' := W) (.pointer (some ⟨jn, 0, none⟩)) (op_fieldAddr rfl v17 (fld_spence_log_head_0_0 W jn)) ⟨_, rfl, hB, Fr.refl _ _, rfl, fun _ _ _ _ _ => trivial⟩
    · simp only [List.getElem?_cons_zero, List.getElem?_cons_succ, Option.some.injEq] at ho
      subst ho
      intro a W vs hB hS hE hU
      refine wpG_plain rfl ?_
      obtain ⟨r8, e18⟩ := hE 8 18 (by kernel_rfl) (by kernel_rfl)
      have v18 : a.eval (.tmp 18) = .pointer (some ⟨jn, 0, none⟩) := e18.trans r8
      clear hE hU
      exact wp_value_inv (w' := W) (.int .i64 (x1 : Nat)) (op_loadAt rfl v18 (LDA.out W hB)) ⟨_, rfl, hB, Fr.refl _ _, rfl, fun _ _ _ _ _ => trivial⟩
    · simp only [List.getElem?_cons_zero, List.getElem?_cons_succ, Option.some.injEq] at ho
      subst ho
      intro a W vs hB hS hE hU
      refine wpG_plain rfl ?_
      obtain ⟨r4, e14⟩ := hE 4 14 (by kernel_rfl) (by kernel_rfl)
      have v14 : a.eval (.tmp 14) = .agg #[.int .i64 (l : Nat), .int .i64 (la : Nat), .int .i64 (d : Nat)] := e14.trans r4
      obtain ⟨r9, e19⟩ := hE 9 19 (by kernel_rfl) (by kernel_rfl)
      have v19 : a.eval (.tmp 19) = .int .i64 (x1 : Nat) := e19.trans r9
      clear hE hU
      refine wp_call_inv 50 #[.tmp 14, .tmp 19] #[23, 3] rfl #[.agg #[.int .i64 (l : Nat), .int .i64 (la : Nat), .int .i64 (d : Nat)], .int .i64 (x1 : Nat)] (by simp only [List.map_toArray, List.map_cons, List.map_nil, v14, v19]) (ent_spence_log_areaAt _) (Post := fun v W' => v = .int .i64 (m : Nat) ∧ Fr (fun _ => False) W W') ((HAR.out W).mono fun e w' h => ⟨_, h.1, rfl, h.2⟩) ?_
      rintro v W' ⟨rfl, hf⟩
      exact ⟨_, rfl, hB.trans hf (fun _ h => h.elim), hf, rfl, fun _ _ _ _ _ => trivial⟩
    · simp only [List.getElem?_cons_zero, List.getElem?_cons_succ, Option.some.injEq] at ho
      subst ho
      intro a W vs hB hS hE hU
      refine wpG_plain rfl ?_
      have v0 : a.eval (.tmp 0) = .pointer (some ⟨jn, 0, none⟩) := (hU 0 (by kernel_rfl)).trans rfl
      clear hE hU
      exact wp_value_inv (w' := W) (.pointer (some ⟨jn, 0, none⟩)) (op_move rfl v0) ⟨_, rfl, hB, Fr.refl _ _, rfl, fun _ _ _ _ _ => trivial⟩
    · simp only [List.getElem?_cons_zero, List.getElem?_cons_succ, Option.some.injEq] at ho
      subst ho
      intro a W vs hB hS hE hU
      refine wpG_plain rfl ?_
      obtain ⟨r11, e21⟩ := hE 11 21 (by kernel_rfl) (by kernel_rfl)
      have v21 : a.eval (.tmp 21) = .pointer (some ⟨jn, 0, none⟩) := e21.trans r11
      clear hE hU
      exact wp_value_inv (w' := W) (.pointer (some ⟨jn, 0, none⟩)) (op_nilCheck rfl v21) ⟨_, rfl, hB, Fr.refl _ _, rfl, fun _ _ _ _ _ => trivial⟩
    · simp only [List.getElem?_cons_zero, List.getElem?_cons_succ, Option.some.injEq] at ho
      subst ho
      intro a W vs hB hS hE hU
      refine wpG_plain rfl ?_
      obtain ⟨r12, e22⟩ := hE 12 22 (by kernel_rfl) (by kernel_rfl)
      have v22 : a.eval (.tmp 22) = .pointer (some ⟨jn, 0, none⟩) := e22.trans r12
      clear hE hU
      exact wp_value_inv (w' := W) (.pointer (some ⟨jn, 0, none⟩)) (op_fieldAddr rfl v22 (fld_spence_log_Journal_0_0 W jn)) ⟨_, rfl, hB, Fr.refl _ _, rfl, fun _ _ _ _ _ => trivial⟩
    · simp only [List.getElem?_cons_zero, List.getElem?_cons_succ, Option.some.injEq] at ho
      subst ho
      intro a W vs hB hS hE hU
      refine wpG_plain rfl ?_
      obtain ⟨r13, e23⟩ := hE 13 23 (by kernel_rfl) (by kernel_rfl)
      have v23 : a.eval (.tmp 23) = .pointer (some ⟨jn, 0, none⟩) := e23.trans r13
      clear hE hU
      exact wp_value_inv (w' := W) (.pointer (some ⟨jn, 1, none⟩)) (op_fieldAddr rfl v23 (fld_spence_log_head_1_0 W jn)) ⟨_, rfl, hB, Fr.refl _ _, rfl, fun _ _ _ _ _ => trivial⟩
    · simp only [List.getElem?_cons_zero, List.getElem?_cons_succ, Option.some.injEq] at ho
      subst ho
      intro a W vs hB hS hE hU
      refine wpG_plain rfl ?_
      obtain ⟨r14, e24⟩ := hE 14 24 (by kernel_rfl) (by kernel_rfl)
      have v24 : a.eval (.tmp 24) = .pointer (some ⟨jn, 1, none⟩) := e24.trans r14
      clear hE hU
      exact wp_value_inv (w' := W) (.int .i64 (x2 : Nat)) (op_loadAt rfl v24 (LDB.out W hB)) ⟨_, rfl, hB, Fr.refl _ _, rfl, fun _ _ _ _ _ => trivial⟩
    · simp only [List.getElem?_cons_zero, List.getElem?_cons_succ, Option.some.injEq] at ho
      subst ho
      intro a W vs hB hS hE hU
      refine wpG_plain rfl ?_
      obtain ⟨r0, e10⟩ := hE 0 10 (by kernel_rfl) (by kernel_rfl)
      have v10 : a.eval (.tmp 10) = .pointer (some ⟨jn, 0, none⟩) := e10.trans r0
      obtain ⟨r10, e20⟩ := hE 10 20 (by kernel_rfl) (by kernel_rfl)
      have v20 : a.eval (.tmp 20) = .int .i64 (m : Nat) := e20.trans r10
      obtain ⟨r15, e25⟩ := hE 15 25 (by kernel_rfl) (by kernel_rfl)
      have v25 : a.eval (.tmp 25) = .int .i64 (x2 : Nat) := e25.trans r15
      clear hE hU
      refine wp_call_inv 101 #[.tmp 10, .tmp 20, .tmp 25] #[76, 3, 3] rfl #[.pointer (some ⟨jn, 0, none⟩), .int .i64 (m : Nat), .int .i64 (x2 : Nat)] (by simp only [List.map_toArray, List.map_cons, List.map_nil, v10, v20, v25]) (ent___spence_log_Journal__read _) (Post := fun v W' => ∃ y, v = .tuple #[y, .int .i64 0] ∧ OwnB (fun k => W.heap.size ≤ k) W' y L5 ∧ Fr (fun _ => False) W W') ((HRD.out W hB).mono fun e w' ⟨y, h1, h2, h3⟩ => ⟨_, h1, y, rfl, h2, h3⟩) ?_
      rintro v W' ⟨y, rfl, ho, hf⟩
      exact ⟨_, rfl, hB.trans hf (fun _ h => h.elim), hf, ⟨y, rfl, ho.mono (fun k _ h => Nat.le_trans (by rw [HZ0.out]; exact hB.size) h)⟩, fun _ _ _ _ _ => trivial⟩
    · simp only [List.getElem?_cons_zero, List.getElem?_cons_succ, Option.some.injEq] at ho
      subst ho
      intro a W vs hB hS hE hU
      refine wpG_plain rfl ?_
      obtain ⟨⟨y16, rg16, hg16⟩, e26⟩ := hE 16 26 (by kernel_rfl) (by kernel_rfl)
      have v26 : a.eval (.tmp 26) = tup5 y16 := e26.trans rg16
      clear hE hU
      exact wp_value_inv (w' := W) y16 (op_extract5 rfl v26 rfl) ⟨_, rfl, hB, Fr.refl _ _, ⟨y16, rfl, hg16⟩, fun _ _ _ _ _ => trivial⟩
    · simp only [List.getElem?_cons_zero, List.getElem?_cons_succ, Option.some.injEq] at ho
      subst ho
      intro a W vs hB hS hE hU
      refine wpG_plain rfl ?_
      obtain ⟨⟨y16, rg16, hg16⟩, e26⟩ := hE 16 26 (by kernel_rfl) (by kernel_rfl)
      have v26 : a.eval (.tmp 26) = tup5 y16 := e26.trans rg16
      clear hE hU
      exact wp_value_inv (w' := W) (.int .i64 0) (op_extract5 rfl v26 rfl) ⟨_, rfl, hB, Fr.refl _ _, rfl, fun _ _ _ _ _ => trivial⟩
    · simp only [List.getElem?_cons_zero, List.getElem?_cons_succ, Option.some.injEq] at ho
      subst ho
      intro a W vs hB hS hE hU
      refine wpG_plain rfl ?_
      obtain ⟨⟨y17, rg17, hg17⟩, e27⟩ := hE 17 27 (by kernel_rfl) (by kernel_rfl)
      have v27 : a.eval (.tmp 27) = y17 := e27.trans rg17
      clear hE hU
      exact wp_value_inv (w' := W) y17 (op_assign rfl v27) ⟨_, rfl, hB, Fr.refl _ _, ⟨y17, rfl, hg17⟩, fun _ _ _ _ _ => trivial⟩
    · simp only [List.getElem?_cons_zero, List.getElem?_cons_succ, Option.some.injEq] at ho
      subst ho
      intro a W vs hB hS hE hU
      refine wpG_plain rfl ?_
      obtain ⟨r18, e28⟩ := hE 18 28 (by kernel_rfl) (by kernel_rfl)
      have v28 : a.eval (.tmp 28) = .int .i64 0 := e28.trans r18
      clear hE hU
      exact wp_value_inv (w' := W) (.int .i64 0) (op_assign rfl v28) ⟨_, rfl, hB, Fr.refl _ _, rfl, fun _ _ _ _ _ => trivial⟩
  · intro vs Wa hB0 hR0 hD
    have r3 : vs 20 = .int .i64 0 := hR0 20 (by decide)
    obtain ⟨y, hy, hoy⟩ := hR0 19 (by decide)
    have HO := Lib.hid hoy
    have HB := Lib.hid hB0
    clear hR0 hD hB0 hoy
    simp only [acts, if_true, dstAt, List.getElem?_cons_zero, List.getElem?_cons_succ, Option.bind_some, Act.put, List.setIfInBounds_toArray, List.set_cons_succ, List.set_cons_zero, List.drop_succ_cons, List.drop_nil]
    simp only [r3, hy]
    clear r3 hy
    go_wp2
    go_ret2
    unfold ReadPost
    exact ⟨y, rfl, by rw [HZ0.out] at HO; exact HO.out, HB.out⟩
set_option maxRecDepth 100000 in
theorem jRecords_any {D : Nat → Prop} (w : World) (jn g s l la d : Nat) (h : Hd) (dv : Dv) (R : List (List UInt8)) (hj : JnAt w jn g h l la d false) (hd : DevAt w D g s dv) (hup : dv.down = false) (hw : dv.waits = []) (hs : s ≤ 8192) (ho : 64 + h.used ≤ 64 * s) (hR : cut4 dv.all 64 h.used = recsB R) :
    Calls Tryz.prog 59 #[.pointer (some ⟨jn, 0, none⟩)] w (RecsPost w R) := by
  have hc := jReady_any w jn g h l la d false hj
  have hrd := jRead_any (D := D) w jn g s l la d 1 h.used h dv hj hd hup hw hs (by omega)
  rw [show 64 * 1 = 64 from rfl, hR] at hrd
  have hlen : (recsB R).length ≤ 1000000 := by rw [← hR, cut4_length _ _ _ (by rw [hd.right.all]; exact ho)]; omega
  obtain ⟨_, _, c2, _⟩ := hj.cells
  obtain ⟨x3, hx3⟩ : ∃ x, x = h.used := ⟨_, rfl⟩
  rw [← hx3] at c2 hrd
  have HRD := Lib.hid hrd
  have HL := Lib.hid hlen
  clear hj hd hup hw ho hR hrd hlen hx3
  go_enter Tryz.func59, Tryz.ntmps59
  go_wp2_with (first
    | (go_at_call 100; refine hc.mono ?_; rintro e w1 ⟨rfl, rfl⟩)
    | (go_at_call 101; refine HRD.out.mono ?_; rintro e w2 ⟨v, rfl, ho2, hf2⟩; (have H2 := Lib.hid (And.intro ho2 hf2)); clear ho2 hf2)
    | (go_at_call 57; refine (lRecords_any w2 v R H2.out.1.bytes HL.out).mono ?_; rintro e w3 ⟨v3, rfl, hr3, hf3⟩; (have H3 := Lib.hid (And.intro hr3 (H2.out.2.trans hf3 (fun _ h => h.elim)))); clear hr3 hf3))
  go_ret2
  unfold RecsPost
  exact ⟨v3, rfl, H3.out⟩
set_option maxRecDepth 100000 in
theorem lFormat_any {D : Nat → Prop} (w : World) (g l la d s : Nat) (dv : Dv) (hok : ShOk l la d s) (hd : DevAt w D g s dv) (hk6 : dv.deeds ≤ 900000000) (hw6 : dv.waits.length ≤ 900000) :
    Calls Tryz.prog 26 #[.pointer (some ⟨g, 0, none⟩), .agg #[.int .i64 l, .int .i64 la, .int .i64 d]] w (WritePost D w g s (dv.tell s (Hd.sec ⟨0, 0, 0, 1⟩))) := by
  obtain ⟨W1, hW1⟩ : ∃ W1, W1 = w.alloc (.cells #[.int .i64 l, .int .i64 la, .int .i64 d] 23) := ⟨_, rfl⟩
  have hf1 : Fr (fun _ => False) w W1 := by rw [hW1]; exact (Fr.refl _ _).alloc _
  have HFI := Lib.hid (lFits_any W1 g l la d s dv hok (hd.keep hf1 (fun _ _ _ h => h)))
  have HTL := Lib.hid (fun (W : World) (hf : Fr (fun _ => False) w W) => show Calls Tryz.prog 52 #[.pointer (some ⟨g, 0, none⟩), .agg #[.int .i64 0, .int .i64 0, .int .i64 0, .int .i64 1]] W (WritePost D W g s (dv.tell s (Hd.sec ⟨0, 0, 0, 1⟩))) from lTell_any W g s dv ⟨0, 0, 0, 1⟩ ⟨by decide, by decide, by decide, by decide⟩ (hd.keep hf (fun _ _ _ h => h)) (by omega) hw6)
  have HW := Lib.hid (And.intro hW1 hf1)
  obtain ⟨r, hr⟩ : ∃ r, r = dv.tell s (Hd.sec ⟨0, 0, 0, 1⟩) := ⟨_, rfl⟩
  rw [← hr] at HTL ⊢
  obtain ⟨e1, he1⟩ : ∃ e1, e1 = r.1 := ⟨_, rfl⟩
  have HE := Lib.hid he1
  clear hok hd hk6 hw6 hW1 hf1 hr he1
  go_enter Tryz.func26, Tryz.ntmps26
  go_wp2_with (first
    | (go_at_call 51; rw [← HW.out.1]; refine HFI.out.mono ?_; rintro e w2 ⟨rfl, hf2⟩; (have H2 := Lib.hid (HW.out.2.trans hf2 (fun _ h => h.elim))); clear hf2)
    | (go_at_call 52; refine (HTL.out w2 H2.out).mono ?_; rintro e w3 ⟨rfl, hd3, hf3⟩; rw [← HE.out]; (have H3 := Lib.hid (And.intro hd3 hf3)); clear hd3 hf3))
  go_ret
  unfold WritePost
  exact ⟨by rw [HE.out]; rfl, H3.out.1.mono (fun k _ hk => hk.elim .inl (fun h => .inr (Nat.le_trans H2.out.size h))), (H2.out.mono (fun _ _ h => h.elim)).trans H3.out.2 (fun k h => .inl h)⟩
end Go.Proofs.YtldgcoikbjbjeaaGreat
