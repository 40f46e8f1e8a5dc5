/- Laid together by merge.py: JRTell JHead2 JRowP CurText JRead -/
import Derived.Test.YtabgklcghghoiaaGreatLn11
import Derived.Test.YtabgklcghghoiaaGreatLn13
import Derived.Test.YtabgklcghghoiaaGreatLn14
import Derived.Test.YtabgklcghghoiaaGreatLn16
import Derived.Test.YtabgklcghghoiaaGreatLn15
import Derived.Test.YtabgklcghghoiaaGreatLn2
import Derived.Test.YtabgklcghghoiaaGreatLn12

/- The document's own: sectorOf, tell. -/
namespace Go.Proofs.YtabgklcghghoiaaGreat
open Go.RowKit Go.ChangeShapes
set_option linter.unusedVariables false

set_option maxRecDepth 100000 in
set_option maxHeartbeats 1000000 in
theorem rSectorOf_any (w : World) (h : Hd) (hn : h.Num) :
    Calls Tryz.prog 96 #[.agg #[.int .i64 h.area, .int .i64 h.size, .int .i64 h.used, .int .i64 h.round]] w fun e w' => ∃ v, e = .returned v ∧ OwnB (fun k => w.heap.size ≤ k) w' v h.bytes ∧ Fr (fun _ => False) w w' := by
  obtain ⟨x1, hx1⟩ : ∃ x, x = h.area := ⟨_, rfl⟩
  obtain ⟨x2, hx2⟩ : ∃ x, x = h.size := ⟨_, rfl⟩
  obtain ⟨x3, hx3⟩ : ∃ x, x = h.used := ⟨_, rfl⟩
  obtain ⟨x4, hx4⟩ : ∃ x, x = h.round := ⟨_, rfl⟩
  have HBY := Lib.hid (show (([] ++ numBytes 5 x1) ++ numBytes 5 x2 ++ numBytes 5 x3) ++ numBytes 5 x4 = h.bytes by rw [hx1, hx2, hx3, hx4, Hd.bytes]; simp)
  have HN := Lib.hid (show x1 ≤ 1099511627776 ∧ x2 ≤ 1099511627776 ∧ x3 ≤ 1099511627776 ∧ x4 ≤ 1099511627776 by rw [hx1, hx2, hx3, hx4]; exact ⟨hn.area, hn.size, hn.used, hn.round⟩)
  rw [← hx1, ← hx2, ← hx3, ← hx4]
  obtain ⟨W1, hW1⟩ : ∃ W, W = w.alloc (.cells #[.int .i64 x1, .int .i64 x2, .int .i64 x3, .int .i64 x4] 121) := ⟨_, rfl⟩
  obtain ⟨W2, hW2⟩ : ∃ W, W = W1.alloc (.cells #[.slice none 0 0, .bool false] 160) := ⟨_, rfl⟩
  have hf1 : Fr (fun _ => False) w W1 := by rw [hW1]; exact (Fr.refl _ _).alloc _
  have hf2 : Fr (fun _ => False) w W2 := by rw [hW2]; exact hf1.alloc _
  have hz1 : W1.heap.size = w.heap.size + 1 := by rw [hW1]; simp
  have hz2 : W2.heap.size = w.heap.size + 2 := by rw [hW2]; simp [hz1]
  have hrow : W2.heap[w.heap.size]? = some (.cells #[.int .i64 x1, .int .i64 x2, .int .i64 x3, .int .i64 x4] 121 (0, 0)) := by
    rw [hW2]
    exact ((Fr.refl (fun _ => False) W1).alloc _).heap (by rw [hW1]; exact heap_alloc_new w _) id
  have hm : RMkAt (fun k => w.heap.size + 1 ≤ k) W2 (w.heap.size + 1) [] false := ⟨Nat.le_refl _, 160, .slice none 0 0, by rw [hW2, ← hz1]; exact heap_alloc_new W1 _, OwnB.nil _ _⟩
  have HW := Lib.hid (And.intro hW1 (And.intro hW2 (And.intro hf2 (And.intro hz2 hrow))))
  have HM := Lib.hid hm
  clear hn hx1 hx2 hx3 hx4 hf1 hf2 hz1 hz2 hrow hm hW1 hW2
  go_enter Tryz.func96, Tryz.ntmps96
  go_wp2_with fail
  rw [← HW.out.1, ← HW.out.2.1]
  refine (refNum_yes x1 W2 HN.out.1 (fun k hk => by have := HW.out.2.2.2.1; omega) HM.out (by simp)).mono ?_
  rintro e w3 ⟨rfl, hf3, hm3⟩
  have H3 := Lib.hid (And.intro hf3 (And.intro hm3 (hf3.heap HW.out.2.2.2.2 (by omega))))
  clear hf3 hm3
  obtain ⟨c0, c1, c2, c3⟩ := row4_cells H3.out.2.2
  go_wp2_with fail
  refine (refNum_yes x2 w3 HN.out.2.1 (fun k hk => by have := HW.out.2.2.2.1; have := H3.out.1.size; omega) H3.out.2.1 (by have := (numBytes_len 5 x1).2; simp; omega)).mono ?_
  rintro e w4 ⟨rfl, hf4, hm4⟩
  have H4 := Lib.hid (And.intro (H3.out.1.trans hf4 (fun k h => .inl h)) (And.intro hm4 (hf4.heap H3.out.2.2 (by omega))))
  clear hf4 hm4 c0 c1 c2 c3
  obtain ⟨c0, c1, c2, c3⟩ := row4_cells H4.out.2.2
  go_wp2_with fail
  refine (refNum_yes x3 w4 HN.out.2.2.1 (fun k hk => by have := HW.out.2.2.2.1; have := H4.out.1.size; omega) H4.out.2.1 (by have := (numBytes_len 5 x1).2; have := (numBytes_len 5 x2).2; simp; omega)).mono ?_
  rintro e w5 ⟨rfl, hf5, hm5⟩
  have H5 := Lib.hid (And.intro (H4.out.1.trans hf5 (fun k h => .inl h)) (And.intro hm5 (hf5.heap H4.out.2.2 (by omega))))
  clear hf5 hm5 c0 c1 c2 c3
  obtain ⟨c0, c1, c2, c3⟩ := row4_cells H5.out.2.2
  go_wp2_with fail
  refine (refNum_yes x4 w5 HN.out.2.2.2 (fun k hk => by have := HW.out.2.2.2.1; have := H5.out.1.size; omega) H5.out.2.1 (by have := (numBytes_len 5 x1).2; have := (numBytes_len 5 x2).2; have := (numBytes_len 5 x3).2; simp; omega)).mono ?_
  rintro e w6 ⟨rfl, hf6, hm6⟩
  rw [HBY.out] at hm6
  obtain ⟨_, T, v, hb6, ho6⟩ := hm6
  have H6 := Lib.hid (And.intro (H5.out.1.trans hf6 (fun k h => .inl h)) ho6)
  have q0 := (ref_cells hb6).1
  obtain ⟨ao, cap, rfl⟩ := ho6.len
  clear hf6 ho6 c0 c1 c2 c3 hb6
  go_wp2
  go_ret
  exact ⟨_, rfl, H6.out.2.mono (fun k _ h => by have := h.1; omega), HW.out.2.2.1.trans H6.out.1 (fun k h => .inr (by omega))⟩
theorem Dv.write_full (d : Dv) (s : Nat) (a : Int) (b : List UInt8) (h : b.length ≤ 64) : d.write s a b = d.write s a (full64 b) := by
  have hl := full64_length b h
  unfold Dv.write
  rw [hl, full64_self _ hl]
  by_cases h1 : d.down = true
  · rw [if_pos h1, if_pos h1]
  · rw [if_neg h1, if_neg h1]
    by_cases h2 : a < 0 ∨ (s : Int) ≤ a
    · rw [if_pos (by omega), if_pos (by omega)]
    · rw [if_neg (by omega), if_neg (by omega)]
def RTellPost (D : Nat → Prop) (w : World) (g s : Nat) (r : Int × Dv) (e : Ending) (w' : World) : Prop := e = .returned (.int .i64 r.1) ∧ RefAt w' (More D w) g s r.2 ∧ Fr D w w'
/-- .. of a device that is up, with no fuse. -/
theorem rTell_any {D : Nat → Prop} (w : World) (g s : Nat) (dv : Dv) (h : Hd) (hn : h.Num) (hd : RefAt w D g s dv) (hs : 1 ≤ s) (hup : dv.down = false) (hlf : dv.left = 0) (hk6 : dv.deeds ≤ 990000000) (hw6 : dv.waits.length ≤ 900000) :
    Calls Tryz.prog 76 #[.pointer (some ⟨g, 0, none⟩), .agg #[.int .i64 h.area, .int .i64 h.size, .int .i64 h.used, .int .i64 h.round]] w (RTellPost D w g s (dv.tell s h.sec)) := by
  have hbl := h.bytes_le
  obtain ⟨W1, hW1⟩ : ∃ W1, W1 = w.alloc (.cells #[.int .i64 h.area, .int .i64 h.size, .int .i64 h.used, .int .i64 h.round] 121) := ⟨_, rfl⟩
  have hf1 : Fr (fun _ => False) w W1 := by rw [hW1]; exact (Fr.refl _ _).alloc _
  have hd1 := (hd.mono (E := fun j => D j ∧ j < w.heap.size) (fun j hj h => ⟨h, hj⟩)).keep hf1 (fun _ _ _ h => h)
  have HB := Lib.hid (rSectorOf_any W1 h hn)
  have HD := Lib.hid (And.intro hd1 (And.intro hk6 hw6))
  have HW := Lib.hid (And.intro hW1 hf1)
  have hwf := Dv.write_full dv s 0 h.bytes (by omega)
  have hw0 := Dv.write_ok (d := dv) (s := s) (a := 0) (b := h.sec) hup (by rw [h.sec_length]; omega) (by omega)
  obtain ⟨r, hr⟩ : ∃ r, r = (dv.write s 0 h.sec).2 := ⟨_, rfl⟩
  have hr1 : (dv.write s 0 h.bytes) = (0, r) := by rw [hwf, hr, show full64 h.bytes = h.sec from rfl, hw0]
  have hrs : r.deeds ≤ dv.deeds + 1 ∧ r.waits.length ≤ dv.waits.length + 1 := by rw [hr]; exact dv.write_small s 0 h.sec
  have HSM := Lib.hid hrs
  obtain ⟨x1, hx1⟩ : ∃ x, x = h.area := ⟨_, rfl⟩
  obtain ⟨x2, hx2⟩ : ∃ x, x = h.size := ⟨_, rfl⟩
  obtain ⟨x3, hx3⟩ : ∃ x, x = h.used := ⟨_, rfl⟩
  obtain ⟨x4, hx4⟩ : ∃ x, x = h.round := ⟨_, rfl⟩
  rw [← hx1, ← hx2, ← hx3, ← hx4] at HW HB ⊢
  have hwr := fun (w1 : World) (v : Value) (hb : BytesIn (fun k => W1.heap.size ≤ k ∧ k < w1.heap.size) w1 v h.bytes) (hf : Fr (fun _ => False) W1 w1) => bWrite w1 g s dv 0 v h.bytes (by have := HD.out.2.1; omega) (by have := HD.out.2.2; omega) hb (fun k h1 => ⟨h1.2, fun h2 => by have := h2.2; have := HW.out.2.size; omega⟩) (HD.out.1.keep hf (fun _ _ _ h => h))
  rw [hr1] at hwr
  have HWR := Lib.hid hwr
  have htl : dv.tell s h.sec = r.flush := by
    unfold Dv.tell
    rw [← hr, hw0, if_pos rfl]
  rw [htl]
  obtain ⟨r2, hr2⟩ : ∃ r2, r2 = r.flush := ⟨_, rfl⟩
  rw [← hr2]
  obtain ⟨e2, he2⟩ : ∃ e, e = r2.1 := ⟨_, rfl⟩
  have HR2 := Lib.hid (And.intro hr2 he2)
  clear hd hk6 hw6 hf1 hd1 hW1 hr hwr hx1 hx2 hx3 hx4 hr1 hw0 hwf hrs htl hr2 he2 hup hlf hbl
  go_enter Tryz.func76, Tryz.ntmps76
  go_wp2_with (first
    | (go_at_call 96; rw [← HW.out.1]; refine HB.out.mono ?_; rintro e w1 ⟨v, rfl, ho1, hf1⟩; (have H1 := Lib.hid (And.intro ho1 hf1)); clear ho1 hf1)
    | (go_at_call 95; refine (HWR.out w1 v (H1.out.1.bytes.mono (fun k hk h => ⟨h, hk⟩)) H1.out.2).mono ?_; rintro e w2 ⟨rfl, hd2, hf2⟩; (have H2 := Lib.hid (And.intro hd2 hf2)); clear hd2 hf2)
    | (go_at_call 97; refine (bFlush w2 g s r (by have := HSM.out.1; have := HD.out.2.1; omega) (by have := HSM.out.2; have := HD.out.2.2; omega) H2.out.1).mono ?_; rintro e w3 ⟨rfl, hd3, hf3⟩; (have H3 := Lib.hid (And.intro hd3 hf3)); clear hd3 hf3))
  go_ret
  unfold RTellPost
  have s1 := HW.out.2.size
  have s2 := H1.out.2.size
  have s3 := H2.out.2.size
  rw [HR2.out.1]
  refine ⟨rfl, H3.out.1.mono fun k _ hk => ?_, ((HW.out.2.trans H1.out.2 (fun _ h => h.elim)).mono (T := D) (fun _ _ h => h.elim)).trans (H2.out.2.trans (T := fun k => (D k ∧ k < w.heap.size) ∨ w1.heap.size ≤ k) H3.out.2 (fun k hk => hk.elim (fun h => .inl h) (fun h => .inr h))) (fun k hk => .inl hk.1)⟩
  rcases hk with (hk | hk) | hk
  · exact .inl hk.1
  · exact .inr (by omega)
  · exact .inr (by omega)
end Go.Proofs.YtabgklcghghoiaaGreat

/- log's own heads: appended, switched, within. -/
namespace Go.Proofs.YtabgklcghghoiaaGreat
open Go.RowKit Go.ChangeShapes
set_option linter.unusedVariables false

theorem lAppended_any (w : World) (x1 x2 x3 x4 m : Nat) (h3 : x3 ≤ 1000000) (h4 : x4 ≤ 1099511627776) (hm : m ≤ 2000000) :
    Calls Tryz.prog 50 #[.agg #[.int .i64 x1, .int .i64 x2, .int .i64 x3, .int .i64 x4], .int .i64 m] w fun e w' => e = .returned (.agg #[.int .i64 x1, .int .i64 x2, .int .i64 ((x3 + m : Nat) : Int), .int .i64 ((x4 + 1 : Nat) : Int)]) ∧ Fr (fun _ => False) w w' := by
  have e1 : ((x3 + m : Nat) : Int) = (x3 : Int) + (m : Int) := by push_cast; rfl
  have e2 : ((x4 + 1 : Nat) : Int) = (x4 : Int) + 1 := by push_cast; rfl
  rw [e1, e2]
  clear e1 e2
  go_enter Tryz.func50, Tryz.ntmps50
  go_wp2
  refine bodyPost_ret (v := .agg #[.int .i64 x1, .int .i64 x2, .int .i64 ((x3 : Int) + (m : Int)), .int .i64 ((x4 : Int) + 1)]) (by simp [results, Tryz.results50, go_sem]) rfl ⟨rfl, ?_⟩
  exact ((Fr.refl _ w).alloc _).alloc _
theorem lSwitched_any (w : World) (x1 x2 x3 x4 m : Nat) (h1 : x1 ≤ 1) (h4 : x4 ≤ 1099511627776) (hm : m ≤ 2000000) :
    Calls Tryz.prog 45 #[.agg #[.int .i64 x1, .int .i64 x2, .int .i64 x3, .int .i64 x4], .int .i64 m] w fun e w' => e = .returned (.agg #[.int .i64 ((1 - x1 : Nat) : Int), .int .i64 m, .int .i64 0, .int .i64 ((x4 + 1 : Nat) : Int)]) ∧ Fr (fun _ => False) w w' := by
  have e1 : ((1 - x1 : Nat) : Int) = 1 - (x1 : Int) := by omega
  have e2 : ((x4 + 1 : Nat) : Int) = (x4 : Int) + 1 := by push_cast; rfl
  rw [e1, e2]
  clear e1 e2
  go_enter Tryz.func45, Tryz.ntmps45
  go_wp2
  refine bodyPost_ret (v := .agg #[.int .i64 (1 - (x1 : Int)), .int .i64 m, .int .i64 0, .int .i64 ((x4 : Int) + 1)]) (by simp [results, Tryz.results45, go_sem]) rfl ⟨rfl, ?_⟩
  exact ((Fr.refl _ w).alloc _).alloc _
theorem lWithin_any (w : World) (h : Hd) (l la d : Nat) (hl : l ≤ 8192) (hla : la ≤ 8192) (hr : h.Right l la) :
    Calls Tryz.prog 33 #[.agg #[.int .i64 h.area, .int .i64 h.size, .int .i64 h.used, .int .i64 h.round], .agg #[.int .i64 l, .int .i64 la, .int .i64 d]] w fun e w' => e = .returned (.bool true) ∧ Fr (fun _ => False) w w' := by
  have HRM := Lib.hid (fun W => lRoom_any W h l la d hl hr.used)
  obtain ⟨x2, hx2⟩ : ∃ x, x = h.size := ⟨_, rfl⟩
  obtain ⟨x3, hx3⟩ : ∃ x, x = h.used := ⟨_, rfl⟩
  obtain ⟨m, hm⟩ : ∃ m, m = 64 * l - h.used := ⟨_, rfl⟩
  have h2 : (x2 : Int) ≤ (la : Int) * 64 := by rw [hx2]; have := hr.size; omega
  rw [← hm, ← hx2, ← hx3] at HRM
  rw [← hx2, ← hx3]
  have hm0 : (0 : Int) ≤ (m : Int) := by omega
  clear hr hx2 hx3 hm
  go_enter Tryz.func33, Tryz.ntmps33
  go_wp2_with (go_at_call 42; refine (HRM.out _).mono ?_; rintro e w1 ⟨rfl, hf1⟩; (have H1 := Lib.hid hf1); clear hf1)
  go_ret
  exact ⟨rfl, (((Fr.refl _ w).alloc _).alloc _).trans H1.out (fun _ h => h.elim)⟩
end Go.Proofs.YtabgklcghghoiaaGreat

/- Rows of byte slices: what reads as one, what the call makes of them (out of Take, RowL, EndsLib, for seats without hash). -/
namespace Go.Proofs.YtabgklcghghoiaaGreat
open Go.RowKit Go.ChangeShapes
set_option linter.unusedVariables false

theorem Tryz.infoS5 : (Tryz.prog.info? 37).map (fun i => (i.zero, i.size, i.bytes)) = some (some (.slice none 0 0), 1, 24) := by kernel_rfl
/-- A slice value that reads as a row of rows of bytes. -/
def RowsIn (F : Nat → Prop) (w : World) (v : Value) (P : List (List UInt8)) : Prop :=
  ∃ ao cap, v = .slice ao P.length cap ∧ P.length ≤ cap ∧ cap ≤ 9223372036854775807 ∧ (∀ X ∈ P, X.length ≤ 140737488351232) ∧
    (P ≠ [] → ∃ b off, ao = some ⟨b, off, none⟩ ∧ F b ∧ ∀ i (h : i < P.length), ∃ x, w.cell? ⟨b, off + i, none⟩ = some x ∧ BytesIn F w x P[i])
theorem RowsIn.keep {F S : Nat → Prop} {w w' : World} {v : Value} {P : List (List UInt8)} (h : RowsIn F w v P) (hf : Fr S w w') (hd : ∀ k, k < w.heap.size → F k → ¬ S k) : RowsIn F w' v P := by
  obtain ⟨ao, cap, hv, h1, h2, h3, h4⟩ := h
  refine ⟨ao, cap, hv, h1, h2, h3, fun hl => ?_⟩
  obtain ⟨b, off, ha, hF, hi⟩ := h4 hl
  refine ⟨b, off, ha, hF, fun i h => ?_⟩
  obtain ⟨x, hx, hb⟩ := hi i h
  exact ⟨x, hf.cell hx (hd b (World.block_lt_of_cell? _ _ hx) hF), hb.keep hf hd⟩
/-- append of one value onto a row that the call owns. -/
theorem run_append_val (z : Nat) (w : World) (ty : TypeId) (v y : Value) (vs : List Value) (h : Nat) (hown : w.ownsRow z 37 1 v vs.length vs) (hcell : w.cell? ⟨h, 0, none⟩ = some y) (hy : y.oneCell' = true) (hk : vs.length ≤ 1000000) (hz : z ≤ w.heap.size) :
    ∃ v' w', (Builtin.append_ #[38, 38] ty #[v, .slice (some ⟨h, 0, none⟩) 1 1]).run Tryz.prog w = .ok v' w' ∧ w'.ownsRow z 37 1 v' (vs.length + 1) (vs ++ [y]) ∧ w.grownBy w' v.ownBlock ∧ (v'.ownBlock = v.ownBlock ∨ v'.ownBlock = some w.heap.size) := by
  obtain ⟨i0, hi, hz0, hz1, hz2⟩ := info_parts Tryz.infoS5
  obtain ⟨v', w', hr, h2, h3, h4, h5⟩ := run_append_own_at (P := Tryz.prog) w z 38 ty 37 i0 (.slice none 0 0) 1 24 Tryz.underlying38 hi hz0 hz1 hz2 rfl (by decide) v vs.length _ hown ⟨h, 0, none⟩ 1 1 [y]
    rfl (by
      intro j u hu
      match j, hu with
      | 0, hu =>
        simp at hu
        subst hu
        simpa [Addr.add] using hcell) (by simpa using hy) (by unfold maxLen; omega) (by omega) hz
  exact ⟨v', w', hr, h2, h3, h5⟩
theorem wpList_append_val (z : Nat) (w : World) {ops : Array Oper} {rest : List Oper} {o : Oper} {a : Act} {Q : Exit → Act → World → Prop} (hgd : o.guard = none) (s x : Operand)
    (hop : o.op = Op.call { callee := Callee.builtin Builtin.append, args := #[s, x], argTypes := #[38, 38] })
    (v y : Value) (vs : List Value) (h : Nat) (hs : a.eval s = v) (hx : a.eval x = .slice (some ⟨h, 0, none⟩) 1 1) (hown : w.ownsRow z 37 1 v vs.length vs) (hcell : w.cell? ⟨h, 0, none⟩ = some y) (hy : y.oneCell' = true) (hk : vs.length ≤ 1000000) (hz : z ≤ w.heap.size)
    (hK : ∀ v' w', w'.ownsRow z 37 1 v' (vs.length + 1) (vs ++ [y]) → w.grownBy w' v.ownBlock → (v'.ownBlock = v.ownBlock ∨ v'.ownBlock = some w.heap.size) → wpList Tryz.prog ops Q rest (a.put o.dst v') w') : wpList Tryz.prog ops Q (o :: rest) a w := by
  refine wpList_plain hgd fun K hK' => ?_
  subst hs
  obtain ⟨v', w', hr, h1, h2, h3⟩ := run_append_val z w o.type _ _ vs h hown hcell hy hk hz
  unfold Oper.wp
  simp [execOp, hop, resolve, invoke, builtin, hx, hr, Result.andThen]
  exact hK' _ _ (hK v' w' h1 h2 h3)

theorem ownsRow_keep {S : Nat → Prop} {w w' : World} {z n : Nat} {e : TypeId} {v : Value} {vs : List Value} (h : w.ownsRow z e 1 v n vs) (hf : Fr S w w') (hd : ∀ g, v.ownBlock = some g → ¬ S g) : w'.ownsRow z e 1 v n vs := by
  refine ⟨h.1, ?_⟩
  rcases h.2 with h1 | ⟨g, cap, cur, hv, hb, hg, r⟩
  · exact .inl h1
  · exact .inr ⟨g, cap, cur, hv, hb, hf.heap hg (hd g (by rw [hv]; rfl)), r⟩
theorem ownsRow_form {w : World} {z n : Nat} {v : Value} {vs : List Value} (h : w.ownsRow z 37 1 v n vs) : ∃ ao c, v = .slice ao n c ∧ n ≤ c ∧ c ≤ 9223372036854775807 ∧ (0 < n → ∃ g, ao = some ⟨g, 0, none⟩ ∧ z ≤ g ∧ g < w.heap.size ∧ ∀ j (hj : j < vs.length), w.cell? ⟨g, j, none⟩ = some vs[j]) := by
  have hl : vs.length = n := by simpa using h.1
  rcases h.2 with ⟨rfl, h0⟩ | ⟨g, cap, cur, rfl, hb, hg, hnc, hcm, hcs, ht⟩
  · exact ⟨none, 0, by rw [h0], by omega, by omega, fun hn => by omega⟩
  · unfold maxLen at hcm
    exact ⟨_, cap, rfl, hnc, by omega, fun _ => ⟨g, rfl, hb, lt_of_block hg, fun j hj => by
      rw [World.ownsRow.cellAt h j (by omega), List.getElem?_eq_getElem hj]⟩⟩

/-- Rows that are made one by one. -/
def MadeAt (z : Nat) (w : World) (v : Value) (P : List (List UInt8)) : Prop :=
  ∃ vs : List Value, vs.length = P.length ∧ w.ownsRow z 37 1 v P.length vs ∧ ∀ i (h1 : i < vs.length) (h2 : i < P.length), BytesIn (fun k => z ≤ k ∧ v.ownBlock ≠ some k) w vs[i] P[i]
theorem MadeAt.nil (z : Nat) (w : World) : MadeAt z w (.slice none 0 0) [] := ⟨[], rfl, World.ownsRow_nil _ _ _ _, fun i h => by simp at h⟩
theorem MadeAt.snoc {z : Nat} {w w2 w5 : World} {v v5 : Value} {P : List (List UInt8)} {vs : List Value} {y : Value} {L : List UInt8} (hl : vs.length = P.length)
    (hi : ∀ i (h1 : i < vs.length) (h2 : i < P.length), BytesIn (fun k => z ≤ k ∧ v.ownBlock ≠ some k) w vs[i] P[i])
    (hf : Fr (fun _ => False) w w2) (hg : BytesIn (fun k => z ≤ k ∧ v.ownBlock ≠ some k) w2 y L)
    (ho : w5.ownsRow z 37 1 v5 (vs.length + 1) (vs ++ [y])) (hgr : w2.grownBy w5 v.ownBlock) (hb : v5.ownBlock = v.ownBlock ∨ v5.ownBlock = some w2.heap.size) : MadeAt z w5 v5 (P ++ [L]) := by
  have hf5 : Fr (fun k => v.ownBlock = some k) w2 w5 := (Fr.refl _ w2).grown hgr (fun k hk => .inl hk)
  have hne : ∀ k, k < w2.heap.size → z ≤ k ∧ v.ownBlock ≠ some k → z ≤ k ∧ v5.ownBlock ≠ some k := fun k hk h1 => ⟨h1.1, fun h2 => by
    rcases hb with hb | hb
    · exact h1.2 (by rw [← hb, h2])
    · rw [hb] at h2; injection h2 with h2; omega⟩
  have go : ∀ (y : Value) (L : List UInt8), BytesIn (fun k => z ≤ k ∧ v.ownBlock ≠ some k) w2 y L → BytesIn (fun k => z ≤ k ∧ v5.ownBlock ≠ some k) w5 y L := fun y L h =>
    ((h.mono (G := fun k => (z ≤ k ∧ v.ownBlock ≠ some k) ∧ k < w2.heap.size) (fun k hk h => ⟨h, hk⟩)).keep hf5 (fun k hk h1 h2 => h1.1.2 h2)).mono (fun k hk h => hne k h.2 h.1)
  refine ⟨vs ++ [y], by simp [hl], by rw [List.length_append, ← hl]; exact ho, fun i h1 h2 => ?_⟩
  by_cases h : i < vs.length
  · have ep : (P ++ [L])[i] = P[i]'(by omega) := List.getElem_append_left (by omega)
    rw [List.getElem_append_left h, ep]
    exact go _ _ ((hi i h (by omega)).keep hf (fun _ _ _ h => h))
  · have h1' : i = vs.length := by simp at h1; omega
    subst h1'
    have ep : (P ++ [L])[vs.length] = L := by rw [List.getElem_append_right (by omega)]; simp [hl]
    rw [ep]
    simp only [List.getElem_append_right (Nat.le_refl _), Nat.sub_self, List.getElem_cons_zero]
    exact go _ _ hg
theorem MadeAt.keep {z : Nat} {w w' : World} {v : Value} {P : List (List UInt8)} (h : MadeAt z w v P) (hf : Fr (fun _ => False) w w') : MadeAt z w' v P := by
  obtain ⟨vs, hl, ho, hi⟩ := h
  exact ⟨vs, hl, ownsRow_keep ho hf (fun _ _ h => h), fun i h1 h2 => (hi i h1 h2).keep hf (fun _ _ _ h => h)⟩
theorem MadeAt.rows {z : Nat} {w : World} {v : Value} {P : List (List UInt8)} (h : MadeAt z w v P) (hP : ∀ X ∈ P, X.length ≤ 140737488351232) : RowsIn (fun k => k < w.heap.size) w v P := by
  obtain ⟨vs, hl, ho, hi⟩ := h
  obtain ⟨ao, c, rfl, h1, h2, h3⟩ := ownsRow_form ho
  refine ⟨ao, c, rfl, h1, h2, hP, fun hne => ?_⟩
  obtain ⟨g, rfl, hg1, hg2, hc⟩ := h3 (List.length_pos_iff.2 hne)
  exact ⟨g, 0, rfl, hg2, fun i hil => ⟨vs[i]'(by omega), by rw [Nat.zero_add]; exact hc i (by omega), (hi i (by omega) hil).mono (fun k hk h => hk)⟩⟩
end Go.Proofs.YtabgklcghghoiaaGreat

/- Contracts: code.Cursor's Text, Left, End. -/
namespace Go.Proofs.YtabgklcghghoiaaGreat
open Go.RowKit Go.ChangeShapes
set_option linter.unusedVariables false

/-- What Text tells, and what it leaves. -/
def curText (most : Int) (X : List UInt8) (e : Int) : List UInt8 × List UInt8 × Int :=
  if e = 0 then
    if numS X = 0 then ([], [], 4)
    else if most < numV X then ([], [], 3)
    else if 1048576 < numV X then ([], [], 4)
    else curRaw (numV X) (X.drop (numS X)) 0
  else ([], X, e)

theorem curNum_none {X : List UInt8} (h : numS X = 0) : curNum 1099511627776 X 0 = (0, [], 4) := by simp [curNum, h]
theorem curNum_some {X : List UInt8} (h : numS X ≠ 0) : curNum 1099511627776 X 0 = ((numV X : Int), X.drop (numS X), 0) := by
  have := numV_le X
  rw [curNum, if_pos rfl, if_neg (by omega)]

set_option maxHeartbeats 1000000 in
theorem curText_any {F : Nat → Prop} {b : Nat} {X : List UInt8} {e : Int} (most : Int) (w : World) (h : CurAt F w b X e) (hX : X.length ≤ 140737488355328) :
    Calls Tryz.prog 66 #[.pointer (some ⟨b, 0, none⟩), .int .i64 most] w fun r w' => ∃ v, r = .returned v ∧ Fr (· = b) w w' ∧ OwnB (fun k => w.heap.size ≤ k) w' v (curText most X e).1 ∧ CurAt F w' b (curText most X e).2.1 (curText most X e).2.2 := by
  by_cases he : e = 0
  · subst he
    by_cases hs : numS X = 0
    · have hR : curText most X 0 = ([], [], 4) := by simp [curText, hs]
      have hN := curNum_any 1099511627776 w h
      rw [curNum_none hs] at hN
      rw [hR]
      clear hs hR
      go_enter Tryz.func66, Tryz.ntmps66
      go_wp2_with (first
        | (go_at_call 63; refine hN.mono ?_; rintro e w1 ⟨rfl, hfr, hc1⟩)
        | (go_at_call 83; refine (whole_no _ (by assumption) (by decide)).mono ?_; rintro e w' ⟨rfl, rfl⟩))
      go_ret
      exact ⟨_, rfl, hfr, OwnB.nil _ _, hc1⟩
    · have hN := curNum_any 1099511627776 w h
      rw [curNum_some hs] at hN
      have hl : (X.drop (numS X)).length ≤ 140737488355328 := by rw [List.length_drop]; omega
      have hv := numV_le X
      obtain ⟨n, hn⟩ : ∃ n, n = numV X := ⟨_, rfl⟩
      by_cases hm : most < numV X
      · have hR : curText most X 0 = ([], [], 3) := by simp [curText, hs, hm]
        rw [hR]
        rw [← hn] at hm hN hv
        clear hs hn hR
        have HN := Lib.hid hN
        clear hN
        go_enter Tryz.func66, Tryz.ntmps66
        go_wp2_with (first
          | (go_at_call 63; refine HN.out.mono ?_; rintro e w1 ⟨rfl, hfr, hc1⟩)
          | (go_at_call 83; refine (whole_yes _ (by assumption)).mono ?_; rintro e w' ⟨rfl, rfl⟩)
          | (go_at_call 85; refine (curfail_any 3 _ (by assumption)).mono ?_; rintro e w2 ⟨rfl, hfr2, hc2⟩))
        go_ret
        exact ⟨_, rfl, hfr.trans hfr2 (fun i hi => .inl hi), OwnB.nil _ _, hc2⟩
      · by_cases hbig : 1048576 < numV X
        · have hR : curText most X 0 = ([], [], 4) := by simp [curText, hs, hm, hbig]
          rw [hR]
          rw [← hn] at hm hN hv hbig
          clear hs hn hR
          have HN := Lib.hid hN
          clear hN
          go_enter Tryz.func66, Tryz.ntmps66
          go_wp2_with (first
            | (go_at_call 63; refine HN.out.mono ?_; rintro e w1 ⟨rfl, hfr, hc1⟩)
            | (go_at_call 83; refine (whole_yes _ (by assumption)).mono ?_; rintro e w' ⟨rfl, rfl⟩)
            | (go_at_call 85; refine (curfail_any 4 _ (by assumption)).mono ?_; rintro e w2 ⟨rfl, hfr2, hc2⟩))
          go_ret
          exact ⟨_, rfl, hfr.trans hfr2 (fun i hi => .inl hi), OwnB.nil _ _, hc2⟩
        · have hR : curText most X 0 = curRaw (numV X) (X.drop (numS X)) 0 := by simp [curText, hs, hm, hbig]
          rw [hR]
          rw [← hn] at hm hN hv hbig ⊢
          clear hs hn hR
          obtain ⟨Y, hY⟩ : ∃ Y, Y = X.drop (numS X) := ⟨_, rfl⟩
          rw [← hY] at hN hl ⊢
          clear hY hX h
          have HN := Lib.hid hN
          clear hN
          go_enter Tryz.func66, Tryz.ntmps66
          go_wp2_with (first
            | (go_at_call 63; refine HN.out.mono ?_; rintro e w1 ⟨rfl, hfr, hc1⟩)
            | (go_at_call 83; refine (whole_yes _ (by assumption)).mono ?_; rintro e w' ⟨rfl, rfl⟩)
            | (go_at_call 86; refine (curRaw_any (n : Int) _ (by assumption) hl (by omega) (by omega)).mono ?_; rintro e w2 ⟨v, rfl, hfr2, hown, hc2⟩))
          go_ret
          exact ⟨_, rfl, hfr.trans hfr2 (fun i hi => .inl hi), hown.mono (fun k _ h => Nat.le_trans hfr.size h), hc2⟩
  · have hR : curText most X e = ([], X, e) := by simp [curText, he]
    have hN := curNum_any 1099511627776 w h
    rw [show curNum 1099511627776 X e = (0, X, e) by simp [curNum, he]] at hN
    rw [hR]
    have HN := Lib.hid hN
    clear hN hR
    go_enter Tryz.func66, Tryz.ntmps66
    go_wp2_with (first
      | (go_at_call 63; refine HN.out.mono ?_; rintro e w1 ⟨rfl, hfr, hc1⟩)
      | (go_at_call 83; refine (whole_no _ (by assumption) he).mono ?_; rintro e w' ⟨rfl, rfl⟩))
    go_ret
    exact ⟨_, rfl, hfr, OwnB.nil _ _, hc1⟩

/-- How many bytes are left. -/
def curLeft (X : List UInt8) (e : Int) : Int := if e = 0 then X.length else 0
theorem curLeft_any {F : Nat → Prop} {b : Nat} {X : List UInt8} {e : Int} (w : World) (h : CurAt F w b X e) :
    Calls Tryz.prog 65 #[.pointer (some ⟨b, 0, none⟩)] w fun r w' => r = .returned (.int .i64 (curLeft X e)) ∧ w = w' := by
  by_cases he : e = 0
  · subst he
    obtain ⟨v, c0, c1, c2, f0, f1, hb⟩ := h.facts
    obtain ⟨ao, cap, rfl, hl, hm, _⟩ := hb
    have hR : curLeft X 0 = X.length := rfl
    rw [hR]
    clear hR
    go_enter Tryz.func65, Tryz.ntmps65
    go_wp2_with (go_at_call 83; refine (whole_yes _ h).mono ?_; rintro e w' ⟨rfl, rfl⟩)
    go_ret
    exact ⟨rfl, rfl⟩
  · have hR : curLeft X e = 0 := by simp [curLeft, he]
    rw [hR]
    go_enter Tryz.func65, Tryz.ntmps65
    go_wp2_with (go_at_call 83; refine (whole_no _ h he).mono ?_; rintro e w' ⟨rfl, rfl⟩)
    go_ret
    exact ⟨rfl, rfl⟩

/-- The error at the end. -/
def curEnd (X : List UInt8) (e : Int) : Int := if e = 0 ∧ X ≠ [] then 4 else e
theorem curEnd_any {F : Nat → Prop} {b : Nat} {X : List UInt8} {e : Int} (w : World) (h : CurAt F w b X e) :
    Calls Tryz.prog 67 #[.pointer (some ⟨b, 0, none⟩)] w fun r w' => r = .returned (.int .i64 (curEnd X e)) ∧ w = w' := by
  obtain ⟨v, c0, c1, c2, f0, f1, hb⟩ := h.facts
  obtain ⟨ao, cap, rfl, hl, hm, _⟩ := hb
  by_cases he : e = 0
  · subst he
    have he' : ((0 : Int) == 0) = true := rfl
    by_cases hX : X = []
    · subst hX
      have hR : curEnd [] 0 = 0 := rfl
      rw [hR]
      clear hR
      go_enter Tryz.func67, Tryz.ntmps67
      go_wp2_with (go_at_call 87; refine (isCursor_any _ h).mono ?_; rintro e w' ⟨rfl, rfl⟩)
      go_ret
      exact ⟨rfl, rfl⟩
    · have hR : curEnd X 0 = 4 := by simp [curEnd, hX]
      rw [hR]
      have hp : 0 < X.length := List.length_pos_iff.2 hX
      clear hR hX
      go_enter Tryz.func67, Tryz.ntmps67
      go_wp2_with (go_at_call 87; refine (isCursor_any _ h).mono ?_; rintro e w' ⟨rfl, rfl⟩)
      go_ret
      exact ⟨rfl, rfl⟩
  · have hR : curEnd X e = e := by simp [curEnd, he]
    rw [hR]
    have he' : (e == 0) = false := by simpa using he
    clear he hR
    go_enter Tryz.func67, Tryz.ntmps67
    go_wp2_with (go_at_call 87; refine (isCursor_any _ h).mono ?_; rintro e w' ⟨rfl, rfl⟩)
    go_ret
    exact ⟨rfl, rfl⟩

end Go.Proofs.YtabgklcghghoiaaGreat

/- Contract: log.read: so many bytes from a sector's begin on. -/
namespace Go.Proofs.YtabgklcghghoiaaGreat
open Go.RowKit Go.ChangeShapes
set_option linter.unusedVariables false

theorem cut4_sec (K : List UInt8) (q k n : Nat) (hn : n ≤ 64) : cut4 K (64 * q) (64 * k + n) = cut4 K (64 * q) (64 * k) ++ (secAt K (q + k)).take n := by
  rw [cut4, cut4, List.take_add, List.drop_drop, secAt, List.take_take, Nat.min_eq_left hn, Nat.mul_add]
theorem op_slice_hi5 (w : World) (g cap n : Nat) (hn : n ≤ 64) (hc : 64 ≤ cap) : (Instr.slice 37 (.slice (some ⟨g, 0, none⟩) 64 cap) none (some (.int .i64 (n : Int))) none).run Tryz.prog w = .ok (.slice (some ⟨g, 0, none⟩) n cap) w := by
  have hs : ∀ w, (sizeOf 5).run Tryz.prog w = .ok 1 w := fun w => by kernel_rfl
  have h : n ≤ cap := by omega
  simp [Instr.slice, run_underlying Tryz.underlying37, Instr.sliceBounds, run_sliceBound, hs, h, Addr.add]
def lenOf5 : Value → Nat
  | .slice _ n _ => n
  | _ => 0
/-- What read tells. -/
def ReadPost (w : World) (L : List UInt8) (e : Ending) (w' : World) : Prop := ∃ v, e = .returned (.tuple #[v, .int .i64 0]) ∧ OwnB (fun k => w.heap.size ≤ k) w' v L ∧ Fr (fun _ => False) w w'
set_option maxRecDepth 100000 in
set_option maxHeartbeats 4000000 in
theorem lRead_any {D : Nat → Prop} (w : World) (g s q n : Nat) (dv : Dv) (hd : DevAt w D g s dv) (hup : dv.down = false) (hw : dv.waits = []) (hs : s ≤ 8192) (ho : 64 * q + n ≤ 64 * s) :
    Calls Tryz.prog 34 #[.pointer (some ⟨g, 0, none⟩), .int .i64 q, .int .i64 n] w (ReadPost w (cut4 dv.all (64 * q) n)) := by
  have hK := hd.right.all
  have HD := Lib.hid (And.intro hd (And.intro hK (And.intro hup hw)))
  have HO := Lib.hid ho
  have hq : q ≤ 8192 := by omega
  have hn : n ≤ 524288 := by omega
  clear hd hK hup hw ho
  go_enter Tryz.func34, Tryz.ntmps34
  go_wp2_with fail
  go_loopw [1, 8] (fun qv bv wr => ∃ (x k len : Nat), qv = .int .i64 x ∧ x ≤ 100000 ∧ len ≤ n ∧ (len < n → len = 64 * k) ∧ (∃ ao cap, bv = .slice ao len cap) ∧ Hid (x = q + k ∧ OwnB (fun j => w.heap.size ≤ j) wr bv (cut4 dv.all (64 * q) len) ∧ Fr (fun _ => False) w wr)) (fun _ bv _ => n - lenOf5 bv)
  case atStart => exact ⟨q, 0, 0, rfl, by omega, by omega, fun _ => rfl, ⟨none, 0, rfl⟩, Lib.hid ⟨rfl, by rw [cut4_zero]; exact OwnB.nil _ _, Fr.refl _ _⟩⟩
  case round =>
    obtain ⟨x, k, len, rfl, hx, hl, hlk, ⟨ao, cap, rfl⟩, hR⟩ := hrel
    by_cases hlt : len < n
    · have hlk' := hlk hlt
      have hxs : x < s := by have := hR.out.1; have := HO.out; omega
      obtain ⟨m, hm⟩ : ∃ m, m = min 64 (n - len) := ⟨_, rfl⟩
      have hrd := aRead wr g s dv (x : Int) (by rw [HD.out.2.2.2]; decide) (HD.out.1.keep hR.out.2.2 (fun _ _ _ h => h))
      rw [Dv.read_yes HD.out.2.2.1 HD.out.2.2.2 hxs] at hrd
      have hsl := secAt_length dv.all s x HD.out.2.1 hxs
      have hmb : m ≤ 64 := by omega
      have hcut : cut4 dv.all (64 * q) len ++ (secAt dv.all x).take m = cut4 dv.all (64 * q) (len + m) := by
        rw [hR.out.1, hlk', cut4_sec _ _ _ _ hmb]
      obtain ⟨S, hS⟩ : ∃ S, S = secAt dv.all x := ⟨_, rfl⟩
      rw [← hS] at hrd hsl hcut
      have hml : (S.take m).length = m := by rw [List.length_take]; omega
      have hLl : (cut4 dv.all (64 * q) len).length = len := cut4_length _ _ _ (by rw [HD.out.2.1]; have := HO.out; omega)
      have HRD := Lib.hid hrd
      have HSL := Lib.hid (And.intro hsl (And.intro hml (And.intro hcut hLl)))
      have HLN := Lib.hid (show (cut4 dv.all (64 * q) len).length + (S.take m).length ≤ 140737488355328 by rw [hLl, hml]; omega)
      have HM := Lib.hid (And.intro hm (And.intro hlk' hmb))
      have hx1 : (x : Int) + 1 ≤ 200000 := by omega
      clear hsl hml hcut hLl hS hlk hrd
      obtain ⟨t, ht⟩ : ∃ t, t = n - len := ⟨_, rfl⟩
      have hti : (n : Int) - (len : Int) = (t : Int) := by omega
      have hmin : min (64 : Int) (t : Int) = (m : Int) := by omega
      clear hm hmb hlk' ht
      go_wp2_with (first
        | (go_at_call 31; refine HRD.out.mono ?_; rintro e w1 ⟨v, rfl, ht, hf1⟩; (have HT := Lib.hid ht.bytes); obtain ⟨g1, T, C, capr, rfl, hg1, hC, hCs, hc64, hcm, hCL⟩ := ht.block HSL.out.1; (have hsl5 := fun W : World => op_slice_hi5 W g1 capr m HM.out.2.2 hc64); (have HB5 := Lib.hid (show BytesIn (fun j => wr.heap.size ≤ j) w1 (.slice (some ⟨g1, 0, none⟩) m capr) (S.take m) from ((HT.out.mono (fun _ _ h => h))).take m (by rw [HSL.out.1]; exact HM.out.2.2))); (have HO1 := Lib.hid (hR.out.2.1.keep hf1 (fun _ _ _ h => h))); (have HF1 := Lib.hid (hR.out.2.2.trans hf1 (fun _ h => h.elim))); clear ht hf1 hC hCs hcm hCL hg1)
        | (at_builtin; refine wpList_append_bytes (F := fun j => w.heap.size ≤ j) (G := fun j => wr.heap.size ≤ j) w1 rfl (.tmp 26) (.tmp 35) rfl (.slice ao len cap) (.slice (some ⟨g1, 0, none⟩) m capr) (cut4 dv.all (64 * q) len) (S.take m) rfl rfl HO1.out HB5.out HLN.out ?_; intro v5 w5 ho5 hg5 hn5; (have HS5 := Lib.hid (show OwnB (fun j => w.heap.size ≤ j) w5 v5 (cut4 dv.all (64 * q) (len + m)) by rw [← HSL.out.2.2.1]; exact ho5.mono (fun j _ h => h.elim id (fun h => Nat.le_trans HF1.out.size h)))); (have HF5 := Lib.hid (HF1.out.grown hg5 (fun j hj => .inr (HO1.out.2 j hj)))); obtain ⟨ao5, cap5, hv5⟩ := HS5.out.len; (have hle5 : (cut4 dv.all (64 * q) (len + m)).length = len + m := cut4_length _ _ _ (by rw [HD.out.2.1]; have := HO.out; have := HM.out.1; omega)); rw [hle5] at hv5; subst hv5; clear ho5 hg5 hn5 hle5))
      go_roundw
      case rel => exact ⟨x + 1, k + 1, len + m, by go_num, by omega, by have := HM.out.1; omega, fun h => by have := HM.out.1; have := HM.out.2.1; omega, ⟨ao5, cap5, rfl⟩, Lib.hid ⟨by rw [hR.out.1, Nat.add_assoc], HS5.out, HF5.out⟩⟩
      case measure => simp only [lenOf5]; have := HM.out.1; omega
    · obtain rfl : len = n := by omega
      have HQ := Lib.hid hR.out.2
      clear hR hlk
      go_wp2
      go_ret2
      unfold ReadPost
      exact ⟨_, rfl, HQ.out.1, HQ.out.2⟩
end Go.Proofs.YtabgklcghghoiaaGreat

