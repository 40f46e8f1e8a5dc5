/- Laid together by merge.py: JRTell RefCur -/
import Derived.Test.YtiinmilfgclddaaGreatTr32
import Derived.Test.YtiinmilfgclddaaGreatTr33
import Derived.Test.YtiinmilfgclddaaGreatTr21
import Derived.Test.YtiinmilfgclddaaGreatTr12

/- The document's own: sectorOf, tell. -/
namespace Go.Proofs.YtiinmilfgclddaaGreat
open Go.RowKit Go.ChangeShapes
set_option linter.unusedVariables false

set_option maxRecDepth 100000 in
set_option maxHeartbeats 1000000 in
theorem rSectorOf_any (w : World) (h : Hd) (hn : h.Num) :
    Calls Tryz.prog 116 #[.agg #[.int .i64 h.area, .int .i64 h.size, .int .i64 h.used, .int .i64 h.round]] w fun e w' => ∃ v, e = .returned v ∧ OwnB (fun k => w.heap.size ≤ k) w' v h.bytes ∧ Fr (fun _ => False) w w' := by
  obtain ⟨x1, hx1⟩ : ∃ x, x = h.area := ⟨_, rfl⟩
  obtain ⟨x2, hx2⟩ : ∃ x, x = h.size := ⟨_, rfl⟩
  obtain ⟨x3, hx3⟩ : ∃ x, x = h.used := ⟨_, rfl⟩
  obtain ⟨x4, hx4⟩ : ∃ x, x = h.round := ⟨_, rfl⟩
  have HBY := Lib.hid (show (([] ++ numBytes 5 x1) ++ numBytes 5 x2 ++ numBytes 5 x3) ++ numBytes 5 x4 = h.bytes by rw [hx1, hx2, hx3, hx4, Hd.bytes]; simp)
  have HN := Lib.hid (show x1 ≤ 1099511627776 ∧ x2 ≤ 1099511627776 ∧ x3 ≤ 1099511627776 ∧ x4 ≤ 1099511627776 by rw [hx1, hx2, hx3, hx4]; exact ⟨hn.area, hn.size, hn.used, hn.round⟩)
  rw [← hx1, ← hx2, ← hx3, ← hx4]
  obtain ⟨W1, hW1⟩ : ∃ W, W = w.alloc (.cells #[.int .i64 x1, .int .i64 x2, .int .i64 x3, .int .i64 x4] 155) := ⟨_, rfl⟩
  obtain ⟨W2, hW2⟩ : ∃ W, W = W1.alloc (.cells #[.slice none 0 0, .bool false] 208) := ⟨_, rfl⟩
  have hf1 : Fr (fun _ => False) w W1 := by rw [hW1]; exact (Fr.refl _ _).alloc _
  have hf2 : Fr (fun _ => False) w W2 := by rw [hW2]; exact hf1.alloc _
  have hz1 : W1.heap.size = w.heap.size + 1 := by rw [hW1]; simp
  have hz2 : W2.heap.size = w.heap.size + 2 := by rw [hW2]; simp [hz1]
  have hrow : W2.heap[w.heap.size]? = some (.cells #[.int .i64 x1, .int .i64 x2, .int .i64 x3, .int .i64 x4] 155 (0, 0)) := by
    rw [hW2]
    exact ((Fr.refl (fun _ => False) W1).alloc _).heap (by rw [hW1]; exact heap_alloc_new w _) id
  have hm : RMkAt (fun k => w.heap.size + 1 ≤ k) W2 (w.heap.size + 1) [] false := ⟨Nat.le_refl _, 208, .slice none 0 0, by rw [hW2, ← hz1]; exact heap_alloc_new W1 _, OwnB.nil _ _⟩
  have HW := Lib.hid (And.intro hW1 (And.intro hW2 (And.intro hf2 (And.intro hz2 hrow))))
  have HM := Lib.hid hm
  clear hn hx1 hx2 hx3 hx4 hf1 hf2 hz1 hz2 hrow hm hW1 hW2
  go_enter Tryz.func116, Tryz.ntmps116
  go_wp2_with fail
  rw [← HW.out.1, ← HW.out.2.1]
  refine (refNum_yes x1 W2 HN.out.1 (fun k hk => by have := HW.out.2.2.2.1; omega) HM.out (by simp)).mono ?_
  rintro e w3 ⟨rfl, hf3, hm3⟩
  have H3 := Lib.hid (And.intro hf3 (And.intro hm3 (hf3.heap HW.out.2.2.2.2 (by omega))))
  clear hf3 hm3
  obtain ⟨c0, c1, c2, c3⟩ := row4_cells H3.out.2.2
  go_wp2_with fail
  refine (refNum_yes x2 w3 HN.out.2.1 (fun k hk => by have := HW.out.2.2.2.1; have := H3.out.1.size; omega) H3.out.2.1 (by have := (numBytes_len 5 x1).2; simp; omega)).mono ?_
  rintro e w4 ⟨rfl, hf4, hm4⟩
  have H4 := Lib.hid (And.intro (H3.out.1.trans hf4 (fun k h => .inl h)) (And.intro hm4 (hf4.heap H3.out.2.2 (by omega))))
  clear hf4 hm4 c0 c1 c2 c3
  obtain ⟨c0, c1, c2, c3⟩ := row4_cells H4.out.2.2
  go_wp2_with fail
  refine (refNum_yes x3 w4 HN.out.2.2.1 (fun k hk => by have := HW.out.2.2.2.1; have := H4.out.1.size; omega) H4.out.2.1 (by have := (numBytes_len 5 x1).2; have := (numBytes_len 5 x2).2; simp; omega)).mono ?_
  rintro e w5 ⟨rfl, hf5, hm5⟩
  have H5 := Lib.hid (And.intro (H4.out.1.trans hf5 (fun k h => .inl h)) (And.intro hm5 (hf5.heap H4.out.2.2 (by omega))))
  clear hf5 hm5 c0 c1 c2 c3
  obtain ⟨c0, c1, c2, c3⟩ := row4_cells H5.out.2.2
  go_wp2_with fail
  refine (refNum_yes x4 w5 HN.out.2.2.2 (fun k hk => by have := HW.out.2.2.2.1; have := H5.out.1.size; omega) H5.out.2.1 (by have := (numBytes_len 5 x1).2; have := (numBytes_len 5 x2).2; have := (numBytes_len 5 x3).2; simp; omega)).mono ?_
  rintro e w6 ⟨rfl, hf6, hm6⟩
  rw [HBY.out] at hm6
  obtain ⟨_, T, v, hb6, ho6⟩ := hm6
  have H6 := Lib.hid (And.intro (H5.out.1.trans hf6 (fun k h => .inl h)) ho6)
  have q0 := (ref_cells hb6).1
  obtain ⟨ao, cap, rfl⟩ := ho6.len
  clear hf6 ho6 c0 c1 c2 c3 hb6
  go_wp2
  go_ret
  exact ⟨_, rfl, H6.out.2.mono (fun k _ h => by have := h.1; omega), HW.out.2.2.1.trans H6.out.1 (fun k h => .inr (by omega))⟩
theorem Dv.write_full (d : Dv) (s : Nat) (a : Int) (b : List UInt8) (h : b.length ≤ 64) : d.write s a b = d.write s a (full64 b) := by
  have hl := full64_length b h
  unfold Dv.write
  rw [hl, full64_self _ hl]
  by_cases h1 : d.down = true
  · rw [if_pos h1, if_pos h1]
  · rw [if_neg h1, if_neg h1]
    by_cases h2 : a < 0 ∨ (s : Int) ≤ a
    · rw [if_pos (by omega), if_pos (by omega)]
    · rw [if_neg (by omega), if_neg (by omega)]
def RTellPost (D : Nat → Prop) (w : World) (g s : Nat) (r : Int × Dv) (e : Ending) (w' : World) : Prop := e = .returned (.int .i64 r.1) ∧ RefAt w' (More D w) g s r.2 ∧ Fr D w w'
/-- .. of a device that is up, with no fuse. -/
theorem rTell_any {D : Nat → Prop} (w : World) (g s : Nat) (dv : Dv) (h : Hd) (hn : h.Num) (hd : RefAt w D g s dv) (hs : 1 ≤ s) (hup : dv.down = false) (hlf : dv.left = 0) (hk6 : dv.deeds ≤ 990000000) (hw6 : dv.waits.length ≤ 900000) :
    Calls Tryz.prog 84 #[.pointer (some ⟨g, 0, none⟩), .agg #[.int .i64 h.area, .int .i64 h.size, .int .i64 h.used, .int .i64 h.round]] w (RTellPost D w g s (dv.tell s h.sec)) := by
  have hbl := h.bytes_le
  obtain ⟨W1, hW1⟩ : ∃ W1, W1 = w.alloc (.cells #[.int .i64 h.area, .int .i64 h.size, .int .i64 h.used, .int .i64 h.round] 155) := ⟨_, rfl⟩
  have hf1 : Fr (fun _ => False) w W1 := by rw [hW1]; exact (Fr.refl _ _).alloc _
  have hd1 := (hd.mono (E := fun j => D j ∧ j < w.heap.size) (fun j hj h => ⟨h, hj⟩)).keep hf1 (fun _ _ _ h => h)
  have HB := Lib.hid (rSectorOf_any W1 h hn)
  have HD := Lib.hid (And.intro hd1 (And.intro hk6 hw6))
  have HW := Lib.hid (And.intro hW1 hf1)
  have hwf := Dv.write_full dv s 0 h.bytes (by omega)
  have hw0 := Dv.write_ok (d := dv) (s := s) (a := 0) (b := h.sec) hup (by rw [h.sec_length]; omega) (by omega)
  obtain ⟨r, hr⟩ : ∃ r, r = (dv.write s 0 h.sec).2 := ⟨_, rfl⟩
  have hr1 : (dv.write s 0 h.bytes) = (0, r) := by rw [hwf, hr, show full64 h.bytes = h.sec from rfl, hw0]
  have hrs : r.deeds ≤ dv.deeds + 1 ∧ r.waits.length ≤ dv.waits.length + 1 := by rw [hr]; exact dv.write_small s 0 h.sec
  have HSM := Lib.hid hrs
  obtain ⟨x1, hx1⟩ : ∃ x, x = h.area := ⟨_, rfl⟩
  obtain ⟨x2, hx2⟩ : ∃ x, x = h.size := ⟨_, rfl⟩
  obtain ⟨x3, hx3⟩ : ∃ x, x = h.used := ⟨_, rfl⟩
  obtain ⟨x4, hx4⟩ : ∃ x, x = h.round := ⟨_, rfl⟩
  rw [← hx1, ← hx2, ← hx3, ← hx4] at HW HB ⊢
  have hwr := fun (w1 : World) (v : Value) (hb : BytesIn (fun k => W1.heap.size ≤ k ∧ k < w1.heap.size) w1 v h.bytes) (hf : Fr (fun _ => False) W1 w1) => bWrite w1 g s dv 0 v h.bytes (by have := HD.out.2.1; omega) (by have := HD.out.2.2; omega) hb (fun k h1 => ⟨h1.2, fun h2 => by have := h2.2; have := HW.out.2.size; omega⟩) (HD.out.1.keep hf (fun _ _ _ h => h))
  rw [hr1] at hwr
  have HWR := Lib.hid hwr
  have htl : dv.tell s h.sec = r.flush := by
    unfold Dv.tell
    rw [← hr, hw0, if_pos rfl]
  rw [htl]
  obtain ⟨r2, hr2⟩ : ∃ r2, r2 = r.flush := ⟨_, rfl⟩
  rw [← hr2]
  obtain ⟨e2, he2⟩ : ∃ e, e = r2.1 := ⟨_, rfl⟩
  have HR2 := Lib.hid (And.intro hr2 he2)
  clear hd hk6 hw6 hf1 hd1 hW1 hr hwr hx1 hx2 hx3 hx4 hr1 hw0 hwf hrs htl hr2 he2 hup hlf hbl
  go_enter Tryz.func84, Tryz.ntmps84
  go_wp2_with (first
    | (go_at_call 116; rw [← HW.out.1]; refine HB.out.mono ?_; rintro e w1 ⟨v, rfl, ho1, hf1⟩; (have H1 := Lib.hid (And.intro ho1 hf1)); clear ho1 hf1)
    | (go_at_call 115; refine (HWR.out w1 v (H1.out.1.bytes.mono (fun k hk h => ⟨h, hk⟩)) H1.out.2).mono ?_; rintro e w2 ⟨rfl, hd2, hf2⟩; (have H2 := Lib.hid (And.intro hd2 hf2)); clear hd2 hf2)
    | (go_at_call 117; refine (bFlush w2 g s r (by have := HSM.out.1; have := HD.out.2.1; omega) (by have := HSM.out.2; have := HD.out.2.2; omega) H2.out.1).mono ?_; rintro e w3 ⟨rfl, hd3, hf3⟩; (have H3 := Lib.hid (And.intro hd3 hf3)); clear hd3 hf3))
  go_ret
  unfold RTellPost
  have s1 := HW.out.2.size
  have s2 := H1.out.2.size
  have s3 := H2.out.2.size
  rw [HR2.out.1]
  refine ⟨rfl, H3.out.1.mono fun k _ hk => ?_, ((HW.out.2.trans H1.out.2 (fun _ h => h.elim)).mono (T := D) (fun _ _ h => h.elim)).trans (H2.out.2.trans (T := fun k => (D k ∧ k < w.heap.size) ∨ w1.heap.size ≤ k) H3.out.2 (fun k hk => hk.elim (fun h => .inl h) (fun h => .inr h))) (fun k hk => .inl hk.1)⟩
  rcases hk with (hk | hk) | hk
  · exact .inl hk.1
  · exact .inr (by omega)
  · exact .inr (by omega)
end Go.Proofs.YtiinmilfgclddaaGreat

/- The document's own cursor. -/
namespace Go.Proofs.YtiinmilfgclddaaGreat
open Go.RowKit Go.ChangeShapes
set_option linter.unusedVariables false

/-! Numbers: how many bytes one has; what stands at a place. -/
theorem numBytes_short (j : Nat) : ∀ k n, n < 128 ^ (j + 1) → (numBytes k n).length ≤ j + 1 := by
  induction j with
  | zero =>
    intro k n h
    cases k with
    | zero => simp [numBytes]
    | succ k => rw [numBytes, if_pos (by omega)]; simp
  | succ j ih =>
    intro k n h
    cases k with
    | zero => simp [numBytes]
    | succ k =>
      rw [numBytes]
      split
      · simp
      · have := ih k (n / 128) (by rw [Nat.pow_succ] at h; omega)
        simp only [List.length_cons]
        omega
theorem numBytes_long (j : Nat) : ∀ k n, j ≤ k → 128 ^ j ≤ n → j + 1 ≤ (numBytes k n).length := by
  induction j with
  | zero => intro k n _ _; exact (numBytes_len k n).1
  | succ j ih =>
    intro k n hk h
    obtain ⟨k, rfl⟩ : ∃ m, k = m + 1 := ⟨k - 1, by omega⟩
    have h1 : 128 ≤ 128 ^ (j + 1) := by
      have := Nat.pow_le_pow_right (show 0 < 128 by decide) (show 1 ≤ j + 1 by omega)
      omega
    rw [numBytes, if_neg (by omega)]
    have := ih k (n / 128) (by omega) (by rw [Nat.pow_succ] at h; omega)
    simp only [List.length_cons]
    omega
/-- A number that is gathered at place i has i + 1 bytes just where its last one counts. -/
theorem gathered_len (i n x : Nat) (hi : i ≤ 5) (hn : n < 128 ^ i) (hx : x < 128) : (numBytes 5 (n + x * 128 ^ i)).length = i + 1 ↔ ¬ (0 < i ∧ x = 0) := by
  by_cases h0 : 0 < i ∧ x = 0
  · obtain ⟨h1, rfl⟩ := h0
    obtain ⟨j, rfl⟩ : ∃ j, i = j + 1 := ⟨i - 1, by omega⟩
    have := numBytes_short j 5 n hn
    simp
    omega
  · have h1 : n + x * 128 ^ i < 128 ^ (i + 1) := by
      have : x * 128 ^ i ≤ 127 * 128 ^ i := Nat.mul_le_mul_right _ (by omega)
      rw [Nat.pow_succ]
      omega
    have h2 := numBytes_short i 5 _ h1
    have h3 : i + 1 ≤ (numBytes 5 (n + x * 128 ^ i)).length := by
      by_cases hi0 : i = 0
      · subst hi0; exact (numBytes_len 5 _).1
      · refine numBytes_long i 5 _ hi ?_
        have : 1 * 128 ^ i ≤ x * 128 ^ i := Nat.mul_le_mul_right _ (by omega)
        omega
    constructor
    · intro _; exact h0
    · intro _; omega

theorem numFrom_more (f i n : Nat) (X : List UInt8) (h : i < X.length) (hx : 128 ≤ (X[i]).toNat) : numFrom (f + 1) i n (X.drop i) = numFrom f (i + 1) (n + (X[i]).toNat % 128 * 128 ^ i) (X.drop (i + 1)) := by
  rw [List.drop_eq_getElem_cons h, numFrom, if_pos hx]
theorem numFrom_last (f i n : Nat) (X : List UInt8) (h : i < X.length) (hx : (X[i]).toNat < 128) : numFrom (f + 1) i n (X.drop i) = if (0 < i ∧ (X[i]).toNat = 0) ∨ 1099511627776 < n + (X[i]).toNat * 128 ^ i then none else some (n + (X[i]).toNat * 128 ^ i, i + 1) := by
  rw [List.drop_eq_getElem_cons h, numFrom, if_neg (by omega), Nat.mod_eq_of_lt hx]

/-- At block b lies the document's cursor: its bytes X (in blocks of F, which b is none of), its error e. -/
def RCur (F : Nat → Prop) (w : World) (b : Nat) (X : List UInt8) (e : Int) : Prop :=
  ∃ v T, w.heap[b]? = some (.cells #[v, .int .i64 e] T (0, 0)) ∧ BytesIn F w v X ∧ ¬ F b
theorem RCur.keep {F S : Nat → Prop} {w w' : World} {b : Nat} {X : List UInt8} {e : Int} (h : RCur F w b X e) (hf : Fr S w w') (hb : ¬ S b) (hd : ∀ k, k < w.heap.size → F k → ¬ S k) : RCur F w' b X e := by
  obtain ⟨v, T, h1, h2, h3⟩ := h
  exact ⟨v, T, hf.heap h1 hb, h2.keep hf hd, h3⟩
theorem RCur.facts {F : Nat → Prop} {w : World} {b : Nat} {X : List UInt8} {e : Int} (h : RCur F w b X e) :
    ∃ v, w.cell? ⟨b, 0, none⟩ = some v ∧ w.cell? ⟨b, 1, none⟩ = some (.int .i64 e) ∧ w.frozen? ⟨b, 0, none⟩ = false ∧ w.frozen? ⟨b, 1, none⟩ = false ∧ BytesIn F w v X := by
  obtain ⟨v, T, h1, h2, h3⟩ := h
  exact ⟨v, by simp [World.cell?, h1], by simp [World.cell?, h1], by simp [World.frozen?, h1], by simp [World.frozen?, h1], h2⟩
theorem RCur.lt {F : Nat → Prop} {w : World} {b : Nat} {X : List UInt8} {e : Int} (h : RCur F w b X e) : b < w.heap.size := by
  obtain ⟨v, T, h1, _⟩ := h
  exact lt_of_block h1
theorem RCur.store {F : Nat → Prop} {w : World} {b : Nat} {X : List UInt8} {e : Int} (h : RCur F w b X e) (e' : Int) (v' : Value) (X' : List UInt8) (hv : BytesIn F w v' X') :
    RCur F ((w.setCell ⟨b, 1, none⟩ (.int .i64 e')).setCell ⟨b, 0, none⟩ v') b X' e' := by
  obtain ⟨v, T, h1, h2, h3⟩ := h
  refine ⟨v', T, ?_, ?_, h3⟩
  · have := heap_setCell_at (i := 0) v' (heap_setCell_at (i := 1) (.int .i64 e') h1)
    simpa using this
  · exact hv.keep (S := (· = b)) (Fr.two _ _ _ _ _ _) (fun k _ hk hb => h3 (hb ▸ hk))
theorem RCur.store0 {F : Nat → Prop} {w : World} {b : Nat} {X : List UInt8} {e : Int} (h : RCur F w b X e) (v' : Value) (X' : List UInt8) (hv : BytesIn F w v' X') :
    RCur F (w.setCell ⟨b, 0, none⟩ v') b X' e := by
  obtain ⟨v, T, h1, h2, h3⟩ := h
  refine ⟨v', T, ?_, ?_, h3⟩
  · have := heap_setCell_at (i := 0) v' h1
    simpa using this
  · exact hv.keep (S := (· = b)) (Fr.one _ _ _ _) (fun k _ hk hb => h3 (hb ▸ hk))

theorem rfail_any {F : Nat → Prop} {b : Nat} {X : List UInt8} {e : Int} (e' : Int) (w : World) (h : RCur F w b X e) :
    Calls Tryz.prog 176 #[.pointer (some ⟨b, 0, none⟩), .int .i64 e'] w fun r w' => r = .returned (.tuple #[]) ∧ Fr (· = b) w w' ∧ RCur F w' b [] (if e = 0 then e' else e) := by
  by_cases he : e = 0
  · subst he
    have hfin := Lib.hid (h.store e' (.slice none 0 0) [] (BytesIn.nil _ _))
    obtain ⟨v, c0, c1, f0, f1, hb⟩ := h.facts
    rw [if_pos rfl]
    clear h hb
    go_enter Tryz.func176, Tryz.ntmps176
    go_wp2
    go_end0
    exact ⟨rfl, Fr.two _ _ _ _ _ _, hfin.out⟩
  · have hfin := Lib.hid (h.store0 (.slice none 0 0) [] (BytesIn.nil _ _))
    obtain ⟨v, c0, c1, f0, f1, hb⟩ := h.facts
    rw [if_neg he]
    have he' : (e == 0) = false := by simpa using he
    clear h hb he
    go_enter Tryz.func176, Tryz.ntmps176
    go_wp2
    go_end0
    exact ⟨rfl, Fr.one _ _ _ _, hfin.out⟩

theorem rEnd_any {F : Nat → Prop} {b : Nat} {X : List UInt8} {e : Int} (w : World) (h : RCur F w b X e) :
    Calls Tryz.prog 155 #[.pointer (some ⟨b, 0, none⟩)] w fun r w' => r = .returned (.int .i64 (curEnd X e)) ∧ w = w' := by
  obtain ⟨v, c0, c1, f0, f1, hb⟩ := h.facts
  obtain ⟨ao, cap, rfl, hl, hm, _⟩ := hb
  by_cases he : e = 0
  · subst he
    have he' : ((0 : Int) == 0) = true := rfl
    by_cases hX : X = []
    · subst hX
      have hR : curEnd [] 0 = 0 := rfl
      rw [hR]
      clear hR
      go_enter Tryz.func155, Tryz.ntmps155
      go_wp2
      go_ret
      exact ⟨rfl, rfl⟩
    · have hR : curEnd X 0 = 4 := by simp [curEnd, hX]
      rw [hR]
      have hp : 0 < X.length := List.length_pos_iff.2 hX
      clear hR hX
      go_enter Tryz.func155, Tryz.ntmps155
      go_wp2
      go_ret
      exact ⟨rfl, rfl⟩
  · have hR : curEnd X e = e := by simp [curEnd, he]
    rw [hR]
    have he' : (e == 0) = false := by simpa using he
    clear he hR
    go_enter Tryz.func155, Tryz.ntmps155
    go_wp2
    go_ret
    exact ⟨rfl, rfl⟩

set_option maxHeartbeats 2000000 in
set_option maxRecDepth 100000 in
theorem rRaw_any {F : Nat → Prop} {b : Nat} {X : List UInt8} {e : Int} (many : Int) (w : World) (h : RCur F w b X e) (he0 : e ≠ 0 → X = []) (hX : X.length ≤ 1000000) (hF : ∀ k, F k → k < w.heap.size) (hlow : -9223372036854775808 ≤ many) (hup : many ≤ 9223372036854775807) :
    Calls Tryz.prog 177 #[.pointer (some ⟨b, 0, none⟩), .int .i64 many] w fun r w' => ∃ v, r = .returned v ∧ Fr (· = b) w w' ∧ OwnB (fun k => w.heap.size ≤ k) w' v (curRaw many X e).1 ∧ RCur F w' b (curRaw many X e).2.1 (curRaw many X e).2.2 := by
  by_cases he : e = 0
  · subst he
    by_cases hbad : many < 0 ∨ (X.length : Int) < many
    · have hR : curRaw many X 0 = ([], [], 4) := by simp [curRaw, hbad]
      have HC := Lib.hid (rfail_any 4 w h)
      obtain ⟨v, c0, c1, f0, f1, hb⟩ := h.facts
      obtain ⟨ao, cap, rfl, hl, hm, _⟩ := hb
      rw [hR]
      clear h hR
      by_cases hneg : many < 0
      · clear hbad
        go_enter Tryz.func177, Tryz.ntmps177
        go_wp2_with (go_at_call 176; refine HC.out.mono ?_; rintro e w1 ⟨rfl, hf1, hc1⟩; have H1 := Lib.hid (And.intro hf1 hc1); clear hf1 hc1)
        go_ret
        exact ⟨_, rfl, H1.out.1, OwnB.nil _ _, H1.out.2⟩
      · have hbig : (X.length : Int) < many := by omega
        clear hbad
        go_enter Tryz.func177, Tryz.ntmps177
        go_wp2_with (go_at_call 176; refine HC.out.mono ?_; rintro e w1 ⟨rfl, hf1, hc1⟩; have H1 := Lib.hid (And.intro hf1 hc1); clear hf1 hc1)
        go_ret
        exact ⟨_, rfl, H1.out.1, OwnB.nil _ _, H1.out.2⟩
    · have hR : curRaw many X 0 = (X.take many.toNat, X.drop many.toNat, 0) := by simp [curRaw, hbad]
      rw [hR]
      obtain ⟨m, rfl⟩ : ∃ m : Nat, many = m := ⟨many.toNat, by omega⟩
      rw [Int.toNat_natCast]
      have hml : m ≤ X.length := by omega
      obtain ⟨v, c0, c1, f0, f1, hb⟩ := h.facts
      have HB := Lib.hid hb
      obtain ⟨ao, cap, rfl, hl, hm, _⟩ := hb
      have HT := Lib.hid (HB.out.take m hml)
      have HD := Lib.hid (HB.out.cutLow m hml)
      have hlt := h.lt
      have HH := Lib.hid h
      obtain ⟨l, hl'⟩ : ∃ l, l = X.length := ⟨_, rfl⟩
      have HLN := Lib.hid hl'
      rw [← hl'] at hl c0 hX HD hml
      have hs0 : ¬ ((m : Int) < 0) := by omega
      have hs1 : ¬ ((l : Int) < (m : Int)) := by omega
      unfold maxLen at hm
      have HFF := Lib.hid hF
      clear h hR hbad hlow hup hl' he0 hF
      have kl := fun (w : World) => run_cutLow w ao l cap m hml
      have c0' := ((Fr.refl (fun _ => False) w).alloc (.cells #[] 5)).cell c0 (fun h => h)
      go_enter Tryz.func177, Tryz.ntmps177
      go_wp2_with (first
        | (at_builtin; refine wpList_append_bytes (F := fun k => w.heap.size ≤ k) (G := F) _ rfl (.tmp 26) (.tmp 32) rfl (.slice (some ⟨w.heap.size, 0, none⟩) 0 0) (.slice ao m cap) [] (X.take m) rfl rfl (own_empty w _ rfl) (HT.out.keep (S := fun _ => False) ((Fr.refl _ _).alloc _) (fun _ _ _ h => h)) (by rw [List.length_nil, List.length_take]; omega) ?_; intro v5 w5 ho5 hg5 hn5; have hF5 : Fr (fun _ => False) w w5 := ((Fr.refl (fun _ => False) w).alloc _).grown hg5 (fun k hk => .inr (by simp only [Value.ownBlock, Option.some.injEq] at hk; omega)); have d0 := hF5.cell c0 (fun h => h); have HR5 := Lib.hid (HH.out.keep hF5 (fun h => h) (fun _ _ _ h => h)); obtain ⟨_, _, _, g0, _, _⟩ := HR5.out.facts; have HO5 := Lib.hid (ho5.mono (G := fun k => w.heap.size ≤ k) (fun k _ h => h.elim id (fun h => by simp at h; omega))); have HF5 := Lib.hid hF5; clear ho5 hg5 hn5 hF5)
        | fail)
      go_ret
      refine ⟨_, rfl, (HF5.out.mono fun _ _ h => h.elim).trans (Fr.one _ _ _ _) (fun i hi => .inl hi), ?_, HR5.out.store0 _ _ (HD.out.keep HF5.out (fun _ _ _ h => h))⟩
      rw [List.nil_append] at HO5
      exact HO5.out.keep (S := (· = b)) (Fr.one _ _ _ _) (fun k _ h1 h2 => by omega)
  · obtain rfl := he0 he
    have hR : curRaw many [] e = ([], [], e) := by simp [curRaw, he]
    have HC := rfail_any 4 w h
    rw [if_neg he] at HC
    have HC := Lib.hid HC
    obtain ⟨v, c0, c1, f0, f1, hb⟩ := h.facts
    obtain ⟨ao, cap, rfl, hl, hm, _⟩ := hb
    rw [hR]
    have he' : (e != 0) = true := by simpa using he
    clear h hR he he0 hX
    go_enter Tryz.func177, Tryz.ntmps177
    go_wp2_with (go_at_call 176; refine HC.out.mono ?_; rintro e w1 ⟨rfl, hf1, hc1⟩; have H1 := Lib.hid (And.intro hf1 hc1); clear hf1 hc1)
    go_ret
    exact ⟨_, rfl, H1.out.1, OwnB.nil _ _, H1.out.2⟩

set_option maxHeartbeats 4000000 in
set_option maxRecDepth 100000 in
theorem rNum_any {F : Nat → Prop} {b : Nat} {X : List UInt8} {e : Int} (most : Int) (w : World) (h : RCur F w b X e) (he0 : e ≠ 0 → X = []) (hX : X.length ≤ 1000000) :
    Calls Tryz.prog 153 #[.pointer (some ⟨b, 0, none⟩), .int .i64 most] w fun r w' => r = .returned (.int .i64 (curNum most X e).1) ∧ Fr (· = b) w w' ∧ RCur F w' b (curNum most X e).2.1 (curNum most X e).2.2 := by
  by_cases he : e = 0
  · subst he
    clear he0
    have HC := rfail_any 4 w h
    rw [if_pos rfl] at HC
    have HC := Lib.hid HC
    obtain ⟨v, c0, c1, f0, f1, hb⟩ := h.facts
    have HB := Lib.hid hb
    have HH := Lib.hid h
    by_cases hnil : X = []
    · have hR : curNum most X 0 = (0, [], 4) := by subst hnil; simp [curNum, numS, numOf, numFrom]
      rw [hR]
      obtain ⟨ao, cap, rfl, hl, hm, _⟩ := hb
      subst hnil
      clear h hR
      go_enter Tryz.func153, Tryz.ntmps153
      go_wp2
      refine wp_loop_rounds 1 ?_
      rw [rounds_succ]
      go_wp2_with (go_at_call 176; refine HC.out.mono ?_; rintro e w1 ⟨rfl, hf1, hc1⟩; have H1 := Lib.hid (And.intro hf1 hc1); clear hf1 hc1)
      go_ret
      exact ⟨rfl, H1.out⟩
    · obtain ⟨b', off, cap, rfl, h1, hm, hF, hc⟩ := hb.plain hnil
      have hcA : ∀ j, (hj : j < X.length) → w.cell? ⟨b', off + j, none⟩ = some (.int .u8 (X[j]).toNat) := hc
      have HCA := Lib.hid hcA
      obtain ⟨l, hl⟩ : ∃ l, l = X.length := ⟨_, rfl⟩
      have HLN := Lib.hid hl
      rw [← hl] at c0 h1 hX
      unfold maxLen at hm
      obtain ⟨RS, hRS⟩ : ∃ RS, RS = curNum most X 0 := ⟨_, rfl⟩
      rw [← hRS]
      have HRS := Lib.hid hRS
      clear h hb hc hcA hnil hl hRS
      go_enter Tryz.func153, Tryz.ntmps153
      go_wp2
      go_loop [5, 6, 7] (fun nv uv iv => ∃ n u i : Nat, i ≤ 6 ∧ nv = .int .i64 n ∧ uv = .int .i64 u ∧ iv = .int .i64 i ∧ n < 4398046511104 ∧ u ≤ 4398046511104 ∧ Hid (i ≤ l ∧ u = 128 ^ i ∧ n < 128 ^ i ∧ numFrom (6 - i) i n (X.drop i) = numOf X)) (fun _ _ iv => 6 - (intOf iv).toNat)
      case atStart => exact ⟨0, 1, 0, by omega, rfl, rfl, rfl, by omega, by omega, Lib.hid ⟨by omega, rfl, by omega, rfl⟩⟩
      case round =>
        obtain ⟨n, u, i, hi6, rfl, rfl, rfl, hn, hu, hR⟩ := hrel
        by_cases hlt6 : i < 6
        · by_cases hltl : i < l
          · have hil : i < X.length := by have := HLN.out; omega
            have ci := HCA.out i hil
            obtain ⟨x, hx⟩ : ∃ x, x = (X[i]).toNat := ⟨_, rfl⟩
            have hx8 : x < 256 := by rw [hx]; exact (X[i]).toNat_lt
            rw [← hx] at ci
            obtain ⟨z, hz⟩ : ∃ z, z = x % 128 * u := ⟨_, rfl⟩
            have hzi : (x : Int) % 128 * (u : Int) = (z : Int) := by rw [hz]; push_cast; rfl
            have hpi : 128 ^ i ≤ 128 ^ 5 := Nat.pow_le_pow_right (by decide) (by omega)
            have hub : u ≤ 34359738368 := by have := hR.out.2.1; omega
            have hzb : z ≤ 127 * u := by rw [hz]; exact Nat.mul_le_mul_right _ (by omega)
            have hnb : n < u := by have := hR.out.2.1; have := hR.out.2.2.1; omega
            have hnz : n + z < 128 * u := by omega
            have HZ := Lib.hid hz
            have HX := Lib.hid hx
            clear hz hx hpi
            by_cases hx128 : 128 ≤ x
            · have HN2 := Lib.hid (show i + 1 ≤ l ∧ u * 128 = 128 ^ (i + 1) ∧ n + z < 128 ^ (i + 1) ∧ numFrom (6 - (i + 1)) (i + 1) (n + z) (X.drop (i + 1)) = numOf X by
                have e1 := hR.out
                have e2 := numFrom_more (6 - (i + 1)) i n X hil (by rw [← HX.out]; exact hx128)
                refine ⟨by omega, by rw [e1.2.1, Nat.pow_succ], by rw [Nat.pow_succ, ← e1.2.1]; omega, ?_⟩
                rw [← e1.2.2.2, show 6 - i = (6 - (i + 1)) + 1 by omega, e2, ← HX.out, ← e1.2.1, HZ.out])
              clear hR
              go_wp2_with fail
              go_round
              case rel => exact ⟨n + z, u * 128, i + 1, by omega, by go_num, by go_num, by go_num, by omega, by omega, HN2⟩
              case measure => simp [intOf]; omega
            · have hmod : x % 128 = x := Nat.mod_eq_of_lt (by omega)
              have hL := gathered_len i n x (by omega) hR.out.2.2.1 (by omega)
              have e2 := numFrom_last (6 - (i + 1)) i n X hil (by rw [← HX.out]; omega)
              rw [← HX.out] at e2
              have e3 : n + x * 128 ^ i = n + z := by rw [HZ.out, hmod, hR.out.2.1]
              rw [e3] at hL e2
              have e4 : numOf X = if (0 < i ∧ x = 0) ∨ 1099511627776 < n + z then none else some (n + z, i + 1) := by
                rw [← hR.out.2.2.2, show 6 - i = (6 - (i + 1)) + 1 by omega, e2]
              obtain ⟨m, hm'⟩ : ∃ m, m = n + z := ⟨_, rfl⟩
              have hmi : (n : Int) + (z : Int) = (m : Int) := by omega
              have hmb : m < 4398046511104 := by omega
              rw [← hm'] at hL e4
              have HNUM := Lib.hid (refNumber_wide m w hmb)
              obtain ⟨q, hq⟩ : ∃ q, q = (numBytes 5 m).length := ⟨_, rfl⟩
              have hqb := (numBytes_len 5 m).2
              rw [← hq] at hL hqb
              have HQ := Lib.hid hq
              have HU := Lib.hid hR.out.2.1
              clear hR e2 e3 hq hm' hnz hnb
              by_cases hlast : 0 < i ∧ x = 0
              · have hR0 : curNum most X 0 = (0, [], 4) := by
                  rw [if_pos (.inl hlast)] at e4
                  simp [curNum, numS, e4]
                have HR0 := Lib.hid (HRS.out.trans hR0)
                have hq1 : q ≠ i + 1 := fun h => hL.1 h hlast
                have hq2 : ((q : Int) != (i : Int) + 1) = true := by rw [bne_iff_ne]; omega
                have hq3 : ((q : Int) == (i : Int) + 1) = false := by rw [beq_eq_false_iff_ne]; omega
                clear hL e4 hR0 hlast hq1 hmod
                go_wp2_with (first
                  | (go_at_call 175; refine HNUM.out.mono ?_; rintro e w3 ⟨u3, rfl, hu3, hf3⟩; obtain ⟨a3, c3, hv3⟩ := hu3.len; rw [← HQ.out] at hv3; subst hv3; have HC3 := Lib.hid (rfail_any 4 w3 (HH.out.keep hf3 (fun h => h) (fun _ _ _ h => h))); rw [if_pos rfl] at HC3; have HF3 := Lib.hid hf3; clear hu3 hf3)
                  | (go_at_call 176; refine HC3.out.mono ?_; rintro e w1 ⟨rfl, hf1, hc1⟩; have H1 := Lib.hid (And.intro ((HF3.out.mono (fun _ _ h => h.elim)).trans hf1 (fun _ h => .inl h)) hc1); clear hf1 hc1))
                go_ret
                rw [HR0.out]
                exact ⟨rfl, H1.out⟩
              · have hq1 : q = i + 1 := hL.2 hlast
                have hq2 : ((q : Int) != (i : Int) + 1) = false := by rw [bne_eq_false_iff_eq]; omega
                have hq3 : ((q : Int) == (i : Int) + 1) = true := by rw [beq_iff_eq]; omega
                by_cases hbig : 1099511627776 < m
                · have hR0 : curNum most X 0 = (0, [], 4) := by
                    rw [if_pos (.inr hbig)] at e4
                    simp [curNum, numS, e4]
                  have HR0 := Lib.hid (HRS.out.trans hR0)
                  clear hL e4 hR0 hlast hq1 hmod
                  go_wp2_with (first
                    | (go_at_call 175; refine HNUM.out.mono ?_; rintro e w3 ⟨u3, rfl, hu3, hf3⟩; obtain ⟨a3, c3, hv3⟩ := hu3.len; rw [← HQ.out] at hv3; subst hv3; have HC3 := Lib.hid (rfail_any 4 w3 (HH.out.keep hf3 (fun h => h) (fun _ _ _ h => h))); rw [if_pos rfl] at HC3; have HF3 := Lib.hid hf3; clear hu3 hf3)
                    | (go_at_call 176; refine HC3.out.mono ?_; rintro e w1 ⟨rfl, hf1, hc1⟩; have H1 := Lib.hid (And.intro ((HF3.out.mono (fun _ _ h => h.elim)).trans hf1 (fun _ h => .inl h)) hc1); clear hf1 hc1))
                  go_ret
                  rw [HR0.out]
                  exact ⟨rfl, H1.out⟩
                · rw [if_neg (by rintro (h | h); exact hlast h; exact hbig h)] at e4
                  by_cases hmost : most < (m : Int)
                  · have hR0 : curNum most X 0 = (0, [], 4) := by simp [curNum, numS, numV, e4, hmost]
                    have HR0 := Lib.hid (HRS.out.trans hR0)
                    clear hL e4 hR0 hlast hq1 hmod
                    go_wp2_with (first
                      | (go_at_call 175; refine HNUM.out.mono ?_; rintro e w3 ⟨u3, rfl, hu3, hf3⟩; obtain ⟨a3, c3, hv3⟩ := hu3.len; rw [← HQ.out] at hv3; subst hv3; have HC3 := Lib.hid (rfail_any 4 w3 (HH.out.keep hf3 (fun h => h) (fun _ _ _ h => h))); rw [if_pos rfl] at HC3; have HF3 := Lib.hid hf3; clear hu3 hf3)
                      | (go_at_call 176; refine HC3.out.mono ?_; rintro e w1 ⟨rfl, hf1, hc1⟩; have H1 := Lib.hid (And.intro ((HF3.out.mono (fun _ _ h => h.elim)).trans hf1 (fun _ h => .inl h)) hc1); clear hf1 hc1))
                    go_ret
                    rw [HR0.out]
                    exact ⟨rfl, H1.out⟩
                  · have hR0 : curNum most X 0 = ((m : Int), X.drop (i + 1), 0) := by simp [curNum, numS, numV, e4, hmost]
                    have HR0 := Lib.hid (HRS.out.trans hR0)
                    have HCL := Lib.hid (HB.out.cutLow (i + 1) (by omega))
                    rw [← HLN.out] at HCL
                    have kl := fun (w : World) => run_cutLow w (some ⟨b', off, none⟩) l cap (i + 1) (by omega)
                    have kc : ((i + 1 : Nat) : Int) = (i : Int) + 1 := by omega
                    rw [kc] at kl
                    clear hL e4 hR0 hlast hq1 hmod kc
                    go_wp2_with (first
                      | (go_at_call 175; refine HNUM.out.mono ?_; rintro e w3 ⟨u3, rfl, hu3, hf3⟩; obtain ⟨a3, c3, hv3⟩ := hu3.len; rw [← HQ.out] at hv3; subst hv3; have HH3 := Lib.hid (HH.out.keep hf3 (fun h => h) (fun _ _ _ h => h)); have d0 := hf3.cell c0 (fun h => h); obtain ⟨_, _, _, g0, _, _⟩ := HH3.out.facts; have HF3 := Lib.hid hf3; clear hu3 hf3)
                      | fail)
                    go_ret
                    rw [HR0.out]
                    exact ⟨rfl, (HF3.out.mono (fun _ _ h => h.elim)).trans (Fr.one _ _ _ _) (fun _ h => .inl h), HH3.out.store0 _ _ (HCL.out.keep HF3.out (fun _ _ _ h => h))⟩
          · have hR0 : curNum most X 0 = (0, [], 4) := by
              have e1 := hR.out.2.2.2
              rw [numFrom_end (by have := HLN.out; omega)] at e1
              simp [curNum, numS, ← e1]
            have HR0 := Lib.hid (HRS.out.trans hR0)
            clear hR hR0
            go_wp2_with (go_at_call 176; refine HC.out.mono ?_; rintro e w1 ⟨rfl, hf1, hc1⟩; have H1 := Lib.hid (And.intro hf1 hc1); clear hf1 hc1)
            go_ret
            rw [HR0.out]
            exact ⟨rfl, H1.out⟩
        · have hR0 : curNum most X 0 = (0, [], 4) := by
            have e1 := hR.out.2.2.2
            rw [show 6 - i = 0 by omega, numFrom] at e1
            simp [curNum, numS, ← e1]
          have HR0 := Lib.hid (HRS.out.trans hR0)
          clear hR hR0
          go_wp2_with (go_at_call 176; refine HC.out.mono ?_; rintro e w1 ⟨rfl, hf1, hc1⟩; have H1 := Lib.hid (And.intro hf1 hc1); clear hf1 hc1)
          go_ret
          rw [HR0.out]
          exact ⟨rfl, H1.out⟩
  · obtain rfl := he0 he
    have hR : curNum most [] e = (0, [], e) := by simp [curNum, he]
    have HC := rfail_any 4 w h
    rw [if_neg he] at HC
    have HC := Lib.hid HC
    obtain ⟨v, c0, c1, f0, f1, hb⟩ := h.facts
    obtain ⟨ao, cap, rfl, hl, hm, _⟩ := hb
    rw [hR]
    clear h hR he0 hX
    go_enter Tryz.func153, Tryz.ntmps153
    go_wp2
    refine wp_loop_rounds 1 ?_
    rw [rounds_succ]
    go_wp2_with (go_at_call 176; refine HC.out.mono ?_; rintro e w1 ⟨rfl, hf1, hc1⟩; have H1 := Lib.hid (And.intro hf1 hc1); clear hf1 hc1)
    go_ret
    exact ⟨rfl, H1.out⟩

theorem curText_of {most : Int} {X : List UInt8} (hX : X.length ≤ 1000000) (h1 : numS X ≠ 0) (h2 : ¬ most < numV X) : curText most X 0 = curRaw (numV X) (X.drop (numS X)) 0 := by
  rw [curText, if_pos rfl, if_neg h1, if_neg h2]
  split
  · rw [curRaw, if_pos rfl, if_pos (by rw [List.length_drop]; omega)]
  · rfl

set_option maxHeartbeats 2000000 in
set_option maxRecDepth 100000 in
theorem rText_any {F : Nat → Prop} {b : Nat} {X : List UInt8} {e : Int} (most : Int) (w : World) (h : RCur F w b X e) (he0 : e ≠ 0 → X = []) (hX : X.length ≤ 1000000) (hF : ∀ k, F k → k < w.heap.size) :
    Calls Tryz.prog 154 #[.pointer (some ⟨b, 0, none⟩), .int .i64 most] w fun r w' => ∃ v, r = .returned v ∧ Fr (· = b) w w' ∧ OwnB (fun k => w.heap.size ≤ k) w' v (curText most X e).1 ∧ RCur F w' b (curText most X e).2.1 (curText most X e).2.2 := by
  by_cases he : e = 0
  · subst he
    by_cases hs : numS X = 0
    · have hR : curText most X 0 = ([], [], 4) := by simp [curText, hs]
      have hN := rNum_any 1099511627776 w h he0 hX
      rw [curNum_none hs] at hN
      rw [hR]
      have HN := Lib.hid hN
      clear hs hR hN
      go_enter Tryz.func154, Tryz.ntmps154
      go_wp2_with (go_at_call 153; refine HN.out.mono ?_; rintro e w1 ⟨rfl, hf1, hc1⟩; obtain ⟨v1, d0, d1, g0, g1, _⟩ := hc1.facts; have H1 := Lib.hid (And.intro hf1 hc1); clear hf1 hc1)
      go_ret
      exact ⟨_, rfl, H1.out.1, OwnB.nil _ _, H1.out.2⟩
    · have hN := rNum_any 1099511627776 w h he0 hX
      rw [curNum_some hs] at hN
      have hv := numV_le X
      by_cases hm : most < numV X
      · have hR : curText most X 0 = ([], [], 3) := by simp [curText, hs, hm]
        rw [hR]
        obtain ⟨n, hn⟩ : ∃ n, n = numV X := ⟨_, rfl⟩
        rw [← hn] at hm hN hv
        have HN := Lib.hid hN
        clear hs hn hR hN
        go_enter Tryz.func154, Tryz.ntmps154
        go_wp2_with (first
          | (go_at_call 153; refine HN.out.mono ?_; rintro e w1 ⟨rfl, hf1, hc1⟩; obtain ⟨v1, d0, d1, g0, g1, _⟩ := hc1.facts; have H1 := Lib.hid (And.intro hf1 hc1); clear hf1 hc1)
          | (go_at_call 176; refine (rfail_any 3 _ H1.out.2).mono ?_; rintro e w2 ⟨rfl, hf2, hc2⟩; rw [if_pos rfl] at hc2; obtain ⟨v2, j0, j1, k0, k1, _⟩ := hc2.facts; have H2 := Lib.hid (And.intro (H1.out.1.trans hf2 (fun i hi => .inl hi)) hc2); clear hf2 hc2))
        go_ret
        exact ⟨_, rfl, H2.out.1, OwnB.nil _ _, H2.out.2⟩
      · have hR := curText_of hX hs hm
        rw [hR]
        have hYl : (X.drop (numS X)).length ≤ 1000000 := by rw [List.length_drop]; omega
        obtain ⟨Y, hY⟩ : ∃ Y, Y = X.drop (numS X) := ⟨_, rfl⟩
        obtain ⟨n, hn⟩ : ∃ n, n = numV X := ⟨_, rfl⟩
        rw [← hY] at hN hYl ⊢
        rw [← hn] at hm hN hv ⊢
        have HN := Lib.hid hN
        have HF := Lib.hid hF
        have HYL := Lib.hid hYl
        clear hs hn hR hN hY hX h he0 hF hYl
        go_enter Tryz.func154, Tryz.ntmps154
        go_wp2_with (first
          | (go_at_call 153; refine HN.out.mono ?_; rintro e w1 ⟨rfl, hf1, hc1⟩; obtain ⟨v1, d0, d1, g0, g1, _⟩ := hc1.facts; have H1 := Lib.hid (And.intro hf1 hc1); clear hf1 hc1)
          | (go_at_call 177; refine (rRaw_any (n : Int) _ H1.out.2 (fun h => absurd rfl h) HYL.out (fun k hk => Nat.lt_of_lt_of_le (HF.out k hk) H1.out.1.size) (by omega) (by omega)).mono ?_; rintro e w2 ⟨v, rfl, hf2, ho2, hc2⟩; have H2 := Lib.hid (And.intro (H1.out.1.trans hf2 (fun i hi => .inl hi)) (And.intro (ho2.mono (G := fun k => w.heap.size ≤ k) (fun k _ h => Nat.le_trans H1.out.1.size h)) hc2)); clear hf2 ho2 hc2))
        go_ret
        exact ⟨_, rfl, H2.out.1, H2.out.2.1, H2.out.2.2⟩
  · obtain rfl := he0 he
    have hR : curText most [] e = ([], [], e) := by simp [curText, he]
    have hN := rNum_any 1099511627776 w h he0 hX
    rw [show curNum 1099511627776 [] e = (0, [], e) by simp [curNum, he]] at hN
    rw [hR]
    have he' : (e == 0) = false := by simpa using he
    have he2 : (e != 0) = true := by simpa using he
    have HN := Lib.hid hN
    clear hN hR he he0 hX h
    go_enter Tryz.func154, Tryz.ntmps154
    go_wp2_with (go_at_call 153; refine HN.out.mono ?_; rintro e w1 ⟨rfl, hf1, hc1⟩; obtain ⟨v1, d0, d1, g0, g1, _⟩ := hc1.facts; have H1 := Lib.hid (And.intro hf1 hc1); clear hf1 hc1)
    go_ret
    exact ⟨_, rfl, H1.out.1, OwnB.nil _ _, H1.out.2⟩
end Go.Proofs.YtiinmilfgclddaaGreat

