/- Laid together: JWrite JShape -/
import Derived.Test.YtldgcoikbjbjeaaGreatTk14
import Derived.Test.YtldgcoikbjbjeaaGreatTk8
import Derived.Deep.RegionHeld3

namespace Go.Proofs.YtldgcoikbjbjeaaGreat
open Go.RowKit Go.ChangeShapes Go.Maps Go.Sort
set_option linter.unusedVariables false
theorem Dv.puts_append (s : Nat) : ∀ (A B : List Pend) (d : Dv), d.puts s (A ++ B) = if (d.puts s A).1 = 0 then (d.puts s A).2.puts s B else d.puts s A
  | [], B, d => by simp [Dv.puts]
  | p :: A, B, d => by
    rw [List.cons_append, Dv.puts, Dv.puts]
    by_cases h : (d.write s p.1 p.2).1 = 0
    · rw [if_pos h, if_pos h]
      exact Dv.puts_append s A B _
    · rw [if_neg h, if_neg h, if_neg h]
theorem Dv.puts_one (s : Nat) (p : Pend) (d : Dv) : d.puts s [p] = d.write s p.1 p.2 := by
  rw [Dv.puts]
  split
  · rename_i h
    rw [Dv.puts, ← h]
  · rfl
theorem Dv.puts_step (s : Nat) (ps : List Pend) (d : Dv) (i : Nat) (hi : i < ps.length) (h : (d.puts s (ps.take i)).1 = 0) : d.puts s (ps.take (i + 1)) = (d.puts s (ps.take i)).2.write s ps[i].1 ps[i].2 := by
  rw [List.take_succ_eq_append_getElem hi, Dv.puts_append, if_pos h, Dv.puts_one]
theorem Dv.puts_stop (s : Nat) (ps : List Pend) (d : Dv) (i : Nat) (h : (d.puts s (ps.take i)).1 ≠ 0) : d.puts s ps = d.puts s (ps.take i) := by
  conv => lhs; rw [← List.take_append_drop i ps]
  rw [Dv.puts_append, if_neg h]
theorem secsOf_get (K : List UInt8) (a n i : Nat) (hi : i < (secsOf K a n).length) : (secsOf K a n)[i] = (a + i, secAt K (a + i)) := by
  simp [secsOf]
theorem ownsRow_form5 {w : World} {z n : Nat} {e : TypeId} {v : Value} {vs : List Value} (h : w.ownsRow z e 1 v n vs) : ∃ ao c, v = .slice ao n c ∧ n ≤ c ∧ c ≤ 9223372036854775807 ∧ (0 < n → ∃ g, ao = some ⟨g, 0, none⟩ ∧ z ≤ g ∧ g < w.heap.size ∧ ∀ j (hj : j < vs.length), w.cell? ⟨g, j, none⟩ = some vs[j]) := by
  have hl : vs.length = n := by simpa using h.1
  rcases h.2 with ⟨rfl, h0⟩ | ⟨g, cap, cur, rfl, hb, hg, hnc, hcm, hcs, ht⟩
  · exact ⟨none, 0, by rw [h0], by omega, by omega, fun hn => by omega⟩
  · unfold maxLen at hcm
    exact ⟨_, cap, rfl, hnc, by omega, fun _ => ⟨g, rfl, hb, lt_of_block hg, fun j hj => by
      rw [World.ownsRow.cellAt h j (by omega), List.getElem?_eq_getElem hj]⟩⟩
structure WroteAt (D : Nat → Prop) (w w2 wr : World) (g s k : Nat) (dv : Dv) (ps : List Pend) : Prop where
  ok : (dv.puts s (ps.take k)).1 = 0
  dev : DevAt wr (fun j => (D j ∧ j < w.heap.size) ∨ w2.heap.size ≤ j) g s (dv.puts s (ps.take k)).2
  fr : Fr (fun j => (D j ∧ j < w.heap.size) ∨ w2.heap.size ≤ j) w2 wr
def WritePost (D : Nat → Prop) (w : World) (g s : Nat) (r : Int × Dv) (e : Ending) (w' : World) : Prop := e = .returned (.int .i64 r.1) ∧ DevAt w' (More D w) g s r.2 ∧ Fr D w w'
theorem WroteAt.post {D : Nat → Prop} {w w2 wr : World} {g s : Nat} {d2 : Dv} (hf : Fr (fun _ => False) w w2) (hd : DevAt wr (fun j => (D j ∧ j < w.heap.size) ∨ w2.heap.size ≤ j) g s d2) (hr : Fr (fun j => (D j ∧ j < w.heap.size) ∨ w2.heap.size ≤ j) w2 wr) : DevAt wr (More D w) g s d2 ∧ Fr D w wr :=
  ⟨hd.mono fun j _ h => h.elim (fun h => .inl h.1) (fun h => .inr (Nat.le_trans hf.size h)), (hf.mono (T := D) (fun _ _ h => h.elim)).trans hr fun j h => h.elim (fun h => .inl h.1) (fun h => .inr (Nat.le_trans hf.size h))⟩
theorem lWrite_one {D G : Nat → Prop} (w w2 wr : World) (g s k : Nat) (dv : Dv) (ps : List Pend) (y : Value) (hs : s ≤ 8192) (hp : Pends s ps) (hk : k < ps.length) (hup : dv.down = false) (hw : dv.waits = []) (hk6 : dv.deeds ≤ 900000000) (hpl : ps.length ≤ 100000)
    (h : WroteAt D w w2 wr g s k dv ps) (hy : BytesIn G w2 y ps[k].2) (hG : ∀ j, G j → w.heap.size ≤ j ∧ j < w2.heap.size) :
    Calls Tryz.prog 88 #[.pointer (some ⟨g, 0, none⟩), .int .i64 (ps[k].1 : Nat), y] wr fun e w' => e = .returned (.int .i64 (dv.puts s (ps.take (k + 1))).1) ∧ DevAt w' (fun j => (D j ∧ j < w.heap.size) ∨ w2.heap.size ≤ j) g s (dv.puts s (ps.take (k + 1))).2 ∧ Fr (fun j => (D j ∧ j < w.heap.size) ∨ w2.heap.size ≤ j) w2 w' := by
  rw [Dv.puts_step s ps dv k hk h.ok]
  have hpk : Pends s (ps.take k) := fun p hm => hp p (List.mem_of_mem_take hm)
  have hl : (ps.take k).length = k := by rw [List.length_take]; omega
  have hq : (dv.puts s (ps.take k)).2.waits.length = k ∧ (dv.puts s (ps.take k)).2.deeds = dv.deeds + k := by
    rcases Dv.puts_cases s (ps.take k) dv hup hpk with ⟨_, _, a3, _, a5, _⟩ | ⟨_, b1, _⟩
    · rw [a3, a5, hw, List.nil_append, hl]
      exact ⟨rfl, rfl⟩
    · rw [h.ok] at b1
      cases b1
  have hps := hp ps[k] (List.getElem_mem hk)
  have hsz := h.fr.size
  refine (aWrite wr g s _ (ps[k].1 : Nat) y ps[k].2 (by omega) (by omega) (by omega) (by omega) (hy.keep h.fr (fun j hj hg hh => by have := hG j hg; omega)) (fun j hj hg hh => by have := hG j hg; omega) h.dev).mono ?_
  rintro e w' ⟨rfl, hd, hf⟩
  refine ⟨rfl, hd.mono fun j _ hh => hh.elim id (fun h2 => .inr (by omega)), h.fr.trans hf fun j hh => .inl hh⟩
theorem ownsMap_frS {S : Nat → Prop} {w w' : World} {b n : Nat} {D : DataW Value} (h : w.ownsMap Tryz.prog 3 heldR b n D) (hf : Fr S w w') (hS : ¬ S b) : w'.ownsMap Tryz.prog 3 heldR b n D := by
  obtain ⟨es, clock, hb, rest⟩ := h
  exact ⟨es, clock, hf.heap hb hS, rest⟩
set_option maxRecDepth 100000 in
set_option maxHeartbeats 4000000 in
theorem lWrite_any {D G : Nat → Prop} (w : World) (g s o : Nat) (dv : Dv) (vb : Value) (X : List UInt8) (hd : DevAt w D g s dv) (hup : dv.down = false) (hw : dv.waits = []) (hs : s ≤ 8192) (ho : o + X.length ≤ 64 * s) (hb : BytesIn G w vb X) (hk6 : dv.deeds ≤ 900000000) :
    Calls Tryz.prog 137 #[.pointer (some ⟨g, 0, none⟩), .int .i64 o, vb] w (WritePost D w g s (dv.puts s (secsAt dv.all o X))) := by
  have HLD := Lib.hid (lLaid_any w g s o dv vb X hd hup hw hs ho hb)
  obtain ⟨ps, hps⟩ : ∃ ps, ps = secsAt dv.all o X := ⟨_, rfl⟩
  have hpl : ps.length = manySecs o X.length := by rw [hps]; exact secsOf_length _ _ _
  have hpr : Pends s ps := by rw [hps]; exact secsAt_right hd.right.all ho
  have hget : ∀ i (h : i < ps.length), ps[i] = (o / 64 + i, secAt (over4 dv.all o X) (o / 64 + i)) := by
    intro i h
    subst hps
    exact secsOf_get _ _ _ i h
  have hm := manySecs_le s o X.length ho
  obtain ⟨n, hn⟩ : ∃ n, n = manySecs o X.length := ⟨_, rfl⟩
  have hnb : o / 64 + n ≤ 1000000 := by
    rcases hm with h | h
    · unfold firstSec at h; omega
    · rw [hn, manySecs, if_pos h]; omega
  have hnb2 : n ≤ 8192 := by
    rcases hm with h | h
    · omega
    · rw [hn, manySecs, if_pos h]; omega
  rw [← hps]
  rw [← hn] at HLD hpl
  have HD := Lib.hid (And.intro hd (And.intro hup (And.intro hw hk6)))
  have HP := Lib.hid (And.intro hpl (And.intro hpr (And.intro hget (And.intro hnb hnb2))))
  obtain ⟨ab, cb, hvb, _⟩ := hb
  subst hvb
  obtain ⟨lb, hlb⟩ : ∃ lb, lb = X.length := ⟨_, rfl⟩
  rw [← hlb] at HLD ⊢
  clear hd hup hw hk6 hpl hpr hget hnb hnb2 hm hn hps ho hlb
  go_enter Tryz.func137, Tryz.ntmps137
  go_wp2_with (first
    | (go_at_call 161; refine HLD.out.mono ?_; rintro e w1 ⟨mb, vs, rfl, hmb, hL⟩; (have HL := Lib.hid (And.intro hmb hL)); clear hmb hL)
    | (go_at_call 163; refine (keysP_any w1 mb).mono ?_; rintro e w1b ⟨rfl, rfl⟩)
    | (go_at_call 162; refine (sortedP_any mb n (mD (o / 64) vs n) heldR w1 HL.out.2.map (by rw [mD_size]; have := HP.out.2.2.2.2; unfold maxLen; omega) (by rw [mD_size]; have := HP.out.2.2.2.2; omega)).mono ?_; rintro e w2 ⟨v, ss, rfl, hp, hrow, hnil, hbel⟩; obtain ⟨ao3, c3, rfl, l3a, l3b, l3c⟩ := ownsRow_form5 hrow; obtain ⟨n2, hn2⟩ : ∃ n2, n2 = ss.length := ⟨_, rfl⟩; rw [← hn2]; rw [← hn2] at l3a; (have H3 := Lib.hid (And.intro hp (And.intro hn2 (And.intro hbel l3c)))); clear hp hrow hnil hbel l3c hn2))
  have hfw : Fr (fun _ => False) w1 w2 := ((Fr.refl (fun _ => False) w1).alloc _).trans (T := fun k => (w1.alloc (.cells #[.map (some mb)] 223)).heap.size ≤ k) (Fr.ofBelow H3.out.2.2.1) (fun k h => .inr (Nat.le_trans (by simp) h))
  have hfw2 : Fr (fun _ => False) w w2 := HL.out.2.fr.trans hfw (fun _ h => h.elim)
  have hnn : n2 = n := by rw [H3.out.2.1]; exact mD_count _ _ _ _ H3.out.1
  have hsort := mD_sorted _ _ _ _ H3.out.1
  have hmbl : mb < w1.heap.size := HL.out.2.map.lt
  have hrow : 0 < n2 → ∃ gr, ao3 = some ⟨gr, 0, none⟩ ∧ w.heap.size ≤ gr ∧ gr < w2.heap.size ∧ ∀ i, i < n2 → w2.cell? ⟨gr, i, none⟩ = some (.int .i64 ((o / 64 + i : Nat) : Int)) := by
    intro h0
    obtain ⟨gr, e1, e2, e3, e4⟩ := H3.out.2.2.2 (by rw [← H3.out.2.1]; exact h0)
    refine ⟨gr, e1, ?_, e3, fun i hi => ?_⟩
    · have := HL.out.2.fr.size
      simp at e2
      omega
    · have h1 := e4 i (by rw [List.length_map, List.length_mergeSort, ← H3.out.2.1]; exact hi)
      rw [h1]
      simp only [hsort, List.getElem_map, List.getElem_range]
  have HF2 := Lib.hid (And.intro hfw hfw2)
  have HR := Lib.hid (And.intro hrow (And.intro hmbl hnn))
  have h0 : WroteAt D w w2 w2 g s 0 dv ps := ⟨rfl, (HD.out.1.mono (E := fun j => D j ∧ j < w.heap.size) (fun j hj h => ⟨h, hj⟩)).keep hfw2 (fun _ _ _ h => h) |>.mono (fun j _ h => .inl h), Fr.refl _ _⟩
  have H0 := Lib.hid h0
  have hn2b : n2 ≤ 8192 := by rw [hnn]; exact HP.out.2.2.2.2
  clear h0 hrow hmbl hnn hsort hfw hfw2
  go_loopw [26] (fun iv wr => ∃ k : Nat, k ≤ n2 ∧ iv = .int .i64 k ∧ Hid (WroteAt D w w2 wr g s k dv ps)) (fun iv _ => n2 - (intOf iv).toNat)
  case atStart => exact ⟨0, by omega, rfl, H0⟩
  case round =>
    obtain ⟨k, hk, rfl, hR⟩ := hrel
    clear H0
    by_cases hlt : k < n2
    · obtain ⟨gr, rfl, hg1, hg2, hcell⟩ := HR.out.1 (by omega)
      have hkp : k < ps.length := by rw [HP.out.1, ← HR.out.2.2]; exact hlt
      obtain ⟨x, hx⟩ : ∃ x, x = o / 64 + k := ⟨_, rfl⟩
      obtain ⟨y, hy⟩ : ∃ y, y = vs k := ⟨_, rfl⟩
      have hc := hR.out.fr.cell (hcell k hlt) (by simp only; omega)
      have hmr := ownsMap_frS (ownsMap_fr HL.out.2.map HF2.out.1) hR.out.fr (by have := HL.out.1; have := HR.out.2.1; have := HF2.out.1.size; omega)
      have hlk := mD_lookup hmr k (by rw [← HR.out.2.2]; exact hlt) HP.out.2.2.2.1
      have hyb : BytesIn (fun j => w.heap.size ≤ j ∧ j < w2.heap.size) w2 (vs k) ps[k].2 := by
        rw [HP.out.2.2.1 k hkp]
        have h := (HL.out.2.secs k (by rw [← HR.out.2.2]; exact hlt)).bytes
        exact (h.mono (G := fun j => w.heap.size ≤ j ∧ j < w2.heap.size) (fun j hj h => ⟨h.1, Nat.lt_of_lt_of_le hj HF2.out.1.size⟩)).keep HF2.out.1 (fun _ _ _ h => h)
      have hwo := lWrite_one w w2 wr g s k dv ps (vs k) hs HP.out.2.1 hkp HD.out.2.1 HD.out.2.2.1 HD.out.2.2.2 (by rw [HP.out.1]; have := HP.out.2.2.2.2; omega) hR.out hyb (fun _ h => h)
      have e1 : ps[k].1 = x := by rw [HP.out.2.2.1 k hkp, hx]
      rw [e1, ← hy] at hwo
      rw [← hx, ← hy] at hlk
      rw [← hx] at hc
      obtain ⟨e, he⟩ : ∃ e, e = (dv.puts s (ps.take (k + 1))).1 := ⟨_, rfl⟩
      rw [← he] at hwo
      have HE := Lib.hid he
      have HWO := Lib.hid hwo
      have hk0 : (0 : Int) ≤ (k : Int) := by omega
      have hk1 : (k : Int) < (n2 : Int) := by omega
      clear hcell hmr hyb hwo e1 he hkp hx hy
      by_cases h0 : e = 0
      · subst h0
        go_wp2_with (go_at_call 88; refine HWO.out.mono ?_; rintro e w5 ⟨rfl, hd5, hf5⟩; (have H5 := Lib.hid (And.intro hd5 hf5)); clear hd5 hf5)
        go_roundw
        case rel => exact ⟨k + 1, by omega, by go_num, Lib.hid ⟨HE.out.symm, H5.out.1, H5.out.2⟩⟩
        case measure => simp [intOf]; omega
      · have hb : (e != 0) = true := by rw [bne_iff_ne]; exact h0
        have HST := Lib.hid (Dv.puts_stop s ps dv (k + 1) (by rw [← HE.out]; exact h0))
        clear h0
        go_wp2_with (go_at_call 88; refine HWO.out.mono ?_; rintro e w5 ⟨rfl, hd5, hf5⟩; (have H5 := Lib.hid (And.intro hd5 hf5)); clear hd5 hf5)
        go_ret
        have hp := WroteAt.post HF2.out.2 H5.out.1 H5.out.2
        unfold WritePost
        rw [HST.out, ← HE.out]
        exact ⟨rfl, hp⟩
    · obtain rfl : k = n2 := by omega
      have HQ := Lib.hid (show DevAt wr (More D w) g s (dv.puts s ps).2 ∧ Fr D w wr ∧ (dv.puts s ps).1 = 0 by
        have h1 := WroteAt.post HF2.out.2 hR.out.dev hR.out.fr
        have h2 := hR.out.ok
        rw [List.take_of_length_le (by rw [HP.out.1, ← HR.out.2.2]; exact Nat.le_refl _)] at h1 h2
        exact ⟨h1.1, h1.2, h2⟩)
      clear hR
      go_wp2
      go_ret
      unfold WritePost
      rw [HQ.out.2.2]
      exact ⟨rfl, HQ.out.1, HQ.out.2.1⟩
end Go.Proofs.YtldgcoikbjbjeaaGreat
namespace Go.Proofs.YtldgcoikbjbjeaaGreat
open Go.RowKit Go.ChangeShapes
set_option linter.unusedVariables false
def manyS (n : Int) : Bool := decide (1 ≤ n ∧ n ≤ 8192)
theorem lMany_any (w : World) (n : Int) :
    Calls Tryz.prog 24 #[.int .i64 n] w fun e w' => e = .returned (.bool (manyS n)) ∧ w = w' := by
  by_cases h1 : 1 ≤ n
  · by_cases h2 : n ≤ 8192
    · have hR : manyS n = true := by rw [manyS, decide_eq_true_iff]; exact ⟨h1, h2⟩
      rw [hR]
      clear hR
      go_enter Tryz.func24, Tryz.ntmps24
      go_wp2
      go_ret
      exact ⟨rfl, rfl⟩
    · have hR : manyS n = false := by rw [manyS, decide_eq_false_iff_not]; omega
      rw [hR]
      clear hR
      go_enter Tryz.func24, Tryz.ntmps24
      go_wp2
      go_ret
      exact ⟨rfl, rfl⟩
  · have hR : manyS n = false := by rw [manyS, decide_eq_false_iff_not]; omega
    rw [hR]
    clear hR
    go_enter Tryz.func24, Tryz.ntmps24
    go_wp2
    go_ret
    exact ⟨rfl, rfl⟩
theorem manyS_yes {n : Int} (h : manyS n = true) : ∃ m : Nat, n = m ∧ 1 ≤ m ∧ m ≤ 8192 := by
  rw [manyS, decide_eq_true_iff] at h
  exact ⟨n.toNat, by omega, by omega, by omega⟩
theorem manyS_nat {m : Nat} (h1 : 1 ≤ m) (h2 : m ≤ 8192) : manyS (m : Int) = true := by
  rw [manyS, decide_eq_true_iff]; omega
theorem lArea_any (w : World) (L A D n : Nat) (hL : L ≤ 8192) (hA : A ≤ 8192) (hn : n ≤ 2) :
    Calls Tryz.prog 50 #[.agg #[.int .i64 L, .int .i64 A, .int .i64 D], .int .i64 n] w fun e w' => e = .returned (.int .i64 ((1 + L + n * A : Nat) : Int)) ∧ Fr (fun _ => False) w w' := by
  obtain ⟨m, hm⟩ : ∃ m, m = n * A := ⟨_, rfl⟩
  have hmb : m ≤ 16384 := by rw [hm]; exact Nat.le_trans (Nat.mul_le_mul hn hA) (by decide)
  have hmi : (n : Int) * (A : Int) = (m : Int) := by rw [hm]; push_cast; rfl
  rw [← hm]
  have HM := Lib.hid hm
  clear hm
  go_enter Tryz.func50, Tryz.ntmps50
  go_wp2
  go_ret
  exact ⟨by push_cast; rfl, (Fr.refl _ _).alloc _⟩
theorem lData_any (w : World) (L A D : Nat) (hL : L ≤ 8192) (hA : A ≤ 8192) :
    Calls Tryz.prog 25 #[.agg #[.int .i64 L, .int .i64 A, .int .i64 D]] w fun e w' => e = .returned (.int .i64 ((1 + L + 2 * A : Nat) : Int)) ∧ Fr (fun _ => False) w w' := by
  have hc := fun w => lArea_any w L A D 2 hL hA (by decide)
  have HC := Lib.hid hc
  clear hc
  go_enter Tryz.func25, Tryz.ntmps25
  go_wp2_with (go_at_call 50; refine (HC.out _).mono ?_; rintro e w1 ⟨rfl, hf1⟩; (have H1 := Lib.hid hf1); clear hf1)
  go_ret
  exact ⟨rfl, ((Fr.refl _ w).alloc _).trans H1.out (fun _ h => h.elim)⟩
end Go.Proofs.YtldgcoikbjbjeaaGreat
