/- Contracts: hash.begin, (*hash.taker).end, hash.Sum. -/
import Derived.Test.YthjpgnmpcllolaaDoorSumW
namespace Go.Proofs.YthjpgnmpcllolaaDoor
open Go.RowKit Go.ChangeShapes
set_option linter.unusedVariables false

def zTak : Array Value := takCells ⟨0, 0, 0, 0, 0, 0, 0, 0⟩ (List.replicate 64 0) 0
def bTak : Array Value := takCells h0 (List.replicate 64 0) 0
theorem zTak_zero (w : World) : (zeroValue 58).run Tryd.prog w = .ok (.agg zTak) w := by kernel_rfl
theorem zTak_set : ((((((((zTak.setIfInBounds 0 (uw h0.a)).setIfInBounds 1 (uw h0.b)).setIfInBounds 2 (uw h0.c)).setIfInBounds 3 (uw h0.d)).setIfInBounds 4 (uw h0.e)).setIfInBounds 5 (uw h0.f)).setIfInBounds 6 (uw h0.g)).setIfInBounds 7 (uw h0.h)) = bTak := by rfl
theorem zTak_size : ¬ zTak.size < 8 := by decide

set_option maxRecDepth 100000 in
set_option maxHeartbeats 2000000 in
theorem begin_any (w : World) (hL : Laid w) :
    Calls Tryd.prog 22 #[] w fun e w' => ∃ b, e = .returned (.pointer (some ⟨b, 0, none⟩)) ∧ w.heap.size ≤ b ∧ Fr (fun _ => False) w w' ∧ TakAt w' b [] := by
  have c0 := hL.first 0 _ rfl
  have c1 := hL.first 1 _ rfl
  have c2 := hL.first 2 _ rfl
  have c3 := hL.first 3 _ rfl
  have c4 := hL.first 4 _ rfl
  have c5 := hL.first 5 _ rfl
  have c6 := hL.first 6 _ rfl
  have c7 := hL.first 7 _ rfl
  clear hL
  have hz := zTak_zero
  have hzs := zTak_set
  have hzz := zTak_size
  go_enter Tryd.func22, Tryd.ntmps22
  go_wp2
  go_ret
  refine ⟨_, rfl, Nat.le_refl _, (Fr.refl _ _).alloc _, List.replicate 64 0, ⟨by simp, rfl⟩, ?_⟩
  exact heap_alloc_new w _

/-- What stands behind, the first k of its last eight bytes being there. -/
def tl (r N k : Nat) : List UInt8 := 128 :: List.replicate (63 - r) 0 ++ ((be8 N).take k ++ List.replicate (8 - k) 0)
theorem be8_length (N : Nat) : (be8 N).length = 8 := by simp [be8]
theorem be8_get (N k : Nat) (hk : k < 8) : (be8 N).getD k 0 = UInt8.ofNat (N / 2 ^ (8 * (7 - k))) := by
  rw [List.getD_eq_getElem?_getD, List.getElem?_eq_getElem (by rw [be8_length]; exact hk)]
  simp [be8]
theorem tl_length (r N k : Nat) (hr : r < 64) (hk : k ≤ 8) : (tl r N k).length = 72 - r := by
  simp [tl, be8_length]
  omega
theorem tl_zero (r N : Nat) (hr : r < 64) : tl r N 0 = (List.replicate (72 - r) (0 : UInt8)).set 0 128 := by
  rw [show 72 - r = (63 - r + 8) + 1 by omega, List.replicate_succ, List.set_cons_zero]
  unfold tl
  rw [List.take_zero, List.nil_append, List.cons_append, List.replicate_append_replicate]
theorem tl_set (r N k : Nat) (hr : r < 64) (hk : k < 8) : (tl r N k).set (64 - r + k) ((be8 N).getD k 0) = tl r N (k + 1) := by
  unfold tl
  have hl : (128 :: List.replicate (63 - r) (0 : UInt8)).length = 64 - r := by simp; omega
  rw [List.set_append_right _ _ (by rw [hl]; omega), hl, show 64 - r + k - (64 - r) = k by omega]
  congr 1
  rw [List.set_append_right _ _ (by simp; omega), List.length_take, be8_length, show k - min k 8 = 0 by omega, show 8 - k = (8 - (k + 1)) + 1 by omega, List.replicate_succ, List.set_cons_zero,
    List.take_succ_eq_append_getElem (by rw [be8_length]; exact hk), List.getD_eq_getElem?_getD, List.getElem?_eq_getElem (by rw [be8_length]; exact hk), List.append_assoc]
  rfl
theorem tl_end (n : Nat) : tl ((n + 8) % 64) (8 * n) 8 = padOf n := by
  simp [tl, padOf, List.take_of_length_le (Nat.le_of_eq (be8_length (8 * n)))]

/-- What end has made: its result's row, and the tail. -/
structure EnAt (w wr : World) (r N k : Nat) : Prop where
  fr : Fr (fun _ => False) w wr
  res : wr.heap[w.heap.size]? = some (.cells (bcells 32 (List.replicate 32 0) 0) 27 (0, 0))
  row : Byt wr (w.heap.size + 1) (tl r N k)
theorem EnAt.set_ {w wr : World} {r N k : Nat} (h : EnAt w wr r N k) (hr : r < 64) (hk : k < 8) (j : Nat) (hj : j = 64 - r + k) (x : Int) (hx : x = ((be8 N).getD k 0).toNat) : EnAt w (wr.setCell ⟨w.heap.size + 1, j, none⟩ (.int .u8 x)) r N (k + 1) := by
  subst hj
  refine ⟨h.fr.setCell (.inr (by simp)) _, ?_, ?_⟩
  · rw [Below.heap_setCell _ _ _ _ (by simp)]
    exact h.res
  · rw [← tl_set r N k hr hk]
    exact h.row.set_ _ _ _ hx

set_option maxRecDepth 100000 in
set_option maxHeartbeats 2000000 in
theorem end_any {b : Nat} {M : List UInt8} (w : World) (hL : Laid w) (hb : 2 ≤ b) (hT : TakAt w b M) (hM : M.length ≤ 100000000000) :
    Calls Tryd.prog 24 #[.pointer (some ⟨b, 0, none⟩)] w fun e w' => e = .returned (.agg ((digest M).map bv).toArray) ∧ Fr (· = b) w w' := by
  obtain ⟨buf, hbuf, hblk⟩ := id hT
  have c72 : w.cell? ⟨b, 72, none⟩ = some (.int .i64 M.length) := by rw [cell_of_row _ _ _ _ _ _ hblk, takCells_n _ _ _ hbuf.1]
  obtain ⟨n, hn⟩ : ∃ n, n = M.length := ⟨_, rfl⟩
  obtain ⟨r, hr⟩ : ∃ r, r = (M.length + 8) % 64 := ⟨_, rfl⟩
  rw [← hn] at c72 hM
  have er : ((n : Int) + 8) % 64 = (r : Int) := by omega
  have hr64 : r < 64 := by omega
  have hlt := lt_of_block hblk
  have hmk : ∀ w : World, (Instr.makeSlice 38 (.int .i64 (64 - (r : Int) + 8)) (.int .i64 (64 - (r : Int) + 8))).run Tryd.prog w = .ok (.slice (some ⟨w.heap.size, 0, none⟩) (72 - r) (72 - r)) (w.alloc (.cells (zerosA (72 - r)) 5)) :=
    fun w => run_make_bytes w (64 - (r : Int) + 8) (72 - r) (by omega) (by omega)
  have hz0 := zerosA_get (72 - r) 0 (by omega)
  have hz1 : (0 : Int) < ((72 - r : Nat) : Int) := by omega
  have H := Lib.hid (And.intro hL hT)
  have HN := Lib.hid (And.intro hn hr)
  clear hn hr hL hbuf hblk hT
  go_enter Tryd.func24, Tryd.ntmps24
  go_wp2_with fail
  go_loopw [24] (fun iv wr => ∃ k : Nat, k ≤ 8 ∧ iv = .int .i64 k ∧ Hid (EnAt w wr r (8 * n) k)) (fun iv _ => 8 - (intOf iv).toNat)
  case atStart =>
    refine ⟨0, by omega, rfl, Lib.hid ⟨((Fr.refl _ _).alloc _).alloc _, ?_, ?_⟩⟩
    · exact heap_alloc2_old w _ _
    · rw [tl_zero r (8 * n) hr64, zerosA_set (72 - r) 0 128 128 rfl]
      exact heap_alloc2_new w _ _
  case round =>
    obtain ⟨k, hk, rfl, hR⟩ := hrel
    by_cases hlt8 : k < 8
    · obtain ⟨j, hj⟩ : ∃ j, j = 64 - r + k := ⟨_, rfl⟩
      obtain ⟨c, hc⟩ : ∃ c, c = 8 * (7 - k) := ⟨_, rfl⟩
      have ej : 64 - (r : Int) + (k : Int) = (j : Int) := by omega
      have ec : 8 * (7 - (k : Int)) = (c : Int) := by omega
      have em : min c 64 = c := by omega
      have hj1 : (j : Int) < ((72 - r : Nat) : Int) := by omega
      have hj0 : (0 : Int) ≤ (j : Int) := by omega
      have cj := hR.out.row.cell j (by rw [tl_length _ _ _ hr64 hk]; omega)
      have fj := hR.out.row.free j
      have HJ := Lib.hid hj
      have HV := Lib.hid (show ((n : Int) * 8) / 2 ^ c % 256 = (((be8 (8 * n)).getD k 0).toNat : Int) by
        have h := byte_spell (8 * n) c _ (be8_get (8 * n) k hlt8 |>.trans (by rw [hc]))
        rw [← h]
        congr 2
        omega)
      clear hj hc
      generalize ((tl r (8 * n) k).getD j 0) = z at cj
      go_wp2_with fail
      go_roundw
      case rel => exact ⟨k + 1, by omega, by go_num, Lib.hid (hR.out.set_ hr64 hlt8 j HJ.out _ HV.out)⟩
      case measure => simp [intOf]; omega
    · obtain rfl : k = 8 := by omega
      go_wp2_with fail
      have hsz := hR.out.fr.size
      have hpl := tl_length r (8 * n) 8 hr64 (Nat.le_refl _)
      have hge := hR.out.row.lt
      have hrow : RowsIn (fun j => w.heap.size ≤ j) (wr.alloc (.cells #[.slice (some ⟨w.heap.size + 1, 0, none⟩) (72 - r) (72 - r)] 38)) (.slice (some ⟨wr.heap.size, 0, none⟩) 1 1) [tl r (8 * n) 8] := by
        have hb := (hR.out.row.bytes (by rw [hpl]; simp [maxLen]; omega)).mono (G := fun j => w.heap.size ≤ j) (fun i _ h => by subst h; omega)
        rw [hpl] at hb
        exact RowsIn.one hsz hb (by rw [hpl]; omega)
      have hfl : [tl r (8 * n) 8].flatten = padOf M.length := by rw [List.flatten_cons, List.flatten_nil, List.append_nil, HN.out.2, HN.out.1, tl_end]
      have HC := Lib.hid (take_any (b := b) (M := M) (wr.alloc (.cells #[.slice (some ⟨w.heap.size + 1, 0, none⟩) (72 - r) (72 - r)] 38)) (H.out.1.keep (hR.out.fr.alloc _) (fun _ _ h => h)) hb
        (H.out.2.keep (hR.out.fr.alloc _) (fun h => h)) hrow (fun k hk e => by omega) (by rw [hfl, padOf_length, ← HN.out.1]; omega))
      have HFL := Lib.hid hfl
      clear hrow hfl hpl hmk hz0 hz1
      refine HC.out.mono ?_
      rintro e w1 ⟨rfl, hf1, ht1⟩
      rw [HFL.out] at ht1
      obtain ⟨buf2, hb2, hblk2⟩ := ht1
      have hF1 : Fr (fun j => j = b) w w1 := (((hR.out.fr.alloc _).mono (fun _ _ h => h.elim)).trans hf1 (fun _ h => .inl h))
      have hres : w1.heap[w.heap.size]? = some (.cells (bcells 32 (List.replicate 32 0) 0) 27 (0, 0)) := (hf1.heap (((Fr.refl (fun _ => False) wr).alloc _).heap hR.out.res (fun h => h)) (by omega))
      have hs := sumw_any (b := b) (s := takSt (M ++ padOf M.length)) (rest := buf2.map bv ++ [Value.int .i64 (M ++ padOf M.length).length]) (T := 58) w1 hblk2 (takSt_ok _)
      have hd : digest M = (takSt (M ++ padOf M.length)).bytes := by
        unfold digest takSt
        rw [show (M.length + 72) / 64 = (M ++ padOf M.length).length / 64 by rw [List.length_append, padOf_length]; omega]
      rw [← hd] at hs
      obtain ⟨C, hC⟩ : ∃ C, C = ((digest M).map bv).toArray := ⟨_, rfl⟩
      have hcs : C.size = 32 := by rw [hC]; rfl
      have hone : C.all (·.oneCell') = true := by rw [hC]; exact all_oneCell_toArray (bv_one _)
      have hs0 := bcells_size 32 (List.replicate 32 0) 0 (by simp) (by omega)
      obtain ⟨C0, hC0⟩ : ∃ C0, C0 = bcells 32 (List.replicate 32 0) 0 := ⟨_, rfl⟩
      rw [← hC] at hs
      have HCE := Lib.hid hC
      rw [← hC0] at hres hs0
      have HS := Lib.hid hs
      have HF1 := Lib.hid hF1
      have HRES := Lib.hid hres
      clear hf1 hb2 hblk2 hF1 hres hR HC c72 hs hd hC hC0
      go_wp2_with (first
        | (go_at_call 31; refine HS.out.mono ?_; rintro e w2 ⟨rfl, hf2⟩; have hr2 := hf2.heap HRES.out (fun h => h); have HF2 := Lib.hid hf2; clear hf2)
        | (with_reducible refine wpList_store_row rfl 27 (.tmp 2) (.tmp 46) rfl w.heap.size C C0 27 rfl rfl hr2 (by rw [hcs]; kernel_rfl) (by rw [hs0, hcs]) hone ?_))
      refine bodyPost_ret (results_cell_row rfl _ _ w.heap.size 27 C (0, 0) _ rfl (setRow_heap _ _ _ _ _ _ hr2) Tryd.underlying27 rfl (by rw [hcs]; kernel_rfl)) rfl ⟨by rw [HCE.out], (HF1.out.trans HF2.out (fun _ h => h.elim)).setRow (.inr (Nat.le_refl _)) _⟩
end Go.Proofs.YthjpgnmpcllolaaDoor
