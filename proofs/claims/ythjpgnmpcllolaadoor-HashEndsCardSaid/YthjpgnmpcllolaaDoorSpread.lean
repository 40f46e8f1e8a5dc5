/- Contract: hash.spread. -/
import Derived.Test.YthjpgnmpcllolaaDoorWordAt
import Derived.Test.YthjpgnmpcllolaaDoorArr

import Derived.Deep.RegionHeld3
namespace Go.Proofs.YthjpgnmpcllolaaDoor
open Go.RowKit Go.ChangeShapes
set_option linter.unusedVariables false

def uw (x : Nat) : Value := .int .u32 x
theorem run_cutLow' (w : World) (ao : Option Addr) (l cap n : Nat) (m : Int) (hm : m = n) (hn : n ≤ l) :
    (Instr.slice 38 (.slice ao l cap) (some (.int .i64 m)) none none).run Tryd.prog w = .ok (.slice (cutLow ao n cap) (l - n) (cap - n)) w := by
  subst hm
  exact run_cutLow w ao l cap n hn

/-- The cells of the words, the first k of which are there. -/
def wcells (L : List UInt8) (k : Nat) : Array Value := ((wl L k).map uw ++ List.replicate (64 - k) (uw 0)).toArray
theorem wcells_size (L : List UInt8) (k : Nat) (hk : k ≤ 64) : (wcells L k).size = 64 := by simp [wcells, wl_length]; omega
theorem wcells_get (L : List UInt8) (k i : Nat) (hk : k ≤ 64) (hi : i < k) : (wcells L k)[i]? = some (uw ((wl L k).getD i 0)) := by
  have h : i < (wl L k).length := by rw [wl_length]; exact hi
  simp only [wcells, List.getElem?_toArray]
  rw [List.getElem?_append_left (by simpa using h), List.getElem?_map, List.getElem?_eq_getElem h, List.getD_eq_getElem?_getD, List.getElem?_eq_getElem h]
  rfl
theorem wcells_next (L : List UInt8) (k : Nat) (hk : k < 64) : (wcells L k)[k]? = some (uw 0) := by
  simp only [wcells, List.getElem?_toArray]
  rw [List.getElem?_append_right (by simp [wl_length]), List.length_map, wl_length, Nat.sub_self, List.getElem?_replicate, if_pos (by omega)]
theorem wcells_set (L : List UInt8) (k : Nat) (hk : k < 64) : (wcells L k).setIfInBounds k (uw (wnext L k (wl L k))) = wcells L (k + 1) := by
  apply Array.ext'
  simp only [wcells, Array.toList_setIfInBounds, wl]
  rw [List.set_append_right _ _ (by simp [wl_length]), List.length_map, wl_length, Nat.sub_self, show 64 - k = (64 - (k + 1)) + 1 by omega, List.replicate_succ, List.set_cons_zero]
  simp

/-- The two blocks of spread, k rounds done. -/
structure SpAt (w wr : World) (L : List UInt8) (k : Nat) : Prop where
  fr : Fr (fun _ => False) w wr
  res : wr.heap[w.heap.size]? = some (.cells (wcells L 0) 74 (0, 0))
  row : wr.heap[w.heap.size + 1]? = some (.cells (wcells L k) 74 (0, 0))
theorem SpAt.drewN {w wr : World} {L : List UInt8} {k : Nat} (h : SpAt w wr L k) (n : Nat) : SpAt w (wr.drewN n) L k := ⟨h.fr.drewN n, h.res, h.row⟩
theorem SpAt.set_ {w wr : World} {L : List UInt8} {k : Nat} (h : SpAt w wr L k) (hk : k < 64) (x : Int) (hx : x = wnext L k (wl L k)) : SpAt w (wr.setCell ⟨w.heap.size + 1, k, none⟩ (.int .u32 x)) L (k + 1) := by
  refine ⟨h.fr.setCell (.inr (by simp)) _, ?_, ?_⟩
  · rw [Below.heap_setCell _ _ _ _ (by simp)]
    exact h.res
  · rw [heap_setCell_at _ h.row, hx]
    exact congrArg (fun c => some (Obj.cells c _ _)) (wcells_set L k hk)
theorem SpAt.cell {w wr : World} {L : List UInt8} {k : Nat} (h : SpAt w wr L k) (i : Nat) (hk : k ≤ 64) (hi : i < k) : wr.cell? ⟨w.heap.size + 1, i, none⟩ = some (.int .u32 ((wl L k).getD i 0 : Nat)) := by
  rw [cell_of_row _ _ _ _ _ _ h.row, wcells_get L k i hk hi]
  rfl
theorem SpAt.next {w wr : World} {L : List UInt8} {k : Nat} (h : SpAt w wr L k) (hk : k < 64) : wr.cell? ⟨w.heap.size + 1, k, none⟩ = some (.int .u32 0) ∧ wr.frozen? ⟨w.heap.size + 1, k, none⟩ = false := by
  rw [cell_of_row _ _ _ _ _ _ h.row, wcells_next L k hk]
  exact ⟨rfl, frozen_of_row _ _ _ _ _ h.row⟩

theorem sg_spell (f : Nat → Nat) (x i j d k : Nat) (hx : x < 4294967296) (hf : f x = rotr x i ^^^ rotr x j ^^^ x >>> k) (hd : d = 2 ^ k) :
    bits .xor .u32 (bits .xor .u32 (rotr x i : Nat) (rotr x j : Nat)) ((x : Int) / d) = (f x : Nat) := by
  rw [u32_xor_nat _ _ (rotr_lt hx) (rotr_lt hx), hf, hd, Nat.shiftRight_eq_div_pow]
  have h := u32_xor_nat (rotr x i ^^^ rotr x j) (x / 2 ^ k) (xor_lt (rotr_lt hx) (rotr_lt hx)) (Nat.lt_of_le_of_lt (Nat.div_le_self _ _) hx)
  rw [← h]
  push_cast
  rfl

set_option maxRecDepth 100000 in
set_option maxHeartbeats 4000000 in
theorem spread_any {F : Nat → Prop} {v : Value} {L : List UInt8} (w : World) (h : BytesIn F w v L) (hl : L.length = 64) :
    Calls Tryd.prog 44 #[v] w fun e w' => e = .returned (.agg ((wl L 64).map uw).toArray) ∧ Fr (fun _ => False) w w' := by
  obtain ⟨ao, cap, rfl, h1, h2, _⟩ := id h
  have HB := Lib.hid h
  have HL := Lib.hid hl
  unfold maxLen at h2
  rw [hl] at h1 ⊢
  clear h hl
  go_enter Tryd.func44, Tryd.ntmps44
  go_wp2_with fail
  go_loopw [9] (fun i wr => ∃ k : Nat, k ≤ 64 ∧ i = .int .i64 k ∧ Hid (SpAt w wr L k)) (fun i _ => 64 - (intOf i).toNat)
  case atStart =>
    refine ⟨0, by omega, rfl, Lib.hid ⟨((Fr.refl _ _).alloc _).alloc _, ?_, ?_⟩⟩
    · exact heap_alloc2_old w _ _
    · exact heap_alloc2_new w _ _
  case round =>
    obtain ⟨k, hk, rfl, hS⟩ := hrel
    by_cases hlt : k < 64
    · by_cases h16 : k < 16
      · have hB := HB.out.keep hS.out.fr (fun _ _ _ h => h)
        rw [HL.out] at hB
        have HC := Lib.hid (wordAt_any wr (hB.cutLow (4 * k) (by rw [HL.out]; omega)) (by rw [List.length_drop, HL.out]; omega))
        have hsl := fun w => run_cutLow' w ao 64 cap (4 * k) (4 * (k : Int)) (by push_cast; rfl) (by omega)
        obtain ⟨c0, f0⟩ := hS.out.next hlt
        have HX := Lib.hid (show ((wordOf (L.drop (4 * k)) : Nat) : Int) = wnext L k (wl L k) by rw [wnext, if_pos h16])
        clear hB
        go_wp2_with (go_at_call 49; refine HC.out.mono ?_; rintro e w1 ⟨rfl, n, rfl⟩)
        go_roundw
        case rel => exact ⟨k + 1, by omega, by go_num, Lib.hid ((hS.out.drewN n).set_ hlt _ HX.out)⟩
        case measure => simp [intOf]; omega
      · have hx2 := getD_lt (wl_lt L k) (k - 2)
        have hx7 := getD_lt (wl_lt L k) (k - 7)
        have hx15 := getD_lt (wl_lt L k) (k - 15)
        have hx16 := getD_lt (wl_lt L k) (k - 16)
        have c2 := hS.out.cell (k - 2) hk (by omega)
        have c7 := hS.out.cell (k - 7) hk (by omega)
        have c15 := hS.out.cell (k - 15) hk (by omega)
        have c16 := hS.out.cell (k - 16) hk (by omega)
        have HW := Lib.hid (show wnext L k (wl L k) = (sg1 ((wl L k).getD (k - 2) 0) + (wl L k).getD (k - 7) 0 + sg0 ((wl L k).getD (k - 15) 0) + (wl L k).getD (k - 16) 0) % 4294967296 by rw [wnext, if_neg h16])
        generalize (wl L k).getD (k - 2) 0 = y2 at *
        generalize (wl L k).getD (k - 7) 0 = y7 at *
        generalize (wl L k).getD (k - 15) 0 = y15 at *
        generalize (wl L k).getD (k - 16) 0 = y16 at *
        have s1 : bits .xor .u32 (bits .xor .u32 (rotr y2 17 : Nat) (rotr y2 19 : Nat)) ((y2 : Int) / 1024) = (sg1 y2 : Nat) := sg_spell sg1 y2 17 19 1024 10 hx2 rfl rfl
        have s0 : bits .xor .u32 (bits .xor .u32 (rotr y15 7 : Nat) (rotr y15 18 : Nat)) ((y15 : Int) / 8) = (sg0 y15 : Nat) := sg_spell sg0 y15 7 18 8 3 hx15 rfl rfl
        have i2 : IntKind.i64.wrap ((k : Int) - 2) = ((k - 2 : Nat) : Int) := by rw [IntWalk.i64_in _ (by omega)]; omega
        have i7 : IntKind.i64.wrap ((k : Int) - 7) = ((k - 7 : Nat) : Int) := by rw [IntWalk.i64_in _ (by omega)]; omega
        have i15 : IntKind.i64.wrap ((k : Int) - 15) = ((k - 15 : Nat) : Int) := by rw [IntWalk.i64_in _ (by omega)]; omega
        have i16 : IntKind.i64.wrap ((k : Int) - 16) = ((k - 16 : Nat) : Int) := by rw [IntWalk.i64_in _ (by omega)]; omega
        go_wp2_with fail
        go_quiet (fail)
        go_wp2_with (go_at_call 45; refine (turned_int _ _ _ (by assumption) (by omega) (by omega)).mono ?_; rintro e w' ⟨rfl, rfl⟩)
        have b7 : ((k - 7 : Nat) : Int) < 64 := by omega
        have b16 : ((k - 16 : Nat) : Int) < 64 := by omega
        have bk : (k : Int) < 64 := by omega
        have d7 : (0 : Int) ≤ ((k - 7 : Nat) : Int) := by omega
        have d16 : (0 : Int) ≤ ((k - 16 : Nat) : Int) := by omega
        have dk : (0 : Int) ≤ (k : Int) := by omega
        obtain ⟨c0, f0⟩ := hS.out.next hlt
        go_region_held3 (fun w' => w'.cell? ⟨w.heap.size + 1, k - 7, none⟩ = some (.int .u32 y7) ∧ w'.cell? ⟨w.heap.size + 1, k - 16, none⟩ = some (.int .u32 y16)) (first | go_keep | (refine ⟨?_, ?_⟩ <;> (rw [World.cell?_setCell_other _ _ _ _ (by intro e; injection e; omega)]; assumption))) (fail)
        go_wp2
        go_roundw
        case rel => exact ⟨k + 1, by omega, by go_num, Lib.hid ((hS.out.drewN (nq + 1)).set_ hlt _ (by rw [HW.out]; (try simp only [IntKind.wrap_u32']); omega))⟩
        case measure => simp [intOf]; omega
    · obtain rfl : k = 64 := by omega
      have hr := hS.out.res
      have hg := hS.out.row
      have HF := Lib.hid hS.out.fr
      have hs0 := wcells_size L 0 (by omega)
      have hs := wcells_size L 64 (by omega)
      have h1 : (wcells L 64).all (·.oneCell') = true := by
        rw [Array.all_eq_true_iff_forall_mem]
        intro x hx
        simp only [wcells, List.mem_toArray, Nat.sub_self, List.replicate_zero, List.append_nil, List.mem_map] at hx
        obtain ⟨y, _, rfl⟩ := hx
        rfl
      have HE := Lib.hid (show wcells L 64 = ((wl L 64).map uw).toArray by simp [wcells])
      clear hS
      generalize wcells L 64 = C at *
      generalize wcells L 0 = C0 at *
      go_wp2_with (first
        | (with_reducible refine wpList_load_row rfl 74 (.tmp 3) rfl (w.heap.size + 1) rfl 74 C (0, 0) _ hg Tryd.underlying74 rfl (by rw [hs]; kernel_rfl) ?_)
        | (with_reducible refine wpList_store_row rfl 74 (.tmp 2) (.tmp 61) rfl w.heap.size C C0 74 rfl rfl hr (by rw [hs]; kernel_rfl) (by rw [hs0, hs]) h1 ?_))
      refine bodyPost_ret (results_cell_row rfl _ _ w.heap.size 74 C (0, 0) _ rfl (setRow_heap _ _ _ _ _ _ hr) Tryd.underlying74 rfl (by rw [hs]; kernel_rfl)) rfl ⟨?_, HF.out.setRow (.inr (Nat.le_refl _)) _⟩
      rw [HE.out]
end Go.Proofs.YthjpgnmpcllolaaDoor
