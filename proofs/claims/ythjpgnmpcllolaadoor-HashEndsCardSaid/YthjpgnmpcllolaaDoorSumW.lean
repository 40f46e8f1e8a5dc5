/- Contract: (*hash.words).sum. -/
import Derived.Test.YthjpgnmpcllolaaDoorTake
namespace Go.Proofs.YthjpgnmpcllolaaDoor
open Go.RowKit Go.ChangeShapes
set_option linter.unusedVariables false

theorem bytes_get (s : St) (i : Nat) (hi : i < 32) : s.bytes.getD i 0 = UInt8.ofNat (s.list.getD (i / 4) 0 / 2 ^ (24 - 8 * (i % 4))) := by
  obtain rfl | rfl | rfl | rfl | rfl | rfl | rfl | rfl | rfl | rfl | rfl | rfl | rfl | rfl | rfl | rfl | rfl | rfl | rfl | rfl | rfl | rfl | rfl | rfl | rfl | rfl | rfl | rfl | rfl | rfl | rfl | rfl : i = 0 ∨ i = 1 ∨ i = 2 ∨ i = 3 ∨ i = 4 ∨ i = 5 ∨ i = 6 ∨ i = 7 ∨ i = 8 ∨ i = 9 ∨ i = 10 ∨ i = 11 ∨ i = 12 ∨ i = 13 ∨ i = 14 ∨ i = 15 ∨ i = 16 ∨ i = 17 ∨ i = 18 ∨ i = 19 ∨ i = 20 ∨ i = 21 ∨ i = 22 ∨ i = 23 ∨ i = 24 ∨ i = 25 ∨ i = 26 ∨ i = 27 ∨ i = 28 ∨ i = 29 ∨ i = 30 ∨ i = 31 := by omega
  all_goals rfl
/-- A row of 32 bytes, the first k of which are there. -/
def bcells (n : Nat) (X : List UInt8) (k : Nat) : Array Value := ((X.take k).map bv ++ List.replicate (n - k) (bv 0)).toArray
theorem bcells_size (n : Nat) (X : List UInt8) (k : Nat) (hX : X.length = n) (hk : k ≤ n) : (bcells n X k).size = n := by
  simp [bcells]
  omega
theorem bcells_next (n : Nat) (X : List UInt8) (k : Nat) (hX : X.length = n) (hk : k < n) : (bcells n X k)[k]? = some (.int .u8 0) := by
  simp only [bcells, List.getElem?_toArray]
  rw [List.getElem?_append_right (by simp; omega), List.getElem?_replicate, if_pos (by simp; omega)]
  rfl
theorem bcells_set (n : Nat) (X : List UInt8) (k : Nat) (hX : X.length = n) (hk : k < n) : (bcells n X k).setIfInBounds k (bv (X.getD k 0)) = bcells n X (k + 1) := by
  apply Array.ext'
  simp only [bcells, Array.toList_setIfInBounds]
  rw [List.set_append_right _ _ (by simp; omega), List.length_map, List.length_take, show k - min k X.length = 0 by omega, show n - k = (n - (k + 1)) + 1 by omega, List.replicate_succ, List.set_cons_zero,
    List.take_succ_eq_append_getElem (by omega), List.map_append, List.getD_eq_getElem?_getD, List.getElem?_eq_getElem (by omega)]
  simp
theorem bcells_all (n : Nat) (X : List UInt8) (hX : X.length = n) : bcells n X n = (X.map bv).toArray := by
  simp [bcells, List.take_of_length_le (Nat.le_of_eq hX)]
theorem bcells_one (n : Nat) (X : List UInt8) (k : Nat) : (bcells n X k).all (·.oneCell') = true := by
  rw [Array.all_eq_true_iff_forall_mem]
  intro x hx
  simp only [bcells, List.mem_toArray, List.mem_append, List.mem_map, List.mem_replicate] at hx
  rcases hx with ⟨y, _, rfl⟩ | ⟨_, rfl⟩ <;> rfl

/-- Two new rows of n bytes: the result's, and the one that is filled. -/
structure RwAt (w wr : World) (T : TypeId) (n : Nat) (X : List UInt8) (k : Nat) : Prop where
  fr : Fr (fun _ => False) w wr
  res : wr.heap[w.heap.size]? = some (.cells (bcells n X 0) T (0, 0))
  row : wr.heap[w.heap.size + 1]? = some (.cells (bcells n X k) T (0, 0))
theorem RwAt.set_ {w wr : World} {T : TypeId} {n : Nat} {X : List UInt8} {k : Nat} (h : RwAt w wr T n X k) (hX : X.length = n) (hk : k < n) (x : Int) (hx : x = (X.getD k 0).toNat) : RwAt w (wr.setCell ⟨w.heap.size + 1, k, none⟩ (.int .u8 x)) T n X (k + 1) := by
  refine ⟨h.fr.setCell (.inr (by simp)) _, ?_, ?_⟩
  · rw [Below.heap_setCell _ _ _ _ (by simp)]
    exact h.res
  · rw [heap_setCell_at _ h.row, hx]
    exact congrArg (fun c => some (Obj.cells c _ _)) (bcells_set n X k hX hk)
theorem RwAt.next {w wr : World} {T : TypeId} {n : Nat} {X : List UInt8} {k : Nat} (h : RwAt w wr T n X k) (hX : X.length = n) (hk : k < n) : wr.cell? ⟨w.heap.size + 1, k, none⟩ = some (.int .u8 0) ∧ wr.frozen? ⟨w.heap.size + 1, k, none⟩ = false := by
  rw [cell_of_row _ _ _ _ _ _ h.row, bcells_next n X k hX hk]
  exact ⟨rfl, frozen_of_row _ _ _ _ _ h.row⟩
theorem RwAt.drewN {w wr : World} {T : TypeId} {n : Nat} {X : List UInt8} {k : Nat} (h : RwAt w wr T n X k) (m : Nat) : RwAt w (wr.drewN m) T n X k := ⟨h.fr.drewN m, h.res, h.row⟩

theorem StAt.word {w : World} {b : Nat} {s : St} {rest : List Value} {T : TypeId} (h : StAt w b s rest T) (i : Nat) (hi : i < 8) : w.cell? ⟨b, i, none⟩ = some (.int .u32 (s.list.getD i 0 : Nat)) := by
  rw [cell_of_row _ _ _ _ _ _ h, List.getElem?_toArray, List.getElem?_append_left (by simpa [stc] using hi)]
  match i, hi with
  | 0, _ | 1, _ | 2, _ | 3, _ | 4, _ | 5, _ | 6, _ | 7, _ => rfl
theorem byte_spell (x c : Nat) (y : UInt8) (hy : y = UInt8.ofNat (x / 2 ^ c)) : (x : Int) / 2 ^ c % 256 = (y.toNat : Int) := by
  subst hy
  rw [UInt8.toNat_ofNat']
  have h : (x : Int) / 2 ^ c = ((x / 2 ^ c : Nat) : Int) := by push_cast; rfl
  rw [h]
  generalize x / 2 ^ c = y
  omega

set_option maxRecDepth 100000 in
set_option maxHeartbeats 2000000 in
theorem sumw_any {b : Nat} {s : St} {rest : List Value} {T : TypeId} (w : World) (hs : StAt w b s rest T) (ok : s.Ok) :
    Calls Tryd.prog 31 #[.pointer (some ⟨b, 0, none⟩)] w fun e w' => e = .returned (.agg (s.bytes.map bv).toArray) ∧ Fr (fun _ => False) w w' := by
  have H := Lib.hid (And.intro hs ok)
  have HL := Lib.hid (show s.bytes.length = 32 from rfl)
  clear hs ok
  go_enter Tryd.func31, Tryd.ntmps31
  go_wp2_with fail
  go_loopw [5] (fun iv wr => ∃ k : Nat, k ≤ 32 ∧ iv = .int .i64 k ∧ Hid (RwAt w wr 27 32 s.bytes k)) (fun iv _ => 32 - (intOf iv).toNat)
  case atStart =>
    refine ⟨0, by omega, rfl, Lib.hid ⟨((Fr.refl _ _).alloc _).alloc _, ?_, ?_⟩⟩
    · exact heap_alloc2_old w _ _
    · exact heap_alloc2_new w _ _
  case round =>
    obtain ⟨k, hk, rfl, hR⟩ := hrel
    by_cases hlt : k < 32
    · obtain ⟨q, hq⟩ : ∃ q, q = k / 4 := ⟨_, rfl⟩
      obtain ⟨r, hr⟩ : ∃ r, r = k % 4 := ⟨_, rfl⟩
      obtain ⟨c, hc⟩ : ∃ c, c = 24 - 8 * r := ⟨_, rfl⟩
      have eq_ : (k : Int) / 4 = (q : Int) := by omega
      have er : (k : Int) % 4 = (r : Int) := by omega
      have ec : (24 : Int) - 8 * (r : Int) = (c : Int) := by omega
      have em : min c 32 = c := by omega
      have hq8 : q < 8 := by omega
      have hr4 : r < 4 := by omega
      have HB := Lib.hid (show s.bytes.getD k 0 = UInt8.ofNat (s.list.getD q 0 / 2 ^ c) by rw [bytes_get s k hlt, hq, hc, hr])
      have cq := hR.out.fr.cell (H.out.1.word q hq8) (fun h => h)
      obtain ⟨c0, f0⟩ := hR.out.next HL.out hlt
      have hx := list_lt H.out.2 q
      generalize s.list.getD q 0 = x at *
      clear hq hr hc
      go_wp2_with fail
      go_roundw
      case rel => exact ⟨k + 1, by omega, by go_num, Lib.hid (hR.out.set_ HL.out hlt _ (byte_spell _ _ _ HB.out))⟩
      case measure => simp [intOf]; omega
    · obtain rfl : k = 32 := by omega
      have hr := hR.out.res
      have hg := hR.out.row
      have HF := Lib.hid hR.out.fr
      have hs0 := bcells_size 32 s.bytes 0 HL.out (by omega)
      have hs := bcells_size 32 s.bytes 32 HL.out (by omega)
      have h1 := bcells_one 32 s.bytes 32
      have HE := Lib.hid (bcells_all 32 s.bytes HL.out)
      clear hR
      generalize bcells 32 s.bytes 32 = C at *
      generalize bcells 32 s.bytes 0 = C0 at *
      go_wp2_with (first
        | (with_reducible refine wpList_load_row rfl 27 (.tmp 3) rfl (w.heap.size + 1) rfl 27 C (0, 0) _ hg Tryd.underlying27 rfl (by rw [hs]; kernel_rfl) ?_)
        | (with_reducible refine wpList_store_row rfl 27 (.tmp 2) (.tmp 23) rfl w.heap.size C C0 27 rfl rfl hr (by rw [hs]; kernel_rfl) (by rw [hs0, hs]) h1 ?_))
      refine bodyPost_ret (results_cell_row rfl _ _ w.heap.size 27 C (0, 0) _ rfl (setRow_heap _ _ _ _ _ _ hr) Tryd.underlying27 rfl (by rw [hs]; kernel_rfl)) rfl ⟨?_, HF.out.setRow (.inr (Nat.le_refl _)) _⟩
      rw [HE.out]
end Go.Proofs.YthjpgnmpcllolaaDoor
