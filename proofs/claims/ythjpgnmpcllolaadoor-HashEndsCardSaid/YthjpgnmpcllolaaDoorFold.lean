/- Contract: hash.Fold. -/
import Derived.Test.YthjpgnmpcllolaaDoorSum
namespace Go.Proofs.YthjpgnmpcllolaaDoor
open Go.RowKit Go.ChangeShapes
set_option linter.unusedVariables false

/-- The j-th byte of what is folded, of the first k bytes. -/
def fbyte (D : List UInt8) (k j : Nat) : UInt8 := (if j < k then D.getD j 0 else 0) ^^^ (if j + 20 < k then D.getD (j + 20) 0 else 0)
def fl (D : List UInt8) (k : Nat) : List UInt8 := (List.range 20).map (fbyte D k)
/-- A digest, folded. -/
def foldL (D : List UInt8) : List UInt8 := fl D 32
theorem fl_length (D : List UInt8) (k : Nat) : (fl D k).length = 20 := by simp [fl]
theorem fl_get (D : List UInt8) (k j : Nat) (hj : j < 20) : (fl D k).getD j 0 = fbyte D k j := by
  rw [List.getD_eq_getElem?_getD, List.getElem?_eq_getElem (by rw [fl_length]; exact hj)]
  simp [fl]
theorem fl_zero (D : List UInt8) : fl D 0 = List.replicate 20 0 := by
  apply List.ext_getElem
  · simp [fl]
  · intro j h1 h2
    rw [List.getElem_replicate]
    simp [fl, fbyte]
theorem fl_set (D : List UInt8) (k : Nat) (hk : k < 32) : (fl D k).set (k % 20) (fbyte D k (k % 20) ^^^ D.getD k 0) = fl D (k + 1) := by
  apply List.ext_getElem
  · simp [fl]
  · intro j h1 h2
    have hj : j < 20 := by simpa [fl] using h2
    rw [List.getElem_set]
    by_cases e : k % 20 = j
    · rw [if_pos e, e]
      simp only [fl, List.getElem_map, List.getElem_range]
      unfold fbyte
      by_cases hk20 : k < 20
      · obtain rfl : k = j := by omega
        rw [if_neg (by omega), if_neg (by omega), if_pos (by omega), if_neg (by omega)]
        simp
      · obtain rfl : k = j + 20 := by omega
        rw [if_pos (by omega), if_neg (by omega), if_pos (by omega), if_pos (by omega)]
        simp
    · rw [if_neg e]
      simp only [fl, List.getElem_map, List.getElem_range]
      unfold fbyte
      congr 1
      · by_cases h : j < k
        · rw [if_pos h, if_pos (by omega)]
        · rw [if_neg h, if_neg (by omega)]
      · by_cases h : j + 20 < k
        · rw [if_pos h, if_pos (by omega)]
        · rw [if_neg h, if_neg (by omega)]
theorem xor_u8 (x y : UInt8) : bits .xor .u8 (x.toNat : Int) (y.toNat : Int) = ((x ^^^ y).toNat : Int) := by
  rw [u8_xor_nat _ _ x.toNat_lt y.toNat_lt, UInt8.toNat_xor]

/-- The blocks of Fold, k rounds done. -/
structure FoAt (w wr : World) (D : List UInt8) (k : Nat) : Prop where
  fr : Fr (fun _ => False) w wr
  res : BytT wr (w.heap.size + 1) 33 (List.replicate 20 0)
  row : BytT wr (w.heap.size + 2) 33 (fl D k)

set_option maxRecDepth 100000 in
set_option maxHeartbeats 2000000 in
theorem fold_any (w : World) (D : List UInt8) (hD : D.length = 32) :
    Calls Tryd.prog 14 #[.agg (D.map bv).toArray] w fun e w' => e = .returned (.agg ((foldL D).map bv).toArray) ∧ Fr (fun _ => False) w w' := by
  obtain ⟨C, hC⟩ : ∃ C, C = (D.map bv).toArray := ⟨_, rfl⟩
  have hcs : C.size = 32 := by rw [hC]; simp [hD]
  have hix : ∀ (k : Nat), k < 32 → ∀ w, (Instr.index 27 (.agg C) (.int .i64 (k : Int))).run Tryd.prog w = .ok (.int .u8 (D.getD k 0).toNat) w := fun k hk w => by
    rw [hC]; exact run_index_byte w _ 32 D k Tryd.underlying27 hD hk
  have HIX := Lib.hid hix
  have hg2 : ∀ A B, (((w.alloc (.cells C 27)).alloc A).alloc B).heap[w.heap.size]? = some (.cells C 27 (0, 0)) := fun A B => by
    rw [Below.heap_alloc _ _ _ (by simp; omega), Below.heap_alloc _ _ _ (by simp)]
    exact heap_alloc_new w _
  rw [← hC]
  clear hC hix
  go_enter Tryd.func14, Tryd.ntmps14
  go_wp2_with (with_reducible refine wpList_load_row rfl 27 (.tmp 1) rfl w.heap.size rfl 27 C (0, 0) _ (hg2 _ _) Tryd.underlying27 rfl (by rw [hcs]; kernel_rfl) ?_)
  go_loopw [7] (fun iv wr => ∃ k : Nat, k ≤ 32 ∧ iv = .int .i64 k ∧ Hid (FoAt w wr D k)) (fun iv _ => 32 - (intOf iv).toNat)
  case atStart =>
    refine ⟨0, by omega, rfl, Lib.hid ⟨(((Fr.refl _ _).alloc _).alloc _).alloc _, ?_, ?_⟩⟩
    · have h := heap_alloc2_old (w.alloc (.cells C 27)) (.cells ((List.replicate 20 (0 : UInt8)).map bv).toArray 33) (.cells ((List.replicate 20 (0 : UInt8)).map bv).toArray 33)
      rw [World.size_alloc] at h
      exact h
    · have h := heap_alloc2_new (w.alloc (.cells C 27)) (.cells ((List.replicate 20 (0 : UInt8)).map bv).toArray 33) (.cells ((List.replicate 20 (0 : UInt8)).map bv).toArray 33)
      rw [World.size_alloc] at h
      rw [fl_zero]
      exact h
  case round =>
    obtain ⟨k, hk, rfl, hR⟩ := hrel
    by_cases hlt : k < 32
    · have hix := HIX.out k hlt
      obtain ⟨j, hj⟩ : ∃ j, j = k % 20 := ⟨_, rfl⟩
      have ej : (k : Int) % 20 = (j : Int) := by omega
      have hj20 : j < 20 := by omega
      have cj := hR.out.row.cell j (by rw [fl_length]; exact hj20)
      rw [fl_get D k j hj20] at cj
      have fj := hR.out.row.free j
      have ex := xor_u8 (fbyte D k j) (D.getD k 0)
      have HS := Lib.hid (show BytT (wr.setCell ⟨w.heap.size + 2, j, none⟩ (.int .u8 ((fbyte D k j ^^^ D.getD k 0).toNat : Nat))) (w.heap.size + 2) 33 (fl D (k + 1)) by
        rw [← fl_set D k hlt, ← hj]
        exact hR.out.row.set_ j _ _ rfl)
      clear hj
      generalize fbyte D k j = x at *
      generalize D.getD k 0 = y at *
      go_wp2_with fail
      go_roundw
      case rel => exact ⟨k + 1, by omega, by go_num, Lib.hid ⟨hR.out.fr.setCell (.inr (by simp; omega)) _, by
        have h := hR.out.res
        exact h.keep (S := fun i => i = w.heap.size + 2) ((Fr.refl (fun i => i = w.heap.size + 2) wr).setCell (p := ⟨w.heap.size + 2, j, none⟩) (.inl rfl) _) (by omega), HS.out⟩⟩
      case measure => simp [intOf]; omega
    · obtain rfl : k = 32 := by omega
      obtain ⟨C0, hC0⟩ : ∃ C0, C0 = ((List.replicate 20 (0 : UInt8)).map bv).toArray := ⟨_, rfl⟩
      obtain ⟨C1, hC1⟩ : ∃ C1, C1 = ((fl D 32).map bv).toArray := ⟨_, rfl⟩
      have hs0 : C0.size = 20 := by rw [hC0]; rfl
      have hs1 : C1.size = 20 := by rw [hC1]; simp [fl_length]
      have h1 : C1.all (·.oneCell') = true := by rw [hC1]; exact all_oneCell_toArray (bv_one _)
      have hr : wr.heap[w.heap.size + 1]? = some (.cells C0 33 (0, 0)) := by rw [hC0]; exact hR.out.res
      have hg : wr.heap[w.heap.size + 2]? = some (.cells C1 33 (0, 0)) := by rw [hC1]; exact hR.out.row
      have HF := Lib.hid hR.out.fr
      have HE := Lib.hid hC1
      clear hR hC0 hC1 hg2
      go_wp2_with (first
        | (with_reducible refine wpList_load_row rfl 33 (.tmp 3) rfl (w.heap.size + 2) rfl 33 C1 (0, 0) _ hg Tryd.underlying33 rfl (by rw [hs1]; kernel_rfl) ?_)
        | (with_reducible refine wpList_store_row rfl 33 (.tmp 2) (.tmp 19) rfl (w.heap.size + 1) C1 C0 33 rfl rfl hr (by rw [hs1]; kernel_rfl) (by rw [hs0, hs1]) h1 ?_))
      refine bodyPost_ret (results_cell_row rfl _ _ (w.heap.size + 1) 33 C1 (0, 0) _ rfl (setRow_heap _ _ _ _ _ _ hr) Tryd.underlying33 rfl (by rw [hs1]; kernel_rfl)) rfl ⟨?_, HF.out.setRow (.inr (by simp)) _⟩
      rw [HE.out]
      rfl
end Go.Proofs.YthjpgnmpcllolaaDoor
