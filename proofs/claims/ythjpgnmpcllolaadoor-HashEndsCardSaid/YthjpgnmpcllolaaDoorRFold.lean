/- Contract of the document's own: spenceref02.Fold. -/
import Derived.Test.YthjpgnmpcllolaaDoorRSum
import Derived.StillTailTactics
namespace Go.Proofs.YthjpgnmpcllolaaDoor
open Go.RowKit Go.ChangeShapes
set_option linter.unusedVariables false

/-- The blocks of the document's Fold, k rounds done. -/
structure RfAt (w wr : World) (D : List UInt8) (k : Nat) : Prop where
  fr : Fr (fun _ => False) w wr
  box : BytT wr w.heap.size 27 D
  res : BytT wr (w.heap.size + 1) 33 (List.replicate 20 0)
  row : BytT wr (w.heap.size + 2) 33 (fl D k)

set_option maxRecDepth 100000 in
set_option maxHeartbeats 2000000 in
theorem rfold_any (w : World) (D : List UInt8) (hD : D.length = 32) :
    Calls Tryd.prog 15 #[.agg (D.map bv).toArray] w fun e w' => e = .returned (.agg ((foldL D).map bv).toArray) ∧ Fr (fun _ => False) w w' := by
  obtain ⟨C, hC⟩ : ∃ C, C = (D.map bv).toArray := ⟨_, rfl⟩
  have HDC := Lib.hid hC
  rw [← hC]
  clear hC
  go_enter Tryd.func15, Tryd.ntmps15
  go_wp2_with fail
  go_loopw [4] (fun iv wr => ∃ k : Nat, k ≤ 32 ∧ iv = .int .i64 k ∧ Hid (RfAt w wr D k)) (fun iv _ => 32 - (intOf iv).toNat)
  case atStart =>
    refine ⟨0, by omega, rfl, Lib.hid ⟨(((Fr.refl _ _).alloc _).alloc _).alloc _, ?_, ?_, ?_⟩⟩
    · unfold BytT
      rw [Below.heap_alloc _ _ _ (by simp; omega), Below.heap_alloc _ _ _ (by simp), HDC.out]
      exact heap_alloc_new w _
    · have h := fun o1 o2 o3 => heap_alloc2_old (w.alloc o1) o2 o3
      simp only [World.size_alloc] at h
      exact h _ _ _
    · have h := fun o1 o2 o3 => heap_alloc2_new (w.alloc o1) o2 o3
      simp only [World.size_alloc] at h
      rw [fl_zero]
      exact h _ _ _
  case round =>
    obtain ⟨k, hk, rfl, hR⟩ := hrel
    by_cases hlt : k < 32
    · obtain ⟨j, hj⟩ : ∃ j, j = k % 20 := ⟨_, rfl⟩
      have ej : (k : Int) % 20 = (j : Int) := by omega
      have et : (k : Int).tmod 20 = (j : Int) := by rw [Int.tmod_eq_emod_of_nonneg (by omega)]; exact ej
      have hj20 : j < 20 := by omega
      have cj := hR.out.row.cell j (by rw [fl_length]; exact hj20)
      rw [fl_get D k j hj20] at cj
      have fj := hR.out.row.free j
      have ck := hR.out.box.cell k (by omega)
      have ex := xor_u8 (fbyte D k j) (D.getD k 0)
      have HS := Lib.hid (show BytT (wr.drew.setCell ⟨w.heap.size + 2, j, none⟩ (.int .u8 ((fbyte D k j ^^^ D.getD k 0).toNat : Nat))) (w.heap.size + 2) 33 (fl D (k + 1)) by
        rw [← fl_set D k hlt, ← hj]
        have h : BytT wr.drew (w.heap.size + 2) 33 (fl D k) := hR.out.row
        exact h.set_ j _ _ rfl)
      clear hj
      generalize fbyte D k j = x at *
      generalize D.getD k 0 = y at *
      have bj : (j : Int) < 20 := by omega
      have bk : (k : Int) < 32 := by omega
      go_wp2_with fail
      go_still_tail 11, (by kernel_rfl)
      go_wp2
      go_roundw
      case rel =>
        have hf : ∀ v, Fr (fun i => i = w.heap.size + 2) wr (wr.drew.setCell ⟨w.heap.size + 2, j, none⟩ v) := fun v => (Fr.refl (fun i => i = w.heap.size + 2) wr).drew.setCell (p := ⟨w.heap.size + 2, j, none⟩) (.inl rfl) v
        exact ⟨k + 1, by omega, by go_num, Lib.hid ⟨hR.out.fr.drew.setCell (.inr (by simp; omega)) _, hR.out.box.keep (hf _) (by omega), hR.out.res.keep (hf _) (by omega), HS.out⟩⟩
      case measure => simp [intOf]; omega
    · obtain rfl : k = 32 := by omega
      obtain ⟨C0, hC0⟩ : ∃ C0, C0 = ((List.replicate 20 (0 : UInt8)).map bv).toArray := ⟨_, rfl⟩
      obtain ⟨C1, hC1⟩ : ∃ C1, C1 = ((fl D 32).map bv).toArray := ⟨_, rfl⟩
      have hs0 : C0.size = 20 := by rw [hC0]; rfl
      have hs1 : C1.size = 20 := by rw [hC1]; simp [fl_length]
      have h1 : C1.all (·.oneCell') = true := by rw [hC1]; exact all_oneCell_toArray (bv_one _)
      have hr : wr.heap[w.heap.size + 1]? = some (.cells C0 33 (0, 0)) := by rw [hC0]; exact hR.out.res
      have hg : wr.heap[w.heap.size + 2]? = some (.cells C1 33 (0, 0)) := by rw [hC1]; exact hR.out.row
      have HF := Lib.hid hR.out.fr
      have HE := Lib.hid hC1
      clear hR hC0 hC1
      go_wp2_with (first
        | (with_reducible refine wpList_load_row rfl 33 (.tmp 3) rfl (w.heap.size + 2) rfl 33 C1 (0, 0) _ hg Tryd.underlying33 rfl (by rw [hs1]; kernel_rfl) ?_)
        | (with_reducible refine wpList_store_row rfl 33 (.tmp 2) (.tmp 20) rfl (w.heap.size + 1) C1 C0 33 rfl rfl hr (by rw [hs1]; kernel_rfl) (by rw [hs0, hs1]) h1 ?_))
      refine bodyPost_ret (results_cell_row rfl _ _ (w.heap.size + 1) 33 C1 (0, 0) _ rfl (setRow_heap _ _ _ _ _ _ hr) Tryd.underlying33 rfl (by rw [hs1]; kernel_rfl)) rfl ⟨?_, HF.out.setRow (.inr (by simp)) _⟩
      rw [HE.out]
      rfl
end Go.Proofs.YthjpgnmpcllolaaDoor
