/- Contracts of the document's own: spenceref02.Sum, Fold. -/
import Derived.Test.YthjpgnmpcllolaaDoorRDigest
import Derived.Test.YthjpgnmpcllolaaDoorFold
namespace Go.Proofs.YthjpgnmpcllolaaDoor
open Go.RowKit Go.ChangeShapes
set_option linter.unusedVariables false

set_option maxRecDepth 100000 in
set_option maxHeartbeats 2000000 in
theorem rsum_any {F : Nat → Prop} {v : Value} {P : List (List UInt8)} (w : World) (hP : RowsIn F w v P) (hF : ∀ k, F k → k < w.heap.size) (hM : P.flatten.length ≤ 100000000000) :
    Calls Tryd.prog 12 #[v] w fun e w' => e = .returned (.agg ((digest P.flatten).map bv).toArray) ∧ Fr (fun _ => False) w w' := by
  obtain ⟨C, hC⟩ : ∃ C, C = ((digest P.flatten).map bv).toArray := ⟨_, rfl⟩
  have hcs : C.size = 32 := by rw [hC]; rfl
  have hone : C.all (·.oneCell') = true := by rw [hC]; exact all_oneCell_toArray (bv_one _)
  have hs0 := bcells_size 32 (List.replicate 32 0) 0 (by simp) (by omega)
  obtain ⟨C0, hC0⟩ : ∃ C0, C0 = bcells 32 (List.replicate 32 0) 0 := ⟨_, rfl⟩
  rw [← hC]
  rw [← hC0] at hs0
  obtain ⟨ao, cap, hv, h1, h2, h3, h4⟩ := id hP
  subst hv
  obtain ⟨n, hn⟩ : ∃ n, n = P.length := ⟨_, rfl⟩
  rw [← hn] at h1 ⊢
  have HP := Lib.hid (And.intro hP hF)
  have HI := Lib.hid h4
  have HC := Lib.hid hC
  have HC0 := Lib.hid hC0
  have HN := Lib.hid hn
  clear hC hC0 hP hF h3 h4 hn
  go_enter Tryd.func12, Tryd.ntmps12
  go_wp2_with fail
  go_loopw [3, 4] (fun gv iv wr => ∃ i : Nat, i ≤ n ∧ iv = .int .i64 i ∧ Hid (OwnB (fun k => w.heap.size + 1 ≤ k) wr gv (P.take i).flatten ∧ Fr (fun _ => False) w wr ∧ wr.heap[w.heap.size]? = some (.cells C0 27 (0, 0)))) (fun _ iv _ => n - (intOf iv).toNat)
  case atStart => exact ⟨0, by omega, rfl, Lib.hid ⟨OwnB.nil _ _, (Fr.refl _ w).alloc _, by rw [HC0.out]; exact heap_alloc_new w _⟩⟩
  case round =>
    obtain ⟨i, hi, rfl, hR⟩ := hrel
    by_cases hlt : i < n
    · obtain ⟨b, off, hao, hFb, hx⟩ := HI.out (by intro e; have := HN.out; rw [e] at this; simp at this; omega)
      obtain ⟨x, hx1, hx2⟩ := hx i (by rw [← HN.out]; exact hlt)
      subst hao
      have hx3 := hR.out.2.1.cell hx1 (fun h => h)
      have HXB := Lib.hid (hx2.keep hR.out.2.1 (fun _ _ _ h => h))
      have HE := Lib.hid (flatten_take_succ P i (by rw [← HN.out]; exact hlt))
      have HLE := Lib.hid (flatten_take_le P (i + 1))
      obtain ⟨Y, hY⟩ : ∃ Y, Y = P[i]'(by rw [← HN.out]; exact hlt) := ⟨_, rfl⟩
      rw [← hY] at HE HXB
      have HLN := Lib.hid (show (P.take i).flatten.length + Y.length ≤ 140737488355328 by
        have h := congrArg List.length HE.out
        rw [List.length_append] at h
        have := HLE.out
        omega)
      have HO := Lib.hid hR.out.1
      have HFR := Lib.hid hR.out.2
      clear hR hx hx1 hx2 hY
      go_wp2_with (first
        | (at_builtin; refine wpList_append_bytes (F := fun k => w.heap.size + 1 ≤ k) (G := F) _ rfl (.tmp 11) (.tmp 15) rfl _ _ (P.take i).flatten Y rfl rfl HO.out HXB.out HLN.out ?_; intro v5 w5 ho5 hg5 hn5; have HS5 : Hid (OwnB (fun k => w.heap.size + 1 ≤ k) w5 v5 (P.take (i + 1)).flatten ∧ Fr (fun _ => False) w w5 ∧ w5.heap[w.heap.size]? = some (.cells C0 27 (0, 0))) := Lib.hid ⟨by rw [HE.out]; exact ho5.mono (G := fun k => w.heap.size + 1 ≤ k) (fun k _ h => h.elim id (fun h => by have := lt_of_block HFR.out.2; omega)), HFR.out.1.grown hg5 (fun k hk => .inr (by have := HO.out.2 k hk; omega)), (((Fr.refl (fun k => w.heap.size + 1 ≤ k) wr).grown hg5 (fun k hk => .inl (HO.out.2 k hk))).heap HFR.out.2 (by omega))⟩; clear ho5 hg5 hn5)
        | fail)
      go_roundw
      case rel => exact ⟨i + 1, by omega, by go_num, HS5⟩
      case measure => simp [intOf]; omega
    · have HR := Lib.hid (show BytesIn (fun k => w.heap.size + 1 ≤ k) wr u3 P.flatten ∧ Fr (fun _ => False) w wr ∧ wr.heap[w.heap.size]? = some (.cells C0 27 (0, 0)) by
        have h := hR.out
        rw [List.take_of_length_le (by rw [← HN.out]; omega)] at h
        exact ⟨h.1.bytes, h.2⟩)
      have HD := Lib.hid (rdigest_any u3 P.flatten wr (HR.out.1.mono (G := fun k => k < wr.heap.size) (fun k h _ => h)) (fun k h => h) hM)
      rw [← HC.out] at HD
      clear hR
      go_wp2_with (first
        | (go_at_call 25; refine HD.out.mono ?_; rintro e w4 ⟨rfl, hf4⟩; have hr2 := hf4.heap HR.out.2.2 (fun h => h); have HF4 := Lib.hid (HR.out.2.1.trans hf4 (fun _ h => h.elim)); clear hf4)
        | (with_reducible refine wpList_store_row rfl 27 (.tmp 2) (.tmp 18) rfl w.heap.size C C0 27 rfl rfl hr2 (by rw [hcs]; kernel_rfl) (by rw [hs0, hcs]) hone ?_))
      refine bodyPost_ret (results_cell_row rfl _ _ w.heap.size 27 C (0, 0) _ rfl (setRow_heap _ _ _ _ _ _ hr2) Tryd.underlying27 rfl (by rw [hcs]; kernel_rfl)) rfl ⟨rfl, HF4.out.setRow (.inr (Nat.le_refl _)) _⟩
end Go.Proofs.YthjpgnmpcllolaaDoor
