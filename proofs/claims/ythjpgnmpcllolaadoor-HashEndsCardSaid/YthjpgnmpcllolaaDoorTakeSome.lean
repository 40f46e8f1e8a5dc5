/- Contract: (*hash.taker).takeSome. -/
import Derived.Test.YthjpgnmpcllolaaDoorTaker
namespace Go.Proofs.YthjpgnmpcllolaaDoor
open Go.RowKit Go.ChangeShapes
set_option linter.unusedVariables false

set_option maxRecDepth 100000 in
set_option maxHeartbeats 2000000 in
theorem takeSome_whole {F : Nat → Prop} {b : Nat} {v : Value} {M X : List UInt8} (w : World) (hL : Laid w) (hb : 2 ≤ b) (hT : TakAt w b M) (hX : BytesIn F w v X) (hF : ∀ k, F k → k ≠ b)
    (h0 : M.length % 64 = 0) (hl : 64 ≤ X.length) (hM : M.length + X.length ≤ 140737488355328) :
    Calls Tryd.prog 30 #[.pointer (some ⟨b, 0, none⟩), v] w fun e w' => e = .returned (.int .i64 64) ∧ Fr (· = b) w w' ∧ TakAt w' b (M ++ X.take 64) := by
  obtain ⟨buf, hbuf, hblk⟩ := hT
  obtain ⟨ao, cap, rfl, h1, h2, _⟩ := id hX
  unfold maxLen at h2
  have c72 : w.cell? ⟨b, 72, none⟩ = some (.int .i64 M.length) := by rw [cell_of_row _ _ _ _ _ _ hblk, takCells_n _ _ _ hbuf.1]
  have f72 := frozen_of_row w b 72 _ _ hblk
  obtain ⟨n, hn⟩ : ∃ n, n = M.length := ⟨_, rfl⟩
  obtain ⟨l, hll⟩ : ∃ l, l = X.length := ⟨_, rfl⟩
  rw [← hn] at c72 hM h0
  rw [← hll] at h1 hl hM ⊢
  have hmod : ((n : Int) % 64) = 0 := by omega
  have H := Lib.hid (And.intro hL (And.intro hbuf (And.intro hblk (And.intro hX hF))))
  have HN := Lib.hid (And.intro hn hll)
  clear hn hll hL hbuf hblk hX hF h0
  go_enter Tryd.func30, Tryd.ntmps30
  go_wp2_with fail
  have HB := Lib.hid (show BytesIn F w (.slice ao ((64 : Nat)) cap) (X.take 64) ∧ (X.take 64).length = 64 from ⟨H.out.2.2.2.1.take 64 (by rw [← HN.out.2]; exact hl), by rw [List.length_take, ← HN.out.2]; omega⟩)
  have HSt := Lib.hid (show StAt w.drew b (takSt M) (buf.map bv ++ [.int .i64 n]) 58 by rw [HN.out.1]; exact H.out.2.2.1)
  have HT := Lib.hid (turn_any w.drew (H.out.1.keep ((Fr.refl (fun _ => False) w).drew) (fun _ _ h => h)) HSt.out (takSt_ok M) (HB.out.1.keep ((Fr.refl (fun _ => False) w).drew) (fun _ _ _ h => h)) HB.out.2)
  clear HB HSt
  go_region_with (first | (go_at_call 37; refine HT.out.mono ?_; rintro e w1 ⟨rfl, hf1, hs1⟩))
  all_goals
    have hs1' : w1.heap[b]? = some (.cells (takCells (comp (takSt M) (X.take 64)) buf n) 58 (0, 0)) := hs1
    have c72' : w1.cell? ⟨b, 72, none⟩ = some (.int .i64 n) := by rw [cell_of_row _ _ _ _ _ _ hs1', takCells_n _ _ _ H.out.2.1.1]
    have f72' := frozen_of_row w1 b 72 _ _ hs1'
    have HS1 := Lib.hid (And.intro hs1' hf1)
    clear hs1 hs1' hf1 c72 f72
    go_wp2
    go_ret
    refine ⟨rfl, HS1.out.2.ofDrew.setCell (p := ⟨b, 72, none⟩) (.inl rfl) _, buf, ?_⟩
    have hX64 : (X.take 64).length = 64 := by rw [List.length_take, ← HN.out.2]; omega
    refine ⟨buf_whole _ _ _ (by rw [← HN.out.1]; omega) hX64 H.out.2.1.1, ?_⟩
    rw [takSt_whole _ _ (by rw [← HN.out.1]; omega) hX64, heap_setCell_at _ HS1.out.1, takCells_set _ _ _ _ H.out.2.1.1, List.length_append, hX64, ← HN.out.1]
    congr 2

set_option maxRecDepth 100000 in
set_option maxHeartbeats 2000000 in
theorem takeSome_full {F : Nat → Prop} {b : Nat} {v : Value} {M X : List UInt8} (w : World) (hL : Laid w) (hb : 2 ≤ b) (hT : TakAt w b M) (hX : BytesIn F w v X) (hF : ∀ k, F k → k ≠ b)
    (h0 : M.length % 64 ≠ 0) (hl : 64 ≤ M.length % 64 + X.length) (hM : M.length + X.length ≤ 140737488355328) :
    Calls Tryd.prog 30 #[.pointer (some ⟨b, 0, none⟩), v] w fun e w' => e = .returned (.int .i64 (64 - M.length % 64 : Nat)) ∧ Fr (· = b) w w' ∧ TakAt w' b (M ++ X.take (64 - M.length % 64)) := by
  obtain ⟨buf, hbuf, hblk⟩ := hT
  have hne : X ≠ [] := by rintro rfl; simp at hl; omega
  obtain ⟨g, off, cap, rfl, h1, h2, hFg, hc⟩ := hX.plain hne
  unfold maxLen at h2
  have c72 : w.cell? ⟨b, 72, none⟩ = some (.int .i64 M.length) := by rw [cell_of_row _ _ _ _ _ _ hblk, takCells_n _ _ _ hbuf.1]
  have f72 := frozen_of_row w b 72 _ _ hblk
  obtain ⟨n, hn⟩ : ∃ n, n = M.length := ⟨_, rfl⟩
  obtain ⟨l, hll⟩ : ∃ l, l = X.length := ⟨_, rfl⟩
  obtain ⟨i, hi⟩ : ∃ i, i = M.length % 64 := ⟨_, rfl⟩
  rw [← hn] at c72 hM
  rw [← hll] at h1 hl hM ⊢
  rw [← hi] at h0 hl ⊢
  have hmod : ((n : Int) % 64) = (i : Int) := by omega
  have hi64 : i < 64 := by omega
  have H := Lib.hid (And.intro hL (And.intro hbuf (And.intro hblk (And.intro hX hF))))
  have HN := Lib.hid (And.intro hn (And.intro hll hi))
  have hb1 : ((64 - (i : Int)) == 64) = false := by rw [beq_eq_false_iff_ne]; omega
  have hb2 : (64 : Int) - i ≤ l := by omega
  have hb3 : ((i : Int) + (64 - (i : Int)) == 64) = true := by rw [beq_iff_eq]; omega
  clear hn hll hi hL hbuf hblk hX hF h0 hc hne
  go_enter Tryd.func30, Tryd.ntmps30
  go_wp2_with fail
  have hsa := fun w => run_sliceAt_arr w b 8 i hi64
  have hsl := fun w => run_take w (some ⟨g, off, none⟩) l cap (64 - i) (64 - (i : Int)) (by omega) (by omega)
  obtain ⟨Y, hY⟩ : ∃ Y, Y = X.take (64 - i) := ⟨_, rfl⟩
  have hYl : Y.length = 64 - i := by rw [hY, List.length_take, ← HN.out.2.1]; omega
  have HB := Lib.hid (show BytesIn F w (.slice (some ⟨g, off, none⟩) (64 - i) cap) Y by rw [hY]; exact H.out.2.2.2.1.take (64 - i) (by rw [← HN.out.2.1]; omega))
  have HY := Lib.hid (And.intro hY hYl)
  clear hY hYl
  go_region_law (refine step_copy_tak rfl (.tmp 45) (.tmp 48) rfl b i (64 - i) (64 - i) ⟨g, off, none⟩ (64 - i) cap (takSt M) buf n Y (by simp [Act.eval, Act.put]) (by simp [Act.eval, Act.put]) (by rw [HN.out.1]; exact H.out.2.2.1) H.out.2.1.1 (by rw [HY.out.2]; exact (Nat.min_self _).symm) (HB.out.keep (S := fun _ => False) (by first | exact (Fr.refl _ w).drew | exact (Fr.refl _ w).drewN _ | exact Fr.refl _ w) (fun _ _ _ h => h)) (by rw [HY.out.2]; omega) ?_; intro v2)
  obtain ⟨W1, hW1⟩ : ∃ W1, W1 = w.drew.setRow b (takCells (takSt M) (bufPut buf i Y) n) := ⟨_, rfl⟩
  have hblk : w.heap[b]? = some (.cells (takCells (takSt M) buf n) 58 (0, 0)) := by rw [HN.out.1]; exact H.out.2.2.1
  have hg1 : W1.heap[b]? = some (.cells (takCells (takSt M) (bufPut buf i Y) n) 58 (0, 0)) := by rw [hW1]; exact setRow_heap w.drew b _ _ _ _ hblk
  have hf1 : Fr (· = b) w W1 := by rw [hW1]; exact (Fr.refl (fun x => x = b) w).drew.setRow (.inl rfl) _
  have hpl := bufPut_length buf i Y H.out.2.1.1 (by rw [HY.out.2]; omega)
  have HT := Lib.hid (turn_any (b := b) (s := takSt M) (rest := (bufPut buf i Y).map bv ++ [Value.int .i64 n]) (T := 58) W1.drew (H.out.1.keep hf1.drew (fun k hk e => by omega)) hg1 (takSt_ok M) (buf_in (w := W1.drew) hg1 hpl) hpl)
  rw [← hW1]
  have HF1 := Lib.hid hf1
  have HP := Lib.hid hpl
  clear hW1 hblk hg1 hf1 hpl c72 f72 hsl hsa HB
  have hsa := fun w => run_sliceAt_all w b 8
  go_wp2_with fail
  go_region_with (first | (go_at_call 37; refine HT.out.mono ?_; rintro e w1 ⟨rfl, hf1, hs1⟩))
  all_goals
    have hs1' : w1.heap[b]? = some (.cells (takCells (comp (takSt M) (bufPut buf i Y)) (bufPut buf i Y) n) 58 (0, 0)) := hs1
    have c72' : w1.cell? ⟨b, 72, none⟩ = some (.int .i64 n) := by rw [cell_of_row _ _ _ _ _ _ hs1', takCells_n _ _ _ HP.out]
    have f72' := frozen_of_row w1 b 72 _ _ hs1'
    have HS1 := Lib.hid (And.intro hs1' hf1)
    clear hs1 hs1' hf1
    go_wp2
    go_ret
    refine ⟨ret_int (by omega), (HF1.out.trans HS1.out.2.ofDrew (fun _ h => .inl h)).setCell (p := ⟨b, 72, none⟩) (.inl rfl) _, bufPut buf i Y, ?_⟩
    have hYl := HY.out.2
    have hi := HN.out.2.2
    have hput : bufPut buf i Y = buf.take i ++ Y := by
      unfold bufPut
      rw [List.drop_eq_nil_of_le (by rw [H.out.2.1.1]; omega), List.append_nil]
    refine ⟨by rw [← HY.out.1]; exact buf_full _ _ _ HP.out (by omega), ?_⟩
    rw [← HY.out.1, takSt_full M Y buf H.out.2.1 (by omega), ← hi, ← hput, heap_setCell_at _ HS1.out.1, takCells_set _ _ _ _ HP.out, List.length_append, hYl, ← HN.out.1]
    congr 3
    omega

set_option maxRecDepth 100000 in
set_option maxHeartbeats 2000000 in
theorem takeSome_part {F : Nat → Prop} {b : Nat} {v : Value} {M X : List UInt8} (w : World) (hb : 2 ≤ b) (hT : TakAt w b M) (hX : BytesIn F w v X) (hne : X ≠ [])
    (hl : M.length % 64 + X.length < 64) (hM : M.length + X.length ≤ 140737488355328) :
    Calls Tryd.prog 30 #[.pointer (some ⟨b, 0, none⟩), v] w fun e w' => e = .returned (.int .i64 X.length) ∧ Fr (· = b) w w' ∧ TakAt w' b (M ++ X) := by
  obtain ⟨buf, hbuf, hblk⟩ := hT
  obtain ⟨g, off, cap, rfl, h1, h2, hFg, hc⟩ := hX.plain hne
  have hpos : 0 < X.length := List.length_pos_iff.2 hne
  unfold maxLen at h2
  have c72 : w.cell? ⟨b, 72, none⟩ = some (.int .i64 M.length) := by rw [cell_of_row _ _ _ _ _ _ hblk, takCells_n _ _ _ hbuf.1]
  have f72 := frozen_of_row w b 72 _ _ hblk
  obtain ⟨n, hn⟩ : ∃ n, n = M.length := ⟨_, rfl⟩
  obtain ⟨l, hll⟩ : ∃ l, l = X.length := ⟨_, rfl⟩
  obtain ⟨i, hi⟩ : ∃ i, i = M.length % 64 := ⟨_, rfl⟩
  rw [← hn] at c72 hM
  rw [← hll] at h1 hl hM hpos ⊢
  rw [← hi] at hl
  have hmod : ((n : Int) % 64) = (i : Int) := by omega
  have hi64 : i < 64 := by omega
  have hb1 : ((l : Int) == 64) = false := by rw [beq_eq_false_iff_ne]; omega
  have hb2 : ¬ (64 : Int) - i ≤ l := by omega
  have hb3 : ((i : Int) + (l : Int) == 64) = false := by rw [beq_eq_false_iff_ne]; omega
  have H := Lib.hid (And.intro hbuf (And.intro hblk hX))
  have HN := Lib.hid (And.intro hn (And.intro hll hi))
  clear hn hll hi hbuf hblk hX hc hne
  have hsa := fun w => run_sliceAt_arr w b 8 i hi64
  have hsl := fun w => run_take w (some ⟨g, off, none⟩) l cap l (l : Int) rfl (by omega)
  have HB := Lib.hid (show BytesIn F w (.slice (some ⟨g, off, none⟩) l cap) X by rw [HN.out.2.1]; exact H.out.2.2)
  have HBK := Lib.hid (show w.heap[b]? = some (.cells (takCells (takSt M) buf n) 58 (0, 0)) by rw [HN.out.1]; exact H.out.2.1)
  go_enter Tryd.func30, Tryd.ntmps30
  go_wp2_with fail
  go_region_law (refine step_copy_tak rfl (.tmp 21) (.tmp 24) rfl b i (64 - i) (64 - i) ⟨g, off, none⟩ l cap (takSt M) buf n X (by simp [Act.eval, Act.put]) (by simp [Act.eval, Act.put]) (by exact HBK.out) H.out.1.1 (by rw [← HN.out.2.1]; exact (Nat.min_eq_left (by omega)).symm) (HB.out.keep (S := fun _ => False) (by first | exact (Fr.refl _ w).drew | exact (Fr.refl _ w).drewN _ | exact Fr.refl _ w) (fun _ _ _ h => h)) (by rw [← HN.out.2.1]; omega) ?_; intro v2)
  obtain ⟨W1, hW1⟩ : ∃ W1, W1 = w.drew.setRow b (takCells (takSt M) (bufPut buf i X) n) := ⟨_, rfl⟩
  have hg1 : W1.heap[b]? = some (.cells (takCells (takSt M) (bufPut buf i X) n) 58 (0, 0)) := by rw [hW1]; exact setRow_heap w.drew b _ _ _ _ HBK.out
  have hf1 : Fr (· = b) w W1 := by rw [hW1]; exact (Fr.refl (fun x => x = b) w).drew.setRow (.inl rfl) _
  have hpl := bufPut_length buf i X H.out.1.1 (by rw [← HN.out.2.1]; omega)
  rw [← hW1]
  have c72' : W1.cell? ⟨b, 72, none⟩ = some (.int .i64 n) := by rw [cell_of_row _ _ _ _ _ _ hg1, takCells_n _ _ _ hpl]
  have f72' := frozen_of_row W1 b 72 _ _ hg1
  have HS1 := Lib.hid (And.intro hg1 (And.intro hf1 hpl))
  clear hW1 hg1 hf1 hpl c72 f72 hsl hsa HB HBK
  go_wp2
  go_ret
  refine ⟨rfl, HS1.out.2.1.setCell (p := ⟨b, 72, none⟩) (.inl rfl) _, bufPut buf i X, ?_⟩
  have hi := HN.out.2.2
  have hll := HN.out.2.1
  refine ⟨by rw [hi]; exact buf_part _ _ _ H.out.1 (by omega), ?_⟩
  rw [takSt_part M X (by omega), heap_setCell_at _ HS1.out.1, takCells_set _ _ _ _ HS1.out.2.2, List.length_append, ← HN.out.1, ← hll]
  congr 2

/-- takeSome: what there is room for in the block that is under way. -/
theorem takeSome_any {F : Nat → Prop} {b : Nat} {v : Value} {M X : List UInt8} (w : World) (hL : Laid w) (hb : 2 ≤ b) (hT : TakAt w b M) (hX : BytesIn F w v X) (hF : ∀ k, F k → k ≠ b) (hne : X ≠ [])
    (hM : M.length + X.length ≤ 140737488355328) :
    Calls Tryd.prog 30 #[.pointer (some ⟨b, 0, none⟩), v] w fun e w' => ∃ m : Nat, e = .returned (.int .i64 m) ∧ 0 < m ∧ m ≤ X.length ∧ Fr (· = b) w w' ∧ TakAt w' b (M ++ X.take m) := by
  by_cases hl : 64 ≤ M.length % 64 + X.length
  · by_cases h0 : M.length % 64 = 0
    · exact (takeSome_whole w hL hb hT hX hF h0 (by omega) hM).mono fun e w' ⟨h1, h2, h3⟩ => ⟨64, h1, by omega, by omega, h2, h3⟩
    · exact (takeSome_full w hL hb hT hX hF h0 hl hM).mono fun e w' ⟨h1, h2, h3⟩ => ⟨_, h1, by omega, by omega, h2, h3⟩
  · exact (takeSome_part w hb hT hX hne (by omega) hM).mono fun e w' ⟨h1, h2, h3⟩ => ⟨_, h1, List.length_pos_iff.2 hne, Nat.le_refl _, h2, by rw [List.take_of_length_le (Nat.le_refl _)]; exact h3⟩
end Go.Proofs.YthjpgnmpcllolaaDoor
