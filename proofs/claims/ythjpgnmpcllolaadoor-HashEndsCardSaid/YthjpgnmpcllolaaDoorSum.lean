/- Contracts: hash.Sum, begins, awake. -/
import Derived.Test.YthjpgnmpcllolaaDoorBegin
import Derived.Lib.SlBytesConst
namespace Go.Proofs.YthjpgnmpcllolaaDoor
open Go.RowKit Go.ChangeShapes
set_option linter.unusedVariables false

theorem Fr.news {w w' : World} (h : Fr (fun k => w.heap.size ≤ k) w w') : Fr (fun _ => False) w w' := h.mono fun k hk hs => by omega

set_option maxRecDepth 100000 in
set_option maxHeartbeats 2000000 in
theorem sum_any {F : Nat → Prop} {v : Value} {P : List (List UInt8)} (w : World) (hL : Laid w) (hP : RowsIn F w v P) (hF : ∀ k, F k → k < w.heap.size) (hM : P.flatten.length ≤ 100000000000) :
    Calls Tryd.prog 11 #[v] w fun e w' => e = .returned (.agg ((digest P.flatten).map bv).toArray) ∧ Fr (fun _ => False) w w' := by
  have hlt := hL.lt
  have H := Lib.hid (And.intro hL (And.intro hP hF))
  clear hL hP hF
  obtain ⟨C, hC⟩ : ∃ C, C = ((digest P.flatten).map bv).toArray := ⟨_, rfl⟩
  have hcs : C.size = 32 := by rw [hC]; rfl
  have hone : C.all (·.oneCell') = true := by rw [hC]; exact all_oneCell_toArray (bv_one _)
  have hs0 := bcells_size 32 (List.replicate 32 0) 0 (by simp) (by omega)
  obtain ⟨C0, hC0⟩ : ∃ C0, C0 = bcells 32 (List.replicate 32 0) 0 := ⟨_, rfl⟩
  rw [← hC]
  rw [← hC0] at hs0
  have HC := Lib.hid hC
  have HC0 := Lib.hid hC0
  clear hC hC0
  go_enter Tryd.func11, Tryd.ntmps11
  go_wp2_with fail
  obtain ⟨w1, hw1⟩ : ∃ w1, w1 = w.alloc (.cells C0 27) := ⟨_, rfl⟩
  have hr1 : w1.heap[w.heap.size]? = some (.cells C0 27 (0, 0)) := by rw [hw1]; exact heap_alloc_new w _
  have HF1 := Lib.hid (show Fr (fun _ => False) w w1 by rw [hw1]; exact (Fr.refl _ w).alloc _)
  have hsz1 : w1.heap.size = w.heap.size + 1 := by rw [hw1]; simp
  have e1 : w.alloc (.cells #[.int .u8 0, .int .u8 0, .int .u8 0, .int .u8 0, .int .u8 0, .int .u8 0, .int .u8 0, .int .u8 0, .int .u8 0, .int .u8 0, .int .u8 0, .int .u8 0, .int .u8 0, .int .u8 0, .int .u8 0, .int .u8 0, .int .u8 0, .int .u8 0, .int .u8 0, .int .u8 0, .int .u8 0, .int .u8 0, .int .u8 0, .int .u8 0, .int .u8 0, .int .u8 0, .int .u8 0, .int .u8 0, .int .u8 0, .int .u8 0, .int .u8 0, .int .u8 0] 27) = w1 := by
    rw [hw1, HC0.out]
    rfl
  rw [e1]
  clear e1 hw1
  have HR1 := Lib.hid hr1
  clear hr1
  refine (begin_any w1 (H.out.1.keep HF1.out (fun _ _ h => h))).mono ?_
  rintro e w2 ⟨b, rfl, hb, hf2, ht2⟩
  have HF2 := Lib.hid (HF1.out.trans hf2 (fun _ h => h.elim))
  have HR2 := Lib.hid (hf2.heap HR1.out (fun h => h))
  have hb2 : 2 ≤ b := by omega
  have HT := Lib.hid (take_any (b := b) w2 (H.out.1.keep HF2.out (fun _ _ h => h)) hb2 ht2 (H.out.2.1.keep HF2.out (fun _ _ _ h => h)) (fun k hk e => by have := H.out.2.2 k hk; omega) (by rw [List.length_nil]; omega))
  clear hf2 ht2 HR1 HF1
  go_wp2_with fail
  refine HT.out.mono ?_
  rintro e w3 ⟨rfl, hf3, ht3⟩
  rw [List.nil_append] at ht3
  have HF3 := Lib.hid (show Fr (fun j => j = b) w w3 from (HF2.out.mono (fun _ _ h => h.elim)).trans hf3 (fun _ h => .inl h))
  have HR3 := Lib.hid (hf3.heap HR2.out (by omega))
  have HE := Lib.hid (end_any (b := b) w3 (H.out.1.keep HF3.out (fun k hk e => by omega)) hb2 ht3 hM)
  rw [← HC.out] at HE
  clear hf3 ht3 HR2 HF2 HT
  go_wp2_with (first
    | (go_at_call 24; refine HE.out.mono ?_; rintro e w4 ⟨rfl, hf4⟩; have hr2 := hf4.heap HR3.out (by omega); have HF4 := Lib.hid (HF3.out.trans hf4 (fun _ h => .inl h)); clear hf4)
    | (with_reducible refine wpList_store_row rfl 27 (.tmp 2) (.tmp 9) rfl w.heap.size C C0 27 rfl rfl hr2 (by rw [hcs]; kernel_rfl) (by rw [hs0, hcs]) hone ?_))
  refine bodyPost_ret (results_cell_row rfl _ _ w.heap.size 27 C (0, 0) _ rfl (setRow_heap _ _ _ _ _ _ hr2) Tryd.underlying27 rfl (by rw [hcs]; kernel_rfl)) rfl ⟨rfl, ?_⟩
  exact (HF4.out.mono (T := fun _ => False) (fun k hk h => by omega)).setRow (.inr (Nat.le_refl _)) _

set_option maxRecDepth 100000 in
set_option maxHeartbeats 2000000 in
/-- begins, where the digest begins so. -/
theorem begins_yes (w : World) (x0 x1 x2 x3 : UInt8) (r : List UInt8) :
    Calls Tryd.prog 19 #[.agg ((x0 :: x1 :: x2 :: x3 :: r).map bv).toArray, .int .u8 x0.toNat, .int .u8 x1.toNat, .int .u8 x2.toNat, .int .u8 x3.toNat] w fun e w' => e = .returned (.bool true) ∧ Fr (fun _ => False) w w' := by
  obtain ⟨C, hC⟩ : ∃ C, C = ((x0 :: x1 :: x2 :: x3 :: r).map bv).toArray := ⟨_, rfl⟩
  have c0 : C[0]? = some (.int .u8 x0.toNat) := by rw [hC]; rfl
  have c1 : C[1]? = some (.int .u8 x1.toNat) := by rw [hC]; rfl
  have c2 : C[2]? = some (.int .u8 x2.toNat) := by rw [hC]; rfl
  have c3 : C[3]? = some (.int .u8 x3.toNat) := by rw [hC]; rfl
  rw [← hC]
  clear hC
  go_enter Tryd.func19, Tryd.ntmps19
  go_wp2
  go_ret
  exact ⟨rfl, (Fr.refl _ w).alloc _⟩
theorem begins_lit (w : World) (D : List UInt8) (x0 x1 x2 x3 : UInt8) (r : List UInt8) (hD : D = x0 :: x1 :: x2 :: x3 :: r) (y0 y1 y2 y3 : Int) (h0 : y0 = x0.toNat) (h1 : y1 = x1.toNat) (h2 : y2 = x2.toNat) (h3 : y3 = x3.toNat) :
    Calls Tryd.prog 19 #[.agg (D.map bv).toArray, .int .u8 y0, .int .u8 y1, .int .u8 y2, .int .u8 y3] w fun e w' => e = .returned (.bool true) ∧ Fr (fun _ => False) w w' := by
  subst hD h0 h1 h2 h3
  exact begins_yes w x0 x1 x2 x3 r
theorem head_of {D : List UInt8} {a b : Nat} (h : ∃ s : St, D = s.bytes ∧ (s.a, s.b) = (a, b)) : ∃ r, D = UInt8.ofNat (a / 16777216) :: UInt8.ofNat (a / 65536) :: UInt8.ofNat (a / 256) :: UInt8.ofNat (a / 1) :: r := by
  obtain ⟨s, rfl, h⟩ := h
  injection h with h1 _
  subst h1
  exact ⟨_, rfl⟩
theorem head_nil : ∃ r, digest [] = 227 :: 176 :: 196 :: 66 :: r := head_of digest_nil
theorem head_abc : ∃ r, digest [97, 98, 99] = 186 :: 120 :: 22 :: 191 :: r := head_of digest_abc
theorem RowsIn.nil (F : Nat → Prop) (w : World) : RowsIn F w (.slice none 0 0) [] := ⟨none, 0, rfl, Nat.le_refl _, by omega, by simp, fun h => absurd rfl h⟩
/-- A new row of bytes, written out. -/
theorem bytes_new (w : World) (L : List UInt8) (z : Nat × Nat) (hl : L.length ≤ maxLen) :
    BytesIn (fun k => k = w.heap.size) (w.alloc (.cells (L.map bv).toArray 5 z)) (.slice (some ⟨w.heap.size, 0, none⟩) L.length L.length) L := by
  refine ⟨_, L.length, rfl, Nat.le_refl _, hl, (fun h => by cases h), ?_⟩
  intro a ha
  cases ha
  refine ⟨fun j u hu => ?_, fun _ => rfl⟩
  have := heap_alloc_new w (.cells (L.map bv).toArray 5 z)
  rw [addr_plain]
  simp only [World.cell?, this]
  simpa using hu

set_option maxRecDepth 100000 in
set_option maxHeartbeats 2000000 in
theorem awake_any (w : World) (hL : Laid w) :
    Calls Tryd.prog 9 #[] w fun e w' => e = .returned (.bool true) ∧ Fr (fun _ => False) w w' := by
  have HL := Lib.hid hL
  have kc := fun (w : World) (C : Array Value) (n c : Nat) => Lib.run_convert_bytes_const (P := Tryd.prog) w 38 5 C n c Tryd.underlying38 Tryd.underlying5
  have H1 := Lib.hid (sum_any (F := fun _ => False) w hL (RowsIn.nil _ w) (fun k h => h.elim) (by simp))
  obtain ⟨C1, hC1⟩ : ∃ C, C = ((digest ([] : List (List UInt8)).flatten).map bv).toArray := ⟨_, rfl⟩
  have HC1 := Lib.hid hC1
  rw [← hC1] at H1
  clear hL hC1
  go_enter Tryd.func9, Tryd.ntmps9
  go_wp2_with fail
  refine H1.out.mono ?_
  rintro e w1 ⟨rfl, hf1⟩
  have HF1 := Lib.hid hf1
  clear hf1 H1
  go_wp2_with fail
  obtain ⟨r1, hr1⟩ := head_nil
  rw [HC1.out]
  refine (begins_lit w1 _ _ _ _ _ r1 hr1 _ _ _ _ rfl rfl rfl rfl).mono ?_
  rintro e w2 ⟨rfl, hf2⟩
  have HF2 := Lib.hid (HF1.out.trans hf2 (fun _ h => h.elim))
  clear hf2 HF1 hr1
  go_wp2_with fail
  have hb3 := (bytes_new w2 [97, 98, 99] (3, 4) (by simp [maxLen])).mono (G := fun k => k < w2.heap.size + 2) (fun k hk h => by omega)
  have hrow := RowsIn.one (w := w2.alloc (.cells (([97, 98, 99] : List UInt8).map bv).toArray 5 (3, 4))) (F := fun k => k < w2.heap.size + 2) (by simp) hb3 (by simp)
  have h3 := sum_any (F := fun k => k < w2.heap.size + 2) _ (HL.out.keep ((HF2.out.alloc (.cells (([97, 98, 99] : List UInt8).map bv).toArray 5 (3, 4))).alloc (.cells #[.slice (some ⟨w2.heap.size, 0, none⟩) 3 3] 38)) (fun _ _ h => h)) hrow (fun k hk => by simpa using hk) (by simp)
  simp only [World.size_alloc] at h3
  refine h3.mono ?_
  rintro e w3 ⟨rfl, hf3⟩
  have HF3 := Lib.hid (((HF2.out.alloc _).alloc _).trans hf3 (fun _ h => h.elim))
  have hfl : ([[97, 98, 99]] : List (List UInt8)).flatten = [97, 98, 99] := rfl
  rw [hfl]
  clear hf3 h3 hrow hb3 HF2 hfl
  obtain ⟨C3, hC3⟩ : ∃ C, C = ((digest [97, 98, 99]).map bv).toArray := ⟨_, rfl⟩
  rw [← hC3]
  obtain ⟨r3, hr3⟩ := head_abc
  have HB := Lib.hid (begins_lit w3 _ _ _ _ _ r3 hr3 186 120 22 191 rfl rfl rfl rfl)
  rw [← hC3] at HB
  clear hC3 hr3
  go_wp2_with (go_at_call 19; refine HB.out.mono ?_; rintro e w4 ⟨rfl, hf4⟩; have HF4 := Lib.hid hf4; clear hf4)
  go_ret
  exact ⟨rfl, HF3.out.trans HF4.out (fun _ h => h.elim)⟩
end Go.Proofs.YthjpgnmpcllolaaDoor
