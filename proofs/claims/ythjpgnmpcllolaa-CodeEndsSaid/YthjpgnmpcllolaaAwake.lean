/- The law's own examples hold: awake returns true. -/
import Derived.Test.YthjpgnmpcllolaaMaker3
import Derived.Test.YthjpgnmpcllolaaCurText
import Derived.Lib.SlBytesConst
namespace Go.Proofs.Ythjpgnmpcllolaa
open Go.RowKit Go.ChangeShapes
set_option linter.unusedVariables false

theorem Fr.news {w w' : World} (h : Fr (fun k => w.heap.size ≤ k) w w') : Fr (fun _ => False) w w' := h.mono fun k hk hs => by omega

/-- A new row of bytes, written out. -/
theorem bytes_new (w : World) (L : List UInt8) (z : Nat × Nat) (hl : L.length ≤ maxLen) :
    BytesIn (fun k => k = w.heap.size) (w.alloc (.cells (L.map bv).toArray 5 z)) (.slice (some ⟨w.heap.size, 0, none⟩) L.length L.length) L := by
  refine ⟨_, L.length, rfl, Nat.le_refl _, hl, (fun h => by cases h), ?_⟩
  intro a ha
  cases ha
  refine ⟨fun j u hu => ?_, fun _ => rfl⟩
  have := heap_alloc_new w (.cells (L.map bv).toArray 5 z)
  rw [addr_plain]
  simp only [World.cell?, this]
  simpa using hu

/-- A new maker. -/
theorem mak_new (w : World) (o : Obj) (T : TypeId) (ho : o = .cells #[.pointer none, .int .i64 0, .bool false] T) : MakAt (fun k => w.heap.size ≤ k) (w.alloc o) w.heap.size (some []) := by
  subst ho
  exact ⟨Nat.le_refl _, T, .inl ⟨rfl, heap_alloc_new _ _⟩⟩

set_option maxHeartbeats 2000000 in
set_option maxRecDepth 100000 in
theorem awake_any (w : World) :
    Calls Try.prog 8 #[] w fun e w' => e = .returned (.bool true) ∧ Fr (fun _ => False) w w' := by
  have kc := fun (w : World) (C : Array Value) (n c : Nat) => Lib.run_convert_bytes_const (P := Try.prog) w 32 5 C n c Try.underlying32 Try.underlying5
  go_enter Try.func8, Try.ntmps8
  go_wp2_with fail
  -- Num(300)
  have hm0 := (mak_new w (.cells #[.pointer none, .int .i64 0, .bool false] 30) _ rfl).keep (S := fun _ => False) ((Fr.refl _ _).alloc (.cells #[.int .i64 300] 3)) (fun _ _ _ h => h)
  refine (makerNum_any (F := fun k => w.heap.size ≤ k) 300 _ (fun k hk => by simp at hk; omega) hm0 (cell_of_one (by simpa using heap_alloc_new (w.alloc _) (.cells #[.int .i64 300] 3))) (fun L hL => by cases hL; simp)).mono ?_
  rintro e w1 ⟨rfl, hf1, hm1⟩
  rw [show mkNum 300 (some []) = some [172, 2] by decide] at hm1
  have HF1 : Hid (Fr (fun k => w.heap.size ≤ k) w w1) := Lib.hid ((((Fr.refl _ _).alloc _).alloc _).trans hf1 (fun i hi => .inl hi))
  have HM1 := Lib.hid hm1
  clear hm0 hf1 hm1
  go_wp2_with fail
  -- Text("ab")
  have hx1 : BytesIn (fun k => k = w1.heap.size) ((w1.alloc (.cells #[.int .u8 97, .int .u8 98] 5 (2, 3))).alloc (.cells #[.slice (some ⟨w1.heap.size, 0, none⟩) 2 2] 32)) (.slice (some ⟨w1.heap.size, 0, none⟩) 2 2) [97, 98] :=
    (bytes_new w1 [97, 98] (2, 3) (by simp [maxLen])).keep (S := fun _ => False) ((Fr.refl _ _).alloc _) (fun _ _ _ h => h)
  have hm1' := ((HM1.out.mono (G := fun k => w.heap.size ≤ k ∧ k ≠ w1.heap.size) (fun k hk h => ⟨h, by omega⟩)).keep (S := fun _ => False)
    (((Fr.refl _ w1).alloc (.cells #[.int .u8 97, .int .u8 98] 5 (2, 3))).alloc (.cells #[.slice (some ⟨w1.heap.size, 0, none⟩) 2 2] 32)) (fun _ _ _ h => h))
  refine (makerText_any (F := fun k => w.heap.size ≤ k ∧ k ≠ w1.heap.size) (G := fun k => k = w1.heap.size) (x := .slice (some ⟨w1.heap.size, 0, none⟩) 2 2) (X := [97, 98]) _ (fun k hk => by have := HF1.out.size; simp at hk; omega) (fun k hk h => h.2 hk) hm1' (cell_of_one (by simpa using heap_alloc_new (w1.alloc _) (.cells #[.slice (some ⟨w1.heap.size, 0, none⟩) 2 2] 32))) hx1 (fun L hL => by cases hL; simp)).mono ?_
  rintro e w2 ⟨rfl, hf2, hm2⟩
  rw [show mkText [97, 98] (some [172, 2]) = some [172, 2, 2, 97, 98] by decide] at hm2
  have HF2 : Hid (Fr (fun k => w.heap.size ≤ k) w w2) := Lib.hid (((HF1.out.alloc _).alloc _).trans hf2 (fun i hi => .inl hi.1))
  have HM2 := Lib.hid hm2
  clear hx1 hm1' hf2 hm2 HM1
  go_wp2_with fail
  -- Done
  refine (done_yes w2 HM2.out (by simp)).mono ?_
  rintro e w3 ⟨v3, rfl, hf3, ho3⟩
  obtain ⟨ao3, cap3, rfl⟩ := ho3.len
  have HF3 : Hid (Fr (fun k => w.heap.size ≤ k) w w3) := Lib.hid (HF2.out.trans hf3 (fun i hi => hi.elim))
  have HO3 := Lib.hid (ho3.bytes.mono (G := fun k => w2.heap.size ≤ k ∧ k < w3.heap.size) (fun k hk h => ⟨h, hk⟩))
  have hs23 := hf3.size
  clear hf3 ho3 HM2
  go_wp2_with fail
  -- Over([]byte{128, 0})
  refine (over_any _ (bytes_new w3 [128, 0] (0, 0) (by simp [maxLen])) (by simp)).mono ?_
  rintro e w4 ⟨bc, rfl, hf4, hbc, hc4⟩
  have hbc3 : w3.heap.size < bc := by simp at hbc; omega
  have HF4 : Hid (Fr (fun _ => False) w3 w4) := Lib.hid (((Fr.refl _ _).alloc _).trans hf4 (fun i hi => hi.elim))
  have HC4 := Lib.hid hc4
  clear hf4 hc4 hbc
  go_wp2_with fail
  -- Num(9)
  refine (curNum_any 9 _ HC4.out).mono ?_
  rw [show curNum 9 [128, 0] 0 = (0, [], 4) by decide]
  rintro e w5 ⟨rfl, hf5, hc5⟩
  have HO5 : Hid (BytesIn (fun k => w2.heap.size ≤ k ∧ k < w3.heap.size) w5 (.slice ao3 [(172 : UInt8), 2, 2, 97, 98].length cap3) [172, 2, 2, 97, 98]) :=
    Lib.hid ((HO3.out.keep HF4.out (fun _ _ _ h => h)).keep hf5 (fun k _ hk hb => by omega))
  have HF5 : Hid (Fr (fun k => w.heap.size ≤ k) w w5) := Lib.hid ((HF3.out.trans HF4.out (fun i hi => hi.elim)).trans hf5 (fun i hi => .inl (by have := HF3.out.size; omega)))
  have HC5 := Lib.hid hc5
  clear hf5 hc5 HC4 HO3 HF4
  go_wp2_with fail
  -- the bytes of 300 and ab
  have hx5 := bytes_new w5 [172, 2, 2, 97, 98] (0, 0) (by simp [maxLen])
  refine (same_any _ _ [172, 2, 2, 97, 98] [172, 2, 2, 97, 98] _ (HO5.out.keep (S := fun _ => False) ((Fr.refl _ _).alloc _) (fun _ _ _ h => h)) hx5).mono ?_
  rw [show sameB [172, 2, 2, 97, 98] [172, 2, 2, 97, 98] = true by decide]
  rintro e w6 ⟨rfl, k6, rfl⟩
  have HC6 : Hid (CurAt _ ((w5.alloc (.cells ([(172 : UInt8), 2, 2, 97, 98].map bv).toArray 5)).drewN k6) bc [] 4) := Lib.hid (HC5.out.keep (S := fun _ => False) (((Fr.refl _ _).alloc _).drewN _) (fun h => h) (fun _ _ _ h => h))
  have HF6 : Hid (Fr (fun k => w.heap.size ≤ k) w ((w5.alloc (.cells ([(172 : UInt8), 2, 2, 97, 98].map bv).toArray 5)).drewN k6)) := Lib.hid ((HF5.out.alloc _).drewN _)
  clear hx5 HC5 HF5 HO5
  generalize (w5.alloc (.cells ([(172 : UInt8), 2, 2, 97, 98].map bv).toArray 5)).drewN k6 = w6 at HC6 HF6 ⊢
  go_wp2_with fail
  -- End
  refine (curEnd_any _ HC6.out).mono ?_
  rw [show curEnd [] 4 = 4 by decide]
  rintro e w7 ⟨rfl, rfl⟩
  go_wp2_with fail
  -- Over([]byte{172, 2}).Num(300)
  refine (over_any _ (bytes_new w6 [172, 2] (0, 0) (by simp [maxLen])) (by simp)).mono ?_
  rintro e w8 ⟨bd, rfl, hf8, hbd, hc8⟩
  have HF8 : Hid (Fr (fun k => w.heap.size ≤ k) w w8) := Lib.hid ((HF6.out.alloc _).trans hf8 (fun i hi => hi.elim))
  have hbd6 : w6.heap.size ≤ bd := by simp at hbd; omega
  have HC8 := Lib.hid hc8
  clear hf8 hc8 hbd HC6
  go_wp2_with fail
  refine (curNum_any 300 _ HC8.out).mono ?_
  rw [show curNum 300 [172, 2] 0 = (300, [], 0) by decide]
  rintro e w9 ⟨rfl, hf9, hc9⟩
  have HF9 : Hid (Fr (fun k => w.heap.size ≤ k) w w9) := Lib.hid (HF8.out.trans hf9 (fun i hi => .inl (by have := HF6.out.size; omega)))
  clear hf9 hc9 HF8
  go_wp2
  go_ret
  exact ⟨rfl, HF9.out.news⟩
end Go.Proofs.Ythjpgnmpcllolaa
