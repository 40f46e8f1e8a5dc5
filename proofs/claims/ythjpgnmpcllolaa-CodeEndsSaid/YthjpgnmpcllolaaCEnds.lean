/- CodeEnds' walk. -/
import Derived.Test.YthjpgnmpcllolaaEnds1
namespace Go.Proofs.Ythjpgnmpcllolaa
open Go.RowKit Go.ChangeShapes
set_option linter.unusedVariables false

theorem bytes_three (w : World) (x y : Nat) (hx : x < 256) (hy : y < 256) : BytesIn (fun j => j = w.heap.size) (w.alloc (.cells #[.int .u8 (x : Int), .int .u8 (y : Int), .int .u8 1] 5)) (.slice (some ⟨w.heap.size, 0, none⟩) 3 3) [UInt8.ofNat x, UInt8.ofNat y, 1] := by
  refine ⟨_, 3, rfl, Nat.le_refl _, by simp [maxLen], (fun h => by cases h), ?_⟩
  intro a ha
  cases ha
  have ex : ((UInt8.ofNat x).toNat : Int) = x := by rw [UInt8.toNat_ofNat']; omega
  have ey : ((UInt8.ofNat y).toNat : Int) = y := by rw [UInt8.toNat_ofNat']; omega
  refine ⟨fun j u hu => ?_, fun _ => rfl⟩
  rw [addr_plain, Nat.zero_add, cell_of_row _ _ _ _ _ _ (heap_alloc_new w _)]
  match j, hu with
  | 0, hu =>
    simp only [List.map_cons, List.getElem?_cons_zero, bv, ex] at hu
    exact hu
  | 1, hu =>
    simp only [List.map_cons, List.getElem?_cons_zero, List.getElem?_cons_succ, bv, ey] at hu
    exact hu
  | 2, hu => simpa [bv] using hu
theorem bytes_two51 (w : World) : BytesIn (fun j => j = w.heap.size) (w.alloc (.cells #[.int .u8 5, .int .u8 1] 5)) (.slice (some ⟨w.heap.size, 0, none⟩) 2 2) [5, 1] := by
  refine ⟨_, 2, rfl, Nat.le_refl _, by simp [maxLen], (fun h => by cases h), ?_⟩
  intro a ha
  cases ha
  refine ⟨fun j u hu => ?_, fun _ => rfl⟩
  rw [addr_plain, Nat.zero_add, cell_of_row _ _ _ _ _ _ (heap_alloc_new w _)]
  match j, hu with
  | 0, hu => simpa [bv] using hu
  | 1, hu => simpa [bv] using hu
theorem u8_or_any (y : UInt8) : ∃ y2 : UInt8, bits .or .u8 (y.toNat : Int) 128 = (y2.toNat : Int) := by
  have hx := y.toNat_lt
  refine ⟨y ||| 128, ?_⟩
  rw [UInt8.toNat_or]
  exact (bits_nat .u8 8 (by decide) wraps_u8 y.toNat 128 (by omega) (by omega)).2

set_option maxRecDepth 100000 in
set_option maxHeartbeats 2000000 in
theorem cends_any (w : World) : Calls Try.prog 4 #[] w fun e w' => e = .returned (.bool true) ∧ Fr (fun _ => False) w w' := by
  go_enter Try.func4, Try.ntmps4
  go_wp2_with fail
  go_loopw [1] (fun kv wr => ∃ k : Nat, k ≤ 63 ∧ kv = .int .i64 k ∧ Hid (Fr (fun _ => False) w wr)) (fun kv _ => 63 - (intOf kv).toNat)
  case atStart => exact ⟨0, by omega, rfl, Lib.hid (Fr.refl _ _)⟩
  case round =>
    obtain ⟨k, hk, rfl, hF⟩ := hrel
    by_cases hlt : k < 63
    · have hd0 : decide ((k : Int) < 63) = true := by rw [decide_eq_true_iff]; omega
      go_wp2_with fail
      go_loopw [2] (fun dv wr => ∃ d : Int, -1 ≤ d ∧ d ≤ 2 ∧ dv = .int .i64 d ∧ Hid (Fr (fun _ => False) w wr)) (fun dv _ => (2 - intOf dv).toNat)
      case atStart => exact ⟨-1, by omega, by omega, rfl, hF⟩
      case round =>
        obtain ⟨d, hd1, hd2, rfl, hF2⟩ := hrel
        clear hF
        by_cases hlt2 : d < 2
        · obtain ⟨N, hN⟩ : ∃ N : Nat, N = 2 ^ k := ⟨_, rfl⟩
          have hN1 : 1 ≤ N := by rw [hN]; exact Nat.one_le_two_pow
          have hN2 : N ≤ 4611686018427387904 := by rw [hN]; exact Nat.pow_le_pow_right (by decide) (show k ≤ 62 by omega)
          have hp : (2 : Int) ^ k = (N : Int) := by rw [hN]; push_cast; rfl
          obtain ⟨m, hm⟩ : ∃ m : Nat, (N : Int) + d = (m : Int) := ⟨((N : Int) + d).toNat, by omega⟩
          have hmb : m ≤ 4611686018427387906 := by omega
          have HNUM := Lib.hid (refNumber_some m wr (by omega))
          clear hN
          go_wp2_with fail
          refine HNUM.out.mono ?_
          rintro e w1 ⟨vb, L, rfl, hL1, hL2, hob, hf1⟩
          obtain ⟨r, hr⟩ : ∃ r, L.length = r + 1 := ⟨L.length - 1, by omega⟩
          obtain ⟨gb, cb, hvb, hcb1, hcb2, hgb, _⟩ := hob.form (by omega)
          rw [hr] at hvb hcb1
          subst hvb
          have hr9 : r ≤ 9 := by omega
          have HLR := Lib.hid hr
          have HOB := Lib.hid (show OwnB (fun j => w.heap.size ≤ j) w1 (.slice (some ⟨gb, 0, none⟩) (r + 1) cb) L from hob.mono (fun j _ h => Nat.le_trans hF2.out.size h))
          have hBB : BytesIn (fun j => j < w1.heap.size) w1 (.slice (some ⟨gb, 0, none⟩) (r + 1) cb) L := hob.bytes.mono (fun j hj _ => hj)
          have HBB := Lib.hid hBB
          have HF1 := Lib.hid (hF2.out.trans hf1 (fun _ h => h.elim))
          have HC1 := Lib.hid (makes_any _ _ _ (parts_three (w := w1) (T := 37) 0 (m : Int) 0 0 (-(m : Int)) 0 2 0 0 (.slice none 0 0) (.slice none 0 0) (.slice (some ⟨gb, 0, none⟩) (r + 1) cb) [] [] L (BytesIn.nil _ _) (by simp) (intOk_of (by omega) (by omega)) (intOk_of (by omega) (by omega)) (intOk_of (by omega) (by omega)) (BytesIn.nil _ _) (by simp) (intOk_of (by omega) (by omega)) (intOk_of (by omega) (by omega)) (intOk_of (by omega) (by omega)) hBB (by omega) (intOk_of (by omega) (by omega)) (intOk_of (by omega) (by omega)) (intOk_of (by omega) (by omega))))
          unfold maxLen at hcb2
          clear hob hf1 hr HNUM hBB hgb
          go_wp2_with (first
            | (go_at_call 3; refine HC1.out.mono ?_; rintro e w2 ⟨rfl, hf2⟩; have HF2 := Lib.hid (((Fr.refl (fun _ => False) w1).alloc _).trans hf2 (fun _ h => h.elim)); have HC2 := Lib.hid (makes_any _ _ _ (parts_one (w := w2) (T := 37) 0 (m : Int) 0 (.slice none 0 0) [] (BytesIn.nil _ _) (by simp) (intOk_of (by omega) (by omega)) (intOk_of (by omega) (by omega)) (intOk_of (by omega) (by omega)))); clear hf2 HC1)
            | (go_at_call 3; refine HC2.out.mono ?_; rintro e w3 ⟨rfl, hf3⟩; have HF3 := Lib.hid ((HF2.out.alloc _).trans hf3 (fun _ h => h.elim)); have HC3 := Lib.hid (gets_any _ _ L _ _ ((HBB.out.keep (HF3.out.alloc _) (fun _ _ _ h => h)).mono (fun j hj _ => hj)) (by have := HLR.out; omega) (parts_two (w := w3) (T := 37) 0 0 (m : Int) 0 0 0 (.slice none 0 0) (.slice none 0 0) [] [] (BytesIn.nil _ _) (by simp) (intOk_of (by omega) (by omega)) (intOk_of (by omega) (by omega)) (intOk_of (by omega) (by omega)) (BytesIn.nil _ _) (by simp) (intOk_of (by omega) (by omega)) (intOk_of (by omega) (by omega)) (intOk_of (by omega) (by omega)))); clear hf3 HC2 HF2)
            | (go_at_call 23; refine HC3.out.mono ?_; rintro e w4 ⟨rfl, hf4⟩; have HF4 := Lib.hid ((HF3.out.alloc _).trans hf4 (fun _ h => h.elim)); have HC4 := Lib.hid (gets_any _ _ L _ _ ((HBB.out.keep (HF4.out.alloc _) (fun _ _ _ h => h)).mono (fun j hj _ => hj)) (by have := HLR.out; omega) (parts_one (w := w4) (T := 37) 0 0 ((m : Int) - 1) (.slice none 0 0) [] (BytesIn.nil _ _) (by simp) (intOk_of (by omega) (by omega)) (intOk_of (by omega) (by omega)) (intOk_of (by omega) (by omega)))); clear hf4 HC3 HF3)
            | (go_at_call 23; refine HC4.out.mono ?_; rintro e w5 ⟨rfl, hf5⟩; have HF5 := Lib.hid ((HF4.out.alloc _).trans hf5 (fun _ h => h.elim)); have HC5 := Lib.hid (gets_any _ _ (L.take r) _ _ (((HBB.out.take r (by have := HLR.out; omega)).keep (HF5.out.alloc _) (fun _ _ _ h => h)).mono (fun j hj _ => hj)) (by rw [List.length_take]; have := HLR.out; omega) (parts_one (w := w5) (T := 37) 0 0 1099511627776 (.slice none 0 0) [] (BytesIn.nil _ _) (by simp) (intOk_of (by omega) (by omega)) (intOk_of (by omega) (by omega)) (intOk_of (by omega) (by omega)))); clear hf5 HC4 HF4)
            | (go_at_call 23; refine HC5.out.mono ?_; rintro e w6 ⟨rfl, hf6⟩; have HF6 := Lib.hid ((HF5.out.alloc _).trans hf6 (fun _ h => h.elim)); clear hf6 HC5 HF5)
            | (at_builtin; (refine wpList_append_bytes (F := fun j => w6.heap.size ≤ j) (G := fun j => j < w1.heap.size) _ rfl (.tmp 69) (.tmp 70) rfl (.slice (some ⟨w6.heap.size, 0, none⟩) 0 0) (.slice (some ⟨gb, 0, none⟩) (r + 1) cb) [] L rfl rfl (own_empty w6 _ rfl) (HBB.out.keep (HF6.out.alloc _) (fun _ _ _ h => h)) (by rw [List.length_nil, HLR.out]; omega) ?_; intro v7 w7 ho7 hg7 hn7; have hf7 : Fr (fun _ => False) w1 w7 := (HF6.out.alloc _).grown hg7 (fun j hj => .inr (by simp only [Value.ownBlock, Option.some.injEq] at hj; have := HF6.out.size; omega)); rw [List.nil_append] at ho7; obtain ⟨g7, c7, hv7, hc71, hc72, hg7b, hcell7⟩ := ho7.form (by have := HLR.out; omega); rw [HLR.out] at hv7 hc71; subst hv7; obtain ⟨y, hy⟩ : ∃ y, y = L.getD r 0 := ⟨_, rfl⟩; have hcr := hcell7 r (by have := HLR.out; omega); rw [← hy] at hcr; obtain ⟨d7, f7⟩ := hcr; obtain ⟨y2, hor⟩ := u8_or_any y; have hb7 := ho7.mono (G := fun j => w.heap.size ≤ j) (fun j _ h => by have := HF1.out.size; have := HF6.out.size; rcases h with h | h; omega; simp at h; omega); have HB8 := Lib.hid (show OwnB (fun j => w.heap.size ≤ j) (w7.setCell ⟨g7, r, none⟩ (.int .u8 (y2.toNat : Int))) (.slice (some ⟨g7, 0, none⟩) (r + 1) c7) (L.set r y2) from hb7.store r y2); have hg7c : w.heap.size ≤ g7 := hb7.2 g7 rfl; have HF8 := Lib.hid (show Fr (fun _ => False) w (w7.setCell ⟨g7, r, none⟩ (.int .u8 (y2.toNat : Int))) from (HF1.out.trans hf7 (fun _ h => h.elim)).setCell (p := ⟨g7, r, none⟩) (.inr hg7c) _); have HC6 := Lib.hid (gets_any _ _ (L.set r y2) _ _ ((HB8.out.bytes.keep (S := fun _ => False) ((Fr.refl _ _).alloc _) (fun _ _ _ h => h)).mono (fun j hj _ => hj)) (by rw [List.length_set]; have := HLR.out; omega) (parts_one (w := w7.setCell ⟨g7, r, none⟩ (.int .u8 (y2.toNat : Int))) (T := 37) 0 0 (m : Int) (.slice none 0 0) [] (BytesIn.nil _ _) (by simp) (intOk_of (by omega) (by omega)) (intOk_of (by omega) (by omega)) (intOk_of (by omega) (by omega)))); rw [show (w7.setCell ⟨g7, r, none⟩ (.int .u8 (y2.toNat : Int))).heap.size = w7.heap.size by simp [World.setCell]] at HC6; unfold maxLen at hc72; clear ho7 hg7 hn7 hf7 hg7b hcell7 hy hb7 HF6 HBB HOB))
            | (go_at_call 23; refine HC6.out.mono ?_; rintro e w9 ⟨rfl, hf9⟩; have HF9 := Lib.hid ((HF8.out.alloc _).trans hf9 (fun _ h => h.elim)); have HB9 := Lib.hid ((HB8.out.keep (S := fun _ => False) ((Fr.refl _ _).alloc _) (fun _ _ _ h => h)).keep hf9 (fun _ _ _ h => h)); have HX9 := Lib.hid (And.intro (HB9.out.keep (S := fun _ => False) ((Fr.refl _ w9).alloc (.cells #[.int .u8 0] 5)) (fun _ _ _ h => h)) (one_byte w9 0 0 rfl)); clear hf9 HC6 HB8 HF8)
            | (at_builtin; refine wpList_append_keep_g (F := fun j => w.heap.size ≤ j) (G := fun j => j = w9.heap.size) _ (by simp [Region.wanted, yielded]) (.tmp 91) (.tmp 92) rfl (.slice (some ⟨g7, 0, none⟩) (r + 1) c7) (.slice (some ⟨w9.heap.size, 0, none⟩) 1 1) (L.set r y2) [0] rfl rfl HX9.out.1 HX9.out.2 (by rw [List.length_set]; have := HLR.out; simp; omega) ?_; intro v10 w10 hb10 hv10 hg10; have HF10 := Lib.hid ((HF9.out.alloc (.cells #[.int .u8 0] 5)).grown hg10 (fun j hj => .inr (HX9.out.1.2 j hj))); have HB10 := Lib.hid hb10; have HC7 := Lib.hid (gets_any v10 _ _ _ _ ((hv10.bytes.keep (S := fun _ => False) ((Fr.refl _ _).alloc _) (fun _ _ _ h => h)).mono (fun j hj _ => hj)) (by rw [List.length_append, List.length_set]; have := HLR.out; simp; omega) (parts_one (w := w10) (T := 37) 0 0 1099511627776 (.slice none 0 0) [] (BytesIn.nil _ _) (by simp) (intOk_of (by omega) (by omega)) (intOk_of (by omega) (by omega)) (intOk_of (by omega) (by omega)))); clear hb10 hv10 hg10 HX9 HB9 HF9)
            | (go_at_call 23; refine HC7.out.mono ?_; rintro e w11 ⟨rfl, hf11⟩; have HF11 := Lib.hid ((HF10.out.alloc _).trans hf11 (fun _ h => h.elim)); have HB11 := Lib.hid ((HB10.out.keep (S := fun _ => False) ((Fr.refl _ _).alloc _) (fun _ _ _ h => h)).keep hf11 (fun _ _ _ h => h)); have HX11 := Lib.hid (And.intro (HB11.out.keep (S := fun _ => False) ((Fr.refl _ w11).alloc (.cells #[.int .u8 1] 5)) (fun _ _ _ h => h)) (one_byte w11 1 1 rfl)); clear hf11 HC7 HB10 HF10)
            | (at_builtin; refine wpList_append_keep_g (F := fun j => w.heap.size ≤ j) (G := fun j => j = w11.heap.size) _ (by simp [Region.wanted, yielded]) (.tmp 100) (.tmp 101) rfl (.slice (some ⟨g7, 0, none⟩) (r + 1) c7) (.slice (some ⟨w11.heap.size, 0, none⟩) 1 1) (L.set r y2) [1] rfl rfl HX11.out.1 HX11.out.2 (by rw [List.length_set]; have := HLR.out; simp; omega) ?_; intro v12 w12 hb12 hv12 hg12; have HF12 := Lib.hid ((HF11.out.alloc (.cells #[.int .u8 1] 5)).grown hg12 (fun j hj => .inr (HX11.out.1.2 j hj))); have HC8 := Lib.hid (gets_any v12 _ _ _ _ ((hv12.bytes.keep (S := fun _ => False) ((Fr.refl _ _).alloc _) (fun _ _ _ h => h)).mono (fun j hj _ => hj)) (by rw [List.length_append, List.length_set]; have := HLR.out; simp; omega) (parts_one (w := w12) (T := 37) 0 0 1099511627776 (.slice none 0 0) [] (BytesIn.nil _ _) (by simp) (intOk_of (by omega) (by omega)) (intOk_of (by omega) (by omega)) (intOk_of (by omega) (by omega)))); clear hb12 hv12 hg12 HX11 HB11 HF11)
            | (go_at_call 23; refine HC8.out.mono ?_; rintro e w13 ⟨rfl, hf13⟩; have HF13 := Lib.hid ((HF12.out.alloc _).trans hf13 (fun _ h => h.elim)); clear hf13 HC8 HF12)
            | fail)
          go_roundw
          case rel => exact ⟨d + 1, by omega, by omega, rfl, HF13⟩
          case measure => simp [intOf]; omega
        · go_wp2_with fail
          go_roundw
          case rel => exact ⟨k + 1, by omega, by go_num, hF2⟩
          case measure => simp [intOf]; omega
    · have hd0 : decide ((k : Int) < 63) = false := by rw [decide_eq_false_iff_not]; omega
      go_wp2_with fail
      go_loopw [6] (fun xv wr => ∃ x : Nat, x ≤ 256 ∧ xv = .int .i64 x ∧ Hid (Fr (fun _ => False) w wr)) (fun xv _ => 256 - (intOf xv).toNat)
      case atStart => exact ⟨0, by omega, rfl, hF⟩
      case round =>
        clear hF
        obtain ⟨x, hx, rfl, hF⟩ := hrel
        by_cases hx256 : x < 256
        · have hd1 : decide ((x : Int) < 256) = true := by rw [decide_eq_true_iff]; omega
          obtain ⟨x3, hx3⟩ : ∃ x3 : Nat, (x : Int) % 3 = (x3 : Int) := ⟨x % 3, by omega⟩
          have hx3b : x3 ≤ 2 := by omega
          obtain ⟨x2, hx2⟩ : ∃ x2 : Nat, (x : Int) % 2 = (x2 : Int) := ⟨x % 2, by omega⟩
          have hx2b : x2 ≤ 1 := by omega
          go_wp2_with fail
          go_loopw [7] (fun yv wr => ∃ y : Nat, y ≤ 300 ∧ yv = .int .i64 y ∧ Hid (Fr (fun _ => False) w wr)) (fun yv _ => 300 - (intOf yv).toNat)
          case atStart => exact ⟨0, by omega, rfl, hF⟩
          case round =>
            clear hF
            obtain ⟨y, hy, rfl, hF⟩ := hrel
            by_cases hy256 : y < 256
            · obtain ⟨y4, hy4⟩ : ∃ y4 : Nat, (y : Int) % 4 = (y4 : Int) := ⟨y % 4, by omega⟩
              have hy4b : y4 ≤ 3 := by omega
              obtain ⟨y3, hy3⟩ : ∃ y3 : Nat, (y : Int) % 3 = (y3 : Int) := ⟨y % 3, by omega⟩
              have hy3b : y3 ≤ 2 := by omega
              have HB3 := Lib.hid (show BytesIn (fun j => j = wr.heap.size) (wr.alloc (.cells #[.int .u8 (x : Int), .int .u8 (y : Int), .int .u8 1] 5)) (.slice (some ⟨wr.heap.size, 0, none⟩) 3 3) [UInt8.ofNat x, UInt8.ofNat y, 1] from bytes_three wr x y hx256 hy256)
              have HC := Lib.hid (gets_any _ _ [UInt8.ofNat x, UInt8.ofNat y, 1] _ _ ((HB3.out.keep (S := fun _ => False) ((Fr.refl _ _).alloc _) (fun _ _ _ h => h)).mono (fun j hj _ => hj)) (by simp) (parts_two (w := wr.alloc (.cells #[.int .u8 (x : Int), .int .u8 (y : Int), .int .u8 1] 5)) (T := 37) (x3 : Int) 0 ((y4 : Int) + (x2 : Int) * 300) (y3 : Int) 0 2 (.slice none 0 0) (.slice none 0 0) [] [] (BytesIn.nil _ _) (by simp) (intOk_of (by omega) (by omega)) (intOk_of (by omega) (by omega)) (intOk_of (by omega) (by omega)) (BytesIn.nil _ _) (by simp) (intOk_of (by omega) (by omega)) (intOk_of (by omega) (by omega)) (intOk_of (by omega) (by omega))))
              rw [World.size_alloc] at HC
              clear HB3
              go_wp2_with (go_at_call 23; refine HC.out.mono ?_; rintro e w2 ⟨rfl, hf2⟩; have HF2 := Lib.hid (((hF.out.alloc _).alloc _).trans hf2 (fun _ h => h.elim)); clear hf2 HC)
              go_roundw
              case rel => exact ⟨y + 1 + x3 * 5, by omega, by first | go_num | (push_cast; rfl), HF2⟩
              case measure => simp [intOf]; omega
            · go_wp2_with fail
              go_roundw
              case rel => exact ⟨x + 1, by omega, by go_num, hF⟩
              case measure => simp [intOf]; omega
        · have hd1 : decide ((x : Int) < 256) = false := by rw [decide_eq_false_iff_not]; omega
          have HG := Lib.hid (long_any wr)
          go_wp2_with (first
            | (go_at_call 24; refine HG.out.mono ?_; rintro e w1 ⟨rfl, hf1⟩; have HF1 := Lib.hid (hF.out.trans hf1 (fun _ h => h.elim)); have HNO := Lib.hid (none_any w1); clear hf1 HG)
            | (go_at_call 25; refine HNO.out.mono ?_; rintro e w2 ⟨rfl, hf2⟩; have HF2 := Lib.hid (HF1.out.trans hf2 (fun _ h => h.elim)); have HC1 := gets_any _ _ [5] _ _ (((one_byte w2 5 5 rfl).keep (S := fun _ => False) ((Fr.refl _ _).alloc _) (fun _ _ _ h => h)).mono (fun j hj _ => hj)) (by simp) (parts_one (w := w2.alloc (.cells #[.int .u8 5] 5)) (T := 37) 1 0 (-1) (.slice none 0 0) [] (BytesIn.nil _ _) (by simp) (intOk_of (by omega) (by omega)) (intOk_of (by omega) (by omega)) (intOk_of (by omega) (by omega))); rw [World.size_alloc] at HC1; have HC1 := Lib.hid HC1; clear hf2 HNO)
            | (go_at_call 23; refine HC1.out.mono ?_; rintro e w3 ⟨rfl, hf3⟩; have HF3 := Lib.hid (((HF2.out.alloc _).alloc _).trans hf3 (fun _ h => h.elim)); have HC2 := gets_any _ _ [5, 1] _ _ (((bytes_two51 w3).keep (S := fun _ => False) ((Fr.refl _ _).alloc _) (fun _ _ _ h => h)).mono (fun j hj _ => hj)) (by simp) (parts_one (w := w3.alloc (.cells #[.int .u8 5, .int .u8 1] 5)) (T := 37) 2 0 (-1) (.slice none 0 0) [] (BytesIn.nil _ _) (by simp) (intOk_of (by omega) (by omega)) (intOk_of (by omega) (by omega)) (intOk_of (by omega) (by omega))); rw [World.size_alloc] at HC2; have HC2 := Lib.hid HC2; clear hf3 HC1)
            | (go_at_call 23; refine HC2.out.mono ?_; rintro e w4 ⟨rfl, hf4⟩; have HF4 := Lib.hid (((HF3.out.alloc _).alloc _).trans hf4 (fun _ h => h.elim)); have HC3 := gets_any _ _ [0] _ _ (((one_byte w4 0 0 rfl).keep (S := fun _ => False) ((Fr.refl _ _).alloc _) (fun _ _ _ h => h)).mono (fun j hj _ => hj)) (by simp) (parts_one (w := w4.alloc (.cells #[.int .u8 0] 5)) (T := 37) 0 0 (-1) (.slice none 0 0) [] (BytesIn.nil _ _) (by simp) (intOk_of (by omega) (by omega)) (intOk_of (by omega) (by omega)) (intOk_of (by omega) (by omega))); rw [World.size_alloc] at HC3; have HC3 := Lib.hid HC3; clear hf4 HC2)
            | (go_at_call 23; refine HC3.out.mono ?_; rintro e w5 ⟨rfl, hf5⟩; have HF5 := Lib.hid (((HF4.out.alloc _).alloc _).trans hf5 (fun _ h => h.elim)); have HAW := Lib.hid (awake_any w5); clear hf5 HC3)
            | (go_at_call 8; refine HAW.out.mono ?_; rintro e w6 ⟨rfl, hf6⟩; have HF6 := Lib.hid (HF5.out.trans hf6 (fun _ h => h.elim)); clear hf6 HAW)
            | fail)
          go_ret
          exact ⟨rfl, HF6.out⟩
end Go.Proofs.Ythjpgnmpcllolaa
