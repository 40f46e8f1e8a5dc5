/- Contracts: (*hash.taker).takeTexts, hash.Of. -/
import Derived.Test.YthjpgnmpcllolaaDoorFold
import Derived.Test.YthjpgnmpcllolaaDoorMaker3
namespace Go.Proofs.YthjpgnmpcllolaaDoor
open Go.RowKit Go.ChangeShapes
set_option linter.unusedVariables false

/-- A new row of rows. -/
theorem RowsIn.mk_ {F : Nat → Prop} {w : World} {xs : List Value} {P : List (List UInt8)} {n : Nat} (hn : P.length = n) (hl : xs.length = n) (hF : F w.heap.size) (h : ∀ i (h1 : i < xs.length) (h2 : i < P.length), BytesIn F w xs[i] P[i]) (hX : ∀ X ∈ P, X.length ≤ 140737488351232) (hb : n ≤ 140737488351232) :
    RowsIn F (w.alloc (.cells xs.toArray 38)) (.slice (some ⟨w.heap.size, 0, none⟩) n n) P := by
  subst hn
  refine ⟨_, P.length, rfl, Nat.le_refl _, by omega, hX, fun _ => ⟨w.heap.size, 0, rfl, hF, fun i hi => ?_⟩⟩
  have h1 : i < xs.length := by omega
  refine ⟨xs[i], ?_, (h i h1 hi).keep (S := fun _ => False) ((Fr.refl _ _).alloc _) (fun _ _ _ h => h)⟩
  rw [Nat.zero_add, cell_of_row _ _ _ _ _ _ (heap_alloc_new w _), List.getElem?_toArray, List.getElem?_eq_getElem h1]
theorem RowsIn.two {F : Nat → Prop} {w : World} {x y : Value} {X Y : List UInt8} (hF : F w.heap.size) (hx : BytesIn F w x X) (hy : BytesIn F w y Y) (hX : X.length ≤ 140737488351232) (hY : Y.length ≤ 140737488351232) :
    RowsIn F (w.alloc (.cells #[x, y] 38)) (.slice (some ⟨w.heap.size, 0, none⟩) 2 2) [X, Y] := by
  refine RowsIn.mk_ (xs := [x, y]) rfl rfl hF (fun i h1 h2 => ?_) (by simp [hX, hY]) (by omega)
  match i, h1 with
  | 0, _ => exact hx
  | 1, _ => exact hy
theorem RowsIn.three {F : Nat → Prop} {w : World} {x y z : Value} {X Y Z : List UInt8} (hF : F w.heap.size) (hx : BytesIn F w x X) (hy : BytesIn F w y Y) (hz : BytesIn F w z Z) (hX : X.length ≤ 140737488351232) (hY : Y.length ≤ 140737488351232) (hZ : Z.length ≤ 140737488351232) :
    RowsIn F (w.alloc (.cells #[x, y, z] 38)) (.slice (some ⟨w.heap.size, 0, none⟩) 3 3) [X, Y, Z] := by
  refine RowsIn.mk_ (xs := [x, y, z]) rfl rfl hF (fun i h1 h2 => ?_) (by simp [hX, hY, hZ]) (by omega)
  match i, h1 with
  | 0, _ => exact hx
  | 1, _ => exact hy
  | 2, _ => exact hz
theorem RowsIn.mono {F G : Nat → Prop} {w : World} {v : Value} {P : List (List UInt8)} (h : RowsIn F w v P) (hd : ∀ k, k < w.heap.size → F k → G k) : RowsIn G w v P := by
  obtain ⟨ao, cap, hv, h1, h2, h3, h4⟩ := h
  refine ⟨ao, cap, hv, h1, h2, h3, fun hl => ?_⟩
  obtain ⟨b, off, ha, hF, hi⟩ := h4 hl
  have hb : b < w.heap.size := by
    obtain ⟨x, hx, _⟩ := hi 0 (List.length_pos_iff.2 hl)
    exact World.block_lt_of_cell? _ _ hx
  refine ⟨b, off, ha, hd b hb hF, fun i h => ?_⟩
  obtain ⟨x, hx, hbx⟩ := hi i h
  exact ⟨x, hx, hbx.mono hd⟩

/-- A new maker. -/
theorem mak_new (w : World) (o : Obj) (T : TypeId) (ho : o = .cells #[.pointer none, .int .i64 0, .bool false] T) : MakAt (fun k => w.heap.size ≤ k) (w.alloc o) w.heap.size (some []) := by
  subst ho
  exact ⟨Nat.le_refl _, T, .inl ⟨rfl, heap_alloc_new _ _⟩⟩
/-- The bytes of texts. -/
def textOf (X : List UInt8) : List UInt8 := numBytes 5 X.length ++ X
def textsOf (P : List (List UInt8)) : List UInt8 := (P.map textOf).flatten
theorem textOf_length (X : List UInt8) : (textOf X).length ≤ X.length + 6 := by
  have := (numBytes_len 5 X.length).2
  simp [textOf]
  omega
theorem textsOf_take_succ (P : List (List UInt8)) (k : Nat) (h : k < P.length) : textsOf (P.take (k + 1)) = textsOf (P.take k) ++ textOf P[k] := by
  unfold textsOf
  rw [List.take_succ_eq_append_getElem h, List.map_append, List.flatten_append]
  simp
theorem textsOf_take_le (P : List (List UInt8)) (k : Nat) : (textsOf (P.take k)).length ≤ (textsOf P).length := by
  conv => rhs; rw [← List.take_append_drop k P]
  unfold textsOf
  rw [List.map_append, List.flatten_append, List.length_append]
  omega

set_option maxRecDepth 100000 in
set_option maxHeartbeats 2000000 in
theorem takeTexts_any {F : Nat → Prop} {b : Nat} {v : Value} {M : List UInt8} {P : List (List UInt8)} (w : World) (hL : Laid w) (hb : 2 ≤ b) (hT : TakAt w b M) (hP : RowsIn F w v P) (hF : ∀ k, F k → k ≠ b ∧ k < w.heap.size)
    (hM : M.length + (textsOf P).length ≤ 100000000000) :
    Calls Tryd.prog 27 #[.pointer (some ⟨b, 0, none⟩), v] w fun e w' => e = .returned (.tuple #[]) ∧ Fr (· = b) w w' ∧ TakAt w' b (M ++ textsOf P) := by
  obtain ⟨ao, cap, rfl, h1, h2, h3, h4⟩ := hP
  by_cases hl : P = []
  · subst hl
    have HT := Lib.hid hT
    clear hT h3 h4
    go_enter Tryd.func27, Tryd.ntmps27
    go_wp2_with fail
    refine wp_loop_rounds 1 ?_
    rw [rounds_succ]
    go_wp2
    go_end0
    exact ⟨rfl, Fr.refl _ _, by simpa [textsOf] using HT.out⟩
  · obtain ⟨g, off, rfl, hFg, hi⟩ := h4 hl
    obtain ⟨n, hn⟩ : ∃ n, n = P.length := ⟨_, rfl⟩
    rw [← hn] at h1 ⊢
    have H := Lib.hid (And.intro hL (And.intro hT (And.intro hF hM)))
    have HI := Lib.hid hi
    have HN := Lib.hid hn
    have hltb : b < w.heap.size := by obtain ⟨buf, _, hb⟩ := hT; exact lt_of_block hb
    clear h4 hL hT hF hM hi hn hl h3
    go_enter Tryd.func27, Tryd.ntmps27
    go_wp2_with fail
    go_loopw [10] (fun iv wr => ∃ k : Nat, k ≤ n ∧ iv = .int .i64 k ∧ Hid (Fr (fun j => j = b) w wr ∧ TakAt wr b (M ++ textsOf (P.take k)))) (fun iv _ => n - (intOf iv).toNat)
    case atStart => exact ⟨0, by omega, rfl, Lib.hid ⟨Fr.refl _ _, by simpa [textsOf] using H.out.2.1⟩⟩
    case round =>
      obtain ⟨k, hk, rfl, hR⟩ := hrel
      by_cases hlt : k < n
      · obtain ⟨x, hx, hB⟩ := HI.out k (by rw [← HN.out]; exact hlt)
        have hx' := hR.out.1.cell hx (H.out.2.2.1 g hFg).1
        have hB' := hB.keep hR.out.1 (fun i _ hi e => (H.out.2.2.1 i hi).1 e)
        have HS := Lib.hid (textsOf_take_succ P k (by rw [← HN.out]; exact hlt))
        have HLE := Lib.hid (textsOf_take_le P (k + 1))
        obtain ⟨Y, hY⟩ : ∃ Y, Y = P[k]'(by rw [← HN.out]; exact hlt) := ⟨_, rfl⟩
        rw [← hY] at hB' HS
        clear hx hB hY
        obtain ⟨ao', cap', hv, hl1, hl2, _⟩ := id hB'
        subst hv
        have hYb : Y.length ≤ 100000000000 := by
          have h1 := congrArg List.length HS.out
          have h2 := HLE.out
          have h3 := H.out.2.2.2
          simp only [List.length_append, textOf] at h1
          omega
        have HYB := Lib.hid hB'
        have hsz := hR.out.1.size
        clear hB'
        go_wp2_with fail
        have hm0 := (mak_new wr (.cells #[.pointer none, .int .i64 0, .bool false] 68) _ rfl).keep (S := fun _ => False) ((Fr.refl _ _).alloc (.cells #[.int .i64 Y.length] 3)) (fun _ _ _ h => h)
        refine (makerNum_any (F := fun k => wr.heap.size ≤ k) (Y.length : Int) _ (fun k hk => by simp at hk; omega) hm0 (cell_of_one (by simpa using heap_alloc_new (wr.alloc _) (.cells #[.int .i64 (Y.length : Int)] 3))) (fun L hL => by cases hL; simp)).mono ?_
        rintro e w1 ⟨rfl, hf1, hm1⟩
        have hnum : mkNum (Y.length : Int) (some []) = some (numBytes 5 Y.length) := by
          unfold mkNum
          rw [if_pos (by omega), Int.toNat_natCast]
          rfl
        rw [hnum] at hm1
        have hF1 : Fr (fun _ => False) wr w1 := Fr.news ((((Fr.refl _ _).alloc _).alloc _).trans hf1 (fun i hi => .inl hi))
        have hnl := (numBytes_len 5 Y.length).2
        have HF1 := Lib.hid hF1
        have HM1 := Lib.hid hm1
        clear hm0 hf1 hm1 hF1 hnum hx'
        go_wp2_with fail
        refine (done_yes w1 HM1.out (by omega)).mono ?_
        rintro e w2 ⟨v2, rfl, hf2, ho2⟩
        obtain ⟨ao2, cap2, rfl⟩ := ho2.len
        have HF2 := Lib.hid (HF1.out.trans hf2 (fun _ h => h.elim))
        have HB2 := Lib.hid (ho2.bytes.mono (G := fun j => j ≠ b ∧ wr.heap.size ≤ j) (fun j hj h => by have := HF1.out.size; omega))
        clear hf2 ho2 HM1 HF1
        go_wp2_with fail
        have hs2 := HF2.out.size
        have hYF := (HYB.out.mono (G := fun j => j ≠ b) (fun j hj h => (H.out.2.2.1 j h).1)).keep HF2.out (fun _ _ _ h => h)
        have hrow := RowsIn.two (F := fun j => j ≠ b) (w := w2) (x := .slice ao2 (numBytes 5 Y.length).length cap2) (y := .slice ao' Y.length cap') (X := numBytes 5 Y.length) (Y := Y) (by omega) (HB2.out.mono (fun j hj h => h.1)) hYF (by omega) (by omega)
        have hfl : [numBytes 5 Y.length, Y].flatten = textOf Y := by simp [textOf]
        have HC := Lib.hid (take_any (b := b) (M := M ++ textsOf (P.take k)) (w2.alloc (.cells #[.slice ao2 (numBytes 5 Y.length).length cap2, .slice ao' Y.length cap'] 38)) (H.out.1.keep ((hR.out.1.trans HF2.out (fun _ h => h.elim)).alloc _) (fun k hk e => by omega)) hb
          (hR.out.2.keep (HF2.out.alloc _) (fun h => h)) hrow (fun k hk e => hk e) (by
            have h1 := congrArg List.length HS.out
            have h2 := HLE.out
            have h3 := H.out.2.2.2
            rw [hfl]
            simp only [List.length_append] at h1 ⊢
            omega))
        rw [hfl, List.append_assoc, ← HS.out] at HC
        clear hYF hrow hfl HB2
        go_wp2_with (go_at_call 23; refine HC.out.mono ?_; rintro e w3 ⟨rfl, hf3, ht3⟩; have H3 := Lib.hid (And.intro (((hR.out.1.trans HF2.out (fun _ h => h.elim)).alloc _).trans hf3 (fun _ h => .inl h)) ht3); clear hf3 ht3)
        go_roundw
        case rel => exact ⟨k + 1, by omega, by go_num, H3⟩
        case measure => simp [intOf]; omega
      · obtain rfl : k = n := by omega
        have HQ := Lib.hid (show Fr (fun j => j = b) w wr ∧ TakAt wr b (M ++ textsOf P) by
          have h := hR.out
          rwa [List.take_of_length_le (by rw [HN.out]; exact Nat.le_refl _)] at h)
        clear hR
        go_wp2
        go_end0
        exact ⟨rfl, HQ.out⟩

set_option maxRecDepth 100000 in
set_option maxHeartbeats 2000000 in
theorem of_any {F : Nat → Prop} {v : Value} {P : List (List UInt8)} (tag : ByteArray) (w : World) (hL : Laid w) (hP : RowsIn F w v P) (hF : ∀ k, F k → k < w.heap.size) (hM : tag.data.toList.length + (textsOf P).length ≤ 1000000000) :
    Calls Tryd.prog 16 #[.string tag, v] w fun e w' => e = .returned (.agg ((foldL (digest (textOf tag.data.toList ++ textsOf P))).map bv).toArray) ∧ Fr (fun _ => False) w w' := by
  have hlt := hL.lt
  have H := Lib.hid (And.intro hL (And.intro hP hF))
  clear hL hP hF
  obtain ⟨C, hC⟩ : ∃ C, C = ((foldL (digest (textOf tag.data.toList ++ textsOf P))).map bv).toArray := ⟨_, rfl⟩
  have hcs : C.size = 20 := by rw [hC]; simp [foldL, fl_length]
  have hone : C.all (·.oneCell') = true := by rw [hC]; exact all_oneCell_toArray (bv_one _)
  obtain ⟨C0, hC0⟩ : ∃ C0, C0 = ((List.replicate 20 (0 : UInt8)).map bv).toArray := ⟨_, rfl⟩
  have hs0 : C0.size = 20 := by rw [hC0]; simp
  rw [← hC]
  have HC := Lib.hid hC
  have HC0 := Lib.hid hC0
  clear hC hC0
  go_enter Tryd.func16, Tryd.ntmps16
  go_wp2_with fail
  obtain ⟨w1, hw1⟩ : ∃ w1, w1 = w.alloc (.cells C0 33) := ⟨_, rfl⟩
  have hr1 : w1.heap[w.heap.size]? = some (.cells C0 33 (0, 0)) := by rw [hw1]; exact heap_alloc_new w _
  have HF1 := Lib.hid (show Fr (fun _ => False) w w1 by rw [hw1]; exact (Fr.refl _ w).alloc _)
  have hsz1 : w1.heap.size = w.heap.size + 1 := by rw [hw1]; simp
  have e1 : w.alloc (.cells #[.int .u8 0, .int .u8 0, .int .u8 0, .int .u8 0, .int .u8 0, .int .u8 0, .int .u8 0, .int .u8 0, .int .u8 0, .int .u8 0, .int .u8 0, .int .u8 0, .int .u8 0, .int .u8 0, .int .u8 0, .int .u8 0, .int .u8 0, .int .u8 0, .int .u8 0, .int .u8 0] 33) = w1 := by
    rw [hw1, HC0.out]
    rfl
  rw [e1]
  clear e1 hw1
  have HR1 := Lib.hid hr1
  clear hr1
  refine (begin_any w1 (H.out.1.keep HF1.out (fun _ _ h => h))).mono ?_
  rintro e w2 ⟨b, rfl, hb, hf2, ht2⟩
  have HF2 := Lib.hid (HF1.out.trans hf2 (fun _ h => h.elim))
  have HR2 := Lib.hid (hf2.heap HR1.out (fun h => h))
  have hb2 : 2 ≤ b := by omega
  have hts : tag.size = tag.data.toList.length := by simp
  obtain ⟨cap, w3, hcv, hf3, hb3, hs3⟩ := run_tag w2 tag (by unfold maxLen; omega)
  have HF3 := Lib.hid (HF2.out.trans hf3 (fun _ h => h.elim))
  have HR3 := Lib.hid (hf3.heap HR2.out (fun h => h))
  have ht3 := ht2.keep hf3 (fun h => h)
  have hbl : b < w2.heap.size := by obtain ⟨_, _, h⟩ := ht2; exact lt_of_block h
  have hrow := RowsIn.one (w := w3) (F := fun j => j ≠ b ∧ j ≤ w3.heap.size) (by omega) (hb3.mono (fun j hj h => by omega)) (by omega)
  have hfl : textsOf [tag.data.toList] = textOf tag.data.toList := by simp [textsOf]
  have HT := Lib.hid (takeTexts_any (b := b) (w3.alloc (.cells #[.slice (some ⟨w2.heap.size, 0, none⟩) tag.size cap] 38)) (H.out.1.keep (HF3.out.alloc _) (fun _ _ h => h)) hb2 (ht3.keep (S := fun _ => False) ((Fr.refl _ _).alloc _) (fun h => h)) hrow (fun k hk => ⟨hk.1, by have := hk.2; simp; omega⟩) (by rw [hfl, List.length_nil]; have := textOf_length tag.data.toList; omega))
  rw [hfl, List.nil_append] at HT
  clear hf2 ht2 HR1 HF1 ht3 hrow hfl hf3 hb3
  have HTS := Lib.hid hts
  have HSZ := Lib.hid (And.intro hsz1 hs3)
  clear hts hsz1 hs3
  go_wp2_with fail
  refine HT.out.mono ?_
  rintro e w4 ⟨rfl, hf4, ht4⟩
  have HF4 := Lib.hid (show Fr (fun j => j = b) w w4 from ((HF3.out.alloc _).mono (fun _ _ h => h.elim)).trans hf4 (fun _ h => .inl h))
  have hsz4 := HF4.out.size
  have hbw : w.heap.size < b := by have := HSZ.out.1; omega
  have HR4 := Lib.hid (hf4.heap (((Fr.refl (fun _ => False) w3).alloc _).heap HR3.out (fun h => h)) (by omega))
  have HT2 := Lib.hid (takeTexts_any (F := F) (b := b) w4 (H.out.1.keep HF4.out (fun k hk e => by omega)) hb2 ht4 (H.out.2.1.keep HF4.out (fun i hi hFi e => by have := H.out.2.2 i hFi; omega)) (fun k hk => by have := H.out.2.2 k hk; omega) (by have := textOf_length tag.data.toList; omega))
  clear hf4 ht4 HT HR3 HF3 hcv
  go_wp2_with fail
  refine HT2.out.mono ?_
  rintro e w5 ⟨rfl, hf5, ht5⟩
  have HF5 := Lib.hid (HF4.out.trans hf5 (fun _ h => .inl h))
  have HR5 := Lib.hid (hf5.heap HR4.out (by omega))
  have HE := Lib.hid (end_any (b := b) w5 (H.out.1.keep HF5.out (fun k hk e => by omega)) hb2 ht5 (by have := textOf_length tag.data.toList; rw [List.length_append]; omega))
  obtain ⟨D, hD⟩ : ∃ D, D = digest (textOf tag.data.toList ++ textsOf P) := ⟨_, rfl⟩
  have hDl : D.length = 32 := by rw [hD]; rfl
  rw [← hD] at HE HC
  have HFD := Lib.hid (fun W => fold_any W D hDl)
  clear hf5 ht5 HT2 HR4 hD hDl
  go_wp2_with (first
    | (go_at_call 24; refine HE.out.mono ?_; rintro e w6 ⟨rfl, hf6⟩; have HF6 := Lib.hid (HF5.out.trans hf6 (fun _ h => .inl h)); have HR6 := Lib.hid (hf6.heap HR5.out (by omega)); clear hf6)
    | (go_at_call 14; refine (HFD.out _).mono ?_; rintro e w7 ⟨rfl, hf7⟩; have hr7 := hf7.heap HR6.out (fun h => h); have HF7 := Lib.hid (HF6.out.trans hf7 (fun _ h => h.elim)); clear hf7; rw [← HC.out])
    | (with_reducible refine wpList_store_row rfl 33 (.tmp 4) (.tmp 17) rfl w.heap.size C C0 33 rfl rfl hr7 (by rw [hcs]; kernel_rfl) (by rw [hs0, hcs]) hone ?_))
  refine bodyPost_ret (results_cell_row rfl _ _ w.heap.size 33 C (0, 0) _ rfl (setRow_heap _ _ _ _ _ _ hr7) Tryd.underlying33 rfl (by rw [hcs]; kernel_rfl)) rfl ⟨rfl, ?_⟩
  exact (HF7.out.mono (T := fun _ => False) (fun k hk h => by omega)).setRow (.inr (Nat.le_refl _)) _
end Go.Proofs.YthjpgnmpcllolaaDoor
