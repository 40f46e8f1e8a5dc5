/- Laid together: RfFo -/
import Derived.Test.YtfkgdjoaoidkeaaGreatRz9
import Derived.Test.YtfkgdjoaoidkeaaGreatRz4

namespace Go.Proofs.YtfkgdjoaoidkeaaGreat
open Go.RowKit Go.ChangeShapes Go.WideMaps Go.Maps
set_option linter.unusedVariables false
theorem filter_take_succ {α : Type} (p : α → Bool) (L : List α) (k : Nat) (h : k < L.length) : (L.take (k + 1)).filter p = if p L[k] = true then (L.take k).filter p ++ [L[k]] else (L.take k).filter p := by
  rw [List.take_succ_eq_append_getElem h, List.filter_append]
  by_cases hp : p L[k] = true
  · rw [if_pos hp, List.filter_cons_of_pos hp]; rfl
  · rw [if_neg hp, List.filter_cons_of_neg hp]; simp
structure FoAt (w1 wr : World) (ov : Value) (O : List PathX) : Prop where
  fr : Fr (fun _ => False) w1 wr
  own : OwnP (fun g => w1.heap.size ≤ g) wr ov O
theorem FoAt.keep {w1 wr w' : World} {ov : Value} {O : List PathX} (h : FoAt w1 wr ov O) (hf : Fr (fun _ => False) wr w') : FoAt w1 w' ov O :=
  ⟨h.fr.trans hf (fun _ h => h.elim), h.own.keep hf (fun _ _ _ h => h)⟩
theorem FoAt.more {w1 wr w4 : World} {ov v4 : Value} {O O' : List PathX} (h : FoAt w1 wr ov O) (ho4 : OwnP (fun k => w1.heap.size ≤ k ∨ wr.heap.size ≤ k) w4 v4 O') (hg4 : wr.grownBy w4 ov.ownBlock) : FoAt w1 w4 v4 O' := by
  have h1 := h.fr.size
  refine ⟨h.fr.trans ((Fr.refl (fun k => ov.ownBlock = some k) wr).grown hg4 (fun k hk => .inl hk)) (fun k hk => .inr (h.own.2 k hk)), ho4.mono (fun k _ hk => by
    rcases hk with hk | hk
    · exact hk
    · omega)⟩
set_option maxRecDepth 100000 in
set_option maxHeartbeats 8000000 in
theorem fFound_any {F G : Nat → Prop} (w : World) (v u : Value) (b : List UInt8) (L : List PathX) (hv : BytesIn F w v b) (hF : ∀ k, F k → k < w.heap.size) (hu : PathsIn G w u L) (hG : ∀ k, G k → k < w.heap.size) (hL : L.length ≤ 1000) (hN : ∀ x ∈ L, x.n.size ≤ 140737488351232) (hb : b.length ≤ 1000000) :
    Calls Tryz.prog 11 #[v, u] w fun e w' => ∃ y M, e = .returned y ∧ PathsIn (fun k => w.heap.size ≤ k) w' y M ∧ Asc lessX M ∧ (∀ x, x ∈ M ↔ x ∈ L ∧ anyR b (letL x.h) = true) ∧ Fr (fun _ => False) w w' := by
  obtain ⟨ao, n, cap, rfl⟩ : ∃ ao n cap, v = .slice ao n cap := by obtain ⟨ao, cap, h, _⟩ := hv; exact ⟨_, _, _, h⟩
  have HMI := Lib.hid (fMissing_any w _ u b L hv hF hu hG hL hb)
  have HU := Lib.hid hu
  obtain ⟨au, cu, rfl, hlc, hcm, hn0, hrow⟩ := hu
  have HROW := Lib.hid hrow
  have HNM := Lib.hid (And.intro hN hG)
  unfold maxLen at hcm
  clear hn0 hrow hv hF hG hN hb
  obtain ⟨m, hm⟩ : ∃ m, m = L.length := ⟨_, rfl⟩
  rw [← hm] at hlc hL ⊢
  rw [← hm] at HMI
  have HM := Lib.hid hm
  clear hm
  obtain ⟨p, hp⟩ : ∃ p : PathX → Bool, p = fun x => anyR b (letL x.h) := ⟨_, rfl⟩
  go_enter Tryz.func11, Tryz.ntmps11
  go_wp2_with (go_at_call 29; refine HMI.out.mono ?_; rintro e w1 ⟨mb, N, rfl, hsk, hf1, hmb⟩; (have H1 := Lib.hid (And.intro hsk (And.intro hf1 hmb))); clear hsk hf1 hmb)
  have H0 := Lib.hid (show FoAt w1 w1 (.slice none 0 0) ((L.take 0).filter p) from ⟨Fr.refl _ _, OwnP.nil _ _⟩)
  go_loopw [6, 8, 9, 10, 16] (fun ov s8 s9 s10 kv wr => ∃ k : Nat, k ≤ m ∧ kv = .int .i64 k ∧ Hid (FoAt w1 wr ov ((L.take k).filter p))) (fun _ _ _ _ kv _ => m - (intOf kv).toNat)
  case atStart => exact ⟨0, by omega, rfl, H0⟩
  case round =>
    clear H0
    obtain ⟨kx, hk, rfl, hR⟩ := hrel
    by_cases hlt : kx < m
    · have hkL : kx < L.length := by rw [← HM.out]; exact hlt
      have hfs := filter_take_succ p L kx hkL
      have hol : ((L.take kx).filter p).length + 1 ≤ 1000000 := by
        have h1 := List.length_filter_le p (L.take kx)
        rw [List.length_take] at h1
        omega
      obtain ⟨O, hO⟩ : ∃ O, O = (L.take kx).filter p := ⟨_, rfl⟩
      rw [← hO] at hR hfs hol
      obtain ⟨x, hx⟩ : ∃ x, x = L[kx] := ⟨_, rfl⟩
      have hxL : x ∈ L := by rw [hx]; exact List.getElem_mem _
      obtain ⟨bp, off, rfl, hbG, hrg⟩ := HROW.out (by rintro rfl; simp at hkL)
      have hr : wr.rangeAt bp (off + kx * 21) (cellsX L[kx]) := hR.out.fr.range (H1.out.2.1.range (hrg kx hkL) (fun h => h)) (fun h => h)
      rw [← hx] at hr hfs
      obtain ⟨C, hC⟩ : ∃ C, C = pathC x.h x.n := ⟨_, rfl⟩
      obtain ⟨Cl, hCl⟩ : ∃ C, C = cellsX x := ⟨_, rfl⟩
      rw [← hCl] at hr
      have hCC : Cl.toArray = C := by rw [hCl, hC]; rfl
      have hll : Cl.length = 21 := by rw [hCl, cellsX_length]
      have hcs : C.size = 21 := by rw [hC, pathC_size x.h x.hl]
      have hiC : (Tryz.prog.info? 27).map (·.size) = some C.size := by rw [hcs]; kernel_rfl
      have hiL : (Tryz.prog.info? 27).map (·.size) = some Cl.length := by rw [hll]; kernel_rfl
      have hsC : (#[.int .u8 0, .int .u8 0, .int .u8 0, .int .u8 0, .int .u8 0, .int .u8 0, .int .u8 0, .int .u8 0, .int .u8 0, .int .u8 0, .int .u8 0, .int .u8 0, .int .u8 0, .int .u8 0, .int .u8 0, .int .u8 0, .int .u8 0, .int .u8 0, .int .u8 0, .int .u8 0, .string ⟨#[]⟩] : Array Value).size = C.size := Eq.trans (b := 21) rfl hcs.symm
      have hoC : C.all (·.oneCell') = true := by rw [hC]; exact pathC_one x.h x.n
      have hiH : (Tryz.prog.info? 24).map (·.size) = some (x.h.map bv).length := by rw [List.length_map, x.hl]; kernel_rfl
      have HLL := Lib.hid hCC
      have hlt64 : (kx : Int) < (m : Int) := by omega
      have HLO := Lib.hid (fun (W : World) => lettersOf_any x.h x.hl W)
      obtain ⟨S, hS⟩ : ∃ S, S = ltC (letL x.h) := ⟨_, rfl⟩
      rw [← hS] at HLO
      have hq : (qL L (letL x.h) && !anyR b (letL x.h)) = !p x := by
        rw [hp]
        unfold qL
        rw [decide_eq_true (List.mem_map_of_mem (f := fun x : PathX => letL x.h) hxL), Bool.true_and]
      have HLK := Lib.hid (fun (W : World) (h : Fr (fun _ => False) w1 W) => show (Instr.lookup 54 (.map (some mb)) (.agg S) true).run Tryz.prog W = .ok (.tuple #[.agg #[], .bool (!p x)]) W by rw [hS, ← hq]; exact (H1.out.1.keep h (fun h => h)).look (letL x.h) (letL_length x.h))
      have HBO := Lib.hid (fun (W : World) => show (Instr.buildSlice 25 1 #[(0, .agg C)]).run Tryz.prog W = .ok (.slice (some ⟨W.heap.size, 0, none⟩) 1 1) (W.alloc (.cells C 27)) by rw [hC]; exact run_build_one W x)
      have HPO := Lib.hid (fun (W : World) => show PathsIn (fun k => k = W.heap.size) (W.alloc (.cells C 27)) (.slice (some ⟨W.heap.size, 0, none⟩) 1 1) [x] by rw [hC]; exact PathsIn.one W x)
      have HRG := Lib.hid (fun (W : World) (g : Nat) (h : W.heap[g]? = some (.cells C 27 (0, 0))) => show W.rangeAt g 0 (x.h.map bv) from fun j v hv => by
        rw [hC] at h
        rw [Nat.zero_add, cell_of_row _ _ _ _ _ _ h, ← cellsX_C, List.getElem?_toArray, cellsX]
        rw [List.getElem?_append_left (List.getElem?_eq_some_iff.1 hv).1]
        exact hv)
      have hiU : (Tryz.prog.info? 56).map (·.size) = some (#[] : Array Value).size := by kernel_rfl
      have hoU : (#[] : Array Value).all (·.oneCell') = true := by simp
      have HFS := Lib.hid hfs
      have HOL := Lib.hid hol
      obtain ⟨bl, hbl⟩ : ∃ bl, bl = p x := ⟨_, rfl⟩
      rw [← hbl] at HLK HFS
      clear hx hrg hbG hC hCl hcs hll hCC hS hq hxL hO hfs hol hbl
      cases bl
      · have HF1 := Lib.hid (HFS.out.trans (if_neg (by decide)))
        clear HFS
        go_wp2_with (first
          | (with_reducible refine wpList_load_mid rfl 27 (.tmp 18) rfl bp (off + kx * 21) rfl Cl _ hr Tryz.underlying27 rfl hiL ?_; rw [HLL.out])
          | (with_reducible refine wpList_store_row rfl 27 (.tmp 8) (.tmp 19) rfl wr.heap.size C #[.int .u8 0, .int .u8 0, .int .u8 0, .int .u8 0, .int .u8 0, .int .u8 0, .int .u8 0, .int .u8 0, .int .u8 0, .int .u8 0, .int .u8 0, .int .u8 0, .int .u8 0, .int .u8 0, .int .u8 0, .int .u8 0, .int .u8 0, .int .u8 0, .int .u8 0, .int .u8 0, .string ⟨#[]⟩] 27 rfl rfl (heap_alloc_new wr _) hiC hsC hoC ?_; (have hbx := setRow_heap (wr.alloc (.cells #[.int .u8 0, .int .u8 0, .int .u8 0, .int .u8 0, .int .u8 0, .int .u8 0, .int .u8 0, .int .u8 0, .int .u8 0, .int .u8 0, .int .u8 0, .int .u8 0, .int .u8 0, .int .u8 0, .int .u8 0, .int .u8 0, .int .u8 0, .int .u8 0, .int .u8 0, .int .u8 0, .string ⟨#[]⟩] 27)) wr.heap.size #[.int .u8 0, .int .u8 0, .int .u8 0, .int .u8 0, .int .u8 0, .int .u8 0, .int .u8 0, .int .u8 0, .int .u8 0, .int .u8 0, .int .u8 0, .int .u8 0, .int .u8 0, .int .u8 0, .int .u8 0, .int .u8 0, .int .u8 0, .int .u8 0, .int .u8 0, .int .u8 0, .string ⟨#[]⟩] C 27 (0, 0) (heap_alloc_new wr _)); (have HR1 := Lib.hid (FoAt.keep hR.out (Fr.laid wr #[.int .u8 0, .int .u8 0, .int .u8 0, .int .u8 0, .int .u8 0, .int .u8 0, .int .u8 0, .int .u8 0, .int .u8 0, .int .u8 0, .int .u8 0, .int .u8 0, .int .u8 0, .int .u8 0, .int .u8 0, .int .u8 0, .int .u8 0, .int .u8 0, .int .u8 0, .int .u8 0, .string ⟨#[]⟩] C 27))); generalize (wr.alloc (.cells #[.int .u8 0, .int .u8 0, .int .u8 0, .int .u8 0, .int .u8 0, .int .u8 0, .int .u8 0, .int .u8 0, .int .u8 0, .int .u8 0, .int .u8 0, .int .u8 0, .int .u8 0, .int .u8 0, .int .u8 0, .int .u8 0, .int .u8 0, .int .u8 0, .int .u8 0, .int .u8 0, .string ⟨#[]⟩] 27)).setRow wr.heap.size C = W1 at *; generalize wr.heap.size = gx at *; (have hrh := HRG.out W1 gx hbx))
          | (with_reducible refine wpList_load_mid rfl 24 (.tmp 22) rfl gx 0 rfl (x.h.map bv) _ hrh Tryz.underlying24 rfl hiH ?_)
          | (go_at_call 28; refine (HLO.out _).mono ?_; rintro e W2 ⟨rfl, hf2⟩; (have HR2 := Lib.hid (FoAt.keep HR1.out hf2)); (have hbx2 := hf2.heap hbx (fun h => h)); (have hlook := HLK.out W2 HR2.out.fr); clear hf2)
          | (with_reducible refine wpList_store_row rfl 56 (.tmp 9) (.tmp 26) rfl W2.heap.size #[] #[] 56 rfl rfl (heap_alloc_new W2 _) hiU rfl hoU ?_; (have hbx3 := Fr.heap (Fr.laid W2 #[] #[] 56) hbx2 (fun h => h)); (have HR3 := Lib.hid (FoAt.keep HR2.out (Fr.laid W2 #[] #[] 56))); generalize (W2.alloc (.cells #[] 56)).setRow W2.heap.size #[] = W3 at *))
        go_roundw
        case rel => exact ⟨kx + 1, by omega, by go_num, by rw [HF1.out]; exact HR3⟩
        case measure => simp [intOf]; omega
      · have HF1 := Lib.hid (HFS.out.trans (if_pos rfl))
        clear HFS
        go_wp2_with (first
          | (with_reducible refine wpList_load_mid rfl 27 (.tmp 18) rfl bp (off + kx * 21) rfl Cl _ hr Tryz.underlying27 rfl hiL ?_; rw [HLL.out])
          | (with_reducible refine wpList_store_row rfl 27 (.tmp 8) (.tmp 19) rfl wr.heap.size C #[.int .u8 0, .int .u8 0, .int .u8 0, .int .u8 0, .int .u8 0, .int .u8 0, .int .u8 0, .int .u8 0, .int .u8 0, .int .u8 0, .int .u8 0, .int .u8 0, .int .u8 0, .int .u8 0, .int .u8 0, .int .u8 0, .int .u8 0, .int .u8 0, .int .u8 0, .int .u8 0, .string ⟨#[]⟩] 27 rfl rfl (heap_alloc_new wr _) hiC hsC hoC ?_; (have hbx := setRow_heap (wr.alloc (.cells #[.int .u8 0, .int .u8 0, .int .u8 0, .int .u8 0, .int .u8 0, .int .u8 0, .int .u8 0, .int .u8 0, .int .u8 0, .int .u8 0, .int .u8 0, .int .u8 0, .int .u8 0, .int .u8 0, .int .u8 0, .int .u8 0, .int .u8 0, .int .u8 0, .int .u8 0, .int .u8 0, .string ⟨#[]⟩] 27)) wr.heap.size #[.int .u8 0, .int .u8 0, .int .u8 0, .int .u8 0, .int .u8 0, .int .u8 0, .int .u8 0, .int .u8 0, .int .u8 0, .int .u8 0, .int .u8 0, .int .u8 0, .int .u8 0, .int .u8 0, .int .u8 0, .int .u8 0, .int .u8 0, .int .u8 0, .int .u8 0, .int .u8 0, .string ⟨#[]⟩] C 27 (0, 0) (heap_alloc_new wr _)); (have HR1 := Lib.hid (FoAt.keep hR.out (Fr.laid wr #[.int .u8 0, .int .u8 0, .int .u8 0, .int .u8 0, .int .u8 0, .int .u8 0, .int .u8 0, .int .u8 0, .int .u8 0, .int .u8 0, .int .u8 0, .int .u8 0, .int .u8 0, .int .u8 0, .int .u8 0, .int .u8 0, .int .u8 0, .int .u8 0, .int .u8 0, .int .u8 0, .string ⟨#[]⟩] C 27))); generalize (wr.alloc (.cells #[.int .u8 0, .int .u8 0, .int .u8 0, .int .u8 0, .int .u8 0, .int .u8 0, .int .u8 0, .int .u8 0, .int .u8 0, .int .u8 0, .int .u8 0, .int .u8 0, .int .u8 0, .int .u8 0, .int .u8 0, .int .u8 0, .int .u8 0, .int .u8 0, .int .u8 0, .int .u8 0, .string ⟨#[]⟩] 27)).setRow wr.heap.size C = W1 at *; generalize wr.heap.size = gx at *; (have hrh := HRG.out W1 gx hbx))
          | (with_reducible refine wpList_load_mid rfl 24 (.tmp 22) rfl gx 0 rfl (x.h.map bv) _ hrh Tryz.underlying24 rfl hiH ?_)
          | (go_at_call 28; refine (HLO.out _).mono ?_; rintro e W2 ⟨rfl, hf2⟩; (have HR2 := Lib.hid (FoAt.keep HR1.out hf2)); (have hbx2 := hf2.heap hbx (fun h => h)); (have hlook := HLK.out W2 HR2.out.fr); clear hf2)
          | (with_reducible refine wpList_store_row rfl 56 (.tmp 9) (.tmp 26) rfl W2.heap.size #[] #[] 56 rfl rfl (heap_alloc_new W2 _) hiU rfl hoU ?_; (have hbx3 := Fr.heap (Fr.laid W2 #[] #[] 56) hbx2 (fun h => h)); (have HR3 := Lib.hid (FoAt.keep HR2.out (Fr.laid W2 #[] #[] 56))); generalize (W2.alloc (.cells #[] 56)).setRow W2.heap.size #[] = W3 at *)
          | ((with_reducible refine wpList_load_row rfl 27 (.tmp 8) rfl gx rfl 27 C (0, 0) _ hbx3 Tryz.underlying27 rfl hiC ?_); (refine wpList_one rfl 25 (.tmp 31) rfl (.agg C) (.slice (some ⟨W3.heap.size, 0, none⟩) 1 1) (W3.alloc (.cells C 27)) rfl (HBO.out W3) ?_); refine wpList_append_paths (F := fun g => w1.heap.size ≤ g) (G := fun k => k = W3.heap.size) _ rfl (.tmp 30) (.tmp 32) rfl u6 _ O [x] rfl rfl (HR3.out.own.keep ((Fr.refl (fun _ => False) W3).alloc _) (fun _ _ _ h => h)) (HPO.out W3) (by have := HOL.out; simp only [List.length_singleton]; omega) ?_; intro v4 w4 hown4 hgrow4 hblk4; (have HR4 := Lib.hid (FoAt.more (FoAt.keep HR3.out ((Fr.refl (fun _ => False) W3).alloc (.cells C 27))) hown4 hgrow4)); clear hown4 hgrow4 hblk4))
        go_roundw
        case rel => exact ⟨kx + 1, by omega, by go_num, by rw [HF1.out]; exact HR4⟩
        case measure => simp [intOf]; omega
    · obtain rfl : m = kx := by omega
      have hnlt : ¬ (m : Int) < (m : Int) := by omega
      have hR2 := hR.out
      rw [List.take_of_length_le (by rw [HM.out]; exact Nat.le_refl _)] at hR2
      have HSO := Lib.hid (bSorted_any wr u6 (L.filter p) (hR2.own.paths.mono (G := fun k => k < wr.heap.size) (fun k hk _ => hk)) (fun k hk => hk) (by have := List.length_filter_le p L; have := HM.out; omega) (fun x hx => HNM.out.1 x (List.mem_filter.1 hx).1))
      have HF := Lib.hid (And.intro hR2.fr hp)
      clear hR hR2 hlt hk hp
      go_wp2_with (go_at_call 30; refine HSO.out.mono ?_; rintro e w9 ⟨y, M, rfl, h1, h2, h3, h4⟩; (have H9 := Lib.hid (And.intro h1 (And.intro h2 (And.intro h3 h4)))); clear h1 h2 h3 h4)
      go_ret
      have hw1 := H1.out.2.1.size
      have hw2 := HF.out.1.size
      refine ⟨y, M, rfl, H9.out.1.mono (fun k _ hk => by omega), H9.out.2.1, fun x => (H9.out.2.2.1 x).trans ?_, (H1.out.2.1.trans HF.out.1 (fun _ h => h.elim)).trans H9.out.2.2.2 (fun _ h => h.elim)⟩
      rw [List.mem_filter, HF.out.2]
end Go.Proofs.YtfkgdjoaoidkeaaGreat
