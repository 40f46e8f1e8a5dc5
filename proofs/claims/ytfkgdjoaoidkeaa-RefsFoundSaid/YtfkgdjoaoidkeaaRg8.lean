/- Laid together: RfFo RfHo RfAw RfTl -/
import Derived.Test.YtfkgdjoaoidkeaaRg7
import Derived.Test.YtfkgdjoaoidkeaaRg4
import Derived.Test.YtfkgdjoaoidkeaaRg6
import Derived.Deep.WholeRow
import Derived.Test.YtfkgdjoaoidkeaaRg0

namespace Go.Proofs.Ytfkgdjoaoidkeaa
open Go.RowKit Go.ChangeShapes Go.WideMaps Go.Maps
set_option linter.unusedVariables false
theorem filter_take_succ {α : Type} (p : α → Bool) (L : List α) (k : Nat) (h : k < L.length) : (L.take (k + 1)).filter p = if p L[k] = true then (L.take k).filter p ++ [L[k]] else (L.take k).filter p := by
  rw [List.take_succ_eq_append_getElem h, List.filter_append]
  by_cases hp : p L[k] = true
  · rw [if_pos hp, List.filter_cons_of_pos hp]; rfl
  · rw [if_neg hp, List.filter_cons_of_neg hp]; simp
structure FoAt (w1 wr : World) (ov : Value) (O : List PathX) : Prop where
  fr : Fr (fun _ => False) w1 wr
  own : OwnP (fun g => w1.heap.size ≤ g) wr ov O
theorem FoAt.keep {w1 wr w' : World} {ov : Value} {O : List PathX} (h : FoAt w1 wr ov O) (hf : Fr (fun _ => False) wr w') : FoAt w1 w' ov O :=
  ⟨h.fr.trans hf (fun _ h => h.elim), h.own.keep hf (fun _ _ _ h => h)⟩
theorem FoAt.more {w1 wr w4 : World} {ov v4 : Value} {O O' : List PathX} (h : FoAt w1 wr ov O) (ho4 : OwnP (fun k => w1.heap.size ≤ k ∨ wr.heap.size ≤ k) w4 v4 O') (hg4 : wr.grownBy w4 ov.ownBlock) : FoAt w1 w4 v4 O' := by
  have h1 := h.fr.size
  refine ⟨h.fr.trans ((Fr.refl (fun k => ov.ownBlock = some k) wr).grown hg4 (fun k hk => .inl hk)) (fun k hk => .inr (h.own.2 k hk)), ho4.mono (fun k _ hk => by
    rcases hk with hk | hk
    · exact hk
    · omega)⟩
set_option maxRecDepth 100000 in
set_option maxHeartbeats 8000000 in
theorem fFound_any {F G : Nat → Prop} (w : World) (v u : Value) (b : List UInt8) (L : List PathX) (hv : BytesIn F w v b) (hF : ∀ k, F k → k < w.heap.size) (hu : PathsIn G w u L) (hG : ∀ k, G k → k < w.heap.size) (hL : L.length ≤ 1000) (hN : ∀ x ∈ L, x.n.size ≤ 140737488351232) (hb : b.length ≤ 1000000) :
    Calls Try.prog 12 #[v, u] w fun e w' => ∃ y M, e = .returned y ∧ PathsIn (fun k => w.heap.size ≤ k) w' y M ∧ Asc lessX M ∧ (∀ x, x ∈ M ↔ x ∈ L ∧ anyR b (letL x.h) = true) ∧ Fr (fun _ => False) w w' := by
  obtain ⟨ao, n, cap, rfl⟩ : ∃ ao n cap, v = .slice ao n cap := by obtain ⟨ao, cap, h, _⟩ := hv; exact ⟨_, _, _, h⟩
  have HMI := Lib.hid (fMissing_any w _ u b L hv hF hu hG hL hb)
  have HU := Lib.hid hu
  obtain ⟨au, cu, rfl, hlc, hcm, hn0, hrow⟩ := hu
  have HROW := Lib.hid hrow
  have HNM := Lib.hid (And.intro hN hG)
  unfold maxLen at hcm
  clear hn0 hrow hv hF hG hN hb
  obtain ⟨m, hm⟩ : ∃ m, m = L.length := ⟨_, rfl⟩
  rw [← hm] at hlc hL ⊢
  rw [← hm] at HMI
  have HM := Lib.hid hm
  clear hm
  obtain ⟨p, hp⟩ : ∃ p : PathX → Bool, p = fun x => anyR b (letL x.h) := ⟨_, rfl⟩
  go_enter Try.func12, Try.ntmps12
  go_wp2_with (go_at_call 21; refine HMI.out.mono ?_; rintro e w1 ⟨mb, N, rfl, hsk, hf1, hmb⟩; (have H1 := Lib.hid (And.intro hsk (And.intro hf1 hmb))); clear hsk hf1 hmb)
  have H0 := Lib.hid (show FoAt w1 w1 (.slice none 0 0) ((L.take 0).filter p) from ⟨Fr.refl _ _, OwnP.nil _ _⟩)
  go_loopw [6, 8, 9, 10, 16] (fun ov s8 s9 s10 kv wr => ∃ k : Nat, k ≤ m ∧ kv = .int .i64 k ∧ Hid (FoAt w1 wr ov ((L.take k).filter p))) (fun _ _ _ _ kv _ => m - (intOf kv).toNat)
  case atStart => exact ⟨0, by omega, rfl, H0⟩
  case round =>
    clear H0
    obtain ⟨kx, hk, rfl, hR⟩ := hrel
    by_cases hlt : kx < m
    · have hkL : kx < L.length := by rw [← HM.out]; exact hlt
      have hfs := filter_take_succ p L kx hkL
      have hol : ((L.take kx).filter p).length + 1 ≤ 1000000 := by
        have h1 := List.length_filter_le p (L.take kx)
        rw [List.length_take] at h1
        omega
      obtain ⟨O, hO⟩ : ∃ O, O = (L.take kx).filter p := ⟨_, rfl⟩
      rw [← hO] at hR hfs hol
      obtain ⟨x, hx⟩ : ∃ x, x = L[kx] := ⟨_, rfl⟩
      have hxL : x ∈ L := by rw [hx]; exact List.getElem_mem _
      obtain ⟨bp, off, rfl, hbG, hrg⟩ := HROW.out (by rintro rfl; simp at hkL)
      have hr : wr.rangeAt bp (off + kx * 21) (cellsX L[kx]) := hR.out.fr.range (H1.out.2.1.range (hrg kx hkL) (fun h => h)) (fun h => h)
      rw [← hx] at hr hfs
      obtain ⟨C, hC⟩ : ∃ C, C = pathC x.h x.n := ⟨_, rfl⟩
      obtain ⟨Cl, hCl⟩ : ∃ C, C = cellsX x := ⟨_, rfl⟩
      rw [← hCl] at hr
      have hCC : Cl.toArray = C := by rw [hCl, hC]; rfl
      have hll : Cl.length = 21 := by rw [hCl, cellsX_length]
      have hcs : C.size = 21 := by rw [hC, pathC_size x.h x.hl]
      have hiC : (Try.prog.info? 37).map (·.size) = some C.size := by rw [hcs]; kernel_rfl
      have hiL : (Try.prog.info? 37).map (·.size) = some Cl.length := by rw [hll]; kernel_rfl
      have hsC : (#[.int .u8 0, .int .u8 0, .int .u8 0, .int .u8 0, .int .u8 0, .int .u8 0, .int .u8 0, .int .u8 0, .int .u8 0, .int .u8 0, .int .u8 0, .int .u8 0, .int .u8 0, .int .u8 0, .int .u8 0, .int .u8 0, .int .u8 0, .int .u8 0, .int .u8 0, .int .u8 0, .string ⟨#[]⟩] : Array Value).size = C.size := Eq.trans (b := 21) rfl hcs.symm
      have hoC : C.all (·.oneCell') = true := by rw [hC]; exact pathC_one x.h x.n
      have hiH : (Try.prog.info? 24).map (·.size) = some (x.h.map bv).length := by rw [List.length_map, x.hl]; kernel_rfl
      have HLL := Lib.hid hCC
      have hlt64 : (kx : Int) < (m : Int) := by omega
      have HLO := Lib.hid (fun (W : World) => lettersOf_any x.h x.hl W)
      obtain ⟨S, hS⟩ : ∃ S, S = ltC (letL x.h) := ⟨_, rfl⟩
      rw [← hS] at HLO
      have hq : (qL L (letL x.h) && !anyR b (letL x.h)) = !p x := by
        rw [hp]
        unfold qL
        rw [decide_eq_true (List.mem_map_of_mem (f := fun x : PathX => letL x.h) hxL), Bool.true_and]
      have HLK := Lib.hid (fun (W : World) (h : Fr (fun _ => False) w1 W) => show (Instr.lookup 51 (.map (some mb)) (.agg S) true).run Try.prog W = .ok (.tuple #[.agg #[], .bool (!p x)]) W by rw [hS, ← hq]; exact (H1.out.1.keep h (fun h => h)).look (letL x.h) (letL_length x.h))
      have HBO := Lib.hid (fun (W : World) => show (Instr.buildSlice 35 1 #[(0, .agg C)]).run Try.prog W = .ok (.slice (some ⟨W.heap.size, 0, none⟩) 1 1) (W.alloc (.cells C 37)) by rw [hC]; exact run_build_one W x)
      have HPO := Lib.hid (fun (W : World) => show PathsIn (fun k => k = W.heap.size) (W.alloc (.cells C 37)) (.slice (some ⟨W.heap.size, 0, none⟩) 1 1) [x] by rw [hC]; exact PathsIn.one W x)
      have HRG := Lib.hid (fun (W : World) (g : Nat) (h : W.heap[g]? = some (.cells C 37 (0, 0))) => show W.rangeAt g 0 (x.h.map bv) from fun j v hv => by
        rw [hC] at h
        rw [Nat.zero_add, cell_of_row _ _ _ _ _ _ h, ← cellsX_C, List.getElem?_toArray, cellsX]
        rw [List.getElem?_append_left (List.getElem?_eq_some_iff.1 hv).1]
        exact hv)
      have hiU : (Try.prog.info? 53).map (·.size) = some (#[] : Array Value).size := by kernel_rfl
      have hoU : (#[] : Array Value).all (·.oneCell') = true := by simp
      have HFS := Lib.hid hfs
      have HOL := Lib.hid hol
      obtain ⟨bl, hbl⟩ : ∃ bl, bl = p x := ⟨_, rfl⟩
      rw [← hbl] at HLK HFS
      clear hx hrg hbG hC hCl hcs hll hCC hS hq hxL hO hfs hol hbl
      cases bl
      · have HF1 := Lib.hid (HFS.out.trans (if_neg (by decide)))
        clear HFS
        go_wp2_with (first
          | (with_reducible refine wpList_load_mid rfl 37 (.tmp 18) rfl bp (off + kx * 21) rfl Cl _ hr Try.underlying37 rfl hiL ?_; rw [HLL.out])
          | (with_reducible refine wpList_store_row rfl 37 (.tmp 8) (.tmp 19) rfl wr.heap.size C #[.int .u8 0, .int .u8 0, .int .u8 0, .int .u8 0, .int .u8 0, .int .u8 0, .int .u8 0, .int .u8 0, .int .u8 0, .int .u8 0, .int .u8 0, .int .u8 0, .int .u8 0, .int .u8 0, .int .u8 0, .int .u8 0, .int .u8 0, .int .u8 0, .int .u8 0, .int .u8 0, .string ⟨#[]⟩] 37 rfl rfl (heap_alloc_new wr _) hiC hsC hoC ?_; (have hbx := setRow_heap (wr.alloc (.cells #[.int .u8 0, .int .u8 0, .int .u8 0, .int .u8 0, .int .u8 0, .int .u8 0, .int .u8 0, .int .u8 0, .int .u8 0, .int .u8 0, .int .u8 0, .int .u8 0, .int .u8 0, .int .u8 0, .int .u8 0, .int .u8 0, .int .u8 0, .int .u8 0, .int .u8 0, .int .u8 0, .string ⟨#[]⟩] 37)) wr.heap.size #[.int .u8 0, .int .u8 0, .int .u8 0, .int .u8 0, .int .u8 0, .int .u8 0, .int .u8 0, .int .u8 0, .int .u8 0, .int .u8 0, .int .u8 0, .int .u8 0, .int .u8 0, .int .u8 0, .int .u8 0, .int .u8 0, .int .u8 0, .int .u8 0, .int .u8 0, .int .u8 0, .string ⟨#[]⟩] C 37 (0, 0) (heap_alloc_new wr _)); (have HR1 := Lib.hid (FoAt.keep hR.out (Fr.laid wr #[.int .u8 0, .int .u8 0, .int .u8 0, .int .u8 0, .int .u8 0, .int .u8 0, .int .u8 0, .int .u8 0, .int .u8 0, .int .u8 0, .int .u8 0, .int .u8 0, .int .u8 0, .int .u8 0, .int .u8 0, .int .u8 0, .int .u8 0, .int .u8 0, .int .u8 0, .int .u8 0, .string ⟨#[]⟩] C 37))); generalize (wr.alloc (.cells #[.int .u8 0, .int .u8 0, .int .u8 0, .int .u8 0, .int .u8 0, .int .u8 0, .int .u8 0, .int .u8 0, .int .u8 0, .int .u8 0, .int .u8 0, .int .u8 0, .int .u8 0, .int .u8 0, .int .u8 0, .int .u8 0, .int .u8 0, .int .u8 0, .int .u8 0, .int .u8 0, .string ⟨#[]⟩] 37)).setRow wr.heap.size C = W1 at *; generalize wr.heap.size = gx at *; (have hrh := HRG.out W1 gx hbx))
          | (with_reducible refine wpList_load_mid rfl 24 (.tmp 22) rfl gx 0 rfl (x.h.map bv) _ hrh Try.underlying24 rfl hiH ?_)
          | (go_at_call 18; refine (HLO.out _).mono ?_; rintro e W2 ⟨rfl, hf2⟩; (have HR2 := Lib.hid (FoAt.keep HR1.out hf2)); (have hbx2 := hf2.heap hbx (fun h => h)); (have hlook := HLK.out W2 HR2.out.fr); clear hf2)
          | (with_reducible refine wpList_store_row rfl 53 (.tmp 9) (.tmp 26) rfl W2.heap.size #[] #[] 53 rfl rfl (heap_alloc_new W2 _) hiU rfl hoU ?_; (have hbx3 := Fr.heap (Fr.laid W2 #[] #[] 53) hbx2 (fun h => h)); (have HR3 := Lib.hid (FoAt.keep HR2.out (Fr.laid W2 #[] #[] 53))); generalize (W2.alloc (.cells #[] 53)).setRow W2.heap.size #[] = W3 at *))
        go_roundw
        case rel => exact ⟨kx + 1, by omega, by go_num, by rw [HF1.out]; exact HR3⟩
        case measure => simp [intOf]; omega
      · have HF1 := Lib.hid (HFS.out.trans (if_pos rfl))
        clear HFS
        go_wp2_with (first
          | (with_reducible refine wpList_load_mid rfl 37 (.tmp 18) rfl bp (off + kx * 21) rfl Cl _ hr Try.underlying37 rfl hiL ?_; rw [HLL.out])
          | (with_reducible refine wpList_store_row rfl 37 (.tmp 8) (.tmp 19) rfl wr.heap.size C #[.int .u8 0, .int .u8 0, .int .u8 0, .int .u8 0, .int .u8 0, .int .u8 0, .int .u8 0, .int .u8 0, .int .u8 0, .int .u8 0, .int .u8 0, .int .u8 0, .int .u8 0, .int .u8 0, .int .u8 0, .int .u8 0, .int .u8 0, .int .u8 0, .int .u8 0, .int .u8 0, .string ⟨#[]⟩] 37 rfl rfl (heap_alloc_new wr _) hiC hsC hoC ?_; (have hbx := setRow_heap (wr.alloc (.cells #[.int .u8 0, .int .u8 0, .int .u8 0, .int .u8 0, .int .u8 0, .int .u8 0, .int .u8 0, .int .u8 0, .int .u8 0, .int .u8 0, .int .u8 0, .int .u8 0, .int .u8 0, .int .u8 0, .int .u8 0, .int .u8 0, .int .u8 0, .int .u8 0, .int .u8 0, .int .u8 0, .string ⟨#[]⟩] 37)) wr.heap.size #[.int .u8 0, .int .u8 0, .int .u8 0, .int .u8 0, .int .u8 0, .int .u8 0, .int .u8 0, .int .u8 0, .int .u8 0, .int .u8 0, .int .u8 0, .int .u8 0, .int .u8 0, .int .u8 0, .int .u8 0, .int .u8 0, .int .u8 0, .int .u8 0, .int .u8 0, .int .u8 0, .string ⟨#[]⟩] C 37 (0, 0) (heap_alloc_new wr _)); (have HR1 := Lib.hid (FoAt.keep hR.out (Fr.laid wr #[.int .u8 0, .int .u8 0, .int .u8 0, .int .u8 0, .int .u8 0, .int .u8 0, .int .u8 0, .int .u8 0, .int .u8 0, .int .u8 0, .int .u8 0, .int .u8 0, .int .u8 0, .int .u8 0, .int .u8 0, .int .u8 0, .int .u8 0, .int .u8 0, .int .u8 0, .int .u8 0, .string ⟨#[]⟩] C 37))); generalize (wr.alloc (.cells #[.int .u8 0, .int .u8 0, .int .u8 0, .int .u8 0, .int .u8 0, .int .u8 0, .int .u8 0, .int .u8 0, .int .u8 0, .int .u8 0, .int .u8 0, .int .u8 0, .int .u8 0, .int .u8 0, .int .u8 0, .int .u8 0, .int .u8 0, .int .u8 0, .int .u8 0, .int .u8 0, .string ⟨#[]⟩] 37)).setRow wr.heap.size C = W1 at *; generalize wr.heap.size = gx at *; (have hrh := HRG.out W1 gx hbx))
          | (with_reducible refine wpList_load_mid rfl 24 (.tmp 22) rfl gx 0 rfl (x.h.map bv) _ hrh Try.underlying24 rfl hiH ?_)
          | (go_at_call 18; refine (HLO.out _).mono ?_; rintro e W2 ⟨rfl, hf2⟩; (have HR2 := Lib.hid (FoAt.keep HR1.out hf2)); (have hbx2 := hf2.heap hbx (fun h => h)); (have hlook := HLK.out W2 HR2.out.fr); clear hf2)
          | (with_reducible refine wpList_store_row rfl 53 (.tmp 9) (.tmp 26) rfl W2.heap.size #[] #[] 53 rfl rfl (heap_alloc_new W2 _) hiU rfl hoU ?_; (have hbx3 := Fr.heap (Fr.laid W2 #[] #[] 53) hbx2 (fun h => h)); (have HR3 := Lib.hid (FoAt.keep HR2.out (Fr.laid W2 #[] #[] 53))); generalize (W2.alloc (.cells #[] 53)).setRow W2.heap.size #[] = W3 at *)
          | ((with_reducible refine wpList_load_row rfl 37 (.tmp 8) rfl gx rfl 37 C (0, 0) _ hbx3 Try.underlying37 rfl hiC ?_); (refine wpList_one rfl 35 (.tmp 31) rfl (.agg C) (.slice (some ⟨W3.heap.size, 0, none⟩) 1 1) (W3.alloc (.cells C 37)) rfl (HBO.out W3) ?_); refine wpList_append_paths (F := fun g => w1.heap.size ≤ g) (G := fun k => k = W3.heap.size) _ rfl (.tmp 30) (.tmp 32) rfl u6 _ O [x] rfl rfl (HR3.out.own.keep ((Fr.refl (fun _ => False) W3).alloc _) (fun _ _ _ h => h)) (HPO.out W3) (by have := HOL.out; simp only [List.length_singleton]; omega) ?_; intro v4 w4 hown4 hgrow4 hblk4; (have HR4 := Lib.hid (FoAt.more (FoAt.keep HR3.out ((Fr.refl (fun _ => False) W3).alloc (.cells C 37))) hown4 hgrow4)); clear hown4 hgrow4 hblk4))
        go_roundw
        case rel => exact ⟨kx + 1, by omega, by go_num, by rw [HF1.out]; exact HR4⟩
        case measure => simp [intOf]; omega
    · obtain rfl : m = kx := by omega
      have hnlt : ¬ (m : Int) < (m : Int) := by omega
      have hR2 := hR.out
      rw [List.take_of_length_le (by rw [HM.out]; exact Nat.le_refl _)] at hR2
      have HSO := Lib.hid (bSorted_any wr u6 (L.filter p) (hR2.own.paths.mono (G := fun k => k < wr.heap.size) (fun k hk _ => hk)) (fun k hk => hk) (by have := List.length_filter_le p L; have := HM.out; omega) (fun x hx => HNM.out.1 x (List.mem_filter.1 hx).1))
      have HF := Lib.hid (And.intro hR2.fr hp)
      clear hR hR2 hlt hk hp
      go_wp2_with (go_at_call 22; refine HSO.out.mono ?_; rintro e w9 ⟨y, M, rfl, h1, h2, h3, h4⟩; (have H9 := Lib.hid (And.intro h1 (And.intro h2 (And.intro h3 h4)))); clear h1 h2 h3 h4)
      go_ret
      have hw1 := H1.out.2.1.size
      have hw2 := HF.out.1.size
      refine ⟨y, M, rfl, H9.out.1.mono (fun k _ hk => by omega), H9.out.2.1, fun x => (H9.out.2.2.1 x).trans ?_, (H1.out.2.1.trans HF.out.1 (fun _ h => h.elim)).trans H9.out.2.2.2 (fun _ h => h.elim)⟩
      rw [List.mem_filter, HF.out.2]
end Go.Proofs.Ytfkgdjoaoidkeaa
namespace Go.Proofs.Ytfkgdjoaoidkeaa
open Go.RowKit Go.ChangeShapes
set_option linter.unusedVariables false
def sameQ (x y : PathX) : Bool := sameP x.h x.n y.h y.n
theorem sameQ_eq (x y : PathX) : sameQ x y = decide (x = y) := by
  unfold sameQ sameP
  exact decide_eq_decide.2 ⟨fun ⟨h1, h2⟩ => PathX.ext h1 h2, fun h => by subst h; exact ⟨rfl, rfl⟩⟩
def HoR (b off n cap kx gx : Nat) (CX CY : Array Value) (bl : Bool) (i : Nat) (v : Value) (W : World) : Prop :=
  match i with
  | 0 => v = .slice (some ⟨b, off, none⟩) n cap
  | 1 => v = .int .i64 (kx : Nat)
  | 2 => v = .pointer (some ⟨b, off + kx * 21, none⟩)
  | 3 => v = .agg CY
  | 4 => v = .agg CX
  | 5 => v = .bool bl
  | _ => True
theorem HoR.ext (b off n cap kx gx : Nat) (CX CY : Array Value) (bl : Bool) : ∀ (j : Nat) (u : Value) (W W' : World), Fr (fun _ => False) W W' → HoR b off n cap kx gx CX CY bl j u W → HoR b off n cap kx gx CX CY bl j u W'
  | 0, u, W, W', hf, h => h
  | 1, u, W, W', hf, h => h
  | 2, u, W, W', hf, h => h
  | 3, u, W, W', hf, h => h
  | 4, u, W, W', hf, h => h
  | 5, u, W, W', hf, h => h
  | _ + 6, u, W, W', hf, h => trivial
set_option maxRecDepth 100000 in
set_option maxHeartbeats 4000000 in
theorem holds_any {F : Nat → Prop} (w : World) (v : Value) (L : List PathX) (x : PathX) (hv : PathsIn F w v L) (hlen : L.length ≤ 1000000) :
    Calls Try.prog 13 #[v, .agg (pathC x.h x.n)] w fun e w' => e = .returned (.bool (decide (x ∈ L))) ∧ Fr (fun _ => False) w w' := by
  obtain ⟨ao, cap, rfl, hlc, hcm, hn0, hrow⟩ := hv
  have HROW := Lib.hid hrow
  unfold maxLen at hcm
  clear hn0 hrow
  obtain ⟨n, hn⟩ : ∃ n, n = L.length := ⟨_, rfl⟩
  rw [← hn] at hlc hlen ⊢
  have HN := Lib.hid hn
  clear hn
  obtain ⟨CX, hCX⟩ : ∃ C, C = pathC x.h x.n := ⟨_, rfl⟩
  have HCX := Lib.hid hCX
  rw [← hCX]
  have hxs : CX.size = 21 := by rw [hCX, pathC_size x.h x.hl]
  obtain ⟨gx, hgx⟩ : ∃ g, g = w.heap.size := ⟨_, rfl⟩
  obtain ⟨W1, hW1⟩ : ∃ W1, W1 = w.alloc (.cells CX 37) := ⟨_, rfl⟩
  have H1 := Lib.hid (show Fr (fun _ => False) w W1 ∧ W1.heap[gx]? = some (.cells CX 37 (0, 0)) from ⟨by rw [hW1]; exact (Fr.refl _ _).alloc _, by rw [hW1, hgx]; exact heap_alloc_new w _⟩)
  clear hCX
  go_enter Try.func13, Try.ntmps13
  go_wp2_with fail
  rw [← hW1, ← hgx]
  clear hW1 hgx
  go_loopw [5] (fun iv wr => ∃ kx : Nat, kx ≤ n ∧ iv = .int .i64 kx ∧ Hid (Fr (fun _ => False) W1 wr ∧ x ∉ L.take kx)) (fun iv _ => n - (intOf iv).toNat)
  case atStart => exact ⟨0, by omega, rfl, Lib.hid ⟨Fr.refl _ _, by simp⟩⟩
  case round =>
    obtain ⟨kx, hkx, rfl, HF⟩ := hrel
    by_cases hlt : kx < n
    · have hil : kx < L.length := by rw [← HN.out]; exact hlt
      obtain ⟨y, hy⟩ : ∃ y, y = L[kx] := ⟨_, rfl⟩
      obtain ⟨b, off, rfl, _, hrg⟩ := HROW.out (by rintro rfl; simp at hil)
      have hry := HF.out.1.range (H1.out.1.range (hrg kx hil) (fun h => h)) (fun h => h)
      rw [← hy] at hry
      have hgr := HF.out.1.heap H1.out.2 (fun h => h)
      obtain ⟨CY, hCY⟩ : ∃ C, C = pathC y.h y.n := ⟨_, rfl⟩
      obtain ⟨bl, hbl⟩ : ∃ bl, bl = sameQ y x := ⟨_, rfl⟩
      have LDY := Lib.hid (fun W (hW : Fr (fun _ => False) wr W) => show (Instr.loadAt 37 (.pointer (some ⟨b, off + kx * 21, none⟩))).run Try.prog W = .ok (.agg CY) W by rw [hCY]; exact load_mid_path W b (off + kx * 21) y (hW.range hry (fun h => h)))
      have LDX := Lib.hid (fun W (hW : Fr (fun _ => False) wr W) => show (Instr.loadAt 37 (.pointer (some ⟨gx, 0, none⟩))).run Try.prog W = .ok (.agg CX) W by
        have hh := hW.heap hgr (fun h => h)
        rw [HCX.out] at hh ⊢
        exact load_mid_path W gx 0 x (fun j v hv => by rw [Nat.zero_add, cell_of_row _ _ _ _ _ _ hh, ← cellsX_C]; simpa using hv))
      have HEQ := Lib.hid (fun (W : World) => show (binOp .eql 37 (.agg CY) (.agg CX)).run Try.prog W = .ok (.bool bl) W by rw [hCY, HCX.out, hbl]; exact run_eql_path W y.h y.n x.h x.n y.hl x.hl)
      have HIN := Lib.hid hlt
      have HBL := Lib.hid (And.intro hbl hy)
      have hlt64 : (kx : Int) < (n : Int) := by omega
      clear hy hrg hry hgr hCY hbl
      go_wp2_with fail
      refine wp_region_inv 6 (by kernel_rfl) (by kernel_rfl) (fun W => Fr (fun _ => False) wr W) (HoR b off n cap kx gx CX CY bl) (fun _ _ _ _ => True) (Fr (fun _ => False)) (HoR.ext b off n cap kx gx CX CY bl) (Fr.refl _ _).drew ?_ ?_
      · intro i hi o ho
        replace hi : i < 6 := hi
        obtain rfl | rfl | rfl | rfl | rfl | rfl : i = 0 ∨ i = 1 ∨ i = 2 ∨ i = 3 ∨ i = 4 ∨ i = 5 := by omega
        · simp only [List.getElem?_cons_zero, Option.some.injEq] at ho
          subst ho
          intro a W vs hB hS hE hU
          refine wpG_plain rfl ?_
          have v0 : a.eval (.tmp 0) = .slice (some ⟨b, off, none⟩) n cap := (hU 0 (by kernel_rfl)).trans rfl
          clear hE hU
          exact wp_value_inv (w' := W) (.slice (some ⟨b, off, none⟩) n cap) (op_move rfl v0) ⟨_, rfl, hB, Fr.refl _ _, rfl, fun _ _ _ _ _ => trivial⟩
        · simp only [List.getElem?_cons_zero, List.getElem?_cons_succ, Option.some.injEq] at ho
          subst ho
          intro a W vs hB hS hE hU
          refine wpG_plain rfl ?_
          have v5 : a.eval (.tmp 5) = .int .i64 (kx : Nat) := (hU 5 (by kernel_rfl)).trans rfl
          clear hE hU
          exact wp_value_inv (w' := W) (.int .i64 (kx : Nat)) (op_move rfl v5) ⟨_, rfl, hB, Fr.refl _ _, rfl, fun _ _ _ _ _ => trivial⟩
        · simp only [List.getElem?_cons_zero, List.getElem?_cons_succ, Option.some.injEq] at ho
          subst ho
          intro a W vs hB hS hE hU
          refine wpG_plain rfl ?_
          obtain ⟨r0, e12⟩ := hE 0 12 (by kernel_rfl) (by kernel_rfl)
          have v12 : a.eval (.tmp 12) = .slice (some ⟨b, off, none⟩) n cap := e12.trans r0
          obtain ⟨r1, e13⟩ := hE 1 13 (by kernel_rfl) (by kernel_rfl)
          have v13 : a.eval (.tmp 13) = .int .i64 (kx : Nat) := e13.trans r1
          clear hE hU
          exact wp_value_inv (w' := W) (.pointer (some ⟨b, off + kx * 21, none⟩)) (op_indexAddr rfl v12 v13 (run_index_paths W b off n cap kx HIN.out)) ⟨_, rfl, hB, Fr.refl _ _, rfl, fun _ _ _ _ _ => trivial⟩
        · simp only [List.getElem?_cons_zero, List.getElem?_cons_succ, Option.some.injEq] at ho
          subst ho
          intro a W vs hB hS hE hU
          refine wpG_plain rfl ?_
          obtain ⟨r2, e14⟩ := hE 2 14 (by kernel_rfl) (by kernel_rfl)
          have v14 : a.eval (.tmp 14) = .pointer (some ⟨b, off + kx * 21, none⟩) := e14.trans r2
          clear hE hU
          exact wp_value_inv (w' := W) (.agg CY) (op_loadAt rfl v14 (LDY.out W hB)) ⟨_, rfl, hB, Fr.refl _ _, rfl, fun _ _ _ _ _ => trivial⟩
        · simp only [List.getElem?_cons_zero, List.getElem?_cons_succ, Option.some.injEq] at ho
          subst ho
          intro a W vs hB hS hE hU
          refine wpG_plain rfl ?_
          have v3 : a.eval (.tmp 3) = .pointer (some ⟨gx, 0, none⟩) := (hU 3 (by kernel_rfl)).trans rfl
          clear hE hU
          exact wp_value_inv (w' := W) (.agg CX) (op_loadAt rfl v3 (LDX.out W hB)) ⟨_, rfl, hB, Fr.refl _ _, rfl, fun _ _ _ _ _ => trivial⟩
        · simp only [List.getElem?_cons_zero, List.getElem?_cons_succ, Option.some.injEq] at ho
          subst ho
          intro a W vs hB hS hE hU
          refine wpG_plain rfl ?_
          obtain ⟨r3, e15⟩ := hE 3 15 (by kernel_rfl) (by kernel_rfl)
          have v15 : a.eval (.tmp 15) = .agg CY := e15.trans r3
          obtain ⟨r4, e16⟩ := hE 4 16 (by kernel_rfl) (by kernel_rfl)
          have v16 : a.eval (.tmp 16) = .agg CX := e16.trans r4
          clear hE hU
          exact wp_value_inv (w' := W) (.bool bl) (op_bin rfl v15 v16 (guard_path W _ _ _ _ _) (HEQ.out W)) ⟨_, rfl, hB, Fr.refl _ _, rfl, fun _ _ _ _ _ => trivial⟩
      · intro vs Wa hB0 hR0 hD
        have r17 : vs 5 = .bool bl := hR0 5 (by decide)
        have HB := Lib.hid hB0
        clear hR0 hD hB0
        simp only [acts, if_true, dstAt, List.getElem?_cons_zero, List.getElem?_cons_succ, Option.bind_some, Act.put, List.setIfInBounds_toArray, List.set_cons_succ, List.set_cons_zero, List.drop_succ_cons, List.drop_nil]
        simp only [r17]
        clear r17
        cases bl
        · have hne : x ∉ L.take (kx + 1) := by
            rw [List.take_succ_eq_append_getElem hil]
            intro hm
            rcases List.mem_append.1 hm with hm | hm
            · exact HF.out.2 hm
            · have h1 := HBL.out.1
              rw [sameQ_eq] at h1
              have h2 := of_decide_eq_false h1.symm
              rw [List.mem_singleton, ← HBL.out.2] at hm
              exact h2 hm.symm
          have HNE := Lib.hid hne
          clear hne
          go_wp2_with fail
          go_roundw
          case rel => exact ⟨kx + 1, by omega, by go_num, Lib.hid ⟨HF.out.1.trans HB.out (fun _ h => h.elim), HNE.out⟩⟩
          case measure => simp [intOf]; omega
        · have hm : x ∈ L := by
            have h1 := HBL.out.1
            rw [sameQ_eq] at h1
            have h2 := of_decide_eq_true h1.symm
            rw [← h2, HBL.out.2]
            exact List.getElem_mem _
          have HM := Lib.hid hm
          clear hm
          go_wp2_with fail
          go_ret
          exact ⟨by rw [decide_eq_true HM.out]; rfl, (H1.out.1.trans HF.out.1 (fun _ h => h.elim)).trans HB.out (fun _ h => h.elim)⟩
    · obtain rfl : n = kx := by omega
      have hlt64 : ¬ (n : Int) < (n : Int) := by omega
      have HM := Lib.hid (show x ∉ L by have h := HF.out.2; rwa [List.take_of_length_le (by rw [HN.out]; exact Nat.le_refl _)] at h)
      go_wp2_with fail
      go_ret
      exact ⟨by rw [decide_eq_false HM.out]; rfl, H1.out.1.trans HF.out.1 (fun _ h => h.elim)⟩
def SpR (b off n cap kx b2 off2 cap2 : Nat) (CX : Array Value) (i : Nat) (v : Value) (W : World) : Prop :=
  match i with
  | 0 => v = .slice (some ⟨b, off, none⟩) n cap
  | 1 => v = .int .i64 (kx : Nat)
  | 2 => v = .pointer (some ⟨b, off + kx * 21, none⟩)
  | 3 => v = .agg CX
  | 4 => v = .slice (some ⟨b2, off2, none⟩) n cap2
  | 5 => v = .int .i64 (kx : Nat)
  | 6 => v = .pointer (some ⟨b2, off2 + kx * 21, none⟩)
  | 7 => v = .agg CX
  | 8 => v = .bool false
  | _ => True
theorem SpR.ext (b off n cap kx b2 off2 cap2 : Nat) (CX : Array Value) : ∀ (j : Nat) (u : Value) (W W' : World), Fr (fun _ => False) W W' → SpR b off n cap kx b2 off2 cap2 CX j u W → SpR b off n cap kx b2 off2 cap2 CX j u W'
  | 0, u, W, W', hf, h => h
  | 1, u, W, W', hf, h => h
  | 2, u, W, W', hf, h => h
  | 3, u, W, W', hf, h => h
  | 4, u, W, W', hf, h => h
  | 5, u, W, W', hf, h => h
  | 6, u, W, W', hf, h => h
  | 7, u, W, W', hf, h => h
  | 8, u, W, W', hf, h => h
  | _ + 9, u, W, W', hf, h => trivial
set_option maxRecDepth 100000 in
set_option maxHeartbeats 4000000 in
theorem samePaths_any {F G : Nat → Prop} (w : World) (u v : Value) (L : List PathX) (hu : PathsIn F w u L) (hv : PathsIn G w v L) (hlen : L.length ≤ 1000000) :
    Calls Try.prog 15 #[u, v] w fun e w' => e = .returned (.bool true) ∧ Fr (fun _ => False) w w' := by
  obtain ⟨ao, cap, rfl, hlc, hcm, hn0, hrow⟩ := hu
  obtain ⟨ao2, cap2, rfl, hlc2, hcm2, hn02, hrow2⟩ := hv
  have HROW := Lib.hid (And.intro hrow hrow2)
  unfold maxLen at hcm hcm2
  clear hn0 hn02 hrow hrow2
  obtain ⟨n, hn⟩ : ∃ n, n = L.length := ⟨_, rfl⟩
  rw [← hn] at hlc hlc2 hlen ⊢
  have HN := Lib.hid hn
  clear hn
  go_enter Try.func15, Try.ntmps15
  go_wp2_with fail
  go_loopw [5] (fun iv wr => ∃ kx : Nat, kx ≤ n ∧ iv = .int .i64 kx ∧ Hid (Fr (fun _ => False) w wr)) (fun iv _ => n - (intOf iv).toNat)
  case atStart => exact ⟨0, by omega, rfl, Lib.hid (Fr.refl _ _)⟩
  case round =>
    obtain ⟨kx, hkx, rfl, HF⟩ := hrel
    by_cases hlt : kx < n
    · have hil : kx < L.length := by rw [← HN.out]; exact hlt
      obtain ⟨y, hy⟩ : ∃ y, y = L[kx] := ⟨_, rfl⟩
      obtain ⟨b, off, rfl, _, hrg⟩ := HROW.out.1 (by rintro rfl; simp at hil)
      obtain ⟨b2, off2, rfl, _, hrg2⟩ := HROW.out.2 (by rintro rfl; simp at hil)
      have hry := HF.out.range (hrg kx hil) (fun h => h)
      have hry2 := HF.out.range (hrg2 kx hil) (fun h => h)
      rw [← hy] at hry hry2
      obtain ⟨CX, hCX⟩ : ∃ C, C = pathC y.h y.n := ⟨_, rfl⟩
      have LDX := Lib.hid (fun W (hW : Fr (fun _ => False) wr W) => show (Instr.loadAt 37 (.pointer (some ⟨b, off + kx * 21, none⟩))).run Try.prog W = .ok (.agg CX) W by rw [hCX]; exact load_mid_path W b (off + kx * 21) y (hW.range hry (fun h => h)))
      have LDY := Lib.hid (fun W (hW : Fr (fun _ => False) wr W) => show (Instr.loadAt 37 (.pointer (some ⟨b2, off2 + kx * 21, none⟩))).run Try.prog W = .ok (.agg CX) W by rw [hCX]; exact load_mid_path W b2 (off2 + kx * 21) y (hW.range hry2 (fun h => h)))
      have HEQ := Lib.hid (fun (W : World) => show (binOp .neq 37 (.agg CX) (.agg CX)).run Try.prog W = .ok (.bool false) W by
        rw [hCX, run_neq_path W y.h y.n y.h y.n y.hl y.hl, sameP_refl]
        rfl)
      have HIN := Lib.hid hlt
      have hlt64 : (kx : Int) < (n : Int) := by omega
      clear hy hrg hrg2 hry hry2 hCX
      go_wp2_with fail
      refine wp_region_inv 9 (by kernel_rfl) (by kernel_rfl) (fun W => Fr (fun _ => False) wr W) (SpR b off n cap kx b2 off2 cap2 CX) (fun _ _ _ _ => True) (Fr (fun _ => False)) (SpR.ext b off n cap kx b2 off2 cap2 CX) (Fr.refl _ _).drew ?_ ?_
      · intro i hi o ho
        replace hi : i < 9 := hi
        obtain rfl | rfl | rfl | rfl | rfl | rfl | rfl | rfl | rfl : i = 0 ∨ i = 1 ∨ i = 2 ∨ i = 3 ∨ i = 4 ∨ i = 5 ∨ i = 6 ∨ i = 7 ∨ i = 8 := by omega
        · simp only [List.getElem?_cons_zero, Option.some.injEq] at ho
          subst ho
          intro a W vs hB hS hE hU
          refine wpG_plain rfl ?_
          have v0 : a.eval (.tmp 0) = .slice (some ⟨b, off, none⟩) n cap := (hU 0 (by kernel_rfl)).trans rfl
          clear hE hU
          exact wp_value_inv (w' := W) (.slice (some ⟨b, off, none⟩) n cap) (op_move rfl v0) ⟨_, rfl, hB, Fr.refl _ _, rfl, fun _ _ _ _ _ => trivial⟩
        · simp only [List.getElem?_cons_zero, List.getElem?_cons_succ, Option.some.injEq] at ho
          subst ho
          intro a W vs hB hS hE hU
          refine wpG_plain rfl ?_
          have v5 : a.eval (.tmp 5) = .int .i64 (kx : Nat) := (hU 5 (by kernel_rfl)).trans rfl
          clear hE hU
          exact wp_value_inv (w' := W) (.int .i64 (kx : Nat)) (op_move rfl v5) ⟨_, rfl, hB, Fr.refl _ _, rfl, fun _ _ _ _ _ => trivial⟩
        · simp only [List.getElem?_cons_zero, List.getElem?_cons_succ, Option.some.injEq] at ho
          subst ho
          intro a W vs hB hS hE hU
          refine wpG_plain rfl ?_
          obtain ⟨r0, e17⟩ := hE 0 17 (by kernel_rfl) (by kernel_rfl)
          have v17 : a.eval (.tmp 17) = .slice (some ⟨b, off, none⟩) n cap := e17.trans r0
          obtain ⟨r1, e18⟩ := hE 1 18 (by kernel_rfl) (by kernel_rfl)
          have v18 : a.eval (.tmp 18) = .int .i64 (kx : Nat) := e18.trans r1
          clear hE hU
          exact wp_value_inv (w' := W) (.pointer (some ⟨b, off + kx * 21, none⟩)) (op_indexAddr rfl v17 v18 (run_index_paths W b off n cap kx HIN.out)) ⟨_, rfl, hB, Fr.refl _ _, rfl, fun _ _ _ _ _ => trivial⟩
        · simp only [List.getElem?_cons_zero, List.getElem?_cons_succ, Option.some.injEq] at ho
          subst ho
          intro a W vs hB hS hE hU
          refine wpG_plain rfl ?_
          obtain ⟨r2, e19⟩ := hE 2 19 (by kernel_rfl) (by kernel_rfl)
          have v19 : a.eval (.tmp 19) = .pointer (some ⟨b, off + kx * 21, none⟩) := e19.trans r2
          clear hE hU
          exact wp_value_inv (w' := W) (.agg CX) (op_loadAt rfl v19 (LDX.out W hB)) ⟨_, rfl, hB, Fr.refl _ _, rfl, fun _ _ _ _ _ => trivial⟩
        · simp only [List.getElem?_cons_zero, List.getElem?_cons_succ, Option.some.injEq] at ho
          subst ho
          intro a W vs hB hS hE hU
          refine wpG_plain rfl ?_
          have v1 : a.eval (.tmp 1) = .slice (some ⟨b2, off2, none⟩) n cap2 := (hU 1 (by kernel_rfl)).trans rfl
          clear hE hU
          exact wp_value_inv (w' := W) (.slice (some ⟨b2, off2, none⟩) n cap2) (op_move rfl v1) ⟨_, rfl, hB, Fr.refl _ _, rfl, fun _ _ _ _ _ => trivial⟩
        · simp only [List.getElem?_cons_zero, List.getElem?_cons_succ, Option.some.injEq] at ho
          subst ho
          intro a W vs hB hS hE hU
          refine wpG_plain rfl ?_
          have v5 : a.eval (.tmp 5) = .int .i64 (kx : Nat) := (hU 5 (by kernel_rfl)).trans rfl
          clear hE hU
          exact wp_value_inv (w' := W) (.int .i64 (kx : Nat)) (op_move rfl v5) ⟨_, rfl, hB, Fr.refl _ _, rfl, fun _ _ _ _ _ => trivial⟩
        · simp only [List.getElem?_cons_zero, List.getElem?_cons_succ, Option.some.injEq] at ho
          subst ho
          intro a W vs hB hS hE hU
          refine wpG_plain rfl ?_
          obtain ⟨r4, e21⟩ := hE 4 21 (by kernel_rfl) (by kernel_rfl)
          have v21 : a.eval (.tmp 21) = .slice (some ⟨b2, off2, none⟩) n cap2 := e21.trans r4
          obtain ⟨r5, e22⟩ := hE 5 22 (by kernel_rfl) (by kernel_rfl)
          have v22 : a.eval (.tmp 22) = .int .i64 (kx : Nat) := e22.trans r5
          clear hE hU
          exact wp_value_inv (w' := W) (.pointer (some ⟨b2, off2 + kx * 21, none⟩)) (op_indexAddr rfl v21 v22 (run_index_paths W b2 off2 n cap2 kx HIN.out)) ⟨_, rfl, hB, Fr.refl _ _, rfl, fun _ _ _ _ _ => trivial⟩
        · simp only [List.getElem?_cons_zero, List.getElem?_cons_succ, Option.some.injEq] at ho
          subst ho
          intro a W vs hB hS hE hU
          refine wpG_plain rfl ?_
          obtain ⟨r6, e23⟩ := hE 6 23 (by kernel_rfl) (by kernel_rfl)
          have v23 : a.eval (.tmp 23) = .pointer (some ⟨b2, off2 + kx * 21, none⟩) := e23.trans r6
          clear hE hU
          exact wp_value_inv (w' := W) (.agg CX) (op_loadAt rfl v23 (LDY.out W hB)) ⟨_, rfl, hB, Fr.refl _ _, rfl, fun _ _ _ _ _ => trivial⟩
        · simp only [List.getElem?_cons_zero, List.getElem?_cons_succ, Option.some.injEq] at ho
          subst ho
          intro a W vs hB hS hE hU
          refine wpG_plain rfl ?_
          obtain ⟨r3, e20⟩ := hE 3 20 (by kernel_rfl) (by kernel_rfl)
          have v20 : a.eval (.tmp 20) = .agg CX := e20.trans r3
          obtain ⟨r7, e24⟩ := hE 7 24 (by kernel_rfl) (by kernel_rfl)
          have v24 : a.eval (.tmp 24) = .agg CX := e24.trans r7
          clear hE hU
          exact wp_value_inv (w' := W) (.bool false) (op_bin rfl v20 v24 (guard_path W _ _ _ _ _) (HEQ.out W)) ⟨_, rfl, hB, Fr.refl _ _, rfl, fun _ _ _ _ _ => trivial⟩
      · intro vs Wa hB0 hR0 hD
        have r25 : vs 8 = .bool false := hR0 8 (by decide)
        have HB := Lib.hid hB0
        clear hR0 hD hB0
        simp only [acts, if_true, dstAt, List.getElem?_cons_zero, List.getElem?_cons_succ, Option.bind_some, Act.put, List.setIfInBounds_toArray, List.set_cons_succ, List.set_cons_zero, List.drop_succ_cons, List.drop_nil]
        simp only [r25]
        clear r25
        go_wp2_with fail
        go_roundw
        case rel => exact ⟨kx + 1, by omega, by go_num, Lib.hid (HF.out.trans HB.out (fun _ h => h.elim))⟩
        case measure => simp [intOf]; omega
    · obtain rfl : n = kx := by omega
      have hlt64 : ¬ (n : Int) < (n : Int) := by omega
      go_wp2_with fail
      go_ret
      exact ⟨rfl, HF.out⟩
end Go.Proofs.Ytfkgdjoaoidkeaa
namespace Go.Proofs.Ytfkgdjoaoidkeaa
open Go.RowKit Go.ChangeShapes
set_option linter.unusedVariables false
def h7 : List UInt8 := [7, 0, 0, 0, 0, 0, 0, 0, 0, 0, 0, 0, 0, 0, 0, 0, 0, 0, 0, 0]
def b7 : List UInt8 := letL h7 ++ [45] ++ letL h7
theorem places7 : placesR b7 (letL h7) = [0, 33] := by decide +kernel
theorem b7_length : b7.length = 65 := by decide +kernel
theorem h7_cells : (h7.map bv).toArray = #[.int .u8 7, .int .u8 0, .int .u8 0, .int .u8 0, .int .u8 0, .int .u8 0, .int .u8 0, .int .u8 0, .int .u8 0, .int .u8 0, .int .u8 0, .int .u8 0, .int .u8 0, .int .u8 0, .int .u8 0, .int .u8 0, .int .u8 0, .int .u8 0, .int .u8 0, .int .u8 0] := rfl
theorem str_cat (A Bb : List UInt8) : (⟨A.toArray⟩ : ByteArray) ++ (⟨Bb.toArray⟩ : ByteArray) = ⟨(A ++ Bb).toArray⟩ := by
  apply ByteArray.ext
  simp
theorem tag7 (w : World) (S : ByteArray) (hs : S.size = 32) (hc : S ++ ⟨#[45]⟩ ++ S = ⟨b7.toArray⟩) :
    ∃ cap W, (convert 9 22 (.string (S ++ ⟨#[45]⟩ ++ S))).run Try.prog w = .ok (.slice (some ⟨w.heap.size, 0, none⟩) 65 cap) W ∧ Hid (Fr (fun _ => False) w W ∧ BytesIn (fun k => k = w.heap.size) W (.slice (some ⟨w.heap.size, 0, none⟩) 65 cap) b7 ∧ W.heap.size = w.heap.size + 1) := by
  obtain ⟨cap, W, h1, h2, h3, h4⟩ := run_tag w ⟨b7.toArray⟩ (by rw [str_size, b7_length]; decide)
  rw [str_size, b7_length] at h1 h3
  rw [hc]
  exact ⟨cap, W, h1, Lib.hid ⟨h2, h3, h4⟩⟩
set_option maxRecDepth 100000 in
set_option maxHeartbeats 4000000 in
theorem awake10_any (w : World) (hm : MlAt w) : Calls Try.prog 5 #[] w fun e w' => e = .returned (.bool true) ∧ Fr (fun _ => False) w w' := by
  have HRL := Lib.hid (fun W => rLetters_any h7 rfl W)
  have HPL := Lib.hid (fun (W : World) (v : Value) (F : Nat → Prop) (hv : BytesIn F W v b7) (hF : ∀ k, F k → k < W.heap.size) (hm : MlAt W) => fPlaces_any W v b7 h7 rfl hv hF (by rw [b7_length]; decide) hm)
  rw [places7] at HPL
  rw [h7_cells] at HRL HPL
  obtain ⟨S, hS⟩ : ∃ S : ByteArray, S = ⟨(letL h7).toArray⟩ := ⟨_, rfl⟩
  rw [← hS] at HRL
  have hcat : S ++ ⟨#[45]⟩ ++ S = ⟨b7.toArray⟩ := by
    rw [hS]
    have h1 := str_cat (letL h7) [45]
    have h2 := str_cat (letL h7 ++ [45]) (letL h7)
    rw [← h1] at h2
    exact h2
  have hsz : S.size = 32 := by rw [hS, str_size, letL_length]
  have HC := Lib.hid hcat
  clear hS hcat
  go_enter Try.func5, Try.ntmps5
  go_wp2_with (first
    | (go_at_call 16; refine (HRL.out _).mono ?_; rintro e w2 ⟨rfl, hf2⟩; (obtain ⟨cap, W3, hcv, H3⟩ := tag7 w2 S hsz HC.out); (have HF2 := Lib.hid hf2); clear hf2)
    | (go_at_call 6; refine (HPL.out _ _ _ H3.out.2.1 (fun k hk => by have := H3.out.2.2; omega) ((hm.keep HF2.out (fun h => h)).keep H3.out.1 (fun h => h))).mono ?_; rintro e w4 ⟨u, rfl, ho4, hf4⟩; (obtain ⟨au, cu, hu, hcu1, hcu2, bq, oq, hau, hcq⟩ := ho4.ints); subst hu; (obtain ⟨rfl, -⟩ := hau (by decide)); (have c0 := hcq 0 (by decide)); (have c1 := hcq 1 (by decide)); simp only [List.length_cons, List.length_nil, List.getElem_cons_zero, List.getElem_cons_succ, Nat.reduceAdd, Nat.add_zero] at *; (have HF4 := Lib.hid ((HF2.out.trans H3.out.1 (fun _ h => h.elim)).trans hf4 (fun _ h => h.elim))); clear ho4 hf4 hcq hau))
  go_ret
  exact ⟨rfl, HF4.out⟩
end Go.Proofs.Ytfkgdjoaoidkeaa
namespace Go.Proofs.Ytfkgdjoaoidkeaa
open Go.RowKit Go.ChangeShapes
set_option linter.unusedVariables false
section
variable {P : Program} {w : World} {o : Oper} {a : Act}
end
theorem op_lenI {w : World} {o : Oper} {a : Act} {x : Operand} {ao : Option Addr} {n cap : Nat} (ho : o.op = .call { callee := .builtin .len, args := #[x], argTypes := #[26] }) (hx : a.eval x = .slice ao n cap) : (execOp a.eval o).run Try.prog w = .ok (.value (.int .i64 (n : Nat))) w := by
  unfold execOp
  rw [ho]
  simp [resolve, invoke, builtin, hx, Builtin.len_, run_underlying Try.underlying26, goInt, Result.andThen]
end Go.Proofs.Ytfkgdjoaoidkeaa
