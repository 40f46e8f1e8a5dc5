/- Laid together: RfRf MkT RfHo Mark -/
import Derived.Test.YtfkgdjoaoidkeaaGreatRz6
import Derived.Test.YtfkgdjoaoidkeaaGreatRz10
import Derived.Test.YtfkgdjoaoidkeaaGreatRz11
import Derived.Test.YtfkgdjoaoidkeaaGreatRz4
import Derived.Test.YtfkgdjoaoidkeaaGreatRz1
import Derived.Test.YtfkgdjoaoidkeaaGreatRz0
import Derived.Test.YtfkgdjoaoidkeaaGreatRz5
import Derived.Test.YtfkgdjoaoidkeaaGreatRz7
import Derived.Deep.WholeRow

namespace Go.Proofs.YtfkgdjoaoidkeaaGreat
open Go.RowKit Go.ChangeShapes
set_option linter.unusedVariables false
theorem len_sub : ∀ (M L : List PathX), M.Nodup → (∀ x ∈ M, x ∈ L) → M.length ≤ L.length
  | [], _, _, _ => Nat.zero_le _
  | x :: M, L, hn, hs => by
    obtain ⟨h1, h2⟩ := List.nodup_cons.1 hn
    have hx := hs x List.mem_cons_self
    have h3 := len_sub M (L.erase x) h2 (fun y hy => (List.mem_erase_of_ne (by rintro rfl; exact h1 hy)).2 (hs y (List.mem_cons_of_mem _ hy)))
    rw [List.length_erase_of_mem hx] at h3
    have := List.length_pos_of_mem hx
    rw [List.length_cons]
    omega
theorem any_places (b s : List UInt8) : anyR b s = decide (0 < (placesR b s).length) := by
  unfold anyR
  rw [decide_eq_decide, List.length_pos_iff]
set_option maxRecDepth 100000 in
set_option maxHeartbeats 8000000 in
theorem rFound_any {F G : Nat → Prop} (w : World) (v u : Value) (b : List UInt8) (L : List PathX) (hv : BytesIn F w v b) (hF : ∀ k, F k → k < w.heap.size) (hu : PathsIn G w u L) (hG : ∀ k, G k → k < w.heap.size) (hL : L.length ≤ 1000) (hb : b.length ≤ 900000) :
    Calls Tryz.prog 16 #[v, u] w fun e w' => ∃ y M, e = .returned y ∧ PathsIn (fun k => w.heap.size ≤ k) w' y M ∧ Asc lessX M ∧ (∀ x, x ∈ M ↔ x ∈ L ∧ anyR b (letL x.h) = true) ∧ Fr (fun _ => False) w w' := by
  obtain ⟨ao, n, cap, rfl⟩ : ∃ ao n cap, v = .slice ao n cap := by obtain ⟨ao, cap, h, _⟩ := hv; exact ⟨_, _, _, h⟩
  have HSO := Lib.hid (rSorted_any w u L hu hG (by omega))
  obtain ⟨au, cu, rfl, -⟩ := hu
  have HX := Lib.hid (And.intro hv (And.intro hF hb))
  have HLL := Lib.hid hL
  obtain ⟨m0, hm0⟩ : ∃ m, m = L.length := ⟨_, rfl⟩
  rw [← hm0] at HSO ⊢
  clear hv hF hG hb hL hm0
  obtain ⟨p, hp⟩ : ∃ p : PathX → Bool, p = fun x => anyR b (letL x.h) := ⟨_, rfl⟩
  go_enter Tryz.func16, Tryz.ntmps16
  go_wp2_with (go_at_call 33; refine HSO.out.mono ?_; rintro e w1 ⟨y, M, rfl, hy, hasc, hmem, hf1⟩)
  have hml : M.length ≤ 1000 := by
    have := len_sub M L (hasc.nodup lessX_strict) (fun x hx => (hmem x).1 hx)
    have := HLL.out
    omega
  obtain ⟨am, cm, rfl, hlc, hcm, hn0, hrow⟩ := hy
  unfold maxLen at hcm
  have HROW := Lib.hid hrow
  obtain ⟨m, hm⟩ : ∃ m, m = M.length := ⟨_, rfl⟩
  rw [← hm] at hlc hml ⊢
  have HM := Lib.hid hm
  have H1 := Lib.hid (And.intro hasc (And.intro hmem hf1))
  have H0 := Lib.hid (show FoAt w1 w1 (.slice none 0 0) ((M.take 0).filter p) from ⟨Fr.refl _ _, OwnP.nil _ _⟩)
  clear hasc hmem hf1 hn0 hrow hm
  go_loopw [6, 7] (fun ov kv wr => ∃ k : Nat, k ≤ m ∧ kv = .int .i64 k ∧ Hid (FoAt w1 wr ov ((M.take k).filter p))) (fun _ kv _ => m - (intOf kv).toNat)
  case atStart => exact ⟨0, by omega, rfl, H0⟩
  case round =>
    clear H0
    obtain ⟨kx, hk, rfl, hR⟩ := hrel
    by_cases hlt : kx < m
    · have hkL : kx < M.length := by rw [← HM.out]; exact hlt
      have hfs := filter_take_succ p M kx hkL
      have hol : ((M.take kx).filter p).length + 1 ≤ 1000000 := by
        have h1 := List.length_filter_le p (M.take kx)
        rw [List.length_take] at h1
        omega
      obtain ⟨O, hO⟩ : ∃ O, O = (M.take kx).filter p := ⟨_, rfl⟩
      rw [← hO] at hR hfs hol
      obtain ⟨x, hx⟩ : ∃ x, x = M[kx] := ⟨_, rfl⟩
      obtain ⟨bp, off, rfl, hbG, hrg⟩ := HROW.out (by rintro rfl; simp at hkL)
      have hr : wr.rangeAt bp (off + kx * 21) (cellsX M[kx]) := hR.out.fr.range (hrg kx hkL) (fun h => h)
      rw [← hx] at hr hfs
      have hrh : wr.rangeAt bp (off + kx * 21) (x.h.map bv) := fun j v hv => hr j v (by
        rw [cellsX, List.getElem?_append_left (List.getElem?_eq_some_iff.1 hv).1]
        exact hv)
      obtain ⟨C, hC⟩ : ∃ C, C = pathC x.h x.n := ⟨_, rfl⟩
      obtain ⟨CH, hCH⟩ : ∃ C, C = (x.h.map bv).toArray := ⟨_, rfl⟩
      obtain ⟨Cl, hCl⟩ : ∃ C, C = cellsX x := ⟨_, rfl⟩
      have hCC : Cl.toArray = C := by rw [hCl, hC]; rfl
      have hll : Cl.length = 21 := by rw [hCl, cellsX_length]
      have hiL : (Tryz.prog.info? 27).map (·.size) = some Cl.length := by rw [hll]; kernel_rfl
      have hiH : (Tryz.prog.info? 24).map (·.size) = some (x.h.map bv).length := by rw [List.length_map, x.hl]; kernel_rfl
      have HCH := Lib.hid hCH
      have HLL2 := Lib.hid hCC
      obtain ⟨mp, hmp⟩ : ∃ mp, mp = (placesR b (letL x.h)).length := ⟨_, rfl⟩
      have hpx : p x = decide (0 < mp) := by rw [hp, hmp]; exact any_places b (letL x.h)
      have HPL := Lib.hid (show Calls Tryz.prog 14 #[.slice ao n cap, .agg CH] wr fun e w' => ∃ a c, e = .returned (.slice a mp c) ∧ Fr (fun _ => False) wr w' by
        rw [hCH]
        refine (rPlaces_any wr _ b x.h x.hl ((HX.out.1.keep H1.out.2.2 (fun _ _ _ h => h)).keep hR.out.fr (fun _ _ _ h => h)) HX.out.2.2).mono ?_
        rintro e w' ⟨u, rfl, ho, hf⟩
        obtain ⟨a9, c9, hu9, -⟩ := id ho.ints
        exact ⟨a9, c9, by rw [hu9, hmp], hf⟩)
      have HBO := Lib.hid (fun (W : World) => show (Instr.buildSlice 25 1 #[(0, .agg C)]).run Tryz.prog W = .ok (.slice (some ⟨W.heap.size, 0, none⟩) 1 1) (W.alloc (.cells C 27)) by rw [hC]; exact run_build_one W x)
      have HPO := Lib.hid (fun (W : World) => show PathsIn (fun k => k = W.heap.size) (W.alloc (.cells C 27)) (.slice (some ⟨W.heap.size, 0, none⟩) 1 1) [x] by rw [hC]; exact PathsIn.one W x)
      have HFS := Lib.hid hfs
      have HOL := Lib.hid hol
      rw [← hCl] at hr
      obtain ⟨ov, hov⟩ : ∃ y, y = u6 := ⟨_, rfl⟩
      have hlt64 : (kx : Int) < (m : Int) := by omega
      clear hx hrg hbG hC hCH hCl hll hCC hO hfs hol hmp hov
      by_cases hmp0 : 0 < mp
      · have hm64 : (0 : Int) < (mp : Int) := by omega
        have HF1 := Lib.hid (HFS.out.trans (if_pos (by rw [hpx, decide_eq_true hmp0])))
        clear HFS hpx
        go_wp2_with (first
          | (with_reducible refine wpList_load_mid rfl 24 (.tmp 20) rfl bp (off + kx * 21) rfl (x.h.map bv) _ hrh Tryz.underlying24 rfl hiH ?_; rw [← HCH.out])
          | (go_at_call 14; refine HPL.out.mono ?_; rintro e w2 ⟨a9, c9, rfl, hf2⟩; (have HR2 := Lib.hid (FoAt.keep hR.out hf2)); (have hr2 := hf2.range hr (fun h => h)); clear hf2)
          | (with_reducible refine wpList_load_mid rfl 27 (.tmp 28) rfl bp (off + kx * 21) rfl Cl _ hr2 Tryz.underlying27 rfl hiL ?_; rw [HLL2.out])
          | ((refine wpList_one rfl 25 (.tmp 29) rfl (.agg C) (.slice (some ⟨w2.heap.size, 0, none⟩) 1 1) (w2.alloc (.cells C 27)) rfl (HBO.out w2) ?_); refine wpList_append_paths (F := fun g => w1.heap.size ≤ g) (G := fun k => k = w2.heap.size) _ rfl (.tmp 25) (.tmp 30) rfl u6 _ O [x] rfl rfl (HR2.out.own.keep ((Fr.refl (fun _ => False) w2).alloc _) (fun _ _ _ h => h)) (HPO.out w2) (by have := HOL.out; simp only [List.length_singleton]; omega) ?_; intro v4 w4 hown4 hgrow4 hblk4; (have HR4 := Lib.hid (FoAt.more (FoAt.keep HR2.out ((Fr.refl (fun _ => False) w2).alloc (.cells C 27))) hown4 hgrow4)); clear hown4 hgrow4 hblk4))
        go_roundw
        case rel => exact ⟨kx + 1, by omega, by go_num, by rw [HF1.out]; exact HR4⟩
        case measure => simp [intOf]; omega
      · have hm64 : ¬ (0 : Int) < (mp : Int) := by omega
        have HF1 := Lib.hid (HFS.out.trans (if_neg (by rw [hpx, decide_eq_false hmp0]; decide)))
        clear HFS hpx
        go_wp2_with (first
          | (with_reducible refine wpList_load_mid rfl 24 (.tmp 20) rfl bp (off + kx * 21) rfl (x.h.map bv) _ hrh Tryz.underlying24 rfl hiH ?_; rw [← HCH.out])
          | (go_at_call 14; refine HPL.out.mono ?_; rintro e w2 ⟨a9, c9, rfl, hf2⟩; (have HR2 := Lib.hid (FoAt.keep hR.out hf2)); clear hf2))
        go_roundw
        case rel => exact ⟨kx + 1, by omega, by go_num, by rw [HF1.out]; exact HR2⟩
        case measure => simp [intOf]; omega
    · obtain rfl : m = kx := by omega
      have hnlt : ¬ (m : Int) < (m : Int) := by omega
      have hR2 := hR.out
      rw [List.take_of_length_le (by rw [HM.out]; exact Nat.le_refl _)] at hR2
      have HF := Lib.hid (And.intro hR2 hp)
      clear hR hR2 hlt hk hp
      go_wp2_with fail
      go_ret
      have hw1 := H1.out.2.2.size
      refine ⟨_, rfl, M.filter p, HF.out.1.own.paths.mono (fun k _ hk => by omega), List.Pairwise.filter _ H1.out.1, fun x => ?_, H1.out.2.2.trans HF.out.1.fr (fun _ h => h.elim)⟩
      rw [List.mem_filter, H1.out.2.1, HF.out.2]
end Go.Proofs.YtfkgdjoaoidkeaaGreat
namespace Go.Proofs.YtfkgdjoaoidkeaaGreat
open Go.RowKit Go.ChangeShapes
set_option linter.unusedVariables false
def mT (i : Nat) : ByteArray := ⟨#[35, 1, 0, 0, 47, UInt8.ofNat i, 0, 0]⟩
def mP (i : Nat) : PathX := ⟨List.replicate 20 0, mT i, by simp⟩
set_option maxRecDepth 100000 in
theorem markText_any (i : Nat) (h : i < 12) (w : World) : Calls Tryz.prog 38 #[.int .i64 1, .int .i64 i] w fun e w' => e = .returned (.string (mT i)) ∧ Fr (fun _ => False) w w' := by
  have hcv : (convert 22 9 (.slice (some ⟨w.heap.size, 0, none⟩) 8 8)).run Tryz.prog (w.alloc (.cells #[.int .u8 35, .int .u8 1, .int .u8 0, .int .u8 0, .int .u8 47, .int .u8 (i : Int), .int .u8 0, .int .u8 0] 5)) = .ok (.string (mT i)) (w.alloc (.cells #[.int .u8 35, .int .u8 1, .int .u8 0, .int .u8 0, .int .u8 47, .int .u8 (i : Int), .int .u8 0, .int .u8 0] 5)) := by
    have e : (i : Int) = ((UInt8.ofNat i).toNat : Nat) := by
      rw [UInt8.toNat_ofNat', Nat.mod_eq_of_lt (by omega)]
    rw [e]
    exact run_bytes_str _ _ [35, 1, 0, 0, 47, UInt8.ofNat i, 0, 0] ((Byt.new w [35, 1, 0, 0, 47, UInt8.ofNat i, 0, 0]).bytes (by simp [maxLen]))
  have h1 : (i : Int) % 256 = i := by omega
  have h2 : (i : Int) / 256 = 0 := by omega
  have h3 : (i : Int) / 65536 = 0 := by omega
  have h4 : (i : Int) < 12 := by omega
  obtain ⟨S, hS⟩ : ∃ S, S = mT i := ⟨_, rfl⟩
  rw [← hS] at hcv ⊢
  clear hS
  go_enter Tryz.func38, Tryz.ntmps38
  go_wp2
  go_ret
  exact ⟨rfl, (Fr.refl _ _).alloc _⟩
theorem mpath_built (S : ByteArray) : Tryz.prog.built 27 [(1, .string S)] = some (pathC (List.replicate 20 0) S) := by kernel_rfl
set_option maxRecDepth 100000 in
set_option maxHeartbeats 2000000 in
theorem markPath_any (i : Nat) (h : i < 12) (w : World) : Calls Tryz.prog 25 #[.int .i64 1, .int .i64 i] w fun e w' => e = .returned (.agg (pathC (mP i).h (mP i).n)) ∧ Fr (fun _ => False) w w' := by
  have HMT := Lib.hid (fun W => markText_any i h W)
  show Calls Tryz.prog 25 #[.int .i64 1, .int .i64 i] w fun e w' => e = .returned (.agg (pathC (List.replicate 20 0) (mT i))) ∧ Fr (fun _ => False) w w'
  obtain ⟨S, hS⟩ : ∃ S, S = mT i := ⟨_, rfl⟩
  rw [← hS] at HMT ⊢
  obtain ⟨C, hC⟩ : ∃ C, C = pathC (List.replicate 20 0) S := ⟨_, rfl⟩
  have hb := mpath_built S
  rw [← hC] at hb ⊢
  have hcs : C.size = 21 := by rw [hC]; exact pathC_size (List.replicate 20 0) rfl S
  have hiC : (Tryz.prog.info? 27).map (·.size) = some C.size := by rw [hcs]; kernel_rfl
  have hsC : (#[.int .u8 0, .int .u8 0, .int .u8 0, .int .u8 0, .int .u8 0, .int .u8 0, .int .u8 0, .int .u8 0, .int .u8 0, .int .u8 0, .int .u8 0, .int .u8 0, .int .u8 0, .int .u8 0, .int .u8 0, .int .u8 0, .int .u8 0, .int .u8 0, .int .u8 0, .int .u8 0, .string ⟨#[]⟩] : Array Value).size = C.size := Eq.trans (b := 21) rfl hcs.symm
  have hoC : C.all (·.oneCell') = true := by rw [hC]; exact pathC_one _ _
  obtain ⟨W1, hW1⟩ : ∃ W, W = w.alloc (.cells #[.int .u8 0, .int .u8 0, .int .u8 0, .int .u8 0, .int .u8 0, .int .u8 0, .int .u8 0, .int .u8 0, .int .u8 0, .int .u8 0, .int .u8 0, .int .u8 0, .int .u8 0, .int .u8 0, .int .u8 0, .int .u8 0, .int .u8 0, .int .u8 0, .int .u8 0, .int .u8 0, .string ⟨#[]⟩] 27) := ⟨_, rfl⟩
  have hf1 : Fr (fun _ => False) w W1 := by rw [hW1]; exact (Fr.refl _ _).alloc _
  have hr1 : W1.heap[w.heap.size]? = some (.cells #[.int .u8 0, .int .u8 0, .int .u8 0, .int .u8 0, .int .u8 0, .int .u8 0, .int .u8 0, .int .u8 0, .int .u8 0, .int .u8 0, .int .u8 0, .int .u8 0, .int .u8 0, .int .u8 0, .int .u8 0, .int .u8 0, .int .u8 0, .int .u8 0, .int .u8 0, .int .u8 0, .string ⟨#[]⟩] 27 (0, 0)) := by rw [hW1]; exact heap_alloc_new w _
  have HW := Lib.hid hW1
  have HF1 := Lib.hid hf1
  clear hS hC hW1 hf1 h
  go_enter Tryz.func25, Tryz.ntmps25
  go_wp2_with (first
    | (go_at_call 38; rw [← HW.out]; refine (HMT.out W1).mono ?_; rintro e w2 ⟨rfl, hf2⟩; (have hr2 := hf2.heap hr1 (fun h => h)); (have HF2 := Lib.hid (HF1.out.trans hf2 (fun _ h => h.elim))); clear hf2)
    | (refine wpList_value rfl (.agg C) w2 (op_build rfl (vs := #[(1, .string S)]) (by simp only [List.map_toArray, List.map_cons, List.map_nil]; rfl) hb) ?_)
    | (with_reducible refine wpList_store_row rfl 27 (.tmp 4) (.tmp 8) rfl w.heap.size C _ 27 rfl rfl hr2 hiC hsC hoC ?_))
  refine bodyPost_ret (results_cell_row rfl _ _ w.heap.size 27 C (0, 0) _ rfl (setRow_heap _ _ _ _ _ _ hr2) Tryz.underlying27 rfl hiC) rfl ⟨rfl, HF2.out.setRow (.inr (Nat.le_refl _)) _⟩
end Go.Proofs.YtfkgdjoaoidkeaaGreat
namespace Go.Proofs.YtfkgdjoaoidkeaaGreat
open Go.RowKit Go.ChangeShapes
set_option linter.unusedVariables false
def SpR (b off n cap kx b2 off2 cap2 : Nat) (CX : Array Value) (i : Nat) (v : Value) (W : World) : Prop :=
  match i with
  | 0 => v = .slice (some ⟨b, off, none⟩) n cap
  | 1 => v = .int .i64 (kx : Nat)
  | 2 => v = .pointer (some ⟨b, off + kx * 21, none⟩)
  | 3 => v = .agg CX
  | 4 => v = .slice (some ⟨b2, off2, none⟩) n cap2
  | 5 => v = .int .i64 (kx : Nat)
  | 6 => v = .pointer (some ⟨b2, off2 + kx * 21, none⟩)
  | 7 => v = .agg CX
  | 8 => v = .bool false
  | _ => True
theorem SpR.ext (b off n cap kx b2 off2 cap2 : Nat) (CX : Array Value) : ∀ (j : Nat) (u : Value) (W W' : World), Fr (fun _ => False) W W' → SpR b off n cap kx b2 off2 cap2 CX j u W → SpR b off n cap kx b2 off2 cap2 CX j u W'
  | 0, u, W, W', hf, h => h
  | 1, u, W, W', hf, h => h
  | 2, u, W, W', hf, h => h
  | 3, u, W, W', hf, h => h
  | 4, u, W, W', hf, h => h
  | 5, u, W, W', hf, h => h
  | 6, u, W, W', hf, h => h
  | 7, u, W, W', hf, h => h
  | 8, u, W, W', hf, h => h
  | _ + 9, u, W, W', hf, h => trivial
set_option maxRecDepth 100000 in
set_option maxHeartbeats 4000000 in
theorem samePaths_any {F G : Nat → Prop} (w : World) (u v : Value) (L : List PathX) (hu : PathsIn F w u L) (hv : PathsIn G w v L) (hlen : L.length ≤ 1000000) :
    Calls Tryz.prog 15 #[u, v] w fun e w' => e = .returned (.bool true) ∧ Fr (fun _ => False) w w' := by
  obtain ⟨ao, cap, rfl, hlc, hcm, hn0, hrow⟩ := hu
  obtain ⟨ao2, cap2, rfl, hlc2, hcm2, hn02, hrow2⟩ := hv
  have HROW := Lib.hid (And.intro hrow hrow2)
  unfold maxLen at hcm hcm2
  clear hn0 hn02 hrow hrow2
  obtain ⟨n, hn⟩ : ∃ n, n = L.length := ⟨_, rfl⟩
  rw [← hn] at hlc hlc2 hlen ⊢
  have HN := Lib.hid hn
  clear hn
  go_enter Tryz.func15, Tryz.ntmps15
  go_wp2_with fail
  go_loopw [5] (fun iv wr => ∃ kx : Nat, kx ≤ n ∧ iv = .int .i64 kx ∧ Hid (Fr (fun _ => False) w wr)) (fun iv _ => n - (intOf iv).toNat)
  case atStart => exact ⟨0, by omega, rfl, Lib.hid (Fr.refl _ _)⟩
  case round =>
    obtain ⟨kx, hkx, rfl, HF⟩ := hrel
    by_cases hlt : kx < n
    · have hil : kx < L.length := by rw [← HN.out]; exact hlt
      obtain ⟨y, hy⟩ : ∃ y, y = L[kx] := ⟨_, rfl⟩
      obtain ⟨b, off, rfl, _, hrg⟩ := HROW.out.1 (by rintro rfl; simp at hil)
      obtain ⟨b2, off2, rfl, _, hrg2⟩ := HROW.out.2 (by rintro rfl; simp at hil)
      have hry := HF.out.range (hrg kx hil) (fun h => h)
      have hry2 := HF.out.range (hrg2 kx hil) (fun h => h)
      rw [← hy] at hry hry2
      obtain ⟨CX, hCX⟩ : ∃ C, C = pathC y.h y.n := ⟨_, rfl⟩
      have LDX := Lib.hid (fun W (hW : Fr (fun _ => False) wr W) => show (Instr.loadAt 27 (.pointer (some ⟨b, off + kx * 21, none⟩))).run Tryz.prog W = .ok (.agg CX) W by rw [hCX]; exact load_mid_path W b (off + kx * 21) y (hW.range hry (fun h => h)))
      have LDY := Lib.hid (fun W (hW : Fr (fun _ => False) wr W) => show (Instr.loadAt 27 (.pointer (some ⟨b2, off2 + kx * 21, none⟩))).run Tryz.prog W = .ok (.agg CX) W by rw [hCX]; exact load_mid_path W b2 (off2 + kx * 21) y (hW.range hry2 (fun h => h)))
      have HEQ := Lib.hid (fun (W : World) => show (binOp .neq 27 (.agg CX) (.agg CX)).run Tryz.prog W = .ok (.bool false) W by
        rw [hCX, run_neq_path W y.h y.n y.h y.n y.hl y.hl, sameP_refl]
        rfl)
      have HIN := Lib.hid hlt
      have hlt64 : (kx : Int) < (n : Int) := by omega
      clear hy hrg hrg2 hry hry2 hCX
      go_wp2_with fail
      refine wp_region_inv 9 (by kernel_rfl) (by kernel_rfl) (fun W => Fr (fun _ => False) wr W) (SpR b off n cap kx b2 off2 cap2 CX) (fun _ _ _ _ => True) (Fr (fun _ => False)) (SpR.ext b off n cap kx b2 off2 cap2 CX) (Fr.refl _ _).drew ?_ ?_
      · intro i hi o ho
        replace hi : i < 9 := hi
        obtain rfl | rfl | rfl | rfl | rfl | rfl | rfl | rfl | rfl : i = 0 ∨ i = 1 ∨ i = 2 ∨ i = 3 ∨ i = 4 ∨ i = 5 ∨ i = 6 ∨ i = 7 ∨ i = 8 := by omega
        · simp only [List.getElem?_cons_zero, Option.some.injEq] at ho
          subst ho
          intro a W vs hB hS hE hU
          refine wpG_plain rfl ?_
          have v0 : a.eval (.tmp 0) = .slice (some ⟨b, off, none⟩) n cap := (hU 0 (by kernel_rfl)).trans rfl
          clear hE hU
          exact wp_value_inv (w' := W) (.slice (some ⟨b, off, none⟩) n cap) (op_move rfl v0) ⟨_, rfl, hB, Fr.refl _ _, rfl, fun _ _ _ _ _ => trivial⟩
        · simp only [List.getElem?_cons_zero, List.getElem?_cons_succ, Option.some.injEq] at ho
          subst ho
          intro a W vs hB hS hE hU
          refine wpG_plain rfl ?_
          have v5 : a.eval (.tmp 5) = .int .i64 (kx : Nat) := (hU 5 (by kernel_rfl)).trans rfl
          clear hE hU
          exact wp_value_inv (w' := W) (.int .i64 (kx : Nat)) (op_move rfl v5) ⟨_, rfl, hB, Fr.refl _ _, rfl, fun _ _ _ _ _ => trivial⟩
        · simp only [List.getElem?_cons_zero, List.getElem?_cons_succ, Option.some.injEq] at ho
          subst ho
          intro a W vs hB hS hE hU
          refine wpG_plain rfl ?_
          obtain ⟨r0, e17⟩ := hE 0 17 (by kernel_rfl) (by kernel_rfl)
          have v17 : a.eval (.tmp 17) = .slice (some ⟨b, off, none⟩) n cap := e17.trans r0
          obtain ⟨r1, e18⟩ := hE 1 18 (by kernel_rfl) (by kernel_rfl)
          have v18 : a.eval (.tmp 18) = .int .i64 (kx : Nat) := e18.trans r1
          clear hE hU
          exact wp_value_inv (w' := W) (.pointer (some ⟨b, off + kx * 21, none⟩)) (op_indexAddr rfl v17 v18 (run_index_paths W b off n cap kx HIN.out)) ⟨_, rfl, hB, Fr.refl _ _, rfl, fun _ _ _ _ _ => trivial⟩
        · simp only [List.getElem?_cons_zero, List.getElem?_cons_succ, Option.some.injEq] at ho
          subst ho
          intro a W vs hB hS hE hU
          refine wpG_plain rfl ?_
          obtain ⟨r2, e19⟩ := hE 2 19 (by kernel_rfl) (by kernel_rfl)
          have v19 : a.eval (.tmp 19) = .pointer (some ⟨b, off + kx * 21, none⟩) := e19.trans r2
          clear hE hU
          exact wp_value_inv (w' := W) (.agg CX) (op_loadAt rfl v19 (LDX.out W hB)) ⟨_, rfl, hB, Fr.refl _ _, rfl, fun _ _ _ _ _ => trivial⟩
        · simp only [List.getElem?_cons_zero, List.getElem?_cons_succ, Option.some.injEq] at ho
          subst ho
          intro a W vs hB hS hE hU
          refine wpG_plain rfl ?_
          have v1 : a.eval (.tmp 1) = .slice (some ⟨b2, off2, none⟩) n cap2 := (hU 1 (by kernel_rfl)).trans rfl
          clear hE hU
          exact wp_value_inv (w' := W) (.slice (some ⟨b2, off2, none⟩) n cap2) (op_move rfl v1) ⟨_, rfl, hB, Fr.refl _ _, rfl, fun _ _ _ _ _ => trivial⟩
        · simp only [List.getElem?_cons_zero, List.getElem?_cons_succ, Option.some.injEq] at ho
          subst ho
          intro a W vs hB hS hE hU
          refine wpG_plain rfl ?_
          have v5 : a.eval (.tmp 5) = .int .i64 (kx : Nat) := (hU 5 (by kernel_rfl)).trans rfl
          clear hE hU
          exact wp_value_inv (w' := W) (.int .i64 (kx : Nat)) (op_move rfl v5) ⟨_, rfl, hB, Fr.refl _ _, rfl, fun _ _ _ _ _ => trivial⟩
        · simp only [List.getElem?_cons_zero, List.getElem?_cons_succ, Option.some.injEq] at ho
          subst ho
          intro a W vs hB hS hE hU
          refine wpG_plain rfl ?_
          obtain ⟨r4, e21⟩ := hE 4 21 (by kernel_rfl) (by kernel_rfl)
          have v21 : a.eval (.tmp 21) = .slice (some ⟨b2, off2, none⟩) n cap2 := e21.trans r4
          obtain ⟨r5, e22⟩ := hE 5 22 (by kernel_rfl) (by kernel_rfl)
          have v22 : a.eval (.tmp 22) = .int .i64 (kx : Nat) := e22.trans r5
          clear hE hU
          exact wp_value_inv (w' := W) (.pointer (some ⟨b2, off2 + kx * 21, none⟩)) (op_indexAddr rfl v21 v22 (run_index_paths W b2 off2 n cap2 kx HIN.out)) ⟨_, rfl, hB, Fr.refl _ _, rfl, fun _ _ _ _ _ => trivial⟩
        · simp only [List.getElem?_cons_zero, List.getElem?_cons_succ, Option.some.injEq] at ho
          subst ho
          intro a W vs hB hS hE hU
          refine wpG_plain rfl ?_
          obtain ⟨r6, e23⟩ := hE 6 23 (by kernel_rfl) (by kernel_rfl)
          have v23 : a.eval (.tmp 23) = .pointer (some ⟨b2, off2 + kx * 21, none⟩) := e23.trans r6
          clear hE hU
          exact wp_value_inv (w' := W) (.agg CX) (op_loadAt rfl v23 (LDY.out W hB)) ⟨_, rfl, hB, Fr.refl _ _, rfl, fun _ _ _ _ _ => trivial⟩
        · simp only [List.getElem?_cons_zero, List.getElem?_cons_succ, Option.some.injEq] at ho
          subst ho
          intro a W vs hB hS hE hU
          refine wpG_plain rfl ?_
          obtain ⟨r3, e20⟩ := hE 3 20 (by kernel_rfl) (by kernel_rfl)
          have v20 : a.eval (.tmp 20) = .agg CX := e20.trans r3
          obtain ⟨r7, e24⟩ := hE 7 24 (by kernel_rfl) (by kernel_rfl)
          have v24 : a.eval (.tmp 24) = .agg CX := e24.trans r7
          clear hE hU
          exact wp_value_inv (w' := W) (.bool false) (op_bin rfl v20 v24 (guard_path W _ _ _ _ _) (HEQ.out W)) ⟨_, rfl, hB, Fr.refl _ _, rfl, fun _ _ _ _ _ => trivial⟩
      · intro vs Wa hB0 hR0 hD
        have r25 : vs 8 = .bool false := hR0 8 (by decide)
        have HB := Lib.hid hB0
        clear hR0 hD hB0
        simp only [acts, if_true, dstAt, List.getElem?_cons_zero, List.getElem?_cons_succ, Option.bind_some, Act.put, List.setIfInBounds_toArray, List.set_cons_succ, List.set_cons_zero, List.drop_succ_cons, List.drop_nil]
        simp only [r25]
        clear r25
        go_wp2_with fail
        go_roundw
        case rel => exact ⟨kx + 1, by omega, by go_num, Lib.hid (HF.out.trans HB.out (fun _ h => h.elim))⟩
        case measure => simp [intOf]; omega
    · obtain rfl : n = kx := by omega
      have hlt64 : ¬ (n : Int) < (n : Int) := by omega
      go_wp2_with fail
      go_ret
      exact ⟨rfl, HF.out⟩
end Go.Proofs.YtfkgdjoaoidkeaaGreat
namespace Go.Proofs.YtfkgdjoaoidkeaaGreat
open Go.RowKit Go.ChangeShapes
set_option linter.unusedVariables false
theorem mark_any (k i : Nat) (w : World) (hk : k ≤ 1000000000) (hi : i ≤ 1000000000000000) :
    Calls Tryz.prog 37 #[.int .i64 k, .int .i64 i] w fun e w' => e = .returned (.int .i64 (1000003 * ((k : Int) + 7) + i)) ∧ w = w' := by
  go_enter Tryz.func37, Tryz.ntmps37
  go_wp2
  go_ret
  exact ⟨rfl, rfl⟩
def mB (k i : Nat) : UInt8 := UInt8.ofNat (IntKind.u64.wrap ((1000003 * ((k : Int) + 7) + i) * 11400714819323198485) / 72057594037927936 % 256).toNat
theorem mB_val (k i : Nat) : IntKind.u64.wrap ((1000003 * ((k : Int) + 7) + i) * 11400714819323198485) / 72057594037927936 % 256 = (mB k i).toNat := by
  unfold mB
  generalize IntKind.u64.wrap ((1000003 * ((k : Int) + 7) + i) * 11400714819323198485) / 72057594037927936 = z
  rw [UInt8.toNat_ofNat']
  omega
theorem markByte_any (k i : Nat) (w : World) (hk : k ≤ 1000000000) (hi : i ≤ 1000000000000000) :
    Calls Tryz.prog 24 #[.int .i64 k, .int .i64 i] w fun e w' => e = .returned (bv (mB k i)) ∧ w = w' := by
  have HV := Lib.hid (mB_val k i)
  obtain ⟨m, hm⟩ : ∃ m : Int, m = 1000003 * ((k : Int) + 7) + i := ⟨_, rfl⟩
  have h0 : 0 ≤ m := by omega
  have h1 : m ≤ 2000000000000000000 := by omega
  have HM := mark_any k i w hk hi
  rw [← hm] at HM HV
  have HM' := Lib.hid HM
  clear hm HM
  go_enter Tryz.func24, Tryz.ntmps24
  go_wp2_with (go_at_call 37; refine HM'.out.mono ?_; rintro e w' ⟨rfl, rfl⟩)
  go_ret
  exact ⟨ret_int HV.out, rfl⟩
end Go.Proofs.YtfkgdjoaoidkeaaGreat
