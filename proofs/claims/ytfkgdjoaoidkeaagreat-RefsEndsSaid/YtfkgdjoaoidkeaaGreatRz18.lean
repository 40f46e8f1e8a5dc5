/- Laid together: RfTe -/
import Derived.Test.YtfkgdjoaoidkeaaGreatRz12
import Derived.Test.YtfkgdjoaoidkeaaGreatRz14
import Derived.Test.YtfkgdjoaoidkeaaGreatRz17
import Derived.Test.YtfkgdjoaoidkeaaGreatRz5

namespace Go.Proofs.YtfkgdjoaoidkeaaGreat
open Go.RowKit Go.ChangeShapes
set_option linter.unusedVariables false
theorem tlent_spence_refs_Rewrite (args : Array Value) (w : World) : (callFunc 10 args).run Tryz.prog w = .ok (.enter 10 args) w := by kernel_rfl
theorem tlent_spence_refs_Places (args : Array Value) (w : World) : (callFunc 13 args).run Tryz.prog w = .ok (.enter 13 args) w := by kernel_rfl
theorem tlent_spence_spenceref10_Places (args : Array Value) (w : World) : (callFunc 14 args).run Tryz.prog w = .ok (.enter 14 args) w := by kernel_rfl
theorem tlent_spence_spencekit_SameInts (args : Array Value) (w : World) : (callFunc 12 args).run Tryz.prog w = .ok (.enter 12 args) w := by kernel_rfl
theorem tlent_spence_spenceref10_Found (args : Array Value) (w : World) : (callFunc 16 args).run Tryz.prog w = .ok (.enter 16 args) w := by kernel_rfl
theorem tlent_spence_spencekit_SamePaths (args : Array Value) (w : World) : (callFunc 15 args).run Tryz.prog w = .ok (.enter 15 args) w := by kernel_rfl
theorem tlent_spence_spenceref10_Rewrite (args : Array Value) (w : World) : (callFunc 18 args).run Tryz.prog w = .ok (.enter 18 args) w := by kernel_rfl
theorem tlent_spence_spencekit_SameBytes (args : Array Value) (w : World) : (callFunc 17 args).run Tryz.prog w = .ok (.enter 17 args) w := by kernel_rfl
def TlA (g2 n c2 b5 b6 z0 : Nat) (C D : Array Value) (X1 : List UInt8) (i : Nat) (v : Value) (W : World) : Prop :=
  match i with
  | 0 => v = .slice (some ⟨g2, 0, none⟩) n c2
  | 1 => v = .agg C
  | 2 => v = .agg D
  | 3 => ∃ x, v = x ∧ OwnB (fun k => z0 ≤ k) W x X1
  | 4 => v = .slice (some ⟨g2, 0, none⟩) n c2
  | 5 => v = .agg C
  | 6 => v = .agg D
  | _ => True
theorem TlA.ext (g2 n c2 b5 b6 z0 : Nat) (C D : Array Value) (X1 : List UInt8) : ∀ (j : Nat) (u : Value) (W W' : World), Fr (fun _ => False) W W' → TlA g2 n c2 b5 b6 z0 C D X1 j u W → TlA g2 n c2 b5 b6 z0 C D X1 j u W'
  | 0, u, W, W', hf, h => h
  | 1, u, W, W', hf, h => h
  | 2, u, W, W', hf, h => h
  | 3, u, W, W', hf, h => (let ⟨x, h1, h2⟩ := h; ⟨x, h1, h2.keep hf (fun _ _ _ h => h)⟩)
  | 4, u, W, W', hf, h => h
  | 5, u, W, W', hf, h => h
  | 6, u, W, W', hf, h => h
  | _ + 7, u, W, W', hf, h => trivial
def TlB (g2 n c2 b5 b6 cap m cu ca cx : Nat) (ao au aa ax : Option Addr) (vf vat vpl vy : Value) (C D : Array Value) (X1 : List UInt8) (PL : List Nat) (M : List PathX) (i : Nat) (v : Value) (W : World) : Prop :=
  match i with
  | 0 => v = .slice (some ⟨g2, 0, none⟩) n c2
  | 1 => v = .agg C
  | 2 => ∃ x, v = x ∧ IntsR (fun _ => True) W x PL
  | 3 => v = .slice ao n cap
  | 4 => v = .agg C
  | 5 => ∃ x, v = x ∧ IntsR (fun _ => True) W x PL
  | 6 => v = .bool true
  | 7 => v = .bool true
  | 8 => v = vf
  | 9 => v = .slice ao n cap
  | 10 => v = .slice au m cu
  | 11 => ∃ x, v = x ∧ PathsIn (fun _ => True) W x M
  | 12 => v = .bool true
  | 13 => v = .bool true
  | 14 => v = .bool true
  | 15 => v = .slice aa n ca
  | 16 => v = .slice ao n cap
  | 17 => v = .agg C
  | 18 => v = .agg D
  | 19 => ∃ x, v = x ∧ BytesIn (fun _ => True) W x X1
  | 20 => v = .bool true
  | 21 => v = .bool true
  | 22 => v = .bool true
  | 23 => v = .slice ax n cx
  | 24 => v = vy
  | 25 => v = .bool true
  | 26 => v = .bool true
  | 27 => v = .bool true
  | 28 => v = vat
  | 29 => v = vpl
  | 30 => v = .bool true
  | 31 => v = .bool true
  | _ => True
theorem TlB.ext (g2 n c2 b5 b6 cap m cu ca cx : Nat) (ao au aa ax : Option Addr) (vf vat vpl vy : Value) (C D : Array Value) (X1 : List UInt8) (PL : List Nat) (M : List PathX) : ∀ (j : Nat) (u : Value) (W W' : World), Fr (fun _ => False) W W' → TlB g2 n c2 b5 b6 cap m cu ca cx ao au aa ax vf vat vpl vy C D X1 PL M j u W → TlB g2 n c2 b5 b6 cap m cu ca cx ao au aa ax vf vat vpl vy C D X1 PL M j u W'
  | 0, u, W, W', hf, h => h
  | 1, u, W, W', hf, h => h
  | 2, u, W, W', hf, h => (let ⟨x, h1, h2⟩ := h; ⟨x, h1, h2.keep hf (fun _ _ _ h => h)⟩)
  | 3, u, W, W', hf, h => h
  | 4, u, W, W', hf, h => h
  | 5, u, W, W', hf, h => (let ⟨x, h1, h2⟩ := h; ⟨x, h1, h2.keep hf (fun _ _ _ h => h)⟩)
  | 6, u, W, W', hf, h => h
  | 7, u, W, W', hf, h => h
  | 8, u, W, W', hf, h => h
  | 9, u, W, W', hf, h => h
  | 10, u, W, W', hf, h => h
  | 11, u, W, W', hf, h => (let ⟨x, h1, h2⟩ := h; ⟨x, h1, h2.keep hf (fun _ _ _ h => h)⟩)
  | 12, u, W, W', hf, h => h
  | 13, u, W, W', hf, h => h
  | 14, u, W, W', hf, h => h
  | 15, u, W, W', hf, h => h
  | 16, u, W, W', hf, h => h
  | 17, u, W, W', hf, h => h
  | 18, u, W, W', hf, h => h
  | 19, u, W, W', hf, h => (let ⟨x, h1, h2⟩ := h; ⟨x, h1, h2.keep hf (fun _ _ _ h => h)⟩)
  | 20, u, W, W', hf, h => h
  | 21, u, W, W', hf, h => h
  | 22, u, W, W', hf, h => h
  | 23, u, W, W', hf, h => h
  | 24, u, W, W', hf, h => h
  | 25, u, W, W', hf, h => h
  | 26, u, W, W', hf, h => h
  | 27, u, W, W', hf, h => h
  | 28, u, W, W', hf, h => h
  | 29, u, W, W', hf, h => h
  | 30, u, W, W', hf, h => h
  | 31, u, W, W', hf, h => h
  | _ + 32, u, W, W', hf, h => trivial
set_option maxRecDepth 100000 in
set_option maxHeartbeats 40000000 in
theorem refsTell_any {F : Nat → Prop} (w : World) (vb vu : Value) (b H K : List UInt8) (L : List PathX) (hH : H.length = 20) (hK : K.length = 20) (hvb : BytesIn F w vb b) (hF : ∀ k, F k → k < w.heap.size) (hu : PathsIn F w vu L)
    (hlb : b.length ≤ 140737488351232) (hlL : L.length ≤ 140737488351232) (hN : ∀ x ∈ L, x.n.size ≤ 140737488351232) (hml : MlAt w) :
    Calls Tryz.prog 3 #[vb, .agg (H.map bv).toArray, .agg (K.map bv).toArray, vu] w fun e w' => e = .returned (.bool true) ∧ Fr (fun _ => False) w w' := by
  obtain ⟨ao, n, cap, rfl, hnb⟩ : ∃ ao n cap, vb = .slice ao n cap ∧ n = b.length := by obtain ⟨ao, cap, h, _⟩ := hvb; exact ⟨_, _, _, h, rfl⟩
  have HU := Lib.hid hu
  obtain ⟨au, cu, rfl, hlc, hcm, hn0, hrow⟩ := hu
  have HROW := Lib.hid hrow
  unfold maxLen at hcm
  obtain ⟨m, hm⟩ : ∃ m, m = L.length := ⟨_, rfl⟩
  rw [← hm] at hlc hlL HU ⊢
  rw [← hnb] at hlb
  obtain ⟨C, hC⟩ : ∃ C, C = (H.map bv).toArray := ⟨_, rfl⟩
  have hcs : C.size = 20 := by rw [hC]; simp [hH]
  obtain ⟨D, hD⟩ : ∃ D, D = (K.map bv).toArray := ⟨_, rfl⟩
  have hds : D.size = 20 := by rw [hD]; simp [hK]
  rw [← hC, ← hD]
  obtain ⟨b5, hb5⟩ : ∃ b5, b5 = w.heap.size := ⟨_, rfl⟩
  obtain ⟨b6, hb6⟩ : ∃ b6, b6 = w.heap.size + 1 := ⟨_, rfl⟩
  obtain ⟨W1, hW1⟩ : ∃ W1, W1 = (w.alloc (.cells C 24)).alloc (.cells D 24) := ⟨_, rfl⟩
  have hf1 : Fr (fun _ => False) w W1 := by rw [hW1]; exact ((Fr.refl _ _).alloc _).alloc _
  have hr5 : W1.heap[b5]? = some (.cells C 24 (0, 0)) := by rw [hW1, hb5]; exact heap_alloc2_old w _ _
  have hr6 : W1.heap[b6]? = some (.cells D 24 (0, 0)) := by rw [hW1, hb6]; exact heap_alloc2_new w _ _
  have hsz1 := hf1.size
  have HX := Lib.hid (show Fr (fun _ => False) w W1 ∧ W1.heap[b5]? = some (.cells C 24 (0, 0)) ∧ W1.heap[b6]? = some (.cells D 24 (0, 0)) ∧ BytesIn F W1 (.slice ao n cap) b ∧ PathsIn F W1 (.slice au m cu) L ∧ MlAt W1 ∧ (∀ k, F k → k < w.heap.size) ∧ w.heap.size ≤ W1.heap.size from
    ⟨hf1, hr5, hr6, hvb.keep hf1 (fun _ _ _ h => h), HU.out.keep hf1 (fun _ _ _ h => h), hml.keep hf1 (fun h => h), hF, hsz1⟩)
  have HD := Lib.hid (show C = (H.map bv).toArray ∧ D = (K.map bv).toArray ∧ H.length = 20 ∧ K.length = 20 ∧ n = b.length ∧ m = L.length ∧ (∀ x ∈ L, x.n.size ≤ 140737488351232) from ⟨hC, hD, hH, hK, hnb, hm, hN⟩)
  have HAW := Lib.hid (fun W (h : MlAt W) => awake10_any W h)
  have hii : (Tryz.prog.info? 24).map (·.size) = some C.size := by rw [hcs]; kernel_rfl
  have hij : (Tryz.prog.info? 24).map (·.size) = some D.size := by rw [hds]; kernel_rfl
  have HSC := Lib.hid (And.intro hcs hds)
  have hlb6 : (n : Int) ≤ 140737488351232 := by omega
  clear hn0 hrow hvb hml hN hnb hm hC hD hH hK hcs hds hf1 hr5 hr6 hF hsz1 HU
  go_enter Tryz.func3, Tryz.ntmps3
  go_wp2_with fail
  rw [← hW1, ← hb6, ← hb5]
  clear hW1 hb6 hb5
  go_loopw [9, 10] (fun nv iv wr => ∃ ix t : Nat, ix ≤ m ∧ ix ≤ 40 ∧ iv = .int .i64 ix ∧ nv = .int .i64 t ∧ n ≤ t ∧ t ≤ n + ix * 140737488351232 ∧ wr = W1) (fun _ iv _ => m - (intOf iv).toNat)
  case atStart => exact ⟨0, n, by omega, by omega, rfl, rfl, Nat.le_refl _, by omega, rfl⟩
  case round =>
    obtain ⟨ix, t, hix, hix40, rfl, rfl, ht0, ht1, rfl⟩ := hrel
    by_cases hlt : ix < m ∧ ix < 40
    · obtain ⟨hlt, hlt40⟩ := hlt
      have hil : ix < L.length := by rw [← HD.out.2.2.2.2.2.1]; exact hlt
      obtain ⟨x, hx⟩ : ∃ x, x = L[ix] := ⟨_, rfl⟩
      have hxn : x.n.size ≤ 140737488351232 := HD.out.2.2.2.2.2.2 x (by rw [hx]; exact List.getElem_mem _)
      obtain ⟨bp, off, rfl, hbG, hrg⟩ := HROW.out (by rintro rfl; simp at hil)
      have hr : wr.rangeAt bp (off + ix * 21) (cellsX L[ix]) := HX.out.1.range (hrg ix hil) (fun h => h)
      rw [← hx] at hr
      have hs : wr.cell? ⟨bp, off + ix * 21 + 20, none⟩ = some (.string x.n) := hr 20 _ (by
        rw [cellsX, List.getElem?_append_right (by rw [List.length_map, x.hl]; exact Nat.le_refl _), List.length_map, x.hl]
        rfl)
      have hlt64 : (ix : Int) < (m : Int) := by omega
      have hl40 : (ix : Int) < 40 := by omega
      have htt : t ≤ 140737488351232 + 40 * 140737488351232 := by have : ix * 140737488351232 ≤ 40 * 140737488351232 := Nat.mul_le_mul_right _ hix40; omega
      obtain ⟨t2, ht2⟩ : ∃ t2, t2 = t + x.n.size := ⟨_, rfl⟩
      have htI : (t : Int) + (x.n.size : Int) = (t2 : Nat) := by omega
      have ht26 : (t2 : Int) ≤ 9007199254740992 := by omega
      have HT2 := Lib.hid (show n ≤ t2 ∧ t2 ≤ n + (ix + 1) * 140737488351232 by rw [Nat.add_mul]; omega)
      clear hx hrg hbG hr ht2 ht0 ht1 htt
      go_wp2_with fail
      go_roundw
      case rel => exact ⟨ix + 1, t2, by omega, by omega, by go_num, rfl, HT2.out.1, HT2.out.2, trivial⟩
      case measure => simp [intOf]; omega
    · by_cases hA : ix < m
      · have hlt64 : (ix : Int) < (m : Int) := by omega
        have h40 : ¬ (ix : Int) < 40 := by omega
        have hm40 : (40 : Int) < (m : Int) := by omega
        clear hlt ht0 ht1
        by_cases hb : 3000 < t
        · have hbI : (3000 : Int) < (t : Int) := by omega
          go_wp2_with (go_at_call 5; refine (HAW.out _ HX.out.2.2.2.2.2.1).mono ?_; rintro e w9 ⟨rfl, hf9⟩)
          go_ret
          exact ⟨rfl, HX.out.1.trans hf9 (fun _ h => h.elim)⟩
        · have hbI : ¬ (3000 : Int) < (t : Int) := by omega
          go_wp2_with (go_at_call 5; refine (HAW.out _ HX.out.2.2.2.2.2.1).mono ?_; rintro e w9 ⟨rfl, hf9⟩)
          go_ret
          exact ⟨rfl, HX.out.1.trans hf9 (fun _ h => h.elim)⟩
      · have hlt64 : ¬ (ix : Int) < (m : Int) := by omega
        have hm40 : ¬ (40 : Int) < (m : Int) := by omega
        by_cases hb : 3000 < t
        · have hbI : (3000 : Int) < (t : Int) := by omega
          clear hlt ht0 ht1
          go_wp2_with (go_at_call 5; refine (HAW.out _ HX.out.2.2.2.2.2.1).mono ?_; rintro e w9 ⟨rfl, hf9⟩)
          go_ret
          exact ⟨rfl, HX.out.1.trans hf9 (fun _ h => h.elim)⟩
        · have hbI : ¬ (3000 : Int) < (t : Int) := by omega
          have HM4 := Lib.hid (show m ≤ 40 ∧ n ≤ 3000 ∧ L.length ≤ 40 ∧ b.length ≤ 3000 by
            have := HD.out.2.2.2.2.1
            have := HD.out.2.2.2.2.2.1
            omega)
          generalize hw1 : wr = W1 at *
          clear hw1 hlt ht0 ht1 hix hix40 hA hb hlb hlL hlb6 HROW
          have hroom := fun p hp => placesR_room (b := b) (letL_length H) (p := p) hp
          have hpn := placesR_length b (letL H)
          obtain ⟨PL, hPL⟩ : ∃ L, L = placesR b (letL H) := ⟨_, rfl⟩
          rw [← hPL] at hroom hpn
          obtain ⟨X0, hX0⟩ : ∃ X, X = withR (List.replicate 32 0) b PL := ⟨_, rfl⟩
          obtain ⟨X1, hX1⟩ : ∃ X, X = withR (letL K) b PL := ⟨_, rfl⟩
          have hl0 : X0.length = n := by rw [hX0, withR_length (by simp) PL b hroom, ← HD.out.2.2.2.2.1]
          have hl1 : X1.length = n := by rw [hX1, withR_length (letL_length K) PL b hroom, ← HD.out.2.2.2.2.1]
          have HP := Lib.hid (show PL = placesR b (letL H) ∧ X0 = withR (List.replicate 32 0) b PL ∧ X1 = withR (letL K) b PL ∧ X0.length = n ∧ X1.length = n ∧ PL.length ≤ 3000 from ⟨hPL, hX0, hX1, hl0, hl1, by have := HM4.out.2.2.2; omega⟩)
          clear hroom hpn hPL hX0 hX1 hl0 hl1
          have HLB := Lib.hid (LentBytes_any _ b W1 HX.out.2.2.2.1 (by have := HM4.out.2.2.2; omega))
          rw [← HD.out.2.2.2.2.1] at HLB
          obtain ⟨hr5, hr6⟩ : W1.heap[b5]? = some (.cells C 24 (0, 0)) ∧ W1.heap[b6]? = some (.cells D 24 (0, 0)) := ⟨HX.out.2.1, HX.out.2.2.1⟩
          go_wp2_with (first
            | (go_at_call 6; refine HLB.out.mono ?_; rintro e w2 ⟨g2, c2, rfl, hl2, hf2⟩; (have H2 := Lib.hid (And.intro hf2 hl2)); clear hl2 hf2)
            | (go_at_call 7; (have hc := LentPaths_any (G := F) (.slice au m cu) L w2 (HX.out.2.2.2.2.1.keep H2.out.1 (fun _ _ _ h => h)) (by have := HM4.out.2.2.1; omega)); rw [← HD.out.2.2.2.2.2.1] at hc; (with_reducible refine hc.mono ?_); clear hc; rintro e w3 ⟨g3, c3, rfl, hl3, hf3⟩; (replace hr5 := hf3.heap (H2.out.1.heap hr5 (fun h => h)) (fun h => h)); (replace hr6 := hf3.heap (H2.out.1.heap hr6 (fun h => h)) (fun h => h)); (have H3 := Lib.hid (And.intro hf3 hl3)); clear hl3 hf3)
            | (with_reducible refine wpList_load_row rfl 24 (.tmp 5) rfl b5 rfl 24 C (0, 0) _ hr5 Tryz.underlying24 rfl hii ?_)
            | (go_at_call 8; (have hc := fBlank_any (F := fun k => k < w3.heap.size) w3 (.slice (some ⟨g2, 0, none⟩) b.length c2) b H HD.out.2.2.1 (((lent_own H2.out.2).bytes.keep H3.out.1 (fun _ _ _ h => h)).mono (G := fun k => k < w3.heap.size) (fun k hk _ => hk)) (fun _ h => h) (by have := HM4.out.2.2.2; omega) ((HX.out.2.2.2.2.2.1.keep H2.out.1 (fun h => h)).keep H3.out.1 (fun h => h))); rw [← HD.out.1, ← HP.out.1, ← HP.out.2.1, ← HD.out.2.2.2.2.1] at hc; (with_reducible refine hc.mono ?_); clear hc; rintro e w4 ⟨x4, vat, rfl, hox, hoat, hf4⟩; (obtain ⟨ax, cx, hx4⟩ := hox.len); rw [HP.out.2.2.2.1] at hx4; subst hx4; (replace hr5 := hf4.heap hr5 (fun h => h)); (replace hr6 := hf4.heap hr6 (fun h => h)); (have H4 := Lib.hid (And.intro hf4 (And.intro hox hoat))); clear hox hoat hf4)
            | (go_at_call 9; (have hc := rBlank_any (F := F) w4 (.slice ao n cap) b H HD.out.2.2.1 (((HX.out.2.2.2.1.keep H2.out.1 (fun _ _ _ h => h)).keep H3.out.1 (fun _ _ _ h => h)).keep H4.out.1 (fun _ _ _ h => h)) (by have := HM4.out.2.2.2; omega)); rw [← HD.out.1, ← HP.out.1, ← HP.out.2.1] at hc; (with_reducible refine hc.mono ?_); clear hc; rintro e w5 ⟨vy, vpl, rfl, hoy, hopl, hf5⟩; (replace hr5 := hf5.heap hr5 (fun h => h)); (replace hr6 := hf5.heap hr6 (fun h => h)); (have H5 := Lib.hid (And.intro hf5 (And.intro hoy hopl))); clear hoy hopl hf5))
          obtain ⟨z0, hz0⟩ : ∃ z0, z0 = w5.heap.size := ⟨_, rfl⟩
          have HSZ := Lib.hid (show w.heap.size ≤ W1.heap.size ∧ W1.heap.size ≤ w2.heap.size ∧ w2.heap.size ≤ w3.heap.size ∧ w3.heap.size ≤ w4.heap.size ∧ w4.heap.size ≤ w5.heap.size ∧ z0 = w5.heap.size from ⟨HX.out.2.2.2.2.2.2.2, H2.out.1.size, H3.out.1.size, H4.out.1.size, H5.out.1.size, hz0⟩)
          have HKP := Lib.hid (fun W (hW : Fr (fun _ => False) w5 W) => show W.heap[b5]? = some (.cells C 24 (0, 0)) ∧ W.heap[b6]? = some (.cells D 24 (0, 0)) ∧ BytesIn F W (.slice ao n cap) b ∧ PathsIn F W (.slice au m cu) L ∧ MlAt W ∧ LentAt (fun k => W1.heap.size ≤ k ∧ k < w2.heap.size) W g2 c2 b ∧ LentPAt (fun k => w2.heap.size ≤ k ∧ k < w3.heap.size) W g3 c3 L ∧ OwnB (fun k => w3.heap.size ≤ k ∧ k < w4.heap.size) W (.slice ax n cx) X0 ∧ IntsR (fun _ => True) W vat PL ∧ BytesIn (fun _ => True) W vy X0 ∧ IntsR (fun _ => True) W vpl PL ∧ w5.heap.size ≤ W.heap.size by
            have q4 := H5.out.1.trans hW (fun _ h => h.elim)
            have q3 := H4.out.1.trans q4 (fun _ h => h.elim)
            have q2 := H3.out.1.trans q3 (fun _ h => h.elim)
            have q1 := H2.out.1.trans q2 (fun _ h => h.elim)
            exact ⟨hW.heap hr5 (fun h => h), hW.heap hr6 (fun h => h), HX.out.2.2.2.1.keep q1 (fun _ _ _ h => h), HX.out.2.2.2.2.1.keep q1 (fun _ _ _ h => h), HX.out.2.2.2.2.2.1.keep q1 (fun h => h), (H2.out.2.mono (fun k hk h => ⟨h, hk⟩)).keep q2 (fun _ _ _ h => h), LentPAt.keep ⟨H3.out.2.1, H3.out.2.2.1, H3.out.2.2.2.mono (fun k hk h => ⟨h, hk⟩)⟩ q3 (fun _ _ _ h => h), (H4.out.2.1.mono (fun k hk h => ⟨h, hk⟩)).keep q4 (fun _ _ _ h => h), (H4.out.2.2.mono (fun _ _ _ => trivial)).keep q4 (fun _ _ _ h => h), (H5.out.2.1.bytes.mono (fun _ _ _ => trivial)).keep hW (fun _ _ _ h => h), (H5.out.2.2.mono (fun _ _ _ => trivial)).keep hW (fun _ _ _ h => h), hW.size⟩)
          have LD5 := Lib.hid (fun W (hW : Fr (fun _ => False) w5 W) => load_hash10 W b5 C (HKP.out W hW).1 HSC.out.1)
          have LD6 := Lib.hid (fun W (hW : Fr (fun _ => False) w5 W) => load_hash10 W b6 D (HKP.out W hW).2.1 HSC.out.2)
          have HRJ := Lib.hid (fun W (hW : Fr (fun _ => False) w5 W) => show Calls Tryz.prog 10 #[.slice (some ⟨g2, 0, none⟩) n c2, .agg C, .agg D] W fun e w' => ∃ y, e = .returned y ∧ OwnB (fun k => W.heap.size ≤ k) w' y X1 ∧ Fr (fun _ => False) W w' by
            obtain ⟨k5, k6, kb, ku, km, kin, kl, kx, kat, ky, kpl, ks⟩ := HKP.out W hW
            have hc := fRewrite_any (F := fun k => k < W.heap.size) W (.slice (some ⟨g2, 0, none⟩) b.length c2) b H K HD.out.2.2.1 HD.out.2.2.2.1 ((lent_own kin).bytes.mono (G := fun k => k < W.heap.size) (fun k hk _ => hk)) (fun _ h => h) (by have := HM4.out.2.2.2; omega) km
            rw [← HD.out.1, ← HD.out.2.1, ← HP.out.1, ← HP.out.2.2.1, ← HD.out.2.2.2.2.1] at hc
            exact hc)
          have HRW := Lib.hid (fun W (hW : Fr (fun _ => False) w5 W) => show Calls Tryz.prog 10 #[.slice (some ⟨g2, 0, none⟩) n c2, .agg C, .agg D] W fun e w' => ∃ y, e = .returned y ∧ OwnB (fun k => z0 ≤ k) w' y X1 ∧ Fr (fun _ => False) W w' from
            (HRJ.out W hW).mono fun e w' ⟨y, h1, h2, h3⟩ => ⟨y, h1, h2.mono (fun k _ h => by have := hW.size; omega), h3⟩)
          clear hr5 hr6 hz0 hii hij HLB
          refine wp_region_inv 7 (by kernel_rfl) (by kernel_rfl) (fun W => Fr (fun _ => False) w5 W) (TlA g2 n c2 b5 b6 z0 C D X1) (fun _ _ _ _ => True) (Fr (fun _ => False)) (TlA.ext g2 n c2 b5 b6 z0 C D X1) (Fr.refl _ _).drew ?_ ?_
          · intro i hi o ho
            replace hi : i < 7 := hi
            obtain rfl | rfl | rfl | rfl | rfl | rfl | rfl : i = 0 ∨ i = 1 ∨ i = 2 ∨ i = 3 ∨ i = 4 ∨ i = 5 ∨ i = 6 := by omega
            · simp only [List.getElem?_cons_zero, Option.some.injEq] at ho
              subst ho
              intro a W vs hB hS hE hU
              refine wpG_plain rfl ?_
              have v11 : a.eval (.tmp 11) = .slice (some ⟨g2, 0, none⟩) n c2 := (hU 11 (by kernel_rfl)).trans rfl
              clear hE hU
              exact wp_value_inv (w' := W) (.slice (some ⟨g2, 0, none⟩) n c2) (op_move rfl v11) ⟨_, rfl, hB, Fr.refl _ _, rfl, fun _ _ _ _ _ => trivial⟩
            · simp only [List.getElem?_cons_zero, List.getElem?_cons_succ, Option.some.injEq] at ho
              subst ho
              intro a W vs hB hS hE hU
              refine wpG_plain rfl ?_
              have v5 : a.eval (.tmp 5) = .pointer (some ⟨b5, 0, none⟩) := (hU 5 (by kernel_rfl)).trans rfl
              clear hE hU
              exact wp_value_inv (w' := W) (.agg C) (op_loadAt rfl v5 (LD5.out W hB)) ⟨_, rfl, hB, Fr.refl _ _, rfl, fun _ _ _ _ _ => trivial⟩
            · simp only [List.getElem?_cons_zero, List.getElem?_cons_succ, Option.some.injEq] at ho
              subst ho
              intro a W vs hB hS hE hU
              refine wpG_plain rfl ?_
              have v6 : a.eval (.tmp 6) = .pointer (some ⟨b6, 0, none⟩) := (hU 6 (by kernel_rfl)).trans rfl
              clear hE hU
              exact wp_value_inv (w' := W) (.agg D) (op_loadAt rfl v6 (LD6.out W hB)) ⟨_, rfl, hB, Fr.refl _ _, rfl, fun _ _ _ _ _ => trivial⟩
            · simp only [List.getElem?_cons_zero, List.getElem?_cons_succ, Option.some.injEq] at ho
              subst ho
              intro a W vs hB hS hE hU
              refine wpG_plain rfl ?_
              obtain ⟨r0, e65⟩ := hE 0 65 (by kernel_rfl) (by kernel_rfl)
              have v65 : a.eval (.tmp 65) = .slice (some ⟨g2, 0, none⟩) n c2 := e65.trans r0
              obtain ⟨r1, e66⟩ := hE 1 66 (by kernel_rfl) (by kernel_rfl)
              have v66 : a.eval (.tmp 66) = .agg C := e66.trans r1
              obtain ⟨r2, e67⟩ := hE 2 67 (by kernel_rfl) (by kernel_rfl)
              have v67 : a.eval (.tmp 67) = .agg D := e67.trans r2
              clear hE hU
              refine wp_call_inv 10 #[.tmp 65, .tmp 66, .tmp 67] #[22, 24, 24] rfl #[.slice (some ⟨g2, 0, none⟩) n c2, .agg C, .agg D] (by simp only [List.map_toArray, List.map_cons, List.map_nil, v65, v66, v67]) (tlent_spence_refs_Rewrite _) (Post := fun v W' => OwnB (fun k => z0 ≤ k) W' v X1 ∧ Fr (fun _ => False) W W') ((HRW.out W hB).mono fun e w' ⟨y, h1, h2, h3⟩ => ⟨_, h1, h2, h3⟩) ?_
              rintro v W' ⟨hv, hf⟩
              exact ⟨_, rfl, hB.trans hf (fun _ h => h.elim), hf, ⟨v, rfl, hv⟩, fun _ _ _ _ _ => trivial⟩
            · simp only [List.getElem?_cons_zero, List.getElem?_cons_succ, Option.some.injEq] at ho
              subst ho
              intro a W vs hB hS hE hU
              refine wpG_plain rfl ?_
              have v11 : a.eval (.tmp 11) = .slice (some ⟨g2, 0, none⟩) n c2 := (hU 11 (by kernel_rfl)).trans rfl
              clear hE hU
              exact wp_value_inv (w' := W) (.slice (some ⟨g2, 0, none⟩) n c2) (op_move rfl v11) ⟨_, rfl, hB, Fr.refl _ _, rfl, fun _ _ _ _ _ => trivial⟩
            · simp only [List.getElem?_cons_zero, List.getElem?_cons_succ, Option.some.injEq] at ho
              subst ho
              intro a W vs hB hS hE hU
              refine wpG_plain rfl ?_
              have v5 : a.eval (.tmp 5) = .pointer (some ⟨b5, 0, none⟩) := (hU 5 (by kernel_rfl)).trans rfl
              clear hE hU
              exact wp_value_inv (w' := W) (.agg C) (op_loadAt rfl v5 (LD5.out W hB)) ⟨_, rfl, hB, Fr.refl _ _, rfl, fun _ _ _ _ _ => trivial⟩
            · simp only [List.getElem?_cons_zero, List.getElem?_cons_succ, Option.some.injEq] at ho
              subst ho
              intro a W vs hB hS hE hU
              refine wpG_plain rfl ?_
              have v6 : a.eval (.tmp 6) = .pointer (some ⟨b6, 0, none⟩) := (hU 6 (by kernel_rfl)).trans rfl
              clear hE hU
              exact wp_value_inv (w' := W) (.agg D) (op_loadAt rfl v6 (LD6.out W hB)) ⟨_, rfl, hB, Fr.refl _ _, rfl, fun _ _ _ _ _ => trivial⟩
          · intro vs Wa hB0 hR0 hD
            have r69 : vs 4 = .slice (some ⟨g2, 0, none⟩) n c2 := hR0 4 (by decide)
            have r70 : vs 5 = .agg C := hR0 5 (by decide)
            have r71 : vs 6 = .agg D := hR0 6 (by decide)
            obtain ⟨x68, hx68, hox⟩ := hR0 3 (by decide)
            have HO := Lib.hid hox
            have HB := Lib.hid hB0
            clear hR0 hD hB0 hox
            simp only [acts, if_true, dstAt, List.getElem?_cons_zero, List.getElem?_cons_succ, Option.bind_some, Act.put, List.setIfInBounds_toArray, List.set_cons_succ, List.set_cons_zero, List.drop_succ_cons]
            simp only [r69, r70, r71]
            clear r69 r70 r71
            rw [hx68]
            clear hx68
            have HBa := Lib.hid HB.out
            clear HB LD5 LD6
            obtain ⟨aa, ca, hx68⟩ := HO.out.len
            rw [HP.out.2.2.2.2.1] at hx68
            subst hx68
            have HR6 := Lib.hid (HRJ.out Wa HBa.out)
            go_wp2_with (first
              | (go_at_call 10; (with_reducible refine HR6.out.mono ?_); rintro e w6 ⟨x6, rfl, ho6, hf6⟩; (obtain ⟨ac, cc, hx6⟩ := ho6.len); rw [HP.out.2.2.2.2.1] at hx6; subst hx6; (have hc := HKP.out w6 (HBa.out.trans hf6 (fun _ h => h.elim))); (have hq := fFound_any (F := fun k => k < w6.heap.size) (G := fun k => k < w6.heap.size) w6 _ _ b L ((lent_own hc.2.2.2.2.2.1).bytes.mono (G := fun k => k < w6.heap.size) (fun k hk _ => hk)) (fun _ h => h) (hc.2.2.2.2.2.2.1.paths.mono (G := fun k => k < w6.heap.size) (fun k hk _ => hk)) (fun _ h => h) (by have := HM4.out.2.2.1; omega) HD.out.2.2.2.2.2.2 (by have := HM4.out.2.2.2; omega)); rw [← HD.out.2.2.2.2.1, ← HD.out.2.2.2.2.2.1] at hq; (have HF7 := Lib.hid hq); (have H6 := Lib.hid (And.intro hf6 ho6)); clear hf6 ho6 hc hq)
              | (go_at_call 11; (with_reducible refine HF7.out.mono ?_); rintro e w7 ⟨vf, M, rfl, hvf, hasc, hmem, hf7⟩; (have H7 := Lib.hid (And.intro hf7 (And.intro hvf (And.intro hasc hmem)))); clear hvf hasc hmem hf7))
            have H57 := Lib.hid ((HBa.out.trans H6.out.1 (fun _ h => h.elim)).trans H7.out.1 (fun _ h => h.elim))
            have HML := Lib.hid (show M.length ≤ 1000000 by
              have := len_sub M L (H7.out.2.2.1.nodup lessX_strict) (fun x hx => ((H7.out.2.2.2 x).1 hx).1)
              have := HM4.out.2.2.1
              omega)
            have HKQ := Lib.hid (fun W (hW : Fr (fun _ => False) w7 W) => show OwnB (fun k => z0 ≤ k ∧ k < Wa.heap.size) W (.slice aa n ca) X1 ∧ OwnB (fun k => Wa.heap.size ≤ k) W (.slice ac n cc) X1 ∧ PathsIn (fun _ => True) W vf M from
              ⟨(((HO.out.mono (G := fun k => z0 ≤ k ∧ k < Wa.heap.size) (fun k hk h => ⟨h, hk⟩)).keep H6.out.1 (fun _ _ _ h => h)).keep H7.out.1 (fun _ _ _ h => h)).keep hW (fun _ _ _ h => h), (H6.out.2.keep H7.out.1 (fun _ _ _ h => h)).keep hW (fun _ _ _ h => h), (H7.out.2.1.mono (fun _ _ _ => trivial)).keep hW (fun _ _ _ h => h)⟩)
            have HKW := Lib.hid (fun W (hW : Fr (fun _ => False) w7 W) => HKP.out W (H57.out.trans hW (fun _ h => h.elim)))
            have LD5 := Lib.hid (fun W (hW : Fr (fun _ => False) w7 W) => load_hash10 W b5 C (HKW.out W hW).1 HSC.out.1)
            have LD6 := Lib.hid (fun W (hW : Fr (fun _ => False) w7 W) => load_hash10 W b6 D (HKW.out W hW).2.1 HSC.out.2)
            have HPW := Lib.hid (fun W (hW : Fr (fun _ => False) w7 W) => show Calls Tryz.prog 13 #[.slice (some ⟨g2, 0, none⟩) n c2, .agg C] W fun e w' => ∃ y, e = .returned y ∧ IntsR (fun _ => True) w' y PL ∧ Fr (fun _ => False) W w' by
              obtain ⟨k5, k6, kb, ku, km, kin, kl, kx, kat, ky, kpl, ks⟩ := HKW.out W hW
              have hc := fPlaces_any (F := fun k => k < W.heap.size) W (.slice (some ⟨g2, 0, none⟩) b.length c2) b H HD.out.2.2.1 ((lent_own kin).bytes.mono (G := fun k => k < W.heap.size) (fun k hk _ => hk)) (fun _ h => h) (by have := HM4.out.2.2.2; omega) km
              rw [← HD.out.1, ← HP.out.1, ← HD.out.2.2.2.2.1] at hc
              exact hc.mono fun e w' ⟨y, h1, h2, h3⟩ => ⟨y, h1, h2.ints.mono (fun _ _ _ => trivial), h3⟩)
            have HPR := Lib.hid (fun W (hW : Fr (fun _ => False) w7 W) => show Calls Tryz.prog 14 #[.slice ao n cap, .agg C] W fun e w' => ∃ y, e = .returned y ∧ IntsR (fun _ => True) w' y PL ∧ Fr (fun _ => False) W w' by
              obtain ⟨k5, k6, kb, ku, km, kin, kl, kx, kat, ky, kpl, ks⟩ := HKW.out W hW
              have hc := rPlaces_any W _ b H HD.out.2.2.1 kb (by have := HM4.out.2.2.2; omega)
              rw [← HD.out.1, ← HP.out.1] at hc
              exact hc.mono fun e w' ⟨y, h1, h2, h3⟩ => ⟨y, h1, h2.ints.mono (fun _ _ _ => trivial), h3⟩)
            have HFR := Lib.hid (fun W (hW : Fr (fun _ => False) w7 W) => show Calls Tryz.prog 16 #[.slice ao n cap, .slice au m cu] W fun e w' => ∃ y, e = .returned y ∧ PathsIn (fun _ => True) w' y M ∧ Fr (fun _ => False) W w' by
              obtain ⟨k5, k6, kb, ku, km, kin, kl, kx, kat, ky, kpl, ks⟩ := HKW.out W hW
              have hc := rFound_any (F := fun k => k < W.heap.size) (G := fun k => k < W.heap.size) W _ _ b L (kb.mono (G := fun k => k < W.heap.size) (fun k hk _ => hk)) (fun _ h => h) (ku.mono (G := fun k => k < W.heap.size) (fun k hk _ => hk)) (fun _ h => h) (by have := HM4.out.2.2.1; omega) (by have := HM4.out.2.2.2; omega)
              refine hc.mono fun e w' ⟨y, M', h1, h2, h3, h4, h5⟩ => ⟨y, h1, ?_, h5⟩
              have he : M' = M := Asc.same lessX_strict h3 H7.out.2.2.1 (fun x => (h4 x).trans (H7.out.2.2.2 x).symm)
              rw [he] at h2
              exact h2.mono (fun _ _ _ => trivial))
            have HRR := Lib.hid (fun W (hW : Fr (fun _ => False) w7 W) => show Calls Tryz.prog 18 #[.slice ao n cap, .agg C, .agg D] W fun e w' => ∃ y, e = .returned y ∧ BytesIn (fun _ => True) w' y X1 ∧ Fr (fun _ => False) W w' by
              obtain ⟨k5, k6, kb, ku, km, kin, kl, kx, kat, ky, kpl, ks⟩ := HKW.out W hW
              have hc := rRewrite_any W _ b H K HD.out.2.2.1 HD.out.2.2.2.1 kb (by have := HM4.out.2.2.2; omega)
              rw [← HD.out.1, ← HD.out.2.1, ← HP.out.1, ← HP.out.2.2.1] at hc
              exact hc.mono fun e w' ⟨y, h1, h2, h3⟩ => ⟨y, h1, h2.bytes.mono (fun _ _ _ => trivial), h3⟩)
            have HSI := Lib.hid (fun W (hW : Fr (fun _ => False) w7 W) x y (hx : IntsR (fun _ => True) W x PL) (hy : IntsR (fun _ => True) W y PL) => show Calls Tryz.prog 12 #[x, y] W fun e w' => e = .returned (.bool true) ∧ Fr (fun _ => False) W w' from
              (sameInts_any W x y PL hx hy (by have := HP.out.2.2.2.2.2; omega)).mono fun e w' ⟨h1, q, h2⟩ => ⟨h1, by rw [h2]; exact (Fr.refl _ _).drewN q⟩)
            have HSJ := Lib.hid (fun W (hW : Fr (fun _ => False) w7 W) => HSI.out W hW vat vpl (HKW.out W hW).2.2.2.2.2.2.2.2.1 (HKW.out W hW).2.2.2.2.2.2.2.2.2.2.1)
            have HSP := Lib.hid (fun W (hW : Fr (fun _ => False) w7 W) y (hy : PathsIn (fun _ => True) W y M) => samePaths_any W vf y M (HKQ.out W hW).2.2 hy HML.out)
            have HSB := Lib.hid (fun W (hW : Fr (fun _ => False) w7 W) y (hy : BytesIn (fun _ => True) W y X1) => show Calls Tryz.prog 17 #[.slice aa n ca, y] W fun e w' => e = .returned (.bool true) ∧ Fr (fun _ => False) W w' by
              have hc := same_any _ y X1 X1 W (HKQ.out W hW).1.bytes hy
              rw [sameB_eq rfl] at hc
              exact hc.mono fun e w' ⟨h1, q, h2⟩ => ⟨h1, by rw [h2]; exact (Fr.refl _ _).drewN q⟩)
            have HSC2 := Lib.hid (fun W (hW : Fr (fun _ => False) w7 W) => show Calls Tryz.prog 17 #[.slice ax n cx, vy] W fun e w' => e = .returned (.bool true) ∧ Fr (fun _ => False) W w' by
              obtain ⟨k5, k6, kb, ku, km, kin, kl, kx, kat, ky, kpl, ks⟩ := HKW.out W hW
              have hc := same_any _ vy X0 X0 W kx.bytes ky
              rw [sameB_eq rfl] at hc
              exact hc.mono fun e w' ⟨h1, q, h2⟩ => ⟨h1, by rw [h2]; exact (Fr.refl _ _).drewN q⟩)
            refine wp_region_inv 32 (by kernel_rfl) (by kernel_rfl) (fun W => Fr (fun _ => False) w7 W) (TlB g2 n c2 b5 b6 cap m cu ca cx ao au aa ax vf vat vpl vy C D X1 PL M) (fun _ _ _ _ => True) (Fr (fun _ => False)) (TlB.ext g2 n c2 b5 b6 cap m cu ca cx ao au aa ax vf vat vpl vy C D X1 PL M) (Fr.refl _ _).drew ?_ ?_
            · intro i hi o ho
              replace hi : i < 32 := hi
              obtain rfl | rfl | rfl | rfl | rfl | rfl | rfl | rfl | rfl | rfl | rfl | rfl | rfl | rfl | rfl | rfl | rfl | rfl | rfl | rfl | rfl | rfl | rfl | rfl | rfl | rfl | rfl | rfl | rfl | rfl | rfl | rfl : i = 0 ∨ i = 1 ∨ i = 2 ∨ i = 3 ∨ i = 4 ∨ i = 5 ∨ i = 6 ∨ i = 7 ∨ i = 8 ∨ i = 9 ∨ i = 10 ∨ i = 11 ∨ i = 12 ∨ i = 13 ∨ i = 14 ∨ i = 15 ∨ i = 16 ∨ i = 17 ∨ i = 18 ∨ i = 19 ∨ i = 20 ∨ i = 21 ∨ i = 22 ∨ i = 23 ∨ i = 24 ∨ i = 25 ∨ i = 26 ∨ i = 27 ∨ i = 28 ∨ i = 29 ∨ i = 30 ∨ i = 31 := by omega
              · simp only [List.getElem?_cons_zero, Option.some.injEq] at ho
                subst ho
                intro a W vs hB hS hE hU
                refine wpG_plain rfl ?_
                have v11 : a.eval (.tmp 11) = .slice (some ⟨g2, 0, none⟩) n c2 := (hU 11 (by kernel_rfl)).trans rfl
                clear hE hU
                exact wp_value_inv (w' := W) (.slice (some ⟨g2, 0, none⟩) n c2) (op_move rfl v11) ⟨_, rfl, hB, Fr.refl _ _, rfl, fun _ _ _ _ _ => trivial⟩
              · simp only [List.getElem?_cons_zero, List.getElem?_cons_succ, Option.some.injEq] at ho
                subst ho
                intro a W vs hB hS hE hU
                refine wpG_plain rfl ?_
                have v5 : a.eval (.tmp 5) = .pointer (some ⟨b5, 0, none⟩) := (hU 5 (by kernel_rfl)).trans rfl
                clear hE hU
                exact wp_value_inv (w' := W) (.agg C) (op_loadAt rfl v5 (LD5.out W hB)) ⟨_, rfl, hB, Fr.refl _ _, rfl, fun _ _ _ _ _ => trivial⟩
              · simp only [List.getElem?_cons_zero, List.getElem?_cons_succ, Option.some.injEq] at ho
                subst ho
                intro a W vs hB hS hE hU
                refine wpG_plain rfl ?_
                obtain ⟨r0, e76⟩ := hE 0 76 (by kernel_rfl) (by kernel_rfl)
                have v76 : a.eval (.tmp 76) = .slice (some ⟨g2, 0, none⟩) n c2 := e76.trans r0
                obtain ⟨r1, e77⟩ := hE 1 77 (by kernel_rfl) (by kernel_rfl)
                have v77 : a.eval (.tmp 77) = .agg C := e77.trans r1
                clear hE hU
                refine wp_call_inv 13 #[.tmp 76, .tmp 77] #[22, 24] rfl #[.slice (some ⟨g2, 0, none⟩) n c2, .agg C] (by simp only [List.map_toArray, List.map_cons, List.map_nil, v76, v77]) (tlent_spence_refs_Places _) (Post := fun v W' => IntsR (fun _ => True) W' v PL ∧ Fr (fun _ => False) W W') ((HPW.out W hB).mono fun e w' ⟨y, h1, h2, h3⟩ => ⟨_, h1, h2, h3⟩) ?_
                rintro v W' ⟨hv, hf⟩
                exact ⟨_, rfl, hB.trans hf (fun _ h => h.elim), hf, ⟨v, rfl, hv⟩, fun _ _ _ _ _ => trivial⟩
              · simp only [List.getElem?_cons_zero, List.getElem?_cons_succ, Option.some.injEq] at ho
                subst ho
                intro a W vs hB hS hE hU
                refine wpG_plain rfl ?_
                have v0 : a.eval (.tmp 0) = .slice ao n cap := (hU 0 (by kernel_rfl)).trans rfl
                clear hE hU
                exact wp_value_inv (w' := W) (.slice ao n cap) (op_move rfl v0) ⟨_, rfl, hB, Fr.refl _ _, rfl, fun _ _ _ _ _ => trivial⟩
              · simp only [List.getElem?_cons_zero, List.getElem?_cons_succ, Option.some.injEq] at ho
                subst ho
                intro a W vs hB hS hE hU
                refine wpG_plain rfl ?_
                have v5 : a.eval (.tmp 5) = .pointer (some ⟨b5, 0, none⟩) := (hU 5 (by kernel_rfl)).trans rfl
                clear hE hU
                exact wp_value_inv (w' := W) (.agg C) (op_loadAt rfl v5 (LD5.out W hB)) ⟨_, rfl, hB, Fr.refl _ _, rfl, fun _ _ _ _ _ => trivial⟩
              · simp only [List.getElem?_cons_zero, List.getElem?_cons_succ, Option.some.injEq] at ho
                subst ho
                intro a W vs hB hS hE hU
                refine wpG_plain rfl ?_
                obtain ⟨r3, e79⟩ := hE 3 79 (by kernel_rfl) (by kernel_rfl)
                have v79 : a.eval (.tmp 79) = .slice ao n cap := e79.trans r3
                obtain ⟨r4, e80⟩ := hE 4 80 (by kernel_rfl) (by kernel_rfl)
                have v80 : a.eval (.tmp 80) = .agg C := e80.trans r4
                clear hE hU
                refine wp_call_inv 14 #[.tmp 79, .tmp 80] #[22, 24] rfl #[.slice ao n cap, .agg C] (by simp only [List.map_toArray, List.map_cons, List.map_nil, v79, v80]) (tlent_spence_spenceref10_Places _) (Post := fun v W' => IntsR (fun _ => True) W' v PL ∧ Fr (fun _ => False) W W') ((HPR.out W hB).mono fun e w' ⟨y, h1, h2, h3⟩ => ⟨_, h1, h2, h3⟩) ?_
                rintro v W' ⟨hv, hf⟩
                exact ⟨_, rfl, hB.trans hf (fun _ h => h.elim), hf, ⟨v, rfl, hv⟩, fun _ _ _ _ _ => trivial⟩
              · simp only [List.getElem?_cons_zero, List.getElem?_cons_succ, Option.some.injEq] at ho
                subst ho
                intro a W vs hB hS hE hU
                refine wpG_plain rfl ?_
                obtain ⟨⟨x2, rg2, hg2⟩, e78⟩ := hE 2 78 (by kernel_rfl) (by kernel_rfl)
                have v78 : a.eval (.tmp 78) = x2 := e78.trans rg2
                obtain ⟨⟨x5, rg5, hg5⟩, e81⟩ := hE 5 81 (by kernel_rfl) (by kernel_rfl)
                have v81 : a.eval (.tmp 81) = x5 := e81.trans rg5
                clear hE hU
                refine wp_call_inv 12 #[.tmp 78, .tmp 81] #[31, 31] rfl #[x2, x5] (by simp only [List.map_toArray, List.map_cons, List.map_nil, v78, v81]) (tlent_spence_spencekit_SameInts _) (Post := fun v W' => v = .bool true ∧ Fr (fun _ => False) W W') ((HSI.out W hB x2 x5 hg2 hg5).mono fun e w' h => ⟨_, h.1, rfl, h.2⟩) ?_
                rintro v W' ⟨rfl, hf⟩
                exact ⟨_, rfl, hB.trans hf (fun _ h => h.elim), hf, rfl, fun _ _ _ _ _ => trivial⟩
              · simp only [List.getElem?_cons_zero, List.getElem?_cons_succ, Option.some.injEq] at ho
                subst ho
                intro a W vs hB hS hE hU
                refine wpG_plain rfl ?_
                obtain ⟨r6, e82⟩ := hE 6 82 (by kernel_rfl) (by kernel_rfl)
                have v82 : a.eval (.tmp 82) = .bool true := e82.trans r6
                clear hE hU
                exact wp_value_inv (w' := W) (.bool true) (op_move rfl v82) ⟨_, rfl, hB, Fr.refl _ _, rfl, fun _ _ _ _ _ => trivial⟩
              · simp only [List.getElem?_cons_zero, List.getElem?_cons_succ, Option.some.injEq] at ho
                subst ho
                intro a W vs hB hS hE hU
                obtain ⟨r7, e83⟩ := hE 7 83 (by kernel_rfl) (by kernel_rfl)
                have v83 : a.eval (.tmp 83) = .bool true := e83.trans r7
                refine wpG_yes 7 true 83 rfl (by kernel_rfl) (by rw [hS]; first | simp | exact Nat.le_of_ble_eq_true rfl) v83 ?_
                have v19 : a.eval (.tmp 19) = vf := (hU 19 (by kernel_rfl)).trans rfl
                clear hE hU
                exact wp_value_inv (w' := W) (vf) (op_move rfl v19) ⟨_, rfl, hB, Fr.refl _ _, rfl, fun _ _ _ _ _ => trivial⟩
              · simp only [List.getElem?_cons_zero, List.getElem?_cons_succ, Option.some.injEq] at ho
                subst ho
                intro a W vs hB hS hE hU
                obtain ⟨r7, e83⟩ := hE 7 83 (by kernel_rfl) (by kernel_rfl)
                have v83 : a.eval (.tmp 83) = .bool true := e83.trans r7
                refine wpG_yes 7 true 83 rfl (by kernel_rfl) (by rw [hS]; first | simp | exact Nat.le_of_ble_eq_true rfl) v83 ?_
                have v0 : a.eval (.tmp 0) = .slice ao n cap := (hU 0 (by kernel_rfl)).trans rfl
                clear hE hU
                exact wp_value_inv (w' := W) (.slice ao n cap) (op_move rfl v0) ⟨_, rfl, hB, Fr.refl _ _, rfl, fun _ _ _ _ _ => trivial⟩
              · simp only [List.getElem?_cons_zero, List.getElem?_cons_succ, Option.some.injEq] at ho
                subst ho
                intro a W vs hB hS hE hU
                obtain ⟨r7, e83⟩ := hE 7 83 (by kernel_rfl) (by kernel_rfl)
                have v83 : a.eval (.tmp 83) = .bool true := e83.trans r7
                refine wpG_yes 7 true 83 rfl (by kernel_rfl) (by rw [hS]; first | simp | exact Nat.le_of_ble_eq_true rfl) v83 ?_
                have v3 : a.eval (.tmp 3) = .slice au m cu := (hU 3 (by kernel_rfl)).trans rfl
                clear hE hU
                exact wp_value_inv (w' := W) (.slice au m cu) (op_move rfl v3) ⟨_, rfl, hB, Fr.refl _ _, rfl, fun _ _ _ _ _ => trivial⟩
              · simp only [List.getElem?_cons_zero, List.getElem?_cons_succ, Option.some.injEq] at ho
                subst ho
                intro a W vs hB hS hE hU
                obtain ⟨r7, e83⟩ := hE 7 83 (by kernel_rfl) (by kernel_rfl)
                have v83 : a.eval (.tmp 83) = .bool true := e83.trans r7
                refine wpG_yes 7 true 83 rfl (by kernel_rfl) (by rw [hS]; first | simp | exact Nat.le_of_ble_eq_true rfl) v83 ?_
                obtain ⟨r9, e85⟩ := hE 9 85 (by kernel_rfl) (by kernel_rfl)
                have v85 : a.eval (.tmp 85) = .slice ao n cap := e85.trans r9
                obtain ⟨r10, e86⟩ := hE 10 86 (by kernel_rfl) (by kernel_rfl)
                have v86 : a.eval (.tmp 86) = .slice au m cu := e86.trans r10
                clear hE hU
                refine wp_call_inv 16 #[.tmp 85, .tmp 86] #[22, 25] rfl #[.slice ao n cap, .slice au m cu] (by simp only [List.map_toArray, List.map_cons, List.map_nil, v85, v86]) (tlent_spence_spenceref10_Found _) (Post := fun v W' => PathsIn (fun _ => True) W' v M ∧ Fr (fun _ => False) W W') ((HFR.out W hB).mono fun e w' ⟨y, h1, h2, h3⟩ => ⟨_, h1, h2, h3⟩) ?_
                rintro v W' ⟨hv, hf⟩
                exact ⟨_, rfl, hB.trans hf (fun _ h => h.elim), hf, ⟨v, rfl, hv⟩, fun _ _ _ _ _ => trivial⟩
              · simp only [List.getElem?_cons_zero, List.getElem?_cons_succ, Option.some.injEq] at ho
                subst ho
                intro a W vs hB hS hE hU
                obtain ⟨r7, e83⟩ := hE 7 83 (by kernel_rfl) (by kernel_rfl)
                have v83 : a.eval (.tmp 83) = .bool true := e83.trans r7
                refine wpG_yes 7 true 83 rfl (by kernel_rfl) (by rw [hS]; first | simp | exact Nat.le_of_ble_eq_true rfl) v83 ?_
                obtain ⟨r8, e84⟩ := hE 8 84 (by kernel_rfl) (by kernel_rfl)
                have v84 : a.eval (.tmp 84) = vf := e84.trans r8
                obtain ⟨⟨x11, rg11, hg11⟩, e87⟩ := hE 11 87 (by kernel_rfl) (by kernel_rfl)
                have v87 : a.eval (.tmp 87) = x11 := e87.trans rg11
                clear hE hU
                refine wp_call_inv 15 #[.tmp 84, .tmp 87] #[25, 25] rfl #[vf, x11] (by simp only [List.map_toArray, List.map_cons, List.map_nil, v84, v87]) (tlent_spence_spencekit_SamePaths _) (Post := fun v W' => v = .bool true ∧ Fr (fun _ => False) W W') ((HSP.out W hB x11 hg11).mono fun e w' h => ⟨_, h.1, rfl, h.2⟩) ?_
                rintro v W' ⟨rfl, hf⟩
                exact ⟨_, rfl, hB.trans hf (fun _ h => h.elim), hf, rfl, fun _ _ _ _ _ => trivial⟩
              · simp only [List.getElem?_cons_zero, List.getElem?_cons_succ, Option.some.injEq] at ho
                subst ho
                intro a W vs hB hS hE hU
                refine wpG_plain rfl ?_
                obtain ⟨r7, e83⟩ := hE 7 83 (by kernel_rfl) (by kernel_rfl)
                have v83 : a.eval (.tmp 83) = .bool true := e83.trans r7
                obtain ⟨r12, e88⟩ := hE 12 88 (by kernel_rfl) (by kernel_rfl)
                have v88 : a.eval (.tmp 88) = .bool true := e88.trans r12
                clear hE hU
                exact wp_value_inv (w' := W) (.bool true) (op_pick rfl v83 (by simp only [if_true]; exact v88)) ⟨_, rfl, hB, Fr.refl _ _, rfl, fun _ _ _ _ _ => trivial⟩
              · simp only [List.getElem?_cons_zero, List.getElem?_cons_succ, Option.some.injEq] at ho
                subst ho
                intro a W vs hB hS hE hU
                refine wpG_plain rfl ?_
                obtain ⟨r13, e89⟩ := hE 13 89 (by kernel_rfl) (by kernel_rfl)
                have v89 : a.eval (.tmp 89) = .bool true := e89.trans r13
                clear hE hU
                exact wp_value_inv (w' := W) (.bool true) (op_move rfl v89) ⟨_, rfl, hB, Fr.refl _ _, rfl, fun _ _ _ _ _ => trivial⟩
              · simp only [List.getElem?_cons_zero, List.getElem?_cons_succ, Option.some.injEq] at ho
                subst ho
                intro a W vs hB hS hE hU
                obtain ⟨r14, e90⟩ := hE 14 90 (by kernel_rfl) (by kernel_rfl)
                have v90 : a.eval (.tmp 90) = .bool true := e90.trans r14
                refine wpG_yes 14 true 90 rfl (by kernel_rfl) (by rw [hS]; first | simp | exact Nat.le_of_ble_eq_true rfl) v90 ?_
                have v17 : a.eval (.tmp 17) = .slice aa n ca := (hU 17 (by kernel_rfl)).trans rfl
                clear hE hU
                exact wp_value_inv (w' := W) (.slice aa n ca) (op_move rfl v17) ⟨_, rfl, hB, Fr.refl _ _, rfl, fun _ _ _ _ _ => trivial⟩
              · simp only [List.getElem?_cons_zero, List.getElem?_cons_succ, Option.some.injEq] at ho
                subst ho
                intro a W vs hB hS hE hU
                obtain ⟨r14, e90⟩ := hE 14 90 (by kernel_rfl) (by kernel_rfl)
                have v90 : a.eval (.tmp 90) = .bool true := e90.trans r14
                refine wpG_yes 14 true 90 rfl (by kernel_rfl) (by rw [hS]; first | simp | exact Nat.le_of_ble_eq_true rfl) v90 ?_
                have v0 : a.eval (.tmp 0) = .slice ao n cap := (hU 0 (by kernel_rfl)).trans rfl
                clear hE hU
                exact wp_value_inv (w' := W) (.slice ao n cap) (op_move rfl v0) ⟨_, rfl, hB, Fr.refl _ _, rfl, fun _ _ _ _ _ => trivial⟩
              · simp only [List.getElem?_cons_zero, List.getElem?_cons_succ, Option.some.injEq] at ho
                subst ho
                intro a W vs hB hS hE hU
                obtain ⟨r14, e90⟩ := hE 14 90 (by kernel_rfl) (by kernel_rfl)
                have v90 : a.eval (.tmp 90) = .bool true := e90.trans r14
                refine wpG_yes 14 true 90 rfl (by kernel_rfl) (by rw [hS]; first | simp | exact Nat.le_of_ble_eq_true rfl) v90 ?_
                have v5 : a.eval (.tmp 5) = .pointer (some ⟨b5, 0, none⟩) := (hU 5 (by kernel_rfl)).trans rfl
                clear hE hU
                exact wp_value_inv (w' := W) (.agg C) (op_loadAt rfl v5 (LD5.out W hB)) ⟨_, rfl, hB, Fr.refl _ _, rfl, fun _ _ _ _ _ => trivial⟩
              · simp only [List.getElem?_cons_zero, List.getElem?_cons_succ, Option.some.injEq] at ho
                subst ho
                intro a W vs hB hS hE hU
                obtain ⟨r14, e90⟩ := hE 14 90 (by kernel_rfl) (by kernel_rfl)
                have v90 : a.eval (.tmp 90) = .bool true := e90.trans r14
                refine wpG_yes 14 true 90 rfl (by kernel_rfl) (by rw [hS]; first | simp | exact Nat.le_of_ble_eq_true rfl) v90 ?_
                have v6 : a.eval (.tmp 6) = .pointer (some ⟨b6, 0, none⟩) := (hU 6 (by kernel_rfl)).trans rfl
                clear hE hU
                exact wp_value_inv (w' := W) (.agg D) (op_loadAt rfl v6 (LD6.out W hB)) ⟨_, rfl, hB, Fr.refl _ _, rfl, fun _ _ _ _ _ => trivial⟩
              · simp only [List.getElem?_cons_zero, List.getElem?_cons_succ, Option.some.injEq] at ho
                subst ho
                intro a W vs hB hS hE hU
                obtain ⟨r14, e90⟩ := hE 14 90 (by kernel_rfl) (by kernel_rfl)
                have v90 : a.eval (.tmp 90) = .bool true := e90.trans r14
                refine wpG_yes 14 true 90 rfl (by kernel_rfl) (by rw [hS]; first | simp | exact Nat.le_of_ble_eq_true rfl) v90 ?_
                obtain ⟨r16, e92⟩ := hE 16 92 (by kernel_rfl) (by kernel_rfl)
                have v92 : a.eval (.tmp 92) = .slice ao n cap := e92.trans r16
                obtain ⟨r17, e93⟩ := hE 17 93 (by kernel_rfl) (by kernel_rfl)
                have v93 : a.eval (.tmp 93) = .agg C := e93.trans r17
                obtain ⟨r18, e94⟩ := hE 18 94 (by kernel_rfl) (by kernel_rfl)
                have v94 : a.eval (.tmp 94) = .agg D := e94.trans r18
                clear hE hU
                refine wp_call_inv 18 #[.tmp 92, .tmp 93, .tmp 94] #[22, 24, 24] rfl #[.slice ao n cap, .agg C, .agg D] (by simp only [List.map_toArray, List.map_cons, List.map_nil, v92, v93, v94]) (tlent_spence_spenceref10_Rewrite _) (Post := fun v W' => BytesIn (fun _ => True) W' v X1 ∧ Fr (fun _ => False) W W') ((HRR.out W hB).mono fun e w' ⟨y, h1, h2, h3⟩ => ⟨_, h1, h2, h3⟩) ?_
                rintro v W' ⟨hv, hf⟩
                exact ⟨_, rfl, hB.trans hf (fun _ h => h.elim), hf, ⟨v, rfl, hv⟩, fun _ _ _ _ _ => trivial⟩
              · simp only [List.getElem?_cons_zero, List.getElem?_cons_succ, Option.some.injEq] at ho
                subst ho
                intro a W vs hB hS hE hU
                obtain ⟨r14, e90⟩ := hE 14 90 (by kernel_rfl) (by kernel_rfl)
                have v90 : a.eval (.tmp 90) = .bool true := e90.trans r14
                refine wpG_yes 14 true 90 rfl (by kernel_rfl) (by rw [hS]; first | simp | exact Nat.le_of_ble_eq_true rfl) v90 ?_
                obtain ⟨r15, e91⟩ := hE 15 91 (by kernel_rfl) (by kernel_rfl)
                have v91 : a.eval (.tmp 91) = .slice aa n ca := e91.trans r15
                obtain ⟨⟨x19, rg19, hg19⟩, e95⟩ := hE 19 95 (by kernel_rfl) (by kernel_rfl)
                have v95 : a.eval (.tmp 95) = x19 := e95.trans rg19
                clear hE hU
                refine wp_call_inv 17 #[.tmp 91, .tmp 95] #[22, 22] rfl #[.slice aa n ca, x19] (by simp only [List.map_toArray, List.map_cons, List.map_nil, v91, v95]) (tlent_spence_spencekit_SameBytes _) (Post := fun v W' => v = .bool true ∧ Fr (fun _ => False) W W') ((HSB.out W hB x19 hg19).mono fun e w' h => ⟨_, h.1, rfl, h.2⟩) ?_
                rintro v W' ⟨rfl, hf⟩
                exact ⟨_, rfl, hB.trans hf (fun _ h => h.elim), hf, rfl, fun _ _ _ _ _ => trivial⟩
              · simp only [List.getElem?_cons_zero, List.getElem?_cons_succ, Option.some.injEq] at ho
                subst ho
                intro a W vs hB hS hE hU
                refine wpG_plain rfl ?_
                obtain ⟨r14, e90⟩ := hE 14 90 (by kernel_rfl) (by kernel_rfl)
                have v90 : a.eval (.tmp 90) = .bool true := e90.trans r14
                obtain ⟨r20, e96⟩ := hE 20 96 (by kernel_rfl) (by kernel_rfl)
                have v96 : a.eval (.tmp 96) = .bool true := e96.trans r20
                clear hE hU
                exact wp_value_inv (w' := W) (.bool true) (op_pick rfl v90 (by simp only [if_true]; exact v96)) ⟨_, rfl, hB, Fr.refl _ _, rfl, fun _ _ _ _ _ => trivial⟩
              · simp only [List.getElem?_cons_zero, List.getElem?_cons_succ, Option.some.injEq] at ho
                subst ho
                intro a W vs hB hS hE hU
                refine wpG_plain rfl ?_
                obtain ⟨r21, e97⟩ := hE 21 97 (by kernel_rfl) (by kernel_rfl)
                have v97 : a.eval (.tmp 97) = .bool true := e97.trans r21
                clear hE hU
                exact wp_value_inv (w' := W) (.bool true) (op_move rfl v97) ⟨_, rfl, hB, Fr.refl _ _, rfl, fun _ _ _ _ _ => trivial⟩
              · simp only [List.getElem?_cons_zero, List.getElem?_cons_succ, Option.some.injEq] at ho
                subst ho
                intro a W vs hB hS hE hU
                obtain ⟨r22, e98⟩ := hE 22 98 (by kernel_rfl) (by kernel_rfl)
                have v98 : a.eval (.tmp 98) = .bool true := e98.trans r22
                refine wpG_yes 22 true 98 rfl (by kernel_rfl) (by rw [hS]; first | simp | exact Nat.le_of_ble_eq_true rfl) v98 ?_
                have v13 : a.eval (.tmp 13) = .slice ax n cx := (hU 13 (by kernel_rfl)).trans rfl
                clear hE hU
                exact wp_value_inv (w' := W) (.slice ax n cx) (op_move rfl v13) ⟨_, rfl, hB, Fr.refl _ _, rfl, fun _ _ _ _ _ => trivial⟩
              · simp only [List.getElem?_cons_zero, List.getElem?_cons_succ, Option.some.injEq] at ho
                subst ho
                intro a W vs hB hS hE hU
                obtain ⟨r22, e98⟩ := hE 22 98 (by kernel_rfl) (by kernel_rfl)
                have v98 : a.eval (.tmp 98) = .bool true := e98.trans r22
                refine wpG_yes 22 true 98 rfl (by kernel_rfl) (by rw [hS]; first | simp | exact Nat.le_of_ble_eq_true rfl) v98 ?_
                have v15 : a.eval (.tmp 15) = vy := (hU 15 (by kernel_rfl)).trans rfl
                clear hE hU
                exact wp_value_inv (w' := W) (vy) (op_move rfl v15) ⟨_, rfl, hB, Fr.refl _ _, rfl, fun _ _ _ _ _ => trivial⟩
              · simp only [List.getElem?_cons_zero, List.getElem?_cons_succ, Option.some.injEq] at ho
                subst ho
                intro a W vs hB hS hE hU
                obtain ⟨r22, e98⟩ := hE 22 98 (by kernel_rfl) (by kernel_rfl)
                have v98 : a.eval (.tmp 98) = .bool true := e98.trans r22
                refine wpG_yes 22 true 98 rfl (by kernel_rfl) (by rw [hS]; first | simp | exact Nat.le_of_ble_eq_true rfl) v98 ?_
                obtain ⟨r23, e99⟩ := hE 23 99 (by kernel_rfl) (by kernel_rfl)
                have v99 : a.eval (.tmp 99) = .slice ax n cx := e99.trans r23
                obtain ⟨r24, e100⟩ := hE 24 100 (by kernel_rfl) (by kernel_rfl)
                have v100 : a.eval (.tmp 100) = vy := e100.trans r24
                clear hE hU
                refine wp_call_inv 17 #[.tmp 99, .tmp 100] #[22, 22] rfl #[.slice ax n cx, vy] (by simp only [List.map_toArray, List.map_cons, List.map_nil, v99, v100]) (tlent_spence_spencekit_SameBytes _) (Post := fun v W' => v = .bool true ∧ Fr (fun _ => False) W W') ((HSC2.out W hB).mono fun e w' h => ⟨_, h.1, rfl, h.2⟩) ?_
                rintro v W' ⟨rfl, hf⟩
                exact ⟨_, rfl, hB.trans hf (fun _ h => h.elim), hf, rfl, fun _ _ _ _ _ => trivial⟩
              · simp only [List.getElem?_cons_zero, List.getElem?_cons_succ, Option.some.injEq] at ho
                subst ho
                intro a W vs hB hS hE hU
                refine wpG_plain rfl ?_
                obtain ⟨r22, e98⟩ := hE 22 98 (by kernel_rfl) (by kernel_rfl)
                have v98 : a.eval (.tmp 98) = .bool true := e98.trans r22
                obtain ⟨r25, e101⟩ := hE 25 101 (by kernel_rfl) (by kernel_rfl)
                have v101 : a.eval (.tmp 101) = .bool true := e101.trans r25
                clear hE hU
                exact wp_value_inv (w' := W) (.bool true) (op_pick rfl v98 (by simp only [if_true]; exact v101)) ⟨_, rfl, hB, Fr.refl _ _, rfl, fun _ _ _ _ _ => trivial⟩
              · simp only [List.getElem?_cons_zero, List.getElem?_cons_succ, Option.some.injEq] at ho
                subst ho
                intro a W vs hB hS hE hU
                refine wpG_plain rfl ?_
                obtain ⟨r26, e102⟩ := hE 26 102 (by kernel_rfl) (by kernel_rfl)
                have v102 : a.eval (.tmp 102) = .bool true := e102.trans r26
                clear hE hU
                exact wp_value_inv (w' := W) (.bool true) (op_move rfl v102) ⟨_, rfl, hB, Fr.refl _ _, rfl, fun _ _ _ _ _ => trivial⟩
              · simp only [List.getElem?_cons_zero, List.getElem?_cons_succ, Option.some.injEq] at ho
                subst ho
                intro a W vs hB hS hE hU
                obtain ⟨r27, e103⟩ := hE 27 103 (by kernel_rfl) (by kernel_rfl)
                have v103 : a.eval (.tmp 103) = .bool true := e103.trans r27
                refine wpG_yes 27 true 103 rfl (by kernel_rfl) (by rw [hS]; first | simp | exact Nat.le_of_ble_eq_true rfl) v103 ?_
                have v14 : a.eval (.tmp 14) = vat := (hU 14 (by kernel_rfl)).trans rfl
                clear hE hU
                exact wp_value_inv (w' := W) (vat) (op_move rfl v14) ⟨_, rfl, hB, Fr.refl _ _, rfl, fun _ _ _ _ _ => trivial⟩
              · simp only [List.getElem?_cons_zero, List.getElem?_cons_succ, Option.some.injEq] at ho
                subst ho
                intro a W vs hB hS hE hU
                obtain ⟨r27, e103⟩ := hE 27 103 (by kernel_rfl) (by kernel_rfl)
                have v103 : a.eval (.tmp 103) = .bool true := e103.trans r27
                refine wpG_yes 27 true 103 rfl (by kernel_rfl) (by rw [hS]; first | simp | exact Nat.le_of_ble_eq_true rfl) v103 ?_
                have v16 : a.eval (.tmp 16) = vpl := (hU 16 (by kernel_rfl)).trans rfl
                clear hE hU
                exact wp_value_inv (w' := W) (vpl) (op_move rfl v16) ⟨_, rfl, hB, Fr.refl _ _, rfl, fun _ _ _ _ _ => trivial⟩
              · simp only [List.getElem?_cons_zero, List.getElem?_cons_succ, Option.some.injEq] at ho
                subst ho
                intro a W vs hB hS hE hU
                obtain ⟨r27, e103⟩ := hE 27 103 (by kernel_rfl) (by kernel_rfl)
                have v103 : a.eval (.tmp 103) = .bool true := e103.trans r27
                refine wpG_yes 27 true 103 rfl (by kernel_rfl) (by rw [hS]; first | simp | exact Nat.le_of_ble_eq_true rfl) v103 ?_
                obtain ⟨r28, e104⟩ := hE 28 104 (by kernel_rfl) (by kernel_rfl)
                have v104 : a.eval (.tmp 104) = vat := e104.trans r28
                obtain ⟨r29, e105⟩ := hE 29 105 (by kernel_rfl) (by kernel_rfl)
                have v105 : a.eval (.tmp 105) = vpl := e105.trans r29
                clear hE hU
                refine wp_call_inv 12 #[.tmp 104, .tmp 105] #[31, 31] rfl #[vat, vpl] (by simp only [List.map_toArray, List.map_cons, List.map_nil, v104, v105]) (tlent_spence_spencekit_SameInts _) (Post := fun v W' => v = .bool true ∧ Fr (fun _ => False) W W') ((HSJ.out W hB).mono fun e w' h => ⟨_, h.1, rfl, h.2⟩) ?_
                rintro v W' ⟨rfl, hf⟩
                exact ⟨_, rfl, hB.trans hf (fun _ h => h.elim), hf, rfl, fun _ _ _ _ _ => trivial⟩
              · simp only [List.getElem?_cons_zero, List.getElem?_cons_succ, Option.some.injEq] at ho
                subst ho
                intro a W vs hB hS hE hU
                refine wpG_plain rfl ?_
                obtain ⟨r27, e103⟩ := hE 27 103 (by kernel_rfl) (by kernel_rfl)
                have v103 : a.eval (.tmp 103) = .bool true := e103.trans r27
                obtain ⟨r30, e106⟩ := hE 30 106 (by kernel_rfl) (by kernel_rfl)
                have v106 : a.eval (.tmp 106) = .bool true := e106.trans r30
                clear hE hU
                exact wp_value_inv (w' := W) (.bool true) (op_pick rfl v103 (by simp only [if_true]; exact v106)) ⟨_, rfl, hB, Fr.refl _ _, rfl, fun _ _ _ _ _ => trivial⟩
            · intro vs Wb hB0 hR0 hD
              have r107 : vs 31 = .bool true := hR0 31 (by decide)
              have HB := Lib.hid hB0
              clear hR0 hD hB0
              simp only [acts, if_true, dstAt, List.getElem?_cons_zero, List.getElem?_cons_succ, Option.bind_some, Act.put, List.setIfInBounds_toArray, List.set_cons_succ, List.set_cons_zero, List.drop_succ_cons]
              simp only [r107]
              clear r107
              have hKb := HKW.out Wb HB.out
              have hQb := HKQ.out Wb HB.out
              have hkb := KeptBytes_any (.slice ao n cap) g2 c2 b Wb hKb.2.2.1 hKb.2.2.2.2.2.1 (by have := HM4.out.2.2.2; omega)
              rw [← HD.out.2.2.2.2.1] at hkb
              have HKB := Lib.hid hkb
              have HFB := Lib.hid (And.intro (H57.out.trans HB.out (fun _ h => h.elim)) (And.intro hQb H6.out.1.size))
              have HAJ := Lib.hid (fun W (hW : Fr (fun _ => False) Wb W) => show Calls Tryz.prog 20 #[.slice (some ⟨W.heap.size, 0, none⟩) 4 4] (W.alloc (.cells #[.slice aa n ca, .slice ac n cc, .slice ax n cx, .slice (some ⟨g2, 0, none⟩) n c2] 22)) fun e w' => e = .returned (.bool true) ∧ Fr (fun k => (z0 ≤ k ∧ k < Wa.heap.size) ∨ Wa.heap.size ≤ k ∧ k < Wb.heap.size ∨ (w3.heap.size ≤ k ∧ k < w4.heap.size) ∨ (W1.heap.size ≤ k ∧ k < w2.heap.size)) (W.alloc (.cells #[.slice aa n ca, .slice ac n cc, .slice ax n cx, .slice (some ⟨g2, 0, none⟩) n c2] 22)) w' by
                obtain ⟨q1, q2, q3, q4, q5, q6⟩ := HSZ.out
                have hf : Fr (fun _ => False) Wb (W.alloc (.cells #[.slice aa n ca, .slice ac n cc, .slice ax n cx, .slice (some ⟨g2, 0, none⟩) n c2] 22)) := hW.alloc _
                have hi := lent_own hKb.2.2.2.2.2.1
                rw [← HD.out.2.2.2.2.1] at hi
                have hla := HP.out.2.2.2.2.1
                have hlx := HP.out.2.2.2.1
                have hlb := HM4.out.2.2.2
                have hla2 := HM4.out.2.1
                exact apart_four (Fa := fun k => z0 ≤ k ∧ k < Wa.heap.size) (Fc := fun k => Wa.heap.size ≤ k ∧ k < Wb.heap.size) (Fx := fun k => w3.heap.size ≤ k ∧ k < w4.heap.size) (Fi := fun k => W1.heap.size ≤ k ∧ k < w2.heap.size) _ (heap_alloc_new W _)
                  (hQb.1.keep hf (fun _ _ _ h => h)) ((hQb.2.1.mono (fun k hk h => ⟨h, hk⟩)).keep hf (fun _ _ _ h => h)) (hKb.2.2.2.2.2.2.2.1.keep hf (fun _ _ _ h => h)) (hi.keep hf (fun _ _ _ h => h))
                  (fun k h1 h2 => by have h1' := h1.2; have h2' := h2.1; omega) (fun k h1 h2 => by have h1' := h1.1; have h2' := h2.2; omega) (fun k h1 h2 => by have h1' := h1.1; have h2' := h2.2; omega) (fun k h1 h2 => by have h1' := h1.1; have h2' := h2.2; have := HBa.out.size; omega) (fun k h1 h2 => by have h1' := h1.1; have h2' := h2.2; have := HBa.out.size; omega) (fun k h1 h2 => by have h1' := h1.1; have h2' := h2.2; omega)
                  (by omega) (by omega) (by omega) (by omega))
              have HKJ := Lib.hid (fun W (hW : Fr (fun k => (z0 ≤ k ∧ k < Wa.heap.size) ∨ Wa.heap.size ≤ k ∧ k < Wb.heap.size ∨ (w3.heap.size ≤ k ∧ k < w4.heap.size) ∨ (W1.heap.size ≤ k ∧ k < w2.heap.size)) Wb W) => show Calls Tryz.prog 21 #[.slice (some ⟨g3, 0, none⟩) m c3, .slice au m cu] W (fun e w' => e = .returned (.bool true) ∧ Fr (fun _ => False) W w') ∧ MlAt W by
                obtain ⟨q1, q2, q3, q4, q5, q6⟩ := HSZ.out
                have qa := HBa.out.size
                have qm := HX.out.2.2.2.2.2.1.lt
                have hc := KeptPaths_any (.slice au m cu) g3 c3 L W (hKb.2.2.2.1.keep hW (fun k _ hk e => by have := HX.out.2.2.2.2.2.2.1 k hk; rcases e with e | e | e | e <;> omega)) (hKb.2.2.2.2.2.2.1.keep hW (fun k _ hk e => by have h1 := hk.1; have h2 := hk.2; rcases e with e | e | e | e <;> omega)) (by have := HM4.out.2.2.1; omega)
                rw [← HD.out.2.2.2.2.2.1] at hc
                exact ⟨hc, hKb.2.2.2.2.1.keep hW (fun e => by rcases e with e | e | e | e <;> omega)⟩)
              clear hKb hQb hkb
              go_wp2_with (first
                | (go_at_call 19; refine HKB.out.mono ?_; rintro e w8' ⟨rfl, q8, rfl⟩; (have hf8 : Fr (fun _ => False) Wb (Wb.drewN q8) := (Fr.refl _ _).drewN q8); generalize Wb.drewN q8 = w8 at *; (have H8 := Lib.hid hf8); clear hf8; (have HAP := Lib.hid (HAJ.out w8 H8.out)))
                | (go_at_call 20; (with_reducible refine HAP.out.mono ?_); rintro e w9 ⟨rfl, hf9⟩; (have HK9 := Lib.hid (HKJ.out w9 (((H8.out.alloc _).mono (fun _ _ h => h.elim)).trans hf9 (fun _ h => .inl h)))); (have H9 := Lib.hid hf9); clear hf9)
                | (go_at_call 21; (with_reducible refine HK9.out.1.mono ?_); rintro e w10 ⟨rfl, hf10⟩; (have H10 := Lib.hid hf10); clear hf10)
                | (go_at_call 5; (with_reducible refine (HAW.out w10 (HK9.out.2.keep H10.out (fun h => h))).mono ?_); rintro e w11 ⟨rfl, hf11⟩))
              go_ret
              obtain ⟨q1, q2, q3, q4, q5, q6⟩ := HSZ.out
              have qa := HBa.out.size
              have f5 := (((HX.out.1.trans H2.out.1 (fun _ h => h.elim)).trans H3.out.1 (fun _ h => h.elim)).trans H4.out.1 (fun _ h => h.elim)).trans H5.out.1 (fun _ h => h.elim)
              have f9 := (((f5.trans HFB.out.1 (fun _ h => h.elim)).trans H8.out (fun _ h => h.elim)).alloc _).trans H9.out (fun k e => .inr (by rcases e with e | e | e | e <;> omega))
              exact ⟨rfl, (f9.trans H10.out (fun _ h => h.elim)).trans hf11 (fun _ h => h.elim)⟩
end Go.Proofs.YtfkgdjoaoidkeaaGreat
