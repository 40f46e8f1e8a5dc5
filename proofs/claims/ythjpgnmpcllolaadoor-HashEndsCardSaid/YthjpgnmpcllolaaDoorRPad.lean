/- Contract of the document's own: spenceref02.padded. -/
import Derived.Test.YthjpgnmpcllolaaDoorRBlock
import Derived.Test.YthjpgnmpcllolaaDoorBegin
import Derived.Test.YthjpgnmpcllolaaDoorTake
import Derived.Test.YthjpgnmpcllolaaDoorFlatLib
import Derived.Test.YthjpgnmpcllolaaDoorMaker2
namespace Go.Proofs.YthjpgnmpcllolaaDoor
open Go.RowKit Go.ChangeShapes
set_option linter.unusedVariables false

/-- []byte{}. -/
theorem OwnB.empty (w : World) : OwnB (fun k => w.heap.size ≤ k) (w.alloc (.cells #[] 5)) (.slice (some ⟨w.heap.size, 0, none⟩) 0 0) [] :=
  ⟨World.ownsRow_lit w #[] 0 (Nat.zero_le _) (by simp [maxLen]) (by simp), fun g hg => by simp only [Value.ownBlock, Option.some.injEq] at hg; omega⟩
/-- L, the byte of 128, z noughts. -/
def padZ (L : List UInt8) (z : Nat) : List UInt8 := L ++ 128 :: List.replicate z 0
theorem padZ_length (L : List UInt8) (z : Nat) : (padZ L z).length = L.length + 1 + z := by simp [padZ]; omega
theorem padZ_succ (L : List UInt8) (z : Nat) : padZ L z ++ [0] = padZ L (z + 1) := by
  simp [padZ, List.replicate_succ']
theorem padZ_end (L : List UInt8) (n : Nat) (hn : n = L.length) : padZ L (63 - (n + 8) % 64) ++ (be8 (8 * n)).take 8 = L ++ padOf L.length := by
  subst hn
  rw [List.take_of_length_le (by rw [be8_length]; exact Nat.le_refl _)]
  simp [padZ, padOf]
theorem be8_take_succ (N k : Nat) (hk : k < 8) : (be8 N).take (k + 1) = (be8 N).take k ++ [UInt8.ofNat (N / 2 ^ (8 * (7 - k)))] := by
  rw [List.take_succ_eq_append_getElem (by rw [be8_length]; exact hk)]
  congr 2
  simp [be8]

set_option maxRecDepth 100000 in
set_option maxHeartbeats 2000000 in
theorem rpad_any {G : Nat → Prop} (x : Value) (L : List UInt8) (w : World) (hx : BytesIn G w x L) (hL : L.length ≤ 100000000000) :
    Calls Tryd.prog 32 #[x] w fun e w' => ∃ v, e = .returned v ∧ OwnB (fun k => w.heap.size ≤ k) w' v (L ++ padOf L.length) ∧ Fr (fun _ => False) w w' := by
  obtain ⟨ao, cp, hv, h1, hm, h2, h3⟩ := hx
  have HX0 := Lib.hid (show BytesIn G w (.slice ao L.length cp) L from ⟨ao, cp, rfl, h1, hm, h2, h3⟩)
  obtain ⟨n, hn⟩ : ∃ n, n = L.length := ⟨_, rfl⟩
  subst hv
  clear h1 h2 h3 hm
  rw [← hn] at HX0 hL ⊢
  have HN := Lib.hid hn
  clear hn
  have HX1 := Lib.hid (HX0.out.keep ((Fr.refl (fun _ => False) w).alloc (.cells #[] 5)) (fun _ _ _ h => h))
  have HO1 := Lib.hid (OwnB.empty w)
  have HF1 := Lib.hid ((Fr.refl (fun _ => False) w).alloc (.cells #[] 5))
  go_enter Tryd.func32, Tryd.ntmps32
  go_wp2_with (first
    | (at_builtin; refine wpList_append_bytes (F := fun k => w.heap.size ≤ k) (G := G) _ rfl (.tmp 6) (.tmp 7) rfl _ _ [] L rfl rfl HO1.out HX1.out (by rw [← HN.out]; simp; omega) ?_; intro v3 w3 ho3 hg3 hn3; have HS3 : Hid (OwnB (fun k => w.heap.size ≤ k) w3 v3 L ∧ Fr (fun _ => False) w w3) := Lib.hid ⟨by have h := ho3.mono (G := fun k => w.heap.size ≤ k) (fun k _ h => h.elim id (fun h => Nat.le_trans HF1.out.size h)); simpa using h, HF1.out.grown hg3 (fun k hk => .inr (HO1.out.2 k hk))⟩; clear ho3 hg3 hn3; have HP3 := Lib.hid (HS3.out.1.keep' ((Fr.refl (fun _ => False) w3).alloc (.cells #[.int .u8 128] 5)) (fun _ _ h => h)); have HQ3 := Lib.hid (HS3.out.2.alloc (.cells #[.int .u8 128] 5)); have HB3 := Lib.hid (one_byte w3 128 128 rfl))
    | (at_builtin; refine wpList_append_bytes (F := fun k => w.heap.size ≤ k) (G := fun b => b = w3.heap.size) _ rfl (.tmp 8) (.tmp 9) rfl _ _ L [128] rfl rfl HP3.out HB3.out (by rw [← HN.out]; simp; omega) ?_; intro v4 w4 ho4 hg4 hn4; have HS4 : Hid (OwnB (fun k => w.heap.size ≤ k) w4 v4 (padZ L 0) ∧ Fr (fun _ => False) w w4) := Lib.hid ⟨by have h := ho4.mono (G := fun k => w.heap.size ≤ k) (fun k _ h => h.elim id (fun h => Nat.le_trans HQ3.out.size h)); simpa [padZ] using h, HQ3.out.grown hg4 (fun k hk => .inr (HP3.out.2 k hk))⟩; clear ho4 hg4 hn4)
    | fail)
  clear HX1 HO1 HF1 HS3 HP3 HQ3 HB3
  go_loopw [3] (fun gv wi => ∃ z m : Nat, z ≤ 63 - (n + 8) % 64 ∧ m = n + 1 + z ∧ ∃ g c, gv = .slice (some ⟨g, 0, none⟩) m c ∧ Hid (OwnB (fun k => w.heap.size ≤ k) wi gv (padZ L z) ∧ Fr (fun _ => False) w wi)) (fun gv _ => n + 65 - lenOf gv)
  case atStart =>
    obtain ⟨g, c, hv, _⟩ := HS4.out.1.form (by rw [padZ_length]; omega)
    rw [padZ_length, ← HN.out] at hv
    exact ⟨0, n + 1 + 0, by omega, rfl, g, c, hv, HS4⟩
  case round =>
    obtain ⟨z, m, hz, hm, g, c, rfl, hR⟩ := hrel
    clear HS4
    by_cases hlt : z < 63 - (n + 8) % 64
    · have hne : (m : Int) % 64 ≠ 56 := by omega
      have hne' : ¬ m % 64 = 56 := by omega
      have HP := Lib.hid (hR.out.1.keep' ((Fr.refl (fun _ => False) wr).alloc (.cells #[.int .u8 0] 5)) (fun _ _ h => h))
      have HQ := Lib.hid (hR.out.2.alloc (.cells #[.int .u8 0] 5))
      have HB := Lib.hid (one_byte wr 0 0 rfl)
      have HLN := Lib.hid (show (padZ L z).length + [(0 : UInt8)].length ≤ 140737488355328 by rw [padZ_length, ← HN.out]; simp; omega)
      have HM := Lib.hid hm
      clear hR hm
      go_wp2_with (first
        | (at_builtin; refine wpList_append_bytes (F := fun k => w.heap.size ≤ k) (G := fun b => b = wr.heap.size) _ rfl (.tmp 15) (.tmp 16) rfl _ _ (padZ L z) [0] rfl rfl HP.out HB.out HLN.out ?_; intro v5 w5 ho5 hg5 hn5; have HS5 : Hid (OwnB (fun k => w.heap.size ≤ k) w5 v5 (padZ L (z + 1)) ∧ Fr (fun _ => False) w w5) := Lib.hid ⟨by have h := ho5.mono (G := fun k => w.heap.size ≤ k) (fun k _ h => h.elim id (fun h => Nat.le_trans HQ.out.size h)); rwa [padZ_succ] at h, HQ.out.grown hg5 (fun k hk => .inr (HP.out.2 k hk))⟩; clear ho5 hg5 hn5)
        | fail)
      obtain ⟨g5, c5, hv5, _⟩ := HS5.out.1.form (by rw [padZ_length]; omega)
      rw [padZ_length, ← HN.out] at hv5
      subst hv5
      go_roundw
      case rel => exact ⟨z + 1, n + 1 + (z + 1), by omega, rfl, g5, c5, rfl, HS5⟩
      case measure => simp [lenOf]; have := HM.out; omega
    · have hz' : z = 63 - (n + 8) % 64 := by omega
      have he : (m : Int) % 64 = 56 := by omega
      have he' : m % 64 = 56 := by omega
      have HZ := Lib.hid hz'
      clear hz hz' hlt hm
      go_wp2_with fail
      clear he he'
      go_loopw [3, 5] (fun gv iv wi => ∃ i : Int, -1 ≤ i ∧ i ≤ 7 ∧ iv = .int .i64 i ∧ Hid (OwnB (fun k => w.heap.size ≤ k) wi gv (padZ L z ++ (be8 (8 * n)).take (7 - i).toNat) ∧ Fr (fun _ => False) w wi)) (fun _ iv _ => (intOf iv + 1).toNat)
      case atStart => exact ⟨7, by omega, by omega, rfl, Lib.hid ⟨by simpa using hR.out.1, hR.out.2⟩⟩
      case round =>
        obtain ⟨i, hi1, hi7, rfl, hS⟩ := hrel
        clear hR
        by_cases hge : 0 ≤ i
        · obtain ⟨j, rfl⟩ := Int.eq_ofNat_of_zero_le hge
          obtain ⟨t, ht⟩ : ∃ t, t = 8 * j := ⟨_, rfl⟩
          have ec : 8 * (j : Int) = (t : Int) := by omega
          have em : min t 64 = t := by omega
          obtain ⟨x, hx⟩ : ∃ x, x = UInt8.ofNat ((8 * n) / 2 ^ (8 * j)) := ⟨_, rfl⟩
          have hxv : 8 * (n : Int) / 2 ^ t % 256 = (x.toNat : Int) := by
            have h := byte_spell (8 * n) t x (by rw [hx, ht])
            rw [← h]
            congr 2
          have HE := Lib.hid (show padZ L z ++ (be8 (8 * n)).take (7 - ((j : Int) - 1)).toNat = (padZ L z ++ (be8 (8 * n)).take (7 - (j : Int)).toNat) ++ [x] by
            rw [show (7 - ((j : Int) - 1)).toNat = (7 - (j : Int)).toNat + 1 by omega, be8_take_succ _ _ (by omega), hx, List.append_assoc, show 7 - (7 - (j : Int)).toNat = j by omega])
          have HLN := Lib.hid (show (padZ L z ++ (be8 (8 * n)).take (7 - (j : Int)).toNat).length + [x].length ≤ 140737488355328 by
            rw [List.length_append, padZ_length, ← HN.out, List.length_take, be8_length]
            have := HZ.out
            simp
            omega)
          have HP := Lib.hid (hS.out.1.keep' ((Fr.refl (fun _ => False) wr).alloc (.cells #[.int .u8 x.toNat] 5)) (fun _ _ h => h))
          have HQ := Lib.hid (hS.out.2.alloc (.cells #[.int .u8 x.toNat] 5))
          have HB := Lib.hid (one_byte wr x.toNat x rfl)
          obtain ⟨M, hM⟩ : ∃ M, M = padZ L z ++ (be8 (8 * n)).take (7 - (j : Int)).toNat := ⟨_, rfl⟩
          rw [← hM] at HE HLN HP
          clear hS hM ht hx
          go_wp2_with (first
            | (at_builtin; refine wpList_append_bytes (F := fun k => w.heap.size ≤ k) (G := fun b => b = wr.heap.size) _ rfl (.tmp 25) (.tmp 31) rfl _ _ M [x] rfl rfl HP.out HB.out HLN.out ?_; intro v5 w5 ho5 hg5 hn5; have HS5 : Hid (OwnB (fun k => w.heap.size ≤ k) w5 v5 (M ++ [x]) ∧ Fr (fun _ => False) w w5) := Lib.hid ⟨ho5.mono (G := fun k => w.heap.size ≤ k) (fun k _ h => h.elim id (fun h => Nat.le_trans HQ.out.size h)), HQ.out.grown hg5 (fun k hk => .inr (HP.out.2 k hk))⟩; clear ho5 hg5 hn5)
            | fail)
          go_roundw
          case rel => exact ⟨(j : Int) - 1, by omega, by omega, by go_num, Lib.hid (by rw [HE.out]; exact HS5.out)⟩
          case measure => simp [intOf]
        · have hi : i = -1 := by omega
          have HR := Lib.hid (show OwnB (fun k => w.heap.size ≤ k) wr u3 (L ++ padOf n) ∧ Fr (fun _ => False) w wr by
            have h := hS.out
            rw [hi, HZ.out] at h
            rwa [show (7 - (-1 : Int)).toNat = 8 by rfl, padZ_end L n HN.out, ← HN.out] at h)
          clear hS
          go_wp2
          go_ret
          exact ⟨_, rfl, HR.out⟩
end Go.Proofs.YthjpgnmpcllolaaDoor
