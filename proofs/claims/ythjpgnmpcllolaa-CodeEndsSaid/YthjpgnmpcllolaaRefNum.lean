/- The document's own bytes of a number. -/
import Derived.Test.YthjpgnmpcllolaaMaker2
import Derived.Test.YthjpgnmpcllolaaFlatLib
namespace Go.Proofs.Ythjpgnmpcllolaa
open Go.RowKit Go.ChangeShapes
set_option linter.unusedVariables false

set_option maxHeartbeats 2000000 in
set_option maxRecDepth 100000 in
theorem refNumber_gen (K n : Nat) (w : World) (hn : n ≤ 9223372036854775807) (hK : n < 128 ^ (K + 1)) (hK2 : K ≤ 100) :
    Calls Try.prog 22 #[.int .i64 n] w fun e w' => ∃ v, e = .returned v ∧ OwnB (fun k => w.heap.size ≤ k) w' v (numBytes K n) ∧ Fr (fun _ => False) w w' := by
  go_enter Try.func22, Try.ntmps22
  go_wp2
  go_loopw [0, 3] (fun nv gv wi => ∃ (r i : Nat) (P : List UInt8), nv = .int .i64 r ∧ r ≤ 9223372036854775807 ∧ Hid (r < 128 ^ (i + 1)) ∧ Hid (P ++ numBytes i r = numBytes K n) ∧ P.length + i ≤ K ∧ Hid (OwnB (fun k => w.heap.size ≤ k) wi gv P ∧ Fr (fun _ => False) w wi)) (fun nv _ _ => (intOf nv).toNat)
  case atStart => exact ⟨n, K, [], rfl, hn, Lib.hid hK, Lib.hid rfl, by simp, Lib.hid ⟨OwnB.nil _ _, Fr.refl _ _⟩⟩
  case round =>
    obtain ⟨r, i, P, rfl, hr, hrb, hP, hPl, hw⟩ := hrel
    have HLN := Lib.hid (show P.length + 1 ≤ 140737488355328 by omega)
    by_cases hlt : r < 128
    · have hPE := Lib.hid (show P ++ [UInt8.ofNat r] = numBytes K n by
        rw [← hP.out]
        cases i with
        | zero => rfl
        | succ k => rw [numBytes, if_pos hlt])
      clear hP hrb
      have HP := Lib.hid (hw.out.1.keep' ((Fr.refl (fun _ => False) wr).alloc (.cells #[.int .u8 (r : Int)] 5)) (fun _ _ h => h))
      have HQ := Lib.hid (hw.out.2.alloc (.cells #[.int .u8 (r : Int)] 5))
      have HOB := Lib.hid (one_byte wr (r : Int) (UInt8.ofNat r) (by rw [UInt8.toNat_ofNat']; omega))
      clear hw
      go_wp2_with (first
        | (at_builtin; refine wpList_append_bytes (F := fun k => w.heap.size ≤ k) (G := fun b => b = wr.heap.size) _ rfl (.tmp 15) (.tmp 18) rfl _ _ P [UInt8.ofNat r] rfl rfl HP.out HOB.out HLN.out ?_; intro v5 w5 ho5 hg5 hn5; have HS5 : Hid (OwnB (fun k => w.heap.size ≤ k) w5 v5 (numBytes K n) ∧ Fr (fun _ => False) w w5) := Lib.hid ⟨by have h := ho5.mono (G := fun k => w.heap.size ≤ k) (fun k _ h => h.elim id (fun h => Nat.le_trans HQ.out.size h)); rwa [hPE.out] at h, HQ.out.grown hg5 (fun k hk => .inr (HP.out.2 k hk))⟩; clear ho5 hg5 hn5)
        | fail)
      go_ret
      exact ⟨_, rfl, HS5.out.1, HS5.out.2⟩
    · have hP' : i ≠ 0 := by rintro rfl; have := hrb.out; omega
      obtain ⟨k, rfl⟩ : ∃ k, i = k + 1 := ⟨i - 1, by omega⟩
      have hPE := Lib.hid (show (P ++ [UInt8.ofNat (r % 128 + 128)]) ++ numBytes k (r / 128) = numBytes K n by
        rw [← hP.out, numBytes, if_neg hlt]; simp)
      have hr1 := Lib.hid (show r / 128 < 128 ^ (k + 1) by have := hrb.out; rw [Nat.pow_succ] at this; omega)
      clear hP hrb
      have HP := Lib.hid (hw.out.1.keep' ((Fr.refl (fun _ => False) wr).alloc (.cells #[.int .u8 ((r : Int) % 128 + 128)] 5)) (fun _ _ h => h))
      have HQ := Lib.hid (hw.out.2.alloc (.cells #[.int .u8 ((r : Int) % 128 + 128)] 5))
      have HOB := Lib.hid (one_byte wr ((r : Int) % 128 + 128) (UInt8.ofNat (r % 128 + 128)) (by rw [UInt8.toNat_ofNat']; omega))
      clear hw
      go_wp2_with (first
        | (at_builtin; refine wpList_append_bytes (F := fun k => w.heap.size ≤ k) (G := fun b => b = wr.heap.size) _ rfl (.tmp 6) (.tmp 11) rfl _ _ P [UInt8.ofNat (r % 128 + 128)] rfl rfl HP.out HOB.out HLN.out ?_; intro v5 w5 ho5 hg5 hn5; have HS5 : Hid (OwnB (fun k => w.heap.size ≤ k) w5 v5 (P ++ [UInt8.ofNat (r % 128 + 128)]) ∧ Fr (fun _ => False) w w5) := Lib.hid ⟨ho5.mono (G := fun k => w.heap.size ≤ k) (fun k _ h => h.elim id (fun h => Nat.le_trans HQ.out.size h)), HQ.out.grown hg5 (fun k hk => .inr (HP.out.2 k hk))⟩; clear ho5 hg5 hn5)
        | fail)
      go_roundw
      case rel => exact ⟨r / 128, k, P ++ [UInt8.ofNat (r % 128 + 128)], by go_num, by omega, hr1, hPE, by simp; omega, HS5⟩
      case measure => simp [intOf]; omega
theorem refNumber_wide (n : Nat) (w : World) (hn : n < 4398046511104) :
    Calls Try.prog 22 #[.int .i64 n] w fun e w' => ∃ v, e = .returned v ∧ OwnB (fun k => w.heap.size ≤ k) w' v (numBytes 5 n) ∧ Fr (fun _ => False) w w' :=
  refNumber_gen 5 n w (by omega) (by omega) (by omega)
theorem refNumber_any (n : Nat) (w : World) (hn : n ≤ 1099511627776) :
    Calls Try.prog 22 #[.int .i64 n] w fun e w' => ∃ v, e = .returned v ∧ OwnB (fun k => w.heap.size ≤ k) w' v (numBytes 5 n) ∧ Fr (fun _ => False) w w' :=
  refNumber_wide n w (by omega)
end Go.Proofs.Ythjpgnmpcllolaa
