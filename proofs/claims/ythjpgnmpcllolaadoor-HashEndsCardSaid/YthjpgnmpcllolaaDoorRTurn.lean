/- Contracts of the document's own: spenceref02.turn, word, ks. -/
import Derived.Test.YthjpgnmpcllolaaDoorTurn
namespace Go.Proofs.YthjpgnmpcllolaaDoor
open Go.RowKit Go.ChangeShapes
set_option linter.unusedVariables false

theorem rot_spell' (x c d : Nat) (hx : x < 4294967296) (hd : c = 32 - d) : bits .or .u32 ((x : Int) / 2 ^ d) ((x : Int) * 2 ^ c % 4294967296) = (rotr x d : Nat) := by
  subst hd
  have h := u32_or_nat (x >>> d) ((x <<< (32 - d)) % 4294967296) (shr_lt hx) (Nat.mod_lt _ (by decide))
  rw [Nat.shiftLeft_eq, Nat.shiftRight_eq_div_pow] at h
  have h1 : (x : Int) * 2 ^ (32 - d) = ((x * 2 ^ (32 - d) : Nat) : Int) := by push_cast; rfl
  have h2 : (x : Int) / 2 ^ d = ((x / 2 ^ d : Nat) : Int) := by push_cast; rfl
  have h3 : rotr x d = x / 2 ^ d ||| (x * 2 ^ (32 - d)) % 4294967296 := by unfold rotr; rw [Nat.shiftLeft_eq, Nat.shiftRight_eq_div_pow, Nat.or_comm]
  have h4 : ((x * 2 ^ (32 - d) : Nat) : Int) % 4294967296 = ((x * 2 ^ (32 - d) % 4294967296 : Nat) : Int) := by generalize x * 2 ^ (32 - d) = y; omega
  rw [h1, h2, h4, h3]
  exact h

set_option maxHeartbeats 1000000 in
theorem rturn_any (x p : Nat) (w : World) (hx : x < 4294967296) (h1 : 1 ≤ p) (h2 : p ≤ 31) :
    Calls Tryd.prog 39 #[.int .u32 x, .int .i64 p] w fun e w' => e = .returned (.int .u32 (rotr x p : Nat)) ∧ ∃ n, w' = w.drewN n := by
  have e4 := rot_spell' x (32 - p) p hx rfl
  go_enter Tryd.func39, Tryd.ntmps39
  go_wp2_with fail
  go_region
  go_wp2
  go_ret
  exact ⟨ret_int rfl, 1, rfl⟩
theorem rturn_int (x : Nat) (p : Int) (w : World) (hx : x < 4294967296) (h1 : 1 ≤ p) (h2 : p ≤ 31) :
    Calls Tryd.prog 39 #[.int .u32 x, .int .i64 p] w fun e w' => e = .returned (.int .u32 (rotr x p.toNat : Nat)) ∧ ∃ n, w' = w.drewN n := by
  obtain ⟨k, rfl⟩ := Int.eq_ofNat_of_zero_le (show 0 ≤ p by omega)
  exact rturn_any x k w hx (by omega) (by omega)

/-- The number that bytes are, the highest first. -/
def beN (L : List UInt8) : Nat := L.foldl (fun n x => 256 * n + x.toNat) 0
theorem beN_succ (L : List UInt8) (k : Nat) (h : k < L.length) : beN (L.take (k + 1)) = 256 * beN (L.take k) + (L.getD k 0).toNat := by
  rw [List.take_succ_eq_append_getElem h, beN, List.foldl_append, List.getD_eq_getElem?_getD, List.getElem?_eq_getElem h]
  rfl
theorem beN_word (L : List UInt8) (h : 4 ≤ L.length) : beN (L.take 4) = wordOf L := by
  match L, h with
  | a :: b :: c :: d :: r, _ => simp [beN, wordOf]; omega

set_option maxHeartbeats 2000000 in
theorem rword_any {F : Nat → Prop} {v : Value} {L : List UInt8} (w : World) (h : BytesIn F w v L) (hl : 4 ≤ L.length) :
    Calls Tryd.prog 38 #[v] w fun e w' => e = .returned (.int .u32 (wordOf L : Nat)) ∧ ∃ n, w' = w.drewN n := by
  obtain ⟨b, off, cap, rfl, h1, h2, _, hc⟩ := h.plain (by intro e; subst e; simp at hl)
  have HX := Lib.hid (beN_word L hl)
  have HC := Lib.hid hc
  have HS := Lib.hid (fun k (hk : k < L.length) => beN_succ L k hk)
  obtain ⟨n, hn⟩ : ∃ n, n = L.length := ⟨_, rfl⟩
  rw [← hn] at hl h1 ⊢
  have HN := Lib.hid hn
  clear h hn hc
  unfold maxLen at h2
  go_enter Tryd.func38, Tryd.ntmps38
  go_wp2_with fail
  go_loopw [3, 4] (fun xv iv wr => ∃ i : Nat, i ≤ 4 ∧ iv = .int .i64 i ∧ (∃ x : Nat, xv = .int .u32 x ∧ (i < 4 → x < 16777216) ∧ Hid (x = beN (L.take i) ∧ x < 256 ^ i)) ∧ Hid (∃ m, wr = w.drewN m)) (fun _ iv _ => 4 - (intOf iv).toNat)
  case atStart => exact ⟨0, by omega, rfl, ⟨0, rfl, fun _ => by omega, Lib.hid ⟨rfl, by decide⟩⟩, Lib.hid ⟨0, rfl⟩⟩
  case round =>
    obtain ⟨i, hi, rfl, ⟨x, rfl, hx, hX⟩, hW⟩ := hrel
    by_cases hi4 : i < 4
    · have hxb := hx hi4
      have hin : (i : Int) < (n : Int) := by omega
      have hc := HC.out i (by rw [← HN.out]; omega)
      have hgd : L[i]'(by rw [← HN.out]; omega) = L.getD i 0 := by rw [List.getD_eq_getElem?_getD, List.getElem?_eq_getElem (by rw [← HN.out]; omega)]; rfl
      have HE := Lib.hid (HS.out i (by rw [← HN.out]; omega))
      rw [← hX.out.1] at HE
      obtain ⟨y, hy⟩ : ∃ y, y = L.getD i 0 := ⟨_, rfl⟩
      have hc' : wr.cell? ⟨b, off + i, none⟩ = some (.int .u8 y.toNat) := by
        obtain ⟨m, rfl⟩ := hW.out
        rw [hy, ← hgd]
        exact hc
      rw [← hy] at HE
      have hyb := y.toNat_lt
      clear hc hgd hy hx
      have hpw : 256 ^ (i + 1) = 256 * 256 ^ i := by rw [Nat.pow_succ, Nat.mul_comm]
      have HP := Lib.hid hpw
      clear hpw
      go_wp2_with fail
      go_roundw
      case rel =>
        refine ⟨i + 1, by omega, by go_num, ⟨256 * x + y.toNat, by rw [Int.natCast_add, Int.natCast_mul]; rfl, fun h => ?_, Lib.hid ⟨HE.out.symm, ?_⟩⟩, hW⟩
        · have h3 : i ≤ 2 := by omega
          have : 256 ^ i ≤ 256 ^ 2 := Nat.pow_le_pow_right (by decide) h3
          have := hX.out.2
          omega
        · have := hX.out.2
          rw [HP.out]
          omega
      case measure => simp [intOf]; omega
    · obtain rfl : i = 4 := by omega
      have HR := Lib.hid (hX.out.1.trans HX.out)
      have HWX := hW
      clear hW hX hx
      go_wp2
      go_ret
      exact ⟨ret_int (by rw [HR.out]), HWX.out⟩

set_option maxRecDepth 100000 in
set_option maxHeartbeats 2000000 in
theorem rks_any (w : World) :
    Calls Tryd.prog 40 #[] w fun e w' => e = .returned (.agg (ks.map uw).toArray) ∧ Fr (fun _ => False) w w' := by
  obtain ⟨C, hC⟩ : ∃ C, C = (ks.map uw).toArray := ⟨_, rfl⟩
  have hs : C.size = 64 := by rw [hC]; rfl
  have h1 : C.all (·.oneCell') = true := by rw [hC]; kernel_rfl
  obtain ⟨C0, hC0⟩ : ∃ C, C = (List.replicate 64 (uw 0)).toArray := ⟨_, rfl⟩
  have hs0 : C0.size = 64 := by rw [hC0]; rfl
  go_enter Tryd.func40, Tryd.ntmps40
  go_wp2_with (with_reducible refine wpList_store_row rfl 74 (.tmp 0) (.tmp 1) rfl w.heap.size C C0 74 rfl (by rw [hC]; kernel_rfl) (by rw [hC0]; exact (heap_alloc_new w _).trans (by kernel_rfl)) (by rw [hs]; kernel_rfl) (by rw [hs0, hs]) h1 ?_)
  refine bodyPost_ret (results_cell_row rfl _ _ w.heap.size 74 C (0, 0) _ rfl (setRow_heap _ w.heap.size _ C 74 (0, 0) (heap_alloc_new w _)) Tryd.underlying74 rfl (by rw [hs]; kernel_rfl)) rfl ⟨?_, ((Fr.refl _ w).alloc _).setRow (.inr (Nat.le_refl _)) _⟩
  rw [hC]
end Go.Proofs.YthjpgnmpcllolaaDoor
