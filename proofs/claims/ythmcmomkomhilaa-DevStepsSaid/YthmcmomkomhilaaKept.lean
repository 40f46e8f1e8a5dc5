/- KeptBytes: are the bytes, and the marks behind them, as they were lent? -/
import Derived.Test.YthmcmomkomhilaaLent
import Derived.Deep.LoopGhost
namespace Go.Proofs.Ythmcmomkomhilaa
open Go.RowKit Go.ChangeShapes
set_option linter.unusedVariables false

set_option maxHeartbeats 2000000 in
set_option maxRecDepth 100000 in
theorem KeptBytes_any {F G : Nat → Prop} (y : Value) (g c : Nat) (L : List UInt8) (w : World) (hy : BytesIn G w y L) (hl : LentAt F w g c L) (hL : L.length ≤ 1000000000) :
    Calls Try.prog 28 #[.slice (some ⟨g, 0, none⟩) L.length c, y] w fun e w' => e = .returned (.bool true) ∧ ∃ m, w' = w.drewN m := by
  obtain ⟨hc0, hcm, hown⟩ := hl
  obtain ⟨g', c', hv, _, _, _, hcell⟩ := hown.form (by rw [List.length_append, marks_length]; omega)
  rw [List.length_append, marks_length] at hv hcell
  simp only [Value.slice.injEq, Option.some.injEq, Addr.mk.injEq] at hv
  obtain ⟨⟨rfl, hz8, hz9⟩, hz7, rfl⟩ := hv
  clear hz7 hz8 hz9
  have hyp : ∃ ay cy, y = .slice ay L.length cy := by obtain ⟨ao, cp, hv, _⟩ := hy; exact ⟨ao, cp, hv⟩
  obtain ⟨ay, cy, hy0⟩ := hyp
  subst hy0
  have HY := Lib.hid hy
  have HCL := Lib.hid hcell
  obtain ⟨n, hn⟩ : ∃ n, n = L.length := ⟨_, rfl⟩
  rw [← hn] at hc0 hL HY HCL ⊢
  have HN := Lib.hid hn
  have hcm' : c ≤ 9223372036854775807 := by unfold maxLen at hcm; omega
  clear hn hy hown hcell hcm
  go_enter Try.func28, Try.ntmps28
  go_wp2
  go_loopw [6] (fun iv wr => ∃ i : Nat, i ≤ n + 12 ∧ iv = .int .i64 i ∧ Hid (∃ q, wr = w.drewN q)) (fun iv _ => n + 12 - (intOf iv).toNat)
  case atStart => exact ⟨0, by omega, rfl, Lib.hid ⟨0, rfl⟩⟩
  case round =>
    obtain ⟨i, hi, rfl, HW⟩ := hrel
    have hcell : ∀ p v, w.cell? p = some v → wr.cell? p = some v := fun p v h => by
      obtain ⟨q, rfl⟩ := HW.out
      exact h
    have HCW := Lib.hid hcell
    clear hcell
    by_cases hil : i < n + 12
    · obtain ⟨c1, _⟩ := HCL.out i hil
      by_cases hin : i < n
      · have hg : (L ++ marks 1 12).getD i 0 = L.getD i 0 := by
          rw [List.getD_eq_getElem?_getD, List.getD_eq_getElem?_getD, List.getElem?_append_left (by rw [← HN.out]; exact hin)]
        rw [hg] at c1
        obtain ⟨b2, o2, cp2, hv2, _, _, _, hc2⟩ := HY.out.plain (fun h => by rw [HN.out, h] at hin; simp at hin)
        simp only [Value.slice.injEq] at hv2
        obtain ⟨rfl, hz7, rfl⟩ := hv2
        have c2 : w.cell? ⟨b2, o2 + i, none⟩ = some (.int .u8 (L.getD i 0).toNat) := by
          rw [hc2 i (by rw [← HN.out]; exact hin)]; simp [bv, List.getD, List.getElem?_eq_getElem (show i < L.length by rw [← HN.out]; exact hin)]
        obtain ⟨z, hz⟩ : ∃ z, z = L.getD i 0 := ⟨_, rfl⟩
        rw [← hz] at c1 c2
        replace c1 := HCW.out _ _ c1
        replace c2 := HCW.out _ _ c2
        have hcy : n ≤ cy := by
          obtain ⟨ao, cp, hv, h1, _⟩ := HY.out
          simp only [Value.slice.injEq] at hv
          omega
        have hd2 : decide ((n : Int) ≤ (i : Int)) = false := by simp; omega
        have hd3 : decide (n ≤ i) = false := by simp; omega
        have hd4 : ¬ n ≤ i := by omega
        clear hz7 hc2 hz hg
        go_wp2
        go_quiet (fail)
        go_wp2
        go_roundw
        case rel => exact ⟨i + 1, by omega, by go_num, Lib.hid (by obtain ⟨q, rfl⟩ := HW.out; exact ⟨q + nq, World.drewN_drewN ..⟩)⟩
        case measure => simp [intOf]; omega
      · have hg : (L ++ marks 1 12).getD i 0 = mB 1 (i - n) := by
          rw [List.getD_eq_getElem?_getD, List.getElem?_append_right (by rw [← HN.out]; omega), ← HN.out, marks_get _ _ _ (by omega), Option.getD_some]
        rw [hg] at c1
        replace c1 := HCW.out _ _ c1
        obtain ⟨j, hj⟩ : ∃ j, j = i - n := ⟨_, rfl⟩
        rw [← hj] at c1
        have hd : decide ((i : Int) < (n : Int)) = false := by simp; omega
        have hs : IntKind.i64.wrap ((i : Int) - (n : Int)) = (j : Int) := by
          rw [show (i : Int) - (n : Int) = (j : Int) by omega]
          rw [IntKind.wrap_i64]
          omega
        have hd2 : (n : Int) ≤ (i : Int) := by omega
        have hd3 : n ≤ i := by omega
        have hd4 : decide (i < n) = false := by simp; omega
        have HMB : Hid (∀ q', Calls Try.prog 47 #[.int .i64 1, .int .i64 (j : Int)] (wr.drewN q') fun e w' => e = .returned (.int .u8 (mB 1 j).toNat) ∧ w' = wr.drewN q') := Lib.hid fun q' => mark_quiet 1 j wr q' (by omega) (by omega)
        clear hg hj
        go_wp2
        go_quiet ((go_at_call 47; exact Calls.quiet_of_same (HMB.out _)))
        go_wp2
        go_roundw
        case rel => exact ⟨i + 1, by omega, by go_num, Lib.hid (by obtain ⟨q, rfl⟩ := HW.out; exact ⟨q + nq, World.drewN_drewN ..⟩)⟩
        case measure => simp [intOf]; omega
    · go_wp2
      go_ret
      exact ⟨rfl, HW.out⟩
end Go.Proofs.Ythmcmomkomhilaa
