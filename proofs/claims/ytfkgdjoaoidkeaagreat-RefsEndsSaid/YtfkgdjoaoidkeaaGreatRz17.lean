/- Laid together: RfAp Kept -/
import Derived.Test.YtfkgdjoaoidkeaaGreatRz16
import Derived.Test.YtfkgdjoaoidkeaaGreatRz13
import Derived.Deep.LoopGhost

namespace Go.Proofs.YtfkgdjoaoidkeaaGreat
open Go.RowKit Go.ChangeShapes
set_option linter.unusedVariables false
def fo4 {α : Type} (x y z u : α) : Nat → α | 0 => x | 1 => y | 2 => z | _ => u
theorem apart_four {lb : Nat} {va vc vx vi : Value} {La Lc Lx Li : List UInt8} {Fa Fc Fx Fi : Nat → Prop} (w : World) (h0 : w.heap[lb]? = some (.cells #[va, vc, vx, vi] 22 (0, 0)))
    (ha : OwnB Fa w va La) (hc : OwnB Fc w vc Lc) (hx : OwnB Fx w vx Lx) (hi : OwnB Fi w vi Li) (hac : ∀ k, Fa k → ¬ Fc k) (hax : ∀ k, Fa k → ¬ Fx k) (hai : ∀ k, Fa k → ¬ Fi k) (hcx : ∀ k, Fc k → ¬ Fx k) (hci : ∀ k, Fc k → ¬ Fi k) (hxi : ∀ k, Fx k → ¬ Fi k)
    (la : La.length ≤ 1000000) (lc : Lc.length ≤ 1000000) (lx : Lx.length ≤ 1000000) (li : Li.length ≤ 1000000) :
    Calls Tryz.prog 20 #[.slice (some ⟨lb, 0, none⟩) 4 4] w fun e w' => e = .returned (.bool true) ∧ Fr (fun k => Fa k ∨ Fc k ∨ Fx k ∨ Fi k) w w' := by
  have hP : ∀ j, j < 4 → OwnB (fo4 Fa Fc Fx Fi j) w (fo4 va vc vx vi j) (fo4 La Lc Lx Li j) := fun j hj => by
    match j, hj with
    | 0, _ => exact ha
    | 1, _ => exact hc
    | 2, _ => exact hx
    | 3, _ => exact hi
  have hdis : ∀ i j, i < j → j < 4 → ∀ k, fo4 Fa Fc Fx Fi i k → ¬ fo4 Fa Fc Fx Fi j k := fun i j hij hj => by
    match i, j, hij, hj with
    | 0, 1, _, _ => exact hac
    | 0, 2, _, _ => exact hax
    | 0, 3, _, _ => exact hai
    | 1, 2, _, _ => exact hcx
    | 1, 3, _, _ => exact hci
    | 2, 3, _, _ => exact hxi
    | n + 3, j, h1, h2 => exact absurd h1 (by omega)
  refine (ApartBytes_any 4 lb 4 (fo4 va vc vx vi) (fo4 La Lc Lx Li) w (by omega) (by omega) (by omega) ?_ ?_ ?_ ?_).mono ?_
  · intro j hj
    match j, hj with
    | 0, _ => simp [World.cell?, h0, fo4]
    | 1, _ => simp [World.cell?, h0, fo4]
    | 2, _ => simp [World.cell?, h0, fo4]
    | 3, _ => simp [World.cell?, h0, fo4]
  · exact fun j hj => (hP j hj).mono (fun _ _ _ => trivial)
  · intro i j hi' hj hij g hg hg2
    rcases Nat.lt_or_gt_of_ne hij with h | h
    · exact hdis i j h hj g ((hP i hi').2 g hg) ((hP j hj).2 g hg2)
    · exact hdis j i h hi' g ((hP j hj).2 g hg2) ((hP i hi').2 g hg)
  · intro j hj
    match j, hj with
    | 0, _ => show La.length ≤ _; omega
    | 1, _ => show Lc.length ≤ _; omega
    | 2, _ => show Lx.length ≤ _; omega
    | 3, _ => show Li.length ≤ _; omega
  · rintro e w' ⟨rfl, hf⟩
    refine ⟨rfl, hf.mono ?_⟩
    rintro k _ ⟨j, hj, hk⟩
    match j, hj with
    | 0, _ => exact .inl (ha.2 k hk)
    | 1, _ => exact .inr (.inl (hc.2 k hk))
    | 2, _ => exact .inr (.inr (.inl (hx.2 k hk)))
    | 3, _ => exact .inr (.inr (.inr (hi.2 k hk)))
theorem lent_own {F : Nat → Prop} {w : World} {g c : Nat} {L : List UInt8} (h : LentAt F w g c L) : OwnB F w (.slice (some ⟨g, 0, none⟩) L.length c) L := by
  have h1 := h.2.2.head L.length (by simp) (by simp)
  rwa [List.take_left'] at h1
  rfl
theorem LentAt.keep {F S : Nat → Prop} {w w' : World} {g c : Nat} {L : List UInt8} (h : LentAt F w g c L) (hf : Fr S w w') (hd : ∀ k, k < w.heap.size → F k → ¬ S k) : LentAt F w' g c L := ⟨h.1, h.2.1, h.2.2.keep hf hd⟩
theorem LentAt.mono {F G : Nat → Prop} {w : World} {g c : Nat} {L : List UInt8} (h : LentAt F w g c L) (hd : ∀ k, k < w.heap.size → F k → G k) : LentAt G w g c L := ⟨h.1, h.2.1, h.2.2.mono hd⟩
end Go.Proofs.YtfkgdjoaoidkeaaGreat
namespace Go.Proofs.YtfkgdjoaoidkeaaGreat
open Go.RowKit Go.ChangeShapes
set_option linter.unusedVariables false
set_option maxHeartbeats 2000000 in
set_option maxRecDepth 100000 in
theorem KeptBytes_any {F G : Nat → Prop} (y : Value) (g c : Nat) (L : List UInt8) (w : World) (hy : BytesIn G w y L) (hl : LentAt F w g c L) (hL : L.length ≤ 1000000000) :
    Calls Tryz.prog 19 #[.slice (some ⟨g, 0, none⟩) L.length c, y] w fun e w' => e = .returned (.bool true) ∧ ∃ m, w' = w.drewN m := by
  obtain ⟨hc0, hcm, hown⟩ := hl
  obtain ⟨g', c', hv, _, _, _, hcell⟩ := hown.form (by rw [List.length_append, marks_length]; omega)
  rw [List.length_append, marks_length] at hv hcell
  simp only [Value.slice.injEq, Option.some.injEq, Addr.mk.injEq] at hv
  obtain ⟨⟨rfl, hz8, hz9⟩, hz7, rfl⟩ := hv
  clear hz7 hz8 hz9
  have hyp : ∃ ay cy, y = .slice ay L.length cy := by obtain ⟨ao, cp, hv, _⟩ := hy; exact ⟨ao, cp, hv⟩
  obtain ⟨ay, cy, hy0⟩ := hyp
  subst hy0
  have HY := Lib.hid hy
  have HCL := Lib.hid hcell
  obtain ⟨n, hn⟩ : ∃ n, n = L.length := ⟨_, rfl⟩
  rw [← hn] at hc0 hL HY HCL ⊢
  have HN := Lib.hid hn
  have hcm' : c ≤ 9223372036854775807 := by unfold maxLen at hcm; omega
  clear hn hy hown hcell hcm
  go_enter Tryz.func19, Tryz.ntmps19
  go_wp2
  go_loopw [6] (fun iv wr => ∃ i : Nat, i ≤ n + 12 ∧ iv = .int .i64 i ∧ Hid (∃ q, wr = w.drewN q)) (fun iv _ => n + 12 - (intOf iv).toNat)
  case atStart => exact ⟨0, by omega, rfl, Lib.hid ⟨0, rfl⟩⟩
  case round =>
    obtain ⟨i, hi, rfl, HW⟩ := hrel
    have hcell : ∀ p v, w.cell? p = some v → wr.cell? p = some v := fun p v h => by
      obtain ⟨q, rfl⟩ := HW.out
      exact h
    have HCW := Lib.hid hcell
    clear hcell
    by_cases hil : i < n + 12
    · obtain ⟨c1, _⟩ := HCL.out i hil
      by_cases hin : i < n
      · have hg : (L ++ marks 1 12).getD i 0 = L.getD i 0 := by
          rw [List.getD_eq_getElem?_getD, List.getD_eq_getElem?_getD, List.getElem?_append_left (by rw [← HN.out]; exact hin)]
        rw [hg] at c1
        obtain ⟨b2, o2, cp2, hv2, _, _, _, hc2⟩ := HY.out.plain (fun h => by rw [HN.out, h] at hin; simp at hin)
        simp only [Value.slice.injEq] at hv2
        obtain ⟨rfl, hz7, rfl⟩ := hv2
        have c2 : w.cell? ⟨b2, o2 + i, none⟩ = some (.int .u8 (L.getD i 0).toNat) := by
          rw [hc2 i (by rw [← HN.out]; exact hin)]; simp [bv, List.getD, List.getElem?_eq_getElem (show i < L.length by rw [← HN.out]; exact hin)]
        obtain ⟨z, hz⟩ : ∃ z, z = L.getD i 0 := ⟨_, rfl⟩
        rw [← hz] at c1 c2
        replace c1 := HCW.out _ _ c1
        replace c2 := HCW.out _ _ c2
        have hcy : n ≤ cy := by
          obtain ⟨ao, cp, hv, h1, _⟩ := HY.out
          simp only [Value.slice.injEq] at hv
          omega
        have hd2 : decide ((n : Int) ≤ (i : Int)) = false := by simp; omega
        have hd3 : decide (n ≤ i) = false := by simp; omega
        have hd4 : ¬ n ≤ i := by omega
        clear hz7 hc2 hz hg
        go_wp2
        go_quiet (fail)
        go_wp2
        go_roundw
        case rel => exact ⟨i + 1, by omega, by go_num, Lib.hid (by obtain ⟨q, rfl⟩ := HW.out; exact ⟨q + nq, World.drewN_drewN ..⟩)⟩
        case measure => simp [intOf]; omega
      · have hg : (L ++ marks 1 12).getD i 0 = mB 1 (i - n) := by
          rw [List.getD_eq_getElem?_getD, List.getElem?_append_right (by rw [← HN.out]; omega), ← HN.out, marks_get _ _ _ (by omega), Option.getD_some]
        rw [hg] at c1
        replace c1 := HCW.out _ _ c1
        obtain ⟨j, hj⟩ : ∃ j, j = i - n := ⟨_, rfl⟩
        rw [← hj] at c1
        have hd : decide ((i : Int) < (n : Int)) = false := by simp; omega
        have hs : IntKind.i64.wrap ((i : Int) - (n : Int)) = (j : Int) := by
          rw [show (i : Int) - (n : Int) = (j : Int) by omega]
          rw [IntKind.wrap_i64]
          omega
        have hd2 : (n : Int) ≤ (i : Int) := by omega
        have hd3 : n ≤ i := by omega
        have hd4 : decide (i < n) = false := by simp; omega
        have HMB : Hid (∀ q', Calls Tryz.prog 24 #[.int .i64 1, .int .i64 (j : Int)] (wr.drewN q') fun e w' => e = .returned (.int .u8 (mB 1 j).toNat) ∧ w' = wr.drewN q') := Lib.hid fun q' => mark_quiet 1 j wr q' (by omega) (by omega)
        clear hg hj
        go_wp2
        go_quiet ((go_at_call 24; exact Calls.quiet_of_same (HMB.out _)))
        go_wp2
        go_roundw
        case rel => exact ⟨i + 1, by omega, by go_num, Lib.hid (by obtain ⟨q, rfl⟩ := HW.out; exact ⟨q + nq, World.drewN_drewN ..⟩)⟩
        case measure => simp [intOf]; omega
    · go_wp2
      go_ret
      exact ⟨rfl, HW.out⟩
end Go.Proofs.YtfkgdjoaoidkeaaGreat
