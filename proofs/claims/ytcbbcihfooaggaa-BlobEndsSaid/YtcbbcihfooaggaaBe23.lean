/- Laid together: Lent Kept Two BTwo BPuts -/
import Derived.Test.YtcbbcihfooaggaaBe18
import Derived.Test.YtcbbcihfooaggaaRows
import Derived.WalkKit
import Derived.Test.YtcbbcihfooaggaaBe0
import Derived.Deep.LoopGhost
import Derived.Test.YtcbbcihfooaggaaBe19
import Derived.Test.YtcbbcihfooaggaaBe22
import Derived.Test.YtcbbcihfooaggaaBe7
import Derived.ProofKit
import Derived.OpenShut
import Derived.SizedLaws
import Derived.Deep.Slices
import Derived.Carry
import Derived.Test.YtcbbcihfooaggaaBe6
import Derived.Deep.Fields

namespace Go.Proofs.Ytcbbcihfooaggaa
open Go.RowKit Go.ChangeShapes
set_option linter.unusedVariables false
theorem one_b (w : World) (z : Int) (x : UInt8) (hz : z = x.toNat) : BytesIn (fun k => k = w.heap.size) (w.alloc (.cells #[.int .u8 z] 5)) (.slice (some ⟨w.heap.size, 0, none⟩) 1 1) [x] := by
  subst hz
  refine ⟨_, 1, rfl, Nat.le_refl _, by simp [maxLen], (fun h => by cases h), ?_⟩
  intro a ha
  cases ha
  refine ⟨fun j u hu => ?_, fun _ => rfl⟩
  match j, hu with
  | 0, hu =>
    simp at hu
    subst hu
    have := heap_alloc_new w (.cells #[bv x] 5)
    simp only [Addr.add, if_true]
    exact cell_of_one this
def LentAt (F : Nat → Prop) (w : World) (g c : Nat) (L : List UInt8) : Prop :=
  L.length + 12 ≤ c ∧ c ≤ maxLen ∧ OwnB F w (.slice (some ⟨g, 0, none⟩) (L.length + 12) c) (L ++ marks 1 12)
set_option maxHeartbeats 1000000 in
theorem LentBytes_any {G : Nat → Prop} (x : Value) (L : List UInt8) (w : World) (hx : BytesIn G w x L) (hL : L.length ≤ 1000000000) :
    Calls Try.prog 21 #[x] w fun e w' => ∃ g c, e = .returned (.slice (some ⟨g, 0, none⟩) L.length c) ∧ LentAt (fun k => w.heap.size ≤ k) w' g c L ∧ Fr (fun _ => False) w w' := by
  obtain ⟨ao, cp, hv, h1, hm, h2, h3⟩ := hx
  have HX0 := Lib.hid (show BytesIn G w (.slice ao L.length cp) L from ⟨ao, cp, rfl, h1, hm, h2, h3⟩)
  obtain ⟨n, hn⟩ : ∃ n, n = L.length := ⟨_, rfl⟩
  subst hv
  clear h1 h2 h3 hm
  rw [← hn] at HX0 hL ⊢
  have HN := Lib.hid hn
  clear hn
  obtain ⟨i1, hi1, hz0, hz1, hz2⟩ := info_parts Try.infoB
  have HI1 := Lib.hid (And.intro hi1 (And.intro hz0 (And.intro hz1 hz2)))
  clear hi1 hz0 hz1 hz2
  go_enter Try.func21, Try.ntmps21
  go_wp2_with (first
    | (at_make; refine wpList_make_own w rfl (.const (.int .i64 0)) (.tmp 7) 40 rfl 0 5 i1 (.int .u8 0) 1 Try.underlying40 HI1.out.1 HI1.out.2.1 HI1.out.2.2.1 .i64 .i64 ((n : Int) + 12) (n + 12) rfl rfl (by omega) (by rw [HI1.out.2.2.2]; omega) (by unfold maxLen; omega) (Nat.zero_le _) ?_; intro w2 ho2 hg2; have HO2 := Lib.hid (show OwnB (fun k => w.heap.size ≤ k) w2 (.slice (some ⟨w.heap.size, 0, none⟩) 0 (n + 12)) [] from ⟨ho2, fun g hg => by simp only [Value.ownBlock, Option.some.injEq] at hg; omega⟩); have HF2 := Lib.hid ((Fr.refl (fun _ => False) w).grown hg2 (fun k hk => by cases hk)); clear ho2 hg2)
    | (at_builtin; refine wpList_append_bytes (F := fun k => w.heap.size ≤ k) (G := G) _ rfl (.tmp 9) (.tmp 10) rfl _ _ [] L rfl rfl HO2.out (HX0.out.keep HF2.out (fun _ _ _ h => h)) (by rw [← HN.out]; simp; omega) ?_; intro v3 w3 ho3 hg3 hn3; have HS3 : Hid (OwnB (fun k => w.heap.size ≤ k) w3 v3 (L ++ marks 1 0) ∧ Fr (fun _ => False) w w3) := Lib.hid ⟨by have h := ho3.mono (G := fun k => w.heap.size ≤ k) (fun k _ h => h.elim id (fun h => Nat.le_trans HF2.out.size h)); simpa [marks] using h, HF2.out.grown hg3 (fun k hk => .inr (HO2.out.2 k hk))⟩; clear ho3 hg3 hn3)
    | fail)
  go_loopw [3, 4] (fun gv iv wi => ∃ i : Nat, i ≤ 12 ∧ iv = .int .i64 i ∧ Hid (OwnB (fun k => w.heap.size ≤ k) wi gv (L ++ marks 1 i) ∧ Fr (fun _ => False) w wi)) (fun _ iv _ => 12 - (intOf iv).toNat)
  case atStart => exact ⟨0, by omega, rfl, HS3⟩
  case round =>
    obtain ⟨i, hi, rfl, hw⟩ := hrel
    clear HS3 HO2 HF2 HX0
    by_cases hil : i < 12
    · have HMB : Hid (∀ w', Calls Try.prog 45 #[.int .i64 1, .int .i64 (i : Int)] w' fun e w'' => e = .returned (bv (mB 1 i)) ∧ w' = w'') := Lib.hid fun w' => markByte_any 1 i w' (by omega) (by omega)
      have HBV := Lib.hid (show bv (mB 1 i) = .int .u8 (mB 1 i).toNat from rfl)
      have HP := Lib.hid (hw.out.1.keep' ((Fr.refl (fun _ => False) wr).alloc (.cells #[.int .u8 (mB 1 i).toNat] 5)) (fun _ _ h => h))
      have HQ := Lib.hid (hw.out.2.alloc (.cells #[.int .u8 (mB 1 i).toNat] 5))
      have HOB := Lib.hid (one_b wr _ (mB 1 i) rfl)
      have HLN := Lib.hid (show (L ++ marks 1 i).length + [mB 1 i].length ≤ 140737488355328 by rw [List.length_append, marks_length, ← HN.out]; simp; omega)
      clear hw
      go_wp2_with (first
        | (go_at_call 45; refine (HMB.out _).mono ?_; rintro e w' ⟨rfl, rfl⟩; rw [HBV.out])
        | (at_builtin; refine wpList_append_bytes (F := fun k => w.heap.size ≤ k) (G := fun b => b = wr.heap.size) _ rfl (.tmp 16) (.tmp 19) rfl _ _ (L ++ marks 1 i) [mB 1 i] rfl rfl HP.out HOB.out HLN.out ?_; intro v5 w5 ho5 hg5 hn5; have HS5 : Hid (OwnB (fun k => w.heap.size ≤ k) w5 v5 (L ++ marks 1 (i + 1)) ∧ Fr (fun _ => False) w w5) := Lib.hid ⟨by have h := ho5.mono (G := fun k => w.heap.size ≤ k) (fun k _ h => h.elim id (fun h => Nat.le_trans HQ.out.size h)); rwa [List.append_assoc, ← marks_succ] at h, HQ.out.grown hg5 (fun k hk => .inr (HP.out.2 k hk))⟩; clear ho5 hg5 hn5)
        | fail)
      go_roundw
      case rel => exact ⟨i + 1, by omega, by go_num, HS5⟩
      case measure => simp [intOf]; omega
    · obtain rfl : i = 12 := by omega
      obtain ⟨g, c, hv, hc1, hc2, hc3, _⟩ := hw.out.1.form (by rw [List.length_append, marks_length]; omega)
      rw [List.length_append, marks_length, ← HN.out] at hv hc1
      subst hv
      have HS := Lib.hid hw.out
      have HC2 := Lib.hid hc2
      clear hw hc3 hc2
      go_wp2
      go_ret
      exact ⟨g, c, rfl, ⟨by rw [← HN.out]; exact hc1, HC2.out, by rw [← HN.out]; exact HS.out.1⟩, HS.out.2⟩
end Go.Proofs.Ytcbbcihfooaggaa
namespace Go.Proofs.Ytcbbcihfooaggaa
open Go.RowKit Go.ChangeShapes
set_option linter.unusedVariables false
set_option maxHeartbeats 2000000 in
set_option maxRecDepth 100000 in
theorem KeptBytes_any {F G : Nat → Prop} (y : Value) (g c : Nat) (L : List UInt8) (w : World) (hy : BytesIn G w y L) (hl : LentAt F w g c L) (hL : L.length ≤ 1000000000) :
    Calls Try.prog 26 #[.slice (some ⟨g, 0, none⟩) L.length c, y] w fun e w' => e = .returned (.bool true) ∧ ∃ m, w' = w.drewN m := by
  obtain ⟨hc0, hcm, hown⟩ := hl
  obtain ⟨g', c', hv, _, _, _, hcell⟩ := hown.form (by rw [List.length_append, marks_length]; omega)
  rw [List.length_append, marks_length] at hv hcell
  simp only [Value.slice.injEq, Option.some.injEq, Addr.mk.injEq] at hv
  obtain ⟨⟨rfl, hz8, hz9⟩, hz7, rfl⟩ := hv
  clear hz7 hz8 hz9
  have hyp : ∃ ay cy, y = .slice ay L.length cy := by obtain ⟨ao, cp, hv, _⟩ := hy; exact ⟨ao, cp, hv⟩
  obtain ⟨ay, cy, hy0⟩ := hyp
  subst hy0
  have HY := Lib.hid hy
  have HCL := Lib.hid hcell
  obtain ⟨n, hn⟩ : ∃ n, n = L.length := ⟨_, rfl⟩
  rw [← hn] at hc0 hL HY HCL ⊢
  have HN := Lib.hid hn
  have hcm' : c ≤ 9223372036854775807 := by unfold maxLen at hcm; omega
  clear hn hy hown hcell hcm
  go_enter Try.func26, Try.ntmps26
  go_wp2
  go_loopw [6] (fun iv wr => ∃ i : Nat, i ≤ n + 12 ∧ iv = .int .i64 i ∧ Hid (∃ q, wr = w.drewN q)) (fun iv _ => n + 12 - (intOf iv).toNat)
  case atStart => exact ⟨0, by omega, rfl, Lib.hid ⟨0, rfl⟩⟩
  case round =>
    obtain ⟨i, hi, rfl, HW⟩ := hrel
    have hcell : ∀ p v, w.cell? p = some v → wr.cell? p = some v := fun p v h => by
      obtain ⟨q, rfl⟩ := HW.out
      exact h
    have HCW := Lib.hid hcell
    clear hcell
    by_cases hil : i < n + 12
    · obtain ⟨c1, _⟩ := HCL.out i hil
      by_cases hin : i < n
      · have hg : (L ++ marks 1 12).getD i 0 = L.getD i 0 := by
          rw [List.getD_eq_getElem?_getD, List.getD_eq_getElem?_getD, List.getElem?_append_left (by rw [← HN.out]; exact hin)]
        rw [hg] at c1
        obtain ⟨b2, o2, cp2, hv2, _, _, _, hc2⟩ := HY.out.plain (fun h => by rw [HN.out, h] at hin; simp at hin)
        simp only [Value.slice.injEq] at hv2
        obtain ⟨rfl, hz7, rfl⟩ := hv2
        have c2 : w.cell? ⟨b2, o2 + i, none⟩ = some (.int .u8 (L.getD i 0).toNat) := by
          rw [hc2 i (by rw [← HN.out]; exact hin)]; simp [bv, List.getD, List.getElem?_eq_getElem (show i < L.length by rw [← HN.out]; exact hin)]
        obtain ⟨z, hz⟩ : ∃ z, z = L.getD i 0 := ⟨_, rfl⟩
        rw [← hz] at c1 c2
        replace c1 := HCW.out _ _ c1
        replace c2 := HCW.out _ _ c2
        have hcy : n ≤ cy := by
          obtain ⟨ao, cp, hv, h1, _⟩ := HY.out
          simp only [Value.slice.injEq] at hv
          omega
        have hd2 : decide ((n : Int) ≤ (i : Int)) = false := by simp; omega
        have hd3 : decide (n ≤ i) = false := by simp; omega
        have hd4 : ¬ n ≤ i := by omega
        clear hz7 hc2 hz hg
        go_wp2
        go_quiet (fail)
        go_wp2
        go_roundw
        case rel => exact ⟨i + 1, by omega, by go_num, Lib.hid (by obtain ⟨q, rfl⟩ := HW.out; exact ⟨q + nq, World.drewN_drewN ..⟩)⟩
        case measure => simp [intOf]; omega
      · have hg : (L ++ marks 1 12).getD i 0 = mB 1 (i - n) := by
          rw [List.getD_eq_getElem?_getD, List.getElem?_append_right (by rw [← HN.out]; omega), ← HN.out, marks_get _ _ _ (by omega), Option.getD_some]
        rw [hg] at c1
        replace c1 := HCW.out _ _ c1
        obtain ⟨j, hj⟩ : ∃ j, j = i - n := ⟨_, rfl⟩
        rw [← hj] at c1
        have hd : decide ((i : Int) < (n : Int)) = false := by simp; omega
        have hs : IntKind.i64.wrap ((i : Int) - (n : Int)) = (j : Int) := by
          rw [show (i : Int) - (n : Int) = (j : Int) by omega]
          rw [IntKind.wrap_i64]
          omega
        have hd2 : (n : Int) ≤ (i : Int) := by omega
        have hd3 : n ≤ i := by omega
        have hd4 : decide (i < n) = false := by simp; omega
        have HMB : Hid (∀ q', Calls Try.prog 45 #[.int .i64 1, .int .i64 (j : Int)] (wr.drewN q') fun e w' => e = .returned (.int .u8 (mB 1 j).toNat) ∧ w' = wr.drewN q') := Lib.hid fun q' => mark_quiet 1 j wr q' (by omega) (by omega)
        clear hg hj
        go_wp2
        go_quiet ((go_at_call 45; exact Calls.quiet_of_same (HMB.out _)))
        go_wp2
        go_roundw
        case rel => exact ⟨i + 1, by omega, by go_num, Lib.hid (by obtain ⟨q, rfl⟩ := HW.out; exact ⟨q + nq, World.drewN_drewN ..⟩)⟩
        case measure => simp [intOf]; omega
    · go_wp2
      go_ret
      exact ⟨rfl, HW.out⟩
end Go.Proofs.Ytcbbcihfooaggaa
namespace Go.Proofs.Ytcbbcihfooaggaa
open Go.RowKit Go.ChangeShapes
set_option linter.unusedVariables false
structure Two (X : Nat → Prop) (w0 W : World) (gd gr s : Nat) (d e : Dv) : Prop where
  ex : ∃ D E, DevAt W D gd s d ∧ RefAt W E gr s e ∧ (∀ k, D k → ¬ E k) ∧ (∀ k, D k → (w0.heap.size ≤ k ∧ ¬ X k) ∧ k < W.heap.size) ∧ (∀ k, E k → (w0.heap.size ≤ k ∧ ¬ X k) ∧ k < W.heap.size)
  lt : ∀ k, X k → k < W.heap.size
  fr : Fr (fun _ => False) w0 W
theorem Two.right {X : Nat → Prop} {w0 W : World} {gd gr s : Nat} {d e : Dv} (h : Two X w0 W gd gr s d e) : d.Right s ∧ e.Right s := by
  obtain ⟨D, E, h1, h2, _⟩ := h.ex
  exact ⟨h1.right, h2.right⟩
section
variable {X : Nat → Prop} {w0 W w' : World} {gd gr s : Nat} {d e d' e' : Dv}
theorem more_new {D : Nat → Prop} (h : Two X w0 W gd gr s d e) (hs : W.heap.size ≤ w'.heap.size) (hD : ∀ k, D k → (w0.heap.size ≤ k ∧ ¬ X k) ∧ k < W.heap.size) (k : Nat) (hk : More D W k ∧ k < w'.heap.size) : (w0.heap.size ≤ k ∧ ¬ X k) ∧ k < w'.heap.size := by
  rcases hk.1 with hk1 | hk1
  · exact ⟨(hD k hk1).1, hk.2⟩
  · exact ⟨⟨Nat.le_trans h.fr.size hk1, fun hx => by have := h.lt k hx; omega⟩, hk.2⟩
theorem Two.dev {D E : Nat → Prop} (h : Two X w0 W gd gr s d e) (h2 : RefAt W E gr s e) (h3 : ∀ k, D k → ¬ E k) (h4 : ∀ k, D k → (w0.heap.size ≤ k ∧ ¬ X k) ∧ k < W.heap.size) (h5 : ∀ k, E k → (w0.heap.size ≤ k ∧ ¬ X k) ∧ k < W.heap.size) (hd : DevAt w' (More D W) gd s d') (hf : Fr D W w') : Two X w0 w' gd gr s d' e ∧ Fr (Bare X w0) W w' := by
  refine ⟨⟨⟨fun k => More D W k ∧ k < w'.heap.size, E, hd.mono (fun k hk h => ⟨h, hk⟩), h2.keep hf (fun k _ hE hD => h3 k hD hE), fun k hk hE => ?_, fun k hk => more_new h hf.size h4 k hk, fun k hk => ⟨(h5 k hk).1, Nat.lt_of_lt_of_le (h5 k hk).2 hf.size⟩⟩, fun k hk => Nat.lt_of_lt_of_le (h.lt k hk) hf.size, h.fr.trans hf (fun k hk => .inr (h4 k hk).1.1)⟩, hf.mono (fun k _ hk => (h4 k hk).1)⟩
  rcases hk.1 with hk1 | hk1
  · exact h3 k hk1 hE
  · have := (h5 k hE).2; omega
theorem Two.ref {D E : Nat → Prop} (h : Two X w0 W gd gr s d e) (h1 : DevAt W D gd s d) (h3 : ∀ k, D k → ¬ E k) (h4 : ∀ k, D k → (w0.heap.size ≤ k ∧ ¬ X k) ∧ k < W.heap.size) (h5 : ∀ k, E k → (w0.heap.size ≤ k ∧ ¬ X k) ∧ k < W.heap.size) (hd : RefAt w' (More E W) gr s e') (hf : Fr E W w') : Two X w0 w' gd gr s d e' ∧ Fr (Bare X w0) W w' := by
  refine ⟨⟨⟨D, fun k => More E W k ∧ k < w'.heap.size, h1.keep hf (fun k _ hD hE => h3 k hD hE), hd.mono (fun k hk h => ⟨h, hk⟩), fun k hk hE => ?_, fun k hk => ⟨(h4 k hk).1, Nat.lt_of_lt_of_le (h4 k hk).2 hf.size⟩, fun k hk => more_new h hf.size h5 k hk⟩, fun k hk => Nat.lt_of_lt_of_le (h.lt k hk) hf.size, h.fr.trans hf (fun k hk => .inr (h5 k hk).1.1)⟩, hf.mono (fun k _ hk => (h5 k hk).1)⟩
  rcases hE.1 with hE1 | hE1
  · exact h3 k hk hE1
  · have := (h4 k hk).2; omega
theorem Two.away {S : Nat → Prop} (h : Two X w0 W gd gr s d e) (hf : Fr S W w') (hS : ∀ k, S k → (X k ∧ w0.heap.size ≤ k) ∨ W.heap.size ≤ k) : Two X w0 w' gd gr s d e := by
  obtain ⟨D, E, h1, h2, h3, h4, h5⟩ := h.ex
  exact ⟨⟨D, E, h1.keep hf (fun k _ hD hs => (hS k hs).elim (fun hx => (h4 k hD).1.2 hx.1) (fun hx => by have := (h4 k hD).2; omega)), h2.keep hf (fun k _ hE hs => (hS k hs).elim (fun hx => (h5 k hE).1.2 hx.1) (fun hx => by have := (h5 k hE).2; omega)), h3, fun k hk => ⟨(h4 k hk).1, Nat.lt_of_lt_of_le (h4 k hk).2 hf.size⟩, fun k hk => ⟨(h5 k hk).1, Nat.lt_of_lt_of_le (h5 k hk).2 hf.size⟩⟩, fun k hk => Nat.lt_of_lt_of_le (h.lt k hk) hf.size, h.fr.trans hf (fun k hk => (hS k hk).elim (fun hx => .inr hx.2) (fun hx => .inr (Nat.le_trans h.fr.size hx)))⟩
theorem Two.quiet (h : Two X w0 W gd gr s d e) (hf : Fr (fun _ => False) W w') : Two X w0 w' gd gr s d e := h.away hf (fun _ h => h.elim)
theorem Two.add (h : Two X w0 W gd gr s d e) (hf : Fr (fun _ => False) W w') : Two (fun k => X k ∨ (W.heap.size ≤ k ∧ k < w'.heap.size)) w0 w' gd gr s d e := by
  obtain ⟨D, E, h1, h2, h3, h4, h5⟩ := (h.quiet hf).ex
  obtain ⟨D', E', h1', h2', h3', h4', h5'⟩ := h.ex
  refine ⟨⟨D', E', h1'.keep hf (fun _ _ _ h => h), h2'.keep hf (fun _ _ _ h => h), h3', fun k hk => ⟨⟨(h4' k hk).1.1, fun hx => hx.elim (h4' k hk).1.2 (fun hx => by have := (h4' k hk).2; omega)⟩, Nat.lt_of_lt_of_le (h4' k hk).2 hf.size⟩, fun k hk => ⟨⟨(h5' k hk).1.1, fun hx => hx.elim (h5' k hk).1.2 (fun hx => by have := (h5' k hk).2; omega)⟩, Nat.lt_of_lt_of_le (h5' k hk).2 hf.size⟩⟩, fun k hk => hk.elim (fun hk => Nat.lt_of_lt_of_le (h.lt k hk) hf.size) (fun hk => hk.2), h.fr.trans hf (fun _ h => h.elim)⟩
theorem Two.less {Y : Nat → Prop} (h : Two X w0 W gd gr s d e) (hy : ∀ k, Y k → X k) : Two Y w0 W gd gr s d e := by
  obtain ⟨D, E, h1, h2, h3, h4, h5⟩ := h.ex
  exact ⟨⟨D, E, h1, h2, h3, fun k hk => ⟨⟨(h4 k hk).1.1, fun hx => (h4 k hk).1.2 (hy k hx)⟩, (h4 k hk).2⟩, fun k hk => ⟨⟨(h5 k hk).1.1, fun hx => (h5 k hk).1.2 (hy k hx)⟩, (h5 k hk).2⟩⟩, fun k hk => h.lt k (hy k hk), h.fr⟩
end
variable {X : Nat → Prop} (w0 W : World) (gd gr s : Nat) (d e : Dv)
theorem tFuse (n : Int) (hn0 : -9223372036854775808 ≤ n) (hn : n ≤ 9223372036854775807) (h : Two X w0 W gd gr s d e) :
    Calls Try.prog 22 #[.pointer (some ⟨gd, 0, none⟩), .int .i64 n] W fun r w' => r = .returned (.int .i64 (d.fuse n).1) ∧ Two X w0 w' gd gr s (d.fuse n).2 e ∧ Fr (Bare X w0) W w' := by
  obtain ⟨D, E, h1, h2, h3, h4, h5⟩ := h.ex
  exact (aFuse W gd s d n hn hn0 h1).mono fun r w' ⟨he, hd, hf⟩ => ⟨he, h.dev h2 h3 h4 h5 hd hf⟩
theorem uFuse (n : Int) (hn0 : -9223372036854775808 ≤ n) (hn : n ≤ 9223372036854775807) (h : Two X w0 W gd gr s d e) :
    Calls Try.prog 23 #[.pointer (some ⟨gr, 0, none⟩), .int .i64 n] W fun r w' => r = .returned (.int .i64 (e.fuse n).1) ∧ Two X w0 w' gd gr s d (e.fuse n).2 ∧ Fr (Bare X w0) W w' := by
  obtain ⟨D, E, h1, h2, h3, h4, h5⟩ := h.ex
  exact (bFuse W gr s e n hn hn0 h2).mono fun r w' ⟨he, hd, hf⟩ => ⟨he, h.ref h1 h3 h4 h5 hd hf⟩
theorem tWake (n : Int) (hn0 : -9223372036854775808 ≤ n) (hn : n ≤ 9223372036854775807) (hn6 : d.waits.length ≤ 1000000) (h : Two X w0 W gd gr s d e) :
    Calls Try.prog 33 #[.pointer (some ⟨gd, 0, none⟩), .int .i64 n] W fun r w' => r = .returned (.int .i64 (d.wake n).1) ∧ Two X w0 w' gd gr s (d.wake n).2 e ∧ Fr (Bare X w0) W w' := by
  obtain ⟨D, E, h1, h2, h3, h4, h5⟩ := h.ex
  exact (aWake W gd s d n hn0 hn hn6 h1).mono fun r w' ⟨he, hd, hf⟩ => ⟨he, h.dev h2 h3 h4 h5 hd hf⟩
theorem uWake (n : Int) (hn0 : -9223372036854775808 ≤ n) (hn : n ≤ 9223372036854775807) (hn6 : e.waits.length ≤ 1000000) (h : Two X w0 W gd gr s d e) :
    Calls Try.prog 34 #[.pointer (some ⟨gr, 0, none⟩), .int .i64 n] W fun r w' => r = .returned (.int .i64 (e.wake n).1) ∧ Two X w0 w' gd gr s d (e.wake n).2 ∧ Fr (Bare X w0) W w' := by
  obtain ⟨D, E, h1, h2, h3, h4, h5⟩ := h.ex
  exact (bWake W gr s e n hn0 hn hn6 h2).mono fun r w' ⟨he, hd, hf⟩ => ⟨he, h.ref h1 h3 h4 h5 hd hf⟩
theorem tKept (h : Two X w0 W gd gr s d e) :
    Calls Try.prog 31 #[.pointer (some ⟨gd, 0, none⟩)] W fun r w' => ∃ v, r = .returned v ∧ ToldT (fun k => W.heap.size ≤ k) w' v d.all ∧ Two X w0 w' gd gr s d e ∧ Fr (fun _ => False) W w' := by
  obtain ⟨D, E, h1, h2, h3, h4, h5⟩ := h.ex
  exact (aKept W gd s d h1).mono fun r w' ⟨v, he, ho, hf⟩ => ⟨v, he, ToldT.ofOwn ho, h.quiet hf, hf⟩
theorem tStat (h : Two X w0 W gd gr s d e) :
    Calls Try.prog 32 #[.pointer (some ⟨gd, 0, none⟩)] W fun r w' => r = .returned (.agg #[.int .i64 s, .int .i64 d.waits.length, .int .i64 d.deeds, .bool d.down]) ∧ Two X w0 w' gd gr s d e ∧ Fr (fun _ => False) W w' := by
  obtain ⟨D, E, h1, h2, h3, h4, h5⟩ := h.ex
  exact (aStat W gd s d h1).mono fun r w' ⟨he, hf⟩ => ⟨he, h.quiet hf, hf⟩
end Go.Proofs.Ytcbbcihfooaggaa
namespace Go.Proofs.Ytcbbcihfooaggaa
open Go.RowKit Go.ChangeShapes
set_option linter.unusedVariables false
theorem rWrite_any {D F G : Nat → Prop} (w : World) (g s : Nat) (dv : Dv) (L A Dt : Int) (vb v : Value) (b : List UInt8) (l : List Rn) (h : RefAt w D g s dv) (hs2 : s ≤ 8192) (hup : dv.down = false) (hk6 : dv.deeds ≤ 900000000) (hn6 : dv.waits.length ≤ 900000) (hb : BytesIn G w vb b) (hbl : b.length ≤ 1000000000) (hG : ∀ k, G k → k < w.heap.size ∧ ¬ D k) (hL : RnsIn F w v l) (hF : ∀ k, F k → k < w.heap.size) :
    Calls Try.prog 25 #[.pointer (some ⟨g, 0, none⟩), .agg #[.int .i64 L, .int .i64 A, .int .i64 Dt], vb, v] w (WriteR w D g s (wrA s dv L A Dt b l)) := by
  rcases fit7_cases s L A Dt (b.length : Int) l with hr | ⟨hr, hap, hm, hc, hS⟩
  · have e : wrA s dv L A Dt b l = (2, dv) := by unfold wrA; rw [hr, if_neg (by decide)]
    rw [e]
    exact (rWrite_bad w g s dv L A Dt vb v b l h hs2 hb hbl hL hF hr).mono fun e w' ⟨he, hf⟩ => ⟨he, (h.keep hf (fun _ _ _ h => h)).mono (fun k _ hk => .inl hk), hf.mono (fun _ _ h => h.elim)⟩
  · obtain ⟨l0, la, d, s0, rfl, rfl, rfl, hs, hap0⟩ := ap7_open hap
    have hsec : secsS (l0 : Int) la d = s0 := secs7_ap (L := 0) (A := 0) (D := 0) hap hs
    have e : wrA s dv l0 la d b l = dv.wr7 s (1 + l0 + 2 * la) (secs7 l) b := by
      unfold wrA
      rw [if_pos hr]
      congr 1
    rw [e]
    exact rWrite_yes w g s dv l0 la d s0 vb v b l h hs2 hup hk6 hn6 hb hbl hG hL hF hs (by omega) hap0 hc
theorem rRead_any {D F : Nat → Prop} (w : World) (g s : Nat) (dv : Dv) (L A Dt many : Int) (v : Value) (l : List Rn) (h : RefAt w D g s dv) (hs2 : s ≤ 8192) (hn6 : dv.waits.length ≤ 1000000) (hm2 : many ≤ 9223372036854775807) (hL : RnsIn F w v l) (hF : ∀ k, F k → k < w.heap.size) :
    Calls Try.prog 29 #[.pointer (some ⟨g, 0, none⟩), .agg #[.int .i64 L, .int .i64 A, .int .i64 Dt], .int .i64 many, v] w (ReadR w (rdA s dv L A Dt many l)) := by
  rcases fit7_cases s L A Dt many l with hr | ⟨hr, hap, hm, hc, hS⟩
  · have e : rdA s dv L A Dt many l = (2, []) := by unfold rdA; rw [hr, if_neg (by decide)]
    rw [e]
    exact (rRead_bad w g s dv L A Dt many v l h hs2 hm2 hL hF hr).mono fun e w' ⟨he, hf⟩ => ⟨.slice none 0 0, he, BytesIn.nil _ _, hf⟩
  · obtain ⟨l0, la, d, s0, rfl, rfl, rfl, hs, hap0⟩ := ap7_open hap
    have hsec : secsS (l0 : Int) la d = s0 := secs7_ap (L := 0) (A := 0) (D := 0) hap hs
    obtain ⟨mn, rfl⟩ : ∃ mn : Nat, many = mn := ⟨many.toNat, by omega⟩
    have hcn := apart7_le hap0
    have hd : d ≤ 8192 := by have := hs.sum; have := hs.most; omega
    have hc2 := hc
    rw [need7_nat] at hc2
    have e : rdA s dv l0 la d mn l = ((dv.rd7 s (1 + l0 + 2 * la) (secs7 l)).1, (dv.rd7 s (1 + l0 + 2 * la) (secs7 l)).2.take mn) := by
      unfold rdA
      rw [if_pos hr]
      have e1 : (1 + (l0 : Int) + 2 * (la : Int)).toNat = 1 + l0 + 2 * la := by omega
      rw [e1, Int.toNat_natCast]
    rw [e]
    exact rRead_yes w g s dv l0 la d s0 mn v l h hs2 hn6 (by omega) hL hF hs (by omega) hap0 hc
section
variable {X F G : Nat → Prop} (w0 W : World) (gd gr s : Nat) (d e : Dv) (L A Dt : Int)
theorem tWr7 (vb v : Value) (b : List UInt8) (l : List Rn) (hs1 : 1 ≤ s) (hs2 : s ≤ 8192) (hup : d.down = false) (hk6 : d.deeds ≤ 900000000) (hn6 : d.waits.length ≤ 900000) (hb : BytesIn G W vb b) (hbl : b.length ≤ 1000000000) (hG : ∀ k, G k → k < w0.heap.size ∨ X k) (hL : RnsIn F W v l) (hF : ∀ k, F k → k < w0.heap.size) (h : Two X w0 W gd gr s d e) :
    Calls Try.prog 24 #[.pointer (some ⟨gd, 0, none⟩), .agg #[.int .i64 L, .int .i64 A, .int .i64 Dt], vb, v] W fun r w' => r = .returned (.int .i64 (wrA s d L A Dt b l).1) ∧ Two X w0 w' gd gr s (wrA s d L A Dt b l).2 e ∧ Fr (Bare X w0) W w' := by
  obtain ⟨D, E, h1, h2, h3, h4, h5⟩ := h.ex
  refine (bWrite_any W gd s d L A Dt vb v b l h1 hs1 hs2 hup hk6 hn6 hb hbl hL (fun k hk => Nat.lt_of_lt_of_le (hF k hk) h.fr.size) (fun k hk hd => by have := hF k hk; have := (h4 k hd).1.1; omega) (fun k hk => (hG k hk).elim (fun hx => ⟨Nat.lt_of_lt_of_le hx h.fr.size, fun hD => by have := (h4 k hD).1.1; omega⟩) (fun hx => ⟨h.lt k hx, fun hD => (h4 k hD).1.2 hx⟩))).mono ?_
  rintro r w' ⟨he, hd, hf⟩
  exact ⟨he, h.dev h2 h3 h4 h5 hd hf⟩
theorem uWr7 (vb v : Value) (b : List UInt8) (l : List Rn) (hs2 : s ≤ 8192) (hup : e.down = false) (hk6 : e.deeds ≤ 900000000) (hn6 : e.waits.length ≤ 900000) (hb : BytesIn G W vb b) (hbl : b.length ≤ 1000000000) (hG : ∀ k, G k → k < w0.heap.size ∨ X k) (hL : RnsIn F W v l) (hF : ∀ k, F k → k < w0.heap.size) (h : Two X w0 W gd gr s d e) :
    Calls Try.prog 25 #[.pointer (some ⟨gr, 0, none⟩), .agg #[.int .i64 L, .int .i64 A, .int .i64 Dt], vb, v] W fun r w' => r = .returned (.int .i64 (wrA s e L A Dt b l).1) ∧ Two X w0 w' gd gr s d (wrA s e L A Dt b l).2 ∧ Fr (Bare X w0) W w' := by
  obtain ⟨D, E, h1, h2, h3, h4, h5⟩ := h.ex
  refine (rWrite_any W gr s e L A Dt vb v b l h2 hs2 hup hk6 hn6 hb hbl (fun k hk => (hG k hk).elim (fun hx => ⟨Nat.lt_of_lt_of_le hx h.fr.size, fun hE => by have := (h5 k hE).1.1; omega⟩) (fun hx => ⟨h.lt k hx, fun hE => (h5 k hE).1.2 hx⟩)) hL (fun k hk => Nat.lt_of_lt_of_le (hF k hk) h.fr.size)).mono ?_
  rintro r w' ⟨he, hd, hf⟩
  exact ⟨he, h.ref h1 h3 h4 h5 hd hf⟩
theorem tRd7 (many : Int) (v : Value) (l : List Rn) (hs1 : 1 ≤ s) (hs2 : s ≤ 8192) (hn6 : d.waits.length ≤ 1000000) (hm1 : -9223372036854775808 ≤ many) (hm2 : many ≤ 9223372036854775807) (hL : RnsIn F W v l) (hF : ∀ k, F k → k < w0.heap.size) (h : Two X w0 W gd gr s d e) :
    Calls Try.prog 28 #[.pointer (some ⟨gd, 0, none⟩), .agg #[.int .i64 L, .int .i64 A, .int .i64 Dt], .int .i64 many, v] W fun r w' => ∃ u, r = .returned (.tuple #[u, .int .i64 (rdA s d L A Dt many l).1]) ∧ OwnB (fun k => W.heap.size ≤ k) w' u (rdA s d L A Dt many l).2 ∧ Two X w0 w' gd gr s d e ∧ Fr (fun _ => False) W w' := by
  obtain ⟨D, E, h1, h2, h3, h4, h5⟩ := h.ex
  refine (bRead_any W gd s d L A Dt many v l h1 hs1 hs2 hn6 hm1 hm2 hL (fun k hk => Nat.lt_of_lt_of_le (hF k hk) h.fr.size)).mono ?_
  rintro r w' ⟨u, he, ho, hf⟩
  exact ⟨u, he, ho, h.quiet hf, hf⟩
theorem uRd7 (many : Int) (v : Value) (l : List Rn) (hs2 : s ≤ 8192) (hn6 : e.waits.length ≤ 1000000) (hm2 : many ≤ 9223372036854775807) (hL : RnsIn F W v l) (hF : ∀ k, F k → k < w0.heap.size) (h : Two X w0 W gd gr s d e) :
    Calls Try.prog 29 #[.pointer (some ⟨gr, 0, none⟩), .agg #[.int .i64 L, .int .i64 A, .int .i64 Dt], .int .i64 many, v] W fun r w' => ∃ u, r = .returned (.tuple #[u, .int .i64 (rdA s e L A Dt many l).1]) ∧ BytesIn (fun k => W.heap.size ≤ k) w' u (rdA s e L A Dt many l).2 ∧ Two X w0 w' gd gr s d e ∧ Fr (fun _ => False) W w' := by
  obtain ⟨D, E, h1, h2, h3, h4, h5⟩ := h.ex
  refine (rRead_any W gr s e L A Dt many v l h2 hs2 hn6 hm2 hL (fun k hk => Nat.lt_of_lt_of_le (hF k hk) h.fr.size)).mono ?_
  rintro r w' ⟨u, he, ho, hf⟩
  exact ⟨u, he, ho, h.quiet hf, hf⟩
end
theorem Dv.write_le (d : Dv) (s : Nat) (a : Int) (b : List UInt8) : (d.write s a b).2.deeds ≤ d.deeds + 1 ∧ (d.write s a b).2.waits.length ≤ d.waits.length + 1 := by
  unfold Dv.write Dv.deed
  split
  · exact ⟨Nat.le_succ _, Nat.le_succ _⟩
  · split
    · exact ⟨Nat.le_succ _, Nat.le_succ _⟩
    · by_cases h : d.left = 1
      · simp [if_pos h]
      · simp [if_neg h]
theorem Dv.flush_le (d : Dv) : d.flush.2.deeds ≤ d.deeds + 1 ∧ d.flush.2.waits.length ≤ d.waits.length + 1 := by
  unfold Dv.flush Dv.deed
  split
  · exact ⟨Nat.le_succ _, Nat.le_succ _⟩
  · by_cases h : d.left = 1
    · simp [if_pos h]
    · simp [if_neg h]
theorem Dv.puts_le (s : Nat) : ∀ (ps : List Pend) (d : Dv), (d.puts s ps).2.deeds ≤ d.deeds + ps.length ∧ (d.puts s ps).2.waits.length ≤ d.waits.length + ps.length
  | [], d => ⟨Nat.le_refl _, Nat.le_refl _⟩
  | p :: ps, d => by
    have h1 := Dv.write_le d s p.1 p.2
    have h2 := Dv.puts_le s ps (d.write s p.1 p.2).2
    rw [Dv.puts, List.length_cons]
    split
    · omega
    · omega
theorem wrA_le (s : Nat) (dv : Dv) (L A D : Int) (b : List UInt8) (l : List Rn) : (wrA s dv L A D b l).2.deeds ≤ dv.deeds + 8193 ∧ (wrA s dv L A D b l).2.waits.length ≤ dv.waits.length + 8193 := by
  rcases fit7_cases s L A D (b.length : Int) l with hr | ⟨hr, hap, hm, hc, hS⟩
  · unfold wrA
    rw [hr, if_neg (by decide)]
    exact ⟨by simp only; omega, by simp only; omega⟩
  · obtain ⟨l0, la, d, s0, rfl, rfl, rfl, hs, hap0⟩ := ap7_open hap
    have hle := apart7_le hap0
    have hd : d ≤ 8192 := by have := hs.sum; have := hs.most; omega
    unfold wrA
    rw [if_pos hr]
    obtain ⟨f, hf⟩ : ∃ f, f = (1 + (l0 : Int) + 2 * (la : Int)).toNat := ⟨_, rfl⟩
    rw [← hf]
    have h1 := Dv.puts_le s (pends7 f (secs7 l) b) dv
    rw [pends7_length] at h1
    unfold Dv.wr7
    split
    · have h2 := Dv.flush_le (dv.puts s (pends7 f (secs7 l) b)).2
      omega
    · omega
theorem Dv.fuse_up {d : Dv} (n : Int) (h : d.down = false) : (d.fuse n).2.down = false ∧ (d.fuse n).2.deeds = d.deeds ∧ (d.fuse n).2.waits = d.waits := by
  unfold Dv.fuse
  rw [if_neg (by rw [h]; decide)]
  exact ⟨h, rfl, rfl⟩
theorem Dv.wake_dn {d : Dv} (n : Int) (h : d.down = true) : (d.wake n).2.down = false ∧ (d.wake n).2.deeds = d.deeds ∧ (d.wake n).2.waits = [] := by
  unfold Dv.wake
  rw [if_pos h]
  exact ⟨rfl, rfl, rfl⟩
end Go.Proofs.Ytcbbcihfooaggaa
namespace Go.Proofs.Ytcbbcihfooaggaa
open Go.RowKit Go.ChangeShapes Go.WideShapes Go.Deep
set_option linter.unusedVariables false
structure PutD where
  vb : Value
  B : List UInt8
  vr : Value
  R : List Rn
  many : Int
  n : Int
def IntOk (n : Int) : Prop := -9223372036854775808 ≤ n ∧ n ≤ 9223372036854775807
structure PutAt (F : Nat → Prop) (w : World) (b o : Nat) (p : PutD) : Prop where
  cb : w.cell? ⟨b, o, none⟩ = some p.vb
  cr : w.cell? ⟨b, o + 1, none⟩ = some p.vr
  cm : w.cell? ⟨b, o + 2, none⟩ = some (.int .i64 p.many)
  cn : w.cell? ⟨b, o + 3, none⟩ = some (.int .i64 p.n)
  bytes : BytesIn F w p.vb p.B
  runs : RnsIn F w p.vr p.R
  in_ : F b
  wf : IntOk p.many ∧ IntOk p.n
theorem PutAt.keep {F S : Nat → Prop} {w w' : World} {b o : Nat} {p : PutD} (h : PutAt F w b o p) (hf : Fr S w w') (hd : ∀ k, k < w.heap.size → F k → ¬ S k) : PutAt F w' b o p := by
  have hb : ¬ S b := hd b (World.block_lt_of_cell? _ _ h.cb) h.in_
  exact ⟨hf.cell h.cb hb, hf.cell h.cr hb, hf.cell h.cm hb, hf.cell h.cn hb, h.bytes.keep hf hd, h.runs.keep hf hd, h.in_, h.wf⟩
def PutsIn (F : Nat → Prop) (w : World) (v : Value) (l : List PutD) : Prop :=
  ∃ ao cap, v = .slice ao l.length cap ∧ l.length ≤ cap ∧ l.length * 64 ≤ 140737488351232 ∧ (∀ p ∈ l, p.B.length ≤ 140737488351232 ∧ p.R.length * 16 ≤ 140737488351232) ∧
    (l ≠ [] → ∃ b off, ao = some ⟨b, off, none⟩ ∧ ∀ i (h : i < l.length), PutAt F w b (off + i * 4) l[i])
theorem PutsIn.keep {F S : Nat → Prop} {w w' : World} {v : Value} {l : List PutD} (h : PutsIn F w v l) (hf : Fr S w w') (hd : ∀ k, k < w.heap.size → F k → ¬ S k) : PutsIn F w' v l := by
  obtain ⟨ao, cap, hv, h1, h2, h3, h4⟩ := h
  refine ⟨ao, cap, hv, h1, h2, h3, fun hl => ?_⟩
  obtain ⟨b, off, ha, hi⟩ := h4 hl
  exact ⟨b, off, ha, fun i h => (hi i h).keep hf hd⟩
theorem PutsIn.mono {F G : Nat → Prop} {w : World} {v : Value} {l : List PutD} (h : PutsIn F w v l) (hd : ∀ k, k < w.heap.size → F k → G k) : PutsIn G w v l := by
  obtain ⟨ao, cap, hv, h1, h2, h3, h4⟩ := h
  refine ⟨ao, cap, hv, h1, h2, h3, fun hl => ?_⟩
  obtain ⟨b, off, ha, hi⟩ := h4 hl
  exact ⟨b, off, ha, fun i h => let p := hi i h; ⟨p.cb, p.cr, p.cm, p.cn, p.bytes.mono hd, p.runs.mono hd, hd b (World.block_lt_of_cell? _ _ p.cb) p.in_, p.wf⟩⟩
def PutD.len (p : PutD) : Nat := p.B.length + 10 * p.R.length
def putsLen (l : List PutD) : Nat := (l.map PutD.len).sum
theorem putsLen_succ (l : List PutD) (k : Nat) (h : k < l.length) : putsLen (l.take (k + 1)) = putsLen (l.take k) + l[k].len := by
  unfold putsLen
  rw [List.take_succ_eq_append_getElem h, List.map_append, List.sum_append]
  congr 1
theorem putsLen_mem : ∀ (l : List PutD) (p : PutD), p ∈ l → p.len ≤ putsLen l
  | [], p, h => by cases h
  | q :: l, p, h => by
    unfold putsLen
    rw [List.map_cons, List.sum_cons]
    rcases List.mem_cons.1 h with rfl | h
    · omega
    · have := putsLen_mem l p h
      unfold putsLen at this
      omega
section
variable {H : Type} {enc : TypeId × Value → H} {w : World} {base fuel : Nat} {held : Bool} {cs : List Value} {x : DataW H × List MemPlace}
end
end Go.Proofs.Ytcbbcihfooaggaa
