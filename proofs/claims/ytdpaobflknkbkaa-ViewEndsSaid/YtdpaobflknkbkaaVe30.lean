/- Laid together: Lent Kept VWv VOl VSe -/
import Derived.Test.YtdpaobflknkbkaaVe29
import Derived.Test.YtdpaobflknkbkaaRows
import Derived.WalkKit
import Derived.Test.YtdpaobflknkbkaaVe0
import Derived.Deep.LoopGhost
import Derived.Test.YtdpaobflknkbkaaVe18
import Derived.Test.YtdpaobflknkbkaaVe28
import Derived.Test.YtdpaobflknkbkaaVe27
import Derived.Test.YtdpaobflknkbkaaVe26
import Derived.Test.YtdpaobflknkbkaaVe25
import Derived.Test.YtdpaobflknkbkaaVe24
import Derived.Test.YtdpaobflknkbkaaVe23
import Derived.Deep.MidRow

namespace Go.Proofs.Ytdpaobflknkbkaa
open Go.RowKit Go.ChangeShapes
set_option linter.unusedVariables false
theorem one_b (w : World) (z : Int) (x : UInt8) (hz : z = x.toNat) : BytesIn (fun k => k = w.heap.size) (w.alloc (.cells #[.int .u8 z] 5)) (.slice (some ⟨w.heap.size, 0, none⟩) 1 1) [x] := by
  subst hz
  refine ⟨_, 1, rfl, Nat.le_refl _, by simp [maxLen], (fun h => by cases h), ?_⟩
  intro a ha
  cases ha
  refine ⟨fun j u hu => ?_, fun _ => rfl⟩
  match j, hu with
  | 0, hu =>
    simp at hu
    subst hu
    have := heap_alloc_new w (.cells #[bv x] 5)
    simp only [Addr.add, if_true]
    exact cell_of_one this
def LentAt (F : Nat → Prop) (w : World) (g c : Nat) (L : List UInt8) : Prop :=
  L.length + 12 ≤ c ∧ c ≤ maxLen ∧ OwnB F w (.slice (some ⟨g, 0, none⟩) (L.length + 12) c) (L ++ marks 1 12)
set_option maxHeartbeats 1000000 in
theorem LentBytes_any {G : Nat → Prop} (x : Value) (L : List UInt8) (w : World) (hx : BytesIn G w x L) (hL : L.length ≤ 1000000000) :
    Calls Try.prog 38 #[x] w fun e w' => ∃ g c, e = .returned (.slice (some ⟨g, 0, none⟩) L.length c) ∧ LentAt (fun k => w.heap.size ≤ k) w' g c L ∧ Fr (fun _ => False) w w' := by
  obtain ⟨ao, cp, hv, h1, hm, h2, h3⟩ := hx
  have HX0 := Lib.hid (show BytesIn G w (.slice ao L.length cp) L from ⟨ao, cp, rfl, h1, hm, h2, h3⟩)
  obtain ⟨n, hn⟩ : ∃ n, n = L.length := ⟨_, rfl⟩
  subst hv
  clear h1 h2 h3 hm
  rw [← hn] at HX0 hL ⊢
  have HN := Lib.hid hn
  clear hn
  obtain ⟨i1, hi1, hz0, hz1, hz2⟩ := info_parts Try.infoB
  have HI1 := Lib.hid (And.intro hi1 (And.intro hz0 (And.intro hz1 hz2)))
  clear hi1 hz0 hz1 hz2
  go_enter Try.func38, Try.ntmps38
  go_wp2_with (first
    | (at_make; refine wpList_make_own w rfl (.const (.int .i64 0)) (.tmp 7) 44 rfl 0 5 i1 (.int .u8 0) 1 Try.underlying44 HI1.out.1 HI1.out.2.1 HI1.out.2.2.1 .i64 .i64 ((n : Int) + 12) (n + 12) rfl rfl (by omega) (by rw [HI1.out.2.2.2]; omega) (by unfold maxLen; omega) (Nat.zero_le _) ?_; intro w2 ho2 hg2; have HO2 := Lib.hid (show OwnB (fun k => w.heap.size ≤ k) w2 (.slice (some ⟨w.heap.size, 0, none⟩) 0 (n + 12)) [] from ⟨ho2, fun g hg => by simp only [Value.ownBlock, Option.some.injEq] at hg; omega⟩); have HF2 := Lib.hid ((Fr.refl (fun _ => False) w).grown hg2 (fun k hk => by cases hk)); clear ho2 hg2)
    | (at_builtin; refine wpList_append_bytes (F := fun k => w.heap.size ≤ k) (G := G) _ rfl (.tmp 9) (.tmp 10) rfl _ _ [] L rfl rfl HO2.out (HX0.out.keep HF2.out (fun _ _ _ h => h)) (by rw [← HN.out]; simp; omega) ?_; intro v3 w3 ho3 hg3 hn3; have HS3 : Hid (OwnB (fun k => w.heap.size ≤ k) w3 v3 (L ++ marks 1 0) ∧ Fr (fun _ => False) w w3) := Lib.hid ⟨by have h := ho3.mono (G := fun k => w.heap.size ≤ k) (fun k _ h => h.elim id (fun h => Nat.le_trans HF2.out.size h)); simpa [marks] using h, HF2.out.grown hg3 (fun k hk => .inr (HO2.out.2 k hk))⟩; clear ho3 hg3 hn3)
    | fail)
  go_loopw [3, 4] (fun gv iv wi => ∃ i : Nat, i ≤ 12 ∧ iv = .int .i64 i ∧ Hid (OwnB (fun k => w.heap.size ≤ k) wi gv (L ++ marks 1 i) ∧ Fr (fun _ => False) w wi)) (fun _ iv _ => 12 - (intOf iv).toNat)
  case atStart => exact ⟨0, by omega, rfl, HS3⟩
  case round =>
    obtain ⟨i, hi, rfl, hw⟩ := hrel
    clear HS3 HO2 HF2 HX0
    by_cases hil : i < 12
    · have HMB : Hid (∀ w', Calls Try.prog 66 #[.int .i64 1, .int .i64 (i : Int)] w' fun e w'' => e = .returned (bv (mB 1 i)) ∧ w' = w'') := Lib.hid fun w' => markByte_any 1 i w' (by omega) (by omega)
      have HBV := Lib.hid (show bv (mB 1 i) = .int .u8 (mB 1 i).toNat from rfl)
      have HP := Lib.hid (hw.out.1.keep' ((Fr.refl (fun _ => False) wr).alloc (.cells #[.int .u8 (mB 1 i).toNat] 5)) (fun _ _ h => h))
      have HQ := Lib.hid (hw.out.2.alloc (.cells #[.int .u8 (mB 1 i).toNat] 5))
      have HOB := Lib.hid (one_b wr _ (mB 1 i) rfl)
      have HLN := Lib.hid (show (L ++ marks 1 i).length + [mB 1 i].length ≤ 140737488355328 by rw [List.length_append, marks_length, ← HN.out]; simp; omega)
      clear hw
      go_wp2_with (first
        | (go_at_call 66; refine (HMB.out _).mono ?_; rintro e w' ⟨rfl, rfl⟩; rw [HBV.out])
        | (at_builtin; refine wpList_append_bytes (F := fun k => w.heap.size ≤ k) (G := fun b => b = wr.heap.size) _ rfl (.tmp 16) (.tmp 19) rfl _ _ (L ++ marks 1 i) [mB 1 i] rfl rfl HP.out HOB.out HLN.out ?_; intro v5 w5 ho5 hg5 hn5; have HS5 : Hid (OwnB (fun k => w.heap.size ≤ k) w5 v5 (L ++ marks 1 (i + 1)) ∧ Fr (fun _ => False) w w5) := Lib.hid ⟨by have h := ho5.mono (G := fun k => w.heap.size ≤ k) (fun k _ h => h.elim id (fun h => Nat.le_trans HQ.out.size h)); rwa [List.append_assoc, ← marks_succ] at h, HQ.out.grown hg5 (fun k hk => .inr (HP.out.2 k hk))⟩; clear ho5 hg5 hn5)
        | fail)
      go_roundw
      case rel => exact ⟨i + 1, by omega, by go_num, HS5⟩
      case measure => simp [intOf]; omega
    · obtain rfl : i = 12 := by omega
      obtain ⟨g, c, hv, hc1, hc2, hc3, _⟩ := hw.out.1.form (by rw [List.length_append, marks_length]; omega)
      rw [List.length_append, marks_length, ← HN.out] at hv hc1
      subst hv
      have HS := Lib.hid hw.out
      have HC2 := Lib.hid hc2
      clear hw hc3 hc2
      go_wp2
      go_ret
      exact ⟨g, c, rfl, ⟨by rw [← HN.out]; exact hc1, HC2.out, by rw [← HN.out]; exact HS.out.1⟩, HS.out.2⟩
end Go.Proofs.Ytdpaobflknkbkaa
namespace Go.Proofs.Ytdpaobflknkbkaa
open Go.RowKit Go.ChangeShapes
set_option linter.unusedVariables false
set_option maxHeartbeats 2000000 in
set_option maxRecDepth 100000 in
theorem KeptBytes_any {F G : Nat → Prop} (y : Value) (g c : Nat) (L : List UInt8) (w : World) (hy : BytesIn G w y L) (hl : LentAt F w g c L) (hL : L.length ≤ 1000000000) :
    Calls Try.prog 42 #[.slice (some ⟨g, 0, none⟩) L.length c, y] w fun e w' => e = .returned (.bool true) ∧ ∃ m, w' = w.drewN m := by
  obtain ⟨hc0, hcm, hown⟩ := hl
  obtain ⟨g', c', hv, _, _, _, hcell⟩ := hown.form (by rw [List.length_append, marks_length]; omega)
  rw [List.length_append, marks_length] at hv hcell
  simp only [Value.slice.injEq, Option.some.injEq, Addr.mk.injEq] at hv
  obtain ⟨⟨rfl, hz8, hz9⟩, hz7, rfl⟩ := hv
  clear hz7 hz8 hz9
  have hyp : ∃ ay cy, y = .slice ay L.length cy := by obtain ⟨ao, cp, hv, _⟩ := hy; exact ⟨ao, cp, hv⟩
  obtain ⟨ay, cy, hy0⟩ := hyp
  subst hy0
  have HY := Lib.hid hy
  have HCL := Lib.hid hcell
  obtain ⟨n, hn⟩ : ∃ n, n = L.length := ⟨_, rfl⟩
  rw [← hn] at hc0 hL HY HCL ⊢
  have HN := Lib.hid hn
  have hcm' : c ≤ 9223372036854775807 := by unfold maxLen at hcm; omega
  clear hn hy hown hcell hcm
  go_enter Try.func42, Try.ntmps42
  go_wp2
  go_loopw [6] (fun iv wr => ∃ i : Nat, i ≤ n + 12 ∧ iv = .int .i64 i ∧ Hid (∃ q, wr = w.drewN q)) (fun iv _ => n + 12 - (intOf iv).toNat)
  case atStart => exact ⟨0, by omega, rfl, Lib.hid ⟨0, rfl⟩⟩
  case round =>
    obtain ⟨i, hi, rfl, HW⟩ := hrel
    have hcell : ∀ p v, w.cell? p = some v → wr.cell? p = some v := fun p v h => by
      obtain ⟨q, rfl⟩ := HW.out
      exact h
    have HCW := Lib.hid hcell
    clear hcell
    by_cases hil : i < n + 12
    · obtain ⟨c1, _⟩ := HCL.out i hil
      by_cases hin : i < n
      · have hg : (L ++ marks 1 12).getD i 0 = L.getD i 0 := by
          rw [List.getD_eq_getElem?_getD, List.getD_eq_getElem?_getD, List.getElem?_append_left (by rw [← HN.out]; exact hin)]
        rw [hg] at c1
        obtain ⟨b2, o2, cp2, hv2, _, _, _, hc2⟩ := HY.out.plain (fun h => by rw [HN.out, h] at hin; simp at hin)
        simp only [Value.slice.injEq] at hv2
        obtain ⟨rfl, hz7, rfl⟩ := hv2
        have c2 : w.cell? ⟨b2, o2 + i, none⟩ = some (.int .u8 (L.getD i 0).toNat) := by
          rw [hc2 i (by rw [← HN.out]; exact hin)]; simp [bv, List.getD, List.getElem?_eq_getElem (show i < L.length by rw [← HN.out]; exact hin)]
        obtain ⟨z, hz⟩ : ∃ z, z = L.getD i 0 := ⟨_, rfl⟩
        rw [← hz] at c1 c2
        replace c1 := HCW.out _ _ c1
        replace c2 := HCW.out _ _ c2
        have hcy : n ≤ cy := by
          obtain ⟨ao, cp, hv, h1, _⟩ := HY.out
          simp only [Value.slice.injEq] at hv
          omega
        have hd2 : decide ((n : Int) ≤ (i : Int)) = false := by simp; omega
        have hd3 : decide (n ≤ i) = false := by simp; omega
        have hd4 : ¬ n ≤ i := by omega
        clear hz7 hc2 hz hg
        go_wp2
        go_quiet (fail)
        go_wp2
        go_roundw
        case rel => exact ⟨i + 1, by omega, by go_num, Lib.hid (by obtain ⟨q, rfl⟩ := HW.out; exact ⟨q + nq, World.drewN_drewN ..⟩)⟩
        case measure => simp [intOf]; omega
      · have hg : (L ++ marks 1 12).getD i 0 = mB 1 (i - n) := by
          rw [List.getD_eq_getElem?_getD, List.getElem?_append_right (by rw [← HN.out]; omega), ← HN.out, marks_get _ _ _ (by omega), Option.getD_some]
        rw [hg] at c1
        replace c1 := HCW.out _ _ c1
        obtain ⟨j, hj⟩ : ∃ j, j = i - n := ⟨_, rfl⟩
        rw [← hj] at c1
        have hd : decide ((i : Int) < (n : Int)) = false := by simp; omega
        have hs : IntKind.i64.wrap ((i : Int) - (n : Int)) = (j : Int) := by
          rw [show (i : Int) - (n : Int) = (j : Int) by omega]
          rw [IntKind.wrap_i64]
          omega
        have hd2 : (n : Int) ≤ (i : Int) := by omega
        have hd3 : n ≤ i := by omega
        have hd4 : decide (i < n) = false := by simp; omega
        have HMB : Hid (∀ q', Calls Try.prog 66 #[.int .i64 1, .int .i64 (j : Int)] (wr.drewN q') fun e w' => e = .returned (.int .u8 (mB 1 j).toNat) ∧ w' = wr.drewN q') := Lib.hid fun q' => mark_quiet 1 j wr q' (by omega) (by omega)
        clear hg hj
        go_wp2
        go_quiet ((go_at_call 66; exact Calls.quiet_of_same (HMB.out _)))
        go_wp2
        go_roundw
        case rel => exact ⟨i + 1, by omega, by go_num, Lib.hid (by obtain ⟨q, rfl⟩ := HW.out; exact ⟨q + nq, World.drewN_drewN ..⟩)⟩
        case measure => simp [intOf]; omega
    · go_wp2
      go_ret
      exact ⟨rfl, HW.out⟩
end Go.Proofs.Ytdpaobflknkbkaa
namespace Go.Proofs.Ytdpaobflknkbkaa
open Go.RowKit Go.ChangeShapes
set_option linter.unusedVariables false
structure Wv (X : Nat → Prop) (z : Nat) (A : VA) (g u n : Nat) (s t : VS) (w : World) : Prop where
  ex : ∃ F G, VwAt F w A n s ∧ RvAt G w g u t ∧ (∀ k, F k → z ≤ k ∧ k < w.heap.size ∧ ¬ X k) ∧ (∀ k, G k → z ≤ k ∧ k < w.heap.size ∧ ¬ X k) ∧ (¬ F g ∧ ¬ F u) ∧ (∀ k ∈ A.all, ¬ G k)
  newA : ∀ k ∈ A.all, z ≤ k ∧ ¬ X k
  newR : (z ≤ g ∧ ¬ X g) ∧ (z ≤ u ∧ ¬ X u)
  sep : g ∉ A.all ∧ u ∉ A.all
  old : ∀ k, X k → k < w.heap.size
section
variable {X Y : Nat → Prop} {z : Nat} {A : VA} {g u n m : Nat} {s t : VS} {w w' : World} {S : Nat → Prop}
theorem VwAt.pl {F : Nat → Prop} (h : VwAt F w A n s) : Pl s := ⟨h.ok, fun i => (h.rk.ok i).1, fun i => (h.nk.ok i).1, h.cap⟩
theorem Wv.pl (h : Wv X z A g u n s t w) : Pl s := by
  obtain ⟨F, G, a, _⟩ := h.ex
  exact a.pl
theorem Wv.lts (h : Wv X z A g u n s t w) : (∀ k ∈ A.all, k < w.heap.size) ∧ g < w.heap.size ∧ u < w.heap.size := by
  obtain ⟨F, G, a, b, _⟩ := h.ex
  exact ⟨a.lts, b.lt⟩
theorem Wv.zle (h : Wv X z A g u n s t w) : z ≤ w.heap.size := by
  have h1 := h.lts.2.1
  have h2 := h.newR.1.1
  omega
theorem Wv.keep (h : Wv X z A g u n s t w) (hf : Fr S w w') (hS : ∀ k, S k → X k ∨ k < z) : Wv X z A g u n s t w' := by
  obtain ⟨F, G, a, b, c, d, e, f⟩ := h.ex
  have hn : ∀ k, z ≤ k ∧ ¬ X k → ¬ S k := fun k hk hs => (hS k hs).elim hk.2 (fun h => by omega)
  exact ⟨⟨F, G, a.keep hf (fun k hk => hn k (h.newA k hk)) (fun k _ hk => hn k ⟨(c k hk).1, (c k hk).2.2⟩), b.keep hf (hn _ h.newR.1) (hn _ h.newR.2) (fun k _ hk => hn k ⟨(d k hk).1, (d k hk).2.2⟩),
    fun k hk => ⟨(c k hk).1, Nat.lt_of_lt_of_le (c k hk).2.1 hf.size, (c k hk).2.2⟩, fun k hk => ⟨(d k hk).1, Nat.lt_of_lt_of_le (d k hk).2.1 hf.size, (d k hk).2.2⟩, e, f⟩, h.newA, h.newR, h.sep, fun k hk => Nat.lt_of_lt_of_le (h.old k hk) hf.size⟩
theorem Wv.quiet (h : Wv X z A g u n s t w) (hf : Fr (fun _ => False) w w') : Wv X z A g u n s t w' := h.keep hf (fun _ h => h.elim)
theorem Wv.add (h : Wv X z A g u n s t w) (hf : Fr (fun _ => False) w w') (hY : ∀ k, Y k → w.heap.size ≤ k ∧ k < w'.heap.size) : Wv Y z A g u n s t w' := by
  obtain ⟨F, G, a, b, c, d, e, f⟩ := h.ex
  have hl := h.lts
  have hn : ∀ k, k < w.heap.size → ¬ Y k := fun k hk hy => by have := hY k hy; omega
  exact ⟨⟨F, G, a.quiet hf, b.quiet hf, fun k hk => ⟨(c k hk).1, Nat.lt_of_lt_of_le (c k hk).2.1 hf.size, hn k (c k hk).2.1⟩, fun k hk => ⟨(d k hk).1, Nat.lt_of_lt_of_le (d k hk).2.1 hf.size, hn k (d k hk).2.1⟩, e, f⟩,
    fun k hk => ⟨(h.newA k hk).1, hn k (hl.1 k hk)⟩, ⟨⟨h.newR.1.1, hn _ hl.2.1⟩, ⟨h.newR.2.1, hn _ hl.2.2⟩⟩, h.sep, fun k hk => (hY k hk).2⟩
theorem Wv.less (h : Wv X z A g u n s t w) (hY : ∀ k, Y k → X k) : Wv Y z A g u n s t w := by
  obtain ⟨F, G, a, b, c, d, e, f⟩ := h.ex
  exact ⟨⟨F, G, a, b, fun k hk => ⟨(c k hk).1, (c k hk).2.1, fun hy => (c k hk).2.2 (hY k hy)⟩, fun k hk => ⟨(d k hk).1, (d k hk).2.1, fun hy => (d k hk).2.2 (hY k hy)⟩, e, f⟩,
    fun k hk => ⟨(h.newA k hk).1, fun hy => (h.newA k hk).2 (hY k hy)⟩, ⟨⟨h.newR.1.1, fun hy => h.newR.1.2 (hY _ hy)⟩, ⟨h.newR.2.1, fun hy => h.newR.2.2 (hY _ hy)⟩⟩, h.sep, fun k hk => h.old k (hY k hk)⟩
theorem Wv.view {F G : Nat → Prop} {s' : VS} (h : Wv X z A g u n s t w) (b : RvAt G w g u t) (c : ∀ k, F k → z ≤ k ∧ k < w.heap.size ∧ ¬ X k) (d : ∀ k, G k → z ≤ k ∧ k < w.heap.size ∧ ¬ X k) (e : ¬ F g ∧ ¬ F u) (f : ∀ k ∈ A.all, ¬ G k)
    (h1 : VwAt (newF F w w') w' A m s') (hf : Fr A.own w w') : Wv X z A g u m s' t w' := by
  have hs := hf.size
  have hl := h.lts
  have hz := h.zle
  refine ⟨⟨newF F w w', G, h1, b.keep hf (fun ho => h.sep.1 (VA.own_all ho)) (fun ho => h.sep.2 (VA.own_all ho)) (fun k _ hk ho => f k (VA.own_all ho) hk), fun k hk => ?_, fun k hk => ⟨(d k hk).1, Nat.lt_of_lt_of_le (d k hk).2.1 hs, (d k hk).2.2⟩, ⟨fun hk => ?_, fun hk => ?_⟩, f⟩, h.newA, h.newR, h.sep, fun k hk => Nat.lt_of_lt_of_le (h.old k hk) hs⟩
  · rcases hk with hk | hk
    · exact ⟨(c k hk).1, Nat.lt_of_lt_of_le (c k hk).2.1 hs, (c k hk).2.2⟩
    · exact ⟨Nat.le_trans hz hk.1, hk.2, fun hx => by have := h.old k hx; omega⟩
  · rcases hk with hk | hk
    · exact e.1 hk
    · omega
  · rcases hk with hk | hk
    · exact e.2 hk
    · omega
theorem Wv.doc {F G : Nat → Prop} {t' : VS} (h : Wv X z A g u n s t w) (a : VwAt F w A n s) (c : ∀ k, F k → z ≤ k ∧ k < w.heap.size ∧ ¬ X k) (d : ∀ k, G k → z ≤ k ∧ k < w.heap.size ∧ ¬ X k) (e : ¬ F g ∧ ¬ F u) (f : ∀ k ∈ A.all, ¬ G k)
    (h1 : RvAt (newF G w w') w' g u t') (hf : Fr (fun k => k = u) w w') : Wv X z A g u n s t' w' := by
  have hs := hf.size
  have hl := h.lts
  have hz := h.zle
  refine ⟨⟨F, newF G w w', a.keep hf (fun k hk ho => h.sep.2 (ho ▸ hk)) (fun k _ hk ho => e.2 (ho ▸ hk)), h1, fun k hk => ⟨(c k hk).1, Nat.lt_of_lt_of_le (c k hk).2.1 hs, (c k hk).2.2⟩, fun k hk => ?_, e, fun k hk hg => ?_⟩, h.newA, h.newR, h.sep, fun k hk => Nat.lt_of_lt_of_le (h.old k hk) hs⟩
  · rcases hk with hk | hk
    · exact ⟨(d k hk).1, Nat.lt_of_lt_of_le (d k hk).2.1 hs, (d k hk).2.2⟩
    · exact ⟨Nat.le_trans hz hk.1, hk.2, fun hx => by have := h.old k hx; omega⟩
  · rcases hg with hg | hg
    · exact f k hk hg
    · have := hl.1 k hk; omega
theorem Wv.vRoot (h : Wv X z A g u n s t w) (hn : n ≤ 100000) (who : Int) (N : ByteArray) (hN : N.size ≤ 140737488351232) (p : PathX) (hp : p.n.size ≤ 140737488351232) : Calls Try.prog 31 #[.pointer (some ⟨A.vb, 0, none⟩), .int .i64 who, .string N, .agg (pathC p.h p.n)] w fun e w' => e = .returned (.int .i64 (rootE s who N.data.toList p)) ∧ Wv X z A g u (n + 1) (rootS s who N.data.toList p) t w' ∧ Fr A.own w w' := by
  obtain ⟨F, G, a, b, c, d, e, f⟩ := h.ex
  exact (root_any a hn who N hN p hp).mono fun en w' ⟨h1, h2, h3⟩ => by
    have h4 := h3.mono (T := A.own) (fun k _ hk => hk.imp id .inl)
    exact ⟨h1, h.view b c d e f (a.newF h2) h4, h4⟩
theorem Wv.vUnroot (h : Wv X z A g u n s t w) (hn : n ≤ 100000) (who : Int) (N : ByteArray) (hN : N.size ≤ 140737488351232) : Calls Try.prog 39 #[.pointer (some ⟨A.vb, 0, none⟩), .int .i64 who, .string N] w fun e w' => e = .returned (.tuple #[unrootP s who N.data.toList, .int .i64 (unrootE s who N.data.toList)]) ∧ Wv X z A g u (n + 1) (unrootS s who N.data.toList) t w' ∧ Fr A.own w w' := by
  obtain ⟨F, G, a, b, c, d, e, f⟩ := h.ex
  exact (unroot_any a (fun k hk => (c k hk).2.1) a.qlt hn who N (Nat.le_trans hN (by decide))).mono fun en w' ⟨h1, h2, h3⟩ => by
    have h4 := h3.mono (T := A.own) (fun k _ hk => hk.imp id .inl)
    exact ⟨h1, h.view b c d e f (a.newF h2) h4, h4⟩
theorem Wv.vNote (h : Wv X z A g u n s t w) (hn : n ≤ 100000) (who : Int) (N : ByteArray) (hN : N.size ≤ 140737488351232) (yv : Value) (B : Bs) (hb : BytesIn S w yv B) (hbl : B.length ≤ 140737488355328) : Calls Try.prog 41 #[.pointer (some ⟨A.vb, 0, none⟩), .int .i64 who, .string N, yv] w fun e w' => e = .returned (.int .i64 (noteE s who N.data.toList B)) ∧ Wv X z A g u (n + 1) (noteS s who N.data.toList B) t w' ∧ Fr A.own w w' := by
  obtain ⟨F, G, a, b, c, d, e, f⟩ := h.ex
  exact (note_any a hn who N hN yv B hb hbl).mono fun en w' ⟨h1, h2, h3⟩ => by
    have h4 := h3.mono (T := A.own) (fun k _ hk => .inr (.inr hk))
    exact ⟨h1, h.view b c d e f h2 h4, h4⟩
theorem Wv.vUnnote (h : Wv X z A g u n s t w) (hn : n ≤ 100000) (who : Int) (N : ByteArray) (hN : N.size ≤ 140737488351232) : Calls Try.prog 45 #[.pointer (some ⟨A.vb, 0, none⟩), .int .i64 who, .string N] w fun e w' => e = .returned (.int .i64 (unnoteE s who N.data.toList)) ∧ Wv X z A g u (n + 1) (unnoteS s who N.data.toList) t w' ∧ Fr A.own w w' := by
  obtain ⟨F, G, a, b, c, d, e, f⟩ := h.ex
  exact (unnote_any a (fun k hk => (c k hk).2.1) hn who N (Nat.le_trans hN (by decide))).mono fun en w' ⟨h1, h2, h3⟩ => by
    have h4 := h3.mono (T := A.own) (fun k _ hk => .inr (.inr hk))
    exact ⟨h1, h.view b c d e f (a.newF h2) h4, h4⟩
theorem Wv.dRoot (h : Wv X z A g u n s t w) (hp0 : Pl t) (who : Int) (N : ByteArray) (hN : N.size ≤ 140737488351232) (p : PathX) (hp : p.n.size ≤ 140737488351232) : Calls Try.prog 47 #[.pointer (some ⟨g, 0, none⟩), .int .i64 who, .string N, .agg (pathC p.h p.n)] w fun e w' => e = .returned (.int .i64 (rootE t who N.data.toList p)) ∧ Wv X z A g u n s (rootS t who N.data.toList p) w' ∧ Fr (fun k => k = u) w w' := by
  obtain ⟨F, G, a, b, c, d, e, f⟩ := h.ex
  exact (rroot_any b hp0 who N hN p hp).mono fun en w' ⟨h1, h2, h3⟩ => ⟨h1, h.doc a c d e f h2 h3, h3⟩
theorem Wv.dUnroot (h : Wv X z A g u n s t w) (hp0 : Pl t) (who : Int) (N : ByteArray) (hN : N.size ≤ 140737488351232) : Calls Try.prog 40 #[.pointer (some ⟨g, 0, none⟩), .int .i64 who, .string N] w fun e w' => e = .returned (.tuple #[unrootP t who N.data.toList, .int .i64 (unrootE t who N.data.toList)]) ∧ Wv X z A g u n s (unrootS t who N.data.toList) w' ∧ Fr (fun k => k = u) w w' := by
  obtain ⟨F, G, a, b, c, d, e, f⟩ := h.ex
  exact (runroot_any b hp0 who N hN).mono fun en w' ⟨h1, h2, h3⟩ => ⟨h1, h.doc a c d e f h2 h3, h3⟩
theorem Wv.dNote (h : Wv X z A g u n s t w) (hp0 : Pl t) (who : Int) (N : ByteArray) (hN : N.size ≤ 140737488351232) (yv : Value) (B : Bs) (hB : BytesIn S w yv B) (hBl : B.length ≤ 140737488355328) : Calls Try.prog 44 #[.pointer (some ⟨g, 0, none⟩), .int .i64 who, .string N, yv] w fun e w' => e = .returned (.int .i64 (noteE t who N.data.toList B)) ∧ Wv X z A g u n s (noteS t who N.data.toList B) w' ∧ Fr (fun k => k = u) w w' := by
  obtain ⟨F, G, a, b, c, d, e, f⟩ := h.ex
  exact (rnote_any b hp0 who N hN yv B hB hBl).mono fun en w' ⟨h1, h2, h3⟩ => ⟨h1, h.doc a c d e f h2 h3, h3⟩
theorem Wv.dUnnote (h : Wv X z A g u n s t w) (hp0 : Pl t) (who : Int) (N : ByteArray) (hN : N.size ≤ 140737488351232) : Calls Try.prog 46 #[.pointer (some ⟨g, 0, none⟩), .int .i64 who, .string N] w fun e w' => e = .returned (.int .i64 (unnoteE t who N.data.toList)) ∧ Wv X z A g u n s (unnoteS t who N.data.toList) w' ∧ Fr (fun k => k = u) w w' := by
  obtain ⟨F, G, a, b, c, d, e, f⟩ := h.ex
  exact (runnote_any b hp0 who N hN).mono fun en w' ⟨h1, h2, h3⟩ => ⟨h1, h.doc a c d e f h2 h3, h3⟩
theorem Wv.made {w0 w1 w2 : World} {F : Nat → Prop} (a : VwAt F w1 A n s) (hA : ∀ k ∈ A.all, z ≤ k) (hF : ∀ k, F k → z ≤ k ∧ k < w1.heap.size) (b : RvAt (fun _ => False) w2 g u t) (hf : Fr (fun _ => False) w1 w2) (hg : w1.heap.size ≤ g ∧ w1.heap.size ≤ u) : Wv (fun _ => False) z A g u n s t w2 := by
  have hl := a.lts
  have hz : z ≤ w1.heap.size := by
    have h1 := hA A.vb (by simp [VA.all])
    have h2 := hl A.vb (by simp [VA.all])
    omega
  refine ⟨⟨F, fun _ => False, a.quiet hf, b, fun k hk => ⟨(hF k hk).1, Nat.lt_of_lt_of_le (hF k hk).2 hf.size, id⟩, fun _ h => h.elim, ⟨fun hk => ?_, fun hk => ?_⟩, fun _ _ h => h⟩, fun k hk => ⟨hA k hk, id⟩, ⟨⟨Nat.le_trans hz hg.1, id⟩, ⟨Nat.le_trans hz hg.2, id⟩⟩, ⟨fun hk => ?_, fun hk => ?_⟩, fun _ h => h.elim⟩
  · have := hF _ hk; omega
  · have := hF _ hk; omega
  · have := hl _ hk; omega
  · have := hl _ hk; omega
end
end Go.Proofs.Ytdpaobflknkbkaa
namespace Go.Proofs.Ytdpaobflknkbkaa
open Go.RowKit Go.ChangeShapes
set_option linter.unusedVariables false
theorem setCells_pair (w : World) (b o : Nat) (x y : Value) : w.setCells b o [x, y] = (w.setCell ⟨b, o, none⟩ x).setCell ⟨b, o + 1, none⟩ y := rfl
theorem Fr.setPair {S : Nat → Prop} {w w' : World} (h : Fr S w w') {g : Nat} (hg : S g) (o : Nat) (x y : Value) : Fr S w (w'.setCells g o [x, y]) := by
  rw [setCells_pair]
  exact (h.setCell (p := ⟨g, o, none⟩) (.inl hg) x).setCell (p := ⟨g, o + 1, none⟩) (.inl hg) y
theorem heap_setPair {w : World} {g : Nat} {C : Array Value} {T : TypeId} (hb : w.heap[g]? = some (.cells C T (0, 0))) (o : Nat) (x y : Value) : ∃ C', C'.size = C.size ∧ (w.setCells g o [x, y]).heap[g]? = some (.cells C' T (0, 0)) := by
  rw [setCells_pair]
  exact ⟨_, by rw [Array.size_setIfInBounds, Array.size_setIfInBounds], heap_setCell_at (i := o + 1) y (heap_setCell_at (i := o) x hb)⟩
theorem there_pair {w : World} {g o : Nat} {C : Array Value} {T : TypeId} (hb : w.heap[g]? = some (.cells C T (0, 0))) (ho : o + 2 ≤ C.size) : w.there g o 2 := fun j hj =>
  ⟨by rw [cell_of_row _ _ _ _ _ _ hb, Array.getElem?_eq_getElem (by omega)]; rfl, frozen_of_row w g (o + j) C T hb⟩
theorem overL_nil (w : World) : Calls Try.prog 50 #[.slice none 0 0] w fun e w' => e = .returned (.tuple #[]) ∧ Fr (fun _ => False) w w' := by
  go_enter Try.func50, Try.ntmps50
  go_wp2
  refine wp_loop_rounds 1 ?_
  rw [rounds_succ]
  go_wp2
  refine wp_loop_rounds 1 ?_
  rw [rounds_succ]
  go_wp2
  go_end0
  exact ⟨rfl, Fr.refl _ _⟩
theorem rowSizeR : (Try.prog.info? 73).map (·.size) = some 2 := by kernel_rfl
set_option maxRecDepth 100000 in
set_option maxHeartbeats 2000000 in
theorem overL_some {z : Nat} (w : World) (g n cap : Nat) (l : List RowD) (h : OwnR (fun k => z ≤ k) z w (.slice (some ⟨g, 0, none⟩) n cap) l) (hl : l.length ≤ 1000) (hB : ∀ p ∈ l, p.B.length ≤ 1000000000) :
    Calls Try.prog 50 #[.slice (some ⟨g, 0, none⟩) n cap] w fun e w' => e = .returned (.tuple #[]) ∧ Fr (fun k => z ≤ k) w w' := by
  have hrow := h.own.row
  obtain ⟨hn, hnc, hcm, b, f, hbf, hrng⟩ := h.own.elems.rng
  rcases hrow.2 with ⟨hv, _⟩ | ⟨g', cap', cur, hv, hzg, hg, hn', hm, hs, ht⟩
  · cases hv
  injection hv with e1 e2 e3
  injection e1 with e1
  injection e1 with e1 e4
  subst e1 e3
  rw [List.length_map] at hn
  have HG := Lib.hid (And.intro hg (And.intro hs (And.intro (show z ≤ g from hzg) (And.intro hB (And.intro h.ownb (And.intro hrng hbf))))))
  have HN := Lib.hid hn
  have hn1000 : n ≤ 1000 := by omega
  clear h hrow hrng hbf hzg hg hn' hm hs ht hB hn hl e2
  go_enter Try.func50, Try.ntmps50
  go_wp2_with fail
  go_loopw [2] (fun iv wr => ∃ i : Nat, i ≤ n ∧ iv = .int .i64 i ∧ Hid (Fr (fun k => z ≤ k ∧ k ≠ g) w wr ∧ Kept9 w wr)) (fun iv _ => n - (intOf iv).toNat)
  case atStart => exact ⟨0, by omega, rfl, Lib.hid ⟨Fr.refl _ _, Kept9.quiet (Fr.refl _ _)⟩⟩
  case round =>
    obtain ⟨i, hi, rfl, HR⟩ := hrel
    by_cases hlt : i < n
    · have hiL : i < l.length := by have := HN.out; omega
      obtain ⟨p, hp⟩ : ∃ p, p = l[i] := ⟨_, rfl⟩
      have hpm : p ∈ l := hp ▸ List.getElem_mem hiL
      have hrx : wr.rangeAt g (i * 2) (rowC p) := by
        have h1 := (HG.out.2.2.2.2.2.2 (by omega)).1
        injection h1 with h1
        injection h1 with h1 h2
        have h3 := HG.out.2.2.2.2.2.1 i (by rw [List.length_map]; exact hiL)
        rw [List.getElem_map, ← h1, ← h2, ← hp, Nat.zero_add] at h3
        exact Fr.range9 HR.out.1 h3 (fun hh => hh.2 rfl)
      have HLX := Lib.hid (fun (oo : Oper) (a : Act) (e1 : oo.op = .load 73 (.tmp 13)) (e2 : a.eval (.tmp 13) = .pointer (some ⟨g, i * 2, none⟩)) => op_loadAt e1 e2 (show (Instr.loadAt 73 (.pointer (some ⟨g, i * 2, none⟩))).run Try.prog wr = .ok (.agg #[.string p.key, p.x]) wr from load_rowR (l := rowC p) rfl hrx))
      have HO := Lib.hid (overRow_any wr p.key p.x ((CapB.ofOwn (HG.out.2.2.2.2.1 p hpm) (HG.out.2.2.2.1 p hpm)).kept HR.out.2))
      obtain ⟨px, hpx⟩ : ∃ px, px = p.x := ⟨_, rfl⟩
      obtain ⟨pk, hpk⟩ : ∃ pk, pk = p.key := ⟨_, rfl⟩
      rw [← hpx, ← hpk] at HLX HO
      have hit : (i : Int) < (n : Int) := by omega
      clear hrx hpm hp hiL hpx hpk
      go_wp2_with (first
        | (with_reducible refine Go.Proofs.Ytdpaobflknkbkaa.wpList_value rfl (.agg #[.string pk, px]) wr (HLX.out _ _ rfl rfl) ?_; simp only [Act.put, List.setIfInBounds_toArray, List.set_cons_succ, List.set_cons_zero])
        | (go_at_call 71; refine HO.out.mono ?_; rintro e w2 ⟨rfl, hf2, hk2⟩; (have H2 := Lib.hid (And.intro hf2 hk2)); clear hf2 hk2))
      go_roundw
      case rel => exact ⟨i + 1, by omega, by go_num, Lib.hid ⟨HR.out.1.trans H2.out.1 (fun k hk => .inl ⟨hk.1, fun e => hk.2 (by rw [e]; rfl)⟩), HR.out.2.trans H2.out.2⟩⟩
      case measure => simp [intOf]; omega
    · have HB0 := Lib.hid (show Fr (fun k => z ≤ k) w wr ∧ ∃ C : Array Value, C.size = cap * 2 ∧ wr.heap[g]? = some (.cells C 73 (0, 0)) from ⟨HR.out.1.mono (fun k _ hk => hk.1), cur, HG.out.2.1, HR.out.1.heap HG.out.1 (fun hh => hh.2 rfl)⟩)
      have HZG := Lib.hid HG.out.2.2.1
      clear HR
      by_cases hc : cap ≤ n + 12
      · obtain ⟨t, rfl⟩ : ∃ t, t = cap := ⟨_, rfl⟩
        have hc1 : (t : Int) ≤ (n : Int) + 12 := by omega
        go_wp2_with fail
        go_loopw [4] (fun iv wq => ∃ i : Nat, i ≤ t ∧ iv = .int .i64 i ∧ Hid (Fr (fun k => z ≤ k) w wq ∧ ∃ C : Array Value, C.size = t * 2 ∧ wq.heap[g]? = some (.cells C 73 (0, 0)))) (fun iv _ => t - (intOf iv).toNat)
        case atStart => exact ⟨0, by omega, rfl, HB0⟩
        case round =>
          obtain ⟨j, hj, rfl, HQ⟩ := hrel
          by_cases hjt : j < t
          · obtain ⟨hF, C, hC, hb⟩ := HQ.out
            have HM := Lib.hid (fun w3 => markRow2_any j (by omega) w3)
            have HC := Lib.hid (And.intro hF (And.intro hC hb))
            have hit : (j : Int) < (t : Int) := by omega
            have hjc : j * 2 + 2 ≤ t * 2 := by omega
            clear hF hC hb
            go_wp2_with (first
              | (go_at_call 72; refine (HM.out _).mono ?_; rintro e w3 ⟨S, rfl, hf3⟩; (have H3 := Lib.hid (And.intro hf3 (hf3.heap HC.out.2.2 id))); clear hf3)
              | (refine wpList_store_mid rfl 73 (.tmp 34) (.tmp 33) rfl g (j * 2) #[.string S, .slice none 0 0] rfl rfl (there_pair H3.out.2 (by rw [HC.out.2.1]; exact hjc)) rowSizeR (by kernel_rfl) ?_))
            go_roundw
            case rel => exact ⟨j + 1, by omega, by go_num, Lib.hid ⟨(HC.out.1.trans H3.out.1 (fun k hk => hk.elim)).setPair HZG.out (j * 2) _ _, (by obtain ⟨C', h1, h2⟩ := heap_setPair H3.out.2 (j * 2) (.string S) (.slice none 0 0); exact ⟨C', h1.trans HC.out.2.1, h2⟩)⟩⟩
            case measure => simp [intOf]; omega
          · have HE := Lib.hid HQ.out.1
            clear HQ
            go_wp2
            go_end0
            exact ⟨rfl, HE.out⟩
      · obtain ⟨t, hte⟩ : ∃ t, t = n + 12 := ⟨_, rfl⟩
        have hti : (n : Int) + 12 = (t : Int) := by omega
        have hc1 : ¬ (cap : Int) ≤ (t : Int) := by omega
        have hc2 : (t : Int) ≤ (cap : Int) := by omega
        have hc3 : t ≤ cap := by omega
        have htb : t ≤ 1012 := by omega
        clear hc hte
        go_wp2_with fail
        go_loopw [4] (fun iv wq => ∃ i : Nat, i ≤ t ∧ iv = .int .i64 i ∧ Hid (Fr (fun k => z ≤ k) w wq ∧ ∃ C : Array Value, C.size = cap * 2 ∧ wq.heap[g]? = some (.cells C 73 (0, 0)))) (fun iv _ => t - (intOf iv).toNat)
        case atStart => exact ⟨0, by omega, rfl, HB0⟩
        case round =>
          obtain ⟨j, hj, rfl, HQ⟩ := hrel
          by_cases hjt : j < t
          · obtain ⟨hF, C, hC, hb⟩ := HQ.out
            have HM := Lib.hid (fun w3 => markRow2_any j (by omega) w3)
            have HC := Lib.hid (And.intro hF (And.intro hC hb))
            have hit : (j : Int) < (t : Int) := by omega
            have hjc : j * 2 + 2 ≤ cap * 2 := by omega
            clear hF hC hb
            go_wp2_with (first
              | (go_at_call 72; refine (HM.out _).mono ?_; rintro e w3 ⟨S, rfl, hf3⟩; (have H3 := Lib.hid (And.intro hf3 (hf3.heap HC.out.2.2 id))); clear hf3)
              | (refine wpList_store_mid rfl 73 (.tmp 34) (.tmp 33) rfl g (j * 2) #[.string S, .slice none 0 0] rfl rfl (there_pair H3.out.2 (by rw [HC.out.2.1]; exact hjc)) rowSizeR (by kernel_rfl) ?_))
            go_roundw
            case rel => exact ⟨j + 1, by omega, by go_num, Lib.hid ⟨(HC.out.1.trans H3.out.1 (fun k hk => hk.elim)).setPair HZG.out (j * 2) _ _, (by obtain ⟨C', h1, h2⟩ := heap_setPair H3.out.2 (j * 2) (.string S) (.slice none 0 0); exact ⟨C', h1.trans HC.out.2.1, h2⟩)⟩⟩
            case measure => simp [intOf]; omega
          · have HE := Lib.hid HQ.out.1
            clear HQ
            go_wp2
            go_end0
            exact ⟨rfl, HE.out⟩
theorem overLines_any {z : Nat} (w : World) (v : Value) (l : List RowD) (h : OwnR (fun k => z ≤ k) z w v l) (hl : l.length ≤ 1000) (hB : ∀ p ∈ l, p.B.length ≤ 1000000000) :
    Calls Try.prog 50 #[v] w fun e w' => e = .returned (.tuple #[]) ∧ Fr (fun k => z ≤ k) w w' := by
  rcases h.own.row.2 with ⟨hv, _⟩ | ⟨g, cap, cur, hv, _⟩
  · subst hv
    exact (overL_nil w).mono fun e w' ⟨h1, h2⟩ => ⟨h1, h2.mono (fun _ _ h => h.elim)⟩
  · subst hv
    exact overL_some w g _ cap l h hl hB
end Go.Proofs.Ytdpaobflknkbkaa
namespace Go.Proofs.Ytdpaobflknkbkaa
open Go.RowKit Go.ChangeShapes
set_option linter.unusedVariables false
def Sm (s : VS) : Prop := ∀ i, ∀ p ∈ s.N i, p.2.length ≤ 2048
theorem Sm.start (Q : List Qt) : Sm ⟨Q, fun _ => [], fun _ => []⟩ := fun i p hp => by cases hp
theorem Sm.setR {s : VS} (h : Sm s) (who : Int) (M : VT PathX) : Sm (s.setR who M) := h
theorem Sm.setN {s : VS} (h : Sm s) (who : Int) (M : VT Bs) (hM : ∀ p ∈ M, p.2.length ≤ 2048) : Sm (s.setN who M) := fun i p hp => by
  simp only [VS.setN, upd] at hp
  split at hp
  · exact hM p hp
  · exact h i p hp
theorem Sm.doS {s : VS} (h : Sm s) (d : DeedD) : Sm (Go.Proofs.Ytdpaobflknkbkaa.doS s d) := by
  unfold Go.Proofs.Ytdpaobflknkbkaa.doS
  split
  · unfold unrootS
    split
    · exact h.setR _ _
    · exact h
  · split
    · unfold noteS
      split
      · next he =>
        have hb : d.V.length ≤ 2048 := by
          unfold noteE at he
          repeat' split at he
          all_goals first | omega | assumption
        refine h.setN _ _ (fun p hp => ?_)
        rcases vPut_keys hp with rfl | hp
        · exact hb
        · exact h _ p hp
      · exact h
    · split
      · unfold unnoteS
        split
        · exact h.setN _ _ (fun p hp => h d.who p ((List.mem_filter.1 hp).1))
        · exact h
      · unfold rootS
        split
        · exact h.setR _ _
        · exact h
theorem Sm.rows {s : VS} (h : Sm s) (who : Int) (P : Bs) : ∀ p ∈ rowsN s who P, p.2.length ≤ 2048 := by
  unfold rowsN
  split
  · exact fun p hp => h who p ((List.mem_filter.1 hp).1)
  · exact fun p hp => by cases hp
theorem rowsN_len {s : VS} (h : Pl s) (who : Int) (P : Bs) : (rowsN s who P).length ≤ 400 := by
  unfold rowsN
  split
  · next hu =>
    obtain ⟨i, rfl, hi⟩ := user_at hu
    exact Nat.le_trans (List.length_filter_le _ _) (h.lens hi).2.1
  · exact Nat.zero_le _
section
variable {X : Nat → Prop} {z : Nat} {A : VA} {g u n : Nat} {s : VS} {w W0 W : World} {M : VT Bs}
structure NvP (X : Nat → Prop) (z : Nat) (A : VA) (g u n : Nat) (s : VS) (M : VT Bs) (W0 W : World) (v : Value) : Prop where
  wv : Wv X z A g u n s s W
  fr : Fr (fun _ => False) W0 W
  own : ∃ l, OwnR (fun k => W0.heap.size ≤ k) W0.heap.size W v l ∧ l.map RowD.row = M
theorem NvP.quiet {v : Value} {W' : World} (h : NvP X z A g u n s M W0 W v) (hf : Fr (fun _ => False) W W') : NvP X z A g u n s M W0 W' v := by
  obtain ⟨l, h1, h2⟩ := h.own
  exact ⟨h.wv.quiet hf, h.fr.trans hf (fun _ h => h.elim), l, h1.keep hf (fun _ _ h => h) (fun _ _ _ h => h), h2⟩
theorem nv_view (h : Wv X z A g u n s s W) (hn : n ≤ 100000) (who : Int) (P : ByteArray) : Calls Try.prog 26 #[.pointer (some ⟨A.vb, 0, none⟩), .int .i64 who, .string P] W fun e W' => ∃ v, e = .returned v ∧ NvP X z A g u n s (rowsN s who P.data.toList) W W' v := by
  obtain ⟨F, G, a, b, c, d, e, f⟩ := h.ex
  exact (notes_of a (fun k hk => (c k hk).2.1) hn who P).mono fun e W' ⟨v, l, h1, h2, h3, h4⟩ => ⟨v, h1, h.quiet h4, h4, l, h2, h3⟩
theorem nv_doc {v : Value} (h : NvP X z A g u n s M W0 W v) (who : Int) (P : ByteArray) (hP : P.size ≤ 140737488351232) : Calls Try.prog 49 #[.pointer (some ⟨g, 0, none⟩), .int .i64 who, .string P] W fun e W' => ∃ v', e = .returned v' ∧ NtOk (rowsN s who P.data.toList) v' W' ∧ NvP X z A g u n s M W0 W' v := by
  obtain ⟨F, G, a, b, c, d, e, f⟩ := h.wv.ex
  exact (rnotes_any b h.wv.pl who P hP).mono fun e W' ⟨v', h1, h2, h3⟩ => ⟨v', h1, h2, h.quiet h3⟩
theorem nv_same {v v' : Value} (h : NvP X z A g u n s M W0 W v) (h1 : NtOk M v' W) (hM : M.length ≤ 400) : Calls Try.prog 25 #[v, v'] W fun e W' => e = .returned (.bool true) ∧ NvP X z A g u n s M W0 W' v := by
  obtain ⟨l, h2, h3⟩ := h.own
  have h5 := h2.rws (fun _ h => h)
  exact (sameNt W v v' ⟨l, ⟨h5.el.mono (by decide) (fun _ _ _ => trivial), fun p hp => (h5.bytes p hp).mono (fun _ _ _ => trivial)⟩, h3⟩ h1 (by omega)).mono fun e W' ⟨h4, h6⟩ => ⟨h4, h.quiet h6⟩
theorem nv_over {v : Value} (h : NvP X z A g u n s M W0 W v) (hM : M.length ≤ 400) (hB : ∀ p ∈ M, p.2.length ≤ 2048) (h0 : Wv X z A g u n s s W0) : Calls Try.prog 50 #[v] W fun e W' => e = .returned (.tuple #[]) ∧ Wv X z A g u n s s W' ∧ Fr (fun _ => False) W0 W' := by
  obtain ⟨l, h2, h3⟩ := h.own
  refine (overLines_any W v l h2 (by rw [← List.length_map (f := RowD.row), h3]; omega) (fun p hp => by
    have h4 := hB p.row (by rw [← h3]; exact List.mem_map.2 ⟨p, hp, rfl⟩)
    exact Nat.le_trans h4 (by decide))).mono fun e W' ⟨h4, h5⟩ => ?_
  have h6 : Fr (fun _ => False) W0 W' := h.fr.trans h5 (fun k hk => .inr hk)
  exact ⟨h4, h0.quiet h6, h6⟩
theorem nv_quota (h : Wv X z A g u n s s W) (who : Int) : Calls Try.prog 24 #[.pointer (some ⟨A.vb, 0, none⟩), .int .i64 who] W fun e W' => e = .returned (.tuple #[.agg (qA (quotaU s who)), .int .i64 (quotaE s who)]) ∧ Wv X z A g u n s s W' ∧ Fr (fun _ => False) W W' := by
  obtain ⟨F, G, a, b, c, d, e, f⟩ := h.ex
  exact (quota_of a who).mono fun e W' ⟨h1, h2⟩ => ⟨h1, h.quiet h2, h2⟩
theorem nv_is_yes (h : Wv X z A g u n s s W) (who : Int) (hu : isUser s who) : Calls Try.prog 48 #[.pointer (some ⟨g, 0, none⟩), .int .i64 who] W fun e w' => e = .returned (.bool true) ∧ w' = W := by
  obtain ⟨F, G, a, b, _⟩ := h.ex
  exact is_yes b who hu
theorem nv_is_no (h : Wv X z A g u n s s W) (who : Int) (hu : ¬ isUser s who) : Calls Try.prog 48 #[.pointer (some ⟨g, 0, none⟩), .int .i64 who] W fun e w' => e = .returned (.bool false) ∧ w' = W := by
  obtain ⟨F, G, a, b, _⟩ := h.ex
  exact is_no b who hu
theorem nv_roots (h : Wv X z A g u n s s W) (hn : n ≤ 100000) (who : Int) : Calls Try.prog 23 #[.pointer (some ⟨A.vb, 0, none⟩), .int .i64 who] W fun e W' => ∃ aa ca, e = .returned (.slice aa (rowsR s who).length ca) ∧ OwnE 66 22 W.heap.size W' (.slice aa (rowsR s who).length ca) ((rowsR s who).map rtC) ∧ Wv X z A g u n s s W' ∧ Fr (fun _ => False) W W' := by
  obtain ⟨F, G, a, b, c, d, e, f⟩ := h.ex
  exact (roots_of a hn who).mono fun e W' ⟨v, h1, h2, h3⟩ => by
    obtain ⟨ao, cc, hv⟩ := h2.form
    rw [List.length_map] at hv
    subst hv
    exact ⟨ao, cc, h1, h2, h.quiet h3, h3⟩
end
end Go.Proofs.Ytdpaobflknkbkaa
