/- LentBytes: the bytes, with marks behind them. -/
import Derived.Test.YthmcmomkomhilaaFlatLib
import Derived.Test.YthmcmomkomhilaaBits
import Derived.Test.YthmcmomkomhilaaCursor
import Derived.Deep.LoopGhost
namespace Go.Proofs.Ythmcmomkomhilaa
open Go.RowKit Go.ChangeShapes
set_option linter.unusedVariables false

theorem one_b (w : World) (z : Int) (x : UInt8) (hz : z = x.toNat) : BytesIn (fun k => k = w.heap.size) (w.alloc (.cells #[.int .u8 z] 5)) (.slice (some ⟨w.heap.size, 0, none⟩) 1 1) [x] := by
  subst hz
  refine ⟨_, 1, rfl, Nat.le_refl _, by simp [maxLen], (fun h => by cases h), ?_⟩
  intro a ha
  cases ha
  refine ⟨fun j u hu => ?_, fun _ => rfl⟩
  match j, hu with
  | 0, hu =>
    simp at hu
    subst hu
    have := heap_alloc_new w (.cells #[bv x] 5)
    simp only [Addr.add, if_true]
    exact cell_of_one this

/-- Bytes as they were lent: n of them, 12 marks behind. -/
def LentAt (F : Nat → Prop) (w : World) (g c : Nat) (L : List UInt8) : Prop :=
  L.length + 12 ≤ c ∧ c ≤ maxLen ∧ OwnB F w (.slice (some ⟨g, 0, none⟩) (L.length + 12) c) (L ++ marks 1 12)

set_option maxHeartbeats 1000000 in
theorem LentBytes_any {G : Nat → Prop} (x : Value) (L : List UInt8) (w : World) (hx : BytesIn G w x L) (hL : L.length ≤ 1000000000) :
    Calls Try.prog 27 #[x] w fun e w' => ∃ g c, e = .returned (.slice (some ⟨g, 0, none⟩) L.length c) ∧ LentAt (fun k => w.heap.size ≤ k) w' g c L ∧ Fr (fun _ => False) w w' := by
  obtain ⟨ao, cp, hv, h1, hm, h2, h3⟩ := hx
  have HX0 := Lib.hid (show BytesIn G w (.slice ao L.length cp) L from ⟨ao, cp, rfl, h1, hm, h2, h3⟩)
  obtain ⟨n, hn⟩ : ∃ n, n = L.length := ⟨_, rfl⟩
  subst hv
  clear h1 h2 h3 hm
  rw [← hn] at HX0 hL ⊢
  have HN := Lib.hid hn
  clear hn
  obtain ⟨i1, hi1, hz0, hz1, hz2⟩ := info_parts Try.infoB
  have HI1 := Lib.hid (And.intro hi1 (And.intro hz0 (And.intro hz1 hz2)))
  clear hi1 hz0 hz1 hz2
  go_enter Try.func27, Try.ntmps27
  go_wp2_with (first
    | (at_make; refine wpList_make_own w rfl (.const (.int .i64 0)) (.tmp 7) 33 rfl 0 5 i1 (.int .u8 0) 1 Try.underlying33 HI1.out.1 HI1.out.2.1 HI1.out.2.2.1 .i64 .i64 ((n : Int) + 12) (n + 12) rfl rfl (by omega) (by rw [HI1.out.2.2.2]; omega) (by unfold maxLen; omega) (Nat.zero_le _) ?_; intro w2 ho2 hg2; have HO2 := Lib.hid (show OwnB (fun k => w.heap.size ≤ k) w2 (.slice (some ⟨w.heap.size, 0, none⟩) 0 (n + 12)) [] from ⟨ho2, fun g hg => by simp only [Value.ownBlock, Option.some.injEq] at hg; omega⟩); have HF2 := Lib.hid ((Fr.refl (fun _ => False) w).grown hg2 (fun k hk => by cases hk)); clear ho2 hg2)
    | (at_builtin; refine wpList_append_bytes (F := fun k => w.heap.size ≤ k) (G := G) _ rfl (.tmp 9) (.tmp 10) rfl _ _ [] L rfl rfl HO2.out (HX0.out.keep HF2.out (fun _ _ _ h => h)) (by rw [← HN.out]; simp; omega) ?_; intro v3 w3 ho3 hg3 hn3; have HS3 : Hid (OwnB (fun k => w.heap.size ≤ k) w3 v3 (L ++ marks 1 0) ∧ Fr (fun _ => False) w w3) := Lib.hid ⟨by have h := ho3.mono (G := fun k => w.heap.size ≤ k) (fun k _ h => h.elim id (fun h => Nat.le_trans HF2.out.size h)); simpa [marks] using h, HF2.out.grown hg3 (fun k hk => .inr (HO2.out.2 k hk))⟩; clear ho3 hg3 hn3)
    | fail)
  go_loopw [3, 4] (fun gv iv wi => ∃ i : Nat, i ≤ 12 ∧ iv = .int .i64 i ∧ Hid (OwnB (fun k => w.heap.size ≤ k) wi gv (L ++ marks 1 i) ∧ Fr (fun _ => False) w wi)) (fun _ iv _ => 12 - (intOf iv).toNat)
  case atStart => exact ⟨0, by omega, rfl, HS3⟩
  case round =>
    obtain ⟨i, hi, rfl, hw⟩ := hrel
    clear HS3 HO2 HF2 HX0
    by_cases hil : i < 12
    · have HMB : Hid (∀ w', Calls Try.prog 47 #[.int .i64 1, .int .i64 (i : Int)] w' fun e w'' => e = .returned (bv (mB 1 i)) ∧ w' = w'') := Lib.hid fun w' => markByte_any 1 i w' (by omega) (by omega)
      have HBV := Lib.hid (show bv (mB 1 i) = .int .u8 (mB 1 i).toNat from rfl)
      have HP := Lib.hid (hw.out.1.keep' ((Fr.refl (fun _ => False) wr).alloc (.cells #[.int .u8 (mB 1 i).toNat] 5)) (fun _ _ h => h))
      have HQ := Lib.hid (hw.out.2.alloc (.cells #[.int .u8 (mB 1 i).toNat] 5))
      have HOB := Lib.hid (one_b wr _ (mB 1 i) rfl)
      have HLN := Lib.hid (show (L ++ marks 1 i).length + [mB 1 i].length ≤ 140737488355328 by rw [List.length_append, marks_length, ← HN.out]; simp; omega)
      clear hw
      go_wp2_with (first
        | (go_at_call 47; refine (HMB.out _).mono ?_; rintro e w' ⟨rfl, rfl⟩; rw [HBV.out])
        | (at_builtin; refine wpList_append_bytes (F := fun k => w.heap.size ≤ k) (G := fun b => b = wr.heap.size) _ rfl (.tmp 16) (.tmp 19) rfl _ _ (L ++ marks 1 i) [mB 1 i] rfl rfl HP.out HOB.out HLN.out ?_; intro v5 w5 ho5 hg5 hn5; have HS5 : Hid (OwnB (fun k => w.heap.size ≤ k) w5 v5 (L ++ marks 1 (i + 1)) ∧ Fr (fun _ => False) w w5) := Lib.hid ⟨by have h := ho5.mono (G := fun k => w.heap.size ≤ k) (fun k _ h => h.elim id (fun h => Nat.le_trans HQ.out.size h)); rwa [List.append_assoc, ← marks_succ] at h, HQ.out.grown hg5 (fun k hk => .inr (HP.out.2 k hk))⟩; clear ho5 hg5 hn5)
        | fail)
      go_roundw
      case rel => exact ⟨i + 1, by omega, by go_num, HS5⟩
      case measure => simp [intOf]; omega
    · obtain rfl : i = 12 := by omega
      obtain ⟨g, c, hv, hc1, hc2, hc3, _⟩ := hw.out.1.form (by rw [List.length_append, marks_length]; omega)
      rw [List.length_append, marks_length, ← HN.out] at hv hc1
      subst hv
      have HS := Lib.hid hw.out
      have HC2 := Lib.hid hc2
      clear hw hc3 hc2
      go_wp2
      go_ret
      exact ⟨g, c, rfl, ⟨by rw [← HN.out]; exact hc1, HC2.out, by rw [← HN.out]; exact HS.out.1⟩, HS.out.2⟩
end Go.Proofs.Ythmcmomkomhilaa
