/- Contracts of code.Maker's own calls: Num, Raw, Text (of one each), Done. -/
import Derived.Test.YthjpgnmpcllolaaMaker2
namespace Go.Proofs.Ythjpgnmpcllolaa
open Go.RowKit Go.ChangeShapes
set_option linter.unusedVariables false

theorem mkNum_len (n : Int) (m : Option (List UInt8)) : ∀ L, mkNum n m = some L → ∃ L0, m = some L0 ∧ L.length ≤ L0.length + 6 := by
  intro L h
  unfold mkNum at h
  split at h
  · obtain ⟨L0, hL0, rfl⟩ := Option.map_eq_some_iff.1 h
    have := (numBytes_len 5 n.toNat).2
    exact ⟨L0, hL0, by simp; omega⟩
  · cases h

/-- Num of one number. -/
theorem makerNum_any {F : Nat → Prop} {b s : Nat} {m : Option (List UInt8)} (n : Int) (w : World) (hF : ∀ k, w.heap.size ≤ k → F k)
    (hm : MakAt F w b m) (hs : w.cell? ⟨s, 0, none⟩ = some (.int .i64 n)) (hlen : ∀ L, m = some L → L.length + 6 ≤ 140737488355328) :
    Calls Try.prog 11 #[.pointer (some ⟨b, 0, none⟩), .slice (some ⟨s, 0, none⟩) 1 1] w fun r w' => r = .returned (.pointer (some ⟨b, 0, none⟩)) ∧ Fr F w w' ∧ MakAt F w' b (mkNum n m) := by
  have HN := Lib.hid (number_all n w hF hm hlen)
  clear hF hm hlen
  go_enter Try.func11, Try.ntmps11
  go_wp2
  refine wp_loop_rounds 2 ?_
  rw [rounds_succ]
  go_wp2_with (go_at_call 34; refine HN.out.mono ?_; rintro e w1 ⟨rfl, hf1, hM1⟩; have H1 := Lib.hid hf1; have H2 := Lib.hid hM1; clear hf1 hM1)
  rw [rounds_succ]
  go_wp2
  go_ret
  exact ⟨rfl, H1.out, H2.out⟩

theorem makerRaw_any {F G : Nat → Prop} {b : Nat} {x : Value} {X : List UInt8} {m : Option (List UInt8)} (w : World) (hF : ∀ k, w.heap.size ≤ k → F k) (hG : ∀ k, G k → ¬ F k)
    (hm : MakAt F w b m) (hx : BytesIn G w x X) (hlen : ∀ L, m = some L → L.length + X.length ≤ 140737488355328) :
    Calls Try.prog 13 #[.pointer (some ⟨b, 0, none⟩), x] w fun r w' => r = .returned (.pointer (some ⟨b, 0, none⟩)) ∧ Fr F w w' ∧ MakAt F w' b (m.map (· ++ X)) := by
  have HN := Lib.hid (put_any w hF hG hm hx hlen)
  clear hF hG hm hx hlen
  go_enter Try.func13, Try.ntmps13
  go_wp2_with (go_at_call 35; refine HN.out.mono ?_; rintro e w1 ⟨rfl, hf1, hM1⟩; have H1 := Lib.hid hf1; have H2 := Lib.hid hM1; clear hf1 hM1)
  go_ret
  exact ⟨rfl, H1.out, H2.out⟩

/-- Text of one text. -/
theorem makerText_any {F G : Nat → Prop} {b s : Nat} {x : Value} {X : List UInt8} {m : Option (List UInt8)} (w : World) (hF : ∀ k, w.heap.size ≤ k → F k) (hG : ∀ k, G k → ¬ F k)
    (hm : MakAt F w b m) (hs : w.cell? ⟨s, 0, none⟩ = some x) (hx : BytesIn G w x X) (hlen : ∀ L, m = some L → L.length + 6 + X.length ≤ 140737488355328) :
    Calls Try.prog 15 #[.pointer (some ⟨b, 0, none⟩), .slice (some ⟨s, 0, none⟩) 1 1] w fun r w' => r = .returned (.pointer (some ⟨b, 0, none⟩)) ∧ Fr F w w' ∧ MakAt F w' b (mkText X m) := by
  have HN := Lib.hid (text_any w hF hG hm hx hlen)
  obtain ⟨ao, cap, rfl, _⟩ := hx
  clear hF hG hm hlen
  go_enter Try.func15, Try.ntmps15
  go_wp2
  refine wp_loop_rounds 2 ?_
  rw [rounds_succ]
  go_wp2_with (go_at_call 36; refine HN.out.mono ?_; rintro e w1 ⟨rfl, hf1, hM1⟩; have H1 := Lib.hid hf1; have H2 := Lib.hid hM1; clear hf1 hM1)
  rw [rounds_succ]
  go_wp2
  go_ret
  exact ⟨rfl, H1.out, H2.out⟩

/-- Done of a maker that holds. -/
theorem done_yes {F : Nat → Prop} {b : Nat} {L : List UInt8} (w : World) (hm : MakAt F w b (some L)) (hlen : L.length ≤ 140737488355328) :
    Calls Try.prog 17 #[.pointer (some ⟨b, 0, none⟩)] w fun r w' => ∃ v, r = .returned (.tuple #[v, .int .i64 0]) ∧ Fr (fun _ => False) w w' ∧ OwnB (fun k => w.heap.size ≤ k) w' v L := by
  obtain ⟨h1, T, h2⟩ := hm
  rcases h2 with ⟨rfl, h4⟩ | ⟨h, sv, hne, hFh, h5, h6, h7⟩
  · obtain ⟨c0, c1, c2, f0, f1, f2⟩ := mak_cells h4
    go_enter Try.func17, Try.ntmps17
    go_wp2_with (first
      | (go_at_call 38; refine (gathered_nil _ (by exact h4)).mono ?_; rintro e w' ⟨rfl, rfl⟩)
      | (go_at_call 37; refine (clone_nil _).mono ?_; rintro e w' ⟨rfl, rfl⟩))
    go_ret2
    exact ⟨_, rfl, Fr.refl _ _, OwnB.nil _ _⟩
  · obtain ⟨c0, c1, c2, f0, f1, f2⟩ := mak_cells h5
    have HG := Lib.hid (gathered_held w h5 h6 h7)
    clear h5 h6 h7
    go_enter Try.func17, Try.ntmps17
    go_wp2_with (first
      | (go_at_call 38; refine HG.out.mono ?_; rintro e w' ⟨v, rfl, ⟨k, rfl⟩, hB⟩; have HB := Lib.hid hB; clear hB)
      | (go_at_call 37; refine (clone_any _ (HB.out.drewN k) hlen).mono ?_; rintro e w2 ⟨v2, rfl, hf2, hO⟩; have H1 := Lib.hid hf2; have H2 := Lib.hid hO; clear hf2 hO))
    go_ret2
    exact ⟨_, rfl, H1.out.ofDrewN, H2.out⟩

theorem done_no {F : Nat → Prop} {b : Nat} (w : World) (hm : MakAt F w b none) :
    Calls Try.prog 17 #[.pointer (some ⟨b, 0, none⟩)] w fun r w' => r = .returned (.tuple #[.slice none 0 0, .int .i64 2]) ∧ w = w' := by
  obtain ⟨h1, T, hv, o, h3⟩ := hm
  obtain ⟨c0, c1, c2, f0, f1, f2⟩ := mak_cells h3
  clear h3
  go_enter Try.func17, Try.ntmps17
  go_wp2
  go_ret2
  exact ⟨rfl, rfl⟩

end Go.Proofs.Ythjpgnmpcllolaa
