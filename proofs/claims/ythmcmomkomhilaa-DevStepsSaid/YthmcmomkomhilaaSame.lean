/- Contract: same: do both devices tell, and keep, the same? -/
import Derived.Test.YthmcmomkomhilaaDoes
import Derived.Test.YthmcmomkomhilaaStatEq
namespace Go.Proofs.Ythmcmomkomhilaa
open Go.RowKit Go.ChangeShapes
set_option linter.unusedVariables false

set_option maxRecDepth 100000 in
set_option maxHeartbeats 4000000 in
theorem same_dev (w0 W : World) (gd gr s : Nat) (d : Dv) (hd2 : d.waits.length ≤ 1000) (h : Two (fun _ => False) w0 W gd gr s d d) :
    Calls Try.prog 12 #[.pointer (some ⟨gd, 0, none⟩), .pointer (some ⟨gr, 0, none⟩)] W fun r w' => r = .returned (.bool true) ∧ Two (fun _ => False) w0 w' gd gr s d d := by
  obtain ⟨D, E, _, hr, _⟩ := h.ex
  obtain ⟨F, ga, vw, hm, hD⟩ := hr
  obtain ⟨ao, cap, hvf, hwc, hwm⟩ := hm.pend.form
  subst hvf
  obtain ⟨n, hn⟩ : ∃ n, n = d.waits.length := ⟨_, rfl⟩
  have hh := hm.head
  have hS := fun W' (hf : Fr (fun _ => False) W W') => rSectors_any W' gr (some ⟨ga, 0, none⟩) s (64 * s) _ d.deeds _ d.down (hh.keep hf (fun h => h)) hm.small
  have hal : d.all.length = 64 * s := hm.right.all
  have hAB := fun W' (hf : Fr (fun _ => False) W W') => (hm.kept.keep hf (fun h => h)).bytes4 (64 * s) hal (by have := hm.small; unfold maxLen; omega)
  have hs := hm.small
  obtain ⟨m, hmm⟩ : ∃ m, m = 64 * s := ⟨_, rfl⟩
  rw [← hmm] at hAB hh hal
  rw [← hn] at hh
  have hcs := fun W' (hf : Fr (fun _ => False) W W') => (hh.keep hf (fun h => h)).cells
  obtain ⟨c0, c1, c2, c3, c4⟩ := hh.cells
  obtain ⟨kd, hkd⟩ : ∃ kd, kd = d.deeds := ⟨_, rfl⟩
  obtain ⟨dn, hdn⟩ : ∃ dn, dn = d.down := ⟨_, rfl⟩
  have hst := tStat w0 W.drew gd gr s d d (h.quiet (Fr.refl _ _).drew)
  rw [← hkd, ← hdn, ← hn] at hst
  rw [← hkd] at c2 hcs
  rw [← hdn] at c4 hcs
  have HST := Lib.hid hst
  have HS := Lib.hid hS
  have HCS := Lib.hid hcs
  have HAB := Lib.hid hAB
  have HAL := Lib.hid (And.intro hal (And.intro hmm hs))
  have HT := Lib.hid h
  have HN := Lib.hid (And.intro hn hd2)
  have hnq := run_neq_stat
  have hgs := guard_stat
  have hf0 : Fr (fun _ => False) W W.drew := (Fr.refl _ _).drew
  have HF0 := Lib.hid hf0
  clear hst hS hcs hAB hal hmm hs h hn hd2 hh hm hD hwc hwm hkd hdn hf0
  go_enter Try.func12, Try.ntmps12
  go_wp2_with fail
  go_region_held3 (fun w' => w'.cell? ⟨gr, 1, none⟩ = some (.slice ao n cap) ∧ w'.cell? ⟨gr, 2, none⟩ = some (.int .i64 kd) ∧ w'.cell? ⟨gr, 4, none⟩ = some (.bool dn)) (first | exact ⟨by assumption, by assumption, by assumption⟩ | go_keep)
    (first
      | (go_at_call 23; refine HST.out.mono ?_; rintro e w3 ⟨rfl, _, hf3⟩; (have HF3 := Lib.hid (HF0.out.trans hf3 (fun _ h => h.elim))); obtain ⟨_, e1, e2, _, e4⟩ := HCS.out _ HF3.out; clear hf3)
      | (go_at_call 36; refine (HS.out _ HF3.out).mono ?_; rintro e w4 ⟨rfl, rfl⟩))
  go_wp2_with fail
  go_loopw [5] (fun iv wr => ∃ x : Int, -1 ≤ x ∧ x ≤ 61 ∧ x ≤ (s : Int) + 1 ∧ iv = .int .i64 x ∧ Hid (Fr (fun _ => False) W wr)) (fun iv _ => (62 - intOf iv).toNat)
  case atStart => exact ⟨-1, by omega, by omega, by omega, rfl, HF3⟩
  case round =>
    obtain ⟨x, hx0, hx1, hx2, rfl, hR⟩ := hrel
    have HRR := Lib.hid hR.out
    by_cases hxs : x ≤ (s : Int)
    · have b1 : decide (x ≤ (s : Int)) = true := by rw [decide_eq_true_iff]; exact hxs
      by_cases hx60 : x ≤ 60
      · have b2 : decide (x ≤ 60) = true := by rw [decide_eq_true_iff]; exact hx60
        obtain ⟨c, hc⟩ : ∃ c, c = (d.read s x).1 := ⟨_, rfl⟩
        obtain ⟨B, hB⟩ : ∃ B, B = (d.read s x).2 := ⟨_, rfl⟩
        have HRD := Lib.hid (And.intro hc hB)
        have hcc : (c == c) = true := by simp
        have hrd := tRead w0 wr gd gr s d d x (by have := HN.out.2; omega) (HT.out.quiet hR.out)
        rw [← hc, ← hB] at hrd
        have HC := Lib.hid hrd
        have HXB := Lib.hid (And.intro hxs hx60)
        clear hR hc hB hrd hxs hx60
        go_wp2_with (first
          | (go_at_call 36; refine (HS.out _ HRR.out).mono ?_; rintro e w4 ⟨rfl, rfl⟩)
          | (go_at_call 24; refine HC.out.mono ?_; rintro e w5 ⟨v5, rfl, ho5, h5, hf5⟩; (have hu5 := uRead w0 w5 gd gr s d d x (by have := HN.out.2; omega) h5); rw [← HRD.out.1, ← HRD.out.2] at hu5; (have HU5 := Lib.hid hu5); (have HO5 := Lib.hid ho5); (have HF5 := Lib.hid (HRR.out.trans hf5 (fun _ h => h.elim))); clear h5 hf5 ho5 hu5 HC)
          | (go_at_call 25; refine HU5.out.mono ?_; rintro e w6 ⟨v6, rfl, ho6, h6, hf6⟩; (have HSB := Lib.hid (same_any v5 v6 B B w6 ((HO5.out.keep hf6 (fun _ _ _ h => h)).bytes) ho6)); (have HF6 := Lib.hid (HF5.out.trans hf6 (fun _ h => h.elim))); clear h6 hf6 ho6 HU5)
          | (go_at_call 18; refine HSB.out.mono ?_; rintro e w7 ⟨rfl, n7, rfl⟩; rw [sameB_eq rfl]; clear HSB))
        go_roundw
        case rel => exact ⟨x + 1, by omega, by have := HXB.out; omega, by have := HXB.out; omega, by go_num, Lib.hid (HF6.out.drewN n7)⟩
        case measure => simp [intOf]; omega
      · have b2 : decide (x ≤ 60) = false := by rw [decide_eq_false_iff_not]; exact hx60
        have HK := Lib.hid (tKept w0 wr gd gr s d d (HT.out.quiet hR.out))
        clear hR hx60 hxs
        go_wp2_with (first
          | (go_at_call 36; refine (HS.out _ HRR.out).mono ?_; rintro e w4 ⟨rfl, rfl⟩)
          | (go_at_call 17; refine HK.out.mono ?_; rintro e w8 ⟨v8, rfl, ho8, h8, hf8⟩; (have HF8 := Lib.hid (HRR.out.trans hf8 (fun _ h => h.elim))); obtain ⟨ea, _, _, _, _⟩ := HCS.out _ HF8.out; (have HO8 := Lib.hid ho8); (have HSB := Lib.hid (same_any v8 _ d.all d.all w8 ho8.bytes (HAB.out _ HF8.out))); clear h8 hf8 ho8 HK)
          | (go_at_call 18; refine HSB.out.mono ?_; rintro e w9 ⟨rfl, n9, rfl⟩; rw [sameB_eq rfl]; (have HOV := Lib.hid (OverT_any v8 d.all (_root_.Go.World.drewN w8 n9) (HO8.out.keep ((Fr.refl (fun _ => False) w8).drewN n9) (fun _ _ _ h => h)) (by have := HAL.out; omega))); clear HSB)
          | (go_at_call 26; refine HOV.out.mono ?_; rintro e w10 ⟨rfl, hf10⟩; (have HU := Lib.hid (HT.out.away (S := fun k => W.heap.size ≤ k) (((HF8.out.drewN n9).mono (fun _ _ h => h.elim)).trans hf10 (fun k hk => .inl (Nat.le_trans HRR.out.size (HO8.out.own k hk)))) (fun k hk => .inr hk))); clear hf10 HOV))
        go_ret
        exact ⟨rfl, HU.out⟩
    · have b1 : decide (x ≤ (s : Int)) = false := by rw [decide_eq_false_iff_not]; exact hxs
      have HK := Lib.hid (tKept w0 wr gd gr s d d (HT.out.quiet hR.out))
      clear hR hxs
      go_wp2_with (first
        | (go_at_call 36; refine (HS.out _ HRR.out).mono ?_; rintro e w4 ⟨rfl, rfl⟩)
        | (go_at_call 17; refine HK.out.mono ?_; rintro e w8 ⟨v8, rfl, ho8, h8, hf8⟩; (have HF8 := Lib.hid (HRR.out.trans hf8 (fun _ h => h.elim))); obtain ⟨ea, _, _, _, _⟩ := HCS.out _ HF8.out; (have HO8 := Lib.hid ho8); (have HSB := Lib.hid (same_any v8 _ d.all d.all w8 ho8.bytes (HAB.out _ HF8.out))); clear h8 hf8 ho8 HK)
        | (go_at_call 18; refine HSB.out.mono ?_; rintro e w9 ⟨rfl, n9, rfl⟩; rw [sameB_eq rfl]; (have HOV := Lib.hid (OverT_any v8 d.all (_root_.Go.World.drewN w8 n9) (HO8.out.keep ((Fr.refl (fun _ => False) w8).drewN n9) (fun _ _ _ h => h)) (by have := HAL.out; omega))); clear HSB)
        | (go_at_call 26; refine HOV.out.mono ?_; rintro e w10 ⟨rfl, hf10⟩; (have HU := Lib.hid (HT.out.away (S := fun k => W.heap.size ≤ k) (((HF8.out.drewN n9).mono (fun _ _ h => h.elim)).trans hf10 (fun k hk => .inl (Nat.le_trans HRR.out.size (HO8.out.own k hk)))) (fun k hk => .inr hk))); clear hf10 HOV))
      go_ret
      exact ⟨rfl, HU.out⟩
end Go.Proofs.Ythmcmomkomhilaa
