/- The law's helper got: what a cursor gets of a row of parts. -/
import Derived.Test.YthjpgnmpcllolaaPlain
import Derived.Deep.RegionWith
import Derived.Deep.RegionHeld3
namespace Go.Proofs.Ythjpgnmpcllolaa
open Go.RowKit Go.ChangeShapes
set_option linter.unusedVariables false

theorem gotAll_cons_yes (p : PartD) (l : List PartD) (X : List UInt8) (e : Int) (h : (gotPart p X e).1 = true) : gotAll (p :: l) X e = gotAll l (gotPart p X e).2.1 (gotPart p X e).2.2 := by
  rw [gotAll, if_pos h]
theorem gotAll_cons_no (p : PartD) (l : List PartD) (X : List UInt8) (e : Int) (h : (gotPart p X e).1 = false) : gotAll (p :: l) X e = (false, (gotPart p X e).2) := by
  rw [gotAll, if_neg (by simp [h])]

theorem Fr.bytes {F S : Nat → Prop} {w w' : World} {v : Value} {L : List UInt8} (hf : Fr S w w') (h : BytesIn F w v L) (hd : ∀ k, k < w.heap.size → F k → ¬ S k) : BytesIn F w' v L := h.keep hf hd

theorem curNum_len (m : Int) (X : List UInt8) (e : Int) : (curNum m X e).2.1.length ≤ X.length := by
  unfold curNum
  split
  · split <;> simp
  · simp
theorem curRaw_len (m : Int) (X : List UInt8) (e : Int) : (curRaw m X e).2.1.length ≤ X.length := by
  unfold curRaw
  split
  · split <;> simp
  · simp
theorem curText_len (m : Int) (X : List UInt8) (e : Int) : (curText m X e).2.1.length ≤ X.length := by
  unfold curText
  split
  · split
    · simp
    · split
      · simp
      · split
        · simp
        · have := curRaw_len (numV X) (X.drop (numS X)) 0
          rw [List.length_drop] at this
          omega
  · simp

set_option maxHeartbeats 4000000 in
set_option maxRecDepth 100000 in
theorem got_any {F G : Nat → Prop} {b : Nat} {v : Value} {l : List PartD} {X : List UInt8} {e : Int} (w : World) (hl : PartsIn F w v l) (hc : CurAt G w b X e) (hFb : ∀ k, F k → k ≠ b) (hX : X.length ≤ 140737488355328) :
    Calls Try.prog 27 #[.pointer (some ⟨b, 0, none⟩), v] w fun r w' => r = .returned (.bool (gotAll l X e).1) ∧ Fr (· = b) w w' ∧ CurAt G w' b (gotAll l X e).2.1 (gotAll l X e).2.2 := by
  obtain ⟨ao, cap, rfl, h1, h2, h3, h4⟩ := hl
  by_cases hnil : l = []
  · subst hnil
    go_enter Try.func27, Try.ntmps27
    go_wp2
    refine wp_loop_rounds 1 ?_
    rw [rounds_succ]
    go_wp2
    go_ret
    exact ⟨rfl, Fr.refl _ _, hc⟩
  · obtain ⟨pb, off, rfl, hi⟩ := h4 hnil
    obtain ⟨n, hn⟩ : ∃ n, n = l.length := ⟨_, rfl⟩
    rw [← hn] at h1 ⊢
    have HI := Lib.hid hi
    have HN := Lib.hid hn
    have H3 := Lib.hid h3
    have HC := Lib.hid hc
    have HFB := Lib.hid hFb
    clear hi hn h4 hnil h3 hc hFb
    have hns : n ≤ 2932031007317 := by omega
    go_enter Try.func27, Try.ntmps27
    go_wp2
    go_loopw [5] (fun i wr => ∃ (k : Nat) (Y : List UInt8) (f : Int), k ≤ n ∧ i = .int .i64 k ∧ Hid (gotAll l X e = gotAll (l.drop k) Y f) ∧ Hid (CurAt G wr b Y f) ∧ Hid (Fr (· = b) w wr) ∧ Hid (Y.length ≤ 140737488355328)) (fun i _ => n - (intOf i).toNat)
    case atStart => exact ⟨0, X, e, by omega, rfl, Lib.hid rfl, HC, Lib.hid (Fr.refl _ _), Lib.hid hX⟩
    case round =>
      obtain ⟨k, Y, f, hk, rfl, hg, hcur, hfr, hY⟩ := hrel
      clear HC
      by_cases hlt : k < n
      · have hkl : k < l.length := by have := HN.out; omega
        have hp := (HI.out k hkl).keep hfr.out (fun i _ hF => HFB.out i hF)
        have hdrop : l.drop k = l[k] :: l.drop (k + 1) := List.drop_eq_getElem_cons hkl
        obtain ⟨p, hpk⟩ : ∃ p, p = l[k] := ⟨_, rfl⟩
        rw [← hpk] at hp hdrop
        have hg1 := Lib.hid (hg.out.trans (by rw [hdrop]))
        clear hdrop hpk hg
        obtain ⟨q1, q2, q3, q4, q5, q6, q7⟩ := id hp
        obtain ⟨ao', cap', hx, hl', hm', _⟩ := q5
        obtain ⟨pw, pn, pm, px, pB⟩ := p
        simp only at *
        subst hx
        obtain ⟨m1, m2⟩ := q7.1
        have hmod0 := Int.emod_nonneg pw (show (3 : Int) ≠ 0 by decide)
        have hmod3 := Int.emod_lt_of_pos pw (show (0 : Int) < 3 by decide)
        have HP := Lib.hid hp
        clear hp q7
        have hpb : ¬ pb = b := HFB.out pb HP.out.in_
        by_cases w0 : pw % 3 = 0
        · have hgp : gotPart ⟨pw, pn, pm, .slice ao' pB.length cap', pB⟩ Y f = (decide ((curNum pn Y f).1 = pn), (curNum pn Y f).2) := by simp [gotPart, w0]
          have hlen := curNum_len pn Y f
          have hcall := fun (w' : World) (h : CurAt G w' b Y f) => curNum_any pn w' h
          obtain ⟨a, ha⟩ : ∃ a, a = curNum pn Y f := ⟨_, rfl⟩
          rw [← ha] at hgp hlen hcall
          obtain ⟨a1, a2, a3⟩ := a
          simp only at hgp hlen hcall
          have hY2 := Lib.hid (show a2.length ≤ 140737488355328 from Nat.le_trans hlen hY.out)
          have HCALL := Lib.hid hcall
          have w0' : (pw % 3 == 0) = true := by simpa using w0
          clear w0 ha hlen hcall hY
          by_cases hy : a1 = pn
          · have hy' : (a1 == pn) = true := by simpa using hy
            have hg2 := Lib.hid (hg1.out.trans (by rw [gotAll_cons_yes _ _ _ _ (by rw [hgp]; simpa using hy), hgp]))
            clear hgp hg1 hy
            go_wp2_with (go_at_call 10; refine (pick_any pw 3 _ (by decide) (by decide) m1 m2).mono ?_; rintro e w' ⟨rfl, rfl⟩)
            go_region_with (first | (go_at_call 30; refine (HCALL.out _ (by exact hcur.out)).mono ?_; rintro e w1 ⟨rfl, hf1, hc1⟩; have r2 := hf1.cell (p := ⟨pb, off + k * 4 + 1, none⟩) q2 hpb; have HF1 := Lib.hid hf1; have HC1 := Lib.hid hc1; clear hf1 hc1))
            all_goals
              go_wp2
              go_roundw
              case rel => exact ⟨k + 1, a2, a3, by omega, by go_num, hg2, HC1, Lib.hid ((hfr.out.drew).trans HF1.out (fun i hi => .inl hi)), hY2⟩
              case measure => simp [intOf]; omega
          · have hy' : (a1 == pn) = false := by simpa using hy
            have hg2 := Lib.hid (hg1.out.trans (by rw [gotAll_cons_no _ _ _ _ (by rw [hgp]; simpa using hy), hgp]))
            clear hgp hg1 hy
            go_wp2_with (go_at_call 10; refine (pick_any pw 3 _ (by decide) (by decide) m1 m2).mono ?_; rintro e w' ⟨rfl, rfl⟩)
            go_region_with (first | (go_at_call 30; refine (HCALL.out _ (by exact hcur.out)).mono ?_; rintro e w1 ⟨rfl, hf1, hc1⟩; have r2 := hf1.cell (p := ⟨pb, off + k * 4 + 1, none⟩) q2 hpb; have HF1 := Lib.hid hf1; have HC1 := Lib.hid hc1; clear hf1 hc1))
            all_goals
              go_wp2
              go_ret
              rw [hg2.out]
              exact ⟨rfl, (hfr.out.drew).trans HF1.out (fun i hi => .inl hi), HC1.out⟩
        · by_cases w1' : pw % 3 = 1
          · have hr1 : pB.length ≤ 9223372036854775807 := by unfold maxLen at hm'; omega
            have w0' : (pw % 3 == 0) = false := by simpa using w0
            have w1'' : (pw % 3 == 1) = true := by simpa using w1'
            have hgp : gotPart ⟨pw, pn, pm, .slice ao' pB.length cap', pB⟩ Y f = (sameB (curRaw pB.length Y f).1 pB, (curRaw pB.length Y f).2) := by simp [gotPart, w1']
            have hlen := curRaw_len pB.length Y f
            have hcall := fun (w' : World) (h : CurAt G w' b Y f) => curRaw_any pB.length w' h hY.out (by omega) (by omega)
            obtain ⟨a, ha⟩ : ∃ a, a = curRaw pB.length Y f := ⟨_, rfl⟩
            rw [← ha] at hgp hlen hcall
            obtain ⟨a1, a2, a3⟩ := a
            simp only at hgp hlen hcall
            have hY2 := Lib.hid (show a2.length ≤ 140737488355328 from Nat.le_trans hlen hY.out)
            have HCALL := Lib.hid hcall
            have hsz := HP.out.bytes
            clear w0 w1'
            clear ha hlen hcall hY
            by_cases hy : sameB a1 pB = true
            · have hg2 := Lib.hid (hg1.out.trans (by rw [gotAll_cons_yes _ _ _ _ (by rw [hgp]; exact hy), hgp]))
              clear hgp hg1
              go_wp2_with (go_at_call 10; refine (pick_any pw 3 _ (by decide) (by decide) m1 m2).mono ?_; rintro e w' ⟨rfl, rfl⟩)
              go_region_with (first
                | (go_at_call 31; refine (HCALL.out _ (by exact hcur.out)).mono ?_; rintro e w1 ⟨v1, rfl, hf1, ho1, hc1⟩; have r4 := hf1.cell (p := ⟨pb, off + k * 4 + 3, none⟩) q4 hpb; have HB1 := Lib.hid (hf1.bytes hsz (fun i _ hF => HFB.out i hF)); have HF1 := Lib.hid hf1; have HC1 := Lib.hid hc1; have HO1 := Lib.hid ho1; clear hf1 hc1 ho1)
                | (go_at_call 19; refine (same_any _ _ a1 pB _ (by exact HO1.out.bytes) (by exact HB1.out)).mono ?_; rintro e w2 ⟨rfl, d2, rfl⟩))
              all_goals
                go_wp2
                go_roundw
                case rel => exact ⟨k + 1, a2, a3, by omega, by go_num, hg2, HC1, Lib.hid (((hfr.out.drew).trans HF1.out (fun i hi => .inl hi)).drewN _), hY2⟩
                case measure => simp [intOf]; omega
            · have hy' : sameB a1 pB = false := by simpa using hy
              have hg2 := Lib.hid (hg1.out.trans (by rw [gotAll_cons_no _ _ _ _ (by rw [hgp]; exact hy'), hgp]))
              clear hgp hg1 hy
              go_wp2_with (go_at_call 10; refine (pick_any pw 3 _ (by decide) (by decide) m1 m2).mono ?_; rintro e w' ⟨rfl, rfl⟩)
              go_region_with (first
                | (go_at_call 31; refine (HCALL.out _ (by exact hcur.out)).mono ?_; rintro e w1 ⟨v1, rfl, hf1, ho1, hc1⟩; have r4 := hf1.cell (p := ⟨pb, off + k * 4 + 3, none⟩) q4 hpb; have HB1 := Lib.hid (hf1.bytes hsz (fun i _ hF => HFB.out i hF)); have HF1 := Lib.hid hf1; have HC1 := Lib.hid hc1; have HO1 := Lib.hid ho1; clear hf1 hc1 ho1)
                | (go_at_call 19; refine (same_any _ _ a1 pB _ (by exact HO1.out.bytes) (by exact HB1.out)).mono ?_; rintro e w2 ⟨rfl, d2, rfl⟩))
              all_goals
                go_wp2
                go_ret
                rw [hg2.out]
                exact ⟨rfl, ((hfr.out.drew).trans HF1.out (fun i hi => .inl hi)).drewN _, HC1.out⟩
          · have w0' : (pw % 3 == 0) = false := by simpa using w0
            have w1'' : (pw % 3 == 1) = false := by simpa using w1'
            have hgp : gotPart ⟨pw, pn, pm, .slice ao' pB.length cap', pB⟩ Y f = (sameB (curText pB.length Y f).1 pB, (curText pB.length Y f).2) := by simp [gotPart, w0, w1']
            have hlen := curText_len pB.length Y f
            have hcall := fun (w' : World) (h : CurAt G w' b Y f) => curText_any pB.length w' h hY.out
            obtain ⟨a, ha⟩ : ∃ a, a = curText pB.length Y f := ⟨_, rfl⟩
            rw [← ha] at hgp hlen hcall
            obtain ⟨a1, a2, a3⟩ := a
            simp only at hgp hlen hcall
            have hY2 := Lib.hid (show a2.length ≤ 140737488355328 from Nat.le_trans hlen hY.out)
            have HCALL := Lib.hid hcall
            have hsz := HP.out.bytes
            clear w0 w1'
            clear ha hlen hcall hY
            by_cases hy : sameB a1 pB = true
            · have hg2 := Lib.hid (hg1.out.trans (by rw [gotAll_cons_yes _ _ _ _ (by rw [hgp]; exact hy), hgp]))
              clear hgp hg1
              go_wp2_with (go_at_call 10; refine (pick_any pw 3 _ (by decide) (by decide) m1 m2).mono ?_; rintro e w' ⟨rfl, rfl⟩)
              go_region_with (first
                | (go_at_call 32; refine (HCALL.out _ (by exact hcur.out)).mono ?_; rintro e w1 ⟨v1, rfl, hf1, ho1, hc1⟩; have r4 := hf1.cell (p := ⟨pb, off + k * 4 + 3, none⟩) q4 hpb; have HB1 := Lib.hid (hf1.bytes hsz (fun i _ hF => HFB.out i hF)); have HF1 := Lib.hid hf1; have HC1 := Lib.hid hc1; have HO1 := Lib.hid ho1; clear hf1 hc1 ho1)
                | (go_at_call 19; refine (same_any _ _ a1 pB _ (by exact HO1.out.bytes) (by exact HB1.out)).mono ?_; rintro e w2 ⟨rfl, d2, rfl⟩))
              all_goals
                go_wp2
                go_roundw
                case rel => exact ⟨k + 1, a2, a3, by omega, by go_num, hg2, HC1, Lib.hid (((hfr.out.drew).trans HF1.out (fun i hi => .inl hi)).drewN _), hY2⟩
                case measure => simp [intOf]; omega
            · have hy' : sameB a1 pB = false := by simpa using hy
              have hg2 := Lib.hid (hg1.out.trans (by rw [gotAll_cons_no _ _ _ _ (by rw [hgp]; exact hy'), hgp]))
              clear hgp hg1 hy
              go_wp2_with (go_at_call 10; refine (pick_any pw 3 _ (by decide) (by decide) m1 m2).mono ?_; rintro e w' ⟨rfl, rfl⟩)
              go_region_with (first
                | (go_at_call 32; refine (HCALL.out _ (by exact hcur.out)).mono ?_; rintro e w1 ⟨v1, rfl, hf1, ho1, hc1⟩; have r4 := hf1.cell (p := ⟨pb, off + k * 4 + 3, none⟩) q4 hpb; have HB1 := Lib.hid (hf1.bytes hsz (fun i _ hF => HFB.out i hF)); have HF1 := Lib.hid hf1; have HC1 := Lib.hid hc1; have HO1 := Lib.hid ho1; clear hf1 hc1 ho1)
                | (go_at_call 19; refine (same_any _ _ a1 pB _ (by exact HO1.out.bytes) (by exact HB1.out)).mono ?_; rintro e w2 ⟨rfl, d2, rfl⟩))
              all_goals
                go_wp2
                go_ret
                rw [hg2.out]
                exact ⟨rfl, ((hfr.out.drew).trans HF1.out (fun i hi => .inl hi)).drewN _, HC1.out⟩
      · have hkn := Lib.hid (show l.drop k = [] by rw [List.drop_eq_nil_of_le (by have := HN.out; omega)])
        have hg2 := Lib.hid (hg.out.trans (by rw [hkn.out, gotAll]))
        clear hg
        go_wp2
        go_ret
        rw [hg2.out]
        exact ⟨rfl, hfr.out, hcur.out⟩
end Go.Proofs.Ythjpgnmpcllolaa
