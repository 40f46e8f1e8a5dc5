/- Contract: DevWhole. -/
import Derived.Test.YthmcmomkomhilaaWhole0
import Derived.Test.YthmcmomkomhilaaFlatLib
namespace Go.Proofs.Ythmcmomkomhilaa
open Go.RowKit Go.ChangeShapes
set_option linter.unusedVariables false

/-- Deeds as a walk meets them: where their cells lie. -/
structure DeedsAt (F : Nat → Prop) (w : World) (ao : Option Addr) (b off n cap : Nat) (l : List DeedD) : Prop where
  len : n = l.length
  le : n ≤ cap ∧ n * 48 ≤ 140737488351232
  ptr : 0 < n → ao = some ⟨b, off, none⟩
  each : ∀ i (h : i < l.length), DeedAt F w b (off + i * 4) l[i]
theorem DeedsIn.at_ {F : Nat → Prop} {w : World} {v : Value} {l : List DeedD} (h : DeedsIn F w v l) : ∃ ao b off n cap, v = .slice ao n cap ∧ DeedsAt F w ao b off n cap l := by
  obtain ⟨ao, cap, rfl, h1, h2, h3, h4⟩ := h
  by_cases hl : l = []
  · subst hl
    exact ⟨ao, 0, 0, 0, cap, rfl, rfl, ⟨h1, h2⟩, fun h => by omega, fun i h => by simp at h⟩
  · obtain ⟨b, off, ha, hi⟩ := h4 hl
    exact ⟨ao, b, off, l.length, cap, rfl, rfl, ⟨h1, h2⟩, fun _ => ha, hi⟩
theorem DeedsAt.keep {F S : Nat → Prop} {w w' : World} {ao : Option Addr} {b off n cap : Nat} {l : List DeedD} (h : DeedsAt F w ao b off n cap l) (hf : Fr S w w') (hd : ∀ k, k < w.heap.size → F k → ¬ S k) : DeedsAt F w' ao b off n cap l :=
  ⟨h.len, h.le, h.ptr, fun i hi => (h.each i hi).keep hf hd⟩

theorem pick_still {x n : Int} {w : World} (h1 : 1 ≤ n) (h2 : n ≤ 1000000) (hx : -9223372036854775808 ≤ x) (hx2 : x ≤ 9223372036854775807) :
    Calls Try.prog 15 #[.int .i64 x, .int .i64 n] w fun e w' => e = .returned (.int .i64 (x % n)) ∧ w' = w := (pick_any x n w h1 h2 hx hx2).mono fun e w' ⟨h, h'⟩ => ⟨h, h'.symm⟩

/-- What the law's ok says, P of the writes looked through. -/
def okL (A B : List UInt8) (a : Nat) (P : List Pend) : Bool := sameB A B || P.any (fun p => decide (p.1 = a) && sameB B p.2)
theorem okL_snoc (A B : List UInt8) (a : Nat) (P : List Pend) (p : Pend) : okL A B a (P ++ [p]) = (okL A B a P || (decide (p.1 = a) && sameB B p.2)) := by
  simp [okL, Bool.or_assoc]
theorem okL_true (f : Nat → Bool) (s a : Nat) (K : List UInt8) (P : List Pend) (hP : Pends s P) (hK : K.length = 64 * s) (ha : a < s) : okL (secAt K a) (secAt (wakeL f 0 P K) a) a P = true := by
  rw [wakeL_sec f s a ha P 0 K hP hK, okL, Bool.or_eq_true]
  rcases lastL_one f a P 0 (secAt K a) with h | ⟨p, hp, h1, h2⟩
  · exact .inl (sameB_eq h.symm)
  · refine .inr (List.any_eq_true.2 ⟨p, hp, ?_⟩)
    rw [Bool.and_eq_true]
    exact ⟨by rw [decide_eq_true_iff]; exact h1, sameB_eq h2⟩
theorem lastL_congr (f f' : Nat → Bool) (hf : ∀ i, f i = f' i) (a : Nat) : ∀ (W : List Pend) (i : Nat) (x : List UInt8), lastL f a i W x = lastL f' a i W x
  | [], i, x => rfl
  | p :: W, i, x => by rw [lastL, lastL, lastL_congr f f' hf a W, hf i]

theorem bytT_in {w : World} {g : Nat} {L : List UInt8} (h : BytT w g 5 L) (hl : L.length = 64) : BytesIn (fun _ => True) w (.slice (some ⟨g, 0, none⟩) 64 64) L := by
  refine ⟨_, 64, by rw [hl], by omega, by decide, (fun h => by cases h), fun p hp => ?_⟩
  cases hp
  refine ⟨fun j u hu => ?_, fun _ => trivial⟩
  rw [addr_plain, Nat.zero_add, cell_of_row _ _ _ _ _ _ h]
  simpa using hu

theorem Dev2.quiet {X : Nat → Prop} {w0 W w' : World} {g s : Nat} {d : Dv} (h : Dev2 X w0 W g s d) (hf : Fr (fun _ => False) W w') : Dev2 X w0 w' g s d := by
  obtain ⟨D, h1, h2⟩ := h.ex
  exact ⟨⟨D, h1.keep hf (fun _ _ _ h => h), h2⟩, fun k hk => Nat.lt_of_lt_of_le (h.lt k hk) hf.size, h.fr.trans hf (fun _ h => h.elim)⟩
theorem whDrew {X : Nat → Prop} {w0 wr : World} {g s : Nat} {A : List UInt8} {l : List DeedD} {i D0 : Nat} (h : WhAt X w0 wr g s A l i D0) : WhAt X w0 wr.drew g s A l i D0 := by
  obtain ⟨d, h1, h2⟩ := h.ex
  exact ⟨d, h1.quiet (Fr.refl _ _).drew, h2⟩
theorem WhAt.fr {X : Nat → Prop} {w0 wr : World} {g s : Nat} {A : List UInt8} {l : List DeedD} {i D0 : Nat} (h : WhAt X w0 wr g s A l i D0) : Fr (fun _ => False) w0 wr := by
  obtain ⟨d, h1, h2⟩ := h.ex
  exact h1.fr

set_option maxRecDepth 100000 in
set_option maxHeartbeats 4000000 in
theorem devWhole_any (w : World) (s0 keep : Int) (hs1 : -9223372036854775808 ≤ s0) (hs2 : s0 ≤ 9223372036854775807) (hkp0 : -9223372036854775808 ≤ keep) (hkp1 : keep ≤ 9223372036854775807) (v1 v2 : Value) (L1 L2 : List DeedD) (hL1 : DeedsIn (fun k => k < w.heap.size) w v1 L1) (hL2 : DeedsIn (fun k => k < w.heap.size) w v2 L2) :
    Calls Try.prog 5 #[.int .i64 s0, v1, v2, .int .i64 keep] w fun e w' => e = .returned (.bool true) ∧ Fr (fun _ => False) w w' := by
  have HA := Lib.hid (awake_any w)
  obtain ⟨ao1, b1, off1, n1, cap1, rfl, ha1⟩ := hL1.at_
  obtain ⟨ao2, b2, off2, n2, cap2, rfl, ha2⟩ := hL2.at_
  have HG1 := Lib.hid (fun W (hf : Fr (fun _ => False) w W) => great_any W s0 (hL1.keep hf (fun _ _ _ h => h)))
  have HG2 := Lib.hid (fun W (hf : Fr (fun _ => False) w W) => great_any W s0 (hL2.keep hf (fun _ _ _ h => h)))
  have HD1 := Lib.hid ha1
  have HD2 := Lib.hid ha2
  have q1 : n1 ≤ 2932031007317 := by have := ha1.le; omega
  have q2 : n2 ≤ 2932031007317 := by have := ha2.le; omega
  clear hL1 hL2 ha1 ha2
  by_cases g1 : s0 < 1
  · go_enter Try.func5, Try.ntmps5
    go_wp2_with (go_at_call 8; refine HA.out.mono ?_; rintro e w1 ⟨rfl, hf⟩; (have HF := Lib.hid hf); clear hf)
    go_ret
    exact ⟨rfl, HF.out⟩
  have d1 : decide (s0 < 1) = false := by rw [decide_eq_false_iff_not]; exact g1
  cases g2 : greatB s0 L1 with
  | true =>
    rw [g2] at HG1
    go_enter Try.func5, Try.ntmps5
    go_wp2_with (first
      | (go_at_call 8; refine HA.out.mono ?_; rintro e w1 ⟨rfl, hf⟩; (have HF := Lib.hid hf); clear hf)
      | (go_at_call 7; refine (HG1.out _ HF.out).mono ?_; rintro e w2 ⟨rfl, rfl⟩))
    go_ret
    exact ⟨rfl, HF.out⟩
  | false =>
  rw [g2] at HG1
  cases g3 : greatB s0 L2 with
  | true =>
    rw [g3] at HG2
    go_enter Try.func5, Try.ntmps5
    go_wp2_with (first
      | (go_at_call 8; refine HA.out.mono ?_; rintro e w1 ⟨rfl, hf⟩; (have HF := Lib.hid hf); clear hf)
      | (go_at_call 7; (with_reducible refine (HG1.out _ HF.out).mono ?_); rintro e w2 ⟨rfl, rfl⟩; clear HG1)
      | (go_at_call 7; (with_reducible refine (HG2.out _ HF.out).mono ?_); rintro e w2 ⟨rfl, rfl⟩))
    go_ret
    exact ⟨rfl, HF.out⟩
  | false =>
  rw [g3] at HG2
  by_cases g4 : 60 < s0
  · go_enter Try.func5, Try.ntmps5
    go_wp2_with (first
      | (go_at_call 8; refine HA.out.mono ?_; rintro e w1 ⟨rfl, hf⟩; (have HF := Lib.hid hf); clear hf)
      | (go_at_call 7; (with_reducible refine (HG1.out _ HF.out).mono ?_); rintro e w2 ⟨rfl, rfl⟩; clear HG1)
      | (go_at_call 7; (with_reducible refine (HG2.out _ HF.out).mono ?_); rintro e w2 ⟨rfl, rfl⟩))
    go_ret
    exact ⟨rfl, HF.out⟩
  have d4 : decide (60 < s0) = false := by rw [decide_eq_false_iff_not]; exact g4
  obtain ⟨s, rfl⟩ : ∃ s : Nat, s0 = s := ⟨s0.toNat, by omega⟩
  have k1 : 1 ≤ s := by omega
  have k2 : s ≤ 60 := by omega
  have HE1 := Lib.hid (greatB_not g2).1
  have HE2 := Lib.hid (greatB_not g3).1
  have HNW := Lib.hid (fun W => cNew_any W s k1 (by omega))
  go_enter Try.func5, Try.ntmps5
  go_wp2_with (first
    | (go_at_call 8; refine HA.out.mono ?_; rintro e w1 ⟨rfl, hf⟩; (have HF := Lib.hid hf); clear hf)
    | (go_at_call 7; (with_reducible refine (HG1.out _ HF.out).mono ?_); rintro e w2 ⟨rfl, rfl⟩; clear HG1)
    | (go_at_call 7; (with_reducible refine (HG2.out _ HF.out).mono ?_); rintro e w2 ⟨rfl, rfl⟩)
    | (go_at_call 9; refine (HNW.out _).mono ?_; rintro e w3 ⟨g, rfl, hd⟩; (have HB3 := Lib.hid (show WhAt (fun _ => False) w1 w3 g s (List.replicate (64 * s) 0) L1 0 0 from ⟨_, hd.two, rfl, rfl, rfl, rfl, Nat.le_refl _⟩)); clear hd))
  go_loopw [11] (fun iv wr => ∃ i : Nat, i ≤ n1 ∧ iv = .int .i64 i ∧ Hid (WhAt (fun _ => False) w1 wr g s (List.replicate (64 * s) 0) L1 i 0)) (fun iv _ => n1 - (intOf iv).toNat)
  case atStart => exact ⟨0, by omega, rfl, HB3⟩
  case round =>
    clear HB3
    obtain ⟨i, hi, rfl, hR⟩ := hrel
    by_cases hlt : i < n1
    · have hil : i < L1.length := by rw [← HD1.out.len]; exact hlt
      have hda := HD1.out.keep (HF.out.trans hR.out.fr (fun _ h => h.elim)) (fun _ _ _ h => h)
      have hao := hda.ptr (by omega)
      have he := hda.each i hil
      have hcn := he.n
      have hcb := he.cb
      have hwn := he.wf.2.1
      have hbb := he.bytes
      have hle := hda.le
      subst hao
      obtain ⟨p, hp⟩ : ∃ p, p = L1[i] := ⟨_, rfl⟩
      rw [← hp] at hcn hcb hwn hbb
      have HST := Lib.hid (whStep (G := fun k => k < w.heap.size) w1 wr.drew g s k1 k2 (List.replicate (64 * s) 0) L1 i 0 hil HE1.out.1 (by omega) p.x (by rw [← hp]; exact hbb) (fun k hk => .inl (Nat.lt_of_lt_of_le hk HF.out.size)) (whDrew hR.out))
      rw [← hp] at HST
      have hpk := pick_still (x := p.n) (n := (s : Int)) (w := wr.drew) (by omega) (by omega) hwn.1 hwn.2
      have hd : decide ((i : Int) < (n1 : Int)) = true := by rw [decide_eq_true_iff]; omega
      have hkn : (i : Int) < (n1 : Int) := by omega
      have hi0 : (0 : Int) ≤ (i : Int) := by omega
      have hf0 : (w : World) → Fr (fun _ => False) w w.drew := fun w => (Fr.refl _ w).drew
      have HRR := Lib.hid hR.out
      clear hda he hbb hwn hp hR
      go_wp2_with fail
      refine wp_region_still_tail 13 (by kernel_rfl) (by kernel_rfl) ?_
      simp only [List.take_succ_cons, List.take_zero, List.drop_succ_cons, List.drop_zero]
      iterate 7 still_step
      still_call hpk
      iterate 5 still_step
      refine wpStill_nil ?_
      change wpList _ _ _ _ _ wr.drew
      go_wp2_with (go_at_call 14; refine HST.out.mono ?_; rintro e w5 ⟨z, rfl, hd, hf⟩; (have HN := Lib.hid hd); clear hd hf)
      go_roundw
      case rel => exact ⟨i + 1, by omega, by go_num, HN⟩
      case measure => simp [intOf]; omega
    · have hd : decide ((i : Int) < (n1 : Int)) = false := by rw [decide_eq_false_iff_not]; omega
      have hdN : decide (i < n1) = false := by rw [decide_eq_false_iff_not]; omega
      obtain ⟨d, hd1, a1, a2, a3, a4, a5⟩ := hR.out.ex
      rw [List.take_of_length_le (by have := HD1.out.len; omega)] at a4
      have hdl : d.deeds ≤ 150 := by have := HE1.out.1; have := HD1.out.len; omega
      have hwl : d.waits.length ≤ 150 := by have := pendsOf_len s L1; rw [a4]; have := HE1.out.1; omega
      obtain ⟨K1, hK1⟩ : ∃ K1, K1 = wakeL (fun _ => true) 0 (pendsOf s L1) (List.replicate (64 * s) 0) := ⟨_, rfl⟩
      have hK1l : K1.length = 64 * s := by rw [hK1]; exact wakeL_length _ s _ 0 _ (pendsOf_right s k1 L1) (by simp)
      have hfl := eFlush w1 _ g s d (by omega) (by omega) hd1
      rw [Dv.flush_ok a1 (by omega)] at hfl
      simp only [a3, a4, ← hK1] at hfl
      have HFL := Lib.hid hfl
      have HK1 := Lib.hid (And.intro hK1l (And.intro a1 (And.intro a2 hdl)))
      obtain ⟨m, hm⟩ : ∃ m, m = 64 * s := ⟨_, rfl⟩
      have e64 : 64 * (s : Int) = (m : Int) := by omega
      have HM := Lib.hid hm
      have hm6 : m ≤ 4000 := by omega
      clear hR hd1 a3 a4 a5 hK1 hfl hK1l hwl hm
      clear a1 a2 hdl
      go_wp2_with (first
        | (go_at_call 16; refine HFL.out.mono ?_; rintro e w4 ⟨rfl, hd, _⟩; (have HKP := Lib.hid (eKept w1 w4 g s _ hd)); clear hd HFL)
        | (go_at_call 17; refine HKP.out.mono ?_; rintro e w5 ⟨v5, rfl, ho, hd, hf⟩; obtain ⟨gw, cw, hv5, hcw1, hcw2, _, _⟩ := ho.form (by show 0 < K1.length; have := HK1.out.1; omega); (have hKl : K1.length = m := by rw [HM.out]; exact HK1.out.1); (have ho2 : OwnB _ w5 v5 K1 := ho); (replace hv5 : v5 = .slice (some ⟨gw, 0, none⟩) m cw := by rw [← hKl]; exact hv5); (replace hcw1 : m ≤ cw := by rw [← hKl]; exact hcw1); subst hv5; (have HWAS := Lib.hid ho2); clear ho ho2 hKl; obtain ⟨X1, hX1⟩ : ∃ X1 : Nat → Prop, X1 = (fun k => False ∨ (w4.heap.size ≤ k ∧ k < w5.heap.size)) := ⟨_, rfl⟩; (have HB5 := Lib.hid (show WhAt X1 w1 w5 g s K1 L2 0 151 ∧ Fr (Bare X1 w1) w5 w5 from ⟨⟨{ all := K1, waits := [], deeds := d.deeds + 1, left := d.left - 1, down := d.down }, by rw [hX1]; exact hd, HK1.out.2.1, by have := HK1.out.2.2.1; simp only; omega, rfl, rfl, by have := HK1.out.2.2.2; simp only; omega⟩, Fr.refl _ _⟩)); (have HX1 := Lib.hid hX1); clear hX1 hd hf HKP))
      go_loopw [13] (fun iv wr => ∃ i : Nat, i ≤ n2 ∧ iv = .int .i64 i ∧ Hid (WhAt X1 w1 wr g s K1 L2 i 151 ∧ Fr (Bare X1 w1) w5 wr)) (fun iv _ => n2 - (intOf iv).toNat)
      case atStart => exact ⟨0, by omega, rfl, HB5⟩
      case round =>
        clear HB5
        obtain ⟨i, hi, rfl, hR⟩ := hrel
        by_cases hlt : i < n2
        · have hil : i < L2.length := by rw [← HD2.out.len]; exact hlt
          have hda := HD2.out.keep (HF.out.trans hR.out.1.fr (fun _ h => h.elim)) (fun _ _ _ h => h)
          have hao := hda.ptr (by omega)
          have he := hda.each i hil
          have hcn := he.n
          have hcb := he.cb
          have hwn := he.wf.2.1
          have hbb := he.bytes
          have hle := hda.le
          subst hao
          obtain ⟨p, hp⟩ : ∃ p, p = L2[i] := ⟨_, rfl⟩
          rw [← hp] at hcn hcb hwn hbb
          have HST := Lib.hid (whStep (G := fun k => k < w.heap.size) w1 wr.drew g s k1 k2 K1 L2 i 151 hil HE2.out.1 (by decide) p.x (by rw [← hp]; exact hbb) (fun k hk => .inl (Nat.lt_of_lt_of_le hk HF.out.size)) (whDrew hR.out.1))
          rw [← hp] at HST
          have hpk := pick_still (x := p.n) (n := (s : Int)) (w := wr.drew) (by omega) (by omega) hwn.1 hwn.2
          have hd : decide ((i : Int) < (n2 : Int)) = true := by rw [decide_eq_true_iff]; omega
          have hkn : (i : Int) < (n2 : Int) := by omega
          have hi0 : (0 : Int) ≤ (i : Int) := by omega
          have hf0 : (w : World) → Fr (fun _ => False) w w.drew := fun w => (Fr.refl _ w).drew
          have HRR := Lib.hid hR.out
          clear hda he hbb hwn hp hR
          go_wp2_with fail
          refine wp_region_still_tail 13 (by kernel_rfl) (by kernel_rfl) ?_
          simp only [List.take_succ_cons, List.take_zero, List.drop_succ_cons, List.drop_zero]
          iterate 7 still_step
          still_call hpk
          iterate 5 still_step
          refine wpStill_nil ?_
          change wpList _ _ _ _ _ wr.drew
          go_wp2_with (go_at_call 14; refine HST.out.mono ?_; rintro e w5_ ⟨z, rfl, hd, hf⟩; (have HN := Lib.hid (show WhAt X1 w1 w5_ g s K1 L2 (i + 1) 151 ∧ Fr (Bare X1 w1) w5 w5_ from ⟨hd, HRR.out.2.trans (Fr.ofDrew hf) (fun _ h => .inl h)⟩)); clear hd hf)
          go_roundw
          case rel => exact ⟨i + 1, by omega, by go_num, HN⟩
          case measure => simp [intOf]; omega
        · have hd : decide ((i : Int) < (n2 : Int)) = false := by rw [decide_eq_false_iff_not]; omega
          have hdN : decide (i < n2) = false := by rw [decide_eq_false_iff_not]; omega
          obtain ⟨⟨d2, hd2, c1, c2, c3, c4, c5⟩, hfB⟩ := And.intro hR.out.1.ex hR.out.2
          rw [List.take_of_length_le (by have := HD2.out.len; omega)] at c4
          obtain ⟨P, hP⟩ : ∃ P, P = pendsOf s L2 := ⟨_, rfl⟩
          rw [← hP] at c4
          have hPl : P.length ≤ 150 := by rw [hP]; have := pendsOf_len s L2; have := HE2.out.1; omega
          have hPr : Pends s P := by rw [hP]; exact pendsOf_right s k1 L2
          obtain ⟨K2, hK2⟩ : ∃ K2, K2 = wakeL (bitOf keep) 0 P K1 := ⟨_, rfl⟩
          have hK2l : K2.length = m := by rw [hK2, HM.out]; exact wakeL_length _ s P 0 K1 hPr HK1.out.1
          have hwas : BytesIn (fun k => w4.heap.size ≤ k ∧ k < w5.heap.size) _ (.slice (some ⟨gw, 0, none⟩) m cw) K1 := HWAS.out.bytes.keep hfB (fun k _ h1 h2 => h2.2 (by rw [HX1.out]; exact .inr h1))
          have hkp := eKept w1 _ g s d2 hd2
          rw [c3] at hkp
          have hcr : d2.crash = (0, { d2 with down := true }) := by unfold Dv.crash; rw [if_neg (by rw [c1]; decide)]
          have hwk : Dv.wake { d2 with down := true } keep = (0, { all := K2, waits := [], deeds := d2.deeds, left := 0, down := false }) := by unfold Dv.wake; rw [if_pos rfl]; simp only [c3, c4, hK2]
          have HKP := Lib.hid hkp
          have HCR := Lib.hid hcr
          have HWK := Lib.hid hwk
          have HW2 := Lib.hid (And.intro hwas (And.intro hK2 (And.intro hPr (And.intro hK2l (And.intro hPl hP)))))
          have hcw1' := hcw1
          have hwl2 : d2.waits.length ≤ 150 := by rw [c4]; exact hPl
          have HWL2 := Lib.hid hwl2
          have HFX := Lib.hid (hR.out.1.fr)
          clear hR hd2 c1 c2 c3 c4 c5 hfB hP hPr hK2 hK2l hwas hkp hcr hwk hwl2 hPl
          go_wp2_with (first
            | (go_at_call 17; refine HKP.out.mono ?_; rintro e w6 ⟨v6, rfl, ho, hd, hf⟩; (have HSB := Lib.hid (same_any v6 _ K1 K1 w6 ho.bytes (HW2.out.1.keep hf (fun _ _ _ h => h)))); (have HD6 := Lib.hid (And.intro hd (And.intro hf (HW2.out.1.keep hf (fun _ _ _ h => h))))); clear ho hd hf HKP)
            | (go_at_call 18; refine HSB.out.mono ?_; rintro e w7 ⟨rfl, n7, rfl⟩; rw [sameB_eq rfl]; (have HC7 := Lib.hid (eCrash w1 (w6.drewN n7) g s d2 (HD6.out.1.quiet ((Fr.refl _ _).drewN n7)))); clear HSB)
            | (go_at_call 19; refine HC7.out.mono ?_; rintro e w8 ⟨he, hd, hf⟩; rw [HCR.out] at he hd; obtain rfl := he; (have HW8 := Lib.hid (eWake w1 w8 g s _ keep hkp0 hkp1 (by have := HWL2.out; simp only; omega) hd)); (have HF8 := Lib.hid (Fr.ofDrewN hf)); clear hd hf HC7)
            | (go_at_call 20; refine HW8.out.mono ?_; rintro e w9 ⟨he, hd, hf⟩; rw [HWK.out] at he hd; obtain rfl := he; (have HKP2 := Lib.hid (eKept w1 w9 g s _ hd)); (have HF9 := Lib.hid (HF8.out.trans hf (fun _ h => .inl h))); clear hd hf HW8)
            | (go_at_call 17; refine HKP2.out.mono ?_; rintro e w10 ⟨v10, rfl, ho, hd, hf⟩; obtain ⟨gn, cn, hv10, hcn1, hcn2, _, _⟩ := ho.form (by show 0 < K2.length; have := HW2.out.2.2.2.1; have := HM.out; omega); (have ho2 : OwnB _ w10 v10 K2 := ho); (replace hv10 : v10 = .slice (some ⟨gn, 0, none⟩) m cn := by rw [← HW2.out.2.2.2.1]; exact hv10); (replace hcn1 : m ≤ cn := by rw [← HW2.out.2.2.2.1]; exact hcn1); subst hv10; (have HN10 := Lib.hid (show BytesIn (fun _ => True) w10 (.slice (some ⟨gw, 0, none⟩) m cw) K1 ∧ BytesIn (fun _ => True) w10 (.slice (some ⟨gn, 0, none⟩) m cn) K2 ∧ Fr (fun _ => False) w1 w10 from ⟨((HD6.out.2.2.keep HF9.out (fun k _ h1 h2 => h2.2 (by simp only [HX1.out]; exact .inl (.inr h1)))).keep hf (fun _ _ _ h => h)).mono (fun _ _ _ => trivial), ho2.bytes.mono (fun _ _ _ => trivial), hd.fr⟩)); clear ho ho2 hd hf HKP2))
          go_loopw [15] (fun iv wr => ∃ a : Nat, a ≤ s ∧ iv = .int .i64 a ∧ Hid (Fr (fun _ => False) w10 wr)) (fun iv _ => s - (intOf iv).toNat)
          case atStart => exact ⟨0, by omega, rfl, Lib.hid (Fr.refl _ _)⟩
          case round =>
            obtain ⟨a, ha, rfl, hRa⟩ := hrel
            by_cases has : a < s
            · have hd3 : decide ((a : Int) < (s : Int)) = true := by rw [decide_eq_true_iff]; omega
              have hk3 : (a : Int) < (s : Int) := by omega
              have ha0 : (0 : Int) ≤ (a : Int) := by omega
              obtain ⟨q, hq⟩ : ∃ q, q = 64 * a := ⟨_, rfl⟩
              have eq64 : 64 * (a : Int) = (q : Int) := by omega
              have hqm : q + 64 ≤ m := by have := HM.out; omega
              have hcut1 := fun W => run_cut64 W gw m cw q ((q : Int) + 64) rfl hqm hcw1
              have hcut2 := fun W => run_cut64 W gn m cn q ((q : Int) + 64) rfl hqm hcn1
              obtain ⟨A, hA⟩ : ∃ A, A = secAt K1 a := ⟨_, rfl⟩
              obtain ⟨B, hB⟩ : ∃ B, B = secAt K2 a := ⟨_, rfl⟩
              have hbA : BytesIn (fun _ => True) w10 (.slice (some ⟨gw, q, none⟩) 64 (cw - q)) A := by rw [hA, hq]; exact HN10.out.1.cut64 a (by rw [HK1.out.1]; omega)
              have hbB : BytesIn (fun _ => True) w10 (.slice (some ⟨gn, q, none⟩) 64 (cn - q)) B := by rw [hB, hq]; exact HN10.out.2.1.cut64 a (by rw [HW2.out.2.2.2.1, HM.out]; omega)
              have HAB := Lib.hid (fun W (hf : Fr (fun _ => False) w10 W) => And.intro (hbA.keep hf (fun _ _ _ h => h)) (hbB.keep hf (fun _ _ _ h => h)))
              have hok := okL_true (bitOf keep) s a K1 P HW2.out.2.2.1 HK1.out.1 has
              rw [← HW2.out.2.1, ← hA, ← hB] at hok
              have hlast : B = lastL (bitOf keep) a 0 P A := by rw [hB, HW2.out.2.1, hA]; exact wakeL_sec _ s a has P 0 K1 HW2.out.2.2.1 HK1.out.1
              have HOK := Lib.hid (And.intro hok hlast)
              have HRA := Lib.hid hRa.out
              clear hA hB hbA hbB hok hlast hRa hq
              go_wp2_with fail
              go_quiet (fail)
              obtain ⟨W1, hW1⟩ : ∃ W1, W1 = World.drewN wr nq := ⟨_, rfl⟩
              rw [← hW1]
              have hF1 : Fr (fun _ => False) w10 W1 := by rw [hW1]; exact HRA.out.drewN nq
              have HS1 := Lib.hid (same_any _ _ A B W1 (HAB.out _ hF1).1 (HAB.out _ hF1).2)
              have HF1 := Lib.hid hF1
              clear hW1 hF1
              go_wp2_with (go_at_call 18; refine HS1.out.mono ?_; rintro e w12 ⟨rfl, n12, rfl⟩; clear HS1)
              go_loopw [18, 19, 20] (fun ok la iv wr => ∃ j : Nat, j ≤ n2 ∧ iv = .int .i64 j ∧ ∃ o : Bool, ok = .bool o ∧ Hid (o = okL A B a (pendsOf s (L2.take j))) ∧ ∃ gl ol cl : Nat, la = .slice (some ⟨gl, ol, none⟩) 64 cl ∧ Hid (BytesIn (fun _ => True) wr (.slice (some ⟨gl, ol, none⟩) 64 cl) (lastL (fun _ => true) a 0 (pendsOf s (L2.take j)) A) ∧ Fr (fun _ => False) w10 wr)) (fun _ _ iv _ => n2 - (intOf iv).toNat)
              case atStart => exact ⟨0, by omega, rfl, sameB A B, rfl, Lib.hid (by simp [okL, pendsOf]), gw, q, cw - q, rfl, Lib.hid ⟨(HAB.out _ (HF1.out.drewN n12)).1, HF1.out.drewN n12⟩⟩
              case round =>
                obtain ⟨j, hj, rfl, o, rfl, ho, gl, ol, cl, rfl, hla⟩ := hrel
                by_cases hjn : j < n2
                · have hjl : j < L2.length := by rw [← HD2.out.len]; exact hjn
                  have hda := HD2.out.keep ((HF.out.trans HN10.out.2.2 (fun _ h => h.elim)).trans hla.out.2 (fun _ h => h.elim)) (fun _ _ _ h => h)
                  have hao := hda.ptr (by omega)
                  have he := hda.each j hjl
                  have hcn := he.n
                  have hcb := he.cb
                  have hwn := he.wf.2.1
                  have hbb := he.bytes
                  have hle := hda.le
                  subst hao
                  obtain ⟨p, hp⟩ : ∃ p, p = L2[j] := ⟨_, rfl⟩
                  rw [← hp] at hcn hcb hwn hbb
                  have hst : pendsOf s (L2.take (j + 1)) = if p.B.length ≤ 64 then pendsOf s (L2.take j) ++ [((p.n % s).toNat, full64 p.B)] else pendsOf s (L2.take j) := by
                    rw [List.take_succ_eq_append_getElem hjl, pendsOf_snoc, hp]
                  have r1 := Int.emod_nonneg p.n (show (s : Int) ≠ 0 by omega)
                  obtain ⟨r, hr⟩ : ∃ r : Nat, p.n % (s : Int) = (r : Int) := ⟨(p.n % (s : Int)).toNat, by omega⟩

                  have HPK := Lib.hid (fun W => pick_any p.n (s : Int) W (by omega) (by omega) hwn.1 hwn.2)
                  rw [hr] at HPK hst
                  rw [show ((r : Int)).toNat = r from rfl] at hst
                  obtain ⟨px, qx, hpx⟩ : ∃ ao cap, p.x = .slice ao p.B.length cap := by obtain ⟨x, y, hx, _⟩ := hbb; exact ⟨x, y, hx⟩
                  have HST := Lib.hid hst
                  have HBB := Lib.hid hbb
                  rw [hpx] at hcb HBB
                  have hd5 : decide ((j : Int) < (n2 : Int)) = true := by rw [decide_eq_true_iff]; omega
                  have hk5 : (j : Int) < (n2 : Int) := by omega
                  have hj0 : (0 : Int) ≤ (j : Int) := by omega
                  obtain ⟨t, ht⟩ : ∃ t, t = p.B.length := ⟨_, rfl⟩
                  have HT := Lib.hid ht
                  rw [← ht] at hcb HBB HST
                  clear hda he hbb hp hst hpx r1 hr ht
                  have HLA := Lib.hid hla.out
                  have HO := Lib.hid ho.out
                  by_cases hra : r = a
                  · have hra1 : ((r : Int) == (a : Int)) = true := by rw [beq_iff_eq]; omega
                    by_cases h64 : t ≤ 64
                    · have hd6 : decide ((t : Int) ≤ 64) = true := by rw [decide_eq_true_iff]; omega
                      have hd6N : decide (t ≤ 64) = true := by rw [decide_eq_true_iff]; omega
                      have HFU := Lib.hid (full_any wr _ p.B HBB.out (by rw [← HT.out]; exact h64))
                      have HST2 := Lib.hid (show pendsOf s (L2.take (j + 1)) = pendsOf s (L2.take j) ++ [(a, full64 p.B)] by rw [HST.out, if_pos h64, hra])
                      have HLS := Lib.hid (show lastL (fun _ => true) a 0 (pendsOf s (L2.take (j + 1))) A = full64 p.B by rw [HST2.out, lastL_snoc, if_pos ⟨rfl, rfl⟩])
                      have HOS := Lib.hid (show okL A B a (pendsOf s (L2.take (j + 1))) = (okL A B a (pendsOf s (L2.take j)) || sameB B (full64 p.B)) by rw [HST2.out, okL_snoc]; simp)
                      cases o with
                      | true =>
                        clear hla ho hra
                        go_wp2_with (first
                          | (go_at_call 15; refine (HPK.out _).mono ?_; rintro e w13 ⟨rfl, rfl⟩)
                          | (go_at_call 21; refine HFU.out.mono ?_; rintro e w14 ⟨gf, rfl, hgf, hbf, hf14⟩; (have HB14 := Lib.hid (show BytesIn (fun _ => True) w14 (.slice (some ⟨gf, 0, none⟩) 64 64) (lastL (fun _ => true) a 0 (pendsOf s (L2.take (j + 1))) A) ∧ Fr (fun _ => False) w10 w14 from ⟨by rw [HLS.out]; exact bytT_in hbf (by rw [full64_length _ (by rw [← HT.out]; omega)]), HLA.out.2.trans hf14 (fun _ h => h.elim)⟩)); clear hgf hbf hf14))
                        go_roundw
                        case rel => exact ⟨j + 1, by omega, by go_num, true, rfl, Lib.hid (by rw [HOS.out, ← HO.out]; rfl), gf, 0, 64, rfl, HB14⟩
                        case measure => simp [intOf]; omega
                      | false =>
                        clear hla ho hra
                        go_wp2_with (first
                          | (go_at_call 15; refine (HPK.out _).mono ?_; rintro e w13 ⟨rfl, rfl⟩)
                          | (go_at_call 21; refine HFU.out.mono ?_; rintro e w14 ⟨gf, rfl, hgf, hbf, hf14⟩; (have HB14 := Lib.hid (show BytesIn (fun _ => True) w14 (.slice (some ⟨gf, 0, none⟩) 64 64) (full64 p.B) ∧ Fr (fun _ => False) w10 w14 from ⟨bytT_in hbf (by rw [full64_length _ (by rw [← HT.out]; omega)]), HLA.out.2.trans hf14 (fun _ h => h.elim)⟩)); (have HS14 := Lib.hid (same_any _ _ B (full64 p.B) w14 (HAB.out _ HB14.out.2).2 HB14.out.1)); clear hgf hbf hf14)
                          | (go_at_call 18; refine HS14.out.mono ?_; rintro e w15 ⟨rfl, n15, rfl⟩))
                        go_roundw
                        case rel => exact ⟨j + 1, by omega, by go_num, sameB B (full64 p.B), rfl, Lib.hid (by rw [HOS.out, ← HO.out]; rfl), gf, 0, 64, rfl, Lib.hid ⟨by rw [HLS.out]; exact HB14.out.1, HB14.out.2.drewN n15⟩⟩
                        case measure => simp [intOf]; omega
                    · have hd6 : decide ((t : Int) ≤ 64) = false := by rw [decide_eq_false_iff_not]; omega
                      have hd6N : decide (t ≤ 64) = false := by rw [decide_eq_false_iff_not]; omega
                      have HST2 := Lib.hid (show pendsOf s (L2.take (j + 1)) = pendsOf s (L2.take j) by rw [HST.out, if_neg h64])
                      clear hla ho hra
                      have h65 : 64 < t := by omega
                      go_wp2_with (go_at_call 15; refine (HPK.out _).mono ?_; rintro e w13 ⟨rfl, rfl⟩)
                      go_roundw
                      case rel => exact ⟨j + 1, by omega, by go_num, o, rfl, Lib.hid (by rw [HST2.out]; exact HO.out), gl, ol, cl, rfl, Lib.hid (by rw [HST2.out]; exact HLA.out)⟩
                      case measure => simp [intOf]; omega
                  · have hra1 : ((r : Int) == (a : Int)) = false := by rw [beq_eq_false_iff_ne]; omega
                    have HLS := Lib.hid (show lastL (fun _ => true) a 0 (pendsOf s (L2.take (j + 1))) A = lastL (fun _ => true) a 0 (pendsOf s (L2.take j)) A by
                      rw [HST.out]
                      split
                      · rw [lastL_snoc, if_neg (fun h => hra h.2.symm)]
                      · rfl)
                    have HOS := Lib.hid (show okL A B a (pendsOf s (L2.take (j + 1))) = okL A B a (pendsOf s (L2.take j)) by
                      rw [HST.out]
                      split
                      · rw [okL_snoc, show decide (r = a) = false by rw [decide_eq_false_iff_not]; exact hra]; simp
                      · rfl)
                    clear hla ho hra
                    go_wp2_with (go_at_call 15; refine (HPK.out _).mono ?_; rintro e w13 ⟨rfl, rfl⟩)
                    go_roundw
                    case rel => exact ⟨j + 1, by omega, by go_num, o, rfl, Lib.hid (by rw [HOS.out]; exact HO.out), gl, ol, cl, rfl, Lib.hid (by rw [HLS.out]; exact HLA.out)⟩
                    case measure => simp [intOf]; omega
                · have hd5 : decide ((j : Int) < (n2 : Int)) = false := by rw [decide_eq_false_iff_not]; omega
                  have hd5N : decide (j < n2) = false := by rw [decide_eq_false_iff_not]; omega
                  have hot : o = true := by rw [ho.out, List.take_of_length_le (by have := HD2.out.len; omega), ← HW2.out.2.2.2.2.2]; exact HOK.out.1
                  subst hot
                  have hlb := hla.out.1
                  rw [List.take_of_length_le (by have := HD2.out.len; omega), ← HW2.out.2.2.2.2.2] at hlb
                  have HLB := Lib.hid (And.intro hlb hla.out.2)
                  clear ho hla hlb
                  by_cases z0 : keep = 0
                  · have e0 : (keep == 0) = true := by rw [beq_iff_eq]; exact z0
                    have e1 : (keep == -1) = false := by rw [beq_eq_false_iff_ne]; omega
                    have hBA : A = B := by rw [HOK.out.2, z0]; exact (lastL_none _ bitOf_zero a P 0 A).symm
                    have HS16 := Lib.hid (same_any _ _ A B _ (HAB.out _ HLB.out.2).1 (HAB.out _ HLB.out.2).2)
                    clear z0
                    go_wp2_with (go_at_call 18; refine HS16.out.mono ?_; rintro e w16 ⟨rfl, n16, rfl⟩; rw [sameB_eq hBA])
                    go_roundw
                    case rel => exact ⟨a + 1, by omega, by go_num, Lib.hid (HLB.out.2.drewN n16)⟩
                    case measure => simp [intOf]; omega
                  · have e0 : (keep == 0) = false := by rw [beq_eq_false_iff_ne]; exact z0
                    by_cases z1 : keep = -1
                    · have e1 : (keep == -1) = true := by rw [beq_iff_eq]; exact z1
                      have hBA : B = lastL (fun _ => true) a 0 P A := by rw [HOK.out.2, z1]; exact lastL_congr _ _ bitOf_all a P 0 A
                      have HS16 := Lib.hid (same_any _ _ B _ _ (HAB.out _ HLB.out.2).2 HLB.out.1)
                      clear z0 z1
                      go_wp2_with (go_at_call 18; refine HS16.out.mono ?_; rintro e w16 ⟨rfl, n16, rfl⟩; rw [sameB_eq hBA])
                      go_roundw
                      case rel => exact ⟨a + 1, by omega, by go_num, Lib.hid (HLB.out.2.drewN n16)⟩
                      case measure => simp [intOf]; omega
                    · have e1 : (keep == -1) = false := by rw [beq_eq_false_iff_ne]; exact z1
                      clear z0 z1
                      go_wp2_with fail
                      go_roundw
                      case rel => exact ⟨a + 1, by omega, by go_num, Lib.hid HLB.out.2⟩
                      case measure => simp [intOf]; omega
            · have hd3 : decide ((a : Int) < (s : Int)) = false := by rw [decide_eq_false_iff_not]; omega
              have hd3N : decide (a < s) = false := by rw [decide_eq_false_iff_not]; omega
              go_wp2_with fail
              go_ret
              exact ⟨rfl, HF.out.trans (HN10.out.2.2.trans hRa.out (fun _ h => h.elim)) (fun _ h => h.elim)⟩
end Go.Proofs.Ythmcmomkomhilaa
