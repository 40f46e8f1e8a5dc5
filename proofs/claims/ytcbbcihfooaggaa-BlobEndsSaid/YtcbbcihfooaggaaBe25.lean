/- Laid together: BWLaw -/
import Derived.Test.YtcbbcihfooaggaaBe24
import Derived.Test.YtcbbcihfooaggaaBe14
import Derived.Deep.QuietTactic
import Derived.BigQuiet
import Derived.Deep.RegionHeld3
import Derived.Deep.DeepCutAuto

namespace Go.Proofs.Ytcbbcihfooaggaa
open Go.RowKit Go.ChangeShapes
set_option linter.unusedVariables false
set_option maxRecDepth 100000 in
set_option maxHeartbeats 8000000 in
theorem blobWrites_any (w : World) (L A Dt more : Int) (hmo : IntOk more) (v : Value) (P : List PutD) (hP : PutsIn (fun k => k < w.heap.size) w v P) :
    Calls Try.prog 4 #[.agg #[.int .i64 L, .int .i64 A, .int .i64 Dt], .int .i64 more, v] w fun e w' => e = .returned (.bool true) ∧ Fr (fun _ => False) w w' := by
  obtain ⟨z, hz⟩ : ∃ z, z = w.heap.size := ⟨_, rfl⟩
  obtain ⟨W1, hW1⟩ : ∃ W, W = w.alloc (.cells #[.int .i64 L, .int .i64 A, .int .i64 Dt] 23) := ⟨_, rfl⟩
  have H1 := Lib.hid (show Fr (fun _ => False) w W1 ∧ W1.heap[z]? = some (.cells #[.int .i64 L, .int .i64 A, .int .i64 Dt] 23 (0, 0)) ∧ z < W1.heap.size by
    rw [hW1, hz]
    exact ⟨(Fr.refl _ _).alloc _, heap_alloc_new w _, by simp⟩)
  have HW := Lib.hid (And.intro hW1 hz)
  have HA := Lib.hid awake7_any
  have hP1 : PutsIn (fun k => k < W1.heap.size) W1 v P := (hP.keep H1.out.1 (fun _ _ _ h => h)).mono (fun k hk _ => hk)
  have HSE := Lib.hid (fun W => r5Sectors_any W L A Dt)
  obtain ⟨x, hx⟩ : ∃ x, x = secsS L A Dt := ⟨_, rfl⟩
  rw [← hx] at HSE
  have HX0 := Lib.hid (show 0 ≤ x by rw [hx]; exact secsS_nn L A Dt)
  obtain ⟨ao, cap, rfl, h1, h2, h3, h4⟩ := hP1
  obtain ⟨n, hn⟩ : ∃ n, n = P.length := ⟨_, rfl⟩
  have hb : ∃ b off, (0 < n → ao = some ⟨b, off, none⟩) ∧ ∀ i (h : i < P.length), PutAt (fun k => k < W1.heap.size) W1 b (off + i * 4) P[i] := by
    by_cases hl : P = []
    · subst hl
      exact ⟨0, 0, fun h => by simp at hn; omega, fun i h => by simp at h⟩
    · obtain ⟨b, off, ha, hi⟩ := h4 hl
      exact ⟨b, off, fun _ => ha, hi⟩
  obtain ⟨b, off, hao, hi⟩ := hb
  rw [← hn] at h1 h2 ⊢
  have HI := Lib.hid hi
  have HN := Lib.hid (And.intro hn h3)
  have HAO := Lib.hid hao
  have HMO := Lib.hid hmo
  clear hi hn h3 h4 hao hW1 hP hx hz hmo
  go_enter Try.func4, Try.ntmps4
  go_wp2_with fail
  rw [← HW.out.1, ← HW.out.2]
  go_loopw [7, 8] (fun tv iv wr => ∃ k t : Nat, k ≤ n ∧ k ≤ 60 ∧ iv = .int .i64 k ∧ tv = .int .i64 t ∧ t ≤ 300000000000000 * k ∧ Hid (t = putsLen (P.take k) ∧ Fr (fun _ => False) W1 wr)) (fun _ iv _ => n - (intOf iv).toNat)
  case atStart => exact ⟨0, 0, by omega, by omega, rfl, rfl, by omega, Lib.hid ⟨rfl, Fr.refl _ _⟩⟩
  case round =>
    obtain ⟨k, t, hk, hk60, rfl, rfl, htb, hR⟩ := hrel
    by_cases hlt : k < n ∧ k < 60
    · obtain ⟨hlt, hl60⟩ := hlt
      have hil : k < P.length := by have := HN.out.1; omega
      have hp := (HI.out k hil).keep hR.out.2 (fun _ _ _ h => h)
      obtain ⟨ab, cb, ar, cr, hvb, hvr⟩ := hp.open_
      have c0 := hp.cb
      have c1 := hp.cr
      rw [hvb] at c0
      rw [hvr] at c1
      have hle := HN.out.2 _ (List.getElem_mem hil)
      have hsu := putsLen_succ P k hil
      unfold PutD.len at hsu
      obtain ⟨q, hq⟩ : ∃ q, q = P[k].B.length := ⟨_, rfl⟩
      obtain ⟨r, hr⟩ : ∃ r, r = P[k].R.length := ⟨_, rfl⟩
      rw [← hq, ← hr] at hle hsu
      rw [← hq] at c0
      rw [← hr] at c1
      have hao2 := HAO.out (by omega)
      subst hao2
      have d1 : decide ((k : Int) < (n : Int)) = true := by rw [decide_eq_true_iff]; omega
      have d2 : decide ((k : Int) < 60) = true := by rw [decide_eq_true_iff]; omega
      have d3 : (k : Int) < (n : Int) := by omega
      have d4 : (0 : Int) ≤ (k : Int) := by omega
      have d5 : (k : Int) < 60 := by omega
      obtain ⟨hq8, hr8⟩ := hle
      have hr9 : (r : Int) ≤ 8796093021952 := by omega
      have hq9 : (q : Int) ≤ 140737488351232 := by omega
      have ht9 : (t : Int) ≤ 18000000000000000 := by omega
      have HSU := Lib.hid hsu
      have HT := Lib.hid (And.intro hR.out.1 hR.out.2)
      have HB := Lib.hid (show t + (q + 10 * r) ≤ 300000000000000 * (k + 1) by omega)
      clear hp hvb hvr hsu hq hr hR htb
      go_wp2_with fail
      go_quiet (fail)
      go_wp2_with fail
      go_roundw
      case rel => exact ⟨k + 1, t + (q + 10 * r), by omega, by omega, by go_num, by go_num, HB.out, Lib.hid ⟨by rw [HSU.out, ← HT.out.1], HT.out.2.drewN _⟩⟩
      case measure => simp [intOf]; omega
    · have HR := Lib.hid (And.intro hR.out.1 (And.intro hR.out.2 (hR.out.2.heap H1.out.2.1 id)))
      obtain ⟨s0, s1, s2⟩ := row3_cells HR.out.2.2
      clear hR
      by_cases hn60 : n ≤ 60
      · obtain rfl : n = k := by omega
        have d1 : decide ((n : Int) < (n : Int)) = false := by rw [decide_eq_false_iff_not]; omega
        have d6 : decide ((60 : Int) < (n : Int)) = false := by rw [decide_eq_false_iff_not]; omega
        have hn9 : (n : Int) ≤ 60 := by omega
        by_cases ht : t ≤ 4000
        · have d7 : decide ((4000 : Int) < (t : Int)) = false := by rw [decide_eq_false_iff_not]; omega
          have ht9 : (t : Int) ≤ 4000 := by omega
          by_cases hx60 : x ≤ 60
          · have d8 : decide ((60 : Int) < x) = false := by rw [decide_eq_false_iff_not]; omega
            by_cases hm1 : -1 ≤ more
            · have d9 : decide (more < -1) = false := by rw [decide_eq_false_iff_not]; omega
              by_cases hm3 : more ≤ 3
              · have d10 : decide (3 < more) = false := by rw [decide_eq_false_iff_not]; omega
                have hx0 : 0 ≤ x := HX0.out
                have HPL := Lib.hid (show ∀ p ∈ P, p.len ≤ 4000 by
                  intro p hp
                  have h1 := putsLen_mem P p hp
                  have h2 := HR.out.1
                  rw [List.take_of_length_le (by have := HN.out.1; omega)] at h2
                  omega)
                by_cases hs : 1 ≤ x + more
                · obtain ⟨s, hs2⟩ : ∃ s : Nat, s = (x + more).toNat := ⟨_, rfl⟩
                  have hs3 : x + more = (s : Int) := by omega
                  have hs4 : 1 ≤ s ∧ s ≤ 63 := by omega
                  have hn1 := fun W => aNew W s hs4.1 (by omega)
                  have hn2 := fun W => bNew W s hs4.1 (by omega)
                  rw [← hs3] at hn1 hn2
                  have HN1 := Lib.hid hn1
                  have HN2 := Lib.hid hn2
                  have HS4 := Lib.hid hs4
                  clear hs2 hs3 hs4 hn1 hn2 hs hlt hk hk60 htb ht
                  go_wp2_with (first
                    | (go_at_call 8; (with_reducible refine (HSE.out wr).mono ?_); rintro e w2 ⟨rfl, hf2⟩; (have H2 := Lib.hid (And.intro (HR.out.2.1.trans hf2 (fun _ h => h.elim)) (hf2.heap HR.out.2.2 id))); (obtain ⟨s0, s1, s2⟩ := row3_cells H2.out.2); clear hf2)
                    | (go_at_call 8; (with_reducible refine (HSE.out w2).mono ?_); rintro e w3 ⟨rfl, hf3⟩; (have H3 := Lib.hid (And.intro (H2.out.1.trans hf3 (fun _ h => h.elim)) (hf3.heap H2.out.2 id))); (obtain ⟨s0, s1, s2⟩ := row3_cells H3.out.2); clear hf3)
                    | (go_at_call 19; refine (HN1.out w3).mono ?_; rintro e w4 ⟨gd, rfl, hd4, hf4⟩; (have H4 := Lib.hid (And.intro (H3.out.1.trans hf4 (fun _ h => h.elim)) (And.intro (hf4.heap H3.out.2 id) (And.intro (hd4.mono (E := fun k => w3.heap.size ≤ k ∧ k < w4.heap.size) (fun k hk h => ⟨h, hk⟩)) hf4)))); (obtain ⟨s0, s1, s2⟩ := row3_cells H4.out.2.1); clear hf4 hd4)
                    | (go_at_call 8; (with_reducible refine (HSE.out w4).mono ?_); rintro e w5 ⟨rfl, hf5⟩; (have H5 := Lib.hid (And.intro (H4.out.1.trans hf5 (fun _ h => h.elim)) (And.intro (hf5.heap H4.out.2.1 id) (And.intro ((H4.out.2.2.1.keep hf5 (fun _ _ _ h => h)).mono (E := fun k => w3.heap.size ≤ k) (fun k hk h => h.1)) (H4.out.2.2.2.trans hf5 (fun _ h => h.elim)))))); (obtain ⟨s0, s1, s2⟩ := row3_cells H5.out.2.1); clear hf5)
                    | (go_at_call 20; refine (HN2.out w5).mono ?_; rintro e w6 ⟨gr, rfl, hr6, hf6⟩; (have HS := Lib.hid (show St7 W1 w6 gd gr s 0 from ⟨Dv.new s, two_new H3.out.1 H5.out.2.2.1 H5.out.2.2.2 hr6 hf6, rfl, Nat.le_refl _, Nat.le_refl _⟩)); clear hf6 hr6))
                  go_loopw [6, 13] (fun rv iv wq => ∃ i : Nat, i ≤ n ∧ rv = .bool false ∧ iv = .int .i64 i ∧ Hid (St7 W1 wq gd gr s i)) (fun _ iv _ => n - (intOf iv).toNat)
                  case atStart => exact ⟨0, by omega, rfl, rfl, HS⟩
                  case round =>
                    clear HS
                    obtain ⟨i, hi, rfl, rfl, hQ⟩ := hrel
                    by_cases hlt : i < n
                    · have hil : i < P.length := by have := HN.out.1; omega
                      have hp := HI.out i hil
                      obtain ⟨ab, cb, ar, cr, hvb, hvr⟩ := hp.open_
                      have hpl := HPL.out _ (List.getElem_mem hil)
                      unfold PutD.len at hpl
                      have hwf := hp.wf
                      have hby := hp.bytes
                      have hrs := hp.runs
                      have c0 := hp.cb
                      have c1 := hp.cr
                      have c2 := hp.cm
                      have c3 := hp.cn
                      have hbb := hp.in_
                      rw [hvb] at c0 hby
                      rw [hvr] at c1 hrs
                      obtain ⟨B, hB⟩ : ∃ B, B = P[i].B := ⟨_, rfl⟩
                      obtain ⟨R, hRn⟩ : ∃ R, R = P[i].R := ⟨_, rfl⟩
                      obtain ⟨mn, hmn⟩ : ∃ mn, mn = P[i].many := ⟨_, rfl⟩
                      obtain ⟨fn, hfn⟩ : ∃ fn, fn = P[i].n := ⟨_, rfl⟩
                      rw [← hB] at hpl c0 hby
                      rw [← hRn] at hpl c1 hrs
                      rw [← hmn, ← hfn] at hwf
                      rw [← hmn] at c2
                      rw [← hfn] at c3
                      obtain ⟨q, hq⟩ : ∃ q, q = B.length := ⟨_, rfl⟩
                      obtain ⟨r, hr⟩ : ∃ r, r = R.length := ⟨_, rfl⟩
                      rw [← hq] at c0 hby hpl
                      rw [← hr] at c1 hrs hpl
                      have hao2 := HAO.out (by omega)
                      subst hao2
                      obtain ⟨zb0, hzb0⟩ : ∃ zb0, zb0 = wr.heap.size := ⟨_, rfl⟩
                      have d11 : decide ((i : Int) < (n : Int)) = true := by rw [decide_eq_true_iff]; omega
                      have d12 : decide (i < n) = true := by rw [decide_eq_true_iff]; omega
                      have d13 : (i : Int) < (n : Int) := by omega
                      have d14 : (0 : Int) ≤ (i : Int) := by omega
                      have HC := Lib.hid (And.intro c0 (And.intro c1 (And.intro c2 c3)))
                      replace c0 := hQ.out.fr.cell c0 id
                      replace c1 := hQ.out.fr.cell c1 id
                      replace c2 := hQ.out.fr.cell c2 id
                      replace c3 := hQ.out.fr.cell c3 id
                      have hL := LentBytes_any (.slice ab q cb) B wr (hby.keep hQ.out.fr (fun _ _ _ h => h)) (by omega)
                      rw [← hq, ← hzb0] at hL
                      have HL := Lib.hid hL
                      have HWF := Lib.hid (And.intro hwf hpl)
                      have HPA := Lib.hid (And.intro hby (And.intro hrs (And.intro hbb (And.intro hq hr))))
                      have HZ := Lib.hid hzb0
                      have H0 := Lib.hid hQ
                      have HLT := Lib.hid hlt
                      clear hL hp hvb hvr hwf hby hrs hbb hB hRn hmn hfn hq hr hzb0 hQ hi hil hlt hpl
                      go_upto_if 106 with (go_at_call 21; refine HL.out.mono ?_; rintro e w3 ⟨g3, c9, rfl, hl3, hf3⟩; (have HL3 := Lib.hid (And.intro hl3 hf3)); (have k0 := hf3.cell c0 (fun h => h)); (have k1 := hf3.cell c1 (fun h => h)); (have k2 := hf3.cell c2 (fun h => h)); (have k3 := hf3.cell c3 (fun h => h)); clear hl3 hf3 HL c0 c1 c2 c3)
                      obtain ⟨zb, hzb⟩ : ∃ zb, zb = w3.heap.size := ⟨_, rfl⟩
                      obtain ⟨X, hX⟩ : ∃ X : Nat → Prop, X = (fun k => zb0 ≤ k ∧ k < zb) := ⟨_, rfl⟩
                      have HM := Lib.hid (show ∃ d, Mid7 W1 w3 gd gr s zb0 zb g3 c9 B d ∧ Up7 d i by
                        obtain ⟨d, ht, hu1, hu2, hu3⟩ := H0.out.out.ex
                        refine ⟨d, ⟨(ht.add HL3.out.2).less (fun k hk => .inr ⟨by rw [← HZ.out]; exact hk.1, by rw [← hzb]; exact hk.2⟩), ⟨HL3.out.1.1, HL3.out.1.2.1, HL3.out.1.2.2.mono (fun k hk h => ⟨h, by rw [hzb]; exact hk⟩)⟩, by rw [HZ.out]; exact ht.fr.size⟩, hu1, hu2, hu3⟩)
                      have HFW := Lib.hid (And.intro (H0.out.out.fr.trans HL3.out.2 (fun _ h => h.elim)) hzb)
                      clear hzb hX X
                      go_cut [6] (fun v6 wx => v6 = .bool false ∧ Hid (Fr (fun k => W1.heap.size ≤ k) W1 wx ∧ Cut7 W1 wx gd gr s i zb0 zb g3 c9 B))
                      case first =>
                        as_aux_lemma =>
                          obtain ⟨d, hm, hu⟩ := HM.out
                          by_cases hN : 0 < fn
                          · have d15 : decide (0 < fn) = true := by rw [decide_eq_true_iff]; exact hN
                            have HF := Lib.hid (tFuse W1 w3 gd gr s d d fn HWF.out.1.2.1 HWF.out.1.2.2 hm.two)
                            have HNB := Lib.hid (show ∀ X, ¬ Bare X W1 b from fun X h => absurd h.1 (by have := HPA.out.2.2.1; omega))
                            have HMU := Lib.hid (And.intro hm hu)
                            clear hm hu
                            go_wp2_with (first
                              | (go_at_call 22; refine HF.out.mono ?_; rintro e w4 ⟨rfl, h4, hf4⟩; (have k4 := hf4.cell k3 (HNB.out _)); (have HU := Lib.hid (uFuse W1 w4 gd gr s _ d fn HWF.out.1.2.1 HWF.out.1.2.2 h4)); (have HF4 := Lib.hid hf4); clear h4 hf4)
                              | (go_at_call 23; refine HU.out.mono ?_; rintro e w5 ⟨rfl, h5, hf5⟩; (have HF5 := Lib.hid (And.intro h5 (HF4.out.trans hf5 (fun k h => .inl h)))); clear h5 hf5))
                            go_meet
                            case rel =>
                              have h9 := Dv.fuse_up fn HMU.out.2.up
                              exact ⟨rfl, Lib.hid ⟨HFW.out.1.mono (fun _ _ h => h.elim) |>.trans HF5.out.2 (fun k h => .inl h.1), _, HMU.out.1.turned HF5.out.1 HF5.out.2, h9.1, by rw [h9.2.1]; exact HMU.out.2.deeds, by rw [h9.2.2]; exact HMU.out.2.waits⟩⟩
                          · have d15 : decide (0 < fn) = false := by rw [decide_eq_false_iff_not]; exact hN
                            have HMU := Lib.hid (And.intro hm hu)
                            clear hm hu
                            go_wp2
                            go_meet
                            case rel => exact ⟨rfl, Lib.hid ⟨HFW.out.1.mono (fun _ _ h => h.elim), _, HMU.out.1, HMU.out.2⟩⟩
                      case rest =>
                        obtain ⟨rfl, hcut⟩ := hcut
                        obtain ⟨hfc, d, hm, hu⟩ := hcut.out
                        have hbn : ¬ (W1.heap.size ≤ b) := by have := HPA.out.2.2.1; omega
                        have hzn : ¬ (W1.heap.size ≤ z) := by have := H1.out.2.2; omega
                        have c0 := hfc.cell HC.out.1 hbn
                        have c1 := hfc.cell HC.out.2.1 hbn
                        obtain ⟨s0, s1, s2⟩ := row3_cells (hfc.heap H1.out.2.1 hzn)
                        have HNB := Lib.hid (show ∀ X, ¬ Bare X W1 b ∧ ¬ Bare X W1 z from fun X => ⟨fun h => hbn h.1, fun h => hzn h.1⟩)
                        obtain ⟨d2, hd2⟩ : ∃ d2, d2 = (wrA s d L A Dt B R).2 := ⟨_, rfl⟩
                        obtain ⟨r1, hr1⟩ : ∃ r1, r1 = (wrA s d L A Dt B R).1 := ⟨_, rfl⟩
                        have hrr : (r1 != r1) = false := by simp
                        have hbW := HPA.out.1.keep hfc (fun k _ hk h => absurd h (Nat.not_le_of_lt hk))
                        have hrW := HPA.out.2.1.keep hfc (fun k _ hk h => absurd h (Nat.not_le_of_lt hk))
                        have hB4 : B.length ≤ 4000 := by have := HPA.out.2.2.2.1; have := HWF.out.2; omega
                        have hi8 : i ≤ 60 := by have := HLT.out; omega
                        have hwr := mid_tWr hm hu hi8 HS4.out hB4 L A Dt (.slice ar r cr) R hrW q HPA.out.2.2.2.1
                        have huw := mid_uWr hm hu hi8 HS4.out hB4 L A Dt (.slice ab q cb) (.slice ar r cr) R hbW hrW
                        rw [← hd2, ← hr1] at hwr
                        rw [← hd2, ← hr1] at huw
                        have HWR := Lib.hid hwr
                        have HUW := Lib.hid huw
                        have HKB := Lib.hid (fun w5 hf => mid_kept hm hB4 (.slice ab q cb) hbW w5 hf q HPA.out.2.2.2.1)
                        have HMU := Lib.hid (And.intro hm (And.intro hu (And.intro hd2 hfc)))
                        clear hbn hzn hd2 hr1 hbW hrW hB4 hwr huw hm hu hfc hi8
                        go_upto_region 19 with fail
                        go_cut [6, 153] (fun v6 c wx => v6 = .bool false ∧ c = .bool false ∧ Hid (Aft7 W1 wx gd gr s i zb0 zb g3 c9 B))
                        case first =>
                          as_aux_lemma =>
                            go_region_held3 (fun w' => w'.cell? ⟨z, 0, none⟩ = some (.int .i64 L) ∧ w'.cell? ⟨z, 1, none⟩ = some (.int .i64 A) ∧ w'.cell? ⟨z, 2, none⟩ = some (.int .i64 Dt) ∧ w'.cell? ⟨b, off + i * 4, none⟩ = some (.slice ab q cb) ∧ w'.cell? ⟨b, off + i * 4 + 1, none⟩ = some (.slice ar r cr)) (first | exact ⟨by assumption, by assumption, by assumption, by assumption, by assumption⟩ | go_keep)
                              (first
                                | (go_at_call 24; refine HWR.out.mono ?_; rintro e w4 ⟨rfl, h4, hf4⟩; (have s04 := hf4.cell s0 (HNB.out _).2); (have s14 := hf4.cell s1 (HNB.out _).2); (have s24 := hf4.cell s2 (HNB.out _).2); (have c04 := hf4.cell c0 (HNB.out _).1); (have c14 := hf4.cell c1 (HNB.out _).1); (have HU := Lib.hid (HUW.out d2 w4 h4 hf4)); (have HF4 := Lib.hid hf4); clear h4 hf4)
                                | (go_at_call 25; refine HU.out.mono ?_; rintro e w5 ⟨rfl, h5, hf5⟩; (have s05 := hf5.cell s04 (HNB.out _).2); (have s15 := hf5.cell s14 (HNB.out _).2); (have s25 := hf5.cell s24 (HNB.out _).2); (have c05 := hf5.cell c04 (HNB.out _).1); (have c15 := hf5.cell c14 (HNB.out _).1); (have HF5 := Lib.hid (And.intro h5 (HF4.out.trans hf5 (fun k h => .inl h)))); (have HK5 := Lib.hid (HKB.out w5 HF5.out.2)); clear h5 hf5)
                                | (go_at_call 26; refine HK5.out.mono ?_; rintro e w6 ⟨rfl, n6, rfl⟩))
                            all_goals
                              go_wp2_with fail
                              go_meet
                              case rel =>
                                have h9 := wrA_le s d L A Dt B R
                                rw [← HMU.out.2.2.1] at h9
                                have h8 := HMU.out.2.1
                                refine ⟨rfl, rfl, Lib.hid ⟨(HMU.out.2.2.2.trans (HF5.out.2.drewN n6) (fun k hk => .inl hk.1)), d2, ⟨HF5.out.1.quiet ((Fr.refl _ _).drewN n6), ⟨HMU.out.1.lent.1, HMU.out.1.lent.2.1, (HMU.out.1.lent.2.2.keep HF5.out.2 (fun k _ hk hb => hb.2 hk)).keep (S := fun _ => False) ((Fr.refl _ _).drewN n6) (fun _ _ _ h => h)⟩, HMU.out.1.z0⟩, by have := h8.deeds; omega, by have := h8.waits; omega⟩⟩
                        case rest =>
                          obtain ⟨rfl, rfl, hcut⟩ := hcut
                          have HAF := hcut
                          have HOV := Lib.hid (mid_over HAF.out (by have := HPA.out.2.2.2.1; have := HWF.out.2; omega) q HPA.out.2.2.2.1)
                          clear HWR HUW HKB HMU HM hrr hcut d2 r1 d s0 s1 s2 c0 c1 k0 k1 k2 k3
                          have HFA := Lib.hid HAF.out.1
                          have hbn : ¬ (W1.heap.size ≤ b) := by have := HPA.out.2.2.1; omega
                          have hzn : ¬ (W1.heap.size ≤ z) := by have := H1.out.2.2; omega
                          have HBZ := Lib.hid (And.intro hbn hzn)
                          clear hbn hzn
                          go_upto_if 161 with (go_at_call 27; refine HOV.out.mono ?_; rintro e w7 ⟨rfl, h7⟩; (have H7 := Lib.hid h7); (have hf7 : Fr (fun k => W1.heap.size ≤ k) W1 w7 := by (obtain ⟨d, ht, _⟩ := h7; exact ht.fr.mono (fun _ _ h => h.elim))); (have c2 := hf7.cell HC.out.2.2.1 HBZ.out.1); clear h7 hf7)
                          go_cut [6] (fun v6 wx => v6 = .bool false ∧ Hid (Fl7 W1 wx gd gr s i))
                          case first =>
                            as_aux_lemma =>
                              obtain ⟨d, ht, hd1, hd2⟩ := H7.out
                              by_cases hM : -1 ≤ mn
                              · have d15 : decide (-1 ≤ mn) = true := by rw [decide_eq_true_iff]; exact hM
                                have hf7 := ht.fr
                                have c1 := hf7.cell HC.out.2.1 id
                                obtain ⟨s0, s1, s2⟩ := row3_cells (hf7.heap H1.out.2.1 id)
                                obtain ⟨rc, hrc⟩ : ∃ rc, rc = (rdA s d L A Dt mn R).1 := ⟨_, rfl⟩
                                obtain ⟨rb, hrb⟩ : ∃ rb, rb = (rdA s d L A Dt mn R).2 := ⟨_, rfl⟩
                                have hrl : rb.length ≤ 1000000 := by rw [hrb]; exact rdA_le ht.right.1 L A Dt mn R
                                have hrr : (rc != rc) = false := by simp
                                have hi8 : i ≤ 60 := by have := HLT.out; omega
                                have hrd := fl_tRd ht hd2 hi8 HS4.out L A Dt mn HWF.out.1.1 (.slice ar r cr) R (HPA.out.2.1.keep hf7 (fun _ _ _ h => h))
                                rw [← hrc, ← hrb] at hrd
                                have HRD := Lib.hid hrd
                                have hru := fun (w8 : World) (h8 : Two (fun _ => False) W1 w8 gd gr s d d) => fl_uRd h8 hd2 hi8 HS4.out L A Dt mn HWF.out.1.1 (.slice ar r cr) R (HPA.out.2.1.keep h8.fr (fun _ _ _ h => h))
                                rw [← hrc, ← hrb] at hru
                                have HRU := Lib.hid hru
                                have HT := Lib.hid (And.intro ht (And.intro hd1 (And.intro hd2 hrl)))
                                clear hrd hru hrc hrb hrl hi8 hf7 ht hd1 hd2 d15
                                go_wp2_with fail
                                go_region_held3 (fun w' => w'.cell? ⟨z, 0, none⟩ = some (.int .i64 L) ∧ w'.cell? ⟨z, 1, none⟩ = some (.int .i64 A) ∧ w'.cell? ⟨z, 2, none⟩ = some (.int .i64 Dt) ∧ w'.cell? ⟨b, off + i * 4 + 1, none⟩ = some (.slice ar r cr) ∧ w'.cell? ⟨b, off + i * 4 + 2, none⟩ = some (.int .i64 mn)) (first | exact ⟨by assumption, by assumption, by assumption, by assumption, by assumption⟩ | go_keep)
                                  ((go_at_call 28; refine HRD.out.mono ?_; rintro e w8 ⟨a8, n8, m8, rfl, ho8, h8, hf8⟩; (have s08 := hf8.cell s0 id); (have s18 := hf8.cell s1 id); (have s28 := hf8.cell s2 id); (have c18 := hf8.cell c1 id); (have c28 := hf8.cell c2 id); (have HO8 := Lib.hid (And.intro ho8 (And.intro h8 hf8))); (have HR8 := Lib.hid (HRU.out w8 h8)); clear ho8 h8 hf8))
                                go_wp2_with fail
                                clear s0 s1 s2 c1 c2
                                go_region_held3 (fun w' => w'.cell? ⟨z, 0, none⟩ = some (.int .i64 L) ∧ w'.cell? ⟨z, 1, none⟩ = some (.int .i64 A) ∧ w'.cell? ⟨z, 2, none⟩ = some (.int .i64 Dt) ∧ w'.cell? ⟨b, off + i * 4 + 1, none⟩ = some (.slice ar r cr) ∧ w'.cell? ⟨b, off + i * 4 + 2, none⟩ = some (.int .i64 mn)) (first | exact ⟨by assumption, by assumption, by assumption, by assumption, by assumption⟩ | go_keep)
                                  ((go_at_call 29; refine HR8.out.mono ?_; rintro e w9 ⟨a9, n9, m9, rfl, ho9, h9, hf9⟩; (have s09 := hf9.cell s08 id); (have s19 := hf9.cell s18 id); (have s29 := hf9.cell s28 id); (have c19 := hf9.cell c18 id); (have c29 := hf9.cell c28 id); (have HO9 := Lib.hid (And.intro (HO8.out.1.keep hf9 (fun _ _ _ h => h)) (And.intro h9 (HO8.out.2.2.trans hf9 (fun _ h => h.elim))))); (have HSB := Lib.hid (same_any (.slice a8 n8 m8) (.slice a9 n9 m9) rb rb w9 HO9.out.1.bytes ho9)); clear ho9 h9 hf9))
                                go_wp2_with (first
                                  | (go_at_call 30; refine HSB.out.mono ?_; rintro e w10 ⟨rfl, n10, rfl⟩; rw [sameB_eq rfl]; (have HOV := Lib.hid (fl_over (HO9.out.1.keep (S := fun _ => False) ((Fr.refl _ w9).drewN n10) (fun _ _ _ h => h)) HT.out.2.2.2 (HO9.out.2.1.quiet ((Fr.refl _ w9).drewN n10)) HT.out.1 rfl (HO9.out.2.2.drewN n10))); clear HSB)
                                  | (go_at_call 27; refine HOV.out.mono ?_; rintro e w11 ⟨rfl, h11⟩; (have H11 := Lib.hid h11); clear h11 HOV))
                                go_meet
                                case rel => exact ⟨rfl, Lib.hid ⟨d, H11.out, HT.out.2.1, HT.out.2.2.1⟩⟩
                              · have hM2 : mn < -1 := by omega
                                clear ht hd1 hd2 hM
                                go_wp2
                                go_meet
                                case rel => exact ⟨rfl, H7⟩
                          case rest =>
                            as_aux_lemma =>
                              obtain ⟨rfl, hcut⟩ := hcut
                              obtain ⟨d, ht, hd1, hd2⟩ := hcut.out
                              obtain ⟨ga, hr7⟩ := ht.ref7
                              obtain ⟨m, hm⟩ : ∃ m, m = 64 * s := ⟨_, rfl⟩
                              obtain ⟨kd, hkd⟩ : ∃ kd, kd = d.deeds := ⟨_, rfl⟩
                              obtain ⟨dn, hdn⟩ : ∃ dn, dn = d.down := ⟨_, rfl⟩
                              obtain ⟨kw, hkw⟩ : ∃ kw, kw = d.waits.length := ⟨_, rfl⟩
                              have hst := fun (W : World) (h : Two (fun _ => False) W1 W gd gr s d d) => tStat W1 W gd gr s d d h
                              rw [← hkd, ← hdn, ← hkw] at hst
                              rw [← hm, ← hkd, ← hdn] at hr7
                              have HST := Lib.hid hst
                              have HK := Lib.hid (tKept W1 wc.drew gd gr s d d (ht.quiet (Fr.refl _ _).drew))
                              have HR7 := Lib.hid hr7
                              have HT := Lib.hid (And.intro ht (And.intro hd1 (And.intro hd2 hdn)))
                              have e0 := hr7.c0
                              have e2 := hr7.c2
                              have e4 := hr7.c4
                              have hkk : ((kd : Int) != (kd : Int)) = false := by simp
                              have hdd : (dn != dn) = false := by simp
                              have hf2 := fun w => stat_f2 w (s : Int) (kw : Int) (kd : Int) dn
                              have hf3 := fun w => stat_f3 w (s : Int) (kw : Int) (kd : Int) dn
                              clear hst hr7 hm hkd hdn hkw ht hd1 hd2 hcut HOV c2
                              go_wp2_with fail
                              go_region_held3 (fun w' => w'.cell? ⟨gr, 0, none⟩ = some (.slice (some ⟨ga, 0, none⟩) m m) ∧ w'.cell? ⟨gr, 2, none⟩ = some (.int .i64 kd) ∧ w'.cell? ⟨gr, 4, none⟩ = some (.bool dn)) (first | exact ⟨by assumption, by assumption, by assumption⟩ | go_keep)
                                (first
                                  | (go_at_call 31; refine HK.out.mono ?_; rintro e w8 ⟨v8, rfl, ho8, h8, hf8'⟩; (have hf8 := hf8'.ofDrew); (have e08 := hf8.cell e0 id); (have e28 := hf8.cell e2 id); (have e48 := hf8.cell e4 id); (have H8 := Lib.hid (And.intro h8 hf8)); (have HSB := Lib.hid (same_any v8 _ d.all d.all w8 ho8.bytes (HR7.out.keep hf8).bytes)); clear ho8 h8 hf8 hf8')
                                  | (go_at_call 30; refine HSB.out.mono ?_; rintro e w9 ⟨rfl, n9, rfl⟩; rw [sameB_eq rfl]; (have HS9 := Lib.hid (HST.out _ (H8.out.1.quiet ((Fr.refl _ w8).drewN n9)))); (have H9 := Lib.hid (H8.out.2.drewN n9)); clear HSB)
                                  | (go_at_call 32; (with_reducible refine HS9.out.mono ?_); rintro e w10 ⟨rfl, h10, hf10⟩; (have e010 := hf10.cell e08 id); (have e210 := hf10.cell e28 id); (have e410 := hf10.cell e48 id); (have HS10 := Lib.hid (HST.out _ h10)); clear h10 hf10)
                                  | (go_at_call 32; (with_reducible refine HS10.out.mono ?_); rintro e w11 ⟨rfl, h11, hf11⟩; (have e011 := hf11.cell e010 id); (have e211 := hf11.cell e210 id); (have e411 := hf11.cell e410 id); (have H11 := Lib.hid h11); clear h11 hf11))
                              clear e0 e2 e4 e08 e28 e48 e010 e210 hf2 hf3
                              cases dn with
                              | true =>
                                have k3 := H11.out.fr.cell HC.out.2.2.2 id
                                have HW1 := Lib.hid (tWake W1 w11 gd gr s d d fn HWF.out.1.2.1 HWF.out.1.2.2 (by have := HT.out.2.2.1; have := HLT.out; omega) H11.out)
                                have HW2 := Lib.hid (fun w12 (h : Two (fun _ => False) W1 w12 gd gr s (d.wake fn).2 d) => uWake W1 w12 gd gr s _ d fn HWF.out.1.2.1 HWF.out.1.2.2 (by have := HT.out.2.2.1; have := HLT.out; omega) h)
                                go_wp2_with (first
                                  | (go_at_call 33; refine HW1.out.mono ?_; rintro e w12 ⟨rfl, h12, hf12⟩; (have k4 := h12.fr.cell HC.out.2.2.2 id); (have H12 := Lib.hid (HW2.out w12 h12)); clear h12 hf12)
                                  | (go_at_call 34; refine H12.out.mono ?_; rintro e w13 ⟨rfl, h13, hf13⟩; (have H13 := Lib.hid h13); clear h13 hf13))
                                have h9 := Dv.wake_dn fn HT.out.2.2.2.symm
                                have HS9 := Lib.hid (show St7 W1 w13 gd gr s (i + 1) from ⟨_, H13.out, h9.1, by rw [h9.2.1]; exact HT.out.2.1, by rw [h9.2.2]; exact Nat.zero_le _⟩)
                                clear h9
                                go_roundw
                                case rel => exact ⟨i + 1, by have := HLT.out; omega, rfl, by go_num, HS9⟩
                                case measure => have := HLT.out; simp [intOf]; omega
                              | false =>
                                go_wp2_with fail
                                have HS9 := Lib.hid (show St7 W1 w11 gd gr s (i + 1) from ⟨d, H11.out, HT.out.2.2.2.symm, HT.out.2.1, HT.out.2.2.1⟩)
                                go_roundw
                                case rel => exact ⟨i + 1, by have := HLT.out; omega, rfl, by go_num, HS9⟩
                                case measure => have := HLT.out; simp [intOf]; omega
                    · have d11 : decide ((i : Int) < (n : Int)) = false := by rw [decide_eq_false_iff_not]; omega
                      have d12 : decide (i < n) = false := by rw [decide_eq_false_iff_not]; omega
                      have HQ := Lib.hid hQ.out.fr
                      clear hQ
                      go_wp2_with (go_at_call 9; refine (HA.out _).mono ?_; rintro e w9 ⟨rfl, hf⟩; (have HF := Lib.hid (HQ.out.trans hf (fun _ h => h.elim))); clear hf)
                      go_ret
                      exact ⟨rfl, H1.out.1.trans HF.out (fun _ h => h.elim)⟩
                · have HN1 := Lib.hid (fun W => dNew_no W (x + more) (by omega))
                  have HN2 := Lib.hid (fun W => rNew_no W (x + more) (by omega))
                  clear hlt hk hk60 htb ht hs
                  go_wp2_with (first
                    | (go_at_call 8; (with_reducible refine (HSE.out wr).mono ?_); rintro e w2 ⟨rfl, hf2⟩; (have H2 := Lib.hid (And.intro (HR.out.2.1.trans hf2 (fun _ h => h.elim)) (hf2.heap HR.out.2.2 id))); (obtain ⟨s0, s1, s2⟩ := row3_cells H2.out.2); clear hf2)
                    | (go_at_call 8; (with_reducible refine (HSE.out w2).mono ?_); rintro e w3 ⟨rfl, hf3⟩; (have H3 := Lib.hid (And.intro (H2.out.1.trans hf3 (fun _ h => h.elim)) (hf3.heap H2.out.2 id))); (obtain ⟨s0, s1, s2⟩ := row3_cells H3.out.2); clear hf3)
                    | (go_at_call 19; refine (HN1.out _).mono ?_; rintro e w4 ⟨rfl, rfl⟩)
                    | (go_at_call 8; (with_reducible refine (HSE.out w3).mono ?_); rintro e w5 ⟨rfl, hf5⟩; (have H5 := Lib.hid (And.intro (H3.out.1.trans hf5 (fun _ h => h.elim)) (hf5.heap H3.out.2 id))); (obtain ⟨s0, s1, s2⟩ := row3_cells H5.out.2); clear hf5)
                    | (go_at_call 20; refine (HN2.out _).mono ?_; rintro e w6 ⟨rfl, rfl⟩)
                    | (go_at_call 9; refine (HA.out _).mono ?_; rintro e w9 ⟨rfl, hf⟩; (have HF := Lib.hid (H5.out.1.trans hf (fun _ h => h.elim))); clear hf))
                  go_ret
                  exact ⟨rfl, H1.out.1.trans HF.out (fun _ h => h.elim)⟩
              · have d10 : decide (3 < more) = true := by rw [decide_eq_true_iff]; omega
                clear hlt hk hk60 htb
                go_wp2_with (first
                  | (go_at_call 8; refine (HSE.out _).mono ?_; rintro e w2 ⟨rfl, hf2⟩; (have H2 := Lib.hid (HR.out.2.1.trans hf2 (fun _ h => h.elim))); clear hf2)
                  | (go_at_call 9; refine (HA.out _).mono ?_; rintro e w3 ⟨rfl, hf⟩; (have HF := Lib.hid (H2.out.trans hf (fun _ h => h.elim))); clear hf))
                go_ret
                exact ⟨rfl, H1.out.1.trans HF.out (fun _ h => h.elim)⟩
            · have d9 : decide (more < -1) = true := by rw [decide_eq_true_iff]; omega
              clear hlt hk hk60 htb
              go_wp2_with (first
                | (go_at_call 8; refine (HSE.out _).mono ?_; rintro e w2 ⟨rfl, hf2⟩; (have H2 := Lib.hid (HR.out.2.1.trans hf2 (fun _ h => h.elim))); clear hf2)
                | (go_at_call 9; refine (HA.out _).mono ?_; rintro e w3 ⟨rfl, hf⟩; (have HF := Lib.hid (H2.out.trans hf (fun _ h => h.elim))); clear hf))
              go_ret
              exact ⟨rfl, H1.out.1.trans HF.out (fun _ h => h.elim)⟩
          · have d8 : decide ((60 : Int) < x) = true := by rw [decide_eq_true_iff]; omega
            clear hlt hk hk60 htb
            go_wp2_with (first
              | (go_at_call 8; refine (HSE.out _).mono ?_; rintro e w2 ⟨rfl, hf2⟩; (have H2 := Lib.hid (HR.out.2.1.trans hf2 (fun _ h => h.elim))); clear hf2)
              | (go_at_call 9; refine (HA.out _).mono ?_; rintro e w3 ⟨rfl, hf⟩; (have HF := Lib.hid (H2.out.trans hf (fun _ h => h.elim))); clear hf))
            go_ret
            exact ⟨rfl, H1.out.1.trans HF.out (fun _ h => h.elim)⟩
        · have d7 : decide ((4000 : Int) < (t : Int)) = true := by rw [decide_eq_true_iff]; omega
          clear hlt hk hk60 htb
          go_wp2_with (go_at_call 9; refine (HA.out _).mono ?_; rintro e w3 ⟨rfl, hf⟩; (have HF := Lib.hid (HR.out.2.1.trans hf (fun _ h => h.elim))); clear hf)
          go_ret
          exact ⟨rfl, H1.out.1.trans HF.out (fun _ h => h.elim)⟩
      · have d1 : decide ((k : Int) < (n : Int)) = true := by rw [decide_eq_true_iff]; omega
        have d2 : decide ((k : Int) < 60) = false := by rw [decide_eq_false_iff_not]; omega
        have d3 : (60 : Int) ≤ (k : Int) := by omega
        have d4 : (60 : Int) < (n : Int) := by omega
        have d5 : decide (k < n) = true := by rw [decide_eq_true_iff]; omega
        have d6 : decide ((60 : Int) < (n : Int)) = true := by rw [decide_eq_true_iff]; omega
        clear hlt hk hk60 htb
        go_wp2_with (go_at_call 9; refine (HA.out _).mono ?_; rintro e w3 ⟨rfl, hf⟩; (have HF := Lib.hid (HR.out.2.1.trans hf (fun _ h => h.elim))); clear hf)
        go_ret
        exact ⟨rfl, H1.out.1.trans HF.out (fun _ h => h.elim)⟩
end Go.Proofs.Ytcbbcihfooaggaa
