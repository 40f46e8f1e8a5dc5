/- The walk of CodeOne: it returns true, and writes nothing that was there. -/
import Derived.Test.YtekgelpehaiblaaOne
namespace Go.Proofs.Ytekgelpehaiblaa
open Go.RowKit Go.ChangeShapes
set_option linter.unusedVariables false

set_option maxHeartbeats 4000000 in
set_option maxRecDepth 100000 in
theorem one_any (l : List PartD) (B : List UInt8) (x y : Int) (v u : Value) (w : World) (hl : PartsIn (fun k => k < w.heap.size) w v l) (hu : BytesIn (fun k => k < w.heap.size) w u B) (hul : B.length ≤ 140737488351232) (hx : IntOk x) (hy : IntOk y) :
    Calls Try.prog 6 #[u, v, .int .i64 x, .int .i64 y] w fun e w' => e = .returned (.bool true) ∧ Fr (fun _ => False) w w' := by
  obtain ⟨hx1, hx2⟩ := hx
  obtain ⟨hy1', hy2'⟩ := hy
  obtain ⟨ao, cap, rfl, h1, h2, h3, h4⟩ := id hl
  obtain ⟨ay, cy, rfl, hy1, hy2, _⟩ := id hu
  unfold maxLen at hy2
  have HL := Lib.hid hl
  have HY := Lib.hid hu
  obtain ⟨n, hn⟩ : ∃ n, n = l.length := ⟨_, rfl⟩
  obtain ⟨q, hq⟩ : ∃ q, q = B.length := ⟨_, rfl⟩
  rw [← hn] at h1 HL ⊢
  rw [← hq] at hy1 hul HY ⊢
  have HN := Lib.hid hn
  have HQ := Lib.hid hq
  clear hl hu hn hq h3 h4
  have hns : n ≤ 2932031007317 := by omega
  go_enter Try.func6, Try.ntmps6
  go_wp2_with fail
  refine (awake_any w).mono ?_
  rintro e w0 ⟨rfl, hf0⟩
  have HF0 := Lib.hid hf0
  have HL0 := Lib.hid (HL.out.keep hf0 (fun _ _ _ h => h))
  clear hf0
  go_wp2_with fail
  refine (size_any w0 HL0.out).mono ?_
  rintro e w1 ⟨s, rfl, hs1, hs2, hs3, d, rfl⟩
  by_cases hbig : 4000 < s + q
  · clear hs2 hs3
    go_wp2_with fail
    go_ret
    exact ⟨rfl, HF0.out.drewN d⟩
  · have hbulk := hs2 (by omega)
    clear hs2 hs3
    have HB := Lib.hid (show bulkOf l ≤ 4000 by omega)
    have hq4 : q ≤ 4000 := by omega
    have hn4 : n ≤ 4000 := by have := HB.out; have := HN.out; unfold bulkOf at *; omega
    clear hbulk
    have hbd : decide ((4000 : Int) < (s : Int) + (q : Int)) = false := by simp; omega
    have HF0d := Lib.hid (HF0.out.drewN d)
    have HYd := Lib.hid (HY.out.keep HF0d.out (fun _ _ _ h => h))
    clear HF0 HL0
    generalize w0.drewN d = w1 at HF0d HYd ⊢
    go_wp2_with fail
    clear hbd
    refine (over_any w1 HYd.out (by have := HQ.out; omega)).mono ?_
    rintro e w2 ⟨bc, rfl, hf2, hbc, hc2⟩
    have hbc2 : bc < w2.heap.size := by obtain ⟨vc, hblk, _⟩ := hc2; exact lt_of_block hblk
    have HF2 := Lib.hid (HF0d.out.trans hf2 (fun i hi => hi.elim))
    have HC2 : Hid (CurAt (fun k => k ≠ bc ∧ k < w2.heap.size ∧ w.heap.size ≤ k) w2 bc B 0) := Lib.hid (by
      obtain ⟨vc, hblk, hb, _⟩ := hc2
      exact ⟨vc, hblk, hb.mono (fun k hk h => ⟨h.2, hk, Nat.le_trans HF0d.out.size h.1⟩), fun h => h.1 rfl⟩)
    have hwbc : w.heap.size ≤ bc := Nat.le_trans HF0d.out.size hbc
    have hw2 := HF2.out.size
    clear hf2 hc2 hbc HYd HF0d
    go_wp2_with fail
    have hm0 : MakAt (fun k => w2.heap.size ≤ k) (w2.alloc (.cells #[.pointer none, .int .i64 0, .bool false] 30)) w2.heap.size (some []) := mak_new w2 _ _ rfl
    have hf1 : Fr (fun _ => False) w (w2.alloc (.cells #[.pointer none, .int .i64 0, .bool false] 30)) := HF2.out.alloc _
    have hc1 : CurAt (fun k => k ≠ bc ∧ k < w2.heap.size ∧ w.heap.size ≤ k) (w2.alloc (.cells #[.pointer none, .int .i64 0, .bool false] 30)) bc B 0 := HC2.out.keep (S := fun _ => False) ((Fr.refl _ _).alloc _) (fun h => h) (fun _ _ _ h => h)
    generalize w2.alloc (.cells #[.pointer none, .int .i64 0, .bool false] 30) = wm at hm0 hf1 hc1 ⊢
    generalize w2.heap.size = mb at hm0 hc1 hw2 hbc2 ⊢
    have HM := Lib.hid hm0
    have HF1 := Lib.hid hf1
    have HC1 := Lib.hid hc1
    clear hm0 hf1 hc1 HC2 HF2
    go_loopw [11] (fun i wr => ∃ (k : Nat) (X : List UInt8) (e : Int) (m : Option (List UInt8)), k ≤ n ∧ i = .int .i64 k ∧ Hid (MakAt (fun k => mb ≤ k) wr mb m) ∧ Hid (CurAt (fun k => k ≠ bc ∧ k < mb ∧ w.heap.size ≤ k) wr bc X e) ∧ Hid (OneInv B X e m) ∧ Hid (Fr (fun _ => False) w wr) ∧ Hid (X.length ≤ 4000)) (fun i _ => n - (intOf i).toNat)
    case atStart => exact ⟨0, B, 0, some [], by omega, rfl, HM, HC1, Lib.hid (.inl ⟨rfl, [], rfl, rfl⟩), HF1, Lib.hid (by have := HQ.out; omega)⟩
    case round =>
      obtain ⟨k, X, e, m, hk, rfl, hmk, hcur, hinv, hfr, hXl⟩ := hrel
      clear HM HF1 HC1
      by_cases hgo : k < n ∧ 0 < curLeft X e
      · obtain ⟨hlt, hlf⟩ := hgo
        have he0 : e = 0 := by
          unfold curLeft at hlf
          split at hlf
          · assumption
          · omega
        subst he0
        have hleft := Lib.hid (curLeft_any wr hcur.out)
        have hleftX : curLeft X 0 = (X.length : Int) := rfl
        rw [hleftX] at hlf
        have HLX := Lib.hid hleftX
        clear hleftX
        have hkl : k < l.length := by have := HN.out; omega
        obtain ⟨ao2, cap2, hv2, _, _, _, hcells⟩ := HL.out
        simp only [Value.slice.injEq] at hv2
        obtain ⟨rfl, hv3, rfl⟩ := hv2
        clear hv3
        obtain ⟨pb, off, hao, hi⟩ := hcells (by rintro rfl; simp at hkl)
        subst hao
        have hp := (hi k hkl).keep hfr.out (fun _ _ _ h => h)
        have hstep := oneStep_inv l[k] B X m hinv.out
        have hml := fun L hL => hinv.out.len L hL
        obtain ⟨p, hpk⟩ : ∃ p, p = l[k] := ⟨_, rfl⟩
        rw [← hpk] at hp hstep
        clear hpk hi hcells
        obtain ⟨q1, q2, q3, q4, q5, q6, q7⟩ := id hp
        obtain ⟨pw, pn, pm, px, pB⟩ := p
        obtain ⟨m1, m2⟩ := q7.1
        obtain ⟨m3, m4⟩ := q7.2.2
        simp only at q1 q2 q3 q4 q5 m1 m2 m3 m4 q6
        have hmod0 := Int.emod_nonneg pw (show (3 : Int) ≠ 0 by decide)
        have hmod3 := Int.emod_lt_of_pos pw (show (0 : Int) < 3 by decide)
        have HML := Lib.hid hml
        have hbwr : mb < wr.heap.size ∧ bc < wr.heap.size := by
          obtain ⟨h1, T, h2⟩ := hmk.out
          have : mb < wr.heap.size := by
            cases m with
            | none => obtain ⟨hv, o, h3⟩ := h2; exact lt_of_block h3
            | some L => rcases h2 with ⟨h3, h4⟩ | ⟨hb, sv, h3, h4, h5, h6, h7⟩; exact lt_of_block h4; exact lt_of_block h5
          omega
        obtain ⟨hb1, hb2⟩ := hbwr
        have hsz := hfr.out.size
        clear hp q7 hml q5
        by_cases w0 : pw % 3 = 0
        · have w0' : (pw % 3 == 0) = true := by simpa using w0
          have hst : oneStep ⟨pw, pn, pm, px, pB⟩ X 0 m = ((curNum 1099511627776 X 0).2.1, (curNum 1099511627776 X 0).2.2, mkNum (curNum 1099511627776 X 0).1 m) := by simp [oneStep, w0]
          have hlen := curNum_len 1099511627776 X 0
          have hcall := curNum_any 1099511627776 wr hcur.out
          obtain ⟨a, ha⟩ : ∃ a, a = curNum 1099511627776 X 0 := ⟨_, rfl⟩
          rw [← ha] at hst hlen hcall
          obtain ⟨a1, a2, a3⟩ := a
          simp only at hst hlen hcall
          rw [hst] at hstep
          have HST := Lib.hid hstep
          have HX2 := Lib.hid (Nat.le_trans hlen hXl.out)
          have HCALL := Lib.hid hcall
          clear w0 ha hst hlen hcall hstep hXl hinv
          go_wp2_with (first
            | (go_at_call 28; refine hleft.out.mono ?_; rintro e w' ⟨rfl, rfl⟩; rw [HLX.out])
            | (go_at_call 10; refine (pick_any pw 3 _ (by decide) (by decide) m1 m2).mono ?_; rintro e w' ⟨rfl, rfl⟩)
            | (go_at_call 30; refine HCALL.out.mono ?_; rintro e w3 ⟨rfl, hf3, hc3⟩; have HF3 := Lib.hid hf3; have HC3 := Lib.hid hc3; have HM3 := Lib.hid (hmk.out.keep hf3 (fun i _ h hs => by omega)); have hs3 := hf3.size; clear hf3 hc3)
            | fail)
          refine (makerNum_any (F := fun k => mb ≤ k) a1 _ (fun k hk => by simp at hk; omega) (HM3.out.keep (S := fun _ => False) ((Fr.refl _ _).alloc _) (fun _ _ _ h => h)) (cell_of_one (heap_alloc_new w3 (.cells #[.int .i64 a1] 3))) (fun L hL => by have := HML.out L hL; have := HQ.out; omega)).mono ?_
          rintro e w4 ⟨rfl, hf4, hm4⟩
          have HM4 := Lib.hid hm4
          have HC4 := Lib.hid ((HC3.out.keep (S := fun _ => False) ((Fr.refl _ _).alloc (.cells #[.int .i64 a1] 3)) (fun h => h) (fun _ _ _ h => h)).keep hf4 (fun h => by omega) (fun k _ h hs => by omega))
          have HF4 := Lib.hid (((hfr.out.trans HF3.out (fun i hi => .inr (by omega))).alloc (.cells #[.int .i64 a1] 3)).trans hf4 (fun i hi => .inr (by omega)))
          clear hf4 hm4
          go_wp2
          go_roundw
          case rel => exact ⟨k + 1, a2, a3, mkNum a1 m, by omega, by go_num, HM4, HC4, HST, HF4, HX2⟩
          case measure => simp [intOf]; omega
        · by_cases w1' : pw % 3 = 1
          · have w0' : (pw % 3 == 0) = false := by simpa using w0
            have w1'' : (pw % 3 == 1) = true := by simpa using w1'
            have hst : oneStep ⟨pw, pn, pm, px, pB⟩ X 0 m = ((curRaw pm X 0).2.1, (curRaw pm X 0).2.2, m.map (· ++ (curRaw pm X 0).1)) := by simp [oneStep, w1']
            have hlen := curRaw_len pm X 0
            have hlen1 : (curRaw pm X 0).1.length ≤ X.length := by
              unfold curRaw
              rw [if_pos rfl]
              split
              · simp
              · rw [List.length_take]; omega
            have hcall := curRaw_any pm wr hcur.out (by have := hXl.out; omega) m3 m4
            obtain ⟨a, ha⟩ : ∃ a, a = curRaw pm X 0 := ⟨_, rfl⟩
            rw [← ha] at hst hlen hcall hlen1
            obtain ⟨a1, a2, a3⟩ := a
            simp only at hst hlen hcall hlen1
            rw [hst] at hstep
            have HST := Lib.hid hstep
            have HX2 := Lib.hid (Nat.le_trans hlen hXl.out)
            have HX1 := Lib.hid (Nat.le_trans hlen1 hXl.out)
            have HCALL := Lib.hid hcall
            clear w0 w1' ha hst hlen hcall hstep hXl hinv hlen1
            go_wp2_with (first
              | (go_at_call 28; refine hleft.out.mono ?_; rintro e w' ⟨rfl, rfl⟩; rw [HLX.out])
              | (go_at_call 10; refine (pick_any pw 3 _ (by decide) (by decide) m1 m2).mono ?_; rintro e w' ⟨rfl, rfl⟩)
              | (go_at_call 31; refine HCALL.out.mono ?_; rintro e w3 ⟨v3, rfl, hf3, ho3, hc3⟩; have HF3 := Lib.hid hf3; have HC3 := Lib.hid (hc3); have HO3 := Lib.hid (ho3.bytes.mono (G := fun k => wr.heap.size ≤ k ∧ k < w3.heap.size) (fun k hk h => ⟨h, hk⟩)); have HM3 := Lib.hid ((hmk.out.mono (G := fun k => mb ≤ k ∧ k < wr.heap.size) (fun k hk h => ⟨h, hk⟩)).keep hf3 (fun i _ h hs => by omega)); have hs3 := hf3.size; clear hf3 hc3 ho3)
              | fail)
            refine (makerRaw_any (F := fun k => mb ≤ k ∧ ¬ (wr.heap.size ≤ k ∧ k < w3.heap.size)) (G := fun k => wr.heap.size ≤ k ∧ k < w3.heap.size) _ (fun k hk => by omega) (fun k hk h => h.2 hk) (HM3.out.mono (fun k hk h => by omega)) HO3.out (fun L hL => by have := HML.out L hL; have := HQ.out; have := HX1.out; omega)).mono ?_
            rintro e w4 ⟨rfl, hf4, hm4⟩
            have HM4 := Lib.hid (hm4.mono (G := fun k => mb ≤ k) (fun k _ h => h.1))
            have HC4 := Lib.hid (HC3.out.keep hf4 (fun h => by omega) (fun k _ h hs => by omega))
            have HF4 := Lib.hid ((hfr.out.trans HF3.out (fun i hi => .inr (by omega))).trans hf4 (fun i hi => .inr (by omega)))
            clear hf4 hm4
            go_wp2
            go_roundw
            case rel => exact ⟨k + 1, a2, a3, m.map (· ++ a1), by omega, by go_num, HM4, HC4, HST, HF4, HX2⟩
            case measure => simp [intOf]; omega
          · have w0' : (pw % 3 == 0) = false := by simpa using w0
            have w1'' : (pw % 3 == 1) = false := by simpa using w1'
            have hst : oneStep ⟨pw, pn, pm, px, pB⟩ X 0 m = ((curText 4000 X 0).2.1, (curText 4000 X 0).2.2, mkText (curText 4000 X 0).1 m) := by simp [oneStep, w0, w1']
            have hlen := curText_len 4000 X 0
            have hlen1 : (curText 4000 X 0).1.length ≤ X.length := by
              unfold curText
              rw [if_pos rfl]
              split
              · simp
              · split
                · simp
                · split
                  · simp
                  · unfold curRaw
                    rw [if_pos rfl]
                    split
                    · simp
                    · rw [List.length_take, List.length_drop]; omega
            have hcall := curText_any 4000 wr hcur.out (by have := hXl.out; omega)
            obtain ⟨a, ha⟩ : ∃ a, a = curText 4000 X 0 := ⟨_, rfl⟩
            rw [← ha] at hst hlen hcall hlen1
            obtain ⟨a1, a2, a3⟩ := a
            simp only at hst hlen hcall hlen1
            rw [hst] at hstep
            have HST := Lib.hid hstep
            have HX2 := Lib.hid (Nat.le_trans hlen hXl.out)
            have HX1 := Lib.hid (Nat.le_trans hlen1 hXl.out)
            have HCALL := Lib.hid hcall
            clear w0 w1' ha hst hlen hcall hstep hXl hinv hlen1
            go_wp2_with (first
              | (go_at_call 28; refine hleft.out.mono ?_; rintro e w' ⟨rfl, rfl⟩; rw [HLX.out])
              | (go_at_call 10; refine (pick_any pw 3 _ (by decide) (by decide) m1 m2).mono ?_; rintro e w' ⟨rfl, rfl⟩)
              | (go_at_call 32; refine HCALL.out.mono ?_; rintro e w3 ⟨v3, rfl, hf3, ho3, hc3⟩; obtain ⟨a3', c3', rfl⟩ := ho3.len; have HF3 := Lib.hid hf3; have HC3 := Lib.hid (hc3); have HO3 := Lib.hid (ho3.bytes.mono (G := fun k => wr.heap.size ≤ k ∧ k < w3.heap.size) (fun k hk h => ⟨h, hk⟩)); have HM3 := Lib.hid ((hmk.out.mono (G := fun k => mb ≤ k ∧ k < wr.heap.size) (fun k hk h => ⟨h, hk⟩)).keep hf3 (fun i _ h hs => by omega)); have hs3 := hf3.size; clear hf3 hc3 ho3)
              | fail)
            refine (makerText_any (F := fun k => mb ≤ k ∧ ¬ (wr.heap.size ≤ k ∧ k < w3.heap.size)) (G := fun k => wr.heap.size ≤ k ∧ k < w3.heap.size) _ (fun k hk => by simp at hk; omega) (fun k hk h => h.2 hk) ((HM3.out.mono (fun k hk h => by omega)).keep (S := fun _ => False) ((Fr.refl _ _).alloc _) (fun _ _ _ h => h)) (cell_of_one (heap_alloc_new w3 (.cells #[.slice a3' a1.length c3'] 32))) (HO3.out.keep (S := fun _ => False) ((Fr.refl _ _).alloc _) (fun _ _ _ h => h)) (fun L hL => by have := HML.out L hL; have := HQ.out; have := HX1.out; omega)).mono ?_
            rintro e w4 ⟨rfl, hf4, hm4⟩
            have HM4 := Lib.hid (hm4.mono (G := fun k => mb ≤ k) (fun k _ h => h.1))
            have HC4 := Lib.hid ((HC3.out.keep (S := fun _ => False) ((Fr.refl _ _).alloc (.cells #[.slice a3' a1.length c3'] 32)) (fun h => h) (fun _ _ _ h => h)).keep hf4 (fun h => by omega) (fun k _ h hs => by omega))
            have HF4 := Lib.hid (((hfr.out.trans HF3.out (fun i hi => .inr (by omega))).alloc (.cells #[.slice a3' a1.length c3'] 32)).trans hf4 (fun i hi => .inr (by omega)))
            clear hf4 hm4
            go_wp2
            go_roundw
            case rel => exact ⟨k + 1, a2, a3, mkText a1 m, by omega, by go_num, HM4, HC4, HST, HF4, HX2⟩
            case measure => simp [intOf]; omega
      · have hleft := Lib.hid (curLeft_any wr hcur.out)
        obtain ⟨Lm, Ed, hfin0, hdone0⟩ : ∃ (Lm : List UInt8) (Ed : Int), (curEnd X e = 0 → Lm = B ∧ Ed = 0) ∧ Calls Try.prog 17 #[.pointer (some ⟨mb, 0, none⟩)] wr fun r w' => ∃ v, r = .returned (.tuple #[v, .int .i64 Ed]) ∧ Fr (fun _ => False) wr w' ∧ OwnB (fun k => wr.heap.size ≤ k) w' v Lm :=
          ⟨m.getD [], if m.isSome then 0 else 2, fun h => by rw [hinv.out.fin h]; exact ⟨rfl, rfl⟩, done_any wr hmk.out (fun L hL => by have := hinv.out.len L hL; have := HQ.out; omega)⟩
        obtain ⟨lml, hlml0⟩ : ∃ lml, lml = Lm.length := ⟨_, rfl⟩
        have hlml := Lib.hid hlml0
        clear hlml0
        have hfinal := Lib.hid hfin0
        have hdone := Lib.hid hdone0
        clear hfin0 hdone0
        generalize curLeft X e = lf at hleft hgo
        by_cases hlt : k < n
        · have hlf : ¬ 0 < lf := fun h => hgo ⟨hlt, h⟩
          clear hgo
          go_upto_region 17 with (first
            | (go_at_call 28; refine hleft.out.mono ?_; rintro e w' ⟨rfl, rfl⟩)
            | (go_at_call 17; refine hdone.out.mono ?_; rintro e wd ⟨vd, rfl, hfd, hod⟩; obtain ⟨ad, cd, hvd⟩ := hod.len; rw [← hlml.out] at hvd; subst hvd; have HFD := Lib.hid (hfr.out.trans hfd (fun i hi => hi.elim)); have HOD := Lib.hid hod; have HCD := Lib.hid (hcur.out.keep hfd (fun h => h) (fun _ _ _ h => h)); clear hfd hod)
            | fail)
          go_cut [88] (fun s88 wx => s88 = .bool false ∧ Hid (Fr (fun _ => False) w wx))
          case first =>
            by_cases hE2 : curEnd X e = 0
            · have hEd := (hfinal.out hE2).2
              have hLm := (hfinal.out hE2).1
              have hEd' : (Ed != 0) = false := by simp [hEd]
              have hEN := curEnd_any wd HCD.out
              rw [hE2] at hEN
              have HEN := Lib.hid hEN
              have HS := Lib.hid (same_any _ _ Lm B wd HOD.out.bytes (HY.out.keep HFD.out (fun _ _ _ h => h)))
              have hsame : sameB Lm B = true := sameB_eq hLm
              clear hE2 hEN hEd hLm
              go_wp2_with (first
                | (go_at_call 29; refine HEN.out.mono ?_; rintro e w' ⟨rfl, rfl⟩)
                | (go_at_call 19; refine HS.out.mono ?_; rintro e w' ⟨rfl, ds, rfl⟩)
                | fail)
              go_meet
              case rel => exact ⟨rfl, Lib.hid (HFD.out.drewN ds)⟩
            · have HEN := Lib.hid (curEnd_any wd HCD.out)
              generalize curEnd X e = E2 at HEN hE2
              have hE2' : (E2 == 0) = false := by simpa using hE2
              clear hE2
              go_wp2_with (first
                | (go_at_call 29; refine HEN.out.mono ?_; rintro e w' ⟨rfl, rfl⟩)
                | fail)
              go_meet
              case rel => exact ⟨rfl, HFD⟩
          case rest =>
            obtain ⟨rfl, hfx⟩ := hcut
            go_wp2_with fail
            have hma : MakAt (fun k => wc.heap.size ≤ k ∧ k ≠ wc.heap.size + 1) (((wc.alloc (.cells #[.pointer none, .int .i64 0, .bool false] 30)).alloc (.cells #[.pointer none, .int .i64 0, .bool false] 30)).alloc (.cells #[.int .i64 x] 3)) wc.heap.size (some []) :=
              ((mak_new wc _ _ rfl).mono (fun k hk h => ⟨h, by simp at hk; omega⟩)).keep (S := fun _ => False) (((Fr.refl _ _).alloc _).alloc _) (fun _ _ _ h => h)
            have hmo0 := mak_new (wc.alloc (.cells #[.pointer none, .int .i64 0, .bool false] 30)) (.cells #[.pointer none, .int .i64 0, .bool false] 30) _ rfl
            have hmo : MakAt (fun k => k = wc.heap.size + 1) (((wc.alloc (.cells #[.pointer none, .int .i64 0, .bool false] 30)).alloc (.cells #[.pointer none, .int .i64 0, .bool false] 30)).alloc (.cells #[.int .i64 x] 3)) (wc.heap.size + 1) (some []) := by
              rw [World.size_alloc] at hmo0
              exact (hmo0.mono (fun k hk h => by simp at hk; omega)).keep (S := fun _ => False) ((Fr.refl _ _).alloc _) (fun _ _ _ h => h)
            have hcx := heap_alloc_new ((wc.alloc (.cells #[.pointer none, .int .i64 0, .bool false] 30)).alloc (.cells #[.pointer none, .int .i64 0, .bool false] 30)) (.cells #[.int .i64 x] 3)
            rw [World.size_alloc, World.size_alloc] at hcx
            refine (makerNum_any (F := fun k => wc.heap.size ≤ k ∧ k ≠ wc.heap.size + 1) x _ (fun k hk => by simp at hk; omega) hma (cell_of_one hcx) (fun L hL => by cases hL; simp)).mono ?_
            rintro e w3 ⟨rfl, hf3, hm3⟩
            have HF3 := Lib.hid ((((hfx.out.alloc _).alloc _).alloc _).trans hf3 (fun i hi => .inr (Nat.le_trans hfx.out.size hi.1)))
            have HMO3 := Lib.hid (hmo.keep hf3 (fun k _ hk hs => hs.2 hk))
            have HM3 := Lib.hid hm3
            have hs3 := hf3.size
            simp only [World.size_alloc] at hs3
            have hsx := hfx.out.size
            clear hma hmo0 hmo hcx hf3 hm3
            go_wp2_with fail
            refine (done_num x w3 HM3.out).mono ?_
            rintro e w4 ⟨v4, rfl, hf4, ho4⟩
            obtain ⟨a4, c4, hv4⟩ := ho4.len
            have hso := numTold_same (x := x) (y := y)
            generalize numTold x = tx at ho4 hv4 hso ⊢
            obtain ⟨L4, E4⟩ := tx
            simp only at ho4 hv4 hso ⊢
            obtain ⟨l4, hl4⟩ : ∃ l4, l4 = L4.length := ⟨_, rfl⟩
            rw [← hl4] at hv4 hso
            subst hv4
            have HF4 := Lib.hid (HF3.out.trans hf4 (fun i hi => hi.elim))
            have HMO4 := Lib.hid (HMO3.out.keep hf4 (fun _ _ _ h => h))
            have HO4 := Lib.hid (ho4.bytes.mono (G := fun k => w3.heap.size ≤ k ∧ k < w4.heap.size) (fun k hk h => ⟨h, hk⟩))
            have hs4 := hf4.size
            clear hf4 ho4 HMO3 HM3 HF3 hl4
            have HSO := Lib.hid hso
            clear hso
            go_wp2_with fail
            have hmo5 : MakAt (fun k => k = wc.heap.size + 1 ∨ w4.heap.size ≤ k) (w4.alloc (.cells #[.int .i64 y] 3)) (wc.heap.size + 1) (some []) :=
              (HMO4.out.mono (fun k hk h => .inl h)).keep (S := fun _ => False) ((Fr.refl _ _).alloc _) (fun _ _ _ h => h)
            refine (makerNum_any (F := fun k => k = wc.heap.size + 1 ∨ w4.heap.size ≤ k) y _ (fun k hk => by simp at hk; omega) hmo5 (cell_of_one (heap_alloc_new w4 (.cells #[.int .i64 y] 3))) (fun L hL => by cases hL; simp)).mono ?_
            rintro e w5 ⟨rfl, hf5, hm5⟩
            have HF5 := Lib.hid ((HF4.out.alloc _).trans hf5 (fun i hi => .inr (by have := HF4.out.size; omega)))
            have HO5 := Lib.hid ((HO4.out.keep (S := fun _ => False) ((Fr.refl _ _).alloc _) (fun _ _ _ h => h)).keep hf5 (fun k _ hk hs => by omega))
            have HM5 := Lib.hid hm5
            clear hmo5 hf5 hm5 HMO4 HF4 HO4
            go_wp2_with fail
            refine (done_num y w5 HM5.out).mono ?_
            rintro e w6 ⟨v6, rfl, hf6, ho6⟩
            obtain ⟨a6, c6, hv6⟩ := ho6.len
            have hso := HSO.out
            generalize numTold y = ty at ho6 hv6 hso ⊢
            obtain ⟨L6, E6⟩ := ty
            simp only at ho6 hv6 hso ⊢
            obtain ⟨l6, hl6⟩ : ∃ l6, l6 = L6.length := ⟨_, rfl⟩
            rw [← hl6] at hv6 hso
            subst hv6
            have HF6 := Lib.hid (HF5.out.trans hf6 (fun i hi => hi.elim))
            have HO6 := Lib.hid ho6.bytes
            have HO46 := Lib.hid (HO5.out.keep hf6 (fun _ _ _ h => h))
            clear hf6 ho6 HM5 HF5 HO5 hl6 HSO
            by_cases hE4 : E4 = 0
            · by_cases hE6 : E6 = 0
              · obtain ⟨hs1', hs2'⟩ := hso hE4 hE6
                have hE4' : (E4 != 0) = false := by simp [hE4]
                have hE6' : (E6 != 0) = false := by simp [hE6]
                have HS := Lib.hid (same_any _ _ L4 L6 w6 HO46.out HO6.out)
                clear hE4 hE6 hso
                by_cases hxy : y < x
                · have hne : (x == y) = false := by simp; omega
                  rw [hne] at hs1'
                  clear hs2'
                  go_wp2_with (first
                    | (go_at_call 19; refine HS.out.mono ?_; rintro e w' ⟨rfl, ds, rfl⟩)
                    | fail)
                  go_ret
                  exact ⟨rfl, HF6.out.drewN _⟩
                · have hll := hs2' (by omega)
                  clear hs2'
                  by_cases hxe : x = y
                  · have hne : (x == y) = true := by simpa using hxe
                    rw [hne] at hs1'
                    clear hxe
                    go_wp2_with (first
                      | (go_at_call 19; refine HS.out.mono ?_; rintro e w' ⟨rfl, ds, rfl⟩)
                      | fail)
                    go_ret
                    exact ⟨rfl, HF6.out.drewN _⟩
                  · have hne : (x == y) = false := by simpa using hxe
                    rw [hne] at hs1'
                    clear hxe
                    go_wp2_with (first
                      | (go_at_call 19; refine HS.out.mono ?_; rintro e w' ⟨rfl, ds, rfl⟩)
                      | fail)
                    go_ret
                    exact ⟨rfl, HF6.out.drewN _⟩
              · have hE4' : (E4 != 0) = false := by simp [hE4]
                have hE6' : (E6 != 0) = true := by simpa using hE6
                clear hE4 hE6 hso
                go_wp2_with fail
                go_ret
                exact ⟨rfl, HF6.out⟩
            · have hE4' : (E4 != 0) = true := by simpa using hE4
              clear hE4 hso
              go_wp2_with fail
              go_ret
              exact ⟨rfl, HF6.out⟩
        · clear hgo
          go_upto_region 17 with (first
            | (go_at_call 28; refine hleft.out.mono ?_; rintro e w' ⟨rfl, rfl⟩)
            | (go_at_call 17; refine hdone.out.mono ?_; rintro e wd ⟨vd, rfl, hfd, hod⟩; obtain ⟨ad, cd, hvd⟩ := hod.len; rw [← hlml.out] at hvd; subst hvd; have HFD := Lib.hid (hfr.out.trans hfd (fun i hi => hi.elim)); have HOD := Lib.hid hod; have HCD := Lib.hid (hcur.out.keep hfd (fun h => h) (fun _ _ _ h => h)); clear hfd hod)
            | fail)
          go_cut [88] (fun s88 wx => s88 = .bool false ∧ Hid (Fr (fun _ => False) w wx))
          case first =>
            by_cases hE2 : curEnd X e = 0
            · have hEd := (hfinal.out hE2).2
              have hLm := (hfinal.out hE2).1
              have hEd' : (Ed != 0) = false := by simp [hEd]
              have hEN := curEnd_any wd HCD.out
              rw [hE2] at hEN
              have HEN := Lib.hid hEN
              have HS := Lib.hid (same_any _ _ Lm B wd HOD.out.bytes (HY.out.keep HFD.out (fun _ _ _ h => h)))
              have hsame : sameB Lm B = true := sameB_eq hLm
              clear hE2 hEN hEd hLm
              go_wp2_with (first
                | (go_at_call 29; refine HEN.out.mono ?_; rintro e w' ⟨rfl, rfl⟩)
                | (go_at_call 19; refine HS.out.mono ?_; rintro e w' ⟨rfl, ds, rfl⟩)
                | fail)
              go_meet
              case rel => exact ⟨rfl, Lib.hid (HFD.out.drewN ds)⟩
            · have HEN := Lib.hid (curEnd_any wd HCD.out)
              generalize curEnd X e = E2 at HEN hE2
              have hE2' : (E2 == 0) = false := by simpa using hE2
              clear hE2
              go_wp2_with (first
                | (go_at_call 29; refine HEN.out.mono ?_; rintro e w' ⟨rfl, rfl⟩)
                | fail)
              go_meet
              case rel => exact ⟨rfl, HFD⟩
          case rest =>
            obtain ⟨rfl, hfx⟩ := hcut
            go_wp2_with fail
            have hma : MakAt (fun k => wc.heap.size ≤ k ∧ k ≠ wc.heap.size + 1) (((wc.alloc (.cells #[.pointer none, .int .i64 0, .bool false] 30)).alloc (.cells #[.pointer none, .int .i64 0, .bool false] 30)).alloc (.cells #[.int .i64 x] 3)) wc.heap.size (some []) :=
              ((mak_new wc _ _ rfl).mono (fun k hk h => ⟨h, by simp at hk; omega⟩)).keep (S := fun _ => False) (((Fr.refl _ _).alloc _).alloc _) (fun _ _ _ h => h)
            have hmo0 := mak_new (wc.alloc (.cells #[.pointer none, .int .i64 0, .bool false] 30)) (.cells #[.pointer none, .int .i64 0, .bool false] 30) _ rfl
            have hmo : MakAt (fun k => k = wc.heap.size + 1) (((wc.alloc (.cells #[.pointer none, .int .i64 0, .bool false] 30)).alloc (.cells #[.pointer none, .int .i64 0, .bool false] 30)).alloc (.cells #[.int .i64 x] 3)) (wc.heap.size + 1) (some []) := by
              rw [World.size_alloc] at hmo0
              exact (hmo0.mono (fun k hk h => by simp at hk; omega)).keep (S := fun _ => False) ((Fr.refl _ _).alloc _) (fun _ _ _ h => h)
            have hcx := heap_alloc_new ((wc.alloc (.cells #[.pointer none, .int .i64 0, .bool false] 30)).alloc (.cells #[.pointer none, .int .i64 0, .bool false] 30)) (.cells #[.int .i64 x] 3)
            rw [World.size_alloc, World.size_alloc] at hcx
            refine (makerNum_any (F := fun k => wc.heap.size ≤ k ∧ k ≠ wc.heap.size + 1) x _ (fun k hk => by simp at hk; omega) hma (cell_of_one hcx) (fun L hL => by cases hL; simp)).mono ?_
            rintro e w3 ⟨rfl, hf3, hm3⟩
            have HF3 := Lib.hid ((((hfx.out.alloc _).alloc _).alloc _).trans hf3 (fun i hi => .inr (Nat.le_trans hfx.out.size hi.1)))
            have HMO3 := Lib.hid (hmo.keep hf3 (fun k _ hk hs => hs.2 hk))
            have HM3 := Lib.hid hm3
            have hs3 := hf3.size
            simp only [World.size_alloc] at hs3
            have hsx := hfx.out.size
            clear hma hmo0 hmo hcx hf3 hm3
            go_wp2_with fail
            refine (done_num x w3 HM3.out).mono ?_
            rintro e w4 ⟨v4, rfl, hf4, ho4⟩
            obtain ⟨a4, c4, hv4⟩ := ho4.len
            have hso := numTold_same (x := x) (y := y)
            generalize numTold x = tx at ho4 hv4 hso ⊢
            obtain ⟨L4, E4⟩ := tx
            simp only at ho4 hv4 hso ⊢
            obtain ⟨l4, hl4⟩ : ∃ l4, l4 = L4.length := ⟨_, rfl⟩
            rw [← hl4] at hv4 hso
            subst hv4
            have HF4 := Lib.hid (HF3.out.trans hf4 (fun i hi => hi.elim))
            have HMO4 := Lib.hid (HMO3.out.keep hf4 (fun _ _ _ h => h))
            have HO4 := Lib.hid (ho4.bytes.mono (G := fun k => w3.heap.size ≤ k ∧ k < w4.heap.size) (fun k hk h => ⟨h, hk⟩))
            have hs4 := hf4.size
            clear hf4 ho4 HMO3 HM3 HF3 hl4
            have HSO := Lib.hid hso
            clear hso
            go_wp2_with fail
            have hmo5 : MakAt (fun k => k = wc.heap.size + 1 ∨ w4.heap.size ≤ k) (w4.alloc (.cells #[.int .i64 y] 3)) (wc.heap.size + 1) (some []) :=
              (HMO4.out.mono (fun k hk h => .inl h)).keep (S := fun _ => False) ((Fr.refl _ _).alloc _) (fun _ _ _ h => h)
            refine (makerNum_any (F := fun k => k = wc.heap.size + 1 ∨ w4.heap.size ≤ k) y _ (fun k hk => by simp at hk; omega) hmo5 (cell_of_one (heap_alloc_new w4 (.cells #[.int .i64 y] 3))) (fun L hL => by cases hL; simp)).mono ?_
            rintro e w5 ⟨rfl, hf5, hm5⟩
            have HF5 := Lib.hid ((HF4.out.alloc _).trans hf5 (fun i hi => .inr (by have := HF4.out.size; omega)))
            have HO5 := Lib.hid ((HO4.out.keep (S := fun _ => False) ((Fr.refl _ _).alloc _) (fun _ _ _ h => h)).keep hf5 (fun k _ hk hs => by omega))
            have HM5 := Lib.hid hm5
            clear hmo5 hf5 hm5 HMO4 HF4 HO4
            go_wp2_with fail
            refine (done_num y w5 HM5.out).mono ?_
            rintro e w6 ⟨v6, rfl, hf6, ho6⟩
            obtain ⟨a6, c6, hv6⟩ := ho6.len
            have hso := HSO.out
            generalize numTold y = ty at ho6 hv6 hso ⊢
            obtain ⟨L6, E6⟩ := ty
            simp only at ho6 hv6 hso ⊢
            obtain ⟨l6, hl6⟩ : ∃ l6, l6 = L6.length := ⟨_, rfl⟩
            rw [← hl6] at hv6 hso
            subst hv6
            have HF6 := Lib.hid (HF5.out.trans hf6 (fun i hi => hi.elim))
            have HO6 := Lib.hid ho6.bytes
            have HO46 := Lib.hid (HO5.out.keep hf6 (fun _ _ _ h => h))
            clear hf6 ho6 HM5 HF5 HO5 hl6 HSO
            by_cases hE4 : E4 = 0
            · by_cases hE6 : E6 = 0
              · obtain ⟨hs1', hs2'⟩ := hso hE4 hE6
                have hE4' : (E4 != 0) = false := by simp [hE4]
                have hE6' : (E6 != 0) = false := by simp [hE6]
                have HS := Lib.hid (same_any _ _ L4 L6 w6 HO46.out HO6.out)
                clear hE4 hE6 hso
                by_cases hxy : y < x
                · have hne : (x == y) = false := by simp; omega
                  rw [hne] at hs1'
                  clear hs2'
                  go_wp2_with (first
                    | (go_at_call 19; refine HS.out.mono ?_; rintro e w' ⟨rfl, ds, rfl⟩)
                    | fail)
                  go_ret
                  exact ⟨rfl, HF6.out.drewN _⟩
                · have hll := hs2' (by omega)
                  clear hs2'
                  by_cases hxe : x = y
                  · have hne : (x == y) = true := by simpa using hxe
                    rw [hne] at hs1'
                    clear hxe
                    go_wp2_with (first
                      | (go_at_call 19; refine HS.out.mono ?_; rintro e w' ⟨rfl, ds, rfl⟩)
                      | fail)
                    go_ret
                    exact ⟨rfl, HF6.out.drewN _⟩
                  · have hne : (x == y) = false := by simpa using hxe
                    rw [hne] at hs1'
                    clear hxe
                    go_wp2_with (first
                      | (go_at_call 19; refine HS.out.mono ?_; rintro e w' ⟨rfl, ds, rfl⟩)
                      | fail)
                    go_ret
                    exact ⟨rfl, HF6.out.drewN _⟩
              · have hE4' : (E4 != 0) = false := by simp [hE4]
                have hE6' : (E6 != 0) = true := by simpa using hE6
                clear hE4 hE6 hso
                go_wp2_with fail
                go_ret
                exact ⟨rfl, HF6.out⟩
            · have hE4' : (E4 != 0) = true := by simpa using hE4
              clear hE4 hso
              go_wp2_with fail
              go_ret
              exact ⟨rfl, HF6.out⟩
end Go.Proofs.Ytekgelpehaiblaa
