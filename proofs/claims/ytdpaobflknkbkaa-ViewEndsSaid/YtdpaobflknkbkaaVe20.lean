/- Laid together: VRf -/
import Derived.Test.YtdpaobflknkbkaaVe19
import Derived.Deep.QuietTactic
import Derived.BigQuiet

namespace Go.Proofs.Ytdpaobflknkbkaa
open Go.RowKit Go.ChangeShapes
set_option linter.unusedVariables false
section
set_option maxRecDepth 100000
set_option maxHeartbeats 2000000
theorem rFits14_any {F : Nat → Prop} (w : World) (L A D : Int) (v : Value) (Q : List Qt) (hQ : QsIn F w v Q) :
    Calls Try.prog 18 #[.agg #[.int .i64 L, .int .i64 A, .int .i64 D], v] w fun e w' => e = .returned (.int .i64 (fitsQ L A D Q)) ∧ Fr (fun _ => False) w w' := by
  obtain ⟨W1, hW1⟩ : ∃ W1, W1 = w.alloc (.cells #[.int .i64 L, .int .i64 A, .int .i64 D] 51) := ⟨_, rfl⟩
  have hf1 : Fr (fun _ => False) w W1 := by rw [hW1]; exact (Fr.refl _ _).alloc _
  have hb1 : W1.heap[w.heap.size]? = some (.cells #[.int .i64 L, .int .i64 A, .int .i64 D] 51 (0, 0)) := by rw [hW1]; exact heap_alloc_new w _
  have hr := rRight_any W1 L A D
  have hq := fun W (hf : Fr (fun _ => False) w W) => rAll_any W v Q (hQ.quiet hf)
  obtain ⟨ao, cap, rfl, hc1, hc2, b, off, hao, hcells⟩ := id hQ.open9
  obtain ⟨n, hn⟩ : ∃ n, n = Q.length := ⟨_, rfl⟩
  rw [← hn] at hQ hq hc1 hao ⊢
  have HQ := Lib.hid hq
  have HW := Lib.hid (And.intro hW1 (And.intro hf1 hb1))
  have HN := Lib.hid hn
  have HAO := Lib.hid hao
  have HCE := Lib.hid hcells
  have c0 := cell_of_row _ _ 0 _ _ _ hb1
  have c1 := cell_of_row _ _ 1 _ _ _ hb1
  have c2 := cell_of_row _ _ 2 _ _ _ hb1
  cases hb : rightS L A D with
  | false =>
    rw [hb] at hr
    have HR := Lib.hid hr
    have HF := Lib.hid (show fitsQ L A D Q = 2 by unfold fitsQ; rw [hb]; simp)
    clear hr hq hQ hf1 hb1 hW1 hn hao hcells
    go_enter Try.func18, Try.ntmps18
    go_wp2_with (go_at_call 57; rw [← HW.out.1]; refine HR.out.mono ?_; rintro e w2 ⟨rfl, hf2⟩; (have H2 := Lib.hid hf2); clear hf2)
    go_ret
    exact ⟨by rw [HF.out]; rfl, HW.out.2.1.trans H2.out (fun _ h => h.elim)⟩
  | true =>
    rw [hb] at hr
    have HR := Lib.hid hr
    cases hk : okQs Q with
    | false =>
      have HK := Lib.hid hk
      have HF := Lib.hid (show fitsQ L A D Q = 2 by unfold fitsQ; rw [hk]; simp)
      clear hr hq hQ hf1 hb1 hW1 hn hk hao hcells
      go_enter Try.func18, Try.ntmps18
      go_wp2_with (first
        | (go_at_call 57; rw [← HW.out.1]; refine HR.out.mono ?_; rintro e w2 ⟨rfl, hf2⟩; (have H2 := Lib.hid (HW.out.2.1.trans hf2 (fun _ h => h.elim))); clear hf2)
        | (go_at_call 36; refine (HQ.out _ H2.out).mono ?_; rintro e w3 ⟨rfl, hf3⟩; rw [HK.out]; (have H3 := Lib.hid (H2.out.trans hf3 (fun _ h => h.elim))); clear hf3))
      go_ret
      exact ⟨by rw [HF.out]; rfl, H3.out⟩
    | true =>
      have HK := Lib.hid hk
      obtain ⟨hall, hn1, hn8⟩ := okQs_iff hk
      rw [← hn] at hn1 hn8
      have HALL := Lib.hid hall
      obtain ⟨l0, a0, d0, rfl, rfl, rfl, hl0, ha0', hd0, hs0⟩ := rightS_yes hb
      have hfit : fitsQ l0 a0 d0 Q = (if 64 * (a0 : Int) < areaOf Q ∨ (d0 : Int) < dataOf Q then 9 else 0) := by
        unfold fitsQ
        rw [if_pos ⟨hb, hk⟩]
      have HF := Lib.hid hfit
      clear hr hq hQ hf1 hb1 hW1 hn hk hall hao hcells hfit
      go_enter Try.func18, Try.ntmps18
      go_wp2_with (first
        | (go_at_call 57; rw [← HW.out.1]; refine HR.out.mono ?_; rintro e w2 ⟨rfl, hf2⟩; (have H2 := Lib.hid (And.intro (HW.out.2.1.trans hf2 (fun _ h => h.elim)) hf2)); clear hf2)
        | (go_at_call 36; refine (HQ.out _ H2.out.1).mono ?_; rintro e w3 ⟨rfl, hf3⟩; rw [HK.out]; (have H3 := Lib.hid (And.intro (H2.out.1.trans hf3 (fun _ h => h.elim)) ((H2.out.2.trans hf3 (fun _ h => h.elim)).heap HW.out.2.2 id))); clear hf3))
      go_loopw [5, 6, 7] (fun av dv iv wr => ∃ (i : Nat), i ≤ n ∧ iv = .int .i64 i ∧ av = .int .i64 (areaOf (Q.take i)) ∧ dv = .int .i64 (dataOf (Q.take i)) ∧ Hid (Fr (fun _ => False) w3 wr)) (fun _ _ iv _ => n - (intOf iv).toNat)
      case atStart => exact ⟨0, by omega, rfl, rfl, rfl, Lib.hid (Fr.refl _ _)⟩
      case round =>
        obtain ⟨i, hi, rfl, rfl, rfl, hf⟩ := hrel
        have hfw := H3.out.1.trans hf.out (fun _ h => h.elim)
        by_cases hlt : i < n
        · have hiL : i < Q.length := by have := HN.out; omega
          obtain ⟨rfl, hFb⟩ := HAO.out (by omega)
          obtain ⟨g0, g1, g2, g3⟩ := HCE.out i hiL
          have k0 := hfw.cell g0 id
          have k1 := hfw.cell g1 id
          have k2 := hfw.cell g2 id
          have k3 := hfw.cell g3 id
          obtain ⟨q, hq⟩ : ∃ q, q = Q[i] := ⟨_, rfl⟩
          rw [← hq] at k0 k1 k2 k3
          have hok := HALL.out _ (List.getElem_mem hiL)
          rw [← hq] at hok
          obtain ⟨⟨ho0, ho1⟩, ⟨hb0, hb1⟩, ⟨hr0, hr1⟩, ⟨hn0, hn1'⟩⟩ := okQ_bounds hok
          have ha := area_le HALL.out i (by omega)
          have hd := data_le HALL.out i (by omega)
          have hst := areaOf_take Q i hiL
          have hsd := dataOf_take Q i hiL
          rw [← hq] at hst hsd
          obtain ⟨X, hX⟩ : ∃ X, X = areaOf (Q.take i) := ⟨_, rfl⟩
          obtain ⟨Y, hY⟩ : ∃ Y, Y = dataOf (Q.take i) := ⟨_, rfl⟩
          rw [← hX] at ha hst ⊢
          rw [← hY] at hd hsd ⊢
          obtain ⟨ha0, ha1⟩ := ha
          obtain ⟨hd0, hd1⟩ := hd
          have hi64 : (i : Int) < (n : Int) := by omega
          obtain ⟨qb, qo, qr, qn⟩ := q
          simp only at k0 k1 k2 k3 ho0 ho1 hb0 hb1 hr0 hr1 hn0 hn1'
          unfold areaQ at hst
          unfold dataQ at hsd
          simp only at hst hsd
          have HST := Lib.hid hst
          have HSD := Lib.hid hsd
          obtain ⟨k, hk⟩ : ∃ k, k = qb / 64 := ⟨_, rfl⟩
          have hk0 : 0 ≤ k := by omega
          have hk1 : k ≤ 614400 := by omega
          have e1 : qb.tdiv 64 = k := by rw [hk, Int.tdiv_eq_ediv_of_nonneg hb0]
          have e2 : qb / 64 = k := hk.symm
          have HKK := Lib.hid e2
          have s1 : IntKind.i64.wrap (X + 100) = X + 100 := wrap_in5 (by omega) (by omega)
          have s2 : IntKind.i64.wrap (2400 * qo) = 2400 * qo := wrap_in5 (by omega) (by omega)
          have s3 : IntKind.i64.wrap (X + 100 + 2400 * qo) = X + 100 + 2400 * qo := wrap_in5 (by omega) (by omega)
          have s4 : IntKind.i64.wrap (100 * qr) = 100 * qr := wrap_in5 (by omega) (by omega)
          have s5 : IntKind.i64.wrap (X + 100 + 2400 * qo + 100 * qr) = X + 100 + 2400 * qo + 100 * qr := wrap_in5 (by omega) (by omega)
          have s6 : IntKind.i64.wrap (2130 * qn) = 2130 * qn := wrap_in5 (by omega) (by omega)
          have s7 : IntKind.i64.wrap (X + 100 + 2400 * qo + 100 * qr + 2130 * qn) = X + 100 + 2400 * qo + 100 * qr + 2130 * qn := wrap_in5 (by omega) (by omega)
          have s8 : IntKind.i64.wrap k = k := wrap_in5 (by omega) (by omega)
          have s9 : IntKind.i64.wrap (Y + k) = Y + k := wrap_in5 (by omega) (by omega)
          have s10 : IntKind.i64.wrap (Y + k + qo) = Y + k + qo := wrap_in5 (by omega) (by omega)
          clear g0 g1 g2 g3 hq hiL hok hst hsd hX hY hk
          go_wp2_with fail
          go_quiet (fail)
          go_wp2_with fail
          go_quiet (fail)
          go_wp2
          go_roundw
          case rel => exact ⟨i + 1, by omega, by go_num, by rw [HST.out]; congr 1; omega, by rw [HSD.out, HKK.out]; congr 1; omega, Lib.hid (hf.out.drewN _)⟩
          case measure => simp [intOf]; omega
        · obtain rfl : i = n := by omega
          have htk : Q.take i = Q := List.take_of_length_le (by rw [← HN.out]; exact Nat.le_refl _)
          have ha := area_le HALL.out i (by have := HN.out; omega)
          have hd := data_le HALL.out i (by have := HN.out; omega)
          rw [htk] at ha hd ⊢
          obtain ⟨X, hX⟩ : ∃ X, X = areaOf Q := ⟨_, rfl⟩
          obtain ⟨Y, hY⟩ : ∃ Y, Y = dataOf Q := ⟨_, rfl⟩
          rw [← hX] at ha ⊢
          rw [← hY] at hd ⊢
          have HF2 := HF.out
          rw [← hX, ← hY] at HF2
          have HF2 := Lib.hid HF2
          have k1 : wr.cell? ⟨w.heap.size, 1, none⟩ = some (.int .i64 a0) := hf.out.cell (cell_of_row _ _ _ _ _ _ H3.out.2) id
          have k2 : wr.cell? ⟨w.heap.size, 2, none⟩ = some (.int .i64 d0) := hf.out.cell (cell_of_row _ _ _ _ _ _ H3.out.2) id
          obtain ⟨ha0, ha1⟩ := ha
          obtain ⟨hd0, hd1⟩ := hd
          have ha64 : (a0 : Int) ≤ 8192 := by omega
          have s1 : IntKind.i64.wrap (64 * (a0 : Int)) = 64 * (a0 : Int) := wrap_in5 (by omega) (by omega)
          have HG := Lib.hid hfw
          clear htk hX hY hf hfw
          by_cases h1 : 64 * (a0 : Int) < X
          · have HE := Lib.hid (show fitsQ l0 a0 d0 Q = 9 by rw [HF2.out, if_pos (.inl h1)])
            go_wp2
            go_ret
            exact ⟨by first | (rw [HE.out]; rfl) | rfl, HG.out⟩
          · by_cases h2 : (d0 : Int) < Y
            · have HE := Lib.hid (show fitsQ l0 a0 d0 Q = 9 by rw [HF2.out, if_pos (.inr h2)])
              go_wp2
              go_ret
              exact ⟨by first | (rw [HE.out]; rfl) | rfl, HG.out⟩
            · have HE := Lib.hid (show fitsQ l0 a0 d0 Q = 0 by rw [HF2.out, if_neg (fun h => h.elim h1 h2)])
              go_wp2
              go_ret
              exact ⟨by first | (rw [HE.out]; rfl) | rfl, HG.out⟩
end
end Go.Proofs.Ytdpaobflknkbkaa
