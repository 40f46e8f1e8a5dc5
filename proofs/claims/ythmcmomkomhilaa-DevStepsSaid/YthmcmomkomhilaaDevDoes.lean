/- Contract: DevDoes. -/
import Derived.Test.YthmcmomkomhilaaSame
namespace Go.Proofs.Ythmcmomkomhilaa
open Go.RowKit Go.ChangeShapes
set_option linter.unusedVariables false

/-- Two new devices. -/
theorem two_new {w0 W w3 w4 : World} {gd gr s : Nat} (hW : Fr (fun _ => False) w0 W) (h3 : DevAt w3 (fun k => W.heap.size ≤ k) gd s (Dv.new s)) (hf3 : Fr (fun _ => False) W w3) (h4 : RefAt w4 (fun k => w3.heap.size ≤ k) gr s (Dv.new s)) (hf4 : Fr (fun _ => False) w3 w4) : Two (fun _ => False) w0 w4 gd gr s (Dv.new s) (Dv.new s) := by
  refine ⟨⟨fun k => W.heap.size ≤ k ∧ k < w3.heap.size, fun k => w3.heap.size ≤ k ∧ k < w4.heap.size, (h3.mono (E := fun k => W.heap.size ≤ k ∧ k < w3.heap.size) (fun k hk h => ⟨h, hk⟩)).keep hf4 (fun _ _ _ h => h), h4.mono (fun k hk h => ⟨h, hk⟩), fun k hk hE => by have := hk.2; have := hE.1; omega, fun k hk => ⟨⟨Nat.le_trans hW.size hk.1, id⟩, Nat.lt_of_lt_of_le hk.2 hf4.size⟩, fun k hk => ⟨⟨Nat.le_trans hW.size (Nat.le_trans hf3.size hk.1), id⟩, hk.2⟩⟩, fun _ h => h.elim, (hW.trans hf3 (fun _ h => h.elim)).trans hf4 (fun _ h => h.elim)⟩
/-- Where DevDoes stands. -/
structure DoAt (w0 wr : World) (gd gr s i : Nat) : Prop where
  ex : ∃ d, Two (fun _ => False) w0 wr gd gr s d d ∧ d.deeds ≤ i ∧ d.waits.length ≤ i
theorem DoAt.fr {w0 wr : World} {gd gr s i : Nat} (h : DoAt w0 wr gd gr s i) : Fr (fun _ => False) w0 wr := by
  obtain ⟨d, h1, _⟩ := h.ex
  exact h1.fr
theorem doStep {G : Nat → Prop} (w0 W : World) (gd gr s i : Nat) (hi : i ≤ 150) (p : DeedD) (hwf : IntOk p.what ∧ IntOk p.n ∧ IntOk p.bit) (hb : BytesIn G W p.x p.B) (hG : ∀ k, G k → k < w0.heap.size) (hl : p.B.length ≤ 100000) (h : DoAt w0 W gd gr s i) :
    Calls Try.prog 11 #[.pointer (some ⟨gd, 0, none⟩), .pointer (some ⟨gr, 0, none⟩), deedV p] W fun r w' => r = .returned (.bool true) ∧ DoAt w0 w' gd gr s (i + 1) := by
  obtain ⟨d, h1, h2, h3⟩ := h.ex
  refine (does_any w0 W gd gr s d p hwf hb hG hl (by omega) (by omega) h1).mono ?_
  rintro e w' ⟨rfl, ⟨d', k1, k2, k3⟩⟩
  exact ⟨rfl, d', k1, by omega, by omega⟩
theorem sameStep (w0 W : World) (gd gr s i : Nat) (hi : i ≤ 151) (h : DoAt w0 W gd gr s i) :
    Calls Try.prog 12 #[.pointer (some ⟨gd, 0, none⟩), .pointer (some ⟨gr, 0, none⟩)] W fun r w' => r = .returned (.bool true) ∧ DoAt w0 w' gd gr s i := by
  obtain ⟨d, h1, h2, h3⟩ := h.ex
  refine (same_dev w0 W gd gr s d (by omega) h1).mono ?_
  rintro e w' ⟨rfl, k1⟩
  exact ⟨rfl, d, k1, h2, h3⟩

set_option maxRecDepth 100000 in
set_option maxHeartbeats 4000000 in
theorem devDoes_any (w : World) (s0 : Int) (hs1 : -9223372036854775808 ≤ s0) (hs2 : s0 ≤ 9223372036854775807) (v : Value) (L : List DeedD) (hL : DeedsIn (fun k => k < w.heap.size) w v L) :
    Calls Try.prog 3 #[.int .i64 s0, v] w fun e w' => e = .returned (.bool true) ∧ Fr (fun _ => False) w w' := by
  have HA := Lib.hid awake_any
  obtain ⟨ao, b, off, n, cp, rfl, ha⟩ := hL.at_
  have HG := Lib.hid (great_any w s0 hL)
  have HD := Lib.hid ha
  have q1 : n ≤ 2932031007317 := by have := ha.le; omega
  clear hL
  cases g : greatB s0 L with
  | true =>
    rw [g] at HG
    go_enter Try.func3, Try.ntmps3
    go_wp2_with (first
      | (go_at_call 7; refine HG.out.mono ?_; rintro e w2 ⟨rfl, rfl⟩)
      | (go_at_call 8; refine (HA.out _).mono ?_; rintro e w1 ⟨rfl, hf⟩; (have HF := Lib.hid hf); clear hf))
    go_ret
    exact ⟨rfl, HF.out⟩
  | false =>
  rw [g] at HG
  have hgn := greatB_not g
  by_cases hs : 1 ≤ s0 ∧ s0 ≤ 8192
  · obtain ⟨s, rfl⟩ : ∃ s : Nat, s0 = s := ⟨s0.toNat, by omega⟩
    have HE := Lib.hid hgn
    have HN1 := Lib.hid (aNew w s (by omega) (by omega))
    have HN2 := Lib.hid (fun W => bNew W s (by omega) (by omega))
    have hn150 : n ≤ 150 := by rw [ha.len]; exact hgn.1.1
    clear hs hgn ha g hs1 hs2
    go_enter Try.func3, Try.ntmps3
    go_wp2_with (first
      | (go_at_call 7; refine HG.out.mono ?_; rintro e w2 ⟨rfl, rfl⟩)
      | (go_at_call 9; refine HN1.out.mono ?_; rintro e w3 ⟨gd, rfl, h3, hf3⟩; (have H3 := Lib.hid (And.intro h3 hf3)); clear h3 hf3)
      | (go_at_call 10; refine (HN2.out _).mono ?_; rintro e w4 ⟨gr, rfl, h4, hf4⟩; (have HS := Lib.hid (show DoAt w w4 gd gr s 0 from ⟨Dv.new s, two_new (Fr.refl _ w) H3.out.1 H3.out.2 h4 hf4, Nat.le_refl _, Nat.le_refl _⟩)); clear h4 hf4))
    go_loopw [9] (fun iv wr => ∃ i : Nat, i ≤ n ∧ iv = .int .i64 i ∧ Hid (DoAt w wr gd gr s i)) (fun iv _ => n - (intOf iv).toNat)
    case atStart => exact ⟨0, by omega, rfl, HS⟩
    case round =>
      clear HS
      obtain ⟨i, hi, rfl, hR⟩ := hrel
      by_cases hlt : i < n
      · have hil : i < L.length := by rw [← HD.out.len]; exact hlt
        have hda := HD.out.keep hR.out.fr (fun _ _ _ h => h)
        have hao := hda.ptr (by omega)
        have he := hda.each i hil
        subst hao
        obtain ⟨p, hp⟩ : ∃ p, p = L[i] := ⟨_, rfl⟩
        rw [← hp] at he
        have hcw := he.what
        have hcn := he.n
        have hct := he.bit
        have hcb := he.cb
        have hle := hda.le
        have hpl : p.B.length ≤ 10000 := HE.out.1.2 p (by rw [hp]; exact List.getElem_mem _)
        have HDO := Lib.hid (doStep w wr gd gr s i (by omega) p he.wf he.bytes (fun _ h => h) (by omega) hR.out)
        have hd : decide ((i : Int) < (n : Int)) = true := by rw [decide_eq_true_iff]; omega
        have hdN : decide (i < n) = true := by rw [decide_eq_true_iff]; omega
        have hkn : (i : Int) < (n : Int) := by omega
        have hi0 : (0 : Int) ≤ (i : Int) := by omega
        have HHI := Lib.hid (show i ≤ 150 by omega)
        clear hda he hp hil hpl hR hi
        go_wp2_with (first
          | (go_at_call 11; refine HDO.out.mono ?_; rintro e w5 ⟨rfl, h5⟩; (have HSM := Lib.hid (sameStep w w5 gd gr s (i + 1) (by have := HHI.out; omega) h5)); clear h5 HDO)
          | (go_at_call 12; refine HSM.out.mono ?_; rintro e w6 ⟨rfl, h6⟩; (have HS6 := Lib.hid h6); clear h6 HSM))
        go_roundw
        case rel => exact ⟨i + 1, by omega, by go_num, HS6⟩
        case measure => simp [intOf]; omega
      · have hd : decide ((i : Int) < (n : Int)) = false := by rw [decide_eq_false_iff_not]; omega
        have hdN : decide (i < n) = false := by rw [decide_eq_false_iff_not]; omega
        have HRR := Lib.hid hR.out.fr
        clear hR
        go_wp2_with (go_at_call 8; refine (HA.out _).mono ?_; rintro e w1 ⟨rfl, hf⟩; (have HF := Lib.hid (HRR.out.trans hf (fun _ h => h.elim))); clear hf)
        go_ret
        exact ⟨rfl, HF.out⟩
  · have HN1 := Lib.hid (dNew_no w s0 hs)
    have HN2 := Lib.hid (rNew_no w s0 hs)
    clear hs hgn ha g hs1 hs2
    by_cases h0 : n = 0
    · subst h0
      go_enter Try.func3, Try.ntmps3
      go_wp2_with (first
        | (go_at_call 7; refine HG.out.mono ?_; rintro e w2 ⟨rfl, rfl⟩)
        | (go_at_call 9; refine HN1.out.mono ?_; rintro e w3 ⟨rfl, rfl⟩)
        | (go_at_call 10; refine HN2.out.mono ?_; rintro e w4 ⟨rfl, rfl⟩))
      refine wp_loop_rounds 1 ?_
      rw [rounds_succ]
      go_wp2_with (go_at_call 8; refine (HA.out _).mono ?_; rintro e w1 ⟨rfl, hf⟩; (have HF := Lib.hid hf); clear hf)
      go_ret
      exact ⟨rfl, HF.out⟩
    · have hd : decide ((0 : Int) < (n : Int)) = true := by rw [decide_eq_true_iff]; omega
      have hdN : decide (0 < n) = true := by rw [decide_eq_true_iff]; omega
      have hkn : (0 : Int) < (n : Int) := by omega
      have hkN : 0 < n := by omega
      go_enter Try.func3, Try.ntmps3
      go_wp2_with (first
        | (go_at_call 7; refine HG.out.mono ?_; rintro e w2 ⟨rfl, rfl⟩)
        | (go_at_call 9; refine HN1.out.mono ?_; rintro e w3 ⟨rfl, rfl⟩)
        | (go_at_call 10; refine HN2.out.mono ?_; rintro e w4 ⟨rfl, rfl⟩))
      refine wp_loop_rounds 1 ?_
      rw [rounds_succ]
      go_wp2_with (go_at_call 8; refine (HA.out _).mono ?_; rintro e w1 ⟨rfl, hf⟩; (have HF := Lib.hid hf); clear hf)
      go_ret
      exact ⟨rfl, HF.out⟩
end Go.Proofs.Ythmcmomkomhilaa
