/- Laid together: VGr2 -/
import Derived.Test.YtdpaobflknkbkaaVe2
import Derived.Test.YtdpaobflknkbkaaVe3
import Derived.Deep.QuietTactic
import Derived.BigQuiet

namespace Go.Proofs.Ytdpaobflknkbkaa
open Go.RowKit Go.ChangeShapes
set_option linter.unusedVariables false
def GreatPost2 (qn : Nat) (l : List DeedD) (w : World) (e : Ending) (w' : World) : Prop :=
  ∃ b, e = .returned (.bool b) ∧ (b = false → l.length ≤ 60 ∧ qn ≤ 50 ∧ ∀ d ∈ l, d.V.length ≤ 6000) ∧ Fr (fun _ => False) w w'
set_option maxRecDepth 100000 in
set_option maxHeartbeats 4000000 in
theorem great2_any {F : Nat → Prop} {v : Value} {l : List DeedD} (w : World) (qa : Option Addr) (qn qc : Nat) (h : DeedsIn F w v l) :
    Calls Try.prog 8 #[.slice qa qn qc, v] w (GreatPost2 qn l w) := by
  obtain ⟨ao, cap, rfl, h1, h2, h4⟩ := h
  obtain ⟨n, hn⟩ : ∃ n, n = l.length := ⟨_, rfl⟩
  have hb : ∃ b off, (0 < n → ao = some ⟨b, off, none⟩) ∧ ∀ i (h : i < l.length), DeedAt F w b (off + i * 25) l[i] := by
    by_cases hl : l = []
    · subst hl
      exact ⟨0, 0, fun h => by simp at hn; omega, fun i h => by simp at h⟩
    · obtain ⟨b, off, ha, hi⟩ := h4 hl
      exact ⟨b, off, fun _ => ha, hi⟩
  obtain ⟨b, off, hao, hi⟩ := hb
  rw [← hn] at h1 h2 ⊢
  have HI := Lib.hid hi
  have HN := Lib.hid hn
  have HAO := Lib.hid hao
  clear hi hn h4 hao
  go_enter Try.func8, Try.ntmps8
  go_wp2_with fail
  go_loopw [5, 6] (fun s i wr => ∃ k t : Nat, k ≤ n ∧ k ≤ 60 ∧ i = .int .i64 k ∧ s = .int .i64 t ∧ t ≤ 2000000000000000 ∧ Hid (Fr (fun _ => False) w wr ∧ ∀ j (hj : j < l.length), j < k → l[j].V.length ≤ t)) (fun _ i _ => n - (intOf i).toNat)
  case atStart => exact ⟨0, 0, by omega, by omega, rfl, rfl, by omega, Lib.hid ⟨Fr.refl _ _, fun _ _ h => absurd h (Nat.not_lt_zero _)⟩⟩
  case round =>
    obtain ⟨k, t, hk, hk60, rfl, rfl, htb, hR⟩ := hrel
    by_cases hlt : k < n
    · by_cases hl60 : k < 60
      · by_cases ht6 : t ≤ 6000
        · have hil : k < l.length := by have := HN.out; omega
          obtain ⟨hw1, hn1, nm, pa, cv, hbyt, hin, hwf, hf1, hf2, hf3⟩ := (HI.out k hil).keep hR.out.1 (fun _ _ _ h => h)
          obtain ⟨ar, cpr, hxr, _⟩ := id hbyt
          rw [hxr] at cv
          have pn := pa 20 (.string l[k].p.n) (by simp [cellsX, l[k].p.hl])
          obtain ⟨r, hr⟩ : ∃ r, r = l[k].V.length := ⟨_, rfl⟩
          obtain ⟨y, hy⟩ : ∃ y, y = l[k].name := ⟨_, rfl⟩
          obtain ⟨z, hz⟩ : ∃ z, z = l[k].p.n := ⟨_, rfl⟩
          have HRK := Lib.hid (show ∀ (a b : Nat) j (hj : j < l.length), j < k + 1 → l[j].V.length ≤ t + a + b + r from fun a b j hj hjk => by
            rcases Nat.lt_succ_iff_lt_or_eq.1 hjk with h9 | h9
            · have := hR.out.2 j hj h9; omega
            · subst h9; omega)
          rw [← hr] at cv hf3
          rw [← hy] at nm hf1
          rw [← hz] at pn hf2
          have hao2 := HAO.out (by omega)
          subst hao2
          obtain ⟨ys, hys⟩ : ∃ ys, ys = y.size := ⟨_, rfl⟩
          obtain ⟨zs, hzs⟩ : ∃ zs, zs = z.size := ⟨_, rfl⟩
          rw [← hys] at hf1
          rw [← hzs] at hf2
          have hys' : y.size = ys := hys.symm
          have hzs' : z.size = zs := hzs.symm
          have d1 : decide ((k : Int) < (n : Int)) = true := by rw [decide_eq_true_iff]; omega
          have d2 : decide ((k : Int) < 60) = true := by rw [decide_eq_true_iff]; omega
          have d2b : decide ((t : Int) ≤ 6000) = true := by rw [decide_eq_true_iff]; omega
          have d3 : (k : Int) < (n : Int) := by omega
          have d4 : (0 : Int) ≤ (k : Int) := by omega
          have s1 : IntKind.i64.wrap ((t : Int) + (ys : Int)) = (t : Int) + (ys : Int) := wrap_in5 (by omega) (by omega)
          have s2 : IntKind.i64.wrap ((t : Int) + (ys : Int) + (zs : Int)) = (t : Int) + (ys : Int) + (zs : Int) := wrap_in5 (by omega) (by omega)
          have s3 : IntKind.i64.wrap ((t : Int) + (ys : Int) + (zs : Int) + (r : Int)) = (t : Int) + (ys : Int) + (zs : Int) + (r : Int) := wrap_in5 (by omega) (by omega)
          clear hw1 hn1 hbyt hin hwf hxr hr hy hz hys hzs pa
          go_wp2_with fail
          go_quiet (fail)
          go_wp2_with fail
          go_roundw
          case rel => exact ⟨k + 1, t + ys + zs + r, by omega, by omega, by go_num, by go_num, by omega, Lib.hid ⟨hR.out.1.trans ((Fr.refl (fun _ => False) wr).drewN _) (fun _ h => h.elim), HRK.out ys zs⟩⟩
          case measure => simp [intOf]; omega
        · have d1 : decide ((k : Int) < (n : Int)) = true := by rw [decide_eq_true_iff]; omega
          have d2 : decide ((k : Int) < 60) = true := by rw [decide_eq_true_iff]; omega
          have d2b : decide ((t : Int) ≤ 6000) = false := by rw [decide_eq_false_iff_not]; omega
          have d2c : decide (6000 < (t : Int)) = true := by rw [decide_eq_true_iff]; omega
          by_cases hn6 : 60 < n
          · have e1 : decide (60 < (n : Int)) = true := by rw [decide_eq_true_iff]; omega
            go_wp2_with fail
            go_ret
            exact ⟨_, rfl, (fun h => by cases h), hR.out.1⟩
          · have e1 : decide (60 < (n : Int)) = false := by rw [decide_eq_false_iff_not]; omega
            go_wp2_with fail
            go_ret
            exact ⟨_, rfl, (fun h => by cases h), hR.out.1⟩
      · have d1 : decide ((k : Int) < (n : Int)) = true := by rw [decide_eq_true_iff]; omega
        have d2 : decide ((k : Int) < 60) = false := by rw [decide_eq_false_iff_not]; omega
        have e1 : decide (60 < (n : Int)) = true := by rw [decide_eq_true_iff]; omega
        go_wp2_with fail
        go_ret
        exact ⟨_, rfl, (fun h => by cases h), hR.out.1⟩
    · have d1 : decide ((k : Int) < (n : Int)) = false := by rw [decide_eq_false_iff_not]; omega
      have e1 : decide (60 < (n : Int)) = false := by rw [decide_eq_false_iff_not]; omega
      by_cases ht6 : t ≤ 6000
      · have e2 : decide (6000 < (t : Int)) = false := by rw [decide_eq_false_iff_not]; omega
        by_cases hq : 50 < qn
        · have e3 : decide (50 < (qn : Int)) = true := by rw [decide_eq_true_iff]; omega
          go_wp2_with fail
          go_ret
          exact ⟨_, rfl, (fun h => by cases h), hR.out.1⟩
        · have e3 : decide (50 < (qn : Int)) = false := by rw [decide_eq_false_iff_not]; omega
          go_wp2_with fail
          go_ret
          exact ⟨_, rfl, fun _ => ⟨by have := HN.out; omega, by omega, fun d hd => by
            obtain ⟨j, hj, rfl⟩ := List.getElem_of_mem hd
            have := hR.out.2 j hj (by have := HN.out; omega)
            omega⟩, hR.out.1⟩
      · have e2 : decide (6000 < (t : Int)) = true := by rw [decide_eq_true_iff]; omega
        go_wp2_with fail
        go_ret
        exact ⟨_, rfl, (fun h => by cases h), hR.out.1⟩
end Go.Proofs.Ytdpaobflknkbkaa
