/- The document's own device: Wake; Flush where the fuse is out, or it is down. -/
import Derived.Test.YthmcmomkomhilaaRDev3
namespace Go.Proofs.Ythmcmomkomhilaa
open Go.RowKit Go.ChangeShapes
set_option linter.unusedVariables false

theorem and_one_i64 (x : Int) : bits BinOp.and IntKind.i64 x 1 = x % 2 := by
  have e : (BitVec.ofInt 64 x &&& BitVec.ofInt 64 1).toNat = (x % 18446744073709551616).toNat % 2 := by
    rw [BitVec.toNat_and, BitVec.toNat_ofInt, show (BitVec.ofInt 64 1).toNat = 1 from rfl, Nat.and_one_is_mod]
    rfl
  show IntKind.i64.wrap (((BitVec.ofInt 64 x &&& BitVec.ofInt 64 1).toNat : Nat) : Int) = x % 2
  rw [e]
  simp only [IntKind.bits, IntKind.wrap, IntKind.signed]
  simp
  split <;> omega
theorem bit_tested (keep : Int) (i : Nat) : (bits BinOp.and IntKind.i64 (keep / 2 ^ (i % 62)) 1 == 1) = bitOf keep i := by
  rw [and_one_i64, bitOf, Bool.eq_iff_iff, beq_iff_eq, decide_eq_true_iff]
/-- Where Wake stands, i of the pending writes kept. -/
structure WakAt (F : Nat → Prop) (w wr : World) (g ga m : Nat) (vw : Value) (k l : Int) (keep : Int) (L : List UInt8) (Wt : List Pend) (i : Nat) : Prop where
  head : DevH wr g (.slice (some ⟨ga, 0, none⟩) m m) vw k l true
  all : BytT wr ga 5 (wakeL (bitOf keep) 0 (Wt.take i) L)
  pend : PendAt F wr vw Wt
  fr : Fr (fun b => b = g ∨ b = ga) w wr

set_option maxRecDepth 100000 in
set_option maxHeartbeats 4000000 in
theorem rWake_ok {F : Nat → Prop} (w : World) (g ga s : Nat) (L : List UInt8) (Wt : List Pend) (vw : Value) (k l : Int) (keep : Int) (hkp0 : -9223372036854775808 ≤ keep) (hkp1 : keep ≤ 9223372036854775807) (h : DevH w g (.slice (some ⟨ga, 0, none⟩) (64 * s) (64 * s)) vw k l true) (hL : BytT w ga 5 L) (hl : L.length = 64 * s) (hs : s ≤ 8192)
    (hP : PendAt F w vw Wt) (hW : Pends s Wt) (hg : ¬ F g) (hga : ¬ F ga) (hne : g ≠ ga) (hn6 : Wt.length ≤ 1000000) :
    Calls Try.prog 33 #[.pointer (some ⟨g, 0, none⟩), .int .i64 keep] w fun e w' => e = .returned (.int .i64 0) ∧ DevH w' g (.slice (some ⟨ga, 0, none⟩) (64 * s) (64 * s)) (.slice none 0 0) k 0 false ∧ BytT w' ga 5 (wakeL (bitOf keep) 0 Wt L) ∧ Fr (fun b => b = g ∨ b = ga) w w' := by
  obtain ⟨ao, cap, hvf, hwc, hwm⟩ := hP.form
  subst hvf
  unfold maxLen at hwm
  obtain ⟨n, hn⟩ : ∃ n, n = Wt.length := ⟨_, rfl⟩
  have hkp := fun W a gb b vw k l dn (h : DevH W g (.slice (some ⟨ga, 0, none⟩) (64 * s) (64 * s)) vw k l dn) L hL hl hb hbl ha => rkeep_any W g ga gb s a L b vw k l dn h hL hl hb hbl ha hs
  have hwl := fun i => wakeL_length (bitOf keep) s (Wt.take i) 0 L (fun p hp => hW p (List.mem_of_mem_take hp)) hl
  obtain ⟨m, hm⟩ : ∃ m : Nat, m = 64 * s := ⟨_, rfl⟩
  rw [← hm] at h hkp ⊢
  rw [← hn] at h hP hn6 hwc
  obtain ⟨_, _, _, _, c4⟩ := h.cells
  have HKP := Lib.hid hkp
  have HN := Lib.hid hn
  have HW := Lib.hid hW
  have HM := Lib.hid hm
  have HWLN := Lib.hid hwl
  have HG := Lib.hid (And.intro hg (And.intro hga hne))
  have HPL := Lib.hid (And.intro hP (And.intro hL h))
  clear hkp hn hW hm hwl hg hga hne hP hL h hl hs
  go_enter Try.func33, Try.ntmps33
  have HF0 := Lib.hid (show WakAt F w w g ga m (.slice ao n cap) k l keep L Wt 0 from ⟨HPL.out.2.2, HPL.out.2.1, HPL.out.1, Fr.refl _ _⟩)
  go_wp2_with fail
  go_loopw [5] (fun iv wr => ∃ i : Nat, i ≤ n ∧ iv = .int .i64 i ∧ Hid (WakAt F w wr g ga m (.slice ao n cap) k l keep L Wt i)) (fun iv _ => n - (intOf iv).toNat)
  case atStart => exact ⟨0, by omega, rfl, HF0⟩
  case round =>
    clear HF0
    obtain ⟨i, hi, rfl, hR⟩ := hrel
    obtain ⟨_, hcc, _, hcc3, hcc4⟩ := hR.out.head.cells
    by_cases hlt : i < n
    · have hil : i < Wt.length := by rw [← HN.out]; exact hlt
      obtain ⟨b, gb, rfl, hFb, hrg, hbb, hFg⟩ := hR.out.pend.elem i hil
      obtain ⟨p, hp⟩ : ∃ p, p = Wt[i] := ⟨_, rfl⟩
      rw [← hp] at hrg hbb
      have hpw := HW.out p (by rw [hp]; exact List.getElem_mem _)
      have hst : wakeL (bitOf keep) 0 (Wt.take (i + 1)) L = if bitOf keep i = true then putSec (wakeL (bitOf keep) 0 (Wt.take i) L) p.1 p.2 else wakeL (bitOf keep) 0 (Wt.take i) L := by
        rw [List.take_succ_eq_append_getElem hil, wakeL_snoc, ← hp, Nat.zero_add, List.length_take, Nat.min_eq_left (by omega)]
      have HST := Lib.hid hst
      have HPC := Lib.hid (HKP.out wr p.1 gb p.2 _ _ _ _ hR.out.head _ hR.out.all (by rw [HWLN.out i]; exact HM.out.symm ▸ rfl) hbb hpw.2 hpw.1)
      obtain ⟨PC, hPC⟩ : ∃ C, C = pendC p gb := ⟨_, rfl⟩
      rw [← hPC] at hrg
      have HPCE := Lib.hid (show PC.toArray = #[.int .i64 p.1, .slice (some ⟨gb, 0, none⟩) 64 64] by rw [hPC]; rfl)
      have hiL : (Try.prog.info? 73).map (·.size) = some PC.length := by rw [hPC]; kernel_rfl
      have hd : decide ((i : Int) < (n : Int)) = true := by rw [decide_eq_true_iff]; omega
      have hkn : (i : Int) < (n : Int) := by omega
      have hi0 : (0 : Int) ≤ (i : Int) := by omega
      clear hil hp hpw hst hPC hbb
      have hr : ((i : Int)).tmod 62 = ((i % 62 : Nat) : Int) := rfl
      have hb := bit_tested keep i
      obtain ⟨r, hrr⟩ : ∃ r, r = i % 62 := ⟨_, rfl⟩
      have hr62 : r < 62 := by omega
      rw [← hrr] at hr hb
      clear hrr
      by_cases hbit : bitOf keep i = true
      · have HBIT := Lib.hid hbit
        rw [hbit] at hb
        clear hbit
        go_wp2_with (first
          | (with_reducible refine wpList_load_mid rfl 73 (.tmp 32) rfl b (i * 2) rfl PC _ hrg Try.underlying73 rfl hiL ?_; rw [HPCE.out])
          | (go_at_call 49; refine HPC.out.mono ?_; rintro e w2 ⟨rfl, hall, hf⟩; (have HN2 := Lib.hid (show WakAt F w w2 g ga m _ k l keep L Wt (i + 1) from ⟨hR.out.head.keep hf (fun e => HG.out.2.2 e), by rw [HST.out, if_pos HBIT.out]; exact hall, hR.out.pend.keep hf (fun q _ hq e => HG.out.2.1 (e ▸ hq)), hR.out.fr.trans hf (fun q hq => .inl (.inr hq))⟩)); clear hall hf))
        go_roundw
        case rel => exact ⟨i + 1, by omega, by go_num, HN2⟩
        case measure => simp [intOf]; omega
      · have hbf : bitOf keep i = false := by simpa using hbit
        have HBIT := Lib.hid hbf
        rw [hbf] at hb
        clear hbit hbf
        have HN2 := Lib.hid (show WakAt F w wr g ga m _ k l keep L Wt (i + 1) from ⟨hR.out.head, by rw [HST.out, if_neg (by rw [HBIT.out]; decide)]; exact hR.out.all, hR.out.pend, hR.out.fr⟩)
        go_wp2_with fail
        go_roundw
        case rel => exact ⟨i + 1, by omega, by go_num, HN2⟩
        case measure => simp [intOf]; omega
    · have hkn : i = n := by omega
      have hd : decide ((i : Int) < (n : Int)) = false := by rw [decide_eq_false_iff_not]; omega
      have hf1 := hR.out.head.free 1
      have hf3 := hR.out.head.free 3
      have hf4 := hR.out.head.free 4
      have HALL := Lib.hid (show BytT wr ga 5 (wakeL (bitOf keep) 0 Wt L) by
        have h := hR.out.all
        rwa [List.take_of_length_le (by rw [← HN.out]; omega)] at h)
      clear hkn
      go_wp2_with fail
      go_ret
      exact ⟨rfl, ((hR.out.head.put1 _).put3 0).put4 false, (((Fr.cell1 wr g 1 _).trans (Fr.cell1 _ g 3 _) (fun _ h => .inl h)).trans (Fr.cell1 _ g 4 _) (fun _ h => .inl h)).heap HALL.out (fun e => HG.out.2.2 e.symm), hR.out.fr.trans (((Fr.cell1 wr g 1 _).trans (Fr.cell1 _ g 3 _) (fun _ h => .inl h)).trans (Fr.cell1 _ g 4 _) (fun _ h => .inl h)) (fun q hq => .inl (.inl hq))⟩
theorem rWake_up (w : World) (g : Nat) (va vw : Value) (k l keep : Int) (h : DevH w g va vw k l false) :
    Calls Try.prog 33 #[.pointer (some ⟨g, 0, none⟩), .int .i64 keep] w fun e w' => e = .returned (.int .i64 15) ∧ w = w' := by
  obtain ⟨_, _, _, _, h4⟩ := h.cells
  clear h
  go_enter Try.func33, Try.ntmps33
  go_wp2
  go_ret
  exact ⟨rfl, rfl⟩
theorem rFlush_down (w : World) (g : Nat) (va vw : Value) (k l : Int) (h : DevH w g va vw k l true) :
    Calls Try.prog 30 #[.pointer (some ⟨g, 0, none⟩)] w fun e w' => e = .returned (.int .i64 10) ∧ w = w' := by
  obtain ⟨_, _, _, _, h4⟩ := h.cells
  clear h
  go_enter Try.func30, Try.ntmps30
  go_wp2
  go_ret
  exact ⟨rfl, rfl⟩
theorem rFlush_out (w : World) (g : Nat) (va vw : Value) (k : Int) (hk0 : 0 ≤ k) (hk : k ≤ 1000000000) (h : DevH w g va vw k 1 false) :
    Calls Try.prog 30 #[.pointer (some ⟨g, 0, none⟩)] w fun e w' => e = .returned (.int .i64 10) ∧ DevH w' g va vw k 0 true ∧ Fr (· = g) w w' := by
  obtain ⟨_, _, _, _, h4⟩ := h.cells
  have HD := Lib.hid (rdeed_any w g va vw k 1 false hk0 hk (by decide) (by decide) h)
  clear h hk0 hk
  go_enter Try.func30, Try.ntmps30
  go_wp2_with (go_at_call 48; refine HD.out.mono ?_; rintro e w1 ⟨rfl, hh, hf⟩; (have HS := Lib.hid (And.intro hh hf)); clear hh hf)
  go_ret
  exact ⟨rfl, HS.out.1, HS.out.2⟩
end Go.Proofs.Ythmcmomkomhilaa
