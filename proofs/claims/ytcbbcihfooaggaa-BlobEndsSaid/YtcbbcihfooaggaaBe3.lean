/- Laid together: RDev3 RDev4 DChosen -/
import Derived.Test.YtcbbcihfooaggaaBe2
import Derived.Deep.MidRow

namespace Go.Proofs.Ytcbbcihfooaggaa
open Go.RowKit Go.ChangeShapes
set_option linter.unusedVariables false
def pendC (p : Pend) (g : Nat) : List Value := [.int .i64 p.1, .slice (some ⟨g, 0, none⟩) 64 64]
def flatW : List Pend → List Nat → List Value
  | p :: W, g :: gs => pendC p g ++ flatW W gs
  | _, _ => []
theorem flatW_get : ∀ (W : List Pend) (gs : List Nat) (i j : Nat) (h : i < W.length) (h2 : i < gs.length) (hj : j < 2), (flatW W gs)[i * 2 + j]? = (pendC W[i] gs[i])[j]?
  | [], _, i, j, h, _, _ => by simp at h
  | p :: W, [], i, j, _, h2, _ => by simp at h2
  | p :: W, g :: gs, 0, j, _, _, hj => by
    rw [flatW, Nat.zero_mul, Nat.zero_add, List.getElem?_append_left (by simpa [pendC] using hj)]
    rfl
  | p :: W, g :: gs, i + 1, j, h, h2, hj => by
    rw [flatW, List.getElem?_append_right (by simp [pendC]; omega), show (pendC p g).length = 2 from rfl, show (i + 1) * 2 + j - 2 = i * 2 + j by omega]
    exact flatW_get W gs i j (by simpa using h) (by simpa using h2) hj
def PendAt (F : Nat → Prop) (w : World) (v : Value) (W : List Pend) : Prop :=
  ∃ gs : List Nat, gs.length = W.length ∧ w.ownsRow 0 107 2 v W.length (flatW W gs) ∧ (∀ g, v.ownBlock = some g → F g) ∧ ∀ i (h : i < W.length) (h2 : i < gs.length), BytT w gs[i] 5 W[i].2 ∧ F gs[i]
theorem PendAt.nil (F : Nat → Prop) (w : World) : PendAt F w (.slice none 0 0) [] := ⟨[], rfl, World.ownsRow_nil _ _ _ _, (fun g h => by simp [Value.ownBlock] at h), fun i h => by simp at h⟩
theorem PendAt.keep {F S : Nat → Prop} {w w' : World} {v : Value} {W : List Pend} (h : PendAt F w v W) (hf : Fr S w w') (hd : ∀ k, k < w.heap.size → F k → ¬ S k) : PendAt F w' v W := by
  obtain ⟨gs, h1, h2, h3, h4⟩ := h
  refine ⟨gs, h1, ⟨h2.1, ?_⟩, h3, fun i hi hi2 => ⟨hf.heap (h4 i hi hi2).1 (hd _ (lt_of_block (h4 i hi hi2).1) (h4 i hi hi2).2), (h4 i hi hi2).2⟩⟩
  rcases h2.2 with e | ⟨g, cap, cur, hv, hb, hg, r⟩
  · exact .inl e
  · exact .inr ⟨g, cap, cur, hv, hb, hf.heap hg (hd g (lt_of_block hg) (h3 g (by rw [hv]; rfl))), r⟩
theorem PendAt.form {F : Nat → Prop} {w : World} {v : Value} {W : List Pend} (h : PendAt F w v W) : ∃ ao cap, v = .slice ao W.length cap ∧ W.length ≤ cap ∧ cap ≤ maxLen := by
  obtain ⟨gs, h1, h2, h3, h4⟩ := h
  rcases h2.2 with ⟨hv, h0⟩ | ⟨g, cap, cur, hv, _, hg, c1, c2, _⟩
  · rw [h0]; exact ⟨none, 0, hv, Nat.le_refl _, by simp [maxLen]⟩
  · exact ⟨_, cap, hv, c1, c2⟩
theorem PendAt.elem {F : Nat → Prop} {w : World} {ao : Option Addr} {n cap : Nat} {W : List Pend} (h : PendAt F w (.slice ao n cap) W) (i : Nat) (hi : i < W.length) :
    ∃ b gb, ao = some ⟨b, 0, none⟩ ∧ F b ∧ w.rangeAt b (i * 2) (pendC W[i] gb) ∧ BytT w gb 5 W[i].2 ∧ F gb := by
  obtain ⟨gs, h1, h2, h3, h4⟩ := h
  have hi2 : i < gs.length := by omega
  rcases h2.2 with ⟨hv, h0⟩ | ⟨g, cap', cur, hv, _, hg, c1, c2, c3, c4⟩
  · omega
  · injection hv with e1 e2 e3
    subst e1
    refine ⟨g, gs[i], rfl, h3 g rfl, fun j u hu => ?_, (h4 i hi hi2).1, (h4 i hi hi2).2⟩
    have hj : j < 2 := by
      have := (List.getElem?_eq_some_iff.1 hu).1
      simpa [pendC] using this
    rw [cell_of_row _ _ _ _ _ _ hg]
    have hx := flatW_get W gs i j hi hi2 hj
    rw [hu, ← c4, List.getElem?_take] at hx
    split at hx
    · rwa [Array.getElem?_toList] at hx
    · cases hx
structure FluAt (F : Nat → Prop) (w wr : World) (g ga m : Nat) (vw : Value) (k l : Int) (L : List UInt8) (Wt : List Pend) (i : Nat) : Prop where
  head : DevH wr g (.slice (some ⟨ga, 0, none⟩) m m) vw k l false
  all : BytT wr ga 5 (wakeL (fun _ => true) 0 (Wt.take i) L)
  pend : PendAt F wr vw Wt
  fr : Fr (fun b => b = g ∨ b = ga) w wr
set_option maxRecDepth 100000 in
set_option maxHeartbeats 4000000 in
theorem rFlush_ok {F : Nat → Prop} (w : World) (g ga s : Nat) (L : List UInt8) (Wt : List Pend) (vw : Value) (k l : Int) (h : DevH w g (.slice (some ⟨ga, 0, none⟩) (64 * s) (64 * s)) vw k l false) (hL : BytT w ga 5 L) (hl : L.length = 64 * s) (hs : s ≤ 8192)
    (hP : PendAt F w vw Wt) (hW : Pends s Wt) (hg : ¬ F g) (hga : ¬ F ga) (hne : g ≠ ga) (hk0 : 0 ≤ k) (hk : k ≤ 1000000000) (hl0 : 0 ≤ l) (hll : l ≤ 9223372036854775807) (hl1 : l ≠ 1) (hn6 : Wt.length ≤ 1000000) :
    Calls Try.prog 55 #[.pointer (some ⟨g, 0, none⟩)] w fun e w' => e = .returned (.int .i64 0) ∧ DevH w' g (.slice (some ⟨ga, 0, none⟩) (64 * s) (64 * s)) (.slice none 0 0) (k + 1) (if l = 0 then 0 else l - 1) false ∧ BytT w' ga 5 (wakeL (fun _ => true) 0 Wt L) ∧ Fr (fun b => b = g ∨ b = ga) w w' := by
  obtain ⟨ao, cap, hvf, hwc, hwm⟩ := hP.form
  subst hvf
  unfold maxLen at hwm
  obtain ⟨n, hn⟩ : ∃ n, n = Wt.length := ⟨_, rfl⟩
  have hd0 := rdeed_any w g (.slice (some ⟨ga, 0, none⟩) (64 * s) (64 * s)) (.slice ao Wt.length cap) k l false hk0 hk hl0 hll h
  rw [decide_eq_true hl1, if_neg hl1, if_neg hl1] at hd0
  have hkp := fun W a gb b vw k l dn (h : DevH W g (.slice (some ⟨ga, 0, none⟩) (64 * s) (64 * s)) vw k l dn) L hL hl hb hbl ha => rkeep_any W g ga gb s a L b vw k l dn h hL hl hb hbl ha hs
  have hwl := fun i => wakeL_length (fun _ => true) s (Wt.take i) 0 L (fun p hp => hW p (List.mem_of_mem_take hp)) hl
  obtain ⟨m, hm⟩ : ∃ m : Nat, m = 64 * s := ⟨_, rfl⟩
  rw [← hm] at h hd0 hkp ⊢
  rw [← hn] at h hd0 hP hn6 hwc
  obtain ⟨l', hl'⟩ : ∃ x : Int, x = if l = 0 then 0 else l - 1 := ⟨_, rfl⟩
  rw [← hl'] at hd0 ⊢
  obtain ⟨_, _, _, _, c4⟩ := h.cells
  have HD := Lib.hid hd0
  have HKP := Lib.hid hkp
  have HN := Lib.hid hn
  have HW := Lib.hid hW
  have HM := Lib.hid hm
  have HWLN := Lib.hid hwl
  have HG := Lib.hid (And.intro hg (And.intro hga hne))
  have HPL := Lib.hid (And.intro hP (And.intro hL h))
  clear hd0 hkp hn hW hm hwl hg hga hne hP hL h hl' hk0 hk hl0 hll hl1 hl hs
  go_enter Try.func55, Try.ntmps55
  go_wp2_with (go_at_call 78; refine HD.out.mono ?_; rintro e w1 ⟨rfl, hh, hf⟩; (have HS := Lib.hid (show FluAt F w w1 g ga m (.slice ao n cap) (k + 1) l' (wakeL (fun _ => true) 0 (Wt.take 0) []) Wt 0 → True from fun _ => trivial)); (have HF0 := Lib.hid (show FluAt F w w1 g ga m (.slice ao n cap) (k + 1) l' _ Wt 0 from ⟨hh, hf.heap HPL.out.2.1 (fun e => HG.out.2.2 e.symm), HPL.out.1.keep hf (fun q _ hq e => HG.out.1 (e ▸ hq)), hf.mono (fun _ _ e => .inl e)⟩)); clear HS hh hf)
  go_loopw [3] (fun iv wr => ∃ i : Nat, i ≤ n ∧ iv = .int .i64 i ∧ Hid (FluAt F w wr g ga m (.slice ao n cap) (k + 1) l' L Wt i)) (fun iv _ => n - (intOf iv).toNat)
  case atStart => exact ⟨0, by omega, rfl, HF0⟩
  case round =>
    clear HF0
    obtain ⟨i, hi, rfl, hR⟩ := hrel
    have hcc := hR.out.head.cells.2.1
    by_cases hlt : i < n
    · have hil : i < Wt.length := by rw [← HN.out]; exact hlt
      obtain ⟨b, gb, rfl, hFb, hrg, hbb, hFg⟩ := hR.out.pend.elem i hil
      obtain ⟨p, hp⟩ : ∃ p, p = Wt[i] := ⟨_, rfl⟩
      rw [← hp] at hrg hbb
      have hpw := HW.out p (by rw [hp]; exact List.getElem_mem _)
      have hst : wakeL (fun _ => true) 0 (Wt.take (i + 1)) L = putSec (wakeL (fun _ => true) 0 (Wt.take i) L) p.1 p.2 := by
        rw [List.take_succ_eq_append_getElem hil, wakeL_snoc, ← hp]
        rfl
      have HST := Lib.hid hst
      have HPC := Lib.hid (HKP.out wr p.1 gb p.2 _ _ _ _ hR.out.head _ hR.out.all (by rw [HWLN.out i]; exact HM.out.symm ▸ rfl) hbb hpw.2 hpw.1)
      obtain ⟨PC, hPC⟩ : ∃ C, C = pendC p gb := ⟨_, rfl⟩
      rw [← hPC] at hrg
      have HPCE := Lib.hid (show PC.toArray = #[.int .i64 p.1, .slice (some ⟨gb, 0, none⟩) 64 64] by rw [hPC]; rfl)
      have hiL : (Try.prog.info? 107).map (·.size) = some PC.length := by rw [hPC]; kernel_rfl
      have hd : decide ((i : Int) < (n : Int)) = true := by rw [decide_eq_true_iff]; omega
      have hkn : (i : Int) < (n : Int) := by omega
      have hi0 : (0 : Int) ≤ (i : Int) := by omega
      clear hil hp hpw hst hPC hbb
      go_wp2_with (first
        | (with_reducible refine wpList_load_mid rfl 107 (.tmp 28) rfl b (i * 2) rfl PC _ hrg Try.underlying107 rfl hiL ?_; rw [HPCE.out])
        | (go_at_call 61; refine HPC.out.mono ?_; rintro e w2 ⟨rfl, hall, hf⟩; (have HN2 := Lib.hid (show FluAt F w w2 g ga m _ (k + 1) l' L Wt (i + 1) from ⟨hR.out.head.keep hf (fun e => HG.out.2.2 e), by rw [HST.out]; exact hall, hR.out.pend.keep hf (fun q _ hq e => HG.out.2.1 (e ▸ hq)), hR.out.fr.trans hf (fun q hq => .inl (.inr hq))⟩)); clear hall hf))
      go_roundw
      case rel => exact ⟨i + 1, by omega, by go_num, HN2⟩
      case measure => simp [intOf]; omega
    · have hkn : i = n := by omega
      have hd : decide ((i : Int) < (n : Int)) = false := by rw [decide_eq_false_iff_not]; omega
      have hf1 := hR.out.head.free 1
      have HALL := Lib.hid (show BytT wr ga 5 (wakeL (fun _ => true) 0 Wt L) by
        have h := hR.out.all
        rwa [List.take_of_length_le (by rw [← HN.out]; omega)] at h)
      clear hkn
      go_wp2_with fail
      go_ret
      exact ⟨rfl, hR.out.head.put1 _, (Fr.cell1 wr g 1 _).heap HALL.out (fun e => HG.out.2.2 e.symm), hR.out.fr.trans (Fr.cell1 wr g 1 _) (fun q hq => .inl (.inl hq))⟩
end Go.Proofs.Ytcbbcihfooaggaa
namespace Go.Proofs.Ytcbbcihfooaggaa
open Go.RowKit Go.ChangeShapes
set_option linter.unusedVariables false
theorem and_one_i64 (x : Int) : bits BinOp.and IntKind.i64 x 1 = x % 2 := by
  have e : (BitVec.ofInt 64 x &&& BitVec.ofInt 64 1).toNat = (x % 18446744073709551616).toNat % 2 := by
    rw [BitVec.toNat_and, BitVec.toNat_ofInt, show (BitVec.ofInt 64 1).toNat = 1 from rfl, Nat.and_one_is_mod]
    rfl
  show IntKind.i64.wrap (((BitVec.ofInt 64 x &&& BitVec.ofInt 64 1).toNat : Nat) : Int) = x % 2
  rw [e]
  simp only [IntKind.bits, IntKind.wrap, IntKind.signed]
  simp
  split <;> omega
theorem bit_tested (keep : Int) (i : Nat) : (bits BinOp.and IntKind.i64 (keep / 2 ^ (i % 62)) 1 == 1) = bitOf keep i := by
  rw [and_one_i64, bitOf, Bool.eq_iff_iff, beq_iff_eq, decide_eq_true_iff]
structure WakAt (F : Nat → Prop) (w wr : World) (g ga m : Nat) (vw : Value) (k l : Int) (keep : Int) (L : List UInt8) (Wt : List Pend) (i : Nat) : Prop where
  head : DevH wr g (.slice (some ⟨ga, 0, none⟩) m m) vw k l true
  all : BytT wr ga 5 (wakeL (bitOf keep) 0 (Wt.take i) L)
  pend : PendAt F wr vw Wt
  fr : Fr (fun b => b = g ∨ b = ga) w wr
set_option maxRecDepth 100000 in
set_option maxHeartbeats 4000000 in
theorem rWake_ok {F : Nat → Prop} (w : World) (g ga s : Nat) (L : List UInt8) (Wt : List Pend) (vw : Value) (k l : Int) (keep : Int) (hkp0 : -9223372036854775808 ≤ keep) (hkp1 : keep ≤ 9223372036854775807) (h : DevH w g (.slice (some ⟨ga, 0, none⟩) (64 * s) (64 * s)) vw k l true) (hL : BytT w ga 5 L) (hl : L.length = 64 * s) (hs : s ≤ 8192)
    (hP : PendAt F w vw Wt) (hW : Pends s Wt) (hg : ¬ F g) (hga : ¬ F ga) (hne : g ≠ ga) (hn6 : Wt.length ≤ 1000000) :
    Calls Try.prog 34 #[.pointer (some ⟨g, 0, none⟩), .int .i64 keep] w fun e w' => e = .returned (.int .i64 0) ∧ DevH w' g (.slice (some ⟨ga, 0, none⟩) (64 * s) (64 * s)) (.slice none 0 0) k 0 false ∧ BytT w' ga 5 (wakeL (bitOf keep) 0 Wt L) ∧ Fr (fun b => b = g ∨ b = ga) w w' := by
  obtain ⟨ao, cap, hvf, hwc, hwm⟩ := hP.form
  subst hvf
  unfold maxLen at hwm
  obtain ⟨n, hn⟩ : ∃ n, n = Wt.length := ⟨_, rfl⟩
  have hkp := fun W a gb b vw k l dn (h : DevH W g (.slice (some ⟨ga, 0, none⟩) (64 * s) (64 * s)) vw k l dn) L hL hl hb hbl ha => rkeep_any W g ga gb s a L b vw k l dn h hL hl hb hbl ha hs
  have hwl := fun i => wakeL_length (bitOf keep) s (Wt.take i) 0 L (fun p hp => hW p (List.mem_of_mem_take hp)) hl
  obtain ⟨m, hm⟩ : ∃ m : Nat, m = 64 * s := ⟨_, rfl⟩
  rw [← hm] at h hkp ⊢
  rw [← hn] at h hP hn6 hwc
  obtain ⟨_, _, _, _, c4⟩ := h.cells
  have HKP := Lib.hid hkp
  have HN := Lib.hid hn
  have HW := Lib.hid hW
  have HM := Lib.hid hm
  have HWLN := Lib.hid hwl
  have HG := Lib.hid (And.intro hg (And.intro hga hne))
  have HPL := Lib.hid (And.intro hP (And.intro hL h))
  clear hkp hn hW hm hwl hg hga hne hP hL h hl hs
  go_enter Try.func34, Try.ntmps34
  have HF0 := Lib.hid (show WakAt F w w g ga m (.slice ao n cap) k l keep L Wt 0 from ⟨HPL.out.2.2, HPL.out.2.1, HPL.out.1, Fr.refl _ _⟩)
  go_wp2_with fail
  go_loopw [5] (fun iv wr => ∃ i : Nat, i ≤ n ∧ iv = .int .i64 i ∧ Hid (WakAt F w wr g ga m (.slice ao n cap) k l keep L Wt i)) (fun iv _ => n - (intOf iv).toNat)
  case atStart => exact ⟨0, by omega, rfl, HF0⟩
  case round =>
    clear HF0
    obtain ⟨i, hi, rfl, hR⟩ := hrel
    obtain ⟨_, hcc, _, hcc3, hcc4⟩ := hR.out.head.cells
    by_cases hlt : i < n
    · have hil : i < Wt.length := by rw [← HN.out]; exact hlt
      obtain ⟨b, gb, rfl, hFb, hrg, hbb, hFg⟩ := hR.out.pend.elem i hil
      obtain ⟨p, hp⟩ : ∃ p, p = Wt[i] := ⟨_, rfl⟩
      rw [← hp] at hrg hbb
      have hpw := HW.out p (by rw [hp]; exact List.getElem_mem _)
      have hst : wakeL (bitOf keep) 0 (Wt.take (i + 1)) L = if bitOf keep i = true then putSec (wakeL (bitOf keep) 0 (Wt.take i) L) p.1 p.2 else wakeL (bitOf keep) 0 (Wt.take i) L := by
        rw [List.take_succ_eq_append_getElem hil, wakeL_snoc, ← hp, Nat.zero_add, List.length_take, Nat.min_eq_left (by omega)]
      have HST := Lib.hid hst
      have HPC := Lib.hid (HKP.out wr p.1 gb p.2 _ _ _ _ hR.out.head _ hR.out.all (by rw [HWLN.out i]; exact HM.out.symm ▸ rfl) hbb hpw.2 hpw.1)
      obtain ⟨PC, hPC⟩ : ∃ C, C = pendC p gb := ⟨_, rfl⟩
      rw [← hPC] at hrg
      have HPCE := Lib.hid (show PC.toArray = #[.int .i64 p.1, .slice (some ⟨gb, 0, none⟩) 64 64] by rw [hPC]; rfl)
      have hiL : (Try.prog.info? 107).map (·.size) = some PC.length := by rw [hPC]; kernel_rfl
      have hd : decide ((i : Int) < (n : Int)) = true := by rw [decide_eq_true_iff]; omega
      have hkn : (i : Int) < (n : Int) := by omega
      have hi0 : (0 : Int) ≤ (i : Int) := by omega
      clear hil hp hpw hst hPC hbb
      have hr : ((i : Int)).tmod 62 = ((i % 62 : Nat) : Int) := rfl
      have hb := bit_tested keep i
      obtain ⟨r, hrr⟩ : ∃ r, r = i % 62 := ⟨_, rfl⟩
      have hr62 : r < 62 := by omega
      rw [← hrr] at hr hb
      clear hrr
      by_cases hbit : bitOf keep i = true
      · have HBIT := Lib.hid hbit
        rw [hbit] at hb
        clear hbit
        go_wp2_with (first
          | (with_reducible refine wpList_load_mid rfl 107 (.tmp 32) rfl b (i * 2) rfl PC _ hrg Try.underlying107 rfl hiL ?_; rw [HPCE.out])
          | (go_at_call 61; refine HPC.out.mono ?_; rintro e w2 ⟨rfl, hall, hf⟩; (have HN2 := Lib.hid (show WakAt F w w2 g ga m _ k l keep L Wt (i + 1) from ⟨hR.out.head.keep hf (fun e => HG.out.2.2 e), by rw [HST.out, if_pos HBIT.out]; exact hall, hR.out.pend.keep hf (fun q _ hq e => HG.out.2.1 (e ▸ hq)), hR.out.fr.trans hf (fun q hq => .inl (.inr hq))⟩)); clear hall hf))
        go_roundw
        case rel => exact ⟨i + 1, by omega, by go_num, HN2⟩
        case measure => simp [intOf]; omega
      · have hbf : bitOf keep i = false := by simpa using hbit
        have HBIT := Lib.hid hbf
        rw [hbf] at hb
        clear hbit hbf
        have HN2 := Lib.hid (show WakAt F w wr g ga m _ k l keep L Wt (i + 1) from ⟨hR.out.head, by rw [HST.out, if_neg (by rw [HBIT.out]; decide)]; exact hR.out.all, hR.out.pend, hR.out.fr⟩)
        go_wp2_with fail
        go_roundw
        case rel => exact ⟨i + 1, by omega, by go_num, HN2⟩
        case measure => simp [intOf]; omega
    · have hkn : i = n := by omega
      have hd : decide ((i : Int) < (n : Int)) = false := by rw [decide_eq_false_iff_not]; omega
      have hf1 := hR.out.head.free 1
      have hf3 := hR.out.head.free 3
      have hf4 := hR.out.head.free 4
      have HALL := Lib.hid (show BytT wr ga 5 (wakeL (bitOf keep) 0 Wt L) by
        have h := hR.out.all
        rwa [List.take_of_length_le (by rw [← HN.out]; omega)] at h)
      clear hkn
      go_wp2_with fail
      go_ret
      exact ⟨rfl, ((hR.out.head.put1 _).put3 0).put4 false, (((Fr.cell1 wr g 1 _).trans (Fr.cell1 _ g 3 _) (fun _ h => .inl h)).trans (Fr.cell1 _ g 4 _) (fun _ h => .inl h)).heap HALL.out (fun e => HG.out.2.2 e.symm), hR.out.fr.trans (((Fr.cell1 wr g 1 _).trans (Fr.cell1 _ g 3 _) (fun _ h => .inl h)).trans (Fr.cell1 _ g 4 _) (fun _ h => .inl h)) (fun q hq => .inl (.inl hq))⟩
theorem rWake_up (w : World) (g : Nat) (va vw : Value) (k l keep : Int) (h : DevH w g va vw k l false) :
    Calls Try.prog 34 #[.pointer (some ⟨g, 0, none⟩), .int .i64 keep] w fun e w' => e = .returned (.int .i64 15) ∧ w = w' := by
  obtain ⟨_, _, _, _, h4⟩ := h.cells
  clear h
  go_enter Try.func34, Try.ntmps34
  go_wp2
  go_ret
  exact ⟨rfl, rfl⟩
theorem rFlush_down (w : World) (g : Nat) (va vw : Value) (k l : Int) (h : DevH w g va vw k l true) :
    Calls Try.prog 55 #[.pointer (some ⟨g, 0, none⟩)] w fun e w' => e = .returned (.int .i64 10) ∧ w = w' := by
  obtain ⟨_, _, _, _, h4⟩ := h.cells
  clear h
  go_enter Try.func55, Try.ntmps55
  go_wp2
  go_ret
  exact ⟨rfl, rfl⟩
theorem rFlush_out (w : World) (g : Nat) (va vw : Value) (k : Int) (hk0 : 0 ≤ k) (hk : k ≤ 1000000000) (h : DevH w g va vw k 1 false) :
    Calls Try.prog 55 #[.pointer (some ⟨g, 0, none⟩)] w fun e w' => e = .returned (.int .i64 10) ∧ DevH w' g va vw k 0 true ∧ Fr (· = g) w w' := by
  obtain ⟨_, _, _, _, h4⟩ := h.cells
  have HD := Lib.hid (rdeed_any w g va vw k 1 false hk0 hk (by decide) (by decide) h)
  clear h hk0 hk
  go_enter Try.func55, Try.ntmps55
  go_wp2_with (go_at_call 78; refine HD.out.mono ?_; rintro e w1 ⟨rfl, hh, hf⟩; (have HS := Lib.hid (And.intro hh hf)); clear hh hf)
  go_ret
  exact ⟨rfl, HS.out.1, HS.out.2⟩
end Go.Proofs.Ytcbbcihfooaggaa
namespace Go.Proofs.Ytcbbcihfooaggaa
open Go.RowKit Go.ChangeShapes
set_option linter.unusedVariables false
attribute [local go_sem] Oper.semAt_some
def pickL {α : Type} (f : Nat → Bool) : Nat → List α → List α
  | _, [] => []
  | i, x :: xs => if f i = true then x :: pickL f (i + 1) xs else pickL f (i + 1) xs
theorem pickL_snoc {α : Type} (f : Nat → Bool) (x : α) : ∀ (xs : List α) (i : Nat), pickL f i (xs ++ [x]) = if f (i + xs.length) = true then pickL f i xs ++ [x] else pickL f i xs
  | [], i => by simp [pickL]
  | y :: xs, i => by
    rw [List.cons_append, pickL, pickL, pickL_snoc f x xs (i + 1), List.length_cons, show i + 1 + xs.length = i + (xs.length + 1) by omega]
    split <;> split <;> simp_all
theorem pickL_le {α : Type} (f : Nat → Bool) : ∀ (xs : List α) (i : Nat), (pickL f i xs).length ≤ xs.length
  | [], i => by simp [pickL]
  | y :: xs, i => by
    have := pickL_le f xs (i + 1)
    rw [pickL]
    split <;> simp <;> omega
theorem pickL_append {α : Type} (f : Nat → Bool) (zs : List α) : ∀ (xs : List α) (i : Nat), pickL f i (xs ++ zs) = pickL f i xs ++ pickL f (i + xs.length) zs
  | [], i => by simp [pickL]
  | y :: xs, i => by
    rw [List.cons_append, pickL, pickL, pickL_append f zs xs (i + 1), List.length_cons, show i + 1 + xs.length = i + (xs.length + 1) by omega]
    split <;> simp
theorem pickL_take {α : Type} (f : Nat → Bool) (xs : List α) (k : Nat) : pickL f 0 (xs.take k) <+: pickL f 0 xs := by
  conv => rhs; rw [← List.take_append_drop k xs]
  rw [pickL_append]
  exact List.prefix_append _ _
def putAll (K : List UInt8) : List Pend → List UInt8
  | [] => K
  | p :: W => putAll (putSec K p.1 p.2) W
theorem putAll_snoc (p : Pend) : ∀ (W : List Pend) (K : List UInt8), putAll K (W ++ [p]) = putSec (putAll K W) p.1 p.2
  | [], K => rfl
  | q :: W, K => by rw [List.cons_append, putAll, putAll, putAll_snoc p W]
theorem wakeL_pick {s : Nat} (f : Nat → Bool) : ∀ (xs : List (PendX s)) (i : Nat) (K : List UInt8), wakeL f i (valsX xs) K = putAll K (valsX (pickL f i xs))
  | [], i, K => rfl
  | x :: xs, i, K => by
    show wakeL f (i + 1) (valsX xs) (if f i = true then putSec K x.1.1 x.1.2 else K) = _
    rw [wakeL_pick f xs (i + 1), pickL]
    split <;> rfl
theorem putAll_length {s : Nat} : ∀ (xs : List (PendX s)) (K : List UInt8), K.length = 64 * s → (putAll K (valsX xs)).length = 64 * s
  | [], K, h => h
  | x :: xs, K, h => putAll_length xs _ (putSec_length K s x.1.1 x.1.2 h x.2.1 x.2.2)
structure ItB (w : World) (F : Nat → Prop) (Bp Bk g : Nat) (vw : Value) (keep : Int) (W : List Pend) : Prop where
  it : ItR w F Bp g vw W
  bits : w.cell? ⟨Bk, 0, none⟩ = some (.int .i64 keep)
theorem ItB.keep {F S : Nat → Prop} {w w' : World} {Bp Bk g : Nat} {vw : Value} {kp : Int} {W : List Pend} (h : ItB w F Bp Bk g vw kp W) (hf : Fr S w w') (h1 : ¬ S Bp) (h4 : ¬ S Bk) (h2 : ¬ S g) (h3 : ∀ k, k < w.heap.size → F k → ¬ S k) : ItB w' F Bp Bk g vw kp W :=
  ⟨h.it.keep hf h1 h2 h3, hf.cell h.bits h4⟩
theorem ItB.alloc {F : Nat → Prop} {w : World} {Bp Bk g : Nat} {vw : Value} {kp : Int} {W : List Pend} (h : ItB w F Bp Bk g vw kp W) (o : Obj) : ItB (w.alloc o) F Bp Bk g vw kp W :=
  h.keep (S := fun _ => False) ((Fr.refl _ _).alloc o) id id id (fun _ _ _ h => h)
set_option maxRecDepth 100000 in
set_option maxHeartbeats 4000000 in
theorem chosen1_in {T F : Nat → Prop} {s : Nat} (n : Nat) (l Bp Bk g : Nat) (keep : Int) (hkp0 : -9223372036854775808 ≤ keep) (hkp1 : keep ≤ 9223372036854775807) (xs : List (PendX s)) (vw : Value) (hn6 : xs.length ≤ 1000000) (hT1 : ¬ T Bp) (hT4 : ¬ T Bk) (hT2 : ¬ T g) (hT3 : ∀ k, F k → ¬ T k) (B0 : Nat) (J Jx : List (PendX s) → World → Prop) (hJ : AbidesFrom B0 J)
    (hY : ∀ pre x W, J pre W → pre.length < xs.length → YieldAt Fence.wide (n - 1) Try.prog l (encsX x) W fun e W' =>
      (e = .returned (.bool true) ∧ J (pre ++ [x]) W' ∧ Fr T W W') ∨ (e = .returned (.bool false) ∧ Jx (pre ++ [x]) W'))
    (W : World) (hR : ItB W F Bp Bk g vw keep (valsX xs)) (h0 : J [] W) :
    CallsIn Fence.wide n Try.prog 83 #[.func (.yield l) #[] #[], .pointer (some ⟨Bp, 0, none⟩), .pointer (some ⟨Bk, 0, none⟩)] W fun e W' => (∃ v, e = .returned v) ∧
      ((∃ ys, ys = pickL (bitOf keep) 0 xs ∧ J ys W') ∨ (∃ pre, pre <+: pickL (bitOf keep) 0 xs ∧ Jx pre W')) := by
  obtain ⟨ao, cap, hvf, hc1, hc2⟩ := hR.it.wr.form
  have hvl : (valsX xs).length = xs.length := by simp [valsX]
  obtain ⟨m, hm⟩ : ∃ m, m = xs.length := ⟨_, rfl⟩
  rw [hvl, ← hm] at hvf
  subst hvf
  rw [← hm] at hn6
  obtain ⟨⟨hbx, hhd, _⟩, hbt⟩ := id hR
  have HR := Lib.hid hR
  have HM := Lib.hid hm
  have HY := Lib.hid hY
  have HJ := Lib.hid hJ
  have HT := Lib.hid (And.intro hT1 (And.intro hT4 (And.intro hT2 hT3)))
  have HL := Lib.hid (valsX_len xs)
  clear hR hm hY hJ hT1 hT2 hT3 hT4 hvl hc1 hc2
  refine callsIn_of_wp Try.func83 rfl trivial ?_ rfl
  simp only [Try.ntmps83, List.size_toArray, List.length_cons, List.length_nil, Nat.reduceAdd, Nat.reduceSub, Array.replicate_succ, Array.replicate_zero, List.push_toArray, List.append_toArray, List.nil_append, List.cons_append]
  gi_wp2
  gi_loopw [11] (fun iv wr => ∃ i : Nat, i ≤ m ∧ iv = .int .i64 i ∧ J (pickL (bitOf keep) 0 (xs.take i)) wr ∧ Hid (ItB wr F Bp Bk g (.slice ao m cap) keep (valsX xs)))
    (fun iv _ => m - (intOf iv).toNat)
  case atStart => exact ⟨0, by omega, rfl, h0, HR⟩
  case round =>
    obtain ⟨i, hi, rfl, hJs, hRr⟩ := hrel
    by_cases hlt : i < m
    · have hrx : i < xs.length := by rw [← HM.out]; exact hlt
      obtain ⟨⟨hb1, hh1, hw1⟩, hbt1⟩ := id hRr.out
      obtain ⟨b, rfl, hFb, hrg⟩ := hw1.elem HL.out i (by simpa [valsX] using hrx)
      have ex : (valsX xs)[i]'(by simpa [valsX] using hrx) = xs[i].1 := by simp [valsX]
      rw [ex] at hrg
      obtain ⟨x, hx⟩ : ∃ x, x = xs[i] := ⟨_, rfl⟩
      rw [← hx] at hrg
      have hst : pickL (bitOf keep) 0 (xs.take (i + 1)) = if bitOf keep i = true then pickL (bitOf keep) 0 (xs.take i) ++ [x] else pickL (bitOf keep) 0 (xs.take i) := by
        rw [List.take_succ_eq_append_getElem hrx, pickL_snoc, ← hx, Nat.zero_add, List.length_take, Nat.min_eq_left (by omega)]
      have HST := Lib.hid hst
      have hxl := x.2.2
      have hd : decide ((i : Int) < (m : Int)) = true := by rw [decide_eq_true_iff]; omega
      have hkn : (i : Int) < (m : Int) := by omega
      have hi0 : (0 : Int) ≤ (i : Int) := by omega
      obtain ⟨C, hC⟩ : ∃ C, C = (wrC x.1).toArray := ⟨_, rfl⟩
      have hCs : C.size = 65 := by rw [hC]; simp [wrC_length _ hxl]
      have hC1 : C.all (·.oneCell') = true := by rw [hC]; exact all_oneCell_toArray (wrC_one _)
      have hz : (Try.prog.info? 123).map (·.size) = some (wrC x.1).length := by rw [wrC_length _ hxl]; kernel_rfl
      have hz2 : (Try.prog.info? 123).map (·.size) = some C.size := by rw [hCs]; kernel_rfl
      have hzs : zWr.size = C.size := by rw [zWr_size, hCs]
      have hzv := zWr_zero
      have HC := Lib.hid hC
      have hr : ((i : Int)).tmod 62 = ((i % 62 : Nat) : Int) := rfl
      have hb := bit_tested keep i
      obtain ⟨r, hrr⟩ : ∃ r, r = i % 62 := ⟨_, rfl⟩
      have hr62 : r < 62 := by omega
      rw [← hrr] at hr hb
      have hJ2 := HJ.out _ _ _ none hJs (World.grownBy_alloc wr (.cells C 123) none) (fun r e => by cases e)
      have HR2 := Lib.hid (hRr.out.alloc (.cells C 123))
      have hbt2 := HR2.out.bits
      have hnb : (wr.alloc (.cells C 123)).heap[wr.heap.size]? = some (.cells C 123 (0, 0)) := heap_alloc_new wr _
      have hn0 : (wr.alloc (.cells C 123)).cell? ⟨wr.heap.size, 0, none⟩ = some (.int .i64 x.1.1) := by
        rw [cell_of_row _ _ _ _ _ _ hnb, hC]; rfl
      have hn1 : (wr.alloc (.cells C 123)).rangeAt wr.heap.size 1 (x.1.2.map bv) := fun j v hv => by
        rw [cell_of_row _ _ _ _ _ _ hnb, hC, List.getElem?_toArray, wrC, show 1 + j = j + 1 by omega, List.getElem?_cons_succ]; exact hv
      have hz3 : (Try.prog.info? 104).map (·.size) = some (x.1.2.map bv).length := by rw [List.length_map, hxl]; kernel_rfl
      clear hrr hst hx hw1 hRr ex hJs hnb hC
      by_cases hbit : bitOf keep i = true
      · obtain ⟨fn, tmps, assign, body, hy, hRd⟩ := HY.out _ x _ hJ2 (Nat.lt_of_le_of_lt (pickL_le _ _ _) (by rw [List.length_take]; omega))
        simp only [encsX] at hy
        have HBIT := Lib.hid hbit
        rw [hbit] at hb
        clear hbit hJ2
        gi_wp2_with (first
          | (with_reducible refine wpListIn_load_mid .out rfl 123 (.tmp 14) rfl b (i * 65) rfl (wrC x.1) _ hrg Try.underlying123 rfl hz ?_; rw [← HC.out])
          | (with_reducible refine wpListIn_store_new .out rfl 123 (.tmp 5) (.tmp 15) rfl C zWr 123 wr rfl rfl rfl hz2 hzs hC1 ?_)
          | (refine wpListIn_load_mid_g .out (by simp [Region.wanted, yielded, Act.put]) 104 (.tmp 26) rfl wr.heap.size 1 rfl (x.1.2.map bv) _ hn1 Try.underlying104 rfl hz3 ?_))
        refine ⟨fun hx => WideF.out.free hx, hRd.mono ?_⟩
        rintro e W3 (⟨rfl, hJ3, hk3⟩ | ⟨rfl, hJx3⟩)
        · have HR3 := Lib.hid (HR2.out.keep (S := T) (w' := W3) hk3 HT.out.1 HT.out.2.1 HT.out.2.2.1 (fun k _ hk => HT.out.2.2.2 k hk))
          gi_wp2
          go_roundw
          case rel => exact ⟨i + 1, by omega, by go_num, by rw [HST.out, if_pos HBIT.out]; exact hJ3, HR3⟩
          case measure => simp [intOf]; omega
        · gi_wp2
          refine bodyPost_ret (results_none rfl _ _ _) rfl ?_
          have hx3 : Jx (pickL (bitOf keep) 0 (xs.take (i + 1))) W3 := by rw [HST.out, if_pos HBIT.out]; exact hJx3
          exact ⟨⟨_, rfl⟩, .inr ⟨_, pickL_take _ _ _, hx3⟩⟩
      · have hbf : bitOf keep i = false := by simpa using hbit
        have HBIT := Lib.hid hbf
        rw [hbf] at hb
        clear hbit hbf
        gi_wp2_with (first
          | (with_reducible refine wpListIn_load_mid .out rfl 123 (.tmp 14) rfl b (i * 65) rfl (wrC x.1) _ hrg Try.underlying123 rfl hz ?_; rw [← HC.out])
          | (with_reducible refine wpListIn_store_new .out rfl 123 (.tmp 5) (.tmp 15) rfl C zWr 123 wr rfl rfl rfl hz2 hzs hC1 ?_))
        refine ⟨fun _ h => (by cases h), ?_⟩
        gi_wp2
        go_roundw
        case rel => exact ⟨i + 1, by omega, by go_num, by rw [HST.out, if_neg (by rw [HBIT.out]; decide)]; exact hJ2, HR2⟩
        case measure => simp [intOf]; omega
    · have hkn : i = m := by omega
      have hd : decide ((i : Int) < (m : Int)) = false := by rw [decide_eq_false_iff_not]; omega
      have HJE := Lib.hid (show J (pickL (bitOf keep) 0 xs) wr by rwa [List.take_of_length_le (by rw [← HM.out]; omega)] at hJs)
      clear hkn hJs
      gi_wp2
      go_end0
      exact ⟨⟨_, rfl⟩, .inl ⟨_, rfl, HJE.out⟩⟩
theorem chosen_any (w : World) (g : Nat) (keep : Int) :
    Calls Try.prog 80 #[.pointer (some ⟨g, 0, none⟩), .int .i64 keep] w fun e w' => e = .returned (.func (.func 83) #[] #[.pointer (some ⟨w.heap.size, 0, none⟩), .pointer (some ⟨w.heap.size + 1, 0, none⟩)]) ∧ w' = (w.alloc (.cells #[.pointer (some ⟨g, 0, none⟩)] 121)).alloc (.cells #[.int .i64 keep] 3) := by
  go_enter Try.func80, Try.ntmps80
  go_wp2
  go_ret
  exact ⟨rfl, rfl⟩
theorem ItB.below {w W : World} {F : Nat → Prop} {Bp Bk g : Nat} {vw : Value} {kp : Int} {V : List Pend} (h : ItB w F Bp Bk g vw kp V) (hb : Below w.heap.size w W) : ItB W F Bp Bk g vw kp V := by
  have h1 : Bk < w.heap.size := World.block_lt_of_cell? _ _ h.bits
  exact ⟨h.it.below hb, (Fr.ofBelow hb).cell h.bits (fun h => by have h : w.heap.size ≤ Bk := h; omega)⟩
theorem chosen_stops {T F : Nat → Prop} {s : Nat} (n Bp Bk g : Nat) (keep : Int) (hkp0 : -9223372036854775808 ≤ keep) (hkp1 : keep ≤ 9223372036854775807) (xs : List (PendX s)) (vw : Value) (hn6 : xs.length ≤ 1000000) (hT1 : ¬ T Bp) (hT4 : ¬ T Bk) (hT2 : ¬ T g) (hT3 : ∀ k, F k → ¬ T k) (w : World) (hR : ItB w F Bp Bk g vw keep (valsX xs)) :
    SeqStopsK Fence.wide n Try.prog 83 #[.pointer (some ⟨Bp, 0, none⟩), .pointer (some ⟨Bk, 0, none⟩)] encsX (Fr T) (fun ys => ys = pickL (bitOf keep) 0 xs) (fun pre => pre <+: pickL (bitOf keep) 0 xs) xs.length w :=
  fun l J Jx W hW hJ hJx hY h0 => chosen1_in n l Bp Bk g keep hkp0 hkp1 xs vw hn6 hT1 hT4 hT2 hT3 _ J Jx hJ hY W (hR.below hW) h0
end Go.Proofs.Ytcbbcihfooaggaa
