/- The document's own device: pending writes in memory; Flush. -/
import Derived.Test.YthmcmomkomhilaaRDev2
import Derived.Deep.MidRow
namespace Go.Proofs.Ythmcmomkomhilaa
open Go.RowKit Go.ChangeShapes
set_option linter.unusedVariables false

/-- A pending write's two cells: the sector's number, the slice of its bytes' block. -/
def pendC (p : Pend) (g : Nat) : List Value := [.int .i64 p.1, .slice (some ⟨g, 0, none⟩) 64 64]
def flatW : List Pend → List Nat → List Value
  | p :: W, g :: gs => pendC p g ++ flatW W gs
  | _, _ => []
theorem flatW_get : ∀ (W : List Pend) (gs : List Nat) (i j : Nat) (h : i < W.length) (h2 : i < gs.length) (hj : j < 2), (flatW W gs)[i * 2 + j]? = (pendC W[i] gs[i])[j]?
  | [], _, i, j, h, _, _ => by simp at h
  | p :: W, [], i, j, _, h2, _ => by simp at h2
  | p :: W, g :: gs, 0, j, _, _, hj => by
    rw [flatW, Nat.zero_mul, Nat.zero_add, List.getElem?_append_left (by simpa [pendC] using hj)]
    rfl
  | p :: W, g :: gs, i + 1, j, h, h2, hj => by
    rw [flatW, List.getElem?_append_right (by simp [pendC]; omega), show (pendC p g).length = 2 from rfl, show (i + 1) * 2 + j - 2 = i * 2 + j by omega]
    exact flatW_get W gs i j (by simpa using h) (by simpa using h2) hj
/-- A slice of pending writes that the device owns, in blocks of F; each one's bytes in a block of their own. -/
def PendAt (F : Nat → Prop) (w : World) (v : Value) (W : List Pend) : Prop :=
  ∃ gs : List Nat, gs.length = W.length ∧ w.ownsRow 0 73 2 v W.length (flatW W gs) ∧ (∀ g, v.ownBlock = some g → F g) ∧ ∀ i (h : i < W.length) (h2 : i < gs.length), BytT w gs[i] 5 W[i].2 ∧ F gs[i]
theorem PendAt.nil (F : Nat → Prop) (w : World) : PendAt F w (.slice none 0 0) [] := ⟨[], rfl, World.ownsRow_nil _ _ _ _, (fun g h => by simp [Value.ownBlock] at h), fun i h => by simp at h⟩
theorem PendAt.keep {F S : Nat → Prop} {w w' : World} {v : Value} {W : List Pend} (h : PendAt F w v W) (hf : Fr S w w') (hd : ∀ k, k < w.heap.size → F k → ¬ S k) : PendAt F w' v W := by
  obtain ⟨gs, h1, h2, h3, h4⟩ := h
  refine ⟨gs, h1, ⟨h2.1, ?_⟩, h3, fun i hi hi2 => ⟨hf.heap (h4 i hi hi2).1 (hd _ (lt_of_block (h4 i hi hi2).1) (h4 i hi hi2).2), (h4 i hi hi2).2⟩⟩
  rcases h2.2 with e | ⟨g, cap, cur, hv, hb, hg, r⟩
  · exact .inl e
  · exact .inr ⟨g, cap, cur, hv, hb, hf.heap hg (hd g (lt_of_block hg) (h3 g (by rw [hv]; rfl))), r⟩
theorem PendAt.form {F : Nat → Prop} {w : World} {v : Value} {W : List Pend} (h : PendAt F w v W) : ∃ ao cap, v = .slice ao W.length cap ∧ W.length ≤ cap ∧ cap ≤ maxLen := by
  obtain ⟨gs, h1, h2, h3, h4⟩ := h
  rcases h2.2 with ⟨hv, h0⟩ | ⟨g, cap, cur, hv, _, hg, c1, c2, _⟩
  · rw [h0]; exact ⟨none, 0, hv, Nat.le_refl _, by simp [maxLen]⟩
  · exact ⟨_, cap, hv, c1, c2⟩
/-- One of them. -/
theorem PendAt.elem {F : Nat → Prop} {w : World} {ao : Option Addr} {n cap : Nat} {W : List Pend} (h : PendAt F w (.slice ao n cap) W) (i : Nat) (hi : i < W.length) :
    ∃ b gb, ao = some ⟨b, 0, none⟩ ∧ F b ∧ w.rangeAt b (i * 2) (pendC W[i] gb) ∧ BytT w gb 5 W[i].2 ∧ F gb := by
  obtain ⟨gs, h1, h2, h3, h4⟩ := h
  have hi2 : i < gs.length := by omega
  rcases h2.2 with ⟨hv, h0⟩ | ⟨g, cap', cur, hv, _, hg, c1, c2, c3, c4⟩
  · omega
  · injection hv with e1 e2 e3
    subst e1
    refine ⟨g, gs[i], rfl, h3 g rfl, fun j u hu => ?_, (h4 i hi hi2).1, (h4 i hi hi2).2⟩
    have hj : j < 2 := by
      have := (List.getElem?_eq_some_iff.1 hu).1
      simpa [pendC] using this
    rw [cell_of_row _ _ _ _ _ _ hg]
    have hx := flatW_get W gs i j hi hi2 hj
    rw [hu, ← c4, List.getElem?_take] at hx
    split at hx
    · rwa [Array.getElem?_toList] at hx
    · cases hx
/-- Where Flush stands, i of the pending writes kept. -/
structure FluAt (F : Nat → Prop) (w wr : World) (g ga m : Nat) (vw : Value) (k l : Int) (L : List UInt8) (Wt : List Pend) (i : Nat) : Prop where
  head : DevH wr g (.slice (some ⟨ga, 0, none⟩) m m) vw k l false
  all : BytT wr ga 5 (wakeL (fun _ => true) 0 (Wt.take i) L)
  pend : PendAt F wr vw Wt
  fr : Fr (fun b => b = g ∨ b = ga) w wr

set_option maxRecDepth 100000 in
set_option maxHeartbeats 4000000 in
theorem rFlush_ok {F : Nat → Prop} (w : World) (g ga s : Nat) (L : List UInt8) (Wt : List Pend) (vw : Value) (k l : Int) (h : DevH w g (.slice (some ⟨ga, 0, none⟩) (64 * s) (64 * s)) vw k l false) (hL : BytT w ga 5 L) (hl : L.length = 64 * s) (hs : s ≤ 8192)
    (hP : PendAt F w vw Wt) (hW : Pends s Wt) (hg : ¬ F g) (hga : ¬ F ga) (hne : g ≠ ga) (hk0 : 0 ≤ k) (hk : k ≤ 1000000000) (hl0 : 0 ≤ l) (hll : l ≤ 9223372036854775807) (hl1 : l ≠ 1) (hn6 : Wt.length ≤ 1000000) :
    Calls Try.prog 30 #[.pointer (some ⟨g, 0, none⟩)] w fun e w' => e = .returned (.int .i64 0) ∧ DevH w' g (.slice (some ⟨ga, 0, none⟩) (64 * s) (64 * s)) (.slice none 0 0) (k + 1) (if l = 0 then 0 else l - 1) false ∧ BytT w' ga 5 (wakeL (fun _ => true) 0 Wt L) ∧ Fr (fun b => b = g ∨ b = ga) w w' := by
  obtain ⟨ao, cap, hvf, hwc, hwm⟩ := hP.form
  subst hvf
  unfold maxLen at hwm
  obtain ⟨n, hn⟩ : ∃ n, n = Wt.length := ⟨_, rfl⟩
  have hd0 := rdeed_any w g (.slice (some ⟨ga, 0, none⟩) (64 * s) (64 * s)) (.slice ao Wt.length cap) k l false hk0 hk hl0 hll h
  rw [decide_eq_true hl1, if_neg hl1, if_neg hl1] at hd0
  have hkp := fun W a gb b vw k l dn (h : DevH W g (.slice (some ⟨ga, 0, none⟩) (64 * s) (64 * s)) vw k l dn) L hL hl hb hbl ha => rkeep_any W g ga gb s a L b vw k l dn h hL hl hb hbl ha hs
  have hwl := fun i => wakeL_length (fun _ => true) s (Wt.take i) 0 L (fun p hp => hW p (List.mem_of_mem_take hp)) hl
  obtain ⟨m, hm⟩ : ∃ m : Nat, m = 64 * s := ⟨_, rfl⟩
  rw [← hm] at h hd0 hkp ⊢
  rw [← hn] at h hd0 hP hn6 hwc
  obtain ⟨l', hl'⟩ : ∃ x : Int, x = if l = 0 then 0 else l - 1 := ⟨_, rfl⟩
  rw [← hl'] at hd0 ⊢
  obtain ⟨_, _, _, _, c4⟩ := h.cells
  have HD := Lib.hid hd0
  have HKP := Lib.hid hkp
  have HN := Lib.hid hn
  have HW := Lib.hid hW
  have HM := Lib.hid hm
  have HWLN := Lib.hid hwl
  have HG := Lib.hid (And.intro hg (And.intro hga hne))
  have HPL := Lib.hid (And.intro hP (And.intro hL h))
  clear hd0 hkp hn hW hm hwl hg hga hne hP hL h hl' hk0 hk hl0 hll hl1 hl hs
  go_enter Try.func30, Try.ntmps30
  go_wp2_with (go_at_call 48; refine HD.out.mono ?_; rintro e w1 ⟨rfl, hh, hf⟩; (have HS := Lib.hid (show FluAt F w w1 g ga m (.slice ao n cap) (k + 1) l' (wakeL (fun _ => true) 0 (Wt.take 0) []) Wt 0 → True from fun _ => trivial)); (have HF0 := Lib.hid (show FluAt F w w1 g ga m (.slice ao n cap) (k + 1) l' _ Wt 0 from ⟨hh, hf.heap HPL.out.2.1 (fun e => HG.out.2.2 e.symm), HPL.out.1.keep hf (fun q _ hq e => HG.out.1 (e ▸ hq)), hf.mono (fun _ _ e => .inl e)⟩)); clear HS hh hf)
  go_loopw [3] (fun iv wr => ∃ i : Nat, i ≤ n ∧ iv = .int .i64 i ∧ Hid (FluAt F w wr g ga m (.slice ao n cap) (k + 1) l' L Wt i)) (fun iv _ => n - (intOf iv).toNat)
  case atStart => exact ⟨0, by omega, rfl, HF0⟩
  case round =>
    clear HF0
    obtain ⟨i, hi, rfl, hR⟩ := hrel
    have hcc := hR.out.head.cells.2.1
    by_cases hlt : i < n
    · have hil : i < Wt.length := by rw [← HN.out]; exact hlt
      obtain ⟨b, gb, rfl, hFb, hrg, hbb, hFg⟩ := hR.out.pend.elem i hil
      obtain ⟨p, hp⟩ : ∃ p, p = Wt[i] := ⟨_, rfl⟩
      rw [← hp] at hrg hbb
      have hpw := HW.out p (by rw [hp]; exact List.getElem_mem _)
      have hst : wakeL (fun _ => true) 0 (Wt.take (i + 1)) L = putSec (wakeL (fun _ => true) 0 (Wt.take i) L) p.1 p.2 := by
        rw [List.take_succ_eq_append_getElem hil, wakeL_snoc, ← hp]
        rfl
      have HST := Lib.hid hst
      have HPC := Lib.hid (HKP.out wr p.1 gb p.2 _ _ _ _ hR.out.head _ hR.out.all (by rw [HWLN.out i]; exact HM.out.symm ▸ rfl) hbb hpw.2 hpw.1)
      obtain ⟨PC, hPC⟩ : ∃ C, C = pendC p gb := ⟨_, rfl⟩
      rw [← hPC] at hrg
      have HPCE := Lib.hid (show PC.toArray = #[.int .i64 p.1, .slice (some ⟨gb, 0, none⟩) 64 64] by rw [hPC]; rfl)
      have hiL : (Try.prog.info? 73).map (·.size) = some PC.length := by rw [hPC]; kernel_rfl
      have hd : decide ((i : Int) < (n : Int)) = true := by rw [decide_eq_true_iff]; omega
      have hkn : (i : Int) < (n : Int) := by omega
      have hi0 : (0 : Int) ≤ (i : Int) := by omega
      clear hil hp hpw hst hPC hbb
      go_wp2_with (first
        | (with_reducible refine wpList_load_mid rfl 73 (.tmp 28) rfl b (i * 2) rfl PC _ hrg Try.underlying73 rfl hiL ?_; rw [HPCE.out])
        | (go_at_call 49; refine HPC.out.mono ?_; rintro e w2 ⟨rfl, hall, hf⟩; (have HN2 := Lib.hid (show FluAt F w w2 g ga m _ (k + 1) l' L Wt (i + 1) from ⟨hR.out.head.keep hf (fun e => HG.out.2.2 e), by rw [HST.out]; exact hall, hR.out.pend.keep hf (fun q _ hq e => HG.out.2.1 (e ▸ hq)), hR.out.fr.trans hf (fun q hq => .inl (.inr hq))⟩)); clear hall hf))
      go_roundw
      case rel => exact ⟨i + 1, by omega, by go_num, HN2⟩
      case measure => simp [intOf]; omega
    · have hkn : i = n := by omega
      have hd : decide ((i : Int) < (n : Int)) = false := by rw [decide_eq_false_iff_not]; omega
      have hf1 := hR.out.head.free 1
      have HALL := Lib.hid (show BytT wr ga 5 (wakeL (fun _ => true) 0 Wt L) by
        have h := hR.out.all
        rwa [List.take_of_length_le (by rw [← HN.out]; omega)] at h)
      clear hkn
      go_wp2_with fail
      go_ret
      exact ⟨rfl, hR.out.head.put1 _, (Fr.cell1 wr g 1 _).heap HALL.out (fun e => HG.out.2.2 e.symm), hR.out.fr.trans (Fr.cell1 wr g 1 _) (fun q hq => .inl (.inl hq))⟩
end Go.Proofs.Ythmcmomkomhilaa
