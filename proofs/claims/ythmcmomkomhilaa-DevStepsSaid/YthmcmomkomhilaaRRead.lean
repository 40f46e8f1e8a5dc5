/- The document's own device: Read. -/
import Derived.Test.YthmcmomkomhilaaRDev7
import Derived.Test.YthmcmomkomhilaaDOps3
import Derived.Test.YthmcmomkomhilaaWhole0
import Derived.Test.YthmcmomkomhilaaFlatLib
namespace Go.Proofs.Ythmcmomkomhilaa
open Go.RowKit Go.ChangeShapes
set_option linter.unusedVariables false

theorem run_build_b0 (w : World) : (Instr.buildSlice 33 0 #[]).run Try.prog w = .ok (.slice (some ⟨w.heap.size, 0, none⟩) 0 0) (w.alloc (.cells #[] 5)) := by kernel_rfl
theorem OwnB.empty4 (w : World) : OwnB (fun k => w.heap.size ≤ k) (w.alloc (.cells #[] 5)) (.slice (some ⟨w.heap.size, 0, none⟩) 0 0) [] :=
  ⟨World.ownsRow_lit w #[] 0 (Nat.zero_le _) (by simp [maxLen]) (by simp), fun g hg => by simp only [Value.ownBlock, Option.some.injEq] at hg; omega⟩
theorem BytT.bytes4 {w : World} {g : Nat} {T : TypeId} {L : List UInt8} (h : BytT w g T L) (m : Nat) (hm : L.length = m) (hl : m ≤ maxLen) : BytesIn (fun k => k = g) w (.slice (some ⟨g, 0, none⟩) m m) L := by
  subst hm
  refine ⟨_, L.length, rfl, Nat.le_refl _, hl, (fun h => by cases h), fun p hp => ?_⟩
  cases hp
  refine ⟨fun j u hu => ?_, fun _ => rfl⟩
  rw [addr_plain, Nat.zero_add, cell_of_row _ _ _ _ _ _ h]
  simpa using hu
/-- Where Read stands. -/
structure RdAt (w wr : World) (v : Value) (a : Nat) (X : List UInt8) : Prop where
  own : OwnB (fun k => w.heap.size ≤ k) wr v X
  fr : Fr (fun _ => False) w wr

set_option maxRecDepth 100000 in
set_option maxHeartbeats 4000000 in
theorem rRead_ok {F : Nat → Prop} (w : World) (g ga s a : Nat) (L : List UInt8) (Wt : List Pend) (vw : Value) (k l : Int) (h : DevH w g (.slice (some ⟨ga, 0, none⟩) (64 * s) (64 * s)) vw k l false) (hL : BytT w ga 5 L) (hl : L.length = 64 * s) (hs : s ≤ 8192)
    (hP : PendAt F w vw Wt) (hW : Pends s Wt) (ha : a < s) (hn6 : Wt.length ≤ 1000000) :
    Calls Try.prog 25 #[.pointer (some ⟨g, 0, none⟩), .int .i64 a] w fun e w' => ∃ v, e = .returned (.tuple #[v, .int .i64 0]) ∧ OwnB (fun k => w.heap.size ≤ k) w' v (lastL (fun _ => true) a 0 Wt (secAt L a)) ∧ Fr (fun _ => False) w w' := by
  obtain ⟨ao, cap, hvf, hwc, hwm⟩ := hP.form
  subst hvf
  unfold maxLen at hwm
  obtain ⟨n, hn⟩ : ∃ n, n = Wt.length := ⟨_, rfl⟩
  have HS := Lib.hid (rSectors_any w g (some ⟨ga, 0, none⟩) s (64 * s) _ k l false h hs)
  obtain ⟨m, hm⟩ : ∃ m : Nat, m = 64 * s := ⟨_, rfl⟩
  obtain ⟨q, hq⟩ : ∃ q : Nat, q = 64 * a := ⟨_, rfl⟩
  have hqm : q + 64 ≤ m := by omega
  have hm6 : m ≤ 524288 := by omega
  have e1 : (a : Int) * 64 = (q : Int) := by omega
  have hcut := fun W => run_cut64 W ga m m q ((q : Int) + 64) rfl hqm (Nat.le_refl _)
  have wq : IntKind.i64.wrap (q : Int) = (q : Int) := IntWalk.i64_in _ (by omega)
  have wq2 : IntKind.i64.wrap ((q : Int) + 64) = (q : Int) + 64 := IntWalk.i64_in _ (by omega)
  have hbs := ((hL.keep ((Fr.refl (fun _ => False) w).alloc (.cells #[] 5)) (fun h => h)).bytes4 m (by omega) (by unfold maxLen; omega)).cut64 a (by omega)
  rw [← hq] at hbs
  rw [← hm] at h
  rw [← hn] at h hP hn6 hwc
  obtain ⟨c0, _, _, _, c4⟩ := h.cells
  have c0' := ((h.keep ((Fr.refl (fun _ => False) w).alloc (.cells #[] 5)) (fun h => h)).cells).1
  have d0 : decide ((a : Int) < 0) = false := by rw [decide_eq_false_iff_not]; omega
  have d1 : decide ((s : Int) ≤ (a : Int)) = false := by rw [decide_eq_false_iff_not]; omega
  have d2 : decide (s ≤ a) = false := by rw [decide_eq_false_iff_not]; omega
  have HO1 := Lib.hid (OwnB.empty4 w)
  have HX1 := Lib.hid hbs
  have HF1 := Lib.hid ((Fr.refl (fun _ => False) w).alloc (.cells #[] 5))
  have HSL := Lib.hid (secAt_length L s a hl ha)
  have HN := Lib.hid hn
  have HW := Lib.hid hW
  have HPL := Lib.hid (And.intro hP h)
  clear hn hW hm hP hL h hl hs hbs hq ha
  go_enter Try.func25, Try.ntmps25
  go_wp2_with (first
    | (go_at_call 36; (with_reducible refine HS.out.mono ?_); rintro e w0 ⟨rfl, rfl⟩)
    | (at_builtin; refine wpList_append_bytes (F := fun k => w.heap.size ≤ k) _ rfl (.tmp 20) (.tmp 30) rfl _ _ [] (secAt L a) rfl rfl HO1.out HX1.out (by rw [HSL.out]; decide) ?_; intro v3 w3 ho3 hg3 hn3; (have HS3 : Hid (RdAt w w3 v3 a (secAt L a)) := Lib.hid ⟨by have h := ho3.mono (G := fun k => w.heap.size ≤ k) (fun k _ h => h.elim id (fun h => Nat.le_trans HF1.out.size h)); simpa using h, HF1.out.grown hg3 (fun k hk => .inr (HO1.out.2 k hk))⟩); clear ho3 hg3 hn3)
    | fail)
  go_loopw [6, 7] (fun gv iv wr => ∃ i : Nat, i ≤ n ∧ iv = .int .i64 i ∧ Hid (RdAt w wr gv a (lastL (fun _ => true) a 0 (Wt.take i) (secAt L a)))) (fun _ iv _ => n - (intOf iv).toNat)
  case atStart => exact ⟨0, by omega, rfl, HS3⟩
  case round =>
    clear HS3 HO1 HX1 HF1
    obtain ⟨i, hi, rfl, hR⟩ := hrel
    have hcc := (HPL.out.2.keep hR.out.fr (fun h => h)).cells.2.1
    by_cases hlt : i < n
    · have hil : i < Wt.length := by rw [← HN.out]; exact hlt
      obtain ⟨b, gb, rfl, hFb, hrg, hbb, hFg⟩ := (HPL.out.1.keep hR.out.fr (fun _ _ _ h => h)).elem i hil
      obtain ⟨p, hp⟩ : ∃ p, p = Wt[i] := ⟨_, rfl⟩
      rw [← hp] at hrg hbb
      have hpw := HW.out p (by rw [hp]; exact List.getElem_mem _)
      have cp0 : wr.cell? ⟨b, i * 2, none⟩ = some (.int .i64 (p.1 : Nat)) := hrg 0 _ rfl
      have cp1 : wr.cell? ⟨b, i * 2 + 1, none⟩ = some (.slice (some ⟨gb, 0, none⟩) 64 64) := hrg 1 _ rfl
      have cp1' : (wr.alloc (.cells #[] 5)).cell? ⟨b, i * 2 + 1, none⟩ = some (.slice (some ⟨gb, 0, none⟩) 64 64) := ((Fr.refl (fun _ => False) wr).alloc (.cells #[] 5)).cell cp1 (fun h => h)
      have hcc' := ((HPL.out.2.keep hR.out.fr (fun h => h)).keep ((Fr.refl (fun _ => False) wr).alloc (.cells #[] 5)) (fun h => h)).cells.2.1
      have hst : lastL (fun _ => true) a 0 (Wt.take (i + 1)) (secAt L a) = if a = p.1 then p.2 else lastL (fun _ => true) a 0 (Wt.take i) (secAt L a) := by
        rw [List.take_succ_eq_append_getElem hil, lastL_snoc, ← hp]
        simp
      have HST := Lib.hid hst
      have hd : decide ((i : Int) < (n : Int)) = true := by rw [decide_eq_true_iff]; omega
      have hkn : (i : Int) < (n : Int) := by omega
      have hi0 : (0 : Int) ≤ (i : Int) := by omega
      have HBB := Lib.hid (And.intro (((BytT.keep hbb ((Fr.refl (fun _ => False) wr).alloc (.cells #[] 5)) (fun h => h))).bytes4 64 hpw.2 (by decide)) hpw.2)
      by_cases hpa : a = p.1
      · have hb1 : ((p.1 : Int) == (a : Int)) = true := by rw [beq_iff_eq]; omega
        have HO2 := Lib.hid (OwnB.empty4 wr)
        have HF2 := Lib.hid ((Fr.refl (fun _ => False) wr).alloc (.cells #[] 5))
        have HST2 := Lib.hid (HST.out.trans (if_pos hpa))
        clear hpa hil hp hpw hst hbb hrg
        go_wp2_with (at_builtin; refine wpList_append_bytes (F := fun k => wr.heap.size ≤ k) _ rfl (.tmp 51) (.tmp 59) rfl _ _ [] p.2 rfl rfl HO2.out HBB.out.1 (by rw [HBB.out.2]; decide) ?_; intro v5 w5 ho5 hg5 hn5; (have HS5 : Hid (RdAt w w5 v5 a (lastL (fun _ => true) a 0 (Wt.take (i + 1)) (secAt L a))) := Lib.hid ⟨by have h := ho5.mono (G := fun k => w.heap.size ≤ k) (fun k _ h => Nat.le_trans hR.out.fr.size (h.elim id (fun h => Nat.le_trans HF2.out.size h))); rw [HST2.out]; simpa using h, (hR.out.fr.trans HF2.out (fun _ h => h.elim)).grown hg5 (fun k hk => .inr (Nat.le_trans hR.out.fr.size (HO2.out.2 k hk)))⟩); clear ho5 hg5 hn5)
        go_roundw
        case rel => exact ⟨i + 1, by omega, by go_num, HS5⟩
        case measure => simp [intOf]; omega
      · have hb1 : ((p.1 : Int) == (a : Int)) = false := by rw [beq_eq_false_iff_ne]; omega
        have HST2 := Lib.hid (HST.out.trans (if_neg hpa))
        have hpa2 : ¬ p.1 = a := fun h => hpa h.symm
        clear hpa hil hp hpw hst hbb hrg
        go_wp2_with fail
        go_roundw
        case rel => exact ⟨i + 1, by omega, by go_num, Lib.hid (by rw [HST2.out]; exact hR.out)⟩
        case measure => simp [intOf]; omega
    · have hd : decide ((i : Int) < (n : Int)) = false := by rw [decide_eq_false_iff_not]; omega
      have hRR := hR.out
      rw [List.take_of_length_le (by rw [← HN.out]; omega)] at hRR
      have HRR := Lib.hid hRR
      clear hRR hR
      go_wp2_with fail
      go_ret2
      exact ⟨_, rfl, HRR.out.own, HRR.out.fr⟩
theorem rRead_down (w : World) (g : Nat) (va vw : Value) (k l a : Int) (h : DevH w g va vw k l true) :
    Calls Try.prog 25 #[.pointer (some ⟨g, 0, none⟩), .int .i64 a] w fun e w' => e = .returned (.tuple #[.slice none 0 0, .int .i64 10]) ∧ w = w' := by
  obtain ⟨_, _, _, _, h4⟩ := h.cells
  clear h
  go_enter Try.func25, Try.ntmps25
  go_wp2
  go_ret2
  exact ⟨rfl, rfl⟩
theorem rRead_arg (w : World) (g ga s : Nat) (vw : Value) (k l a : Int) (h : DevH w g (.slice (some ⟨ga, 0, none⟩) (64 * s) (64 * s)) vw k l false) (hs : s ≤ 8192) (hn : a < 0 ∨ (s : Int) ≤ a) :
    Calls Try.prog 25 #[.pointer (some ⟨g, 0, none⟩), .int .i64 a] w fun e w' => e = .returned (.tuple #[.slice none 0 0, .int .i64 2]) ∧ w = w' := by
  have HS := Lib.hid (rSectors_any w g (some ⟨ga, 0, none⟩) s (64 * s) vw k l false h hs)
  obtain ⟨_, _, _, _, c4⟩ := h.cells
  clear h
  by_cases h1 : a < 0
  · have d1 : decide (a < 0) = true := by rw [decide_eq_true_iff]; exact h1
    clear h1 hn
    go_enter Try.func25, Try.ntmps25
    go_wp2
    go_ret2
    exact ⟨rfl, rfl⟩
  · have d1 : decide (a < 0) = false := by rw [decide_eq_false_iff_not]; exact h1
    have d2 : decide ((s : Int) ≤ a) = true := by rw [decide_eq_true_iff]; omega
    clear h1 hn
    go_enter Try.func25, Try.ntmps25
    go_wp2_with (go_at_call 36; (with_reducible refine HS.out.mono ?_); rintro e w0 ⟨rfl, rfl⟩)
    go_ret2
    exact ⟨rfl, rfl⟩
end Go.Proofs.Ythmcmomkomhilaa
