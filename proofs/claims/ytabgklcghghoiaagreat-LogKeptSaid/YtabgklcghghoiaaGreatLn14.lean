/- Laid together by merge.py: RRead RefAt JSort JMap JLaid -/
import Derived.Test.YtabgklcghghoiaaGreatLn13
import Derived.Test.YtabgklcghghoiaaGreatLn8
import Derived.Test.YtabgklcghghoiaaGreatLn12
import Derived.Test.YtabgklcghghoiaaGreatShelf
import Derived.Test.YtabgklcghghoiaaGreatRows
import Derived.Test.YtabgklcghghoiaaGreatLn9
import Derived.Maps.OwnSet
import Derived.WalkArith
import Derived.Test.YtabgklcghghoiaaGreatLn2

/- The document's own device: Read. -/
namespace Go.Proofs.YtabgklcghghoiaaGreat
open Go.RowKit Go.ChangeShapes
set_option linter.unusedVariables false

theorem run_build_b0 (w : World) : (Instr.buildSlice 37 0 #[]).run Tryz.prog w = .ok (.slice (some ⟨w.heap.size, 0, none⟩) 0 0) (w.alloc (.cells #[] 5)) := by kernel_rfl
theorem OwnB.empty4 (w : World) : OwnB (fun k => w.heap.size ≤ k) (w.alloc (.cells #[] 5)) (.slice (some ⟨w.heap.size, 0, none⟩) 0 0) [] :=
  ⟨World.ownsRow_lit w #[] 0 (Nat.zero_le _) (by simp [maxLen]) (by simp), fun g hg => by simp only [Value.ownBlock, Option.some.injEq] at hg; omega⟩
theorem BytT.bytes4 {w : World} {g : Nat} {T : TypeId} {L : List UInt8} (h : BytT w g T L) (m : Nat) (hm : L.length = m) (hl : m ≤ maxLen) : BytesIn (fun k => k = g) w (.slice (some ⟨g, 0, none⟩) m m) L := by
  subst hm
  refine ⟨_, L.length, rfl, Nat.le_refl _, hl, (fun h => by cases h), fun p hp => ?_⟩
  cases hp
  refine ⟨fun j u hu => ?_, fun _ => rfl⟩
  rw [addr_plain, Nat.zero_add, cell_of_row _ _ _ _ _ _ h]
  simpa using hu
/-- Where Read stands. -/
structure RdAt (w wr : World) (v : Value) (a : Nat) (X : List UInt8) : Prop where
  own : OwnB (fun k => w.heap.size ≤ k) wr v X
  fr : Fr (fun _ => False) w wr

set_option maxRecDepth 100000 in
set_option maxHeartbeats 4000000 in
theorem rRead_ok {F : Nat → Prop} (w : World) (g ga s a : Nat) (L : List UInt8) (Wt : List Pend) (vw : Value) (k l : Int) (h : DevH w g (.slice (some ⟨ga, 0, none⟩) (64 * s) (64 * s)) vw k l false) (hL : BytT w ga 5 L) (hl : L.length = 64 * s) (hs : s ≤ 8192)
    (hP : PendAt F w vw Wt) (hW : Pends s Wt) (ha : a < s) (hn6 : Wt.length ≤ 1000000) :
    Calls Tryz.prog 98 #[.pointer (some ⟨g, 0, none⟩), .int .i64 a] w fun e w' => ∃ v, e = .returned (.tuple #[v, .int .i64 0]) ∧ OwnB (fun k => w.heap.size ≤ k) w' v (lastL (fun _ => true) a 0 Wt (secAt L a)) ∧ Fr (fun _ => False) w w' := by
  obtain ⟨ao, cap, hvf, hwc, hwm⟩ := hP.form
  subst hvf
  unfold maxLen at hwm
  obtain ⟨n, hn⟩ : ∃ n, n = Wt.length := ⟨_, rfl⟩
  have HS := Lib.hid (rSectors_any w g (some ⟨ga, 0, none⟩) s (64 * s) _ k l false h hs)
  obtain ⟨m, hm⟩ : ∃ m : Nat, m = 64 * s := ⟨_, rfl⟩
  obtain ⟨q, hq⟩ : ∃ q : Nat, q = 64 * a := ⟨_, rfl⟩
  have hqm : q + 64 ≤ m := by omega
  have hm6 : m ≤ 524288 := by omega
  have e1 : (a : Int) * 64 = (q : Int) := by omega
  have hcut := fun W => run_cut64 W ga m m q ((q : Int) + 64) rfl hqm (Nat.le_refl _)
  have wq : IntKind.i64.wrap (q : Int) = (q : Int) := IntWalk.i64_in _ (by omega)
  have wq2 : IntKind.i64.wrap ((q : Int) + 64) = (q : Int) + 64 := IntWalk.i64_in _ (by omega)
  have hbs := ((hL.keep ((Fr.refl (fun _ => False) w).alloc (.cells #[] 5)) (fun h => h)).bytes4 m (by omega) (by unfold maxLen; omega)).cut64 a (by omega)
  rw [← hq] at hbs
  rw [← hm] at h
  rw [← hn] at h hP hn6 hwc
  obtain ⟨c0, _, _, _, c4⟩ := h.cells
  have c0' := ((h.keep ((Fr.refl (fun _ => False) w).alloc (.cells #[] 5)) (fun h => h)).cells).1
  have d0 : decide ((a : Int) < 0) = false := by rw [decide_eq_false_iff_not]; omega
  have d1 : decide ((s : Int) ≤ (a : Int)) = false := by rw [decide_eq_false_iff_not]; omega
  have d2 : decide (s ≤ a) = false := by rw [decide_eq_false_iff_not]; omega
  have HO1 := Lib.hid (OwnB.empty4 w)
  have HX1 := Lib.hid hbs
  have HF1 := Lib.hid ((Fr.refl (fun _ => False) w).alloc (.cells #[] 5))
  have HSL := Lib.hid (secAt_length L s a hl ha)
  have HN := Lib.hid hn
  have HW := Lib.hid hW
  have HPL := Lib.hid (And.intro hP h)
  clear hn hW hm hP hL h hl hs hbs hq ha
  go_enter Tryz.func98, Tryz.ntmps98
  go_wp2_with (first
    | (go_at_call 75; (with_reducible refine HS.out.mono ?_); rintro e w0 ⟨rfl, rfl⟩)
    | (at_builtin; refine wpList_append_bytes (F := fun k => w.heap.size ≤ k) _ rfl (.tmp 20) (.tmp 30) rfl _ _ [] (secAt L a) rfl rfl HO1.out HX1.out (by rw [HSL.out]; decide) ?_; intro v3 w3 ho3 hg3 hn3; (have HS3 : Hid (RdAt w w3 v3 a (secAt L a)) := Lib.hid ⟨by have h := ho3.mono (G := fun k => w.heap.size ≤ k) (fun k _ h => h.elim id (fun h => Nat.le_trans HF1.out.size h)); simpa using h, HF1.out.grown hg3 (fun k hk => .inr (HO1.out.2 k hk))⟩); clear ho3 hg3 hn3)
    | fail)
  go_loopw [6, 7] (fun gv iv wr => ∃ i : Nat, i ≤ n ∧ iv = .int .i64 i ∧ Hid (RdAt w wr gv a (lastL (fun _ => true) a 0 (Wt.take i) (secAt L a)))) (fun _ iv _ => n - (intOf iv).toNat)
  case atStart => exact ⟨0, by omega, rfl, HS3⟩
  case round =>
    clear HS3 HO1 HX1 HF1
    obtain ⟨i, hi, rfl, hR⟩ := hrel
    have hcc := (HPL.out.2.keep hR.out.fr (fun h => h)).cells.2.1
    by_cases hlt : i < n
    · have hil : i < Wt.length := by rw [← HN.out]; exact hlt
      obtain ⟨b, gb, rfl, hFb, hrg, hbb, hFg⟩ := (HPL.out.1.keep hR.out.fr (fun _ _ _ h => h)).elem i hil
      obtain ⟨p, hp⟩ : ∃ p, p = Wt[i] := ⟨_, rfl⟩
      rw [← hp] at hrg hbb
      have hpw := HW.out p (by rw [hp]; exact List.getElem_mem _)
      have cp0 : wr.cell? ⟨b, i * 2, none⟩ = some (.int .i64 (p.1 : Nat)) := hrg 0 _ rfl
      have cp1 : wr.cell? ⟨b, i * 2 + 1, none⟩ = some (.slice (some ⟨gb, 0, none⟩) 64 64) := hrg 1 _ rfl
      have cp1' : (wr.alloc (.cells #[] 5)).cell? ⟨b, i * 2 + 1, none⟩ = some (.slice (some ⟨gb, 0, none⟩) 64 64) := ((Fr.refl (fun _ => False) wr).alloc (.cells #[] 5)).cell cp1 (fun h => h)
      have hcc' := ((HPL.out.2.keep hR.out.fr (fun h => h)).keep ((Fr.refl (fun _ => False) wr).alloc (.cells #[] 5)) (fun h => h)).cells.2.1
      have hst : lastL (fun _ => true) a 0 (Wt.take (i + 1)) (secAt L a) = if a = p.1 then p.2 else lastL (fun _ => true) a 0 (Wt.take i) (secAt L a) := by
        rw [List.take_succ_eq_append_getElem hil, lastL_snoc, ← hp]
        simp
      have HST := Lib.hid hst
      have hd : decide ((i : Int) < (n : Int)) = true := by rw [decide_eq_true_iff]; omega
      have hkn : (i : Int) < (n : Int) := by omega
      have hi0 : (0 : Int) ≤ (i : Int) := by omega
      have HBB := Lib.hid (And.intro (((BytT.keep hbb ((Fr.refl (fun _ => False) wr).alloc (.cells #[] 5)) (fun h => h))).bytes4 64 hpw.2 (by decide)) hpw.2)
      by_cases hpa : a = p.1
      · have hb1 : ((p.1 : Int) == (a : Int)) = true := by rw [beq_iff_eq]; omega
        have HO2 := Lib.hid (OwnB.empty4 wr)
        have HF2 := Lib.hid ((Fr.refl (fun _ => False) wr).alloc (.cells #[] 5))
        have HST2 := Lib.hid (HST.out.trans (if_pos hpa))
        clear hpa hil hp hpw hst hbb hrg
        go_wp2_with (at_builtin; refine wpList_append_bytes (F := fun k => wr.heap.size ≤ k) _ rfl (.tmp 51) (.tmp 59) rfl _ _ [] p.2 rfl rfl HO2.out HBB.out.1 (by rw [HBB.out.2]; decide) ?_; intro v5 w5 ho5 hg5 hn5; (have HS5 : Hid (RdAt w w5 v5 a (lastL (fun _ => true) a 0 (Wt.take (i + 1)) (secAt L a))) := Lib.hid ⟨by have h := ho5.mono (G := fun k => w.heap.size ≤ k) (fun k _ h => Nat.le_trans hR.out.fr.size (h.elim id (fun h => Nat.le_trans HF2.out.size h))); rw [HST2.out]; simpa using h, (hR.out.fr.trans HF2.out (fun _ h => h.elim)).grown hg5 (fun k hk => .inr (Nat.le_trans hR.out.fr.size (HO2.out.2 k hk)))⟩); clear ho5 hg5 hn5)
        go_roundw
        case rel => exact ⟨i + 1, by omega, by go_num, HS5⟩
        case measure => simp [intOf]; omega
      · have hb1 : ((p.1 : Int) == (a : Int)) = false := by rw [beq_eq_false_iff_ne]; omega
        have HST2 := Lib.hid (HST.out.trans (if_neg hpa))
        have hpa2 : ¬ p.1 = a := fun h => hpa h.symm
        clear hpa hil hp hpw hst hbb hrg
        go_wp2_with fail
        go_roundw
        case rel => exact ⟨i + 1, by omega, by go_num, Lib.hid (by rw [HST2.out]; exact hR.out)⟩
        case measure => simp [intOf]; omega
    · have hd : decide ((i : Int) < (n : Int)) = false := by rw [decide_eq_false_iff_not]; omega
      have hRR := hR.out
      rw [List.take_of_length_le (by rw [← HN.out]; omega)] at hRR
      have HRR := Lib.hid hRR
      clear hRR hR
      go_wp2_with fail
      go_ret2
      exact ⟨_, rfl, HRR.out.own, HRR.out.fr⟩
theorem rRead_down (w : World) (g : Nat) (va vw : Value) (k l a : Int) (h : DevH w g va vw k l true) :
    Calls Tryz.prog 98 #[.pointer (some ⟨g, 0, none⟩), .int .i64 a] w fun e w' => e = .returned (.tuple #[.slice none 0 0, .int .i64 10]) ∧ w = w' := by
  obtain ⟨_, _, _, _, h4⟩ := h.cells
  clear h
  go_enter Tryz.func98, Tryz.ntmps98
  go_wp2
  go_ret2
  exact ⟨rfl, rfl⟩
theorem rRead_arg (w : World) (g ga s : Nat) (vw : Value) (k l a : Int) (h : DevH w g (.slice (some ⟨ga, 0, none⟩) (64 * s) (64 * s)) vw k l false) (hs : s ≤ 8192) (hn : a < 0 ∨ (s : Int) ≤ a) :
    Calls Tryz.prog 98 #[.pointer (some ⟨g, 0, none⟩), .int .i64 a] w fun e w' => e = .returned (.tuple #[.slice none 0 0, .int .i64 2]) ∧ w = w' := by
  have HS := Lib.hid (rSectors_any w g (some ⟨ga, 0, none⟩) s (64 * s) vw k l false h hs)
  obtain ⟨_, _, _, _, c4⟩ := h.cells
  clear h
  by_cases h1 : a < 0
  · have d1 : decide (a < 0) = true := by rw [decide_eq_true_iff]; exact h1
    clear h1 hn
    go_enter Tryz.func98, Tryz.ntmps98
    go_wp2
    go_ret2
    exact ⟨rfl, rfl⟩
  · have d1 : decide (a < 0) = false := by rw [decide_eq_false_iff_not]; exact h1
    have d2 : decide ((s : Int) ≤ a) = true := by rw [decide_eq_true_iff]; omega
    clear h1 hn
    go_enter Tryz.func98, Tryz.ntmps98
    go_wp2_with (go_at_call 75; (with_reducible refine HS.out.mono ?_); rintro e w0 ⟨rfl, rfl⟩)
    go_ret2
    exact ⟨rfl, rfl⟩
end Go.Proofs.YtabgklcghghoiaaGreat

/- The document's own device as one thing: RefAt; what each call makes of it. -/
namespace Go.Proofs.YtabgklcghghoiaaGreat
open Go.RowKit Go.ChangeShapes
set_option linter.unusedVariables false

structure RfM (w : World) (F : Nat → Prop) (g ga s : Nat) (vw : Value) (d : Dv) : Prop where
  head : DevH w g (.slice (some ⟨ga, 0, none⟩) (64 * s) (64 * s)) vw d.deeds (d.left : Nat) d.down
  left : d.left ≤ 9223372036854775807
  kept : BytT w ga 5 d.all
  pend : PendAt F w vw d.waits
  right : d.Right s
  sep : g ≠ ga ∧ ¬ F g ∧ ¬ F ga
  small : s ≤ 8192
theorem RfM.lt {w : World} {F : Nat → Prop} {g ga s : Nat} {vw : Value} {d : Dv} (h : RfM w F g ga s vw d) : g < w.heap.size ∧ ga < w.heap.size := ⟨lt_of_block h.head, lt_of_block h.kept⟩
/-- The document's device d of s sectors, at block g, in blocks of D. -/
def RefAt (w : World) (D : Nat → Prop) (g s : Nat) (d : Dv) : Prop := ∃ F ga vw, RfM w F g ga s vw d ∧ ∀ k, k = g ∨ k = ga ∨ F k → D k
theorem PendAt.mono' {F G : Nat → Prop} {w : World} {v : Value} {W : List Pend} (h : PendAt F w v W) (hd : ∀ k, k < w.heap.size → F k → G k) : PendAt G w v W := by
  obtain ⟨gs, h1, h2, h3, h4⟩ := h
  refine ⟨gs, h1, h2, fun g hg => hd g ?_ (h3 g hg), fun i hi hi2 => ⟨(h4 i hi hi2).1, hd _ (lt_of_block (h4 i hi hi2).1) (h4 i hi hi2).2⟩⟩
  rcases h2.2 with ⟨hv, h0⟩ | ⟨b, cap, cur, hv, _, hb, _⟩
  · rw [hv] at hg; simp [Value.ownBlock] at hg
  · rw [hv] at hg
    simp only [Value.ownBlock, Option.some.injEq] at hg
    subst hg
    exact lt_of_block hb
theorem RefAt.keep {D S : Nat → Prop} {w w' : World} {g s : Nat} {d : Dv} (h : RefAt w D g s d) (hf : Fr S w w') (hd : ∀ k, k < w.heap.size → D k → ¬ S k) : RefAt w' D g s d := by
  obtain ⟨F, ga, vw, hm, hD⟩ := h
  obtain ⟨hg, hk⟩ := hm.lt
  exact ⟨F, ga, vw, ⟨hm.head.keep hf (hd g hg (hD g (.inl rfl))), hm.left, hm.kept.keep hf (hd ga hk (hD ga (.inr (.inl rfl)))), hm.pend.keep hf (fun k hk hF => hd k hk (hD k (.inr (.inr hF)))), hm.right, hm.sep, hm.small⟩, hD⟩
theorem RefAt.mono {D E : Nat → Prop} {w : World} {g s : Nat} {d : Dv} (h : RefAt w D g s d) (hd : ∀ k, k < w.heap.size → D k → E k) : RefAt w E g s d := by
  obtain ⟨F, ga, vw, hm, hD⟩ := h
  obtain ⟨hg, hk⟩ := hm.lt
  refine ⟨fun k => F k ∧ k < w.heap.size, ga, vw, ⟨hm.head, hm.left, hm.kept, hm.pend.mono' (fun k hk hF => ⟨hF, hk⟩), hm.right, ⟨hm.sep.1, fun h => hm.sep.2.1 h.1, fun h => hm.sep.2.2 h.1⟩, hm.small⟩, fun k hk' => ?_⟩
  rcases hk' with rfl | rfl | hk'
  · exact hd _ hg (hD _ (.inl rfl))
  · exact hd _ hk (hD _ (.inr (.inl rfl)))
  · exact hd _ hk'.2 (hD _ (.inr (.inr hk'.1)))
theorem RefAt.right {D : Nat → Prop} {w : World} {g s : Nat} {d : Dv} (h : RefAt w D g s d) : d.Right s := by
  obtain ⟨F, ga, vw, hm, hD⟩ := h
  exact hm.right
theorem RefAt.lt {D : Nat → Prop} {w : World} {g s : Nat} {d : Dv} (h : RefAt w D g s d) : g < w.heap.size ∧ D g := by
  obtain ⟨F, ga, vw, hm, hD⟩ := h
  exact ⟨hm.lt.1, hD g (.inl rfl)⟩

theorem bNew (w : World) (s : Nat) (h1 : 1 ≤ s) (h2 : s ≤ 8192) :
    Calls Tryz.prog 51 #[.int .i64 s] w fun e w' => ∃ g, e = .returned (.tuple #[.pointer (some ⟨g, 0, none⟩), .int .i64 0]) ∧ RefAt w' (fun k => w.heap.size ≤ k) g s (Dv.new s) ∧ Fr (fun _ => False) w w' := by
  refine (rNew_yes w s h1 h2).mono ?_
  rintro e w' ⟨g, ga, rfl, hg, hga, hne, hh, hb, hf⟩
  exact ⟨g, rfl, ⟨fun _ => False, ga, _, ⟨hh, Nat.zero_le _, hb, PendAt.nil _ _, ⟨by simp [Dv.new], fun p hp => by cases hp⟩, ⟨hne, id, id⟩, h2⟩, fun k hk' => by
    rcases hk' with rfl | rfl | h
    · exact hg
    · exact hga
    · exact h.elim⟩, hf⟩
theorem left_pred (l : Nat) (h : l ≠ 1) : (if (l : Int) = 0 then (0 : Int) else (l : Int) - 1) = ((l - 1 : Nat) : Int) := by
  split <;> omega
theorem bFlush {D : Nat → Prop} (w : World) (g s : Nat) (d : Dv) (hk6 : d.deeds ≤ 1000000000) (hn6 : d.waits.length ≤ 1000000) (h : RefAt w D g s d) :
    Calls Tryz.prog 97 #[.pointer (some ⟨g, 0, none⟩)] w fun e w' => e = .returned (.int .i64 d.flush.1) ∧ RefAt w' (More D w) g s d.flush.2 ∧ Fr D w w' := by
  have hR := h.right
  obtain ⟨F, ga, vw, hm, hD⟩ := h
  have hh := hm.head
  cases hd : d.down with
  | true =>
    rw [hd] at hh
    rw [Dv.flush_down hd]
    refine (rFlush_down w g _ vw d.deeds _ hh).mono ?_
    rintro e w' ⟨rfl, rfl⟩
    exact ⟨rfl, ⟨F, ga, vw, hm, fun k hk => .inl (hD k hk)⟩, Fr.refl _ _⟩
  | false =>
    rw [hd] at hh
    by_cases h1 : d.left = 1
    · rw [Dv.flush_out hd h1]
      rw [h1] at hh
      refine (rFlush_out w g _ vw d.deeds (by omega) (by omega) hh).mono ?_
      rintro e w' ⟨rfl, hh', hf⟩
      exact ⟨rfl, ⟨F, ga, vw, ⟨hh', by simp only; omega, hm.kept.keep hf (fun e => hm.sep.1 e.symm), hm.pend.keep hf (fun k _ hF e => hm.sep.2.1 (e ▸ hF)), hm.right.same rfl rfl, hm.sep, hm.small⟩, fun k hk => .inl (hD k hk)⟩, hf.mono (fun k _ e => hD k (.inl e))⟩
    · rw [Dv.flush_ok hd h1]
      refine (rFlush_ok w g ga s d.all d.waits vw d.deeds _ hh hm.kept hR.all hm.small hm.pend hR.waits hm.sep.2.1 hm.sep.2.2 hm.sep.1 (by omega) (by omega) (by omega) (by have := hm.left; omega) (by omega) hn6).mono ?_
      rintro e w' ⟨rfl, hh', hb, hf⟩
      rw [left_pred _ h1] at hh'
      refine ⟨rfl, ⟨fun _ => False, ga, _, ⟨?_, by have := hm.left; simp only; omega, hb, PendAt.nil _ _, ⟨wakeL_length _ s d.waits 0 d.all hR.waits hR.all, fun p hp => by cases hp⟩, ⟨hm.sep.1, id, id⟩, hm.small⟩, fun k hk => ?_⟩, hf.mono (fun k _ e => hD k (e.elim .inl (fun h => .inr (.inl h))))⟩
      · rw [hd]
        exact hh'
      · rcases hk with hk | hk | hk
        · exact .inl (hD k (.inl hk))
        · exact .inl (hD k (.inr (.inl hk)))
        · exact hk.elim
theorem bWrite {D G : Nat → Prop} (w : World) (g s : Nat) (d : Dv) (a : Int) (vb : Value) (b : List UInt8) (hk6 : d.deeds ≤ 1000000000) (hn6 : d.waits.length + 1 ≤ 1000000) (hb : BytesIn G w vb b) (hG : ∀ k, G k → k < w.heap.size ∧ ¬ D k) (h : RefAt w D g s d) :
    Calls Tryz.prog 95 #[.pointer (some ⟨g, 0, none⟩), .int .i64 a, vb] w fun e w' => e = .returned (.int .i64 (d.write s a b).1) ∧ RefAt w' (More D w) g s (d.write s a b).2 ∧ Fr D w w' := by
  have hR := h.right
  have hRw := hR.write a b
  obtain ⟨F, ga, vw, hm, hD⟩ := h
  have hh := hm.head
  obtain ⟨ab, cb, hvb⟩ : ∃ ao cap, vb = .slice ao b.length cap := by obtain ⟨x, y, hx, _⟩ := hb; exact ⟨x, y, hx⟩
  subst hvb
  cases hd : d.down with
  | true =>
    rw [hd] at hh
    rw [Dv.write_down hd]
    refine (rWrite_down w g _ vw _ d.deeds _ a hh).mono ?_
    rintro e w' ⟨rfl, rfl⟩
    exact ⟨rfl, ⟨F, ga, vw, hm, fun k hk => .inl (hD k hk)⟩, Fr.refl _ _⟩
  | false =>
    rw [hd] at hh
    by_cases h0 : a < 0 ∨ (s : Int) ≤ a ∨ 64 < b.length
    · rw [Dv.write_arg hd h0]
      refine (rWrite_arg w g ga s vw d.deeds _ a ab b.length cb hh hm.small h0).mono ?_
      rintro e w' ⟨rfl, rfl⟩
      exact ⟨rfl, ⟨F, ga, vw, hm, fun k hk => .inl (hD k hk)⟩, Fr.refl _ _⟩
    obtain ⟨a, rfl⟩ : ∃ x : Nat, a = x := ⟨a.toNat, by omega⟩
    by_cases h1 : d.left = 1
    · rw [Dv.write_out hd h0 h1]
      rw [h1] at hh
      refine (rWrite_out w g ga s a vw d.deeds ab b.length cb (by omega) (by omega) hh hm.small (by omega) (by omega)).mono ?_
      rintro e w' ⟨rfl, hh', hf⟩
      exact ⟨rfl, ⟨F, ga, vw, ⟨hh', by simp only; omega, hm.kept.keep hf (fun e => hm.sep.1 e.symm), hm.pend.keep hf (fun k _ hF e => hm.sep.2.1 (e ▸ hF)), hm.right.same rfl rfl, hm.sep, hm.small⟩, fun k hk => .inl (hD k hk)⟩, hf.mono (fun k _ e => hD k (.inl e))⟩
    · rw [Dv.write_ok hd h0 h1] at hRw ⊢
      have hlt := hm.lt
      refine (rWrite_ok (F := fun k => F k ∧ k < w.heap.size) w g ga s a vw _ d.waits b d.deeds _ hh (hm.pend.mono' (fun k hk hF => ⟨hF, hk⟩)) hb (fun i hi => ⟨(hG i hi).1, fun e => (hG i hi).2 (hD i (.inl e))⟩) (by omega) (by omega) hm.small (fun h => hm.sep.2.1 h.1) (by omega) (by omega) (by omega) (by have := hm.left; omega) (by omega) hn6).mono ?_
      rintro e w' ⟨rfl, vw', hh', hp, hf⟩
      rw [left_pred _ h1] at hh'
      refine ⟨rfl, ⟨_, ga, vw', ⟨?_, by have := hm.left; simp only; omega, hm.kept.keep hf (fun e => e.elim (fun e => hm.sep.1 e.symm) (fun e => hm.sep.2.2 e.1)), hp, hRw, ⟨hm.sep.1, fun e => e.elim (fun e => hm.sep.2.1 e.1) (fun e => by have := hlt.1; omega), fun e => e.elim (fun e => hm.sep.2.2 e.1) (fun e => by have := hlt.2; omega)⟩, hm.small⟩, fun k hk => ?_⟩, hf.mono (fun k _ e => hD k (e.elim .inl (fun h => .inr (.inr h.1))))⟩
      · rw [hd]
        exact hh'
      · rcases hk with hk | hk | hk
        · exact .inl (hD k (.inl hk))
        · exact .inl (hD k (.inr (.inl hk)))
        · exact hk.elim (fun h => .inl (hD k (.inr (.inr h.1)))) .inr
theorem bRead {D : Nat → Prop} (w : World) (g s : Nat) (d : Dv) (a : Int) (hn6 : d.waits.length ≤ 1000000) (h : RefAt w D g s d) :
    Calls Tryz.prog 98 #[.pointer (some ⟨g, 0, none⟩), .int .i64 a] w fun e w' => ∃ v, e = .returned (.tuple #[v, .int .i64 (d.read s a).1]) ∧ OwnB (fun k => w.heap.size ≤ k) w' v (d.read s a).2 ∧ Fr (fun _ => False) w w' := by
  have hR := h.right
  obtain ⟨F, ga, vw, hm, hD⟩ := h
  have hh := hm.head
  unfold Dv.read
  cases hd : d.down with
  | true =>
    rw [hd] at hh
    simp only [if_true]
    refine (rRead_down w g _ vw d.deeds _ a hh).mono ?_
    rintro e w' ⟨rfl, rfl⟩
    exact ⟨_, rfl, OwnB.nil _ _, Fr.refl _ _⟩
  | false =>
    rw [hd] at hh
    simp only [Bool.false_eq_true, if_false]
    by_cases h0 : a < 0 ∨ (s : Int) ≤ a
    · rw [if_pos h0]
      refine (rRead_arg w g ga s vw d.deeds _ a hh hm.small h0).mono ?_
      rintro e w' ⟨rfl, rfl⟩
      exact ⟨_, rfl, OwnB.nil _ _, Fr.refl _ _⟩
    · rw [if_neg h0]
      obtain ⟨a, rfl⟩ : ∃ x : Nat, a = x := ⟨a.toNat, by omega⟩
      exact rRead_ok w g ga s a d.all d.waits vw d.deeds _ hh hm.kept hR.all hm.small hm.pend hR.waits (by omega) hn6
end Go.Proofs.YtabgklcghghoiaaGreat

/- maps.Keys and slices.Sorted, of a map whose keys are ints: the shelf's contracts, in plain calls. -/
namespace Go.Proofs.YtabgklcghghoiaaGreat
open Go.RowKit Go.Maps Go.Sort Go.Shelf
set_option linter.unusedVariables false

theorem sortsP (m : Nat) : AnyZI.SortsIn Tryz.prog Tryz.sortedP_ren Fence.wide m :=
  ⟨fun blk off cap ss W hH hblk hsz => callsIn_wide.2 (Tryz.slices_Sort_int blk off cap ss W hH hblk hsz),
   fun p cap W => callsIn_wide.2 (Tryz.slices_Sort_int_none p cap W)⟩
theorem keysP_any (w : World) (b : Nat) :
    Calls Tryz.prog 91 #[.map (some b)] w fun e w' => e = .returned (.func (.func 108) #[] #[.pointer (some ⟨w.heap.size, 0, none⟩)]) ∧ w' = w.alloc (.cells #[.map (some b)] 135) :=
  (callsIn_wide (n := 5)).1 (AnyZI.keys_in Tryz.keysP Fence.wide 5 trivial rfl (some b) w)
set_option maxHeartbeats 1000000 in
theorem sortedP_any {H : Type} (b nn : Nat) (D0 : DataW H) (R : Value → Option (DataW H × List MemPlace)) (w : World) (hown : w.ownsMap Tryz.prog 3 R b nn D0) (hmax : Maps.size D0 ≤ maxLen) (hbytes : Maps.size D0 * 8 ≤ 140737488355328) :
    Calls Tryz.prog 90 #[.func (.func 108) #[] #[.pointer (some ⟨w.heap.size, 0, none⟩)]] (w.alloc (.cells #[.map (some b)] 135)) fun e w' => ∃ (v : Value) (ss : List Int), e = .returned v ∧ ss.Perm (intKeys D0) ∧
      w'.ownsRow (w.alloc (.cells #[.map (some b)] 135)).heap.size 3 1 v ss.length ((ss.mergeSort (fun x y => decide (x ≤ y))).map encZ) ∧ (v = .slice none 0 0 ↔ ss = []) ∧ Below (w.alloc (.cells #[.map (some b)] 135)).heap.size (w.alloc (.cells #[.map (some b)] 135)) w' := by
  refine (callsIn_wide (n := 5)).1 ?_
  have hbl := hown.lt
  have hseq : SeqGives Fence.wide 2 Tryz.prog 108 #[.pointer (some ⟨w.heap.size, 0, none⟩)] encZ (fun ss => ss.Perm (intKeys D0)) (Maps.size D0) (w.alloc (.cells #[.map (some b)] 135)) :=
    AnyZI.keys_gives (ρ := Tryz.keysP_ren) { Tryz.keysP with } Fence.wide _ trivial rfl (by omega) w.heap.size b nn D0 _ (by simp) (by simp) (by
      obtain ⟨es, clock, hb, Ft, hs, hD⟩ := hown
      exact ⟨es, clock, (Below.heap_alloc _ _ b hbl).trans hb, Ft, hs, hD⟩)
  exact AnyZI.sorted_in Tryz.sortedP Fence.wide 5 trivial trivial trivial trivial rfl (by omega) (sortsP _) (enters_of Tryz.func107 (by kernel_rfl) rfl) 108 #[.pointer (some ⟨w.heap.size, 0, none⟩)] trivial (enters_of Tryz.func108 (by kernel_rfl) rfl) _ _ hmax hbytes _ hseq
end Go.Proofs.YtabgklcghghoiaaGreat

/- A map of ints to slices of bytes, written key by key: what it reads as. No program but its types. -/
namespace Go.Proofs.YtabgklcghghoiaaGreat
open Go.RowKit Go.Maps Go.Sort Go.Shelf
set_option linter.unusedVariables false

def heldR : Value → Option (DataW Value × List MemPlace) := fun v => some (.held v, [])
def keyN (a i : Nat) : Lit := .int .i64 ((a + i : Nat) : Int)
theorem keyN_inj {a i j : Nat} (h : keyN a i = keyN a j) : i = j := by
  simp only [keyN, Lit.int.injEq, true_and] at h
  omega
theorem keyN_lit (a i : Nat) : WideAt.IsKeyLit (keyN a i) := by simp [keyN, WideAt.IsKeyLit]
/-- The keys a, a + 1 .. with these values. -/
def mD (a : Nat) (vs : Nat → Value) : Nat → DataW Value
  | 0 => .map []
  | n + 1 => (mD a vs n).put (keyN a n) (.held (vs n))
theorem mD_congr (a : Nat) (vs us : Nat → Value) : ∀ n, (∀ i, i < n → vs i = us i) → mD a vs n = mD a us n
  | 0, _ => rfl
  | n + 1, h => by rw [mD, mD, mD_congr a vs us n (fun i hi => h i (by omega)), h n (by omega)]
theorem mD_isMap (a : Nat) (vs : Nat → Value) : ∀ n, IsMap (mD a vs n)
  | 0 => ⟨_, rfl⟩
  | n + 1 => (mD_isMap a vs n).put _ _
theorem mD_at (a : Nat) (vs : Nat → Value) (z : DataW Value) : ∀ n i, i < n → (mD a vs n).atKey (keyN a i) z = .held (vs i)
  | n + 1, i, h => by
    rw [mD]
    by_cases e : i = n
    · subst e
      exact atKey_put_same (mD_isMap a vs i) (keyN_lit a i) _ _
    · rw [atKey_put_other (fun h => e (keyN_inj h))]
      exact mD_at a vs z n i (by omega)
theorem insert_perm5 {H : Type} (x : Lit × DataW H) : ∀ l : List (Lit × DataW H), (DataW.insert x l).Perm (x :: l)
  | [] => .refl _
  | y :: r => by
    unfold DataW.insert
    split
    · exact .refl _
    · exact ((insert_perm5 x r).cons y).trans (.swap x y r)
theorem mD_keys (a : Nat) (vs : Nat → Value) : ∀ n, ∃ es, mD a vs n = .map es ∧ (es.map (·.1)).Perm ((List.range n).map (keyN a))
  | 0 => ⟨[], rfl, by simp⟩
  | n + 1 => by
    obtain ⟨es, he, hp⟩ := mD_keys a vs n
    have hf : es.filter (fun p => !p.1.sameKey (keyN a n)) = es := by
      rw [List.filter_eq_self]
      intro p hm
      have h1 : p.1 ∈ (List.range n).map (keyN a) := hp.subset (List.mem_map_of_mem hm)
      obtain ⟨i, hi, e⟩ := List.mem_map.1 h1
      rw [← e, sameKey_ne (fun h => by have := keyN_inj h; have := List.mem_range.1 hi; omega)]
      rfl
    refine ⟨DataW.insert (keyN a n, .held (vs n)) es, ?_, ?_⟩
    · rw [mD, he, DataW.put, hf]
    · refine ((insert_perm5 _ es).map _).trans ?_
      rw [List.map_cons, List.range_succ, List.map_append]
      exact (hp.cons _).trans (List.perm_append_singleton _ _).symm
theorem mD_size (a : Nat) (vs : Nat → Value) (n : Nat) : Maps.size (mD a vs n) = n := by
  obtain ⟨es, he, hp⟩ := mD_keys a vs n
  rw [he, size_eq]
  have := hp.length_eq
  simpa using this
/-- Its keys, sorted. -/
theorem mD_sorted (a : Nat) (vs : Nat → Value) (n : Nat) (ss : List Int) (h : ss.Perm (intKeys (mD a vs n))) : ss.mergeSort (fun x y => decide (x ≤ y)) = (List.range n).map (fun i => ((a + i : Nat) : Int)) := by
  obtain ⟨es, he, hp⟩ := mD_keys a vs n
  rw [he] at h
  have h1 : (intKeys (.map es)).Perm ((List.range n).map (fun i => ((a + i : Nat) : Int))) := by
    have h2 := hp.map Go.intOf
    rw [List.map_map, List.map_map] at h2
    exact h2
  rw [mergeSort_of_perm_i (h.trans h1)]
  refine List.mergeSort_of_pairwise ?_
  rw [List.pairwise_map]
  refine List.Pairwise.imp_of_mem ?_ List.pairwise_lt_range
  intro i j _ _ hij
  simp only [decide_eq_true_eq]
  omega
theorem mD_count (a : Nat) (vs : Nat → Value) (n : Nat) (ss : List Int) (h : ss.Perm (intKeys (mD a vs n))) : ss.length = n := by
  have := congrArg List.length (mD_sorted a vs n ss h)
  simpa using this
/-- What is looked up. -/
theorem mD_lookup {w : World} {b nn a n : Nat} {vs : Nat → Value} (h : w.ownsMap Tryz.prog 3 heldR b nn (mD a vs n)) (i : Nat) (hi : i < n) (hb : a + n ≤ 1000000) :
    (Instr.lookup 135 (.map (some b)) (.int .i64 ((a + i : Nat) : Int)) false).run Tryz.prog w = .ok (vs i) w := by
  obtain ⟨v, ps, hr, hv⟩ := h.lookup (t := 135) (e := 37) (int_keyed Tryz.underlying3) Tryz.underlying135 (z := .slice none 0 0) (by kernel_rfl) (zd := .held (.slice none 0 0)) (zp := []) rfl (key := .int .i64 ((a + i : Nat) : Int)) (kl := keyN a i) (keyOf_int_mk Tryz.underlying3 (WalkArith.wf_i64 (by omega)))
  rw [mD_at a vs _ n i hi, heldR] at hv
  simp only [Option.some.injEq, Prod.mk.injEq, DataW.held.injEq] at hv
  rw [← hv.1]
  exact hr
end Go.Proofs.YtabgklcghghoiaaGreat

/- Contract: log.laid: the sectors in which bytes come to lie. -/
namespace Go.Proofs.YtabgklcghghoiaaGreat
open Go.RowKit Go.ChangeShapes
set_option linter.unusedVariables false

/-- How many bytes are through behind k sectors. -/
def cAt (o n k : Nat) : Nat := min n (64 * (o / 64 + k) - o)
theorem cAt_zero (o n : Nat) : cAt o n 0 = 0 := by unfold cAt; omega
theorem cAt_le (o n k : Nat) : cAt o n k ≤ n := by unfold cAt; omega
theorem cAt_many (o n k : Nat) (h : cAt o n k < n) : k + 1 ≤ manySecs o n := by
  unfold cAt at h
  unfold manySecs
  rw [if_neg (by omega)]
  omega
theorem cAt_done (o n k : Nat) (hk : k ≤ manySecs o n) (h : cAt o n k = n) : k = manySecs o n := by
  unfold cAt at h
  unfold manySecs at hk ⊢
  split
  · rename_i h0
    rw [if_pos h0] at hk
    omega
  · rename_i h0
    rw [if_neg h0] at hk
    omega
theorem cAt_sec (o n k : Nat) (h : cAt o n k < n) : (o + cAt o n k) / 64 = o / 64 + k := by unfold cAt at *; omega
theorem cAt_succ (o n k : Nat) (h : cAt o n k < n) : cAt o n k + min (64 - (o + cAt o n k) % 64) (n - cAt o n k) = cAt o n (k + 1) := by unfold cAt at *; omega
/-- A sector behind the copy. -/
theorem laid_sec (K : List UInt8) (s o k : Nat) (X : List UInt8) (hK : K.length = 64 * s) (ho : o + X.length ≤ 64 * s) (h : cAt o X.length k < X.length) (c r m : Nat) (hc : c = cAt o X.length k) (hr : r = (o + c) % 64) (hm : m = min (64 - r) (X.length - c)) :
    (secAt K (o / 64 + k)).take r ++ (X.drop c).take m ++ (secAt K (o / 64 + k)).drop (r + m) = secAt (over4 K o X) (o / 64 + k) := by
  have hs := cAt_sec o X.length k h
  rw [← hc] at hs h
  have hq : o / 64 + k < s := by omega
  have l1 := secAt_length K s _ hK hq
  have hlo := over4_length K o X (by omega)
  have l2 := secAt_length (over4 K o X) s _ (by rw [hlo]; exact hK) hq
  have h0 : r = 0 ∨ c = 0 := by unfold cAt at hc; omega
  obtain ⟨q, hqe⟩ : ∃ q, q = o / 64 + k := ⟨_, rfl⟩
  rw [← hqe] at hs hq l1 l2 ⊢
  have hoc : o + c = 64 * q + r := by omega
  have hr64 : r < 64 := by omega
  have e1 : ((secAt K q).take r).length = r := by rw [List.length_take]; omega
  have e2 : ((X.drop c).take m).length = m := by rw [List.length_take, List.length_drop]; omega
  apply List.ext_getElem?
  intro j
  by_cases hj : j < 64
  · rw [secAt_get _ _ _ hj, over4_get K o X (by omega)]
    by_cases hj1 : j < r
    · rw [List.append_assoc, List.getElem?_append_left (by omega), List.getElem?_take, if_pos hj1, secAt_get _ _ _ hj, if_neg (by omega)]
    · by_cases hj2 : j < r + m
      · rw [List.append_assoc, List.getElem?_append_right (by omega), e1, List.getElem?_append_left (by omega), List.getElem?_take, if_pos (by omega), List.getElem?_drop, if_pos (by omega)]
        congr 1
        omega
      · rw [List.getElem?_append_right (by rw [List.length_append]; omega), List.length_append, e1, e2, List.getElem?_drop, secAt_get _ _ _ (by omega), if_neg (by omega)]
        congr 1
        omega
  · rw [List.getElem?_eq_none (by simp only [List.length_append, List.length_drop, e1, e2]; omega), List.getElem?_eq_none (by omega)]
theorem op_slice_lo5 (w : World) (g cap r : Nat) (hr : r < 64) (hc : 64 ≤ cap) : (Instr.slice 37 (.slice (some ⟨g, 0, none⟩) 64 cap) (some (.int .i64 (r : Int))) none none).run Tryz.prog w = .ok (.slice (some ⟨g, r, none⟩) (64 - r) (cap - r)) w := by
  rw [run_cutLow w (some ⟨g, 0, none⟩) 64 cap r (by omega), cutLow]
  split
  · omega
  · rw [Option.map_some, addr_plain, Nat.zero_add]
theorem take_map_get {X : List UInt8} {m j : Nat} {u : Value} (h : ((X.take m).map bv)[j]? = some u) : (X.map bv)[j]? = some u := by
  rw [List.map_take, List.getElem?_take] at h
  split at h
  · exact h
  · cases h
/-- copy into the rest of a sector that was told. -/
theorem copy_told {G : Nat → Prop} (w : World) (g : Nat) (T : TypeId) (C : Array Value) (L X : List UInt8) (vb : Value) (cap r m : Nat) (hC : w.heap[g]? = some (.cells C T (0, 0))) (hCs : C.size = cap) (hL : L.length = 64) (hc : 64 ≤ cap) (hCL : C.toList.take 64 = L.map bv) (hr : r < 64) (hb : BytesIn G w vb X) (hX : X ≠ []) (hm : m = min (64 - r) X.length) :
    ∃ w' C', (∀ ty, (Builtin.copy_ #[37, 37] ty #[.slice (some ⟨g, r, none⟩) (64 - r) (cap - r), vb]).run Tryz.prog w = .ok (.int .i64 m) w') ∧ w'.heap[g]? = some (.cells C' T (0, 0)) ∧ C'.size = cap ∧ C'.toList.take 64 = ((L.take r ++ X.take m ++ L.drop (r + m)).map bv) ∧ Fr (· = g) w w' := by
  obtain ⟨ao, capx, rfl, h1, h2, h3, h4⟩ := hb
  cases ao with
  | none =>
    exfalso
    have := h3 rfl
    exact hX (List.eq_nil_of_length_eq_zero (by omega))
  | some ad =>
    have hcl : ((X.take m).map bv).length = m := by rw [List.length_map, List.length_take]; omega
    have hrun := fun ty => run_copy_row (P := Tryz.prog) w 37 37 ty 5 g r (64 - r) (cap - r) ad X.length capx C T ((X.take m).map bv) Tryz.underlying37 (by kernel_rfl) hC (by rw [hcl, hm]; exact Nat.min_comm _ _)
      (fun j u hu => (h4 ad rfl).1 j u (take_map_get hu)) (by rw [hcl]; omega) (bv_one _)
    have hCl : C.toList.length = cap := by rw [Array.length_toList]; exact hCs
    refine ⟨_, _, fun ty => by rw [hrun ty, hcl]; rfl, setRow_heap w g _ _ _ (0, 0) hC, ?_, ?_, (Fr.refl (· = g) w).setRow (.inl rfl) _⟩
    · simp only [List.size_toArray, List.length_append, List.length_take, List.length_drop, hcl, hCl]
      omega
    · have d1 : C.toList.take r = (L.take r).map bv := by
        rw [List.map_take, ← hCL, List.take_take, Nat.min_eq_left (by omega)]
      have d2 : (C.toList.drop (r + m)).take (64 - (r + m)) = (L.drop (r + m)).map bv := by
        rw [List.map_drop, ← hCL, List.drop_take]
      rw [List.map_append, List.map_append, ← d1, ← d2]
      have hl1 : (C.toList.take r).length = r := by rw [List.length_take]; omega
      rw [List.take_append, List.take_of_length_le (by rw [List.length_append, hl1, hcl]; omega), List.length_append, hl1, hcl]
end Go.Proofs.YtabgklcghghoiaaGreat

