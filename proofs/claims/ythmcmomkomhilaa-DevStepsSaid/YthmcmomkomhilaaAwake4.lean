/- Contract: the laws' own example. -/
import Derived.Test.YthmcmomkomhilaaDOps4
namespace Go.Proofs.Ythmcmomkomhilaa
open Go.RowKit Go.ChangeShapes
set_option linter.unusedVariables false

/-- A device of the call's own, since the world w0. -/
def Dev1 (w0 W : World) (g s : Nat) (d : Dv) : Prop := ∃ D, DevAt W D g s d ∧ (∀ k, D k → w0.heap.size ≤ k ∧ k < W.heap.size) ∧ Fr (fun _ => False) w0 W
theorem Dev1.after {w0 W w' : World} {D : Nat → Prop} {g s : Nat} {d : Dv} (hb : ∀ k, D k → w0.heap.size ≤ k ∧ k < W.heap.size) (hf : Fr (fun _ => False) w0 W) (h : DevAt w' (More D W) g s d) (hf2 : Fr D W w') : Dev1 w0 w' g s d :=
  ⟨fun k => w0.heap.size ≤ k ∧ k < w'.heap.size, h.mono (fun k hk h => ⟨h.elim (fun h => (hb k h).1) (fun h => Nat.le_trans hf.size h), hk⟩), fun k hk => hk, hf.trans hf2 (fun k hk => .inr (hb k hk).1)⟩
theorem Dev1.alloc {w0 W : World} {g s : Nat} {d : Dv} (h : Dev1 w0 W g s d) (o : Obj) : Dev1 w0 (W.alloc o) g s d := by
  obtain ⟨D, h1, h2, h3⟩ := h
  exact ⟨D, h1.keep ((Fr.refl (fun _ => False) W).alloc o) (fun _ _ _ h => h), fun k hk => ⟨(h2 k hk).1, by have := (h2 k hk).2; simp; omega⟩, h3.alloc o⟩
theorem Dev1.right {w0 W : World} {g s : Nat} {d : Dv} (h : Dev1 w0 W g s d) : d.Right s := by
  obtain ⟨D, h1, h2, h3⟩ := h
  exact h1.right
theorem Dev1.fr {w0 W : World} {g s : Nat} {d : Dv} (h : Dev1 w0 W g s d) : Fr (fun _ => False) w0 W := by
  obtain ⟨D, h1, h2, h3⟩ := h
  exact h3
theorem Dev1.quiet {w0 W w' : World} {g s : Nat} {d : Dv} (h : Dev1 w0 W g s d) (hf : Fr (fun _ => False) W w') : Dev1 w0 w' g s d := by
  obtain ⟨D, h1, h2, h3⟩ := h
  exact ⟨D, h1.keep hf (fun _ _ _ h => h), fun k hk => ⟨(h2 k hk).1, Nat.lt_of_lt_of_le (h2 k hk).2 hf.size⟩, h3.trans hf (fun _ h => h.elim)⟩

theorem cNew_any (w : World) (s : Nat) (h1 : 1 ≤ s) (h2 : s ≤ 8192) : Calls Try.prog 9 #[.int .i64 s] w fun e w' => ∃ g, e = .returned (.tuple #[.pointer (some ⟨g, 0, none⟩), .int .i64 0]) ∧ Dev1 w w' g s (Dv.new s) := by
  refine (aNew w s h1 h2).mono ?_
  rintro e w' ⟨g, rfl, h, hf⟩
  exact ⟨g, rfl, _, h.mono (E := fun k => w.heap.size ≤ k ∧ k < w'.heap.size) (fun k hk h => ⟨h, hk⟩), fun k hk => hk, hf⟩
theorem cNew (w : World) : Calls Try.prog 9 #[.int .i64 2] w fun e w' => ∃ g, e = .returned (.tuple #[.pointer (some ⟨g, 0, none⟩), .int .i64 0]) ∧ Dev1 w w' g 2 (Dv.new 2) := cNew_any w 2 (by decide) (by decide)
theorem cFlush (w0 W : World) (g s : Nat) (d : Dv) (hk6 : d.deeds ≤ 1000000000) (hn6 : d.waits.length ≤ 1000000) (h : Dev1 w0 W g s d) :
    Calls Try.prog 16 #[.pointer (some ⟨g, 0, none⟩)] W fun e w' => e = .returned (.int .i64 d.flush.1) ∧ Dev1 w0 w' g s d.flush.2 := by
  obtain ⟨D, h1, h2, h3⟩ := h
  exact (aFlush W g s d hk6 hn6 h1).mono fun e w' ⟨he, hd, hf⟩ => ⟨he, Dev1.after h2 h3 hd hf⟩
theorem cCrash (w0 W : World) (g s : Nat) (d : Dv) (h : Dev1 w0 W g s d) :
    Calls Try.prog 19 #[.pointer (some ⟨g, 0, none⟩)] W fun e w' => e = .returned (.int .i64 d.crash.1) ∧ Dev1 w0 w' g s d.crash.2 := by
  obtain ⟨D, h1, h2, h3⟩ := h
  exact (aCrash W g s d h1).mono fun e w' ⟨he, hd, hf⟩ => ⟨he, Dev1.after h2 h3 hd hf⟩
theorem cFuse (w0 W : World) (g s : Nat) (d : Dv) (n : Int) (hn : n ≤ 9223372036854775807) (hn0 : -9223372036854775808 ≤ n) (h : Dev1 w0 W g s d) :
    Calls Try.prog 22 #[.pointer (some ⟨g, 0, none⟩), .int .i64 n] W fun e w' => e = .returned (.int .i64 (d.fuse n).1) ∧ Dev1 w0 w' g s (d.fuse n).2 := by
  obtain ⟨D, h1, h2, h3⟩ := h
  exact (aFuse W g s d n hn hn0 h1).mono fun e w' ⟨he, hd, hf⟩ => ⟨he, Dev1.after h2 h3 hd hf⟩
theorem cWake (w0 W : World) (g s : Nat) (d : Dv) (keep : Int) (hkp0 : -9223372036854775808 ≤ keep) (hkp1 : keep ≤ 9223372036854775807) (hn6 : d.waits.length ≤ 1000000) (h : Dev1 w0 W g s d) :
    Calls Try.prog 20 #[.pointer (some ⟨g, 0, none⟩), .int .i64 keep] W fun e w' => e = .returned (.int .i64 (d.wake keep).1) ∧ Dev1 w0 w' g s (d.wake keep).2 := by
  obtain ⟨D, h1, h2, h3⟩ := h
  exact (aWake W g s d keep hkp0 hkp1 hn6 h1).mono fun e w' ⟨he, hd, hf⟩ => ⟨he, Dev1.after h2 h3 hd hf⟩
/-- Bytes that lie in no block of a device's. -/
theorem cWrite {G : Nat → Prop} (w0 W : World) (g s : Nat) (d : Dv) (a : Int) (vb : Value) (b : List UInt8) (ha0 : -9223372036854775808 ≤ a) (ha1 : a ≤ 9223372036854775807) (hk6 : d.deeds ≤ 1000000000) (hn6 : d.waits.length + 1 ≤ 1000000) (hb : BytesIn G W vb b) (hG : ∀ k, G k → k < w0.heap.size) (h : Dev1 w0 W g s d) :
    Calls Try.prog 14 #[.pointer (some ⟨g, 0, none⟩), .int .i64 a, vb] W fun e w' => e = .returned (.int .i64 (d.write s a b).1) ∧ Dev1 w0 w' g s (d.write s a b).2 := by
  obtain ⟨D, h1, h2, h3⟩ := h
  exact (aWrite W g s d a vb b ha0 ha1 hk6 hn6 hb (fun k _ hg hd => by have := hG k hg; have := (h2 k hd).1; omega) h1).mono fun e w' ⟨he, hd, hf⟩ => ⟨he, Dev1.after h2 h3 hd hf⟩
/-- One byte, in a slice made for it. -/
theorem cWrite1 (w0 W : World) (g s : Nat) (d : Dv) (a : Int) (x : UInt8) (ha0 : -9223372036854775808 ≤ a) (ha1 : a ≤ 9223372036854775807) (hk6 : d.deeds ≤ 1000000000) (hn6 : d.waits.length + 1 ≤ 1000000) (h : Dev1 w0 W g s d) :
    Calls Try.prog 14 #[.pointer (some ⟨g, 0, none⟩), .int .i64 a, .slice (some ⟨W.heap.size, 0, none⟩) 1 1] (W.alloc (.cells #[.int .u8 x.toNat] 5)) fun e w' => e = .returned (.int .i64 (d.write s a [x]).1) ∧ Dev1 w0 w' g s (d.write s a [x]).2 := by
  obtain ⟨D, h1, h2, h3⟩ := h
  have hf := (Fr.refl (fun _ => False) W).alloc (.cells #[.int .u8 x.toNat] 5)
  have hb : BytesIn (fun k => k = W.heap.size) (W.alloc (.cells #[.int .u8 x.toNat] 5)) (.slice (some ⟨W.heap.size, 0, none⟩) 1 1) [x] := by
    refine ⟨_, 1, rfl, Nat.le_refl _, by decide, (fun h => by cases h), fun p hp => ?_⟩
    cases hp
    refine ⟨fun j u hu => ?_, fun _ => rfl⟩
    rw [addr_plain, Nat.zero_add, cell_of_row _ _ _ _ _ _ (heap_alloc_new W _)]
    simpa [bv] using hu
  have h2' : ∀ k, D k → w0.heap.size ≤ k ∧ k < (W.alloc (.cells #[.int .u8 x.toNat] 5)).heap.size := fun k hk => ⟨(h2 k hk).1, by have := (h2 k hk).2; simp; omega⟩
  exact (aWrite _ g s d a _ [x] ha0 ha1 hk6 hn6 hb (fun k _ hg hd => by have := (h2 k hd).2; omega) (h1.keep hf (fun _ _ _ h => h))).mono fun e w' ⟨he, hd, hf2⟩ => ⟨he, Dev1.after h2' (h3.alloc _) hd hf2⟩
theorem cRead (w0 W : World) (g s : Nat) (d : Dv) (a : Int) (hn6 : d.waits.length ≤ 1000000) (h : Dev1 w0 W g s d) :
    Calls Try.prog 24 #[.pointer (some ⟨g, 0, none⟩), .int .i64 a] W fun e w' => ∃ v, e = .returned (.tuple #[v, .int .i64 (d.read s a).1]) ∧ ToldT (fun k => W.heap.size ≤ k) w' v (d.read s a).2 ∧ Dev1 w0 w' g s d ∧ Fr (fun _ => False) w0 w' := by
  obtain ⟨D, h1, h2, h3⟩ := id h
  exact (aRead W g s d a hn6 h1).mono fun e w' ⟨v, he, ht, hf⟩ => ⟨v, he, ht, h.quiet hf, h3.trans hf (fun _ h => h.elim)⟩
theorem cStat (w0 W : World) (g s : Nat) (d : Dv) (h : Dev1 w0 W g s d) :
    Calls Try.prog 23 #[.pointer (some ⟨g, 0, none⟩)] W fun e w' => e = .returned (.agg #[.int .i64 s, .int .i64 d.waits.length, .int .i64 d.deeds, .bool d.down]) ∧ Dev1 w0 w' g s d := by
  obtain ⟨D, h1, h2, h3⟩ := id h
  exact (aStat W g s d h1).mono fun e w' ⟨he, hf⟩ => ⟨he, h.quiet hf⟩
theorem cKept (w0 W : World) (g s : Nat) (d : Dv) (h : Dev1 w0 W g s d) :
    Calls Try.prog 17 #[.pointer (some ⟨g, 0, none⟩)] W fun e w' => ∃ v, e = .returned v ∧ OwnB (fun k => W.heap.size ≤ k) w' v d.all ∧ Dev1 w0 w' g s d ∧ Fr (fun _ => False) W w' := by
  obtain ⟨D, h1, h2, h3⟩ := id h
  exact (aKept W g s d h1).mono fun e w' ⟨v, he, ho, hf⟩ => ⟨v, he, ho, h.quiet hf, hf⟩

def dA1 : Dv := ((Dv.new 2).write 2 0 [1]).2
def dA2 : Dv := dA1.flush.2
def dA3 : Dv := (dA2.write 2 0 [2]).2
def dA4 : Dv := dA3.crash.2
theorem awake_e1 : ((Dv.new 2).write 2 0 [1]).1 = 0 := by kernel_rfl
theorem awake_e2 : dA1.flush.1 = 0 := by kernel_rfl
theorem awake_e3 : (dA2.write 2 0 [2]).1 = 0 := by kernel_rfl
theorem awake_e4 : dA3.crash.1 = 0 := by kernel_rfl
theorem awake_e5_0 : (dA4.wake 0).1 = 0 := by kernel_rfl
theorem awake_e5_1 : (dA4.wake 1).1 = 0 := by kernel_rfl
theorem awake_read0 : ((((((Dv.new 2).write 2 0 [1]).2.flush.2).write 2 0 [2]).2.crash.2).wake 0).2.read 2 0 = (0, full64 [1]) := by kernel_rfl
theorem awake_read1 : ((((((Dv.new 2).write 2 0 [1]).2.flush.2).write 2 0 [2]).2.crash.2).wake 1).2.read 2 0 = (0, full64 [2]) := by kernel_rfl

set_option maxRecDepth 100000 in
set_option maxHeartbeats 4000000 in
theorem awake_any (w : World) : Calls Try.prog 8 #[] w fun e w' => e = .returned (.bool true) ∧ Fr (fun _ => False) w w' := by
  go_enter Try.func8, Try.ntmps8
  go_wp2_with fail
  go_loopw [1] (fun iv wr => (iv = .int .i64 0 ∨ iv = .int .i64 1 ∨ iv = .int .i64 2) ∧ Hid (Fr (fun _ => False) w wr)) (fun iv _ => 2 - (intOf iv).toNat)
  case atStart => exact ⟨.inl rfl, Lib.hid (Fr.refl _ _)⟩
  case round =>
    obtain ⟨rfl | rfl | rfl, hF⟩ := hrel
    · have HM0 := Lib.hid (cNew wr)
      have hrd := Lib.hid (awake_read0)
      have hFr := hF
      clear hF
      go_wp2_with (first
        | (go_at_call 9; refine HM0.out.mono ?_; rintro e w1 ⟨g, rfl, hd⟩; have HD1 := Lib.hid (cWrite1 wr w1 g 2 _ 0 1 (by decide) (by decide) (by decide) (by decide) hd); clear hd)
        | (go_at_call 14; refine HD1.out.mono ?_; rintro e w2 ⟨he, hd⟩; obtain rfl := he.trans (ret_int awake_e1); have HD2 := Lib.hid (cFlush wr w2 g 2 _ (by decide) (by decide) hd); clear hd he HD1)
        | (go_at_call 16; refine HD2.out.mono ?_; rintro e w3 ⟨he, hd⟩; obtain rfl := he.trans (ret_int awake_e2); have HD3 := Lib.hid (cWrite1 wr w3 g 2 _ 0 2 (by decide) (by decide) (by decide) (by decide) hd); clear hd he HD2)
        | (go_at_call 14; refine HD3.out.mono ?_; rintro e w4 ⟨he, hd⟩; obtain rfl := he.trans (ret_int awake_e3); have HD4 := Lib.hid (cCrash wr w4 g 2 _ hd); clear hd he HD3)
        | (go_at_call 19; refine HD4.out.mono ?_; rintro e w5 ⟨he, hd⟩; obtain rfl := he.trans (ret_int awake_e4); have HD5 := Lib.hid (cWake wr w5 g 2 _ 0 (by decide) (by decide) (by decide) hd); clear hd he HD4)
        | (go_at_call 20; refine HD5.out.mono ?_; rintro e w6 ⟨he, hd⟩; obtain rfl := he.trans (ret_int awake_e5_0); have HD6 := Lib.hid (cRead wr w6 g 2 _ 0 (by decide) hd); clear hd he HD5)
        | (go_at_call 24; refine HD6.out.mono ?_; rintro e w7 ⟨v, he, ht, hd⟩; rw [hrd.out] at he ht; obtain ⟨b7, off7, cap7, rfl, _, _, _, hc7⟩ := ht.bytes.plain (by decide); have hc70 : w7.cell? ⟨b7, off7, none⟩ = some (.int .u8 1) := hc7 0 (by decide); have he2 : e = .returned (.tuple #[.slice (some ⟨b7, off7, none⟩) 64 cap7, .int .i64 0]) := he; obtain rfl := he2; have HF7 := Lib.hid hd.2; clear hc7 ht hd HD6 he))
      go_roundw
      case rel => exact ⟨.inr (.inl rfl), Lib.hid (hFr.out.trans HF7.out (fun _ h => h.elim))⟩
      case measure => simp [intOf]
    · have HM0 := Lib.hid (cNew wr)
      have hrd := Lib.hid (awake_read1)
      have hFr := hF
      clear hF
      go_wp2_with (first
        | (go_at_call 9; refine HM0.out.mono ?_; rintro e w1 ⟨g, rfl, hd⟩; have HD1 := Lib.hid (cWrite1 wr w1 g 2 _ 0 1 (by decide) (by decide) (by decide) (by decide) hd); clear hd)
        | (go_at_call 14; refine HD1.out.mono ?_; rintro e w2 ⟨he, hd⟩; obtain rfl := he.trans (ret_int awake_e1); have HD2 := Lib.hid (cFlush wr w2 g 2 _ (by decide) (by decide) hd); clear hd he HD1)
        | (go_at_call 16; refine HD2.out.mono ?_; rintro e w3 ⟨he, hd⟩; obtain rfl := he.trans (ret_int awake_e2); have HD3 := Lib.hid (cWrite1 wr w3 g 2 _ 0 2 (by decide) (by decide) (by decide) (by decide) hd); clear hd he HD2)
        | (go_at_call 14; refine HD3.out.mono ?_; rintro e w4 ⟨he, hd⟩; obtain rfl := he.trans (ret_int awake_e3); have HD4 := Lib.hid (cCrash wr w4 g 2 _ hd); clear hd he HD3)
        | (go_at_call 19; refine HD4.out.mono ?_; rintro e w5 ⟨he, hd⟩; obtain rfl := he.trans (ret_int awake_e4); have HD5 := Lib.hid (cWake wr w5 g 2 _ 1 (by decide) (by decide) (by decide) hd); clear hd he HD4)
        | (go_at_call 20; refine HD5.out.mono ?_; rintro e w6 ⟨he, hd⟩; obtain rfl := he.trans (ret_int awake_e5_1); have HD6 := Lib.hid (cRead wr w6 g 2 _ 0 (by decide) hd); clear hd he HD5)
        | (go_at_call 24; refine HD6.out.mono ?_; rintro e w7 ⟨v, he, ht, hd⟩; rw [hrd.out] at he ht; obtain ⟨b7, off7, cap7, rfl, _, _, _, hc7⟩ := ht.bytes.plain (by decide); have hc70 : w7.cell? ⟨b7, off7, none⟩ = some (.int .u8 2) := hc7 0 (by decide); have he2 : e = .returned (.tuple #[.slice (some ⟨b7, off7, none⟩) 64 cap7, .int .i64 0]) := he; obtain rfl := he2; have HF7 := Lib.hid hd.2; clear hc7 ht hd HD6 he))
      go_roundw
      case rel => exact ⟨.inr (.inr rfl), Lib.hid (hFr.out.trans HF7.out (fun _ h => h.elim))⟩
      case measure => simp [intOf]
    · go_wp2
      go_ret
      exact ⟨rfl, hF.out⟩
end Go.Proofs.Ythmcmomkomhilaa
