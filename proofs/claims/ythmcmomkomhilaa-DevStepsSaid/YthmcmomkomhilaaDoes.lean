/- Contract: does: a deed done to both devices. -/
import Derived.Test.YthmcmomkomhilaaTwo
import Derived.Test.YthmcmomkomhilaaDevWhole
import Derived.Deep.RegionHeld3
namespace Go.Proofs.Ythmcmomkomhilaa
open Go.RowKit Go.ChangeShapes
set_option linter.unusedVariables false

abbrev deedV (p : DeedD) : Value := .agg #[.int .i64 p.what, .int .i64 p.n, .int .i64 p.bit, p.x]
/-- What a deed leaves. -/
structure Done (w0 w' : World) (gd gr s : Nat) (d : Dv) : Prop where
  ex : ∃ d', Two (fun _ => False) w0 w' gd gr s d' d' ∧ d'.deeds ≤ d.deeds + 1 ∧ d'.waits.length ≤ d.waits.length + 1
theorem Dv.flush_le (d : Dv) : d.flush.2.deeds ≤ d.deeds + 1 ∧ d.flush.2.waits.length ≤ d.waits.length + 1 := by
  unfold Dv.flush Dv.deed
  split
  · exact ⟨Nat.le_succ _, Nat.le_succ _⟩
  · by_cases h : d.left = 1
    · simp [if_pos h]
    · simp [if_neg h]
theorem Dv.fuse_le (d : Dv) (n : Int) : (d.fuse n).2.deeds ≤ d.deeds + 1 ∧ (d.fuse n).2.waits.length ≤ d.waits.length + 1 := by
  unfold Dv.fuse
  split <;> simp
theorem Dv.crash_le (d : Dv) : d.crash.2.deeds ≤ d.deeds + 1 ∧ d.crash.2.waits.length ≤ d.waits.length + 1 := by
  unfold Dv.crash
  split <;> simp
theorem Dv.wake_le (d : Dv) (n : Int) : (d.wake n).2.deeds ≤ d.deeds + 1 ∧ (d.wake n).2.waits.length ≤ d.waits.length + 1 := by
  unfold Dv.wake
  split <;> simp
theorem Dv.spoil_le (d : Dv) (s : Nat) (a n : Int) : (d.spoil s a n).2.deeds ≤ d.deeds + 1 ∧ (d.spoil s a n).2.waits.length ≤ d.waits.length + 1 := by
  unfold Dv.spoil
  split <;> simp
theorem Dv.write_le (d : Dv) (s : Nat) (a : Int) (b : List UInt8) : (d.write s a b).2.deeds ≤ d.deeds + 1 ∧ (d.write s a b).2.waits.length ≤ d.waits.length + 1 := by
  unfold Dv.write Dv.deed
  split
  · exact ⟨Nat.le_succ _, Nat.le_succ _⟩
  · split
    · exact ⟨Nat.le_succ _, Nat.le_succ _⟩
    · by_cases h : d.left = 1
      · simp [if_pos h]
      · simp [if_neg h]
/-- What was lent, without its marks. -/
theorem lent_own {F : Nat → Prop} {w : World} {g c : Nat} {L : List UInt8} (h : LentAt F w g c L) : OwnB F w (.slice (some ⟨g, 0, none⟩) L.length c) L := by
  have h1 := h.2.2.head L.length (by simp) (by simp)
  rwa [List.take_left'] at h1
  rfl
/-- The deed's own block. -/
theorem deed_box (W : World) (p : DeedD) : (W.alloc (.cells #[.int .i64 p.what, .int .i64 p.n, .int .i64 p.bit, p.x] 35)).heap[W.heap.size]? = some (.cells #[.int .i64 p.what, .int .i64 p.n, .int .i64 p.bit, p.x] 35 (0, 0)) := heap_alloc_new W _
structure BoxAt (W : World) (z : Nat) (p : DeedD) : Prop where
  what : W.cell? ⟨z, 0, none⟩ = some (.int .i64 p.what)
  n : W.cell? ⟨z, 1, none⟩ = some (.int .i64 p.n)
  bit : W.cell? ⟨z, 2, none⟩ = some (.int .i64 p.bit)
  x : W.cell? ⟨z, 3, none⟩ = some p.x
theorem BoxAt.keep {S : Nat → Prop} {W w' : World} {z : Nat} {p : DeedD} (h : BoxAt W z p) (hf : Fr S W w') (hz : ¬ S z) : BoxAt w' z p :=
  ⟨hf.cell h.what hz, hf.cell h.n hz, hf.cell h.bit hz, hf.cell h.x hz⟩
theorem BoxAt.made {W w' : World} {p : DeedD} (h : w'.heap[W.heap.size]? = some (.cells #[.int .i64 p.what, .int .i64 p.n, .int .i64 p.bit, p.x] 35 (0, 0))) : BoxAt w' W.heap.size p := by
  refine ⟨?_, ?_, ?_, ?_⟩ <;> exact cell_of_row _ _ _ _ _ _ h

set_option maxRecDepth 100000 in
set_option maxHeartbeats 4000000 in
theorem does_3 {G : Nat → Prop} (w0 W : World) (gd gr s : Nat) (d : Dv) (p : DeedD) (hk : p.what % 8 = 3) (hwf : IntOk p.what ∧ IntOk p.n ∧ IntOk p.bit) (hb : BytesIn G W p.x p.B) (hG : ∀ k, G k → k < w0.heap.size) (hl : p.B.length ≤ 100000) (hd1 : d.deeds ≤ 1000) (hd2 : d.waits.length ≤ 1000) (h : Two (fun _ => False) w0 W gd gr s d d) :
    Calls Try.prog 11 #[.pointer (some ⟨gd, 0, none⟩), .pointer (some ⟨gr, 0, none⟩), deedV p] W fun r w' => r = .returned (.bool true) ∧ Done w0 w' gd gr s d := by
  obtain ⟨W1, hW1⟩ : ∃ W1, W.alloc (.cells #[.int .i64 p.what, .int .i64 p.n, .int .i64 p.bit, p.x] 35) = W1 := ⟨_, rfl⟩
  have hf1 : Fr (fun _ => False) W W1 := by rw [← hW1]; exact (Fr.refl _ _).alloc _
  have hz1 : W1.heap.size = W.heap.size + 1 := by rw [← hW1]; simp
  have hbx : BoxAt W1 W.heap.size p := BoxAt.made (by rw [← hW1]; exact deed_box W p)
  obtain ⟨X, hX⟩ : ∃ X : Nat → Prop, X = (fun k => False ∨ (W.heap.size ≤ k ∧ k < W1.heap.size)) := ⟨_, rfl⟩
  have hXz : X W.heap.size := by rw [hX]; exact .inr ⟨Nat.le_refl _, by omega⟩
  have hw0 : w0.heap.size ≤ W.heap.size := h.fr.size
  have ht : Two X w0 W1 gd gr s d d := by rw [hX]; exact h.add hf1
  have hnb : ¬ Bare X w0 W.heap.size := fun h => h.2 hXz
  have hpk := pick_any p.what 8 W1 (by decide) (by decide) hwf.1.1 hwf.1.2
  rw [hk] at hpk
  have hbW := hb.keep hf1 (fun _ _ _ h => h)
  have hcw := hbx.what
  have hcn := hbx.n
  have HW1 := Lib.hid hW1
  have HZ1 := Lib.hid hz1
  have HX := Lib.hid (And.intro hXz (And.intro hw0 hnb))
  have HPK := Lib.hid hpk
  have HT := Lib.hid ht
  have HBX := Lib.hid hbx
  have HB := Lib.hid hbW
  have HWF := Lib.hid hwf
  have HG := Lib.hid hG
  clear hk hwf hb hG hW1 hf1 hbx hXz hw0 ht hnb hpk hbW h hz1 hX
  have HC := Lib.hid (tFlush w0 W1 gd gr s d d (by omega) (by omega) HT.out)
  have HD2 := Lib.hid (And.intro hd1 hd2)
  clear hcn hd1 hd2
  go_enter Try.func11, Try.ntmps11
  go_wp2_with (first
    | (go_at_call 15; rw [HW1.out]; refine HPK.out.mono ?_; rintro e w2 ⟨rfl, rfl⟩)
    | (go_at_call 16; refine HC.out.mono ?_; rintro e w3 ⟨rfl, h3, hf3⟩; (have HU3 := Lib.hid (uFlush w0 w3 gd gr s _ d (by have := HD2.out.1; omega) (by have := HD2.out.2; omega) h3)); clear h3 hf3 HC)
    | (go_at_call 30; refine HU3.out.mono ?_; rintro e w4 ⟨rfl, h4, hf4⟩; (have HU := Lib.hid (And.intro h4 trivial)); clear h4 hf4 HU3))
  go_ret
  exact ⟨rfl, ⟨_, HU.out.1.less (fun _ h => h.elim), d.flush_le⟩⟩

set_option maxRecDepth 100000 in
set_option maxHeartbeats 4000000 in
theorem does_5 {G : Nat → Prop} (w0 W : World) (gd gr s : Nat) (d : Dv) (p : DeedD) (hk : p.what % 8 = 5) (hwf : IntOk p.what ∧ IntOk p.n ∧ IntOk p.bit) (hb : BytesIn G W p.x p.B) (hG : ∀ k, G k → k < w0.heap.size) (hl : p.B.length ≤ 100000) (hd1 : d.deeds ≤ 1000) (hd2 : d.waits.length ≤ 1000) (h : Two (fun _ => False) w0 W gd gr s d d) :
    Calls Try.prog 11 #[.pointer (some ⟨gd, 0, none⟩), .pointer (some ⟨gr, 0, none⟩), deedV p] W fun r w' => r = .returned (.bool true) ∧ Done w0 w' gd gr s d := by
  obtain ⟨W1, hW1⟩ : ∃ W1, W.alloc (.cells #[.int .i64 p.what, .int .i64 p.n, .int .i64 p.bit, p.x] 35) = W1 := ⟨_, rfl⟩
  have hf1 : Fr (fun _ => False) W W1 := by rw [← hW1]; exact (Fr.refl _ _).alloc _
  have hz1 : W1.heap.size = W.heap.size + 1 := by rw [← hW1]; simp
  have hbx : BoxAt W1 W.heap.size p := BoxAt.made (by rw [← hW1]; exact deed_box W p)
  obtain ⟨X, hX⟩ : ∃ X : Nat → Prop, X = (fun k => False ∨ (W.heap.size ≤ k ∧ k < W1.heap.size)) := ⟨_, rfl⟩
  have hXz : X W.heap.size := by rw [hX]; exact .inr ⟨Nat.le_refl _, by omega⟩
  have hw0 : w0.heap.size ≤ W.heap.size := h.fr.size
  have ht : Two X w0 W1 gd gr s d d := by rw [hX]; exact h.add hf1
  have hnb : ¬ Bare X w0 W.heap.size := fun h => h.2 hXz
  have hpk := pick_any p.what 8 W1 (by decide) (by decide) hwf.1.1 hwf.1.2
  rw [hk] at hpk
  have hbW := hb.keep hf1 (fun _ _ _ h => h)
  have hcw := hbx.what
  have hcn := hbx.n
  have HW1 := Lib.hid hW1
  have HZ1 := Lib.hid hz1
  have HX := Lib.hid (And.intro hXz (And.intro hw0 hnb))
  have HPK := Lib.hid hpk
  have HT := Lib.hid ht
  have HBX := Lib.hid hbx
  have HB := Lib.hid hbW
  have HWF := Lib.hid hwf
  have HG := Lib.hid hG
  clear hk hwf hb hG hW1 hf1 hbx hXz hw0 ht hnb hpk hbW h hz1 hX
  have HC := Lib.hid (tCrash w0 W1 gd gr s d d HT.out)
  clear hcn hd1 hd2
  go_enter Try.func11, Try.ntmps11
  go_wp2_with (first
    | (go_at_call 15; rw [HW1.out]; refine HPK.out.mono ?_; rintro e w2 ⟨rfl, rfl⟩)
    | (go_at_call 19; refine HC.out.mono ?_; rintro e w3 ⟨rfl, h3, hf3⟩; (have HU3 := Lib.hid (uCrash w0 w3 gd gr s _ d h3)); clear h3 hf3 HC)
    | (go_at_call 32; refine HU3.out.mono ?_; rintro e w4 ⟨rfl, h4, hf4⟩; (have HU := Lib.hid (And.intro h4 trivial)); clear h4 hf4 HU3))
  go_ret
  exact ⟨rfl, ⟨_, HU.out.1.less (fun _ h => h.elim), d.crash_le⟩⟩

set_option maxRecDepth 100000 in
set_option maxHeartbeats 4000000 in
theorem does_4 {G : Nat → Prop} (w0 W : World) (gd gr s : Nat) (d : Dv) (p : DeedD) (hk : p.what % 8 = 4) (hwf : IntOk p.what ∧ IntOk p.n ∧ IntOk p.bit) (hb : BytesIn G W p.x p.B) (hG : ∀ k, G k → k < w0.heap.size) (hl : p.B.length ≤ 100000) (hd1 : d.deeds ≤ 1000) (hd2 : d.waits.length ≤ 1000) (h : Two (fun _ => False) w0 W gd gr s d d) :
    Calls Try.prog 11 #[.pointer (some ⟨gd, 0, none⟩), .pointer (some ⟨gr, 0, none⟩), deedV p] W fun r w' => r = .returned (.bool true) ∧ Done w0 w' gd gr s d := by
  obtain ⟨W1, hW1⟩ : ∃ W1, W.alloc (.cells #[.int .i64 p.what, .int .i64 p.n, .int .i64 p.bit, p.x] 35) = W1 := ⟨_, rfl⟩
  have hf1 : Fr (fun _ => False) W W1 := by rw [← hW1]; exact (Fr.refl _ _).alloc _
  have hz1 : W1.heap.size = W.heap.size + 1 := by rw [← hW1]; simp
  have hbx : BoxAt W1 W.heap.size p := BoxAt.made (by rw [← hW1]; exact deed_box W p)
  obtain ⟨X, hX⟩ : ∃ X : Nat → Prop, X = (fun k => False ∨ (W.heap.size ≤ k ∧ k < W1.heap.size)) := ⟨_, rfl⟩
  have hXz : X W.heap.size := by rw [hX]; exact .inr ⟨Nat.le_refl _, by omega⟩
  have hw0 : w0.heap.size ≤ W.heap.size := h.fr.size
  have ht : Two X w0 W1 gd gr s d d := by rw [hX]; exact h.add hf1
  have hnb : ¬ Bare X w0 W.heap.size := fun h => h.2 hXz
  have hpk := pick_any p.what 8 W1 (by decide) (by decide) hwf.1.1 hwf.1.2
  rw [hk] at hpk
  have hbW := hb.keep hf1 (fun _ _ _ h => h)
  have hcw := hbx.what
  have hcn := hbx.n
  have HW1 := Lib.hid hW1
  have HZ1 := Lib.hid hz1
  have HX := Lib.hid (And.intro hXz (And.intro hw0 hnb))
  have HPK := Lib.hid hpk
  have HT := Lib.hid ht
  have HBX := Lib.hid hbx
  have HB := Lib.hid hbW
  have HWF := Lib.hid hwf
  have HG := Lib.hid hG
  clear hk hwf hb hG hW1 hf1 hbx hXz hw0 ht hnb hpk hbW h hz1 hX
  have HD2 := Lib.hid (And.intro hd1 hd2)
  have HC := Lib.hid (tFuse w0 W1.drew gd gr s d d p.n HWF.out.2.1.1 HWF.out.2.1.2 (HT.out.quiet (Fr.refl _ _).drew))
  clear hd1 hd2
  go_enter Try.func11, Try.ntmps11
  go_wp2_with (go_at_call 15; rw [HW1.out]; refine HPK.out.mono ?_; rintro e w2 ⟨rfl, rfl⟩)
  go_region_held3 (fun w' => w'.cell? ⟨W.heap.size, 1, none⟩ = some (.int .i64 p.n)) (first | assumption | go_keep)
    (first
      | (go_at_call 22; refine HC.out.mono ?_; rintro e w3 ⟨rfl, h3, hf3⟩; (have cn3 := hf3.cell hcn HX.out.2.2); (have HU3 := Lib.hid (uFuse w0 w3 gd gr s _ d p.n HWF.out.2.1.1 HWF.out.2.1.2 h3)); clear h3 hf3 HC)
      | (go_at_call 31; refine HU3.out.mono ?_; rintro e w4 ⟨rfl, h4, hf4⟩; (have cn4 := hf4.cell cn3 HX.out.2.2); (have HU := Lib.hid (And.intro h4 trivial)); clear h4 hf4 HU3))
  go_wp2
  go_ret
  exact ⟨rfl, ⟨_, HU.out.1.less (fun _ h => h.elim), d.fuse_le p.n⟩⟩

set_option maxRecDepth 100000 in
set_option maxHeartbeats 4000000 in
theorem does_6 {G : Nat → Prop} (w0 W : World) (gd gr s : Nat) (d : Dv) (p : DeedD) (hk : p.what % 8 = 6) (hwf : IntOk p.what ∧ IntOk p.n ∧ IntOk p.bit) (hb : BytesIn G W p.x p.B) (hG : ∀ k, G k → k < w0.heap.size) (hl : p.B.length ≤ 100000) (hd1 : d.deeds ≤ 1000) (hd2 : d.waits.length ≤ 1000) (h : Two (fun _ => False) w0 W gd gr s d d) :
    Calls Try.prog 11 #[.pointer (some ⟨gd, 0, none⟩), .pointer (some ⟨gr, 0, none⟩), deedV p] W fun r w' => r = .returned (.bool true) ∧ Done w0 w' gd gr s d := by
  obtain ⟨W1, hW1⟩ : ∃ W1, W.alloc (.cells #[.int .i64 p.what, .int .i64 p.n, .int .i64 p.bit, p.x] 35) = W1 := ⟨_, rfl⟩
  have hf1 : Fr (fun _ => False) W W1 := by rw [← hW1]; exact (Fr.refl _ _).alloc _
  have hz1 : W1.heap.size = W.heap.size + 1 := by rw [← hW1]; simp
  have hbx : BoxAt W1 W.heap.size p := BoxAt.made (by rw [← hW1]; exact deed_box W p)
  obtain ⟨X, hX⟩ : ∃ X : Nat → Prop, X = (fun k => False ∨ (W.heap.size ≤ k ∧ k < W1.heap.size)) := ⟨_, rfl⟩
  have hXz : X W.heap.size := by rw [hX]; exact .inr ⟨Nat.le_refl _, by omega⟩
  have hw0 : w0.heap.size ≤ W.heap.size := h.fr.size
  have ht : Two X w0 W1 gd gr s d d := by rw [hX]; exact h.add hf1
  have hnb : ¬ Bare X w0 W.heap.size := fun h => h.2 hXz
  have hpk := pick_any p.what 8 W1 (by decide) (by decide) hwf.1.1 hwf.1.2
  rw [hk] at hpk
  have hbW := hb.keep hf1 (fun _ _ _ h => h)
  have hcw := hbx.what
  have hcn := hbx.n
  have HW1 := Lib.hid hW1
  have HZ1 := Lib.hid hz1
  have HX := Lib.hid (And.intro hXz (And.intro hw0 hnb))
  have HPK := Lib.hid hpk
  have HT := Lib.hid ht
  have HBX := Lib.hid hbx
  have HB := Lib.hid hbW
  have HWF := Lib.hid hwf
  have HG := Lib.hid hG
  clear hk hwf hb hG hW1 hf1 hbx hXz hw0 ht hnb hpk hbW h hz1 hX
  have HD2 := Lib.hid (And.intro hd1 hd2)
  have HC := Lib.hid (tWake w0 W1.drew gd gr s d d p.n HWF.out.2.1.1 HWF.out.2.1.2 (by have := HD2.out.2; omega) (HT.out.quiet (Fr.refl _ _).drew))
  clear hd1 hd2
  go_enter Try.func11, Try.ntmps11
  go_wp2_with (go_at_call 15; rw [HW1.out]; refine HPK.out.mono ?_; rintro e w2 ⟨rfl, rfl⟩)
  go_region_held3 (fun w' => w'.cell? ⟨W.heap.size, 1, none⟩ = some (.int .i64 p.n)) (first | assumption | go_keep)
    (first
      | (go_at_call 20; refine HC.out.mono ?_; rintro e w3 ⟨rfl, h3, hf3⟩; (have cn3 := hf3.cell hcn HX.out.2.2); (have HU3 := Lib.hid (uWake w0 w3 gd gr s _ d p.n HWF.out.2.1.1 HWF.out.2.1.2 (by have := HD2.out.2; omega) h3)); clear h3 hf3 HC)
      | (go_at_call 33; refine HU3.out.mono ?_; rintro e w4 ⟨rfl, h4, hf4⟩; (have cn4 := hf4.cell cn3 HX.out.2.2); (have HU := Lib.hid (And.intro h4 trivial)); clear h4 hf4 HU3))
  go_wp2
  go_ret
  exact ⟨rfl, ⟨_, HU.out.1.less (fun _ h => h.elim), d.wake_le p.n⟩⟩

set_option maxRecDepth 100000 in
set_option maxHeartbeats 4000000 in
theorem does_7 {G : Nat → Prop} (w0 W : World) (gd gr s : Nat) (d : Dv) (p : DeedD) (hk : p.what % 8 = 7) (hwf : IntOk p.what ∧ IntOk p.n ∧ IntOk p.bit) (hb : BytesIn G W p.x p.B) (hG : ∀ k, G k → k < w0.heap.size) (hl : p.B.length ≤ 100000) (hd1 : d.deeds ≤ 1000) (hd2 : d.waits.length ≤ 1000) (h : Two (fun _ => False) w0 W gd gr s d d) :
    Calls Try.prog 11 #[.pointer (some ⟨gd, 0, none⟩), .pointer (some ⟨gr, 0, none⟩), deedV p] W fun r w' => r = .returned (.bool true) ∧ Done w0 w' gd gr s d := by
  obtain ⟨W1, hW1⟩ : ∃ W1, W.alloc (.cells #[.int .i64 p.what, .int .i64 p.n, .int .i64 p.bit, p.x] 35) = W1 := ⟨_, rfl⟩
  have hf1 : Fr (fun _ => False) W W1 := by rw [← hW1]; exact (Fr.refl _ _).alloc _
  have hz1 : W1.heap.size = W.heap.size + 1 := by rw [← hW1]; simp
  have hbx : BoxAt W1 W.heap.size p := BoxAt.made (by rw [← hW1]; exact deed_box W p)
  obtain ⟨X, hX⟩ : ∃ X : Nat → Prop, X = (fun k => False ∨ (W.heap.size ≤ k ∧ k < W1.heap.size)) := ⟨_, rfl⟩
  have hXz : X W.heap.size := by rw [hX]; exact .inr ⟨Nat.le_refl _, by omega⟩
  have hw0 : w0.heap.size ≤ W.heap.size := h.fr.size
  have ht : Two X w0 W1 gd gr s d d := by rw [hX]; exact h.add hf1
  have hnb : ¬ Bare X w0 W.heap.size := fun h => h.2 hXz
  have hpk := pick_any p.what 8 W1 (by decide) (by decide) hwf.1.1 hwf.1.2
  rw [hk] at hpk
  have hbW := hb.keep hf1 (fun _ _ _ h => h)
  have hcw := hbx.what
  have hcn := hbx.n
  have HW1 := Lib.hid hW1
  have HZ1 := Lib.hid hz1
  have HX := Lib.hid (And.intro hXz (And.intro hw0 hnb))
  have HPK := Lib.hid hpk
  have HT := Lib.hid ht
  have HBX := Lib.hid hbx
  have HB := Lib.hid hbW
  have HWF := Lib.hid hwf
  have HG := Lib.hid hG
  clear hk hwf hb hG hW1 hf1 hbx hXz hw0 ht hnb hpk hbW h hz1 hX
  have hcb := HBX.out.bit
  have HD2 := Lib.hid (And.intro hd1 hd2)
  have HC := Lib.hid (tSpoil w0 W1.drew gd gr s d d p.n p.bit (HT.out.quiet (Fr.refl _ _).drew))
  clear hd1 hd2
  go_enter Try.func11, Try.ntmps11
  go_wp2_with (go_at_call 15; rw [HW1.out]; refine HPK.out.mono ?_; rintro e w2 ⟨rfl, rfl⟩)
  go_region_held3 (fun w' => w'.cell? ⟨W.heap.size, 1, none⟩ = some (.int .i64 p.n) ∧ w'.cell? ⟨W.heap.size, 2, none⟩ = some (.int .i64 p.bit)) (first | exact ⟨by assumption, by assumption⟩ | go_keep)
    (first
      | (go_at_call 34; refine HC.out.mono ?_; rintro e w3 ⟨rfl, h3, hf3⟩; (have cn3 := hf3.cell hcn HX.out.2.2); (have cb3 := hf3.cell hcb HX.out.2.2); (have HU3 := Lib.hid (uSpoil w0 w3 gd gr s _ d p.n p.bit h3)); clear h3 hf3 HC)
      | (go_at_call 35; refine HU3.out.mono ?_; rintro e w4 ⟨rfl, h4, hf4⟩; (have cn4 := hf4.cell cn3 HX.out.2.2); (have cb4 := hf4.cell cb3 HX.out.2.2); (have HU := Lib.hid (And.intro h4 trivial)); clear h4 hf4 HU3))
  go_wp2
  go_ret
  exact ⟨rfl, ⟨_, HU.out.1.less (fun _ h => h.elim), d.spoil_le s p.n p.bit⟩⟩

theorem ToldT.own {F : Nat → Prop} {w : World} {v : Value} {L : List UInt8} (h : ToldT F w v L) (k : Nat) (hk : v.ownBlock = some k) : F k := by
  rcases h with ⟨rfl, _⟩ | ⟨b, T, C, cap, rfl, h2, _⟩
  · simp [Value.ownBlock] at hk
  · simp only [Value.ownBlock, Option.some.injEq] at hk
    exact hk ▸ h2
theorem Dv.read_len {d : Dv} {s : Nat} (h : d.Right s) (a : Int) : (d.read s a).2.length ≤ 64 := by
  unfold Dv.read
  split
  · simp
  · split
    · simp
    · next hn => exact Nat.le_of_eq (Dv.seen_length h (by omega))
set_option maxRecDepth 100000 in
set_option maxHeartbeats 4000000 in
theorem does_0 {G : Nat → Prop} (w0 W : World) (gd gr s : Nat) (d : Dv) (p : DeedD) (hk : p.what % 8 = 0) (hwf : IntOk p.what ∧ IntOk p.n ∧ IntOk p.bit) (hb : BytesIn G W p.x p.B) (hG : ∀ k, G k → k < w0.heap.size) (hl : p.B.length ≤ 100000) (hd1 : d.deeds ≤ 1000) (hd2 : d.waits.length ≤ 1000) (h : Two (fun _ => False) w0 W gd gr s d d) :
    Calls Try.prog 11 #[.pointer (some ⟨gd, 0, none⟩), .pointer (some ⟨gr, 0, none⟩), deedV p] W fun r w' => r = .returned (.bool true) ∧ Done w0 w' gd gr s d := by
  obtain ⟨W1, hW1⟩ : ∃ W1, W.alloc (.cells #[.int .i64 p.what, .int .i64 p.n, .int .i64 p.bit, p.x] 35) = W1 := ⟨_, rfl⟩
  have hf1 : Fr (fun _ => False) W W1 := by rw [← hW1]; exact (Fr.refl _ _).alloc _
  have hz1 : W1.heap.size = W.heap.size + 1 := by rw [← hW1]; simp
  have hbx : BoxAt W1 W.heap.size p := BoxAt.made (by rw [← hW1]; exact deed_box W p)
  obtain ⟨X, hX⟩ : ∃ X : Nat → Prop, X = (fun k => False ∨ (W.heap.size ≤ k ∧ k < W1.heap.size)) := ⟨_, rfl⟩
  have hXz : X W.heap.size := by rw [hX]; exact .inr ⟨Nat.le_refl _, by omega⟩
  have hw0 : w0.heap.size ≤ W.heap.size := h.fr.size
  have ht : Two X w0 W1 gd gr s d d := by rw [hX]; exact h.add hf1
  have hnb : ¬ Bare X w0 W.heap.size := fun h => h.2 hXz
  have hpk := pick_any p.what 8 W1 (by decide) (by decide) hwf.1.1 hwf.1.2
  rw [hk] at hpk
  have hbW := hb.keep hf1 (fun _ _ _ h => h)
  have hcw := hbx.what
  have hcn := hbx.n
  have HW1 := Lib.hid hW1
  have HZ1 := Lib.hid hz1
  have HX := Lib.hid (And.intro hXz (And.intro hw0 hnb))
  have HPK := Lib.hid hpk
  have HT := Lib.hid ht
  have HBX := Lib.hid hbx
  have HB := Lib.hid hbW
  have HWF := Lib.hid hwf
  have HG := Lib.hid hG
  clear hk hwf hb hG hW1 hf1 hbx hXz hw0 ht hnb hpk hbW h hz1 hX
  obtain ⟨c, hc⟩ : ∃ c, c = (d.read s p.n).1 := ⟨_, rfl⟩
  obtain ⟨B, hB⟩ : ∃ B, B = (d.read s p.n).2 := ⟨_, rfl⟩
  have hBl : B.length ≤ 64 := by rw [hB]; exact Dv.read_len HT.out.right.1 _
  have HRD := Lib.hid (And.intro hc hB)
  have HBL := Lib.hid hBl
  have HD2 := Lib.hid hd2
  have hcc : (c == c) = true := by simp
  have hc3 := tRead w0 W1 gd gr s d d p.n (by omega) HT.out
  rw [← hc, ← hB] at hc3
  have HC := Lib.hid hc3
  clear hd1 hd2 hc hB hBl hc3
  go_enter Try.func11, Try.ntmps11
  go_wp2_with (first
    | (go_at_call 15; rw [HW1.out]; refine HPK.out.mono ?_; rintro e w2 ⟨rfl, rfl⟩)
    | (go_at_call 24; refine HC.out.mono ?_; rintro e w3 ⟨v3, rfl, ho3, h3, hf3⟩; (have cn3 := hf3.cell hcn (fun h => h)); (have hu3 := uRead w0 w3 gd gr s d d p.n (by have := HD2.out; omega) h3); rw [← HRD.out.1, ← HRD.out.2] at hu3; (have HU3 := Lib.hid hu3); (have HO3 := Lib.hid ho3); (have HF3 := Lib.hid hf3); clear h3 hf3 ho3 hu3 HC)
    | (go_at_call 25; refine HU3.out.mono ?_; rintro e w4 ⟨v4, rfl, ho4, h4, hf4⟩; (have HO4 := Lib.hid (HO3.out.keep hf4 (fun _ _ _ h => h))); (have HSB := Lib.hid (same_any v3 v4 B B w4 HO4.out.bytes ho4)); (have HF4 := Lib.hid (HF3.out.trans hf4 (fun _ h => h.elim))); clear h4 hf4 ho4 HU3)
    | (go_at_call 18; refine HSB.out.mono ?_; rintro e w5 ⟨rfl, n5, rfl⟩; rw [sameB_eq rfl]; (have HOV := Lib.hid (OverT_any v3 B (_root_.Go.World.drewN w4 n5) (HO4.out.keep ((Fr.refl (fun _ => False) w4).drewN n5) (fun _ _ _ h => h)) (by have := HBL.out; omega))); clear HSB)
    | (go_at_call 26; refine HOV.out.mono ?_; rintro e w6 ⟨rfl, hf6⟩; (have HU := Lib.hid (And.intro (HT.out.away (S := fun k => W1.heap.size ≤ k) (((HF4.out.drewN n5).mono (fun _ _ h => h.elim)).trans hf6 (fun k hk => .inl (HO3.out.own k hk))) (fun k hk => .inr hk)) trivial)); clear hf6 HOV))
  go_ret
  exact ⟨rfl, ⟨_, HU.out.1.less (fun _ h => h.elim), Nat.le_succ _, Nat.le_succ _⟩⟩

set_option maxRecDepth 100000 in
set_option maxHeartbeats 4000000 in
theorem does_1 {G : Nat → Prop} (w0 W : World) (gd gr s : Nat) (d : Dv) (p : DeedD) (hk : p.what % 8 = 1) (hwf : IntOk p.what ∧ IntOk p.n ∧ IntOk p.bit) (hb : BytesIn G W p.x p.B) (hG : ∀ k, G k → k < w0.heap.size) (hl : p.B.length ≤ 100000) (hd1 : d.deeds ≤ 1000) (hd2 : d.waits.length ≤ 1000) (h : Two (fun _ => False) w0 W gd gr s d d) :
    Calls Try.prog 11 #[.pointer (some ⟨gd, 0, none⟩), .pointer (some ⟨gr, 0, none⟩), deedV p] W fun r w' => r = .returned (.bool true) ∧ Done w0 w' gd gr s d := by
  obtain ⟨W1, hW1⟩ : ∃ W1, W.alloc (.cells #[.int .i64 p.what, .int .i64 p.n, .int .i64 p.bit, p.x] 35) = W1 := ⟨_, rfl⟩
  have hf1 : Fr (fun _ => False) W W1 := by rw [← hW1]; exact (Fr.refl _ _).alloc _
  have hz1 : W1.heap.size = W.heap.size + 1 := by rw [← hW1]; simp
  have hbx : BoxAt W1 W.heap.size p := BoxAt.made (by rw [← hW1]; exact deed_box W p)
  obtain ⟨X, hX⟩ : ∃ X : Nat → Prop, X = (fun k => False ∨ (W.heap.size ≤ k ∧ k < W1.heap.size)) := ⟨_, rfl⟩
  have hXz : X W.heap.size := by rw [hX]; exact .inr ⟨Nat.le_refl _, by omega⟩
  have hw0 : w0.heap.size ≤ W.heap.size := h.fr.size
  have ht : Two X w0 W1 gd gr s d d := by rw [hX]; exact h.add hf1
  have hnb : ¬ Bare X w0 W.heap.size := fun h => h.2 hXz
  have hpk := pick_any p.what 8 W1 (by decide) (by decide) hwf.1.1 hwf.1.2
  rw [hk] at hpk
  have hbW := hb.keep hf1 (fun _ _ _ h => h)
  have hcw := hbx.what
  have hcn := hbx.n
  have HW1 := Lib.hid hW1
  have HZ1 := Lib.hid hz1
  have HX := Lib.hid (And.intro hXz (And.intro hw0 hnb))
  have HPK := Lib.hid hpk
  have HT := Lib.hid ht
  have HBX := Lib.hid hbx
  have HB := Lib.hid hbW
  have HWF := Lib.hid hwf
  have HG := Lib.hid hG
  clear hk hwf hb hG hW1 hf1 hbx hXz hw0 ht hnb hpk hbW h hz1 hX
  have HD2 := Lib.hid (And.intro hd1 (And.intro hd2 hl))
  have HL := Lib.hid (LentBytes_any p.x p.B W1 HB.out (by omega))
  have HW0 := Lib.hid (show w0.heap.size ≤ W1.heap.size from HT.out.fr.size)
  have hcx := HBX.out.x
  clear hd1 hd2 hl
  go_enter Try.func11, Try.ntmps11
  go_wp2_with (first
    | (go_at_call 15; rw [HW1.out]; refine HPK.out.mono ?_; rintro e w2 ⟨rfl, rfl⟩)
    | (go_at_call 27; refine HL.out.mono ?_; rintro e w3 ⟨g3, c3, rfl, hl3, hf3⟩; (have cn3 := hf3.cell hcn (fun h => h)); obtain ⟨X3, hX3⟩ : ∃ X3 : Nat → Prop, X3 = (fun k => X k ∨ (W1.heap.size ≤ k ∧ k < w3.heap.size)) := ⟨_, rfl⟩; (have HX3 := Lib.hid hX3); (have HT3 := Lib.hid (show Two X3 w0 w3 gd gr s d d by rw [hX3]; exact HT.out.add hf3)); (have HL3 := Lib.hid (show LentAt (fun k => W1.heap.size ≤ k ∧ k < w3.heap.size) w3 g3 c3 p.B from ⟨hl3.1, hl3.2.1, hl3.2.2.mono (fun k hk h => ⟨h, hk⟩)⟩)); (have HO3 := Lib.hid (lent_own HL3.out)); (have HF3 := Lib.hid hf3); (have HC := Lib.hid (tWrite w0 w3 gd gr s d d p.n (.slice (some ⟨g3, 0, none⟩) p.B.length c3) p.B HWF.out.2.1.1 HWF.out.2.1.2 (by have := HD2.out.1; omega) (by have := HD2.out.2.1; omega) HO3.out.bytes (fun k hk => .inr (by rw [hX3]; exact .inr hk)) HT3.out)); clear hl3 hf3 HL hX3)
    | (go_at_call 14; refine HC.out.mono ?_; rintro e w4 ⟨rfl, h4, hf4⟩; (have cx4 := hf4.cell (HF3.out.cell hcx (fun h => h)) (fun h => h.2 (by rw [HX3.out]; exact .inl HX.out.1))); (have cn4 := hf4.cell cn3 (fun h => h.2 (by rw [HX3.out]; exact .inl HX.out.1))); (have hnot : ∀ k, k < w3.heap.size → (W1.heap.size ≤ k ∧ k < w3.heap.size) → ¬ Bare X3 w0 k := fun k _ hk h => h.2 (by rw [HX3.out]; exact .inr hk)); (have HL4 := Lib.hid (show LentAt (fun k => W1.heap.size ≤ k ∧ k < w3.heap.size) w4 g3 c3 p.B from ⟨HL3.out.1, HL3.out.2.1, HL3.out.2.2.keep hf4 hnot⟩)); (have HO4 := Lib.hid (HO3.out.keep hf4 hnot)); (have HB4 := Lib.hid ((HB.out.keep HF3.out (fun _ _ _ h => h)).keep hf4 (fun k _ hg h => by have := HG.out k hg; have := h.1; omega))); (have HT4 := Lib.hid h4); (have HK4 := Lib.hid (KeptBytes_any p.x g3 c3 p.B w4 HB4.out HL4.out (by have := HD2.out.2.2; omega))); clear h4 hf4 HC hnot)
    | (go_at_call 28; refine HK4.out.mono ?_; rintro e w5 ⟨rfl, n5, rfl⟩; (have HOV := Lib.hid (OverT_any (.slice (some ⟨g3, 0, none⟩) p.B.length c3) p.B (_root_.Go.World.drewN w4 n5) (ToldT.ofOwn (HO4.out.keep ((Fr.refl (fun _ => False) w4).drewN n5) (fun _ _ _ h => h))) (by have := HD2.out.2.2; omega))); clear HK4)
    | (go_at_call 26; refine HOV.out.mono ?_; rintro e w6 ⟨rfl, hf6'⟩; (have hf6 := ((Fr.refl (fun _ => False) w4).drewN n5 |>.mono (T := fun k => W1.heap.size ≤ k ∧ k < w3.heap.size) (fun _ _ h => h.elim)).trans hf6' (fun k hk => .inl (HO4.out.2 k hk))); (have hzb : ¬ (W1.heap.size ≤ W.heap.size ∧ W.heap.size < w3.heap.size) := fun h => by have := HZ1.out; omega); (have cn6 := hf6.cell cn4 hzb); (have cx6 := hf6.cell cx4 hzb); (have HU6 := Lib.hid (uWrite w0 w6 gd gr s _ d p.n p.x p.B (by have := HD2.out.1; omega) (by have := HD2.out.2.1; omega) (HB4.out.keep hf6 (fun k _ hg h => by have := HG.out k hg; have := h.1; have := HW0.out; omega)) (fun k hk => .inl (HG.out k hk)) (HT4.out.away hf6 (fun k hk => .inl ⟨by rw [HX3.out]; exact .inr hk, Nat.le_trans HW0.out hk.1⟩)))); clear hf6 hf6' HOV hzb)
    | (go_at_call 29; refine HU6.out.mono ?_; rintro e w7 ⟨rfl, h7, hf7⟩; (have HU := Lib.hid (And.intro h7 trivial)); clear h7 hf7 HU6))
  go_ret
  exact ⟨rfl, ⟨_, HU.out.1.less (fun _ h => h.elim), d.write_le s p.n p.B⟩⟩

set_option maxRecDepth 100000 in
set_option maxHeartbeats 4000000 in
theorem does_2 {G : Nat → Prop} (w0 W : World) (gd gr s : Nat) (d : Dv) (p : DeedD) (hk : p.what % 8 = 2) (hwf : IntOk p.what ∧ IntOk p.n ∧ IntOk p.bit) (hb : BytesIn G W p.x p.B) (hG : ∀ k, G k → k < w0.heap.size) (hl : p.B.length ≤ 100000) (hd1 : d.deeds ≤ 1000) (hd2 : d.waits.length ≤ 1000) (h : Two (fun _ => False) w0 W gd gr s d d) :
    Calls Try.prog 11 #[.pointer (some ⟨gd, 0, none⟩), .pointer (some ⟨gr, 0, none⟩), deedV p] W fun r w' => r = .returned (.bool true) ∧ Done w0 w' gd gr s d := by
  obtain ⟨W1, hW1⟩ : ∃ W1, W.alloc (.cells #[.int .i64 p.what, .int .i64 p.n, .int .i64 p.bit, p.x] 35) = W1 := ⟨_, rfl⟩
  have hf1 : Fr (fun _ => False) W W1 := by rw [← hW1]; exact (Fr.refl _ _).alloc _
  have hz1 : W1.heap.size = W.heap.size + 1 := by rw [← hW1]; simp
  have hbx : BoxAt W1 W.heap.size p := BoxAt.made (by rw [← hW1]; exact deed_box W p)
  obtain ⟨X, hX⟩ : ∃ X : Nat → Prop, X = (fun k => False ∨ (W.heap.size ≤ k ∧ k < W1.heap.size)) := ⟨_, rfl⟩
  have hXz : X W.heap.size := by rw [hX]; exact .inr ⟨Nat.le_refl _, by omega⟩
  have hw0 : w0.heap.size ≤ W.heap.size := h.fr.size
  have ht : Two X w0 W1 gd gr s d d := by rw [hX]; exact h.add hf1
  have hnb : ¬ Bare X w0 W.heap.size := fun h => h.2 hXz
  have hpk := pick_any p.what 8 W1 (by decide) (by decide) hwf.1.1 hwf.1.2
  rw [hk] at hpk
  have hbW := hb.keep hf1 (fun _ _ _ h => h)
  have hcw := hbx.what
  have hcn := hbx.n
  have HW1 := Lib.hid hW1
  have HZ1 := Lib.hid hz1
  have HX := Lib.hid (And.intro hXz (And.intro hw0 hnb))
  have HPK := Lib.hid hpk
  have HT := Lib.hid ht
  have HBX := Lib.hid hbx
  have HB := Lib.hid hbW
  have HWF := Lib.hid hwf
  have HG := Lib.hid hG
  clear hk hwf hb hG hW1 hf1 hbx hXz hw0 ht hnb hpk hbW h hz1 hX
  have HD2 := Lib.hid (And.intro hd1 (And.intro hd2 hl))
  have HL := Lib.hid (LentBytes_any p.x p.B W1 HB.out (by omega))
  have HW0 := Lib.hid (show w0.heap.size ≤ W1.heap.size from HT.out.fr.size)
  have hcx := HBX.out.x
  clear hd1 hd2 hl
  go_enter Try.func11, Try.ntmps11
  go_wp2_with (first
    | (go_at_call 15; rw [HW1.out]; refine HPK.out.mono ?_; rintro e w2 ⟨rfl, rfl⟩)
    | (go_at_call 27; refine HL.out.mono ?_; rintro e w3 ⟨g3, c3, rfl, hl3, hf3⟩; (have cn3 := hf3.cell hcn (fun h => h)); obtain ⟨X3, hX3⟩ : ∃ X3 : Nat → Prop, X3 = (fun k => X k ∨ (W1.heap.size ≤ k ∧ k < w3.heap.size)) := ⟨_, rfl⟩; (have HX3 := Lib.hid hX3); (have HT3 := Lib.hid (show Two X3 w0 w3 gd gr s d d by rw [hX3]; exact HT.out.add hf3)); (have HL3 := Lib.hid (show LentAt (fun k => W1.heap.size ≤ k ∧ k < w3.heap.size) w3 g3 c3 p.B from ⟨hl3.1, hl3.2.1, hl3.2.2.mono (fun k hk h => ⟨h, hk⟩)⟩)); (have HO3 := Lib.hid (lent_own HL3.out)); (have HF3 := Lib.hid hf3); (have HC := Lib.hid (tWrite w0 w3 gd gr s d d p.n (.slice (some ⟨g3, 0, none⟩) p.B.length c3) p.B HWF.out.2.1.1 HWF.out.2.1.2 (by have := HD2.out.1; omega) (by have := HD2.out.2.1; omega) HO3.out.bytes (fun k hk => .inr (by rw [hX3]; exact .inr hk)) HT3.out)); clear hl3 hf3 HL hX3)
    | (go_at_call 14; refine HC.out.mono ?_; rintro e w4 ⟨rfl, h4, hf4⟩; (have cx4 := hf4.cell (HF3.out.cell hcx (fun h => h)) (fun h => h.2 (by rw [HX3.out]; exact .inl HX.out.1))); (have cn4 := hf4.cell cn3 (fun h => h.2 (by rw [HX3.out]; exact .inl HX.out.1))); (have hnot : ∀ k, k < w3.heap.size → (W1.heap.size ≤ k ∧ k < w3.heap.size) → ¬ Bare X3 w0 k := fun k _ hk h => h.2 (by rw [HX3.out]; exact .inr hk)); (have HL4 := Lib.hid (show LentAt (fun k => W1.heap.size ≤ k ∧ k < w3.heap.size) w4 g3 c3 p.B from ⟨HL3.out.1, HL3.out.2.1, HL3.out.2.2.keep hf4 hnot⟩)); (have HO4 := Lib.hid (HO3.out.keep hf4 hnot)); (have HB4 := Lib.hid ((HB.out.keep HF3.out (fun _ _ _ h => h)).keep hf4 (fun k _ hg h => by have := HG.out k hg; have := h.1; omega))); (have HT4 := Lib.hid h4); (have HK4 := Lib.hid (KeptBytes_any p.x g3 c3 p.B w4 HB4.out HL4.out (by have := HD2.out.2.2; omega))); clear h4 hf4 HC hnot)
    | (go_at_call 28; refine HK4.out.mono ?_; rintro e w5 ⟨rfl, n5, rfl⟩; (have HOV := Lib.hid (OverT_any (.slice (some ⟨g3, 0, none⟩) p.B.length c3) p.B (_root_.Go.World.drewN w4 n5) (ToldT.ofOwn (HO4.out.keep ((Fr.refl (fun _ => False) w4).drewN n5) (fun _ _ _ h => h))) (by have := HD2.out.2.2; omega))); clear HK4)
    | (go_at_call 26; refine HOV.out.mono ?_; rintro e w6 ⟨rfl, hf6'⟩; (have hf6 := ((Fr.refl (fun _ => False) w4).drewN n5 |>.mono (T := fun k => W1.heap.size ≤ k ∧ k < w3.heap.size) (fun _ _ h => h.elim)).trans hf6' (fun k hk => .inl (HO4.out.2 k hk))); (have hzb : ¬ (W1.heap.size ≤ W.heap.size ∧ W.heap.size < w3.heap.size) := fun h => by have := HZ1.out; omega); (have cn6 := hf6.cell cn4 hzb); (have cx6 := hf6.cell cx4 hzb); (have HU6 := Lib.hid (uWrite w0 w6 gd gr s _ d p.n p.x p.B (by have := HD2.out.1; omega) (by have := HD2.out.2.1; omega) (HB4.out.keep hf6 (fun k _ hg h => by have := HG.out k hg; have := h.1; have := HW0.out; omega)) (fun k hk => .inl (HG.out k hk)) (HT4.out.away hf6 (fun k hk => .inl ⟨by rw [HX3.out]; exact .inr hk, Nat.le_trans HW0.out hk.1⟩)))); clear hf6 hf6' HOV hzb)
    | (go_at_call 29; refine HU6.out.mono ?_; rintro e w7 ⟨rfl, h7, hf7⟩; (have HU := Lib.hid (And.intro h7 trivial)); clear h7 hf7 HU6))
  go_ret
  exact ⟨rfl, ⟨_, HU.out.1.less (fun _ h => h.elim), d.write_le s p.n p.B⟩⟩

theorem does_any {G : Nat → Prop} (w0 W : World) (gd gr s : Nat) (d : Dv) (p : DeedD) (hwf : IntOk p.what ∧ IntOk p.n ∧ IntOk p.bit) (hb : BytesIn G W p.x p.B) (hG : ∀ k, G k → k < w0.heap.size) (hl : p.B.length ≤ 100000) (hd1 : d.deeds ≤ 1000) (hd2 : d.waits.length ≤ 1000) (h : Two (fun _ => False) w0 W gd gr s d d) :
    Calls Try.prog 11 #[.pointer (some ⟨gd, 0, none⟩), .pointer (some ⟨gr, 0, none⟩), deedV p] W fun r w' => r = .returned (.bool true) ∧ Done w0 w' gd gr s d := by
  rcases (show p.what % 8 = 0 ∨ p.what % 8 = 1 ∨ p.what % 8 = 2 ∨ p.what % 8 = 3 ∨ p.what % 8 = 4 ∨ p.what % 8 = 5 ∨ p.what % 8 = 6 ∨ p.what % 8 = 7 by omega) with hk | hk | hk | hk | hk | hk | hk | hk
  · exact does_0 w0 W gd gr s d p hk hwf hb hG hl hd1 hd2 h
  · exact does_1 w0 W gd gr s d p hk hwf hb hG hl hd1 hd2 h
  · exact does_2 w0 W gd gr s d p hk hwf hb hG hl hd1 hd2 h
  · exact does_3 w0 W gd gr s d p hk hwf hb hG hl hd1 hd2 h
  · exact does_4 w0 W gd gr s d p hk hwf hb hG hl hd1 hd2 h
  · exact does_5 w0 W gd gr s d p hk hwf hb hG hl hd1 hd2 h
  · exact does_6 w0 W gd gr s d p hk hwf hb hG hl hd1 hd2 h
  · exact does_7 w0 W gd gr s d p hk hwf hb hG hl hd1 hd2 h
end Go.Proofs.Ythmcmomkomhilaa
