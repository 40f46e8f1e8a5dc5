/- Laid together: JOpen2 JLg JAwk JRoomP JKeptP TTab InvIn -/
import Derived.Test.YtldgcoikbjbjeaaGreatTk21
import Derived.Test.YtldgcoikbjbjeaaGreatTk14
import Derived.Test.YtldgcoikbjbjeaaGreatTk18
import Derived.Test.YtldgcoikbjbjeaaGreatTk13
import Derived.Test.YtldgcoikbjbjeaaGreatTk3

namespace Go.Proofs.YtldgcoikbjbjeaaGreat
open Go.RowKit Go.ChangeShapes
set_option linter.unusedVariables false
def OpenPost (w : World) (g l la d : Nat) (h : Hd) (e : Ending) (w' : World) : Prop := ∃ jn, e = .returned (.tuple #[.pointer (some ⟨jn, 0, none⟩), .int .i64 0]) ∧ w.heap.size ≤ jn ∧ JnAt w' jn g h l la d false ∧ Fr (fun _ => False) w w'
set_option maxRecDepth 100000 in
set_option maxHeartbeats 4000000 in
theorem lOpen_any {D : Nat → Prop} (w : World) (g l la d s : Nat) (dv : Dv) (h : Hd) (B : List UInt8) (R : List (List UInt8)) (hok : ShOk l la d s) (hd : DevAt w D g s dv) (hup : dv.down = false) (hw : dv.waits = []) (k : Kp dv.all l la s h B R) :
    Calls Tryz.prog 27 #[.pointer (some ⟨g, 0, none⟩), .agg #[.int .i64 l, .int .i64 la, .int .i64 d]] w (OpenPost w g l la d h) := by
  have hl : l ≤ 8192 := by have := hok.sum; have := hok.most; omega
  have hla : la ≤ 8192 := by have := hok.sum; have := hok.most; omega
  obtain ⟨W1, hW1⟩ : ∃ W1, W1 = w.alloc (.cells #[.int .i64 l, .int .i64 la, .int .i64 d] 23) := ⟨_, rfl⟩
  have hf1 : Fr (fun _ => False) w W1 := by rw [hW1]; exact (Fr.refl _ _).alloc _
  have hrow : W1.heap[w.heap.size]? = some (.cells #[.int .i64 l, .int .i64 la, .int .i64 d] 23 (0, 0)) := by rw [hW1]; exact heap_alloc_new w _
  have HFI := Lib.hid (lFits_any W1 g l la d s dv hok (hd.keep hf1 (fun _ _ _ h => h)))
  have HW := Lib.hid (And.intro hW1 (And.intro hf1 hrow))
  have HD := Lib.hid (And.intro hd (And.intro hup hw))
  have HK := Lib.hid k
  have HOK := Lib.hid hok
  have hnum := k.right.num hl hla
  have har := k.right.area
  have hrd := k.right.round.1
  have hus := k.right.used
  have HN := Lib.hid (And.intro hnum (And.intro har (And.intro hrd hus)))
  obtain ⟨x1, hx1⟩ : ∃ x, x = h.area := ⟨_, rfl⟩
  obtain ⟨x2, hx2⟩ : ∃ x, x = h.size := ⟨_, rfl⟩
  obtain ⟨x3, hx3⟩ : ∃ x, x = h.used := ⟨_, rfl⟩
  obtain ⟨x4, hx4⟩ : ∃ x, x = h.round := ⟨_, rfl⟩
  have HX := Lib.hid (And.intro hx1 (And.intro hx2 (And.intro hx3 hx4)))
  have hwi := fun W => lWithin_any W h l la d hl hla k.right
  rw [← hx1, ← hx2, ← hx3, ← hx4] at hwi
  have HWI := Lib.hid hwi
  clear hok hd hup hw k hW1 hf1 hrow hnum har hrd hus hx1 hx2 hx3 hx4 hwi
  go_enter Tryz.func27, Tryz.ntmps27
  go_wp2_with fail
  rw [← HW.out.1]
  refine HFI.out.mono ?_
  rintro e w2 ⟨rfl, hf2⟩
  have H2 := Lib.hid (And.intro (HW.out.2.1.trans hf2 (fun _ h => h.elim)) (hf2.heap HW.out.2.2 id))
  clear hf2
  go_wp2_with fail
  have hr3 := aRead w2 g s dv ((0 : Nat) : Int) (by rw [HD.out.2.2]; decide) (HD.out.1.keep H2.out.1 (fun _ _ _ h => h))
  rw [Dv.read_yes HD.out.2.1 HD.out.2.2 (by have := HOK.out.sum; omega), HK.out.head] at hr3
  refine Calls.mono (show Calls Tryz.prog 53 #[.pointer (some ⟨g, 0, none⟩), .int .i64 0] w2 _ from hr3) ?_
  rintro e w3 ⟨v3, rfl, ht3, hf3⟩
  have H3 := Lib.hid (And.intro (H2.out.1.trans hf3 (fun _ h => h.elim)) (And.intro (hf3.heap H2.out.2 id) ht3.bytes))
  clear hf3 ht3 hr3
  go_wp2_with fail
  refine (lHeadOf_any w3 v3 h HN.out.1 HN.out.2.1 HN.out.2.2.1 H3.out.2.2).mono ?_
  rintro e w4 ⟨rfl, hf4⟩
  rw [← HX.out.1, ← HX.out.2.1, ← HX.out.2.2.1, ← HX.out.2.2.2]
  have H4 := Lib.hid (And.intro (H3.out.1.trans hf4 (fun _ h => h.elim)) (hf4.heap H3.out.2.1 id))
  clear hf4
  obtain ⟨W5, hW5⟩ : ∃ W5, W5 = w4.alloc (.cells #[.int .i64 x1, .int .i64 x2, .int .i64 x3, .int .i64 x4] 106) := ⟨_, rfl⟩
  have H5 := Lib.hid (show Fr (fun _ => False) w W5 ∧ W5.heap[w.heap.size]? = some (.cells #[.int .i64 l, .int .i64 la, .int .i64 d] 23 (0, 0)) ∧ W5.heap[w4.heap.size]? = some (.cells #[.int .i64 x1, .int .i64 x2, .int .i64 x3, .int .i64 x4] 106 (0, 0)) by
    rw [hW5]
    exact ⟨H4.out.1.alloc _, ((Fr.refl (fun _ => False) w4).alloc _).heap H4.out.2 id, heap_alloc_new w4 _⟩)
  obtain ⟨s0, s1, s2⟩ := row3_cells H5.out.2.1
  have HW5 := Lib.hid hW5
  rw [hW5] at s0 s1 s2
  clear hW5
  go_wp2_with fail
  rw [← HW5.out]
  obtain ⟨gh, hgh⟩ : ∃ gh, gh = w4.heap.size := ⟨_, rfl⟩
  rw [← hgh] at H5 ⊢
  clear s0 s1 s2 hgh
  refine (HWI.out W5).mono ?_
  rintro e w6 ⟨rfl, hf6⟩
  have H6 := Lib.hid (And.intro (H5.out.1.trans hf6 (fun _ h => h.elim)) (And.intro (hf6.heap H5.out.2.1 id) (hf6.heap H5.out.2.2 id)))
  clear hf6
  obtain ⟨c0, c1, c2, c3⟩ := row4_cells H6.out.2.2
  go_wp2_with fail
  have hr7 := lRead_any w6 g s 1 x3 dv (HD.out.1.keep H6.out.1 (fun _ _ _ h => h)) HD.out.2.1 HD.out.2.2 HOK.out.most (by have := HN.out.2.2.2; have := HX.out.2.2.1; have := HOK.out.sum; omega)
  rw [show 64 * 1 = 64 from rfl, HX.out.2.2.1, HK.out.recs, ← HX.out.2.2.1] at hr7
  refine hr7.mono ?_
  rintro e w7 ⟨v7, rfl, ho7, hf7⟩
  have H7 := Lib.hid (And.intro (H6.out.1.trans hf7 (fun _ h => h.elim)) (And.intro (hf7.heap H6.out.2.1 id) (And.intro (hf7.heap H6.out.2.2 id) ho7.bytes)))
  clear hf7 ho7 hr7 c0 c1 c2 c3
  go_wp2_with fail
  refine (lRecords_any w7 v7 R H7.out.2.2.2 (by rw [← HK.out.recs, cut4_length _ _ _ (by rw [HK.out.len]; have := HN.out.2.2.2; have := HOK.out.sum; omega)]; have := HN.out.2.2.2; omega)).mono ?_
  rintro e w8 ⟨v8, rfl, hr8, hf8⟩
  have H8 := Lib.hid (And.intro (H7.out.1.trans hf8 (fun _ h => h.elim)) (And.intro (hf8.heap H7.out.2.1 id) (hf8.heap H7.out.2.2.1 id)))
  clear hf8 hr8
  obtain ⟨c0, c1, c2, c3⟩ := row4_cells H8.out.2.2
  obtain ⟨s0, s1, s2⟩ := row3_cells H8.out.2.1
  go_wp2
  go_ret2
  unfold OpenPost
  refine ⟨w8.heap.size, rfl, H8.out.1.size, ?_, H8.out.1.alloc _⟩
  unfold JnAt
  rw [← HX.out.1, ← HX.out.2.1, ← HX.out.2.2.1, ← HX.out.2.2.2]
  exact heap_alloc_new w8 _
end Go.Proofs.YtldgcoikbjbjeaaGreat
namespace Go.Proofs.YtldgcoikbjbjeaaGreat
open Go.RowKit Go.ChangeShapes
set_option linter.unusedVariables false
structure LgAt (w0 w : World) (jn g s l la d : Nat) (h : Hd) (dn : Bool) (dv : Dv) (X : Nat → Prop) : Prop where
  jrn : JnAt w jn g h l la d dn
  dev : ∃ D : Nat → Prop, DevAt w D g s dv ∧ ∀ k, D k → w0.heap.size ≤ k ∧ k < w.heap.size ∧ k ≠ jn ∧ ¬ X k
  low : w0.heap.size ≤ jn ∧ ¬ X jn
  xs : ∀ k, X k → k < w.heap.size
  fr : Fr (fun _ => False) w0 w
abbrev LgT (w0 : World) (X : Nat → Prop) : Nat → Prop := fun k => w0.heap.size ≤ k ∧ ¬ X k
theorem ShOk.l8 {l la d s : Nat} (h : ShOk l la d s) : l ≤ 8192 := by have := h.sum; have := h.most; omega
theorem ShOk.la8 {l la d s : Nat} (h : ShOk l la d s) : la ≤ 8192 := by have := h.sum; have := h.most; omega
section
variable {w0 w w' : World} {jn g s l la d : Nat} {h h' : Hd} {dn : Bool} {dv : Dv} {X : Nat → Prop}
theorem LgAt.quiet (H : LgAt w0 w jn g s l la d h dn dv X) (hf : Fr (fun _ => False) w w') : LgAt w0 w' jn g s l la d h dn dv X := by
  obtain ⟨D, h1, h2⟩ := H.dev
  have hz := hf.size
  exact ⟨H.jrn.keep hf id, ⟨D, h1.keep hf (fun _ _ _ h => h), fun k hk => ⟨(h2 k hk).1, by have := (h2 k hk).2.1; omega, (h2 k hk).2.2⟩⟩, H.low, fun k hk => by have := H.xs k hk; omega, H.fr.trans hf (fun _ h => h.elim)⟩
theorem LgAt.away {S : Nat → Prop} (H : LgAt w0 w jn g s l la d h dn dv X) (hf : Fr S w w') (hS : ∀ k, S k → X k ∧ w0.heap.size ≤ k) : LgAt w0 w' jn g s l la d h dn dv X := by
  obtain ⟨D, h1, h2⟩ := H.dev
  have hz := hf.size
  exact ⟨H.jrn.keep hf (fun hh => H.low.2 (hS _ hh).1), ⟨D, h1.keep hf (fun k _ hD hh => (h2 k hD).2.2.2 (hS k hh).1), fun k hk => ⟨(h2 k hk).1, by have := (h2 k hk).2.1; omega, (h2 k hk).2.2⟩⟩, H.low, fun k hk => by have := H.xs k hk; omega, H.fr.trans hf (fun k h => .inr (hS k h).2)⟩
theorem LgAt.turn {D : Nat → Prop} {dv' : Dv} (H : LgAt w0 w jn g s l la d h dn dv X) (h2 : ∀ k, D k → w0.heap.size ≤ k ∧ k < w.heap.size ∧ k ≠ jn ∧ ¬ X k) {h' : Hd} {dn' : Bool} (hj : JnAt w' jn g h' l la d dn') (hd : DevAt w' (More D w) g s dv') (hf : Fr (fun k => D k ∨ k = jn) w w') :
    LgAt w0 w' jn g s l la d h' dn' dv' X ∧ Fr (LgT w0 X) w w' := by
  have hz := hf.size
  have hz0 := H.fr.size
  have hjl := H.jrn.lt
  refine ⟨⟨hj, ⟨fun k => More D w k ∧ k < w'.heap.size, hd.mono (fun k hk hh => ⟨hh, hk⟩), ?_⟩, H.low, fun k hk => by have := H.xs k hk; omega, H.fr.trans hf (fun k hk => .inr (by rcases hk with hk | rfl; exact (h2 k hk).1; exact H.low.1))⟩, hf.mono fun k _ hk => ?_⟩
  · rintro k ⟨hk | hk, hlt⟩
    · exact ⟨(h2 k hk).1, hlt, (h2 k hk).2.2⟩
    · exact ⟨by omega, hlt, by omega, fun hX => by have := H.xs k hX; omega⟩
  · rcases hk with hk | rfl
    · exact ⟨(h2 k hk).1, (h2 k hk).2.2.2⟩
    · exact H.low
def LgPost (w0 w : World) (jn g s l la d : Nat) (h h' : Hd) (r : Int × Dv) (X : Nat → Prop) (e : Ending) (w' : World) : Prop :=
  e = .returned (.int .i64 r.1) ∧ LgAt w0 w' jn g s l la d (if r.1 = 0 then h' else h) (if r.1 = 0 then false else true) r.2 X ∧ Fr (LgT w0 X) w w'
theorem gAppend {G : Nat → Prop} (H : LgAt w0 w jn g s l la d h false dv X) (hok : ShOk l la d s) (hr : h.Right l la) (vb : Value) (B : List UInt8) (hB : B.length ≤ 1048576) (hb : BytesIn G w vb B) (hc1 : (recB B).length ≤ 64 * l - h.used) (hc2 : h.round < 1099511627776) (hup : dv.down = false) (hw : dv.waits = []) (hk6 : dv.deeds ≤ 900000000) :
    Calls Tryz.prog 74 #[.pointer (some ⟨jn, 0, none⟩), vb] w (LgPost w0 w jn g s l la d h ⟨h.area, h.size, h.used + (recB B).length, h.round + 1⟩ (dv.commit s (secsAt dv.all (64 + h.used) (recB B)) (Hd.sec ⟨h.area, h.size, h.used + (recB B).length, h.round + 1⟩)) X) := by
  obtain ⟨D, h1, h2⟩ := H.dev
  refine (jAppend_yes w jn g s l la d h vb B dv hok.l8 hok.la8 hr hr.used hB H.jrn hb hc1 hc2 (fun hh => (h2 _ hh).2.2.1 rfl) h1 hup hw hok.most (by have := hok.sum; omega) hk6).mono ?_
  rintro e w' ⟨rfl, hd, hj, hf⟩
  exact ⟨rfl, H.turn h2 hj hd hf⟩
theorem gSwitch {G : Nat → Prop} (H : LgAt w0 w jn g s l la d h false dv X) (hok : ShOk l la d s) (hr : h.Right l la) (vb : Value) (B : List UInt8) (hb : BytesIn G w vb B) (hc1 : B.length ≤ 64 * la) (hc2 : h.round < 1099511627776) (hup : dv.down = false) (hw : dv.waits = []) (hk6 : dv.deeds ≤ 900000000) :
    Calls Tryz.prog 75 #[.pointer (some ⟨jn, 0, none⟩), vb] w (LgPost w0 w jn g s l la d h ⟨1 - h.area, B.length, 0, h.round + 1⟩ (dv.commit s (secsAt dv.all (areaAt l la (1 - h.area)) B) (Hd.sec ⟨1 - h.area, B.length, 0, h.round + 1⟩)) X) := by
  obtain ⟨D, h1, h2⟩ := H.dev
  refine (jSwitch_yes w jn g s l la d h vb B hok.l8 hok.la8 hr H.jrn hb hc1 dv hc2 (fun hh => (h2 _ hh).2.2.1 rfl) h1 hup hw hok.most (by have := hok.sum; omega) hk6).mono ?_
  rintro e w' ⟨rfl, hd, hj, hf⟩
  exact ⟨rfl, H.turn h2 hj hd hf⟩
theorem gFuse (H : LgAt w0 w jn g s l la d h dn dv X) (n : Int) (hn : n ≤ 9223372036854775807) (hn0 : -9223372036854775808 ≤ n) :
    Calls Tryz.prog 13 #[.pointer (some ⟨g, 0, none⟩), .int .i64 n] w fun e w' => e = .returned (.int .i64 (dv.fuse n).1) ∧ LgAt w0 w' jn g s l la d h dn (dv.fuse n).2 X ∧ Fr (LgT w0 X) w w' := by
  obtain ⟨D, h1, h2⟩ := H.dev
  refine (aFuse w g s dv n hn hn0 h1).mono ?_
  rintro e w' ⟨rfl, hd, hf⟩
  exact ⟨rfl, H.turn h2 (H.jrn.keep hf (fun hh => (h2 _ hh).2.2.1 rfl)) hd (hf.mono (fun k _ h => .inl h))⟩
theorem gWake (H : LgAt w0 w jn g s l la d h dn dv X) (keep : Int) (hkp0 : -9223372036854775808 ≤ keep) (hkp1 : keep ≤ 9223372036854775807) (hn6 : dv.waits.length ≤ 1000000) :
    Calls Tryz.prog 17 #[.pointer (some ⟨g, 0, none⟩), .int .i64 keep] w fun e w' => e = .returned (.int .i64 (dv.wake keep).1) ∧ LgAt w0 w' jn g s l la d h dn (dv.wake keep).2 X ∧ Fr (LgT w0 X) w w' := by
  obtain ⟨D, h1, h2⟩ := H.dev
  refine (aWake w g s dv keep hkp0 hkp1 hn6 h1).mono ?_
  rintro e w' ⟨rfl, hd, hf⟩
  exact ⟨rfl, H.turn h2 (H.jrn.keep hf (fun hh => (h2 _ hh).2.2.1 rfl)) hd (hf.mono (fun k _ h => .inl h))⟩
theorem gRecords (H : LgAt w0 w jn g s l la d h false dv X) (hok : ShOk l la d s) {B : List UInt8} {R : List (List UInt8)} (hup : dv.down = false) (hw : dv.waits = []) (k : Kp dv.all l la s h B R) :
    Calls Tryz.prog 59 #[.pointer (some ⟨jn, 0, none⟩)] w (RecsPost w R) := by
  obtain ⟨D, h1, h2⟩ := H.dev
  exact jRecords_any w jn g s l la d h dv R H.jrn h1 hup hw hok.most (by have := k.right.used; have := hok.sum; omega) k.recs
theorem gArea (H : LgAt w0 w jn g s l la d h false dv X) (hok : ShOk l la d s) {B : List UInt8} {R : List (List UInt8)} (hup : dv.down = false) (hw : dv.waits = []) (k : Kp dv.all l la s h B R) :
    Calls Tryz.prog 58 #[.pointer (some ⟨jn, 0, none⟩)] w (ReadPost w B) := by
  obtain ⟨D, h1, h2⟩ := H.dev
  have := jArea_any w jn g s l la d h dv hok.l8 hok.la8 k.right H.jrn h1 hup hw hok.most (by have := hok.sum; omega)
  rwa [k.area] at this
end
end Go.Proofs.YtldgcoikbjbjeaaGreat
namespace Go.Proofs.YtldgcoikbjbjeaaGreat
set_option linter.unusedVariables false
theorem Dv.tell_new (d : Dv) (s : Nat) (sec : List UInt8) (hd : d.down = false) (hl : d.left = 0) (hw : d.waits = []) (hs : 1 ≤ s) (hsec : sec.length = 64) :
    d.tell s sec = (0, { all := putSec d.all 0 sec, waits := [], deeds := d.deeds + 2, left := 0, down := false }) := by
  unfold Dv.tell
  rw [Dv.write_ok (d := d) (s := s) (a := 0) (b := sec) hd (by omega) (by omega), if_pos rfl, Dv.flush_ok (by simpa using hd) (by simp only; omega)]
  simp only [hw, hl, hd, List.nil_append, full64_self _ hsec]
  simp [wakeL]
end Go.Proofs.YtldgcoikbjbjeaaGreat
namespace Go.Proofs.YtldgcoikbjbjeaaGreat
open Go.RowKit Go.ChangeShapes
set_option linter.unusedVariables false
theorem secsAt_le {K : List UInt8} {s o : Nat} {X : List UInt8} (ho : o + X.length ≤ 64 * s) : (secsAt K o X).length ≤ s := by
  have hm := manySecs_le s o X.length ho
  have : (secsAt K o X).length = manySecs o X.length := by unfold secsAt; rw [secsOf_length]
  rw [this]
  rcases hm with hm | hm
  · omega
  · rw [manySecs, if_pos hm]; omega
theorem commit_quiet {dv : Dv} {l la s : Nat} {h h' : Hd} {B B' : List UInt8} {R R' : List (List UInt8)} (k : Kp dv.all l la s h B R) (o : Nat) (X : List UInt8) (ho : o + X.length ≤ 64 * s)
    (hout : ∀ j, (j < 64 + h.used ∨ (areaAt l la h.area ≤ j ∧ j < areaAt l la h.area + h.size)) → ¬ (o ≤ j ∧ j < o + X.length))
    (hnew : Kp (putSec (over4 dv.all o X) 0 h'.sec) l la s h' B' R') (hd : dv.down = false) (hw : dv.waits = []) (hl : dv.left = 0) (hs : s ≤ 60) :
    (dv.commit s (secsAt dv.all o X) h'.sec).1 = 0 ∧ Kp (dv.commit s (secsAt dv.all o X) h'.sec).2.all l la s h' B' R' ∧ (dv.commit s (secsAt dv.all o X) h'.sec).2.down = false ∧ (dv.commit s (secsAt dv.all o X) h'.sec).2.waits = [] ∧ (dv.commit s (secsAt dv.all o X) h'.sec).2.left = 0 ∧ (dv.commit s (secsAt dv.all o X) h'.sec).2.deeds ≤ dv.deeds + 70 := by
  have hs1 : 1 ≤ s := by have := k.shape.1; omega
  have hr := k.redo o X ho hout hnew hd hw
  have hle := secsAt_le (K := dv.all) ho
  rcases dv.commit_cases s hs1 _ h'.sec hd hw (secsAt_right k.len ho) h'.sec_length with ⟨a1, _, a3, a4, a5, a6⟩ | ⟨b0, _⟩
  · exact ⟨a1, hr.1 a1, a4, a3, a6 hl, by omega⟩
  · exact absurd hl b0
structure LgOk (dv : Dv) (l la s : Nat) (h : Hd) (B : List UInt8) (R : List (List UInt8)) (i : Nat) : Prop where
  up : dv.down = false
  waits : dv.waits = []
  left : dv.left = 0
  kp : Kp dv.all l la s h B R
  deeds : dv.deeds ≤ 2 + 70 * i
  round : h.round ≤ 1 + i
theorem LgOk.new (l la d s : Nat) (hok : ShOk l la d s) : ∃ dv1, (Dv.new s).tell s (Hd.sec ⟨0, 0, 0, 1⟩) = (0, dv1) ∧ LgOk dv1 l la s ⟨0, 0, 0, 1⟩ [] [] 0 := by
  refine ⟨_, Dv.tell_new (Dv.new s) s _ rfl rfl rfl (by have := hok.sum; omega) (Hd.sec_length _), rfl, rfl, rfl, Kp.formatted (by simp [Dv.new]) ⟨by have := hok.sum; omega, hok.most⟩, by simp [Dv.new], by simp⟩
theorem LgOk.next {dv : Dv} {l la s : Nat} {h : Hd} {B : List UInt8} {R : List (List UInt8)} {i : Nat} (H : LgOk dv l la s h B R i) : LgOk dv l la s h B R (i + 1) :=
  ⟨H.up, H.waits, H.left, H.kp, by have := H.deeds; omega, by have := H.round; omega⟩
theorem LgOk.append {dv : Dv} {l la s : Nat} {h : Hd} {B : List UInt8} {R : List (List UInt8)} {i : Nat} (H : LgOk dv l la s h B R i) (hs : s ≤ 60) (hi : i ≤ 60) (X : List UInt8) (hX : h.used + (recB X).length ≤ 64 * l) :
    (dv.commit s (secsAt dv.all (64 + h.used) (recB X)) (Hd.sec ⟨h.area, h.size, h.used + (recB X).length, h.round + 1⟩)).1 = 0 ∧ LgOk (dv.commit s (secsAt dv.all (64 + h.used) (recB X)) (Hd.sec ⟨h.area, h.size, h.used + (recB X).length, h.round + 1⟩)).2 l la s ⟨h.area, h.size, h.used + (recB X).length, h.round + 1⟩ B (R ++ [X]) (i + 1) := by
  have hsh := H.kp.shape.1
  have hr := H.round
  obtain ⟨a1, a2, a3, a4, a5, a6⟩ := commit_quiet H.kp (64 + h.used) (recB X) (by omega) (H.kp.append_out _ hX) (H.kp.append X hX (by omega)) H.up H.waits H.left hs
  exact ⟨a1, a3, a4, a5, a2, by have := H.deeds; omega, by simp only; omega⟩
theorem LgOk.switch {dv : Dv} {l la s : Nat} {h : Hd} {B : List UInt8} {R : List (List UInt8)} {i : Nat} (H : LgOk dv l la s h B R i) (hs : s ≤ 60) (hi : i ≤ 60) (X : List UInt8) (hX : X.length ≤ 64 * la) :
    (dv.commit s (secsAt dv.all (areaAt l la (1 - h.area)) X) (Hd.sec ⟨1 - h.area, X.length, 0, h.round + 1⟩)).1 = 0 ∧ LgOk (dv.commit s (secsAt dv.all (areaAt l la (1 - h.area)) X) (Hd.sec ⟨1 - h.area, X.length, 0, h.round + 1⟩)).2 l la s ⟨1 - h.area, X.length, 0, h.round + 1⟩ X [] (i + 1) := by
  have hr := H.round
  obtain ⟨a1, a2, a3, a4, a5, a6⟩ := commit_quiet H.kp (areaAt l la (1 - h.area)) X (area_in H.kp.shape.1 (by omega) hX) (H.kp.switch_out _ hX) (H.kp.switch X hX (by omega)) H.up H.waits H.left hs
  exact ⟨a1, a3, a4, a5, a2, by have := H.deeds; omega, by simp only; omega⟩
section
variable {w0 w w' : World} {jn g s l la d : Nat} {h : Hd} {dn : Bool} {dv : Dv} {X : Nat → Prop}
theorem gRoom (H : LgAt w0 w jn g s l la d h false dv X) (hok : ShOk l la d s) (hu : h.used ≤ 64 * l) :
    Calls Tryz.prog 73 #[.pointer (some ⟨jn, 0, none⟩)] w fun e w' => e = .returned (.int .i64 ((64 * l - h.used : Nat) : Int)) ∧ Fr (fun _ => False) w w' := jRoom_any w jn g h l la d hok.l8 hu H.jrn
end
end Go.Proofs.YtldgcoikbjbjeaaGreat
namespace Go.Proofs.YtldgcoikbjbjeaaGreat
open Go.RowKit Go.ChangeShapes
set_option linter.unusedVariables false
structure LgK (dv : Dv) (l la s : Nat) (h : Hd) (B : List UInt8) (R : List (List UInt8)) (i : Nat) : Prop where
  up : dv.down = false
  waits : dv.waits = []
  kp : Kp dv.all l la s h B R
  deeds : dv.deeds ≤ 2 + 70 * i
  round : h.round ≤ 1 + i
theorem LgOk.k {dv : Dv} {l la s : Nat} {h : Hd} {B : List UInt8} {R : List (List UInt8)} {i : Nat} (H : LgOk dv l la s h B R i) : LgK dv l la s h B R i := ⟨H.up, H.waits, H.kp, H.deeds, H.round⟩
theorem LgK.next {dv : Dv} {l la s : Nat} {h : Hd} {B : List UInt8} {R : List (List UInt8)} {i : Nat} (H : LgK dv l la s h B R i) : LgK dv l la s h B R (i + 1) :=
  ⟨H.up, H.waits, H.kp, by have := H.deeds; omega, by have := H.round; omega⟩
theorem LgK.fuse {dv : Dv} {l la s : Nat} {h : Hd} {B : List UInt8} {R : List (List UInt8)} {i : Nat} (H : LgK dv l la s h B R i) (n : Int) : LgK (dv.fuse n).2 l la s h B R i := by
  unfold Dv.fuse
  rw [if_neg (by rw [H.up]; decide)]
  exact ⟨H.up, H.waits, H.kp, H.deeds, H.round⟩
def ToldK (r : Int) (dn : Bool) (dv : Dv) (l la s : Nat) (h : Hd) (A A' : List UInt8) (Q Q' : List (List UInt8)) (i : Nat) : Prop :=
  (r = 3 ∧ dn = false ∧ LgK dv l la s h A Q i) ∨ (r = 0 ∧ dn = false ∧ LgK dv l la s h A' Q' i) ∨
  (r = 10 ∧ dn = true ∧ dv.waits.length ≤ 1000000 ∧ ∀ keep, (dv.wake keep).1 = 0 ∧ ∃ h2, LgK (dv.wake keep).2 l la s h2 A Q i ∨ LgK (dv.wake keep).2 l la s h2 A' Q' i)
theorem LgK.commit {dv : Dv} {l la s : Nat} {h h' : Hd} {B B' : List UInt8} {R R' : List (List UInt8)} {i : Nat} (H : LgK dv l la s h B R i) (hs : s ≤ 60) (o : Nat) (X : List UInt8) (ho : o + X.length ≤ 64 * s)
    (hout : ∀ j, (j < 64 + h.used ∨ (areaAt l la h.area ≤ j ∧ j < areaAt l la h.area + h.size)) → ¬ (o ≤ j ∧ j < o + X.length))
    (hnew : Kp (putSec (over4 dv.all o X) 0 h'.sec) l la s h' B' R') (hr : h'.round ≤ 1 + (i + 1)) :
    ToldK (dv.commit s (secsAt dv.all o X) h'.sec).1 (if (dv.commit s (secsAt dv.all o X) h'.sec).1 = 0 then false else true) (dv.commit s (secsAt dv.all o X) h'.sec).2 l la s (if (dv.commit s (secsAt dv.all o X) h'.sec).1 = 0 then h' else h) B B' R R' (i + 1) := by
  have k := H.kp
  have hs1 : 1 ≤ s := by have := k.shape.1; omega
  have hrd := k.redo o X ho hout hnew H.up H.waits
  have hle := secsAt_le (K := dv.all) ho
  have hps := secsAt_right k.len ho
  have hde := H.deeds
  have hro := H.round
  rcases dv.commit_cases s hs1 _ h'.sec H.up H.waits hps h'.sec_length with ⟨a1, _, a3, a4, a5, _⟩ | ⟨_, b1, b2, b3, b4⟩
  · refine .inr (.inl ⟨a1, by rw [if_pos a1], ?_⟩)
    rw [if_pos a1]
    exact ⟨a4, a3, hrd.1 a1, by omega, hr⟩
  · have hn : (dv.commit s (secsAt dv.all o X) h'.sec).1 ≠ 0 := by rw [b1]; decide
    refine .inr (.inr ⟨b1, by rw [if_neg hn], ?_, fun keep => ?_⟩)
    · rcases b4 with ⟨_, qs, c2, c3⟩ | ⟨_, c2 | c2⟩
      · rw [c3]
        have := c2.length_le
        omega
      · rw [c2]; decide
      · rw [c2]; simp
    · obtain ⟨w1, w2, w3, _, w5, _⟩ := Dv.commit_woken dv s hs1 _ h'.sec keep H.up H.waits hps h'.sec_length hn
      refine ⟨w1, ?_⟩
      rcases (hrd.2 hn).2.2 keep with hk | hk
      · exact ⟨h, .inl ⟨w3, w2, hk, by omega, by omega⟩⟩
      · exact ⟨h', .inr ⟨w3, w2, hk, by omega, hr⟩⟩
theorem LgK.append {dv : Dv} {l la s : Nat} {h : Hd} {B : List UInt8} {R : List (List UInt8)} {i : Nat} (H : LgK dv l la s h B R i) (hs : s ≤ 60) (hi : i ≤ 60) (X : List UInt8) (hX : h.used + (recB X).length ≤ 64 * l) :
    ToldK (dv.commit s (secsAt dv.all (64 + h.used) (recB X)) (Hd.sec ⟨h.area, h.size, h.used + (recB X).length, h.round + 1⟩)).1 (if (dv.commit s (secsAt dv.all (64 + h.used) (recB X)) (Hd.sec ⟨h.area, h.size, h.used + (recB X).length, h.round + 1⟩)).1 = 0 then false else true) (dv.commit s (secsAt dv.all (64 + h.used) (recB X)) (Hd.sec ⟨h.area, h.size, h.used + (recB X).length, h.round + 1⟩)).2 l la s (if (dv.commit s (secsAt dv.all (64 + h.used) (recB X)) (Hd.sec ⟨h.area, h.size, h.used + (recB X).length, h.round + 1⟩)).1 = 0 then ⟨h.area, h.size, h.used + (recB X).length, h.round + 1⟩ else h) B B R (R ++ [X]) (i + 1) := by
  have hsh := H.kp.shape.1
  have hr := H.round
  exact H.commit hs (64 + h.used) (recB X) (by omega) (H.kp.append_out _ hX) (H.kp.append X hX (by omega)) (by simp only; omega)
theorem LgK.switch {dv : Dv} {l la s : Nat} {h : Hd} {B : List UInt8} {R : List (List UInt8)} {i : Nat} (H : LgK dv l la s h B R i) (hs : s ≤ 60) (hi : i ≤ 60) (X : List UInt8) (hX : X.length ≤ 64 * la) :
    ToldK (dv.commit s (secsAt dv.all (areaAt l la (1 - h.area)) X) (Hd.sec ⟨1 - h.area, X.length, 0, h.round + 1⟩)).1 (if (dv.commit s (secsAt dv.all (areaAt l la (1 - h.area)) X) (Hd.sec ⟨1 - h.area, X.length, 0, h.round + 1⟩)).1 = 0 then false else true) (dv.commit s (secsAt dv.all (areaAt l la (1 - h.area)) X) (Hd.sec ⟨1 - h.area, X.length, 0, h.round + 1⟩)).2 l la s (if (dv.commit s (secsAt dv.all (areaAt l la (1 - h.area)) X) (Hd.sec ⟨1 - h.area, X.length, 0, h.round + 1⟩)).1 = 0 then ⟨1 - h.area, X.length, 0, h.round + 1⟩ else h) B X R [] (i + 1) := by
  have hr := H.round
  exact H.commit hs (areaAt l la (1 - h.area)) X (area_in H.kp.shape.1 (by omega) hX) (H.kp.switch_out _ hX) (H.kp.switch X hX (by omega)) (by simp only; omega)
end Go.Proofs.YtldgcoikbjbjeaaGreat
namespace Go.Proofs.YtldgcoikbjbjeaaGreat
open Go.RowKit Go.ChangeShapes
set_option linter.unusedVariables false
abbrev TbRow (F : Nat → Prop) (w : World) (tb mb jn la : Nat) (M : Tab) : Prop := RwAt F w tb mb M 85 [.pointer (some ⟨jn, 0, none⟩), .int .i64 (64 * la : Nat), .pointer (some ⟨tb, 0, none⟩)]
theorem run_eql_tb (w : World) (a : Addr) : (binOp .eql 34 (.pointer (some a)) (.pointer (some a))).run Tryz.prog w = .ok (.bool true) w := by
  have hi : (Tryz.prog.info? 85).isSome = true := by kernel_rfl
  obtain ⟨j, hte⟩ := Option.isSome_iff_exists.1 hi
  exact run_eql_ptr_same (P := Tryz.prog) w a Tryz.underlying34 hte
section
variable {F S : Nat → Prop} {w w' : World} {tb mb jn la : Nat} {M : Tab}
theorem TbRow.cells (h : TbRow F w tb mb jn la M) : w.cell? ⟨tb, 2, none⟩ = some (.pointer (some ⟨jn, 0, none⟩)) ∧ w.cell? ⟨tb, 3, none⟩ = some (.int .i64 (64 * la : Nat)) ∧ w.cell? ⟨tb, 4, none⟩ = some (.pointer (some ⟨tb, 0, none⟩)) :=
  ⟨cell_list (RwAt.row h) rfl, cell_list (RwAt.row h) rfl, cell_list (RwAt.row h) rfl⟩
set_option maxRecDepth 100000 in
theorem isStore_any (h : TbRow F w tb mb jn la M) : Calls Tryz.prog 41 #[.pointer (some ⟨tb, 0, none⟩)] w fun e w' => e = .returned (.bool true) ∧ w = w' := by
  obtain ⟨c2, c3, c4⟩ := TbRow.cells h
  have heq := run_eql_tb
  clear h
  go_enter Tryz.func41, Tryz.ntmps41
  go_wp2
  go_ret
  exact ⟨rfl, rfl⟩
set_option maxRecDepth 100000 in
set_option maxHeartbeats 1000000 in
theorem get6_any (h : TbRow F w tb mb jn la M) (N : ByteArray) (hN : N.size ≤ 1000000) : Calls Tryz.prog 38 #[.pointer (some ⟨tb, 0, none⟩), .string N] w fun e w' => ∃ v, e = .returned (.tuple #[v, .int .i64 (if (tGet M N.data.toList).isSome = true then 0 else 5 : Nat)]) ∧ (∀ b, tGet M N.data.toList = some b → OwnB (fun k => w.heap.size ≤ k) w' v b) ∧ Fr (fun _ => False) w w' := by
  have hs := isStore_any h
  have hg := get_any w h N hN
  have hok := RwAt.ok h
  have HS := Lib.hid hs
  cases hq : tGet M N.data.toList with
  | none =>
    rw [hq] at hg
    have HG := Lib.hid hg
    clear hs hg h
    go_enter Tryz.func38, Tryz.ntmps38
    go_wp2_with (first
      | (go_at_call 41; refine HS.out.mono ?_; rintro e w1 ⟨rfl, rfl⟩)
      | (go_at_call 77; refine HG.out.mono ?_; rintro e w1 ⟨v, rfl, rfl, h1, h2⟩))
    go_ret2
    exact ⟨⟨_, rfl⟩, Fr.refl _ _⟩
  | some b =>
    rw [hq] at hg
    have HG := Lib.hid hg
    have hbl : b.length ≤ 2048 := (hok.2 _ (tGet_mem hq)).2
    have HB := Lib.hid hbl
    clear hs hg h hok hbl
    go_enter Tryz.func38, Tryz.ntmps38
    go_wp2_with (first
      | (go_at_call 41; refine HS.out.mono ?_; rintro e w1 ⟨rfl, rfl⟩)
      | (go_at_call 77; refine HG.out.mono ?_; rintro e w1 ⟨v, rfl, rfl, h1, h2⟩; (have H1 := Lib.hid (h1 b rfl)); clear h1 h2)
      | (go_at_call 45; refine (clone_any _ H1.out (by have := HB.out; omega)).mono ?_; rintro e w2 ⟨v2, rfl, hf2, ho2⟩; (have H2 := Lib.hid (And.intro hf2 ho2)); clear hf2 ho2))
    go_ret2
    refine ⟨_, rfl, ?_⟩
    first | exact ⟨H2.out.2, H2.out.1⟩ | exact ⟨(fun b' e => by obtain rfl := Option.some.inj e; exact H2.out.2), H2.out.1⟩
theorem tLen_le (h : TbRow F w tb mb jn la M) : tLen M ≤ 230000000 := by
  have := RwAt.sum h
  have := (numBytes_len 5 M.length).2
  unfold tLen; omega
end
end Go.Proofs.YtldgcoikbjbjeaaGreat
namespace Go.Proofs.YtldgcoikbjbjeaaGreat
open Go.RowKit
set_option linter.unusedVariables false
section
variable {P : Program}
theorem Oper.wpIn_of_wp {F : Fence} {n : Nat} (hF : WideF F) {o : Oper} (hd : ∀ c, o.op ≠ Op.defer c) {a : Act} {w : World} {K : Act → World → Prop} {Q : Exit → Act → World → Prop} (h : o.wp P a w K Q) : o.wpIn F n P a w K Q := by
  refine ⟨fun f _ => hF.fn f, ?_⟩
  rw [Oper.semAt_plain F _ _ hd]
  unfold Oper.wp at h
  generalize (execOp a.eval o).run P w = r at *
  cases r with
  | ok m w' =>
    cases m
    case value v => exact h
    case skip => exact h
    case defer d => exact h
    case enter f args =>
      refine ⟨fun hx => hF.free hx, hF.calls (Calls.mono h fun e w2 he => ?_)⟩
      cases e <;> exact he
    case row r args =>
      refine ⟨fun hx => hF.free hx, ?_⟩
      cases hF with
      | out =>
        intro c cs _
        obtain ⟨v, w2, hr, hs⟩ := h c cs
        exact ⟨v, w2, hr, stepsIn_wide.2 hs⟩
      | round l =>
        intro c cs _
        obtain ⟨v, w2, hr, hs⟩ := h c cs
        exact ⟨v, w2, hr, stepsIn_wide.2 hs⟩
    all_goals exact absurd h (by simp [Oper.upon])
  | halt x w' =>
    cases x <;> first | exact h | exact absurd h (by simp [Oper.upon])
theorem wpIn_region_inv {F : Fence} {fl : Nat} (hF : WideF F) {id : Nat} {Q : Exit → Act → World → Prop} {a : Act} {w : World} {l : List Oper} (n : Nat) (hm : P.follows .mixedOrders = true) (hdf : ∀ (i : Nat) (o : Oper), l[i]? = some o → ∀ c, o.op ≠ Op.defer c) (hB : invB l n a.tmps.size = true)
    (B : World → Prop) (R : Nat → Value → World → Prop) (D : Nat → Nat → Value → Value → Prop) (Ext : World → World → Prop) (hext : ∀ j u w w', Ext w w' → R j u w → R j u w') (hB0 : B w.drew)
    (hstep : ∀ i, i < n → ∀ o, l[i]? = some o → InvStep P l n Q B R D Ext a i o)
    (htail : ∀ vs w', B w' → (∀ i, i < n → R i (vs i) w') → (∀ i j, i < n → j < n → i ≠ j → D i j (vs i) (vs j) ∨ D j i (vs j) (vs i)) → wpListIn F fl P l.toArray Q (l.drop n) (acts l (fun _ => true) vs a n) w') : (Code.region id l.toArray true).wpIn F fl P Q a w := by
  simp only [invB, Bool.and_eq_true, decide_eq_true_eq, Bool.or_eq_true] at hB
  obtain ⟨⟨⟨⟨hn, hops⟩, hdst⟩, hwait⟩, hseq⟩ := hB
  have hop : ∀ i, i < n → ∃ o, l[i]? = some o ∧ (∀ e ∈ o.after, Region.binds .any e = true → e.on < i) ∧ (∀ d, o.dst = some d → d < a.tmps.size) := by
    intro i hi
    have h := List.all_eq_true.1 hops i (List.mem_range.2 hi)
    cases ho : l[i]? with
    | none => rw [ho] at h; cases h
    | some o =>
      rw [ho] at h
      simp only [Bool.and_eq_true] at h
      obtain ⟨h2, h3⟩ := h
      refine ⟨o, rfl, fun e he hb => ?_, fun d hd => ?_⟩
      · have := Array.all_eq_true_iff_forall_mem.1 h2 e he
        rw [hb] at this
        simpa using this
      · rw [hd] at h3
        simpa using h3
  have hdis : ∀ i j, i < n → j < n → j ≠ i → ∀ d, dstAt l i = some d → dstAt l j ≠ some d := by
    intro i j hi hj hji d hd hd2
    have h := List.all_eq_true.1 (List.all_eq_true.1 hdst i (List.mem_range.2 hi)) j (List.mem_range.2 hj)
    rw [hd, hd2] at h
    simp at h
    omega
  refine wpIn_region_any hm ?_
  have main : ∀ (m : Nat) (listed : Array Bool) (vs : Nat → Value) (w' : World), left n listed = m → HeadInv .any l.toArray n listed → B w' → (∀ i, i < n → listed.getD i false = true → R i (vs i) w') →
      (∀ i j, i < n → j < n → listed.getD i false = true → listed.getD j false = true → i ≠ j → D i j (vs i) (vs j) ∨ D j i (vs j) (vs i)) →
      wpAnyIn F fl P .any l.toArray Q (m + (l.length - n)) listed (acts l (fun i => listed.getD i false) vs a n) w' := by
    intro m
    induction m with
    | zero =>
      intro listed vs w' hl inv hBw hR hD
      have hall : ∀ i, i < n → listed.getD i false = true := fun i hi => by simpa using countP_zero n hl i hi
      have hlisted : listed = (List.replicate n true ++ List.replicate (l.length - n) false).toArray := by
        apply Array.ext
        · rw [inv.size]; simp; omega
        · intro i h1 h2
          have hi : i < l.length := by rw [inv.size] at h1; simpa using h1
          have e1 : listed[i] = listed.getD i false := by simp [h1]
          rw [e1]
          by_cases h : i < n
          · rw [hall i h]
            simp [h]
          · rw [getD_both (inv.tail i (by omega) (by simpa using hi))]
            simp [List.getElem_append, h]
      have hact : acts l (fun i => listed.getD i false) vs a n = acts l (fun _ => true) vs a n := acts_congr n fun j hj => ⟨hall j hj, fun _ => rfl⟩
      rw [hact, Nat.zero_add]
      have hdl : (l.drop n).length = l.length - n := by simp
      rw [← hdl]
      refine wpAnyIn_of_seq (l.drop n) n listed _ w' (fun j => by simp [List.getElem?_drop]) ?_ (htail vs w' hBw (fun i hi => hR i hi (hall i hi)) (fun i j hi hj hij => hD i j hi hj (hall i hi) (hall j hj) hij))
      rw [hdl, hlisted]
      exact hseq
    | succ m ih =>
      intro listed vs w' hl inv hBw hR hD
      have hex : ∃ i, i < n ∧ listed.getD i false = false := by
        by_cases h : ∃ i, i < n ∧ listed.getD i false = false
        · exact h
        · exfalso
          have : left n listed = 0 := by
            unfold left
            rw [List.countP_eq_zero]
            intro i hi
            have hi' := List.mem_range.1 hi
            cases hg : listed.getD i false with
            | true => simp
            | false => exact absurd ⟨i, hi', hg⟩ h
          omega
      obtain ⟨i0, hi0, hun0⟩ := hex
      have hne : Region.ready .any l.toArray listed ≠ [] := by
        obtain ⟨i1, ⟨hi1, hun1⟩, hmin⟩ := least (p := fun i => i < n ∧ listed.getD i false = false) i0 ⟨hi0, hun0⟩
        obtain ⟨o, ho, hback, _⟩ := hop i1 hi1
        have : i1 ∈ Region.ready .any l.toArray listed := by
          refine mem_ready.2 ⟨getD_in (by rw [inv.size]; simp; omega) hun1, o, by simpa using ho, fun e he hb => ?_⟩
          have h1 := hback e he hb
          cases hg : listed.getD e.on false with
          | true => rfl
          | false => exact absurd ⟨by omega, hg⟩ (hmin e.on h1)
        intro h
        rw [h] at this
        cases this
      rw [show m + 1 + (l.length - n) = (m + (l.length - n)) + 1 by omega]
      refine ⟨fun h => absurd h hne, fun i hi => ?_⟩
      have hin : i < n := by
        rcases Nat.lt_or_ge i n with h | h
        · exact h
        · exfalso
          rcases hwait with hw | ⟨⟨hs, hc⟩, hlt⟩
          · obtain ⟨_, o, ho, _⟩ := mem_ready.1 hi
            have := (Array.getElem?_eq_some_iff.1 ho).1
            simp at this
            omega
          · exact tail_waits hs hc (by simpa using hlt) inv _ i0 rfl hi0 (getD_in (by rw [inv.size]; simp; omega) hun0) i h hi
      obtain ⟨hun, o', ho', hall⟩ := mem_ready.1 hi
      obtain ⟨o, ho, hback, hds⟩ := hop i hin
      have : o' = o := by simpa [ho] using ho'.symm
      subst this
      have hdo : dstAt l i = o'.dst := by simp [dstAt, ho]
      have hunf := getD_both hun
      have hst := hstep i hin o' ho (acts l (fun i => listed.getD i false) vs a n) w' vs hBw (acts_size n)
        (fun j t hj ht => by
          obtain ⟨e, he, hb⟩ := Array.any_eq_true'.1 hj
          simp only [Bool.and_eq_true, beq_iff_eq] at hb
          obtain ⟨hb, rfl⟩ := hb
          have h1 := hall e he hb
          have h2 := hback e he hb
          refine ⟨hR e.on (by omega) h1, ?_⟩
          obtain ⟨oe, hoe, _, hde⟩ := hop e.on (by omega)
          exact acts_eval_eq h1 ht (hde t (by simpa [dstAt, hoe] using ht)) n (by omega) (fun j hj hji => hdis e.on j (by omega) hj hji t ht))
        (fun t ht => acts_eval_ne n (fun j hj => by simpa using List.all_eq_true.1 ht j (List.mem_range.2 hj)))
      have hgo : ∀ a' w2, (∃ v, a' = (acts l (fun i => listed.getD i false) vs a n).put o'.dst v ∧ B w2 ∧ Ext w' w2 ∧ R i v w2 ∧ ∀ j u, j < n → j ≠ i → R j u w' → D i j v u) →
          wpAnyIn F fl P .any l.toArray Q (m + (l.length - n)) (listed.setIfInBounds i true) a' w2 := by
        rintro a' w2 ⟨v, rfl, hB2, hE, hRv, hDv⟩
        have hput := acts_put (l := l) (f := fun i => listed.getD i false) (vs := vs) (a0 := a) (i := i) (v := v) hunf n hin (fun j hj hji d hd => hdis i j hin hj hji d hd)
        rw [← hdo, ← hput]
        have hcong : acts l (fun j => if j = i then true else listed.getD j false) (fun j => if j = i then v else vs j) a n = acts l (fun j => (listed.setIfInBounds i true).getD j false) (fun j => if j = i then v else vs j) a n := by
          refine acts_congr n fun j hj => ⟨?_, fun _ => rfl⟩
          by_cases hji : j = i
          · subst hji
            rw [if_pos rfl]
            have : j < listed.size := by rw [inv.size]; simp; omega
            simp [this]
          · rw [if_neg hji, getD_set_ne false (Ne.symm hji)]
        rw [hcong]
        refine ih _ _ w2 ?_ (inv.set hi hin) hB2 (fun j hj hlj => ?_) (fun j k hj hk hlj hlk hjk => ?_)
        · have hsz : i < listed.size := by rw [inv.size]; simp; omega
          have := countP_one (f := fun j => !listed.getD j false) (g := fun j => !(listed.setIfInBounds i true).getD j false) (i := i) (by simp only [hunf]; rfl) (by simp [hsz]) (fun j hj => by simp only [getD_set_ne false (Ne.symm hj)]) n
          rw [if_pos hin] at this
          unfold left at hl ⊢
          omega
        · by_cases hji : j = i
          · subst hji
            rw [if_pos rfl]
            exact hRv
          · rw [if_neg hji]
            rw [getD_set_ne false (Ne.symm hji)] at hlj
            exact hext _ _ _ _ hE (hR j hj hlj)
        · by_cases hji : j = i
          · subst hji
            rw [if_pos rfl, if_neg (Ne.symm hjk)]
            rw [getD_set_ne false hjk] at hlk
            exact .inl (hDv k _ hk (Ne.symm hjk) (hR k hk hlk))
          · rw [if_neg hji]
            rw [getD_set_ne false (Ne.symm hji)] at hlj
            by_cases hki : k = i
            · subst hki
              rw [if_pos rfl]
              exact .inr (hDv j _ hj hji (hR j hj hlj))
            · rw [if_neg hki]
              rw [getD_set_ne false (Ne.symm hki)] at hlk
              exact hD j k hj hk hlj hlk hjk
      unfold wpOpIn
      rw [ho']
      unfold WpG at hst
      simp only
      split
      · rename_i hw
        rw [if_pos hw] at hst
        exact Oper.wpIn_mono (fun a' w2 h => hgo a' w2 h) (Oper.wpIn_of_wp hF (hdf i o' ho) hst)
      · rename_i hw
        rw [if_neg hw] at hst
        exact ⟨fun f _ => hF.fn f, hgo _ _ hst⟩
  have h0 : left n (Array.replicate l.length false) = n := by
    unfold left
    have : ((List.range n).countP fun i => !(Array.replicate l.length false).getD i false) = (List.range n).length := by
      rw [List.countP_eq_length]
      intro i _
      rw [getD_replicate_false]
      rfl
    rw [this, List.length_range]
  have hmain := main n (Array.replicate l.length false) (fun _ => undef) w.drew h0
    ⟨by simp, fun j oj _ hl => (by rw [getD_replicate_false] at hl; cases hl), fun t _ ht => getD_in (by simpa using ht) (getD_replicate_false _ _)⟩ hB0 (fun i _ hl => by rw [getD_replicate_false] at hl; cases hl) (fun i j _ _ hl => by rw [getD_replicate_false] at hl; cases hl)
  have e1 : acts l (fun i => (Array.replicate l.length false).getD i false) (fun _ => undef) a n = a := by
    have : ∀ k, acts l (fun i => (Array.replicate l.length false).getD i false) (fun _ => undef) a k = a := by
      intro k
      induction k with
      | zero => rfl
      | succ k ih => unfold acts; rw [if_neg (by rw [getD_replicate_false]; decide), ih]
    exact this n
  rw [e1, show n + (l.length - n) = l.length by omega] at hmain
  exact hmain
end
end Go.Proofs.YtldgcoikbjbjeaaGreat
