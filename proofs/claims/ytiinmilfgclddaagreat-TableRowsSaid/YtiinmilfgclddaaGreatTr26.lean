/- Laid together by merge.py: JOpen2 JLg JAwk JRoomP JKeptP TTab -/
import Derived.Test.YtiinmilfgclddaaGreatTr25
import Derived.Test.YtiinmilfgclddaaGreatTr16
import Derived.Test.YtiinmilfgclddaaGreatTr21

/- Contract: log.Open, of a device that has a journal. -/
namespace Go.Proofs.YtiinmilfgclddaaGreat
open Go.RowKit Go.ChangeShapes
set_option linter.unusedVariables false

def OpenPost (w : World) (g l la d : Nat) (h : Hd) (e : Ending) (w' : World) : Prop := ∃ jn, e = .returned (.tuple #[.pointer (some ⟨jn, 0, none⟩), .int .i64 0]) ∧ w.heap.size ≤ jn ∧ JnAt w' jn g h l la d false ∧ Fr (fun _ => False) w w'
set_option maxRecDepth 100000 in
set_option maxHeartbeats 4000000 in
theorem lOpen_any {D : Nat → Prop} (w : World) (g l la d s : Nat) (dv : Dv) (h : Hd) (B : List UInt8) (R : List (List UInt8)) (hok : ShOk l la d s) (hd : DevAt w D g s dv) (hup : dv.down = false) (hw : dv.waits = []) (k : Kp dv.all l la s h B R) :
    Calls Tryz.prog 27 #[.pointer (some ⟨g, 0, none⟩), .agg #[.int .i64 l, .int .i64 la, .int .i64 d]] w (OpenPost w g l la d h) := by
  have hl : l ≤ 8192 := by have := hok.sum; have := hok.most; omega
  have hla : la ≤ 8192 := by have := hok.sum; have := hok.most; omega
  obtain ⟨W1, hW1⟩ : ∃ W1, W1 = w.alloc (.cells #[.int .i64 l, .int .i64 la, .int .i64 d] 23) := ⟨_, rfl⟩
  have hf1 : Fr (fun _ => False) w W1 := by rw [hW1]; exact (Fr.refl _ _).alloc _
  have hrow : W1.heap[w.heap.size]? = some (.cells #[.int .i64 l, .int .i64 la, .int .i64 d] 23 (0, 0)) := by rw [hW1]; exact heap_alloc_new w _
  have HFI := Lib.hid (lFits_any W1 g l la d s dv hok (hd.keep hf1 (fun _ _ _ h => h)))
  have HW := Lib.hid (And.intro hW1 (And.intro hf1 hrow))
  have HD := Lib.hid (And.intro hd (And.intro hup hw))
  have HK := Lib.hid k
  have HOK := Lib.hid hok
  have hnum := k.right.num hl hla
  have har := k.right.area
  have hrd := k.right.round.1
  have hus := k.right.used
  have HN := Lib.hid (And.intro hnum (And.intro har (And.intro hrd hus)))
  obtain ⟨x1, hx1⟩ : ∃ x, x = h.area := ⟨_, rfl⟩
  obtain ⟨x2, hx2⟩ : ∃ x, x = h.size := ⟨_, rfl⟩
  obtain ⟨x3, hx3⟩ : ∃ x, x = h.used := ⟨_, rfl⟩
  obtain ⟨x4, hx4⟩ : ∃ x, x = h.round := ⟨_, rfl⟩
  have HX := Lib.hid (And.intro hx1 (And.intro hx2 (And.intro hx3 hx4)))
  have hwi := fun W => lWithin_any W h l la d hl hla k.right
  rw [← hx1, ← hx2, ← hx3, ← hx4] at hwi
  have HWI := Lib.hid hwi
  clear hok hd hup hw k hW1 hf1 hrow hnum har hrd hus hx1 hx2 hx3 hx4 hwi
  go_enter Tryz.func27, Tryz.ntmps27
  go_wp2_with fail
  rw [← HW.out.1]
  refine HFI.out.mono ?_
  rintro e w2 ⟨rfl, hf2⟩
  have H2 := Lib.hid (And.intro (HW.out.2.1.trans hf2 (fun _ h => h.elim)) (hf2.heap HW.out.2.2 id))
  clear hf2
  go_wp2_with fail
  have hr3 := aRead w2 g s dv ((0 : Nat) : Int) (by rw [HD.out.2.2]; decide) (HD.out.1.keep H2.out.1 (fun _ _ _ h => h))
  rw [Dv.read_yes HD.out.2.1 HD.out.2.2 (by have := HOK.out.sum; omega), HK.out.head] at hr3
  refine Calls.mono (show Calls Tryz.prog 53 #[.pointer (some ⟨g, 0, none⟩), .int .i64 0] w2 _ from hr3) ?_
  rintro e w3 ⟨v3, rfl, ht3, hf3⟩
  have H3 := Lib.hid (And.intro (H2.out.1.trans hf3 (fun _ h => h.elim)) (And.intro (hf3.heap H2.out.2 id) ht3.bytes))
  clear hf3 ht3 hr3
  go_wp2_with fail
  refine (lHeadOf_any w3 v3 h HN.out.1 HN.out.2.1 HN.out.2.2.1 H3.out.2.2).mono ?_
  rintro e w4 ⟨rfl, hf4⟩
  rw [← HX.out.1, ← HX.out.2.1, ← HX.out.2.2.1, ← HX.out.2.2.2]
  have H4 := Lib.hid (And.intro (H3.out.1.trans hf4 (fun _ h => h.elim)) (hf4.heap H3.out.2.1 id))
  clear hf4
  obtain ⟨W5, hW5⟩ : ∃ W5, W5 = w4.alloc (.cells #[.int .i64 x1, .int .i64 x2, .int .i64 x3, .int .i64 x4] 106) := ⟨_, rfl⟩
  have H5 := Lib.hid (show Fr (fun _ => False) w W5 ∧ W5.heap[w.heap.size]? = some (.cells #[.int .i64 l, .int .i64 la, .int .i64 d] 23 (0, 0)) ∧ W5.heap[w4.heap.size]? = some (.cells #[.int .i64 x1, .int .i64 x2, .int .i64 x3, .int .i64 x4] 106 (0, 0)) by
    rw [hW5]
    exact ⟨H4.out.1.alloc _, ((Fr.refl (fun _ => False) w4).alloc _).heap H4.out.2 id, heap_alloc_new w4 _⟩)
  obtain ⟨s0, s1, s2⟩ := row3_cells H5.out.2.1
  have HW5 := Lib.hid hW5
  rw [hW5] at s0 s1 s2
  clear hW5
  go_wp2_with fail
  rw [← HW5.out]
  obtain ⟨gh, hgh⟩ : ∃ gh, gh = w4.heap.size := ⟨_, rfl⟩
  rw [← hgh] at H5 ⊢
  clear s0 s1 s2 hgh
  refine (HWI.out W5).mono ?_
  rintro e w6 ⟨rfl, hf6⟩
  have H6 := Lib.hid (And.intro (H5.out.1.trans hf6 (fun _ h => h.elim)) (And.intro (hf6.heap H5.out.2.1 id) (hf6.heap H5.out.2.2 id)))
  clear hf6
  obtain ⟨c0, c1, c2, c3⟩ := row4_cells H6.out.2.2
  go_wp2_with fail
  have hr7 := lRead_any w6 g s 1 x3 dv (HD.out.1.keep H6.out.1 (fun _ _ _ h => h)) HD.out.2.1 HD.out.2.2 HOK.out.most (by have := HN.out.2.2.2; have := HX.out.2.2.1; have := HOK.out.sum; omega)
  rw [show 64 * 1 = 64 from rfl, HX.out.2.2.1, HK.out.recs, ← HX.out.2.2.1] at hr7
  refine hr7.mono ?_
  rintro e w7 ⟨v7, rfl, ho7, hf7⟩
  have H7 := Lib.hid (And.intro (H6.out.1.trans hf7 (fun _ h => h.elim)) (And.intro (hf7.heap H6.out.2.1 id) (And.intro (hf7.heap H6.out.2.2 id) ho7.bytes)))
  clear hf7 ho7 hr7 c0 c1 c2 c3
  go_wp2_with fail
  refine (lRecords_any w7 v7 R H7.out.2.2.2 (by rw [← HK.out.recs, cut4_length _ _ _ (by rw [HK.out.len]; have := HN.out.2.2.2; have := HOK.out.sum; omega)]; have := HN.out.2.2.2; omega)).mono ?_
  rintro e w8 ⟨v8, rfl, hr8, hf8⟩
  have H8 := Lib.hid (And.intro (H7.out.1.trans hf8 (fun _ h => h.elim)) (And.intro (hf8.heap H7.out.2.1 id) (hf8.heap H7.out.2.2.1 id)))
  clear hf8 hr8
  obtain ⟨c0, c1, c2, c3⟩ := row4_cells H8.out.2.2
  obtain ⟨s0, s1, s2⟩ := row3_cells H8.out.2.1
  go_wp2
  go_ret2
  unfold OpenPost
  refine ⟨w8.heap.size, rfl, H8.out.1.size, ?_, H8.out.1.alloc _⟩
  unfold JnAt
  rw [← HX.out.1, ← HX.out.2.1, ← HX.out.2.2.1, ← HX.out.2.2.2]
  exact heap_alloc_new w8 _
end Go.Proofs.YtiinmilfgclddaaGreat

/- A journal and its device as one thing, made since w0, apart from the blocks X. -/
namespace Go.Proofs.YtiinmilfgclddaaGreat
open Go.RowKit Go.ChangeShapes
set_option linter.unusedVariables false

structure LgAt (w0 w : World) (jn g s l la d : Nat) (h : Hd) (dn : Bool) (dv : Dv) (X : Nat → Prop) : Prop where
  jrn : JnAt w jn g h l la d dn
  dev : ∃ D : Nat → Prop, DevAt w D g s dv ∧ ∀ k, D k → w0.heap.size ≤ k ∧ k < w.heap.size ∧ k ≠ jn ∧ ¬ X k
  low : w0.heap.size ≤ jn ∧ ¬ X jn
  xs : ∀ k, X k → k < w.heap.size
  fr : Fr (fun _ => False) w0 w
/-- The blocks that its calls may turn. -/
abbrev LgT (w0 : World) (X : Nat → Prop) : Nat → Prop := fun k => w0.heap.size ≤ k ∧ ¬ X k
theorem ShOk.l8 {l la d s : Nat} (h : ShOk l la d s) : l ≤ 8192 := by have := h.sum; have := h.most; omega
theorem ShOk.la8 {l la d s : Nat} (h : ShOk l la d s) : la ≤ 8192 := by have := h.sum; have := h.most; omega
section
variable {w0 w w' : World} {jn g s l la d : Nat} {h h' : Hd} {dn : Bool} {dv : Dv} {X : Nat → Prop}
theorem LgAt.quiet (H : LgAt w0 w jn g s l la d h dn dv X) (hf : Fr (fun _ => False) w w') : LgAt w0 w' jn g s l la d h dn dv X := by
  obtain ⟨D, h1, h2⟩ := H.dev
  have hz := hf.size
  exact ⟨H.jrn.keep hf id, ⟨D, h1.keep hf (fun _ _ _ h => h), fun k hk => ⟨(h2 k hk).1, by have := (h2 k hk).2.1; omega, (h2 k hk).2.2⟩⟩, H.low, fun k hk => by have := H.xs k hk; omega, H.fr.trans hf (fun _ h => h.elim)⟩
/-- A turn of a foreign block (in X, or before w0). -/
theorem LgAt.away {S : Nat → Prop} (H : LgAt w0 w jn g s l la d h dn dv X) (hf : Fr S w w') (hS : ∀ k, S k → X k ∧ w0.heap.size ≤ k) : LgAt w0 w' jn g s l la d h dn dv X := by
  obtain ⟨D, h1, h2⟩ := H.dev
  have hz := hf.size
  exact ⟨H.jrn.keep hf (fun hh => H.low.2 (hS _ hh).1), ⟨D, h1.keep hf (fun k _ hD hh => (h2 k hD).2.2.2 (hS k hh).1), fun k hk => ⟨(h2 k hk).1, by have := (h2 k hk).2.1; omega, (h2 k hk).2.2⟩⟩, H.low, fun k hk => by have := H.xs k hk; omega, H.fr.trans hf (fun k h => .inr (hS k h).2)⟩
theorem LgAt.turn {D : Nat → Prop} {dv' : Dv} (H : LgAt w0 w jn g s l la d h dn dv X) (h2 : ∀ k, D k → w0.heap.size ≤ k ∧ k < w.heap.size ∧ k ≠ jn ∧ ¬ X k) {h' : Hd} {dn' : Bool} (hj : JnAt w' jn g h' l la d dn') (hd : DevAt w' (More D w) g s dv') (hf : Fr (fun k => D k ∨ k = jn) w w') :
    LgAt w0 w' jn g s l la d h' dn' dv' X ∧ Fr (LgT w0 X) w w' := by
  have hz := hf.size
  have hz0 := H.fr.size
  have hjl := H.jrn.lt
  refine ⟨⟨hj, ⟨fun k => More D w k ∧ k < w'.heap.size, hd.mono (fun k hk hh => ⟨hh, hk⟩), ?_⟩, H.low, fun k hk => by have := H.xs k hk; omega, H.fr.trans hf (fun k hk => .inr (by rcases hk with hk | rfl; exact (h2 k hk).1; exact H.low.1))⟩, hf.mono fun k _ hk => ?_⟩
  · rintro k ⟨hk | hk, hlt⟩
    · exact ⟨(h2 k hk).1, hlt, (h2 k hk).2.2⟩
    · exact ⟨by omega, hlt, by omega, fun hX => by have := H.xs k hX; omega⟩
  · rcases hk with hk | rfl
    · exact ⟨(h2 k hk).1, (h2 k hk).2.2.2⟩
    · exact H.low
def LgPost (w0 w : World) (jn g s l la d : Nat) (h h' : Hd) (r : Int × Dv) (X : Nat → Prop) (e : Ending) (w' : World) : Prop :=
  e = .returned (.int .i64 r.1) ∧ LgAt w0 w' jn g s l la d (if r.1 = 0 then h' else h) (if r.1 = 0 then false else true) r.2 X ∧ Fr (LgT w0 X) w w'
theorem gAppend {G : Nat → Prop} (H : LgAt w0 w jn g s l la d h false dv X) (hok : ShOk l la d s) (hr : h.Right l la) (vb : Value) (B : List UInt8) (hB : B.length ≤ 1048576) (hb : BytesIn G w vb B) (hc1 : (recB B).length ≤ 64 * l - h.used) (hc2 : h.round < 1099511627776) (hup : dv.down = false) (hw : dv.waits = []) (hk6 : dv.deeds ≤ 900000000) :
    Calls Tryz.prog 74 #[.pointer (some ⟨jn, 0, none⟩), vb] w (LgPost w0 w jn g s l la d h ⟨h.area, h.size, h.used + (recB B).length, h.round + 1⟩ (dv.commit s (secsAt dv.all (64 + h.used) (recB B)) (Hd.sec ⟨h.area, h.size, h.used + (recB B).length, h.round + 1⟩)) X) := by
  obtain ⟨D, h1, h2⟩ := H.dev
  refine (jAppend_yes w jn g s l la d h vb B dv hok.l8 hok.la8 hr hr.used hB H.jrn hb hc1 hc2 (fun hh => (h2 _ hh).2.2.1 rfl) h1 hup hw hok.most (by have := hok.sum; omega) hk6).mono ?_
  rintro e w' ⟨rfl, hd, hj, hf⟩
  exact ⟨rfl, H.turn h2 hj hd hf⟩
theorem gSwitch {G : Nat → Prop} (H : LgAt w0 w jn g s l la d h false dv X) (hok : ShOk l la d s) (hr : h.Right l la) (vb : Value) (B : List UInt8) (hb : BytesIn G w vb B) (hc1 : B.length ≤ 64 * la) (hc2 : h.round < 1099511627776) (hup : dv.down = false) (hw : dv.waits = []) (hk6 : dv.deeds ≤ 900000000) :
    Calls Tryz.prog 75 #[.pointer (some ⟨jn, 0, none⟩), vb] w (LgPost w0 w jn g s l la d h ⟨1 - h.area, B.length, 0, h.round + 1⟩ (dv.commit s (secsAt dv.all (areaAt l la (1 - h.area)) B) (Hd.sec ⟨1 - h.area, B.length, 0, h.round + 1⟩)) X) := by
  obtain ⟨D, h1, h2⟩ := H.dev
  refine (jSwitch_yes w jn g s l la d h vb B hok.l8 hok.la8 hr H.jrn hb hc1 dv hc2 (fun hh => (h2 _ hh).2.2.1 rfl) h1 hup hw hok.most (by have := hok.sum; omega) hk6).mono ?_
  rintro e w' ⟨rfl, hd, hj, hf⟩
  exact ⟨rfl, H.turn h2 hj hd hf⟩
theorem gFuse (H : LgAt w0 w jn g s l la d h dn dv X) (n : Int) (hn : n ≤ 9223372036854775807) (hn0 : -9223372036854775808 ≤ n) :
    Calls Tryz.prog 13 #[.pointer (some ⟨g, 0, none⟩), .int .i64 n] w fun e w' => e = .returned (.int .i64 (dv.fuse n).1) ∧ LgAt w0 w' jn g s l la d h dn (dv.fuse n).2 X ∧ Fr (LgT w0 X) w w' := by
  obtain ⟨D, h1, h2⟩ := H.dev
  refine (aFuse w g s dv n hn hn0 h1).mono ?_
  rintro e w' ⟨rfl, hd, hf⟩
  exact ⟨rfl, H.turn h2 (H.jrn.keep hf (fun hh => (h2 _ hh).2.2.1 rfl)) hd (hf.mono (fun k _ h => .inl h))⟩
theorem gWake (H : LgAt w0 w jn g s l la d h dn dv X) (keep : Int) (hkp0 : -9223372036854775808 ≤ keep) (hkp1 : keep ≤ 9223372036854775807) (hn6 : dv.waits.length ≤ 1000000) :
    Calls Tryz.prog 17 #[.pointer (some ⟨g, 0, none⟩), .int .i64 keep] w fun e w' => e = .returned (.int .i64 (dv.wake keep).1) ∧ LgAt w0 w' jn g s l la d h dn (dv.wake keep).2 X ∧ Fr (LgT w0 X) w w' := by
  obtain ⟨D, h1, h2⟩ := H.dev
  refine (aWake w g s dv keep hkp0 hkp1 hn6 h1).mono ?_
  rintro e w' ⟨rfl, hd, hf⟩
  exact ⟨rfl, H.turn h2 (H.jrn.keep hf (fun hh => (h2 _ hh).2.2.1 rfl)) hd (hf.mono (fun k _ h => .inl h))⟩
/-- Opened anew: the journal that was is left. -/
theorem LgAt.opened (H : LgAt w0 w jn g s l la d h dn dv X) {jm : Nat} {h' : Hd} (hz : w.heap.size ≤ jm) (hj : JnAt w' jm g h' l la d false) (hf : Fr (fun k => X k ∧ w0.heap.size ≤ k) w w') : LgAt w0 w' jm g s l la d h' false dv X := by
  obtain ⟨D, h1, h2⟩ := H.dev
  have := hf.size
  have := H.fr.size
  exact ⟨hj, ⟨D, h1.keep hf (fun k _ hD hh => (h2 k hD).2.2.2 hh.1), fun k hk => ⟨(h2 k hk).1, by have := (h2 k hk).2.1; omega, by have := (h2 k hk).2.1; omega, (h2 k hk).2.2.2⟩⟩, ⟨by omega, fun hX => by have := H.xs _ hX; omega⟩, fun k hk => by have := H.xs k hk; omega, H.fr.trans hf (fun k h => .inr h.2)⟩
theorem gOpen (H : LgAt w0 w jn g s l la d h dn dv X) (hok : ShOk l la d s) {h' : Hd} {B : List UInt8} {R : List (List UInt8)} (hup : dv.down = false) (hw : dv.waits = []) (k : Kp dv.all l la s h' B R) :
    Calls Tryz.prog 27 #[.pointer (some ⟨g, 0, none⟩), .agg #[.int .i64 l, .int .i64 la, .int .i64 d]] w fun e w' => ∃ jm, e = .returned (.tuple #[.pointer (some ⟨jm, 0, none⟩), .int .i64 0]) ∧ LgAt w0 w' jm g s l la d h' false dv X ∧ Fr (fun _ => False) w w' := by
  obtain ⟨D, h1, h2⟩ := H.dev
  refine (lOpen_any w g l la d s dv h' B R hok h1 hup hw k).mono ?_
  rintro e w' ⟨jm, rfl, hz, hj, hf⟩
  exact ⟨jm, rfl, H.opened hz hj (hf.mono (fun _ _ h => h.elim)), hf⟩
theorem gRecords (H : LgAt w0 w jn g s l la d h false dv X) (hok : ShOk l la d s) {B : List UInt8} {R : List (List UInt8)} (hup : dv.down = false) (hw : dv.waits = []) (k : Kp dv.all l la s h B R) :
    Calls Tryz.prog 59 #[.pointer (some ⟨jn, 0, none⟩)] w (RecsPost w R) := by
  obtain ⟨D, h1, h2⟩ := H.dev
  exact jRecords_any w jn g s l la d h dv R H.jrn h1 hup hw hok.most (by have := k.right.used; have := hok.sum; omega) k.recs
theorem gArea (H : LgAt w0 w jn g s l la d h false dv X) (hok : ShOk l la d s) {B : List UInt8} {R : List (List UInt8)} (hup : dv.down = false) (hw : dv.waits = []) (k : Kp dv.all l la s h B R) :
    Calls Tryz.prog 58 #[.pointer (some ⟨jn, 0, none⟩)] w (ReadPost w B) := by
  obtain ⟨D, h1, h2⟩ := H.dev
  have := jArea_any w jn g s l la d h dv hok.l8 hok.la8 k.right H.jrn h1 hup hw hok.most (by have := hok.sum; omega)
  rwa [k.area] at this
end
end Go.Proofs.YtiinmilfgclddaaGreat

/- The plain side of the law's example: a device of six sectors, by name. No program. -/
namespace Go.Proofs.YtiinmilfgclddaaGreat
set_option linter.unusedVariables false

theorem Dv.tell_new (d : Dv) (s : Nat) (sec : List UInt8) (hd : d.down = false) (hl : d.left = 0) (hw : d.waits = []) (hs : 1 ≤ s) (hsec : sec.length = 64) :
    d.tell s sec = (0, { all := putSec d.all 0 sec, waits := [], deeds := d.deeds + 2, left := 0, down := false }) := by
  unfold Dv.tell
  rw [Dv.write_ok (d := d) (s := s) (a := 0) (b := sec) hd (by omega) (by omega), if_pos rfl, Dv.flush_ok (by simpa using hd) (by simp only; omega)]
  simp only [hw, hl, hd, List.nil_append, full64_self _ hsec]
  simp [wakeL]
def awD1 : Dv := { all := putSec (List.replicate 384 0) 0 (Hd.sec ⟨0, 0, 0, 1⟩), waits := [], deeds := 2, left := 0, down := false }
def awR2 : Int × Dv := awD1.commit 6 (secsAt awD1.all 64 (recB [97])) (Hd.sec ⟨0, 0, 2, 2⟩)
def awR3 : Int × Dv := awR2.2.commit 6 (secsAt awR2.2.all 66 (recB [98])) (Hd.sec ⟨0, 0, 4, 3⟩)
def awR4 : Int × Dv := awR3.2.fuse 4
def awR5 : Int × Dv := awR4.2.commit 6 (secsAt awR4.2.all 68 (recB [99])) (Hd.sec ⟨0, 0, 6, 4⟩)
def awR6 (n : Int) : Int × Dv := awR5.2.wake n
theorem aw1_new : (Dv.new 6).tell 6 (Hd.sec ⟨0, 0, 0, 1⟩) = (0, awD1) := Dv.tell_new (Dv.new 6) 6 _ rfl rfl rfl (by decide) (Hd.sec_length _)
theorem aw1_kp : Kp awD1.all 2 1 6 ⟨0, 0, 0, 1⟩ [] [] := Kp.formatted (K := List.replicate 384 0) (by decide +kernel) (by decide)
theorem aw2_is : awR2.1 = 0 ∧ awR2.2.down = false ∧ awR2.2.waits = [] ∧ awR2.2.deeds ≤ 100 := by decide +kernel
theorem aw3_is : awR3.1 = 0 ∧ awR3.2.down = false ∧ awR3.2.waits = [] ∧ awR3.2.deeds ≤ 100 := by decide +kernel
theorem aw4_is : awR4.1 = 0 ∧ awR4.2.down = false ∧ awR4.2.waits = [] ∧ awR4.2.deeds ≤ 100 := by decide +kernel
theorem aw5_is : awR5.1 = 10 ∧ awR5.2.waits.length ≤ 1000 := by decide +kernel
theorem aw6_is : ∀ n : Fin 2, (awR6 n.val).1 = 0 ∧ (awR6 n.val).2.down = false ∧ (awR6 n.val).2.waits = [] := by decide +kernel
theorem aw6_0 : Kp (awR6 0).2.all 2 1 6 ⟨0, 0, 4, 3⟩ [] [[97], [98]] :=
  ⟨by decide +kernel, by decide, by decide +kernel, ⟨by decide, by decide, by decide, by decide⟩, by decide +kernel, by decide +kernel⟩
theorem aw6_1 : Kp (awR6 1).2.all 2 1 6 ⟨0, 0, 6, 4⟩ [] [[97], [98], [99]] :=
  ⟨by decide +kernel, by decide, by decide +kernel, ⟨by decide, by decide, by decide, by decide⟩, by decide +kernel, by decide +kernel⟩
theorem aw6_kp (n : Nat) (hn : n < 2) : ∃ h R, Kp (awR6 n).2.all 2 1 6 h [] R ∧ R.length = 2 + n ∧ ∃ x y, R = x :: [98] :: y := by
  obtain rfl | rfl : n = 0 ∨ n = 1 := by omega
  · exact ⟨_, _, aw6_0, rfl, _, _, rfl⟩
  · exact ⟨_, _, aw6_1, rfl, _, _, rfl⟩
theorem aw6_ok (n : Nat) (hn : n < 2) : (awR6 n).1 = 0 ∧ (awR6 n).2.down = false ∧ (awR6 n).2.waits = [] := by
  have := aw6_is ⟨n, hn⟩
  exact this
end Go.Proofs.YtiinmilfgclddaaGreat

/- What LogRoom and LogKept need, plain; a journal that was made. -/
namespace Go.Proofs.YtiinmilfgclddaaGreat
open Go.RowKit Go.ChangeShapes
set_option linter.unusedVariables false

theorem recB_small (X : List UInt8) (h : X.length ≤ 6000) : (recB X).length = if 128 ≤ X.length then X.length + 2 else X.length + 1 := by
  unfold recB
  rw [List.length_append]
  by_cases h1 : 128 ≤ X.length
  · rw [if_pos h1]
    have : (numBytes 5 X.length).length = 2 := by
      rw [numBytes, if_neg (by omega), numBytes, if_pos (by omega)]
      rfl
    omega
  · rw [if_neg h1]
    have : (numBytes 5 X.length).length = 1 := by
      rw [numBytes, if_pos (by omega)]
      rfl
    omega
theorem secsAt_le {K : List UInt8} {s o : Nat} {X : List UInt8} (ho : o + X.length ≤ 64 * s) : (secsAt K o X).length ≤ s := by
  have hm := manySecs_le s o X.length ho
  have : (secsAt K o X).length = manySecs o X.length := by unfold secsAt; rw [secsOf_length]
  rw [this]
  rcases hm with hm | hm
  · omega
  · rw [manySecs, if_pos hm]; omega
/-- A commit on a device that is up, with no fuse, is done. -/
theorem commit_quiet {dv : Dv} {l la s : Nat} {h h' : Hd} {B B' : List UInt8} {R R' : List (List UInt8)} (k : Kp dv.all l la s h B R) (o : Nat) (X : List UInt8) (ho : o + X.length ≤ 64 * s)
    (hout : ∀ j, (j < 64 + h.used ∨ (areaAt l la h.area ≤ j ∧ j < areaAt l la h.area + h.size)) → ¬ (o ≤ j ∧ j < o + X.length))
    (hnew : Kp (putSec (over4 dv.all o X) 0 h'.sec) l la s h' B' R') (hd : dv.down = false) (hw : dv.waits = []) (hl : dv.left = 0) (hs : s ≤ 60) :
    (dv.commit s (secsAt dv.all o X) h'.sec).1 = 0 ∧ Kp (dv.commit s (secsAt dv.all o X) h'.sec).2.all l la s h' B' R' ∧ (dv.commit s (secsAt dv.all o X) h'.sec).2.down = false ∧ (dv.commit s (secsAt dv.all o X) h'.sec).2.waits = [] ∧ (dv.commit s (secsAt dv.all o X) h'.sec).2.left = 0 ∧ (dv.commit s (secsAt dv.all o X) h'.sec).2.deeds ≤ dv.deeds + 70 := by
  have hs1 : 1 ≤ s := by have := k.shape.1; omega
  have hr := k.redo o X ho hout hnew hd hw
  have hle := secsAt_le (K := dv.all) ho
  rcases dv.commit_cases s hs1 _ h'.sec hd hw (secsAt_right k.len ho) h'.sec_length with ⟨a1, _, a3, a4, a5, a6⟩ | ⟨b0, _⟩
  · exact ⟨a1, hr.1 a1, a4, a3, a6 hl, by omega⟩
  · exact absurd hl b0
/-- The state of a journal, plain, after i deeds. -/
structure LgOk (dv : Dv) (l la s : Nat) (h : Hd) (B : List UInt8) (R : List (List UInt8)) (i : Nat) : Prop where
  up : dv.down = false
  waits : dv.waits = []
  left : dv.left = 0
  kp : Kp dv.all l la s h B R
  deeds : dv.deeds ≤ 2 + 70 * i
  round : h.round ≤ 1 + i
theorem LgOk.new (l la d s : Nat) (hok : ShOk l la d s) : ∃ dv1, (Dv.new s).tell s (Hd.sec ⟨0, 0, 0, 1⟩) = (0, dv1) ∧ LgOk dv1 l la s ⟨0, 0, 0, 1⟩ [] [] 0 := by
  refine ⟨_, Dv.tell_new (Dv.new s) s _ rfl rfl rfl (by have := hok.sum; omega) (Hd.sec_length _), rfl, rfl, rfl, Kp.formatted (by simp [Dv.new]) ⟨by have := hok.sum; omega, hok.most⟩, by simp [Dv.new], by simp⟩
theorem LgOk.next {dv : Dv} {l la s : Nat} {h : Hd} {B : List UInt8} {R : List (List UInt8)} {i : Nat} (H : LgOk dv l la s h B R i) : LgOk dv l la s h B R (i + 1) :=
  ⟨H.up, H.waits, H.left, H.kp, by have := H.deeds; omega, by have := H.round; omega⟩
theorem LgOk.append {dv : Dv} {l la s : Nat} {h : Hd} {B : List UInt8} {R : List (List UInt8)} {i : Nat} (H : LgOk dv l la s h B R i) (hs : s ≤ 60) (hi : i ≤ 60) (X : List UInt8) (hX : h.used + (recB X).length ≤ 64 * l) :
    (dv.commit s (secsAt dv.all (64 + h.used) (recB X)) (Hd.sec ⟨h.area, h.size, h.used + (recB X).length, h.round + 1⟩)).1 = 0 ∧ LgOk (dv.commit s (secsAt dv.all (64 + h.used) (recB X)) (Hd.sec ⟨h.area, h.size, h.used + (recB X).length, h.round + 1⟩)).2 l la s ⟨h.area, h.size, h.used + (recB X).length, h.round + 1⟩ B (R ++ [X]) (i + 1) := by
  have hsh := H.kp.shape.1
  have hr := H.round
  obtain ⟨a1, a2, a3, a4, a5, a6⟩ := commit_quiet H.kp (64 + h.used) (recB X) (by omega) (H.kp.append_out _ hX) (H.kp.append X hX (by omega)) H.up H.waits H.left hs
  exact ⟨a1, a3, a4, a5, a2, by have := H.deeds; omega, by simp only; omega⟩
theorem LgOk.switch {dv : Dv} {l la s : Nat} {h : Hd} {B : List UInt8} {R : List (List UInt8)} {i : Nat} (H : LgOk dv l la s h B R i) (hs : s ≤ 60) (hi : i ≤ 60) (X : List UInt8) (hX : X.length ≤ 64 * la) :
    (dv.commit s (secsAt dv.all (areaAt l la (1 - h.area)) X) (Hd.sec ⟨1 - h.area, X.length, 0, h.round + 1⟩)).1 = 0 ∧ LgOk (dv.commit s (secsAt dv.all (areaAt l la (1 - h.area)) X) (Hd.sec ⟨1 - h.area, X.length, 0, h.round + 1⟩)).2 l la s ⟨1 - h.area, X.length, 0, h.round + 1⟩ X [] (i + 1) := by
  have hr := H.round
  obtain ⟨a1, a2, a3, a4, a5, a6⟩ := commit_quiet H.kp (areaAt l la (1 - h.area)) X (area_in H.kp.shape.1 (by omega) hX) (H.kp.switch_out _ hX) (H.kp.switch X hX (by omega)) H.up H.waits H.left hs
  exact ⟨a1, a3, a4, a5, a2, by have := H.deeds; omega, by simp only; omega⟩
theorem gMade {w0 w : World} {g s l la d : Nat} {dv : Dv} {h' : Hd} {B : List UInt8} {R : List (List UInt8)} (hd : DevAt w (fun k => w0.heap.size ≤ k) g s dv) (hfr : Fr (fun _ => False) w0 w) (hok : ShOk l la d s) (hup : dv.down = false) (hw : dv.waits = []) (k : Kp dv.all l la s h' B R) :
    Calls Tryz.prog 27 #[.pointer (some ⟨g, 0, none⟩), .agg #[.int .i64 l, .int .i64 la, .int .i64 d]] w fun e w' => ∃ jm, e = .returned (.tuple #[.pointer (some ⟨jm, 0, none⟩), .int .i64 0]) ∧ LgAt w0 w' jm g s l la d h' false dv (fun _ => False) ∧ Fr (fun _ => False) w w' := by
  refine (lOpen_any w g l la d s dv h' B R hok hd hup hw k).mono ?_
  rintro e w' ⟨jm, rfl, hz, hj, hf⟩
  have h1 := hfr.size
  have h2 := hf.size
  exact ⟨jm, rfl, ⟨hj, ⟨fun k => w0.heap.size ≤ k ∧ k < w.heap.size, (hd.mono (fun k hk h => ⟨h, hk⟩)).keep hf (fun _ _ _ h => h), fun k hk => ⟨hk.1, by omega, by omega, id⟩⟩, ⟨by omega, id⟩, fun k h => h.elim, hfr.trans hf (fun _ h => h.elim)⟩, hf⟩
section
variable {w0 w w' : World} {jn g s l la d : Nat} {h : Hd} {dn : Bool} {dv : Dv} {X : Nat → Prop}
theorem gRoom (H : LgAt w0 w jn g s l la d h false dv X) (hok : ShOk l la d s) (hu : h.used ≤ 64 * l) :
    Calls Tryz.prog 73 #[.pointer (some ⟨jn, 0, none⟩)] w fun e w' => e = .returned (.int .i64 ((64 * l - h.used : Nat) : Int)) ∧ Fr (fun _ => False) w w' := jRoom_any w jn g h l la d hok.l8 hu H.jrn
theorem gRound (H : LgAt w0 w jn g s l la d h false dv X) :
    Calls Tryz.prog 103 #[.pointer (some ⟨jn, 0, none⟩)] w fun e w' => e = .returned (.int .i64 h.round) ∧ Fr (fun _ => False) w w' := jRound_any w jn g h l la d H.jrn
end
end Go.Proofs.YtiinmilfgclddaaGreat

/- What LogKept needs, plain: the state of a journal between deeds, what a commit leaves, told OK or crashed. -/
namespace Go.Proofs.YtiinmilfgclddaaGreat
open Go.RowKit Go.ChangeShapes
set_option linter.unusedVariables false

/-- The state of a journal, plain, after i deeds (a fuse may be laid). -/
structure LgK (dv : Dv) (l la s : Nat) (h : Hd) (B : List UInt8) (R : List (List UInt8)) (i : Nat) : Prop where
  up : dv.down = false
  waits : dv.waits = []
  kp : Kp dv.all l la s h B R
  deeds : dv.deeds ≤ 2 + 70 * i
  round : h.round ≤ 1 + i
theorem LgOk.k {dv : Dv} {l la s : Nat} {h : Hd} {B : List UInt8} {R : List (List UInt8)} {i : Nat} (H : LgOk dv l la s h B R i) : LgK dv l la s h B R i := ⟨H.up, H.waits, H.kp, H.deeds, H.round⟩
theorem LgK.next {dv : Dv} {l la s : Nat} {h : Hd} {B : List UInt8} {R : List (List UInt8)} {i : Nat} (H : LgK dv l la s h B R i) : LgK dv l la s h B R (i + 1) :=
  ⟨H.up, H.waits, H.kp, by have := H.deeds; omega, by have := H.round; omega⟩
theorem LgK.fuse {dv : Dv} {l la s : Nat} {h : Hd} {B : List UInt8} {R : List (List UInt8)} {i : Nat} (H : LgK dv l la s h B R i) (n : Int) : LgK (dv.fuse n).2 l la s h B R i := by
  unfold Dv.fuse
  rw [if_neg (by rw [H.up]; decide)]
  exact ⟨H.up, H.waits, H.kp, H.deeds, H.round⟩
/-- What a deed tells, and leaves: refused, done, or crashed (woken by any bits the one or the other is kept). -/
def ToldK (r : Int) (dn : Bool) (dv : Dv) (l la s : Nat) (h : Hd) (A A' : List UInt8) (Q Q' : List (List UInt8)) (i : Nat) : Prop :=
  (r = 3 ∧ dn = false ∧ LgK dv l la s h A Q i) ∨ (r = 0 ∧ dn = false ∧ LgK dv l la s h A' Q' i) ∨
  (r = 10 ∧ dn = true ∧ dv.waits.length ≤ 1000000 ∧ ∀ keep, (dv.wake keep).1 = 0 ∧ ∃ h2, LgK (dv.wake keep).2 l la s h2 A Q i ∨ LgK (dv.wake keep).2 l la s h2 A' Q' i)
theorem LgK.commit {dv : Dv} {l la s : Nat} {h h' : Hd} {B B' : List UInt8} {R R' : List (List UInt8)} {i : Nat} (H : LgK dv l la s h B R i) (hs : s ≤ 60) (o : Nat) (X : List UInt8) (ho : o + X.length ≤ 64 * s)
    (hout : ∀ j, (j < 64 + h.used ∨ (areaAt l la h.area ≤ j ∧ j < areaAt l la h.area + h.size)) → ¬ (o ≤ j ∧ j < o + X.length))
    (hnew : Kp (putSec (over4 dv.all o X) 0 h'.sec) l la s h' B' R') (hr : h'.round ≤ 1 + (i + 1)) :
    ToldK (dv.commit s (secsAt dv.all o X) h'.sec).1 (if (dv.commit s (secsAt dv.all o X) h'.sec).1 = 0 then false else true) (dv.commit s (secsAt dv.all o X) h'.sec).2 l la s (if (dv.commit s (secsAt dv.all o X) h'.sec).1 = 0 then h' else h) B B' R R' (i + 1) := by
  have k := H.kp
  have hs1 : 1 ≤ s := by have := k.shape.1; omega
  have hrd := k.redo o X ho hout hnew H.up H.waits
  have hle := secsAt_le (K := dv.all) ho
  have hps := secsAt_right k.len ho
  have hde := H.deeds
  have hro := H.round
  rcases dv.commit_cases s hs1 _ h'.sec H.up H.waits hps h'.sec_length with ⟨a1, _, a3, a4, a5, _⟩ | ⟨_, b1, b2, b3, b4⟩
  · refine .inr (.inl ⟨a1, by rw [if_pos a1], ?_⟩)
    rw [if_pos a1]
    exact ⟨a4, a3, hrd.1 a1, by omega, hr⟩
  · have hn : (dv.commit s (secsAt dv.all o X) h'.sec).1 ≠ 0 := by rw [b1]; decide
    refine .inr (.inr ⟨b1, by rw [if_neg hn], ?_, fun keep => ?_⟩)
    · rcases b4 with ⟨_, qs, c2, c3⟩ | ⟨_, c2 | c2⟩
      · rw [c3]
        have := c2.length_le
        omega
      · rw [c2]; decide
      · rw [c2]; simp
    · obtain ⟨w1, w2, w3, _, w5, _⟩ := Dv.commit_woken dv s hs1 _ h'.sec keep H.up H.waits hps h'.sec_length hn
      refine ⟨w1, ?_⟩
      rcases (hrd.2 hn).2.2 keep with hk | hk
      · exact ⟨h, .inl ⟨w3, w2, hk, by omega, by omega⟩⟩
      · exact ⟨h', .inr ⟨w3, w2, hk, by omega, hr⟩⟩
theorem LgK.append {dv : Dv} {l la s : Nat} {h : Hd} {B : List UInt8} {R : List (List UInt8)} {i : Nat} (H : LgK dv l la s h B R i) (hs : s ≤ 60) (hi : i ≤ 60) (X : List UInt8) (hX : h.used + (recB X).length ≤ 64 * l) :
    ToldK (dv.commit s (secsAt dv.all (64 + h.used) (recB X)) (Hd.sec ⟨h.area, h.size, h.used + (recB X).length, h.round + 1⟩)).1 (if (dv.commit s (secsAt dv.all (64 + h.used) (recB X)) (Hd.sec ⟨h.area, h.size, h.used + (recB X).length, h.round + 1⟩)).1 = 0 then false else true) (dv.commit s (secsAt dv.all (64 + h.used) (recB X)) (Hd.sec ⟨h.area, h.size, h.used + (recB X).length, h.round + 1⟩)).2 l la s (if (dv.commit s (secsAt dv.all (64 + h.used) (recB X)) (Hd.sec ⟨h.area, h.size, h.used + (recB X).length, h.round + 1⟩)).1 = 0 then ⟨h.area, h.size, h.used + (recB X).length, h.round + 1⟩ else h) B B R (R ++ [X]) (i + 1) := by
  have hsh := H.kp.shape.1
  have hr := H.round
  exact H.commit hs (64 + h.used) (recB X) (by omega) (H.kp.append_out _ hX) (H.kp.append X hX (by omega)) (by simp only; omega)
theorem LgK.switch {dv : Dv} {l la s : Nat} {h : Hd} {B : List UInt8} {R : List (List UInt8)} {i : Nat} (H : LgK dv l la s h B R i) (hs : s ≤ 60) (hi : i ≤ 60) (X : List UInt8) (hX : X.length ≤ 64 * la) :
    ToldK (dv.commit s (secsAt dv.all (areaAt l la (1 - h.area)) X) (Hd.sec ⟨1 - h.area, X.length, 0, h.round + 1⟩)).1 (if (dv.commit s (secsAt dv.all (areaAt l la (1 - h.area)) X) (Hd.sec ⟨1 - h.area, X.length, 0, h.round + 1⟩)).1 = 0 then false else true) (dv.commit s (secsAt dv.all (areaAt l la (1 - h.area)) X) (Hd.sec ⟨1 - h.area, X.length, 0, h.round + 1⟩)).2 l la s (if (dv.commit s (secsAt dv.all (areaAt l la (1 - h.area)) X) (Hd.sec ⟨1 - h.area, X.length, 0, h.round + 1⟩)).1 = 0 then ⟨1 - h.area, X.length, 0, h.round + 1⟩ else h) B X R [] (i + 1) := by
  have hr := H.round
  exact H.commit hs (areaAt l la (1 - h.area)) X (area_in H.kp.shape.1 (by omega) hX) (H.kp.switch_out _ hX) (H.kp.switch X hX (by omega)) (by simp only; omega)
theorem isB_self (B : List UInt8) (R : List (List UInt8)) : decide (B = B ∧ R = R) = true := by simp
end Go.Proofs.YtiinmilfgclddaaGreat

/- A table in memory: is it a store, is it down, does it fit; Get, Size. -/
namespace Go.Proofs.YtiinmilfgclddaaGreat
open Go.RowKit Go.ChangeShapes
set_option linter.unusedVariables false

/-- A table's row at tb: its map, its bytes' number, its journal, the most, itself. -/
abbrev TbRow (F : Nat → Prop) (w : World) (tb mb jn la : Nat) (M : Tab) : Prop := RwAt F w tb mb M 85 [.pointer (some ⟨jn, 0, none⟩), .int .i64 (64 * la : Nat), .pointer (some ⟨tb, 0, none⟩)]
theorem run_eql_tb (w : World) (a : Addr) : (binOp .eql 34 (.pointer (some a)) (.pointer (some a))).run Tryz.prog w = .ok (.bool true) w := by
  have hi : (Tryz.prog.info? 85).isSome = true := by kernel_rfl
  obtain ⟨j, hte⟩ := Option.isSome_iff_exists.1 hi
  exact run_eql_ptr_same (P := Tryz.prog) w a Tryz.underlying34 hte
section
variable {F S : Nat → Prop} {w w' : World} {tb mb jn la : Nat} {M : Tab}
theorem TbRow.cells (h : TbRow F w tb mb jn la M) : w.cell? ⟨tb, 2, none⟩ = some (.pointer (some ⟨jn, 0, none⟩)) ∧ w.cell? ⟨tb, 3, none⟩ = some (.int .i64 (64 * la : Nat)) ∧ w.cell? ⟨tb, 4, none⟩ = some (.pointer (some ⟨tb, 0, none⟩)) :=
  ⟨cell_list (RwAt.row h) rfl, cell_list (RwAt.row h) rfl, cell_list (RwAt.row h) rfl⟩
set_option maxRecDepth 100000 in
theorem isStore_any (h : TbRow F w tb mb jn la M) : Calls Tryz.prog 41 #[.pointer (some ⟨tb, 0, none⟩)] w fun e w' => e = .returned (.bool true) ∧ w = w' := by
  obtain ⟨c2, c3, c4⟩ := TbRow.cells h
  have heq := run_eql_tb
  clear h
  go_enter Tryz.func41, Tryz.ntmps41
  go_wp2
  go_ret
  exact ⟨rfl, rfl⟩
set_option maxRecDepth 100000 in
set_option maxHeartbeats 1000000 in
theorem get6_any (h : TbRow F w tb mb jn la M) (N : ByteArray) (hN : N.size ≤ 1000000) : Calls Tryz.prog 38 #[.pointer (some ⟨tb, 0, none⟩), .string N] w fun e w' => ∃ v, e = .returned (.tuple #[v, .int .i64 (if (tGet M N.data.toList).isSome = true then 0 else 5 : Nat)]) ∧ (∀ b, tGet M N.data.toList = some b → OwnB (fun k => w.heap.size ≤ k) w' v b) ∧ Fr (fun _ => False) w w' := by
  have hs := isStore_any h
  have hg := get_any w h N hN
  have hok := RwAt.ok h
  have HS := Lib.hid hs
  cases hq : tGet M N.data.toList with
  | none =>
    rw [hq] at hg
    have HG := Lib.hid hg
    clear hs hg h
    go_enter Tryz.func38, Tryz.ntmps38
    go_wp2_with (first
      | (go_at_call 41; refine HS.out.mono ?_; rintro e w1 ⟨rfl, rfl⟩)
      | (go_at_call 77; refine HG.out.mono ?_; rintro e w1 ⟨v, rfl, rfl, h1, h2⟩))
    go_ret2
    exact ⟨⟨_, rfl⟩, Fr.refl _ _⟩
  | some b =>
    rw [hq] at hg
    have HG := Lib.hid hg
    have hbl : b.length ≤ 2048 := (hok.2 _ (tGet_mem hq)).2
    have HB := Lib.hid hbl
    clear hs hg h hok hbl
    go_enter Tryz.func38, Tryz.ntmps38
    go_wp2_with (first
      | (go_at_call 41; refine HS.out.mono ?_; rintro e w1 ⟨rfl, rfl⟩)
      | (go_at_call 77; refine HG.out.mono ?_; rintro e w1 ⟨v, rfl, rfl, h1, h2⟩; (have H1 := Lib.hid (h1 b rfl)); clear h1 h2)
      | (go_at_call 45; refine (clone_any _ H1.out (by have := HB.out; omega)).mono ?_; rintro e w2 ⟨v2, rfl, hf2, ho2⟩; (have H2 := Lib.hid (And.intro hf2 ho2)); clear hf2 ho2))
    go_ret2
    refine ⟨_, rfl, ?_⟩
    first | exact ⟨H2.out.2, H2.out.1⟩ | exact ⟨(fun b' e => by obtain rfl := Option.some.inj e; exact H2.out.2), H2.out.1⟩
theorem tLen_le (h : TbRow F w tb mb jn la M) : tLen M ≤ 230000000 := by
  have := RwAt.sum h
  have := (numBytes_len 5 M.length).2
  unfold tLen; omega
end
end Go.Proofs.YtiinmilfgclddaaGreat

