/- Laid together by merge.py: JAwk JBegin JLg JAwake OpenArr -/
import Derived.Test.YtabgklcghghoiaaGreatLn16
import Derived.Test.YtabgklcghghoiaaGreatLn9
import Derived.Test.YtabgklcghghoiaaGreatLn24
import Derived.Test.YtabgklcghghoiaaGreatLn23
import Derived.Lib.SlBytesConst
import Derived.Test.YtabgklcghghoiaaGreatLn0
import Derived.ProofKit
import Derived.OpenShut
import Derived.SizedLaws
import Derived.Deep.Slices
import Derived.Carry

/- The plain side of the law's example: a device of six sectors, by name. No program. -/
namespace Go.Proofs.YtabgklcghghoiaaGreat
set_option linter.unusedVariables false

theorem Dv.tell_new (d : Dv) (s : Nat) (sec : List UInt8) (hd : d.down = false) (hl : d.left = 0) (hw : d.waits = []) (hs : 1 ≤ s) (hsec : sec.length = 64) :
    d.tell s sec = (0, { all := putSec d.all 0 sec, waits := [], deeds := d.deeds + 2, left := 0, down := false }) := by
  unfold Dv.tell
  rw [Dv.write_ok (d := d) (s := s) (a := 0) (b := sec) hd (by omega) (by omega), if_pos rfl, Dv.flush_ok (by simpa using hd) (by simp only; omega)]
  simp only [hw, hl, hd, List.nil_append, full64_self _ hsec]
  simp [wakeL]
def awD1 : Dv := { all := putSec (List.replicate 384 0) 0 (Hd.sec ⟨0, 0, 0, 1⟩), waits := [], deeds := 2, left := 0, down := false }
def awR2 : Int × Dv := awD1.commit 6 (secsAt awD1.all 64 (recB [97])) (Hd.sec ⟨0, 0, 2, 2⟩)
def awR3 : Int × Dv := awR2.2.commit 6 (secsAt awR2.2.all 66 (recB [98])) (Hd.sec ⟨0, 0, 4, 3⟩)
def awR4 : Int × Dv := awR3.2.fuse 4
def awR5 : Int × Dv := awR4.2.commit 6 (secsAt awR4.2.all 68 (recB [99])) (Hd.sec ⟨0, 0, 6, 4⟩)
def awR6 (n : Int) : Int × Dv := awR5.2.wake n
theorem aw1_new : (Dv.new 6).tell 6 (Hd.sec ⟨0, 0, 0, 1⟩) = (0, awD1) := Dv.tell_new (Dv.new 6) 6 _ rfl rfl rfl (by decide) (Hd.sec_length _)
theorem aw1_kp : Kp awD1.all 2 1 6 ⟨0, 0, 0, 1⟩ [] [] := Kp.formatted (K := List.replicate 384 0) (by decide +kernel) (by decide)
theorem aw2_is : awR2.1 = 0 ∧ awR2.2.down = false ∧ awR2.2.waits = [] ∧ awR2.2.deeds ≤ 100 := by decide +kernel
theorem aw3_is : awR3.1 = 0 ∧ awR3.2.down = false ∧ awR3.2.waits = [] ∧ awR3.2.deeds ≤ 100 := by decide +kernel
theorem aw4_is : awR4.1 = 0 ∧ awR4.2.down = false ∧ awR4.2.waits = [] ∧ awR4.2.deeds ≤ 100 := by decide +kernel
theorem aw5_is : awR5.1 = 10 ∧ awR5.2.waits.length ≤ 1000 := by decide +kernel
theorem aw6_is : ∀ n : Fin 2, (awR6 n.val).1 = 0 ∧ (awR6 n.val).2.down = false ∧ (awR6 n.val).2.waits = [] := by decide +kernel
theorem aw6_0 : Kp (awR6 0).2.all 2 1 6 ⟨0, 0, 4, 3⟩ [] [[97], [98]] :=
  ⟨by decide +kernel, by decide, by decide +kernel, ⟨by decide, by decide, by decide, by decide⟩, by decide +kernel, by decide +kernel⟩
theorem aw6_1 : Kp (awR6 1).2.all 2 1 6 ⟨0, 0, 6, 4⟩ [] [[97], [98], [99]] :=
  ⟨by decide +kernel, by decide, by decide +kernel, ⟨by decide, by decide, by decide, by decide⟩, by decide +kernel, by decide +kernel⟩
theorem aw6_kp (n : Nat) (hn : n < 2) : ∃ h R, Kp (awR6 n).2.all 2 1 6 h [] R ∧ R.length = 2 + n ∧ ∃ x y, R = x :: [98] :: y := by
  obtain rfl | rfl : n = 0 ∨ n = 1 := by omega
  · exact ⟨_, _, aw6_0, rfl, _, _, rfl⟩
  · exact ⟨_, _, aw6_1, rfl, _, _, rfl⟩
theorem aw6_ok (n : Nat) (hn : n < 2) : (awR6 n).1 = 0 ∧ (awR6 n).2.down = false ∧ (awR6 n).2.waits = [] := by
  have := aw6_is ⟨n, hn⟩
  exact this
end Go.Proofs.YtabgklcghghoiaaGreat

/- The law's own: begin, with no sector more. -/
namespace Go.Proofs.YtabgklcghghoiaaGreat
open Go.RowKit Go.ChangeShapes
set_option linter.unusedVariables false

/-- Amid it: the shape's block, both, and the two devices apart. -/
structure BgAt (w0 w : World) (gs p gd gr l la d s : Nat) (dv rv : Dv) (jv rvv : Value) : Prop where
  shp : w.heap[gs]? = some (.cells #[.int .i64 l, .int .i64 la, .int .i64 d] 23 (0, 0))
  both : BoAt w p l la d gd jv gr rvv
  low : w0.heap.size ≤ gs ∧ w0.heap.size ≤ p ∧ gs ≠ p
  devs : ∃ D E : Nat → Prop, DevAt w D gd s dv ∧ RefAt w E gr s rv ∧ (∀ k, D k → k < w.heap.size ∧ w0.heap.size ≤ k ∧ k ≠ gs ∧ k ≠ p ∧ ¬ E k) ∧ (∀ k, E k → k < w.heap.size ∧ w0.heap.size ≤ k ∧ k ≠ gs ∧ k ≠ p)
  fr : Fr (fun _ => False) w0 w
section
variable {w0 w w' : World} {gs p gd gr l la d s : Nat} {dv rv : Dv} {jv rvv : Value}
theorem BgAt.quiet (h : BgAt w0 w gs p gd gr l la d s dv rv jv rvv) (hf : Fr (fun _ => False) w w') : BgAt w0 w' gs p gd gr l la d s dv rv jv rvv := by
  obtain ⟨D, E, h1, h2, h3, h4⟩ := h.devs
  have hz := hf.size
  exact ⟨hf.heap h.shp id, h.both.keep hf id, h.low, ⟨D, E, h1.keep hf (fun _ _ _ h => h), h2.keep hf (fun _ _ _ h => h), fun k hk => ⟨by have := (h3 k hk).1; omega, (h3 k hk).2⟩, fun k hk => ⟨by have := (h4 k hk).1; omega, (h4 k hk).2⟩⟩, h.fr.trans hf (fun _ h => h.elim)⟩
theorem cFormat (h : BgAt w0 w gs p gd gr l la d s dv rv jv rvv) (hok : ShOk l la d s) (hk6 : dv.deeds ≤ 900000000) (hw6 : dv.waits.length ≤ 900000) {dv1 : Dv} (ht : dv.tell s (Hd.sec ⟨0, 0, 0, 1⟩) = (0, dv1)) :
    Calls Tryz.prog 10 #[.pointer (some ⟨gd, 0, none⟩), .agg #[.int .i64 l, .int .i64 la, .int .i64 d]] w fun e w' => e = .returned (.int .i64 0) ∧ BgAt w0 w' gs p gd gr l la d s dv1 rv jv rvv := by
  obtain ⟨D, E, h1, h2, h3, h4⟩ := h.devs
  refine (lFormat_any w gd l la d s dv hok h1 hk6 hw6).mono ?_
  rintro e w' ⟨rfl, hd', hf⟩
  rw [ht] at hd' ⊢
  have hz := hf.size
  have hgs := lt_of_block h.shp
  have hp := h.both.lt
  refine ⟨rfl, hf.heap h.shp (fun hh => (h3 _ hh).2.2.1 rfl), h.both.keep hf (fun hh => (h3 _ hh).2.2.2.1 rfl), h.low, ⟨fun k => More D w k ∧ k < w'.heap.size, E, hd'.mono (fun k hk hh => ⟨hh, hk⟩), h2.keep hf (fun k _ hE hD => (h3 k hD).2.2.2.2 hE), ?_, fun k hk => ⟨by have := (h4 k hk).1; omega, (h4 k hk).2⟩⟩, h.fr.trans hf (fun k hk => .inr (h3 k hk).2.1)⟩
  rintro k ⟨hk | hk, hlt⟩
  · exact ⟨hlt, (h3 k hk).2⟩
  · have := h.fr.size
    exact ⟨hlt, by omega, by omega, by omega, fun hE => by have := (h4 k hE).1; omega⟩
theorem cRFormat (h : BgAt w0 w gs p gd gr l la d s dv rv jv rvv) (hok : ShOk l la d s) (hup : rv.down = false) (hlf : rv.left = 0) (hk6 : rv.deeds ≤ 900000000) (hw6 : rv.waits.length ≤ 900000) {rv1 : Dv} (ht : rv.tell s (Hd.sec ⟨0, 0, 0, 1⟩) = (0, rv1)) :
    Calls Tryz.prog 52 #[.pointer (some ⟨gr, 0, none⟩), .agg #[.int .i64 l, .int .i64 la, .int .i64 d]] w fun e w' => e = .returned (.int .i64 0) ∧ BgAt w0 w' gs p gd gr l la d s dv rv1 jv rvv := by
  obtain ⟨D, E, h1, h2, h3, h4⟩ := h.devs
  refine (rFormat_any w gr l la d s rv hok h2 hup hlf hk6 hw6).mono ?_
  rintro e w' ⟨rfl, hd', hf⟩
  rw [ht] at hd' ⊢
  have hz := hf.size
  have hgs := lt_of_block h.shp
  have hp := h.both.lt
  refine ⟨rfl, hf.heap h.shp (fun hh => (h4 _ hh).2.2.1 rfl), h.both.keep hf (fun hh => (h4 _ hh).2.2.2 rfl), h.low, ⟨D, fun k => More E w k ∧ k < w'.heap.size, h1.keep hf (fun k _ hD hE => (h3 k hD).2.2.2.2 hE), hd'.mono (fun k hk hh => ⟨hh, hk⟩), ?_, ?_⟩, h.fr.trans hf (fun k hk => .inr (h4 k hk).2.1)⟩
  · intro k hk
    have := h3 k hk
    refine ⟨by omega, this.2.1, this.2.2.1, this.2.2.2.1, ?_⟩
    rintro ⟨hE | hE, _⟩
    · exact this.2.2.2.2 hE
    · omega
  · rintro k ⟨hk | hk, hlt⟩
    · exact ⟨hlt, (h4 k hk).2⟩
    · have := h.fr.size
      exact ⟨hlt, by omega, by omega, by omega⟩
def BegPost (w : World) (l la d s : Nat) (dv : Dv) (e : Ending) (w' : World) : Prop :=
  ∃ p g jn gr rv D, e = .returned (.pointer (some ⟨p, 0, none⟩)) ∧ BoAt w' p l la d g (.pointer (some ⟨jn, 0, none⟩)) gr rv ∧ JnAt w' jn g ⟨0, 0, 0, 1⟩ l la d false ∧ DevAt w' D g s dv ∧ (∀ k, D k → w.heap.size ≤ k ∧ k ≠ p ∧ k ≠ jn) ∧ (w.heap.size ≤ p ∧ w.heap.size ≤ jn ∧ p ≠ jn) ∧ Fr (fun _ => False) w w'
theorem BgAt.opd (h : BgAt w0 w gs p gd gr l la d s dv rv jv rvv) (hok : ShOk l la d s) (hup : dv.down = false) (hw : dv.waits = []) (k : Kp dv.all l la s ⟨0, 0, 0, 1⟩ [] []) (hup2 : rv.down = false) (hw2 : rv.waits = []) (k2 : Kp rv.all l la s ⟨0, 0, 0, 1⟩ [] []) :
    Calls Tryz.prog 53 #[.pointer (some ⟨p, 0, none⟩)] w fun e w' => e = .returned (.bool true) ∧ w'.heap[gs]? = some (.cells #[.int .i64 l, .int .i64 la, .int .i64 d] 23 (0, 0)) ∧ BegPost w0 l la d s dv (.returned (.pointer (some ⟨p, 0, none⟩))) w' := by
  obtain ⟨D, E, h1, h2, h3, h4⟩ := h.devs
  refine (opened_any w p l la d gd gr ⟨0, 0, 0, 1⟩ jv rvv h.both (fun W hW => lOpen_any W gd l la d s dv ⟨0, 0, 0, 1⟩ [] [] hok (h1.keep hW (fun _ _ _ h => h)) hup hw k) (fun W hW => rOpen_any W gr l la d s rv ⟨0, 0, 0, 1⟩ hok (h2.keep hW (fun _ _ _ h => h)) hup2 hw2 k2.head k2.right rfl)).mono ?_
  rintro e w' ⟨jn, rn, rfl, hz, hj, hb, hf⟩
  have := h.fr.size
  have hp := h.both.lt
  exact ⟨rfl, hf.heap h.shp h.low.2.2, p, gd, jn, gr, _, D, rfl, hb, hj, h1.keep hf (fun k _ hD e => (h3 k hD).2.2.2.1 e), fun k hk => ⟨(h3 k hk).2.1, (h3 k hk).2.2.2.1, by have := (h3 k hk).1; omega⟩, ⟨h.low.2.1, by omega, by omega⟩, h.fr.trans hf (fun k hk => .inr (by rw [show k = p from hk]; exact h.low.2.1))⟩
end
set_option maxRecDepth 100000 in
set_option maxHeartbeats 4000000 in
theorem begin_any (w : World) (l la d s : Nat) (hok : ShOk l la d s) (dv1 : Dv) (ht : (Dv.new s).tell s (Hd.sec ⟨0, 0, 0, 1⟩) = (0, dv1)) (hup : dv1.down = false) (hw : dv1.waits = []) (k : Kp dv1.all l la s ⟨0, 0, 0, 1⟩ [] []) :
    Calls Tryz.prog 23 #[.agg #[.int .i64 l, .int .i64 la, .int .i64 d], .int .i64 0] w (BegPost w l la d s dv1) := by
  have hs1 : 1 ≤ s := by have := hok.sum; omega
  have hs2 := hok.most
  obtain ⟨gs, hgs⟩ : ∃ gs, gs = w.heap.size := ⟨_, rfl⟩
  obtain ⟨W1, hW⟩ : ∃ W, W = w.alloc (.cells #[.int .i64 l, .int .i64 la, .int .i64 d] 23) := ⟨_, rfl⟩
  have hf : Fr (fun _ => False) w W1 := by rw [hW]; exact (Fr.refl _ _).alloc _
  have hrow : W1.heap[gs]? = some (.cells #[.int .i64 l, .int .i64 la, .int .i64 d] 23 (0, 0)) := by rw [hW, hgs]; exact heap_alloc_new w _
  have HW := Lib.hid (And.intro hW hgs)
  have H1 := Lib.hid (And.intro hf hrow)
  have HSE := Lib.hid (fun W => hok.rSecs W)
  have HNW := Lib.hid (fun W => aNew W s hs1 hs2)
  have HNR := Lib.hid (fun W => bNew W s hs1 hs2)
  have HOK := Lib.hid (And.intro hok (And.intro ht (And.intro hup (And.intro hw k))))
  clear hok ht hup hw k hW hf hrow hs1
  go_enter Tryz.func23, Tryz.ntmps23
  go_wp2_with fail
  rw [← HW.out.1, ← HW.out.2]
  clear hgs
  obtain ⟨s0, s1, s2⟩ := row3_cells H1.out.2
  go_wp2_with (first
    | (go_at_call 26; refine (HSE.out _).mono ?_; rintro e w2 ⟨rfl, hf2⟩; (have H2 := Lib.hid (And.intro (H1.out.1.trans hf2 (fun _ h => h.elim)) (hf2.heap H1.out.2 id))); clear hf2)
    | (go_at_call 8; refine (HNW.out w2).mono ?_; rintro e w3 ⟨g, rfl, hd3, hf3⟩; (have H3 := Lib.hid (And.intro (H2.out.1.trans hf3 (fun _ h => h.elim)) (And.intro (hf3.heap H2.out.2 id) (And.intro hd3 hf3)))); clear hf3 hd3)
    | (go_at_call 51; refine (HNR.out w3).mono ?_; rintro e w4 ⟨gr, rfl, hd4, hf4⟩; (have H4 := Lib.hid (And.intro (H3.out.1.trans hf4 (fun _ h => h.elim)) (And.intro (hf4.heap H3.out.2.1 id) (And.intro hd4 hf4)))); (obtain ⟨u0, u1, u2⟩ := row3_cells H4.out.2.1); clear hf4 hd4))
  obtain ⟨p, hp⟩ : ∃ p, p = w4.heap.size := ⟨_, rfl⟩
  obtain ⟨W5, hW5⟩ : ∃ W, W = w4.alloc (.cells #[.int .i64 l, .int .i64 la, .int .i64 d, .pointer (some ⟨g, 0, none⟩), .pointer none, .pointer (some ⟨gr, 0, none⟩), .pointer none] 57) := ⟨_, rfl⟩
  have HB := Lib.hid (show BgAt w W5.drew gs p g gr l la d s (Dv.new s) (Dv.new s) (.pointer none) (.pointer none) by
    have hfa : Fr (fun _ => False) w4 W5.drew := by rw [hW5]; exact ((Fr.refl _ w4).alloc _).drew
    have hgs := HW.out.2
    have hg4 := lt_of_block H4.out.2.1
    have z1 := H1.out.1.size
    have z2 := H2.out.1.size
    have z3 := H3.out.2.2.2.size
    have z4 := H4.out.2.2.2.size
    have z5 := hfa.size
    have hl2 := lt_of_block H2.out.2
    have hz5 : w4.heap.size < W5.drew.heap.size := by rw [hW5]; simp [World.drew]
    refine ⟨hfa.heap H4.out.2.1 id, ?_, ⟨by omega, by omega, by omega⟩, ⟨fun k => w2.heap.size ≤ k ∧ k < w3.heap.size, fun k => w3.heap.size ≤ k ∧ k < w4.heap.size, ?_, ?_, ?_, ?_⟩, H4.out.1.trans hfa (fun _ h => h.elim)⟩
    · rw [hp, hW5]
      exact heap_alloc_new w4 _
    · exact ((H3.out.2.2.1.mono (fun k hk h => ⟨h, hk⟩)).keep H4.out.2.2.2 (fun _ _ _ h => h)).keep hfa (fun _ _ _ h => h)
    · exact (H4.out.2.2.1.mono (fun k hk h => ⟨h, hk⟩)).keep hfa (fun _ _ _ h => h)
    · intro k hk
      exact ⟨by omega, by omega, by omega, by omega, fun h => by omega⟩
    · intro k hk
      exact ⟨by omega, by omega, by omega, by omega⟩)
  rw [← hW5, ← hp]
  clear hW5 hp s0 s1 s2 u0 u1 u2
  have HDV := Lib.hid (show (Dv.new s).deeds ≤ 900000000 ∧ (Dv.new s).waits.length ≤ 900000 from ⟨by simp [Dv.new], by simp [Dv.new]⟩)
  obtain ⟨c0, c1, c2⟩ := row3_cells HB.out.shp
  go_region_held3 (fun w' => w'.cell? ⟨gs, 0, none⟩ = some (.int .i64 l) ∧ w'.cell? ⟨gs, 1, none⟩ = some (.int .i64 la) ∧ w'.cell? ⟨gs, 2, none⟩ = some (.int .i64 d)) (first | exact ⟨by assumption, by assumption, by assumption⟩ | go_keep)
    (first
      | (go_at_call 10; refine (cFormat HB.out HOK.out.1 HDV.out.1 HDV.out.2 HOK.out.2.1).mono ?_; rintro e w5 ⟨rfl, h5⟩; (obtain ⟨c0, c1, c2⟩ := row3_cells h5.shp); (have HB := Lib.hid h5); clear h5)
      | (go_at_call 52; refine (cRFormat HB.out HOK.out.1 rfl rfl HDV.out.1 HDV.out.2 HOK.out.2.1).mono ?_; rintro e w6 ⟨rfl, h6⟩; (obtain ⟨c0, c1, c2⟩ := row3_cells h6.shp); (have HB := Lib.hid h6); clear h6)
      | (go_at_call 53; refine (HB.out.opd HOK.out.1 HOK.out.2.2.1 HOK.out.2.2.2.1 HOK.out.2.2.2.2 HOK.out.2.2.1 HOK.out.2.2.2.1 HOK.out.2.2.2.2).mono ?_; rintro e w7 ⟨rfl, hs7, h7⟩; (obtain ⟨c0, c1, c2⟩ := row3_cells hs7); (have HE := Lib.hid h7); clear h7))
  go_wp2
  go_ret
  exact HE.out
end Go.Proofs.YtabgklcghghoiaaGreat

/- A journal and its device as one thing, made since w0, apart from the blocks X. -/
namespace Go.Proofs.YtabgklcghghoiaaGreat
open Go.RowKit Go.ChangeShapes
set_option linter.unusedVariables false

structure LgAt (w0 w : World) (jn g s l la d : Nat) (h : Hd) (dn : Bool) (dv : Dv) (X : Nat → Prop) : Prop where
  jrn : JnAt w jn g h l la d dn
  dev : ∃ D : Nat → Prop, DevAt w D g s dv ∧ ∀ k, D k → w0.heap.size ≤ k ∧ k < w.heap.size ∧ k ≠ jn ∧ ¬ X k
  low : w0.heap.size ≤ jn ∧ ¬ X jn
  xs : ∀ k, X k → k < w.heap.size
  fr : Fr (fun _ => False) w0 w
/-- The blocks that its calls may turn. -/
abbrev LgT (w0 : World) (X : Nat → Prop) : Nat → Prop := fun k => w0.heap.size ≤ k ∧ ¬ X k
theorem ShOk.l8 {l la d s : Nat} (h : ShOk l la d s) : l ≤ 8192 := by have := h.sum; have := h.most; omega
theorem ShOk.la8 {l la d s : Nat} (h : ShOk l la d s) : la ≤ 8192 := by have := h.sum; have := h.most; omega
section
variable {w0 w w' : World} {jn g s l la d : Nat} {h h' : Hd} {dn : Bool} {dv : Dv} {X : Nat → Prop}
theorem LgAt.quiet (H : LgAt w0 w jn g s l la d h dn dv X) (hf : Fr (fun _ => False) w w') : LgAt w0 w' jn g s l la d h dn dv X := by
  obtain ⟨D, h1, h2⟩ := H.dev
  have hz := hf.size
  exact ⟨H.jrn.keep hf id, ⟨D, h1.keep hf (fun _ _ _ h => h), fun k hk => ⟨(h2 k hk).1, by have := (h2 k hk).2.1; omega, (h2 k hk).2.2⟩⟩, H.low, fun k hk => by have := H.xs k hk; omega, H.fr.trans hf (fun _ h => h.elim)⟩
/-- A turn of a foreign block (in X, or before w0). -/
theorem LgAt.away {S : Nat → Prop} (H : LgAt w0 w jn g s l la d h dn dv X) (hf : Fr S w w') (hS : ∀ k, S k → X k ∧ w0.heap.size ≤ k) : LgAt w0 w' jn g s l la d h dn dv X := by
  obtain ⟨D, h1, h2⟩ := H.dev
  have hz := hf.size
  exact ⟨H.jrn.keep hf (fun hh => H.low.2 (hS _ hh).1), ⟨D, h1.keep hf (fun k _ hD hh => (h2 k hD).2.2.2 (hS k hh).1), fun k hk => ⟨(h2 k hk).1, by have := (h2 k hk).2.1; omega, (h2 k hk).2.2⟩⟩, H.low, fun k hk => by have := H.xs k hk; omega, H.fr.trans hf (fun k h => .inr (hS k h).2)⟩
theorem LgAt.turn {D : Nat → Prop} {dv' : Dv} (H : LgAt w0 w jn g s l la d h dn dv X) (h2 : ∀ k, D k → w0.heap.size ≤ k ∧ k < w.heap.size ∧ k ≠ jn ∧ ¬ X k) {h' : Hd} {dn' : Bool} (hj : JnAt w' jn g h' l la d dn') (hd : DevAt w' (More D w) g s dv') (hf : Fr (fun k => D k ∨ k = jn) w w') :
    LgAt w0 w' jn g s l la d h' dn' dv' X ∧ Fr (LgT w0 X) w w' := by
  have hz := hf.size
  have hz0 := H.fr.size
  have hjl := H.jrn.lt
  refine ⟨⟨hj, ⟨fun k => More D w k ∧ k < w'.heap.size, hd.mono (fun k hk hh => ⟨hh, hk⟩), ?_⟩, H.low, fun k hk => by have := H.xs k hk; omega, H.fr.trans hf (fun k hk => .inr (by rcases hk with hk | rfl; exact (h2 k hk).1; exact H.low.1))⟩, hf.mono fun k _ hk => ?_⟩
  · rintro k ⟨hk | hk, hlt⟩
    · exact ⟨(h2 k hk).1, hlt, (h2 k hk).2.2⟩
    · exact ⟨by omega, hlt, by omega, fun hX => by have := H.xs k hX; omega⟩
  · rcases hk with hk | rfl
    · exact ⟨(h2 k hk).1, (h2 k hk).2.2.2⟩
    · exact H.low
def LgPost (w0 w : World) (jn g s l la d : Nat) (h h' : Hd) (r : Int × Dv) (X : Nat → Prop) (e : Ending) (w' : World) : Prop :=
  e = .returned (.int .i64 r.1) ∧ LgAt w0 w' jn g s l la d (if r.1 = 0 then h' else h) (if r.1 = 0 then false else true) r.2 X ∧ Fr (LgT w0 X) w w'
theorem gAppend {G : Nat → Prop} (H : LgAt w0 w jn g s l la d h false dv X) (hok : ShOk l la d s) (hr : h.Right l la) (vb : Value) (B : List UInt8) (hB : B.length ≤ 1048576) (hb : BytesIn G w vb B) (hc1 : (recB B).length ≤ 64 * l - h.used) (hc2 : h.round < 1099511627776) (hup : dv.down = false) (hw : dv.waits = []) (hk6 : dv.deeds ≤ 900000000) :
    Calls Tryz.prog 21 #[.pointer (some ⟨jn, 0, none⟩), vb] w (LgPost w0 w jn g s l la d h ⟨h.area, h.size, h.used + (recB B).length, h.round + 1⟩ (dv.commit s (secsAt dv.all (64 + h.used) (recB B)) (Hd.sec ⟨h.area, h.size, h.used + (recB B).length, h.round + 1⟩)) X) := by
  obtain ⟨D, h1, h2⟩ := H.dev
  refine (jAppend_yes w jn g s l la d h vb B dv hok.l8 hok.la8 hr hr.used hB H.jrn hb hc1 hc2 (fun hh => (h2 _ hh).2.2.1 rfl) h1 hup hw hok.most (by have := hok.sum; omega) hk6).mono ?_
  rintro e w' ⟨rfl, hd, hj, hf⟩
  exact ⟨rfl, H.turn h2 hj hd hf⟩
theorem gSwitch {G : Nat → Prop} (H : LgAt w0 w jn g s l la d h false dv X) (hok : ShOk l la d s) (hr : h.Right l la) (vb : Value) (B : List UInt8) (hb : BytesIn G w vb B) (hc1 : B.length ≤ 64 * la) (hc2 : h.round < 1099511627776) (hup : dv.down = false) (hw : dv.waits = []) (hk6 : dv.deeds ≤ 900000000) :
    Calls Tryz.prog 20 #[.pointer (some ⟨jn, 0, none⟩), vb] w (LgPost w0 w jn g s l la d h ⟨1 - h.area, B.length, 0, h.round + 1⟩ (dv.commit s (secsAt dv.all (areaAt l la (1 - h.area)) B) (Hd.sec ⟨1 - h.area, B.length, 0, h.round + 1⟩)) X) := by
  obtain ⟨D, h1, h2⟩ := H.dev
  refine (jSwitch_yes w jn g s l la d h vb B hok.l8 hok.la8 hr H.jrn hb hc1 dv hc2 (fun hh => (h2 _ hh).2.2.1 rfl) h1 hup hw hok.most (by have := hok.sum; omega) hk6).mono ?_
  rintro e w' ⟨rfl, hd, hj, hf⟩
  exact ⟨rfl, H.turn h2 hj hd hf⟩
theorem gFuse (H : LgAt w0 w jn g s l la d h dn dv X) (n : Int) (hn : n ≤ 9223372036854775807) (hn0 : -9223372036854775808 ≤ n) :
    Calls Tryz.prog 13 #[.pointer (some ⟨g, 0, none⟩), .int .i64 n] w fun e w' => e = .returned (.int .i64 (dv.fuse n).1) ∧ LgAt w0 w' jn g s l la d h dn (dv.fuse n).2 X ∧ Fr (LgT w0 X) w w' := by
  obtain ⟨D, h1, h2⟩ := H.dev
  refine (aFuse w g s dv n hn hn0 h1).mono ?_
  rintro e w' ⟨rfl, hd, hf⟩
  exact ⟨rfl, H.turn h2 (H.jrn.keep hf (fun hh => (h2 _ hh).2.2.1 rfl)) hd (hf.mono (fun k _ h => .inl h))⟩
theorem gWake (H : LgAt w0 w jn g s l la d h dn dv X) (keep : Int) (hkp0 : -9223372036854775808 ≤ keep) (hkp1 : keep ≤ 9223372036854775807) (hn6 : dv.waits.length ≤ 1000000) :
    Calls Tryz.prog 16 #[.pointer (some ⟨g, 0, none⟩), .int .i64 keep] w fun e w' => e = .returned (.int .i64 (dv.wake keep).1) ∧ LgAt w0 w' jn g s l la d h dn (dv.wake keep).2 X ∧ Fr (LgT w0 X) w w' := by
  obtain ⟨D, h1, h2⟩ := H.dev
  refine (aWake w g s dv keep hkp0 hkp1 hn6 h1).mono ?_
  rintro e w' ⟨rfl, hd, hf⟩
  exact ⟨rfl, H.turn h2 (H.jrn.keep hf (fun hh => (h2 _ hh).2.2.1 rfl)) hd (hf.mono (fun k _ h => .inl h))⟩
/-- Opened anew: the journal that was is left. -/
theorem LgAt.opened (H : LgAt w0 w jn g s l la d h dn dv X) {jm : Nat} {h' : Hd} (hz : w.heap.size ≤ jm) (hj : JnAt w' jm g h' l la d false) (hf : Fr (fun k => X k ∧ w0.heap.size ≤ k) w w') : LgAt w0 w' jm g s l la d h' false dv X := by
  obtain ⟨D, h1, h2⟩ := H.dev
  have := hf.size
  have := H.fr.size
  exact ⟨hj, ⟨D, h1.keep hf (fun k _ hD hh => (h2 k hD).2.2.2 hh.1), fun k hk => ⟨(h2 k hk).1, by have := (h2 k hk).2.1; omega, by have := (h2 k hk).2.1; omega, (h2 k hk).2.2.2⟩⟩, ⟨by omega, fun hX => by have := H.xs _ hX; omega⟩, fun k hk => by have := H.xs k hk; omega, H.fr.trans hf (fun k h => .inr h.2)⟩
theorem gOpen (H : LgAt w0 w jn g s l la d h dn dv X) (hok : ShOk l la d s) {h' : Hd} {B : List UInt8} {R : List (List UInt8)} (hup : dv.down = false) (hw : dv.waits = []) (k : Kp dv.all l la s h' B R) :
    Calls Tryz.prog 11 #[.pointer (some ⟨g, 0, none⟩), .agg #[.int .i64 l, .int .i64 la, .int .i64 d]] w fun e w' => ∃ jm, e = .returned (.tuple #[.pointer (some ⟨jm, 0, none⟩), .int .i64 0]) ∧ LgAt w0 w' jm g s l la d h' false dv X ∧ Fr (fun _ => False) w w' := by
  obtain ⟨D, h1, h2⟩ := H.dev
  refine (lOpen_any w g l la d s dv h' B R hok h1 hup hw k).mono ?_
  rintro e w' ⟨jm, rfl, hz, hj, hf⟩
  exact ⟨jm, rfl, H.opened hz hj (hf.mono (fun _ _ h => h.elim)), hf⟩
theorem gRecords (H : LgAt w0 w jn g s l la d h false dv X) (hok : ShOk l la d s) {B : List UInt8} {R : List (List UInt8)} (hup : dv.down = false) (hw : dv.waits = []) (k : Kp dv.all l la s h B R) :
    Calls Tryz.prog 25 #[.pointer (some ⟨jn, 0, none⟩)] w (RecsPost w R) := by
  obtain ⟨D, h1, h2⟩ := H.dev
  exact jRecords_any w jn g s l la d h dv R H.jrn h1 hup hw hok.most (by have := k.right.used; have := hok.sum; omega) k.recs
theorem gArea (H : LgAt w0 w jn g s l la d h false dv X) (hok : ShOk l la d s) {B : List UInt8} {R : List (List UInt8)} (hup : dv.down = false) (hw : dv.waits = []) (k : Kp dv.all l la s h B R) :
    Calls Tryz.prog 38 #[.pointer (some ⟨jn, 0, none⟩)] w (ReadPost w B) := by
  obtain ⟨D, h1, h2⟩ := H.dev
  have := jArea_any w jn g s l la d h dv hok.l8 hok.la8 k.right H.jrn h1 hup hw hok.most (by have := hok.sum; omega)
  rwa [k.area] at this
end
end Go.Proofs.YtabgklcghghoiaaGreat

/- The law's own: awake. -/
namespace Go.Proofs.YtabgklcghghoiaaGreat
open Go.RowKit Go.ChangeShapes
set_option linter.unusedVariables false

theorem awOk : ShOk 2 1 1 6 := ⟨by decide, by decide, by decide, by decide, by decide⟩
theorem bytes_made1 (w : World) (x : UInt8) (T : TypeId) (q : Nat × Nat) : BytesIn (fun k => k = w.heap.size) (w.alloc (.cells #[bv x] T q)) (.slice (some ⟨w.heap.size, 0, none⟩) 1 1) [x] := by
  refine ⟨_, 1, rfl, Nat.le_refl _, (by unfold maxLen; decide), (fun h => by cases h), fun a ha => ?_⟩
  obtain rfl : (⟨w.heap.size, 0, none⟩ : Addr) = a := by simpa using ha
  refine ⟨fun j u hj => ?_, fun _ => rfl⟩
  match j with
  | 0 =>
    simp at hj
    rw [← hj]
    rw [addr_plain]
    have hb := heap_alloc_new w (.cells #[bv x] T q)
    rw [World.cell?, hb]
    rfl
  | j + 1 => simp at hj
section
variable {w0 w : World} {jn g : Nat} {X : Nat → Prop} {G : Nat → Prop}
def AwPost (w0 w : World) (jn g : Nat) (n : Int) (h : Hd) (dn : Bool) (dv : Dv) (X : Nat → Prop) (e : Ending) (w' : World) : Prop :=
  e = .returned (.int .i64 n) ∧ LgAt w0 w' jn g 6 2 1 1 h dn dv X ∧ Fr (LgT w0 X) w w'
theorem awA1 (H : LgAt w0 w jn g 6 2 1 1 ⟨0, 0, 0, 1⟩ false awD1 X) (vb : Value) (hb : BytesIn G w vb [97]) :
    Calls Tryz.prog 21 #[.pointer (some ⟨jn, 0, none⟩), vb] w (AwPost w0 w jn g 0 ⟨0, 0, 2, 2⟩ false awR2.2 X) := by
  have hl : (recB [97]).length = 2 := by decide +kernel
  have hc := gAppend H awOk aw1_kp.right vb [97] (by decide) hb (by rw [hl]; decide) (by decide) rfl rfl (by decide)
  rw [hl] at hc
  refine Calls.mono (show Calls _ _ _ _ (LgPost w0 w jn g 6 2 1 1 ⟨0, 0, 0, 1⟩ ⟨0, 0, 2, 2⟩ awR2 X) from hc) ?_
  rintro e w' ⟨rfl, hL, hf⟩
  rw [if_pos aw2_is.1, if_pos aw2_is.1] at hL
  exact ⟨by rw [aw2_is.1], hL, hf⟩
theorem awA2 (H : LgAt w0 w jn g 6 2 1 1 ⟨0, 0, 2, 2⟩ false awR2.2 X) (vb : Value) (hb : BytesIn G w vb [98]) :
    Calls Tryz.prog 21 #[.pointer (some ⟨jn, 0, none⟩), vb] w (AwPost w0 w jn g 0 ⟨0, 0, 4, 3⟩ false awR3.2 X) := by
  have hl : (recB [98]).length = 2 := by decide +kernel
  have hc := gAppend H awOk ⟨by decide, by decide, by decide, by decide⟩ vb [98] (by decide) hb (by rw [hl]; decide) (by decide) aw2_is.2.1 aw2_is.2.2.1 (by have := aw2_is.2.2.2; omega)
  rw [hl] at hc
  refine Calls.mono (show Calls _ _ _ _ (LgPost w0 w jn g 6 2 1 1 ⟨0, 0, 2, 2⟩ ⟨0, 0, 4, 3⟩ awR3 X) from hc) ?_
  rintro e w' ⟨rfl, hL, hf⟩
  rw [if_pos aw3_is.1, if_pos aw3_is.1] at hL
  exact ⟨by rw [aw3_is.1], hL, hf⟩
theorem awF (H : LgAt w0 w jn g 6 2 1 1 ⟨0, 0, 4, 3⟩ false awR3.2 X) :
    Calls Tryz.prog 13 #[.pointer (some ⟨g, 0, none⟩), .int .i64 4] w (AwPost w0 w jn g 0 ⟨0, 0, 4, 3⟩ false awR4.2 X) := by
  refine (gFuse H 4 (by decide) (by decide)).mono ?_
  rintro e w' ⟨rfl, hL, hf⟩
  exact ⟨by rw [show (awR3.2.fuse 4).1 = 0 from aw4_is.1], hL, hf⟩
theorem awA3 (H : LgAt w0 w jn g 6 2 1 1 ⟨0, 0, 4, 3⟩ false awR4.2 X) (vb : Value) (hb : BytesIn G w vb [99]) :
    Calls Tryz.prog 21 #[.pointer (some ⟨jn, 0, none⟩), vb] w (AwPost w0 w jn g 10 ⟨0, 0, 4, 3⟩ true awR5.2 X) := by
  have hl : (recB [99]).length = 2 := by decide +kernel
  have hc := gAppend H awOk ⟨by decide, by decide, by decide, by decide⟩ vb [99] (by decide) hb (by rw [hl]; decide) (by decide) aw4_is.2.1 aw4_is.2.2.1 (by have := aw4_is.2.2.2; omega)
  rw [hl] at hc
  refine Calls.mono (show Calls _ _ _ _ (LgPost w0 w jn g 6 2 1 1 ⟨0, 0, 4, 3⟩ ⟨0, 0, 6, 4⟩ awR5 X) from hc) ?_
  rintro e w' ⟨rfl, hL, hf⟩
  rw [if_neg (by rw [aw5_is.1]; decide), if_neg (by rw [aw5_is.1]; decide)] at hL
  exact ⟨by rw [aw5_is.1], hL, hf⟩
theorem awW (H : LgAt w0 w jn g 6 2 1 1 ⟨0, 0, 4, 3⟩ true awR5.2 X) (n : Nat) (hn : n < 2) :
    Calls Tryz.prog 16 #[.pointer (some ⟨g, 0, none⟩), .int .i64 n] w (AwPost w0 w jn g 0 ⟨0, 0, 4, 3⟩ true (awR6 n).2 X) := by
  refine (gWake H n (by omega) (by omega) (by have := aw5_is.2; omega)).mono ?_
  rintro e w' ⟨rfl, hL, hf⟩
  exact ⟨by rw [show (awR5.2.wake n).1 = 0 from (aw6_ok n hn).1], hL, hf⟩
theorem awRe {p gr : Nat} {jv rv : Value} {h : Hd} {dn : Bool} {dv : Dv} (H : LgAt w0 w jn g 6 2 1 1 h dn dv (· = p)) (hb : BoAt w p 2 1 1 g jv gr rv) (hp : w0.heap.size ≤ p) {h' : Hd} {B : List UInt8} {R : List (List UInt8)} (hup : dv.down = false) (hw : dv.waits = []) (k : Kp dv.all 2 1 6 h' B R) :
    Calls Tryz.prog 24 #[.pointer (some ⟨p, 0, none⟩)] w fun e w' => e = .returned (.bool true) ∧ ∃ jm, LgAt w0 w' jm g 6 2 1 1 h' false dv (· = p) ∧ BoAt w' p 2 1 1 g (.pointer (some ⟨jm, 0, none⟩)) gr rv := by
  obtain ⟨D, h1, h2⟩ := id H.dev
  refine (reopened_any w p 2 1 1 g gr h' jv rv hb (fun W hW => lOpen_any W g 2 1 1 6 dv h' B R awOk (h1.keep hW (fun _ _ _ h => h)) hup hw k)).mono ?_
  rintro e w' ⟨jm, rfl, hz, hj, hb', hf⟩
  exact ⟨rfl, jm, H.opened hz hj (hf.mono (fun k _ h => ⟨h, by rw [show k = p from h]; exact hp⟩)), hb'⟩
end
set_option maxRecDepth 100000 in
set_option maxHeartbeats 4000000 in
theorem awake_any (w : World) : Calls Tryz.prog 5 #[] w fun e w' => e = .returned (.bool true) ∧ Fr (fun _ => False) w w' := by
  obtain ⟨gs, hgs⟩ : ∃ gs, gs = w.heap.size := ⟨_, rfl⟩
  obtain ⟨W1, hW⟩ : ∃ W, W = w.alloc (.cells #[.int .i64 2, .int .i64 1, .int .i64 1] 23) := ⟨_, rfl⟩
  have H1 := Lib.hid (show Fr (fun _ => False) w W1 ∧ W1.heap[gs]? = some (.cells #[.int .i64 2, .int .i64 1, .int .i64 1] 23 (0, 0)) by
    rw [hW, hgs]
    exact ⟨(Fr.refl _ _).alloc _, heap_alloc_new w _⟩)
  have HW := Lib.hid (And.intro hW hgs)
  clear hW
  go_enter Tryz.func5, Tryz.ntmps5
  go_wp2_with fail
  rw [← HW.out.1, ← HW.out.2]
  clear hgs
  go_loopw [2] (fun iv wr => ∃ n : Nat, n ≤ 2 ∧ iv = .int .i64 n ∧ Hid (Fr (fun _ => False) w wr ∧ wr.heap[gs]? = some (.cells #[.int .i64 2, .int .i64 1, .int .i64 1] 23 (0, 0)))) (fun iv _ => 2 - (intOf iv).toNat)
  case atStart => exact ⟨0, by omega, rfl, H1⟩
  case round =>
    obtain ⟨n, hn, rfl, hR⟩ := hrel
    by_cases hlt : n < 2
    · have hd : decide ((n : Int) < 2) = true := by rw [decide_eq_true_iff]; omega
      obtain ⟨s0, s1, s2⟩ := row3_cells hR.out.2
      have HBG := Lib.hid (show Calls Tryz.prog 23 #[.agg #[.int .i64 2, .int .i64 1, .int .i64 1], .int .i64 0] wr (BegPost wr 2 1 1 6 awD1) from begin_any wr 2 1 1 6 awOk awD1 aw1_new rfl rfl aw1_kp)
      go_wp2_with fail
      refine HBG.out.mono ?_
      rintro e w2 ⟨p, g, jn, gr, rv, D, rfl, hb, hj, hd2, hD, hlow, hf⟩
      have H2 := Lib.hid (show LgAt wr w2 jn g 6 2 1 1 ⟨0, 0, 0, 1⟩ false awD1 (· = p) from ⟨hj, ⟨fun k => D k ∧ k < w2.heap.size, hd2.mono (fun k hk h => ⟨h, hk⟩), fun k hk => ⟨(hD k hk.1).1, hk.2, (hD k hk.1).2.2, (hD k hk.1).2.1⟩⟩, ⟨hlow.2.1, fun e => hlow.2.2 e.symm⟩, fun k hk => by rw [show k = p from hk]; exact hb.lt, hf⟩)
      have B2 := Lib.hid hb
      have HP := Lib.hid hlow.1
      clear hj hd2 hD hlow hf hb HBG s0 s1 s2
      obtain ⟨c0, c1, c2, c3, c4, c5, c6⟩ := B2.out.cells
      have hcv := Lib.run_convert_bytes_const (P := Tryz.prog) w2 37 5 #[.int .u8 97] 1 1 Tryz.underlying37 Tryz.underlying5
      go_wp2_with fail
      clear hcv
      refine (awA1 (H2.out.quiet ((Fr.refl _ w2).alloc _)) _ (bytes_made1 w2 97 _ _)).mono ?_
      rintro e w3 ⟨rfl, hL, hf⟩
      have H3 := Lib.hid hL
      have B3 := Lib.hid ((B2.out.keep ((Fr.refl (fun _ => False) w2).alloc _) id).keep hf (fun hh => hh.2 rfl))
      clear hL hf c0 c1 c2 c3 c4 c5 c6
      obtain ⟨c0, c1, c2, c3, c4, c5, c6⟩ := B3.out.cells
      have hcv := Lib.run_convert_bytes_const (P := Tryz.prog) w3 37 5 #[.int .u8 98] 1 1 Tryz.underlying37 Tryz.underlying5
      go_wp2_with fail
      clear hcv
      refine (awA2 (H3.out.quiet ((Fr.refl _ w3).alloc _)) _ (bytes_made1 w3 98 _ _)).mono ?_
      rintro e w4 ⟨rfl, hL, hf⟩
      have H4 := Lib.hid hL
      have B4 := Lib.hid ((B3.out.keep ((Fr.refl (fun _ => False) w3).alloc _) id).keep hf (fun hh => hh.2 rfl))
      clear hL hf c0 c1 c2 c3 c4 c5 c6
      obtain ⟨c0, c1, c2, c3, c4, c5, c6⟩ := B4.out.cells
      go_wp2_with fail
      refine (awF H4.out).mono ?_
      rintro e w5 ⟨rfl, hL, hf⟩
      have H5 := Lib.hid hL
      have B5 := Lib.hid (B4.out.keep hf (fun hh => hh.2 rfl))
      clear hL hf c0 c1 c2 c3 c4 c5 c6
      obtain ⟨c0, c1, c2, c3, c4, c5, c6⟩ := B5.out.cells
      have hcv := Lib.run_convert_bytes_const (P := Tryz.prog) w5 37 5 #[.int .u8 99] 1 1 Tryz.underlying37 Tryz.underlying5
      go_wp2_with fail
      clear hcv
      refine (awA3 (H5.out.quiet ((Fr.refl _ w5).alloc _)) _ (bytes_made1 w5 99 _ _)).mono ?_
      rintro e w6 ⟨rfl, hL, hf⟩
      have H6 := Lib.hid hL
      have B6 := Lib.hid ((B5.out.keep ((Fr.refl (fun _ => False) w5).alloc _) id).keep hf (fun hh => hh.2 rfl))
      clear hL hf c0 c1 c2 c3 c4 c5 c6
      obtain ⟨c0, c1, c2, c3, c4, c5, c6⟩ := B6.out.cells
      go_wp2_with fail
      refine (awW H6.out n hlt).mono ?_
      rintro e w7 ⟨rfl, hL, hf⟩
      have H7 := Lib.hid hL
      have B7 := Lib.hid (B6.out.keep hf (fun hh => hh.2 rfl))
      clear hL hf c0 c1 c2 c3 c4 c5 c6
      obtain ⟨c0, c1, c2, c3, c4, c5, c6⟩ := B7.out.cells
      go_wp2_with fail
      obtain ⟨h6, R6, hk6, hR6, x6, y6, hx6⟩ := aw6_kp n hlt
      refine (awRe H7.out B7.out HP.out (aw6_ok n hlt).2.1 (aw6_ok n hlt).2.2 hk6).mono ?_
      rintro e w8 ⟨rfl, jm, hL, hb⟩
      have H8 := Lib.hid hL
      have B8 := Lib.hid hb
      have HRC := Lib.hid (gRecords hL awOk (aw6_ok n hlt).2.1 (aw6_ok n hlt).2.2 hk6)
      have HR6 := Lib.hid (And.intro hR6 hx6)
      clear hL hb hk6 c0 c1 c2 c3 c4 c5 c6 hR6 hx6
      obtain ⟨c0, c1, c2, c3, c4, c5, c6⟩ := B8.out.cells
      go_wp2_with fail
      refine HRC.out.mono ?_
      rintro e w9 ⟨v9, rfl, ho9, hf9⟩
      have hfr := (hR.out.1.trans H8.out.fr (fun _ h => h.elim)).trans hf9 (fun _ h => h.elim)
      have HN := Lib.hid (And.intro hfr ((H8.out.fr.trans hf9 (fun _ h => h.elim)).heap hR.out.2 id))
      obtain ⟨ao, cap, rfl, hc1, hc2, _, hcs⟩ := ho9
      obtain ⟨b9, o9, rfl, _, hel⟩ := hcs (by rw [HR6.out.2]; simp)
      obtain ⟨x9, hx9, hb9⟩ := hel 1 (by rw [HR6.out.1]; omega)
      have hR1 : ∀ h1 : 1 < R6.length, R6[1]'h1 = [98] := by rw [HR6.out.2]; intro _; rfl
      rw [hR1] at hb9
      have hst := run_bytes_str w9 x9 [98] hb9
      obtain ⟨m, hm⟩ : ∃ m, m = R6.length := ⟨_, rfl⟩
      have hm2 : m = 2 + n := by rw [hm]; exact HR6.out.1
      rw [← hm] at hc1 ⊢
      have hlen : (2 : Int) + (n : Int) = (m : Int) := by omega
      have hl1 : (1 : Int) < (m : Int) := by omega
      clear hm hm2
      clear hfr hcs hel hb9 hR1 c0 c1 c2 c3 c4 c5 c6
      go_wp2_with fail
      go_roundw
      case rel => exact ⟨n + 1, by omega, by go_num, HN⟩
      case measure => simp [intOf]; omega
    · obtain rfl : n = 2 := by omega
      go_wp2_with fail
      go_ret
      exact ⟨rfl, hR.out.1⟩
end Go.Proofs.YtabgklcghghoiaaGreat

/- Arguments that came in, opened: arrays of bytes, by value. -/
namespace Go.Proofs.YtabgklcghghoiaaGreat
open Go.RowKit Go.ChangeShapes Go.WideShapes Go.Deep
set_option linter.unusedVariables false

theorem u8_of_wf {n : Int} (h : (Lit.int .u8 n).wf = true) : ((UInt8.ofNat n.toNat).toNat : Int) = n := by
  obtain ⟨h0, h1⟩ := bounds_u8 h
  rw [UInt8.toNat_ofNat']
  omega
theorem Tryz.cellsB : Tryz.prog.cellsOf 5 = 1 := by kernel_rfl
theorem Tryz.bytesB : Tryz.prog.bytesOf 5 = 1 := by kernel_rfl

section
variable {H : Type} {enc : TypeId × Value → H} {w : World} {base fuel : Nat} {held : Bool} {cs : List Value} {x : DataW H × List MemPlace}

theorem open_arr {t : TypeId} {n : Nat} (ht : Tryz.prog.underlying t = some (.array n 5)) (hc : Tryz.prog.cellsOf t = n) (h : DataW.trod enc Tryz.prog w base (fun _ => true) held fuel t cs = some x) :
    ∃ L : List UInt8, L.length = n ∧ cs = L.map bv := by
  obtain ⟨xs, m, rfl, _, hl, hn, hi⟩ := DataW.trod_array ht h
  rw [hc] at hl
  refine ⟨cs.map fun v => match v with | .int _ z => UInt8.ofNat z.toNat | _ => 0, by simpa using hl, ?_⟩
  rw [List.map_map]
  apply List.ext_getElem?
  intro i
  rw [List.getElem?_map]
  by_cases hin : i < n
  · have h1 := hi i hin
    rw [Tryz.cellsB, Nat.mul_one] at h1
    have hx : xs[i]? = some (xs[i]'(by omega)) := List.getElem?_eq_getElem (by omega)
    rw [hx] at h1
    obtain ⟨z, e1, _, e3⟩ := DataW.trod_int Tryz.underlying5 h1
    have h2 : cs[i]? = some (.int .u8 z) := by
      have := congrArg (·[0]?) e1
      simpa [List.getElem?_take, List.getElem?_drop] using this
    rw [h2]
    simp only [Option.map_some, Function.comp, bv, u8_of_wf e3]
  · rw [List.getElem?_eq_none (by omega)]
    rfl

theorem open_bytes (h : DataW.trod enc Tryz.prog w base (fun _ => true) held fuel 37 cs = some x) (hz : ∀ n ∈ x.1.weights Tryz.prog 37, n ≤ reachBytes) :
    ∃ v L, cs = [v] ∧ BytesIn (fun k => k < w.heap.size) w v L ∧ L.length ≤ 140737488351232 := by
  rcases open_ints Tryz.underlying37 Tryz.underlying5 Tryz.cellsB h with ⟨rfl, _⟩ | ⟨a, len, cap, zs, rfl, _, hl, hm, hzl, hx, hc, hwf⟩
  · exact ⟨_, [], rfl, BytesIn.nil _ _, by simp⟩
  · simp only [if_true] at hzl
    have hlen : ((zs.take len).map fun z => UInt8.ofNat z.toNat).length = len := by rw [List.length_map, List.length_take]; omega
    refine ⟨_, (zs.take len).map fun z => UInt8.ofNat z.toNat, rfl, ⟨some a, cap, by rw [hlen], by rw [hlen]; exact hl, hm, (fun h => by cases h), ?_⟩, ?_⟩
    · intro a' ha
      cases ha
      refine ⟨fun j u hu => ?_, fun hL => ?_⟩
      · have hj : j < len := by have := (List.getElem?_eq_some_iff.1 hu).1; rw [List.length_map, hlen] at this; exact this
        have hjz : j < zs.length := by omega
        rw [hc j hjz]
        have hmem := hwf (zs[j]) (List.getElem_mem _)
        rw [List.getElem?_map, List.getElem?_map, List.getElem?_take, if_pos hj, List.getElem?_eq_getElem hjz] at hu
        simp only [Option.map_some, Option.some.injEq] at hu
        rw [← hu, bv, u8_of_wf hmem]
        simp [List.getD, List.getElem?_eq_getElem hjz]
      · have hp : 0 < len := by have := List.length_pos_iff.2 hL; omega
        have := World.block_lt_of_cell? _ _ (hc 0 (by omega))
        rwa [add_block] at this
    · rw [hlen]
      have := hz ((zs.take len).length + (zs.drop len).length) (by rw [hx]; simp [DataW.weights, Tryz.underlying37, Tryz.bytesB, lits])
      rw [List.length_take, List.length_drop] at this
      simp only [reachBytes] at this
      omega
theorem mem_weightsAll {P : Program} {e : TypeId} : ∀ {ds : List (DataW H)} {d : DataW H}, d ∈ ds → ∀ n ∈ d.weights P e, n ∈ DataW.weightsAll P e ds
  | d0 :: ds, d, hd, n, hn => by
    simp only [DataW.weightsAll, List.mem_append]
    rcases List.mem_cons.1 hd with rfl | hd
    · exact .inl hn
    · exact .inr (mem_weightsAll hd n hn)
end
end Go.Proofs.YtabgklcghghoiaaGreat

