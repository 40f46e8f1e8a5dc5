/- Laid together: BWMid -/
import Derived.Test.YtcbbcihfooaggaaBe23

namespace Go.Proofs.Ytcbbcihfooaggaa
open Go.RowKit Go.ChangeShapes
set_option linter.unusedVariables false
theorem two_new {w0 W w3 w4 : World} {gd gr s : Nat} (hW : Fr (fun _ => False) w0 W) (h3 : DevAt w3 (fun k => W.heap.size ≤ k) gd s (Dv.new s)) (hf3 : Fr (fun _ => False) W w3) (h4 : RefAt w4 (fun k => w3.heap.size ≤ k) gr s (Dv.new s)) (hf4 : Fr (fun _ => False) w3 w4) : Two (fun _ => False) w0 w4 gd gr s (Dv.new s) (Dv.new s) := by
  refine ⟨⟨fun k => W.heap.size ≤ k ∧ k < w3.heap.size, fun k => w3.heap.size ≤ k ∧ k < w4.heap.size, (h3.mono (E := fun k => W.heap.size ≤ k ∧ k < w3.heap.size) (fun k hk h => ⟨h, hk⟩)).keep hf4 (fun _ _ _ h => h), h4.mono (fun k hk h => ⟨h, hk⟩), fun k hk hE => by have := hk.2; have := hE.1; omega, fun k hk => ⟨⟨Nat.le_trans hW.size hk.1, id⟩, Nat.lt_of_lt_of_le hk.2 hf4.size⟩, fun k hk => ⟨⟨Nat.le_trans hW.size (Nat.le_trans hf3.size hk.1), id⟩, hk.2⟩⟩, fun _ h => h.elim, (hW.trans hf3 (fun _ h => h.elim)).trans hf4 (fun _ h => h.elim)⟩
structure St7 (w0 W : World) (gd gr s i : Nat) : Prop where
  ex : ∃ d, Two (fun _ => False) w0 W gd gr s d d ∧ d.down = false ∧ d.deeds ≤ 8193 * i ∧ d.waits.length ≤ 8193 * i
theorem St7.fr {w0 W : World} {gd gr s i : Nat} (h : St7 w0 W gd gr s i) : Fr (fun _ => False) w0 W := by
  obtain ⟨d, h1, _⟩ := h.ex
  exact h1.fr
theorem PutAt.open_ {F : Nat → Prop} {w : World} {b o : Nat} {p : PutD} (h : PutAt F w b o p) : ∃ ab cb ar cr, p.vb = .slice ab p.B.length cb ∧ p.vr = .slice ar p.R.length cr := by
  obtain ⟨ab, cb, hb, _⟩ := h.bytes
  obtain ⟨ar, cr, hr, _⟩ := h.runs.open7
  exact ⟨ab, cb, ar, cr, hb, hr⟩
structure Mid7 (w0 W : World) (gd gr s za zb g3 c3 : Nat) (B : List UInt8) (d : Dv) : Prop where
  two : Two (fun k => za ≤ k ∧ k < zb) w0 W gd gr s d d
  lent : LentAt (fun k => za ≤ k ∧ k < zb) W g3 c3 B
  z0 : w0.heap.size ≤ za
theorem Mid7.turned {w0 W W' : World} {gd gr s za zb g3 c3 : Nat} {B : List UInt8} {d d' : Dv} (h : Mid7 w0 W gd gr s za zb g3 c3 B d) (ht : Two (fun k => za ≤ k ∧ k < zb) w0 W' gd gr s d' d') (hf : Fr (Bare (fun k => za ≤ k ∧ k < zb) w0) W W') : Mid7 w0 W' gd gr s za zb g3 c3 B d' :=
  ⟨ht, ⟨h.lent.1, h.lent.2.1, h.lent.2.2.keep hf (fun k _ hk hb => hb.2 hk)⟩, h.z0⟩
structure Up7 (d : Dv) (i : Nat) : Prop where
  up : d.down = false
  deeds : d.deeds ≤ 8193 * i
  waits : d.waits.length ≤ 8193 * i
def Cut7 (w0 W : World) (gd gr s i za zb g3 c3 : Nat) (B : List UInt8) : Prop := ∃ d, Mid7 w0 W gd gr s za zb g3 c3 B d ∧ Up7 d i
theorem secsS_nn (L A D : Int) : 0 ≤ secsS L A D := by
  unfold secsS
  split
  · rename_i h
    obtain ⟨l, la, d, rfl, rfl, rfl, h1, h2, h3, h4⟩ := rightS_yes h
    omega
  · exact Int.le_refl _
theorem lent_own {F : Nat → Prop} {w : World} {g c : Nat} {L : List UInt8} (h : LentAt F w g c L) : OwnB F w (.slice (some ⟨g, 0, none⟩) L.length c) L := by
  have h1 := h.2.2.head L.length (by simp) (by simp)
  rwa [List.take_left'] at h1
  rfl
section
variable {w0 W : World} {gd gr s i za zb g3 c3 : Nat} {B : List UInt8} {d : Dv}
theorem mid_tWr (hm : Mid7 w0 W gd gr s za zb g3 c3 B d) (hu : Up7 d i) (hi : i ≤ 60) (hs : 1 ≤ s ∧ s ≤ 63) (hB : B.length ≤ 4000) (L A Dt : Int) (vr : Value) (R : List Rn) (hR : RnsIn (fun k => k < w0.heap.size) W vr R) (q : Nat) (hq : q = B.length) :
    Calls Try.prog 24 #[.pointer (some ⟨gd, 0, none⟩), .agg #[.int .i64 L, .int .i64 A, .int .i64 Dt], .slice (some ⟨g3, 0, none⟩) q c3, vr] W.drew fun r w' => r = .returned (.int .i64 (wrA s d L A Dt B R).1) ∧ Two (fun k => za ≤ k ∧ k < zb) w0 w' gd gr s (wrA s d L A Dt B R).2 d ∧ Fr (Bare (fun k => za ≤ k ∧ k < zb) w0) W w' := by
  subst hq
  have h1 := hu.deeds
  have h2 := hu.waits
  refine (tWr7 w0 W.drew gd gr s d d L A Dt _ vr B R hs.1 (by omega) hu.up (by omega) (by omega) ((lent_own hm.lent).keep (Fr.refl (fun _ => False) W).drew (fun _ _ _ h => h)).bytes (by omega) (fun k hk => .inr hk) (hR.quiet (Fr.refl _ _).drew) (fun k hk => hk) (hm.two.quiet (Fr.refl _ _).drew)).mono ?_
  rintro r w' ⟨he, ht, hf⟩
  exact ⟨he, ht, hf.ofDrew⟩
theorem mid_uWr (hm : Mid7 w0 W gd gr s za zb g3 c3 B d) (hu : Up7 d i) (hi : i ≤ 60) (hs : 1 ≤ s ∧ s ≤ 63) (hB : B.length ≤ 4000) (L A Dt : Int) (vb vr : Value) (R : List Rn) (hb : BytesIn (fun k => k < w0.heap.size) W vb B) (hR : RnsIn (fun k => k < w0.heap.size) W vr R) (d2 : Dv) (w4 : World) (ht : Two (fun k => za ≤ k ∧ k < zb) w0 w4 gd gr s d2 d) (hf : Fr (Bare (fun k => za ≤ k ∧ k < zb) w0) W w4) :
    Calls Try.prog 25 #[.pointer (some ⟨gr, 0, none⟩), .agg #[.int .i64 L, .int .i64 A, .int .i64 Dt], vb, vr] w4 fun r w' => r = .returned (.int .i64 (wrA s d L A Dt B R).1) ∧ Two (fun k => za ≤ k ∧ k < zb) w0 w' gd gr s d2 (wrA s d L A Dt B R).2 ∧ Fr (Bare (fun k => za ≤ k ∧ k < zb) w0) w4 w' := by
  have h1 := hu.deeds
  have h2 := hu.waits
  exact uWr7 w0 w4 gd gr s d2 d L A Dt vb vr B R (by omega) hu.up (by omega) (by omega) (hb.keep hf (fun k _ hk h => by have := h.1; omega)) (by omega) (fun k hk => .inl hk) (hR.keep hf (fun k _ hk h => by have := h.1; omega)) (fun k hk => hk) ht
theorem mid_kept (hm : Mid7 w0 W gd gr s za zb g3 c3 B d) (hB : B.length ≤ 4000) (vb : Value) (hb : BytesIn (fun k => k < w0.heap.size) W vb B) (w5 : World) (hf : Fr (Bare (fun k => za ≤ k ∧ k < zb) w0) W w5) (q : Nat) (hq : q = B.length) :
    Calls Try.prog 26 #[.slice (some ⟨g3, 0, none⟩) q c3, vb] w5 fun e w' => e = .returned (.bool true) ∧ ∃ m, w' = w5.drewN m := by
  subst hq
  exact KeptBytes_any vb g3 c3 B w5 (hb.keep hf (fun k _ hk h => by have := h.1; omega)) ⟨hm.lent.1, hm.lent.2.1, hm.lent.2.2.keep hf (fun k _ hk hb => hb.2 hk)⟩ (by omega)
end
def Aft7 (w0 W : World) (gd gr s i za zb g3 c3 : Nat) (B : List UInt8) : Prop := Fr (fun k => w0.heap.size ≤ k) w0 W ∧ ∃ d, Mid7 w0 W gd gr s za zb g3 c3 B d ∧ d.deeds ≤ 8193 * (i + 1) ∧ d.waits.length ≤ 8193 * (i + 1)
def Fl7 (w0 W : World) (gd gr s i : Nat) : Prop := ∃ d, Two (fun _ => False) w0 W gd gr s d d ∧ d.deeds ≤ 8193 * (i + 1) ∧ d.waits.length ≤ 8193 * (i + 1)
theorem Mid7.fl {w0 W : World} {gd gr s i za zb g3 c3 : Nat} {B : List UInt8} {d : Dv} (h : Aft7 w0 W gd gr s i za zb g3 c3 B) : Fl7 w0 W gd gr s i := by
  obtain ⟨_, d, hm, h1, h2⟩ := h
  exact ⟨d, hm.two.less (fun _ h => h.elim), h1, h2⟩
section
variable {w0 W : World} {gd gr s i za zb g3 c3 : Nat} {B : List UInt8} {d : Dv}
theorem mid_over (h : Aft7 w0 W gd gr s i za zb g3 c3 B) (hB : B.length ≤ 4000) (q : Nat) (hq : q = B.length) :
    Calls Try.prog 27 #[.slice (some ⟨g3, 0, none⟩) q c3] W fun e w' => e = .returned (.tuple #[]) ∧ Fl7 w0 w' gd gr s i := by
  subst hq
  obtain ⟨_, d, hm, h1, h2⟩ := h
  refine (OverT_any _ B W (ToldT.ofOwn (lent_own hm.lent)) (by omega)).mono ?_
  rintro e w' ⟨he, hf⟩
  refine ⟨he, d, (hm.two.away hf (fun k hk => .inl ?_)).less (fun _ h => h.elim), h1, h2⟩
  have h3 := (lent_own hm.lent).2 k hk
  exact ⟨h3, Nat.le_trans hm.z0 h3.1⟩
theorem fl_tRd (ht : Two (fun _ => False) w0 W gd gr s d d) (hw : d.waits.length ≤ 8193 * (i + 1)) (hi : i ≤ 60) (hs : 1 ≤ s ∧ s ≤ 63) (L A Dt many : Int) (hm : IntOk many) (vr : Value) (R : List Rn) (hR : RnsIn (fun k => k < w0.heap.size) W vr R) :
    Calls Try.prog 28 #[.pointer (some ⟨gd, 0, none⟩), .agg #[.int .i64 L, .int .i64 A, .int .i64 Dt], .int .i64 many, vr] W.drew fun r w' => ∃ a n c, r = .returned (.tuple #[.slice a n c, .int .i64 (rdA s d L A Dt many R).1]) ∧ OwnB (fun k => W.heap.size ≤ k) w' (.slice a n c) (rdA s d L A Dt many R).2 ∧ Two (fun _ => False) w0 w' gd gr s d d ∧ Fr (fun _ => False) W w' := by
  refine (tRd7 w0 W.drew gd gr s d d L A Dt many vr R hs.1 (by omega) (by omega) hm.1 hm.2 (hR.quiet (Fr.refl _ _).drew) (fun k hk => hk) (ht.quiet (Fr.refl _ _).drew)).mono ?_
  rintro r w' ⟨u, he, ho, ht', hf⟩
  obtain ⟨a, c, hu⟩ := ho.len
  subst hu
  exact ⟨a, _, c, he, ho, ht', hf.ofDrew⟩
theorem fl_uRd (ht : Two (fun _ => False) w0 W gd gr s d d) (hw : d.waits.length ≤ 8193 * (i + 1)) (hi : i ≤ 60) (hs : 1 ≤ s ∧ s ≤ 63) (L A Dt many : Int) (hm : IntOk many) (vr : Value) (R : List Rn) (hR : RnsIn (fun k => k < w0.heap.size) W vr R) :
    Calls Try.prog 29 #[.pointer (some ⟨gr, 0, none⟩), .agg #[.int .i64 L, .int .i64 A, .int .i64 Dt], .int .i64 many, vr] W.drew fun r w' => ∃ a n c, r = .returned (.tuple #[.slice a n c, .int .i64 (rdA s d L A Dt many R).1]) ∧ BytesIn (fun k => W.heap.size ≤ k) w' (.slice a n c) (rdA s d L A Dt many R).2 ∧ Two (fun _ => False) w0 w' gd gr s d d ∧ Fr (fun _ => False) W w' := by
  refine (uRd7 w0 W.drew gd gr s d d L A Dt many vr R (by omega) (by omega) hm.2 (hR.quiet (Fr.refl _ _).drew) (fun k hk => hk) (ht.quiet (Fr.refl _ _).drew)).mono ?_
  rintro r w' ⟨u, he, ho, ht', hf⟩
  obtain ⟨a, c, hu, _⟩ := id ho
  subst hu
  exact ⟨a, _, c, he, ho, ht', hf.ofDrew⟩
theorem fl_over {za : Nat} {a : Option Addr} {n c : Nat} {B : List UInt8} (ho : OwnB (fun k => za ≤ k) W (.slice a n c) B) (hB : B.length ≤ 1000000) (hz : Two (fun _ => False) w0 W gd gr s d d) {W0 : World} (h0 : Two (fun _ => False) w0 W0 gd gr s d d) (hza : za = W0.heap.size) (hf0 : Fr (fun _ => False) W0 W) :
    Calls Try.prog 27 #[.slice a n c] W fun e w' => e = .returned (.tuple #[]) ∧ Two (fun _ => False) w0 w' gd gr s d d := by
  refine (OverT_any _ B W (ToldT.ofOwn ho) (by omega)).mono ?_
  rintro e w' ⟨he, hf⟩
  exact ⟨he, h0.away (S := fun k => za ≤ k) ((hf0.mono (fun _ _ h => h.elim)).trans hf (fun k hk => .inl (ho.2 k hk))) (fun k hk => .inr (by omega))⟩
theorem rdA_le (hd : d.Right s) (L A Dt many : Int) (R : List Rn) : (rdA s d L A Dt many R).2.length ≤ 1000000 := by
  rcases fit7_cases s L A Dt many R with hr | ⟨hr, hap, hm, hc, hS⟩
  · unfold rdA
    rw [hr, if_neg (by decide)]
    simp
  · obtain ⟨l0, la, dd, s0, rfl, rfl, rfl, hs, hap0⟩ := ap7_open hap
    have hcn := apart7_le hap0
    have hd8 : dd ≤ 8192 := by have := hs.sum; have := hs.most; omega
    obtain ⟨mn, rfl⟩ : ∃ mn : Nat, many = mn := ⟨many.toNat, by omega⟩
    rw [need7_nat] at hc
    unfold rdA
    rw [if_pos hr]
    simp only [List.length_take]
    omega
theorem stat_f2 (w : World) (a b c : Int) (dn : Bool) : (Instr.field 63 (.agg #[.int .i64 a, .int .i64 b, .int .i64 c, .bool dn]) 2).run Try.prog w = .ok (.int .i64 c) w := by kernel_rfl
theorem stat_f3 (w : World) (a b c : Int) (dn : Bool) : (Instr.field 63 (.agg #[.int .i64 a, .int .i64 b, .int .i64 c, .bool dn]) 3).run Try.prog w = .ok (.bool dn) w := by kernel_rfl
structure Ref7 (W : World) (gr ga m kd : Nat) (dn : Bool) (all : List UInt8) : Prop where
  c0 : W.cell? ⟨gr, 0, none⟩ = some (.slice (some ⟨ga, 0, none⟩) m m)
  c2 : W.cell? ⟨gr, 2, none⟩ = some (.int .i64 kd)
  c4 : W.cell? ⟨gr, 4, none⟩ = some (.bool dn)
  bytes : BytesIn (fun _ => True) W (.slice (some ⟨ga, 0, none⟩) m m) all
theorem Ref7.keep {W' : World} {gr ga m kd : Nat} {dn : Bool} {all : List UInt8} (h : Ref7 W gr ga m kd dn all) (hf : Fr (fun _ => False) W W') : Ref7 W' gr ga m kd dn all := ⟨hf.cell h.c0 id, hf.cell h.c2 id, hf.cell h.c4 id, h.bytes.keep hf (fun _ _ _ h => h)⟩
theorem Two.ref7 {X : Nat → Prop} {e : Dv} (h : Two X w0 W gd gr s d e) : ∃ ga, Ref7 W gr ga (64 * s) e.deeds e.down e.all := by
  obtain ⟨D, E, _, hr, _⟩ := h.ex
  obtain ⟨F, ga, vw, hm, hD⟩ := hr
  obtain ⟨c0, c1, c2, c3, c4⟩ := hm.head.cells
  have hal : e.all.length = 64 * s := hm.right.all
  exact ⟨ga, c0, c2, c4, (hm.kept.bytes4 (64 * s) hal (by have := hm.small; unfold maxLen; omega)).mono (fun _ _ _ => trivial)⟩
end
end Go.Proofs.Ytcbbcihfooaggaa
