/- dev's own device and the document's, side by side. -/
import Derived.Test.YthmcmomkomhilaaRefAt
import Derived.Test.YthmcmomkomhilaaOverT
import Derived.Test.YthmcmomkomhilaaKept
namespace Go.Proofs.Ythmcmomkomhilaa
open Go.RowKit Go.ChangeShapes
set_option linter.unusedVariables false

/-- Two devices that lie apart, in blocks made since w0, none of X. -/
structure Two (X : Nat → Prop) (w0 W : World) (gd gr s : Nat) (d e : Dv) : Prop where
  ex : ∃ D E, DevAt W D gd s d ∧ RefAt W E gr s e ∧ (∀ k, D k → ¬ E k) ∧ (∀ k, D k → (w0.heap.size ≤ k ∧ ¬ X k) ∧ k < W.heap.size) ∧ (∀ k, E k → (w0.heap.size ≤ k ∧ ¬ X k) ∧ k < W.heap.size)
  lt : ∀ k, X k → k < W.heap.size
  fr : Fr (fun _ => False) w0 W
theorem Two.right {X : Nat → Prop} {w0 W : World} {gd gr s : Nat} {d e : Dv} (h : Two X w0 W gd gr s d e) : d.Right s ∧ e.Right s := by
  obtain ⟨D, E, h1, h2, _⟩ := h.ex
  exact ⟨h1.right, h2.right⟩
section
variable {X : Nat → Prop} {w0 W w' : World} {gd gr s : Nat} {d e d' e' : Dv}
theorem more_new {D : Nat → Prop} (h : Two X w0 W gd gr s d e) (hs : W.heap.size ≤ w'.heap.size) (hD : ∀ k, D k → (w0.heap.size ≤ k ∧ ¬ X k) ∧ k < W.heap.size) (k : Nat) (hk : More D W k ∧ k < w'.heap.size) : (w0.heap.size ≤ k ∧ ¬ X k) ∧ k < w'.heap.size := by
  rcases hk.1 with hk1 | hk1
  · exact ⟨(hD k hk1).1, hk.2⟩
  · exact ⟨⟨Nat.le_trans h.fr.size hk1, fun hx => by have := h.lt k hx; omega⟩, hk.2⟩
/-- dev's own device has turned. -/
theorem Two.dev {D E : Nat → Prop} (h : Two X w0 W gd gr s d e) (h2 : RefAt W E gr s e) (h3 : ∀ k, D k → ¬ E k) (h4 : ∀ k, D k → (w0.heap.size ≤ k ∧ ¬ X k) ∧ k < W.heap.size) (h5 : ∀ k, E k → (w0.heap.size ≤ k ∧ ¬ X k) ∧ k < W.heap.size) (hd : DevAt w' (More D W) gd s d') (hf : Fr D W w') : Two X w0 w' gd gr s d' e ∧ Fr (Bare X w0) W w' := by
  refine ⟨⟨⟨fun k => More D W k ∧ k < w'.heap.size, E, hd.mono (fun k hk h => ⟨h, hk⟩), h2.keep hf (fun k _ hE hD => h3 k hD hE), fun k hk hE => ?_, fun k hk => more_new h hf.size h4 k hk, fun k hk => ⟨(h5 k hk).1, Nat.lt_of_lt_of_le (h5 k hk).2 hf.size⟩⟩, fun k hk => Nat.lt_of_lt_of_le (h.lt k hk) hf.size, h.fr.trans hf (fun k hk => .inr (h4 k hk).1.1)⟩, hf.mono (fun k _ hk => (h4 k hk).1)⟩
  rcases hk.1 with hk1 | hk1
  · exact h3 k hk1 hE
  · have := (h5 k hE).2; omega
/-- The document's device has turned. -/
theorem Two.ref {D E : Nat → Prop} (h : Two X w0 W gd gr s d e) (h1 : DevAt W D gd s d) (h3 : ∀ k, D k → ¬ E k) (h4 : ∀ k, D k → (w0.heap.size ≤ k ∧ ¬ X k) ∧ k < W.heap.size) (h5 : ∀ k, E k → (w0.heap.size ≤ k ∧ ¬ X k) ∧ k < W.heap.size) (hd : RefAt w' (More E W) gr s e') (hf : Fr E W w') : Two X w0 w' gd gr s d e' ∧ Fr (Bare X w0) W w' := by
  refine ⟨⟨⟨D, fun k => More E W k ∧ k < w'.heap.size, h1.keep hf (fun k _ hD hE => h3 k hD hE), hd.mono (fun k hk h => ⟨h, hk⟩), fun k hk hE => ?_, fun k hk => ⟨(h4 k hk).1, Nat.lt_of_lt_of_le (h4 k hk).2 hf.size⟩, fun k hk => more_new h hf.size h5 k hk⟩, fun k hk => Nat.lt_of_lt_of_le (h.lt k hk) hf.size, h.fr.trans hf (fun k hk => .inr (h5 k hk).1.1)⟩, hf.mono (fun k _ hk => (h5 k hk).1)⟩
  rcases hE.1 with hE1 | hE1
  · exact h3 k hk hE1
  · have := (h4 k hk).2; omega
/-- What turns blocks that are none of the devices', made since w0. -/
theorem Two.away {S : Nat → Prop} (h : Two X w0 W gd gr s d e) (hf : Fr S W w') (hS : ∀ k, S k → (X k ∧ w0.heap.size ≤ k) ∨ W.heap.size ≤ k) : Two X w0 w' gd gr s d e := by
  obtain ⟨D, E, h1, h2, h3, h4, h5⟩ := h.ex
  exact ⟨⟨D, E, h1.keep hf (fun k _ hD hs => (hS k hs).elim (fun hx => (h4 k hD).1.2 hx.1) (fun hx => by have := (h4 k hD).2; omega)), h2.keep hf (fun k _ hE hs => (hS k hs).elim (fun hx => (h5 k hE).1.2 hx.1) (fun hx => by have := (h5 k hE).2; omega)), h3, fun k hk => ⟨(h4 k hk).1, Nat.lt_of_lt_of_le (h4 k hk).2 hf.size⟩, fun k hk => ⟨(h5 k hk).1, Nat.lt_of_lt_of_le (h5 k hk).2 hf.size⟩⟩, fun k hk => Nat.lt_of_lt_of_le (h.lt k hk) hf.size, h.fr.trans hf (fun k hk => (hS k hk).elim (fun hx => .inr hx.2) (fun hx => .inr (Nat.le_trans h.fr.size hx)))⟩
theorem Two.quiet (h : Two X w0 W gd gr s d e) (hf : Fr (fun _ => False) W w') : Two X w0 w' gd gr s d e := h.away hf (fun _ h => h.elim)
/-- What is made beside them is foreign. -/
theorem Two.add (h : Two X w0 W gd gr s d e) (hf : Fr (fun _ => False) W w') : Two (fun k => X k ∨ (W.heap.size ≤ k ∧ k < w'.heap.size)) w0 w' gd gr s d e := by
  obtain ⟨D, E, h1, h2, h3, h4, h5⟩ := (h.quiet hf).ex
  obtain ⟨D', E', h1', h2', h3', h4', h5'⟩ := h.ex
  refine ⟨⟨D', E', h1'.keep hf (fun _ _ _ h => h), h2'.keep hf (fun _ _ _ h => h), h3', fun k hk => ⟨⟨(h4' k hk).1.1, fun hx => hx.elim (h4' k hk).1.2 (fun hx => by have := (h4' k hk).2; omega)⟩, Nat.lt_of_lt_of_le (h4' k hk).2 hf.size⟩, fun k hk => ⟨⟨(h5' k hk).1.1, fun hx => hx.elim (h5' k hk).1.2 (fun hx => by have := (h5' k hk).2; omega)⟩, Nat.lt_of_lt_of_le (h5' k hk).2 hf.size⟩⟩, fun k hk => hk.elim (fun hk => Nat.lt_of_lt_of_le (h.lt k hk) hf.size) (fun hk => hk.2), h.fr.trans hf (fun _ h => h.elim)⟩
theorem Two.less {Y : Nat → Prop} (h : Two X w0 W gd gr s d e) (hy : ∀ k, Y k → X k) : Two Y w0 W gd gr s d e := by
  obtain ⟨D, E, h1, h2, h3, h4, h5⟩ := h.ex
  exact ⟨⟨D, E, h1, h2, h3, fun k hk => ⟨⟨(h4 k hk).1.1, fun hx => (h4 k hk).1.2 (hy k hx)⟩, (h4 k hk).2⟩, fun k hk => ⟨⟨(h5 k hk).1.1, fun hx => (h5 k hk).1.2 (hy k hx)⟩, (h5 k hk).2⟩⟩, fun k hk => h.lt k (hy k hk), h.fr⟩
end
variable {X : Nat → Prop} (w0 W : World) (gd gr s : Nat) (d e : Dv)
theorem tFlush (hk6 : d.deeds ≤ 1000000000) (hn6 : d.waits.length ≤ 1000000) (h : Two X w0 W gd gr s d e) :
    Calls Try.prog 16 #[.pointer (some ⟨gd, 0, none⟩)] W fun r w' => r = .returned (.int .i64 d.flush.1) ∧ Two X w0 w' gd gr s d.flush.2 e ∧ Fr (Bare X w0) W w' := by
  obtain ⟨D, E, h1, h2, h3, h4, h5⟩ := h.ex
  exact (aFlush W gd s d hk6 hn6 h1).mono fun r w' ⟨he, hd, hf⟩ => ⟨he, h.dev h2 h3 h4 h5 hd hf⟩
theorem uFlush (hk6 : e.deeds ≤ 1000000000) (hn6 : e.waits.length ≤ 1000000) (h : Two X w0 W gd gr s d e) :
    Calls Try.prog 30 #[.pointer (some ⟨gr, 0, none⟩)] W fun r w' => r = .returned (.int .i64 e.flush.1) ∧ Two X w0 w' gd gr s d e.flush.2 ∧ Fr (Bare X w0) W w' := by
  obtain ⟨D, E, h1, h2, h3, h4, h5⟩ := h.ex
  exact (bFlush W gr s e hk6 hn6 h2).mono fun r w' ⟨he, hd, hf⟩ => ⟨he, h.ref h1 h3 h4 h5 hd hf⟩
theorem tCrash (h : Two X w0 W gd gr s d e) :
    Calls Try.prog 19 #[.pointer (some ⟨gd, 0, none⟩)] W fun r w' => r = .returned (.int .i64 d.crash.1) ∧ Two X w0 w' gd gr s d.crash.2 e ∧ Fr (Bare X w0) W w' := by
  obtain ⟨D, E, h1, h2, h3, h4, h5⟩ := h.ex
  exact (aCrash W gd s d h1).mono fun r w' ⟨he, hd, hf⟩ => ⟨he, h.dev h2 h3 h4 h5 hd hf⟩
theorem uCrash (h : Two X w0 W gd gr s d e) :
    Calls Try.prog 32 #[.pointer (some ⟨gr, 0, none⟩)] W fun r w' => r = .returned (.int .i64 e.crash.1) ∧ Two X w0 w' gd gr s d e.crash.2 ∧ Fr (Bare X w0) W w' := by
  obtain ⟨D, E, h1, h2, h3, h4, h5⟩ := h.ex
  exact (bCrash W gr s e h2).mono fun r w' ⟨he, hd, hf⟩ => ⟨he, h.ref h1 h3 h4 h5 hd hf⟩
theorem tFuse (n : Int) (hn0 : -9223372036854775808 ≤ n) (hn : n ≤ 9223372036854775807) (h : Two X w0 W gd gr s d e) :
    Calls Try.prog 22 #[.pointer (some ⟨gd, 0, none⟩), .int .i64 n] W fun r w' => r = .returned (.int .i64 (d.fuse n).1) ∧ Two X w0 w' gd gr s (d.fuse n).2 e ∧ Fr (Bare X w0) W w' := by
  obtain ⟨D, E, h1, h2, h3, h4, h5⟩ := h.ex
  exact (aFuse W gd s d n hn hn0 h1).mono fun r w' ⟨he, hd, hf⟩ => ⟨he, h.dev h2 h3 h4 h5 hd hf⟩
theorem uFuse (n : Int) (hn0 : -9223372036854775808 ≤ n) (hn : n ≤ 9223372036854775807) (h : Two X w0 W gd gr s d e) :
    Calls Try.prog 31 #[.pointer (some ⟨gr, 0, none⟩), .int .i64 n] W fun r w' => r = .returned (.int .i64 (e.fuse n).1) ∧ Two X w0 w' gd gr s d (e.fuse n).2 ∧ Fr (Bare X w0) W w' := by
  obtain ⟨D, E, h1, h2, h3, h4, h5⟩ := h.ex
  exact (bFuse W gr s e n hn hn0 h2).mono fun r w' ⟨he, hd, hf⟩ => ⟨he, h.ref h1 h3 h4 h5 hd hf⟩
theorem tWake (n : Int) (hn0 : -9223372036854775808 ≤ n) (hn : n ≤ 9223372036854775807) (hn6 : d.waits.length ≤ 1000000) (h : Two X w0 W gd gr s d e) :
    Calls Try.prog 20 #[.pointer (some ⟨gd, 0, none⟩), .int .i64 n] W fun r w' => r = .returned (.int .i64 (d.wake n).1) ∧ Two X w0 w' gd gr s (d.wake n).2 e ∧ Fr (Bare X w0) W w' := by
  obtain ⟨D, E, h1, h2, h3, h4, h5⟩ := h.ex
  exact (aWake W gd s d n hn0 hn hn6 h1).mono fun r w' ⟨he, hd, hf⟩ => ⟨he, h.dev h2 h3 h4 h5 hd hf⟩
theorem uWake (n : Int) (hn0 : -9223372036854775808 ≤ n) (hn : n ≤ 9223372036854775807) (hn6 : e.waits.length ≤ 1000000) (h : Two X w0 W gd gr s d e) :
    Calls Try.prog 33 #[.pointer (some ⟨gr, 0, none⟩), .int .i64 n] W fun r w' => r = .returned (.int .i64 (e.wake n).1) ∧ Two X w0 w' gd gr s d (e.wake n).2 ∧ Fr (Bare X w0) W w' := by
  obtain ⟨D, E, h1, h2, h3, h4, h5⟩ := h.ex
  exact (bWake W gr s e n hn0 hn hn6 h2).mono fun r w' ⟨he, hd, hf⟩ => ⟨he, h.ref h1 h3 h4 h5 hd hf⟩
theorem tSpoil (a n : Int) (h : Two X w0 W gd gr s d e) :
    Calls Try.prog 34 #[.pointer (some ⟨gd, 0, none⟩), .int .i64 a, .int .i64 n] W fun r w' => r = .returned (.int .i64 (d.spoil s a n).1) ∧ Two X w0 w' gd gr s (d.spoil s a n).2 e ∧ Fr (Bare X w0) W w' := by
  obtain ⟨D, E, h1, h2, h3, h4, h5⟩ := h.ex
  exact (aSpoil W gd s d a n h1).mono fun r w' ⟨he, hd, hf⟩ => ⟨he, h.dev h2 h3 h4 h5 hd hf⟩
theorem uSpoil (a n : Int) (h : Two X w0 W gd gr s d e) :
    Calls Try.prog 35 #[.pointer (some ⟨gr, 0, none⟩), .int .i64 a, .int .i64 n] W fun r w' => r = .returned (.int .i64 (e.spoil s a n).1) ∧ Two X w0 w' gd gr s d (e.spoil s a n).2 ∧ Fr (Bare X w0) W w' := by
  obtain ⟨D, E, h1, h2, h3, h4, h5⟩ := h.ex
  exact (bSpoil W gr s e a n h2).mono fun r w' ⟨he, hd, hf⟩ => ⟨he, h.ref h1 h3 h4 h5 hd hf⟩
theorem tWrite {G : Nat → Prop} (a : Int) (vb : Value) (b : List UInt8) (ha0 : -9223372036854775808 ≤ a) (ha1 : a ≤ 9223372036854775807) (hk6 : d.deeds ≤ 1000000000) (hn6 : d.waits.length + 1 ≤ 1000000) (hb : BytesIn G W vb b) (hG : ∀ k, G k → k < w0.heap.size ∨ X k) (h : Two X w0 W gd gr s d e) :
    Calls Try.prog 14 #[.pointer (some ⟨gd, 0, none⟩), .int .i64 a, vb] W fun r w' => r = .returned (.int .i64 (d.write s a b).1) ∧ Two X w0 w' gd gr s (d.write s a b).2 e ∧ Fr (Bare X w0) W w' := by
  obtain ⟨D, E, h1, h2, h3, h4, h5⟩ := h.ex
  exact (aWrite W gd s d a vb b ha0 ha1 hk6 hn6 hb (fun k _ hg hd => (hG k hg).elim (fun hx => by have := (h4 k hd).1.1; omega) (fun hx => (h4 k hd).1.2 hx)) h1).mono fun r w' ⟨he, hd, hf⟩ => ⟨he, h.dev h2 h3 h4 h5 hd hf⟩
theorem uWrite {G : Nat → Prop} (a : Int) (vb : Value) (b : List UInt8) (hk6 : e.deeds ≤ 1000000000) (hn6 : e.waits.length + 1 ≤ 1000000) (hb : BytesIn G W vb b) (hG : ∀ k, G k → k < w0.heap.size ∨ X k) (h : Two X w0 W gd gr s d e) :
    Calls Try.prog 29 #[.pointer (some ⟨gr, 0, none⟩), .int .i64 a, vb] W fun r w' => r = .returned (.int .i64 (e.write s a b).1) ∧ Two X w0 w' gd gr s d (e.write s a b).2 ∧ Fr (Bare X w0) W w' := by
  obtain ⟨D, E, h1, h2, h3, h4, h5⟩ := h.ex
  exact (bWrite W gr s e a vb b hk6 hn6 hb (fun k hg => (hG k hg).elim (fun hx => ⟨Nat.lt_of_lt_of_le hx h.fr.size, fun hE => by have := (h5 k hE).1.1; omega⟩) (fun hx => ⟨h.lt k hx, fun hE => (h5 k hE).1.2 hx⟩)) h2).mono fun r w' ⟨he, hd, hf⟩ => ⟨he, h.ref h1 h3 h4 h5 hd hf⟩
theorem tRead (a : Int) (hn6 : d.waits.length ≤ 1000000) (h : Two X w0 W gd gr s d e) :
    Calls Try.prog 24 #[.pointer (some ⟨gd, 0, none⟩), .int .i64 a] W fun r w' => ∃ v, r = .returned (.tuple #[v, .int .i64 (d.read s a).1]) ∧ ToldT (fun k => W.heap.size ≤ k) w' v (d.read s a).2 ∧ Two X w0 w' gd gr s d e ∧ Fr (fun _ => False) W w' := by
  obtain ⟨D, E, h1, h2, h3, h4, h5⟩ := h.ex
  exact (aRead W gd s d a hn6 h1).mono fun r w' ⟨v, he, ho, hf⟩ => ⟨v, he, ho, h.quiet hf, hf⟩
theorem uRead (a : Int) (hn6 : e.waits.length ≤ 1000000) (h : Two X w0 W gd gr s d e) :
    Calls Try.prog 25 #[.pointer (some ⟨gr, 0, none⟩), .int .i64 a] W fun r w' => ∃ v, r = .returned (.tuple #[v, .int .i64 (e.read s a).1]) ∧ BytesIn (fun k => W.heap.size ≤ k) w' v (e.read s a).2 ∧ Two X w0 w' gd gr s d e ∧ Fr (fun _ => False) W w' := by
  obtain ⟨D, E, h1, h2, h3, h4, h5⟩ := h.ex
  exact (bRead W gr s e a hn6 h2).mono fun r w' ⟨v, he, ho, hf⟩ => ⟨v, he, ho.bytes, h.quiet hf, hf⟩
theorem tKept (h : Two X w0 W gd gr s d e) :
    Calls Try.prog 17 #[.pointer (some ⟨gd, 0, none⟩)] W fun r w' => ∃ v, r = .returned v ∧ ToldT (fun k => W.heap.size ≤ k) w' v d.all ∧ Two X w0 w' gd gr s d e ∧ Fr (fun _ => False) W w' := by
  obtain ⟨D, E, h1, h2, h3, h4, h5⟩ := h.ex
  exact (aKept W gd s d h1).mono fun r w' ⟨v, he, ho, hf⟩ => ⟨v, he, ToldT.ofOwn ho, h.quiet hf, hf⟩
theorem tStat (h : Two X w0 W gd gr s d e) :
    Calls Try.prog 23 #[.pointer (some ⟨gd, 0, none⟩)] W fun r w' => r = .returned (.agg #[.int .i64 s, .int .i64 d.waits.length, .int .i64 d.deeds, .bool d.down]) ∧ Two X w0 w' gd gr s d e ∧ Fr (fun _ => False) W w' := by
  obtain ⟨D, E, h1, h2, h3, h4, h5⟩ := h.ex
  exact (aStat W gd s d h1).mono fun r w' ⟨he, hf⟩ => ⟨he, h.quiet hf, hf⟩
end Go.Proofs.Ythmcmomkomhilaa
