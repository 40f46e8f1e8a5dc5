/- What DevWhole leans on: a device beside foreign blocks; writes one by one; full; cuts of 64 bytes. -/
import Derived.Test.YthmcmomkomhilaaGreat
import Derived.Test.YthmcmomkomhilaaRDev6
namespace Go.Proofs.Ythmcmomkomhilaa
open Go.RowKit Go.ChangeShapes
set_option linter.unusedVariables false

/-- A device of the call's own, since the world w0, that has nothing of the blocks X. -/
structure Dev2 (X : Nat → Prop) (w0 W : World) (g s : Nat) (d : Dv) : Prop where
  ex : ∃ D, DevAt W D g s d ∧ (∀ k, D k → w0.heap.size ≤ k ∧ ¬ X k)
  lt : ∀ k, X k → k < W.heap.size
  fr : Fr (fun _ => False) w0 W
/-- What such a device's calls may turn. -/
abbrev Bare (X : Nat → Prop) (w0 : World) : Nat → Prop := fun k => w0.heap.size ≤ k ∧ ¬ X k
theorem Dev2.after {X : Nat → Prop} {w0 W w' : World} {D : Nat → Prop} {g s : Nat} {d d' : Dv} (h : Dev2 X w0 W g s d) (hb : ∀ k, D k → w0.heap.size ≤ k ∧ ¬ X k) (h' : DevAt w' (More D W) g s d') (hf : Fr D W w') : Dev2 X w0 w' g s d' ∧ Fr (Bare X w0) W w' := by
  refine ⟨⟨⟨More D W, h', fun k hk => ?_⟩, fun k hk => Nat.lt_of_lt_of_le (h.lt k hk) hf.size, h.fr.trans hf (fun k hk => .inr (hb k hk).1)⟩, hf.mono (fun k _ hk => hb k hk)⟩
  rcases hk with hk | hk
  · exact hb k hk
  · exact ⟨Nat.le_trans h.fr.size hk, fun hx => by have := h.lt k hx; omega⟩
/-- What is made beside it is foreign. -/
theorem Dev2.add {X : Nat → Prop} {w0 W w' : World} {g s : Nat} {d : Dv} (h : Dev2 X w0 W g s d) (hf : Fr (fun _ => False) W w') : Dev2 (fun k => X k ∨ (W.heap.size ≤ k ∧ k < w'.heap.size)) w0 w' g s d := by
  obtain ⟨D, h1, h2⟩ := h.ex
  refine ⟨⟨fun k => D k ∧ k < W.heap.size, (h1.mono (E := fun k => D k ∧ k < W.heap.size) (fun k hk hD => ⟨hD, hk⟩)).keep hf (fun _ _ _ h => h), fun k hk => ⟨(h2 k hk.1).1, fun hx => hx.elim (h2 k hk.1).2 (fun hx => by have := hk.2; omega)⟩⟩, fun k hk => hk.elim (fun hk => Nat.lt_of_lt_of_le (h.lt k hk) hf.size) (fun hk => hk.2), h.fr.trans hf (fun _ h => h.elim)⟩
theorem Dev2.right {X : Nat → Prop} {w0 W : World} {g s : Nat} {d : Dv} (h : Dev2 X w0 W g s d) : d.Right s := by
  obtain ⟨D, h1, h2⟩ := h.ex
  exact h1.right
theorem Dev1.two {w0 W : World} {g s : Nat} {d : Dv} (h : Dev1 w0 W g s d) : Dev2 (fun _ => False) w0 W g s d := by
  obtain ⟨D, h1, h2, h3⟩ := h
  exact ⟨⟨D, h1, fun k hk => ⟨(h2 k hk).1, id⟩⟩, fun k hk => hk.elim, h3⟩
theorem eFlush {X : Nat → Prop} (w0 W : World) (g s : Nat) (d : Dv) (hk6 : d.deeds ≤ 1000000000) (hn6 : d.waits.length ≤ 1000000) (h : Dev2 X w0 W g s d) :
    Calls Try.prog 16 #[.pointer (some ⟨g, 0, none⟩)] W fun e w' => e = .returned (.int .i64 d.flush.1) ∧ Dev2 X w0 w' g s d.flush.2 ∧ Fr (Bare X w0) W w' := by
  obtain ⟨D, h1, h2⟩ := h.ex
  exact (aFlush W g s d hk6 hn6 h1).mono fun e w' ⟨he, hd, hf⟩ => ⟨he, h.after h2 hd hf⟩
theorem eCrash {X : Nat → Prop} (w0 W : World) (g s : Nat) (d : Dv) (h : Dev2 X w0 W g s d) :
    Calls Try.prog 19 #[.pointer (some ⟨g, 0, none⟩)] W fun e w' => e = .returned (.int .i64 d.crash.1) ∧ Dev2 X w0 w' g s d.crash.2 ∧ Fr (Bare X w0) W w' := by
  obtain ⟨D, h1, h2⟩ := h.ex
  exact (aCrash W g s d h1).mono fun e w' ⟨he, hd, hf⟩ => ⟨he, h.after h2 hd hf⟩
theorem eWake {X : Nat → Prop} (w0 W : World) (g s : Nat) (d : Dv) (keep : Int) (hkp0 : -9223372036854775808 ≤ keep) (hkp1 : keep ≤ 9223372036854775807) (hn6 : d.waits.length ≤ 1000000) (h : Dev2 X w0 W g s d) :
    Calls Try.prog 20 #[.pointer (some ⟨g, 0, none⟩), .int .i64 keep] W fun e w' => e = .returned (.int .i64 (d.wake keep).1) ∧ Dev2 X w0 w' g s (d.wake keep).2 ∧ Fr (Bare X w0) W w' := by
  obtain ⟨D, h1, h2⟩ := h.ex
  exact (aWake W g s d keep hkp0 hkp1 hn6 h1).mono fun e w' ⟨he, hd, hf⟩ => ⟨he, h.after h2 hd hf⟩
theorem eWrite {X G : Nat → Prop} (w0 W : World) (g s : Nat) (d : Dv) (a : Int) (vb : Value) (b : List UInt8) (ha0 : -9223372036854775808 ≤ a) (ha1 : a ≤ 9223372036854775807) (hk6 : d.deeds ≤ 1000000000) (hn6 : d.waits.length + 1 ≤ 1000000) (hb : BytesIn G W vb b) (hG : ∀ k, G k → k < w0.heap.size ∨ X k) (h : Dev2 X w0 W g s d) :
    Calls Try.prog 14 #[.pointer (some ⟨g, 0, none⟩), .int .i64 a, vb] W fun e w' => e = .returned (.int .i64 (d.write s a b).1) ∧ Dev2 X w0 w' g s (d.write s a b).2 ∧ Fr (Bare X w0) W w' := by
  obtain ⟨D, h1, h2⟩ := h.ex
  exact (aWrite W g s d a vb b ha0 ha1 hk6 hn6 hb (fun k _ hg hd => by
    rcases hG k hg with hx | hx
    · have := (h2 k hd).1; omega
    · exact (h2 k hd).2 hx) h1).mono fun e w' ⟨he, hd, hf⟩ => ⟨he, h.after h2 hd hf⟩
theorem eKept {X : Nat → Prop} (w0 W : World) (g s : Nat) (d : Dv) (h : Dev2 X w0 W g s d) :
    Calls Try.prog 17 #[.pointer (some ⟨g, 0, none⟩)] W fun e w' => ∃ v, e = .returned v ∧ OwnB (fun k => W.heap.size ≤ k ∧ k < w'.heap.size) w' v d.all ∧ Dev2 (fun k => X k ∨ (W.heap.size ≤ k ∧ k < w'.heap.size)) w0 w' g s d ∧ Fr (fun _ => False) W w' := by
  obtain ⟨D, h1, h2⟩ := h.ex
  exact (aKept W g s d h1).mono fun e w' ⟨v, he, ho, hf⟩ => ⟨v, he, ho.mono (fun k hk h => ⟨h, hk⟩), h.add hf, hf⟩

/-- The pending writes of deeds that are all written. -/
def pendsOf (s : Nat) : List DeedD → List Pend
  | [] => []
  | p :: l => if p.B.length ≤ 64 then ((p.n % s).toNat, full64 p.B) :: pendsOf s l else pendsOf s l
theorem pendsOf_snoc (s : Nat) (p : DeedD) : ∀ (l : List DeedD), pendsOf s (l ++ [p]) = if p.B.length ≤ 64 then pendsOf s l ++ [((p.n % s).toNat, full64 p.B)] else pendsOf s l
  | [] => by simp only [List.nil_append, pendsOf]
  | q :: l => by
    rw [List.cons_append, pendsOf, pendsOf_snoc s p l, pendsOf]
    split <;> split <;> simp
theorem pendsOf_len (s : Nat) : ∀ (l : List DeedD), (pendsOf s l).length ≤ l.length
  | [] => by simp [pendsOf]
  | p :: l => by
    have := pendsOf_len s l
    rw [pendsOf]
    split <;> simp <;> omega
theorem pendsOf_right (s : Nat) (hs : 1 ≤ s) : ∀ (l : List DeedD), Pends s (pendsOf s l)
  | [] => fun p hp => by cases hp
  | q :: l => by
    rw [pendsOf]
    split
    · next h =>
      intro p hp
      rcases List.mem_cons.1 hp with rfl | hp
      · have h1 := Int.emod_nonneg q.n (show (s : Int) ≠ 0 by omega)
        have h2 := Int.emod_lt_of_pos q.n (show (0 : Int) < s by omega)
        exact ⟨by simp only; omega, full64_length _ h⟩
      · exact pendsOf_right s hs l p hp
    · exact pendsOf_right s hs l
/-- A device that is up, without a fuse. -/
structure WhAt (X : Nat → Prop) (w0 wr : World) (g s : Nat) (A : List UInt8) (l : List DeedD) (i D0 : Nat) : Prop where
  ex : ∃ d, Dev2 X w0 wr g s d ∧ d.down = false ∧ d.left = 0 ∧ d.all = A ∧ d.waits = pendsOf s (l.take i) ∧ d.deeds ≤ D0 + i
theorem whStep {X G : Nat → Prop} (w0 wr : World) (g s : Nat) (hs : 1 ≤ s) (hs2 : s ≤ 60) (A : List UInt8) (l : List DeedD) (i D0 : Nat) (hi : i < l.length) (hl : l.length ≤ 150) (hD : D0 ≤ 1000) (vb : Value) (hb : BytesIn G wr vb (l[i]).B) (hG : ∀ k, G k → k < w0.heap.size ∨ X k) (h : WhAt X w0 wr g s A l i D0) :
    Calls Try.prog 14 #[.pointer (some ⟨g, 0, none⟩), .int .i64 ((l[i]).n % s), vb] wr fun e w' => ∃ z : Int, e = .returned (.int .i64 z) ∧ WhAt X w0 w' g s A l (i + 1) D0 ∧ Fr (Bare X w0) wr w' := by
  obtain ⟨d, h1, a1, a2, a3, a4, a5⟩ := h.ex
  have e1 := Int.emod_nonneg (l[i]).n (show (s : Int) ≠ 0 by omega)
  have e2 := Int.emod_lt_of_pos (l[i]).n (show (0 : Int) < s by omega)
  have hpl := pendsOf_len s (l.take i)
  rw [List.length_take] at hpl
  refine (eWrite w0 wr g s d _ vb _ (by omega) (by omega) (by omega) (by rw [a4]; omega) hb hG h1).mono ?_
  rintro e w' ⟨rfl, hd, hf⟩
  refine ⟨_, rfl, ?_, hf⟩
  have hst : pendsOf s (l.take (i + 1)) = if (l[i]).B.length ≤ 64 then pendsOf s (l.take i) ++ [(((l[i]).n % s).toNat, full64 (l[i]).B)] else pendsOf s (l.take i) := by
    rw [List.take_succ_eq_append_getElem hi, pendsOf_snoc]
  by_cases hlb : (l[i]).B.length ≤ 64
  · rw [Dv.write_ok a1 (by omega) (by omega)] at hd
    exact ⟨_, hd, a1, by simp only; omega, a3, by rw [hst, if_pos hlb]; simp only [a4], by simp only; omega⟩
  · rw [Dv.write_arg a1 (by omega)] at hd
    exact ⟨_, hd, a1, a2, a3, by rw [hst, if_neg hlb]; exact a4, by show d.deeds ≤ _; omega⟩

theorem full_any {G : Nat → Prop} (w : World) (vb : Value) (b : List UInt8) (hb : BytesIn G w vb b) (hl : b.length ≤ 64) :
    Calls Try.prog 21 #[vb] w fun e w' => ∃ g, e = .returned (.slice (some ⟨g, 0, none⟩) 64 64) ∧ w.heap.size ≤ g ∧ BytT w' g 5 (full64 b) ∧ Fr (fun _ => False) w w' := by
  obtain ⟨Z, hZ⟩ : ∃ Z, Z = ((List.replicate 64 (0 : UInt8)).map bv).toArray := ⟨_, rfl⟩
  have hmk := fun W => run_make_bytes W 64 64 rfl (by decide)
  rw [← hZ] at hmk
  have hf0 : Fr (fun _ => False) w (w.alloc (.cells Z 5)) := (Fr.refl _ _).alloc _
  have HB := Lib.hid (hb.keep hf0 (fun _ _ _ h => h))
  have HZ := Lib.hid (show BytT (w.alloc (.cells Z 5)) w.heap.size 5 (List.replicate 64 0) by rw [hZ]; exact heap_alloc_new w _)
  have HL := Lib.hid hl
  have HF := Lib.hid hf0
  clear hb hZ hl hf0
  go_enter Try.func21, Try.ntmps21
  go_wp2_with (first | fail | (refine wpList_copy_full (G := G) (w.alloc (.cells Z 5)) rfl (.tmp 5) (.tmp 6) rfl w.heap.size vb b rfl rfl HZ.out HB.out HL.out ?_; intro v2 w2 hb2 hf2; (have HB2 := Lib.hid (And.intro hb2 hf2)); clear hb2 hf2))
  go_ret
  exact ⟨_, rfl, Nat.le_refl _, HB2.out.1, HF.out.trans HB2.out.2 (fun k e => .inr (by rw [show k = _ from e]; exact Nat.le_refl _))⟩
/-- x[q:q+64]. -/
theorem run_cut64 (w : World) (b m cap q : Nat) (q2 : Int) (hq2 : q2 = (q : Int) + 64) (hq : q + 64 ≤ m) (hm : m ≤ cap) :
    (Instr.slice 33 (.slice (some ⟨b, 0, none⟩) m cap) (some (.int .i64 (q : Int))) (some (.int .i64 q2)) none).run Try.prog w = .ok (.slice (some ⟨b, q, none⟩) 64 (cap - q)) w := by
  subst hq2
  have hs : ∀ w, (sizeOf 5).run Try.prog w = .ok 1 w := fun w => by kernel_rfl
  have h1 : (0 : Int) ≤ (q : Int) + 64 := by omega
  have h2 : (q : Int) + 64 ≤ (cap : Int) := by omega
  have h3 : (q : Int) ≤ (q : Int) + 64 := by omega
  have h4 : ((q : Int) + 64).toNat = q + 64 := by omega
  have h5 : ¬ cap = q := by omega
  have h6 : q ≤ q + 64 := by omega
  simp [Instr.slice, run_underlying Try.underlying33, Instr.sliceBounds, run_sliceBound, hs, h1, h2, h3, h4, h5, Addr.add]
  omega
theorem BytesIn.cut64 {F : Nat → Prop} {w : World} {b m cap : Nat} {L : List UInt8} (h : BytesIn F w (.slice (some ⟨b, 0, none⟩) m cap) L) (a : Nat) (ha : 64 * a + 64 ≤ L.length) : BytesIn F w (.slice (some ⟨b, 64 * a, none⟩) 64 (cap - 64 * a)) (secAt L a) := by
  obtain ⟨ao, cap', hv, h1, h2, h3, h4⟩ := h
  simp only [Value.slice.injEq] at hv
  obtain ⟨rfl, rfl, rfl⟩ := hv
  have hl : (secAt L a).length = 64 := by rw [secAt, List.length_take, List.length_drop]; omega
  refine ⟨_, cap - 64 * a, by rw [hl], by omega, by omega, (fun h => by cases h), fun p hp => ?_⟩
  cases hp
  refine ⟨fun j u hu => ?_, fun _ => (h4 _ rfl).2 (fun h => by rw [h] at ha; simp at ha)⟩
  have hj : j < 64 := by
    have := (List.getElem?_eq_some_iff.1 hu).1
    rwa [List.length_map, hl] at this
  have := (h4 _ rfl).1 (64 * a + j) u (by
    rw [List.getElem?_map] at hu ⊢
    rw [← secAt_get L a j hj]
    exact hu)
  rw [addr_plain, Nat.zero_add] at this
  rw [addr_plain]
  exact this
end Go.Proofs.Ythmcmomkomhilaa
