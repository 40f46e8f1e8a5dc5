/- Laid together: BKeepL BLib InvIn -/
import Derived.Test.YtcbbcihfooaggaaBk8
import Derived.Test.YtcbbcihfooaggaaBk5
import Derived.Test.YtcbbcihfooaggaaBk2
import Derived.Test.YtcbbcihfooaggaaBk1

namespace Go.Proofs.Ytcbbcihfooaggaa
set_option linter.unusedVariables false
theorem lastL_idx (a : Nat) : ∀ (W : List Pend) (i j : Nat) (x : List UInt8), lastL (fun _ => true) a i W x = lastL (fun _ => true) a j W x
  | [], _, _, _ => rfl
  | p :: W, i, j, x => by rw [lastL, lastL]; exact lastL_idx a W (i + 1) (j + 1) _
theorem lastL_out (f a : Nat) : ∀ (xs : List Nat) (b : List UInt8) (i : Nat) (x : List UInt8), (∀ y ∈ xs, a ≠ f + y) → lastL (fun _ => true) a i (pends7 f xs b) x = x
  | [], _, _, _, _ => rfl
  | y :: xs, b, i, x, h => by
    rw [pends7, lastL, if_neg (by intro hh; exact h y List.mem_cons_self hh.2)]
    exact lastL_out f a xs _ _ _ (fun z hz => h z (List.mem_cons_of_mem _ hz))
theorem lastL_in (f : Nat) (z : Nat → List UInt8) : ∀ (xs : List Nat) (b : List UInt8), xs.Nodup → xs.flatMap (fun x => lastL (fun _ => true) (f + x) 0 (pends7 f xs b) (z x)) = (pends7 f xs b).flatMap (·.2)
  | [], _, _ => rfl
  | x :: xs, b, h => by
    obtain ⟨hx, hn⟩ := List.nodup_cons.1 h
    have ih := lastL_in f z xs (b.drop 64) hn
    simp only [pends7, List.flatMap_cons]
    rw [lastL, if_pos ⟨rfl, rfl⟩, lastL_out f (f + x) xs _ _ _ (fun y hy e => hx (by have h3 : x = y := (by omega); exact h3 ▸ hy)), ← ih]
    congr 1
    have hg : ∀ y ∈ xs, lastL (fun _ => true) (f + y) 0 ((f + x, full64 (b.take 64)) :: pends7 f xs (b.drop 64)) (z y) = lastL (fun _ => true) (f + y) 0 (pends7 f xs (b.drop 64)) (z y) := fun y hy => by
      rw [lastL, if_neg (fun e => hx (by have h2 : f + y = f + x := e.2; have h3 : x = y := (by omega); exact h3 ▸ hy))]
      exact lastL_idx _ _ _ _ _
    have hm : ∀ (A : List Nat) (g k : Nat → List UInt8), (∀ y ∈ A, g y = k y) → A.flatMap g = A.flatMap k := by
      intro A g k hA
      induction A with
      | nil => rfl
      | cons y A ih => rw [List.flatMap_cons, List.flatMap_cons, hA y List.mem_cons_self, ih (fun u hu => hA u (List.mem_cons_of_mem _ hu))]
    exact hm xs _ _ hg
theorem pends7_take (f : Nat) : ∀ (xs : List Nat) (b : List UInt8), b.length ≤ 64 * xs.length → ((pends7 f xs b).flatMap (·.2)).take b.length = b
  | [], b, h => by
    have : b = [] := List.eq_nil_of_length_eq_zero (by simpa using h)
    subst this; rfl
  | x :: xs, b, h => by
    rw [List.length_cons] at h
    simp only [pends7, List.flatMap_cons]
    by_cases hb : b.length ≤ 64
    · have h1 : b.take 64 = b := List.take_of_length_le hb
      rw [h1]
      unfold full64
      rw [List.append_assoc, List.take_left']
      rfl
    · have hl : (b.take 64).length = 64 := by rw [List.length_take]; omega
      rw [full64_self _ hl]
      have ih := pends7_take f xs (b.drop 64) (by rw [List.length_drop]; omega)
      have e : b.length = (b.take 64).length + (b.drop 64).length := by rw [hl, List.length_drop]; omega
      rw [e, List.take_length_add_append, ih, List.take_append_drop]
theorem Dv.seen_still {d : Dv} (h : d.waits = []) (a : Nat) : d.seen a = secAt d.all a := by unfold Dv.seen; rw [h]; rfl
theorem Dv.wr7_ok {d : Dv} {s f : Nat} {xs : List Nat} {b : List UInt8} (hd : d.down = false) (hl : d.left = 0) (hw : d.waits = []) (hR : d.Right s) (hx : ∀ x ∈ xs, f + x < s) :
    (d.wr7 s f xs b).1 = 0 ∧ (d.wr7 s f xs b).2.down = false ∧ (d.wr7 s f xs b).2.left = 0 ∧ (d.wr7 s f xs b).2.waits = [] ∧ (d.wr7 s f xs b).2.deeds = d.deeds + xs.length + 1 ∧ (d.wr7 s f xs b).2.Right s ∧
      ∀ a, a < s → secAt (d.wr7 s f xs b).2.all a = lastL (fun _ => true) a 0 (pends7 f xs b) (secAt d.all a) := by
  have hp := pends7_pends s f xs b hx
  rcases Dv.puts_cases s (pends7 f xs b) d hd hp with ⟨h1, h2, h3, h4, h5, h6⟩ | ⟨h1, _⟩
  · have h6' := h6 hl
    rw [hw, List.nil_append] at h3
    have hall : (d.puts s (pends7 f xs b)).2.all.length = 64 * s := by rw [h2]; exact hR.all
    have hlen := wakeL_length (fun _ => true) s (pends7 f xs b) 0 (d.puts s (pends7 f xs b)).2.all hp hall
    have hdd : (d.puts s (pends7 f xs b)).2.deed = (true, { (d.puts s (pends7 f xs b)).2 with left := 0, deeds := (d.puts s (pends7 f xs b)).2.deeds + 1 }) := by
      unfold Dv.deed
      rw [if_neg (by rw [h6']; decide), h6']
    have e : d.wr7 s f xs b = (0, { (d.puts s (pends7 f xs b)).2 with all := wakeL (fun _ => true) 0 (pends7 f xs b) (d.puts s (pends7 f xs b)).2.all, waits := [], left := 0, deeds := (d.puts s (pends7 f xs b)).2.deeds + 1 }) := by
      unfold Dv.wr7
      rw [if_pos h1]
      unfold Dv.flush
      rw [if_neg (by rw [h4]; decide), hdd]
      simp only [h3]
    rw [e]
    refine ⟨rfl, h4, rfl, rfl, by simp only [h5, pends7_length], ⟨hlen, fun p hp => by cases hp⟩, fun a ha => ?_⟩
    simp only
    rw [wakeL_sec _ s a ha _ _ _ hp hall, h2]
  · exact absurd hl h1
theorem Dv.wr7_see {d : Dv} {s f : Nat} {xs : List Nat} {b : List UInt8} (hd : d.down = false) (hl : d.left = 0) (hw : d.waits = []) (hR : d.Right s) (hx : ∀ x ∈ xs, f + x < s) (hn : xs.Nodup) (hb : b.length ≤ 64 * xs.length) :
    ((d.wr7 s f xs b).2.see7 f xs).take b.length = b := by
  obtain ⟨_, _, _, h4, _, _, h7⟩ := Dv.wr7_ok (b := b) hd hl hw hR hx
  have e : (d.wr7 s f xs b).2.see7 f xs = xs.flatMap (fun x => lastL (fun _ => true) (f + x) 0 (pends7 f xs b) (secAt d.all (f + x))) := by
    unfold Dv.see7
    have hm : ∀ (A : List Nat) (g k : Nat → List UInt8), (∀ y ∈ A, g y = k y) → A.flatMap g = A.flatMap k := by
      intro A g k hA
      induction A with
      | nil => rfl
      | cons y A ih => rw [List.flatMap_cons, List.flatMap_cons, hA y List.mem_cons_self, ih (fun u hu => hA u (List.mem_cons_of_mem _ hu))]
    exact hm xs _ _ (fun y hy => by rw [Dv.seen_still h4, h7 _ (hx y hy)])
  rw [e, lastL_in f _ xs b hn, pends7_take f xs b hb]
theorem Dv.wr7_else {d : Dv} {s f : Nat} {xs ys : List Nat} {b : List UInt8} (hd : d.down = false) (hl : d.left = 0) (hw : d.waits = []) (hR : d.Right s) (hx : ∀ x ∈ xs, f + x < s) (hy : ∀ y ∈ ys, f + y < s ∧ y ∉ xs) :
    (d.wr7 s f xs b).2.see7 f ys = d.see7 f ys := by
  obtain ⟨_, _, _, h4, _, _, h7⟩ := Dv.wr7_ok (b := b) hd hl hw hR hx
  unfold Dv.see7
  have hm : ∀ (A : List Nat) (g k : Nat → List UInt8), (∀ y ∈ A, g y = k y) → A.flatMap g = A.flatMap k := by
    intro A g k hA
    induction A with
    | nil => rfl
    | cons y A ih => rw [List.flatMap_cons, List.flatMap_cons, hA y List.mem_cons_self, ih (fun u hu => hA u (List.mem_cons_of_mem _ hu))]
  refine hm ys _ _ (fun y hyy => ?_)
  rw [Dv.seen_still h4, Dv.seen_still hw, h7 _ (hy y hyy).1]
  exact lastL_out f (f + y) xs b 0 _ (fun x hx' e => (hy y hyy).2 (by have h3 : y = x := (by omega); exact h3 ▸ hx'))
abbrev EntP := List UInt8 × List Rn
def runsP (E : List EntP) : List Rn := E.flatMap (·.2)
structure KpL (d s f : Nat) (dv : Dv) (E : List EntP) : Prop where
  up : dv.down = false
  left : dv.left = 0
  waits : dv.waits = []
  right : dv.Right s
  apart : apart7 d (runsP E) = true
  each : ∀ e ∈ E, ((secs7 e.2).length : Int) = need7 (e.1.length : Int) ∧ (dv.see7 f (secs7 e.2)).take e.1.length = e.1
theorem runsP_append (A B : List EntP) : runsP (A ++ B) = runsP A ++ runsP B := by simp [runsP]
theorem runsP_one (e : EntP) : runsP [e] = e.2 := by simp [runsP]
theorem sub_flat {α β : Type} (g : α → List β) {A B : List α} (h : A.Sublist B) : (A.flatMap g).Sublist (B.flatMap g) := by
  induction h with
  | slnil => exact List.Sublist.refl _
  | cons a _ ih => rw [List.flatMap_cons]; exact ih.trans (List.sublist_append_right _ _)
  | cons_cons a _ ih => rw [List.flatMap_cons, List.flatMap_cons]; exact List.Sublist.append (List.Sublist.refl _) ih
theorem apart7_sub {d : Nat} {l m : List Rn} (h : apart7 d l = true) (hs : m.Sublist l) : apart7 d m = true := by
  rw [apart7_iff] at h ⊢
  refine ⟨fun r hr => h.1 r (hs.subset hr), h.2.sublist ?_⟩
  unfold secs7
  exact sub_flat _ hs
theorem runsP_sub {A B : List EntP} (h : A.Sublist B) : (runsP A).Sublist (runsP B) := sub_flat _ h
theorem KpL.nil (d s f : Nat) : KpL d s f (Dv.new s) [] := ⟨rfl, rfl, rfl, ⟨by simp [Dv.new], fun p hp => by cases hp⟩, apart7_nil d, fun _ h => by cases h⟩
theorem KpL.sub {d s f : Nat} {dv : Dv} {E E' : List EntP} (h : KpL d s f dv E) (hs : E'.Sublist E) : KpL d s f dv E' := ⟨h.up, h.left, h.waits, h.right, apart7_sub h.apart (runsP_sub hs), fun e he => h.each e (hs.subset he)⟩
theorem mem_runsP {E : List EntP} {e : EntP} (h : e ∈ E) {x : Nat} (hx : x ∈ secs7 e.2) : x ∈ secs7 (runsP E) := by
  unfold secs7 at hx ⊢
  obtain ⟨r, hr, hxr⟩ := List.mem_flatMap.1 hx
  exact List.mem_flatMap.2 ⟨r, List.mem_flatMap.2 ⟨e, h, hr⟩, hxr⟩
theorem KpL.add {d s f : Nat} {dv : Dv} {E : List EntP} (h : KpL d s f dv E) (hfs : f + d ≤ s) (b : List UInt8) (n : Nat) (hn : (n : Int) = need7 (b.length : Int)) (hf : n ≤ (free7 d (runsP E)).length) :
    (dv.wr7 s f (secs7 (find7 d (runsP E) n)) b).1 = 0 ∧ KpL d s f (dv.wr7 s f (secs7 (find7 d (runsP E) n)) b).2 (E ++ [(b, find7 d (runsP E) n)]) ∧ (dv.wr7 s f (secs7 (find7 d (runsP E) n)) b).2.deeds = dv.deeds + n + 1 := by
  have hx : ∀ x ∈ secs7 (find7 d (runsP E) n), f + x < s ∧ x ∉ secs7 (runsP E) := fun x hx => by
    rw [find7_secs] at hx
    have := mem_free7.1 (List.mem_of_mem_take hx)
    exact ⟨by omega, this.2⟩
  have hlen : (secs7 (find7 d (runsP E) n)).length = n := by rw [find7_secs, List.length_take]; omega
  have hnd : (secs7 (find7 d (runsP E) n)).Nodup := by rw [find7_secs]; exact (free7_nodup _ _).sublist (List.take_sublist _ _)
  obtain ⟨h1, h2, h3, h4, h5, h6, h7⟩ := Dv.wr7_ok (b := b) h.up h.left h.waits h.right (fun x hxx => (hx x hxx).1)
  refine ⟨h1, ⟨h2, h3, h4, h6, ?_, fun e he => ?_⟩, by rw [h5, hlen]⟩
  · rw [runsP_append, runsP_one]
    exact find7_apart n h.apart
  · rcases List.mem_append.1 he with he | he
    · obtain ⟨k1, k2⟩ := h.each e he
      refine ⟨k1, ?_⟩
      rw [Dv.wr7_else h.up h.left h.waits h.right (fun x hxx => (hx x hxx).1) (fun y hy => ⟨?_, fun hh => (hx y hh).2 (mem_runsP he hy)⟩)]
      · exact k2
      · have := secs7_lt (apart7_iff.1 h.apart).1 (mem_runsP he hy)
        omega
    · obtain rfl := List.mem_singleton.1 he
      refine ⟨by rw [hlen]; exact hn, ?_⟩
      refine Dv.wr7_see h.up h.left h.waits h.right (fun x hxx => (hx x hxx).1) hnd ?_
      show b.length ≤ 64 * (secs7 (find7 d (runsP E) n)).length
      rw [hlen]
      rw [need7_nat] at hn
      omega
theorem KpL.woken {d s f : Nat} {dv : Dv} {E : List EntP} (h : KpL d s f dv E) (n : Int) : KpL d s f (dv.crash.2.wake n).2 E := by
  have e1 : dv.crash.2 = { dv with down := true } := by unfold Dv.crash; rw [if_neg (by rw [h.up]; decide)]
  have e2 : (dv.crash.2.wake n).2 = { dv with down := false, left := 0 } := by
    rw [e1]
    unfold Dv.wake
    rw [if_pos rfl]
    simp only [h.waits, wakeL]
  rw [e2]
  refine ⟨rfl, rfl, h.waits, ⟨h.right.all, h.right.waits⟩, h.apart, fun e he => ⟨(h.each e he).1, ?_⟩⟩
  exact (h.each e he).2
theorem free7_found {d : Nat} {l : List Rn} (h : apart7 d l = true) {n : Nat} (hn : n ≤ (free7 d l).length) : (free7 d (l ++ find7 d l n)).length = (free7 d l).length - n := by
  have h1 := free7_length h
  have h2 := free7_length (find7_apart n h)
  rw [secs7_append, List.length_append, find7_secs, List.length_take] at h2
  omega
theorem KpL.read {d s f : Nat} {dv : Dv} {E : List EntP} (h : KpL d s f dv E) (hfs : f + d ≤ s) {e : EntP} (he : e ∈ E) : (dv.rd7 s f (secs7 e.2)).1 = 0 ∧ (dv.rd7 s f (secs7 e.2)).2.take e.1.length = e.1 ∧ apart7 d e.2 = true := by
  have ha : apart7 d e.2 = true := apart7_sub h.apart (by
    have h1 : [e].Sublist E := List.singleton_sublist.2 he
    have h2 := runsP_sub h1
    rwa [runsP_one] at h2)
  rw [Dv.rd7_up h.up _ (fun x hx => by have := secs7_lt (apart7_iff.1 ha).1 hx; omega)]
  exact ⟨rfl, (h.each e he).2, ha⟩
end Go.Proofs.Ytcbbcihfooaggaa
namespace Go.Proofs.Ytcbbcihfooaggaa
open Go.RowKit Go.ChangeShapes
set_option linter.unusedVariables false
theorem results_cell1 {fn : Func} {p : Tmp} {ty : TypeId} (h : fn.results = #[.cell p ty]) (tmps : Array Value) (w : World) (g : Nat) (x : Value) (hT : (isAgg ty).run Try.prog w = .ok false w)
    (hp : tmps.getD p undef = .pointer (some ⟨g, 0, none⟩)) (hx : w.cell? ⟨g, 0, none⟩ = some x) : (results fn tmps).run Try.prog w = .ok x w := by
  have hp' : tmps[p]?.getD undef = .pointer (some ⟨g, 0, none⟩) := by simpa using hp
  simp [results, h, hp', asAddr, loadVar, hT, hx, go_sem]
theorem results_cells2 {fn : Func} {p q : Tmp} {ty tz : TypeId} (h : fn.results = #[.cell p ty, .cell q tz]) (tmps : Array Value) (w : World) (g k : Nat) (x y : Value) (hT : (isAgg ty).run Try.prog w = .ok false w) (hU : (isAgg tz).run Try.prog w = .ok false w)
    (hp : tmps.getD p undef = .pointer (some ⟨g, 0, none⟩)) (hq : tmps.getD q undef = .pointer (some ⟨k, 0, none⟩)) (hx : w.cell? ⟨g, 0, none⟩ = some x) (hy : w.cell? ⟨k, 0, none⟩ = some y) : (results fn tmps).run Try.prog w = .ok (.tuple #[x, y]) w := by
  have hp' : tmps[p]?.getD undef = .pointer (some ⟨g, 0, none⟩) := by simpa using hp
  have hq' : tmps[q]?.getD undef = .pointer (some ⟨k, 0, none⟩) := by simpa using hq
  simp [results, h, hp', hq', asAddr, loadVar, hT, hU, hx, hy, go_sem]
def markOf (k : Nat) : Deferred := { target := .collected k, args := #[] }
structure MarksOk (z : Nat) (Ds : List Deferred) (ks : List Nat) (W : World) : Prop where
  eq : Ds = ks.map markOf
  nodup : ks.Nodup
  block : ∀ k ∈ ks, z ≤ k ∧ W.heap[k]? = some (.deferred (some []))
theorem MarksOk.nil (z : Nat) (W : World) : MarksOk z [] [] W := ⟨rfl, List.nodup_nil, fun _ h => by cases h⟩
def MarkB (z : Nat) (W : World) (k : Nat) : Prop := z ≤ k ∧ ∃ ds, W.heap[k]? = some (.deferred ds)
theorem MarksOk.keep {z : Nat} {Ds : List Deferred} {ks : List Nat} {S : Nat → Prop} {W W' : World} (h : MarksOk z Ds ks W) (hf : Fr S W W') (hS : ∀ k ds, W.heap[k]? = some (.deferred ds) → ¬ S k) : MarksOk z Ds ks W' :=
  ⟨h.eq, h.nodup, fun k hk => ⟨(h.block k hk).1, hf.heap (h.block k hk).2 (hS k _ (h.block k hk).2)⟩⟩
theorem MarksOk.quiet {z : Nat} {Ds : List Deferred} {ks : List Nat} {W W' : World} (h : MarksOk z Ds ks W) (hf : Fr (fun _ => False) W W') : MarksOk z Ds ks W' := h.keep hf (fun _ _ _ h => h)
theorem MarksOk.lt {z : Nat} {Ds : List Deferred} {ks : List Nat} {W : World} (h : MarksOk z Ds ks W) {k : Nat} (hk : k ∈ ks) : k < W.heap.size := lt_of_block (h.block k hk).2
theorem MarksOk.cons {z : Nat} {Ds : List Deferred} {ks : List Nat} {W : World} {D : Nat} (h : MarksOk z Ds ks W) (hz : z ≤ D) (hD : W.heap[D]? = some (.deferred (some []))) (hn : D ∉ ks) : MarksOk z ({ target := .collected D, args := #[] } :: Ds) (D :: ks) W :=
  ⟨by rw [h.eq]; rfl, List.nodup_cons.2 ⟨hn, h.nodup⟩, fun k hk => by
    rcases List.mem_cons.1 hk with rfl | hk
    · exact ⟨hz, hD⟩
    · exact h.block k hk⟩
theorem MarksOk.grown {z B : Nat} {Ds : List Deferred} {ks : List Nat} {W W' : World} {row : Option Nat} (h : MarksOk z Ds ks W) (hb : ∀ k ∈ ks, k < B) (hg : W.grownBy W' row) (hr : ∀ r, row = some r → B ≤ r ∧ ∃ o : Obj, W.heap[r]? = some o ∧ o.isCells = false) : MarksOk z Ds ks W' :=
  ⟨h.eq, h.nodup, fun k hk => ⟨(h.block k hk).1, by
    rw [hg.block k (h.lt hk) (fun e => by have := (hr k e.symm).1; have := hb k hk; omega)]
    exact (h.block k hk).2⟩⟩
theorem leaves_marks {F : Fence} {n : Nat} {fn : Func} {tmps : Array Value} {R : Ending → World → Prop} {u : FrameMode} (hu : u ≠ .run) (z : Nat) : ∀ (ks : List Nat) (Ds : List Deferred) (W : World), MarksOk z Ds ks W →
    (∀ W', Fr (MarkB z W) W W' → LeavesIn F n Try.prog fn tmps R [] u W') → LeavesInM F n Try.prog fn tmps R Ds u W
  | [], Ds, W, h, hR => by
    rw [h.eq]
    exact hR W (Fr.refl _ _)
  | k :: ks, Ds, W, h, hR => by
    rw [h.eq]
    obtain ⟨hz, hk⟩ := h.block k List.mem_cons_self
    have hn := List.nodup_cons.1 h.nodup
    have hf := fr_putObj (T := (· = k)) W k (.deferred none) rfl
    refine ⟨hu, .inl ⟨k, _, rfl, run_takeDeferred hk, ?_⟩⟩
    refine leaves_marks hu z ks _ _ ⟨rfl, hn.2, fun j hj => ?_⟩ (fun W' hW => hR W' ?_)
    · obtain ⟨h1, h2⟩ := h.block j (List.mem_cons_of_mem _ hj)
      exact ⟨h1, hf.heap h2 (fun e => hn.1 (e ▸ hj))⟩
    · have hf2 : Fr (MarkB z W) W (W.putObj k (.deferred none)) := hf.mono (fun i _ e => by rw [show i = k from e]; exact ⟨hz, _, hk⟩)
      refine hf2.trans hW (fun i hi => ?_)
      obtain ⟨h1, ds, h2⟩ := hi
      by_cases hlt : i < W.heap.size
      · by_cases e : i = k
        · rw [e]; exact .inl ⟨hz, _, hk⟩
        · rw [hf.block i hlt e] at h2
          exact .inl ⟨h1, ds, h2⟩
      · exact .inr (by omega)
theorem one_cell {w : World} {b : Nat} {x : Value} {T : TypeId} (h : w.heap[b]? = some (.cells #[x] T (0, 0))) : w.cell? ⟨b, 0, none⟩ = some x ∧ w.frozen? ⟨b, 0, none⟩ = false := ⟨cell_of_one h, by simp [World.frozen?, h]⟩
theorem one_put {w : World} {b : Nat} {x : Value} {T : TypeId} (h : w.heap[b]? = some (.cells #[x] T (0, 0))) (u : Value) : (w.setCell ⟨b, 0, none⟩ u).heap[b]? = some (.cells #[u] T (0, 0)) := cell_put (i := 0) u h
theorem one_put2 {w : World} {b k : Nat} {x y : Value} {T U : TypeId} (h : w.heap[b]? = some (.cells #[x] T (0, 0))) (hk : w.heap[k]? = some (.cells #[y] U (0, 0))) (hne : b ≠ k) (u : Value) : (w.setCell ⟨b, 0, none⟩ u).heap[k]? = some (.cells #[y] U (0, 0)) :=
  (Fr.cell1 w b 0 u).heap hk (fun e => hne e.symm)
end Go.Proofs.Ytcbbcihfooaggaa
namespace Go.Proofs.Ytcbbcihfooaggaa
open Go.RowKit
set_option linter.unusedVariables false
section
variable {P : Program}
theorem Oper.wpIn_of_wp {F : Fence} {n : Nat} (hF : WideF F) {o : Oper} (hd : ∀ c, o.op ≠ Op.defer c) {a : Act} {w : World} {K : Act → World → Prop} {Q : Exit → Act → World → Prop} (h : o.wp P a w K Q) : o.wpIn F n P a w K Q := by
  refine ⟨fun f _ => hF.fn f, ?_⟩
  rw [Oper.semAt_plain F _ _ hd]
  unfold Oper.wp at h
  generalize (execOp a.eval o).run P w = r at *
  cases r with
  | ok m w' =>
    cases m
    case value v => exact h
    case skip => exact h
    case defer d => exact h
    case enter f args =>
      refine ⟨fun hx => hF.free hx, hF.calls (Calls.mono h fun e w2 he => ?_)⟩
      cases e <;> exact he
    case row r args =>
      refine ⟨fun hx => hF.free hx, ?_⟩
      cases hF with
      | out =>
        intro c cs _
        obtain ⟨v, w2, hr, hs⟩ := h c cs
        exact ⟨v, w2, hr, stepsIn_wide.2 hs⟩
      | round l =>
        intro c cs _
        obtain ⟨v, w2, hr, hs⟩ := h c cs
        exact ⟨v, w2, hr, stepsIn_wide.2 hs⟩
    all_goals exact absurd h (by simp [Oper.upon])
  | halt x w' =>
    cases x <;> first | exact h | exact absurd h (by simp [Oper.upon])
theorem wpIn_region_inv {F : Fence} {fl : Nat} (hF : WideF F) {id : Nat} {Q : Exit → Act → World → Prop} {a : Act} {w : World} {l : List Oper} (n : Nat) (hm : P.follows .mixedOrders = true) (hdf : ∀ (i : Nat) (o : Oper), l[i]? = some o → ∀ c, o.op ≠ Op.defer c) (hB : invB l n a.tmps.size = true)
    (B : World → Prop) (R : Nat → Value → World → Prop) (D : Nat → Nat → Value → Value → Prop) (Ext : World → World → Prop) (hext : ∀ j u w w', Ext w w' → R j u w → R j u w') (hB0 : B w.drew)
    (hstep : ∀ i, i < n → ∀ o, l[i]? = some o → InvStep P l n Q B R D Ext a i o)
    (htail : ∀ vs w', B w' → (∀ i, i < n → R i (vs i) w') → (∀ i j, i < n → j < n → i ≠ j → D i j (vs i) (vs j) ∨ D j i (vs j) (vs i)) → wpListIn F fl P l.toArray Q (l.drop n) (acts l (fun _ => true) vs a n) w') : (Code.region id l.toArray true).wpIn F fl P Q a w := by
  simp only [invB, Bool.and_eq_true, decide_eq_true_eq, Bool.or_eq_true] at hB
  obtain ⟨⟨⟨⟨hn, hops⟩, hdst⟩, hwait⟩, hseq⟩ := hB
  have hop : ∀ i, i < n → ∃ o, l[i]? = some o ∧ (∀ e ∈ o.after, Region.binds .any e = true → e.on < i) ∧ (∀ d, o.dst = some d → d < a.tmps.size) := by
    intro i hi
    have h := List.all_eq_true.1 hops i (List.mem_range.2 hi)
    cases ho : l[i]? with
    | none => rw [ho] at h; cases h
    | some o =>
      rw [ho] at h
      simp only [Bool.and_eq_true] at h
      obtain ⟨h2, h3⟩ := h
      refine ⟨o, rfl, fun e he hb => ?_, fun d hd => ?_⟩
      · have := Array.all_eq_true_iff_forall_mem.1 h2 e he
        rw [hb] at this
        simpa using this
      · rw [hd] at h3
        simpa using h3
  have hdis : ∀ i j, i < n → j < n → j ≠ i → ∀ d, dstAt l i = some d → dstAt l j ≠ some d := by
    intro i j hi hj hji d hd hd2
    have h := List.all_eq_true.1 (List.all_eq_true.1 hdst i (List.mem_range.2 hi)) j (List.mem_range.2 hj)
    rw [hd, hd2] at h
    simp at h
    omega
  refine wpIn_region_any hm ?_
  have main : ∀ (m : Nat) (listed : Array Bool) (vs : Nat → Value) (w' : World), left n listed = m → HeadInv .any l.toArray n listed → B w' → (∀ i, i < n → listed.getD i false = true → R i (vs i) w') →
      (∀ i j, i < n → j < n → listed.getD i false = true → listed.getD j false = true → i ≠ j → D i j (vs i) (vs j) ∨ D j i (vs j) (vs i)) →
      wpAnyIn F fl P .any l.toArray Q (m + (l.length - n)) listed (acts l (fun i => listed.getD i false) vs a n) w' := by
    intro m
    induction m with
    | zero =>
      intro listed vs w' hl inv hBw hR hD
      have hall : ∀ i, i < n → listed.getD i false = true := fun i hi => by simpa using countP_zero n hl i hi
      have hlisted : listed = (List.replicate n true ++ List.replicate (l.length - n) false).toArray := by
        apply Array.ext
        · rw [inv.size]; simp; omega
        · intro i h1 h2
          have hi : i < l.length := by rw [inv.size] at h1; simpa using h1
          have e1 : listed[i] = listed.getD i false := by simp [h1]
          rw [e1]
          by_cases h : i < n
          · rw [hall i h]
            simp [h]
          · rw [getD_both (inv.tail i (by omega) (by simpa using hi))]
            simp [List.getElem_append, h]
      have hact : acts l (fun i => listed.getD i false) vs a n = acts l (fun _ => true) vs a n := acts_congr n fun j hj => ⟨hall j hj, fun _ => rfl⟩
      rw [hact, Nat.zero_add]
      have hdl : (l.drop n).length = l.length - n := by simp
      rw [← hdl]
      refine wpAnyIn_of_seq (l.drop n) n listed _ w' (fun j => by simp [List.getElem?_drop]) ?_ (htail vs w' hBw (fun i hi => hR i hi (hall i hi)) (fun i j hi hj hij => hD i j hi hj (hall i hi) (hall j hj) hij))
      rw [hdl, hlisted]
      exact hseq
    | succ m ih =>
      intro listed vs w' hl inv hBw hR hD
      have hex : ∃ i, i < n ∧ listed.getD i false = false := by
        by_cases h : ∃ i, i < n ∧ listed.getD i false = false
        · exact h
        · exfalso
          have : left n listed = 0 := by
            unfold left
            rw [List.countP_eq_zero]
            intro i hi
            have hi' := List.mem_range.1 hi
            cases hg : listed.getD i false with
            | true => simp
            | false => exact absurd ⟨i, hi', hg⟩ h
          omega
      obtain ⟨i0, hi0, hun0⟩ := hex
      have hne : Region.ready .any l.toArray listed ≠ [] := by
        obtain ⟨i1, ⟨hi1, hun1⟩, hmin⟩ := least (p := fun i => i < n ∧ listed.getD i false = false) i0 ⟨hi0, hun0⟩
        obtain ⟨o, ho, hback, _⟩ := hop i1 hi1
        have : i1 ∈ Region.ready .any l.toArray listed := by
          refine mem_ready.2 ⟨getD_in (by rw [inv.size]; simp; omega) hun1, o, by simpa using ho, fun e he hb => ?_⟩
          have h1 := hback e he hb
          cases hg : listed.getD e.on false with
          | true => rfl
          | false => exact absurd ⟨by omega, hg⟩ (hmin e.on h1)
        intro h
        rw [h] at this
        cases this
      rw [show m + 1 + (l.length - n) = (m + (l.length - n)) + 1 by omega]
      refine ⟨fun h => absurd h hne, fun i hi => ?_⟩
      have hin : i < n := by
        rcases Nat.lt_or_ge i n with h | h
        · exact h
        · exfalso
          rcases hwait with hw | ⟨⟨hs, hc⟩, hlt⟩
          · obtain ⟨_, o, ho, _⟩ := mem_ready.1 hi
            have := (Array.getElem?_eq_some_iff.1 ho).1
            simp at this
            omega
          · exact tail_waits hs hc (by simpa using hlt) inv _ i0 rfl hi0 (getD_in (by rw [inv.size]; simp; omega) hun0) i h hi
      obtain ⟨hun, o', ho', hall⟩ := mem_ready.1 hi
      obtain ⟨o, ho, hback, hds⟩ := hop i hin
      have : o' = o := by simpa [ho] using ho'.symm
      subst this
      have hdo : dstAt l i = o'.dst := by simp [dstAt, ho]
      have hunf := getD_both hun
      have hst := hstep i hin o' ho (acts l (fun i => listed.getD i false) vs a n) w' vs hBw (acts_size n)
        (fun j t hj ht => by
          obtain ⟨e, he, hb⟩ := Array.any_eq_true'.1 hj
          simp only [Bool.and_eq_true, beq_iff_eq] at hb
          obtain ⟨hb, rfl⟩ := hb
          have h1 := hall e he hb
          have h2 := hback e he hb
          refine ⟨hR e.on (by omega) h1, ?_⟩
          obtain ⟨oe, hoe, _, hde⟩ := hop e.on (by omega)
          exact acts_eval_eq h1 ht (hde t (by simpa [dstAt, hoe] using ht)) n (by omega) (fun j hj hji => hdis e.on j (by omega) hj hji t ht))
        (fun t ht => acts_eval_ne n (fun j hj => by simpa using List.all_eq_true.1 ht j (List.mem_range.2 hj)))
      have hgo : ∀ a' w2, (∃ v, a' = (acts l (fun i => listed.getD i false) vs a n).put o'.dst v ∧ B w2 ∧ Ext w' w2 ∧ R i v w2 ∧ ∀ j u, j < n → j ≠ i → R j u w' → D i j v u) →
          wpAnyIn F fl P .any l.toArray Q (m + (l.length - n)) (listed.setIfInBounds i true) a' w2 := by
        rintro a' w2 ⟨v, rfl, hB2, hE, hRv, hDv⟩
        have hput := acts_put (l := l) (f := fun i => listed.getD i false) (vs := vs) (a0 := a) (i := i) (v := v) hunf n hin (fun j hj hji d hd => hdis i j hin hj hji d hd)
        rw [← hdo, ← hput]
        have hcong : acts l (fun j => if j = i then true else listed.getD j false) (fun j => if j = i then v else vs j) a n = acts l (fun j => (listed.setIfInBounds i true).getD j false) (fun j => if j = i then v else vs j) a n := by
          refine acts_congr n fun j hj => ⟨?_, fun _ => rfl⟩
          by_cases hji : j = i
          · subst hji
            rw [if_pos rfl]
            have : j < listed.size := by rw [inv.size]; simp; omega
            simp [this]
          · rw [if_neg hji, getD_set_ne false (Ne.symm hji)]
        rw [hcong]
        refine ih _ _ w2 ?_ (inv.set hi hin) hB2 (fun j hj hlj => ?_) (fun j k hj hk hlj hlk hjk => ?_)
        · have hsz : i < listed.size := by rw [inv.size]; simp; omega
          have := countP_one (f := fun j => !listed.getD j false) (g := fun j => !(listed.setIfInBounds i true).getD j false) (i := i) (by simp only [hunf]; rfl) (by simp [hsz]) (fun j hj => by simp only [getD_set_ne false (Ne.symm hj)]) n
          rw [if_pos hin] at this
          unfold left at hl ⊢
          omega
        · by_cases hji : j = i
          · subst hji
            rw [if_pos rfl]
            exact hRv
          · rw [if_neg hji]
            rw [getD_set_ne false (Ne.symm hji)] at hlj
            exact hext _ _ _ _ hE (hR j hj hlj)
        · by_cases hji : j = i
          · subst hji
            rw [if_pos rfl, if_neg (Ne.symm hjk)]
            rw [getD_set_ne false hjk] at hlk
            exact .inl (hDv k _ hk (Ne.symm hjk) (hR k hk hlk))
          · rw [if_neg hji]
            rw [getD_set_ne false (Ne.symm hji)] at hlj
            by_cases hki : k = i
            · subst hki
              rw [if_pos rfl]
              exact .inr (hDv j _ hj hji (hR j hj hlj))
            · rw [if_neg hki]
              rw [getD_set_ne false (Ne.symm hki)] at hlk
              exact hD j k hj hk hlj hlk hjk
      unfold wpOpIn
      rw [ho']
      unfold WpG at hst
      simp only
      split
      · rename_i hw
        rw [if_pos hw] at hst
        exact Oper.wpIn_mono (fun a' w2 h => hgo a' w2 h) (Oper.wpIn_of_wp hF (hdf i o' ho) hst)
      · rename_i hw
        rw [if_neg hw] at hst
        exact ⟨fun f _ => hF.fn f, hgo _ _ hst⟩
  have h0 : left n (Array.replicate l.length false) = n := by
    unfold left
    have : ((List.range n).countP fun i => !(Array.replicate l.length false).getD i false) = (List.range n).length := by
      rw [List.countP_eq_length]
      intro i _
      rw [getD_replicate_false]
      rfl
    rw [this, List.length_range]
  have hmain := main n (Array.replicate l.length false) (fun _ => undef) w.drew h0
    ⟨by simp, fun j oj _ hl => (by rw [getD_replicate_false] at hl; cases hl), fun t _ ht => getD_in (by simpa using ht) (getD_replicate_false _ _)⟩ hB0 (fun i _ hl => by rw [getD_replicate_false] at hl; cases hl) (fun i j _ _ hl => by rw [getD_replicate_false] at hl; cases hl)
  have e1 : acts l (fun i => (Array.replicate l.length false).getD i false) (fun _ => undef) a n = a := by
    have : ∀ k, acts l (fun i => (Array.replicate l.length false).getD i false) (fun _ => undef) a k = a := by
      intro k
      induction k with
      | zero => rfl
      | succ k ih => unfold acts; rw [if_neg (by rw [getD_replicate_false]; decide), ih]
    exact this n
  rw [e1, show n + (l.length - n) = l.length by omega] at hmain
  exact hmain
end
end Go.Proofs.Ytcbbcihfooaggaa
