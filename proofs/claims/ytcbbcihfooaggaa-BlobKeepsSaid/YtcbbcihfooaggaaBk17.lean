/- Laid together: BReadA BKeepM BKeepN OpenArr BOpen BOpenK -/
import Derived.Test.YtcbbcihfooaggaaBk16
import Derived.Test.YtcbbcihfooaggaaBk9
import Derived.Test.YtcbbcihfooaggaaBk13
import Derived.Test.YtcbbcihfooaggaaBk4
import Derived.StillTailTactics
import Derived.Test.YtcbbcihfooaggaaBk0
import Derived.ProofKit
import Derived.OpenShut
import Derived.SizedLaws
import Derived.Deep.Slices
import Derived.Carry
import Derived.Test.YtcbbcihfooaggaaBk6
import Derived.Deep.Fields

namespace Go.Proofs.Ytcbbcihfooaggaa
open Go.RowKit Go.ChangeShapes
set_option linter.unusedVariables false
def rdA (s : Nat) (dv : Dv) (L A D many : Int) (l : List Rn) : Int × List UInt8 := if fit7 s L A D many l = 0 then ((dv.rd7 s (1 + L + 2 * A).toNat (secs7 l)).1, (dv.rd7 s (1 + L + 2 * A).toNat (secs7 l)).2.take many.toNat) else (fit7 s L A D many l, [])
set_option maxRecDepth 100000 in
set_option maxHeartbeats 4000000 in
theorem bRead_no {D F : Nat → Prop} (w : World) (g s : Nat) (dv : Dv) (L A Dt many : Int) (v : Value) (l : List Rn) (h : DevAt w D g s dv) (hs1 : 1 ≤ s) (hs2 : s ≤ 8192) (hm1 : -9223372036854775808 ≤ many) (hm2 : many ≤ 9223372036854775807) (hL : RnsIn F w v l) (hF : ∀ k, F k → k < w.heap.size) (hr : fit7 s L A Dt many l = 2) :
    CallsIn Fence.wide 3 Try.prog 28 #[.pointer (some ⟨g, 0, none⟩), .agg #[.int .i64 L, .int .i64 A, .int .i64 Dt], .int .i64 many, v] w (ReadP w (2, [])) := by
  refine callsIn_of_wp_marks Try.func28 rfl trivial ?_ rfl
  simp only [Try.ntmps28, List.size_toArray, List.length_cons, List.length_nil, Nat.reduceAdd, Nat.reduceSub, Array.replicate_succ, Array.replicate_zero, List.push_toArray, List.append_toArray, List.nil_append, List.cons_append]
  obtain ⟨ao, cap, rfl, hc1, hc2, -⟩ := hL.open7
  obtain ⟨nl, hnl⟩ : ∃ nl, nl = l.length := ⟨_, rfl⟩
  rw [← hnl] at hL hc1 ⊢
  have hft := fun (W : World) (hW : Fr (fun _ => False) w W) => WideF.out.calls (n := 2) (fits_any (F := fun k => F k ∧ k < w.heap.size) W g s dv L A Dt many _ l (h.keep hW (fun _ _ _ h => h)) hs1 hs2 hm1 hm2 ((hL.mono (fun k hk h => ⟨h, hk⟩)).quiet hW) (fun k hk => by have := hk.2; have := hW.size; omega))
  rw [hr] at hft
  have HFT := Lib.hid hft
  obtain ⟨k4, k5, k6, k8, k9⟩ := heap5_new w (.cells #[.pointer (some ⟨g, 0, none⟩)] 43) (.cells #[.int .i64 L, .int .i64 A, .int .i64 Dt] 23) (.cells #[.int .i64 many] 3) (.cells #[.slice none 0 0] 40) (.cells #[.int .i64 0] 27)
  have hne : w.heap.size + 1 + 1 + 1 ≠ w.heap.size + 1 + 1 + 1 + 1 := by omega
  have HK := Lib.hid (And.intro k8 (And.intro k9 hne))
  clear k4 k5 k6 k8 k9 hft hr hL hF h hs1 hs2 hnl hne
  gi_wp2_with (refine ⟨trivial, ?_⟩; gi_at_call 48; refine (HFT.out _ ((((((Fr.refl (fun _ => False) w).alloc _).alloc _).alloc _).alloc _).alloc _)).mono ?_; rintro e w2 ⟨rfl, hf2⟩; (have h8 := hf2.heap HK.out.1 id); (have h9 := hf2.heap HK.out.2.1 id); (obtain ⟨e8, q8⟩ := one_cell h8); (obtain ⟨e9, q9⟩ := one_cell (one_put2 h8 h9 HK.out.2.2 (.slice none 0 0))); (have H2 := Lib.hid (And.intro h8 (And.intro h9 hf2))); clear h8 h9 hf2)
  have hf2 : Fr (fun _ => False) w w2 := ((((((Fr.refl (fun _ => False) w).alloc _).alloc _).alloc _).alloc _).alloc _).trans H2.out.2.2 (fun _ h => h.elim)
  have hf9 : Fr (fun _ => False) w ((w2.setCell ⟨w.heap.size + 1 + 1 + 1, 0, none⟩ (.slice none 0 0)).setCell ⟨w.heap.size + 1 + 1 + 1 + 1, 0, none⟩ (.int .i64 2)) :=
    (hf2.trans (Fr.cell1 w2 (w.heap.size + 1 + 1 + 1) 0 (.slice none 0 0)) (fun k e => .inr (by have : k = w.heap.size + 1 + 1 + 1 := e; omega))).trans (Fr.cell1 _ (w.heap.size + 1 + 1 + 1 + 1) 0 (.int .i64 2)) (fun k e => .inr (by have : k = w.heap.size + 1 + 1 + 1 + 1 := e; omega))
  have ho : RdOut ((w2.setCell ⟨w.heap.size + 1 + 1 + 1, 0, none⟩ (.slice none 0 0)).setCell ⟨w.heap.size + 1 + 1 + 1 + 1, 0, none⟩ (.int .i64 2)) ((w2.setCell ⟨w.heap.size + 1 + 1 + 1, 0, none⟩ (.slice none 0 0)).setCell ⟨w.heap.size + 1 + 1 + 1 + 1, 0, none⟩ (.int .i64 2)) (w.heap.size + 1 + 1 + 1) (w.heap.size + 1 + 1 + 1 + 1) w.heap.size w.heap.size (.slice none 0 0) (2, []) :=
    ⟨(Fr.cell1 _ (w.heap.size + 1 + 1 + 1 + 1) 0 _).heap (one_put H2.out.1 _) HK.out.2.2, one_put (one_put2 H2.out.1 H2.out.2.1 HK.out.2.2 (.slice none 0 0)) _, OwnB.nil _ _, Fr.refl _ _⟩
  exact ho.leave (MarksOk.nil _ _) rfl rfl hf9 (by omega) (fun W' hd hf => ⟨_, rfl, hd, hf⟩)
theorem bRead_any {D F : Nat → Prop} (w : World) (g s : Nat) (dv : Dv) (L A Dt many : Int) (v : Value) (l : List Rn) (h : DevAt w D g s dv) (hs1 : 1 ≤ s) (hs2 : s ≤ 8192) (hn6 : dv.waits.length ≤ 1000000) (hm1 : -9223372036854775808 ≤ many) (hm2 : many ≤ 9223372036854775807) (hL : RnsIn F w v l) (hF : ∀ k, F k → k < w.heap.size) :
    Calls Try.prog 28 #[.pointer (some ⟨g, 0, none⟩), .agg #[.int .i64 L, .int .i64 A, .int .i64 Dt], .int .i64 many, v] w (ReadP w (rdA s dv L A Dt many l)) := by
  rcases fit7_cases s L A Dt many l with hr | ⟨hr, hap, hm, hc, hS⟩
  · have e : rdA s dv L A Dt many l = (2, []) := by unfold rdA; rw [hr, if_neg (by decide)]
    rw [e]
    exact callsIn_wide.1 (bRead_no w g s dv L A Dt many v l h hs1 hs2 hm1 hm2 hL hF hr)
  · obtain ⟨l0, la, d, s0, rfl, rfl, rfl, hs, hap0⟩ := ap7_open hap
    have hsec : secsS (l0 : Int) la d = s0 := by
      unfold secsS
      rw [if_pos (by unfold ap7 at hap; rw [Bool.and_eq_true] at hap; exact hap.1), hs.sum]
      push_cast
      rfl
    obtain ⟨mn, rfl⟩ : ∃ mn : Nat, many = mn := ⟨many.toNat, by omega⟩
    have hcn := apart7_le hap0
    have hd : d ≤ 8192 := by have := hs.sum; have := hs.most; omega
    rw [need7_nat] at hc
    have e : rdA s dv l0 la d mn l = ((dv.rd7 s (1 + l0 + 2 * la) (secs7 l)).1, (dv.rd7 s (1 + l0 + 2 * la) (secs7 l)).2.take mn) := by
      unfold rdA
      rw [if_pos hr]
      have e1 : (1 + (l0 : Int) + 2 * (la : Int)).toNat = 1 + l0 + 2 * la := by omega
      rw [e1, Int.toNat_natCast]
    rw [e]
    exact callsIn_wide.1 (bRead_yes w g s dv l0 la d s0 mn v l h hs1 hs2 hn6 (by omega) hL hF hs (by omega) hap0 hr)
end Go.Proofs.Ytcbbcihfooaggaa
namespace Go.Proofs.Ytcbbcihfooaggaa
open Go.RowKit Go.ChangeShapes
set_option linter.unusedVariables false
structure Ent where
  x : Value
  B : List UInt8
  y : Value
  R : List Rn
def Ent.p (e : Ent) : EntP := (e.B, e.R)
structure Kp8 (w0 W : World) (gd s d f : Nat) (dv : Dv) (rv uv : Value) (xs ys : List Value) (E : List Ent) : Prop where
  dev : ∃ D, DevAt W D gd s dv ∧ ∀ k, D k → (w0.heap.size ≤ k ∧ k < W.heap.size) ∧ rv.ownBlock ≠ some k ∧ uv.ownBlock ≠ some k ∧ ∀ e ∈ E, e.y.ownBlock ≠ some k
  rows : RowT 40 w0.heap.size W rv xs
  runs : RowT 24 w0.heap.size W uv ys
  ents : ∀ e ∈ E, BytesIn (fun k => k < w0.heap.size) W e.x e.B ∧ OwnRn w0.heap.size W e.y e.R
  fr : Fr (fun _ => False) w0 W
  keeps : KpL d s f dv (E.map Ent.p)
section
variable {w0 W W' : World} {gd s d f : Nat} {dv dv' : Dv} {rv uv rv' uv' : Value} {xs ys zs : List Value} {E : List Ent}
theorem OwnRn.keepR {S : Nat → Prop} {z : Nat} {w w' : World} {v : Value} {l : List Rn} (h : OwnRn z w v l) (hf : Fr S w w') (hd : ∀ g, v.ownBlock = some g → ¬ S g) : OwnRn z w' v l := OwnE.keep h hf hd
theorem Kp8.quiet (h : Kp8 w0 W gd s d f dv rv uv xs ys E) (hf : Fr (fun _ => False) W W') : Kp8 w0 W' gd s d f dv rv uv xs ys E := by
  obtain ⟨D, hD, h2⟩ := h.dev
  exact ⟨⟨D, hD.keep hf (fun _ _ _ h => h), fun k hk => ⟨⟨(h2 k hk).1.1, Nat.lt_of_lt_of_le (h2 k hk).1.2 hf.size⟩, (h2 k hk).2⟩⟩, h.rows.keep hf (fun _ _ h => h), h.runs.keep hf (fun _ _ h => h), fun e he => ⟨(h.ents e he).1.keep hf (fun _ _ _ h => h), (h.ents e he).2.keepR hf (fun _ _ h => h)⟩, h.fr.trans hf (fun _ h => h.elim), h.keeps⟩
theorem Kp8.turned {D : Nat → Prop} {W5 : World} {E' : List Ent} (h : Kp8 w0 W gd s d f dv rv uv xs ys E) (hD : DevAt W D gd s dv) (h2 : ∀ k, D k → (w0.heap.size ≤ k ∧ k < W.heap.size) ∧ rv.ownBlock ≠ some k ∧ uv.ownBlock ≠ some k ∧ ∀ e ∈ E, e.y.ownBlock ≠ some k) (hq : Fr (fun _ => False) W W5) (hd' : DevAt W' (More D W5) gd s dv') (hf : Fr D W5 W') (hk : KpL d s f dv' (E'.map Ent.p))
    (hE : ∀ e ∈ E', e ∈ E ∨ (BytesIn (fun k => k < w0.heap.size) W5 e.x e.B ∧ OwnRn W.heap.size W5 e.y e.R)) : Kp8 w0 W' gd s d f dv' rv uv xs ys E' := by
  have h5 := h.quiet hq
  refine ⟨⟨fun k => More D W5 k ∧ k < W'.heap.size, hd'.mono (fun k hk h => ⟨h, hk⟩), fun k hk => ?_⟩, h5.rows.keep hf (fun g hg hd => (h2 g hd).2.1 hg), h5.runs.keep hf (fun g hg hd => (h2 g hd).2.2.1 hg), fun e he => ?_, h5.fr.trans hf (fun k hk => .inr (h2 k hk).1.1), hk⟩
  · rcases hk.1 with hk1 | hk1
    · refine ⟨⟨(h2 k hk1).1.1, hk.2⟩, (h2 k hk1).2.1, (h2 k hk1).2.2.1, fun e he => ?_⟩
      rcases hE e he with h9 | h9
      · exact (h2 k hk1).2.2.2 e h9
      · intro e9
        have := (OwnRn.own h9.2 e9).1
        have := (h2 k hk1).1.2
        omega
    · have hb : ∀ g, g = k → ¬ g < W5.heap.size := fun g e => by omega
      refine ⟨⟨Nat.le_trans h5.fr.size hk1, hk.2⟩, fun e9 => hb k rfl (h5.rows.row.own k e9).2, fun e9 => hb k rfl (h5.runs.row.own k e9).2, fun e he e9 => ?_⟩
      rcases hE e he with h9 | h9
      · obtain ⟨_, cs, hc⟩ := OwnRn.own (h5.ents e h9).2 e9
        exact hb k rfl (lt_of_block hc)
      · obtain ⟨_, cs, hc⟩ := OwnRn.own h9.2 e9
        exact hb k rfl (lt_of_block hc)
  · rcases hE e he with h9 | h9
    · exact ⟨(h5.ents e h9).1.keep hf (fun k _ hk hd => by have := (h2 k hd).1.1; omega), (h5.ents e h9).2.keepR hf (fun g hg hd => (h2 g hd).2.2.2 e h9 hg)⟩
    · refine ⟨h9.1.keep hf (fun k _ hk hd => by have := (h2 k hd).1.1; omega), OwnRn.lower (h9.2.keepR hf (fun g hg hd => ?_)) h.fr.size⟩
      have := (OwnRn.own h9.2 hg).1
      have := (h2 g hd).1.2
      omega
theorem Kp8.growB (h : Kp8 w0 W gd s d f dv rv uv xs ys E) (hr : RowT 40 w0.heap.size W' rv' zs) (hf : Fr (fun k => rv.ownBlock = some k) W W') (ho : rv'.ownBlock = rv.ownBlock ∨ rv'.ownBlock = some W.heap.size) : Kp8 w0 W' gd s d f dv rv' uv zs ys E := by
  obtain ⟨D, hD, h2⟩ := h.dev
  refine ⟨⟨D, hD.keep hf (fun k _ hk e => (h2 k hk).2.1 e), fun k hk => ⟨⟨(h2 k hk).1.1, Nat.lt_of_lt_of_le (h2 k hk).1.2 hf.size⟩, fun e => ?_, (h2 k hk).2.2⟩⟩, hr, h.runs.keep hf (fun g hg e => RowT.apart h.rows h.runs (by decide) g e hg), fun e he => ⟨(h.ents e he).1.keep hf (fun k _ hk e => by have := (h.rows.row.own k e).1; omega), (h.ents e he).2.keepR hf (fun g hg e9 => ?_)⟩, h.fr.trans hf (fun k hk => .inr (h.rows.row.own k hk).1), h.keeps⟩
  · rcases ho with ho | ho
    · exact (h2 k hk).2.1 (by rw [← ho]; exact e)
    · rw [ho] at e
      have := (h2 k hk).1.2
      simp only [Option.some.injEq] at e
      omega
  · obtain ⟨_, cs, hc⟩ := OwnRn.own (h.ents e he).2 hg
    obtain ⟨cur, hc2⟩ := h.rows.ty g e9
    rw [hc] at hc2
    simp only [Option.some.injEq, Obj.cells.injEq] at hc2
    exact absurd hc2.2.1 (by decide)
theorem Kp8.growR (h : Kp8 w0 W gd s d f dv rv uv xs ys E) (hr : RowT 24 w0.heap.size W' uv' zs) (hf : Fr (fun k => uv.ownBlock = some k) W W') (ho : uv'.ownBlock = uv.ownBlock ∨ uv'.ownBlock = some W.heap.size) : Kp8 w0 W' gd s d f dv rv uv' xs zs E := by
  obtain ⟨D, hD, h2⟩ := h.dev
  refine ⟨⟨D, hD.keep hf (fun k _ hk e => (h2 k hk).2.2.1 e), fun k hk => ⟨⟨(h2 k hk).1.1, Nat.lt_of_lt_of_le (h2 k hk).1.2 hf.size⟩, (h2 k hk).2.1, fun e => ?_, (h2 k hk).2.2.2⟩⟩, h.rows.keep hf (fun g hg e => RowT.apart h.rows h.runs (by decide) g hg e), hr, fun e he => ⟨(h.ents e he).1.keep hf (fun k _ hk e => by have := (h.runs.row.own k e).1; omega), (h.ents e he).2.keepR hf (fun g hg e9 => ?_)⟩, h.fr.trans hf (fun k hk => .inr (h.runs.row.own k hk).1), h.keeps⟩
  · rcases ho with ho | ho
    · exact (h2 k hk).2.2.1 (by rw [← ho]; exact e)
    · rw [ho] at e
      have := (h2 k hk).1.2
      simp only [Option.some.injEq] at e
      omega
  · obtain ⟨_, cs, hc⟩ := OwnRn.own (h.ents e he).2 hg
    obtain ⟨cur, hc2⟩ := h.runs.ty g e9
    rw [hc] at hc2
    simp only [Option.some.injEq, Obj.cells.injEq] at hc2
    exact absurd hc2.2.1 (by decide)
theorem own_cut (ao : Option Addr) (n c k : Nat) : (Value.slice ao k k).ownBlock = (Value.slice ao n c).ownBlock := by cases ao <;> rfl
theorem Kp8.cutB {ao : Option Addr} {n c : Nat} (h : Kp8 w0 W gd s d f dv (.slice ao n c) uv xs ys E) (k : Nat) (hk : k ≤ xs.length) : Kp8 w0 W gd s d f dv (.slice ao k k) uv (xs.take k) ys E := by
  obtain ⟨D, hD, h2⟩ := h.dev
  exact ⟨⟨D, hD, fun j hj => ⟨(h2 j hj).1, by rw [own_cut ao n c]; exact (h2 j hj).2.1, (h2 j hj).2.2⟩⟩, h.rows.cut k hk, h.runs, h.ents, h.fr, h.keeps⟩
theorem Kp8.cutR {ao : Option Addr} {n c : Nat} (h : Kp8 w0 W gd s d f dv rv (.slice ao n c) xs ys E) (k : Nat) (hk : k ≤ ys.length) : Kp8 w0 W gd s d f dv rv (.slice ao k k) xs (ys.take k) E := by
  obtain ⟨D, hD, h2⟩ := h.dev
  exact ⟨⟨D, hD, fun j hj => ⟨(h2 j hj).1, (h2 j hj).2.1, by rw [own_cut ao n c]; exact (h2 j hj).2.2.1, (h2 j hj).2.2.2⟩⟩, h.rows, h.runs.cut k hk, h.ents, h.fr, h.keeps⟩
theorem Kp8.sub {E' : List Ent} (h : Kp8 w0 W gd s d f dv rv uv xs ys E) (hs : E'.Sublist E) : Kp8 w0 W gd s d f dv rv uv xs ys E' := by
  obtain ⟨D, hD, h2⟩ := h.dev
  exact ⟨⟨D, hD, fun k hk => ⟨(h2 k hk).1, (h2 k hk).2.1, (h2 k hk).2.2.1, fun e he => (h2 k hk).2.2.2 e (hs.subset he)⟩⟩, h.rows, h.runs, fun e he => h.ents e (hs.subset he), h.fr, h.keeps.sub (hs.map _)⟩
theorem Kp8.write {l0 la s0 : Nat} {W5 : World} (h : Kp8 w0 W gd s d f dv rv uv xs ys E) (hf0 : f = 1 + l0 + 2 * la) (hsh : ShOk l0 la d s0) (hss : s0 = s) (hs2 : s ≤ 8192) (hq : Fr (fun _ => False) W W5) (hk6 : dv.deeds ≤ 900000000) (vb fv : Value) (b : List UInt8) (hb : BytesIn (fun k => k < w0.heap.size) W5 vb b) (hbl : b.length ≤ 1000000) (n : Nat) (hn : (n : Int) = need7 (b.length : Int)) (hfr : n ≤ (free7 d (runsP (E.map Ent.p))).length) (hfv : OwnRn W.heap.size W5 fv (find7 d (runsP (E.map Ent.p)) n)) :
    Calls Try.prog 24 #[.pointer (some ⟨gd, 0, none⟩), .agg #[.int .i64 l0, .int .i64 la, .int .i64 d], vb, fv] W5 fun e w' => e = .returned (.int .i64 0) ∧ ∃ dv', Kp8 w0 w' gd s d f dv' rv uv xs ys (E ++ [⟨vb, b, fv, find7 d (runsP (E.map Ent.p)) n⟩]) ∧ dv'.deeds = dv.deeds + n + 1 := by
  obtain ⟨D, hD, h2⟩ := h.dev
  have hd8 : d ≤ 8192 := by have := hsh.sum; have := hsh.most; omega
  have hfs : f + d ≤ s := by have := hsh.sum; omega
  have hs1 : 1 ≤ s := by have := hsh.sum; omega
  have hap : apart7 d (find7 d (runsP (E.map Ent.p)) n) = true := apart7_sub (find7_apart n h.keeps.apart) (List.sublist_append_right _ _)
  have hlen : (secs7 (find7 d (runsP (E.map Ent.p)) n)).length = n := by rw [find7_secs, List.length_take]; omega
  have hr : fit7 s l0 la d (b.length : Int) (find7 d (runsP (E.map Ent.p)) n) = 0 := by
    unfold fit7
    rw [if_neg (by rw [ap7_ok hsh, hap]; simp), if_neg ?_]
    rw [hlen, hn]
    unfold secsS
    rw [if_pos (by rw [rightS_nat hsh.l1 hsh.a1 hsh.d1 (by have := hsh.sum; have := hsh.most; omega)])]
    have := hsh.sum
    omega
  have hw : wrA s dv l0 la d b (find7 d (runsP (E.map Ent.p)) n) = dv.wr7 s f (secs7 (find7 d (runsP (E.map Ent.p)) n)) b := by
    unfold wrA
    rw [if_pos hr, hf0]
    congr 1
  obtain ⟨a1, a2, a3⟩ := h.keeps.add hfs b n hn hfr
  have hbb := find7_in (many := n) (l := runsP (E.map Ent.p)) hd8
  refine (bWrite_any W5 gd s dv l0 la d vb fv b _ (hD.keep hq (fun _ _ _ h => h)) hs1 hs2 h.keeps.up hk6 (by rw [h.keeps.waits]; simp) hb (by omega) (hfv.rns hbb) (fun k hk => ?_) (fun k hk hd => ?_) (fun k hk => ⟨Nat.lt_of_lt_of_le hk (Nat.le_trans h.fr.size hq.size), fun hd => by have := (h2 k hd).1.1; omega⟩)).mono ?_
  · obtain ⟨_, cs, hc⟩ := OwnRn.own hfv hk.2
    exact lt_of_block hc
  · have := hk.1
    have := (h2 k hd).1.2
    omega
  · rintro e w' ⟨he, hd', hf⟩
    rw [hw] at he hd'
    rw [a1] at he
    refine ⟨he, _, h.turned hD h2 hq hd' hf ?_ (fun e he => ?_), a3⟩
    · rw [List.map_append]
      exact a2
    · rcases List.mem_append.1 he with he | he
      · exact .inl he
      · obtain rfl := List.mem_singleton.1 he
        exact .inr ⟨hb, hfv⟩
theorem Kp8.read {l0 la s0 : Nat} {W5 : World} (h : Kp8 w0 W gd s d f dv rv uv xs ys E) (hf0 : f = 1 + l0 + 2 * la) (hsh : ShOk l0 la d s0) (hss : s0 = s) (hs2 : s ≤ 8192) (hq : Fr (fun _ => False) W W5) (e : Ent) (he : e ∈ E) (hbl : e.B.length ≤ 1000000) :
    Calls Try.prog 28 #[.pointer (some ⟨gd, 0, none⟩), .agg #[.int .i64 l0, .int .i64 la, .int .i64 d], .int .i64 (e.B.length : Nat), e.y] W5 fun r w' => ∃ a n c, r = .returned (.tuple #[.slice a n c, .int .i64 0]) ∧ OwnB (fun k => W5.heap.size ≤ k) w' (.slice a n c) e.B ∧ Fr (fun _ => False) W5 w' := by
  obtain ⟨D, hD, h2⟩ := h.dev
  have hd8 : d ≤ 8192 := by have := hsh.sum; have := hsh.most; omega
  have hfs : f + d ≤ s := by have := hsh.sum; omega
  have hs1 : 1 ≤ s := by have := hsh.sum; omega
  have hm : e.p ∈ E.map Ent.p := List.mem_map_of_mem he
  obtain ⟨a1, a2, a3⟩ := h.keeps.read hfs hm
  have hc := (h.keeps.each _ hm).1
  have hr : fit7 s l0 la d ((e.B.length : Nat) : Int) e.R = 0 := by
    unfold fit7
    rw [if_neg (by rw [ap7_ok hsh, show apart7 d e.R = true from a3]; simp), if_neg ?_]
    unfold secsS
    rw [if_pos (by rw [rightS_nat hsh.l1 hsh.a1 hsh.d1 (by have := hsh.sum; have := hsh.most; omega)])]
    have := hsh.sum
    have hc' : ((secs7 e.R).length : Int) = need7 (e.B.length : Int) := hc
    omega
  have hw : rdA s dv l0 la d ((e.B.length : Nat) : Int) e.R = (0, e.B) := by
    unfold rdA
    rw [if_pos hr]
    have e1 : (1 + (l0 : Int) + 2 * (la : Int)).toNat = f := by omega
    rw [e1, Int.toNat_natCast]
    exact Prod.ext a1 a2
  have hbb : ∀ r ∈ e.R, -9223372036854775808 ≤ r.1 ∧ r.1 ≤ 9223372036854775807 ∧ -9223372036854775808 ≤ r.2 ∧ r.2 ≤ 9223372036854775807 := fun r hr => by
    have := rnOk_iff.1 ((apart7_iff.1 (show apart7 d e.R = true from a3)).1 r hr)
    omega
  have hoy := (h.quiet hq).ents e he |>.2
  refine (bRead_any W5 gd s dv l0 la d ((e.B.length : Nat) : Int) e.y e.R (hD.keep hq (fun _ _ _ h => h)) hs1 hs2 (by rw [h.keeps.waits]; simp) (by omega) (by omega) (hoy.rns hbb) (fun k hk => ?_)).mono ?_
  · obtain ⟨_, cs, hc⟩ := OwnRn.own hoy hk.2
    exact lt_of_block hc
  · rw [hw]
    rintro r w' ⟨u, hu, ho, hf⟩
    obtain ⟨a, c, rfl⟩ := ho.len
    exact ⟨a, _, c, hu, ho, hf⟩
end
end Go.Proofs.Ytcbbcihfooaggaa
namespace Go.Proofs.Ytcbbcihfooaggaa
open Go.RowKit Go.ChangeShapes
set_option linter.unusedVariables false
section
variable {w1 w7 : World} {gd s d f : Nat} {dv : Dv} {rv uv : Value} {xs ys : List Value} {E : List Ent}
theorem wpList_growB (h : Kp8 w1 w7 gd s d f dv rv uv xs ys E) (x : Value) (hx1 : x.oneCell' = true) (m1 : Nat) (hm : xs.length + 1 = m1) (hm6 : m1 ≤ 1000) {ops : Array Oper} {rest : List Oper} {o : Oper} {a : Act} {Q : Exit → Act → World → Prop} (hgd : o.guard = none) (so xo : Operand)
    (hop : o.op = Op.call { callee := Callee.builtin Builtin.append, args := #[so, xo], argTypes := #[69, 69] })
    (hs : a.eval so = rv) (hx : a.eval xo = .slice (some ⟨w7.heap.size, 0, none⟩) 1 1)
    (hK : ∀ a8 c8 w8, Kp8 w1 w8 gd s d f dv (.slice a8 m1 c8) uv (xs ++ [x]) ys E → wpList Try.prog ops Q rest (a.put o.dst (.slice a8 m1 c8)) w8) : wpList Try.prog ops Q (o :: rest) a (w7.alloc (.cells #[x] 40)) := by
  have h8 : Kp8 w1 (w7.alloc (.cells #[x] 40)) gd s d f dv rv uv xs ys E := h.quiet ((Fr.refl _ _).alloc _)
  refine wpList_append_t (T := 40) Try.underlying69 infoB1 rfl (by decide) (z := w1.heap.size) _ hgd so xo hop rv (.slice (some ⟨w7.heap.size, 0, none⟩) 1 1) xs [x] hs hx h8.rows (Elems.ofBlock (c := [x]) (heap_alloc_new _ _) rfl) (fun u hu => by rw [List.mem_singleton.1 hu]; exact hx1) h8.fr.size (by simp only [List.length_singleton]; omega) ?_
  intro v8 w8 r1 r2 r3 r4 r5
  have h9 := h8.growB r1 r2 r5
  obtain ⟨a8, c8, hv8, -⟩ := r1.row.form
  rw [List.length_append, List.length_singleton, hm] at hv8
  subst hv8
  exact hK _ _ _ h9
theorem wpList_growR (h : Kp8 w1 w7 gd s d f dv rv uv xs ys E) (x : Value) (hx1 : x.oneCell' = true) (m1 : Nat) (hm : ys.length + 1 = m1) (hm6 : m1 ≤ 1000) {ops : Array Oper} {rest : List Oper} {o : Oper} {a : Act} {Q : Exit → Act → World → Prop} (hgd : o.guard = none) (so xo : Operand)
    (hop : o.op = Op.call { callee := Callee.builtin Builtin.append, args := #[so, xo], argTypes := #[71, 71] })
    (hs : a.eval so = uv) (hx : a.eval xo = .slice (some ⟨w7.heap.size, 0, none⟩) 1 1)
    (hK : ∀ a8 c8 w8, Kp8 w1 w8 gd s d f dv rv (.slice a8 m1 c8) xs (ys ++ [x]) E → wpList Try.prog ops Q rest (a.put o.dst (.slice a8 m1 c8)) w8) : wpList Try.prog ops Q (o :: rest) a (w7.alloc (.cells #[x] 24)) := by
  have h8 : Kp8 w1 (w7.alloc (.cells #[x] 24)) gd s d f dv rv uv xs ys E := h.quiet ((Fr.refl _ _).alloc _)
  refine wpList_append_t (T := 24) Try.underlying71 infoR1 rfl (by decide) (z := w1.heap.size) _ hgd so xo hop uv (.slice (some ⟨w7.heap.size, 0, none⟩) 1 1) ys [x] hs hx h8.runs (Elems.ofBlock (c := [x]) (heap_alloc_new _ _) rfl) (fun u hu => by rw [List.mem_singleton.1 hu]; exact hx1) h8.fr.size (by simp only [List.length_singleton]; omega) ?_
  intro v8 w8 r1 r2 r3 r4 r5
  have h9 := h8.growR r1 r2 r5
  obtain ⟨a8, c8, hv8, -⟩ := r1.row.form
  rw [List.length_append, List.length_singleton, hm] at hv8
  subst hv8
  exact hK _ _ _ h9
theorem wpList_goneB {a8 : Option Addr} {m1 c8 : Nat} (h : Kp8 w1 w7 gd s d f dv (.slice a8 m1 c8) uv xs ys E) (h1 : ∀ u ∈ xs, u.oneCell' = true) (k : Nat) (hm : xs.length = m1) (hk : k < m1) (hm6 : m1 ≤ 1000) {ops : Array Oper} {rest : List Oper} {o : Oper} {a : Act} {Q : Exit → Act → World → Prop} (hgd : o.guard = none) (so xo : Operand)
    (hop : o.op = Op.call { callee := Callee.builtin Builtin.append, args := #[so, xo], argTypes := #[69, 69] })
    (hs : a.eval so = .slice a8 k k) (hx : a.eval xo = .slice (cutLow a8 (k + 1) c8) (m1 - (k + 1)) (c8 - (k + 1)))
    (hK : ∀ a9 c9 w9, Kp8 w1 w9 gd s d f dv (.slice a9 (m1 - 1) c9) uv (xs.take k ++ xs.drop (k + 1)) ys E → wpList Try.prog ops Q rest (a.put o.dst (.slice a9 (m1 - 1) c9)) w9) : wpList Try.prog ops Q (o :: rest) a w7 := by
  have h8 := h.cutB k (by omega)
  have he := h.rows.row.elems.cutLow (k + 1) (by rw [List.length_map]; omega)
  rw [← List.map_drop] at he
  refine wpList_append_t (T := 40) Try.underlying69 infoB1 rfl (by decide) (z := w1.heap.size) _ hgd so xo hop (.slice a8 k k) _ (xs.take k) (xs.drop (k + 1)) hs hx h8.rows he (fun u hu => h1 u (List.mem_of_mem_drop hu)) h.fr.size (by rw [List.length_take, List.length_drop]; omega) ?_
  intro v8 w8 r1 r2 r3 r4 r5
  have h9 := h8.growB r1 r2 r5
  obtain ⟨a9, c9, hv8, -⟩ := r1.row.form
  rw [List.length_append, List.length_take, List.length_drop, show min k xs.length + (xs.length - (k + 1)) = m1 - 1 by omega] at hv8
  subst hv8
  exact hK _ _ _ h9
theorem wpList_goneR {a8 : Option Addr} {m1 c8 : Nat} (h : Kp8 w1 w7 gd s d f dv rv (.slice a8 m1 c8) xs ys E) (h1 : ∀ u ∈ ys, u.oneCell' = true) (k : Nat) (hm : ys.length = m1) (hk : k < m1) (hm6 : m1 ≤ 1000) {ops : Array Oper} {rest : List Oper} {o : Oper} {a : Act} {Q : Exit → Act → World → Prop} (hgd : o.guard = none) (so xo : Operand)
    (hop : o.op = Op.call { callee := Callee.builtin Builtin.append, args := #[so, xo], argTypes := #[71, 71] })
    (hs : a.eval so = .slice a8 k k) (hx : a.eval xo = .slice (cutLow a8 (k + 1) c8) (m1 - (k + 1)) (c8 - (k + 1)))
    (hK : ∀ a9 c9 w9, Kp8 w1 w9 gd s d f dv rv (.slice a9 (m1 - 1) c9) xs (ys.take k ++ ys.drop (k + 1)) E → wpList Try.prog ops Q rest (a.put o.dst (.slice a9 (m1 - 1) c9)) w9) : wpList Try.prog ops Q (o :: rest) a w7 := by
  have h8 := h.cutR k (by omega)
  have he := h.runs.row.elems.cutLow (k + 1) (by rw [List.length_map]; omega)
  rw [← List.map_drop] at he
  refine wpList_append_t (T := 24) Try.underlying71 infoR1 rfl (by decide) (z := w1.heap.size) _ hgd so xo hop (.slice a8 k k) _ (ys.take k) (ys.drop (k + 1)) hs hx h8.runs he (fun u hu => h1 u (List.mem_of_mem_drop hu)) h.fr.size (by rw [List.length_take, List.length_drop]; omega) ?_
  intro v8 w8 r1 r2 r3 r4 r5
  have h9 := h8.growR r1 r2 r5
  obtain ⟨a9, c9, hv8, -⟩ := r1.row.form
  rw [List.length_append, List.length_take, List.length_drop, show min k ys.length + (ys.length - (k + 1)) = m1 - 1 by omega] at hv8
  subst hv8
  exact hK _ _ _ h9
def Cr8 (w0 W w' : World) (gd s : Nat) (dv : Dv) (rv uv : Value) (E : List Ent) : Prop :=
  ∃ D, DevAt W D gd s dv ∧ (∀ k, D k → (w0.heap.size ≤ k ∧ k < W.heap.size) ∧ rv.ownBlock ≠ some k ∧ uv.ownBlock ≠ some k ∧ ∀ e ∈ E, e.y.ownBlock ≠ some k) ∧ DevAt w' (More D W) gd s dv.crash.2 ∧ Fr D W w'
theorem Kp8.crash_any (h : Kp8 w1 w7 gd s d f dv rv uv xs ys E) : Calls Try.prog 38 #[.pointer (some ⟨gd, 0, none⟩)] w7 fun e w' => e = .returned (.int .i64 dv.crash.1) ∧ Cr8 w1 w7 w' gd s dv rv uv E := by
  obtain ⟨D, hD, h2⟩ := h.dev
  refine (aCrash w7 gd s dv hD).mono ?_
  rintro e w' ⟨he, hd', hf⟩
  exact ⟨he, D, hD, h2, hd', hf⟩
theorem Kp8.wake_any (h : Kp8 w1 w7 gd s d f dv rv uv xs ys E) {w8 : World} (hc : Cr8 w1 w7 w8 gd s dv rv uv E) : Calls Try.prog 33 #[.pointer (some ⟨gd, 0, none⟩), .int .i64 0] w8 fun e w' => e = .returned (.int .i64 (dv.crash.2.wake 0).1) ∧ Kp8 w1 w' gd s d f (dv.crash.2.wake 0).2 rv uv xs ys E := by
  obtain ⟨D, hD, h2, hd', hf⟩ := hc
  have hw : dv.crash.2.waits = [] := by
    unfold Dv.crash
    split
    · exact h.keeps.waits
    · exact h.keeps.waits
  refine (aWake w8 gd s dv.crash.2 0 (by decide) (by decide) (by rw [hw]; simp) hd').mono ?_
  rintro e w' ⟨he, hd2, hf2⟩
  refine ⟨he, h.turned hD h2 (Fr.refl _ _) (hd2.mono (fun k _ hk => ?_)) (hf.trans hf2 (fun k hk => hk)) (h.keeps.woken 0) (fun e he => .inl he)⟩
  rcases hk with hk | hk
  · exact hk
  · exact .inr (Nat.le_trans hf.size hk)
end
end Go.Proofs.Ytcbbcihfooaggaa
namespace Go.Proofs.Ytcbbcihfooaggaa
open Go.RowKit Go.ChangeShapes Go.WideShapes Go.Deep
set_option linter.unusedVariables false
theorem u8_of_wf {n : Int} (h : (Lit.int .u8 n).wf = true) : ((UInt8.ofNat n.toNat).toNat : Int) = n := by
  obtain ⟨h0, h1⟩ := bounds_u8 h
  rw [UInt8.toNat_ofNat']
  omega
theorem Try.cellsB : Try.prog.cellsOf 5 = 1 := by kernel_rfl
theorem Try.bytesB : Try.prog.bytesOf 5 = 1 := by kernel_rfl
section
variable {H : Type} {enc : TypeId × Value → H} {w : World} {base fuel : Nat} {held : Bool} {cs : List Value} {x : DataW H × List MemPlace}
theorem open_bytes (h : DataW.trod enc Try.prog w base (fun _ => true) held fuel 40 cs = some x) (hz : ∀ n ∈ x.1.weights Try.prog 40, n ≤ reachBytes) :
    ∃ v L, cs = [v] ∧ BytesIn (fun k => k < w.heap.size) w v L ∧ L.length ≤ 140737488351232 := by
  rcases open_ints Try.underlying40 Try.underlying5 Try.cellsB h with ⟨rfl, _⟩ | ⟨a, len, cap, zs, rfl, _, hl, hm, hzl, hx, hc, hwf⟩
  · exact ⟨_, [], rfl, BytesIn.nil _ _, by simp⟩
  · simp only [if_true] at hzl
    have hlen : ((zs.take len).map fun z => UInt8.ofNat z.toNat).length = len := by rw [List.length_map, List.length_take]; omega
    refine ⟨_, (zs.take len).map fun z => UInt8.ofNat z.toNat, rfl, ⟨some a, cap, by rw [hlen], by rw [hlen]; exact hl, hm, (fun h => by cases h), ?_⟩, ?_⟩
    · intro a' ha
      cases ha
      refine ⟨fun j u hu => ?_, fun hL => ?_⟩
      · have hj : j < len := by have := (List.getElem?_eq_some_iff.1 hu).1; rw [List.length_map, hlen] at this; exact this
        have hjz : j < zs.length := by omega
        rw [hc j hjz]
        have hmem := hwf (zs[j]) (List.getElem_mem _)
        rw [List.getElem?_map, List.getElem?_map, List.getElem?_take, if_pos hj, List.getElem?_eq_getElem hjz] at hu
        simp only [Option.map_some, Option.some.injEq] at hu
        rw [← hu, bv, u8_of_wf hmem]
        simp [List.getD, List.getElem?_eq_getElem hjz]
      · have hp : 0 < len := by have := List.length_pos_iff.2 hL; omega
        have := World.block_lt_of_cell? _ _ (hc 0 (by omega))
        rwa [add_block] at this
    · rw [hlen]
      have := hz ((zs.take len).length + (zs.drop len).length) (by rw [hx]; simp [DataW.weights, Try.underlying40, Try.bytesB, lits])
      rw [List.length_take, List.length_drop] at this
      simp only [reachBytes] at this
      omega
theorem mem_weightsAll {P : Program} {e : TypeId} : ∀ {ds : List (DataW H)} {d : DataW H}, d ∈ ds → ∀ n ∈ d.weights P e, n ∈ DataW.weightsAll P e ds
  | d0 :: ds, d, hd, n, hn => by
    simp only [DataW.weightsAll, List.mem_append]
    rcases List.mem_cons.1 hd with rfl | hd
    · exact .inl hn
    · exact .inr (mem_weightsAll hd n hn)
end
end Go.Proofs.Ytcbbcihfooaggaa
namespace Go.Proofs.Ytcbbcihfooaggaa
open Go.RowKit Go.ChangeShapes Go.WideShapes Go.Deep
set_option linter.unusedVariables false
section
variable {H : Type} {enc : TypeId × Value → H} {w : World} {base fuel : Nat} {held : Bool} {cs : List Value} {x : DataW H × List MemPlace}
theorem list3 {α : Type} {l : List α} (h : l.length = 3) : ∃ a b c, l = [a, b, c] := by
  match l, h with
  | [a, b, c], _ => exact ⟨a, b, c, rfl⟩
theorem Try.cellsSh : Try.prog.cellsOf 23 = 3 := by kernel_rfl
theorem Try.cellsI : Try.prog.cellsOf 3 = 1 := by kernel_rfl
theorem open_shape (h : DataW.trod enc Try.prog w base (fun _ => true) held fuel 23 cs = some x) :
    ∃ L A D : Int, cs = [.int .i64 L, .int .i64 A, .int .i64 D] := by
  obtain ⟨xs, m, _, hy, hcl, hxl, hf⟩ := DataW.trod_struct Try.underlying23 h
  rw [Try.cellsSh] at hcl
  obtain ⟨c0, c1, c2, rfl⟩ := list3 hcl
  obtain ⟨y0, y1, y2, rfl⟩ := list3 (l := xs) hxl
  have e0 : DataW.trod enc Try.prog w base (fun _ => true) held m 3 [c0] = some y0 := by
    have h : DataW.trod enc Try.prog w base (fun _ => true) held m 3 (([c0, c1, c2].drop 0).take (Try.prog.cellsOf 3)) = some y0 := hf 0 _ rfl
    rw [Try.cellsI] at h
    exact h
  have e1 : DataW.trod enc Try.prog w base (fun _ => true) held m 3 [c1] = some y1 := by
    have h : DataW.trod enc Try.prog w base (fun _ => true) held m 3 (([c0, c1, c2].drop 1).take (Try.prog.cellsOf 3)) = some y1 := hf 1 _ rfl
    rw [Try.cellsI] at h
    exact h
  have e2 : DataW.trod enc Try.prog w base (fun _ => true) held m 3 [c2] = some y2 := by
    have h : DataW.trod enc Try.prog w base (fun _ => true) held m 3 (([c0, c1, c2].drop 2).take (Try.prog.cellsOf 3)) = some y2 := hf 2 _ rfl
    rw [Try.cellsI] at h
    exact h
  obtain ⟨n0, r0, _, w0⟩ := DataW.trod_int Try.underlying3 e0
  obtain ⟨n1, r1, _, w1⟩ := DataW.trod_int Try.underlying3 e1
  obtain ⟨n2, r2, _, w2⟩ := DataW.trod_int Try.underlying3 e2
  simp only [List.cons.injEq, and_true] at r0 r1 r2
  subst r0 r1 r2
  exact ⟨n0, n1, n2, rfl⟩
end
end Go.Proofs.Ytcbbcihfooaggaa
namespace Go.Proofs.Ytcbbcihfooaggaa
open Go.RowKit Go.ChangeShapes Go.WideShapes Go.Deep
set_option linter.unusedVariables false
def RowsIn (F : Nat → Prop) (w : World) (v : Value) (P : List (List UInt8)) : Prop :=
  ∃ ao cap, v = .slice ao P.length cap ∧ P.length ≤ cap ∧ cap ≤ 9223372036854775807 ∧ (∀ X ∈ P, X.length ≤ 140737488351232) ∧
    (P ≠ [] → ∃ b off, ao = some ⟨b, off, none⟩ ∧ F b ∧ ∀ i (h : i < P.length), ∃ x, w.cell? ⟨b, off + i, none⟩ = some x ∧ BytesIn F w x P[i])
theorem RowsIn.keep {F S : Nat → Prop} {w w' : World} {v : Value} {P : List (List UInt8)} (h : RowsIn F w v P) (hf : Fr S w w') (hd : ∀ k, k < w.heap.size → F k → ¬ S k) : RowsIn F w' v P := by
  obtain ⟨ao, cap, hv, h1, h2, h3, h4⟩ := h
  refine ⟨ao, cap, hv, h1, h2, h3, fun hl => ?_⟩
  obtain ⟨b, off, ha, hF, hi⟩ := h4 hl
  refine ⟨b, off, ha, hF, fun i h => ?_⟩
  obtain ⟨x, hx, hb⟩ := hi i h
  exact ⟨x, hf.cell hx (hd b (World.block_lt_of_cell? _ _ hx) hF), hb.keep hf hd⟩
def IntsIn (F : Nat → Prop) (w : World) (v : Value) (l : List Int) : Prop :=
  ∃ ao cap, v = .slice ao l.length cap ∧ l.length ≤ cap ∧ l.length * 8 ≤ 140737488351232 ∧ (∀ x ∈ l, -9223372036854775808 ≤ x ∧ x ≤ 9223372036854775807) ∧
    (l ≠ [] → ∃ b off, ao = some ⟨b, off, none⟩ ∧ F b ∧ ∀ i (h : i < l.length), w.cell? ⟨b, off + i, none⟩ = some (.int .i64 l[i]))
theorem IntsIn.keep {F S : Nat → Prop} {w w' : World} {v : Value} {l : List Int} (h : IntsIn F w v l) (hf : Fr S w w') (hd : ∀ k, k < w.heap.size → F k → ¬ S k) : IntsIn F w' v l := by
  obtain ⟨ao, cap, hv, h1, h2, h3, h4⟩ := h
  refine ⟨ao, cap, hv, h1, h2, h3, fun hl => ?_⟩
  obtain ⟨b, off, ha, hF, hi⟩ := h4 hl
  exact ⟨b, off, ha, hF, fun i h => hf.cell (hi i h) (hd b (World.block_lt_of_cell? _ _ (hi i h)) hF)⟩
theorem Try.cellsBB : Try.prog.cellsOf 40 = 1 := by kernel_rfl
theorem Try.bytesBB : Try.prog.bytesOf 40 = 24 := by kernel_rfl
theorem addr_add0 (a : Addr) : a.add 0 = a := by
  obtain ⟨b, o, s⟩ := a
  unfold Addr.add
  cases s <;> simp
section
variable {H : Type} {enc : TypeId × Value → H} {w : World} {base fuel : Nat} {held : Bool} {cs : List Value} {x : DataW H × List MemPlace}
theorem open_rows (h : DataW.trod enc Try.prog w base (fun _ => true) held fuel 69 cs = some x) (hz : ∀ n ∈ x.1.weights Try.prog 69, n ≤ reachBytes) :
    ∃ v P, cs = [v] ∧ RowsIn (fun k => k < w.heap.size) w v P ∧ P.length ≤ 140737488351232 := by
  rcases open_slice Try.underlying69 h with ⟨rfl, _⟩ | ⟨a, len, cap, m, n, D, Pl, rfl, _, hl, hm, hmm, hx, hi⟩
  · exact ⟨_, [], rfl, ⟨none, 0, rfl, Nat.le_refl _, by omega, by simp, fun h => absurd rfl h⟩, by simp⟩
  · simp only [if_true] at hmm
    subst hmm
    rw [Try.cellsBB] at hi
    have hw : ∀ k ∈ DataW.weightsAll Try.prog 40 ((List.range len).map D), k ≤ reachBytes := fun k hk => hz k (by
      rw [hx]; simp only [DataW.weights, Try.underlying69, List.mem_cons, List.mem_append]; exact .inr (.inl hk))
    have hm : m * 24 ≤ 140737488351232 := by
      have := hz ((len + (m - len)) * 24) (by rw [hx]; simp [DataW.weights, Try.underlying69, Try.bytesBB])
      simp only [reachBytes] at this
      omega
    by_cases h0 : len = 0
    · subst h0
      exact ⟨_, [], rfl, ⟨some a, m, rfl, Nat.zero_le _, by omega, by simp, fun h => absurd rfl h⟩, by simp⟩
    · obtain ⟨b, off, spot⟩ := a
      have hone' : ∀ i, i < len → ∃ c, w.cell? ((⟨b, off, spot⟩ : Addr).add (i * 1)) = some c ∧ DataW.trod enc Try.prog w base (fun _ => true) held n 40 [c] = some (D i, Pl i) := by
        intro i hil
        obtain ⟨cs', hc, ht⟩ := hi i (by omega)
        obtain ⟨_, hcl, hat⟩ := World.cells?_some hc
        obtain ⟨c, rfl⟩ : ∃ c, cs' = [c] := List.length_eq_one_iff.1 hcl
        refine ⟨c, ?_, ht⟩
        have := hat 0 (by decide)
        simpa [addr_add0] using this
      have hs : spot = none := by
        obtain ⟨c, hc, _⟩ := hone' 0 (by omega)
        simpa [Addr.add] using World.cell?_spot hc
      subst hs
      have hone : ∀ i, ∃ q : Value × List UInt8, i < len → w.cell? ⟨b, off + i, none⟩ = some q.1 ∧ BytesIn (fun k => k < w.heap.size) w q.1 q.2 ∧ q.2.length ≤ 140737488351232 := by
        intro i
        by_cases hil : i < len
        · obtain ⟨c, hc, ht⟩ := hone' i hil
          rw [addr_plain, Nat.mul_one] at hc
          obtain ⟨v, L, e, hB, hL⟩ := open_bytes ht (fun k hk => hw k (mem_weightsAll (List.mem_map_of_mem (List.mem_range.2 hil)) k hk))
          simp only [List.cons.injEq, and_true] at e
          subst e
          exact ⟨(_, L), fun _ => ⟨hc, hB, hL⟩⟩
        · exact ⟨(.nilFunc, []), fun h => absurd h hil⟩
      obtain ⟨f, hf⟩ := Classical.axiomOfChoice hone
      have hlen : ((List.range len).map fun i => (f i).2).length = len := by simp
      have hbk : b < w.heap.size := World.block_lt_of_cell? _ _ (hf 0 (by omega)).1
      refine ⟨_, (List.range len).map fun i => (f i).2, rfl, ⟨some ⟨b, off, none⟩, m, by rw [hlen], by rw [hlen]; exact hl, by omega, ?_, fun _ => ⟨b, off, rfl, hbk, fun i hi => ?_⟩⟩, by rw [hlen]; omega⟩
      · intro p hp
        obtain ⟨i, hi, rfl⟩ := List.mem_map.1 hp
        exact (hf i (List.mem_range.1 hi)).2.2
      · have : i < len := by omega
        refine ⟨(f i).1, (hf i this).1, ?_⟩
        simpa using (hf i this).2.1
theorem Try.bytesI9 : Try.prog.bytesOf 3 = 8 := by kernel_rfl
theorem open_ints (h : DataW.trod enc Try.prog w base (fun _ => true) held fuel 66 cs = some x) (hz : ∀ n ∈ x.1.weights Try.prog 66, n ≤ reachBytes) :
    ∃ v l, cs = [v] ∧ IntsIn (fun k => k < w.heap.size) w v l := by
  rcases open_slice Try.underlying66 h with ⟨rfl, _⟩ | ⟨a, len, cap, m, n, D, Pl, rfl, _, hl, hm, hmm, hx, hi⟩
  · exact ⟨_, [], rfl, ⟨none, 0, rfl, Nat.le_refl _, by simp, (fun _ h => by cases h), fun h => absurd rfl h⟩⟩
  · simp only [if_true] at hmm
    subst hmm
    rw [Try.cellsI] at hi
    have hm8 : m * 8 ≤ 140737488351232 := by
      have := hz ((len + (m - len)) * 8) (by rw [hx]; simp [DataW.weights, Try.underlying66, Try.bytesI9])
      simp only [reachBytes] at this
      omega
    by_cases h0 : len = 0
    · subst h0
      exact ⟨_, [], rfl, ⟨some a, m, rfl, Nat.zero_le _, by simp, (fun _ h => by cases h), fun h => absurd rfl h⟩⟩
    · obtain ⟨b, off, spot⟩ := a
      have hone' : ∀ i, i < len → ∃ c, w.cell? ((⟨b, off, spot⟩ : Addr).add (i * 1)) = some c ∧ DataW.trod enc Try.prog w base (fun _ => true) held n 3 [c] = some (D i, Pl i) := by
        intro i hil
        obtain ⟨cs', hc, ht⟩ := hi i (by omega)
        obtain ⟨_, hcl, hat⟩ := World.cells?_some hc
        obtain ⟨c, rfl⟩ : ∃ c, cs' = [c] := List.length_eq_one_iff.1 hcl
        refine ⟨c, ?_, ht⟩
        have := hat 0 (by decide)
        simpa [addr_add0] using this
      have hs : spot = none := by
        obtain ⟨c, hc, _⟩ := hone' 0 (by omega)
        simpa [Addr.add] using World.cell?_spot hc
      subst hs
      have hone : ∀ i, ∃ q : Int, i < len → w.cell? ⟨b, off + i, none⟩ = some (.int .i64 q) ∧ -9223372036854775808 ≤ q ∧ q ≤ 9223372036854775807 := by
        intro i
        by_cases hil : i < len
        · obtain ⟨c, hc, ht⟩ := hone' i hil
          rw [addr_plain, Nat.mul_one] at hc
          obtain ⟨q, e, _, hw⟩ := DataW.trod_int Try.underlying3 ht
          simp only [List.cons.injEq, and_true] at e
          subst e
          have := bounds_i64 hw
          exact ⟨q, fun _ => ⟨hc, this.1, this.2⟩⟩
        · exact ⟨0, fun h => absurd h hil⟩
      obtain ⟨f, hf⟩ := Classical.axiomOfChoice hone
      have hlen : ((List.range len).map f).length = len := by simp
      have hbk : b < w.heap.size := World.block_lt_of_cell? _ _ (hf 0 (by omega)).1
      refine ⟨_, (List.range len).map f, rfl, ⟨some ⟨b, off, none⟩, m, by rw [hlen], by rw [hlen]; exact hl, by rw [hlen]; omega, ?_, fun _ => ⟨b, off, rfl, hbk, fun i hi => ?_⟩⟩⟩
      · intro p hp
        obtain ⟨i, hi, rfl⟩ := List.mem_map.1 hp
        exact (hf i (List.mem_range.1 hi)).2
      · have : i < len := by omega
        simpa using (hf i this).1
end
end Go.Proofs.Ytcbbcihfooaggaa
