/- Laid together: BWrS BRdS -/
import Derived.Test.YtcbbcihfooaggaaBk13
import Derived.Test.YtcbbcihfooaggaaBk8
import Derived.Test.YtcbbcihfooaggaaBk10

namespace Go.Proofs.Ytcbbcihfooaggaa
open Go.RowKit Go.ChangeShapes
set_option linter.unusedVariables false
theorem run_hi7 (w : World) (ao : Option Addr) (l cap n : Nat) (hn : n ≤ cap) : (Instr.sliceAt 40 (.slice ao l cap) none (some (.int .i64 (n : Int))) none).run Try.prog w = .ok (.slice ao n cap) w := by
  have hs : ∀ w, (sizeOf 5).run Try.prog w = .ok 1 w := fun w => by kernel_rfl
  cases ao <;> simp [Instr.sliceAt, Instr.slice, run_underlying Try.underlying40, Instr.sliceBounds, run_sliceBound, hs, hn, Addr.add]
def DevB (w : World) (k : Nat) : Prop := ∃ cs T fr, w.heap[k]? = some (.cells cs T fr) ∧ T ≠ 68
theorem DevB.noRun {w : World} {k : Nat} (h : DevB w k) : ¬ RunB w k := by
  obtain ⟨cs, T, fr, h1, h2⟩ := h
  rintro ⟨cs', fr', h3⟩
  rw [h1] at h3
  simp only [Option.some.injEq, Obj.cells.injEq] at h3
  exact h2 h3.2.1
theorem DevB.lt {w : World} {k : Nat} (h : DevB w k) : k < w.heap.size := by obtain ⟨cs, T, fr, h1, _⟩ := h; exact lt_of_block h1
theorem DevB.noWalk {w : World} {k : Nat} {o : Obj} (h : DevB w k) (ho : w.heap[k]? = some o) (hc : o.isCells = false) : False := by
  obtain ⟨cs, T, fr, h1, _⟩ := h
  rw [h1] at ho
  cases ho
  cases hc
theorem DevAt.cut {D E : Nat → Prop} {w : World} {g s : Nat} {d : Dv} (h : DevAt w D g s d) (hE : ∀ k, D k → E k) : DevAt w (fun k => E k ∧ DevB w k) g s d := by
  obtain ⟨F, kb, vw, hm, hD⟩ := h
  obtain ⟨hg, hk⟩ := hm.lt
  obtain ⟨l, h1, h2, h3, hh⟩ := hm.head
  have hwr : WrAt (fun k => F k ∧ DevB w k) w vw d.waits := by
    refine ⟨hm.wr.1, fun b hb => ⟨hm.wr.2 b hb, ?_⟩⟩
    rcases hm.wr.1.2 with ⟨e, _⟩ | ⟨b', cap, cur, hv, _, hb', _⟩
    · rw [e] at hb; simp [Value.ownBlock] at hb
    · rw [hv] at hb
      simp only [Value.ownBlock, Option.some.injEq] at hb
      subst hb
      exact ⟨_, _, _, hb', by decide⟩
  have h9 := hh
  unfold DvH at h9
  have h8 := hm.kept
  unfold BytT at h8
  refine ⟨_, kb, vw, ⟨⟨l, h1, h2, h3, hh⟩, hm.kept, hwr, hm.right, ⟨hm.sep.1, fun h => hm.sep.2.1 h.1, fun h => hm.sep.2.2 h.1⟩, hm.small⟩, fun k hk' => ?_⟩
  rcases hk' with rfl | rfl | hk'
  · exact ⟨hE _ (hD _ (.inl rfl)), _, _, _, h9, by decide⟩
  · exact ⟨hE _ (hD _ (.inr (.inl rfl))), _, _, _, h8, by decide⟩
  · exact ⟨hE _ (hD _ (.inr (.inr hk'.1))), hk'.2⟩
theorem keepsFrom_dev {S : Nat → Prop} {n0 : Nat} {W W' : World} (h : Fr S W W') (hS : ∀ k, S k → DevB W k) : KeepsFrom n0 W W' :=
  ⟨h.size, fun k o hB hk hc => h.heap hk (fun hs => (hS k hs).noWalk hk hc)⟩
abbrev Dn (D : Nat → Prop) (z0 z : Nat) : Nat → Prop := fun k => (D k ∧ k < z0) ∨ z ≤ k
structure WtSt (D G : Nat → Prop) (W7 W : World) (z0 g s f0 b4 b6 b8 b10 n : Nat) (dv : Dv) (b : List UInt8) (pre : List Nat) : Prop where
  p4 : W.heap[b4]? = some (.cells #[.pointer (some ⟨g, 0, none⟩)] 43 (0, 0))
  p6 : ∃ a c, W.heap[b6]? = some (.cells #[.slice a (n - 64 * pre.length) c] 40 (0, 0)) ∧ BytesIn G W (.slice a (n - 64 * pre.length) c) (b.drop (64 * pre.length))
  p8 : ∃ x, W.heap[b8]? = some (.cells #[.int .i64 x] 27 (0, 0))
  p10 : W.heap[b10]? = some (.cells #[.int .i64 (f0 : Nat)] 3 (0, 0))
  ok : (dv.wp7 s f0 pre b).1 = 0
  dev : DevAt W (fun k => Dn D z0 W7.heap.size k ∧ DevB W k) g s (dv.wp7 s f0 pre b).2
  fr : Fr (fun k => Dn D z0 W7.heap.size k ∨ k = b6 ∨ k = b8) W7 W
structure WtOut (D : Nat → Prop) (W7 W : World) (z0 g s b6 b8 : Nat) (r : Int × Dv) : Prop where
  p8 : W.heap[b8]? = some (.cells #[.int .i64 r.1] 27 (0, 0))
  dev : DevAt W (fun k => Dn D z0 W7.heap.size k ∧ DevB W k) g s r.2
  fr : Fr (fun k => Dn D z0 W7.heap.size k ∨ k = b6 ∨ k = b8) W7 W
section
variable {D G : Nat → Prop} {W7 W W' : World} {z0 g s f0 b4 b6 b8 b10 n : Nat} {dv : Dv} {b : List UInt8} {pre : List Nat} {r : Int × Dv}
theorem keep_dev {S : Nat → Prop} {E : Nat → Prop} {d : Dv} (h : DevAt W (fun k => E k ∧ DevB W k) g s d) (hf : Fr S W W') (hS : ∀ k, E k → DevB W k → ¬ S k) : DevAt W' (fun k => E k ∧ DevB W' k) g s d :=
  (h.keep hf (fun k _ hk => hS k hk.1 hk.2)).cut (fun k hk => hk.1)
theorem WtSt.grown {B : Nat} {row : Option Nat} (h : WtSt D G W7 W z0 g s f0 b4 b6 b8 b10 n dv b pre) (hb : b4 < B ∧ b6 < B ∧ b8 < B ∧ b10 < B ∧ W7.heap.size ≤ B) (hG : ∀ k, G k → k < B)
    (hg : W.grownBy W' row) (hr : ∀ r, row = some r → B ≤ r ∧ ∃ o : Obj, W.heap[r]? = some o ∧ o.isCells = false) : WtSt D G W7 W' z0 g s f0 b4 b6 b8 b10 n dv b pre := by
  have hf : Fr (fun k => row = some k) W W' := (Fr.refl _ W).grown hg (fun k hk => .inl hk)
  have hn : ∀ k, k < B → ¬ row = some k := fun k hk e => by have := (hr k e).1; omega
  obtain ⟨a, c, h6, h7⟩ := h.p6
  obtain ⟨x, h8⟩ := h.p8
  exact ⟨hf.heap h.p4 (hn _ hb.1), ⟨a, c, hf.heap h6 (hn _ hb.2.1), h7.keep hf (fun k _ hk => hn k (hG k hk))⟩, ⟨x, hf.heap h8 (hn _ hb.2.2.1)⟩, hf.heap h.p10 (hn _ hb.2.2.2.1), h.ok,
    keep_dev h.dev hf (fun k _ hk e => by obtain ⟨_, o, ho, hc⟩ := hr k e; exact hk.noWalk ho hc), h.fr.trans hf (fun k e => .inl (.inl (.inr (by have := (hr k e).1; omega))))⟩
theorem WtOut.grown {B : Nat} {row : Option Nat} (h : WtOut D W7 W z0 g s b6 b8 r) (hb : b8 < B ∧ W7.heap.size ≤ B)
    (hg : W.grownBy W' row) (hr : ∀ r, row = some r → B ≤ r ∧ ∃ o : Obj, W.heap[r]? = some o ∧ o.isCells = false) : WtOut D W7 W' z0 g s b6 b8 r := by
  have hf : Fr (fun k => row = some k) W W' := (Fr.refl _ W).grown hg (fun k hk => .inl hk)
  have hn : ∀ k, k < B → ¬ row = some k := fun k hk e => by have := (hr k e).1; omega
  exact ⟨hf.heap h.p8 (hn _ hb.1), keep_dev h.dev hf (fun k _ hk e => by obtain ⟨_, o, ho, hc⟩ := hr k e; exact hk.noWalk ho hc), h.fr.trans hf (fun k e => .inl (.inl (.inr (by have := (hr k e).1; omega))))⟩
theorem WtOut.leave {w : World} (h : WtOut D W7 W z0 g s b6 b8 r) {m : Nat} {tmps : Array Value} {R : Ending → World → Prop} {Ds : List Deferred} {ks : List Nat} (hM : MarksOk W7.heap.size Ds ks W) (hp : tmps.getD 8 undef = .pointer (some ⟨b8, 0, none⟩)) (hw : Fr (fun _ => False) w W7) (hz : z0 = w.heap.size) (hz8 : z0 ≤ b6 ∧ z0 ≤ b8)
    (hR : ∀ W', DevAt W' (More D w) g s r.2 → Fr D w W' → R (.returned (.int .i64 r.1)) W') : LeavesInM Fence.wide m Try.prog Try.f24 tmps R Ds .returning W :=
  leaves_marks (by simp) W7.heap.size ks Ds W hM (fun W' hW => by
    have h8 := hW.heap h.p8 (fun ⟨_, ds, hd⟩ => by rw [h.p8] at hd; cases hd)
    have hsz := hw.size
    refine ⟨_, results_cell1 rfl _ _ b8 _ (by kernel_rfl) hp (cell_of_one h8), hR W' ?_ ?_⟩
    · refine (keep_dev h.dev hW (fun k _ hk ⟨_, ds, hd⟩ => hk.noWalk hd rfl)).mono (fun k _ hk => ?_)
      rcases hk.1 with hk | hk
      · exact .inl hk.1
      · exact .inr (by omega)
    · refine ((hw.mono (T := D) (fun _ _ h => h.elim)).trans h.fr (fun k hk => ?_)).trans hW (fun k hk => .inr (by have := hk.1; omega))
      rcases hk with (hk | hk) | hk | hk
      · exact .inl hk.1
      · exact .inr (by omega)
      · exact .inr (by omega)
      · exact .inr (by omega))
theorem Fr.dn {W8 : World} (hf : Fr (fun k => Dn D z0 W7.heap.size k ∧ DevB W k) W W8) (h : Fr (fun k => Dn D z0 W7.heap.size k ∨ k = b6 ∨ k = b8) W7 W) : Fr (fun k => Dn D z0 W7.heap.size k ∨ k = b6 ∨ k = b8) W7 W8 := h.trans hf (fun k hk => .inl (.inl hk.1))
theorem WtSt.step {W8 : World} {x m : Nat} {a : Option Addr} {c : Nat} (h : WtSt D G W7 W z0 g s f0 b4 b6 b8 b10 n dv b pre) (h6 : W.heap[b6]? = some (.cells #[.slice a (n - 64 * pre.length) c] 40 (0, 0))) (h7 : BytesIn G W (.slice a (n - 64 * pre.length) c) (b.drop (64 * pre.length))) (hnl : n = b.length)
    (hm : m = min (n - 64 * pre.length) 64) (hb : z0 ≤ b4 ∧ z0 ≤ b6 ∧ z0 ≤ b8 ∧ z0 ≤ b10 ∧ b4 < W7.heap.size ∧ b6 < W7.heap.size ∧ b8 < W7.heap.size ∧ b10 < W7.heap.size ∧ b4 ≠ b6 ∧ b8 ≠ b6 ∧ b10 ≠ b6) (hG : ∀ k, G k → k < z0 ∧ ¬ D k) (hzz : z0 ≤ W7.heap.size) (hW7 : W7.heap.size ≤ W.heap.size)
    (hd : DevAt W8 (More (fun k => Dn D z0 W7.heap.size k ∧ DevB W k) W) g s (dv.wp7 s f0 (pre ++ [x]) b).2) (hok : (dv.wp7 s f0 (pre ++ [x]) b).1 = 0) (hf : Fr (fun k => Dn D z0 W7.heap.size k ∧ DevB W k) W W8) :
    WtSt D G W7 (W8.setCell ⟨b6, 0, none⟩ (.slice (cutLow a m c) (n - 64 * pre.length - m) (c - m))) z0 g s f0 b4 b6 b8 b10 n dv b (pre ++ [x]) := by
  obtain ⟨y, h8⟩ := h.p8
  have hno : ∀ k, z0 ≤ k → k < W7.heap.size → ¬ (Dn D z0 W7.heap.size k ∧ DevB W k) := fun k h1 h2 h3 => by
    rcases h3.1 with h3 | h3
    · have := h3.2; omega
    · omega
  have hf2 := Fr.cell1 W8 b6 0 (.slice (cutLow a m c) (n - 64 * pre.length - m) (c - m))
  have e6 := one_put (hf.heap h6 (hno _ hb.2.1 hb.2.2.2.2.2.1)) (.slice (cutLow a m c) (n - 64 * pre.length - m) (c - m))
  have hlen : (b.drop (64 * pre.length)).length = n - 64 * pre.length := by rw [List.length_drop, ← hnl]
  have hcut := h7.cutLow m (by omega)
  have hsl : (pre ++ [x]).length = pre.length + 1 := by simp
  have hl2 : n - 64 * pre.length - m = n - 64 * (pre ++ [x]).length := by rw [hsl]; omega
  have hdd : (b.drop (64 * pre.length)).drop m = b.drop (64 * (pre ++ [x]).length) := by
    rw [List.drop_drop, hsl]
    by_cases h64 : 64 ≤ n - 64 * pre.length
    · congr 1; omega
    · rw [List.drop_eq_nil_of_le (by omega), List.drop_eq_nil_of_le (by omega)]
  rw [hdd, hl2] at hcut
  rw [hl2] at e6 hf2 ⊢
  have hk1 := hcut.keep hf (fun k hk hg hs => by
    have := hG k hg
    rcases hs.1 with h3 | h3
    · exact this.2 h3.1
    · omega)
  have hk2 := hk1.keep hf2 (fun k hk hg (e : k = b6) => by have := hG k hg; omega)
  refine ⟨hf2.heap (hf.heap h.p4 (hno _ hb.1 hb.2.2.2.2.1)) hb.2.2.2.2.2.2.2.2.1, ⟨_, _, e6, hk2⟩, ⟨y, hf2.heap (hf.heap h8 (hno _ hb.2.2.1 hb.2.2.2.2.2.2.1)) hb.2.2.2.2.2.2.2.2.2.1⟩, hf2.heap (hf.heap h.p10 (hno _ hb.2.2.2.1 hb.2.2.2.2.2.2.2.1)) hb.2.2.2.2.2.2.2.2.2.2, hok, ?_, (hf.dn h.fr).trans hf2 (fun k hk => .inl (.inr (.inl hk)))⟩
  refine keep_dev (hd.cut (E := Dn D z0 W7.heap.size) (fun k hk => ?_)) hf2 (fun k hk _ (e : k = b6) => ?_)
  · rcases hk with hk | hk
    · exact hk.1
    · exact .inr (by omega)
  · rcases hk with hk | hk <;> omega
theorem WtSt.out {W8 : World} {r : Int × Dv} (h : WtSt D G W7 W z0 g s f0 b4 b6 b8 b10 n dv b pre) (hb : z0 ≤ b8 ∧ b8 < W7.heap.size) (hW7 : W7.heap.size ≤ W.heap.size)
    (hd : DevAt W8 (More (fun k => Dn D z0 W7.heap.size k ∧ DevB W k) W) g s r.2) (hf : Fr (fun k => Dn D z0 W7.heap.size k ∧ DevB W k) W W8) :
    WtOut D W7 (W8.setCell ⟨b8, 0, none⟩ (.int .i64 r.1)) z0 g s b6 b8 r := by
  obtain ⟨y, h8⟩ := h.p8
  have hno : ¬ (Dn D z0 W7.heap.size b8 ∧ DevB W b8) := fun h3 => by
    rcases h3.1 with h3 | h3
    · have := h3.2; omega
    · omega
  have hf2 := Fr.cell1 W8 b8 0 (.int .i64 r.1)
  refine ⟨one_put (hf.heap h8 hno) _, keep_dev (hd.cut (E := Dn D z0 W7.heap.size) (fun k hk => ?_)) hf2 (fun k hk _ (e : k = b8) => ?_), (hf.dn h.fr).trans hf2 (fun k hk => .inl (.inr (.inr hk)))⟩
  · rcases hk with hk | hk
    · exact hk.1
    · exact .inr (by omega)
  · rcases hk with hk | hk <;> omega
end
end Go.Proofs.Ytcbbcihfooaggaa
namespace Go.Proofs.Ytcbbcihfooaggaa
open Go.RowKit Go.ChangeShapes
set_option linter.unusedVariables false
theorem run_mk7 (w : World) (n : Nat) (hn : n ≤ 1000000) : (Instr.makeSlice 40 (.int .i64 0) (.int .i64 (n : Int))).run Try.prog w = .ok (.slice (some ⟨w.heap.size, 0, none⟩) 0 n) (w.alloc (.cells (madeCells (Value.int .u8 0).cells n) 5)) := by
  obtain ⟨i0, hi, hz0, hz1, hz2⟩ := info_parts Try.infoB
  have h := run_make (P := Try.prog) w 40 5 i0 (.int .u8 0) Try.underlying40 hi hz0 .i64 .i64 0 (n : Int) (Int.le_refl _) (by omega) (by rw [hz2]; omega) (by omega)
  rw [h, hz1, Int.toNat_natCast, Nat.mul_one]
  rfl
theorem own_mk7 (w : World) (n : Nat) (hn : n ≤ 1000000) : OwnB (fun k => k = w.heap.size) (w.alloc (.cells (madeCells (Value.int .u8 0).cells n) 5)) (.slice (some ⟨w.heap.size, 0, none⟩) 0 n) [] :=
  ⟨World.ownsRow_made w _ n (Nat.zero_le _) (by unfold maxLen; omega) (by rw [size_madeCells]; simp), fun g hg => by simp only [Value.ownBlock, Option.some.injEq] at hg; exact hg.symm⟩
theorem see7_snoc (dv : Dv) (f x : Nat) (P : List Nat) : dv.see7 f (P ++ [x]) = dv.see7 f P ++ dv.seen (f + x) := by simp [Dv.see7]
theorem take_see7 {dv : Dv} {s f x many m cur : Nat} {P : List Nat} (hR : dv.Right s) (hP : ∀ y ∈ P, f + y < s) (hx : f + x < s) (hc : cur = ((dv.see7 f P).take many).length) (hm : m = min 64 (many - cur)) :
    (dv.see7 f (P ++ [x])).take many = (dv.see7 f P).take many ++ (dv.seen (f + x)).take m := by
  have h1 := Dv.seen_length hR hx
  rw [List.length_take] at hc
  rw [see7_snoc, List.take_append]
  congr 1
  by_cases h : (dv.see7 f P).length ≤ many
  · by_cases h64 : 64 ≤ many - (dv.see7 f P).length
    · rw [List.take_of_length_le (by omega), List.take_of_length_le (by omega)]
    · congr 1; omega
  · have e1 : many - (dv.see7 f P).length = 0 := by omega
    have e2 : m = 0 := by omega
    rw [e1, e2]
structure RdSt (D : Nat → Prop) (W7 W : World) (g s f0 b4 b6 b8 b9 b11 b12 bm many : Nat) (dv : Dv) (pre : List Nat) : Prop where
  p4 : W.heap[b4]? = some (.cells #[.pointer (some ⟨g, 0, none⟩)] 43 (0, 0))
  p6 : W.heap[b6]? = some (.cells #[.int .i64 (many : Nat)] 3 (0, 0))
  p8 : ∃ x, W.heap[b8]? = some (.cells #[x] 40 (0, 0))
  p9 : ∃ x, W.heap[b9]? = some (.cells #[x] 27 (0, 0))
  p11 : W.heap[b11]? = some (.cells #[.int .i64 (f0 : Nat)] 3 (0, 0))
  p12 : ∃ v, W.heap[b12]? = some (.cells #[v] 40 (0, 0)) ∧ OwnB (fun k => k = bm ∨ W7.heap.size ≤ k) W v ((dv.see7 f0 pre).take many)
  up : pre = [] ∨ dv.down = false
  dev : DevAt W D g s dv
  fr : Fr (fun k => k = b8 ∨ k = b9 ∨ k = b12 ∨ k = bm ∨ W7.heap.size ≤ k) W7 W
structure RdOut (W7 W : World) (b8 b9 b12 bm : Nat) (v : Value) (r : Int × List UInt8) : Prop where
  p8 : W.heap[b8]? = some (.cells #[v] 40 (0, 0))
  p9 : W.heap[b9]? = some (.cells #[.int .i64 r.1] 27 (0, 0))
  own : OwnB (fun k => k = bm ∨ W7.heap.size ≤ k) W v r.2
  fr : Fr (fun k => k = b8 ∨ k = b9 ∨ k = b12 ∨ k = bm ∨ W7.heap.size ≤ k) W7 W
theorem OwnB.devB {F : Nat → Prop} {w : World} {v : Value} {L : List UInt8} (h : OwnB F w v L) {k : Nat} (hk : v.ownBlock = some k) : DevB w k ∧ F k := by
  refine ⟨?_, h.2 k hk⟩
  rcases h.1.2 with ⟨rfl, _⟩ | ⟨g, cap, cur, rfl, _, hg, _⟩
  · simp [Value.ownBlock] at hk
  · simp only [Value.ownBlock, Option.some.injEq] at hk
    subst hk
    exact ⟨_, _, _, hg, by decide⟩
theorem OwnB.keepD {F S : Nat → Prop} {w w' : World} {v : Value} {L : List UInt8} (h : OwnB F w v L) (hf : Fr S w w') (hd : ∀ k, F k → DevB w k → v.ownBlock = some k → ¬ S k) : OwnB F w' v L := by
  refine ⟨⟨h.1.1, ?_⟩, h.2⟩
  rcases h.1.2 with h1 | ⟨g, cap, cur, hv, hb, hg, r⟩
  · exact .inl h1
  · exact .inr ⟨g, cap, cur, hv, hb, hf.heap hg (hd g (h.2 g (by rw [hv]; rfl)) ⟨_, _, _, hg, by decide⟩ (by rw [hv]; rfl)), r⟩
section
variable {D : Nat → Prop} {W7 W W' : World} {g s f0 b4 b6 b8 b9 b11 b12 bm many : Nat} {dv : Dv} {pre : List Nat} {r : Int × List UInt8} {v : Value}
theorem RdSt.grown {B : Nat} {row : Option Nat} (h : RdSt D W7 W g s f0 b4 b6 b8 b9 b11 b12 bm many dv pre) (hb : b4 < B ∧ b6 < B ∧ b8 < B ∧ b9 < B ∧ b11 < B ∧ b12 < B ∧ W7.heap.size ≤ B) (hD : ∀ k, D k → k < B)
    (hg : W.grownBy W' row) (hr : ∀ r, row = some r → B ≤ r ∧ ∃ o : Obj, W.heap[r]? = some o ∧ o.isCells = false) : RdSt D W7 W' g s f0 b4 b6 b8 b9 b11 b12 bm many dv pre := by
  have hf : Fr (fun k => row = some k) W W' := (Fr.refl _ W).grown hg (fun k hk => .inl hk)
  have hn : ∀ k, k < B → ¬ row = some k := fun k hk e => by have := (hr k e).1; omega
  obtain ⟨x, h8⟩ := h.p8
  obtain ⟨y, h9⟩ := h.p9
  obtain ⟨v, h12, ho⟩ := h.p12
  exact ⟨hf.heap h.p4 (hn _ hb.1), hf.heap h.p6 (hn _ hb.2.1), ⟨x, hf.heap h8 (hn _ hb.2.2.1)⟩, ⟨y, hf.heap h9 (hn _ hb.2.2.2.1)⟩, hf.heap h.p11 (hn _ hb.2.2.2.2.1), ⟨v, hf.heap h12 (hn _ hb.2.2.2.2.2.1), ho.keepD hf (fun k _ hk _ e => by obtain ⟨_, o, ho, hc⟩ := hr k e; exact hk.noWalk ho hc)⟩, h.up,
    h.dev.keep hf (fun k _ hk => hn k (hD k hk)), h.fr.trans hf (fun k e => .inl (.inr (.inr (.inr (.inr (by have := (hr k e).1; omega))))))⟩
theorem RdOut.grown {B : Nat} {row : Option Nat} (h : RdOut W7 W b8 b9 b12 bm v r) (hb : b8 < B ∧ b9 < B ∧ W7.heap.size ≤ B)
    (hg : W.grownBy W' row) (hr : ∀ r, row = some r → B ≤ r ∧ ∃ o : Obj, W.heap[r]? = some o ∧ o.isCells = false) : RdOut W7 W' b8 b9 b12 bm v r := by
  have hf : Fr (fun k => row = some k) W W' := (Fr.refl _ W).grown hg (fun k hk => .inl hk)
  have hn : ∀ k, k < B → ¬ row = some k := fun k hk e => by have := (hr k e).1; omega
  exact ⟨hf.heap h.p8 (hn _ hb.1), hf.heap h.p9 (hn _ hb.2.1), h.own.keepD hf (fun k _ hk _ e => by obtain ⟨_, o, ho, hc⟩ := hr k e; exact hk.noWalk ho hc), h.fr.trans hf (fun k e => .inl (.inr (.inr (.inr (.inr (by have := (hr k e).1; omega))))))⟩
theorem RdOut.leave {w : World} (h : RdOut W7 W b8 b9 b12 bm v r) {m : Nat} {tmps : Array Value} {R : Ending → World → Prop} {Ds : List Deferred} {ks : List Nat} (hM : MarksOk W7.heap.size Ds ks W) (hp : tmps.getD 8 undef = .pointer (some ⟨b8, 0, none⟩)) (hq : tmps.getD 9 undef = .pointer (some ⟨b9, 0, none⟩)) (hw : Fr (fun _ => False) w W7) (hz : w.heap.size ≤ b8 ∧ w.heap.size ≤ b9 ∧ w.heap.size ≤ b12 ∧ w.heap.size ≤ bm)
    (hR : ∀ W', OwnB (fun k => w.heap.size ≤ k) W' v r.2 → Fr (fun _ => False) w W' → R (.returned (.tuple #[v, .int .i64 r.1])) W') : LeavesInM Fence.wide m Try.prog Try.f28 tmps R Ds .returning W :=
  leaves_marks (by simp) W7.heap.size ks Ds W hM (fun W' hW => by
    have h8 := hW.heap h.p8 (fun ⟨_, ds, hd⟩ => by rw [h.p8] at hd; cases hd)
    have h9 := hW.heap h.p9 (fun ⟨_, ds, hd⟩ => by rw [h.p9] at hd; cases hd)
    have hsz := hw.size
    refine ⟨_, results_cells2 rfl _ _ b8 b9 _ _ (by kernel_rfl) (by kernel_rfl) hp hq (cell_of_one h8) (cell_of_one h9), hR W' ?_ ?_⟩
    · refine (h.own.keepD hW (fun k _ hk _ ⟨_, ds, hd⟩ => hk.noWalk hd rfl)).mono (fun k _ hk => ?_)
      rcases hk with hk | hk <;> omega
    · refine (hw.trans h.fr (fun k hk => .inr (by rcases hk with hk | hk | hk | hk | hk <;> omega))).trans hW (fun k hk => .inr (by have := hk.1; omega)))
theorem RdSt.step {Wb W8 : World} {x : Nat} {v' : Value} (h : RdSt D W7 W g s f0 b4 b6 b8 b9 b11 b12 bm many dv pre) {vc : Value} {ty : World → Prop} (h12 : W.heap[b12]? = some (.cells #[vc] 40 (0, 0))) (hoc : OwnB (fun k => k = bm ∨ W7.heap.size ≤ k) W vc ((dv.see7 f0 pre).take many))
    (hq : Fr (fun _ => False) W Wb) (hg : Wb.grownBy W8 vc.ownBlock) (ho : OwnB (fun k => (k = bm ∨ W7.heap.size ≤ k) ∨ Wb.heap.size ≤ k) W8 v' ((dv.see7 f0 (pre ++ [x])).take many)) (hup : dv.down = false)
    (hb : b4 < bm ∧ b6 < bm ∧ b8 < bm ∧ b9 < bm ∧ b11 < bm ∧ bm < b12 ∧ b12 < W7.heap.size) (hb2 : b4 ≠ b12 ∧ b6 ≠ b12 ∧ b8 ≠ b12 ∧ b9 ≠ b12 ∧ b11 ≠ b12) (hD : ∀ k, D k → k < bm) :
    RdSt D W7 (W8.setCell ⟨b12, 0, none⟩ v') g s f0 b4 b6 b8 b9 b11 b12 bm many dv (pre ++ [x]) ∧ Fr (fun k => vc.ownBlock = some k ∨ k = b12) W (W8.setCell ⟨b12, 0, none⟩ v') := by
  obtain ⟨x8, h8⟩ := h.p8
  obtain ⟨x9, h9⟩ := h.p9
  have hWz := h.fr.size
  have hqz := hq.size
  have hf8 : Fr (fun k => vc.ownBlock = some k) W W8 := (hq.mono (T := fun k => vc.ownBlock = some k) (fun _ _ h => h.elim)).grown hg (fun k hk => .inl hk)
  have hn : ∀ k, k < W7.heap.size → k ≠ bm → ¬ vc.ownBlock = some k := fun k h1 h2 h3 => by
    rcases hoc.2 k h3 with h3 | h3
    · exact h2 h3
    · omega
  have hf2 := Fr.cell1 W8 b12 0 v'
  have hf9 : Fr (fun k => vc.ownBlock = some k ∨ k = b12) W (W8.setCell ⟨b12, 0, none⟩ v') := (hf8.mono (T := fun k => vc.ownBlock = some k ∨ k = b12) (fun _ _ h => .inl h)).trans hf2 (fun k e => .inl (.inr e))
  have hn9 : ∀ k, k < W7.heap.size → k ≠ bm → k ≠ b12 → ¬ (vc.ownBlock = some k ∨ k = b12) := fun k h1 h2 h3 h4 => h4.elim (hn k h1 h2) h3
  refine ⟨⟨hf9.heap h.p4 (hn9 _ (by omega) (by omega) hb2.1), hf9.heap h.p6 (hn9 _ (by omega) (by omega) hb2.2.1), ⟨x8, hf9.heap h8 (hn9 _ (by omega) (by omega) hb2.2.2.1)⟩, ⟨x9, hf9.heap h9 (hn9 _ (by omega) (by omega) hb2.2.2.2.1)⟩, hf9.heap h.p11 (hn9 _ (by omega) (by omega) hb2.2.2.2.2), ⟨v', one_put (hf8.heap h12 (hn _ (by omega) (by omega))) v', ?_⟩, .inr hup, h.dev.keep hf9 (fun k _ hk => by have := hD k hk; exact hn9 k (by omega) (by omega) (by omega)), ?_⟩, hf9⟩
  · refine (ho.keepD hf2 (fun k hk _ _ (e : k = b12) => by rcases hk with (hk | hk) | hk <;> omega)).mono (fun k _ hk => ?_)
    rcases hk with hk | hk
    · exact hk
    · exact .inr (by omega)
  · refine h.fr.trans hf9 (fun k hk => .inl ?_)
    rcases hk with hk | hk
    · rcases hoc.2 k hk with hk | hk
      · exact .inr (.inr (.inr (.inl hk)))
      · exact .inr (.inr (.inr (.inr hk)))
    · exact .inr (.inr (.inl hk))
theorem RdSt.out {W8 : World} (h : RdSt D W7 W g s f0 b4 b6 b8 b9 b11 b12 bm many dv pre) (hq : Fr (fun _ => False) W W8) (ho : OwnB (fun k => k = bm ∨ W7.heap.size ≤ k) W8 v r.2) (hb : b8 < bm ∧ b9 < bm ∧ b8 ≠ b9 ∧ bm < W7.heap.size) :
    RdOut W7 ((W8.setCell ⟨b8, 0, none⟩ v).setCell ⟨b9, 0, none⟩ (.int .i64 r.1)) b8 b9 b12 bm v r := by
  obtain ⟨x8, h8⟩ := h.p8
  obtain ⟨x9, h9⟩ := h.p9
  have hf1 := Fr.cell1 W8 b8 0 v
  have hf2 := Fr.cell1 (W8.setCell ⟨b8, 0, none⟩ v) b9 0 (.int .i64 r.1)
  have hx8 := one_put (hq.heap h8 id) v
  have hx9 := one_put2 (hq.heap h8 id) (hq.heap h9 id) hb.2.2.1 v
  refine ⟨hf2.heap hx8 hb.2.2.1, one_put hx9 _, (ho.keepD hf1 (fun k hk _ _ (e : k = b8) => by rcases hk with hk | hk <;> omega)).keepD hf2 (fun k hk _ _ (e : k = b9) => by rcases hk with hk | hk <;> omega), ((h.fr.trans hq (fun _ h => h.elim)).trans hf1 (fun k hk => .inl (.inl hk))).trans hf2 (fun k hk => .inl (.inr (.inl hk)))⟩
end
end Go.Proofs.Ytcbbcihfooaggaa
