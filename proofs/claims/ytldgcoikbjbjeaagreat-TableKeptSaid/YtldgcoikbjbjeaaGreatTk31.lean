/- Laid together: RefMaker RDev7 Cut64 RRead RefAt JRTell -/
import Derived.Test.YtldgcoikbjbjeaaGreatTk30
import Derived.Test.YtldgcoikbjbjeaaGreatTk10
import Derived.Deep.RegionWith
import Derived.Deep.RegionLawGrows
import Derived.Test.YtldgcoikbjbjeaaGreatTk17
import Derived.Test.YtldgcoikbjbjeaaGreatTk7
import Derived.StillTailTactics
import Derived.Test.YtldgcoikbjbjeaaGreatTk2
import Derived.Test.YtldgcoikbjbjeaaGreatTk0
import Derived.Test.YtldgcoikbjbjeaaGreatTk8
import Derived.Test.YtldgcoikbjbjeaaGreatTk18

namespace Go.Proofs.YtldgcoikbjbjeaaGreat
open Go.RowKit Go.ChangeShapes
set_option linter.unusedVariables false
def RMkAt (F : Nat → Prop) (w : World) (b : Nat) (L : List UInt8) (br : Bool) : Prop :=
  F b ∧ ∃ T v, w.heap[b]? = some (.cells #[v, .bool br] T (0, 0)) ∧ OwnB (fun k => F k ∧ k ≠ b) w v L
theorem RMkAt.keep {F S : Nat → Prop} {w w' : World} {b : Nat} {L : List UInt8} {br : Bool} (h : RMkAt F w b L br) (hf : Fr S w w') (hd : ∀ k, k < w.heap.size → F k → ¬ S k) : RMkAt F w' b L br := by
  obtain ⟨h1, T, v, h2, h3⟩ := h
  exact ⟨h1, T, v, hf.heap h2 (hd _ (lt_of_block h2) h1), h3.keep hf (fun k hk hF => hd k hk hF.1)⟩
theorem RMkAt.mono {F G : Nat → Prop} {w : World} {b : Nat} {L : List UInt8} {br : Bool} (h : RMkAt F w b L br) (hd : ∀ k, k < w.heap.size → F k → G k) : RMkAt G w b L br := by
  obtain ⟨h1, T, v, h2, h3⟩ := h
  exact ⟨hd _ (lt_of_block h2) h1, T, v, h2, h3.mono fun k hk h => ⟨hd k hk h.1, h.2⟩⟩
theorem ref_cells {w : World} {b : Nat} {x y : Value} {T : TypeId} (h1 : w.heap[b]? = some (.cells #[x, y] T (0, 0))) :
    w.cell? ⟨b, 0, none⟩ = some x ∧ w.cell? ⟨b, 1, none⟩ = some y ∧ w.frozen? ⟨b, 0, none⟩ = false ∧ w.frozen? ⟨b, 1, none⟩ = false :=
  ⟨by simp [World.cell?, h1], by simp [World.cell?, h1], by simp [World.frozen?, h1], by simp [World.frozen?, h1]⟩
theorem RMkAt.app {F : Nat → Prop} {w w1 w2 : World} {b : Nat} {L X : List UInt8} {br : Bool} {T : TypeId} {v v' : Value} (hF : ∀ k, w.heap.size ≤ k → F k) (hFb : F b) (hb : w1.heap[b]? = some (.cells #[v, .bool br] T (0, 0)))
    (hown : OwnB (fun k => F k ∧ k ≠ b) w1 v L) (hf : Fr F w w1) (hv : OwnB (fun k => (F k ∧ k ≠ b) ∨ w1.heap.size ≤ k) w2 v' X) (hg : w1.grownBy w2 v.ownBlock) :
    RMkAt F (w2.setCell ⟨b, 0, none⟩ v') b X br ∧ Fr F w (w2.setCell ⟨b, 0, none⟩ v') ∧ w2.cell? ⟨b, 0, none⟩ = some v ∧ w2.frozen? ⟨b, 0, none⟩ = false := by
  have hlt := lt_of_block hb
  have hb2 : w2.heap[b]? = some (.cells #[v, .bool br] T (0, 0)) := grown_heap hg hb (fun e => (hown.2 b e).2 rfl)
  have hvb : ∀ k, v'.ownBlock = some k → F k ∧ k ≠ b := fun k hk => by
    rcases hv.2 k hk with h | h
    · exact h
    · exact ⟨hF k (Nat.le_trans hf.size h), by omega⟩
  refine ⟨⟨hFb, T, v', ?_, ?_⟩, (hf.grown hg (fun k hk => .inl (hown.2 k hk).1)).setCell (p := ⟨b, 0, none⟩) (.inl hFb) _, (ref_cells hb2).1, (ref_cells hb2).2.2.1⟩
  · have := heap_setCell_at (i := 0) v' hb2
    exact this
  · have h1 : OwnB (fun k => F k ∧ k ≠ b) w2 v' X := ⟨hv.1, hvb⟩
    exact h1.keep' (Fr.one w2 b 0 v') (fun k hk e => (hvb k hk).2 e)
set_option maxHeartbeats 2000000 in
set_option maxRecDepth 100000 in
theorem refNum_yes {F : Nat → Prop} {b : Nat} {L : List UInt8} {br : Bool} (n : Nat) (w : World) (hn : n ≤ 1099511627776) (hF : ∀ k, w.heap.size ≤ k → F k) (hm : RMkAt F w b L br) (hlen : L.length + 6 ≤ 140737488355328) :
    Calls Tryz.prog 145 #[.pointer (some ⟨b, 0, none⟩), .int .i64 n] w fun r w' => r = .returned (.tuple #[]) ∧ Fr F w w' ∧ RMkAt F w' b (L ++ numBytes 5 n) br := by
  obtain ⟨hFb, T, v, hb, hown⟩ := hm
  obtain ⟨ao, cap, hv, _⟩ := hown.bytes
  obtain ⟨c0, c1, f0, f1⟩ := ref_cells hb
  have HV := Lib.hid (And.intro hb hown)
  subst hv
  have HL := Lib.hid (show L.length + (numBytes 5 n).length ≤ 140737488355328 by have := (numBytes_len 5 n).2; omega)
  have HF := Lib.hid hF
  have h0 : ¬ ((n : Int) < 0) := by omega
  have h1 : ¬ (1099511627776 < (n : Int)) := by omega
  clear hF hlen hb hown
  go_enter Tryz.func145, Tryz.ntmps145
  go_wp2
  go_region_law (first
    | (refine step_append_bytes (F := fun k => F k ∧ k ≠ b) (G := fun k => w.heap.size ≤ k) rfl (.tmp 17) (.tmp 19) rfl (.slice ao L.length cap) v1 L (numBytes 5 n) (by simp [Act.eval]) (by simp [Act.eval]) H1.out.1 H1.out.2.1 HL.out ?_; intro v' w2 ho5 hg5 hn5; have HR := Lib.hid (RMkAt.app (w := w) HF.out hFb H1.out.2.2.1 H1.out.1 H1.out.2.2.2 ho5 hg5); obtain ⟨_, _, d0, g0⟩ := HR.out; obtain ⟨a5, c5, hv5⟩ := ho5.len; rw [List.length_append] at hv5; subst hv5; clear ho5 hg5 hn5)
    | (go_simp; go_at_call 175; refine (refNumber_any n _ hn).mono ?_; rintro e w1 ⟨v1, rfl, ho1, hf1⟩; have hf1' : Fr (fun _ => False) w w1 := ⟨hf1.os, hf1.tape, hf1.output, hf1.size, hf1.block⟩; have H1 := Lib.hid (And.intro (HV.out.2.keep' hf1' (fun _ _ h => h)) (And.intro (show BytesIn (fun k => w.heap.size ≤ k) w1 v1 (numBytes 5 n) from ho1.bytes) (And.intro (hf1'.heap HV.out.1 (fun h => h)) (hf1'.mono (T := F) (fun _ _ h => h.elim))))); obtain ⟨e0, e1, g5, g6⟩ := ref_cells H1.out.2.2.1; clear ho1 hf1 hf1'))
  all_goals
    refine bodyPost_end (results_none rfl _ _ _) rfl ?_
    exact ⟨rfl, HR.out.2.1, HR.out.1⟩
end Go.Proofs.YtldgcoikbjbjeaaGreat
namespace Go.Proofs.YtldgcoikbjbjeaaGreat
open Go.RowKit Go.ChangeShapes
set_option linter.unusedVariables false
theorem rWrite_arg (w : World) (g ga s : Nat) (vw : Value) (k l : Int) (a : Int) (ab : Option Addr) (q cb : Nat) (h : DevH w g (.slice (some ⟨ga, 0, none⟩) (64 * s) (64 * s)) vw k l false) (hs : s ≤ 8192) (hn : a < 0 ∨ (s : Int) ≤ a ∨ 64 < q) :
    Calls Tryz.prog 115 #[.pointer (some ⟨g, 0, none⟩), .int .i64 a, .slice ab q cb] w fun e w' => e = .returned (.int .i64 2) ∧ w = w' := by
  have HS := Lib.hid (rSectors_any w g (some ⟨ga, 0, none⟩) s (64 * s) vw k l false h hs)
  obtain ⟨_, _, _, _, c4⟩ := h.cells
  clear h
  by_cases h1 : a < 0
  · have d1 : decide (a < 0) = true := by rw [decide_eq_true_iff]; exact h1
    clear h1 hn
    go_enter Tryz.func115, Tryz.ntmps115
    go_wp2
    go_ret
    exact ⟨rfl, rfl⟩
  · have d1 : decide (a < 0) = false := by rw [decide_eq_false_iff_not]; exact h1
    by_cases h2 : (s : Int) ≤ a
    · have d2 : decide ((s : Int) ≤ a) = true := by rw [decide_eq_true_iff]; exact h2
      clear h1 h2 hn
      go_enter Tryz.func115, Tryz.ntmps115
      go_wp2_with (go_at_call 83; (with_reducible refine HS.out.mono ?_); rintro e w0 ⟨rfl, rfl⟩)
      go_ret
      exact ⟨rfl, rfl⟩
    · have d2 : decide ((s : Int) ≤ a) = false := by rw [decide_eq_false_iff_not]; exact h2
      have h3 : 64 < q := by omega
      have d3 : decide (64 < (q : Int)) = true := by rw [decide_eq_true_iff]; omega
      have d5 : decide (64 < q) = true := by rw [decide_eq_true_iff]; omega
      clear h1 h2 hn
      go_enter Tryz.func115, Tryz.ntmps115
      go_wp2_with (go_at_call 83; (with_reducible refine HS.out.mono ?_); rintro e w0 ⟨rfl, rfl⟩)
      go_ret
      exact ⟨rfl, rfl⟩
theorem rWrite_out (w : World) (g ga s a : Nat) (vw : Value) (k : Int) (ab : Option Addr) (q cb : Nat) (hk0 : 0 ≤ k) (hk : k ≤ 1000000000) (h : DevH w g (.slice (some ⟨ga, 0, none⟩) (64 * s) (64 * s)) vw k 1 false) (hs : s ≤ 8192) (ha : a < s) (hq : q ≤ 64) :
    Calls Tryz.prog 115 #[.pointer (some ⟨g, 0, none⟩), .int .i64 a, .slice ab q cb] w fun e w' => e = .returned (.int .i64 10) ∧ DevH w' g (.slice (some ⟨ga, 0, none⟩) (64 * s) (64 * s)) vw k 0 true ∧ Fr (· = g) w w' := by
  have HS := Lib.hid (rSectors_any w g (some ⟨ga, 0, none⟩) s (64 * s) vw k 1 false h hs)
  have HD := Lib.hid (rdeed_any w g (.slice (some ⟨ga, 0, none⟩) (64 * s) (64 * s)) vw k 1 false hk0 hk (by decide) (by decide) h)
  obtain ⟨_, _, _, _, c4⟩ := h.cells
  have d1 : decide ((a : Int) < 0) = false := by rw [decide_eq_false_iff_not]; omega
  have d2 : decide ((s : Int) ≤ (a : Int)) = false := by rw [decide_eq_false_iff_not]; omega
  have d3 : decide (64 < (q : Int)) = false := by rw [decide_eq_false_iff_not]; omega
  have d4 : decide (s ≤ a) = false := by rw [decide_eq_false_iff_not]; omega
  have d5 : decide (64 < q) = false := by rw [decide_eq_false_iff_not]; omega
  have d6 : ¬ s ≤ a := by omega
  have d7 : ¬ 64 < q := by omega
  obtain ⟨m, hm⟩ : ∃ m : Nat, m = 64 * s := ⟨_, rfl⟩
  rw [← hm] at HD ⊢
  clear h hk0 hk hs ha hq hm
  go_enter Tryz.func115, Tryz.ntmps115
  go_wp2_with (first
    | (go_at_call 83; (with_reducible refine HS.out.mono ?_); rintro e w0 ⟨rfl, rfl⟩)
    | (go_at_call 144; (with_reducible refine HD.out.mono ?_); rintro e w1 ⟨rfl, hh, hf⟩; (have HH := Lib.hid (And.intro hh hf)); clear hh hf))
  go_ret
  exact ⟨rfl, HH.out.1, HH.out.2⟩
end Go.Proofs.YtldgcoikbjbjeaaGreat
namespace Go.Proofs.YtldgcoikbjbjeaaGreat
open Go.RowKit Go.ChangeShapes
set_option linter.unusedVariables false
theorem run_cut64 (w : World) (b m cap q : Nat) (q2 : Int) (hq2 : q2 = (q : Int) + 64) (hq : q + 64 ≤ m) (hm : m ≤ cap) :
    (Instr.slice 43 (.slice (some ⟨b, 0, none⟩) m cap) (some (.int .i64 (q : Int))) (some (.int .i64 q2)) none).run Tryz.prog w = .ok (.slice (some ⟨b, q, none⟩) 64 (cap - q)) w := by
  subst hq2
  have hs : ∀ w, (sizeOf 5).run Tryz.prog w = .ok 1 w := fun w => by kernel_rfl
  have h1 : (0 : Int) ≤ (q : Int) + 64 := by omega
  have h2 : (q : Int) + 64 ≤ (cap : Int) := by omega
  have h3 : (q : Int) ≤ (q : Int) + 64 := by omega
  have h4 : ((q : Int) + 64).toNat = q + 64 := by omega
  have h5 : ¬ cap = q := by omega
  have h6 : q ≤ q + 64 := by omega
  simp [Instr.slice, run_underlying Tryz.underlying43, Instr.sliceBounds, run_sliceBound, hs, h1, h2, h3, h4, h5, Addr.add]
  omega
theorem BytesIn.cut64 {F : Nat → Prop} {w : World} {b m cap : Nat} {L : List UInt8} (h : BytesIn F w (.slice (some ⟨b, 0, none⟩) m cap) L) (a : Nat) (ha : 64 * a + 64 ≤ L.length) : BytesIn F w (.slice (some ⟨b, 64 * a, none⟩) 64 (cap - 64 * a)) (secAt L a) := by
  obtain ⟨ao, cap', hv, h1, h2, h3, h4⟩ := h
  simp only [Value.slice.injEq] at hv
  obtain ⟨rfl, rfl, rfl⟩ := hv
  have hl : (secAt L a).length = 64 := by rw [secAt, List.length_take, List.length_drop]; omega
  refine ⟨_, cap - 64 * a, by rw [hl], by omega, by omega, (fun h => by cases h), fun p hp => ?_⟩
  cases hp
  refine ⟨fun j u hu => ?_, fun _ => (h4 _ rfl).2 (fun h => by rw [h] at ha; simp at ha)⟩
  have hj : j < 64 := by
    have := (List.getElem?_eq_some_iff.1 hu).1
    rwa [List.length_map, hl] at this
  have := (h4 _ rfl).1 (64 * a + j) u (by
    rw [List.getElem?_map] at hu ⊢
    rw [← secAt_get L a j hj]
    exact hu)
  rw [addr_plain, Nat.zero_add] at this
  rw [addr_plain]
  exact this
end Go.Proofs.YtldgcoikbjbjeaaGreat
namespace Go.Proofs.YtldgcoikbjbjeaaGreat
open Go.RowKit Go.ChangeShapes
set_option linter.unusedVariables false
theorem OwnB.empty4 (w : World) : OwnB (fun k => w.heap.size ≤ k) (w.alloc (.cells #[] 5)) (.slice (some ⟨w.heap.size, 0, none⟩) 0 0) [] :=
  ⟨World.ownsRow_lit w #[] 0 (Nat.zero_le _) (by simp [maxLen]) (by simp), fun g hg => by simp only [Value.ownBlock, Option.some.injEq] at hg; omega⟩
theorem BytT.bytes4 {w : World} {g : Nat} {T : TypeId} {L : List UInt8} (h : BytT w g T L) (m : Nat) (hm : L.length = m) (hl : m ≤ maxLen) : BytesIn (fun k => k = g) w (.slice (some ⟨g, 0, none⟩) m m) L := by
  subst hm
  refine ⟨_, L.length, rfl, Nat.le_refl _, hl, (fun h => by cases h), fun p hp => ?_⟩
  cases hp
  refine ⟨fun j u hu => ?_, fun _ => rfl⟩
  rw [addr_plain, Nat.zero_add, cell_of_row _ _ _ _ _ _ h]
  simpa using hu
structure RdAt (w wr : World) (v : Value) (a : Nat) (X : List UInt8) : Prop where
  own : OwnB (fun k => w.heap.size ≤ k) wr v X
  fr : Fr (fun _ => False) w wr
set_option maxRecDepth 100000 in
set_option maxHeartbeats 4000000 in
theorem rRead_ok {F : Nat → Prop} (w : World) (g ga s a : Nat) (L : List UInt8) (Wt : List Pend) (vw : Value) (k l : Int) (h : DevH w g (.slice (some ⟨ga, 0, none⟩) (64 * s) (64 * s)) vw k l false) (hL : BytT w ga 5 L) (hl : L.length = 64 * s) (hs : s ≤ 8192)
    (hP : PendAt F w vw Wt) (hW : Pends s Wt) (ha : a < s) (hn6 : Wt.length ≤ 1000000) :
    Calls Tryz.prog 147 #[.pointer (some ⟨g, 0, none⟩), .int .i64 a] w fun e w' => ∃ v, e = .returned (.tuple #[v, .int .i64 0]) ∧ OwnB (fun k => w.heap.size ≤ k) w' v (lastL (fun _ => true) a 0 Wt (secAt L a)) ∧ Fr (fun _ => False) w w' := by
  obtain ⟨ao, cap, hvf, hwc, hwm⟩ := hP.form
  subst hvf
  unfold maxLen at hwm
  obtain ⟨n, hn⟩ : ∃ n, n = Wt.length := ⟨_, rfl⟩
  have HS := Lib.hid (rSectors_any w g (some ⟨ga, 0, none⟩) s (64 * s) _ k l false h hs)
  obtain ⟨m, hm⟩ : ∃ m : Nat, m = 64 * s := ⟨_, rfl⟩
  obtain ⟨q, hq⟩ : ∃ q : Nat, q = 64 * a := ⟨_, rfl⟩
  have hqm : q + 64 ≤ m := by omega
  have hm6 : m ≤ 524288 := by omega
  have e1 : (a : Int) * 64 = (q : Int) := by omega
  have hcut := fun W => run_cut64 W ga m m q ((q : Int) + 64) rfl hqm (Nat.le_refl _)
  have wq : IntKind.i64.wrap (q : Int) = (q : Int) := IntWalk.i64_in _ (by omega)
  have wq2 : IntKind.i64.wrap ((q : Int) + 64) = (q : Int) + 64 := IntWalk.i64_in _ (by omega)
  have hbs := ((hL.keep ((Fr.refl (fun _ => False) w).alloc (.cells #[] 5)) (fun h => h)).bytes4 m (by omega) (by unfold maxLen; omega)).cut64 a (by omega)
  rw [← hq] at hbs
  rw [← hm] at h
  rw [← hn] at h hP hn6 hwc
  obtain ⟨c0, _, _, _, c4⟩ := h.cells
  have c0' := ((h.keep ((Fr.refl (fun _ => False) w).alloc (.cells #[] 5)) (fun h => h)).cells).1
  have d0 : decide ((a : Int) < 0) = false := by rw [decide_eq_false_iff_not]; omega
  have d1 : decide ((s : Int) ≤ (a : Int)) = false := by rw [decide_eq_false_iff_not]; omega
  have d2 : decide (s ≤ a) = false := by rw [decide_eq_false_iff_not]; omega
  have HO1 := Lib.hid (OwnB.empty4 w)
  have HX1 := Lib.hid hbs
  have HF1 := Lib.hid ((Fr.refl (fun _ => False) w).alloc (.cells #[] 5))
  have HSL := Lib.hid (secAt_length L s a hl ha)
  have HN := Lib.hid hn
  have HW := Lib.hid hW
  have HPL := Lib.hid (And.intro hP h)
  clear hn hW hm hP hL h hl hs hbs hq ha
  go_enter Tryz.func147, Tryz.ntmps147
  go_wp2_with (first
    | (go_at_call 83; (with_reducible refine HS.out.mono ?_); rintro e w0 ⟨rfl, rfl⟩)
    | (at_builtin; refine wpList_append_bytes (F := fun k => w.heap.size ≤ k) _ rfl (.tmp 20) (.tmp 30) rfl _ _ [] (secAt L a) rfl rfl HO1.out HX1.out (by rw [HSL.out]; decide) ?_; intro v3 w3 ho3 hg3 hn3; (have HS3 : Hid (RdAt w w3 v3 a (secAt L a)) := Lib.hid ⟨by have h := ho3.mono (G := fun k => w.heap.size ≤ k) (fun k _ h => h.elim id (fun h => Nat.le_trans HF1.out.size h)); simpa using h, HF1.out.grown hg3 (fun k hk => .inr (HO1.out.2 k hk))⟩); clear ho3 hg3 hn3)
    | fail)
  go_loopw [6, 7] (fun gv iv wr => ∃ i : Nat, i ≤ n ∧ iv = .int .i64 i ∧ Hid (RdAt w wr gv a (lastL (fun _ => true) a 0 (Wt.take i) (secAt L a)))) (fun _ iv _ => n - (intOf iv).toNat)
  case atStart => exact ⟨0, by omega, rfl, HS3⟩
  case round =>
    clear HS3 HO1 HX1 HF1
    obtain ⟨i, hi, rfl, hR⟩ := hrel
    have hcc := (HPL.out.2.keep hR.out.fr (fun h => h)).cells.2.1
    by_cases hlt : i < n
    · have hil : i < Wt.length := by rw [← HN.out]; exact hlt
      obtain ⟨b, gb, rfl, hFb, hrg, hbb, hFg⟩ := (HPL.out.1.keep hR.out.fr (fun _ _ _ h => h)).elem i hil
      obtain ⟨p, hp⟩ : ∃ p, p = Wt[i] := ⟨_, rfl⟩
      rw [← hp] at hrg hbb
      have hpw := HW.out p (by rw [hp]; exact List.getElem_mem _)
      have cp0 : wr.cell? ⟨b, i * 2, none⟩ = some (.int .i64 (p.1 : Nat)) := hrg 0 _ rfl
      have cp1 : wr.cell? ⟨b, i * 2 + 1, none⟩ = some (.slice (some ⟨gb, 0, none⟩) 64 64) := hrg 1 _ rfl
      have cp1' : (wr.alloc (.cells #[] 5)).cell? ⟨b, i * 2 + 1, none⟩ = some (.slice (some ⟨gb, 0, none⟩) 64 64) := ((Fr.refl (fun _ => False) wr).alloc (.cells #[] 5)).cell cp1 (fun h => h)
      have hcc' := ((HPL.out.2.keep hR.out.fr (fun h => h)).keep ((Fr.refl (fun _ => False) wr).alloc (.cells #[] 5)) (fun h => h)).cells.2.1
      have hst : lastL (fun _ => true) a 0 (Wt.take (i + 1)) (secAt L a) = if a = p.1 then p.2 else lastL (fun _ => true) a 0 (Wt.take i) (secAt L a) := by
        rw [List.take_succ_eq_append_getElem hil, lastL_snoc, ← hp]
        simp
      have HST := Lib.hid hst
      have hd : decide ((i : Int) < (n : Int)) = true := by rw [decide_eq_true_iff]; omega
      have hkn : (i : Int) < (n : Int) := by omega
      have hi0 : (0 : Int) ≤ (i : Int) := by omega
      have HBB := Lib.hid (And.intro (((BytT.keep hbb ((Fr.refl (fun _ => False) wr).alloc (.cells #[] 5)) (fun h => h))).bytes4 64 hpw.2 (by decide)) hpw.2)
      by_cases hpa : a = p.1
      · have hb1 : ((p.1 : Int) == (a : Int)) = true := by rw [beq_iff_eq]; omega
        have HO2 := Lib.hid (OwnB.empty4 wr)
        have HF2 := Lib.hid ((Fr.refl (fun _ => False) wr).alloc (.cells #[] 5))
        have HST2 := Lib.hid (HST.out.trans (if_pos hpa))
        clear hpa hil hp hpw hst hbb hrg
        go_wp2_with (at_builtin; refine wpList_append_bytes (F := fun k => wr.heap.size ≤ k) _ rfl (.tmp 51) (.tmp 59) rfl _ _ [] p.2 rfl rfl HO2.out HBB.out.1 (by rw [HBB.out.2]; decide) ?_; intro v5 w5 ho5 hg5 hn5; (have HS5 : Hid (RdAt w w5 v5 a (lastL (fun _ => true) a 0 (Wt.take (i + 1)) (secAt L a))) := Lib.hid ⟨by have h := ho5.mono (G := fun k => w.heap.size ≤ k) (fun k _ h => Nat.le_trans hR.out.fr.size (h.elim id (fun h => Nat.le_trans HF2.out.size h))); rw [HST2.out]; simpa using h, (hR.out.fr.trans HF2.out (fun _ h => h.elim)).grown hg5 (fun k hk => .inr (Nat.le_trans hR.out.fr.size (HO2.out.2 k hk)))⟩); clear ho5 hg5 hn5)
        go_roundw
        case rel => exact ⟨i + 1, by omega, by go_num, HS5⟩
        case measure => simp [intOf]; omega
      · have hb1 : ((p.1 : Int) == (a : Int)) = false := by rw [beq_eq_false_iff_ne]; omega
        have HST2 := Lib.hid (HST.out.trans (if_neg hpa))
        have hpa2 : ¬ p.1 = a := fun h => hpa h.symm
        clear hpa hil hp hpw hst hbb hrg
        go_wp2_with fail
        go_roundw
        case rel => exact ⟨i + 1, by omega, by go_num, Lib.hid (by rw [HST2.out]; exact hR.out)⟩
        case measure => simp [intOf]; omega
    · have hd : decide ((i : Int) < (n : Int)) = false := by rw [decide_eq_false_iff_not]; omega
      have hRR := hR.out
      rw [List.take_of_length_le (by rw [← HN.out]; omega)] at hRR
      have HRR := Lib.hid hRR
      clear hRR hR
      go_wp2_with fail
      go_ret2
      exact ⟨_, rfl, HRR.out.own, HRR.out.fr⟩
theorem rRead_down (w : World) (g : Nat) (va vw : Value) (k l a : Int) (h : DevH w g va vw k l true) :
    Calls Tryz.prog 147 #[.pointer (some ⟨g, 0, none⟩), .int .i64 a] w fun e w' => e = .returned (.tuple #[.slice none 0 0, .int .i64 10]) ∧ w = w' := by
  obtain ⟨_, _, _, _, h4⟩ := h.cells
  clear h
  go_enter Tryz.func147, Tryz.ntmps147
  go_wp2
  go_ret2
  exact ⟨rfl, rfl⟩
theorem rRead_arg (w : World) (g ga s : Nat) (vw : Value) (k l a : Int) (h : DevH w g (.slice (some ⟨ga, 0, none⟩) (64 * s) (64 * s)) vw k l false) (hs : s ≤ 8192) (hn : a < 0 ∨ (s : Int) ≤ a) :
    Calls Tryz.prog 147 #[.pointer (some ⟨g, 0, none⟩), .int .i64 a] w fun e w' => e = .returned (.tuple #[.slice none 0 0, .int .i64 2]) ∧ w = w' := by
  have HS := Lib.hid (rSectors_any w g (some ⟨ga, 0, none⟩) s (64 * s) vw k l false h hs)
  obtain ⟨_, _, _, _, c4⟩ := h.cells
  clear h
  by_cases h1 : a < 0
  · have d1 : decide (a < 0) = true := by rw [decide_eq_true_iff]; exact h1
    clear h1 hn
    go_enter Tryz.func147, Tryz.ntmps147
    go_wp2
    go_ret2
    exact ⟨rfl, rfl⟩
  · have d1 : decide (a < 0) = false := by rw [decide_eq_false_iff_not]; exact h1
    have d2 : decide ((s : Int) ≤ a) = true := by rw [decide_eq_true_iff]; omega
    clear h1 hn
    go_enter Tryz.func147, Tryz.ntmps147
    go_wp2_with (go_at_call 83; (with_reducible refine HS.out.mono ?_); rintro e w0 ⟨rfl, rfl⟩)
    go_ret2
    exact ⟨rfl, rfl⟩
end Go.Proofs.YtldgcoikbjbjeaaGreat
namespace Go.Proofs.YtldgcoikbjbjeaaGreat
open Go.RowKit Go.ChangeShapes
set_option linter.unusedVariables false
structure RfM (w : World) (F : Nat → Prop) (g ga s : Nat) (vw : Value) (d : Dv) : Prop where
  head : DevH w g (.slice (some ⟨ga, 0, none⟩) (64 * s) (64 * s)) vw d.deeds (d.left : Nat) d.down
  left : d.left ≤ 9223372036854775807
  kept : BytT w ga 5 d.all
  pend : PendAt F w vw d.waits
  right : d.Right s
  sep : g ≠ ga ∧ ¬ F g ∧ ¬ F ga
  small : s ≤ 8192
theorem RfM.lt {w : World} {F : Nat → Prop} {g ga s : Nat} {vw : Value} {d : Dv} (h : RfM w F g ga s vw d) : g < w.heap.size ∧ ga < w.heap.size := ⟨lt_of_block h.head, lt_of_block h.kept⟩
def RefAt (w : World) (D : Nat → Prop) (g s : Nat) (d : Dv) : Prop := ∃ F ga vw, RfM w F g ga s vw d ∧ ∀ k, k = g ∨ k = ga ∨ F k → D k
theorem PendAt.mono' {F G : Nat → Prop} {w : World} {v : Value} {W : List Pend} (h : PendAt F w v W) (hd : ∀ k, k < w.heap.size → F k → G k) : PendAt G w v W := by
  obtain ⟨gs, h1, h2, h3, h4⟩ := h
  refine ⟨gs, h1, h2, fun g hg => hd g ?_ (h3 g hg), fun i hi hi2 => ⟨(h4 i hi hi2).1, hd _ (lt_of_block (h4 i hi hi2).1) (h4 i hi hi2).2⟩⟩
  rcases h2.2 with ⟨hv, h0⟩ | ⟨b, cap, cur, hv, _, hb, _⟩
  · rw [hv] at hg; simp [Value.ownBlock] at hg
  · rw [hv] at hg
    simp only [Value.ownBlock, Option.some.injEq] at hg
    subst hg
    exact lt_of_block hb
theorem RefAt.keep {D S : Nat → Prop} {w w' : World} {g s : Nat} {d : Dv} (h : RefAt w D g s d) (hf : Fr S w w') (hd : ∀ k, k < w.heap.size → D k → ¬ S k) : RefAt w' D g s d := by
  obtain ⟨F, ga, vw, hm, hD⟩ := h
  obtain ⟨hg, hk⟩ := hm.lt
  exact ⟨F, ga, vw, ⟨hm.head.keep hf (hd g hg (hD g (.inl rfl))), hm.left, hm.kept.keep hf (hd ga hk (hD ga (.inr (.inl rfl)))), hm.pend.keep hf (fun k hk hF => hd k hk (hD k (.inr (.inr hF)))), hm.right, hm.sep, hm.small⟩, hD⟩
theorem RefAt.mono {D E : Nat → Prop} {w : World} {g s : Nat} {d : Dv} (h : RefAt w D g s d) (hd : ∀ k, k < w.heap.size → D k → E k) : RefAt w E g s d := by
  obtain ⟨F, ga, vw, hm, hD⟩ := h
  obtain ⟨hg, hk⟩ := hm.lt
  refine ⟨fun k => F k ∧ k < w.heap.size, ga, vw, ⟨hm.head, hm.left, hm.kept, hm.pend.mono' (fun k hk hF => ⟨hF, hk⟩), hm.right, ⟨hm.sep.1, fun h => hm.sep.2.1 h.1, fun h => hm.sep.2.2 h.1⟩, hm.small⟩, fun k hk' => ?_⟩
  rcases hk' with rfl | rfl | hk'
  · exact hd _ hg (hD _ (.inl rfl))
  · exact hd _ hk (hD _ (.inr (.inl rfl)))
  · exact hd _ hk'.2 (hD _ (.inr (.inr hk'.1)))
theorem RefAt.right {D : Nat → Prop} {w : World} {g s : Nat} {d : Dv} (h : RefAt w D g s d) : d.Right s := by
  obtain ⟨F, ga, vw, hm, hD⟩ := h
  exact hm.right
theorem RefAt.lt {D : Nat → Prop} {w : World} {g s : Nat} {d : Dv} (h : RefAt w D g s d) : g < w.heap.size ∧ D g := by
  obtain ⟨F, ga, vw, hm, hD⟩ := h
  exact ⟨hm.lt.1, hD g (.inl rfl)⟩
theorem bNew (w : World) (s : Nat) (h1 : 1 ≤ s) (h2 : s ≤ 8192) :
    Calls Tryz.prog 46 #[.int .i64 s] w fun e w' => ∃ g, e = .returned (.tuple #[.pointer (some ⟨g, 0, none⟩), .int .i64 0]) ∧ RefAt w' (fun k => w.heap.size ≤ k) g s (Dv.new s) ∧ Fr (fun _ => False) w w' := by
  refine (rNew_yes w s h1 h2).mono ?_
  rintro e w' ⟨g, ga, rfl, hg, hga, hne, hh, hb, hf⟩
  exact ⟨g, rfl, ⟨fun _ => False, ga, _, ⟨hh, Nat.zero_le _, hb, PendAt.nil _ _, ⟨by simp [Dv.new], fun p hp => by cases hp⟩, ⟨hne, id, id⟩, h2⟩, fun k hk' => by
    rcases hk' with rfl | rfl | h
    · exact hg
    · exact hga
    · exact h.elim⟩, hf⟩
theorem left_pred (l : Nat) (h : l ≠ 1) : (if (l : Int) = 0 then (0 : Int) else (l : Int) - 1) = ((l - 1 : Nat) : Int) := by
  split <;> omega
theorem bFlush {D : Nat → Prop} (w : World) (g s : Nat) (d : Dv) (hk6 : d.deeds ≤ 1000000000) (hn6 : d.waits.length ≤ 1000000) (h : RefAt w D g s d) :
    Calls Tryz.prog 117 #[.pointer (some ⟨g, 0, none⟩)] w fun e w' => e = .returned (.int .i64 d.flush.1) ∧ RefAt w' (More D w) g s d.flush.2 ∧ Fr D w w' := by
  have hR := h.right
  obtain ⟨F, ga, vw, hm, hD⟩ := h
  have hh := hm.head
  cases hd : d.down with
  | true =>
    rw [hd] at hh
    rw [Dv.flush_down hd]
    refine (rFlush_down w g _ vw d.deeds _ hh).mono ?_
    rintro e w' ⟨rfl, rfl⟩
    exact ⟨rfl, ⟨F, ga, vw, hm, fun k hk => .inl (hD k hk)⟩, Fr.refl _ _⟩
  | false =>
    rw [hd] at hh
    by_cases h1 : d.left = 1
    · rw [Dv.flush_out hd h1]
      rw [h1] at hh
      refine (rFlush_out w g _ vw d.deeds (by omega) (by omega) hh).mono ?_
      rintro e w' ⟨rfl, hh', hf⟩
      exact ⟨rfl, ⟨F, ga, vw, ⟨hh', by simp only; omega, hm.kept.keep hf (fun e => hm.sep.1 e.symm), hm.pend.keep hf (fun k _ hF e => hm.sep.2.1 (e ▸ hF)), hm.right.same rfl rfl, hm.sep, hm.small⟩, fun k hk => .inl (hD k hk)⟩, hf.mono (fun k _ e => hD k (.inl e))⟩
    · rw [Dv.flush_ok hd h1]
      refine (rFlush_ok w g ga s d.all d.waits vw d.deeds _ hh hm.kept hR.all hm.small hm.pend hR.waits hm.sep.2.1 hm.sep.2.2 hm.sep.1 (by omega) (by omega) (by omega) (by have := hm.left; omega) (by omega) hn6).mono ?_
      rintro e w' ⟨rfl, hh', hb, hf⟩
      rw [left_pred _ h1] at hh'
      refine ⟨rfl, ⟨fun _ => False, ga, _, ⟨?_, by have := hm.left; simp only; omega, hb, PendAt.nil _ _, ⟨wakeL_length _ s d.waits 0 d.all hR.waits hR.all, fun p hp => by cases hp⟩, ⟨hm.sep.1, id, id⟩, hm.small⟩, fun k hk => ?_⟩, hf.mono (fun k _ e => hD k (e.elim .inl (fun h => .inr (.inl h))))⟩
      · rw [hd]
        exact hh'
      · rcases hk with hk | hk | hk
        · exact .inl (hD k (.inl hk))
        · exact .inl (hD k (.inr (.inl hk)))
        · exact hk.elim
theorem bWrite {D G : Nat → Prop} (w : World) (g s : Nat) (d : Dv) (a : Int) (vb : Value) (b : List UInt8) (hk6 : d.deeds ≤ 1000000000) (hn6 : d.waits.length + 1 ≤ 1000000) (hb : BytesIn G w vb b) (hG : ∀ k, G k → k < w.heap.size ∧ ¬ D k) (h : RefAt w D g s d) :
    Calls Tryz.prog 115 #[.pointer (some ⟨g, 0, none⟩), .int .i64 a, vb] w fun e w' => e = .returned (.int .i64 (d.write s a b).1) ∧ RefAt w' (More D w) g s (d.write s a b).2 ∧ Fr D w w' := by
  have hR := h.right
  have hRw := hR.write a b
  obtain ⟨F, ga, vw, hm, hD⟩ := h
  have hh := hm.head
  obtain ⟨ab, cb, hvb⟩ : ∃ ao cap, vb = .slice ao b.length cap := by obtain ⟨x, y, hx, _⟩ := hb; exact ⟨x, y, hx⟩
  subst hvb
  cases hd : d.down with
  | true =>
    rw [hd] at hh
    rw [Dv.write_down hd]
    refine (rWrite_down w g _ vw _ d.deeds _ a hh).mono ?_
    rintro e w' ⟨rfl, rfl⟩
    exact ⟨rfl, ⟨F, ga, vw, hm, fun k hk => .inl (hD k hk)⟩, Fr.refl _ _⟩
  | false =>
    rw [hd] at hh
    by_cases h0 : a < 0 ∨ (s : Int) ≤ a ∨ 64 < b.length
    · rw [Dv.write_arg hd h0]
      refine (rWrite_arg w g ga s vw d.deeds _ a ab b.length cb hh hm.small h0).mono ?_
      rintro e w' ⟨rfl, rfl⟩
      exact ⟨rfl, ⟨F, ga, vw, hm, fun k hk => .inl (hD k hk)⟩, Fr.refl _ _⟩
    obtain ⟨a, rfl⟩ : ∃ x : Nat, a = x := ⟨a.toNat, by omega⟩
    by_cases h1 : d.left = 1
    · rw [Dv.write_out hd h0 h1]
      rw [h1] at hh
      refine (rWrite_out w g ga s a vw d.deeds ab b.length cb (by omega) (by omega) hh hm.small (by omega) (by omega)).mono ?_
      rintro e w' ⟨rfl, hh', hf⟩
      exact ⟨rfl, ⟨F, ga, vw, ⟨hh', by simp only; omega, hm.kept.keep hf (fun e => hm.sep.1 e.symm), hm.pend.keep hf (fun k _ hF e => hm.sep.2.1 (e ▸ hF)), hm.right.same rfl rfl, hm.sep, hm.small⟩, fun k hk => .inl (hD k hk)⟩, hf.mono (fun k _ e => hD k (.inl e))⟩
    · rw [Dv.write_ok hd h0 h1] at hRw ⊢
      have hlt := hm.lt
      refine (rWrite_ok (F := fun k => F k ∧ k < w.heap.size) w g ga s a vw _ d.waits b d.deeds _ hh (hm.pend.mono' (fun k hk hF => ⟨hF, hk⟩)) hb (fun i hi => ⟨(hG i hi).1, fun e => (hG i hi).2 (hD i (.inl e))⟩) (by omega) (by omega) hm.small (fun h => hm.sep.2.1 h.1) (by omega) (by omega) (by omega) (by have := hm.left; omega) (by omega) hn6).mono ?_
      rintro e w' ⟨rfl, vw', hh', hp, hf⟩
      rw [left_pred _ h1] at hh'
      refine ⟨rfl, ⟨_, ga, vw', ⟨?_, by have := hm.left; simp only; omega, hm.kept.keep hf (fun e => e.elim (fun e => hm.sep.1 e.symm) (fun e => hm.sep.2.2 e.1)), hp, hRw, ⟨hm.sep.1, fun e => e.elim (fun e => hm.sep.2.1 e.1) (fun e => by have := hlt.1; omega), fun e => e.elim (fun e => hm.sep.2.2 e.1) (fun e => by have := hlt.2; omega)⟩, hm.small⟩, fun k hk => ?_⟩, hf.mono (fun k _ e => hD k (e.elim .inl (fun h => .inr (.inr h.1))))⟩
      · rw [hd]
        exact hh'
      · rcases hk with hk | hk | hk
        · exact .inl (hD k (.inl hk))
        · exact .inl (hD k (.inr (.inl hk)))
        · exact hk.elim (fun h => .inl (hD k (.inr (.inr h.1)))) .inr
theorem bRead {D : Nat → Prop} (w : World) (g s : Nat) (d : Dv) (a : Int) (hn6 : d.waits.length ≤ 1000000) (h : RefAt w D g s d) :
    Calls Tryz.prog 147 #[.pointer (some ⟨g, 0, none⟩), .int .i64 a] w fun e w' => ∃ v, e = .returned (.tuple #[v, .int .i64 (d.read s a).1]) ∧ OwnB (fun k => w.heap.size ≤ k) w' v (d.read s a).2 ∧ Fr (fun _ => False) w w' := by
  have hR := h.right
  obtain ⟨F, ga, vw, hm, hD⟩ := h
  have hh := hm.head
  unfold Dv.read
  cases hd : d.down with
  | true =>
    rw [hd] at hh
    simp only [if_true]
    refine (rRead_down w g _ vw d.deeds _ a hh).mono ?_
    rintro e w' ⟨rfl, rfl⟩
    exact ⟨_, rfl, OwnB.nil _ _, Fr.refl _ _⟩
  | false =>
    rw [hd] at hh
    simp only [Bool.false_eq_true, if_false]
    by_cases h0 : a < 0 ∨ (s : Int) ≤ a
    · rw [if_pos h0]
      refine (rRead_arg w g ga s vw d.deeds _ a hh hm.small h0).mono ?_
      rintro e w' ⟨rfl, rfl⟩
      exact ⟨_, rfl, OwnB.nil _ _, Fr.refl _ _⟩
    · rw [if_neg h0]
      obtain ⟨a, rfl⟩ : ∃ x : Nat, a = x := ⟨a.toNat, by omega⟩
      exact rRead_ok w g ga s a d.all d.waits vw d.deeds _ hh hm.kept hR.all hm.small hm.pend hR.waits (by omega) hn6
end Go.Proofs.YtldgcoikbjbjeaaGreat
namespace Go.Proofs.YtldgcoikbjbjeaaGreat
open Go.RowKit Go.ChangeShapes
set_option linter.unusedVariables false
set_option maxRecDepth 100000 in
set_option maxHeartbeats 1000000 in
theorem rSectorOf_any (w : World) (h : Hd) (hn : h.Num) :
    Calls Tryz.prog 116 #[.agg #[.int .i64 h.area, .int .i64 h.size, .int .i64 h.used, .int .i64 h.round]] w fun e w' => ∃ v, e = .returned v ∧ OwnB (fun k => w.heap.size ≤ k) w' v h.bytes ∧ Fr (fun _ => False) w w' := by
  obtain ⟨x1, hx1⟩ : ∃ x, x = h.area := ⟨_, rfl⟩
  obtain ⟨x2, hx2⟩ : ∃ x, x = h.size := ⟨_, rfl⟩
  obtain ⟨x3, hx3⟩ : ∃ x, x = h.used := ⟨_, rfl⟩
  obtain ⟨x4, hx4⟩ : ∃ x, x = h.round := ⟨_, rfl⟩
  have HBY := Lib.hid (show (([] ++ numBytes 5 x1) ++ numBytes 5 x2 ++ numBytes 5 x3) ++ numBytes 5 x4 = h.bytes by rw [hx1, hx2, hx3, hx4, Hd.bytes]; simp)
  have HN := Lib.hid (show x1 ≤ 1099511627776 ∧ x2 ≤ 1099511627776 ∧ x3 ≤ 1099511627776 ∧ x4 ≤ 1099511627776 by rw [hx1, hx2, hx3, hx4]; exact ⟨hn.area, hn.size, hn.used, hn.round⟩)
  rw [← hx1, ← hx2, ← hx3, ← hx4]
  obtain ⟨W1, hW1⟩ : ∃ W, W = w.alloc (.cells #[.int .i64 x1, .int .i64 x2, .int .i64 x3, .int .i64 x4] 155) := ⟨_, rfl⟩
  obtain ⟨W2, hW2⟩ : ∃ W, W = W1.alloc (.cells #[.slice none 0 0, .bool false] 208) := ⟨_, rfl⟩
  have hf1 : Fr (fun _ => False) w W1 := by rw [hW1]; exact (Fr.refl _ _).alloc _
  have hf2 : Fr (fun _ => False) w W2 := by rw [hW2]; exact hf1.alloc _
  have hz1 : W1.heap.size = w.heap.size + 1 := by rw [hW1]; simp
  have hz2 : W2.heap.size = w.heap.size + 2 := by rw [hW2]; simp [hz1]
  have hrow : W2.heap[w.heap.size]? = some (.cells #[.int .i64 x1, .int .i64 x2, .int .i64 x3, .int .i64 x4] 155 (0, 0)) := by
    rw [hW2]
    exact ((Fr.refl (fun _ => False) W1).alloc _).heap (by rw [hW1]; exact heap_alloc_new w _) id
  have hm : RMkAt (fun k => w.heap.size + 1 ≤ k) W2 (w.heap.size + 1) [] false := ⟨Nat.le_refl _, 208, .slice none 0 0, by rw [hW2, ← hz1]; exact heap_alloc_new W1 _, OwnB.nil _ _⟩
  have HW := Lib.hid (And.intro hW1 (And.intro hW2 (And.intro hf2 (And.intro hz2 hrow))))
  have HM := Lib.hid hm
  clear hn hx1 hx2 hx3 hx4 hf1 hf2 hz1 hz2 hrow hm hW1 hW2
  go_enter Tryz.func116, Tryz.ntmps116
  go_wp2_with fail
  rw [← HW.out.1, ← HW.out.2.1]
  refine (refNum_yes x1 W2 HN.out.1 (fun k hk => by have := HW.out.2.2.2.1; omega) HM.out (by simp)).mono ?_
  rintro e w3 ⟨rfl, hf3, hm3⟩
  have H3 := Lib.hid (And.intro hf3 (And.intro hm3 (hf3.heap HW.out.2.2.2.2 (by omega))))
  clear hf3 hm3
  obtain ⟨c0, c1, c2, c3⟩ := row4_cells H3.out.2.2
  go_wp2_with fail
  refine (refNum_yes x2 w3 HN.out.2.1 (fun k hk => by have := HW.out.2.2.2.1; have := H3.out.1.size; omega) H3.out.2.1 (by have := (numBytes_len 5 x1).2; simp; omega)).mono ?_
  rintro e w4 ⟨rfl, hf4, hm4⟩
  have H4 := Lib.hid (And.intro (H3.out.1.trans hf4 (fun k h => .inl h)) (And.intro hm4 (hf4.heap H3.out.2.2 (by omega))))
  clear hf4 hm4 c0 c1 c2 c3
  obtain ⟨c0, c1, c2, c3⟩ := row4_cells H4.out.2.2
  go_wp2_with fail
  refine (refNum_yes x3 w4 HN.out.2.2.1 (fun k hk => by have := HW.out.2.2.2.1; have := H4.out.1.size; omega) H4.out.2.1 (by have := (numBytes_len 5 x1).2; have := (numBytes_len 5 x2).2; simp; omega)).mono ?_
  rintro e w5 ⟨rfl, hf5, hm5⟩
  have H5 := Lib.hid (And.intro (H4.out.1.trans hf5 (fun k h => .inl h)) (And.intro hm5 (hf5.heap H4.out.2.2 (by omega))))
  clear hf5 hm5 c0 c1 c2 c3
  obtain ⟨c0, c1, c2, c3⟩ := row4_cells H5.out.2.2
  go_wp2_with fail
  refine (refNum_yes x4 w5 HN.out.2.2.2 (fun k hk => by have := HW.out.2.2.2.1; have := H5.out.1.size; omega) H5.out.2.1 (by have := (numBytes_len 5 x1).2; have := (numBytes_len 5 x2).2; have := (numBytes_len 5 x3).2; simp; omega)).mono ?_
  rintro e w6 ⟨rfl, hf6, hm6⟩
  rw [HBY.out] at hm6
  obtain ⟨_, T, v, hb6, ho6⟩ := hm6
  have H6 := Lib.hid (And.intro (H5.out.1.trans hf6 (fun k h => .inl h)) ho6)
  have q0 := (ref_cells hb6).1
  obtain ⟨ao, cap, rfl⟩ := ho6.len
  clear hf6 ho6 c0 c1 c2 c3 hb6
  go_wp2
  go_ret
  exact ⟨_, rfl, H6.out.2.mono (fun k _ h => by have := h.1; omega), HW.out.2.2.1.trans H6.out.1 (fun k h => .inr (by omega))⟩
theorem Dv.write_full (d : Dv) (s : Nat) (a : Int) (b : List UInt8) (h : b.length ≤ 64) : d.write s a b = d.write s a (full64 b) := by
  have hl := full64_length b h
  unfold Dv.write
  rw [hl, full64_self _ hl]
  by_cases h1 : d.down = true
  · rw [if_pos h1, if_pos h1]
  · rw [if_neg h1, if_neg h1]
    by_cases h2 : a < 0 ∨ (s : Int) ≤ a
    · rw [if_pos (by omega), if_pos (by omega)]
    · rw [if_neg (by omega), if_neg (by omega)]
def RTellPost (D : Nat → Prop) (w : World) (g s : Nat) (r : Int × Dv) (e : Ending) (w' : World) : Prop := e = .returned (.int .i64 r.1) ∧ RefAt w' (More D w) g s r.2 ∧ Fr D w w'
theorem rTell_any {D : Nat → Prop} (w : World) (g s : Nat) (dv : Dv) (h : Hd) (hn : h.Num) (hd : RefAt w D g s dv) (hs : 1 ≤ s) (hup : dv.down = false) (hlf : dv.left = 0) (hk6 : dv.deeds ≤ 990000000) (hw6 : dv.waits.length ≤ 900000) :
    Calls Tryz.prog 84 #[.pointer (some ⟨g, 0, none⟩), .agg #[.int .i64 h.area, .int .i64 h.size, .int .i64 h.used, .int .i64 h.round]] w (RTellPost D w g s (dv.tell s h.sec)) := by
  have hbl := h.bytes_le
  obtain ⟨W1, hW1⟩ : ∃ W1, W1 = w.alloc (.cells #[.int .i64 h.area, .int .i64 h.size, .int .i64 h.used, .int .i64 h.round] 155) := ⟨_, rfl⟩
  have hf1 : Fr (fun _ => False) w W1 := by rw [hW1]; exact (Fr.refl _ _).alloc _
  have hd1 := (hd.mono (E := fun j => D j ∧ j < w.heap.size) (fun j hj h => ⟨h, hj⟩)).keep hf1 (fun _ _ _ h => h)
  have HB := Lib.hid (rSectorOf_any W1 h hn)
  have HD := Lib.hid (And.intro hd1 (And.intro hk6 hw6))
  have HW := Lib.hid (And.intro hW1 hf1)
  have hwf := Dv.write_full dv s 0 h.bytes (by omega)
  have hw0 := Dv.write_ok (d := dv) (s := s) (a := 0) (b := h.sec) hup (by rw [h.sec_length]; omega) (by omega)
  obtain ⟨r, hr⟩ : ∃ r, r = (dv.write s 0 h.sec).2 := ⟨_, rfl⟩
  have hr1 : (dv.write s 0 h.bytes) = (0, r) := by rw [hwf, hr, show full64 h.bytes = h.sec from rfl, hw0]
  have hrs : r.deeds ≤ dv.deeds + 1 ∧ r.waits.length ≤ dv.waits.length + 1 := by rw [hr]; exact dv.write_small s 0 h.sec
  have HSM := Lib.hid hrs
  obtain ⟨x1, hx1⟩ : ∃ x, x = h.area := ⟨_, rfl⟩
  obtain ⟨x2, hx2⟩ : ∃ x, x = h.size := ⟨_, rfl⟩
  obtain ⟨x3, hx3⟩ : ∃ x, x = h.used := ⟨_, rfl⟩
  obtain ⟨x4, hx4⟩ : ∃ x, x = h.round := ⟨_, rfl⟩
  rw [← hx1, ← hx2, ← hx3, ← hx4] at HW HB ⊢
  have hwr := fun (w1 : World) (v : Value) (hb : BytesIn (fun k => W1.heap.size ≤ k ∧ k < w1.heap.size) w1 v h.bytes) (hf : Fr (fun _ => False) W1 w1) => bWrite w1 g s dv 0 v h.bytes (by have := HD.out.2.1; omega) (by have := HD.out.2.2; omega) hb (fun k h1 => ⟨h1.2, fun h2 => by have := h2.2; have := HW.out.2.size; omega⟩) (HD.out.1.keep hf (fun _ _ _ h => h))
  rw [hr1] at hwr
  have HWR := Lib.hid hwr
  have htl : dv.tell s h.sec = r.flush := by
    unfold Dv.tell
    rw [← hr, hw0, if_pos rfl]
  rw [htl]
  obtain ⟨r2, hr2⟩ : ∃ r2, r2 = r.flush := ⟨_, rfl⟩
  rw [← hr2]
  obtain ⟨e2, he2⟩ : ∃ e, e = r2.1 := ⟨_, rfl⟩
  have HR2 := Lib.hid (And.intro hr2 he2)
  clear hd hk6 hw6 hf1 hd1 hW1 hr hwr hx1 hx2 hx3 hx4 hr1 hw0 hwf hrs htl hr2 he2 hup hlf hbl
  go_enter Tryz.func84, Tryz.ntmps84
  go_wp2_with (first
    | (go_at_call 116; rw [← HW.out.1]; refine HB.out.mono ?_; rintro e w1 ⟨v, rfl, ho1, hf1⟩; (have H1 := Lib.hid (And.intro ho1 hf1)); clear ho1 hf1)
    | (go_at_call 115; refine (HWR.out w1 v (H1.out.1.bytes.mono (fun k hk h => ⟨h, hk⟩)) H1.out.2).mono ?_; rintro e w2 ⟨rfl, hd2, hf2⟩; (have H2 := Lib.hid (And.intro hd2 hf2)); clear hd2 hf2)
    | (go_at_call 117; refine (bFlush w2 g s r (by have := HSM.out.1; have := HD.out.2.1; omega) (by have := HSM.out.2; have := HD.out.2.2; omega) H2.out.1).mono ?_; rintro e w3 ⟨rfl, hd3, hf3⟩; (have H3 := Lib.hid (And.intro hd3 hf3)); clear hd3 hf3))
  go_ret
  unfold RTellPost
  have s1 := HW.out.2.size
  have s2 := H1.out.2.size
  have s3 := H2.out.2.size
  rw [HR2.out.1]
  refine ⟨rfl, H3.out.1.mono fun k _ hk => ?_, ((HW.out.2.trans H1.out.2 (fun _ h => h.elim)).mono (T := D) (fun _ _ h => h.elim)).trans (H2.out.2.trans (T := fun k => (D k ∧ k < w.heap.size) ∨ w1.heap.size ≤ k) H3.out.2 (fun k hk => hk.elim (fun h => .inl h) (fun h => .inr h))) (fun k hk => .inl hk.1)⟩
  rcases hk with (hk | hk) | hk
  · exact .inl hk.1
  · exact .inr (by omega)
  · exact .inr (by omega)
end Go.Proofs.YtldgcoikbjbjeaaGreat
