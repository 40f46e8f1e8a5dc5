/- Laid together by merge.py: JKept0 JKept -/
import Derived.Test.YtabgklcghghoiaaGreatLn28

/- Contract: the law LogKept, where nothing is asked. Printed by gen_jkept.py (wip/gen). -/
namespace Go.Proofs.YtabgklcghghoiaaGreat
open Go.RowKit Go.ChangeShapes
set_option linter.unusedVariables false

set_option maxRecDepth 100000 in
set_option maxHeartbeats 4000000 in
theorem logKept_great (w : World) (L A D : Int) (v : Value) (ds : List DeedD) (hds : DeedsIn (fun k => k < w.heap.size) w v ds) (hg : greatS (secsS L A D) ds = true) :
    Calls Tryz.prog 3 #[.agg #[.int .i64 L, .int .i64 A, .int .i64 D], v] w fun e w' => e = .returned (.bool true) ∧ Fr (fun _ => False) w w' := by
  have hgr := fun (W : World) (hf : Fr (fun _ => False) w W) => great_any5 W L A D (hds.keep hf (fun _ _ _ h => h))
  rw [hg] at hgr
  have HGR := Lib.hid hgr
  obtain ⟨gs, hgs⟩ : ∃ gs, gs = w.heap.size := ⟨_, rfl⟩
  obtain ⟨W1, hW1⟩ : ∃ W, W = w.alloc (.cells #[.int .i64 L, .int .i64 A, .int .i64 D] 23) := ⟨_, rfl⟩
  have H1 := Lib.hid (show Fr (fun _ => False) w W1 ∧ W1.heap[gs]? = some (.cells #[.int .i64 L, .int .i64 A, .int .i64 D] 23 (0, 0)) by
    rw [hW1, hgs]
    exact ⟨(Fr.refl _ _).alloc _, heap_alloc_new w _⟩)
  have HW := Lib.hid (And.intro hW1 hgs)

  clear hds hg hgr hW1 hgs
  go_enter Tryz.func3, Tryz.ntmps3
  go_wp2_with (first
    | (go_at_call 5; rw [← HW.out.1, ← HW.out.2]; refine (awake_any W1).mono ?_; rintro e w2 ⟨rfl, hf2⟩; (have H2 := Lib.hid (And.intro (H1.out.1.trans hf2 (fun _ h => h.elim)) (hf2.heap H1.out.2 id))); (obtain ⟨s0, s1, s2⟩ := row3_cells H2.out.2); clear hf2)
    | (go_at_call 6; refine (HGR.out w2 H2.out.1).mono ?_; rintro e w3 ⟨rfl, hf3⟩; (have H3 := Lib.hid (And.intro (H2.out.1.trans hf3 (fun _ h => h.elim)) (hf3.heap H2.out.2 id))); (obtain ⟨s0, s1, s2⟩ := row3_cells H3.out.2); clear hf3))
  go_ret
  exact ⟨rfl, H3.out.1⟩
set_option maxRecDepth 100000 in
set_option maxHeartbeats 4000000 in
theorem logKept_wrong (w : World) (L A D : Int) (v : Value) (ds : List DeedD) (hds : DeedsIn (fun k => k < w.heap.size) w v ds) (hg : greatS (secsS L A D) ds = false) (hb : rightS L A D = false) :
    Calls Tryz.prog 3 #[.agg #[.int .i64 L, .int .i64 A, .int .i64 D], v] w fun e w' => e = .returned (.bool true) ∧ Fr (fun _ => False) w w' := by
  have hgr := fun (W : World) (hf : Fr (fun _ => False) w W) => great_any5 W L A D (hds.keep hf (fun _ _ _ h => h))
  rw [hg] at hgr
  have HGR := Lib.hid hgr
  obtain ⟨gs, hgs⟩ : ∃ gs, gs = w.heap.size := ⟨_, rfl⟩
  obtain ⟨W1, hW1⟩ : ∃ W, W = w.alloc (.cells #[.int .i64 L, .int .i64 A, .int .i64 D] 23) := ⟨_, rfl⟩
  have H1 := Lib.hid (show Fr (fun _ => False) w W1 ∧ W1.heap[gs]? = some (.cells #[.int .i64 L, .int .i64 A, .int .i64 D] 23 (0, 0)) by
    rw [hW1, hgs]
    exact ⟨(Fr.refl _ _).alloc _, heap_alloc_new w _⟩)
  have HW := Lib.hid (And.intro hW1 hgs)
  have hri := fun W => lRight_any W L A D
  rw [hb] at hri
  have HRI := Lib.hid hri
  clear hb hri
  clear hds hg hgr hW1 hgs
  go_enter Tryz.func3, Tryz.ntmps3
  go_wp2_with (first
    | (go_at_call 5; rw [← HW.out.1, ← HW.out.2]; refine (awake_any W1).mono ?_; rintro e w2 ⟨rfl, hf2⟩; (have H2 := Lib.hid (And.intro (H1.out.1.trans hf2 (fun _ h => h.elim)) (hf2.heap H1.out.2 id))); (obtain ⟨s0, s1, s2⟩ := row3_cells H2.out.2); clear hf2)
    | (go_at_call 6; refine (HGR.out w2 H2.out.1).mono ?_; rintro e w3 ⟨rfl, hf3⟩; (have H3 := Lib.hid (And.intro (H2.out.1.trans hf3 (fun _ h => h.elim)) (hf3.heap H2.out.2 id))); (obtain ⟨s0, s1, s2⟩ := row3_cells H3.out.2); clear hf3)
    | (go_at_call 7; refine (HRI.out w3).mono ?_; rintro e w4 ⟨rfl, hf4⟩; (have H4 := Lib.hid (And.intro (H3.out.1.trans hf4 (fun _ h => h.elim)) (hf4.heap H3.out.2 id))); (obtain ⟨s0, s1, s2⟩ := row3_cells H4.out.2); clear hf4))
  go_ret
  exact ⟨rfl, H4.out.1⟩
/-- .. and are not gn. -/
abbrev SafeN (w0 : World) (X : Nat → Prop) (gn : Nat) : Nat → Prop := fun k => Safe w0 X k ∧ k ≠ gn
/-- Where the loop stands: a journal that has just the model, which lies at gn. -/
def KSt (w0 w : World) (jn gn g s l la d i : Nat) : Prop := ∃ (dv : Dv) (h : Hd) (A : List UInt8) (Q : List (List UInt8)) (X : Nat → Prop) (va vr : Value), LgAt w0 w jn g s l la d h false dv X ∧ LgK dv l la s h A Q i ∧ BytesIn (SafeN w0 X gn) w va A ∧ RowsIn (SafeN w0 X gn) w vr Q ∧ w.heap[gn]? = some (.cells #[va, vr] 40 (0, 0)) ∧ X gn ∧ w0.heap.size ≤ gn
theorem BytesIn.slice5 {F : Nat → Prop} {w : World} {v : Value} {L : List UInt8} (h : BytesIn F w v L) : ∃ a n c, v = .slice a n c := by
  obtain ⟨a, c, e, _⟩ := h
  exact ⟨a, _, c, e⟩
theorem RowsIn.slice5 {F : Nat → Prop} {w : World} {v : Value} {L : List (List UInt8)} (h : RowsIn F w v L) : ∃ a n c, v = .slice a n c := by
  obtain ⟨a, c, e, _⟩ := h
  exact ⟨a, _, c, e⟩
theorem row4_cells5 {w : World} {g : Nat} {x y z u : Value} {T : TypeId} (h : w.heap[g]? = some (.cells #[x, y, z, u] T (0, 0))) : w.cell? ⟨g, 0, none⟩ = some x ∧ w.cell? ⟨g, 1, none⟩ = some y ∧ w.cell? ⟨g, 2, none⟩ = some z ∧ w.cell? ⟨g, 3, none⟩ = some u :=
  ⟨cell_of_row _ _ _ _ _ _ h, cell_of_row _ _ _ _ _ _ h, cell_of_row _ _ _ _ _ _ h, cell_of_row _ _ _ _ _ _ h⟩
theorem isB_eq5 (B : List UInt8) (R : List (List UInt8)) : isB B B R R = true := by unfold isB; simp
theorem isB_yes5 {B A : List UInt8} {R Q : List (List UInt8)} (h : B = A ∧ R = Q) : isB B A R Q = true := by unfold isB; exact decide_eq_true h
theorem isB_ne5 {B A : List UInt8} {R Q : List (List UInt8)} (h : ¬ (B = A ∧ R = Q)) : isB B A R Q = false := by unfold isB; exact decide_eq_false h
theorem Fr.put2 (w : World) (b : Nat) (x y : Value) : Fr (fun k => k = b) w ((w.setCell ⟨b, 0, none⟩ x).setCell ⟨b, 1, none⟩ y) := (Fr.cell1 w b 0 x).trans (Fr.cell1 _ b 1 y) (fun k h => .inl h)
/-- A journal and its device, and rows beside them that stay. -/
structure KB (w0 w : World) (jn g s l la d : Nat) (h : Hd) (dn : Bool) (dv : Dv) (X : Nat → Prop) (L : List (Nat × Obj)) : Prop where
  lg : LgAt w0 w jn g s l la d h dn dv X
  rows : ∀ r ∈ L, w.heap[r.1]? = some r.2 ∧ Safe w0 X r.1
section
variable {w0 w w' : World} {jn jm g s l la d : Nat} {h h' : Hd} {dn dn' : Bool} {dv dv' : Dv} {X Y : Nat → Prop} {L : List (Nat × Obj)}
theorem KB.go (H : KB w0 w jn g s l la d h dn dv X L) (hL : LgAt w0 w' jm g s l la d h' dn' dv' Y) (hf : Fr (LgT w0 X) w w') (hXY : ∀ k, X k → Y k) : KB w0 w' jm g s l la d h' dn' dv' Y L :=
  ⟨hL, fun r hr => ⟨hf.heap (H.rows r hr).1 (H.rows r hr).2.not, (H.rows r hr).2.imp id (hXY _)⟩⟩
theorem KB.quiet (H : KB w0 w jn g s l la d h dn dv X L) (hf : Fr (fun _ => False) w w') : KB w0 w' jn g s l la d h dn dv X L := H.go (H.lg.quiet hf) (hf.mono (fun _ _ h => h.elim)) (fun _ h => h)
theorem KB.new (H : KB w0 w jn g s l la d h dn dv X L) (o : Obj) (k0 : Nat) (hk : k0 = w.heap.size) : KB w0 (w.alloc o) jn g s l la d h dn dv (fun k => X k ∨ k = k0) ((k0, o) :: L) := by
  have hf : Fr (fun _ => False) w (w.alloc o) := (Fr.refl _ _).alloc _
  have hz : (w.alloc o).heap.size = w.heap.size + 1 := by simp
  refine ⟨H.lg.fresh hf (fun k h => by omega), fun r hr => ?_⟩
  rcases List.mem_cons.1 hr with rfl | hr
  · exact ⟨by rw [hk]; exact heap_alloc_new w o, .inr (.inr rfl)⟩
  · exact ⟨hf.heap (H.rows r hr).1 id, (H.rows r hr).2.imp id .inl⟩
/-- Two cells of a row of it are turned. -/
theorem KB.put (H : KB w0 w jn g s l la d h dn dv X L) {k0 : Nat} {x y : Value} {T : TypeId} (hk : w.heap[k0]? = some (.cells #[x, y] T (0, 0))) (hX : X k0) (hw0 : w0.heap.size ≤ k0) (x2 y2 : Value) (L' : List (Nat × Obj)) (hL' : ∀ r ∈ L', r ∈ L ∧ r.1 ≠ k0) :
    KB w0 ((w.setCell ⟨k0, 0, none⟩ x2).setCell ⟨k0, 1, none⟩ y2) jn g s l la d h dn dv X ((k0, .cells #[x2, y2] T (0, 0)) :: L') := by
  have hp := (Fr.cell1 w k0 0 x2).trans (Fr.cell1 _ k0 1 y2) (fun k h => .inl h)
  refine ⟨H.lg.away hp (fun k (e : k = k0) => ⟨by rw [e]; exact hX, by omega⟩), fun r hr => ?_⟩
  rcases List.mem_cons.1 hr with rfl | hr
  · exact ⟨cell_put _ (cell_put _ hk), .inr hX⟩
  · obtain ⟨h1, h2⟩ := hL' r hr
    exact ⟨hp.heap (H.rows r h1).1 h2, (H.rows r h1).2⟩
end
end Go.Proofs.YtabgklcghghoiaaGreat

/- Contract: the law LogKept. Printed by gen_jkept.py (wip/gen). -/
namespace Go.Proofs.YtabgklcghghoiaaGreat
open Go.RowKit Go.ChangeShapes
set_option linter.unusedVariables false

set_option maxRecDepth 100000 in
set_option maxHeartbeats 16000000 in
theorem logKept_go (w : World) (l la d s : Nat) (v : Value) (ds : List DeedD) (hds : DeedsIn (fun k => k < w.heap.size) w v ds) (hg : greatS (secsS l la d) ds = false) (hok : ShOk l la d s) (hs60 : s ≤ 60) (hn60 : ds.length ≤ 60) (hB60 : ∀ p ∈ ds, p.B.length ≤ 6000) :
    Calls Tryz.prog 3 #[.agg #[.int .i64 l, .int .i64 la, .int .i64 d], v] w fun e w' => e = .returned (.bool true) ∧ Fr (fun _ => False) w w' := by
  have hgr := fun (W : World) (hf : Fr (fun _ => False) w W) => great_any5 W l la d (hds.keep hf (fun _ _ _ h => h))
  rw [hg] at hgr
  have HGR := Lib.hid hgr
  obtain ⟨gs, hgs⟩ : ∃ gs, gs = w.heap.size := ⟨_, rfl⟩
  obtain ⟨W1, hW1⟩ : ∃ W, W = w.alloc (.cells #[.int .i64 l, .int .i64 la, .int .i64 d] 23) := ⟨_, rfl⟩
  have H1 := Lib.hid (show Fr (fun _ => False) w W1 ∧ W1.heap[gs]? = some (.cells #[.int .i64 l, .int .i64 la, .int .i64 d] 23 (0, 0)) by
    rw [hW1, hgs]
    exact ⟨(Fr.refl _ _).alloc _, heap_alloc_new w _⟩)
  have HW := Lib.hid (And.intro hW1 hgs)
  obtain ⟨dv1, ht1, hok1⟩ := LgOk.new l la d s hok
  have HT := Lib.hid (And.intro ht1 hok1)
  have HOK := Lib.hid hok
  have HDS := Lib.hid hds
  have HBD := Lib.hid (And.intro hs60 hB60)
  have HL8 := Lib.hid hok.l8
  have hl8 := hok.l8
  have hla8 := hok.la8
  have HNS := Lib.hid (show 1 ≤ s ∧ s ≤ 8192 from ⟨by have := hok.sum; omega, hok.most⟩)
  obtain ⟨ao, cap, rfl, hd1, hd2, hd3, hd4⟩ := id hds
  obtain ⟨n, hn⟩ : ∃ n, n = ds.length := ⟨_, rfl⟩
  have hbe : ∃ b off, (0 < n → ao = some ⟨b, off, none⟩) ∧ ∀ i (h : i < ds.length), DeedAt (fun k => k < w.heap.size) w b (off + i * 4) ds[i] := by
    by_cases hl : ds = []
    · subst hl
      exact ⟨0, 0, fun h => by simp at hn; omega, fun i h => by simp at h⟩
    · obtain ⟨b, off, ha, hi⟩ := hd4 hl
      exact ⟨b, off, fun _ => ha, hi⟩
  obtain ⟨b, off, hao, hdi⟩ := hbe
  have HDI := Lib.hid hdi
  have HAO := Lib.hid hao
  have HN := Lib.hid hn
  rw [← hn] at hd1 hd2 hn60 HGR ⊢
  clear hds hg hgr hW1 hgs hok ht1 hok1 hB60 hd3 hd4 hdi hao hn
  go_enter Tryz.func3, Tryz.ntmps3
  go_wp2_with (first
    | (go_at_call 5; rw [← HW.out.1, ← HW.out.2]; refine (awake_any W1).mono ?_; rintro e w2 ⟨rfl, hf2⟩; (have H2 := Lib.hid (And.intro (H1.out.1.trans hf2 (fun _ h => h.elim)) (hf2.heap H1.out.2 id))); (obtain ⟨s0, s1, s2⟩ := row3_cells H2.out.2); clear hf2)
    | (go_at_call 6; refine (HGR.out w2 H2.out.1).mono ?_; rintro e w3 ⟨rfl, hf3⟩; (have H3 := Lib.hid (And.intro (H2.out.1.trans hf3 (fun _ h => h.elim)) (hf3.heap H2.out.2 id))); (obtain ⟨s0, s1, s2⟩ := row3_cells H3.out.2); clear hf3)
    | (go_at_call 7; refine (HOK.out.right w3).mono ?_; rintro e w4 ⟨rfl, hf4⟩; (have H4 := Lib.hid (And.intro (H3.out.1.trans hf4 (fun _ h => h.elim)) (hf4.heap H3.out.2 id))); (obtain ⟨s0, s1, s2⟩ := row3_cells H4.out.2); clear hf4)
    | (go_at_call 9; refine (lSectors_any w4 l la d s HOK.out).mono ?_; rintro e w5 ⟨rfl, hf5⟩; (have H5 := Lib.hid (And.intro (H4.out.1.trans hf5 (fun _ h => h.elim)) (hf5.heap H4.out.2 id))); (obtain ⟨s0, s1, s2⟩ := row3_cells H5.out.2); clear hf5)
    | (go_at_call 8; refine (aNew w5 s HNS.out.1 HNS.out.2).mono ?_; rintro e w6 ⟨g, rfl, hd6, hf6⟩; (have H6 := Lib.hid (And.intro (H5.out.1.trans hf6 (fun _ h => h.elim)) (hf6.heap H5.out.2 id))); (have HD6 := Lib.hid (And.intro hd6 hf6)); (obtain ⟨s0, s1, s2⟩ := row3_cells H6.out.2); clear hf6 hd6)
    | (go_at_call 10; refine (lFormat_any w6 g l la d s (Dv.new s) HOK.out HD6.out.1 (by simp [Dv.new]) (by simp [Dv.new])).mono ?_; rintro e w7 ⟨rfl, hd7, hf7⟩; rw [HT.out.1] at hd7 ⊢; (have H7 := Lib.hid (And.intro (H6.out.1.trans hf7 (fun k hk => .inr (Nat.le_trans H5.out.1.size hk))) (hf7.heap H6.out.2 (fun hh => by have h1 := lt_of_block H5.out.2; have h2 : w5.heap.size ≤ gs := hh; omega)))); (have HD7 := Lib.hid (show DevAt w7 (fun k => w5.heap.size ≤ k) g s dv1 ∧ Fr (fun _ => False) w5 w7 from ⟨hd7.mono (fun k _ hk => hk.elim id (fun h => Nat.le_trans HD6.out.2.size h)), HD6.out.2.trans hf7 (fun k hk => .inr hk)⟩)); (obtain ⟨s0, s1, s2⟩ := row3_cells H7.out.2); clear hf7 hd7)
    | (go_at_call 11; refine (gMade HD7.out.1 HD7.out.2 HOK.out HT.out.2.up HT.out.2.waits HT.out.2.kp).mono ?_; rintro e w8 ⟨jn, rfl, hL8, hf8⟩; (have H8 := Lib.hid (And.intro (H7.out.1.trans hf8 (fun _ h => h.elim)) (hf8.heap H7.out.2 id))); (have HG8 := Lib.hid hL8); (obtain ⟨s0, s1, s2⟩ := row3_cells H8.out.2); clear hf8 hL8))
  obtain ⟨gn, hgn⟩ : ∃ gn, gn = w8.heap.size := ⟨_, rfl⟩
  obtain ⟨W9, hW9⟩ : ∃ W, W = w8.alloc (.cells #[.slice none 0 0, .slice none 0 0] 40) := ⟨_, rfl⟩
  have hK0 : KSt w5 W9 jn gn g s l la d 0 := by
    have hf9 : Fr (fun _ => False) w8 W9 := by rw [hW9]; exact (Fr.refl _ _).alloc _
    have hz9 : W9.heap.size = w8.heap.size + 1 := by rw [hW9]; simp
    refine ⟨dv1, _, [], [], _, _, _, HG8.out.fresh (Y := fun k => k = gn) hf9 (fun k hk => by subst hk; omega), HT.out.2.k, BytesIn.nil _ _, ⟨none, 0, rfl, Nat.le_refl _, by omega, by simp, fun h => absurd rfl h⟩, by rw [hW9, hgn]; exact heap_alloc_new w8 _, .inr rfl, by rw [hgn]; exact HG8.out.fr.size⟩
  rw [← hW9, ← hgn]
  clear hW9 hgn s0 s1 s2
  go_loopw [7, 8, 10] (fun jv fv iv wr => ∃ i : Nat, i ≤ n ∧ iv = .int .i64 i ∧ fv = .int .i64 0 ∧ ∃ jm : Nat, jv = .pointer (some ⟨jm, 0, none⟩) ∧ Hid (KSt w5 wr jm gn g s l la d i)) (fun _ _ iv _ => n - (intOf iv).toNat)
  case atStart => exact ⟨0, by omega, rfl, rfl, jn, rfl, Lib.hid hK0⟩
  case round =>
    clear hK0
    obtain ⟨i, hi, rfl, rfl, jm, rfl, hR⟩ := hrel
    by_cases hlt : i < n
    · obtain ⟨dv, h, A, Q, X, va, vr, hLg, hLk, hA, hQ, hgn, hXn, hln⟩ := hR.out
      obtain ⟨aa, na, ca, rfl⟩ := hA.slice5
      obtain ⟨aq, nq, cq, rfl⟩ := hQ.slice5
      have hil : i < ds.length := by have := HN.out; omega
      obtain ⟨p, hp⟩ : ∃ p, p = ds[i] := ⟨_, rfl⟩
      have hP := HDI.out i hil
      have hpB := HBD.out.2 p (by rw [hp]; exact List.getElem_mem _)
      rw [← hp] at hP
      have hfw := H5.out.1.trans hLg.fr (fun _ h => h.elim)
      have hP2 := hP.keep hfw (fun _ _ _ h => h)
      obtain ⟨ax, nx, cx, hx⟩ := hP.bytes.slice5
      have HP := Lib.hid hP2
      have hcw := hP2.what
      have hcn := hP2.n
      have hct := hP2.bit
      have hcb := hP2.cb
      rw [hx] at hcb
      have HX := Lib.hid hx
      have hao2 := HAO.out (by omega)
      subst hao2
      obtain ⟨gx, hgx⟩ : ∃ gx, gx = wr.heap.size := ⟨_, rfl⟩
      obtain ⟨Wx, hWx⟩ : ∃ W, W = wr.alloc (.cells #[.int .i64 p.what, .int .i64 p.n, .int .i64 p.bit, .slice ax nx cx] 42) := ⟨_, rfl⟩
      have hfx : Fr (fun _ => False) wr Wx := by rw [hWx]; exact (Fr.refl _ _).alloc _
      have hws : w.heap.size ≤ w5.heap.size := H5.out.1.size
      have hgs5 := lt_of_block H5.out.2
      have KX := Lib.hid (show KB w5 Wx jm g s l la d h false dv (fun k => X k ∨ k = gx) [(gx, .cells #[.int .i64 p.what, .int .i64 p.n, .int .i64 p.bit, .slice ax nx cx] 42 (0, 0)), (gn, .cells #[.slice aa na ca, .slice aq nq cq] 40 (0, 0)), (gs, .cells #[.int .i64 l, .int .i64 la, .int .i64 d] 23 (0, 0))] by
        rw [hWx]
        refine KB.new (L := [(gn, _), (gs, _)]) ⟨hLg, fun r hr => ?_⟩ _ gx hgx
        rcases List.mem_cons.1 hr with rfl | hr
        · exact ⟨hgn, .inr hXn⟩
        · obtain rfl := List.mem_singleton.1 hr
          exact ⟨hLg.fr.heap H5.out.2 id, .inl hgs5⟩)
      have HNE := Lib.hid (show gx ≠ gn ∧ gn ≠ gx ∧ w5.heap.size ≤ gn ∧ X gn from ⟨by have := lt_of_block hgn; omega, by have := lt_of_block hgn; omega, hln, hXn⟩)
      have up : ∀ k, SafeN w5 X gn k → SafeN w5 (fun k => X k ∨ k = gx) gn k := fun k hk => ⟨hk.1.imp id .inl, hk.2⟩
      have HAQ := Lib.hid (show BytesIn (SafeN w5 (fun k => X k ∨ k = gx) gn) Wx (.slice aa na ca) A ∧ RowsIn (SafeN w5 (fun k => X k ∨ k = gx) gn) Wx (.slice aq nq cq) Q ∧ LgK dv l la s h A Q i from ⟨(hA.keep hfx (fun _ _ _ h => h)).mono (fun k _ => up k), (hQ.keep hfx (fun _ _ _ h => h)).mono5 (fun k _ => up k), hLk⟩)
      have hth := then_any (F := SafeN w5 (fun k => X k ∨ k = gx) gn) (fun _ h => h.1) KX.out.lg HOK.out HBD.out.1 (by omega) hLk p hP2.wf.1 hpB (.slice aa na ca) (.slice aq nq cq) ((hP2.bytes.keep hfx (fun _ _ _ h => h)).mono (fun k _ (hk : k < w.heap.size) => ⟨.inl (by omega), by have := HNE.out.2.2.1; omega⟩)) HAQ.out.1 HAQ.out.2.1
      rw [hx] at hth
      have HTH := Lib.hid hth
      have HWX := Lib.hid (And.intro hWx hgx)
      have HWF := Lib.hid hP2.wf
      have d1 : decide ((i : Int) < (n : Int)) = true := by rw [decide_eq_true_iff]; omega
      have d3 : (i : Int) < (n : Int) := by omega
      have d4 : (0 : Int) ≤ (i : Int) := by omega
      clear hR hP hP2 hp hx hpB hLg hLk hA hQ hgn hXn hln hil hfw hfx hws hgs5 up hth hgx hWx
      go_wp2_with fail
      rw [← HWX.out.1, ← HWX.out.2]
      clear hcw hcn hct hcb
      obtain ⟨x0, x1, x2, x3⟩ := row4_cells5 (KX.out.rows _ (.head _)).1
      obtain ⟨n0, n1, f0, f1⟩ := ref_cells (KX.out.rows _ (.tail _ (.head _))).1
      by_cases hsw3 : p.what % 9 = 3
      · have hsw : (p.what % 9 == (3 : Int)) = true := by rw [beq_iff_eq]; exact hsw3
        go_wp2_with (first
          | (go_at_call 12; refine (pick_any p.what 9 _ (by decide) (by decide) HWF.out.1.1 HWF.out.1.2).mono ?_; rintro e r4 ⟨rfl, rfl⟩)
          | (go_at_call 13; refine (gFuse KX.out.lg p.n HWF.out.2.1.2 HWF.out.2.1.1).mono ?_; rintro e w6 ⟨rfl, hL6, hf6⟩; (have K6 := Lib.hid (KX.out.go hL6 hf6 (fun _ h => h))); (have HA6 := Lib.hid (And.intro (HAQ.out.1.keep hf6 (fun _ _ hk => hk.1.not)) (HAQ.out.2.1.keep hf6 (fun _ _ hk => hk.1.not)))); clear hL6 hf6))
        go_roundw
        case rel => exact ⟨i + 1, by omega, by go_num, rfl, jm, rfl, Lib.hid ⟨_, h, A, Q, _, _, _, K6.out.lg, (HAQ.out.2.2.fuse p.n).next, HA6.out.1, HA6.out.2, (K6.out.rows _ (.tail _ (.head _))).1, .inl HNE.out.2.2.2, HNE.out.2.2.1⟩⟩
        case measure => simp [intOf]; omega
      · have hsw : (p.what % 9 == (3 : Int)) = false := by rw [beq_eq_false_iff_ne]; exact hsw3
        go_wp2_with (first
          | (go_at_call 12; refine (pick_any p.what 9 _ (by decide) (by decide) HWF.out.1.1 HWF.out.1.2).mono ?_; rintro e r4 ⟨rfl, rfl⟩))
        refine HTH.out.mono ?_
        rintro e w6 ⟨r1, h', dn', dv', va', vr', Y, rfl, hXY, hL6, hA6, hQ6, hf6, htold⟩
        obtain ⟨a6, m6, c6, rfl⟩ := hA6.slice5
        obtain ⟨q6, k6, d6, rfl⟩ := hQ6.slice5
        have hK6 := KX.out.go hL6 hf6 hXY
        clear x0 x1 x2 x3 n0 n1 f0 f1 HTH
        have hf7 : Fr (fun _ => False) w6 (w6.alloc (.cells #[.slice a6 m6 c6, .slice q6 k6 d6] 40)) := (Fr.refl _ _).alloc _
        have K7 := Lib.hid (hK6.new (.cells #[.slice a6 m6 c6, .slice q6 k6 d6] 40) w6.heap.size rfl)
        have up7 : ∀ k, SafeN w5 Y gn k → SafeN w5 (fun k => Y k ∨ k = w6.heap.size) gn k := fun k hk => ⟨hk.1.imp id .inl, hk.2⟩
        have HO7 := Lib.hid (show BytesIn (SafeN w5 (fun k => Y k ∨ k = w6.heap.size) gn) (w6.alloc (.cells #[.slice a6 m6 c6, .slice q6 k6 d6] 40)) (.slice aa na ca) A ∧ RowsIn (SafeN w5 (fun k => Y k ∨ k = w6.heap.size) gn) (w6.alloc (.cells #[.slice a6 m6 c6, .slice q6 k6 d6] 40)) (.slice aq nq cq) Q from ⟨((HAQ.out.1.keep hf6 (fun _ _ hk => hk.1.not)).keep hf7 (fun _ _ _ h => h)).mono (fun k _ hk => up7 k ⟨hk.1.imp id (hXY k), hk.2⟩), ((HAQ.out.2.1.keep hf6 (fun _ _ hk => hk.1.not)).keep hf7 (fun _ _ _ h => h)).mono5 (fun k _ hk => up7 k ⟨hk.1.imp id (hXY k), hk.2⟩)⟩)
        have HN7 := Lib.hid (show BytesIn (SafeN w5 (fun k => Y k ∨ k = w6.heap.size) gn) (w6.alloc (.cells #[.slice a6 m6 c6, .slice q6 k6 d6] 40)) (.slice a6 m6 c6) (thenB p A) ∧ RowsIn (SafeN w5 (fun k => Y k ∨ k = w6.heap.size) gn) (w6.alloc (.cells #[.slice a6 m6 c6, .slice q6 k6 d6] 40)) (.slice q6 k6 d6) (thenR p Q) from ⟨(hA6.keep hf7 (fun _ _ _ h => h)).mono (fun k _ hk => up7 k (hk.elim (fun h => ⟨h.1.imp id (hXY k), h.2⟩) (fun h => ⟨.inr h.2, by have := lt_of_block (KX.out.rows _ (.tail _ (.head _))).1; have := h.1; omega⟩))), (hQ6.keep hf7 (fun _ _ _ h => h)).mono5 (fun k _ hk => up7 k (hk.elim (fun h => ⟨h.1.imp id (hXY k), h.2⟩) (fun h => ⟨.inr h.2, by have := lt_of_block (KX.out.rows _ (.tail _ (.head _))).1; have := h.1; omega⟩)))⟩)
        have HNT := Lib.hid (show w6.heap.size ≠ gn ∧ gn ≠ w6.heap.size ∧ Y gn from ⟨by have := lt_of_block (hK6.rows _ (.tail _ (.head _))).1; omega, by have := lt_of_block (hK6.rows _ (.tail _ (.head _))).1; omega, hXY gn (.inl HNE.out.2.2.2)⟩)
        obtain ⟨n0, n1, f0, f1⟩ := ref_cells (K7.out.rows _ (.tail _ (.tail _ (.head _)))).1
        obtain ⟨t0, t1, _, _⟩ := ref_cells (K7.out.rows _ (.head _)).1
        obtain ⟨x0, x1, x2, x3⟩ := row4_cells5 (K7.out.rows _ (.tail _ (.head _))).1
        obtain ⟨s0, s1, s2⟩ := row3_cells (K7.out.rows _ (.tail _ (.tail _ (.tail _ (.head _))))).1
        clear hK6 hL6 hA6 hQ6 hf6 hXY hf7 up7
        rcases htold with ⟨rfl, rfl, hk⟩ | ⟨rfl, rfl, hk⟩ | ⟨rfl, rfl, hw, hwk⟩
        · have HK := Lib.hid hk
          clear hk
          go_wp2_with (first
            | (go_at_call 15; refine (is_any K7.out.lg HOK.out HK.out.up HK.out.waits HK.out.kp _ _ A Q HO7.out.1 HO7.out.2).mono ?_; rintro e w8 ⟨rfl, hf8⟩; rw [isB_eq5]; (have K8 := Lib.hid (K7.out.quiet hf8)); (have HO8 := Lib.hid (And.intro (HO7.out.1.keep hf8 (fun _ _ _ h => h)) (HO7.out.2.keep hf8 (fun _ _ _ h => h)))); clear hf8))
          go_roundw
          case rel => exact ⟨i + 1, by omega, by go_num, rfl, jm, rfl, Lib.hid ⟨_, _, A, Q, _, _, _, K8.out.lg, HK.out, HO8.out.1, HO8.out.2, (K8.out.rows _ (.tail _ (.tail _ (.head _)))).1, .inl HNT.out.2.2, HNE.out.2.2.1⟩⟩
          case measure => simp [intOf]; omega
        · have HK := Lib.hid hk
          have K8 := Lib.hid (K7.out.put (k0 := gn) (K7.out.rows (gn, _) (.tail _ (.tail _ (.head _)))).1 (.inl HNT.out.2.2) HNE.out.2.2.1 (.slice a6 m6 c6) (.slice q6 k6 d6) [] (fun r h => by cases h))
          have hp8 := (Fr.cell1 (w6.alloc (.cells #[.slice a6 m6 c6, .slice q6 k6 d6] 40)) gn 0 (.slice a6 m6 c6)).trans (Fr.cell1 _ gn 1 (.slice q6 k6 d6)) (fun k h => .inl h)
          have HN8 := Lib.hid (And.intro (HN7.out.1.keep hp8 (fun k _ hk e => hk.2 e)) (HN7.out.2.keep hp8 (fun k _ hk e => hk.2 e)))
          obtain ⟨u0, u1, _, _⟩ := ref_cells (K8.out.rows _ (.head _)).1
          clear hk hp8
          go_wp2_with (first
            | (go_at_call 15; refine (is_any K8.out.lg HOK.out HK.out.up HK.out.waits HK.out.kp _ _ (thenB p A) (thenR p Q) HN8.out.1 HN8.out.2).mono ?_; rintro e w8 ⟨rfl, hf8⟩; rw [isB_eq5]; (have K9 := Lib.hid (K8.out.quiet hf8)); (have HN9 := Lib.hid (And.intro (HN8.out.1.keep hf8 (fun _ _ _ h => h)) (HN8.out.2.keep hf8 (fun _ _ _ h => h)))); clear hf8))
          go_roundw
          case rel => exact ⟨i + 1, by omega, by go_num, rfl, jm, rfl, Lib.hid ⟨_, _, _, _, _, _, _, K9.out.lg, HK.out, HN9.out.1, HN9.out.2, (K9.out.rows _ (.head _)).1, .inl HNT.out.2.2, HNE.out.2.2.1⟩⟩
          case measure => simp [intOf]; omega
        · have HW3 := Lib.hid hw
          obtain ⟨hz, h2, hwk⟩ := hwk p.n
          clear hw
          rcases hwk with hk | hk
          · by_cases hE : A = thenB p A ∧ Q = thenR p Q
            · have hE := Lib.hid hE
              have HK := Lib.hid hk
              have HWK := Lib.hid hz
              clear hk hz
              go_wp2_with (first
                | (go_at_call 16; refine (gWake K7.out.lg p.n HWF.out.2.1.1 HWF.out.2.1.2 HW3.out).mono ?_; rintro e w8 ⟨rfl, hL8, hf8⟩; rw [HWK.out]; (have K8 := Lib.hid (K7.out.go hL8 hf8 (fun _ h => h))); (have HO8 := Lib.hid (And.intro (HO7.out.1.keep hf8 (fun _ _ hk => hk.1.not)) (HO7.out.2.keep hf8 (fun _ _ hk => hk.1.not)))); (have HM8 := Lib.hid (And.intro (HN7.out.1.keep hf8 (fun _ _ hk => hk.1.not)) (HN7.out.2.keep hf8 (fun _ _ hk => hk.1.not)))); (obtain ⟨s0, s1, s2⟩ := row3_cells (K8.out.rows _ (.tail _ (.tail _ (.tail _ (.head _))))).1); clear hL8 hf8)
                | (go_at_call 11; refine (gOpen K8.out.lg HOK.out HK.out.up HK.out.waits HK.out.kp).mono ?_; rintro e w9 ⟨jk, rfl, hL9, hfi⟩; (have K9 := Lib.hid (K8.out.go hL9 (hfi.mono (fun _ _ h => h.elim)) (fun _ h => h))); (have HO9 := Lib.hid (And.intro (HO8.out.1.keep hfi (fun _ _ _ h => h)) (HO8.out.2.keep hfi (fun _ _ _ h => h)))); (have HM9 := Lib.hid (And.intro (HM8.out.1.keep hfi (fun _ _ _ h => h)) (HM8.out.2.keep hfi (fun _ _ _ h => h)))); (obtain ⟨n0, n1, f0, f1⟩ := ref_cells (K9.out.rows _ (.tail _ (.tail _ (.head _)))).1); (obtain ⟨t0, t1, _, _⟩ := ref_cells (K9.out.rows _ (.head _)).1); clear hfi hL9)
                | (go_at_call 15; (with_reducible refine (is_any K9.out.lg HOK.out HK.out.up HK.out.waits HK.out.kp (.slice aa na ca) (.slice aq nq cq) A Q HO9.out.1 HO9.out.2).mono ?_); rintro e w10 ⟨rfl, hfi⟩; rw [isB_eq5 _ _]; (have K9 := Lib.hid (K9.out.quiet hfi)); (have HO9 := Lib.hid (And.intro (HO9.out.1.keep hfi (fun _ _ _ h => h)) (HO9.out.2.keep hfi (fun _ _ _ h => h)))); (have HM9 := Lib.hid (And.intro (HM9.out.1.keep hfi (fun _ _ _ h => h)) (HM9.out.2.keep hfi (fun _ _ _ h => h)))); (obtain ⟨n0, n1, f0, f1⟩ := ref_cells (K9.out.rows _ (.tail _ (.tail _ (.head _)))).1); (obtain ⟨t0, t1, _, _⟩ := ref_cells (K9.out.rows _ (.head _)).1); clear hfi)
                | (go_at_call 15; (with_reducible refine (is_any K9.out.lg HOK.out HK.out.up HK.out.waits HK.out.kp (.slice a6 m6 c6) (.slice q6 k6 d6) (thenB p A) (thenR p Q) HM9.out.1 HM9.out.2).mono ?_); rintro e w10 ⟨rfl, hfi⟩; rw [isB_yes5 hE.out]; (have K9 := Lib.hid (K9.out.quiet hfi)); (have HO9 := Lib.hid (And.intro (HO9.out.1.keep hfi (fun _ _ _ h => h)) (HO9.out.2.keep hfi (fun _ _ _ h => h)))); (have HM9 := Lib.hid (And.intro (HM9.out.1.keep hfi (fun _ _ _ h => h)) (HM9.out.2.keep hfi (fun _ _ _ h => h)))); (obtain ⟨n0, n1, f0, f1⟩ := ref_cells (K9.out.rows _ (.tail _ (.tail _ (.head _)))).1); (obtain ⟨t0, t1, _, _⟩ := ref_cells (K9.out.rows _ (.head _)).1); clear hfi))
              have K10 := Lib.hid (K9.out.put (k0 := gn) (K9.out.rows (gn, _) (.tail _ (.tail _ (.head _)))).1 (.inl HNT.out.2.2) HNE.out.2.2.1 (.slice a6 m6 c6) (.slice q6 k6 d6) [] (fun r h => by cases h))
              have HM10 := Lib.hid (And.intro (HM9.out.1.keep (Fr.put2 _ gn (.slice a6 m6 c6) (.slice q6 k6 d6)) (fun k _ hk e => hk.2 e)) (HM9.out.2.keep (Fr.put2 _ gn (.slice a6 m6 c6) (.slice q6 k6 d6)) (fun k _ hk e => hk.2 e)))
              go_roundw
              case rel => exact ⟨i + 1, by omega, by go_num, rfl, _, rfl, Lib.hid ⟨_, _, _, _, _, _, _, K10.out.lg, (show LgK _ l la s h2 (thenB p A) (thenR p Q) (i + 1) from by have h1 := HK.out; rwa [hE.out.1, hE.out.2] at h1), HM10.out.1, HM10.out.2, (K10.out.rows _ (.head _)).1, .inl HNT.out.2.2, HNE.out.2.2.1⟩⟩
              case measure => simp [intOf]; omega
            · have hE := Lib.hid hE
              have HK := Lib.hid hk
              have HWK := Lib.hid hz
              clear hk hz
              go_wp2_with (first
                | (go_at_call 16; refine (gWake K7.out.lg p.n HWF.out.2.1.1 HWF.out.2.1.2 HW3.out).mono ?_; rintro e w8 ⟨rfl, hL8, hf8⟩; rw [HWK.out]; (have K8 := Lib.hid (K7.out.go hL8 hf8 (fun _ h => h))); (have HO8 := Lib.hid (And.intro (HO7.out.1.keep hf8 (fun _ _ hk => hk.1.not)) (HO7.out.2.keep hf8 (fun _ _ hk => hk.1.not)))); (have HM8 := Lib.hid (And.intro (HN7.out.1.keep hf8 (fun _ _ hk => hk.1.not)) (HN7.out.2.keep hf8 (fun _ _ hk => hk.1.not)))); (obtain ⟨s0, s1, s2⟩ := row3_cells (K8.out.rows _ (.tail _ (.tail _ (.tail _ (.head _))))).1); clear hL8 hf8)
                | (go_at_call 11; refine (gOpen K8.out.lg HOK.out HK.out.up HK.out.waits HK.out.kp).mono ?_; rintro e w9 ⟨jk, rfl, hL9, hfi⟩; (have K9 := Lib.hid (K8.out.go hL9 (hfi.mono (fun _ _ h => h.elim)) (fun _ h => h))); (have HO9 := Lib.hid (And.intro (HO8.out.1.keep hfi (fun _ _ _ h => h)) (HO8.out.2.keep hfi (fun _ _ _ h => h)))); (have HM9 := Lib.hid (And.intro (HM8.out.1.keep hfi (fun _ _ _ h => h)) (HM8.out.2.keep hfi (fun _ _ _ h => h)))); (obtain ⟨n0, n1, f0, f1⟩ := ref_cells (K9.out.rows _ (.tail _ (.tail _ (.head _)))).1); (obtain ⟨t0, t1, _, _⟩ := ref_cells (K9.out.rows _ (.head _)).1); clear hfi hL9)
                | (go_at_call 15; (with_reducible refine (is_any K9.out.lg HOK.out HK.out.up HK.out.waits HK.out.kp (.slice aa na ca) (.slice aq nq cq) A Q HO9.out.1 HO9.out.2).mono ?_); rintro e w10 ⟨rfl, hfi⟩; rw [isB_eq5 _ _]; (have K9 := Lib.hid (K9.out.quiet hfi)); (have HO9 := Lib.hid (And.intro (HO9.out.1.keep hfi (fun _ _ _ h => h)) (HO9.out.2.keep hfi (fun _ _ _ h => h)))); (have HM9 := Lib.hid (And.intro (HM9.out.1.keep hfi (fun _ _ _ h => h)) (HM9.out.2.keep hfi (fun _ _ _ h => h)))); (obtain ⟨n0, n1, f0, f1⟩ := ref_cells (K9.out.rows _ (.tail _ (.tail _ (.head _)))).1); (obtain ⟨t0, t1, _, _⟩ := ref_cells (K9.out.rows _ (.head _)).1); clear hfi)
                | (go_at_call 15; (with_reducible refine (is_any K9.out.lg HOK.out HK.out.up HK.out.waits HK.out.kp (.slice a6 m6 c6) (.slice q6 k6 d6) (thenB p A) (thenR p Q) HM9.out.1 HM9.out.2).mono ?_); rintro e w10 ⟨rfl, hfi⟩; rw [isB_ne5 hE.out]; (have K9 := Lib.hid (K9.out.quiet hfi)); (have HO9 := Lib.hid (And.intro (HO9.out.1.keep hfi (fun _ _ _ h => h)) (HO9.out.2.keep hfi (fun _ _ _ h => h)))); (have HM9 := Lib.hid (And.intro (HM9.out.1.keep hfi (fun _ _ _ h => h)) (HM9.out.2.keep hfi (fun _ _ _ h => h)))); (obtain ⟨n0, n1, f0, f1⟩ := ref_cells (K9.out.rows _ (.tail _ (.tail _ (.head _)))).1); (obtain ⟨t0, t1, _, _⟩ := ref_cells (K9.out.rows _ (.head _)).1); clear hfi))
              go_roundw
              case rel => exact ⟨i + 1, by omega, by go_num, rfl, _, rfl, Lib.hid ⟨_, _, _, _, _, _, _, K9.out.lg, HK.out, HO9.out.1, HO9.out.2, (K9.out.rows _ (.tail _ (.tail _ (.head _)))).1, .inl HNT.out.2.2, HNE.out.2.2.1⟩⟩
              case measure => simp [intOf]; omega
          · by_cases hE : thenB p A = A ∧ thenR p Q = Q
            · have hE := Lib.hid hE
              have HK := Lib.hid hk
              have HWK := Lib.hid hz
              clear hk hz
              go_wp2_with (first
                | (go_at_call 16; refine (gWake K7.out.lg p.n HWF.out.2.1.1 HWF.out.2.1.2 HW3.out).mono ?_; rintro e w8 ⟨rfl, hL8, hf8⟩; rw [HWK.out]; (have K8 := Lib.hid (K7.out.go hL8 hf8 (fun _ h => h))); (have HO8 := Lib.hid (And.intro (HO7.out.1.keep hf8 (fun _ _ hk => hk.1.not)) (HO7.out.2.keep hf8 (fun _ _ hk => hk.1.not)))); (have HM8 := Lib.hid (And.intro (HN7.out.1.keep hf8 (fun _ _ hk => hk.1.not)) (HN7.out.2.keep hf8 (fun _ _ hk => hk.1.not)))); (obtain ⟨s0, s1, s2⟩ := row3_cells (K8.out.rows _ (.tail _ (.tail _ (.tail _ (.head _))))).1); clear hL8 hf8)
                | (go_at_call 11; refine (gOpen K8.out.lg HOK.out HK.out.up HK.out.waits HK.out.kp).mono ?_; rintro e w9 ⟨jk, rfl, hL9, hfi⟩; (have K9 := Lib.hid (K8.out.go hL9 (hfi.mono (fun _ _ h => h.elim)) (fun _ h => h))); (have HO9 := Lib.hid (And.intro (HO8.out.1.keep hfi (fun _ _ _ h => h)) (HO8.out.2.keep hfi (fun _ _ _ h => h)))); (have HM9 := Lib.hid (And.intro (HM8.out.1.keep hfi (fun _ _ _ h => h)) (HM8.out.2.keep hfi (fun _ _ _ h => h)))); (obtain ⟨n0, n1, f0, f1⟩ := ref_cells (K9.out.rows _ (.tail _ (.tail _ (.head _)))).1); (obtain ⟨t0, t1, _, _⟩ := ref_cells (K9.out.rows _ (.head _)).1); clear hfi hL9)
                | (go_at_call 15; (with_reducible refine (is_any K9.out.lg HOK.out HK.out.up HK.out.waits HK.out.kp (.slice aa na ca) (.slice aq nq cq) A Q HO9.out.1 HO9.out.2).mono ?_); rintro e w10 ⟨rfl, hfi⟩; rw [isB_yes5 hE.out]; (have K9 := Lib.hid (K9.out.quiet hfi)); (have HO9 := Lib.hid (And.intro (HO9.out.1.keep hfi (fun _ _ _ h => h)) (HO9.out.2.keep hfi (fun _ _ _ h => h)))); (have HM9 := Lib.hid (And.intro (HM9.out.1.keep hfi (fun _ _ _ h => h)) (HM9.out.2.keep hfi (fun _ _ _ h => h)))); (obtain ⟨n0, n1, f0, f1⟩ := ref_cells (K9.out.rows _ (.tail _ (.tail _ (.head _)))).1); (obtain ⟨t0, t1, _, _⟩ := ref_cells (K9.out.rows _ (.head _)).1); clear hfi)
                | (go_at_call 15; (with_reducible refine (is_any K9.out.lg HOK.out HK.out.up HK.out.waits HK.out.kp (.slice a6 m6 c6) (.slice q6 k6 d6) (thenB p A) (thenR p Q) HM9.out.1 HM9.out.2).mono ?_); rintro e w10 ⟨rfl, hfi⟩; rw [isB_eq5 _ _]; (have K9 := Lib.hid (K9.out.quiet hfi)); (have HO9 := Lib.hid (And.intro (HO9.out.1.keep hfi (fun _ _ _ h => h)) (HO9.out.2.keep hfi (fun _ _ _ h => h)))); (have HM9 := Lib.hid (And.intro (HM9.out.1.keep hfi (fun _ _ _ h => h)) (HM9.out.2.keep hfi (fun _ _ _ h => h)))); (obtain ⟨n0, n1, f0, f1⟩ := ref_cells (K9.out.rows _ (.tail _ (.tail _ (.head _)))).1); (obtain ⟨t0, t1, _, _⟩ := ref_cells (K9.out.rows _ (.head _)).1); clear hfi))
              have K10 := Lib.hid (K9.out.put (k0 := gn) (K9.out.rows (gn, _) (.tail _ (.tail _ (.head _)))).1 (.inl HNT.out.2.2) HNE.out.2.2.1 (.slice a6 m6 c6) (.slice q6 k6 d6) [] (fun r h => by cases h))
              have HM10 := Lib.hid (And.intro (HM9.out.1.keep (Fr.put2 _ gn (.slice a6 m6 c6) (.slice q6 k6 d6)) (fun k _ hk e => hk.2 e)) (HM9.out.2.keep (Fr.put2 _ gn (.slice a6 m6 c6) (.slice q6 k6 d6)) (fun k _ hk e => hk.2 e)))
              go_roundw
              case rel => exact ⟨i + 1, by omega, by go_num, rfl, _, rfl, Lib.hid ⟨_, _, _, _, _, _, _, K10.out.lg, HK.out, HM10.out.1, HM10.out.2, (K10.out.rows _ (.head _)).1, .inl HNT.out.2.2, HNE.out.2.2.1⟩⟩
              case measure => simp [intOf]; omega
            · have hE := Lib.hid hE
              have HK := Lib.hid hk
              have HWK := Lib.hid hz
              clear hk hz
              go_wp2_with (first
                | (go_at_call 16; refine (gWake K7.out.lg p.n HWF.out.2.1.1 HWF.out.2.1.2 HW3.out).mono ?_; rintro e w8 ⟨rfl, hL8, hf8⟩; rw [HWK.out]; (have K8 := Lib.hid (K7.out.go hL8 hf8 (fun _ h => h))); (have HO8 := Lib.hid (And.intro (HO7.out.1.keep hf8 (fun _ _ hk => hk.1.not)) (HO7.out.2.keep hf8 (fun _ _ hk => hk.1.not)))); (have HM8 := Lib.hid (And.intro (HN7.out.1.keep hf8 (fun _ _ hk => hk.1.not)) (HN7.out.2.keep hf8 (fun _ _ hk => hk.1.not)))); (obtain ⟨s0, s1, s2⟩ := row3_cells (K8.out.rows _ (.tail _ (.tail _ (.tail _ (.head _))))).1); clear hL8 hf8)
                | (go_at_call 11; refine (gOpen K8.out.lg HOK.out HK.out.up HK.out.waits HK.out.kp).mono ?_; rintro e w9 ⟨jk, rfl, hL9, hfi⟩; (have K9 := Lib.hid (K8.out.go hL9 (hfi.mono (fun _ _ h => h.elim)) (fun _ h => h))); (have HO9 := Lib.hid (And.intro (HO8.out.1.keep hfi (fun _ _ _ h => h)) (HO8.out.2.keep hfi (fun _ _ _ h => h)))); (have HM9 := Lib.hid (And.intro (HM8.out.1.keep hfi (fun _ _ _ h => h)) (HM8.out.2.keep hfi (fun _ _ _ h => h)))); (obtain ⟨n0, n1, f0, f1⟩ := ref_cells (K9.out.rows _ (.tail _ (.tail _ (.head _)))).1); (obtain ⟨t0, t1, _, _⟩ := ref_cells (K9.out.rows _ (.head _)).1); clear hfi hL9)
                | (go_at_call 15; (with_reducible refine (is_any K9.out.lg HOK.out HK.out.up HK.out.waits HK.out.kp (.slice aa na ca) (.slice aq nq cq) A Q HO9.out.1 HO9.out.2).mono ?_); rintro e w10 ⟨rfl, hfi⟩; rw [isB_ne5 hE.out]; (have K9 := Lib.hid (K9.out.quiet hfi)); (have HO9 := Lib.hid (And.intro (HO9.out.1.keep hfi (fun _ _ _ h => h)) (HO9.out.2.keep hfi (fun _ _ _ h => h)))); (have HM9 := Lib.hid (And.intro (HM9.out.1.keep hfi (fun _ _ _ h => h)) (HM9.out.2.keep hfi (fun _ _ _ h => h)))); (obtain ⟨n0, n1, f0, f1⟩ := ref_cells (K9.out.rows _ (.tail _ (.tail _ (.head _)))).1); (obtain ⟨t0, t1, _, _⟩ := ref_cells (K9.out.rows _ (.head _)).1); clear hfi)
                | (go_at_call 15; (with_reducible refine (is_any K9.out.lg HOK.out HK.out.up HK.out.waits HK.out.kp (.slice a6 m6 c6) (.slice q6 k6 d6) (thenB p A) (thenR p Q) HM9.out.1 HM9.out.2).mono ?_); rintro e w10 ⟨rfl, hfi⟩; rw [isB_eq5 _ _]; (have K9 := Lib.hid (K9.out.quiet hfi)); (have HO9 := Lib.hid (And.intro (HO9.out.1.keep hfi (fun _ _ _ h => h)) (HO9.out.2.keep hfi (fun _ _ _ h => h)))); (have HM9 := Lib.hid (And.intro (HM9.out.1.keep hfi (fun _ _ _ h => h)) (HM9.out.2.keep hfi (fun _ _ _ h => h)))); (obtain ⟨n0, n1, f0, f1⟩ := ref_cells (K9.out.rows _ (.tail _ (.tail _ (.head _)))).1); (obtain ⟨t0, t1, _, _⟩ := ref_cells (K9.out.rows _ (.head _)).1); clear hfi))
              have K10 := Lib.hid (K9.out.put (k0 := gn) (K9.out.rows (gn, _) (.tail _ (.tail _ (.head _)))).1 (.inl HNT.out.2.2) HNE.out.2.2.1 (.slice a6 m6 c6) (.slice q6 k6 d6) [] (fun r h => by cases h))
              have HM10 := Lib.hid (And.intro (HM9.out.1.keep (Fr.put2 _ gn (.slice a6 m6 c6) (.slice q6 k6 d6)) (fun k _ hk e => hk.2 e)) (HM9.out.2.keep (Fr.put2 _ gn (.slice a6 m6 c6) (.slice q6 k6 d6)) (fun k _ hk e => hk.2 e)))
              go_roundw
              case rel => exact ⟨i + 1, by omega, by go_num, rfl, _, rfl, Lib.hid ⟨_, _, _, _, _, _, _, K10.out.lg, HK.out, HM10.out.1, HM10.out.2, (K10.out.rows _ (.head _)).1, .inl HNT.out.2.2, HNE.out.2.2.1⟩⟩
              case measure => simp [intOf]; omega
    · have d1 : decide ((i : Int) < (n : Int)) = false := by rw [decide_eq_false_iff_not]; omega
      obtain ⟨dv, h, A, Q, X, va, vr, hLg, hLk, hA, hQ, hgn, hXn, hln⟩ := hR.out
      obtain ⟨aa, na, ca, rfl⟩ := hA.slice5
      obtain ⟨aq, nq, cq, rfl⟩ := hQ.slice5
      have K0 := Lib.hid (show KB w5 wr jm g s l la d h false dv X [(gn, .cells #[.slice aa na ca, .slice aq nq cq] 40 (0, 0)), (gs, .cells #[.int .i64 l, .int .i64 la, .int .i64 d] 23 (0, 0))] from ⟨hLg, fun r hr => by
        rcases List.mem_cons.1 hr with rfl | hr
        · exact ⟨hgn, .inr hXn⟩
        · obtain rfl := List.mem_singleton.1 hr
          exact ⟨hLg.fr.heap H5.out.2 id, .inl (lt_of_block H5.out.2)⟩⟩)
      have HO := Lib.hid (And.intro hA (And.intro hQ hLk))
      obtain ⟨s0, s1, s2⟩ := row3_cells (K0.out.rows _ (.tail _ (.head _))).1
      clear hR hLg hLk hA hQ hgn hXn hln
      go_wp2_with (first
        | (go_at_call 11; refine (gOpen K0.out.lg HOK.out HO.out.2.2.up HO.out.2.2.waits HO.out.2.2.kp).mono ?_; rintro e w9 ⟨jk, rfl, hL9, hfi⟩; (have K9 := Lib.hid (K0.out.go hL9 (hfi.mono (fun _ _ h => h.elim)) (fun _ h => h))); (have HO9 := Lib.hid (And.intro (HO.out.1.keep hfi (fun _ _ _ h => h)) (HO.out.2.1.keep hfi (fun _ _ _ h => h)))); (obtain ⟨n0, n1, f0, f1⟩ := ref_cells (K9.out.rows _ (.head _)).1); clear hfi hL9)
        | (go_at_call 15; refine (is_any K9.out.lg HOK.out HO.out.2.2.up HO.out.2.2.waits HO.out.2.2.kp (.slice aa na ca) (.slice aq nq cq) A Q HO9.out.1 HO9.out.2).mono ?_; rintro e w10 ⟨rfl, hfi⟩; rw [isB_eq5]; (have K10 := Lib.hid (K9.out.quiet hfi)); clear hfi))
      go_ret
      exact ⟨rfl, H5.out.1.trans K10.out.lg.fr (fun _ h => h.elim)⟩
end Go.Proofs.YtabgklcghghoiaaGreat

