/- Laid together by merge.py: JRoom -/
import Derived.Test.YtabgklcghghoiaaGreatLm26

/- Contract: the law LogRoom. Printed by gen_jroom.py (wip/gen). -/
namespace Go.Proofs.YtabgklcghghoiaaGreat
open Go.RowKit Go.ChangeShapes
set_option linter.unusedVariables false

def Rm9R (jn gs l : Nat) (i : Nat) (v : Value) (W : World) : Prop :=
  match i with
  | 0 => v = .int .i64 0
  | 1 => v = .bool false
  | 2 => v = .bool false
  | 3 => v = .pointer (some ⟨jn, 0, none⟩)
  | 4 => v = .int .i64 ((64 * l : Nat) : Int)
  | 5 => v = .pointer (some ⟨gs, 0, none⟩)
  | 6 => v = .int .i64 (l : Nat)
  | 7 => v = .int .i64 ((64 * l : Nat) : Int)
  | 8 => v = .bool false
  | 9 => v = .bool false
  | 10 => v = .bool false
  | 11 => v = .pointer (some ⟨jn, 0, none⟩)
  | 12 => v = .int .i64 1
  | 13 => v = .bool false
  | 14 => v = .bool false
  | _ => True
theorem Rm9R.ext (jn gs l : Nat) : ∀ (j : Nat) (u : Value) (W W' : World), Fr (fun _ => False) W W' → Rm9R jn gs l j u W → Rm9R jn gs l j u W'
  | 0, u, W, W', hf, h => h
  | 1, u, W, W', hf, h => h
  | 2, u, W, W', hf, h => h
  | 3, u, W, W', hf, h => h
  | 4, u, W, W', hf, h => h
  | 5, u, W, W', hf, h => h
  | 6, u, W, W', hf, h => h
  | 7, u, W, W', hf, h => h
  | 8, u, W, W', hf, h => h
  | 9, u, W, W', hf, h => h
  | 10, u, W, W', hf, h => h
  | 11, u, W, W', hf, h => h
  | 12, u, W, W', hf, h => h
  | 13, u, W, W', hf, h => h
  | 14, u, W, W', hf, h => h
  | _ + 15, u, W, W', hf, h => trivial
def RmaR (jn gs l m x : Nat) (i : Nat) (v : Value) (W : World) : Prop :=
  match i with
  | 0 => v = .int .i64 3
  | 1 => v = .bool false
  | 2 => v = .bool false
  | 3 => v = undef
  | 4 => v = undef
  | 5 => v = undef
  | 6 => v = undef
  | 7 => v = undef
  | 8 => v = undef
  | 9 => v = undef
  | 10 => v = undef
  | 11 => v = undef
  | 12 => v = undef
  | 13 => v = undef
  | 14 => v = undef
  | 15 => v = undef
  | 16 => v = undef
  | 17 => v = undef
  | 18 => v = undef
  | 19 => v = undef
  | 20 => v = undef
  | 21 => v = undef
  | 22 => v = undef
  | 23 => v = undef
  | 24 => v = undef
  | 25 => v = undef
  | 26 => v = undef
  | 27 => v = undef
  | 28 => v = undef
  | 29 => v = undef
  | 30 => v = undef
  | 31 => v = .bool false
  | _ => True
theorem RmaR.ext (jn gs l m x : Nat) : ∀ (j : Nat) (u : Value) (W W' : World), Fr (fun _ => False) W W' → RmaR jn gs l m x j u W → RmaR jn gs l m x j u W'
  | 0, u, W, W', hf, h => h
  | 1, u, W, W', hf, h => h
  | 2, u, W, W', hf, h => h
  | 3, u, W, W', hf, h => h
  | 4, u, W, W', hf, h => h
  | 5, u, W, W', hf, h => h
  | 6, u, W, W', hf, h => h
  | 7, u, W, W', hf, h => h
  | 8, u, W, W', hf, h => h
  | 9, u, W, W', hf, h => h
  | 10, u, W, W', hf, h => h
  | 11, u, W, W', hf, h => h
  | 12, u, W, W', hf, h => h
  | 13, u, W, W', hf, h => h
  | 14, u, W, W', hf, h => h
  | 15, u, W, W', hf, h => h
  | 16, u, W, W', hf, h => h
  | 17, u, W, W', hf, h => h
  | 18, u, W, W', hf, h => h
  | 19, u, W, W', hf, h => h
  | 20, u, W, W', hf, h => h
  | 21, u, W, W', hf, h => h
  | 22, u, W, W', hf, h => h
  | 23, u, W, W', hf, h => h
  | 24, u, W, W', hf, h => h
  | 25, u, W, W', hf, h => h
  | 26, u, W, W', hf, h => h
  | 27, u, W, W', hf, h => h
  | 28, u, W, W', hf, h => h
  | 29, u, W, W', hf, h => h
  | 30, u, W, W', hf, h => h
  | 31, u, W, W', hf, h => h
  | _ + 32, u, W, W', hf, h => trivial
def RmbR (jn gs l m x : Nat) (i : Nat) (v : Value) (W : World) : Prop :=
  match i with
  | 0 => v = .int .i64 0
  | 1 => v = .bool true
  | 2 => v = .bool true
  | 3 => v = .pointer (some ⟨jn, 0, none⟩)
  | 4 => v = .int .i64 ((x + 1 : Nat) : Int)
  | 5 => v = .int .i64 (x : Nat)
  | 6 => v = .int .i64 ((x + 1 : Nat) : Int)
  | 7 => v = .bool false
  | 8 => v = .bool false
  | 9 => v = .bool true
  | 10 => v = .bool true
  | 11 => v = .pointer (some ⟨jn, 0, none⟩)
  | 12 => v = .int .i64 ((64 * l : Nat) : Int)
  | 13 => v = .pointer (some ⟨gs, 0, none⟩)
  | 14 => v = .int .i64 (l : Nat)
  | 15 => v = .int .i64 ((64 * l : Nat) : Int)
  | 16 => v = .bool false
  | 17 => v = .bool false
  | 18 => v = .bool false
  | 19 => v = .bool false
  | 20 => v = .bool true
  | 21 => v = .bool false
  | 22 => v = .bool false
  | 23 => v = undef
  | 24 => v = undef
  | 25 => v = undef
  | 26 => v = undef
  | 27 => v = undef
  | 28 => v = undef
  | 29 => v = .bool false
  | 30 => v = .bool false
  | 31 => v = .bool false
  | _ => True
theorem RmbR.ext (jn gs l m x : Nat) : ∀ (j : Nat) (u : Value) (W W' : World), Fr (fun _ => False) W W' → RmbR jn gs l m x j u W → RmbR jn gs l m x j u W'
  | 0, u, W, W', hf, h => h
  | 1, u, W, W', hf, h => h
  | 2, u, W, W', hf, h => h
  | 3, u, W, W', hf, h => h
  | 4, u, W, W', hf, h => h
  | 5, u, W, W', hf, h => h
  | 6, u, W, W', hf, h => h
  | 7, u, W, W', hf, h => h
  | 8, u, W, W', hf, h => h
  | 9, u, W, W', hf, h => h
  | 10, u, W, W', hf, h => h
  | 11, u, W, W', hf, h => h
  | 12, u, W, W', hf, h => h
  | 13, u, W, W', hf, h => h
  | 14, u, W, W', hf, h => h
  | 15, u, W, W', hf, h => h
  | 16, u, W, W', hf, h => h
  | 17, u, W, W', hf, h => h
  | 18, u, W, W', hf, h => h
  | 19, u, W, W', hf, h => h
  | 20, u, W, W', hf, h => h
  | 21, u, W, W', hf, h => h
  | 22, u, W, W', hf, h => h
  | 23, u, W, W', hf, h => h
  | 24, u, W, W', hf, h => h
  | 25, u, W, W', hf, h => h
  | 26, u, W, W', hf, h => h
  | 27, u, W, W', hf, h => h
  | 28, u, W, W', hf, h => h
  | 29, u, W, W', hf, h => h
  | 30, u, W, W', hf, h => h
  | 31, u, W, W', hf, h => h
  | _ + 32, u, W, W', hf, h => trivial
def Rmc1R (jn gs l m x q m2 : Nat) (i : Nat) (v : Value) (W : World) : Prop :=
  match i with
  | 0 => v = .int .i64 0
  | 1 => v = .bool true
  | 2 => v = .bool true
  | 3 => v = .pointer (some ⟨jn, 0, none⟩)
  | 4 => v = .int .i64 ((x + 1 : Nat) : Int)
  | 5 => v = .int .i64 (x : Nat)
  | 6 => v = .int .i64 ((x + 1 : Nat) : Int)
  | 7 => v = .bool false
  | 8 => v = .bool false
  | 9 => v = .bool false
  | 10 => v = .bool false
  | 11 => v = undef
  | 12 => v = undef
  | 13 => v = undef
  | 14 => v = undef
  | 15 => v = undef
  | 16 => v = undef
  | 17 => v = .bool false
  | 18 => v = .bool false
  | 19 => v = .bool false
  | 20 => v = .bool false
  | 21 => v = .bool true
  | 22 => v = .bool true
  | 23 => v = .pointer (some ⟨jn, 0, none⟩)
  | 24 => v = .int .i64 ((m2 : Nat) : Int)
  | 25 => v = .int .i64 (m : Nat)
  | 26 => v = .int .i64 ((q : Nat) + 1)
  | 27 => v = .int .i64 ((m2 : Nat) : Int)
  | 28 => v = .bool false
  | 29 => v = .bool false
  | 30 => v = .bool false
  | 31 => v = .bool false
  | _ => True
theorem Rmc1R.ext (jn gs l m x q m2 : Nat) : ∀ (j : Nat) (u : Value) (W W' : World), Fr (fun _ => False) W W' → Rmc1R jn gs l m x q m2 j u W → Rmc1R jn gs l m x q m2 j u W'
  | 0, u, W, W', hf, h => h
  | 1, u, W, W', hf, h => h
  | 2, u, W, W', hf, h => h
  | 3, u, W, W', hf, h => h
  | 4, u, W, W', hf, h => h
  | 5, u, W, W', hf, h => h
  | 6, u, W, W', hf, h => h
  | 7, u, W, W', hf, h => h
  | 8, u, W, W', hf, h => h
  | 9, u, W, W', hf, h => h
  | 10, u, W, W', hf, h => h
  | 11, u, W, W', hf, h => h
  | 12, u, W, W', hf, h => h
  | 13, u, W, W', hf, h => h
  | 14, u, W, W', hf, h => h
  | 15, u, W, W', hf, h => h
  | 16, u, W, W', hf, h => h
  | 17, u, W, W', hf, h => h
  | 18, u, W, W', hf, h => h
  | 19, u, W, W', hf, h => h
  | 20, u, W, W', hf, h => h
  | 21, u, W, W', hf, h => h
  | 22, u, W, W', hf, h => h
  | 23, u, W, W', hf, h => h
  | 24, u, W, W', hf, h => h
  | 25, u, W, W', hf, h => h
  | 26, u, W, W', hf, h => h
  | 27, u, W, W', hf, h => h
  | 28, u, W, W', hf, h => h
  | 29, u, W, W', hf, h => h
  | 30, u, W, W', hf, h => h
  | 31, u, W, W', hf, h => h
  | _ + 32, u, W, W', hf, h => trivial
def Rmc2R (jn gs l m x q m2 : Nat) (i : Nat) (v : Value) (W : World) : Prop :=
  match i with
  | 0 => v = .int .i64 0
  | 1 => v = .bool true
  | 2 => v = .bool true
  | 3 => v = .pointer (some ⟨jn, 0, none⟩)
  | 4 => v = .int .i64 ((x + 1 : Nat) : Int)
  | 5 => v = .int .i64 (x : Nat)
  | 6 => v = .int .i64 ((x + 1 : Nat) : Int)
  | 7 => v = .bool false
  | 8 => v = .bool false
  | 9 => v = .bool false
  | 10 => v = .bool false
  | 11 => v = undef
  | 12 => v = undef
  | 13 => v = undef
  | 14 => v = undef
  | 15 => v = undef
  | 16 => v = undef
  | 17 => v = .bool false
  | 18 => v = .bool false
  | 19 => v = .bool false
  | 20 => v = .bool false
  | 21 => v = .bool true
  | 22 => v = .bool true
  | 23 => v = .pointer (some ⟨jn, 0, none⟩)
  | 24 => v = .int .i64 ((m2 : Nat) : Int)
  | 25 => v = .int .i64 (m : Nat)
  | 26 => v = .int .i64 ((q : Nat) + 2)
  | 27 => v = .int .i64 ((m2 : Nat) : Int)
  | 28 => v = .bool false
  | 29 => v = .bool false
  | 30 => v = .bool false
  | 31 => v = .bool false
  | _ => True
theorem Rmc2R.ext (jn gs l m x q m2 : Nat) : ∀ (j : Nat) (u : Value) (W W' : World), Fr (fun _ => False) W W' → Rmc2R jn gs l m x q m2 j u W → Rmc2R jn gs l m x q m2 j u W'
  | 0, u, W, W', hf, h => h
  | 1, u, W, W', hf, h => h
  | 2, u, W, W', hf, h => h
  | 3, u, W, W', hf, h => h
  | 4, u, W, W', hf, h => h
  | 5, u, W, W', hf, h => h
  | 6, u, W, W', hf, h => h
  | 7, u, W, W', hf, h => h
  | 8, u, W, W', hf, h => h
  | 9, u, W, W', hf, h => h
  | 10, u, W, W', hf, h => h
  | 11, u, W, W', hf, h => h
  | 12, u, W, W', hf, h => h
  | 13, u, W, W', hf, h => h
  | 14, u, W, W', hf, h => h
  | 15, u, W, W', hf, h => h
  | 16, u, W, W', hf, h => h
  | 17, u, W, W', hf, h => h
  | 18, u, W, W', hf, h => h
  | 19, u, W, W', hf, h => h
  | 20, u, W, W', hf, h => h
  | 21, u, W, W', hf, h => h
  | 22, u, W, W', hf, h => h
  | 23, u, W, W', hf, h => h
  | 24, u, W, W', hf, h => h
  | 25, u, W, W', hf, h => h
  | 26, u, W, W', hf, h => h
  | 27, u, W, W', hf, h => h
  | 28, u, W, W', hf, h => h
  | 29, u, W, W', hf, h => h
  | 30, u, W, W', hf, h => h
  | 31, u, W, W', hf, h => h
  | _ + 32, u, W, W', hf, h => trivial
set_option maxRecDepth 100000 in
set_option maxHeartbeats 4000000 in
theorem logRoom_great (w : World) (L A D : Int) (v : Value) (ds : List DeedD) (hds : DeedsIn (fun k => k < w.heap.size) w v ds) (hg : greatS (secsS L A D) ds = true) :
    Calls Tryz.prog 4 #[.agg #[.int .i64 L, .int .i64 A, .int .i64 D], v] w fun e w' => e = .returned (.bool true) ∧ Fr (fun _ => False) w w' := by
  have hgr := fun (W : World) (hf : Fr (fun _ => False) w W) => great_any5 W L A D (hds.keep hf (fun _ _ _ h => h))
  rw [hg] at hgr
  have HGR := Lib.hid hgr
  obtain ⟨gs, hgs⟩ : ∃ gs, gs = w.heap.size := ⟨_, rfl⟩
  obtain ⟨W1, hW1⟩ : ∃ W, W = w.alloc (.cells #[.int .i64 L, .int .i64 A, .int .i64 D] 23) := ⟨_, rfl⟩
  have H1 := Lib.hid (show Fr (fun _ => False) w W1 ∧ W1.heap[gs]? = some (.cells #[.int .i64 L, .int .i64 A, .int .i64 D] 23 (0, 0)) by
    rw [hW1, hgs]
    exact ⟨(Fr.refl _ _).alloc _, heap_alloc_new w _⟩)
  have HW := Lib.hid (And.intro hW1 hgs)

  clear hds hg hgr hW1 hgs
  go_enter Tryz.func4, Tryz.ntmps4
  go_wp2_with (first
    | (go_at_call 5; rw [← HW.out.1, ← HW.out.2]; refine (awake_any W1).mono ?_; rintro e w2 ⟨rfl, hf2⟩; (have H2 := Lib.hid (And.intro (H1.out.1.trans hf2 (fun _ h => h.elim)) (hf2.heap H1.out.2 id))); (obtain ⟨s0, s1, s2⟩ := row3_cells H2.out.2); clear hf2)
    | (go_at_call 6; refine (HGR.out w2 H2.out.1).mono ?_; rintro e w3 ⟨rfl, hf3⟩; (have H3 := Lib.hid (And.intro (H2.out.1.trans hf3 (fun _ h => h.elim)) (hf3.heap H2.out.2 id))); (obtain ⟨s0, s1, s2⟩ := row3_cells H3.out.2); clear hf3))
  go_ret
  exact ⟨rfl, H3.out.1⟩
set_option maxRecDepth 100000 in
set_option maxHeartbeats 4000000 in
theorem logRoom_wrong (w : World) (L A D : Int) (v : Value) (ds : List DeedD) (hds : DeedsIn (fun k => k < w.heap.size) w v ds) (hg : greatS (secsS L A D) ds = false) (hb : rightS L A D = false) :
    Calls Tryz.prog 4 #[.agg #[.int .i64 L, .int .i64 A, .int .i64 D], v] w fun e w' => e = .returned (.bool true) ∧ Fr (fun _ => False) w w' := by
  have hgr := fun (W : World) (hf : Fr (fun _ => False) w W) => great_any5 W L A D (hds.keep hf (fun _ _ _ h => h))
  rw [hg] at hgr
  have HGR := Lib.hid hgr
  obtain ⟨gs, hgs⟩ : ∃ gs, gs = w.heap.size := ⟨_, rfl⟩
  obtain ⟨W1, hW1⟩ : ∃ W, W = w.alloc (.cells #[.int .i64 L, .int .i64 A, .int .i64 D] 23) := ⟨_, rfl⟩
  have H1 := Lib.hid (show Fr (fun _ => False) w W1 ∧ W1.heap[gs]? = some (.cells #[.int .i64 L, .int .i64 A, .int .i64 D] 23 (0, 0)) by
    rw [hW1, hgs]
    exact ⟨(Fr.refl _ _).alloc _, heap_alloc_new w _⟩)
  have HW := Lib.hid (And.intro hW1 hgs)
  have hri := fun W => lRight_any W L A D
  rw [hb] at hri
  have HRI := Lib.hid hri
  clear hb hri
  clear hds hg hgr hW1 hgs
  go_enter Tryz.func4, Tryz.ntmps4
  go_wp2_with (first
    | (go_at_call 5; rw [← HW.out.1, ← HW.out.2]; refine (awake_any W1).mono ?_; rintro e w2 ⟨rfl, hf2⟩; (have H2 := Lib.hid (And.intro (H1.out.1.trans hf2 (fun _ h => h.elim)) (hf2.heap H1.out.2 id))); (obtain ⟨s0, s1, s2⟩ := row3_cells H2.out.2); clear hf2)
    | (go_at_call 6; refine (HGR.out w2 H2.out.1).mono ?_; rintro e w3 ⟨rfl, hf3⟩; (have H3 := Lib.hid (And.intro (H2.out.1.trans hf3 (fun _ h => h.elim)) (hf3.heap H2.out.2 id))); (obtain ⟨s0, s1, s2⟩ := row3_cells H3.out.2); clear hf3)
    | (go_at_call 7; refine (HRI.out w3).mono ?_; rintro e w4 ⟨rfl, hf4⟩; (have H4 := Lib.hid (And.intro (H3.out.1.trans hf4 (fun _ h => h.elim)) (hf4.heap H3.out.2 id))); (obtain ⟨s0, s1, s2⟩ := row3_cells H4.out.2); clear hf4))
  go_ret
  exact ⟨rfl, H4.out.1⟩
set_option maxRecDepth 100000 in
set_option maxHeartbeats 16000000 in
theorem logRoom_go (w : World) (l la d s : Nat) (v : Value) (ds : List DeedD) (hds : DeedsIn (fun k => k < w.heap.size) w v ds) (hg : greatS (secsS l la d) ds = false) (hok : ShOk l la d s) (hs60 : s ≤ 60) (hn60 : ds.length ≤ 60) (hB60 : ∀ p ∈ ds, p.B.length ≤ 6000) :
    Calls Tryz.prog 4 #[.agg #[.int .i64 l, .int .i64 la, .int .i64 d], v] w fun e w' => e = .returned (.bool true) ∧ Fr (fun _ => False) w w' := by
  have hgr := fun (W : World) (hf : Fr (fun _ => False) w W) => great_any5 W l la d (hds.keep hf (fun _ _ _ h => h))
  rw [hg] at hgr
  have HGR := Lib.hid hgr
  obtain ⟨gs, hgs⟩ : ∃ gs, gs = w.heap.size := ⟨_, rfl⟩
  obtain ⟨W1, hW1⟩ : ∃ W, W = w.alloc (.cells #[.int .i64 l, .int .i64 la, .int .i64 d] 23) := ⟨_, rfl⟩
  have H1 := Lib.hid (show Fr (fun _ => False) w W1 ∧ W1.heap[gs]? = some (.cells #[.int .i64 l, .int .i64 la, .int .i64 d] 23 (0, 0)) by
    rw [hW1, hgs]
    exact ⟨(Fr.refl _ _).alloc _, heap_alloc_new w _⟩)
  have HW := Lib.hid (And.intro hW1 hgs)
  obtain ⟨dv1, ht1, hok1⟩ := LgOk.new l la d s hok
  have HT := Lib.hid (And.intro ht1 hok1)
  have HOK := Lib.hid hok
  have HDS := Lib.hid hds
  have HBD := Lib.hid (And.intro hs60 hB60)
  have HL8 := Lib.hid hok.l8
  have hl8 := hok.l8
  have hla8 := hok.la8
  have HNS := Lib.hid (show 1 ≤ s ∧ s ≤ 8192 from ⟨by have := hok.sum; omega, hok.most⟩)
  obtain ⟨ao, cap, rfl, hd1, hd2, hd3, hd4⟩ := id hds
  obtain ⟨n, hn⟩ : ∃ n, n = ds.length := ⟨_, rfl⟩
  have hbe : ∃ b off, (0 < n → ao = some ⟨b, off, none⟩) ∧ ∀ i (h : i < ds.length), DeedAt (fun k => k < w.heap.size) w b (off + i * 4) ds[i] := by
    by_cases hl : ds = []
    · subst hl
      exact ⟨0, 0, fun h => by simp at hn; omega, fun i h => by simp at h⟩
    · obtain ⟨b, off, ha, hi⟩ := hd4 hl
      exact ⟨b, off, fun _ => ha, hi⟩
  obtain ⟨b, off, hao, hdi⟩ := hbe
  have HDI := Lib.hid hdi
  have HAO := Lib.hid hao
  have HN := Lib.hid hn
  rw [← hn] at hd1 hd2 hn60 HGR ⊢
  clear hds hg hgr hW1 hgs hok ht1 hok1 hB60 hd3 hd4 hdi hao hn
  go_enter Tryz.func4, Tryz.ntmps4
  go_wp2_with (first
    | (go_at_call 5; rw [← HW.out.1, ← HW.out.2]; refine (awake_any W1).mono ?_; rintro e w2 ⟨rfl, hf2⟩; (have H2 := Lib.hid (And.intro (H1.out.1.trans hf2 (fun _ h => h.elim)) (hf2.heap H1.out.2 id))); (obtain ⟨s0, s1, s2⟩ := row3_cells H2.out.2); clear hf2)
    | (go_at_call 6; refine (HGR.out w2 H2.out.1).mono ?_; rintro e w3 ⟨rfl, hf3⟩; (have H3 := Lib.hid (And.intro (H2.out.1.trans hf3 (fun _ h => h.elim)) (hf3.heap H2.out.2 id))); (obtain ⟨s0, s1, s2⟩ := row3_cells H3.out.2); clear hf3)
    | (go_at_call 7; refine (HOK.out.right w3).mono ?_; rintro e w4 ⟨rfl, hf4⟩; (have H4 := Lib.hid (And.intro (H3.out.1.trans hf4 (fun _ h => h.elim)) (hf4.heap H3.out.2 id))); (obtain ⟨s0, s1, s2⟩ := row3_cells H4.out.2); clear hf4)
    | (go_at_call 9; refine (lSectors_any w4 l la d s HOK.out).mono ?_; rintro e w5 ⟨rfl, hf5⟩; (have H5 := Lib.hid (And.intro (H4.out.1.trans hf5 (fun _ h => h.elim)) (hf5.heap H4.out.2 id))); (obtain ⟨s0, s1, s2⟩ := row3_cells H5.out.2); clear hf5)
    | (go_at_call 8; refine (aNew w5 s HNS.out.1 HNS.out.2).mono ?_; rintro e w6 ⟨g, rfl, hd6, hf6⟩; (have H6 := Lib.hid (And.intro (H5.out.1.trans hf6 (fun _ h => h.elim)) (hf6.heap H5.out.2 id))); (have HD6 := Lib.hid (And.intro hd6 hf6)); (obtain ⟨s0, s1, s2⟩ := row3_cells H6.out.2); clear hf6 hd6)
    | (go_at_call 10; refine (lFormat_any w6 g l la d s (Dv.new s) HOK.out HD6.out.1 (by simp [Dv.new]) (by simp [Dv.new])).mono ?_; rintro e w7 ⟨rfl, hd7, hf7⟩; rw [HT.out.1] at hd7 ⊢; (have H7 := Lib.hid (And.intro (H6.out.1.trans hf7 (fun k hk => .inr (Nat.le_trans H5.out.1.size hk))) (hf7.heap H6.out.2 (fun hh => by have h1 := lt_of_block H5.out.2; have h2 : w5.heap.size ≤ gs := hh; omega)))); (have HD7 := Lib.hid (show DevAt w7 (fun k => w5.heap.size ≤ k) g s dv1 ∧ Fr (fun _ => False) w5 w7 from ⟨hd7.mono (fun k _ hk => hk.elim id (fun h => Nat.le_trans HD6.out.2.size h)), HD6.out.2.trans hf7 (fun k hk => .inr hk)⟩)); (obtain ⟨s0, s1, s2⟩ := row3_cells H7.out.2); clear hf7 hd7)
    | (go_at_call 11; refine (gMade HD7.out.1 HD7.out.2 HOK.out HT.out.2.up HT.out.2.waits HT.out.2.kp).mono ?_; rintro e w8 ⟨jn, rfl, hL8, hf8⟩; (have H8 := Lib.hid (And.intro (H7.out.1.trans hf8 (fun _ h => h.elim)) (hf8.heap H7.out.2 id))); (have HG8 := Lib.hid hL8); (obtain ⟨s0, s1, s2⟩ := row3_cells H8.out.2); clear hf8 hL8))
  have LDL := Lib.hid (fun W (hW : Fr (fun _ => False) w8 W) => load_int5 W ⟨gs, 0, none⟩ (.int .i64 l) (cell_of_row _ _ _ _ _ _ (hW.heap H8.out.2 id)))
  have HRM := Lib.hid (fun W (hW : Fr (fun _ => False) w8 W) => show Calls Tryz.prog 17 #[.pointer (some ⟨jn, 0, none⟩)] W (fun e w' => e = .returned (.int .i64 ((64 * l : Nat) : Int)) ∧ Fr (fun _ => False) W w') from gRoom (HG8.out.quiet hW) HOK.out (Nat.zero_le _))
  have HRN := Lib.hid (fun W (hW : Fr (fun _ => False) w8 W) => show Calls Tryz.prog 18 #[.pointer (some ⟨jn, 0, none⟩)] W (fun e w' => e = .returned (.int .i64 1) ∧ Fr (fun _ => False) W w') from gRound (HG8.out.quiet hW))
  clear s0 s1 s2
  refine wp_region_inv 15 (by kernel_rfl) (by kernel_rfl) (fun W => Fr (fun _ => False) w8 W) (Rm9R jn gs l) (fun _ _ _ _ => True) (Fr (fun _ => False)) (Rm9R.ext jn gs l) (Fr.refl _ _).drew ?_ ?_
  · intro i hi o ho
    replace hi : i < 15 := hi
    obtain rfl | rfl | rfl | rfl | rfl | rfl | rfl | rfl | rfl | rfl | rfl | rfl | rfl | rfl | rfl : i = 0 ∨ i = 1 ∨ i = 2 ∨ i = 3 ∨ i = 4 ∨ i = 5 ∨ i = 6 ∨ i = 7 ∨ i = 8 ∨ i = 9 ∨ i = 10 ∨ i = 11 ∨ i = 12 ∨ i = 13 ∨ i = 14 := by omega
    · simp only [List.getElem?_cons_zero, Option.some.injEq] at ho
      subst ho
      intro a W vs hB hS hE hU
      refine wpG_plain rfl ?_
      have v8 : a.eval (.tmp 8) = .int .i64 0 := (hU 8 (by kernel_rfl)).trans rfl
      clear hE hU
      exact wp_value_inv (w' := W) (.int .i64 0) (op_move rfl v8) ⟨_, rfl, hB, Fr.refl _ _, rfl, fun _ _ _ _ _ => trivial⟩
    · simp only [List.getElem?_cons_zero, List.getElem?_cons_succ, Option.some.injEq] at ho
      subst ho
      intro a W vs hB hS hE hU
      refine wpG_plain rfl ?_
      obtain ⟨r0, e48⟩ := hE 0 48 (by kernel_rfl) (by kernel_rfl)
      have v48 : a.eval (.tmp 48) = .int .i64 0 := e48.trans r0
      clear hE hU
      exact wp_value_inv (w' := W) (.bool false) (op_bin rfl v48 rfl (guard_int W _ _ _ _ _ _ _) (neq_no)) ⟨_, rfl, hB, Fr.refl _ _, rfl, fun _ _ _ _ _ => trivial⟩
    · simp only [List.getElem?_cons_zero, List.getElem?_cons_succ, Option.some.injEq] at ho
      subst ho
      intro a W vs hB hS hE hU
      refine wpG_plain rfl ?_
      obtain ⟨r1, e49⟩ := hE 1 49 (by kernel_rfl) (by kernel_rfl)
      have v49 : a.eval (.tmp 49) = .bool false := e49.trans r1
      clear hE hU
      exact wp_value_inv (w' := W) (.bool false) (op_move rfl v49) ⟨_, rfl, hB, Fr.refl _ _, rfl, fun _ _ _ _ _ => trivial⟩
    · simp only [List.getElem?_cons_zero, List.getElem?_cons_succ, Option.some.injEq] at ho
      subst ho
      intro a W vs hB hS hE hU
      obtain ⟨r2, e50⟩ := hE 2 50 (by kernel_rfl) (by kernel_rfl)
      have v50 : a.eval (.tmp 50) = .bool false := e50.trans r2
      refine wpG_yes 2 false 50 rfl (by kernel_rfl) (by rw [hS]; first | simp | exact Nat.le_of_ble_eq_true rfl) v50 ?_
      have v7 : a.eval (.tmp 7) = .pointer (some ⟨jn, 0, none⟩) := (hU 7 (by kernel_rfl)).trans rfl
      clear hE hU
      exact wp_value_inv (w' := W) (.pointer (some ⟨jn, 0, none⟩)) (op_move rfl v7) ⟨_, rfl, hB, Fr.refl _ _, rfl, fun _ _ _ _ _ => trivial⟩
    · simp only [List.getElem?_cons_zero, List.getElem?_cons_succ, Option.some.injEq] at ho
      subst ho
      intro a W vs hB hS hE hU
      obtain ⟨r2, e50⟩ := hE 2 50 (by kernel_rfl) (by kernel_rfl)
      have v50 : a.eval (.tmp 50) = .bool false := e50.trans r2
      refine wpG_yes 2 false 50 rfl (by kernel_rfl) (by rw [hS]; first | simp | exact Nat.le_of_ble_eq_true rfl) v50 ?_
      obtain ⟨r3, e51⟩ := hE 3 51 (by kernel_rfl) (by kernel_rfl)
      have v51 : a.eval (.tmp 51) = .pointer (some ⟨jn, 0, none⟩) := e51.trans r3
      clear hE hU
      refine wp_call_inv 17 #[.tmp 51] #[34] rfl #[.pointer (some ⟨jn, 0, none⟩)] (by simp only [List.map_toArray, List.map_cons, List.map_nil, v51]) (ent___spence_log_Journal__Room _) (Post := fun v W' => v = .int .i64 ((64 * l : Nat) : Int) ∧ Fr (fun _ => False) W W') ((HRM.out W hB).mono fun e w' h => ⟨_, h.1, rfl, h.2⟩) ?_
      rintro v W' ⟨rfl, hf⟩
      exact ⟨_, rfl, hB.trans hf (fun _ h => h.elim), hf, rfl, fun _ _ _ _ _ => trivial⟩
    · simp only [List.getElem?_cons_zero, List.getElem?_cons_succ, Option.some.injEq] at ho
      subst ho
      intro a W vs hB hS hE hU
      obtain ⟨r2, e50⟩ := hE 2 50 (by kernel_rfl) (by kernel_rfl)
      have v50 : a.eval (.tmp 50) = .bool false := e50.trans r2
      refine wpG_yes 2 false 50 rfl (by kernel_rfl) (by rw [hS]; first | simp | exact Nat.le_of_ble_eq_true rfl) v50 ?_
      have v2 : a.eval (.tmp 2) = .pointer (some ⟨gs, 0, none⟩) := (hU 2 (by kernel_rfl)).trans rfl
      clear hE hU
      exact wp_value_inv (w' := W) (.pointer (some ⟨gs, 0, none⟩)) (op_fieldAddr rfl v2 (fld_spence_api_Shape_0_0 W gs)) ⟨_, rfl, hB, Fr.refl _ _, rfl, fun _ _ _ _ _ => trivial⟩
    · simp only [List.getElem?_cons_zero, List.getElem?_cons_succ, Option.some.injEq] at ho
      subst ho
      intro a W vs hB hS hE hU
      obtain ⟨r2, e50⟩ := hE 2 50 (by kernel_rfl) (by kernel_rfl)
      have v50 : a.eval (.tmp 50) = .bool false := e50.trans r2
      refine wpG_yes 2 false 50 rfl (by kernel_rfl) (by rw [hS]; first | simp | exact Nat.le_of_ble_eq_true rfl) v50 ?_
      obtain ⟨r5, e53⟩ := hE 5 53 (by kernel_rfl) (by kernel_rfl)
      have v53 : a.eval (.tmp 53) = .pointer (some ⟨gs, 0, none⟩) := e53.trans r5
      clear hE hU
      exact wp_value_inv (w' := W) (.int .i64 (l : Nat)) (op_loadAt rfl v53 (LDL.out W hB)) ⟨_, rfl, hB, Fr.refl _ _, rfl, fun _ _ _ _ _ => trivial⟩
    · simp only [List.getElem?_cons_zero, List.getElem?_cons_succ, Option.some.injEq] at ho
      subst ho
      intro a W vs hB hS hE hU
      obtain ⟨r2, e50⟩ := hE 2 50 (by kernel_rfl) (by kernel_rfl)
      have v50 : a.eval (.tmp 50) = .bool false := e50.trans r2
      refine wpG_yes 2 false 50 rfl (by kernel_rfl) (by rw [hS]; first | simp | exact Nat.le_of_ble_eq_true rfl) v50 ?_
      obtain ⟨r6, e54⟩ := hE 6 54 (by kernel_rfl) (by kernel_rfl)
      have v54 : a.eval (.tmp 54) = .int .i64 (l : Nat) := e54.trans r6
      clear hE hU
      exact wp_value_inv (w' := W) (.int .i64 ((64 * l : Nat) : Int)) (op_bin rfl rfl v54 (rfl) (mul_in5 (by push_cast; rfl) (by have := HL8.out; omega) (by have := HL8.out; omega))) ⟨_, rfl, hB, Fr.refl _ _, rfl, fun _ _ _ _ _ => trivial⟩
    · simp only [List.getElem?_cons_zero, List.getElem?_cons_succ, Option.some.injEq] at ho
      subst ho
      intro a W vs hB hS hE hU
      obtain ⟨r2, e50⟩ := hE 2 50 (by kernel_rfl) (by kernel_rfl)
      have v50 : a.eval (.tmp 50) = .bool false := e50.trans r2
      refine wpG_yes 2 false 50 rfl (by kernel_rfl) (by rw [hS]; first | simp | exact Nat.le_of_ble_eq_true rfl) v50 ?_
      obtain ⟨r4, e52⟩ := hE 4 52 (by kernel_rfl) (by kernel_rfl)
      have v52 : a.eval (.tmp 52) = .int .i64 ((64 * l : Nat) : Int) := e52.trans r4
      obtain ⟨r7, e55⟩ := hE 7 55 (by kernel_rfl) (by kernel_rfl)
      have v55 : a.eval (.tmp 55) = .int .i64 ((64 * l : Nat) : Int) := e55.trans r7
      clear hE hU
      exact wp_value_inv (w' := W) (.bool false) (op_bin rfl v52 v55 (guard_int W _ _ _ _ _ _ _) (neq_no)) ⟨_, rfl, hB, Fr.refl _ _, rfl, fun _ _ _ _ _ => trivial⟩
    · simp only [List.getElem?_cons_zero, List.getElem?_cons_succ, Option.some.injEq] at ho
      subst ho
      intro a W vs hB hS hE hU
      refine wpG_plain rfl ?_
      obtain ⟨r2, e50⟩ := hE 2 50 (by kernel_rfl) (by kernel_rfl)
      have v50 : a.eval (.tmp 50) = .bool false := e50.trans r2
      obtain ⟨r8, e56⟩ := hE 8 56 (by kernel_rfl) (by kernel_rfl)
      have v56 : a.eval (.tmp 56) = .bool false := e56.trans r8
      clear hE hU
      exact wp_value_inv (w' := W) (.bool false) (op_pick rfl v50 (by simp only [Bool.false_eq_true, if_false]; exact v56)) ⟨_, rfl, hB, Fr.refl _ _, rfl, fun _ _ _ _ _ => trivial⟩
    · simp only [List.getElem?_cons_zero, List.getElem?_cons_succ, Option.some.injEq] at ho
      subst ho
      intro a W vs hB hS hE hU
      refine wpG_plain rfl ?_
      obtain ⟨r9, e57⟩ := hE 9 57 (by kernel_rfl) (by kernel_rfl)
      have v57 : a.eval (.tmp 57) = .bool false := e57.trans r9
      clear hE hU
      exact wp_value_inv (w' := W) (.bool false) (op_move rfl v57) ⟨_, rfl, hB, Fr.refl _ _, rfl, fun _ _ _ _ _ => trivial⟩
    · simp only [List.getElem?_cons_zero, List.getElem?_cons_succ, Option.some.injEq] at ho
      subst ho
      intro a W vs hB hS hE hU
      obtain ⟨r10, e58⟩ := hE 10 58 (by kernel_rfl) (by kernel_rfl)
      have v58 : a.eval (.tmp 58) = .bool false := e58.trans r10
      refine wpG_yes 10 false 58 rfl (by kernel_rfl) (by rw [hS]; first | simp | exact Nat.le_of_ble_eq_true rfl) v58 ?_
      have v7 : a.eval (.tmp 7) = .pointer (some ⟨jn, 0, none⟩) := (hU 7 (by kernel_rfl)).trans rfl
      clear hE hU
      exact wp_value_inv (w' := W) (.pointer (some ⟨jn, 0, none⟩)) (op_move rfl v7) ⟨_, rfl, hB, Fr.refl _ _, rfl, fun _ _ _ _ _ => trivial⟩
    · simp only [List.getElem?_cons_zero, List.getElem?_cons_succ, Option.some.injEq] at ho
      subst ho
      intro a W vs hB hS hE hU
      obtain ⟨r10, e58⟩ := hE 10 58 (by kernel_rfl) (by kernel_rfl)
      have v58 : a.eval (.tmp 58) = .bool false := e58.trans r10
      refine wpG_yes 10 false 58 rfl (by kernel_rfl) (by rw [hS]; first | simp | exact Nat.le_of_ble_eq_true rfl) v58 ?_
      obtain ⟨r11, e59⟩ := hE 11 59 (by kernel_rfl) (by kernel_rfl)
      have v59 : a.eval (.tmp 59) = .pointer (some ⟨jn, 0, none⟩) := e59.trans r11
      clear hE hU
      refine wp_call_inv 18 #[.tmp 59] #[34] rfl #[.pointer (some ⟨jn, 0, none⟩)] (by simp only [List.map_toArray, List.map_cons, List.map_nil, v59]) (ent___spence_log_Journal__Round _) (Post := fun v W' => v = .int .i64 1 ∧ Fr (fun _ => False) W W') ((HRN.out W hB).mono fun e w' h => ⟨_, h.1, rfl, h.2⟩) ?_
      rintro v W' ⟨rfl, hf⟩
      exact ⟨_, rfl, hB.trans hf (fun _ h => h.elim), hf, rfl, fun _ _ _ _ _ => trivial⟩
    · simp only [List.getElem?_cons_zero, List.getElem?_cons_succ, Option.some.injEq] at ho
      subst ho
      intro a W vs hB hS hE hU
      obtain ⟨r10, e58⟩ := hE 10 58 (by kernel_rfl) (by kernel_rfl)
      have v58 : a.eval (.tmp 58) = .bool false := e58.trans r10
      refine wpG_yes 10 false 58 rfl (by kernel_rfl) (by rw [hS]; first | simp | exact Nat.le_of_ble_eq_true rfl) v58 ?_
      obtain ⟨r12, e60⟩ := hE 12 60 (by kernel_rfl) (by kernel_rfl)
      have v60 : a.eval (.tmp 60) = .int .i64 1 := e60.trans r12
      clear hE hU
      exact wp_value_inv (w' := W) (.bool false) (op_bin rfl v60 rfl (guard_int W _ _ _ _ _ _ _) (neq_no)) ⟨_, rfl, hB, Fr.refl _ _, rfl, fun _ _ _ _ _ => trivial⟩
    · simp only [List.getElem?_cons_zero, List.getElem?_cons_succ, Option.some.injEq] at ho
      subst ho
      intro a W vs hB hS hE hU
      refine wpG_plain rfl ?_
      obtain ⟨r10, e58⟩ := hE 10 58 (by kernel_rfl) (by kernel_rfl)
      have v58 : a.eval (.tmp 58) = .bool false := e58.trans r10
      obtain ⟨r13, e61⟩ := hE 13 61 (by kernel_rfl) (by kernel_rfl)
      have v61 : a.eval (.tmp 61) = .bool false := e61.trans r13
      clear hE hU
      exact wp_value_inv (w' := W) (.bool false) (op_pick rfl v58 (by simp only [Bool.false_eq_true, if_false]; exact v61)) ⟨_, rfl, hB, Fr.refl _ _, rfl, fun _ _ _ _ _ => trivial⟩
  · intro vs Wa hB0 hR0 hD
    have r62 : vs 14 = .bool false := hR0 14 (by decide)
    have HB := Lib.hid hB0
    clear hR0 hD hB0
    simp only [acts, if_true, dstAt, List.getElem?_cons_zero, List.getElem?_cons_succ, Option.bind_some, Act.put, List.setIfInBounds_toArray, List.set_cons_succ, List.set_cons_zero, List.drop_succ_cons, List.drop_nil]
    simp only [r62]
    clear r62
    go_wp2_with fail
    have HL0 := Lib.hid (show ∃ dv h B R, LgAt w5 Wa jn g s l la d h false dv (fun _ => False) ∧ LgOk dv l la s h B R 0 from ⟨_, _, _, _, HG8.out.quiet HB.out, HT.out.2⟩)
    clear HRM HRN LDL HB
    go_loopw [9] (fun iv wr => ∃ i : Nat, i ≤ n ∧ iv = .int .i64 i ∧ Hid (∃ dv h B R, LgAt w5 wr jn g s l la d h false dv (fun _ => False) ∧ LgOk dv l la s h B R i)) (fun iv _ => n - (intOf iv).toNat)
    case atStart => exact ⟨0, by omega, rfl, HL0⟩
    case round =>
      clear HL0
      obtain ⟨i, hi, rfl, hR⟩ := hrel
      by_cases hlt : i < n
      · obtain ⟨dv, h, B, R, hLg, hLo⟩ := hR.out
        have hil : i < ds.length := by have := HN.out; omega
        obtain ⟨p, hp⟩ : ∃ p, p = ds[i] := ⟨_, rfl⟩
        have hP := HDI.out i hil
        have hpB := HBD.out.2 p (by rw [hp]; exact List.getElem_mem _)
        rw [← hp] at hP
        obtain ⟨ax, cx, hx, hlx, hmx, _⟩ := hP.bytes
        have HP := Lib.hid hP
        obtain ⟨q, hq⟩ : ∃ q, q = p.B.length := ⟨_, rfl⟩
        have HQ := Lib.hid (show p.B.length = q ∧ True from ⟨hq.symm, trivial⟩)
        rw [← hq] at hpB hx hlx
        have HQX := Lib.hid hx
        have hrs := recB_small p.B (by rw [← hq]; exact hpB)
        rw [← hq] at hrs
        have hao2 := HAO.out (by omega)
        subst hao2
        obtain ⟨m, hm⟩ : ∃ m, m = 64 * l - h.used := ⟨_, rfl⟩
        obtain ⟨x, hxr⟩ : ∃ x, x = h.round := ⟨_, rfl⟩
        have HMX := Lib.hid (And.intro hm hxr)
        have HG := Lib.hid hLg
        have HO := Lib.hid hLo
        have d1 : decide ((i : Int) < (n : Int)) = true := by rw [decide_eq_true_iff]; omega
        have d3 : (i : Int) < (n : Int) := by omega
        have d4 : (0 : Int) ≤ (i : Int) := by omega
        clear hR hP hp hx hq hm hxr hLg hLo hil
        by_cases h128 : 128 ≤ q
        · have hrc : (recB p.B).length = q + 2 := by rw [hrs, if_pos h128]
          have HRC := Lib.hid hrc
          by_cases hsw2 : p.what % 9 = 2
          · have hsw : (p.what % 9 == (2 : Int)) = true := by rw [beq_iff_eq]; exact hsw2
            by_cases hf2 : q ≤ 64 * la
            · have d128 : decide ((128 : Int) ≤ (q : Int)) = true := by rw [decide_eq_true_iff]; omega
              have hfit : decide ((q : Int) ≤ 64 * (la : Int)) = true := by rw [decide_eq_true_iff]; omega
              have HA := Lib.hid (HO.out.switch HBD.out.1 (by omega) p.B (by rw [HQ.out.1]; omega))
              have HF1 := Lib.hid True.intro
              go_wp2_with (first
                | (go_at_call 17; refine (gRoom HG.out HOK.out HO.out.kp.right.used).mono ?_; rintro e r1 ⟨rfl, hr1⟩; rw [← HMX.out.1]; (have HG := Lib.hid (HG.out.quiet hr1)); clear hr1)
                | (go_at_call 18; refine (gRound HG.out).mono ?_; rintro e r2 ⟨rfl, hr2⟩; rw [← HMX.out.2]; (have HG := Lib.hid (HG.out.quiet hr2)); clear hr2)
                | (go_at_call 19; refine (gKept HG.out).mono ?_; rintro e r3 ⟨kv, rfl, hk3, hr3⟩; clear HF1; (have HG := Lib.hid (HG.out.quiet hr3)); (have HK1 := Lib.hid hk3.bytes); (have HP3 := Lib.hid (HP.out.keep (H5.out.1.trans HG.out.fr (fun _ h => h.elim)) (fun _ _ _ h => h))); (have hcw := HP3.out.what); (have hcb := HP3.out.cb); (rw [HQX.out] at hcb); (have HBY := Lib.hid (HQX.out ▸ HP3.out.bytes)); (obtain ⟨s0, s1, s2⟩ := row3_cells (HG.out.fr.heap H5.out.2 id)); clear hr3 hk3)
                | (go_at_call 12; refine (pick_any p.what 9 _ (by decide) (by decide) HP.out.wf.1.1 HP.out.wf.1.2).mono ?_; rintro e r4 ⟨rfl, rfl⟩)
                | (go_at_call 20; refine (gSwitch HG.out HOK.out HO.out.kp.right _ p.B HBY.out (by rw [HQ.out.1]; omega) (by have := HO.out.round; omega) HO.out.up HO.out.waits (by have := HO.out.deeds; omega)).mono ?_; rintro e r5 ⟨rfl, hL5, hf5⟩; rw [if_pos HA.out.1, if_pos HA.out.1] at hL5; rw [HA.out.1]; (have HG5 := Lib.hid hL5); (obtain ⟨s0, s1, s2⟩ := row3_cells (HG5.out.fr.heap H5.out.2 id)); clear hL5 hf5))
              have HRN := Lib.hid (fun W (hW : Fr (fun _ => False) r5 W) => show Calls Tryz.prog 18 #[.pointer (some ⟨jn, 0, none⟩)] W (fun e w' => e = .returned (.int .i64 ((x + 1 : Nat) : Int)) ∧ Fr (fun _ => False) W w') by rw [HMX.out.2]; exact gRound (HG5.out.quiet hW))
              have HRM := Lib.hid (fun W (hW : Fr (fun _ => False) r5 W) => show Calls Tryz.prog 17 #[.pointer (some ⟨jn, 0, none⟩)] W (fun e w' => e = .returned (.int .i64 ((64 * l : Nat) : Int)) ∧ Fr (fun _ => False) W w') from gRoom (HG5.out.quiet hW) HOK.out HA.out.2.kp.right.used)
              have LDL := Lib.hid (fun W (hW : Fr (fun _ => False) r5 W) => load_int5 W ⟨gs, 0, none⟩ (.int .i64 l) (cell_of_row _ _ _ _ _ _ ((HG5.out.quiet hW).fr.heap H5.out.2 id)))
              have HX6 := Lib.hid (show x ≤ 1000 by have := HO.out.round; have := HMX.out.2; omega)
              clear s0 s1 s2 hcw hcb d128 hfit
              refine wp_region_inv 32 (by kernel_rfl) (by kernel_rfl) (fun W => Fr (fun _ => False) r5 W) (RmbR jn gs l m x) (fun _ _ _ _ => True) (Fr (fun _ => False)) (RmbR.ext jn gs l m x) (Fr.refl _ _).drew ?_ ?_
              · intro i hi o ho
                replace hi : i < 32 := hi
                obtain rfl | rfl | rfl | rfl | rfl | rfl | rfl | rfl | rfl | rfl | rfl | rfl | rfl | rfl | rfl | rfl | rfl | rfl | rfl | rfl | rfl | rfl | rfl | rfl | rfl | rfl | rfl | rfl | rfl | rfl | rfl | rfl : i = 0 ∨ i = 1 ∨ i = 2 ∨ i = 3 ∨ i = 4 ∨ i = 5 ∨ i = 6 ∨ i = 7 ∨ i = 8 ∨ i = 9 ∨ i = 10 ∨ i = 11 ∨ i = 12 ∨ i = 13 ∨ i = 14 ∨ i = 15 ∨ i = 16 ∨ i = 17 ∨ i = 18 ∨ i = 19 ∨ i = 20 ∨ i = 21 ∨ i = 22 ∨ i = 23 ∨ i = 24 ∨ i = 25 ∨ i = 26 ∨ i = 27 ∨ i = 28 ∨ i = 29 ∨ i = 30 ∨ i = 31 := by omega
                · simp only [List.getElem?_cons_zero, Option.some.injEq] at ho
                  subst ho
                  intro a W vs hB hS hE hU
                  refine wpG_plain rfl ?_
                  have v16 : a.eval (.tmp 16) = .int .i64 0 := (hU 16 (by kernel_rfl)).trans rfl
                  clear hE hU
                  exact wp_value_inv (w' := W) (.int .i64 0) (op_move rfl v16) ⟨_, rfl, hB, Fr.refl _ _, rfl, fun _ _ _ _ _ => trivial⟩
                · simp only [List.getElem?_cons_zero, List.getElem?_cons_succ, Option.some.injEq] at ho
                  subst ho
                  intro a W vs hB hS hE hU
                  refine wpG_plain rfl ?_
                  obtain ⟨r0, e148⟩ := hE 0 148 (by kernel_rfl) (by kernel_rfl)
                  have v148 : a.eval (.tmp 148) = .int .i64 0 := e148.trans r0
                  clear hE hU
                  exact wp_value_inv (w' := W) (.bool true) (op_bin rfl v148 rfl (guard_int W _ _ _ _ _ _ _) (eql_yes)) ⟨_, rfl, hB, Fr.refl _ _, rfl, fun _ _ _ _ _ => trivial⟩
                · simp only [List.getElem?_cons_zero, List.getElem?_cons_succ, Option.some.injEq] at ho
                  subst ho
                  intro a W vs hB hS hE hU
                  refine wpG_plain rfl ?_
                  obtain ⟨r1, e149⟩ := hE 1 149 (by kernel_rfl) (by kernel_rfl)
                  have v149 : a.eval (.tmp 149) = .bool true := e149.trans r1
                  clear hE hU
                  exact wp_value_inv (w' := W) (.bool true) (op_move rfl v149) ⟨_, rfl, hB, Fr.refl _ _, rfl, fun _ _ _ _ _ => trivial⟩
                · simp only [List.getElem?_cons_zero, List.getElem?_cons_succ, Option.some.injEq] at ho
                  subst ho
                  intro a W vs hB hS hE hU
                  obtain ⟨r2, e150⟩ := hE 2 150 (by kernel_rfl) (by kernel_rfl)
                  have v150 : a.eval (.tmp 150) = .bool true := e150.trans r2
                  refine wpG_yes 2 true 150 rfl (by kernel_rfl) (by rw [hS]; first | simp | exact Nat.le_of_ble_eq_true rfl) v150 ?_
                  have v7 : a.eval (.tmp 7) = .pointer (some ⟨jn, 0, none⟩) := (hU 7 (by kernel_rfl)).trans rfl
                  clear hE hU
                  exact wp_value_inv (w' := W) (.pointer (some ⟨jn, 0, none⟩)) (op_move rfl v7) ⟨_, rfl, hB, Fr.refl _ _, rfl, fun _ _ _ _ _ => trivial⟩
                · simp only [List.getElem?_cons_zero, List.getElem?_cons_succ, Option.some.injEq] at ho
                  subst ho
                  intro a W vs hB hS hE hU
                  obtain ⟨r2, e150⟩ := hE 2 150 (by kernel_rfl) (by kernel_rfl)
                  have v150 : a.eval (.tmp 150) = .bool true := e150.trans r2
                  refine wpG_yes 2 true 150 rfl (by kernel_rfl) (by rw [hS]; first | simp | exact Nat.le_of_ble_eq_true rfl) v150 ?_
                  obtain ⟨r3, e151⟩ := hE 3 151 (by kernel_rfl) (by kernel_rfl)
                  have v151 : a.eval (.tmp 151) = .pointer (some ⟨jn, 0, none⟩) := e151.trans r3
                  clear hE hU
                  refine wp_call_inv 18 #[.tmp 151] #[34] rfl #[.pointer (some ⟨jn, 0, none⟩)] (by simp only [List.map_toArray, List.map_cons, List.map_nil, v151]) (ent___spence_log_Journal__Round _) (Post := fun v W' => v = .int .i64 ((x + 1 : Nat) : Int) ∧ Fr (fun _ => False) W W') ((HRN.out W hB).mono fun e w' h => ⟨_, h.1, rfl, h.2⟩) ?_
                  rintro v W' ⟨rfl, hf⟩
                  exact ⟨_, rfl, hB.trans hf (fun _ h => h.elim), hf, rfl, fun _ _ _ _ _ => trivial⟩
                · simp only [List.getElem?_cons_zero, List.getElem?_cons_succ, Option.some.injEq] at ho
                  subst ho
                  intro a W vs hB hS hE hU
                  obtain ⟨r2, e150⟩ := hE 2 150 (by kernel_rfl) (by kernel_rfl)
                  have v150 : a.eval (.tmp 150) = .bool true := e150.trans r2
                  refine wpG_yes 2 true 150 rfl (by kernel_rfl) (by rw [hS]; first | simp | exact Nat.le_of_ble_eq_true rfl) v150 ?_
                  have v11 : a.eval (.tmp 11) = .int .i64 (x : Nat) := (hU 11 (by kernel_rfl)).trans rfl
                  clear hE hU
                  exact wp_value_inv (w' := W) (.int .i64 (x : Nat)) (op_move rfl v11) ⟨_, rfl, hB, Fr.refl _ _, rfl, fun _ _ _ _ _ => trivial⟩
                · simp only [List.getElem?_cons_zero, List.getElem?_cons_succ, Option.some.injEq] at ho
                  subst ho
                  intro a W vs hB hS hE hU
                  obtain ⟨r2, e150⟩ := hE 2 150 (by kernel_rfl) (by kernel_rfl)
                  have v150 : a.eval (.tmp 150) = .bool true := e150.trans r2
                  refine wpG_yes 2 true 150 rfl (by kernel_rfl) (by rw [hS]; first | simp | exact Nat.le_of_ble_eq_true rfl) v150 ?_
                  obtain ⟨r5, e153⟩ := hE 5 153 (by kernel_rfl) (by kernel_rfl)
                  have v153 : a.eval (.tmp 153) = .int .i64 (x : Nat) := e153.trans r5
                  clear hE hU
                  exact wp_value_inv (w' := W) (.int .i64 ((x + 1 : Nat) : Int)) (op_bin rfl v153 rfl (rfl) (add_in5 (by push_cast; rfl) (by omega) (by have := HX6.out; omega))) ⟨_, rfl, hB, Fr.refl _ _, rfl, fun _ _ _ _ _ => trivial⟩
                · simp only [List.getElem?_cons_zero, List.getElem?_cons_succ, Option.some.injEq] at ho
                  subst ho
                  intro a W vs hB hS hE hU
                  obtain ⟨r2, e150⟩ := hE 2 150 (by kernel_rfl) (by kernel_rfl)
                  have v150 : a.eval (.tmp 150) = .bool true := e150.trans r2
                  refine wpG_yes 2 true 150 rfl (by kernel_rfl) (by rw [hS]; first | simp | exact Nat.le_of_ble_eq_true rfl) v150 ?_
                  obtain ⟨r4, e152⟩ := hE 4 152 (by kernel_rfl) (by kernel_rfl)
                  have v152 : a.eval (.tmp 152) = .int .i64 ((x + 1 : Nat) : Int) := e152.trans r4
                  obtain ⟨r6, e154⟩ := hE 6 154 (by kernel_rfl) (by kernel_rfl)
                  have v154 : a.eval (.tmp 154) = .int .i64 ((x + 1 : Nat) : Int) := e154.trans r6
                  clear hE hU
                  exact wp_value_inv (w' := W) (.bool false) (op_bin rfl v152 v154 (guard_int W _ _ _ _ _ _ _) (neq_no)) ⟨_, rfl, hB, Fr.refl _ _, rfl, fun _ _ _ _ _ => trivial⟩
                · simp only [List.getElem?_cons_zero, List.getElem?_cons_succ, Option.some.injEq] at ho
                  subst ho
                  intro a W vs hB hS hE hU
                  obtain ⟨r2, e150⟩ := hE 2 150 (by kernel_rfl) (by kernel_rfl)
                  have v150 : a.eval (.tmp 150) = .bool true := e150.trans r2
                  refine wpG_yes 2 true 150 rfl (by kernel_rfl) (by rw [hS]; first | simp | exact Nat.le_of_ble_eq_true rfl) v150 ?_
                  obtain ⟨r7, e155⟩ := hE 7 155 (by kernel_rfl) (by kernel_rfl)
                  have v155 : a.eval (.tmp 155) = .bool false := e155.trans r7
                  clear hE hU
                  exact wp_value_inv (w' := W) (.bool false) (op_move rfl v155) ⟨_, rfl, hB, Fr.refl _ _, rfl, fun _ _ _ _ _ => trivial⟩
                · simp only [List.getElem?_cons_zero, List.getElem?_cons_succ, Option.some.injEq] at ho
                  subst ho
                  intro a W vs hB hS hE hU
                  obtain ⟨r8, e156⟩ := hE 8 156 (by kernel_rfl) (by kernel_rfl)
                  have v156 : a.eval (.tmp 156) = .bool false := e156.trans r8
                  refine wpG_yes 8 false 156 rfl (by kernel_rfl) (by rw [hS]; first | simp | exact Nat.le_of_ble_eq_true rfl) v156 ?_
                  have v15 : a.eval (.tmp 15) = .bool true := (hU 15 (by kernel_rfl)).trans rfl
                  clear hE hU
                  exact wp_value_inv (w' := W) (.bool true) (op_move rfl v15) ⟨_, rfl, hB, Fr.refl _ _, rfl, fun _ _ _ _ _ => trivial⟩
                · simp only [List.getElem?_cons_zero, List.getElem?_cons_succ, Option.some.injEq] at ho
                  subst ho
                  intro a W vs hB hS hE hU
                  obtain ⟨r8, e156⟩ := hE 8 156 (by kernel_rfl) (by kernel_rfl)
                  have v156 : a.eval (.tmp 156) = .bool false := e156.trans r8
                  refine wpG_yes 8 false 156 rfl (by kernel_rfl) (by rw [hS]; first | simp | exact Nat.le_of_ble_eq_true rfl) v156 ?_
                  obtain ⟨r9, e157⟩ := hE 9 157 (by kernel_rfl) (by kernel_rfl)
                  have v157 : a.eval (.tmp 157) = .bool true := e157.trans r9
                  clear hE hU
                  exact wp_value_inv (w' := W) (.bool true) (op_move rfl v157) ⟨_, rfl, hB, Fr.refl _ _, rfl, fun _ _ _ _ _ => trivial⟩
                · simp only [List.getElem?_cons_zero, List.getElem?_cons_succ, Option.some.injEq] at ho
                  subst ho
                  intro a W vs hB hS hE hU
                  obtain ⟨r10, e158⟩ := hE 10 158 (by kernel_rfl) (by kernel_rfl)
                  have v158 : a.eval (.tmp 158) = .bool true := e158.trans r10
                  refine wpG_yes 10 true 158 rfl (by kernel_rfl) (by rw [hS]; first | simp | exact Nat.le_of_ble_eq_true rfl) v158 ?_
                  have v7 : a.eval (.tmp 7) = .pointer (some ⟨jn, 0, none⟩) := (hU 7 (by kernel_rfl)).trans rfl
                  clear hE hU
                  exact wp_value_inv (w' := W) (.pointer (some ⟨jn, 0, none⟩)) (op_move rfl v7) ⟨_, rfl, hB, Fr.refl _ _, rfl, fun _ _ _ _ _ => trivial⟩
                · simp only [List.getElem?_cons_zero, List.getElem?_cons_succ, Option.some.injEq] at ho
                  subst ho
                  intro a W vs hB hS hE hU
                  obtain ⟨r10, e158⟩ := hE 10 158 (by kernel_rfl) (by kernel_rfl)
                  have v158 : a.eval (.tmp 158) = .bool true := e158.trans r10
                  refine wpG_yes 10 true 158 rfl (by kernel_rfl) (by rw [hS]; first | simp | exact Nat.le_of_ble_eq_true rfl) v158 ?_
                  obtain ⟨r11, e159⟩ := hE 11 159 (by kernel_rfl) (by kernel_rfl)
                  have v159 : a.eval (.tmp 159) = .pointer (some ⟨jn, 0, none⟩) := e159.trans r11
                  clear hE hU
                  refine wp_call_inv 17 #[.tmp 159] #[34] rfl #[.pointer (some ⟨jn, 0, none⟩)] (by simp only [List.map_toArray, List.map_cons, List.map_nil, v159]) (ent___spence_log_Journal__Room _) (Post := fun v W' => v = .int .i64 ((64 * l : Nat) : Int) ∧ Fr (fun _ => False) W W') ((HRM.out W hB).mono fun e w' h => ⟨_, h.1, rfl, h.2⟩) ?_
                  rintro v W' ⟨rfl, hf⟩
                  exact ⟨_, rfl, hB.trans hf (fun _ h => h.elim), hf, rfl, fun _ _ _ _ _ => trivial⟩
                · simp only [List.getElem?_cons_zero, List.getElem?_cons_succ, Option.some.injEq] at ho
                  subst ho
                  intro a W vs hB hS hE hU
                  obtain ⟨r10, e158⟩ := hE 10 158 (by kernel_rfl) (by kernel_rfl)
                  have v158 : a.eval (.tmp 158) = .bool true := e158.trans r10
                  refine wpG_yes 10 true 158 rfl (by kernel_rfl) (by rw [hS]; first | simp | exact Nat.le_of_ble_eq_true rfl) v158 ?_
                  have v2 : a.eval (.tmp 2) = .pointer (some ⟨gs, 0, none⟩) := (hU 2 (by kernel_rfl)).trans rfl
                  clear hE hU
                  exact wp_value_inv (w' := W) (.pointer (some ⟨gs, 0, none⟩)) (op_fieldAddr rfl v2 (fld_spence_api_Shape_0_0 W gs)) ⟨_, rfl, hB, Fr.refl _ _, rfl, fun _ _ _ _ _ => trivial⟩
                · simp only [List.getElem?_cons_zero, List.getElem?_cons_succ, Option.some.injEq] at ho
                  subst ho
                  intro a W vs hB hS hE hU
                  obtain ⟨r10, e158⟩ := hE 10 158 (by kernel_rfl) (by kernel_rfl)
                  have v158 : a.eval (.tmp 158) = .bool true := e158.trans r10
                  refine wpG_yes 10 true 158 rfl (by kernel_rfl) (by rw [hS]; first | simp | exact Nat.le_of_ble_eq_true rfl) v158 ?_
                  obtain ⟨r13, e161⟩ := hE 13 161 (by kernel_rfl) (by kernel_rfl)
                  have v161 : a.eval (.tmp 161) = .pointer (some ⟨gs, 0, none⟩) := e161.trans r13
                  clear hE hU
                  exact wp_value_inv (w' := W) (.int .i64 (l : Nat)) (op_loadAt rfl v161 (LDL.out W hB)) ⟨_, rfl, hB, Fr.refl _ _, rfl, fun _ _ _ _ _ => trivial⟩
                · simp only [List.getElem?_cons_zero, List.getElem?_cons_succ, Option.some.injEq] at ho
                  subst ho
                  intro a W vs hB hS hE hU
                  obtain ⟨r10, e158⟩ := hE 10 158 (by kernel_rfl) (by kernel_rfl)
                  have v158 : a.eval (.tmp 158) = .bool true := e158.trans r10
                  refine wpG_yes 10 true 158 rfl (by kernel_rfl) (by rw [hS]; first | simp | exact Nat.le_of_ble_eq_true rfl) v158 ?_
                  obtain ⟨r14, e162⟩ := hE 14 162 (by kernel_rfl) (by kernel_rfl)
                  have v162 : a.eval (.tmp 162) = .int .i64 (l : Nat) := e162.trans r14
                  clear hE hU
                  exact wp_value_inv (w' := W) (.int .i64 ((64 * l : Nat) : Int)) (op_bin rfl rfl v162 (rfl) (mul_in5 (by push_cast; rfl) (by have := HL8.out; omega) (by have := HL8.out; omega))) ⟨_, rfl, hB, Fr.refl _ _, rfl, fun _ _ _ _ _ => trivial⟩
                · simp only [List.getElem?_cons_zero, List.getElem?_cons_succ, Option.some.injEq] at ho
                  subst ho
                  intro a W vs hB hS hE hU
                  obtain ⟨r10, e158⟩ := hE 10 158 (by kernel_rfl) (by kernel_rfl)
                  have v158 : a.eval (.tmp 158) = .bool true := e158.trans r10
                  refine wpG_yes 10 true 158 rfl (by kernel_rfl) (by rw [hS]; first | simp | exact Nat.le_of_ble_eq_true rfl) v158 ?_
                  obtain ⟨r12, e160⟩ := hE 12 160 (by kernel_rfl) (by kernel_rfl)
                  have v160 : a.eval (.tmp 160) = .int .i64 ((64 * l : Nat) : Int) := e160.trans r12
                  obtain ⟨r15, e163⟩ := hE 15 163 (by kernel_rfl) (by kernel_rfl)
                  have v163 : a.eval (.tmp 163) = .int .i64 ((64 * l : Nat) : Int) := e163.trans r15
                  clear hE hU
                  exact wp_value_inv (w' := W) (.bool false) (op_bin rfl v160 v163 (guard_int W _ _ _ _ _ _ _) (neq_no)) ⟨_, rfl, hB, Fr.refl _ _, rfl, fun _ _ _ _ _ => trivial⟩
                · simp only [List.getElem?_cons_zero, List.getElem?_cons_succ, Option.some.injEq] at ho
                  subst ho
                  intro a W vs hB hS hE hU
                  obtain ⟨r8, e156⟩ := hE 8 156 (by kernel_rfl) (by kernel_rfl)
                  have v156 : a.eval (.tmp 156) = .bool false := e156.trans r8
                  refine wpG_yes 8 false 156 rfl (by kernel_rfl) (by rw [hS]; first | simp | exact Nat.le_of_ble_eq_true rfl) v156 ?_
                  obtain ⟨r10, e158⟩ := hE 10 158 (by kernel_rfl) (by kernel_rfl)
                  have v158 : a.eval (.tmp 158) = .bool true := e158.trans r10
                  obtain ⟨r16, e164⟩ := hE 16 164 (by kernel_rfl) (by kernel_rfl)
                  have v164 : a.eval (.tmp 164) = .bool false := e164.trans r16
                  clear hE hU
                  exact wp_value_inv (w' := W) (.bool false) (op_pick rfl v158 (by simp only [if_true]; exact v164)) ⟨_, rfl, hB, Fr.refl _ _, rfl, fun _ _ _ _ _ => trivial⟩
                · simp only [List.getElem?_cons_zero, List.getElem?_cons_succ, Option.some.injEq] at ho
                  subst ho
                  intro a W vs hB hS hE hU
                  obtain ⟨r2, e150⟩ := hE 2 150 (by kernel_rfl) (by kernel_rfl)
                  have v150 : a.eval (.tmp 150) = .bool true := e150.trans r2
                  refine wpG_yes 2 true 150 rfl (by kernel_rfl) (by rw [hS]; first | simp | exact Nat.le_of_ble_eq_true rfl) v150 ?_
                  obtain ⟨r8, e156⟩ := hE 8 156 (by kernel_rfl) (by kernel_rfl)
                  have v156 : a.eval (.tmp 156) = .bool false := e156.trans r8
                  obtain ⟨r17, e165⟩ := hE 17 165 (by kernel_rfl) (by kernel_rfl)
                  have v165 : a.eval (.tmp 165) = .bool false := e165.trans r17
                  clear hE hU
                  exact wp_value_inv (w' := W) (.bool false) (op_pick rfl v156 (by simp only [Bool.false_eq_true, if_false]; exact v165)) ⟨_, rfl, hB, Fr.refl _ _, rfl, fun _ _ _ _ _ => trivial⟩
                · simp only [List.getElem?_cons_zero, List.getElem?_cons_succ, Option.some.injEq] at ho
                  subst ho
                  intro a W vs hB hS hE hU
                  obtain ⟨r2, e150⟩ := hE 2 150 (by kernel_rfl) (by kernel_rfl)
                  have v150 : a.eval (.tmp 150) = .bool true := e150.trans r2
                  refine wpG_yes 2 true 150 rfl (by kernel_rfl) (by rw [hS]; first | simp | exact Nat.le_of_ble_eq_true rfl) v150 ?_
                  obtain ⟨r18, e166⟩ := hE 18 166 (by kernel_rfl) (by kernel_rfl)
                  have v166 : a.eval (.tmp 166) = .bool false := e166.trans r18
                  clear hE hU
                  exact wp_value_inv (w' := W) (.bool false) (op_move rfl v166) ⟨_, rfl, hB, Fr.refl _ _, rfl, fun _ _ _ _ _ => trivial⟩
                · simp only [List.getElem?_cons_zero, List.getElem?_cons_succ, Option.some.injEq] at ho
                  subst ho
                  intro a W vs hB hS hE hU
                  obtain ⟨r19, e167⟩ := hE 19 167 (by kernel_rfl) (by kernel_rfl)
                  have v167 : a.eval (.tmp 167) = .bool false := e167.trans r19
                  refine wpG_yes 19 false 167 rfl (by kernel_rfl) (by rw [hS]; first | simp | exact Nat.le_of_ble_eq_true rfl) v167 ?_
                  have v15 : a.eval (.tmp 15) = .bool true := (hU 15 (by kernel_rfl)).trans rfl
                  clear hE hU
                  exact wp_value_inv (w' := W) (.bool true) (op_move rfl v15) ⟨_, rfl, hB, Fr.refl _ _, rfl, fun _ _ _ _ _ => trivial⟩
                · simp only [List.getElem?_cons_zero, List.getElem?_cons_succ, Option.some.injEq] at ho
                  subst ho
                  intro a W vs hB hS hE hU
                  obtain ⟨r19, e167⟩ := hE 19 167 (by kernel_rfl) (by kernel_rfl)
                  have v167 : a.eval (.tmp 167) = .bool false := e167.trans r19
                  refine wpG_yes 19 false 167 rfl (by kernel_rfl) (by rw [hS]; first | simp | exact Nat.le_of_ble_eq_true rfl) v167 ?_
                  obtain ⟨r20, e168⟩ := hE 20 168 (by kernel_rfl) (by kernel_rfl)
                  have v168 : a.eval (.tmp 168) = .bool true := e168.trans r20
                  clear hE hU
                  exact wp_value_inv (w' := W) (.bool false) (op_unop rfl v168 (by rfl)) ⟨_, rfl, hB, Fr.refl _ _, rfl, fun _ _ _ _ _ => trivial⟩
                · simp only [List.getElem?_cons_zero, List.getElem?_cons_succ, Option.some.injEq] at ho
                  subst ho
                  intro a W vs hB hS hE hU
                  obtain ⟨r19, e167⟩ := hE 19 167 (by kernel_rfl) (by kernel_rfl)
                  have v167 : a.eval (.tmp 167) = .bool false := e167.trans r19
                  refine wpG_yes 19 false 167 rfl (by kernel_rfl) (by rw [hS]; first | simp | exact Nat.le_of_ble_eq_true rfl) v167 ?_
                  obtain ⟨r21, e169⟩ := hE 21 169 (by kernel_rfl) (by kernel_rfl)
                  have v169 : a.eval (.tmp 169) = .bool false := e169.trans r21
                  clear hE hU
                  exact wp_value_inv (w' := W) (.bool false) (op_move rfl v169) ⟨_, rfl, hB, Fr.refl _ _, rfl, fun _ _ _ _ _ => trivial⟩
                · simp only [List.getElem?_cons_zero, List.getElem?_cons_succ, Option.some.injEq] at ho
                  subst ho
                  intro a W vs hB hS hE hU
                  obtain ⟨r22, e170⟩ := hE 22 170 (by kernel_rfl) (by kernel_rfl)
                  have v170 : a.eval (.tmp 170) = .bool false := e170.trans r22
                  exact wpG_no 22 true 170 rfl (by kernel_rfl) (by rw [hS]; first | simp | exact Nat.le_of_ble_eq_true rfl) v170 ⟨_, rfl, hB, Fr.refl _ _, rfl, fun _ _ _ _ _ => trivial⟩
                · simp only [List.getElem?_cons_zero, List.getElem?_cons_succ, Option.some.injEq] at ho
                  subst ho
                  intro a W vs hB hS hE hU
                  obtain ⟨r22, e170⟩ := hE 22 170 (by kernel_rfl) (by kernel_rfl)
                  have v170 : a.eval (.tmp 170) = .bool false := e170.trans r22
                  exact wpG_no 22 true 170 rfl (by kernel_rfl) (by rw [hS]; first | simp | exact Nat.le_of_ble_eq_true rfl) v170 ⟨_, rfl, hB, Fr.refl _ _, rfl, fun _ _ _ _ _ => trivial⟩
                · simp only [List.getElem?_cons_zero, List.getElem?_cons_succ, Option.some.injEq] at ho
                  subst ho
                  intro a W vs hB hS hE hU
                  obtain ⟨r22, e170⟩ := hE 22 170 (by kernel_rfl) (by kernel_rfl)
                  have v170 : a.eval (.tmp 170) = .bool false := e170.trans r22
                  exact wpG_no 22 true 170 rfl (by kernel_rfl) (by rw [hS]; first | simp | exact Nat.le_of_ble_eq_true rfl) v170 ⟨_, rfl, hB, Fr.refl _ _, rfl, fun _ _ _ _ _ => trivial⟩
                · simp only [List.getElem?_cons_zero, List.getElem?_cons_succ, Option.some.injEq] at ho
                  subst ho
                  intro a W vs hB hS hE hU
                  obtain ⟨r22, e170⟩ := hE 22 170 (by kernel_rfl) (by kernel_rfl)
                  have v170 : a.eval (.tmp 170) = .bool false := e170.trans r22
                  exact wpG_no 22 true 170 rfl (by kernel_rfl) (by rw [hS]; first | simp | exact Nat.le_of_ble_eq_true rfl) v170 ⟨_, rfl, hB, Fr.refl _ _, rfl, fun _ _ _ _ _ => trivial⟩
                · simp only [List.getElem?_cons_zero, List.getElem?_cons_succ, Option.some.injEq] at ho
                  subst ho
                  intro a W vs hB hS hE hU
                  obtain ⟨r22, e170⟩ := hE 22 170 (by kernel_rfl) (by kernel_rfl)
                  have v170 : a.eval (.tmp 170) = .bool false := e170.trans r22
                  exact wpG_no 22 true 170 rfl (by kernel_rfl) (by rw [hS]; first | simp | exact Nat.le_of_ble_eq_true rfl) v170 ⟨_, rfl, hB, Fr.refl _ _, rfl, fun _ _ _ _ _ => trivial⟩
                · simp only [List.getElem?_cons_zero, List.getElem?_cons_succ, Option.some.injEq] at ho
                  subst ho
                  intro a W vs hB hS hE hU
                  obtain ⟨r22, e170⟩ := hE 22 170 (by kernel_rfl) (by kernel_rfl)
                  have v170 : a.eval (.tmp 170) = .bool false := e170.trans r22
                  exact wpG_no 22 true 170 rfl (by kernel_rfl) (by rw [hS]; first | simp | exact Nat.le_of_ble_eq_true rfl) v170 ⟨_, rfl, hB, Fr.refl _ _, rfl, fun _ _ _ _ _ => trivial⟩
                · simp only [List.getElem?_cons_zero, List.getElem?_cons_succ, Option.some.injEq] at ho
                  subst ho
                  intro a W vs hB hS hE hU
                  obtain ⟨r19, e167⟩ := hE 19 167 (by kernel_rfl) (by kernel_rfl)
                  have v167 : a.eval (.tmp 167) = .bool false := e167.trans r19
                  refine wpG_yes 19 false 167 rfl (by kernel_rfl) (by rw [hS]; first | simp | exact Nat.le_of_ble_eq_true rfl) v167 ?_
                  obtain ⟨r22, e170⟩ := hE 22 170 (by kernel_rfl) (by kernel_rfl)
                  have v170 : a.eval (.tmp 170) = .bool false := e170.trans r22
                  clear hE hU
                  exact wp_value_inv (w' := W) (.bool false) (op_pick rfl v170 (by simp only [Bool.false_eq_true, if_false]; rfl)) ⟨_, rfl, hB, Fr.refl _ _, rfl, fun _ _ _ _ _ => trivial⟩
                · simp only [List.getElem?_cons_zero, List.getElem?_cons_succ, Option.some.injEq] at ho
                  subst ho
                  intro a W vs hB hS hE hU
                  obtain ⟨r2, e150⟩ := hE 2 150 (by kernel_rfl) (by kernel_rfl)
                  have v150 : a.eval (.tmp 150) = .bool true := e150.trans r2
                  refine wpG_yes 2 true 150 rfl (by kernel_rfl) (by rw [hS]; first | simp | exact Nat.le_of_ble_eq_true rfl) v150 ?_
                  obtain ⟨r19, e167⟩ := hE 19 167 (by kernel_rfl) (by kernel_rfl)
                  have v167 : a.eval (.tmp 167) = .bool false := e167.trans r19
                  obtain ⟨r29, e177⟩ := hE 29 177 (by kernel_rfl) (by kernel_rfl)
                  have v177 : a.eval (.tmp 177) = .bool false := e177.trans r29
                  clear hE hU
                  exact wp_value_inv (w' := W) (.bool false) (op_pick rfl v167 (by simp only [Bool.false_eq_true, if_false]; exact v177)) ⟨_, rfl, hB, Fr.refl _ _, rfl, fun _ _ _ _ _ => trivial⟩
                · simp only [List.getElem?_cons_zero, List.getElem?_cons_succ, Option.some.injEq] at ho
                  subst ho
                  intro a W vs hB hS hE hU
                  refine wpG_plain rfl ?_
                  obtain ⟨r2, e150⟩ := hE 2 150 (by kernel_rfl) (by kernel_rfl)
                  have v150 : a.eval (.tmp 150) = .bool true := e150.trans r2
                  obtain ⟨r30, e178⟩ := hE 30 178 (by kernel_rfl) (by kernel_rfl)
                  have v178 : a.eval (.tmp 178) = .bool false := e178.trans r30
                  clear hE hU
                  exact wp_value_inv (w' := W) (.bool false) (op_pick rfl v150 (by simp only [if_true]; exact v178)) ⟨_, rfl, hB, Fr.refl _ _, rfl, fun _ _ _ _ _ => trivial⟩
              · intro vs Wb hB0 hR0 hD
                have r179 : vs 31 = .bool false := hR0 31 (by decide)
                have HB9 := Lib.hid hB0
                clear hR0 hD hB0
                simp only [acts, if_true, dstAt, List.getElem?_cons_zero, List.getElem?_cons_succ, Option.bind_some, Act.put, List.setIfInBounds_toArray, List.set_cons_succ, List.set_cons_zero, List.drop_succ_cons, List.drop_nil]
                simp only [r179]
                clear r179
                go_wp2_with fail
                go_roundw
                case rel => exact ⟨i + 1, by omega, by go_num, Lib.hid ⟨_, _, _, _, HG5.out.quiet HB9.out, HA.out.2⟩⟩
                case measure => simp [intOf]; omega
            · have d128 : decide ((128 : Int) ≤ (q : Int)) = true := by rw [decide_eq_true_iff]; omega
              have hfit : decide ((q : Int) ≤ 64 * (la : Int)) = false := by rw [decide_eq_false_iff_not]; omega
              have HF1 := Lib.hid True.intro
              go_wp2_with (first
                | (go_at_call 17; refine (gRoom HG.out HOK.out HO.out.kp.right.used).mono ?_; rintro e r1 ⟨rfl, hr1⟩; rw [← HMX.out.1]; (have HG := Lib.hid (HG.out.quiet hr1)); clear hr1)
                | (go_at_call 18; refine (gRound HG.out).mono ?_; rintro e r2 ⟨rfl, hr2⟩; rw [← HMX.out.2]; (have HG := Lib.hid (HG.out.quiet hr2)); clear hr2)
                | (go_at_call 19; refine (gKept HG.out).mono ?_; rintro e r3 ⟨kv, rfl, hk3, hr3⟩; clear HF1; (have HG := Lib.hid (HG.out.quiet hr3)); (have HK1 := Lib.hid hk3.bytes); (have HP3 := Lib.hid (HP.out.keep (H5.out.1.trans HG.out.fr (fun _ h => h.elim)) (fun _ _ _ h => h))); (have hcw := HP3.out.what); (have hcb := HP3.out.cb); (rw [HQX.out] at hcb); (have HBY := Lib.hid (HQX.out ▸ HP3.out.bytes)); (obtain ⟨s0, s1, s2⟩ := row3_cells (HG.out.fr.heap H5.out.2 id)); clear hr3 hk3)
                | (go_at_call 12; refine (pick_any p.what 9 _ (by decide) (by decide) HP.out.wf.1.1 HP.out.wf.1.2).mono ?_; rintro e r4 ⟨rfl, rfl⟩))
              refine (jSwitch_long (D := fun _ => False) _ jn g s l la d h _ p.B HOK.out.l8 HOK.out.la8 HO.out.kp.right HG.out.jrn HBY.out (by rw [HQ.out.1]; omega)).mono ?_
              rintro e r5 ⟨rfl, hf5⟩
              have HG := Lib.hid (HG.out.quiet hf5)
              have HK1 := Lib.hid (HK1.out.keep hf5 (fun _ _ _ h => h))
              obtain ⟨s0, s1, s2⟩ := row3_cells (HG.out.fr.heap H5.out.2 id)
              clear hf5
              go_wp2_with (first
                | (go_at_call 17; refine (gRoom HG.out HOK.out HO.out.kp.right.used).mono ?_; rintro e r6 ⟨rfl, hr1⟩; rw [← HMX.out.1]; (have HG := Lib.hid (HG.out.quiet hr1)); (have HK1 := Lib.hid (HK1.out.keep hr1 (fun _ _ _ h => h))); clear hr1)
                | (go_at_call 18; refine (gRound HG.out).mono ?_; rintro e r7 ⟨rfl, hr2⟩; rw [← HMX.out.2]; (have HG := Lib.hid (HG.out.quiet hr2)); (have HK1 := Lib.hid (HK1.out.keep hr2 (fun _ _ _ h => h))); clear hr2)
                | (go_at_call 19; refine (gKept HG.out).mono ?_; rintro e r8 ⟨kw, rfl, hk7, hr7⟩; (have HG := Lib.hid (HG.out.quiet hr7)); (have HK1 := Lib.hid (HK1.out.keep hr7 (fun _ _ _ h => h))); (have HK2 := Lib.hid hk7.bytes); clear hr7 hk7)
                | (go_at_call 22; refine (same_any _ _ dv.all dv.all _ HK2.out HK1.out).mono ?_; rintro e r9 ⟨rfl, hdr⟩; rw [sameB_eq rfl]; (have HG := Lib.hid (show LgAt w5 r9 jn g s l la d h false dv (fun _ => False) by obtain ⟨nn, rfl⟩ := hdr; exact HG.out.quiet ((Fr.refl _ _).drewN nn))); clear hdr))
              clear s0 s1 s2 hcw hcb d128 hfit
              refine wp_region_inv 32 (by kernel_rfl) (by kernel_rfl) (fun W => Fr (fun _ => False) r9 W) (RmaR jn gs l m x) (fun _ _ _ _ => True) (Fr (fun _ => False)) (RmaR.ext jn gs l m x) (Fr.refl _ _).drew ?_ ?_
              · intro i hi o ho
                replace hi : i < 32 := hi
                obtain rfl | rfl | rfl | rfl | rfl | rfl | rfl | rfl | rfl | rfl | rfl | rfl | rfl | rfl | rfl | rfl | rfl | rfl | rfl | rfl | rfl | rfl | rfl | rfl | rfl | rfl | rfl | rfl | rfl | rfl | rfl | rfl : i = 0 ∨ i = 1 ∨ i = 2 ∨ i = 3 ∨ i = 4 ∨ i = 5 ∨ i = 6 ∨ i = 7 ∨ i = 8 ∨ i = 9 ∨ i = 10 ∨ i = 11 ∨ i = 12 ∨ i = 13 ∨ i = 14 ∨ i = 15 ∨ i = 16 ∨ i = 17 ∨ i = 18 ∨ i = 19 ∨ i = 20 ∨ i = 21 ∨ i = 22 ∨ i = 23 ∨ i = 24 ∨ i = 25 ∨ i = 26 ∨ i = 27 ∨ i = 28 ∨ i = 29 ∨ i = 30 ∨ i = 31 := by omega
                · simp only [List.getElem?_cons_zero, Option.some.injEq] at ho
                  subst ho
                  intro a W vs hB hS hE hU
                  refine wpG_plain rfl ?_
                  have v16 : a.eval (.tmp 16) = .int .i64 3 := (hU 16 (by kernel_rfl)).trans rfl
                  clear hE hU
                  exact wp_value_inv (w' := W) (.int .i64 3) (op_move rfl v16) ⟨_, rfl, hB, Fr.refl _ _, rfl, fun _ _ _ _ _ => trivial⟩
                · simp only [List.getElem?_cons_zero, List.getElem?_cons_succ, Option.some.injEq] at ho
                  subst ho
                  intro a W vs hB hS hE hU
                  refine wpG_plain rfl ?_
                  obtain ⟨r0, e148⟩ := hE 0 148 (by kernel_rfl) (by kernel_rfl)
                  have v148 : a.eval (.tmp 148) = .int .i64 3 := e148.trans r0
                  clear hE hU
                  exact wp_value_inv (w' := W) (.bool false) (op_bin rfl v148 rfl (guard_int W _ _ _ _ _ _ _) (eql_no (by decide))) ⟨_, rfl, hB, Fr.refl _ _, rfl, fun _ _ _ _ _ => trivial⟩
                · simp only [List.getElem?_cons_zero, List.getElem?_cons_succ, Option.some.injEq] at ho
                  subst ho
                  intro a W vs hB hS hE hU
                  refine wpG_plain rfl ?_
                  obtain ⟨r1, e149⟩ := hE 1 149 (by kernel_rfl) (by kernel_rfl)
                  have v149 : a.eval (.tmp 149) = .bool false := e149.trans r1
                  clear hE hU
                  exact wp_value_inv (w' := W) (.bool false) (op_move rfl v149) ⟨_, rfl, hB, Fr.refl _ _, rfl, fun _ _ _ _ _ => trivial⟩
                · simp only [List.getElem?_cons_zero, List.getElem?_cons_succ, Option.some.injEq] at ho
                  subst ho
                  intro a W vs hB hS hE hU
                  obtain ⟨r2, e150⟩ := hE 2 150 (by kernel_rfl) (by kernel_rfl)
                  have v150 : a.eval (.tmp 150) = .bool false := e150.trans r2
                  exact wpG_no 2 true 150 rfl (by kernel_rfl) (by rw [hS]; first | simp | exact Nat.le_of_ble_eq_true rfl) v150 ⟨_, rfl, hB, Fr.refl _ _, rfl, fun _ _ _ _ _ => trivial⟩
                · simp only [List.getElem?_cons_zero, List.getElem?_cons_succ, Option.some.injEq] at ho
                  subst ho
                  intro a W vs hB hS hE hU
                  obtain ⟨r2, e150⟩ := hE 2 150 (by kernel_rfl) (by kernel_rfl)
                  have v150 : a.eval (.tmp 150) = .bool false := e150.trans r2
                  exact wpG_no 2 true 150 rfl (by kernel_rfl) (by rw [hS]; first | simp | exact Nat.le_of_ble_eq_true rfl) v150 ⟨_, rfl, hB, Fr.refl _ _, rfl, fun _ _ _ _ _ => trivial⟩
                · simp only [List.getElem?_cons_zero, List.getElem?_cons_succ, Option.some.injEq] at ho
                  subst ho
                  intro a W vs hB hS hE hU
                  obtain ⟨r2, e150⟩ := hE 2 150 (by kernel_rfl) (by kernel_rfl)
                  have v150 : a.eval (.tmp 150) = .bool false := e150.trans r2
                  exact wpG_no 2 true 150 rfl (by kernel_rfl) (by rw [hS]; first | simp | exact Nat.le_of_ble_eq_true rfl) v150 ⟨_, rfl, hB, Fr.refl _ _, rfl, fun _ _ _ _ _ => trivial⟩
                · simp only [List.getElem?_cons_zero, List.getElem?_cons_succ, Option.some.injEq] at ho
                  subst ho
                  intro a W vs hB hS hE hU
                  obtain ⟨r2, e150⟩ := hE 2 150 (by kernel_rfl) (by kernel_rfl)
                  have v150 : a.eval (.tmp 150) = .bool false := e150.trans r2
                  exact wpG_no 2 true 150 rfl (by kernel_rfl) (by rw [hS]; first | simp | exact Nat.le_of_ble_eq_true rfl) v150 ⟨_, rfl, hB, Fr.refl _ _, rfl, fun _ _ _ _ _ => trivial⟩
                · simp only [List.getElem?_cons_zero, List.getElem?_cons_succ, Option.some.injEq] at ho
                  subst ho
                  intro a W vs hB hS hE hU
                  obtain ⟨r2, e150⟩ := hE 2 150 (by kernel_rfl) (by kernel_rfl)
                  have v150 : a.eval (.tmp 150) = .bool false := e150.trans r2
                  exact wpG_no 2 true 150 rfl (by kernel_rfl) (by rw [hS]; first | simp | exact Nat.le_of_ble_eq_true rfl) v150 ⟨_, rfl, hB, Fr.refl _ _, rfl, fun _ _ _ _ _ => trivial⟩
                · simp only [List.getElem?_cons_zero, List.getElem?_cons_succ, Option.some.injEq] at ho
                  subst ho
                  intro a W vs hB hS hE hU
                  obtain ⟨r2, e150⟩ := hE 2 150 (by kernel_rfl) (by kernel_rfl)
                  have v150 : a.eval (.tmp 150) = .bool false := e150.trans r2
                  exact wpG_no 2 true 150 rfl (by kernel_rfl) (by rw [hS]; first | simp | exact Nat.le_of_ble_eq_true rfl) v150 ⟨_, rfl, hB, Fr.refl _ _, rfl, fun _ _ _ _ _ => trivial⟩
                · simp only [List.getElem?_cons_zero, List.getElem?_cons_succ, Option.some.injEq] at ho
                  subst ho
                  intro a W vs hB hS hE hU
                  obtain ⟨r8, e156⟩ := hE 8 156 (by kernel_rfl) (by kernel_rfl)
                  have v156 : a.eval (.tmp 156) = undef := e156.trans r8
                  exact wpG_undef 8 false 156 rfl (by kernel_rfl) (by rw [hS]; first | simp | exact Nat.le_of_ble_eq_true rfl) v156 ⟨_, rfl, hB, Fr.refl _ _, rfl, fun _ _ _ _ _ => trivial⟩
                · simp only [List.getElem?_cons_zero, List.getElem?_cons_succ, Option.some.injEq] at ho
                  subst ho
                  intro a W vs hB hS hE hU
                  obtain ⟨r8, e156⟩ := hE 8 156 (by kernel_rfl) (by kernel_rfl)
                  have v156 : a.eval (.tmp 156) = undef := e156.trans r8
                  exact wpG_undef 8 false 156 rfl (by kernel_rfl) (by rw [hS]; first | simp | exact Nat.le_of_ble_eq_true rfl) v156 ⟨_, rfl, hB, Fr.refl _ _, rfl, fun _ _ _ _ _ => trivial⟩
                · simp only [List.getElem?_cons_zero, List.getElem?_cons_succ, Option.some.injEq] at ho
                  subst ho
                  intro a W vs hB hS hE hU
                  obtain ⟨r10, e158⟩ := hE 10 158 (by kernel_rfl) (by kernel_rfl)
                  have v158 : a.eval (.tmp 158) = undef := e158.trans r10
                  exact wpG_undef 10 true 158 rfl (by kernel_rfl) (by rw [hS]; first | simp | exact Nat.le_of_ble_eq_true rfl) v158 ⟨_, rfl, hB, Fr.refl _ _, rfl, fun _ _ _ _ _ => trivial⟩
                · simp only [List.getElem?_cons_zero, List.getElem?_cons_succ, Option.some.injEq] at ho
                  subst ho
                  intro a W vs hB hS hE hU
                  obtain ⟨r10, e158⟩ := hE 10 158 (by kernel_rfl) (by kernel_rfl)
                  have v158 : a.eval (.tmp 158) = undef := e158.trans r10
                  exact wpG_undef 10 true 158 rfl (by kernel_rfl) (by rw [hS]; first | simp | exact Nat.le_of_ble_eq_true rfl) v158 ⟨_, rfl, hB, Fr.refl _ _, rfl, fun _ _ _ _ _ => trivial⟩
                · simp only [List.getElem?_cons_zero, List.getElem?_cons_succ, Option.some.injEq] at ho
                  subst ho
                  intro a W vs hB hS hE hU
                  obtain ⟨r10, e158⟩ := hE 10 158 (by kernel_rfl) (by kernel_rfl)
                  have v158 : a.eval (.tmp 158) = undef := e158.trans r10
                  exact wpG_undef 10 true 158 rfl (by kernel_rfl) (by rw [hS]; first | simp | exact Nat.le_of_ble_eq_true rfl) v158 ⟨_, rfl, hB, Fr.refl _ _, rfl, fun _ _ _ _ _ => trivial⟩
                · simp only [List.getElem?_cons_zero, List.getElem?_cons_succ, Option.some.injEq] at ho
                  subst ho
                  intro a W vs hB hS hE hU
                  obtain ⟨r10, e158⟩ := hE 10 158 (by kernel_rfl) (by kernel_rfl)
                  have v158 : a.eval (.tmp 158) = undef := e158.trans r10
                  exact wpG_undef 10 true 158 rfl (by kernel_rfl) (by rw [hS]; first | simp | exact Nat.le_of_ble_eq_true rfl) v158 ⟨_, rfl, hB, Fr.refl _ _, rfl, fun _ _ _ _ _ => trivial⟩
                · simp only [List.getElem?_cons_zero, List.getElem?_cons_succ, Option.some.injEq] at ho
                  subst ho
                  intro a W vs hB hS hE hU
                  obtain ⟨r10, e158⟩ := hE 10 158 (by kernel_rfl) (by kernel_rfl)
                  have v158 : a.eval (.tmp 158) = undef := e158.trans r10
                  exact wpG_undef 10 true 158 rfl (by kernel_rfl) (by rw [hS]; first | simp | exact Nat.le_of_ble_eq_true rfl) v158 ⟨_, rfl, hB, Fr.refl _ _, rfl, fun _ _ _ _ _ => trivial⟩
                · simp only [List.getElem?_cons_zero, List.getElem?_cons_succ, Option.some.injEq] at ho
                  subst ho
                  intro a W vs hB hS hE hU
                  obtain ⟨r10, e158⟩ := hE 10 158 (by kernel_rfl) (by kernel_rfl)
                  have v158 : a.eval (.tmp 158) = undef := e158.trans r10
                  exact wpG_undef 10 true 158 rfl (by kernel_rfl) (by rw [hS]; first | simp | exact Nat.le_of_ble_eq_true rfl) v158 ⟨_, rfl, hB, Fr.refl _ _, rfl, fun _ _ _ _ _ => trivial⟩
                · simp only [List.getElem?_cons_zero, List.getElem?_cons_succ, Option.some.injEq] at ho
                  subst ho
                  intro a W vs hB hS hE hU
                  obtain ⟨r8, e156⟩ := hE 8 156 (by kernel_rfl) (by kernel_rfl)
                  have v156 : a.eval (.tmp 156) = undef := e156.trans r8
                  exact wpG_undef 8 false 156 rfl (by kernel_rfl) (by rw [hS]; first | simp | exact Nat.le_of_ble_eq_true rfl) v156 ⟨_, rfl, hB, Fr.refl _ _, rfl, fun _ _ _ _ _ => trivial⟩
                · simp only [List.getElem?_cons_zero, List.getElem?_cons_succ, Option.some.injEq] at ho
                  subst ho
                  intro a W vs hB hS hE hU
                  obtain ⟨r2, e150⟩ := hE 2 150 (by kernel_rfl) (by kernel_rfl)
                  have v150 : a.eval (.tmp 150) = .bool false := e150.trans r2
                  exact wpG_no 2 true 150 rfl (by kernel_rfl) (by rw [hS]; first | simp | exact Nat.le_of_ble_eq_true rfl) v150 ⟨_, rfl, hB, Fr.refl _ _, rfl, fun _ _ _ _ _ => trivial⟩
                · simp only [List.getElem?_cons_zero, List.getElem?_cons_succ, Option.some.injEq] at ho
                  subst ho
                  intro a W vs hB hS hE hU
                  obtain ⟨r2, e150⟩ := hE 2 150 (by kernel_rfl) (by kernel_rfl)
                  have v150 : a.eval (.tmp 150) = .bool false := e150.trans r2
                  exact wpG_no 2 true 150 rfl (by kernel_rfl) (by rw [hS]; first | simp | exact Nat.le_of_ble_eq_true rfl) v150 ⟨_, rfl, hB, Fr.refl _ _, rfl, fun _ _ _ _ _ => trivial⟩
                · simp only [List.getElem?_cons_zero, List.getElem?_cons_succ, Option.some.injEq] at ho
                  subst ho
                  intro a W vs hB hS hE hU
                  obtain ⟨r19, e167⟩ := hE 19 167 (by kernel_rfl) (by kernel_rfl)
                  have v167 : a.eval (.tmp 167) = undef := e167.trans r19
                  exact wpG_undef 19 false 167 rfl (by kernel_rfl) (by rw [hS]; first | simp | exact Nat.le_of_ble_eq_true rfl) v167 ⟨_, rfl, hB, Fr.refl _ _, rfl, fun _ _ _ _ _ => trivial⟩
                · simp only [List.getElem?_cons_zero, List.getElem?_cons_succ, Option.some.injEq] at ho
                  subst ho
                  intro a W vs hB hS hE hU
                  obtain ⟨r19, e167⟩ := hE 19 167 (by kernel_rfl) (by kernel_rfl)
                  have v167 : a.eval (.tmp 167) = undef := e167.trans r19
                  exact wpG_undef 19 false 167 rfl (by kernel_rfl) (by rw [hS]; first | simp | exact Nat.le_of_ble_eq_true rfl) v167 ⟨_, rfl, hB, Fr.refl _ _, rfl, fun _ _ _ _ _ => trivial⟩
                · simp only [List.getElem?_cons_zero, List.getElem?_cons_succ, Option.some.injEq] at ho
                  subst ho
                  intro a W vs hB hS hE hU
                  obtain ⟨r19, e167⟩ := hE 19 167 (by kernel_rfl) (by kernel_rfl)
                  have v167 : a.eval (.tmp 167) = undef := e167.trans r19
                  exact wpG_undef 19 false 167 rfl (by kernel_rfl) (by rw [hS]; first | simp | exact Nat.le_of_ble_eq_true rfl) v167 ⟨_, rfl, hB, Fr.refl _ _, rfl, fun _ _ _ _ _ => trivial⟩
                · simp only [List.getElem?_cons_zero, List.getElem?_cons_succ, Option.some.injEq] at ho
                  subst ho
                  intro a W vs hB hS hE hU
                  obtain ⟨r22, e170⟩ := hE 22 170 (by kernel_rfl) (by kernel_rfl)
                  have v170 : a.eval (.tmp 170) = undef := e170.trans r22
                  exact wpG_undef 22 true 170 rfl (by kernel_rfl) (by rw [hS]; first | simp | exact Nat.le_of_ble_eq_true rfl) v170 ⟨_, rfl, hB, Fr.refl _ _, rfl, fun _ _ _ _ _ => trivial⟩
                · simp only [List.getElem?_cons_zero, List.getElem?_cons_succ, Option.some.injEq] at ho
                  subst ho
                  intro a W vs hB hS hE hU
                  obtain ⟨r22, e170⟩ := hE 22 170 (by kernel_rfl) (by kernel_rfl)
                  have v170 : a.eval (.tmp 170) = undef := e170.trans r22
                  exact wpG_undef 22 true 170 rfl (by kernel_rfl) (by rw [hS]; first | simp | exact Nat.le_of_ble_eq_true rfl) v170 ⟨_, rfl, hB, Fr.refl _ _, rfl, fun _ _ _ _ _ => trivial⟩
                · simp only [List.getElem?_cons_zero, List.getElem?_cons_succ, Option.some.injEq] at ho
                  subst ho
                  intro a W vs hB hS hE hU
                  obtain ⟨r22, e170⟩ := hE 22 170 (by kernel_rfl) (by kernel_rfl)
                  have v170 : a.eval (.tmp 170) = undef := e170.trans r22
                  exact wpG_undef 22 true 170 rfl (by kernel_rfl) (by rw [hS]; first | simp | exact Nat.le_of_ble_eq_true rfl) v170 ⟨_, rfl, hB, Fr.refl _ _, rfl, fun _ _ _ _ _ => trivial⟩
                · simp only [List.getElem?_cons_zero, List.getElem?_cons_succ, Option.some.injEq] at ho
                  subst ho
                  intro a W vs hB hS hE hU
                  obtain ⟨r22, e170⟩ := hE 22 170 (by kernel_rfl) (by kernel_rfl)
                  have v170 : a.eval (.tmp 170) = undef := e170.trans r22
                  exact wpG_undef 22 true 170 rfl (by kernel_rfl) (by rw [hS]; first | simp | exact Nat.le_of_ble_eq_true rfl) v170 ⟨_, rfl, hB, Fr.refl _ _, rfl, fun _ _ _ _ _ => trivial⟩
                · simp only [List.getElem?_cons_zero, List.getElem?_cons_succ, Option.some.injEq] at ho
                  subst ho
                  intro a W vs hB hS hE hU
                  obtain ⟨r22, e170⟩ := hE 22 170 (by kernel_rfl) (by kernel_rfl)
                  have v170 : a.eval (.tmp 170) = undef := e170.trans r22
                  exact wpG_undef 22 true 170 rfl (by kernel_rfl) (by rw [hS]; first | simp | exact Nat.le_of_ble_eq_true rfl) v170 ⟨_, rfl, hB, Fr.refl _ _, rfl, fun _ _ _ _ _ => trivial⟩
                · simp only [List.getElem?_cons_zero, List.getElem?_cons_succ, Option.some.injEq] at ho
                  subst ho
                  intro a W vs hB hS hE hU
                  obtain ⟨r22, e170⟩ := hE 22 170 (by kernel_rfl) (by kernel_rfl)
                  have v170 : a.eval (.tmp 170) = undef := e170.trans r22
                  exact wpG_undef 22 true 170 rfl (by kernel_rfl) (by rw [hS]; first | simp | exact Nat.le_of_ble_eq_true rfl) v170 ⟨_, rfl, hB, Fr.refl _ _, rfl, fun _ _ _ _ _ => trivial⟩
                · simp only [List.getElem?_cons_zero, List.getElem?_cons_succ, Option.some.injEq] at ho
                  subst ho
                  intro a W vs hB hS hE hU
                  obtain ⟨r19, e167⟩ := hE 19 167 (by kernel_rfl) (by kernel_rfl)
                  have v167 : a.eval (.tmp 167) = undef := e167.trans r19
                  exact wpG_undef 19 false 167 rfl (by kernel_rfl) (by rw [hS]; first | simp | exact Nat.le_of_ble_eq_true rfl) v167 ⟨_, rfl, hB, Fr.refl _ _, rfl, fun _ _ _ _ _ => trivial⟩
                · simp only [List.getElem?_cons_zero, List.getElem?_cons_succ, Option.some.injEq] at ho
                  subst ho
                  intro a W vs hB hS hE hU
                  obtain ⟨r2, e150⟩ := hE 2 150 (by kernel_rfl) (by kernel_rfl)
                  have v150 : a.eval (.tmp 150) = .bool false := e150.trans r2
                  exact wpG_no 2 true 150 rfl (by kernel_rfl) (by rw [hS]; first | simp | exact Nat.le_of_ble_eq_true rfl) v150 ⟨_, rfl, hB, Fr.refl _ _, rfl, fun _ _ _ _ _ => trivial⟩
                · simp only [List.getElem?_cons_zero, List.getElem?_cons_succ, Option.some.injEq] at ho
                  subst ho
                  intro a W vs hB hS hE hU
                  refine wpG_plain rfl ?_
                  obtain ⟨r2, e150⟩ := hE 2 150 (by kernel_rfl) (by kernel_rfl)
                  have v150 : a.eval (.tmp 150) = .bool false := e150.trans r2
                  clear hE hU
                  exact wp_value_inv (w' := W) (.bool false) (op_pick rfl v150 (by simp only [Bool.false_eq_true, if_false]; rfl)) ⟨_, rfl, hB, Fr.refl _ _, rfl, fun _ _ _ _ _ => trivial⟩
              · intro vs Wb hB0 hR0 hD
                have r179 : vs 31 = .bool false := hR0 31 (by decide)
                have HB9 := Lib.hid hB0
                clear hR0 hD hB0
                simp only [acts, if_true, dstAt, List.getElem?_cons_zero, List.getElem?_cons_succ, Option.bind_some, Act.put, List.setIfInBounds_toArray, List.set_cons_succ, List.set_cons_zero, List.drop_succ_cons, List.drop_nil]
                simp only [r179]
                clear r179
                go_wp2_with fail
                go_roundw
                case rel => exact ⟨i + 1, by omega, by go_num, Lib.hid ⟨_, _, _, _, HG.out.quiet HB9.out, (HO.out.next)⟩⟩
                case measure => simp [intOf]; omega
          · have hsw : (p.what % 9 == (2 : Int)) = false := by rw [beq_eq_false_iff_ne]; exact hsw2
            by_cases hf2 : q + 2 ≤ m
            · have d128 : decide ((128 : Int) ≤ (q : Int)) = true := by rw [decide_eq_true_iff]; omega
              have hfit : decide ((q : Int) + 2 ≤ (m : Int)) = true := by rw [decide_eq_true_iff]; omega
              have HA := Lib.hid (HO.out.append HBD.out.1 (by omega) p.B (by have := HQ.out.2; have := HMX.out.1; have := HO.out.kp.right.used; rw [hrc]; omega))
              obtain ⟨m2, hm2⟩ : ∃ m2, m2 = 64 * l - (h.used + (recB p.B).length) := ⟨_, rfl⟩
              have HM2E := Lib.hid hm2
              have HM2 := Lib.hid (show (m : Int) - ((q : Int) + 2) = (m2 : Int) ∧ m2 ≤ 1000000 by have := HMX.out.1; have := HO.out.kp.right.used; rw [hm2, hrc]; omega)
              clear hm2
              have HF1 := Lib.hid True.intro
              go_wp2_with (first
                | (go_at_call 17; refine (gRoom HG.out HOK.out HO.out.kp.right.used).mono ?_; rintro e r1 ⟨rfl, hr1⟩; rw [← HMX.out.1]; (have HG := Lib.hid (HG.out.quiet hr1)); clear hr1)
                | (go_at_call 18; refine (gRound HG.out).mono ?_; rintro e r2 ⟨rfl, hr2⟩; rw [← HMX.out.2]; (have HG := Lib.hid (HG.out.quiet hr2)); clear hr2)
                | (go_at_call 19; refine (gKept HG.out).mono ?_; rintro e r3 ⟨kv, rfl, hk3, hr3⟩; clear HF1; (have HG := Lib.hid (HG.out.quiet hr3)); (have HK1 := Lib.hid hk3.bytes); (have HP3 := Lib.hid (HP.out.keep (H5.out.1.trans HG.out.fr (fun _ h => h.elim)) (fun _ _ _ h => h))); (have hcw := HP3.out.what); (have hcb := HP3.out.cb); (rw [HQX.out] at hcb); (have HBY := Lib.hid (HQX.out ▸ HP3.out.bytes)); (obtain ⟨s0, s1, s2⟩ := row3_cells (HG.out.fr.heap H5.out.2 id)); clear hr3 hk3)
                | (go_at_call 12; refine (pick_any p.what 9 _ (by decide) (by decide) HP.out.wf.1.1 HP.out.wf.1.2).mono ?_; rintro e r4 ⟨rfl, rfl⟩)
                | (go_at_call 21; refine (gAppend HG.out HOK.out HO.out.kp.right _ p.B (by rw [HQ.out.1]; omega) HBY.out (by rw [HRC.out, ← HMX.out.1]; omega) (by have := HO.out.round; omega) HO.out.up HO.out.waits (by have := HO.out.deeds; omega)).mono ?_; rintro e r5 ⟨rfl, hL5, hf5⟩; rw [if_pos HA.out.1, if_pos HA.out.1] at hL5; rw [HA.out.1]; (have HG5 := Lib.hid hL5); (obtain ⟨s0, s1, s2⟩ := row3_cells (HG5.out.fr.heap H5.out.2 id)); clear hL5 hf5))
              have HRN := Lib.hid (fun W (hW : Fr (fun _ => False) r5 W) => show Calls Tryz.prog 18 #[.pointer (some ⟨jn, 0, none⟩)] W (fun e w' => e = .returned (.int .i64 ((x + 1 : Nat) : Int)) ∧ Fr (fun _ => False) W w') by rw [HMX.out.2]; exact gRound (HG5.out.quiet hW))
              have HRM := Lib.hid (fun W (hW : Fr (fun _ => False) r5 W) => show Calls Tryz.prog 17 #[.pointer (some ⟨jn, 0, none⟩)] W (fun e w' => e = .returned (.int .i64 ((m2 : Nat) : Int)) ∧ Fr (fun _ => False) W w') by rw [HM2E.out]; exact gRoom (HG5.out.quiet hW) HOK.out HA.out.2.kp.right.used)
              have LDL := Lib.hid (fun W (hW : Fr (fun _ => False) r5 W) => load_int5 W ⟨gs, 0, none⟩ (.int .i64 l) (cell_of_row _ _ _ _ _ _ ((HG5.out.quiet hW).fr.heap H5.out.2 id)))
              have HX6 := Lib.hid (show x ≤ 1000 by have := HO.out.round; have := HMX.out.2; omega)
              clear s0 s1 s2 hcw hcb d128 hfit
              refine wp_region_inv 32 (by kernel_rfl) (by kernel_rfl) (fun W => Fr (fun _ => False) r5 W) (Rmc2R jn gs l m x q m2) (fun _ _ _ _ => True) (Fr (fun _ => False)) (Rmc2R.ext jn gs l m x q m2) (Fr.refl _ _).drew ?_ ?_
              · intro i hi o ho
                replace hi : i < 32 := hi
                obtain rfl | rfl | rfl | rfl | rfl | rfl | rfl | rfl | rfl | rfl | rfl | rfl | rfl | rfl | rfl | rfl | rfl | rfl | rfl | rfl | rfl | rfl | rfl | rfl | rfl | rfl | rfl | rfl | rfl | rfl | rfl | rfl : i = 0 ∨ i = 1 ∨ i = 2 ∨ i = 3 ∨ i = 4 ∨ i = 5 ∨ i = 6 ∨ i = 7 ∨ i = 8 ∨ i = 9 ∨ i = 10 ∨ i = 11 ∨ i = 12 ∨ i = 13 ∨ i = 14 ∨ i = 15 ∨ i = 16 ∨ i = 17 ∨ i = 18 ∨ i = 19 ∨ i = 20 ∨ i = 21 ∨ i = 22 ∨ i = 23 ∨ i = 24 ∨ i = 25 ∨ i = 26 ∨ i = 27 ∨ i = 28 ∨ i = 29 ∨ i = 30 ∨ i = 31 := by omega
                · simp only [List.getElem?_cons_zero, Option.some.injEq] at ho
                  subst ho
                  intro a W vs hB hS hE hU
                  refine wpG_plain rfl ?_
                  have v16 : a.eval (.tmp 16) = .int .i64 0 := (hU 16 (by kernel_rfl)).trans rfl
                  clear hE hU
                  exact wp_value_inv (w' := W) (.int .i64 0) (op_move rfl v16) ⟨_, rfl, hB, Fr.refl _ _, rfl, fun _ _ _ _ _ => trivial⟩
                · simp only [List.getElem?_cons_zero, List.getElem?_cons_succ, Option.some.injEq] at ho
                  subst ho
                  intro a W vs hB hS hE hU
                  refine wpG_plain rfl ?_
                  obtain ⟨r0, e148⟩ := hE 0 148 (by kernel_rfl) (by kernel_rfl)
                  have v148 : a.eval (.tmp 148) = .int .i64 0 := e148.trans r0
                  clear hE hU
                  exact wp_value_inv (w' := W) (.bool true) (op_bin rfl v148 rfl (guard_int W _ _ _ _ _ _ _) (eql_yes)) ⟨_, rfl, hB, Fr.refl _ _, rfl, fun _ _ _ _ _ => trivial⟩
                · simp only [List.getElem?_cons_zero, List.getElem?_cons_succ, Option.some.injEq] at ho
                  subst ho
                  intro a W vs hB hS hE hU
                  refine wpG_plain rfl ?_
                  obtain ⟨r1, e149⟩ := hE 1 149 (by kernel_rfl) (by kernel_rfl)
                  have v149 : a.eval (.tmp 149) = .bool true := e149.trans r1
                  clear hE hU
                  exact wp_value_inv (w' := W) (.bool true) (op_move rfl v149) ⟨_, rfl, hB, Fr.refl _ _, rfl, fun _ _ _ _ _ => trivial⟩
                · simp only [List.getElem?_cons_zero, List.getElem?_cons_succ, Option.some.injEq] at ho
                  subst ho
                  intro a W vs hB hS hE hU
                  obtain ⟨r2, e150⟩ := hE 2 150 (by kernel_rfl) (by kernel_rfl)
                  have v150 : a.eval (.tmp 150) = .bool true := e150.trans r2
                  refine wpG_yes 2 true 150 rfl (by kernel_rfl) (by rw [hS]; first | simp | exact Nat.le_of_ble_eq_true rfl) v150 ?_
                  have v7 : a.eval (.tmp 7) = .pointer (some ⟨jn, 0, none⟩) := (hU 7 (by kernel_rfl)).trans rfl
                  clear hE hU
                  exact wp_value_inv (w' := W) (.pointer (some ⟨jn, 0, none⟩)) (op_move rfl v7) ⟨_, rfl, hB, Fr.refl _ _, rfl, fun _ _ _ _ _ => trivial⟩
                · simp only [List.getElem?_cons_zero, List.getElem?_cons_succ, Option.some.injEq] at ho
                  subst ho
                  intro a W vs hB hS hE hU
                  obtain ⟨r2, e150⟩ := hE 2 150 (by kernel_rfl) (by kernel_rfl)
                  have v150 : a.eval (.tmp 150) = .bool true := e150.trans r2
                  refine wpG_yes 2 true 150 rfl (by kernel_rfl) (by rw [hS]; first | simp | exact Nat.le_of_ble_eq_true rfl) v150 ?_
                  obtain ⟨r3, e151⟩ := hE 3 151 (by kernel_rfl) (by kernel_rfl)
                  have v151 : a.eval (.tmp 151) = .pointer (some ⟨jn, 0, none⟩) := e151.trans r3
                  clear hE hU
                  refine wp_call_inv 18 #[.tmp 151] #[34] rfl #[.pointer (some ⟨jn, 0, none⟩)] (by simp only [List.map_toArray, List.map_cons, List.map_nil, v151]) (ent___spence_log_Journal__Round _) (Post := fun v W' => v = .int .i64 ((x + 1 : Nat) : Int) ∧ Fr (fun _ => False) W W') ((HRN.out W hB).mono fun e w' h => ⟨_, h.1, rfl, h.2⟩) ?_
                  rintro v W' ⟨rfl, hf⟩
                  exact ⟨_, rfl, hB.trans hf (fun _ h => h.elim), hf, rfl, fun _ _ _ _ _ => trivial⟩
                · simp only [List.getElem?_cons_zero, List.getElem?_cons_succ, Option.some.injEq] at ho
                  subst ho
                  intro a W vs hB hS hE hU
                  obtain ⟨r2, e150⟩ := hE 2 150 (by kernel_rfl) (by kernel_rfl)
                  have v150 : a.eval (.tmp 150) = .bool true := e150.trans r2
                  refine wpG_yes 2 true 150 rfl (by kernel_rfl) (by rw [hS]; first | simp | exact Nat.le_of_ble_eq_true rfl) v150 ?_
                  have v11 : a.eval (.tmp 11) = .int .i64 (x : Nat) := (hU 11 (by kernel_rfl)).trans rfl
                  clear hE hU
                  exact wp_value_inv (w' := W) (.int .i64 (x : Nat)) (op_move rfl v11) ⟨_, rfl, hB, Fr.refl _ _, rfl, fun _ _ _ _ _ => trivial⟩
                · simp only [List.getElem?_cons_zero, List.getElem?_cons_succ, Option.some.injEq] at ho
                  subst ho
                  intro a W vs hB hS hE hU
                  obtain ⟨r2, e150⟩ := hE 2 150 (by kernel_rfl) (by kernel_rfl)
                  have v150 : a.eval (.tmp 150) = .bool true := e150.trans r2
                  refine wpG_yes 2 true 150 rfl (by kernel_rfl) (by rw [hS]; first | simp | exact Nat.le_of_ble_eq_true rfl) v150 ?_
                  obtain ⟨r5, e153⟩ := hE 5 153 (by kernel_rfl) (by kernel_rfl)
                  have v153 : a.eval (.tmp 153) = .int .i64 (x : Nat) := e153.trans r5
                  clear hE hU
                  exact wp_value_inv (w' := W) (.int .i64 ((x + 1 : Nat) : Int)) (op_bin rfl v153 rfl (rfl) (add_in5 (by push_cast; rfl) (by omega) (by have := HX6.out; omega))) ⟨_, rfl, hB, Fr.refl _ _, rfl, fun _ _ _ _ _ => trivial⟩
                · simp only [List.getElem?_cons_zero, List.getElem?_cons_succ, Option.some.injEq] at ho
                  subst ho
                  intro a W vs hB hS hE hU
                  obtain ⟨r2, e150⟩ := hE 2 150 (by kernel_rfl) (by kernel_rfl)
                  have v150 : a.eval (.tmp 150) = .bool true := e150.trans r2
                  refine wpG_yes 2 true 150 rfl (by kernel_rfl) (by rw [hS]; first | simp | exact Nat.le_of_ble_eq_true rfl) v150 ?_
                  obtain ⟨r4, e152⟩ := hE 4 152 (by kernel_rfl) (by kernel_rfl)
                  have v152 : a.eval (.tmp 152) = .int .i64 ((x + 1 : Nat) : Int) := e152.trans r4
                  obtain ⟨r6, e154⟩ := hE 6 154 (by kernel_rfl) (by kernel_rfl)
                  have v154 : a.eval (.tmp 154) = .int .i64 ((x + 1 : Nat) : Int) := e154.trans r6
                  clear hE hU
                  exact wp_value_inv (w' := W) (.bool false) (op_bin rfl v152 v154 (guard_int W _ _ _ _ _ _ _) (neq_no)) ⟨_, rfl, hB, Fr.refl _ _, rfl, fun _ _ _ _ _ => trivial⟩
                · simp only [List.getElem?_cons_zero, List.getElem?_cons_succ, Option.some.injEq] at ho
                  subst ho
                  intro a W vs hB hS hE hU
                  obtain ⟨r2, e150⟩ := hE 2 150 (by kernel_rfl) (by kernel_rfl)
                  have v150 : a.eval (.tmp 150) = .bool true := e150.trans r2
                  refine wpG_yes 2 true 150 rfl (by kernel_rfl) (by rw [hS]; first | simp | exact Nat.le_of_ble_eq_true rfl) v150 ?_
                  obtain ⟨r7, e155⟩ := hE 7 155 (by kernel_rfl) (by kernel_rfl)
                  have v155 : a.eval (.tmp 155) = .bool false := e155.trans r7
                  clear hE hU
                  exact wp_value_inv (w' := W) (.bool false) (op_move rfl v155) ⟨_, rfl, hB, Fr.refl _ _, rfl, fun _ _ _ _ _ => trivial⟩
                · simp only [List.getElem?_cons_zero, List.getElem?_cons_succ, Option.some.injEq] at ho
                  subst ho
                  intro a W vs hB hS hE hU
                  obtain ⟨r8, e156⟩ := hE 8 156 (by kernel_rfl) (by kernel_rfl)
                  have v156 : a.eval (.tmp 156) = .bool false := e156.trans r8
                  refine wpG_yes 8 false 156 rfl (by kernel_rfl) (by rw [hS]; first | simp | exact Nat.le_of_ble_eq_true rfl) v156 ?_
                  have v15 : a.eval (.tmp 15) = .bool false := (hU 15 (by kernel_rfl)).trans rfl
                  clear hE hU
                  exact wp_value_inv (w' := W) (.bool false) (op_move rfl v15) ⟨_, rfl, hB, Fr.refl _ _, rfl, fun _ _ _ _ _ => trivial⟩
                · simp only [List.getElem?_cons_zero, List.getElem?_cons_succ, Option.some.injEq] at ho
                  subst ho
                  intro a W vs hB hS hE hU
                  obtain ⟨r8, e156⟩ := hE 8 156 (by kernel_rfl) (by kernel_rfl)
                  have v156 : a.eval (.tmp 156) = .bool false := e156.trans r8
                  refine wpG_yes 8 false 156 rfl (by kernel_rfl) (by rw [hS]; first | simp | exact Nat.le_of_ble_eq_true rfl) v156 ?_
                  obtain ⟨r9, e157⟩ := hE 9 157 (by kernel_rfl) (by kernel_rfl)
                  have v157 : a.eval (.tmp 157) = .bool false := e157.trans r9
                  clear hE hU
                  exact wp_value_inv (w' := W) (.bool false) (op_move rfl v157) ⟨_, rfl, hB, Fr.refl _ _, rfl, fun _ _ _ _ _ => trivial⟩
                · simp only [List.getElem?_cons_zero, List.getElem?_cons_succ, Option.some.injEq] at ho
                  subst ho
                  intro a W vs hB hS hE hU
                  obtain ⟨r10, e158⟩ := hE 10 158 (by kernel_rfl) (by kernel_rfl)
                  have v158 : a.eval (.tmp 158) = .bool false := e158.trans r10
                  exact wpG_no 10 true 158 rfl (by kernel_rfl) (by rw [hS]; first | simp | exact Nat.le_of_ble_eq_true rfl) v158 ⟨_, rfl, hB, Fr.refl _ _, rfl, fun _ _ _ _ _ => trivial⟩
                · simp only [List.getElem?_cons_zero, List.getElem?_cons_succ, Option.some.injEq] at ho
                  subst ho
                  intro a W vs hB hS hE hU
                  obtain ⟨r10, e158⟩ := hE 10 158 (by kernel_rfl) (by kernel_rfl)
                  have v158 : a.eval (.tmp 158) = .bool false := e158.trans r10
                  exact wpG_no 10 true 158 rfl (by kernel_rfl) (by rw [hS]; first | simp | exact Nat.le_of_ble_eq_true rfl) v158 ⟨_, rfl, hB, Fr.refl _ _, rfl, fun _ _ _ _ _ => trivial⟩
                · simp only [List.getElem?_cons_zero, List.getElem?_cons_succ, Option.some.injEq] at ho
                  subst ho
                  intro a W vs hB hS hE hU
                  obtain ⟨r10, e158⟩ := hE 10 158 (by kernel_rfl) (by kernel_rfl)
                  have v158 : a.eval (.tmp 158) = .bool false := e158.trans r10
                  exact wpG_no 10 true 158 rfl (by kernel_rfl) (by rw [hS]; first | simp | exact Nat.le_of_ble_eq_true rfl) v158 ⟨_, rfl, hB, Fr.refl _ _, rfl, fun _ _ _ _ _ => trivial⟩
                · simp only [List.getElem?_cons_zero, List.getElem?_cons_succ, Option.some.injEq] at ho
                  subst ho
                  intro a W vs hB hS hE hU
                  obtain ⟨r10, e158⟩ := hE 10 158 (by kernel_rfl) (by kernel_rfl)
                  have v158 : a.eval (.tmp 158) = .bool false := e158.trans r10
                  exact wpG_no 10 true 158 rfl (by kernel_rfl) (by rw [hS]; first | simp | exact Nat.le_of_ble_eq_true rfl) v158 ⟨_, rfl, hB, Fr.refl _ _, rfl, fun _ _ _ _ _ => trivial⟩
                · simp only [List.getElem?_cons_zero, List.getElem?_cons_succ, Option.some.injEq] at ho
                  subst ho
                  intro a W vs hB hS hE hU
                  obtain ⟨r10, e158⟩ := hE 10 158 (by kernel_rfl) (by kernel_rfl)
                  have v158 : a.eval (.tmp 158) = .bool false := e158.trans r10
                  exact wpG_no 10 true 158 rfl (by kernel_rfl) (by rw [hS]; first | simp | exact Nat.le_of_ble_eq_true rfl) v158 ⟨_, rfl, hB, Fr.refl _ _, rfl, fun _ _ _ _ _ => trivial⟩
                · simp only [List.getElem?_cons_zero, List.getElem?_cons_succ, Option.some.injEq] at ho
                  subst ho
                  intro a W vs hB hS hE hU
                  obtain ⟨r10, e158⟩ := hE 10 158 (by kernel_rfl) (by kernel_rfl)
                  have v158 : a.eval (.tmp 158) = .bool false := e158.trans r10
                  exact wpG_no 10 true 158 rfl (by kernel_rfl) (by rw [hS]; first | simp | exact Nat.le_of_ble_eq_true rfl) v158 ⟨_, rfl, hB, Fr.refl _ _, rfl, fun _ _ _ _ _ => trivial⟩
                · simp only [List.getElem?_cons_zero, List.getElem?_cons_succ, Option.some.injEq] at ho
                  subst ho
                  intro a W vs hB hS hE hU
                  obtain ⟨r8, e156⟩ := hE 8 156 (by kernel_rfl) (by kernel_rfl)
                  have v156 : a.eval (.tmp 156) = .bool false := e156.trans r8
                  refine wpG_yes 8 false 156 rfl (by kernel_rfl) (by rw [hS]; first | simp | exact Nat.le_of_ble_eq_true rfl) v156 ?_
                  obtain ⟨r10, e158⟩ := hE 10 158 (by kernel_rfl) (by kernel_rfl)
                  have v158 : a.eval (.tmp 158) = .bool false := e158.trans r10
                  clear hE hU
                  exact wp_value_inv (w' := W) (.bool false) (op_pick rfl v158 (by simp only [Bool.false_eq_true, if_false]; rfl)) ⟨_, rfl, hB, Fr.refl _ _, rfl, fun _ _ _ _ _ => trivial⟩
                · simp only [List.getElem?_cons_zero, List.getElem?_cons_succ, Option.some.injEq] at ho
                  subst ho
                  intro a W vs hB hS hE hU
                  obtain ⟨r2, e150⟩ := hE 2 150 (by kernel_rfl) (by kernel_rfl)
                  have v150 : a.eval (.tmp 150) = .bool true := e150.trans r2
                  refine wpG_yes 2 true 150 rfl (by kernel_rfl) (by rw [hS]; first | simp | exact Nat.le_of_ble_eq_true rfl) v150 ?_
                  obtain ⟨r8, e156⟩ := hE 8 156 (by kernel_rfl) (by kernel_rfl)
                  have v156 : a.eval (.tmp 156) = .bool false := e156.trans r8
                  obtain ⟨r17, e165⟩ := hE 17 165 (by kernel_rfl) (by kernel_rfl)
                  have v165 : a.eval (.tmp 165) = .bool false := e165.trans r17
                  clear hE hU
                  exact wp_value_inv (w' := W) (.bool false) (op_pick rfl v156 (by simp only [Bool.false_eq_true, if_false]; exact v165)) ⟨_, rfl, hB, Fr.refl _ _, rfl, fun _ _ _ _ _ => trivial⟩
                · simp only [List.getElem?_cons_zero, List.getElem?_cons_succ, Option.some.injEq] at ho
                  subst ho
                  intro a W vs hB hS hE hU
                  obtain ⟨r2, e150⟩ := hE 2 150 (by kernel_rfl) (by kernel_rfl)
                  have v150 : a.eval (.tmp 150) = .bool true := e150.trans r2
                  refine wpG_yes 2 true 150 rfl (by kernel_rfl) (by rw [hS]; first | simp | exact Nat.le_of_ble_eq_true rfl) v150 ?_
                  obtain ⟨r18, e166⟩ := hE 18 166 (by kernel_rfl) (by kernel_rfl)
                  have v166 : a.eval (.tmp 166) = .bool false := e166.trans r18
                  clear hE hU
                  exact wp_value_inv (w' := W) (.bool false) (op_move rfl v166) ⟨_, rfl, hB, Fr.refl _ _, rfl, fun _ _ _ _ _ => trivial⟩
                · simp only [List.getElem?_cons_zero, List.getElem?_cons_succ, Option.some.injEq] at ho
                  subst ho
                  intro a W vs hB hS hE hU
                  obtain ⟨r19, e167⟩ := hE 19 167 (by kernel_rfl) (by kernel_rfl)
                  have v167 : a.eval (.tmp 167) = .bool false := e167.trans r19
                  refine wpG_yes 19 false 167 rfl (by kernel_rfl) (by rw [hS]; first | simp | exact Nat.le_of_ble_eq_true rfl) v167 ?_
                  have v15 : a.eval (.tmp 15) = .bool false := (hU 15 (by kernel_rfl)).trans rfl
                  clear hE hU
                  exact wp_value_inv (w' := W) (.bool false) (op_move rfl v15) ⟨_, rfl, hB, Fr.refl _ _, rfl, fun _ _ _ _ _ => trivial⟩
                · simp only [List.getElem?_cons_zero, List.getElem?_cons_succ, Option.some.injEq] at ho
                  subst ho
                  intro a W vs hB hS hE hU
                  obtain ⟨r19, e167⟩ := hE 19 167 (by kernel_rfl) (by kernel_rfl)
                  have v167 : a.eval (.tmp 167) = .bool false := e167.trans r19
                  refine wpG_yes 19 false 167 rfl (by kernel_rfl) (by rw [hS]; first | simp | exact Nat.le_of_ble_eq_true rfl) v167 ?_
                  obtain ⟨r20, e168⟩ := hE 20 168 (by kernel_rfl) (by kernel_rfl)
                  have v168 : a.eval (.tmp 168) = .bool false := e168.trans r20
                  clear hE hU
                  exact wp_value_inv (w' := W) (.bool true) (op_unop rfl v168 (by rfl)) ⟨_, rfl, hB, Fr.refl _ _, rfl, fun _ _ _ _ _ => trivial⟩
                · simp only [List.getElem?_cons_zero, List.getElem?_cons_succ, Option.some.injEq] at ho
                  subst ho
                  intro a W vs hB hS hE hU
                  obtain ⟨r19, e167⟩ := hE 19 167 (by kernel_rfl) (by kernel_rfl)
                  have v167 : a.eval (.tmp 167) = .bool false := e167.trans r19
                  refine wpG_yes 19 false 167 rfl (by kernel_rfl) (by rw [hS]; first | simp | exact Nat.le_of_ble_eq_true rfl) v167 ?_
                  obtain ⟨r21, e169⟩ := hE 21 169 (by kernel_rfl) (by kernel_rfl)
                  have v169 : a.eval (.tmp 169) = .bool true := e169.trans r21
                  clear hE hU
                  exact wp_value_inv (w' := W) (.bool true) (op_move rfl v169) ⟨_, rfl, hB, Fr.refl _ _, rfl, fun _ _ _ _ _ => trivial⟩
                · simp only [List.getElem?_cons_zero, List.getElem?_cons_succ, Option.some.injEq] at ho
                  subst ho
                  intro a W vs hB hS hE hU
                  obtain ⟨r22, e170⟩ := hE 22 170 (by kernel_rfl) (by kernel_rfl)
                  have v170 : a.eval (.tmp 170) = .bool true := e170.trans r22
                  refine wpG_yes 22 true 170 rfl (by kernel_rfl) (by rw [hS]; first | simp | exact Nat.le_of_ble_eq_true rfl) v170 ?_
                  have v7 : a.eval (.tmp 7) = .pointer (some ⟨jn, 0, none⟩) := (hU 7 (by kernel_rfl)).trans rfl
                  clear hE hU
                  exact wp_value_inv (w' := W) (.pointer (some ⟨jn, 0, none⟩)) (op_move rfl v7) ⟨_, rfl, hB, Fr.refl _ _, rfl, fun _ _ _ _ _ => trivial⟩
                · simp only [List.getElem?_cons_zero, List.getElem?_cons_succ, Option.some.injEq] at ho
                  subst ho
                  intro a W vs hB hS hE hU
                  obtain ⟨r22, e170⟩ := hE 22 170 (by kernel_rfl) (by kernel_rfl)
                  have v170 : a.eval (.tmp 170) = .bool true := e170.trans r22
                  refine wpG_yes 22 true 170 rfl (by kernel_rfl) (by rw [hS]; first | simp | exact Nat.le_of_ble_eq_true rfl) v170 ?_
                  obtain ⟨r23, e171⟩ := hE 23 171 (by kernel_rfl) (by kernel_rfl)
                  have v171 : a.eval (.tmp 171) = .pointer (some ⟨jn, 0, none⟩) := e171.trans r23
                  clear hE hU
                  refine wp_call_inv 17 #[.tmp 171] #[34] rfl #[.pointer (some ⟨jn, 0, none⟩)] (by simp only [List.map_toArray, List.map_cons, List.map_nil, v171]) (ent___spence_log_Journal__Room _) (Post := fun v W' => v = .int .i64 ((m2 : Nat) : Int) ∧ Fr (fun _ => False) W W') ((HRM.out W hB).mono fun e w' h => ⟨_, h.1, rfl, h.2⟩) ?_
                  rintro v W' ⟨rfl, hf⟩
                  exact ⟨_, rfl, hB.trans hf (fun _ h => h.elim), hf, rfl, fun _ _ _ _ _ => trivial⟩
                · simp only [List.getElem?_cons_zero, List.getElem?_cons_succ, Option.some.injEq] at ho
                  subst ho
                  intro a W vs hB hS hE hU
                  obtain ⟨r22, e170⟩ := hE 22 170 (by kernel_rfl) (by kernel_rfl)
                  have v170 : a.eval (.tmp 170) = .bool true := e170.trans r22
                  refine wpG_yes 22 true 170 rfl (by kernel_rfl) (by rw [hS]; first | simp | exact Nat.le_of_ble_eq_true rfl) v170 ?_
                  have v10 : a.eval (.tmp 10) = .int .i64 (m : Nat) := (hU 10 (by kernel_rfl)).trans rfl
                  clear hE hU
                  exact wp_value_inv (w' := W) (.int .i64 (m : Nat)) (op_move rfl v10) ⟨_, rfl, hB, Fr.refl _ _, rfl, fun _ _ _ _ _ => trivial⟩
                · simp only [List.getElem?_cons_zero, List.getElem?_cons_succ, Option.some.injEq] at ho
                  subst ho
                  intro a W vs hB hS hE hU
                  obtain ⟨r22, e170⟩ := hE 22 170 (by kernel_rfl) (by kernel_rfl)
                  have v170 : a.eval (.tmp 170) = .bool true := e170.trans r22
                  refine wpG_yes 22 true 170 rfl (by kernel_rfl) (by rw [hS]; first | simp | exact Nat.le_of_ble_eq_true rfl) v170 ?_
                  have v14 : a.eval (.tmp 14) = .int .i64 ((q : Nat) + 2) := (hU 14 (by kernel_rfl)).trans rfl
                  clear hE hU
                  exact wp_value_inv (w' := W) (.int .i64 ((q : Nat) + 2)) (op_move rfl v14) ⟨_, rfl, hB, Fr.refl _ _, rfl, fun _ _ _ _ _ => trivial⟩
                · simp only [List.getElem?_cons_zero, List.getElem?_cons_succ, Option.some.injEq] at ho
                  subst ho
                  intro a W vs hB hS hE hU
                  obtain ⟨r22, e170⟩ := hE 22 170 (by kernel_rfl) (by kernel_rfl)
                  have v170 : a.eval (.tmp 170) = .bool true := e170.trans r22
                  refine wpG_yes 22 true 170 rfl (by kernel_rfl) (by rw [hS]; first | simp | exact Nat.le_of_ble_eq_true rfl) v170 ?_
                  obtain ⟨r25, e173⟩ := hE 25 173 (by kernel_rfl) (by kernel_rfl)
                  have v173 : a.eval (.tmp 173) = .int .i64 (m : Nat) := e173.trans r25
                  obtain ⟨r26, e174⟩ := hE 26 174 (by kernel_rfl) (by kernel_rfl)
                  have v174 : a.eval (.tmp 174) = .int .i64 ((q : Nat) + 2) := e174.trans r26
                  clear hE hU
                  exact wp_value_inv (w' := W) (.int .i64 ((m2 : Nat) : Int)) (op_bin rfl v173 v174 (rfl) (sub_in5 (by have := HM2.out.1; omega) (by omega) (by have := HM2.out.2; omega))) ⟨_, rfl, hB, Fr.refl _ _, rfl, fun _ _ _ _ _ => trivial⟩
                · simp only [List.getElem?_cons_zero, List.getElem?_cons_succ, Option.some.injEq] at ho
                  subst ho
                  intro a W vs hB hS hE hU
                  obtain ⟨r22, e170⟩ := hE 22 170 (by kernel_rfl) (by kernel_rfl)
                  have v170 : a.eval (.tmp 170) = .bool true := e170.trans r22
                  refine wpG_yes 22 true 170 rfl (by kernel_rfl) (by rw [hS]; first | simp | exact Nat.le_of_ble_eq_true rfl) v170 ?_
                  obtain ⟨r24, e172⟩ := hE 24 172 (by kernel_rfl) (by kernel_rfl)
                  have v172 : a.eval (.tmp 172) = .int .i64 ((m2 : Nat) : Int) := e172.trans r24
                  obtain ⟨r27, e175⟩ := hE 27 175 (by kernel_rfl) (by kernel_rfl)
                  have v175 : a.eval (.tmp 175) = .int .i64 ((m2 : Nat) : Int) := e175.trans r27
                  clear hE hU
                  exact wp_value_inv (w' := W) (.bool false) (op_bin rfl v172 v175 (guard_int W _ _ _ _ _ _ _) (neq_no)) ⟨_, rfl, hB, Fr.refl _ _, rfl, fun _ _ _ _ _ => trivial⟩
                · simp only [List.getElem?_cons_zero, List.getElem?_cons_succ, Option.some.injEq] at ho
                  subst ho
                  intro a W vs hB hS hE hU
                  obtain ⟨r19, e167⟩ := hE 19 167 (by kernel_rfl) (by kernel_rfl)
                  have v167 : a.eval (.tmp 167) = .bool false := e167.trans r19
                  refine wpG_yes 19 false 167 rfl (by kernel_rfl) (by rw [hS]; first | simp | exact Nat.le_of_ble_eq_true rfl) v167 ?_
                  obtain ⟨r22, e170⟩ := hE 22 170 (by kernel_rfl) (by kernel_rfl)
                  have v170 : a.eval (.tmp 170) = .bool true := e170.trans r22
                  obtain ⟨r28, e176⟩ := hE 28 176 (by kernel_rfl) (by kernel_rfl)
                  have v176 : a.eval (.tmp 176) = .bool false := e176.trans r28
                  clear hE hU
                  exact wp_value_inv (w' := W) (.bool false) (op_pick rfl v170 (by simp only [if_true]; exact v176)) ⟨_, rfl, hB, Fr.refl _ _, rfl, fun _ _ _ _ _ => trivial⟩
                · simp only [List.getElem?_cons_zero, List.getElem?_cons_succ, Option.some.injEq] at ho
                  subst ho
                  intro a W vs hB hS hE hU
                  obtain ⟨r2, e150⟩ := hE 2 150 (by kernel_rfl) (by kernel_rfl)
                  have v150 : a.eval (.tmp 150) = .bool true := e150.trans r2
                  refine wpG_yes 2 true 150 rfl (by kernel_rfl) (by rw [hS]; first | simp | exact Nat.le_of_ble_eq_true rfl) v150 ?_
                  obtain ⟨r19, e167⟩ := hE 19 167 (by kernel_rfl) (by kernel_rfl)
                  have v167 : a.eval (.tmp 167) = .bool false := e167.trans r19
                  obtain ⟨r29, e177⟩ := hE 29 177 (by kernel_rfl) (by kernel_rfl)
                  have v177 : a.eval (.tmp 177) = .bool false := e177.trans r29
                  clear hE hU
                  exact wp_value_inv (w' := W) (.bool false) (op_pick rfl v167 (by simp only [Bool.false_eq_true, if_false]; exact v177)) ⟨_, rfl, hB, Fr.refl _ _, rfl, fun _ _ _ _ _ => trivial⟩
                · simp only [List.getElem?_cons_zero, List.getElem?_cons_succ, Option.some.injEq] at ho
                  subst ho
                  intro a W vs hB hS hE hU
                  refine wpG_plain rfl ?_
                  obtain ⟨r2, e150⟩ := hE 2 150 (by kernel_rfl) (by kernel_rfl)
                  have v150 : a.eval (.tmp 150) = .bool true := e150.trans r2
                  obtain ⟨r30, e178⟩ := hE 30 178 (by kernel_rfl) (by kernel_rfl)
                  have v178 : a.eval (.tmp 178) = .bool false := e178.trans r30
                  clear hE hU
                  exact wp_value_inv (w' := W) (.bool false) (op_pick rfl v150 (by simp only [if_true]; exact v178)) ⟨_, rfl, hB, Fr.refl _ _, rfl, fun _ _ _ _ _ => trivial⟩
              · intro vs Wb hB0 hR0 hD
                have r179 : vs 31 = .bool false := hR0 31 (by decide)
                have HB9 := Lib.hid hB0
                clear hR0 hD hB0
                simp only [acts, if_true, dstAt, List.getElem?_cons_zero, List.getElem?_cons_succ, Option.bind_some, Act.put, List.setIfInBounds_toArray, List.set_cons_succ, List.set_cons_zero, List.drop_succ_cons, List.drop_nil]
                simp only [r179]
                clear r179
                go_wp2_with fail
                go_roundw
                case rel => exact ⟨i + 1, by omega, by go_num, Lib.hid ⟨_, _, _, _, HG5.out.quiet HB9.out, HA.out.2⟩⟩
                case measure => simp [intOf]; omega
            · have d128 : decide ((128 : Int) ≤ (q : Int)) = true := by rw [decide_eq_true_iff]; omega
              have hfit : decide ((q : Int) + 2 ≤ (m : Int)) = false := by rw [decide_eq_false_iff_not]; omega
              have HF1 := Lib.hid True.intro
              go_wp2_with (first
                | (go_at_call 17; refine (gRoom HG.out HOK.out HO.out.kp.right.used).mono ?_; rintro e r1 ⟨rfl, hr1⟩; rw [← HMX.out.1]; (have HG := Lib.hid (HG.out.quiet hr1)); clear hr1)
                | (go_at_call 18; refine (gRound HG.out).mono ?_; rintro e r2 ⟨rfl, hr2⟩; rw [← HMX.out.2]; (have HG := Lib.hid (HG.out.quiet hr2)); clear hr2)
                | (go_at_call 19; refine (gKept HG.out).mono ?_; rintro e r3 ⟨kv, rfl, hk3, hr3⟩; clear HF1; (have HG := Lib.hid (HG.out.quiet hr3)); (have HK1 := Lib.hid hk3.bytes); (have HP3 := Lib.hid (HP.out.keep (H5.out.1.trans HG.out.fr (fun _ h => h.elim)) (fun _ _ _ h => h))); (have hcw := HP3.out.what); (have hcb := HP3.out.cb); (rw [HQX.out] at hcb); (have HBY := Lib.hid (HQX.out ▸ HP3.out.bytes)); (obtain ⟨s0, s1, s2⟩ := row3_cells (HG.out.fr.heap H5.out.2 id)); clear hr3 hk3)
                | (go_at_call 12; refine (pick_any p.what 9 _ (by decide) (by decide) HP.out.wf.1.1 HP.out.wf.1.2).mono ?_; rintro e r4 ⟨rfl, rfl⟩))
              refine (jAppend_long (D := fun _ => False) _ jn g s l la d h _ p.B dv HOK.out.l8 HO.out.kp.right HO.out.kp.right.used (by rw [HQ.out.1]; omega) HG.out.jrn HBY.out (by rw [HRC.out, ← HMX.out.1]; omega) trivial).mono ?_
              rintro e r5 ⟨rfl, hf5⟩
              have HG := Lib.hid (HG.out.quiet hf5)
              have HK1 := Lib.hid (HK1.out.keep hf5 (fun _ _ _ h => h))
              obtain ⟨s0, s1, s2⟩ := row3_cells (HG.out.fr.heap H5.out.2 id)
              clear hf5
              go_wp2_with (first
                | (go_at_call 17; refine (gRoom HG.out HOK.out HO.out.kp.right.used).mono ?_; rintro e r6 ⟨rfl, hr1⟩; rw [← HMX.out.1]; (have HG := Lib.hid (HG.out.quiet hr1)); (have HK1 := Lib.hid (HK1.out.keep hr1 (fun _ _ _ h => h))); clear hr1)
                | (go_at_call 18; refine (gRound HG.out).mono ?_; rintro e r7 ⟨rfl, hr2⟩; rw [← HMX.out.2]; (have HG := Lib.hid (HG.out.quiet hr2)); (have HK1 := Lib.hid (HK1.out.keep hr2 (fun _ _ _ h => h))); clear hr2)
                | (go_at_call 19; refine (gKept HG.out).mono ?_; rintro e r8 ⟨kw, rfl, hk7, hr7⟩; (have HG := Lib.hid (HG.out.quiet hr7)); (have HK1 := Lib.hid (HK1.out.keep hr7 (fun _ _ _ h => h))); (have HK2 := Lib.hid hk7.bytes); clear hr7 hk7)
                | (go_at_call 22; refine (same_any _ _ dv.all dv.all _ HK2.out HK1.out).mono ?_; rintro e r9 ⟨rfl, hdr⟩; rw [sameB_eq rfl]; (have HG := Lib.hid (show LgAt w5 r9 jn g s l la d h false dv (fun _ => False) by obtain ⟨nn, rfl⟩ := hdr; exact HG.out.quiet ((Fr.refl _ _).drewN nn))); clear hdr))
              clear s0 s1 s2 hcw hcb d128 hfit
              refine wp_region_inv 32 (by kernel_rfl) (by kernel_rfl) (fun W => Fr (fun _ => False) r9 W) (RmaR jn gs l m x) (fun _ _ _ _ => True) (Fr (fun _ => False)) (RmaR.ext jn gs l m x) (Fr.refl _ _).drew ?_ ?_
              · intro i hi o ho
                replace hi : i < 32 := hi
                obtain rfl | rfl | rfl | rfl | rfl | rfl | rfl | rfl | rfl | rfl | rfl | rfl | rfl | rfl | rfl | rfl | rfl | rfl | rfl | rfl | rfl | rfl | rfl | rfl | rfl | rfl | rfl | rfl | rfl | rfl | rfl | rfl : i = 0 ∨ i = 1 ∨ i = 2 ∨ i = 3 ∨ i = 4 ∨ i = 5 ∨ i = 6 ∨ i = 7 ∨ i = 8 ∨ i = 9 ∨ i = 10 ∨ i = 11 ∨ i = 12 ∨ i = 13 ∨ i = 14 ∨ i = 15 ∨ i = 16 ∨ i = 17 ∨ i = 18 ∨ i = 19 ∨ i = 20 ∨ i = 21 ∨ i = 22 ∨ i = 23 ∨ i = 24 ∨ i = 25 ∨ i = 26 ∨ i = 27 ∨ i = 28 ∨ i = 29 ∨ i = 30 ∨ i = 31 := by omega
                · simp only [List.getElem?_cons_zero, Option.some.injEq] at ho
                  subst ho
                  intro a W vs hB hS hE hU
                  refine wpG_plain rfl ?_
                  have v16 : a.eval (.tmp 16) = .int .i64 3 := (hU 16 (by kernel_rfl)).trans rfl
                  clear hE hU
                  exact wp_value_inv (w' := W) (.int .i64 3) (op_move rfl v16) ⟨_, rfl, hB, Fr.refl _ _, rfl, fun _ _ _ _ _ => trivial⟩
                · simp only [List.getElem?_cons_zero, List.getElem?_cons_succ, Option.some.injEq] at ho
                  subst ho
                  intro a W vs hB hS hE hU
                  refine wpG_plain rfl ?_
                  obtain ⟨r0, e148⟩ := hE 0 148 (by kernel_rfl) (by kernel_rfl)
                  have v148 : a.eval (.tmp 148) = .int .i64 3 := e148.trans r0
                  clear hE hU
                  exact wp_value_inv (w' := W) (.bool false) (op_bin rfl v148 rfl (guard_int W _ _ _ _ _ _ _) (eql_no (by decide))) ⟨_, rfl, hB, Fr.refl _ _, rfl, fun _ _ _ _ _ => trivial⟩
                · simp only [List.getElem?_cons_zero, List.getElem?_cons_succ, Option.some.injEq] at ho
                  subst ho
                  intro a W vs hB hS hE hU
                  refine wpG_plain rfl ?_
                  obtain ⟨r1, e149⟩ := hE 1 149 (by kernel_rfl) (by kernel_rfl)
                  have v149 : a.eval (.tmp 149) = .bool false := e149.trans r1
                  clear hE hU
                  exact wp_value_inv (w' := W) (.bool false) (op_move rfl v149) ⟨_, rfl, hB, Fr.refl _ _, rfl, fun _ _ _ _ _ => trivial⟩
                · simp only [List.getElem?_cons_zero, List.getElem?_cons_succ, Option.some.injEq] at ho
                  subst ho
                  intro a W vs hB hS hE hU
                  obtain ⟨r2, e150⟩ := hE 2 150 (by kernel_rfl) (by kernel_rfl)
                  have v150 : a.eval (.tmp 150) = .bool false := e150.trans r2
                  exact wpG_no 2 true 150 rfl (by kernel_rfl) (by rw [hS]; first | simp | exact Nat.le_of_ble_eq_true rfl) v150 ⟨_, rfl, hB, Fr.refl _ _, rfl, fun _ _ _ _ _ => trivial⟩
                · simp only [List.getElem?_cons_zero, List.getElem?_cons_succ, Option.some.injEq] at ho
                  subst ho
                  intro a W vs hB hS hE hU
                  obtain ⟨r2, e150⟩ := hE 2 150 (by kernel_rfl) (by kernel_rfl)
                  have v150 : a.eval (.tmp 150) = .bool false := e150.trans r2
                  exact wpG_no 2 true 150 rfl (by kernel_rfl) (by rw [hS]; first | simp | exact Nat.le_of_ble_eq_true rfl) v150 ⟨_, rfl, hB, Fr.refl _ _, rfl, fun _ _ _ _ _ => trivial⟩
                · simp only [List.getElem?_cons_zero, List.getElem?_cons_succ, Option.some.injEq] at ho
                  subst ho
                  intro a W vs hB hS hE hU
                  obtain ⟨r2, e150⟩ := hE 2 150 (by kernel_rfl) (by kernel_rfl)
                  have v150 : a.eval (.tmp 150) = .bool false := e150.trans r2
                  exact wpG_no 2 true 150 rfl (by kernel_rfl) (by rw [hS]; first | simp | exact Nat.le_of_ble_eq_true rfl) v150 ⟨_, rfl, hB, Fr.refl _ _, rfl, fun _ _ _ _ _ => trivial⟩
                · simp only [List.getElem?_cons_zero, List.getElem?_cons_succ, Option.some.injEq] at ho
                  subst ho
                  intro a W vs hB hS hE hU
                  obtain ⟨r2, e150⟩ := hE 2 150 (by kernel_rfl) (by kernel_rfl)
                  have v150 : a.eval (.tmp 150) = .bool false := e150.trans r2
                  exact wpG_no 2 true 150 rfl (by kernel_rfl) (by rw [hS]; first | simp | exact Nat.le_of_ble_eq_true rfl) v150 ⟨_, rfl, hB, Fr.refl _ _, rfl, fun _ _ _ _ _ => trivial⟩
                · simp only [List.getElem?_cons_zero, List.getElem?_cons_succ, Option.some.injEq] at ho
                  subst ho
                  intro a W vs hB hS hE hU
                  obtain ⟨r2, e150⟩ := hE 2 150 (by kernel_rfl) (by kernel_rfl)
                  have v150 : a.eval (.tmp 150) = .bool false := e150.trans r2
                  exact wpG_no 2 true 150 rfl (by kernel_rfl) (by rw [hS]; first | simp | exact Nat.le_of_ble_eq_true rfl) v150 ⟨_, rfl, hB, Fr.refl _ _, rfl, fun _ _ _ _ _ => trivial⟩
                · simp only [List.getElem?_cons_zero, List.getElem?_cons_succ, Option.some.injEq] at ho
                  subst ho
                  intro a W vs hB hS hE hU
                  obtain ⟨r2, e150⟩ := hE 2 150 (by kernel_rfl) (by kernel_rfl)
                  have v150 : a.eval (.tmp 150) = .bool false := e150.trans r2
                  exact wpG_no 2 true 150 rfl (by kernel_rfl) (by rw [hS]; first | simp | exact Nat.le_of_ble_eq_true rfl) v150 ⟨_, rfl, hB, Fr.refl _ _, rfl, fun _ _ _ _ _ => trivial⟩
                · simp only [List.getElem?_cons_zero, List.getElem?_cons_succ, Option.some.injEq] at ho
                  subst ho
                  intro a W vs hB hS hE hU
                  obtain ⟨r8, e156⟩ := hE 8 156 (by kernel_rfl) (by kernel_rfl)
                  have v156 : a.eval (.tmp 156) = undef := e156.trans r8
                  exact wpG_undef 8 false 156 rfl (by kernel_rfl) (by rw [hS]; first | simp | exact Nat.le_of_ble_eq_true rfl) v156 ⟨_, rfl, hB, Fr.refl _ _, rfl, fun _ _ _ _ _ => trivial⟩
                · simp only [List.getElem?_cons_zero, List.getElem?_cons_succ, Option.some.injEq] at ho
                  subst ho
                  intro a W vs hB hS hE hU
                  obtain ⟨r8, e156⟩ := hE 8 156 (by kernel_rfl) (by kernel_rfl)
                  have v156 : a.eval (.tmp 156) = undef := e156.trans r8
                  exact wpG_undef 8 false 156 rfl (by kernel_rfl) (by rw [hS]; first | simp | exact Nat.le_of_ble_eq_true rfl) v156 ⟨_, rfl, hB, Fr.refl _ _, rfl, fun _ _ _ _ _ => trivial⟩
                · simp only [List.getElem?_cons_zero, List.getElem?_cons_succ, Option.some.injEq] at ho
                  subst ho
                  intro a W vs hB hS hE hU
                  obtain ⟨r10, e158⟩ := hE 10 158 (by kernel_rfl) (by kernel_rfl)
                  have v158 : a.eval (.tmp 158) = undef := e158.trans r10
                  exact wpG_undef 10 true 158 rfl (by kernel_rfl) (by rw [hS]; first | simp | exact Nat.le_of_ble_eq_true rfl) v158 ⟨_, rfl, hB, Fr.refl _ _, rfl, fun _ _ _ _ _ => trivial⟩
                · simp only [List.getElem?_cons_zero, List.getElem?_cons_succ, Option.some.injEq] at ho
                  subst ho
                  intro a W vs hB hS hE hU
                  obtain ⟨r10, e158⟩ := hE 10 158 (by kernel_rfl) (by kernel_rfl)
                  have v158 : a.eval (.tmp 158) = undef := e158.trans r10
                  exact wpG_undef 10 true 158 rfl (by kernel_rfl) (by rw [hS]; first | simp | exact Nat.le_of_ble_eq_true rfl) v158 ⟨_, rfl, hB, Fr.refl _ _, rfl, fun _ _ _ _ _ => trivial⟩
                · simp only [List.getElem?_cons_zero, List.getElem?_cons_succ, Option.some.injEq] at ho
                  subst ho
                  intro a W vs hB hS hE hU
                  obtain ⟨r10, e158⟩ := hE 10 158 (by kernel_rfl) (by kernel_rfl)
                  have v158 : a.eval (.tmp 158) = undef := e158.trans r10
                  exact wpG_undef 10 true 158 rfl (by kernel_rfl) (by rw [hS]; first | simp | exact Nat.le_of_ble_eq_true rfl) v158 ⟨_, rfl, hB, Fr.refl _ _, rfl, fun _ _ _ _ _ => trivial⟩
                · simp only [List.getElem?_cons_zero, List.getElem?_cons_succ, Option.some.injEq] at ho
                  subst ho
                  intro a W vs hB hS hE hU
                  obtain ⟨r10, e158⟩ := hE 10 158 (by kernel_rfl) (by kernel_rfl)
                  have v158 : a.eval (.tmp 158) = undef := e158.trans r10
                  exact wpG_undef 10 true 158 rfl (by kernel_rfl) (by rw [hS]; first | simp | exact Nat.le_of_ble_eq_true rfl) v158 ⟨_, rfl, hB, Fr.refl _ _, rfl, fun _ _ _ _ _ => trivial⟩
                · simp only [List.getElem?_cons_zero, List.getElem?_cons_succ, Option.some.injEq] at ho
                  subst ho
                  intro a W vs hB hS hE hU
                  obtain ⟨r10, e158⟩ := hE 10 158 (by kernel_rfl) (by kernel_rfl)
                  have v158 : a.eval (.tmp 158) = undef := e158.trans r10
                  exact wpG_undef 10 true 158 rfl (by kernel_rfl) (by rw [hS]; first | simp | exact Nat.le_of_ble_eq_true rfl) v158 ⟨_, rfl, hB, Fr.refl _ _, rfl, fun _ _ _ _ _ => trivial⟩
                · simp only [List.getElem?_cons_zero, List.getElem?_cons_succ, Option.some.injEq] at ho
                  subst ho
                  intro a W vs hB hS hE hU
                  obtain ⟨r10, e158⟩ := hE 10 158 (by kernel_rfl) (by kernel_rfl)
                  have v158 : a.eval (.tmp 158) = undef := e158.trans r10
                  exact wpG_undef 10 true 158 rfl (by kernel_rfl) (by rw [hS]; first | simp | exact Nat.le_of_ble_eq_true rfl) v158 ⟨_, rfl, hB, Fr.refl _ _, rfl, fun _ _ _ _ _ => trivial⟩
                · simp only [List.getElem?_cons_zero, List.getElem?_cons_succ, Option.some.injEq] at ho
                  subst ho
                  intro a W vs hB hS hE hU
                  obtain ⟨r8, e156⟩ := hE 8 156 (by kernel_rfl) (by kernel_rfl)
                  have v156 : a.eval (.tmp 156) = undef := e156.trans r8
                  exact wpG_undef 8 false 156 rfl (by kernel_rfl) (by rw [hS]; first | simp | exact Nat.le_of_ble_eq_true rfl) v156 ⟨_, rfl, hB, Fr.refl _ _, rfl, fun _ _ _ _ _ => trivial⟩
                · simp only [List.getElem?_cons_zero, List.getElem?_cons_succ, Option.some.injEq] at ho
                  subst ho
                  intro a W vs hB hS hE hU
                  obtain ⟨r2, e150⟩ := hE 2 150 (by kernel_rfl) (by kernel_rfl)
                  have v150 : a.eval (.tmp 150) = .bool false := e150.trans r2
                  exact wpG_no 2 true 150 rfl (by kernel_rfl) (by rw [hS]; first | simp | exact Nat.le_of_ble_eq_true rfl) v150 ⟨_, rfl, hB, Fr.refl _ _, rfl, fun _ _ _ _ _ => trivial⟩
                · simp only [List.getElem?_cons_zero, List.getElem?_cons_succ, Option.some.injEq] at ho
                  subst ho
                  intro a W vs hB hS hE hU
                  obtain ⟨r2, e150⟩ := hE 2 150 (by kernel_rfl) (by kernel_rfl)
                  have v150 : a.eval (.tmp 150) = .bool false := e150.trans r2
                  exact wpG_no 2 true 150 rfl (by kernel_rfl) (by rw [hS]; first | simp | exact Nat.le_of_ble_eq_true rfl) v150 ⟨_, rfl, hB, Fr.refl _ _, rfl, fun _ _ _ _ _ => trivial⟩
                · simp only [List.getElem?_cons_zero, List.getElem?_cons_succ, Option.some.injEq] at ho
                  subst ho
                  intro a W vs hB hS hE hU
                  obtain ⟨r19, e167⟩ := hE 19 167 (by kernel_rfl) (by kernel_rfl)
                  have v167 : a.eval (.tmp 167) = undef := e167.trans r19
                  exact wpG_undef 19 false 167 rfl (by kernel_rfl) (by rw [hS]; first | simp | exact Nat.le_of_ble_eq_true rfl) v167 ⟨_, rfl, hB, Fr.refl _ _, rfl, fun _ _ _ _ _ => trivial⟩
                · simp only [List.getElem?_cons_zero, List.getElem?_cons_succ, Option.some.injEq] at ho
                  subst ho
                  intro a W vs hB hS hE hU
                  obtain ⟨r19, e167⟩ := hE 19 167 (by kernel_rfl) (by kernel_rfl)
                  have v167 : a.eval (.tmp 167) = undef := e167.trans r19
                  exact wpG_undef 19 false 167 rfl (by kernel_rfl) (by rw [hS]; first | simp | exact Nat.le_of_ble_eq_true rfl) v167 ⟨_, rfl, hB, Fr.refl _ _, rfl, fun _ _ _ _ _ => trivial⟩
                · simp only [List.getElem?_cons_zero, List.getElem?_cons_succ, Option.some.injEq] at ho
                  subst ho
                  intro a W vs hB hS hE hU
                  obtain ⟨r19, e167⟩ := hE 19 167 (by kernel_rfl) (by kernel_rfl)
                  have v167 : a.eval (.tmp 167) = undef := e167.trans r19
                  exact wpG_undef 19 false 167 rfl (by kernel_rfl) (by rw [hS]; first | simp | exact Nat.le_of_ble_eq_true rfl) v167 ⟨_, rfl, hB, Fr.refl _ _, rfl, fun _ _ _ _ _ => trivial⟩
                · simp only [List.getElem?_cons_zero, List.getElem?_cons_succ, Option.some.injEq] at ho
                  subst ho
                  intro a W vs hB hS hE hU
                  obtain ⟨r22, e170⟩ := hE 22 170 (by kernel_rfl) (by kernel_rfl)
                  have v170 : a.eval (.tmp 170) = undef := e170.trans r22
                  exact wpG_undef 22 true 170 rfl (by kernel_rfl) (by rw [hS]; first | simp | exact Nat.le_of_ble_eq_true rfl) v170 ⟨_, rfl, hB, Fr.refl _ _, rfl, fun _ _ _ _ _ => trivial⟩
                · simp only [List.getElem?_cons_zero, List.getElem?_cons_succ, Option.some.injEq] at ho
                  subst ho
                  intro a W vs hB hS hE hU
                  obtain ⟨r22, e170⟩ := hE 22 170 (by kernel_rfl) (by kernel_rfl)
                  have v170 : a.eval (.tmp 170) = undef := e170.trans r22
                  exact wpG_undef 22 true 170 rfl (by kernel_rfl) (by rw [hS]; first | simp | exact Nat.le_of_ble_eq_true rfl) v170 ⟨_, rfl, hB, Fr.refl _ _, rfl, fun _ _ _ _ _ => trivial⟩
                · simp only [List.getElem?_cons_zero, List.getElem?_cons_succ, Option.some.injEq] at ho
                  subst ho
                  intro a W vs hB hS hE hU
                  obtain ⟨r22, e170⟩ := hE 22 170 (by kernel_rfl) (by kernel_rfl)
                  have v170 : a.eval (.tmp 170) = undef := e170.trans r22
                  exact wpG_undef 22 true 170 rfl (by kernel_rfl) (by rw [hS]; first | simp | exact Nat.le_of_ble_eq_true rfl) v170 ⟨_, rfl, hB, Fr.refl _ _, rfl, fun _ _ _ _ _ => trivial⟩
                · simp only [List.getElem?_cons_zero, List.getElem?_cons_succ, Option.some.injEq] at ho
                  subst ho
                  intro a W vs hB hS hE hU
                  obtain ⟨r22, e170⟩ := hE 22 170 (by kernel_rfl) (by kernel_rfl)
                  have v170 : a.eval (.tmp 170) = undef := e170.trans r22
                  exact wpG_undef 22 true 170 rfl (by kernel_rfl) (by rw [hS]; first | simp | exact Nat.le_of_ble_eq_true rfl) v170 ⟨_, rfl, hB, Fr.refl _ _, rfl, fun _ _ _ _ _ => trivial⟩
                · simp only [List.getElem?_cons_zero, List.getElem?_cons_succ, Option.some.injEq] at ho
                  subst ho
                  intro a W vs hB hS hE hU
                  obtain ⟨r22, e170⟩ := hE 22 170 (by kernel_rfl) (by kernel_rfl)
                  have v170 : a.eval (.tmp 170) = undef := e170.trans r22
                  exact wpG_undef 22 true 170 rfl (by kernel_rfl) (by rw [hS]; first | simp | exact Nat.le_of_ble_eq_true rfl) v170 ⟨_, rfl, hB, Fr.refl _ _, rfl, fun _ _ _ _ _ => trivial⟩
                · simp only [List.getElem?_cons_zero, List.getElem?_cons_succ, Option.some.injEq] at ho
                  subst ho
                  intro a W vs hB hS hE hU
                  obtain ⟨r22, e170⟩ := hE 22 170 (by kernel_rfl) (by kernel_rfl)
                  have v170 : a.eval (.tmp 170) = undef := e170.trans r22
                  exact wpG_undef 22 true 170 rfl (by kernel_rfl) (by rw [hS]; first | simp | exact Nat.le_of_ble_eq_true rfl) v170 ⟨_, rfl, hB, Fr.refl _ _, rfl, fun _ _ _ _ _ => trivial⟩
                · simp only [List.getElem?_cons_zero, List.getElem?_cons_succ, Option.some.injEq] at ho
                  subst ho
                  intro a W vs hB hS hE hU
                  obtain ⟨r19, e167⟩ := hE 19 167 (by kernel_rfl) (by kernel_rfl)
                  have v167 : a.eval (.tmp 167) = undef := e167.trans r19
                  exact wpG_undef 19 false 167 rfl (by kernel_rfl) (by rw [hS]; first | simp | exact Nat.le_of_ble_eq_true rfl) v167 ⟨_, rfl, hB, Fr.refl _ _, rfl, fun _ _ _ _ _ => trivial⟩
                · simp only [List.getElem?_cons_zero, List.getElem?_cons_succ, Option.some.injEq] at ho
                  subst ho
                  intro a W vs hB hS hE hU
                  obtain ⟨r2, e150⟩ := hE 2 150 (by kernel_rfl) (by kernel_rfl)
                  have v150 : a.eval (.tmp 150) = .bool false := e150.trans r2
                  exact wpG_no 2 true 150 rfl (by kernel_rfl) (by rw [hS]; first | simp | exact Nat.le_of_ble_eq_true rfl) v150 ⟨_, rfl, hB, Fr.refl _ _, rfl, fun _ _ _ _ _ => trivial⟩
                · simp only [List.getElem?_cons_zero, List.getElem?_cons_succ, Option.some.injEq] at ho
                  subst ho
                  intro a W vs hB hS hE hU
                  refine wpG_plain rfl ?_
                  obtain ⟨r2, e150⟩ := hE 2 150 (by kernel_rfl) (by kernel_rfl)
                  have v150 : a.eval (.tmp 150) = .bool false := e150.trans r2
                  clear hE hU
                  exact wp_value_inv (w' := W) (.bool false) (op_pick rfl v150 (by simp only [Bool.false_eq_true, if_false]; rfl)) ⟨_, rfl, hB, Fr.refl _ _, rfl, fun _ _ _ _ _ => trivial⟩
              · intro vs Wb hB0 hR0 hD
                have r179 : vs 31 = .bool false := hR0 31 (by decide)
                have HB9 := Lib.hid hB0
                clear hR0 hD hB0
                simp only [acts, if_true, dstAt, List.getElem?_cons_zero, List.getElem?_cons_succ, Option.bind_some, Act.put, List.setIfInBounds_toArray, List.set_cons_succ, List.set_cons_zero, List.drop_succ_cons, List.drop_nil]
                simp only [r179]
                clear r179
                go_wp2_with fail
                go_roundw
                case rel => exact ⟨i + 1, by omega, by go_num, Lib.hid ⟨_, _, _, _, HG.out.quiet HB9.out, (HO.out.next)⟩⟩
                case measure => simp [intOf]; omega
        · have hrc : (recB p.B).length = q + 1 := by rw [hrs, if_neg h128]
          have HRC := Lib.hid hrc
          by_cases hsw2 : p.what % 9 = 2
          · have hsw : (p.what % 9 == (2 : Int)) = true := by rw [beq_iff_eq]; exact hsw2
            by_cases hf2 : q ≤ 64 * la
            · have d128 : decide ((128 : Int) ≤ (q : Int)) = false := by rw [decide_eq_false_iff_not]; omega
              have hfit : decide ((q : Int) ≤ 64 * (la : Int)) = true := by rw [decide_eq_true_iff]; omega
              have HA := Lib.hid (HO.out.switch HBD.out.1 (by omega) p.B (by rw [HQ.out.1]; omega))
              have HF1 := Lib.hid True.intro
              go_wp2_with (first
                | (go_at_call 17; refine (gRoom HG.out HOK.out HO.out.kp.right.used).mono ?_; rintro e r1 ⟨rfl, hr1⟩; rw [← HMX.out.1]; (have HG := Lib.hid (HG.out.quiet hr1)); clear hr1)
                | (go_at_call 18; refine (gRound HG.out).mono ?_; rintro e r2 ⟨rfl, hr2⟩; rw [← HMX.out.2]; (have HG := Lib.hid (HG.out.quiet hr2)); clear hr2)
                | (go_at_call 19; refine (gKept HG.out).mono ?_; rintro e r3 ⟨kv, rfl, hk3, hr3⟩; clear HF1; (have HG := Lib.hid (HG.out.quiet hr3)); (have HK1 := Lib.hid hk3.bytes); (have HP3 := Lib.hid (HP.out.keep (H5.out.1.trans HG.out.fr (fun _ h => h.elim)) (fun _ _ _ h => h))); (have hcw := HP3.out.what); (have hcb := HP3.out.cb); (rw [HQX.out] at hcb); (have HBY := Lib.hid (HQX.out ▸ HP3.out.bytes)); (obtain ⟨s0, s1, s2⟩ := row3_cells (HG.out.fr.heap H5.out.2 id)); clear hr3 hk3)
                | (go_at_call 12; refine (pick_any p.what 9 _ (by decide) (by decide) HP.out.wf.1.1 HP.out.wf.1.2).mono ?_; rintro e r4 ⟨rfl, rfl⟩)
                | (go_at_call 20; refine (gSwitch HG.out HOK.out HO.out.kp.right _ p.B HBY.out (by rw [HQ.out.1]; omega) (by have := HO.out.round; omega) HO.out.up HO.out.waits (by have := HO.out.deeds; omega)).mono ?_; rintro e r5 ⟨rfl, hL5, hf5⟩; rw [if_pos HA.out.1, if_pos HA.out.1] at hL5; rw [HA.out.1]; (have HG5 := Lib.hid hL5); (obtain ⟨s0, s1, s2⟩ := row3_cells (HG5.out.fr.heap H5.out.2 id)); clear hL5 hf5))
              have HRN := Lib.hid (fun W (hW : Fr (fun _ => False) r5 W) => show Calls Tryz.prog 18 #[.pointer (some ⟨jn, 0, none⟩)] W (fun e w' => e = .returned (.int .i64 ((x + 1 : Nat) : Int)) ∧ Fr (fun _ => False) W w') by rw [HMX.out.2]; exact gRound (HG5.out.quiet hW))
              have HRM := Lib.hid (fun W (hW : Fr (fun _ => False) r5 W) => show Calls Tryz.prog 17 #[.pointer (some ⟨jn, 0, none⟩)] W (fun e w' => e = .returned (.int .i64 ((64 * l : Nat) : Int)) ∧ Fr (fun _ => False) W w') from gRoom (HG5.out.quiet hW) HOK.out HA.out.2.kp.right.used)
              have LDL := Lib.hid (fun W (hW : Fr (fun _ => False) r5 W) => load_int5 W ⟨gs, 0, none⟩ (.int .i64 l) (cell_of_row _ _ _ _ _ _ ((HG5.out.quiet hW).fr.heap H5.out.2 id)))
              have HX6 := Lib.hid (show x ≤ 1000 by have := HO.out.round; have := HMX.out.2; omega)
              clear s0 s1 s2 hcw hcb d128 hfit
              refine wp_region_inv 32 (by kernel_rfl) (by kernel_rfl) (fun W => Fr (fun _ => False) r5 W) (RmbR jn gs l m x) (fun _ _ _ _ => True) (Fr (fun _ => False)) (RmbR.ext jn gs l m x) (Fr.refl _ _).drew ?_ ?_
              · intro i hi o ho
                replace hi : i < 32 := hi
                obtain rfl | rfl | rfl | rfl | rfl | rfl | rfl | rfl | rfl | rfl | rfl | rfl | rfl | rfl | rfl | rfl | rfl | rfl | rfl | rfl | rfl | rfl | rfl | rfl | rfl | rfl | rfl | rfl | rfl | rfl | rfl | rfl : i = 0 ∨ i = 1 ∨ i = 2 ∨ i = 3 ∨ i = 4 ∨ i = 5 ∨ i = 6 ∨ i = 7 ∨ i = 8 ∨ i = 9 ∨ i = 10 ∨ i = 11 ∨ i = 12 ∨ i = 13 ∨ i = 14 ∨ i = 15 ∨ i = 16 ∨ i = 17 ∨ i = 18 ∨ i = 19 ∨ i = 20 ∨ i = 21 ∨ i = 22 ∨ i = 23 ∨ i = 24 ∨ i = 25 ∨ i = 26 ∨ i = 27 ∨ i = 28 ∨ i = 29 ∨ i = 30 ∨ i = 31 := by omega
                · simp only [List.getElem?_cons_zero, Option.some.injEq] at ho
                  subst ho
                  intro a W vs hB hS hE hU
                  refine wpG_plain rfl ?_
                  have v16 : a.eval (.tmp 16) = .int .i64 0 := (hU 16 (by kernel_rfl)).trans rfl
                  clear hE hU
                  exact wp_value_inv (w' := W) (.int .i64 0) (op_move rfl v16) ⟨_, rfl, hB, Fr.refl _ _, rfl, fun _ _ _ _ _ => trivial⟩
                · simp only [List.getElem?_cons_zero, List.getElem?_cons_succ, Option.some.injEq] at ho
                  subst ho
                  intro a W vs hB hS hE hU
                  refine wpG_plain rfl ?_
                  obtain ⟨r0, e148⟩ := hE 0 148 (by kernel_rfl) (by kernel_rfl)
                  have v148 : a.eval (.tmp 148) = .int .i64 0 := e148.trans r0
                  clear hE hU
                  exact wp_value_inv (w' := W) (.bool true) (op_bin rfl v148 rfl (guard_int W _ _ _ _ _ _ _) (eql_yes)) ⟨_, rfl, hB, Fr.refl _ _, rfl, fun _ _ _ _ _ => trivial⟩
                · simp only [List.getElem?_cons_zero, List.getElem?_cons_succ, Option.some.injEq] at ho
                  subst ho
                  intro a W vs hB hS hE hU
                  refine wpG_plain rfl ?_
                  obtain ⟨r1, e149⟩ := hE 1 149 (by kernel_rfl) (by kernel_rfl)
                  have v149 : a.eval (.tmp 149) = .bool true := e149.trans r1
                  clear hE hU
                  exact wp_value_inv (w' := W) (.bool true) (op_move rfl v149) ⟨_, rfl, hB, Fr.refl _ _, rfl, fun _ _ _ _ _ => trivial⟩
                · simp only [List.getElem?_cons_zero, List.getElem?_cons_succ, Option.some.injEq] at ho
                  subst ho
                  intro a W vs hB hS hE hU
                  obtain ⟨r2, e150⟩ := hE 2 150 (by kernel_rfl) (by kernel_rfl)
                  have v150 : a.eval (.tmp 150) = .bool true := e150.trans r2
                  refine wpG_yes 2 true 150 rfl (by kernel_rfl) (by rw [hS]; first | simp | exact Nat.le_of_ble_eq_true rfl) v150 ?_
                  have v7 : a.eval (.tmp 7) = .pointer (some ⟨jn, 0, none⟩) := (hU 7 (by kernel_rfl)).trans rfl
                  clear hE hU
                  exact wp_value_inv (w' := W) (.pointer (some ⟨jn, 0, none⟩)) (op_move rfl v7) ⟨_, rfl, hB, Fr.refl _ _, rfl, fun _ _ _ _ _ => trivial⟩
                · simp only [List.getElem?_cons_zero, List.getElem?_cons_succ, Option.some.injEq] at ho
                  subst ho
                  intro a W vs hB hS hE hU
                  obtain ⟨r2, e150⟩ := hE 2 150 (by kernel_rfl) (by kernel_rfl)
                  have v150 : a.eval (.tmp 150) = .bool true := e150.trans r2
                  refine wpG_yes 2 true 150 rfl (by kernel_rfl) (by rw [hS]; first | simp | exact Nat.le_of_ble_eq_true rfl) v150 ?_
                  obtain ⟨r3, e151⟩ := hE 3 151 (by kernel_rfl) (by kernel_rfl)
                  have v151 : a.eval (.tmp 151) = .pointer (some ⟨jn, 0, none⟩) := e151.trans r3
                  clear hE hU
                  refine wp_call_inv 18 #[.tmp 151] #[34] rfl #[.pointer (some ⟨jn, 0, none⟩)] (by simp only [List.map_toArray, List.map_cons, List.map_nil, v151]) (ent___spence_log_Journal__Round _) (Post := fun v W' => v = .int .i64 ((x + 1 : Nat) : Int) ∧ Fr (fun _ => False) W W') ((HRN.out W hB).mono fun e w' h => ⟨_, h.1, rfl, h.2⟩) ?_
                  rintro v W' ⟨rfl, hf⟩
                  exact ⟨_, rfl, hB.trans hf (fun _ h => h.elim), hf, rfl, fun _ _ _ _ _ => trivial⟩
                · simp only [List.getElem?_cons_zero, List.getElem?_cons_succ, Option.some.injEq] at ho
                  subst ho
                  intro a W vs hB hS hE hU
                  obtain ⟨r2, e150⟩ := hE 2 150 (by kernel_rfl) (by kernel_rfl)
                  have v150 : a.eval (.tmp 150) = .bool true := e150.trans r2
                  refine wpG_yes 2 true 150 rfl (by kernel_rfl) (by rw [hS]; first | simp | exact Nat.le_of_ble_eq_true rfl) v150 ?_
                  have v11 : a.eval (.tmp 11) = .int .i64 (x : Nat) := (hU 11 (by kernel_rfl)).trans rfl
                  clear hE hU
                  exact wp_value_inv (w' := W) (.int .i64 (x : Nat)) (op_move rfl v11) ⟨_, rfl, hB, Fr.refl _ _, rfl, fun _ _ _ _ _ => trivial⟩
                · simp only [List.getElem?_cons_zero, List.getElem?_cons_succ, Option.some.injEq] at ho
                  subst ho
                  intro a W vs hB hS hE hU
                  obtain ⟨r2, e150⟩ := hE 2 150 (by kernel_rfl) (by kernel_rfl)
                  have v150 : a.eval (.tmp 150) = .bool true := e150.trans r2
                  refine wpG_yes 2 true 150 rfl (by kernel_rfl) (by rw [hS]; first | simp | exact Nat.le_of_ble_eq_true rfl) v150 ?_
                  obtain ⟨r5, e153⟩ := hE 5 153 (by kernel_rfl) (by kernel_rfl)
                  have v153 : a.eval (.tmp 153) = .int .i64 (x : Nat) := e153.trans r5
                  clear hE hU
                  exact wp_value_inv (w' := W) (.int .i64 ((x + 1 : Nat) : Int)) (op_bin rfl v153 rfl (rfl) (add_in5 (by push_cast; rfl) (by omega) (by have := HX6.out; omega))) ⟨_, rfl, hB, Fr.refl _ _, rfl, fun _ _ _ _ _ => trivial⟩
                · simp only [List.getElem?_cons_zero, List.getElem?_cons_succ, Option.some.injEq] at ho
                  subst ho
                  intro a W vs hB hS hE hU
                  obtain ⟨r2, e150⟩ := hE 2 150 (by kernel_rfl) (by kernel_rfl)
                  have v150 : a.eval (.tmp 150) = .bool true := e150.trans r2
                  refine wpG_yes 2 true 150 rfl (by kernel_rfl) (by rw [hS]; first | simp | exact Nat.le_of_ble_eq_true rfl) v150 ?_
                  obtain ⟨r4, e152⟩ := hE 4 152 (by kernel_rfl) (by kernel_rfl)
                  have v152 : a.eval (.tmp 152) = .int .i64 ((x + 1 : Nat) : Int) := e152.trans r4
                  obtain ⟨r6, e154⟩ := hE 6 154 (by kernel_rfl) (by kernel_rfl)
                  have v154 : a.eval (.tmp 154) = .int .i64 ((x + 1 : Nat) : Int) := e154.trans r6
                  clear hE hU
                  exact wp_value_inv (w' := W) (.bool false) (op_bin rfl v152 v154 (guard_int W _ _ _ _ _ _ _) (neq_no)) ⟨_, rfl, hB, Fr.refl _ _, rfl, fun _ _ _ _ _ => trivial⟩
                · simp only [List.getElem?_cons_zero, List.getElem?_cons_succ, Option.some.injEq] at ho
                  subst ho
                  intro a W vs hB hS hE hU
                  obtain ⟨r2, e150⟩ := hE 2 150 (by kernel_rfl) (by kernel_rfl)
                  have v150 : a.eval (.tmp 150) = .bool true := e150.trans r2
                  refine wpG_yes 2 true 150 rfl (by kernel_rfl) (by rw [hS]; first | simp | exact Nat.le_of_ble_eq_true rfl) v150 ?_
                  obtain ⟨r7, e155⟩ := hE 7 155 (by kernel_rfl) (by kernel_rfl)
                  have v155 : a.eval (.tmp 155) = .bool false := e155.trans r7
                  clear hE hU
                  exact wp_value_inv (w' := W) (.bool false) (op_move rfl v155) ⟨_, rfl, hB, Fr.refl _ _, rfl, fun _ _ _ _ _ => trivial⟩
                · simp only [List.getElem?_cons_zero, List.getElem?_cons_succ, Option.some.injEq] at ho
                  subst ho
                  intro a W vs hB hS hE hU
                  obtain ⟨r8, e156⟩ := hE 8 156 (by kernel_rfl) (by kernel_rfl)
                  have v156 : a.eval (.tmp 156) = .bool false := e156.trans r8
                  refine wpG_yes 8 false 156 rfl (by kernel_rfl) (by rw [hS]; first | simp | exact Nat.le_of_ble_eq_true rfl) v156 ?_
                  have v15 : a.eval (.tmp 15) = .bool true := (hU 15 (by kernel_rfl)).trans rfl
                  clear hE hU
                  exact wp_value_inv (w' := W) (.bool true) (op_move rfl v15) ⟨_, rfl, hB, Fr.refl _ _, rfl, fun _ _ _ _ _ => trivial⟩
                · simp only [List.getElem?_cons_zero, List.getElem?_cons_succ, Option.some.injEq] at ho
                  subst ho
                  intro a W vs hB hS hE hU
                  obtain ⟨r8, e156⟩ := hE 8 156 (by kernel_rfl) (by kernel_rfl)
                  have v156 : a.eval (.tmp 156) = .bool false := e156.trans r8
                  refine wpG_yes 8 false 156 rfl (by kernel_rfl) (by rw [hS]; first | simp | exact Nat.le_of_ble_eq_true rfl) v156 ?_
                  obtain ⟨r9, e157⟩ := hE 9 157 (by kernel_rfl) (by kernel_rfl)
                  have v157 : a.eval (.tmp 157) = .bool true := e157.trans r9
                  clear hE hU
                  exact wp_value_inv (w' := W) (.bool true) (op_move rfl v157) ⟨_, rfl, hB, Fr.refl _ _, rfl, fun _ _ _ _ _ => trivial⟩
                · simp only [List.getElem?_cons_zero, List.getElem?_cons_succ, Option.some.injEq] at ho
                  subst ho
                  intro a W vs hB hS hE hU
                  obtain ⟨r10, e158⟩ := hE 10 158 (by kernel_rfl) (by kernel_rfl)
                  have v158 : a.eval (.tmp 158) = .bool true := e158.trans r10
                  refine wpG_yes 10 true 158 rfl (by kernel_rfl) (by rw [hS]; first | simp | exact Nat.le_of_ble_eq_true rfl) v158 ?_
                  have v7 : a.eval (.tmp 7) = .pointer (some ⟨jn, 0, none⟩) := (hU 7 (by kernel_rfl)).trans rfl
                  clear hE hU
                  exact wp_value_inv (w' := W) (.pointer (some ⟨jn, 0, none⟩)) (op_move rfl v7) ⟨_, rfl, hB, Fr.refl _ _, rfl, fun _ _ _ _ _ => trivial⟩
                · simp only [List.getElem?_cons_zero, List.getElem?_cons_succ, Option.some.injEq] at ho
                  subst ho
                  intro a W vs hB hS hE hU
                  obtain ⟨r10, e158⟩ := hE 10 158 (by kernel_rfl) (by kernel_rfl)
                  have v158 : a.eval (.tmp 158) = .bool true := e158.trans r10
                  refine wpG_yes 10 true 158 rfl (by kernel_rfl) (by rw [hS]; first | simp | exact Nat.le_of_ble_eq_true rfl) v158 ?_
                  obtain ⟨r11, e159⟩ := hE 11 159 (by kernel_rfl) (by kernel_rfl)
                  have v159 : a.eval (.tmp 159) = .pointer (some ⟨jn, 0, none⟩) := e159.trans r11
                  clear hE hU
                  refine wp_call_inv 17 #[.tmp 159] #[34] rfl #[.pointer (some ⟨jn, 0, none⟩)] (by simp only [List.map_toArray, List.map_cons, List.map_nil, v159]) (ent___spence_log_Journal__Room _) (Post := fun v W' => v = .int .i64 ((64 * l : Nat) : Int) ∧ Fr (fun _ => False) W W') ((HRM.out W hB).mono fun e w' h => ⟨_, h.1, rfl, h.2⟩) ?_
                  rintro v W' ⟨rfl, hf⟩
                  exact ⟨_, rfl, hB.trans hf (fun _ h => h.elim), hf, rfl, fun _ _ _ _ _ => trivial⟩
                · simp only [List.getElem?_cons_zero, List.getElem?_cons_succ, Option.some.injEq] at ho
                  subst ho
                  intro a W vs hB hS hE hU
                  obtain ⟨r10, e158⟩ := hE 10 158 (by kernel_rfl) (by kernel_rfl)
                  have v158 : a.eval (.tmp 158) = .bool true := e158.trans r10
                  refine wpG_yes 10 true 158 rfl (by kernel_rfl) (by rw [hS]; first | simp | exact Nat.le_of_ble_eq_true rfl) v158 ?_
                  have v2 : a.eval (.tmp 2) = .pointer (some ⟨gs, 0, none⟩) := (hU 2 (by kernel_rfl)).trans rfl
                  clear hE hU
                  exact wp_value_inv (w' := W) (.pointer (some ⟨gs, 0, none⟩)) (op_fieldAddr rfl v2 (fld_spence_api_Shape_0_0 W gs)) ⟨_, rfl, hB, Fr.refl _ _, rfl, fun _ _ _ _ _ => trivial⟩
                · simp only [List.getElem?_cons_zero, List.getElem?_cons_succ, Option.some.injEq] at ho
                  subst ho
                  intro a W vs hB hS hE hU
                  obtain ⟨r10, e158⟩ := hE 10 158 (by kernel_rfl) (by kernel_rfl)
                  have v158 : a.eval (.tmp 158) = .bool true := e158.trans r10
                  refine wpG_yes 10 true 158 rfl (by kernel_rfl) (by rw [hS]; first | simp | exact Nat.le_of_ble_eq_true rfl) v158 ?_
                  obtain ⟨r13, e161⟩ := hE 13 161 (by kernel_rfl) (by kernel_rfl)
                  have v161 : a.eval (.tmp 161) = .pointer (some ⟨gs, 0, none⟩) := e161.trans r13
                  clear hE hU
                  exact wp_value_inv (w' := W) (.int .i64 (l : Nat)) (op_loadAt rfl v161 (LDL.out W hB)) ⟨_, rfl, hB, Fr.refl _ _, rfl, fun _ _ _ _ _ => trivial⟩
                · simp only [List.getElem?_cons_zero, List.getElem?_cons_succ, Option.some.injEq] at ho
                  subst ho
                  intro a W vs hB hS hE hU
                  obtain ⟨r10, e158⟩ := hE 10 158 (by kernel_rfl) (by kernel_rfl)
                  have v158 : a.eval (.tmp 158) = .bool true := e158.trans r10
                  refine wpG_yes 10 true 158 rfl (by kernel_rfl) (by rw [hS]; first | simp | exact Nat.le_of_ble_eq_true rfl) v158 ?_
                  obtain ⟨r14, e162⟩ := hE 14 162 (by kernel_rfl) (by kernel_rfl)
                  have v162 : a.eval (.tmp 162) = .int .i64 (l : Nat) := e162.trans r14
                  clear hE hU
                  exact wp_value_inv (w' := W) (.int .i64 ((64 * l : Nat) : Int)) (op_bin rfl rfl v162 (rfl) (mul_in5 (by push_cast; rfl) (by have := HL8.out; omega) (by have := HL8.out; omega))) ⟨_, rfl, hB, Fr.refl _ _, rfl, fun _ _ _ _ _ => trivial⟩
                · simp only [List.getElem?_cons_zero, List.getElem?_cons_succ, Option.some.injEq] at ho
                  subst ho
                  intro a W vs hB hS hE hU
                  obtain ⟨r10, e158⟩ := hE 10 158 (by kernel_rfl) (by kernel_rfl)
                  have v158 : a.eval (.tmp 158) = .bool true := e158.trans r10
                  refine wpG_yes 10 true 158 rfl (by kernel_rfl) (by rw [hS]; first | simp | exact Nat.le_of_ble_eq_true rfl) v158 ?_
                  obtain ⟨r12, e160⟩ := hE 12 160 (by kernel_rfl) (by kernel_rfl)
                  have v160 : a.eval (.tmp 160) = .int .i64 ((64 * l : Nat) : Int) := e160.trans r12
                  obtain ⟨r15, e163⟩ := hE 15 163 (by kernel_rfl) (by kernel_rfl)
                  have v163 : a.eval (.tmp 163) = .int .i64 ((64 * l : Nat) : Int) := e163.trans r15
                  clear hE hU
                  exact wp_value_inv (w' := W) (.bool false) (op_bin rfl v160 v163 (guard_int W _ _ _ _ _ _ _) (neq_no)) ⟨_, rfl, hB, Fr.refl _ _, rfl, fun _ _ _ _ _ => trivial⟩
                · simp only [List.getElem?_cons_zero, List.getElem?_cons_succ, Option.some.injEq] at ho
                  subst ho
                  intro a W vs hB hS hE hU
                  obtain ⟨r8, e156⟩ := hE 8 156 (by kernel_rfl) (by kernel_rfl)
                  have v156 : a.eval (.tmp 156) = .bool false := e156.trans r8
                  refine wpG_yes 8 false 156 rfl (by kernel_rfl) (by rw [hS]; first | simp | exact Nat.le_of_ble_eq_true rfl) v156 ?_
                  obtain ⟨r10, e158⟩ := hE 10 158 (by kernel_rfl) (by kernel_rfl)
                  have v158 : a.eval (.tmp 158) = .bool true := e158.trans r10
                  obtain ⟨r16, e164⟩ := hE 16 164 (by kernel_rfl) (by kernel_rfl)
                  have v164 : a.eval (.tmp 164) = .bool false := e164.trans r16
                  clear hE hU
                  exact wp_value_inv (w' := W) (.bool false) (op_pick rfl v158 (by simp only [if_true]; exact v164)) ⟨_, rfl, hB, Fr.refl _ _, rfl, fun _ _ _ _ _ => trivial⟩
                · simp only [List.getElem?_cons_zero, List.getElem?_cons_succ, Option.some.injEq] at ho
                  subst ho
                  intro a W vs hB hS hE hU
                  obtain ⟨r2, e150⟩ := hE 2 150 (by kernel_rfl) (by kernel_rfl)
                  have v150 : a.eval (.tmp 150) = .bool true := e150.trans r2
                  refine wpG_yes 2 true 150 rfl (by kernel_rfl) (by rw [hS]; first | simp | exact Nat.le_of_ble_eq_true rfl) v150 ?_
                  obtain ⟨r8, e156⟩ := hE 8 156 (by kernel_rfl) (by kernel_rfl)
                  have v156 : a.eval (.tmp 156) = .bool false := e156.trans r8
                  obtain ⟨r17, e165⟩ := hE 17 165 (by kernel_rfl) (by kernel_rfl)
                  have v165 : a.eval (.tmp 165) = .bool false := e165.trans r17
                  clear hE hU
                  exact wp_value_inv (w' := W) (.bool false) (op_pick rfl v156 (by simp only [Bool.false_eq_true, if_false]; exact v165)) ⟨_, rfl, hB, Fr.refl _ _, rfl, fun _ _ _ _ _ => trivial⟩
                · simp only [List.getElem?_cons_zero, List.getElem?_cons_succ, Option.some.injEq] at ho
                  subst ho
                  intro a W vs hB hS hE hU
                  obtain ⟨r2, e150⟩ := hE 2 150 (by kernel_rfl) (by kernel_rfl)
                  have v150 : a.eval (.tmp 150) = .bool true := e150.trans r2
                  refine wpG_yes 2 true 150 rfl (by kernel_rfl) (by rw [hS]; first | simp | exact Nat.le_of_ble_eq_true rfl) v150 ?_
                  obtain ⟨r18, e166⟩ := hE 18 166 (by kernel_rfl) (by kernel_rfl)
                  have v166 : a.eval (.tmp 166) = .bool false := e166.trans r18
                  clear hE hU
                  exact wp_value_inv (w' := W) (.bool false) (op_move rfl v166) ⟨_, rfl, hB, Fr.refl _ _, rfl, fun _ _ _ _ _ => trivial⟩
                · simp only [List.getElem?_cons_zero, List.getElem?_cons_succ, Option.some.injEq] at ho
                  subst ho
                  intro a W vs hB hS hE hU
                  obtain ⟨r19, e167⟩ := hE 19 167 (by kernel_rfl) (by kernel_rfl)
                  have v167 : a.eval (.tmp 167) = .bool false := e167.trans r19
                  refine wpG_yes 19 false 167 rfl (by kernel_rfl) (by rw [hS]; first | simp | exact Nat.le_of_ble_eq_true rfl) v167 ?_
                  have v15 : a.eval (.tmp 15) = .bool true := (hU 15 (by kernel_rfl)).trans rfl
                  clear hE hU
                  exact wp_value_inv (w' := W) (.bool true) (op_move rfl v15) ⟨_, rfl, hB, Fr.refl _ _, rfl, fun _ _ _ _ _ => trivial⟩
                · simp only [List.getElem?_cons_zero, List.getElem?_cons_succ, Option.some.injEq] at ho
                  subst ho
                  intro a W vs hB hS hE hU
                  obtain ⟨r19, e167⟩ := hE 19 167 (by kernel_rfl) (by kernel_rfl)
                  have v167 : a.eval (.tmp 167) = .bool false := e167.trans r19
                  refine wpG_yes 19 false 167 rfl (by kernel_rfl) (by rw [hS]; first | simp | exact Nat.le_of_ble_eq_true rfl) v167 ?_
                  obtain ⟨r20, e168⟩ := hE 20 168 (by kernel_rfl) (by kernel_rfl)
                  have v168 : a.eval (.tmp 168) = .bool true := e168.trans r20
                  clear hE hU
                  exact wp_value_inv (w' := W) (.bool false) (op_unop rfl v168 (by rfl)) ⟨_, rfl, hB, Fr.refl _ _, rfl, fun _ _ _ _ _ => trivial⟩
                · simp only [List.getElem?_cons_zero, List.getElem?_cons_succ, Option.some.injEq] at ho
                  subst ho
                  intro a W vs hB hS hE hU
                  obtain ⟨r19, e167⟩ := hE 19 167 (by kernel_rfl) (by kernel_rfl)
                  have v167 : a.eval (.tmp 167) = .bool false := e167.trans r19
                  refine wpG_yes 19 false 167 rfl (by kernel_rfl) (by rw [hS]; first | simp | exact Nat.le_of_ble_eq_true rfl) v167 ?_
                  obtain ⟨r21, e169⟩ := hE 21 169 (by kernel_rfl) (by kernel_rfl)
                  have v169 : a.eval (.tmp 169) = .bool false := e169.trans r21
                  clear hE hU
                  exact wp_value_inv (w' := W) (.bool false) (op_move rfl v169) ⟨_, rfl, hB, Fr.refl _ _, rfl, fun _ _ _ _ _ => trivial⟩
                · simp only [List.getElem?_cons_zero, List.getElem?_cons_succ, Option.some.injEq] at ho
                  subst ho
                  intro a W vs hB hS hE hU
                  obtain ⟨r22, e170⟩ := hE 22 170 (by kernel_rfl) (by kernel_rfl)
                  have v170 : a.eval (.tmp 170) = .bool false := e170.trans r22
                  exact wpG_no 22 true 170 rfl (by kernel_rfl) (by rw [hS]; first | simp | exact Nat.le_of_ble_eq_true rfl) v170 ⟨_, rfl, hB, Fr.refl _ _, rfl, fun _ _ _ _ _ => trivial⟩
                · simp only [List.getElem?_cons_zero, List.getElem?_cons_succ, Option.some.injEq] at ho
                  subst ho
                  intro a W vs hB hS hE hU
                  obtain ⟨r22, e170⟩ := hE 22 170 (by kernel_rfl) (by kernel_rfl)
                  have v170 : a.eval (.tmp 170) = .bool false := e170.trans r22
                  exact wpG_no 22 true 170 rfl (by kernel_rfl) (by rw [hS]; first | simp | exact Nat.le_of_ble_eq_true rfl) v170 ⟨_, rfl, hB, Fr.refl _ _, rfl, fun _ _ _ _ _ => trivial⟩
                · simp only [List.getElem?_cons_zero, List.getElem?_cons_succ, Option.some.injEq] at ho
                  subst ho
                  intro a W vs hB hS hE hU
                  obtain ⟨r22, e170⟩ := hE 22 170 (by kernel_rfl) (by kernel_rfl)
                  have v170 : a.eval (.tmp 170) = .bool false := e170.trans r22
                  exact wpG_no 22 true 170 rfl (by kernel_rfl) (by rw [hS]; first | simp | exact Nat.le_of_ble_eq_true rfl) v170 ⟨_, rfl, hB, Fr.refl _ _, rfl, fun _ _ _ _ _ => trivial⟩
                · simp only [List.getElem?_cons_zero, List.getElem?_cons_succ, Option.some.injEq] at ho
                  subst ho
                  intro a W vs hB hS hE hU
                  obtain ⟨r22, e170⟩ := hE 22 170 (by kernel_rfl) (by kernel_rfl)
                  have v170 : a.eval (.tmp 170) = .bool false := e170.trans r22
                  exact wpG_no 22 true 170 rfl (by kernel_rfl) (by rw [hS]; first | simp | exact Nat.le_of_ble_eq_true rfl) v170 ⟨_, rfl, hB, Fr.refl _ _, rfl, fun _ _ _ _ _ => trivial⟩
                · simp only [List.getElem?_cons_zero, List.getElem?_cons_succ, Option.some.injEq] at ho
                  subst ho
                  intro a W vs hB hS hE hU
                  obtain ⟨r22, e170⟩ := hE 22 170 (by kernel_rfl) (by kernel_rfl)
                  have v170 : a.eval (.tmp 170) = .bool false := e170.trans r22
                  exact wpG_no 22 true 170 rfl (by kernel_rfl) (by rw [hS]; first | simp | exact Nat.le_of_ble_eq_true rfl) v170 ⟨_, rfl, hB, Fr.refl _ _, rfl, fun _ _ _ _ _ => trivial⟩
                · simp only [List.getElem?_cons_zero, List.getElem?_cons_succ, Option.some.injEq] at ho
                  subst ho
                  intro a W vs hB hS hE hU
                  obtain ⟨r22, e170⟩ := hE 22 170 (by kernel_rfl) (by kernel_rfl)
                  have v170 : a.eval (.tmp 170) = .bool false := e170.trans r22
                  exact wpG_no 22 true 170 rfl (by kernel_rfl) (by rw [hS]; first | simp | exact Nat.le_of_ble_eq_true rfl) v170 ⟨_, rfl, hB, Fr.refl _ _, rfl, fun _ _ _ _ _ => trivial⟩
                · simp only [List.getElem?_cons_zero, List.getElem?_cons_succ, Option.some.injEq] at ho
                  subst ho
                  intro a W vs hB hS hE hU
                  obtain ⟨r19, e167⟩ := hE 19 167 (by kernel_rfl) (by kernel_rfl)
                  have v167 : a.eval (.tmp 167) = .bool false := e167.trans r19
                  refine wpG_yes 19 false 167 rfl (by kernel_rfl) (by rw [hS]; first | simp | exact Nat.le_of_ble_eq_true rfl) v167 ?_
                  obtain ⟨r22, e170⟩ := hE 22 170 (by kernel_rfl) (by kernel_rfl)
                  have v170 : a.eval (.tmp 170) = .bool false := e170.trans r22
                  clear hE hU
                  exact wp_value_inv (w' := W) (.bool false) (op_pick rfl v170 (by simp only [Bool.false_eq_true, if_false]; rfl)) ⟨_, rfl, hB, Fr.refl _ _, rfl, fun _ _ _ _ _ => trivial⟩
                · simp only [List.getElem?_cons_zero, List.getElem?_cons_succ, Option.some.injEq] at ho
                  subst ho
                  intro a W vs hB hS hE hU
                  obtain ⟨r2, e150⟩ := hE 2 150 (by kernel_rfl) (by kernel_rfl)
                  have v150 : a.eval (.tmp 150) = .bool true := e150.trans r2
                  refine wpG_yes 2 true 150 rfl (by kernel_rfl) (by rw [hS]; first | simp | exact Nat.le_of_ble_eq_true rfl) v150 ?_
                  obtain ⟨r19, e167⟩ := hE 19 167 (by kernel_rfl) (by kernel_rfl)
                  have v167 : a.eval (.tmp 167) = .bool false := e167.trans r19
                  obtain ⟨r29, e177⟩ := hE 29 177 (by kernel_rfl) (by kernel_rfl)
                  have v177 : a.eval (.tmp 177) = .bool false := e177.trans r29
                  clear hE hU
                  exact wp_value_inv (w' := W) (.bool false) (op_pick rfl v167 (by simp only [Bool.false_eq_true, if_false]; exact v177)) ⟨_, rfl, hB, Fr.refl _ _, rfl, fun _ _ _ _ _ => trivial⟩
                · simp only [List.getElem?_cons_zero, List.getElem?_cons_succ, Option.some.injEq] at ho
                  subst ho
                  intro a W vs hB hS hE hU
                  refine wpG_plain rfl ?_
                  obtain ⟨r2, e150⟩ := hE 2 150 (by kernel_rfl) (by kernel_rfl)
                  have v150 : a.eval (.tmp 150) = .bool true := e150.trans r2
                  obtain ⟨r30, e178⟩ := hE 30 178 (by kernel_rfl) (by kernel_rfl)
                  have v178 : a.eval (.tmp 178) = .bool false := e178.trans r30
                  clear hE hU
                  exact wp_value_inv (w' := W) (.bool false) (op_pick rfl v150 (by simp only [if_true]; exact v178)) ⟨_, rfl, hB, Fr.refl _ _, rfl, fun _ _ _ _ _ => trivial⟩
              · intro vs Wb hB0 hR0 hD
                have r179 : vs 31 = .bool false := hR0 31 (by decide)
                have HB9 := Lib.hid hB0
                clear hR0 hD hB0
                simp only [acts, if_true, dstAt, List.getElem?_cons_zero, List.getElem?_cons_succ, Option.bind_some, Act.put, List.setIfInBounds_toArray, List.set_cons_succ, List.set_cons_zero, List.drop_succ_cons, List.drop_nil]
                simp only [r179]
                clear r179
                go_wp2_with fail
                go_roundw
                case rel => exact ⟨i + 1, by omega, by go_num, Lib.hid ⟨_, _, _, _, HG5.out.quiet HB9.out, HA.out.2⟩⟩
                case measure => simp [intOf]; omega
            · have d128 : decide ((128 : Int) ≤ (q : Int)) = false := by rw [decide_eq_false_iff_not]; omega
              have hfit : decide ((q : Int) ≤ 64 * (la : Int)) = false := by rw [decide_eq_false_iff_not]; omega
              have HF1 := Lib.hid True.intro
              go_wp2_with (first
                | (go_at_call 17; refine (gRoom HG.out HOK.out HO.out.kp.right.used).mono ?_; rintro e r1 ⟨rfl, hr1⟩; rw [← HMX.out.1]; (have HG := Lib.hid (HG.out.quiet hr1)); clear hr1)
                | (go_at_call 18; refine (gRound HG.out).mono ?_; rintro e r2 ⟨rfl, hr2⟩; rw [← HMX.out.2]; (have HG := Lib.hid (HG.out.quiet hr2)); clear hr2)
                | (go_at_call 19; refine (gKept HG.out).mono ?_; rintro e r3 ⟨kv, rfl, hk3, hr3⟩; clear HF1; (have HG := Lib.hid (HG.out.quiet hr3)); (have HK1 := Lib.hid hk3.bytes); (have HP3 := Lib.hid (HP.out.keep (H5.out.1.trans HG.out.fr (fun _ h => h.elim)) (fun _ _ _ h => h))); (have hcw := HP3.out.what); (have hcb := HP3.out.cb); (rw [HQX.out] at hcb); (have HBY := Lib.hid (HQX.out ▸ HP3.out.bytes)); (obtain ⟨s0, s1, s2⟩ := row3_cells (HG.out.fr.heap H5.out.2 id)); clear hr3 hk3)
                | (go_at_call 12; refine (pick_any p.what 9 _ (by decide) (by decide) HP.out.wf.1.1 HP.out.wf.1.2).mono ?_; rintro e r4 ⟨rfl, rfl⟩))
              refine (jSwitch_long (D := fun _ => False) _ jn g s l la d h _ p.B HOK.out.l8 HOK.out.la8 HO.out.kp.right HG.out.jrn HBY.out (by rw [HQ.out.1]; omega)).mono ?_
              rintro e r5 ⟨rfl, hf5⟩
              have HG := Lib.hid (HG.out.quiet hf5)
              have HK1 := Lib.hid (HK1.out.keep hf5 (fun _ _ _ h => h))
              obtain ⟨s0, s1, s2⟩ := row3_cells (HG.out.fr.heap H5.out.2 id)
              clear hf5
              go_wp2_with (first
                | (go_at_call 17; refine (gRoom HG.out HOK.out HO.out.kp.right.used).mono ?_; rintro e r6 ⟨rfl, hr1⟩; rw [← HMX.out.1]; (have HG := Lib.hid (HG.out.quiet hr1)); (have HK1 := Lib.hid (HK1.out.keep hr1 (fun _ _ _ h => h))); clear hr1)
                | (go_at_call 18; refine (gRound HG.out).mono ?_; rintro e r7 ⟨rfl, hr2⟩; rw [← HMX.out.2]; (have HG := Lib.hid (HG.out.quiet hr2)); (have HK1 := Lib.hid (HK1.out.keep hr2 (fun _ _ _ h => h))); clear hr2)
                | (go_at_call 19; refine (gKept HG.out).mono ?_; rintro e r8 ⟨kw, rfl, hk7, hr7⟩; (have HG := Lib.hid (HG.out.quiet hr7)); (have HK1 := Lib.hid (HK1.out.keep hr7 (fun _ _ _ h => h))); (have HK2 := Lib.hid hk7.bytes); clear hr7 hk7)
                | (go_at_call 22; refine (same_any _ _ dv.all dv.all _ HK2.out HK1.out).mono ?_; rintro e r9 ⟨rfl, hdr⟩; rw [sameB_eq rfl]; (have HG := Lib.hid (show LgAt w5 r9 jn g s l la d h false dv (fun _ => False) by obtain ⟨nn, rfl⟩ := hdr; exact HG.out.quiet ((Fr.refl _ _).drewN nn))); clear hdr))
              clear s0 s1 s2 hcw hcb d128 hfit
              refine wp_region_inv 32 (by kernel_rfl) (by kernel_rfl) (fun W => Fr (fun _ => False) r9 W) (RmaR jn gs l m x) (fun _ _ _ _ => True) (Fr (fun _ => False)) (RmaR.ext jn gs l m x) (Fr.refl _ _).drew ?_ ?_
              · intro i hi o ho
                replace hi : i < 32 := hi
                obtain rfl | rfl | rfl | rfl | rfl | rfl | rfl | rfl | rfl | rfl | rfl | rfl | rfl | rfl | rfl | rfl | rfl | rfl | rfl | rfl | rfl | rfl | rfl | rfl | rfl | rfl | rfl | rfl | rfl | rfl | rfl | rfl : i = 0 ∨ i = 1 ∨ i = 2 ∨ i = 3 ∨ i = 4 ∨ i = 5 ∨ i = 6 ∨ i = 7 ∨ i = 8 ∨ i = 9 ∨ i = 10 ∨ i = 11 ∨ i = 12 ∨ i = 13 ∨ i = 14 ∨ i = 15 ∨ i = 16 ∨ i = 17 ∨ i = 18 ∨ i = 19 ∨ i = 20 ∨ i = 21 ∨ i = 22 ∨ i = 23 ∨ i = 24 ∨ i = 25 ∨ i = 26 ∨ i = 27 ∨ i = 28 ∨ i = 29 ∨ i = 30 ∨ i = 31 := by omega
                · simp only [List.getElem?_cons_zero, Option.some.injEq] at ho
                  subst ho
                  intro a W vs hB hS hE hU
                  refine wpG_plain rfl ?_
                  have v16 : a.eval (.tmp 16) = .int .i64 3 := (hU 16 (by kernel_rfl)).trans rfl
                  clear hE hU
                  exact wp_value_inv (w' := W) (.int .i64 3) (op_move rfl v16) ⟨_, rfl, hB, Fr.refl _ _, rfl, fun _ _ _ _ _ => trivial⟩
                · simp only [List.getElem?_cons_zero, List.getElem?_cons_succ, Option.some.injEq] at ho
                  subst ho
                  intro a W vs hB hS hE hU
                  refine wpG_plain rfl ?_
                  obtain ⟨r0, e148⟩ := hE 0 148 (by kernel_rfl) (by kernel_rfl)
                  have v148 : a.eval (.tmp 148) = .int .i64 3 := e148.trans r0
                  clear hE hU
                  exact wp_value_inv (w' := W) (.bool false) (op_bin rfl v148 rfl (guard_int W _ _ _ _ _ _ _) (eql_no (by decide))) ⟨_, rfl, hB, Fr.refl _ _, rfl, fun _ _ _ _ _ => trivial⟩
                · simp only [List.getElem?_cons_zero, List.getElem?_cons_succ, Option.some.injEq] at ho
                  subst ho
                  intro a W vs hB hS hE hU
                  refine wpG_plain rfl ?_
                  obtain ⟨r1, e149⟩ := hE 1 149 (by kernel_rfl) (by kernel_rfl)
                  have v149 : a.eval (.tmp 149) = .bool false := e149.trans r1
                  clear hE hU
                  exact wp_value_inv (w' := W) (.bool false) (op_move rfl v149) ⟨_, rfl, hB, Fr.refl _ _, rfl, fun _ _ _ _ _ => trivial⟩
                · simp only [List.getElem?_cons_zero, List.getElem?_cons_succ, Option.some.injEq] at ho
                  subst ho
                  intro a W vs hB hS hE hU
                  obtain ⟨r2, e150⟩ := hE 2 150 (by kernel_rfl) (by kernel_rfl)
                  have v150 : a.eval (.tmp 150) = .bool false := e150.trans r2
                  exact wpG_no 2 true 150 rfl (by kernel_rfl) (by rw [hS]; first | simp | exact Nat.le_of_ble_eq_true rfl) v150 ⟨_, rfl, hB, Fr.refl _ _, rfl, fun _ _ _ _ _ => trivial⟩
                · simp only [List.getElem?_cons_zero, List.getElem?_cons_succ, Option.some.injEq] at ho
                  subst ho
                  intro a W vs hB hS hE hU
                  obtain ⟨r2, e150⟩ := hE 2 150 (by kernel_rfl) (by kernel_rfl)
                  have v150 : a.eval (.tmp 150) = .bool false := e150.trans r2
                  exact wpG_no 2 true 150 rfl (by kernel_rfl) (by rw [hS]; first | simp | exact Nat.le_of_ble_eq_true rfl) v150 ⟨_, rfl, hB, Fr.refl _ _, rfl, fun _ _ _ _ _ => trivial⟩
                · simp only [List.getElem?_cons_zero, List.getElem?_cons_succ, Option.some.injEq] at ho
                  subst ho
                  intro a W vs hB hS hE hU
                  obtain ⟨r2, e150⟩ := hE 2 150 (by kernel_rfl) (by kernel_rfl)
                  have v150 : a.eval (.tmp 150) = .bool false := e150.trans r2
                  exact wpG_no 2 true 150 rfl (by kernel_rfl) (by rw [hS]; first | simp | exact Nat.le_of_ble_eq_true rfl) v150 ⟨_, rfl, hB, Fr.refl _ _, rfl, fun _ _ _ _ _ => trivial⟩
                · simp only [List.getElem?_cons_zero, List.getElem?_cons_succ, Option.some.injEq] at ho
                  subst ho
                  intro a W vs hB hS hE hU
                  obtain ⟨r2, e150⟩ := hE 2 150 (by kernel_rfl) (by kernel_rfl)
                  have v150 : a.eval (.tmp 150) = .bool false := e150.trans r2
                  exact wpG_no 2 true 150 rfl (by kernel_rfl) (by rw [hS]; first | simp | exact Nat.le_of_ble_eq_true rfl) v150 ⟨_, rfl, hB, Fr.refl _ _, rfl, fun _ _ _ _ _ => trivial⟩
                · simp only [List.getElem?_cons_zero, List.getElem?_cons_succ, Option.some.injEq] at ho
                  subst ho
                  intro a W vs hB hS hE hU
                  obtain ⟨r2, e150⟩ := hE 2 150 (by kernel_rfl) (by kernel_rfl)
                  have v150 : a.eval (.tmp 150) = .bool false := e150.trans r2
                  exact wpG_no 2 true 150 rfl (by kernel_rfl) (by rw [hS]; first | simp | exact Nat.le_of_ble_eq_true rfl) v150 ⟨_, rfl, hB, Fr.refl _ _, rfl, fun _ _ _ _ _ => trivial⟩
                · simp only [List.getElem?_cons_zero, List.getElem?_cons_succ, Option.some.injEq] at ho
                  subst ho
                  intro a W vs hB hS hE hU
                  obtain ⟨r2, e150⟩ := hE 2 150 (by kernel_rfl) (by kernel_rfl)
                  have v150 : a.eval (.tmp 150) = .bool false := e150.trans r2
                  exact wpG_no 2 true 150 rfl (by kernel_rfl) (by rw [hS]; first | simp | exact Nat.le_of_ble_eq_true rfl) v150 ⟨_, rfl, hB, Fr.refl _ _, rfl, fun _ _ _ _ _ => trivial⟩
                · simp only [List.getElem?_cons_zero, List.getElem?_cons_succ, Option.some.injEq] at ho
                  subst ho
                  intro a W vs hB hS hE hU
                  obtain ⟨r8, e156⟩ := hE 8 156 (by kernel_rfl) (by kernel_rfl)
                  have v156 : a.eval (.tmp 156) = undef := e156.trans r8
                  exact wpG_undef 8 false 156 rfl (by kernel_rfl) (by rw [hS]; first | simp | exact Nat.le_of_ble_eq_true rfl) v156 ⟨_, rfl, hB, Fr.refl _ _, rfl, fun _ _ _ _ _ => trivial⟩
                · simp only [List.getElem?_cons_zero, List.getElem?_cons_succ, Option.some.injEq] at ho
                  subst ho
                  intro a W vs hB hS hE hU
                  obtain ⟨r8, e156⟩ := hE 8 156 (by kernel_rfl) (by kernel_rfl)
                  have v156 : a.eval (.tmp 156) = undef := e156.trans r8
                  exact wpG_undef 8 false 156 rfl (by kernel_rfl) (by rw [hS]; first | simp | exact Nat.le_of_ble_eq_true rfl) v156 ⟨_, rfl, hB, Fr.refl _ _, rfl, fun _ _ _ _ _ => trivial⟩
                · simp only [List.getElem?_cons_zero, List.getElem?_cons_succ, Option.some.injEq] at ho
                  subst ho
                  intro a W vs hB hS hE hU
                  obtain ⟨r10, e158⟩ := hE 10 158 (by kernel_rfl) (by kernel_rfl)
                  have v158 : a.eval (.tmp 158) = undef := e158.trans r10
                  exact wpG_undef 10 true 158 rfl (by kernel_rfl) (by rw [hS]; first | simp | exact Nat.le_of_ble_eq_true rfl) v158 ⟨_, rfl, hB, Fr.refl _ _, rfl, fun _ _ _ _ _ => trivial⟩
                · simp only [List.getElem?_cons_zero, List.getElem?_cons_succ, Option.some.injEq] at ho
                  subst ho
                  intro a W vs hB hS hE hU
                  obtain ⟨r10, e158⟩ := hE 10 158 (by kernel_rfl) (by kernel_rfl)
                  have v158 : a.eval (.tmp 158) = undef := e158.trans r10
                  exact wpG_undef 10 true 158 rfl (by kernel_rfl) (by rw [hS]; first | simp | exact Nat.le_of_ble_eq_true rfl) v158 ⟨_, rfl, hB, Fr.refl _ _, rfl, fun _ _ _ _ _ => trivial⟩
                · simp only [List.getElem?_cons_zero, List.getElem?_cons_succ, Option.some.injEq] at ho
                  subst ho
                  intro a W vs hB hS hE hU
                  obtain ⟨r10, e158⟩ := hE 10 158 (by kernel_rfl) (by kernel_rfl)
                  have v158 : a.eval (.tmp 158) = undef := e158.trans r10
                  exact wpG_undef 10 true 158 rfl (by kernel_rfl) (by rw [hS]; first | simp | exact Nat.le_of_ble_eq_true rfl) v158 ⟨_, rfl, hB, Fr.refl _ _, rfl, fun _ _ _ _ _ => trivial⟩
                · simp only [List.getElem?_cons_zero, List.getElem?_cons_succ, Option.some.injEq] at ho
                  subst ho
                  intro a W vs hB hS hE hU
                  obtain ⟨r10, e158⟩ := hE 10 158 (by kernel_rfl) (by kernel_rfl)
                  have v158 : a.eval (.tmp 158) = undef := e158.trans r10
                  exact wpG_undef 10 true 158 rfl (by kernel_rfl) (by rw [hS]; first | simp | exact Nat.le_of_ble_eq_true rfl) v158 ⟨_, rfl, hB, Fr.refl _ _, rfl, fun _ _ _ _ _ => trivial⟩
                · simp only [List.getElem?_cons_zero, List.getElem?_cons_succ, Option.some.injEq] at ho
                  subst ho
                  intro a W vs hB hS hE hU
                  obtain ⟨r10, e158⟩ := hE 10 158 (by kernel_rfl) (by kernel_rfl)
                  have v158 : a.eval (.tmp 158) = undef := e158.trans r10
                  exact wpG_undef 10 true 158 rfl (by kernel_rfl) (by rw [hS]; first | simp | exact Nat.le_of_ble_eq_true rfl) v158 ⟨_, rfl, hB, Fr.refl _ _, rfl, fun _ _ _ _ _ => trivial⟩
                · simp only [List.getElem?_cons_zero, List.getElem?_cons_succ, Option.some.injEq] at ho
                  subst ho
                  intro a W vs hB hS hE hU
                  obtain ⟨r10, e158⟩ := hE 10 158 (by kernel_rfl) (by kernel_rfl)
                  have v158 : a.eval (.tmp 158) = undef := e158.trans r10
                  exact wpG_undef 10 true 158 rfl (by kernel_rfl) (by rw [hS]; first | simp | exact Nat.le_of_ble_eq_true rfl) v158 ⟨_, rfl, hB, Fr.refl _ _, rfl, fun _ _ _ _ _ => trivial⟩
                · simp only [List.getElem?_cons_zero, List.getElem?_cons_succ, Option.some.injEq] at ho
                  subst ho
                  intro a W vs hB hS hE hU
                  obtain ⟨r8, e156⟩ := hE 8 156 (by kernel_rfl) (by kernel_rfl)
                  have v156 : a.eval (.tmp 156) = undef := e156.trans r8
                  exact wpG_undef 8 false 156 rfl (by kernel_rfl) (by rw [hS]; first | simp | exact Nat.le_of_ble_eq_true rfl) v156 ⟨_, rfl, hB, Fr.refl _ _, rfl, fun _ _ _ _ _ => trivial⟩
                · simp only [List.getElem?_cons_zero, List.getElem?_cons_succ, Option.some.injEq] at ho
                  subst ho
                  intro a W vs hB hS hE hU
                  obtain ⟨r2, e150⟩ := hE 2 150 (by kernel_rfl) (by kernel_rfl)
                  have v150 : a.eval (.tmp 150) = .bool false := e150.trans r2
                  exact wpG_no 2 true 150 rfl (by kernel_rfl) (by rw [hS]; first | simp | exact Nat.le_of_ble_eq_true rfl) v150 ⟨_, rfl, hB, Fr.refl _ _, rfl, fun _ _ _ _ _ => trivial⟩
                · simp only [List.getElem?_cons_zero, List.getElem?_cons_succ, Option.some.injEq] at ho
                  subst ho
                  intro a W vs hB hS hE hU
                  obtain ⟨r2, e150⟩ := hE 2 150 (by kernel_rfl) (by kernel_rfl)
                  have v150 : a.eval (.tmp 150) = .bool false := e150.trans r2
                  exact wpG_no 2 true 150 rfl (by kernel_rfl) (by rw [hS]; first | simp | exact Nat.le_of_ble_eq_true rfl) v150 ⟨_, rfl, hB, Fr.refl _ _, rfl, fun _ _ _ _ _ => trivial⟩
                · simp only [List.getElem?_cons_zero, List.getElem?_cons_succ, Option.some.injEq] at ho
                  subst ho
                  intro a W vs hB hS hE hU
                  obtain ⟨r19, e167⟩ := hE 19 167 (by kernel_rfl) (by kernel_rfl)
                  have v167 : a.eval (.tmp 167) = undef := e167.trans r19
                  exact wpG_undef 19 false 167 rfl (by kernel_rfl) (by rw [hS]; first | simp | exact Nat.le_of_ble_eq_true rfl) v167 ⟨_, rfl, hB, Fr.refl _ _, rfl, fun _ _ _ _ _ => trivial⟩
                · simp only [List.getElem?_cons_zero, List.getElem?_cons_succ, Option.some.injEq] at ho
                  subst ho
                  intro a W vs hB hS hE hU
                  obtain ⟨r19, e167⟩ := hE 19 167 (by kernel_rfl) (by kernel_rfl)
                  have v167 : a.eval (.tmp 167) = undef := e167.trans r19
                  exact wpG_undef 19 false 167 rfl (by kernel_rfl) (by rw [hS]; first | simp | exact Nat.le_of_ble_eq_true rfl) v167 ⟨_, rfl, hB, Fr.refl _ _, rfl, fun _ _ _ _ _ => trivial⟩
                · simp only [List.getElem?_cons_zero, List.getElem?_cons_succ, Option.some.injEq] at ho
                  subst ho
                  intro a W vs hB hS hE hU
                  obtain ⟨r19, e167⟩ := hE 19 167 (by kernel_rfl) (by kernel_rfl)
                  have v167 : a.eval (.tmp 167) = undef := e167.trans r19
                  exact wpG_undef 19 false 167 rfl (by kernel_rfl) (by rw [hS]; first | simp | exact Nat.le_of_ble_eq_true rfl) v167 ⟨_, rfl, hB, Fr.refl _ _, rfl, fun _ _ _ _ _ => trivial⟩
                · simp only [List.getElem?_cons_zero, List.getElem?_cons_succ, Option.some.injEq] at ho
                  subst ho
                  intro a W vs hB hS hE hU
                  obtain ⟨r22, e170⟩ := hE 22 170 (by kernel_rfl) (by kernel_rfl)
                  have v170 : a.eval (.tmp 170) = undef := e170.trans r22
                  exact wpG_undef 22 true 170 rfl (by kernel_rfl) (by rw [hS]; first | simp | exact Nat.le_of_ble_eq_true rfl) v170 ⟨_, rfl, hB, Fr.refl _ _, rfl, fun _ _ _ _ _ => trivial⟩
                · simp only [List.getElem?_cons_zero, List.getElem?_cons_succ, Option.some.injEq] at ho
                  subst ho
                  intro a W vs hB hS hE hU
                  obtain ⟨r22, e170⟩ := hE 22 170 (by kernel_rfl) (by kernel_rfl)
                  have v170 : a.eval (.tmp 170) = undef := e170.trans r22
                  exact wpG_undef 22 true 170 rfl (by kernel_rfl) (by rw [hS]; first | simp | exact Nat.le_of_ble_eq_true rfl) v170 ⟨_, rfl, hB, Fr.refl _ _, rfl, fun _ _ _ _ _ => trivial⟩
                · simp only [List.getElem?_cons_zero, List.getElem?_cons_succ, Option.some.injEq] at ho
                  subst ho
                  intro a W vs hB hS hE hU
                  obtain ⟨r22, e170⟩ := hE 22 170 (by kernel_rfl) (by kernel_rfl)
                  have v170 : a.eval (.tmp 170) = undef := e170.trans r22
                  exact wpG_undef 22 true 170 rfl (by kernel_rfl) (by rw [hS]; first | simp | exact Nat.le_of_ble_eq_true rfl) v170 ⟨_, rfl, hB, Fr.refl _ _, rfl, fun _ _ _ _ _ => trivial⟩
                · simp only [List.getElem?_cons_zero, List.getElem?_cons_succ, Option.some.injEq] at ho
                  subst ho
                  intro a W vs hB hS hE hU
                  obtain ⟨r22, e170⟩ := hE 22 170 (by kernel_rfl) (by kernel_rfl)
                  have v170 : a.eval (.tmp 170) = undef := e170.trans r22
                  exact wpG_undef 22 true 170 rfl (by kernel_rfl) (by rw [hS]; first | simp | exact Nat.le_of_ble_eq_true rfl) v170 ⟨_, rfl, hB, Fr.refl _ _, rfl, fun _ _ _ _ _ => trivial⟩
                · simp only [List.getElem?_cons_zero, List.getElem?_cons_succ, Option.some.injEq] at ho
                  subst ho
                  intro a W vs hB hS hE hU
                  obtain ⟨r22, e170⟩ := hE 22 170 (by kernel_rfl) (by kernel_rfl)
                  have v170 : a.eval (.tmp 170) = undef := e170.trans r22
                  exact wpG_undef 22 true 170 rfl (by kernel_rfl) (by rw [hS]; first | simp | exact Nat.le_of_ble_eq_true rfl) v170 ⟨_, rfl, hB, Fr.refl _ _, rfl, fun _ _ _ _ _ => trivial⟩
                · simp only [List.getElem?_cons_zero, List.getElem?_cons_succ, Option.some.injEq] at ho
                  subst ho
                  intro a W vs hB hS hE hU
                  obtain ⟨r22, e170⟩ := hE 22 170 (by kernel_rfl) (by kernel_rfl)
                  have v170 : a.eval (.tmp 170) = undef := e170.trans r22
                  exact wpG_undef 22 true 170 rfl (by kernel_rfl) (by rw [hS]; first | simp | exact Nat.le_of_ble_eq_true rfl) v170 ⟨_, rfl, hB, Fr.refl _ _, rfl, fun _ _ _ _ _ => trivial⟩
                · simp only [List.getElem?_cons_zero, List.getElem?_cons_succ, Option.some.injEq] at ho
                  subst ho
                  intro a W vs hB hS hE hU
                  obtain ⟨r19, e167⟩ := hE 19 167 (by kernel_rfl) (by kernel_rfl)
                  have v167 : a.eval (.tmp 167) = undef := e167.trans r19
                  exact wpG_undef 19 false 167 rfl (by kernel_rfl) (by rw [hS]; first | simp | exact Nat.le_of_ble_eq_true rfl) v167 ⟨_, rfl, hB, Fr.refl _ _, rfl, fun _ _ _ _ _ => trivial⟩
                · simp only [List.getElem?_cons_zero, List.getElem?_cons_succ, Option.some.injEq] at ho
                  subst ho
                  intro a W vs hB hS hE hU
                  obtain ⟨r2, e150⟩ := hE 2 150 (by kernel_rfl) (by kernel_rfl)
                  have v150 : a.eval (.tmp 150) = .bool false := e150.trans r2
                  exact wpG_no 2 true 150 rfl (by kernel_rfl) (by rw [hS]; first | simp | exact Nat.le_of_ble_eq_true rfl) v150 ⟨_, rfl, hB, Fr.refl _ _, rfl, fun _ _ _ _ _ => trivial⟩
                · simp only [List.getElem?_cons_zero, List.getElem?_cons_succ, Option.some.injEq] at ho
                  subst ho
                  intro a W vs hB hS hE hU
                  refine wpG_plain rfl ?_
                  obtain ⟨r2, e150⟩ := hE 2 150 (by kernel_rfl) (by kernel_rfl)
                  have v150 : a.eval (.tmp 150) = .bool false := e150.trans r2
                  clear hE hU
                  exact wp_value_inv (w' := W) (.bool false) (op_pick rfl v150 (by simp only [Bool.false_eq_true, if_false]; rfl)) ⟨_, rfl, hB, Fr.refl _ _, rfl, fun _ _ _ _ _ => trivial⟩
              · intro vs Wb hB0 hR0 hD
                have r179 : vs 31 = .bool false := hR0 31 (by decide)
                have HB9 := Lib.hid hB0
                clear hR0 hD hB0
                simp only [acts, if_true, dstAt, List.getElem?_cons_zero, List.getElem?_cons_succ, Option.bind_some, Act.put, List.setIfInBounds_toArray, List.set_cons_succ, List.set_cons_zero, List.drop_succ_cons, List.drop_nil]
                simp only [r179]
                clear r179
                go_wp2_with fail
                go_roundw
                case rel => exact ⟨i + 1, by omega, by go_num, Lib.hid ⟨_, _, _, _, HG.out.quiet HB9.out, (HO.out.next)⟩⟩
                case measure => simp [intOf]; omega
          · have hsw : (p.what % 9 == (2 : Int)) = false := by rw [beq_eq_false_iff_ne]; exact hsw2
            by_cases hf2 : q + 1 ≤ m
            · have d128 : decide ((128 : Int) ≤ (q : Int)) = false := by rw [decide_eq_false_iff_not]; omega
              have hfit : decide ((q : Int) + 1 ≤ (m : Int)) = true := by rw [decide_eq_true_iff]; omega
              have HA := Lib.hid (HO.out.append HBD.out.1 (by omega) p.B (by have := HQ.out.2; have := HMX.out.1; have := HO.out.kp.right.used; rw [hrc]; omega))
              obtain ⟨m2, hm2⟩ : ∃ m2, m2 = 64 * l - (h.used + (recB p.B).length) := ⟨_, rfl⟩
              have HM2E := Lib.hid hm2
              have HM2 := Lib.hid (show (m : Int) - ((q : Int) + 1) = (m2 : Int) ∧ m2 ≤ 1000000 by have := HMX.out.1; have := HO.out.kp.right.used; rw [hm2, hrc]; omega)
              clear hm2
              have HF1 := Lib.hid True.intro
              go_wp2_with (first
                | (go_at_call 17; refine (gRoom HG.out HOK.out HO.out.kp.right.used).mono ?_; rintro e r1 ⟨rfl, hr1⟩; rw [← HMX.out.1]; (have HG := Lib.hid (HG.out.quiet hr1)); clear hr1)
                | (go_at_call 18; refine (gRound HG.out).mono ?_; rintro e r2 ⟨rfl, hr2⟩; rw [← HMX.out.2]; (have HG := Lib.hid (HG.out.quiet hr2)); clear hr2)
                | (go_at_call 19; refine (gKept HG.out).mono ?_; rintro e r3 ⟨kv, rfl, hk3, hr3⟩; clear HF1; (have HG := Lib.hid (HG.out.quiet hr3)); (have HK1 := Lib.hid hk3.bytes); (have HP3 := Lib.hid (HP.out.keep (H5.out.1.trans HG.out.fr (fun _ h => h.elim)) (fun _ _ _ h => h))); (have hcw := HP3.out.what); (have hcb := HP3.out.cb); (rw [HQX.out] at hcb); (have HBY := Lib.hid (HQX.out ▸ HP3.out.bytes)); (obtain ⟨s0, s1, s2⟩ := row3_cells (HG.out.fr.heap H5.out.2 id)); clear hr3 hk3)
                | (go_at_call 12; refine (pick_any p.what 9 _ (by decide) (by decide) HP.out.wf.1.1 HP.out.wf.1.2).mono ?_; rintro e r4 ⟨rfl, rfl⟩)
                | (go_at_call 21; refine (gAppend HG.out HOK.out HO.out.kp.right _ p.B (by rw [HQ.out.1]; omega) HBY.out (by rw [HRC.out, ← HMX.out.1]; omega) (by have := HO.out.round; omega) HO.out.up HO.out.waits (by have := HO.out.deeds; omega)).mono ?_; rintro e r5 ⟨rfl, hL5, hf5⟩; rw [if_pos HA.out.1, if_pos HA.out.1] at hL5; rw [HA.out.1]; (have HG5 := Lib.hid hL5); (obtain ⟨s0, s1, s2⟩ := row3_cells (HG5.out.fr.heap H5.out.2 id)); clear hL5 hf5))
              have HRN := Lib.hid (fun W (hW : Fr (fun _ => False) r5 W) => show Calls Tryz.prog 18 #[.pointer (some ⟨jn, 0, none⟩)] W (fun e w' => e = .returned (.int .i64 ((x + 1 : Nat) : Int)) ∧ Fr (fun _ => False) W w') by rw [HMX.out.2]; exact gRound (HG5.out.quiet hW))
              have HRM := Lib.hid (fun W (hW : Fr (fun _ => False) r5 W) => show Calls Tryz.prog 17 #[.pointer (some ⟨jn, 0, none⟩)] W (fun e w' => e = .returned (.int .i64 ((m2 : Nat) : Int)) ∧ Fr (fun _ => False) W w') by rw [HM2E.out]; exact gRoom (HG5.out.quiet hW) HOK.out HA.out.2.kp.right.used)
              have LDL := Lib.hid (fun W (hW : Fr (fun _ => False) r5 W) => load_int5 W ⟨gs, 0, none⟩ (.int .i64 l) (cell_of_row _ _ _ _ _ _ ((HG5.out.quiet hW).fr.heap H5.out.2 id)))
              have HX6 := Lib.hid (show x ≤ 1000 by have := HO.out.round; have := HMX.out.2; omega)
              clear s0 s1 s2 hcw hcb d128 hfit
              refine wp_region_inv 32 (by kernel_rfl) (by kernel_rfl) (fun W => Fr (fun _ => False) r5 W) (Rmc1R jn gs l m x q m2) (fun _ _ _ _ => True) (Fr (fun _ => False)) (Rmc1R.ext jn gs l m x q m2) (Fr.refl _ _).drew ?_ ?_
              · intro i hi o ho
                replace hi : i < 32 := hi
                obtain rfl | rfl | rfl | rfl | rfl | rfl | rfl | rfl | rfl | rfl | rfl | rfl | rfl | rfl | rfl | rfl | rfl | rfl | rfl | rfl | rfl | rfl | rfl | rfl | rfl | rfl | rfl | rfl | rfl | rfl | rfl | rfl : i = 0 ∨ i = 1 ∨ i = 2 ∨ i = 3 ∨ i = 4 ∨ i = 5 ∨ i = 6 ∨ i = 7 ∨ i = 8 ∨ i = 9 ∨ i = 10 ∨ i = 11 ∨ i = 12 ∨ i = 13 ∨ i = 14 ∨ i = 15 ∨ i = 16 ∨ i = 17 ∨ i = 18 ∨ i = 19 ∨ i = 20 ∨ i = 21 ∨ i = 22 ∨ i = 23 ∨ i = 24 ∨ i = 25 ∨ i = 26 ∨ i = 27 ∨ i = 28 ∨ i = 29 ∨ i = 30 ∨ i = 31 := by omega
                · simp only [List.getElem?_cons_zero, Option.some.injEq] at ho
                  subst ho
                  intro a W vs hB hS hE hU
                  refine wpG_plain rfl ?_
                  have v16 : a.eval (.tmp 16) = .int .i64 0 := (hU 16 (by kernel_rfl)).trans rfl
                  clear hE hU
                  exact wp_value_inv (w' := W) (.int .i64 0) (op_move rfl v16) ⟨_, rfl, hB, Fr.refl _ _, rfl, fun _ _ _ _ _ => trivial⟩
                · simp only [List.getElem?_cons_zero, List.getElem?_cons_succ, Option.some.injEq] at ho
                  subst ho
                  intro a W vs hB hS hE hU
                  refine wpG_plain rfl ?_
                  obtain ⟨r0, e148⟩ := hE 0 148 (by kernel_rfl) (by kernel_rfl)
                  have v148 : a.eval (.tmp 148) = .int .i64 0 := e148.trans r0
                  clear hE hU
                  exact wp_value_inv (w' := W) (.bool true) (op_bin rfl v148 rfl (guard_int W _ _ _ _ _ _ _) (eql_yes)) ⟨_, rfl, hB, Fr.refl _ _, rfl, fun _ _ _ _ _ => trivial⟩
                · simp only [List.getElem?_cons_zero, List.getElem?_cons_succ, Option.some.injEq] at ho
                  subst ho
                  intro a W vs hB hS hE hU
                  refine wpG_plain rfl ?_
                  obtain ⟨r1, e149⟩ := hE 1 149 (by kernel_rfl) (by kernel_rfl)
                  have v149 : a.eval (.tmp 149) = .bool true := e149.trans r1
                  clear hE hU
                  exact wp_value_inv (w' := W) (.bool true) (op_move rfl v149) ⟨_, rfl, hB, Fr.refl _ _, rfl, fun _ _ _ _ _ => trivial⟩
                · simp only [List.getElem?_cons_zero, List.getElem?_cons_succ, Option.some.injEq] at ho
                  subst ho
                  intro a W vs hB hS hE hU
                  obtain ⟨r2, e150⟩ := hE 2 150 (by kernel_rfl) (by kernel_rfl)
                  have v150 : a.eval (.tmp 150) = .bool true := e150.trans r2
                  refine wpG_yes 2 true 150 rfl (by kernel_rfl) (by rw [hS]; first | simp | exact Nat.le_of_ble_eq_true rfl) v150 ?_
                  have v7 : a.eval (.tmp 7) = .pointer (some ⟨jn, 0, none⟩) := (hU 7 (by kernel_rfl)).trans rfl
                  clear hE hU
                  exact wp_value_inv (w' := W) (.pointer (some ⟨jn, 0, none⟩)) (op_move rfl v7) ⟨_, rfl, hB, Fr.refl _ _, rfl, fun _ _ _ _ _ => trivial⟩
                · simp only [List.getElem?_cons_zero, List.getElem?_cons_succ, Option.some.injEq] at ho
                  subst ho
                  intro a W vs hB hS hE hU
                  obtain ⟨r2, e150⟩ := hE 2 150 (by kernel_rfl) (by kernel_rfl)
                  have v150 : a.eval (.tmp 150) = .bool true := e150.trans r2
                  refine wpG_yes 2 true 150 rfl (by kernel_rfl) (by rw [hS]; first | simp | exact Nat.le_of_ble_eq_true rfl) v150 ?_
                  obtain ⟨r3, e151⟩ := hE 3 151 (by kernel_rfl) (by kernel_rfl)
                  have v151 : a.eval (.tmp 151) = .pointer (some ⟨jn, 0, none⟩) := e151.trans r3
                  clear hE hU
                  refine wp_call_inv 18 #[.tmp 151] #[34] rfl #[.pointer (some ⟨jn, 0, none⟩)] (by simp only [List.map_toArray, List.map_cons, List.map_nil, v151]) (ent___spence_log_Journal__Round _) (Post := fun v W' => v = .int .i64 ((x + 1 : Nat) : Int) ∧ Fr (fun _ => False) W W') ((HRN.out W hB).mono fun e w' h => ⟨_, h.1, rfl, h.2⟩) ?_
                  rintro v W' ⟨rfl, hf⟩
                  exact ⟨_, rfl, hB.trans hf (fun _ h => h.elim), hf, rfl, fun _ _ _ _ _ => trivial⟩
                · simp only [List.getElem?_cons_zero, List.getElem?_cons_succ, Option.some.injEq] at ho
                  subst ho
                  intro a W vs hB hS hE hU
                  obtain ⟨r2, e150⟩ := hE 2 150 (by kernel_rfl) (by kernel_rfl)
                  have v150 : a.eval (.tmp 150) = .bool true := e150.trans r2
                  refine wpG_yes 2 true 150 rfl (by kernel_rfl) (by rw [hS]; first | simp | exact Nat.le_of_ble_eq_true rfl) v150 ?_
                  have v11 : a.eval (.tmp 11) = .int .i64 (x : Nat) := (hU 11 (by kernel_rfl)).trans rfl
                  clear hE hU
                  exact wp_value_inv (w' := W) (.int .i64 (x : Nat)) (op_move rfl v11) ⟨_, rfl, hB, Fr.refl _ _, rfl, fun _ _ _ _ _ => trivial⟩
                · simp only [List.getElem?_cons_zero, List.getElem?_cons_succ, Option.some.injEq] at ho
                  subst ho
                  intro a W vs hB hS hE hU
                  obtain ⟨r2, e150⟩ := hE 2 150 (by kernel_rfl) (by kernel_rfl)
                  have v150 : a.eval (.tmp 150) = .bool true := e150.trans r2
                  refine wpG_yes 2 true 150 rfl (by kernel_rfl) (by rw [hS]; first | simp | exact Nat.le_of_ble_eq_true rfl) v150 ?_
                  obtain ⟨r5, e153⟩ := hE 5 153 (by kernel_rfl) (by kernel_rfl)
                  have v153 : a.eval (.tmp 153) = .int .i64 (x : Nat) := e153.trans r5
                  clear hE hU
                  exact wp_value_inv (w' := W) (.int .i64 ((x + 1 : Nat) : Int)) (op_bin rfl v153 rfl (rfl) (add_in5 (by push_cast; rfl) (by omega) (by have := HX6.out; omega))) ⟨_, rfl, hB, Fr.refl _ _, rfl, fun _ _ _ _ _ => trivial⟩
                · simp only [List.getElem?_cons_zero, List.getElem?_cons_succ, Option.some.injEq] at ho
                  subst ho
                  intro a W vs hB hS hE hU
                  obtain ⟨r2, e150⟩ := hE 2 150 (by kernel_rfl) (by kernel_rfl)
                  have v150 : a.eval (.tmp 150) = .bool true := e150.trans r2
                  refine wpG_yes 2 true 150 rfl (by kernel_rfl) (by rw [hS]; first | simp | exact Nat.le_of_ble_eq_true rfl) v150 ?_
                  obtain ⟨r4, e152⟩ := hE 4 152 (by kernel_rfl) (by kernel_rfl)
                  have v152 : a.eval (.tmp 152) = .int .i64 ((x + 1 : Nat) : Int) := e152.trans r4
                  obtain ⟨r6, e154⟩ := hE 6 154 (by kernel_rfl) (by kernel_rfl)
                  have v154 : a.eval (.tmp 154) = .int .i64 ((x + 1 : Nat) : Int) := e154.trans r6
                  clear hE hU
                  exact wp_value_inv (w' := W) (.bool false) (op_bin rfl v152 v154 (guard_int W _ _ _ _ _ _ _) (neq_no)) ⟨_, rfl, hB, Fr.refl _ _, rfl, fun _ _ _ _ _ => trivial⟩
                · simp only [List.getElem?_cons_zero, List.getElem?_cons_succ, Option.some.injEq] at ho
                  subst ho
                  intro a W vs hB hS hE hU
                  obtain ⟨r2, e150⟩ := hE 2 150 (by kernel_rfl) (by kernel_rfl)
                  have v150 : a.eval (.tmp 150) = .bool true := e150.trans r2
                  refine wpG_yes 2 true 150 rfl (by kernel_rfl) (by rw [hS]; first | simp | exact Nat.le_of_ble_eq_true rfl) v150 ?_
                  obtain ⟨r7, e155⟩ := hE 7 155 (by kernel_rfl) (by kernel_rfl)
                  have v155 : a.eval (.tmp 155) = .bool false := e155.trans r7
                  clear hE hU
                  exact wp_value_inv (w' := W) (.bool false) (op_move rfl v155) ⟨_, rfl, hB, Fr.refl _ _, rfl, fun _ _ _ _ _ => trivial⟩
                · simp only [List.getElem?_cons_zero, List.getElem?_cons_succ, Option.some.injEq] at ho
                  subst ho
                  intro a W vs hB hS hE hU
                  obtain ⟨r8, e156⟩ := hE 8 156 (by kernel_rfl) (by kernel_rfl)
                  have v156 : a.eval (.tmp 156) = .bool false := e156.trans r8
                  refine wpG_yes 8 false 156 rfl (by kernel_rfl) (by rw [hS]; first | simp | exact Nat.le_of_ble_eq_true rfl) v156 ?_
                  have v15 : a.eval (.tmp 15) = .bool false := (hU 15 (by kernel_rfl)).trans rfl
                  clear hE hU
                  exact wp_value_inv (w' := W) (.bool false) (op_move rfl v15) ⟨_, rfl, hB, Fr.refl _ _, rfl, fun _ _ _ _ _ => trivial⟩
                · simp only [List.getElem?_cons_zero, List.getElem?_cons_succ, Option.some.injEq] at ho
                  subst ho
                  intro a W vs hB hS hE hU
                  obtain ⟨r8, e156⟩ := hE 8 156 (by kernel_rfl) (by kernel_rfl)
                  have v156 : a.eval (.tmp 156) = .bool false := e156.trans r8
                  refine wpG_yes 8 false 156 rfl (by kernel_rfl) (by rw [hS]; first | simp | exact Nat.le_of_ble_eq_true rfl) v156 ?_
                  obtain ⟨r9, e157⟩ := hE 9 157 (by kernel_rfl) (by kernel_rfl)
                  have v157 : a.eval (.tmp 157) = .bool false := e157.trans r9
                  clear hE hU
                  exact wp_value_inv (w' := W) (.bool false) (op_move rfl v157) ⟨_, rfl, hB, Fr.refl _ _, rfl, fun _ _ _ _ _ => trivial⟩
                · simp only [List.getElem?_cons_zero, List.getElem?_cons_succ, Option.some.injEq] at ho
                  subst ho
                  intro a W vs hB hS hE hU
                  obtain ⟨r10, e158⟩ := hE 10 158 (by kernel_rfl) (by kernel_rfl)
                  have v158 : a.eval (.tmp 158) = .bool false := e158.trans r10
                  exact wpG_no 10 true 158 rfl (by kernel_rfl) (by rw [hS]; first | simp | exact Nat.le_of_ble_eq_true rfl) v158 ⟨_, rfl, hB, Fr.refl _ _, rfl, fun _ _ _ _ _ => trivial⟩
                · simp only [List.getElem?_cons_zero, List.getElem?_cons_succ, Option.some.injEq] at ho
                  subst ho
                  intro a W vs hB hS hE hU
                  obtain ⟨r10, e158⟩ := hE 10 158 (by kernel_rfl) (by kernel_rfl)
                  have v158 : a.eval (.tmp 158) = .bool false := e158.trans r10
                  exact wpG_no 10 true 158 rfl (by kernel_rfl) (by rw [hS]; first | simp | exact Nat.le_of_ble_eq_true rfl) v158 ⟨_, rfl, hB, Fr.refl _ _, rfl, fun _ _ _ _ _ => trivial⟩
                · simp only [List.getElem?_cons_zero, List.getElem?_cons_succ, Option.some.injEq] at ho
                  subst ho
                  intro a W vs hB hS hE hU
                  obtain ⟨r10, e158⟩ := hE 10 158 (by kernel_rfl) (by kernel_rfl)
                  have v158 : a.eval (.tmp 158) = .bool false := e158.trans r10
                  exact wpG_no 10 true 158 rfl (by kernel_rfl) (by rw [hS]; first | simp | exact Nat.le_of_ble_eq_true rfl) v158 ⟨_, rfl, hB, Fr.refl _ _, rfl, fun _ _ _ _ _ => trivial⟩
                · simp only [List.getElem?_cons_zero, List.getElem?_cons_succ, Option.some.injEq] at ho
                  subst ho
                  intro a W vs hB hS hE hU
                  obtain ⟨r10, e158⟩ := hE 10 158 (by kernel_rfl) (by kernel_rfl)
                  have v158 : a.eval (.tmp 158) = .bool false := e158.trans r10
                  exact wpG_no 10 true 158 rfl (by kernel_rfl) (by rw [hS]; first | simp | exact Nat.le_of_ble_eq_true rfl) v158 ⟨_, rfl, hB, Fr.refl _ _, rfl, fun _ _ _ _ _ => trivial⟩
                · simp only [List.getElem?_cons_zero, List.getElem?_cons_succ, Option.some.injEq] at ho
                  subst ho
                  intro a W vs hB hS hE hU
                  obtain ⟨r10, e158⟩ := hE 10 158 (by kernel_rfl) (by kernel_rfl)
                  have v158 : a.eval (.tmp 158) = .bool false := e158.trans r10
                  exact wpG_no 10 true 158 rfl (by kernel_rfl) (by rw [hS]; first | simp | exact Nat.le_of_ble_eq_true rfl) v158 ⟨_, rfl, hB, Fr.refl _ _, rfl, fun _ _ _ _ _ => trivial⟩
                · simp only [List.getElem?_cons_zero, List.getElem?_cons_succ, Option.some.injEq] at ho
                  subst ho
                  intro a W vs hB hS hE hU
                  obtain ⟨r10, e158⟩ := hE 10 158 (by kernel_rfl) (by kernel_rfl)
                  have v158 : a.eval (.tmp 158) = .bool false := e158.trans r10
                  exact wpG_no 10 true 158 rfl (by kernel_rfl) (by rw [hS]; first | simp | exact Nat.le_of_ble_eq_true rfl) v158 ⟨_, rfl, hB, Fr.refl _ _, rfl, fun _ _ _ _ _ => trivial⟩
                · simp only [List.getElem?_cons_zero, List.getElem?_cons_succ, Option.some.injEq] at ho
                  subst ho
                  intro a W vs hB hS hE hU
                  obtain ⟨r8, e156⟩ := hE 8 156 (by kernel_rfl) (by kernel_rfl)
                  have v156 : a.eval (.tmp 156) = .bool false := e156.trans r8
                  refine wpG_yes 8 false 156 rfl (by kernel_rfl) (by rw [hS]; first | simp | exact Nat.le_of_ble_eq_true rfl) v156 ?_
                  obtain ⟨r10, e158⟩ := hE 10 158 (by kernel_rfl) (by kernel_rfl)
                  have v158 : a.eval (.tmp 158) = .bool false := e158.trans r10
                  clear hE hU
                  exact wp_value_inv (w' := W) (.bool false) (op_pick rfl v158 (by simp only [Bool.false_eq_true, if_false]; rfl)) ⟨_, rfl, hB, Fr.refl _ _, rfl, fun _ _ _ _ _ => trivial⟩
                · simp only [List.getElem?_cons_zero, List.getElem?_cons_succ, Option.some.injEq] at ho
                  subst ho
                  intro a W vs hB hS hE hU
                  obtain ⟨r2, e150⟩ := hE 2 150 (by kernel_rfl) (by kernel_rfl)
                  have v150 : a.eval (.tmp 150) = .bool true := e150.trans r2
                  refine wpG_yes 2 true 150 rfl (by kernel_rfl) (by rw [hS]; first | simp | exact Nat.le_of_ble_eq_true rfl) v150 ?_
                  obtain ⟨r8, e156⟩ := hE 8 156 (by kernel_rfl) (by kernel_rfl)
                  have v156 : a.eval (.tmp 156) = .bool false := e156.trans r8
                  obtain ⟨r17, e165⟩ := hE 17 165 (by kernel_rfl) (by kernel_rfl)
                  have v165 : a.eval (.tmp 165) = .bool false := e165.trans r17
                  clear hE hU
                  exact wp_value_inv (w' := W) (.bool false) (op_pick rfl v156 (by simp only [Bool.false_eq_true, if_false]; exact v165)) ⟨_, rfl, hB, Fr.refl _ _, rfl, fun _ _ _ _ _ => trivial⟩
                · simp only [List.getElem?_cons_zero, List.getElem?_cons_succ, Option.some.injEq] at ho
                  subst ho
                  intro a W vs hB hS hE hU
                  obtain ⟨r2, e150⟩ := hE 2 150 (by kernel_rfl) (by kernel_rfl)
                  have v150 : a.eval (.tmp 150) = .bool true := e150.trans r2
                  refine wpG_yes 2 true 150 rfl (by kernel_rfl) (by rw [hS]; first | simp | exact Nat.le_of_ble_eq_true rfl) v150 ?_
                  obtain ⟨r18, e166⟩ := hE 18 166 (by kernel_rfl) (by kernel_rfl)
                  have v166 : a.eval (.tmp 166) = .bool false := e166.trans r18
                  clear hE hU
                  exact wp_value_inv (w' := W) (.bool false) (op_move rfl v166) ⟨_, rfl, hB, Fr.refl _ _, rfl, fun _ _ _ _ _ => trivial⟩
                · simp only [List.getElem?_cons_zero, List.getElem?_cons_succ, Option.some.injEq] at ho
                  subst ho
                  intro a W vs hB hS hE hU
                  obtain ⟨r19, e167⟩ := hE 19 167 (by kernel_rfl) (by kernel_rfl)
                  have v167 : a.eval (.tmp 167) = .bool false := e167.trans r19
                  refine wpG_yes 19 false 167 rfl (by kernel_rfl) (by rw [hS]; first | simp | exact Nat.le_of_ble_eq_true rfl) v167 ?_
                  have v15 : a.eval (.tmp 15) = .bool false := (hU 15 (by kernel_rfl)).trans rfl
                  clear hE hU
                  exact wp_value_inv (w' := W) (.bool false) (op_move rfl v15) ⟨_, rfl, hB, Fr.refl _ _, rfl, fun _ _ _ _ _ => trivial⟩
                · simp only [List.getElem?_cons_zero, List.getElem?_cons_succ, Option.some.injEq] at ho
                  subst ho
                  intro a W vs hB hS hE hU
                  obtain ⟨r19, e167⟩ := hE 19 167 (by kernel_rfl) (by kernel_rfl)
                  have v167 : a.eval (.tmp 167) = .bool false := e167.trans r19
                  refine wpG_yes 19 false 167 rfl (by kernel_rfl) (by rw [hS]; first | simp | exact Nat.le_of_ble_eq_true rfl) v167 ?_
                  obtain ⟨r20, e168⟩ := hE 20 168 (by kernel_rfl) (by kernel_rfl)
                  have v168 : a.eval (.tmp 168) = .bool false := e168.trans r20
                  clear hE hU
                  exact wp_value_inv (w' := W) (.bool true) (op_unop rfl v168 (by rfl)) ⟨_, rfl, hB, Fr.refl _ _, rfl, fun _ _ _ _ _ => trivial⟩
                · simp only [List.getElem?_cons_zero, List.getElem?_cons_succ, Option.some.injEq] at ho
                  subst ho
                  intro a W vs hB hS hE hU
                  obtain ⟨r19, e167⟩ := hE 19 167 (by kernel_rfl) (by kernel_rfl)
                  have v167 : a.eval (.tmp 167) = .bool false := e167.trans r19
                  refine wpG_yes 19 false 167 rfl (by kernel_rfl) (by rw [hS]; first | simp | exact Nat.le_of_ble_eq_true rfl) v167 ?_
                  obtain ⟨r21, e169⟩ := hE 21 169 (by kernel_rfl) (by kernel_rfl)
                  have v169 : a.eval (.tmp 169) = .bool true := e169.trans r21
                  clear hE hU
                  exact wp_value_inv (w' := W) (.bool true) (op_move rfl v169) ⟨_, rfl, hB, Fr.refl _ _, rfl, fun _ _ _ _ _ => trivial⟩
                · simp only [List.getElem?_cons_zero, List.getElem?_cons_succ, Option.some.injEq] at ho
                  subst ho
                  intro a W vs hB hS hE hU
                  obtain ⟨r22, e170⟩ := hE 22 170 (by kernel_rfl) (by kernel_rfl)
                  have v170 : a.eval (.tmp 170) = .bool true := e170.trans r22
                  refine wpG_yes 22 true 170 rfl (by kernel_rfl) (by rw [hS]; first | simp | exact Nat.le_of_ble_eq_true rfl) v170 ?_
                  have v7 : a.eval (.tmp 7) = .pointer (some ⟨jn, 0, none⟩) := (hU 7 (by kernel_rfl)).trans rfl
                  clear hE hU
                  exact wp_value_inv (w' := W) (.pointer (some ⟨jn, 0, none⟩)) (op_move rfl v7) ⟨_, rfl, hB, Fr.refl _ _, rfl, fun _ _ _ _ _ => trivial⟩
                · simp only [List.getElem?_cons_zero, List.getElem?_cons_succ, Option.some.injEq] at ho
                  subst ho
                  intro a W vs hB hS hE hU
                  obtain ⟨r22, e170⟩ := hE 22 170 (by kernel_rfl) (by kernel_rfl)
                  have v170 : a.eval (.tmp 170) = .bool true := e170.trans r22
                  refine wpG_yes 22 true 170 rfl (by kernel_rfl) (by rw [hS]; first | simp | exact Nat.le_of_ble_eq_true rfl) v170 ?_
                  obtain ⟨r23, e171⟩ := hE 23 171 (by kernel_rfl) (by kernel_rfl)
                  have v171 : a.eval (.tmp 171) = .pointer (some ⟨jn, 0, none⟩) := e171.trans r23
                  clear hE hU
                  refine wp_call_inv 17 #[.tmp 171] #[34] rfl #[.pointer (some ⟨jn, 0, none⟩)] (by simp only [List.map_toArray, List.map_cons, List.map_nil, v171]) (ent___spence_log_Journal__Room _) (Post := fun v W' => v = .int .i64 ((m2 : Nat) : Int) ∧ Fr (fun _ => False) W W') ((HRM.out W hB).mono fun e w' h => ⟨_, h.1, rfl, h.2⟩) ?_
                  rintro v W' ⟨rfl, hf⟩
                  exact ⟨_, rfl, hB.trans hf (fun _ h => h.elim), hf, rfl, fun _ _ _ _ _ => trivial⟩
                · simp only [List.getElem?_cons_zero, List.getElem?_cons_succ, Option.some.injEq] at ho
                  subst ho
                  intro a W vs hB hS hE hU
                  obtain ⟨r22, e170⟩ := hE 22 170 (by kernel_rfl) (by kernel_rfl)
                  have v170 : a.eval (.tmp 170) = .bool true := e170.trans r22
                  refine wpG_yes 22 true 170 rfl (by kernel_rfl) (by rw [hS]; first | simp | exact Nat.le_of_ble_eq_true rfl) v170 ?_
                  have v10 : a.eval (.tmp 10) = .int .i64 (m : Nat) := (hU 10 (by kernel_rfl)).trans rfl
                  clear hE hU
                  exact wp_value_inv (w' := W) (.int .i64 (m : Nat)) (op_move rfl v10) ⟨_, rfl, hB, Fr.refl _ _, rfl, fun _ _ _ _ _ => trivial⟩
                · simp only [List.getElem?_cons_zero, List.getElem?_cons_succ, Option.some.injEq] at ho
                  subst ho
                  intro a W vs hB hS hE hU
                  obtain ⟨r22, e170⟩ := hE 22 170 (by kernel_rfl) (by kernel_rfl)
                  have v170 : a.eval (.tmp 170) = .bool true := e170.trans r22
                  refine wpG_yes 22 true 170 rfl (by kernel_rfl) (by rw [hS]; first | simp | exact Nat.le_of_ble_eq_true rfl) v170 ?_
                  have v14 : a.eval (.tmp 14) = .int .i64 ((q : Nat) + 1) := (hU 14 (by kernel_rfl)).trans rfl
                  clear hE hU
                  exact wp_value_inv (w' := W) (.int .i64 ((q : Nat) + 1)) (op_move rfl v14) ⟨_, rfl, hB, Fr.refl _ _, rfl, fun _ _ _ _ _ => trivial⟩
                · simp only [List.getElem?_cons_zero, List.getElem?_cons_succ, Option.some.injEq] at ho
                  subst ho
                  intro a W vs hB hS hE hU
                  obtain ⟨r22, e170⟩ := hE 22 170 (by kernel_rfl) (by kernel_rfl)
                  have v170 : a.eval (.tmp 170) = .bool true := e170.trans r22
                  refine wpG_yes 22 true 170 rfl (by kernel_rfl) (by rw [hS]; first | simp | exact Nat.le_of_ble_eq_true rfl) v170 ?_
                  obtain ⟨r25, e173⟩ := hE 25 173 (by kernel_rfl) (by kernel_rfl)
                  have v173 : a.eval (.tmp 173) = .int .i64 (m : Nat) := e173.trans r25
                  obtain ⟨r26, e174⟩ := hE 26 174 (by kernel_rfl) (by kernel_rfl)
                  have v174 : a.eval (.tmp 174) = .int .i64 ((q : Nat) + 1) := e174.trans r26
                  clear hE hU
                  exact wp_value_inv (w' := W) (.int .i64 ((m2 : Nat) : Int)) (op_bin rfl v173 v174 (rfl) (sub_in5 (by have := HM2.out.1; omega) (by omega) (by have := HM2.out.2; omega))) ⟨_, rfl, hB, Fr.refl _ _, rfl, fun _ _ _ _ _ => trivial⟩
                · simp only [List.getElem?_cons_zero, List.getElem?_cons_succ, Option.some.injEq] at ho
                  subst ho
                  intro a W vs hB hS hE hU
                  obtain ⟨r22, e170⟩ := hE 22 170 (by kernel_rfl) (by kernel_rfl)
                  have v170 : a.eval (.tmp 170) = .bool true := e170.trans r22
                  refine wpG_yes 22 true 170 rfl (by kernel_rfl) (by rw [hS]; first | simp | exact Nat.le_of_ble_eq_true rfl) v170 ?_
                  obtain ⟨r24, e172⟩ := hE 24 172 (by kernel_rfl) (by kernel_rfl)
                  have v172 : a.eval (.tmp 172) = .int .i64 ((m2 : Nat) : Int) := e172.trans r24
                  obtain ⟨r27, e175⟩ := hE 27 175 (by kernel_rfl) (by kernel_rfl)
                  have v175 : a.eval (.tmp 175) = .int .i64 ((m2 : Nat) : Int) := e175.trans r27
                  clear hE hU
                  exact wp_value_inv (w' := W) (.bool false) (op_bin rfl v172 v175 (guard_int W _ _ _ _ _ _ _) (neq_no)) ⟨_, rfl, hB, Fr.refl _ _, rfl, fun _ _ _ _ _ => trivial⟩
                · simp only [List.getElem?_cons_zero, List.getElem?_cons_succ, Option.some.injEq] at ho
                  subst ho
                  intro a W vs hB hS hE hU
                  obtain ⟨r19, e167⟩ := hE 19 167 (by kernel_rfl) (by kernel_rfl)
                  have v167 : a.eval (.tmp 167) = .bool false := e167.trans r19
                  refine wpG_yes 19 false 167 rfl (by kernel_rfl) (by rw [hS]; first | simp | exact Nat.le_of_ble_eq_true rfl) v167 ?_
                  obtain ⟨r22, e170⟩ := hE 22 170 (by kernel_rfl) (by kernel_rfl)
                  have v170 : a.eval (.tmp 170) = .bool true := e170.trans r22
                  obtain ⟨r28, e176⟩ := hE 28 176 (by kernel_rfl) (by kernel_rfl)
                  have v176 : a.eval (.tmp 176) = .bool false := e176.trans r28
                  clear hE hU
                  exact wp_value_inv (w' := W) (.bool false) (op_pick rfl v170 (by simp only [if_true]; exact v176)) ⟨_, rfl, hB, Fr.refl _ _, rfl, fun _ _ _ _ _ => trivial⟩
                · simp only [List.getElem?_cons_zero, List.getElem?_cons_succ, Option.some.injEq] at ho
                  subst ho
                  intro a W vs hB hS hE hU
                  obtain ⟨r2, e150⟩ := hE 2 150 (by kernel_rfl) (by kernel_rfl)
                  have v150 : a.eval (.tmp 150) = .bool true := e150.trans r2
                  refine wpG_yes 2 true 150 rfl (by kernel_rfl) (by rw [hS]; first | simp | exact Nat.le_of_ble_eq_true rfl) v150 ?_
                  obtain ⟨r19, e167⟩ := hE 19 167 (by kernel_rfl) (by kernel_rfl)
                  have v167 : a.eval (.tmp 167) = .bool false := e167.trans r19
                  obtain ⟨r29, e177⟩ := hE 29 177 (by kernel_rfl) (by kernel_rfl)
                  have v177 : a.eval (.tmp 177) = .bool false := e177.trans r29
                  clear hE hU
                  exact wp_value_inv (w' := W) (.bool false) (op_pick rfl v167 (by simp only [Bool.false_eq_true, if_false]; exact v177)) ⟨_, rfl, hB, Fr.refl _ _, rfl, fun _ _ _ _ _ => trivial⟩
                · simp only [List.getElem?_cons_zero, List.getElem?_cons_succ, Option.some.injEq] at ho
                  subst ho
                  intro a W vs hB hS hE hU
                  refine wpG_plain rfl ?_
                  obtain ⟨r2, e150⟩ := hE 2 150 (by kernel_rfl) (by kernel_rfl)
                  have v150 : a.eval (.tmp 150) = .bool true := e150.trans r2
                  obtain ⟨r30, e178⟩ := hE 30 178 (by kernel_rfl) (by kernel_rfl)
                  have v178 : a.eval (.tmp 178) = .bool false := e178.trans r30
                  clear hE hU
                  exact wp_value_inv (w' := W) (.bool false) (op_pick rfl v150 (by simp only [if_true]; exact v178)) ⟨_, rfl, hB, Fr.refl _ _, rfl, fun _ _ _ _ _ => trivial⟩
              · intro vs Wb hB0 hR0 hD
                have r179 : vs 31 = .bool false := hR0 31 (by decide)
                have HB9 := Lib.hid hB0
                clear hR0 hD hB0
                simp only [acts, if_true, dstAt, List.getElem?_cons_zero, List.getElem?_cons_succ, Option.bind_some, Act.put, List.setIfInBounds_toArray, List.set_cons_succ, List.set_cons_zero, List.drop_succ_cons, List.drop_nil]
                simp only [r179]
                clear r179
                go_wp2_with fail
                go_roundw
                case rel => exact ⟨i + 1, by omega, by go_num, Lib.hid ⟨_, _, _, _, HG5.out.quiet HB9.out, HA.out.2⟩⟩
                case measure => simp [intOf]; omega
            · have d128 : decide ((128 : Int) ≤ (q : Int)) = false := by rw [decide_eq_false_iff_not]; omega
              have hfit : decide ((q : Int) + 1 ≤ (m : Int)) = false := by rw [decide_eq_false_iff_not]; omega
              have HF1 := Lib.hid True.intro
              go_wp2_with (first
                | (go_at_call 17; refine (gRoom HG.out HOK.out HO.out.kp.right.used).mono ?_; rintro e r1 ⟨rfl, hr1⟩; rw [← HMX.out.1]; (have HG := Lib.hid (HG.out.quiet hr1)); clear hr1)
                | (go_at_call 18; refine (gRound HG.out).mono ?_; rintro e r2 ⟨rfl, hr2⟩; rw [← HMX.out.2]; (have HG := Lib.hid (HG.out.quiet hr2)); clear hr2)
                | (go_at_call 19; refine (gKept HG.out).mono ?_; rintro e r3 ⟨kv, rfl, hk3, hr3⟩; clear HF1; (have HG := Lib.hid (HG.out.quiet hr3)); (have HK1 := Lib.hid hk3.bytes); (have HP3 := Lib.hid (HP.out.keep (H5.out.1.trans HG.out.fr (fun _ h => h.elim)) (fun _ _ _ h => h))); (have hcw := HP3.out.what); (have hcb := HP3.out.cb); (rw [HQX.out] at hcb); (have HBY := Lib.hid (HQX.out ▸ HP3.out.bytes)); (obtain ⟨s0, s1, s2⟩ := row3_cells (HG.out.fr.heap H5.out.2 id)); clear hr3 hk3)
                | (go_at_call 12; refine (pick_any p.what 9 _ (by decide) (by decide) HP.out.wf.1.1 HP.out.wf.1.2).mono ?_; rintro e r4 ⟨rfl, rfl⟩))
              refine (jAppend_long (D := fun _ => False) _ jn g s l la d h _ p.B dv HOK.out.l8 HO.out.kp.right HO.out.kp.right.used (by rw [HQ.out.1]; omega) HG.out.jrn HBY.out (by rw [HRC.out, ← HMX.out.1]; omega) trivial).mono ?_
              rintro e r5 ⟨rfl, hf5⟩
              have HG := Lib.hid (HG.out.quiet hf5)
              have HK1 := Lib.hid (HK1.out.keep hf5 (fun _ _ _ h => h))
              obtain ⟨s0, s1, s2⟩ := row3_cells (HG.out.fr.heap H5.out.2 id)
              clear hf5
              go_wp2_with (first
                | (go_at_call 17; refine (gRoom HG.out HOK.out HO.out.kp.right.used).mono ?_; rintro e r6 ⟨rfl, hr1⟩; rw [← HMX.out.1]; (have HG := Lib.hid (HG.out.quiet hr1)); (have HK1 := Lib.hid (HK1.out.keep hr1 (fun _ _ _ h => h))); clear hr1)
                | (go_at_call 18; refine (gRound HG.out).mono ?_; rintro e r7 ⟨rfl, hr2⟩; rw [← HMX.out.2]; (have HG := Lib.hid (HG.out.quiet hr2)); (have HK1 := Lib.hid (HK1.out.keep hr2 (fun _ _ _ h => h))); clear hr2)
                | (go_at_call 19; refine (gKept HG.out).mono ?_; rintro e r8 ⟨kw, rfl, hk7, hr7⟩; (have HG := Lib.hid (HG.out.quiet hr7)); (have HK1 := Lib.hid (HK1.out.keep hr7 (fun _ _ _ h => h))); (have HK2 := Lib.hid hk7.bytes); clear hr7 hk7)
                | (go_at_call 22; refine (same_any _ _ dv.all dv.all _ HK2.out HK1.out).mono ?_; rintro e r9 ⟨rfl, hdr⟩; rw [sameB_eq rfl]; (have HG := Lib.hid (show LgAt w5 r9 jn g s l la d h false dv (fun _ => False) by obtain ⟨nn, rfl⟩ := hdr; exact HG.out.quiet ((Fr.refl _ _).drewN nn))); clear hdr))
              clear s0 s1 s2 hcw hcb d128 hfit
              refine wp_region_inv 32 (by kernel_rfl) (by kernel_rfl) (fun W => Fr (fun _ => False) r9 W) (RmaR jn gs l m x) (fun _ _ _ _ => True) (Fr (fun _ => False)) (RmaR.ext jn gs l m x) (Fr.refl _ _).drew ?_ ?_
              · intro i hi o ho
                replace hi : i < 32 := hi
                obtain rfl | rfl | rfl | rfl | rfl | rfl | rfl | rfl | rfl | rfl | rfl | rfl | rfl | rfl | rfl | rfl | rfl | rfl | rfl | rfl | rfl | rfl | rfl | rfl | rfl | rfl | rfl | rfl | rfl | rfl | rfl | rfl : i = 0 ∨ i = 1 ∨ i = 2 ∨ i = 3 ∨ i = 4 ∨ i = 5 ∨ i = 6 ∨ i = 7 ∨ i = 8 ∨ i = 9 ∨ i = 10 ∨ i = 11 ∨ i = 12 ∨ i = 13 ∨ i = 14 ∨ i = 15 ∨ i = 16 ∨ i = 17 ∨ i = 18 ∨ i = 19 ∨ i = 20 ∨ i = 21 ∨ i = 22 ∨ i = 23 ∨ i = 24 ∨ i = 25 ∨ i = 26 ∨ i = 27 ∨ i = 28 ∨ i = 29 ∨ i = 30 ∨ i = 31 := by omega
                · simp only [List.getElem?_cons_zero, Option.some.injEq] at ho
                  subst ho
                  intro a W vs hB hS hE hU
                  refine wpG_plain rfl ?_
                  have v16 : a.eval (.tmp 16) = .int .i64 3 := (hU 16 (by kernel_rfl)).trans rfl
                  clear hE hU
                  exact wp_value_inv (w' := W) (.int .i64 3) (op_move rfl v16) ⟨_, rfl, hB, Fr.refl _ _, rfl, fun _ _ _ _ _ => trivial⟩
                · simp only [List.getElem?_cons_zero, List.getElem?_cons_succ, Option.some.injEq] at ho
                  subst ho
                  intro a W vs hB hS hE hU
                  refine wpG_plain rfl ?_
                  obtain ⟨r0, e148⟩ := hE 0 148 (by kernel_rfl) (by kernel_rfl)
                  have v148 : a.eval (.tmp 148) = .int .i64 3 := e148.trans r0
                  clear hE hU
                  exact wp_value_inv (w' := W) (.bool false) (op_bin rfl v148 rfl (guard_int W _ _ _ _ _ _ _) (eql_no (by decide))) ⟨_, rfl, hB, Fr.refl _ _, rfl, fun _ _ _ _ _ => trivial⟩
                · simp only [List.getElem?_cons_zero, List.getElem?_cons_succ, Option.some.injEq] at ho
                  subst ho
                  intro a W vs hB hS hE hU
                  refine wpG_plain rfl ?_
                  obtain ⟨r1, e149⟩ := hE 1 149 (by kernel_rfl) (by kernel_rfl)
                  have v149 : a.eval (.tmp 149) = .bool false := e149.trans r1
                  clear hE hU
                  exact wp_value_inv (w' := W) (.bool false) (op_move rfl v149) ⟨_, rfl, hB, Fr.refl _ _, rfl, fun _ _ _ _ _ => trivial⟩
                · simp only [List.getElem?_cons_zero, List.getElem?_cons_succ, Option.some.injEq] at ho
                  subst ho
                  intro a W vs hB hS hE hU
                  obtain ⟨r2, e150⟩ := hE 2 150 (by kernel_rfl) (by kernel_rfl)
                  have v150 : a.eval (.tmp 150) = .bool false := e150.trans r2
                  exact wpG_no 2 true 150 rfl (by kernel_rfl) (by rw [hS]; first | simp | exact Nat.le_of_ble_eq_true rfl) v150 ⟨_, rfl, hB, Fr.refl _ _, rfl, fun _ _ _ _ _ => trivial⟩
                · simp only [List.getElem?_cons_zero, List.getElem?_cons_succ, Option.some.injEq] at ho
                  subst ho
                  intro a W vs hB hS hE hU
                  obtain ⟨r2, e150⟩ := hE 2 150 (by kernel_rfl) (by kernel_rfl)
                  have v150 : a.eval (.tmp 150) = .bool false := e150.trans r2
                  exact wpG_no 2 true 150 rfl (by kernel_rfl) (by rw [hS]; first | simp | exact Nat.le_of_ble_eq_true rfl) v150 ⟨_, rfl, hB, Fr.refl _ _, rfl, fun _ _ _ _ _ => trivial⟩
                · simp only [List.getElem?_cons_zero, List.getElem?_cons_succ, Option.some.injEq] at ho
                  subst ho
                  intro a W vs hB hS hE hU
                  obtain ⟨r2, e150⟩ := hE 2 150 (by kernel_rfl) (by kernel_rfl)
                  have v150 : a.eval (.tmp 150) = .bool false := e150.trans r2
                  exact wpG_no 2 true 150 rfl (by kernel_rfl) (by rw [hS]; first | simp | exact Nat.le_of_ble_eq_true rfl) v150 ⟨_, rfl, hB, Fr.refl _ _, rfl, fun _ _ _ _ _ => trivial⟩
                · simp only [List.getElem?_cons_zero, List.getElem?_cons_succ, Option.some.injEq] at ho
                  subst ho
                  intro a W vs hB hS hE hU
                  obtain ⟨r2, e150⟩ := hE 2 150 (by kernel_rfl) (by kernel_rfl)
                  have v150 : a.eval (.tmp 150) = .bool false := e150.trans r2
                  exact wpG_no 2 true 150 rfl (by kernel_rfl) (by rw [hS]; first | simp | exact Nat.le_of_ble_eq_true rfl) v150 ⟨_, rfl, hB, Fr.refl _ _, rfl, fun _ _ _ _ _ => trivial⟩
                · simp only [List.getElem?_cons_zero, List.getElem?_cons_succ, Option.some.injEq] at ho
                  subst ho
                  intro a W vs hB hS hE hU
                  obtain ⟨r2, e150⟩ := hE 2 150 (by kernel_rfl) (by kernel_rfl)
                  have v150 : a.eval (.tmp 150) = .bool false := e150.trans r2
                  exact wpG_no 2 true 150 rfl (by kernel_rfl) (by rw [hS]; first | simp | exact Nat.le_of_ble_eq_true rfl) v150 ⟨_, rfl, hB, Fr.refl _ _, rfl, fun _ _ _ _ _ => trivial⟩
                · simp only [List.getElem?_cons_zero, List.getElem?_cons_succ, Option.some.injEq] at ho
                  subst ho
                  intro a W vs hB hS hE hU
                  obtain ⟨r2, e150⟩ := hE 2 150 (by kernel_rfl) (by kernel_rfl)
                  have v150 : a.eval (.tmp 150) = .bool false := e150.trans r2
                  exact wpG_no 2 true 150 rfl (by kernel_rfl) (by rw [hS]; first | simp | exact Nat.le_of_ble_eq_true rfl) v150 ⟨_, rfl, hB, Fr.refl _ _, rfl, fun _ _ _ _ _ => trivial⟩
                · simp only [List.getElem?_cons_zero, List.getElem?_cons_succ, Option.some.injEq] at ho
                  subst ho
                  intro a W vs hB hS hE hU
                  obtain ⟨r8, e156⟩ := hE 8 156 (by kernel_rfl) (by kernel_rfl)
                  have v156 : a.eval (.tmp 156) = undef := e156.trans r8
                  exact wpG_undef 8 false 156 rfl (by kernel_rfl) (by rw [hS]; first | simp | exact Nat.le_of_ble_eq_true rfl) v156 ⟨_, rfl, hB, Fr.refl _ _, rfl, fun _ _ _ _ _ => trivial⟩
                · simp only [List.getElem?_cons_zero, List.getElem?_cons_succ, Option.some.injEq] at ho
                  subst ho
                  intro a W vs hB hS hE hU
                  obtain ⟨r8, e156⟩ := hE 8 156 (by kernel_rfl) (by kernel_rfl)
                  have v156 : a.eval (.tmp 156) = undef := e156.trans r8
                  exact wpG_undef 8 false 156 rfl (by kernel_rfl) (by rw [hS]; first | simp | exact Nat.le_of_ble_eq_true rfl) v156 ⟨_, rfl, hB, Fr.refl _ _, rfl, fun _ _ _ _ _ => trivial⟩
                · simp only [List.getElem?_cons_zero, List.getElem?_cons_succ, Option.some.injEq] at ho
                  subst ho
                  intro a W vs hB hS hE hU
                  obtain ⟨r10, e158⟩ := hE 10 158 (by kernel_rfl) (by kernel_rfl)
                  have v158 : a.eval (.tmp 158) = undef := e158.trans r10
                  exact wpG_undef 10 true 158 rfl (by kernel_rfl) (by rw [hS]; first | simp | exact Nat.le_of_ble_eq_true rfl) v158 ⟨_, rfl, hB, Fr.refl _ _, rfl, fun _ _ _ _ _ => trivial⟩
                · simp only [List.getElem?_cons_zero, List.getElem?_cons_succ, Option.some.injEq] at ho
                  subst ho
                  intro a W vs hB hS hE hU
                  obtain ⟨r10, e158⟩ := hE 10 158 (by kernel_rfl) (by kernel_rfl)
                  have v158 : a.eval (.tmp 158) = undef := e158.trans r10
                  exact wpG_undef 10 true 158 rfl (by kernel_rfl) (by rw [hS]; first | simp | exact Nat.le_of_ble_eq_true rfl) v158 ⟨_, rfl, hB, Fr.refl _ _, rfl, fun _ _ _ _ _ => trivial⟩
                · simp only [List.getElem?_cons_zero, List.getElem?_cons_succ, Option.some.injEq] at ho
                  subst ho
                  intro a W vs hB hS hE hU
                  obtain ⟨r10, e158⟩ := hE 10 158 (by kernel_rfl) (by kernel_rfl)
                  have v158 : a.eval (.tmp 158) = undef := e158.trans r10
                  exact wpG_undef 10 true 158 rfl (by kernel_rfl) (by rw [hS]; first | simp | exact Nat.le_of_ble_eq_true rfl) v158 ⟨_, rfl, hB, Fr.refl _ _, rfl, fun _ _ _ _ _ => trivial⟩
                · simp only [List.getElem?_cons_zero, List.getElem?_cons_succ, Option.some.injEq] at ho
                  subst ho
                  intro a W vs hB hS hE hU
                  obtain ⟨r10, e158⟩ := hE 10 158 (by kernel_rfl) (by kernel_rfl)
                  have v158 : a.eval (.tmp 158) = undef := e158.trans r10
                  exact wpG_undef 10 true 158 rfl (by kernel_rfl) (by rw [hS]; first | simp | exact Nat.le_of_ble_eq_true rfl) v158 ⟨_, rfl, hB, Fr.refl _ _, rfl, fun _ _ _ _ _ => trivial⟩
                · simp only [List.getElem?_cons_zero, List.getElem?_cons_succ, Option.some.injEq] at ho
                  subst ho
                  intro a W vs hB hS hE hU
                  obtain ⟨r10, e158⟩ := hE 10 158 (by kernel_rfl) (by kernel_rfl)
                  have v158 : a.eval (.tmp 158) = undef := e158.trans r10
                  exact wpG_undef 10 true 158 rfl (by kernel_rfl) (by rw [hS]; first | simp | exact Nat.le_of_ble_eq_true rfl) v158 ⟨_, rfl, hB, Fr.refl _ _, rfl, fun _ _ _ _ _ => trivial⟩
                · simp only [List.getElem?_cons_zero, List.getElem?_cons_succ, Option.some.injEq] at ho
                  subst ho
                  intro a W vs hB hS hE hU
                  obtain ⟨r10, e158⟩ := hE 10 158 (by kernel_rfl) (by kernel_rfl)
                  have v158 : a.eval (.tmp 158) = undef := e158.trans r10
                  exact wpG_undef 10 true 158 rfl (by kernel_rfl) (by rw [hS]; first | simp | exact Nat.le_of_ble_eq_true rfl) v158 ⟨_, rfl, hB, Fr.refl _ _, rfl, fun _ _ _ _ _ => trivial⟩
                · simp only [List.getElem?_cons_zero, List.getElem?_cons_succ, Option.some.injEq] at ho
                  subst ho
                  intro a W vs hB hS hE hU
                  obtain ⟨r8, e156⟩ := hE 8 156 (by kernel_rfl) (by kernel_rfl)
                  have v156 : a.eval (.tmp 156) = undef := e156.trans r8
                  exact wpG_undef 8 false 156 rfl (by kernel_rfl) (by rw [hS]; first | simp | exact Nat.le_of_ble_eq_true rfl) v156 ⟨_, rfl, hB, Fr.refl _ _, rfl, fun _ _ _ _ _ => trivial⟩
                · simp only [List.getElem?_cons_zero, List.getElem?_cons_succ, Option.some.injEq] at ho
                  subst ho
                  intro a W vs hB hS hE hU
                  obtain ⟨r2, e150⟩ := hE 2 150 (by kernel_rfl) (by kernel_rfl)
                  have v150 : a.eval (.tmp 150) = .bool false := e150.trans r2
                  exact wpG_no 2 true 150 rfl (by kernel_rfl) (by rw [hS]; first | simp | exact Nat.le_of_ble_eq_true rfl) v150 ⟨_, rfl, hB, Fr.refl _ _, rfl, fun _ _ _ _ _ => trivial⟩
                · simp only [List.getElem?_cons_zero, List.getElem?_cons_succ, Option.some.injEq] at ho
                  subst ho
                  intro a W vs hB hS hE hU
                  obtain ⟨r2, e150⟩ := hE 2 150 (by kernel_rfl) (by kernel_rfl)
                  have v150 : a.eval (.tmp 150) = .bool false := e150.trans r2
                  exact wpG_no 2 true 150 rfl (by kernel_rfl) (by rw [hS]; first | simp | exact Nat.le_of_ble_eq_true rfl) v150 ⟨_, rfl, hB, Fr.refl _ _, rfl, fun _ _ _ _ _ => trivial⟩
                · simp only [List.getElem?_cons_zero, List.getElem?_cons_succ, Option.some.injEq] at ho
                  subst ho
                  intro a W vs hB hS hE hU
                  obtain ⟨r19, e167⟩ := hE 19 167 (by kernel_rfl) (by kernel_rfl)
                  have v167 : a.eval (.tmp 167) = undef := e167.trans r19
                  exact wpG_undef 19 false 167 rfl (by kernel_rfl) (by rw [hS]; first | simp | exact Nat.le_of_ble_eq_true rfl) v167 ⟨_, rfl, hB, Fr.refl _ _, rfl, fun _ _ _ _ _ => trivial⟩
                · simp only [List.getElem?_cons_zero, List.getElem?_cons_succ, Option.some.injEq] at ho
                  subst ho
                  intro a W vs hB hS hE hU
                  obtain ⟨r19, e167⟩ := hE 19 167 (by kernel_rfl) (by kernel_rfl)
                  have v167 : a.eval (.tmp 167) = undef := e167.trans r19
                  exact wpG_undef 19 false 167 rfl (by kernel_rfl) (by rw [hS]; first | simp | exact Nat.le_of_ble_eq_true rfl) v167 ⟨_, rfl, hB, Fr.refl _ _, rfl, fun _ _ _ _ _ => trivial⟩
                · simp only [List.getElem?_cons_zero, List.getElem?_cons_succ, Option.some.injEq] at ho
                  subst ho
                  intro a W vs hB hS hE hU
                  obtain ⟨r19, e167⟩ := hE 19 167 (by kernel_rfl) (by kernel_rfl)
                  have v167 : a.eval (.tmp 167) = undef := e167.trans r19
                  exact wpG_undef 19 false 167 rfl (by kernel_rfl) (by rw [hS]; first | simp | exact Nat.le_of_ble_eq_true rfl) v167 ⟨_, rfl, hB, Fr.refl _ _, rfl, fun _ _ _ _ _ => trivial⟩
                · simp only [List.getElem?_cons_zero, List.getElem?_cons_succ, Option.some.injEq] at ho
                  subst ho
                  intro a W vs hB hS hE hU
                  obtain ⟨r22, e170⟩ := hE 22 170 (by kernel_rfl) (by kernel_rfl)
                  have v170 : a.eval (.tmp 170) = undef := e170.trans r22
                  exact wpG_undef 22 true 170 rfl (by kernel_rfl) (by rw [hS]; first | simp | exact Nat.le_of_ble_eq_true rfl) v170 ⟨_, rfl, hB, Fr.refl _ _, rfl, fun _ _ _ _ _ => trivial⟩
                · simp only [List.getElem?_cons_zero, List.getElem?_cons_succ, Option.some.injEq] at ho
                  subst ho
                  intro a W vs hB hS hE hU
                  obtain ⟨r22, e170⟩ := hE 22 170 (by kernel_rfl) (by kernel_rfl)
                  have v170 : a.eval (.tmp 170) = undef := e170.trans r22
                  exact wpG_undef 22 true 170 rfl (by kernel_rfl) (by rw [hS]; first | simp | exact Nat.le_of_ble_eq_true rfl) v170 ⟨_, rfl, hB, Fr.refl _ _, rfl, fun _ _ _ _ _ => trivial⟩
                · simp only [List.getElem?_cons_zero, List.getElem?_cons_succ, Option.some.injEq] at ho
                  subst ho
                  intro a W vs hB hS hE hU
                  obtain ⟨r22, e170⟩ := hE 22 170 (by kernel_rfl) (by kernel_rfl)
                  have v170 : a.eval (.tmp 170) = undef := e170.trans r22
                  exact wpG_undef 22 true 170 rfl (by kernel_rfl) (by rw [hS]; first | simp | exact Nat.le_of_ble_eq_true rfl) v170 ⟨_, rfl, hB, Fr.refl _ _, rfl, fun _ _ _ _ _ => trivial⟩
                · simp only [List.getElem?_cons_zero, List.getElem?_cons_succ, Option.some.injEq] at ho
                  subst ho
                  intro a W vs hB hS hE hU
                  obtain ⟨r22, e170⟩ := hE 22 170 (by kernel_rfl) (by kernel_rfl)
                  have v170 : a.eval (.tmp 170) = undef := e170.trans r22
                  exact wpG_undef 22 true 170 rfl (by kernel_rfl) (by rw [hS]; first | simp | exact Nat.le_of_ble_eq_true rfl) v170 ⟨_, rfl, hB, Fr.refl _ _, rfl, fun _ _ _ _ _ => trivial⟩
                · simp only [List.getElem?_cons_zero, List.getElem?_cons_succ, Option.some.injEq] at ho
                  subst ho
                  intro a W vs hB hS hE hU
                  obtain ⟨r22, e170⟩ := hE 22 170 (by kernel_rfl) (by kernel_rfl)
                  have v170 : a.eval (.tmp 170) = undef := e170.trans r22
                  exact wpG_undef 22 true 170 rfl (by kernel_rfl) (by rw [hS]; first | simp | exact Nat.le_of_ble_eq_true rfl) v170 ⟨_, rfl, hB, Fr.refl _ _, rfl, fun _ _ _ _ _ => trivial⟩
                · simp only [List.getElem?_cons_zero, List.getElem?_cons_succ, Option.some.injEq] at ho
                  subst ho
                  intro a W vs hB hS hE hU
                  obtain ⟨r22, e170⟩ := hE 22 170 (by kernel_rfl) (by kernel_rfl)
                  have v170 : a.eval (.tmp 170) = undef := e170.trans r22
                  exact wpG_undef 22 true 170 rfl (by kernel_rfl) (by rw [hS]; first | simp | exact Nat.le_of_ble_eq_true rfl) v170 ⟨_, rfl, hB, Fr.refl _ _, rfl, fun _ _ _ _ _ => trivial⟩
                · simp only [List.getElem?_cons_zero, List.getElem?_cons_succ, Option.some.injEq] at ho
                  subst ho
                  intro a W vs hB hS hE hU
                  obtain ⟨r19, e167⟩ := hE 19 167 (by kernel_rfl) (by kernel_rfl)
                  have v167 : a.eval (.tmp 167) = undef := e167.trans r19
                  exact wpG_undef 19 false 167 rfl (by kernel_rfl) (by rw [hS]; first | simp | exact Nat.le_of_ble_eq_true rfl) v167 ⟨_, rfl, hB, Fr.refl _ _, rfl, fun _ _ _ _ _ => trivial⟩
                · simp only [List.getElem?_cons_zero, List.getElem?_cons_succ, Option.some.injEq] at ho
                  subst ho
                  intro a W vs hB hS hE hU
                  obtain ⟨r2, e150⟩ := hE 2 150 (by kernel_rfl) (by kernel_rfl)
                  have v150 : a.eval (.tmp 150) = .bool false := e150.trans r2
                  exact wpG_no 2 true 150 rfl (by kernel_rfl) (by rw [hS]; first | simp | exact Nat.le_of_ble_eq_true rfl) v150 ⟨_, rfl, hB, Fr.refl _ _, rfl, fun _ _ _ _ _ => trivial⟩
                · simp only [List.getElem?_cons_zero, List.getElem?_cons_succ, Option.some.injEq] at ho
                  subst ho
                  intro a W vs hB hS hE hU
                  refine wpG_plain rfl ?_
                  obtain ⟨r2, e150⟩ := hE 2 150 (by kernel_rfl) (by kernel_rfl)
                  have v150 : a.eval (.tmp 150) = .bool false := e150.trans r2
                  clear hE hU
                  exact wp_value_inv (w' := W) (.bool false) (op_pick rfl v150 (by simp only [Bool.false_eq_true, if_false]; rfl)) ⟨_, rfl, hB, Fr.refl _ _, rfl, fun _ _ _ _ _ => trivial⟩
              · intro vs Wb hB0 hR0 hD
                have r179 : vs 31 = .bool false := hR0 31 (by decide)
                have HB9 := Lib.hid hB0
                clear hR0 hD hB0
                simp only [acts, if_true, dstAt, List.getElem?_cons_zero, List.getElem?_cons_succ, Option.bind_some, Act.put, List.setIfInBounds_toArray, List.set_cons_succ, List.set_cons_zero, List.drop_succ_cons, List.drop_nil]
                simp only [r179]
                clear r179
                go_wp2_with fail
                go_roundw
                case rel => exact ⟨i + 1, by omega, by go_num, Lib.hid ⟨_, _, _, _, HG.out.quiet HB9.out, (HO.out.next)⟩⟩
                case measure => simp [intOf]; omega
      · have d1 : decide ((i : Int) < (n : Int)) = false := by rw [decide_eq_false_iff_not]; omega
        obtain ⟨dv, h, B, R, hLg, hLo⟩ := hR.out
        have HE := Lib.hid (H5.out.1.trans hLg.fr (fun _ h => h.elim))
        clear hLg hLo hR
        go_wp2_with fail
        go_ret
        exact ⟨rfl, HE.out⟩
end Go.Proofs.YtabgklcghghoiaaGreat

