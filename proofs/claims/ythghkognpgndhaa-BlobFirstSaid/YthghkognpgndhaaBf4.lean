/- Laid together: BTake BApart BJoin BFree -/
import Derived.Test.YthghkognpgndhaaBf3
import Derived.Test.YthghkognpgndhaaBf0
import Derived.Deep.RegionHeld3
import Derived.Deep.RegionHeldLaw

namespace Go.Proofs.Ythghkognpgndhaa
open Go.RowKit Go.ChangeShapes Go.Maps
set_option linter.unusedVariables false
attribute [local go_sem] Oper.semAt_some
def TakePost (w : World) (d : Nat) (L : List Rn) (e : Ending) (w' : World) : Prop :=
  ((apart7 d L = true ∧ ∃ mb, e = .returned (.tuple #[.map (some mb), .bool true]) ∧ TkAt w' mb (secs7 L) ∧ w.heap.size ≤ mb) ∨ (apart7 d L = false ∧ e = .returned (.tuple #[.map none, .bool false]))) ∧ Fr (fun _ => False) w w'
structure TkSt (w W : World) (z b2 b4 b5 mb b6 : Nat) (l la d : Nat) (F : Nat → Prop) (v : Value) (L : List Rn) (S : List Nat) (ks : List Nat) (Ds : List Deferred) : Prop where
  shape : W.heap[b2]? = some (.cells #[.int .i64 l, .int .i64 la, .int .i64 d] 23 (0, 0))
  r4 : ∃ x, W.heap[b4]? = some (.cells #[x] 76 (0, 0))
  r5 : ∃ x, W.heap[b5]? = some (.cells #[x] 4 (0, 0))
  r6 : W.heap[b6]? = some (.cells #[.map (some mb)] 76 (0, 0))
  tk : TkAt W mb S
  runs : RnsIn F W v L
  marks : MarksOk z Ds ks W
  fr : Fr (fun _ => False) w W
theorem TkSt.grown {w W W' : World} {z b2 b4 b5 mb b6 : Nat} {l la d : Nat} {F : Nat → Prop} {v : Value} {L : List Rn} {S : List Nat} {ks : List Nat} {Ds : List Deferred} {B : Nat} {row : Option Nat} (h : TkSt w W z b2 b4 b5 mb b6 l la d F v L S ks Ds) (hb : b2 < B ∧ b4 < B ∧ b5 < B ∧ mb < B ∧ b6 < B ∧ w.heap.size ≤ B) (hF : ∀ k, F k → k < B) (hks : ∀ k ∈ ks, k < B)
    (hg : W.grownBy W' row) (hr : ∀ r, row = some r → B ≤ r ∧ ∃ o : Obj, W.heap[r]? = some o ∧ o.isCells = false) : TkSt w W' z b2 b4 b5 mb b6 l la d F v L S ks Ds := by
  have hf : Fr (fun k => row = some k) W W' := (Fr.refl _ W).grown hg (fun k hk => .inl hk)
  have hn : ∀ k, k < B → ¬ row = some k := fun k hk e => by have := (hr k e).1; omega
  obtain ⟨x4, h4⟩ := h.r4
  obtain ⟨x5, h5⟩ := h.r5
  exact ⟨hf.heap h.shape (hn _ hb.1), ⟨x4, hf.heap h4 (hn _ hb.2.1)⟩, ⟨x5, hf.heap h5 (hn _ hb.2.2.1)⟩, hf.heap h.r6 (hn _ hb.2.2.2.2.1), h.tk.keep hf (hn _ hb.2.2.2.1), h.runs.keep hf (fun k _ hk => hn k (hF k hk)), h.marks.grown hks hg hr, h.fr.trans hf (fun k hk => .inr (by have := (hr k hk).1; omega))⟩
theorem TkSt.quiet {w W W' : World} {z b2 b4 b5 mb b6 : Nat} {l la d : Nat} {F : Nat → Prop} {v : Value} {L : List Rn} {S : List Nat} {ks : List Nat} {Ds : List Deferred} (h : TkSt w W z b2 b4 b5 mb b6 l la d F v L S ks Ds) (hf : Fr (fun _ => False) W W') : TkSt w W' z b2 b4 b5 mb b6 l la d F v L S ks Ds := by
  obtain ⟨x4, h4⟩ := h.r4
  obtain ⟨x5, h5⟩ := h.r5
  exact ⟨hf.heap h.shape id, ⟨x4, hf.heap h4 id⟩, ⟨x5, hf.heap h5 id⟩, hf.heap h.r6 id, h.tk.keep hf id, h.runs.quiet hf, h.marks.quiet hf, h.fr.trans hf (fun _ h => h.elim)⟩
def TkNo (w W : World) (z b4 b5 : Nat) (ks : List Nat) (Ds : List Deferred) (x y : Value) : Prop :=
  W.heap[b4]? = some (.cells #[x] 76 (0, 0)) ∧ W.heap[b5]? = some (.cells #[y] 4 (0, 0)) ∧ MarksOk z Ds ks W ∧ Fr (fun _ => False) w W
theorem TkSt.no {w W : World} {z b2 b4 b5 mb b6 : Nat} {l la d : Nat} {F : Nat → Prop} {v : Value} {L : List Rn} {S : List Nat} {ks : List Nat} {Ds : List Deferred} (h : TkSt w W z b2 b4 b5 mb b6 l la d F v L S ks Ds) (h1 : w.heap.size ≤ b4) (h2 : w.heap.size ≤ b5) (hne : b4 ≠ b5) (x y : Value) :
    TkNo w ((W.setCell ⟨b4, 0, none⟩ x).setCell ⟨b5, 0, none⟩ y) z b4 b5 ks Ds x y := by
  obtain ⟨x4, h4⟩ := h.r4
  obtain ⟨x5, h5⟩ := h.r5
  have hf1 := Fr.cell1 W b4 0 x
  have hf2 := Fr.cell1 (W.setCell ⟨b4, 0, none⟩ x) b5 0 y
  have g4 := one_put h4 x
  have h5' := one_put2 h4 h5 hne x
  have g5 := one_put h5' y
  refine ⟨hf2.heap g4 hne, g5, (h.marks.keep hf1 (fun k ds hk e => ?_)).keep hf2 (fun k ds hk e => ?_), (h.fr.trans hf1 (fun k e => .inr (by rw [show k = b4 from e]; exact h1))).trans hf2 (fun k e => .inr (by rw [show k = b5 from e]; exact h2))⟩
  · rw [show k = b4 from e, h4] at hk; cases hk
  · rw [show k = b5 from e, h5'] at hk; cases hk
theorem TkNo.leave {w W : World} {z b4 b5 : Nat} {ks : List Nat} {Ds : List Deferred} {x y : Value} (h : TkNo w W z b4 b5 ks Ds x y) {n : Nat} {tmps : Array Value} {R : Ending → World → Prop} (hp : tmps.getD 4 undef = .pointer (some ⟨b4, 0, none⟩)) (hq : tmps.getD 5 undef = .pointer (some ⟨b5, 0, none⟩)) (hz : w.heap.size ≤ z)
    (hR : ∀ W', Fr (MarkB z W) W W' → Fr (fun _ => False) w W' → R (.returned (.tuple #[x, y])) W') : LeavesInM Fence.wide n Try.prog Try.f40 tmps R Ds .returning W :=
  leaves_marks (by simp) z ks Ds W h.2.2.1 (fun W' hW => ⟨_, results_cells2 rfl _ _ b4 b5 _ _ (by kernel_rfl) (by kernel_rfl) hp hq
    (cell_of_one (hW.heap h.1 (fun ⟨_, ds, hd⟩ => by rw [h.1] at hd; cases hd))) (cell_of_one (hW.heap h.2.1 (fun ⟨_, ds, hd⟩ => by rw [h.2.1] at hd; cases hd))), hR W' hW (h.2.2.2.trans hW (fun k hk => .inr (Nat.le_trans hz hk.1)))⟩)
theorem TkSt.out {w W W' : World} {z b2 b4 b5 mb b6 : Nat} {l la d : Nat} {F : Nat → Prop} {v : Value} {L : List Rn} {S : List Nat} {ks : List Nat} {Ds : List Deferred} (h : TkSt w W z b2 b4 b5 mb b6 l la d F v L S ks Ds) (h4 : mb ≠ b4) (h5 : mb ≠ b5) (x y : Value) (hW : Fr (MarkB z ((W.setCell ⟨b4, 0, none⟩ x).setCell ⟨b5, 0, none⟩ y)) ((W.setCell ⟨b4, 0, none⟩ x).setCell ⟨b5, 0, none⟩ y) W') : TkAt W' mb S := by
  have h1 := (h.tk.keep (Fr.cell1 W b4 0 x) h4).keep (Fr.cell1 (W.setCell ⟨b4, 0, none⟩ x) b5 0 y) h5
  refine h1.keep hW (fun ⟨_, ds, hd⟩ => ?_)
  obtain ⟨D, ⟨es, c, ho, _⟩, _⟩ := h1
  rw [ho] at hd
  cases hd
theorem TkNo.grown {w W W' : World} {z b4 b5 : Nat} {ks : List Nat} {Ds : List Deferred} {x y : Value} {B : Nat} {row : Option Nat} (h : TkNo w W z b4 b5 ks Ds x y) (hb : b4 < B ∧ b5 < B ∧ w.heap.size ≤ B) (hks : ∀ k ∈ ks, k < B) (hg : W.grownBy W' row) (hr : ∀ r, row = some r → B ≤ r ∧ ∃ o : Obj, W.heap[r]? = some o ∧ o.isCells = false) : TkNo w W' z b4 b5 ks Ds x y := by
  have hf : Fr (fun k => row = some k) W W' := (Fr.refl _ W).grown hg (fun k hk => .inl hk)
  have hn : ∀ k, k < B → ¬ row = some k := fun k hk e => by have := (hr k e).1; omega
  exact ⟨hf.heap h.1 (hn _ hb.1), hf.heap h.2.1 (hn _ hb.2.1), h.2.2.1.grown hks hg hr, h.2.2.2.trans hf (fun k hk => .inr (by have := (hr k hk).1; omega))⟩
theorem TkNo.mark {w W : World} {z b4 b5 : Nat} {ks : List Nat} {Ds : List Deferred} {x y : Value} {D : Nat} (h : TkNo w W z b4 b5 ks Ds x y) (hz : z ≤ D) (hD : W.heap[D]? = some (.deferred (some []))) (hn : D ∉ ks) : TkNo w W z b4 b5 (D :: ks) ({ target := .collected D, args := #[] } :: Ds) x y :=
  ⟨h.1, h.2.1, h.2.2.1.cons hz hD hn, h.2.2.2⟩
theorem TkSt.mark {w W : World} {z b2 b4 b5 mb b6 : Nat} {l la d : Nat} {F : Nat → Prop} {v : Value} {L : List Rn} {S : List Nat} {ks : List Nat} {Ds : List Deferred} {D : Nat} (h : TkSt w W z b2 b4 b5 mb b6 l la d F v L S ks Ds) (hz : z ≤ D) (hD : W.heap[D]? = some (.deferred (some []))) (hn : D ∉ ks) : TkSt w W z b2 b4 b5 mb b6 l la d F v L S (D :: ks) ({ target := .collected D, args := #[] } :: Ds) :=
  ⟨h.shape, h.r4, h.r5, h.r6, h.tk, h.runs, h.marks.cons hz hD hn, h.fr⟩
theorem TkSt.hold {w W W' : World} {z b2 b4 b5 mb b6 : Nat} {l la d : Nat} {F : Nat → Prop} {v : Value} {L : List Rn} {S : List Nat} {ks : List Nat} {Ds : List Deferred} {x : Nat} (h : TkSt w W z b2 b4 b5 mb b6 l la d F v L S ks Ds) (hT : TkAt W' mb (S ++ [x])) (hf : Fr (fun k => k = mb) W W') (hb : b2 ≠ mb ∧ b4 ≠ mb ∧ b5 ≠ mb ∧ b6 ≠ mb ∧ w.heap.size ≤ mb) (hF : ∀ k, F k → k < w.heap.size) : TkSt w W' z b2 b4 b5 mb b6 l la d F v L (S ++ [x]) ks Ds := by
  obtain ⟨x4, h4⟩ := h.r4
  obtain ⟨x5, h5⟩ := h.r5
  refine ⟨hf.heap h.shape hb.1, ⟨x4, hf.heap h4 hb.2.1⟩, ⟨x5, hf.heap h5 hb.2.2.1⟩, hf.heap h.r6 hb.2.2.2.1, hT, h.runs.keep hf (fun k _ hk e => by have := hF k hk; have : k = mb := e; omega), h.marks.keep hf (fun k ds hk e => ?_), h.fr.trans hf (fun k e => .inr (by rw [show k = mb from e]; exact hb.2.2.2.2))⟩
  obtain ⟨D, ⟨es, c, ho, _⟩, _⟩ := h.tk
  rw [show k = mb from e, ho] at hk
  cases hk
theorem Kp7.refl (T : Nat → Prop) (W : World) : Kp7 T W W := ⟨Fr.refl _ _, fun _ _ => rfl⟩
theorem RnsIn.ofBlock {w : World} {b : Nat} {T : TypeId} {a m : Int} (h : w.heap[b]? = some (.cells #[.int .i64 a, .int .i64 m] T (0, 0))) (ha : -9223372036854775808 ≤ a ∧ a ≤ 9223372036854775807) (hm : -9223372036854775808 ≤ m ∧ m ≤ 9223372036854775807) : RnsIn (fun j => j = b) w (.slice (some ⟨b, 0, none⟩) 1 1) [(a, m)] :=
  ⟨Elems.ofBlock (c := rnC (a, m)) h rfl, fun r hr => by rw [List.mem_singleton.1 hr]; exact ⟨ha.1, ha.2, hm.1, hm.2⟩⟩
theorem heap3_new (w : World) (A B C : Obj) : (((w.alloc A).alloc B).alloc C).heap[w.heap.size]? = some A ∧ (((w.alloc A).alloc B).alloc C).heap[w.heap.size + 1]? = some B ∧ (((w.alloc A).alloc B).alloc C).heap[w.heap.size + 1 + 1]? = some C := by
  refine ⟨(((Fr.refl (fun _ => False) _).alloc _).alloc _).heap (heap_alloc_new w _) id, ((Fr.refl (fun _ => False) _).alloc _).heap (heap_alloc2_new w _ _) id, ?_⟩
  have := heap_alloc2_new (w.alloc A) B C
  simpa using this
set_option maxRecDepth 100000 in
set_option maxHeartbeats 4000000 in
theorem take_in {F : Nat → Prop} (w : World) (l la d s : Nat) (v : Value) (L : List Rn) (hsh : ShOk l la d s) (hL : RnsIn F w v L) (hF : ∀ k, F k → k < w.heap.size) :
    CallsIn Fence.wide 3 Try.prog 40 #[.agg #[.int .i64 l, .int .i64 la, .int .i64 d], v] w (TakePost w d L) := by
  refine callsIn_of_wp_marks Try.func40 rfl trivial ?_ rfl
  simp only [Try.ntmps40, List.size_toArray, List.length_cons, List.length_nil, Nat.reduceAdd, Nat.reduceSub, Array.replicate_succ, Array.replicate_zero, List.push_toArray, List.append_toArray, List.nil_append, List.cons_append]
  obtain ⟨ao, cap, rfl, hc1, hc2, b, off, hao, hcells⟩ := hL.open7
  have hmk := run_makeMap (P := Try.prog)
  have HR := Lib.hid (fun W => WideF.out.calls (n := 2) (hsh.right W))
  have hd : d ≤ 8192 := by have := hsh.sum; have := hsh.most; omega
  obtain ⟨n, hnn⟩ : ∃ n, n = L.length := ⟨_, rfl⟩
  rw [← hnn] at hc1 hao hL ⊢
  have HN := Lib.hid (And.intro hnn (And.intro hL (And.intro hF hsh)))
  have HAO := Lib.hid hao
  have HCE := Lib.hid hcells
  clear hnn hL hF hsh hao hcells
  gi_wp2_with (refine ⟨trivial, ?_⟩; gi_at_call 35; refine (HR.out _).mono ?_; rintro e w2 ⟨rfl, hf2⟩)
  clear hmk
  obtain ⟨k2, k4, k5⟩ := heap3_new w (.cells #[.int .i64 l, .int .i64 la, .int .i64 d] 23) (.cells #[.map none] 76) (.cells #[.bool false] 4)
  have hfa : Fr (fun _ => False) w w2 := ((((Fr.refl (fun _ => False) w).alloc _).alloc _).alloc _).trans hf2 (fun _ h => h.elim)
  have hz2 : w.heap.size + 3 ≤ w2.heap.size := by have := hf2.size; simpa using this
  obtain ⟨b2, hb2⟩ : ∃ b2, b2 = w.heap.size := ⟨_, rfl⟩
  obtain ⟨b4, hb4⟩ : ∃ b4, b4 = w.heap.size + 1 := ⟨_, rfl⟩
  obtain ⟨b5, hb5⟩ : ∃ b5, b5 = w.heap.size + 1 + 1 := ⟨_, rfl⟩
  obtain ⟨mb, hmb⟩ : ∃ mb, mb = w2.heap.size := ⟨_, rfl⟩
  obtain ⟨b6, hb6⟩ : ∃ b6, b6 = w2.heap.size + 1 := ⟨_, rfl⟩
  obtain ⟨W3, hW3⟩ : ∃ W3, W3 = (w2.alloc (.map #[] 0)).alloc (.cells #[.map (some w2.heap.size)] 76) := ⟨_, rfl⟩
  have hf3 : Fr (fun _ => False) w2 W3 := by rw [hW3]; exact ((Fr.refl _ _).alloc _).alloc _
  have hst0 : TkSt w W3 w.heap.size b2 b4 b5 mb b6 l la d F (.slice ao n cap) L (secs7 (L.take 0)) [] [] := by
    refine ⟨hf3.heap (hf2.heap (by rw [hb2]; exact k2) id) id, ⟨_, hf3.heap (hf2.heap (by rw [hb4]; exact k4) id) id⟩, ⟨_, hf3.heap (hf2.heap (by rw [hb5]; exact k5) id) id⟩, ?_, ?_, (HN.out.2.1.quiet hfa).quiet hf3, MarksOk.nil _ _, hfa.trans hf3 (fun _ h => h.elim)⟩
    · rw [hW3, hb6, hmb]; exact heap_alloc2_new w2 _ _
    · rw [hW3, hmb]
      exact (TkAt.made w2).keep ((Fr.refl (fun _ => False) _).alloc _) id
  have HB := Lib.hid (show (b2 = w.heap.size ∧ b4 = w.heap.size + 1 ∧ b5 = w.heap.size + 2) ∧ w.heap.size + 3 ≤ mb ∧ b6 = mb + 1 ∧ b6 < W3.heap.size from ⟨⟨hb2, hb4, by omega⟩, by omega, by omega, by rw [hW3, hb6]; simp⟩)
  rw [← hb5, ← hb4, ← hb2, ← hb6, ← hmb]
  rw [← hmb] at hW3
  rw [← hW3]
  clear k2 k4 k5 hfa hz2 hb2 hb4 hb5 hmb hb6 hW3 hf3 hf2
  refine wpIn_loop (fun a' W => ∃ (i : Nat) (ks : List Nat) (Ds : List Deferred) (u8 u17 u18 u19 u20 u21 u22 u23 u24 u25 u26 u32 : Value), i ≤ n ∧ Hid (TkSt w W w.heap.size b2 b4 b5 mb b6 l la d F (.slice ao n cap) L (secs7 (L.take i)) ks Ds ∧ apart7 d (L.take i) = true ∧ W3.heap.size ≤ W.heap.size) ∧
    a' = ⟨#[.agg #[.int .i64 l, .int .i64 la, .int .i64 d], .slice ao n cap, .pointer (some ⟨b2, 0, none⟩), undef, .pointer (some ⟨b4, 0, none⟩), .pointer (some ⟨b5, 0, none⟩), .pointer (some ⟨b6, 0, none⟩), undef, u8, undef, .agg #[.int .i64 l, .int .i64 la, .int .i64 d], .bool true, .bool false, .map (some mb), .slice ao n cap, .int .i64 n, .int .i64 i, u17, u18, u19, u20, u21, u22, u23, u24, u25, u26, undef, undef, undef, undef, undef, u32, undef], Ds⟩) (fun a' _ => n - (intOf (a'.tmps.getD 16 undef)).toNat) ?start ?round
  case start => exact ⟨0, [], [], undef, undef, undef, undef, undef, undef, undef, undef, undef, undef, undef, undef, by omega, Lib.hid ⟨hst0, apart7_nil d, Nat.le_refl _⟩, rfl⟩
  case round =>
    clear hst0
    rintro a' W ⟨i, ks, Ds, u8, u17, u18, u19, u20, u21, u22, u23, u24, u25, u26, u32, hi, hH, rfl⟩
    by_cases hlt : i < n
    · have hiL : i < L.length := by have := HN.out.1; omega
      obtain ⟨rfl, hFb⟩ := HAO.out (by omega)
      have hce := HCE.out i hiL
      have f0 := hH.out.1.fr.cell hce.1 id
      have f1 := hH.out.1.fr.cell hce.2 id
      have hbd := HN.out.2.1.2 _ (List.getElem_mem hiL)
      obtain ⟨x, hx⟩ : ∃ x, x = L[i].1 := ⟨_, rfl⟩
      obtain ⟨y, hy⟩ : ∃ y, y = L[i].2 := ⟨_, rfl⟩
      rw [← hx] at f0 hbd
      rw [← hy] at f1 hbd
      have hxy : L[i] = (x, y) := by rw [hx, hy]
      obtain ⟨d1, d2, d3, d4⟩ := hbd
      obtain ⟨bo, hbo⟩ : ∃ bo, rnOk d (x, y) = bo := ⟨_, rfl⟩
      have hrun := fun W => WideF.out.calls (n := 2) (isRun_any W l la d x y hd d1 d2 d3 d4)
      rw [hbo] at hrun
      have HRUN := Lib.hid hrun
      have hg := fun o : Obj => row3_cells (((Fr.refl (fun _ => False) W).alloc o).heap hH.out.1.shape id)
      have g0 := fun o => (hg o).1
      have g1 := fun o => (hg o).2.1
      have g2 := fun o => (hg o).2.2
      clear hg
      have hlt64 : (i : Int) < (n : Int) := by omega
      have hne : b4 ≠ b5 := by have := HB.out.1; omega
      clear hrun hce hx hy
      cases bo with
      | false =>
        have HNO := Lib.hid (show apart7 d L = false by
          cases hap : apart7 d L with
          | false => rfl
          | true => rw [apart7_iff] at hap; have := hap.1 _ (List.getElem_mem hiL); rw [hxy, hbo] at this; cases this)
        have HNE := Lib.hid hne
        clear hbo hxy hne
        gi_wp2_with (refine ⟨trivial, ?_⟩; gi_at_call 66; refine (HRUN.out _).mono ?_; rintro e w5 ⟨rfl, hf5⟩; (have hst5 := (hH.out.1.quiet ((Fr.refl (fun _ => False) W).alloc _)).quiet hf5); (obtain ⟨x4, h4⟩ := hst5.r4); (obtain ⟨x5, h5⟩ := hst5.r5); (obtain ⟨e4, q4⟩ := one_cell h4); (obtain ⟨e5, q5⟩ := one_cell (one_put2 h4 h5 HNE.out (.map none))); (have H5 := Lib.hid hst5); clear hst5 h4 h5 hf5)
        have hT := H5.out.no (by have := HB.out.1; omega) (by have := HB.out.1; omega) HNE.out (.map none) (.bool false)
        exact hT.leave rfl rfl (Nat.le_refl _) (fun W' hW hf => ⟨.inr ⟨HNO.out, rfl⟩, hf⟩)
      | true =>
        obtain ⟨a, m, hxy2, hm1, ham⟩ := rnOk_nat hbo
        simp only [Prod.mk.injEq] at hxy2
        obtain ⟨rfl, rfl⟩ := hxy2
        have HNE := Lib.hid hne
        have HXY := Lib.hid hxy
        have HOK := Lib.hid hbo
        clear hbo hxy hne
        gi_wp2_with (first
          | (refine ⟨trivial, ?_⟩; gi_at_call 66; refine (HRUN.out _).mono ?_; rintro e w5 ⟨rfl, hf5⟩; (obtain ⟨q0, q1⟩ : w5.cell? ⟨W.heap.size, 0, none⟩ = some (.int .i64 (a : Int)) ∧ w5.cell? ⟨W.heap.size, 1, none⟩ = some (.int .i64 (m : Int)) := ⟨hf5.cell (cell_of_row _ _ _ _ _ _ (heap_alloc_new W _)) id, hf5.cell (cell_of_row _ _ _ _ _ _ (heap_alloc_new W _)) id⟩); (have H5 := Lib.hid ((hH.out.1.quiet ((Fr.refl (fun _ => False) W).alloc _)).quiet hf5)); (have HZ5 := Lib.hid (show W.heap.size + 1 ≤ w5.heap.size by have := hf5.size; simpa using this)); clear hf5)
          | (refine ⟨trivial, ?_⟩; gi_at_call 50; refine (WideF.out.calls (n := 2) (sectors_any _ _ _ _)).mono ?_; rintro e w6 ⟨rfl, rfl⟩))
        obtain ⟨sb, hsb⟩ : ∃ sb, sb = w5.heap.size := ⟨_, rfl⟩
        obtain ⟨W7, hW7⟩ : ∃ W7, W7 = (w5.alloc (.cells #[.int .i64 (a : Int), .int .i64 (m : Int)] 68)).alloc (.cells #[.slice (some ⟨w5.heap.size, 0, none⟩) 1 1] 24) := ⟨_, rfl⟩
        rw [← hsb] at hW7 ⊢
        rw [← hW7]
        have hf7 : Fr (fun _ => False) w5 W7 := by rw [hW7]; exact ((Fr.refl _ _).alloc _).alloc _
        have hz7 : W7.heap.size = sb + 2 := by rw [hW7, hsb]; simp
        have hr7 : W7.heap[sb]? = some (.cells #[.int .i64 (a : Int), .int .i64 (m : Int)] 68 (0, 0)) := by rw [hW7, hsb]; exact ((Fr.refl (fun _ => False) _).alloc _).heap (heap_alloc_new w5 _) id
        have hx7 : W7.heap[sb + 1]? = some (.cells #[.slice (some ⟨sb, 0, none⟩) 1 1] 24 (0, 0)) := by rw [hW7, hsb]; exact heap_alloc2_new w5 _ _
        have hst7 := H5.out.quiet hf7
        have hWz : W.heap.size + 1 ≤ sb := by rw [hsb]; exact HZ5.out
        have hB := HB.out
        have hW3z := hH.out.2.2
        have hks : ∀ k ∈ ks, k < W.heap.size := fun k hk => hH.out.1.marks.lt hk
        have hbl : b2 < W7.heap.size ∧ b4 < W7.heap.size ∧ b5 < W7.heap.size ∧ mb < W7.heap.size ∧ b6 < W7.heap.size ∧ w.heap.size ≤ W7.heap.size := by omega
        have hFz : ∀ k, F k → k < W7.heap.size := fun k hk => by have := HN.out.2.2.1 k hk; omega
        have hks7 : ∀ k ∈ ks, k < W7.heap.size := fun k hk => by have := hks k hk; omega
        have hok1 : ∀ r ∈ [(((a : Nat) : Int), ((m : Nat) : Int))], rnOk d r = true := fun r hr => by rw [List.mem_singleton.1 hr]; exact HOK.out
        have hIt : ItS (fun j => j = sb) (sb + 1) (.slice (some ⟨sb, 0, none⟩) 1 1) [((a : Int), (m : Int))] W7 := ⟨cell_of_one hx7, RnsIn.ofBlock hr7 ⟨d1, d2⟩ ⟨d3, d4⟩⟩
        obtain ⟨T, hT⟩ : ∃ T : Nat → Prop, T = fun b => b = mb ∨ W7.heap.size ≤ b := ⟨_, rfl⟩
        have hT0 : ∀ k, W7.heap.size ≤ k → T k := fun k hk => by rw [hT]; exact .inr hk
        have hTn : ∀ k, k ≠ mb → k < W7.heap.size → ¬ T k := fun k h1 h2 h3 => by rw [hT] at h3; rcases h3 with h3 | h3 <;> omega
        have hKb : ∀ (W : World) (l : Nat) (o o' : Obj), W7.heap.size ≤ l → W.heap[l]? = some o → o.isCells = false → o.isWalk = false → Kp7 T W (W.putObj l o') := fun W l o o' hl ho hc _ =>
          Kp7.of (S := (· = l)) (fr_putObj W l o' rfl) (fun k _ (e : k = l) => by rw [e]; exact hT0 l hl) (fun k hk (e : k = l) => by
            obtain ⟨cs, fr, h1⟩ := hk
            rw [e, ho] at h1
            cases h1
            cases hc)
        obtain ⟨S, hS⟩ : ∃ S, S = secs7 (L.take i) := ⟨_, rfl⟩
        have hSn : S.Nodup := by rw [hS]; exact (apart7_iff.1 hH.out.2.1).2
        have hS1 : secs7 (L.take (i + 1)) = S ++ secs7 [((a : Int), (m : Int))] := by rw [List.take_succ_eq_append_getElem hiL, secs7_append, hS, HXY.out]
        rw [← hS] at hst7
        have HST := Lib.hid hst7
        have HV := Lib.hid (And.intro hbl (And.intro hFz (And.intro hks7 (And.intro hS1 (And.intro hSn (And.intro hT (And.intro hT0 (And.intro hTn (And.intro hks hWz)))))))))
        clear hst7 hbl hB hks hS1 hS hT hr7 hx7 hf7 hW7 hsb q0 q1 f0 f1 g0 g1 g2
        refine wpIn_rangeFunc_ownH rfl (by decide) (gf := 72) (lb := #[.pointer (some ⟨sb + 1, 0, none⟩)]) rfl trivial (enters_of Try.func72 (by kernel_rfl) rfl)
          (sectors_stops (T := T) (F := fun j => j = sb) (d := d) 2 (sb + 1) (.slice (some ⟨sb, 0, none⟩) 1 1) [((a : Int), (m : Int))] hok1 hd (hTn _ (by have := HV.out.1; have := HB.out; omega) (by omega)) (fun k hk => hTn k (by have := HB.out; have : k = sb := hk; omega) (by have : k = sb := hk; omega)) W7 (fun k hk => by have : k = sb := hk; omega) hIt)
          (fun h k => h.trans k) hKb (Below.refl _ _) (fun _ => rfl)
          (fun (pre : List (Sc d)) W' => TkSt w W' w.heap.size b2 b4 b5 mb b6 l la d F (.slice (some ⟨b, off, none⟩) n cap) L (S ++ pre.map (·.1)) ks Ds ∧ (S ++ pre.map (·.1)).Nodup ∧ Fr T W7 W')
          (fun c (pre : List (Sc d)) W' => c = .ret ∧ TkNo w W' w.heap.size b4 b5 ks Ds (.map none) (.bool false) ∧ ¬ (S ++ pre.map (·.1)).Nodup)
          (fun pre A B row hs hg hr => ⟨hs.1.grown HV.out.1 HV.out.2.1 HV.out.2.2.1 hg hr, hs.2.1, hs.2.2.trans (S := T) ((Fr.refl (fun k => row = some k) A).grown hg (fun k hk => .inl hk)) (fun k hk => .inl (hT0 k (hr k hk).1))⟩)
          (fun c pre A B row hs hg hr => ⟨hs.1, hs.2.1.grown ⟨HV.out.1.2.1, HV.out.1.2.2.1, HV.out.1.2.2.2.2.2⟩ HV.out.2.2.1 hg hr, hs.2.2⟩)
          ⟨by simpa using HST.out, by simpa using hSn, Fr.refl _ _⟩
          (fun x a' W' => a' = ⟨#[.agg #[.int .i64 l, .int .i64 la, .int .i64 d], .slice (some ⟨b, off, none⟩) n cap, .pointer (some ⟨b2, 0, none⟩), undef, .pointer (some ⟨b4, 0, none⟩), .pointer (some ⟨b5, 0, none⟩), .pointer (some ⟨b6, 0, none⟩), undef, .pointer (some ⟨W.heap.size, 0, none⟩), .int .i64 (x.1 : Nat), .agg #[.int .i64 l, .int .i64 la, .int .i64 d], .bool true, .bool false, .map (some mb), .slice (some ⟨b, off, none⟩) n cap, .int .i64 n, .int .i64 i, .bool true,
            .pointer (some ⟨b, off + i * 2, none⟩), .agg #[.int .i64 a, .int .i64 m], .agg #[.int .i64 l, .int .i64 la, .int .i64 d], .agg #[.int .i64 a, .int .i64 m], .bool true, .bool false, .agg #[.int .i64 a, .int .i64 m], .slice (some ⟨sb, 0, none⟩) 1 1, .func (.func 72) #[] #[.pointer (some ⟨sb + 1, 0, none⟩)], .int .i64 (x.1 : Nat), undef, undef, undef, undef, u32, undef], []⟩)
          (fun x a' s A B row hs hg hr => hs) ?assign ?body ?done ?stop
        case assign =>
          rintro l9 pre x W' K hI hK
          simp only [enc7]
          gi_wp2
          exact hK _ _ (KeepsFrom.refl _ _) (Kp7.refl _ _) hI rfl
        case body =>
          rintro l9 pre x a' W' hll hr9 ⟨h1, h2, h3⟩ rfl hlt9
          have e6 : W'.cell? ⟨b6, 0, none⟩ = some (.map (some mb)) := cell_of_one h1.r6
          have hx8 : x.1 ≤ 8192 := by have := x.2; omega
          by_cases hxm : x.1 ∈ S ++ pre.map (·.1)
          · have HC := Lib.hid ((WideF.round l9).calls (n := 0) (hold_no W' mb x.1 _ h1.tk hx8 hxm))
            obtain ⟨x4, h4⟩ := h1.r4
            obtain ⟨x5, h5⟩ := h1.r5
            obtain ⟨e4, q4⟩ := one_cell h4
            obtain ⟨e5, q5⟩ := one_cell (one_put2 h4 h5 HNE.out (.map none))
            have HI := Lib.hid (And.intro (h1.no (by have := HB.out.1; omega) (by have := HB.out.1; omega) HNE.out (.map none) (.bool false)) hxm)
            clear h4 h5 h1 h2 h3 hxm
            gi_wp2_with (refine ⟨trivial, ?_⟩; gi_at_call 67; refine HC.out.mono ?_; rintro e w8 ⟨rfl, rfl⟩)
            refine ⟨(keepsFrom_fr (Fr.cell1 _ b4 0 _) (fun k e => by rw [show k = b4 from e]; exact HV.out.1.2.1)).trans (keepsFrom_fr (Fr.cell1 _ b5 0 _) (fun k e => by rw [show k = b5 from e]; exact HV.out.1.2.2.1)), rfl, HI.out.1, fun hnd => ?_⟩
            rw [List.map_append, ← List.append_assoc, List.nodup_append] at hnd
            exact hnd.2.2 _ HI.out.2 _ (by simp) rfl
          · have hSl : (S ++ pre.map (·.1)).length < 1000000 := by
              have h9 := nodup_bound d _ h2 (fun y hy => by
                rcases List.mem_append.1 hy with hy | hy
                · have := hH.out.2.1
                  rw [apart7_iff] at this
                  have hS9 : S = secs7 (L.take i) := by
                    have h8 := HV.out.2.2.2.1
                    rw [List.take_succ_eq_append_getElem hiL, secs7_append, HXY.out] at h8
                    exact (List.append_cancel_right h8).symm
                  rw [hS9] at hy
                  exact secs7_lt this.1 hy
                · obtain ⟨z, _, rfl⟩ := List.mem_map.1 hy
                  exact z.2)
              omega
            have HC := Lib.hid ((WideF.round l9).calls (n := 0) (hold_yes W' mb x.1 _ h1.tk hx8 hxm hSl))
            have HI := Lib.hid (And.intro h1 (And.intro h2 (And.intro h3 hxm)))
            clear h1 h2 h3 hxm hSl
            gi_wp2_with (refine ⟨trivial, ?_⟩; gi_at_call 67; refine HC.out.mono ?_; rintro e w8 ⟨rfl, ht8, hf8⟩; (have H8 := Lib.hid (And.intro ht8 hf8)); clear ht8 hf8)
            have hB := HB.out
            refine ⟨keepsFrom_fr H8.out.2 (fun k e => by rw [show k = mb from e]; exact HV.out.1.2.2.2.1), Kp7.of H8.out.2 (fun k _ e => by rw [HV.out.2.2.2.2.2.1]; exact .inl e) (fun k hk e => ?_), ?_, ?_, HI.out.2.2.1.trans H8.out.2 (fun k e => .inl (by rw [HV.out.2.2.2.2.2.1]; exact .inl e))⟩
            · obtain ⟨cs, fr, hk1⟩ := hk
              obtain ⟨D9, ⟨es, c9, ho9, _⟩, _⟩ := HI.out.1.tk
              rw [show k = mb from e, ho9] at hk1
              cases hk1
            · have h9 := HI.out.1.hold H8.out.1 H8.out.2 (by omega) HN.out.2.2.1
              simpa [List.append_assoc] using h9
            · rw [List.map_append, ← List.append_assoc, List.nodup_append]
              refine ⟨HI.out.2.1, by simp, fun u hu z hz e => ?_⟩
              subst e
              simp only [List.map_cons, List.map_nil, List.mem_singleton] at hz
              exact HI.out.2.2.2 (hz ▸ hu)
        case done =>
          rintro D ys W' hD rfl ⟨h1, h2, h3⟩ hK
          have hDk : D ∉ ks := fun hk => by have := HV.out.2.2.2.2.2.2.2.2.1 D hk; omega
          have hS2 : S ++ (xs7 d [((a : Int), (m : Int))] hok1).map (·.1) = secs7 (L.take (i + 1)) := by rw [xs7_val, HV.out.2.2.2.1]
          rw [hS2] at h1 h2
          have hap1 : apart7 d (L.take (i + 1)) = true := apart7_iff.2 ⟨fun r hr => by
            rw [List.take_succ_eq_append_getElem hiL] at hr
            rcases List.mem_append.1 hr with hr | hr
            · exact (apart7_iff.1 hH.out.2.1).1 r hr
            · rw [List.mem_singleton.1 hr, HXY.out]; exact HOK.out, h2⟩
          have HI := Lib.hid (show TkSt w W' w.heap.size b2 b4 b5 mb b6 l la d F (.slice (some ⟨b, off, none⟩) n cap) L (secs7 (L.take (i + 1))) (D :: ks) ({ target := .collected D, args := #[] } :: Ds) ∧ apart7 d (L.take (i + 1)) = true ∧ W3.heap.size ≤ W'.heap.size from
            ⟨h1.mark (by have := HV.out.1; omega) hK hDk, hap1, by have := h3.size; omega⟩)
          clear h1 h2 h3 hap1 hS2 hDk hK
          gi_wp2
          refine ⟨⟨i + 1, D :: ks, _, _, _, _, _, _, _, _, _, _, _, _, _, by omega, HI, rfl⟩, ?_⟩
          simp [intOf]
          omega
        case stop =>
          rintro D c pre W' hD hpre ⟨rfl, h1, h2⟩ hK
          have hDk : D ∉ ks := fun hk => by have := HV.out.2.2.2.2.2.2.2.2.1 D hk; omega
          have HNO := Lib.hid (show apart7 d L = false by
            cases hap : apart7 d L with
            | false => rfl
            | true =>
              exfalso
              have h8 := apart7_left (l := L.take (i + 1)) (m := L.drop (i + 1)) (by rw [List.take_append_drop]; exact hap)
              rw [apart7_iff, HV.out.2.2.2.1] at h8
              obtain ⟨rest, hrest⟩ := hpre
              have h7 := congrArg (List.map (·.1)) hrest
              rw [xs7_val, List.map_append] at h7
              rw [← h7, ← List.append_assoc, List.nodup_append] at h8
              exact h2 h8.2.1)
          have HI := Lib.hid (h1.mark (by have := HV.out.1; omega) hK hDk)
          clear h1 h2 hK hDk
          gi_wp2
          exact HI.out.leave rfl rfl (Nat.le_refl _) (fun W9 hW hf => ⟨.inr ⟨HNO.out, rfl⟩, hf⟩)
    · obtain rfl : i = n := by omega
      have e6 : W.cell? ⟨b6, 0, none⟩ = some (.map (some mb)) := cell_of_one hH.out.1.r6
      obtain ⟨x4, h4⟩ := hH.out.1.r4
      obtain ⟨x5, h5⟩ := hH.out.1.r5
      have hne : b4 ≠ b5 := by have := HB.out.1; omega
      obtain ⟨e4, f4⟩ := one_cell h4
      have h5' := one_put2 h4 h5 hne (.map (some mb))
      obtain ⟨e5, f5⟩ := one_cell h5'
      have HX := Lib.hid (And.intro h4 (And.intro h5 h5'))
      clear h4 h5 h5' hne
      gi_wp2
      have hT := hH.out.1.no (by have := HB.out.1; omega) (by have := HB.out.1; omega) (by have := HB.out.1; omega) (.map (some mb)) (.bool true)
      refine hT.leave rfl rfl (Nat.le_refl _) (fun W' hW hf => ⟨.inl ⟨?_, mb, rfl, ?_, by have := HB.out.2.1; omega⟩, hf⟩)
      · have := hH.out.2.1
        rwa [List.take_of_length_le (by rw [← HN.out.1]; exact Nat.le_refl _)] at this
      · have h9 := hH.out.1.out (by have := HB.out; omega) (by have := HB.out; omega) _ _ hW
        rwa [List.take_of_length_le (by rw [← HN.out.1]; exact Nat.le_refl _)] at h9
end Go.Proofs.Ythghkognpgndhaa
namespace Go.Proofs.Ythghkognpgndhaa
open Go.RowKit Go.ChangeShapes
set_option linter.unusedVariables false
attribute [local go_sem] Oper.semAt_some
def ap7 (L A D : Int) (l : List Rn) : Bool := rightS L A D && apart7 D.toNat l
theorem ap7_ok {l la d s : Nat} (h : ShOk l la d s) (L : List Rn) : ap7 l la d L = apart7 d L := by
  unfold ap7
  rw [rightS_nat h.l1 h.a1 h.d1 (by have := h.sum; have := h.most; omega)]
  simp
theorem ap7_no {L A D : Int} (h : rightS L A D = false) (l : List Rn) : ap7 L A D l = false := by rw [ap7, h]; rfl
theorem rightS_ok {L A D : Int} (h : rightS L A D = true) : ∃ l a d s : Nat, L = l ∧ A = a ∧ D = d ∧ ShOk l a d s := by
  obtain ⟨l, a, d, rfl, rfl, rfl, h1, h2, h3, h4⟩ := rightS_yes h
  exact ⟨l, a, d, _, rfl, rfl, rfl, ⟨h1, h2, h3, rfl, h4⟩⟩
set_option maxRecDepth 100000 in
set_option maxHeartbeats 1000000 in
theorem take_no (w : World) (L A D : Int) (v : Value) (h : rightS L A D = false) :
    CallsIn Fence.wide 3 Try.prog 40 #[.agg #[.int .i64 L, .int .i64 A, .int .i64 D], v] w fun e w' => e = .returned (.tuple #[.map none, .bool false]) ∧ Fr (fun _ => False) w w' := by
  refine callsIn_of_wp_marks Try.func40 rfl trivial ?_ rfl
  simp only [Try.ntmps40, List.size_toArray, List.length_cons, List.length_nil, Nat.reduceAdd, Nat.reduceSub, Array.replicate_succ, Array.replicate_zero, List.push_toArray, List.append_toArray, List.nil_append, List.cons_append]
  have hr := fun W => WideF.out.calls (n := 2) (lRight_any W L A D)
  rw [h] at hr
  have HR := Lib.hid hr
  clear hr h
  obtain ⟨k2, k4, k5⟩ := heap3_new w (.cells #[.int .i64 L, .int .i64 A, .int .i64 D] 23) (.cells #[.map none] 76) (.cells #[.bool false] 4)
  have HK := Lib.hid (And.intro k4 k5)
  have hne : w.heap.size + 1 ≠ w.heap.size + 1 + 1 := by omega
  have HNE := Lib.hid hne
  clear k2 k4 k5 hne
  gi_wp2_with (refine ⟨trivial, ?_⟩; gi_at_call 35; refine (HR.out _).mono ?_; rintro e w2 ⟨rfl, hf2⟩; (have h4 := hf2.heap HK.out.1 id); (have h5 := hf2.heap HK.out.2 id); (obtain ⟨e4, q4⟩ := one_cell h4); (obtain ⟨e5, q5⟩ := one_cell (one_put2 h4 h5 HNE.out (.map none))); (have H2 := Lib.hid (And.intro h4 (And.intro h5 hf2))); clear h4 h5 hf2)
  have h5' := one_put2 H2.out.1 H2.out.2.1 HNE.out (.map none)
  have hf : Fr (fun _ => False) w ((w2.setCell ⟨w.heap.size + 1, 0, none⟩ (.map none)).setCell ⟨w.heap.size + 1 + 1, 0, none⟩ (.bool false)) :=
    ((((((Fr.refl (fun _ => False) w).alloc _).alloc _).alloc _).trans H2.out.2.2 (fun _ h => h.elim)).trans (Fr.cell1 _ (w.heap.size + 1) 0 _) (fun k e => .inr (by have : k = w.heap.size + 1 := e; omega))).trans (Fr.cell1 _ (w.heap.size + 1 + 1) 0 _) (fun k e => .inr (by have : k = w.heap.size + 1 + 1 := e; omega))
  have hT : TkNo w ((w2.setCell ⟨w.heap.size + 1, 0, none⟩ (.map none)).setCell ⟨w.heap.size + 1 + 1, 0, none⟩ (.bool false)) w.heap.size (w.heap.size + 1) (w.heap.size + 1 + 1) [] [] (.map none) (.bool false) :=
    ⟨(Fr.cell1 _ (w.heap.size + 1 + 1) 0 _).heap (one_put H2.out.1 _) HNE.out, one_put h5' _, MarksOk.nil _ _, hf⟩
  exact hT.leave rfl rfl (Nat.le_refl _) (fun W' hW hf => ⟨rfl, hf⟩)
def TakeP (w : World) (L A D : Int) (l : List Rn) (e : Ending) (w' : World) : Prop :=
  ((ap7 L A D l = true ∧ ∃ mb, e = .returned (.tuple #[.map (some mb), .bool true]) ∧ TkAt w' mb (secs7 l) ∧ w.heap.size ≤ mb) ∨ (ap7 L A D l = false ∧ e = .returned (.tuple #[.map none, .bool false]))) ∧ Fr (fun _ => False) w w'
theorem take_any {F : Nat → Prop} (w : World) (L A D : Int) (v : Value) (l : List Rn) (hL : RnsIn F w v l) (hF : ∀ k, F k → k < w.heap.size) :
    Calls Try.prog 40 #[.agg #[.int .i64 L, .int .i64 A, .int .i64 D], v] w (TakeP w L A D l) := by
  cases h : rightS L A D with
  | true =>
    obtain ⟨l0, a0, d0, s0, rfl, rfl, rfl, hs⟩ := rightS_ok h
    refine (callsIn_wide.1 (take_in w l0 a0 d0 s0 v l hs hL hF)).mono ?_
    rintro e w' ⟨h1, h2⟩
    refine ⟨?_, h2⟩
    rw [ap7_ok hs]
    exact h1
  | false => exact (callsIn_wide.1 (take_no w L A D v h)).mono (fun e w' ⟨h1, h2⟩ => ⟨.inr ⟨ap7_no h l, h1⟩, h2⟩)
theorem take_y {F : Nat → Prop} (w : World) (L A D : Int) (v : Value) (l : List Rn) (hL : RnsIn F w v l) (hF : ∀ k, F k → k < w.heap.size) (h : ap7 L A D l = true) :
    Calls Try.prog 40 #[.agg #[.int .i64 L, .int .i64 A, .int .i64 D], v] w fun e w' => ∃ mb, e = .returned (.tuple #[.map (some mb), .bool true]) ∧ TkAt w' mb (secs7 l) ∧ w.heap.size ≤ mb ∧ Fr (fun _ => False) w w' :=
  (take_any w L A D v l hL hF).mono (fun e w' ⟨h1, h2⟩ => by
    rcases h1 with ⟨_, mb, h3, h4, h5⟩ | ⟨h3, _⟩
    · exact ⟨mb, h3, h4, h5, h2⟩
    · rw [h] at h3; cases h3)
theorem take_n {F : Nat → Prop} (w : World) (L A D : Int) (v : Value) (l : List Rn) (hL : RnsIn F w v l) (hF : ∀ k, F k → k < w.heap.size) (h : ap7 L A D l = false) :
    Calls Try.prog 40 #[.agg #[.int .i64 L, .int .i64 A, .int .i64 D], v] w fun e w' => e = .returned (.tuple #[.map none, .bool false]) ∧ Fr (fun _ => False) w w' :=
  (take_any w L A D v l hL hF).mono (fun e w' ⟨h1, h2⟩ => by
    rcases h1 with ⟨h3, _⟩ | ⟨_, h3⟩
    · rw [h] at h3; cases h3
    · exact ⟨h3, h2⟩)
set_option maxRecDepth 100000 in
theorem bApart_any {F : Nat → Prop} (w : World) (L A D : Int) (v : Value) (l : List Rn) (hL : RnsIn F w v l) (hF : ∀ k, F k → k < w.heap.size) :
    Calls Try.prog 16 #[.agg #[.int .i64 L, .int .i64 A, .int .i64 D], v] w fun e w' => e = .returned (.bool (ap7 L A D l)) ∧ Fr (fun _ => False) w w' := by
  have hf1 : Fr (fun _ => False) w (w.alloc (.cells #[.int .i64 L, .int .i64 A, .int .i64 D] 23)) := (Fr.refl _ _).alloc _
  have hLw := (hL.mono (G := fun k => F k ∧ k < w.heap.size) (fun k hk h => ⟨h, hk⟩)).quiet hf1
  have hFw : ∀ k, F k ∧ k < w.heap.size → k < (w.alloc (.cells #[.int .i64 L, .int .i64 A, .int .i64 D] 23)).heap.size := fun k hk => by have := hk.2; simp; omega
  cases hap : ap7 L A D l with
  | true =>
    have HC := Lib.hid (take_y _ L A D v l hLw hFw hap)
    have HF1 := Lib.hid hf1
    clear hLw hFw hf1 hap
    go_enter Try.func16, Try.ntmps16
    go_wp2_with (go_at_call 40; refine HC.out.mono ?_; rintro e w1 ⟨mb, rfl, ht, hmb, hf⟩; (have H1 := Lib.hid hf); clear ht hmb hf)
    go_ret
    exact ⟨rfl, HF1.out.trans H1.out (fun _ h => h.elim)⟩
  | false =>
    have HC := Lib.hid (take_n _ L A D v l hLw hFw hap)
    have HF1 := Lib.hid hf1
    clear hLw hFw hf1 hap
    go_enter Try.func16, Try.ntmps16
    go_wp2_with (go_at_call 40; refine HC.out.mono ?_; rintro e w1 ⟨rfl, hf⟩; (have H1 := Lib.hid hf); clear hf)
    go_ret
    exact ⟨rfl, HF1.out.trans H1.out (fun _ h => h.elim)⟩
set_option maxRecDepth 100000 in
set_option maxHeartbeats 1000000 in
theorem bFree_yes {F : Nat → Prop} (w : World) (l la d s : Nat) (v : Value) (L : List Rn) (hs : ShOk l la d s) (hL : RnsIn F w v L) (hF : ∀ k, F k → k < w.heap.size) (hap : apart7 d L = true) :
    Calls Try.prog 12 #[.agg #[.int .i64 l, .int .i64 la, .int .i64 d], v] w fun e w' => e = .returned (.tuple #[.int .i64 ((free7 d L).length : Nat), .int .i64 0]) ∧ Fr (fun _ => False) w w' := by
  have hd : d ≤ 8192 := by have := hs.sum; have := hs.most; omega
  have hfl := free7_length hap
  obtain ⟨q, hq⟩ : ∃ q, q = (free7 d L).length := ⟨_, rfl⟩
  obtain ⟨c, hc⟩ : ∃ c, c = (secs7 L).length := ⟨_, rfl⟩
  rw [← hq, ← hc] at hfl
  rw [← hq]
  have hsub : IntKind.i64.wrap ((d : Int) - (c : Int)) = (q : Int) := by rw [wrap_in5 (by omega) (by omega)]; omega
  obtain ⟨W1, hW1⟩ : ∃ W1, W1 = w.alloc (.cells #[.int .i64 l, .int .i64 la, .int .i64 d] 23) := ⟨_, rfl⟩
  have hf1 : Fr (fun _ => False) w W1 := by rw [hW1]; exact (Fr.refl _ _).alloc _
  have hrow : W1.heap[w.heap.size]? = some (.cells #[.int .i64 l, .int .i64 la, .int .i64 d] 23 (0, 0)) := by rw [hW1]; exact heap_alloc_new w _
  have hLw := (hL.mono (G := fun k => F k ∧ k < w.heap.size) (fun k hk h => ⟨h, hk⟩)).quiet hf1
  have hcl := bApart_any W1 l la d v L hLw (fun k hk => by have := hk.2; have := hf1.size; omega)
  rw [ap7_ok hs, hap] at hcl
  have HC := Lib.hid hcl
  have HX := Lib.hid (And.intro hf1 (And.intro hLw (And.intro hrow (And.intro hap hc))))
  have HW := Lib.hid hW1
  clear hcl hf1 hap hq hc hrow hLw hs hL hF hW1 hfl
  go_enter Try.func12, Try.ntmps12
  go_wp2_with (go_at_call 16; rw [← HW.out]; refine HC.out.mono ?_; rintro e w1 ⟨rfl, hf⟩; (have H1 := Lib.hid hf); clear hf)
  have k2 : w1.cell? ⟨w.heap.size, 2, none⟩ = some (.int .i64 (d : Int)) := cell_of_row _ _ _ _ _ _ (H1.out.heap HX.out.2.2.1 id)
  have HCN := Lib.hid (count_any w1.drew v L ((HX.out.2.1.quiet H1.out).quiet (Fr.refl (fun _ => False) w1).drew) hd HX.out.2.2.2.1)
  go_region_held3 (fun w' => w'.cell? ⟨w.heap.size, 2, none⟩ = some (.int .i64 (d : Int))) (first | assumption | go_keep)
    ((go_at_call 41; refine HCN.out.mono ?_; rintro e w3 ⟨rfl, hf3⟩; rw [← HX.out.2.2.2.2]; (have k3 := hf3.cell k2 id); (have H3 := Lib.hid hf3); clear hf3))
  go_wp2
  go_ret2
  exact ⟨rfl, ((HX.out.1.trans H1.out (fun _ h => h.elim)).trans (Fr.refl (fun _ => False) w1).drew (fun _ h => h.elim)).trans H3.out (fun _ h => h.elim)⟩
end Go.Proofs.Ythghkognpgndhaa
namespace Go.Proofs.Ythghkognpgndhaa
open Go.RowKit Go.ChangeShapes
set_option linter.unusedVariables false
attribute [local go_sem] Oper.semAt_some
theorem OwnRn.last {z : Nat} {w : World} {g cap : Nat} {l : List Rn} {r : Rn} (h : OwnRn z w (.slice (some ⟨g, 0, none⟩) (l.length + 1) cap) (l ++ [r])) :
    w.cell? ⟨g, l.length * 2, none⟩ = some (.int .i64 r.1) ∧ w.cell? ⟨g, l.length * 2 + 1, none⟩ = some (.int .i64 r.2) ∧ w.frozen? ⟨g, l.length * 2 + 1, none⟩ = false := by
  obtain ⟨ao, cap2, hv, _, _, _, h4⟩ := OwnE.elems h
  obtain ⟨b, off, ha, hF, hi⟩ := h4 (by simp)
  simp only [Value.slice.injEq] at hv
  rw [← hv.1] at ha
  simp only [Option.some.injEq, Addr.mk.injEq, and_true] at ha
  obtain ⟨rfl, rfl⟩ := ha
  have g0 := hi l.length (by simp) 0 (by decide)
  have g1 := hi l.length (by simp) 1 (by decide)
  refine ⟨by simpa [rnC] using g0, by simpa [rnC] using g1, ?_⟩
  rcases OwnRn.block h with ⟨hv, _⟩ | ⟨g', cap', cur, hv, _, hg, _⟩
  · cases hv
  · simp only [Value.slice.injEq, Option.some.injEq, Addr.mk.injEq, and_true] at hv
    rw [← hv.1] at hg
    simp [World.frozen?, hg]
theorem OwnRn.grow {z : Nat} {w : World} {g cap : Nat} {l : List Rn} {r : Rn} (h : OwnRn z w (.slice (some ⟨g, 0, none⟩) (l.length + 1) cap) (l ++ [r])) (y : Int) :
    OwnRn z (w.setCell ⟨g, l.length * 2 + 1, none⟩ (.int .i64 y)) (.slice (some ⟨g, 0, none⟩) (l.length + 1) cap) (l ++ [(r.1, y)]) := by
  rcases OwnRn.block h with ⟨hv, _⟩ | ⟨g', cap', cur, hv, hz, hg, hn, hc, hs, ht⟩
  · cases hv
  · simp only [Value.slice.injEq, Option.some.injEq, Addr.mk.injEq, and_true] at hv
    obtain ⟨rfl, hln, rfl⟩ := hv
    have hll : (l ++ [r]).length = l.length + 1 := by simp
    rw [hll] at ht hn
    refine ⟨⟨?_, .inr ⟨g, cap, _, ?_, hz, cell_put _ hg, ?_, ?_, ?_, ?_⟩⟩, rnC_len _⟩
    · rw [flat_len _ (rnC_len _)]
    · rw [List.length_map]; simp
    · rw [List.length_map]; simpa using hn
    · unfold maxLen; omega
    · rw [Array.size_setIfInBounds]; exact hs
    · rw [List.length_map]
      have h2 : (l ++ [(r.1, y)]).length = l.length + 1 := by simp
      rw [h2]
      have hcl : cur.toList.length = cap * 2 := by rw [Array.length_toList]; exact hs
      have hlen : (l.map rnC).flatten.length = l.length * 2 := by rw [flat_len _ (rnC_len _), List.length_map]
      apply List.ext_getElem?
      intro j
      rw [List.getElem?_take]
      have ht2 := congrArg (fun t => t[j]?) ht
      simp only [List.getElem?_take] at ht2
      by_cases hj : j < (l.length + 1) * 2
      · rw [if_pos hj] at ht2 ⊢
        rw [Array.toList_setIfInBounds, List.getElem?_set]
        by_cases e : l.length * 2 + 1 = j
        · rw [if_pos e, if_pos (by rw [hcl]; omega)]
          subst e
          rw [List.map_append, List.flatten_append, List.getElem?_append_right (by omega), hlen]
          simp [rnC]
        · rw [if_neg e, ht2, List.map_append, List.flatten_append, List.map_append, List.flatten_append]
          by_cases hj2 : j < l.length * 2
          · rw [List.getElem?_append_left (by omega), List.getElem?_append_left (by omega)]
          · rw [List.getElem?_append_right (by omega), List.getElem?_append_right (by omega), hlen, show j - l.length * 2 = 0 by omega]
            simp [rnC]
      · rw [if_neg hj, List.getElem?_eq_none]
        rw [flat_len _ (rnC_len _), List.length_map, h2]
        omega
theorem wpList_append_rn {z : Nat} (w : World) {ops : Array Oper} {rest : List Oper} {o : Oper} {a : Act} {Q : Exit → Act → World → Prop} (hgd : o.guard = none) (s x : Operand)
    (hop : o.op = Op.call { callee := Callee.builtin Builtin.append, args := #[s, x], argTypes := #[24, 24] })
    (v : Value) (l : List Rn) (r : Rn) (b : Nat) (hs : a.eval s = v) (hx : a.eval x = .slice (some ⟨b, 0, none⟩) 1 1) (hb : w.heap[b]? = some (.cells #[.int .i64 r.1, .int .i64 r.2] 68 (0, 0)))
    (hown : OwnRn z w v l) (hz : z ≤ w.heap.size) (hn : l.length + 1 ≤ 1000000)
    (hK : ∀ v' w', OwnRn z w' v' (l ++ [r]) → Fr (fun k => v.ownBlock = some k) w w' → wpList Try.prog ops Q rest (a.put o.dst v') w') : wpList Try.prog ops Q (o :: rest) a w := by
  refine wpList_append_e (T := 68) Try.underlying24 infoRn rfl (by decide) (by decide) w hgd s x hop v _ _ _ hs hx hown (Elems.ofBlock (c := rnC r) hb rfl) (fun c hc u hu => by
    rw [List.mem_singleton.1 hc] at hu
    simp only [rnC, List.mem_cons, List.not_mem_nil, or_false] at hu
    rcases hu with rfl | rfl <;> rfl) hz (by simpa using hn) fun v' w' ho hg hv => ?_
  exact hK v' w' (by unfold OwnRn; rw [List.map_append]; exact ho) ((Fr.refl (fun k => v.ownBlock = some k) w).grown hg (fun k hk => .inl hk))
def JoinPost (z : Nat) (w : World) (v : Value) (l : List Rn) (e : Ending) (w' : World) : Prop := ∃ v', e = .returned v' ∧ OwnRn z w' v' l ∧ Fr (fun k => v.ownBlock = some k) w w'
set_option maxRecDepth 100000 in
set_option maxHeartbeats 2000000 in
theorem joined_any (z : Nat) (w : World) (v : Value) (l : List Rn) (x : Nat) (h : OwnRn z w v l) (hz : z ≤ w.heap.size) (hx : x ≤ 1000000) (hl : l.length ≤ 900000) (hb : ∀ r ∈ l, 0 ≤ r.1 ∧ r.1 ≤ 1000000 ∧ 0 ≤ r.2 ∧ r.2 ≤ 1000000) :
    Calls Try.prog 43 #[v, .int .i64 x] w (JoinPost z w v (jn7 l x)) := by
  rcases List.eq_nil_or_concat l with rfl | ⟨l, r, rfl⟩
  · rw [jn7_nil]
    obtain ⟨ao, c, rfl⟩ := h.form
    simp only [List.length_nil] at h ⊢
    have e1 : IntKind.i64.wrap ((0 : Int) - 1) = -1 := by decide
    have HO := Lib.hid h
    clear h hb
    go_enter Try.func43, Try.ntmps43
    go_wp2
    go_quiet ((fail))
    have hD := (Fr.refl (fun _ => False) w).drewN nq
    obtain ⟨W2, hW2⟩ : ∃ W2, W2 = w.drewN nq := ⟨_, rfl⟩
    rw [← hW2] at hD ⊢
    have H2 := Lib.hid hD
    clear hW2 hD
    go_wp2_with (at_builtin; refine wpList_append_rn (z := z) _ rfl (.tmp 35) (.tmp 38) rfl (.slice ao 0 c) [] ((x : Int), 1) _ rfl rfl (heap_alloc_new _ _) ((OwnE.keep HO.out H2.out (fun _ _ h => h)).keep ((Fr.refl (fun _ => False) W2).alloc _) (fun _ _ h => h)) (by have := H2.out.size; simp; omega) (by decide) ?_; intro v' w' ho hf; (have H3 := Lib.hid (And.intro ho hf)); clear ho hf)
    go_ret
    exact ⟨v', rfl, H3.out.1, (H2.out.mono (fun _ _ h => h.elim)).trans (((Fr.refl (fun k => (Value.slice ao 0 c).ownBlock = some k) W2).alloc _).trans H3.out.2 (fun _ h => .inl h)) (fun _ h => .inl h)⟩
  · rw [List.concat_eq_append] at h hl hb ⊢
    rw [jn7_snoc]
    obtain ⟨p, q⟩ := r
    have hb1 := hb (p, q) (by simp)
    rcases OwnRn.block h with ⟨_, hv⟩ | ⟨g, cap, cur, rfl, hzg, hg, hn, hc, hs, ht⟩
    · simp at hv
    · rw [List.length_append, List.length_cons, List.length_nil, Nat.zero_add] at h hl hn ⊢
      obtain ⟨m, hm⟩ : ∃ m, m = l.length := ⟨_, rfl⟩
      obtain ⟨n, hnm⟩ : ∃ n, n = m + 1 := ⟨_, rfl⟩
      have hlast := OwnRn.last h
      have hgrow := OwnRn.grow h
      rw [← hm] at h hlast hgrow hl hn ⊢
      rw [← hnm] at h hgrow hl hn ⊢
      obtain ⟨c0, c1, c2⟩ := hlast
      obtain ⟨b1, b2, b3, b4⟩ := hb1
      simp only at b1 b2 b3 b4 c0 c1
      have e1 : IntKind.i64.wrap ((n : Int) - 1) = (m : Int) := by rw [wrap_in5 (by omega) (by omega)]; omega
      have m0 : (0 : Int) ≤ (m : Int) := by omega
      have m1 : (m : Int) < (n : Int) := by omega
      have m2 : m < n := by omega
      obtain ⟨t, ht9⟩ : ∃ t, t = p + q := ⟨_, rfl⟩
      have e2 : IntKind.i64.wrap (p + q) = t := by rw [wrap_in5 (by omega) (by omega), ht9]
      have HO := Lib.hid (And.intro h (And.intro hgrow (And.intro hm (And.intro hnm hl))))
      clear h hgrow hm hnm hl hb hg hs ht hn hzg
      by_cases hpx : p + q = x
      · rw [if_pos hpx]
        have e3 : (t == (x : Int)) = true := by rw [beq_iff_eq, ht9, hpx]
        have e4 : IntKind.i64.wrap (q + 1) = q + 1 := wrap_in5 (by omega) (by omega)
        clear hpx ht9
        go_enter Try.func43, Try.ntmps43
        go_wp2
        go_quiet ((fail))
        have hD := (Fr.refl (fun _ => False) w).drewN nq
        obtain ⟨W2, hW2⟩ : ∃ W2, W2 = w.drewN nq := ⟨_, rfl⟩
        have k1 : W2.cell? ⟨g, m * 2 + 1, none⟩ = some (.int .i64 q) := by rw [hW2]; exact c1
        have k2 : W2.frozen? ⟨g, m * 2 + 1, none⟩ = false := by rw [hW2]; exact c2
        rw [← hW2] at hD ⊢
        have H2 := Lib.hid hD
        clear hW2 hD c0 c1 c2 e3
        go_wp2
        go_ret
        have h9 := OwnRn.grow (l := l) (r := (p, q)) (cap := cap) (z := z) (w := W2) (g := g) (by have h8 := OwnE.keep HO.out.1 H2.out (fun _ _ h => h); rw [← HO.out.2.2.1, ← HO.out.2.2.2.1]; exact h8) (q + 1)
        rw [← HO.out.2.2.1, ← HO.out.2.2.2.1] at h9
        exact ⟨_, rfl, h9, (H2.out.mono (T := fun k => (Value.slice (some ⟨g, 0, none⟩) n cap).ownBlock = some k) (fun _ _ h => h.elim)).setCell (p := ⟨g, m * 2 + 1, none⟩) (.inl rfl) _⟩
      · rw [if_neg hpx]
        have e3 : (t == (x : Int)) = false := by rw [beq_eq_false_iff_ne, ht9]; exact hpx
        clear hpx ht9
        go_enter Try.func43, Try.ntmps43
        go_wp2
        go_quiet ((fail))
        have hD := (Fr.refl (fun _ => False) w).drewN nq
        obtain ⟨W2, hW2⟩ : ∃ W2, W2 = w.drewN nq := ⟨_, rfl⟩
        rw [← hW2] at hD ⊢
        have H2 := Lib.hid hD
        clear hW2 hD c0 c1 c2 e3
        go_wp2_with (at_builtin; refine wpList_append_rn (z := z) _ rfl (.tmp 35) (.tmp 38) rfl (.slice (some ⟨g, 0, none⟩) n cap) (l ++ [(p, q)]) ((x : Int), 1) _ rfl rfl (heap_alloc_new _ _) ((OwnE.keep HO.out.1 H2.out (fun _ _ h => h)).keep ((Fr.refl (fun _ => False) W2).alloc _) (fun _ _ h => h)) (by have := H2.out.size; simp; omega) (by have := HO.out.2.2; simp; omega) ?_; intro v' w' ho hf; (have H3 := Lib.hid (And.intro ho hf)); clear ho hf)
        go_ret
        exact ⟨v', rfl, H3.out.1, (H2.out.mono (fun _ _ h => h.elim)).trans (((Fr.refl (fun k => (Value.slice (some ⟨g, 0, none⟩) n cap).ownBlock = some k) W2).alloc _).trans H3.out.2 (fun _ h => .inl h)) (fun _ h => .inl h)⟩
end Go.Proofs.Ythghkognpgndhaa
namespace Go.Proofs.Ythghkognpgndhaa
open Go.RowKit Go.ChangeShapes
set_option linter.unusedVariables false
attribute [local go_sem] Oper.semAt_some
def xsF (d : Nat) (L : List Rn) : List (Sc d) := (free7 d L).attachWith (· < d) (fun x hx => (mem_free7.1 hx).1)
theorem xsF_val (d : Nat) (L : List Rn) : (xsF d L).map (·.1) = free7 d L := by unfold xsF; simp
theorem xsF_length (d : Nat) (L : List Rn) : (xsF d L).length = (free7 d L).length := by unfold xsF; simp
theorem free7_succ (i : Nat) (L : List Rn) : free7 (i + 1) L = free7 i L ++ (if i ∈ secs7 L then [] else [i]) := by
  unfold free7
  rw [List.range_succ, List.filter_append]
  congr 1
  by_cases h : i ∈ secs7 L <;> simp [h]
theorem free7_prefix {i d : Nat} (h : i ≤ d) (L : List Rn) : ∃ r, free7 d L = free7 i L ++ r := by
  obtain ⟨k, rfl⟩ := Nat.exists_eq_add_of_le h
  clear h
  induction k with
  | zero => exact ⟨[], by simp⟩
  | succ k ih =>
    obtain ⟨r, hr⟩ := ih
    refine ⟨r ++ (if i + k ∈ secs7 L then [] else [i + k]), ?_⟩
    rw [← Nat.add_assoc, free7_succ, hr, List.append_assoc]
theorem xsF_at {i d : Nat} (h : i < d) (L : List Rn) (hm : i ∉ secs7 L) : ∃ hq : (free7 i L).length < (xsF d L).length, ((xsF d L)[(free7 i L).length]'hq).1 = i := by
  obtain ⟨r, hr⟩ := free7_prefix (show i + 1 ≤ d by omega) L
  rw [free7_succ, if_neg hm] at hr
  have hl := congrArg List.length hr
  simp only [List.length_append, List.length_cons, List.length_nil] at hl
  have hq : (free7 i L).length < (xsF d L).length := by rw [xsF_length]; omega
  refine ⟨hq, ?_⟩
  have h1 : ((xsF d L).map (·.1))[(free7 i L).length]? = some i := by
    rw [xsF_val, hr, List.append_assoc, List.getElem?_append_right (Nat.le_refl _), Nat.sub_self]
    rfl
  rw [List.getElem?_map, List.getElem?_eq_getElem hq] at h1
  simpa using h1
structure ItF (mb Bd Bt d : Nat) (S : List Nat) (W : World) : Prop where
  data : W.cell? ⟨Bd, 0, none⟩ = some (.int .i64 (d : Nat))
  box : W.cell? ⟨Bt, 0, none⟩ = some (.map (some mb))
  tk : TkAt W mb S
theorem ItF.keep {T : Nat → Prop} {mb Bd Bt d : Nat} {S : List Nat} {W W' : World} (h : ItF mb Bd Bt d S W) (hf : Fr T W W') (h1 : ¬ T Bd) (h2 : ¬ T Bt) (h3 : ¬ T mb) : ItF mb Bd Bt d S W' :=
  ⟨hf.cell h.data h1, hf.cell h.box h2, h.tk.keep hf h3⟩
set_option maxRecDepth 100000 in
set_option maxHeartbeats 4000000 in
theorem free1_in {T : Nat → Prop} {d : Nat} (n0 : Nat) (l Bd Bt mb : Nat) (L : List Rn) (hd : d ≤ 8192) (hT1 : ¬ T Bd) (hT2 : ¬ T Bt) (hT3 : ¬ T mb) (B0 : Nat) (J Jx : List (Sc d) → World → Prop) (hJ : AbidesFrom B0 J)
    (hY : ∀ pre x W, J pre W → pre.length < (free7 d L).length → YieldAt Fence.wide (n0 - 1) Try.prog l (enc7 x) W fun e W' =>
      (e = .returned (.bool true) ∧ J (pre ++ [x]) W' ∧ Fr T W W') ∨ (e = .returned (.bool false) ∧ Jx (pre ++ [x]) W'))
    (W : World) (hR : ItF mb Bd Bt d (secs7 L) W) (h0 : J [] W) :
    CallsIn Fence.wide n0 Try.prog 68 #[.func (.yield l) #[] #[], .pointer (some ⟨Bd, 0, none⟩), .pointer (some ⟨Bt, 0, none⟩)] W fun e W' => (∃ v, e = .returned v) ∧
      ((∃ ys, ys = xsF d L ∧ J ys W') ∨ (∃ pre, pre <+: xsF d L ∧ Jx pre W')) := by
  obtain ⟨X, hX⟩ : ∃ X, X = xsF d L := ⟨_, rfl⟩
  have hXl : X.length = (free7 d L).length := by rw [hX, xsF_length]
  rw [← hXl] at hY
  rw [← hX]
  obtain ⟨hda, hbx, _⟩ := id hR
  have HR := Lib.hid hR
  have HY := Lib.hid hY
  have HT := Lib.hid (And.intro hT1 (And.intro hT2 hT3))
  have HN := Lib.hid (And.intro hX hXl)
  clear hR hY hJ hT1 hT2 hT3 hX hXl
  refine callsIn_of_wp Try.func68 rfl trivial ?_ rfl
  simp only [Try.ntmps68, List.size_toArray, List.length_cons, List.length_nil, Nat.reduceAdd, Nat.reduceSub, Array.replicate_succ, Array.replicate_zero, List.push_toArray, List.append_toArray, List.nil_append, List.cons_append]
  gi_wp2
  gi_loopw [6] (fun iv wr => ∃ i p : Nat, i ≤ d ∧ iv = .int .i64 i ∧ J (X.take p) wr ∧ Hid (p = (free7 i L).length ∧ ItF mb Bd Bt d (secs7 L) wr)) (fun iv _ => d - (intOf iv).toNat)
  case atStart => exact ⟨0, 0, by omega, rfl, h0, Lib.hid ⟨rfl, HR.out⟩⟩
  case round =>
    clear h0 hda hbx
    obtain ⟨i, p, hi, rfl, hJs, hRr⟩ := hrel
    by_cases hlt : i < d
    · have hbx := hRr.out.2.box
      have hlt64 : (i : Int) < (d : Int) := by omega
      by_cases hm : i ∈ secs7 L
      · have hc := WideF.out.calls (n := n0 - 1) (has_any wr mb i (secs7 L) hRr.out.2.tk (by omega))
        rw [show decide (i ∈ secs7 L) = true from decide_eq_true hm] at hc
        have HC := Lib.hid hc
        have HK := Lib.hid (show p = (free7 (i + 1) L).length by rw [free7_succ, if_pos hm, List.append_nil]; exact hRr.out.1)
        clear hc hm
        gi_wp2_with (refine ⟨trivial, fun hx => WideF.out.free hx, ?_⟩; gi_at_call 69; refine HC.out.mono ?_; rintro e w2 ⟨rfl, rfl⟩)
        refine ⟨fun _ h => (by cases h), ?_⟩
        gi_wp2
        go_roundw
        case rel => exact ⟨i + 1, p, by omega, by go_num, hJs, Lib.hid ⟨HK.out, hRr.out.2⟩⟩
        case measure => simp [intOf]; omega
      · have hc := WideF.out.calls (n := n0 - 1) (has_any wr mb i (secs7 L) hRr.out.2.tk (by omega))
        rw [show decide (i ∈ secs7 L) = false from decide_eq_false hm] at hc
        have HC := Lib.hid hc
        obtain ⟨hq, hxv⟩ := xsF_at hlt L hm
        have HK := Lib.hid (show p + 1 = (free7 (i + 1) L).length by rw [free7_succ, if_neg hm, List.length_append]; rw [hRr.out.1]; rfl)
        obtain ⟨x, hx⟩ : ∃ x, x = (xsF d L)[(free7 i L).length] := ⟨_, rfl⟩
        rw [← hx] at hxv
        have htk : X.take (p + 1) = X.take p ++ [x] := by rw [hRr.out.1, HN.out.1, List.take_succ_eq_append_getElem hq, hx]
        have hpl : (X.take p).length < X.length := by rw [HN.out.1, List.length_take, hRr.out.1]; omega
        obtain ⟨fn, tmps, assign, body, hy, hRd⟩ := HY.out _ x wr hJs hpl
        simp only [enc7] at hy
        rw [hxv] at hy
        have HTK := Lib.hid htk
        clear hc hm hq hxv hx htk hpl hJs
        gi_wp2_with (refine ⟨trivial, fun hx => WideF.out.free hx, ?_⟩; gi_at_call 69; refine HC.out.mono ?_; rintro e w2 ⟨rfl, rfl⟩)
        refine ⟨fun hx => WideF.out.free hx, hRd.mono ?_⟩
        rintro e W3 (⟨rfl, hJ3, hk3⟩ | ⟨rfl, hJx3⟩)
        · have HR3 := Lib.hid (hRr.out.2.keep hk3 HT.out.1 HT.out.2.1 HT.out.2.2)
          gi_wp2
          go_roundw
          case rel => exact ⟨i + 1, p + 1, by omega, by go_num, by rw [HTK.out]; exact hJ3, Lib.hid ⟨HK.out, HR3.out⟩⟩
          case measure => simp [intOf]; omega
        · gi_wp2
          refine bodyPost_ret (results_none rfl _ _ _) rfl ?_
          exact ⟨⟨_, rfl⟩, .inr ⟨_, by rw [← HTK.out]; exact List.take_prefix _ _, hJx3⟩⟩
    · obtain rfl : i = d := by omega
      gi_wp2
      go_end0
      exact ⟨⟨_, rfl⟩, .inl ⟨_, rfl, by rwa [List.take_of_length_le (by rw [HN.out.2, hRr.out.1]; exact Nat.le_refl _)] at hJs⟩⟩
theorem ItF.below {mb Bd Bt d : Nat} {S : List Nat} {w W : World} (h : ItF mb Bd Bt d S w) (hb : Below w.heap.size w W) : ItF mb Bd Bt d S W := by
  have h1 := World.block_lt_of_cell? _ _ h.data
  have h2 := World.block_lt_of_cell? _ _ h.box
  have h3 := h.tk.lt
  simp only at h1 h2
  exact h.keep (Fr.ofBelow hb) (fun h => by omega) (fun h => by omega) (fun h => by omega)
theorem free_stops {T : Nat → Prop} {d : Nat} (n0 Bd Bt mb : Nat) (L : List Rn) (hd : d ≤ 8192) (hT1 : ¬ T Bd) (hT2 : ¬ T Bt) (hT3 : ¬ T mb) (w : World) (hR : ItF mb Bd Bt d (secs7 L) w) :
    SeqStopsK Fence.wide n0 Try.prog 68 #[.pointer (some ⟨Bd, 0, none⟩), .pointer (some ⟨Bt, 0, none⟩)] enc7 (Fr T) (fun ys => ys = xsF d L) (fun pre => pre <+: xsF d L) (free7 d L).length w :=
  fun l J Jx W hW hJ hJx hY h0 => free1_in n0 l Bd Bt mb L hd hT1 hT2 hT3 _ J Jx hJ hY W (hR.below hW) h0
theorem free_any (w : World) (mb : Nat) (d : Int) :
    Calls Try.prog 42 #[.map (some mb), .int .i64 d] w fun e w' => e = .returned (.func (.func 68) #[] #[.pointer (some ⟨w.heap.size + 1, 0, none⟩), .pointer (some ⟨w.heap.size, 0, none⟩)]) ∧ w' = (w.alloc (.cells #[.map (some mb)] 76)).alloc (.cells #[.int .i64 d] 3) := by
  go_enter Try.func42, Try.ntmps42
  go_wp2
  go_ret
  exact ⟨rfl, rfl⟩
end Go.Proofs.Ythghkognpgndhaa
