/- Laid together: BTake BApart -/
import Derived.Test.YtcbbcihfooaggaaBk9
import Derived.Deep.RegionHeld3
import Derived.Deep.RegionHeldLaw

namespace Go.Proofs.Ytcbbcihfooaggaa
open Go.RowKit Go.ChangeShapes Go.Maps
set_option linter.unusedVariables false
attribute [local go_sem] Oper.semAt_some
def TakePost (w : World) (d : Nat) (L : List Rn) (e : Ending) (w' : World) : Prop :=
  ((apart7 d L = true ∧ ∃ mb, e = .returned (.tuple #[.map (some mb), .bool true]) ∧ TkAt w' mb (secs7 L) ∧ w.heap.size ≤ mb) ∨ (apart7 d L = false ∧ e = .returned (.tuple #[.map none, .bool false]))) ∧ Fr (fun _ => False) w w'
structure TkSt (w W : World) (z b2 b4 b5 mb b6 : Nat) (l la d : Nat) (F : Nat → Prop) (v : Value) (L : List Rn) (S : List Nat) (ks : List Nat) (Ds : List Deferred) : Prop where
  shape : W.heap[b2]? = some (.cells #[.int .i64 l, .int .i64 la, .int .i64 d] 23 (0, 0))
  r4 : ∃ x, W.heap[b4]? = some (.cells #[x] 76 (0, 0))
  r5 : ∃ x, W.heap[b5]? = some (.cells #[x] 4 (0, 0))
  r6 : W.heap[b6]? = some (.cells #[.map (some mb)] 76 (0, 0))
  tk : TkAt W mb S
  runs : RnsIn F W v L
  marks : MarksOk z Ds ks W
  fr : Fr (fun _ => False) w W
theorem TkSt.grown {w W W' : World} {z b2 b4 b5 mb b6 : Nat} {l la d : Nat} {F : Nat → Prop} {v : Value} {L : List Rn} {S : List Nat} {ks : List Nat} {Ds : List Deferred} {B : Nat} {row : Option Nat} (h : TkSt w W z b2 b4 b5 mb b6 l la d F v L S ks Ds) (hb : b2 < B ∧ b4 < B ∧ b5 < B ∧ mb < B ∧ b6 < B ∧ w.heap.size ≤ B) (hF : ∀ k, F k → k < B) (hks : ∀ k ∈ ks, k < B)
    (hg : W.grownBy W' row) (hr : ∀ r, row = some r → B ≤ r ∧ ∃ o : Obj, W.heap[r]? = some o ∧ o.isCells = false) : TkSt w W' z b2 b4 b5 mb b6 l la d F v L S ks Ds := by
  have hf : Fr (fun k => row = some k) W W' := (Fr.refl _ W).grown hg (fun k hk => .inl hk)
  have hn : ∀ k, k < B → ¬ row = some k := fun k hk e => by have := (hr k e).1; omega
  obtain ⟨x4, h4⟩ := h.r4
  obtain ⟨x5, h5⟩ := h.r5
  exact ⟨hf.heap h.shape (hn _ hb.1), ⟨x4, hf.heap h4 (hn _ hb.2.1)⟩, ⟨x5, hf.heap h5 (hn _ hb.2.2.1)⟩, hf.heap h.r6 (hn _ hb.2.2.2.2.1), h.tk.keep hf (hn _ hb.2.2.2.1), h.runs.keep hf (fun k _ hk => hn k (hF k hk)), h.marks.grown hks hg hr, h.fr.trans hf (fun k hk => .inr (by have := (hr k hk).1; omega))⟩
theorem TkSt.quiet {w W W' : World} {z b2 b4 b5 mb b6 : Nat} {l la d : Nat} {F : Nat → Prop} {v : Value} {L : List Rn} {S : List Nat} {ks : List Nat} {Ds : List Deferred} (h : TkSt w W z b2 b4 b5 mb b6 l la d F v L S ks Ds) (hf : Fr (fun _ => False) W W') : TkSt w W' z b2 b4 b5 mb b6 l la d F v L S ks Ds := by
  obtain ⟨x4, h4⟩ := h.r4
  obtain ⟨x5, h5⟩ := h.r5
  exact ⟨hf.heap h.shape id, ⟨x4, hf.heap h4 id⟩, ⟨x5, hf.heap h5 id⟩, hf.heap h.r6 id, h.tk.keep hf id, h.runs.quiet hf, h.marks.quiet hf, h.fr.trans hf (fun _ h => h.elim)⟩
def TkNo (w W : World) (z b4 b5 : Nat) (ks : List Nat) (Ds : List Deferred) (x y : Value) : Prop :=
  W.heap[b4]? = some (.cells #[x] 76 (0, 0)) ∧ W.heap[b5]? = some (.cells #[y] 4 (0, 0)) ∧ MarksOk z Ds ks W ∧ Fr (fun _ => False) w W
theorem TkSt.no {w W : World} {z b2 b4 b5 mb b6 : Nat} {l la d : Nat} {F : Nat → Prop} {v : Value} {L : List Rn} {S : List Nat} {ks : List Nat} {Ds : List Deferred} (h : TkSt w W z b2 b4 b5 mb b6 l la d F v L S ks Ds) (h1 : w.heap.size ≤ b4) (h2 : w.heap.size ≤ b5) (hne : b4 ≠ b5) (x y : Value) :
    TkNo w ((W.setCell ⟨b4, 0, none⟩ x).setCell ⟨b5, 0, none⟩ y) z b4 b5 ks Ds x y := by
  obtain ⟨x4, h4⟩ := h.r4
  obtain ⟨x5, h5⟩ := h.r5
  have hf1 := Fr.cell1 W b4 0 x
  have hf2 := Fr.cell1 (W.setCell ⟨b4, 0, none⟩ x) b5 0 y
  have g4 := one_put h4 x
  have h5' := one_put2 h4 h5 hne x
  have g5 := one_put h5' y
  refine ⟨hf2.heap g4 hne, g5, (h.marks.keep hf1 (fun k ds hk e => ?_)).keep hf2 (fun k ds hk e => ?_), (h.fr.trans hf1 (fun k e => .inr (by rw [show k = b4 from e]; exact h1))).trans hf2 (fun k e => .inr (by rw [show k = b5 from e]; exact h2))⟩
  · rw [show k = b4 from e, h4] at hk; cases hk
  · rw [show k = b5 from e, h5'] at hk; cases hk
theorem TkNo.leave {w W : World} {z b4 b5 : Nat} {ks : List Nat} {Ds : List Deferred} {x y : Value} (h : TkNo w W z b4 b5 ks Ds x y) {n : Nat} {tmps : Array Value} {R : Ending → World → Prop} (hp : tmps.getD 4 undef = .pointer (some ⟨b4, 0, none⟩)) (hq : tmps.getD 5 undef = .pointer (some ⟨b5, 0, none⟩)) (hz : w.heap.size ≤ z)
    (hR : ∀ W', Fr (MarkB z W) W W' → Fr (fun _ => False) w W' → R (.returned (.tuple #[x, y])) W') : LeavesInM Fence.wide n Try.prog Try.f40 tmps R Ds .returning W :=
  leaves_marks (by simp) z ks Ds W h.2.2.1 (fun W' hW => ⟨_, results_cells2 rfl _ _ b4 b5 _ _ (by kernel_rfl) (by kernel_rfl) hp hq
    (cell_of_one (hW.heap h.1 (fun ⟨_, ds, hd⟩ => by rw [h.1] at hd; cases hd))) (cell_of_one (hW.heap h.2.1 (fun ⟨_, ds, hd⟩ => by rw [h.2.1] at hd; cases hd))), hR W' hW (h.2.2.2.trans hW (fun k hk => .inr (Nat.le_trans hz hk.1)))⟩)
theorem TkSt.out {w W W' : World} {z b2 b4 b5 mb b6 : Nat} {l la d : Nat} {F : Nat → Prop} {v : Value} {L : List Rn} {S : List Nat} {ks : List Nat} {Ds : List Deferred} (h : TkSt w W z b2 b4 b5 mb b6 l la d F v L S ks Ds) (h4 : mb ≠ b4) (h5 : mb ≠ b5) (x y : Value) (hW : Fr (MarkB z ((W.setCell ⟨b4, 0, none⟩ x).setCell ⟨b5, 0, none⟩ y)) ((W.setCell ⟨b4, 0, none⟩ x).setCell ⟨b5, 0, none⟩ y) W') : TkAt W' mb S := by
  have h1 := (h.tk.keep (Fr.cell1 W b4 0 x) h4).keep (Fr.cell1 (W.setCell ⟨b4, 0, none⟩ x) b5 0 y) h5
  refine h1.keep hW (fun ⟨_, ds, hd⟩ => ?_)
  obtain ⟨D, ⟨es, c, ho, _⟩, _⟩ := h1
  rw [ho] at hd
  cases hd
theorem TkNo.grown {w W W' : World} {z b4 b5 : Nat} {ks : List Nat} {Ds : List Deferred} {x y : Value} {B : Nat} {row : Option Nat} (h : TkNo w W z b4 b5 ks Ds x y) (hb : b4 < B ∧ b5 < B ∧ w.heap.size ≤ B) (hks : ∀ k ∈ ks, k < B) (hg : W.grownBy W' row) (hr : ∀ r, row = some r → B ≤ r ∧ ∃ o : Obj, W.heap[r]? = some o ∧ o.isCells = false) : TkNo w W' z b4 b5 ks Ds x y := by
  have hf : Fr (fun k => row = some k) W W' := (Fr.refl _ W).grown hg (fun k hk => .inl hk)
  have hn : ∀ k, k < B → ¬ row = some k := fun k hk e => by have := (hr k e).1; omega
  exact ⟨hf.heap h.1 (hn _ hb.1), hf.heap h.2.1 (hn _ hb.2.1), h.2.2.1.grown hks hg hr, h.2.2.2.trans hf (fun k hk => .inr (by have := (hr k hk).1; omega))⟩
theorem TkNo.mark {w W : World} {z b4 b5 : Nat} {ks : List Nat} {Ds : List Deferred} {x y : Value} {D : Nat} (h : TkNo w W z b4 b5 ks Ds x y) (hz : z ≤ D) (hD : W.heap[D]? = some (.deferred (some []))) (hn : D ∉ ks) : TkNo w W z b4 b5 (D :: ks) ({ target := .collected D, args := #[] } :: Ds) x y :=
  ⟨h.1, h.2.1, h.2.2.1.cons hz hD hn, h.2.2.2⟩
theorem TkSt.mark {w W : World} {z b2 b4 b5 mb b6 : Nat} {l la d : Nat} {F : Nat → Prop} {v : Value} {L : List Rn} {S : List Nat} {ks : List Nat} {Ds : List Deferred} {D : Nat} (h : TkSt w W z b2 b4 b5 mb b6 l la d F v L S ks Ds) (hz : z ≤ D) (hD : W.heap[D]? = some (.deferred (some []))) (hn : D ∉ ks) : TkSt w W z b2 b4 b5 mb b6 l la d F v L S (D :: ks) ({ target := .collected D, args := #[] } :: Ds) :=
  ⟨h.shape, h.r4, h.r5, h.r6, h.tk, h.runs, h.marks.cons hz hD hn, h.fr⟩
theorem TkSt.hold {w W W' : World} {z b2 b4 b5 mb b6 : Nat} {l la d : Nat} {F : Nat → Prop} {v : Value} {L : List Rn} {S : List Nat} {ks : List Nat} {Ds : List Deferred} {x : Nat} (h : TkSt w W z b2 b4 b5 mb b6 l la d F v L S ks Ds) (hT : TkAt W' mb (S ++ [x])) (hf : Fr (fun k => k = mb) W W') (hb : b2 ≠ mb ∧ b4 ≠ mb ∧ b5 ≠ mb ∧ b6 ≠ mb ∧ w.heap.size ≤ mb) (hF : ∀ k, F k → k < w.heap.size) : TkSt w W' z b2 b4 b5 mb b6 l la d F v L (S ++ [x]) ks Ds := by
  obtain ⟨x4, h4⟩ := h.r4
  obtain ⟨x5, h5⟩ := h.r5
  refine ⟨hf.heap h.shape hb.1, ⟨x4, hf.heap h4 hb.2.1⟩, ⟨x5, hf.heap h5 hb.2.2.1⟩, hf.heap h.r6 hb.2.2.2.1, hT, h.runs.keep hf (fun k _ hk e => by have := hF k hk; have : k = mb := e; omega), h.marks.keep hf (fun k ds hk e => ?_), h.fr.trans hf (fun k e => .inr (by rw [show k = mb from e]; exact hb.2.2.2.2))⟩
  obtain ⟨D, ⟨es, c, ho, _⟩, _⟩ := h.tk
  rw [show k = mb from e, ho] at hk
  cases hk
theorem Kp7.refl (T : Nat → Prop) (W : World) : Kp7 T W W := ⟨Fr.refl _ _, fun _ _ => rfl⟩
theorem RnsIn.ofBlock {w : World} {b : Nat} {T : TypeId} {a m : Int} (h : w.heap[b]? = some (.cells #[.int .i64 a, .int .i64 m] T (0, 0))) (ha : -9223372036854775808 ≤ a ∧ a ≤ 9223372036854775807) (hm : -9223372036854775808 ≤ m ∧ m ≤ 9223372036854775807) : RnsIn (fun j => j = b) w (.slice (some ⟨b, 0, none⟩) 1 1) [(a, m)] :=
  ⟨Elems.ofBlock (c := rnC (a, m)) h rfl, fun r hr => by rw [List.mem_singleton.1 hr]; exact ⟨ha.1, ha.2, hm.1, hm.2⟩⟩
theorem heap3_new (w : World) (A B C : Obj) : (((w.alloc A).alloc B).alloc C).heap[w.heap.size]? = some A ∧ (((w.alloc A).alloc B).alloc C).heap[w.heap.size + 1]? = some B ∧ (((w.alloc A).alloc B).alloc C).heap[w.heap.size + 1 + 1]? = some C := by
  refine ⟨(((Fr.refl (fun _ => False) _).alloc _).alloc _).heap (heap_alloc_new w _) id, ((Fr.refl (fun _ => False) _).alloc _).heap (heap_alloc2_new w _ _) id, ?_⟩
  have := heap_alloc2_new (w.alloc A) B C
  simpa using this
set_option maxRecDepth 100000 in
set_option maxHeartbeats 4000000 in
theorem take_in {F : Nat → Prop} (w : World) (l la d s : Nat) (v : Value) (L : List Rn) (hsh : ShOk l la d s) (hL : RnsIn F w v L) (hF : ∀ k, F k → k < w.heap.size) :
    CallsIn Fence.wide 3 Try.prog 40 #[.agg #[.int .i64 l, .int .i64 la, .int .i64 d], v] w (TakePost w d L) := by
  refine callsIn_of_wp_marks Try.func40 rfl trivial ?_ rfl
  simp only [Try.ntmps40, List.size_toArray, List.length_cons, List.length_nil, Nat.reduceAdd, Nat.reduceSub, Array.replicate_succ, Array.replicate_zero, List.push_toArray, List.append_toArray, List.nil_append, List.cons_append]
  obtain ⟨ao, cap, rfl, hc1, hc2, b, off, hao, hcells⟩ := hL.open7
  have hmk := run_makeMap (P := Try.prog)
  have HR := Lib.hid (fun W => WideF.out.calls (n := 2) (hsh.right W))
  have hd : d ≤ 8192 := by have := hsh.sum; have := hsh.most; omega
  obtain ⟨n, hnn⟩ : ∃ n, n = L.length := ⟨_, rfl⟩
  rw [← hnn] at hc1 hao hL ⊢
  have HN := Lib.hid (And.intro hnn (And.intro hL (And.intro hF hsh)))
  have HAO := Lib.hid hao
  have HCE := Lib.hid hcells
  clear hnn hL hF hsh hao hcells
  gi_wp2_with (refine ⟨trivial, ?_⟩; gi_at_call 35; refine (HR.out _).mono ?_; rintro e w2 ⟨rfl, hf2⟩)
  clear hmk
  obtain ⟨k2, k4, k5⟩ := heap3_new w (.cells #[.int .i64 l, .int .i64 la, .int .i64 d] 23) (.cells #[.map none] 76) (.cells #[.bool false] 4)
  have hfa : Fr (fun _ => False) w w2 := ((((Fr.refl (fun _ => False) w).alloc _).alloc _).alloc _).trans hf2 (fun _ h => h.elim)
  have hz2 : w.heap.size + 3 ≤ w2.heap.size := by have := hf2.size; simpa using this
  obtain ⟨b2, hb2⟩ : ∃ b2, b2 = w.heap.size := ⟨_, rfl⟩
  obtain ⟨b4, hb4⟩ : ∃ b4, b4 = w.heap.size + 1 := ⟨_, rfl⟩
  obtain ⟨b5, hb5⟩ : ∃ b5, b5 = w.heap.size + 1 + 1 := ⟨_, rfl⟩
  obtain ⟨mb, hmb⟩ : ∃ mb, mb = w2.heap.size := ⟨_, rfl⟩
  obtain ⟨b6, hb6⟩ : ∃ b6, b6 = w2.heap.size + 1 := ⟨_, rfl⟩
  obtain ⟨W3, hW3⟩ : ∃ W3, W3 = (w2.alloc (.map #[] 0)).alloc (.cells #[.map (some w2.heap.size)] 76) := ⟨_, rfl⟩
  have hf3 : Fr (fun _ => False) w2 W3 := by rw [hW3]; exact ((Fr.refl _ _).alloc _).alloc _
  have hst0 : TkSt w W3 w.heap.size b2 b4 b5 mb b6 l la d F (.slice ao n cap) L (secs7 (L.take 0)) [] [] := by
    refine ⟨hf3.heap (hf2.heap (by rw [hb2]; exact k2) id) id, ⟨_, hf3.heap (hf2.heap (by rw [hb4]; exact k4) id) id⟩, ⟨_, hf3.heap (hf2.heap (by rw [hb5]; exact k5) id) id⟩, ?_, ?_, (HN.out.2.1.quiet hfa).quiet hf3, MarksOk.nil _ _, hfa.trans hf3 (fun _ h => h.elim)⟩
    · rw [hW3, hb6, hmb]; exact heap_alloc2_new w2 _ _
    · rw [hW3, hmb]
      exact (TkAt.made w2).keep ((Fr.refl (fun _ => False) _).alloc _) id
  have HB := Lib.hid (show (b2 = w.heap.size ∧ b4 = w.heap.size + 1 ∧ b5 = w.heap.size + 2) ∧ w.heap.size + 3 ≤ mb ∧ b6 = mb + 1 ∧ b6 < W3.heap.size from ⟨⟨hb2, hb4, by omega⟩, by omega, by omega, by rw [hW3, hb6]; simp⟩)
  rw [← hb5, ← hb4, ← hb2, ← hb6, ← hmb]
  rw [← hmb] at hW3
  rw [← hW3]
  clear k2 k4 k5 hfa hz2 hb2 hb4 hb5 hmb hb6 hW3 hf3 hf2
  refine wpIn_loop (fun a' W => ∃ (i : Nat) (ks : List Nat) (Ds : List Deferred) (u8 u17 u18 u19 u20 u21 u22 u23 u24 u25 u26 u32 : Value), i ≤ n ∧ Hid (TkSt w W w.heap.size b2 b4 b5 mb b6 l la d F (.slice ao n cap) L (secs7 (L.take i)) ks Ds ∧ apart7 d (L.take i) = true ∧ W3.heap.size ≤ W.heap.size) ∧
    a' = ⟨#[.agg #[.int .i64 l, .int .i64 la, .int .i64 d], .slice ao n cap, .pointer (some ⟨b2, 0, none⟩), undef, .pointer (some ⟨b4, 0, none⟩), .pointer (some ⟨b5, 0, none⟩), .pointer (some ⟨b6, 0, none⟩), undef, u8, undef, .agg #[.int .i64 l, .int .i64 la, .int .i64 d], .bool true, .bool false, .map (some mb), .slice ao n cap, .int .i64 n, .int .i64 i, u17, u18, u19, u20, u21, u22, u23, u24, u25, u26, undef, undef, undef, undef, undef, u32, undef], Ds⟩) (fun a' _ => n - (intOf (a'.tmps.getD 16 undef)).toNat) ?start ?round
  case start => exact ⟨0, [], [], undef, undef, undef, undef, undef, undef, undef, undef, undef, undef, undef, undef, by omega, Lib.hid ⟨hst0, apart7_nil d, Nat.le_refl _⟩, rfl⟩
  case round =>
    clear hst0
    rintro a' W ⟨i, ks, Ds, u8, u17, u18, u19, u20, u21, u22, u23, u24, u25, u26, u32, hi, hH, rfl⟩
    by_cases hlt : i < n
    · have hiL : i < L.length := by have := HN.out.1; omega
      obtain ⟨rfl, hFb⟩ := HAO.out (by omega)
      have hce := HCE.out i hiL
      have f0 := hH.out.1.fr.cell hce.1 id
      have f1 := hH.out.1.fr.cell hce.2 id
      have hbd := HN.out.2.1.2 _ (List.getElem_mem hiL)
      obtain ⟨x, hx⟩ : ∃ x, x = L[i].1 := ⟨_, rfl⟩
      obtain ⟨y, hy⟩ : ∃ y, y = L[i].2 := ⟨_, rfl⟩
      rw [← hx] at f0 hbd
      rw [← hy] at f1 hbd
      have hxy : L[i] = (x, y) := by rw [hx, hy]
      obtain ⟨d1, d2, d3, d4⟩ := hbd
      obtain ⟨bo, hbo⟩ : ∃ bo, rnOk d (x, y) = bo := ⟨_, rfl⟩
      have hrun := fun W => WideF.out.calls (n := 2) (isRun_any W l la d x y hd d1 d2 d3 d4)
      rw [hbo] at hrun
      have HRUN := Lib.hid hrun
      have hg := fun o : Obj => row3_cells (((Fr.refl (fun _ => False) W).alloc o).heap hH.out.1.shape id)
      have g0 := fun o => (hg o).1
      have g1 := fun o => (hg o).2.1
      have g2 := fun o => (hg o).2.2
      clear hg
      have hlt64 : (i : Int) < (n : Int) := by omega
      have hne : b4 ≠ b5 := by have := HB.out.1; omega
      clear hrun hce hx hy
      cases bo with
      | false =>
        have HNO := Lib.hid (show apart7 d L = false by
          cases hap : apart7 d L with
          | false => rfl
          | true => rw [apart7_iff] at hap; have := hap.1 _ (List.getElem_mem hiL); rw [hxy, hbo] at this; cases this)
        have HNE := Lib.hid hne
        clear hbo hxy hne
        gi_wp2_with (refine ⟨trivial, ?_⟩; gi_at_call 66; refine (HRUN.out _).mono ?_; rintro e w5 ⟨rfl, hf5⟩; (have hst5 := (hH.out.1.quiet ((Fr.refl (fun _ => False) W).alloc _)).quiet hf5); (obtain ⟨x4, h4⟩ := hst5.r4); (obtain ⟨x5, h5⟩ := hst5.r5); (obtain ⟨e4, q4⟩ := one_cell h4); (obtain ⟨e5, q5⟩ := one_cell (one_put2 h4 h5 HNE.out (.map none))); (have H5 := Lib.hid hst5); clear hst5 h4 h5 hf5)
        have hT := H5.out.no (by have := HB.out.1; omega) (by have := HB.out.1; omega) HNE.out (.map none) (.bool false)
        exact hT.leave rfl rfl (Nat.le_refl _) (fun W' hW hf => ⟨.inr ⟨HNO.out, rfl⟩, hf⟩)
      | true =>
        obtain ⟨a, m, hxy2, hm1, ham⟩ := rnOk_nat hbo
        simp only [Prod.mk.injEq] at hxy2
        obtain ⟨rfl, rfl⟩ := hxy2
        have HNE := Lib.hid hne
        have HXY := Lib.hid hxy
        have HOK := Lib.hid hbo
        clear hbo hxy hne
        gi_wp2_with (first
          | (refine ⟨trivial, ?_⟩; gi_at_call 66; refine (HRUN.out _).mono ?_; rintro e w5 ⟨rfl, hf5⟩; (obtain ⟨q0, q1⟩ : w5.cell? ⟨W.heap.size, 0, none⟩ = some (.int .i64 (a : Int)) ∧ w5.cell? ⟨W.heap.size, 1, none⟩ = some (.int .i64 (m : Int)) := ⟨hf5.cell (cell_of_row _ _ _ _ _ _ (heap_alloc_new W _)) id, hf5.cell (cell_of_row _ _ _ _ _ _ (heap_alloc_new W _)) id⟩); (have H5 := Lib.hid ((hH.out.1.quiet ((Fr.refl (fun _ => False) W).alloc _)).quiet hf5)); (have HZ5 := Lib.hid (show W.heap.size + 1 ≤ w5.heap.size by have := hf5.size; simpa using this)); clear hf5)
          | (refine ⟨trivial, ?_⟩; gi_at_call 50; refine (WideF.out.calls (n := 2) (sectors_any _ _ _ _)).mono ?_; rintro e w6 ⟨rfl, rfl⟩))
        obtain ⟨sb, hsb⟩ : ∃ sb, sb = w5.heap.size := ⟨_, rfl⟩
        obtain ⟨W7, hW7⟩ : ∃ W7, W7 = (w5.alloc (.cells #[.int .i64 (a : Int), .int .i64 (m : Int)] 68)).alloc (.cells #[.slice (some ⟨w5.heap.size, 0, none⟩) 1 1] 24) := ⟨_, rfl⟩
        rw [← hsb] at hW7 ⊢
        rw [← hW7]
        have hf7 : Fr (fun _ => False) w5 W7 := by rw [hW7]; exact ((Fr.refl _ _).alloc _).alloc _
        have hz7 : W7.heap.size = sb + 2 := by rw [hW7, hsb]; simp
        have hr7 : W7.heap[sb]? = some (.cells #[.int .i64 (a : Int), .int .i64 (m : Int)] 68 (0, 0)) := by rw [hW7, hsb]; exact ((Fr.refl (fun _ => False) _).alloc _).heap (heap_alloc_new w5 _) id
        have hx7 : W7.heap[sb + 1]? = some (.cells #[.slice (some ⟨sb, 0, none⟩) 1 1] 24 (0, 0)) := by rw [hW7, hsb]; exact heap_alloc2_new w5 _ _
        have hst7 := H5.out.quiet hf7
        have hWz : W.heap.size + 1 ≤ sb := by rw [hsb]; exact HZ5.out
        have hB := HB.out
        have hW3z := hH.out.2.2
        have hks : ∀ k ∈ ks, k < W.heap.size := fun k hk => hH.out.1.marks.lt hk
        have hbl : b2 < W7.heap.size ∧ b4 < W7.heap.size ∧ b5 < W7.heap.size ∧ mb < W7.heap.size ∧ b6 < W7.heap.size ∧ w.heap.size ≤ W7.heap.size := by omega
        have hFz : ∀ k, F k → k < W7.heap.size := fun k hk => by have := HN.out.2.2.1 k hk; omega
        have hks7 : ∀ k ∈ ks, k < W7.heap.size := fun k hk => by have := hks k hk; omega
        have hok1 : ∀ r ∈ [(((a : Nat) : Int), ((m : Nat) : Int))], rnOk d r = true := fun r hr => by rw [List.mem_singleton.1 hr]; exact HOK.out
        have hIt : ItS (fun j => j = sb) (sb + 1) (.slice (some ⟨sb, 0, none⟩) 1 1) [((a : Int), (m : Int))] W7 := ⟨cell_of_one hx7, RnsIn.ofBlock hr7 ⟨d1, d2⟩ ⟨d3, d4⟩⟩
        obtain ⟨T, hT⟩ : ∃ T : Nat → Prop, T = fun b => b = mb ∨ W7.heap.size ≤ b := ⟨_, rfl⟩
        have hT0 : ∀ k, W7.heap.size ≤ k → T k := fun k hk => by rw [hT]; exact .inr hk
        have hTn : ∀ k, k ≠ mb → k < W7.heap.size → ¬ T k := fun k h1 h2 h3 => by rw [hT] at h3; rcases h3 with h3 | h3 <;> omega
        have hKb : ∀ (W : World) (l : Nat) (o o' : Obj), W7.heap.size ≤ l → W.heap[l]? = some o → o.isCells = false → o.isWalk = false → Kp7 T W (W.putObj l o') := fun W l o o' hl ho hc _ =>
          Kp7.of (S := (· = l)) (fr_putObj W l o' rfl) (fun k _ (e : k = l) => by rw [e]; exact hT0 l hl) (fun k hk (e : k = l) => by
            obtain ⟨cs, fr, h1⟩ := hk
            rw [e, ho] at h1
            cases h1
            cases hc)
        obtain ⟨S, hS⟩ : ∃ S, S = secs7 (L.take i) := ⟨_, rfl⟩
        have hSn : S.Nodup := by rw [hS]; exact (apart7_iff.1 hH.out.2.1).2
        have hS1 : secs7 (L.take (i + 1)) = S ++ secs7 [((a : Int), (m : Int))] := by rw [List.take_succ_eq_append_getElem hiL, secs7_append, hS, HXY.out]
        rw [← hS] at hst7
        have HST := Lib.hid hst7
        have HV := Lib.hid (And.intro hbl (And.intro hFz (And.intro hks7 (And.intro hS1 (And.intro hSn (And.intro hT (And.intro hT0 (And.intro hTn (And.intro hks hWz)))))))))
        clear hst7 hbl hB hks hS1 hS hT hr7 hx7 hf7 hW7 hsb q0 q1 f0 f1 g0 g1 g2
        refine wpIn_rangeFunc_ownH rfl (by decide) (gf := 72) (lb := #[.pointer (some ⟨sb + 1, 0, none⟩)]) rfl trivial (enters_of Try.func72 (by kernel_rfl) rfl)
          (sectors_stops (T := T) (F := fun j => j = sb) (d := d) 2 (sb + 1) (.slice (some ⟨sb, 0, none⟩) 1 1) [((a : Int), (m : Int))] hok1 hd (hTn _ (by have := HV.out.1; have := HB.out; omega) (by omega)) (fun k hk => hTn k (by have := HB.out; have : k = sb := hk; omega) (by have : k = sb := hk; omega)) W7 (fun k hk => by have : k = sb := hk; omega) hIt)
          (fun h k => h.trans k) hKb (Below.refl _ _) (fun _ => rfl)
          (fun (pre : List (Sc d)) W' => TkSt w W' w.heap.size b2 b4 b5 mb b6 l la d F (.slice (some ⟨b, off, none⟩) n cap) L (S ++ pre.map (·.1)) ks Ds ∧ (S ++ pre.map (·.1)).Nodup ∧ Fr T W7 W')
          (fun c (pre : List (Sc d)) W' => c = .ret ∧ TkNo w W' w.heap.size b4 b5 ks Ds (.map none) (.bool false) ∧ ¬ (S ++ pre.map (·.1)).Nodup)
          (fun pre A B row hs hg hr => ⟨hs.1.grown HV.out.1 HV.out.2.1 HV.out.2.2.1 hg hr, hs.2.1, hs.2.2.trans (S := T) ((Fr.refl (fun k => row = some k) A).grown hg (fun k hk => .inl hk)) (fun k hk => .inl (hT0 k (hr k hk).1))⟩)
          (fun c pre A B row hs hg hr => ⟨hs.1, hs.2.1.grown ⟨HV.out.1.2.1, HV.out.1.2.2.1, HV.out.1.2.2.2.2.2⟩ HV.out.2.2.1 hg hr, hs.2.2⟩)
          ⟨by simpa using HST.out, by simpa using hSn, Fr.refl _ _⟩
          (fun x a' W' => a' = ⟨#[.agg #[.int .i64 l, .int .i64 la, .int .i64 d], .slice (some ⟨b, off, none⟩) n cap, .pointer (some ⟨b2, 0, none⟩), undef, .pointer (some ⟨b4, 0, none⟩), .pointer (some ⟨b5, 0, none⟩), .pointer (some ⟨b6, 0, none⟩), undef, .pointer (some ⟨W.heap.size, 0, none⟩), .int .i64 (x.1 : Nat), .agg #[.int .i64 l, .int .i64 la, .int .i64 d], .bool true, .bool false, .map (some mb), .slice (some ⟨b, off, none⟩) n cap, .int .i64 n, .int .i64 i, .bool true,
            .pointer (some ⟨b, off + i * 2, none⟩), .agg #[.int .i64 a, .int .i64 m], .agg #[.int .i64 l, .int .i64 la, .int .i64 d], .agg #[.int .i64 a, .int .i64 m], .bool true, .bool false, .agg #[.int .i64 a, .int .i64 m], .slice (some ⟨sb, 0, none⟩) 1 1, .func (.func 72) #[] #[.pointer (some ⟨sb + 1, 0, none⟩)], .int .i64 (x.1 : Nat), undef, undef, undef, undef, u32, undef], []⟩)
          (fun x a' s A B row hs hg hr => hs) ?assign ?body ?done ?stop
        case assign =>
          rintro l9 pre x W' K hI hK
          simp only [enc7]
          gi_wp2
          exact hK _ _ (KeepsFrom.refl _ _) (Kp7.refl _ _) hI rfl
        case body =>
          rintro l9 pre x a' W' hll hr9 ⟨h1, h2, h3⟩ rfl hlt9
          have e6 : W'.cell? ⟨b6, 0, none⟩ = some (.map (some mb)) := cell_of_one h1.r6
          have hx8 : x.1 ≤ 8192 := by have := x.2; omega
          by_cases hxm : x.1 ∈ S ++ pre.map (·.1)
          · have HC := Lib.hid ((WideF.round l9).calls (n := 0) (hold_no W' mb x.1 _ h1.tk hx8 hxm))
            obtain ⟨x4, h4⟩ := h1.r4
            obtain ⟨x5, h5⟩ := h1.r5
            obtain ⟨e4, q4⟩ := one_cell h4
            obtain ⟨e5, q5⟩ := one_cell (one_put2 h4 h5 HNE.out (.map none))
            have HI := Lib.hid (And.intro (h1.no (by have := HB.out.1; omega) (by have := HB.out.1; omega) HNE.out (.map none) (.bool false)) hxm)
            clear h4 h5 h1 h2 h3 hxm
            gi_wp2_with (refine ⟨trivial, ?_⟩; gi_at_call 67; refine HC.out.mono ?_; rintro e w8 ⟨rfl, rfl⟩)
            refine ⟨(keepsFrom_fr (Fr.cell1 _ b4 0 _) (fun k e => by rw [show k = b4 from e]; exact HV.out.1.2.1)).trans (keepsFrom_fr (Fr.cell1 _ b5 0 _) (fun k e => by rw [show k = b5 from e]; exact HV.out.1.2.2.1)), rfl, HI.out.1, fun hnd => ?_⟩
            rw [List.map_append, ← List.append_assoc, List.nodup_append] at hnd
            exact hnd.2.2 _ HI.out.2 _ (by simp) rfl
          · have hSl : (S ++ pre.map (·.1)).length < 1000000 := by
              have h9 := nodup_bound d _ h2 (fun y hy => by
                rcases List.mem_append.1 hy with hy | hy
                · have := hH.out.2.1
                  rw [apart7_iff] at this
                  have hS9 : S = secs7 (L.take i) := by
                    have h8 := HV.out.2.2.2.1
                    rw [List.take_succ_eq_append_getElem hiL, secs7_append, HXY.out] at h8
                    exact (List.append_cancel_right h8).symm
                  rw [hS9] at hy
                  exact secs7_lt this.1 hy
                · obtain ⟨z, _, rfl⟩ := List.mem_map.1 hy
                  exact z.2)
              omega
            have HC := Lib.hid ((WideF.round l9).calls (n := 0) (hold_yes W' mb x.1 _ h1.tk hx8 hxm hSl))
            have HI := Lib.hid (And.intro h1 (And.intro h2 (And.intro h3 hxm)))
            clear h1 h2 h3 hxm hSl
            gi_wp2_with (refine ⟨trivial, ?_⟩; gi_at_call 67; refine HC.out.mono ?_; rintro e w8 ⟨rfl, ht8, hf8⟩; (have H8 := Lib.hid (And.intro ht8 hf8)); clear ht8 hf8)
            have hB := HB.out
            refine ⟨keepsFrom_fr H8.out.2 (fun k e => by rw [show k = mb from e]; exact HV.out.1.2.2.2.1), Kp7.of H8.out.2 (fun k _ e => by rw [HV.out.2.2.2.2.2.1]; exact .inl e) (fun k hk e => ?_), ?_, ?_, HI.out.2.2.1.trans H8.out.2 (fun k e => .inl (by rw [HV.out.2.2.2.2.2.1]; exact .inl e))⟩
            · obtain ⟨cs, fr, hk1⟩ := hk
              obtain ⟨D9, ⟨es, c9, ho9, _⟩, _⟩ := HI.out.1.tk
              rw [show k = mb from e, ho9] at hk1
              cases hk1
            · have h9 := HI.out.1.hold H8.out.1 H8.out.2 (by omega) HN.out.2.2.1
              simpa [List.append_assoc] using h9
            · rw [List.map_append, ← List.append_assoc, List.nodup_append]
              refine ⟨HI.out.2.1, by simp, fun u hu z hz e => ?_⟩
              subst e
              simp only [List.map_cons, List.map_nil, List.mem_singleton] at hz
              exact HI.out.2.2.2 (hz ▸ hu)
        case done =>
          rintro D ys W' hD rfl ⟨h1, h2, h3⟩ hK
          have hDk : D ∉ ks := fun hk => by have := HV.out.2.2.2.2.2.2.2.2.1 D hk; omega
          have hS2 : S ++ (xs7 d [((a : Int), (m : Int))] hok1).map (·.1) = secs7 (L.take (i + 1)) := by rw [xs7_val, HV.out.2.2.2.1]
          rw [hS2] at h1 h2
          have hap1 : apart7 d (L.take (i + 1)) = true := apart7_iff.2 ⟨fun r hr => by
            rw [List.take_succ_eq_append_getElem hiL] at hr
            rcases List.mem_append.1 hr with hr | hr
            · exact (apart7_iff.1 hH.out.2.1).1 r hr
            · rw [List.mem_singleton.1 hr, HXY.out]; exact HOK.out, h2⟩
          have HI := Lib.hid (show TkSt w W' w.heap.size b2 b4 b5 mb b6 l la d F (.slice (some ⟨b, off, none⟩) n cap) L (secs7 (L.take (i + 1))) (D :: ks) ({ target := .collected D, args := #[] } :: Ds) ∧ apart7 d (L.take (i + 1)) = true ∧ W3.heap.size ≤ W'.heap.size from
            ⟨h1.mark (by have := HV.out.1; omega) hK hDk, hap1, by have := h3.size; omega⟩)
          clear h1 h2 h3 hap1 hS2 hDk hK
          gi_wp2
          refine ⟨⟨i + 1, D :: ks, _, _, _, _, _, _, _, _, _, _, _, _, _, by omega, HI, rfl⟩, ?_⟩
          simp [intOf]
          omega
        case stop =>
          rintro D c pre W' hD hpre ⟨rfl, h1, h2⟩ hK
          have hDk : D ∉ ks := fun hk => by have := HV.out.2.2.2.2.2.2.2.2.1 D hk; omega
          have HNO := Lib.hid (show apart7 d L = false by
            cases hap : apart7 d L with
            | false => rfl
            | true =>
              exfalso
              have h8 := apart7_left (l := L.take (i + 1)) (m := L.drop (i + 1)) (by rw [List.take_append_drop]; exact hap)
              rw [apart7_iff, HV.out.2.2.2.1] at h8
              obtain ⟨rest, hrest⟩ := hpre
              have h7 := congrArg (List.map (·.1)) hrest
              rw [xs7_val, List.map_append] at h7
              rw [← h7, ← List.append_assoc, List.nodup_append] at h8
              exact h2 h8.2.1)
          have HI := Lib.hid (h1.mark (by have := HV.out.1; omega) hK hDk)
          clear h1 h2 hK hDk
          gi_wp2
          exact HI.out.leave rfl rfl (Nat.le_refl _) (fun W9 hW hf => ⟨.inr ⟨HNO.out, rfl⟩, hf⟩)
    · obtain rfl : i = n := by omega
      have e6 : W.cell? ⟨b6, 0, none⟩ = some (.map (some mb)) := cell_of_one hH.out.1.r6
      obtain ⟨x4, h4⟩ := hH.out.1.r4
      obtain ⟨x5, h5⟩ := hH.out.1.r5
      have hne : b4 ≠ b5 := by have := HB.out.1; omega
      obtain ⟨e4, f4⟩ := one_cell h4
      have h5' := one_put2 h4 h5 hne (.map (some mb))
      obtain ⟨e5, f5⟩ := one_cell h5'
      have HX := Lib.hid (And.intro h4 (And.intro h5 h5'))
      clear h4 h5 h5' hne
      gi_wp2
      have hT := hH.out.1.no (by have := HB.out.1; omega) (by have := HB.out.1; omega) (by have := HB.out.1; omega) (.map (some mb)) (.bool true)
      refine hT.leave rfl rfl (Nat.le_refl _) (fun W' hW hf => ⟨.inl ⟨?_, mb, rfl, ?_, by have := HB.out.2.1; omega⟩, hf⟩)
      · have := hH.out.2.1
        rwa [List.take_of_length_le (by rw [← HN.out.1]; exact Nat.le_refl _)] at this
      · have h9 := hH.out.1.out (by have := HB.out; omega) (by have := HB.out; omega) _ _ hW
        rwa [List.take_of_length_le (by rw [← HN.out.1]; exact Nat.le_refl _)] at h9
end Go.Proofs.Ytcbbcihfooaggaa
namespace Go.Proofs.Ytcbbcihfooaggaa
open Go.RowKit Go.ChangeShapes
set_option linter.unusedVariables false
attribute [local go_sem] Oper.semAt_some
def ap7 (L A D : Int) (l : List Rn) : Bool := rightS L A D && apart7 D.toNat l
theorem ap7_ok {l la d s : Nat} (h : ShOk l la d s) (L : List Rn) : ap7 l la d L = apart7 d L := by
  unfold ap7
  rw [rightS_nat h.l1 h.a1 h.d1 (by have := h.sum; have := h.most; omega)]
  simp
theorem ap7_no {L A D : Int} (h : rightS L A D = false) (l : List Rn) : ap7 L A D l = false := by rw [ap7, h]; rfl
theorem rightS_ok {L A D : Int} (h : rightS L A D = true) : ∃ l a d s : Nat, L = l ∧ A = a ∧ D = d ∧ ShOk l a d s := by
  obtain ⟨l, a, d, rfl, rfl, rfl, h1, h2, h3, h4⟩ := rightS_yes h
  exact ⟨l, a, d, _, rfl, rfl, rfl, ⟨h1, h2, h3, rfl, h4⟩⟩
set_option maxRecDepth 100000 in
set_option maxHeartbeats 1000000 in
theorem take_no (w : World) (L A D : Int) (v : Value) (h : rightS L A D = false) :
    CallsIn Fence.wide 3 Try.prog 40 #[.agg #[.int .i64 L, .int .i64 A, .int .i64 D], v] w fun e w' => e = .returned (.tuple #[.map none, .bool false]) ∧ Fr (fun _ => False) w w' := by
  refine callsIn_of_wp_marks Try.func40 rfl trivial ?_ rfl
  simp only [Try.ntmps40, List.size_toArray, List.length_cons, List.length_nil, Nat.reduceAdd, Nat.reduceSub, Array.replicate_succ, Array.replicate_zero, List.push_toArray, List.append_toArray, List.nil_append, List.cons_append]
  have hr := fun W => WideF.out.calls (n := 2) (lRight_any W L A D)
  rw [h] at hr
  have HR := Lib.hid hr
  clear hr h
  obtain ⟨k2, k4, k5⟩ := heap3_new w (.cells #[.int .i64 L, .int .i64 A, .int .i64 D] 23) (.cells #[.map none] 76) (.cells #[.bool false] 4)
  have HK := Lib.hid (And.intro k4 k5)
  have hne : w.heap.size + 1 ≠ w.heap.size + 1 + 1 := by omega
  have HNE := Lib.hid hne
  clear k2 k4 k5 hne
  gi_wp2_with (refine ⟨trivial, ?_⟩; gi_at_call 35; refine (HR.out _).mono ?_; rintro e w2 ⟨rfl, hf2⟩; (have h4 := hf2.heap HK.out.1 id); (have h5 := hf2.heap HK.out.2 id); (obtain ⟨e4, q4⟩ := one_cell h4); (obtain ⟨e5, q5⟩ := one_cell (one_put2 h4 h5 HNE.out (.map none))); (have H2 := Lib.hid (And.intro h4 (And.intro h5 hf2))); clear h4 h5 hf2)
  have h5' := one_put2 H2.out.1 H2.out.2.1 HNE.out (.map none)
  have hf : Fr (fun _ => False) w ((w2.setCell ⟨w.heap.size + 1, 0, none⟩ (.map none)).setCell ⟨w.heap.size + 1 + 1, 0, none⟩ (.bool false)) :=
    ((((((Fr.refl (fun _ => False) w).alloc _).alloc _).alloc _).trans H2.out.2.2 (fun _ h => h.elim)).trans (Fr.cell1 _ (w.heap.size + 1) 0 _) (fun k e => .inr (by have : k = w.heap.size + 1 := e; omega))).trans (Fr.cell1 _ (w.heap.size + 1 + 1) 0 _) (fun k e => .inr (by have : k = w.heap.size + 1 + 1 := e; omega))
  have hT : TkNo w ((w2.setCell ⟨w.heap.size + 1, 0, none⟩ (.map none)).setCell ⟨w.heap.size + 1 + 1, 0, none⟩ (.bool false)) w.heap.size (w.heap.size + 1) (w.heap.size + 1 + 1) [] [] (.map none) (.bool false) :=
    ⟨(Fr.cell1 _ (w.heap.size + 1 + 1) 0 _).heap (one_put H2.out.1 _) HNE.out, one_put h5' _, MarksOk.nil _ _, hf⟩
  exact hT.leave rfl rfl (Nat.le_refl _) (fun W' hW hf => ⟨rfl, hf⟩)
def TakeP (w : World) (L A D : Int) (l : List Rn) (e : Ending) (w' : World) : Prop :=
  ((ap7 L A D l = true ∧ ∃ mb, e = .returned (.tuple #[.map (some mb), .bool true]) ∧ TkAt w' mb (secs7 l) ∧ w.heap.size ≤ mb) ∨ (ap7 L A D l = false ∧ e = .returned (.tuple #[.map none, .bool false]))) ∧ Fr (fun _ => False) w w'
theorem take_any {F : Nat → Prop} (w : World) (L A D : Int) (v : Value) (l : List Rn) (hL : RnsIn F w v l) (hF : ∀ k, F k → k < w.heap.size) :
    Calls Try.prog 40 #[.agg #[.int .i64 L, .int .i64 A, .int .i64 D], v] w (TakeP w L A D l) := by
  cases h : rightS L A D with
  | true =>
    obtain ⟨l0, a0, d0, s0, rfl, rfl, rfl, hs⟩ := rightS_ok h
    refine (callsIn_wide.1 (take_in w l0 a0 d0 s0 v l hs hL hF)).mono ?_
    rintro e w' ⟨h1, h2⟩
    refine ⟨?_, h2⟩
    rw [ap7_ok hs]
    exact h1
  | false => exact (callsIn_wide.1 (take_no w L A D v h)).mono (fun e w' ⟨h1, h2⟩ => ⟨.inr ⟨ap7_no h l, h1⟩, h2⟩)
theorem take_y {F : Nat → Prop} (w : World) (L A D : Int) (v : Value) (l : List Rn) (hL : RnsIn F w v l) (hF : ∀ k, F k → k < w.heap.size) (h : ap7 L A D l = true) :
    Calls Try.prog 40 #[.agg #[.int .i64 L, .int .i64 A, .int .i64 D], v] w fun e w' => ∃ mb, e = .returned (.tuple #[.map (some mb), .bool true]) ∧ TkAt w' mb (secs7 l) ∧ w.heap.size ≤ mb ∧ Fr (fun _ => False) w w' :=
  (take_any w L A D v l hL hF).mono (fun e w' ⟨h1, h2⟩ => by
    rcases h1 with ⟨_, mb, h3, h4, h5⟩ | ⟨h3, _⟩
    · exact ⟨mb, h3, h4, h5, h2⟩
    · rw [h] at h3; cases h3)
theorem take_n {F : Nat → Prop} (w : World) (L A D : Int) (v : Value) (l : List Rn) (hL : RnsIn F w v l) (hF : ∀ k, F k → k < w.heap.size) (h : ap7 L A D l = false) :
    Calls Try.prog 40 #[.agg #[.int .i64 L, .int .i64 A, .int .i64 D], v] w fun e w' => e = .returned (.tuple #[.map none, .bool false]) ∧ Fr (fun _ => False) w w' :=
  (take_any w L A D v l hL hF).mono (fun e w' ⟨h1, h2⟩ => by
    rcases h1 with ⟨h3, _⟩ | ⟨_, h3⟩
    · rw [h] at h3; cases h3
    · exact ⟨h3, h2⟩)
set_option maxRecDepth 100000 in
theorem bApart_any {F : Nat → Prop} (w : World) (L A D : Int) (v : Value) (l : List Rn) (hL : RnsIn F w v l) (hF : ∀ k, F k → k < w.heap.size) :
    Calls Try.prog 16 #[.agg #[.int .i64 L, .int .i64 A, .int .i64 D], v] w fun e w' => e = .returned (.bool (ap7 L A D l)) ∧ Fr (fun _ => False) w w' := by
  have hf1 : Fr (fun _ => False) w (w.alloc (.cells #[.int .i64 L, .int .i64 A, .int .i64 D] 23)) := (Fr.refl _ _).alloc _
  have hLw := (hL.mono (G := fun k => F k ∧ k < w.heap.size) (fun k hk h => ⟨h, hk⟩)).quiet hf1
  have hFw : ∀ k, F k ∧ k < w.heap.size → k < (w.alloc (.cells #[.int .i64 L, .int .i64 A, .int .i64 D] 23)).heap.size := fun k hk => by have := hk.2; simp; omega
  cases hap : ap7 L A D l with
  | true =>
    have HC := Lib.hid (take_y _ L A D v l hLw hFw hap)
    have HF1 := Lib.hid hf1
    clear hLw hFw hf1 hap
    go_enter Try.func16, Try.ntmps16
    go_wp2_with (go_at_call 40; refine HC.out.mono ?_; rintro e w1 ⟨mb, rfl, ht, hmb, hf⟩; (have H1 := Lib.hid hf); clear ht hmb hf)
    go_ret
    exact ⟨rfl, HF1.out.trans H1.out (fun _ h => h.elim)⟩
  | false =>
    have HC := Lib.hid (take_n _ L A D v l hLw hFw hap)
    have HF1 := Lib.hid hf1
    clear hLw hFw hf1 hap
    go_enter Try.func16, Try.ntmps16
    go_wp2_with (go_at_call 40; refine HC.out.mono ?_; rintro e w1 ⟨rfl, hf⟩; (have H1 := Lib.hid hf); clear hf)
    go_ret
    exact ⟨rfl, HF1.out.trans H1.out (fun _ h => h.elim)⟩
set_option maxRecDepth 100000 in
set_option maxHeartbeats 1000000 in
theorem bFree_yes {F : Nat → Prop} (w : World) (l la d s : Nat) (v : Value) (L : List Rn) (hs : ShOk l la d s) (hL : RnsIn F w v L) (hF : ∀ k, F k → k < w.heap.size) (hap : apart7 d L = true) :
    Calls Try.prog 12 #[.agg #[.int .i64 l, .int .i64 la, .int .i64 d], v] w fun e w' => e = .returned (.tuple #[.int .i64 ((free7 d L).length : Nat), .int .i64 0]) ∧ Fr (fun _ => False) w w' := by
  have hd : d ≤ 8192 := by have := hs.sum; have := hs.most; omega
  have hfl := free7_length hap
  obtain ⟨q, hq⟩ : ∃ q, q = (free7 d L).length := ⟨_, rfl⟩
  obtain ⟨c, hc⟩ : ∃ c, c = (secs7 L).length := ⟨_, rfl⟩
  rw [← hq, ← hc] at hfl
  rw [← hq]
  have hsub : IntKind.i64.wrap ((d : Int) - (c : Int)) = (q : Int) := by rw [wrap_in5 (by omega) (by omega)]; omega
  obtain ⟨W1, hW1⟩ : ∃ W1, W1 = w.alloc (.cells #[.int .i64 l, .int .i64 la, .int .i64 d] 23) := ⟨_, rfl⟩
  have hf1 : Fr (fun _ => False) w W1 := by rw [hW1]; exact (Fr.refl _ _).alloc _
  have hrow : W1.heap[w.heap.size]? = some (.cells #[.int .i64 l, .int .i64 la, .int .i64 d] 23 (0, 0)) := by rw [hW1]; exact heap_alloc_new w _
  have hLw := (hL.mono (G := fun k => F k ∧ k < w.heap.size) (fun k hk h => ⟨h, hk⟩)).quiet hf1
  have hcl := bApart_any W1 l la d v L hLw (fun k hk => by have := hk.2; have := hf1.size; omega)
  rw [ap7_ok hs, hap] at hcl
  have HC := Lib.hid hcl
  have HX := Lib.hid (And.intro hf1 (And.intro hLw (And.intro hrow (And.intro hap hc))))
  have HW := Lib.hid hW1
  clear hcl hf1 hap hq hc hrow hLw hs hL hF hW1 hfl
  go_enter Try.func12, Try.ntmps12
  go_wp2_with (go_at_call 16; rw [← HW.out]; refine HC.out.mono ?_; rintro e w1 ⟨rfl, hf⟩; (have H1 := Lib.hid hf); clear hf)
  have k2 : w1.cell? ⟨w.heap.size, 2, none⟩ = some (.int .i64 (d : Int)) := cell_of_row _ _ _ _ _ _ (H1.out.heap HX.out.2.2.1 id)
  have HCN := Lib.hid (count_any w1.drew v L ((HX.out.2.1.quiet H1.out).quiet (Fr.refl (fun _ => False) w1).drew) hd HX.out.2.2.2.1)
  go_region_held3 (fun w' => w'.cell? ⟨w.heap.size, 2, none⟩ = some (.int .i64 (d : Int))) (first | assumption | go_keep)
    ((go_at_call 41; refine HCN.out.mono ?_; rintro e w3 ⟨rfl, hf3⟩; rw [← HX.out.2.2.2.2]; (have k3 := hf3.cell k2 id); (have H3 := Lib.hid hf3); clear hf3))
  go_wp2
  go_ret2
  exact ⟨rfl, ((HX.out.1.trans H1.out (fun _ h => h.elim)).trans (Fr.refl (fun _ => False) w1).drew (fun _ h => h.elim)).trans H3.out (fun _ h => h.elim)⟩
end Go.Proofs.Ytcbbcihfooaggaa
