/- Laid together: BFind BSame BAwake BAns -/
import Derived.Test.YtcbbcihfooaggaaBk11
import Derived.Test.YtcbbcihfooaggaaBk10
import Derived.Deep.OwnRows
import Derived.Test.YtcbbcihfooaggaaBk0
import Derived.Laws.StructEq
import Derived.DeepKeys4

namespace Go.Proofs.Ytcbbcihfooaggaa
open Go.RowKit Go.ChangeShapes
set_option linter.unusedVariables false
attribute [local go_sem] Oper.semAt_some
set_option maxRecDepth 100000 in
set_option maxHeartbeats 1000000 in
theorem bFind_full {F : Nat → Prop} (w : World) (l la d s many : Nat) (v : Value) (L : List Rn) (hs : ShOk l la d s) (hL : RnsIn F w v L) (hF : ∀ k, F k → k < w.heap.size) (hap : apart7 d L = true) (hm : (free7 d L).length < many) (hm2 : many ≤ 9223372036854775807) :
    Calls Try.prog 10 #[.agg #[.int .i64 l, .int .i64 la, .int .i64 d], .int .i64 many, v] w fun e w' => e = .returned (.tuple #[.slice none 0 0, .int .i64 7]) ∧ Fr (fun _ => False) w w' := by
  have hd : d ≤ 8192 := by have := hs.sum; have := hs.most; omega
  have hfl := free7_length hap
  obtain ⟨q, hq⟩ : ∃ q, q = (free7 d L).length := ⟨_, rfl⟩
  obtain ⟨c, hc⟩ : ∃ c, c = (secs7 L).length := ⟨_, rfl⟩
  rw [← hq, ← hc] at hfl
  rw [← hq] at hm
  have hsub : IntKind.i64.wrap ((d : Int) - (c : Int)) = (q : Int) := by rw [wrap_in5 (by omega) (by omega)]; omega
  obtain ⟨W1, hW1⟩ : ∃ W1, W1 = (w.alloc (.cells #[.int .i64 l, .int .i64 la, .int .i64 d] 23)).alloc (.cells #[.int .i64 many] 3) := ⟨_, rfl⟩
  have hf1 : Fr (fun _ => False) w W1 := by rw [hW1]; exact ((Fr.refl _ _).alloc _).alloc _
  have hm1 : W1.heap[w.heap.size + 1]? = some (.cells #[.int .i64 many] 3 (0, 0)) := by rw [hW1]; exact heap_alloc2_new w _ _
  have hrow : W1.heap[w.heap.size]? = some (.cells #[.int .i64 l, .int .i64 la, .int .i64 d] 23 (0, 0)) := by rw [hW1]; exact ((Fr.refl (fun _ => False) _).alloc _).heap (heap_alloc_new w _) id
  have hLw := (hL.mono (G := fun k => F k ∧ k < w.heap.size) (fun k hk h => ⟨h, hk⟩)).quiet hf1
  have hFw : ∀ k, F k ∧ k < w.heap.size → k < W1.heap.size := fun k hk => by have := hk.2; have := hf1.size; omega
  have HW := Lib.hid hW1
  have HC := Lib.hid (take_y _ l la d v L hLw hFw (by rw [ap7_ok hs]; exact hap))
  have HX := Lib.hid (And.intro hf1 (And.intro hm1 (And.intro hrow (And.intro hLw (And.intro hap hc)))))
  have hn0 : ¬ (many : Int) < 0 := by omega
  have hgt : (q : Int) < (many : Int) := by omega
  clear hLw hFw hf1 hm1 hap hW1 hL hF hrow hs hq hc hfl
  go_enter Try.func10, Try.ntmps10
  go_wp2_with (go_at_call 40; rw [← HW.out]; refine HC.out.mono ?_; rintro e w1 ⟨mb, rfl, ht, hmb, hf⟩; (have c1 := cell_of_one (hf.heap HX.out.2.1 id)); (have k2 : w1.cell? ⟨w.heap.size, 2, none⟩ = some (.int .i64 (d : Int)) := cell_of_row _ _ _ _ _ _ (hf.heap HX.out.2.2.1 id)); (have H1 := Lib.hid hf); clear ht hmb hf)
  have HCN := Lib.hid (count_any w1.drew v L ((HX.out.2.2.2.1.quiet H1.out).quiet (Fr.refl (fun _ => False) w1).drew) hd HX.out.2.2.2.2.1)
  go_region_held3 (fun w' => w'.cell? ⟨w.heap.size, 2, none⟩ = some (.int .i64 (d : Int)) ∧ w'.cell? ⟨w.heap.size + 1, 0, none⟩ = some (.int .i64 (many : Int))) (first | exact ⟨by assumption, by assumption⟩ | go_keep)
    ((go_at_call 41; refine HCN.out.mono ?_; rintro e w3 ⟨rfl, hf3⟩; rw [← HX.out.2.2.2.2.2]; (have k3 := hf3.cell k2 id); (have c3 := hf3.cell c1 id); (have H3 := Lib.hid hf3); clear hf3))
  go_wp2
  go_ret2
  exact ⟨rfl, ((HX.out.1.trans H1.out (fun _ h => h.elim)).trans (Fr.refl (fun _ => False) w1).drew (fun _ h => h.elim)).trans H3.out (fun _ h => h.elim)⟩
theorem joins7_bounds {d : Nat} {xs : List Nat} (h : ∀ x ∈ xs, x < d) : (joins7 xs).length ≤ xs.length ∧ ∀ r ∈ joins7 xs, rnOk d r = true := by
  have h1 := rnOk_of (joins7_Pos xs) (d := d) (fun x hx => by rw [joins7_secs] at hx; exact h x hx)
  have h2 := secs7_many h1
  rw [joins7_secs] at h2
  exact ⟨h2, h1⟩
theorem OwnRn.own {z : Nat} {w : World} {v : Value} {l : List Rn} (h : OwnRn z w v l) {g : Nat} (hg : v.ownBlock = some g) : z ≤ g ∧ ∃ cs, w.heap[g]? = some (.cells cs 68 (0, 0)) := by
  rcases OwnRn.block h with ⟨rfl, _⟩ | ⟨g', cap, cur, rfl, hz, hb, _⟩
  · simp [Value.ownBlock] at hg
  · simp only [Value.ownBlock, Option.some.injEq] at hg
    subst hg
    exact ⟨hz, _, hb⟩
theorem OwnRn.grown {z : Nat} {w w' : World} {v : Value} {l : List Rn} {row : Option Nat} (h : OwnRn z w v l) (hg : w.grownBy w' row) (hr : ∀ r, row = some r → ∃ o : Obj, w.heap[r]? = some o ∧ o.isCells = false) : OwnRn z w' v l :=
  OwnE.keep h ((Fr.refl (fun k => row = some k) w).grown hg (fun k hk => .inl hk)) (fun g hgb e => by
    obtain ⟨_, cs, hb⟩ := h.own hgb
    obtain ⟨o, ho, hc⟩ := hr g e
    rw [hb] at ho
    cases ho
    cases hc)
structure FdSt (T : Nat → Prop) (z : Nat) (W4 W : World) (bl bm many : Nat) (xs : List Nat) : Prop where
  own : ∃ v, W.heap[bl]? = some (.cells #[v] 24 (0, 0)) ∧ OwnRn z W v (joins7 xs)
  left : W.heap[bm]? = some (.cells #[.int .i64 ((many - xs.length : Nat) : Int)] 3 (0, 0))
  le : xs.length ≤ many
  fr : Fr T W4 W
theorem FdSt.grown {T : Nat → Prop} {z : Nat} {W4 W W' : World} {bl bm many : Nat} {xs : List Nat} {row : Option Nat} (h : FdSt T z W4 W bl bm many xs) (hb : bl < z ∧ bm < z) (hT : ∀ k, z ≤ k → T k) (hg : W.grownBy W' row) (hr : ∀ r, row = some r → z ≤ r ∧ ∃ o : Obj, W.heap[r]? = some o ∧ o.isCells = false) : FdSt T z W4 W' bl bm many xs := by
  have hf : Fr (fun k => row = some k) W W' := (Fr.refl _ W).grown hg (fun k hk => .inl hk)
  have hn : ∀ k, k < z → ¬ row = some k := fun k hk e => by have := (hr k e).1; omega
  obtain ⟨v, h1, h2⟩ := h.own
  exact ⟨⟨v, hf.heap h1 (hn _ hb.1), h2.grown hg (fun r e => (hr r e).2)⟩, hf.heap h.left (hn _ hb.2), h.le, h.fr.trans hf (fun k hk => .inl (hT k (hr k hk).1))⟩
theorem FdSt.step {T : Nat → Prop} {z : Nat} {W4 W w8 : World} {bl bm many x : Nat} {xs : List Nat} {v0 v8 : Value} (h : FdSt T z W4 W bl bm many xs) (hb : bl < z ∧ bm < z) (hne : bl ≠ bm) (hT : ∀ k, z ≤ k → T k) (hTl : T bl) (hTm : T bm) (h1 : W.heap[bl]? = some (.cells #[v0] 24 (0, 0))) (h0 : OwnRn z W v0 (joins7 xs)) (h8 : OwnRn z w8 v8 (joins7 (xs ++ [x]))) (hf8 : Fr (fun k => v0.ownBlock = some k) W w8) (hlt : xs.length < many) (y : Int) (hy : y = ((many - (xs.length + 1) : Nat) : Int)) :
    KeepsFrom z W ((w8.setCell ⟨bl, 0, none⟩ v8).setCell ⟨bm, 0, none⟩ (.int .i64 y)) ∧ Fr T W ((w8.setCell ⟨bl, 0, none⟩ v8).setCell ⟨bm, 0, none⟩ (.int .i64 y)) ∧ FdSt T z W4 ((w8.setCell ⟨bl, 0, none⟩ v8).setCell ⟨bm, 0, none⟩ (.int .i64 y)) bl bm many (xs ++ [x]) := by
  have hob : ∀ k, v0.ownBlock = some k → z ≤ k ∧ ∃ cs, W.heap[k]? = some (.cells cs 68 (0, 0)) := fun k hk => h0.own hk
  have hl8 := hf8.heap h1 (fun e => by have := (hob _ e).1; omega)
  have hm8 := hf8.heap h.left (fun e => by have := (hob _ e).1; omega)
  have f1 := Fr.cell1 w8 bl 0 v8
  have f2 := Fr.cell1 (w8.setCell ⟨bl, 0, none⟩ v8) bm 0 (.int .i64 y)
  have hall : Fr (fun k => v0.ownBlock = some k ∨ k = bl ∨ k = bm) W ((w8.setCell ⟨bl, 0, none⟩ v8).setCell ⟨bm, 0, none⟩ (.int .i64 y)) :=
    ((hf8.mono (T := fun k => v0.ownBlock = some k ∨ k = bl ∨ k = bm) (fun _ _ h => .inl h)).trans f1 (fun k e => .inl (.inr (.inl e)))).trans f2 (fun k e => .inl (.inr (.inr e)))
  have hallT : Fr T W ((w8.setCell ⟨bl, 0, none⟩ v8).setCell ⟨bm, 0, none⟩ (.int .i64 y)) := hall.mono (fun k _ hk => by
    rcases hk with hk | rfl | rfl
    · exact hT k (hob k hk).1
    · exact hTl
    · exact hTm)
  refine ⟨⟨hall.size, fun k o hzk hk hc => hall.heap hk (fun hs => ?_)⟩, hallT, ⟨⟨v8, f2.heap (one_put hl8 v8) hne, (OwnE.keep h8 f1 (fun g hg e => ?_)).keep f2 (fun g hg e => ?_)⟩, ?_, by rw [List.length_append]; exact hlt, h.fr.trans hallT (fun _ h => .inl h)⟩⟩
  · rcases hs with hs | rfl | rfl
    · obtain ⟨_, cs, hb9⟩ := hob k hs
      rw [hb9] at hk
      cases hk
      cases hc
    · omega
    · omega
  · have := (h8.own hg).1
    have e' : g = bl := e
    omega
  · have := (h8.own hg).1
    have e' : g = bm := e
    omega
  · rw [List.length_append]
    have h9 := one_put (one_put2 hl8 hm8 hne v8) (.int .i64 y)
    rw [h9, hy]
    rfl
theorem OwnRn.lower {z z' : Nat} {w : World} {v : Value} {l : List Rn} (h : OwnRn z w v l) (hz : z' ≤ z) : OwnRn z' w v l := by
  refine ⟨⟨(OwnE.row h).1, ?_⟩, OwnE.each h⟩
  rcases (OwnE.row h).2 with e | ⟨g, cap, cur, hv, hb, r⟩
  · exact .inl e
  · exact .inr ⟨g, cap, cur, hv, Nat.le_trans hz hb, r⟩
def FindPost (w : World) (l : List Rn) (e : Ending) (w' : World) : Prop := ∃ v', e = .returned (.tuple #[v', .int .i64 0]) ∧ OwnRn w.heap.size w' v' l ∧ Fr (fun _ => False) w w'
set_option maxRecDepth 100000 in
set_option maxHeartbeats 4000000 in
theorem bFind_in {F : Nat → Prop} (w : World) (l la d s many : Nat) (v : Value) (L : List Rn) (hs : ShOk l la d s) (hL : RnsIn F w v L) (hF : ∀ k, F k → k < w.heap.size) (hap : apart7 d L = true) (hm : many ≤ (free7 d L).length) :
    CallsIn Fence.wide 3 Try.prog 10 #[.agg #[.int .i64 l, .int .i64 la, .int .i64 d], .int .i64 many, v] w (FindPost w (find7 d L many)) := by
  have hd : d ≤ 8192 := by have := hs.sum; have := hs.most; omega
  have hfl := free7_length hap
  obtain ⟨q, hq⟩ : ∃ q, q = (free7 d L).length := ⟨_, rfl⟩
  obtain ⟨c, hc⟩ : ∃ c, c = (secs7 L).length := ⟨_, rfl⟩
  rw [← hq, ← hc] at hfl
  rw [← hq] at hm
  have hsub : IntKind.i64.wrap ((d : Int) - (c : Int)) = (q : Int) := by rw [wrap_in5 (by omega) (by omega)]; omega
  obtain ⟨W1, hW1⟩ : ∃ W1, W1 = (w.alloc (.cells #[.int .i64 l, .int .i64 la, .int .i64 d] 23)).alloc (.cells #[.int .i64 many] 3) := ⟨_, rfl⟩
  have hf1 : Fr (fun _ => False) w W1 := by rw [hW1]; exact ((Fr.refl _ _).alloc _).alloc _
  have hz1 : W1.heap.size = w.heap.size + 2 := by rw [hW1]; simp
  have hm1 : W1.heap[w.heap.size + 1]? = some (.cells #[.int .i64 many] 3 (0, 0)) := by rw [hW1]; exact heap_alloc2_new w _ _
  have hrow : W1.heap[w.heap.size]? = some (.cells #[.int .i64 l, .int .i64 la, .int .i64 d] 23 (0, 0)) := by rw [hW1]; exact ((Fr.refl (fun _ => False) _).alloc _).heap (heap_alloc_new w _) id
  have hLw := (hL.mono (G := fun k => F k ∧ k < w.heap.size) (fun k hk h => ⟨h, hk⟩)).quiet hf1
  have hFw : ∀ k, F k ∧ k < w.heap.size → k < W1.heap.size := fun k hk => by have := hk.2; have := hf1.size; omega
  have HW := Lib.hid hW1
  have HC := Lib.hid (take_y _ l la d v L hLw hFw (by rw [ap7_ok hs]; exact hap))
  have HX := Lib.hid (And.intro hf1 (And.intro hm1 (And.intro hrow (And.intro hLw (And.intro hap (And.intro hc (And.intro hq hz1)))))))
  have hn0 : decide ((many : Int) < 0) = false := by rw [decide_eq_false_iff_not]; omega
  have hgt : decide ((q : Int) < (many : Int)) = false := by rw [decide_eq_false_iff_not]; omega
  have hgt2 : ¬ (q : Int) < (many : Int) := by omega
  have hqd : q ≤ d := by omega
  clear hLw hFw hf1 hm1 hap hW1 hL hF hrow hs hq hc hfl hz1
  refine callsIn_of_wp_marks Try.func10 rfl trivial ?_ rfl
  simp only [Try.ntmps10, List.size_toArray, List.length_cons, List.length_nil, Nat.reduceAdd, Nat.reduceSub, Array.replicate_succ, Array.replicate_zero, List.push_toArray, List.append_toArray, List.nil_append, List.cons_append]
  refine wpIn_wide.2 ?_
  go_wp2_with (go_at_call 40; rw [← HW.out]; refine HC.out.mono ?_; rintro e w1 ⟨mb, rfl, ht, hmb, hf⟩; (have c1 := cell_of_one (hf.heap HX.out.2.1 id)); (have k2 : w1.cell? ⟨w.heap.size, 2, none⟩ = some (.int .i64 (d : Int)) := cell_of_row _ _ _ _ _ _ (hf.heap HX.out.2.2.1 id)); (have H1 := Lib.hid (And.intro hf (And.intro ht hmb))); clear ht hmb hf)
  have HCN := Lib.hid (count_any w1.drew v L ((HX.out.2.2.2.1.quiet H1.out.1).quiet (Fr.refl (fun _ => False) w1).drew) hd HX.out.2.2.2.2.1)
  go_region_held3 (fun w' => w'.cell? ⟨w.heap.size, 2, none⟩ = some (.int .i64 (d : Int)) ∧ w'.cell? ⟨w.heap.size + 1, 0, none⟩ = some (.int .i64 (many : Int))) (first | exact ⟨by assumption, by assumption⟩ | go_keep)
    ((go_at_call 41; refine HCN.out.mono ?_; rintro e w3 ⟨rfl, hf3⟩; rw [← HX.out.2.2.2.2.2.1]; (have k3 := hf3.cell k2 id); (have c3 := hf3.cell c1 id); (have H3 := Lib.hid hf3); clear hf3))
  have k4 : ∀ o, (w3.alloc o).cell? ⟨w.heap.size, 2, none⟩ = some (.int .i64 (d : Int)) := fun o => ((Fr.refl (fun _ => False) w3).alloc o).cell k3 id
  go_wp2_with (go_at_call 42; refine (free_any _ mb (d : Int)).mono ?_; rintro e w4 ⟨rfl, rfl⟩)
  obtain ⟨bl, hbl⟩ : ∃ bl, bl = w3.heap.size := ⟨_, rfl⟩
  obtain ⟨bm, hbm⟩ : ∃ bm, bm = w.heap.size + 1 := ⟨_, rfl⟩
  obtain ⟨W4, hW4⟩ : ∃ W4, W4 = ((w3.alloc (.cells #[.slice none 0 0] 24)).alloc (.cells #[.map (some mb)] 76)).alloc (.cells #[.int .i64 (d : Int)] 3) := ⟨_, rfl⟩
  have hf4 : Fr (fun _ => False) w3 W4 := by rw [hW4]; exact (((Fr.refl _ _).alloc _).alloc _).alloc _
  have hz4 : W4.heap.size = bl + 3 := by rw [hW4, hbl]; simp
  obtain ⟨j1, j2, j3⟩ := heap3_new w3 (.cells #[.slice none 0 0] 24) (.cells #[.map (some mb)] 76) (.cells #[.int .i64 (d : Int)] 3)
  rw [← hW4, ← hbl] at j1 j2 j3
  rw [← hbl, ← hbm, ← hW4]
  have hf13 : Fr (fun _ => False) w1 w3 := (Fr.refl (fun _ => False) w1).drew.trans H3.out (fun _ h => h.elim)
  have hm4 : W4.heap[bm]? = some (.cells #[.int .i64 (many : Int)] 3 (0, 0)) := hf4.heap (hf13.heap (H1.out.1.heap (by rw [hbm]; exact HX.out.2.1) id) id) id
  have hs13 := hf13.size
  have hmbl : mb < bl := by have := H1.out.2.1.lt; omega
  have hmbg : w.heap.size + 2 ≤ mb := by have h9 := H1.out.2.2; have h8 := HX.out.2.2.2.2.2.2.2; rw [h8] at h9; exact h9
  have hbmz : bm < mb := by omega
  have hwl : w.heap.size ≤ bl := by omega
  obtain ⟨T, hT⟩ : ∃ T : Nat → Prop, T = fun b => b = bl ∨ b = bm ∨ W4.heap.size ≤ b := ⟨_, rfl⟩
  have hT0 : ∀ k, W4.heap.size ≤ k → T k := fun k hk => by rw [hT]; exact .inr (.inr hk)
  have hTn : ∀ k, k ≠ bl → k ≠ bm → k < W4.heap.size → ¬ T k := fun k h1 h2 h3 h4 => by rw [hT] at h4; rcases h4 with h4 | h4 | h4 <;> omega
  have hIt : ItF mb (bl + 1 + 1) (bl + 1) d (secs7 L) W4 := ⟨cell_of_one j3, cell_of_one j2, (H1.out.2.1.keep hf13 id).keep hf4 id⟩
  have hst0 : FdSt T W4.heap.size W4 W4 bl bm many [] := ⟨⟨_, j1, OwnRn.nil _ _⟩, hm4, by simp, Fr.refl _ _⟩
  have hfw : Fr (fun _ => False) w W4 := ((HX.out.1.trans H1.out.1 (fun _ h => h.elim)).trans hf13 (fun _ h => h.elim)).trans hf4 (fun _ h => h.elim)
  have HV := Lib.hid (And.intro hT (And.intro hT0 (And.intro hz4 (And.intro hmbl (And.intro hbmz (And.intro hfw (And.intro hbm hwl)))))))
  clear hf4 j1 j2 j3 hf13 hm4 hs13 hmbl hmbg hbmz hwl hT hW4 hbl hbm hfw c1 c3 k2 k3 k4 hz4
  refine (wpIn_wide (n := 3)).1 ?_
  refine wpIn_rangeFunc_ownH rfl (by decide) (gf := 68) (lb := #[.pointer (some ⟨bl + 1 + 1, 0, none⟩), .pointer (some ⟨bl + 1, 0, none⟩)]) rfl trivial (enters_of Try.func68 (by kernel_rfl) rfl)
    (free_stops (T := T) (d := d) 2 (bl + 1 + 1) (bl + 1) mb L hd (hTn _ (by omega) (by have := HV.out.2.2; omega) (by have := HV.out.2.2.1; omega)) (hTn _ (by omega) (by have := HV.out.2.2; omega) (by have := HV.out.2.2.1; omega)) (hTn _ (by have := HV.out.2.2; omega) (by have := HV.out.2.2; omega) (by have := HV.out.2.2; omega)) W4 hIt)
    (fun h k => h.trans k (fun _ hi => .inl hi)) (fun W l o o' hl _ _ _ => fr_putObj W l o' (hT0 l hl)) (Below.refl _ _) (fun _ => rfl)
    (fun (pre : List (Sc d)) W => FdSt T W4.heap.size W4 W bl bm many (pre.map (fun (y : Sc d) => y.1)))
    (fun c (pre : List (Sc d)) W => c = .exit 1 ∧ ∃ (ini : List (Sc d)) (x : Sc d), pre = ini ++ [x] ∧ ini.length = many ∧ FdSt T W4.heap.size W4 W bl bm many (ini.map (fun (y : Sc d) => y.1)))
    (fun pre A B row hs hg hr => hs.grown (by have := HV.out.2.2; omega) hT0 hg hr)
    (fun c pre A B row hs hg hr => by
      obtain ⟨e0, ini, x, e1, e2, e3⟩ := hs
      exact ⟨e0, ini, x, e1, e2, e3.grown (by have := HV.out.2.2; omega) hT0 hg hr⟩)
    hst0
    (fun x a' W => a' = ⟨#[.agg #[.int .i64 l, .int .i64 la, .int .i64 d], .int .i64 many, v, .pointer (some ⟨w.heap.size, 0, none⟩), .pointer (some ⟨bm, 0, none⟩), undef, .slice none 0 0, .int .i64 0, .map (some mb), .bool true, .pointer (some ⟨bl, 0, none⟩), .int .i64 (x.1 : Nat), .tuple #[.map (some mb), .bool true], .agg #[.int .i64 l, .int .i64 la, .int .i64 d], v, .tuple #[.map (some mb), .bool true], .map (some mb), .bool true,
      .bool false, .bool true, .bool false, .bool false, .int .i64 many, .bool false, .bool false, .bool false, .int .i64 many, .pointer (some ⟨w.heap.size, 2, none⟩), .int .i64 d, v, .int .i64 c, .int .i64 q, .bool false, .map (some mb), .pointer (some ⟨w.heap.size, 2, none⟩), .int .i64 d, .func (.func 68) #[] #[.pointer (some ⟨bl + 1 + 1, 0, none⟩), .pointer (some ⟨bl + 1, 0, none⟩)], .int .i64 (x.1 : Nat), undef, undef, undef, undef, undef, undef, undef, undef], []⟩)
    (fun x a' s A B row hs hg hr => hs) ?assign ?body ?done ?stop
  case assign =>
    rintro l9 pre x W' K hI hK
    simp only [enc7]
    gi_wp2
    exact hK _ _ (KeepsFrom.refl _ _) (Fr.refl _ _) hI rfl
  case body =>
    rintro l9 pre x a' W hll hr9 hst rfl hlt9
    obtain ⟨v0, h1, ho⟩ := hst.own
    obtain ⟨a0, c0, hv0⟩ := ho.form
    obtain ⟨xs, hxs⟩ : ∃ xs, xs = pre.map (fun (y : Sc d) => y.1) := ⟨_, rfl⟩
    have hxl : xs.length = pre.length := by rw [hxs, List.length_map]
    have hxd : ∀ y ∈ xs, y < d := fun y hy => by rw [hxs] at hy; obtain ⟨z, _, rfl⟩ := List.mem_map.1 hy; exact z.2
    rw [← hxs] at hst ho hv0
    have hm8 := hst.left
    obtain ⟨j, hj⟩ : ∃ j, j = many - xs.length := ⟨_, rfl⟩
    rw [← hj] at hm8
    have HV2 := HV.out
    have hle := hst.le
    by_cases hj0 : j = 0
    · rw [hj0] at hm8
      have em : W.cell? ⟨bm, 0, none⟩ = some (.int .i64 0) := cell_of_one hm8
      have HI := Lib.hid (And.intro hst (show pre.length = many by omega))
      have HXS := Lib.hid hxs
      clear hst hxs hxl hxd hj hj0 ho hv0 h1 hm8 hle HV2
      gi_wp2
      refine ⟨KeepsFrom.refl _ _, rfl, pre, x, rfl, HI.out.2, ?_⟩
      rw [← HXS.out]
      exact HI.out.1
    · have em : W.cell? ⟨bm, 0, none⟩ = some (.int .i64 (j : Int)) := cell_of_one hm8
      have el : W.cell? ⟨bl, 0, none⟩ = some v0 := cell_of_one h1
      have hjn : ((j : Int) == 0) = false := by rw [beq_eq_false_iff_ne]; omega
      have hjw : IntKind.i64.wrap ((j : Int) - 1) = (j : Int) - 1 := wrap_in5 (by omega) (by omega)
      have hjb : 1 ≤ j ∧ j ≤ 8192 := by omega
      have hbd := joins7_bounds hxd
      have hxsl : xs.length ≤ 8192 := by omega
      have HJ := Lib.hid (joined_any W4.heap.size W v0 (joins7 xs) x.1 ho (by have := hst.fr.size; omega) (by have := x.2; omega) (by have := hbd.1; omega) (fun r hr => by have h9 := rnOk_iff.1 (hbd.2 r hr); omega))
      subst hv0
      have HI := Lib.hid (And.intro hst (And.intro h1 (And.intro ho hm8)))
      have HXS := Lib.hid (And.intro hxs (And.intro hj hxl))
      have hbne : bl ≠ bm := by omega
      have hblz : bl < W4.heap.size ∧ bm < W4.heap.size := by omega
      have HBN := Lib.hid (And.intro hbne hblz)
      clear hst hxs hxl hxd hj hj0 ho h1 hm8 hle hbd hxsl HV2 hbne hblz
      gi_wp2_with (refine ⟨trivial, ?_⟩; gi_at_call 43; refine ((WideF.round l9).calls (n := 0) HJ.out).mono ?_; rintro e w8 ⟨v8, rfl, ho8, hf8⟩; (obtain ⟨a8, c8, rfl⟩ := ho8.form); (have hl8 := hf8.heap HI.out.2.1 (fun e => by have := (HI.out.2.2.1.own e).1; have := HBN.out.2; omega)); (have hm8 := hf8.heap HI.out.2.2.2 (fun e => by have := (HI.out.2.2.1.own e).1; have := HBN.out.2; omega)); (obtain ⟨q1, q2⟩ := one_cell hl8); (obtain ⟨q3, q4⟩ := one_cell (one_put2 hl8 hm8 HBN.out.1 (.slice a8 (jn7 (joins7 xs) x.1).length c8))); (have H8 := Lib.hid (And.intro ho8 hf8)); clear ho8 hf8 hl8 hm8)
      have hT := HV.out.1
      have h9 := HI.out.1.step (x := x.1) (v8 := .slice a8 (jn7 (joins7 xs) x.1).length c8) HBN.out.2 HBN.out.1 hT0 (by rw [hT]; exact .inl rfl) (by rw [hT]; exact .inr (.inl rfl)) HI.out.2.1 HI.out.2.2.1 (by rw [joins7_snoc]; exact H8.out.1) H8.out.2 (by have := HXS.out.2.1; omega) ((j : Int) - 1) (by have := HXS.out.2.1; omega)
      have e9 : (pre ++ [x]).map (fun (y : Sc d) => y.1) = xs ++ [x.1] := by rw [List.map_append, ← HXS.out.1]; rfl
      refine ⟨h9.1, h9.2.1, ?_⟩
      show FdSt T W4.heap.size W4 _ bl bm many ((pre ++ [x]).map (fun (y : Sc d) => y.1))
      rw [e9]
      exact h9.2.2
  case done =>
    rintro D ys W hD rfl hst hK
    rw [xsF_val] at hst
    obtain ⟨v0, h1, ho⟩ := hst.own
    obtain ⟨a0, c0, rfl⟩ := ho.form
    have el := cell_of_one h1
    have hle := hst.le
    have hft : (free7 d L).take many = free7 d L := List.take_of_length_le (by have := HX.out.2.2.2.2.2.2.1; omega)
    have HI := Lib.hid (And.intro ho (And.intro hst.fr hft))
    have HK := Lib.hid hK
    clear h1 ho hst hle hft hK
    go_wp2
    refine ⟨by simp, .inl ⟨_, _, rfl, run_takeDeferred HK.out, ?_⟩⟩
    have hfd := fr_putObj (T := (· = D)) W D (.deferred none) rfl
    have hV := HV.out
    have hT := hV.1
    refine ⟨_, results_tmp2 rfl _ _ _, _, rfl, ?_, (hV.2.2.2.2.2.1.trans (S := fun _ => False) HI.out.2.1 (fun k hk => ?_)).trans hfd (fun k e => .inr (by have : k = D := e; omega))⟩
    · have h9 := OwnE.keep HI.out.1 hfd (fun g hg e => by
        obtain ⟨_, cs, hb⟩ := HI.out.1.own hg
        rw [show g = D from e, HK.out] at hb
        cases hb)
      unfold find7
      rw [HI.out.2.2]
      exact OwnRn.lower h9 (by omega)
    · rw [hT] at hk
      rcases hk with hk | hk | hk <;> exact .inr (by omega)
  case stop =>
    rintro D c pre W hD hpre ⟨rfl, ini, x, e1, e2, hst⟩ hK
    have hini : ini.map (fun (y : Sc d) => y.1) = (free7 d L).take many := by
      obtain ⟨rest, hrest⟩ := hpre
      rw [← xsF_val, ← hrest, e1, List.map_append, List.map_append, List.append_assoc, List.take_append_of_le_length (by rw [List.length_map]; omega), List.take_of_length_le (by rw [List.length_map]; omega)]
    rw [hini] at hst
    obtain ⟨v0, h1, ho⟩ := hst.own
    obtain ⟨a0, c0, rfl⟩ := ho.form
    have el := cell_of_one h1
    have HI := Lib.hid (And.intro ho hst.fr)
    have HK := Lib.hid hK
    clear h1 ho hst hK hini e1 e2 hpre
    gi_wp2
    go_wp2
    refine ⟨by simp, .inl ⟨_, _, rfl, run_takeDeferred HK.out, ?_⟩⟩
    have hfd := fr_putObj (T := (· = D)) W D (.deferred none) rfl
    have hV := HV.out
    have hT := hV.1
    refine ⟨_, results_tmp2 rfl _ _ _, _, rfl, ?_, (hV.2.2.2.2.2.1.trans (S := fun _ => False) HI.out.2 (fun k hk => ?_)).trans hfd (fun k e => .inr (by have : k = D := e; omega))⟩
    · have h9 := OwnE.keep HI.out.1 hfd (fun g hg e => by
        obtain ⟨_, cs, hb⟩ := HI.out.1.own hg
        rw [show g = D from e, HK.out] at hb
        cases hb)
      exact OwnRn.lower h9 (by omega)
    · rw [hT] at hk
      rcases hk with hk | hk | hk <;> exact .inr (by omega)
end Go.Proofs.Ytcbbcihfooaggaa
namespace Go.Proofs.Ytcbbcihfooaggaa
open Go.RowKit Go.ChangeShapes
set_option linter.unusedVariables false
theorem run_fields7 : (Try.prog.fieldsOf 68).toList.map (fun f => (f.name, f.type, f.offset)) = [("At", 3, 0), ("Many", 3, 1)] := by kernel_rfl
theorem two_of_map {α β : Type} {g : α → β} {l : List α} {x y : β} (h : l.map g = [x, y]) : ∃ a b, l = [a, b] ∧ g a = x ∧ g b = y := by
  have hl := congrArg List.length h
  rw [List.length_map] at hl
  match l, hl with
  | [a, b], _ =>
    simp only [List.map_cons, List.map_nil, List.cons.injEq, and_true] at h
    exact ⟨a, b, rfl, h.1, h.2⟩
theorem eqFields_cons7 {P : Program} (w : World) (d : Nat) (xs ys : Array Value) (f : Field) (fs : List Field) (hn : f.name ≠ "_") (a b : Value) (r : Bool) (h1 : (part f.type xs f.offset).run P w = .ok a w) (h2 : (part f.type ys f.offset).run P w = .ok b w)
    (h3 : (Op.equalIn d f.type a b).run P w = .ok r w) : (Op.eqFields d xs ys (f :: fs)).run P w = if r = true then (Op.eqFields d xs ys fs).run P w else .ok false w := by
  rw [Op.eqFields, if_pos hn]
  simp only [Sem.run_bind, h1, h2, h3, Result.andThen_ok]
  cases r
  · simp
  · simp
theorem eq_int_self7 (w : World) (d : Nat) (a : Int) : (Op.equalIn (d + 1) 3 (.int .i64 a) (.int .i64 a)).run Try.prog w = .ok true w := by
  have h : (Op.equalIn (d + 1) 3 (.int .i64 a) (.int .i64 a)).run Try.prog w = .ok (a == a) w := by kernel_rfl
  rw [h, beq_self_eq_true]
theorem run_neq_run (w : World) (a b : Int) :
    (binOp .neq 68 (.agg #[.int .i64 a, .int .i64 b]) (.agg #[.int .i64 a, .int .i64 b])).run Try.prog w = .ok (.bool false) w := by
  rw [run_neq_struct, show Op.equalIn 10000 = Op.equalIn (9998 + 2) from rfl]
  have h : (Op.equalIn (9998 + 2) 68 (.agg #[.int .i64 a, .int .i64 b]) (.agg #[.int .i64 a, .int .i64 b])).run Try.prog w = .ok true w := by
    rw [run_equalIn_struct w (9998 + 1) 68 _ _ (by kernel_rfl) (by kernel_rfl)]
    obtain ⟨f1, f2, hf, x1, x2⟩ := two_of_map run_fields7
    simp only [Prod.mk.injEq] at x1 x2
    obtain ⟨n1, t1, o1⟩ := x1
    obtain ⟨n2, t2, o2⟩ := x2
    rw [hf]
    rw [eqFields_cons7 w _ _ _ f1 _ (by rw [n1]; decide) (.int .i64 a) (.int .i64 a) true (by rw [t1, o1]; kernel_rfl) (by rw [t1, o1]; kernel_rfl) (by rw [t1]; exact eq_int_self7 w 9998 a), if_pos rfl,
      eqFields_cons7 w _ _ _ f2 _ (by rw [n2]; decide) (.int .i64 b) (.int .i64 b) true (by rw [t2, o2]; kernel_rfl) (by rw [t2, o2]; kernel_rfl) (by rw [t2]; exact eq_int_self7 w 9998 b), if_pos rfl]
    rfl
  rw [h]
  rfl
theorem guard_run7 (w : World) (op : BinOp) (x y : Operand) (A Bb : Array Value) : (eqGuard op 68 x y (.agg A) (.agg Bb)).run Try.prog w = .ok () w := run_eqGuard_agg w op _ x y A Bb (by kernel_rfl)
set_option maxRecDepth 100000 in
set_option maxHeartbeats 1000000 in
theorem same7_any {F G : Nat → Prop} (w : World) (v u : Value) (l : List Rn) (hv : RnsIn F w v l) (hu : RnsIn G w u l) :
    Calls Try.prog 18 #[v, u] w fun e w' => e = .returned (.bool true) ∧ ∃ n, w' = w.drewN n := by
  obtain ⟨ao, cap, rfl, hc1, hc2, b, off, hao, hcells⟩ := hv.open7
  obtain ⟨ao2, cap2, rfl, hd1, hd2, b2, off2, hao2, hcells2⟩ := hu.open7
  obtain ⟨n, hnn⟩ : ∃ n, n = l.length := ⟨_, rfl⟩
  rw [← hnn] at hc1 hd1 hao hao2 ⊢
  have HN := Lib.hid hnn
  have HA := Lib.hid (And.intro hao (And.intro hao2 (And.intro hcells hcells2)))
  have hneq := fun W a b => run_neq_run W a b
  have hgd := fun W op x y A Bb => guard_run7 W op x y A Bb
  clear hv hu hnn hao hao2 hcells hcells2
  go_enter Try.func18, Try.ntmps18
  go_wp2
  go_loopw [5] (fun iv wr => ∃ i q : Nat, i ≤ n ∧ iv = .int .i64 i ∧ wr = w.drewN q) (fun iv _ => n - (intOf iv).toNat)
  case atStart => exact ⟨0, 0, by omega, rfl, rfl⟩
  case round =>
    obtain ⟨i, q, hi, rfl, rfl⟩ := hrel
    by_cases hlt : i < n
    · have hiL : i < l.length := by have := HN.out; omega
      obtain ⟨rfl, _⟩ := HA.out.1 (by omega)
      obtain ⟨rfl, _⟩ := HA.out.2.1 (by omega)
      have e1 := HA.out.2.2.1 i hiL
      have e2 := HA.out.2.2.2 i hiL
      obtain ⟨x, hx⟩ : ∃ x, x = l[i].1 := ⟨_, rfl⟩
      obtain ⟨y, hy⟩ : ∃ y, y = l[i].2 := ⟨_, rfl⟩
      rw [← hx, ← hy] at e1 e2
      obtain ⟨c0, c1⟩ := e1
      obtain ⟨d0, d1⟩ := e2
      have hlt64 : (i : Int) < (n : Int) := by omega
      have hi0 : (0 : Int) ≤ (i : Int) := by omega
      have hti : (i : Int).toNat = i := by omega
      clear hx hy hiL
      go_wp2
      go_quiet ((fail))
      go_wp2
      go_roundw
      case rel => exact ⟨i + 1, q + nq, by omega, by go_num, by simp⟩
      case measure => simp [intOf]; omega
    · obtain rfl : i = n := by omega
      go_wp2
      go_ret
      exact ⟨rfl, q, rfl⟩
end Go.Proofs.Ytcbbcihfooaggaa
namespace Go.Proofs.Ytcbbcihfooaggaa
open Go.RowKit Go.ChangeShapes
set_option linter.unusedVariables false
theorem shape7_ok : ShOk 1 1 5 9 := ⟨by decide, by decide, by decide, by decide, by decide⟩
theorem ex7_apart : apart7 5 [(1, 2)] = true := by decide
theorem ex7_find : find7 5 [(1, 2)] 3 = [(0, 1), (3, 2)] := by decide
theorem bFind_any {F : Nat → Prop} (w : World) (l la d s many : Nat) (v : Value) (L : List Rn) (hs : ShOk l la d s) (hL : RnsIn F w v L) (hF : ∀ k, F k → k < w.heap.size) (hap : apart7 d L = true) (hm : many ≤ (free7 d L).length) :
    Calls Try.prog 10 #[.agg #[.int .i64 l, .int .i64 la, .int .i64 d], .int .i64 many, v] w (FindPost w (find7 d L many)) :=
  callsIn_wide.1 (bFind_in w l la d s many v L hs hL hF hap hm)
theorem OwnRn.rns {z : Nat} {w : World} {v : Value} {l : List Rn} (h : OwnRn z w v l) (hb : ∀ r ∈ l, -9223372036854775808 ≤ r.1 ∧ r.1 ≤ 9223372036854775807 ∧ -9223372036854775808 ≤ r.2 ∧ r.2 ≤ 9223372036854775807) : RnsIn (fun k => z ≤ k ∧ v.ownBlock = some k) w v l :=
  ⟨(OwnE.elems h).mono (by decide) (fun k _ e => ⟨(OwnE.own h k e).1, e⟩), hb⟩
theorem RnsIn.two {w : World} {g : Nat} {T : TypeId} {a b c d : Int} (h : w.heap[g]? = some (.cells #[.int .i64 a, .int .i64 b, .int .i64 c, .int .i64 d] T (0, 0))) (hb : ∀ x ∈ [a, b, c, d], -9223372036854775808 ≤ x ∧ x ≤ 9223372036854775807) : RnsIn (fun j => j = g) w (.slice (some ⟨g, 0, none⟩) 2 2) [(a, b), (c, d)] := by
  have h1 := hb a (by simp)
  have h2 := hb b (by simp)
  have h3 := hb c (by simp)
  have h4 := hb d (by simp)
  refine ⟨⟨_, 2, rfl, Nat.le_refl _, by decide, rnC_len [(a, b), (c, d)], fun _ => ⟨g, 0, rfl, rfl, fun i hi j hj => ?_⟩⟩, fun r hr => ?_⟩
  · rw [cell_of_row _ _ _ _ _ _ h]
    have hi2 : i < 2 := by simpa using hi
    match i, hi2, j, hj with
    | 0, _, 0, _ => simp [rnC]
    | 0, _, 1, _ => simp [rnC]
    | 1, _, 0, _ => simp [rnC]
    | 1, _, 1, _ => simp [rnC]
  · simp only [List.mem_cons, List.not_mem_nil, or_false] at hr
    rcases hr with rfl | rfl <;> simp only <;> omega
set_option maxRecDepth 100000 in
set_option maxHeartbeats 1000000 in
theorem awake7_any (w : World) : Calls Try.prog 9 #[] w fun e w' => e = .returned (.bool true) ∧ Fr (fun _ => False) w w' := by
  obtain ⟨W1, hW1⟩ : ∃ W1, W1 = (w.alloc (.cells #[.int .i64 1, .int .i64 1, .int .i64 5] 23)).alloc (.cells #[.int .i64 1, .int .i64 2] 68) := ⟨_, rfl⟩
  have hf1 : Fr (fun _ => False) w W1 := by rw [hW1]; exact ((Fr.refl _ _).alloc _).alloc _
  have hr1 : W1.heap[w.heap.size + 1]? = some (.cells #[.int .i64 1, .int .i64 2] 68 (0, 0)) := by rw [hW1]; exact heap_alloc2_new w _ _
  have hz1 : W1.heap.size = w.heap.size + 2 := by rw [hW1]; simp
  have hL := RnsIn.ofBlock hr1 ⟨by decide, by decide⟩ ⟨by decide, by decide⟩
  have hc := bFind_any W1 1 1 5 9 3 _ [(1, 2)] shape7_ok hL (fun k hk => by have : k = w.heap.size + 1 := hk; omega) ex7_apart (by decide)
  rw [ex7_find] at hc
  have HC := Lib.hid hc
  have HW := Lib.hid hW1
  have HX := Lib.hid (And.intro hf1 hz1)
  have hnd : need7 65 = 2 := by decide
  have HND := Lib.hid hnd
  clear hW1 hf1 hr1 hz1 hL hc hnd
  go_enter Try.func9, Try.ntmps9
  go_wp2_with (first
    | (go_at_call 10; rw [← HW.out]; refine HC.out.mono ?_; rintro e w2 ⟨v2, rfl, ho2, hf2⟩; (obtain ⟨a2, c2, rfl⟩ := ho2.form); (have H2 := Lib.hid (And.intro ho2 hf2)); clear ho2 hf2)
    | (go_at_call 18; refine (same7_any (F := fun k => W1.heap.size ≤ k ∧ (Value.slice a2 2 c2).ownBlock = some k) (G := fun j => j = w2.heap.size) _ _ _ [(0, 1), (3, 2)] ((H2.out.1.rns (by decide)).quiet ((Fr.refl (fun _ => False) w2).alloc _)) (RnsIn.two (heap_alloc_new w2 _) (by decide))).mono ?_; rintro e w3 ⟨rfl, n3, rfl⟩)
    | (go_at_call 14; refine (bNeed_any _ 65 (by decide) (by decide)).mono ?_; rw [HND.out]; rintro e w4 ⟨rfl, rfl⟩))
  go_ret
  exact ⟨rfl, ((HX.out.1.trans H2.out.2 (fun _ h => h.elim)).alloc _).drewN _⟩
end Go.Proofs.Ytcbbcihfooaggaa
namespace Go.Proofs.Ytcbbcihfooaggaa
open Go.RowKit Go.ChangeShapes
set_option linter.unusedVariables false
def FindP (w : World) (a : Int × List Rn) (e : Ending) (w' : World) : Prop := ∃ ao n c, e = .returned (.tuple #[.slice ao n c, .int .i64 a.1]) ∧ RnsIn (fun k => w.heap.size ≤ k) w' (.slice ao n c) a.2 ∧ Fr (fun _ => False) w w'
theorem find7_in {d many : Nat} {l : List Rn} (hd : d ≤ 8192) : ∀ r ∈ find7 d l many, -9223372036854775808 ≤ r.1 ∧ r.1 ≤ 9223372036854775807 ∧ -9223372036854775808 ≤ r.2 ∧ r.2 ≤ 9223372036854775807 := by
  intro r hr
  have h := (joins7_bounds (xs := (free7 d l).take many) (d := d) (fun x hx => (mem_free7.1 (List.mem_of_mem_take hx)).1)).2 r hr
  have := rnOk_iff.1 h
  omega
theorem FindPost.p {w w' : World} {d many : Nat} {l : List Rn} {e : Ending} (h : FindPost w (find7 d l many) e w') (hd : d ≤ 8192) : FindP w (0, find7 d l many) e w' := by
  obtain ⟨v, rfl, ho, hf⟩ := h
  obtain ⟨ao, c, rfl⟩ := ho.form
  exact ⟨ao, _, c, rfl, (ho.rns (find7_in hd)).mono (fun _ _ h => h.1), hf⟩
theorem ap7_open {L A D : Int} {l : List Rn} (h : ap7 L A D l = true) : ∃ l0 a0 d0 s0 : Nat, L = l0 ∧ A = a0 ∧ D = d0 ∧ ShOk l0 a0 d0 s0 ∧ apart7 d0 l = true := by
  cases hr : rightS L A D with
  | false => rw [ap7_no hr] at h; cases h
  | true =>
    obtain ⟨l0, a0, d0, s0, rfl, rfl, rfl, hs⟩ := rightS_ok hr
    rw [ap7_ok hs] at h
    exact ⟨l0, a0, d0, s0, rfl, rfl, rfl, hs, h⟩
theorem rnC_one {l : List Rn} : ∀ c ∈ l.map rnC, ∀ u ∈ c, u.oneCell' = true := by
  intro c hc u hu
  obtain ⟨r, _, rfl⟩ := List.mem_map.1 hc
  simp only [rnC, List.mem_cons, List.not_mem_nil, or_false] at hu
  rcases hu with rfl | rfl <;> rfl
theorem wpList_append_rns {F : Nat → Prop} {z : Nat} (w : World) {ops : Array Oper} {rest : List Oper} {o : Oper} {a : Act} {Q : Exit → Act → World → Prop} (hgd : o.guard = none) (s x : Operand)
    (hop : o.op = Op.call { callee := Callee.builtin Builtin.append, args := #[s, x], argTypes := #[24, 24] })
    (v y : Value) (l m : List Rn) (hs : a.eval s = v) (hx : a.eval x = y) (hown : OwnRn z w v l) (he : RnsIn F w y m) (hz : z ≤ w.heap.size) (hn : l.length + m.length ≤ 1000000)
    (hK : ∀ v' w', OwnRn z w' v' (l ++ m) → Fr (fun k => v.ownBlock = some k) w w' → wpList Try.prog ops Q rest (a.put o.dst v') w') : wpList Try.prog ops Q (o :: rest) a w :=
  wpList_append_e (T := 68) Try.underlying24 infoRn rfl (by decide) (by decide) w hgd s x hop v y _ _ hs hx hown he.1 rnC_one hz (by simpa using hn) fun v' w' ho hg _ =>
    hK v' w' (by unfold OwnRn; rw [List.map_append]; exact ho) ((Fr.refl (fun k => v.ownBlock = some k) w).grown hg (fun k hk => .inl hk))
end Go.Proofs.Ytcbbcihfooaggaa
