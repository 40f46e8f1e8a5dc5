/- Laid together: RFree BFind -/
import Derived.Test.YtcbbcihfooaggaaBe12

namespace Go.Proofs.Ytcbbcihfooaggaa
open Go.RowKit Go.ChangeShapes
set_option linter.unusedVariables false
theorem rm_y {F : Nat → Prop} (w : World) (l la d s : Nat) (v : Value) (L : List Rn) (hs : ShOk l la d s) (hL : RnsIn F w v L) (hF : ∀ k, F k → k < w.heap.size) (hap : apart7 d L = true) :
    Calls Try.prog 44 #[.agg #[.int .i64 l, .int .i64 la, .int .i64 d], v] w fun e w' => ∃ g, w.heap.size ≤ g ∧ e = .returned (.tuple #[.slice (some ⟨g, 0, none⟩) d d, .bool true]) ∧ w'.heap[g]? = some (.cells (bits7 d (secs7 L)) 4 (0, 0)) ∧ Fr (fun _ => False) w w' :=
  (rMarks_ok w l la d s v L hs hL hF (Nat.le_trans (secs7_many (apart7_iff.1 hap).1) (apart7_le hap))).mono (fun e w' ⟨h1, h2⟩ => by
    rcases h1 with ⟨_, g, h3, h4, h5⟩ | ⟨h3, _⟩
    · exact ⟨g, h3, h4, h5, h2⟩
    · rw [hap] at h3; cases h3)
theorem rm_n {F : Nat → Prop} (w : World) (L A D : Int) (v : Value) (l : List Rn) (hL : RnsIn F w v l) (hF : ∀ k, F k → k < w.heap.size) (hap : ap7 L A D l = false) :
    Calls Try.prog 44 #[.agg #[.int .i64 L, .int .i64 A, .int .i64 D], v] w fun e w' => e = .returned (.tuple #[.slice none 0 0, .bool false]) ∧ Fr (fun _ => False) w w' := by
  cases h : rightS L A D with
  | false => exact rMarks_no w L A D v h
  | true =>
    obtain ⟨l0, a0, d0, s0, rfl, rfl, rfl, hs⟩ := rightS_ok h
    rw [ap7_ok hs] at hap
    by_cases hn : l.length ≤ d0
    · exact (rMarks_ok w l0 a0 d0 s0 v l hs hL hF hn).mono (fun e w' ⟨h1, h2⟩ => by
        rcases h1 with ⟨h3, _⟩ | ⟨_, h3⟩
        · rw [hap] at h3; cases h3
        · exact ⟨h3, h2⟩)
    · obtain ⟨ao, cap, rfl, _⟩ := hL.open7
      exact rMarks_long w l0 a0 d0 s0 ao l.length cap hs (by omega)
set_option maxRecDepth 100000 in
theorem rApart_any {F : Nat → Prop} (w : World) (L A D : Int) (v : Value) (l : List Rn) (hL : RnsIn F w v l) (hF : ∀ k, F k → k < w.heap.size) :
    Calls Try.prog 17 #[.agg #[.int .i64 L, .int .i64 A, .int .i64 D], v] w fun e w' => e = .returned (.bool (ap7 L A D l)) ∧ Fr (fun _ => False) w w' := by
  have hf1 : Fr (fun _ => False) w (w.alloc (.cells #[.int .i64 L, .int .i64 A, .int .i64 D] 23)) := (Fr.refl _ _).alloc _
  have hLw := (hL.mono (G := fun k => F k ∧ k < w.heap.size) (fun k hk h => ⟨h, hk⟩)).quiet hf1
  have hFw : ∀ k, F k ∧ k < w.heap.size → k < (w.alloc (.cells #[.int .i64 L, .int .i64 A, .int .i64 D] 23)).heap.size := fun k hk => by have := hk.2; simp; omega
  cases hap : ap7 L A D l with
  | true =>
    cases h : rightS L A D with
    | false => rw [ap7_no h] at hap; cases hap
    | true =>
      obtain ⟨l0, a0, d0, s0, rfl, rfl, rfl, hs⟩ := rightS_ok h
      rw [ap7_ok hs] at hap
      have HC := Lib.hid (rm_y _ l0 a0 d0 s0 v l hs hLw hFw hap)
      have HF1 := Lib.hid hf1
      clear hLw hFw hf1 hap h hs
      go_enter Try.func17, Try.ntmps17
      go_wp2_with (go_at_call 44; refine HC.out.mono ?_; rintro e w1 ⟨g, hg, rfl, ht, hf⟩; (have H1 := Lib.hid hf); clear ht hg hf)
      go_ret
      exact ⟨rfl, HF1.out.trans H1.out (fun _ h => h.elim)⟩
  | false =>
    have HC := Lib.hid (rm_n _ L A D v l hLw hFw hap)
    have HF1 := Lib.hid hf1
    clear hLw hFw hf1 hap
    go_enter Try.func17, Try.ntmps17
    go_wp2_with (go_at_call 44; refine HC.out.mono ?_; rintro e w1 ⟨rfl, hf⟩; (have H1 := Lib.hid hf); clear hf)
    go_ret
    exact ⟨rfl, HF1.out.trans H1.out (fun _ h => h.elim)⟩
set_option maxRecDepth 100000 in
theorem rFree_no {F : Nat → Prop} (w : World) (L A D : Int) (v : Value) (l : List Rn) (hL : RnsIn F w v l) (hF : ∀ k, F k → k < w.heap.size) (hap : ap7 L A D l = false) :
    Calls Try.prog 13 #[.agg #[.int .i64 L, .int .i64 A, .int .i64 D], v] w fun e w' => e = .returned (.tuple #[.int .i64 0, .int .i64 2]) ∧ Fr (fun _ => False) w w' := by
  have hf1 : Fr (fun _ => False) w (w.alloc (.cells #[.int .i64 L, .int .i64 A, .int .i64 D] 23)) := (Fr.refl _ _).alloc _
  have hLw := (hL.mono (G := fun k => F k ∧ k < w.heap.size) (fun k hk h => ⟨h, hk⟩)).quiet hf1
  have hFw : ∀ k, F k ∧ k < w.heap.size → k < (w.alloc (.cells #[.int .i64 L, .int .i64 A, .int .i64 D] 23)).heap.size := fun k hk => by have := hk.2; simp; omega
  have HC := Lib.hid (rm_n _ L A D v l hLw hFw hap)
  have HF1 := Lib.hid hf1
  clear hLw hFw hf1 hap
  go_enter Try.func13, Try.ntmps13
  go_wp2_with (go_at_call 44; refine HC.out.mono ?_; rintro e w1 ⟨rfl, hf⟩; (have H1 := Lib.hid hf); clear hf)
  go_ret2
  exact ⟨rfl, HF1.out.trans H1.out (fun _ h => h.elim)⟩
set_option maxRecDepth 100000 in
set_option maxHeartbeats 1000000 in
theorem rFree_yes {F : Nat → Prop} (w : World) (l la d s : Nat) (v : Value) (L : List Rn) (hs : ShOk l la d s) (hL : RnsIn F w v L) (hF : ∀ k, F k → k < w.heap.size) (hap : apart7 d L = true) :
    Calls Try.prog 13 #[.agg #[.int .i64 l, .int .i64 la, .int .i64 d], v] w fun e w' => e = .returned (.tuple #[.int .i64 ((free7 d L).length : Nat), .int .i64 0]) ∧ Fr (fun _ => False) w w' := by
  have hd : d ≤ 8192 := by have := hs.sum; have := hs.most; omega
  have hf1 : Fr (fun _ => False) w (w.alloc (.cells #[.int .i64 l, .int .i64 la, .int .i64 d] 23)) := (Fr.refl _ _).alloc _
  have hLw := (hL.mono (G := fun k => F k ∧ k < w.heap.size) (fun k hk h => ⟨h, hk⟩)).quiet hf1
  have hFw : ∀ k, F k ∧ k < w.heap.size → k < (w.alloc (.cells #[.int .i64 l, .int .i64 la, .int .i64 d] 23)).heap.size := fun k hk => by have := hk.2; simp; omega
  have HC := Lib.hid (rm_y _ l la d s v L hs hLw hFw hap)
  have HF1 := Lib.hid hf1
  obtain ⟨q, hq⟩ : ∃ q, q = (free7 d L).length := ⟨_, rfl⟩
  have HQ := Lib.hid hq
  rw [← hq]
  clear hLw hFw hf1 hap hq hL hF hs
  go_enter Try.func13, Try.ntmps13
  go_wp2_with (go_at_call 44; refine HC.out.mono ?_; rintro e w1 ⟨g, hg, rfl, ht, hf⟩; (have H1 := Lib.hid (And.intro ht hf)); clear ht hg hf)
  have hcell : ∀ i, i < d → w1.cell? ⟨g, i, none⟩ = some (.bool (decide (i ∈ secs7 L))) := fun i hi => by rw [cell_of_row _ _ _ _ _ _ H1.out.1, bits7_get hi]
  have HCE := Lib.hid hcell
  clear hcell
  go_loop [8, 9] (fun cv iv => ∃ i c : Nat, i ≤ d ∧ iv = .int .i64 i ∧ cv = .int .i64 c ∧ c ≤ i ∧ Hid (c = (free7 i L).length)) (fun _ iv => d - (intOf iv).toNat)
  case atStart => exact ⟨0, 0, by omega, rfl, rfl, by omega, Lib.hid rfl⟩
  case round =>
    obtain ⟨i, c, hi, rfl, rfl, hci, hR⟩ := hrel
    by_cases hlt : i < d
    · have hce := HCE.out i hlt
      have hlt64 : (i : Int) < (d : Int) := by omega
      have hsu := free7_succ i L
      by_cases hm : i ∈ secs7 L
      · rw [decide_eq_true hm] at hce
        rw [if_pos hm, List.append_nil] at hsu
        have HS := Lib.hid (show c = (free7 (i + 1) L).length by rw [hsu]; exact hR.out)
        clear hsu hm
        go_wp2
        go_round
        case rel => exact ⟨i + 1, c, by omega, by go_num, rfl, by omega, HS⟩
        case measure => simp [intOf]; omega
      · rw [decide_eq_false hm] at hce
        rw [if_neg hm] at hsu
        have HS := Lib.hid (show c + 1 = (free7 (i + 1) L).length by rw [hsu, List.length_append, ← hR.out]; rfl)
        clear hsu hm
        go_wp2
        go_round
        case rel => exact ⟨i + 1, c + 1, by omega, by go_num, by go_num, by omega, HS⟩
        case measure => simp [intOf]; omega
    · obtain rfl : i = d := by omega
      have HE := Lib.hid (show c = q by rw [hR.out, HQ.out])
      clear hR
      go_wp2
      go_ret2
      exact ⟨by rw [HE.out]; rfl, HF1.out.trans H1.out.2 (fun _ h => h.elim)⟩
end Go.Proofs.Ytcbbcihfooaggaa
namespace Go.Proofs.Ytcbbcihfooaggaa
open Go.RowKit Go.ChangeShapes
set_option linter.unusedVariables false
attribute [local go_sem] Oper.semAt_some
def bad7 (L A D : Int) (many : Int) (l : List Rn) : Bool := !ap7 L A D l || decide (many < 0)
set_option maxRecDepth 100000 in
set_option maxHeartbeats 1000000 in
theorem bFind_arg {F : Nat → Prop} (w : World) (L A D many : Int) (v : Value) (l : List Rn) (hL : RnsIn F w v l) (hF : ∀ k, F k → k < w.heap.size) (hbad : bad7 L A D many l = true) :
    Calls Try.prog 10 #[.agg #[.int .i64 L, .int .i64 A, .int .i64 D], .int .i64 many, v] w fun e w' => e = .returned (.tuple #[.slice none 0 0, .int .i64 2]) ∧ Fr (fun _ => False) w w' := by
  obtain ⟨W1, hW1⟩ : ∃ W1, W1 = (w.alloc (.cells #[.int .i64 L, .int .i64 A, .int .i64 D] 23)).alloc (.cells #[.int .i64 many] 3) := ⟨_, rfl⟩
  have hf1 : Fr (fun _ => False) w W1 := by rw [hW1]; exact ((Fr.refl _ _).alloc _).alloc _
  have hm1 : W1.heap[w.heap.size + 1]? = some (.cells #[.int .i64 many] 3 (0, 0)) := by rw [hW1]; exact heap_alloc2_new w _ _
  have hLw := (hL.mono (G := fun k => F k ∧ k < w.heap.size) (fun k hk h => ⟨h, hk⟩)).quiet hf1
  have hFw : ∀ k, F k ∧ k < w.heap.size → k < W1.heap.size := fun k hk => by have := hk.2; have := hf1.size; omega
  have HW := Lib.hid hW1
  cases hap : ap7 L A D l with
  | true =>
    have hneg : many < 0 := by rw [bad7, hap] at hbad; simpa using hbad
    have HC := Lib.hid (take_y _ L A D v l hLw hFw hap)
    have HX := Lib.hid (And.intro hf1 hm1)
    clear hLw hFw hf1 hm1 hap hbad hW1 hL hF
    go_enter Try.func10, Try.ntmps10
    go_wp2_with (go_at_call 40; rw [← HW.out]; refine HC.out.mono ?_; rintro e w1 ⟨mb, rfl, ht, hmb, hf⟩; (have c1 := cell_of_one (hf.heap HX.out.2 id)); (have H1 := Lib.hid hf); clear ht hmb hf)
    go_ret2
    exact ⟨rfl, HX.out.1.trans H1.out (fun _ h => h.elim)⟩
  | false =>
    have HC := Lib.hid (take_n _ L A D v l hLw hFw hap)
    have HX := Lib.hid (And.intro hf1 hm1)
    clear hLw hFw hf1 hm1 hap hbad hW1 hL hF
    go_enter Try.func10, Try.ntmps10
    go_wp2_with (go_at_call 40; rw [← HW.out]; refine HC.out.mono ?_; rintro e w1 ⟨rfl, hf⟩; (have H1 := Lib.hid hf); clear hf)
    go_ret2
    exact ⟨rfl, HX.out.1.trans H1.out (fun _ h => h.elim)⟩
set_option maxRecDepth 100000 in
set_option maxHeartbeats 1000000 in
theorem bFind_full {F : Nat → Prop} (w : World) (l la d s many : Nat) (v : Value) (L : List Rn) (hs : ShOk l la d s) (hL : RnsIn F w v L) (hF : ∀ k, F k → k < w.heap.size) (hap : apart7 d L = true) (hm : (free7 d L).length < many) (hm2 : many ≤ 9223372036854775807) :
    Calls Try.prog 10 #[.agg #[.int .i64 l, .int .i64 la, .int .i64 d], .int .i64 many, v] w fun e w' => e = .returned (.tuple #[.slice none 0 0, .int .i64 7]) ∧ Fr (fun _ => False) w w' := by
  have hd : d ≤ 8192 := by have := hs.sum; have := hs.most; omega
  have hfl := free7_length hap
  obtain ⟨q, hq⟩ : ∃ q, q = (free7 d L).length := ⟨_, rfl⟩
  obtain ⟨c, hc⟩ : ∃ c, c = (secs7 L).length := ⟨_, rfl⟩
  rw [← hq, ← hc] at hfl
  rw [← hq] at hm
  have hsub : IntKind.i64.wrap ((d : Int) - (c : Int)) = (q : Int) := by rw [wrap_in5 (by omega) (by omega)]; omega
  obtain ⟨W1, hW1⟩ : ∃ W1, W1 = (w.alloc (.cells #[.int .i64 l, .int .i64 la, .int .i64 d] 23)).alloc (.cells #[.int .i64 many] 3) := ⟨_, rfl⟩
  have hf1 : Fr (fun _ => False) w W1 := by rw [hW1]; exact ((Fr.refl _ _).alloc _).alloc _
  have hm1 : W1.heap[w.heap.size + 1]? = some (.cells #[.int .i64 many] 3 (0, 0)) := by rw [hW1]; exact heap_alloc2_new w _ _
  have hrow : W1.heap[w.heap.size]? = some (.cells #[.int .i64 l, .int .i64 la, .int .i64 d] 23 (0, 0)) := by rw [hW1]; exact ((Fr.refl (fun _ => False) _).alloc _).heap (heap_alloc_new w _) id
  have hLw := (hL.mono (G := fun k => F k ∧ k < w.heap.size) (fun k hk h => ⟨h, hk⟩)).quiet hf1
  have hFw : ∀ k, F k ∧ k < w.heap.size → k < W1.heap.size := fun k hk => by have := hk.2; have := hf1.size; omega
  have HW := Lib.hid hW1
  have HC := Lib.hid (take_y _ l la d v L hLw hFw (by rw [ap7_ok hs]; exact hap))
  have HX := Lib.hid (And.intro hf1 (And.intro hm1 (And.intro hrow (And.intro hLw (And.intro hap hc)))))
  have hn0 : ¬ (many : Int) < 0 := by omega
  have hgt : (q : Int) < (many : Int) := by omega
  clear hLw hFw hf1 hm1 hap hW1 hL hF hrow hs hq hc hfl
  go_enter Try.func10, Try.ntmps10
  go_wp2_with (go_at_call 40; rw [← HW.out]; refine HC.out.mono ?_; rintro e w1 ⟨mb, rfl, ht, hmb, hf⟩; (have c1 := cell_of_one (hf.heap HX.out.2.1 id)); (have k2 : w1.cell? ⟨w.heap.size, 2, none⟩ = some (.int .i64 (d : Int)) := cell_of_row _ _ _ _ _ _ (hf.heap HX.out.2.2.1 id)); (have H1 := Lib.hid hf); clear ht hmb hf)
  have HCN := Lib.hid (count_any w1.drew v L ((HX.out.2.2.2.1.quiet H1.out).quiet (Fr.refl (fun _ => False) w1).drew) hd HX.out.2.2.2.2.1)
  go_region_held3 (fun w' => w'.cell? ⟨w.heap.size, 2, none⟩ = some (.int .i64 (d : Int)) ∧ w'.cell? ⟨w.heap.size + 1, 0, none⟩ = some (.int .i64 (many : Int))) (first | exact ⟨by assumption, by assumption⟩ | go_keep)
    ((go_at_call 41; refine HCN.out.mono ?_; rintro e w3 ⟨rfl, hf3⟩; rw [← HX.out.2.2.2.2.2]; (have k3 := hf3.cell k2 id); (have c3 := hf3.cell c1 id); (have H3 := Lib.hid hf3); clear hf3))
  go_wp2
  go_ret2
  exact ⟨rfl, ((HX.out.1.trans H1.out (fun _ h => h.elim)).trans (Fr.refl (fun _ => False) w1).drew (fun _ h => h.elim)).trans H3.out (fun _ h => h.elim)⟩
theorem joins7_bounds {d : Nat} {xs : List Nat} (h : ∀ x ∈ xs, x < d) : (joins7 xs).length ≤ xs.length ∧ ∀ r ∈ joins7 xs, rnOk d r = true := by
  have h1 := rnOk_of (joins7_Pos xs) (d := d) (fun x hx => by rw [joins7_secs] at hx; exact h x hx)
  have h2 := secs7_many h1
  rw [joins7_secs] at h2
  exact ⟨h2, h1⟩
theorem OwnRn.own {z : Nat} {w : World} {v : Value} {l : List Rn} (h : OwnRn z w v l) {g : Nat} (hg : v.ownBlock = some g) : z ≤ g ∧ ∃ cs, w.heap[g]? = some (.cells cs 68 (0, 0)) := by
  rcases OwnRn.block h with ⟨rfl, _⟩ | ⟨g', cap, cur, rfl, hz, hb, _⟩
  · simp [Value.ownBlock] at hg
  · simp only [Value.ownBlock, Option.some.injEq] at hg
    subst hg
    exact ⟨hz, _, hb⟩
theorem OwnRn.grown {z : Nat} {w w' : World} {v : Value} {l : List Rn} {row : Option Nat} (h : OwnRn z w v l) (hg : w.grownBy w' row) (hr : ∀ r, row = some r → ∃ o : Obj, w.heap[r]? = some o ∧ o.isCells = false) : OwnRn z w' v l :=
  OwnE.keep h ((Fr.refl (fun k => row = some k) w).grown hg (fun k hk => .inl hk)) (fun g hgb e => by
    obtain ⟨_, cs, hb⟩ := h.own hgb
    obtain ⟨o, ho, hc⟩ := hr g e
    rw [hb] at ho
    cases ho
    cases hc)
structure FdSt (T : Nat → Prop) (z : Nat) (W4 W : World) (bl bm many : Nat) (xs : List Nat) : Prop where
  own : ∃ v, W.heap[bl]? = some (.cells #[v] 24 (0, 0)) ∧ OwnRn z W v (joins7 xs)
  left : W.heap[bm]? = some (.cells #[.int .i64 ((many - xs.length : Nat) : Int)] 3 (0, 0))
  le : xs.length ≤ many
  fr : Fr T W4 W
theorem FdSt.grown {T : Nat → Prop} {z : Nat} {W4 W W' : World} {bl bm many : Nat} {xs : List Nat} {row : Option Nat} (h : FdSt T z W4 W bl bm many xs) (hb : bl < z ∧ bm < z) (hT : ∀ k, z ≤ k → T k) (hg : W.grownBy W' row) (hr : ∀ r, row = some r → z ≤ r ∧ ∃ o : Obj, W.heap[r]? = some o ∧ o.isCells = false) : FdSt T z W4 W' bl bm many xs := by
  have hf : Fr (fun k => row = some k) W W' := (Fr.refl _ W).grown hg (fun k hk => .inl hk)
  have hn : ∀ k, k < z → ¬ row = some k := fun k hk e => by have := (hr k e).1; omega
  obtain ⟨v, h1, h2⟩ := h.own
  exact ⟨⟨v, hf.heap h1 (hn _ hb.1), h2.grown hg (fun r e => (hr r e).2)⟩, hf.heap h.left (hn _ hb.2), h.le, h.fr.trans hf (fun k hk => .inl (hT k (hr k hk).1))⟩
theorem FdSt.step {T : Nat → Prop} {z : Nat} {W4 W w8 : World} {bl bm many x : Nat} {xs : List Nat} {v0 v8 : Value} (h : FdSt T z W4 W bl bm many xs) (hb : bl < z ∧ bm < z) (hne : bl ≠ bm) (hT : ∀ k, z ≤ k → T k) (hTl : T bl) (hTm : T bm) (h1 : W.heap[bl]? = some (.cells #[v0] 24 (0, 0))) (h0 : OwnRn z W v0 (joins7 xs)) (h8 : OwnRn z w8 v8 (joins7 (xs ++ [x]))) (hf8 : Fr (fun k => v0.ownBlock = some k) W w8) (hlt : xs.length < many) (y : Int) (hy : y = ((many - (xs.length + 1) : Nat) : Int)) :
    KeepsFrom z W ((w8.setCell ⟨bl, 0, none⟩ v8).setCell ⟨bm, 0, none⟩ (.int .i64 y)) ∧ Fr T W ((w8.setCell ⟨bl, 0, none⟩ v8).setCell ⟨bm, 0, none⟩ (.int .i64 y)) ∧ FdSt T z W4 ((w8.setCell ⟨bl, 0, none⟩ v8).setCell ⟨bm, 0, none⟩ (.int .i64 y)) bl bm many (xs ++ [x]) := by
  have hob : ∀ k, v0.ownBlock = some k → z ≤ k ∧ ∃ cs, W.heap[k]? = some (.cells cs 68 (0, 0)) := fun k hk => h0.own hk
  have hl8 := hf8.heap h1 (fun e => by have := (hob _ e).1; omega)
  have hm8 := hf8.heap h.left (fun e => by have := (hob _ e).1; omega)
  have f1 := Fr.cell1 w8 bl 0 v8
  have f2 := Fr.cell1 (w8.setCell ⟨bl, 0, none⟩ v8) bm 0 (.int .i64 y)
  have hall : Fr (fun k => v0.ownBlock = some k ∨ k = bl ∨ k = bm) W ((w8.setCell ⟨bl, 0, none⟩ v8).setCell ⟨bm, 0, none⟩ (.int .i64 y)) :=
    ((hf8.mono (T := fun k => v0.ownBlock = some k ∨ k = bl ∨ k = bm) (fun _ _ h => .inl h)).trans f1 (fun k e => .inl (.inr (.inl e)))).trans f2 (fun k e => .inl (.inr (.inr e)))
  have hallT : Fr T W ((w8.setCell ⟨bl, 0, none⟩ v8).setCell ⟨bm, 0, none⟩ (.int .i64 y)) := hall.mono (fun k _ hk => by
    rcases hk with hk | rfl | rfl
    · exact hT k (hob k hk).1
    · exact hTl
    · exact hTm)
  refine ⟨⟨hall.size, fun k o hzk hk hc => hall.heap hk (fun hs => ?_)⟩, hallT, ⟨⟨v8, f2.heap (one_put hl8 v8) hne, (OwnE.keep h8 f1 (fun g hg e => ?_)).keep f2 (fun g hg e => ?_)⟩, ?_, by rw [List.length_append]; exact hlt, h.fr.trans hallT (fun _ h => .inl h)⟩⟩
  · rcases hs with hs | rfl | rfl
    · obtain ⟨_, cs, hb9⟩ := hob k hs
      rw [hb9] at hk
      cases hk
      cases hc
    · omega
    · omega
  · have := (h8.own hg).1
    have e' : g = bl := e
    omega
  · have := (h8.own hg).1
    have e' : g = bm := e
    omega
  · rw [List.length_append]
    have h9 := one_put (one_put2 hl8 hm8 hne v8) (.int .i64 y)
    rw [h9, hy]
    rfl
theorem OwnRn.lower {z z' : Nat} {w : World} {v : Value} {l : List Rn} (h : OwnRn z w v l) (hz : z' ≤ z) : OwnRn z' w v l := by
  refine ⟨⟨(OwnE.row h).1, ?_⟩, OwnE.each h⟩
  rcases (OwnE.row h).2 with e | ⟨g, cap, cur, hv, hb, r⟩
  · exact .inl e
  · exact .inr ⟨g, cap, cur, hv, Nat.le_trans hz hb, r⟩
def FindPost (w : World) (l : List Rn) (e : Ending) (w' : World) : Prop := ∃ v', e = .returned (.tuple #[v', .int .i64 0]) ∧ OwnRn w.heap.size w' v' l ∧ Fr (fun _ => False) w w'
set_option maxRecDepth 100000 in
set_option maxHeartbeats 4000000 in
theorem bFind_in {F : Nat → Prop} (w : World) (l la d s many : Nat) (v : Value) (L : List Rn) (hs : ShOk l la d s) (hL : RnsIn F w v L) (hF : ∀ k, F k → k < w.heap.size) (hap : apart7 d L = true) (hm : many ≤ (free7 d L).length) :
    CallsIn Fence.wide 3 Try.prog 10 #[.agg #[.int .i64 l, .int .i64 la, .int .i64 d], .int .i64 many, v] w (FindPost w (find7 d L many)) := by
  have hd : d ≤ 8192 := by have := hs.sum; have := hs.most; omega
  have hfl := free7_length hap
  obtain ⟨q, hq⟩ : ∃ q, q = (free7 d L).length := ⟨_, rfl⟩
  obtain ⟨c, hc⟩ : ∃ c, c = (secs7 L).length := ⟨_, rfl⟩
  rw [← hq, ← hc] at hfl
  rw [← hq] at hm
  have hsub : IntKind.i64.wrap ((d : Int) - (c : Int)) = (q : Int) := by rw [wrap_in5 (by omega) (by omega)]; omega
  obtain ⟨W1, hW1⟩ : ∃ W1, W1 = (w.alloc (.cells #[.int .i64 l, .int .i64 la, .int .i64 d] 23)).alloc (.cells #[.int .i64 many] 3) := ⟨_, rfl⟩
  have hf1 : Fr (fun _ => False) w W1 := by rw [hW1]; exact ((Fr.refl _ _).alloc _).alloc _
  have hz1 : W1.heap.size = w.heap.size + 2 := by rw [hW1]; simp
  have hm1 : W1.heap[w.heap.size + 1]? = some (.cells #[.int .i64 many] 3 (0, 0)) := by rw [hW1]; exact heap_alloc2_new w _ _
  have hrow : W1.heap[w.heap.size]? = some (.cells #[.int .i64 l, .int .i64 la, .int .i64 d] 23 (0, 0)) := by rw [hW1]; exact ((Fr.refl (fun _ => False) _).alloc _).heap (heap_alloc_new w _) id
  have hLw := (hL.mono (G := fun k => F k ∧ k < w.heap.size) (fun k hk h => ⟨h, hk⟩)).quiet hf1
  have hFw : ∀ k, F k ∧ k < w.heap.size → k < W1.heap.size := fun k hk => by have := hk.2; have := hf1.size; omega
  have HW := Lib.hid hW1
  have HC := Lib.hid (take_y _ l la d v L hLw hFw (by rw [ap7_ok hs]; exact hap))
  have HX := Lib.hid (And.intro hf1 (And.intro hm1 (And.intro hrow (And.intro hLw (And.intro hap (And.intro hc (And.intro hq hz1)))))))
  have hn0 : decide ((many : Int) < 0) = false := by rw [decide_eq_false_iff_not]; omega
  have hgt : decide ((q : Int) < (many : Int)) = false := by rw [decide_eq_false_iff_not]; omega
  have hgt2 : ¬ (q : Int) < (many : Int) := by omega
  have hqd : q ≤ d := by omega
  clear hLw hFw hf1 hm1 hap hW1 hL hF hrow hs hq hc hfl hz1
  refine callsIn_of_wp_marks Try.func10 rfl trivial ?_ rfl
  simp only [Try.ntmps10, List.size_toArray, List.length_cons, List.length_nil, Nat.reduceAdd, Nat.reduceSub, Array.replicate_succ, Array.replicate_zero, List.push_toArray, List.append_toArray, List.nil_append, List.cons_append]
  refine wpIn_wide.2 ?_
  go_wp2_with (go_at_call 40; rw [← HW.out]; refine HC.out.mono ?_; rintro e w1 ⟨mb, rfl, ht, hmb, hf⟩; (have c1 := cell_of_one (hf.heap HX.out.2.1 id)); (have k2 : w1.cell? ⟨w.heap.size, 2, none⟩ = some (.int .i64 (d : Int)) := cell_of_row _ _ _ _ _ _ (hf.heap HX.out.2.2.1 id)); (have H1 := Lib.hid (And.intro hf (And.intro ht hmb))); clear ht hmb hf)
  have HCN := Lib.hid (count_any w1.drew v L ((HX.out.2.2.2.1.quiet H1.out.1).quiet (Fr.refl (fun _ => False) w1).drew) hd HX.out.2.2.2.2.1)
  go_region_held3 (fun w' => w'.cell? ⟨w.heap.size, 2, none⟩ = some (.int .i64 (d : Int)) ∧ w'.cell? ⟨w.heap.size + 1, 0, none⟩ = some (.int .i64 (many : Int))) (first | exact ⟨by assumption, by assumption⟩ | go_keep)
    ((go_at_call 41; refine HCN.out.mono ?_; rintro e w3 ⟨rfl, hf3⟩; rw [← HX.out.2.2.2.2.2.1]; (have k3 := hf3.cell k2 id); (have c3 := hf3.cell c1 id); (have H3 := Lib.hid hf3); clear hf3))
  have k4 : ∀ o, (w3.alloc o).cell? ⟨w.heap.size, 2, none⟩ = some (.int .i64 (d : Int)) := fun o => ((Fr.refl (fun _ => False) w3).alloc o).cell k3 id
  go_wp2_with (go_at_call 42; refine (free_any _ mb (d : Int)).mono ?_; rintro e w4 ⟨rfl, rfl⟩)
  obtain ⟨bl, hbl⟩ : ∃ bl, bl = w3.heap.size := ⟨_, rfl⟩
  obtain ⟨bm, hbm⟩ : ∃ bm, bm = w.heap.size + 1 := ⟨_, rfl⟩
  obtain ⟨W4, hW4⟩ : ∃ W4, W4 = ((w3.alloc (.cells #[.slice none 0 0] 24)).alloc (.cells #[.map (some mb)] 76)).alloc (.cells #[.int .i64 (d : Int)] 3) := ⟨_, rfl⟩
  have hf4 : Fr (fun _ => False) w3 W4 := by rw [hW4]; exact (((Fr.refl _ _).alloc _).alloc _).alloc _
  have hz4 : W4.heap.size = bl + 3 := by rw [hW4, hbl]; simp
  obtain ⟨j1, j2, j3⟩ := heap3_new w3 (.cells #[.slice none 0 0] 24) (.cells #[.map (some mb)] 76) (.cells #[.int .i64 (d : Int)] 3)
  rw [← hW4, ← hbl] at j1 j2 j3
  rw [← hbl, ← hbm, ← hW4]
  have hf13 : Fr (fun _ => False) w1 w3 := (Fr.refl (fun _ => False) w1).drew.trans H3.out (fun _ h => h.elim)
  have hm4 : W4.heap[bm]? = some (.cells #[.int .i64 (many : Int)] 3 (0, 0)) := hf4.heap (hf13.heap (H1.out.1.heap (by rw [hbm]; exact HX.out.2.1) id) id) id
  have hs13 := hf13.size
  have hmbl : mb < bl := by have := H1.out.2.1.lt; omega
  have hmbg : w.heap.size + 2 ≤ mb := by have h9 := H1.out.2.2; have h8 := HX.out.2.2.2.2.2.2.2; rw [h8] at h9; exact h9
  have hbmz : bm < mb := by omega
  have hwl : w.heap.size ≤ bl := by omega
  obtain ⟨T, hT⟩ : ∃ T : Nat → Prop, T = fun b => b = bl ∨ b = bm ∨ W4.heap.size ≤ b := ⟨_, rfl⟩
  have hT0 : ∀ k, W4.heap.size ≤ k → T k := fun k hk => by rw [hT]; exact .inr (.inr hk)
  have hTn : ∀ k, k ≠ bl → k ≠ bm → k < W4.heap.size → ¬ T k := fun k h1 h2 h3 h4 => by rw [hT] at h4; rcases h4 with h4 | h4 | h4 <;> omega
  have hIt : ItF mb (bl + 1 + 1) (bl + 1) d (secs7 L) W4 := ⟨cell_of_one j3, cell_of_one j2, (H1.out.2.1.keep hf13 id).keep hf4 id⟩
  have hst0 : FdSt T W4.heap.size W4 W4 bl bm many [] := ⟨⟨_, j1, OwnRn.nil _ _⟩, hm4, by simp, Fr.refl _ _⟩
  have hfw : Fr (fun _ => False) w W4 := ((HX.out.1.trans H1.out.1 (fun _ h => h.elim)).trans hf13 (fun _ h => h.elim)).trans hf4 (fun _ h => h.elim)
  have HV := Lib.hid (And.intro hT (And.intro hT0 (And.intro hz4 (And.intro hmbl (And.intro hbmz (And.intro hfw (And.intro hbm hwl)))))))
  clear hf4 j1 j2 j3 hf13 hm4 hs13 hmbl hmbg hbmz hwl hT hW4 hbl hbm hfw c1 c3 k2 k3 k4 hz4
  refine (wpIn_wide (n := 3)).1 ?_
  refine wpIn_rangeFunc_ownH rfl (by decide) (gf := 68) (lb := #[.pointer (some ⟨bl + 1 + 1, 0, none⟩), .pointer (some ⟨bl + 1, 0, none⟩)]) rfl trivial (enters_of Try.func68 (by kernel_rfl) rfl)
    (free_stops (T := T) (d := d) 2 (bl + 1 + 1) (bl + 1) mb L hd (hTn _ (by omega) (by have := HV.out.2.2; omega) (by have := HV.out.2.2.1; omega)) (hTn _ (by omega) (by have := HV.out.2.2; omega) (by have := HV.out.2.2.1; omega)) (hTn _ (by have := HV.out.2.2; omega) (by have := HV.out.2.2; omega) (by have := HV.out.2.2; omega)) W4 hIt)
    (fun h k => h.trans k (fun _ hi => .inl hi)) (fun W l o o' hl _ _ _ => fr_putObj W l o' (hT0 l hl)) (Below.refl _ _) (fun _ => rfl)
    (fun (pre : List (Sc d)) W => FdSt T W4.heap.size W4 W bl bm many (pre.map (fun (y : Sc d) => y.1)))
    (fun c (pre : List (Sc d)) W => c = .exit 1 ∧ ∃ (ini : List (Sc d)) (x : Sc d), pre = ini ++ [x] ∧ ini.length = many ∧ FdSt T W4.heap.size W4 W bl bm many (ini.map (fun (y : Sc d) => y.1)))
    (fun pre A B row hs hg hr => hs.grown (by have := HV.out.2.2; omega) hT0 hg hr)
    (fun c pre A B row hs hg hr => by
      obtain ⟨e0, ini, x, e1, e2, e3⟩ := hs
      exact ⟨e0, ini, x, e1, e2, e3.grown (by have := HV.out.2.2; omega) hT0 hg hr⟩)
    hst0
    (fun x a' W => a' = ⟨#[.agg #[.int .i64 l, .int .i64 la, .int .i64 d], .int .i64 many, v, .pointer (some ⟨w.heap.size, 0, none⟩), .pointer (some ⟨bm, 0, none⟩), undef, .slice none 0 0, .int .i64 0, .map (some mb), .bool true, .pointer (some ⟨bl, 0, none⟩), .int .i64 (x.1 : Nat), .tuple #[.map (some mb), .bool true], .agg #[.int .i64 l, .int .i64 la, .int .i64 d], v, .tuple #[.map (some mb), .bool true], .map (some mb), .bool true,
      .bool false, .bool true, .bool false, .bool false, .int .i64 many, .bool false, .bool false, .bool false, .int .i64 many, .pointer (some ⟨w.heap.size, 2, none⟩), .int .i64 d, v, .int .i64 c, .int .i64 q, .bool false, .map (some mb), .pointer (some ⟨w.heap.size, 2, none⟩), .int .i64 d, .func (.func 68) #[] #[.pointer (some ⟨bl + 1 + 1, 0, none⟩), .pointer (some ⟨bl + 1, 0, none⟩)], .int .i64 (x.1 : Nat), undef, undef, undef, undef, undef, undef, undef, undef], []⟩)
    (fun x a' s A B row hs hg hr => hs) ?assign ?body ?done ?stop
  case assign =>
    rintro l9 pre x W' K hI hK
    simp only [enc7]
    gi_wp2
    exact hK _ _ (KeepsFrom.refl _ _) (Fr.refl _ _) hI rfl
  case body =>
    rintro l9 pre x a' W hll hr9 hst rfl hlt9
    obtain ⟨v0, h1, ho⟩ := hst.own
    obtain ⟨a0, c0, hv0⟩ := ho.form
    obtain ⟨xs, hxs⟩ : ∃ xs, xs = pre.map (fun (y : Sc d) => y.1) := ⟨_, rfl⟩
    have hxl : xs.length = pre.length := by rw [hxs, List.length_map]
    have hxd : ∀ y ∈ xs, y < d := fun y hy => by rw [hxs] at hy; obtain ⟨z, _, rfl⟩ := List.mem_map.1 hy; exact z.2
    rw [← hxs] at hst ho hv0
    have hm8 := hst.left
    obtain ⟨j, hj⟩ : ∃ j, j = many - xs.length := ⟨_, rfl⟩
    rw [← hj] at hm8
    have HV2 := HV.out
    have hle := hst.le
    by_cases hj0 : j = 0
    · rw [hj0] at hm8
      have em : W.cell? ⟨bm, 0, none⟩ = some (.int .i64 0) := cell_of_one hm8
      have HI := Lib.hid (And.intro hst (show pre.length = many by omega))
      have HXS := Lib.hid hxs
      clear hst hxs hxl hxd hj hj0 ho hv0 h1 hm8 hle HV2
      gi_wp2
      refine ⟨KeepsFrom.refl _ _, rfl, pre, x, rfl, HI.out.2, ?_⟩
      rw [← HXS.out]
      exact HI.out.1
    · have em : W.cell? ⟨bm, 0, none⟩ = some (.int .i64 (j : Int)) := cell_of_one hm8
      have el : W.cell? ⟨bl, 0, none⟩ = some v0 := cell_of_one h1
      have hjn : ((j : Int) == 0) = false := by rw [beq_eq_false_iff_ne]; omega
      have hjw : IntKind.i64.wrap ((j : Int) - 1) = (j : Int) - 1 := wrap_in5 (by omega) (by omega)
      have hjb : 1 ≤ j ∧ j ≤ 8192 := by omega
      have hbd := joins7_bounds hxd
      have hxsl : xs.length ≤ 8192 := by omega
      have HJ := Lib.hid (joined_any W4.heap.size W v0 (joins7 xs) x.1 ho (by have := hst.fr.size; omega) (by have := x.2; omega) (by have := hbd.1; omega) (fun r hr => by have h9 := rnOk_iff.1 (hbd.2 r hr); omega))
      subst hv0
      have HI := Lib.hid (And.intro hst (And.intro h1 (And.intro ho hm8)))
      have HXS := Lib.hid (And.intro hxs (And.intro hj hxl))
      have hbne : bl ≠ bm := by omega
      have hblz : bl < W4.heap.size ∧ bm < W4.heap.size := by omega
      have HBN := Lib.hid (And.intro hbne hblz)
      clear hst hxs hxl hxd hj hj0 ho h1 hm8 hle hbd hxsl HV2 hbne hblz
      gi_wp2_with (refine ⟨trivial, ?_⟩; gi_at_call 43; refine ((WideF.round l9).calls (n := 0) HJ.out).mono ?_; rintro e w8 ⟨v8, rfl, ho8, hf8⟩; (obtain ⟨a8, c8, rfl⟩ := ho8.form); (have hl8 := hf8.heap HI.out.2.1 (fun e => by have := (HI.out.2.2.1.own e).1; have := HBN.out.2; omega)); (have hm8 := hf8.heap HI.out.2.2.2 (fun e => by have := (HI.out.2.2.1.own e).1; have := HBN.out.2; omega)); (obtain ⟨q1, q2⟩ := one_cell hl8); (obtain ⟨q3, q4⟩ := one_cell (one_put2 hl8 hm8 HBN.out.1 (.slice a8 (jn7 (joins7 xs) x.1).length c8))); (have H8 := Lib.hid (And.intro ho8 hf8)); clear ho8 hf8 hl8 hm8)
      have hT := HV.out.1
      have h9 := HI.out.1.step (x := x.1) (v8 := .slice a8 (jn7 (joins7 xs) x.1).length c8) HBN.out.2 HBN.out.1 hT0 (by rw [hT]; exact .inl rfl) (by rw [hT]; exact .inr (.inl rfl)) HI.out.2.1 HI.out.2.2.1 (by rw [joins7_snoc]; exact H8.out.1) H8.out.2 (by have := HXS.out.2.1; omega) ((j : Int) - 1) (by have := HXS.out.2.1; omega)
      have e9 : (pre ++ [x]).map (fun (y : Sc d) => y.1) = xs ++ [x.1] := by rw [List.map_append, ← HXS.out.1]; rfl
      refine ⟨h9.1, h9.2.1, ?_⟩
      show FdSt T W4.heap.size W4 _ bl bm many ((pre ++ [x]).map (fun (y : Sc d) => y.1))
      rw [e9]
      exact h9.2.2
  case done =>
    rintro D ys W hD rfl hst hK
    rw [xsF_val] at hst
    obtain ⟨v0, h1, ho⟩ := hst.own
    obtain ⟨a0, c0, rfl⟩ := ho.form
    have el := cell_of_one h1
    have hle := hst.le
    have hft : (free7 d L).take many = free7 d L := List.take_of_length_le (by have := HX.out.2.2.2.2.2.2.1; omega)
    have HI := Lib.hid (And.intro ho (And.intro hst.fr hft))
    have HK := Lib.hid hK
    clear h1 ho hst hle hft hK
    go_wp2
    refine ⟨by simp, .inl ⟨_, _, rfl, run_takeDeferred HK.out, ?_⟩⟩
    have hfd := fr_putObj (T := (· = D)) W D (.deferred none) rfl
    have hV := HV.out
    have hT := hV.1
    refine ⟨_, results_tmp2 rfl _ _ _, _, rfl, ?_, (hV.2.2.2.2.2.1.trans (S := fun _ => False) HI.out.2.1 (fun k hk => ?_)).trans hfd (fun k e => .inr (by have : k = D := e; omega))⟩
    · have h9 := OwnE.keep HI.out.1 hfd (fun g hg e => by
        obtain ⟨_, cs, hb⟩ := HI.out.1.own hg
        rw [show g = D from e, HK.out] at hb
        cases hb)
      unfold find7
      rw [HI.out.2.2]
      exact OwnRn.lower h9 (by omega)
    · rw [hT] at hk
      rcases hk with hk | hk | hk <;> exact .inr (by omega)
  case stop =>
    rintro D c pre W hD hpre ⟨rfl, ini, x, e1, e2, hst⟩ hK
    have hini : ini.map (fun (y : Sc d) => y.1) = (free7 d L).take many := by
      obtain ⟨rest, hrest⟩ := hpre
      rw [← xsF_val, ← hrest, e1, List.map_append, List.map_append, List.append_assoc, List.take_append_of_le_length (by rw [List.length_map]; omega), List.take_of_length_le (by rw [List.length_map]; omega)]
    rw [hini] at hst
    obtain ⟨v0, h1, ho⟩ := hst.own
    obtain ⟨a0, c0, rfl⟩ := ho.form
    have el := cell_of_one h1
    have HI := Lib.hid (And.intro ho hst.fr)
    have HK := Lib.hid hK
    clear h1 ho hst hK hini e1 e2 hpre
    gi_wp2
    go_wp2
    refine ⟨by simp, .inl ⟨_, _, rfl, run_takeDeferred HK.out, ?_⟩⟩
    have hfd := fr_putObj (T := (· = D)) W D (.deferred none) rfl
    have hV := HV.out
    have hT := hV.1
    refine ⟨_, results_tmp2 rfl _ _ _, _, rfl, ?_, (hV.2.2.2.2.2.1.trans (S := fun _ => False) HI.out.2 (fun k hk => ?_)).trans hfd (fun k e => .inr (by have : k = D := e; omega))⟩
    · have h9 := OwnE.keep HI.out.1 hfd (fun g hg e => by
        obtain ⟨_, cs, hb⟩ := HI.out.1.own hg
        rw [show g = D from e, HK.out] at hb
        cases hb)
      exact OwnRn.lower h9 (by omega)
    · rw [hT] at hk
      rcases hk with hk | hk | hk <;> exact .inr (by omega)
end Go.Proofs.Ytcbbcihfooaggaa
