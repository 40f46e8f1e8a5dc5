/- Laid together: RFind BSame BAwake BAns -/
import Derived.Test.YtcbbcihfooaggaaBe13
import Derived.Test.YtcbbcihfooaggaaBe0
import Derived.Laws.StructEq
import Derived.DeepKeys4

namespace Go.Proofs.Ytcbbcihfooaggaa
open Go.RowKit Go.ChangeShapes
set_option linter.unusedVariables false
set_option maxRecDepth 100000 in
set_option maxHeartbeats 1000000 in
theorem rFind_arg {F : Nat → Prop} (w : World) (L A D many : Int) (v : Value) (l : List Rn) (hL : RnsIn F w v l) (hF : ∀ k, F k → k < w.heap.size) (hbad : bad7 L A D many l = true) :
    Calls Try.prog 11 #[.agg #[.int .i64 L, .int .i64 A, .int .i64 D], .int .i64 many, v] w fun e w' => e = .returned (.tuple #[.slice none 0 0, .int .i64 2]) ∧ Fr (fun _ => False) w w' := by
  have hf1 : Fr (fun _ => False) w (w.alloc (.cells #[.int .i64 L, .int .i64 A, .int .i64 D] 23)) := (Fr.refl _ _).alloc _
  have hLw := (hL.mono (G := fun k => F k ∧ k < w.heap.size) (fun k hk h => ⟨h, hk⟩)).quiet hf1
  have hFw : ∀ k, F k ∧ k < w.heap.size → k < (w.alloc (.cells #[.int .i64 L, .int .i64 A, .int .i64 D] 23)).heap.size := fun k hk => by have := hk.2; simp; omega
  cases hap : ap7 L A D l with
  | true =>
    have hneg : many < 0 := by rw [bad7, hap] at hbad; simpa using hbad
    cases h : rightS L A D with
    | false => rw [ap7_no h] at hap; cases hap
    | true =>
      obtain ⟨l0, a0, d0, s0, rfl, rfl, rfl, hs⟩ := rightS_ok h
      rw [ap7_ok hs] at hap
      have HC := Lib.hid (rm_y _ l0 a0 d0 s0 v l hs hLw hFw hap)
      have HF1 := Lib.hid hf1
      clear hLw hFw hf1 hap h hs hbad hL hF
      go_enter Try.func11, Try.ntmps11
      go_wp2_with (go_at_call 44; refine HC.out.mono ?_; rintro e w1 ⟨g, hg, rfl, ht, hf⟩; (have H1 := Lib.hid hf); clear ht hg hf)
      go_ret2
      exact ⟨rfl, HF1.out.trans H1.out (fun _ h => h.elim)⟩
  | false =>
    have HC := Lib.hid (rm_n _ L A D v l hLw hFw hap)
    have HF1 := Lib.hid hf1
    clear hLw hFw hf1 hap hbad hL hF
    go_enter Try.func11, Try.ntmps11
    go_wp2_with (go_at_call 44; refine HC.out.mono ?_; rintro e w1 ⟨rfl, hf⟩; (have H1 := Lib.hid hf); clear hf)
    go_ret2
    exact ⟨rfl, HF1.out.trans H1.out (fun _ h => h.elim)⟩
structure RfSt (W3 W : World) (v : Value) (i many : Nat) (L : List Rn) : Prop where
  own : OwnRn W3.heap.size W v (joins7 (free7 i L))
  fr : Fr (fun _ => False) W3 W
  le : (free7 i L).length ≤ many
theorem RfSt.done {W3 W : World} {v : Value} {i d many : Nat} {L : List Rn} (h : RfSt W3 W v i many L) (hi : i ≤ d) (hm : many ≤ (free7 d L).length) (he : i = d ∨ many - (free7 i L).length = 0) : OwnRn W3.heap.size W v (find7 d L many) := by
  have h1 := h.own
  have hle := h.le
  have e : free7 i L = (free7 d L).take many := by
    obtain ⟨r, hr⟩ := free7_prefix hi L
    rcases he with rfl | he
    · rw [List.take_of_length_le hle]
    · rw [hr, List.take_append_of_le_length (by omega), List.take_of_length_le hle]
  unfold find7
  rw [← e]
  exact h1
set_option maxRecDepth 100000 in
set_option maxHeartbeats 4000000 in
theorem rFind_ok {F : Nat → Prop} (w : World) (l la d s many : Nat) (v : Value) (L : List Rn) (hs : ShOk l la d s) (hL : RnsIn F w v L) (hF : ∀ k, F k → k < w.heap.size) (hap : apart7 d L = true) (hm2 : many ≤ 9223372036854775807) :
    Calls Try.prog 11 #[.agg #[.int .i64 l, .int .i64 la, .int .i64 d], .int .i64 many, v] w fun e w' => (if (free7 d L).length < many then e = .returned (.tuple #[.slice none 0 0, .int .i64 7]) ∧ Fr (fun _ => False) w w' else FindPost w (find7 d L many) e w') := by
  have hd : d ≤ 8192 := by have := hs.sum; have := hs.most; omega
  obtain ⟨W1, hW1⟩ : ∃ W1, W1 = w.alloc (.cells #[.int .i64 l, .int .i64 la, .int .i64 d] 23) := ⟨_, rfl⟩
  have hf1 : Fr (fun _ => False) w W1 := by rw [hW1]; exact (Fr.refl _ _).alloc _
  have hrow : W1.heap[w.heap.size]? = some (.cells #[.int .i64 l, .int .i64 la, .int .i64 d] 23 (0, 0)) := by rw [hW1]; exact heap_alloc_new w _
  have hLw := (hL.mono (G := fun k => F k ∧ k < w.heap.size) (fun k hk h => ⟨h, hk⟩)).quiet hf1
  have hFw : ∀ k, F k ∧ k < w.heap.size → k < W1.heap.size := fun k hk => by have := hk.2; have := hf1.size; omega
  have HW := Lib.hid hW1
  have HC := Lib.hid (rm_y W1 l la d s v L hs hLw hFw hap)
  obtain ⟨q, hq⟩ : ∃ q, q = (free7 d L).length := ⟨_, rfl⟩
  have HX := Lib.hid (And.intro hf1 (And.intro hrow (And.intro hLw (And.intro hFw (And.intro hap (And.intro hs hq))))))
  rw [← hq]
  have hn0 : decide ((many : Int) < 0) = false := by rw [decide_eq_false_iff_not]; omega
  have hqd : q ≤ d := by have := free7_length hap; omega
  clear hLw hFw hf1 hap hW1 hL hF hrow hs hq
  have HFR := Lib.hid (fun w1 (hf : Fr (fun _ => False) W1 w1) => rFree_yes w1 l la d s v L HX.out.2.2.2.2.2.1 (HX.out.2.2.1.quiet hf) (fun k hk => by have := HX.out.2.2.2.1 k hk; have := hf.size; omega) HX.out.2.2.2.2.1)
  by_cases hlt : q < many
  · simp only [if_pos hlt]
    have hgt : (q : Int) < (many : Int) := by omega
    clear hlt
    go_enter Try.func11, Try.ntmps11
    go_wp2_with (first
      | (go_at_call 44; rw [← HW.out]; refine HC.out.mono ?_; rintro e w1 ⟨g, hg, rfl, ht, hf⟩; (obtain ⟨c0, c1, c2⟩ := row3_cells (hf.heap HX.out.2.1 id)); (have H1 := Lib.hid hf); clear ht hg hf)
      | (go_at_call 13; refine (HFR.out _ H1.out).mono ?_; rw [← HX.out.2.2.2.2.2.2]; rintro e w2 ⟨rfl, hf⟩; (have H2 := Lib.hid hf); clear hf))
    go_ret2
    exact ⟨rfl, (HX.out.1.trans H1.out (fun _ h => h.elim)).trans H2.out (fun _ h => h.elim)⟩
  · simp only [if_neg hlt]
    have hgt : decide (q < many) = false := by rw [decide_eq_false_iff_not]; exact hlt
    have HMQ := Lib.hid (show many ≤ (free7 d L).length by have := HX.out.2.2.2.2.2.2; omega)
    have hmq : many ≤ 8192 := by omega
    clear hlt
    go_enter Try.func11, Try.ntmps11
    go_wp2_with (first
      | (go_at_call 44; rw [← HW.out]; refine HC.out.mono ?_; rintro e w1 ⟨g, hg, rfl, ht, hf⟩; (obtain ⟨c0, c1, c2⟩ := row3_cells (hf.heap HX.out.2.1 id)); (have H1 := Lib.hid (And.intro hf ht)); clear ht hg hf)
      | (go_at_call 13; refine (HFR.out _ H1.out.1).mono ?_; rw [← HX.out.2.2.2.2.2.2]; rintro e W3 ⟨rfl, hf⟩; (have H2 := Lib.hid hf); clear hf))
    have hrow3 := H2.out.heap H1.out.2 id
    have hcell : ∀ W, Fr (fun _ => False) W3 W → ∀ i, i < d → W.cell? ⟨g, i, none⟩ = some (.bool (decide (i ∈ secs7 L))) := fun W hf i hi => by rw [cell_of_row _ _ _ _ _ _ (hf.heap hrow3 id), bits7_get hi]
    have HCE := Lib.hid hcell
    have HFW := Lib.hid (show Fr (fun _ => False) w W3 from (HX.out.1.trans H1.out.1 (fun _ h => h.elim)).trans H2.out (fun _ h => h.elim))
    clear hcell hrow3 c0 c1 c2
    go_loopw [1, 12, 13] (fun mv ov iv wr => ∃ i k : Nat, i ≤ d ∧ iv = .int .i64 i ∧ mv = .int .i64 k ∧ k ≤ many ∧ (∃ ao n c, ov = .slice ao n c) ∧ Hid (RfSt W3 wr ov i many L ∧ k = many - (free7 i L).length)) (fun _ _ iv _ => d - (intOf iv).toNat)
    case atStart => exact ⟨0, many, by omega, rfl, rfl, by omega, ⟨none, 0, 0, rfl⟩, Lib.hid ⟨⟨OwnRn.nil _ _, Fr.refl _ _, by simp [free7]⟩, by simp [free7]⟩⟩
    case round =>
      obtain ⟨i, k, hi, rfl, rfl, hk, ⟨ao, n, cc, rfl⟩, hR⟩ := hrel
      by_cases hlt : i < d
      · have hlt64 : (i : Int) < (d : Int) := by omega
        by_cases hk0 : k = 0
        · have HI := Lib.hid (hR.out.1.done hi HMQ.out (.inr (by have := hR.out.2; omega)))
          have HF := Lib.hid (HFW.out.trans hR.out.1.fr (fun _ h => h.elim))
          subst hk0
          clear hR
          go_wp2
          go_ret2
          exact ⟨_, rfl, HI.out.lower HFW.out.size, HF.out⟩
        · have hkp : (0 : Int) < (k : Int) := by omega
          have hkp2 : 0 < k := by omega
          have hce := HCE.out _ hR.out.1.fr i hlt
          by_cases hm : i ∈ secs7 L
          · rw [decide_eq_true hm] at hce
            have hsu := free7_succ i L
            rw [if_pos hm, List.append_nil] at hsu
            have HI := Lib.hid (show RfSt W3 wr (.slice ao n cc) (i + 1) many L ∧ k = many - (free7 (i + 1) L).length from by
              rw [hsu]
              exact ⟨⟨by rw [hsu]; exact hR.out.1.own, hR.out.1.fr, by rw [hsu]; exact hR.out.1.le⟩, hR.out.2⟩)
            clear hR hsu hm hk0
            go_wp2
            go_roundw
            case rel => exact ⟨i + 1, k, by omega, by go_num, rfl, by omega, ⟨_, _, _, rfl⟩, HI⟩
            case measure => simp [intOf]; omega
          · rw [decide_eq_false hm] at hce
            have hsu := free7_succ i L
            rw [if_neg hm] at hsu
            have hkw : IntKind.i64.wrap ((k : Int) - 1) = ((k - 1 : Nat) : Int) := by rw [wrap_in5 (by omega) (by omega)]; omega
            obtain ⟨k', hk'⟩ : ∃ k', k' = k - 1 := ⟨_, rfl⟩
            rw [← hk'] at hkw
            have hks : (k : Int) - 1 = (k' : Int) := by omega
            obtain ⟨J, hJ⟩ : ∃ J, J = joins7 (free7 i L) := ⟨_, rfl⟩
            have hbd := joins7_bounds (xs := free7 i L) (d := d) (fun x hx => by have := (mem_free7.1 hx).1; omega)
            have hfi : (free7 i L).length ≤ i := by have := List.length_filter_le (fun x => !decide (x ∈ secs7 L)) (List.range i); rw [List.length_range] at this; exact this
            rw [← hJ] at hbd
            have ho := hR.out.1.own
            rw [← hJ] at ho
            have hstep : ∀ (W : World) (v' : Value), OwnRn W3.heap.size W v' (jn7 J i) → Fr (fun _ => False) W3 W → RfSt W3 W v' (i + 1) many L ∧ k' = many - (free7 (i + 1) L).length := fun W v' h1 h2 => by
              have hle := hR.out.1.le
              have hke := hR.out.2
              refine ⟨⟨by rw [hsu, joins7_snoc, ← hJ]; exact h1, h2, ?_⟩, ?_⟩ <;> rw [hsu, List.length_append, List.length_cons, List.length_nil] <;> omega
            have HST := Lib.hid hstep
            have HFR3 := Lib.hid hR.out.1.fr
            have hkle : k' + 1 ≤ many := by omega
            clear hk'
            obtain ⟨_, _, hf6⟩ := ho.form
            simp only [Value.slice.injEq] at hf6
            obtain ⟨hao, hnl, hcc⟩ := hf6
            have hzr := hR.out.1.fr.size
            clear hstep hsu hm hJ hR hao hcc
            rcases List.eq_nil_or_concat J with rfl | ⟨J, r, rfl⟩
            · obtain rfl : n = 0 := by simpa using hnl
              have HO := Lib.hid ho
              clear hnl ho hbd hfi
              go_wp2
              go_quiet ((fail))
              have hD := (Fr.refl (fun _ => False) wr).drewN nq
              obtain ⟨W5, hW5⟩ : ∃ W5, W5 = wr.drewN nq := ⟨_, rfl⟩
              rw [← hW5] at hD ⊢
              have H5 := Lib.hid hD
              clear hW5 hD
              go_wp2_with (at_builtin; refine wpList_append_rn (z := W3.heap.size) _ rfl (.tmp 83) (.tmp 86) rfl (.slice ao 0 cc) [] ((i : Int), 1) _ rfl rfl (heap_alloc_new _ _) ((OwnE.keep HO.out H5.out (fun _ _ h => h)).keep ((Fr.refl (fun _ => False) W5).alloc _) (fun _ _ h => h)) (by have := H5.out.size; simp; omega) (by decide) ?_; intro v' w' ho hf; (obtain ⟨a9, c9, rfl⟩ := ho.form); (have H6 := Lib.hid (And.intro ho hf)); clear ho hf)
              have hff : Fr (fun _ => False) W3 w' := (((HFR3.out.trans H5.out (fun _ h => h.elim)).alloc _)).trans H6.out.2 (fun b hb => .inr (by have := (HO.out.own hb).1; exact this))
              have HI := Lib.hid (HST.out _ _ H6.out.1 hff)
              clear hff
              go_roundw
              case rel => exact ⟨i + 1, k', by omega, by go_num, rfl, by omega, ⟨_, _, _, rfl⟩, HI⟩
              case measure => simp [intOf]; omega
            · rw [List.concat_eq_append] at ho hbd HST hnl
              obtain ⟨p, t⟩ := r
              have hb1 := rnOk_iff.1 (hbd.2 (p, t) (by simp))
              simp only at hb1
              rcases OwnRn.block ho with ⟨_, hv⟩ | ⟨g2, cap, cur, hvv, hzg, hg2, hn2, hc2, hs2, ht2⟩
              · simp at hv
              · rw [List.length_append, List.length_cons, List.length_nil, Nat.zero_add] at hnl hvv hn2
                simp only [Value.slice.injEq] at hvv
                obtain ⟨rfl, hnn, rfl⟩ := hvv
                obtain ⟨m, hm⟩ : ∃ m, m = J.length := ⟨_, rfl⟩
                rw [← hm] at hnn hn2
                have ho' : OwnRn W3.heap.size wr (.slice (some ⟨g2, 0, none⟩) (J.length + 1) cc) (J ++ [(p, t)]) := by rw [hnn, hm] at ho; exact ho
                obtain ⟨c0, c1, c2⟩ := OwnRn.last ho'
                rw [← hm] at c0 c1 c2
                simp only at c0 c1
                have hn8 : n ≤ 8192 := by have h8 := hbd.1; rw [List.length_append, List.length_cons, List.length_nil] at h8; omega
                have e1 : IntKind.i64.wrap ((n : Int) - 1) = (m : Int) := by rw [wrap_in5 (by omega) (by omega)]; omega
                have e1b : (n : Int) - 1 = (m : Int) := by omega
                have n0 : (0 : Int) < (n : Int) := by omega
                have n0b : 0 < n := by omega
                have m0 : (0 : Int) ≤ (m : Int) := by omega
                have m1 : (m : Int) < (n : Int) := by omega
                have m2 : m < n := by omega
                obtain ⟨y, hy⟩ : ∃ y, y = p + t := ⟨_, rfl⟩
                have e2 : IntKind.i64.wrap (p + t) = y := by rw [wrap_in5 (by omega) (by omega), hy]
                have HO := Lib.hid (And.intro ho' (And.intro hm (And.intro hnn hzg)))
                clear hg2 hs2 ht2 hzg ho ho' hm hnn hn2 hbd hfi hnl
                by_cases hpx : p + t = i
                · have e3 : (y == (i : Int)) = true := by rw [beq_iff_eq, hy, hpx]
                  have e4 : IntKind.i64.wrap (t + 1) = t + 1 := wrap_in5 (by omega) (by omega)
                  have HP := Lib.hid hpx
                  clear hpx hy
                  go_wp2
                  go_quiet ((fail))
                  have hD := (Fr.refl (fun _ => False) wr).drewN nq
                  obtain ⟨W5, hW5⟩ : ∃ W5, W5 = wr.drewN nq := ⟨_, rfl⟩
                  have k1 : W5.cell? ⟨g2, m * 2 + 1, none⟩ = some (.int .i64 t) := by rw [hW5]; exact c1
                  have k2 : W5.frozen? ⟨g2, m * 2 + 1, none⟩ = false := by rw [hW5]; exact c2
                  rw [← hW5] at hD ⊢
                  have H5 := Lib.hid hD
                  clear hW5 hD c0 c1 c2 e3
                  have h9 := OwnRn.grow (l := J) (r := (p, t)) (cap := cc) (z := W3.heap.size) (w := W5) (g := g2) (OwnE.keep HO.out.1 H5.out (fun _ _ h => h)) (t + 1)
                  have hff : Fr (fun _ => False) W3 (W5.setCell ⟨g2, m * 2 + 1, none⟩ (.int .i64 (t + 1))) := (HFR3.out.trans H5.out (fun _ h => h.elim)).setCell (p := ⟨g2, m * 2 + 1, none⟩) (.inr HO.out.2.2.2) _
                  rw [← HO.out.2.1] at h9
                  have HI := Lib.hid (HST.out _ (.slice (some ⟨g2, 0, none⟩) n cc) (by rw [jn7_snoc, if_pos HP.out, HO.out.2.2.1]; exact h9) hff)
                  clear hff h9
                  go_wp2
                  go_roundw
                  case rel => exact ⟨i + 1, k', by omega, by go_num, rfl, by omega, ⟨_, _, _, rfl⟩, HI⟩
                  case measure => simp [intOf]; omega
                · have e3 : (y == (i : Int)) = false := by rw [beq_eq_false_iff_ne, hy]; exact hpx
                  have HP := Lib.hid hpx
                  clear hpx hy
                  go_wp2
                  go_quiet ((fail))
                  have hD := (Fr.refl (fun _ => False) wr).drewN nq
                  obtain ⟨W5, hW5⟩ : ∃ W5, W5 = wr.drewN nq := ⟨_, rfl⟩
                  rw [← hW5] at hD ⊢
                  have H5 := Lib.hid hD
                  clear hW5 hD c0 c1 c2 e3
                  go_wp2_with (at_builtin; refine wpList_append_rn (z := W3.heap.size) _ rfl (.tmp 83) (.tmp 86) rfl (.slice (some ⟨g2, 0, none⟩) n cc) (J ++ [(p, t)]) ((i : Int), 1) _ rfl rfl (heap_alloc_new _ _) ((OwnE.keep (by have h7 := HO.out.1; rw [← HO.out.2.1, ← HO.out.2.2.1] at h7; exact h7) H5.out (fun _ _ h => h)).keep ((Fr.refl (fun _ => False) W5).alloc _) (fun _ _ h => h)) (by have := H5.out.size; simp; omega) (by have := HO.out.2; simp; omega) ?_; intro v' w' ho hf; (obtain ⟨a9, c9, rfl⟩ := ho.form); (have H6 := Lib.hid (And.intro ho hf)); clear ho hf)
                  have hff : Fr (fun _ => False) W3 w' := (((HFR3.out.trans H5.out (fun _ h => h.elim)).alloc _)).trans H6.out.2 (fun b hb => .inr (by simp only [Value.ownBlock, Option.some.injEq] at hb; rw [← hb]; exact HO.out.2.2.2))
                  have hI0 := HST.out _ _ (by rw [jn7_snoc, if_neg HP.out]; exact H6.out.1) hff
                  rw [show (J ++ [(p, t)] ++ [((i : Int), (1 : Int))]).length = J.length + 2 by simp] at hI0
                  have HI := Lib.hid hI0
                  clear hff hI0
                  go_roundw
                  case rel => exact ⟨i + 1, k', by omega, by go_num, rfl, by omega, ⟨_, _, _, rfl⟩, HI⟩
                  case measure => simp [intOf]; omega
      · obtain rfl : i = d := by omega
        have HI := Lib.hid (hR.out.1.done hi HMQ.out (.inl rfl))
        have HF := Lib.hid (HFW.out.trans hR.out.1.fr (fun _ h => h.elim))
        clear hR
        go_wp2
        go_ret2
        exact ⟨_, rfl, HI.out.lower HFW.out.size, HF.out⟩
end Go.Proofs.Ytcbbcihfooaggaa
namespace Go.Proofs.Ytcbbcihfooaggaa
open Go.RowKit Go.ChangeShapes
set_option linter.unusedVariables false
theorem run_fields7 : (Try.prog.fieldsOf 68).toList.map (fun f => (f.name, f.type, f.offset)) = [("At", 3, 0), ("Many", 3, 1)] := by kernel_rfl
theorem two_of_map {α β : Type} {g : α → β} {l : List α} {x y : β} (h : l.map g = [x, y]) : ∃ a b, l = [a, b] ∧ g a = x ∧ g b = y := by
  have hl := congrArg List.length h
  rw [List.length_map] at hl
  match l, hl with
  | [a, b], _ =>
    simp only [List.map_cons, List.map_nil, List.cons.injEq, and_true] at h
    exact ⟨a, b, rfl, h.1, h.2⟩
theorem eqFields_cons7 {P : Program} (w : World) (d : Nat) (xs ys : Array Value) (f : Field) (fs : List Field) (hn : f.name ≠ "_") (a b : Value) (r : Bool) (h1 : (part f.type xs f.offset).run P w = .ok a w) (h2 : (part f.type ys f.offset).run P w = .ok b w)
    (h3 : (Op.equalIn d f.type a b).run P w = .ok r w) : (Op.eqFields d xs ys (f :: fs)).run P w = if r = true then (Op.eqFields d xs ys fs).run P w else .ok false w := by
  rw [Op.eqFields, if_pos hn]
  simp only [Sem.run_bind, h1, h2, h3, Result.andThen_ok]
  cases r
  · simp
  · simp
theorem eq_int_self7 (w : World) (d : Nat) (a : Int) : (Op.equalIn (d + 1) 3 (.int .i64 a) (.int .i64 a)).run Try.prog w = .ok true w := by
  have h : (Op.equalIn (d + 1) 3 (.int .i64 a) (.int .i64 a)).run Try.prog w = .ok (a == a) w := by kernel_rfl
  rw [h, beq_self_eq_true]
theorem run_neq_run (w : World) (a b : Int) :
    (binOp .neq 68 (.agg #[.int .i64 a, .int .i64 b]) (.agg #[.int .i64 a, .int .i64 b])).run Try.prog w = .ok (.bool false) w := by
  rw [run_neq_struct, show Op.equalIn 10000 = Op.equalIn (9998 + 2) from rfl]
  have h : (Op.equalIn (9998 + 2) 68 (.agg #[.int .i64 a, .int .i64 b]) (.agg #[.int .i64 a, .int .i64 b])).run Try.prog w = .ok true w := by
    rw [run_equalIn_struct w (9998 + 1) 68 _ _ (by kernel_rfl) (by kernel_rfl)]
    obtain ⟨f1, f2, hf, x1, x2⟩ := two_of_map run_fields7
    simp only [Prod.mk.injEq] at x1 x2
    obtain ⟨n1, t1, o1⟩ := x1
    obtain ⟨n2, t2, o2⟩ := x2
    rw [hf]
    rw [eqFields_cons7 w _ _ _ f1 _ (by rw [n1]; decide) (.int .i64 a) (.int .i64 a) true (by rw [t1, o1]; kernel_rfl) (by rw [t1, o1]; kernel_rfl) (by rw [t1]; exact eq_int_self7 w 9998 a), if_pos rfl,
      eqFields_cons7 w _ _ _ f2 _ (by rw [n2]; decide) (.int .i64 b) (.int .i64 b) true (by rw [t2, o2]; kernel_rfl) (by rw [t2, o2]; kernel_rfl) (by rw [t2]; exact eq_int_self7 w 9998 b), if_pos rfl]
    rfl
  rw [h]
  rfl
theorem guard_run7 (w : World) (op : BinOp) (x y : Operand) (A Bb : Array Value) : (eqGuard op 68 x y (.agg A) (.agg Bb)).run Try.prog w = .ok () w := run_eqGuard_agg w op _ x y A Bb (by kernel_rfl)
set_option maxRecDepth 100000 in
set_option maxHeartbeats 1000000 in
theorem same7_any {F G : Nat → Prop} (w : World) (v u : Value) (l : List Rn) (hv : RnsIn F w v l) (hu : RnsIn G w u l) :
    Calls Try.prog 18 #[v, u] w fun e w' => e = .returned (.bool true) ∧ ∃ n, w' = w.drewN n := by
  obtain ⟨ao, cap, rfl, hc1, hc2, b, off, hao, hcells⟩ := hv.open7
  obtain ⟨ao2, cap2, rfl, hd1, hd2, b2, off2, hao2, hcells2⟩ := hu.open7
  obtain ⟨n, hnn⟩ : ∃ n, n = l.length := ⟨_, rfl⟩
  rw [← hnn] at hc1 hd1 hao hao2 ⊢
  have HN := Lib.hid hnn
  have HA := Lib.hid (And.intro hao (And.intro hao2 (And.intro hcells hcells2)))
  have hneq := fun W a b => run_neq_run W a b
  have hgd := fun W op x y A Bb => guard_run7 W op x y A Bb
  clear hv hu hnn hao hao2 hcells hcells2
  go_enter Try.func18, Try.ntmps18
  go_wp2
  go_loopw [5] (fun iv wr => ∃ i q : Nat, i ≤ n ∧ iv = .int .i64 i ∧ wr = w.drewN q) (fun iv _ => n - (intOf iv).toNat)
  case atStart => exact ⟨0, 0, by omega, rfl, rfl⟩
  case round =>
    obtain ⟨i, q, hi, rfl, rfl⟩ := hrel
    by_cases hlt : i < n
    · have hiL : i < l.length := by have := HN.out; omega
      obtain ⟨rfl, _⟩ := HA.out.1 (by omega)
      obtain ⟨rfl, _⟩ := HA.out.2.1 (by omega)
      have e1 := HA.out.2.2.1 i hiL
      have e2 := HA.out.2.2.2 i hiL
      obtain ⟨x, hx⟩ : ∃ x, x = l[i].1 := ⟨_, rfl⟩
      obtain ⟨y, hy⟩ : ∃ y, y = l[i].2 := ⟨_, rfl⟩
      rw [← hx, ← hy] at e1 e2
      obtain ⟨c0, c1⟩ := e1
      obtain ⟨d0, d1⟩ := e2
      have hlt64 : (i : Int) < (n : Int) := by omega
      have hi0 : (0 : Int) ≤ (i : Int) := by omega
      have hti : (i : Int).toNat = i := by omega
      clear hx hy hiL
      go_wp2
      go_quiet ((fail))
      go_wp2
      go_roundw
      case rel => exact ⟨i + 1, q + nq, by omega, by go_num, by simp⟩
      case measure => simp [intOf]; omega
    · obtain rfl : i = n := by omega
      go_wp2
      go_ret
      exact ⟨rfl, q, rfl⟩
end Go.Proofs.Ytcbbcihfooaggaa
namespace Go.Proofs.Ytcbbcihfooaggaa
open Go.RowKit Go.ChangeShapes
set_option linter.unusedVariables false
theorem shape7_ok : ShOk 1 1 5 9 := ⟨by decide, by decide, by decide, by decide, by decide⟩
theorem ex7_apart : apart7 5 [(1, 2)] = true := by decide
theorem ex7_find : find7 5 [(1, 2)] 3 = [(0, 1), (3, 2)] := by decide
theorem bFind_any {F : Nat → Prop} (w : World) (l la d s many : Nat) (v : Value) (L : List Rn) (hs : ShOk l la d s) (hL : RnsIn F w v L) (hF : ∀ k, F k → k < w.heap.size) (hap : apart7 d L = true) (hm : many ≤ (free7 d L).length) :
    Calls Try.prog 10 #[.agg #[.int .i64 l, .int .i64 la, .int .i64 d], .int .i64 many, v] w (FindPost w (find7 d L many)) :=
  callsIn_wide.1 (bFind_in w l la d s many v L hs hL hF hap hm)
theorem OwnRn.rns {z : Nat} {w : World} {v : Value} {l : List Rn} (h : OwnRn z w v l) (hb : ∀ r ∈ l, -9223372036854775808 ≤ r.1 ∧ r.1 ≤ 9223372036854775807 ∧ -9223372036854775808 ≤ r.2 ∧ r.2 ≤ 9223372036854775807) : RnsIn (fun k => z ≤ k ∧ v.ownBlock = some k) w v l :=
  ⟨(OwnE.elems h).mono (by decide) (fun k _ e => ⟨(OwnE.own h k e).1, e⟩), hb⟩
theorem RnsIn.two {w : World} {g : Nat} {T : TypeId} {a b c d : Int} (h : w.heap[g]? = some (.cells #[.int .i64 a, .int .i64 b, .int .i64 c, .int .i64 d] T (0, 0))) (hb : ∀ x ∈ [a, b, c, d], -9223372036854775808 ≤ x ∧ x ≤ 9223372036854775807) : RnsIn (fun j => j = g) w (.slice (some ⟨g, 0, none⟩) 2 2) [(a, b), (c, d)] := by
  have h1 := hb a (by simp)
  have h2 := hb b (by simp)
  have h3 := hb c (by simp)
  have h4 := hb d (by simp)
  refine ⟨⟨_, 2, rfl, Nat.le_refl _, by decide, rnC_len [(a, b), (c, d)], fun _ => ⟨g, 0, rfl, rfl, fun i hi j hj => ?_⟩⟩, fun r hr => ?_⟩
  · rw [cell_of_row _ _ _ _ _ _ h]
    have hi2 : i < 2 := by simpa using hi
    match i, hi2, j, hj with
    | 0, _, 0, _ => simp [rnC]
    | 0, _, 1, _ => simp [rnC]
    | 1, _, 0, _ => simp [rnC]
    | 1, _, 1, _ => simp [rnC]
  · simp only [List.mem_cons, List.not_mem_nil, or_false] at hr
    rcases hr with rfl | rfl <;> simp only <;> omega
set_option maxRecDepth 100000 in
set_option maxHeartbeats 1000000 in
theorem awake7_any (w : World) : Calls Try.prog 9 #[] w fun e w' => e = .returned (.bool true) ∧ Fr (fun _ => False) w w' := by
  obtain ⟨W1, hW1⟩ : ∃ W1, W1 = (w.alloc (.cells #[.int .i64 1, .int .i64 1, .int .i64 5] 23)).alloc (.cells #[.int .i64 1, .int .i64 2] 68) := ⟨_, rfl⟩
  have hf1 : Fr (fun _ => False) w W1 := by rw [hW1]; exact ((Fr.refl _ _).alloc _).alloc _
  have hr1 : W1.heap[w.heap.size + 1]? = some (.cells #[.int .i64 1, .int .i64 2] 68 (0, 0)) := by rw [hW1]; exact heap_alloc2_new w _ _
  have hz1 : W1.heap.size = w.heap.size + 2 := by rw [hW1]; simp
  have hL := RnsIn.ofBlock hr1 ⟨by decide, by decide⟩ ⟨by decide, by decide⟩
  have hc := bFind_any W1 1 1 5 9 3 _ [(1, 2)] shape7_ok hL (fun k hk => by have : k = w.heap.size + 1 := hk; omega) ex7_apart (by decide)
  rw [ex7_find] at hc
  have HC := Lib.hid hc
  have HW := Lib.hid hW1
  have HX := Lib.hid (And.intro hf1 hz1)
  have hnd : need7 65 = 2 := by decide
  have HND := Lib.hid hnd
  clear hW1 hf1 hr1 hz1 hL hc hnd
  go_enter Try.func9, Try.ntmps9
  go_wp2_with (first
    | (go_at_call 10; rw [← HW.out]; refine HC.out.mono ?_; rintro e w2 ⟨v2, rfl, ho2, hf2⟩; (obtain ⟨a2, c2, rfl⟩ := ho2.form); (have H2 := Lib.hid (And.intro ho2 hf2)); clear ho2 hf2)
    | (go_at_call 18; refine (same7_any (F := fun k => W1.heap.size ≤ k ∧ (Value.slice a2 2 c2).ownBlock = some k) (G := fun j => j = w2.heap.size) _ _ _ [(0, 1), (3, 2)] ((H2.out.1.rns (by decide)).quiet ((Fr.refl (fun _ => False) w2).alloc _)) (RnsIn.two (heap_alloc_new w2 _) (by decide))).mono ?_; rintro e w3 ⟨rfl, n3, rfl⟩)
    | (go_at_call 14; refine (bNeed_any _ 65 (by decide) (by decide)).mono ?_; rw [HND.out]; rintro e w4 ⟨rfl, rfl⟩))
  go_ret
  exact ⟨rfl, ((HX.out.1.trans H2.out.2 (fun _ h => h.elim)).alloc _).drewN _⟩
end Go.Proofs.Ytcbbcihfooaggaa
namespace Go.Proofs.Ytcbbcihfooaggaa
open Go.RowKit Go.ChangeShapes
set_option linter.unusedVariables false
def findA (L A D many : Int) (l : List Rn) : Int × List Rn := if bad7 L A D many l = true then (2, []) else if (free7 D.toNat l).length < many.toNat then (7, []) else (0, find7 D.toNat l many.toNat)
def freeA (L A D : Int) (l : List Rn) : Int × Int := if ap7 L A D l = true then ((free7 D.toNat l).length, 0) else (0, 2)
def FindP (w : World) (a : Int × List Rn) (e : Ending) (w' : World) : Prop := ∃ ao n c, e = .returned (.tuple #[.slice ao n c, .int .i64 a.1]) ∧ RnsIn (fun k => w.heap.size ≤ k) w' (.slice ao n c) a.2 ∧ Fr (fun _ => False) w w'
theorem find7_in {d many : Nat} {l : List Rn} (hd : d ≤ 8192) : ∀ r ∈ find7 d l many, -9223372036854775808 ≤ r.1 ∧ r.1 ≤ 9223372036854775807 ∧ -9223372036854775808 ≤ r.2 ∧ r.2 ≤ 9223372036854775807 := by
  intro r hr
  have h := (joins7_bounds (xs := (free7 d l).take many) (d := d) (fun x hx => (mem_free7.1 (List.mem_of_mem_take hx)).1)).2 r hr
  have := rnOk_iff.1 h
  omega
theorem FindPost.p {w w' : World} {d many : Nat} {l : List Rn} {e : Ending} (h : FindPost w (find7 d l many) e w') (hd : d ≤ 8192) : FindP w (0, find7 d l many) e w' := by
  obtain ⟨v, rfl, ho, hf⟩ := h
  obtain ⟨ao, c, rfl⟩ := ho.form
  exact ⟨ao, _, c, rfl, (ho.rns (find7_in hd)).mono (fun _ _ h => h.1), hf⟩
theorem findP_none {w w' : World} {c : Int} {e : Ending} (h : e = .returned (.tuple #[.slice none 0 0, .int .i64 c]) ∧ Fr (fun _ => False) w w') : FindP w (c, []) e w' := ⟨none, 0, 0, h.1, RnsIn.nil _ _, h.2⟩
theorem not_bad7 {L A D many : Int} {l : List Rn} (h : ¬ bad7 L A D many l = true) : ap7 L A D l = true ∧ 0 ≤ many := by
  unfold bad7 at h
  simp only [Bool.or_eq_true, Bool.not_eq_true', decide_eq_true_eq, not_or] at h
  exact ⟨by simpa using h.1, by omega⟩
theorem ap7_open {L A D : Int} {l : List Rn} (h : ap7 L A D l = true) : ∃ l0 a0 d0 s0 : Nat, L = l0 ∧ A = a0 ∧ D = d0 ∧ ShOk l0 a0 d0 s0 ∧ apart7 d0 l = true := by
  cases hr : rightS L A D with
  | false => rw [ap7_no hr] at h; cases h
  | true =>
    obtain ⟨l0, a0, d0, s0, rfl, rfl, rfl, hs⟩ := rightS_ok hr
    rw [ap7_ok hs] at h
    exact ⟨l0, a0, d0, s0, rfl, rfl, rfl, hs, h⟩
theorem bFindA {F : Nat → Prop} (w : World) (L A D many : Int) (v : Value) (l : List Rn) (hL : RnsIn F w v l) (hF : ∀ k, F k → k < w.heap.size) (hm : many ≤ 9223372036854775807) :
    Calls Try.prog 10 #[.agg #[.int .i64 L, .int .i64 A, .int .i64 D], .int .i64 many, v] w (FindP w (findA L A D many l)) := by
  unfold findA
  by_cases hb : bad7 L A D many l = true
  · rw [if_pos hb]
    exact (bFind_arg w L A D many v l hL hF hb).mono (fun e w' h => findP_none h)
  · rw [if_neg hb]
    obtain ⟨hap, hm0⟩ := not_bad7 hb
    obtain ⟨l0, a0, d0, s0, rfl, rfl, rfl, hs, hap⟩ := ap7_open hap
    obtain ⟨m, rfl⟩ : ∃ m : Nat, many = m := ⟨many.toNat, by omega⟩
    simp only [Int.toNat_natCast]
    have hd : d0 ≤ 8192 := by have := hs.sum; have := hs.most; omega
    by_cases hf : (free7 d0 l).length < m
    · rw [if_pos hf]
      exact (bFind_full w l0 a0 d0 s0 m v l hs hL hF hap hf (by omega)).mono (fun e w' h => findP_none h)
    · rw [if_neg hf]
      exact (bFind_any w l0 a0 d0 s0 m v l hs hL hF hap (by omega)).mono (fun e w' h => h.p hd)
theorem rFindA {F : Nat → Prop} (w : World) (L A D many : Int) (v : Value) (l : List Rn) (hL : RnsIn F w v l) (hF : ∀ k, F k → k < w.heap.size) (hm : many ≤ 9223372036854775807) :
    Calls Try.prog 11 #[.agg #[.int .i64 L, .int .i64 A, .int .i64 D], .int .i64 many, v] w (FindP w (findA L A D many l)) := by
  unfold findA
  by_cases hb : bad7 L A D many l = true
  · rw [if_pos hb]
    exact (rFind_arg w L A D many v l hL hF hb).mono (fun e w' h => findP_none h)
  · rw [if_neg hb]
    obtain ⟨hap, hm0⟩ := not_bad7 hb
    obtain ⟨l0, a0, d0, s0, rfl, rfl, rfl, hs, hap⟩ := ap7_open hap
    obtain ⟨m, rfl⟩ : ∃ m : Nat, many = m := ⟨many.toNat, by omega⟩
    simp only [Int.toNat_natCast]
    have hd : d0 ≤ 8192 := by have := hs.sum; have := hs.most; omega
    refine (rFind_ok w l0 a0 d0 s0 m v l hs hL hF hap (by omega)).mono (fun e w' h => ?_)
    by_cases hf : (free7 d0 l).length < m
    · rw [if_pos hf] at h ⊢
      exact findP_none h
    · rw [if_neg hf] at h ⊢
      exact h.p hd
theorem bFreeA {F : Nat → Prop} (w : World) (L A D : Int) (v : Value) (l : List Rn) (hL : RnsIn F w v l) (hF : ∀ k, F k → k < w.heap.size) :
    Calls Try.prog 12 #[.agg #[.int .i64 L, .int .i64 A, .int .i64 D], v] w fun e w' => e = .returned (.tuple #[.int .i64 (freeA L A D l).1, .int .i64 (freeA L A D l).2]) ∧ Fr (fun _ => False) w w' := by
  unfold freeA
  cases hap : ap7 L A D l with
  | false => exact bFree_no w L A D v l hL hF hap
  | true =>
    obtain ⟨l0, a0, d0, s0, rfl, rfl, rfl, hs, hap⟩ := ap7_open hap
    exact bFree_yes w l0 a0 d0 s0 v l hs hL hF hap
theorem rFreeA {F : Nat → Prop} (w : World) (L A D : Int) (v : Value) (l : List Rn) (hL : RnsIn F w v l) (hF : ∀ k, F k → k < w.heap.size) :
    Calls Try.prog 13 #[.agg #[.int .i64 L, .int .i64 A, .int .i64 D], v] w fun e w' => e = .returned (.tuple #[.int .i64 (freeA L A D l).1, .int .i64 (freeA L A D l).2]) ∧ Fr (fun _ => False) w w' := by
  unfold freeA
  cases hap : ap7 L A D l with
  | false => exact rFree_no w L A D v l hL hF hap
  | true =>
    obtain ⟨l0, a0, d0, s0, rfl, rfl, rfl, hs, hap⟩ := ap7_open hap
    exact rFree_yes w l0 a0 d0 s0 v l hs hL hF hap
theorem OwnRn.empty7 (w : World) : OwnRn w.heap.size (w.alloc (.cells #[] 68)) (.slice (some ⟨w.heap.size, 0, none⟩) 0 0) [] :=
  ⟨⟨rfl, .inr ⟨w.heap.size, 0, #[], rfl, Nat.le_refl _, heap_alloc_new w _, Nat.le_refl _, by simp [maxLen], rfl, rfl⟩⟩, fun _ h => by cases h⟩
theorem rnC_one {l : List Rn} : ∀ c ∈ l.map rnC, ∀ u ∈ c, u.oneCell' = true := by
  intro c hc u hu
  obtain ⟨r, _, rfl⟩ := List.mem_map.1 hc
  simp only [rnC, List.mem_cons, List.not_mem_nil, or_false] at hu
  rcases hu with rfl | rfl <;> rfl
theorem wpList_append_rns {F : Nat → Prop} {z : Nat} (w : World) {ops : Array Oper} {rest : List Oper} {o : Oper} {a : Act} {Q : Exit → Act → World → Prop} (hgd : o.guard = none) (s x : Operand)
    (hop : o.op = Op.call { callee := Callee.builtin Builtin.append, args := #[s, x], argTypes := #[24, 24] })
    (v y : Value) (l m : List Rn) (hs : a.eval s = v) (hx : a.eval x = y) (hown : OwnRn z w v l) (he : RnsIn F w y m) (hz : z ≤ w.heap.size) (hn : l.length + m.length ≤ 1000000)
    (hK : ∀ v' w', OwnRn z w' v' (l ++ m) → Fr (fun k => v.ownBlock = some k) w w' → wpList Try.prog ops Q rest (a.put o.dst v') w') : wpList Try.prog ops Q (o :: rest) a w :=
  wpList_append_e (T := 68) Try.underlying24 infoRn rfl (by decide) (by decide) w hgd s x hop v y _ _ hs hx hown he.1 rnC_one hz (by simpa using hn) fun v' w' ho hg _ =>
    hK v' w' (by unfold OwnRn; rw [List.map_append]; exact ho) ((Fr.refl (fun k => v.ownBlock = some k) w).grown hg (fun k hk => .inl hk))
end Go.Proofs.Ytcbbcihfooaggaa
