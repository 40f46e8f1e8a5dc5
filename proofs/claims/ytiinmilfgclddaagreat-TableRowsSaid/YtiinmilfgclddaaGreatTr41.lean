/- Laid together by merge.py: TRLaw -/
import Derived.Test.YtiinmilfgclddaaGreatTr39
import Derived.Test.YtiinmilfgclddaaGreatTr40
import Derived.Test.YtiinmilfgclddaaGreatTr19

/- Contract: the law TableRows. -/
namespace Go.Proofs.YtiinmilfgclddaaGreat
open Go.RowKit Go.ChangeShapes
set_option linter.unusedVariables false

theorem RwsIn.mono {F G : Nat → Prop} {w : World} {v : Value} {l : List RowD} (h : RwsIn F w v l) (hd : ∀ b, b < w.heap.size → F b → G b) : RwsIn G w v l := ⟨h.el.mono (by decide) hd, fun p hp => (h.bytes p hp).mono hd⟩
theorem intOk0 : IntOk 0 := ⟨by decide, by decide⟩
/-- One deed that was made in a block: what it bears, its key. -/
theorem deeds_made1 {F : Nat → Prop} {w : World} {vl : Value} {L : List ChgD} {P : ByteArray} (hL : ChgsIn F w vl L) (hf : ChgsFit L) (hP : P.size ≤ 140737488355328) (hF : ∀ k, F k → k < w.heap.size) :
    DeedsIn (fun k => F k ∨ k = w.heap.size) (w.alloc (.cells #[.int .i64 0, .int .i64 0, .int .i64 0, vl, .string P, .slice none 0 0] 45)) (.slice (some ⟨w.heap.size, 0, none⟩) 1 1) [⟨0, 0, 0, vl, L, P, .slice none 0 0, []⟩] := by
  have hb := heap_alloc_new w (.cells #[.int .i64 0, .int .i64 0, .int .i64 0, vl, .string P, .slice none 0 0] 45)
  have hfa : Fr (fun _ => False) w (w.alloc (.cells #[.int .i64 0, .int .i64 0, .int .i64 0, vl, .string P, .slice none 0 0] 45)) := (Fr.refl _ _).alloc _
  refine ⟨_, 1, rfl, Nat.le_refl _, (show (1 : Nat) ≤ 140737488351232 by decide), fun _ => ⟨w.heap.size, 0, rfl, fun i hi => ?_⟩⟩
  obtain rfl : i = 0 := by simp at hi; omega
  refine ⟨cell_of_row _ _ _ _ _ _ hb, cell_of_row _ _ _ _ _ _ hb, cell_of_row _ _ _ _ _ _ hb, cell_of_row _ _ _ _ _ _ hb, cell_of_row _ _ _ _ _ _ hb, cell_of_row _ _ _ _ _ _ hb, (hL.keep hfa (fun _ _ _ h => h)).mono (fun _ _ h => .inl h), BytesIn.nil _ _, .inr rfl, ⟨intOk0, intOk0, intOk0⟩, hf, hP, (show (0 : Nat) ≤ 140737488351232 by decide)⟩
/-- The other table, after i changes, one by one: b: each was taken. -/
structure USt (w5 w13 : World) (ub kn gb s l la d : Nat) (Xu : Nat → Prop) (cs : List ChgD) (i : Nat) (b : Bool) (wr : World) : Prop where
  ex : ∃ (X' : Nat → Prop) (h' : Hd) (dv' : Dv) (Mu : Tab), TbAt w5 wr ub kn gb s l la d h' false dv' Mu X' ∧ (∀ k, Xu k → X' k) ∧ TgK dv' l la s h' Mu i ∧ dv'.left = 0 ∧ (b = true → Mu = tDoAll [] ((cs.take i).map ChgD.chg))
  fr : Fr (LgT w5 Xu) w13 wr
theorem USt.commit {w5 w13 wr W : World} {ub kn gb s l la d : Nat} {Xu : Nat → Prop} {cs : List ChgD} {i : Nat} {b : Bool} (H : USt w5 w13 ub kn gb s l la d Xu cs i b wr) (hok : ShOk l la d s) (hs : s ≤ 80) (hi : i < cs.length) (hn : cs.length ≤ 1000) (hw : ∀ p ∈ cs, p.wrong = false) (hW : Fr (fun _ => False) wr W) (hz : W.heap.size = wr.heap.size + 1) {G : Nat → Prop} (hG : ∀ k, G k → k = wr.heap.size ∨ k < w5.heap.size) (hG2 : ∀ k, G k → k < W.heap.size) (v : Value) (hv : ChgsIn G W v [cs[i]]) :
    Calls Tryz.prog 15 #[.pointer (some ⟨ub, 0, none⟩), v] W fun e w' => ∃ r : Int, e = .returned (.int .i64 r) ∧ (r = 0 ∨ r = 7) ∧ USt w5 w13 ub kn gb s l la d Xu cs (i + 1) (b && decide (r = 0)) w' := by
  obtain ⟨X', h', dv', Mu, h1, h2, h3, h4, h5⟩ := H.ex
  have hg := h1.grow (Y := fun k => X' k ∨ k = wr.heap.size) hW (fun k hk => by
    rcases hk with hk | hk
    · exact .inl hk
    · exact .inr (by omega)) (fun k hk => .inl hk)
  have hw2 : [cs[i]].any ChgD.wrong = false := by
    rw [List.any_cons, hw _ (List.getElem_mem hi)]; rfl
  refine (commit_any hg h3 hok hs (by omega) v [cs[i]] hv (fun k hk => ⟨hG2 k hk, by
    rcases hG k hk with h | h
    · exact .inl (.inr h)
    · exact .inr h⟩) (by simp)).mono ?_
  rintro e w' ⟨r, h'', dn'', dv'', M'', rfl, a1, a2, a3⟩
  have hf : Fr (LgT w5 Xu) w13 w' := (H.fr.trans hW (fun _ h => h.elim)).trans a2 (fun k hk => .inl ⟨hk.1, fun hx => hk.2 (.inl (h2 k hx))⟩)
  rcases a3 with ⟨q, rfl, rfl, rfl, rfl⟩ | ⟨_, _, _, _, q5, q6, q7, _⟩
  · rcases q with q | q | q | q
    · cases q.2
    · have := q.2; simp at this
    · rw [hw2] at q; cases q.2
    · refine ⟨7, by rw [q.1], .inr rfl, ⟨_, _, _, _, a1, fun k hk => .inl (h2 k hk), h3.later (by omega), h4, fun hb => ?_⟩, hf⟩
      simp at hb
  · obtain ⟨rfl, q8⟩ := q7 h4
    rw [if_pos rfl] at q5
    subst q5
    rcases q6 with ⟨_, rfl, t⟩ | ⟨t, _⟩
    · refine ⟨0, rfl, .inl rfl, ⟨_, _, _, _, a1, fun k hk => .inl (h2 k hk), t, q8, fun hb => ?_⟩, hf⟩
      rw [h5 (by simpa using hb), List.take_succ_eq_append_getElem hi, List.map_append]
      unfold tDoAll
      rw [List.foldl_append]
    · cases t
/-- The rows that begin so. -/
def begB (P : ByteArray) (p : RowD) : Bool := Lib.hasPrefix p.key.data.toList P.data.toList
theorem filter_at {α : Type} (Q : α → Bool) (l : List α) (i : Nat) (h : i < l.length) : (l.take (i + 1)).filter Q = (l.take i).filter Q ++ (if Q l[i] = true then [l[i]] else []) := by
  rw [List.take_succ_eq_append_getElem h, List.filter_append]
  congr 1
  by_cases hq : Q l[i] = true <;> simp [hq]
theorem filter_here {α : Type} (Q : α → Bool) (l : List α) (i : Nat) (h : i < l.length) (hq : Q l[i] = true) : ((l.take i).filter Q).length < (l.filter Q).length ∧ (l.filter Q)[((l.take i).filter Q).length]? = some l[i] := by
  have e : l.filter Q = (l.take i).filter Q ++ (l[i] :: (l.drop (i + 1)).filter Q) := by
    conv => lhs; rw [← List.take_append_drop i l, List.drop_eq_getElem_cons h]
    rw [List.filter_append, List.filter_cons_of_pos hq]
  rw [e]
  constructor
  · simp
  · rw [List.getElem?_append_right (Nat.le_refl _), Nat.sub_self]; rfl
theorem rows_filter {l15 l16 : List RowD} {M : Tab} {P : ByteArray} (h1 : l15.map RowD.row = M) (h2 : l16.map RowD.row = M.filter (fun p => Lib.hasPrefix p.1 P.data.toList)) : l16.map RowD.row = (l15.filter (begB P)).map RowD.row := by
  rw [h2, ← h1, List.filter_map]
  rfl
theorem beg_cases (key P : ByteArray) : (key.size < P.size ∧ Lib.hasPrefix key.data.toList P.data.toList = false) ∨ (P.size ≤ key.size ∧ ((key.extract 0 P.size).toList == P.toList) = Lib.hasPrefix key.data.toList P.data.toList) := by
  rw [← Lib.hasPrefix_of_take, ← Lib.size_eq, ← Lib.size_eq, Lib.extract_toList, Lib.toList_data]
  by_cases h : P.size ≤ key.size
  · right
    refine ⟨h, ?_⟩
    simp [h]
  · left
    exact ⟨by omega, by simp [h]⟩
set_option maxRecDepth 100000 in
set_option maxHeartbeats 8000000 in
theorem tableRows_any (w : World) (L A D : Int) (v : Value) (cs : List ChgD) (hcs : ChgsIn (fun k => k < w.heap.size) w v cs) (hcf : ChgsFit cs) (P : ByteArray) (hP : P.size ≤ 140737488355328) :
    Calls Tryz.prog 4 #[.agg #[.int .i64 L, .int .i64 A, .int .i64 D], v, .string P] w fun e w' => e = .returned (.bool true) ∧ Fr (fun _ => False) w w' := by
  obtain ⟨gs, hgs⟩ : ∃ gs, gs = w.heap.size := ⟨_, rfl⟩
  obtain ⟨W1, hW1⟩ : ∃ W, W = w.alloc (.cells #[.int .i64 L, .int .i64 A, .int .i64 D] 23) := ⟨_, rfl⟩
  have H1 := Lib.hid (show Fr (fun _ => False) w W1 ∧ W1.heap[gs]? = some (.cells #[.int .i64 L, .int .i64 A, .int .i64 D] 23 (0, 0)) by
    rw [hW1, hgs]
    exact ⟨(Fr.refl _ _).alloc _, heap_alloc_new w _⟩)
  have HW := Lib.hid (And.intro hW1 hgs)
  have HCS := Lib.hid (And.intro hcs hcf)
  obtain ⟨ao, cap, rfl, _⟩ := hcs.open6
  obtain ⟨n, hn⟩ : ∃ n, n = cs.length := ⟨_, rfl⟩
  have HN := Lib.hid hn
  rw [← hn]
  have HGR := Lib.hid (fun (w2 : World) (hf : Fr (fun _ => False) w w2) => great_any6 (w2.alloc (.cells #[.int .i64 0, .int .i64 0, .int .i64 0, .slice ao n cap, .string P, .slice none 0 0] 45)) L A D (deeds_made1 (F := fun k => k < w.heap.size) (by rw [hn]; exact hcs.keep hf (fun _ _ _ h => h)) hcf hP (fun k hk => by have := hf.size; omega)))
  have HRI := Lib.hid (fun (W : World) => lRight_any W L A D)
  clear hcs hcf hW1 hgs hn
  go_enter Tryz.func4, Tryz.ntmps4
  go_wp2_with (go_at_call 5; rw [← HW.out.1, ← HW.out.2]; refine (awake_any W1).mono ?_; rintro e w2 ⟨rfl, hf2⟩; (have H2 := Lib.hid (And.intro (H1.out.1.trans hf2 (fun _ h => h.elim)) (hf2.heap H1.out.2 id))); (obtain ⟨s0, s1, s2⟩ := row3_cells H2.out.2); clear hf2)
  refine (HGR.out w2 H2.out.1).mono ?_
  rintro e w3 ⟨bg, rfl, hbg, hf3⟩
  have hf23 : Fr (fun _ => False) w2 w3 := ((Fr.refl _ w2).alloc _).trans hf3 (fun _ h => h.elim)
  have H3 := Lib.hid (And.intro (H2.out.1.trans hf23 (fun _ h => h.elim)) (hf23.heap H2.out.2 id))
  obtain ⟨s0, s1, s2⟩ := row3_cells H3.out.2
  clear hf3 hf23
  cases bg with
  | true =>
    go_wp2
    go_ret
    exact ⟨rfl, H3.out.1⟩
  | false =>
    obtain ⟨hs80, _, hlen⟩ := hbg rfl
    have hn1 : n ≤ 1000 := by have := hlen _ List.mem_cons_self; rw [HN.out]; exact this
    clear hbg hlen
    go_wp2_with fail
    refine (HRI.out w3).mono ?_
    rintro e w4 ⟨rfl, hf4⟩
    have H4 := Lib.hid (And.intro (H3.out.1.trans hf4 (fun _ h => h.elim)) (hf4.heap H3.out.2 id))
    cases hr : rightS L A D with
    | false =>
      clear hf4
      go_wp2
      go_ret
      exact ⟨rfl, H4.out.1⟩
    | true =>
      obtain ⟨l, la, d, rfl, rfl, rfl, hl1, hl2, hl3, hl4⟩ := rightS_yes hr
      have hs80' : 1 + l + 2 * la + d ≤ 80 := by
        rw [secsS, if_pos hr] at hs80
        omega
      obtain ⟨s, hs⟩ : ∃ s, s = 1 + l + 2 * la + d := ⟨_, rfl⟩
      have hok : ShOk l la d s := ⟨hl1, hl2, hl3, hs, by omega⟩
      have HOK := Lib.hid hok
      have hs8 : s ≤ 80 := by omega
      clear hr hs80 hs80' hs hok hl1 hl2 hl3 hl4 HGR HRI s0 s1 s2 hf4
      obtain ⟨s0, s1, s2⟩ := row3_cells H4.out.2
      have HNS := Lib.hid (show 1 ≤ s ∧ s ≤ 8192 from ⟨by have := HOK.out.sum; omega, by omega⟩)
      obtain ⟨dv1, ht1, K1, k01, hlf1⟩ := TgK.new l la d s HOK.out
      have HT := Lib.hid (And.intro ht1 (And.intro K1 (And.intro k01 hlf1)))
      have HFO := Lib.hid (fun (W : World) (g : Nat) (D : Nat → Prop) (hd : DevAt W D g s (Dv.new s)) => tFormat_any W g l la d s (Dv.new s) HOK.out hd (by simp [Dv.new]) (by simp [Dv.new]))
      rw [ht1] at HFO
      have HOP := Lib.hid (fun (W : World) (g : Nat) (D : Nat → Prop) (hd : DevAt W D g s dv1) => tOpen_any W g l la d s dv1 ⟨0, 0, 0, 1⟩ HOK.out hd K1.up K1.waits k01 KpT.none K1.fit)
      clear ht1 K1 k01 hlf1
      go_wp2_with (first
        | (go_at_call 9; (with_reducible refine (lSectors_any w4 l la d s HOK.out).mono ?_); rintro e w5 ⟨rfl, hf5⟩; (have H5 := Lib.hid (And.intro (H4.out.1.trans hf5 (fun _ h => h.elim)) (hf5.heap H4.out.2 id))); (obtain ⟨s0, s1, s2⟩ := row3_cells H5.out.2); clear hf5)
        | (go_at_call 8; (with_reducible refine (aNew w5 s HNS.out.1 HNS.out.2).mono ?_); rintro e w6 ⟨ga, rfl, hd6, hf6⟩; (have H6 := Lib.hid (And.intro (H5.out.1.trans hf6 (fun _ h => h.elim)) (And.intro (hf6.heap H5.out.2 id) (And.intro (hd6.mono (E := fun k => w5.heap.size ≤ k ∧ k < w6.heap.size) (fun k hk h => ⟨h, hk⟩)) hf6)))); (obtain ⟨s0, s1, s2⟩ := row3_cells H6.out.2.1); clear hf6 hd6)
        | (go_at_call 9; (with_reducible refine (lSectors_any w6 l la d s HOK.out).mono ?_); rintro e w7 ⟨rfl, hf7⟩; (have H7 := Lib.hid (And.intro (H6.out.1.trans hf7 (fun _ h => h.elim)) (And.intro (hf7.heap H6.out.2.1 id) (And.intro (H6.out.2.2.1.keep hf7 (fun _ _ _ h => h)) (H6.out.2.2.2.trans hf7 (fun _ h => h.elim)))))); (obtain ⟨s0, s1, s2⟩ := row3_cells H7.out.2.1); (have HZ7 := Lib.hid (And.intro (lt_of_block H5.out.2) (And.intro H6.out.2.2.2.size hf7.size))); clear hf7)
        | (go_at_call 8; (with_reducible refine (aNew w7 s HNS.out.1 HNS.out.2).mono ?_); rintro e w8 ⟨gb, rfl, hd8, hf8⟩; (have H8 := Lib.hid (And.intro (H7.out.1.trans hf8 (fun _ h => h.elim)) (And.intro (hf8.heap H7.out.2.1 id) (And.intro (H7.out.2.2.1.keep hf8 (fun _ _ _ h => h)) (And.intro (hd8.mono (E := fun k => w7.heap.size ≤ k ∧ k < w8.heap.size) (fun k hk h => ⟨h, hk⟩)) (And.intro (H7.out.2.2.2.trans hf8 (fun _ h => h.elim)) hf8.size)))))); (obtain ⟨s0, s1, s2⟩ := row3_cells H8.out.2.1); clear hf8 hd8))
      obtain ⟨a8, b8, c8, d8, e8, z8⟩ := H8.out
      have hz7 := HZ7.out
      refine (HFO.out w8 ga _ c8).mono ?_
      rintro e w9 ⟨rfl, hd9, hf9⟩
      have z9 := hf9.size
      have H9 := Lib.hid (And.intro (a8.trans hf9 (fun k hk => .inr (by have := H5.out.1.size; omega))) (And.intro (hf9.heap b8 (fun hh => by omega)) (And.intro (hd9.mono (E := fun k => ((w5.heap.size ≤ k ∧ k < w6.heap.size) ∨ w8.heap.size ≤ k) ∧ k < w9.heap.size) (fun k hk h => ⟨h, hk⟩)) (And.intro (d8.keep hf9 (fun k _ hk hk2 => by omega)) (And.intro (e8.trans hf9 (fun k hk => .inr (by omega))) z9)))))
      clear a8 b8 c8 d8 e8 hd9 hf9 z9
      obtain ⟨s0, s1, s2⟩ := row3_cells H9.out.2.1
      go_wp2_with fail
      obtain ⟨a9, b9, c9, d9, e9, z9⟩ := H9.out
      refine (HFO.out w9 gb _ d9).mono ?_
      rintro e w10 ⟨rfl, hd10, hf10⟩
      have z10 := hf10.size
      have H10 := Lib.hid (And.intro (a9.trans hf10 (fun k hk => .inr (by have := H5.out.1.size; omega))) (And.intro (hf10.heap b9 (fun hh => by omega)) (And.intro (c9.keep hf10 (fun k _ hk hk2 => by omega)) (And.intro (hd10.mono (E := fun k => ((w7.heap.size ≤ k ∧ k < w8.heap.size) ∨ w9.heap.size ≤ k) ∧ k < w10.heap.size) (fun k hk h => ⟨h, hk⟩)) (And.intro (e9.trans hf10 (fun k hk => .inr (by omega))) z10)))))
      clear a9 b9 c9 d9 e9 hd10 hf10 z10
      obtain ⟨s0, s1, s2⟩ := row3_cells H10.out.2.1
      go_wp2_with (first
        | (go_at_call 11; (with_reducible refine (HOP.out w10 ga _ H10.out.2.2.1).mono ?_); rintro e w11 ⟨tb, mb, jn, F, rfl, hj11, ht11, ho11, hF11, hf11⟩; (have H11 := Lib.hid (And.intro hj11 (And.intro ht11 (And.intro ho11 (And.intro hF11 hf11))))); (obtain ⟨s0, s1, s2⟩ := row3_cells (hf11.heap H10.out.2.1 id)); clear hj11 ht11 ho11 hF11 hf11)
        | (go_at_call 11; (with_reducible refine (HOP.out w11 gb _ (H10.out.2.2.2.1.keep H11.out.2.2.2.2 (fun _ _ _ h => h))).mono ?_); rintro e w12 ⟨ub, nb, kn, E, rfl, hj12, ht12, ho12, hF12, hf12⟩; (have H12 := Lib.hid (And.intro hj12 (And.intro ht12 (And.intro ho12 (And.intro hF12 hf12))))); (obtain ⟨s0, s1, s2⟩ := row3_cells ((H11.out.2.2.2.2.trans hf12 (fun _ h => h.elim)).heap H10.out.2.1 id)); clear hj12 ht12 ho12 hF12 hf12))
      have hz7 := HZ7.out
      have z8 := H8.out.2.2.2.2.2
      have z9 := H9.out.2.2.2.2.2
      obtain ⟨a10, b10, c10, d10, e10, z10⟩ := H10.out
      obtain ⟨j11, t11, o11, F11, f11⟩ := H11.out
      obtain ⟨j12, t12, o12, F12, f12⟩ := H12.out
      have z11 := f11.size
      have z12 := f12.size
      have f1012 : Fr (fun _ => False) w10 w12 := f11.trans f12 (fun _ h => h.elim)
      have lt11 := RwAt.lt t11
      have lt12 := RwAt.lt t12
      have lj11 := j11.lt
      have lj12 := j12.lt
      obtain ⟨X, hX⟩ : ∃ X : Nat → Prop, X = fun k => (((w7.heap.size ≤ k ∧ k < w8.heap.size) ∨ w9.heap.size ≤ k) ∧ k < w10.heap.size) ∨ (w11.heap.size ≤ k ∧ k < w12.heap.size) := ⟨_, rfl⟩
      have hTB : TbAt w5 w12 tb jn ga s l la d ⟨0, 0, 0, 1⟩ false dv1 [] X := by
        refine ⟨mb, F, LgAt.made (j11.keep f12 id) (c10.keep f1012 (fun _ _ _ h => h)) (fun k hk => ⟨by omega, by omega, by omega, fun h => ?_⟩) ⟨by omega, fun h => ?_⟩ (fun k h => ?_) (e10.trans f1012 (fun _ h => h.elim)), RwAt.quiet t11 f12, fun k h => ⟨?_, fun hx => ?_⟩⟩
        · rcases h with h | h | h | h
          · rw [hX] at h; omega
          · omega
          · omega
          · have := F11 k h; omega
        · rcases h with h | h | h | h
          · rw [hX] at h; omega
          · omega
          · omega
          · exact o11.2.2.2.2.2 h
        · rcases h with h | h | h | h
          · rw [hX] at h; omega
          · omega
          · omega
          · have := F11 k h; omega
        · rcases h with h | h | h
          · omega
          · omega
          · have := F11 k h; omega
        · rw [hX] at hx
          rcases h with h | h | h
          · omega
          · omega
          · have := F11 k h; omega
      have hcs12 := HCS.out.1.keep (a10.trans f1012 (fun _ h => h.elim)) (fun _ _ _ h => h)
      rw [← HN.out] at hcs12
      have hw5 := H5.out.1.size
      have hcm := commit_any hTB HT.out.2.1 HOK.out hs8 (by decide) _ cs hcs12 (fun k hk => ⟨by omega, .inr (by omega)⟩) (by rw [← HN.out]; omega)
      refine hcm.mono ?_
      rintro e w13 ⟨r, h13, dn13, dv13, M13, rfl, ht13, hf13, hc13⟩
      have hcase : (r ≠ 0 ∧ M13 = []) ∨ (r = 0 ∧ M13 = tDoAll [] (cs.map ChgD.chg) ∧ (∀ p ∈ cs, chgOk p.chg) ∧ (∀ p ∈ cs, p.wrong = false) ∧ cs.length ≤ 400) := by
        rcases hc13 with ⟨q, _, _, _, hM⟩ | ⟨q1, q2, q3, q4, q5, _, q7, _⟩
        · rcases q with ⟨rfl, q⟩ | q | q | q
          · right
            subst q
            exact ⟨rfl, hM, (fun p hp => by cases hp), (fun p hp => by cases hp), by simp⟩
          · exact .inl ⟨by rw [q.1]; decide, hM⟩
          · exact .inl ⟨by rw [q.1]; decide, hM⟩
          · exact .inl ⟨by rw [q.1]; decide, hM⟩
        · obtain ⟨rfl, _⟩ := q7 HT.out.2.2.2
          right
          refine ⟨rfl, by rw [if_pos rfl] at q5; exact q5, q2, fun p hp => ?_, q3⟩
          cases hq : p.wrong with
          | false => rfl
          | true => have h : cs.any ChgD.wrong = true := List.any_eq_true.2 ⟨p, hp, hq⟩; rw [q1] at h; cases h
      have hfw13 : Fr (fun _ => False) w w13 := (a10.trans f1012 (fun _ h => h.elim)).trans hf13 (fun k hk => .inr (by have := hk.1; omega))
      obtain ⟨mb13, F13, l13, t13, x13⟩ := id ht13.ex
      rcases hcase with ⟨hr0, rfl⟩ | ⟨rfl, hM13, hcok, hcwr, hn400⟩
      · have d0 : (r == 0) = false := by simpa using hr0
        have d1 : decide (r = 0) = false := by simpa using hr0
        have HSZ := Lib.hid (size_any t13)
        have HFW := Lib.hid hfw13
        clear hcm hcs12 hTB ht13 hf13 hc13 l13 t13 x13 hfw13 a10 b10 c10 d10 e10 j11 t11 o11 F11 f11 j12 t12 o12 F12 f12 f1012 hX s0 s1 s2 lt11 lt12 lj11 lj12
        go_wp2_with (go_at_call 18; refine HSZ.out.mono ?_; rintro e w14 ⟨rfl, hf14⟩; (have H14 := Lib.hid (HFW.out.trans hf14 (fun _ h => h.elim))); clear hf14)
        go_ret
        exact ⟨rfl, H14.out⟩
      · obtain ⟨Db, hDb⟩ : ∃ Db : Nat → Prop, Db = fun k => ((w7.heap.size ≤ k ∧ k < w8.heap.size) ∨ w9.heap.size ≤ k) ∧ k < w10.heap.size := ⟨_, rfl⟩
        have hXk : ∀ k, (Db k ∨ (w11.heap.size ≤ k ∧ k < w12.heap.size)) → X k := fun k hk => by rw [hX]; rw [hDb] at hk; exact hk
        rw [← hDb] at d10
        have hj13 := (j12.keep (Fr.refl (fun _ => False) w12) id).keep hf13 (fun hh => hh.2 (hXk _ (.inr (by omega))))
        have hd13 := (d10.keep f1012 (fun _ _ _ h => h)).keep hf13 (fun k _ hk hh => hh.2 (hXk _ (.inl hk)))
        have ht13u : TbRow E w13 ub nb kn la [] := RwAt.keep t12 hf13 (fun hh => hh.2 (hXk _ (.inr (by omega)))) (fun hh => hh.2 (hXk _ (.inr (by omega)))) (fun k _ hk hh => hh.2 (hXk _ (.inr (F12 k hk))))
        have z13 := hf13.size
        obtain ⟨Xu, hXu⟩ : ∃ Xu : Nat → Prop, Xu = fun k => k = tb ∨ k = mb13 ∨ F13 k := ⟨_, rfl⟩
        have hXn : ∀ k, Xu k → w5.heap.size ≤ k ∧ ¬ X k := fun k hk => by rw [hXu] at hk; exact x13 k hk
        have hTU : TbAt w5 w13 ub kn gb s l la d ⟨0, 0, 0, 1⟩ false dv1 [] Xu := by
          refine ⟨nb, E, LgAt.made hj13 hd13 (fun k hk => ⟨?_, ?_, ?_, fun h => ?_⟩) ⟨by omega, fun h => ?_⟩ (fun k h => ?_) l13.fr, ht13u, fun k h => ⟨?_, fun hx => ?_⟩⟩
          · rw [hDb] at hk; omega
          · rw [hDb] at hk; omega
          · rw [hDb] at hk; omega
          · rcases h with h | h | h | h
            · exact (hXn k h).2 (hXk k (.inl hk))
            · rw [hDb] at hk; omega
            · rw [hDb] at hk; omega
            · rw [hDb] at hk; have := F12 k h; omega
          · rcases h with h | h | h | h
            · exact (hXn _ h).2 (hXk _ (.inr (by omega)))
            · omega
            · omega
            · exact o12.2.2.2.2.2 h
          · rcases h with h | h | h | h
            · rw [hXu] at h
              exact l13.xs k (.inr h)
            · omega
            · omega
            · have := F12 k h; omega
          · rcases h with h | h | h
            · omega
            · omega
            · have := F12 k h; omega
          · rcases h with h | h | h
            · exact (hXn _ hx).2 (hXk _ (.inr (by omega)))
            · exact (hXn _ hx).2 (hXk _ (.inr (by omega)))
            · exact (hXn _ hx).2 (hXk _ (.inr (F12 k h)))
        have HU := Lib.hid (And.intro hTU (And.intro HT.out.2.1 HT.out.2.2.2))
        have HFW := Lib.hid (And.intro hfw13 (show w.heap.size ≤ w5.heap.size by omega))
        have HTR := Lib.hid (And.intro t13 (show ∀ k, (k = tb ∨ k = mb13 ∨ F13 k) → Xu k by rw [hXu]; exact fun k h => h))
        have HC := Lib.hid (And.intro hM13 (And.intro hcok (And.intro hcwr hn400)))
        have HTK := Lib.hid (show tabOk M13 ∧ M13.length ≤ 400 by
          rw [hM13]
          exact ⟨tabOk.nil.doAll (fun c hc => by obtain ⟨p, hp, rfl⟩ := List.mem_map.1 hc; exact hcok p hp), by have := tDoAll_le [] (cs.map ChgD.chg); rw [List.length_map] at this; simp at this; omega⟩)
        clear hcm hcs12 hTB ht13 hf13 hc13 l13 t13 x13 hfw13 a10 b10 c10 d10 e10 j11 t11 o11 F11 f11 j12 t12 o12 F12 f12 f1012 hX s0 s1 s2 lt11 lt12 lj11 lj12 hDb hXk hj13 hd13 ht13u hXu hXn hTU hM13 hcok hcwr hn400 z13 hz7 z8 z9 z10 z11 z12 hw5 H2 H3 H4 H5 H6 H7 H8 H9 H10 H11 H12 HZ7 HFO HOP HT HNS H1 HW
        go_wp2_with fail
        have H0 := Lib.hid (show USt w5 w13 ub kn gb s l la d Xu cs 0 true w13 from ⟨⟨Xu, _, _, _, HU.out.1, fun _ h => h, HU.out.2.1, HU.out.2.2, fun _ => rfl⟩, Fr.refl _ _⟩)
        clear HU
        go_loopw [18, 19] (fun bv iv wr => ∃ (i : Nat) (b : Bool), i ≤ n ∧ iv = .int .i64 i ∧ bv = .bool b ∧ Hid (USt w5 w13 ub kn gb s l la d Xu cs i b wr)) (fun _ iv _ => n - (intOf iv).toNat)
        case atStart => exact ⟨0, true, by omega, rfl, rfl, H0⟩
        case round =>
          clear H0
          obtain ⟨i, b, hi, rfl, rfl, hR⟩ := hrel
          by_cases hlt : i < n
          · have hiL : i < cs.length := by rw [← HN.out]; exact hlt
            obtain ⟨ao2, cap2, hv2, _, _, b2, o2, hao2, hce2⟩ := HCS.out.1.open6
            simp only [Value.slice.injEq] at hv2
            obtain ⟨rfl, -, rfl⟩ := hv2
            obtain ⟨rfl, hb2⟩ := hao2 (by omega)
            obtain ⟨p, hp⟩ : ∃ p, p = cs[i] := ⟨_, rfl⟩
            obtain ⟨e0, e1, e2⟩ := hce2 i hiL
            rw [← hp] at e0 e1 e2
            have hbx := HCS.out.1.bytes p (by rw [hp]; exact List.getElem_mem _)
            have hfr : Fr (fun _ => False) w wr := HFW.out.1.trans hR.out.fr (fun k hk => .inr (Nat.le_trans HFW.out.2 hk.1))
            have g0 := hfr.cell e0 id
            have g1 := hfr.cell e1 id
            have g2 := hfr.cell e2 id
            obtain ⟨ax, cx, hx, _⟩ := id hbx
            have hfa : Fr (fun _ => False) wr (wr.alloc (.cells #[.string p.key, p.x, .bool p.gone] 53)) := (Fr.refl _ _).alloc _
            have hin : ChgsIn (fun k => k = wr.heap.size ∨ k < w.heap.size) (wr.alloc (.cells #[.string p.key, p.x, .bool p.gone] 53)) (.slice (some ⟨wr.heap.size, 0, none⟩) 1 1) [cs[i]] := by
              rw [← hp]
              exact ⟨(Elems.ofBlock (c := chgC p) (heap_alloc_new wr _) rfl).mono (show 0 < 3 by decide) (fun _ _ h => .inl h), fun q hq => by rw [List.mem_singleton.1 hq]; exact ((hbx.keep hfr (fun _ _ _ h => h)).keep hfa (fun _ _ _ h => h)).mono (fun _ _ h => .inr h)⟩
            have hzr := hfr.size
            have HCM := Lib.hid (hR.out.commit HOK.out hs8 hiL (by rw [← HN.out]; exact hn1) HC.out.2.2.1 hfa (by simp) (fun k hk => by have := HFW.out.2; omega) (fun k hk => by simp; omega) _ hin)
            rw [hx] at g1 HCM
            obtain ⟨nk, hnk⟩ : ∃ nk, nk = p.B.length := ⟨_, rfl⟩
            obtain ⟨kk, hkk⟩ : ∃ kk, kk = p.key := ⟨_, rfl⟩
            obtain ⟨gg, hgg⟩ : ∃ gg, gg = p.gone := ⟨_, rfl⟩
            rw [← hnk, ← hkk, ← hgg] at HCM
            rw [← hkk] at g0
            rw [← hnk] at g1
            rw [← hgg] at g2
            have HDR := Lib.hid hR.out
            clear hR hp e0 e1 e2 hbx hfr hx hfa hin hzr hnk hkk hgg hao2 hce2
            go_wp2_with fail
            refine HCM.out.mono ?_
            rintro e w14 ⟨r, rfl, hr, hU⟩
            have HU2 := Lib.hid hU
            clear hU
            clear HCM HDR
            rcases hr with rfl | rfl
            · cases b with
              | true =>
                go_wp2_with fail
                go_roundw
                case rel => exact ⟨i + 1, true, by omega, by go_num, rfl, HU2⟩
                case measure => simp [intOf]; omega
              | false =>
                go_wp2_with fail
                go_roundw
                case rel => exact ⟨i + 1, false, by omega, by go_num, rfl, HU2⟩
                case measure => simp [intOf]; omega
            · cases b with
              | true =>
                go_wp2_with fail
                go_roundw
                case rel => exact ⟨i + 1, false, by omega, by go_num, rfl, HU2⟩
                case measure => simp [intOf]; omega
              | false =>
                go_wp2_with fail
                go_roundw
                case rel => exact ⟨i + 1, false, by omega, by go_num, rfl, HU2⟩
                case measure => simp [intOf]; omega
          · obtain rfl : i = n := by omega
            obtain ⟨X', h', dv', Mu, u1, u2, u3, u4, u5⟩ := hR.out.ex
            obtain ⟨mbu, Fu, lu, tu, xu⟩ := u1.ex
            have hfr := hR.out.fr
            have hMu : b = true → Mu = M13 := fun hb => by rw [u5 hb, List.take_of_length_le (by rw [← HN.out]; exact Nat.le_refl _), HC.out.1]
            have htr : TbRow F13 wr tb mb13 jn la M13 := RwAt.keep HTR.out.1 hfr (fun hh => hh.2 (HTR.out.2 _ (.inl rfl))) (fun hh => hh.2 (HTR.out.2 _ (.inr (.inl rfl)))) (fun k _ hk hh => hh.2 (HTR.out.2 _ (.inr (.inr hk))))
            have hFt : ∀ k, F13 k → k < wr.heap.size := fun k hk => by
              have h1 := lu.xs k (.inl (u2 k (HTR.out.2 _ (.inr (.inr hk)))))
              exact h1
            have HRO1 := Lib.hid (callsIn_wide.1 (tRows_in wr htr hFt ⟨#[]⟩))
            have HRO2 := Lib.hid (fun (W : World) (hf : Fr (fun _ => False) wr W) => callsIn_wide.1 (tRows_in W (RwAt.quiet htr hf) (fun k hk => by have := hFt k hk; have := hf.size; omega) P))
            have HRO3 := Lib.hid (fun (W : World) (hf : Fr (fun _ => False) wr W) => callsIn_wide.1 (tRows_in W (RwAt.quiet tu hf) (fun k hk => by have := lu.xs k (.inr (.inr (.inr hk))); have := hf.size; omega) ⟨#[]⟩))
            have HMU := Lib.hid hMu
            have HFR := Lib.hid (HFW.out.1.trans hfr (fun k hk => .inr (Nat.le_trans HFW.out.2 hk.1)))
            clear hR u1 u2 u3 u4 u5 lu tu xu hfr hMu htr hFt HTR HFW
            cases b
            case' false =>
              go_wp2_with (first
                | (go_at_call 19; (with_reducible refine HRO1.out.mono ?_); rintro e w15 ⟨v15, l15, rfl, ho15, hm15, hf15⟩; (rw [List.filter_eq_self.2 (fun p _ => hasPrefix_nil6 _)] at hm15); (obtain ⟨a15, c15, rfl, _⟩ := (ho15.rws (fun k hk => hk)).open6); (have H15 := Lib.hid (And.intro (ho15.rws (fun k hk => hk)) (And.intro hm15 hf15))); clear ho15 hm15 hf15)
                | (go_at_call 19; (with_reducible refine (HRO2.out w15 H15.out.2.2).mono ?_); rintro e w16 ⟨v16, l16, rfl, ho16, hm16, hf16⟩; (obtain ⟨a16, c16, rfl, _⟩ := (ho16.rws (fun k hk => hk)).open6); (have H16 := Lib.hid (And.intro (ho16.rws (fun k hk => hk)) (And.intro hm16 hf16))); clear ho16 hm16 hf16))
              have HL := Lib.hid (show RwsIn (fun _ => True) w16 (.slice a15 l15.length c15) l15 ∧ RwsIn (fun _ => True) w16 (.slice a16 l16.length c16) l16 ∧ Fr (fun _ => False) w w16 from ⟨(H15.out.1.mono (fun _ _ _ => trivial)).keep H16.out.2.2 (fun _ _ _ h => h), H16.out.1.mono (fun _ _ _ => trivial), (HFR.out.trans H15.out.2.2 (fun _ h => h.elim)).trans H16.out.2.2 (fun _ h => h.elim)⟩)
            case' true =>
              have HMV := Lib.hid (HMU.out rfl)
              go_wp2_with (first
                | (go_at_call 19; (with_reducible refine HRO1.out.mono ?_); rintro e w15 ⟨v15, l15, rfl, ho15, hm15, hf15⟩; (rw [List.filter_eq_self.2 (fun p _ => hasPrefix_nil6 _)] at hm15); (obtain ⟨a15, c15, rfl, _⟩ := (ho15.rws (fun k hk => hk)).open6); (have H15 := Lib.hid (And.intro (ho15.rws (fun k hk => hk)) (And.intro hm15 hf15))); clear ho15 hm15 hf15)
                | (go_at_call 19; (with_reducible refine (HRO2.out w15 H15.out.2.2).mono ?_); rintro e w16 ⟨v16, l16, rfl, ho16, hm16, hf16⟩; (obtain ⟨a16, c16, rfl, _⟩ := (ho16.rws (fun k hk => hk)).open6); (have H16 := Lib.hid (And.intro (ho16.rws (fun k hk => hk)) (And.intro hm16 hf16))); clear ho16 hm16 hf16)
                | (go_at_call 19; (with_reducible refine (HRO3.out w16 (H15.out.2.2.trans H16.out.2.2 (fun _ h => h.elim))).mono ?_); rintro e w17 ⟨v17, l17, rfl, ho17, hm17, hf17⟩; (rw [List.filter_eq_self.2 (fun p _ => hasPrefix_nil6 _), HMV.out] at hm17); (obtain ⟨a17, c17, rfl, _⟩ := (ho17.rws (fun k hk => hk)).open6); (have H17 := Lib.hid (And.intro (ho17.rws (fun k hk => hk)) (And.intro hm17 hf17))); clear ho17 hm17 hf17)
                | (go_at_call 20; (with_reducible refine (sameRows_yes w17 _ _ l15 l17 ((H15.out.1.keep H16.out.2.2 (fun _ _ _ h => h)).keep H17.out.2.2 (fun _ _ _ h => h)) H17.out.1 (by rw [H15.out.2.1, H17.out.2.1]) (by have h1 := congrArg List.length H15.out.2.1; rw [List.length_map] at h1; have := HTK.out.2; omega)).mono ?_); rintro e w18 ⟨rfl, hf18⟩; (have H18 := Lib.hid hf18); clear hf18))
              have HL := Lib.hid (show RwsIn (fun _ => True) w18 (.slice a15 l15.length c15) l15 ∧ RwsIn (fun _ => True) w18 (.slice a16 l16.length c16) l16 ∧ Fr (fun _ => False) w w18 from ⟨(((H15.out.1.mono (fun _ _ _ => trivial)).keep H16.out.2.2 (fun _ _ _ h => h)).keep H17.out.2.2 (fun _ _ _ h => h)).keep H18.out (fun _ _ _ h => h), ((H16.out.1.mono (fun _ _ _ => trivial)).keep H17.out.2.2 (fun _ _ _ h => h)).keep H18.out (fun _ _ _ h => h), (((HFR.out.trans H15.out.2.2 (fun _ h => h.elim)).trans H16.out.2.2 (fun _ h => h.elim)).trans H17.out.2.2 (fun _ h => h.elim)).trans H18.out (fun _ h => h.elim)⟩)
            all_goals (
              have HRF := Lib.hid (rows_filter H15.out.2.1 H16.out.2.1)
              obtain ⟨N, hN⟩ : ∃ N, N = l15.length := ⟨_, rfl⟩
              obtain ⟨m, hm⟩ : ∃ m, m = l16.length := ⟨_, rfl⟩
              have HNM := Lib.hid (And.intro hN hm)
              have hNs : N ≤ 400 := by have h1 := congrArg List.length H15.out.2.1; rw [List.length_map] at h1; have := HTK.out.2; omega
              have hms : m ≤ N := by have h1 := congrArg List.length HRF.out; rw [List.length_map, List.length_map] at h1; have := List.length_filter_le (begB P) l15; omega
              rw [← hN, ← hm] at HL ⊢
              clear H15 H16 HRO1 HRO2 HRO3 HFR hN hm
              go_loopw [23, 24] (fun kv iv wq => ∃ j k : Nat, j ≤ N ∧ k ≤ m ∧ iv = .int .i64 j ∧ kv = .int .i64 k ∧ Hid (k = ((l15.take j).filter (begB P)).length ∧ RwsIn (fun _ => True) wq (.slice a15 N c15) l15 ∧ RwsIn (fun _ => True) wq (.slice a16 m c16) l16 ∧ Fr (fun _ => False) w wq)) (fun _ iv _ => N - (intOf iv).toNat)
              case atStart => exact ⟨0, 0, by omega, by omega, rfl, rfl, Lib.hid ⟨rfl, HL.out⟩⟩
              case round =>
                clear HL
                obtain ⟨j, k, hj, hk, rfl, rfl, hR⟩ := hrel
                by_cases hlt : j < N
                · have hj15 : j < l15.length := by rw [← HNM.out.1]; exact hlt
                  obtain ⟨aa, ca, hva, _, _, ba, oa, hoa, hca⟩ := hR.out.2.1.open6
                  simp only [Value.slice.injEq] at hva
                  obtain ⟨rfl, -, rfl⟩ := hva
                  obtain ⟨rfl, _⟩ := hoa (by omega)
                  obtain ⟨e0, e1⟩ := hca j hj15
                  have hbx := hR.out.2.1.bytes _ (List.getElem_mem hj15)
                  obtain ⟨ax, cx, hx, hxr⟩ := id hbx
                  clear hxr
                  obtain ⟨nx, hnx⟩ : ∃ nx, nx = l15[j].B.length := ⟨_, rfl⟩
                  obtain ⟨key, hkey⟩ : ∃ key, key = l15[j].key := ⟨_, rfl⟩
                  rw [hx, ← hnx] at e1
                  rw [← hkey] at e0
                  have hflt := filter_at (begB P) l15 j hj15
                  have hbeg : begB P l15[j] = Lib.hasPrefix key.data.toList P.data.toList := by rw [hkey]; rfl
                  rcases beg_cases key P with ⟨c1, c2⟩ | ⟨c1, c2⟩
                  · rw [hbeg, c2] at hflt
                    have HNX := Lib.hid (show k = ((l15.take (j + 1)).filter (begB P)).length by rw [hflt]; simpa using hR.out.1)
                    have d1 : decide ((key.size : Int) < (P.size : Int)) = true := decide_eq_true (by omega)
                    have d2 : decide (key.size < P.size) = true := decide_eq_true (by omega)
                    clear hca hoa hbx hx hnx hkey hflt hbeg
                    go_wp2_with fail
                    go_roundw
                    case rel => exact ⟨j + 1, k, by omega, hk, by go_num, rfl, Lib.hid ⟨HNX.out, hR.out.2⟩⟩
                    case measure => simp [intOf]; omega
                  · have d1 : decide ((key.size : Int) < (P.size : Int)) = false := decide_eq_false (by omega)
                    have d2 : decide (key.size < P.size) = false := decide_eq_false (by omega)
                    have d3 : (P.size : Int) ≤ (key.size : Int) := by omega
                    cases hq : Lib.hasPrefix key.data.toList P.data.toList with
                    | false =>
                      rw [hbeg, hq] at hflt
                      rw [hq] at c2
                      have HNX := Lib.hid (show k = ((l15.take (j + 1)).filter (begB P)).length by rw [hflt]; simpa using hR.out.1)
                      clear hca hoa hbx hx hnx hkey hflt hbeg hq
                      go_wp2_with fail
                      go_roundw
                      case rel => exact ⟨j + 1, k, by omega, hk, by go_num, rfl, Lib.hid ⟨HNX.out, hR.out.2⟩⟩
                      case measure => simp [intOf]; omega
                    | true =>
                      rw [hbeg, hq] at hflt
                      rw [hq] at c2
                      obtain ⟨fl1, fl2⟩ := filter_here (begB P) l15 j hj15 (by rw [hbeg]; exact hq)
                      have hHRF := HRF.out
                      have hml : (l15.filter (begB P)).length = m := by have h1 := congrArg List.length hHRF; rw [List.length_map, List.length_map] at h1; rw [← h1, HNM.out.2]
                      rw [← hR.out.1] at fl1 fl2
                      have hkm : k < m := by omega
                      have hk16 : k < l16.length := by rw [← HNM.out.2]; exact hkm
                      have hrow : l16[k].row = l15[j].row := by
                        have h1 : (l16.map RowD.row)[k]? = ((l15.filter (begB P)).map RowD.row)[k]? := by rw [hHRF]
                        rw [List.getElem?_map, List.getElem?_map, fl2, List.getElem?_eq_getElem hk16] at h1
                        exact Option.some.inj h1
                      obtain ⟨ab, cb, hvb, _, _, bb, ob, hob, hcb⟩ := hR.out.2.2.1.open6
                      simp only [Value.slice.injEq] at hvb
                      obtain ⟨rfl, -, rfl⟩ := hvb
                      obtain ⟨rfl, _⟩ := hob (by omega)
                      obtain ⟨f0, f1⟩ := hcb k hk16
                      have hby := hR.out.2.2.1.bytes _ (List.getElem_mem hk16)
                      obtain ⟨ay, cy, hy, hyr⟩ := id hby
                      clear hyr
                      simp only [RowD.row, Prod.mk.injEq] at hrow
                      have hk2 : l16[k].key = key := by rw [hkey]; exact ByteArray.ext (Array.toList_inj.1 hrow.1)
                      rw [hk2] at f0
                      rw [hy, hrow.2, ← hnx] at f1
                      obtain ⟨BB, hBB⟩ : ∃ BB, BB = l15[j].B := ⟨_, rfl⟩
                      rw [hrow.2] at hby
                      rw [hy, hrow.2] at hby
                      rw [hx] at hbx
                      rw [← hnx, ← hBB] at hbx hby
                      have HSA := Lib.hid (fun (q : Nat) => same_any _ _ BB BB (wr.drewN q) (hby.keep ((Fr.refl (fun _ => False) wr).drewN q) (fun _ _ _ h => h)) (hbx.keep ((Fr.refl (fun _ => False) wr).drewN q) (fun _ _ _ h => h)))
                      rw [show sameB BB BB = true by simp [sameB]] at HSA
                      have HNX := Lib.hid (show k + 1 = ((l15.take (j + 1)).filter (begB P)).length by rw [hflt, List.length_append]; simpa using hR.out.1)
                      have g1 : ((k : Int) == (m : Int)) = false := by rw [beq_eq_false_iff_ne]; omega
                      have g2 : (key.toList == key.toList) = true := by simp
                      have g3 : (k : Int) < (m : Int) := by omega
                      have g4 : ¬ (k : Int) = (m : Int) := by omega
                      clear hca hoa hbx hx hnx hkey hflt hbeg hq fl1 fl2 hHRF hml hk16 hrow hob hcb hby hy hk2 hBB
                      go_wp2_with fail
                      go_quiet ((go_at_call 21; exact Calls.quiet_of (HSA.out _)))
                      go_wp2_with fail
                      go_roundw
                      case rel => exact ⟨j + 1, k + 1, by omega, by omega, by go_num, by go_num, Lib.hid ⟨HNX.out, hR.out.2.1.keep ((Fr.refl (fun _ => False) wr).drewN _) (fun _ _ _ h => h), hR.out.2.2.1.keep ((Fr.refl (fun _ => False) wr).drewN _) (fun _ _ _ h => h), hR.out.2.2.2.trans ((Fr.refl (fun _ => False) wr).drewN _) (fun _ h => h.elim)⟩⟩
                      case measure => simp [intOf]; omega
                · obtain rfl : j = N := by omega
                  have hkm : k = m := by
                    rw [hR.out.1, List.take_of_length_le (by rw [← HNM.out.1]; exact Nat.le_refl _)]
                    have h1 := congrArg List.length HRF.out
                    rw [List.length_map, List.length_map] at h1
                    rw [← h1, HNM.out.2]
                  have HF := Lib.hid hR.out.2.2.2
                  clear hR
                  subst hkm
                  go_wp2_with fail
                  go_ret
                  exact ⟨by simp, HF.out⟩)
end Go.Proofs.YtiinmilfgclddaaGreat

