/- The walk of CodeBack: it returns true, and writes nothing that was there. -/
import Derived.Test.YthjpgnmpcllolaaGot
namespace Go.Proofs.Ythjpgnmpcllolaa
open Go.RowKit Go.ChangeShapes
set_option linter.unusedVariables false

theorem mkAll_len (l : List PartD) : ∀ (m : Option (List UInt8)) (L : List UInt8), mkAll l m = some L → ∃ L0, m = some L0 ∧ L.length ≤ L0.length + 6 * l.length + (l.map (·.B.length)).sum := by
  induction l with
  | nil => intro m L h; exact ⟨L, h, by simp⟩
  | cons p l ih =>
    intro m L h
    simp only [mkAll, List.foldl_cons] at h
    obtain ⟨L1, h1, h2⟩ := ih _ _ h
    obtain ⟨L0, h3, h4⟩ := mkPart_len p m L1 h1
    exact ⟨L0, h3, by simp only [List.length_cons, List.map_cons, List.sum_cons]; omega⟩

theorem mkAll_take_len {l : List PartD} {k : Nat} {L : List UInt8} (hb : bulkOf l ≤ 4000) (h : mkAll (l.take k) (some []) = some L) : L.length ≤ 24000 := by
  obtain ⟨L0, h1, h2⟩ := mkAll_len _ _ _ h
  cases h1
  have := sum_take_le l k
  unfold bulkOf at hb
  have hl : (l.take k).length ≤ l.length := by rw [List.length_take]; omega
  simp only [List.length_nil] at h2
  omega

theorem mkAll_take_succ (l : List PartD) (k : Nat) (h : k < l.length) (m : Option (List UInt8)) : mkAll (l.take (k + 1)) m = mkPart l[k] (mkAll (l.take k) m) := by
  rw [List.take_succ_eq_append_getElem h, mkAll, List.foldl_append]
  rfl

theorem mem_le_sum : ∀ (l : List Nat) (x : Nat), x ∈ l → x ≤ l.sum
  | a :: l, x, h => by
    rcases List.mem_cons.1 h with rfl | h
    · simp
    · have := mem_le_sum l x h; simp; omega
theorem part_len_le (l : List PartD) (p : PartD) (h : p ∈ l) (hb : bulkOf l ≤ 4000) : p.B.length ≤ 4000 := by
  have : p.B.length ≤ (l.map (·.B.length)).sum := mem_le_sum _ _ (List.mem_map_of_mem h)
  unfold bulkOf at hb
  omega

/-- Of too few bytes no row is got whole, and without an error. -/
theorem short_broken (l : List PartD) (M : List UInt8) (k : Nat) (hm : mkAll l (some []) = some M) (hk : k < M.length) (h1 : (gotAll l (M.take k) 0).1 = true) :
    curEnd (gotAll l (M.take k) 0).2.1 (gotAll l (M.take k) 0).2.2 ≠ 0 := by
  intro h2
  obtain ⟨g, hg⟩ : ∃ g, g = gotAll l (M.take k) 0 := ⟨_, rfl⟩
  rw [← hg] at h1 h2
  obtain ⟨g1, Y, e⟩ := g
  simp only at h1 h2
  subst h1
  unfold curEnd at h2
  split at h2
  · cases h2
  · rename_i hc
    subst h2
    have hY : Y = [] := Classical.byContradiction fun hne => hc ⟨rfl, hne⟩
    subst hY
    obtain ⟨_, M', hM', hmk⟩ := gotAll_own l (M.take k) [] [] 0 hg.symm
    rw [hm] at hmk
    simp only [List.nil_append, Option.some.injEq] at hmk
    have hlen := congrArg List.length hM'
    rw [← hmk, List.append_nil, List.length_take] at hlen
    omega

set_option maxHeartbeats 4000000 in
set_option maxRecDepth 100000 in
theorem back_any (l : List PartD) (bh : List UInt8) (v y : Value) (w : World) (hl : PartsIn (fun k => k < w.heap.size) w v l) (hy : BytesIn (fun k => k < w.heap.size) w y bh) (hyl : bh.length ≤ 140737488351232) :
    Calls Try.prog 5 #[v, y] w fun e w' => e = .returned (.bool true) ∧ Fr (fun _ => False) w w' := by
  obtain ⟨ao, cap, rfl, h1, h2, h3, h4⟩ := id hl
  obtain ⟨ay, cy, rfl, hy1, hy2, _⟩ := id hy
  unfold maxLen at hy2
  have HL := Lib.hid hl
  have HY := Lib.hid hy
  obtain ⟨n, hn⟩ : ∃ n, n = l.length := ⟨_, rfl⟩
  obtain ⟨q, hq⟩ : ∃ q, q = bh.length := ⟨_, rfl⟩
  rw [← hn] at h1 HL ⊢
  rw [← hq] at hy1 hyl HY ⊢
  have HN := Lib.hid hn
  have HQ := Lib.hid hq
  clear hl hy hn hq h3 h4
  have hns : n ≤ 2932031007317 := by omega
  go_enter Try.func5, Try.ntmps5
  go_wp2_with fail
  refine (awake_any w).mono ?_
  rintro e w0 ⟨rfl, hf0⟩
  have HF0 := Lib.hid hf0
  have HL0 := Lib.hid (HL.out.keep hf0 (fun _ _ _ h => h))
  clear hf0
  go_wp2_with fail
  refine (size_any w0 HL0.out).mono ?_
  rintro e w1 ⟨s, rfl, hs1, hs2, hs3, d, rfl⟩
  by_cases hbig : 4000 < s + q
  · clear hs2 hs3
    go_wp2_with fail
    go_ret
    exact ⟨rfl, HF0.out.drewN d⟩
  · have hbulk := hs2 (by omega)
    clear hs2 hs3
    have HB := Lib.hid (show bulkOf l ≤ 4000 by omega)
    have hq4 : q ≤ 4000 := by omega
    have hn4 : n ≤ 4000 := by have := HB.out; have := HN.out; unfold bulkOf at *; omega
    clear hbulk
    have hbd : decide ((4000 : Int) < (s : Int) + (q : Int)) = false := by simp; omega
    go_wp2_with fail
    clear hbd
    have hm0 : MakAt (fun k => w.heap.size ≤ k) ((w0.drewN d).alloc (.cells #[.pointer none, .int .i64 0, .bool false] 30)) w0.heap.size (some []) :=
      (mak_new (w0.drewN d) _ _ rfl).mono (fun k _ h => Nat.le_trans HF0.out.size h)
    have hf1 : Fr (fun _ => False) w ((w0.drewN d).alloc (.cells #[.pointer none, .int .i64 0, .bool false] 30)) := (HF0.out.drewN d).alloc _
    generalize (w0.drewN d).alloc (.cells #[.pointer none, .int .i64 0, .bool false] 30) = wm at hm0 hf1 ⊢
    generalize w0.heap.size = mb at hm0 ⊢
    have HM := Lib.hid hm0
    have HF1 := Lib.hid hf1
    clear hm0 hf1 HL0 HF0
    go_loopw [6] (fun i wr => ∃ k : Nat, k ≤ n ∧ i = .int .i64 k ∧ Hid (MakAt (fun k => w.heap.size ≤ k) wr mb (mkAll (l.take k) (some []))) ∧ Hid (Fr (fun _ => False) w wr)) (fun i _ => n - (intOf i).toNat)
    case atStart => exact ⟨0, by omega, rfl, HM, HF1⟩
    case round =>
      obtain ⟨k, hk, rfl, hmk, hfr⟩ := hrel
      clear HM HF1
      by_cases hlt : k < n
      · have hkl : k < l.length := by have := HN.out; omega
        obtain ⟨ao2, cap2, hv2, _, _, _, hcells⟩ := HL.out
        simp only [Value.slice.injEq] at hv2
        obtain ⟨rfl, hv3, rfl⟩ := hv2
        clear hv3
        obtain ⟨pb, off, hao, hi⟩ := hcells (by rintro rfl; simp at hkl)
        subst hao
        have hp := (hi k hkl).keep hfr.out (fun _ _ _ h => h)
        have hpl := part_len_le l l[k] (List.getElem_mem _) HB.out
        have hml := fun L hL => mkAll_take_len (L := L) (k := k) HB.out hL
        obtain ⟨p, hpk⟩ : ∃ p, p = l[k] := ⟨_, rfl⟩
        obtain ⟨m, hm⟩ : ∃ m, m = mkAll (l.take k) (some []) := ⟨_, rfl⟩
        rw [← hpk] at hp hpl
        rw [← hm] at hmk hml
        have hnext := Lib.hid (show mkAll (l.take (k + 1)) (some []) = mkPart p m by rw [mkAll_take_succ l k hkl, ← hpk, ← hm])
        clear hpk hm hi hcells
        obtain ⟨q1, q2, q3, q4, q5, q6, q7⟩ := id hp
        obtain ⟨pw, pn, pm, px, pB⟩ := p
        obtain ⟨m1, m2⟩ := q7.1
        simp only at q1 q2 q3 q4 q5 m1 m2 hpl
        have HP5 := Lib.hid q5
        obtain ⟨ao', cap', hx, hl', hm', _⟩ := q5
        subst hx
        have hmod0 := Int.emod_nonneg pw (show (3 : Int) ≠ 0 by decide)
        have hmod3 := Int.emod_lt_of_pos pw (show (0 : Int) < 3 by decide)
        have HML := Lib.hid hml
        clear hp q7 hml
        have hsz := hfr.out.size
        by_cases w0 : pw % 3 = 0
        · have w0' : (pw % 3 == 0) = true := by simpa using w0
          have hn2 := Lib.hid (hnext.out.trans (show _ = mkNum pn m by simp [mkPart, w0]))
          clear w0 hnext
          go_wp2_with (go_at_call 10; refine (pick_any pw 3 _ (by decide) (by decide) m1 m2).mono ?_; rintro e w' ⟨rfl, rfl⟩)
          have hm1 := (hmk.out.keep (S := fun _ => False) ((Fr.refl _ _).alloc (.cells #[.int .i64 pn] 3)) (fun _ _ _ h => h))
          refine (makerNum_any (F := fun k => w.heap.size ≤ k) pn _ (fun k hk => by simp at hk; omega) hm1 (cell_of_one (heap_alloc_new wr (.cells #[.int .i64 pn] 3))) (fun L hL => by have := HML.out L hL; omega)).mono ?_
          rintro e w2 ⟨rfl, hf2, hm2⟩
          have HM2 := Lib.hid hm2
          have HF2 := Lib.hid ((hfr.out.alloc (.cells #[.int .i64 pn] 3)).trans hf2 (fun i hi => .inr hi))
          clear hm1 hm2 hf2
          go_wp2
          go_roundw
          case rel => exact ⟨k + 1, by omega, by go_num, Lib.hid (by rw [hn2.out]; exact HM2.out), HF2⟩
          case measure => simp [intOf]; omega
        · by_cases w1' : pw % 3 = 1
          · have w0' : (pw % 3 == 0) = false := by simpa using w0
            have w1'' : (pw % 3 == 1) = true := by simpa using w1'
            have hn2 := Lib.hid (hnext.out.trans (show _ = m.map (· ++ pB) by simp [mkPart, w1']))
            clear w0 hnext w1'
            go_wp2_with (go_at_call 10; refine (pick_any pw 3 _ (by decide) (by decide) m1 m2).mono ?_; rintro e w' ⟨rfl, rfl⟩)
            refine (makerRaw_any (F := fun k => w.heap.size ≤ k) (G := fun k => k < w.heap.size) _ (fun k hk => by omega) (fun k hk => by omega) hmk.out HP5.out (fun L hL => by have := HML.out L hL; omega)).mono ?_
            rintro e w2 ⟨rfl, hf2, hm2⟩
            have HM2 := Lib.hid hm2
            have HF2 := Lib.hid (hfr.out.trans hf2 (fun i hi => .inr hi))
            clear hm2 hf2
            go_wp2
            go_roundw
            case rel => exact ⟨k + 1, by omega, by go_num, Lib.hid (by rw [hn2.out]; exact HM2.out), HF2⟩
            case measure => simp [intOf]; omega
          · have w0' : (pw % 3 == 0) = false := by simpa using w0
            have w1'' : (pw % 3 == 1) = false := by simpa using w1'
            have hn2 := Lib.hid (hnext.out.trans (show _ = mkText pB m by simp [mkPart, w0, w1']))
            clear w0 hnext w1'
            go_wp2_with (go_at_call 10; refine (pick_any pw 3 _ (by decide) (by decide) m1 m2).mono ?_; rintro e w' ⟨rfl, rfl⟩)
            have hm1 := (hmk.out.keep (S := fun _ => False) ((Fr.refl _ _).alloc (.cells #[.slice ao' pB.length cap'] 32)) (fun _ _ _ h => h))
            have hx1 := (HP5.out.keep (S := fun _ => False) ((Fr.refl _ _).alloc (.cells #[.slice ao' pB.length cap'] 32)) (fun _ _ _ h => h))
            refine (makerText_any (F := fun k => w.heap.size ≤ k) (G := fun k => k < w.heap.size) _ (fun k hk => by simp at hk; omega) (fun k hk => by omega) hm1 (cell_of_one (heap_alloc_new wr (.cells #[.slice ao' pB.length cap'] 32))) hx1 (fun L hL => by have := HML.out L hL; omega)).mono ?_
            rintro e w2 ⟨rfl, hf2, hm2⟩
            have HM2 := Lib.hid hm2
            have HF2 := Lib.hid ((hfr.out.alloc (.cells #[.slice ao' pB.length cap'] 32)).trans hf2 (fun i hi => .inr hi))
            clear hm1 hx1 hm2 hf2
            go_wp2
            go_roundw
            case rel => exact ⟨k + 1, by omega, by go_num, Lib.hid (by rw [hn2.out]; exact HM2.out), HF2⟩
            case measure => simp [intOf]; omega
      · have hkn : l.take k = l := List.take_of_length_le (by have := HN.out; omega)
        rw [hkn] at hmk
        clear hkn
        cases hmade : mkAll l (some []) with
        | none =>
          rw [hmade] at hmk
          clear hmade
          go_wp2_with fail
          refine (done_no wr hmk.out).mono ?_
          rintro e w2 ⟨rfl, rfl⟩
          go_wp2
          go_ret
          exact ⟨rfl, hfr.out⟩
        | some M =>
          have hM := mkAll_take_len (l := l) (k := l.length) HB.out (by rw [List.take_length]; exact hmade)
          rw [hmade] at hmk
          have HMADE := Lib.hid hmade
          clear hmade
          go_wp2_with fail
          refine (done_yes wr hmk.out (by omega)).mono ?_
          rintro e w2 ⟨vb, rfl, hf2, ho2⟩
          obtain ⟨ab, cb, rfl⟩ := ho2.len
          have HO2 := Lib.hid (ho2.bytes.mono (G := fun k => w.heap.size ≤ k ∧ k < w2.heap.size) (fun k hk h => ⟨Nat.le_trans hfr.out.size h, hk⟩))
          have HF2 := Lib.hid (hfr.out.trans hf2 (fun i hi => hi.elim))
          clear ho2 hf2 hmk hfr
          obtain ⟨lm, hlm⟩ : ∃ lm, lm = M.length := ⟨_, rfl⟩
          rw [← hlm] at HO2 hM ⊢
          have hs2 := HF2.out.size
          have HLM := Lib.hid hlm
          clear hlm
          have HW := Lib.hid (show ∀ k, (w2.alloc (.cells #[] 5)).heap.size ≤ k → w2.heap.size ≤ k from fun k hk => by simp at hk; omega)
          go_wp2_with (first
            | (at_builtin; refine wpList_append_bytes (F := fun k => w2.heap.size ≤ k) (G := fun k => w.heap.size ≤ k ∧ k < w2.heap.size) _ rfl (.tmp 74) (.tmp 75) rfl (.slice (some ⟨w2.heap.size, 0, none⟩) 0 0) (.slice ab lm cb) [] M rfl rfl (own_empty w2 _ rfl) (HO2.out.keep (S := fun _ => False) ((Fr.refl _ _).alloc _) (fun _ _ _ h => h)) (by have := HLM.out; simp; omega) ?_; intro v3 w3 ho3 hg3 hn3; rw [List.nil_append] at ho3; obtain ⟨a3, c3, hv3⟩ := ho3.len; rw [← HLM.out] at hv3; subst hv3; have HO3 := Lib.hid (ho3.mono (G := fun k => w2.heap.size ≤ k) (fun k _ h => h.elim id (HW.out k))); have HF3 := Lib.hid ((HF2.out.alloc (.cells #[] 5)).grown hg3 (fun k hk => .inr (by simp [Value.ownBlock] at hk; omega))); have HG3 := Lib.hid (((Fr.refl (fun _ => False) w2).alloc (.cells #[] 5)).grown hg3 (fun k hk => .inr (by simp [Value.ownBlock] at hk; omega))); clear ho3 hg3 hn3)
            | (at_builtin; refine wpList_append_bytes (F := fun k => w2.heap.size ≤ k) (G := fun k => k < w.heap.size) _ rfl (.tmp 76) (.tmp 77) rfl (.slice a3 lm c3) (.slice ay q cy) M bh rfl rfl HO3.out (HY.out.keep HF3.out (fun _ _ _ h => h)) (by have := HLM.out; have := HQ.out; omega) ?_; intro v4 w4 ho4 hg4 hn4; obtain ⟨a4, c4, hv4⟩ := ho4.len; rw [List.length_append, ← HLM.out, ← HQ.out] at hv4; subst hv4; have HO4 := Lib.hid ho4.bytes; have HF4 := Lib.hid (HF3.out.grown hg4 (fun k hk => .inr (Nat.le_trans hs2 (HO3.out.2 k hk)))); have HG4 := Lib.hid (HG3.out.grown hg4 (fun k hk => .inr (HO3.out.2 k hk))); clear ho4 hg4 hn4)
            | (go_at_call 26; refine (over_any _ HO4.out (by have := HLM.out; have := HQ.out; simp; omega)).mono ?_; rintro e w5 ⟨bc, rfl, hf5, hb5, hc5⟩; have HF5 := Lib.hid (HF4.out.trans hf5 (fun i hi => hi.elim)); have HC5 := Lib.hid hc5; have hs5 := HF4.out.size; have hs6 := HG4.out.size; have HG5 := Lib.hid (HG4.out.trans hf5 (fun i hi => hi.elim)); clear hf5 hc5)
            | fail)
          have hgm : gotAll l (M ++ bh) 0 = (true, bh, 0) := by
            obtain ⟨M', hM', hg⟩ := gotAll_made l [] bh M HMADE.out
            rw [List.nil_append] at hM'
            rw [hM']; exact hg
          have hgot := got_any (F := fun k => k < w.heap.size) (b := bc) w5 (HL.out.keep HF5.out (fun _ _ _ h => h)) HC5.out (fun k hk => by omega) (by have := HLM.out; have := HQ.out; simp; omega)
          rw [hgm] at hgot
          refine hgot.mono ?_
          rintro e w6 ⟨rfl, hf6, hc6⟩
          have HF6 := Lib.hid (HF5.out.trans hf6 (fun i hi => .inr (by omega)))
          have HG6 := Lib.hid (HG5.out.trans hf6 (fun i hi => .inr (by omega)))
          have HC6 := Lib.hid hc6
          clear hgot hgm hf6 hc6 HC5 HG5 HF5 HG4 HF4 HO3 HO4 HG3 HF3
          obtain ⟨E, hE, hE2⟩ : ∃ E : Int, curEnd bh 0 = E ∧ (E = if q = 0 then 0 else 4) := by
            refine ⟨_, rfl, ?_⟩
            have := HQ.out
            unfold curEnd
            by_cases hb : bh = []
            · subst hb; simp at this; simp [this]
            · have hp := List.length_pos_iff.2 hb
              rw [if_pos ⟨rfl, hb⟩, if_neg (by omega)]
          have hleft := curLeft_any w6 HC6.out
          rw [show curLeft bh 0 = (q : Int) by rw [HQ.out]; rfl] at hleft
          have hend := curEnd_any w6 HC6.out
          rw [hE] at hend
          have HLE := Lib.hid hleft
          have HEN := Lib.hid hend
          have hqq : ((q : Int) != (q : Int)) = false := by simp
          clear hleft hend hE
          by_cases hq0 : q = 0
          · rw [if_pos hq0] at hE2
            subst hE2
            have hqz : ((q : Int) == 0) = true := by simp [hq0]
            clear hq0
            by_cases hlm0 : lm = 0
            · go_wp2_with (first
                | (go_at_call 28; refine HLE.out.mono ?_; rintro e w' ⟨rfl, rfl⟩)
                | (go_at_call 29; refine HEN.out.mono ?_; rintro e w' ⟨rfl, rfl⟩)
                | fail)
              go_ret
              exact ⟨rfl, HF6.out⟩
            · have hl1 : 1 ≤ lm := by omega
              obtain ⟨_, _, hvb, hcb, _⟩ := id HO2.out
              simp only [Value.slice.injEq] at hvb
              obtain ⟨hvb1, hvb2, hvb3⟩ := hvb
              have hcb' : lm ≤ cb := by omega
              clear hvb1 hvb2 hvb3 hcb
              have hcut := (HO2.out.keep HG6.out (fun _ _ _ h => h)).take (lm - 1) (by have := HLM.out; omega)
              have hover := over_any w6 hcut (by rw [List.length_take]; omega)
              have HOV := Lib.hid hover
              clear hcut hover hlm0
              go_wp2_with (first
                | (go_at_call 28; refine HLE.out.mono ?_; rintro e w' ⟨rfl, rfl⟩)
                | (go_at_call 29; refine HEN.out.mono ?_; rintro e w' ⟨rfl, rfl⟩)
                | (go_at_call 26; refine HOV.out.mono ?_; rintro e w7 ⟨bd, rfl, hf7, hb7, hc7⟩; have HF7 := Lib.hid (HF6.out.trans hf7 (fun i hi => hi.elim)); have HC7 := Lib.hid hc7; have hs7 := HF6.out.size; clear hf7 hc7)
                | fail)
              have hgot := got_any (F := fun k => k < w.heap.size) (b := bd) w7 (HL.out.keep HF7.out (fun _ _ _ h => h)) HC7.out (fun k hk => by omega) (by have := HLM.out; rw [List.length_take]; omega)
              have hkey : (gotAll l (M.take (lm - 1)) 0).1 = true → curEnd (gotAll l (M.take (lm - 1)) 0).2.1 (gotAll l (M.take (lm - 1)) 0).2.2 ≠ 0 := short_broken l M (lm - 1) HMADE.out (by have := HLM.out; omega)
              generalize gotAll l (M.take (lm - 1)) 0 = g at hgot hkey
              obtain ⟨g1, g2, g3⟩ := g
              simp only at hgot hkey
              refine hgot.mono ?_
              rintro e w8 ⟨rfl, hf8, hc8⟩
              have HF8 := Lib.hid (HF7.out.trans hf8 (fun i hi => .inr (by omega)))
              have hend8 := Lib.hid (curEnd_any w8 hc8)
              clear hgot hf8 hc8
              cases g1 with
              | false =>
                clear hkey
                go_wp2
                go_ret
                exact ⟨rfl, HF8.out⟩
              | true =>
                have hk := hkey rfl
                generalize curEnd g2 g3 = E8 at hend8 hk
                have hne : (E8 != 0) = true := by simpa using hk
                clear hkey hk
                go_wp2_with (first
                  | (go_at_call 29; refine hend8.out.mono ?_; rintro e w' ⟨rfl, rfl⟩)
                  | fail)
                go_ret
                exact ⟨rfl, HF8.out⟩
          · rw [if_neg hq0] at hE2
            subst hE2
            have hqz : ((q : Int) == 0) = false := by simp; omega
            clear hq0
            by_cases hlm0 : lm = 0
            · go_wp2_with (first
                | (go_at_call 28; refine HLE.out.mono ?_; rintro e w' ⟨rfl, rfl⟩)
                | (go_at_call 29; refine HEN.out.mono ?_; rintro e w' ⟨rfl, rfl⟩)
                | fail)
              go_ret
              exact ⟨rfl, HF6.out⟩
            · have hl1 : 1 ≤ lm := by omega
              obtain ⟨_, _, hvb, hcb, _⟩ := id HO2.out
              simp only [Value.slice.injEq] at hvb
              obtain ⟨hvb1, hvb2, hvb3⟩ := hvb
              have hcb' : lm ≤ cb := by omega
              clear hvb1 hvb2 hvb3 hcb
              have hcut := (HO2.out.keep HG6.out (fun _ _ _ h => h)).take (lm - 1) (by have := HLM.out; omega)
              have hover := over_any w6 hcut (by rw [List.length_take]; omega)
              have HOV := Lib.hid hover
              clear hcut hover hlm0
              go_wp2_with (first
                | (go_at_call 28; refine HLE.out.mono ?_; rintro e w' ⟨rfl, rfl⟩)
                | (go_at_call 29; refine HEN.out.mono ?_; rintro e w' ⟨rfl, rfl⟩)
                | (go_at_call 26; refine HOV.out.mono ?_; rintro e w7 ⟨bd, rfl, hf7, hb7, hc7⟩; have HF7 := Lib.hid (HF6.out.trans hf7 (fun i hi => hi.elim)); have HC7 := Lib.hid hc7; have hs7 := HF6.out.size; clear hf7 hc7)
                | fail)
              have hgot := got_any (F := fun k => k < w.heap.size) (b := bd) w7 (HL.out.keep HF7.out (fun _ _ _ h => h)) HC7.out (fun k hk => by omega) (by have := HLM.out; rw [List.length_take]; omega)
              have hkey : (gotAll l (M.take (lm - 1)) 0).1 = true → curEnd (gotAll l (M.take (lm - 1)) 0).2.1 (gotAll l (M.take (lm - 1)) 0).2.2 ≠ 0 := short_broken l M (lm - 1) HMADE.out (by have := HLM.out; omega)
              generalize gotAll l (M.take (lm - 1)) 0 = g at hgot hkey
              obtain ⟨g1, g2, g3⟩ := g
              simp only at hgot hkey
              refine hgot.mono ?_
              rintro e w8 ⟨rfl, hf8, hc8⟩
              have HF8 := Lib.hid (HF7.out.trans hf8 (fun i hi => .inr (by omega)))
              have hend8 := Lib.hid (curEnd_any w8 hc8)
              clear hgot hf8 hc8
              cases g1 with
              | false =>
                clear hkey
                go_wp2
                go_ret
                exact ⟨rfl, HF8.out⟩
              | true =>
                have hk := hkey rfl
                generalize curEnd g2 g3 = E8 at hend8 hk
                have hne : (E8 != 0) = true := by simpa using hk
                clear hkey hk
                go_wp2_with (first
                  | (go_at_call 29; refine hend8.out.mono ?_; rintro e w' ⟨rfl, rfl⟩)
                  | fail)
                go_ret
                exact ⟨rfl, HF8.out⟩
end Go.Proofs.Ythjpgnmpcllolaa
