/- Contract of the document's own: spenceref03.Hash. -/
import Derived.Test.YtdmlalnekjihfaaHashL
import Derived.Test.YtdmlalnekjihfaaRLet
import Derived.StillTailTactics
namespace Go.Proofs.Ytdmlalnekjihfaa
open Go.RowKit Go.ChangeShapes
set_option linter.unusedVariables false

/-- The blocks of Hash, j bits done. -/
structure RhAt (w wr : World) (S : List UInt8) (j : Nat) : Prop where
  fr : Fr (fun _ => False) w wr
  res : BytT wr w.heap.size 23 (List.replicate 20 0)
  row : BytT wr (w.heap.size + 1) 23 (hashL S j)
theorem RhAt.keep {w wr w' : World} {S : List UInt8} {j : Nat} (h : RhAt w wr S j) (hf : Fr (fun _ => False) wr w') : RhAt w w' S j :=
  ⟨h.fr.trans hf (fun _ h => h.elim), h.res.keep hf (fun h => h), h.row.keep hf (fun h => h)⟩
theorem hashOk_all (S : List UInt8) (h1 : S.length = 32) (h2 : ∀ i, (h : i < 32) → 0 ≤ valI (S.getD i 0)) : hashOk S = true := by
  simp only [hashOk, h1, decide_true, Bool.true_and, List.all_eq_true, decide_eq_true_eq]
  intro c hc
  obtain ⟨i, hi, rfl⟩ := List.mem_iff_getElem.1 hc
  have := h2 i (by omega)
  rwa [List.getD_eq_getElem?_getD, List.getElem?_eq_getElem hi, Option.getD_some] at this
theorem hashOk_bad (S : List UInt8) (i : Nat) (h : i < S.length) (h2 : ¬ 0 ≤ valI (S.getD i 0)) : hashOk S = false := by
  rw [Bool.eq_false_iff]
  intro hk
  simp only [hashOk, Bool.and_eq_true, List.all_eq_true, decide_eq_true_eq] at hk
  apply h2
  rw [List.getD_eq_getElem?_getD, List.getElem?_eq_getElem h, Option.getD_some]
  exact hk.2 _ (List.getElem_mem _)

/-- What Hash tells. -/
def hashT (S : List UInt8) : Value := if hashOk S = true then .tuple #[.agg ((hashL S 160).map bv).toArray, .int .i64 0] else .tuple #[.agg ((List.replicate 20 (0 : UInt8)).map bv).toArray, .int .i64 4]

theorem results_cell_row_tmp {P : Program} {fn : Func} {p u : Tmp} {ty : TypeId} (h : fn.results = #[.cell p ty, .tmp u]) (tmps : Array Value) (w : World) (g : Nat) (t : TypeId) (cs : Array Value) (fr : Nat × Nat) (d : TypeDesc)
    (hp : tmps.getD p undef = .pointer (some ⟨g, 0, none⟩)) (hg : w.heap[g]? = some (.cells cs t fr))
    (hu : P.underlying ty = some d) (hd : (match d with | .struct _ | .array _ _ => true | _ => false) = true) (hi : (P.info? ty).map (·.size) = some cs.size) :
    (results fn tmps).run P w = .ok (.tuple #[.agg cs, tmps.getD u undef]) w := by
  have hp' : tmps[p]?.getD undef = .pointer (some ⟨g, 0, none⟩) := by simpa using hp
  simp [results, h, hp', asAddr, run_loadVar_row w g t ty cs fr d hg hu hd hi]
theorem row_one (L : List UInt8) : ((L.map bv).toArray.all (·.oneCell')) = true := by
  rw [Array.all_eq_true]
  intro i hi
  simp
  rfl

set_option maxRecDepth 100000 in
set_option maxHeartbeats 4000000 in
theorem rHash_any (s : ByteArray) (hs : s.size ≤ 140737488351232) (w : World) :
    Calls Try.prog 10 #[.string s] w fun e w' => e = .returned (hashT s.data.toList) ∧ Fr (fun _ => False) w w' := by
  have hsl : s.size = s.data.toList.length := by simp
  obtain ⟨S, hS⟩ : ∃ S, S = s.data.toList := ⟨_, rfl⟩
  have hgs : ∀ i (h : i < s.size), s[i] = S.getD i 0 := fun i h => by
    rw [hS, List.getD_eq_getElem?_getD, List.getElem?_eq_getElem (by rw [← hsl]; exact h)]
    rfl
  rw [← hS] at hsl ⊢
  have HGS := Lib.hid hgs
  have HSL := Lib.hid hsl
  obtain ⟨RS, hRS⟩ : ∃ RS, RS = hashT S := ⟨_, rfl⟩
  rw [← hRS]
  have HRS := Lib.hid hRS
  have hz0 := heap_alloc2_old w (.cells ((List.replicate 20 (0 : UInt8)).map bv).toArray 23) (.cells ((List.replicate 20 (0 : UInt8)).map bv).toArray 23)
  have hz1 := heap_alloc2_new w (.cells ((List.replicate 20 (0 : UInt8)).map bv).toArray 23) (.cells ((List.replicate 20 (0 : UInt8)).map bv).toArray 23)
  have H0 := Lib.hid (show RhAt w ((w.alloc (.cells ((List.replicate 20 (0 : UInt8)).map bv).toArray 23)).alloc (.cells ((List.replicate 20 (0 : UInt8)).map bv).toArray 23)) S 0 from
    ⟨((Fr.refl _ _).alloc _).alloc _, hz0, by rw [hashL_zero]; exact hz1⟩)
  obtain ⟨W, hW⟩ : ∃ W, W = (w.alloc (.cells ((List.replicate 20 (0 : UInt8)).map bv).toArray 23)).alloc (.cells ((List.replicate 20 (0 : UInt8)).map bv).toArray 23) := ⟨_, rfl⟩
  rw [← hW] at H0
  clear hsl hRS hS hgs hz0 hz1
  by_cases h32 : s.size = 32
  · have h32' : ((s.size : Int) != 32) = false := by rw [bne_eq_false_iff_eq]; omega
    have H32 := Lib.hid h32
    clear h32
    go_enter Try.func10, Try.ntmps10
    go_wp2_with fail
    rw [show (w.alloc (.cells #[.int .u8 0, .int .u8 0, .int .u8 0, .int .u8 0, .int .u8 0, .int .u8 0, .int .u8 0, .int .u8 0, .int .u8 0, .int .u8 0, .int .u8 0, .int .u8 0, .int .u8 0, .int .u8 0, .int .u8 0, .int .u8 0, .int .u8 0, .int .u8 0, .int .u8 0, .int .u8 0] 23)).alloc (.cells #[.int .u8 0, .int .u8 0, .int .u8 0, .int .u8 0, .int .u8 0, .int .u8 0, .int .u8 0, .int .u8 0, .int .u8 0, .int .u8 0, .int .u8 0, .int .u8 0, .int .u8 0, .int .u8 0, .int .u8 0, .int .u8 0, .int .u8 0, .int .u8 0, .int .u8 0, .int .u8 0] 23) = W by rw [hW]; rfl]
    clear hW
    go_loopw [5] (fun iv wr => ∃ i : Nat, i ≤ 32 ∧ iv = .int .i64 i ∧ Hid (∀ j, (h : j < i) → 0 ≤ valI (S.getD j 0)) ∧ Hid (RhAt w wr S (5 * i))) (fun iv _ => 32 - (intOf iv).toNat)
    case atStart => exact ⟨0, by omega, rfl, Lib.hid (fun j h => by omega), H0⟩
    case round =>
      clear H0
      obtain ⟨i, hi, rfl, hV, hR⟩ := hrel
      by_cases hlt : i < 32
      · have hd : decide ((i : Int) < 32) = true := by rw [decide_eq_true_iff]; omega
        have hil : i < s.size := by have := H32.out; omega
        obtain ⟨c, hc⟩ : ∃ c, c = S.getD i 0 := ⟨_, rfl⟩
        have hg : ∀ h, s[i]'h = c := fun h => by rw [hc]; exact HGS.out i h
        have HC := Lib.hid hc
        have HVAL := Lib.hid (fun W => rvalue_any c W)
        have hi0 : (0 : Int) ≤ (i : Int) := by omega
        have hi1 : (i : Int) < (s.size : Int) := by omega
        obtain ⟨v, hv⟩ : ∃ v, v = valI c := ⟨_, rfl⟩
        have hvb : -1 ≤ v ∧ v < 32 := by rw [hv]; rcases valI_cases c with h | h <;> omega
        rw [← hv] at HVAL
        have HV := Lib.hid hv
        clear hc hv
        by_cases hneg : v < 0
        · have hr : wr.heap[w.heap.size]? = some (.cells ((List.replicate 20 (0 : UInt8)).map bv).toArray 23 (0, 0)) := hR.out.res
          have HF := Lib.hid hR.out.fr
          have hs0 : ((List.replicate 20 (0 : UInt8)).map bv).toArray.size = 20 := by simp
          have HE := Lib.hid (show RS = .tuple #[.agg #[.int .u8 0, .int .u8 0, .int .u8 0, .int .u8 0, .int .u8 0, .int .u8 0, .int .u8 0, .int .u8 0, .int .u8 0, .int .u8 0, .int .u8 0, .int .u8 0, .int .u8 0, .int .u8 0, .int .u8 0, .int .u8 0, .int .u8 0, .int .u8 0, .int .u8 0, .int .u8 0], .int .i64 4] by
            rw [HRS.out, hashT, if_neg (by rw [hashOk_bad S i (by rw [← HSL.out]; exact hil) (by rw [← HC.out, ← HV.out]; omega)]; decide)]
            rfl)
          have hvd : decide (v < 0) = true := by rw [decide_eq_true_iff]; exact hneg
          clear hR
          generalize ((List.replicate 20 (0 : UInt8)).map bv).toArray = C0 at *
          have hi1 : (Try.prog.info? 23).map (·.size) = some (#[.int .u8 0, .int .u8 0, .int .u8 0, .int .u8 0, .int .u8 0, .int .u8 0, .int .u8 0, .int .u8 0, .int .u8 0, .int .u8 0, .int .u8 0, .int .u8 0, .int .u8 0, .int .u8 0, .int .u8 0, .int .u8 0, .int .u8 0, .int .u8 0, .int .u8 0, .int .u8 0] : Array Value).size := by kernel_rfl
          have hl1 : C0.size = (#[.int .u8 0, .int .u8 0, .int .u8 0, .int .u8 0, .int .u8 0, .int .u8 0, .int .u8 0, .int .u8 0, .int .u8 0, .int .u8 0, .int .u8 0, .int .u8 0, .int .u8 0, .int .u8 0, .int .u8 0, .int .u8 0, .int .u8 0, .int .u8 0, .int .u8 0, .int .u8 0] : Array Value).size := by rw [hs0]; rfl
          have ho1 : ((#[.int .u8 0, .int .u8 0, .int .u8 0, .int .u8 0, .int .u8 0, .int .u8 0, .int .u8 0, .int .u8 0, .int .u8 0, .int .u8 0, .int .u8 0, .int .u8 0, .int .u8 0, .int .u8 0, .int .u8 0, .int .u8 0, .int .u8 0, .int .u8 0, .int .u8 0, .int .u8 0] : Array Value).all (·.oneCell')) = true := row_one (List.replicate 20 0)
          go_wp2_with (first
            | (go_at_call 26; refine (HVAL.out _).mono ?_; rintro e w' ⟨rfl, rfl⟩)
            | (with_reducible refine wpList_store_row rfl 23 (.tmp 2) (.tmp 23) rfl w.heap.size #[.int .u8 0, .int .u8 0, .int .u8 0, .int .u8 0, .int .u8 0, .int .u8 0, .int .u8 0, .int .u8 0, .int .u8 0, .int .u8 0, .int .u8 0, .int .u8 0, .int .u8 0, .int .u8 0, .int .u8 0, .int .u8 0, .int .u8 0, .int .u8 0, .int .u8 0, .int .u8 0] C0 23 rfl rfl hr hi1 hl1 ho1 ?_))
          refine bodyPost_ret (results_cell_row_tmp rfl _ _ w.heap.size 23 #[.int .u8 0, .int .u8 0, .int .u8 0, .int .u8 0, .int .u8 0, .int .u8 0, .int .u8 0, .int .u8 0, .int .u8 0, .int .u8 0, .int .u8 0, .int .u8 0, .int .u8 0, .int .u8 0, .int .u8 0, .int .u8 0, .int .u8 0, .int .u8 0, .int .u8 0, .int .u8 0] (0, 0) _ rfl (setRow_heap _ _ _ _ _ _ hr) Try.underlying23 rfl (by kernel_rfl)) rfl ⟨?_, HF.out.setRow (.inr (Nat.le_refl _)) _⟩
          rw [HE.out]
          rfl
        · obtain ⟨n, rfl⟩ : ∃ n : Nat, v = n := ⟨v.toNat, by omega⟩
          have HNV := Lib.hid (show valN (S.getD i 0) = n by rw [valN, ← HC.out, ← HV.out]; simp)
          have hn32 : n < 32 := by omega
          go_wp2_with (go_at_call 26; refine (HVAL.out _).mono ?_; rintro e w' ⟨rfl, rfl⟩)
          go_loopw [7] (fun kv wr => ∃ k : Nat, k ≤ 5 ∧ kv = .int .i64 k ∧ Hid (RhAt w wr S (5 * i + k))) (fun kv _ => 5 - (intOf kv).toNat)
          case atStart => exact ⟨0, by omega, rfl, hR⟩
          case round =>
            clear hR
            obtain ⟨k, hk, rfl, hR⟩ := hrel
            by_cases hlk : k < 5
            · obtain ⟨j, hj⟩ : ∃ j, j = 5 * i + k := ⟨_, rfl⟩
              have hj160 : j < 160 := by omega
              have hji : 5 * (i : Int) + (k : Int) = (j : Int) := by omega
              obtain ⟨q, hq⟩ : ∃ q, q = j / 8 := ⟨_, rfl⟩
              obtain ⟨r, hr⟩ : ∃ r, r = j % 8 := ⟨_, rfl⟩
              have hq20 : q < 20 := by omega
              have hr8 : r < 8 := by omega
              have eq1 : (j : Int) / 8 = (q : Int) := by omega
              have eq2 : (j : Int).tdiv 8 = (q : Int) := by rw [Int.tdiv_eq_ediv_of_nonneg (by omega)]; exact eq1
              have er1 : (j : Int) % 8 = (r : Int) := by omega
              have er2 : (j : Int).tmod 8 = (r : Int) := by rw [Int.tmod_eq_emod_of_nonneg (by omega)]; exact er1
              have hbit : hashBit S j = n / 2 ^ k % 2 := by
                rw [hashBit, show j / 5 = i by omega, show j % 5 = k by omega, HNV.out]
              have hb2 := hashBit_lt S j
              have HR := Lib.hid (show RhAt w wr S j by rw [hj]; exact hR.out)
              have hbv := bit_val n k
              rw [← hbit] at hbv
              have HJ := Lib.hid (And.intro hj (And.intro hq hr))
              clear hj hq hr hR
              by_cases hb0 : hashBit S j = 0
              · rw [hb0] at hbv
                have hbv0 : ((n : Int) / 2 ^ k).tmod 2 = 0 := hbv
                have HN := Lib.hid (show RhAt w wr S (5 * i + (k + 1)) by
                  have h := HR.out
                  rw [show 5 * i + (k + 1) = j + 1 by have := HJ.out.1; omega]
                  exact ⟨h.fr, h.res, by rw [hashL_same S j hb0]; exact h.row⟩)
                clear hbit hb0 hb2 hbv
                go_wp2_with fail
                go_roundw
                case rel => exact ⟨k + 1, by omega, by go_num, HN⟩
                case measure => simp [intOf]; omega
              · have hb1 : hashBit S j = 1 := by omega
                rw [hb1] at hbv
                have hbv1 : ((n : Int) / 2 ^ k).tmod 2 = 1 := hbv
                obtain ⟨x, hx⟩ : ∃ x, x = hB S j q := ⟨_, rfl⟩
                obtain ⟨p, hp⟩ : ∃ p : Nat, p = 2 ^ r := ⟨_, rfl⟩
                have hxp : x < p := by rw [hx, hp, HJ.out.2.1, HJ.out.2.2]; exact hB_at S j
                have hp128 : p ≤ 128 := by rw [hp]; exact Nat.pow_le_pow_right (show 0 < 2 by decide) (show r ≤ 7 by omega)
                have hpi : (2 : Int) ^ r = (p : Int) := by rw [hp]; push_cast; rfl
                have cj := HR.out.row.cell q (by rw [hashL_length]; exact hq20)
                rw [hashL_get S j q hq20, ← hx] at cj
                have fj := HR.out.row.free q
                have HS := Lib.hid (show BytT (wr.drew.setCell ⟨w.heap.size + 1, q, none⟩ (.int .u8 ((x : Int) + (p : Int)))) (w.heap.size + 1) 23 (hashL S (5 * i + (k + 1))) by
                  rw [show 5 * i + (k + 1) = j + 1 by have := HJ.out.1; omega, ← hashL_set S j (x + p) (by rw [hb1, hx, hp, HJ.out.2.1, HJ.out.2.2, Nat.one_mul]), ← HJ.out.2.1]
                  have h : BytT wr.drew (w.heap.size + 1) 23 (hashL S j) := HR.out.row
                  exact h.set_ q _ _ (by rw [UInt8.toNat_ofNat']; omega))
                have bq : (q : Int) < 20 := by omega
                have bq0 : (0 : Int) ≤ (q : Int) := by omega
                have wq : IntKind.i64.wrap (q : Int) = (q : Int) := IntWalk.i64_in _ (by omega)
                have wr8 : IntKind.i64.wrap (r : Int) = (r : Int) := IntWalk.i64_in _ (by omega)
                have wp8 : IntKind.u8.wrap (p : Int) = (p : Int) := by rw [IntKind.wrap_u8]; omega
                have wxp : IntKind.u8.wrap ((x : Int) + (p : Int)) = (x : Int) + (p : Int) := by rw [IntKind.wrap_u8]; omega
                have sr8 : (r : Int) < 8 := by omega
                have sr0 : (0 : Int) ≤ (r : Int) := by omega
                have tnq : (q : Int).toNat = q := by omega
                have tnr : (r : Int).toNat = r := by omega
                clear hbit hb0 hb1 hb2 hbv hx hp
                go_wp2_with fail
                go_still_tail 11, (by kernel_rfl)
                go_wp2
                go_roundw
                case rel =>
                  have hf : ∀ v, Fr (fun i => i = w.heap.size + 1) wr (wr.drew.setCell ⟨w.heap.size + 1, q, none⟩ v) := fun v => (Fr.refl (fun i => i = w.heap.size + 1) wr).drew.setCell (p := ⟨w.heap.size + 1, q, none⟩) (.inl rfl) v
                  exact ⟨k + 1, by omega, by go_num, Lib.hid ⟨HR.out.fr.drew.setCell (.inr (by simp)) _, HR.out.res.keep (hf _) (by omega), HS.out⟩⟩
                case measure => simp [intOf]; omega
            · have hk5 : k = 5 := by omega
              have HN := Lib.hid (show RhAt w wr S (5 * (i + 1)) by rw [show 5 * (i + 1) = 5 * i + k by omega]; exact hR.out)
              have HV2 := Lib.hid (show ∀ j, (h : j < i + 1) → 0 ≤ valI (S.getD j 0) from fun j h => by
                rcases Nat.lt_succ_iff_lt_or_eq.1 h with h | rfl
                · exact hV.out j h
                · rw [← HC.out, ← HV.out]; omega)
              have hkd : decide ((k : Int) < 5) = false := by rw [decide_eq_false_iff_not]; omega
              clear hR hk5
              go_wp2_with fail
              go_roundw
              case rel => exact ⟨i + 1, by omega, by go_num, HV2, HN⟩
              case measure => simp [intOf]; omega
      · obtain rfl : i = 32 := by omega
        have hr : wr.heap[w.heap.size]? = some (.cells ((List.replicate 20 (0 : UInt8)).map bv).toArray 23 (0, 0)) := hR.out.res
        have hg : wr.heap[w.heap.size + 1]? = some (.cells ((hashL S (5 * 32)).map bv).toArray 23 (0, 0)) := hR.out.row
        have HF := Lib.hid hR.out.fr
        have hs0 : ((List.replicate 20 (0 : UInt8)).map bv).toArray.size = 20 := by simp
        have hs : ((hashL S (5 * 32)).map bv).toArray.size = 20 := by simp [hashL_length]
        have h1 := row_one (hashL S (5 * 32))
        have HE := Lib.hid (show RS = .tuple #[.agg ((hashL S (5 * 32)).map bv).toArray, .int .i64 0] by
          rw [HRS.out, hashT, if_pos (hashOk_all S (by rw [← HSL.out, H32.out]) hV.out)])
        clear hR
        generalize ((hashL S (5 * 32)).map bv).toArray = C at *
        generalize ((List.replicate 20 (0 : UInt8)).map bv).toArray = C0 at *
        go_wp2_with (first
          | (with_reducible refine wpList_load_row rfl 23 (.tmp 4) rfl (w.heap.size + 1) rfl 23 C (0, 0) _ hg Try.underlying23 rfl (by rw [hs]; kernel_rfl) ?_)
          | (with_reducible refine wpList_store_row rfl 23 (.tmp 2) (.tmp 48) rfl w.heap.size C C0 23 rfl rfl hr (by rw [hs]; kernel_rfl) (by rw [hs0, hs]) h1 ?_))
        refine bodyPost_ret (results_cell_row_tmp rfl _ _ w.heap.size 23 C (0, 0) _ rfl (setRow_heap _ _ _ _ _ _ hr) Try.underlying23 rfl (by rw [hs]; kernel_rfl)) rfl ⟨?_, HF.out.setRow (.inr (Nat.le_refl _)) _⟩
        rw [HE.out]
        rfl
  · have HH := Lib.hid (show ((s.size : Int) != 32) = true by rw [bne_iff_ne]; omega)
    have hr : W.heap[w.heap.size]? = some (.cells ((List.replicate 20 (0 : UInt8)).map bv).toArray 23 (0, 0)) := H0.out.res
    have hg : W.heap[w.heap.size + 1]? = some (.cells ((List.replicate 20 (0 : UInt8)).map bv).toArray 23 (0, 0)) := by have := H0.out.row; rwa [hashL_zero] at this
    have HF := Lib.hid H0.out.fr
    have hs0 : ((List.replicate 20 (0 : UInt8)).map bv).toArray.size = 20 := by simp
    have h1 := row_one (List.replicate 20 (0 : UInt8))
    have HE := Lib.hid (show RS = .tuple #[.agg ((List.replicate 20 (0 : UInt8)).map bv).toArray, .int .i64 4] by
      rw [HRS.out, hashT, if_neg (by simp only [hashOk, Bool.and_eq_true, decide_eq_true_eq]; rintro ⟨h, _⟩; exact h32 (by rw [HSL.out, h]))])
    clear H0
    have HWL := Lib.hid (show (w.alloc (.cells #[.int .u8 0, .int .u8 0, .int .u8 0, .int .u8 0, .int .u8 0, .int .u8 0, .int .u8 0, .int .u8 0, .int .u8 0, .int .u8 0, .int .u8 0, .int .u8 0, .int .u8 0, .int .u8 0, .int .u8 0, .int .u8 0, .int .u8 0, .int .u8 0, .int .u8 0, .int .u8 0] 23)).alloc (.cells #[.int .u8 0, .int .u8 0, .int .u8 0, .int .u8 0, .int .u8 0, .int .u8 0, .int .u8 0, .int .u8 0, .int .u8 0, .int .u8 0, .int .u8 0, .int .u8 0, .int .u8 0, .int .u8 0, .int .u8 0, .int .u8 0, .int .u8 0, .int .u8 0, .int .u8 0, .int .u8 0] 23) = W by rw [hW]; rfl)
    have h32' := HH.out
    clear hW
    generalize ((List.replicate 20 (0 : UInt8)).map bv).toArray = C0 at *
    go_enter Try.func10, Try.ntmps10
    go_wp2_with (first
      | (rw [HWL.out]; with_reducible refine wpList_load_row rfl 23 (.tmp 4) rfl (w.heap.size + 1) rfl 23 C0 (0, 0) _ hg Try.underlying23 rfl (by rw [hs0]; kernel_rfl) ?_)
      | (with_reducible refine wpList_store_row rfl 23 (.tmp 2) (.tmp 12) rfl w.heap.size C0 C0 23 rfl rfl hr (by rw [hs0]; kernel_rfl) rfl h1 ?_))
    refine bodyPost_ret (results_cell_row_tmp rfl _ _ w.heap.size 23 C0 (0, 0) _ rfl (setRow_heap _ _ _ _ _ _ hr) Try.underlying23 rfl (by rw [hs0]; kernel_rfl)) rfl ⟨?_, HF.out.setRow (.inr (Nat.le_refl _)) _⟩
    rw [HE.out]
    rfl
end Go.Proofs.Ytdmlalnekjihfaa
