/- Contract of base.Hash. -/
import Derived.Test.YtdmlalnekjihfaaBVals
import Derived.Test.YtdmlalnekjihfaaBWith
import Derived.Lib.TrimU
namespace Go.Proofs.Ytdmlalnekjihfaa
open Go.RowKit Go.ChangeShapes Go.WideMaps Go.Maps
set_option linter.unusedVariables false

theorem abc_small : ∀ n : Fin 32, (abc.getD n.val 0).toNat < 128 := by decide
theorem abc_mem (j : Nat) (h : j < 32) : abc.getD j 0 ∈ abc := by
  rw [List.getD_eq_getElem?_getD, List.getElem?_eq_getElem (by rw [abc_length]; exact h), Option.getD_some]
  exact List.getElem_mem _
theorem val_small (c : UInt8) (h : 0 ≤ valI c) : c.toNat < 128 := by
  rcases valI_cases c with h1 | h1
  · omega
  · rw [← h1.2.2]
    exact abc_small ⟨(valI c).toNat, by omega⟩
/-- The rune at a byte that is no letter is none of the letters. -/
theorem rune_none (s : ByteArray) (i : Nat) (h : i < s.size) (hv : ¬ 0 ≤ valI (s[i]'h)) : ∀ j, j < 32 → ((abc.getD j 0).toNat : Int) ≠ ((Utf8.decode s i).1 : Int) := by
  intro j hj he
  have h128 := abc_small ⟨j, hj⟩
  have he' : (abc.getD j 0).toNat = (Utf8.decode s i).1 := by omega
  by_cases ha : (s[i]'h).toNat < 128
  · rw [decode_ascii s i h ha] at he'
    have e : abc.getD j 0 = s[i]'h := UInt8.toNat_inj.1 he'
    rcases valI_cases (s[i]'h) with h1 | h1
    · exact h1.2 (by rw [← e]; exact abc_mem j hj)
    · exact hv h1.1
  · have := (decode_high s i h (by omega)).1
    simp only at h128
    omega
theorem rune_wf (s : ByteArray) (i : Nat) : (Lit.int .i32 ((Utf8.decode s i).1 : Int)).wf = true := by
  have := Lib.rune_le s i
  simp [Lit.wf, IntKind.min, IntKind.max, IntKind.bits, IntKind.signed]
  omega

/-- Where Hash stands, i letters done: its result in block a, the values in block a + 1, the hash in block g, the string's iterator behind it. -/
structure BhAt (w wr : World) (s : ByteArray) (S : List UInt8) (g i : Nat) : Prop where
  fr : Fr (fun _ => False) w wr
  gt : w.heap.size + 1 < g
  res : BytT wr w.heap.size 23 (List.replicate 20 0)
  vals : ValsAt wr (w.heap.size + 1)
  row : BytT wr g 23 (hashL S (5 * i))
  it : wr.heap[g + 1]? = some (.stringIter s i)
theorem BhAt.keep {w wr w' : World} {s : ByteArray} {S : List UInt8} {g i : Nat} (h : BhAt w wr s S g i) (hf : Fr (fun _ => False) wr w') : BhAt w w' s S g i :=
  ⟨h.fr.trans hf (fun _ h => h.elim), h.gt, h.res.keep hf (fun h => h), h.vals.keep hf (fun h => h), h.row.keep hf (fun h => h), hf.heap h.it (fun h => h)⟩
/-- One rune on. -/
theorem BhAt.next {w wr : World} {s : ByteArray} {S : List UInt8} {g i : Nat} (h : BhAt w wr s S g i) (p : Nat) :
    Fr (fun _ => False) w (wr.iterAt (g + 1) s p) ∧ BytT (wr.iterAt (g + 1) s p) w.heap.size 23 (List.replicate 20 0) ∧ ValsAt (wr.iterAt (g + 1) s p) (w.heap.size + 1) ∧ BytT (wr.iterAt (g + 1) s p) g 23 (hashL S (5 * i)) ∧ (wr.iterAt (g + 1) s p).heap[g + 1]? = some (.stringIter s p) := by
  have hf := Fr.grownAs (iterAt_grown wr (g + 1) s p)
  have hg := h.gt
  exact ⟨h.fr.iterAt (.inr (by omega)) s p, h.res.keep hf (by omega), h.vals.keep hf (by omega), h.row.keep hf (by omega), Lib.iterAt_heap wr (g + 1) s i p h.it⟩

set_option maxRecDepth 100000 in
set_option maxHeartbeats 4000000 in
theorem bHash_any (s : ByteArray) (hs : s.size ≤ 140737488351232) (w : World) :
    Calls Try.prog 9 #[.string s] w fun e w' => e = .returned (hashT s.data.toList) ∧ Fr (fun _ => False) w w' := by
  have hsl : s.size = s.data.toList.length := by simp
  obtain ⟨S, hS⟩ : ∃ S, S = s.data.toList := ⟨_, rfl⟩
  have hgs : ∀ i (h : i < s.size), s[i] = S.getD i 0 := fun i h => by
    rw [hS, List.getD_eq_getElem?_getD, List.getElem?_eq_getElem (by rw [← hsl]; exact h)]
    rfl
  rw [← hS] at hsl ⊢
  have HGS := Lib.hid hgs
  have HSL := Lib.hid hsl
  obtain ⟨RS, hRS⟩ : ∃ RS, RS = hashT S := ⟨_, rfl⟩
  rw [← hRS]
  have HRS := Lib.hid hRS
  have hs0 : ((List.replicate 20 (0 : UInt8)).map bv).toArray.size = 20 := by simp
  have hone0 := row_one (List.replicate 20 (0 : UInt8))
  have hii0 : (Try.prog.info? 23).map (·.size) = some (#[.int .u8 0, .int .u8 0, .int .u8 0, .int .u8 0, .int .u8 0, .int .u8 0, .int .u8 0, .int .u8 0, .int .u8 0, .int .u8 0, .int .u8 0, .int .u8 0, .int .u8 0, .int .u8 0, .int .u8 0, .int .u8 0, .int .u8 0, .int .u8 0, .int .u8 0, .int .u8 0] : Array Value).size := by kernel_rfl
  have hone1 : (#[.int .u8 0, .int .u8 0, .int .u8 0, .int .u8 0, .int .u8 0, .int .u8 0, .int .u8 0, .int .u8 0, .int .u8 0, .int .u8 0, .int .u8 0, .int .u8 0, .int .u8 0, .int .u8 0, .int .u8 0, .int .u8 0, .int .u8 0, .int .u8 0, .int .u8 0, .int .u8 0] : Array Value).all (·.oneCell') = true := row_one (List.replicate 20 0)
  have HZ := Lib.hid (show ((List.replicate 20 (0 : UInt8)).map bv).toArray = #[.int .u8 0, .int .u8 0, .int .u8 0, .int .u8 0, .int .u8 0, .int .u8 0, .int .u8 0, .int .u8 0, .int .u8 0, .int .u8 0, .int .u8 0, .int .u8 0, .int .u8 0, .int .u8 0, .int .u8 0, .int .u8 0, .int .u8 0, .int .u8 0, .int .u8 0, .int .u8 0] by rfl)
  clear hsl hRS hS hgs
  by_cases h32 : s.size = 32
  · have h32' : ((s.size : Int) != 32) = false := by rw [bne_eq_false_iff_eq]; omega
    have H32 := Lib.hid h32
    clear h32
    have HLV := Lib.hid (fun W => letterValues_any W)
    obtain ⟨W1, hW1⟩ : ∃ W1, W1 = w.alloc (.cells #[.int .u8 0, .int .u8 0, .int .u8 0, .int .u8 0, .int .u8 0, .int .u8 0, .int .u8 0, .int .u8 0, .int .u8 0, .int .u8 0, .int .u8 0, .int .u8 0, .int .u8 0, .int .u8 0, .int .u8 0, .int .u8 0, .int .u8 0, .int .u8 0, .int .u8 0, .int .u8 0] 23) := ⟨_, rfl⟩
    have hW1s : W1.heap.size = w.heap.size + 1 := by rw [hW1]; simp
    have HW1 := Lib.hid (show Fr (fun _ => False) w W1 ∧ BytT W1 w.heap.size 23 (List.replicate 20 0) from by
      rw [hW1]
      exact ⟨(Fr.refl _ _).alloc _, heap_alloc_new w _⟩)
    have HLV1 := Lib.hid (show Calls Try.prog 24 #[] W1 fun e w' => e = .returned (.map (some (w.heap.size + 1))) ∧ ValsAt w' (w.heap.size + 1) ∧ Fr (fun _ => False) W1 w' by
      have h := HLV.out W1
      rwa [hW1s] at h)
    have HWL := Lib.hid hW1.symm
    clear hW1 hW1s HLV
    go_enter Try.func9, Try.ntmps9
    go_wp2_with (go_at_call 24; rw [HWL.out]; refine HLV1.out.mono ?_; rintro e w2 ⟨rfl, hv2, hf2⟩; have H2 := Lib.hid (And.intro (HW1.out.1.trans hf2 (fun _ h => h.elim)) (And.intro (HW1.out.2.keep hf2 (fun h => h)) hv2)); clear hv2 hf2 HLV1 HW1 HWL)
    have H0 := Lib.hid (show BhAt w ((w2.alloc (.cells #[.int .u8 0, .int .u8 0, .int .u8 0, .int .u8 0, .int .u8 0, .int .u8 0, .int .u8 0, .int .u8 0, .int .u8 0, .int .u8 0, .int .u8 0, .int .u8 0, .int .u8 0, .int .u8 0, .int .u8 0, .int .u8 0, .int .u8 0, .int .u8 0, .int .u8 0, .int .u8 0] 23)).iter s 0) s S w2.heap.size 0 from
      ⟨(H2.out.1.alloc _).alloc _, H2.out.2.2.lt, (H2.out.2.1.keep ((Fr.refl (fun _ => False) _).alloc _) (fun h => h)).keep ((Fr.refl (fun _ => False) _).alloc _) (fun h => h), (H2.out.2.2.keep ((Fr.refl (fun _ => False) _).alloc _) (fun h => h)).keep ((Fr.refl (fun _ => False) _).alloc _) (fun h => h),
        by rw [show 5 * 0 = 0 from rfl, hashL_zero]; exact heap_alloc2_old w2 _ _, by
          have h := heap_alloc2_new w2 (.cells #[.int .u8 0, .int .u8 0, .int .u8 0, .int .u8 0, .int .u8 0, .int .u8 0, .int .u8 0, .int .u8 0, .int .u8 0, .int .u8 0, .int .u8 0, .int .u8 0, .int .u8 0, .int .u8 0, .int .u8 0, .int .u8 0, .int .u8 0, .int .u8 0, .int .u8 0, .int .u8 0] 23) (.stringIter s 0)
          exact h⟩)
    clear H2
    go_loopg [6, 7, 8, 9] 32 (fun gf s6 s7 s8 s9 wx => ∃ i : Nat, i ≤ 32 ∧ 32 = i + gf ∧ Hid (∀ j, (h : j < i) → 0 ≤ valI (S.getD j 0)) ∧ Hid (BhAt w wx s S w2.heap.size i))
    case atStart => exact ⟨0, by omega, by omega, Lib.hid (fun j h => by omega), H0⟩
    case round =>
      clear H0
      obtain ⟨i, hi, hgf, hV, hR⟩ := hrel
      have HGF := Lib.hid hgf
      clear hgf
      by_cases hlt : i < 32
      · obtain ⟨g', hg'⟩ : ∃ g', gk = g' + 1 := ⟨gk - 1, by have := HGF.out; omega⟩
        have hil : i < s.size := by have := H32.out; omega
        obtain ⟨c, hc⟩ : ∃ c, c = S.getD i 0 := ⟨_, rfl⟩
        have hsc : s[i]'hil = c := by rw [hc]; exact HGS.out i hil
        by_cases hneg : 0 ≤ valI c
        · obtain ⟨v, hv⟩ : ∃ v : Nat, valI c = v := ⟨(valI c).toNat, by omega⟩
          have h128 := val_small c hneg
          have hv32 : v < 32 := by rcases valI_cases c with h | h <;> omega
          have hnx : ∀ ty, (Instr.next (.pointer (some ⟨w2.heap.size + 1, 0, none⟩)) true ty).run Try.prog wr = .ok (.tuple #[.bool true, .int .i64 i, .int .i32 c.toNat]) (wr.iterAt (w2.heap.size + 1) s (i + 1)) := fun ty => by
            have h := Lib.run_next_ascii_at (P := Try.prog) wr (w2.heap.size + 1) s i ty hR.out.it hil (by rw [hsc]; exact h128)
            rwa [hsc] at h
          have hN := hR.out.next (i + 1)
          obtain ⟨W, hWd⟩ : ∃ W, wr.iterAt (w2.heap.size + 1) s (i + 1) = W := ⟨_, rfl⟩
          rw [hWd] at hnx hN
          obtain ⟨n1, n2, n3, n4, n5⟩ := hN
          have hlook := n3.yes c v hv
          obtain ⟨C, hC⟩ : ∃ C, C = ((hashL S (5 * i)).map bv).toArray := ⟨_, rfl⟩
          obtain ⟨C2, hC2⟩ : ∃ C2, C2 = ((hashL S (5 * (i + 1))).map bv).toArray := ⟨_, rfl⟩
          have hWV := fun W => withValue_any S i v hlt hv32 (by rw [valN, ← hc, hv]; rfl) W
          rw [← hC, ← hC2] at hWV
          have HWV := Lib.hid hWV
          have hrow : W.heap[w2.heap.size]? = some (.cells C 23 (0, 0)) := by rw [hC]; exact n4
          have hcs : C.size = 20 := by rw [hC]; simp [hashL_length]
          have hcs2 : C2.size = 20 := by rw [hC2]; simp [hashL_length]
          have hii : (Try.prog.info? 23).map (·.size) = some C.size := by rw [hcs]; kernel_rfl
          have hii2 : (Try.prog.info? 23).map (·.size) = some C2.size := by rw [hcs2]; kernel_rfl
          have hsz : C.size = C2.size := by rw [hcs, hcs2]
          have hone : C2.all (·.oneCell') = true := by rw [hC2]; exact row_one _
          have HV2 := Lib.hid (show ∀ j, (h : j < i + 1) → 0 ≤ valI (S.getD j 0) from fun j h => by
            rcases Nat.lt_succ_iff_lt_or_eq.1 h with h | rfl
            · exact hV.out j h
            · rw [← hc]; exact hneg)
          have HN := Lib.hid (And.intro n1 (And.intro n2 (And.intro n3 n5)))
          have HGT := Lib.hid hR.out.gt
          have HC2 := Lib.hid hC2
          have HG' := Lib.hid hg'
          clear n1 n2 n3 n4 n5 hWV hC hC2 hcs hcs2 hc hsc hv hV hR hWd hneg hg'
          go_wp2_with (first
            | (with_reducible refine wpList_load_row rfl 23 (.tmp 5) rfl w2.heap.size rfl 23 C (0, 0) _ hrow Try.underlying23 rfl hii ?_)
            | (go_at_call 25; refine (HWV.out _).mono ?_; rintro e w3 ⟨rfl, hf3⟩; have hrow3 := hf3.heap hrow (fun h => h); have HF3 := Lib.hid hf3; clear hf3)
            | (with_reducible refine wpList_store_row rfl 23 (.tmp 5) (.tmp 33) rfl w2.heap.size C2 C 23 rfl rfl hrow3 hii2 hsz hone ?_))
          go_roundg g'
          case measure => have := HG'.out; omega
          case rel =>
            have hf := HF3.out
            obtain ⟨n1, n2, n3, n5⟩ := HN.out
            have hgt := HGT.out
            have hfs : Fr (fun i => i = w2.heap.size) w3 (w3.setRow w2.heap.size C2) := (Fr.refl (fun i => i = w2.heap.size) w3).setRow (.inl rfl) C2
            refine ⟨i + 1, by omega, by have := HG'.out; have := HGF.out; omega, HV2, Lib.hid ⟨(n1.trans hf (fun _ h => h.elim)).setRow (.inr (by omega)) _, hgt, (n2.keep hf (fun h => h)).keep hfs (by omega), (n3.keep hf (fun h => h)).keep hfs (by omega), ?_, hfs.heap (hf.heap n5 (fun h => h)) (by omega)⟩⟩
            have h := setRow_heap w3 w2.heap.size C C2 23 (0, 0) hrow3
            rw [HC2.out] at h
            rw [HC2.out]
            exact h
        · obtain ⟨R, hRd⟩ : ∃ R, R = (Utf8.decode s i).1 := ⟨_, rfl⟩
          obtain ⟨p, hp⟩ : ∃ p, p = i + (Utf8.decode s i).2 := ⟨_, rfl⟩
          have hnx : ∀ ty, (Instr.next (.pointer (some ⟨w2.heap.size + 1, 0, none⟩)) true ty).run Try.prog wr = .ok (.tuple #[.bool true, .int .i64 i, .int .i32 R]) (wr.iterAt (w2.heap.size + 1) s p) := fun ty => by
            rw [hRd, hp]
            exact Lib.run_next_any_at (P := Try.prog) wr (w2.heap.size + 1) s i ty hR.out.it hil
          have hN := hR.out.next p
          obtain ⟨W, hWd⟩ : ∃ W, wr.iterAt (w2.heap.size + 1) s p = W := ⟨_, rfl⟩
          rw [hWd] at hnx hN
          obtain ⟨n1, n2, n3, n4, n5⟩ := hN
          have hlook := n3.no (R : Int) (by rw [hRd]; exact rune_wf s i) (by rw [hRd]; exact rune_none s i hil (by rw [hsc]; exact hneg))
          have HE := Lib.hid (show RS = .tuple #[.agg #[.int .u8 0, .int .u8 0, .int .u8 0, .int .u8 0, .int .u8 0, .int .u8 0, .int .u8 0, .int .u8 0, .int .u8 0, .int .u8 0, .int .u8 0, .int .u8 0, .int .u8 0, .int .u8 0, .int .u8 0, .int .u8 0, .int .u8 0, .int .u8 0, .int .u8 0, .int .u8 0], .int .i64 4] by
            rw [HRS.out, hashT, if_neg (by rw [hashOk_bad S i (by rw [← HSL.out]; exact hil) (by rw [← hc]; exact hneg)]; decide), HZ.out])
          have hrow : W.heap[w.heap.size]? = some (.cells #[.int .u8 0, .int .u8 0, .int .u8 0, .int .u8 0, .int .u8 0, .int .u8 0, .int .u8 0, .int .u8 0, .int .u8 0, .int .u8 0, .int .u8 0, .int .u8 0, .int .u8 0, .int .u8 0, .int .u8 0, .int .u8 0, .int .u8 0, .int .u8 0, .int .u8 0, .int .u8 0] 23 (0, 0)) := n2
          have HF := Lib.hid n1
          clear n1 n2 n3 n4 n5 hc hsc hV hR hWd hneg hg' hRd hp
          go_wp2_with (with_reducible refine wpList_store_row rfl 23 (.tmp 2) (.tmp 29) rfl w.heap.size #[.int .u8 0, .int .u8 0, .int .u8 0, .int .u8 0, .int .u8 0, .int .u8 0, .int .u8 0, .int .u8 0, .int .u8 0, .int .u8 0, .int .u8 0, .int .u8 0, .int .u8 0, .int .u8 0, .int .u8 0, .int .u8 0, .int .u8 0, .int .u8 0, .int .u8 0, .int .u8 0] #[.int .u8 0, .int .u8 0, .int .u8 0, .int .u8 0, .int .u8 0, .int .u8 0, .int .u8 0, .int .u8 0, .int .u8 0, .int .u8 0, .int .u8 0, .int .u8 0, .int .u8 0, .int .u8 0, .int .u8 0, .int .u8 0, .int .u8 0, .int .u8 0, .int .u8 0, .int .u8 0] 23 rfl rfl hrow hii0 rfl hone1 ?_)
          refine bodyPost_ret (results_cell_row_tmp rfl _ _ w.heap.size 23 #[.int .u8 0, .int .u8 0, .int .u8 0, .int .u8 0, .int .u8 0, .int .u8 0, .int .u8 0, .int .u8 0, .int .u8 0, .int .u8 0, .int .u8 0, .int .u8 0, .int .u8 0, .int .u8 0, .int .u8 0, .int .u8 0, .int .u8 0, .int .u8 0, .int .u8 0, .int .u8 0] (0, 0) _ rfl (setRow_heap _ _ _ _ _ _ hrow) Try.underlying23 rfl hii0) rfl ⟨?_, HF.out.setRow (.inr (Nat.le_refl _)) _⟩
          rw [HE.out]
          rfl
      · have hi32 : i = 32 := by omega
        have hnx : ∀ ty, (Instr.next (.pointer (some ⟨w2.heap.size + 1, 0, none⟩)) true ty).run Try.prog wr = .ok (.tuple #[.bool false]) wr := fun ty => Lib.run_next_end_at (P := Try.prog) wr (w2.heap.size + 1) s i ty hR.out.it (by rw [H32.out]; exact hlt)
        obtain ⟨C, hC⟩ : ∃ C, C = ((hashL S (5 * 32)).map bv).toArray := ⟨_, rfl⟩
        have hrow : wr.heap[w2.heap.size]? = some (.cells C 23 (0, 0)) := by
          have h := hR.out.row
          rw [hi32] at h
          rw [hC]
          exact h
        have hres : wr.heap[w.heap.size]? = some (.cells #[.int .u8 0, .int .u8 0, .int .u8 0, .int .u8 0, .int .u8 0, .int .u8 0, .int .u8 0, .int .u8 0, .int .u8 0, .int .u8 0, .int .u8 0, .int .u8 0, .int .u8 0, .int .u8 0, .int .u8 0, .int .u8 0, .int .u8 0, .int .u8 0, .int .u8 0, .int .u8 0] 23 (0, 0)) := hR.out.res
        have hcs : C.size = 20 := by rw [hC]; simp [hashL_length]
        have hii : (Try.prog.info? 23).map (·.size) = some C.size := by rw [hcs]; kernel_rfl
        have hsz : (#[.int .u8 0, .int .u8 0, .int .u8 0, .int .u8 0, .int .u8 0, .int .u8 0, .int .u8 0, .int .u8 0, .int .u8 0, .int .u8 0, .int .u8 0, .int .u8 0, .int .u8 0, .int .u8 0, .int .u8 0, .int .u8 0, .int .u8 0, .int .u8 0, .int .u8 0, .int .u8 0] : Array Value).size = C.size := by rw [hcs]; rfl
        have hone : C.all (·.oneCell') = true := by rw [hC]; exact row_one _
        have HE := Lib.hid (show RS = .tuple #[.agg C, .int .i64 0] by
          rw [HRS.out, hashT, if_pos (hashOk_all S (by rw [← HSL.out, H32.out]) (fun j h => hV.out j (by omega))), hC])
        have HF := Lib.hid hR.out.fr
        clear hC hcs hV hR hi32
        go_wp2_with (first
          | (with_reducible refine wpList_load_row rfl 23 (.tmp 5) rfl w2.heap.size rfl 23 C (0, 0) _ hrow Try.underlying23 rfl hii ?_)
          | (with_reducible refine wpList_store_row rfl 23 (.tmp 2) (.tmp 34) rfl w.heap.size C #[.int .u8 0, .int .u8 0, .int .u8 0, .int .u8 0, .int .u8 0, .int .u8 0, .int .u8 0, .int .u8 0, .int .u8 0, .int .u8 0, .int .u8 0, .int .u8 0, .int .u8 0, .int .u8 0, .int .u8 0, .int .u8 0, .int .u8 0, .int .u8 0, .int .u8 0, .int .u8 0] 23 rfl rfl hres hii hsz hone ?_))
        refine bodyPost_ret (results_cell_row_tmp rfl _ _ w.heap.size 23 C (0, 0) _ rfl (setRow_heap _ _ _ _ _ _ hres) Try.underlying23 rfl hii) rfl ⟨?_, HF.out.setRow (.inr (Nat.le_refl _)) _⟩
        rw [HE.out]
        rfl
  · have h32' : ((s.size : Int) != 32) = true := by rw [bne_iff_ne]; omega
    have HE := Lib.hid (show RS = .tuple #[.agg #[.int .u8 0, .int .u8 0, .int .u8 0, .int .u8 0, .int .u8 0, .int .u8 0, .int .u8 0, .int .u8 0, .int .u8 0, .int .u8 0, .int .u8 0, .int .u8 0, .int .u8 0, .int .u8 0, .int .u8 0, .int .u8 0, .int .u8 0, .int .u8 0, .int .u8 0, .int .u8 0], .int .i64 4] by
      rw [HRS.out, hashT, if_neg (by simp only [hashOk, Bool.and_eq_true, decide_eq_true_eq]; rintro ⟨h, _⟩; exact h32 (by rw [HSL.out, h])), HZ.out])
    have hrow := heap_alloc_new w (.cells #[.int .u8 0, .int .u8 0, .int .u8 0, .int .u8 0, .int .u8 0, .int .u8 0, .int .u8 0, .int .u8 0, .int .u8 0, .int .u8 0, .int .u8 0, .int .u8 0, .int .u8 0, .int .u8 0, .int .u8 0, .int .u8 0, .int .u8 0, .int .u8 0, .int .u8 0, .int .u8 0] 23)
    have hrow : (w.alloc (.cells #[.int .u8 0, .int .u8 0, .int .u8 0, .int .u8 0, .int .u8 0, .int .u8 0, .int .u8 0, .int .u8 0, .int .u8 0, .int .u8 0, .int .u8 0, .int .u8 0, .int .u8 0, .int .u8 0, .int .u8 0, .int .u8 0, .int .u8 0, .int .u8 0, .int .u8 0, .int .u8 0] 23)).heap[w.heap.size]? = some (.cells #[.int .u8 0, .int .u8 0, .int .u8 0, .int .u8 0, .int .u8 0, .int .u8 0, .int .u8 0, .int .u8 0, .int .u8 0, .int .u8 0, .int .u8 0, .int .u8 0, .int .u8 0, .int .u8 0, .int .u8 0, .int .u8 0, .int .u8 0, .int .u8 0, .int .u8 0, .int .u8 0] 23 (0, 0)) := hrow
    clear h32
    go_enter Try.func9, Try.ntmps9
    go_wp2_with (with_reducible refine wpList_store_row rfl 23 (.tmp 2) (.tmp 13) rfl w.heap.size #[.int .u8 0, .int .u8 0, .int .u8 0, .int .u8 0, .int .u8 0, .int .u8 0, .int .u8 0, .int .u8 0, .int .u8 0, .int .u8 0, .int .u8 0, .int .u8 0, .int .u8 0, .int .u8 0, .int .u8 0, .int .u8 0, .int .u8 0, .int .u8 0, .int .u8 0, .int .u8 0] #[.int .u8 0, .int .u8 0, .int .u8 0, .int .u8 0, .int .u8 0, .int .u8 0, .int .u8 0, .int .u8 0, .int .u8 0, .int .u8 0, .int .u8 0, .int .u8 0, .int .u8 0, .int .u8 0, .int .u8 0, .int .u8 0, .int .u8 0, .int .u8 0, .int .u8 0, .int .u8 0] 23 rfl rfl hrow hii0 rfl hone1 ?_)
    refine bodyPost_ret (results_cell_row_tmp rfl _ _ w.heap.size 23 #[.int .u8 0, .int .u8 0, .int .u8 0, .int .u8 0, .int .u8 0, .int .u8 0, .int .u8 0, .int .u8 0, .int .u8 0, .int .u8 0, .int .u8 0, .int .u8 0, .int .u8 0, .int .u8 0, .int .u8 0, .int .u8 0, .int .u8 0, .int .u8 0, .int .u8 0, .int .u8 0] (0, 0) _ rfl (setRow_heap _ _ _ _ _ _ hrow) Try.underlying23 rfl hii0) rfl ⟨?_, ((Fr.refl _ _).alloc _).setRow (.inr (Nat.le_refl _)) _⟩
    rw [HE.out]
    rfl
end Go.Proofs.Ytdmlalnekjihfaa
