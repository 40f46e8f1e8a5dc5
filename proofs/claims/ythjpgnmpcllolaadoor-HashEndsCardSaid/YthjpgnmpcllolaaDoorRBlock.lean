/- Contract of the document's own: spenceref02.block. -/
import Derived.Test.YthjpgnmpcllolaaDoorRTurn
import Derived.Test.YthjpgnmpcllolaaDoorSumW
import Derived.StillTailTactics
namespace Go.Proofs.YthjpgnmpcllolaaDoor
open Go.RowKit Go.ChangeShapes
set_option linter.unusedVariables false

def St.zero : St := ⟨0, 0, 0, 0, 0, 0, 0, 0⟩
/-- The blocks of block, k words there. -/
structure BkAt (w wr : World) (L : List UInt8) (s : St) (k : Nat) : Prop where
  fr : Fr (fun _ => False) w wr
  box : StAt wr w.heap.size s [] 54
  res : StAt wr (w.heap.size + 1) St.zero [] 54
  row : wr.heap[w.heap.size + 2]? = some (.cells (wcells L k) 74 (0, 0))
theorem BkAt.drewN {w wr : World} {L : List UInt8} {s : St} {k : Nat} (h : BkAt w wr L s k) (n : Nat) : BkAt w (wr.drewN n) L s k := ⟨h.fr.drewN n, h.box, h.res, h.row⟩
theorem BkAt.set_ {w wr : World} {L : List UInt8} {s : St} {k : Nat} (h : BkAt w wr L s k) (hk : k < 64) (x : Int) (hx : x = wnext L k (wl L k)) : BkAt w (wr.setCell ⟨w.heap.size + 2, k, none⟩ (.int .u32 x)) L s (k + 1) := by
  refine ⟨h.fr.setCell (.inr (by simp)) _, ?_, ?_, ?_⟩
  · unfold StAt; rw [Below.heap_setCell _ _ _ _ (by simp)]; exact h.box
  · unfold StAt; rw [Below.heap_setCell _ _ _ _ (by simp)]; exact h.res
  · rw [heap_setCell_at _ h.row, hx]
    exact congrArg (fun c => some (Obj.cells c _ _)) (wcells_set L k hk)
theorem BkAt.cell {w wr : World} {L : List UInt8} {s : St} {k : Nat} (h : BkAt w wr L s k) (i : Nat) (hk : k ≤ 64) (hi : i < k) : wr.cell? ⟨w.heap.size + 2, i, none⟩ = some (.int .u32 ((wl L k).getD i 0 : Nat)) := by
  rw [cell_of_row _ _ _ _ _ _ h.row, wcells_get L k i hk hi]
  rfl
theorem BkAt.next {w wr : World} {L : List UInt8} {s : St} {k : Nat} (h : BkAt w wr L s k) (hk : k < 64) : wr.cell? ⟨w.heap.size + 2, k, none⟩ = some (.int .u32 0) ∧ wr.frozen? ⟨w.heap.size + 2, k, none⟩ = false := by
  rw [cell_of_row _ _ _ _ _ _ h.row, wcells_next L k hk]
  exact ⟨rfl, frozen_of_row _ _ _ _ _ h.row⟩

/-- The blocks of block, k steps done: the added words stand at g, the eight words behind it. -/
structure TkAt (w wr : World) (s : St) (W : List Nat) (g k : Nat) : Prop where
  fr : Fr (fun _ => False) w wr
  box : StAt wr w.heap.size s [] 54
  res : StAt wr (w.heap.size + 1) St.zero [] 54
  row : wr.heap[w.heap.size + 2]? = some (.cells (W.map uw).toArray 74 (0, 0))
  tab : wr.heap[g]? = some (.cells (ks.map uw).toArray 74 (0, 0))
  cur : StAt wr (g + 1) (runT s W k) [] 54
theorem cell_of_words {w : World} {g : Nat} {L : List Nat} {T : TypeId} (h : w.heap[g]? = some (.cells (L.map uw).toArray T (0, 0))) (i : Nat) (hi : i < L.length) : w.cell? ⟨g, i, none⟩ = some (.int .u32 (L.getD i 0 : Nat)) := by
  rw [cell_of_row _ _ _ _ _ _ h, List.getElem?_toArray, List.getElem?_map, List.getD_eq_getElem?_getD, List.getElem?_eq_getElem hi]
  rfl
theorem TkAt.drewN {w wr : World} {s : St} {W : List Nat} {g k : Nat} (h : TkAt w wr s W g k) (n : Nat) : TkAt w (wr.drewN n) s W g k := ⟨h.fr.drewN n, h.box, h.res, h.row, h.tab, h.cur⟩
theorem TkAt.next {w wr wr' : World} {s : St} {W : List Nat} {g k : Nat} (h : TkAt w wr s W g k) (hg : w.heap.size + 3 ≤ g) (hf : Fr (· = g + 1) wr wr') (hc : StAt wr' (g + 1) (runT s W (k + 1)) [] 54) : TkAt w wr' s W g (k + 1) :=
  ⟨h.fr.trans hf (fun i hi => .inr (by omega)), hf.heap h.box (by omega), hf.heap h.res (by omega), hf.heap h.row (by omega), hf.heap h.tab (by omega), hc⟩
theorem TkAt.start {w w2 : World} {s : St} {W : List Nat} (hf : Fr (fun _ => False) w w2) (hb : StAt w2 w.heap.size s [] 54) (hr : StAt w2 (w.heap.size + 1) St.zero [] 54)
    (hw : w2.heap[w.heap.size + 2]? = some (.cells (W.map uw).toArray 74 (0, 0))) (x1 x2 : Array Value) (C S : Array Value) (hC : C = (ks.map uw).toArray) (hS : S = (stc s).toArray) :
    TkAt w ((((w2.alloc (.cells x1 74)).setRow w2.heap.size C).alloc (.cells x2 54)).setRow (w2.heap.size + 1) S) s W w2.heap.size 0 := by
  subst hC hS
  have hfin : Fr (fun _ => False) w2 ((((w2.alloc (.cells x1 74)).setRow w2.heap.size (ks.map uw).toArray).alloc (.cells x2 54)).setRow (w2.heap.size + 1) (stc s).toArray) :=
    ((((Fr.refl _ w2).alloc _).setRow (.inr (Nat.le_refl _)) _).alloc _).setRow (.inr (by omega)) _
  have h1 : ((w2.alloc (.cells x1 74)).setRow w2.heap.size (ks.map uw).toArray).heap.size = w2.heap.size + 1 := by simp
  refine ⟨hf.trans hfin (fun _ h => h.elim), hfin.heap hb (fun h => h), hfin.heap hr (fun h => h), hfin.heap hw (fun h => h), ?_, ?_⟩
  · rw [setRow_other _ _ _ _ (by omega), Below.heap_alloc _ _ _ (by omega)]
    exact setRow_heap _ _ _ _ _ _ (heap_alloc_new w2 _)
  · have h := heap_alloc_new ((w2.alloc (.cells x1 74)).setRow w2.heap.size (ks.map uw).toArray) (.cells x2 54)
    rw [h1] at h
    refine (setRow_heap _ _ _ _ _ _ h).trans ?_
    simp [runT]
theorem St.add_comm (s t : St) : s.add t = t.add s := by
  simp only [St.add, Nat.add_comm]

set_option maxRecDepth 100000 in
set_option maxHeartbeats 4000000 in
theorem rblock_any {F : Nat → Prop} {v : Value} {L : List UInt8} {s : St} (w : World) (ok : s.Ok) (h : BytesIn F w v L) (hl : L.length = 64) :
    Calls Tryd.prog 33 #[.agg (stc s).toArray, v] w fun e w' => e = .returned (.agg (stc (comp s L)).toArray) ∧ Fr (fun _ => False) w w' := by
  obtain ⟨ao, cap, rfl, h1, h2, _⟩ := id h
  have HB := Lib.hid h
  have HL := Lib.hid hl
  have HO := Lib.hid ok
  unfold maxLen at h2
  rw [hl] at h1 ⊢
  clear h hl ok
  go_enter Tryd.func33, Tryd.ntmps33
  go_wp2_with fail
  go_loopw [6] (fun i wr => ∃ k : Nat, k ≤ 16 ∧ i = .int .i64 k ∧ Hid (BkAt w wr L s k)) (fun i _ => 16 - (intOf i).toNat)
  case atStart =>
    refine ⟨0, by omega, rfl, Lib.hid ⟨(((Fr.refl _ _).alloc _).alloc _).alloc _, ?_, ?_, ?_⟩⟩
    · unfold StAt
      rw [Below.heap_alloc _ _ _ (by simp; omega), Below.heap_alloc _ _ _ (by simp)]
      exact heap_alloc_new w _
    · have h := fun o1 o2 o3 => heap_alloc2_old (w.alloc o1) o2 o3
      simp only [World.size_alloc] at h
      exact h _ _ _
    · have h := fun o1 o2 o3 => heap_alloc2_new (w.alloc o1) o2 o3
      simp only [World.size_alloc] at h
      exact h _ _ _
  case round =>
    obtain ⟨k, hk, rfl, hS⟩ := hrel
    by_cases h16 : k < 16
    · have hB := HB.out.keep hS.out.fr (fun _ _ _ h => h)
      rw [HL.out] at hB
      have HC := Lib.hid (rword_any wr (hB.cutLow (4 * k) (by rw [HL.out]; omega)) (by rw [List.length_drop, HL.out]; omega))
      have hsl := fun w => run_cutLow' w ao 64 cap (4 * k) (4 * (k : Int)) (by push_cast; rfl) (by omega)
      obtain ⟨c0, f0⟩ := hS.out.next (show k < 64 by omega)
      have HX := Lib.hid (show ((wordOf (L.drop (4 * k)) : Nat) : Int) = wnext L k (wl L k) by rw [wnext, if_pos h16])
      clear hB
      go_wp2_with (go_at_call 38; refine HC.out.mono ?_; rintro e w1 ⟨rfl, n, rfl⟩)
      go_roundw
      case rel => exact ⟨k + 1, by omega, by go_num, Lib.hid ((hS.out.drewN n).set_ (by omega) _ HX.out)⟩
      case measure => simp [intOf]; omega
    · have hk16 : k = 16 := by omega
      rw [hk16] at hS
      obtain ⟨k0, hk0⟩ : ∃ k0, k0 = k := ⟨_, rfl⟩
      rw [← hk0]
      rw [← hk0] at h16
      clear HB hk hk0 hk16
      go_wp2_with fail
      go_loopw [7] (fun i wr => ∃ k : Nat, 16 ≤ k ∧ k ≤ 64 ∧ i = .int .i64 k ∧ Hid (BkAt w wr L s k)) (fun i _ => 64 - (intOf i).toNat)
      case atStart => exact ⟨16, by omega, by omega, rfl, hS⟩
      case round =>
        obtain ⟨k, hk1, hk, rfl, hR⟩ := hrel
        clear hS
        by_cases hlt : k < 64
        · have hx2 := getD_lt (wl_lt L k) (k - 2)
          have hx7 := getD_lt (wl_lt L k) (k - 7)
          have hx15 := getD_lt (wl_lt L k) (k - 15)
          have hx16 := getD_lt (wl_lt L k) (k - 16)
          have c2 := hR.out.cell (k - 2) hk (by omega)
          have c7 := hR.out.cell (k - 7) hk (by omega)
          have c15 := hR.out.cell (k - 15) hk (by omega)
          have c16 := hR.out.cell (k - 16) hk (by omega)
          have HW := Lib.hid (show wnext L k (wl L k) = (sg1 ((wl L k).getD (k - 2) 0) + (wl L k).getD (k - 7) 0 + sg0 ((wl L k).getD (k - 15) 0) + (wl L k).getD (k - 16) 0) % 4294967296 by rw [wnext, if_neg (by omega)])
          generalize (wl L k).getD (k - 2) 0 = y2 at *
          generalize (wl L k).getD (k - 7) 0 = y7 at *
          generalize (wl L k).getD (k - 15) 0 = y15 at *
          generalize (wl L k).getD (k - 16) 0 = y16 at *
          have s1 : bits .xor .u32 (bits .xor .u32 (rotr y2 17 : Nat) (rotr y2 19 : Nat)) ((y2 : Int) / 1024) = (sg1 y2 : Nat) := sg_spell sg1 y2 17 19 1024 10 hx2 rfl rfl
          have s0 : bits .xor .u32 (bits .xor .u32 (rotr y15 7 : Nat) (rotr y15 18 : Nat)) ((y15 : Int) / 8) = (sg0 y15 : Nat) := sg_spell sg0 y15 7 18 8 3 hx15 rfl rfl
          have i2 : IntKind.i64.wrap ((k : Int) - 2) = ((k - 2 : Nat) : Int) := by rw [IntWalk.i64_in _ (by omega)]; omega
          have i7 : IntKind.i64.wrap ((k : Int) - 7) = ((k - 7 : Nat) : Int) := by rw [IntWalk.i64_in _ (by omega)]; omega
          have i15 : IntKind.i64.wrap ((k : Int) - 15) = ((k - 15 : Nat) : Int) := by rw [IntWalk.i64_in _ (by omega)]; omega
          have i16 : IntKind.i64.wrap ((k : Int) - 16) = ((k - 16 : Nat) : Int) := by rw [IntWalk.i64_in _ (by omega)]; omega
          go_wp2_with fail
          go_quiet ((go_at_call 39; exact Calls.quiet_of (rturn_int _ _ _ (by assumption) (by omega) (by omega))))
          have hR1 : Hid (BkAt w (wr.drewN nq) L s k ∧ (wr.drewN nq).cell? ⟨w.heap.size + 2, k - 2, none⟩ = some (.int .u32 y2) ∧ (wr.drewN nq).cell? ⟨w.heap.size + 2, k - 7, none⟩ = some (.int .u32 y7) ∧ (wr.drewN nq).cell? ⟨w.heap.size + 2, k - 16, none⟩ = some (.int .u32 y16)) := Lib.hid ⟨hR.out.drewN nq, c2, c7, c16⟩
          clear hR c2 c7 c15 c16
          generalize wr.drewN nq = wr1 at hR1 ⊢
          obtain ⟨_, c2, c7, c16⟩ := hR1.out
          go_wp2
          go_quiet ((go_at_call 39; exact Calls.quiet_of (rturn_int _ _ _ (by assumption) (by omega) (by omega))))
          have hR2 : Hid (BkAt w (wr1.drewN nq) L s k ∧ (wr1.drewN nq).cell? ⟨w.heap.size + 2, k - 7, none⟩ = some (.int .u32 y7) ∧ (wr1.drewN nq).cell? ⟨w.heap.size + 2, k - 16, none⟩ = some (.int .u32 y16)) := Lib.hid ⟨hR1.out.1.drewN nq, c7, c16⟩
          clear hR1 c2 c7 c16
          generalize wr1.drewN nq = wr2 at hR2 ⊢
          obtain ⟨hR3, c7, c16⟩ := hR2.out
          obtain ⟨c0, f0⟩ := hR3.next hlt
          have b7 : ((k - 7 : Nat) : Int) < 64 := by omega
          have b16 : ((k - 16 : Nat) : Int) < 64 := by omega
          have bk : (k : Int) < 64 := by omega
          have d7 : (0 : Int) ≤ ((k - 7 : Nat) : Int) := by omega
          have d16 : (0 : Int) ≤ ((k - 16 : Nat) : Int) := by omega
          have dk : (0 : Int) ≤ (k : Int) := by omega
          clear hR3
          go_wp2
          go_still_tail 15, (by kernel_rfl)
          go_wp2
          go_roundw
          case rel => exact ⟨k + 1, by omega, by omega, by go_num, Lib.hid ((hR2.out.1.drewN 1).set_ hlt _ (by rw [HW.out]; (try simp only [IntKind.wrap_u32']); omega))⟩
          case measure => simp [intOf]; omega
        · obtain rfl : k = 64 := by omega
          have HW := Lib.hid (wl_length L 64)
          have HLT := Lib.hid (wl_lt L 64)
          have HEQ := Lib.hid (show comp s L = s.add (runT s (wl L 64) 64) from rfl)
          have hrow0 : wr.heap[w.heap.size + 2]? = some (.cells ((wl L 64).map uw).toArray 74 (0, 0)) := by
            have h := hR.out.row
            rwa [show wcells L 64 = ((wl L 64).map uw).toArray by simp [wcells]] at h
          have HR0 := Lib.hid (And.intro hR.out.fr (And.intro hR.out.box (And.intro hR.out.res hrow0)))
          clear hR hrow0
          generalize wl L 64 = W at *
          obtain ⟨C, hC⟩ : ∃ C, C = (ks.map uw).toArray := ⟨_, rfl⟩
          have hs : C.size = 64 := by rw [hC]; rfl
          have h1C : C.all (·.oneCell') = true := by rw [hC]; kernel_rfl
          obtain ⟨C0, hC0⟩ : ∃ C, C = (List.replicate 64 (uw 0)).toArray := ⟨_, rfl⟩
          have hs0 : C0.size = 64 := by rw [hC0]; rfl
          obtain ⟨S, hS⟩ : ∃ S, S = (stc s).toArray := ⟨_, rfl⟩
          have hsS : S.size = 8 := by rw [hS]; rfl
          have h1S : S.all (·.oneCell') = true := by rw [hS]; simp [stc, uw, Value.oneCell']
          obtain ⟨Z, hZ⟩ : ∃ Z, Z = (List.replicate 8 (uw 0)).toArray := ⟨_, rfl⟩
          have hsZ : Z.size = 8 := by rw [hZ]; rfl
          have HK := Lib.hid (rks_any wr)
          rw [← hC] at HK
          rw [← hS]
          go_wp2_with fail
          refine HK.out.mono ?_
          rintro e w2 ⟨rfl, hf2⟩
          have hsz2 : w.heap.size + 3 ≤ w2.heap.size := by
            have h1 := lt_of_block HR0.out.2.2.2
            have h2 := hf2.size
            omega
          have HF2 := Lib.hid hf2
          have hbx : ∀ o, ((w2.alloc o).setRow w2.heap.size C).heap[w.heap.size]? = some (.cells S 54 (0, 0)) := fun o => by
            rw [setRow_other _ _ _ _ (by omega), Below.heap_alloc _ _ _ (by omega), hS]
            exact (HF2.out.heap HR0.out.2.1 (fun h => h)).trans (by simp)
          have hwS : ∀ o, ((w2.alloc o).setRow w2.heap.size C).heap.size = w2.heap.size + 1 := fun o => by simp
          have HC := Lib.hid hC
          have HC0 := Lib.hid hC0
          have HS := Lib.hid hS
          have HZ := Lib.hid hZ
          clear hf2 HK hC hC0 hS hZ
          go_wp2_with (first
            | (with_reducible refine wpList_store_row rfl 74 (.tmp 10) (.tmp 80) rfl w2.heap.size C C0 74 rfl rfl (by rw [HC0.out]; exact (heap_alloc_new w2 _).trans (by kernel_rfl)) (by rw [hs]; kernel_rfl) (by rw [hs0, hs]) h1C ?_)
            | (with_reducible refine wpList_load_row rfl 54 (.tmp 2) rfl w.heap.size rfl 54 S (0, 0) _ (hbx _) Tryd.underlying54 rfl (by rw [hsS]; kernel_rfl) ?_)
            | (with_reducible refine wpList_store_row rfl 54 (.tmp 11) (.tmp 81) rfl (w2.heap.size + 1) S Z 54 rfl rfl (by rw [HZ.out, ← hwS]; exact (heap_alloc_new _ _).trans (by kernel_rfl)) (by rw [hsS]; kernel_rfl) (by rw [hsZ, hsS]) h1S ?_))
          have HT := Lib.hid (fun x1 x2 => TkAt.start (W := W) (HR0.out.1.trans HF2.out (fun _ h => h.elim)) (HF2.out.heap HR0.out.2.1 (fun h => h)) (HF2.out.heap HR0.out.2.2.1 (fun h => h)) (HF2.out.heap HR0.out.2.2.2 (fun h => h)) x1 x2 C S HC.out HS.out)
          obtain ⟨g, hg⟩ : ∃ g, g = w2.heap.size := ⟨_, rfl⟩
          rw [← hg] at hsz2
          clear hbx hwS HR0 HZ HC HC0
          go_loopw [12] (fun i wr => ∃ k : Nat, k ≤ 64 ∧ i = .int .i64 k ∧ Hid (TkAt w wr s W g k)) (fun i _ => 64 - (intOf i).toNat)
          case atStart => exact ⟨0, by omega, rfl, Lib.hid (by rw [hg]; exact HT.out _ _)⟩
          case round =>
            obtain ⟨k, hk, rfl, hR⟩ := hrel
            clear HT
            rw [← hg]
            clear hg HF2
            by_cases hlt64 : k < 64
            · obtain ⟨c0, c1, c2, c3, c4, c5, c6, c7⟩ := hR.out.cur.cells
              have hkW := getD_lt HLT.out k
              have hkK := getD_lt ks_lt k
              have hok := HO.out.run W k
              have ck := cell_of_words hR.out.tab k (by rw [ks_length]; exact hlt64)
              have cw := cell_of_words hR.out.row k (by rw [HW.out]; exact hlt64)
              obtain ⟨a, b', c, d, e', f, g', h', hst⟩ : ∃ a b c d e f g h, runT s W k = ⟨a, b, c, d, e, f, g, h⟩ := ⟨_, _, _, _, _, _, _, _, rfl⟩
              rw [hst] at c0 c1 c2 c3 c4 c5 c6 c7 hok
              obtain ⟨oa, ob, oc, od, oe, of, og, oh⟩ := hok
              simp only at c0 c1 c2 c3 c4 c5 c6 c7 oa ob oc od oe of og oh
              have HST := Lib.hid hst
              obtain ⟨y, hy⟩ : ∃ y, y = W.getD k 0 := ⟨_, rfl⟩
              obtain ⟨kk, hkk⟩ : ∃ kk, kk = ks.getD k 0 := ⟨_, rfl⟩
              rw [← hkk] at ck hkK
              rw [← hy] at cw hkW
              have x1 := u32_xor_nat (rotr e' 6) (rotr e' 11) (rotr_lt oe) (rotr_lt oe)
              have x2 : bits .xor .u32 ((rotr e' 6 ^^^ rotr e' 11 : Nat) : Int) (rotr e' 25 : Nat) = (Sg1 e' : Nat) := u32_xor_nat _ _ (xor_lt (rotr_lt oe) (rotr_lt oe)) (rotr_lt oe)
              have x3 := u32_xor_nat (rotr a 2) (rotr a 13) (rotr_lt oa) (rotr_lt oa)
              have x4 : bits .xor .u32 ((rotr a 2 ^^^ rotr a 13 : Nat) : Int) (rotr a 22 : Nat) = (Sg0 a : Nat) := u32_xor_nat _ _ (xor_lt (rotr_lt oa) (rotr_lt oa)) (rotr_lt oa)
              have x5 := chs_spell e' f g' oe of og
              have x6 := maj_spell a b' c oa ob oc
              have HN := Lib.hid (show runT s W (k + 1) = St.step ⟨a, b', c, d, e', f, g', h'⟩ kk y by rw [runT, hst, hy, hkk])
              clear hst hy hkk
              have hsg : IntKind.u32.signed = false := rfl
              go_wp2_with fail
              go_quiet ((go_at_call 39; exact Calls.quiet_of (rturn_int _ _ _ (by assumption) (by omega) (by omega))))
              have hR1 : Hid (TkAt w (wr.drewN nq) s W g k ∧ StAt (wr.drewN nq) (g + 1) ⟨a, b', c, d, e', f, g', h'⟩ [] 54) := Lib.hid ⟨hR.out.drewN nq, by have h := hR.out.cur; rw [HST.out] at h; exact h⟩
              clear hR c0 c1 c2 c3 c4 c5 c6 c7 ck cw
              generalize wr.drewN nq = wr1 at hR1 ⊢
              obtain ⟨c0, c1, c2, c3, c4, c5, c6, c7⟩ := hR1.out.2.cells
              simp only at c0 c1 c2 c3 c4 c5 c6 c7
              go_wp2
              go_quiet ((go_at_call 39; exact Calls.quiet_of (rturn_int _ _ _ (by assumption) (by omega) (by omega))))
              have hR2 : Hid (TkAt w (wr1.drewN nq) s W g k ∧ StAt (wr1.drewN nq) (g + 1) ⟨a, b', c, d, e', f, g', h'⟩ [] 54) := Lib.hid ⟨hR1.out.1.drewN nq, hR1.out.2⟩
              clear hR1 c0 c1 c2 c3 c4 c5 c6 c7
              generalize wr1.drewN nq = wr2 at hR2 ⊢
              obtain ⟨c0, c1, c2, c3, c4, c5, c6, c7⟩ := hR2.out.2.cells
              simp only at c0 c1 c2 c3 c4 c5 c6 c7
              have f0 := hR2.out.2.free
              go_wp2
              go_roundw
              case rel =>
                refine ⟨k + 1, by omega, by go_num, Lib.hid (hR2.out.1.next hsz2 (fr_store8 (S := fun i => i = g + 1) (Fr.refl _ _) rfl _ _ _ _ _ _ _ _) ?_)⟩
                rw [HN.out]
                refine StAt.store8 hR2.out.2 _ _ _ _ _ _ _ _ _ ?_ rfl rfl rfl ?_ rfl rfl rfl
                · simp only [St.step, St.p, St.q]; omega
                · simp only [St.step, St.p, St.q]; omega
              case measure => simp [intOf]; omega
            · have hk64 : k = 64 := by omega
              rw [hk64] at hR
              obtain ⟨k1, hk1⟩ : ∃ k1, k1 = k := ⟨_, rfl⟩
              rw [← hk1]
              rw [← hk1] at hlt64
              clear hk64 hk hk1
              have hok := HO.out.run W 64
              obtain ⟨t, ht⟩ : ∃ t, t = runT s W 64 := ⟨_, rfl⟩
              rw [← ht] at hok
              have HEQ' := Lib.hid (show comp s L = t.add s by rw [HEQ.out, ht, St.add_comm])
              have HM : Hid (Fr (fun _ => False) w wr ∧ StAt wr w.heap.size s [] 54 ∧ StAt wr (w.heap.size + 1) St.zero [] 54 ∧ MixAt wr (g + 1) t s 0 [] 54) := Lib.hid ⟨hR.out.fr, hR.out.box, hR.out.res, by
                have h := hR.out.cur
                rw [← ht] at h
                exact h⟩
              clear ht HEQ hR HW HLT
              go_wp2_with fail
              go_loopw [15] (fun iv wi => ∃ i : Nat, i ≤ 8 ∧ iv = .int .i64 i ∧ Hid (Fr (fun _ => False) w wi ∧ StAt wi w.heap.size s [] 54 ∧ StAt wi (w.heap.size + 1) St.zero [] 54 ∧ MixAt wi (g + 1) t s i [] 54)) (fun iv _ => 8 - (intOf iv).toNat)
              case atStart => exact ⟨0, by omega, rfl, HM⟩
              case round =>
                obtain ⟨i, hi, rfl, hR⟩ := hrel
                clear HM
                by_cases hi8 : i < 8
                · have ci := hR.out.2.2.2.cell hi8
                  have fi := frozen_of_row wr (g + 1) i _ _ hR.out.2.2.2
                  have cx := hR.out.2.1.word i hi8
                  have hx := list_lt hok i
                  have hy := list_lt HO.out i
                  have HX := Lib.hid (show ∀ x : Int, x = ((t.list.getD i 0 + s.list.getD i 0) % 4294967296 : Nat) → MixAt (wr.drew.setCell ⟨g + 1, i, none⟩ (.int .u32 x)) (g + 1) t s (i + 1) [] 54 from fun x hx => MixAt.set_ (w := wr.drew) hR.out.2.2.2 hi8 x hx)
                  obtain ⟨x, hxe⟩ : ∃ x, x = t.list.getD i 0 := ⟨_, rfl⟩
                  obtain ⟨y, hye⟩ : ∃ y, y = s.list.getD i 0 := ⟨_, rfl⟩
                  rw [← hxe] at ci hx HX
                  rw [← hye] at cx hy HX
                  clear hxe hye
                  go_wp2_with fail
                  go_still_tail 9, (by kernel_rfl)
                  go_wp2
                  go_roundw
                  case rel =>
                    have hf : ∀ v, Fr (fun j => j = g + 1) wr (wr.drew.setCell ⟨g + 1, i, none⟩ v) := fun v => (Fr.refl (fun j => j = g + 1) wr).drew.setCell (p := ⟨g + 1, i, none⟩) (.inl rfl) v
                    exact ⟨i + 1, by omega, by go_num, Lib.hid ⟨hR.out.1.trans (hf _) (fun j hj => .inr (by omega)), (hf _).heap hR.out.2.1 (by omega), (hf _).heap hR.out.2.2.1 (by omega), HX.out _ (by omega)⟩⟩
                  case measure => simp [intOf]; omega
                · have hi8 : i = 8 := by omega
                  rw [hi8] at hR
                  have hlt8 : ¬ i < 8 := by omega
                  obtain ⟨X, hX⟩ : ∃ X, X = (stc (comp s L)).toArray := ⟨_, rfl⟩
                  have hXs : X.size = 8 := by rw [hX]; rfl
                  have hX1 : X.all (·.oneCell') = true := by rw [hX]; simp [stc, uw, Value.oneCell']
                  have hg1 : wr.heap[g + 1]? = some (.cells X 54 (0, 0)) := by
                    rw [hX, HEQ'.out]
                    refine hR.out.2.2.2.trans ?_
                    rfl
                  obtain ⟨X0, hX0⟩ : ∃ X, X = (stc St.zero).toArray := ⟨_, rfl⟩
                  have hX0s : X0.size = 8 := by rw [hX0]; rfl
                  have hr1 : wr.heap[w.heap.size + 1]? = some (.cells X0 54 (0, 0)) := by
                    rw [hX0]
                    exact hR.out.2.2.1.trans (by simp)
                  have HF := Lib.hid hR.out.1
                  have HXE := Lib.hid hX
                  clear hR hX hX0 hi8 hi
                  go_wp2_with (first
                    | (with_reducible refine wpList_load_row rfl 54 (.tmp 11) rfl (g + 1) rfl 54 X (0, 0) _ hg1 Tryd.underlying54 rfl (by rw [hXs]; kernel_rfl) ?_)
                    | (with_reducible refine wpList_store_row rfl 54 (.tmp 4) (.tmp 183) rfl (w.heap.size + 1) X X0 54 rfl rfl hr1 (by rw [hXs]; kernel_rfl) (by rw [hX0s, hXs]) hX1 ?_))
                  refine bodyPost_ret (results_cell_row rfl _ _ (w.heap.size + 1) 54 X (0, 0) _ rfl (setRow_heap _ _ _ _ _ _ hr1) Tryd.underlying54 rfl (by rw [hXs]; kernel_rfl)) rfl ⟨by rw [HXE.out], HF.out.setRow (.inr (by omega)) _⟩
end Go.Proofs.YthjpgnmpcllolaaDoor
