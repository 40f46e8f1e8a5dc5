/- Contract: (*hash.words).turn. -/
import Derived.Test.YthjpgnmpcllolaaDoorSpread
import Derived.Deep.DeepCutAuto
namespace Go.Proofs.YthjpgnmpcllolaaDoor
open Go.RowKit Go.ChangeShapes
set_option linter.unusedVariables false

theorem run_index_word (w : World) (t : TypeId) (n : Nat) (W : List Nat) (k : Nat) (ht : Tryd.prog.underlying t = some (.array n 53)) (hn : W.length = n) (hk : k < n) :
    (Instr.index t (.agg (W.map uw).toArray) (.int .i64 (k : Int))).run Tryd.prog w = .ok (.int .u32 (W.getD k 0 : Nat)) w := by
  have hs : ∀ w, (sizeOf 53).run Tryd.prog w = .ok 1 w := fun w => by kernel_rfl
  have ha : ∀ w, (isAgg 53).run Tryd.prog w = .ok false w := fun w => by kernel_rfl
  have hk' : k < W.length := by omega
  have h0 : (0 : Int) ≤ k ∧ (k : Int) < (n : Int) := by omega
  have h1 : ¬ n ≤ k := by omega
  simp [Instr.index, run_underlying ht, asIntOf, h0, h1, hs, part, ha, hk', uw, List.getD_eq_getElem?_getD]

/-- The cells of the eight words. -/
def stc (s : St) : List Value := [uw s.a, uw s.b, uw s.c, uw s.d, uw s.e, uw s.f, uw s.g, uw s.h]
/-- At the head of block b stand eight words. -/
def StAt (w : World) (b : Nat) (s : St) (rest : List Value) (T : TypeId) : Prop := w.heap[b]? = some (.cells (stc s ++ rest).toArray T (0, 0))
theorem StAt.cells {w : World} {b : Nat} {s : St} {rest : List Value} {T : TypeId} (h : StAt w b s rest T) :
    w.cell? ⟨b, 0, none⟩ = some (.int .u32 s.a) ∧ w.cell? ⟨b, 1, none⟩ = some (.int .u32 s.b) ∧ w.cell? ⟨b, 2, none⟩ = some (.int .u32 s.c) ∧ w.cell? ⟨b, 3, none⟩ = some (.int .u32 s.d) ∧
    w.cell? ⟨b, 4, none⟩ = some (.int .u32 s.e) ∧ w.cell? ⟨b, 5, none⟩ = some (.int .u32 s.f) ∧ w.cell? ⟨b, 6, none⟩ = some (.int .u32 s.g) ∧ w.cell? ⟨b, 7, none⟩ = some (.int .u32 s.h) := by
  unfold StAt at h
  refine ⟨?_, ?_, ?_, ?_, ?_, ?_, ?_, ?_⟩ <;> (rw [cell_of_row _ _ _ _ _ _ h]; rfl)
theorem StAt.free {w : World} {b : Nat} {s : St} {rest : List Value} {T : TypeId} (h : StAt w b s rest T) (i : Nat) : w.frozen? ⟨b, i, none⟩ = false := frozen_of_row _ _ _ _ _ h

def St.list (s : St) : List Nat := [s.a, s.b, s.c, s.d, s.e, s.f, s.g, s.h]
theorem stc_list (s : St) : stc s = s.list.map uw := rfl
/-- The words, the first i of which have been added to. -/
def mixc (s t : St) (i : Nat) : List Value := (stc (s.add t)).take i ++ (stc s).drop i
theorem mixc_get (s t : St) (i : Nat) (hi : i < 8) : (mixc s t i)[i]? = some (.int .u32 (s.list.getD i 0 : Nat)) := by
  match i, hi with
  | 0, _ | 1, _ | 2, _ | 3, _ | 4, _ | 5, _ | 6, _ | 7, _ => rfl
theorem mixc_set (s t : St) (i : Nat) (hi : i < 8) : (mixc s t i).set i (.int .u32 ((s.list.getD i 0 + t.list.getD i 0) % 4294967296 : Nat)) = mixc s t (i + 1) := by
  match i, hi with
  | 0, _ | 1, _ | 2, _ | 3, _ | 4, _ | 5, _ | 6, _ | 7, _ => rfl
theorem mixc_length (s t : St) (i : Nat) (hi : i ≤ 8) : (mixc s t i).length = 8 := by
  simp [mixc, stc]
  omega
theorem list_lt {s : St} (h : s.Ok) (i : Nat) : s.list.getD i 0 < 4294967296 := by
  refine getD_lt (fun x hx => ?_) i
  simp only [St.list, List.mem_cons, List.not_mem_nil, or_false] at hx
  rcases hx with rfl | rfl | rfl | rfl | rfl | rfl | rfl | rfl
  · exact h.a
  · exact h.b
  · exact h.c
  · exact h.d
  · exact h.e
  · exact h.f
  · exact h.g
  · exact h.h
/-- At block b, amid the adding. -/
def MixAt (w : World) (b : Nat) (s t : St) (i : Nat) (rest : List Value) (T : TypeId) : Prop := w.heap[b]? = some (.cells (mixc s t i ++ rest).toArray T (0, 0))
theorem MixAt.cell {w : World} {b : Nat} {s t : St} {i : Nat} {rest : List Value} {T : TypeId} (h : MixAt w b s t i rest T) (hi : i < 8) : w.cell? ⟨b, i, none⟩ = some (.int .u32 (s.list.getD i 0 : Nat)) := by
  rw [cell_of_row _ _ _ _ _ _ h, List.getElem?_toArray, List.getElem?_append_left (by rw [mixc_length _ _ _ (by omega)]; exact hi), mixc_get s t i hi]
theorem MixAt.set_ {w : World} {b : Nat} {s t : St} {i : Nat} {rest : List Value} {T : TypeId} (h : MixAt w b s t i rest T) (hi : i < 8) (x : Int) (hx : x = ((s.list.getD i 0 + t.list.getD i 0) % 4294967296 : Nat)) :
    MixAt (w.setCell ⟨b, i, none⟩ (.int .u32 x)) b s t (i + 1) rest T := by
  subst hx
  refine (heap_setCell_at _ h).trans ?_
  rw [← mixc_set s t i hi, List.setIfInBounds_toArray, List.set_append_left _ _ (by rw [mixc_length _ _ _ (by omega)]; exact hi)]

theorem StAt.store8 {w : World} {b : Nat} {s : St} {rest : List Value} {T : TypeId} (h : StAt w b s rest T) (s' : St) (x0 x1 x2 x3 x4 x5 x6 x7 : Int)
    (h0 : x0 = s'.a) (h1 : x1 = s'.b) (h2 : x2 = s'.c) (h3 : x3 = s'.d) (h4 : x4 = s'.e) (h5 : x5 = s'.f) (h6 : x6 = s'.g) (h7 : x7 = s'.h) :
    StAt ((((((((w.setCell ⟨b, 0, none⟩ (.int .u32 x0)).setCell ⟨b, 1, none⟩ (.int .u32 x1)).setCell ⟨b, 2, none⟩ (.int .u32 x2)).setCell ⟨b, 3, none⟩ (.int .u32 x3)).setCell ⟨b, 4, none⟩ (.int .u32 x4)).setCell
      ⟨b, 5, none⟩ (.int .u32 x5)).setCell ⟨b, 6, none⟩ (.int .u32 x6)).setCell ⟨b, 7, none⟩ (.int .u32 x7)) b s' rest T := by
  subst h0 h1 h2 h3 h4 h5 h6 h7
  have k := heap_setCell_at (i := 7) (.int .u32 s'.h) (heap_setCell_at (i := 6) (.int .u32 s'.g) (heap_setCell_at (i := 5) (.int .u32 s'.f) (heap_setCell_at (i := 4) (.int .u32 s'.e)
    (heap_setCell_at (i := 3) (.int .u32 s'.d) (heap_setCell_at (i := 2) (.int .u32 s'.c) (heap_setCell_at (i := 1) (.int .u32 s'.b) (heap_setCell_at (i := 0) (.int .u32 s'.a) h)))))))
  refine k.trans ?_
  simp [stc, uw]
theorem fr_store8 {S : Nat → Prop} {w w' : World} {b : Nat} (h : Fr S w w') (hb : S b) (x0 x1 x2 x3 x4 x5 x6 x7 : Value) :
    Fr S w ((((((((w'.setCell ⟨b, 0, none⟩ x0).setCell ⟨b, 1, none⟩ x1).setCell ⟨b, 2, none⟩ x2).setCell ⟨b, 3, none⟩ x3).setCell ⟨b, 4, none⟩ x4).setCell ⟨b, 5, none⟩ x5).setCell ⟨b, 6, none⟩ x6).setCell ⟨b, 7, none⟩ x7) :=
  (((((((h.setCell (p := ⟨b, 0, none⟩) (.inl hb) _).setCell (p := ⟨b, 1, none⟩) (.inl hb) _).setCell (p := ⟨b, 2, none⟩) (.inl hb) _).setCell (p := ⟨b, 3, none⟩) (.inl hb) _).setCell (p := ⟨b, 4, none⟩) (.inl hb) _).setCell
    (p := ⟨b, 5, none⟩) (.inl hb) _).setCell (p := ⟨b, 6, none⟩) (.inl hb) _).setCell (p := ⟨b, 7, none⟩) (.inl hb) _

theorem xor_max (e : Nat) (he : e < 4294967296) : 4294967295 ^^^ e = 4294967295 - e := by
  have h := BitVec.toNat_not (x := BitVec.ofNat 32 e)
  rw [← BitVec.xor_allOnes, BitVec.toNat_xor, BitVec.toNat_allOnes, BitVec.toNat_ofNat, Nat.mod_eq_of_lt (by omega), Nat.xor_comm] at h
  exact h
theorem chs_spell (e f g : Nat) (he : e < 4294967296) (hf : f < 4294967296) (hg : g < 4294967296) :
    bits .or .u32 (bits .and .u32 (e : Int) f) (bits .and .u32 (bits .xor .u32 IntKind.u32.max e) g) = (chs e f g : Nat) := by
  have h1 : bits .xor .u32 IntKind.u32.max (e : Int) = ((4294967295 - e : Nat) : Int) := by
    have := u32_xor_nat 4294967295 e (by decide) he
    rw [xor_max e he] at this
    exact this
  rw [h1, u32_and_nat e f he hf, u32_and_nat _ g (by omega) hg, u32_or_nat _ _ (and_lt hf) (and_lt hg)]
  rfl
theorem maj_spell (a b c : Nat) (ha : a < 4294967296) (hb : b < 4294967296) (hc : c < 4294967296) :
    bits .or .u32 (bits .or .u32 (bits .and .u32 (a : Int) b) (bits .and .u32 (a : Int) c)) (bits .and .u32 (b : Int) c) = (maj a b c : Nat) := by
  rw [u32_and_nat a b ha hb, u32_and_nat a c ha hc, u32_and_nat b c hb hc, u32_or_nat _ _ (and_lt hb) (and_lt hc), u32_or_nat _ _ (or_lt (and_lt hb) (and_lt hc)) (and_lt hc)]
  rfl

/-- The package's two tables stand in their places. -/
structure Laid (w : World) : Prop where
  first : ∀ i v, (stc h0)[i]? = some v → w.cell? ⟨0, i, none⟩ = some v
  steps : ∀ i, i < 64 → w.cell? ⟨1, i, none⟩ = some (.int .u32 (ks.getD i 0 : Nat))
  lt : 2 ≤ w.heap.size
theorem Laid.keep {S : Nat → Prop} {w w' : World} (h : Laid w) (hf : Fr S w w') (hd : ∀ k, k < 2 → ¬ S k) : Laid w' :=
  ⟨fun i v hv => hf.cell (h.first i v hv) (hd 0 (by decide)), fun i hi => hf.cell (h.steps i hi) (hd 1 (by decide)), Nat.le_trans h.lt hf.size⟩

set_option maxRecDepth 100000 in
set_option maxHeartbeats 4000000 in
theorem turn_any {F : Nat → Prop} {b : Nat} {v : Value} {L : List UInt8} {s : St} {rest : List Value} {T : TypeId} (w : World) (hL : Laid w) (hs : StAt w b s rest T) (ok : s.Ok) (h : BytesIn F w v L) (hl : L.length = 64) :
    Calls Tryd.prog 37 #[.pointer (some ⟨b, 0, none⟩), v] w fun e w' => e = .returned (.tuple #[]) ∧ Fr (· = b) w w' ∧ StAt w' b (comp s L) rest T := by
  have hlt := lt_of_block hs
  have HV := Lib.hid (And.intro h hl)
  have HS := Lib.hid hs
  have HO := Lib.hid ok
  have HLD := Lib.hid hL
  clear hL
  obtain ⟨c0, c1, c2, c3, c4, c5, c6, c7⟩ := hs.cells
  clear h hl hs ok
  go_enter Tryd.func37, Tryd.ntmps37
  go_wp2_with fail
  refine (spread_any _ (HV.out.1.keep (S := fun _ => False) ((Fr.refl _ _).alloc _) (fun _ _ _ h => h)) HV.out.2).mono ?_
  rintro e w1 ⟨rfl, hf1⟩
  have hg1 := hf1.heap (heap_alloc_new w _) (fun h => h)
  have HF1 := Lib.hid (((Fr.refl (fun _ => False) w).alloc _).trans hf1 (fun i hi => hi.elim))
  have hsz : w.heap.size < w1.heap.size := by have := hf1.size; simp at this; omega
  have HW := Lib.hid (wl_length L 64)
  have HLT := Lib.hid (wl_lt L 64)
  have HEQ := Lib.hid (show comp s L = s.add (runT s (wl L 64) 64) from rfl)
  have HLD1 := Lib.hid (HLD.out.keep HF1.out (fun _ _ h => h))
  clear hf1 c0 c1 c2 c3 c4 c5 c6 c7
  generalize wl L 64 = W at *
  have HG1 := Lib.hid hg1
  clear hg1
  go_wp2_with fail
  go_loopw [22] (fun i wr => ∃ k : Nat, k ≤ 64 ∧ i = .int .i64 k ∧ Hid (Fr (· = w.heap.size) w1 wr ∧ StAt wr w.heap.size (runT s W k) [] 55)) (fun i _ => 64 - (intOf i).toNat)
  case atStart => exact ⟨0, by omega, rfl, Lib.hid ⟨Fr.refl _ _, HG1.out⟩⟩
  case round =>
    obtain ⟨k, hk, rfl, hR⟩ := hrel
    by_cases hlt64 : k < 64
    · obtain ⟨c0, c1, c2, c3, c4, c5, c6, c7⟩ := hR.out.2.cells
      have f0 := hR.out.2.free
      have hkW := getD_lt HLT.out k
      have hkK := getD_lt ks_lt k
      have hok := HO.out.run W k
      obtain ⟨a, b', c, d, e', f, g, h', hst⟩ : ∃ a b c d e f g h, runT s W k = ⟨a, b, c, d, e, f, g, h⟩ := ⟨_, _, _, _, _, _, _, _, rfl⟩
      have hix := fun w => run_index_word w 74 64 W k Tryd.underlying74 HW.out hlt64
      rw [hst] at c0 c1 c2 c3 c4 c5 c6 c7 hok
      obtain ⟨oa, ob, oc, od, oe, of, og, oh⟩ := hok
      simp only at c0 c1 c2 c3 c4 c5 c6 c7 oa ob oc od oe of og oh
      have HST := Lib.hid hst
      have ck := (HLD1.out.keep hR.out.1 (fun k hk e => by have := HLD.out.lt; omega)).steps k hlt64
      obtain ⟨y, hy⟩ : ∃ y, y = W.getD k 0 := ⟨_, rfl⟩
      obtain ⟨kk, hkk⟩ : ∃ kk, kk = ks.getD k 0 := ⟨_, rfl⟩
      rw [← hkk] at ck hkK
      simp only [← hy] at hix
      rw [← hy] at hkW
      have HY := Lib.hid hy
      have HKK := Lib.hid hkk
      clear hst hy hkk
      have x1 := u32_xor_nat (rotr e' 6) (rotr e' 11) (rotr_lt oe) (rotr_lt oe)
      have x2 : bits .xor .u32 ((rotr e' 6 ^^^ rotr e' 11 : Nat) : Int) (rotr e' 25 : Nat) = (Sg1 e' : Nat) := u32_xor_nat _ _ (xor_lt (rotr_lt oe) (rotr_lt oe)) (rotr_lt oe)
      have x3 := u32_xor_nat (rotr a 2) (rotr a 13) (rotr_lt oa) (rotr_lt oa)
      have x4 : bits .xor .u32 ((rotr a 2 ^^^ rotr a 13 : Nat) : Int) (rotr a 22 : Nat) = (Sg0 a : Nat) := u32_xor_nat _ _ (xor_lt (rotr_lt oa) (rotr_lt oa)) (rotr_lt oa)
      have x5 := chs_spell e' f g oe of og
      have x6 := maj_spell a b' c oa ob oc
      have HN := Lib.hid (show runT s W (k + 1) = St.step ⟨a, b', c, d, e', f, g, h'⟩ kk y by rw [runT, HST.out, HY.out, HKK.out])
      rw [HST.out] at hR
      have ck' := Lib.hid (show ∀ n, (wr.drewN n).cell? ⟨1, k, none⟩ = some (.int .u32 kk) from fun n => ck)
      go_wp2_with fail
      go_quiet (fail)
      have hR1 : Hid (Fr (· = w.heap.size) w1 (wr.drewN nq) ∧ StAt (wr.drewN nq) w.heap.size ⟨a, b', c, d, e', f, g, h'⟩ [] 55 ∧ (wr.drewN nq).cell? ⟨1, k, none⟩ = some (.int .u32 kk)) := Lib.hid ⟨hR.out.1.drewN nq, hR.out.2, ck⟩
      clear hR ck c0 c1 c2 c3 c4 c5 c6 c7 f0
      generalize wr.drewN nq = wr1 at hR1 ⊢
      obtain ⟨c0, c1, c2, c3, c4, c5, c6, c7⟩ := hR1.out.2.1.cells
      simp only at c0 c1 c2 c3 c4 c5 c6 c7
      go_wp2
      go_quiet (fail)
      have hR2 : Hid (Fr (· = w.heap.size) w1 (wr1.drewN nq) ∧ StAt (wr1.drewN nq) w.heap.size ⟨a, b', c, d, e', f, g, h'⟩ [] 55 ∧ (wr1.drewN nq).cell? ⟨1, k, none⟩ = some (.int .u32 kk)) := Lib.hid ⟨hR1.out.1.drewN nq, hR1.out.2⟩
      clear hR1 c0 c1 c2 c3 c4 c5 c6 c7
      generalize wr1.drewN nq = wr2 at hR2 ⊢
      obtain ⟨c0, c1, c2, c3, c4, c5, c6, c7⟩ := hR2.out.2.1.cells
      simp only at c0 c1 c2 c3 c4 c5 c6 c7
      have ck := hR2.out.2.2
      have f0 := hR2.out.2.1.free
      have hsg : IntKind.u32.signed = false := rfl
      go_wp2
      go_quiet ((go_at_call 45; exact Calls.quiet_of_same (turned_q _ _ _ (by assumption) (by omega) (by omega))))
      go_wp2_with (go_at_call 45; refine (turned_int _ _ _ (by assumption) (by omega) (by omega)).mono ?_; rintro e w' ⟨rfl, rfl⟩)
      go_roundw
      case rel =>
        refine ⟨k + 1, by omega, by go_num, Lib.hid ⟨fr_store8 (hR2.out.1.drewN nq) rfl _ _ _ _ _ _ _ _, ?_⟩⟩
        rw [HN.out]
        refine StAt.store8 (w := wr2.drewN nq) hR2.out.2.1 _ _ _ _ _ _ _ _ _ ?_ rfl rfl rfl ?_ rfl rfl rfl
        · simp only [St.step, St.p, St.q]; omega
        · simp only [St.step, St.p, St.q]; omega
      case measure => simp [intOf]; omega
    · obtain rfl : k = 64 := by omega
      have hok := HO.out.run W 64
      obtain ⟨t, ht⟩ : ∃ t, t = runT s W 64 := ⟨_, rfl⟩
      rw [← ht] at hR hok
      have HEQ' := Lib.hid (show comp s L = s.add t by rw [HEQ.out, ht])
      have HM : Hid (Fr (fun k => k = b) w wr ∧ MixAt wr b s t 0 rest T) := Lib.hid ⟨(HF1.out.mono (fun _ _ h => h.elim)).trans hR.out.1 (fun i hi => .inr (by omega)), (hR.out.1.heap (HF1.out.heap HS.out (fun h => h)) (by omega)).trans rfl⟩
      obtain ⟨c0, c1, c2, c3, c4, c5, c6, c7⟩ := hR.out.2.cells
      clear ht HEQ hR HG1 HW HLT HF1
      have hix : ∀ (i : Nat), i < 8 → ∀ w, (Instr.index 55 (.agg #[.int .u32 t.a, .int .u32 t.b, .int .u32 t.c, .int .u32 t.d, .int .u32 t.e, .int .u32 t.f, .int .u32 t.g, .int .u32 t.h]) (.int .i64 (i : Int))).run Tryd.prog w = .ok (.int .u32 (t.list.getD i 0 : Nat)) w :=
        fun i hi w => run_index_word w 55 8 t.list i Tryd.underlying55 rfl hi
      have HIX := Lib.hid hix
      clear hix
      go_wp2_with fail
      go_loopw [100] (fun iv wi => ∃ i : Nat, i ≤ 8 ∧ iv = .int .i64 i ∧ Hid (Fr (fun k => k = b) w wi ∧ MixAt wi b s t i rest T)) (fun iv _ => 8 - (intOf iv).toNat)
      case atStart => exact ⟨0, by omega, rfl, HM⟩
      case round =>
        obtain ⟨i, hi, rfl, hR⟩ := hrel
        clear HM c0 c1 c2 c3 c4 c5 c6 c7
        by_cases hi8 : i < 8
        · have ci := hR.out.2.cell hi8
          have fi := frozen_of_row wr b i _ _ hR.out.2
          have hx := list_lt HO.out i
          have hy := list_lt hok i
          have hix := HIX.out i hi8
          have HX := Lib.hid (show ∀ x : Int, x = ((s.list.getD i 0 + t.list.getD i 0) % 4294967296 : Nat) → MixAt (wr.setCell ⟨b, i, none⟩ (.int .u32 x)) b s t (i + 1) rest T from fun x hx => hR.out.2.set_ hi8 x hx)
          obtain ⟨x, hxe⟩ : ∃ x, x = s.list.getD i 0 := ⟨_, rfl⟩
          obtain ⟨y, hye⟩ : ∃ y, y = t.list.getD i 0 := ⟨_, rfl⟩
          rw [← hxe] at ci hx HX
          simp only [← hye] at hix
          rw [← hye] at hy HX
          clear hxe hye
          go_wp2_with fail
          go_region
          all_goals
            go_wp2
            go_roundw
            case rel =>
              exact ⟨i + 1, by omega, by go_num, Lib.hid ⟨(hR.out.1.setCell (p := ⟨b, i, none⟩) (.inl rfl) _).drew, HX.out _ (by omega)⟩⟩
            case measure => simp [intOf]; omega
        · obtain rfl : i = 8 := by omega
          have HE := hR
          clear hR
          go_wp2
          go_end0
          refine ⟨rfl, HE.out.1, ?_⟩
          rw [HEQ'.out]
          exact HE.out.2
end Go.Proofs.YthjpgnmpcllolaaDoor
