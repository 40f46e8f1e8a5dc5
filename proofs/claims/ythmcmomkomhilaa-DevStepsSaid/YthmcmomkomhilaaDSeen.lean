/- dev's own device: what is seen of a sector. -/
import Derived.Test.YthmcmomkomhilaaDSettle
namespace Go.Proofs.Ythmcmomkomhilaa
open Go.RowKit Go.ChangeShapes Go.Shelf
set_option linter.unusedVariables false
attribute [local go_sem] Oper.semAt_some

theorem lastL_append (f : Nat → Bool) (a : Nat) (B : List Pend) : ∀ (A : List Pend) (i : Nat) (x : List UInt8), lastL f a i (A ++ B) x = lastL f a (i + A.length) B (lastL f a i A x)
  | [], i, x => rfl
  | p :: A, i, x => by
    rw [List.cons_append, lastL, lastL, lastL_append f a B A (i + 1), List.length_cons, show i + 1 + A.length = i + (A.length + 1) by omega]
theorem lastL_notin (f : Nat → Bool) (a : Nat) : ∀ (A : List Pend) (i : Nat) (x : List UInt8), (∀ p ∈ A, p.1 ≠ a) → lastL f a i A x = x
  | [], i, x, _ => rfl
  | p :: A, i, x, h => by
    rw [lastL, if_neg (fun hh => h p (by simp) hh.2.symm)]
    exact lastL_notin f a A (i + 1) x (fun q hq => h q (by simp [hq]))
/-- The last one of them, met first from behind. -/
theorem lastL_found {s : Nat} (a : Nat) (xs ini : List (PendX s)) (x : PendX s) (y : List UInt8) (h : ini ++ [x] <+: xs.reverse) (hn : ∀ p ∈ ini, p.1.1 ≠ a) (hx : x.1.1 = a) : lastL (fun _ => true) a 0 (valsX xs) y = x.1.2 := by
  obtain ⟨rest, hr⟩ := h
  have e : xs = rest.reverse ++ ([x] ++ ini.reverse) := by
    have := congrArg List.reverse hr
    simp at this
    simp [← this]
  rw [e, valsX, List.map_append, List.map_append, lastL_append, lastL_append]
  rw [lastL_notin _ _ (ini.reverse.map _) _ _ (by
    intro p hp
    obtain ⟨q, hq, rfl⟩ := List.mem_map.1 hp
    exact hn q (by simpa using hq))]
  simp [lastL, hx]
theorem lastL_nowhere {s : Nat} (a : Nat) (xs : List (PendX s)) (y : List UInt8) (hn : ∀ p ∈ xs.reverse, p.1.1 ≠ a) : lastL (fun _ => true) a 0 (valsX xs) y = y :=
  lastL_notin _ _ _ _ _ (by
    intro p hp
    obtain ⟨q, hq, rfl⟩ := List.mem_map.1 hp
    exact hn q (by simpa using hq))
theorem sec_range {w : World} {kb : Nat} {T : TypeId} {L : List UInt8} (h : BytT w kb T L) (a : Nat) (s : Nat) (hl : L.length = 64 * s) (ha : a < s) : w.rangeAt kb (a * 64) ((secAt L a).map bv) := fun j v hv => by
  have hj : j < 64 := by
    have := (List.getElem?_eq_some_iff.1 hv).1
    rwa [List.length_map, secAt_length L s a hl ha] at this
  rw [cell_of_row _ _ _ _ _ _ h, List.getElem?_toArray, List.getElem?_map]
  rw [List.getElem?_map, secAt_get L a j hj] at hv
  rw [← hv, show a * 64 + j = 64 * a + j by omega]

/-- A whole array into a block of its own. -/
theorem wpListIn_store_row {F : Fence} {n : Nat} {P : Program} {ops : Array Oper} {Q : Exit → Act → World → Prop} {rest : List Oper} {o : Oper} {a : Act} {w : World} (hF : WideF F) (hgd : o.guard = none) (ty : TypeId) (x y : Operand) (ho : o.op = .store ty x y)
    (g : Nat) (cells cur : Array Value) (t : TypeId) (hx : a.eval x = .pointer (some ⟨g, 0, none⟩)) (hy : a.eval y = .agg cells)
    (hg : w.heap[g]? = some (.cells cur t (0, 0))) (hi : (P.info? ty).map (·.size) = some cells.size) (hs : cur.size = cells.size) (h1 : cells.all (·.oneCell') = true)
    (h : wpListIn F n P ops Q rest (a.put o.dst undef) (w.setRow g cells)) : wpListIn F n P ops Q (o :: rest) a w := by
  refine wpListIn_store_at hF hgd ty x y ho g 0 cells cur t hx hy hg hi (by omega) h1 ?_
  have e : (cur.toList.take 0 ++ cells.toList ++ cur.toList.drop (0 + cells.size)).toArray = cells := by
    rw [List.take_zero, List.nil_append, List.drop_eq_nil_of_le (by simp; omega), List.append_nil]
  rw [e]
  exact h

set_option maxRecDepth 100000 in
set_option maxHeartbeats 4000000 in
theorem dSeen_in {F : Nat → Prop} {s : Nat} (w : World) (g kb : Nat) (L : List UInt8) (xs : List (PendX s)) (vw : Value) (k l : Int) (dn : Bool) (a : Nat) (h : DvH w g kb s vw k l dn) (hL : BytT w kb 70 L) (hl : L.length = 64 * s)
    (hP : WrAt F w vw (valsX xs)) (ha : a < s) (hs : s ≤ 8192) (hn6 : xs.length ≤ 1000000) :
    CallsIn Fence.wide 3 Try.prog 46 #[.pointer (some ⟨g, 0, none⟩), .int .i64 a] w fun e w' => e = .returned (.agg ((lastL (fun _ => true) a 0 (valsX xs) (secAt L a)).map bv).toArray) ∧ Fr (fun _ => False) w w' := by
  refine callsIn_of_wp_marks Try.func46 rfl trivial ?_ rfl
  simp only [Try.ntmps46, List.size_toArray, List.length_cons, List.length_nil, Nat.reduceAdd, Nat.reduceSub, Array.replicate_succ, Array.replicate_zero, List.push_toArray, List.append_toArray, List.nil_append, List.cons_append]
  have hzv := zSec_zero
  have hch := WideF.out.calls (n := 2) (latest_any ((w.alloc (.cells #[.int .i64 a] 3)).alloc (.cells zSec 70)) g)
  gi_wp2_with (refine ⟨trivial, ?_⟩; gi_at_call 51; refine hch.mono ?_; rintro e w2 ⟨rfl, rfl⟩)
  clear hch
  obtain ⟨W0, hW0⟩ : ∃ W0, W0 = ((w.alloc (.cells #[.int .i64 a] 3)).alloc (.cells zSec 70)).alloc (.cells #[.pointer (some ⟨g, 0, none⟩)] 77) := ⟨_, rfl⟩
  have hsz : W0.heap.size = w.heap.size + 3 := by rw [hW0]; simp
  have hf0 : Fr (fun _ => False) w W0 := by rw [hW0]; exact (((Fr.refl _ _).alloc _).alloc _).alloc _
  have hg := h.lt
  have hkb := hL.lt
  have hba : W0.heap[w.heap.size]? = some (.cells #[.int .i64 a] 3 (0, 0)) := by
    rw [hW0]
    exact ((Fr.refl (fun _ => False) _).alloc _).heap (heap_alloc2_old w _ _) id
  have hbr : W0.heap[w.heap.size + 1]? = some (.cells zSec 70 (0, 0)) := by
    rw [hW0]
    exact ((Fr.refl (fun _ => False) _).alloc _).heap (heap_alloc2_new w _ _) id
  have hbp : W0.heap[w.heap.size + 1 + 1]? = some (.cells #[.pointer (some ⟨g, 0, none⟩)] 77 (0, 0)) := by
    rw [hW0]
    have := heap_alloc2_new (w.alloc (.cells #[.int .i64 a] 3)) (.cells zSec 70) (.cells #[.pointer (some ⟨g, 0, none⟩)] 77)
    simpa using this
  rw [← hW0]
  have h0 := h.keep hf0 id
  have hL0 : BytT W0 kb 70 L := hf0.heap hL id
  have hP0 : WrAt (fun b => F b ∧ b < w.heap.size) W0 vw (valsX xs) := (hP.mono (G := fun b => F b ∧ b < w.heap.size) (fun b hb hF => ⟨hF, hb⟩)).keep hf0 (fun _ _ _ h => h)
  obtain ⟨T, hT⟩ : ∃ T : Nat → Prop, T = fun b => b = w.heap.size + 1 ∨ W0.heap.size ≤ b := ⟨_, rfl⟩
  have hT0 : ∀ k, W0.heap.size ≤ k → T k := fun k hk => by rw [hT]; exact .inr hk
  have hTn : ∀ k, k ≠ w.heap.size + 1 → k < W0.heap.size → ¬ T k := fun k h1 h2 h3 => by rw [hT] at h3; rcases h3 with h3 | h3 <;> omega
  have hIt : ItR W0 (fun b => F b ∧ b < w.heap.size) (w.heap.size + 1 + 1) g vw (valsX xs) := ⟨cell_of_row _ _ _ _ _ _ hbp, h0.cells.2.2.2.1, hP0⟩
  refine wpIn_rangeFunc_ownH rfl (by decide) (gf := 54) (lb := #[.pointer (some ⟨w.heap.size + 1 + 1, 0, none⟩)]) rfl trivial (enters_of Try.func54 (by kernel_rfl) rfl)
    (latest_stops (T := T) 2 (w.heap.size + 1 + 1) g xs vw hn6 (hTn _ (by omega) (by omega)) (hTn _ (by omega) (by omega)) (fun k hk => hTn k (by have := hk.2; omega) (by have := hk.2; omega)) W0 hIt)
    (fun h k => h.trans k (fun _ hi => .inl hi)) (fun W l o o' hl _ _ _ => fr_putObj W l o' (hT0 l hl)) (Below.refl _ _) (fun _ => rfl)
    (fun pre W => (∀ p ∈ pre, p.1.1 ≠ a) ∧ (BytT W (w.heap.size + 1) 70 (List.replicate 64 0) ∧ Fr T W0 W))
    (fun c pre W => (c = .ret ∧ ∃ (ini : List (PendX s)) (x : PendX s), pre = ini ++ [x] ∧ (∀ p ∈ ini, p.1.1 ≠ a) ∧ x.1.1 = a ∧ BytT W (w.heap.size + 1) 70 x.1.2) ∧ Fr T W0 W)
    (OwnFrom.and (ownFrom_pure _ _) (OwnFrom.and (ownFrom_bytT (fun _ => List.replicate 64 0)) (ownFrom_fr hT0)))
    (fun c => OwnFrom.and (fun pre A B row hs hg hr => by
      obtain ⟨hc, ini, x, e1, e2, e3, e4⟩ := hs
      exact ⟨hc, ini, x, e1, e2, e3, ownFrom_bytT (β := Unit) (fun _ => x.1.2) () A B row e4 hg hr⟩) (ownFrom_fr hT0))
    ⟨(fun p hp => by cases hp), hbr, Fr.refl _ _⟩
    (fun x a' W => ∃ Bx, W0.heap.size ≤ Bx ∧ BytT W Bx 70 x.1.2 ∧ a' = { tmps := #[.pointer (some ⟨g, 0, none⟩), .int .i64 a, undef, .pointer (some ⟨w.heap.size, 0, none⟩), .pointer (some ⟨w.heap.size + 1, 0, none⟩), .int .i64 x.1.1, .pointer (some ⟨Bx, 0, none⟩), .pointer (some ⟨g, 0, none⟩), .pointer (some ⟨g, 0, none⟩), .pointer (some ⟨g, 0, none⟩), .func (.func 54) #[] #[.pointer (some ⟨w.heap.size + 1 + 1, 0, none⟩)], .int .i64 x.1.1, .agg (x.1.2.map bv).toArray, undef, undef, undef, undef, undef, undef, undef, undef, undef, undef, undef], defers := [] })
    (fun x a' s A B row hs hg hr => by
      obtain ⟨Bx, h1, h2, h3⟩ := hs
      exact ⟨Bx, h1, ownFrom_bytT (β := Unit) (fun _ => x.1.2) () A B row h2 hg hr, h3⟩)
    ?assign ?body ?done ?stop
  case assign =>
    rintro l pre x W K ⟨hi0, hi1, hi2⟩ hK
    have hxl := x.2.2
    have hz2 : (Try.prog.info? 70).map (·.size) = some (x.1.2.map bv).toArray.size := by rw [List.size_toArray, List.length_map, hxl]; kernel_rfl
    have hzs : zSec.size = (x.1.2.map bv).toArray.size := by rw [zSec_size, List.size_toArray, List.length_map, hxl]
    have hC1 : (x.1.2.map bv).toArray.all (·.oneCell') = true := all_oneCell_toArray (bv_one _)
    obtain ⟨C, hC⟩ : ∃ C, C = (x.1.2.map bv).toArray := ⟨_, rfl⟩
    rw [← hC] at hz2 hzs hC1
    simp only [encsX]
    rw [← hC]
    have HC := Lib.hid hC
    have HK := Lib.hid hK
    have HI := Lib.hid (And.intro hi0 (And.intro hi1 hi2))
    clear hC hi0 hi1
    have hsw : W0.heap.size ≤ W.heap.size := hi2.size
    clear hK hi2
    gi_wp2_with (with_reducible refine wpListIn_store_new (.round l) rfl 70 (.tmp 6) (.tmp 12) rfl C zSec 70 W rfl rfl rfl hz2 hzs hC1 ?_)
    rw [HC.out]
    refine HK.out _ _ (keepsFrom_fr (S := fun _ => False) ((Fr.refl _ _).alloc _) (fun _ h => h.elim)) ((Fr.refl _ _).alloc _) ⟨HI.out.1, ((Fr.refl (fun _ => False) _).alloc _).heap HI.out.2.1 id, HI.out.2.2.alloc _⟩ ⟨W.heap.size, hsw, heap_alloc_new W _, rfl⟩
  case body =>
    rintro l pre x a' W hll ⟨r, hr⟩ ⟨hi0, hi1, hi2⟩ ⟨Bx, hBx, hbx, rfl⟩ hlt
    have hxl := x.2.2
    have hsa : W.cell? ⟨w.heap.size, 0, none⟩ = some (.int .i64 a) := cell_of_row _ _ _ _ _ _ (hi2.heap hba (hTn _ (by omega) (by omega)))
    by_cases hxa : x.1.1 = a
    · have he : ((x.1.1 : Int) == (a : Int)) = true := by rw [beq_iff_eq]; omega
      obtain ⟨C, hC⟩ : ∃ C, C = (x.1.2.map bv).toArray := ⟨_, rfl⟩
      have hCs : C.size = 64 := by rw [hC, List.size_toArray, List.length_map, hxl]
      have hz3 : (Try.prog.info? 70).map (·.size) = some (x.1.2.map bv).length := by rw [List.length_map, hxl]; kernel_rfl
      have hz2 : (Try.prog.info? 70).map (·.size) = some C.size := by rw [hCs]; kernel_rfl
      have hC1 : C.all (·.oneCell') = true := by rw [hC]; exact all_oneCell_toArray (bv_one _)
      have hrg : W.rangeAt Bx 0 (x.1.2.map bv) := fun j v hv => by
        rw [Nat.zero_add, cell_of_row _ _ _ _ _ _ hbx]
        simpa using hv
      obtain ⟨Z, hZ⟩ : ∃ Z, Z = ((List.replicate 64 (0 : UInt8)).map bv).toArray := ⟨_, rfl⟩
      have hZs : Z.size = C.size := by rw [hZ, hCs]; rfl
      have hi1' : W.heap[w.heap.size + 1]? = some (.cells Z 70 (0, 0)) := by rw [hZ]; exact hi1
      have hW3 : BytT (W.setRow (w.heap.size + 1) C) (w.heap.size + 1) 70 x.1.2 := by rw [hC]; exact setRow_heap _ _ _ _ _ (0, 0) hi1
      have HC := Lib.hid hC
      have HI := Lib.hid (And.intro hi0 (And.intro hi1 (And.intro hi2 hW3)))
      clear hC hZ hi0 hi1 hi2 hW3
      simp only [← HC.out]
      gi_wp2_with (first
        | (with_reducible refine wpListIn_load_mid (.round l) rfl 70 (.tmp 6) rfl Bx 0 rfl (x.1.2.map bv) _ hrg Try.underlying70 rfl hz3 ?_; rw [← HC.out])
        | (with_reducible refine wpListIn_store_row (.round l) rfl 70 (.tmp 4) (.tmp 16) rfl (w.heap.size + 1) C Z 70 rfl rfl hi1' hz2 hZs hC1 ?_))
      have hf2 : Fr (· = w.heap.size + 1) W (W.setRow (w.heap.size + 1) C) := (Fr.refl (· = w.heap.size + 1) W).setRow (.inl rfl) _
      exact ⟨keepsFrom_fr hf2 (fun k e => by omega), ⟨rfl, pre, x, rfl, HI.out.1, hxa, HI.out.2.2.2⟩, HI.out.2.2.1.trans hf2 (fun k e => .inl (by rw [hT]; exact .inl e))⟩
    · have he : ((x.1.1 : Int) == (a : Int)) = false := by rw [beq_eq_false_iff_ne]; omega
      have HI := Lib.hid (And.intro hi0 (And.intro hi1 hi2))
      clear hi0 hi1 hi2
      gi_wp2
      refine ⟨KeepsFrom.refl _ _, Fr.refl _ _, fun p hp => ?_, HI.out.2⟩
      rcases List.mem_append.1 hp with hp | hp
      · exact HI.out.1 p hp
      · obtain rfl := List.mem_singleton.1 hp
        exact hxa
  case done =>
    rintro D ys W hD rfl ⟨hi0, hi1, hi2⟩ hK
    have hsa : W.cell? ⟨w.heap.size, 0, none⟩ = some (.int .i64 a) := cell_of_row _ _ _ _ _ _ (hi2.heap hba (hTn _ (by omega) (by omega)))
    have hsk : W.cell? ⟨g, 4, none⟩ = some (.slice (some ⟨kb, 0, none⟩) s s) := (h0.keep hi2 (hTn _ (by omega) (by omega))).cells.2.2.2.2.1
    have hLW : BytT W kb 70 L := hi2.heap hL0 (hTn _ (by omega) (by omega))
    have hbl := secAt_length L s a hl ha
    have hld := load_sec W.drew kb (a * 64) (secAt L a) hbl (sec_range hLW a s hl ha)
    have has : (a : Int) < (s : Int) := by omega
    have ha0 : (0 : Int) ≤ (a : Int) := by omega
    have hres := lastL_nowhere a xs (secAt L a) hi0
    obtain ⟨C, hC⟩ : ∃ C, C = ((secAt L a).map bv).toArray := ⟨_, rfl⟩
    have hCs : C.size = 64 := by rw [hC, List.size_toArray, List.length_map, hbl]
    have hz2 : (Try.prog.info? 70).map (·.size) = some C.size := by rw [hCs]; kernel_rfl
    have hC1 : C.all (·.oneCell') = true := by rw [hC]; exact all_oneCell_toArray (bv_one _)
    obtain ⟨Z, hZ⟩ : ∃ Z, Z = ((List.replicate 64 (0 : UInt8)).map bv).toArray := ⟨_, rfl⟩
    have hZs : Z.size = C.size := by rw [hZ, hCs]; rfl
    have hi1' : W.drew.heap[w.heap.size + 1]? = some (.cells Z 70 (0, 0)) := by rw [hZ]; exact hi1
    rw [← hC] at hld
    have HE := Lib.hid (show C = ((lastL (fun _ => true) a 0 (valsX xs) (secAt L a)).map bv).toArray by rw [hres, hC])
    have HI := Lib.hid (And.intro hi1 hi2)
    clear hC hZ hi0 hi1 hres hLW
    clear hi2
    gi_wp2
    refine wpIn_still_tail 7 .out (by kernel_rfl) (by kernel_rfl) (by kernel_rfl) ?_
    simp only [List.take_succ_cons, List.take_zero, List.drop_succ_cons, List.drop_zero]
    iterate 6 still_step
    refine still_value rfl _ (op_load_ rfl rfl hld) ?_
    refine wpStill_nil ?_
    go_simp
    refine wpListIn_store_row .out rfl 70 (.tmp 4) (.tmp 23) rfl (w.heap.size + 1) C Z 70 rfl rfl hi1' hz2 hZs hC1 ?_
    have hf2 : Fr (· = w.heap.size + 1) W (W.drew.setRow (w.heap.size + 1) C) := Fr.ofDrew ((Fr.refl (· = w.heap.size + 1) W.drew).setRow (.inl rfl) _)
    have hh2 : (W.drew.setRow (w.heap.size + 1) C).heap[w.heap.size + 1]? = some (.cells C 70 (0, 0)) := setRow_heap _ _ _ _ _ (0, 0) hi1'
    obtain ⟨W2, hW2⟩ : ∃ W2, W2 = W.drew.setRow (w.heap.size + 1) C := ⟨_, rfl⟩
    rw [← hW2] at hf2 hh2 ⊢
    clear hW2
    gi_wp2
    have hK' := hf2.heap hK (by omega)
    refine ⟨by simp, .inl ⟨_, _, rfl, run_takeDeferred hK', ?_⟩⟩
    have hfd := fr_putObj (T := (· = D)) W2 D (.deferred none) rfl
    refine ⟨_, results_cell_row rfl _ _ (w.heap.size + 1) 70 C (0, 0) _ rfl (hfd.heap hh2 (fun e => by omega)) Try.underlying70 rfl hz2, by rw [HE.out], ?_⟩
    exact hf0.trans ((HI.out.2.trans hf2 (fun k e => .inl (by rw [hT]; exact .inl e))).trans hfd (fun k e => .inl (by rw [hT]; exact .inr (by omega)))) (fun k e => by rw [hT] at e; exact .inr (by omega))
  case stop =>
    rintro D c pre W hD hpre ⟨⟨rfl, ini, x, e1, e2, e3, e4⟩, hi2⟩ hK
    rw [e1] at hpre
    have hres := lastL_found a xs ini x (secAt L a) hpre e2 e3
    have HE := Lib.hid hres
    clear hres
    have hxl := x.2.2
    have hz2 : (Try.prog.info? 70).map (·.size) = some (x.1.2.map bv).toArray.size := by rw [List.size_toArray, List.length_map, hxl]; kernel_rfl
    gi_wp2
    refine ⟨by simp, .inl ⟨_, _, rfl, run_takeDeferred hK, ?_⟩⟩
    have hfd := fr_putObj (T := (· = D)) W D (.deferred none) rfl
    refine ⟨_, results_cell_row rfl _ _ (w.heap.size + 1) 70 (x.1.2.map bv).toArray (0, 0) _ rfl (hfd.heap e4 (fun e => by omega)) Try.underlying70 rfl hz2, by rw [HE.out], ?_⟩
    exact hf0.trans (hi2.trans hfd (fun k e => .inl (by rw [hT]; exact .inr (by omega)))) (fun k e => by rw [hT] at e; exact .inr (by omega))
end Go.Proofs.Ythmcmomkomhilaa
