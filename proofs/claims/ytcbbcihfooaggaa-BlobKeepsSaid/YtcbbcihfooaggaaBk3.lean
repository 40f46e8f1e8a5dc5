/- Laid together: DSeen Ops Det -/
import Derived.Test.YtcbbcihfooaggaaBk2
import Derived.Test.YtcbbcihfooaggaaBk1
import Derived.Test.YtcbbcihfooaggaaBk0
import Derived.Stop.BytesEq

namespace Go.Proofs.Ytcbbcihfooaggaa
open Go.RowKit Go.ChangeShapes Go.Shelf
set_option linter.unusedVariables false
attribute [local go_sem] Oper.semAt_some
theorem lastL_append (f : Nat → Bool) (a : Nat) (B : List Pend) : ∀ (A : List Pend) (i : Nat) (x : List UInt8), lastL f a i (A ++ B) x = lastL f a (i + A.length) B (lastL f a i A x)
  | [], i, x => rfl
  | p :: A, i, x => by
    rw [List.cons_append, lastL, lastL, lastL_append f a B A (i + 1), List.length_cons, show i + 1 + A.length = i + (A.length + 1) by omega]
theorem lastL_notin (f : Nat → Bool) (a : Nat) : ∀ (A : List Pend) (i : Nat) (x : List UInt8), (∀ p ∈ A, p.1 ≠ a) → lastL f a i A x = x
  | [], i, x, _ => rfl
  | p :: A, i, x, h => by
    rw [lastL, if_neg (fun hh => h p (by simp) hh.2.symm)]
    exact lastL_notin f a A (i + 1) x (fun q hq => h q (by simp [hq]))
theorem lastL_found {s : Nat} (a : Nat) (xs ini : List (PendX s)) (x : PendX s) (y : List UInt8) (h : ini ++ [x] <+: xs.reverse) (hn : ∀ p ∈ ini, p.1.1 ≠ a) (hx : x.1.1 = a) : lastL (fun _ => true) a 0 (valsX xs) y = x.1.2 := by
  obtain ⟨rest, hr⟩ := h
  have e : xs = rest.reverse ++ ([x] ++ ini.reverse) := by
    have := congrArg List.reverse hr
    simp at this
    simp [← this]
  rw [e, valsX, List.map_append, List.map_append, lastL_append, lastL_append]
  rw [lastL_notin _ _ (ini.reverse.map _) _ _ (by
    intro p hp
    obtain ⟨q, hq, rfl⟩ := List.mem_map.1 hp
    exact hn q (by simpa using hq))]
  simp [lastL, hx]
theorem lastL_nowhere {s : Nat} (a : Nat) (xs : List (PendX s)) (y : List UInt8) (hn : ∀ p ∈ xs.reverse, p.1.1 ≠ a) : lastL (fun _ => true) a 0 (valsX xs) y = y :=
  lastL_notin _ _ _ _ _ (by
    intro p hp
    obtain ⟨q, hq, rfl⟩ := List.mem_map.1 hp
    exact hn q (by simpa using hq))
theorem sec_range {w : World} {kb : Nat} {T : TypeId} {L : List UInt8} (h : BytT w kb T L) (a : Nat) (s : Nat) (hl : L.length = 64 * s) (ha : a < s) : w.rangeAt kb (a * 64) ((secAt L a).map bv) := fun j v hv => by
  have hj : j < 64 := by
    have := (List.getElem?_eq_some_iff.1 hv).1
    rwa [List.length_map, secAt_length L s a hl ha] at this
  rw [cell_of_row _ _ _ _ _ _ h, List.getElem?_toArray, List.getElem?_map]
  rw [List.getElem?_map, secAt_get L a j hj] at hv
  rw [← hv, show a * 64 + j = 64 * a + j by omega]
theorem wpListIn_store_row {F : Fence} {n : Nat} {P : Program} {ops : Array Oper} {Q : Exit → Act → World → Prop} {rest : List Oper} {o : Oper} {a : Act} {w : World} (hF : WideF F) (hgd : o.guard = none) (ty : TypeId) (x y : Operand) (ho : o.op = .store ty x y)
    (g : Nat) (cells cur : Array Value) (t : TypeId) (hx : a.eval x = .pointer (some ⟨g, 0, none⟩)) (hy : a.eval y = .agg cells)
    (hg : w.heap[g]? = some (.cells cur t (0, 0))) (hi : (P.info? ty).map (·.size) = some cells.size) (hs : cur.size = cells.size) (h1 : cells.all (·.oneCell') = true)
    (h : wpListIn F n P ops Q rest (a.put o.dst undef) (w.setRow g cells)) : wpListIn F n P ops Q (o :: rest) a w := by
  refine wpListIn_store_at hF hgd ty x y ho g 0 cells cur t hx hy hg hi (by omega) h1 ?_
  have e : (cur.toList.take 0 ++ cells.toList ++ cur.toList.drop (0 + cells.size)).toArray = cells := by
    rw [List.take_zero, List.nil_append, List.drop_eq_nil_of_le (by simp; omega), List.append_nil]
  rw [e]
  exact h
set_option maxRecDepth 100000 in
set_option maxHeartbeats 4000000 in
theorem dSeen_in {F : Nat → Prop} {s : Nat} (w : World) (g kb : Nat) (L : List UInt8) (xs : List (PendX s)) (vw : Value) (k l : Int) (dn : Bool) (a : Nat) (h : DvH w g kb s vw k l dn) (hL : BytT w kb 104 L) (hl : L.length = 64 * s)
    (hP : WrAt F w vw (valsX xs)) (ha : a < s) (hs : s ≤ 8192) (hn6 : xs.length ≤ 1000000) :
    CallsIn Fence.wide 3 Try.prog 79 #[.pointer (some ⟨g, 0, none⟩), .int .i64 a] w fun e w' => e = .returned (.agg ((lastL (fun _ => true) a 0 (valsX xs) (secAt L a)).map bv).toArray) ∧ Fr (fun _ => False) w w' := by
  refine callsIn_of_wp_marks Try.func79 rfl trivial ?_ rfl
  simp only [Try.ntmps79, List.size_toArray, List.length_cons, List.length_nil, Nat.reduceAdd, Nat.reduceSub, Array.replicate_succ, Array.replicate_zero, List.push_toArray, List.append_toArray, List.nil_append, List.cons_append]
  have hzv := zSec_zero
  have hch := WideF.out.calls (n := 2) (latest_any ((w.alloc (.cells #[.int .i64 a] 3)).alloc (.cells zSec 104)) g)
  gi_wp2_with (refine ⟨trivial, ?_⟩; gi_at_call 82; refine hch.mono ?_; rintro e w2 ⟨rfl, rfl⟩)
  clear hch
  obtain ⟨W0, hW0⟩ : ∃ W0, W0 = ((w.alloc (.cells #[.int .i64 a] 3)).alloc (.cells zSec 104)).alloc (.cells #[.pointer (some ⟨g, 0, none⟩)] 121) := ⟨_, rfl⟩
  have hsz : W0.heap.size = w.heap.size + 3 := by rw [hW0]; simp
  have hf0 : Fr (fun _ => False) w W0 := by rw [hW0]; exact (((Fr.refl _ _).alloc _).alloc _).alloc _
  have hg := h.lt
  have hkb := hL.lt
  have hba : W0.heap[w.heap.size]? = some (.cells #[.int .i64 a] 3 (0, 0)) := by
    rw [hW0]
    exact ((Fr.refl (fun _ => False) _).alloc _).heap (heap_alloc2_old w _ _) id
  have hbr : W0.heap[w.heap.size + 1]? = some (.cells zSec 104 (0, 0)) := by
    rw [hW0]
    exact ((Fr.refl (fun _ => False) _).alloc _).heap (heap_alloc2_new w _ _) id
  have hbp : W0.heap[w.heap.size + 1 + 1]? = some (.cells #[.pointer (some ⟨g, 0, none⟩)] 121 (0, 0)) := by
    rw [hW0]
    have := heap_alloc2_new (w.alloc (.cells #[.int .i64 a] 3)) (.cells zSec 104) (.cells #[.pointer (some ⟨g, 0, none⟩)] 121)
    simpa using this
  rw [← hW0]
  have h0 := h.keep hf0 id
  have hL0 : BytT W0 kb 104 L := hf0.heap hL id
  have hP0 : WrAt (fun b => F b ∧ b < w.heap.size) W0 vw (valsX xs) := (hP.mono (G := fun b => F b ∧ b < w.heap.size) (fun b hb hF => ⟨hF, hb⟩)).keep hf0 (fun _ _ _ h => h)
  obtain ⟨T, hT⟩ : ∃ T : Nat → Prop, T = fun b => b = w.heap.size + 1 ∨ W0.heap.size ≤ b := ⟨_, rfl⟩
  have hT0 : ∀ k, W0.heap.size ≤ k → T k := fun k hk => by rw [hT]; exact .inr hk
  have hTn : ∀ k, k ≠ w.heap.size + 1 → k < W0.heap.size → ¬ T k := fun k h1 h2 h3 => by rw [hT] at h3; rcases h3 with h3 | h3 <;> omega
  have hIt : ItR W0 (fun b => F b ∧ b < w.heap.size) (w.heap.size + 1 + 1) g vw (valsX xs) := ⟨cell_of_row _ _ _ _ _ _ hbp, h0.cells.2.2.2.1, hP0⟩
  refine wpIn_rangeFunc_ownH rfl (by decide) (gf := 84) (lb := #[.pointer (some ⟨w.heap.size + 1 + 1, 0, none⟩)]) rfl trivial (enters_of Try.func84 (by kernel_rfl) rfl)
    (latest_stops (T := T) 2 (w.heap.size + 1 + 1) g xs vw hn6 (hTn _ (by omega) (by omega)) (hTn _ (by omega) (by omega)) (fun k hk => hTn k (by have := hk.2; omega) (by have := hk.2; omega)) W0 hIt)
    (fun h k => h.trans k (fun _ hi => .inl hi)) (fun W l o o' hl _ _ _ => fr_putObj W l o' (hT0 l hl)) (Below.refl _ _) (fun _ => rfl)
    (fun pre W => (∀ p ∈ pre, p.1.1 ≠ a) ∧ (BytT W (w.heap.size + 1) 104 (List.replicate 64 0) ∧ Fr T W0 W))
    (fun c pre W => (c = .ret ∧ ∃ (ini : List (PendX s)) (x : PendX s), pre = ini ++ [x] ∧ (∀ p ∈ ini, p.1.1 ≠ a) ∧ x.1.1 = a ∧ BytT W (w.heap.size + 1) 104 x.1.2) ∧ Fr T W0 W)
    (OwnFrom.and (ownFrom_pure _ _) (OwnFrom.and (ownFrom_bytT (fun _ => List.replicate 64 0)) (ownFrom_fr hT0)))
    (fun c => OwnFrom.and (fun pre A B row hs hg hr => by
      obtain ⟨hc, ini, x, e1, e2, e3, e4⟩ := hs
      exact ⟨hc, ini, x, e1, e2, e3, ownFrom_bytT (β := Unit) (fun _ => x.1.2) () A B row e4 hg hr⟩) (ownFrom_fr hT0))
    ⟨(fun p hp => by cases hp), hbr, Fr.refl _ _⟩
    (fun x a' W => ∃ Bx, W0.heap.size ≤ Bx ∧ BytT W Bx 104 x.1.2 ∧ a' = { tmps := #[.pointer (some ⟨g, 0, none⟩), .int .i64 a, undef, .pointer (some ⟨w.heap.size, 0, none⟩), .pointer (some ⟨w.heap.size + 1, 0, none⟩), .int .i64 x.1.1, .pointer (some ⟨Bx, 0, none⟩), .pointer (some ⟨g, 0, none⟩), .pointer (some ⟨g, 0, none⟩), .pointer (some ⟨g, 0, none⟩), .func (.func 84) #[] #[.pointer (some ⟨w.heap.size + 1 + 1, 0, none⟩)], .int .i64 x.1.1, .agg (x.1.2.map bv).toArray, undef, undef, undef, undef, undef, undef, undef, undef, undef, undef, undef], defers := [] })
    (fun x a' s A B row hs hg hr => by
      obtain ⟨Bx, h1, h2, h3⟩ := hs
      exact ⟨Bx, h1, ownFrom_bytT (β := Unit) (fun _ => x.1.2) () A B row h2 hg hr, h3⟩)
    ?assign ?body ?done ?stop
  case assign =>
    rintro l pre x W K ⟨hi0, hi1, hi2⟩ hK
    have hxl := x.2.2
    have hz2 : (Try.prog.info? 104).map (·.size) = some (x.1.2.map bv).toArray.size := by rw [List.size_toArray, List.length_map, hxl]; kernel_rfl
    have hzs : zSec.size = (x.1.2.map bv).toArray.size := by rw [zSec_size, List.size_toArray, List.length_map, hxl]
    have hC1 : (x.1.2.map bv).toArray.all (·.oneCell') = true := all_oneCell_toArray (bv_one _)
    obtain ⟨C, hC⟩ : ∃ C, C = (x.1.2.map bv).toArray := ⟨_, rfl⟩
    rw [← hC] at hz2 hzs hC1
    simp only [encsX]
    rw [← hC]
    have HC := Lib.hid hC
    have HK := Lib.hid hK
    have HI := Lib.hid (And.intro hi0 (And.intro hi1 hi2))
    clear hC hi0 hi1
    have hsw : W0.heap.size ≤ W.heap.size := hi2.size
    clear hK hi2
    gi_wp2_with (with_reducible refine wpListIn_store_new (.round l) rfl 104 (.tmp 6) (.tmp 12) rfl C zSec 104 W rfl rfl rfl hz2 hzs hC1 ?_)
    rw [HC.out]
    refine HK.out _ _ (keepsFrom_fr (S := fun _ => False) ((Fr.refl _ _).alloc _) (fun _ h => h.elim)) ((Fr.refl _ _).alloc _) ⟨HI.out.1, ((Fr.refl (fun _ => False) _).alloc _).heap HI.out.2.1 id, HI.out.2.2.alloc _⟩ ⟨W.heap.size, hsw, heap_alloc_new W _, rfl⟩
  case body =>
    rintro l pre x a' W hll ⟨r, hr⟩ ⟨hi0, hi1, hi2⟩ ⟨Bx, hBx, hbx, rfl⟩ hlt
    have hxl := x.2.2
    have hsa : W.cell? ⟨w.heap.size, 0, none⟩ = some (.int .i64 a) := cell_of_row _ _ _ _ _ _ (hi2.heap hba (hTn _ (by omega) (by omega)))
    by_cases hxa : x.1.1 = a
    · have he : ((x.1.1 : Int) == (a : Int)) = true := by rw [beq_iff_eq]; omega
      obtain ⟨C, hC⟩ : ∃ C, C = (x.1.2.map bv).toArray := ⟨_, rfl⟩
      have hCs : C.size = 64 := by rw [hC, List.size_toArray, List.length_map, hxl]
      have hz3 : (Try.prog.info? 104).map (·.size) = some (x.1.2.map bv).length := by rw [List.length_map, hxl]; kernel_rfl
      have hz2 : (Try.prog.info? 104).map (·.size) = some C.size := by rw [hCs]; kernel_rfl
      have hC1 : C.all (·.oneCell') = true := by rw [hC]; exact all_oneCell_toArray (bv_one _)
      have hrg : W.rangeAt Bx 0 (x.1.2.map bv) := fun j v hv => by
        rw [Nat.zero_add, cell_of_row _ _ _ _ _ _ hbx]
        simpa using hv
      obtain ⟨Z, hZ⟩ : ∃ Z, Z = ((List.replicate 64 (0 : UInt8)).map bv).toArray := ⟨_, rfl⟩
      have hZs : Z.size = C.size := by rw [hZ, hCs]; rfl
      have hi1' : W.heap[w.heap.size + 1]? = some (.cells Z 104 (0, 0)) := by rw [hZ]; exact hi1
      have hW3 : BytT (W.setRow (w.heap.size + 1) C) (w.heap.size + 1) 104 x.1.2 := by rw [hC]; exact setRow_heap _ _ _ _ _ (0, 0) hi1
      have HC := Lib.hid hC
      have HI := Lib.hid (And.intro hi0 (And.intro hi1 (And.intro hi2 hW3)))
      clear hC hZ hi0 hi1 hi2 hW3
      simp only [← HC.out]
      gi_wp2_with (first
        | (with_reducible refine wpListIn_load_mid (.round l) rfl 104 (.tmp 6) rfl Bx 0 rfl (x.1.2.map bv) _ hrg Try.underlying104 rfl hz3 ?_; rw [← HC.out])
        | (with_reducible refine wpListIn_store_row (.round l) rfl 104 (.tmp 4) (.tmp 16) rfl (w.heap.size + 1) C Z 104 rfl rfl hi1' hz2 hZs hC1 ?_))
      have hf2 : Fr (· = w.heap.size + 1) W (W.setRow (w.heap.size + 1) C) := (Fr.refl (· = w.heap.size + 1) W).setRow (.inl rfl) _
      exact ⟨keepsFrom_fr hf2 (fun k e => by omega), ⟨rfl, pre, x, rfl, HI.out.1, hxa, HI.out.2.2.2⟩, HI.out.2.2.1.trans hf2 (fun k e => .inl (by rw [hT]; exact .inl e))⟩
    · have he : ((x.1.1 : Int) == (a : Int)) = false := by rw [beq_eq_false_iff_ne]; omega
      have HI := Lib.hid (And.intro hi0 (And.intro hi1 hi2))
      clear hi0 hi1 hi2
      gi_wp2
      refine ⟨KeepsFrom.refl _ _, Fr.refl _ _, fun p hp => ?_, HI.out.2⟩
      rcases List.mem_append.1 hp with hp | hp
      · exact HI.out.1 p hp
      · obtain rfl := List.mem_singleton.1 hp
        exact hxa
  case done =>
    rintro D ys W hD rfl ⟨hi0, hi1, hi2⟩ hK
    have hsa : W.cell? ⟨w.heap.size, 0, none⟩ = some (.int .i64 a) := cell_of_row _ _ _ _ _ _ (hi2.heap hba (hTn _ (by omega) (by omega)))
    have hsk : W.cell? ⟨g, 4, none⟩ = some (.slice (some ⟨kb, 0, none⟩) s s) := (h0.keep hi2 (hTn _ (by omega) (by omega))).cells.2.2.2.2.1
    have hLW : BytT W kb 104 L := hi2.heap hL0 (hTn _ (by omega) (by omega))
    have hbl := secAt_length L s a hl ha
    have hld := load_sec W.drew kb (a * 64) (secAt L a) hbl (sec_range hLW a s hl ha)
    have has : (a : Int) < (s : Int) := by omega
    have ha0 : (0 : Int) ≤ (a : Int) := by omega
    have hres := lastL_nowhere a xs (secAt L a) hi0
    obtain ⟨C, hC⟩ : ∃ C, C = ((secAt L a).map bv).toArray := ⟨_, rfl⟩
    have hCs : C.size = 64 := by rw [hC, List.size_toArray, List.length_map, hbl]
    have hz2 : (Try.prog.info? 104).map (·.size) = some C.size := by rw [hCs]; kernel_rfl
    have hC1 : C.all (·.oneCell') = true := by rw [hC]; exact all_oneCell_toArray (bv_one _)
    obtain ⟨Z, hZ⟩ : ∃ Z, Z = ((List.replicate 64 (0 : UInt8)).map bv).toArray := ⟨_, rfl⟩
    have hZs : Z.size = C.size := by rw [hZ, hCs]; rfl
    have hi1' : W.drew.heap[w.heap.size + 1]? = some (.cells Z 104 (0, 0)) := by rw [hZ]; exact hi1
    rw [← hC] at hld
    have HE := Lib.hid (show C = ((lastL (fun _ => true) a 0 (valsX xs) (secAt L a)).map bv).toArray by rw [hres, hC])
    have HI := Lib.hid (And.intro hi1 hi2)
    clear hC hZ hi0 hi1 hres hLW
    clear hi2
    gi_wp2
    refine wpIn_still_tail 7 .out (by kernel_rfl) (by kernel_rfl) (by kernel_rfl) ?_
    simp only [List.take_succ_cons, List.take_zero, List.drop_succ_cons, List.drop_zero]
    iterate 6 still_step
    refine still_value rfl _ (op_load_ rfl rfl hld) ?_
    refine wpStill_nil ?_
    go_simp
    refine wpListIn_store_row .out rfl 104 (.tmp 4) (.tmp 23) rfl (w.heap.size + 1) C Z 104 rfl rfl hi1' hz2 hZs hC1 ?_
    have hf2 : Fr (· = w.heap.size + 1) W (W.drew.setRow (w.heap.size + 1) C) := Fr.ofDrew ((Fr.refl (· = w.heap.size + 1) W.drew).setRow (.inl rfl) _)
    have hh2 : (W.drew.setRow (w.heap.size + 1) C).heap[w.heap.size + 1]? = some (.cells C 104 (0, 0)) := setRow_heap _ _ _ _ _ (0, 0) hi1'
    obtain ⟨W2, hW2⟩ : ∃ W2, W2 = W.drew.setRow (w.heap.size + 1) C := ⟨_, rfl⟩
    rw [← hW2] at hf2 hh2 ⊢
    clear hW2
    gi_wp2
    have hK' := hf2.heap hK (by omega)
    refine ⟨by simp, .inl ⟨_, _, rfl, run_takeDeferred hK', ?_⟩⟩
    have hfd := fr_putObj (T := (· = D)) W2 D (.deferred none) rfl
    refine ⟨_, results_cell_row rfl _ _ (w.heap.size + 1) 104 C (0, 0) _ rfl (hfd.heap hh2 (fun e => by omega)) Try.underlying104 rfl hz2, by rw [HE.out], ?_⟩
    exact hf0.trans ((HI.out.2.trans hf2 (fun k e => .inl (by rw [hT]; exact .inl e))).trans hfd (fun k e => .inl (by rw [hT]; exact .inr (by omega)))) (fun k e => by rw [hT] at e; exact .inr (by omega))
  case stop =>
    rintro D c pre W hD hpre ⟨⟨rfl, ini, x, e1, e2, e3, e4⟩, hi2⟩ hK
    rw [e1] at hpre
    have hres := lastL_found a xs ini x (secAt L a) hpre e2 e3
    have HE := Lib.hid hres
    clear hres
    have hxl := x.2.2
    have hz2 : (Try.prog.info? 104).map (·.size) = some (x.1.2.map bv).toArray.size := by rw [List.size_toArray, List.length_map, hxl]; kernel_rfl
    gi_wp2
    refine ⟨by simp, .inl ⟨_, _, rfl, run_takeDeferred hK, ?_⟩⟩
    have hfd := fr_putObj (T := (· = D)) W D (.deferred none) rfl
    refine ⟨_, results_cell_row rfl _ _ (w.heap.size + 1) 104 (x.1.2.map bv).toArray (0, 0) _ rfl (hfd.heap e4 (fun e => by omega)) Try.underlying104 rfl hz2, by rw [HE.out], ?_⟩
    exact hf0.trans (hi2.trans hfd (fun k e => .inl (by rw [hT]; exact .inr (by omega)))) (fun k e => by rw [hT] at e; exact .inr (by omega))
end Go.Proofs.Ytcbbcihfooaggaa
namespace Go.Proofs.Ytcbbcihfooaggaa
open Go.RowKit Go.ChangeShapes
set_option linter.unusedVariables false
section
variable {P : Program} {w : World} {o : Oper} {a : Act}
theorem op_move {x : Operand} {v : Value} (ho : o.op = .move x) (hv : a.eval x = v) : (execOp a.eval o).run P w = .ok (.value v) w := by
  unfold execOp
  rw [ho]
  simp only [hv]
  rfl
theorem op_assign {x : Operand} {v : Value} (ho : o.op = .assign x) (hv : a.eval x = v) : (execOp a.eval o).run P w = .ok (.value v) w := by
  unfold execOp
  rw [ho]
  simp only [hv]
  rfl
theorem op_slice_hi {t : TypeId} {x hi : Operand} {vx vh v : Value} (ho : o.op = .slice t x none (some hi) none) (hx : a.eval x = vx) (hh : a.eval hi = vh) (hr : (Instr.sliceAt t vx none (some vh) none).run P w = .ok v w) : (execOp a.eval o).run P w = .ok (.value v) w := by
  unfold execOp
  rw [ho]
  simp only [hx, hh, Option.map_some, Option.map_none, Sem.run_bind, hr, Result.andThen_ok]
  rfl
theorem op_slice_lo {t : TypeId} {x lo : Operand} {vx vl v : Value} (ho : o.op = .slice t x (some lo) none none) (hx : a.eval x = vx) (hl : a.eval lo = vl) (hr : (Instr.sliceAt t vx (some vl) none none).run P w = .ok v w) : (execOp a.eval o).run P w = .ok (.value v) w := by
  unfold execOp
  rw [ho]
  simp only [hx, hl, Option.map_some, Option.map_none, Sem.run_bind, hr, Result.andThen_ok]
  rfl
theorem op_pick {c x y : Operand} {b : Bool} {v : Value} (ho : o.op = .pick c x y) (hc : a.eval c = .bool b) (hv : (if b = true then a.eval x else a.eval y) = v) : (execOp a.eval o).run P w = .ok (.value v) w := by
  unfold execOp
  rw [ho]
  simp only [hc, asBool, Sem.run_bind, Sem.run_pure, Result.andThen_ok, hv]
theorem op_bin {op : BinOp} {t t' : TypeId} {x y : Operand} {vx vy v : Value} (ho : o.op = .binOp op t x y t') (hx : a.eval x = vx) (hy : a.eval y = vy) (hg : (eqGuard op t x y vx vy).run P w = .ok () w) (hr : (binOp op t vx vy).run P w = .ok v w) : (execOp a.eval o).run P w = .ok (.value v) w := by
  unfold execOp
  rw [ho]
  simp only [hx, hy, Sem.run_bind, hg, hr, Result.andThen_ok]
  rfl
end
theorem op_rows {P : Program} {w w' : World} {o : Oper} {a : Act} {t : TypeId} {n : Nat} {ps : Array (Nat × Operand)} {vs : Array (Nat × Value)} {v : Value} (ho : o.op = .buildSlice t n ps) (hp : (ps.map fun x => (x.1, a.eval x.2)) = vs) (hr : (Instr.buildSlice t n vs).run P w = .ok v w') : (execOp a.eval o).run P w = .ok (.value v) w' := by
  subst hp
  unfold execOp
  rw [ho]
  simp only [Sem.run_bind]
  rw [hr]
  rfl
theorem wpList_value {P : Program} {ops : Array Oper} {rest : List Oper} {o : Oper} {a : Act} {w : World} {Q : Exit → Act → World → Prop} (hgd : o.guard = none) (v : Value) (w' : World) (h : (execOp a.eval o).run P w = .ok (.value v) w')
    (hK : wpList P ops Q rest (a.put o.dst v) w') : wpList P ops Q (o :: rest) a w :=
  wpList_plain hgd fun _ hK' => wp_value_inv v h (hK' _ _ hK)
theorem op_build {P : Program} {w : World} {o : Oper} {a : Act} {t : TypeId} {ps : Array (Nat × Operand)} {vs : Array (Nat × Value)} {cells : Array Value} (ho : o.op = .build t ps) (hp : (ps.map fun x => (x.1, a.eval x.2)) = vs) (hc : P.built t vs.toList = some cells) : (execOp a.eval o).run P w = .ok (.value (.agg cells)) w := by
  subst hp
  unfold execOp
  rw [ho]
  simp only [Sem.run_bind, run_build w t _ cells hc, Result.andThen_ok]
  rfl
end Go.Proofs.Ytcbbcihfooaggaa
namespace Go.Proofs.Ytcbbcihfooaggaa
open Go.RowKit
set_option linter.unusedVariables false
section
variable {P : Program}
def DetStep (P : Program) (l : List Oper) (n : Nat) (Q : Exit → Act → World → Prop) (vals : Nat → Value) (Wd : (Nat → Bool) → World) (a0 : Act) (i : Nat) (o : Oper) : Prop :=
  ∀ (a : Act) (f : Nat → Bool), f i = false → (∀ j, waitsOn o j = true → f j = true) → (∀ j oj, l[j]? = some oj → f j = true → ∀ k, waitsOn oj k = true → f k = true) → a.tmps.size = a0.tmps.size →
    (∀ j t, waitsOn o j = true → dstAt l j = some t → a.eval (.tmp t) = vals j) → (∀ t, untouched l n t = true → a.eval (.tmp t) = a0.eval (.tmp t)) →
    WpG P l o a (Wd f) (fun a' w' => a' = a.put o.dst (vals i) ∧ w' = Wd (fun j => if j = i then true else f j)) Q
theorem wp_region_det {id : Nat} {Q : Exit → Act → World → Prop} {a : Act} {w : World} {l : List Oper} (n : Nat) (hm : P.follows .mixedOrders = true) (hB : invB l n a.tmps.size = true)
    (vals : Nat → Value) (Wd : (Nat → Bool) → World) (hW0 : Wd (fun _ => false) = w.drew) (hWc : ∀ f g : Nat → Bool, (∀ j, j < n → f j = g j) → Wd f = Wd g)
    (hstep : ∀ i, i < n → ∀ o, l[i]? = some o → DetStep P l n Q vals Wd a i o)
    (htail : wpList P l.toArray Q (l.drop n) (acts l (fun _ => true) vals a n) (Wd (fun _ => true))) : (Code.region id l.toArray true).wp P Q a w := by
  simp only [invB, Bool.and_eq_true, decide_eq_true_eq, Bool.or_eq_true] at hB
  obtain ⟨⟨⟨⟨hn, hops⟩, hdst⟩, hwait⟩, hseq⟩ := hB
  have hop : ∀ i, i < n → ∃ o, l[i]? = some o ∧ (∀ e ∈ o.after, Region.binds .any e = true → e.on < i) ∧ (∀ d, o.dst = some d → d < a.tmps.size) := by
    intro i hi
    have h := List.all_eq_true.1 hops i (List.mem_range.2 hi)
    cases ho : l[i]? with
    | none => rw [ho] at h; cases h
    | some o =>
      rw [ho] at h
      simp only [Bool.and_eq_true] at h
      obtain ⟨h2, h3⟩ := h
      refine ⟨o, rfl, fun e he hb => ?_, fun d hd => ?_⟩
      · have := Array.all_eq_true_iff_forall_mem.1 h2 e he
        rw [hb] at this
        simpa using this
      · rw [hd] at h3
        simpa using h3
  have hdis : ∀ i j, i < n → j < n → j ≠ i → ∀ d, dstAt l i = some d → dstAt l j ≠ some d := by
    intro i j hi hj hji d hd hd2
    have h := List.all_eq_true.1 (List.all_eq_true.1 hdst i (List.mem_range.2 hi)) j (List.mem_range.2 hj)
    rw [hd, hd2] at h
    simp at h
    omega
  have hwo : ∀ (o : Oper) (j : Nat), waitsOn o j = true → ∃ e ∈ o.after, Region.binds .any e = true ∧ e.on = j := by
    intro o j hj
    obtain ⟨e, he, hb⟩ := Array.any_eq_true'.1 hj
    simp only [Bool.and_eq_true, beq_iff_eq] at hb
    exact ⟨e, he, hb.1, hb.2⟩
  refine wp_region_any hm ?_
  have main : ∀ (m : Nat) (listed : Array Bool) (w' : World), left n listed = m → HeadInv .any l.toArray n listed → w' = Wd (fun i => listed.getD i false) →
      wpAny P .any l.toArray Q (m + (l.length - n)) listed (acts l (fun i => listed.getD i false) vals a n) w' := by
    intro m
    induction m with
    | zero =>
      intro listed w' hl inv hw
      have hall : ∀ i, i < n → listed.getD i false = true := fun i hi => by simpa using countP_zero n hl i hi
      have hlisted : listed = (List.replicate n true ++ List.replicate (l.length - n) false).toArray := by
        apply Array.ext
        · rw [inv.size]; simp; omega
        · intro i h1 h2
          have hi : i < l.length := by rw [inv.size] at h1; simpa using h1
          have e1 : listed[i] = listed.getD i false := by simp [h1]
          rw [e1]
          by_cases h : i < n
          · rw [hall i h]
            simp [h]
          · rw [getD_both (inv.tail i (by omega) (by simpa using hi))]
            simp [List.getElem_append, h]
      have hact : acts l (fun i => listed.getD i false) vals a n = acts l (fun _ => true) vals a n := acts_congr n fun j hj => ⟨hall j hj, fun _ => rfl⟩
      rw [hact, Nat.zero_add, hw, hWc _ (fun _ => true) (fun j hj => hall j hj)]
      have hdl : (l.drop n).length = l.length - n := by simp
      rw [← hdl]
      refine wpAny_of_seq (l.drop n) n listed _ _ (fun j => by simp [List.getElem?_drop]) ?_ htail
      rw [hdl, hlisted]
      exact hseq
    | succ m ih =>
      intro listed w' hl inv hw
      have hex : ∃ i, i < n ∧ listed.getD i false = false := by
        by_cases h : ∃ i, i < n ∧ listed.getD i false = false
        · exact h
        · exfalso
          have : left n listed = 0 := by
            unfold left
            rw [List.countP_eq_zero]
            intro i hi
            have hi' := List.mem_range.1 hi
            cases hg : listed.getD i false with
            | true => simp
            | false => exact absurd ⟨i, hi', hg⟩ h
          omega
      obtain ⟨i0, hi0, hun0⟩ := hex
      have hne : Region.ready .any l.toArray listed ≠ [] := by
        obtain ⟨i1, ⟨hi1, hun1⟩, hmin⟩ := least (p := fun i => i < n ∧ listed.getD i false = false) i0 ⟨hi0, hun0⟩
        obtain ⟨o, ho, hback, _⟩ := hop i1 hi1
        have : i1 ∈ Region.ready .any l.toArray listed := by
          refine mem_ready.2 ⟨getD_in (by rw [inv.size]; simp; omega) hun1, o, by simpa using ho, fun e he hb => ?_⟩
          have h1 := hback e he hb
          cases hg : listed.getD e.on false with
          | true => rfl
          | false => exact absurd ⟨by omega, hg⟩ (hmin e.on h1)
        intro h
        rw [h] at this
        cases this
      rw [show m + 1 + (l.length - n) = (m + (l.length - n)) + 1 by omega]
      refine ⟨fun h => absurd h hne, fun i hi => ?_⟩
      have hin : i < n := by
        rcases Nat.lt_or_ge i n with h | h
        · exact h
        · exfalso
          rcases hwait with hw | ⟨⟨hs, hc⟩, hlt⟩
          · obtain ⟨_, o, ho, _⟩ := mem_ready.1 hi
            have := (Array.getElem?_eq_some_iff.1 ho).1
            simp at this
            omega
          · exact tail_waits hs hc (by simpa using hlt) inv _ i0 rfl hi0 (getD_in (by rw [inv.size]; simp; omega) hun0) i h hi
      obtain ⟨hun, o', ho', hall⟩ := mem_ready.1 hi
      obtain ⟨o, ho, hback, hds⟩ := hop i hin
      have : o' = o := by simpa [ho] using ho'.symm
      subst this
      have hdo : dstAt l i = o'.dst := by simp [dstAt, ho]
      have hunf := getD_both hun
      have hst := hstep i hin o' ho (acts l (fun i => listed.getD i false) vals a n) (fun i => listed.getD i false) hunf
        (fun j hj => by obtain ⟨e, he, hb, rfl⟩ := hwo o' j hj; exact hall e he hb)
        (fun j oj hoj hlj k hk => by
          obtain ⟨e, he, hb, rfl⟩ := hwo oj k hk
          exact inv.closed j oj (by simpa using hoj) hlj e he hb) (acts_size n)
        (fun j t hj ht => by
          obtain ⟨e, he, hb, rfl⟩ := hwo o' j hj
          have h1 := hall e he hb
          have h2 := hback e he hb
          obtain ⟨oe, hoe, _, hde⟩ := hop e.on (by omega)
          exact acts_eval_eq h1 ht (hde t (by simpa [dstAt, hoe] using ht)) n (by omega) (fun j hj hji => hdis e.on j (by omega) hj hji t ht))
        (fun t ht => acts_eval_ne n (fun j hj => by simpa using List.all_eq_true.1 ht j (List.mem_range.2 hj)))
      have hgo : ∀ a' w2, (a' = (acts l (fun i => listed.getD i false) vals a n).put o'.dst (vals i) ∧ w2 = Wd (fun j => if j = i then true else listed.getD j false)) →
          wpAny P .any l.toArray Q (m + (l.length - n)) (listed.setIfInBounds i true) a' w2 := by
        rintro a' w2 ⟨rfl, rfl⟩
        have hput := acts_put (l := l) (f := fun i => listed.getD i false) (vs := vals) (a0 := a) (i := i) (v := vals i) hunf n hin (fun j hj hji d hd => hdis i j hin hj hji d hd)
        rw [← hdo, ← hput]
        have hsz : i < listed.size := by rw [inv.size]; simp; omega
        have hset : ∀ j, (if j = i then true else listed.getD j false) = (listed.setIfInBounds i true).getD j false := by
          intro j
          by_cases hji : j = i
          · subst hji
            rw [if_pos rfl]
            simp [hsz]
          · rw [if_neg hji, getD_set_ne false (Ne.symm hji)]
        have hcong : acts l (fun j => if j = i then true else listed.getD j false) (fun j => if j = i then vals i else vals j) a n = acts l (fun j => (listed.setIfInBounds i true).getD j false) vals a n := by
          refine acts_congr n fun j hj => ⟨hset j, fun _ => ?_⟩
          split
          · next h => rw [h]
          · rfl
        rw [hcong]
        refine ih _ _ ?_ (inv.set hi hin) (hWc _ _ (fun j _ => hset j))
        have := countP_one (f := fun j => !listed.getD j false) (g := fun j => !(listed.setIfInBounds i true).getD j false) (i := i) (by simp only [hunf]; rfl) (by simp [hsz]) (fun j hj => by simp only [getD_set_ne false (Ne.symm hj)]) n
        rw [if_pos hin] at this
        unfold left at hl ⊢
        omega
      unfold wpOp
      rw [ho']
      unfold WpG at hst
      simp only
      rw [hw]
      split
      · rename_i hw
        rw [if_pos hw] at hst
        exact .inl (Oper.wp_mono (fun a' w2 h => hgo a' w2 h) hst)
      · rename_i hw
        rw [if_neg hw] at hst
        exact hgo _ _ hst
  have h0 : left n (Array.replicate l.length false) = n := by
    unfold left
    have : ((List.range n).countP fun i => !(Array.replicate l.length false).getD i false) = (List.range n).length := by
      rw [List.countP_eq_length]
      intro i _
      rw [getD_replicate_false]
      rfl
    rw [this, List.length_range]
  have hmain := main n (Array.replicate l.length false) w.drew h0
    ⟨by simp, fun j oj _ hl => (by rw [getD_replicate_false] at hl; cases hl), fun t _ ht => getD_in (by simpa using ht) (getD_replicate_false _ _)⟩ (by rw [← hW0]; exact hWc _ _ (fun j _ => by rw [getD_replicate_false]))
  have e1 : acts l (fun i => (Array.replicate l.length false).getD i false) vals a n = a := by
    have : ∀ k, acts l (fun i => (Array.replicate l.length false).getD i false) vals a k = a := by
      intro k
      induction k with
      | zero => rfl
      | succ k ih => unfold acts; rw [if_neg (by rw [getD_replicate_false]; decide), ih]
    exact this n
  rw [e1, show n + (l.length - n) = l.length by omega] at hmain
  exact hmain
end
end Go.Proofs.Ytcbbcihfooaggaa
