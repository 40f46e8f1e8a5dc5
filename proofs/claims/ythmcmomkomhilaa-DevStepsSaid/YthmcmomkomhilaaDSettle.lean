/- dev's own device: pending writes are kept. -/
import Derived.Test.YthmcmomkomhilaaDChosen
import Derived.Shelf.Abstract
namespace Go.Proofs.Ythmcmomkomhilaa
open Go.RowKit Go.ChangeShapes Go.Shelf
set_option linter.unusedVariables false
attribute [local go_sem] Oper.semAt_some

theorem ownFrom_fr {β : Type} {T : Nat → Prop} {n0 : Nat} {w0 : World} (hT : ∀ k, n0 ≤ k → T k) : OwnFrom n0 (fun (_ : β) W => Fr T w0 W) :=
  fun _ A B row h hg hr => h.grown hg (fun k e => .inl (hT k (hr k e).1))
theorem ownFrom_bytT {β : Type} {n0 g : Nat} {T : TypeId} (f : β → List UInt8) : OwnFrom n0 (fun s W => BytT W g T (f s)) :=
  fun s A B row h hg hr => (hg.block g (lt_of_block h) (fun e => by
    obtain ⟨_, o, ho, hc⟩ := hr g e.symm
    rw [show A.heap[g]? = _ from h] at ho
    cases ho
    cases hc)).trans h
theorem fr_putObj {T : Nat → Prop} (W : World) (l : Nat) (o' : Obj) (hT : T l) : Fr T W (W.putObj l o') :=
  (Fr.refl T W).grown (grownBy_putObj' W l o') (fun k e => by cases e; exact .inl hT)
theorem keepsFrom_fr {S : Nat → Prop} {n0 : Nat} {W W' : World} (h : Fr S W W') (hS : ∀ k, S k → k < n0) : KeepsFrom n0 W W' :=
  ⟨h.size, fun k o hB hk _ => h.heap hk (fun hs => by have := hS k hs; omega)⟩
/-- A sector written amid what is kept. -/
theorem put_splice (L b : List UInt8) (a : Nat) (hb : b.length = 64) (q : Nat) (hq : q = a * 64) : ((L.map bv).toArray.toList.take q ++ (b.map bv).toArray.toList ++ (L.map bv).toArray.toList.drop (q + (b.map bv).toArray.size)).toArray = ((putSec L a b).map bv).toArray := by
  subst hq
  simp only [putSec, List.map_append, List.map_take, List.map_drop, List.size_toArray, List.length_map, hb, show a * 64 = 64 * a by omega]

set_option maxRecDepth 100000 in
set_option maxHeartbeats 4000000 in
theorem dSettle_in {F : Nat → Prop} {s : Nat} (w : World) (g kb : Nat) (L : List UInt8) (xs : List (PendX s)) (vw : Value) (k l : Int) (dn : Bool) (keep : Int) (hkp0 : -9223372036854775808 ≤ keep) (hkp1 : keep ≤ 9223372036854775807) (h : DvH w g kb s vw k l dn) (hL : BytT w kb 70 L) (hl : L.length = 64 * s)
    (hP : WrAt F w vw (valsX xs)) (hgF : ¬ F g) (hkF : ¬ F kb) (hne : g ≠ kb) (hs : s ≤ 8192) (hn6 : xs.length ≤ 1000000) :
    CallsIn Fence.wide 3 Try.prog 41 #[.pointer (some ⟨g, 0, none⟩), .int .i64 keep] w fun e w' => e = .returned (.tuple #[]) ∧ DvH w' g kb s (.slice none 0 0) k l dn ∧ BytT w' kb 70 (putAll L (valsX (pickL (bitOf keep) 0 xs))) ∧ Fr (fun b => b = g ∨ b = kb) w w' := by
  refine callsIn_of_wp_marks Try.func41 rfl trivial ?_ rfl
  simp only [Try.ntmps41, List.size_toArray, List.length_cons, List.length_nil, Nat.reduceAdd, Nat.reduceSub, Array.replicate_succ, Array.replicate_zero, List.push_toArray, List.append_toArray, List.nil_append, List.cons_append]
  obtain ⟨w1, hw1⟩ : ∃ w1, w1 = w.alloc (.cells #[.pointer (some ⟨g, 0, none⟩)] 25) := ⟨_, rfl⟩
  have hch := WideF.out.calls (n := 2) (chosen_any w1 g keep)
  rw [hw1] at hch
  gi_wp2_with (refine ⟨trivial, ?_⟩; gi_at_call 50; refine hch.mono ?_; rintro e w2 ⟨rfl, rfl⟩)
  obtain ⟨W0, hW0⟩ : ∃ W0, W0 = ((w.alloc (.cells #[.pointer (some ⟨g, 0, none⟩)] 25)).alloc (.cells #[.pointer (some ⟨g, 0, none⟩)] 77)).alloc (.cells #[.int .i64 keep] 3) := ⟨_, rfl⟩
  have hsz : W0.heap.size = w.heap.size + 3 := by rw [hW0]; simp
  have hf0 : Fr (fun _ => False) w W0 := by rw [hW0]; exact (((Fr.refl _ _).alloc _).alloc _).alloc _
  have hg := h.lt
  have hkb := hL.lt
  have hbd : W0.heap[w.heap.size]? = some (.cells #[.pointer (some ⟨g, 0, none⟩)] 25 (0, 0)) := by
    rw [hW0]
    exact ((Fr.refl (fun _ => False) _).alloc _).heap (heap_alloc2_old w _ _) id
  have hbp : W0.heap[w.heap.size + 1]? = some (.cells #[.pointer (some ⟨g, 0, none⟩)] 77 (0, 0)) := by
    rw [hW0]
    exact ((Fr.refl (fun _ => False) _).alloc _).heap (heap_alloc2_new w _ _) id
  have hbk : W0.heap[w.heap.size + 1 + 1]? = some (.cells #[.int .i64 keep] 3 (0, 0)) := by
    rw [hW0]
    have := heap_alloc2_new (w.alloc (.cells #[.pointer (some ⟨g, 0, none⟩)] 25)) (.cells #[.pointer (some ⟨g, 0, none⟩)] 77) (.cells #[.int .i64 keep] 3)
    simpa using this
  rw [← hW0]
  have h0 := h.keep hf0 id
  have hL0 : BytT W0 kb 70 L := hf0.heap hL id
  have hP0 : WrAt (fun b => F b ∧ b < w.heap.size) W0 vw (valsX xs) := (hP.mono (G := fun b => F b ∧ b < w.heap.size) (fun b hb hF => ⟨hF, hb⟩)).keep hf0 (fun _ _ _ h => h)
  obtain ⟨T, hT⟩ : ∃ T : Nat → Prop, T = fun b => b = kb ∨ W0.heap.size ≤ b := ⟨_, rfl⟩
  have hT0 : ∀ k, W0.heap.size ≤ k → T k := fun k hk => by rw [hT]; exact .inr hk
  have hTn : ∀ k, k ≠ kb → k < W0.heap.size → ¬ T k := fun k h1 h2 h3 => by rw [hT] at h3; rcases h3 with h3 | h3 <;> omega
  have hIt : ItB W0 (fun b => F b ∧ b < w.heap.size) (w.heap.size + 1) (w.heap.size + 1 + 1) g vw keep (valsX xs) := ⟨⟨cell_of_row _ _ _ _ _ _ hbp, h0.cells.2.2.2.1, hP0⟩, cell_of_row _ _ _ _ _ _ hbk⟩
  refine wpIn_rangeFunc_ownH rfl (by decide) (gf := 53) (lb := #[.pointer (some ⟨w.heap.size + 1, 0, none⟩), .pointer (some ⟨w.heap.size + 1 + 1, 0, none⟩)]) rfl trivial (enters_of Try.func53 (by kernel_rfl) rfl)
    (chosen_stops (T := T) 2 (w.heap.size + 1) (w.heap.size + 1 + 1) g keep hkp0 hkp1 xs vw hn6 (hTn _ (by omega) (by omega)) (hTn _ (by omega) (by omega)) (hTn _ hne (by omega)) (fun k hk => hTn k (fun e => hkF (e ▸ hk.1)) (by have := hk.2; omega)) W0 hIt)
    (fun h k => h.trans k (fun _ hi => .inl hi)) (fun W l o o' hl _ _ _ => fr_putObj W l o' (hT0 l hl)) (Below.refl _ _) (fun _ => rfl)
    (fun pre W => BytT W kb 70 (putAll L (valsX pre)) ∧ Fr T W0 W)
    (fun _ _ _ => False)
    (OwnFrom.and (ownFrom_bytT (fun pre => putAll L (valsX pre))) (ownFrom_fr hT0))
    (fun _ _ _ _ _ hs _ _ => hs)
    ⟨hL0, Fr.refl _ _⟩
    (fun x a' W => ∃ Bx, W0.heap.size ≤ Bx ∧ BytT W Bx 70 x.1.2 ∧ a' = { tmps := #[.pointer (some ⟨g, 0, none⟩), .int .i64 keep, .pointer (some ⟨w.heap.size, 0, none⟩), undef, .int .i64 x.1.1, .pointer (some ⟨Bx, 0, none⟩), .pointer (some ⟨g, 0, none⟩), .pointer (some ⟨g, 0, none⟩), .pointer (some ⟨g, 0, none⟩), .int .i64 keep, .func (.func 53) #[] #[.pointer (some ⟨w.heap.size + 1, 0, none⟩), .pointer (some ⟨w.heap.size + 1 + 1, 0, none⟩)], .int .i64 x.1.1, .agg (x.1.2.map bv).toArray, undef, undef, undef, undef, undef, undef, undef, undef, undef, undef, undef], defers := [] })
    (fun x a' s A B row hs hg hr => by
      obtain ⟨Bx, h1, h2, h3⟩ := hs
      exact ⟨Bx, h1, ownFrom_bytT (β := Unit) (fun _ => x.1.2) () A B row h2 hg hr, h3⟩)
    ?assign ?body ?done ?stop
  case assign =>
    rintro l pre x W K ⟨hi1, hi2⟩ hK
    have hzv := zSec_zero
    have hxl := x.2.2
    have hz2 : (Try.prog.info? 70).map (·.size) = some (x.1.2.map bv).toArray.size := by rw [List.size_toArray, List.length_map, hxl]; kernel_rfl
    have hzs : zSec.size = (x.1.2.map bv).toArray.size := by rw [zSec_size, List.size_toArray, List.length_map, hxl]
    have hC1 : (x.1.2.map bv).toArray.all (·.oneCell') = true := all_oneCell_toArray (bv_one _)
    obtain ⟨C, hC⟩ : ∃ C, C = (x.1.2.map bv).toArray := ⟨_, rfl⟩
    rw [← hC] at hz2 hzs hC1
    simp only [encsX]
    rw [← hC]
    have HC := Lib.hid hC
    have HK := Lib.hid hK
    clear hC
    have hsw : W0.heap.size ≤ W.heap.size := hi2.size
    clear hK
    gi_wp2_with (with_reducible refine wpListIn_store_new (.round l) rfl 70 (.tmp 5) (.tmp 12) rfl C zSec 70 W rfl rfl rfl hz2 hzs hC1 ?_)
    rw [HC.out]
    refine HK.out _ _ (keepsFrom_fr (S := fun _ => False) ((Fr.refl _ _).alloc _) (fun _ h => h.elim)) ((Fr.refl _ _).alloc _) ⟨((Fr.refl (fun _ => False) _).alloc _).heap hi1 id, hi2.alloc _⟩ ⟨W.heap.size, hsw, heap_alloc_new W _, rfl⟩
  case body =>
    rintro l pre x a' W hll ⟨r, hr⟩ ⟨hi1, hi2⟩ ⟨Bx, hBx, hbx, rfl⟩ hlt
    have hxl := x.2.2
    have hxs : (x.1.1 : Int) < (s : Int) := by have := x.2.1; omega
    have hx0 : (0 : Int) ≤ (x.1.1 : Int) := by omega
    have hsb : W.cell? ⟨w.heap.size, 0, none⟩ = some (.pointer (some ⟨g, 0, none⟩)) := cell_of_row _ _ _ _ _ _ (hi2.heap hbd (hTn _ (by omega) (by omega)))
    have hsk : W.cell? ⟨g, 4, none⟩ = some (.slice (some ⟨kb, 0, none⟩) s s) := (h0.keep hi2 (hTn _ hne (by omega))).cells.2.2.2.2.1
    have hpl := putAll_length pre L hl
    have hld : (Instr.loadAt 70 (.pointer (some ⟨Bx, 0, none⟩))).run Try.prog W.drew = .ok (.agg (x.1.2.map bv).toArray) W.drew := load_sec W.drew Bx 0 x.1.2 hxl (fun j v hv => by
      rw [Nat.zero_add]
      have hb : W.drew.heap[Bx]? = some (.cells (x.1.2.map bv).toArray 70 (0, 0)) := hbx
      rw [cell_of_row _ _ _ _ _ _ hb]
      simpa using hv)
    have hz2 : (Try.prog.info? 70).map (·.size) = some (x.1.2.map bv).toArray.size := by rw [List.size_toArray, List.length_map, hxl]; kernel_rfl
    have hfit : x.1.1 * 64 + (x.1.2.map bv).toArray.size ≤ ((putAll L (valsX pre)).map bv).toArray.size := by
      rw [List.size_toArray, List.size_toArray, List.length_map, List.length_map, hxl, hpl]
      have := x.2.1
      omega
    have hC1 : (x.1.2.map bv).toArray.all (·.oneCell') = true := all_oneCell_toArray (bv_one _)
    have hi3 : W.drew.heap[kb]? = some (.cells ((putAll L (valsX pre)).map bv).toArray 70 (0, 0)) := hi1
    gi_wp2
    refine wpIn_still_tail 7 (.round l) (by kernel_rfl) (by kernel_rfl) (by kernel_rfl) ?_
    simp only [List.take_succ_cons, List.take_zero, List.drop_succ_cons, List.drop_zero]
    iterate 5 still_step
    refine still_value rfl _ (op_load_ rfl rfl hld) ?_
    still_step
    refine wpStill_nil ?_
    go_simp
    refine wpListIn_store_at (.round l) rfl 70 (.tmp 19) (.tmp 18) rfl kb (x.1.1 * 64) _ _ 70 rfl rfl hi3 hz2 hfit hC1 ?_
    rw [put_splice _ _ x.1.1 hxl _ rfl]
    obtain ⟨W2, hW2⟩ : ∃ W2, W2 = W.drew.setRow kb (List.map bv (putSec (putAll L (valsX pre)) x.1.1 x.1.2)).toArray := ⟨_, rfl⟩
    have hf2 : Fr (· = kb) W W2 := by rw [hW2]; exact Fr.ofDrew ((Fr.refl (· = kb) W.drew).setRow (.inl rfl) _)
    have hb2 : BytT W2 kb 70 (putAll L (valsX (pre ++ [x]))) := by
      rw [hW2, show valsX (pre ++ [x]) = valsX pre ++ [x.1] by simp [valsX], putAll_snoc]
      exact setRow_heap _ _ _ _ _ (0, 0) hi3
    rw [← hW2]
    clear hW2
    gi_wp2
    exact ⟨keepsFrom_fr hf2 (fun k e => by omega), hf2.mono (fun k _ e => by rw [hT]; exact .inl e), hb2, hi2.trans hf2 (fun k e => .inl (by rw [hT]; exact .inl e))⟩
  case done =>
    rintro D ys W hD rfl ⟨hi1, hi2⟩ hK
    have hsb : W.cell? ⟨w.heap.size, 0, none⟩ = some (.pointer (some ⟨g, 0, none⟩)) := cell_of_row _ _ _ _ _ _ (hi2.heap hbd (hTn _ (by omega) (by omega)))
    have hd0 := h0.keep hi2 (hTn _ hne (by omega))
    have hc3 := hd0.cells.2.2.2.1
    have hf3 := hd0.free 3
    have HD := Lib.hid hd0
    have HI := Lib.hid (And.intro hi1 hi2)
    have HTE := Lib.hid hT
    clear hd0 hi1 hi2 hT
    gi_wp2
    have hK' := (KeepsOthers.setCell W ⟨g, 3, none⟩ (.slice none 0 0)).same D _ hK rfl
    refine ⟨by simp, .inl ⟨_, _, rfl, run_takeDeferred hK', ?_⟩⟩
    have hfw : Fr (fun b => b = g ∨ b = kb ∨ W0.heap.size ≤ b) W0 ((W.setCell ⟨g, 3, none⟩ (.slice none 0 0)).putObj D (.deferred none)) :=
      ((HI.out.2.mono (T := fun b => b = g ∨ b = kb ∨ W0.heap.size ≤ b) (fun k _ e => by rw [HTE.out] at e; exact .inr e)).trans (Fr.cell1 W g 3 _) (fun k e => .inl (.inl e))).trans (fr_putObj (T := fun b => W0.heap.size ≤ b) _ D _ hD) (fun k e => .inl (.inr (.inr e)))
    have hfd := fr_putObj (T := (· = D)) (W.setCell ⟨g, 3, none⟩ (.slice none 0 0)) D (.deferred none) rfl
    refine ⟨_, results_none rfl _ _ _, rfl, (HD.out.put3 _).keep hfd (fun e => by omega), hfd.heap ((Fr.cell1 W g 3 _).heap HI.out.1 (fun e => hne e.symm)) (fun e => by omega), ?_⟩
    exact (hf0.mono (T := fun b => b = g ∨ b = kb) (fun _ _ h => h.elim)).trans hfw (fun i hi => by
      rcases hi with h | h | h
      · exact .inl (.inl h)
      · exact .inl (.inr h)
      · exact .inr (by omega))
  case stop =>
    rintro D c pre W _ _ h _
    exact h.elim
end Go.Proofs.Ythmcmomkomhilaa
