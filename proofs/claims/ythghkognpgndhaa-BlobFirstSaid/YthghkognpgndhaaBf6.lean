/- Laid together: BFirstL BOpen BFinds -/
import Derived.Test.YthghkognpgndhaaBf0
import Derived.ProofKit
import Derived.OpenShut
import Derived.SizedLaws
import Derived.Deep.Slices
import Derived.Carry
import Derived.Deep.Fields
import Derived.Test.YthghkognpgndhaaBf5

namespace Go.Proofs.Ythghkognpgndhaa
set_option linter.unusedVariables false
def end7 (l : List Rn) : Int := match l.getLast? with
  | some r => r.1 + r.2
  | none => 0
theorem end7_nil : end7 [] = 0 := rfl
theorem end7_snoc (l : List Rn) (r : Rn) : end7 (l ++ [r]) = r.1 + r.2 := by unfold end7; rw [List.getLast?_concat]
def Rise (l : List Rn) : Prop := ∀ i (h : i + 1 < l.length), l[i].1 + l[i].2 < l[i + 1].1
theorem Rise.one (r : Rn) : Rise [r] := fun i h => by simp at h
theorem Rise.snoc {l : List Rn} {p r : Rn} (h : Rise (l ++ [p])) (hr : p.1 + p.2 < r.1) : Rise (l ++ [p] ++ [r]) := by
  intro i hi
  simp only [List.length_append, List.length_cons, List.length_nil] at hi
  by_cases e : i = l.length
  · subst e
    simpa using hr
  · have h1 := h i (by simp; omega)
    have e1 : i < (l ++ [p]).length := by simp only [List.length_append, List.length_cons, List.length_nil]; omega
    have e2 : i + 1 < (l ++ [p]).length := by simp only [List.length_append, List.length_cons, List.length_nil]; omega
    rw [List.getElem_append_left e1, List.getElem_append_left e2]
    exact h1
theorem Rise.turn {l : List Rn} {p : Rn} {y : Int} (h : Rise (l ++ [p])) : Rise (l ++ [(p.1, y)]) := by
  intro i hi
  simp only [List.length_append, List.length_cons, List.length_nil] at hi
  have h1 := h i (by simp; omega)
  by_cases e : i + 1 = l.length
  · rw [List.getElem_append_left (by omega), List.getElem_append_right (by omega)] at h1 ⊢
    simpa [e] using h1
  · rw [List.getElem_append_left (by omega), List.getElem_append_left (by omega)] at h1 ⊢
    exact h1
theorem joins7_rise : ∀ (xs : List Nat), xs.Pairwise (· < ·) → Rise (joins7 xs) ∧ (∀ (ys : List Nat) (y : Nat), xs = ys ++ [y] → end7 (joins7 xs) = (y : Int) + 1) := by
  intro xs
  generalize hn : xs.length = n
  induction n generalizing xs with
  | zero =>
    intro _
    obtain rfl := List.eq_nil_of_length_eq_zero hn
    exact ⟨fun i h => by simp [joins7] at h, fun ys y h => by simp at h⟩
  | succ n ih =>
    intro hp
    rcases List.eq_nil_or_concat xs with rfl | ⟨ys, y, rfl⟩
    · simp at hn
    · rw [List.concat_eq_append] at hn hp ⊢
      have hyl : ys.length = n := by simpa using hn
      rw [List.pairwise_append] at hp
      obtain ⟨ih1, ih2⟩ := ih ys hyl hp.1
      rw [joins7_snoc]
      have hmain : Rise (jn7 (joins7 ys) y) ∧ end7 (jn7 (joins7 ys) y) = (y : Int) + 1 := by
        rcases List.eq_nil_or_concat ys with rfl | ⟨zs, z, rfl⟩
        · exact ⟨Rise.one _, rfl⟩
        · rw [List.concat_eq_append] at hp ih1 ih2 ⊢
          have hzy : z < y := hp.2.2 z (by simp) y (by simp)
          have he := ih2 zs z rfl
          rcases List.eq_nil_or_concat (joins7 (zs ++ [z])) with h0 | ⟨l, r, h0⟩
          · rw [h0, end7_nil] at he; omega
          · rw [List.concat_eq_append] at h0
            rw [h0] at ih1 he ⊢
            rw [end7_snoc] at he
            rw [jn7_snoc]
            split
            · exact ⟨ih1.turn, by rw [end7_snoc]; simp only; omega⟩
            · exact ⟨ih1.snoc (by simp only; omega), by rw [end7_snoc]⟩
      refine ⟨hmain.1, fun zs z h => ?_⟩
      obtain ⟨_, h2⟩ := List.append_inj' h rfl
      simp only [List.cons.injEq, and_true] at h2
      rw [← h2]
      exact hmain.2
def cnt7 (e i : Nat) (l : List Rn) : Nat := ((List.range i).filter (fun x => !decide (x ∈ secs7 l) && decide (e ≤ x))).length
theorem cnt7_start (e : Nat) (l : List Rn) : cnt7 e e l = 0 := by
  unfold cnt7
  rw [List.length_eq_zero_iff, List.filter_eq_nil_iff]
  intro x hx
  have := List.mem_range.1 hx
  simp
  intro _
  omega
theorem cnt7_succ {e i : Nat} (h : e ≤ i) (l : List Rn) : cnt7 e (i + 1) l = cnt7 e i l + (if i ∈ secs7 l then 0 else 1) := by
  unfold cnt7
  rw [List.range_succ, List.filter_append, List.length_append]
  congr 1
  by_cases hm : i ∈ secs7 l <;> simp [hm, h]
theorem cnt7_le (e i : Nat) (l : List Rn) : cnt7 e i l ≤ i := by
  unfold cnt7
  have := List.length_filter_le (fun x => !decide (x ∈ secs7 l) && decide (e ≤ x)) (List.range i)
  rwa [List.length_range] at this
theorem find7_count {d many : Nat} {l : List Rn} (h1 : 1 ≤ many) (h2 : many ≤ (free7 d l).length) :
    ∃ e : Nat, end7 (find7 d l many) = e ∧ e ≤ d ∧ (free7 d (l ++ find7 d l many)).length = cnt7 e d l := by
  have hs := free7_sorted d l
  have hts : ((free7 d l).take many).Pairwise (· < ·) := hs.sublist (List.take_sublist _ _)
  rcases List.eq_nil_or_concat ((free7 d l).take many) with h0 | ⟨ys, y, h0⟩
  · have := congrArg List.length h0
    rw [List.length_take, List.length_nil] at this
    omega
  · rw [List.concat_eq_append] at h0
    have hend := (joins7_rise _ hts).2 ys y h0
    have hyf : y ∈ free7 d l := List.mem_of_mem_take (h0 ▸ (by simp : y ∈ ys ++ [y]))
    have hyd := (mem_free7.1 hyf).1
    refine ⟨y + 1, by unfold find7; rw [hend]; push_cast; rfl, by omega, ?_⟩
    unfold free7 cnt7
    congr 1
    refine List.filter_congr (fun x hx => ?_)
    have hxd := List.mem_range.1 hx
    have hmem : x ∈ secs7 (l ++ find7 d l many) ↔ x ∈ secs7 l ∨ x ∈ (free7 d l).take many := by rw [secs7_append, find7_secs, List.mem_append]
    by_cases hm : x ∈ secs7 l
    · simp [hmem, hm]
    · have hxf : x ∈ free7 d l := mem_free7.2 ⟨hxd, hm⟩
      have hiff : x ∈ (free7 d l).take many ↔ x ≤ y := by
        constructor
        · intro hxt
          rw [h0] at hxt hts
          rcases List.mem_append.1 hxt with hxt | hxt
          · have := (List.pairwise_append.1 hts).2.2 x hxt y (by simp); omega
          · rw [List.mem_singleton.1 hxt]; exact Nat.le_refl _
        · intro hxy
          rw [← List.take_append_drop many (free7 d l)] at hxf hs
          rcases List.mem_append.1 hxf with hxf | hxf
          · exact hxf
          · have hyt : y ∈ (free7 d l).take many := by rw [h0]; simp
            have := (List.pairwise_append.1 hs).2.2 y hyt x hxf
            omega
      by_cases hxt : x ∈ (free7 d l).take many
      · have := hiff.1 hxt
        simp [hmem, hm, hxt]
        omega
      · have : ¬ x ≤ y := fun h => hxt (hiff.2 h)
        simp [hmem, hm, hxt]
        omega
end Go.Proofs.Ythghkognpgndhaa
namespace Go.Proofs.Ythghkognpgndhaa
open Go.RowKit Go.ChangeShapes Go.WideShapes Go.Deep
set_option linter.unusedVariables false
section
variable {H : Type} {enc : TypeId × Value → H} {w : World} {base fuel : Nat} {held : Bool} {cs : List Value} {x : DataW H × List MemPlace}
theorem list2c {α : Type} {l : List α} (h : l.length = 2) : ∃ a b, l = [a, b] := by
  match l, h with
  | [a, b], _ => exact ⟨a, b, rfl⟩
theorem list3 {α : Type} {l : List α} (h : l.length = 3) : ∃ a b c, l = [a, b, c] := by
  match l, h with
  | [a, b, c], _ => exact ⟨a, b, c, rfl⟩
theorem Try.bytesRn : Try.prog.bytesOf 68 = 16 := by kernel_rfl
theorem Try.cellsRn : Try.prog.cellsOf 68 = 2 := by kernel_rfl
theorem Try.cellsSh : Try.prog.cellsOf 23 = 3 := by kernel_rfl
theorem Try.cellsI : Try.prog.cellsOf 3 = 1 := by kernel_rfl
theorem open_shape (h : DataW.trod enc Try.prog w base (fun _ => true) held fuel 23 cs = some x) :
    ∃ L A D : Int, cs = [.int .i64 L, .int .i64 A, .int .i64 D] := by
  obtain ⟨xs, m, _, hy, hcl, hxl, hf⟩ := DataW.trod_struct Try.underlying23 h
  rw [Try.cellsSh] at hcl
  obtain ⟨c0, c1, c2, rfl⟩ := list3 hcl
  obtain ⟨y0, y1, y2, rfl⟩ := list3 (l := xs) hxl
  have e0 : DataW.trod enc Try.prog w base (fun _ => true) held m 3 [c0] = some y0 := by
    have h : DataW.trod enc Try.prog w base (fun _ => true) held m 3 (([c0, c1, c2].drop 0).take (Try.prog.cellsOf 3)) = some y0 := hf 0 _ rfl
    rw [Try.cellsI] at h
    exact h
  have e1 : DataW.trod enc Try.prog w base (fun _ => true) held m 3 [c1] = some y1 := by
    have h : DataW.trod enc Try.prog w base (fun _ => true) held m 3 (([c0, c1, c2].drop 1).take (Try.prog.cellsOf 3)) = some y1 := hf 1 _ rfl
    rw [Try.cellsI] at h
    exact h
  have e2 : DataW.trod enc Try.prog w base (fun _ => true) held m 3 [c2] = some y2 := by
    have h : DataW.trod enc Try.prog w base (fun _ => true) held m 3 (([c0, c1, c2].drop 2).take (Try.prog.cellsOf 3)) = some y2 := hf 2 _ rfl
    rw [Try.cellsI] at h
    exact h
  obtain ⟨n0, r0, _, w0⟩ := DataW.trod_int Try.underlying3 e0
  obtain ⟨n1, r1, _, w1⟩ := DataW.trod_int Try.underlying3 e1
  obtain ⟨n2, r2, _, w2⟩ := DataW.trod_int Try.underlying3 e2
  simp only [List.cons.injEq, and_true] at r0 r1 r2
  subst r0 r1 r2
  exact ⟨n0, n1, n2, rfl⟩
theorem open_run {n : Nat} {y : DataW H × List MemPlace} (h : DataW.trod enc Try.prog w base (fun _ => true) held n 68 cs = some y) :
    ∃ r : Rn, cs = rnC r ∧ (-9223372036854775808 ≤ r.1 ∧ r.1 ≤ 9223372036854775807) ∧ -9223372036854775808 ≤ r.2 ∧ r.2 ≤ 9223372036854775807 := by
  obtain ⟨xs, m, _, hy, hcl, hxl, hf⟩ := DataW.trod_struct Try.underlying68 h
  rw [Try.cellsRn] at hcl
  obtain ⟨c0, c1, rfl⟩ := list2c hcl
  obtain ⟨y0, y1, rfl⟩ := list2c (l := xs) hxl
  have e0 : DataW.trod enc Try.prog w base (fun _ => true) held m 3 [c0] = some y0 := by
    have h : DataW.trod enc Try.prog w base (fun _ => true) held m 3 (([c0, c1].drop 0).take (Try.prog.cellsOf 3)) = some y0 := hf 0 _ rfl
    rw [Try.cellsI] at h
    exact h
  have e1 : DataW.trod enc Try.prog w base (fun _ => true) held m 3 [c1] = some y1 := by
    have h : DataW.trod enc Try.prog w base (fun _ => true) held m 3 (([c0, c1].drop 1).take (Try.prog.cellsOf 3)) = some y1 := hf 1 _ rfl
    rw [Try.cellsI] at h
    exact h
  obtain ⟨n0, r0, _, w0⟩ := DataW.trod_int Try.underlying3 e0
  obtain ⟨n1, r1, _, w1⟩ := DataW.trod_int Try.underlying3 e1
  simp only [List.cons.injEq, and_true] at r0 r1
  subst r0 r1
  exact ⟨(n0, n1), rfl, bounds_i64 w0, bounds_i64 w1⟩
theorem open_runs (h : DataW.trod enc Try.prog w base (fun _ => true) held fuel 24 cs = some x) (hz : ∀ n ∈ x.1.weights Try.prog 24, n ≤ reachBytes) :
    ∃ v l, cs = [v] ∧ RnsIn (fun k => k < w.heap.size) w v l := by
  rcases open_slice Try.underlying24 h with ⟨rfl, _⟩ | ⟨a, len, cap, m, n, D, Pl, rfl, _, hl, hm, hmm, hx, hi⟩
  · exact ⟨_, [], rfl, RnsIn.nil _ _⟩
  · simp only [if_true] at hmm
    subst hmm
    rw [Try.cellsRn] at hi
    have hm2 : m * 16 ≤ 140737488351232 := by
      have := hz ((len + (m - len)) * 16) (by rw [hx]; simp [DataW.weights, Try.underlying24, Try.bytesRn])
      simp only [reachBytes] at this
      omega
    unfold maxLen at hm
    by_cases h0 : len = 0
    · subst h0
      exact ⟨_, [], rfl, ⟨some a, m, rfl, Nat.zero_le _, by omega, (fun _ h => by cases h), fun h => absurd rfl h⟩, fun _ h => by cases h⟩
    · obtain ⟨b, off, spot⟩ := a
      have hs : spot = none := by
        obtain ⟨cs', hc, ht⟩ := hi 0 (by omega)
        obtain ⟨_, hcl, hat⟩ := World.cells?_some hc
        have := hat 0 (by decide)
        obtain ⟨c0, c1, rfl⟩ := list2c hcl
        simpa [Addr.add] using World.cell?_spot this
      subst hs
      have hone : ∀ i, ∃ p : Rn, i < len → (b < w.heap.size ∧ ∀ j, j < 2 → w.cell? ⟨b, off + i * 2 + j, none⟩ = (rnC p)[j]?) ∧ (-9223372036854775808 ≤ p.1 ∧ p.1 ≤ 9223372036854775807) ∧ -9223372036854775808 ≤ p.2 ∧ p.2 ≤ 9223372036854775807 := by
        intro i
        by_cases hil : i < len
        · obtain ⟨cs', hc, ht⟩ := hi i (by omega)
          obtain ⟨_, hcl, hat⟩ := World.cells?_some hc
          have hat' : ∀ j, j < 2 → w.cell? ⟨b, off + i * 2 + j, none⟩ = cs'[j]? := fun j hj => by
            have := hat j hj
            rwa [addr_plain, addr_plain] at this
          have hb : b < w.heap.size := by
            have := hat' 0 (by decide)
            rw [List.getElem?_eq_getElem (by omega)] at this
            exact World.block_lt_of_cell? _ _ this
          obtain ⟨p, rfl, hp⟩ := open_run ht
          exact ⟨p, fun _ => ⟨⟨hb, hat'⟩, hp⟩⟩
        · exact ⟨(0, 0), fun h => absurd h hil⟩
      obtain ⟨f, hf⟩ := Classical.axiomOfChoice hone
      have hlen : ((List.range len).map f).length = len := by simp
      refine ⟨_, (List.range len).map f, rfl, ⟨some ⟨b, off, none⟩, m, by rw [List.length_map, hlen], by rw [List.length_map, hlen]; exact hl, by omega, rnC_len _, fun _ => ⟨b, off, rfl, (hf 0 (by omega)).1.1, fun i hi j hj => ?_⟩⟩, ?_⟩
      · rw [List.length_map, hlen] at hi
        rw [(hf i hi).1.2 j hj]
        simp
      · intro p hp
        obtain ⟨i, hi, rfl⟩ := List.mem_map.1 hp
        have h9 := (hf i (List.mem_range.1 hi)).2
        exact ⟨h9.1.1, h9.1.2, h9.2.1, h9.2.2⟩
end
end Go.Proofs.Ythghkognpgndhaa
namespace Go.Proofs.Ythghkognpgndhaa
open Go.RowKit Go.ChangeShapes
set_option linter.unusedVariables false
theorem ent_spence_blob_Apart (args : Array Value) (w : World) : (callFunc 16 args).run Try.prog w = .ok (.enter 16 args) w := by kernel_rfl
end Go.Proofs.Ythghkognpgndhaa
