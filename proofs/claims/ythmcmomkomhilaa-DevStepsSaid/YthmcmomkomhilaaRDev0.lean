/- The document's own device: its head in memory; what turns the head alone. -/
import Derived.Test.YthmcmomkomhilaaBase
import Derived.Test.YthmcmomkomhilaaKit
import Derived.Test.YthmcmomkomhilaaDevL
namespace Go.Proofs.Ythmcmomkomhilaa
open Go.RowKit Go.ChangeShapes
set_option linter.unusedVariables false

theorem cell_put {w : World} {b i : Nat} {c : Array Value} {t : TypeId} {z : Nat × Nat} (u : Value) (h : w.heap[b]? = some (.cells c t z)) :
    (w.setCell ⟨b, i, none⟩ u).heap[b]? = some (.cells (c.setIfInBounds i u) t z) := by
  simp only [World.setCell, Array.getElem?_modify, h]
  simp
theorem Fr.cell1 (w : World) (b i : Nat) (u : Value) : Fr (· = b) w (w.setCell ⟨b, i, none⟩ u) := (Fr.refl (· = b) w).setCell (p := ⟨b, i, none⟩) (.inl rfl) u
/-- At block g lies the document's device: two slices (what is kept, what waits), its deeds, its fuse, is it down? -/
def DevH (w : World) (g : Nat) (va vw : Value) (k l : Int) (dn : Bool) : Prop :=
  w.heap[g]? = some (.cells #[va, vw, .int .i64 k, .int .i64 l, .bool dn] 61 (0, 0))
theorem DevH.keep {S : Nat → Prop} {w w' : World} {g : Nat} {va vw : Value} {k l : Int} {dn : Bool} (h : DevH w g va vw k l dn) (hf : Fr S w w') (hg : ¬ S g) : DevH w' g va vw k l dn := hf.heap h hg
theorem DevH.cells {w : World} {g : Nat} {va vw : Value} {k l : Int} {dn : Bool} (h : DevH w g va vw k l dn) :
    w.cell? ⟨g, 0, none⟩ = some va ∧ w.cell? ⟨g, 1, none⟩ = some vw ∧ w.cell? ⟨g, 2, none⟩ = some (.int .i64 k) ∧ w.cell? ⟨g, 3, none⟩ = some (.int .i64 l) ∧ w.cell? ⟨g, 4, none⟩ = some (.bool dn) := by
  refine ⟨?_, ?_, ?_, ?_, ?_⟩ <;> exact cell_of_row _ _ _ _ _ _ h
theorem DevH.free {w : World} {g : Nat} {va vw : Value} {k l : Int} {dn : Bool} (h : DevH w g va vw k l dn) (i : Nat) : w.frozen? ⟨g, i, none⟩ = false := frozen_of_row _ _ _ _ _ h
theorem DevH.put0 {w : World} {g : Nat} {va vw : Value} {k l : Int} {dn : Bool} (h : DevH w g va vw k l dn) (v : Value) : DevH (w.setCell ⟨g, 0, none⟩ v) g v vw k l dn := cell_put v h
theorem DevH.put1 {w : World} {g : Nat} {va vw : Value} {k l : Int} {dn : Bool} (h : DevH w g va vw k l dn) (v : Value) : DevH (w.setCell ⟨g, 1, none⟩ v) g va v k l dn := cell_put v h
theorem DevH.put2 {w : World} {g : Nat} {va vw : Value} {k l : Int} {dn : Bool} (h : DevH w g va vw k l dn) (k' : Int) : DevH (w.setCell ⟨g, 2, none⟩ (.int .i64 k')) g va vw k' l dn := cell_put _ h
theorem DevH.put3 {w : World} {g : Nat} {va vw : Value} {k l : Int} {dn : Bool} (h : DevH w g va vw k l dn) (l' : Int) : DevH (w.setCell ⟨g, 3, none⟩ (.int .i64 l')) g va vw k l' dn := cell_put _ h
theorem DevH.put4 {w : World} {g : Nat} {va vw : Value} {k l : Int} {dn : Bool} (h : DevH w g va vw k l dn) (b : Bool) : DevH (w.setCell ⟨g, 4, none⟩ (.bool b)) g va vw k l b := cell_put _ h

theorem rSectors_any (w : World) (g : Nat) (ao : Option Addr) (s cap : Nat) (vw : Value) (k l : Int) (dn : Bool) (h : DevH w g (.slice ao (64 * s) cap) vw k l dn) (hs : s ≤ 8192) :
    Calls Try.prog 36 #[.pointer (some ⟨g, 0, none⟩)] w fun e w' => e = .returned (.int .i64 s) ∧ w = w' := by
  obtain ⟨h0, _⟩ := h.cells
  have hq : ((64 * s : Nat) : Int) / 64 = (s : Int) := by omega
  have hq2 : ((64 * s : Nat) : Int).tdiv 64 = (s : Int) := by rw [Int.tdiv_eq_ediv_of_nonneg (by omega)]; exact hq
  generalize 64 * s = m at *
  go_enter Try.func36, Try.ntmps36
  go_wp2
  go_ret
  exact ⟨by first | rfl | (rw [hq2]) | (rw [hq]), rfl⟩
theorem rCrash_any (w : World) (g : Nat) (va vw : Value) (k l : Int) (dn : Bool) (h : DevH w g va vw k l dn) :
    Calls Try.prog 32 #[.pointer (some ⟨g, 0, none⟩)] w fun e w' => e = .returned (.int .i64 (if dn = true then 10 else 0)) ∧ DevH w' g va vw k l true ∧ Fr (· = g) w w' := by
  obtain ⟨_, _, _, _, h4⟩ := h.cells
  have hf4 := h.free 4
  have H := Lib.hid h
  clear h
  cases dn with
  | true =>
    go_enter Try.func32, Try.ntmps32
    go_wp2
    go_ret
    exact ⟨rfl, H.out, Fr.refl _ _⟩
  | false =>
    go_enter Try.func32, Try.ntmps32
    go_wp2
    go_ret
    exact ⟨rfl, H.out.put4 true, Fr.cell1 _ _ _ _⟩
theorem rFuse_any (w : World) (g : Nat) (va vw : Value) (k l : Int) (dn : Bool) (n : Int) (hn : n ≤ 9223372036854775807) (hn0 : -9223372036854775808 ≤ n) (h : DevH w g va vw k l dn) :
    Calls Try.prog 31 #[.pointer (some ⟨g, 0, none⟩), .int .i64 n] w fun e w' => e = .returned (.int .i64 (if dn = true then 10 else 0)) ∧ DevH w' g va vw k (if dn = true then l else max n 0) dn ∧ Fr (· = g) w w' := by
  obtain ⟨_, _, _, h3, h4⟩ := h.cells
  have hf3 := h.free 3
  have H := Lib.hid h
  clear h
  cases dn with
  | true =>
    go_enter Try.func31, Try.ntmps31
    go_wp2
    go_ret
    exact ⟨rfl, H.out, Fr.refl _ _⟩
  | false =>
    by_cases hp : n < 0
    · have hm : max n 0 = 0 := by omega
      rw [hm]
      go_enter Try.func31, Try.ntmps31
      go_wp2
      go_ret
      exact ⟨rfl, H.out.put3 _, Fr.cell1 _ _ _ _⟩
    · have hm : max n 0 = n := by omega
      rw [hm]
      go_enter Try.func31, Try.ntmps31
      go_wp2
      go_ret
      exact ⟨rfl, H.out.put3 _, Fr.cell1 _ _ _ _⟩
/-- A deed begins: none where the fuse is out. -/
theorem rdeed_any (w : World) (g : Nat) (va vw : Value) (k l : Int) (dn : Bool) (hk0 : 0 ≤ k) (hk : k ≤ 1000000000) (hl0 : 0 ≤ l) (hl : l ≤ 9223372036854775807) (h : DevH w g va vw k l dn) :
    Calls Try.prog 48 #[.pointer (some ⟨g, 0, none⟩)] w fun e w' => e = .returned (.bool (decide (l ≠ 1))) ∧ DevH w' g va vw (if l = 1 then k else k + 1) (if l = 0 then 0 else l - 1) (if l = 1 then true else dn) ∧ Fr (· = g) w w' := by
  obtain ⟨_, _, h2, h3, h4⟩ := h.cells
  have hf2 := h.free 2
  have hf3 := h.free 3
  have hf4 := h.free 4
  have H := Lib.hid h
  clear h
  by_cases h1 : l = 1
  · subst h1
    go_enter Try.func48, Try.ntmps48
    go_wp2
    go_ret
    exact ⟨rfl, (H.out.put3 0).put4 true, (Fr.cell1 _ _ _ _).trans (Fr.cell1 _ _ _ _) (fun _ h => .inl h)⟩
  · by_cases h0 : l = 0
    · subst h0
      go_enter Try.func48, Try.ntmps48
      go_wp2
      go_ret
      exact ⟨rfl, H.out.put2 _, Fr.cell1 _ _ _ _⟩
    · have hn : decide (l ≠ 1) = true := by rw [decide_eq_true_iff]; exact h1
      rw [hn, if_neg h1, if_neg h0, if_neg h1]
      have hd1 : (l == 1) = false := by rw [beq_eq_false_iff_ne]; exact h1
      have hd2 : decide (0 < l) = true := by rw [decide_eq_true_iff]; omega
      have hp : 0 < l := by omega
      go_enter Try.func48, Try.ntmps48
      go_wp2
      go_ret
      exact ⟨rfl, (H.out.put3 _).put2 _, (Fr.cell1 _ _ _ _).trans (Fr.cell1 _ _ _ _) (fun _ h => .inl h)⟩
end Go.Proofs.Ythmcmomkomhilaa
