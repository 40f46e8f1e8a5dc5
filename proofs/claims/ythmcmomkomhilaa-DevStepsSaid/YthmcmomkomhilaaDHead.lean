/- dev's own device: its head in memory; what turns the head alone. -/
import Derived.Test.YthmcmomkomhilaaBase
import Derived.Test.YthmcmomkomhilaaKit
import Derived.Test.YthmcmomkomhilaaRDev0
import Derived.LaidEqlPtr
namespace Go.Proofs.Ythmcmomkomhilaa
open Go.RowKit Go.ChangeShapes
set_option linter.unusedVariables false

/-- At block g lies a device: its deeds, its fuse, is it down?, what is pending; what is kept (s sectors at block kb); itself. -/
def DvH (w : World) (g kb s : Nat) (vw : Value) (k l : Int) (dn : Bool) : Prop :=
  w.heap[g]? = some (.cells #[.int .i64 k, .int .i64 l, .bool dn, vw, .slice (some ⟨kb, 0, none⟩) s s, .pointer (some ⟨g, 0, none⟩)] 58 (0, 0))
section
variable {S : Nat → Prop} {w w' : World} {g kb s : Nat} {vw : Value} {k l : Int} {dn : Bool}
theorem DvH.keep (h : DvH w g kb s vw k l dn) (hf : Fr S w w') (hg : ¬ S g) : DvH w' g kb s vw k l dn := hf.heap h hg
theorem DvH.cells (h : DvH w g kb s vw k l dn) :
    w.cell? ⟨g, 0, none⟩ = some (.int .i64 k) ∧ w.cell? ⟨g, 1, none⟩ = some (.int .i64 l) ∧ w.cell? ⟨g, 2, none⟩ = some (.bool dn) ∧ w.cell? ⟨g, 3, none⟩ = some vw ∧ w.cell? ⟨g, 4, none⟩ = some (.slice (some ⟨kb, 0, none⟩) s s) ∧ w.cell? ⟨g, 5, none⟩ = some (.pointer (some ⟨g, 0, none⟩)) := by
  refine ⟨?_, ?_, ?_, ?_, ?_, ?_⟩ <;> exact cell_of_row _ _ _ _ _ _ h
theorem DvH.free (h : DvH w g kb s vw k l dn) (i : Nat) : w.frozen? ⟨g, i, none⟩ = false := frozen_of_row _ _ _ _ _ h
theorem DvH.put0 (h : DvH w g kb s vw k l dn) (k' : Int) : DvH (w.setCell ⟨g, 0, none⟩ (.int .i64 k')) g kb s vw k' l dn := cell_put _ h
theorem DvH.put1 (h : DvH w g kb s vw k l dn) (l' : Int) : DvH (w.setCell ⟨g, 1, none⟩ (.int .i64 l')) g kb s vw k l' dn := cell_put _ h
theorem DvH.put2 (h : DvH w g kb s vw k l dn) (b : Bool) : DvH (w.setCell ⟨g, 2, none⟩ (.bool b)) g kb s vw k l b := cell_put _ h
theorem DvH.put3 (h : DvH w g kb s vw k l dn) (v : Value) : DvH (w.setCell ⟨g, 3, none⟩ v) g kb s v k l dn := cell_put v h
theorem DvH.lt (h : DvH w g kb s vw k l dn) : g < w.heap.size := lt_of_block h
end
theorem run_eql_dev (w : World) (a : Addr) : (binOp .eql 25 (.pointer (some a)) (.pointer (some a))).run Try.prog w = .ok (.bool true) w := by
  have hi : (Try.prog.info? 58).isSome = true := by kernel_rfl
  obtain ⟨j, hte⟩ := Option.isSome_iff_exists.1 hi
  exact run_eql_ptr_same (P := Try.prog) w a Try.underlying25 hte

/-- What is no device: nil, or one that New did not tell. -/
def NoDv (w : World) (p : Value) : Prop := p = .pointer none ∨ ∃ g, p = .pointer (some ⟨g, 0, none⟩) ∧ w.cell? ⟨g, 5, none⟩ = some (.pointer none)

theorem dIs_yes (w : World) (g kb s : Nat) (vw : Value) (k l : Int) (dn : Bool) (h : DvH w g kb s vw k l dn) :
    Calls Try.prog 42 #[.pointer (some ⟨g, 0, none⟩)] w fun e w' => e = .returned (.bool true) ∧ w = w' := by
  have heq := run_eql_dev
  obtain ⟨_, _, _, _, _, h5⟩ := h.cells
  clear h
  go_enter Try.func42, Try.ntmps42
  go_wp2
  go_ret
  exact ⟨rfl, rfl⟩
theorem dReady_any (w : World) (g kb s : Nat) (vw : Value) (k l : Int) (dn : Bool) (h : DvH w g kb s vw k l dn) :
    Calls Try.prog 37 #[.pointer (some ⟨g, 0, none⟩)] w fun e w' => e = .returned (.int .i64 (if dn = true then 10 else 0)) ∧ w = w' := by
  have hc := dIs_yes w g kb s vw k l dn h
  obtain ⟨_, _, h2, _⟩ := h.cells
  clear h
  cases dn with
  | true =>
    go_enter Try.func37, Try.ntmps37
    go_wp2_with (go_at_call 42; refine hc.mono ?_; rintro e w1 ⟨rfl, rfl⟩)
    go_ret
    exact ⟨rfl, rfl⟩
  | false =>
    go_enter Try.func37, Try.ntmps37
    go_wp2_with (go_at_call 42; refine hc.mono ?_; rintro e w1 ⟨rfl, rfl⟩)
    go_ret
    exact ⟨rfl, rfl⟩
theorem dFall_any (w : World) (g kb s : Nat) (vw : Value) (k l : Int) (dn : Bool) (h : DvH w g kb s vw k l dn) :
    Calls Try.prog 43 #[.pointer (some ⟨g, 0, none⟩)] w fun e w' => e = .returned (.tuple #[]) ∧ DvH w' g kb s vw k l true ∧ Fr (· = g) w w' := by
  obtain ⟨_, _, h2, _⟩ := h.cells
  have hf := h.free 2
  have H := Lib.hid h
  clear h
  go_enter Try.func43, Try.ntmps43
  go_wp2
  refine bodyPost_end (results_none rfl _ _ _) rfl ?_
  exact ⟨rfl, H.out.put2 true, Fr.cell1 _ _ _ _⟩
theorem dRise_any (w : World) (g kb s : Nat) (vw : Value) (k l : Int) (dn : Bool) (h : DvH w g kb s vw k l dn) :
    Calls Try.prog 44 #[.pointer (some ⟨g, 0, none⟩)] w fun e w' => e = .returned (.tuple #[]) ∧ DvH w' g kb s vw k 0 false ∧ Fr (· = g) w w' := by
  obtain ⟨_, h1, h2, _⟩ := h.cells
  have hf := h.free 2
  have hf1 := h.free 1
  have H := Lib.hid h
  clear h
  go_enter Try.func44, Try.ntmps44
  go_wp2
  refine bodyPost_end (results_none rfl _ _ _) rfl ?_
  exact ⟨rfl, (H.out.put2 false).put1 0, (Fr.cell1 _ _ _ _).trans (Fr.cell1 _ _ _ _) (fun _ h => .inl h)⟩
theorem dLight_any (w : World) (g kb s : Nat) (vw : Value) (k l : Int) (dn : Bool) (n : Int) (hn : n ≤ 9223372036854775807) (hn0 : -9223372036854775808 ≤ n) (h : DvH w g kb s vw k l dn) :
    Calls Try.prog 45 #[.pointer (some ⟨g, 0, none⟩), .int .i64 n] w fun e w' => e = .returned (.tuple #[]) ∧ DvH w' g kb s vw k (max n 0) dn ∧ Fr (· = g) w w' := by
  obtain ⟨_, h1, _⟩ := h.cells
  have hf1 := h.free 1
  have H := Lib.hid h
  clear h
  by_cases hp : n < 0
  · have hm : max n 0 = 0 := by omega
    rw [hm]
    go_enter Try.func45, Try.ntmps45
    go_wp2
    refine bodyPost_end (results_none rfl _ _ _) rfl ?_
    exact ⟨rfl, H.out.put1 _, Fr.cell1 _ _ _ _⟩
  · have hm : max n 0 = n := by omega
    rw [hm]
    go_enter Try.func45, Try.ntmps45
    go_wp2
    refine bodyPost_end (results_none rfl _ _ _) rfl ?_
    exact ⟨rfl, H.out.put1 _, Fr.cell1 _ _ _ _⟩
/-- A deed begins: none where the fuse is out. -/
theorem dDeed_any (w : World) (g kb s : Nat) (vw : Value) (k l : Int) (dn : Bool) (hk0 : 0 ≤ k) (hk : k ≤ 1000000000) (hl0 : 0 ≤ l) (hl : l ≤ 9223372036854775807) (h : DvH w g kb s vw k l dn) :
    Calls Try.prog 39 #[.pointer (some ⟨g, 0, none⟩)] w fun e w' => e = .returned (.bool (decide (l ≠ 1))) ∧ DvH w' g kb s vw (if l = 1 then k else k + 1) (if l = 0 ∨ l = 1 then l else l - 1) (if l = 1 then true else dn) ∧ Fr (· = g) w w' := by
  obtain ⟨h0, h1, h2, _⟩ := h.cells
  have hf0 := h.free 0
  have hf1 := h.free 1
  have H := Lib.hid h
  by_cases e1 : l = 1
  · subst e1
    have hc := Lib.hid (dFall_any w g kb s vw k 1 dn h)
    clear h
    go_enter Try.func39, Try.ntmps39
    go_wp2_with (go_at_call 43; refine hc.out.mono ?_; rintro e w1 ⟨rfl, hh, hf⟩; (have HS := Lib.hid (And.intro hh hf)); clear hh hf)
    go_ret
    exact ⟨rfl, HS.out.1, HS.out.2⟩
  · clear h
    by_cases e0 : l = 0
    · subst e0
      go_enter Try.func39, Try.ntmps39
      go_wp2
      go_ret
      exact ⟨rfl, H.out.put0 _, Fr.cell1 _ _ _ _⟩
    · have hn : decide (l ≠ 1) = true := by rw [decide_eq_true_iff]; exact e1
      rw [hn, if_neg e1, if_neg (by omega), if_neg e1]
      have hd1 : (l == 1) = false := by rw [beq_eq_false_iff_ne]; exact e1
      have hd0 : (l == 0) = false := by rw [beq_eq_false_iff_ne]; exact e0
      go_enter Try.func39, Try.ntmps39
      go_wp2
      go_ret
      exact ⟨rfl, (H.out.put1 _).put0 _, (Fr.cell1 _ _ _ _).trans (Fr.cell1 _ _ _ _) (fun _ h => .inl h)⟩
theorem dHas_any (w : World) (g kb s : Nat) (vw : Value) (k l : Int) (dn : Bool) (a : Int) (h : DvH w g kb s vw k l dn) :
    Calls Try.prog 38 #[.pointer (some ⟨g, 0, none⟩), .int .i64 a] w fun e w' => e = .returned (.bool (decide (0 ≤ a ∧ a < (s : Int)))) ∧ w = w' := by
  obtain ⟨_, _, _, _, h4, _⟩ := h.cells
  clear h
  by_cases h0 : 0 ≤ a
  · have hd : decide (0 ≤ a) = true := by rw [decide_eq_true_iff]; exact h0
    by_cases h1 : a < (s : Int)
    · have hd1 : decide (a < (s : Int)) = true := by rw [decide_eq_true_iff]; exact h1
      rw [show decide (0 ≤ a ∧ a < (s : Int)) = true by rw [decide_eq_true_iff]; exact ⟨h0, h1⟩]
      go_enter Try.func38, Try.ntmps38
      go_wp2
      go_ret
      exact ⟨rfl, rfl⟩
    · have hd1 : decide (a < (s : Int)) = false := by rw [decide_eq_false_iff_not]; exact h1
      rw [show decide (0 ≤ a ∧ a < (s : Int)) = false by rw [decide_eq_false_iff_not]; exact fun h => h1 h.2]
      go_enter Try.func38, Try.ntmps38
      go_wp2
      go_ret
      exact ⟨rfl, rfl⟩
  · have hd : decide (0 ≤ a) = false := by rw [decide_eq_false_iff_not]; exact h0
    rw [show decide (0 ≤ a ∧ a < (s : Int)) = false by rw [decide_eq_false_iff_not]; exact fun h => h0 h.1]
    go_enter Try.func38, Try.ntmps38
    go_wp2
    go_ret
    exact ⟨rfl, rfl⟩
theorem dCrash_any (w : World) (g kb s : Nat) (vw : Value) (k l : Int) (dn : Bool) (h : DvH w g kb s vw k l dn) :
    Calls Try.prog 19 #[.pointer (some ⟨g, 0, none⟩)] w fun e w' => e = .returned (.int .i64 (if dn = true then 10 else 0)) ∧ DvH w' g kb s vw k l true ∧ Fr (· = g) w w' := by
  have hc := dReady_any w g kb s vw k l dn h
  have hd := Lib.hid (dFall_any w g kb s vw k l dn h)
  have H := Lib.hid h
  clear h
  cases dn with
  | true =>
    go_enter Try.func19, Try.ntmps19
    go_wp2_with (go_at_call 37; refine hc.mono ?_; rintro e w1 ⟨rfl, rfl⟩)
    go_ret
    exact ⟨rfl, H.out, Fr.refl _ _⟩
  | false =>
    go_enter Try.func19, Try.ntmps19
    go_wp2_with (first | (go_at_call 37; refine hc.mono ?_; rintro e w1 ⟨rfl, rfl⟩) | (go_at_call 43; refine hd.out.mono ?_; rintro e w1 ⟨rfl, hh, hf⟩; (have HS := Lib.hid (And.intro hh hf)); clear hh hf))
    go_ret
    exact ⟨rfl, HS.out.1, HS.out.2⟩
theorem dFuse_any (w : World) (g kb s : Nat) (vw : Value) (k l : Int) (dn : Bool) (n : Int) (hn : n ≤ 9223372036854775807) (hn0 : -9223372036854775808 ≤ n) (h : DvH w g kb s vw k l dn) :
    Calls Try.prog 22 #[.pointer (some ⟨g, 0, none⟩), .int .i64 n] w fun e w' => e = .returned (.int .i64 (if dn = true then 10 else 0)) ∧ DvH w' g kb s vw k (if dn = true then l else max n 0) dn ∧ Fr (· = g) w w' := by
  have hc := dReady_any w g kb s vw k l dn h
  have hd := Lib.hid (dLight_any w g kb s vw k l dn n hn hn0 h)
  have H := Lib.hid h
  clear h
  cases dn with
  | true =>
    go_enter Try.func22, Try.ntmps22
    go_wp2_with (go_at_call 37; refine hc.mono ?_; rintro e w1 ⟨rfl, rfl⟩)
    go_ret
    exact ⟨rfl, H.out, Fr.refl _ _⟩
  | false =>
    go_enter Try.func22, Try.ntmps22
    go_wp2_with (first | (go_at_call 37; refine hc.mono ?_; rintro e w1 ⟨rfl, rfl⟩) | (go_at_call 45; refine hd.out.mono ?_; rintro e w1 ⟨rfl, hh, hf⟩; (have HS := Lib.hid (And.intro hh hf)); clear hh hf))
    go_ret
    exact ⟨rfl, HS.out.1, HS.out.2⟩
end Go.Proofs.Ythmcmomkomhilaa
