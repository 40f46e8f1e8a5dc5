/- Laid together: JStep JJn JStep2 -/
import Derived.Test.YtldgcoikbjbjeaaGreatTk15
import Derived.Test.YtldgcoikbjbjeaaGreatTk17
import Derived.StillTailTactics

namespace Go.Proofs.YtldgcoikbjbjeaaGreat
open Go.RowKit Go.ChangeShapes
set_option linter.unusedVariables false
def Dv.tell (d : Dv) (s : Nat) (h : List UInt8) : Int × Dv := if (d.write s 0 h).1 = 0 then (d.write s 0 h).2.flush else d.write s 0 h
theorem Dv.commit_eq (d : Dv) (s : Nat) (ps : List Pend) (h : List UInt8) : d.commit s ps h =
    if (d.puts s ps).1 = 0 then (if (d.puts s ps).2.flush.1 = 0 then (d.puts s ps).2.flush.2.tell s h else (d.puts s ps).2.flush) else d.puts s ps := by
  unfold Dv.commit Dv.tell
  by_cases h1 : (d.puts s ps).1 = 0
  · rw [if_neg (fun h => h h1), if_pos h1]
    by_cases h2 : (d.puts s ps).2.flush.1 = 0
    · rw [if_neg (fun h => h h2), if_pos h2]
      by_cases h3 : ((d.puts s ps).2.flush.2.write s 0 h).1 = 0
      · rw [if_neg (fun h => h h3), if_pos h3]
      · rw [if_pos h3, if_neg h3]
    · rw [if_pos h2, if_neg h2]
  · rw [if_pos h1, if_neg h1]
theorem Dv.write_small (d : Dv) (s : Nat) (a : Int) (b : List UInt8) : (d.write s a b).2.deeds ≤ d.deeds + 1 ∧ (d.write s a b).2.waits.length ≤ d.waits.length + 1 := by
  by_cases h1 : d.down = true
  · rw [Dv.write_down h1]
    exact ⟨by simp only; omega, by simp only; omega⟩
  · have h1' : d.down = false := by simpa using h1
    by_cases h2 : a < 0 ∨ (s : Int) ≤ a ∨ 64 < b.length
    · rw [Dv.write_arg h1' h2]
      exact ⟨by simp only; omega, by simp only; omega⟩
    · by_cases h3 : d.left = 1
      · rw [Dv.write_out h1' h2 h3]
        exact ⟨by simp only; omega, by simp only; omega⟩
      · rw [Dv.write_ok h1' h2 h3]
        exact ⟨by simp, by simp⟩
set_option maxRecDepth 100000 in
set_option maxHeartbeats 1000000 in
theorem lTell_any {D : Nat → Prop} (w : World) (g s : Nat) (dv : Dv) (h : Hd) (hn : h.Num) (hd : DevAt w D g s dv) (hk6 : dv.deeds ≤ 990000000) (hw6 : dv.waits.length ≤ 900000) :
    Calls Tryz.prog 52 #[.pointer (some ⟨g, 0, none⟩), .agg #[.int .i64 h.area, .int .i64 h.size, .int .i64 h.used, .int .i64 h.round]] w (WritePost D w g s (dv.tell s h.sec)) := by
  obtain ⟨W1, hW1⟩ : ∃ W1, W1 = w.alloc (.cells #[.int .i64 h.area, .int .i64 h.size, .int .i64 h.used, .int .i64 h.round] 106) := ⟨_, rfl⟩
  have hf1 : Fr (fun _ => False) w W1 := by rw [hW1]; exact (Fr.refl _ _).alloc _
  have hd1 := (hd.mono (E := fun j => D j ∧ j < w.heap.size) (fun j hj h => ⟨h, hj⟩)).keep hf1 (fun _ _ _ h => h)
  have HB := Lib.hid (lBytes_any W1 h hn)
  have HD := Lib.hid (And.intro hd1 (And.intro hk6 hw6))
  have HW := Lib.hid (And.intro hW1 hf1)
  have HSM := Lib.hid (dv.write_small s 0 h.sec)
  obtain ⟨r, hr⟩ : ∃ r, r = dv.write s 0 h.sec := ⟨_, rfl⟩
  have HR := Lib.hid hr
  obtain ⟨x1, hx1⟩ : ∃ x, x = h.area := ⟨_, rfl⟩
  obtain ⟨x2, hx2⟩ : ∃ x, x = h.size := ⟨_, rfl⟩
  obtain ⟨x3, hx3⟩ : ∃ x, x = h.used := ⟨_, rfl⟩
  obtain ⟨x4, hx4⟩ : ∃ x, x = h.round := ⟨_, rfl⟩
  rw [← hx1, ← hx2, ← hx3, ← hx4] at HW HB ⊢
  have hwr := fun (w1 : World) (v : Value) (hb : BytesIn (fun k => W1.heap.size ≤ k) w1 v h.sec) (hf : Fr (fun _ => False) W1 w1) => aWrite w1 g s dv 0 v h.sec (by decide) (by decide) (by have := HD.out.2.1; omega) (by have := HD.out.2.2; omega) hb (fun k hk h1 h2 => by have := h2.2; have := HW.out.2.size; omega) (HD.out.1.keep hf (fun _ _ _ h => h))
  rw [← hr] at hwr HSM
  obtain ⟨e, he⟩ : ∃ e, e = r.1 := ⟨_, rfl⟩
  rw [← he] at hwr
  have HWR := Lib.hid hwr
  have HE := Lib.hid he
  unfold Dv.tell
  rw [← hr, ← he]
  clear hd hk6 hw6 hf1 hd1 hW1 hr he hwr hx1 hx2 hx3 hx4
  by_cases h0 : e = 0
  · rw [if_pos h0]
    subst h0
    obtain ⟨r2, hr2⟩ : ∃ r2, r2 = r.2.flush := ⟨_, rfl⟩
    rw [← hr2]
    obtain ⟨e2, he2⟩ : ∃ e, e = r2.1 := ⟨_, rfl⟩
    have HR2 := Lib.hid (And.intro hr2 he2)
    clear hr2 he2
    go_enter Tryz.func52, Tryz.ntmps52
    go_wp2_with (first
      | (go_at_call 89; rw [← HW.out.1]; refine HB.out.mono ?_; rintro e w1 ⟨v, rfl, ho1, hf1⟩; (have H1 := Lib.hid (And.intro ho1 hf1)); clear ho1 hf1)
      | (go_at_call 88; refine (HWR.out w1 v H1.out.1.bytes H1.out.2).mono ?_; rintro e w2 ⟨rfl, hd2, hf2⟩; (have H2 := Lib.hid (And.intro hd2 hf2)); clear hd2 hf2)
      | (go_at_call 90; refine (aFlush w2 g s r.2 (by have := HSM.out.1; have := HD.out.2.1; omega) (by have := HSM.out.2; have := HD.out.2.2; omega) H2.out.1).mono ?_; rintro e w3 ⟨rfl, hd3, hf3⟩; (have H3 := Lib.hid (And.intro hd3 hf3)); clear hd3 hf3))
    go_ret
    unfold WritePost
    have s1 := HW.out.2.size
    have s2 := H1.out.2.size
    have s3 := H2.out.2.size
    rw [HR2.out.1]
    refine ⟨rfl, H3.out.1.mono fun k _ hk => ?_, ((HW.out.2.trans H1.out.2 (fun _ h => h.elim)).mono (T := D) (fun _ _ h => h.elim)).trans (H2.out.2.trans (T := fun k => (D k ∧ k < w.heap.size) ∨ w1.heap.size ≤ k) H3.out.2 (fun k hk => hk.elim (fun h => .inl h) (fun h => .inr h))) (fun k hk => .inl hk.1)⟩
    rcases hk with (hk | hk) | hk
    · exact .inl hk.1
    · exact .inr (by omega)
    · exact .inr (by omega)
  · rw [if_neg h0]
    have hb : (e != 0) = true := by rw [bne_iff_ne]; exact h0
    clear h0
    go_enter Tryz.func52, Tryz.ntmps52
    go_wp2_with (first
      | (go_at_call 89; rw [← HW.out.1]; refine HB.out.mono ?_; rintro e w1 ⟨v, rfl, ho1, hf1⟩; (have H1 := Lib.hid (And.intro ho1 hf1)); clear ho1 hf1)
      | (go_at_call 88; refine (HWR.out w1 v H1.out.1.bytes H1.out.2).mono ?_; rintro e w2 ⟨rfl, hd2, hf2⟩; (have H2 := Lib.hid (And.intro hd2 hf2)); clear hd2 hf2))
    go_ret
    unfold WritePost
    have s1 := HW.out.2.size
    have s2 := H1.out.2.size
    refine ⟨by rw [HE.out]; rfl, H2.out.1.mono fun k _ hk => ?_, ((HW.out.2.trans H1.out.2 (fun _ h => h.elim)).mono (T := D) (fun _ _ h => h.elim)).trans H2.out.2 (fun k hk => .inl hk.1)⟩
    rcases hk with hk | hk
    · exact .inl hk.1
    · exact .inr (by omega)
end Go.Proofs.YtldgcoikbjbjeaaGreat
namespace Go.Proofs.YtldgcoikbjbjeaaGreat
open Go.RowKit Go.ChangeShapes
set_option linter.unusedVariables false
def JnAt (w : World) (j g : Nat) (h : Hd) (l la d : Nat) (dn : Bool) : Prop :=
  w.heap[j]? = some (.cells #[.int .i64 h.area, .int .i64 h.size, .int .i64 h.used, .int .i64 h.round, .pointer (some ⟨g, 0, none⟩), .int .i64 l, .int .i64 la, .int .i64 d, .bool dn, .pointer (some ⟨j, 0, none⟩)] 114 (0, 0))
section
variable {S : Nat → Prop} {w w' : World} {j g l la d : Nat} {h : Hd} {dn : Bool}
theorem JnAt.keep (hj : JnAt w j g h l la d dn) (hf : Fr S w w') (hS : ¬ S j) : JnAt w' j g h l la d dn := hf.heap hj hS
theorem JnAt.lt (hj : JnAt w j g h l la d dn) : j < w.heap.size := lt_of_block hj
theorem JnAt.cells (hj : JnAt w j g h l la d dn) :
    w.cell? ⟨j, 0, none⟩ = some (.int .i64 h.area) ∧ w.cell? ⟨j, 1, none⟩ = some (.int .i64 h.size) ∧ w.cell? ⟨j, 2, none⟩ = some (.int .i64 h.used) ∧ w.cell? ⟨j, 3, none⟩ = some (.int .i64 h.round) ∧ w.cell? ⟨j, 4, none⟩ = some (.pointer (some ⟨g, 0, none⟩)) ∧
    w.cell? ⟨j, 5, none⟩ = some (.int .i64 l) ∧ w.cell? ⟨j, 6, none⟩ = some (.int .i64 la) ∧ w.cell? ⟨j, 7, none⟩ = some (.int .i64 d) ∧ w.cell? ⟨j, 8, none⟩ = some (.bool dn) ∧ w.cell? ⟨j, 9, none⟩ = some (.pointer (some ⟨j, 0, none⟩)) := by
  refine ⟨?_, ?_, ?_, ?_, ?_, ?_, ?_, ?_, ?_, ?_⟩ <;> exact cell_of_row _ _ _ _ _ _ hj
theorem JnAt.free (hj : JnAt w j g h l la d dn) (i : Nat) : w.frozen? ⟨j, i, none⟩ = false := frozen_of_row _ _ _ _ _ hj
theorem JnAt.fall (hj : JnAt w j g h l la d dn) : JnAt (w.setCell ⟨j, 8, none⟩ (.bool true)) j g h l la d true := cell_put _ hj
theorem JnAt.head (hj : JnAt w j g h l la d dn) (h' : Hd) : JnAt ((((w.setCell ⟨j, 0, none⟩ (.int .i64 h'.area)).setCell ⟨j, 1, none⟩ (.int .i64 h'.size)).setCell ⟨j, 2, none⟩ (.int .i64 h'.used)).setCell ⟨j, 3, none⟩ (.int .i64 h'.round)) j g h' l la d dn :=
  cell_put _ (cell_put _ (cell_put _ (cell_put _ hj)))
end
theorem run_eql_jn (w : World) (a : Addr) : (binOp .eql 76 (.pointer (some a)) (.pointer (some a))).run Tryz.prog w = .ok (.bool true) w := by
  have hi : (Tryz.prog.info? 114).isSome = true := by kernel_rfl
  obtain ⟨j, hte⟩ := Option.isSome_iff_exists.1 hi
  exact run_eql_ptr_same (P := Tryz.prog) w a Tryz.underlying76 hte
theorem jIs_any (w : World) (j g : Nat) (h : Hd) (l la d : Nat) (dn : Bool) (hj : JnAt w j g h l la d dn) :
    Calls Tryz.prog 134 #[.pointer (some ⟨j, 0, none⟩)] w fun e w' => e = .returned (.bool true) ∧ w = w' := by
  have heq := run_eql_jn
  obtain ⟨_, _, _, _, _, _, _, _, _, h9⟩ := hj.cells
  clear hj
  go_enter Tryz.func134, Tryz.ntmps134
  go_wp2
  go_ret
  exact ⟨rfl, rfl⟩
theorem jReady_any (w : World) (j g : Nat) (h : Hd) (l la d : Nat) (dn : Bool) (hj : JnAt w j g h l la d dn) :
    Calls Tryz.prog 100 #[.pointer (some ⟨j, 0, none⟩)] w fun e w' => e = .returned (.int .i64 (if dn = true then 10 else 0)) ∧ w = w' := by
  have hc := jIs_any w j g h l la d dn hj
  obtain ⟨_, _, _, _, _, _, _, _, h8, _⟩ := hj.cells
  clear hj
  cases dn with
  | true =>
    go_enter Tryz.func100, Tryz.ntmps100
    go_wp2_with (go_at_call 134; refine hc.mono ?_; rintro e w1 ⟨rfl, rfl⟩)
    go_ret
    exact ⟨rfl, rfl⟩
  | false =>
    go_enter Tryz.func100, Tryz.ntmps100
    go_wp2_with (go_at_call 134; refine hc.mono ?_; rintro e w1 ⟨rfl, rfl⟩)
    go_ret
    exact ⟨rfl, rfl⟩
theorem jHeed_no (w : World) (j : Nat) : Calls Tryz.prog 135 #[.pointer (some ⟨j, 0, none⟩), .int .i64 0] w fun e w' => e = .returned (.tuple #[]) ∧ w = w' := by
  go_enter Tryz.func135, Tryz.ntmps135
  go_wp2
  refine bodyPost_end (results_none rfl _ _ _) rfl ?_
  exact ⟨rfl, rfl⟩
theorem jHeed_yes (w : World) (j g : Nat) (h : Hd) (l la d : Nat) (dn : Bool) (hj : JnAt w j g h l la d dn) (e0 : Int) (he : e0 ≠ 0) :
    Calls Tryz.prog 135 #[.pointer (some ⟨j, 0, none⟩), .int .i64 e0] w fun e w' => e = .returned (.tuple #[]) ∧ JnAt w' j g h l la d true ∧ Fr (· = j) w w' := by
  have hb : (e0 != 0) = true := by rw [bne_iff_ne]; exact he
  obtain ⟨_, _, _, _, _, _, _, _, h8, _⟩ := hj.cells
  have hf := hj.free 8
  have HJ := Lib.hid hj
  clear hj he
  go_enter Tryz.func135, Tryz.ntmps135
  go_wp2
  refine bodyPost_end (results_none rfl _ _ _) rfl ?_
  exact ⟨rfl, HJ.out.fall, Fr.cell1 _ _ _ _⟩
theorem jRound_any (w : World) (j g : Nat) (h : Hd) (l la d : Nat) (hj : JnAt w j g h l la d false) :
    Calls Tryz.prog 103 #[.pointer (some ⟨j, 0, none⟩)] w fun e w' => e = .returned (.int .i64 h.round) ∧ Fr (fun _ => False) w w' := by
  have hc := jIs_any w j g h l la d false hj
  have hr := jReady_any w j g h l la d false hj
  obtain ⟨_, _, _, h3, _⟩ := hj.cells
  obtain ⟨x, hx⟩ : ∃ x, x = h.round := ⟨_, rfl⟩
  rw [← hx] at h3 ⊢
  clear hj hx
  go_enter Tryz.func103, Tryz.ntmps103
  go_wp2_with (first
    | (go_at_call 134; refine hc.mono ?_; rintro e w1 ⟨rfl, rfl⟩)
    | (go_at_call 100; refine hr.mono ?_; rintro e w1 ⟨rfl, rfl⟩))
  go_ret
  exact ⟨rfl, Fr.refl _ _⟩
end Go.Proofs.YtldgcoikbjbjeaaGreat
namespace Go.Proofs.YtldgcoikbjbjeaaGreat
open Go.RowKit Go.ChangeShapes
set_option linter.unusedVariables false
theorem row4_cells {w : World} {g : Nat} {a b c d : Value} {T : TypeId} (h : w.heap[g]? = some (.cells #[a, b, c, d] T (0, 0))) : w.cell? ⟨g, 0, none⟩ = some a ∧ w.cell? ⟨g, 1, none⟩ = some b ∧ w.cell? ⟨g, 2, none⟩ = some c ∧ w.cell? ⟨g, 3, none⟩ = some d :=
  ⟨cell_of_row _ _ _ _ _ _ h, cell_of_row _ _ _ _ _ _ h, cell_of_row _ _ _ _ _ _ h, cell_of_row _ _ _ _ _ _ h⟩
def StepPost (D : Nat → Prop) (w : World) (j g s l la d : Nat) (h h' : Hd) (r : Int × Dv) (e : Ending) (w' : World) : Prop :=
  e = .returned (.int .i64 r.1) ∧ DevAt w' (More D w) g s r.2 ∧ JnAt w' j g (if r.1 = 0 then h' else h) l la d (if r.1 = 0 then false else true) ∧ Fr (fun k => D k ∨ k = j) w w'
abbrev Own (D : Nat → Prop) (w W1 : World) : Nat → Prop := fun k => (D k ∧ k < w.heap.size) ∨ W1.heap.size ≤ k
structure Amid (D : Nat → Prop) (w W1 w2 : World) (j g s l la d : Nat) (h h' : Hd) (dn : Bool) (dv : Dv) : Prop where
  dev : DevAt w2 (Own D w W1) g s dv
  jn : JnAt w2 j g h l la d dn
  box : w2.heap[w.heap.size]? = some (.cells #[.int .i64 h'.area, .int .i64 h'.size, .int .i64 h'.used, .int .i64 h'.round] 106 (0, 0))
  fr : Fr (fun k => Own D w W1 k ∨ k = j) W1 w2
theorem Amid.go {D E : Nat → Prop} {w W1 w2 w3 : World} {j g s l la d : Nat} {h h' : Hd} {dn : Bool} {dv dv' : Dv} (a : Amid D w W1 w2 j g s l la d h h' dn dv) (hj : j < w.heap.size) (hjD : ¬ D j) (hw : w.heap.size < W1.heap.size)
    (hd : DevAt w3 (More (Own D w W1) w2) g s dv') (hf : Fr (Own D w W1) w2 w3) : Amid D w W1 w3 j g s l la d h h' dn dv' := by
  have hs := a.fr.size
  refine ⟨hd.mono fun k _ hk => hk.elim id (fun h => .inr (by omega)), a.jn.keep hf (fun hh => ?_), hf.heap a.box (fun hh => ?_), a.fr.trans hf fun k hk => .inl (.inl hk)⟩
  · rcases hh with hh | hh
    · exact hjD hh.1
    · omega
  · rcases hh with hh | hh
    · omega
    · omega
theorem Amid.post {D : Nat → Prop} {w W1 w2 w3 : World} {j g s l la d : Nat} {h h' h3 : Hd} {dn dn3 : Bool} {dv : Dv} (hw1 : Fr (fun _ => False) w W1) (hw : w.heap.size < W1.heap.size) (a : Amid D w W1 w2 j g s l la d h h' dn dv) (hj : j < w.heap.size) (hjD : ¬ D j)
    (hj3 : JnAt w3 j g h3 l la d dn3) (hf : Fr (· = j) w2 w3) : DevAt w3 (More D w) g s dv ∧ JnAt w3 j g h3 l la d dn3 ∧ Fr (fun k => D k ∨ k = j) w w3 := by
  refine ⟨(a.dev.keep hf (fun k _ hk e => ?_)).mono (fun k _ hk => hk.elim (fun h => .inl h.1) (fun h => .inr (by omega))), hj3, (hw1.mono (fun _ _ h => h.elim)).trans (a.fr.trans (T := (· = j)) hf (fun k hk => .inl (.inr hk))) (fun k hk => ?_)⟩
  · have e' : k = j := e
    subst e'
    rcases hk with hk | hk
    · exact hjD hk.1
    · omega
  · rcases hk with (hk | hk) | hk
    · exact .inl (.inl hk.1)
    · exact .inr (by omega)
    · exact .inl (.inr hk)
theorem Dv.flush_small (d : Dv) : d.flush.2.deeds ≤ d.deeds + 1 ∧ d.flush.2.waits.length ≤ d.waits.length := by
  by_cases h1 : d.down = true
  · rw [Dv.flush_down h1]
    exact ⟨by simp only; omega, by simp only; omega⟩
  · have h1' : d.down = false := by simpa using h1
    by_cases h3 : d.left = 1
    · rw [Dv.flush_out h1' h3]
      exact ⟨by simp only; omega, by simp only; omega⟩
    · rw [Dv.flush_ok h1' h3]
      exact ⟨by simp, by simp⟩
set_option maxRecDepth 100000 in
set_option maxHeartbeats 4000000 in
theorem jStep_1 {D G : Nat → Prop} (w : World) (j g s l la d o : Nat) (h h' : Hd) (vb : Value) (X : List UInt8) (dv : Dv) (r : Int × Dv) (hr : r = dv.puts s (secsAt dv.all o X) ∧ r.1 ≠ 0)
    (hj : JnAt w j g h l la d false) (hjD : ¬ D j) (hd : DevAt w D g s dv) (hup : dv.down = false) (hw : dv.waits = []) (hs : s ≤ 8192) (ho : o + X.length ≤ 64 * s) (hb : BytesIn G w vb X) (hn : h'.Num) (hk6 : dv.deeds ≤ 900000000) :
    Calls Tryz.prog 107 #[.pointer (some ⟨j, 0, none⟩), .int .i64 o, vb, .agg #[.int .i64 h'.area, .int .i64 h'.size, .int .i64 h'.used, .int .i64 h'.round]] w (StepPost D w j g s l la d h h' r) := by
  obtain ⟨W1, hW1⟩ : ∃ W1, W1 = w.alloc (.cells #[.int .i64 h'.area, .int .i64 h'.size, .int .i64 h'.used, .int .i64 h'.round] 106) := ⟨_, rfl⟩
  have hf1 : Fr (fun _ => False) w W1 := by rw [hW1]; exact (Fr.refl _ _).alloc _
  have hz1 : w.heap.size < W1.heap.size := by rw [hW1]; simp
  have hjl := hj.lt
  have hbox : W1.heap[w.heap.size]? = some (.cells #[.int .i64 h'.area, .int .i64 h'.size, .int .i64 h'.used, .int .i64 h'.round] 106 (0, 0)) := by rw [hW1]; exact heap_alloc_new w _
  have ha : Amid D w W1 W1 j g s l la d h h' false dv := ⟨((hd.mono (E := fun k => D k ∧ k < w.heap.size) (fun k hk h => ⟨h, hk⟩)).keep hf1 (fun _ _ _ h => h)).mono (fun k _ h => .inl h), hj.keep hf1 id, hbox, Fr.refl _ _⟩
  have c4 := ha.jn.cells.2.2.2.2.1
  have hwr := lWrite_any W1 g s o dv vb X ha.dev hup hw hs ho (hb.keep hf1 (fun _ _ _ h => h)) hk6
  have hpp := Dv.puts_cases s (secsAt dv.all o X) dv hup (secsAt_right hd.right.all ho)
  have hpl : (secsAt dv.all o X).length ≤ 8192 := by
    rw [secsOf_length]
    rcases manySecs_le s o X.length ho with h | h
    · omega
    · rw [manySecs, if_pos h]; omega
  obtain ⟨ps, hps⟩ : ∃ ps, ps = secsAt dv.all o X := ⟨_, rfl⟩
  rw [← hps] at hwr hpp hpl hr
  obtain ⟨r1, hr1⟩ : ∃ r, r = dv.puts s ps := ⟨_, rfl⟩
  rw [← hr1] at hwr hpp hr
  have hsm : r1.1 = 0 → r1.2.deeds ≤ dv.deeds + 8192 ∧ r1.2.waits.length ≤ 8192 := fun h0 => by
    rcases hpp with ⟨_, _, a3, _, a5, _⟩ | ⟨_, b1, _⟩
    · rw [a3, a5, hw, List.nil_append]
      exact ⟨by omega, hpl⟩
    · rw [h0] at b1
      cases b1
  have HSM := Lib.hid hsm
  have HWR := Lib.hid hwr
  have HA := Lib.hid (And.intro ha (And.intro hf1 (And.intro hz1 (And.intro hjl hjD))))
  have HW := Lib.hid hW1
  have HK := Lib.hid hk6
  obtain ⟨x1, hx1⟩ : ∃ x, x = h'.area := ⟨_, rfl⟩
  obtain ⟨x2, hx2⟩ : ∃ x, x = h'.size := ⟨_, rfl⟩
  obtain ⟨x3, hx3⟩ : ∃ x, x = h'.used := ⟨_, rfl⟩
  obtain ⟨x4, hx4⟩ : ∃ x, x = h'.round := ⟨_, rfl⟩
  have HX := Lib.hid (And.intro hx1 (And.intro hx2 (And.intro hx3 hx4)))
  rw [← hx1, ← hx2, ← hx3, ← hx4] at HW ⊢
  rw [HW.out] at c4
  have HN := Lib.hid hn
  obtain ⟨e1, he1⟩ : ∃ e, e = r1.1 := ⟨_, rfl⟩
  have HE1 := Lib.hid he1
  obtain ⟨ab, cb, hvb, _⟩ := hb
  subst hvb
  obtain ⟨lb, hlb⟩ : ∃ lb, lb = X.length := ⟨_, rfl⟩
  rw [← hlb] at HWR ⊢
  have HNE := Lib.hid (show e1 ≠ 0 by rw [he1, ← hr.1]; exact hr.2)
  have HR := Lib.hid hr.1
  have hb0 : (e1 == 0) = false := by rw [beq_eq_false_iff_ne]; exact HNE.out
  clear hr
  clear hj hjD hd hup hw hs ho hn hk6 hW1 hf1 hz1 hjl hbox ha hwr hpp hpl hps hsm hx1 hx2 hx3 hx4 he1 hlb hr1
  go_enter Tryz.func107, Tryz.ntmps107
  go_wp2_with (first
    | (go_at_call 137; rw [← HW.out]; refine HWR.out.mono ?_; rintro e w2 ⟨rfl, hd2, hf2⟩; (have A2 := Lib.hid (HA.out.1.go (E := D) HA.out.2.2.2.1 HA.out.2.2.2.2 HA.out.2.2.1 hd2 hf2)); (have k4 := A2.out.jn.cells.2.2.2.2.1); rw [← HE1.out]; clear hd2 hf2)
    | (go_at_call 135; refine (jHeed_yes w2 j g h l la d false A2.out.jn _ HNE.out).mono ?_; rintro e w5 ⟨rfl, hj5, hf5⟩; (have H5 := Lib.hid (And.intro hj5 hf5)); clear hj5 hf5))
  go_ret
  have hp := Amid.post HA.out.2.1 HA.out.2.2.1 A2.out HA.out.2.2.2.1 HA.out.2.2.2.2 H5.out.1 H5.out.2
  unfold StepPost
  rw [HR.out, if_neg (by rw [← HE1.out]; exact HNE.out), if_neg (by rw [← HE1.out]; exact HNE.out)]
  exact ⟨by rw [HE1.out]; rfl, hp⟩
set_option maxRecDepth 100000 in
set_option maxHeartbeats 4000000 in
theorem jStep_2 {D G : Nat → Prop} (w : World) (j g s l la d o : Nat) (h h' : Hd) (vb : Value) (X : List UInt8) (dv : Dv) (r : Int × Dv) (hr : (dv.puts s (secsAt dv.all o X)).1 = 0 ∧ r = (dv.puts s (secsAt dv.all o X)).2.flush ∧ r.1 ≠ 0)
    (hj : JnAt w j g h l la d false) (hjD : ¬ D j) (hd : DevAt w D g s dv) (hup : dv.down = false) (hw : dv.waits = []) (hs : s ≤ 8192) (ho : o + X.length ≤ 64 * s) (hb : BytesIn G w vb X) (hn : h'.Num) (hk6 : dv.deeds ≤ 900000000) :
    Calls Tryz.prog 107 #[.pointer (some ⟨j, 0, none⟩), .int .i64 o, vb, .agg #[.int .i64 h'.area, .int .i64 h'.size, .int .i64 h'.used, .int .i64 h'.round]] w (StepPost D w j g s l la d h h' r) := by
  obtain ⟨W1, hW1⟩ : ∃ W1, W1 = w.alloc (.cells #[.int .i64 h'.area, .int .i64 h'.size, .int .i64 h'.used, .int .i64 h'.round] 106) := ⟨_, rfl⟩
  have hf1 : Fr (fun _ => False) w W1 := by rw [hW1]; exact (Fr.refl _ _).alloc _
  have hz1 : w.heap.size < W1.heap.size := by rw [hW1]; simp
  have hjl := hj.lt
  have hbox : W1.heap[w.heap.size]? = some (.cells #[.int .i64 h'.area, .int .i64 h'.size, .int .i64 h'.used, .int .i64 h'.round] 106 (0, 0)) := by rw [hW1]; exact heap_alloc_new w _
  have ha : Amid D w W1 W1 j g s l la d h h' false dv := ⟨((hd.mono (E := fun k => D k ∧ k < w.heap.size) (fun k hk h => ⟨h, hk⟩)).keep hf1 (fun _ _ _ h => h)).mono (fun k _ h => .inl h), hj.keep hf1 id, hbox, Fr.refl _ _⟩
  have c4 := ha.jn.cells.2.2.2.2.1
  have hwr := lWrite_any W1 g s o dv vb X ha.dev hup hw hs ho (hb.keep hf1 (fun _ _ _ h => h)) hk6
  have hpp := Dv.puts_cases s (secsAt dv.all o X) dv hup (secsAt_right hd.right.all ho)
  have hpl : (secsAt dv.all o X).length ≤ 8192 := by
    rw [secsOf_length]
    rcases manySecs_le s o X.length ho with h | h
    · omega
    · rw [manySecs, if_pos h]; omega
  obtain ⟨ps, hps⟩ : ∃ ps, ps = secsAt dv.all o X := ⟨_, rfl⟩
  rw [← hps] at hwr hpp hpl hr
  obtain ⟨r1, hr1⟩ : ∃ r, r = dv.puts s ps := ⟨_, rfl⟩
  rw [← hr1] at hwr hpp hr
  have hsm : r1.1 = 0 → r1.2.deeds ≤ dv.deeds + 8192 ∧ r1.2.waits.length ≤ 8192 := fun h0 => by
    rcases hpp with ⟨_, _, a3, _, a5, _⟩ | ⟨_, b1, _⟩
    · rw [a3, a5, hw, List.nil_append]
      exact ⟨by omega, hpl⟩
    · rw [h0] at b1
      cases b1
  have HSM := Lib.hid hsm
  have HWR := Lib.hid hwr
  have HA := Lib.hid (And.intro ha (And.intro hf1 (And.intro hz1 (And.intro hjl hjD))))
  have HW := Lib.hid hW1
  have HK := Lib.hid hk6
  obtain ⟨x1, hx1⟩ : ∃ x, x = h'.area := ⟨_, rfl⟩
  obtain ⟨x2, hx2⟩ : ∃ x, x = h'.size := ⟨_, rfl⟩
  obtain ⟨x3, hx3⟩ : ∃ x, x = h'.used := ⟨_, rfl⟩
  obtain ⟨x4, hx4⟩ : ∃ x, x = h'.round := ⟨_, rfl⟩
  have HX := Lib.hid (And.intro hx1 (And.intro hx2 (And.intro hx3 hx4)))
  rw [← hx1, ← hx2, ← hx3, ← hx4] at HW ⊢
  rw [HW.out] at c4
  have HN := Lib.hid hn
  obtain ⟨e1, he1⟩ : ∃ e, e = r1.1 := ⟨_, rfl⟩
  have HE1 := Lib.hid he1
  obtain ⟨ab, cb, hvb, _⟩ := hb
  subst hvb
  obtain ⟨lb, hlb⟩ : ∃ lb, lb = X.length := ⟨_, rfl⟩
  rw [← hlb] at HWR ⊢
  obtain ⟨r2, hr2⟩ : ∃ r2, r2 = r1.2.flush := ⟨_, rfl⟩
  obtain ⟨e2, he2⟩ : ∃ e, e = r2.1 := ⟨_, rfl⟩
  have HE2 := Lib.hid (show e2 = r1.2.flush.1 by rw [he2, hr2])
  have HR2 := Lib.hid hr2
  have HE0 := Lib.hid (show r1.1 = 0 from hr.1)
  have hz0 : e1 = 0 := by rw [he1]; exact hr.1
  subst hz0
  clear he1
  have HNE := Lib.hid (show e2 ≠ 0 by rw [he2, hr2, ← hr.2.1]; exact hr.2.2)
  have HR := Lib.hid (show r = r2 by rw [hr2, ← hr.2.1])
  have hb0 : (e2 == 0) = false := by rw [beq_eq_false_iff_ne]; exact HNE.out
  clear hr hr2
  clear hj hjD hd hup hw hs ho hn hk6 hW1 hf1 hz1 hjl hbox ha hwr hpp hpl hps hsm hx1 hx2 hx3 hx4 he2 hlb hr1
  go_enter Tryz.func107, Tryz.ntmps107
  go_wp2_with (first
    | (go_at_call 137; rw [← HW.out]; refine HWR.out.mono ?_; rintro e w2 ⟨rfl, hd2, hf2⟩; (have A2 := Lib.hid (HA.out.1.go (E := D) HA.out.2.2.2.1 HA.out.2.2.2.2 HA.out.2.2.1 hd2 hf2)); (have k4 := A2.out.jn.cells.2.2.2.2.1); rw [← HE1.out]; clear hd2 hf2)
    | (go_at_call 90; refine (aFlush w2 g s r1.2 (by have := (HSM.out HE0.out).1; have := HK.out; omega) (by have := (HSM.out HE0.out).2; omega) A2.out.dev).mono ?_; rintro e w3 ⟨rfl, hd3, hf3⟩; (have A3 := Lib.hid (A2.out.go (E := D) HA.out.2.2.2.1 HA.out.2.2.2.2 HA.out.2.2.1 hd3 hf3)); (have m4 := A3.out.jn.cells.2.2.2.2.1); rw [← HE2.out]; clear hd3 hf3)
    | (go_at_call 135; refine (jHeed_yes w3 j g h l la d false A3.out.jn _ HNE.out).mono ?_; rintro e w5 ⟨rfl, hj5, hf5⟩; (have H5 := Lib.hid (And.intro hj5 hf5)); clear hj5 hf5))
  go_ret
  have hp := Amid.post HA.out.2.1 HA.out.2.2.1 A3.out HA.out.2.2.2.1 HA.out.2.2.2.2 H5.out.1 H5.out.2
  unfold StepPost
  rw [HR.out, HR2.out, if_neg (by rw [← HE2.out]; exact HNE.out), if_neg (by rw [← HE2.out]; exact HNE.out)]
  exact ⟨by rw [HE2.out]; rfl, hp⟩
set_option maxRecDepth 100000 in
set_option maxHeartbeats 4000000 in
theorem jStep_3 {D G : Nat → Prop} (w : World) (j g s l la d o : Nat) (h h' : Hd) (vb : Value) (X : List UInt8) (dv : Dv) (r : Int × Dv) (hr : (dv.puts s (secsAt dv.all o X)).1 = 0 ∧ (dv.puts s (secsAt dv.all o X)).2.flush.1 = 0 ∧ r = (dv.puts s (secsAt dv.all o X)).2.flush.2.tell s h'.sec ∧ r.1 ≠ 0)
    (hj : JnAt w j g h l la d false) (hjD : ¬ D j) (hd : DevAt w D g s dv) (hup : dv.down = false) (hw : dv.waits = []) (hs : s ≤ 8192) (ho : o + X.length ≤ 64 * s) (hb : BytesIn G w vb X) (hn : h'.Num) (hk6 : dv.deeds ≤ 900000000) :
    Calls Tryz.prog 107 #[.pointer (some ⟨j, 0, none⟩), .int .i64 o, vb, .agg #[.int .i64 h'.area, .int .i64 h'.size, .int .i64 h'.used, .int .i64 h'.round]] w (StepPost D w j g s l la d h h' r) := by
  obtain ⟨W1, hW1⟩ : ∃ W1, W1 = w.alloc (.cells #[.int .i64 h'.area, .int .i64 h'.size, .int .i64 h'.used, .int .i64 h'.round] 106) := ⟨_, rfl⟩
  have hf1 : Fr (fun _ => False) w W1 := by rw [hW1]; exact (Fr.refl _ _).alloc _
  have hz1 : w.heap.size < W1.heap.size := by rw [hW1]; simp
  have hjl := hj.lt
  have hbox : W1.heap[w.heap.size]? = some (.cells #[.int .i64 h'.area, .int .i64 h'.size, .int .i64 h'.used, .int .i64 h'.round] 106 (0, 0)) := by rw [hW1]; exact heap_alloc_new w _
  have ha : Amid D w W1 W1 j g s l la d h h' false dv := ⟨((hd.mono (E := fun k => D k ∧ k < w.heap.size) (fun k hk h => ⟨h, hk⟩)).keep hf1 (fun _ _ _ h => h)).mono (fun k _ h => .inl h), hj.keep hf1 id, hbox, Fr.refl _ _⟩
  have c4 := ha.jn.cells.2.2.2.2.1
  have hwr := lWrite_any W1 g s o dv vb X ha.dev hup hw hs ho (hb.keep hf1 (fun _ _ _ h => h)) hk6
  have hpp := Dv.puts_cases s (secsAt dv.all o X) dv hup (secsAt_right hd.right.all ho)
  have hpl : (secsAt dv.all o X).length ≤ 8192 := by
    rw [secsOf_length]
    rcases manySecs_le s o X.length ho with h | h
    · omega
    · rw [manySecs, if_pos h]; omega
  obtain ⟨ps, hps⟩ : ∃ ps, ps = secsAt dv.all o X := ⟨_, rfl⟩
  rw [← hps] at hwr hpp hpl hr
  obtain ⟨r1, hr1⟩ : ∃ r, r = dv.puts s ps := ⟨_, rfl⟩
  rw [← hr1] at hwr hpp hr
  have hsm : r1.1 = 0 → r1.2.deeds ≤ dv.deeds + 8192 ∧ r1.2.waits.length ≤ 8192 := fun h0 => by
    rcases hpp with ⟨_, _, a3, _, a5, _⟩ | ⟨_, b1, _⟩
    · rw [a3, a5, hw, List.nil_append]
      exact ⟨by omega, hpl⟩
    · rw [h0] at b1
      cases b1
  have HSM := Lib.hid hsm
  have HWR := Lib.hid hwr
  have HA := Lib.hid (And.intro ha (And.intro hf1 (And.intro hz1 (And.intro hjl hjD))))
  have HW := Lib.hid hW1
  have HK := Lib.hid hk6
  obtain ⟨x1, hx1⟩ : ∃ x, x = h'.area := ⟨_, rfl⟩
  obtain ⟨x2, hx2⟩ : ∃ x, x = h'.size := ⟨_, rfl⟩
  obtain ⟨x3, hx3⟩ : ∃ x, x = h'.used := ⟨_, rfl⟩
  obtain ⟨x4, hx4⟩ : ∃ x, x = h'.round := ⟨_, rfl⟩
  have HX := Lib.hid (And.intro hx1 (And.intro hx2 (And.intro hx3 hx4)))
  rw [← hx1, ← hx2, ← hx3, ← hx4] at HW ⊢
  rw [HW.out] at c4
  have HN := Lib.hid hn
  obtain ⟨e1, he1⟩ : ∃ e, e = r1.1 := ⟨_, rfl⟩
  have HE1 := Lib.hid he1
  obtain ⟨ab, cb, hvb, _⟩ := hb
  subst hvb
  obtain ⟨lb, hlb⟩ : ∃ lb, lb = X.length := ⟨_, rfl⟩
  rw [← hlb] at HWR ⊢
  obtain ⟨r2, hr2⟩ : ∃ r2, r2 = r1.2.flush := ⟨_, rfl⟩
  obtain ⟨e2, he2⟩ : ∃ e, e = r2.1 := ⟨_, rfl⟩
  have HE2 := Lib.hid (show e2 = r1.2.flush.1 by rw [he2, hr2])
  have HR2 := Lib.hid hr2
  have HE0 := Lib.hid (show r1.1 = 0 from hr.1)
  have hz0 : e1 = 0 := by rw [he1]; exact hr.1
  subst hz0
  clear he1
  obtain ⟨r3, hr3⟩ : ∃ r3, r3 = r2.2.tell s h'.sec := ⟨_, rfl⟩
  obtain ⟨e3, he3⟩ : ∃ e, e = r3.1 := ⟨_, rfl⟩
  have HTL := Lib.hid (show ∀ w3 : World, Amid D w W1 w3 j g s l la d h h' false r2.2 → Calls Tryz.prog 52 #[.pointer (some ⟨g, 0, none⟩), .agg #[.int .i64 x1, .int .i64 x2, .int .i64 x3, .int .i64 x4]] w3.drew (WritePost (Own D w W1) w3.drew g s r3) from fun w3 a => by
    rw [HX.out.1, HX.out.2.1, HX.out.2.2.1, HX.out.2.2.2, hr3]
    have hfl := Dv.flush_small r1.2
    rw [← hr2] at hfl
    have := hsm HE0.out
    exact lTell_any w3.drew g s r2.2 h' hn (a.dev.keep (Fr.refl (fun _ => False) w3).drew (fun _ _ _ h => h)) (by omega) (by omega))
  have HE3 := Lib.hid he3
  have hz2 : e2 = 0 := by rw [he2, hr2]; exact hr.2.1
  subst hz2
  clear he2
  have HNE := Lib.hid (show e3 ≠ 0 by rw [he3, hr3, hr2, ← hr.2.2.1]; exact hr.2.2.2)
  have HR := Lib.hid (show r = r3 by rw [hr3, hr2, ← hr.2.2.1])
  have hb0 : (e3 == 0) = false := by rw [beq_eq_false_iff_ne]; exact HNE.out
  clear hr hr2 hr3
  clear hj hjD hd hup hw hs ho hn hk6 hW1 hf1 hz1 hjl hbox ha hwr hpp hpl hps hsm hx1 hx2 hx3 hx4 he3 hlb hr1
  go_enter Tryz.func107, Tryz.ntmps107
  go_wp2_with (first
    | (go_at_call 137; rw [← HW.out]; refine HWR.out.mono ?_; rintro e w2 ⟨rfl, hd2, hf2⟩; (have A2 := Lib.hid (HA.out.1.go (E := D) HA.out.2.2.2.1 HA.out.2.2.2.2 HA.out.2.2.1 hd2 hf2)); (have k4 := A2.out.jn.cells.2.2.2.2.1); rw [← HE1.out]; clear hd2 hf2)
    | (go_at_call 90; refine (aFlush w2 g s r1.2 (by have := (HSM.out HE0.out).1; have := HK.out; omega) (by have := (HSM.out HE0.out).2; omega) A2.out.dev).mono ?_; rintro e w3 ⟨rfl, hd3, hf3⟩; (have A3 := Lib.hid (A2.out.go (E := D) HA.out.2.2.2.1 HA.out.2.2.2.2 HA.out.2.2.1 hd3 hf3)); (have m4 := A3.out.jn.cells.2.2.2.2.1); rw [← HE2.out]; clear hd3 hf3))
  rw [← HR2.out] at A3
  have HLB := Lib.hid A3.out.box
  have b0 := row4_cells HLB.out
  obtain ⟨b0, b1, b2, b3⟩ := b0
  rw [← HX.out.1] at b0
  rw [← HX.out.2.1] at b1
  rw [← HX.out.2.2.1] at b2
  rw [← HX.out.2.2.2] at b3
  go_still_tail 5, (by kernel_rfl)
  go_wp2_with (first
    | (go_at_call 52; refine (HTL.out _ A3.out).mono ?_; rintro e w4 ⟨rfl, hd4, hf4⟩; (have A4 := Lib.hid (A3.out.go (E := D) HA.out.2.2.2.1 HA.out.2.2.2.2 HA.out.2.2.1 hd4 hf4.ofDrew)); rw [← HE3.out]; clear hd4 hf4)
    | (go_at_call 135; refine (jHeed_yes w4 j g h l la d false A4.out.jn _ HNE.out).mono ?_; rintro e w5 ⟨rfl, hj5, hf5⟩; (have H5 := Lib.hid (And.intro hj5 hf5)); clear hj5 hf5))
  go_ret
  have hp := Amid.post HA.out.2.1 HA.out.2.2.1 A4.out HA.out.2.2.2.1 HA.out.2.2.2.2 H5.out.1 H5.out.2
  unfold StepPost
  rw [HR.out, if_neg (by rw [← HE3.out]; exact HNE.out), if_neg (by rw [← HE3.out]; exact HNE.out)]
  exact ⟨by rw [HE3.out]; rfl, hp⟩
set_option maxRecDepth 100000 in
set_option maxHeartbeats 4000000 in
theorem jStep_4 {D G : Nat → Prop} (w : World) (j g s l la d o : Nat) (h h' : Hd) (vb : Value) (X : List UInt8) (dv : Dv) (r : Int × Dv) (hr : (dv.puts s (secsAt dv.all o X)).1 = 0 ∧ (dv.puts s (secsAt dv.all o X)).2.flush.1 = 0 ∧ r = (dv.puts s (secsAt dv.all o X)).2.flush.2.tell s h'.sec ∧ r.1 = 0)
    (hj : JnAt w j g h l la d false) (hjD : ¬ D j) (hd : DevAt w D g s dv) (hup : dv.down = false) (hw : dv.waits = []) (hs : s ≤ 8192) (ho : o + X.length ≤ 64 * s) (hb : BytesIn G w vb X) (hn : h'.Num) (hk6 : dv.deeds ≤ 900000000) :
    Calls Tryz.prog 107 #[.pointer (some ⟨j, 0, none⟩), .int .i64 o, vb, .agg #[.int .i64 h'.area, .int .i64 h'.size, .int .i64 h'.used, .int .i64 h'.round]] w (StepPost D w j g s l la d h h' r) := by
  obtain ⟨W1, hW1⟩ : ∃ W1, W1 = w.alloc (.cells #[.int .i64 h'.area, .int .i64 h'.size, .int .i64 h'.used, .int .i64 h'.round] 106) := ⟨_, rfl⟩
  have hf1 : Fr (fun _ => False) w W1 := by rw [hW1]; exact (Fr.refl _ _).alloc _
  have hz1 : w.heap.size < W1.heap.size := by rw [hW1]; simp
  have hjl := hj.lt
  have hbox : W1.heap[w.heap.size]? = some (.cells #[.int .i64 h'.area, .int .i64 h'.size, .int .i64 h'.used, .int .i64 h'.round] 106 (0, 0)) := by rw [hW1]; exact heap_alloc_new w _
  have ha : Amid D w W1 W1 j g s l la d h h' false dv := ⟨((hd.mono (E := fun k => D k ∧ k < w.heap.size) (fun k hk h => ⟨h, hk⟩)).keep hf1 (fun _ _ _ h => h)).mono (fun k _ h => .inl h), hj.keep hf1 id, hbox, Fr.refl _ _⟩
  have c4 := ha.jn.cells.2.2.2.2.1
  have hwr := lWrite_any W1 g s o dv vb X ha.dev hup hw hs ho (hb.keep hf1 (fun _ _ _ h => h)) hk6
  have hpp := Dv.puts_cases s (secsAt dv.all o X) dv hup (secsAt_right hd.right.all ho)
  have hpl : (secsAt dv.all o X).length ≤ 8192 := by
    rw [secsOf_length]
    rcases manySecs_le s o X.length ho with h | h
    · omega
    · rw [manySecs, if_pos h]; omega
  obtain ⟨ps, hps⟩ : ∃ ps, ps = secsAt dv.all o X := ⟨_, rfl⟩
  rw [← hps] at hwr hpp hpl hr
  obtain ⟨r1, hr1⟩ : ∃ r, r = dv.puts s ps := ⟨_, rfl⟩
  rw [← hr1] at hwr hpp hr
  have hsm : r1.1 = 0 → r1.2.deeds ≤ dv.deeds + 8192 ∧ r1.2.waits.length ≤ 8192 := fun h0 => by
    rcases hpp with ⟨_, _, a3, _, a5, _⟩ | ⟨_, b1, _⟩
    · rw [a3, a5, hw, List.nil_append]
      exact ⟨by omega, hpl⟩
    · rw [h0] at b1
      cases b1
  have HSM := Lib.hid hsm
  have HWR := Lib.hid hwr
  have HA := Lib.hid (And.intro ha (And.intro hf1 (And.intro hz1 (And.intro hjl hjD))))
  have HW := Lib.hid hW1
  have HK := Lib.hid hk6
  obtain ⟨x1, hx1⟩ : ∃ x, x = h'.area := ⟨_, rfl⟩
  obtain ⟨x2, hx2⟩ : ∃ x, x = h'.size := ⟨_, rfl⟩
  obtain ⟨x3, hx3⟩ : ∃ x, x = h'.used := ⟨_, rfl⟩
  obtain ⟨x4, hx4⟩ : ∃ x, x = h'.round := ⟨_, rfl⟩
  have HX := Lib.hid (And.intro hx1 (And.intro hx2 (And.intro hx3 hx4)))
  rw [← hx1, ← hx2, ← hx3, ← hx4] at HW ⊢
  rw [HW.out] at c4
  have HN := Lib.hid hn
  obtain ⟨e1, he1⟩ : ∃ e, e = r1.1 := ⟨_, rfl⟩
  have HE1 := Lib.hid he1
  obtain ⟨ab, cb, hvb, _⟩ := hb
  subst hvb
  obtain ⟨lb, hlb⟩ : ∃ lb, lb = X.length := ⟨_, rfl⟩
  rw [← hlb] at HWR ⊢
  obtain ⟨r2, hr2⟩ : ∃ r2, r2 = r1.2.flush := ⟨_, rfl⟩
  obtain ⟨e2, he2⟩ : ∃ e, e = r2.1 := ⟨_, rfl⟩
  have HE2 := Lib.hid (show e2 = r1.2.flush.1 by rw [he2, hr2])
  have HR2 := Lib.hid hr2
  have HE0 := Lib.hid (show r1.1 = 0 from hr.1)
  have hz0 : e1 = 0 := by rw [he1]; exact hr.1
  subst hz0
  clear he1
  obtain ⟨r3, hr3⟩ : ∃ r3, r3 = r2.2.tell s h'.sec := ⟨_, rfl⟩
  obtain ⟨e3, he3⟩ : ∃ e, e = r3.1 := ⟨_, rfl⟩
  have HTL := Lib.hid (show ∀ w3 : World, Amid D w W1 w3 j g s l la d h h' false r2.2 → Calls Tryz.prog 52 #[.pointer (some ⟨g, 0, none⟩), .agg #[.int .i64 x1, .int .i64 x2, .int .i64 x3, .int .i64 x4]] w3.drew (WritePost (Own D w W1) w3.drew g s r3) from fun w3 a => by
    rw [HX.out.1, HX.out.2.1, HX.out.2.2.1, HX.out.2.2.2, hr3]
    have hfl := Dv.flush_small r1.2
    rw [← hr2] at hfl
    have := hsm HE0.out
    exact lTell_any w3.drew g s r2.2 h' hn (a.dev.keep (Fr.refl (fun _ => False) w3).drew (fun _ _ _ h => h)) (by omega) (by omega))
  have HE3 := Lib.hid he3
  have hz2 : e2 = 0 := by rw [he2, hr2]; exact hr.2.1
  subst hz2
  clear he2
  have HR := Lib.hid (show r = r3 by rw [hr3, hr2, ← hr.2.2.1])
  have hz3 : e3 = 0 := by rw [he3, hr3, hr2, ← hr.2.2.1]; exact hr.2.2.2
  subst hz3
  clear hr hr2 hr3 he3
  clear hj hjD hd hup hw hs ho hn hk6 hW1 hf1 hz1 hjl hbox ha hwr hpp hpl hps hsm hx1 hx2 hx3 hx4 hlb hr1
  go_enter Tryz.func107, Tryz.ntmps107
  go_wp2_with (first
    | (go_at_call 137; rw [← HW.out]; refine HWR.out.mono ?_; rintro e w2 ⟨rfl, hd2, hf2⟩; (have A2 := Lib.hid (HA.out.1.go (E := D) HA.out.2.2.2.1 HA.out.2.2.2.2 HA.out.2.2.1 hd2 hf2)); (have k4 := A2.out.jn.cells.2.2.2.2.1); rw [← HE1.out]; clear hd2 hf2)
    | (go_at_call 90; refine (aFlush w2 g s r1.2 (by have := (HSM.out HE0.out).1; have := HK.out; omega) (by have := (HSM.out HE0.out).2; omega) A2.out.dev).mono ?_; rintro e w3 ⟨rfl, hd3, hf3⟩; (have A3 := Lib.hid (A2.out.go (E := D) HA.out.2.2.2.1 HA.out.2.2.2.2 HA.out.2.2.1 hd3 hf3)); (have m4 := A3.out.jn.cells.2.2.2.2.1); rw [← HE2.out]; clear hd3 hf3))
  rw [← HR2.out] at A3
  have HLB := Lib.hid A3.out.box
  have b0 := row4_cells HLB.out
  obtain ⟨b0, b1, b2, b3⟩ := b0
  rw [← HX.out.1] at b0
  rw [← HX.out.2.1] at b1
  rw [← HX.out.2.2.1] at b2
  rw [← HX.out.2.2.2] at b3
  go_still_tail 5, (by kernel_rfl)
  go_wp2_with (first
    | (go_at_call 52; refine (HTL.out _ A3.out).mono ?_; rintro e w4 ⟨rfl, hd4, hf4⟩; (have A4 := Lib.hid (A3.out.go (E := D) HA.out.2.2.2.1 HA.out.2.2.2.2 HA.out.2.2.1 hd4 hf4.ofDrew)); rw [← HE3.out]; clear hd4 hf4; (obtain ⟨c0, c1, c2, c3, _⟩ := A4.out.jn.cells); (have f0 := A4.out.jn.free 0); (have f1 := A4.out.jn.free 1); (have f2 := A4.out.jn.free 2); (have f3 := A4.out.jn.free 3); (obtain ⟨b0, b1, b2, b3⟩ := row4_cells A4.out.box); rw [← HX.out.1] at b0; rw [← HX.out.2.1] at b1; rw [← HX.out.2.2.1] at b2; rw [← HX.out.2.2.2] at b3)
    | (go_at_call 135; refine (jHeed_no w4 j).mono ?_; rintro e w5 ⟨rfl, rfl⟩))
  go_ret
  have hp := Amid.post HA.out.2.1 HA.out.2.2.1 A4.out HA.out.2.2.2.1 HA.out.2.2.2.2 (A4.out.jn.head h') (((((Fr.refl (· = j) w4).setCell (p := ⟨j, 0, none⟩) (.inl rfl) _).setCell (p := ⟨j, 1, none⟩) (.inl rfl) _).setCell (p := ⟨j, 2, none⟩) (.inl rfl) _).setCell (p := ⟨j, 3, none⟩) (.inl rfl) _)
  rw [← HX.out.1, ← HX.out.2.1, ← HX.out.2.2.1, ← HX.out.2.2.2] at hp
  unfold StepPost
  rw [HR.out, if_pos (by rw [← HE3.out]), if_pos (by rw [← HE3.out])]
  exact ⟨by rw [← HE3.out]; rfl, hp⟩
theorem jStep_any {D G : Nat → Prop} (w : World) (j g s l la d o : Nat) (h h' : Hd) (vb : Value) (X : List UInt8) (dv : Dv)
    (hj : JnAt w j g h l la d false) (hjD : ¬ D j) (hd : DevAt w D g s dv) (hup : dv.down = false) (hw : dv.waits = []) (hs : s ≤ 8192) (ho : o + X.length ≤ 64 * s) (hb : BytesIn G w vb X) (hn : h'.Num) (hk6 : dv.deeds ≤ 900000000) :
    Calls Tryz.prog 107 #[.pointer (some ⟨j, 0, none⟩), .int .i64 o, vb, .agg #[.int .i64 h'.area, .int .i64 h'.size, .int .i64 h'.used, .int .i64 h'.round]] w (StepPost D w j g s l la d h h' (dv.commit s (secsAt dv.all o X) h'.sec)) := by
  rw [Dv.commit_eq]
  by_cases h1 : (dv.puts s (secsAt dv.all o X)).1 = 0
  · rw [if_pos h1]
    by_cases h2 : (dv.puts s (secsAt dv.all o X)).2.flush.1 = 0
    · rw [if_pos h2]
      by_cases h3 : ((dv.puts s (secsAt dv.all o X)).2.flush.2.tell s h'.sec).1 = 0
      · exact jStep_4 w j g s l la d o h h' vb X dv _ ⟨h1, h2, rfl, h3⟩ hj hjD hd hup hw hs ho hb hn hk6
      · exact jStep_3 w j g s l la d o h h' vb X dv _ ⟨h1, h2, rfl, h3⟩ hj hjD hd hup hw hs ho hb hn hk6
    · rw [if_neg h2]
      exact jStep_2 w j g s l la d o h h' vb X dv _ ⟨h1, rfl, h2⟩ hj hjD hd hup hw hs ho hb hn hk6
  · rw [if_neg h1]
    exact jStep_1 w j g s l la d o h h' vb X dv _ ⟨rfl, h1⟩ hj hjD hd hup hw hs ho hb hn hk6
theorem StepPost.before {D : Nat → Prop} {w W : World} {j g s l la d : Nat} {h h' : Hd} {r : Int × Dv} {e : Ending} {w' : World} (p : StepPost D W j g s l la d h h' r e w') (hf : Fr (fun _ => False) w W) : StepPost D w j g s l la d h h' r e w' := by
  obtain ⟨h1, h2, h3, h4⟩ := p
  exact ⟨h1, h2.mono fun k _ hk => hk.elim .inl (fun h => .inr (Nat.le_trans hf.size h)), h3, (hf.mono (fun _ _ h => h.elim)).trans h4 fun k hk => .inl hk⟩
end Go.Proofs.YtldgcoikbjbjeaaGreat
