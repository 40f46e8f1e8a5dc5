/- Laid together by merge.py: JHead2 -/
import Derived.Test.YtiinmilfgclddaaGreatTr20

/- log's own heads: appended, switched, within. -/
namespace Go.Proofs.YtiinmilfgclddaaGreat
open Go.RowKit Go.ChangeShapes
set_option linter.unusedVariables false

theorem lAppended_any (w : World) (x1 x2 x3 x4 m : Nat) (h3 : x3 ≤ 1000000) (h4 : x4 ≤ 1099511627776) (hm : m ≤ 2000000) :
    Calls Tryz.prog 108 #[.agg #[.int .i64 x1, .int .i64 x2, .int .i64 x3, .int .i64 x4], .int .i64 m] w fun e w' => e = .returned (.agg #[.int .i64 x1, .int .i64 x2, .int .i64 ((x3 + m : Nat) : Int), .int .i64 ((x4 + 1 : Nat) : Int)]) ∧ Fr (fun _ => False) w w' := by
  have e1 : ((x3 + m : Nat) : Int) = (x3 : Int) + (m : Int) := by push_cast; rfl
  have e2 : ((x4 + 1 : Nat) : Int) = (x4 : Int) + 1 := by push_cast; rfl
  rw [e1, e2]
  clear e1 e2
  go_enter Tryz.func108, Tryz.ntmps108
  go_wp2
  refine bodyPost_ret (v := .agg #[.int .i64 x1, .int .i64 x2, .int .i64 ((x3 : Int) + (m : Int)), .int .i64 ((x4 : Int) + 1)]) (by simp [results, Tryz.results108, go_sem]) rfl ⟨rfl, ?_⟩
  exact ((Fr.refl _ w).alloc _).alloc _
theorem lSwitched_any (w : World) (x1 x2 x3 x4 m : Nat) (h1 : x1 ≤ 1) (h4 : x4 ≤ 1099511627776) (hm : m ≤ 2000000) :
    Calls Tryz.prog 109 #[.agg #[.int .i64 x1, .int .i64 x2, .int .i64 x3, .int .i64 x4], .int .i64 m] w fun e w' => e = .returned (.agg #[.int .i64 ((1 - x1 : Nat) : Int), .int .i64 m, .int .i64 0, .int .i64 ((x4 + 1 : Nat) : Int)]) ∧ Fr (fun _ => False) w w' := by
  have e1 : ((1 - x1 : Nat) : Int) = 1 - (x1 : Int) := by omega
  have e2 : ((x4 + 1 : Nat) : Int) = (x4 : Int) + 1 := by push_cast; rfl
  rw [e1, e2]
  clear e1 e2
  go_enter Tryz.func109, Tryz.ntmps109
  go_wp2
  refine bodyPost_ret (v := .agg #[.int .i64 (1 - (x1 : Int)), .int .i64 m, .int .i64 0, .int .i64 ((x4 : Int) + 1)]) (by simp [results, Tryz.results109, go_sem]) rfl ⟨rfl, ?_⟩
  exact ((Fr.refl _ w).alloc _).alloc _
theorem lWithin_any (w : World) (h : Hd) (l la d : Nat) (hl : l ≤ 8192) (hla : la ≤ 8192) (hr : h.Right l la) :
    Calls Tryz.prog 55 #[.agg #[.int .i64 h.area, .int .i64 h.size, .int .i64 h.used, .int .i64 h.round], .agg #[.int .i64 l, .int .i64 la, .int .i64 d]] w fun e w' => e = .returned (.bool true) ∧ Fr (fun _ => False) w w' := by
  have HRM := Lib.hid (fun W => lRoom_any W h l la d hl hr.used)
  obtain ⟨x2, hx2⟩ : ∃ x, x = h.size := ⟨_, rfl⟩
  obtain ⟨x3, hx3⟩ : ∃ x, x = h.used := ⟨_, rfl⟩
  obtain ⟨m, hm⟩ : ∃ m, m = 64 * l - h.used := ⟨_, rfl⟩
  have h2 : (x2 : Int) ≤ (la : Int) * 64 := by rw [hx2]; have := hr.size; omega
  rw [← hm, ← hx2, ← hx3] at HRM
  rw [← hx2, ← hx3]
  have hm0 : (0 : Int) ≤ (m : Int) := by omega
  clear hr hx2 hx3 hm
  go_enter Tryz.func55, Tryz.ntmps55
  go_wp2_with (go_at_call 96; refine (HRM.out _).mono ?_; rintro e w1 ⟨rfl, hf1⟩; (have H1 := Lib.hid hf1); clear hf1)
  go_ret
  exact ⟨rfl, (((Fr.refl _ w).alloc _).alloc _).trans H1.out (fun _ h => h.elim)⟩
end Go.Proofs.YtiinmilfgclddaaGreat

