/- HashSums' walk. -/
import Derived.Test.YthjpgnmpcllolaaDoorRowLent
import Derived.Test.YthjpgnmpcllolaaDoorReg
namespace Go.Proofs.YthjpgnmpcllolaaDoor
open Go.RowKit Go.ChangeShapes
set_option linter.unusedVariables false

theorem mem_flatten_le {P : List (List UInt8)} {X : List UInt8} (h : X ∈ P) : X.length ≤ P.flatten.length := by
  induction P with
  | nil => cases h
  | cons Y P ih =>
    rw [List.flatten_cons, List.length_append]
    rcases List.mem_cons.1 h with rfl | h
    · omega
    · have := ih h; omega

set_option maxRecDepth 100000 in
set_option maxHeartbeats 4000000 in
theorem hsums_any (v : Value) (P : List (List UInt8)) (w : World) (hL : Laid w) (hP : RowsIn (fun k => k < w.heap.size) w v P) :
    Calls Tryd.prog 3 #[v] w fun e w' => e = .returned (.bool true) ∧ Fr (fun _ => False) w w' := by
  have HL := Lib.hid hL
  have HP := Lib.hid hP
  clear hL hP
  go_enter Tryd.func3, Tryd.ntmps3
  go_wp2_with fail
  refine (size_any w HP.out).mono ?_
  rintro e w' ⟨z, rfl, rfl, hz1, hz2, hz3⟩
  by_cases hz : z ≤ 6000
  · have ht := hz1 hz
    have hzi : ¬ (6000 : Int) < (z : Int) := by omega
    have HT := Lib.hid (show P.length + P.flatten.length ≤ 6000 by omega)
    have HM := Lib.hid (fun X (h : X ∈ P) => mem_flatten_le h)
    clear hz1 hz2 ht
    have HA := Lib.hid (LentRows_any w HP.out (by have := HT.out; omega) (fun X h => by have := HM.out X h; have := HT.out; omega))
    obtain ⟨D, hD⟩ : ∃ D, D = digest P.flatten := ⟨_, rfl⟩
    have hDl : D.length = 32 := by rw [hD]; rfl
    obtain ⟨C, hC⟩ : ∃ C, C = (D.map bv).toArray := ⟨_, rfl⟩
    have hgd : Tryd.prog.eqGuardType Tryd.prog.depth 27 = false := by kernel_rfl
    have he := fun w => run_eql_arr w 27 32 D D Tryd.underlying27 hDl hDl
    simp only [beq_self_eq_true, ← hC] at he
    have HC := Lib.hid (show C = ((digest P.flatten).map bv).toArray by rw [hC, hD])
    clear hD hDl hC
    go_wp2_with (first
      | (go_at_call 10; refine HA.out.mono ?_; rintro e w1 ⟨u, rfl, hu, hf1⟩; have H1 := Lib.hid (And.intro hu hf1); have HS1 := Lib.hid (sum_any (F := fun k => w.heap.size ≤ k ∧ k < w1.heap.size) w1 (HL.out.keep hf1 (fun _ _ h => h)) (hu.rows (fun X h => by have := HM.out X h; have := HT.out; omega)) (fun k h => h.2) (by have := HT.out; omega)); rw [← HC.out] at HS1; clear hu hf1)
      | (go_at_call 11; refine HS1.out.mono ?_; rintro e w2 ⟨rfl, hf2⟩; have H2 := Lib.hid (And.intro (H1.out.1.keep hf2 (fun _ _ h => h)) (H1.out.2.trans hf2 (fun _ h => h.elim))); have HS2 := Lib.hid (rsum_any w2 (HP.out.keep H2.out.2 (fun _ _ _ h => h)) (fun k h => Nat.lt_of_lt_of_le h H2.out.2.size) (by have := HT.out; omega)); rw [← HC.out] at HS2; clear hf2)
      | (go_at_call 12; refine HS2.out.mono ?_; rintro e w3 ⟨rfl, hf3⟩; have H3 := Lib.hid (And.intro (H2.out.1.keep hf3 (fun _ _ h => h)) (H2.out.2.trans hf3 (fun _ h => h.elim))); have HK3 := Lib.hid (KeptRows_any w3 H3.out.1 (HP.out.keep H3.out.2 (fun _ _ _ h => h)) (fun X h => by have := HM.out X h; have := HT.out; omega)); clear hf3)
      | (go_at_call 13; refine HK3.out.mono ?_; rintro e w4 ⟨rfl, q, rfl⟩; have HF4 := Lib.hid (H3.out.2.drewN q); have HA4 := Lib.hid (awake_any _ (HL.out.keep HF4.out (fun _ _ h => h))))
      | (go_at_call 9; refine HA4.out.mono ?_; rintro e w5 ⟨rfl, hf5⟩; have HF5 := Lib.hid (HF4.out.trans hf5 (fun _ h => h.elim)); clear hf5)
      | fail)
    go_ret
    exact ⟨rfl, HF5.out⟩
  · have hzi : (6000 : Int) < (z : Int) := by omega
    have HA := Lib.hid (awake_any w HL.out)
    go_wp2_with (go_at_call 9; refine HA.out.mono ?_; rintro e w1 ⟨rfl, hf1⟩; have HF1 := Lib.hid hf1; clear hf1)
    go_ret
    exact ⟨rfl, HF1.out⟩
end Go.Proofs.YthjpgnmpcllolaaDoor
