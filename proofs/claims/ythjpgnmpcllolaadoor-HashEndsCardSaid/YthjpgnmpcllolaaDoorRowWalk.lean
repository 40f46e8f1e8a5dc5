/- Contracts: spencelaw02.size, spencekit.LentRows, KeptRows. -/
import Derived.Test.YthjpgnmpcllolaaDoorRowL
namespace Go.Proofs.YthjpgnmpcllolaaDoor
open Go.RowKit Go.ChangeShapes
set_option linter.unusedVariables false

set_option maxRecDepth 100000 in
set_option maxHeartbeats 2000000 in
theorem size_any {F : Nat → Prop} {v : Value} {P : List (List UInt8)} (w : World) (hP : RowsIn F w v P) :
    Calls Tryd.prog 8 #[v] w fun e w' => ∃ z : Nat, e = .returned (.int .i64 z) ∧ w = w' ∧ (z ≤ 6000 → z = P.length + P.flatten.length) ∧ (6000 < z → 6000 < P.length + P.flatten.length) ∧ z ≤ 9223372036854775807 ∧ z ≤ P.length + 140737488357232 := by
  obtain ⟨ao, cap, rfl, h1, h2, h3, h4⟩ := hP
  obtain ⟨n, hn⟩ : ∃ n, n = P.length := ⟨_, rfl⟩
  rw [← hn] at h1 ⊢
  obtain ⟨T, hT⟩ : ∃ T, T = P.flatten.length := ⟨_, rfl⟩
  rw [← hT]
  have HT := Lib.hid hT
  clear hT
  have HI := Lib.hid (And.intro h3 h4)
  have HN := Lib.hid hn
  clear h3 h4 hn
  go_enter Tryd.func8, Tryd.ntmps8
  go_wp2_with fail
  go_loopw [3, 4] (fun xv iv wr => ∃ i x : Nat, i ≤ n ∧ iv = .int .i64 i ∧ xv = .int .i64 x ∧ (x ≤ 9223372036854775807 ∧ x ≤ n + 140737488357232) ∧ Hid (x = n + (P.take i).flatten.length) ∧ Hid (w = wr)) (fun _ iv _ => n - (intOf iv).toNat)
  case atStart => exact ⟨0, n, by omega, rfl, rfl, ⟨by omega, by omega⟩, Lib.hid (by simp), Lib.hid rfl⟩
  case round =>
    obtain ⟨i, x, hi, rfl, rfl, ⟨hxm, hxn⟩, hX, hW⟩ := hrel
    have hW' := hW.out
    subst hW'
    clear hW
    by_cases hlt : i < n
    · by_cases hx6 : x ≤ 6000
      · obtain ⟨b, off, hao, hFb, hx⟩ := HI.out.2 (by intro e; have := HN.out; rw [e] at this; simp at this; omega)
        obtain ⟨y, hy1, hy2⟩ := hx i (by rw [← HN.out]; exact hlt)
        subst hao
        obtain ⟨ay, cy, rfl, hl1, hl2, _⟩ := hy2
        have hb := HI.out.1 P[i] (List.getElem_mem _)
        have HE := Lib.hid (flatten_take_succ P i (by rw [← HN.out]; exact hlt))
        obtain ⟨l, hl⟩ : ∃ l, l = (P[i]'(by rw [← HN.out]; exact hlt)).length := ⟨_, rfl⟩
        rw [← hl] at hy1 hl1 hb
        have HL := Lib.hid hl
        clear hx hl
        have hx6' : (x : Int) ≤ 6000 := by omega
        go_wp2_with fail
        go_roundw
        case rel => exact ⟨i + 1, x + l, by omega, by go_num, by go_num, ⟨by omega, by omega⟩, Lib.hid (by rw [HE.out, List.length_append, ← HL.out, hX.out]; omega), Lib.hid (by first | exact rfl | trivial)⟩
        case measure => simp [intOf]; omega
      · have HR := Lib.hid (show 6000 < n + T by have := flatten_take_le P i; have := HT.out; have := hX.out; omega)
        have hx6' : ¬ (x : Int) ≤ 6000 := by omega
        clear hX
        go_wp2_with fail
        go_ret
        exact ⟨x, rfl, rfl, fun h => absurd h hx6, fun _ => HR.out, hxm, hxn⟩
    · have HR := Lib.hid (show x = n + T by
        rw [HT.out]
        have h := hX.out
        rwa [List.take_of_length_le (by rw [← HN.out]; omega)] at h)
      clear hX
      go_wp2_with fail
      go_ret
      exact ⟨x, rfl, rfl, fun _ => HR.out, fun h => by rw [← HR.out]; exact h, hxm, hxn⟩
end Go.Proofs.YthjpgnmpcllolaaDoor
