/- Contracts: code.Cursor's Text, Left, End. -/
import Derived.Test.YthjpgnmpcllolaaClone
namespace Go.Proofs.Ythjpgnmpcllolaa
open Go.RowKit Go.ChangeShapes
set_option linter.unusedVariables false

/-- What Text tells, and what it leaves. -/
def curText (most : Int) (X : List UInt8) (e : Int) : List UInt8 × List UInt8 × Int :=
  if e = 0 then
    if numS X = 0 then ([], [], 4)
    else if most < numV X then ([], [], 3)
    else if 1048576 < numV X then ([], [], 4)
    else curRaw (numV X) (X.drop (numS X)) 0
  else ([], X, e)

theorem curNum_none {X : List UInt8} (h : numS X = 0) : curNum 1099511627776 X 0 = (0, [], 4) := by simp [curNum, h]
theorem curNum_some {X : List UInt8} (h : numS X ≠ 0) : curNum 1099511627776 X 0 = ((numV X : Int), X.drop (numS X), 0) := by
  have := numV_le X
  rw [curNum, if_pos rfl, if_neg (by omega)]

set_option maxHeartbeats 1000000 in
theorem curText_any {F : Nat → Prop} {b : Nat} {X : List UInt8} {e : Int} (most : Int) (w : World) (h : CurAt F w b X e) (hX : X.length ≤ 140737488355328) :
    Calls Try.prog 32 #[.pointer (some ⟨b, 0, none⟩), .int .i64 most] w fun r w' => ∃ v, r = .returned v ∧ Fr (· = b) w w' ∧ OwnB (fun k => w.heap.size ≤ k) w' v (curText most X e).1 ∧ CurAt F w' b (curText most X e).2.1 (curText most X e).2.2 := by
  by_cases he : e = 0
  · subst he
    by_cases hs : numS X = 0
    · have hR : curText most X 0 = ([], [], 4) := by simp [curText, hs]
      have hN := curNum_any 1099511627776 w h
      rw [curNum_none hs] at hN
      rw [hR]
      clear hs hR
      go_enter Try.func32, Try.ntmps32
      go_wp2_with (first
        | (go_at_call 30; refine hN.mono ?_; rintro e w1 ⟨rfl, hfr, hc1⟩)
        | (go_at_call 46; refine (whole_no _ (by assumption) (by decide)).mono ?_; rintro e w' ⟨rfl, rfl⟩))
      go_ret
      exact ⟨_, rfl, hfr, OwnB.nil _ _, hc1⟩
    · have hN := curNum_any 1099511627776 w h
      rw [curNum_some hs] at hN
      have hl : (X.drop (numS X)).length ≤ 140737488355328 := by rw [List.length_drop]; omega
      have hv := numV_le X
      obtain ⟨n, hn⟩ : ∃ n, n = numV X := ⟨_, rfl⟩
      by_cases hm : most < numV X
      · have hR : curText most X 0 = ([], [], 3) := by simp [curText, hs, hm]
        rw [hR]
        rw [← hn] at hm hN hv
        clear hs hn hR
        have HN := Lib.hid hN
        clear hN
        go_enter Try.func32, Try.ntmps32
        go_wp2_with (first
          | (go_at_call 30; refine HN.out.mono ?_; rintro e w1 ⟨rfl, hfr, hc1⟩)
          | (go_at_call 46; refine (whole_yes _ (by assumption)).mono ?_; rintro e w' ⟨rfl, rfl⟩)
          | (go_at_call 49; refine (curfail_any 3 _ (by assumption)).mono ?_; rintro e w2 ⟨rfl, hfr2, hc2⟩))
        go_ret
        exact ⟨_, rfl, hfr.trans hfr2 (fun i hi => .inl hi), OwnB.nil _ _, hc2⟩
      · by_cases hbig : 1048576 < numV X
        · have hR : curText most X 0 = ([], [], 4) := by simp [curText, hs, hm, hbig]
          rw [hR]
          rw [← hn] at hm hN hv hbig
          clear hs hn hR
          have HN := Lib.hid hN
          clear hN
          go_enter Try.func32, Try.ntmps32
          go_wp2_with (first
            | (go_at_call 30; refine HN.out.mono ?_; rintro e w1 ⟨rfl, hfr, hc1⟩)
            | (go_at_call 46; refine (whole_yes _ (by assumption)).mono ?_; rintro e w' ⟨rfl, rfl⟩)
            | (go_at_call 49; refine (curfail_any 4 _ (by assumption)).mono ?_; rintro e w2 ⟨rfl, hfr2, hc2⟩))
          go_ret
          exact ⟨_, rfl, hfr.trans hfr2 (fun i hi => .inl hi), OwnB.nil _ _, hc2⟩
        · have hR : curText most X 0 = curRaw (numV X) (X.drop (numS X)) 0 := by simp [curText, hs, hm, hbig]
          rw [hR]
          rw [← hn] at hm hN hv hbig ⊢
          clear hs hn hR
          obtain ⟨Y, hY⟩ : ∃ Y, Y = X.drop (numS X) := ⟨_, rfl⟩
          rw [← hY] at hN hl ⊢
          clear hY hX h
          have HN := Lib.hid hN
          clear hN
          go_enter Try.func32, Try.ntmps32
          go_wp2_with (first
            | (go_at_call 30; refine HN.out.mono ?_; rintro e w1 ⟨rfl, hfr, hc1⟩)
            | (go_at_call 46; refine (whole_yes _ (by assumption)).mono ?_; rintro e w' ⟨rfl, rfl⟩)
            | (go_at_call 31; refine (curRaw_any (n : Int) _ (by assumption) hl (by omega) (by omega)).mono ?_; rintro e w2 ⟨v, rfl, hfr2, hown, hc2⟩))
          go_ret
          exact ⟨_, rfl, hfr.trans hfr2 (fun i hi => .inl hi), hown.mono (fun k _ h => Nat.le_trans hfr.size h), hc2⟩
  · have hR : curText most X e = ([], X, e) := by simp [curText, he]
    have hN := curNum_any 1099511627776 w h
    rw [show curNum 1099511627776 X e = (0, X, e) by simp [curNum, he]] at hN
    rw [hR]
    have HN := Lib.hid hN
    clear hN hR
    go_enter Try.func32, Try.ntmps32
    go_wp2_with (first
      | (go_at_call 30; refine HN.out.mono ?_; rintro e w1 ⟨rfl, hfr, hc1⟩)
      | (go_at_call 46; refine (whole_no _ (by assumption) he).mono ?_; rintro e w' ⟨rfl, rfl⟩))
    go_ret
    exact ⟨_, rfl, hfr, OwnB.nil _ _, hc1⟩

/-- How many bytes are left. -/
def curLeft (X : List UInt8) (e : Int) : Int := if e = 0 then X.length else 0
theorem curLeft_any {F : Nat → Prop} {b : Nat} {X : List UInt8} {e : Int} (w : World) (h : CurAt F w b X e) :
    Calls Try.prog 28 #[.pointer (some ⟨b, 0, none⟩)] w fun r w' => r = .returned (.int .i64 (curLeft X e)) ∧ w = w' := by
  by_cases he : e = 0
  · subst he
    obtain ⟨v, c0, c1, c2, f0, f1, hb⟩ := h.facts
    obtain ⟨ao, cap, rfl, hl, hm, _⟩ := hb
    have hR : curLeft X 0 = X.length := rfl
    rw [hR]
    clear hR
    go_enter Try.func28, Try.ntmps28
    go_wp2_with (go_at_call 46; refine (whole_yes _ h).mono ?_; rintro e w' ⟨rfl, rfl⟩)
    go_ret
    exact ⟨rfl, rfl⟩
  · have hR : curLeft X e = 0 := by simp [curLeft, he]
    rw [hR]
    go_enter Try.func28, Try.ntmps28
    go_wp2_with (go_at_call 46; refine (whole_no _ h he).mono ?_; rintro e w' ⟨rfl, rfl⟩)
    go_ret
    exact ⟨rfl, rfl⟩

/-- The error at the end. -/
def curEnd (X : List UInt8) (e : Int) : Int := if e = 0 ∧ X ≠ [] then 4 else e
theorem curEnd_any {F : Nat → Prop} {b : Nat} {X : List UInt8} {e : Int} (w : World) (h : CurAt F w b X e) :
    Calls Try.prog 29 #[.pointer (some ⟨b, 0, none⟩)] w fun r w' => r = .returned (.int .i64 (curEnd X e)) ∧ w = w' := by
  obtain ⟨v, c0, c1, c2, f0, f1, hb⟩ := h.facts
  obtain ⟨ao, cap, rfl, hl, hm, _⟩ := hb
  by_cases he : e = 0
  · subst he
    have he' : ((0 : Int) == 0) = true := rfl
    by_cases hX : X = []
    · subst hX
      have hR : curEnd [] 0 = 0 := rfl
      rw [hR]
      clear hR
      go_enter Try.func29, Try.ntmps29
      go_wp2_with (go_at_call 47; refine (isCursor_any _ h).mono ?_; rintro e w' ⟨rfl, rfl⟩)
      go_ret
      exact ⟨rfl, rfl⟩
    · have hR : curEnd X 0 = 4 := by simp [curEnd, hX]
      rw [hR]
      have hp : 0 < X.length := List.length_pos_iff.2 hX
      clear hR hX
      go_enter Try.func29, Try.ntmps29
      go_wp2_with (go_at_call 47; refine (isCursor_any _ h).mono ?_; rintro e w' ⟨rfl, rfl⟩)
      go_ret
      exact ⟨rfl, rfl⟩
  · have hR : curEnd X e = e := by simp [curEnd, he]
    rw [hR]
    have he' : (e == 0) = false := by simpa using he
    clear he hR
    go_enter Try.func29, Try.ntmps29
    go_wp2_with (go_at_call 47; refine (isCursor_any _ h).mono ?_; rintro e w' ⟨rfl, rfl⟩)
    go_ret
    exact ⟨rfl, rfl⟩

end Go.Proofs.Ythjpgnmpcllolaa
