/- Contracts of the document's own: spenceref03.within, Name. Printed by gen_rname.py (wip/gen). -/
import Derived.Test.YtdmlalnekjihfaaRLet
namespace Go.Proofs.Ytdmlalnekjihfaa
open Go.RowKit Go.ChangeShapes
set_option linter.unusedVariables false

/-- Is a byte from one to another one? Not unfolded by a walk. -/
def inB (c : UInt8) (lo hi : Nat) : Bool := decide (lo ≤ c.toNat ∧ c.toNat ≤ hi)
theorem rwithin_any (c : UInt8) (lo hi : Nat) (w : World) :
    Calls Try.prog 31 #[.int .u8 c.toNat, .int .u8 lo, .int .u8 hi] w fun e w' => e = .returned (.bool (inB c lo hi)) ∧ w = w' := by
  by_cases h1 : lo ≤ c.toNat
  · by_cases h2 : c.toNat ≤ hi
    · have HE := Lib.hid (show inB c lo hi = true by simp [inB, h1, h2])
      have h1' : (lo : Int) ≤ (c.toNat : Int) := by omega
      have h2' : (c.toNat : Int) ≤ (hi : Int) := by omega
      rw [HE.out]
      go_enter Try.func31, Try.ntmps31
      go_wp2
      go_ret
      exact ⟨rfl, rfl⟩
    · have HE := Lib.hid (show inB c lo hi = false by simp [inB, h1, h2])
      have h1' : (lo : Int) ≤ (c.toNat : Int) := by omega
      have h2' : ¬ (c.toNat : Int) ≤ (hi : Int) := by omega
      rw [HE.out]
      go_enter Try.func31, Try.ntmps31
      go_wp2
      go_ret
      exact ⟨rfl, rfl⟩
  · have HE := Lib.hid (show inB c lo hi = false by simp [inB]; omega)
    have h1' : ¬ (lo : Int) ≤ (c.toNat : Int) := by omega
    rw [HE.out]
    go_enter Try.func31, Try.ntmps31
    go_wp2
    go_ret
    exact ⟨rfl, rfl⟩

/-- A sign of a name. -/
def okC (c : UInt8) : Bool := inB c 97 122 || inB c 65 90 || inB c 48 57 || c == 46 || c == 95 || c == 43 || c == 45
/-- A name. -/
def nameB (L : List UInt8) : Bool := L.all okC && decide (0 < L.length) && decide (L.length ≤ 24) && !(L.getD 0 0 == 46)
theorem all_take_succ (L : List UInt8) (i : Nat) (h : i < L.length) : (L.take (i + 1)).all okC = ((L.take i).all okC && okC L[i]) := by
  rw [List.take_succ_eq_append_getElem h, List.all_append]
  simp
theorem nameB_bad (L : List UInt8) (i : Nat) (h : i < L.length) (hc : okC L[i] = false) : nameB L = false := by
  have : L.all okC = false := by
    rw [List.all_eq_false]
    exact ⟨L[i], List.getElem_mem _, by simp [hc]⟩
  simp [nameB, this]
theorem sign_eq (c : UInt8) (n : Nat) (h : c = UInt8.ofNat n) (hn : n < 256) : ((c.toNat : Int) != (n : Int)) = false := by
  rw [h, UInt8.toNat_ofNat', bne_eq_false_iff_eq]
  omega
theorem sign_ne (c : UInt8) (n : Nat) (h : ¬ c = UInt8.ofNat n) (hn : n < 256) : ((c.toNat : Int) != (n : Int)) = true := by
  rw [bne_iff_ne]
  intro e
  apply h
  apply UInt8.toNat_inj.1
  rw [UInt8.toNat_ofNat']
  omega

set_option maxRecDepth 100000 in
set_option maxHeartbeats 2000000 in
theorem rName_any (s : ByteArray) (hs : s.size ≤ 140737488351232) (w : World) :
    Calls Try.prog 18 #[.string s] w fun e w' => e = .returned (.bool (nameB s.data.toList)) ∧ w = w' := by
  have hsl : s.size = s.data.toList.length := by simp
  have HSL := Lib.hid hsl
  obtain ⟨RS, hRS⟩ : ∃ RS, RS = nameB s.data.toList := ⟨_, rfl⟩
  rw [← hRS]
  have HRS := Lib.hid hRS
  have HW1 : ∀ (c : UInt8) W, Calls Try.prog 31 #[.int .u8 c.toNat, .int .u8 97, .int .u8 122] W fun e w' => e = .returned (.bool (inB c 97 122)) ∧ W = w' := fun c W => rwithin_any c 97 122 W
  have HW2 : ∀ (c : UInt8) W, Calls Try.prog 31 #[.int .u8 c.toNat, .int .u8 65, .int .u8 90] W fun e w' => e = .returned (.bool (inB c 65 90)) ∧ W = w' := fun c W => rwithin_any c 65 90 W
  have HW3 : ∀ (c : UInt8) W, Calls Try.prog 31 #[.int .u8 c.toNat, .int .u8 48, .int .u8 57] W fun e w' => e = .returned (.bool (inB c 48 57)) ∧ W = w' := fun c W => rwithin_any c 48 57 W
  have HW1 := Lib.hid HW1
  have HW2 := Lib.hid HW2
  have HW3 := Lib.hid HW3
  clear hsl hRS
  go_enter Try.func18, Try.ntmps18
  go_wp2
  go_loop [3] (fun iv => ∃ i : Nat, i ≤ s.size ∧ iv = .int .i64 i ∧ Hid ((s.data.toList.take i).all okC = true)) (fun iv => s.size - (intOf iv).toNat)
  case atStart => exact ⟨0, by omega, rfl, Lib.hid rfl⟩
  case round =>
    obtain ⟨i, hi, rfl, hA⟩ := hrel
    by_cases hlt : i < s.size
    · have hil : i < s.data.toList.length := by rw [← HSL.out]; exact hlt
      have hst := all_take_succ s.data.toList i hil
      rw [hA.out, Bool.true_and] at hst
      have hbad := nameB_bad s.data.toList i hil
      obtain ⟨c, hc⟩ : ∃ c, c = s.data.toList[i] := ⟨_, rfl⟩
      rw [← hc] at hst hbad
      have hg : ∀ h, s[i]'h = c := fun h => by rw [hc]; rfl
      have HST := Lib.hid hst
      have HBAD := Lib.hid hbad
      have hi0 : (0 : Int) ≤ (i : Int) := by omega
      have hi1 : (i : Int) < (s.size : Int) := by omega
      clear hA hst hbad hc
      by_cases n1 : inB c 97 122 = true
      · have E1 := Lib.hid n1
        clear n1
        have HOK := Lib.hid (show okC c = true by simp [okC, E1.out])
        have hn := Lib.hid (HST.out.trans HOK.out)
        clear HOK
        go_wp2_with (first
          | (go_at_call 31; (with_reducible refine (HW1.out c _).mono ?_); rintro e w' ⟨rfl, rfl⟩; rw [E1.out]))
        go_round
        case rel => exact ⟨i + 1, by omega, by go_num, hn⟩
        case measure => simp [intOf]; omega
      · have E1 := Lib.hid (show inB c 97 122 = false by simpa using n1)
        clear n1
        by_cases n2 : inB c 65 90 = true
        · have E2 := Lib.hid n2
          clear n2
          have HOK := Lib.hid (show okC c = true by simp [okC, E2.out])
          have hn := Lib.hid (HST.out.trans HOK.out)
          clear HOK
          go_wp2_with (first
            | (go_at_call 31; (with_reducible refine (HW1.out c _).mono ?_); rintro e w' ⟨rfl, rfl⟩; rw [E1.out])
            | (go_at_call 31; (with_reducible refine (HW2.out c _).mono ?_); rintro e w' ⟨rfl, rfl⟩; rw [E2.out]))
          go_round
          case rel => exact ⟨i + 1, by omega, by go_num, hn⟩
          case measure => simp [intOf]; omega
        · have E2 := Lib.hid (show inB c 65 90 = false by simpa using n2)
          clear n2
          by_cases n3 : inB c 48 57 = true
          · have E3 := Lib.hid n3
            clear n3
            have HOK := Lib.hid (show okC c = true by simp [okC, E3.out])
            have hn := Lib.hid (HST.out.trans HOK.out)
            clear HOK
            go_wp2_with (first
              | (go_at_call 31; (with_reducible refine (HW1.out c _).mono ?_); rintro e w' ⟨rfl, rfl⟩; rw [E1.out])
              | (go_at_call 31; (with_reducible refine (HW2.out c _).mono ?_); rintro e w' ⟨rfl, rfl⟩; rw [E2.out])
              | (go_at_call 31; (with_reducible refine (HW3.out c _).mono ?_); rintro e w' ⟨rfl, rfl⟩; rw [E3.out]))
            go_round
            case rel => exact ⟨i + 1, by omega, by go_num, hn⟩
            case measure => simp [intOf]; omega
          · have E3 := Lib.hid (show inB c 48 57 = false by simpa using n3)
            clear n3
            by_cases N4 : c = 46
            · have d4 : ((c.toNat : Int) != 46) = false := sign_eq c 46 N4 (by decide)
              have HOK := Lib.hid (show okC c = true by simp [okC, N4])
              have hn := Lib.hid (HST.out.trans HOK.out)
              clear HOK N4
              go_wp2_with (first
                | (go_at_call 31; (with_reducible refine (HW1.out c _).mono ?_); rintro e w' ⟨rfl, rfl⟩; rw [E1.out])
                | (go_at_call 31; (with_reducible refine (HW2.out c _).mono ?_); rintro e w' ⟨rfl, rfl⟩; rw [E2.out])
                | (go_at_call 31; (with_reducible refine (HW3.out c _).mono ?_); rintro e w' ⟨rfl, rfl⟩; rw [E3.out]))
              go_round
              case rel => exact ⟨i + 1, by omega, by go_num, hn⟩
              case measure => simp [intOf]; omega
            · have d4 : ((c.toNat : Int) != 46) = true := sign_ne c 46 N4 (by decide)
              by_cases N5 : c = 95
              · have d5 : ((c.toNat : Int) != 95) = false := sign_eq c 95 N5 (by decide)
                have HOK := Lib.hid (show okC c = true by simp [okC, N5])
                have hn := Lib.hid (HST.out.trans HOK.out)
                clear HOK N4 N5
                go_wp2_with (first
                  | (go_at_call 31; (with_reducible refine (HW1.out c _).mono ?_); rintro e w' ⟨rfl, rfl⟩; rw [E1.out])
                  | (go_at_call 31; (with_reducible refine (HW2.out c _).mono ?_); rintro e w' ⟨rfl, rfl⟩; rw [E2.out])
                  | (go_at_call 31; (with_reducible refine (HW3.out c _).mono ?_); rintro e w' ⟨rfl, rfl⟩; rw [E3.out]))
                go_round
                case rel => exact ⟨i + 1, by omega, by go_num, hn⟩
                case measure => simp [intOf]; omega
              · have d5 : ((c.toNat : Int) != 95) = true := sign_ne c 95 N5 (by decide)
                by_cases N6 : c = 43
                · have d6 : ((c.toNat : Int) != 43) = false := sign_eq c 43 N6 (by decide)
                  have HOK := Lib.hid (show okC c = true by simp [okC, N6])
                  have hn := Lib.hid (HST.out.trans HOK.out)
                  clear HOK N4 N5 N6
                  go_wp2_with (first
                    | (go_at_call 31; (with_reducible refine (HW1.out c _).mono ?_); rintro e w' ⟨rfl, rfl⟩; rw [E1.out])
                    | (go_at_call 31; (with_reducible refine (HW2.out c _).mono ?_); rintro e w' ⟨rfl, rfl⟩; rw [E2.out])
                    | (go_at_call 31; (with_reducible refine (HW3.out c _).mono ?_); rintro e w' ⟨rfl, rfl⟩; rw [E3.out]))
                  go_round
                  case rel => exact ⟨i + 1, by omega, by go_num, hn⟩
                  case measure => simp [intOf]; omega
                · have d6 : ((c.toNat : Int) != 43) = true := sign_ne c 43 N6 (by decide)
                  by_cases N7 : c = 45
                  · have d7 : ((c.toNat : Int) != 45) = false := sign_eq c 45 N7 (by decide)
                    have HOK := Lib.hid (show okC c = true by simp [okC, N7])
                    have hn := Lib.hid (HST.out.trans HOK.out)
                    clear HOK N4 N5 N6 N7
                    go_wp2_with (first
                      | (go_at_call 31; (with_reducible refine (HW1.out c _).mono ?_); rintro e w' ⟨rfl, rfl⟩; rw [E1.out])
                      | (go_at_call 31; (with_reducible refine (HW2.out c _).mono ?_); rintro e w' ⟨rfl, rfl⟩; rw [E2.out])
                      | (go_at_call 31; (with_reducible refine (HW3.out c _).mono ?_); rintro e w' ⟨rfl, rfl⟩; rw [E3.out]))
                    go_round
                    case rel => exact ⟨i + 1, by omega, by go_num, hn⟩
                    case measure => simp [intOf]; omega
                  · have d7 : ((c.toNat : Int) != 45) = true := sign_ne c 45 N7 (by decide)
                    have HB := Lib.hid (HRS.out.trans (HBAD.out (show okC c = false by simp [okC, E1.out, E2.out, E3.out, N4, N5, N6, N7])))
                    clear N4 N5 N6 N7
                    go_wp2_with (first
                      | (go_at_call 31; (with_reducible refine (HW1.out c _).mono ?_); rintro e w' ⟨rfl, rfl⟩; rw [E1.out])
                      | (go_at_call 31; (with_reducible refine (HW2.out c _).mono ?_); rintro e w' ⟨rfl, rfl⟩; rw [E2.out])
                      | (go_at_call 31; (with_reducible refine (HW3.out c _).mono ?_); rintro e w' ⟨rfl, rfl⟩; rw [E3.out]))
                    go_ret
                    exact ⟨ret_bool HB.out.symm, rfl⟩
    · have hid : decide ((i : Int) < (s.size : Int)) = false := by rw [decide_eq_false_iff_not]; omega
      have HALL := Lib.hid (show s.data.toList.all okC = true by
        have h := hA.out
        rwa [List.take_of_length_le (by rw [← HSL.out]; omega)] at h)
      clear hA
      by_cases h0 : 0 < s.size
      · have h0' : (0 : Int) < (s.size : Int) := by omega
        by_cases h24 : s.size ≤ 24
        · have h24' : (s.size : Int) ≤ 24 := by omega
          have h0l : 0 < s.data.toList.length := by rw [← HSL.out]; exact h0
          obtain ⟨c, hc⟩ : ∃ c, c = s.data.toList[0]'h0l := ⟨_, rfl⟩
          have hg : ∀ h, s[0]'h = c := fun h => by rw [hc]; rfl
          have hgd : s.data.toList.getD 0 0 = c := by rw [List.getD_eq_getElem?_getD, List.getElem?_eq_getElem h0l, hc]; rfl
          by_cases hdot : c = 46
          · have hd1 : ((c.toNat : Int) != 46) = false := sign_eq c 46 hdot (by decide)
            have HE := Lib.hid (HRS.out.trans (show nameB s.data.toList = false by rw [nameB, hgd, hdot]; simp))
            clear hdot hc hgd
            go_wp2_with fail
            go_ret
            exact ⟨ret_bool HE.out.symm, rfl⟩
          · have hd1 : ((c.toNat : Int) != 46) = true := sign_ne c 46 hdot (by decide)
            have HE := Lib.hid (HRS.out.trans (show nameB s.data.toList = true by rw [nameB, hgd, HALL.out, ← HSL.out]; simp [h0, h24, hdot]))
            clear hdot hc hgd
            go_wp2_with fail
            go_ret
            exact ⟨ret_bool HE.out.symm, rfl⟩
        · have h24' : ¬ (s.size : Int) ≤ 24 := by omega
          have HE := Lib.hid (HRS.out.trans (show nameB s.data.toList = false by rw [nameB, ← HSL.out]; simp [h24]))
          go_wp2_with fail
          go_ret
          exact ⟨ret_bool HE.out.symm, rfl⟩
      · have h0' : ¬ (0 : Int) < (s.size : Int) := by omega
        have HE := Lib.hid (HRS.out.trans (show nameB s.data.toList = false by rw [nameB, ← HSL.out]; simp [h0]))
        go_wp2_with fail
        go_ret
        exact ⟨ret_bool HE.out.symm, rfl⟩
end Go.Proofs.Ytdmlalnekjihfaa
