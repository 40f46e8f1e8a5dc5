/- Contracts of base.ofName, base.Name. Printed by gen_bname.py (wip/gen). -/
import Derived.Test.YtdmlalnekjihfaaRName
import Derived.Test.YtdmlalnekjihfaaBVals
import Derived.Lib.TrimU
namespace Go.Proofs.Ytdmlalnekjihfaa
open Go.RowKit Go.ChangeShapes
set_option linter.unusedVariables false

/-- A sign of a name, of runes. Not unfolded by a walk. -/
def okR (r : Nat) : Bool := decide ((97 ≤ r ∧ r ≤ 122) ∨ (65 ≤ r ∧ r ≤ 90) ∨ (48 ≤ r ∧ r ≤ 57) ∨ r = 46 ∨ r = 95 ∨ r = 43 ∨ r = 45)
theorem okR_yes {r : Nat} (h : (97 ≤ r ∧ r ≤ 122) ∨ (65 ≤ r ∧ r ≤ 90) ∨ (48 ≤ r ∧ r ≤ 57) ∨ r = 46 ∨ r = 95 ∨ r = 43 ∨ r = 45) : okR r = true := by simp only [okR, h, decide_true]
theorem okR_no {r : Nat} (h : ¬ ((97 ≤ r ∧ r ≤ 122) ∨ (65 ≤ r ∧ r ≤ 90) ∨ (48 ≤ r ∧ r ≤ 57) ∨ r = 46 ∨ r = 95 ∨ r = 43 ∨ r = 45)) : okR r = false := by simp only [okR, h, decide_false]
theorem okR_all : ∀ c : Fin 256, okR c.val = okC (UInt8.ofNat c.val) := by decide +kernel
theorem okR_okC (c : UInt8) : okR c.toNat = okC c := by
  have h := okR_all ⟨c.toNat, c.toNat_lt⟩
  simpa using h
theorem okC_high (c : UInt8) (h : 128 ≤ c.toNat) : okC c = false := by
  rw [← okR_okC]
  exact okR_no (by omega)

set_option maxHeartbeats 4000000 in
theorem ofName_any (r : Nat) (hr : r < 1114112) (w : World) :
    Calls Try.prog 30 #[.int .i32 r] w fun e w' => e = .returned (.bool (okR r)) ∧ w = w' := by
  have hc : (97 ≤ r ∧ r ≤ 122) ∨ (65 ≤ r ∧ r ≤ 90) ∨ (48 ≤ r ∧ r ≤ 57) ∨ r = 46 ∨ r = 95 ∨ r = 43 ∨ r = 45 ∨ r < 43 ∨ r = 44 ∨ r = 47 ∨ (58 ≤ r ∧ r ≤ 64) ∨ (91 ≤ r ∧ r ≤ 94) ∨ r = 96 ∨ 122 < r := by omega
  rcases hc with ⟨h1, h2⟩ | ⟨h1, h2⟩ | ⟨h1, h2⟩ | rfl | rfl | rfl | rfl | h1 | rfl | rfl | ⟨h1, h2⟩ | ⟨h1, h2⟩ | rfl | h1
  · have HE := Lib.hid (okR_yes (by omega) : okR r = true)
    have e46 : ((r : Int) == 46) = false := by rw [beq_eq_false_iff_ne]; omega
    have e95 : ((r : Int) == 95) = false := by rw [beq_eq_false_iff_ne]; omega
    have e43 : ((r : Int) == 43) = false := by rw [beq_eq_false_iff_ne]; omega
    have e45 : ((r : Int) == 45) = false := by rw [beq_eq_false_iff_ne]; omega
    rw [HE.out]
    go_enter Try.func30, Try.ntmps30
    go_wp2
    go_ret
    exact ⟨rfl, rfl⟩
  · have HE := Lib.hid (okR_yes (by omega) : okR r = true)
    have e46 : ((r : Int) == 46) = false := by rw [beq_eq_false_iff_ne]; omega
    have e95 : ((r : Int) == 95) = false := by rw [beq_eq_false_iff_ne]; omega
    have e43 : ((r : Int) == 43) = false := by rw [beq_eq_false_iff_ne]; omega
    have e45 : ((r : Int) == 45) = false := by rw [beq_eq_false_iff_ne]; omega
    rw [HE.out]
    go_enter Try.func30, Try.ntmps30
    go_wp2
    go_ret
    exact ⟨rfl, rfl⟩
  · have HE := Lib.hid (okR_yes (by omega) : okR r = true)
    have e46 : ((r : Int) == 46) = false := by rw [beq_eq_false_iff_ne]; omega
    have e95 : ((r : Int) == 95) = false := by rw [beq_eq_false_iff_ne]; omega
    have e43 : ((r : Int) == 43) = false := by rw [beq_eq_false_iff_ne]; omega
    have e45 : ((r : Int) == 45) = false := by rw [beq_eq_false_iff_ne]; omega
    rw [HE.out]
    go_enter Try.func30, Try.ntmps30
    go_wp2
    go_ret
    exact ⟨rfl, rfl⟩
  · have HE := Lib.hid (okR_yes (by omega) : okR 46 = true)
    rw [HE.out]
    go_enter Try.func30, Try.ntmps30
    go_wp2
    go_ret
    exact ⟨rfl, rfl⟩
  · have HE := Lib.hid (okR_yes (by omega) : okR 95 = true)
    rw [HE.out]
    go_enter Try.func30, Try.ntmps30
    go_wp2
    go_ret
    exact ⟨rfl, rfl⟩
  · have HE := Lib.hid (okR_yes (by omega) : okR 43 = true)
    rw [HE.out]
    go_enter Try.func30, Try.ntmps30
    go_wp2
    go_ret
    exact ⟨rfl, rfl⟩
  · have HE := Lib.hid (okR_yes (by omega) : okR 45 = true)
    rw [HE.out]
    go_enter Try.func30, Try.ntmps30
    go_wp2
    go_ret
    exact ⟨rfl, rfl⟩
  · have HE := Lib.hid (okR_no (by omega) : okR r = false)
    have e46 : ((r : Int) == 46) = false := by rw [beq_eq_false_iff_ne]; omega
    have e95 : ((r : Int) == 95) = false := by rw [beq_eq_false_iff_ne]; omega
    have e43 : ((r : Int) == 43) = false := by rw [beq_eq_false_iff_ne]; omega
    have e45 : ((r : Int) == 45) = false := by rw [beq_eq_false_iff_ne]; omega
    rw [HE.out]
    go_enter Try.func30, Try.ntmps30
    go_wp2
    go_ret
    exact ⟨rfl, rfl⟩
  · have HE := Lib.hid (okR_no (by omega) : okR 44 = false)
    rw [HE.out]
    go_enter Try.func30, Try.ntmps30
    go_wp2
    go_ret
    exact ⟨rfl, rfl⟩
  · have HE := Lib.hid (okR_no (by omega) : okR 47 = false)
    rw [HE.out]
    go_enter Try.func30, Try.ntmps30
    go_wp2
    go_ret
    exact ⟨rfl, rfl⟩
  · have HE := Lib.hid (okR_no (by omega) : okR r = false)
    have e46 : ((r : Int) == 46) = false := by rw [beq_eq_false_iff_ne]; omega
    have e95 : ((r : Int) == 95) = false := by rw [beq_eq_false_iff_ne]; omega
    have e43 : ((r : Int) == 43) = false := by rw [beq_eq_false_iff_ne]; omega
    have e45 : ((r : Int) == 45) = false := by rw [beq_eq_false_iff_ne]; omega
    rw [HE.out]
    go_enter Try.func30, Try.ntmps30
    go_wp2
    go_ret
    exact ⟨rfl, rfl⟩
  · have HE := Lib.hid (okR_no (by omega) : okR r = false)
    have e46 : ((r : Int) == 46) = false := by rw [beq_eq_false_iff_ne]; omega
    have e95 : ((r : Int) == 95) = false := by rw [beq_eq_false_iff_ne]; omega
    have e43 : ((r : Int) == 43) = false := by rw [beq_eq_false_iff_ne]; omega
    have e45 : ((r : Int) == 45) = false := by rw [beq_eq_false_iff_ne]; omega
    rw [HE.out]
    go_enter Try.func30, Try.ntmps30
    go_wp2
    go_ret
    exact ⟨rfl, rfl⟩
  · have HE := Lib.hid (okR_no (by omega) : okR 96 = false)
    rw [HE.out]
    go_enter Try.func30, Try.ntmps30
    go_wp2
    go_ret
    exact ⟨rfl, rfl⟩
  · have HE := Lib.hid (okR_no (by omega) : okR r = false)
    have e46 : ((r : Int) == 46) = false := by rw [beq_eq_false_iff_ne]; omega
    have e95 : ((r : Int) == 95) = false := by rw [beq_eq_false_iff_ne]; omega
    have e43 : ((r : Int) == 43) = false := by rw [beq_eq_false_iff_ne]; omega
    have e45 : ((r : Int) == 45) = false := by rw [beq_eq_false_iff_ne]; omega
    rw [HE.out]
    go_enter Try.func30, Try.ntmps30
    go_wp2
    go_ret
    exact ⟨rfl, rfl⟩

theorem nameB_long (L : List UInt8) (h : ¬ L.length ≤ 24) : nameB L = false := by
  have : decide (L.length ≤ 24) = false := by rw [decide_eq_false_iff_not]; exact h
  simp [nameB, this]
theorem nameB_dot (L : List UInt8) (h : L.getD 0 0 = 46) : nameB L = false := by
  have : (L.getD 0 0 == 46) = true := by rw [h]; rfl
  simp only [nameB, this, Bool.not_true, Bool.and_false]
theorem nameB_yes (L : List UInt8) (h0 : 0 < L.length) (h1 : L.length ≤ 24) (h2 : ¬ L.getD 0 0 = 46) (h3 : L.all okC = true) : nameB L = true := by
  have : (L.getD 0 0 == 46) = false := by rw [beq_eq_false_iff_ne]; exact h2
  simp only [nameB, h3, h0, h1, this, decide_true, Bool.not_false, Bool.and_true]

set_option maxRecDepth 100000 in
set_option maxHeartbeats 2000000 in
theorem bName_any (s : ByteArray) (hs : s.size ≤ 140737488351232) (w : World) :
    Calls Try.prog 17 #[.string s] w fun e w' => e = .returned (.bool (nameB s.data.toList)) ∧ Fr (fun _ => False) w w' := by
  have hsl : s.size = s.data.toList.length := by simp
  have HSL := Lib.hid hsl
  obtain ⟨RS, hRS⟩ : ∃ RS, RS = nameB s.data.toList := ⟨_, rfl⟩
  rw [← hRS]
  have HRS := Lib.hid hRS
  clear hRS hsl
  by_cases h0 : s.size = 0
  · obtain rfl : s = ⟨#[]⟩ := by
      apply ByteArray.ext
      exact Array.eq_empty_of_size_eq_zero h0
    have HE := Lib.hid (show RS = false by rw [HRS.out]; rfl)
    clear h0
    go_enter Try.func17, Try.ntmps17
    go_wp2
    go_ret
    exact ⟨by rw [HE.out]; rfl, Fr.refl _ _⟩
  · by_cases h24 : s.size ≤ 24
    · obtain ⟨c, hc⟩ : ∃ c, c = s[0]'(by omega) := ⟨_, rfl⟩
      have hg : ∀ h, s[0]'h = c := fun h => hc.symm
      have hcd : c = s.data.toList.getD 0 0 := by
        rw [hc, List.getD_eq_getElem?_getD, List.getElem?_eq_getElem (by rw [← HSL.out]; omega)]
        rfl
      have e0 : ((s.size : Int) == 0) = false := by rw [beq_eq_false_iff_ne]; omega
      have e24 : decide (24 < (s.size : Int)) = false := by rw [decide_eq_false_iff_not]; omega
      have b0 : (0 : Int) < (s.size : Int) := by omega
      have n0 : 0 < s.size := by omega
      have H0 := Lib.hid h0
      clear h0 hc
      by_cases h46 : c = 46
      · have HE := Lib.hid (show RS = false by rw [HRS.out]; exact nameB_dot _ (by rw [← hcd]; exact h46))
        have e46 : ((c.toNat : Int) == 46) = true := by rw [h46]; rfl
        clear h46 hcd
        go_enter Try.func17, Try.ntmps17
        go_wp2
        go_ret
        exact ⟨by rw [HE.out]; rfl, Fr.refl _ _⟩
      · have HND := Lib.hid (show ¬ s.data.toList.getD 0 0 = 46 by rw [← hcd]; exact h46)
        have e46 : ((c.toNat : Int) == 46) = false := by
          rw [beq_eq_false_iff_ne]
          intro h
          exact h46 (UInt8.toNat_inj.1 (by have : (46 : UInt8).toNat = 46 := rfl; omega))
        clear h46 hcd
        have HON := Lib.hid (fun r (hr : r < 1114112) W => ofName_any r hr W)
        go_enter Try.func17, Try.ntmps17
        go_wp2_with fail
        go_loopg [4] s.size (fun gf s4 wx => ∃ i : Nat, i ≤ s.size ∧ s.size = i + gf ∧ wx.heap[w.heap.size]? = some (.stringIter s i) ∧ Fr (fun _ => False) w wx ∧ Hid ((s.data.toList.take i).all okC = true))
        case atStart => exact ⟨0, by omega, by omega, World.iter_heap w s 0, (Fr.refl _ _).alloc _, Lib.hid rfl⟩
        case round =>
          obtain ⟨i, hi, hgf, hit, hF, hA⟩ := hrel
          have HGF := Lib.hid hgf
          clear hgf
          by_cases hlt : i < s.size
          · obtain ⟨g', hg'⟩ : ∃ g', gk = g' + 1 := ⟨gk - 1, by have := HGF.out; omega⟩
            have HG' := Lib.hid hg'
            have hil : i < s.data.toList.length := by rw [← HSL.out]; exact hlt
            have hst := all_take_succ s.data.toList i hil
            rw [hA.out, Bool.true_and] at hst
            have hbad := nameB_bad s.data.toList i hil
            obtain ⟨d, hd⟩ : ∃ d, d = s.data.toList[i] := ⟨_, rfl⟩
            rw [← hd] at hst hbad
            have hsd : s[i]'hlt = d := by rw [hd]; rfl
            obtain ⟨R, hR⟩ : ∃ R, R = (Utf8.decode s i).1 := ⟨_, rfl⟩
            obtain ⟨p, hp⟩ : ∃ p, p = i + (Utf8.decode s i).2 := ⟨_, rfl⟩
            have hRl : R < 1114112 := by have := Lib.rune_le s i; omega
            have hok : okR R = okC d := by
              by_cases ha : d.toNat < 128
              · rw [hR, decode_ascii s i hlt (by rw [hsd]; exact ha), hsd]
                exact okR_okC d
              · have h := (decode_high s i hlt (by rw [hsd]; omega)).1
                rw [okC_high d (by omega)]
                exact okR_no (by omega)
            have hp1 : okC d = true → p = i + 1 := fun hk => by
              have ha : d.toNat < 128 := by
                by_cases h : d.toNat < 128
                · exact h
                · rw [okC_high d (by omega)] at hk; cases hk
              rw [hp, decode_ascii s i hlt (by rw [hsd]; exact ha)]
            have hnx : ∀ ty, (Instr.next (.pointer (some ⟨w.heap.size, 0, none⟩)) true ty).run Try.prog wr = .ok (.tuple #[.bool true, .int .i64 i, .int .i32 R]) (wr.iterAt w.heap.size s p) := fun ty => by
              rw [hR, hp]
              exact Lib.run_next_any_at (P := Try.prog) wr w.heap.size s i ty hit hlt
            have hit2 := Lib.iterAt_heap wr w.heap.size s i p hit
            have hF2 := hF.iterAt (.inr (Nat.le_refl w.heap.size)) s p
            obtain ⟨W, hWd⟩ : ∃ W, wr.iterAt w.heap.size s p = W := ⟨_, rfl⟩
            rw [hWd] at hnx hit2 hF2
            have HF2 := Lib.hid (And.intro hit2 hF2)
            have HO := HON.out R hRl
            rw [hok] at HO
            have HO := Lib.hid HO
            have HST := Lib.hid hst
            have HBAD := Lib.hid hbad
            have HP1 := Lib.hid hp1
            clear hit hF hit2 hF2 hA hst hbad hd hsd hR hp hok hp1 hWd hg' HON hil
            by_cases hk : okC d = true
            · have HK := Lib.hid hk
              clear hk
              go_wp2_with (go_at_call 30; refine (HO.out _).mono ?_; rintro e w2 ⟨rfl, rfl⟩; rw [HK.out])
              go_roundg g'
              case measure => have := HG'.out; omega
              case rel =>
                have e := HP1.out HK.out
                refine ⟨i + 1, by omega, by have := HG'.out; have := HGF.out; omega, ?_, HF2.out.2, Lib.hid (HST.out.trans HK.out)⟩
                rw [← e]
                exact HF2.out.1
            · have HK := Lib.hid (show okC d = false by simpa using hk)
              have HE := Lib.hid (show RS = false by rw [HRS.out]; exact HBAD.out HK.out)
              clear hk
              go_wp2_with (go_at_call 30; refine (HO.out _).mono ?_; rintro e w2 ⟨rfl, rfl⟩; rw [HK.out])
              go_ret
              exact ⟨by rw [HE.out]; rfl, HF2.out.2⟩
          · have hnx : ∀ ty, (Instr.next (.pointer (some ⟨w.heap.size, 0, none⟩)) true ty).run Try.prog wr = .ok (.tuple #[.bool false]) wr := fun ty => Lib.run_next_end_at (P := Try.prog) wr w.heap.size s i ty hit hlt
            have HE := Lib.hid (show RS = true by
              rw [HRS.out]
              refine nameB_yes _ (by rw [← HSL.out]; omega) (by rw [← HSL.out]; exact h24) HND.out ?_
              have h := hA.out
              rwa [List.take_of_length_le (by rw [← HSL.out]; omega)] at h)
            have HF := Lib.hid hF
            clear hit hF hA
            go_wp2_with fail
            go_ret
            exact ⟨by rw [HE.out]; rfl, HF.out⟩
    · have HE := Lib.hid (show RS = false by rw [HRS.out]; exact nameB_long _ (by rw [← HSL.out]; exact h24))
      have e0 : ((s.size : Int) == 0) = false := by rw [beq_eq_false_iff_ne]; omega
      have e24 : decide (24 < (s.size : Int)) = true := by rw [decide_eq_true_iff]; omega
      clear h0 h24
      go_enter Try.func17, Try.ntmps17
      go_wp2
      go_ret
      exact ⟨by rw [HE.out]; rfl, Fr.refl _ _⟩
end Go.Proofs.Ytdmlalnekjihfaa
