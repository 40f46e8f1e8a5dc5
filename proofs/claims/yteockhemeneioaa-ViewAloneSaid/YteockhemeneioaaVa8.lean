/- Laid together: BName VMc -/
import Derived.Test.YteockhemeneioaaVa0
import Derived.Test.YteockhemeneioaaVa2
import Derived.Lib.TrimU
import Derived.Test.YteockhemeneioaaVa7

namespace Go.Proofs.Yteockhemeneioaa
open Go.RowKit Go.ChangeShapes
set_option linter.unusedVariables false
def okR (r : Nat) : Bool := decide ((97 ≤ r ∧ r ≤ 122) ∨ (65 ≤ r ∧ r ≤ 90) ∨ (48 ≤ r ∧ r ≤ 57) ∨ r = 46 ∨ r = 95 ∨ r = 43 ∨ r = 45)
theorem okR_yes {r : Nat} (h : (97 ≤ r ∧ r ≤ 122) ∨ (65 ≤ r ∧ r ≤ 90) ∨ (48 ≤ r ∧ r ≤ 57) ∨ r = 46 ∨ r = 95 ∨ r = 43 ∨ r = 45) : okR r = true := by simp only [okR, h, decide_true]
theorem okR_no {r : Nat} (h : ¬ ((97 ≤ r ∧ r ≤ 122) ∨ (65 ≤ r ∧ r ≤ 90) ∨ (48 ≤ r ∧ r ≤ 57) ∨ r = 46 ∨ r = 95 ∨ r = 43 ∨ r = 45)) : okR r = false := by simp only [okR, h, decide_false]
theorem okR_all : ∀ c : Fin 256, okR c.val = okC (UInt8.ofNat c.val) := by decide +kernel
theorem okR_okC (c : UInt8) : okR c.toNat = okC c := by
  have h := okR_all ⟨c.toNat, c.toNat_lt⟩
  simpa using h
theorem okC_high (c : UInt8) (h : 128 ≤ c.toNat) : okC c = false := by
  rw [← okR_okC]
  exact okR_no (by omega)
set_option maxHeartbeats 4000000 in
theorem ofName_any (r : Nat) (hr : r < 1114112) (w : World) :
    Calls Try.prog 80 #[.int .i32 r] w fun e w' => e = .returned (.bool (okR r)) ∧ w = w' := by
  have hc : (97 ≤ r ∧ r ≤ 122) ∨ (65 ≤ r ∧ r ≤ 90) ∨ (48 ≤ r ∧ r ≤ 57) ∨ r = 46 ∨ r = 95 ∨ r = 43 ∨ r = 45 ∨ r < 43 ∨ r = 44 ∨ r = 47 ∨ (58 ≤ r ∧ r ≤ 64) ∨ (91 ≤ r ∧ r ≤ 94) ∨ r = 96 ∨ 122 < r := by omega
  rcases hc with ⟨h1, h2⟩ | ⟨h1, h2⟩ | ⟨h1, h2⟩ | rfl | rfl | rfl | rfl | h1 | rfl | rfl | ⟨h1, h2⟩ | ⟨h1, h2⟩ | rfl | h1
  · have HE := Lib.hid (okR_yes (by omega) : okR r = true)
    have e46 : ((r : Int) == 46) = false := by rw [beq_eq_false_iff_ne]; omega
    have e95 : ((r : Int) == 95) = false := by rw [beq_eq_false_iff_ne]; omega
    have e43 : ((r : Int) == 43) = false := by rw [beq_eq_false_iff_ne]; omega
    have e45 : ((r : Int) == 45) = false := by rw [beq_eq_false_iff_ne]; omega
    rw [HE.out]
    go_enter Try.func80, Try.ntmps80
    go_wp2
    go_ret
    exact ⟨rfl, rfl⟩
  · have HE := Lib.hid (okR_yes (by omega) : okR r = true)
    have e46 : ((r : Int) == 46) = false := by rw [beq_eq_false_iff_ne]; omega
    have e95 : ((r : Int) == 95) = false := by rw [beq_eq_false_iff_ne]; omega
    have e43 : ((r : Int) == 43) = false := by rw [beq_eq_false_iff_ne]; omega
    have e45 : ((r : Int) == 45) = false := by rw [beq_eq_false_iff_ne]; omega
    rw [HE.out]
    go_enter Try.func80, Try.ntmps80
    go_wp2
    go_ret
    exact ⟨rfl, rfl⟩
  · have HE := Lib.hid (okR_yes (by omega) : okR r = true)
    have e46 : ((r : Int) == 46) = false := by rw [beq_eq_false_iff_ne]; omega
    have e95 : ((r : Int) == 95) = false := by rw [beq_eq_false_iff_ne]; omega
    have e43 : ((r : Int) == 43) = false := by rw [beq_eq_false_iff_ne]; omega
    have e45 : ((r : Int) == 45) = false := by rw [beq_eq_false_iff_ne]; omega
    rw [HE.out]
    go_enter Try.func80, Try.ntmps80
    go_wp2
    go_ret
    exact ⟨rfl, rfl⟩
  · have HE := Lib.hid (okR_yes (by omega) : okR 46 = true)
    rw [HE.out]
    go_enter Try.func80, Try.ntmps80
    go_wp2
    go_ret
    exact ⟨rfl, rfl⟩
  · have HE := Lib.hid (okR_yes (by omega) : okR 95 = true)
    rw [HE.out]
    go_enter Try.func80, Try.ntmps80
    go_wp2
    go_ret
    exact ⟨rfl, rfl⟩
  · have HE := Lib.hid (okR_yes (by omega) : okR 43 = true)
    rw [HE.out]
    go_enter Try.func80, Try.ntmps80
    go_wp2
    go_ret
    exact ⟨rfl, rfl⟩
  · have HE := Lib.hid (okR_yes (by omega) : okR 45 = true)
    rw [HE.out]
    go_enter Try.func80, Try.ntmps80
    go_wp2
    go_ret
    exact ⟨rfl, rfl⟩
  · have HE := Lib.hid (okR_no (by omega) : okR r = false)
    have e46 : ((r : Int) == 46) = false := by rw [beq_eq_false_iff_ne]; omega
    have e95 : ((r : Int) == 95) = false := by rw [beq_eq_false_iff_ne]; omega
    have e43 : ((r : Int) == 43) = false := by rw [beq_eq_false_iff_ne]; omega
    have e45 : ((r : Int) == 45) = false := by rw [beq_eq_false_iff_ne]; omega
    rw [HE.out]
    go_enter Try.func80, Try.ntmps80
    go_wp2
    go_ret
    exact ⟨rfl, rfl⟩
  · have HE := Lib.hid (okR_no (by omega) : okR 44 = false)
    rw [HE.out]
    go_enter Try.func80, Try.ntmps80
    go_wp2
    go_ret
    exact ⟨rfl, rfl⟩
  · have HE := Lib.hid (okR_no (by omega) : okR 47 = false)
    rw [HE.out]
    go_enter Try.func80, Try.ntmps80
    go_wp2
    go_ret
    exact ⟨rfl, rfl⟩
  · have HE := Lib.hid (okR_no (by omega) : okR r = false)
    have e46 : ((r : Int) == 46) = false := by rw [beq_eq_false_iff_ne]; omega
    have e95 : ((r : Int) == 95) = false := by rw [beq_eq_false_iff_ne]; omega
    have e43 : ((r : Int) == 43) = false := by rw [beq_eq_false_iff_ne]; omega
    have e45 : ((r : Int) == 45) = false := by rw [beq_eq_false_iff_ne]; omega
    rw [HE.out]
    go_enter Try.func80, Try.ntmps80
    go_wp2
    go_ret
    exact ⟨rfl, rfl⟩
  · have HE := Lib.hid (okR_no (by omega) : okR r = false)
    have e46 : ((r : Int) == 46) = false := by rw [beq_eq_false_iff_ne]; omega
    have e95 : ((r : Int) == 95) = false := by rw [beq_eq_false_iff_ne]; omega
    have e43 : ((r : Int) == 43) = false := by rw [beq_eq_false_iff_ne]; omega
    have e45 : ((r : Int) == 45) = false := by rw [beq_eq_false_iff_ne]; omega
    rw [HE.out]
    go_enter Try.func80, Try.ntmps80
    go_wp2
    go_ret
    exact ⟨rfl, rfl⟩
  · have HE := Lib.hid (okR_no (by omega) : okR 96 = false)
    rw [HE.out]
    go_enter Try.func80, Try.ntmps80
    go_wp2
    go_ret
    exact ⟨rfl, rfl⟩
  · have HE := Lib.hid (okR_no (by omega) : okR r = false)
    have e46 : ((r : Int) == 46) = false := by rw [beq_eq_false_iff_ne]; omega
    have e95 : ((r : Int) == 95) = false := by rw [beq_eq_false_iff_ne]; omega
    have e43 : ((r : Int) == 43) = false := by rw [beq_eq_false_iff_ne]; omega
    have e45 : ((r : Int) == 45) = false := by rw [beq_eq_false_iff_ne]; omega
    rw [HE.out]
    go_enter Try.func80, Try.ntmps80
    go_wp2
    go_ret
    exact ⟨rfl, rfl⟩
theorem nameB_long (L : List UInt8) (h : ¬ L.length ≤ 24) : nameB L = false := by
  have : decide (L.length ≤ 24) = false := by rw [decide_eq_false_iff_not]; exact h
  simp [nameB, this]
theorem nameB_dot (L : List UInt8) (h : L.getD 0 0 = 46) : nameB L = false := by
  have : (L.getD 0 0 == 46) = true := by rw [h]; rfl
  simp only [nameB, this, Bool.not_true, Bool.and_false]
theorem nameB_yes (L : List UInt8) (h0 : 0 < L.length) (h1 : L.length ≤ 24) (h2 : ¬ L.getD 0 0 = 46) (h3 : L.all okC = true) : nameB L = true := by
  have : (L.getD 0 0 == 46) = false := by rw [beq_eq_false_iff_ne]; exact h2
  simp only [nameB, h3, h0, h1, this, decide_true, Bool.not_false, Bool.and_true]
set_option maxRecDepth 100000 in
set_option maxHeartbeats 2000000 in
theorem bName_any (s : ByteArray) (hs : s.size ≤ 140737488351232) (w : World) :
    Calls Try.prog 64 #[.string s] w fun e w' => e = .returned (.bool (nameB s.data.toList)) ∧ Fr (fun _ => False) w w' := by
  have hsl : s.size = s.data.toList.length := by simp
  have HSL := Lib.hid hsl
  obtain ⟨RS, hRS⟩ : ∃ RS, RS = nameB s.data.toList := ⟨_, rfl⟩
  rw [← hRS]
  have HRS := Lib.hid hRS
  clear hRS hsl
  by_cases h0 : s.size = 0
  · obtain rfl : s = ⟨#[]⟩ := by
      apply ByteArray.ext
      exact Array.eq_empty_of_size_eq_zero h0
    have HE := Lib.hid (show RS = false by rw [HRS.out]; rfl)
    clear h0
    go_enter Try.func64, Try.ntmps64
    go_wp2
    go_ret
    exact ⟨by rw [HE.out]; rfl, Fr.refl _ _⟩
  · by_cases h24 : s.size ≤ 24
    · obtain ⟨c, hc⟩ : ∃ c, c = s[0]'(by omega) := ⟨_, rfl⟩
      have hg : ∀ h, s[0]'h = c := fun h => hc.symm
      have hcd : c = s.data.toList.getD 0 0 := by
        rw [hc, List.getD_eq_getElem?_getD, List.getElem?_eq_getElem (by rw [← HSL.out]; omega)]
        rfl
      have e0 : ((s.size : Int) == 0) = false := by rw [beq_eq_false_iff_ne]; omega
      have e24 : decide (24 < (s.size : Int)) = false := by rw [decide_eq_false_iff_not]; omega
      have b0 : (0 : Int) < (s.size : Int) := by omega
      have n0 : 0 < s.size := by omega
      have H0 := Lib.hid h0
      clear h0 hc
      by_cases h46 : c = 46
      · have HE := Lib.hid (show RS = false by rw [HRS.out]; exact nameB_dot _ (by rw [← hcd]; exact h46))
        have e46 : ((c.toNat : Int) == 46) = true := by rw [h46]; rfl
        clear h46 hcd
        go_enter Try.func64, Try.ntmps64
        go_wp2
        go_ret
        exact ⟨by rw [HE.out]; rfl, Fr.refl _ _⟩
      · have HND := Lib.hid (show ¬ s.data.toList.getD 0 0 = 46 by rw [← hcd]; exact h46)
        have e46 : ((c.toNat : Int) == 46) = false := by
          rw [beq_eq_false_iff_ne]
          intro h
          exact h46 (UInt8.toNat_inj.1 (by have : (46 : UInt8).toNat = 46 := rfl; omega))
        clear h46 hcd
        have HON := Lib.hid (fun r (hr : r < 1114112) W => ofName_any r hr W)
        go_enter Try.func64, Try.ntmps64
        go_wp2_with fail
        go_loopg [4] s.size (fun gf s4 wx => ∃ i : Nat, i ≤ s.size ∧ s.size = i + gf ∧ wx.heap[w.heap.size]? = some (.stringIter s i) ∧ Fr (fun _ => False) w wx ∧ Hid ((s.data.toList.take i).all okC = true))
        case atStart => exact ⟨0, by omega, by omega, World.iter_heap w s 0, (Fr.refl _ _).alloc _, Lib.hid rfl⟩
        case round =>
          obtain ⟨i, hi, hgf, hit, hF, hA⟩ := hrel
          have HGF := Lib.hid hgf
          clear hgf
          by_cases hlt : i < s.size
          · obtain ⟨g', hg'⟩ : ∃ g', gk = g' + 1 := ⟨gk - 1, by have := HGF.out; omega⟩
            have HG' := Lib.hid hg'
            have hil : i < s.data.toList.length := by rw [← HSL.out]; exact hlt
            have hst := all_take_succ s.data.toList i hil
            rw [hA.out, Bool.true_and] at hst
            have hbad := nameB_bad s.data.toList i hil
            obtain ⟨d, hd⟩ : ∃ d, d = s.data.toList[i] := ⟨_, rfl⟩
            rw [← hd] at hst hbad
            have hsd : s[i]'hlt = d := by rw [hd]; rfl
            obtain ⟨R, hR⟩ : ∃ R, R = (Utf8.decode s i).1 := ⟨_, rfl⟩
            obtain ⟨p, hp⟩ : ∃ p, p = i + (Utf8.decode s i).2 := ⟨_, rfl⟩
            have hRl : R < 1114112 := by have := Lib.rune_le s i; omega
            have hok : okR R = okC d := by
              by_cases ha : d.toNat < 128
              · rw [hR, decode_ascii s i hlt (by rw [hsd]; exact ha), hsd]
                exact okR_okC d
              · have h := (decode_high s i hlt (by rw [hsd]; omega)).1
                rw [okC_high d (by omega)]
                exact okR_no (by omega)
            have hp1 : okC d = true → p = i + 1 := fun hk => by
              have ha : d.toNat < 128 := by
                by_cases h : d.toNat < 128
                · exact h
                · rw [okC_high d (by omega)] at hk; cases hk
              rw [hp, decode_ascii s i hlt (by rw [hsd]; exact ha)]
            have hnx : ∀ ty, (Instr.next (.pointer (some ⟨w.heap.size, 0, none⟩)) true ty).run Try.prog wr = .ok (.tuple #[.bool true, .int .i64 i, .int .i32 R]) (wr.iterAt w.heap.size s p) := fun ty => by
              rw [hR, hp]
              exact Lib.run_next_any_at (P := Try.prog) wr w.heap.size s i ty hit hlt
            have hit2 := Lib.iterAt_heap wr w.heap.size s i p hit
            have hF2 := hF.iterAt (.inr (Nat.le_refl w.heap.size)) s p
            obtain ⟨W, hWd⟩ : ∃ W, wr.iterAt w.heap.size s p = W := ⟨_, rfl⟩
            rw [hWd] at hnx hit2 hF2
            have HF2 := Lib.hid (And.intro hit2 hF2)
            have HO := HON.out R hRl
            rw [hok] at HO
            have HO := Lib.hid HO
            have HST := Lib.hid hst
            have HBAD := Lib.hid hbad
            have HP1 := Lib.hid hp1
            clear hit hF hit2 hF2 hA hst hbad hd hsd hR hp hok hp1 hWd hg' HON hil
            by_cases hk : okC d = true
            · have HK := Lib.hid hk
              clear hk
              go_wp2_with (go_at_call 80; refine (HO.out _).mono ?_; rintro e w2 ⟨rfl, rfl⟩; rw [HK.out])
              go_roundg g'
              case measure => have := HG'.out; omega
              case rel =>
                have e := HP1.out HK.out
                refine ⟨i + 1, by omega, by have := HG'.out; have := HGF.out; omega, ?_, HF2.out.2, Lib.hid (HST.out.trans HK.out)⟩
                rw [← e]
                exact HF2.out.1
            · have HK := Lib.hid (show okC d = false by simpa using hk)
              have HE := Lib.hid (show RS = false by rw [HRS.out]; exact HBAD.out HK.out)
              clear hk
              go_wp2_with (go_at_call 80; refine (HO.out _).mono ?_; rintro e w2 ⟨rfl, rfl⟩; rw [HK.out])
              go_ret
              exact ⟨by rw [HE.out]; rfl, HF2.out.2⟩
          · have hnx : ∀ ty, (Instr.next (.pointer (some ⟨w.heap.size, 0, none⟩)) true ty).run Try.prog wr = .ok (.tuple #[.bool false]) wr := fun ty => Lib.run_next_end_at (P := Try.prog) wr w.heap.size s i ty hit hlt
            have HE := Lib.hid (show RS = true by
              rw [HRS.out]
              refine nameB_yes _ (by rw [← HSL.out]; omega) (by rw [← HSL.out]; exact h24) HND.out ?_
              have h := hA.out
              rwa [List.take_of_length_le (by rw [← HSL.out]; omega)] at h)
            have HF := Lib.hid hF
            clear hit hF hA
            go_wp2_with fail
            go_ret
            exact ⟨by rw [HE.out]; rfl, HF.out⟩
    · have HE := Lib.hid (show RS = false by rw [HRS.out]; exact nameB_long _ (by rw [← HSL.out]; exact h24))
      have e0 : ((s.size : Int) == 0) = false := by rw [beq_eq_false_iff_ne]; omega
      have e24 : decide (24 < (s.size : Int)) = true := by rw [decide_eq_true_iff]; omega
      clear h0 h24
      go_enter Try.func64, Try.ntmps64
      go_wp2
      go_ret
      exact ⟨by rw [HE.out]; rfl, Fr.refl _ _⟩
end Go.Proofs.Yteockhemeneioaa
namespace Go.Proofs.Yteockhemeneioaa
open Go.RowKit Go.ChangeShapes
set_option linter.unusedVariables false
theorem op_field9 {P : Program} {w : World} {o : Oper} {a : Act} {t : TypeId} {x : Operand} {f : Nat} {vx v : Value} (ho : o.op = .field t x f) (hx : a.eval x = vx) (hr : (Instr.field t vx f).run P w = .ok v w) : (execOp a.eval o).run P w = .ok (.value v) w := by
  unfold execOp
  rw [ho]
  simp only [hx, Sem.run_bind, hr, Result.andThen_ok]
  rfl
theorem qfld2 (b o r n : Int) (w : World) : (Instr.field 38 (.agg #[.int .i64 b, .int .i64 o, .int .i64 r, .int .i64 n]) 2).run Try.prog w = .ok (.int .i64 r) w := by kernel_rfl
theorem qfld3 (b o r n : Int) (w : World) : (Instr.field 38 (.agg #[.int .i64 b, .int .i64 o, .int .i64 r, .int .i64 n]) 3).run Try.prog w = .ok (.int .i64 n) w := by kernel_rfl
theorem ent_copyB (args : Array Value) (w : World) : (callFunc 63 args).run Try.prog w = .ok (.enter 63 args) w := by kernel_rfl
theorem fld_spence_view_View_1_0 (w : World) (g : Nat) : (Instr.fieldAt 83 (.pointer (some ⟨g, 0, none⟩)) 1).run Try.prog w = .ok (.pointer (some ⟨g, 1, none⟩)) w := by kernel_rfl
theorem ent___spence_view_View__quota (args : Array Value) (w : World) : (callFunc 52 args).run Try.prog w = .ok (.enter 52 args) w := by kernel_rfl
theorem fld_spence_view_View_2_0 (w : World) (g : Nat) : (Instr.fieldAt 83 (.pointer (some ⟨g, 0, none⟩)) 2).run Try.prog w = .ok (.pointer (some ⟨g, 2, none⟩)) w := by kernel_rfl
def RtR (vb rb xb : Nat) (who qb qo qr qn : Int) (N : ByteArray) (C : Array Value) (i : Nat) (v : Value) (W : World) : Prop :=
  match i with
  | 0 => v = .pointer (some ⟨vb, 0, none⟩)
  | 1 => v = .pointer (some ⟨vb, 0, none⟩)
  | 2 => v = .pointer (some ⟨vb, 1, none⟩)
  | 3 => v = .pointer (some ⟨rb, 0, none⟩)
  | 4 => v = .int .i64 who
  | 5 => v = .string N
  | 6 => v = .agg #[.int .i64 who, .string N]
  | 7 => v = .agg C
  | 8 => v = .pointer (some ⟨vb, 0, none⟩)
  | 9 => v = .int .i64 who
  | 10 => v = .agg #[.int .i64 qb, .int .i64 qo, .int .i64 qr, .int .i64 qn]
  | 11 => v = .int .i64 qr
  | _ => True
theorem RtR.ext (vb rb xb : Nat) (who qb qo qr qn : Int) (N : ByteArray) (C : Array Value) : ∀ (j : Nat) (u : Value) (W W' : World), Fr (fun _ => False) W W' → RtR vb rb xb who qb qo qr qn N C j u W → RtR vb rb xb who qb qo qr qn N C j u W'
  | 0, u, W, W', hf, h => h
  | 1, u, W, W', hf, h => h
  | 2, u, W, W', hf, h => h
  | 3, u, W, W', hf, h => h
  | 4, u, W, W', hf, h => h
  | 5, u, W, W', hf, h => h
  | 6, u, W, W', hf, h => h
  | 7, u, W, W', hf, h => h
  | 8, u, W, W', hf, h => h
  | 9, u, W, W', hf, h => h
  | 10, u, W, W', hf, h => h
  | 11, u, W, W', hf, h => h
  | _ + 12, u, W, W', hf, h => trivial
def rootE (s : VS) (who : Int) (k : Bs) (p : PathX) : Int := if isUser s who then (if nameB k = true ∧ nameB p.n.data.toList = true then (if vGet (s.R who) k = none ∧ (s.quota who).r ≤ ((s.R who).length : Int) then 8 else 0) else 2) else 18
def rootS (s : VS) (who : Int) (k : Bs) (p : PathX) : VS := if rootE s who k p = 0 then s.setR who (vPut (s.R who) k p) else s
def noteE (s : VS) (who : Int) (k : Bs) (b : Bs) : Int := if isUser s who then (if 1 ≤ k.length ∧ k.length ≤ 62 then (if b.length ≤ 2048 then (if vGet (s.N who) k = none ∧ (s.quota who).n ≤ ((s.N who).length : Int) then 8 else 0) else 3) else 2) else 18
def noteS (s : VS) (who : Int) (k : Bs) (b : Bs) : VS := if noteE s who k b = 0 then s.setN who (vPut (s.N who) k b) else s
theorem nameB_len {L : Bs} (h : nameB L = true) : 1 ≤ L.length ∧ L.length ≤ 24 := by
  unfold nameB at h
  simp only [Bool.and_eq_true, decide_eq_true_eq] at h
  omega
theorem putR_any {F : Nat → Prop} {bk tm mm n : Nat} {B : Int → VT PathX} (w : World) (h : BkAt kR 118 F w bk tm mm n B) (hn : n ≤ 100000) (who : Int) (hw : Wf who) (N : ByteArray) (hN : N.size ≤ 64) (x : PathX) (hx : x.n.size ≤ 64) (most : Int) (E : Int) (hE : E = (if vGet (B who) N.data.toList = none ∧ most ≤ ((B who).length : Int) then 8 else 0)) :
    Calls Try.prog 65 #[.pointer (some ⟨bk, 0, none⟩), .agg #[.int .i64 who, .string N], .agg (pathC x.h x.n), .int .i64 most] w fun e w' => e = .returned (.int .i64 E) ∧ ((E = 8 ∧ Fr (fun _ => False) w w') ∨ (E = 0 ∧ BkAt kR 118 F w' bk tm mm (n + 1) (upd B who (vPut (B who) N.data.toList x)) ∧ Fr (fun k => k = tm ∨ k = mm) w w')) := by
  cases hg : vGet (B who) N.data.toList with
  | none =>
    by_cases hm : most ≤ ((B who).length : Int)
    · rw [if_pos ⟨hg, hm⟩] at hE
      subst hE
      refine (putR_full w h hn who hw N hN x hx most hg hm).mono ?_
      rintro e w' ⟨rfl, hf⟩
      exact ⟨rfl, .inl ⟨rfl, hf⟩⟩
    · rw [if_neg (fun h => hm h.2)] at hE
      subst hE
      refine (putR_new w h hn who hw N hN x hx most hg (by omega)).mono ?_
      rintro e w' ⟨rfl, hb, hf⟩
      exact ⟨rfl, .inr ⟨rfl, hb, hf⟩⟩
  | some y =>
    rw [if_neg (fun h => by rw [hg] at h; cases h.1)] at hE
    subst hE
    refine (putR_old w h hn who hw N hN x hx most (by rw [hg]; rfl)).mono ?_
    rintro e w' ⟨rfl, hb, hf⟩
    exact ⟨rfl, .inr ⟨rfl, hb, hf⟩⟩
theorem putN_any {F : Nat → Prop} {bk tm mm n : Nat} {B : Int → VT Bs} (w : World) (h : BkAt kN 121 F w bk tm mm n B) (hn : n ≤ 100000) (who : Int) (hw : Wf who) (N : ByteArray) (hN : N.size ≤ 64) (yv : Value) (x : Bs) (hx : BytesIn F w yv x) (hxl : x.length ≤ 2048) (most : Int) (E : Int) (hE : E = (if vGet (B who) N.data.toList = none ∧ most ≤ ((B who).length : Int) then 8 else 0)) :
    Calls Try.prog 68 #[.pointer (some ⟨bk, 0, none⟩), .agg #[.int .i64 who, .string N], yv, .int .i64 most] w fun e w' => e = .returned (.int .i64 E) ∧ ((E = 8 ∧ Fr (fun _ => False) w w') ∨ (E = 0 ∧ BkAt kN 121 F w' bk tm mm (n + 1) (upd B who (vPut (B who) N.data.toList x)) ∧ Fr (fun k => k = tm ∨ k = mm) w w')) := by
  cases hg : vGet (B who) N.data.toList with
  | none =>
    by_cases hm : most ≤ ((B who).length : Int)
    · rw [if_pos ⟨hg, hm⟩] at hE
      subst hE
      refine (putN_full w h hn who hw N hN yv x hx hxl most hg hm).mono ?_
      rintro e w' ⟨rfl, hf⟩
      exact ⟨rfl, .inl ⟨rfl, hf⟩⟩
    · rw [if_neg (fun h => hm h.2)] at hE
      subst hE
      refine (putN_new w h hn who hw N hN yv x hx hxl most hg (by omega)).mono ?_
      rintro e w' ⟨rfl, hb, hf⟩
      exact ⟨rfl, .inr ⟨rfl, hb, hf⟩⟩
  | some y =>
    rw [if_neg (fun h => by rw [hg] at h; cases h.1)] at hE
    subst hE
    refine (putN_old w h hn who hw N hN yv x hx hxl most (by rw [hg]; rfl)).mono ?_
    rintro e w' ⟨rfl, hb, hf⟩
    exact ⟨rfl, .inr ⟨rfl, hb, hf⟩⟩
theorem vPut_le {α : Type} {M : VT α} (h : VOk M) (k : Bs) (x : α) {most : Int} (hm : (M.length : Int) ≤ most) (hf : ¬ (vGet M k = none ∧ most ≤ (M.length : Int))) : ((vPut M k x).length : Int) ≤ most := by
  rw [vPut_len h]
  split
  · omega
  · next hs =>
    have : vGet M k = none := by cases hq : vGet M k with
      | none => rfl
      | some y => rw [hq] at hs; exact absurd rfl hs
    have : ¬ most ≤ (M.length : Int) := fun h => hf ⟨this, h⟩
    omega
section
variable {F G S : Nat → Prop} {w w' : World} {A : VA} {n : Nat} {s : VS}
set_option maxRecDepth 100000 in
set_option maxHeartbeats 2000000 in
theorem root_any (h : VwAt F w A n s) (hn : n ≤ 100000) (who : Int) (N : ByteArray) (hN : N.size ≤ 140737488351232) (p : PathX) (hp : p.n.size ≤ 140737488351232) : Calls Try.prog 31 #[.pointer (some ⟨A.vb, 0, none⟩), .int .i64 who, .string N, .agg (pathC p.h p.n)] w fun e w' => e = .returned (.int .i64 (rootE s who N.data.toList p)) ∧ VwAt F w' A (n + 1) (rootS s who N.data.toList p) ∧ Fr (fun k => k = A.tr ∨ k = A.mr) w w' := by
  obtain ⟨C, hC⟩ : ∃ C, C = pathC p.h p.n := ⟨_, rfl⟩
  have hCs : C.size = 21 := by rw [hC]; exact pathC_size p.h p.hl p.n
  have hC20 : C[20]? = some (.string p.n) := by rw [hC]; exact pathC_name p.h p.hl p.n
  obtain ⟨W1, hW1⟩ : ∃ W1, W1 = w.alloc (.cells C 43) := ⟨_, rfl⟩
  have hf1 : Fr (fun _ => False) w W1 := by rw [hW1]; exact (Fr.refl _ _).alloc _
  have hb1 : W1.heap[w.heap.size]? = some (.cells C 43 (0, 0)) := by rw [hW1]; exact heap_alloc_new w _
  have h1 := h.quiet hf1
  have cn : W1.cell? ⟨w.heap.size, 20, none⟩ = some (.string p.n) := by rw [cell_of_row _ _ _ _ _ _ hb1]; exact hC20
  have HW := Lib.hid (And.intro hW1 (And.intro hf1 (And.intro hb1 cn)))
  have HC := Lib.hid (And.intro hC hCs)
  rw [← hC]
  have HN1 := Lib.hid (fun W => bName_any N hN W)
  have HN2 := Lib.hid (fun W => bName_any p.n hp W)
  have HH := Lib.hid h1
  by_cases hu : isUser s who
  · have hr := ready_yes h1 who hu
    have HR := Lib.hid hr
    cases hn1 : nameB N.data.toList with
    | false =>
      have hE : rootE s who N.data.toList p = 2 := by unfold rootE; rw [if_pos hu, if_neg (fun h => by rw [hn1] at h; cases h.1)]
      have hS : rootS s who N.data.toList p = s := by unfold rootS; rw [hE, if_neg (by decide)]
      rw [hn1] at HN1
      rw [hS, hE]
      clear hr h h1 hu hE hS hf1 hb1 hW1 hC hCs hC20 cn hn1
      go_enter Try.func31, Try.ntmps31
      go_wp2_with fail
      rw [← HW.out.1]
      go_wp2_with (first
        | (go_at_call 51; refine HR.out.mono ?_; rintro e w1 ⟨rfl, rfl⟩)
        | (go_at_call 64; with_reducible refine (HN1.out _).mono ?_; rintro e w2 ⟨rfl, hf2⟩; (have H2 := Lib.hid hf2); clear hf2))
      go_ret
      exact ⟨rfl, (HH.out.quiet H2.out).more (Nat.le_succ n), (HW.out.2.1.trans H2.out (fun _ h => h.elim)).mono (fun _ _ h => h.elim)⟩
    | true =>
      rw [hn1] at HN1
      have HNT := Lib.hid hn1
      cases hn2 : nameB p.n.data.toList with
      | false =>
        have hE : rootE s who N.data.toList p = 2 := by unfold rootE; rw [if_pos hu, if_neg (fun h => by rw [hn2] at h; cases h.2)]
        have hS : rootS s who N.data.toList p = s := by unfold rootS; rw [hE, if_neg (by decide)]
        rw [hn2] at HN2
        rw [hS, hE]
        clear hr h h1 hu hE hS hf1 hb1 hW1 hC hCs hC20 cn hn1 hn2
        go_enter Try.func31, Try.ntmps31
        go_wp2_with fail
        rw [← HW.out.1]
        go_wp2_with (first
          | (go_at_call 51; refine HR.out.mono ?_; rintro e w1 ⟨rfl, rfl⟩)
          | (go_at_call 64; with_reducible refine (HN1.out _).mono ?_; rintro e w2 ⟨rfl, hf2⟩; (have cn := hf2.cell HW.out.2.2.2 id); (have H2 := Lib.hid hf2); clear hf2)
          | (go_at_call 64; with_reducible refine (HN2.out _).mono ?_; rintro e w3 ⟨rfl, hf3⟩; (have H3 := Lib.hid (H2.out.trans hf3 (fun _ h => h.elim))); clear hf3))
        go_ret
        exact ⟨rfl, (HH.out.quiet H3.out).more (Nat.le_succ n), (HW.out.2.1.trans H3.out (fun _ h => h.elim)).mono (fun _ _ h => h.elim)⟩
      | true =>
        rw [hn2] at HN2
        have HNP := Lib.hid hn2
        have hw := user_wf h.ok hu
        obtain ⟨q, hqq⟩ : ∃ q, q = s.quota who := ⟨_, rfl⟩
        obtain ⟨E, hEE⟩ : ∃ E, E = rootE s who N.data.toList p := ⟨_, rfl⟩
        have hE2 : E = (if vGet (s.R who) N.data.toList = none ∧ q.r ≤ ((s.R who).length : Int) then 8 else 0) := by rw [hEE, hqq]; unfold rootE; rw [if_pos hu, if_pos ⟨hn1, hn2⟩]
        have hS : rootS s who N.data.toList p = if E = 0 then s.setR who (vPut (s.R who) N.data.toList p) else s := by rw [hEE]; rfl
        have HQ0 := Lib.hid (fun W (hf : Fr (fun _ => False) W1 W) => quota_any (h1.quiet hf) who hu)
        rw [← hqq] at HQ0
        rw [← hEE]
        obtain ⟨qb, qo, qr, qn⟩ := q
        have HU := Lib.hid (And.intro hu (And.intro hw (And.intro hqq (And.intro hE2 (And.intro hS hn)))))
        clear hr h h1 hu hw hE2 hS hf1 hb1 hW1 hC hCs hC20 cn hn1 hn2 hqq hEE hn
        go_enter Try.func31, Try.ntmps31
        go_wp2_with fail
        rw [← HW.out.1]
        go_wp2_with (first
          | (go_at_call 51; refine HR.out.mono ?_; rintro e w1 ⟨rfl, hw1⟩; (obtain rfl : W1 = w1 := hw1.symm))
          | (go_at_call 64; with_reducible refine (HN1.out _).mono ?_; rintro e w2 ⟨rfl, hf2⟩; (have cn := hf2.cell HW.out.2.2.2 id); (have H2 := Lib.hid hf2); clear hf2)
          | (go_at_call 64; with_reducible refine (HN2.out _).mono ?_; rintro e w3 ⟨rfl, hf3⟩; (have H3 := Lib.hid (H2.out.trans hf3 (fun _ h => h.elim))); clear hf3))
        have LDR := Lib.hid (fun W (hf : Fr (fun _ => False) w3 W) => load_one5 W 78 ⟨A.vb, 1, none⟩ _ (by kernel_rfl) (hf.cell (HH.out.quiet H3.out).ptrs.1 id))
        have LDX := Lib.hid (ldX (H3.out.heap HW.out.2.2.1 id) HC.out.2)
        have HQ := Lib.hid (fun W (hf : Fr (fun _ => False) w3 W) => HQ0.out W (H3.out.trans hf (fun _ h => h.elim)))
        refine wp_region_inv 12 (by kernel_rfl) (by kernel_rfl) (fun W => Fr (fun _ => False) w3 W) (RtR A.vb A.rb (w.heap.size) who qb qo qr qn N C) (fun _ _ _ _ => True) (Fr (fun _ => False)) (RtR.ext A.vb A.rb (w.heap.size) who qb qo qr qn N C) (Fr.refl _ _).drew ?_ ?_
        · intro i hi o ho
          replace hi : i < 12 := hi
          obtain rfl | rfl | rfl | rfl | rfl | rfl | rfl | rfl | rfl | rfl | rfl | rfl : i = 0 ∨ i = 1 ∨ i = 2 ∨ i = 3 ∨ i = 4 ∨ i = 5 ∨ i = 6 ∨ i = 7 ∨ i = 8 ∨ i = 9 ∨ i = 10 ∨ i = 11 := by omega
          · simp only [List.getElem?_cons_zero, Option.some.injEq] at ho
            subst ho
            intro a W vs hB hS hE hU
            refine wpG_plain rfl ?_
            have v0 : a.eval (.tmp 0) = .pointer (some ⟨A.vb, 0, none⟩) := (hU 0 (by kernel_rfl)).trans rfl
            clear hE hU
            exact wp_value_inv (w' := W) (.pointer (some ⟨A.vb, 0, none⟩)) (op_move rfl v0) ⟨_, rfl, hB, Fr.refl _ _, rfl, fun _ _ _ _ _ => trivial⟩
          · simp only [List.getElem?_cons_zero, List.getElem?_cons_succ, Option.some.injEq] at ho
            subst ho
            intro a W vs hB hS hE hU
            refine wpG_plain rfl ?_
            obtain ⟨r0, e25⟩ := hE 0 25 (by kernel_rfl) (by kernel_rfl)
            have v25 : a.eval (.tmp 25) = .pointer (some ⟨A.vb, 0, none⟩) := e25.trans r0
            clear hE hU
            exact wp_value_inv (w' := W) (.pointer (some ⟨A.vb, 0, none⟩)) (op_nilCheck rfl v25) ⟨_, rfl, hB, Fr.refl _ _, rfl, fun _ _ _ _ _ => trivial⟩
          · simp only [List.getElem?_cons_zero, List.getElem?_cons_succ, Option.some.injEq] at ho
            subst ho
            intro a W vs hB hS hE hU
            refine wpG_plain rfl ?_
            obtain ⟨r1, e26⟩ := hE 1 26 (by kernel_rfl) (by kernel_rfl)
            have v26 : a.eval (.tmp 26) = .pointer (some ⟨A.vb, 0, none⟩) := e26.trans r1
            clear hE hU
            exact wp_value_inv (w' := W) (.pointer (some ⟨A.vb, 1, none⟩)) (op_fieldAddr rfl v26 (fld_spence_view_View_1_0 W A.vb)) ⟨_, rfl, hB, Fr.refl _ _, rfl, fun _ _ _ _ _ => trivial⟩
          · simp only [List.getElem?_cons_zero, List.getElem?_cons_succ, Option.some.injEq] at ho
            subst ho
            intro a W vs hB hS hE hU
            refine wpG_plain rfl ?_
            obtain ⟨r2, e27⟩ := hE 2 27 (by kernel_rfl) (by kernel_rfl)
            have v27 : a.eval (.tmp 27) = .pointer (some ⟨A.vb, 1, none⟩) := e27.trans r2
            clear hE hU
            exact wp_value_inv (w' := W) (.pointer (some ⟨A.rb, 0, none⟩)) (op_loadAt rfl v27 (LDR.out W hB)) ⟨_, rfl, hB, Fr.refl _ _, rfl, fun _ _ _ _ _ => trivial⟩
          · simp only [List.getElem?_cons_zero, List.getElem?_cons_succ, Option.some.injEq] at ho
            subst ho
            intro a W vs hB hS hE hU
            refine wpG_plain rfl ?_
            have v1 : a.eval (.tmp 1) = .int .i64 who := (hU 1 (by kernel_rfl)).trans rfl
            clear hE hU
            exact wp_value_inv (w' := W) (.int .i64 who) (op_move rfl v1) ⟨_, rfl, hB, Fr.refl _ _, rfl, fun _ _ _ _ _ => trivial⟩
          · simp only [List.getElem?_cons_zero, List.getElem?_cons_succ, Option.some.injEq] at ho
            subst ho
            intro a W vs hB hS hE hU
            refine wpG_plain rfl ?_
            have v2 : a.eval (.tmp 2) = .string N := (hU 2 (by kernel_rfl)).trans rfl
            clear hE hU
            exact wp_value_inv (w' := W) (.string N) (op_move rfl v2) ⟨_, rfl, hB, Fr.refl _ _, rfl, fun _ _ _ _ _ => trivial⟩
          · simp only [List.getElem?_cons_zero, List.getElem?_cons_succ, Option.some.injEq] at ho
            subst ho
            intro a W vs hB hS hE hU
            refine wpG_plain rfl ?_
            obtain ⟨r4, e29⟩ := hE 4 29 (by kernel_rfl) (by kernel_rfl)
            have v29 : a.eval (.tmp 29) = .int .i64 who := e29.trans r4
            obtain ⟨r5, e30⟩ := hE 5 30 (by kernel_rfl) (by kernel_rfl)
            have v30 : a.eval (.tmp 30) = .string N := e30.trans r5
            clear hE hU
            exact wp_value_inv (w' := W) (.agg #[.int .i64 who, .string N]) (op_build rfl (vs := #[(0, .int .i64 who), (1, .string N)]) (by simp only [List.map_toArray, List.map_cons, List.map_nil, v29, v30]) (place_built _ _)) ⟨_, rfl, hB, Fr.refl _ _, rfl, fun _ _ _ _ _ => trivial⟩
          · simp only [List.getElem?_cons_zero, List.getElem?_cons_succ, Option.some.injEq] at ho
            subst ho
            intro a W vs hB hS hE hU
            refine wpG_plain rfl ?_
            have v7 : a.eval (.tmp 7) = .pointer (some ⟨(w.heap.size), 0, none⟩) := (hU 7 (by kernel_rfl)).trans rfl
            clear hE hU
            exact wp_value_inv (w' := W) (.agg C) (op_loadAt rfl v7 (LDX.out W hB)) ⟨_, rfl, hB, Fr.refl _ _, rfl, fun _ _ _ _ _ => trivial⟩
          · simp only [List.getElem?_cons_zero, List.getElem?_cons_succ, Option.some.injEq] at ho
            subst ho
            intro a W vs hB hS hE hU
            refine wpG_plain rfl ?_
            have v0 : a.eval (.tmp 0) = .pointer (some ⟨A.vb, 0, none⟩) := (hU 0 (by kernel_rfl)).trans rfl
            clear hE hU
            exact wp_value_inv (w' := W) (.pointer (some ⟨A.vb, 0, none⟩)) (op_move rfl v0) ⟨_, rfl, hB, Fr.refl _ _, rfl, fun _ _ _ _ _ => trivial⟩
          · simp only [List.getElem?_cons_zero, List.getElem?_cons_succ, Option.some.injEq] at ho
            subst ho
            intro a W vs hB hS hE hU
            refine wpG_plain rfl ?_
            have v1 : a.eval (.tmp 1) = .int .i64 who := (hU 1 (by kernel_rfl)).trans rfl
            clear hE hU
            exact wp_value_inv (w' := W) (.int .i64 who) (op_move rfl v1) ⟨_, rfl, hB, Fr.refl _ _, rfl, fun _ _ _ _ _ => trivial⟩
          · simp only [List.getElem?_cons_zero, List.getElem?_cons_succ, Option.some.injEq] at ho
            subst ho
            intro a W vs hB hS hE hU
            refine wpG_plain rfl ?_
            obtain ⟨r8, e33⟩ := hE 8 33 (by kernel_rfl) (by kernel_rfl)
            have v33 : a.eval (.tmp 33) = .pointer (some ⟨A.vb, 0, none⟩) := e33.trans r8
            obtain ⟨r9, e34⟩ := hE 9 34 (by kernel_rfl) (by kernel_rfl)
            have v34 : a.eval (.tmp 34) = .int .i64 who := e34.trans r9
            clear hE hU
            refine wp_call_inv 52 #[.tmp 33, .tmp 34] #[26, 3] rfl #[.pointer (some ⟨A.vb, 0, none⟩), .int .i64 who] (by simp only [List.map_toArray, List.map_cons, List.map_nil, v33, v34]) (ent___spence_view_View__quota _) (Post := fun v W' => v = .agg #[.int .i64 qb, .int .i64 qo, .int .i64 qr, .int .i64 qn] ∧ Fr (fun _ => False) W W') ((HQ.out W hB).mono fun e w' h => ⟨_, h.1, rfl, h.2⟩) ?_
            rintro v W' ⟨rfl, hf⟩
            exact ⟨_, rfl, hB.trans hf (fun _ h => h.elim), hf, rfl, fun _ _ _ _ _ => trivial⟩
          · simp only [List.getElem?_cons_zero, List.getElem?_cons_succ, Option.some.injEq] at ho
            subst ho
            intro a W vs hB hS hE hU
            refine wpG_plain rfl ?_
            obtain ⟨r10, e35⟩ := hE 10 35 (by kernel_rfl) (by kernel_rfl)
            have v35 : a.eval (.tmp 35) = .agg #[.int .i64 qb, .int .i64 qo, .int .i64 qr, .int .i64 qn] := e35.trans r10
            clear hE hU
            exact wp_value_inv (w' := W) (.int .i64 qr) (op_field9 rfl v35 (qfld2 _ _ _ _ W)) ⟨_, rfl, hB, Fr.refl _ _, rfl, fun _ _ _ _ _ => trivial⟩
        · intro vs Wa hB0 hR0 hD
          have r28 : vs 3 = .pointer (some ⟨A.rb, 0, none⟩) := hR0 3 (by decide)
          have r31 : vs 6 = .agg #[.int .i64 who, .string N] := hR0 6 (by decide)
          have r32 : vs 7 = .agg C := hR0 7 (by decide)
          have r36 : vs 11 = .int .i64 qr := hR0 11 (by decide)
          have HA := Lib.hid hB0
          clear hR0 hD hB0
          simp only [acts, if_true, dstAt, List.getElem?_cons_zero, List.getElem?_cons_succ, Option.bind_some, Act.put, List.setIfInBounds_toArray, List.set_cons_succ, List.set_cons_zero, List.drop_succ_cons]
          simp only [r28, r31, r32, r36]
          clear r28 r31 r32 r36
          have hk := HH.out.quiet (H3.out.trans HA.out (fun _ h => h.elim))
          have hput := putR_any Wa hk.rk HU.out.2.2.2.2.2 who HU.out.2.1 N (by have := (nameB_len HNT.out).2; rw [size_list] at this; omega) p (by have := (nameB_len HNP.out).2; rw [size_list] at this; omega) qr E HU.out.2.2.2.1
          rw [← HC.out.1] at hput
          have HP := Lib.hid hput
          have HK := Lib.hid hk
          clear hput hk
          go_wp2_with (go_at_call 65; refine HP.out.mono ?_; rintro e w5 ⟨rfl, h5⟩; (have H5 := Lib.hid h5); clear h5)
          go_ret
          have hfw : Fr (fun k => k = A.tr ∨ k = A.mr) w Wa := ((HW.out.2.1.trans H3.out (fun _ h => h.elim)).trans HA.out (fun _ h => h.elim)).mono (fun _ _ h => h.elim)
          refine ⟨rfl, ?_⟩
          rw [HU.out.2.2.2.2.1]
          rcases H5.out with ⟨h8, hf5⟩ | ⟨h0, hb5, hf5⟩
          · rw [if_neg (by rw [h8]; decide)]
            exact ⟨(HK.out.quiet hf5).more (Nat.le_succ n), hfw.trans hf5 (fun _ h => h.elim)⟩
          · rw [if_pos h0]
            refine ⟨HK.out.withR hf5 who _ HU.out.1 hb5 ?_, hfw.trans hf5 (fun _ h => .inl h)⟩
            refine vPut_le (HK.out.rk.ok who).1 _ _ (HK.out.capU HU.out.1).1 (fun hfull => ?_)
            have h4 := HU.out.2.2.2.1
            rw [← HU.out.2.2.1] at hfull
            rw [if_pos hfull, h0] at h4
            exact absurd h4 (by decide)
  · have hr := ready_no h1 who hu
    have HR := Lib.hid hr
    have hE : rootE s who N.data.toList p = 18 := by unfold rootE; rw [if_neg hu]
    have hS : rootS s who N.data.toList p = s := by unfold rootS; rw [hE, if_neg (by decide)]
    rw [hS, hE]
    clear hr h h1 hu hE hS hf1 hb1 hW1 hC hCs hC20 cn
    go_enter Try.func31, Try.ntmps31
    go_wp2_with fail
    rw [← HW.out.1]
    go_wp2_with (go_at_call 51; refine HR.out.mono ?_; rintro e w1 ⟨rfl, rfl⟩)
    go_ret
    exact ⟨rfl, HH.out.more (Nat.le_succ n), HW.out.2.1.mono (fun _ _ h => h.elim)⟩
end
end Go.Proofs.Yteockhemeneioaa
