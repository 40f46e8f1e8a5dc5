/- Contract of the document's own: spenceref03.Less. -/
import Derived.Test.YtdmlalnekjihfaaRPath
namespace Go.Proofs.Ytdmlalnekjihfaa
open Go.RowKit Go.ChangeShapes
set_option linter.unusedVariables false

theorem less_irrefl (L : List UInt8) : Op.bytesLess L L = false := by
  induction L with
  | nil => rfl
  | cons x L ih => simp [Op.bytesLess, ih]
/-- Paths in order. -/
def lessP (H1 : List UInt8) (N1 : ByteArray) (H2 : List UInt8) (N2 : ByteArray) : Bool :=
  Op.bytesLess H1 H2 || (H1 == H2 && Op.bytesLess N1.toList N2.toList)
theorem less_at : ∀ (A Bb : List UInt8) (i : Nat) (h1 : i < A.length) (h2 : i < Bb.length), A.take i = Bb.take i → A[i] ≠ Bb[i] → Op.bytesLess A Bb = decide (A[i] < Bb[i]) := by
  intro A
  induction A with
  | nil => intro Bb i h1; simp at h1
  | cons x A ih =>
    intro Bb i h1 h2 ht hne
    cases Bb with
    | nil => simp at h2
    | cons y Bb =>
      cases i with
      | zero =>
        simp only [List.getElem_cons_zero] at hne ⊢
        simp [Op.bytesLess, hne]
      | succ i =>
        simp only [List.take_succ_cons, List.cons.injEq] at ht
        obtain ⟨rfl, ht⟩ := ht
        simp only [List.getElem_cons_succ] at hne ⊢
        rw [← ih Bb i (by simpa using h1) (by simpa using h2) ht hne]
        simp [Op.bytesLess]
theorem lessP_at (A : List UInt8) (N1 : ByteArray) (Bb : List UInt8) (N2 : ByteArray) (i : Nat) (h1 : i < A.length) (h2 : i < Bb.length) (ht : A.take i = Bb.take i) (hne : A[i] ≠ Bb[i]) : lessP A N1 Bb N2 = decide (A[i] < Bb[i]) := by
  have hAB : (A == Bb) = false := by
    rw [beq_eq_false_iff_ne]
    rintro rfl
    exact hne rfl
  rw [lessP, hAB, less_at A Bb i h1 h2 ht hne]
  simp
theorem lessP_end (A : List UInt8) (N1 N2 : ByteArray) : lessP A N1 A N2 = Op.bytesLess N1.toList N2.toList := by
  simp [lessP, less_irrefl]

set_option maxRecDepth 100000 in
set_option maxHeartbeats 2000000 in
theorem rLess_any (H1 : List UInt8) (N1 : ByteArray) (H2 : List UInt8) (N2 : ByteArray) (hH1 : H1.length = 20) (hH2 : H2.length = 20) (w : World) :
    Calls Try.prog 22 #[.agg (pathC H1 N1), .agg (pathC H2 N2)] w fun e w' => e = .returned (.bool (lessP H1 N1 H2 N2)) ∧ Fr (fun _ => False) w w' := by
  obtain ⟨C1, hC1⟩ : ∃ C, C = pathC H1 N1 := ⟨_, rfl⟩
  obtain ⟨C2, hC2⟩ : ∃ C, C = pathC H2 N2 := ⟨_, rfl⟩
  obtain ⟨W, hW⟩ : ∃ W, W = (w.alloc (.cells C1 25)).alloc (.cells C2 25) := ⟨_, rfl⟩
  have HB1 := Lib.hid (show PathT W w.heap.size H1 N1 by rw [hW, hC1]; exact heap_alloc2_old w _ _)
  have HB2 := Lib.hid (show PathT W (w.heap.size + 1) H2 N2 by rw [hW, hC2]; exact heap_alloc2_new w _ _)
  have HF := Lib.hid (show Fr (fun _ => False) w W by rw [hW]; exact ((Fr.refl _ w).alloc _).alloc _)
  obtain ⟨RS, hRS⟩ : ∃ RS, RS = lessP H1 N1 H2 N2 := ⟨_, rfl⟩
  rw [← hRS, ← hC1, ← hC2]
  have HRS := Lib.hid hRS
  have hn1 := HB1.out.name hH1
  have hn2 := HB2.out.name hH2
  have HH := Lib.hid (And.intro hH1 hH2)
  clear hRS hC1 hC2 hH1 hH2
  go_enter Try.func22, Try.ntmps22
  go_wp2_with fail
  rw [← hW]
  clear hW
  go_loopw [5] (fun iv wr => ∃ i : Nat, i ≤ 20 ∧ iv = .int .i64 i ∧ Hid (H1.take i = H2.take i) ∧ ∃ m, wr = W.drewN m) (fun iv _ => 20 - (intOf iv).toNat)
  case atStart => exact ⟨0, by omega, rfl, Lib.hid rfl, 0, rfl⟩
  case round =>
    obtain ⟨i, hi, rfl, hT, m, rfl⟩ := hrel
    by_cases hlt : i < 20
    · have h1 : i < H1.length := by rw [HH.out.1]; exact hlt
      have h2 : i < H2.length := by rw [HH.out.2]; exact hlt
      have c1 := HB1.out.byte i h1
      have c2 := HB2.out.byte i h2
      have hat := lessP_at H1 N1 H2 N2 i h1 h2 hT.out
      have ha1 : H1.take (i + 1) = H1.take i ++ [H1[i]] := List.take_succ_eq_append_getElem h1
      have ha2 : H2.take (i + 1) = H2.take i ++ [H2[i]] := List.take_succ_eq_append_getElem h2
      rw [List.getD_eq_getElem?_getD, List.getElem?_eq_getElem h1, Option.getD_some] at c1
      rw [List.getD_eq_getElem?_getD, List.getElem?_eq_getElem h2, Option.getD_some] at c2
      obtain ⟨x, hx⟩ : ∃ x, x = H1[i] := ⟨_, rfl⟩
      obtain ⟨y, hy⟩ : ∃ y, y = H2[i] := ⟨_, rfl⟩
      rw [← hx] at c1 hat ha1
      rw [← hy] at c2 hat ha2
      have HAT := Lib.hid hat
      have HTK := Lib.hid (show x = y → H1.take (i + 1) = H2.take (i + 1) by rintro rfl; rw [ha1, ha2, hT.out])
      have bi : (i : Int) < 20 := by omega
      have bi0 : (0 : Int) ≤ (i : Int) := by omega
      clear hx hy hat ha1 ha2 hT h1 h2
      by_cases hxy : x = y
      · have hn := Lib.hid (HTK.out hxy)
        have hne : ((x.toNat : Int) != (y.toNat : Int)) = false := by rw [hxy]; simp
        clear hxy
        go_wp2_with fail
        go_quiet (fail)
        go_wp2
        go_roundw
        case rel => exact ⟨i + 1, by omega, by go_num, hn, _, rfl⟩
        case measure => simp [intOf]; omega
      · have HV := Lib.hid (HRS.out.trans (HAT.out hxy))
        have hne : ((x.toNat : Int) != (y.toNat : Int)) = true := by
          rw [bne_iff_ne]
          intro h
          exact hxy (UInt8.toNat_inj.1 (by omega))
        clear hxy
        go_wp2_with fail
        go_quiet (fail)
        go_wp2
        go_quiet (fail)
        go_wp2
        go_ret
        exact ⟨ret_bool (Eq.trans (by rw [decide_eq_decide]; exact UInt8.lt_iff_toNat_lt.symm) HV.out.symm), ((HF.out.drewN m).drewN _).drewN _⟩
    · have hE : H1 = H2 := by
        have h := hT.out
        rwa [List.take_of_length_le (by rw [HH.out.1]; omega), List.take_of_length_le (by rw [HH.out.2]; omega)] at h
      have HV := Lib.hid (HRS.out.trans (show lessP H1 N1 H2 N2 = Op.bytesLess N1.toList N2.toList by rw [hE]; exact lessP_end H2 N1 N2))
      clear hE hT
      go_wp2_with fail
      go_ret
      exact ⟨ret_bool HV.out.symm, HF.out.drewN m⟩
end Go.Proofs.Ytdmlalnekjihfaa
