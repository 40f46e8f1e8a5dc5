/- Contract of the document's own: spenceref03.Letters. -/
import Derived.Test.YtdmlalnekjihfaaRLet
namespace Go.Proofs.Ytdmlalnekjihfaa
open Go.RowKit Go.ChangeShapes
set_option linter.unusedVariables false

theorem abc_cut_all : ∀ n : Fin 32, ((⟨#[48, 49, 50, 51, 52, 53, 54, 55, 56, 57, 97, 98, 99, 100, 102, 103, 104, 105, 106, 107, 108, 109, 110, 112, 113, 114, 115, 118, 119, 120, 121, 122]⟩ : ByteArray).extract n.val (n.val + 1)).data.toList = [abc.getD n.val 0] := by decide +kernel
theorem abc_cut (n : Nat) (h : n < 32) : ((⟨#[48, 49, 50, 51, 52, 53, 54, 55, 56, 57, 97, 98, 99, 100, 102, 103, 104, 105, 106, 107, 108, 109, 110, 112, 113, 114, 115, 118, 119, 120, 121, 122]⟩ : ByteArray).extract n (n + 1)).data.toList = [abc.getD n 0] := abc_cut_all ⟨n, h⟩
theorem abc_cut_size_all : ∀ n : Fin 32, ((⟨#[48, 49, 50, 51, 52, 53, 54, 55, 56, 57, 97, 98, 99, 100, 102, 103, 104, 105, 106, 107, 108, 109, 110, 112, 113, 114, 115, 118, 119, 120, 121, 122]⟩ : ByteArray).extract n.val (n.val + 1)).size = 1 := by decide +kernel
theorem abc_cut_size (n : Nat) (h : n < 32) : ((⟨#[48, 49, 50, 51, 52, 53, 54, 55, 56, 57, 97, 98, 99, 100, 102, 103, 104, 105, 106, 107, 108, 109, 110, 112, 113, 114, 115, 118, 119, 120, 121, 122]⟩ : ByteArray).extract n (n + 1)).size = 1 := abc_cut_size_all ⟨n, h⟩
theorem str_app (s t : ByteArray) : (s ++ t).data.toList = s.data.toList ++ t.data.toList := by simp

set_option maxRecDepth 100000 in
set_option maxHeartbeats 2000000 in
theorem rLetters_any (H : List UInt8) (hH : H.length = 20) (w : World) :
    Calls Try.prog 16 #[.agg (H.map bv).toArray] w fun e w' => e = .returned (.string ⟨(letL H).toArray⟩) ∧ Fr (fun _ => False) w w' := by
  obtain ⟨C, hC⟩ : ∃ C, C = (H.map bv).toArray := ⟨_, rfl⟩
  have HC := Lib.hid hC
  have hcs : C.size = 20 := by rw [hC]; simp [hH]
  have HBIT := Lib.hid (fun i (h : i < 160) W => rbit_any H hH i h W)
  rw [← hC] at HBIT
  rw [← hC]
  clear hC
  go_enter Try.func16, Try.ntmps16
  go_wp2_with fail
  go_loopw [3, 4] (fun sv iv wr => ∃ (i : Nat) (s : ByteArray), i ≤ 32 ∧ sv = .string s ∧ iv = .int .i64 i ∧ Hid (s.data.toList = (letL H).take i) ∧ Hid (Fr (fun _ => False) w wr ∧ wr.heap[w.heap.size]? = some (.cells C 23 (0, 0)))) (fun _ iv _ => 32 - (intOf iv).toNat)
  case atStart => exact ⟨0, ⟨#[]⟩, by omega, rfl, rfl, Lib.hid rfl, Lib.hid ⟨(Fr.refl _ _).alloc _, heap_alloc_new w _⟩⟩
  case round =>
    obtain ⟨i, s, hi, rfl, rfl, hS, hR⟩ := hrel
    by_cases hlt : i < 32
    · have hd : decide ((i : Int) < 32) = true := by rw [decide_eq_true_iff]; omega
      go_wp2_with fail
      go_loopw [5, 6] (fun nv kv wr => ∃ (n k : Nat), k ≤ 5 ∧ n < 32 ∧ nv = .int .i64 n ∧ kv = .int .i64 (4 - (k : Int)) ∧ Hid (n = fiveFrom H i k) ∧ Hid (Fr (fun _ => False) w wr ∧ wr.heap[w.heap.size]? = some (.cells C 23 (0, 0)))) (fun _ kv _ => (intOf kv + 1).toNat)
      case atStart => exact ⟨0, 0, by omega, by omega, rfl, rfl, Lib.hid rfl, hR⟩
      case round =>
        obtain ⟨n, k, hk, hn, rfl, rfl, hN, hR2⟩ := hrel
        clear hR
        by_cases hlk : k < 5
        · have hn2 := fiveFrom_lt H i (k + 1)
          have hp : (2 : Nat) ^ (k + 1) ≤ 2 ^ 5 := Nat.pow_le_pow_right (by decide) (by omega)
          have hst : fiveFrom H i (k + 1) = 2 * fiveFrom H i k + bitN H (5 * i + (4 - k)) := rfl
          rw [← hN.out] at hst
          obtain ⟨b, hb⟩ : ∃ b, b = bitN H (5 * i + (4 - k)) := ⟨_, rfl⟩
          have hb2 : b < 2 := by rw [hb]; exact bitN_lt _ _
          rw [← hb] at hst
          have HST := Lib.hid hst
          have hnb : 2 * n + b < 32 := by omega
          obtain ⟨p, hp5⟩ : ∃ p, p = 5 * i + (4 - k) := ⟨_, rfl⟩
          have hpi : 5 * (i : Int) + (4 - (k : Int)) = (p : Int) := by omega
          have HB := HBIT.out p (by omega)
          rw [hp5, ← hb, ← hp5] at HB
          have HB := Lib.hid HB
          have hkk : (0 : Int) ≤ 4 - (k : Int) := by omega
          have hr1 := hR2.out.2
          clear hst hb hn2 hp hp5 hN
          go_wp2_with (first
            | (with_reducible refine wpList_load_row rfl 23 (.tmp 1) rfl w.heap.size rfl 23 C (0, 0) _ hr1 Try.underlying23 rfl (by rw [hcs]; kernel_rfl) ?_)
            | (go_at_call 29; refine (HB.out _).mono ?_; rintro e w2 ⟨rfl, hf2⟩; have HR3 := Lib.hid (And.intro (hR2.out.1.trans hf2 (fun _ h => h.elim)) (hf2.heap hr1 (fun h => h))); clear hf2 HB))
          go_roundw
          case rel => exact ⟨2 * n + b, k + 1, by omega, hnb, by congr 1, by congr 1; push_cast; omega, Lib.hid HST.out.symm, HR3⟩
          case measure => simp [intOf]; omega
        · have hk5 : k = 5 := by omega
          have hf : n = five H i := by rw [hN.out, hk5]; rfl
          have hkd : decide ((0 : Int) ≤ 4 - (k : Int)) = false := by rw [decide_eq_false_iff_not]; omega
          have hkn : ¬ (0 : Int) ≤ 4 - (k : Int) := by omega
          have HN5 := Lib.hid hf
          clear hf hN hk5
          have hss : s.size ≤ 32 := by
            have h := congrArg List.length hS.out
            rw [List.length_take] at h
            simp at h
            omega
          have hes := abc_cut_size n hn
          have HAPP := Lib.hid (show (s ++ (⟨#[48, 49, 50, 51, 52, 53, 54, 55, 56, 57, 97, 98, 99, 100, 102, 103, 104, 105, 106, 107, 108, 109, 110, 112, 113, 114, 115, 118, 119, 120, 121, 122]⟩ : ByteArray).extract n (n + 1)).data.toList = (letL H).take (i + 1) by
            rw [str_app, abc_cut n hn, hS.out, letL_take_succ H i hlt, ← HN5.out])
          go_wp2_with fail
          go_roundw
          case rel => exact ⟨i + 1, _, by omega, rfl, by go_num, HAPP, hR2⟩
          case measure => simp [intOf]; omega
    · have HE := Lib.hid (show s = ⟨(letL H).toArray⟩ by
        have h := hS.out
        rw [List.take_of_length_le (by rw [letL_length]; omega)] at h
        obtain ⟨⟨l⟩⟩ := s
        have h' : l = letL H := h
        rw [h'])
      have hd : decide ((i : Int) < 32) = false := by rw [decide_eq_false_iff_not]; omega
      clear hS
      go_wp2_with fail
      go_ret
      exact ⟨by rw [HE.out]; rfl, hR.out.1⟩
end Go.Proofs.Ytdmlalnekjihfaa
