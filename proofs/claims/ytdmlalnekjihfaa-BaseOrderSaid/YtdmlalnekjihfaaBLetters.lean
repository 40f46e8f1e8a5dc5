/- Contract of base.Letters. -/
import Derived.Test.YtdmlalnekjihfaaBPlace
import Derived.Test.YtdmlalnekjihfaaStr
namespace Go.Proofs.Ytdmlalnekjihfaa
open Go.RowKit Go.ChangeShapes
set_option linter.unusedVariables false

/-- The first i of L, noughts behind. -/
def partL (L : List UInt8) (i : Nat) : List UInt8 := L.take i ++ List.replicate (L.length - i) 0
theorem partL_zero (L : List UInt8) : partL L 0 = List.replicate L.length 0 := by simp [partL]
theorem partL_all (L : List UInt8) (i : Nat) (h : L.length ≤ i) : partL L i = L := by
  rw [partL, List.take_of_length_le h, show L.length - i = 0 by omega]
  simp
theorem partL_length (L : List UInt8) (i : Nat) (h : i ≤ L.length) : (partL L i).length = L.length := by
  simp [partL]
  omega
theorem partL_set (L : List UInt8) (i : Nat) (h : i < L.length) (y : UInt8) (hy : y = L.getD i 0) : (partL L i).set i y = partL L (i + 1) := by
  have e : L.length - i = (L.length - (i + 1)) + 1 := by omega
  rw [partL, partL, e, List.replicate_succ, List.set_append_right _ _ (by rw [List.length_take]; omega), List.take_succ_eq_append_getElem h]
  have e2 : i - (L.take i).length = 0 := by rw [List.length_take]; omega
  rw [e2, List.set_cons_zero, hy, List.getD_eq_getElem?_getD, List.getElem?_eq_getElem h, List.append_assoc]
  rfl

theorem BytT.bytes {w : World} {g : Nat} {T : TypeId} {L : List UInt8} (h : BytT w g T L) (hl : L.length ≤ maxLen) : BytesIn (fun k => k = g) w (.slice (some ⟨g, 0, none⟩) L.length L.length) L := by
  refine ⟨_, L.length, rfl, Nat.le_refl _, hl, (fun h => by cases h), ?_⟩
  intro a ha
  cases ha
  refine ⟨fun j u hu => ?_, fun _ => rfl⟩
  rw [addr_plain, Nat.zero_add, cell_of_row _ _ _ _ _ _ h]
  simpa using hu

set_option maxRecDepth 100000 in
set_option maxHeartbeats 2000000 in
theorem bLetters_any (H : List UInt8) (hH : H.length = 20) (w : World) :
    Calls Try.prog 15 #[.agg (H.map bv).toArray] w fun e w' => e = .returned (.string ⟨(letL H).toArray⟩) ∧ Fr (fun _ => False) w w' := by
  obtain ⟨C, hC⟩ : ∃ C, C = (H.map bv).toArray := ⟨_, rfl⟩
  have HC := Lib.hid hC
  have hcs : C.size = 20 := by rw [hC]; simp [hH]
  have HVA := Lib.hid (fun i (h : i < 32) W => valueAt_any H hH i h W)
  rw [← hC] at HVA
  rw [← hC]
  have H0 := Lib.hid (show Fr (fun _ => False) w ((w.alloc (.cells C 23)).alloc (.cells ((List.replicate 32 (0 : UInt8)).map bv).toArray 52)) ∧ ((w.alloc (.cells C 23)).alloc (.cells ((List.replicate 32 (0 : UInt8)).map bv).toArray 52)).heap[w.heap.size]? = some (.cells C 23 (0, 0)) ∧ BytT ((w.alloc (.cells C 23)).alloc (.cells ((List.replicate 32 (0 : UInt8)).map bv).toArray 52)) (w.heap.size + 1) 52 (partL (letL H) 0) from
    ⟨((Fr.refl _ _).alloc _).alloc _, heap_alloc2_old w _ _, by rw [partL_zero, letL_length]; exact heap_alloc2_new w _ _⟩)
  obtain ⟨W, hW⟩ : ∃ W, W = (w.alloc (.cells C 23)).alloc (.cells ((List.replicate 32 (0 : UInt8)).map bv).toArray 52) := ⟨_, rfl⟩
  rw [← hW] at H0
  have HW := Lib.hid (show (w.alloc (.cells C 23)).alloc (.cells #[.int .u8 0, .int .u8 0, .int .u8 0, .int .u8 0, .int .u8 0, .int .u8 0, .int .u8 0, .int .u8 0, .int .u8 0, .int .u8 0, .int .u8 0, .int .u8 0, .int .u8 0, .int .u8 0, .int .u8 0, .int .u8 0, .int .u8 0, .int .u8 0, .int .u8 0, .int .u8 0, .int .u8 0, .int .u8 0, .int .u8 0, .int .u8 0, .int .u8 0, .int .u8 0, .int .u8 0, .int .u8 0, .int .u8 0, .int .u8 0, .int .u8 0, .int .u8 0] 52) = W by rw [hW]; rfl)
  clear hC hW
  go_enter Try.func15, Try.ntmps15
  go_wp2_with fail
  rw [HW.out]
  clear HW
  go_loopw [5] (fun iv wr => ∃ i : Nat, i ≤ 32 ∧ iv = .int .i64 i ∧ Hid (Fr (fun _ => False) w wr ∧ wr.heap[w.heap.size]? = some (.cells C 23 (0, 0)) ∧ BytT wr (w.heap.size + 1) 52 (partL (letL H) i))) (fun iv _ => 32 - (intOf iv).toNat)
  case atStart => exact ⟨0, by omega, rfl, H0⟩
  case round =>
    clear H0
    obtain ⟨i, hi, rfl, hR⟩ := hrel
    by_cases hlt : i < 32
    · have hr1 := hR.out.2.1
      have HV := HVA.out i hlt
      obtain ⟨n, hn⟩ : ∃ n, n = five H i := ⟨_, rfl⟩
      have hn32 : n < 32 := by rw [hn]; exact five_lt H i
      rw [← hn] at HV
      have HV := Lib.hid HV
      obtain ⟨y, hy⟩ : ∃ y, y = abc.getD n 0 := ⟨_, rfl⟩
      have hg := fun h => abc_get n h
      rw [← hy] at hg
      have HY := Lib.hid (show y = (letL H).getD i 0 by rw [letL_get H i hlt, ← hn, hy])
      have bn0 : (0 : Int) ≤ (n : Int) := by omega
      have bn : (n : Int) < 32 := by omega
      have bi0 : (0 : Int) ≤ (i : Int) := by omega
      have bi : (i : Int) < 32 := by omega
      clear hn hy
      go_wp2_with (first
        | (with_reducible refine wpList_load_row rfl 23 (.tmp 1) rfl w.heap.size rfl 23 C (0, 0) _ hr1 Try.underlying23 rfl (by rw [hcs]; kernel_rfl) ?_)
        | (go_at_call 28; refine (HV.out _).mono ?_; rintro e w2 ⟨rfl, hf2⟩; have HR2 := Lib.hid (And.intro (hR.out.1.trans hf2 (fun _ h => h.elim)) (And.intro (hf2.heap hr1 (fun h => h)) (hR.out.2.2.keep hf2 (fun h => h)))); have c2 := HR2.out.2.2.cell i (by rw [partL_length _ _ (by rw [letL_length]; omega), letL_length]; exact hlt); have f2 := HR2.out.2.2.free i; clear hf2 HV))
      go_roundw
      case rel =>
        have hf : ∀ v, Fr (fun i => i = w.heap.size + 1) w2 (w2.setCell ⟨w.heap.size + 1, i, none⟩ v) := fun v => (Fr.refl (fun i => i = w.heap.size + 1) w2).setCell (p := ⟨w.heap.size + 1, i, none⟩) (.inl rfl) v
        refine ⟨i + 1, by omega, by go_num, Lib.hid ⟨HR2.out.1.setCell (.inr (by simp)) _, (hf _).heap HR2.out.2.1 (by omega), ?_⟩⟩
        rw [← partL_set (letL H) i (by rw [letL_length]; exact hlt) y HY.out]
        exact HR2.out.2.2.set_ i _ _ rfl
      case measure => simp [intOf]; omega
    · have hd : ¬ (i : Int) < 32 := by omega
      have HB := Lib.hid (show BytesIn (fun k => k = w.heap.size + 1) wr (.slice (some ⟨w.heap.size + 1, 0, none⟩) 32 32) (letL H) by
        have h := hR.out.2.2
        rw [partL_all _ _ (by rw [letL_length]; omega)] at h
        have h2 := h.bytes (by rw [letL_length]; unfold maxLen; omega)
        rwa [letL_length] at h2)
      have hcv := fun W (h : BytesIn (fun k => k = w.heap.size + 1) W (.slice (some ⟨w.heap.size + 1, 0, none⟩) 32 32) (letL H)) => run_bytes_str W _ _ h
      have hcv := hcv wr HB.out
      go_wp2_with fail
      go_ret
      exact ⟨rfl, hR.out.1⟩
end Go.Proofs.Ytdmlalnekjihfaa
