/- Contract: spencelaw04.great. -/
import Derived.Test.YthmcmomkomhilaaDeeds
namespace Go.Proofs.Ythmcmomkomhilaa
open Go.RowKit Go.ChangeShapes
set_option linter.unusedVariables false

/-- How many bytes the first 150 deeds bear. -/
def bulk4 (l : List DeedD) : Nat := ((l.take 150).map (·.B.length)).sum
/-- More than is gone through. -/
def greatB (s : Int) (l : List DeedD) : Bool := decide (150 < l.length) || (decide (10000 < bulk4 l) || (decide (60 < s) && decide (s ≤ 8192)))
theorem le_sum_mem : ∀ (L : List Nat) (x : Nat), x ∈ L → x ≤ L.sum
  | [], x, h => by cases h
  | y :: L, x, h => by
    rw [List.sum_cons]
    rcases List.mem_cons.1 h with rfl | h
    · omega
    · have := le_sum_mem L x h
      omega
theorem greatB_not {s : Int} {l : List DeedD} (h : greatB s l = false) : (l.length ≤ 150 ∧ ∀ p ∈ l, p.B.length ≤ 10000) ∧ ¬ (60 < s ∧ s ≤ 8192) := by
  simp only [greatB, Bool.or_eq_false_iff, Bool.and_eq_false_iff, decide_eq_false_iff_not] at h
  obtain ⟨h1, h2, h3⟩ := h
  have h1 : l.length ≤ 150 := by omega
  refine ⟨⟨h1, fun p hp => ?_⟩, by omega⟩
  rw [bulk4, List.take_of_length_le h1] at h2
  have hm : p.B.length ∈ l.map (·.B.length) := List.mem_map_of_mem hp
  have := le_sum_mem _ _ hm
  omega

set_option maxHeartbeats 1000000 in
theorem great_any {F : Nat → Prop} {v : Value} {l : List DeedD} (w : World) (s : Int) (h : DeedsIn F w v l) :
    Calls Try.prog 7 #[.int .i64 s, v] w fun e w' => e = .returned (.bool (greatB s l)) ∧ w = w' := by
  obtain ⟨ao, cap, rfl, h1, h2, h3, h4⟩ := h
  obtain ⟨n, hn⟩ : ∃ n, n = l.length := ⟨_, rfl⟩
  have hb : ∃ b off, (0 < n → ao = some ⟨b, off, none⟩) ∧ ∀ i (h : i < l.length), DeedAt F w b (off + i * 4) l[i] := by
    by_cases hl : l = []
    · subst hl
      exact ⟨0, 0, fun h => by simp at hn; omega, fun i h => by simp at h⟩
    · obtain ⟨b, off, ha, hi⟩ := h4 hl
      exact ⟨b, off, fun _ => ha, hi⟩
  obtain ⟨b, off, hao, hi⟩ := hb
  rw [← hn] at h1 h2 ⊢
  obtain ⟨T, hT⟩ : ∃ T, T = bulk4 l := ⟨_, rfl⟩
  have HG := Lib.hid (show greatB s l = (decide (150 < n) || (decide (10000 < T) || (decide (60 < s) && decide (s ≤ 8192)))) by
    rw [hn, hT, greatB])
  rw [HG.out]
  have HI := Lib.hid hi
  have HN := Lib.hid (And.intro hn hT)
  have H3 := Lib.hid h3
  have HAO := Lib.hid hao
  clear hi hn h4 h3 hT hao
  have hns : n ≤ 2932031007317 := by omega
  go_enter Try.func7, Try.ntmps7
  go_wp2
  go_loopw [5, 6] (fun s i wr => ∃ k t : Nat, k ≤ n ∧ k ≤ 150 ∧ i = .int .i64 k ∧ s = .int .i64 t ∧ Hid (t = ((l.take k).map (·.B.length)).sum) ∧ t ≤ k * 140737488351232 ∧ wr = w) (fun _ i _ => n - (intOf i).toNat)
  case atStart => exact ⟨0, 0, by omega, by omega, rfl, rfl, Lib.hid (by simp), by omega, rfl⟩
  case round =>
    obtain ⟨k, t, hk, hk150, rfl, rfl, ht, htb, rfl⟩ := hrel
    by_cases hlt : k < n
    · by_cases hl150 : k < 150
      · have hil : k < l.length := by have := HN.out.1; omega
        have hp := HI.out k hil
        have hbl := H3.out l[k] (List.getElem_mem _)
        have hsum := sum_take_succ l k hil
        obtain ⟨ao', cap', hx, hl', hm', _⟩ := hp.bytes
        have hc := hp.cb
        rw [hx] at hc
        have HS := Lib.hid (show t + l[k].B.length = ((l.take (k + 1)).map (·.B.length)).sum by rw [hsum, ht.out])
        obtain ⟨q, hq⟩ : ∃ q, q = l[k].B.length := ⟨_, rfl⟩
        rw [← hq] at hc hbl HS hl'
        have hao2 := HAO.out (by omega)
        subst hao2
        have d1 : decide ((k : Int) < (n : Int)) = true := by rw [decide_eq_true_iff]; omega
        have d2 : decide ((k : Int) < 150) = true := by rw [decide_eq_true_iff]; omega
        have d3 : (k : Int) < (n : Int) := by omega
        have d4 : (0 : Int) ≤ (k : Int) := by omega
        have d5 : (k : Int) < 150 := by omega
        clear hp hsum hx hq
        go_wp2_with fail
        go_roundw
        case rel => exact ⟨k + 1, t + q, by omega, by omega, by go_num, by go_num, HS, by omega, by trivial⟩
        case measure => simp [intOf]; omega
      · have d1 : decide ((k : Int) < (n : Int)) = true := by rw [decide_eq_true_iff]; omega
        have d2 : decide ((k : Int) < 150) = false := by rw [decide_eq_false_iff_not]; omega
        have d2N : decide (k < 150) = false := by rw [decide_eq_false_iff_not]; omega
        have d3 : (k : Int) < (n : Int) := by omega
        have d4 : decide (150 < (n : Int)) = true := by rw [decide_eq_true_iff]; omega
        have d4N : decide (150 < n) = true := by rw [decide_eq_true_iff]; omega
        clear ht
        go_wp2_with fail
        go_ret
        exact ⟨by rw [d4N]; rfl, rfl⟩
    · have d1 : decide ((k : Int) < (n : Int)) = false := by rw [decide_eq_false_iff_not]; omega
      have d1N : decide (k < n) = false := by rw [decide_eq_false_iff_not]; omega
      have htT : t = T := by
        rw [ht.out, HN.out.2]
        unfold bulk4
        have := HN.out.1
        rw [List.take_of_length_le (by omega), List.take_of_length_le (by omega)]
      subst htT
      have d4 : decide (150 < (n : Int)) = false := by rw [decide_eq_false_iff_not]; omega
      have d4N : decide (150 < n) = false := by rw [decide_eq_false_iff_not]; omega
      clear ht HG HN
      by_cases g2 : 10000 < t
      · have e1 : decide (10000 < (t : Int)) = true := by rw [decide_eq_true_iff]; omega
        have e1N : decide (10000 < t) = true := by rw [decide_eq_true_iff]; omega
        go_wp2_with fail
        go_ret
        exact ⟨by first | rfl | (rw [d4N, e1N]; rfl) | simp [d4N, e1N], rfl⟩
      · have e1 : decide (10000 < (t : Int)) = false := by rw [decide_eq_false_iff_not]; omega
        have e1N : decide (10000 < t) = false := by rw [decide_eq_false_iff_not]; omega
        by_cases g3 : 60 < s
        · have e2 : decide (60 < s) = true := by rw [decide_eq_true_iff]; exact g3
          go_wp2_with fail
          go_ret
          exact ⟨by first | rfl | (rw [d4N, e1N, e2]; rfl) | simp [d4N, e1N, e2], rfl⟩
        · have e2 : decide (60 < s) = false := by rw [decide_eq_false_iff_not]; exact g3
          go_wp2_with fail
          go_ret
          exact ⟨by first | rfl | (rw [d4N, e1N, e2]; rfl) | simp [d4N, e1N, e2], rfl⟩
end Go.Proofs.Ythmcmomkomhilaa
