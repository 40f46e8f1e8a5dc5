/- What HashEnds needs: letters, a string of bytes, rows that are made one by one, one more published digest. -/
import Derived.Test.YthjpgnmpcllolaaDoorHFolds
import Derived.Laws.IdiomStrings
import Derived.Lib.BufferRead
namespace Go.Proofs.YthjpgnmpcllolaaDoor
open Go.RowKit Go.ChangeShapes
set_option linter.unusedVariables false

/-- string(b). -/
theorem run_bytes_str {F : Nat → Prop} (w : World) (v : Value) (L : List UInt8) (h : BytesIn F w v L) : (convert 38 9 v).run Tryd.prog w = .ok (.string ⟨L.toArray⟩) w := by
  obtain ⟨ao, cap, rfl, h1, h2, h3, h4⟩ := h
  cases ao with
  | none =>
    obtain rfl := h3 rfl
    obtain rfl : L = [] := List.eq_nil_of_length_eq_zero (by omega)
    exact Lib.run_convert_nil_bytes w 38 9 5 0 Tryd.underlying38 Tryd.underlying5 Tryd.underlying9
  | some a =>
    refine run_convert_bytes_back w 38 9 5 a cap L Tryd.underlying38 Tryd.underlying5 Tryd.underlying9 (fun j hj => ?_)
    exact (h4 a rfl).1 j _ (by rw [List.getElem?_map, List.getElem?_eq_getElem hj]; rfl)

/-- k letters, noughts behind. -/
def lets (n k : Nat) : List UInt8 := (List.range n).map fun j => if j < k then 97 else 0
theorem lets_length (n k : Nat) : (lets n k).length = n := by simp [lets]
theorem lets_zero (n : Nat) : lets n 0 = List.replicate n 0 := by
  apply List.ext_getElem
  · simp [lets]
  · intro j h1 h2
    simp [lets]
theorem lets_full (n : Nat) : lets n n = List.replicate n 97 := by
  apply List.ext_getElem
  · simp [lets]
  · intro j h1 h2
    rw [lets_length] at h1
    simp [lets, h1]
theorem lets_set (n k : Nat) : (lets n k).set k 97 = lets n (k + 1) := by
  apply List.ext_getElem
  · simp [lets]
  · intro j h1 h2
    rw [List.getElem_set]
    by_cases e : k = j
    · subst e
      simp [lets]
    · rw [if_neg e]
      simp only [lets, List.getElem_map, List.getElem_range]
      by_cases h : j < k
      · rw [if_pos h, if_pos (by omega)]
      · rw [if_neg h, if_neg (by omega)]

set_option maxRecDepth 100000 in
set_option maxHeartbeats 2000000 in
theorem letters_any (n : Nat) (w : World) (hn : n ≤ 1000000) :
    Calls Tryd.prog 18 #[.int .i64 n] w fun e w' => e = .returned (.slice (some ⟨w.heap.size, 0, none⟩) n n) ∧ BytT w' w.heap.size 5 (List.replicate n 97) ∧ Fr (fun _ => False) w w' := by
  have hmk : ∀ w : World, (Instr.makeSlice 38 (.int .i64 n) (.int .i64 n)).run Tryd.prog w = .ok (.slice (some ⟨w.heap.size, 0, none⟩) n n) (w.alloc (.cells (zerosA n) 5)) :=
    fun w => run_make_bytes w n n rfl (by omega)
  go_enter Tryd.func18, Tryd.ntmps18
  go_wp2_with fail
  go_loopw [4] (fun iv wr => ∃ k : Nat, k ≤ n ∧ iv = .int .i64 k ∧ Hid (Fr (fun _ => False) w wr ∧ BytT wr w.heap.size 5 (lets n k))) (fun iv _ => n - (intOf iv).toNat)
  case atStart => exact ⟨0, by omega, rfl, Lib.hid ⟨(Fr.refl _ _).alloc _, by rw [lets_zero]; exact heap_alloc_new w _⟩⟩
  case round =>
    obtain ⟨k, hk, rfl, hR⟩ := hrel
    by_cases hlt : k < n
    · have cj := hR.out.2.cell k (by rw [lets_length]; exact hlt)
      have fj := hR.out.2.free k
      have HS := Lib.hid (show BytT (wr.setCell ⟨w.heap.size, k, none⟩ (.int .u8 97)) w.heap.size 5 (lets n (k + 1)) by
        rw [← lets_set]
        exact hR.out.2.set_ k _ _ rfl)
      have hk0 : (0 : Int) ≤ (k : Int) := by omega
      have hk1 : (k : Int) < (n : Int) := by omega
      go_wp2_with fail
      go_roundw
      case rel => exact ⟨k + 1, by omega, by go_num, Lib.hid ⟨hR.out.1.setCell (.inr (Nat.le_refl _)) _, HS.out⟩⟩
      case measure => simp [intOf]; omega
    · obtain rfl : k = n := by omega
      have HQ := Lib.hid (show Fr (fun _ => False) w wr ∧ BytT wr w.heap.size 5 (List.replicate k 97) by rw [← lets_full]; exact hR.out)
      clear hR
      go_wp2
      go_ret
      exact ⟨rfl, HQ.out.2, HQ.out.1⟩

/-- Rows that are made one by one. -/
def MadeAt (z : Nat) (w : World) (v : Value) (P : List (List UInt8)) : Prop :=
  ∃ vs : List Value, vs.length = P.length ∧ w.ownsRow z 38 1 v P.length vs ∧ ∀ i (h1 : i < vs.length) (h2 : i < P.length), BytesIn (fun k => z ≤ k ∧ v.ownBlock ≠ some k) w vs[i] P[i]
theorem MadeAt.nil (z : Nat) (w : World) : MadeAt z w (.slice none 0 0) [] := ⟨[], rfl, World.ownsRow_nil _ _ _ _, fun i h => by simp at h⟩
theorem MadeAt.snoc {z : Nat} {w w2 w5 : World} {v v5 : Value} {P : List (List UInt8)} {vs : List Value} {y : Value} {L : List UInt8} (hl : vs.length = P.length)
    (hi : ∀ i (h1 : i < vs.length) (h2 : i < P.length), BytesIn (fun k => z ≤ k ∧ v.ownBlock ≠ some k) w vs[i] P[i])
    (hf : Fr (fun _ => False) w w2) (hg : BytesIn (fun k => z ≤ k ∧ v.ownBlock ≠ some k) w2 y L)
    (ho : w5.ownsRow z 38 1 v5 (vs.length + 1) (vs ++ [y])) (hgr : w2.grownBy w5 v.ownBlock) (hb : v5.ownBlock = v.ownBlock ∨ v5.ownBlock = some w2.heap.size) : MadeAt z w5 v5 (P ++ [L]) := by
  have hf5 : Fr (fun k => v.ownBlock = some k) w2 w5 := (Fr.refl _ w2).grown hgr (fun k hk => .inl hk)
  have hne : ∀ k, k < w2.heap.size → z ≤ k ∧ v.ownBlock ≠ some k → z ≤ k ∧ v5.ownBlock ≠ some k := fun k hk h1 => ⟨h1.1, fun h2 => by
    rcases hb with hb | hb
    · exact h1.2 (by rw [← hb, h2])
    · rw [hb] at h2; injection h2 with h2; omega⟩
  have go : ∀ (y : Value) (L : List UInt8), BytesIn (fun k => z ≤ k ∧ v.ownBlock ≠ some k) w2 y L → BytesIn (fun k => z ≤ k ∧ v5.ownBlock ≠ some k) w5 y L := fun y L h =>
    ((h.mono (G := fun k => (z ≤ k ∧ v.ownBlock ≠ some k) ∧ k < w2.heap.size) (fun k hk h => ⟨h, hk⟩)).keep hf5 (fun k hk h1 h2 => h1.1.2 h2)).mono (fun k hk h => hne k h.2 h.1)
  refine ⟨vs ++ [y], by simp [hl], by rw [List.length_append, ← hl]; exact ho, fun i h1 h2 => ?_⟩
  by_cases h : i < vs.length
  · have ep : (P ++ [L])[i] = P[i]'(by omega) := List.getElem_append_left (by omega)
    rw [List.getElem_append_left h, ep]
    exact go _ _ ((hi i h (by omega)).keep hf (fun _ _ _ h => h))
  · have h1' : i = vs.length := by simp at h1; omega
    subst h1'
    have ep : (P ++ [L])[vs.length] = L := by rw [List.getElem_append_right (by omega)]; simp [hl]
    rw [ep]
    simp only [List.getElem_append_right (Nat.le_refl _), Nat.sub_self, List.getElem_cons_zero]
    exact go _ _ hg
theorem MadeAt.keep {z : Nat} {w w' : World} {v : Value} {P : List (List UInt8)} (h : MadeAt z w v P) (hf : Fr (fun _ => False) w w') : MadeAt z w' v P := by
  obtain ⟨vs, hl, ho, hi⟩ := h
  exact ⟨vs, hl, ownsRow_keep ho hf (fun _ _ h => h), fun i h1 h2 => (hi i h1 h2).keep hf (fun _ _ _ h => h)⟩
theorem MadeAt.rows {z : Nat} {w : World} {v : Value} {P : List (List UInt8)} (h : MadeAt z w v P) (hP : ∀ X ∈ P, X.length ≤ 140737488351232) : RowsIn (fun k => k < w.heap.size) w v P := by
  obtain ⟨vs, hl, ho, hi⟩ := h
  obtain ⟨ao, c, rfl, h1, h2, h3⟩ := ownsRow_form ho
  refine ⟨ao, c, rfl, h1, h2, hP, fun hne => ?_⟩
  obtain ⟨g, rfl, hg1, hg2, hc⟩ := h3 (List.length_pos_iff.2 hne)
  exact ⟨g, 0, rfl, hg2, fun i hil => ⟨vs[i]'(by omega), by rw [Nat.zero_add]; exact hc i (by omega), (hi i (by omega) hil).mono (fun k hk h => hk)⟩⟩
theorem digest_56 : ∃ s : St, digest [97, 98, 99, 100, 98, 99, 100, 101, 99, 100, 101, 102, 100, 101, 102, 103, 101, 102, 103, 104, 102, 103, 104, 105, 103, 104, 105, 106, 104, 105, 106, 107, 105, 106, 107, 108, 106, 107, 108, 109, 107, 108, 109, 110, 108, 109, 110, 111, 109, 110, 111, 112, 110, 111, 112, 113] = s.bytes ∧ (s.a, s.b) = (613247585, 3523623096) := digest_of _ 2 (by decide) _ (by kernel_rfl)
theorem head_56 : ∃ r, digest [97, 98, 99, 100, 98, 99, 100, 101, 99, 100, 101, 102, 100, 101, 102, 103, 101, 102, 103, 104, 102, 103, 104, 105, 103, 104, 105, 106, 104, 105, 106, 107, 105, 106, 107, 108, 106, 107, 108, 109, 107, 108, 109, 110, 108, 109, 110, 111, 109, 110, 111, 112, 110, 111, 112, 113] = 36 :: 141 :: 106 :: 97 :: r := head_of digest_56
end Go.Proofs.YthjpgnmpcllolaaDoor
