/- dev's own device: pending writes in memory; ranging over them: the last one first. -/
import Derived.Test.YthmcmomkomhilaaDNew
import Derived.Test.YthmcmomkomhilaaWide
import Derived.Deep.MidRow
import Derived.StillTailTactics
namespace Go.Proofs.Ythmcmomkomhilaa
open Go.RowKit Go.ChangeShapes
set_option linter.unusedVariables false

/-- A pending write's cells: the sector's number, its 64 bytes. -/
def wrC (p : Pend) : List Value := .int .i64 p.1 :: p.2.map bv
theorem wrC_length (p : Pend) (h : p.2.length = 64) : (wrC p).length = 65 := by simp [wrC, h]
theorem wrC_one (p : Pend) : ∀ v ∈ wrC p, v.oneCell' = true := by
  intro v hv
  rcases List.mem_cons.1 hv with rfl | h
  · rfl
  · exact bv_one _ v h
def flatD : List Pend → List Value
  | [] => []
  | p :: W => wrC p ++ flatD W
theorem flatD_length : ∀ (W : List Pend), (∀ p ∈ W, p.2.length = 64) → (flatD W).length = W.length * 65
  | [], _ => rfl
  | p :: W, h => by
    rw [flatD, List.length_append, wrC_length p (h p (by simp)), flatD_length W (fun q hq => h q (by simp [hq])), List.length_cons]
    omega
theorem flatD_snoc (p : Pend) : ∀ (W : List Pend), flatD (W ++ [p]) = flatD W ++ wrC p
  | [] => by simp [flatD]
  | q :: W => by rw [List.cons_append, flatD, flatD, flatD_snoc p W, List.append_assoc]
theorem flatD_one : ∀ (W : List Pend) (v : Value), v ∈ flatD W → v.oneCell' = true
  | [], v, h => by cases h
  | p :: W, v, h => by
    rcases List.mem_append.1 h with h | h
    · exact wrC_one p v h
    · exact flatD_one W v h
theorem flatD_get : ∀ (W : List Pend) (i j : Nat) (h : i < W.length) (hj : j < 65), (∀ p ∈ W, p.2.length = 64) → (flatD W)[i * 65 + j]? = (wrC W[i])[j]?
  | [], i, j, h, _, _ => by simp at h
  | p :: W, 0, j, _, hj, hl => by
    rw [flatD, Nat.zero_mul, Nat.zero_add, List.getElem?_append_left (by rw [wrC_length p (hl p (by simp))]; exact hj)]
    rfl
  | p :: W, i + 1, j, h, hj, hl => by
    have e := wrC_length p (hl p (by simp))
    rw [flatD, List.getElem?_append_right (by rw [e]; omega), e, show (i + 1) * 65 + j - 65 = i * 65 + j by omega]
    exact flatD_get W i j (by simpa using h) hj (fun q hq => hl q (by simp [hq]))
/-- A slice of pending writes that the device owns, in a block of F. -/
def WrAt (F : Nat → Prop) (w : World) (v : Value) (W : List Pend) : Prop :=
  w.ownsRow 0 79 65 v W.length (flatD W) ∧ ∀ g, v.ownBlock = some g → F g
theorem WrAt.nil (F : Nat → Prop) (w : World) : WrAt F w (.slice none 0 0) [] := ⟨World.ownsRow_nil _ _ _ _, fun g h => by simp [Value.ownBlock] at h⟩
theorem WrAt.keep {F S : Nat → Prop} {w w' : World} {v : Value} {W : List Pend} (h : WrAt F w v W) (hf : Fr S w w') (hd : ∀ k, k < w.heap.size → F k → ¬ S k) : WrAt F w' v W := by
  refine ⟨⟨h.1.1, ?_⟩, h.2⟩
  rcases h.1.2 with e | ⟨g, cap, cur, hv, hb, hg, r⟩
  · exact .inl e
  · exact .inr ⟨g, cap, cur, hv, hb, hf.heap hg (hd g (lt_of_block hg) (h.2 g (by rw [hv]; rfl))), r⟩
theorem WrAt.mono {F G : Nat → Prop} {w : World} {v : Value} {W : List Pend} (h : WrAt F w v W) (hd : ∀ k, k < w.heap.size → F k → G k) : WrAt G w v W := by
  refine ⟨h.1, fun g hg => hd g ?_ (h.2 g hg)⟩
  rcases h.1.2 with ⟨e, _⟩ | ⟨g', cap, cur, hv, hb, hg', r⟩
  · rw [e] at hg; simp [Value.ownBlock] at hg
  · rw [hv] at hg
    simp [Value.ownBlock] at hg
    subst hg
    exact lt_of_block hg'
theorem WrAt.form {F : Nat → Prop} {w : World} {v : Value} {W : List Pend} (h : WrAt F w v W) : ∃ ao cap, v = .slice ao W.length cap ∧ W.length ≤ cap ∧ cap ≤ maxLen := by
  rcases h.1.2 with ⟨hv, h0⟩ | ⟨g, cap, cur, hv, _, hg, c1, c2, _⟩
  · rw [h0]; exact ⟨none, 0, hv, Nat.le_refl _, by simp [maxLen]⟩
  · exact ⟨_, cap, hv, c1, c2⟩
/-- One of them. -/
theorem WrAt.elem {F : Nat → Prop} {w : World} {ao : Option Addr} {n cap : Nat} {W : List Pend} (h : WrAt F w (.slice ao n cap) W) (hl : ∀ p ∈ W, p.2.length = 64) (i : Nat) (hi : i < W.length) :
    ∃ b, ao = some ⟨b, 0, none⟩ ∧ F b ∧ w.rangeAt b (i * 65) (wrC W[i]) := by
  rcases h.1.2 with ⟨hv, h0⟩ | ⟨g, cap', cur, hv, _, hg, c1, c2, c3, c4⟩
  · omega
  · injection hv with e1 e2 e3
    subst e1
    refine ⟨g, rfl, h.2 g rfl, fun j u hu => ?_⟩
    have hj : j < 65 := by
      have := (List.getElem?_eq_some_iff.1 hu).1
      rwa [wrC_length _ (hl _ (List.getElem_mem _))] at this
    rw [cell_of_row _ _ _ _ _ _ hg]
    have hx := flatD_get W i j hi hj hl
    rw [hu, ← c4, List.getElem?_take] at hx
    split at hx
    · rwa [Array.getElem?_toList] at hx
    · cases hx

/-- A pending write of a device of s sectors. -/
abbrev PendX (s : Nat) := { p : Pend // p.1 < s ∧ p.2.length = 64 }
def valsX {s : Nat} (xs : List (PendX s)) : List Pend := xs.map (·.1)
theorem valsX_len {s : Nat} (xs : List (PendX s)) : ∀ p ∈ valsX xs, p.2.length = 64 := by
  intro p hp
  obtain ⟨x, _, rfl⟩ := List.mem_map.1 hp
  exact x.2.2
theorem exists_valsX {s : Nat} : ∀ (W : List Pend), Pends s W → ∃ xs : List (PendX s), valsX xs = W
  | [], _ => ⟨[], rfl⟩
  | p :: W, h => by
    obtain ⟨xs, hx⟩ := exists_valsX W (fun q hq => h q (by simp [hq]))
    exact ⟨⟨p, h p (by simp)⟩ :: xs, by show p :: valsX xs = p :: W; rw [hx]⟩
def encsX {s : Nat} (x : PendX s) : Array Value := #[.int .i64 x.1.1, .agg (x.1.2.map bv).toArray]

/-- What ranging reads: the box of the device's address, the device's pending writes. -/
structure ItR (w : World) (F : Nat → Prop) (Bp g : Nat) (vw : Value) (W : List Pend) : Prop where
  box : w.cell? ⟨Bp, 0, none⟩ = some (.pointer (some ⟨g, 0, none⟩))
  head : w.cell? ⟨g, 3, none⟩ = some vw
  wr : WrAt F w vw W
theorem ItR.keep {F S : Nat → Prop} {w w' : World} {Bp g : Nat} {vw : Value} {W : List Pend} (h : ItR w F Bp g vw W) (hf : Fr S w w') (h1 : ¬ S Bp) (h2 : ¬ S g) (h3 : ∀ k, k < w.heap.size → F k → ¬ S k) : ItR w' F Bp g vw W :=
  ⟨hf.cell h.box h1, hf.cell h.head h2, h.wr.keep hf h3⟩
theorem grownBy_drew (w : World) : w.grownBy w.drew none := ⟨rfl, rfl, rfl, Nat.le_refl _, fun _ _ _ => rfl⟩
end Go.Proofs.Ythmcmomkomhilaa
