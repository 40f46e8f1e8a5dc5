/- Contracts of code.Cursor's calls. -/
import Derived.Test.YthmcmomkomhilaaCursor
namespace Go.Proofs.Ythmcmomkomhilaa
open Go.RowKit Go.ChangeShapes
set_option linter.unusedVariables false

theorem heap_setCell_at {w : World} {b i : Nat} {c : Array Value} {t : TypeId} {z : Nat × Nat} (u : Value) (h : w.heap[b]? = some (.cells c t z)) :
    (w.setCell ⟨b, i, none⟩ u).heap[b]? = some (.cells (c.setIfInBounds i u) t z) := by
  simp only [World.setCell, Array.getElem?_modify, h]
  simp

theorem Fr.one (w : World) (b i : Nat) (u : Value) : Fr (· = b) w (w.setCell ⟨b, i, none⟩ u) := (Fr.refl (· = b) w).setCell (p := ⟨b, i, none⟩) (.inl rfl) u
theorem Fr.two (w : World) (b i j : Nat) (u v : Value) : Fr (· = b) w ((w.setCell ⟨b, i, none⟩ u).setCell ⟨b, j, none⟩ v) := (Fr.one w b i u).setCell (p := ⟨b, j, none⟩) (.inl rfl) _

/-- What Num tells, and what it leaves: bytes, an error. -/
def curNum (most : Int) (X : List UInt8) (e : Int) : Int × List UInt8 × Int :=
  if e = 0 then
    if numS X = 0 ∨ most < numV X then (0, [], 4) else (numV X, X.drop (numS X), 0)
  else (0, X, e)

theorem BytesIn.drop {F : Nat → Prop} {w : World} {ao : Option Addr} {cap : Nat} {X : List UInt8} (h : BytesIn F w (.slice ao X.length cap) X) (n : Nat) (hn : n ≤ X.length) (b off : Nat) (ha : ao = some ⟨b, off, none⟩) :
    BytesIn F w (.slice (some ⟨b, off + n, none⟩) (X.length - n) (cap - n)) (X.drop n) := by
  obtain ⟨ao', cap', hv, h1, hm, h2, h3⟩ := h
  simp only [Value.slice.injEq] at hv
  obtain ⟨rfl, _, rfl⟩ := hv
  refine ⟨some ⟨b, off + n, none⟩, cap - n, by rw [List.length_drop], by rw [List.length_drop]; omega, by omega, (fun h => by cases h), ?_⟩
  intro a hab
  cases hab
  refine ⟨fun j u hu => ?_, fun hX => (h3 _ ha).2 (fun h => by subst h; simp at hX)⟩
  have := (h3 _ ha).1 (n + j) u (by rw [← hu, List.getElem?_map, List.getElem?_map, List.getElem?_drop])
  rw [addr_plain] at this ⊢
  rwa [Nat.add_assoc]

end Go.Proofs.Ythmcmomkomhilaa
