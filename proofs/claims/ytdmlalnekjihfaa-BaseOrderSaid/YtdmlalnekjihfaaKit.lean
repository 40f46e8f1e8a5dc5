/- Contracts of the kit's plain helpers: Pick, SameBytes. -/
import Derived.Test.YtdmlalnekjihfaaBase
import Derived.WalkLawsBesides
import Derived.WalkSpells
import Derived.Deep.QuietTactic
import Derived.BigQuiet
import Derived.Outline
import Derived.Lib.Hide
namespace Go.Proofs.Ytdmlalnekjihfaa
open Go.RowKit Go.ChangeShapes
set_option linter.unusedVariables false

theorem ret_int {k : IntKind} {a b : Int} (h : a = b) : Ending.returned (.int k a) = .returned (.int k b) := by rw [h]
theorem ret_bool {a b : Bool} (h : a = b) : Ending.returned (.bool a) = .returned (.bool b) := by rw [h]

theorem mod_neg (x n : Int) (h1 : 1 ≤ n) (h : x.tmod n < 0) : x.tmod n + n = x % n := by
  have e : x.tmod n = x % n - (if 0 ≤ x ∨ n ∣ x then 0 else n.natAbs) := Int.tmod_eq_emod (a := x) (b := n)
  have hp := Int.emod_nonneg x (show n ≠ 0 by omega)
  split at e <;> omega
theorem mod_pos (x n : Int) (h1 : 1 ≤ n) (h : ¬ x.tmod n < 0) : x.tmod n = x % n := by
  have e : x.tmod n = x % n - (if 0 ≤ x ∨ n ∣ x then 0 else n.natAbs) := Int.tmod_eq_emod (a := x) (b := n)
  have hp := Int.emod_lt_of_pos x (show 0 < n by omega)
  split at e <;> omega

/-- Are two rows of bytes the same? Not unfolded by a walk. -/
def sameB (A B : List UInt8) : Bool := decide (A = B)
theorem sameB_eq {A B : List UInt8} (h : A = B) : sameB A B = true := by simp [sameB, h]
theorem sameB_ne {A B : List UInt8} (h : A ≠ B) : sameB A B = false := by simp [sameB, h]

theorem addr_plain (b o i : Nat) : (⟨b, o, none⟩ : Addr).add i = ⟨b, o + i, none⟩ := by unfold Addr.add; split <;> simp_all
/-- The cells of bytes, at plain addresses. -/
theorem BytesIn.plain {F : Nat → Prop} {w : World} {v : Value} {L : List UInt8} (h : BytesIn F w v L) (hL : L ≠ []) :
    ∃ b off cap, v = .slice (some ⟨b, off, none⟩) L.length cap ∧ L.length ≤ cap ∧ cap ≤ maxLen ∧ F b ∧ ∀ j (hj : j < L.length), w.cell? ⟨b, off + j, none⟩ = some (bv L[j]) := by
  obtain ⟨ao, cap, rfl, h1, hm, h2, h3⟩ := h
  obtain ⟨x, r, rfl⟩ := List.exists_cons_of_ne_nil hL
  cases ao with
  | none => have := h2 rfl; simp at h1; omega
  | some a =>
    obtain ⟨b, off, spot⟩ := a
    have hc := (h3 _ rfl).1
    have hs : spot = none := by simpa [Addr.add] using World.cell?_spot (hc 0 (bv x) rfl)
    subst hs
    refine ⟨b, off, cap, rfl, h1, hm, (h3 _ rfl).2 hL, fun j hj => ?_⟩
    have := hc j (bv (x :: r)[j]) (by rw [List.getElem?_map, List.getElem?_eq_getElem hj]; rfl)
    rwa [addr_plain] at this

end Go.Proofs.Ytdmlalnekjihfaa
