/- What the laws of order use besides: sums of names, an empty slice, '!=' of truths. -/
import Derived.Test.YtdmlalnekjihfaaSortOps
import Derived.Test.YtdmlalnekjihfaaWithin3
import Derived.Test.YtdmlalnekjihfaaBSorted
import Derived.Test.YtdmlalnekjihfaaRSorted
import Derived.Test.YtdmlalnekjihfaaAwake3
namespace Go.Proofs.Ytdmlalnekjihfaa
open Go.RowKit Go.ChangeShapes
set_option linter.unusedVariables false
theorem run_build_none (w : World) : (Instr.buildSlice 37 0 #[]).run Try.prog w = .ok (.slice (some ⟨w.heap.size, 0, none⟩) 0 0) (w.alloc (.cells #[] 25)) := by kernel_rfl
theorem neq_bool (w : World) (A : Bool) : (binOp .neq 4 (.bool A) (.bool A)).run Try.prog w = .ok (.bool false) w := by
  cases A <;> rfl
theorem OwnP.made (w : World) : OwnP (fun g => w.heap.size ≤ g) (w.alloc (.cells #[] 25)) (.slice (some ⟨w.heap.size, 0, none⟩) 0 0) [] := by
  refine ⟨⟨rfl, .inr ⟨w.heap.size, 0, #[], rfl, Nat.zero_le _, heap_alloc_new w _, Nat.le_refl _, by simp [maxLen], rfl, rfl⟩⟩, fun g hg => ?_⟩
  simp [Value.ownBlock] at hg
  omega
/-- The bytes of the first n names. -/
def sumN (L : List PathX) (n : Nat) : Nat := ((L.take n).map (·.n.size)).sum
theorem sumN_succ (L : List PathX) (k : Nat) (h : k < L.length) : sumN L (k + 1) = sumN L k + L[k].n.size := by
  rw [sumN, sumN, List.take_succ_eq_append_getElem h, List.map_append, List.sum_append]
  simp
/-- Both Sorted, one behind the other: one row. -/
theorem name_cell {w : World} {b o : Nat} {x : PathX} (h : w.rangeAt b o (cellsX x)) : w.cell? ⟨b, o + 20, none⟩ = some (.string x.n) := h 20 _ (by simp [cellsX, x.hl])
theorem rem_lt (k n : Nat) (hn : 0 < n) : ((k : Int) * 7 + 3).tmod (n : Int) = (((k * 7 + 3) % n : Nat) : Int) := by
  rw [show (k : Int) * 7 + 3 = ((k * 7 + 3 : Nat) : Int) by omega]
  rfl
theorem made_grown {w wr w5 : World} (hF : Fr (fun _ => False) w wr) (hg : (wr.alloc (.cells #[] 25)).grownBy w5 (Value.ownBlock (.slice (some ⟨wr.heap.size, 0, none⟩) 0 0))) : Fr (fun _ => False) w w5 := by
  have h1 := hF.size
  have hf4 : Fr (fun k => Value.ownBlock (.slice (some ⟨wr.heap.size, 0, none⟩) 0 0) = some k) (wr.alloc (.cells #[] 25)) w5 := (Fr.refl _ _).grown hg (fun k hk => .inl hk)
  refine (hF.alloc _).trans hf4 (fun i hk => .inr ?_)
  simp [Value.ownBlock] at hk
  omega
end Go.Proofs.Ytdmlalnekjihfaa
