/- Contracts: bytes.Clone, code.Over, and the rest of code.Cursor's calls. -/
import Derived.Test.YthmcmomkomhilaaCur
import Derived.Lib.SliceRun
import Derived.Deep.Slices
namespace Go.Proofs.Ythmcmomkomhilaa
open Go.RowKit Go.ChangeShapes
set_option linter.unusedVariables false

theorem own_empty (w : World) (o : Obj) (ho : o = .cells #[] 5) : OwnB (fun k => w.heap.size ≤ k) (w.alloc o) (.slice (some ⟨w.heap.size, 0, none⟩) 0 0) [] := by
  subst ho
  refine ⟨World.ownsRow_made (base := 0) (e := 5) (size := 1) w #[] 0 (Nat.zero_le _) (by simp [maxLen]) (by simp), fun g hg => ?_⟩
  simp [Value.ownBlock] at hg
  omega

/-- Where 'x[n:]' begins: not unfolded by a walk. -/
def cutLow (ao : Option Addr) (n cap : Nat) : Option Addr := if cap = n then ao else ao.map (·.add n)
theorem run_cutLow (w : World) (ao : Option Addr) (l cap n : Nat) (hn : n ≤ l) :
    (Instr.slice 33 (.slice ao l cap) (some (.int .i64 (n : Int))) none none).run Try.prog w = .ok (.slice (cutLow ao n cap) (l - n) (cap - n)) w := by
  have hs : ∀ w, (sizeOf 5).run Try.prog w = .ok 1 w := fun w => by kernel_rfl
  simp [Instr.slice, run_underlying Try.underlying33, Instr.sliceBounds, run_sliceBound, hs, cutLow, hn]
theorem BytesIn.cutLow {F : Nat → Prop} {w : World} {ao : Option Addr} {l cap : Nat} {X : List UInt8} (h : BytesIn F w (.slice ao l cap) X) (n : Nat) (hn : n ≤ X.length) :
    BytesIn F w (.slice (cutLow ao n cap) (l - n) (cap - n)) (X.drop n) := by
  obtain ⟨ao', cap', hv, h1, hm, h2, h3⟩ := h
  simp only [Value.slice.injEq] at hv
  obtain ⟨rfl, rfl, rfl⟩ := hv
  unfold Ythmcmomkomhilaa.cutLow
  refine ⟨_, cap - n, by rw [List.length_drop], by rw [List.length_drop]; omega, by omega, ?_, ?_⟩
  · intro h
    split at h
    · omega
    · have := h2 (by simpa using h); omega
  · intro a ha
    split at ha
    · rename_i hc
      obtain hX : X.drop n = [] := List.drop_eq_nil_of_le (by omega)
      rw [hX]
      exact ⟨fun j u hu => by simp at hu, fun h => absurd rfl h⟩
    · cases ao with
      | none => cases ha
      | some a0 =>
        simp only [Option.map_some, Option.some.injEq] at ha
        subst ha
        refine ⟨fun j u hu => ?_, fun hX => by rw [add_block]; exact (h3 _ rfl).2 (fun h => by subst h; simp at hX)⟩
        have := (h3 _ rfl).1 (n + j) u (by rw [← hu, List.getElem?_map, List.getElem?_map, List.getElem?_drop])
        rwa [Go.Deep.add_add]

/-- What Raw tells, and what it leaves. -/
def curRaw (many : Int) (X : List UInt8) (e : Int) : List UInt8 × List UInt8 × Int :=
  if e = 0 then
    if many < 0 ∨ (X.length : Int) < many then ([], [], 4) else (X.take many.toNat, X.drop many.toNat, 0)
  else ([], X, e)

theorem BytesIn.take {F : Nat → Prop} {w : World} {ao : Option Addr} {l cap : Nat} {X : List UInt8} (h : BytesIn F w (.slice ao l cap) X) (n : Nat) (hn : n ≤ X.length) :
    BytesIn F w (.slice ao n cap) (X.take n) := by
  obtain ⟨ao', cap', hv, h1, hm, h2, h3⟩ := h
  simp only [Value.slice.injEq] at hv
  obtain ⟨rfl, _, rfl⟩ := hv
  have hl : (X.take n).length = n := by rw [List.length_take]; omega
  refine ⟨ao, cap, by rw [hl], by omega, hm, h2, fun a ha => ⟨fun j u hu => (h3 a ha).1 j u ?_, fun hX => (h3 a ha).2 (fun h => by subst h; simp at hX)⟩⟩
  rw [← hu, List.map_take, List.getElem?_take]
  have hj : j < n := by have := (List.getElem?_eq_some_iff.1 hu).1; simp at this; omega
  rw [if_pos hj]

end Go.Proofs.Ythmcmomkomhilaa
