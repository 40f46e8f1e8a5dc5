/- The document's own device: a pending write more in memory; 64 bytes with noughts behind. -/
import Derived.Test.YthmcmomkomhilaaRDev4
import Derived.Laws.Tables
namespace Go.Proofs.Ythmcmomkomhilaa
open Go.RowKit Go.ChangeShapes
set_option linter.unusedVariables false

theorem flatW_length : ∀ (W : List Pend) (gs : List Nat), gs.length = W.length → (flatW W gs).length = W.length * 2
  | [], [], _ => rfl
  | p :: W, g :: gs, h => by
    rw [flatW, List.length_append, flatW_length W gs (by simpa using h), List.length_cons]
    simp [pendC]
    omega
  | [], g :: gs, h => by simp at h
  | p :: W, [], h => by simp at h
theorem flatW_snoc (p : Pend) (g : Nat) : ∀ (W : List Pend) (gs : List Nat), gs.length = W.length → flatW (W ++ [p]) (gs ++ [g]) = flatW W gs ++ pendC p g
  | [], [], _ => by simp [flatW]
  | q :: W, x :: gs, h => by
    rw [List.cons_append, List.cons_append, flatW, flatW, flatW_snoc p g W gs (by simpa using h), List.append_assoc]
  | [], g :: gs, h => by simp at h
  | p :: W, [], h => by simp at h
theorem flatW_cell : ∀ (W : List Pend) (gs : List Nat) (v : Value), v ∈ flatW W gs → v.oneCell' = true
  | [], _, v, h => by simp [flatW] at h
  | p :: W, [], v, h => by simp [flatW] at h
  | p :: W, g :: gs, v, h => by
    rw [flatW] at h
    rcases List.mem_append.1 h with h | h
    · simp [pendC] at h
      rcases h with rfl | rfl <;> rfl
    · exact flatW_cell W gs v h
theorem Try.infoW : (Try.prog.info? 73).map (fun i => (i.zero, i.size, i.bytes)) = some (some (.agg #[.int .i64 0, .slice none 0 0]), 2, 32) := by kernel_rfl
/-- append of one pending write, of a slice that was made for it. -/
theorem run_append_pend {F : Nat → Prop} (w : World) (ty : TypeId) (v : Value) (W : List Pend) (p : Pend) (g b : Nat) (hP : PendAt F w v W) (hb : w.heap[b]? = some (.cells (pendC p g).toArray 73 (0, 0))) (hg : BytT w g 5 p.2) (hn : W.length + 1 ≤ 1000000) :
    ∃ v' w', (Builtin.append_ #[59, 59] ty #[v, .slice (some ⟨b, 0, none⟩) 1 1]).run Try.prog w = .ok v' w' ∧ PendAt (fun k => F k ∨ w.heap.size ≤ k ∨ k = g) w' v' (W ++ [p]) ∧ w.grownBy w' v.ownBlock ∧ (v'.ownBlock = v.ownBlock ∨ v'.ownBlock = some w.heap.size) := by
  obtain ⟨gs, h1, h2, h3, h4⟩ := hP
  obtain ⟨i0, hi, hz0, hz1, hz2⟩ := info_parts Try.infoW
  obtain ⟨v', w', hr, k2, k3, k4, k5⟩ := run_append_own_at (P := Try.prog) w 0 59 ty 73 i0 (.agg #[.int .i64 0, .slice none 0 0]) 2 32 Try.underlying59 hi hz0 hz1 hz2 rfl (by decide) v W.length _ h2 ⟨b, 0, none⟩ 1 1 (pendC p g)
    rfl (fun j u hu => by
      rw [addr_plain, Nat.zero_add, cell_of_row _ _ _ _ _ _ hb]
      simpa using hu) (fun u hu => by simp [pendC] at hu; rcases hu with rfl | rfl <;> rfl) (by unfold maxLen; omega) (by omega) (Nat.zero_le _)
  have hother : ∀ x L, BytT w x 5 L → v.ownBlock ≠ some x := by
    intro x L hx e
    rcases h2.2 with ⟨hv, _⟩ | ⟨gv, cap, cur, hv, _, hgv, _⟩
    · rw [hv] at e; simp [Value.ownBlock] at e
    · rw [hv] at e
      simp [Value.ownBlock] at e
      subst e
      rw [BytT, hgv] at hx
      simp at hx
  have hkept : ∀ x L, BytT w x 5 L → BytT w' x 5 L := fun x L hx => (k3.block x (lt_of_block hx) (Ne.symm (hother x L hx))).trans hx
  refine ⟨v', w', hr, ⟨gs ++ [g], by simp [h1], ?_, ?_, fun i hi1 hi2 => ?_⟩, k3, k5⟩
  · rw [List.length_append, List.length_singleton, flatW_snoc p g W gs h1]
    exact k2
  · intro x hx
    rcases k5 with k5 | k5
    · exact .inl (h3 x (by rw [← k5, hx]))
    · rw [hx] at k5
      exact .inr (.inl (by have := Option.some.inj k5; omega))
  · by_cases hlt : i < W.length
    · have e1 : (W ++ [p])[i] = W[i] := List.getElem_append_left hlt
      have e2 : (gs ++ [g])[i] = gs[i]'(by omega) := List.getElem_append_left (by omega)
      rw [e1, e2]
      exact ⟨hkept _ _ (h4 i hlt (by omega)).1, .inl (h4 i hlt (by omega)).2⟩
    · have hiW : i = W.length := by simp at hi1; omega
      subst hiW
      have e1 : (W ++ [p])[W.length] = p := by simp
      have e2 : (gs ++ [g])[W.length]'hi2 = g := by simp [← h1]
      rw [e1, e2]
      exact ⟨hkept _ _ hg, .inr (.inr rfl)⟩
end Go.Proofs.Ythmcmomkomhilaa
