/- Lists of bytes that lie apart: the bag, what is put into it, whether all lie apart. -/
import Derived.Test.YthjpgnmpcllolaaFlat
import Derived.Test.YthjpgnmpcllolaaFlat0
namespace Go.Proofs.Ythjpgnmpcllolaa
open Go.RowKit Go.ChangeShapes
set_option linter.unusedVariables false

/-- The cells of a bag that has lists of bytes alone. -/
def bagC (v : Value) : Array Value := #[.slice none 0 0, .slice none 0 0, .slice none 0 0, .slice none 0 0, .slice none 0 0, v, .slice none 0 0, .slice none 0 0, .slice none 0 0, .slice none 0 0, .slice none 0 0, .slice none 0 0, .slice none 0 0, .slice none 0 0, .slice none 0 0, .slice none 0 0, .slice none 0 0, .slice none 0 0, .slice none 0 0, .slice none 0 0, .slice none 0 0]
theorem bag_set (v v' : Value) : (bagC v).setIfInBounds 5 v' = bagC v' := rfl

theorem bag_cell0 {w : World} {b : Nat} {v : Value} {T : TypeId} (h : w.heap[b]? = some (.cells (bagC v) T (0, 0))) : w.cell? ⟨b, 0, none⟩ = some (.slice none 0 0) := by simp [World.cell?, h, bagC]
theorem bag_cell1 {w : World} {b : Nat} {v : Value} {T : TypeId} (h : w.heap[b]? = some (.cells (bagC v) T (0, 0))) : w.cell? ⟨b, 1, none⟩ = some (.slice none 0 0) := by simp [World.cell?, h, bagC]
theorem bag_cell2 {w : World} {b : Nat} {v : Value} {T : TypeId} (h : w.heap[b]? = some (.cells (bagC v) T (0, 0))) : w.cell? ⟨b, 2, none⟩ = some (.slice none 0 0) := by simp [World.cell?, h, bagC]
theorem bag_cell3 {w : World} {b : Nat} {v : Value} {T : TypeId} (h : w.heap[b]? = some (.cells (bagC v) T (0, 0))) : w.cell? ⟨b, 3, none⟩ = some (.slice none 0 0) := by simp [World.cell?, h, bagC]
theorem bag_cell4 {w : World} {b : Nat} {v : Value} {T : TypeId} (h : w.heap[b]? = some (.cells (bagC v) T (0, 0))) : w.cell? ⟨b, 4, none⟩ = some (.slice none 0 0) := by simp [World.cell?, h, bagC]
theorem bag_cell5 {w : World} {b : Nat} {v : Value} {T : TypeId} (h : w.heap[b]? = some (.cells (bagC v) T (0, 0))) : w.cell? ⟨b, 5, none⟩ = some (v) := by simp [World.cell?, h, bagC]
theorem bag_cell6 {w : World} {b : Nat} {v : Value} {T : TypeId} (h : w.heap[b]? = some (.cells (bagC v) T (0, 0))) : w.cell? ⟨b, 6, none⟩ = some (.slice none 0 0) := by simp [World.cell?, h, bagC]
theorem bag_cell7 {w : World} {b : Nat} {v : Value} {T : TypeId} (h : w.heap[b]? = some (.cells (bagC v) T (0, 0))) : w.cell? ⟨b, 7, none⟩ = some (.slice none 0 0) := by simp [World.cell?, h, bagC]
theorem bag_cell8 {w : World} {b : Nat} {v : Value} {T : TypeId} (h : w.heap[b]? = some (.cells (bagC v) T (0, 0))) : w.cell? ⟨b, 8, none⟩ = some (.slice none 0 0) := by simp [World.cell?, h, bagC]
theorem bag_cell9 {w : World} {b : Nat} {v : Value} {T : TypeId} (h : w.heap[b]? = some (.cells (bagC v) T (0, 0))) : w.cell? ⟨b, 9, none⟩ = some (.slice none 0 0) := by simp [World.cell?, h, bagC]
theorem bag_cell10 {w : World} {b : Nat} {v : Value} {T : TypeId} (h : w.heap[b]? = some (.cells (bagC v) T (0, 0))) : w.cell? ⟨b, 10, none⟩ = some (.slice none 0 0) := by simp [World.cell?, h, bagC]
theorem bag_cell11 {w : World} {b : Nat} {v : Value} {T : TypeId} (h : w.heap[b]? = some (.cells (bagC v) T (0, 0))) : w.cell? ⟨b, 11, none⟩ = some (.slice none 0 0) := by simp [World.cell?, h, bagC]
theorem bag_cell12 {w : World} {b : Nat} {v : Value} {T : TypeId} (h : w.heap[b]? = some (.cells (bagC v) T (0, 0))) : w.cell? ⟨b, 12, none⟩ = some (.slice none 0 0) := by simp [World.cell?, h, bagC]
theorem bag_cell13 {w : World} {b : Nat} {v : Value} {T : TypeId} (h : w.heap[b]? = some (.cells (bagC v) T (0, 0))) : w.cell? ⟨b, 13, none⟩ = some (.slice none 0 0) := by simp [World.cell?, h, bagC]
theorem bag_cell14 {w : World} {b : Nat} {v : Value} {T : TypeId} (h : w.heap[b]? = some (.cells (bagC v) T (0, 0))) : w.cell? ⟨b, 14, none⟩ = some (.slice none 0 0) := by simp [World.cell?, h, bagC]
theorem bag_cell15 {w : World} {b : Nat} {v : Value} {T : TypeId} (h : w.heap[b]? = some (.cells (bagC v) T (0, 0))) : w.cell? ⟨b, 15, none⟩ = some (.slice none 0 0) := by simp [World.cell?, h, bagC]
theorem bag_cell16 {w : World} {b : Nat} {v : Value} {T : TypeId} (h : w.heap[b]? = some (.cells (bagC v) T (0, 0))) : w.cell? ⟨b, 16, none⟩ = some (.slice none 0 0) := by simp [World.cell?, h, bagC]
theorem bag_cell17 {w : World} {b : Nat} {v : Value} {T : TypeId} (h : w.heap[b]? = some (.cells (bagC v) T (0, 0))) : w.cell? ⟨b, 17, none⟩ = some (.slice none 0 0) := by simp [World.cell?, h, bagC]
theorem bag_cell18 {w : World} {b : Nat} {v : Value} {T : TypeId} (h : w.heap[b]? = some (.cells (bagC v) T (0, 0))) : w.cell? ⟨b, 18, none⟩ = some (.slice none 0 0) := by simp [World.cell?, h, bagC]
theorem bag_cell19 {w : World} {b : Nat} {v : Value} {T : TypeId} (h : w.heap[b]? = some (.cells (bagC v) T (0, 0))) : w.cell? ⟨b, 19, none⟩ = some (.slice none 0 0) := by simp [World.cell?, h, bagC]
theorem bag_cell20 {w : World} {b : Nat} {v : Value} {T : TypeId} (h : w.heap[b]? = some (.cells (bagC v) T (0, 0))) : w.cell? ⟨b, 20, none⟩ = some (.slice none 0 0) := by simp [World.cell?, h, bagC]
theorem bag_frozen {w : World} {b : Nat} {v : Value} {T : TypeId} (h : w.heap[b]? = some (.cells (bagC v) T (0, 0))) (i : Nat) : w.frozen? ⟨b, i, none⟩ = false := by simp [World.frozen?, h]

/-- A row of slices of bytes, which the call owns. -/
def RowV (w : World) (v : Value) (n : Nat) (X : Nat → Value) : Prop := w.ownsRow 0 32 1 v n ((List.range n).map X)
theorem RowV.form {w : World} {v : Value} {n : Nat} {X : Nat → Value} (h : RowV w v n X) : ∃ ao c, v = .slice ao n c := by
  rcases h.2 with ⟨rfl, h0⟩ | ⟨g, cap, cur, hv, _⟩
  · exact ⟨none, 0, by rw [h0]⟩
  · exact ⟨_, _, hv⟩
theorem RowV.full {w : World} {v : Value} {n : Nat} {X : Nat → Value} (h : RowV w v n X) (hn : 0 < n) : ∃ g c, v = .slice (some ⟨g, 0, none⟩) n c ∧ n ≤ c ∧ c ≤ maxLen ∧ ∀ j, j < n → w.cell? ⟨g, j, none⟩ = some (X j) := by
  rcases h.2 with ⟨rfl, h0⟩ | ⟨g, cap, cur, hv, hb, hg, hnc, hcm, hcs, ht⟩
  · omega
  · refine ⟨g, cap, hv, hnc, hcm, fun j hj => ?_⟩
    subst hv
    have h' : w.ownsRow 0 32 1 (.slice (some ⟨g, 0, none⟩) n cap) n ((List.range n).map X) := h
    rw [World.ownsRow.cellAt h' j (by omega)]
    simp [hj]
theorem RowV.keep {S : Nat → Prop} {w w' : World} {v : Value} {n : Nat} {X : Nat → Value} (h : RowV w v n X) (hf : Fr S w w') (hd : ∀ g, v.ownBlock = some g → ¬ S g) : RowV w' v n X := by
  refine ⟨h.1, ?_⟩
  rcases h.2 with h1 | ⟨g, cap, cur, hv, hb, hg, r⟩
  · exact .inl h1
  · exact .inr ⟨g, cap, cur, hv, hb, hf.heap hg (hd g (by rw [hv]; rfl)), r⟩

/-- append of one slice onto the row. -/
theorem run_append_row (w : World) (ty : TypeId) (v y : Value) (k h : Nat) (X : Nat → Value) (hown : RowV w v k X) (hcell : w.cell? ⟨h, 0, none⟩ = some y) (hy : y.oneCell' = true) (hk : k ≤ 100000) (e : X k = y) :
    ∃ v' w', (Builtin.append_ #[49, 49] ty #[v, .slice (some ⟨h, 0, none⟩) 1 1]).run Try.prog w = .ok v' w' ∧ RowV w' v' (k + 1) X ∧ w.grownBy w' v.ownBlock ∧ (v'.ownBlock = v.ownBlock ∨ v'.ownBlock = some w.heap.size) := by
  obtain ⟨i0, hi, hz0, hz1, hz2⟩ := info_parts Try.infoS
  obtain ⟨v', w', hr, h2, h3, h4, h5⟩ := run_append_own_at (P := Try.prog) w 0 49 ty 32 i0 (.slice none 0 0) 1 24 Try.underlying49 hi hz0 hz1 hz2 rfl (by decide) v k _ hown ⟨h, 0, none⟩ 1 1 [y]
    rfl (by
      intro j u hu
      match j, hu with
      | 0, hu =>
        simp at hu
        subst hu
        simpa [Addr.add] using hcell) (by simpa using hy) (by unfold maxLen; omega) (by omega) (Nat.zero_le _)
  refine ⟨v', w', hr, ?_, h3, h5⟩
  unfold RowV
  rw [List.range_succ, List.map_append, List.map_singleton, e]
  exact h2

theorem wpList_append_row (w : World) {ops : Array Oper} {rest : List Oper} {o : Oper} {a : Act} {Q : Exit → Act → World → Prop} (hgd : o.guard = none) (s x : Operand)
    (hop : o.op = Op.call { callee := Callee.builtin Builtin.append, args := #[s, x], argTypes := #[49, 49] })
    (v y : Value) (k h : Nat) (X : Nat → Value) (hs : a.eval s = v) (hx : a.eval x = .slice (some ⟨h, 0, none⟩) 1 1) (hown : RowV w v k X) (hcell : w.cell? ⟨h, 0, none⟩ = some y) (hy : y.oneCell' = true) (hk : k ≤ 100000) (e : X k = y)
    (hK : ∀ v' w', RowV w' v' (k + 1) X → w.grownBy w' v.ownBlock → (v'.ownBlock = v.ownBlock ∨ v'.ownBlock = some w.heap.size) → wpList Try.prog ops Q rest (a.put o.dst v') w') : wpList Try.prog ops Q (o :: rest) a w := by
  refine wpList_plain hgd fun K hK' => ?_
  subst hs
  obtain ⟨v', w', hr, h1, h2, h3⟩ := run_append_row w o.type _ _ k h X hown hcell hy hk e
  unfold Oper.wp
  simp [execOp, hop, resolve, invoke, builtin, hx, hr, Result.andThen]
  exact hK' _ _ (hK v' w' h1 h2 h3)

theorem putBytes_any (b k m : Nat) (ao ax : Option Addr) (co cx : Nat) (T : TypeId) (X : Nat → Value) (w : World) (hk : k ≤ 1000) (hb : w.heap[b]? = some (.cells (bagC (.slice ao k co)) T (0, 0))) (hr : RowV w (.slice ao k co) k X)
    (hne : (Value.slice ao k co).ownBlock ≠ some b) (e : X k = .slice ax m cx) :
    Calls Try.prog 39 #[.pointer (some ⟨b, 0, none⟩), .slice ax m cx] w fun e w' => e = .returned (.tuple #[]) ∧
      ∃ v', w'.heap[b]? = some (.cells (bagC v') T (0, 0)) ∧ RowV w' v' (k + 1) X ∧ v'.ownBlock ≠ some b ∧ (∀ g, v'.ownBlock = some g → (Value.slice ao k co).ownBlock = some g ∨ w.heap.size ≤ g) ∧ Fr (fun i => i = b ∨ (Value.slice ao k co).ownBlock = some i) w w' := by
  have hlt := lt_of_block hb
  have hc5 := bag_cell5 hb
  have hcn := cell_of_one (heap_alloc_new w (.cells #[.slice ax m cx] 32))
  have HB := Lib.hid hb
  have HCN := Lib.hid hcn
  have HR := Lib.hid (hr.keep (S := fun _ => False) ((Fr.refl _ w).alloc (.cells #[.slice ax m cx] 32)) (fun _ _ h => h))
  have HNE := Lib.hid hne
  have HE := Lib.hid e
  clear hb hr hne e hcn
  go_enter Try.func39, Try.ntmps39
  go_wp2_with (first
    | (at_builtin; refine wpList_append_row _ rfl (.tmp 8) (.tmp 10) rfl (.slice ao k co) (.slice ax m cx) k w.heap.size X rfl rfl HR.out HCN.out rfl (by omega) HE.out ?_; intro v5 w5 ho5 hg5 hb5; have hbb := ((((Fr.refl (fun i => (Value.slice ao k co).ownBlock = some i) w).alloc (.cells #[.slice ax m cx] 32)).grown hg5 (fun i hi => .inl hi)).heap HB.out HNE.out); have HBB := Lib.hid hbb; have hf5 := bag_frozen hbb 5; have hc6 := bag_cell5 hbb; have HO5 := Lib.hid ho5; have HG5 := Lib.hid hg5; have HB5 := Lib.hid hb5; obtain ⟨a6, c6, hv6⟩ := ho5.form; subst hv6; clear hbb ho5 hg5 hb5)
    | fail)
  have hsz : (w.alloc (.cells #[.slice ax m cx] 32)).heap.size = w.heap.size + 1 := by simp
  have hnb : (Value.slice a6 (k + 1) c6).ownBlock ≠ some b := by
    rcases HB5.out with h | h
    · rw [h]; exact HNE.out
    · rw [h, hsz]
      intro h2
      have := Option.some.inj h2
      omega
  refine bodyPost_end (results_none rfl _ _ _) rfl ?_
  refine ⟨rfl, _, ?_, ?_, hnb, ?_, ?_⟩
  · have := heap_setCell_at (i := 5) (.slice a6 (k + 1) c6) HBB.out
    rw [bag_set] at this
    exact this
  · exact HO5.out.keep (Fr.one w5 b 5 _) (fun g hg e => hnb (by rw [hg, e]))
  · intro g hg
    rcases HB5.out with h | h
    · exact .inl (by rw [← h, hg])
    · rw [hg, hsz] at h
      exact .inr (by have := Option.some.inj h; omega)
  · exact ((((Fr.refl (fun i => i = b ∨ (Value.slice ao k co).ownBlock = some i) w).alloc _).grown HG5.out (fun i hi => .inl (.inr hi))).setCell (p := ⟨b, 5, none⟩) (.inl (.inl rfl)) _)
end Go.Proofs.Ythjpgnmpcllolaa
