/- Slices of paths that the call owns: append, and a new one of one. -/
import Derived.Test.YtdmlalnekjihfaaPathX
import Derived.Laws.Tables
namespace Go.Proofs.Ytdmlalnekjihfaa
open Go.RowKit Go.ChangeShapes
set_option linter.unusedVariables false

def flatX (O : List PathX) : List Value := O.flatMap cellsX
theorem flatX_length (O : List PathX) : (flatX O).length = O.length * 21 := by
  induction O with
  | nil => rfl
  | cons x O ih =>
    rw [flatX, List.flatMap_cons, List.length_append, cellsX_length]
    rw [flatX] at ih
    rw [ih, List.length_cons]
    omega
theorem flatX_append (A Bb : List PathX) : flatX (A ++ Bb) = flatX A ++ flatX Bb := by simp [flatX]
theorem flatX_one (x : PathX) : flatX [x] = cellsX x := by simp [flatX]
theorem flatX_cell (O : List PathX) (v : Value) (hv : v ∈ flatX O) : v.oneCell' = true := by
  obtain ⟨x, _, h⟩ := List.mem_flatMap.1 hv
  exact cellsX_one x v h
theorem flatX_get (O : List PathX) (i j : Nat) (hi : i < O.length) (hj : j < 21) : (flatX O)[i * 21 + j]? = (cellsX O[i])[j]? := by
  induction O generalizing i with
  | nil => simp at hi
  | cons x O ih =>
    cases i with
    | zero =>
      rw [flatX, List.flatMap_cons, Nat.zero_mul, Nat.zero_add, List.getElem?_append_left (by rw [cellsX_length]; exact hj)]
      rfl
    | succ i =>
      rw [flatX, List.flatMap_cons, List.getElem?_append_right (by rw [cellsX_length]; omega), cellsX_length]
      have h := ih i (by simpa using hi)
      rw [flatX] at h
      rw [show (i + 1) * 21 + j - 21 = i * 21 + j by omega, h]
      rfl

/-- A slice of paths that the call owns, in a block of F. -/
def OwnP (F : Nat → Prop) (w : World) (v : Value) (O : List PathX) : Prop :=
  w.ownsRow 0 25 21 v O.length (flatX O) ∧ ∀ g, v.ownBlock = some g → F g
theorem OwnP.nil (F : Nat → Prop) (w : World) : OwnP F w (.slice none 0 0) [] := ⟨World.ownsRow_nil _ _ _ _, fun g h => by simp [Value.ownBlock] at h⟩
theorem OwnP.keep {F S : Nat → Prop} {w w' : World} {v : Value} {O : List PathX} (h : OwnP F w v O) (hf : Fr S w w') (hd : ∀ k, k < w.heap.size → F k → ¬ S k) : OwnP F w' v O := by
  refine ⟨⟨h.1.1, ?_⟩, h.2⟩
  rcases h.1.2 with h1 | ⟨g, cap, cur, hv, hb, hg, r⟩
  · exact .inl h1
  · exact .inr ⟨g, cap, cur, hv, hb, hf.heap hg (hd g (lt_of_block hg) (h.2 g (by rw [hv]; rfl))), r⟩
theorem OwnP.mono {F G : Nat → Prop} {w : World} {v : Value} {O : List PathX} (h : OwnP F w v O) (hd : ∀ k, k < w.heap.size → F k → G k) : OwnP G w v O :=
  ⟨h.1, fun g hg => hd g (h.1.lt g hg).2 (h.2 g hg)⟩
/-- Where it has an element: its block. -/
theorem OwnP.row {F : Nat → Prop} {w : World} {v : Value} {O : List PathX} (h : OwnP F w v O) :
    (v = .slice none 0 0 ∧ O = []) ∨ ∃ g cap cur, v = .slice (some ⟨g, 0, none⟩) O.length cap ∧ F g ∧ g < w.heap.size ∧ w.heap[g]? = some (.cells cur 25 (0, 0)) ∧ O.length ≤ cap ∧ cap ≤ maxLen ∧ cur.toList.take (O.length * 21) = flatX O := by
  rcases h.1.2 with ⟨hv, h0⟩ | ⟨g, cap, cur, hv, _, hg, h1, h2, _, h3⟩
  · exact .inl ⟨hv, List.eq_nil_of_length_eq_zero h0⟩
  · exact .inr ⟨g, cap, cur, hv, h.2 g (by rw [hv]; rfl), lt_of_block hg, hg, h1, h2, h3⟩
theorem take_cell {cur : Array Value} {n : Nat} {l : List Value} (h : cur.toList.take n = l) (i : Nat) (v : Value) (hv : l[i]? = some v) : cur[i]? = some v := by
  subst h
  rw [List.getElem?_take] at hv
  split at hv
  · rwa [Array.getElem?_toList] at hv
  · cases hv
theorem OwnP.paths {F : Nat → Prop} {w : World} {v : Value} {O : List PathX} (h : OwnP F w v O) : PathsIn F w v O := by
  rcases h.row with ⟨rfl, rfl⟩ | ⟨g, cap, cur, rfl, hF, _, hg, h1, h2, h3⟩
  · exact PathsIn.nil _ _
  · refine ⟨_, cap, rfl, h1, h2, (fun h => by cases h), fun _ => ⟨g, 0, rfl, hF, fun i hi j u hu => ?_⟩⟩
    have hj : j < 21 := by
      have := (List.getElem?_eq_some_iff.1 hu).1
      rwa [cellsX_length] at this
    rw [cell_of_row _ _ _ _ _ _ hg, Nat.zero_add]
    exact take_cell h3 _ _ (by rw [flatX_get O i j hi hj]; exact hu)

theorem Try.infoP : (Try.prog.info? 25).map (fun i => (i.zero, i.size, i.bytes)) = some (some (.agg (pathC (List.replicate 20 0) ⟨#[]⟩)), 21, 40) := by kernel_rfl
/-- append of paths onto paths that the call owns. -/
theorem run_append_paths {F G : Nat → Prop} (w : World) (ty : TypeId) (v x : Value) (O X : List PathX) (hown : OwnP F w v O) (hx : PathsIn G w x X) (hb : O.length + X.length ≤ 1000000) :
    ∃ v' w', (Builtin.append_ #[37, 37] ty #[v, x]).run Try.prog w = .ok v' w' ∧ OwnP (fun k => F k ∨ w.heap.size ≤ k) w' v' (O ++ X) ∧ w.grownBy w' v.ownBlock ∧ (v'.ownBlock = v.ownBlock ∨ v'.ownBlock = some w.heap.size) := by
  obtain ⟨i0, hi, hz0, hz1, hz2⟩ := info_parts Try.infoP
  obtain ⟨ao, cap, rfl, hl, hm, hn, hc⟩ := hx
  cases ao with
  | none =>
    obtain rfl := hn rfl
    obtain rfl : X = [] := List.eq_nil_of_length_eq_zero (by omega)
    have hr := run_append_owned_none (P := Try.prog) (w := w) 0 37 ty 25 i0 21 Try.underlying37 hi v O.length _ hown.1
    refine ⟨v, w, hr, ?_, World.grownBy.refl _ _, .inl rfl⟩
    rw [List.append_nil]
    exact hown.mono fun k _ h => .inl h
  | some a =>
    obtain ⟨v', w', hr, h2, h3, h4, h5⟩ := run_append_own_at (P := Try.prog) w 0 37 ty 25 i0 (.agg (pathC (List.replicate 20 0) ⟨#[]⟩)) 21 40 Try.underlying37 hi hz0 hz1 hz2 rfl (by decide) v O.length _ hown.1 a X.length cap (flatX X)
      (flatX_length X) (fun j u hu => by
        have hjl : j < X.length * 21 := by
          have := (List.getElem?_eq_some_iff.1 hu).1
          rwa [flatX_length] at this
        have hX : X ≠ [] := by rintro rfl; simp at hjl
        obtain ⟨b, off, ha, _, hr⟩ := hc hX
        cases ha
        have hi : j / 21 < X.length := by omega
        have h := hr (j / 21) hi (j % 21) u (by
          rw [← flatX_get X (j / 21) (j % 21) hi (by omega)]
          rw [show j / 21 * 21 + j % 21 = j by omega]
          exact hu)
        rw [addr_plain]
        rwa [show off + j / 21 * 21 + j % 21 = off + j by omega] at h) (fun u hu => flatX_cell X u hu) (by unfold maxLen; omega) (by omega) (Nat.zero_le _)
    refine ⟨v', w', hr, ⟨?_, ?_⟩, h3, h5⟩
    · rw [List.length_append, flatX_append]
      exact h2
    · intro g hg
      rcases h5 with h5 | h5
      · exact .inl (hown.2 g (by rw [← h5, hg]))
      · rw [hg] at h5
        exact .inr (by have := Option.some.inj h5; omega)
theorem wpList_append_paths {F G : Nat → Prop} (w : World) {ops : Array Oper} {rest : List Oper} {o : Oper} {a : Act} {Q : Exit → Act → World → Prop} (hgd : o.guard = none) (s x : Operand)
    (hop : o.op = Op.call { callee := Callee.builtin Builtin.append, args := #[s, x], argTypes := #[37, 37] })
    (v y : Value) (O X : List PathX) (hs : a.eval s = v) (hx : a.eval x = y) (hown : OwnP F w v O) (hX : PathsIn G w y X) (hb : O.length + X.length ≤ 1000000)
    (hK : ∀ v' w', OwnP (fun k => F k ∨ w.heap.size ≤ k) w' v' (O ++ X) → w.grownBy w' v.ownBlock → (v'.ownBlock = v.ownBlock ∨ v'.ownBlock = some w.heap.size) → wpList Try.prog ops Q rest (a.put o.dst v') w') : wpList Try.prog ops Q (o :: rest) a w := by
  refine wpList_plain hgd fun K hK' => ?_
  subst hs; subst hx
  obtain ⟨v', w', hr, h1, h2, h3⟩ := run_append_paths w o.type _ _ O X hown hX hb
  unfold Oper.wp
  simp [execOp, hop, resolve, invoke, builtin, hr, Result.andThen]
  exact hK' _ _ (hK v' w' h1 h2 h3)

theorem run_build_one20 (w : World) (a0 a1 a2 a3 a4 a5 a6 a7 a8 a9 a10 a11 a12 a13 a14 a15 a16 a17 a18 a19 : Value) (s : Value) : (Instr.buildSlice 37 1 #[(0, .agg #[a0, a1, a2, a3, a4, a5, a6, a7, a8, a9, a10, a11, a12, a13, a14, a15, a16, a17, a18, a19, s])]).run Try.prog w = .ok (.slice (some ⟨w.heap.size, 0, none⟩) 1 1) (w.alloc (.cells #[a0, a1, a2, a3, a4, a5, a6, a7, a8, a9, a10, a11, a12, a13, a14, a15, a16, a17, a18, a19, s] 25)) := by kernel_rfl
theorem run_build_one (w : World) (x : PathX) : (Instr.buildSlice 37 1 #[(0, .agg (pathC x.h x.n))]).run Try.prog w = .ok (.slice (some ⟨w.heap.size, 0, none⟩) 1 1) (w.alloc (.cells (pathC x.h x.n) 25)) := by
  obtain ⟨h, n, hl⟩ := x
  match h, hl with
  | [a0, a1, a2, a3, a4, a5, a6, a7, a8, a9, a10, a11, a12, a13, a14, a15, a16, a17, a18, a19], _ => exact run_build_one20 w (bv a0) (bv a1) (bv a2) (bv a3) (bv a4) (bv a5) (bv a6) (bv a7) (bv a8) (bv a9) (bv a10) (bv a11) (bv a12) (bv a13) (bv a14) (bv a15) (bv a16) (bv a17) (bv a18) (bv a19) (.string n)
theorem PathsIn.one (w : World) (x : PathX) : PathsIn (fun k => k = w.heap.size) (w.alloc (.cells (pathC x.h x.n) 25)) (.slice (some ⟨w.heap.size, 0, none⟩) 1 1) [x] := by
  refine ⟨_, 1, rfl, Nat.le_refl _, by simp [maxLen], (fun h => by cases h), fun _ => ⟨w.heap.size, 0, rfl, rfl, fun i hi j u hu => ?_⟩⟩
  have hi0 : i = 0 := by simp at hi; omega
  subst hi0
  rw [cell_of_row _ _ _ _ _ _ (heap_alloc_new w _)]
  simpa [cellsX, pathC] using hu
end Go.Proofs.Ytdmlalnekjihfaa
