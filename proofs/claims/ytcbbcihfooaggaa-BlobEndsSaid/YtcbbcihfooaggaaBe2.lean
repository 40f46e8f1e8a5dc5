/- Laid together: Wide DIter DMem DLatest RDev1 RDev2 -/
import Derived.Test.YtcbbcihfooaggaaBe0
import Derived.RangeFuncNested
import Derived.RangeFuncBound
import Derived.OwnWalkIn
import Derived.TacticsInMore
import Derived.LoopIn
import Derived.LoopNIn
import Derived.Laws.Rows
import Derived.Deep.WholeRow
import Derived.Test.YtcbbcihfooaggaaBe1
import Derived.Deep.MidRow
import Derived.StillTailTactics
import Derived.Laws.CopyRow
import Derived.Deep.RegionLawGrows

namespace Go.Proofs.Ytcbbcihfooaggaa
open Go.RowKit
set_option linter.unusedVariables false
inductive WideF : Fence → Prop
  | out : WideF Fence.wide
  | round (l : Nat) : WideF (Fence.wide.inRound l)
theorem WideF.fn {F : Fence} (h : WideF F) (f : FuncId) : F.fn f := by cases h <;> trivial
theorem WideF.free {F : Fence} (h : WideF F) {p : Prop} (hd : F.depth.isSome = true) : p := by cases h <;> simp [Fence.wide, Fence.inRound] at hd
theorem WideF.calls {F : Fence} (h : WideF F) {n : Nat} {P : Program} {f : FuncId} {args : Array Value} {w : World} {R : Ending → World → Prop} (hc : Calls P f args w R) : CallsIn F n P f args w R := by
  cases h with
  | out => exact callsIn_wide.2 hc
  | round l => exact CallsIn.inRound l (callsIn_wide.2 hc)
section
variable {F : Fence} {n : Nat} {P : Program} {ops : Array Oper} {md : Region.Mode} {Q : Exit → Act → World → Prop}
theorem wpIn_value {o : Oper} {a : Act} {w w' : World} {K : Act → World → Prop} (hF : WideF F) (hd : ∀ c, o.op ≠ .defer c) (v : Value) (h : (execOp a.eval o).run P w = .ok (.value v) w') (hK : K (a.put o.dst v) w') : o.wpIn F n P a w K Q := by
  refine ⟨fun f _ => hF.fn f, ?_⟩
  rw [Oper.semAt_plain F _ _ hd, h]
  exact hK
theorem wpListIn_value {rest : List Oper} {o : Oper} {a : Act} {w : World} (hF : WideF F) (hg : o.guard = none) (hd : ∀ c, o.op ≠ .defer c) (v : Value) (w' : World) (h : (execOp a.eval o).run P w = .ok (.value v) w') (hK : wpListIn F n P ops Q rest (a.put o.dst v) w') : wpListIn F n P ops Q (o :: rest) a w :=
  wpListIn_plain hg fun _ hK' => wpIn_value hF hd v h (hK' _ _ hK)
theorem wpOpIn_of_stOp {i : Nat} {a : Act} {w : World} {K : Act → Prop} {K' : Act → World → Prop} (hF : WideF F) (hd : ∀ o, ops[i]? = some o → ∀ c, o.op ≠ .defer c) (h : ∀ a, K a → K' a w) (hh : stOp P ops w i K a) : wpOpIn F n P ops Q i K' a w := by
  unfold stOp at hh
  unfold wpOpIn
  cases ho : ops[i]? with
  | none => simp only [ho] at hh; exact h _ hh
  | some o =>
    simp only [ho] at hh
    simp only
    split
    · rename_i hw
      simp only [hw, if_true] at hh
      refine ⟨fun f _ => hF.fn f, ?_⟩
      rw [Oper.semAt_plain F _ _ (hd o ho)]
      unfold Oper.still at hh
      generalize (execOp a.eval o).run P w = r at *
      cases r with
      | ok m w' =>
        cases m <;> simp only [Oper.stillUpon] at hh <;> simp only [Oper.uponIn]
        case enter f args =>
          obtain ⟨rfl, v, hc, hn⟩ := hh
          exact ⟨fun hx => hF.free hx, (hF.calls hc).mono fun e w'' ⟨he, hw⟩ => by subst he; subst hw; exact h _ hn⟩
        all_goals (obtain ⟨rfl, h2⟩ := hh; exact h _ h2)
      | halt x w' => simp only [Oper.stillUpon] at hh
    · rename_i hw
      simp only [hw] at hh
      exact ⟨fun f _ => hF.fn f, h _ hh⟩
theorem wpAnyIn_of_head {w : World} {m g : Nat} {L : Array Bool → Act → Prop} (hF : WideF F) (hd : ∀ (i : Nat) (o : Oper), ops[i]? = some o → ∀ c, o.op ≠ .defer c) (hL : ∀ listed a, L listed a → wpAnyIn F n P md ops Q g listed a w) :
    ∀ (f : Nat) (listed : Array Bool) (a : Act), wpAnyL P md ops w m L f listed a → wpAnyIn F n P md ops Q (f + g) listed a w
  | 0, listed, a, h => by rw [Nat.zero_add]; exact hL _ _ h
  | f + 1, listed, a, h => by
    rw [show f + 1 + g = (f + g) + 1 by omega]
    exact ⟨fun h0 => absurd h0 h.1, fun i hi => wpOpIn_of_stOp hF (hd i) (fun a' h' => wpAnyIn_of_head hF hd hL f _ a' h') (h.2 i hi).2⟩
theorem wpAnyIn_of_seq : ∀ (l : List Oper) (k : Nat) (listed : Array Bool) (a : Act) (w : World), (∀ j, l[j]? = ops[k + j]?) →
    Region.seqB md ops l.length k listed = true → wpListIn F n P ops Q l a w → wpAnyIn F n P md ops Q l.length listed a w
  | [], _, _, _, _, _, hB, h => ⟨by simpa [Region.seqB] using hB, h⟩
  | o :: l, k, listed, a, w, hl, hB, h => by
    have h0 : ops[k]? = some o := by simpa using (hl 0).symm
    simp only [List.length_cons, Region.seqB, Bool.and_eq_true, decide_eq_true_eq] at hB
    refine ⟨fun h1 => (by rw [hB.1] at h1; cases h1), fun i hi => ?_⟩
    rw [hB.1] at hi
    have hik : i = k := by simpa using hi
    subst hik
    have hw : wpOpIn F n P ops Q i (wpListIn F n P ops Q l) a w := by unfold wpOpIn; simp only [h0]; exact h
    exact wpOpIn_mono (fun a' w' h' => wpAnyIn_of_seq l (i + 1) _ a' w' (fun j => by have := hl (j + 1); simpa [Nat.add_assoc, Nat.add_comm 1 j] using this) hB.2 h') hw
def noDefer (o : Oper) : Bool := match o.op with | .defer _ => false | _ => true
theorem noDefer_ne {o : Oper} (h : noDefer o = true) (c : Call) : o.op ≠ .defer c := by
  intro e
  unfold noDefer at h
  rw [e] at h
  cases h
theorem wpIn_still_tail {id : Nat} {a : Act} {w : World} {l : List Oper} (m : Nat) (hF : WideF F) (hm : P.follows .mixedOrders = true) (hd : l.all noDefer = true) (hB : Region.lexTailB .any l.toArray m = true)
    (h : wpStill P l.toArray w.drew (fun a' => wpListIn F n P l.toArray Q (l.drop m) a' w.drew) (l.take m) a) : (Code.region id l.toArray true).wpIn F n P Q a w := by
  simp only [Region.lexTailB, Bool.and_eq_true, decide_eq_true_eq] at hB
  obtain ⟨⟨⟨⟨hsel, hn⟩, hs⟩, hc⟩, hlex⟩ := hB
  have hn' : m < l.length := by simpa using hn
  have htl : (l.take m).length = m := by simp; omega
  have hdl : (l.drop m).length = l.toArray.size - m := by simp
  have hdd : ∀ (i : Nat) (o : Oper), l.toArray[i]? = some o → ∀ c, o.op ≠ .defer c := by
    intro i o ho
    exact noDefer_ne (List.all_eq_true.1 hd o (by
      have ho' : l[i]? = some o := by simpa using ho
      exact List.mem_of_getElem? ho'))
  have inv0 : HeadInv .any l.toArray m (Array.replicate l.toArray.size false) :=
    ⟨by simp, fun j oj _ hl => (by rw [getD_replicate_false] at hl; cases hl), fun t _ ht => getD_in (by simpa using ht) (getD_replicate_false _ _)⟩
  have H := wpAnyL_lex (md := .any) (g := l.toArray.size - m) hsel hs hc hn (l.take m) 0 _ a (fun j hj => by
    have hj' : j < m := by rw [htl] at hj; exact hj
    simp [hj']) (by simpa using htl) inv0 (by rw [htl]; exact hlex) h
  refine wpIn_region_any hm ?_
  have := wpAnyIn_of_head (F := F) (n := n) (Q := Q) (g := l.toArray.size - m) hF hdd (fun listed a' hL => by
    have := wpAnyIn_of_seq (md := .any) (F := F) (n := n) (Q := Q) (l.drop m) m listed a' w.drew (fun j => by simp [List.getElem?_drop]) (by rw [hdl]; exact hL.1) hL.2
    rwa [hdl] at this) _ _ _ H
  rw [htl, show m + (l.toArray.size - m) = l.toArray.size by omega] at this
  exact this
theorem still_value {w : World} {o : Oper} {a : Act} {rest : List Oper} {Q' : Act → Prop} (hg : o.guard = none) (v : Value) (h : (execOp a.eval o).run P w = .ok (.value v) w) (hK : wpStill P ops w Q' rest (a.put o.dst v)) : wpStill P ops w Q' (o :: rest) a := by
  unfold wpStill
  rw [if_pos (by simp [Region.wanted, hg])]
  unfold Oper.still
  rw [h]
  exact ⟨rfl, hK⟩
end
end Go.Proofs.Ytcbbcihfooaggaa
namespace Go.Proofs.Ytcbbcihfooaggaa
open Go.RowKit Go.ChangeShapes
set_option linter.unusedVariables false
def wrC (p : Pend) : List Value := .int .i64 p.1 :: p.2.map bv
theorem wrC_length (p : Pend) (h : p.2.length = 64) : (wrC p).length = 65 := by simp [wrC, h]
theorem wrC_one (p : Pend) : ∀ v ∈ wrC p, v.oneCell' = true := by
  intro v hv
  rcases List.mem_cons.1 hv with rfl | h
  · rfl
  · exact bv_one _ v h
def flatD : List Pend → List Value
  | [] => []
  | p :: W => wrC p ++ flatD W
theorem flatD_snoc (p : Pend) : ∀ (W : List Pend), flatD (W ++ [p]) = flatD W ++ wrC p
  | [] => by simp [flatD]
  | q :: W => by rw [List.cons_append, flatD, flatD, flatD_snoc p W, List.append_assoc]
theorem flatD_get : ∀ (W : List Pend) (i j : Nat) (h : i < W.length) (hj : j < 65), (∀ p ∈ W, p.2.length = 64) → (flatD W)[i * 65 + j]? = (wrC W[i])[j]?
  | [], i, j, h, _, _ => by simp at h
  | p :: W, 0, j, _, hj, hl => by
    rw [flatD, Nat.zero_mul, Nat.zero_add, List.getElem?_append_left (by rw [wrC_length p (hl p (by simp))]; exact hj)]
    rfl
  | p :: W, i + 1, j, h, hj, hl => by
    have e := wrC_length p (hl p (by simp))
    rw [flatD, List.getElem?_append_right (by rw [e]; omega), e, show (i + 1) * 65 + j - 65 = i * 65 + j by omega]
    exact flatD_get W i j (by simpa using h) hj (fun q hq => hl q (by simp [hq]))
def WrAt (F : Nat → Prop) (w : World) (v : Value) (W : List Pend) : Prop :=
  w.ownsRow 0 123 65 v W.length (flatD W) ∧ ∀ g, v.ownBlock = some g → F g
theorem WrAt.nil (F : Nat → Prop) (w : World) : WrAt F w (.slice none 0 0) [] := ⟨World.ownsRow_nil _ _ _ _, fun g h => by simp [Value.ownBlock] at h⟩
theorem WrAt.keep {F S : Nat → Prop} {w w' : World} {v : Value} {W : List Pend} (h : WrAt F w v W) (hf : Fr S w w') (hd : ∀ k, k < w.heap.size → F k → ¬ S k) : WrAt F w' v W := by
  refine ⟨⟨h.1.1, ?_⟩, h.2⟩
  rcases h.1.2 with e | ⟨g, cap, cur, hv, hb, hg, r⟩
  · exact .inl e
  · exact .inr ⟨g, cap, cur, hv, hb, hf.heap hg (hd g (lt_of_block hg) (h.2 g (by rw [hv]; rfl))), r⟩
theorem WrAt.mono {F G : Nat → Prop} {w : World} {v : Value} {W : List Pend} (h : WrAt F w v W) (hd : ∀ k, k < w.heap.size → F k → G k) : WrAt G w v W := by
  refine ⟨h.1, fun g hg => hd g ?_ (h.2 g hg)⟩
  rcases h.1.2 with ⟨e, _⟩ | ⟨g', cap, cur, hv, hb, hg', r⟩
  · rw [e] at hg; simp [Value.ownBlock] at hg
  · rw [hv] at hg
    simp [Value.ownBlock] at hg
    subst hg
    exact lt_of_block hg'
theorem WrAt.form {F : Nat → Prop} {w : World} {v : Value} {W : List Pend} (h : WrAt F w v W) : ∃ ao cap, v = .slice ao W.length cap ∧ W.length ≤ cap ∧ cap ≤ maxLen := by
  rcases h.1.2 with ⟨hv, h0⟩ | ⟨g, cap, cur, hv, _, hg, c1, c2, _⟩
  · rw [h0]; exact ⟨none, 0, hv, Nat.le_refl _, by simp [maxLen]⟩
  · exact ⟨_, cap, hv, c1, c2⟩
theorem WrAt.elem {F : Nat → Prop} {w : World} {ao : Option Addr} {n cap : Nat} {W : List Pend} (h : WrAt F w (.slice ao n cap) W) (hl : ∀ p ∈ W, p.2.length = 64) (i : Nat) (hi : i < W.length) :
    ∃ b, ao = some ⟨b, 0, none⟩ ∧ F b ∧ w.rangeAt b (i * 65) (wrC W[i]) := by
  rcases h.1.2 with ⟨hv, h0⟩ | ⟨g, cap', cur, hv, _, hg, c1, c2, c3, c4⟩
  · omega
  · injection hv with e1 e2 e3
    subst e1
    refine ⟨g, rfl, h.2 g rfl, fun j u hu => ?_⟩
    have hj : j < 65 := by
      have := (List.getElem?_eq_some_iff.1 hu).1
      rwa [wrC_length _ (hl _ (List.getElem_mem _))] at this
    rw [cell_of_row _ _ _ _ _ _ hg]
    have hx := flatD_get W i j hi hj hl
    rw [hu, ← c4, List.getElem?_take] at hx
    split at hx
    · rwa [Array.getElem?_toList] at hx
    · cases hx
abbrev PendX (s : Nat) := { p : Pend // p.1 < s ∧ p.2.length = 64 }
def valsX {s : Nat} (xs : List (PendX s)) : List Pend := xs.map (·.1)
theorem valsX_len {s : Nat} (xs : List (PendX s)) : ∀ p ∈ valsX xs, p.2.length = 64 := by
  intro p hp
  obtain ⟨x, _, rfl⟩ := List.mem_map.1 hp
  exact x.2.2
theorem exists_valsX {s : Nat} : ∀ (W : List Pend), Pends s W → ∃ xs : List (PendX s), valsX xs = W
  | [], _ => ⟨[], rfl⟩
  | p :: W, h => by
    obtain ⟨xs, hx⟩ := exists_valsX W (fun q hq => h q (by simp [hq]))
    exact ⟨⟨p, h p (by simp)⟩ :: xs, by show p :: valsX xs = p :: W; rw [hx]⟩
def encsX {s : Nat} (x : PendX s) : Array Value := #[.int .i64 x.1.1, .agg (x.1.2.map bv).toArray]
structure ItR (w : World) (F : Nat → Prop) (Bp g : Nat) (vw : Value) (W : List Pend) : Prop where
  box : w.cell? ⟨Bp, 0, none⟩ = some (.pointer (some ⟨g, 0, none⟩))
  head : w.cell? ⟨g, 3, none⟩ = some vw
  wr : WrAt F w vw W
theorem ItR.keep {F S : Nat → Prop} {w w' : World} {Bp g : Nat} {vw : Value} {W : List Pend} (h : ItR w F Bp g vw W) (hf : Fr S w w') (h1 : ¬ S Bp) (h2 : ¬ S g) (h3 : ∀ k, k < w.heap.size → F k → ¬ S k) : ItR w' F Bp g vw W :=
  ⟨hf.cell h.box h1, hf.cell h.head h2, h.wr.keep hf h3⟩
theorem grownBy_drew (w : World) : w.grownBy w.drew none := ⟨rfl, rfl, rfl, Nat.le_refl _, fun _ _ _ => rfl⟩
end Go.Proofs.Ytcbbcihfooaggaa
namespace Go.Proofs.Ytcbbcihfooaggaa
open Go.RowKit Go.ChangeShapes
set_option linter.unusedVariables false
theorem op_load_ {P : Program} {w : World} {o : Oper} {a : Act} {t : TypeId} {x : Operand} {vx v : Value} (ho : o.op = .load t x) (hx : a.eval x = vx) (hr : (Instr.loadAt t vx).run P w = .ok v w) : (execOp a.eval o).run P w = .ok (.value v) w := by
  unfold execOp
  rw [ho]
  simp only [hx, Sem.run_bind, hr, Result.andThen_ok]
  rfl
theorem run_store_at {P : Program} (w : World) (ty : TypeId) (g o : Nat) (cells cur : Array Value) (t : TypeId) (hg : w.heap[g]? = some (.cells cur t (0, 0))) (hi : (P.info? ty).map (·.size) = some cells.size) (hfit : o + cells.size ≤ cur.size) (h1 : cells.all (·.oneCell') = true) :
    (Instr.storeAt ty (.pointer (some ⟨g, o, none⟩)) (.agg cells)).run P w = .ok () (w.setRow g (cur.toList.take o ++ cells.toList ++ cur.toList.drop (o + cells.size)).toArray) := by
  have hst := run_storeCells_at P g o t cells.toList 0 cur w hg (by simpa using hfit) (fun v hv => (Array.all_eq_true_iff_forall_mem.1 h1) v (by simpa using hv))
  cases hq : P.info? ty with
  | none => simp [hq] at hi
  | some i =>
    have hs : cells.size = i.size := by simp [hq] at hi; omega
    simp only [Nat.add_zero, Array.length_toList] at hst
    simp only [Instr.storeAt, Instr.sureAddr, Sem.run_bind, Sem.run_pure, Result.andThen_ok]
    simp [storeVar, sizeOf, typeInfo, hq, Value.cells, hs]
    rw [hs] at hst
    simpa using hst
theorem alloc_setRow (w : World) (old new : Array Value) (t : TypeId) : (w.alloc (.cells old t)).setRow w.heap.size new = w.alloc (.cells new t) := by
  show ({ w with heap := (w.heap.push (.cells old t)).modify w.heap.size _ } : World) = { w with heap := w.heap.push (.cells new t) }
  congr 1
  apply Array.ext
  · simp
  · intro i h1 h2
    rw [Array.getElem_modify]
    split
    · next h => subst h; simp
    · next h =>
      have : i < w.heap.size := by simp at h1; omega
      simp [Array.getElem_push, this]
section
variable {F : Fence} {n : Nat} {P : Program} {ops : Array Oper} {Q : Exit → Act → World → Prop} {rest : List Oper} {o : Oper} {a : Act} {w : World}
theorem wpListIn_value_g (hF : WideF F) (hw : Region.wanted o (yielded ops a.tmps) = true) (hd : ∀ c, o.op ≠ .defer c) (v : Value) (w' : World) (h : (execOp a.eval o).run P w = .ok (.value v) w') (hK : wpListIn F n P ops Q rest (a.put o.dst v) w') : wpListIn F n P ops Q (o :: rest) a w :=
  wpListIn_step fun _ hK' => by
    rw [if_pos hw]
    exact wpIn_value hF hd v h (hK' _ _ hK)
theorem wpListIn_load_mid (hF : WideF F) (hgd : o.guard = none) (ty : TypeId) (x : Operand) (ho : o.op = .load ty x)
    (b q : Nat) (hx : a.eval x = .pointer (some ⟨b, q, none⟩)) (cs : List Value) (d : TypeDesc) (hc : w.rangeAt b q cs)
    (hu : P.underlying ty = some d) (hd : d.isRow = true) (hi : (P.info? ty).map (·.size) = some cs.length)
    (h : wpListIn F n P ops Q rest (a.put o.dst (.agg cs.toArray)) w) : wpListIn F n P ops Q (o :: rest) a w :=
  wpListIn_value hF hgd (by rw [ho]; intro c h; cases h) _ w (op_load_ ho hx (run_loadAt_mid w b q ty cs d hc hu hd hi)) h
theorem wpListIn_load_mid_g (hF : WideF F) (hw : Region.wanted o (yielded ops a.tmps) = true) (ty : TypeId) (x : Operand) (ho : o.op = .load ty x)
    (b q : Nat) (hx : a.eval x = .pointer (some ⟨b, q, none⟩)) (cs : List Value) (d : TypeDesc) (hc : w.rangeAt b q cs)
    (hu : P.underlying ty = some d) (hd : d.isRow = true) (hi : (P.info? ty).map (·.size) = some cs.length)
    (h : wpListIn F n P ops Q rest (a.put o.dst (.agg cs.toArray)) w) : wpListIn F n P ops Q (o :: rest) a w :=
  wpListIn_value_g hF hw (by rw [ho]; intro c h; cases h) _ w (op_load_ ho hx (run_loadAt_mid w b q ty cs d hc hu hd hi)) h
theorem wpListIn_store_at (hF : WideF F) (hgd : o.guard = none) (ty : TypeId) (x y : Operand) (ho : o.op = .store ty x y)
    (g q : Nat) (cells cur : Array Value) (t : TypeId) (hx : a.eval x = .pointer (some ⟨g, q, none⟩)) (hy : a.eval y = .agg cells)
    (hg : w.heap[g]? = some (.cells cur t (0, 0))) (hi : (P.info? ty).map (·.size) = some cells.size) (hfit : q + cells.size ≤ cur.size) (h1 : cells.all (·.oneCell') = true)
    (h : wpListIn F n P ops Q rest (a.put o.dst undef) (w.setRow g (cur.toList.take q ++ cells.toList ++ cur.toList.drop (q + cells.size)).toArray)) : wpListIn F n P ops Q (o :: rest) a w :=
  wpListIn_plain hgd fun _ hK => by
    refine ⟨fun f _ => hF.fn f, ?_⟩
    rw [Oper.semAt_plain F _ _ (by rw [ho]; intro c h; cases h)]
    unfold execOp
    simp only [ho, hx, hy, Sem.run_bind, run_store_at w ty g q cells cur t hg hi hfit h1, Result.andThen_ok]
    exact hK _ _ h
theorem wpListIn_store_new (hF : WideF F) (hgd : o.guard = none) (ty : TypeId) (x y : Operand) (ho : o.op = .store ty x y)
    (cells cur : Array Value) (t : TypeId) (w0 : World) (hw : w = w0.alloc (.cells cur t)) (hx : a.eval x = .pointer (some ⟨w0.heap.size, 0, none⟩)) (hy : a.eval y = .agg cells)
    (hi : (P.info? ty).map (·.size) = some cells.size) (hs : cur.size = cells.size) (h1 : cells.all (·.oneCell') = true)
    (h : wpListIn F n P ops Q rest (a.put o.dst undef) (w0.alloc (.cells cells t))) : wpListIn F n P ops Q (o :: rest) a w := by
  subst hw
  refine wpListIn_store_at hF hgd ty x y ho w0.heap.size 0 cells cur t hx hy (heap_alloc_new w0 _) hi (by omega) h1 ?_
  rw [alloc_setRow]
  have e : (cur.toList.take 0 ++ cells.toList ++ cur.toList.drop (0 + cells.size)).toArray = cells := by
    rw [List.take_zero, List.nil_append, List.drop_eq_nil_of_le (by simp; omega), List.append_nil]
  rw [e]
  exact h
end
section
variable {P : Program} {ops : Array Oper} {Q : Exit → Act → World → Prop} {rest : List Oper} {o : Oper} {a : Act} {w : World}
theorem wpList_store_at (hgd : o.guard = none) (ty : TypeId) (x y : Operand) (ho : o.op = .store ty x y)
    (g q : Nat) (cells cur : Array Value) (t : TypeId) (hx : a.eval x = .pointer (some ⟨g, q, none⟩)) (hy : a.eval y = .agg cells)
    (hg : w.heap[g]? = some (.cells cur t (0, 0))) (hi : (P.info? ty).map (·.size) = some cells.size) (hfit : q + cells.size ≤ cur.size) (h1 : cells.all (·.oneCell') = true)
    (h : wpList P ops Q rest (a.put o.dst undef) (w.setRow g (cur.toList.take q ++ cells.toList ++ cur.toList.drop (q + cells.size)).toArray)) : wpList P ops Q (o :: rest) a w :=
  wpList_plain hgd fun _ hK => by
    unfold Oper.wp execOp
    simp only [ho, hx, hy, Sem.run_bind, run_store_at w ty g q cells cur t hg hi hfit h1, Result.andThen_ok]
    exact hK _ _ h
theorem wpList_store_new (hgd : o.guard = none) (ty : TypeId) (x y : Operand) (ho : o.op = .store ty x y)
    (cells cur : Array Value) (t : TypeId) (w0 : World) (hw : w = w0.alloc (.cells cur t)) (hx : a.eval x = .pointer (some ⟨w0.heap.size, 0, none⟩)) (hy : a.eval y = .agg cells)
    (hi : (P.info? ty).map (·.size) = some cells.size) (hs : cur.size = cells.size) (h1 : cells.all (·.oneCell') = true)
    (h : wpList P ops Q rest (a.put o.dst undef) (w0.alloc (.cells cells t))) : wpList P ops Q (o :: rest) a w := by
  subst hw
  refine wpList_store_at hgd ty x y ho w0.heap.size 0 cells cur t hx hy (heap_alloc_new w0 _) hi (by omega) h1 ?_
  rw [alloc_setRow]
  have e : (cur.toList.take 0 ++ cells.toList ++ cur.toList.drop (0 + cells.size)).toArray = cells := by
    rw [List.take_zero, List.nil_append, List.drop_eq_nil_of_le (by simp; omega), List.append_nil]
  rw [e]
  exact h
end
def zWr : Array Value := (wrC (0, List.replicate 64 0)).toArray
theorem zWr_zero (w : World) : (zeroValue 123).run Try.prog w = .ok (.agg zWr) w := by kernel_rfl
theorem zWr_size : zWr.size = 65 := by kernel_rfl
def zSec : Array Value := ((List.replicate 64 (0 : UInt8)).map bv).toArray
theorem zSec_zero (w : World) : (zeroValue 104).run Try.prog w = .ok (.agg zSec) w := by kernel_rfl
theorem zSec_size : zSec.size = 64 := by kernel_rfl
end Go.Proofs.Ytcbbcihfooaggaa
namespace Go.Proofs.Ytcbbcihfooaggaa
open Go.RowKit Go.ChangeShapes
set_option linter.unusedVariables false
attribute [local go_sem] Oper.semAt_some
theorem load_sec (w : World) (b o : Nat) (x : List UInt8) (hx : x.length = 64) (h : w.rangeAt b o (x.map bv)) : (Instr.loadAt 104 (.pointer (some ⟨b, o, none⟩))).run Try.prog w = .ok (.agg (x.map bv).toArray) w :=
  run_loadAt_mid w b o 104 (x.map bv) _ h Try.underlying104 rfl (by rw [List.length_map, hx]; kernel_rfl)
theorem wrC_bytes {w : World} {b o : Nat} {p : Pend} (h : w.rangeAt b o (wrC p)) : w.cell? ⟨b, o, none⟩ = some (.int .i64 p.1) ∧ w.rangeAt b (o + 1) (p.2.map bv) := by
  refine ⟨h 0 _ rfl, fun j v hv => ?_⟩
  have := h (j + 1) v (by rw [wrC, List.getElem?_cons_succ]; exact hv)
  rwa [show o + (j + 1) = o + 1 + j by omega] at this
theorem rev_take {α : Type} (xs : List α) (r : Nat) (hr : r < xs.length) : xs.reverse.take (xs.length - r) = xs.reverse.take (xs.length - (r + 1)) ++ [xs[r]] := by
  have e : xs.length - r = xs.length - (r + 1) + 1 := by omega
  have h2 : xs.length - (r + 1) < xs.reverse.length := by simp; omega
  rw [e, List.take_succ_eq_append_getElem h2, List.getElem_reverse]
  congr 3
  omega
set_option maxRecDepth 100000 in
set_option maxHeartbeats 4000000 in
theorem latest1_in {T F : Nat → Prop} {s : Nat} (n : Nat) (l Bp g : Nat) (xs : List (PendX s)) (vw : Value) (hn6 : xs.length ≤ 1000000) (hT1 : ¬ T Bp) (hT2 : ¬ T g) (hT3 : ∀ k, F k → ¬ T k) (B0 : Nat) (J Jx : List (PendX s) → World → Prop) (hJ : AbidesFrom B0 J)
    (hY : ∀ pre x W, J pre W → pre.length < xs.length → YieldAt Fence.wide (n - 1) Try.prog l (encsX x) W fun e W' =>
      (e = .returned (.bool true) ∧ J (pre ++ [x]) W' ∧ Fr T W W') ∨ (e = .returned (.bool false) ∧ Jx (pre ++ [x]) W'))
    (W : World) (hR : ItR W F Bp g vw (valsX xs)) (h0 : J [] W) :
    CallsIn Fence.wide n Try.prog 84 #[.func (.yield l) #[] #[], .pointer (some ⟨Bp, 0, none⟩)] W fun e W' => (∃ v, e = .returned v) ∧
      ((∃ ys, ys = xs.reverse ∧ J ys W') ∨ (∃ pre, pre <+: xs.reverse ∧ Jx pre W')) := by
  obtain ⟨ao, cap, hvf, hc1, hc2⟩ := hR.wr.form
  have hvl : (valsX xs).length = xs.length := by simp [valsX]
  obtain ⟨m, hm⟩ : ∃ m, m = xs.length := ⟨_, rfl⟩
  rw [hvl, ← hm] at hvf
  subst hvf
  rw [← hm] at hn6
  obtain ⟨hbx, hhd, _⟩ := id hR
  have HR := Lib.hid hR
  have HM := Lib.hid hm
  have HY := Lib.hid hY
  have HJ := Lib.hid hJ
  have HT := Lib.hid (And.intro hT1 (And.intro hT2 hT3))
  have HL := Lib.hid (valsX_len xs)
  have e1 : IntKind.i64.wrap ((m : Int) - 1) = (m : Int) - 1 := by
    simp [IntKind.wrap, IntKind.bits, IntKind.signed]
    omega
  clear hR hm hY hJ hT1 hT2 hT3 hvl hc1 hc2
  refine callsIn_of_wp Try.func84 rfl trivial ?_ rfl
  simp only [Try.ntmps84, List.size_toArray, List.length_cons, List.length_nil, Nat.reduceAdd, Nat.reduceSub, Array.replicate_succ, Array.replicate_zero, List.push_toArray, List.append_toArray, List.nil_append, List.cons_append]
  gi_wp2
  gi_loopw [3] (fun iv wr => ∃ j : Nat, j ≤ m ∧ iv = .int .i64 ((j : Int) - 1) ∧ J (xs.reverse.take (m - j)) wr ∧ Hid (ItR wr F Bp g (.slice ao m cap) (valsX xs)))
    (fun iv _ => (intOf iv + 1).toNat)
  case atStart => exact ⟨m, by omega, rfl, by rw [Nat.sub_self]; exact h0, HR⟩
  case round =>
    obtain ⟨j, hj, rfl, hJs, hRr⟩ := hrel
    cases j with
    | zero =>
      gi_wp2
      go_end0
      exact ⟨⟨_, rfl⟩, .inl ⟨_, rfl, by rwa [List.take_of_length_le (by rw [List.length_reverse, HM.out]; omega)] at hJs⟩⟩
    | succ r =>
      have er : ((r + 1 : Nat) : Int) - 1 = (r : Int) := by omega
      rw [er]
      have hrx : r < xs.length := by rw [← HM.out]; omega
      obtain ⟨hb1, hh1, hw1⟩ := hRr.out
      obtain ⟨b, rfl, hFb, hrg⟩ := hw1.elem HL.out r (by simpa [valsX] using hrx)
      have ex : (valsX xs)[r]'(by simpa [valsX] using hrx) = xs[r].1 := by simp [valsX]
      rw [ex] at hrg
      obtain ⟨hat, hto⟩ := wrC_bytes hrg
      have hJd : J (xs.reverse.take (m - (r + 1))) wr.drew := HJ.out _ _ _ none hJs (grownBy_drew wr) (fun r e => by cases e)
      obtain ⟨fn, tmps, assign, body, hy, hRd⟩ := HY.out _ xs[r] wr.drew hJd (by simp [HM.out]; omega)
      have hre := rev_take xs r hrx
      rw [← HM.out] at hre
      obtain ⟨x, hx⟩ : ∃ x, x = xs[r] := ⟨_, rfl⟩
      rw [← hx] at hat hto hy hRd hre
      simp only [encsX] at hy
      have hxl := x.2.2
      have hld := load_sec wr.drew b (r * 65 + 1) x.1.2 hxl hto
      have HRE := Lib.hid hre
      have hrm : (r : Int) < (m : Int) := by omega
      have hr0 : (0 : Int) ≤ (r : Int) := by omega
      clear hre hx hrg hto hw1 hJd ex hJs hrx
      gi_wp2
      refine wpIn_still_tail 17 .out (by kernel_rfl) (by kernel_rfl) (by kernel_rfl) ?_
      simp only [List.take_succ_cons, List.take_zero, List.drop_succ_cons, List.drop_zero]
      iterate 16 still_step
      refine still_value rfl _ (op_load_ rfl rfl hld) ?_
      refine wpStill_nil ?_
      go_simp
      gi_wp2
      refine ⟨fun hx => WideF.out.free hx, hRd.mono ?_⟩
      rintro e W3 (⟨rfl, hJ3, hk3⟩ | ⟨rfl, hJx3⟩)
      · have HR3 := Lib.hid (hRr.out.keep (S := T) (w' := W3) (Fr.ofDrew hk3) HT.out.1 HT.out.2.1 (fun k _ hk => HT.out.2.2 k hk))
        gi_wp2
        go_roundw
        case rel => exact ⟨r, by omega, rfl, by rw [HRE.out]; exact hJ3, HR3⟩
        case measure => simp [intOf]
      · gi_wp2
        refine bodyPost_ret (results_none rfl _ _ _) rfl ?_
        exact ⟨⟨_, rfl⟩, .inr ⟨_, List.take_prefix _ _, by rw [HRE.out]; exact hJx3⟩⟩
theorem latest_any (w : World) (g : Nat) :
    Calls Try.prog 82 #[.pointer (some ⟨g, 0, none⟩)] w fun e w' => e = .returned (.func (.func 84) #[] #[.pointer (some ⟨w.heap.size, 0, none⟩)]) ∧ w' = w.alloc (.cells #[.pointer (some ⟨g, 0, none⟩)] 121) := by
  go_enter Try.func82, Try.ntmps82
  go_wp2
  go_ret
  exact ⟨rfl, rfl⟩
theorem ItR.below {w W : World} {F : Nat → Prop} {Bp g : Nat} {vw : Value} {V : List Pend} (h : ItR w F Bp g vw V) (hb : Below w.heap.size w W) : ItR W F Bp g vw V := by
  have h1 := World.block_lt_of_cell? _ _ h.box
  have h2 := World.block_lt_of_cell? _ _ h.head
  exact h.keep (Fr.ofBelow hb) (fun h => by simp only at h1; omega) (fun h => by simp only at h2; omega) (fun k hk _ h => by omega)
theorem latest_stops {T F : Nat → Prop} {s : Nat} (n Bp g : Nat) (xs : List (PendX s)) (vw : Value) (hn6 : xs.length ≤ 1000000) (hT1 : ¬ T Bp) (hT2 : ¬ T g) (hT3 : ∀ k, F k → ¬ T k) (w : World) (hR : ItR w F Bp g vw (valsX xs)) :
    SeqStopsK Fence.wide n Try.prog 84 #[.pointer (some ⟨Bp, 0, none⟩)] encsX (Fr T) (fun ys => ys = xs.reverse) (fun pre => pre <+: xs.reverse) xs.length w :=
  fun l J Jx W hW hJ hJx hY h0 => latest1_in n l Bp g xs vw hn6 hT1 hT2 hT3 _ J Jx hJ hY W (hR.below hW) h0
end Go.Proofs.Ytcbbcihfooaggaa
namespace Go.Proofs.Ytcbbcihfooaggaa
open Go.RowKit Go.ChangeShapes
set_option linter.unusedVariables false
theorem rNew_no (w : World) (n : Int) (hn : ¬ (1 ≤ n ∧ n ≤ 8192)) :
    Calls Try.prog 20 #[.int .i64 n] w fun e w' => e = .returned (.tuple #[.pointer none, .int .i64 2]) ∧ w = w' := by
  by_cases h1 : n < 1
  · go_enter Try.func20, Try.ntmps20
    go_wp2
    go_ret2
    exact ⟨rfl, rfl⟩
  · have h2 : 8192 < n := by omega
    have h3 : decide (n < 1) = false := by rw [decide_eq_false_iff_not]; exact h1
    have h4 : decide (8192 < n) = true := by rw [decide_eq_true_iff]; exact h2
    go_enter Try.func20, Try.ntmps20
    go_wp2
    go_ret2
    exact ⟨rfl, rfl⟩
theorem rNew_yes (w : World) (s : Nat) (h1 : 1 ≤ s) (h2 : s ≤ 8192) :
    Calls Try.prog 20 #[.int .i64 s] w fun e w' => ∃ g ga, e = .returned (.tuple #[.pointer (some ⟨g, 0, none⟩), .int .i64 0]) ∧ w.heap.size ≤ g ∧ w.heap.size ≤ ga ∧ g ≠ ga ∧ DevH w' g (.slice (some ⟨ga, 0, none⟩) (64 * s) (64 * s)) (.slice none 0 0) 0 0 false ∧ BytT w' ga 5 (List.replicate (64 * s) 0) ∧ Fr (fun _ => False) w w' := by
  obtain ⟨m, hm⟩ : ∃ m : Nat, m = 64 * s := ⟨_, rfl⟩
  have hmk := fun W => run_make_bytes W (m : Int) m rfl (by omega)
  rw [← hm]
  have e1 : (s : Int) * 64 = (m : Int) := by omega
  have h3 : decide ((s : Int) < 1) = false := by rw [decide_eq_false_iff_not]; omega
  have h4 : decide (8192 < (s : Int)) = false := by rw [decide_eq_false_iff_not]; omega
  obtain ⟨Z, hZ⟩ : ∃ Z, Z = ((List.replicate m (0 : UInt8)).map bv).toArray := ⟨_, rfl⟩
  rw [← hZ] at hmk
  have HZ := Lib.hid hZ
  clear hZ hm
  go_enter Try.func20, Try.ntmps20
  go_wp2
  go_ret2
  refine ⟨w.heap.size + 1, w.heap.size, rfl, by omega, Nat.le_refl _, by omega, ?_, ?_, ((Fr.refl _ _).alloc _).alloc _⟩
  · exact heap_alloc2_new w _ _
  · rw [HZ.out]; exact heap_alloc2_old w _ _
end Go.Proofs.Ytcbbcihfooaggaa
namespace Go.Proofs.Ytcbbcihfooaggaa
open Go.RowKit Go.ChangeShapes
set_option linter.unusedVariables false
theorem step_copy_sec {ops : Array Oper} {o : Oper} {a : Act} {w : World} {K : Act → World → Prop} {Q : Exit → Act → World → Prop} {E : Prop}
    (hgd : o.guard = none) (d s : Operand) (ho : o.op = .call { callee := .builtin .copy, args := #[d, s], argTypes := #[40, 40] })
    (ga gb q m : Nat) (L b : List UInt8) (hd : a.eval d = .slice (some ⟨ga, q, none⟩) (m - q) (m - q)) (hx : a.eval s = .slice (some ⟨gb, 0, none⟩) 64 64)
    (hL : BytT w ga 5 L) (hb : BytT w gb 5 b) (hm : L.length = m) (hq : q + 64 ≤ m) (hbl : b.length = 64) (C : Array Value) (hC : C = ((L.take q ++ b ++ L.drop (q + 64)).map bv).toArray)
    (hK : ∀ v, K (a.put o.dst v) (w.setRow ga C)) :
    if Region.wanted o (yielded ops a.tmps) = true then Oper.wp Try.prog o a w K Q else E := by
  have hw : Region.wanted o (yielded ops a.tmps) = true := by simp [Region.wanted, hgd]
  rw [if_pos hw]
  have hr := run_copy_row (P := Try.prog) w 40 40 o.type 5 ga q (m - q) (m - q) ⟨gb, 0, none⟩ 64 64 (L.map bv).toArray 5 (b.map bv) Try.underlying40 (by kernel_rfl) hL (by rw [List.length_map, hbl]; exact (Nat.min_eq_left (by omega)).symm)
    (fun j v hv => by
      rw [addr_plain, Nat.zero_add, cell_of_row _ _ _ _ _ _ hb]
      simpa using hv) (by rw [List.length_map, hbl, List.size_toArray, List.length_map, hm]; exact hq) (bv_one _)
  have e : ((L.map bv).toArray.toList.take q ++ b.map bv ++ (L.map bv).toArray.toList.drop (q + (b.map bv).length)).toArray = ((L.take q ++ b ++ L.drop (q + 64)).map bv).toArray := by
    simp [hbl]
  rw [e, ← hC] at hr
  unfold Oper.wp execOp
  simp only [ho, resolve, invoke, builtin, Sem.run_bind, Sem.run_pure, Result.andThen_ok, List.map_toArray, List.map_cons, List.map_nil, hd, hx, hr]
  exact hK _
theorem rkeep_any (w : World) (g ga gb s a : Nat) (L b : List UInt8) (vw : Value) (k l : Int) (dn : Bool) (h : DevH w g (.slice (some ⟨ga, 0, none⟩) (64 * s) (64 * s)) vw k l dn) (hL : BytT w ga 5 L) (hl : L.length = 64 * s) (hb : BytT w gb 5 b) (hbl : b.length = 64) (ha : a < s) (hs : s ≤ 8192) :
    Calls Try.prog 61 #[.pointer (some ⟨g, 0, none⟩), .agg #[.int .i64 a, .slice (some ⟨gb, 0, none⟩) 64 64]] w fun e w' => e = .returned (.tuple #[]) ∧ BytT w' ga 5 (putSec L a b) ∧ Fr (· = ga) w w' := by
  obtain ⟨m, hm⟩ : ∃ m : Nat, m = 64 * s := ⟨_, rfl⟩
  obtain ⟨q, hq⟩ : ∃ q : Nat, q = 64 * a := ⟨_, rfl⟩
  have hqm : q + 64 ≤ m := by omega
  have e1 : (a : Int) * 64 = (q : Int) := by omega
  have hput : putSec L a b = L.take q ++ b ++ L.drop (q + 64) := by rw [putSec, hq]
  rw [hput]
  rw [← hm] at h hl
  have hm6 : m ≤ 524288 := by omega
  have hcut := fun W => run_cutLow W (some ⟨ga, 0, none⟩) m m q (by omega)
  have ec : cutLow (some ⟨ga, 0, none⟩) q m = some ⟨ga, q, none⟩ := by
    rw [cutLow, if_neg (by omega)]
    simp [Addr.add]
    omega
  rw [ec] at hcut
  have hwr : IntKind.i64.wrap (q : Int) = (q : Int) := by
    simp [IntKind.wrap, IntKind.bits, IntKind.signed]
    omega
  have hq0 : (0 : Int) ≤ (q : Int) := by omega
  have hq1 : (q : Int) ≤ (m : Int) := by omega
  have hne : ¬ m = q := by omega
  obtain ⟨W, hW⟩ : ∃ W, W = w.alloc (.cells #[.int .i64 a, .slice (some ⟨gb, 0, none⟩) 64 64] 107) := ⟨_, rfl⟩
  have hF : Fr (fun _ => False) w W := by rw [hW]; exact (Fr.refl _ _).alloc _
  have hbx : W.heap[w.heap.size]? = some (.cells #[.int .i64 a, .slice (some ⟨gb, 0, none⟩) 64 64] 107 (0, 0)) := by rw [hW]; exact heap_alloc_new w _
  have c0 : W.cell? ⟨w.heap.size, 0, none⟩ = some (.int .i64 a) := cell_of_row _ _ _ _ _ _ hbx
  have c1 : W.cell? ⟨w.heap.size, 1, none⟩ = some (.slice (some ⟨gb, 0, none⟩) 64 64) := cell_of_row _ _ _ _ _ _ hbx
  obtain ⟨d0, _⟩ := (h.keep hF (fun h => h)).cells
  have HL := Lib.hid (show BytT W ga 5 L from hF.heap hL (fun h => h))
  have HB := Lib.hid (show BytT W gb 5 b from hF.heap hb (fun h => h))
  have HF := Lib.hid hF
  have HWL := Lib.hid hW
  obtain ⟨C, hC⟩ : ∃ C, C = ((L.take q ++ b ++ L.drop (q + 64)).map bv).toArray := ⟨_, rfl⟩
  have HC := Lib.hid hC
  clear h hL hb hF hbx ec hput hW hm hq hC
  go_enter Try.func61, Try.ntmps61
  go_wp2_with fail
  rw [← HWL.out]
  generalize w.heap.size = gx at *
  go_region_law (refine step_copy_sec rfl (.tmp 11) (.tmp 13) rfl ga gb q m L b (by simp [Act.eval, Act.put]) (by simp [Act.eval, Act.put]) HL.out HB.out hl hqm hbl C HC.out ?_; intro v2)
  all_goals (
    go_wp2
    refine bodyPost_end (results_none rfl _ _ _) rfl ?_
    refine ⟨rfl, ?_, ?_⟩
    · rw [BytT, ← HC.out]; exact setRow_heap _ _ _ _ _ (0, 0) (show _ from HL.out)
    · exact (HF.out.mono (T := (· = ga)) (fun _ _ h => h.elim)).drew.setRow (.inl rfl) _)
end Go.Proofs.Ytcbbcihfooaggaa
