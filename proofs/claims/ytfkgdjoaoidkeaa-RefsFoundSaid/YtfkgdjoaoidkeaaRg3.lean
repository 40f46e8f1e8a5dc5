/- Laid together: RfAl RfRg OpenArr RPath PathEq RLess BVals -/
import Derived.Test.YtfkgdjoaoidkeaaRg2
import Derived.Deep.MidRow
import Derived.Test.YtfkgdjoaoidkeaaRg0
import Derived.ProofKit
import Derived.OpenShut
import Derived.SizedLaws
import Derived.Deep.Slices
import Derived.Carry
import Derived.Deep.RegionHeld3
import Derived.Test.YtfkgdjoaoidkeaaRg1
import Derived.Laws.StructEq
import Derived.Maps.OwnSet
import Derived.DeepKeys4
import Derived.Lib.OthersKept
import Derived.Laws.RangeAny
import Derived.Deep.LoopGhost

namespace Go.Proofs.Ytfkgdjoaoidkeaa
open Go.RowKit Go.ChangeShapes
set_option linter.unusedVariables false
attribute [local go_sem] Oper.semAt_some
abbrev Ls := {s : List UInt8 // s.length = 32}
def encL (s : Ls) : Array Value := #[.agg (ltC s.1)]
theorem win_len {b : List UInt8} {i : Nat} (h : i + 32 ≤ b.length) : ((b.drop i).take 32).length = 32 := by rw [List.length_take, List.length_drop]; omega
def winN (b : List UInt8) : Nat := b.length + 1 - 32
def winX (b : List UInt8) : List Ls := (List.range (winN b)).attach.map fun i => ⟨(b.drop i.1).take 32, win_len (by have := List.mem_range.1 i.2; unfold winN at this; omega)⟩
theorem winX_length (b : List UInt8) : (winX b).length = winN b := by simp [winX]
theorem winX_at {b : List UInt8} {i : Nat} (h : i < (winX b).length) : ((winX b)[i]).1 = (b.drop i).take 32 := by simp [winX]
theorem winX_mem {b : List UInt8} {s : Ls} : s ∈ winX b ↔ ∃ i, occR b s.1 i = true := by
  constructor
  · intro h
    obtain ⟨i, hi, rfl⟩ := List.mem_iff_getElem.1 h
    exact ⟨i, decide_eq_true (winX_at hi).symm⟩
  · rintro ⟨i, h⟩
    have hr := occR_room s.2 h
    have h1 := of_decide_eq_true h
    have hi : i < (winX b).length := by rw [winX_length]; unfold winN; omega
    exact List.mem_iff_getElem.2 ⟨i, hi, Subtype.ext (by rw [winX_at hi, h1])⟩
structure ItA (F : Nat → Prop) (Bb : Nat) (v : Value) (b : List UInt8) (W : World) : Prop where
  box : W.heap[Bb]? = some (.cells #[v] 22 (0, 0))
  byt : BytesIn F W v b
theorem ItA.keep {T F : Nat → Prop} {Bb : Nat} {v : Value} {b : List UInt8} {W W' : World} (h : ItA F Bb v b W) (hf : Fr T W W') (h1 : ¬ T Bb) (h3 : ∀ k, F k → ¬ T k) : ItA F Bb v b W' :=
  ⟨hf.heap h.box h1, h.byt.keep hf (fun k _ hk => h3 k hk)⟩
theorem ItA.grown {F : Nat → Prop} {Bb : Nat} {v : Value} {b : List UInt8} {W W' : World} (h : ItA F Bb v b W) (hg : W.grownBy W' none) : ItA F Bb v b W' :=
  h.keep (T := fun _ => False) ((Fr.refl _ W).grown hg (fun k hk => by cases hk)) (fun h => h) (fun _ _ h => h)
theorem load_let (w : World) (g o : Nat) (C : List Value) (h : w.rangeAt g o C) (hc : C.length = 32) : (Instr.loadAt 47 (.pointer (some ⟨g, o, none⟩))).run Try.prog w = .ok (.agg C.toArray) w := by
  have h1 := run_loadVar_mid (P := Try.prog) w g o 47 C _ h Try.underlying47 rfl (by rw [hc]; kernel_rfl)
  simp only [Instr.loadAt, Instr.sureAddr, Sem.run_bind, Sem.run_pure, Result.andThen_ok, h1]
theorem BytesIn.range32 {F : Nat → Prop} {w : World} {g o n cap : Nat} {L : List UInt8} (h : BytesIn F w (.slice (some ⟨g, o, none⟩) n cap) L) : w.rangeAt g o ((L.take 32).map bv) := by
  obtain ⟨ao, c, hv, h1, h2, h3, h4⟩ := h
  simp only [Value.slice.injEq] at hv
  obtain ⟨rfl, rfl, rfl⟩ := hv
  intro j v hv
  have hj : j < ((L.take 32).map bv).length := (List.getElem?_eq_some_iff.1 hv).1
  rw [List.length_map, List.length_take] at hj
  have := (h4 _ rfl).1 j v (by rw [List.map_take] at hv; rw [← hv, List.getElem?_take_of_lt (by omega)])
  rw [addr_plain] at this
  exact this
theorem wpListIn_value_g {F : Fence} {n : Nat} {P : Program} {ops : Array Oper} {Q : Exit → Act → World → Prop} {rest : List Oper} {o : Oper} {a : Act} {w : World} (hF : WideF F) (hw : Region.wanted o (yielded ops a.tmps) = true) (hd : ∀ c, o.op ≠ .defer c) (v : Value) (w' : World) (h : (execOp a.eval o).run P w = .ok (.value v) w') (hK : wpListIn F n P ops Q rest (a.put o.dst v) w') : wpListIn F n P ops Q (o :: rest) a w := by
  unfold wpListIn
  rw [if_pos hw]
  exact wpIn_value hF hd v h hK
theorem op_load10 {P : Program} {w : World} {o : Oper} {a : Act} {t : TypeId} {x : Operand} {vx v : Value} (ho : o.op = .load t x) (hx : a.eval x = vx) (hr : (Instr.loadAt t vx).run P w = .ok v w) : (execOp a.eval o).run P w = .ok (.value v) w := by
  unfold execOp
  rw [ho]
  simp only [hx, Sem.run_bind, hr, Result.andThen_ok]
  rfl
def lenC : Option Value → Nat
  | some (.slice _ n _) => n
  | _ => 0
set_option maxRecDepth 100000 in
set_option maxHeartbeats 4000000 in
theorem all1_in {T F : Nat → Prop} (n0 : Nat) (l Bb : Nat) (v : Value) (b : List UInt8) (hb : b.length ≤ 1000000000) (hT1 : ¬ T Bb) (hT3 : ∀ k, F k → ¬ T k) (hF : ¬ F Bb) (J Jx : List Ls → World → Prop)
    (hJB : ∀ pre W u, J pre W → J pre (W.setCell ⟨Bb, 0, none⟩ u))
    (hY : ∀ pre x W, J pre W → pre.length < (winX b).length → YieldAt Fence.wide (n0 - 1) Try.prog l (encL x) W fun e W' =>
      (e = .returned (.bool true) ∧ J (pre ++ [x]) W' ∧ Fr T W W') ∨ (e = .returned (.bool false) ∧ Jx (pre ++ [x]) W'))
    (W : World) (hR : ItA F Bb v b W) (h0 : J [] W) :
    CallsIn Fence.wide n0 Try.prog 37 #[.func (.yield l) #[] #[], .pointer (some ⟨Bb, 0, none⟩)] W fun e W' => (∃ v, e = .returned v) ∧
      ((∃ ys, ys = winX b ∧ J ys W') ∨ (∃ pre, pre <+: winX b ∧ Jx pre W')) := by
  obtain ⟨X, hX⟩ : ∃ X, X = winX b := ⟨_, rfl⟩
  have hXl : X.length = b.length + 1 - 32 := by rw [hX, winX_length]; rfl
  have hXat := fun i (h : i < X.length) => show (X[i]).1 = (b.drop i).take 32 by subst hX; exact winX_at h
  rw [← hX] at hY
  rw [← hX]
  have hvf : ∃ ao cap, v = .slice ao b.length cap := by
    obtain ⟨ao, cap, hv, _⟩ := hR.byt
    exact ⟨ao, cap, hv⟩
  obtain ⟨ao, cap, rfl⟩ := hvf
  obtain ⟨n, hn⟩ : ∃ n, n = b.length := ⟨_, rfl⟩
  rw [← hn] at hb hR hXl
  have HR := Lib.hid hR
  have HY := Lib.hid hY
  have HJB := Lib.hid hJB
  have HT := Lib.hid (And.intro hT1 (And.intro hT3 hF))
  have HN := Lib.hid (And.intro hn (And.intro hXl hXat))
  clear hR hY hJB hT1 hT3 hF hn hX hXl hXat
  refine callsIn_of_wp Try.func37 rfl trivial ?_ rfl
  simp only [Try.ntmps37, List.size_toArray, List.length_cons, List.length_nil, Nat.reduceAdd, Nat.reduceSub, Array.replicate_succ, Array.replicate_zero, List.push_toArray, List.append_toArray, List.nil_append, List.cons_append]
  gi_wp2
  gi_loopw [3] (fun iv wr => ∃ (i : Nat) (ai : Option Addr) (ci : Nat), i ≤ n ∧ J (X.take i) wr ∧ Hid (ItA F Bb (.slice ai (n - i) ci) (b.drop i) wr ∧ i ≤ X.length)) (fun _ wr => lenC (wr.cell? ⟨Bb, 0, none⟩))
  case atStart => exact ⟨0, ao, cap, by omega, h0, Lib.hid ⟨HR.out, by omega⟩⟩
  case round =>
    clear h0
    obtain ⟨i, ai, ci, hi, hJs, hRr⟩ := hrel
    have hbx := cell_of_one hRr.out.1.box
    obtain ⟨m, hm⟩ : ∃ m, m = n - i := ⟨_, rfl⟩
    rw [← hm] at hbx
    have hbl : (b.drop i).length = m := by rw [List.length_drop, hm, HN.out.1]
    have hR1 := hRr.out
    rw [← hm] at hR1
    have HR1 := Lib.hid hR1
    clear hRr hR1
    by_cases h32 : 32 ≤ m
    · have hiX : i < X.length := by have := HN.out.2.1; omega
      obtain ⟨x, hx⟩ : ∃ x, x = X[i] := ⟨_, rfl⟩
      have hxv : x.1 = (b.drop i).take 32 := by rw [hx]; exact HN.out.2.2 i hiX
      have htk : X.take (i + 1) = X.take i ++ [x] := by rw [List.take_succ_eq_append_getElem hiX, hx]
      have hpl : (X.take i).length < X.length := by rw [List.length_take]; omega
      obtain ⟨fn, tmps, assign, body, hy, hRd⟩ := HY.out _ x wr hJs hpl
      obtain ⟨g, o, c', hv', -, -, -, hcel⟩ := HR1.out.1.byt.plain (fun e => by rw [e] at hbl; simp at hbl; omega)
      simp only [Value.slice.injEq] at hv'
      obtain ⟨rfl, -, rfl⟩ := hv'
      have har := run_arr wr (some ⟨g, o, none⟩) m ci h32
      have hld := load_let wr g o (x.1.map bv) (by rw [hxv]; exact HR1.out.1.byt.range32) (by rw [List.length_map]; exact x.2)
      simp only [encL] at hy
      have hd32 : decide ((32 : Int) ≤ (m : Int)) = true := by rw [decide_eq_true_iff]; omega
      have hi32 : (32 : Int) ≤ (m : Int) := by omega
      have HTK := Lib.hid (And.intro htk hm)
      clear hx hxv hpl htk hcel hm hJs
      gi_wp2_with (refine wpListIn_value_g .out (by simp [Region.wanted, yielded, Act.put]) (by intro c h; cases h) (.agg (ltC x.1)) wr (op_load10 rfl rfl hld) ?_)
      refine ⟨fun hx => WideF.out.free hx, hRd.mono ?_⟩
      rintro e W3 (⟨rfl, hJ3, hk3⟩ | ⟨rfl, hJx3⟩)
      · have hA3 := HR1.out.1.keep hk3 HT.out.1 HT.out.2.1
        have hc3 := cell_of_one hA3.box
        have hf3 := (one_cell hA3.box).2
        have hcl := run_cutLow W3 (some ⟨g, o, none⟩) m ci 1 (by omega)
        have hcl2 : (Instr.slice 22 (.slice (some ⟨g, o, none⟩) m ci) (some (.int .i64 1)) none none).run Try.prog W3 = .ok (.slice (cutLow (some ⟨g, o, none⟩) 1 ci) (m - 1) (ci - 1)) W3 := hcl
        obtain ⟨a4, ha4⟩ : ∃ a4, a4 = cutLow (some ⟨g, o, none⟩) 1 ci := ⟨_, rfl⟩
        rw [← ha4] at hcl2
        have hA4 : ItA F Bb (.slice a4 (m - 1) (ci - 1)) (b.drop (i + 1)) (W3.setCell ⟨Bb, 0, none⟩ (.slice a4 (m - 1) (ci - 1))) := by
          refine ⟨one_put hA3.box _, ?_⟩
          have h5 := hA3.byt.cutLow 1 (by rw [hbl]; omega)
          rw [List.drop_drop, ← ha4] at h5
          exact h5.keep (Fr.cell1 W3 Bb 0 _) (fun k _ hk e => HT.out.2.2 (by rw [← show k = Bb from e]; exact hk))
        have hJ4 := HJB.out _ W3 (.slice a4 (m - 1) (ci - 1)) hJ3
        have h6 := cell_of_one hA4.box
        have HA4 := Lib.hid hA4
        have H6 := Lib.hid h6
        have HBX := Lib.hid hbx
        clear hA3 hcl ha4 hA4 h6 hJ3 hk3 har hld hy hbl hbx
        gi_wp2
        go_roundw
        case rel => exact ⟨i + 1, a4, ci - 1, by have := HN.out.2.1; omega, by rw [HTK.out.1]; exact hJ4, Lib.hid ⟨by have h7 := HA4.out; rw [show m - 1 = n - (i + 1) by have := HTK.out.2; omega] at h7 ⊢; exact h7, by omega⟩⟩
        case measure =>
          rw [H6.out, HBX.out]
          simp only [lenC]
          omega
      · gi_wp2
        go_end0
        exact ⟨⟨_, rfl⟩, .inr ⟨_, by rw [← HTK.out.1]; exact List.take_prefix _ _, hJx3⟩⟩
    · have hX9 : X.length ≤ i := by have := HN.out.2.1; omega
      have hd32 : decide ((32 : Int) ≤ (m : Int)) = false := by rw [decide_eq_false_iff_not]; omega
      have hi32 : ¬ (32 : Int) ≤ (m : Int) := by omega
      clear hm
      gi_wp2
      refine ⟨fun _ h => (by cases h), ?_⟩
      gi_wp2
      go_end0
      exact ⟨⟨_, rfl⟩, .inl ⟨_, rfl, by rwa [List.take_of_length_le hX9] at hJs⟩⟩
end Go.Proofs.Ytfkgdjoaoidkeaa
namespace Go.Proofs.Ytfkgdjoaoidkeaa
open Go.RowKit Go.ChangeShapes
set_option linter.unusedVariables false
def SeqBox {α : Type} (n : Nat) (P : Program) (gf Bb : Nat) (lb : Array Value) (encs : α → Array Value) (T : Nat → Prop) (S Sp : List α → Prop) (N : Nat) (w : World) : Prop :=
  ∀ (l : Nat) (J Jx : List α → World → Prop) (W : World), Below w.heap.size w W → (∀ pre V u, J pre V → J pre (V.setCell ⟨Bb, 0, none⟩ u)) →
    (∀ pre x V, J pre V → pre.length < N → YieldAt Fence.wide (n - 1) P l (encs x) V fun e V' => (e = .returned (.bool true) ∧ J (pre ++ [x]) V' ∧ Fr T V V') ∨ (e = .returned (.bool false) ∧ Jx (pre ++ [x]) V')) →
    J [] W → CallsIn Fence.wide n P gf (#[.func (.yield l) #[] #[]] ++ lb) W fun e V => (∃ v, e = .returned v) ∧ ((∃ ys, S ys ∧ J ys V) ∨ (∃ pre, Sp pre ∧ Jx pre V))
theorem setCell_keeps {W : World} {Bb k : Nat} {u : Value} {o : Obj} (h : W.heap[k]? = some o) (hne : k ≠ Bb) : (W.setCell ⟨Bb, 0, none⟩ u).heap[k]? = some o := (Fr.cell1 W Bb 0 u).heap h hne
theorem wpIn_rangeBox {α : Type} {P : Program} {n : Nat} {g : Operand} {ps : Array Tmp} {assign body : Code} {Q : Exit → Act → World → Prop} {a : Act} {w : World}
    (h1 : 1 ≤ n) {gf Bb : Nat} {lb : Array Value} (hg : a.eval g = .func (.func gf) #[] lb) (eg : ∀ args w, (callFunc gf args).run P w = .ok (.enter gf args) w) (hBb : Bb < w.heap.size)
    {encs : α → Array Value} {T : Nat → Prop} {S Sp : List α → Prop} {N : Nat} (hseq : SeqBox (n - 1) P gf Bb lb encs T S Sp N w) (hT : ∀ k, w.heap.size ≤ k → T k) (hps : ∀ x, (encs x).size = ps.size)
    (I : List α → World → Prop) (Ix : Code → List α → World → Prop) (hI : OwnFrom w.heap.size I) (hIx : ∀ c, OwnFrom w.heap.size (Ix c)) (hIB : ∀ pre V u, I pre V → I pre (V.setCell ⟨Bb, 0, none⟩ u)) (h0 : I [] w)
    (Ax : α → Act → World → Prop) (hAx : ∀ x a', OwnFrom w.heap.size (fun (_ : Unit) W => Ax x a' W))
    (hassign : ∀ (l : Nat) (pre : List α) (x : α) (W : World) (K : Act → World → Prop), I pre W → (∀ a' W', KeepsFrom w.heap.size W W' → Fr T W W' → I pre W' → Ax x a' W' → K a' W') →
      assign.wpIn (Fence.wide.inRound l) (n - 1 - 1) P (Exit.then K (fun _ _ _ => False)) { tmps := (ps.zip (encs x)).foldl (fun t (p, v) => t.setIfInBounds p v) a.tmps, defers := [] } W)
    (hbody : ∀ (l : Nat) (pre : List α) (x : α) (a' : Act) (W : World), w.heap.size ≤ l → I pre W → Ax x a' W → pre.length < N → body.wpIn (Fence.wide.inRound l) (n - 1 - 1) P (ownPostG w.heap.size (Fr T) I Ix (pre ++ [x]) W) a' W)
    (hdone : ∀ (D : Nat) (xs : List α) (W : World), w.heap.size ≤ D → S xs → I xs W → W.heap[D]? = some (.deferred (some [])) → Q .normal { a with defers := { target := .collected D, args := #[] } :: a.defers } W)
    (hstop : ∀ (D : Nat) (c : Code) (pre : List α) (W : World), w.heap.size ≤ D → Sp pre → Ix c pre W → W.heap[D]? = some (.deferred (some [])) → c.wpIn Fence.wide n P Q { a with defers := { target := .collected D, args := #[] } :: a.defers } W) :
    (Code.rangeFunc g ps assign body).wpIn Fence.wide n P Q a w := by
  obtain ⟨z, hz⟩ : ∃ z, z = w.heap.size := ⟨_, rfl⟩
  refine wpIn_rangeFunc ?_
  intro fn hfn
  rw [show Fence.wide.round = none from rfl]
  obtain ⟨R, hR⟩ : ∃ R : LoopState → Option Code → Loop, R = fun st pe => { state := st, pending := pe, fn, tmps := a.tmps, params := ps, assign, body, defers := w.heap.size } := ⟨_, rfl⟩
  obtain ⟨W1, hW1⟩ : ∃ W1, W1 = (w.alloc (.deferred (some []))).alloc (.loop (R .ready none)) := ⟨_, rfl⟩
  have hd1 : W1.heap[z]? = some (.deferred (some [])) := by rw [hW1, hz]; exact heap_alloc2_old w _ _
  have hl1 : W1.heap[z + 1]? = some (.loop (R .ready none)) := by rw [hW1, hz]; exact heap_alloc2_new w _ _
  have hi1 : I [] W1 := by rw [hW1]; exact hI.alloc _ (hI.alloc _ h0)
  have hb1 : Below w.heap.size w W1 := by rw [hW1]; exact ((Below.refl _ w).alloc (Nat.le_refl _) _).alloc (by simp) _
  rw [← hz] at hBb hT hI hIx hassign hbody hdone hstop
  refine ⟨z + 1, [{ target := .collected z, args := #[] }], W1, { target := .fn (.func gf) lb, args := #[.func (.yield (z + 1)) #[] #[]] }, W1, gf, #[.func (.yield (z + 1)) #[] #[]] ++ lb, W1, ?_, ?_, ?_, ?_, fun _ => h1, ?_⟩
  · rw [hW1, hR, hz]
    exact run_enterLoop_outer _ _ _ _ _
  · simp only [resolve, hg]
    simp [go_sem]
  · intro f' hf'
    trivial
  · simp [invoke, go_sem, eg]
  · have hput : ∀ (V : World) (o o' : Obj), V.heap[z + 1]? = some o → o.isCells = false → o.isWalk = false → Fr T V (V.putObj (z + 1) o') := fun V o o' _ _ _ => fr_putObj V (z + 1) o' (hT _ (by omega))
    refine (hseq (z + 1) (fun pre V => I pre V ∧ V.heap[z + 1]? = some (.loop (R .ready none)) ∧ V.heap[z]? = some (.deferred (some [])))
      (fun pre V => ∃ c, Ix c pre V ∧ V.heap[z + 1]? = some (.loop (R .done (some c))) ∧ V.heap[z]? = some (.deferred (some []))) W1 hb1
      (fun pre V u h => ⟨hIB pre V u h.1, setCell_keeps h.2.1 (by omega), setCell_keeps h.2.2 (by omega)⟩) ?_ ⟨hi1, hl1, hd1⟩).mono ?_
    · rintro pre x V ⟨hi, hl, hk⟩ hlen
      have hy := run_yield (P := P) (args := encs x) hl (by rw [hR]; exact hps x)
      rw [hR] at hy
      refine ⟨fn, _, assign, body, hy, roundIn_of_wpIn hfn (hassign _ pre x V _ hi ?_)⟩
      intro a' Va hkf hkp hia hax
      have hla := hkf.same _ _ (by omega) hl rfl
      have hka := hkf.same _ _ (Nat.le_refl _) hk rfl
      have hlt := lt_of_block hla
      refine ⟨_, run_beginRound hla (by rw [hR]), ?_⟩
      obtain ⟨Vb, hVb⟩ : ∃ Vb, Vb = Va.putObj (z + 1) (.loop { R .ready none with state := .busy }) := ⟨_, rfl⟩
      have hlb : Vb.heap[z + 1]? = some (.loop { R .ready none with state := .busy }) := by rw [hVb]; exact World.putObj_heap_same hlt
      have hkb : Vb.heap[z]? = some (.deferred (some [])) := by rw [hVb]; exact (World.putObj_heap_other (by omega)).trans hka
      have hfb : Fr T Va Vb := by rw [hVb]; exact hput Va _ _ hla rfl rfl
      have hib : I pre Vb := by rw [hVb]; exact hI.putObj _ hia (by omega) hla rfl
      have haxb : Ax x a' Vb := by rw [hVb]; exact (hAx x a').putObj (s := ()) _ hax (by omega) hla rfl
      rw [← hVb]
      refine wpIn_mono (hbody _ pre x a' _ (by omega) hib haxb hlen) ?_
      have fin : ∀ (j : Option Code) (V3 : World), KeepsFrom z Vb V3 → ∃ V4, V4 = V3.putObj (z + 1) (.loop (R (if j.isNone then .ready else .done) j)) ∧ (Instr.endRound (z + 1) j).run P V3 = .ok (.bool j.isNone) V4 ∧
          V3.heap[z + 1]? = some (.loop { R .ready none with state := .busy }) ∧ V4.heap[z + 1]? = some (.loop (R (if j.isNone then .ready else .done) j)) ∧ V4.heap[z]? = some (.deferred (some [])) := fun j V3 hk3 => by
        have hl3 := hk3.same _ _ (by omega) hlb rfl
        have hr := run_endRound (P := P) j hl3
        refine ⟨_, rfl, ?_, hl3, World.putObj_heap_same (lt_of_block hl3), (World.putObj_heap_other (by omega)).trans (hk3.same _ _ (Nat.le_refl _) hkb rfl)⟩
        rw [hR] at hr ⊢
        exact hr
      rintro e a3 V3 hp
      cases e with
      | normal =>
        obtain ⟨hk3, hkp3, hi3⟩ := hp
        obtain ⟨V4, e4, hr, hl3, hl4, hk4⟩ := fin none V3 hk3
        refine ⟨_, _, hr, .inl ⟨rfl, ⟨by rw [e4]; exact hI.putObj _ hi3 (by omega) hl3 rfl, hl4, hk4⟩, ?_⟩⟩
        exact ((hkp.trans hfb (fun _ h => .inl h)).trans hkp3 (fun _ h => .inl h)).trans (by rw [e4]; exact hput V3 _ _ hl3 rfl rfl) (fun _ h => .inl h)
      | ret =>
        obtain ⟨hk3, hi3⟩ := hp
        obtain ⟨V4, e4, hr, hl3, hl4, hk4⟩ := fin (some .ret) V3 hk3
        exact ⟨_, _, hr, .inr ⟨rfl, .ret, by rw [e4]; exact (hIx _).putObj _ hi3 (by omega) hl3 rfl, hl4, hk4⟩⟩
      | exit id =>
        obtain ⟨hk3, hi3⟩ := hp
        obtain ⟨V4, e4, hr, hl3, hl4, hk4⟩ := fin (some (.exit id)) V3 hk3
        exact ⟨_, _, hr, .inr ⟨rfl, .exit id, by rw [e4]; exact (hIx _).putObj _ hi3 (by omega) hl3 rfl, hl4, hk4⟩⟩
      | goto t =>
        obtain ⟨hk3, hi3⟩ := hp
        obtain ⟨V4, e4, hr, hl3, hl4, hk4⟩ := fin (some (.goto t)) V3 hk3
        exact ⟨_, _, hr, .inr ⟨rfl, .goto t, by rw [e4]; exact (hIx _).putObj _ hi3 (by omega) hl3 rfl, hl4, hk4⟩⟩
      | panic ch => exact hp.elim
      | outgrown => exact hp.elim
    · rintro e V2 ⟨⟨v, rfl⟩, h⟩
      rcases h with ⟨xs, hS, hi, hl, hk⟩ | ⟨pre, hSp, c, hi, hl, hk⟩
      · have hr := run_endLoop (P := P) hl (by rw [hR]; simp)
        rw [hR] at hr
        exact ⟨none, _, hr, hdone _ xs _ (Nat.le_refl _) hS (hI.putObj _ hi (by omega) hl rfl) ((World.putObj_heap_other (by omega)).trans hk)⟩
      · have hr := run_endLoop (P := P) hl (by rw [hR]; simp)
        rw [hR] at hr
        exact ⟨some c, _, hr, hstop _ c pre _ (Nat.le_refl _) hSp ((hIx c).putObj _ hi (by omega) hl rfl) ((World.putObj_heap_other (by omega)).trans hk)⟩
theorem ItA.below {F : Nat → Prop} {Bb : Nat} {v : Value} {b : List UInt8} {w W : World} (h : ItA F Bb v b w) (hF : ∀ k, F k → k < w.heap.size) (hb : Below w.heap.size w W) : ItA F Bb v b W := by
  have h2 := lt_of_block h.box
  exact h.keep (Fr.ofBelow hb) (fun h => by omega) (fun k hk h => by have := hF k hk; omega)
theorem all_box {T F : Nat → Prop} (n0 Bb : Nat) (v : Value) (b : List UInt8) (hb : b.length ≤ 1000000000) (hT1 : ¬ T Bb) (hT3 : ∀ k, F k → ¬ T k) (hF0 : ¬ F Bb) (w : World) (hF : ∀ k, F k → k < w.heap.size) (hR : ItA F Bb v b w) :
    SeqBox n0 Try.prog 37 Bb #[.pointer (some ⟨Bb, 0, none⟩)] encL T (fun ys => ys = winX b) (fun pre => pre <+: winX b) (winX b).length w :=
  fun l J Jx W hW hJB hY h0 => all1_in n0 l Bb v b hb hT1 hT3 hF0 J Jx hJB hY W (hR.below hF hW) h0
end Go.Proofs.Ytfkgdjoaoidkeaa
namespace Go.Proofs.Ytfkgdjoaoidkeaa
open Go.RowKit Go.ChangeShapes Go.WideShapes Go.Deep
set_option linter.unusedVariables false
theorem u8_of_wf {n : Int} (h : (Lit.int .u8 n).wf = true) : ((UInt8.ofNat n.toNat).toNat : Int) = n := by
  obtain ⟨h0, h1⟩ := bounds_u8 h
  rw [UInt8.toNat_ofNat']
  omega
theorem Try.cellsB : Try.prog.cellsOf 5 = 1 := by kernel_rfl
theorem Try.bytesB : Try.prog.bytesOf 5 = 1 := by kernel_rfl
section
variable {H : Type} {enc : TypeId × Value → H} {w : World} {base fuel : Nat} {held : Bool} {cs : List Value} {x : DataW H × List MemPlace}
theorem open_arr {t : TypeId} {n : Nat} (ht : Try.prog.underlying t = some (.array n 5)) (hc : Try.prog.cellsOf t = n) (h : DataW.trod enc Try.prog w base (fun _ => true) held fuel t cs = some x) :
    ∃ L : List UInt8, L.length = n ∧ cs = L.map bv := by
  obtain ⟨xs, m, rfl, _, hl, hn, hi⟩ := DataW.trod_array ht h
  rw [hc] at hl
  refine ⟨cs.map fun v => match v with | .int _ z => UInt8.ofNat z.toNat | _ => 0, by simpa using hl, ?_⟩
  rw [List.map_map]
  apply List.ext_getElem?
  intro i
  rw [List.getElem?_map]
  by_cases hin : i < n
  · have h1 := hi i hin
    rw [Try.cellsB, Nat.mul_one] at h1
    have hx : xs[i]? = some (xs[i]'(by omega)) := List.getElem?_eq_getElem (by omega)
    rw [hx] at h1
    obtain ⟨z, e1, _, e3⟩ := DataW.trod_int Try.underlying5 h1
    have h2 : cs[i]? = some (.int .u8 z) := by
      have := congrArg (·[0]?) e1
      simpa [List.getElem?_take, List.getElem?_drop] using this
    rw [h2]
    simp only [Option.map_some, Function.comp, bv, u8_of_wf e3]
  · rw [List.getElem?_eq_none (by omega)]
    rfl
theorem open_bytes (h : DataW.trod enc Try.prog w base (fun _ => true) held fuel 22 cs = some x) (hz : ∀ n ∈ x.1.weights Try.prog 22, n ≤ reachBytes) :
    ∃ v L, cs = [v] ∧ BytesIn (fun k => k < w.heap.size) w v L ∧ L.length ≤ 140737488351232 := by
  rcases open_ints Try.underlying22 Try.underlying5 Try.cellsB h with ⟨rfl, _⟩ | ⟨a, len, cap, zs, rfl, _, hl, hm, hzl, hx, hc, hwf⟩
  · exact ⟨_, [], rfl, BytesIn.nil _ _, by simp⟩
  · simp only [if_true] at hzl
    have hlen : ((zs.take len).map fun z => UInt8.ofNat z.toNat).length = len := by rw [List.length_map, List.length_take]; omega
    refine ⟨_, (zs.take len).map fun z => UInt8.ofNat z.toNat, rfl, ⟨some a, cap, by rw [hlen], by rw [hlen]; exact hl, hm, (fun h => by cases h), ?_⟩, ?_⟩
    · intro a' ha
      cases ha
      refine ⟨fun j u hu => ?_, fun hL => ?_⟩
      · have hj : j < len := by have := (List.getElem?_eq_some_iff.1 hu).1; rw [List.length_map, hlen] at this; exact this
        have hjz : j < zs.length := by omega
        rw [hc j hjz]
        have hmem := hwf (zs[j]) (List.getElem_mem _)
        rw [List.getElem?_map, List.getElem?_map, List.getElem?_take, if_pos hj, List.getElem?_eq_getElem hjz] at hu
        simp only [Option.map_some, Option.some.injEq] at hu
        rw [← hu, bv, u8_of_wf hmem]
        simp [List.getD, List.getElem?_eq_getElem hjz]
      · have hp : 0 < len := by have := List.length_pos_iff.2 hL; omega
        have := World.block_lt_of_cell? _ _ (hc 0 (by omega))
        rwa [add_block] at this
    · rw [hlen]
      have := hz ((zs.take len).length + (zs.drop len).length) (by rw [hx]; simp [DataW.weights, Try.underlying22, Try.bytesB, lits])
      rw [List.length_take, List.length_drop] at this
      simp only [reachBytes] at this
      omega
theorem mem_weightsAll {P : Program} {e : TypeId} : ∀ {ds : List (DataW H)} {d : DataW H}, d ∈ ds → ∀ n ∈ d.weights P e, n ∈ DataW.weightsAll P e ds
  | d0 :: ds, d, hd, n, hn => by
    simp only [DataW.weightsAll, List.mem_append]
    rcases List.mem_cons.1 hd with rfl | hd
    · exact .inl hn
    · exact .inr (mem_weightsAll hd n hn)
end
end Go.Proofs.Ytfkgdjoaoidkeaa
namespace Go.Proofs.Ytfkgdjoaoidkeaa
open Go.RowKit Go.ChangeShapes
set_option linter.unusedVariables false
def pathC (H : List UInt8) (N : ByteArray) : Array Value := (H.map bv ++ [Value.string N]).toArray
theorem pathC_size (H : List UInt8) (hH : H.length = 20) (N : ByteArray) : (pathC H N).size = 21 := by simp [pathC, hH]
theorem pathC_name (H : List UInt8) (hH : H.length = 20) (N : ByteArray) : (pathC H N)[20]? = some (.string N) := by
  rw [pathC, List.getElem?_toArray, List.getElem?_append_right (by simp [hH])]
  simp [hH]
theorem pathC_hash (H : List UInt8) (N : ByteArray) (i : Nat) (v : Value) (h : (H.map bv)[i]? = some v) : (pathC H N)[i]? = some v := by
  rw [pathC, List.getElem?_toArray, List.getElem?_append_left (List.getElem?_eq_some_iff.1 h).1]
  exact h
theorem pathC_one (H : List UInt8) (N : ByteArray) : (pathC H N).all (·.oneCell') = true := by
  rw [pathC]
  refine all_oneCell_toArray (fun u hu => ?_)
  rcases List.mem_append.1 hu with h | h
  · exact bv_one H u h
  · obtain rfl := List.mem_singleton.1 h
    rfl
def PathT (w : World) (g : Nat) (H : List UInt8) (N : ByteArray) : Prop := w.heap[g]? = some (.cells (pathC H N) 37 (0, 0))
theorem PathT.keep {S : Nat → Prop} {w w' : World} {g : Nat} {H : List UInt8} {N : ByteArray} (h : PathT w g H N) (hf : Fr S w w') (hg : ¬ S g) : PathT w' g H N := hf.heap h hg
theorem PathT.name {w : World} {g : Nat} {H : List UInt8} {N : ByteArray} (h : PathT w g H N) (hH : H.length = 20) : w.cell? ⟨g, 20, none⟩ = some (.string N) := by
  rw [cell_of_row _ _ _ _ _ _ h, pathC_name H hH N]
theorem PathT.range {w : World} {g : Nat} {H : List UInt8} {N : ByteArray} (h : PathT w g H N) : w.rangeAt g 0 (H.map bv) := fun j v hv => by
  rw [Nat.zero_add, cell_of_row _ _ _ _ _ _ h, pathC_hash H N j v hv]
theorem PathT.byte {w : World} {g : Nat} {H : List UInt8} {N : ByteArray} (h : PathT w g H N) (i : Nat) (hi : i < H.length) : w.cell? ⟨g, i, none⟩ = some (.int .u8 (H.getD i 0).toNat) := by
  rw [cell_of_row _ _ _ _ _ _ h]
  refine pathC_hash H N i _ ?_
  rw [List.getElem?_map, List.getD_eq_getElem?_getD, List.getElem?_eq_getElem hi]
  rfl
end Go.Proofs.Ytfkgdjoaoidkeaa
namespace Go.Proofs.Ytfkgdjoaoidkeaa
open Go.RowKit Go.ChangeShapes Go.WideMaps Go.Maps
set_option linter.unusedVariables false
def sameP (H1 : List UInt8) (N1 : ByteArray) (H2 : List UInt8) (N2 : ByteArray) : Bool := decide (H1 = H2 ∧ N1 = N2)
theorem sameP_refl (H : List UInt8) (N : ByteArray) : sameP H N H N = true := by simp [sameP]
theorem path_fields : (Try.prog.fieldsOf 37).toList.map (fun f => (f.name, f.type, f.offset)) = [("Hash", 24, 0), ("Name", 9, 20)] := by kernel_rfl
theorem path_part_hash (w : World) (H : List UInt8) (N : ByteArray) (h : H.length = 20) : (part 24 (pathC H N) 0).run Try.prog w = .ok (.agg (H.map bv).toArray) w := by
  simp only [part, Sem.run_bind, Try.isAgg24, Try.sizeOf24, Result.andThen_ok, if_true, Sem.run_pure]
  congr 2
  apply Array.ext'
  simp only [pathC, Array.toList_extract, List.extract_eq_take_drop, List.drop_zero, Nat.zero_add, Nat.sub_zero]
  rw [List.take_append_of_le_length (by simp [h]), List.take_of_length_le (by simp [h])]
theorem path_part_name (w : World) (H : List UInt8) (N : ByteArray) (h : H.length = 20) : (part 9 (pathC H N) 20).run Try.prog w = .ok (.string N) w := by
  have e := pathC_name H h N
  simp [part, Try.isAgg9, e]
theorem eqFields_cons {P : Program} (w : World) (d : Nat) (xs ys : Array Value) (f : Field) (fs : List Field) (hn : f.name ≠ "_") (a b : Value) (r : Bool) (h1 : (part f.type xs f.offset).run P w = .ok a w) (h2 : (part f.type ys f.offset).run P w = .ok b w)
    (h3 : (Op.equalIn d f.type a b).run P w = .ok r w) : (Op.eqFields d xs ys (f :: fs)).run P w = if r = true then (Op.eqFields d xs ys fs).run P w else .ok false w := by
  rw [Op.eqFields, if_pos hn]
  simp only [Sem.run_bind, h1, h2, h3, Result.andThen_ok]
  cases r
  · simp
  · simp
theorem two_of_map {α β : Type} {g : α → β} {l : List α} {x y : β} (h : l.map g = [x, y]) : ∃ a b, l = [a, b] ∧ g a = x ∧ g b = y := by
  have hl := congrArg List.length h
  rw [List.length_map] at hl
  match l, hl with
  | [a, b], _ =>
    simp only [List.map_cons, List.map_nil, List.cons.injEq, and_true] at h
    exact ⟨a, b, rfl, h.1, h.2⟩
theorem run_equalIn_pathD (d : Nat) (w : World) (H1 : List UInt8) (N1 : ByteArray) (H2 : List UInt8) (N2 : ByteArray) (h1 : H1.length = 20) (h2 : H2.length = 20) :
    (Op.equalIn (d + 3) 37 (.agg (pathC H1 N1)) (.agg (pathC H2 N2))).run Try.prog w = .ok (sameP H1 N1 H2 N2) w := by
  rw [run_equalIn_struct w (d + 2) 37 _ _ (by kernel_rfl) (by kernel_rfl)]
  obtain ⟨f1, f2, hf, a, b⟩ := two_of_map path_fields
  simp only [Prod.mk.injEq] at a b
  obtain ⟨n1, t1, o1⟩ := a
  obtain ⟨n2, t2, o2⟩ := b
  have n1 : f1.name ≠ "_" := by rw [n1]; decide
  have n2 : f2.name ≠ "_" := by rw [n2]; decide
  rw [hf]
  have e1 := run_equalIn_bytes (P := Try.prog) w d 24 5 20 Try.underlying24 Try.underlying5 (fun w => by kernel_rfl) H1 H2 h1 h2
  have e1 : (Op.equalIn (d + 2) 24 (.agg (H1.map bv).toArray) (.agg (H2.map bv).toArray)).run Try.prog w = .ok (H1 == H2) w := e1
  have e2 := run_equalIn_string (P := Try.prog) w (d + 1) 9 N1 N2 Try.underlying9
  rw [eqFields_cons w (d + 2) _ _ f1 [f2] n1 (.agg (H1.map bv).toArray) (.agg (H2.map bv).toArray) (H1 == H2) (by rw [t1, o1]; exact path_part_hash w _ _ h1) (by rw [t1, o1]; exact path_part_hash w _ _ h2) (by rw [t1]; exact e1),
    eqFields_cons w (d + 2) _ _ f2 [] n2 (.string N1) (.string N2) (N1.toList == N2.toList) (by rw [t2, o2]; exact path_part_name w _ _ h1) (by rw [t2, o2]; exact path_part_name w _ _ h2) (by rw [t2]; exact e2)]
  have hr : sameP H1 N1 H2 N2 = ((H1 == H2) && (N1.toList == N2.toList)) := by
    rw [Bool.eq_iff_iff, Bool.and_eq_true, beq_iff_eq, beq_iff_eq, sameP, decide_eq_true_iff]
    refine ⟨fun ⟨a, b⟩ => ⟨a, by rw [b]⟩, fun ⟨a, b⟩ => ⟨a, ?_⟩⟩
    rw [Go.ByteArray.toList_eq, Go.ByteArray.toList_eq] at b
    exact ByteArray.ext (Array.toList_inj.1 b)
  rw [hr]
  have hnil : (Op.eqFields (d + 2) (pathC H1 N1) (pathC H2 N2) []).run Try.prog w = .ok true w := rfl
  rw [hnil]
  cases (H1 == H2)
  · rfl
  · cases (N1.toList == N2.toList)
    · rfl
    · rfl
theorem run_equalIn_path (w : World) (H1 : List UInt8) (N1 : ByteArray) (H2 : List UInt8) (N2 : ByteArray) (h1 : H1.length = 20) (h2 : H2.length = 20) :
    (Op.equalIn 10000 37 (.agg (pathC H1 N1)) (.agg (pathC H2 N2))).run Try.prog w = .ok (sameP H1 N1 H2 N2) w := by
  rw [show Op.equalIn 10000 = Op.equalIn (9997 + 3) from rfl]
  exact run_equalIn_pathD 9997 w H1 N1 H2 N2 h1 h2
theorem run_eql_path (w : World) (H1 : List UInt8) (N1 : ByteArray) (H2 : List UInt8) (N2 : ByteArray) (h1 : H1.length = 20) (h2 : H2.length = 20) :
    (binOp .eql 37 (.agg (pathC H1 N1)) (.agg (pathC H2 N2))).run Try.prog w = .ok (.bool (sameP H1 N1 H2 N2)) w := by
  rw [run_eql_struct, run_equalIn_path w H1 N1 H2 N2 h1 h2]
  rfl
theorem run_neq_path (w : World) (H1 : List UInt8) (N1 : ByteArray) (H2 : List UInt8) (N2 : ByteArray) (h1 : H1.length = 20) (h2 : H2.length = 20) :
    (binOp .neq 37 (.agg (pathC H1 N1)) (.agg (pathC H2 N2))).run Try.prog w = .ok (.bool (!sameP H1 N1 H2 N2)) w := by
  rw [run_neq_struct, run_equalIn_path w H1 N1 H2 N2 h1 h2]
  rfl
theorem guard_path (w : World) (op : BinOp) (x y : Operand) (A Bb : Array Value) : (eqGuard op 37 x y (.agg A) (.agg Bb)).run Try.prog w = .ok () w := run_eqGuard_agg w op _ x y A Bb (by kernel_rfl)
theorem laidOutP : laidOutB Try.prog = true := by kernel_rfl
theorem lawP : Keyed Try.prog 37 := Keyed.of_law (deep_law_laid laidOutP (m := 5) (by decide) (Nat.le_of_ble_eq_true (by kernel_rfl)) (by kernel_rfl) (by kernel_rfl))
end Go.Proofs.Ytfkgdjoaoidkeaa
namespace Go.Proofs.Ytfkgdjoaoidkeaa
open Go.RowKit Go.ChangeShapes
set_option linter.unusedVariables false
theorem less_irrefl (L : List UInt8) : Op.bytesLess L L = false := by
  induction L with
  | nil => rfl
  | cons x L ih => simp [Op.bytesLess, ih]
def lessP (H1 : List UInt8) (N1 : ByteArray) (H2 : List UInt8) (N2 : ByteArray) : Bool :=
  Op.bytesLess H1 H2 || (H1 == H2 && Op.bytesLess N1.toList N2.toList)
end Go.Proofs.Ytfkgdjoaoidkeaa
namespace Go.Proofs.Ytfkgdjoaoidkeaa
open Go.RowKit Go.ChangeShapes Go.WideMaps Go.Maps
set_option linter.unusedVariables false
theorem Fr.grownAs {a w : World} {g : Nat} (hg : a.grownBy w (some g)) : Fr (fun i => i = g) a w := (Fr.refl _ a).grown hg (fun k hk => by cases hk; exact .inl rfl)
end Go.Proofs.Ytfkgdjoaoidkeaa
