/- Laid together: RfAl RfRg KeysX -/
import Derived.Test.YtfkgdjoaoidkeaaGreatRz3
import Derived.Deep.MidRow
import Derived.Test.YtfkgdjoaoidkeaaGreatRz4
import Derived.Test.YtfkgdjoaoidkeaaGreatRz1

namespace Go.Proofs.YtfkgdjoaoidkeaaGreat
open Go.RowKit Go.ChangeShapes
set_option linter.unusedVariables false
attribute [local go_sem] Oper.semAt_some
abbrev Ls := {s : List UInt8 // s.length = 32}
def encL (s : Ls) : Array Value := #[.agg (ltC s.1)]
theorem win_len {b : List UInt8} {i : Nat} (h : i + 32 ≤ b.length) : ((b.drop i).take 32).length = 32 := by rw [List.length_take, List.length_drop]; omega
def winN (b : List UInt8) : Nat := b.length + 1 - 32
def winX (b : List UInt8) : List Ls := (List.range (winN b)).attach.map fun i => ⟨(b.drop i.1).take 32, win_len (by have := List.mem_range.1 i.2; unfold winN at this; omega)⟩
theorem winX_length (b : List UInt8) : (winX b).length = winN b := by simp [winX]
theorem winX_at {b : List UInt8} {i : Nat} (h : i < (winX b).length) : ((winX b)[i]).1 = (b.drop i).take 32 := by simp [winX]
theorem winX_mem {b : List UInt8} {s : Ls} : s ∈ winX b ↔ ∃ i, occR b s.1 i = true := by
  constructor
  · intro h
    obtain ⟨i, hi, rfl⟩ := List.mem_iff_getElem.1 h
    exact ⟨i, decide_eq_true (winX_at hi).symm⟩
  · rintro ⟨i, h⟩
    have hr := occR_room s.2 h
    have h1 := of_decide_eq_true h
    have hi : i < (winX b).length := by rw [winX_length]; unfold winN; omega
    exact List.mem_iff_getElem.2 ⟨i, hi, Subtype.ext (by rw [winX_at hi, h1])⟩
structure ItA (F : Nat → Prop) (Bb : Nat) (v : Value) (b : List UInt8) (W : World) : Prop where
  box : W.heap[Bb]? = some (.cells #[v] 22 (0, 0))
  byt : BytesIn F W v b
theorem ItA.keep {T F : Nat → Prop} {Bb : Nat} {v : Value} {b : List UInt8} {W W' : World} (h : ItA F Bb v b W) (hf : Fr T W W') (h1 : ¬ T Bb) (h3 : ∀ k, F k → ¬ T k) : ItA F Bb v b W' :=
  ⟨hf.heap h.box h1, h.byt.keep hf (fun k _ hk => h3 k hk)⟩
theorem ItA.grown {F : Nat → Prop} {Bb : Nat} {v : Value} {b : List UInt8} {W W' : World} (h : ItA F Bb v b W) (hg : W.grownBy W' none) : ItA F Bb v b W' :=
  h.keep (T := fun _ => False) ((Fr.refl _ W).grown hg (fun k hk => by cases hk)) (fun h => h) (fun _ _ h => h)
theorem load_let (w : World) (g o : Nat) (C : List Value) (h : w.rangeAt g o C) (hc : C.length = 32) : (Instr.loadAt 51 (.pointer (some ⟨g, o, none⟩))).run Tryz.prog w = .ok (.agg C.toArray) w := by
  have h1 := run_loadVar_mid (P := Tryz.prog) w g o 51 C _ h Tryz.underlying51 rfl (by rw [hc]; kernel_rfl)
  simp only [Instr.loadAt, Instr.sureAddr, Sem.run_bind, Sem.run_pure, Result.andThen_ok, h1]
theorem BytesIn.range32 {F : Nat → Prop} {w : World} {g o n cap : Nat} {L : List UInt8} (h : BytesIn F w (.slice (some ⟨g, o, none⟩) n cap) L) : w.rangeAt g o ((L.take 32).map bv) := by
  obtain ⟨ao, c, hv, h1, h2, h3, h4⟩ := h
  simp only [Value.slice.injEq] at hv
  obtain ⟨rfl, rfl, rfl⟩ := hv
  intro j v hv
  have hj : j < ((L.take 32).map bv).length := (List.getElem?_eq_some_iff.1 hv).1
  rw [List.length_map, List.length_take] at hj
  have := (h4 _ rfl).1 j v (by rw [List.map_take] at hv; rw [← hv, List.getElem?_take_of_lt (by omega)])
  rw [addr_plain] at this
  exact this
theorem wpListIn_value_g {F : Fence} {n : Nat} {P : Program} {ops : Array Oper} {Q : Exit → Act → World → Prop} {rest : List Oper} {o : Oper} {a : Act} {w : World} (hF : WideF F) (hw : Region.wanted o (yielded ops a.tmps) = true) (hd : ∀ c, o.op ≠ .defer c) (v : Value) (w' : World) (h : (execOp a.eval o).run P w = .ok (.value v) w') (hK : wpListIn F n P ops Q rest (a.put o.dst v) w') : wpListIn F n P ops Q (o :: rest) a w := by
  unfold wpListIn
  rw [if_pos hw]
  exact wpIn_value hF hd v h hK
theorem op_load10 {P : Program} {w : World} {o : Oper} {a : Act} {t : TypeId} {x : Operand} {vx v : Value} (ho : o.op = .load t x) (hx : a.eval x = vx) (hr : (Instr.loadAt t vx).run P w = .ok v w) : (execOp a.eval o).run P w = .ok (.value v) w := by
  unfold execOp
  rw [ho]
  simp only [hx, Sem.run_bind, hr, Result.andThen_ok]
  rfl
def lenC : Option Value → Nat
  | some (.slice _ n _) => n
  | _ => 0
set_option maxRecDepth 100000 in
set_option maxHeartbeats 4000000 in
theorem all1_in {T F : Nat → Prop} (n0 : Nat) (l Bb : Nat) (v : Value) (b : List UInt8) (hb : b.length ≤ 1000000000) (hT1 : ¬ T Bb) (hT3 : ∀ k, F k → ¬ T k) (hF : ¬ F Bb) (J Jx : List Ls → World → Prop)
    (hJB : ∀ pre W u, J pre W → J pre (W.setCell ⟨Bb, 0, none⟩ u))
    (hY : ∀ pre x W, J pre W → pre.length < (winX b).length → YieldAt Fence.wide (n0 - 1) Tryz.prog l (encL x) W fun e W' =>
      (e = .returned (.bool true) ∧ J (pre ++ [x]) W' ∧ Fr T W W') ∨ (e = .returned (.bool false) ∧ Jx (pre ++ [x]) W'))
    (W : World) (hR : ItA F Bb v b W) (h0 : J [] W) :
    CallsIn Fence.wide n0 Tryz.prog 68 #[.func (.yield l) #[] #[], .pointer (some ⟨Bb, 0, none⟩)] W fun e W' => (∃ v, e = .returned v) ∧
      ((∃ ys, ys = winX b ∧ J ys W') ∨ (∃ pre, pre <+: winX b ∧ Jx pre W')) := by
  obtain ⟨X, hX⟩ : ∃ X, X = winX b := ⟨_, rfl⟩
  have hXl : X.length = b.length + 1 - 32 := by rw [hX, winX_length]; rfl
  have hXat := fun i (h : i < X.length) => show (X[i]).1 = (b.drop i).take 32 by subst hX; exact winX_at h
  rw [← hX] at hY
  rw [← hX]
  have hvf : ∃ ao cap, v = .slice ao b.length cap := by
    obtain ⟨ao, cap, hv, _⟩ := hR.byt
    exact ⟨ao, cap, hv⟩
  obtain ⟨ao, cap, rfl⟩ := hvf
  obtain ⟨n, hn⟩ : ∃ n, n = b.length := ⟨_, rfl⟩
  rw [← hn] at hb hR hXl
  have HR := Lib.hid hR
  have HY := Lib.hid hY
  have HJB := Lib.hid hJB
  have HT := Lib.hid (And.intro hT1 (And.intro hT3 hF))
  have HN := Lib.hid (And.intro hn (And.intro hXl hXat))
  clear hR hY hJB hT1 hT3 hF hn hX hXl hXat
  refine callsIn_of_wp Tryz.func68 rfl trivial ?_ rfl
  simp only [Tryz.ntmps68, List.size_toArray, List.length_cons, List.length_nil, Nat.reduceAdd, Nat.reduceSub, Array.replicate_succ, Array.replicate_zero, List.push_toArray, List.append_toArray, List.nil_append, List.cons_append]
  gi_wp2
  gi_loopw [3] (fun iv wr => ∃ (i : Nat) (ai : Option Addr) (ci : Nat), i ≤ n ∧ J (X.take i) wr ∧ Hid (ItA F Bb (.slice ai (n - i) ci) (b.drop i) wr ∧ i ≤ X.length)) (fun _ wr => lenC (wr.cell? ⟨Bb, 0, none⟩))
  case atStart => exact ⟨0, ao, cap, by omega, h0, Lib.hid ⟨HR.out, by omega⟩⟩
  case round =>
    clear h0
    obtain ⟨i, ai, ci, hi, hJs, hRr⟩ := hrel
    have hbx := cell_of_one hRr.out.1.box
    obtain ⟨m, hm⟩ : ∃ m, m = n - i := ⟨_, rfl⟩
    rw [← hm] at hbx
    have hbl : (b.drop i).length = m := by rw [List.length_drop, hm, HN.out.1]
    have hR1 := hRr.out
    rw [← hm] at hR1
    have HR1 := Lib.hid hR1
    clear hRr hR1
    by_cases h32 : 32 ≤ m
    · have hiX : i < X.length := by have := HN.out.2.1; omega
      obtain ⟨x, hx⟩ : ∃ x, x = X[i] := ⟨_, rfl⟩
      have hxv : x.1 = (b.drop i).take 32 := by rw [hx]; exact HN.out.2.2 i hiX
      have htk : X.take (i + 1) = X.take i ++ [x] := by rw [List.take_succ_eq_append_getElem hiX, hx]
      have hpl : (X.take i).length < X.length := by rw [List.length_take]; omega
      obtain ⟨fn, tmps, assign, body, hy, hRd⟩ := HY.out _ x wr hJs hpl
      obtain ⟨g, o, c', hv', -, -, -, hcel⟩ := HR1.out.1.byt.plain (fun e => by rw [e] at hbl; simp at hbl; omega)
      simp only [Value.slice.injEq] at hv'
      obtain ⟨rfl, -, rfl⟩ := hv'
      have har := run_arr wr (some ⟨g, o, none⟩) m ci h32
      have hld := load_let wr g o (x.1.map bv) (by rw [hxv]; exact HR1.out.1.byt.range32) (by rw [List.length_map]; exact x.2)
      simp only [encL] at hy
      have hd32 : decide ((32 : Int) ≤ (m : Int)) = true := by rw [decide_eq_true_iff]; omega
      have hi32 : (32 : Int) ≤ (m : Int) := by omega
      have HTK := Lib.hid (And.intro htk hm)
      clear hx hxv hpl htk hcel hm hJs
      gi_wp2_with (refine wpListIn_value_g .out (by simp [Region.wanted, yielded, Act.put]) (by intro c h; cases h) (.agg (ltC x.1)) wr (op_load10 rfl rfl hld) ?_)
      refine ⟨fun hx => WideF.out.free hx, hRd.mono ?_⟩
      rintro e W3 (⟨rfl, hJ3, hk3⟩ | ⟨rfl, hJx3⟩)
      · have hA3 := HR1.out.1.keep hk3 HT.out.1 HT.out.2.1
        have hc3 := cell_of_one hA3.box
        have hf3 := (one_cell hA3.box).2
        have hcl := run_cutLow W3 (some ⟨g, o, none⟩) m ci 1 (by omega)
        have hcl2 : (Instr.slice 22 (.slice (some ⟨g, o, none⟩) m ci) (some (.int .i64 1)) none none).run Tryz.prog W3 = .ok (.slice (cutLow (some ⟨g, o, none⟩) 1 ci) (m - 1) (ci - 1)) W3 := hcl
        obtain ⟨a4, ha4⟩ : ∃ a4, a4 = cutLow (some ⟨g, o, none⟩) 1 ci := ⟨_, rfl⟩
        rw [← ha4] at hcl2
        have hA4 : ItA F Bb (.slice a4 (m - 1) (ci - 1)) (b.drop (i + 1)) (W3.setCell ⟨Bb, 0, none⟩ (.slice a4 (m - 1) (ci - 1))) := by
          refine ⟨one_put hA3.box _, ?_⟩
          have h5 := hA3.byt.cutLow 1 (by rw [hbl]; omega)
          rw [List.drop_drop, ← ha4] at h5
          exact h5.keep (Fr.cell1 W3 Bb 0 _) (fun k _ hk e => HT.out.2.2 (by rw [← show k = Bb from e]; exact hk))
        have hJ4 := HJB.out _ W3 (.slice a4 (m - 1) (ci - 1)) hJ3
        have h6 := cell_of_one hA4.box
        have HA4 := Lib.hid hA4
        have H6 := Lib.hid h6
        have HBX := Lib.hid hbx
        clear hA3 hcl ha4 hA4 h6 hJ3 hk3 har hld hy hbl hbx
        gi_wp2
        go_roundw
        case rel => exact ⟨i + 1, a4, ci - 1, by have := HN.out.2.1; omega, by rw [HTK.out.1]; exact hJ4, Lib.hid ⟨by have h7 := HA4.out; rw [show m - 1 = n - (i + 1) by have := HTK.out.2; omega] at h7 ⊢; exact h7, by omega⟩⟩
        case measure =>
          rw [H6.out, HBX.out]
          simp only [lenC]
          omega
      · gi_wp2
        go_end0
        exact ⟨⟨_, rfl⟩, .inr ⟨_, by rw [← HTK.out.1]; exact List.take_prefix _ _, hJx3⟩⟩
    · have hX9 : X.length ≤ i := by have := HN.out.2.1; omega
      have hd32 : decide ((32 : Int) ≤ (m : Int)) = false := by rw [decide_eq_false_iff_not]; omega
      have hi32 : ¬ (32 : Int) ≤ (m : Int) := by omega
      clear hm
      gi_wp2
      refine ⟨fun _ h => (by cases h), ?_⟩
      gi_wp2
      go_end0
      exact ⟨⟨_, rfl⟩, .inl ⟨_, rfl, by rwa [List.take_of_length_le hX9] at hJs⟩⟩
end Go.Proofs.YtfkgdjoaoidkeaaGreat
namespace Go.Proofs.YtfkgdjoaoidkeaaGreat
open Go.RowKit Go.ChangeShapes
set_option linter.unusedVariables false
def SeqBox {α : Type} (n : Nat) (P : Program) (gf Bb : Nat) (lb : Array Value) (encs : α → Array Value) (T : Nat → Prop) (S Sp : List α → Prop) (N : Nat) (w : World) : Prop :=
  ∀ (l : Nat) (J Jx : List α → World → Prop) (W : World), Below w.heap.size w W → (∀ pre V u, J pre V → J pre (V.setCell ⟨Bb, 0, none⟩ u)) →
    (∀ pre x V, J pre V → pre.length < N → YieldAt Fence.wide (n - 1) P l (encs x) V fun e V' => (e = .returned (.bool true) ∧ J (pre ++ [x]) V' ∧ Fr T V V') ∨ (e = .returned (.bool false) ∧ Jx (pre ++ [x]) V')) →
    J [] W → CallsIn Fence.wide n P gf (#[.func (.yield l) #[] #[]] ++ lb) W fun e V => (∃ v, e = .returned v) ∧ ((∃ ys, S ys ∧ J ys V) ∨ (∃ pre, Sp pre ∧ Jx pre V))
theorem setCell_keeps {W : World} {Bb k : Nat} {u : Value} {o : Obj} (h : W.heap[k]? = some o) (hne : k ≠ Bb) : (W.setCell ⟨Bb, 0, none⟩ u).heap[k]? = some o := (Fr.cell1 W Bb 0 u).heap h hne
theorem wpIn_rangeBox {α : Type} {P : Program} {n : Nat} {g : Operand} {ps : Array Tmp} {assign body : Code} {Q : Exit → Act → World → Prop} {a : Act} {w : World}
    (h1 : 1 ≤ n) {gf Bb : Nat} {lb : Array Value} (hg : a.eval g = .func (.func gf) #[] lb) (eg : ∀ args w, (callFunc gf args).run P w = .ok (.enter gf args) w) (hBb : Bb < w.heap.size)
    {encs : α → Array Value} {T : Nat → Prop} {S Sp : List α → Prop} {N : Nat} (hseq : SeqBox (n - 1) P gf Bb lb encs T S Sp N w) (hT : ∀ k, w.heap.size ≤ k → T k) (hps : ∀ x, (encs x).size = ps.size)
    (I : List α → World → Prop) (Ix : Code → List α → World → Prop) (hI : OwnFrom w.heap.size I) (hIx : ∀ c, OwnFrom w.heap.size (Ix c)) (hIB : ∀ pre V u, I pre V → I pre (V.setCell ⟨Bb, 0, none⟩ u)) (h0 : I [] w)
    (Ax : α → Act → World → Prop) (hAx : ∀ x a', OwnFrom w.heap.size (fun (_ : Unit) W => Ax x a' W))
    (hassign : ∀ (l : Nat) (pre : List α) (x : α) (W : World) (K : Act → World → Prop), I pre W → (∀ a' W', KeepsFrom w.heap.size W W' → Fr T W W' → I pre W' → Ax x a' W' → K a' W') →
      assign.wpIn (Fence.wide.inRound l) (n - 1 - 1) P (Exit.then K (fun _ _ _ => False)) { tmps := (ps.zip (encs x)).foldl (fun t (p, v) => t.setIfInBounds p v) a.tmps, defers := [] } W)
    (hbody : ∀ (l : Nat) (pre : List α) (x : α) (a' : Act) (W : World), w.heap.size ≤ l → I pre W → Ax x a' W → pre.length < N → body.wpIn (Fence.wide.inRound l) (n - 1 - 1) P (ownPostG w.heap.size (Fr T) I Ix (pre ++ [x]) W) a' W)
    (hdone : ∀ (D : Nat) (xs : List α) (W : World), w.heap.size ≤ D → S xs → I xs W → W.heap[D]? = some (.deferred (some [])) → Q .normal { a with defers := { target := .collected D, args := #[] } :: a.defers } W)
    (hstop : ∀ (D : Nat) (c : Code) (pre : List α) (W : World), w.heap.size ≤ D → Sp pre → Ix c pre W → W.heap[D]? = some (.deferred (some [])) → c.wpIn Fence.wide n P Q { a with defers := { target := .collected D, args := #[] } :: a.defers } W) :
    (Code.rangeFunc g ps assign body).wpIn Fence.wide n P Q a w := by
  obtain ⟨z, hz⟩ : ∃ z, z = w.heap.size := ⟨_, rfl⟩
  refine wpIn_rangeFunc ?_
  intro fn hfn
  rw [show Fence.wide.round = none from rfl]
  obtain ⟨R, hR⟩ : ∃ R : LoopState → Option Code → Loop, R = fun st pe => { state := st, pending := pe, fn, tmps := a.tmps, params := ps, assign, body, defers := w.heap.size } := ⟨_, rfl⟩
  obtain ⟨W1, hW1⟩ : ∃ W1, W1 = (w.alloc (.deferred (some []))).alloc (.loop (R .ready none)) := ⟨_, rfl⟩
  have hd1 : W1.heap[z]? = some (.deferred (some [])) := by rw [hW1, hz]; exact heap_alloc2_old w _ _
  have hl1 : W1.heap[z + 1]? = some (.loop (R .ready none)) := by rw [hW1, hz]; exact heap_alloc2_new w _ _
  have hi1 : I [] W1 := by rw [hW1]; exact hI.alloc _ (hI.alloc _ h0)
  have hb1 : Below w.heap.size w W1 := by rw [hW1]; exact ((Below.refl _ w).alloc (Nat.le_refl _) _).alloc (by simp) _
  rw [← hz] at hBb hT hI hIx hassign hbody hdone hstop
  refine ⟨z + 1, [{ target := .collected z, args := #[] }], W1, { target := .fn (.func gf) lb, args := #[.func (.yield (z + 1)) #[] #[]] }, W1, gf, #[.func (.yield (z + 1)) #[] #[]] ++ lb, W1, ?_, ?_, ?_, ?_, fun _ => h1, ?_⟩
  · rw [hW1, hR, hz]
    exact run_enterLoop_outer _ _ _ _ _
  · simp only [resolve, hg]
    simp [go_sem]
  · intro f' hf'
    trivial
  · simp [invoke, go_sem, eg]
  · have hput : ∀ (V : World) (o o' : Obj), V.heap[z + 1]? = some o → o.isCells = false → o.isWalk = false → Fr T V (V.putObj (z + 1) o') := fun V o o' _ _ _ => fr_putObj V (z + 1) o' (hT _ (by omega))
    refine (hseq (z + 1) (fun pre V => I pre V ∧ V.heap[z + 1]? = some (.loop (R .ready none)) ∧ V.heap[z]? = some (.deferred (some [])))
      (fun pre V => ∃ c, Ix c pre V ∧ V.heap[z + 1]? = some (.loop (R .done (some c))) ∧ V.heap[z]? = some (.deferred (some []))) W1 hb1
      (fun pre V u h => ⟨hIB pre V u h.1, setCell_keeps h.2.1 (by omega), setCell_keeps h.2.2 (by omega)⟩) ?_ ⟨hi1, hl1, hd1⟩).mono ?_
    · rintro pre x V ⟨hi, hl, hk⟩ hlen
      have hy := run_yield (P := P) (args := encs x) hl (by rw [hR]; exact hps x)
      rw [hR] at hy
      refine ⟨fn, _, assign, body, hy, roundIn_of_wpIn hfn (hassign _ pre x V _ hi ?_)⟩
      intro a' Va hkf hkp hia hax
      have hla := hkf.same _ _ (by omega) hl rfl
      have hka := hkf.same _ _ (Nat.le_refl _) hk rfl
      have hlt := lt_of_block hla
      refine ⟨_, run_beginRound hla (by rw [hR]), ?_⟩
      obtain ⟨Vb, hVb⟩ : ∃ Vb, Vb = Va.putObj (z + 1) (.loop { R .ready none with state := .busy }) := ⟨_, rfl⟩
      have hlb : Vb.heap[z + 1]? = some (.loop { R .ready none with state := .busy }) := by rw [hVb]; exact World.putObj_heap_same hlt
      have hkb : Vb.heap[z]? = some (.deferred (some [])) := by rw [hVb]; exact (World.putObj_heap_other (by omega)).trans hka
      have hfb : Fr T Va Vb := by rw [hVb]; exact hput Va _ _ hla rfl rfl
      have hib : I pre Vb := by rw [hVb]; exact hI.putObj _ hia (by omega) hla rfl
      have haxb : Ax x a' Vb := by rw [hVb]; exact (hAx x a').putObj (s := ()) _ hax (by omega) hla rfl
      rw [← hVb]
      refine wpIn_mono (hbody _ pre x a' _ (by omega) hib haxb hlen) ?_
      have fin : ∀ (j : Option Code) (V3 : World), KeepsFrom z Vb V3 → ∃ V4, V4 = V3.putObj (z + 1) (.loop (R (if j.isNone then .ready else .done) j)) ∧ (Instr.endRound (z + 1) j).run P V3 = .ok (.bool j.isNone) V4 ∧
          V3.heap[z + 1]? = some (.loop { R .ready none with state := .busy }) ∧ V4.heap[z + 1]? = some (.loop (R (if j.isNone then .ready else .done) j)) ∧ V4.heap[z]? = some (.deferred (some [])) := fun j V3 hk3 => by
        have hl3 := hk3.same _ _ (by omega) hlb rfl
        have hr := run_endRound (P := P) j hl3
        refine ⟨_, rfl, ?_, hl3, World.putObj_heap_same (lt_of_block hl3), (World.putObj_heap_other (by omega)).trans (hk3.same _ _ (Nat.le_refl _) hkb rfl)⟩
        rw [hR] at hr ⊢
        exact hr
      rintro e a3 V3 hp
      cases e with
      | normal =>
        obtain ⟨hk3, hkp3, hi3⟩ := hp
        obtain ⟨V4, e4, hr, hl3, hl4, hk4⟩ := fin none V3 hk3
        refine ⟨_, _, hr, .inl ⟨rfl, ⟨by rw [e4]; exact hI.putObj _ hi3 (by omega) hl3 rfl, hl4, hk4⟩, ?_⟩⟩
        exact ((hkp.trans hfb (fun _ h => .inl h)).trans hkp3 (fun _ h => .inl h)).trans (by rw [e4]; exact hput V3 _ _ hl3 rfl rfl) (fun _ h => .inl h)
      | ret =>
        obtain ⟨hk3, hi3⟩ := hp
        obtain ⟨V4, e4, hr, hl3, hl4, hk4⟩ := fin (some .ret) V3 hk3
        exact ⟨_, _, hr, .inr ⟨rfl, .ret, by rw [e4]; exact (hIx _).putObj _ hi3 (by omega) hl3 rfl, hl4, hk4⟩⟩
      | exit id =>
        obtain ⟨hk3, hi3⟩ := hp
        obtain ⟨V4, e4, hr, hl3, hl4, hk4⟩ := fin (some (.exit id)) V3 hk3
        exact ⟨_, _, hr, .inr ⟨rfl, .exit id, by rw [e4]; exact (hIx _).putObj _ hi3 (by omega) hl3 rfl, hl4, hk4⟩⟩
      | goto t =>
        obtain ⟨hk3, hi3⟩ := hp
        obtain ⟨V4, e4, hr, hl3, hl4, hk4⟩ := fin (some (.goto t)) V3 hk3
        exact ⟨_, _, hr, .inr ⟨rfl, .goto t, by rw [e4]; exact (hIx _).putObj _ hi3 (by omega) hl3 rfl, hl4, hk4⟩⟩
      | panic ch => exact hp.elim
      | outgrown => exact hp.elim
    · rintro e V2 ⟨⟨v, rfl⟩, h⟩
      rcases h with ⟨xs, hS, hi, hl, hk⟩ | ⟨pre, hSp, c, hi, hl, hk⟩
      · have hr := run_endLoop (P := P) hl (by rw [hR]; simp)
        rw [hR] at hr
        exact ⟨none, _, hr, hdone _ xs _ (Nat.le_refl _) hS (hI.putObj _ hi (by omega) hl rfl) ((World.putObj_heap_other (by omega)).trans hk)⟩
      · have hr := run_endLoop (P := P) hl (by rw [hR]; simp)
        rw [hR] at hr
        exact ⟨some c, _, hr, hstop _ c pre _ (Nat.le_refl _) hSp ((hIx c).putObj _ hi (by omega) hl rfl) ((World.putObj_heap_other (by omega)).trans hk)⟩
theorem ItA.below {F : Nat → Prop} {Bb : Nat} {v : Value} {b : List UInt8} {w W : World} (h : ItA F Bb v b w) (hF : ∀ k, F k → k < w.heap.size) (hb : Below w.heap.size w W) : ItA F Bb v b W := by
  have h2 := lt_of_block h.box
  exact h.keep (Fr.ofBelow hb) (fun h => by omega) (fun k hk h => by have := hF k hk; omega)
theorem all_box {T F : Nat → Prop} (n0 Bb : Nat) (v : Value) (b : List UInt8) (hb : b.length ≤ 1000000000) (hT1 : ¬ T Bb) (hT3 : ∀ k, F k → ¬ T k) (hF0 : ¬ F Bb) (w : World) (hF : ∀ k, F k → k < w.heap.size) (hR : ItA F Bb v b w) :
    SeqBox n0 Tryz.prog 68 Bb #[.pointer (some ⟨Bb, 0, none⟩)] encL T (fun ys => ys = winX b) (fun pre => pre <+: winX b) (winX b).length w :=
  fun l J Jx W hW hJB hY h0 => all1_in n0 l Bb v b hb hT1 hT3 hF0 J Jx hJB hY W (hR.below hF hW) h0
end Go.Proofs.YtfkgdjoaoidkeaaGreat
namespace Go.Proofs.YtfkgdjoaoidkeaaGreat
open Go.RowKit Go.ChangeShapes Go.WideMaps Go.Maps
set_option linter.unusedVariables false
set_option maxRecDepth 100000 in
theorem mapM_some {α β : Type} {f : α → Option β} {g : α → β} : ∀ {l : List α}, (∀ x ∈ l, f x = some (g x)) → l.mapM f = some (l.map g)
  | [], _ => rfl
  | x :: l, h => by
    rw [List.mapM_cons, h x (by simp), mapM_some (l := l) (fun y hy => h y (by simp [hy]))]
    rfl
set_option maxRecDepth 100000 in
theorem keyLits_u8 (m : Nat) (x : UInt8) : Tryz.prog.keyLits (m + 1) 5 [bv x] = some [.int .u8 x.toNat] := by
  have hx := x.toNat_lt
  have hw : (Lit.int .u8 (x.toNat : Int)).wf = true := by simp [Lit.wf, IntKind.min, IntKind.max, IntKind.bits, IntKind.signed]; omega
  simp [Program.keyLits, Tryz.underlying5, bv, hw]
set_option maxRecDepth 100000 in
theorem keyLits_str (m : Nat) (s : ByteArray) (h : s.size ≤ maxLen) : Tryz.prog.keyLits (m + 1) 9 [.string s] = some [.string s.data.toList] := by
  simp [Program.keyLits, Tryz.underlying9, h]
set_option maxRecDepth 100000 in
theorem keyLits_hash (m : Nat) (H : List UInt8) (hH : H.length = 20) : Tryz.prog.keyLits (m + 2) 24 (H.map bv) = some ((List.range 20).map fun i => [Lit.int .u8 (H.getD i 0).toNat]).flatten := by
  have e : (List.range 20).mapM (fun i => Tryz.prog.keyLits (m + 1) 5 (((H.map bv).drop (i * Tryz.prog.cellsOf 5)).take (Tryz.prog.cellsOf 5))) = some ((List.range 20).map fun i => [Lit.int .u8 (H.getD i 0).toNat]) := by
    refine mapM_some (fun i hi => ?_)
    have hi := List.mem_range.1 hi
    rw [Tryz.cellsB, Nat.mul_one, List.drop_eq_getElem_cons (by rw [List.length_map]; omega)]
    simp only [List.take_succ_cons, List.take_zero, List.getElem_map]
    rw [keyLits_u8, List.getD_eq_getElem?_getD, List.getElem?_eq_getElem (by omega), Option.getD_some]
  unfold Program.keyLits
  simp only [Tryz.underlying24]
  rw [if_pos (by rw [Tryz.cellsH, List.length_map, hH]), e]
  rfl
def litsX (x : PathX) : List Lit := ((List.range 20).map fun i => [Lit.int .u8 (x.h.getD i 0).toNat]).flatten ++ [Lit.string x.n.data.toList]
set_option maxRecDepth 100000 in
theorem keyLits_path (m : Nat) (x : PathX) (h : x.n.size ≤ maxLen) : Tryz.prog.keyLits (m + 3) 27 (cellsX x) = some (litsX x) := by
  obtain ⟨f1, f2, hf, a, b⟩ := two_of_map path_fields
  simp only [Prod.mk.injEq] at a b
  obtain ⟨n1, t1, o1⟩ := a
  obtain ⟨n2, t2, o2⟩ := b
  have hu : Tryz.prog.underlying 27 = some (.struct (Tryz.prog.fieldsOf 27)) := by kernel_rfl
  have hall : (Tryz.prog.fieldsOf 27).all (·.name != "_") = true := by kernel_rfl
  have e1 : (cellsX x).take 20 = x.h.map bv := by
    rw [cellsX, List.take_append_of_le_length (by simp [x.hl]), List.take_of_length_le (by simp [x.hl])]
  have e2 : ((cellsX x).drop 20).take 1 = [.string x.n] := by
    rw [cellsX, List.drop_append, List.length_map, x.hl, List.drop_eq_nil_of_le (by simp [x.hl])]
    rfl
  have e : (Tryz.prog.fieldsOf 27).toList.mapM (fun f => Tryz.prog.keyLits (m + 2) f.type (((cellsX x).drop f.offset).take (Tryz.prog.cellsOf f.type))) = some [((List.range 20).map fun i => [Lit.int .u8 (x.h.getD i 0).toNat]).flatten, [.string x.n.data.toList]] := by
    rw [hf, List.mapM_cons, List.mapM_cons, List.mapM_nil, t1, t2, o1, o2, Tryz.cellsH, Tryz.cellsS, List.drop_zero, e1, e2, keyLits_hash m x.h x.hl, keyLits_str (m + 1) x.n h]
    rfl
  unfold Program.keyLits
  rw [hu]
  simp only []
  rw [if_pos ⟨by rw [Tryz.cellsP, cellsX_length], hall⟩, e]
  simp [litsX]
def keyX (x : PathX) : Lit := .string (keyBytes (litsX x))
set_option maxRecDepth 100000 in
theorem keyX_of (x : PathX) (h : x.n.size ≤ maxLen) : keyOf Tryz.prog 27 (.agg (pathC x.h x.n)) = some (keyX x) ∧ ∃ b, keyX x = .string b := by
  obtain ⟨m, hm⟩ : ∃ m, Tryz.prog.types.size + 1 = m + 3 := by
    have : 2 ≤ Tryz.prog.types.size := Nat.le_of_ble_eq_true (by kernel_rfl)
    exact ⟨Tryz.prog.types.size - 2, by omega⟩
  have hl := keyLits_path m x h
  have hu : Tryz.prog.underlying 27 = some (.struct (Tryz.prog.fieldsOf 27)) := by kernel_rfl
  have hk : Tryz.prog.keyType 27 = true := by kernel_rfl
  have hfm : Value.formed Tryz.prog 27 (.agg (pathC x.h x.n)) = true := by
    simp only [Value.formed, hu]
    rw [Tryz.cellsP, pathC_size x.h x.hl]
    rfl
  have e : keyOf Tryz.prog 27 (.agg (pathC x.h x.n)) = some (keyX x) := by
    unfold keyOf
    rw [hu]
    simp only []
    rw [hk, hfm, hm]
    simp only [Bool.and_self, if_true]
    have hc : (Value.agg (pathC x.h x.n)).cells.toList = cellsX x := rfl
    rw [hc, hl]
    rfl
  exact ⟨e, _, rfl⟩
set_option maxRecDepth 100000 in
theorem keyX_inj (x y : PathX) (hx : x.n.size ≤ maxLen) (hy : y.n.size ≤ maxLen) (h : keyX x = keyX y) : x = y := by
  have h1 := (keyX_of x hx).1
  have h2 := (keyX_of y hy).1
  rw [h] at h1
  have h3 := lawP.inj h1 h2
  injection h3 with h3
  have h4 := congrArg Array.toList h3
  simp only [pathC] at h4
  obtain ⟨a, b⟩ := List.append_inj h4 (by simp [x.hl, y.hl])
  refine PathX.ext ?_ (by simpa using b)
  refine List.map_inj_right (fun u v huv => ?_) |>.1 a
  have : (u.toNat : Int) = v.toNat := by
    injection huv
  exact UInt8.toNat_inj.1 (by omega)
set_option maxRecDepth 100000 in
theorem has_set (O : List PathX) (x : PathX) (hO : ∀ y ∈ O, y.n.size ≤ maxLen) (hx : x.n.size ≤ maxLen) : Maps.has (setOf (DataW.agg [] : DataW Unit) (O.map keyX)) (keyX x) = decide (x ∈ O) := by
  rw [has_setOf _ _ _ (fun l hl => by
    obtain ⟨y, hy, rfl⟩ := List.mem_map.1 hl
    obtain ⟨b, hb⟩ := (keyX_of y (hO y hy)).2
    rw [hb]
    trivial)]
  rw [Bool.eq_iff_iff, List.any_eq_true, decide_eq_true_iff]
  constructor
  · rintro ⟨l, hl, hs⟩
    obtain ⟨y, hy, rfl⟩ := List.mem_map.1 hl
    by_cases e : keyX y = keyX x
    · rw [← keyX_inj y x (hO y hy) hx e]
      exact hy
    · rw [sameKey_ne e] at hs
      cases hs
  · intro h
    refine ⟨keyX x, List.mem_map_of_mem h, ?_⟩
    obtain ⟨b, hb⟩ := (keyX_of x hx).2
    rw [hb]
    simp [Lit.sameKey]
def onceX : List PathX → List PathX → List PathX
  | O, [] => O
  | O, x :: l => onceX (if x ∈ O then O else O ++ [x]) l
def onceK (L : List PathX) (k : Nat) : List PathX := onceX [] (L.take k)
set_option maxRecDepth 100000 in
theorem onceX_snoc (O l : List PathX) (x : PathX) : onceX O (l ++ [x]) = (if x ∈ onceX O l then onceX O l else onceX O l ++ [x]) := by
  induction l generalizing O with
  | nil => rfl
  | cons y l ih => rw [List.cons_append, onceX, onceX, ih]
set_option maxRecDepth 100000 in
theorem onceK_succ (L : List PathX) (k : Nat) (h : k < L.length) : onceK L (k + 1) = (if L[k] ∈ onceK L k then onceK L k else onceK L k ++ [L[k]]) := by
  rw [onceK, onceK, List.take_succ_eq_append_getElem h, onceX_snoc]
set_option maxRecDepth 100000 in
theorem onceX_mem (O l : List PathX) (x : PathX) : x ∈ onceX O l ↔ x ∈ O ∨ x ∈ l := by
  induction l generalizing O with
  | nil => simp [onceX]
  | cons y l ih =>
    rw [onceX, ih]
    by_cases h : y ∈ O
    · rw [if_pos h, List.mem_cons]
      constructor
      · rintro (a | a)
        · exact .inl a
        · exact .inr (.inr a)
      · rintro (a | rfl | a)
        · exact .inl a
        · exact .inl h
        · exact .inr a
    · rw [if_neg h, List.mem_append, List.mem_singleton, List.mem_cons, or_assoc]
set_option maxRecDepth 100000 in
theorem onceK_mem (L : List PathX) (k : Nat) (x : PathX) : x ∈ onceK L k ↔ x ∈ L.take k := by simp [onceK, onceX_mem]
set_option maxRecDepth 100000 in
theorem onceX_nodup (O l : List PathX) (h : O.Nodup) : (onceX O l).Nodup := by
  induction l generalizing O with
  | nil => exact h
  | cons y l ih =>
    rw [onceX]
    refine ih _ ?_
    by_cases hy : y ∈ O
    · rw [if_pos hy]; exact h
    · rw [if_neg hy]
      exact List.nodup_append.2 ⟨h, by simp, fun a ha b hb => by
        obtain rfl := List.mem_singleton.1 hb
        rintro rfl
        exact hy ha⟩
set_option maxRecDepth 100000 in
theorem onceK_nodup (L : List PathX) (k : Nat) : (onceK L k).Nodup := onceX_nodup _ _ List.nodup_nil
set_option maxRecDepth 100000 in
theorem onceK_length (L : List PathX) (k : Nat) : (onceK L k).length ≤ k := by
  induction k with
  | zero => simp [onceK, onceX]
  | succ k ih =>
    by_cases h : k < L.length
    · rw [onceK_succ L k h]
      split
      · omega
      · rw [List.length_append, List.length_singleton]; omega
    · rw [onceK, List.take_of_length_le (by omega)]
      rw [onceK, List.take_of_length_le (by omega)] at ih
      omega
end Go.Proofs.YtfkgdjoaoidkeaaGreat
