/- Laid together: VAw -/
import Derived.Test.YtdpaobflknkbkaaVe16
import Derived.Test.YtdpaobflknkbkaaVe11
import Derived.Test.YtdpaobflknkbkaaVe13
import Derived.Test.YtdpaobflknkbkaaVe1
import Derived.Deep.MidRow

namespace Go.Proofs.Ytdpaobflknkbkaa
open Go.RowKit Go.ChangeShapes
set_option linter.unusedVariables false
def pL : Array Value := #[.int .u8 0, .int .u8 0, .int .u8 0, .int .u8 0, .int .u8 0, .int .u8 0, .int .u8 0, .int .u8 0, .int .u8 0, .int .u8 0, .int .u8 0, .int .u8 0, .int .u8 0, .int .u8 0, .int .u8 0, .int .u8 0, .int .u8 0, .int .u8 0, .int .u8 0, .int .u8 0, .string ⟨#[112]⟩]
def qL : Array Value := #[.int .u8 0, .int .u8 0, .int .u8 0, .int .u8 0, .int .u8 0, .int .u8 0, .int .u8 0, .int .u8 0, .int .u8 0, .int .u8 0, .int .u8 0, .int .u8 0, .int .u8 0, .int .u8 0, .int .u8 0, .int .u8 0, .int .u8 0, .int .u8 0, .int .u8 0, .int .u8 0, .string ⟨#[113]⟩]
def xP : PathX := ⟨List.replicate 20 0, ⟨#[112]⟩, rfl⟩
def xQ : PathX := ⟨List.replicate 20 0, ⟨#[113]⟩, rfl⟩
theorem pL_eq : pathC xP.h xP.n = pL := by kernel_rfl
theorem qL_eq : pathC xQ.h xQ.n = qL := by kernel_rfl
theorem pL21 : pL.size = 21 := rfl
theorem qL21 : qL.size = 21 := rfl
theorem op_bP (o : Oper) (a : Act) (w : World) (h : o.op = .build 43 #[(1, .const (.string ⟨#[112]⟩))]) : (execOp a.eval o).run Try.prog w = .ok (.value (.agg pL)) w := by
  unfold execOp
  rw [h]
  kernel_rfl
theorem op_bQ (o : Oper) (a : Act) (w : World) (h : o.op = .build 43 #[(1, .const (.string ⟨#[113]⟩))]) : (execOp a.eval o).run Try.prog w = .ok (.value (.agg qL)) w := by
  unfold execOp
  rw [h]
  kernel_rfl
theorem op_aP (o : Oper) (a : Act) (w : World) (h : o.op = .alloc 43) : (execOp a.eval o).run Try.prog w = .ok (.value (.pointer (some ⟨w.heap.size, 0, none⟩))) (w.alloc (.cells zC 43)) := by
  unfold execOp
  rw [h]
  kernel_rfl
structure AwL (w2 wa wb wc W3 : World) (g3 g4 : Nat) : Prop where
  a1 : ∀ (o : Oper) (a : Act), o.op = .alloc 43 → (execOp a.eval o).run Try.prog w2 = .ok (.value (.pointer (some ⟨g3, 0, none⟩))) wa
  a2 : ∀ (o : Oper) (a : Act), o.op = .alloc 43 → (execOp a.eval o).run Try.prog wa = .ok (.value (.pointer (some ⟨g4, 0, none⟩))) wb
  s1 : ∀ {ops : Array Oper} {rest : List Oper} {o : Oper} {a : Act} {Q : Exit → Act → World → Prop} (_ : o.guard = none) (x y : Operand) (_ : o.op = .store 43 x y) (_ : a.eval x = .pointer (some ⟨g3, 0, none⟩)) (_ : a.eval y = .agg pL) (_ : wpList Try.prog ops Q rest (a.put o.dst undef) wc), wpList Try.prog ops Q (o :: rest) a wb
  s2 : ∀ {ops : Array Oper} {rest : List Oper} {o : Oper} {a : Act} {Q : Exit → Act → World → Prop} (_ : o.guard = none) (x y : Operand) (_ : o.op = .store 43 x y) (_ : a.eval x = .pointer (some ⟨g4, 0, none⟩)) (_ : a.eval y = .agg qL) (_ : wpList Try.prog ops Q rest (a.put o.dst undef) W3), wpList Try.prog ops Q (o :: rest) a wc
  p3 : W3.heap[g3]? = some (.cells pL 43 (0, 0))
  p4 : W3.heap[g4]? = some (.cells qL 43 (0, 0))
  fr : Fr (fun _ => False) w2 W3
  ge : g3 = w2.heap.size ∧ g4 = w2.heap.size + 1
theorem aw_lay (w2 : World) : ∃ wa wb wc W3 g3 g4, AwL w2 wa wb wc W3 g3 g4 := by
  have hsa : (w2.alloc (.cells zC 43)).heap.size = w2.heap.size + 1 := by
    show (w2.heap.push _).size = _
    simp
  have h3 : ((w2.alloc (.cells zC 43)).alloc (.cells zC 43)).heap[w2.heap.size]? = some (.cells zC 43 (0, 0)) := by
    rw [heap_alloc_old _ _ (by rw [hsa]; exact Nat.lt_succ_self _)]
    exact heap_alloc_new w2 _
  have h4 : ((w2.alloc (.cells zC 43)).alloc (.cells zC 43)).heap[w2.heap.size + 1]? = some (.cells zC 43 (0, 0)) := by
    rw [← hsa]
    exact heap_alloc_new _ _
  have hip : (Try.prog.info? 43).map (·.size) = some pL.size := by kernel_rfl
  have hiq : (Try.prog.info? 43).map (·.size) = some qL.size := by kernel_rfl
  have hzp : zC.size = pL.size := by kernel_rfl
  have hzq : zC.size = qL.size := by kernel_rfl
  have h1p : pL.all (·.oneCell') = true := by kernel_rfl
  have h1q : qL.all (·.oneCell') = true := by kernel_rfl
  have k3 := setRow_heap _ _ _ pL _ _ h3
  have fr1 : Fr (fun k => k = w2.heap.size) ((w2.alloc (.cells zC 43)).alloc (.cells zC 43)) (((w2.alloc (.cells zC 43)).alloc (.cells zC 43)).setRow w2.heap.size pL) := (Fr.refl (fun k => k = w2.heap.size) _).setRow (.inl rfl) _
  have k4 := fr1.heap h4 (by omega)
  have m4 := setRow_heap _ _ _ qL _ _ k4
  have fr2 : Fr (fun k => k = w2.heap.size + 1) (((w2.alloc (.cells zC 43)).alloc (.cells zC 43)).setRow w2.heap.size pL) ((((w2.alloc (.cells zC 43)).alloc (.cells zC 43)).setRow w2.heap.size pL).setRow (w2.heap.size + 1) qL) := (Fr.refl (fun k => k = w2.heap.size + 1) _).setRow (.inl rfl) _
  have m3 := fr2.heap k3 (by omega)
  refine ⟨w2.alloc (.cells zC 43), (w2.alloc (.cells zC 43)).alloc (.cells zC 43), ((w2.alloc (.cells zC 43)).alloc (.cells zC 43)).setRow w2.heap.size pL, (((w2.alloc (.cells zC 43)).alloc (.cells zC 43)).setRow w2.heap.size pL).setRow (w2.heap.size + 1) qL, w2.heap.size, w2.heap.size + 1, ⟨fun o a h => op_aP o a w2 h, fun o a h => ?_, ?_, ?_, m3, m4, ?_, rfl, rfl⟩⟩
  · rw [op_aP o a _ h, hsa]
  · intro ops rest o a Q hg x y ho hx hy hk
    exact Go.Proofs.Ytdpaobflknkbkaa.wpList_store_row hg 43 x y ho w2.heap.size pL zC 43 hx hy h3 hip hzp h1p hk
  · intro ops rest o a Q hg x y ho hx hy hk
    exact Go.Proofs.Ytdpaobflknkbkaa.wpList_store_row hg 43 x y ho (w2.heap.size + 1) qL zC 43 hx hy k4 hiq hzq h1q hk
  · exact ((((Fr.refl _ _).alloc _).alloc _).setRow (.inr (Nat.le_refl _)) _).setRow (.inr (Nat.le_succ _)) _
def aw0 : VS := ⟨[⟨0, 0, 1, 0⟩], fun _ => [], fun _ => []⟩
def aw1 : VS := rootS aw0 1 [97] xP
def aw2 : VS := rootS aw1 1 [98] xP
def aw3 : VS := rootS aw2 1 [97] xQ
def awN (f : Nat → Bool) : Nat := if f 17 = true then 3 else if f 11 = true then 2 else if f 5 = true then 1 else 0
def awS : Nat → VS
  | 0 => aw0
  | 1 => aw1
  | 2 => aw2
  | _ => aw3
theorem aw_e1 : rootE aw0 1 [97] xP = 0 := by decide +kernel
theorem aw_e2 : rootE aw1 1 [98] xP = 8 := by decide +kernel
theorem aw_e3 : rootE aw2 1 [97] xQ = 0 := by decide +kernel
theorem aw_r3 : aw3.R 1 = [([97], xQ)] := by decide +kernel
theorem aw_u3 : isUser aw3 1 := by decide +kernel
def levA (i : Nat) : Nat := if i ≤ 5 then 0 else if i ≤ 11 then 1 else if i ≤ 17 then 2 else 3
def lvA (j : Nat) : Nat := if j < 5 then 0 else if j < 11 then 1 else if j < 17 then 2 else 3
structure AwB (w0 : World) (A : VA) (g3 g4 : Nat) (f : Nat → Bool) (W : World) : Prop where
  p3 : W.heap[g3]? = some (.cells pL 43 (0, 0))
  p4 : W.heap[g4]? = some (.cells qL 43 (0, 0))
  vw : VwAt (fun _ => False) W A (awN f) (awS (awN f))
  ne : g3 ≠ A.tr ∧ g3 ≠ A.mr ∧ g4 ≠ A.tr ∧ g4 ≠ A.mr
  clo : ∀ i, f i = true → (1 ≤ levA i → f 5 = true) ∧ (2 ≤ levA i → f 11 = true) ∧ (3 ≤ levA i → f 17 = true)
  fr : Fr (fun k => k = A.tr ∨ k = A.mr) w0 W
def RtsOk (A : VA) (v : Value) (W : World) : Prop := ∃ g c, v = .slice (some ⟨g, 0, none⟩) 1 c ∧ (g ≠ A.tr ∧ g ≠ A.mr) ∧ W.rangeAt g 0 (rtC ([97], xQ))
theorem Fr.range9 {S : Nat → Prop} {w w' : World} {b o : Nat} {cs : List Value} (hf : Fr S w w') (h : w.rangeAt b o cs) (hb : ¬ S b) : w'.rangeAt b o cs := fun j v hv => hf.cell (h j v hv) hb
theorem RtsOk.ext {A : VA} {v : Value} {W W' : World} (hf : Fr (fun k => k = A.tr ∨ k = A.mr) W W') (h : RtsOk A v W) : RtsOk A v W' := by
  obtain ⟨g, c, h1, h2, h3⟩ := h
  exact ⟨g, c, h1, h2, Fr.range9 hf h3 (fun e => e.elim h2.1 h2.2)⟩
theorem load_root_path (W : World) (g : Nat) (h : W.rangeAt g 0 (rtC ([97], xQ))) : (Instr.loadAt 43 (.pointer (some ⟨g, 1, none⟩))).run Try.prog W = .ok (.agg qL) W := by
  have h1 : W.rangeAt g 1 (cellsX xQ) := fun j v hv => by
    have := h (j + 1) v (by rw [rtC, List.getElem?_cons_succ]; exact hv)
    rw [show 0 + (j + 1) = 1 + j by omega] at this
    exact this
  have := run_loadAt_mid (P := Try.prog) W g 1 43 (cellsX xQ) _ h1 Try.underlying43 rfl (by rw [cellsX_length]; kernel_rfl)
  rw [this, ← qL_eq]
  rfl
theorem eqlQ (W : World) : (binOp .eql 43 (.agg qL) (.agg qL)).run Try.prog W = .ok (.bool true) W := by
  rw [← qL_eq, run_eql_path W xQ.h xQ.n xQ.h xQ.n xQ.hl xQ.hl, sameP_refl]
theorem guard_int9 (w : World) (op : BinOp) (T : TypeId) (k : IntKind) (x y : Operand) (A Bb : Int) : (eqGuard op T x y (.int k A) (.int k Bb)).run Try.prog w = .ok () w := by cases op <;> rfl
theorem op_lenRt {w : World} {o : Oper} {a : Act} {x : Operand} {ao : Option Addr} {n cap : Nat} (ho : o.op = .call { callee := .builtin .len, args := #[x], argTypes := #[58] }) (hx : a.eval x = .slice ao n cap) :
    (execOp a.eval o).run Try.prog w = .ok (.value (.int .i64 n)) w := by
  obtain ⟨d, op, ty, pos, aft, g⟩ := o
  simp only at ho
  subst ho
  simp [execOp, resolve, invoke, builtin, Builtin.len_, hx, Result.andThen, goInt]
theorem idxRt (W : World) (g c : Nat) : (Instr.indexAt 58 (.slice (some ⟨g, 0, none⟩) 1 c) (.int .i64 0)).run Try.prog W = .ok (.pointer (some ⟨g, 0, none⟩)) W := by
  simp [Instr.indexAt, Addr.add, asIntOf]
theorem fldRt (W : World) (g : Nat) : (Instr.fieldAt 66 (.pointer (some ⟨g, 0, none⟩)) 1).run Try.prog W = .ok (.pointer (some ⟨g, 1, none⟩)) W := by kernel_rfl
theorem ent_Root9 (args : Array Value) (w : World) : (callFunc 31 args).run Try.prog w = .ok (.enter 31 args) w := by kernel_rfl
theorem ent_Roots9 (args : Array Value) (w : World) : (callFunc 23 args).run Try.prog w = .ok (.enter 23 args) w := by kernel_rfl
section
variable {w0 : World} {A : VA} {g3 g4 : Nat} {f : Nat → Bool} {W : World}
theorem AwB.lv (h : AwB w0 A g3 g4 f W) {j : Nat} (hj : f j = true) : (1 ≤ lvA j → f 5 = true) ∧ (2 ≤ lvA j → f 11 = true) ∧ (3 ≤ lvA j → f 17 = true) := by
  have hc := h.clo j hj
  by_cases e5 : j = 5
  · subst e5; exact ⟨fun _ => hj, fun h => absurd h (by decide), fun h => absurd h (by decide)⟩
  by_cases e11 : j = 11
  · subst e11; exact ⟨fun _ => hc.1 (by decide), fun _ => hj, fun h => absurd h (by decide)⟩
  by_cases e17 : j = 17
  · subst e17; exact ⟨fun _ => hc.1 (by decide), fun _ => hc.2.1 (by decide), fun _ => hj⟩
  have e : lvA j = levA j := by
    unfold lvA levA
    repeat' split
    all_goals omega
  rw [e]
  exact hc
theorem clo_put (hc : ∀ i, f i = true → (1 ≤ levA i → f 5 = true) ∧ (2 ≤ levA i → f 11 = true) ∧ (3 ≤ levA i → f 17 = true)) {i : Nat} (hi : (1 ≤ levA i → f 5 = true) ∧ (2 ≤ levA i → f 11 = true) ∧ (3 ≤ levA i → f 17 = true)) :
    ∀ k, (fun k => if k = i then true else f k) k = true → (1 ≤ levA k → (fun k => if k = i then true else f k) 5 = true) ∧ (2 ≤ levA k → (fun k => if k = i then true else f k) 11 = true) ∧ (3 ≤ levA k → (fun k => if k = i then true else f k) 17 = true) := by
  have up : ∀ m, f m = true → (fun k => if k = i then true else f k) m = true := fun m hm => by
    show (if m = i then true else f m) = true
    split
    · rfl
    · exact hm
  intro k hk
  by_cases e : k = i
  · subst e; exact ⟨fun h => up _ (hi.1 h), fun h => up _ (hi.2.1 h), fun h => up _ (hi.2.2 h)⟩
  · have hk' : f k = true := by simpa [e] using hk
    have := hc k hk'
    exact ⟨fun h => up _ (this.1 h), fun h => up _ (this.2.1 h), fun h => up _ (this.2.2 h)⟩
theorem awN_put {i : Nat} (h : i ≠ 5 ∧ i ≠ 11 ∧ i ≠ 17) : awN (fun k => if k = i then true else f k) = awN f := by
  unfold awN
  simp only [if_neg (Ne.symm h.1), if_neg (Ne.symm h.2.1), if_neg (Ne.symm h.2.2)]
theorem AwB.pure (h : AwB w0 A g3 g4 f W) {i j : Nat} (hj : f j = true) (h1 : levA i ≤ lvA j) (h2 : i ≠ 5 ∧ i ≠ 11 ∧ i ≠ 17) : AwB w0 A g3 g4 (fun k => if k = i then true else f k) W := by
  have hl := h.lv hj
  refine ⟨h.p3, h.p4, ?_, h.ne, clo_put h.clo ⟨fun e => hl.1 (Nat.le_trans e h1), fun e => hl.2.1 (Nat.le_trans e h1), fun e => hl.2.2 (Nat.le_trans e h1)⟩, h.fr⟩
  rw [awN_put h2]
  exact h.vw
theorem AwB.pure0 (h : AwB w0 A g3 g4 f W) {i : Nat} (h1 : levA i = 0) (h2 : i ≠ 5 ∧ i ≠ 11 ∧ i ≠ 17) : AwB w0 A g3 g4 (fun k => if k = i then true else f k) W := by
  refine ⟨h.p3, h.p4, ?_, h.ne, clo_put h.clo ⟨fun e => absurd e (by omega), fun e => absurd e (by omega), fun e => absurd e (by omega)⟩, h.fr⟩
  rw [awN_put h2]
  exact h.vw
theorem AwB.p3' {S : Nat → Prop} {W' : World} (h : AwB w0 A g3 g4 f W) (hf : Fr (fun k => k = A.tr ∨ k = A.mr) W W') : W'.heap[g3]? = some (.cells pL 43 (0, 0)) ∧ W'.heap[g4]? = some (.cells qL 43 (0, 0)) :=
  ⟨hf.heap h.p3 (fun e => e.elim h.ne.1 h.ne.2.1), hf.heap h.p4 (fun e => e.elim h.ne.2.2.1 h.ne.2.2.2)⟩
theorem awN_0 (h : AwB w0 A g3 g4 f W) (hfi : f 5 = false) : awN f = 0 := by
  have h17 : f 17 = false := by
    cases e : f 17 with
    | false => rfl
    | true => have := (h.clo 17 e).1 (by decide); rw [hfi] at this; cases this
  have h11 : f 11 = false := by
    cases e : f 11 with
    | false => rfl
    | true => have := (h.clo 11 e).1 (by decide); rw [hfi] at this; cases this
  unfold awN
  rw [h17, h11, hfi]
  rfl
theorem awN_1 (h : AwB w0 A g3 g4 f W) (hfi : f 11 = false) (h5 : f 5 = true) : awN f = 1 := by
  have h17 : f 17 = false := by
    cases e : f 17 with
    | false => rfl
    | true => have := (h.clo 17 e).2.1 (by decide); rw [hfi] at this; cases this
  unfold awN
  rw [h17, hfi, h5]
  rfl
theorem awN_2 (hfi : f 17 = false) (h11 : f 11 = true) : awN f = 2 := by
  unfold awN
  rw [hfi, h11]
  rfl
theorem AwB.root1 (h : AwB w0 A g3 g4 f W) (hfi : f 5 = false) (hg : f 2 = true) : Calls Try.prog 31 #[.pointer (some ⟨A.vb, 0, none⟩), .int .i64 1, .string ⟨#[97]⟩, .agg pL] W fun e W' => ∃ v, e = .returned v ∧ (v = .int .i64 0 ∧ AwB w0 A g3 g4 (fun k => if k = 5 then true else f k) W' ∧ Fr (fun k => k = A.tr ∨ k = A.mr) W W') := by
  have hn := awN_0 h hfi
  have hv := h.vw
  rw [hn] at hv
  have hr := root_any hv (by decide) 1 ⟨#[97]⟩ (by decide) xP (by decide)
  rw [pL_eq] at hr
  refine hr.mono ?_
  rintro e W' ⟨rfl, h1, h2⟩
  refine ⟨_, rfl, congrArg _ aw_e1, ⟨(h.p3' (S := fun _ => False) h2).1, (h.p3' (S := fun _ => False) h2).2, ?_, h.ne, clo_put h.clo ⟨fun e => absurd e (by decide), fun e => absurd e (by decide), fun e => absurd e (by decide)⟩, h.fr.trans h2 (fun _ h => .inl h)⟩, h2⟩
  have e1 : awN (fun k => if k = 5 then true else f k) = 1 := by
    have h17 : f 17 = false := by
      cases e : f 17 with
      | false => rfl
      | true => have := (h.clo 17 e).1 (by decide); rw [hfi] at this; cases this
    have h11 : f 11 = false := by
      cases e : f 11 with
      | false => rfl
      | true => have := (h.clo 11 e).1 (by decide); rw [hfi] at this; cases this
    simp [awN, h17, h11]
  rw [e1]
  exact h1
theorem AwB.root2 (h : AwB w0 A g3 g4 f W) (hfi : f 11 = false) (hg : f 8 = true) : Calls Try.prog 31 #[.pointer (some ⟨A.vb, 0, none⟩), .int .i64 1, .string ⟨#[98]⟩, .agg pL] W fun e W' => ∃ v, e = .returned v ∧ (v = .int .i64 8 ∧ AwB w0 A g3 g4 (fun k => if k = 11 then true else f k) W' ∧ Fr (fun k => k = A.tr ∨ k = A.mr) W W') := by
  have h5 : f 5 = true := (h.clo 8 hg).1 (by decide)
  have hn := awN_1 h hfi h5
  have hv := h.vw
  rw [hn] at hv
  have hr := root_any hv (by decide) 1 ⟨#[98]⟩ (by decide) xP (by decide)
  rw [pL_eq] at hr
  refine hr.mono ?_
  rintro e W' ⟨rfl, h1, h2⟩
  refine ⟨_, rfl, congrArg _ aw_e2, ⟨(h.p3' (S := fun _ => False) h2).1, (h.p3' (S := fun _ => False) h2).2, ?_, h.ne, clo_put h.clo ⟨fun _ => h5, fun e => absurd e (by decide), fun e => absurd e (by decide)⟩, h.fr.trans h2 (fun _ h => .inl h)⟩, h2⟩
  have e1 : awN (fun k => if k = 11 then true else f k) = 2 := by
    have h17 : f 17 = false := by
      cases e : f 17 with
      | false => rfl
      | true => have := (h.clo 17 e).2.1 (by decide); rw [hfi] at this; cases this
    simp [awN, h17]
  rw [e1]
  exact h1
theorem AwB.root3 (h : AwB w0 A g3 g4 f W) (hfi : f 17 = false) (hg : f 14 = true) : Calls Try.prog 31 #[.pointer (some ⟨A.vb, 0, none⟩), .int .i64 1, .string ⟨#[97]⟩, .agg qL] W fun e W' => ∃ v, e = .returned v ∧ (v = .int .i64 0 ∧ AwB w0 A g3 g4 (fun k => if k = 17 then true else f k) W' ∧ Fr (fun k => k = A.tr ∨ k = A.mr) W W') := by
  have h5 : f 5 = true := (h.clo 14 hg).1 (by decide)
  have h11 : f 11 = true := (h.clo 14 hg).2.1 (by decide)
  have hn := awN_2 (f := f) hfi h11
  have hv := h.vw
  rw [hn] at hv
  have hr := root_any hv (by decide) 1 ⟨#[97]⟩ (by decide) xQ (by decide)
  rw [qL_eq] at hr
  refine hr.mono ?_
  rintro e W' ⟨rfl, h1, h2⟩
  refine ⟨_, rfl, congrArg _ aw_e3, ⟨(h.p3' (S := fun _ => False) h2).1, (h.p3' (S := fun _ => False) h2).2, ?_, h.ne, clo_put h.clo ⟨fun _ => h5, fun _ => h11, fun e => absurd e (by decide)⟩, h.fr.trans h2 (fun _ h => .inl h)⟩, h2⟩
  have e1 : awN (fun k => if k = 17 then true else f k) = 3 := by simp [awN]
  rw [e1]
  exact h1
theorem AwB.roots (h : AwB w0 A g3 g4 f W) {i j : Nat} (hj : f j = true) (h1 : levA i ≤ lvA j) (h2 : i ≠ 5 ∧ i ≠ 11 ∧ i ≠ 17) (h3 : 3 ≤ lvA j) : Calls Try.prog 23 #[.pointer (some ⟨A.vb, 0, none⟩), .int .i64 1] W fun e W' => ∃ v, e = .returned v ∧ (RtsOk A v W' ∧ AwB w0 A g3 g4 (fun k => if k = i then true else f k) W' ∧ Fr (fun k => k = A.tr ∨ k = A.mr) W W') := by
  have h17 : f 17 = true := (h.lv hj).2.2 h3
  have hn : awN f = 3 := by unfold awN; rw [h17]; rfl
  have hv := h.vw
  rw [hn] at hv
  refine (callsIn_wide.1 (vRoots_in hv (by decide) 1 aw_u3)).mono ?_
  rintro e W' ⟨v, rfl, ho, hf⟩
  have hA := h.pure hj h1 h2
  have hf2 : Fr (fun k => k = A.tr ∨ k = A.mr) W W' := hf.mono (fun _ _ h => h.elim)
  refine ⟨_, rfl, ?_, ⟨(hA.p3' (S := fun _ => False) hf2).1, (hA.p3' (S := fun _ => False) hf2).2, hA.vw.quiet hf, hA.ne, hA.clo, hA.fr.trans hf2 (fun _ h => .inl h)⟩, hf2⟩
  have hS : awS 3 = aw3 := rfl
  rw [hS, aw_r3] at ho
  have hlt := hv.rk.lt
  obtain ⟨ao, cap, hv1, _, _, _, h4⟩ := ho.elems
  obtain ⟨b, off, hao, hb, hc⟩ := h4 (by simp)
  have hown := ho.own b hb
  rw [hao] at hv1
  have hoff : off = 0 := by
    rcases ho.row.2 with ⟨hv2, _⟩ | ⟨g, cap2, cur, hv2, _⟩
    · rw [hv1] at hv2; cases hv2
    · rw [hv1] at hv2; cases hv2; rfl
  subst hoff
  refine ⟨b, cap, hv1, ⟨by omega, by omega⟩, fun j u hu => ?_⟩
  have hj : j < 22 := by
    have := (List.getElem?_eq_some_iff.1 hu).1
    rwa [rtC_len] at this
  have hcc := hc 0 (by simp) j hj
  have e9 : (rtC ([97], xQ))[j]? = some u := hu
  simp only [List.map_cons, List.map_nil, List.getElem_cons_zero, Nat.zero_mul, Nat.zero_add, Nat.add_zero] at hcc ⊢
  rw [hcc, e9]
end
def AwR (A : VA) (g3 g4 : Nat) (i : Nat) (v : Value) (W : World) : Prop :=
  match i with
  | 0 => v = .int .i64 0
  | 1 => v = .bool true
  | 2 => v = .bool true
  | 3 => v = .pointer (some ⟨A.vb, 0, none⟩)
  | 4 => v = .agg pL
  | 5 => v = .int .i64 0
  | 6 => v = .bool true
  | 7 => v = .bool true
  | 8 => v = .bool true
  | 9 => v = .pointer (some ⟨A.vb, 0, none⟩)
  | 10 => v = .agg pL
  | 11 => v = .int .i64 8
  | 12 => v = .bool true
  | 13 => v = .bool true
  | 14 => v = .bool true
  | 15 => v = .pointer (some ⟨A.vb, 0, none⟩)
  | 16 => v = .agg qL
  | 17 => v = .int .i64 0
  | 18 => v = .bool true
  | 19 => v = .bool true
  | 20 => v = .bool true
  | 21 => v = .pointer (some ⟨A.vb, 0, none⟩)
  | 22 => RtsOk A v W
  | 23 => v = .int .i64 1
  | 24 => v = .bool true
  | 25 => v = .bool true
  | 26 => v = .bool true
  | 27 => v = .pointer (some ⟨A.vb, 0, none⟩)
  | 28 => RtsOk A v W
  | 29 => ∃ g, v = .pointer (some ⟨g, 0, none⟩) ∧ (g ≠ A.tr ∧ g ≠ A.mr) ∧ W.rangeAt g 0 (rtC ([97], xQ))
  | 30 => ∃ g, v = .pointer (some ⟨g, 1, none⟩) ∧ (g ≠ A.tr ∧ g ≠ A.mr) ∧ W.rangeAt g 0 (rtC ([97], xQ))
  | 31 => v = .agg qL
  | 32 => v = .agg qL
  | 33 => v = .bool true
  | 34 => v = .bool true
  | 35 => v = .bool true
  | _ => True
theorem AwR.ext (A : VA) (g3 g4 : Nat) : ∀ (j : Nat) (u : Value) (W W' : World), Fr (fun k => k = A.tr ∨ k = A.mr) W W' → AwR A g3 g4 j u W → AwR A g3 g4 j u W'
  | 0, u, W, W', hf, h => h
  | 1, u, W, W', hf, h => h
  | 2, u, W, W', hf, h => h
  | 3, u, W, W', hf, h => h
  | 4, u, W, W', hf, h => h
  | 5, u, W, W', hf, h => h
  | 6, u, W, W', hf, h => h
  | 7, u, W, W', hf, h => h
  | 8, u, W, W', hf, h => h
  | 9, u, W, W', hf, h => h
  | 10, u, W, W', hf, h => h
  | 11, u, W, W', hf, h => h
  | 12, u, W, W', hf, h => h
  | 13, u, W, W', hf, h => h
  | 14, u, W, W', hf, h => h
  | 15, u, W, W', hf, h => h
  | 16, u, W, W', hf, h => h
  | 17, u, W, W', hf, h => h
  | 18, u, W, W', hf, h => h
  | 19, u, W, W', hf, h => h
  | 20, u, W, W', hf, h => h
  | 21, u, W, W', hf, h => h
  | 22, u, W, W', hf, h => RtsOk.ext hf h
  | 23, u, W, W', hf, h => h
  | 24, u, W, W', hf, h => h
  | 25, u, W, W', hf, h => h
  | 26, u, W, W', hf, h => h
  | 27, u, W, W', hf, h => h
  | 28, u, W, W', hf, h => RtsOk.ext hf h
  | 29, u, W, W', hf, h => (by obtain ⟨g, h1, h2, h3⟩ := h; exact ⟨g, h1, h2, Fr.range9 hf h3 (fun e => e.elim h2.1 h2.2)⟩)
  | 30, u, W, W', hf, h => (by obtain ⟨g, h1, h2, h3⟩ := h; exact ⟨g, h1, h2, Fr.range9 hf h3 (fun e => e.elim h2.1 h2.2)⟩)
  | 31, u, W, W', hf, h => h
  | 32, u, W, W', hf, h => h
  | 33, u, W, W', hf, h => h
  | 34, u, W, W', hf, h => h
  | 35, u, W, W', hf, h => h
  | _ + 36, u, W, W', hf, h => trivial
section
set_option maxRecDepth 100000
set_option maxHeartbeats 2000000 in
theorem awake_any (w : World) : Calls Try.prog 9 #[] w fun e w' => e = .returned (.bool true) ∧ Fr (fun _ => False) w w' := by
  obtain ⟨W1, hW1⟩ : ∃ W1, W1 = w.alloc (.cells #[.int .i64 0, .int .i64 0, .int .i64 1, .int .i64 0] 38) := ⟨_, rfl⟩
  have hf1 : Fr (fun _ => False) w W1 := by rw [hW1]; exact (Fr.refl _ _).alloc _
  have hq1 : QsIn (fun k => k = w.heap.size) W1 (.slice (some ⟨w.heap.size, 0, none⟩) 1 1) [⟨0, 0, 1, 0⟩] := by rw [hW1]; exact Elems.ofBlock (heap_alloc_new w _) rfl
  have HNEW := Lib.hid (new_yes W1 _ [⟨0, 0, 1, 0⟩] hq1 (by decide))
  have HW := Lib.hid (And.intro hW1 hf1)
  clear hW1 hf1 hq1
  go_enter Try.func9, Try.ntmps9
  have HP := Lib.hid (And.intro op_bP op_bQ)
  go_wp2_with (first
    | (go_at_call 10; rw [← HW.out.1]; refine HNEW.out.mono ?_; rintro e w2 ⟨A, rfl, hv2, hl2, hf2⟩; (obtain ⟨wa, wb, wc, W3, g3, g4, hL⟩ := aw_lay w2); (have HL := Lib.hid hL); (have H2 := Lib.hid (And.intro hv2 (And.intro hl2 hf2))); clear hv2 hl2 hf2 hL)
    | (with_reducible refine Go.Proofs.Ytdpaobflknkbkaa.wpList_value rfl (.agg pL) _ (HP.out.1 _ _ _ rfl) ?_)
    | (with_reducible refine Go.Proofs.Ytdpaobflknkbkaa.wpList_value rfl (.agg qL) _ (HP.out.2 _ _ _ rfl) ?_)
    | (with_reducible refine Go.Proofs.Ytdpaobflknkbkaa.wpList_value rfl _ _ (HL.out.a1 _ _ rfl) ?_; refine stopAt ?_))
  refine Stop.mk ?_
  refine Go.Proofs.Ytdpaobflknkbkaa.wpList_value rfl _ _ (HL.out.a2 _ _ rfl) ?_
  simp only [Act.put, List.setIfInBounds_toArray, List.set_cons_succ, List.set_cons_zero]
  refine HL.out.s1 rfl (.tmp 3) (.tmp 11) rfl rfl rfl ?_
  refine HL.out.s2 rfl (.tmp 4) (.tmp 12) rfl rfl rfl ?_
  simp only [Act.put]
  go_wp2_with fail
  have HB0 : Hid (AwB W3 A g3 g4 (fun _ => false) W3.drew) := Lib.hid (by
    have hv := H2.out.1
    have hl := H2.out.2.1
    have ht := hl A.tr (by simp [VA.all])
    have hm := hl A.mr (by simp [VA.all])
    have hg := HL.out.ge
    have hd : Fr (fun _ => False) W3 W3.drew := (Fr.refl _ _).drew
    refine ⟨hd.heap HL.out.p3 id, hd.heap HL.out.p4 id, ?_, by omega, (fun i hi => by cases hi), (Fr.refl _ _).drew⟩
    exact (hv.quiet HL.out.fr).quiet hd)
  refine wp_region_inv9 36 (by kernel_rfl) (by kernel_rfl) (AwB W3 A g3 g4) (AwR A g3 g4) (fun _ _ _ _ => True) (Fr (fun k => k = A.tr ∨ k = A.mr)) (AwR.ext A g3 g4) HB0.out ?_ ?_
  · intro i hi o ho
    replace hi : i < 36 := hi
    obtain rfl | rfl | rfl | rfl | rfl | rfl | rfl | rfl | rfl | rfl | rfl | rfl | rfl | rfl | rfl | rfl | rfl | rfl | rfl | rfl | rfl | rfl | rfl | rfl | rfl | rfl | rfl | rfl | rfl | rfl | rfl | rfl | rfl | rfl | rfl | rfl : i = 0 ∨ i = 1 ∨ i = 2 ∨ i = 3 ∨ i = 4 ∨ i = 5 ∨ i = 6 ∨ i = 7 ∨ i = 8 ∨ i = 9 ∨ i = 10 ∨ i = 11 ∨ i = 12 ∨ i = 13 ∨ i = 14 ∨ i = 15 ∨ i = 16 ∨ i = 17 ∨ i = 18 ∨ i = 19 ∨ i = 20 ∨ i = 21 ∨ i = 22 ∨ i = 23 ∨ i = 24 ∨ i = 25 ∨ i = 26 ∨ i = 27 ∨ i = 28 ∨ i = 29 ∨ i = 30 ∨ i = 31 ∨ i = 32 ∨ i = 33 ∨ i = 34 ∨ i = 35 := by omega
    · simp only [List.getElem?_cons_zero, Option.some.injEq] at ho
      subst ho
      intro a W vs f hfi hB hS hE hU
      refine wpG_plain rfl ?_
      have v2 : a.eval (.tmp 2) = .int .i64 0 := (hU 2 (by kernel_rfl)).trans rfl
      clear hE hU
      exact wp_value_inv (w' := W) (.int .i64 0) (op_move rfl v2) ⟨_, rfl, AwB.pure0 hB (by decide) (by decide), Fr.refl _ _, rfl, fun _ _ _ _ _ => trivial⟩
    · simp only [List.getElem?_cons_zero, List.getElem?_cons_succ, Option.some.injEq] at ho
      subst ho
      intro a W vs f hfi hB hS hE hU
      refine wpG_plain rfl ?_
      obtain ⟨f0, r0, e13⟩ := hE 0 13 (by kernel_rfl) (by kernel_rfl)
      have v13 : a.eval (.tmp 13) = .int .i64 0 := e13.trans r0
      clear hE hU
      exact wp_value_inv (w' := W) (.bool true) (op_bin rfl v13 rfl (guard_int9 W _ _ _ _ _ _ _) eql_yes) ⟨_, rfl, AwB.pure0 hB (by decide) (by decide), Fr.refl _ _, rfl, fun _ _ _ _ _ => trivial⟩
    · simp only [List.getElem?_cons_zero, List.getElem?_cons_succ, Option.some.injEq] at ho
      subst ho
      intro a W vs f hfi hB hS hE hU
      refine wpG_plain rfl ?_
      obtain ⟨f1, r1, e14⟩ := hE 1 14 (by kernel_rfl) (by kernel_rfl)
      have v14 : a.eval (.tmp 14) = .bool true := e14.trans r1
      clear hE hU
      exact wp_value_inv (w' := W) (.bool true) (op_move rfl v14) ⟨_, rfl, AwB.pure0 hB (by decide) (by decide), Fr.refl _ _, rfl, fun _ _ _ _ _ => trivial⟩
    · simp only [List.getElem?_cons_zero, List.getElem?_cons_succ, Option.some.injEq] at ho
      subst ho
      intro a W vs f hfi hB hS hE hU
      obtain ⟨f2, r2, e15⟩ := hE 2 15 (by kernel_rfl) (by kernel_rfl)
      have v15 : a.eval (.tmp 15) = .bool true := e15.trans r2
      refine wpG_yes 2 true 15 rfl (by kernel_rfl) (by rw [hS]; first | simp | exact Nat.le_of_ble_eq_true rfl) v15 ?_
      have v1 : a.eval (.tmp 1) = .pointer (some ⟨A.vb, 0, none⟩) := (hU 1 (by kernel_rfl)).trans rfl
      clear hE hU
      exact wp_value_inv (w' := W) (.pointer (some ⟨A.vb, 0, none⟩)) (op_move rfl v1) ⟨_, rfl, AwB.pure0 hB (by decide) (by decide), Fr.refl _ _, rfl, fun _ _ _ _ _ => trivial⟩
    · simp only [List.getElem?_cons_zero, List.getElem?_cons_succ, Option.some.injEq] at ho
      subst ho
      intro a W vs f hfi hB hS hE hU
      obtain ⟨f2, r2, e15⟩ := hE 2 15 (by kernel_rfl) (by kernel_rfl)
      have v15 : a.eval (.tmp 15) = .bool true := e15.trans r2
      refine wpG_yes 2 true 15 rfl (by kernel_rfl) (by rw [hS]; first | simp | exact Nat.le_of_ble_eq_true rfl) v15 ?_
      have v3 : a.eval (.tmp 3) = .pointer (some ⟨g3, 0, none⟩) := (hU 3 (by kernel_rfl)).trans rfl
      clear hE hU
      exact wp_value_inv (w' := W) (.agg pL) (op_loadAt rfl v3 (ldX hB.p3 pL21 W (Fr.refl _ _))) ⟨_, rfl, AwB.pure0 hB (by decide) (by decide), Fr.refl _ _, rfl, fun _ _ _ _ _ => trivial⟩
    · simp only [List.getElem?_cons_zero, List.getElem?_cons_succ, Option.some.injEq] at ho
      subst ho
      intro a W vs f hfi hB hS hE hU
      obtain ⟨f2, r2, e15⟩ := hE 2 15 (by kernel_rfl) (by kernel_rfl)
      have v15 : a.eval (.tmp 15) = .bool true := e15.trans r2
      refine wpG_yes 2 true 15 rfl (by kernel_rfl) (by rw [hS]; first | simp | exact Nat.le_of_ble_eq_true rfl) v15 ?_
      obtain ⟨f3, r3, e16⟩ := hE 3 16 (by kernel_rfl) (by kernel_rfl)
      have v16 : a.eval (.tmp 16) = .pointer (some ⟨A.vb, 0, none⟩) := e16.trans r3
      obtain ⟨f4, r4, e17⟩ := hE 4 17 (by kernel_rfl) (by kernel_rfl)
      have v17 : a.eval (.tmp 17) = .agg pL := e17.trans r4
      clear hE hU
      refine wp_call_inv 31 #[.tmp 16, .const (.int .i64 1), .const (.string ⟨#[97]⟩), .tmp 17] #[26, 3, 9, 43] rfl #[.pointer (some ⟨A.vb, 0, none⟩), .int .i64 1, .string ⟨#[97]⟩, .agg pL] (by simp only [List.map_toArray, List.map_cons, List.map_nil, eval_const5, v16, v17]) (ent_Root9 _) (Post := fun v W' => v = .int .i64 0 ∧ AwB W3 A g3 g4 (fun k => if k = 5 then true else f k) W' ∧ Fr (fun k => k = A.tr ∨ k = A.mr) W W') (AwB.root1 hB hfi f2) ?_
      rintro v W' ⟨rfl, hB2, hf2⟩
      exact ⟨_, rfl, hB2, hf2, rfl, fun _ _ _ _ _ => trivial⟩
    · simp only [List.getElem?_cons_zero, List.getElem?_cons_succ, Option.some.injEq] at ho
      subst ho
      intro a W vs f hfi hB hS hE hU
      obtain ⟨f2, r2, e15⟩ := hE 2 15 (by kernel_rfl) (by kernel_rfl)
      have v15 : a.eval (.tmp 15) = .bool true := e15.trans r2
      refine wpG_yes 2 true 15 rfl (by kernel_rfl) (by rw [hS]; first | simp | exact Nat.le_of_ble_eq_true rfl) v15 ?_
      obtain ⟨f5, r5, e18⟩ := hE 5 18 (by kernel_rfl) (by kernel_rfl)
      have v18 : a.eval (.tmp 18) = .int .i64 0 := e18.trans r5
      clear hE hU
      exact wp_value_inv (w' := W) (.bool true) (op_bin rfl v18 rfl (guard_int9 W _ _ _ _ _ _ _) eql_yes) ⟨_, rfl, AwB.pure hB f5 (by decide) (by decide), Fr.refl _ _, rfl, fun _ _ _ _ _ => trivial⟩
    · simp only [List.getElem?_cons_zero, List.getElem?_cons_succ, Option.some.injEq] at ho
      subst ho
      intro a W vs f hfi hB hS hE hU
      refine wpG_plain rfl ?_
      obtain ⟨f2, r2, e15⟩ := hE 2 15 (by kernel_rfl) (by kernel_rfl)
      have v15 : a.eval (.tmp 15) = .bool true := e15.trans r2
      obtain ⟨f6, r6, e19⟩ := hE 6 19 (by kernel_rfl) (by kernel_rfl)
      have v19 : a.eval (.tmp 19) = .bool true := e19.trans r6
      clear hE hU
      exact wp_value_inv (w' := W) (.bool true) (op_pick rfl v15 (by simp only [if_true]; exact v19)) ⟨_, rfl, AwB.pure hB f6 (by decide) (by decide), Fr.refl _ _, rfl, fun _ _ _ _ _ => trivial⟩
    · simp only [List.getElem?_cons_zero, List.getElem?_cons_succ, Option.some.injEq] at ho
      subst ho
      intro a W vs f hfi hB hS hE hU
      refine wpG_plain rfl ?_
      obtain ⟨f7, r7, e20⟩ := hE 7 20 (by kernel_rfl) (by kernel_rfl)
      have v20 : a.eval (.tmp 20) = .bool true := e20.trans r7
      clear hE hU
      exact wp_value_inv (w' := W) (.bool true) (op_move rfl v20) ⟨_, rfl, AwB.pure hB f7 (by decide) (by decide), Fr.refl _ _, rfl, fun _ _ _ _ _ => trivial⟩
    · simp only [List.getElem?_cons_zero, List.getElem?_cons_succ, Option.some.injEq] at ho
      subst ho
      intro a W vs f hfi hB hS hE hU
      obtain ⟨f8, r8, e21⟩ := hE 8 21 (by kernel_rfl) (by kernel_rfl)
      have v21 : a.eval (.tmp 21) = .bool true := e21.trans r8
      refine wpG_yes 8 true 21 rfl (by kernel_rfl) (by rw [hS]; first | simp | exact Nat.le_of_ble_eq_true rfl) v21 ?_
      have v1 : a.eval (.tmp 1) = .pointer (some ⟨A.vb, 0, none⟩) := (hU 1 (by kernel_rfl)).trans rfl
      clear hE hU
      exact wp_value_inv (w' := W) (.pointer (some ⟨A.vb, 0, none⟩)) (op_move rfl v1) ⟨_, rfl, AwB.pure hB f8 (by decide) (by decide), Fr.refl _ _, rfl, fun _ _ _ _ _ => trivial⟩
    · simp only [List.getElem?_cons_zero, List.getElem?_cons_succ, Option.some.injEq] at ho
      subst ho
      intro a W vs f hfi hB hS hE hU
      obtain ⟨f8, r8, e21⟩ := hE 8 21 (by kernel_rfl) (by kernel_rfl)
      have v21 : a.eval (.tmp 21) = .bool true := e21.trans r8
      refine wpG_yes 8 true 21 rfl (by kernel_rfl) (by rw [hS]; first | simp | exact Nat.le_of_ble_eq_true rfl) v21 ?_
      have v3 : a.eval (.tmp 3) = .pointer (some ⟨g3, 0, none⟩) := (hU 3 (by kernel_rfl)).trans rfl
      clear hE hU
      exact wp_value_inv (w' := W) (.agg pL) (op_loadAt rfl v3 (ldX hB.p3 pL21 W (Fr.refl _ _))) ⟨_, rfl, AwB.pure hB f8 (by decide) (by decide), Fr.refl _ _, rfl, fun _ _ _ _ _ => trivial⟩
    · simp only [List.getElem?_cons_zero, List.getElem?_cons_succ, Option.some.injEq] at ho
      subst ho
      intro a W vs f hfi hB hS hE hU
      obtain ⟨f8, r8, e21⟩ := hE 8 21 (by kernel_rfl) (by kernel_rfl)
      have v21 : a.eval (.tmp 21) = .bool true := e21.trans r8
      refine wpG_yes 8 true 21 rfl (by kernel_rfl) (by rw [hS]; first | simp | exact Nat.le_of_ble_eq_true rfl) v21 ?_
      obtain ⟨f9, r9, e22⟩ := hE 9 22 (by kernel_rfl) (by kernel_rfl)
      have v22 : a.eval (.tmp 22) = .pointer (some ⟨A.vb, 0, none⟩) := e22.trans r9
      obtain ⟨f10, r10, e23⟩ := hE 10 23 (by kernel_rfl) (by kernel_rfl)
      have v23 : a.eval (.tmp 23) = .agg pL := e23.trans r10
      clear hE hU
      refine wp_call_inv 31 #[.tmp 22, .const (.int .i64 1), .const (.string ⟨#[98]⟩), .tmp 23] #[26, 3, 9, 43] rfl #[.pointer (some ⟨A.vb, 0, none⟩), .int .i64 1, .string ⟨#[98]⟩, .agg pL] (by simp only [List.map_toArray, List.map_cons, List.map_nil, eval_const5, v22, v23]) (ent_Root9 _) (Post := fun v W' => v = .int .i64 8 ∧ AwB W3 A g3 g4 (fun k => if k = 11 then true else f k) W' ∧ Fr (fun k => k = A.tr ∨ k = A.mr) W W') (AwB.root2 hB hfi f8) ?_
      rintro v W' ⟨rfl, hB2, hf2⟩
      exact ⟨_, rfl, hB2, hf2, rfl, fun _ _ _ _ _ => trivial⟩
    · simp only [List.getElem?_cons_zero, List.getElem?_cons_succ, Option.some.injEq] at ho
      subst ho
      intro a W vs f hfi hB hS hE hU
      obtain ⟨f8, r8, e21⟩ := hE 8 21 (by kernel_rfl) (by kernel_rfl)
      have v21 : a.eval (.tmp 21) = .bool true := e21.trans r8
      refine wpG_yes 8 true 21 rfl (by kernel_rfl) (by rw [hS]; first | simp | exact Nat.le_of_ble_eq_true rfl) v21 ?_
      obtain ⟨f11, r11, e24⟩ := hE 11 24 (by kernel_rfl) (by kernel_rfl)
      have v24 : a.eval (.tmp 24) = .int .i64 8 := e24.trans r11
      clear hE hU
      exact wp_value_inv (w' := W) (.bool true) (op_bin rfl v24 rfl (guard_int9 W _ _ _ _ _ _ _) eql_yes) ⟨_, rfl, AwB.pure hB f11 (by decide) (by decide), Fr.refl _ _, rfl, fun _ _ _ _ _ => trivial⟩
    · simp only [List.getElem?_cons_zero, List.getElem?_cons_succ, Option.some.injEq] at ho
      subst ho
      intro a W vs f hfi hB hS hE hU
      refine wpG_plain rfl ?_
      obtain ⟨f8, r8, e21⟩ := hE 8 21 (by kernel_rfl) (by kernel_rfl)
      have v21 : a.eval (.tmp 21) = .bool true := e21.trans r8
      obtain ⟨f12, r12, e25⟩ := hE 12 25 (by kernel_rfl) (by kernel_rfl)
      have v25 : a.eval (.tmp 25) = .bool true := e25.trans r12
      clear hE hU
      exact wp_value_inv (w' := W) (.bool true) (op_pick rfl v21 (by simp only [if_true]; exact v25)) ⟨_, rfl, AwB.pure hB f12 (by decide) (by decide), Fr.refl _ _, rfl, fun _ _ _ _ _ => trivial⟩
    · simp only [List.getElem?_cons_zero, List.getElem?_cons_succ, Option.some.injEq] at ho
      subst ho
      intro a W vs f hfi hB hS hE hU
      refine wpG_plain rfl ?_
      obtain ⟨f13, r13, e26⟩ := hE 13 26 (by kernel_rfl) (by kernel_rfl)
      have v26 : a.eval (.tmp 26) = .bool true := e26.trans r13
      clear hE hU
      exact wp_value_inv (w' := W) (.bool true) (op_move rfl v26) ⟨_, rfl, AwB.pure hB f13 (by decide) (by decide), Fr.refl _ _, rfl, fun _ _ _ _ _ => trivial⟩
    · simp only [List.getElem?_cons_zero, List.getElem?_cons_succ, Option.some.injEq] at ho
      subst ho
      intro a W vs f hfi hB hS hE hU
      obtain ⟨f14, r14, e27⟩ := hE 14 27 (by kernel_rfl) (by kernel_rfl)
      have v27 : a.eval (.tmp 27) = .bool true := e27.trans r14
      refine wpG_yes 14 true 27 rfl (by kernel_rfl) (by rw [hS]; first | simp | exact Nat.le_of_ble_eq_true rfl) v27 ?_
      have v1 : a.eval (.tmp 1) = .pointer (some ⟨A.vb, 0, none⟩) := (hU 1 (by kernel_rfl)).trans rfl
      clear hE hU
      exact wp_value_inv (w' := W) (.pointer (some ⟨A.vb, 0, none⟩)) (op_move rfl v1) ⟨_, rfl, AwB.pure hB f14 (by decide) (by decide), Fr.refl _ _, rfl, fun _ _ _ _ _ => trivial⟩
    · simp only [List.getElem?_cons_zero, List.getElem?_cons_succ, Option.some.injEq] at ho
      subst ho
      intro a W vs f hfi hB hS hE hU
      obtain ⟨f14, r14, e27⟩ := hE 14 27 (by kernel_rfl) (by kernel_rfl)
      have v27 : a.eval (.tmp 27) = .bool true := e27.trans r14
      refine wpG_yes 14 true 27 rfl (by kernel_rfl) (by rw [hS]; first | simp | exact Nat.le_of_ble_eq_true rfl) v27 ?_
      have v4 : a.eval (.tmp 4) = .pointer (some ⟨g4, 0, none⟩) := (hU 4 (by kernel_rfl)).trans rfl
      clear hE hU
      exact wp_value_inv (w' := W) (.agg qL) (op_loadAt rfl v4 (ldX hB.p4 qL21 W (Fr.refl _ _))) ⟨_, rfl, AwB.pure hB f14 (by decide) (by decide), Fr.refl _ _, rfl, fun _ _ _ _ _ => trivial⟩
    · simp only [List.getElem?_cons_zero, List.getElem?_cons_succ, Option.some.injEq] at ho
      subst ho
      intro a W vs f hfi hB hS hE hU
      obtain ⟨f14, r14, e27⟩ := hE 14 27 (by kernel_rfl) (by kernel_rfl)
      have v27 : a.eval (.tmp 27) = .bool true := e27.trans r14
      refine wpG_yes 14 true 27 rfl (by kernel_rfl) (by rw [hS]; first | simp | exact Nat.le_of_ble_eq_true rfl) v27 ?_
      obtain ⟨f15, r15, e28⟩ := hE 15 28 (by kernel_rfl) (by kernel_rfl)
      have v28 : a.eval (.tmp 28) = .pointer (some ⟨A.vb, 0, none⟩) := e28.trans r15
      obtain ⟨f16, r16, e29⟩ := hE 16 29 (by kernel_rfl) (by kernel_rfl)
      have v29 : a.eval (.tmp 29) = .agg qL := e29.trans r16
      clear hE hU
      refine wp_call_inv 31 #[.tmp 28, .const (.int .i64 1), .const (.string ⟨#[97]⟩), .tmp 29] #[26, 3, 9, 43] rfl #[.pointer (some ⟨A.vb, 0, none⟩), .int .i64 1, .string ⟨#[97]⟩, .agg qL] (by simp only [List.map_toArray, List.map_cons, List.map_nil, eval_const5, v28, v29]) (ent_Root9 _) (Post := fun v W' => v = .int .i64 0 ∧ AwB W3 A g3 g4 (fun k => if k = 17 then true else f k) W' ∧ Fr (fun k => k = A.tr ∨ k = A.mr) W W') (AwB.root3 hB hfi f14) ?_
      rintro v W' ⟨rfl, hB2, hf2⟩
      exact ⟨_, rfl, hB2, hf2, rfl, fun _ _ _ _ _ => trivial⟩
    · simp only [List.getElem?_cons_zero, List.getElem?_cons_succ, Option.some.injEq] at ho
      subst ho
      intro a W vs f hfi hB hS hE hU
      obtain ⟨f14, r14, e27⟩ := hE 14 27 (by kernel_rfl) (by kernel_rfl)
      have v27 : a.eval (.tmp 27) = .bool true := e27.trans r14
      refine wpG_yes 14 true 27 rfl (by kernel_rfl) (by rw [hS]; first | simp | exact Nat.le_of_ble_eq_true rfl) v27 ?_
      obtain ⟨f17, r17, e30⟩ := hE 17 30 (by kernel_rfl) (by kernel_rfl)
      have v30 : a.eval (.tmp 30) = .int .i64 0 := e30.trans r17
      clear hE hU
      exact wp_value_inv (w' := W) (.bool true) (op_bin rfl v30 rfl (guard_int9 W _ _ _ _ _ _ _) eql_yes) ⟨_, rfl, AwB.pure hB f17 (by decide) (by decide), Fr.refl _ _, rfl, fun _ _ _ _ _ => trivial⟩
    · simp only [List.getElem?_cons_zero, List.getElem?_cons_succ, Option.some.injEq] at ho
      subst ho
      intro a W vs f hfi hB hS hE hU
      refine wpG_plain rfl ?_
      obtain ⟨f14, r14, e27⟩ := hE 14 27 (by kernel_rfl) (by kernel_rfl)
      have v27 : a.eval (.tmp 27) = .bool true := e27.trans r14
      obtain ⟨f18, r18, e31⟩ := hE 18 31 (by kernel_rfl) (by kernel_rfl)
      have v31 : a.eval (.tmp 31) = .bool true := e31.trans r18
      clear hE hU
      exact wp_value_inv (w' := W) (.bool true) (op_pick rfl v27 (by simp only [if_true]; exact v31)) ⟨_, rfl, AwB.pure hB f18 (by decide) (by decide), Fr.refl _ _, rfl, fun _ _ _ _ _ => trivial⟩
    · simp only [List.getElem?_cons_zero, List.getElem?_cons_succ, Option.some.injEq] at ho
      subst ho
      intro a W vs f hfi hB hS hE hU
      refine wpG_plain rfl ?_
      obtain ⟨f19, r19, e32⟩ := hE 19 32 (by kernel_rfl) (by kernel_rfl)
      have v32 : a.eval (.tmp 32) = .bool true := e32.trans r19
      clear hE hU
      exact wp_value_inv (w' := W) (.bool true) (op_move rfl v32) ⟨_, rfl, AwB.pure hB f19 (by decide) (by decide), Fr.refl _ _, rfl, fun _ _ _ _ _ => trivial⟩
    · simp only [List.getElem?_cons_zero, List.getElem?_cons_succ, Option.some.injEq] at ho
      subst ho
      intro a W vs f hfi hB hS hE hU
      obtain ⟨f20, r20, e33⟩ := hE 20 33 (by kernel_rfl) (by kernel_rfl)
      have v33 : a.eval (.tmp 33) = .bool true := e33.trans r20
      refine wpG_yes 20 true 33 rfl (by kernel_rfl) (by rw [hS]; first | simp | exact Nat.le_of_ble_eq_true rfl) v33 ?_
      have v1 : a.eval (.tmp 1) = .pointer (some ⟨A.vb, 0, none⟩) := (hU 1 (by kernel_rfl)).trans rfl
      clear hE hU
      exact wp_value_inv (w' := W) (.pointer (some ⟨A.vb, 0, none⟩)) (op_move rfl v1) ⟨_, rfl, AwB.pure hB f20 (by decide) (by decide), Fr.refl _ _, rfl, fun _ _ _ _ _ => trivial⟩
    · simp only [List.getElem?_cons_zero, List.getElem?_cons_succ, Option.some.injEq] at ho
      subst ho
      intro a W vs f hfi hB hS hE hU
      obtain ⟨f20, r20, e33⟩ := hE 20 33 (by kernel_rfl) (by kernel_rfl)
      have v33 : a.eval (.tmp 33) = .bool true := e33.trans r20
      refine wpG_yes 20 true 33 rfl (by kernel_rfl) (by rw [hS]; first | simp | exact Nat.le_of_ble_eq_true rfl) v33 ?_
      obtain ⟨f21, r21, e34⟩ := hE 21 34 (by kernel_rfl) (by kernel_rfl)
      have v34 : a.eval (.tmp 34) = .pointer (some ⟨A.vb, 0, none⟩) := e34.trans r21
      clear hE hU
      refine wp_call_inv 23 #[.tmp 34, .const (.int .i64 1)] #[26, 3] rfl #[.pointer (some ⟨A.vb, 0, none⟩), .int .i64 1] (by simp only [List.map_toArray, List.map_cons, List.map_nil, eval_const5, v34]) (ent_Roots9 _) (Post := fun v W' => RtsOk A v W' ∧ AwB W3 A g3 g4 (fun k => if k = 22 then true else f k) W' ∧ Fr (fun k => k = A.tr ∨ k = A.mr) W W') (AwB.roots hB f20 (by decide) (by decide) (by decide)) ?_
      rintro v W' ⟨ho, hB2, hf2⟩
      exact ⟨_, rfl, hB2, hf2, ho, fun _ _ _ _ _ => trivial⟩
    · simp only [List.getElem?_cons_zero, List.getElem?_cons_succ, Option.some.injEq] at ho
      subst ho
      intro a W vs f hfi hB hS hE hU
      obtain ⟨f20, r20, e33⟩ := hE 20 33 (by kernel_rfl) (by kernel_rfl)
      have v33 : a.eval (.tmp 33) = .bool true := e33.trans r20
      refine wpG_yes 20 true 33 rfl (by kernel_rfl) (by rw [hS]; first | simp | exact Nat.le_of_ble_eq_true rfl) v33 ?_
      skip
      obtain ⟨f22, ⟨g, c, rp, rn, rr⟩, e35⟩ := hE 22 35 (by kernel_rfl) (by kernel_rfl)
      have v35 : a.eval (.tmp 35) = .slice (some ⟨g, 0, none⟩) 1 c := e35.trans rp
      exact wp_value_inv (w' := W) (.int .i64 1) (op_lenRt rfl v35) ⟨_, rfl, AwB.pure hB f22 (by decide) (by decide), Fr.refl _ _, rfl, fun _ _ _ _ _ => trivial⟩
    · simp only [List.getElem?_cons_zero, List.getElem?_cons_succ, Option.some.injEq] at ho
      subst ho
      intro a W vs f hfi hB hS hE hU
      obtain ⟨f20, r20, e33⟩ := hE 20 33 (by kernel_rfl) (by kernel_rfl)
      have v33 : a.eval (.tmp 33) = .bool true := e33.trans r20
      refine wpG_yes 20 true 33 rfl (by kernel_rfl) (by rw [hS]; first | simp | exact Nat.le_of_ble_eq_true rfl) v33 ?_
      obtain ⟨f23, r23, e36⟩ := hE 23 36 (by kernel_rfl) (by kernel_rfl)
      have v36 : a.eval (.tmp 36) = .int .i64 1 := e36.trans r23
      clear hE hU
      exact wp_value_inv (w' := W) (.bool true) (op_bin rfl v36 rfl (guard_int9 W _ _ _ _ _ _ _) eql_yes) ⟨_, rfl, AwB.pure hB f23 (by decide) (by decide), Fr.refl _ _, rfl, fun _ _ _ _ _ => trivial⟩
    · simp only [List.getElem?_cons_zero, List.getElem?_cons_succ, Option.some.injEq] at ho
      subst ho
      intro a W vs f hfi hB hS hE hU
      refine wpG_plain rfl ?_
      obtain ⟨f20, r20, e33⟩ := hE 20 33 (by kernel_rfl) (by kernel_rfl)
      have v33 : a.eval (.tmp 33) = .bool true := e33.trans r20
      obtain ⟨f24, r24, e37⟩ := hE 24 37 (by kernel_rfl) (by kernel_rfl)
      have v37 : a.eval (.tmp 37) = .bool true := e37.trans r24
      clear hE hU
      exact wp_value_inv (w' := W) (.bool true) (op_pick rfl v33 (by simp only [if_true]; exact v37)) ⟨_, rfl, AwB.pure hB f24 (by decide) (by decide), Fr.refl _ _, rfl, fun _ _ _ _ _ => trivial⟩
    · simp only [List.getElem?_cons_zero, List.getElem?_cons_succ, Option.some.injEq] at ho
      subst ho
      intro a W vs f hfi hB hS hE hU
      refine wpG_plain rfl ?_
      obtain ⟨f25, r25, e38⟩ := hE 25 38 (by kernel_rfl) (by kernel_rfl)
      have v38 : a.eval (.tmp 38) = .bool true := e38.trans r25
      clear hE hU
      exact wp_value_inv (w' := W) (.bool true) (op_move rfl v38) ⟨_, rfl, AwB.pure hB f25 (by decide) (by decide), Fr.refl _ _, rfl, fun _ _ _ _ _ => trivial⟩
    · simp only [List.getElem?_cons_zero, List.getElem?_cons_succ, Option.some.injEq] at ho
      subst ho
      intro a W vs f hfi hB hS hE hU
      obtain ⟨f26, r26, e39⟩ := hE 26 39 (by kernel_rfl) (by kernel_rfl)
      have v39 : a.eval (.tmp 39) = .bool true := e39.trans r26
      refine wpG_yes 26 true 39 rfl (by kernel_rfl) (by rw [hS]; first | simp | exact Nat.le_of_ble_eq_true rfl) v39 ?_
      have v1 : a.eval (.tmp 1) = .pointer (some ⟨A.vb, 0, none⟩) := (hU 1 (by kernel_rfl)).trans rfl
      clear hE hU
      exact wp_value_inv (w' := W) (.pointer (some ⟨A.vb, 0, none⟩)) (op_move rfl v1) ⟨_, rfl, AwB.pure hB f26 (by decide) (by decide), Fr.refl _ _, rfl, fun _ _ _ _ _ => trivial⟩
    · simp only [List.getElem?_cons_zero, List.getElem?_cons_succ, Option.some.injEq] at ho
      subst ho
      intro a W vs f hfi hB hS hE hU
      obtain ⟨f26, r26, e39⟩ := hE 26 39 (by kernel_rfl) (by kernel_rfl)
      have v39 : a.eval (.tmp 39) = .bool true := e39.trans r26
      refine wpG_yes 26 true 39 rfl (by kernel_rfl) (by rw [hS]; first | simp | exact Nat.le_of_ble_eq_true rfl) v39 ?_
      obtain ⟨f27, r27, e40⟩ := hE 27 40 (by kernel_rfl) (by kernel_rfl)
      have v40 : a.eval (.tmp 40) = .pointer (some ⟨A.vb, 0, none⟩) := e40.trans r27
      clear hE hU
      refine wp_call_inv 23 #[.tmp 40, .const (.int .i64 1)] #[26, 3] rfl #[.pointer (some ⟨A.vb, 0, none⟩), .int .i64 1] (by simp only [List.map_toArray, List.map_cons, List.map_nil, eval_const5, v40]) (ent_Roots9 _) (Post := fun v W' => RtsOk A v W' ∧ AwB W3 A g3 g4 (fun k => if k = 28 then true else f k) W' ∧ Fr (fun k => k = A.tr ∨ k = A.mr) W W') (AwB.roots hB f26 (by decide) (by decide) (by decide)) ?_
      rintro v W' ⟨ho, hB2, hf2⟩
      exact ⟨_, rfl, hB2, hf2, ho, fun _ _ _ _ _ => trivial⟩
    · simp only [List.getElem?_cons_zero, List.getElem?_cons_succ, Option.some.injEq] at ho
      subst ho
      intro a W vs f hfi hB hS hE hU
      obtain ⟨f26, r26, e39⟩ := hE 26 39 (by kernel_rfl) (by kernel_rfl)
      have v39 : a.eval (.tmp 39) = .bool true := e39.trans r26
      refine wpG_yes 26 true 39 rfl (by kernel_rfl) (by rw [hS]; first | simp | exact Nat.le_of_ble_eq_true rfl) v39 ?_
      skip
      obtain ⟨f28, ⟨g, c, rp, rn, rr⟩, e41⟩ := hE 28 41 (by kernel_rfl) (by kernel_rfl)
      have v41 : a.eval (.tmp 41) = .slice (some ⟨g, 0, none⟩) 1 c := e41.trans rp
      exact wp_value_inv (w' := W) (.pointer (some ⟨g, 0, none⟩)) (op_indexAddr rfl v41 rfl (idxRt W g c)) ⟨_, rfl, AwB.pure hB f28 (by decide) (by decide), Fr.refl _ _, ⟨g, rfl, rn, rr⟩, fun _ _ _ _ _ => trivial⟩
    · simp only [List.getElem?_cons_zero, List.getElem?_cons_succ, Option.some.injEq] at ho
      subst ho
      intro a W vs f hfi hB hS hE hU
      obtain ⟨f26, r26, e39⟩ := hE 26 39 (by kernel_rfl) (by kernel_rfl)
      have v39 : a.eval (.tmp 39) = .bool true := e39.trans r26
      refine wpG_yes 26 true 39 rfl (by kernel_rfl) (by rw [hS]; first | simp | exact Nat.le_of_ble_eq_true rfl) v39 ?_
      skip
      obtain ⟨f29, ⟨g, rp, rn, rr⟩, e42⟩ := hE 29 42 (by kernel_rfl) (by kernel_rfl)
      have v42 : a.eval (.tmp 42) = .pointer (some ⟨g, 0, none⟩) := e42.trans rp
      exact wp_value_inv (w' := W) (.pointer (some ⟨g, 1, none⟩)) (op_fieldAddr rfl v42 (fldRt W g)) ⟨_, rfl, AwB.pure hB f29 (by decide) (by decide), Fr.refl _ _, ⟨g, rfl, rn, rr⟩, fun _ _ _ _ _ => trivial⟩
    · simp only [List.getElem?_cons_zero, List.getElem?_cons_succ, Option.some.injEq] at ho
      subst ho
      intro a W vs f hfi hB hS hE hU
      obtain ⟨f26, r26, e39⟩ := hE 26 39 (by kernel_rfl) (by kernel_rfl)
      have v39 : a.eval (.tmp 39) = .bool true := e39.trans r26
      refine wpG_yes 26 true 39 rfl (by kernel_rfl) (by rw [hS]; first | simp | exact Nat.le_of_ble_eq_true rfl) v39 ?_
      skip
      obtain ⟨f30, ⟨g, rp, rn, rr⟩, e43⟩ := hE 30 43 (by kernel_rfl) (by kernel_rfl)
      have v43 : a.eval (.tmp 43) = .pointer (some ⟨g, 1, none⟩) := e43.trans rp
      exact wp_value_inv (w' := W) (.agg qL) (op_loadAt rfl v43 (load_root_path W g rr)) ⟨_, rfl, AwB.pure hB f30 (by decide) (by decide), Fr.refl _ _, rfl, fun _ _ _ _ _ => trivial⟩
    · simp only [List.getElem?_cons_zero, List.getElem?_cons_succ, Option.some.injEq] at ho
      subst ho
      intro a W vs f hfi hB hS hE hU
      obtain ⟨f26, r26, e39⟩ := hE 26 39 (by kernel_rfl) (by kernel_rfl)
      have v39 : a.eval (.tmp 39) = .bool true := e39.trans r26
      refine wpG_yes 26 true 39 rfl (by kernel_rfl) (by rw [hS]; first | simp | exact Nat.le_of_ble_eq_true rfl) v39 ?_
      have v4 : a.eval (.tmp 4) = .pointer (some ⟨g4, 0, none⟩) := (hU 4 (by kernel_rfl)).trans rfl
      clear hE hU
      exact wp_value_inv (w' := W) (.agg qL) (op_loadAt rfl v4 (ldX hB.p4 qL21 W (Fr.refl _ _))) ⟨_, rfl, AwB.pure hB f26 (by decide) (by decide), Fr.refl _ _, rfl, fun _ _ _ _ _ => trivial⟩
    · simp only [List.getElem?_cons_zero, List.getElem?_cons_succ, Option.some.injEq] at ho
      subst ho
      intro a W vs f hfi hB hS hE hU
      obtain ⟨f26, r26, e39⟩ := hE 26 39 (by kernel_rfl) (by kernel_rfl)
      have v39 : a.eval (.tmp 39) = .bool true := e39.trans r26
      refine wpG_yes 26 true 39 rfl (by kernel_rfl) (by rw [hS]; first | simp | exact Nat.le_of_ble_eq_true rfl) v39 ?_
      obtain ⟨f31, r31, e44⟩ := hE 31 44 (by kernel_rfl) (by kernel_rfl)
      have v44 : a.eval (.tmp 44) = .agg qL := e44.trans r31
      obtain ⟨f32, r32, e45⟩ := hE 32 45 (by kernel_rfl) (by kernel_rfl)
      have v45 : a.eval (.tmp 45) = .agg qL := e45.trans r32
      clear hE hU
      exact wp_value_inv (w' := W) (.bool true) (op_bin rfl v44 v45 (guard_path _ _ _ _ _ _) (eqlQ W)) ⟨_, rfl, AwB.pure hB f32 (by decide) (by decide), Fr.refl _ _, rfl, fun _ _ _ _ _ => trivial⟩
    · simp only [List.getElem?_cons_zero, List.getElem?_cons_succ, Option.some.injEq] at ho
      subst ho
      intro a W vs f hfi hB hS hE hU
      refine wpG_plain rfl ?_
      obtain ⟨f26, r26, e39⟩ := hE 26 39 (by kernel_rfl) (by kernel_rfl)
      have v39 : a.eval (.tmp 39) = .bool true := e39.trans r26
      obtain ⟨f33, r33, e46⟩ := hE 33 46 (by kernel_rfl) (by kernel_rfl)
      have v46 : a.eval (.tmp 46) = .bool true := e46.trans r33
      clear hE hU
      exact wp_value_inv (w' := W) (.bool true) (op_pick rfl v39 (by simp only [if_true]; exact v46)) ⟨_, rfl, AwB.pure hB f33 (by decide) (by decide), Fr.refl _ _, rfl, fun _ _ _ _ _ => trivial⟩
    · simp only [List.getElem?_cons_zero, List.getElem?_cons_succ, Option.some.injEq] at ho
      subst ho
      intro a W vs f hfi hB hS hE hU
      refine wpG_plain rfl ?_
      obtain ⟨f34, r34, e47⟩ := hE 34 47 (by kernel_rfl) (by kernel_rfl)
      have v47 : a.eval (.tmp 47) = .bool true := e47.trans r34
      clear hE hU
      exact wp_value_inv (w' := W) (.bool true) (op_assign rfl v47) ⟨_, rfl, AwB.pure hB f34 (by decide) (by decide), Fr.refl _ _, rfl, fun _ _ _ _ _ => trivial⟩
  · intro f0 vs Wa hf0 hB0 hR0 hD
    have r0 : vs 34 = .bool true := hR0 34 (by decide)
    have r1 : vs 35 = .bool true := hR0 35 (by decide)
    have HA := Lib.hid hB0
    clear hR0 hD hB0 hf0
    simp only [acts, if_true, dstAt, List.getElem?_cons_zero, List.getElem?_cons_succ, Option.bind_some, Act.put, List.setIfInBounds_toArray, List.set_cons_succ, List.set_cons_zero, List.drop_succ_cons, List.drop_nil]
    simp only [r0, r1]
    clear r0 r1
    go_wp2_with fail
    go_ret
    refine ⟨rfl, ?_⟩
    have hl := H2.out.2.1
    have ht := hl A.tr (by simp [VA.all])
    have hm := hl A.mr (by simp [VA.all])
    have hs := HW.out.2.size
    refine ((HW.out.2.trans H2.out.2.2 (fun _ h => h.elim)).trans HL.out.fr (fun _ h => h.elim)).trans HA.out.fr (fun k hk => .inr ?_)
    rcases hk with rfl | rfl <;> omega
end
end Go.Proofs.Ytdpaobflknkbkaa
