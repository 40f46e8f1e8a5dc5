/- Laid together: VKy VDeeds Wide Str BIter VBk VEl -/
import Derived.Test.YtdpaobflknkbkaaVe1
import Derived.Maps.RangeWalk
import Derived.Test.YtdpaobflknkbkaaVe0
import Derived.ProofKit
import Derived.OpenShut
import Derived.SizedLaws
import Derived.Deep.Slices
import Derived.Carry
import Derived.Deep.Fields
import Derived.RangeFuncNested
import Derived.RangeFuncBound
import Derived.OwnWalkIn
import Derived.TacticsInMore
import Derived.LoopIn
import Derived.LoopNIn
import Derived.Laws.Rows
import Derived.Deep.WholeRow
import Derived.Laws.IdiomStrings
import Derived.Lib.BufferRead
import Derived.Maps.OwnSet
import Derived.Lib.OthersKept
import Derived.Laws.RangeAny
import Derived.Deep.LoopGhost
import Derived.Maps.AppendAt

namespace Go.Proofs.Ytdpaobflknkbkaa
open Go.RowKit Go.ChangeShapes Go.WideMaps Go.Maps
set_option linter.unusedVariables false
def plC (i : Int) (N : ByteArray) : Array Value := #[.int .i64 i, .string N]
theorem place_fields : (Try.prog.fieldsOf 114).toList.map (fun f => (f.name, f.type, f.offset)) = [("who", 3, 0), ("name", 9, 1)] := by kernel_rfl
theorem Try.cellsPl : Try.prog.cellsOf 114 = 2 := by kernel_rfl
theorem Try.cellsI9 : Try.prog.cellsOf 3 = 1 := by kernel_rfl
def litsPl (i : Int) (s : Bs) : List Lit := [Lit.int .i64 i, Lit.string s]
theorem keyLits_int (m : Nat) (i : Int) (h : (Lit.int .i64 i).wf = true) : Try.prog.keyLits (m + 1) 3 [.int .i64 i] = some [.int .i64 i] := by
  simp [Program.keyLits, Try.underlying3, h]
theorem size_list (N : ByteArray) : N.data.toList.length = N.size := Array.length_toList
theorem place_under : Try.prog.underlying 114 = some (.struct (Try.prog.fieldsOf 114)) := by kernel_rfl
theorem keyLits_place (m : Nat) (i : Int) (N : ByteArray) (hi : (Lit.int .i64 i).wf = true) (h : N.size ≤ maxLen) : Try.prog.keyLits (m + 2) 114 [.int .i64 i, .string N] = some (litsPl i N.data.toList) := by
  obtain ⟨f1, f2, hf, a, b⟩ := two_of_map place_fields
  simp only [Prod.mk.injEq] at a b
  obtain ⟨n1, t1, o1⟩ := a
  obtain ⟨n2, t2, o2⟩ := b
  have hall : (Try.prog.fieldsOf 114).all (·.name != "_") = true := by kernel_rfl
  have e : (Try.prog.fieldsOf 114).toList.mapM (fun f => Try.prog.keyLits (m + 1) f.type (([Value.int .i64 i, Value.string N].drop f.offset).take (Try.prog.cellsOf f.type))) = some [[.int .i64 i], [.string N.data.toList]] := by
    rw [hf, List.mapM_cons, List.mapM_cons, List.mapM_nil, t1, t2, o1, o2, Try.cellsI9, Try.cellsS]
    simp only [List.drop_zero, List.take_succ_cons, List.take_zero, List.drop_succ_cons]
    rw [keyLits_int m i hi, keyLits_str m N h]
    rfl
  unfold Program.keyLits
  rw [place_under]
  simp only []
  rw [if_pos ⟨by rw [Try.cellsPl]; rfl, hall⟩, e]
  rfl
def keyP (i : Int) (s : Bs) : Lit := .string (keyBytes (litsPl i s))
theorem types_two : ∃ m, Try.prog.types.size + 1 = m + 2 := by
  have : 2 ≤ Try.prog.types.size := Nat.le_of_ble_eq_true (by kernel_rfl)
  exact ⟨Try.prog.types.size - 1, by omega⟩
theorem keyP_of (i : Int) (N : ByteArray) (hi : (Lit.int .i64 i).wf = true) (h : N.size ≤ maxLen) : keyOf Try.prog 114 (.agg (plC i N)) = some (keyP i N.data.toList) := by
  obtain ⟨m, hm⟩ := types_two
  have hl := keyLits_place m i N hi h
  have hk : Try.prog.keyType 114 = true := by kernel_rfl
  have hfm : Value.formed Try.prog 114 (.agg (plC i N)) = true := by
    simp only [Value.formed, place_under]
    rw [Try.cellsPl]
    rfl
  unfold keyOf
  rw [place_under]
  simp only []
  rw [hk, hfm, hm]
  simp only [Bool.and_self, if_true]
  have hc : (Value.agg (plC i N)).cells.toList = [.int .i64 i, .string N] := rfl
  rw [hc, hl]
  rfl
theorem keyP_lit (i : Int) (s : Bs) : WideAt.IsKeyLit (keyP i s) := by simp [keyP, WideAt.IsKeyLit]
set_option maxRecDepth 100000 in
theorem lawPl : Keyed Try.prog 114 := Keyed.of_law (deep_law_laid laidOutP (m := 5) (by decide) (Nat.le_of_ble_eq_true (by kernel_rfl)) (by kernel_rfl) (by kernel_rfl))
theorem keyP_inj {i j : Int} {s t : Bs} (hi : (Lit.int .i64 i).wf = true) (hj : (Lit.int .i64 j).wf = true) (hs : s.length ≤ maxLen) (ht : t.length ≤ maxLen) (h : keyP i s = keyP j t) : i = j ∧ s = t := by
  have h1 := keyP_of i ⟨s.toArray⟩ hi (by show s.toArray.size ≤ maxLen; simpa using hs)
  have h2 := keyP_of j ⟨t.toArray⟩ hj (by show t.toArray.size ≤ maxLen; simpa using ht)
  rw [show (ByteArray.mk s.toArray).data.toList = s by simp] at h1
  rw [show (ByteArray.mk t.toArray).data.toList = t by simp, ← h] at h2
  have h3 := lawPl.inj h1 h2
  simp only [plC, Value.agg.injEq, Array.mk.injEq, List.cons.injEq, Value.int.injEq, Value.string.injEq, true_and, and_true] at h3
  obtain ⟨h4, h5⟩ := h3
  exact ⟨h4, by simpa using h5⟩
set_option maxRecDepth 100000 in
theorem keyP_back {v : Value} {kl : Lit} (h : keyOf Try.prog 114 v = some kl) : ∃ (i : Int) (N : ByteArray), v = .agg (plC i N) ∧ (Lit.int .i64 i).wf = true ∧ N.size ≤ maxLen ∧ kl = keyP i N.data.toList := by
  obtain ⟨m, hm⟩ := types_two
  have h0 := h
  unfold keyOf at h
  rw [place_under] at h
  simp only [] at h
  split at h
  · next hc =>
    have hk : Try.prog.keyType 114 = true := by kernel_rfl
    rw [hk, Bool.true_and] at hc
    cases v with
    | agg cs =>
      simp only [Value.formed, place_under] at hc
      rw [Try.cellsPl] at hc
      have hsz : cs.size = 2 := by simpa using hc
      obtain ⟨a, b, rfl⟩ : ∃ a b, cs = #[a, b] := by
        obtain ⟨l⟩ := cs
        have hl : l.length = 2 := hsz
        obtain ⟨a, l, rfl⟩ := List.exists_cons_of_ne_nil (l := l) (by rintro rfl; cases hl)
        obtain ⟨b, l, rfl⟩ := List.exists_cons_of_ne_nil (l := l) (by rintro rfl; cases hl)
        obtain rfl : l = [] := List.eq_nil_of_length_eq_zero (by simp at hl; exact List.length_eq_zero_iff.2 hl)
        exact ⟨a, b, rfl⟩
      obtain ⟨f1, f2, hf, ha, hb⟩ := two_of_map place_fields
      simp only [Prod.mk.injEq] at ha hb
      obtain ⟨n1, t1, o1⟩ := ha
      obtain ⟨n2, t2, o2⟩ := hb
      have hall : (Try.prog.fieldsOf 114).all (·.name != "_") = true := by kernel_rfl
      rw [hm] at h
      have hcc : (Value.agg #[a, b]).cells.toList = [a, b] := rfl
      rw [hcc] at h
      unfold Program.keyLits at h
      rw [place_under] at h
      simp only [] at h
      rw [if_pos ⟨by rw [Try.cellsPl]; rfl, hall⟩, hf, List.mapM_cons, List.mapM_cons, List.mapM_nil, t1, t2, o1, o2, Try.cellsI9, Try.cellsS] at h
      simp only [List.drop_zero, List.take_succ_cons, List.take_zero, List.drop_succ_cons] at h
      have hi : ∃ i, a = .int .i64 i ∧ (Lit.int .i64 i).wf = true := by
        cases a with
        | int q n =>
          by_cases hq : q = .i64 ∧ (Lit.int .i64 n).wf = true
          · exact ⟨n, by rw [hq.1], hq.2⟩
          · simp [Program.keyLits, Try.underlying3, hq] at h
        | _ => simp [Program.keyLits, Try.underlying3] at h
      obtain ⟨i, rfl, hwi⟩ := hi
      have hN : ∃ N : ByteArray, b = .string N ∧ N.size ≤ maxLen := by
        cases b with
        | string N =>
          by_cases hq : N.size ≤ maxLen
          · exact ⟨N, rfl, hq⟩
          · simp [Program.keyLits, Try.underlying9, hq] at h
        | _ => simp [Program.keyLits, Try.underlying9] at h
      obtain ⟨N, rfl, hNs⟩ := hN
      refine ⟨i, N, rfl, hwi, hNs, ?_⟩
      have h2 := keyP_of i N hwi hNs
      rw [show Value.agg (plC i N) = .agg #[.int .i64 i, .string N] from rfl, h0] at h2
      exact Option.some.inj h2
    | _ => simp [Value.formed] at hc
  · cases h
theorem sameKey_keyP {i j : Int} {s t : Bs} (hi : (Lit.int .i64 i).wf = true) (hj : (Lit.int .i64 j).wf = true) (hs : s.length ≤ maxLen) (ht : t.length ≤ maxLen) : (keyP i s).sameKey (keyP j t) = decide (i = j ∧ s = t) := by
  by_cases h : i = j ∧ s = t
  · rw [h.1, h.2]
    simp [keyP, Lit.sameKey]
  · have : keyP i s ≠ keyP j t := fun e => h (keyP_inj hi hj hs ht e)
    rw [decide_eq_false h]
    simp only [keyP, Lit.sameKey] at this ⊢
    simpa using this
end Go.Proofs.Ytdpaobflknkbkaa
namespace Go.Proofs.Ytdpaobflknkbkaa
open Go.RowKit Go.ChangeShapes Go.WideShapes Go.Deep
set_option linter.unusedVariables false
def IntOk (n : Int) : Prop := -9223372036854775808 ≤ n ∧ n ≤ 9223372036854775807
structure DeedD where
  what : Int
  who : Int
  name : ByteArray
  p : PathX
  xv : Value
  V : List UInt8
structure DeedAt (F : Nat → Prop) (w : World) (b o : Nat) (d : DeedD) : Prop where
  what : w.cell? ⟨b, o, none⟩ = some (.int .i64 d.what)
  who : w.cell? ⟨b, o + 1, none⟩ = some (.int .i64 d.who)
  nm : w.cell? ⟨b, o + 2, none⟩ = some (.string d.name)
  pa : w.rangeAt b (o + 3) (cellsX d.p)
  cv : w.cell? ⟨b, o + 24, none⟩ = some d.xv
  bytes : BytesIn F w d.xv d.V
  in_ : F b
  wf : IntOk d.what ∧ IntOk d.who
  fit : d.name.size ≤ 140737488351232 ∧ d.p.n.size ≤ 140737488351232 ∧ d.V.length ≤ 140737488351232
theorem DeedAt.keep {F S : Nat → Prop} {w w' : World} {b o : Nat} {p : DeedD} (h : DeedAt F w b o p) (hf : Fr S w w') (hd : ∀ k, k < w.heap.size → F k → ¬ S k) : DeedAt F w' b o p := by
  have hb : ¬ S b := hd b (World.block_lt_of_cell? _ _ h.what) h.in_
  exact ⟨hf.cell h.what hb, hf.cell h.who hb, hf.cell h.nm hb, hf.range h.pa hb, hf.cell h.cv hb, h.bytes.keep hf hd, h.in_, h.wf, h.fit⟩
def DeedsIn (F : Nat → Prop) (w : World) (v : Value) (l : List DeedD) : Prop :=
  ∃ ao cap, v = .slice ao l.length cap ∧ l.length ≤ cap ∧ l.length ≤ 140737488351232 ∧
    (l ≠ [] → ∃ b off, ao = some ⟨b, off, none⟩ ∧ ∀ i (h : i < l.length), DeedAt F w b (off + i * 25) l[i])
theorem DeedsIn.keep {F S : Nat → Prop} {w w' : World} {v : Value} {l : List DeedD} (h : DeedsIn F w v l) (hf : Fr S w w') (hd : ∀ k, k < w.heap.size → F k → ¬ S k) : DeedsIn F w' v l := by
  obtain ⟨ao, cap, hv, h1, h2, h4⟩ := h
  refine ⟨ao, cap, hv, h1, h2, fun hl => ?_⟩
  obtain ⟨b, off, ha, hi⟩ := h4 hl
  exact ⟨b, off, ha, fun i h => (hi i h).keep hf hd⟩
section
variable {H : Type} {enc : TypeId × Value → H} {w : World} {base fuel : Nat} {held : Bool} {cs : List Value} {x : DataW H × List MemPlace}
end
end Go.Proofs.Ytdpaobflknkbkaa
namespace Go.Proofs.Ytdpaobflknkbkaa
open Go.RowKit
set_option linter.unusedVariables false
inductive WideF : Fence → Prop
  | out : WideF Fence.wide
  | round (l : Nat) : WideF (Fence.wide.inRound l)
theorem WideF.fn {F : Fence} (h : WideF F) (f : FuncId) : F.fn f := by cases h <;> trivial
theorem WideF.free {F : Fence} (h : WideF F) {p : Prop} (hd : F.depth.isSome = true) : p := by cases h <;> simp [Fence.wide, Fence.inRound] at hd
theorem WideF.calls {F : Fence} (h : WideF F) {n : Nat} {P : Program} {f : FuncId} {args : Array Value} {w : World} {R : Ending → World → Prop} (hc : Calls P f args w R) : CallsIn F n P f args w R := by
  cases h with
  | out => exact callsIn_wide.2 hc
  | round l => exact CallsIn.inRound l (callsIn_wide.2 hc)
section
variable {F : Fence} {n : Nat} {P : Program} {ops : Array Oper} {md : Region.Mode} {Q : Exit → Act → World → Prop}
theorem wpIn_value {o : Oper} {a : Act} {w w' : World} {K : Act → World → Prop} (hF : WideF F) (hd : ∀ c, o.op ≠ .defer c) (v : Value) (h : (execOp a.eval o).run P w = .ok (.value v) w') (hK : K (a.put o.dst v) w') : o.wpIn F n P a w K Q := by
  refine ⟨fun f _ => hF.fn f, ?_⟩
  rw [Oper.semAt_plain F _ _ hd, h]
  exact hK
theorem wpIn_skip {o : Oper} {a : Act} {w w' : World} {K : Act → World → Prop} (hF : WideF F) (hd : ∀ c, o.op ≠ .defer c) (h : (execOp a.eval o).run P w = .ok .skip w') (hK : K (a.put o.dst undef) w') : o.wpIn F n P a w K Q := by
  refine ⟨fun f _ => hF.fn f, ?_⟩
  rw [Oper.semAt_plain F _ _ hd, h]
  exact hK
theorem wpListIn_value {rest : List Oper} {o : Oper} {a : Act} {w : World} (hF : WideF F) (hg : o.guard = none) (hd : ∀ c, o.op ≠ .defer c) (v : Value) (w' : World) (h : (execOp a.eval o).run P w = .ok (.value v) w') (hK : wpListIn F n P ops Q rest (a.put o.dst v) w') : wpListIn F n P ops Q (o :: rest) a w :=
  wpListIn_plain hg fun _ hK' => wpIn_value hF hd v h (hK' _ _ hK)
theorem wpListIn_skip_ {rest : List Oper} {o : Oper} {a : Act} {w : World} (hF : WideF F) (hg : o.guard = none) (hd : ∀ c, o.op ≠ .defer c) (w' : World) (h : (execOp a.eval o).run P w = .ok .skip w') (hK : wpListIn F n P ops Q rest (a.put o.dst undef) w') : wpListIn F n P ops Q (o :: rest) a w :=
  wpListIn_plain hg fun _ hK' => wpIn_skip hF hd h (hK' _ _ hK)
theorem wpAnyIn_of_seq : ∀ (l : List Oper) (k : Nat) (listed : Array Bool) (a : Act) (w : World), (∀ j, l[j]? = ops[k + j]?) →
    Region.seqB md ops l.length k listed = true → wpListIn F n P ops Q l a w → wpAnyIn F n P md ops Q l.length listed a w
  | [], _, _, _, _, _, hB, h => ⟨by simpa [Region.seqB] using hB, h⟩
  | o :: l, k, listed, a, w, hl, hB, h => by
    have h0 : ops[k]? = some o := by simpa using (hl 0).symm
    simp only [List.length_cons, Region.seqB, Bool.and_eq_true, decide_eq_true_eq] at hB
    refine ⟨fun h1 => (by rw [hB.1] at h1; cases h1), fun i hi => ?_⟩
    rw [hB.1] at hi
    have hik : i = k := by simpa using hi
    subst hik
    have hw : wpOpIn F n P ops Q i (wpListIn F n P ops Q l) a w := by unfold wpOpIn; simp only [h0]; exact h
    exact wpOpIn_mono (fun a' w' h' => wpAnyIn_of_seq l (i + 1) _ a' w' (fun j => by have := hl (j + 1); simpa [Nat.add_assoc, Nat.add_comm 1 j] using this) hB.2 h') hw
end
end Go.Proofs.Ytdpaobflknkbkaa
namespace Go.Proofs.Ytdpaobflknkbkaa
open Go.RowKit Go.ChangeShapes
set_option linter.unusedVariables false
theorem run_bytes_str {F : Nat → Prop} (w : World) (v : Value) (L : List UInt8) (h : BytesIn F w v L) : (convert 44 9 v).run Try.prog w = .ok (.string ⟨L.toArray⟩) w := by
  obtain ⟨ao, cap, rfl, h1, h2, h3, h4⟩ := h
  cases ao with
  | none =>
    obtain rfl := h3 rfl
    obtain rfl : L = [] := List.eq_nil_of_length_eq_zero (by omega)
    exact Lib.run_convert_nil_bytes w 44 9 5 0 Try.underlying44 Try.underlying5 Try.underlying9
  | some a =>
    refine run_convert_bytes_back w 44 9 5 a cap L Try.underlying44 Try.underlying5 Try.underlying9 (fun j hj => ?_)
    exact (h4 a rfl).1 j _ (by rw [List.getElem?_map, List.getElem?_eq_getElem hj]; rfl)
end Go.Proofs.Ytdpaobflknkbkaa
namespace Go.Proofs.Ytdpaobflknkbkaa
open Go.RowKit Go.ChangeShapes
set_option linter.unusedVariables false
theorem iterAt_grown (w : World) (k : Nat) (s : ByteArray) (pos : Nat) : w.grownBy (w.iterAt k s pos) (some k) :=
  ⟨rfl, rfl, rfl, by rw [Lib.iterAt_size]; exact Nat.le_refl _, fun i _ hi => Lib.iterAt_other w k i s pos (by intro e; exact hi (by rw [e]))⟩
theorem Fr.iterAt {S : Nat → Prop} {a w : World} (h : Fr S a w) {k : Nat} (hk : S k ∨ a.heap.size ≤ k) (s : ByteArray) (pos : Nat) : Fr S a (w.iterAt k s pos) :=
  h.grown (iterAt_grown w k s pos) (fun i hi => by cases hi; exact hk)
end Go.Proofs.Ytdpaobflknkbkaa
namespace Go.Proofs.Ytdpaobflknkbkaa
open Go.RowKit Go.ChangeShapes Go.WideMaps Go.Maps
set_option linter.unusedVariables false
structure Stop (p : Prop) : Prop where
  go : p
theorem stopAt {p : Prop} (h : Stop p) : p := h.go
def heldR9 : Value → Option (DataW Value × List MemPlace) := fun v => some (.held v, [])
theorem mapTurned_fr9 {w w' : World} {b : Nat} (h : w.mapTurned w' b) : Fr (fun k => k = b) w w' :=
  (Fr.refl _ w).grown h.grown (fun k hk => .inl (by injection hk with hk; exact hk.symm))
theorem ownsMap_kept9 {S : Nat → Prop} {w w' : World} {kt : TypeId} {b n : Nat} {D : DataW Value} (h : w.ownsMap Try.prog kt heldR9 b n D) (hf : Fr S w w') (hb : ¬ S b) : w'.ownsMap Try.prog kt heldR9 b n D := by
  obtain ⟨es, clock, h1, h2⟩ := h
  exact ⟨es, clock, hf.heap h1 hb, h2⟩
structure VKind (α : Type) where
  vi : (Nat → Prop) → World → Value → α → Prop
  keep : ∀ {F S : Nat → Prop} {w w' : World} {v : Value} {x : α}, vi F w v x → Fr S w w' → (∀ k, k < w.heap.size → F k → ¬ S k) → vi F w' v x
  mono : ∀ {F G : Nat → Prop} {w : World} {v : Value} {x : α}, vi F w v x → (∀ k, k < w.heap.size → F k → G k) → vi G w v x
def kR : VKind PathX := ⟨fun _ _ v x => v = .agg (pathC x.h x.n) ∧ x.n.size ≤ 64, fun h _ _ => h, fun h _ => h⟩
def kN : VKind Bs := ⟨fun F w v b => BytesIn F w v b ∧ b.length ≤ 2048, fun h hf hd => ⟨h.1.keep hf hd, h.2⟩, fun h hd => ⟨h.1.mono hd, h.2⟩⟩
abbrev Wf (i : Int) : Prop := (Lit.int .i64 i).wf = true
def upd {β : Type} (B : Int → β) (i : Int) (M : β) : Int → β := fun j => if j = i then M else B j
theorem upd_same {β : Type} (B : Int → β) (i : Int) (M : β) : upd B i M i = M := by simp [upd]
theorem upd_other {β : Type} (B : Int → β) {i j : Int} (M : β) (h : j ≠ i) : upd B i M j = B j := by simp [upd, h]
theorem upd_self {β : Type} (B : Int → β) (i : Int) : upd B i (B i) = B := by
  funext j
  by_cases h : j = i
  · rw [h, upd_same]
  · rw [upd_other _ _ h]
def ThAt {α : Type} (K : VKind α) (F : Nat → Prop) (w : World) (tm n : Nat) (B : Int → VT α) : Prop :=
  ∃ D : DataW Value, w.ownsMap Try.prog 114 heldR9 tm n D ∧ (∀ i s, Wf i → s.length ≤ maxLen → Maps.has D (keyP i s) = (vGet (B i) s).isSome) ∧
    (∀ i s x, Wf i → s.length ≤ maxLen → vGet (B i) s = some x → ∃ v, (∀ z, D.atKey (keyP i s) z = .held v) ∧ K.vi F w v x)
def MnAt (w : World) (mm n : Nat) (L : Int → Nat) : Prop :=
  ∃ D : DataW Value, w.ownsMap Try.prog 3 heldR9 mm n D ∧ ∀ i, Wf i → D.atKey (.int .i64 i) (.held (.int .i64 0)) = .held (.int .i64 (L i : Nat))
section
variable {α : Type} {K : VKind α} {F G S : Nat → Prop} {w w' : World} {tm mm n : Nat} {B : Int → VT α} {L : Int → Nat}
theorem ThAt.keep (h : ThAt K F w tm n B) (hf : Fr S w w') (hb : ¬ S tm) (hd : ∀ k, k < w.heap.size → F k → ¬ S k) : ThAt K F w' tm n B := by
  obtain ⟨D, h1, h2, h3⟩ := h
  refine ⟨D, ownsMap_kept9 h1 hf hb, h2, fun i s x hi hs hx => ?_⟩
  obtain ⟨v, hv, hb⟩ := h3 i s x hi hs hx
  exact ⟨v, hv, K.keep hb hf hd⟩
theorem ThAt.mono (h : ThAt K F w tm n B) (hd : ∀ k, k < w.heap.size → F k → G k) : ThAt K G w tm n B := by
  obtain ⟨D, h1, h2, h3⟩ := h
  refine ⟨D, h1, h2, fun i s x hi hs hx => ?_⟩
  obtain ⟨v, hv, hb⟩ := h3 i s x hi hs hx
  exact ⟨v, hv, K.mono hb hd⟩
theorem ThAt.lt (h : ThAt K F w tm n B) : tm < w.heap.size := by
  obtain ⟨D, h1, _⟩ := h
  exact h1.lt
theorem ThAt.more {m : Nat} (h : ThAt K F w tm n B) (hm : n ≤ m) : ThAt K F w tm m B := by
  obtain ⟨D, ⟨es, clock, hb, Ft, hs, hD⟩, h2⟩ := h
  exact ⟨D, ⟨es, clock, hb, Ft, Nat.le_trans hs hm, hD⟩, h2⟩
theorem ThAt.made (F : Nat → Prop) (w : World) : ThAt K F (w.alloc (.map #[] 0)) w.heap.size 0 (fun _ => []) :=
  ⟨.map [], World.ownsMap_made _ _ _ _, fun i s _ _ => rfl, fun i s x _ _ h => by cases h⟩
theorem MnAt.keep (h : MnAt w mm n L) (hf : Fr S w w') (hb : ¬ S mm) : MnAt w' mm n L := by
  obtain ⟨D, h1, h2⟩ := h
  exact ⟨D, ownsMap_kept9 h1 hf hb, h2⟩
theorem MnAt.lt (h : MnAt w mm n L) : mm < w.heap.size := by
  obtain ⟨D, h1, _⟩ := h
  exact h1.lt
theorem MnAt.more {m : Nat} (h : MnAt w mm n L) (hm : n ≤ m) : MnAt w mm m L := by
  obtain ⟨D, ⟨es, clock, hb, Ft, hs, hD⟩, h2⟩ := h
  exact ⟨D, ⟨es, clock, hb, Ft, Nat.le_trans hs hm, hD⟩, h2⟩
theorem MnAt.made (w : World) : MnAt (w.alloc (.map #[] 0)) w.heap.size 0 (fun _ => 0) := ⟨.map [], World.ownsMap_made _ _ _ _, fun i _ => rfl⟩
theorem MnAt.look (h : MnAt w mm n L) (i : Int) (hi : Wf i) : (Instr.lookup 116 (.map (some mm)) (.int .i64 i) false).run Try.prog w = .ok (.int .i64 (L i : Nat)) w := by
  obtain ⟨D, h1, h2⟩ := h
  obtain ⟨v, ps, hr, hv⟩ := h1.lookup (t := 116) (e := 3) (int_keyed Try.underlying3) Try.underlying116 (z := .int .i64 0) (by kernel_rfl) (zd := .held (.int .i64 0)) (zp := []) rfl (key := .int .i64 i) (kl := .int .i64 i) (keyOf_int_mk Try.underlying3 hi)
  rw [h2 i hi, heldR9] at hv
  simp only [Option.some.injEq, Prod.mk.injEq, DataW.held.injEq] at hv
  rw [hr, hv.1]
theorem MnAt.put (h : MnAt w mm n L) (hn : n < 1000000) (i : Int) (hi : Wf i) (m : Nat) : ∃ w', (Instr.mapUpdate 116 (.map (some mm)) (.int .i64 i) (.int .i64 (m : Nat))).run Try.prog w = .ok () w' ∧ MnAt w' mm (n + 1) (upd L i m) ∧ Fr (fun k => k = mm) w w' := by
  obtain ⟨D, h1, h2⟩ := h
  have him : IsMap D := h1.isMap
  obtain ⟨w', hr, ho, ht⟩ := h1.store (t := 116) (e := 3) (int_keyed Try.underlying3) Try.underlying116 (by unfold maxLen; omega) (key := .int .i64 i) (kl := .int .i64 i) (keyOf_int_mk Try.underlying3 hi) (val := .int .i64 (m : Nat)) (d := .held (.int .i64 (m : Nat))) (ps := []) rfl
  refine ⟨w', hr, ⟨_, ho, fun j hj => ?_⟩, mapTurned_fr9 ht⟩
  by_cases e : j = i
  · subst e
    rw [upd_same]
    exact atKey_put_same him (by simp [WideAt.IsKeyLit]) _ _
  · rw [upd_other _ _ e, atKey_put_other (fun h => e (by injection h))]
    exact h2 j hj
theorem ThAt.put' {MT ET : TypeId} (hMT : Try.prog.underlying MT = some (.map 114 ET)) (h : ThAt K F w tm n B) (hn : n < 1000000) (i : Int) (hi : Wf i) (N : ByteArray) (hN : N.size ≤ maxLen) (hB : VOk (B i)) (v : Value) (x : α) (hv : K.vi F w v x) (hF : ¬ F tm) :
    ∃ w', (Instr.mapUpdate MT (.map (some tm)) (.agg (plC i N)) v).run Try.prog w = .ok () w' ∧ ThAt K F w' tm (n + 1) (upd B i (vPut (B i) N.data.toList x)) ∧ Fr (fun k => k = tm) w w' := by
  obtain ⟨D, h1, h2, h3⟩ := h
  have him : IsMap D := h1.isMap
  have hNl : N.data.toList.length ≤ maxLen := by rw [size_list]; exact hN
  obtain ⟨w', hr, ho, ht⟩ := h1.store (t := MT) (e := ET) lawPl hMT (by unfold maxLen; omega) (keyP_of i N hi hN) (val := v) (d := .held v) (ps := []) rfl
  have hf := mapTurned_fr9 ht
  have hFm : ∀ k, k < w.heap.size → F k → ¬ k = tm := fun k _ hk e => hF (e ▸ hk)
  refine ⟨w', hr, ⟨_, ho, fun j s hj hs => ?_, fun j s y hj hs hy => ?_⟩, hf⟩
  · by_cases e : j = i ∧ s = N.data.toList
    · obtain ⟨rfl, rfl⟩ := e
      rw [has_put_same him (keyP_lit _ _), upd_same, vGet_put_same]
      rfl
    · rw [has_put_other (fun h => e (keyP_inj hj hi hs hNl h)), h2 j s hj hs]
      by_cases e1 : j = i
      · subst e1
        rw [upd_same, vGet_put_other (fun h => e ⟨rfl, h⟩)]
      · rw [upd_other _ _ e1]
  · by_cases e : j = i ∧ s = N.data.toList
    · obtain ⟨rfl, rfl⟩ := e
      rw [upd_same, vGet_put_same] at hy
      obtain rfl := Option.some.inj hy
      exact ⟨v, fun z => atKey_put_same him (keyP_lit _ _) _ z, K.keep hv hf hFm⟩
    · have hy2 : vGet (B j) s = some y := by
        by_cases e1 : j = i
        · subst e1
          rwa [upd_same, vGet_put_other (fun h => e ⟨rfl, h⟩)] at hy
        · rwa [upd_other _ _ e1] at hy
      obtain ⟨u, hu, hbu⟩ := h3 j s y hj hs hy2
      exact ⟨u, fun z => by rw [atKey_put_other (fun h => e (keyP_inj hj hi hs hNl h))]; exact hu z, K.keep hbu hf hFm⟩
theorem ThAt.del' {MT ET : TypeId} (hMT : Try.prog.underlying MT = some (.map 114 ET)) (h : ThAt K F w tm n B) (i : Int) (hi : Wf i) (N : ByteArray) (hN : N.size ≤ maxLen) (hF : ¬ F tm) (ty : TypeId) :
    ∃ w', (Builtin.delete_ #[MT, 114] ty #[.map (some tm), .agg (plC i N)]).run Try.prog w = .ok (.tuple #[]) w' ∧ ThAt K F w' tm n (upd B i (vDel (B i) N.data.toList)) ∧ Fr (fun k => k = tm) w w' := by
  obtain ⟨D, h1, h2, h3⟩ := h
  have hNl : N.data.toList.length ≤ maxLen := by rw [size_list]; exact hN
  have hti := h1.tidy lawPl
  obtain ⟨w', hr, ho, ht⟩ := h1.drop (t := MT) (e := ET) lawPl hMT (keyP_of i N hi hN) ty
  have hf := mapTurned_fr9 ht
  have hFm : ∀ k, k < w.heap.size → F k → ¬ k = tm := fun k _ hk e => hF (e ▸ hk)
  refine ⟨w', hr, ⟨_, ho, fun j s hj hs => ?_, fun j s y hj hs hy => ?_⟩, hf⟩
  · by_cases e : j = i ∧ s = N.data.toList
    · obtain ⟨rfl, rfl⟩ := e
      rw [has_del_same, upd_same, vGet_del_same]
      rfl
    · rw [has_del_other (fun h => e (keyP_inj hj hi hs hNl h)), h2 j s hj hs]
      by_cases e1 : j = i
      · subst e1
        rw [upd_same, vGet_del_other (fun h => e ⟨rfl, h⟩)]
      · rw [upd_other _ _ e1]
  · by_cases e : j = i ∧ s = N.data.toList
    · obtain ⟨rfl, rfl⟩ := e
      rw [upd_same, vGet_del_same] at hy
      cases hy
    · have hy2 : vGet (B j) s = some y := by
        by_cases e1 : j = i
        · subst e1
          rwa [upd_same, vGet_del_other (fun h => e ⟨rfl, h⟩)] at hy
        · rwa [upd_other _ _ e1] at hy
      obtain ⟨u, hu, hbu⟩ := h3 j s y hj hs hy2
      exact ⟨u, fun z => by rw [atKey_del_other (fun h => e (keyP_inj hj hi hs hNl h))]; exact hu z, K.keep hbu hf hFm⟩
theorem ThAt.look' {MT ET : TypeId} {z : Value} (hMT : Try.prog.underlying MT = some (.map 114 ET)) (hz : (zeroValue ET).run Try.prog w = .ok z w) (h : ThAt K F w tm n B) (i : Int) (hi : Wf i) (N : ByteArray) (hN : N.size ≤ maxLen) :
    ∃ v, (Instr.lookup MT (.map (some tm)) (.agg (plC i N)) true).run Try.prog w = .ok (.tuple #[v, .bool (vGet (B i) N.data.toList).isSome]) w ∧ (Instr.lookup MT (.map (some tm)) (.agg (plC i N)) false).run Try.prog w = .ok v w ∧ (∀ x, vGet (B i) N.data.toList = some x → K.vi F w v x) ∧ (vGet (B i) N.data.toList = none → v = z) := by
  obtain ⟨D, h1, h2, h3⟩ := h
  have hNl : N.data.toList.length ≤ maxLen := by rw [size_list]; exact hN
  obtain ⟨v, ps, hr, hv⟩ := h1.look_ok (t := MT) (e := ET) lawPl hMT (z := z) hz (zd := .held z) (zp := []) rfl (keyP_of i N hi hN)
  obtain ⟨v2, ps2, hr2, hv2⟩ := h1.lookup (t := MT) (e := ET) lawPl hMT (z := z) hz (zd := .held z) (zp := []) rfl (keyP_of i N hi hN)
  rw [h2 i _ hi hNl] at hr
  have e : v2 = v := by
    have a := hv
    have b := hv2
    simp only [heldR9, Option.some.injEq, Prod.mk.injEq] at a b
    have c := b.1.trans a.1.symm
    injection c
  rw [e] at hr2
  refine ⟨v, hr, hr2, fun x hx => ?_, fun hn => ?_⟩
  · obtain ⟨u, hu, hbu⟩ := h3 i _ x hi hNl hx
    rw [hu, heldR9] at hv
    simp only [Option.some.injEq, Prod.mk.injEq, DataW.held.injEq] at hv
    rw [hv.1]
    exact hbu
  · rw [atKey_of_not_has (by rw [h2 i _ hi hNl, hn]; rfl), heldR9] at hv
    simp only [Option.some.injEq, Prod.mk.injEq, DataW.held.injEq] at hv
    exact hv.1
end
structure BkAt {α : Type} (K : VKind α) (T : TypeId) (F : Nat → Prop) (w : World) (bk tm mm n : Nat) (B : Int → VT α) : Prop where
  row : w.heap[bk]? = some (.cells #[.map (some tm), .map (some mm)] T (0, 0))
  th : ThAt K F w tm n B
  mn : MnAt w mm n (fun i => (B i).length)
  ok : ∀ i, VOk (B i) ∧ (B i).length ≤ n ∧ ∀ p ∈ B i, p.1.length ≤ 64
  sep : bk ≠ tm ∧ bk ≠ mm ∧ tm ≠ mm ∧ ¬ F bk ∧ ¬ F tm ∧ ¬ F mm
section
variable {α : Type} {K : VKind α} {T : TypeId} {F G S : Nat → Prop} {w w' : World} {bk tm mm n : Nat} {B : Int → VT α}
theorem BkAt.cells (h : BkAt K T F w bk tm mm n B) : w.cell? ⟨bk, 0, none⟩ = some (.map (some tm)) ∧ w.cell? ⟨bk, 1, none⟩ = some (.map (some mm)) := ⟨cell_of_row _ _ _ _ _ _ h.row, cell_of_row _ _ _ _ _ _ h.row⟩
theorem BkAt.lt (h : BkAt K T F w bk tm mm n B) : bk < w.heap.size ∧ tm < w.heap.size ∧ mm < w.heap.size := ⟨lt_of_block h.row, h.th.lt, h.mn.lt⟩
theorem BkAt.keep (h : BkAt K T F w bk tm mm n B) (hf : Fr S w w') (h1 : ¬ S bk) (h2 : ¬ S tm) (h3 : ¬ S mm) (hd : ∀ k, k < w.heap.size → F k → ¬ S k) : BkAt K T F w' bk tm mm n B :=
  ⟨hf.heap h.row h1, h.th.keep hf h2 hd, h.mn.keep hf h3, h.ok, h.sep⟩
theorem BkAt.quiet (h : BkAt K T F w bk tm mm n B) (hf : Fr (fun _ => False) w w') : BkAt K T F w' bk tm mm n B := h.keep hf id id id (fun _ _ _ h => h)
theorem BkAt.more {m : Nat} (h : BkAt K T F w bk tm mm n B) (hm : n ≤ m) : BkAt K T F w bk tm mm m B :=
  ⟨h.row, h.th.more hm, h.mn.more hm, fun i => ⟨(h.ok i).1, Nat.le_trans (h.ok i).2.1 hm, (h.ok i).2.2⟩, h.sep⟩
end
end Go.Proofs.Ytdpaobflknkbkaa
namespace Go.Proofs.Ytdpaobflknkbkaa
open Go.RowKit Go.ChangeShapes
set_option linter.unusedVariables false
def Elems (k : Nat) (F : Nat → Prop) (w : World) (v : Value) (css : List (List Value)) : Prop :=
  ∃ ao cap, v = .slice ao css.length cap ∧ css.length ≤ cap ∧ cap ≤ 9223372036854775807 ∧ (∀ c ∈ css, c.length = k) ∧
    (css ≠ [] → ∃ b off, ao = some ⟨b, off, none⟩ ∧ F b ∧ ∀ i (h : i < css.length) j, j < k → w.cell? ⟨b, off + i * k + j, none⟩ = css[i][j]?)
theorem Elems.nil (k : Nat) (F : Nat → Prop) (w : World) : Elems k F w (.slice none 0 0) [] := ⟨none, 0, rfl, Nat.le_refl _, by simp, (fun _ h => by cases h), fun h => absurd rfl h⟩
theorem Elems.keep {k : Nat} {F S : Nat → Prop} {w w' : World} {v : Value} {css : List (List Value)} (h : Elems k F w v css) (hf : Fr S w w') (hd : ∀ b, b < w.heap.size → F b → ¬ S b) : Elems k F w' v css := by
  obtain ⟨ao, cap, hv, h1, h2, h3, h4⟩ := h
  refine ⟨ao, cap, hv, h1, h2, h3, fun hl => ?_⟩
  obtain ⟨b, off, ha, hF, hi⟩ := h4 hl
  refine ⟨b, off, ha, hF, fun i h j hj => ?_⟩
  have h5 := hi i h j hj
  have hlen := h3 _ (List.getElem_mem h)
  rw [List.getElem?_eq_getElem (by omega)] at h5 ⊢
  exact hf.cell h5 (hd b (World.block_lt_of_cell? _ _ h5) hF)
theorem Elems.mono {k : Nat} {F G : Nat → Prop} {w : World} {v : Value} {css : List (List Value)} (h : Elems k F w v css) (hk : 0 < k) (hd : ∀ b, b < w.heap.size → F b → G b) : Elems k G w v css := by
  obtain ⟨ao, cap, hv, h1, h2, h3, h4⟩ := h
  refine ⟨ao, cap, hv, h1, h2, h3, fun hl => ?_⟩
  obtain ⟨b, off, ha, hF, hi⟩ := h4 hl
  have hp := List.length_pos_iff.2 hl
  have h5 := hi 0 hp 0 hk
  have hlen := h3 _ (List.getElem_mem hp)
  rw [List.getElem?_eq_getElem (by omega)] at h5
  exact ⟨b, off, ha, hd b (World.block_lt_of_cell? _ _ h5) hF, hi⟩
theorem flat_get {α : Type} {k : Nat} : ∀ (css : List (List α)), (∀ c ∈ css, c.length = k) → ∀ i (h : i < css.length) j, j < k → css.flatten[i * k + j]? = css[i][j]?
  | [], _, i, h, _, _ => by simp at h
  | c :: css, hc, 0, h, j, hj => by
    have := hc c List.mem_cons_self
    rw [List.flatten_cons, Nat.zero_mul, Nat.zero_add, List.getElem?_append_left (by omega)]
    rfl
  | c :: css, hc, i + 1, h, j, hj => by
    have := hc c List.mem_cons_self
    have e : (i + 1) * k + j - c.length = i * k + j := by rw [Nat.add_mul, this]; omega
    have e2 : k ≤ (i + 1) * k := by rw [Nat.add_mul]; omega
    rw [List.flatten_cons, List.getElem?_append_right (by omega), e, flat_get css (fun d hd => hc d (List.mem_cons_of_mem _ hd)) i (by simpa using h) j hj]
    rfl
theorem flat_len {α : Type} {k : Nat} : ∀ (css : List (List α)), (∀ c ∈ css, c.length = k) → css.flatten.length = css.length * k
  | [], _ => by simp
  | c :: css, hc => by rw [List.flatten_cons, List.length_append, hc c List.mem_cons_self, flat_len css (fun d hd => hc d (List.mem_cons_of_mem _ hd)), List.length_cons, Nat.add_mul]; omega
structure OwnE (T : TypeId) (k z : Nat) (w : World) (v : Value) (css : List (List Value)) : Prop where
  row : w.ownsRow z T k v css.length css.flatten
  each : ∀ c ∈ css, c.length = k
theorem OwnE.nil (T : TypeId) (k z : Nat) (w : World) : OwnE T k z w (.slice none 0 0) [] := ⟨World.ownsRow_nil _ _ _ _, fun _ h => by cases h⟩
theorem OwnE.keep {S : Nat → Prop} {T : TypeId} {k z : Nat} {w w' : World} {v : Value} {css : List (List Value)} (h : OwnE T k z w v css) (hf : Fr S w w') (hd : ∀ g, v.ownBlock = some g → ¬ S g) : OwnE T k z w' v css := by
  refine ⟨⟨h.row.1, ?_⟩, h.each⟩
  rcases h.row.2 with e | ⟨g, cap, cur, hv, hb, hg, r⟩
  · exact .inl e
  · exact .inr ⟨g, cap, cur, hv, hb, hf.heap hg (hd g (by rw [hv]; rfl)), r⟩
theorem OwnE.own {T : TypeId} {k z : Nat} {w : World} {v : Value} {css : List (List Value)} (h : OwnE T k z w v css) (g : Nat) (hg : v.ownBlock = some g) : z ≤ g ∧ g < w.heap.size := by
  rcases h.row.2 with ⟨hv, _⟩ | ⟨g', cap, cur, hv, hb, hg', _⟩
  · rw [hv] at hg; simp [Value.ownBlock] at hg
  · rw [hv] at hg
    simp only [Value.ownBlock, Option.some.injEq] at hg
    exact hg ▸ ⟨hb, lt_of_block hg'⟩
theorem OwnE.elems {T : TypeId} {k z : Nat} {w : World} {v : Value} {css : List (List Value)} (h : OwnE T k z w v css) : Elems k (fun b => v.ownBlock = some b) w v css := by
  rcases h.row.2 with ⟨hv, h0⟩ | ⟨g, cap, cur, hv, hb, hg, hnc, hcm, hcs, ht⟩
  · obtain rfl := List.eq_nil_of_length_eq_zero h0
    rw [hv]
    exact Elems.nil _ _ _
  · unfold maxLen at hcm
    refine ⟨_, cap, hv, hnc, by omega, h.each, fun _ => ⟨g, 0, rfl, by rw [hv]; rfl, fun i hi j hj => ?_⟩⟩
    have hfl := flat_len css h.each
    have hlt : i * k + j < css.length * k := Nat.lt_of_lt_of_le (show i * k + j < (i + 1) * k by rw [Nat.add_mul]; omega) (Nat.mul_le_mul_right k hi)
    have hr := h.row
    rw [hv] at hr
    have := World.ownsRow.cellAt hr (i * k + j) (by omega)
    rw [Nat.zero_add, this, flat_get css h.each i hi j hj]
theorem OwnE.form {T : TypeId} {k z : Nat} {w : World} {v : Value} {css : List (List Value)} (h : OwnE T k z w v css) : ∃ ao c, v = .slice ao css.length c := by
  obtain ⟨ao, c, hv, _⟩ := h.elems
  exact ⟨ao, c, hv⟩
theorem run_append_e {T ST : TypeId} {k bs : Nat} {zv : Value} {i0 : TypeInfo} (hu : Try.prog.underlying ST = some (.slice T)) (hinf : (Try.prog.info? T).map (fun i => (i.zero, i.size, i.bytes)) = some (some zv, k, bs)) (hzs : zv.cells.size = k) (hk0 : 0 < k) (hbs : bs ≤ 100)
    {F : Nat → Prop} {z : Nat} (w : World) (ty : TypeId) (v x : Value) (css dss : List (List Value)) (hown : OwnE T k z w v css) (hx : Elems k F w x dss) (h1 : ∀ c ∈ dss, ∀ u ∈ c, u.oneCell' = true) (hz : z ≤ w.heap.size) (hn : css.length + dss.length ≤ 1000000) :
    ∃ v' w', (Builtin.append_ #[ST, ST] ty #[v, x]).run Try.prog w = .ok v' w' ∧ OwnE T k z w' v' (css ++ dss) ∧ w.grownBy w' v.ownBlock ∧ (v'.ownBlock = v.ownBlock ∨ v'.ownBlock = some w.heap.size) := by
  obtain ⟨i0, hi, hz0, hz1, hz2⟩ := info_parts hinf
  have heach : ∀ c ∈ css ++ dss, c.length = k := by
    obtain ⟨_, _, _, _, _, h3, _⟩ := hx
    intro c hc
    rcases List.mem_append.1 hc with hc | hc
    · exact hown.each c hc
    · exact h3 c hc
  obtain ⟨ao, cap, rfl, hc1, hc2, h3, h4⟩ := hx
  by_cases he : dss = []
  · subst he
    rw [List.append_nil]
    cases ao with
    | none =>
      have hcap : cap = 0 ∨ cap ≠ 0 := by omega
      rcases hcap with rfl | hcap
      · exact ⟨v, w, run_append_owned_none (P := Try.prog) (w := w) z ST ty T i0 k hu hi v css.length _ hown.row, hown, World.grownBy.refl _ _, .inl rfl⟩
      · exact ⟨v, w, run_append_owned_none (P := Try.prog) (w := w) z ST ty T i0 k hu hi v css.length _ hown.row, hown, World.grownBy.refl _ _, .inl rfl⟩
    | some a =>
      obtain ⟨v', w', hr, r2, r3, r4, r5⟩ := run_append_own_at (P := Try.prog) w z ST ty T i0 zv k bs hu hi hz0 hz1 hz2 hzs hk0 v css.length _ hown.row a 0 cap [] (by simp) (by simp) (by simp) (by unfold maxLen; simp at hn; omega) (Nat.le_trans (Nat.mul_le_mul (show css.length + 0 ≤ 1000000 by simpa using hn) hbs) (by decide)) hz
      exact ⟨v', w', hr, ⟨by simpa using r2, hown.each⟩, r3, r5⟩
  · obtain ⟨b, off, rfl, hF, hcell⟩ := h4 he
    obtain ⟨v', w', hr, r2, r3, r4, r5⟩ := run_append_own_at (P := Try.prog) w z ST ty T i0 zv k bs hu hi hz0 hz1 hz2 hzs hk0 v css.length _ hown.row ⟨b, off, none⟩ dss.length cap dss.flatten (flat_len dss h3) (fun j u hu => by
        have hfl := flat_len dss h3
        have hj : j < dss.flatten.length := (List.getElem?_eq_some_iff.1 hu).1
        rw [hfl] at hj
        have hq : j / k < dss.length := Nat.div_lt_of_lt_mul (by rw [Nat.mul_comm]; exact hj)
        have hm := Nat.div_add_mod j k
        have hml := Nat.mod_lt j hk0
        have e : off + (j / k) * k + j % k = off + j := by rw [Nat.mul_comm (j / k) k]; omega
        have h5 := hcell (j / k) hq (j % k) hml
        rw [e, ← flat_get dss h3 (j / k) hq (j % k) hml, show (j / k) * k + j % k = j by rw [Nat.mul_comm]; omega, hu] at h5
        rw [addr_plain]
        exact h5) (fun u hu => by
        obtain ⟨c, hc, huc⟩ := List.mem_flatten.1 hu
        exact h1 c hc u huc) (by unfold maxLen; omega) (Nat.le_trans (Nat.mul_le_mul hn hbs) (by decide)) hz
    refine ⟨v', w', hr, ⟨?_, heach⟩, r3, r5⟩
    rw [List.length_append, List.flatten_append]
    exact r2
theorem wpList_append_e {T ST : TypeId} {k bs : Nat} {zv : Value} (hu : Try.prog.underlying ST = some (.slice T)) (hinf : (Try.prog.info? T).map (fun i => (i.zero, i.size, i.bytes)) = some (some zv, k, bs)) (hzs : zv.cells.size = k) (hk0 : 0 < k) (hbs : bs ≤ 100)
    {F : Nat → Prop} {z : Nat} (w : World) {ops : Array Oper} {rest : List Oper} {o : Oper} {a : Act} {Q : Exit → Act → World → Prop} (hgd : o.guard = none) (s x : Operand)
    (hop : o.op = Op.call { callee := Callee.builtin Builtin.append, args := #[s, x], argTypes := #[ST, ST] })
    (v y : Value) (css dss : List (List Value)) (hs : a.eval s = v) (hx : a.eval x = y) (hown : OwnE T k z w v css) (he : Elems k F w y dss) (h1 : ∀ c ∈ dss, ∀ u ∈ c, u.oneCell' = true) (hz : z ≤ w.heap.size) (hn : css.length + dss.length ≤ 1000000)
    (hK : ∀ v' w', OwnE T k z w' v' (css ++ dss) → w.grownBy w' v.ownBlock → (v'.ownBlock = v.ownBlock ∨ v'.ownBlock = some w.heap.size) → wpList Try.prog ops Q rest (a.put o.dst v') w') : wpList Try.prog ops Q (o :: rest) a w := by
  refine wpList_plain hgd fun K hK' => ?_
  subst hs
  subst hx
  obtain ⟨i0, hi⟩ : ∃ i, Try.prog.info? T = some i := by
    cases h : Try.prog.info? T with
    | none => rw [h] at hinf; cases hinf
    | some i => exact ⟨i, rfl⟩
  obtain ⟨v', w', hr, r1, r2, r3⟩ := run_append_e (i0 := i0) hu hinf hzs hk0 hbs w o.type _ _ css dss hown he h1 hz hn
  unfold Oper.wp
  simp [execOp, hop, resolve, invoke, builtin, hr, Result.andThen]
  exact hK' _ _ (hK v' w' r1 r2 r3)
theorem Elems.ofBlock {k : Nat} {w : World} {b : Nat} {T : TypeId} {c : List Value} (h : w.heap[b]? = some (.cells c.toArray T (0, 0))) (hc : c.length = k) : Elems k (fun j => j = b) w (.slice (some ⟨b, 0, none⟩) 1 1) [c] := by
  refine ⟨_, 1, rfl, Nat.le_refl _, by decide, (fun d hd => by rw [List.mem_singleton.1 hd]; exact hc), fun _ => ⟨b, 0, rfl, rfl, fun i hi j hj => ?_⟩⟩
  have : i = 0 := by simp at hi; omega
  subst this
  rw [cell_of_row _ _ _ _ _ _ h]
  simp
end Go.Proofs.Ytdpaobflknkbkaa
