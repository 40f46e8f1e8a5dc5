/- Laid together: SortL SortC SortOps RfO RfRw RfAw -/
import Derived.Test.YtfkgdjoaoidkeaaGreatRz4
import Derived.Test.YtfkgdjoaoidkeaaGreatShelf
import Derived.Test.YtfkgdjoaoidkeaaGreatShelfS
import Derived.Deep.MidRow
import Derived.Test.YtfkgdjoaoidkeaaGreatRz3
import Derived.Test.YtfkgdjoaoidkeaaGreatRz0

namespace Go.Proofs.YtfkgdjoaoidkeaaGreat
set_option linter.unusedVariables false
section
variable {α : Type} (lt : α → α → Bool)
def aboveL (out : List α) (x : α) : Bool := match out.getLast? with | none => true | some y => lt y x
def nextS (out : List α) (best : Option α) (x : α) : Option α := if (aboveL lt out x && (match best with | none => true | some b => lt x b)) = true then some x else best
def nextL (l out : List α) (n : Nat) : Option α := (l.take n).foldl (nextS lt out) none
theorem nextL_zero (l out : List α) : nextL lt l out 0 = none := by simp [nextL]
theorem nextL_succ (l out : List α) (n : Nat) (h : n < l.length) : nextL lt l out (n + 1) = nextS lt out (nextL lt l out n) l[n] := by
  rw [nextL, nextL, List.take_succ_eq_append_getElem h, List.foldl_append]
  rfl
structure Strict (lt : α → α → Bool) : Prop where
  irr : ∀ a, lt a a = false
  trans : ∀ a b c, lt a b = true → lt b c = true → lt a c = true
  tri : ∀ a b, lt a b = false → lt b a = false → a = b
variable {lt}
theorem nextL_says (S : Strict lt) (l out : List α) : ∀ n, n ≤ l.length →
    match nextL lt l out n with
    | none => ∀ x ∈ l.take n, aboveL lt out x = false
    | some b => b ∈ l.take n ∧ aboveL lt out b = true ∧ ∀ x ∈ l.take n, aboveL lt out x = true → lt x b = false := by
  intro n
  induction n with
  | zero => intro _; simp [nextL]
  | succ n ih =>
    intro h
    have hl : n < l.length := by omega
    have ih := ih (by omega)
    rw [nextL_succ lt l out n hl, List.take_succ_eq_append_getElem hl]
    cases hb : nextL lt l out n with
    | none =>
      rw [hb] at ih
      cases ha : aboveL lt out l[n] with
      | false =>
        simp only [nextS, ha, Bool.false_and, Bool.false_eq_true, if_false]
        intro x hx
        rcases List.mem_append.1 hx with h | h
        · exact ih x h
        · obtain rfl := List.mem_singleton.1 h; exact ha
      | true =>
        rw [show nextS lt out none l[n] = some l[n] by simp [nextS, ha]]
        refine ⟨List.mem_append_right _ (List.mem_singleton.2 rfl), ha, fun x hx hxa => ?_⟩
        rcases List.mem_append.1 hx with h | h
        · rw [ih x h] at hxa; cases hxa
        · obtain rfl := List.mem_singleton.1 h; exact S.irr _
    | some b =>
      rw [hb] at ih
      obtain ⟨i1, i2, i3⟩ := ih
      cases ha : (aboveL lt out l[n] && lt l[n] b) with
      | false =>
        simp only [nextS, ha, Bool.false_eq_true, if_false]
        refine ⟨List.mem_append_left _ i1, i2, fun x hx hxa => ?_⟩
        rcases List.mem_append.1 hx with h | h
        · exact i3 x h hxa
        · obtain rfl := List.mem_singleton.1 h
          rw [hxa, Bool.true_and] at ha
          exact ha
      | true =>
        rw [show nextS lt out (some b) l[n] = some l[n] by simp only [nextS, ha, if_true]]
        rw [Bool.and_eq_true] at ha
        refine ⟨List.mem_append_right _ (List.mem_singleton.2 rfl), ha.1, fun x hx hxa => ?_⟩
        rcases List.mem_append.1 hx with h | h
        · have h1 := i3 x h hxa
          cases h2 : lt x l[n] with
          | false => rfl
          | true => rw [S.trans _ _ _ h2 ha.2] at h1; cases h1
        · obtain rfl := List.mem_singleton.1 h; exact S.irr _
def Asc (lt : α → α → Bool) (l : List α) : Prop := l.Pairwise fun a b => lt a b = true
theorem Asc.nodup (S : Strict lt) {l : List α} (h : Asc lt l) : l.Nodup := List.Pairwise.imp (fun {a b} hab => by rintro rfl; rw [S.irr] at hab; cases hab) h
theorem Asc.last (S : Strict lt) {l : List α} (h : Asc lt l) (y : α) (hy : l.getLast? = some y) : ∀ x ∈ l, x = y ∨ lt x y = true := by
  obtain ⟨l', rfl⟩ := List.getLast?_eq_some_iff.1 hy
  intro x hx
  rcases List.mem_append.1 hx with hx | hx
  · exact .inr ((List.pairwise_append.1 h).2.2 x hx y (by simp))
  · exact .inl (List.mem_singleton.1 hx)
structure Upto (lt : α → α → Bool) (l out : List α) : Prop where
  asc : Asc lt out
  sub : ∀ x ∈ out, x ∈ l
  all : ∀ x ∈ l, x ∈ out ∨ aboveL lt out x = true
theorem Upto.nil (l : List α) : Upto lt l [] := ⟨List.Pairwise.nil, by simp, fun x _ => .inr rfl⟩
theorem Upto.next (S : Strict lt) {l out : List α} (h : Upto lt l out) {b : α} (hb : nextL lt l out l.length = some b) : Upto lt l (out ++ [b]) := by
  have hs := nextL_says S l out l.length (Nat.le_refl _)
  rw [hb, List.take_length] at hs
  obtain ⟨s1, s2, s3⟩ := hs
  refine ⟨?_, ?_, ?_⟩
  · refine List.pairwise_append.2 ⟨h.asc, by simp, fun x hx y hy => ?_⟩
    obtain rfl := List.mem_singleton.1 hy
    cases hl : out.getLast? with
    | none => rw [List.getLast?_eq_none_iff.1 hl] at hx; cases hx
    | some z =>
      rw [aboveL, hl] at s2
      rcases h.asc.last S z hl x hx with rfl | h1
      · exact s2
      · exact S.trans _ _ _ h1 s2
  · intro x hx
    rcases List.mem_append.1 hx with hx | hx
    · exact h.sub x hx
    · obtain rfl := List.mem_singleton.1 hx; exact s1
  · intro x hx
    rcases h.all x hx with h1 | h1
    · exact .inl (List.mem_append_left _ h1)
    · have h2 := s3 x hx h1
      rw [aboveL, show (out ++ [b]).getLast? = some b by simp]
      show x ∈ out ++ [b] ∨ lt b x = true
      cases h3 : lt b x with
      | true => exact .inr rfl
      | false => exact .inl (by rw [S.tri x b h2 h3]; simp)
theorem Upto.done (S : Strict lt) {l out : List α} (h : Upto lt l out) (hb : nextL lt l out l.length = none) : ∀ x, x ∈ out ↔ x ∈ l := by
  have hs := nextL_says S l out l.length (Nat.le_refl _)
  rw [hb, List.take_length] at hs
  refine fun x => ⟨h.sub x, fun hx => ?_⟩
  rcases h.all x hx with h1 | h1
  · exact h1
  · rw [hs x hx] at h1; cases h1
theorem Asc.same (S : Strict lt) : ∀ {l m : List α}, Asc lt l → Asc lt m → (∀ x, x ∈ l ↔ x ∈ m) → l = m := by
  intro l
  induction l with
  | nil =>
    intro m _ _ h
    cases m with
    | nil => rfl
    | cons y m => exact absurd ((h y).2 (by simp)) (by simp)
  | cons x l ih =>
    intro m hl hm h
    cases m with
    | nil => exact absurd ((h x).1 (by simp)) (by simp)
    | cons y m =>
      obtain ⟨l1, l2⟩ := List.pairwise_cons.1 hl
      obtain ⟨m1, m2⟩ := List.pairwise_cons.1 hm
      have hxy : x = y := by
        rcases List.mem_cons.1 ((h x).1 (by simp)) with rfl | h1
        · rfl
        · rcases List.mem_cons.1 ((h y).2 (by simp)) with rfl | h2
          · rfl
          · have := S.trans _ _ _ (l1 y h2) (m1 x h1)
            rw [S.irr] at this
            cases this
      subst hxy
      rw [ih l2 m2 (fun z => ⟨fun hz => ?_, fun hz => ?_⟩)]
      · rcases List.mem_cons.1 ((h z).1 (List.mem_cons_of_mem _ hz)) with rfl | h1
        · have := l1 z hz; rw [S.irr] at this; cases this
        · exact h1
      · rcases List.mem_cons.1 ((h z).2 (List.mem_cons_of_mem _ hz)) with rfl | h1
        · have := m1 z hz; rw [S.irr] at this; cases this
        · exact h1
theorem nodup_le [DecidableEq α] : ∀ {l m : List α}, l.Nodup → (∀ x ∈ l, x ∈ m) → l.length ≤ m.length := by
  intro l
  induction l with
  | nil => intro m _ _; simp
  | cons x l ih =>
    intro m h hs
    obtain ⟨h1, h2⟩ := List.nodup_cons.1 h
    have hx := hs x (by simp)
    have := ih (m := m.erase x) h2 (fun y hy => by
      have hne : y ≠ x := by rintro rfl; exact h1 hy
      exact (List.mem_erase_of_ne hne).2 (hs y (List.mem_cons_of_mem _ hy)))
    rw [List.length_erase_of_mem hx] at this
    have hp := List.length_pos_of_mem hx
    simp only [List.length_cons]
    omega
theorem Upto.short [DecidableEq α] (S : Strict lt) {l out : List α} (h : Upto lt l out) : out.length ≤ l.length := nodup_le (h.asc.nodup S) h.sub
end
theorem bytesLess_trans : ∀ (a b c : List UInt8), Op.bytesLess a b = true → Op.bytesLess b c = true → Op.bytesLess a c = true := by
  intro a
  induction a with
  | nil =>
    intro b c h1 h2
    cases c with
    | nil => simp [Op.bytesLess] at h2
    | cons z c => rfl
  | cons x a ih =>
    intro b c h1 h2
    cases b with
    | nil => simp [Op.bytesLess] at h1
    | cons y b =>
      cases c with
      | nil => simp [Op.bytesLess] at h2
      | cons z c =>
        simp only [Op.bytesLess, Bool.or_eq_true, Bool.and_eq_true, decide_eq_true_eq, beq_iff_eq] at *
        rcases h1 with h1 | ⟨rfl, h1⟩ <;> rcases h2 with h2 | ⟨rfl, h2⟩
        · exact .inl (UInt8.lt_trans h1 h2)
        · exact .inl h1
        · exact .inl h2
        · exact .inr ⟨rfl, ih b c h1 h2⟩
theorem bytesLess_tri : ∀ (a b : List UInt8), Op.bytesLess a b = false → Op.bytesLess b a = false → a = b := by
  intro a
  induction a with
  | nil =>
    intro b h1 h2
    cases b with
    | nil => rfl
    | cons y b => simp [Op.bytesLess] at h1
  | cons x a ih =>
    intro b h1 h2
    cases b with
    | nil => simp [Op.bytesLess] at h2
    | cons y b =>
      simp only [Op.bytesLess, Bool.or_eq_false_iff, Bool.and_eq_false_iff, decide_eq_false_iff_not, beq_eq_false_iff_ne] at h1 h2
      have e : x = y := by
        have h3 := UInt8.not_lt.1 h1.1
        have h4 := UInt8.not_lt.1 h2.1
        exact UInt8.le_antisymm h4 h3
      subst e
      rw [ih b (h1.2.resolve_left (fun h => h rfl)) (h2.2.resolve_left (fun h => h rfl))]
abbrev PathV := List UInt8 × ByteArray
def lessV (a b : PathV) : Bool := lessP a.1 a.2 b.1 b.2
theorem lessV_strict : Strict lessV := by
  refine ⟨fun a => ?_, fun a b c h1 h2 => ?_, fun a b h1 h2 => ?_⟩
  · simp [lessV, lessP, less_irrefl]
  · simp only [lessV, lessP, Bool.or_eq_true, Bool.and_eq_true, beq_iff_eq] at *
    rcases h1 with h1 | ⟨e1, h1⟩ <;> rcases h2 with h2 | ⟨e2, h2⟩
    · exact .inl (bytesLess_trans _ _ _ h1 h2)
    · exact .inl (e2 ▸ h1)
    · exact .inl (e1 ▸ h2)
    · exact .inr ⟨e1.trans e2, bytesLess_trans _ _ _ h1 h2⟩
  · simp only [lessV, lessP, Bool.or_eq_false_iff, Bool.and_eq_false_iff, beq_eq_false_iff_ne] at h1 h2
    have e := bytesLess_tri _ _ h1.1 h2.1
    have e2 := bytesLess_tri _ _ (h1.2.resolve_left (fun h => h e)) (h2.2.resolve_left (fun h => h e.symm))
    rw [Go.ByteArray.toList_eq, Go.ByteArray.toList_eq] at e2
    obtain ⟨a1, a2⟩ := a
    obtain ⟨b1, b2⟩ := b
    simp only at e e2
    rw [e, ByteArray.ext (Array.toList_inj.1 e2)]
end Go.Proofs.YtfkgdjoaoidkeaaGreat
namespace Go.Proofs.YtfkgdjoaoidkeaaGreat
open Go.RowKit Go.ChangeShapes Go.Sort
set_option linter.unusedVariables false
def lessX (x y : PathX) : Bool := lessP x.h x.n y.h y.n
def ordX (x y : PathX) : Int := ordP x.h x.n y.h y.n
theorem lessX_strict : Strict lessX := by
  refine ⟨fun a => lessV_strict.irr (a.h, a.n), fun a b c h1 h2 => lessV_strict.trans (a.h, a.n) (b.h, b.n) (c.h, c.n) h1 h2, fun a b h1 h2 => ?_⟩
  have h := lessV_strict.tri (a.h, a.n) (b.h, b.n) h1 h2
  simp only [Prod.mk.injEq] at h
  exact PathX.ext h.1 h.2
theorem lt_ordX (x y : PathX) : ltOf ordX x y = lessX x y := ord_less x.h x.n y.h y.n
theorem swo_ordX : SWO (ltOf ordX) := by
  refine ⟨fun x => ?_, fun x y z h1 h2 => ?_, fun x y z h1 h2 => ?_⟩
  · rw [lt_ordX]; exact lessX_strict.irr x
  · rw [lt_ordX] at *; exact lessX_strict.trans x y z h1 h2
  · rw [lt_ordX] at *
    cases h : lessX x z with
    | false => rfl
    | true =>
      cases h3 : lessX y x with
      | true => rw [lessX_strict.trans y x z h3 h] at h2; cases h2
      | false =>
        have e := lessX_strict.tri x y h1 h3
        rw [← e, h] at h2
        cases h2
theorem asc_of_sorted (M : List PathX) (hn : M.Nodup) (hs : ∀ i j (hij : i < j) (hj : j < M.length), lessX M[j] M[i] = false) : Asc lessX M := by
  rw [Asc, List.pairwise_iff_getElem]
  intro i j hi hj hij
  cases h : lessX M[i] M[j] with
  | true => rfl
  | false =>
    have e := lessX_strict.tri _ _ h (hs i j hij hj)
    exact absurd e (List.pairwise_iff_getElem.1 hn i j hi hj hij)
theorem holdsX (w : World) (g : Nat) (cur : Array Value) (T : TypeId) (O : List PathX) (hg : w.heap[g]? = some (.cells cur T (0, 0))) (h : cur.toList.take (O.length * 21) = flatX O) : HoldsK cellsX 21 w g 0 O.toArray := by
  intro t ht
  rw [size_flatK, List.size_toArray] at ht
  refine ⟨?_, frozen_of_row _ _ _ _ _ hg⟩
  have hi : t / 21 < O.length := by omega
  rw [cell_of_row _ _ _ _ _ _ hg, Nat.zero_add, get_flatK _ _ _ t (by rw [List.size_toArray]; exact ht)]
  have e : O.toArray[t / 21]! = O[t / 21] := by simp [hi]
  rw [e]
  refine take_cell h t _ ?_
  have h1 := flatX_get O (t / 21) (t % 21) hi (by omega)
  rw [show t / 21 * 21 + t % 21 = t by omega] at h1
  have hlt : t % 21 < (cellsX O[t / 21]).length := by rw [cellsX_length]; omega
  rw [h1, List.getElem?_eq_getElem hlt]
  simp [hlt]
theorem paths_of_holds (F : Nat → Prop) (w : World) (g cap : Nat) (M : List PathX) (hF : F g) (hl : M.length ≤ cap) (hm : cap ≤ maxLen) (h : HoldsK cellsX 21 w g 0 M.toArray) : PathsIn F w (.slice (some ⟨g, 0, none⟩) M.length cap) M := by
  refine ⟨_, cap, rfl, hl, hm, (fun h => by cases h), fun _ => ⟨g, 0, rfl, hF, fun i hi j u hu => ?_⟩⟩
  obtain ⟨hj, rfl⟩ := List.getElem?_eq_some_iff.1 hu
  have hj21 : j < 21 := by rwa [cellsX_length] at hj
  have h1 := (h.cell (i := i) (c := j) (by simpa using hi) hj21).1
  rw [Nat.zero_add] at h1 ⊢
  rw [h1]
  simp [hi, hj]
theorem fr_sorted (w : World) (g m : Nat) (M : Array PathX) (os : Array Obj) : Fr (fun i => i = g) w (sortWorldK cellsX 21 w g 0 m M os) := by
  refine ⟨rfl, rfl, rfl, size_sortWorldK_c cellsX 21 w g 0 m M os, fun i hi hs => ?_⟩
  have hi' : i < (putRowK cellsX 21 (Sort.ahead w m) g 0 M).heap.size := by rw [size_putRowK]; exact hi
  show (grow (putRowK cellsX 21 (Sort.ahead w m) g 0 M) os).heap[i]? = _
  rw [heap_grow_old _ _ hi']
  show ((Sort.ahead w m).heap.modify g _)[i]? = _
  rw [Array.getElem?_modify, if_neg (fun e => hs e.symm)]
  rfl
theorem order_enters (args : Array Value) (w : World) : (callFunc 42 args).run Tryz.prog w = .ok (.enter 42 args) w := enters_of Tryz.func42 (by kernel_rfl) rfl args w
theorem sort_any {F : Nat → Prop} (w : World) (v : Value) (O : List PathX) (h : OwnP F w v O) (hn : O.Nodup) (hlen : O.length ≤ 1000000) :
    Calls Tryz.prog 41 #[v, .func (.func 42) #[] #[]] w fun e w' => e = .returned (.tuple #[]) ∧ ∃ M, PathsIn F w' v M ∧ Asc lessX M ∧ (∀ x, x ∈ M ↔ x ∈ O) ∧ Fr (fun k => v.ownBlock = some k) w w' := by
  rcases h.row with ⟨rfl, rfl⟩ | ⟨g, cap, cur, rfl, hF, hg, hb, h1, h2, h3⟩
  · have hc := AnyF.slices_SortFunc_none Tryz.sortP none 0 (.func (.func 42) #[] #[]) w
    change Calls Tryz.prog 41 _ _ _ at hc
    refine hc.mono ?_
    rintro e w' ⟨rfl, rfl⟩
    exact ⟨rfl, [], PathsIn.nil _ _, List.Pairwise.nil, fun x => Iff.rfl, Fr.refl _ _⟩
  · have hH := holdsX w g cur _ O hb h3
    have hc := AnyQ.slices_SortFunc Tryz.sortP 21 Tryz.isAgg27 Tryz.sizeOf27 cellsX cellsX_length cellsX_one ordX swo_ordX 42 #[] g 0 cap O.toArray w order_enters
      (fun m os dk hs x y => order_any x.h x.n y.h y.n x.hl y.hl _) hH hg (by rw [List.size_toArray]; omega)
    change Calls Tryz.prog 41 _ _ _ at hc
    rw [List.size_toArray] at hc
    refine hc.mono ?_
    rintro e w' ⟨rfl, d', n, os, hp, hs, rfl⟩
    obtain ⟨hps, _, hpp⟩ := hp
    have hd : d'.toList.Perm O := by
      have e1 : (d'.extract 0 O.length).toList = d'.toList := by
        have : d'.size = O.length := by rw [hps, List.size_toArray]
        rw [← this, Array.extract_size]
      have e2 : (O.toArray.extract 0 O.length).toList = O := by
        have : O.toArray.size = O.length := List.size_toArray
        rw [← this, Array.extract_size]
      rwa [e1, e2] at hpp
    have hlM : d'.toList.length = O.length := hd.length_eq
    have hH' := holdsK_sortWorldK_c cellsX 21 w g 0 O.toArray d' n os hH hg (by rw [hps])
    refine ⟨rfl, d'.toList, ?_, asc_of_sorted _ (hd.nodup_iff.2 hn) (fun i j hij hj => ?_), fun x => hd.mem_iff, (fr_sorted w g n d' os).mono (fun i _ e => by rw [e]; rfl)⟩
    · rw [← hlM]
      exact paths_of_holds F _ g cap d'.toList hF (by omega) h2 (by simpa using hH')
    · have h := hs i j (Nat.zero_le _) hij (by omega)
      rw [lt_ordX] at h
      have ej : d'[j]! = d'.toList[j] := by
        have : j < d'.size := by simpa using hj
        simp [this]
      have ei : d'[i]! = d'.toList[i]'(by omega) := by
        have : i < d'.size := by have : j < d'.size := by simpa using hj
                                 omega
        simp [this]
      rwa [ej, ei] at h
end Go.Proofs.YtfkgdjoaoidkeaaGreat
namespace Go.Proofs.YtfkgdjoaoidkeaaGreat
open Go.RowKit Go.ChangeShapes
set_option linter.unusedVariables false
theorem op_len_paths {w : World} {o : Oper} {a : Act} {x : Operand} {ao : Option Addr} {n cap : Nat} (ho : o.op = .call { callee := .builtin .len, args := #[x], argTypes := #[25] }) (hx : a.eval x = .slice ao n cap) :
    (execOp a.eval o).run Tryz.prog w = .ok (.value (.int .i64 n)) w := by
  obtain ⟨d, op, ty, pos, aft, g⟩ := o
  simp only at ho
  subst ho
  simp [execOp, resolve, invoke, builtin, Builtin.len_, hx, Result.andThen, goInt]
theorem run_index_paths (w : World) (b off n cap i : Nat) (h : i < n) : (Instr.indexAt 25 (.slice (some ⟨b, off, none⟩) n cap) (.int .i64 i)).run Tryz.prog w = .ok (.pointer (some ⟨b, off + i * 21, none⟩)) w := by
  simp [Instr.indexAt, h, Addr.add, asIntOf]
theorem run_one_less (w : World) (n : Nat) (h : 0 < n) (hn : n ≤ 1000000) : (binOp .sub 3 (.int .i64 n) (.int .i64 1)).run Tryz.prog w = .ok (.int .i64 ((n - 1 : Nat) : Int)) w := by
  have e : (n : Int) - 1 = ((n - 1 : Nat) : Int) := by omega
  simp [binOp, Op.intArith, e, IntKind.wrap, IntKind.bits, IntKind.signed]
  omega
theorem run_eq_zero (w : World) (n : Nat) : (binOp .eql 3 (.int .i64 n) (.int .i64 0)).run Tryz.prog w = .ok (.bool (decide (n = 0))) w := by
  simp [binOp, Op.intCmp]
  rw [Bool.eq_iff_iff, beq_iff_eq, decide_eq_true_iff]
  omega
theorem load_mid_path (w : World) (b o : Nat) (x : PathX) (h : w.rangeAt b o (cellsX x)) : (Instr.loadAt 27 (.pointer (some ⟨b, o, none⟩))).run Tryz.prog w = .ok (.agg (pathC x.h x.n)) w := by
  exact run_loadAt_mid w b o 27 (cellsX x) _ h Tryz.underlying27 rfl (by rw [cellsX_length]; kernel_rfl)
theorem rLessX_any (x y : PathX) (w : World) :
    Calls Tryz.prog 45 #[.agg (pathC x.h x.n), .agg (pathC y.h y.n)] w fun e w' => e = .returned (.bool (lessX x y)) ∧ Fr (fun _ => False) w w' := rLess_any x.h x.n y.h y.n x.hl y.hl w
end Go.Proofs.YtfkgdjoaoidkeaaGreat
namespace Go.Proofs.YtfkgdjoaoidkeaaGreat
open Go.RowKit Go.ChangeShapes
set_option linter.unusedVariables false
section
variable {P : Program} {w : World} {o : Oper} {a : Act}
theorem eval_const5 (a : Act) (v : Value) : a.eval (.const v) = v := rfl
end
theorem load_one5 (w : World) (T : TypeId) (p : Addr) (v : Value) (hT : (isAgg T).run Tryz.prog w = .ok false w) (h : w.cell? p = some v) : (Instr.loadAt T (.pointer (some p))).run Tryz.prog w = .ok v w := by
  simp [Instr.loadAt, Instr.sureAddr, loadVar, hT, h, go_sem]
section
variable {w : World} {T : TypeId} {k : IntKind} {x y : Int}
theorem lss_yes (h : x < y) : (binOp .lss T (.int k x) (.int k y)).run Tryz.prog w = .ok (.bool true) w := by rw [binOp_lss]; simp [h]
theorem lss_no (h : y ≤ x) : (binOp .lss T (.int k x) (.int k y)).run Tryz.prog w = .ok (.bool false) w := by rw [binOp_lss]; simp [h]
end
theorem wrap_in5 {x : Int} (h0 : -9223372036854775808 ≤ x) (h1 : x ≤ 9223372036854775807) : IntKind.i64.wrap x = x := IntWalk.i64_in x (by omega)
theorem sub_in5 {w : World} {T : TypeId} {x y z : Int} (hz : x - y = z) (h0 : -9223372036854775808 ≤ z) (h1 : z ≤ 9223372036854775807) : (binOp .sub T (.int .i64 x) (.int .i64 y)).run Tryz.prog w = .ok (.int .i64 z) w := by
  rw [binOp_sub]
  subst hz
  simp [Op.intArith, wrap_in5 h0 h1, go_sem]
theorem op_extract5 {P : Program} {w : World} {o : Oper} {a : Act} {x : Operand} {i : Nat} {vs : Array Value} {v : Value} (ho : o.op = .extract x i) (hx : a.eval x = .tuple vs) (hv : vs[i]? = some v) : (execOp a.eval o).run P w = .ok (.value v) w := by
  unfold execOp
  rw [ho]
  simp only [hx, Instr.extract, hv]
  rfl
end Go.Proofs.YtfkgdjoaoidkeaaGreat
namespace Go.Proofs.YtfkgdjoaoidkeaaGreat
open Go.RowKit Go.ChangeShapes
set_option linter.unusedVariables false
theorem load_hash10 (w : World) (g : Nat) (C : Array Value) (h : w.heap[g]? = some (.cells C 24 (0, 0))) (hc : C.size = 20) : (Instr.loadAt 24 (.pointer (some ⟨g, 0, none⟩))).run Tryz.prog w = .ok (.agg C) w := by
  have h1 := run_loadVar_mid (P := Tryz.prog) w g 0 24 C.toList _ (fun j v hv => by rw [Nat.zero_add, cell_of_row _ _ _ _ _ _ h]; simpa using hv) Tryz.underlying24 rfl (by rw [Array.length_toList, hc]; kernel_rfl)
  simp only [Instr.loadAt, Instr.sureAddr, Sem.run_bind, Sem.run_pure, Result.andThen_ok, h1]
abbrev tup10 (x y : Value) : Value := .tuple #[x, y]
theorem ent10_with (args : Array Value) (w : World) : (callFunc 26 args).run Tryz.prog w = .ok (.enter 26 args) w := by kernel_rfl
theorem ent_spence_refs_lettersOf (args : Array Value) (w : World) : (callFunc 28 args).run Tryz.prog w = .ok (.enter 28 args) w := by kernel_rfl
def RwrR (ao : Option Addr) (n cap b4 b5 z0 : Nat) (C D S : Array Value) (X : List UInt8) (i : Nat) (v : Value) (W : World) : Prop :=
  match i with
  | 0 => v = .slice ao n cap
  | 1 => v = .agg C
  | 2 => v = .agg D
  | 3 => v = .agg S
  | 4 => ∃ x y, v = tup10 x y ∧ OwnB (fun k => z0 ≤ k) W x X
  | 5 => ∃ x y, v = tup10 x y ∧ OwnB (fun k => z0 ≤ k) W x X
  | 6 => ∃ x, v = x ∧ OwnB (fun k => z0 ≤ k) W x X
  | 7 => ∃ x : Value, v = x ∧ True
  | 8 => ∃ x, v = x ∧ OwnB (fun k => z0 ≤ k) W x X
  | 9 => ∃ x : Value, v = x ∧ True
  | _ => True
theorem RwrR.ext (ao : Option Addr) (n cap b4 b5 z0 : Nat) (C D S : Array Value) (X : List UInt8) : ∀ (j : Nat) (u : Value) (W W' : World), Fr (fun _ => False) W W' → RwrR ao n cap b4 b5 z0 C D S X j u W → RwrR ao n cap b4 b5 z0 C D S X j u W'
  | 0, u, W, W', hf, h => h
  | 1, u, W, W', hf, h => h
  | 2, u, W, W', hf, h => h
  | 3, u, W, W', hf, h => h
  | 4, u, W, W', hf, h => (let ⟨x, y, h1, h2⟩ := h; ⟨x, y, h1, h2.keep hf (fun _ _ _ h => h)⟩)
  | 5, u, W, W', hf, h => (let ⟨x, y, h1, h2⟩ := h; ⟨x, y, h1, h2.keep hf (fun _ _ _ h => h)⟩)
  | 6, u, W, W', hf, h => (let ⟨x, h1, h2⟩ := h; ⟨x, h1, h2.keep hf (fun _ _ _ h => h)⟩)
  | 7, u, W, W', hf, h => h
  | 8, u, W, W', hf, h => (let ⟨x, h1, h2⟩ := h; ⟨x, h1, h2.keep hf (fun _ _ _ h => h)⟩)
  | 9, u, W, W', hf, h => h
  | _ + 10, u, W, W', hf, h => trivial
set_option maxRecDepth 100000 in
set_option maxHeartbeats 4000000 in
theorem fRewrite_any {F : Nat → Prop} (w : World) (v : Value) (b H K : List UInt8) (hH : H.length = 20) (hK : K.length = 20) (hv : BytesIn F w v b) (hF : ∀ k, F k → k < w.heap.size) (hb : b.length ≤ 1000000) (hm : MlAt w) :
    Calls Tryz.prog 10 #[v, .agg (H.map bv).toArray, .agg (K.map bv).toArray] w fun e w' => ∃ x, e = .returned x ∧ OwnB (fun k => w.heap.size ≤ k) w' x (withR (letL K) b (placesR b (letL H))) ∧ Fr (fun _ => False) w w' := by
  obtain ⟨va, hva⟩ : ∃ va, va = v := ⟨_, rfl⟩
  obtain ⟨ao, n, cap, hvs⟩ : ∃ ao n cap, v = .slice ao n cap := by obtain ⟨ao, cap, h, _⟩ := hv; exact ⟨_, _, _, h⟩
  have HLO := Lib.hid (fun (W : World) => lettersOf_any K hK W)
  have hsl := letL_length K
  obtain ⟨s, hs⟩ : ∃ s, s = letL K := ⟨_, rfl⟩
  rw [← hs] at HLO hsl ⊢
  have HWJ := Lib.hid (fun W (hv : BytesIn F W v b) (hF : ∀ k, F k → k < W.heap.size) (hm : MlAt W) => fWith_any W v b H s hH hsl hv hF hb hm)
  obtain ⟨S, hS⟩ : ∃ S, S = ltC s := ⟨_, rfl⟩
  rw [← hS] at HWJ HLO
  obtain ⟨C, hC⟩ : ∃ C, C = (H.map bv).toArray := ⟨_, rfl⟩
  have hcs : C.size = 20 := by rw [hC]; simp [hH]
  obtain ⟨D, hD⟩ : ∃ D, D = (K.map bv).toArray := ⟨_, rfl⟩
  have hds : D.size = 20 := by rw [hD]; simp [hK]
  obtain ⟨X, hX⟩ : ∃ X, X = withR s b (placesR b (letL H)) := ⟨_, rfl⟩
  rw [← hX] at HWJ ⊢
  rw [← hC] at HWJ ⊢
  rw [← hD] at HLO ⊢
  clear hC hD hH hK hs hsl hS hX
  obtain ⟨z0, hz0⟩ : ∃ z0, z0 = w.heap.size := ⟨_, rfl⟩
  obtain ⟨b4, hb4⟩ : ∃ b4, b4 = w.heap.size := ⟨_, rfl⟩
  obtain ⟨b5, hb5⟩ : ∃ b5, b5 = w.heap.size + 1 := ⟨_, rfl⟩
  obtain ⟨Wb, hW1⟩ : ∃ W1, W1 = (w.alloc (.cells C 24)).alloc (.cells D 24) := ⟨_, rfl⟩
  have hf1 : Fr (fun _ => False) w Wb := by rw [hW1]; exact ((Fr.refl _ _).alloc _).alloc _
  have hr1 : Wb.heap[b4]? = some (.cells C 24 (0, 0)) := by rw [hW1, hb4]; exact heap_alloc2_old w _ _
  have hr2 : Wb.heap[b5]? = some (.cells D 24 (0, 0)) := by rw [hW1, hb5]; exact heap_alloc2_new w _ _
  have LD4 := Lib.hid (fun W (hW : Fr (fun _ => False) Wb W) => load_hash10 W b4 C (hW.heap hr1 (fun h => h)) hcs)
  have LD5 := Lib.hid (fun W (hW : Fr (fun _ => False) Wb W) => load_hash10 W b5 D (hW.heap hr2 (fun h => h)) hds)
  have HWI := Lib.hid (fun W (hW : Fr (fun _ => False) Wb W) => HWJ.out W ((hv.keep hf1 (fun _ _ _ h => h)).keep hW (fun _ _ _ h => h)) (fun k hk => by have := hF k hk; have := hf1.size; have := hW.size; omega) ((hm.keep hf1 (fun h => h)).keep hW (fun h => h)))
  have HZ0 := Lib.hid (show z0 ≤ Wb.heap.size by have := hf1.size; omega)
  have HF1 := Lib.hid (And.intro hf1 hz0)
  rw [← hva] at HWI ⊢
  clear hf1 hv hm hF hr1 hr2 hcs hds HWJ
  rw [hvs] at hva
  subst hva
  go_enter Tryz.func10, Tryz.ntmps10
  go_wp2_with fail
  rw [← hW1, ← hb5, ← hb4]
  clear hW1 hz0 hb4 hb5
  refine wp_region_inv 10 (by kernel_rfl) (by kernel_rfl) (fun W => Fr (fun _ => False) Wb W) (RwrR ao n cap b4 b5 z0 C D S X) (fun _ _ _ _ => True) (Fr (fun _ => False)) (RwrR.ext ao n cap b4 b5 z0 C D S X) (Fr.refl _ _).drew ?_ ?_
  · intro i hi o ho
    replace hi : i < 10 := hi
    obtain rfl | rfl | rfl | rfl | rfl | rfl | rfl | rfl | rfl | rfl : i = 0 ∨ i = 1 ∨ i = 2 ∨ i = 3 ∨ i = 4 ∨ i = 5 ∨ i = 6 ∨ i = 7 ∨ i = 8 ∨ i = 9 := by omega
    · simp only [List.getElem?_cons_zero, Option.some.injEq] at ho
      subst ho
      intro a W vs hB hS hE hU
      refine wpG_plain rfl ?_
      have v0 : a.eval (.tmp 0) = .slice ao n cap := (hU 0 (by kernel_rfl)).trans rfl
      clear hE hU
      exact wp_value_inv (w' := W) (.slice ao n cap) (op_move rfl v0) ⟨_, rfl, hB, Fr.refl _ _, rfl, fun _ _ _ _ _ => trivial⟩
    · simp only [List.getElem?_cons_zero, List.getElem?_cons_succ, Option.some.injEq] at ho
      subst ho
      intro a W vs hB hS hE hU
      refine wpG_plain rfl ?_
      have v4 : a.eval (.tmp 4) = .pointer (some ⟨b4, 0, none⟩) := (hU 4 (by kernel_rfl)).trans rfl
      clear hE hU
      exact wp_value_inv (w' := W) (.agg C) (op_loadAt rfl v4 (LD4.out W hB)) ⟨_, rfl, hB, Fr.refl _ _, rfl, fun _ _ _ _ _ => trivial⟩
    · simp only [List.getElem?_cons_zero, List.getElem?_cons_succ, Option.some.injEq] at ho
      subst ho
      intro a W vs hB hS hE hU
      refine wpG_plain rfl ?_
      have v5 : a.eval (.tmp 5) = .pointer (some ⟨b5, 0, none⟩) := (hU 5 (by kernel_rfl)).trans rfl
      clear hE hU
      exact wp_value_inv (w' := W) (.agg D) (op_loadAt rfl v5 (LD5.out W hB)) ⟨_, rfl, hB, Fr.refl _ _, rfl, fun _ _ _ _ _ => trivial⟩
    · simp only [List.getElem?_cons_zero, List.getElem?_cons_succ, Option.some.injEq] at ho
      subst ho
      intro a W vs hB hS hE hU
      refine wpG_plain rfl ?_
      obtain ⟨r2, e12⟩ := hE 2 12 (by kernel_rfl) (by kernel_rfl)
      have v12 : a.eval (.tmp 12) = .agg D := e12.trans r2
      clear hE hU
      refine wp_call_inv 28 #[.tmp 12] #[24] rfl #[.agg D] (by simp only [List.map_toArray, List.map_cons, List.map_nil, v12]) (ent_spence_refs_lettersOf _) (Post := fun v W' => v = .agg S ∧ Fr (fun _ => False) W W') ((HLO.out W).mono fun e w' h => ⟨_, h.1, rfl, h.2⟩) ?_
      rintro v W' ⟨rfl, hf⟩
      exact ⟨_, rfl, hB.trans hf (fun _ h => h.elim), hf, rfl, fun _ _ _ _ _ => trivial⟩
    · simp only [List.getElem?_cons_zero, List.getElem?_cons_succ, Option.some.injEq] at ho
      subst ho
      intro a W vs hB hS hE hU
      refine wpG_plain rfl ?_
      obtain ⟨r0, e10⟩ := hE 0 10 (by kernel_rfl) (by kernel_rfl)
      have v10 : a.eval (.tmp 10) = .slice ao n cap := e10.trans r0
      obtain ⟨r1, e11⟩ := hE 1 11 (by kernel_rfl) (by kernel_rfl)
      have v11 : a.eval (.tmp 11) = .agg C := e11.trans r1
      obtain ⟨r3, e13⟩ := hE 3 13 (by kernel_rfl) (by kernel_rfl)
      have v13 : a.eval (.tmp 13) = .agg S := e13.trans r3
      clear hE hU
      refine wp_call_inv 26 #[.tmp 10, .tmp 11, .tmp 13] #[22, 24, 51] rfl #[.slice ao n cap, .agg C, .agg S] (by simp only [List.map_toArray, List.map_cons, List.map_nil, v10, v11, v13]) (ent10_with _) (Post := fun v W' => ∃ x y, v = .tuple #[x, y] ∧ OwnB (fun k => W.heap.size ≤ k) W' x X ∧ Fr (fun _ => False) W W') ((HWI.out W hB).mono fun e w' ⟨x, y, h1, h2, _, h3⟩ => ⟨_, h1, x, y, rfl, h2, h3⟩) ?_
      rintro v W' ⟨x, y, rfl, ho, hf⟩
      exact ⟨_, rfl, hB.trans hf (fun _ h => h.elim), hf, ⟨x, y, rfl, ho.mono (fun k _ h => Nat.le_trans (Nat.le_trans HZ0.out hB.size) h)⟩, fun _ _ _ _ _ => trivial⟩
    · simp only [List.getElem?_cons_zero, List.getElem?_cons_succ, Option.some.injEq] at ho
      subst ho
      intro a W vs hB hS hE hU
      refine wpG_plain rfl ?_
      obtain ⟨⟨x4, y4, rg4, hg4⟩, e14⟩ := hE 4 14 (by kernel_rfl) (by kernel_rfl)
      have v14 : a.eval (.tmp 14) = tup10 x4 y4 := e14.trans rg4
      clear hE hU
      exact wp_value_inv (w' := W) (tup10 x4 y4) (op_move rfl v14) ⟨_, rfl, hB, Fr.refl _ _, ⟨x4, y4, rfl, hg4⟩, fun _ _ _ _ _ => trivial⟩
    · simp only [List.getElem?_cons_zero, List.getElem?_cons_succ, Option.some.injEq] at ho
      subst ho
      intro a W vs hB hS hE hU
      refine wpG_plain rfl ?_
      obtain ⟨⟨x5, y5, rg5, hg5⟩, e9⟩ := hE 5 9 (by kernel_rfl) (by kernel_rfl)
      have v9 : a.eval (.tmp 9) = tup10 x5 y5 := e9.trans rg5
      clear hE hU
      exact wp_value_inv (w' := W) x5 (op_extract5 rfl v9 rfl) ⟨_, rfl, hB, Fr.refl _ _, ⟨x5, rfl, hg5⟩, fun _ _ _ _ _ => trivial⟩
    · simp only [List.getElem?_cons_zero, List.getElem?_cons_succ, Option.some.injEq] at ho
      subst ho
      intro a W vs hB hS hE hU
      refine wpG_plain rfl ?_
      obtain ⟨⟨x5, y5, rg5, hg5⟩, e9⟩ := hE 5 9 (by kernel_rfl) (by kernel_rfl)
      have v9 : a.eval (.tmp 9) = tup10 x5 y5 := e9.trans rg5
      clear hE hU
      exact wp_value_inv (w' := W) y5 (op_extract5 rfl v9 rfl) ⟨_, rfl, hB, Fr.refl _ _, ⟨y5, rfl, trivial⟩, fun _ _ _ _ _ => trivial⟩
    · simp only [List.getElem?_cons_zero, List.getElem?_cons_succ, Option.some.injEq] at ho
      subst ho
      intro a W vs hB hS hE hU
      refine wpG_plain rfl ?_
      obtain ⟨⟨x6, rg6, hg6⟩, e15⟩ := hE 6 15 (by kernel_rfl) (by kernel_rfl)
      have v15 : a.eval (.tmp 15) = x6 := e15.trans rg6
      clear hE hU
      exact wp_value_inv (w' := W) x6 (op_assign rfl v15) ⟨_, rfl, hB, Fr.refl _ _, ⟨x6, rfl, hg6⟩, fun _ _ _ _ _ => trivial⟩
    · simp only [List.getElem?_cons_zero, List.getElem?_cons_succ, Option.some.injEq] at ho
      subst ho
      intro a W vs hB hS hE hU
      refine wpG_plain rfl ?_
      obtain ⟨⟨x7, rg7, hg7⟩, e16⟩ := hE 7 16 (by kernel_rfl) (by kernel_rfl)
      have v16 : a.eval (.tmp 16) = x7 := e16.trans rg7
      clear hE hU
      exact wp_value_inv (w' := W) x7 (op_assign rfl v16) ⟨_, rfl, hB, Fr.refl _ _, ⟨x7, rfl, trivial⟩, fun _ _ _ _ _ => trivial⟩
  · intro vs Wa hB0 hR0 hD
    obtain ⟨x, hx, hox⟩ := hR0 8 (by decide)
    have HO := Lib.hid hox
    have HB := Lib.hid hB0
    clear hR0 hD hB0 hox
    simp only [acts, if_true, dstAt, List.getElem?_cons_zero, List.getElem?_cons_succ, Option.bind_some, Act.put, List.setIfInBounds_toArray, List.set_cons_succ, List.set_cons_zero, List.drop_succ_cons, List.drop_nil]
    rw [hx]
    clear hx
    go_wp2
    go_ret
    exact ⟨x, rfl, HO.out.mono (fun k _ hk => by have := HF1.out.2; omega), HF1.out.1.trans HB.out (fun _ h => h.elim)⟩
set_option maxRecDepth 100000 in
set_option maxHeartbeats 4000000 in
theorem fBlank_any {F : Nat → Prop} (w : World) (v : Value) (b H : List UInt8) (hH : H.length = 20) (hv : BytesIn F w v b) (hF : ∀ k, F k → k < w.heap.size) (hb : b.length ≤ 1000000) (hm : MlAt w) :
    Calls Tryz.prog 8 #[v, .agg (H.map bv).toArray] w fun e w' => ∃ x y, e = .returned (.tuple #[x, y]) ∧ OwnB (fun k => w.heap.size ≤ k) w' x (withR (List.replicate 32 0) b (placesR b (letL H))) ∧ IntsR (fun k => w.heap.size ≤ k) w' y (placesR b (letL H)) ∧ Fr (fun _ => False) w w' := by
  obtain ⟨C, hC⟩ : ∃ C, C = (H.map bv).toArray := ⟨_, rfl⟩
  have hcs : C.size = 20 := by rw [hC]; simp [hH]
  have hf1 : Fr (fun _ => False) w (w.alloc (.cells C 24)) := (Fr.refl _ _).alloc _
  have hwi := fWith_any (w.alloc (.cells C 24)) v b H (List.replicate 32 0) hH (by simp) (hv.keep hf1 (fun _ _ _ h => h)) (fun k hk => by have := hF k hk; have := hf1.size; omega) hb (hm.keep hf1 (fun h => h))
  rw [show ltC (List.replicate 32 0) = #[.int .u8 0, .int .u8 0, .int .u8 0, .int .u8 0, .int .u8 0, .int .u8 0, .int .u8 0, .int .u8 0, .int .u8 0, .int .u8 0, .int .u8 0, .int .u8 0, .int .u8 0, .int .u8 0, .int .u8 0, .int .u8 0, .int .u8 0, .int .u8 0, .int .u8 0, .int .u8 0, .int .u8 0, .int .u8 0, .int .u8 0, .int .u8 0, .int .u8 0, .int .u8 0, .int .u8 0, .int .u8 0, .int .u8 0, .int .u8 0, .int .u8 0, .int .u8 0] from rfl] at hwi
  obtain ⟨X, hX⟩ : ∃ X, X = withR (List.replicate 32 0) b (placesR b (letL H)) := ⟨_, rfl⟩
  rw [← hX] at hwi ⊢
  rw [← hC] at hwi ⊢
  obtain ⟨W1, hW1⟩ : ∃ W1, W1 = w.alloc (.cells C 24) := ⟨_, rfl⟩
  have hr1 : W1.heap[w.heap.size]? = some (.cells C 24 (0, 0)) := by rw [hW1]; exact heap_alloc_new w _
  rw [← hW1] at hwi hf1
  have HWI := Lib.hid hwi
  have HX := Lib.hid (And.intro hf1 hW1)
  clear hC hX hwi hf1 hW1 hv hm hF
  go_enter Tryz.func8, Tryz.ntmps8
  go_wp2_with (first
    | (rw [← HX.out.2]; (with_reducible refine wpList_load_row rfl 24 (.tmp 3) rfl w.heap.size rfl 24 C (0, 0) _ hr1 Tryz.underlying24 rfl (by rw [hcs]; kernel_rfl) ?_))
    | (go_at_call 26; refine HWI.out.mono ?_; rintro e w3 ⟨x, y, rfl, hox, hoy, hf3⟩))
  go_ret2
  have hz := HX.out.1.size
  exact ⟨x, y, rfl, hox.mono (fun k _ hk => by omega), hoy.mono (fun k _ hk => by omega), HX.out.1.trans hf3 (fun _ h => h.elim)⟩
end Go.Proofs.YtfkgdjoaoidkeaaGreat
namespace Go.Proofs.YtfkgdjoaoidkeaaGreat
open Go.RowKit Go.ChangeShapes
set_option linter.unusedVariables false
set_option maxHeartbeats 2000000 in
theorem sameInts_any {F G : Nat → Prop} (w : World) (u v : Value) (A : List Nat) (hu : IntsR F w u A) (hv : IntsR G w v A) (hA : A.length ≤ 1000000) :
    Calls Tryz.prog 12 #[u, v] w fun e w' => e = .returned (.bool true) ∧ ∃ q, w' = w.drewN q := by
  obtain ⟨au, cu, rfl, hu1, hu2, b1, o1, hu3, hu4⟩ := hu
  obtain ⟨av, cv, rfl, hv1, hv2, b2, o2, hv3, hv4⟩ := hv
  have HU := Lib.hid (And.intro hu3 hu4)
  have HV := Lib.hid (And.intro hv3 hv4)
  clear hu3 hu4 hv3 hv4
  obtain ⟨n, hn⟩ : ∃ n, n = A.length := ⟨_, rfl⟩
  rw [← hn] at hu1 hv1 hA ⊢
  have HN := Lib.hid hn
  clear hn
  go_enter Tryz.func12, Tryz.ntmps12
  go_wp2_with fail
  go_loopw [5] (fun iv wr => ∃ k : Nat, k ≤ n ∧ iv = .int .i64 k ∧ ∃ q, wr = w.drewN q) (fun iv _ => n - (intOf iv).toNat)
  case atStart => exact ⟨0, by omega, rfl, 0, rfl⟩
  case round =>
    obtain ⟨k, hk, rfl, q, rfl⟩ := hrel
    by_cases hlt : k < n
    · have hkA : k < A.length := by rw [← HN.out]; exact hlt
      obtain ⟨x, hx⟩ : ∃ x : Nat, x = A[k] := ⟨_, rfl⟩
      have h1 := HU.out.2 k hkA
      have h2 := HV.out.2 k hkA
      rw [← hx] at h1 h2
      obtain ⟨rfl, -⟩ := HU.out.1 (by omega)
      obtain ⟨rfl, -⟩ := HV.out.1 (by omega)
      clear hx hkA
      have hlt64 : (k : Int) < (n : Int) := by omega
      go_wp2
      go_quiet (fail)
      go_wp2
      go_roundw
      case rel => exact ⟨k + 1, by omega, by go_num, _, rfl⟩
      case measure => simp [intOf]; omega
    · obtain rfl : k = n := by omega
      go_wp2
      go_ret
      exact ⟨rfl, _, rfl⟩
def h7 : List UInt8 := [7, 0, 0, 0, 0, 0, 0, 0, 0, 0, 0, 0, 0, 0, 0, 0, 0, 0, 0, 0]
def b7 : List UInt8 := letL h7 ++ [45] ++ letL h7
theorem places7 : placesR b7 (letL h7) = [0, 33] := by decide +kernel
theorem b7_length : b7.length = 65 := by decide +kernel
theorem h7_cells : (h7.map bv).toArray = #[.int .u8 7, .int .u8 0, .int .u8 0, .int .u8 0, .int .u8 0, .int .u8 0, .int .u8 0, .int .u8 0, .int .u8 0, .int .u8 0, .int .u8 0, .int .u8 0, .int .u8 0, .int .u8 0, .int .u8 0, .int .u8 0, .int .u8 0, .int .u8 0, .int .u8 0, .int .u8 0] := rfl
theorem str_cat (A Bb : List UInt8) : (⟨A.toArray⟩ : ByteArray) ++ (⟨Bb.toArray⟩ : ByteArray) = ⟨(A ++ Bb).toArray⟩ := by
  apply ByteArray.ext
  simp
theorem tag7 (w : World) (S : ByteArray) (hs : S.size = 32) (hc : S ++ ⟨#[45]⟩ ++ S = ⟨b7.toArray⟩) :
    ∃ cap W, (convert 9 22 (.string (S ++ ⟨#[45]⟩ ++ S))).run Tryz.prog w = .ok (.slice (some ⟨w.heap.size, 0, none⟩) 65 cap) W ∧ Hid (Fr (fun _ => False) w W ∧ BytesIn (fun k => k = w.heap.size) W (.slice (some ⟨w.heap.size, 0, none⟩) 65 cap) b7 ∧ W.heap.size = w.heap.size + 1) := by
  obtain ⟨cap, W, h1, h2, h3, h4⟩ := run_tag w ⟨b7.toArray⟩ (by rw [str_size, b7_length]; decide)
  rw [str_size, b7_length] at h1 h3
  rw [hc]
  exact ⟨cap, W, h1, Lib.hid ⟨h2, h3, h4⟩⟩
set_option maxRecDepth 100000 in
set_option maxHeartbeats 4000000 in
theorem awake10_any (w : World) (hm : MlAt w) : Calls Tryz.prog 5 #[] w fun e w' => e = .returned (.bool true) ∧ Fr (fun _ => False) w w' := by
  have HRL := Lib.hid (fun W => rLetters_any h7 rfl W)
  have HPL := Lib.hid (fun (W : World) (v : Value) (F : Nat → Prop) (hv : BytesIn F W v b7) (hF : ∀ k, F k → k < W.heap.size) (hm : MlAt W) => fPlaces_any W v b7 h7 rfl hv hF (by rw [b7_length]; decide) hm)
  rw [places7] at HPL
  rw [h7_cells] at HRL HPL
  obtain ⟨S, hS⟩ : ∃ S : ByteArray, S = ⟨(letL h7).toArray⟩ := ⟨_, rfl⟩
  rw [← hS] at HRL
  have hcat : S ++ ⟨#[45]⟩ ++ S = ⟨b7.toArray⟩ := by
    rw [hS]
    have h1 := str_cat (letL h7) [45]
    have h2 := str_cat (letL h7 ++ [45]) (letL h7)
    rw [← h1] at h2
    exact h2
  have hsz : S.size = 32 := by rw [hS, str_size, letL_length]
  have HC := Lib.hid hcat
  clear hS hcat
  go_enter Tryz.func5, Tryz.ntmps5
  go_wp2_with (first
    | (go_at_call 22; refine (HRL.out _).mono ?_; rintro e w2 ⟨rfl, hf2⟩; (obtain ⟨cap, W3, hcv, H3⟩ := tag7 w2 S hsz HC.out); (have HF2 := Lib.hid hf2); clear hf2)
    | (go_at_call 13; refine (HPL.out _ _ _ H3.out.2.1 (fun k hk => by have := H3.out.2.2; omega) ((hm.keep HF2.out (fun h => h)).keep H3.out.1 (fun h => h))).mono ?_; rintro e w4 ⟨u, rfl, ho4, hf4⟩; (obtain ⟨au, cu, hu, hcu1, hcu2, bq, oq, hau, hcq⟩ := ho4.ints); subst hu; (obtain ⟨rfl, -⟩ := hau (by decide)); (have c0 := hcq 0 (by decide)); (have c1 := hcq 1 (by decide)); simp only [List.length_cons, List.length_nil, List.getElem_cons_zero, List.getElem_cons_succ, Nat.reduceAdd, Nat.add_zero] at *; (have HF4 := Lib.hid ((HF2.out.trans H3.out.1 (fun _ h => h.elim)).trans hf4 (fun _ h => h.elim))); clear ho4 hf4 hcq hau))
  go_ret
  exact ⟨rfl, HF4.out⟩
end Go.Proofs.YtfkgdjoaoidkeaaGreat
