/- Laid together: OwnP SortL SortC SortOps RfO -/
import Derived.Test.YtfkgdjoaoidkeaaGreatTl4
import Derived.Laws.Tables
import Derived.Test.YtfkgdjoaoidkeaaGreatShelf
import Derived.Test.YtfkgdjoaoidkeaaGreatShelfS
import Derived.Deep.MidRow
import Derived.Test.YtfkgdjoaoidkeaaGreatTl3

namespace Go.Proofs.YtfkgdjoaoidkeaaGreat
open Go.RowKit Go.ChangeShapes
set_option linter.unusedVariables false
def flatX (O : List PathX) : List Value := O.flatMap cellsX
theorem flatX_length (O : List PathX) : (flatX O).length = O.length * 21 := by
  induction O with
  | nil => rfl
  | cons x O ih =>
    rw [flatX, List.flatMap_cons, List.length_append, cellsX_length]
    rw [flatX] at ih
    rw [ih, List.length_cons]
    omega
theorem flatX_append (A Bb : List PathX) : flatX (A ++ Bb) = flatX A ++ flatX Bb := by simp [flatX]
theorem flatX_cell (O : List PathX) (v : Value) (hv : v ∈ flatX O) : v.oneCell' = true := by
  obtain ⟨x, _, h⟩ := List.mem_flatMap.1 hv
  exact cellsX_one x v h
theorem flatX_get (O : List PathX) (i j : Nat) (hi : i < O.length) (hj : j < 21) : (flatX O)[i * 21 + j]? = (cellsX O[i])[j]? := by
  induction O generalizing i with
  | nil => simp at hi
  | cons x O ih =>
    cases i with
    | zero =>
      rw [flatX, List.flatMap_cons, Nat.zero_mul, Nat.zero_add, List.getElem?_append_left (by rw [cellsX_length]; exact hj)]
      rfl
    | succ i =>
      rw [flatX, List.flatMap_cons, List.getElem?_append_right (by rw [cellsX_length]; omega), cellsX_length]
      have h := ih i (by simpa using hi)
      rw [flatX] at h
      rw [show (i + 1) * 21 + j - 21 = i * 21 + j by omega, h]
      rfl
def OwnP (F : Nat → Prop) (w : World) (v : Value) (O : List PathX) : Prop :=
  w.ownsRow 0 27 21 v O.length (flatX O) ∧ ∀ g, v.ownBlock = some g → F g
theorem OwnP.nil (F : Nat → Prop) (w : World) : OwnP F w (.slice none 0 0) [] := ⟨World.ownsRow_nil _ _ _ _, fun g h => by simp [Value.ownBlock] at h⟩
theorem OwnP.keep {F S : Nat → Prop} {w w' : World} {v : Value} {O : List PathX} (h : OwnP F w v O) (hf : Fr S w w') (hd : ∀ k, k < w.heap.size → F k → ¬ S k) : OwnP F w' v O := by
  refine ⟨⟨h.1.1, ?_⟩, h.2⟩
  rcases h.1.2 with h1 | ⟨g, cap, cur, hv, hb, hg, r⟩
  · exact .inl h1
  · exact .inr ⟨g, cap, cur, hv, hb, hf.heap hg (hd g (lt_of_block hg) (h.2 g (by rw [hv]; rfl))), r⟩
theorem OwnP.mono {F G : Nat → Prop} {w : World} {v : Value} {O : List PathX} (h : OwnP F w v O) (hd : ∀ k, k < w.heap.size → F k → G k) : OwnP G w v O :=
  ⟨h.1, fun g hg => hd g (h.1.lt g hg).2 (h.2 g hg)⟩
theorem OwnP.row {F : Nat → Prop} {w : World} {v : Value} {O : List PathX} (h : OwnP F w v O) :
    (v = .slice none 0 0 ∧ O = []) ∨ ∃ g cap cur, v = .slice (some ⟨g, 0, none⟩) O.length cap ∧ F g ∧ g < w.heap.size ∧ w.heap[g]? = some (.cells cur 27 (0, 0)) ∧ O.length ≤ cap ∧ cap ≤ maxLen ∧ cur.toList.take (O.length * 21) = flatX O := by
  rcases h.1.2 with ⟨hv, h0⟩ | ⟨g, cap, cur, hv, _, hg, h1, h2, _, h3⟩
  · exact .inl ⟨hv, List.eq_nil_of_length_eq_zero h0⟩
  · exact .inr ⟨g, cap, cur, hv, h.2 g (by rw [hv]; rfl), lt_of_block hg, hg, h1, h2, h3⟩
theorem take_cell {cur : Array Value} {n : Nat} {l : List Value} (h : cur.toList.take n = l) (i : Nat) (v : Value) (hv : l[i]? = some v) : cur[i]? = some v := by
  subst h
  rw [List.getElem?_take] at hv
  split at hv
  · rwa [Array.getElem?_toList] at hv
  · cases hv
theorem OwnP.paths {F : Nat → Prop} {w : World} {v : Value} {O : List PathX} (h : OwnP F w v O) : PathsIn F w v O := by
  rcases h.row with ⟨rfl, rfl⟩ | ⟨g, cap, cur, rfl, hF, _, hg, h1, h2, h3⟩
  · exact PathsIn.nil _ _
  · refine ⟨_, cap, rfl, h1, h2, (fun h => by cases h), fun _ => ⟨g, 0, rfl, hF, fun i hi j u hu => ?_⟩⟩
    have hj : j < 21 := by
      have := (List.getElem?_eq_some_iff.1 hu).1
      rwa [cellsX_length] at this
    rw [cell_of_row _ _ _ _ _ _ hg, Nat.zero_add]
    exact take_cell h3 _ _ (by rw [flatX_get O i j hi hj]; exact hu)
theorem Tryz.infoP : (Tryz.prog.info? 27).map (fun i => (i.zero, i.size, i.bytes)) = some (some (.agg (pathC (List.replicate 20 0) ⟨#[]⟩)), 21, 40) := by kernel_rfl
theorem run_append_paths {F G : Nat → Prop} (w : World) (ty : TypeId) (v x : Value) (O X : List PathX) (hown : OwnP F w v O) (hx : PathsIn G w x X) (hb : O.length + X.length ≤ 1000000) :
    ∃ v' w', (Builtin.append_ #[25, 25] ty #[v, x]).run Tryz.prog w = .ok v' w' ∧ OwnP (fun k => F k ∨ w.heap.size ≤ k) w' v' (O ++ X) ∧ w.grownBy w' v.ownBlock ∧ (v'.ownBlock = v.ownBlock ∨ v'.ownBlock = some w.heap.size) := by
  obtain ⟨i0, hi, hz0, hz1, hz2⟩ := info_parts Tryz.infoP
  obtain ⟨ao, cap, rfl, hl, hm, hn, hc⟩ := hx
  cases ao with
  | none =>
    obtain rfl := hn rfl
    obtain rfl : X = [] := List.eq_nil_of_length_eq_zero (by omega)
    have hr := run_append_owned_none (P := Tryz.prog) (w := w) 0 25 ty 27 i0 21 Tryz.underlying25 hi v O.length _ hown.1
    refine ⟨v, w, hr, ?_, World.grownBy.refl _ _, .inl rfl⟩
    rw [List.append_nil]
    exact hown.mono fun k _ h => .inl h
  | some a =>
    obtain ⟨v', w', hr, h2, h3, h4, h5⟩ := run_append_own_at (P := Tryz.prog) w 0 25 ty 27 i0 (.agg (pathC (List.replicate 20 0) ⟨#[]⟩)) 21 40 Tryz.underlying25 hi hz0 hz1 hz2 rfl (by decide) v O.length _ hown.1 a X.length cap (flatX X)
      (flatX_length X) (fun j u hu => by
        have hjl : j < X.length * 21 := by
          have := (List.getElem?_eq_some_iff.1 hu).1
          rwa [flatX_length] at this
        have hX : X ≠ [] := by rintro rfl; simp at hjl
        obtain ⟨b, off, ha, _, hr⟩ := hc hX
        cases ha
        have hi : j / 21 < X.length := by omega
        have h := hr (j / 21) hi (j % 21) u (by
          rw [← flatX_get X (j / 21) (j % 21) hi (by omega)]
          rw [show j / 21 * 21 + j % 21 = j by omega]
          exact hu)
        rw [addr_plain]
        rwa [show off + j / 21 * 21 + j % 21 = off + j by omega] at h) (fun u hu => flatX_cell X u hu) (by unfold maxLen; omega) (by omega) (Nat.zero_le _)
    refine ⟨v', w', hr, ⟨?_, ?_⟩, h3, h5⟩
    · rw [List.length_append, flatX_append]
      exact h2
    · intro g hg
      rcases h5 with h5 | h5
      · exact .inl (hown.2 g (by rw [← h5, hg]))
      · rw [hg] at h5
        exact .inr (by have := Option.some.inj h5; omega)
theorem wpList_append_paths {F G : Nat → Prop} (w : World) {ops : Array Oper} {rest : List Oper} {o : Oper} {a : Act} {Q : Exit → Act → World → Prop} (hgd : o.guard = none) (s x : Operand)
    (hop : o.op = Op.call { callee := Callee.builtin Builtin.append, args := #[s, x], argTypes := #[25, 25] })
    (v y : Value) (O X : List PathX) (hs : a.eval s = v) (hx : a.eval x = y) (hown : OwnP F w v O) (hX : PathsIn G w y X) (hb : O.length + X.length ≤ 1000000)
    (hK : ∀ v' w', OwnP (fun k => F k ∨ w.heap.size ≤ k) w' v' (O ++ X) → w.grownBy w' v.ownBlock → (v'.ownBlock = v.ownBlock ∨ v'.ownBlock = some w.heap.size) → wpList Tryz.prog ops Q rest (a.put o.dst v') w') : wpList Tryz.prog ops Q (o :: rest) a w := by
  refine wpList_plain hgd fun K hK' => ?_
  subst hs; subst hx
  obtain ⟨v', w', hr, h1, h2, h3⟩ := run_append_paths w o.type _ _ O X hown hX hb
  unfold Oper.wp
  simp [execOp, hop, resolve, invoke, builtin, hr, Result.andThen]
  exact hK' _ _ (hK v' w' h1 h2 h3)
theorem run_build_one20 (w : World) (a0 a1 a2 a3 a4 a5 a6 a7 a8 a9 a10 a11 a12 a13 a14 a15 a16 a17 a18 a19 : Value) (s : Value) : (Instr.buildSlice 25 1 #[(0, .agg #[a0, a1, a2, a3, a4, a5, a6, a7, a8, a9, a10, a11, a12, a13, a14, a15, a16, a17, a18, a19, s])]).run Tryz.prog w = .ok (.slice (some ⟨w.heap.size, 0, none⟩) 1 1) (w.alloc (.cells #[a0, a1, a2, a3, a4, a5, a6, a7, a8, a9, a10, a11, a12, a13, a14, a15, a16, a17, a18, a19, s] 27)) := by kernel_rfl
theorem run_build_one (w : World) (x : PathX) : (Instr.buildSlice 25 1 #[(0, .agg (pathC x.h x.n))]).run Tryz.prog w = .ok (.slice (some ⟨w.heap.size, 0, none⟩) 1 1) (w.alloc (.cells (pathC x.h x.n) 27)) := by
  obtain ⟨h, n, hl⟩ := x
  match h, hl with
  | [a0, a1, a2, a3, a4, a5, a6, a7, a8, a9, a10, a11, a12, a13, a14, a15, a16, a17, a18, a19], _ => exact run_build_one20 w (bv a0) (bv a1) (bv a2) (bv a3) (bv a4) (bv a5) (bv a6) (bv a7) (bv a8) (bv a9) (bv a10) (bv a11) (bv a12) (bv a13) (bv a14) (bv a15) (bv a16) (bv a17) (bv a18) (bv a19) (.string n)
theorem PathsIn.one (w : World) (x : PathX) : PathsIn (fun k => k = w.heap.size) (w.alloc (.cells (pathC x.h x.n) 27)) (.slice (some ⟨w.heap.size, 0, none⟩) 1 1) [x] := by
  refine ⟨_, 1, rfl, Nat.le_refl _, by simp [maxLen], (fun h => by cases h), fun _ => ⟨w.heap.size, 0, rfl, rfl, fun i hi j u hu => ?_⟩⟩
  have hi0 : i = 0 := by simp at hi; omega
  subst hi0
  rw [cell_of_row _ _ _ _ _ _ (heap_alloc_new w _)]
  simpa [cellsX, pathC] using hu
end Go.Proofs.YtfkgdjoaoidkeaaGreat
namespace Go.Proofs.YtfkgdjoaoidkeaaGreat
set_option linter.unusedVariables false
section
variable {α : Type} (lt : α → α → Bool)
def aboveL (out : List α) (x : α) : Bool := match out.getLast? with | none => true | some y => lt y x
def nextS (out : List α) (best : Option α) (x : α) : Option α := if (aboveL lt out x && (match best with | none => true | some b => lt x b)) = true then some x else best
def nextL (l out : List α) (n : Nat) : Option α := (l.take n).foldl (nextS lt out) none
theorem nextL_zero (l out : List α) : nextL lt l out 0 = none := by simp [nextL]
theorem nextL_succ (l out : List α) (n : Nat) (h : n < l.length) : nextL lt l out (n + 1) = nextS lt out (nextL lt l out n) l[n] := by
  rw [nextL, nextL, List.take_succ_eq_append_getElem h, List.foldl_append]
  rfl
structure Strict (lt : α → α → Bool) : Prop where
  irr : ∀ a, lt a a = false
  trans : ∀ a b c, lt a b = true → lt b c = true → lt a c = true
  tri : ∀ a b, lt a b = false → lt b a = false → a = b
variable {lt}
theorem nextL_says (S : Strict lt) (l out : List α) : ∀ n, n ≤ l.length →
    match nextL lt l out n with
    | none => ∀ x ∈ l.take n, aboveL lt out x = false
    | some b => b ∈ l.take n ∧ aboveL lt out b = true ∧ ∀ x ∈ l.take n, aboveL lt out x = true → lt x b = false := by
  intro n
  induction n with
  | zero => intro _; simp [nextL]
  | succ n ih =>
    intro h
    have hl : n < l.length := by omega
    have ih := ih (by omega)
    rw [nextL_succ lt l out n hl, List.take_succ_eq_append_getElem hl]
    cases hb : nextL lt l out n with
    | none =>
      rw [hb] at ih
      cases ha : aboveL lt out l[n] with
      | false =>
        simp only [nextS, ha, Bool.false_and, Bool.false_eq_true, if_false]
        intro x hx
        rcases List.mem_append.1 hx with h | h
        · exact ih x h
        · obtain rfl := List.mem_singleton.1 h; exact ha
      | true =>
        rw [show nextS lt out none l[n] = some l[n] by simp [nextS, ha]]
        refine ⟨List.mem_append_right _ (List.mem_singleton.2 rfl), ha, fun x hx hxa => ?_⟩
        rcases List.mem_append.1 hx with h | h
        · rw [ih x h] at hxa; cases hxa
        · obtain rfl := List.mem_singleton.1 h; exact S.irr _
    | some b =>
      rw [hb] at ih
      obtain ⟨i1, i2, i3⟩ := ih
      cases ha : (aboveL lt out l[n] && lt l[n] b) with
      | false =>
        simp only [nextS, ha, Bool.false_eq_true, if_false]
        refine ⟨List.mem_append_left _ i1, i2, fun x hx hxa => ?_⟩
        rcases List.mem_append.1 hx with h | h
        · exact i3 x h hxa
        · obtain rfl := List.mem_singleton.1 h
          rw [hxa, Bool.true_and] at ha
          exact ha
      | true =>
        rw [show nextS lt out (some b) l[n] = some l[n] by simp only [nextS, ha, if_true]]
        rw [Bool.and_eq_true] at ha
        refine ⟨List.mem_append_right _ (List.mem_singleton.2 rfl), ha.1, fun x hx hxa => ?_⟩
        rcases List.mem_append.1 hx with h | h
        · have h1 := i3 x h hxa
          cases h2 : lt x l[n] with
          | false => rfl
          | true => rw [S.trans _ _ _ h2 ha.2] at h1; cases h1
        · obtain rfl := List.mem_singleton.1 h; exact S.irr _
def Asc (lt : α → α → Bool) (l : List α) : Prop := l.Pairwise fun a b => lt a b = true
theorem Asc.nodup (S : Strict lt) {l : List α} (h : Asc lt l) : l.Nodup := List.Pairwise.imp (fun {a b} hab => by rintro rfl; rw [S.irr] at hab; cases hab) h
theorem Asc.last (S : Strict lt) {l : List α} (h : Asc lt l) (y : α) (hy : l.getLast? = some y) : ∀ x ∈ l, x = y ∨ lt x y = true := by
  obtain ⟨l', rfl⟩ := List.getLast?_eq_some_iff.1 hy
  intro x hx
  rcases List.mem_append.1 hx with hx | hx
  · exact .inr ((List.pairwise_append.1 h).2.2 x hx y (by simp))
  · exact .inl (List.mem_singleton.1 hx)
structure Upto (lt : α → α → Bool) (l out : List α) : Prop where
  asc : Asc lt out
  sub : ∀ x ∈ out, x ∈ l
  all : ∀ x ∈ l, x ∈ out ∨ aboveL lt out x = true
theorem Upto.nil (l : List α) : Upto lt l [] := ⟨List.Pairwise.nil, by simp, fun x _ => .inr rfl⟩
theorem Upto.next (S : Strict lt) {l out : List α} (h : Upto lt l out) {b : α} (hb : nextL lt l out l.length = some b) : Upto lt l (out ++ [b]) := by
  have hs := nextL_says S l out l.length (Nat.le_refl _)
  rw [hb, List.take_length] at hs
  obtain ⟨s1, s2, s3⟩ := hs
  refine ⟨?_, ?_, ?_⟩
  · refine List.pairwise_append.2 ⟨h.asc, by simp, fun x hx y hy => ?_⟩
    obtain rfl := List.mem_singleton.1 hy
    cases hl : out.getLast? with
    | none => rw [List.getLast?_eq_none_iff.1 hl] at hx; cases hx
    | some z =>
      rw [aboveL, hl] at s2
      rcases h.asc.last S z hl x hx with rfl | h1
      · exact s2
      · exact S.trans _ _ _ h1 s2
  · intro x hx
    rcases List.mem_append.1 hx with hx | hx
    · exact h.sub x hx
    · obtain rfl := List.mem_singleton.1 hx; exact s1
  · intro x hx
    rcases h.all x hx with h1 | h1
    · exact .inl (List.mem_append_left _ h1)
    · have h2 := s3 x hx h1
      rw [aboveL, show (out ++ [b]).getLast? = some b by simp]
      show x ∈ out ++ [b] ∨ lt b x = true
      cases h3 : lt b x with
      | true => exact .inr rfl
      | false => exact .inl (by rw [S.tri x b h2 h3]; simp)
theorem Upto.done (S : Strict lt) {l out : List α} (h : Upto lt l out) (hb : nextL lt l out l.length = none) : ∀ x, x ∈ out ↔ x ∈ l := by
  have hs := nextL_says S l out l.length (Nat.le_refl _)
  rw [hb, List.take_length] at hs
  refine fun x => ⟨h.sub x, fun hx => ?_⟩
  rcases h.all x hx with h1 | h1
  · exact h1
  · rw [hs x hx] at h1; cases h1
theorem Asc.same (S : Strict lt) : ∀ {l m : List α}, Asc lt l → Asc lt m → (∀ x, x ∈ l ↔ x ∈ m) → l = m := by
  intro l
  induction l with
  | nil =>
    intro m _ _ h
    cases m with
    | nil => rfl
    | cons y m => exact absurd ((h y).2 (by simp)) (by simp)
  | cons x l ih =>
    intro m hl hm h
    cases m with
    | nil => exact absurd ((h x).1 (by simp)) (by simp)
    | cons y m =>
      obtain ⟨l1, l2⟩ := List.pairwise_cons.1 hl
      obtain ⟨m1, m2⟩ := List.pairwise_cons.1 hm
      have hxy : x = y := by
        rcases List.mem_cons.1 ((h x).1 (by simp)) with rfl | h1
        · rfl
        · rcases List.mem_cons.1 ((h y).2 (by simp)) with rfl | h2
          · rfl
          · have := S.trans _ _ _ (l1 y h2) (m1 x h1)
            rw [S.irr] at this
            cases this
      subst hxy
      rw [ih l2 m2 (fun z => ⟨fun hz => ?_, fun hz => ?_⟩)]
      · rcases List.mem_cons.1 ((h z).1 (List.mem_cons_of_mem _ hz)) with rfl | h1
        · have := l1 z hz; rw [S.irr] at this; cases this
        · exact h1
      · rcases List.mem_cons.1 ((h z).2 (List.mem_cons_of_mem _ hz)) with rfl | h1
        · have := m1 z hz; rw [S.irr] at this; cases this
        · exact h1
theorem nodup_le [DecidableEq α] : ∀ {l m : List α}, l.Nodup → (∀ x ∈ l, x ∈ m) → l.length ≤ m.length := by
  intro l
  induction l with
  | nil => intro m _ _; simp
  | cons x l ih =>
    intro m h hs
    obtain ⟨h1, h2⟩ := List.nodup_cons.1 h
    have hx := hs x (by simp)
    have := ih (m := m.erase x) h2 (fun y hy => by
      have hne : y ≠ x := by rintro rfl; exact h1 hy
      exact (List.mem_erase_of_ne hne).2 (hs y (List.mem_cons_of_mem _ hy)))
    rw [List.length_erase_of_mem hx] at this
    have hp := List.length_pos_of_mem hx
    simp only [List.length_cons]
    omega
theorem Upto.short [DecidableEq α] (S : Strict lt) {l out : List α} (h : Upto lt l out) : out.length ≤ l.length := nodup_le (h.asc.nodup S) h.sub
end
theorem bytesLess_trans : ∀ (a b c : List UInt8), Op.bytesLess a b = true → Op.bytesLess b c = true → Op.bytesLess a c = true := by
  intro a
  induction a with
  | nil =>
    intro b c h1 h2
    cases c with
    | nil => simp [Op.bytesLess] at h2
    | cons z c => rfl
  | cons x a ih =>
    intro b c h1 h2
    cases b with
    | nil => simp [Op.bytesLess] at h1
    | cons y b =>
      cases c with
      | nil => simp [Op.bytesLess] at h2
      | cons z c =>
        simp only [Op.bytesLess, Bool.or_eq_true, Bool.and_eq_true, decide_eq_true_eq, beq_iff_eq] at *
        rcases h1 with h1 | ⟨rfl, h1⟩ <;> rcases h2 with h2 | ⟨rfl, h2⟩
        · exact .inl (UInt8.lt_trans h1 h2)
        · exact .inl h1
        · exact .inl h2
        · exact .inr ⟨rfl, ih b c h1 h2⟩
theorem bytesLess_tri : ∀ (a b : List UInt8), Op.bytesLess a b = false → Op.bytesLess b a = false → a = b := by
  intro a
  induction a with
  | nil =>
    intro b h1 h2
    cases b with
    | nil => rfl
    | cons y b => simp [Op.bytesLess] at h1
  | cons x a ih =>
    intro b h1 h2
    cases b with
    | nil => simp [Op.bytesLess] at h2
    | cons y b =>
      simp only [Op.bytesLess, Bool.or_eq_false_iff, Bool.and_eq_false_iff, decide_eq_false_iff_not, beq_eq_false_iff_ne] at h1 h2
      have e : x = y := by
        have h3 := UInt8.not_lt.1 h1.1
        have h4 := UInt8.not_lt.1 h2.1
        exact UInt8.le_antisymm h4 h3
      subst e
      rw [ih b (h1.2.resolve_left (fun h => h rfl)) (h2.2.resolve_left (fun h => h rfl))]
abbrev PathV := List UInt8 × ByteArray
def lessV (a b : PathV) : Bool := lessP a.1 a.2 b.1 b.2
theorem lessV_strict : Strict lessV := by
  refine ⟨fun a => ?_, fun a b c h1 h2 => ?_, fun a b h1 h2 => ?_⟩
  · simp [lessV, lessP, less_irrefl]
  · simp only [lessV, lessP, Bool.or_eq_true, Bool.and_eq_true, beq_iff_eq] at *
    rcases h1 with h1 | ⟨e1, h1⟩ <;> rcases h2 with h2 | ⟨e2, h2⟩
    · exact .inl (bytesLess_trans _ _ _ h1 h2)
    · exact .inl (e2 ▸ h1)
    · exact .inl (e1 ▸ h2)
    · exact .inr ⟨e1.trans e2, bytesLess_trans _ _ _ h1 h2⟩
  · simp only [lessV, lessP, Bool.or_eq_false_iff, Bool.and_eq_false_iff, beq_eq_false_iff_ne] at h1 h2
    have e := bytesLess_tri _ _ h1.1 h2.1
    have e2 := bytesLess_tri _ _ (h1.2.resolve_left (fun h => h e)) (h2.2.resolve_left (fun h => h e.symm))
    rw [Go.ByteArray.toList_eq, Go.ByteArray.toList_eq] at e2
    obtain ⟨a1, a2⟩ := a
    obtain ⟨b1, b2⟩ := b
    simp only at e e2
    rw [e, ByteArray.ext (Array.toList_inj.1 e2)]
end Go.Proofs.YtfkgdjoaoidkeaaGreat
namespace Go.Proofs.YtfkgdjoaoidkeaaGreat
open Go.RowKit Go.ChangeShapes Go.Sort
set_option linter.unusedVariables false
def lessX (x y : PathX) : Bool := lessP x.h x.n y.h y.n
def ordX (x y : PathX) : Int := ordP x.h x.n y.h y.n
theorem lessX_strict : Strict lessX := by
  refine ⟨fun a => lessV_strict.irr (a.h, a.n), fun a b c h1 h2 => lessV_strict.trans (a.h, a.n) (b.h, b.n) (c.h, c.n) h1 h2, fun a b h1 h2 => ?_⟩
  have h := lessV_strict.tri (a.h, a.n) (b.h, b.n) h1 h2
  simp only [Prod.mk.injEq] at h
  exact PathX.ext h.1 h.2
theorem lt_ordX (x y : PathX) : ltOf ordX x y = lessX x y := ord_less x.h x.n y.h y.n
theorem swo_ordX : SWO (ltOf ordX) := by
  refine ⟨fun x => ?_, fun x y z h1 h2 => ?_, fun x y z h1 h2 => ?_⟩
  · rw [lt_ordX]; exact lessX_strict.irr x
  · rw [lt_ordX] at *; exact lessX_strict.trans x y z h1 h2
  · rw [lt_ordX] at *
    cases h : lessX x z with
    | false => rfl
    | true =>
      cases h3 : lessX y x with
      | true => rw [lessX_strict.trans y x z h3 h] at h2; cases h2
      | false =>
        have e := lessX_strict.tri x y h1 h3
        rw [← e, h] at h2
        cases h2
theorem asc_of_sorted (M : List PathX) (hn : M.Nodup) (hs : ∀ i j (hij : i < j) (hj : j < M.length), lessX M[j] M[i] = false) : Asc lessX M := by
  rw [Asc, List.pairwise_iff_getElem]
  intro i j hi hj hij
  cases h : lessX M[i] M[j] with
  | true => rfl
  | false =>
    have e := lessX_strict.tri _ _ h (hs i j hij hj)
    exact absurd e (List.pairwise_iff_getElem.1 hn i j hi hj hij)
theorem holdsX (w : World) (g : Nat) (cur : Array Value) (T : TypeId) (O : List PathX) (hg : w.heap[g]? = some (.cells cur T (0, 0))) (h : cur.toList.take (O.length * 21) = flatX O) : HoldsK cellsX 21 w g 0 O.toArray := by
  intro t ht
  rw [size_flatK, List.size_toArray] at ht
  refine ⟨?_, frozen_of_row _ _ _ _ _ hg⟩
  have hi : t / 21 < O.length := by omega
  rw [cell_of_row _ _ _ _ _ _ hg, Nat.zero_add, get_flatK _ _ _ t (by rw [List.size_toArray]; exact ht)]
  have e : O.toArray[t / 21]! = O[t / 21] := by simp [hi]
  rw [e]
  refine take_cell h t _ ?_
  have h1 := flatX_get O (t / 21) (t % 21) hi (by omega)
  rw [show t / 21 * 21 + t % 21 = t by omega] at h1
  have hlt : t % 21 < (cellsX O[t / 21]).length := by rw [cellsX_length]; omega
  rw [h1, List.getElem?_eq_getElem hlt]
  simp [hlt]
theorem paths_of_holds (F : Nat → Prop) (w : World) (g cap : Nat) (M : List PathX) (hF : F g) (hl : M.length ≤ cap) (hm : cap ≤ maxLen) (h : HoldsK cellsX 21 w g 0 M.toArray) : PathsIn F w (.slice (some ⟨g, 0, none⟩) M.length cap) M := by
  refine ⟨_, cap, rfl, hl, hm, (fun h => by cases h), fun _ => ⟨g, 0, rfl, hF, fun i hi j u hu => ?_⟩⟩
  obtain ⟨hj, rfl⟩ := List.getElem?_eq_some_iff.1 hu
  have hj21 : j < 21 := by rwa [cellsX_length] at hj
  have h1 := (h.cell (i := i) (c := j) (by simpa using hi) hj21).1
  rw [Nat.zero_add] at h1 ⊢
  rw [h1]
  simp [hi, hj]
theorem fr_sorted (w : World) (g m : Nat) (M : Array PathX) (os : Array Obj) : Fr (fun i => i = g) w (sortWorldK cellsX 21 w g 0 m M os) := by
  refine ⟨rfl, rfl, rfl, size_sortWorldK_c cellsX 21 w g 0 m M os, fun i hi hs => ?_⟩
  have hi' : i < (putRowK cellsX 21 (Sort.ahead w m) g 0 M).heap.size := by rw [size_putRowK]; exact hi
  show (grow (putRowK cellsX 21 (Sort.ahead w m) g 0 M) os).heap[i]? = _
  rw [heap_grow_old _ _ hi']
  show ((Sort.ahead w m).heap.modify g _)[i]? = _
  rw [Array.getElem?_modify, if_neg (fun e => hs e.symm)]
  rfl
theorem order_enters (args : Array Value) (w : World) : (callFunc 42 args).run Tryz.prog w = .ok (.enter 42 args) w := enters_of Tryz.func42 (by kernel_rfl) rfl args w
theorem sort_any {F : Nat → Prop} (w : World) (v : Value) (O : List PathX) (h : OwnP F w v O) (hn : O.Nodup) (hlen : O.length ≤ 1000000) :
    Calls Tryz.prog 41 #[v, .func (.func 42) #[] #[]] w fun e w' => e = .returned (.tuple #[]) ∧ ∃ M, PathsIn F w' v M ∧ Asc lessX M ∧ (∀ x, x ∈ M ↔ x ∈ O) ∧ Fr (fun k => v.ownBlock = some k) w w' := by
  rcases h.row with ⟨rfl, rfl⟩ | ⟨g, cap, cur, rfl, hF, hg, hb, h1, h2, h3⟩
  · have hc := AnyF.slices_SortFunc_none Tryz.sortP none 0 (.func (.func 42) #[] #[]) w
    change Calls Tryz.prog 41 _ _ _ at hc
    refine hc.mono ?_
    rintro e w' ⟨rfl, rfl⟩
    exact ⟨rfl, [], PathsIn.nil _ _, List.Pairwise.nil, fun x => Iff.rfl, Fr.refl _ _⟩
  · have hH := holdsX w g cur _ O hb h3
    have hc := AnyQ.slices_SortFunc Tryz.sortP 21 Tryz.isAgg27 Tryz.sizeOf27 cellsX cellsX_length cellsX_one ordX swo_ordX 42 #[] g 0 cap O.toArray w order_enters
      (fun m os dk hs x y => order_any x.h x.n y.h y.n x.hl y.hl _) hH hg (by rw [List.size_toArray]; omega)
    change Calls Tryz.prog 41 _ _ _ at hc
    rw [List.size_toArray] at hc
    refine hc.mono ?_
    rintro e w' ⟨rfl, d', n, os, hp, hs, rfl⟩
    obtain ⟨hps, _, hpp⟩ := hp
    have hd : d'.toList.Perm O := by
      have e1 : (d'.extract 0 O.length).toList = d'.toList := by
        have : d'.size = O.length := by rw [hps, List.size_toArray]
        rw [← this, Array.extract_size]
      have e2 : (O.toArray.extract 0 O.length).toList = O := by
        have : O.toArray.size = O.length := List.size_toArray
        rw [← this, Array.extract_size]
      rwa [e1, e2] at hpp
    have hlM : d'.toList.length = O.length := hd.length_eq
    have hH' := holdsK_sortWorldK_c cellsX 21 w g 0 O.toArray d' n os hH hg (by rw [hps])
    refine ⟨rfl, d'.toList, ?_, asc_of_sorted _ (hd.nodup_iff.2 hn) (fun i j hij hj => ?_), fun x => hd.mem_iff, (fr_sorted w g n d' os).mono (fun i _ e => by rw [e]; rfl)⟩
    · rw [← hlM]
      exact paths_of_holds F _ g cap d'.toList hF (by omega) h2 (by simpa using hH')
    · have h := hs i j (Nat.zero_le _) hij (by omega)
      rw [lt_ordX] at h
      have ej : d'[j]! = d'.toList[j] := by
        have : j < d'.size := by simpa using hj
        simp [this]
      have ei : d'[i]! = d'.toList[i]'(by omega) := by
        have : i < d'.size := by have : j < d'.size := by simpa using hj
                                 omega
        simp [this]
      rwa [ej, ei] at h
end Go.Proofs.YtfkgdjoaoidkeaaGreat
namespace Go.Proofs.YtfkgdjoaoidkeaaGreat
open Go.RowKit Go.ChangeShapes
set_option linter.unusedVariables false
theorem op_len_paths {w : World} {o : Oper} {a : Act} {x : Operand} {ao : Option Addr} {n cap : Nat} (ho : o.op = .call { callee := .builtin .len, args := #[x], argTypes := #[25] }) (hx : a.eval x = .slice ao n cap) :
    (execOp a.eval o).run Tryz.prog w = .ok (.value (.int .i64 n)) w := by
  obtain ⟨d, op, ty, pos, aft, g⟩ := o
  simp only at ho
  subst ho
  simp [execOp, resolve, invoke, builtin, Builtin.len_, hx, Result.andThen, goInt]
theorem run_index_paths (w : World) (b off n cap i : Nat) (h : i < n) : (Instr.indexAt 25 (.slice (some ⟨b, off, none⟩) n cap) (.int .i64 i)).run Tryz.prog w = .ok (.pointer (some ⟨b, off + i * 21, none⟩)) w := by
  simp [Instr.indexAt, h, Addr.add, asIntOf]
theorem run_one_less (w : World) (n : Nat) (h : 0 < n) (hn : n ≤ 1000000) : (binOp .sub 3 (.int .i64 n) (.int .i64 1)).run Tryz.prog w = .ok (.int .i64 ((n - 1 : Nat) : Int)) w := by
  have e : (n : Int) - 1 = ((n - 1 : Nat) : Int) := by omega
  simp [binOp, Op.intArith, e, IntKind.wrap, IntKind.bits, IntKind.signed]
  omega
theorem run_eq_zero (w : World) (n : Nat) : (binOp .eql 3 (.int .i64 n) (.int .i64 0)).run Tryz.prog w = .ok (.bool (decide (n = 0))) w := by
  simp [binOp, Op.intCmp]
  rw [Bool.eq_iff_iff, beq_iff_eq, decide_eq_true_iff]
  omega
theorem load_mid_path (w : World) (b o : Nat) (x : PathX) (h : w.rangeAt b o (cellsX x)) : (Instr.loadAt 27 (.pointer (some ⟨b, o, none⟩))).run Tryz.prog w = .ok (.agg (pathC x.h x.n)) w := by
  exact run_loadAt_mid w b o 27 (cellsX x) _ h Tryz.underlying27 rfl (by rw [cellsX_length]; kernel_rfl)
theorem rLessX_any (x y : PathX) (w : World) :
    Calls Tryz.prog 45 #[.agg (pathC x.h x.n), .agg (pathC y.h y.n)] w fun e w' => e = .returned (.bool (lessX x y)) ∧ Fr (fun _ => False) w w' := rLess_any x.h x.n y.h y.n x.hl y.hl w
end Go.Proofs.YtfkgdjoaoidkeaaGreat
namespace Go.Proofs.YtfkgdjoaoidkeaaGreat
open Go.RowKit Go.ChangeShapes
set_option linter.unusedVariables false
section
variable {P : Program} {w : World} {o : Oper} {a : Act}
theorem eval_const5 (a : Act) (v : Value) : a.eval (.const v) = v := rfl
end
theorem load_one5 (w : World) (T : TypeId) (p : Addr) (v : Value) (hT : (isAgg T).run Tryz.prog w = .ok false w) (h : w.cell? p = some v) : (Instr.loadAt T (.pointer (some p))).run Tryz.prog w = .ok v w := by
  simp [Instr.loadAt, Instr.sureAddr, loadVar, hT, h, go_sem]
section
variable {w : World} {T : TypeId} {k : IntKind} {x y : Int}
theorem lss_yes (h : x < y) : (binOp .lss T (.int k x) (.int k y)).run Tryz.prog w = .ok (.bool true) w := by rw [binOp_lss]; simp [h]
theorem lss_no (h : y ≤ x) : (binOp .lss T (.int k x) (.int k y)).run Tryz.prog w = .ok (.bool false) w := by rw [binOp_lss]; simp [h]
end
theorem wrap_in5 {x : Int} (h0 : -9223372036854775808 ≤ x) (h1 : x ≤ 9223372036854775807) : IntKind.i64.wrap x = x := IntWalk.i64_in x (by omega)
theorem sub_in5 {w : World} {T : TypeId} {x y z : Int} (hz : x - y = z) (h0 : -9223372036854775808 ≤ z) (h1 : z ≤ 9223372036854775807) : (binOp .sub T (.int .i64 x) (.int .i64 y)).run Tryz.prog w = .ok (.int .i64 z) w := by
  rw [binOp_sub]
  subst hz
  simp [Op.intArith, wrap_in5 h0 h1, go_sem]
theorem op_extract5 {P : Program} {w : World} {o : Oper} {a : Act} {x : Operand} {i : Nat} {vs : Array Value} {v : Value} (ho : o.op = .extract x i) (hx : a.eval x = .tuple vs) (hv : vs[i]? = some v) : (execOp a.eval o).run P w = .ok (.value v) w := by
  unfold execOp
  rw [ho]
  simp only [hx, Instr.extract, hv]
  rfl
end Go.Proofs.YtfkgdjoaoidkeaaGreat
