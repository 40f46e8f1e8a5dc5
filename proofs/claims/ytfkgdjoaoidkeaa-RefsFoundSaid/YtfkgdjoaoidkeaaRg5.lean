/- Laid together: SortL SortC BSorted RfKy -/
import Derived.Test.YtfkgdjoaoidkeaaRg3
import Derived.Test.YtfkgdjoaoidkeaaRg4
import Derived.Test.YtfkgdjoaoidkeaaShelf
import Derived.Test.YtfkgdjoaoidkeaaShelfS
import Derived.Deep.MidRow
import Derived.Test.YtfkgdjoaoidkeaaRg1

namespace Go.Proofs.Ytfkgdjoaoidkeaa
set_option linter.unusedVariables false
section
variable {α : Type} (lt : α → α → Bool)
structure Strict (lt : α → α → Bool) : Prop where
  irr : ∀ a, lt a a = false
  trans : ∀ a b c, lt a b = true → lt b c = true → lt a c = true
  tri : ∀ a b, lt a b = false → lt b a = false → a = b
variable {lt}
def Asc (lt : α → α → Bool) (l : List α) : Prop := l.Pairwise fun a b => lt a b = true
theorem Asc.nodup (S : Strict lt) {l : List α} (h : Asc lt l) : l.Nodup := List.Pairwise.imp (fun {a b} hab => by rintro rfl; rw [S.irr] at hab; cases hab) h
theorem Asc.same (S : Strict lt) : ∀ {l m : List α}, Asc lt l → Asc lt m → (∀ x, x ∈ l ↔ x ∈ m) → l = m := by
  intro l
  induction l with
  | nil =>
    intro m _ _ h
    cases m with
    | nil => rfl
    | cons y m => exact absurd ((h y).2 (by simp)) (by simp)
  | cons x l ih =>
    intro m hl hm h
    cases m with
    | nil => exact absurd ((h x).1 (by simp)) (by simp)
    | cons y m =>
      obtain ⟨l1, l2⟩ := List.pairwise_cons.1 hl
      obtain ⟨m1, m2⟩ := List.pairwise_cons.1 hm
      have hxy : x = y := by
        rcases List.mem_cons.1 ((h x).1 (by simp)) with rfl | h1
        · rfl
        · rcases List.mem_cons.1 ((h y).2 (by simp)) with rfl | h2
          · rfl
          · have := S.trans _ _ _ (l1 y h2) (m1 x h1)
            rw [S.irr] at this
            cases this
      subst hxy
      rw [ih l2 m2 (fun z => ⟨fun hz => ?_, fun hz => ?_⟩)]
      · rcases List.mem_cons.1 ((h z).1 (List.mem_cons_of_mem _ hz)) with rfl | h1
        · have := l1 z hz; rw [S.irr] at this; cases this
        · exact h1
      · rcases List.mem_cons.1 ((h z).2 (List.mem_cons_of_mem _ hz)) with rfl | h1
        · have := m1 z hz; rw [S.irr] at this; cases this
        · exact h1
end
theorem bytesLess_trans : ∀ (a b c : List UInt8), Op.bytesLess a b = true → Op.bytesLess b c = true → Op.bytesLess a c = true := by
  intro a
  induction a with
  | nil =>
    intro b c h1 h2
    cases c with
    | nil => simp [Op.bytesLess] at h2
    | cons z c => rfl
  | cons x a ih =>
    intro b c h1 h2
    cases b with
    | nil => simp [Op.bytesLess] at h1
    | cons y b =>
      cases c with
      | nil => simp [Op.bytesLess] at h2
      | cons z c =>
        simp only [Op.bytesLess, Bool.or_eq_true, Bool.and_eq_true, decide_eq_true_eq, beq_iff_eq] at *
        rcases h1 with h1 | ⟨rfl, h1⟩ <;> rcases h2 with h2 | ⟨rfl, h2⟩
        · exact .inl (UInt8.lt_trans h1 h2)
        · exact .inl h1
        · exact .inl h2
        · exact .inr ⟨rfl, ih b c h1 h2⟩
theorem bytesLess_tri : ∀ (a b : List UInt8), Op.bytesLess a b = false → Op.bytesLess b a = false → a = b := by
  intro a
  induction a with
  | nil =>
    intro b h1 h2
    cases b with
    | nil => rfl
    | cons y b => simp [Op.bytesLess] at h1
  | cons x a ih =>
    intro b h1 h2
    cases b with
    | nil => simp [Op.bytesLess] at h2
    | cons y b =>
      simp only [Op.bytesLess, Bool.or_eq_false_iff, Bool.and_eq_false_iff, decide_eq_false_iff_not, beq_eq_false_iff_ne] at h1 h2
      have e : x = y := by
        have h3 := UInt8.not_lt.1 h1.1
        have h4 := UInt8.not_lt.1 h2.1
        exact UInt8.le_antisymm h4 h3
      subst e
      rw [ih b (h1.2.resolve_left (fun h => h rfl)) (h2.2.resolve_left (fun h => h rfl))]
abbrev PathV := List UInt8 × ByteArray
def lessV (a b : PathV) : Bool := lessP a.1 a.2 b.1 b.2
theorem lessV_strict : Strict lessV := by
  refine ⟨fun a => ?_, fun a b c h1 h2 => ?_, fun a b h1 h2 => ?_⟩
  · simp [lessV, lessP, less_irrefl]
  · simp only [lessV, lessP, Bool.or_eq_true, Bool.and_eq_true, beq_iff_eq] at *
    rcases h1 with h1 | ⟨e1, h1⟩ <;> rcases h2 with h2 | ⟨e2, h2⟩
    · exact .inl (bytesLess_trans _ _ _ h1 h2)
    · exact .inl (e2 ▸ h1)
    · exact .inl (e1 ▸ h2)
    · exact .inr ⟨e1.trans e2, bytesLess_trans _ _ _ h1 h2⟩
  · simp only [lessV, lessP, Bool.or_eq_false_iff, Bool.and_eq_false_iff, beq_eq_false_iff_ne] at h1 h2
    have e := bytesLess_tri _ _ h1.1 h2.1
    have e2 := bytesLess_tri _ _ (h1.2.resolve_left (fun h => h e)) (h2.2.resolve_left (fun h => h e.symm))
    rw [Go.ByteArray.toList_eq, Go.ByteArray.toList_eq] at e2
    obtain ⟨a1, a2⟩ := a
    obtain ⟨b1, b2⟩ := b
    simp only at e e2
    rw [e, ByteArray.ext (Array.toList_inj.1 e2)]
end Go.Proofs.Ytfkgdjoaoidkeaa
namespace Go.Proofs.Ytfkgdjoaoidkeaa
open Go.RowKit Go.ChangeShapes Go.Sort
set_option linter.unusedVariables false
def lessX (x y : PathX) : Bool := lessP x.h x.n y.h y.n
def ordX (x y : PathX) : Int := ordP x.h x.n y.h y.n
theorem lessX_strict : Strict lessX := by
  refine ⟨fun a => lessV_strict.irr (a.h, a.n), fun a b c h1 h2 => lessV_strict.trans (a.h, a.n) (b.h, b.n) (c.h, c.n) h1 h2, fun a b h1 h2 => ?_⟩
  have h := lessV_strict.tri (a.h, a.n) (b.h, b.n) h1 h2
  simp only [Prod.mk.injEq] at h
  exact PathX.ext h.1 h.2
theorem lt_ordX (x y : PathX) : ltOf ordX x y = lessX x y := ord_less x.h x.n y.h y.n
theorem swo_ordX : SWO (ltOf ordX) := by
  refine ⟨fun x => ?_, fun x y z h1 h2 => ?_, fun x y z h1 h2 => ?_⟩
  · rw [lt_ordX]; exact lessX_strict.irr x
  · rw [lt_ordX] at *; exact lessX_strict.trans x y z h1 h2
  · rw [lt_ordX] at *
    cases h : lessX x z with
    | false => rfl
    | true =>
      cases h3 : lessX y x with
      | true => rw [lessX_strict.trans y x z h3 h] at h2; cases h2
      | false =>
        have e := lessX_strict.tri x y h1 h3
        rw [← e, h] at h2
        cases h2
theorem asc_of_sorted (M : List PathX) (hn : M.Nodup) (hs : ∀ i j (hij : i < j) (hj : j < M.length), lessX M[j] M[i] = false) : Asc lessX M := by
  rw [Asc, List.pairwise_iff_getElem]
  intro i j hi hj hij
  cases h : lessX M[i] M[j] with
  | true => rfl
  | false =>
    have e := lessX_strict.tri _ _ h (hs i j hij hj)
    exact absurd e (List.pairwise_iff_getElem.1 hn i j hi hj hij)
theorem holdsX (w : World) (g : Nat) (cur : Array Value) (T : TypeId) (O : List PathX) (hg : w.heap[g]? = some (.cells cur T (0, 0))) (h : cur.toList.take (O.length * 21) = flatX O) : HoldsK cellsX 21 w g 0 O.toArray := by
  intro t ht
  rw [size_flatK, List.size_toArray] at ht
  refine ⟨?_, frozen_of_row _ _ _ _ _ hg⟩
  have hi : t / 21 < O.length := by omega
  rw [cell_of_row _ _ _ _ _ _ hg, Nat.zero_add, get_flatK _ _ _ t (by rw [List.size_toArray]; exact ht)]
  have e : O.toArray[t / 21]! = O[t / 21] := by simp [hi]
  rw [e]
  refine take_cell h t _ ?_
  have h1 := flatX_get O (t / 21) (t % 21) hi (by omega)
  rw [show t / 21 * 21 + t % 21 = t by omega] at h1
  have hlt : t % 21 < (cellsX O[t / 21]).length := by rw [cellsX_length]; omega
  rw [h1, List.getElem?_eq_getElem hlt]
  simp [hlt]
theorem paths_of_holds (F : Nat → Prop) (w : World) (g cap : Nat) (M : List PathX) (hF : F g) (hl : M.length ≤ cap) (hm : cap ≤ maxLen) (h : HoldsK cellsX 21 w g 0 M.toArray) : PathsIn F w (.slice (some ⟨g, 0, none⟩) M.length cap) M := by
  refine ⟨_, cap, rfl, hl, hm, (fun h => by cases h), fun _ => ⟨g, 0, rfl, hF, fun i hi j u hu => ?_⟩⟩
  obtain ⟨hj, rfl⟩ := List.getElem?_eq_some_iff.1 hu
  have hj21 : j < 21 := by rwa [cellsX_length] at hj
  have h1 := (h.cell (i := i) (c := j) (by simpa using hi) hj21).1
  rw [Nat.zero_add] at h1 ⊢
  rw [h1]
  simp [hi, hj]
theorem fr_sorted (w : World) (g m : Nat) (M : Array PathX) (os : Array Obj) : Fr (fun i => i = g) w (sortWorldK cellsX 21 w g 0 m M os) := by
  refine ⟨rfl, rfl, rfl, size_sortWorldK_c cellsX 21 w g 0 m M os, fun i hi hs => ?_⟩
  have hi' : i < (putRowK cellsX 21 (Sort.ahead w m) g 0 M).heap.size := by rw [size_putRowK]; exact hi
  show (grow (putRowK cellsX 21 (Sort.ahead w m) g 0 M) os).heap[i]? = _
  rw [heap_grow_old _ _ hi']
  show ((Sort.ahead w m).heap.modify g _)[i]? = _
  rw [Array.getElem?_modify, if_neg (fun e => hs e.symm)]
  rfl
theorem order_enters (args : Array Value) (w : World) : (callFunc 23 args).run Try.prog w = .ok (.enter 23 args) w := enters_of Try.func23 (by kernel_rfl) rfl args w
theorem sort_any {F : Nat → Prop} (w : World) (v : Value) (O : List PathX) (h : OwnP F w v O) (hn : O.Nodup) (hlen : O.length ≤ 1000000) :
    Calls Try.prog 29 #[v, .func (.func 23) #[] #[]] w fun e w' => e = .returned (.tuple #[]) ∧ ∃ M, PathsIn F w' v M ∧ Asc lessX M ∧ (∀ x, x ∈ M ↔ x ∈ O) ∧ Fr (fun k => v.ownBlock = some k) w w' := by
  rcases h.row with ⟨rfl, rfl⟩ | ⟨g, cap, cur, rfl, hF, hg, hb, h1, h2, h3⟩
  · have hc := AnyF.slices_SortFunc_none Try.sortP none 0 (.func (.func 23) #[] #[]) w
    change Calls Try.prog 29 _ _ _ at hc
    refine hc.mono ?_
    rintro e w' ⟨rfl, rfl⟩
    exact ⟨rfl, [], PathsIn.nil _ _, List.Pairwise.nil, fun x => Iff.rfl, Fr.refl _ _⟩
  · have hH := holdsX w g cur _ O hb h3
    have hc := AnyQ.slices_SortFunc Try.sortP 21 Try.isAgg37 Try.sizeOf37 cellsX cellsX_length cellsX_one ordX swo_ordX 23 #[] g 0 cap O.toArray w order_enters
      (fun m os dk hs x y => order_any x.h x.n y.h y.n x.hl y.hl _) hH hg (by rw [List.size_toArray]; omega)
    change Calls Try.prog 29 _ _ _ at hc
    rw [List.size_toArray] at hc
    refine hc.mono ?_
    rintro e w' ⟨rfl, d', n, os, hp, hs, rfl⟩
    obtain ⟨hps, _, hpp⟩ := hp
    have hd : d'.toList.Perm O := by
      have e1 : (d'.extract 0 O.length).toList = d'.toList := by
        have : d'.size = O.length := by rw [hps, List.size_toArray]
        rw [← this, Array.extract_size]
      have e2 : (O.toArray.extract 0 O.length).toList = O := by
        have : O.toArray.size = O.length := List.size_toArray
        rw [← this, Array.extract_size]
      rwa [e1, e2] at hpp
    have hlM : d'.toList.length = O.length := hd.length_eq
    have hH' := holdsK_sortWorldK_c cellsX 21 w g 0 O.toArray d' n os hH hg (by rw [hps])
    refine ⟨rfl, d'.toList, ?_, asc_of_sorted _ (hd.nodup_iff.2 hn) (fun i j hij hj => ?_), fun x => hd.mem_iff, (fr_sorted w g n d' os).mono (fun i _ e => by rw [e]; rfl)⟩
    · rw [← hlM]
      exact paths_of_holds F _ g cap d'.toList hF (by omega) h2 (by simpa using hH')
    · have h := hs i j (Nat.zero_le _) hij (by omega)
      rw [lt_ordX] at h
      have ej : d'[j]! = d'.toList[j] := by
        have : j < d'.size := by simpa using hj
        simp [this]
      have ei : d'[i]! = d'.toList[i]'(by omega) := by
        have : i < d'.size := by have : j < d'.size := by simpa using hj
                                 omega
        simp [this]
      rwa [ej, ei] at h
end Go.Proofs.Ytfkgdjoaoidkeaa
namespace Go.Proofs.Ytfkgdjoaoidkeaa
open Go.RowKit Go.ChangeShapes Go.WideMaps Go.Maps
set_option linter.unusedVariables false
theorem zero_unit (w : World) : (zeroValue 53).run Try.prog w = .ok (.agg #[]) w := by kernel_rfl
def SeenAt (w : World) (B : Nat) (O : List PathX) : Prop := w.ownsMap Try.prog 37 unitElem B O.length (setOf (DataW.agg [] : DataW Unit) (O.map keyX))
theorem SeenAt.keep {S : Nat → Prop} {W W' : World} {B : Nat} {O : List PathX} (h : SeenAt W B O) (hf : Fr S W W') (hB : ¬ S B) : SeenAt W' B O := by
  obtain ⟨es, clock, hb, F, hs, hD⟩ := h
  exact ⟨es, clock, hf.heap hb hB, F, hs, hD⟩
theorem SeenAt.look {W : World} {B : Nat} {O : List PathX} (h : SeenAt W B O) (x : PathX) (hO : ∀ y ∈ O, y.n.size ≤ maxLen) (hx : x.n.size ≤ maxLen) :
    (Instr.lookup 64 (.map (some B)) (.agg (pathC x.h x.n)) true).run Try.prog W = .ok (.tuple #[.agg #[], .bool (decide (x ∈ O))]) W := by
  obtain ⟨v, ps, hrun, hv⟩ := World.ownsMap.look_ok (w := W) h lawP Try.underlying64 (zero_unit W) unitElem_mk (keyX_of x hx).1
  obtain ⟨rfl, _⟩ := unitElem_inv hv
  rw [hrun, has_set O x hO hx]
structure BsAt (w wr : World) (B : Nat) (ov : Value) (O : List PathX) : Prop where
  fr : Fr (fun _ => False) w wr
  own : OwnP (fun g => B < g) wr ov O
  set : SeenAt wr B O
  lt : B < wr.heap.size
  new : w.heap.size ≤ B
theorem BsAt.keep {w wr w' : World} {B : Nat} {ov : Value} {O : List PathX} (h : BsAt w wr B ov O) (hf : Fr (fun _ => False) wr w') : BsAt w w' B ov O :=
  ⟨h.fr.trans hf (fun _ h => h.elim), h.own.keep hf (fun _ _ _ h => h), h.set.keep hf (fun h => h), Nat.lt_of_lt_of_le h.lt hf.size, h.new⟩
theorem BsAt.put {w W2 w3 : World} {B : Nat} {ov : Value} {O : List PathX} {C : Array Value} (h : BsAt w W2 B ov O) (hg : W2.grownBy w3 (some B)) : OwnP (fun g => B < g) (w3.alloc (.cells C 37)) ov O :=
  (h.own.keep (Fr.grownAs hg) (fun k _ hk e => by omega)).keep ((Fr.refl (fun _ => False) w3).alloc _) (fun _ _ _ h => h)
theorem BsAt.more {w W2 w3 w4 : World} {B : Nat} {ov v4 : Value} {O : List PathX} {x : PathX} {C : Array Value} (h : BsAt w W2 B ov O) (hown : w3.ownsMap Try.prog 37 unitElem B (O.length + 1) ((setOf (DataW.agg [] : DataW Unit) (O.map keyX)).put (keyX x) (.agg []))) (hg : W2.grownBy w3 (some B))
    (ho4 : OwnP (fun k => B < k ∨ (w3.alloc (.cells C 37)).heap.size ≤ k) w4 v4 (O ++ [x])) (hg4 : (w3.alloc (.cells C 37)).grownBy w4 ov.ownBlock) (hb4 : v4.ownBlock = ov.ownBlock ∨ v4.ownBlock = some (w3.alloc (.cells C 37)).heap.size) {l : Option Lit} (hk : l = some (keyX x)) : BsAt w w4 B v4 (O ++ [x]) := by
  have hlt := h.lt
  have hs3 : W2.heap.size ≤ w3.heap.size := hg.size
  have hne : ∀ g, ov.ownBlock = some g → B < g := h.own.2
  have hf4 : Fr (fun k => ov.ownBlock = some k) (w3.alloc (.cells C 37)) w4 := (Fr.refl _ _).grown hg4 (fun k hk => .inl hk)
  have hf3 : Fr (fun k => k = B) W2 (w3.alloc (.cells C 37)) := (Fr.grownAs hg).alloc _
  have hfall : Fr (fun _ => False) w w4 := by
    have h1 : Fr (fun k => w.heap.size ≤ k) W2 w4 := (hf3.mono (T := fun k => w.heap.size ≤ k) (fun i _ e => by rw [e]; exact h.new)).trans (hf4.mono (T := fun k => w.heap.size ≤ k) (fun i _ e => by have := hne i e; have := h.new; omega)) (fun i hi => .inl hi)
    exact h.fr.trans h1 (fun i hi => .inr hi)
  refine ⟨hfall, ho4.mono (fun k _ hk => by
    rcases hk with h1 | h1
    · exact h1
    · simp at h1; omega), ?_, ?_, ?_⟩
  · have hset : w3.ownsMap Try.prog 37 unitElem B (O ++ [x]).length (setOf (DataW.agg [] : DataW Unit) ((O ++ [x]).map keyX)) := by
      rw [List.length_append, List.length_singleton, List.map_append, List.map_singleton, setOf_snoc]
      exact hown
    have hs : SeenAt w3 B (O ++ [x]) := hset
    exact (hs.keep ((Fr.refl (fun _ => False) w3).alloc _) (fun h => h)).keep hf4 (fun e => by have := hne B e; omega)
  · have := hf4.size
    simp at this
    omega
  · exact h.new
set_option maxRecDepth 100000 in
set_option maxHeartbeats 8000000 in
theorem bSorted_any {F : Nat → Prop} (w : World) (v : Value) (L : List PathX) (hv : PathsIn F w v L) (hF : ∀ k, F k → k < w.heap.size) (hlen : L.length ≤ 1000000) (hN : ∀ x ∈ L, x.n.size ≤ 140737488351232) :
    Calls Try.prog 22 #[v] w fun e w' => ∃ u M, e = .returned u ∧ PathsIn (fun k => w.heap.size ≤ k) w' u M ∧ Asc lessX M ∧ (∀ x, x ∈ M ↔ x ∈ L) ∧ Fr (fun _ => False) w w' := by
  have hmm := @run_makeMap Try.prog
  have HV := Lib.hid hv
  have HNM := Lib.hid hN
  have HFF := Lib.hid hF
  obtain ⟨ao, cap, rfl, hlc, hcm, hn0, hrow⟩ := hv
  have HROW := Lib.hid hrow
  unfold maxLen at hcm
  have H0 := Lib.hid (show BsAt w (w.alloc (.map #[] 0)) w.heap.size (.slice none 0 0) [] from
    ⟨(Fr.refl _ _).alloc _, OwnP.nil _ _, World.ownsMap_made _ _ _ _, by simp, Nat.le_refl _⟩)
  have HSO := Lib.hid (fun (W : World) (ov : Value) (O : List PathX) (h : OwnP (fun g => w.heap.size < g) W ov O) (hn : O.Nodup) (hl : O.length ≤ 1000000) => sort_any W ov O h hn hl)
  clear hn0 hrow hN hF
  obtain ⟨n, hn⟩ : ∃ n, n = L.length := ⟨_, rfl⟩
  rw [← hn] at hlc ⊢
  have HN := Lib.hid hn
  have hn6 : n ≤ 1000000 := by omega
  clear hn hlen
  go_enter Try.func22, Try.ntmps22
  go_wp2_with fail
  go_loopw [4, 6, 7, 8, 12] (fun ov s6 s7 s8 kv wr => ∃ k : Nat, k ≤ n ∧ kv = .int .i64 k ∧ Hid (BsAt w wr w.heap.size ov (onceK L k))) (fun _ _ _ _ kv _ => n - (intOf kv).toNat)
  case atStart => exact ⟨0, by omega, rfl, H0⟩
  case round =>
    clear H0
    obtain ⟨k, hk, rfl, hR⟩ := hrel
    by_cases hlt : k < n
    · have hkL : k < L.length := by rw [← HN.out]; exact hlt
      obtain ⟨x, hx⟩ : ∃ x, x = L[k] := ⟨_, rfl⟩
      have hxL : x ∈ L := by rw [hx]; exact List.getElem_mem _
      obtain ⟨b, off, rfl, hbF, hrg⟩ := HROW.out (by rintro rfl; simp at hkL)
      have hbw := HFF.out b hbF
      have hr := hrg k hkL
      rw [← hx] at hr
      have hr := hR.out.fr.range hr (fun h => h)
      have hst := onceK_succ L k hkL
      rw [← hx] at hst
      have hxs : x.n.size ≤ maxLen := by have := HNM.out x hxL; unfold maxLen; omega
      have hOs : ∀ y ∈ onceK L k, y.n.size ≤ maxLen := fun y hy => by
        have := HNM.out y (List.mem_of_mem_take ((onceK_mem L k y).1 hy))
        unfold maxLen
        omega
      have hol := onceK_length L k
      obtain ⟨O, hO⟩ : ∃ O, O = onceK L k := ⟨_, rfl⟩
      rw [← hO] at hR hst hOs hol
      have HST := Lib.hid hst
      have HXS := Lib.hid (And.intro hxs hOs)
      obtain ⟨C, hC⟩ : ∃ C, C = pathC x.h x.n := ⟨_, rfl⟩
      obtain ⟨Cl, hCl⟩ : ∃ C, C = cellsX x := ⟨_, rfl⟩
      rw [← hCl] at hr
      have HC := Lib.hid hC
      have hCC : Cl.toArray = C := by rw [hCl, hC]; rfl
      have hll : Cl.length = 21 := by rw [hCl, cellsX_length]
      have hcs : C.size = 21 := by rw [hC, pathC_size x.h x.hl]
      have hiC : (Try.prog.info? 37).map (·.size) = some C.size := by rw [hcs]; kernel_rfl
      have hiL : (Try.prog.info? 37).map (·.size) = some Cl.length := by rw [hll]; kernel_rfl
      have hsC : (#[.int .u8 0, .int .u8 0, .int .u8 0, .int .u8 0, .int .u8 0, .int .u8 0, .int .u8 0, .int .u8 0, .int .u8 0, .int .u8 0, .int .u8 0, .int .u8 0, .int .u8 0, .int .u8 0, .int .u8 0, .int .u8 0, .int .u8 0, .int .u8 0, .int .u8 0, .int .u8 0, .string ⟨#[]⟩] : Array Value).size = C.size := Eq.trans (b := 21) rfl hcs.symm
      have hoC : C.all (·.oneCell') = true := by rw [hC]; exact pathC_one x.h x.n
      have HLL := Lib.hid hCC
      have hkn : (k : Int) < (n : Int) := by omega
      have hk0 : (0 : Int) ≤ (k : Int) := by omega
      have hd : decide ((k : Int) < (n : Int)) = true := by rw [decide_eq_true_iff]; exact hkn
      have hiU : (Try.prog.info? 53).map (·.size) = some (#[] : Array Value).size := by kernel_rfl
      have hoU : (#[] : Array Value).all (·.oneCell') = true := by simp
      have HKEY := Lib.hid (show keyOf Try.prog 37 (.agg C) = some (keyX x) by rw [hC]; exact (keyX_of x hxs).1)
      have HBO := Lib.hid (fun (W : World) => show (Instr.buildSlice 35 1 #[(0, .agg C)]).run Try.prog W = .ok (.slice (some ⟨W.heap.size, 0, none⟩) 1 1) (W.alloc (.cells C 37)) by rw [hC]; exact run_build_one W x)
      have HPO := Lib.hid (fun (W : World) => show PathsIn (fun k => k = W.heap.size) (W.alloc (.cells C 37)) (.slice (some ⟨W.heap.size, 0, none⟩) 1 1) [x] by rw [hC]; exact PathsIn.one W x)
      have hO6 : O.length + 1 ≤ 1000000 := by omega
      have HLK := Lib.hid (fun (W : World) (h : SeenAt W w.heap.size O) => show (Instr.lookup 64 (.map (some w.heap.size)) (.agg C) true).run Try.prog W = .ok (.tuple #[.agg #[], .bool (decide (x ∈ O))]) W by rw [hC]; exact h.look x hOs hxs)
      clear hx hxL hrg hbF hst hxs hOs hO hC hCl hcs hll hCC hol
      by_cases hmem : x ∈ O
      · have hb : decide (x ∈ O) = true := decide_eq_true hmem
        have HO1 := Lib.hid (HST.out.trans (if_pos hmem))
        rw [hb] at HLK
        clear hb hmem
        go_wp2_with (first
          | (with_reducible refine wpList_load_mid rfl 37 (.tmp 14) rfl b (off + k * 21) rfl Cl _ hr Try.underlying37 rfl hiL ?_; rw [HLL.out])
          | (with_reducible refine wpList_store_row rfl 37 (.tmp 6) (.tmp 15) rfl wr.heap.size C #[.int .u8 0, .int .u8 0, .int .u8 0, .int .u8 0, .int .u8 0, .int .u8 0, .int .u8 0, .int .u8 0, .int .u8 0, .int .u8 0, .int .u8 0, .int .u8 0, .int .u8 0, .int .u8 0, .int .u8 0, .int .u8 0, .int .u8 0, .int .u8 0, .int .u8 0, .int .u8 0, .string ⟨#[]⟩] 37 rfl rfl (heap_alloc_new wr _) hiC hsC hoC ?_; (have hbx := setRow_heap (wr.alloc (.cells #[.int .u8 0, .int .u8 0, .int .u8 0, .int .u8 0, .int .u8 0, .int .u8 0, .int .u8 0, .int .u8 0, .int .u8 0, .int .u8 0, .int .u8 0, .int .u8 0, .int .u8 0, .int .u8 0, .int .u8 0, .int .u8 0, .int .u8 0, .int .u8 0, .int .u8 0, .int .u8 0, .string ⟨#[]⟩] 37)) wr.heap.size #[.int .u8 0, .int .u8 0, .int .u8 0, .int .u8 0, .int .u8 0, .int .u8 0, .int .u8 0, .int .u8 0, .int .u8 0, .int .u8 0, .int .u8 0, .int .u8 0, .int .u8 0, .int .u8 0, .int .u8 0, .int .u8 0, .int .u8 0, .int .u8 0, .int .u8 0, .int .u8 0, .string ⟨#[]⟩] C 37 (0, 0) (heap_alloc_new wr _)); (have HGX := Lib.hid (show w.heap.size < wr.heap.size from hR.out.lt)); (have HR1 := Lib.hid (BsAt.keep hR.out (Fr.laid wr #[.int .u8 0, .int .u8 0, .int .u8 0, .int .u8 0, .int .u8 0, .int .u8 0, .int .u8 0, .int .u8 0, .int .u8 0, .int .u8 0, .int .u8 0, .int .u8 0, .int .u8 0, .int .u8 0, .int .u8 0, .int .u8 0, .int .u8 0, .int .u8 0, .int .u8 0, .int .u8 0, .string ⟨#[]⟩] C 37))); generalize (wr.alloc (.cells #[.int .u8 0, .int .u8 0, .int .u8 0, .int .u8 0, .int .u8 0, .int .u8 0, .int .u8 0, .int .u8 0, .int .u8 0, .int .u8 0, .int .u8 0, .int .u8 0, .int .u8 0, .int .u8 0, .int .u8 0, .int .u8 0, .int .u8 0, .int .u8 0, .int .u8 0, .int .u8 0, .string ⟨#[]⟩] 37)).setRow wr.heap.size C = W1 at *; generalize wr.heap.size = gx at *)
          | (with_reducible refine wpList_load_row rfl 37 (.tmp 6) rfl gx rfl 37 C (0, 0) _ hbx Try.underlying37 rfl hiC ?_; (have hlook := HLK.out W1 HR1.out.set))
          | (with_reducible refine wpList_store_row rfl 53 (.tmp 7) (.tmp 20) rfl W1.heap.size #[] #[] 53 rfl rfl (heap_alloc_new W1 _) hiU rfl hoU ?_; (have hbx2 := Fr.heap (Fr.laid W1 #[] #[] 53) hbx (fun h => h)); (have HR2 := Lib.hid (BsAt.keep HR1.out (Fr.laid W1 #[] #[] 53))); generalize (W1.alloc (.cells #[] 53)).setRow W1.heap.size #[] = W2 at *))
        go_roundw
        case rel => exact ⟨k + 1, by omega, by go_num, by rw [HO1.out]; exact HR2⟩
        case measure => simp [intOf]; omega
      · have hb : decide (x ∈ O) = false := decide_eq_false hmem
        have HO1 := Lib.hid (HST.out.trans (if_neg hmem))
        rw [hb] at HLK
        clear hb hmem
        go_upto_region 9 with (first
          | (with_reducible refine wpList_load_mid rfl 37 (.tmp 14) rfl b (off + k * 21) rfl Cl _ hr Try.underlying37 rfl hiL ?_; rw [HLL.out])
          | (with_reducible refine wpList_store_row rfl 37 (.tmp 6) (.tmp 15) rfl wr.heap.size C #[.int .u8 0, .int .u8 0, .int .u8 0, .int .u8 0, .int .u8 0, .int .u8 0, .int .u8 0, .int .u8 0, .int .u8 0, .int .u8 0, .int .u8 0, .int .u8 0, .int .u8 0, .int .u8 0, .int .u8 0, .int .u8 0, .int .u8 0, .int .u8 0, .int .u8 0, .int .u8 0, .string ⟨#[]⟩] 37 rfl rfl (heap_alloc_new wr _) hiC hsC hoC ?_; (have hbx := setRow_heap (wr.alloc (.cells #[.int .u8 0, .int .u8 0, .int .u8 0, .int .u8 0, .int .u8 0, .int .u8 0, .int .u8 0, .int .u8 0, .int .u8 0, .int .u8 0, .int .u8 0, .int .u8 0, .int .u8 0, .int .u8 0, .int .u8 0, .int .u8 0, .int .u8 0, .int .u8 0, .int .u8 0, .int .u8 0, .string ⟨#[]⟩] 37)) wr.heap.size #[.int .u8 0, .int .u8 0, .int .u8 0, .int .u8 0, .int .u8 0, .int .u8 0, .int .u8 0, .int .u8 0, .int .u8 0, .int .u8 0, .int .u8 0, .int .u8 0, .int .u8 0, .int .u8 0, .int .u8 0, .int .u8 0, .int .u8 0, .int .u8 0, .int .u8 0, .int .u8 0, .string ⟨#[]⟩] C 37 (0, 0) (heap_alloc_new wr _)); (have HGX := Lib.hid (show w.heap.size < wr.heap.size from hR.out.lt)); (have HR1 := Lib.hid (BsAt.keep hR.out (Fr.laid wr #[.int .u8 0, .int .u8 0, .int .u8 0, .int .u8 0, .int .u8 0, .int .u8 0, .int .u8 0, .int .u8 0, .int .u8 0, .int .u8 0, .int .u8 0, .int .u8 0, .int .u8 0, .int .u8 0, .int .u8 0, .int .u8 0, .int .u8 0, .int .u8 0, .int .u8 0, .int .u8 0, .string ⟨#[]⟩] C 37))); generalize (wr.alloc (.cells #[.int .u8 0, .int .u8 0, .int .u8 0, .int .u8 0, .int .u8 0, .int .u8 0, .int .u8 0, .int .u8 0, .int .u8 0, .int .u8 0, .int .u8 0, .int .u8 0, .int .u8 0, .int .u8 0, .int .u8 0, .int .u8 0, .int .u8 0, .int .u8 0, .int .u8 0, .int .u8 0, .string ⟨#[]⟩] 37)).setRow wr.heap.size C = W1 at *; generalize wr.heap.size = gx at *)
          | (with_reducible refine wpList_load_row rfl 37 (.tmp 6) rfl gx rfl 37 C (0, 0) _ hbx Try.underlying37 rfl hiC ?_; (have hlook := HLK.out W1 HR1.out.set))
          | (with_reducible refine wpList_store_row rfl 53 (.tmp 7) (.tmp 20) rfl W1.heap.size #[] #[] 53 rfl rfl (heap_alloc_new W1 _) hiU rfl hoU ?_; (have hbx2 := Fr.heap (Fr.laid W1 #[] #[] 53) hbx (fun h => h)); (have HR2 := Lib.hid (BsAt.keep HR1.out (Fr.laid W1 #[] #[] 53))); generalize (W1.alloc (.cells #[] 53)).setRow W1.heap.size #[] = W2 at *)
          | (with_reducible refine wpList_load_row rfl 37 (.tmp 6) rfl gx rfl 37 C (0, 0) _ hbx2 Try.underlying37 rfl hiC ?_)
          | (at_mapUpdate; refine wpList_mapUpdate_own _ rfl _ _ _ 64 rfl 37 53 lawP Try.underlying64 unitElem w.heap.size O.length _ rfl HR2.out.set (by unfold maxLen; omega) _ _ (keyX x) rfl rfl HKEY.out (.agg []) [] unitElem_mk ?_; intro w3 hown3 hgrow3; (have HR3 := Lib.hid (And.intro hown3 hgrow3)); (have hbx3 := (hgrow3.block gx (lt_of_block hbx2) (fun e => by injection e with e; have := HR2.out.lt; have := HGX.out; omega)).trans hbx2); clear hown3 hgrow3))
        go_wp2_with (first
          | ((with_reducible refine wpList_load_row rfl 37 (.tmp 6) rfl gx rfl 37 C (0, 0) _ hbx3 Try.underlying37 rfl hiC ?_); go_loud (refine wpList_one rfl 35 (.tmp 28) rfl (.agg C) (.slice (some ⟨w3.heap.size, 0, none⟩) 1 1) (w3.alloc (.cells C 37)) rfl (HBO.out w3) ?_); refine wpList_append_paths (F := fun g => w.heap.size < g) (G := fun k => k = w3.heap.size) _ rfl (.tmp 27) (.tmp 29) rfl u4 _ O [x] rfl rfl (HR2.out.put HR3.out.2) (HPO.out w3) (by have := hO6; simp only [List.length_singleton]; omega) ?_; intro v4 w4 hown4 hgrow4 hblk4; (have HR4 := Lib.hid (And.intro hown4 (And.intro hgrow4 hblk4))); clear hown4 hgrow4 hblk4))
        go_roundw
        case rel => exact ⟨k + 1, by omega, by go_num, by rw [HO1.out]; exact Lib.hid (BsAt.more HR2.out HR3.out.1 HR3.out.2 HR4.out.1 HR4.out.2.1 HR4.out.2.2 HKEY.out)⟩
        case measure => simp [intOf]; omega
    · have hkn : k = n := by omega
      have hd : decide ((k : Int) < (n : Int)) = false := by rw [decide_eq_false_iff_not]; omega
      obtain ⟨O, hO⟩ : ∃ O, O = onceK L k := ⟨_, rfl⟩
      have hnd : O.Nodup := by rw [hO]; exact onceK_nodup L k
      have hol : O.length ≤ k := by rw [hO]; exact onceK_length L k
      have hmm : ∀ x, x ∈ O ↔ x ∈ L := fun x => by
        rw [hO, onceK_mem, List.take_of_length_le (by rw [← HN.out]; omega)]
      rw [← hO] at hR
      have HSX := Lib.hid (HSO.out wr u4 O hR.out.own hnd (by omega))
      have HMM := Lib.hid hmm
      clear hO hnd hol hmm hkn
      go_wp2_with (go_at_call 29; refine HSX.out.mono ?_; rintro e w2 ⟨rfl, M, hp, ha, hm, hf⟩; have HRES := Lib.hid (And.intro hp (And.intro ha (And.intro hm hf))); clear hp ha hm hf)
      go_ret
      obtain ⟨hp, ha, hm, hf⟩ := HRES.out
      have hnew := hR.out.new
      refine ⟨_, M, rfl, hp.mono (fun i _ h => by omega), ha, fun x => (hm x).trans (HMM.out x), hR.out.fr.trans hf (fun i hi => .inr ?_)⟩
      have := hR.out.own.2 i hi
      omega
end Go.Proofs.Ytfkgdjoaoidkeaa
namespace Go.Proofs.Ytfkgdjoaoidkeaa
open Go.RowKit Go.ChangeShapes Go.WideMaps Go.Maps
set_option linter.unusedVariables false
theorem Try.cellsLt : Try.prog.cellsOf 47 = 32 := by kernel_rfl
def litsS (s : List UInt8) : List Lit := ((List.range 32).map fun i => [Lit.int .u8 (s.getD i 0).toNat]).flatten
theorem keyLits_let (m : Nat) (s : List UInt8) (hs : s.length = 32) : Try.prog.keyLits (m + 2) 47 (s.map bv) = some (litsS s) := by
  have e : (List.range 32).mapM (fun i => Try.prog.keyLits (m + 1) 5 (((s.map bv).drop (i * Try.prog.cellsOf 5)).take (Try.prog.cellsOf 5))) = some ((List.range 32).map fun i => [Lit.int .u8 (s.getD i 0).toNat]) := by
    refine mapM_some (fun i hi => ?_)
    have hi := List.mem_range.1 hi
    rw [Try.cellsB, Nat.mul_one, List.drop_eq_getElem_cons (by rw [List.length_map]; omega)]
    simp only [List.take_succ_cons, List.take_zero, List.getElem_map]
    rw [keyLits_u8, List.getD_eq_getElem?_getD, List.getElem?_eq_getElem (by omega), Option.getD_some]
  unfold Program.keyLits
  simp only [Try.underlying47]
  rw [if_pos (by rw [Try.cellsLt, List.length_map, hs]), e]
  rfl
def keyS (s : List UInt8) : Lit := .string (keyBytes (litsS s))
theorem lawL : Keyed Try.prog 47 := Keyed.of_law (deep_law_laid laidOutP (m := 5) (by decide) (Nat.le_of_ble_eq_true (by kernel_rfl)) (by kernel_rfl) (by kernel_rfl))
theorem keyS_of (s : List UInt8) (hs : s.length = 32) : keyOf Try.prog 47 (.agg (ltC s)) = some (keyS s) := by
  obtain ⟨m, hm⟩ : ∃ m, Try.prog.types.size + 1 = m + 2 := by
    have : 2 ≤ Try.prog.types.size := Nat.le_of_ble_eq_true (by kernel_rfl)
    exact ⟨Try.prog.types.size - 1, by omega⟩
  have hl := keyLits_let m s hs
  have hk : Try.prog.keyType 47 = true := by kernel_rfl
  have hfm : Value.formed Try.prog 47 (.agg (ltC s)) = true := by
    simp only [Value.formed, Try.underlying47]
    rw [Try.cellsLt, ltC_size, hs]
    rfl
  unfold keyOf
  rw [Try.underlying47]
  simp only []
  rw [hk, hfm, hm]
  simp only [Bool.and_self, if_true]
  have hc : (Value.agg (ltC s)).cells.toList = s.map bv := rfl
  rw [hc, hl]
  rfl
theorem bv_inj {u v : UInt8} (h : bv u = bv v) : u = v := by
  have : (u.toNat : Int) = v.toNat := by injection h
  exact UInt8.toNat_inj.1 (by omega)
theorem keyS_inj (s t : List UInt8) (hs : s.length = 32) (ht : t.length = 32) (h : keyS s = keyS t) : s = t := by
  have h1 := keyS_of s hs
  have h2 := keyS_of t ht
  rw [h] at h1
  have h3 := lawL.inj h1 h2
  injection h3 with h3
  have h4 := congrArg Array.toList h3
  exact List.map_inj_right (fun u v huv => bv_inj huv) |>.1 h4
def SkAt (w : World) (B N : Nat) (q : List UInt8 → Bool) : Prop :=
  ∃ D : DataW Unit, w.ownsMap Try.prog 47 unitElem B N D ∧ ∀ s, s.length = 32 → Maps.has D (keyS s) = q s
theorem SkAt.keep {S : Nat → Prop} {W W' : World} {B N : Nat} {q : List UInt8 → Bool} (h : SkAt W B N q) (hf : Fr S W W') (hB : ¬ S B) : SkAt W' B N q := by
  obtain ⟨D, ⟨es, clock, hb, F, hs, hD⟩, hq⟩ := h
  exact ⟨D, ⟨es, clock, hf.heap hb hB, F, hs, hD⟩, hq⟩
theorem SkAt.lt {W : World} {B N : Nat} {q : List UInt8 → Bool} (h : SkAt W B N q) : B < W.heap.size := by
  obtain ⟨D, ⟨es, clock, hb, F, hs, hD⟩, hq⟩ := h
  exact lt_of_block hb
theorem SkAt.congr {W : World} {B N : Nat} {q q' : List UInt8 → Bool} (h : SkAt W B N q) (hq : ∀ s, s.length = 32 → q s = q' s) : SkAt W B N q' := by
  obtain ⟨D, hD, h2⟩ := h
  exact ⟨D, hD, fun s hs => (h2 s hs).trans (hq s hs)⟩
theorem SkAt.made (w : World) : SkAt (w.alloc (.map #[] 0)) w.heap.size 0 (fun _ => false) := ⟨_, World.ownsMap_made _ _ _ _, fun s hs => by simp [Maps.has]⟩
theorem SkAt.put {w : World} {B N : Nat} {q : List UInt8 → Bool} (h : SkAt w B N q) (hN : N < 1000000) (s : List UInt8) (hs : s.length = 32) :
    ∃ w', (Instr.mapUpdate 51 (.map (some B)) (.agg (ltC s)) (.agg #[])).run Try.prog w = .ok () w' ∧ SkAt w' B (N + 1) (fun t => decide (t = s) || q t) ∧ Fr (· = B) w w' := by
  obtain ⟨D, hD, hq⟩ := h
  have him : IsMap D := by obtain ⟨es, clock, hb, F, hs2, rfl⟩ := hD; exact ⟨_, rfl⟩
  obtain ⟨w', hr, ho, hg⟩ := World.ownsMap.store (d := .agg []) (ps := []) hD lawL Try.underlying51 (by unfold maxLen; omega) (keyS_of s hs) unitElem_mk
  refine ⟨w', hr, ⟨_, ho, fun t ht => ?_⟩, Fr.grownAs hg.grown⟩
  by_cases e : t = s
  · subst e
    show _ = (decide (t = t) || q t)
    rw [decide_eq_true rfl, Bool.true_or]
    exact has_put_same him (by unfold keyS; trivial) _
  · show _ = (decide (t = s) || q t)
    rw [decide_eq_false e, Bool.false_or, ← hq t ht]
    exact has_put_other (fun e2 => e (keyS_inj t s ht hs e2)) _
theorem SkAt.del {w : World} {B N : Nat} {q : List UInt8 → Bool} (h : SkAt w B N q) (s : List UInt8) (hs : s.length = 32) (ty : TypeId) :
    ∃ w', (Builtin.delete_ #[51, 47] ty #[.map (some B), .agg (ltC s)]).run Try.prog w = .ok (.tuple #[]) w' ∧ SkAt w' B N (fun t => !decide (t = s) && q t) ∧ Fr (· = B) w w' := by
  obtain ⟨D, hD, hq⟩ := h
  obtain ⟨w', hr, ho, hg⟩ := World.ownsMap.drop hD lawL Try.underlying51 (keyS_of s hs) ty
  refine ⟨w', hr, ⟨_, ho, fun t ht => ?_⟩, Fr.grownAs hg.grown⟩
  by_cases e : t = s
  · subst e
    show _ = (!decide (t = t) && q t)
    rw [decide_eq_true rfl]
    exact has_del_same
  · show _ = (!decide (t = s) && q t)
    rw [decide_eq_false e, ← hq t ht]
    exact (has_del_other (fun e2 => e (keyS_inj t s ht hs e2))).trans (by simp)
theorem SkAt.look {w : World} {B N : Nat} {q : List UInt8 → Bool} (h : SkAt w B N q) (s : List UInt8) (hs : s.length = 32) :
    (Instr.lookup 51 (.map (some B)) (.agg (ltC s)) true).run Try.prog w = .ok (.tuple #[.agg #[], .bool (q s)]) w := by
  obtain ⟨D, hD, hq⟩ := h
  obtain ⟨v, ps, hrun, hv⟩ := World.ownsMap.look_ok (w := w) hD lawL Try.underlying51 (zero_unit w) unitElem_mk (keyS_of s hs)
  obtain ⟨rfl, _⟩ := unitElem_inv hv
  rw [hrun, hq s hs]
theorem SkAt.len {w : World} {B N : Nat} {q : List UInt8 → Bool} (h : SkAt w B N q) (ty : TypeId) :
    ∃ k : Nat, (Builtin.len_ #[51] ty #[.map (some B)]).run Try.prog w = .ok (.int .i64 (k : Nat)) w ∧ k ≤ N ∧ (k = 0 → ∀ s, s.length = 32 → q s = false) := by
  obtain ⟨D, hD, hq⟩ := h
  refine ⟨_, World.ownsMap.len hD Try.underlying51 ty, hD.size_le, fun h0 s hs => ?_⟩
  rw [← hq s hs]
  obtain ⟨es, clock, hb, F, hs2, rfl⟩ := hD
  rw [Maps.size_eq] at h0
  rw [List.eq_nil_of_length_eq_zero h0, has_eq]
  rfl
end Go.Proofs.Ytfkgdjoaoidkeaa
