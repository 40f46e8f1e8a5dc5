/- Laid together: RfRg KeysX BSorted -/
import Derived.Test.YtfkgdjoaoidkeaaGreatTl7
import Derived.Test.YtfkgdjoaoidkeaaGreatTl4
import Derived.Test.YtfkgdjoaoidkeaaGreatTl0
import Derived.StillTailTactics
import Derived.Test.YtfkgdjoaoidkeaaGreatTl3
import Derived.Test.YtfkgdjoaoidkeaaGreatTl1
import Derived.Test.YtfkgdjoaoidkeaaGreatTl5
import Derived.Deep.MidRow

namespace Go.Proofs.YtfkgdjoaoidkeaaGreat
open Go.RowKit Go.ChangeShapes
set_option linter.unusedVariables false
def SeqBox {α : Type} (n : Nat) (P : Program) (gf Bb : Nat) (lb : Array Value) (encs : α → Array Value) (T : Nat → Prop) (S Sp : List α → Prop) (N : Nat) (w : World) : Prop :=
  ∀ (l : Nat) (J Jx : List α → World → Prop) (W : World), Below w.heap.size w W → (∀ pre V u, J pre V → J pre (V.setCell ⟨Bb, 0, none⟩ u)) →
    (∀ pre x V, J pre V → pre.length < N → YieldAt Fence.wide (n - 1) P l (encs x) V fun e V' => (e = .returned (.bool true) ∧ J (pre ++ [x]) V' ∧ Fr T V V') ∨ (e = .returned (.bool false) ∧ Jx (pre ++ [x]) V')) →
    J [] W → CallsIn Fence.wide n P gf (#[.func (.yield l) #[] #[]] ++ lb) W fun e V => (∃ v, e = .returned v) ∧ ((∃ ys, S ys ∧ J ys V) ∨ (∃ pre, Sp pre ∧ Jx pre V))
theorem setCell_keeps {W : World} {Bb k : Nat} {u : Value} {o : Obj} (h : W.heap[k]? = some o) (hne : k ≠ Bb) : (W.setCell ⟨Bb, 0, none⟩ u).heap[k]? = some o := (Fr.cell1 W Bb 0 u).heap h hne
theorem wpIn_rangeBox {α : Type} {P : Program} {n : Nat} {g : Operand} {ps : Array Tmp} {assign body : Code} {Q : Exit → Act → World → Prop} {a : Act} {w : World}
    (h1 : 1 ≤ n) {gf Bb : Nat} {lb : Array Value} (hg : a.eval g = .func (.func gf) #[] lb) (eg : ∀ args w, (callFunc gf args).run P w = .ok (.enter gf args) w) (hBb : Bb < w.heap.size)
    {encs : α → Array Value} {T : Nat → Prop} {S Sp : List α → Prop} {N : Nat} (hseq : SeqBox (n - 1) P gf Bb lb encs T S Sp N w) (hT : ∀ k, w.heap.size ≤ k → T k) (hps : ∀ x, (encs x).size = ps.size)
    (I : List α → World → Prop) (Ix : Code → List α → World → Prop) (hI : OwnFrom w.heap.size I) (hIx : ∀ c, OwnFrom w.heap.size (Ix c)) (hIB : ∀ pre V u, I pre V → I pre (V.setCell ⟨Bb, 0, none⟩ u)) (h0 : I [] w)
    (Ax : α → Act → World → Prop) (hAx : ∀ x a', OwnFrom w.heap.size (fun (_ : Unit) W => Ax x a' W))
    (hassign : ∀ (l : Nat) (pre : List α) (x : α) (W : World) (K : Act → World → Prop), I pre W → (∀ a' W', KeepsFrom w.heap.size W W' → Fr T W W' → I pre W' → Ax x a' W' → K a' W') →
      assign.wpIn (Fence.wide.inRound l) (n - 1 - 1) P (Exit.then K (fun _ _ _ => False)) { tmps := (ps.zip (encs x)).foldl (fun t (p, v) => t.setIfInBounds p v) a.tmps, defers := [] } W)
    (hbody : ∀ (l : Nat) (pre : List α) (x : α) (a' : Act) (W : World), w.heap.size ≤ l → I pre W → Ax x a' W → pre.length < N → body.wpIn (Fence.wide.inRound l) (n - 1 - 1) P (ownPostG w.heap.size (Fr T) I Ix (pre ++ [x]) W) a' W)
    (hdone : ∀ (D : Nat) (xs : List α) (W : World), w.heap.size ≤ D → S xs → I xs W → W.heap[D]? = some (.deferred (some [])) → Q .normal { a with defers := { target := .collected D, args := #[] } :: a.defers } W)
    (hstop : ∀ (D : Nat) (c : Code) (pre : List α) (W : World), w.heap.size ≤ D → Sp pre → Ix c pre W → W.heap[D]? = some (.deferred (some [])) → c.wpIn Fence.wide n P Q { a with defers := { target := .collected D, args := #[] } :: a.defers } W) :
    (Code.rangeFunc g ps assign body).wpIn Fence.wide n P Q a w := by
  obtain ⟨z, hz⟩ : ∃ z, z = w.heap.size := ⟨_, rfl⟩
  refine wpIn_rangeFunc ?_
  intro fn hfn
  rw [show Fence.wide.round = none from rfl]
  obtain ⟨R, hR⟩ : ∃ R : LoopState → Option Code → Loop, R = fun st pe => { state := st, pending := pe, fn, tmps := a.tmps, params := ps, assign, body, defers := w.heap.size } := ⟨_, rfl⟩
  obtain ⟨W1, hW1⟩ : ∃ W1, W1 = (w.alloc (.deferred (some []))).alloc (.loop (R .ready none)) := ⟨_, rfl⟩
  have hd1 : W1.heap[z]? = some (.deferred (some [])) := by rw [hW1, hz]; exact heap_alloc2_old w _ _
  have hl1 : W1.heap[z + 1]? = some (.loop (R .ready none)) := by rw [hW1, hz]; exact heap_alloc2_new w _ _
  have hi1 : I [] W1 := by rw [hW1]; exact hI.alloc _ (hI.alloc _ h0)
  have hb1 : Below w.heap.size w W1 := by rw [hW1]; exact ((Below.refl _ w).alloc (Nat.le_refl _) _).alloc (by simp) _
  rw [← hz] at hBb hT hI hIx hassign hbody hdone hstop
  refine ⟨z + 1, [{ target := .collected z, args := #[] }], W1, { target := .fn (.func gf) lb, args := #[.func (.yield (z + 1)) #[] #[]] }, W1, gf, #[.func (.yield (z + 1)) #[] #[]] ++ lb, W1, ?_, ?_, ?_, ?_, fun _ => h1, ?_⟩
  · rw [hW1, hR, hz]
    exact run_enterLoop_outer _ _ _ _ _
  · simp only [resolve, hg]
    simp [go_sem]
  · intro f' hf'
    trivial
  · simp [invoke, go_sem, eg]
  · have hput : ∀ (V : World) (o o' : Obj), V.heap[z + 1]? = some o → o.isCells = false → o.isWalk = false → Fr T V (V.putObj (z + 1) o') := fun V o o' _ _ _ => fr_putObj V (z + 1) o' (hT _ (by omega))
    refine (hseq (z + 1) (fun pre V => I pre V ∧ V.heap[z + 1]? = some (.loop (R .ready none)) ∧ V.heap[z]? = some (.deferred (some [])))
      (fun pre V => ∃ c, Ix c pre V ∧ V.heap[z + 1]? = some (.loop (R .done (some c))) ∧ V.heap[z]? = some (.deferred (some []))) W1 hb1
      (fun pre V u h => ⟨hIB pre V u h.1, setCell_keeps h.2.1 (by omega), setCell_keeps h.2.2 (by omega)⟩) ?_ ⟨hi1, hl1, hd1⟩).mono ?_
    · rintro pre x V ⟨hi, hl, hk⟩ hlen
      have hy := run_yield (P := P) (args := encs x) hl (by rw [hR]; exact hps x)
      rw [hR] at hy
      refine ⟨fn, _, assign, body, hy, roundIn_of_wpIn hfn (hassign _ pre x V _ hi ?_)⟩
      intro a' Va hkf hkp hia hax
      have hla := hkf.same _ _ (by omega) hl rfl
      have hka := hkf.same _ _ (Nat.le_refl _) hk rfl
      have hlt := lt_of_block hla
      refine ⟨_, run_beginRound hla (by rw [hR]), ?_⟩
      obtain ⟨Vb, hVb⟩ : ∃ Vb, Vb = Va.putObj (z + 1) (.loop { R .ready none with state := .busy }) := ⟨_, rfl⟩
      have hlb : Vb.heap[z + 1]? = some (.loop { R .ready none with state := .busy }) := by rw [hVb]; exact World.putObj_heap_same hlt
      have hkb : Vb.heap[z]? = some (.deferred (some [])) := by rw [hVb]; exact (World.putObj_heap_other (by omega)).trans hka
      have hfb : Fr T Va Vb := by rw [hVb]; exact hput Va _ _ hla rfl rfl
      have hib : I pre Vb := by rw [hVb]; exact hI.putObj _ hia (by omega) hla rfl
      have haxb : Ax x a' Vb := by rw [hVb]; exact (hAx x a').putObj (s := ()) _ hax (by omega) hla rfl
      rw [← hVb]
      refine wpIn_mono (hbody _ pre x a' _ (by omega) hib haxb hlen) ?_
      have fin : ∀ (j : Option Code) (V3 : World), KeepsFrom z Vb V3 → ∃ V4, V4 = V3.putObj (z + 1) (.loop (R (if j.isNone then .ready else .done) j)) ∧ (Instr.endRound (z + 1) j).run P V3 = .ok (.bool j.isNone) V4 ∧
          V3.heap[z + 1]? = some (.loop { R .ready none with state := .busy }) ∧ V4.heap[z + 1]? = some (.loop (R (if j.isNone then .ready else .done) j)) ∧ V4.heap[z]? = some (.deferred (some [])) := fun j V3 hk3 => by
        have hl3 := hk3.same _ _ (by omega) hlb rfl
        have hr := run_endRound (P := P) j hl3
        refine ⟨_, rfl, ?_, hl3, World.putObj_heap_same (lt_of_block hl3), (World.putObj_heap_other (by omega)).trans (hk3.same _ _ (Nat.le_refl _) hkb rfl)⟩
        rw [hR] at hr ⊢
        exact hr
      rintro e a3 V3 hp
      cases e with
      | normal =>
        obtain ⟨hk3, hkp3, hi3⟩ := hp
        obtain ⟨V4, e4, hr, hl3, hl4, hk4⟩ := fin none V3 hk3
        refine ⟨_, _, hr, .inl ⟨rfl, ⟨by rw [e4]; exact hI.putObj _ hi3 (by omega) hl3 rfl, hl4, hk4⟩, ?_⟩⟩
        exact ((hkp.trans hfb (fun _ h => .inl h)).trans hkp3 (fun _ h => .inl h)).trans (by rw [e4]; exact hput V3 _ _ hl3 rfl rfl) (fun _ h => .inl h)
      | ret =>
        obtain ⟨hk3, hi3⟩ := hp
        obtain ⟨V4, e4, hr, hl3, hl4, hk4⟩ := fin (some .ret) V3 hk3
        exact ⟨_, _, hr, .inr ⟨rfl, .ret, by rw [e4]; exact (hIx _).putObj _ hi3 (by omega) hl3 rfl, hl4, hk4⟩⟩
      | exit id =>
        obtain ⟨hk3, hi3⟩ := hp
        obtain ⟨V4, e4, hr, hl3, hl4, hk4⟩ := fin (some (.exit id)) V3 hk3
        exact ⟨_, _, hr, .inr ⟨rfl, .exit id, by rw [e4]; exact (hIx _).putObj _ hi3 (by omega) hl3 rfl, hl4, hk4⟩⟩
      | goto t =>
        obtain ⟨hk3, hi3⟩ := hp
        obtain ⟨V4, e4, hr, hl3, hl4, hk4⟩ := fin (some (.goto t)) V3 hk3
        exact ⟨_, _, hr, .inr ⟨rfl, .goto t, by rw [e4]; exact (hIx _).putObj _ hi3 (by omega) hl3 rfl, hl4, hk4⟩⟩
      | panic ch => exact hp.elim
      | outgrown => exact hp.elim
    · rintro e V2 ⟨⟨v, rfl⟩, h⟩
      rcases h with ⟨xs, hS, hi, hl, hk⟩ | ⟨pre, hSp, c, hi, hl, hk⟩
      · have hr := run_endLoop (P := P) hl (by rw [hR]; simp)
        rw [hR] at hr
        exact ⟨none, _, hr, hdone _ xs _ (Nat.le_refl _) hS (hI.putObj _ hi (by omega) hl rfl) ((World.putObj_heap_other (by omega)).trans hk)⟩
      · have hr := run_endLoop (P := P) hl (by rw [hR]; simp)
        rw [hR] at hr
        exact ⟨some c, _, hr, hstop _ c pre _ (Nat.le_refl _) hSp ((hIx c).putObj _ hi (by omega) hl rfl) ((World.putObj_heap_other (by omega)).trans hk)⟩
theorem ItA.below {F : Nat → Prop} {Bb : Nat} {v : Value} {b : List UInt8} {w W : World} (h : ItA F Bb v b w) (hF : ∀ k, F k → k < w.heap.size) (hb : Below w.heap.size w W) : ItA F Bb v b W := by
  have h2 := lt_of_block h.box
  exact h.keep (Fr.ofBelow hb) (fun h => by omega) (fun k hk h => by have := hF k hk; omega)
theorem all_box {T F : Nat → Prop} (n0 Bb : Nat) (v : Value) (b : List UInt8) (hb : b.length ≤ 1000000000) (hT1 : ¬ T Bb) (hT3 : ∀ k, F k → ¬ T k) (hF0 : ¬ F Bb) (w : World) (hF : ∀ k, F k → k < w.heap.size) (hR : ItA F Bb v b w) :
    SeqBox n0 Tryz.prog 68 Bb #[.pointer (some ⟨Bb, 0, none⟩)] encL T (fun ys => ys = winX b) (fun pre => pre <+: winX b) (winX b).length w :=
  fun l J Jx W hW hJB hY h0 => all1_in n0 l Bb v b hb hT1 hT3 hF0 J Jx hJB hY W (hR.below hF hW) h0
end Go.Proofs.YtfkgdjoaoidkeaaGreat
namespace Go.Proofs.YtfkgdjoaoidkeaaGreat
open Go.RowKit Go.ChangeShapes Go.WideMaps Go.Maps
set_option linter.unusedVariables false
set_option maxRecDepth 100000 in
theorem mapM_some {α β : Type} {f : α → Option β} {g : α → β} : ∀ {l : List α}, (∀ x ∈ l, f x = some (g x)) → l.mapM f = some (l.map g)
  | [], _ => rfl
  | x :: l, h => by
    rw [List.mapM_cons, h x (by simp), mapM_some (l := l) (fun y hy => h y (by simp [hy]))]
    rfl
set_option maxRecDepth 100000 in
theorem keyLits_u8 (m : Nat) (x : UInt8) : Tryz.prog.keyLits (m + 1) 5 [bv x] = some [.int .u8 x.toNat] := by
  have hx := x.toNat_lt
  have hw : (Lit.int .u8 (x.toNat : Int)).wf = true := by simp [Lit.wf, IntKind.min, IntKind.max, IntKind.bits, IntKind.signed]; omega
  simp [Program.keyLits, Tryz.underlying5, bv, hw]
set_option maxRecDepth 100000 in
theorem keyLits_str (m : Nat) (s : ByteArray) (h : s.size ≤ maxLen) : Tryz.prog.keyLits (m + 1) 9 [.string s] = some [.string s.data.toList] := by
  simp [Program.keyLits, Tryz.underlying9, h]
set_option maxRecDepth 100000 in
theorem keyLits_hash (m : Nat) (H : List UInt8) (hH : H.length = 20) : Tryz.prog.keyLits (m + 2) 24 (H.map bv) = some ((List.range 20).map fun i => [Lit.int .u8 (H.getD i 0).toNat]).flatten := by
  have e : (List.range 20).mapM (fun i => Tryz.prog.keyLits (m + 1) 5 (((H.map bv).drop (i * Tryz.prog.cellsOf 5)).take (Tryz.prog.cellsOf 5))) = some ((List.range 20).map fun i => [Lit.int .u8 (H.getD i 0).toNat]) := by
    refine mapM_some (fun i hi => ?_)
    have hi := List.mem_range.1 hi
    rw [Tryz.cellsB, Nat.mul_one, List.drop_eq_getElem_cons (by rw [List.length_map]; omega)]
    simp only [List.take_succ_cons, List.take_zero, List.getElem_map]
    rw [keyLits_u8, List.getD_eq_getElem?_getD, List.getElem?_eq_getElem (by omega), Option.getD_some]
  unfold Program.keyLits
  simp only [Tryz.underlying24]
  rw [if_pos (by rw [Tryz.cellsH, List.length_map, hH]), e]
  rfl
def litsX (x : PathX) : List Lit := ((List.range 20).map fun i => [Lit.int .u8 (x.h.getD i 0).toNat]).flatten ++ [Lit.string x.n.data.toList]
set_option maxRecDepth 100000 in
theorem keyLits_path (m : Nat) (x : PathX) (h : x.n.size ≤ maxLen) : Tryz.prog.keyLits (m + 3) 27 (cellsX x) = some (litsX x) := by
  obtain ⟨f1, f2, hf, a, b⟩ := two_of_map path_fields
  simp only [Prod.mk.injEq] at a b
  obtain ⟨n1, t1, o1⟩ := a
  obtain ⟨n2, t2, o2⟩ := b
  have hu : Tryz.prog.underlying 27 = some (.struct (Tryz.prog.fieldsOf 27)) := by kernel_rfl
  have hall : (Tryz.prog.fieldsOf 27).all (·.name != "_") = true := by kernel_rfl
  have e1 : (cellsX x).take 20 = x.h.map bv := by
    rw [cellsX, List.take_append_of_le_length (by simp [x.hl]), List.take_of_length_le (by simp [x.hl])]
  have e2 : ((cellsX x).drop 20).take 1 = [.string x.n] := by
    rw [cellsX, List.drop_append, List.length_map, x.hl, List.drop_eq_nil_of_le (by simp [x.hl])]
    rfl
  have e : (Tryz.prog.fieldsOf 27).toList.mapM (fun f => Tryz.prog.keyLits (m + 2) f.type (((cellsX x).drop f.offset).take (Tryz.prog.cellsOf f.type))) = some [((List.range 20).map fun i => [Lit.int .u8 (x.h.getD i 0).toNat]).flatten, [.string x.n.data.toList]] := by
    rw [hf, List.mapM_cons, List.mapM_cons, List.mapM_nil, t1, t2, o1, o2, Tryz.cellsH, Tryz.cellsS, List.drop_zero, e1, e2, keyLits_hash m x.h x.hl, keyLits_str (m + 1) x.n h]
    rfl
  unfold Program.keyLits
  rw [hu]
  simp only []
  rw [if_pos ⟨by rw [Tryz.cellsP, cellsX_length], hall⟩, e]
  simp [litsX]
def keyX (x : PathX) : Lit := .string (keyBytes (litsX x))
set_option maxRecDepth 100000 in
theorem keyX_of (x : PathX) (h : x.n.size ≤ maxLen) : keyOf Tryz.prog 27 (.agg (pathC x.h x.n)) = some (keyX x) ∧ ∃ b, keyX x = .string b := by
  obtain ⟨m, hm⟩ : ∃ m, Tryz.prog.types.size + 1 = m + 3 := by
    have : 2 ≤ Tryz.prog.types.size := Nat.le_of_ble_eq_true (by kernel_rfl)
    exact ⟨Tryz.prog.types.size - 2, by omega⟩
  have hl := keyLits_path m x h
  have hu : Tryz.prog.underlying 27 = some (.struct (Tryz.prog.fieldsOf 27)) := by kernel_rfl
  have hk : Tryz.prog.keyType 27 = true := by kernel_rfl
  have hfm : Value.formed Tryz.prog 27 (.agg (pathC x.h x.n)) = true := by
    simp only [Value.formed, hu]
    rw [Tryz.cellsP, pathC_size x.h x.hl]
    rfl
  have e : keyOf Tryz.prog 27 (.agg (pathC x.h x.n)) = some (keyX x) := by
    unfold keyOf
    rw [hu]
    simp only []
    rw [hk, hfm, hm]
    simp only [Bool.and_self, if_true]
    have hc : (Value.agg (pathC x.h x.n)).cells.toList = cellsX x := rfl
    rw [hc, hl]
    rfl
  exact ⟨e, _, rfl⟩
set_option maxRecDepth 100000 in
theorem keyX_inj (x y : PathX) (hx : x.n.size ≤ maxLen) (hy : y.n.size ≤ maxLen) (h : keyX x = keyX y) : x = y := by
  have h1 := (keyX_of x hx).1
  have h2 := (keyX_of y hy).1
  rw [h] at h1
  have h3 := lawP.inj h1 h2
  injection h3 with h3
  have h4 := congrArg Array.toList h3
  simp only [pathC] at h4
  obtain ⟨a, b⟩ := List.append_inj h4 (by simp [x.hl, y.hl])
  refine PathX.ext ?_ (by simpa using b)
  refine List.map_inj_right (fun u v huv => ?_) |>.1 a
  have : (u.toNat : Int) = v.toNat := by
    injection huv
  exact UInt8.toNat_inj.1 (by omega)
set_option maxRecDepth 100000 in
theorem has_set (O : List PathX) (x : PathX) (hO : ∀ y ∈ O, y.n.size ≤ maxLen) (hx : x.n.size ≤ maxLen) : Maps.has (setOf (DataW.agg [] : DataW Unit) (O.map keyX)) (keyX x) = decide (x ∈ O) := by
  rw [has_setOf _ _ _ (fun l hl => by
    obtain ⟨y, hy, rfl⟩ := List.mem_map.1 hl
    obtain ⟨b, hb⟩ := (keyX_of y (hO y hy)).2
    rw [hb]
    trivial)]
  rw [Bool.eq_iff_iff, List.any_eq_true, decide_eq_true_iff]
  constructor
  · rintro ⟨l, hl, hs⟩
    obtain ⟨y, hy, rfl⟩ := List.mem_map.1 hl
    by_cases e : keyX y = keyX x
    · rw [← keyX_inj y x (hO y hy) hx e]
      exact hy
    · rw [sameKey_ne e] at hs
      cases hs
  · intro h
    refine ⟨keyX x, List.mem_map_of_mem h, ?_⟩
    obtain ⟨b, hb⟩ := (keyX_of x hx).2
    rw [hb]
    simp [Lit.sameKey]
def onceX : List PathX → List PathX → List PathX
  | O, [] => O
  | O, x :: l => onceX (if x ∈ O then O else O ++ [x]) l
def onceK (L : List PathX) (k : Nat) : List PathX := onceX [] (L.take k)
set_option maxRecDepth 100000 in
theorem onceX_snoc (O l : List PathX) (x : PathX) : onceX O (l ++ [x]) = (if x ∈ onceX O l then onceX O l else onceX O l ++ [x]) := by
  induction l generalizing O with
  | nil => rfl
  | cons y l ih => rw [List.cons_append, onceX, onceX, ih]
set_option maxRecDepth 100000 in
theorem onceK_succ (L : List PathX) (k : Nat) (h : k < L.length) : onceK L (k + 1) = (if L[k] ∈ onceK L k then onceK L k else onceK L k ++ [L[k]]) := by
  rw [onceK, onceK, List.take_succ_eq_append_getElem h, onceX_snoc]
set_option maxRecDepth 100000 in
theorem onceX_mem (O l : List PathX) (x : PathX) : x ∈ onceX O l ↔ x ∈ O ∨ x ∈ l := by
  induction l generalizing O with
  | nil => simp [onceX]
  | cons y l ih =>
    rw [onceX, ih]
    by_cases h : y ∈ O
    · rw [if_pos h, List.mem_cons]
      constructor
      · rintro (a | a)
        · exact .inl a
        · exact .inr (.inr a)
      · rintro (a | rfl | a)
        · exact .inl a
        · exact .inl h
        · exact .inr a
    · rw [if_neg h, List.mem_append, List.mem_singleton, List.mem_cons, or_assoc]
set_option maxRecDepth 100000 in
theorem onceK_mem (L : List PathX) (k : Nat) (x : PathX) : x ∈ onceK L k ↔ x ∈ L.take k := by simp [onceK, onceX_mem]
set_option maxRecDepth 100000 in
theorem onceX_nodup (O l : List PathX) (h : O.Nodup) : (onceX O l).Nodup := by
  induction l generalizing O with
  | nil => exact h
  | cons y l ih =>
    rw [onceX]
    refine ih _ ?_
    by_cases hy : y ∈ O
    · rw [if_pos hy]; exact h
    · rw [if_neg hy]
      exact List.nodup_append.2 ⟨h, by simp, fun a ha b hb => by
        obtain rfl := List.mem_singleton.1 hb
        rintro rfl
        exact hy ha⟩
set_option maxRecDepth 100000 in
theorem onceK_nodup (L : List PathX) (k : Nat) : (onceK L k).Nodup := onceX_nodup _ _ List.nodup_nil
set_option maxRecDepth 100000 in
theorem onceK_length (L : List PathX) (k : Nat) : (onceK L k).length ≤ k := by
  induction k with
  | zero => simp [onceK, onceX]
  | succ k ih =>
    by_cases h : k < L.length
    · rw [onceK_succ L k h]
      split
      · omega
      · rw [List.length_append, List.length_singleton]; omega
    · rw [onceK, List.take_of_length_le (by omega)]
      rw [onceK, List.take_of_length_le (by omega)] at ih
      omega
end Go.Proofs.YtfkgdjoaoidkeaaGreat
namespace Go.Proofs.YtfkgdjoaoidkeaaGreat
open Go.RowKit Go.ChangeShapes Go.WideMaps Go.Maps
set_option linter.unusedVariables false
theorem zero_unit (w : World) : (zeroValue 56).run Tryz.prog w = .ok (.agg #[]) w := by kernel_rfl
def SeenAt (w : World) (B : Nat) (O : List PathX) : Prop := w.ownsMap Tryz.prog 27 unitElem B O.length (setOf (DataW.agg [] : DataW Unit) (O.map keyX))
theorem SeenAt.keep {S : Nat → Prop} {W W' : World} {B : Nat} {O : List PathX} (h : SeenAt W B O) (hf : Fr S W W') (hB : ¬ S B) : SeenAt W' B O := by
  obtain ⟨es, clock, hb, F, hs, hD⟩ := h
  exact ⟨es, clock, hf.heap hb hB, F, hs, hD⟩
theorem SeenAt.look {W : World} {B : Nat} {O : List PathX} (h : SeenAt W B O) (x : PathX) (hO : ∀ y ∈ O, y.n.size ≤ maxLen) (hx : x.n.size ≤ maxLen) :
    (Instr.lookup 95 (.map (some B)) (.agg (pathC x.h x.n)) true).run Tryz.prog W = .ok (.tuple #[.agg #[], .bool (decide (x ∈ O))]) W := by
  obtain ⟨v, ps, hrun, hv⟩ := World.ownsMap.look_ok (w := W) h lawP Tryz.underlying95 (zero_unit W) unitElem_mk (keyX_of x hx).1
  obtain ⟨rfl, _⟩ := unitElem_inv hv
  rw [hrun, has_set O x hO hx]
structure BsAt (w wr : World) (B : Nat) (ov : Value) (O : List PathX) : Prop where
  fr : Fr (fun _ => False) w wr
  own : OwnP (fun g => B < g) wr ov O
  set : SeenAt wr B O
  lt : B < wr.heap.size
  new : w.heap.size ≤ B
theorem BsAt.keep {w wr w' : World} {B : Nat} {ov : Value} {O : List PathX} (h : BsAt w wr B ov O) (hf : Fr (fun _ => False) wr w') : BsAt w w' B ov O :=
  ⟨h.fr.trans hf (fun _ h => h.elim), h.own.keep hf (fun _ _ _ h => h), h.set.keep hf (fun h => h), Nat.lt_of_lt_of_le h.lt hf.size, h.new⟩
theorem BsAt.put {w W2 w3 : World} {B : Nat} {ov : Value} {O : List PathX} {C : Array Value} (h : BsAt w W2 B ov O) (hg : W2.grownBy w3 (some B)) : OwnP (fun g => B < g) (w3.alloc (.cells C 27)) ov O :=
  (h.own.keep (Fr.grownAs hg) (fun k _ hk e => by omega)).keep ((Fr.refl (fun _ => False) w3).alloc _) (fun _ _ _ h => h)
theorem BsAt.more {w W2 w3 w4 : World} {B : Nat} {ov v4 : Value} {O : List PathX} {x : PathX} {C : Array Value} (h : BsAt w W2 B ov O) (hown : w3.ownsMap Tryz.prog 27 unitElem B (O.length + 1) ((setOf (DataW.agg [] : DataW Unit) (O.map keyX)).put (keyX x) (.agg []))) (hg : W2.grownBy w3 (some B))
    (ho4 : OwnP (fun k => B < k ∨ (w3.alloc (.cells C 27)).heap.size ≤ k) w4 v4 (O ++ [x])) (hg4 : (w3.alloc (.cells C 27)).grownBy w4 ov.ownBlock) (hb4 : v4.ownBlock = ov.ownBlock ∨ v4.ownBlock = some (w3.alloc (.cells C 27)).heap.size) {l : Option Lit} (hk : l = some (keyX x)) : BsAt w w4 B v4 (O ++ [x]) := by
  have hlt := h.lt
  have hs3 : W2.heap.size ≤ w3.heap.size := hg.size
  have hne : ∀ g, ov.ownBlock = some g → B < g := h.own.2
  have hf4 : Fr (fun k => ov.ownBlock = some k) (w3.alloc (.cells C 27)) w4 := (Fr.refl _ _).grown hg4 (fun k hk => .inl hk)
  have hf3 : Fr (fun k => k = B) W2 (w3.alloc (.cells C 27)) := (Fr.grownAs hg).alloc _
  have hfall : Fr (fun _ => False) w w4 := by
    have h1 : Fr (fun k => w.heap.size ≤ k) W2 w4 := (hf3.mono (T := fun k => w.heap.size ≤ k) (fun i _ e => by rw [e]; exact h.new)).trans (hf4.mono (T := fun k => w.heap.size ≤ k) (fun i _ e => by have := hne i e; have := h.new; omega)) (fun i hi => .inl hi)
    exact h.fr.trans h1 (fun i hi => .inr hi)
  refine ⟨hfall, ho4.mono (fun k _ hk => by
    rcases hk with h1 | h1
    · exact h1
    · simp at h1; omega), ?_, ?_, ?_⟩
  · have hset : w3.ownsMap Tryz.prog 27 unitElem B (O ++ [x]).length (setOf (DataW.agg [] : DataW Unit) ((O ++ [x]).map keyX)) := by
      rw [List.length_append, List.length_singleton, List.map_append, List.map_singleton, setOf_snoc]
      exact hown
    have hs : SeenAt w3 B (O ++ [x]) := hset
    exact (hs.keep ((Fr.refl (fun _ => False) w3).alloc _) (fun h => h)).keep hf4 (fun e => by have := hne B e; omega)
  · have := hf4.size
    simp at this
    omega
  · exact h.new
set_option maxRecDepth 100000 in
set_option maxHeartbeats 8000000 in
theorem bSorted_any {F : Nat → Prop} (w : World) (v : Value) (L : List PathX) (hv : PathsIn F w v L) (hF : ∀ k, F k → k < w.heap.size) (hlen : L.length ≤ 1000000) (hN : ∀ x ∈ L, x.n.size ≤ 140737488351232) :
    Calls Tryz.prog 30 #[v] w fun e w' => ∃ u M, e = .returned u ∧ PathsIn (fun k => w.heap.size ≤ k) w' u M ∧ Asc lessX M ∧ (∀ x, x ∈ M ↔ x ∈ L) ∧ Fr (fun _ => False) w w' := by
  have hmm := @run_makeMap Tryz.prog
  have HV := Lib.hid hv
  have HNM := Lib.hid hN
  have HFF := Lib.hid hF
  obtain ⟨ao, cap, rfl, hlc, hcm, hn0, hrow⟩ := hv
  have HROW := Lib.hid hrow
  unfold maxLen at hcm
  have H0 := Lib.hid (show BsAt w (w.alloc (.map #[] 0)) w.heap.size (.slice none 0 0) [] from
    ⟨(Fr.refl _ _).alloc _, OwnP.nil _ _, World.ownsMap_made _ _ _ _, by simp, Nat.le_refl _⟩)
  have HSO := Lib.hid (fun (W : World) (ov : Value) (O : List PathX) (h : OwnP (fun g => w.heap.size < g) W ov O) (hn : O.Nodup) (hl : O.length ≤ 1000000) => sort_any W ov O h hn hl)
  clear hn0 hrow hN hF
  obtain ⟨n, hn⟩ : ∃ n, n = L.length := ⟨_, rfl⟩
  rw [← hn] at hlc ⊢
  have HN := Lib.hid hn
  have hn6 : n ≤ 1000000 := by omega
  clear hn hlen
  go_enter Tryz.func30, Tryz.ntmps30
  go_wp2_with fail
  go_loopw [4, 6, 7, 8, 12] (fun ov s6 s7 s8 kv wr => ∃ k : Nat, k ≤ n ∧ kv = .int .i64 k ∧ Hid (BsAt w wr w.heap.size ov (onceK L k))) (fun _ _ _ _ kv _ => n - (intOf kv).toNat)
  case atStart => exact ⟨0, by omega, rfl, H0⟩
  case round =>
    clear H0
    obtain ⟨k, hk, rfl, hR⟩ := hrel
    by_cases hlt : k < n
    · have hkL : k < L.length := by rw [← HN.out]; exact hlt
      obtain ⟨x, hx⟩ : ∃ x, x = L[k] := ⟨_, rfl⟩
      have hxL : x ∈ L := by rw [hx]; exact List.getElem_mem _
      obtain ⟨b, off, rfl, hbF, hrg⟩ := HROW.out (by rintro rfl; simp at hkL)
      have hbw := HFF.out b hbF
      have hr := hrg k hkL
      rw [← hx] at hr
      have hr := hR.out.fr.range hr (fun h => h)
      have hst := onceK_succ L k hkL
      rw [← hx] at hst
      have hxs : x.n.size ≤ maxLen := by have := HNM.out x hxL; unfold maxLen; omega
      have hOs : ∀ y ∈ onceK L k, y.n.size ≤ maxLen := fun y hy => by
        have := HNM.out y (List.mem_of_mem_take ((onceK_mem L k y).1 hy))
        unfold maxLen
        omega
      have hol := onceK_length L k
      obtain ⟨O, hO⟩ : ∃ O, O = onceK L k := ⟨_, rfl⟩
      rw [← hO] at hR hst hOs hol
      have HST := Lib.hid hst
      have HXS := Lib.hid (And.intro hxs hOs)
      obtain ⟨C, hC⟩ : ∃ C, C = pathC x.h x.n := ⟨_, rfl⟩
      obtain ⟨Cl, hCl⟩ : ∃ C, C = cellsX x := ⟨_, rfl⟩
      rw [← hCl] at hr
      have HC := Lib.hid hC
      have hCC : Cl.toArray = C := by rw [hCl, hC]; rfl
      have hll : Cl.length = 21 := by rw [hCl, cellsX_length]
      have hcs : C.size = 21 := by rw [hC, pathC_size x.h x.hl]
      have hiC : (Tryz.prog.info? 27).map (·.size) = some C.size := by rw [hcs]; kernel_rfl
      have hiL : (Tryz.prog.info? 27).map (·.size) = some Cl.length := by rw [hll]; kernel_rfl
      have hsC : (#[.int .u8 0, .int .u8 0, .int .u8 0, .int .u8 0, .int .u8 0, .int .u8 0, .int .u8 0, .int .u8 0, .int .u8 0, .int .u8 0, .int .u8 0, .int .u8 0, .int .u8 0, .int .u8 0, .int .u8 0, .int .u8 0, .int .u8 0, .int .u8 0, .int .u8 0, .int .u8 0, .string ⟨#[]⟩] : Array Value).size = C.size := Eq.trans (b := 21) rfl hcs.symm
      have hoC : C.all (·.oneCell') = true := by rw [hC]; exact pathC_one x.h x.n
      have HLL := Lib.hid hCC
      have hkn : (k : Int) < (n : Int) := by omega
      have hk0 : (0 : Int) ≤ (k : Int) := by omega
      have hd : decide ((k : Int) < (n : Int)) = true := by rw [decide_eq_true_iff]; exact hkn
      have hiU : (Tryz.prog.info? 56).map (·.size) = some (#[] : Array Value).size := by kernel_rfl
      have hoU : (#[] : Array Value).all (·.oneCell') = true := by simp
      have HKEY := Lib.hid (show keyOf Tryz.prog 27 (.agg C) = some (keyX x) by rw [hC]; exact (keyX_of x hxs).1)
      have HBO := Lib.hid (fun (W : World) => show (Instr.buildSlice 25 1 #[(0, .agg C)]).run Tryz.prog W = .ok (.slice (some ⟨W.heap.size, 0, none⟩) 1 1) (W.alloc (.cells C 27)) by rw [hC]; exact run_build_one W x)
      have HPO := Lib.hid (fun (W : World) => show PathsIn (fun k => k = W.heap.size) (W.alloc (.cells C 27)) (.slice (some ⟨W.heap.size, 0, none⟩) 1 1) [x] by rw [hC]; exact PathsIn.one W x)
      have hO6 : O.length + 1 ≤ 1000000 := by omega
      have HLK := Lib.hid (fun (W : World) (h : SeenAt W w.heap.size O) => show (Instr.lookup 95 (.map (some w.heap.size)) (.agg C) true).run Tryz.prog W = .ok (.tuple #[.agg #[], .bool (decide (x ∈ O))]) W by rw [hC]; exact h.look x hOs hxs)
      clear hx hxL hrg hbF hst hxs hOs hO hC hCl hcs hll hCC hol
      by_cases hmem : x ∈ O
      · have hb : decide (x ∈ O) = true := decide_eq_true hmem
        have HO1 := Lib.hid (HST.out.trans (if_pos hmem))
        rw [hb] at HLK
        clear hb hmem
        go_wp2_with (first
          | (with_reducible refine wpList_load_mid rfl 27 (.tmp 14) rfl b (off + k * 21) rfl Cl _ hr Tryz.underlying27 rfl hiL ?_; rw [HLL.out])
          | (with_reducible refine wpList_store_row rfl 27 (.tmp 6) (.tmp 15) rfl wr.heap.size C #[.int .u8 0, .int .u8 0, .int .u8 0, .int .u8 0, .int .u8 0, .int .u8 0, .int .u8 0, .int .u8 0, .int .u8 0, .int .u8 0, .int .u8 0, .int .u8 0, .int .u8 0, .int .u8 0, .int .u8 0, .int .u8 0, .int .u8 0, .int .u8 0, .int .u8 0, .int .u8 0, .string ⟨#[]⟩] 27 rfl rfl (heap_alloc_new wr _) hiC hsC hoC ?_; (have hbx := setRow_heap (wr.alloc (.cells #[.int .u8 0, .int .u8 0, .int .u8 0, .int .u8 0, .int .u8 0, .int .u8 0, .int .u8 0, .int .u8 0, .int .u8 0, .int .u8 0, .int .u8 0, .int .u8 0, .int .u8 0, .int .u8 0, .int .u8 0, .int .u8 0, .int .u8 0, .int .u8 0, .int .u8 0, .int .u8 0, .string ⟨#[]⟩] 27)) wr.heap.size #[.int .u8 0, .int .u8 0, .int .u8 0, .int .u8 0, .int .u8 0, .int .u8 0, .int .u8 0, .int .u8 0, .int .u8 0, .int .u8 0, .int .u8 0, .int .u8 0, .int .u8 0, .int .u8 0, .int .u8 0, .int .u8 0, .int .u8 0, .int .u8 0, .int .u8 0, .int .u8 0, .string ⟨#[]⟩] C 27 (0, 0) (heap_alloc_new wr _)); (have HGX := Lib.hid (show w.heap.size < wr.heap.size from hR.out.lt)); (have HR1 := Lib.hid (BsAt.keep hR.out (Fr.laid wr #[.int .u8 0, .int .u8 0, .int .u8 0, .int .u8 0, .int .u8 0, .int .u8 0, .int .u8 0, .int .u8 0, .int .u8 0, .int .u8 0, .int .u8 0, .int .u8 0, .int .u8 0, .int .u8 0, .int .u8 0, .int .u8 0, .int .u8 0, .int .u8 0, .int .u8 0, .int .u8 0, .string ⟨#[]⟩] C 27))); generalize (wr.alloc (.cells #[.int .u8 0, .int .u8 0, .int .u8 0, .int .u8 0, .int .u8 0, .int .u8 0, .int .u8 0, .int .u8 0, .int .u8 0, .int .u8 0, .int .u8 0, .int .u8 0, .int .u8 0, .int .u8 0, .int .u8 0, .int .u8 0, .int .u8 0, .int .u8 0, .int .u8 0, .int .u8 0, .string ⟨#[]⟩] 27)).setRow wr.heap.size C = W1 at *; generalize wr.heap.size = gx at *)
          | (with_reducible refine wpList_load_row rfl 27 (.tmp 6) rfl gx rfl 27 C (0, 0) _ hbx Tryz.underlying27 rfl hiC ?_; (have hlook := HLK.out W1 HR1.out.set))
          | (with_reducible refine wpList_store_row rfl 56 (.tmp 7) (.tmp 20) rfl W1.heap.size #[] #[] 56 rfl rfl (heap_alloc_new W1 _) hiU rfl hoU ?_; (have hbx2 := Fr.heap (Fr.laid W1 #[] #[] 56) hbx (fun h => h)); (have HR2 := Lib.hid (BsAt.keep HR1.out (Fr.laid W1 #[] #[] 56))); generalize (W1.alloc (.cells #[] 56)).setRow W1.heap.size #[] = W2 at *))
        go_roundw
        case rel => exact ⟨k + 1, by omega, by go_num, by rw [HO1.out]; exact HR2⟩
        case measure => simp [intOf]; omega
      · have hb : decide (x ∈ O) = false := decide_eq_false hmem
        have HO1 := Lib.hid (HST.out.trans (if_neg hmem))
        rw [hb] at HLK
        clear hb hmem
        go_upto_region 9 with (first
          | (with_reducible refine wpList_load_mid rfl 27 (.tmp 14) rfl b (off + k * 21) rfl Cl _ hr Tryz.underlying27 rfl hiL ?_; rw [HLL.out])
          | (with_reducible refine wpList_store_row rfl 27 (.tmp 6) (.tmp 15) rfl wr.heap.size C #[.int .u8 0, .int .u8 0, .int .u8 0, .int .u8 0, .int .u8 0, .int .u8 0, .int .u8 0, .int .u8 0, .int .u8 0, .int .u8 0, .int .u8 0, .int .u8 0, .int .u8 0, .int .u8 0, .int .u8 0, .int .u8 0, .int .u8 0, .int .u8 0, .int .u8 0, .int .u8 0, .string ⟨#[]⟩] 27 rfl rfl (heap_alloc_new wr _) hiC hsC hoC ?_; (have hbx := setRow_heap (wr.alloc (.cells #[.int .u8 0, .int .u8 0, .int .u8 0, .int .u8 0, .int .u8 0, .int .u8 0, .int .u8 0, .int .u8 0, .int .u8 0, .int .u8 0, .int .u8 0, .int .u8 0, .int .u8 0, .int .u8 0, .int .u8 0, .int .u8 0, .int .u8 0, .int .u8 0, .int .u8 0, .int .u8 0, .string ⟨#[]⟩] 27)) wr.heap.size #[.int .u8 0, .int .u8 0, .int .u8 0, .int .u8 0, .int .u8 0, .int .u8 0, .int .u8 0, .int .u8 0, .int .u8 0, .int .u8 0, .int .u8 0, .int .u8 0, .int .u8 0, .int .u8 0, .int .u8 0, .int .u8 0, .int .u8 0, .int .u8 0, .int .u8 0, .int .u8 0, .string ⟨#[]⟩] C 27 (0, 0) (heap_alloc_new wr _)); (have HGX := Lib.hid (show w.heap.size < wr.heap.size from hR.out.lt)); (have HR1 := Lib.hid (BsAt.keep hR.out (Fr.laid wr #[.int .u8 0, .int .u8 0, .int .u8 0, .int .u8 0, .int .u8 0, .int .u8 0, .int .u8 0, .int .u8 0, .int .u8 0, .int .u8 0, .int .u8 0, .int .u8 0, .int .u8 0, .int .u8 0, .int .u8 0, .int .u8 0, .int .u8 0, .int .u8 0, .int .u8 0, .int .u8 0, .string ⟨#[]⟩] C 27))); generalize (wr.alloc (.cells #[.int .u8 0, .int .u8 0, .int .u8 0, .int .u8 0, .int .u8 0, .int .u8 0, .int .u8 0, .int .u8 0, .int .u8 0, .int .u8 0, .int .u8 0, .int .u8 0, .int .u8 0, .int .u8 0, .int .u8 0, .int .u8 0, .int .u8 0, .int .u8 0, .int .u8 0, .int .u8 0, .string ⟨#[]⟩] 27)).setRow wr.heap.size C = W1 at *; generalize wr.heap.size = gx at *)
          | (with_reducible refine wpList_load_row rfl 27 (.tmp 6) rfl gx rfl 27 C (0, 0) _ hbx Tryz.underlying27 rfl hiC ?_; (have hlook := HLK.out W1 HR1.out.set))
          | (with_reducible refine wpList_store_row rfl 56 (.tmp 7) (.tmp 20) rfl W1.heap.size #[] #[] 56 rfl rfl (heap_alloc_new W1 _) hiU rfl hoU ?_; (have hbx2 := Fr.heap (Fr.laid W1 #[] #[] 56) hbx (fun h => h)); (have HR2 := Lib.hid (BsAt.keep HR1.out (Fr.laid W1 #[] #[] 56))); generalize (W1.alloc (.cells #[] 56)).setRow W1.heap.size #[] = W2 at *)
          | (with_reducible refine wpList_load_row rfl 27 (.tmp 6) rfl gx rfl 27 C (0, 0) _ hbx2 Tryz.underlying27 rfl hiC ?_)
          | (at_mapUpdate; refine wpList_mapUpdate_own _ rfl _ _ _ 95 rfl 27 56 lawP Tryz.underlying95 unitElem w.heap.size O.length _ rfl HR2.out.set (by unfold maxLen; omega) _ _ (keyX x) rfl rfl HKEY.out (.agg []) [] unitElem_mk ?_; intro w3 hown3 hgrow3; (have HR3 := Lib.hid (And.intro hown3 hgrow3)); (have hbx3 := (hgrow3.block gx (lt_of_block hbx2) (fun e => by injection e with e; have := HR2.out.lt; have := HGX.out; omega)).trans hbx2); clear hown3 hgrow3))
        go_wp2_with (first
          | ((with_reducible refine wpList_load_row rfl 27 (.tmp 6) rfl gx rfl 27 C (0, 0) _ hbx3 Tryz.underlying27 rfl hiC ?_); go_loud (refine wpList_one rfl 25 (.tmp 28) rfl (.agg C) (.slice (some ⟨w3.heap.size, 0, none⟩) 1 1) (w3.alloc (.cells C 27)) rfl (HBO.out w3) ?_); refine wpList_append_paths (F := fun g => w.heap.size < g) (G := fun k => k = w3.heap.size) _ rfl (.tmp 27) (.tmp 29) rfl u4 _ O [x] rfl rfl (HR2.out.put HR3.out.2) (HPO.out w3) (by have := hO6; simp only [List.length_singleton]; omega) ?_; intro v4 w4 hown4 hgrow4 hblk4; (have HR4 := Lib.hid (And.intro hown4 (And.intro hgrow4 hblk4))); clear hown4 hgrow4 hblk4))
        go_roundw
        case rel => exact ⟨k + 1, by omega, by go_num, by rw [HO1.out]; exact Lib.hid (BsAt.more HR2.out HR3.out.1 HR3.out.2 HR4.out.1 HR4.out.2.1 HR4.out.2.2 HKEY.out)⟩
        case measure => simp [intOf]; omega
    · have hkn : k = n := by omega
      have hd : decide ((k : Int) < (n : Int)) = false := by rw [decide_eq_false_iff_not]; omega
      obtain ⟨O, hO⟩ : ∃ O, O = onceK L k := ⟨_, rfl⟩
      have hnd : O.Nodup := by rw [hO]; exact onceK_nodup L k
      have hol : O.length ≤ k := by rw [hO]; exact onceK_length L k
      have hmm : ∀ x, x ∈ O ↔ x ∈ L := fun x => by
        rw [hO, onceK_mem, List.take_of_length_le (by rw [← HN.out]; omega)]
      rw [← hO] at hR
      have HSX := Lib.hid (HSO.out wr u4 O hR.out.own hnd (by omega))
      have HMM := Lib.hid hmm
      clear hO hnd hol hmm hkn
      go_wp2_with (go_at_call 41; refine HSX.out.mono ?_; rintro e w2 ⟨rfl, M, hp, ha, hm, hf⟩; have HRES := Lib.hid (And.intro hp (And.intro ha (And.intro hm hf))); clear hp ha hm hf)
      go_ret
      obtain ⟨hp, ha, hm, hf⟩ := HRES.out
      have hnew := hR.out.new
      refine ⟨_, M, rfl, hp.mono (fun i _ h => by omega), ha, fun x => (hm x).trans (HMM.out x), hR.out.fr.trans hf (fun i hi => .inr ?_)⟩
      have := hR.out.own.2 i hi
      omega
end Go.Proofs.YtfkgdjoaoidkeaaGreat
