/- Paths as keys of a map; sets of them. -/
import Derived.Test.YtdmlalnekjihfaaPathX
import Derived.Test.YtdmlalnekjihfaaBackL
namespace Go.Proofs.Ytdmlalnekjihfaa
open Go.RowKit Go.ChangeShapes Go.WideMaps Go.Maps
set_option linter.unusedVariables false

theorem mapM_some {α β : Type} {f : α → Option β} {g : α → β} : ∀ {l : List α}, (∀ x ∈ l, f x = some (g x)) → l.mapM f = some (l.map g)
  | [], _ => rfl
  | x :: l, h => by
    rw [List.mapM_cons, h x (by simp), mapM_some (l := l) (fun y hy => h y (by simp [hy]))]
    rfl
theorem keyLits_u8 (m : Nat) (x : UInt8) : Try.prog.keyLits (m + 1) 5 [bv x] = some [.int .u8 x.toNat] := by
  have hx := x.toNat_lt
  have hw : (Lit.int .u8 (x.toNat : Int)).wf = true := by simp [Lit.wf, IntKind.min, IntKind.max, IntKind.bits, IntKind.signed]; omega
  simp [Program.keyLits, Try.underlying5, bv, hw]
theorem keyLits_str (m : Nat) (s : ByteArray) (h : s.size ≤ maxLen) : Try.prog.keyLits (m + 1) 9 [.string s] = some [.string s.data.toList] := by
  simp [Program.keyLits, Try.underlying9, h]
theorem keyLits_hash (m : Nat) (H : List UInt8) (hH : H.length = 20) : Try.prog.keyLits (m + 2) 23 (H.map bv) = some ((List.range 20).map fun i => [Lit.int .u8 (H.getD i 0).toNat]).flatten := by
  have e : (List.range 20).mapM (fun i => Try.prog.keyLits (m + 1) 5 (((H.map bv).drop (i * Try.prog.cellsOf 5)).take (Try.prog.cellsOf 5))) = some ((List.range 20).map fun i => [Lit.int .u8 (H.getD i 0).toNat]) := by
    refine mapM_some (fun i hi => ?_)
    have hi := List.mem_range.1 hi
    rw [Try.cellsB, Nat.mul_one, List.drop_eq_getElem_cons (by rw [List.length_map]; omega)]
    simp only [List.take_succ_cons, List.take_zero, List.getElem_map]
    rw [keyLits_u8, List.getD_eq_getElem?_getD, List.getElem?_eq_getElem (by omega), Option.getD_some]
  unfold Program.keyLits
  simp only [Try.underlying23]
  rw [if_pos (by rw [Try.cellsH, List.length_map, hH]), e]
  rfl
/-- A path's cells, as plain data. -/
def litsX (x : PathX) : List Lit := ((List.range 20).map fun i => [Lit.int .u8 (x.h.getD i 0).toNat]).flatten ++ [Lit.string x.n.data.toList]
theorem keyLits_path (m : Nat) (x : PathX) (h : x.n.size ≤ maxLen) : Try.prog.keyLits (m + 3) 25 (cellsX x) = some (litsX x) := by
  obtain ⟨f1, f2, hf, a, b⟩ := two_of_map path_fields
  simp only [Prod.mk.injEq] at a b
  obtain ⟨n1, t1, o1⟩ := a
  obtain ⟨n2, t2, o2⟩ := b
  have hu : Try.prog.underlying 25 = some (.struct (Try.prog.fieldsOf 25)) := by kernel_rfl
  have hall : (Try.prog.fieldsOf 25).all (·.name != "_") = true := by kernel_rfl
  have e1 : (cellsX x).take 20 = x.h.map bv := by
    rw [cellsX, List.take_append_of_le_length (by simp [x.hl]), List.take_of_length_le (by simp [x.hl])]
  have e2 : ((cellsX x).drop 20).take 1 = [.string x.n] := by
    rw [cellsX, List.drop_append, List.length_map, x.hl, List.drop_eq_nil_of_le (by simp [x.hl])]
    rfl
  have e : (Try.prog.fieldsOf 25).toList.mapM (fun f => Try.prog.keyLits (m + 2) f.type (((cellsX x).drop f.offset).take (Try.prog.cellsOf f.type))) = some [((List.range 20).map fun i => [Lit.int .u8 (x.h.getD i 0).toNat]).flatten, [.string x.n.data.toList]] := by
    rw [hf, List.mapM_cons, List.mapM_cons, List.mapM_nil, t1, t2, o1, o2, Try.cellsH, Try.cellsS, List.drop_zero, e1, e2, keyLits_hash m x.h x.hl, keyLits_str (m + 1) x.n h]
    rfl
  unfold Program.keyLits
  rw [hu]
  simp only []
  rw [if_pos ⟨by rw [Try.cellsP, cellsX_length], hall⟩, e]
  simp [litsX]

/-- A path's key. -/
def keyX (x : PathX) : Lit := .string (keyBytes (litsX x))
theorem keyX_of (x : PathX) (h : x.n.size ≤ maxLen) : keyOf Try.prog 25 (.agg (pathC x.h x.n)) = some (keyX x) ∧ ∃ b, keyX x = .string b := by
  obtain ⟨m, hm⟩ : ∃ m, Try.prog.types.size + 1 = m + 3 := by
    have : 2 ≤ Try.prog.types.size := Nat.le_of_ble_eq_true (by kernel_rfl)
    exact ⟨Try.prog.types.size - 2, by omega⟩
  have hl := keyLits_path m x h
  have hu : Try.prog.underlying 25 = some (.struct (Try.prog.fieldsOf 25)) := by kernel_rfl
  have hk : Try.prog.keyType 25 = true := by kernel_rfl
  have hfm : Value.formed Try.prog 25 (.agg (pathC x.h x.n)) = true := by
    simp only [Value.formed, hu]
    rw [Try.cellsP, pathC_size x.h x.hl]
    rfl
  have e : keyOf Try.prog 25 (.agg (pathC x.h x.n)) = some (keyX x) := by
    unfold keyOf
    rw [hu]
    simp only []
    rw [hk, hfm, hm]
    simp only [Bool.and_self, if_true]
    have hc : (Value.agg (pathC x.h x.n)).cells.toList = cellsX x := rfl
    rw [hc, hl]
    rfl
  exact ⟨e, _, rfl⟩
theorem keyX_inj (x y : PathX) (hx : x.n.size ≤ maxLen) (hy : y.n.size ≤ maxLen) (h : keyX x = keyX y) : x = y := by
  have h1 := (keyX_of x hx).1
  have h2 := (keyX_of y hy).1
  rw [h] at h1
  have h3 := lawP.inj h1 h2
  injection h3 with h3
  have h4 := congrArg Array.toList h3
  simp only [pathC] at h4
  obtain ⟨a, b⟩ := List.append_inj h4 (by simp [x.hl, y.hl])
  refine PathX.ext ?_ (by simpa using b)
  refine List.map_inj_right (fun u v huv => ?_) |>.1 a
  have : (u.toNat : Int) = v.toNat := by
    injection huv
  exact UInt8.toNat_inj.1 (by omega)
theorem has_set (O : List PathX) (x : PathX) (hO : ∀ y ∈ O, y.n.size ≤ maxLen) (hx : x.n.size ≤ maxLen) : Maps.has (setOf (DataW.agg [] : DataW Unit) (O.map keyX)) (keyX x) = decide (x ∈ O) := by
  rw [has_setOf _ _ _ (fun l hl => by
    obtain ⟨y, hy, rfl⟩ := List.mem_map.1 hl
    obtain ⟨b, hb⟩ := (keyX_of y (hO y hy)).2
    rw [hb]
    trivial)]
  rw [Bool.eq_iff_iff, List.any_eq_true, decide_eq_true_iff]
  constructor
  · rintro ⟨l, hl, hs⟩
    obtain ⟨y, hy, rfl⟩ := List.mem_map.1 hl
    by_cases e : keyX y = keyX x
    · rw [← keyX_inj y x (hO y hy) hx e]
      exact hy
    · rw [sameKey_ne e] at hs
      cases hs
  · intro h
    refine ⟨keyX x, List.mem_map_of_mem h, ?_⟩
    obtain ⟨b, hb⟩ := (keyX_of x hx).2
    rw [hb]
    simp [Lit.sameKey]

/-- Each once, where it stands first. -/
def onceX : List PathX → List PathX → List PathX
  | O, [] => O
  | O, x :: l => onceX (if x ∈ O then O else O ++ [x]) l
def onceK (L : List PathX) (k : Nat) : List PathX := onceX [] (L.take k)
theorem onceX_snoc (O l : List PathX) (x : PathX) : onceX O (l ++ [x]) = (if x ∈ onceX O l then onceX O l else onceX O l ++ [x]) := by
  induction l generalizing O with
  | nil => rfl
  | cons y l ih => rw [List.cons_append, onceX, onceX, ih]
theorem onceK_succ (L : List PathX) (k : Nat) (h : k < L.length) : onceK L (k + 1) = (if L[k] ∈ onceK L k then onceK L k else onceK L k ++ [L[k]]) := by
  rw [onceK, onceK, List.take_succ_eq_append_getElem h, onceX_snoc]
theorem onceX_mem (O l : List PathX) (x : PathX) : x ∈ onceX O l ↔ x ∈ O ∨ x ∈ l := by
  induction l generalizing O with
  | nil => simp [onceX]
  | cons y l ih =>
    rw [onceX, ih]
    by_cases h : y ∈ O
    · rw [if_pos h, List.mem_cons]
      constructor
      · rintro (a | a)
        · exact .inl a
        · exact .inr (.inr a)
      · rintro (a | rfl | a)
        · exact .inl a
        · exact .inl h
        · exact .inr a
    · rw [if_neg h, List.mem_append, List.mem_singleton, List.mem_cons, or_assoc]
theorem onceK_mem (L : List PathX) (k : Nat) (x : PathX) : x ∈ onceK L k ↔ x ∈ L.take k := by simp [onceK, onceX_mem]
theorem onceX_nodup (O l : List PathX) (h : O.Nodup) : (onceX O l).Nodup := by
  induction l generalizing O with
  | nil => exact h
  | cons y l ih =>
    rw [onceX]
    refine ih _ ?_
    by_cases hy : y ∈ O
    · rw [if_pos hy]; exact h
    · rw [if_neg hy]
      exact List.nodup_append.2 ⟨h, by simp, fun a ha b hb => by
        obtain rfl := List.mem_singleton.1 hb
        rintro rfl
        exact hy ha⟩
theorem onceK_nodup (L : List PathX) (k : Nat) : (onceK L k).Nodup := onceX_nodup _ _ List.nodup_nil
theorem onceK_length (L : List PathX) (k : Nat) : (onceK L k).length ≤ k := by
  induction k with
  | zero => simp [onceK, onceX]
  | succ k ih =>
    by_cases h : k < L.length
    · rw [onceK_succ L k h]
      split
      · omega
      · rw [List.length_append, List.length_singleton]; omega
    · rw [onceK, List.take_of_length_le (by omega)]
      rw [onceK, List.take_of_length_le (by omega)] at ih
      omega
end Go.Proofs.Ytdmlalnekjihfaa
