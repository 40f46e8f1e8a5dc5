/- Laid together: VwL VKy VDeeds Wide Str BIter -/
import Derived.Test.YteockhemeneioaaVd0
import Derived.Lib.Strings
import Derived.Laws.Strings3
import Derived.Test.YteockhemeneioaaVd1
import Derived.Maps.RangeWalk
import Derived.Deep.Fields
import Derived.RangeFuncNested
import Derived.RangeFuncBound
import Derived.OwnWalkIn
import Derived.TacticsInMore
import Derived.LoopIn
import Derived.LoopNIn
import Derived.Laws.Rows
import Derived.Deep.WholeRow
import Derived.Laws.IdiomStrings
import Derived.Lib.BufferRead
import Derived.Maps.OwnSet
import Derived.Lib.OthersKept
import Derived.Laws.RangeAny
import Derived.Deep.LoopGhost

namespace Go.Proofs.Yteockhemeneioaa
set_option linter.unusedVariables false
abbrev Bs := List UInt8
abbrev VT (α : Type) := List (Bs × α)
abbrev VOk {α : Type} (M : VT α) : Prop := M.Pairwise (fun p q => p.1 < q.1)
def vGet {α : Type} (M : VT α) (k : Bs) : Option α := (M.find? (fun p => p.1 == k)).map (·.2)
def vDel {α : Type} (M : VT α) (k : Bs) : VT α := M.filter (fun p => p.1 != k)
def vPut {α : Type} : VT α → Bs → α → VT α
  | [], k, v => [(k, v)]
  | p :: r, k, v => if k < p.1 then (k, v) :: p :: r else if p.1 = k then (k, v) :: r else p :: vPut r k v
theorem bs_lt_or {a b : Bs} (h : ¬ a < b) (hn : b ≠ a) : b < a := by
  by_cases hb : b < a
  · exact hb
  · exact absurd (List.le_antisymm (List.not_lt.1 h) (List.not_lt.1 hb)) hn
theorem bs_ne {a b : Bs} (h : a < b) : a ≠ b := fun e => by subst e; exact List.lt_irrefl a h
section
variable {α : Type}
theorem vGet_nil (k : Bs) : vGet ([] : VT α) k = none := rfl
theorem vGet_cons (p : Bs × α) (M : VT α) (k : Bs) : vGet (p :: M) k = if p.1 = k then some p.2 else vGet M k := by
  unfold vGet
  rw [List.find?_cons]
  by_cases h : p.1 = k
  · simp [h]
  · have : (p.1 == k) = false := by simpa using h
    simp [h, this]
theorem vGet_mem {M : VT α} {k : Bs} {v : α} (h : vGet M k = some v) : (k, v) ∈ M := by
  unfold vGet at h
  cases hf : M.find? (fun p => p.1 == k) with
  | none => rw [hf] at h; cases h
  | some p =>
    rw [hf] at h
    simp only [Option.map_some, Option.some.injEq] at h
    have h1 := List.find?_some hf
    have h2 := List.mem_of_find?_eq_some hf
    simp only [beq_iff_eq] at h1
    subst h1; subst h
    exact h2
theorem vGet_none {M : VT α} {k : Bs} : vGet M k = none ↔ ∀ p ∈ M, p.1 ≠ k := by
  unfold vGet
  rw [Option.map_eq_none_iff, List.find?_eq_none]
  simp
theorem vGet_of_mem {M : VT α} (hM : VOk M) {p : Bs × α} (h : p ∈ M) : vGet M p.1 = some p.2 := by
  induction M with
  | nil => cases h
  | cons q M ih =>
    rw [vGet_cons]
    rcases List.mem_cons.1 h with rfl | h
    · rw [if_pos rfl]
    · have h1 := List.pairwise_cons.1 hM
      rw [if_neg (bs_ne (h1.1 p h))]
      exact ih h1.2 h
theorem vDel_none {M : VT α} {k : Bs} (h : vGet M k = none) : vDel M k = M := by
  rw [vDel, List.filter_eq_self]
  intro p hp
  simpa using vGet_none.1 h p hp
theorem vGet_del_same (M : VT α) (k : Bs) : vGet (vDel M k) k = none := by
  rw [vGet_none]
  intro p hp
  have := (List.mem_filter.1 hp).2
  simpa using this
theorem vGet_del_other {M : VT α} {k j : Bs} (h : j ≠ k) : vGet (vDel M k) j = vGet M j := by
  induction M with
  | nil => rfl
  | cons p M ih =>
    by_cases hp : p.1 = k
    · have e : vDel (p :: M) k = vDel M k := by simp [vDel, hp]
      rw [e, ih, vGet_cons, if_neg (fun e => h (by rw [← e, hp]))]
    · have e : vDel (p :: M) k = p :: vDel M k := by simp [vDel, hp]
      rw [e, vGet_cons, vGet_cons, ih]
theorem VOk.del {M : VT α} (h : VOk M) (k : Bs) : VOk (vDel M k) := h.filter _
theorem vPut_keys {M : VT α} {k : Bs} {v : α} {p : Bs × α} (h : p ∈ vPut M k v) : p = (k, v) ∨ p ∈ M := by
  induction M with
  | nil => simp [vPut] at h; exact .inl h
  | cons q M ih =>
    unfold vPut at h
    split at h
    · rcases List.mem_cons.1 h with h | h
      · exact .inl h
      · exact .inr h
    · split at h
      · rcases List.mem_cons.1 h with h | h
        · exact .inl h
        · exact .inr (List.mem_cons_of_mem _ h)
      · rcases List.mem_cons.1 h with h | h
        · exact .inr (h ▸ List.mem_cons_self)
        · exact (ih h).imp id (List.mem_cons_of_mem _)
theorem VOk.put {M : VT α} (h : VOk M) (k : Bs) (v : α) : VOk (vPut M k v) := by
  induction M with
  | nil => simp [vPut, VOk]
  | cons q M ih =>
    have h1 := List.pairwise_cons.1 h
    unfold vPut
    split
    · next hlt =>
      refine List.pairwise_cons.2 ⟨fun p hp => ?_, h⟩
      rcases List.mem_cons.1 hp with rfl | hp
      · exact hlt
      · exact List.lt_trans hlt (h1.1 p hp)
    · next hnl =>
      split
      · next he => exact List.pairwise_cons.2 ⟨fun p hp => by rw [← he]; exact h1.1 p hp, h1.2⟩
      · next hne =>
        refine List.pairwise_cons.2 ⟨fun p hp => ?_, ih h1.2⟩
        rcases vPut_keys hp with rfl | hp
        · exact bs_lt_or hnl hne
        · exact h1.1 p hp
theorem vGet_put_same (M : VT α) (k : Bs) (v : α) : vGet (vPut M k v) k = some v := by
  induction M with
  | nil => simp [vPut, vGet_cons]
  | cons q M ih =>
    unfold vPut
    split
    · rw [vGet_cons, if_pos rfl]
    · split
      · rw [vGet_cons, if_pos rfl]
      · next hne => rw [vGet_cons, if_neg hne, ih]
theorem vGet_put_other {M : VT α} {k j : Bs} {v : α} (h : j ≠ k) : vGet (vPut M k v) j = vGet M j := by
  induction M with
  | nil => rw [vPut, vGet_cons, if_neg (fun e => h e.symm)]
  | cons q M ih =>
    unfold vPut
    split
    · rw [vGet_cons, if_neg (fun e => h e.symm)]
    · split
      · next he => rw [vGet_cons, vGet_cons, if_neg (fun e => h e.symm), if_neg (fun e => h (by rw [← e, he]))]
      · rw [vGet_cons, vGet_cons, ih]
theorem vDel_len {M : VT α} (h : VOk M) {k : Bs} (hg : (vGet M k).isSome = true) : (vDel M k).length + 1 = M.length := by
  induction M with
  | nil => cases hg
  | cons p M ih =>
    have h1 := List.pairwise_cons.1 h
    rw [vGet_cons] at hg
    by_cases e : p.1 = k
    · have e2 : vDel (p :: M) k = M := by
        have : vDel (p :: M) k = vDel M k := by simp [vDel, e]
        rw [this]
        exact vDel_none (vGet_none.2 fun r hr => by rw [← e]; exact (bs_ne (h1.1 r hr)).symm)
      rw [e2, List.length_cons]
    · rw [if_neg e] at hg
      have e2 : vDel (p :: M) k = p :: vDel M k := by simp [vDel, e]
      have := ih h1.2 hg
      rw [e2, List.length_cons, List.length_cons]
      omega
theorem vPut_len {M : VT α} (h : VOk M) (k : Bs) (v : α) : (vPut M k v).length = M.length + (if (vGet M k).isSome = true then 0 else 1) := by
  induction M with
  | nil => simp [vPut, vGet_nil]
  | cons p M ih =>
    have h1 := List.pairwise_cons.1 h
    have := ih h1.2
    unfold vPut
    split
    · next hlt =>
      have hn : vGet (p :: M) k = none := vGet_none.2 fun r hr => by
        rcases List.mem_cons.1 hr with rfl | hr
        · exact (bs_ne hlt).symm
        · exact (bs_ne (List.lt_trans hlt (h1.1 r hr))).symm
      rw [hn]
      simp
    · split
      · next he => rw [vGet_cons, if_pos he]; simp
      · next hne =>
        rw [vGet_cons, if_neg hne, List.length_cons, this, List.length_cons]
        omega
theorem vDel_le (M : VT α) (k : Bs) : (vDel M k).length ≤ M.length := List.length_filter_le _ _
def vKeys (M : VT α) (P : Bs) : List Bs := (M.filter (fun p => Lib.hasPrefix p.1 P)).map (·.1)
theorem vKeys_mem {M : VT α} {P k : Bs} : k ∈ vKeys M P ↔ (vGet M k).isSome = true ∧ Lib.hasPrefix k P = true := by
  unfold vKeys
  rw [List.mem_map]
  constructor
  · rintro ⟨p, hp, rfl⟩
    obtain ⟨h1, h2⟩ := List.mem_filter.1 hp
    refine ⟨?_, h2⟩
    cases h : vGet M p.1 with
    | none => exact absurd rfl (vGet_none.1 h p h1)
    | some b => rfl
  · rintro ⟨h1, h2⟩
    obtain ⟨b, hb⟩ := Option.isSome_iff_exists.1 h1
    exact ⟨(k, b), List.mem_filter.2 ⟨vGet_mem hb, h2⟩, rfl⟩
theorem vKeys_asc {M : VT α} (h : VOk M) (P : Bs) : (vKeys M P).Pairwise (· < ·) := by
  unfold vKeys
  rw [List.pairwise_map]
  exact h.filter _
theorem vKeys_le (M : VT α) (P : Bs) : (vKeys M P).length ≤ M.length := by unfold vKeys; rw [List.length_map]; exact List.length_filter_le _ _
end
end Go.Proofs.Yteockhemeneioaa
namespace Go.Proofs.Yteockhemeneioaa
open Go.RowKit Go.ChangeShapes Go.WideMaps Go.Maps
set_option linter.unusedVariables false
def plC (i : Int) (N : ByteArray) : Array Value := #[.int .i64 i, .string N]
theorem place_fields : (Try.prog.fieldsOf 114).toList.map (fun f => (f.name, f.type, f.offset)) = [("who", 3, 0), ("name", 9, 1)] := by kernel_rfl
theorem Try.cellsPl : Try.prog.cellsOf 114 = 2 := by kernel_rfl
theorem Try.cellsI9 : Try.prog.cellsOf 3 = 1 := by kernel_rfl
def litsPl (i : Int) (s : Bs) : List Lit := [Lit.int .i64 i, Lit.string s]
theorem keyLits_int (m : Nat) (i : Int) (h : (Lit.int .i64 i).wf = true) : Try.prog.keyLits (m + 1) 3 [.int .i64 i] = some [.int .i64 i] := by
  simp [Program.keyLits, Try.underlying3, h]
theorem size_list (N : ByteArray) : N.data.toList.length = N.size := Array.length_toList
theorem place_under : Try.prog.underlying 114 = some (.struct (Try.prog.fieldsOf 114)) := by kernel_rfl
theorem keyLits_place (m : Nat) (i : Int) (N : ByteArray) (hi : (Lit.int .i64 i).wf = true) (h : N.size ≤ maxLen) : Try.prog.keyLits (m + 2) 114 [.int .i64 i, .string N] = some (litsPl i N.data.toList) := by
  obtain ⟨f1, f2, hf, a, b⟩ := two_of_map place_fields
  simp only [Prod.mk.injEq] at a b
  obtain ⟨n1, t1, o1⟩ := a
  obtain ⟨n2, t2, o2⟩ := b
  have hall : (Try.prog.fieldsOf 114).all (·.name != "_") = true := by kernel_rfl
  have e : (Try.prog.fieldsOf 114).toList.mapM (fun f => Try.prog.keyLits (m + 1) f.type (([Value.int .i64 i, Value.string N].drop f.offset).take (Try.prog.cellsOf f.type))) = some [[.int .i64 i], [.string N.data.toList]] := by
    rw [hf, List.mapM_cons, List.mapM_cons, List.mapM_nil, t1, t2, o1, o2, Try.cellsI9, Try.cellsS]
    simp only [List.drop_zero, List.take_succ_cons, List.take_zero, List.drop_succ_cons]
    rw [keyLits_int m i hi, keyLits_str m N h]
    rfl
  unfold Program.keyLits
  rw [place_under]
  simp only []
  rw [if_pos ⟨by rw [Try.cellsPl]; rfl, hall⟩, e]
  rfl
def keyP (i : Int) (s : Bs) : Lit := .string (keyBytes (litsPl i s))
theorem types_two : ∃ m, Try.prog.types.size + 1 = m + 2 := by
  have : 2 ≤ Try.prog.types.size := Nat.le_of_ble_eq_true (by kernel_rfl)
  exact ⟨Try.prog.types.size - 1, by omega⟩
theorem keyP_of (i : Int) (N : ByteArray) (hi : (Lit.int .i64 i).wf = true) (h : N.size ≤ maxLen) : keyOf Try.prog 114 (.agg (plC i N)) = some (keyP i N.data.toList) := by
  obtain ⟨m, hm⟩ := types_two
  have hl := keyLits_place m i N hi h
  have hk : Try.prog.keyType 114 = true := by kernel_rfl
  have hfm : Value.formed Try.prog 114 (.agg (plC i N)) = true := by
    simp only [Value.formed, place_under]
    rw [Try.cellsPl]
    rfl
  unfold keyOf
  rw [place_under]
  simp only []
  rw [hk, hfm, hm]
  simp only [Bool.and_self, if_true]
  have hc : (Value.agg (plC i N)).cells.toList = [.int .i64 i, .string N] := rfl
  rw [hc, hl]
  rfl
theorem keyP_lit (i : Int) (s : Bs) : WideAt.IsKeyLit (keyP i s) := by simp [keyP, WideAt.IsKeyLit]
set_option maxRecDepth 100000 in
theorem lawPl : Keyed Try.prog 114 := Keyed.of_law (deep_law_laid laidOutP (m := 5) (by decide) (Nat.le_of_ble_eq_true (by kernel_rfl)) (by kernel_rfl) (by kernel_rfl))
theorem keyP_inj {i j : Int} {s t : Bs} (hi : (Lit.int .i64 i).wf = true) (hj : (Lit.int .i64 j).wf = true) (hs : s.length ≤ maxLen) (ht : t.length ≤ maxLen) (h : keyP i s = keyP j t) : i = j ∧ s = t := by
  have h1 := keyP_of i ⟨s.toArray⟩ hi (by show s.toArray.size ≤ maxLen; simpa using hs)
  have h2 := keyP_of j ⟨t.toArray⟩ hj (by show t.toArray.size ≤ maxLen; simpa using ht)
  rw [show (ByteArray.mk s.toArray).data.toList = s by simp] at h1
  rw [show (ByteArray.mk t.toArray).data.toList = t by simp, ← h] at h2
  have h3 := lawPl.inj h1 h2
  simp only [plC, Value.agg.injEq, Array.mk.injEq, List.cons.injEq, Value.int.injEq, Value.string.injEq, true_and, and_true] at h3
  obtain ⟨h4, h5⟩ := h3
  exact ⟨h4, by simpa using h5⟩
set_option maxRecDepth 100000 in
theorem keyP_back {v : Value} {kl : Lit} (h : keyOf Try.prog 114 v = some kl) : ∃ (i : Int) (N : ByteArray), v = .agg (plC i N) ∧ (Lit.int .i64 i).wf = true ∧ N.size ≤ maxLen ∧ kl = keyP i N.data.toList := by
  obtain ⟨m, hm⟩ := types_two
  have h0 := h
  unfold keyOf at h
  rw [place_under] at h
  simp only [] at h
  split at h
  · next hc =>
    have hk : Try.prog.keyType 114 = true := by kernel_rfl
    rw [hk, Bool.true_and] at hc
    cases v with
    | agg cs =>
      simp only [Value.formed, place_under] at hc
      rw [Try.cellsPl] at hc
      have hsz : cs.size = 2 := by simpa using hc
      obtain ⟨a, b, rfl⟩ : ∃ a b, cs = #[a, b] := by
        obtain ⟨l⟩ := cs
        have hl : l.length = 2 := hsz
        obtain ⟨a, l, rfl⟩ := List.exists_cons_of_ne_nil (l := l) (by rintro rfl; cases hl)
        obtain ⟨b, l, rfl⟩ := List.exists_cons_of_ne_nil (l := l) (by rintro rfl; cases hl)
        obtain rfl : l = [] := List.eq_nil_of_length_eq_zero (by simp at hl; exact List.length_eq_zero_iff.2 hl)
        exact ⟨a, b, rfl⟩
      obtain ⟨f1, f2, hf, ha, hb⟩ := two_of_map place_fields
      simp only [Prod.mk.injEq] at ha hb
      obtain ⟨n1, t1, o1⟩ := ha
      obtain ⟨n2, t2, o2⟩ := hb
      have hall : (Try.prog.fieldsOf 114).all (·.name != "_") = true := by kernel_rfl
      rw [hm] at h
      have hcc : (Value.agg #[a, b]).cells.toList = [a, b] := rfl
      rw [hcc] at h
      unfold Program.keyLits at h
      rw [place_under] at h
      simp only [] at h
      rw [if_pos ⟨by rw [Try.cellsPl]; rfl, hall⟩, hf, List.mapM_cons, List.mapM_cons, List.mapM_nil, t1, t2, o1, o2, Try.cellsI9, Try.cellsS] at h
      simp only [List.drop_zero, List.take_succ_cons, List.take_zero, List.drop_succ_cons] at h
      have hi : ∃ i, a = .int .i64 i ∧ (Lit.int .i64 i).wf = true := by
        cases a with
        | int q n =>
          by_cases hq : q = .i64 ∧ (Lit.int .i64 n).wf = true
          · exact ⟨n, by rw [hq.1], hq.2⟩
          · simp [Program.keyLits, Try.underlying3, hq] at h
        | _ => simp [Program.keyLits, Try.underlying3] at h
      obtain ⟨i, rfl, hwi⟩ := hi
      have hN : ∃ N : ByteArray, b = .string N ∧ N.size ≤ maxLen := by
        cases b with
        | string N =>
          by_cases hq : N.size ≤ maxLen
          · exact ⟨N, rfl, hq⟩
          · simp [Program.keyLits, Try.underlying9, hq] at h
        | _ => simp [Program.keyLits, Try.underlying9] at h
      obtain ⟨N, rfl, hNs⟩ := hN
      refine ⟨i, N, rfl, hwi, hNs, ?_⟩
      have h2 := keyP_of i N hwi hNs
      rw [show Value.agg (plC i N) = .agg #[.int .i64 i, .string N] from rfl, h0] at h2
      exact Option.some.inj h2
    | _ => simp [Value.formed] at hc
  · cases h
theorem sameKey_keyP {i j : Int} {s t : Bs} (hi : (Lit.int .i64 i).wf = true) (hj : (Lit.int .i64 j).wf = true) (hs : s.length ≤ maxLen) (ht : t.length ≤ maxLen) : (keyP i s).sameKey (keyP j t) = decide (i = j ∧ s = t) := by
  by_cases h : i = j ∧ s = t
  · rw [h.1, h.2]
    simp [keyP, Lit.sameKey]
  · have : keyP i s ≠ keyP j t := fun e => h (keyP_inj hi hj hs ht e)
    rw [decide_eq_false h]
    simp only [keyP, Lit.sameKey] at this ⊢
    simpa using this
end Go.Proofs.Yteockhemeneioaa
namespace Go.Proofs.Yteockhemeneioaa
open Go.RowKit Go.ChangeShapes Go.WideShapes Go.Deep
set_option linter.unusedVariables false
def IntOk (n : Int) : Prop := -9223372036854775808 ≤ n ∧ n ≤ 9223372036854775807
structure DeedD where
  what : Int
  who : Int
  name : ByteArray
  p : PathX
  xv : Value
  V : List UInt8
structure DeedAt (F : Nat → Prop) (w : World) (b o : Nat) (d : DeedD) : Prop where
  what : w.cell? ⟨b, o, none⟩ = some (.int .i64 d.what)
  who : w.cell? ⟨b, o + 1, none⟩ = some (.int .i64 d.who)
  nm : w.cell? ⟨b, o + 2, none⟩ = some (.string d.name)
  pa : w.rangeAt b (o + 3) (cellsX d.p)
  cv : w.cell? ⟨b, o + 24, none⟩ = some d.xv
  bytes : BytesIn F w d.xv d.V
  in_ : F b
  wf : IntOk d.what ∧ IntOk d.who
  fit : d.name.size ≤ 140737488351232 ∧ d.p.n.size ≤ 140737488351232 ∧ d.V.length ≤ 140737488351232
theorem DeedAt.keep {F S : Nat → Prop} {w w' : World} {b o : Nat} {p : DeedD} (h : DeedAt F w b o p) (hf : Fr S w w') (hd : ∀ k, k < w.heap.size → F k → ¬ S k) : DeedAt F w' b o p := by
  have hb : ¬ S b := hd b (World.block_lt_of_cell? _ _ h.what) h.in_
  exact ⟨hf.cell h.what hb, hf.cell h.who hb, hf.cell h.nm hb, hf.range h.pa hb, hf.cell h.cv hb, h.bytes.keep hf hd, h.in_, h.wf, h.fit⟩
def DeedsIn (F : Nat → Prop) (w : World) (v : Value) (l : List DeedD) : Prop :=
  ∃ ao cap, v = .slice ao l.length cap ∧ l.length ≤ cap ∧ l.length ≤ 140737488351232 ∧
    (l ≠ [] → ∃ b off, ao = some ⟨b, off, none⟩ ∧ ∀ i (h : i < l.length), DeedAt F w b (off + i * 25) l[i])
theorem DeedsIn.keep {F S : Nat → Prop} {w w' : World} {v : Value} {l : List DeedD} (h : DeedsIn F w v l) (hf : Fr S w w') (hd : ∀ k, k < w.heap.size → F k → ¬ S k) : DeedsIn F w' v l := by
  obtain ⟨ao, cap, hv, h1, h2, h4⟩ := h
  refine ⟨ao, cap, hv, h1, h2, fun hl => ?_⟩
  obtain ⟨b, off, ha, hi⟩ := h4 hl
  exact ⟨b, off, ha, fun i h => (hi i h).keep hf hd⟩
section
variable {H : Type} {enc : TypeId × Value → H} {w : World} {base fuel : Nat} {held : Bool} {cs : List Value} {x : DataW H × List MemPlace}
theorem list5c {α : Type} {l : List α} (h : l.length = 5) : ∃ a b c d e, l = [a, b, c, d, e] := by
  match l, h with
  | [a, b, c, d, e], _ => exact ⟨a, b, c, d, e, rfl⟩
theorem Try.bytesDe : 1 ≤ Try.prog.bytesOf 46 := by decide +kernel
theorem Try.cellsDe : Try.prog.cellsOf 46 = 25 := by kernel_rfl
theorem Try.cellsI14 : Try.prog.cellsOf 3 = 1 := by kernel_rfl
theorem Try.cellsB14 : Try.prog.cellsOf 44 = 1 := by kernel_rfl
theorem Try.cellsT14 : Try.prog.cellsOf 9 = 1 := by kernel_rfl
theorem Try.cellsP14 : Try.prog.cellsOf 43 = 21 := by kernel_rfl
theorem open_deed {n : Nat} {y : DataW H × List MemPlace} {b o : Nat} (hF : b < w.heap.size) (hc : ∀ i, i < 25 → w.cell? ⟨b, o + i, none⟩ = cs[i]?) (h : DataW.trod enc Try.prog w base (fun _ => true) held n 46 cs = some y)
    (hz : ∀ n ∈ y.1.weights Try.prog 46, n ≤ reachBytes) :
    ∃ p : DeedD, DeedAt (fun k => k < w.heap.size) w b o p := by
  obtain ⟨xs, m, _, hy, hcl, hxl, hf⟩ := DataW.trod_struct Try.underlying46 h
  rw [Try.cellsDe] at hcl
  obtain ⟨y0, y1, y2, y3, y4, rfl⟩ := list5c (l := xs) hxl
  have e0 : DataW.trod enc Try.prog w base (fun _ => true) held m 3 ((cs.drop 0).take (Try.prog.cellsOf 3)) = some y0 := hf 0 _ rfl
  have e1 : DataW.trod enc Try.prog w base (fun _ => true) held m 3 ((cs.drop 1).take (Try.prog.cellsOf 3)) = some y1 := hf 1 _ rfl
  have e2 : DataW.trod enc Try.prog w base (fun _ => true) held m 9 ((cs.drop 2).take (Try.prog.cellsOf 9)) = some y2 := hf 2 _ rfl
  have e3 : DataW.trod enc Try.prog w base (fun _ => true) held m 43 ((cs.drop 3).take (Try.prog.cellsOf 43)) = some y3 := hf 3 _ rfl
  have e4 : DataW.trod enc Try.prog w base (fun _ => true) held m 44 ((cs.drop 24).take (Try.prog.cellsOf 44)) = some y4 := hf 4 _ rfl
  rw [Try.cellsI14] at e0 e1
  rw [Try.cellsT14] at e2
  rw [Try.cellsP14] at e3
  rw [Try.cellsB14] at e4
  have hwt : ∀ (j : Nat) (t : TypeId) (d : DataW H), ([3, 3, 9, 43, 44] : List TypeId)[j]? = some t → ([y0.1, y1.1, y2.1, y3.1, y4.1] : List (DataW H))[j]? = some d → ∀ k ∈ d.weights Try.prog t, k ≤ reachBytes := fun j t d ht hd k hk => hz k (by
    rw [hy]; simp only [DataW.weights, Try.underlying46]; exact DataW.weights_mem_each (j := j) (t := t) (d := d) ht hd k hk)
  obtain ⟨n0, r0, _, w0⟩ := DataW.trod_int Try.underlying3 e0
  obtain ⟨n1, r1, _, w1⟩ := DataW.trod_int Try.underlying3 e1
  obtain ⟨N, r2, v2, _⟩ := DataW.trod_string Try.underlying9 e2
  have hN : N.data.toList.length ≤ reachBytes := hwt 2 9 y2.1 rfl rfl _ (by rw [v2]; simp [DataW.weights])
  rw [size_list] at hN
  obtain ⟨X, r3, hX⟩ := open_path e3 (hwt 3 _ y3.1 rfl rfl)
  obtain ⟨vr, R, r4, hR, hRl⟩ := open_bytes e4 (hwt 4 _ y4.1 rfl rfl)
  have pick : ∀ (k : Nat) (hk : k < 25) (v : Value), (cs.drop k).take 1 = [v] → w.cell? ⟨b, o + k, none⟩ = some v := fun k hk v hv => by
    rw [hc k hk, List.getElem?_eq_getElem (by omega)]
    rw [List.drop_eq_getElem_cons (by omega)] at hv
    exact congrArg some (List.cons.inj hv).1
  refine ⟨⟨n0, n1, N, X, vr, R⟩, ⟨pick 0 (by decide) _ r0, pick 1 (by decide) _ r1, pick 2 (by decide) _ r2, fun j u hu => ?_, pick 24 (by decide) _ r4, hR, hF, ⟨bounds_i64 w0, bounds_i64 w1⟩, by unfold reachBytes at hN; exact ⟨hN, hX, hRl⟩⟩⟩
  have hj : j < 21 := by
    have := (List.getElem?_eq_some_iff.1 hu).1
    rwa [cellsX_length] at this
  rw [show o + 3 + j = o + (3 + j) by omega, hc (3 + j) (by omega)]
  have hu' : (cellsX X)[j]? = some u := hu
  rw [← r3, List.getElem?_take_of_lt hj, List.getElem?_drop] at hu'
  exact hu'
theorem open_deeds (h : DataW.trod enc Try.prog w base (fun _ => true) held fuel 23 cs = some x) (hz : ∀ n ∈ x.1.weights Try.prog 23, n ≤ reachBytes) :
    ∃ v l, cs = [v] ∧ DeedsIn (fun k => k < w.heap.size) w v l := by
  rcases open_slice Try.underlying23 h with ⟨rfl, _⟩ | ⟨a, len, cap, m, n, D, Pl, rfl, _, hl, hm, hmm, hx, hi⟩
  · exact ⟨_, [], rfl, none, 0, rfl, Nat.le_refl _, by simp, fun h => absurd rfl h⟩
  · simp only [if_true] at hmm
    subst hmm
    rw [Try.cellsDe] at hi
    have hw : ∀ k ∈ DataW.weightsAll Try.prog 46 ((List.range len).map D), k ≤ reachBytes := fun k hk => hz k (by
      rw [hx]; simp only [DataW.weights, Try.underlying23, List.mem_cons, List.mem_append]; exact .inr (.inl hk))
    have hm2 : m ≤ 140737488351232 := by
      have := hz ((len + (m - len)) * Try.prog.bytesOf 46) (by rw [hx]; simp [DataW.weights, Try.underlying23])
      have h1 := Try.bytesDe
      have h2 : (len + (m - len)) * 1 ≤ (len + (m - len)) * Try.prog.bytesOf 46 := Nat.mul_le_mul_left _ h1
      simp only [reachBytes] at this
      omega
    by_cases h0 : len = 0
    · subst h0
      exact ⟨_, [], rfl, some a, m, rfl, Nat.zero_le _, by simp, fun h => absurd rfl h⟩
    · obtain ⟨b, off, spot⟩ := a
      have hs : spot = none := by
        obtain ⟨cs', hc, ht⟩ := hi 0 (by omega)
        obtain ⟨_, hcl, hat⟩ := World.cells?_some hc
        have := hat 0 (by decide)
        rw [List.getElem?_eq_getElem (by omega)] at this
        simpa [Addr.add] using World.cell?_spot this
      subst hs
      have hone : ∀ i, ∃ p : DeedD, i < len → DeedAt (fun k => k < w.heap.size) w b (off + i * 25) p := by
        intro i
        by_cases hil : i < len
        · obtain ⟨cs', hc, ht⟩ := hi i (by omega)
          obtain ⟨_, hcl, hat⟩ := World.cells?_some hc
          have hat' : ∀ j, j < 25 → w.cell? ⟨b, off + i * 25 + j, none⟩ = cs'[j]? := fun j hj => by
            have := hat j hj
            rwa [addr_plain, addr_plain] at this
          have hb : b < w.heap.size := by
            have := hat' 0 (by decide)
            rw [List.getElem?_eq_getElem (by omega)] at this
            exact World.block_lt_of_cell? _ _ this
          obtain ⟨p, hp⟩ := open_deed hb hat' ht (fun k hk => hw k (mem_weightsAll (List.mem_map_of_mem (List.mem_range.2 hil)) k hk))
          exact ⟨p, fun _ => hp⟩
        · exact ⟨⟨0, 0, ⟨#[]⟩, default, .nilFunc, []⟩, fun h => absurd h hil⟩
      obtain ⟨f, hf⟩ := Classical.axiomOfChoice hone
      have hlen : ((List.range len).map f).length = len := by simp
      refine ⟨_, (List.range len).map f, rfl, some ⟨b, off, none⟩, m, by rw [hlen], by rw [hlen]; exact hl, by rw [hlen]; omega, fun _ => ⟨b, off, rfl, fun i hi => ?_⟩⟩
      have : i < len := by omega
      simpa using hf i this
end
end Go.Proofs.Yteockhemeneioaa
namespace Go.Proofs.Yteockhemeneioaa
open Go.RowKit
set_option linter.unusedVariables false
inductive WideF : Fence → Prop
  | out : WideF Fence.wide
  | round (l : Nat) : WideF (Fence.wide.inRound l)
theorem WideF.fn {F : Fence} (h : WideF F) (f : FuncId) : F.fn f := by cases h <;> trivial
theorem WideF.free {F : Fence} (h : WideF F) {p : Prop} (hd : F.depth.isSome = true) : p := by cases h <;> simp [Fence.wide, Fence.inRound] at hd
theorem WideF.calls {F : Fence} (h : WideF F) {n : Nat} {P : Program} {f : FuncId} {args : Array Value} {w : World} {R : Ending → World → Prop} (hc : Calls P f args w R) : CallsIn F n P f args w R := by
  cases h with
  | out => exact callsIn_wide.2 hc
  | round l => exact CallsIn.inRound l (callsIn_wide.2 hc)
section
variable {F : Fence} {n : Nat} {P : Program} {ops : Array Oper} {md : Region.Mode} {Q : Exit → Act → World → Prop}
theorem wpIn_value {o : Oper} {a : Act} {w w' : World} {K : Act → World → Prop} (hF : WideF F) (hd : ∀ c, o.op ≠ .defer c) (v : Value) (h : (execOp a.eval o).run P w = .ok (.value v) w') (hK : K (a.put o.dst v) w') : o.wpIn F n P a w K Q := by
  refine ⟨fun f _ => hF.fn f, ?_⟩
  rw [Oper.semAt_plain F _ _ hd, h]
  exact hK
theorem wpIn_skip {o : Oper} {a : Act} {w w' : World} {K : Act → World → Prop} (hF : WideF F) (hd : ∀ c, o.op ≠ .defer c) (h : (execOp a.eval o).run P w = .ok .skip w') (hK : K (a.put o.dst undef) w') : o.wpIn F n P a w K Q := by
  refine ⟨fun f _ => hF.fn f, ?_⟩
  rw [Oper.semAt_plain F _ _ hd, h]
  exact hK
theorem wpListIn_value {rest : List Oper} {o : Oper} {a : Act} {w : World} (hF : WideF F) (hg : o.guard = none) (hd : ∀ c, o.op ≠ .defer c) (v : Value) (w' : World) (h : (execOp a.eval o).run P w = .ok (.value v) w') (hK : wpListIn F n P ops Q rest (a.put o.dst v) w') : wpListIn F n P ops Q (o :: rest) a w :=
  wpListIn_plain hg fun _ hK' => wpIn_value hF hd v h (hK' _ _ hK)
theorem wpListIn_skip_ {rest : List Oper} {o : Oper} {a : Act} {w : World} (hF : WideF F) (hg : o.guard = none) (hd : ∀ c, o.op ≠ .defer c) (w' : World) (h : (execOp a.eval o).run P w = .ok .skip w') (hK : wpListIn F n P ops Q rest (a.put o.dst undef) w') : wpListIn F n P ops Q (o :: rest) a w :=
  wpListIn_plain hg fun _ hK' => wpIn_skip hF hd h (hK' _ _ hK)
theorem wpAnyIn_of_seq : ∀ (l : List Oper) (k : Nat) (listed : Array Bool) (a : Act) (w : World), (∀ j, l[j]? = ops[k + j]?) →
    Region.seqB md ops l.length k listed = true → wpListIn F n P ops Q l a w → wpAnyIn F n P md ops Q l.length listed a w
  | [], _, _, _, _, _, hB, h => ⟨by simpa [Region.seqB] using hB, h⟩
  | o :: l, k, listed, a, w, hl, hB, h => by
    have h0 : ops[k]? = some o := by simpa using (hl 0).symm
    simp only [List.length_cons, Region.seqB, Bool.and_eq_true, decide_eq_true_eq] at hB
    refine ⟨fun h1 => (by rw [hB.1] at h1; cases h1), fun i hi => ?_⟩
    rw [hB.1] at hi
    have hik : i = k := by simpa using hi
    subst hik
    have hw : wpOpIn F n P ops Q i (wpListIn F n P ops Q l) a w := by unfold wpOpIn; simp only [h0]; exact h
    exact wpOpIn_mono (fun a' w' h' => wpAnyIn_of_seq l (i + 1) _ a' w' (fun j => by have := hl (j + 1); simpa [Nat.add_assoc, Nat.add_comm 1 j] using this) hB.2 h') hw
end
end Go.Proofs.Yteockhemeneioaa
namespace Go.Proofs.Yteockhemeneioaa
open Go.RowKit Go.ChangeShapes
set_option linter.unusedVariables false
theorem run_bytes_str {F : Nat → Prop} (w : World) (v : Value) (L : List UInt8) (h : BytesIn F w v L) : (convert 44 9 v).run Try.prog w = .ok (.string ⟨L.toArray⟩) w := by
  obtain ⟨ao, cap, rfl, h1, h2, h3, h4⟩ := h
  cases ao with
  | none =>
    obtain rfl := h3 rfl
    obtain rfl : L = [] := List.eq_nil_of_length_eq_zero (by omega)
    exact Lib.run_convert_nil_bytes w 44 9 5 0 Try.underlying44 Try.underlying5 Try.underlying9
  | some a =>
    refine run_convert_bytes_back w 44 9 5 a cap L Try.underlying44 Try.underlying5 Try.underlying9 (fun j hj => ?_)
    exact (h4 a rfl).1 j _ (by rw [List.getElem?_map, List.getElem?_eq_getElem hj]; rfl)
end Go.Proofs.Yteockhemeneioaa
namespace Go.Proofs.Yteockhemeneioaa
open Go.RowKit Go.ChangeShapes
set_option linter.unusedVariables false
theorem iterAt_grown (w : World) (k : Nat) (s : ByteArray) (pos : Nat) : w.grownBy (w.iterAt k s pos) (some k) :=
  ⟨rfl, rfl, rfl, by rw [Lib.iterAt_size]; exact Nat.le_refl _, fun i _ hi => Lib.iterAt_other w k i s pos (by intro e; exact hi (by rw [e]))⟩
theorem Fr.iterAt {S : Nat → Prop} {a w : World} (h : Fr S a w) {k : Nat} (hk : S k ∨ a.heap.size ≤ k) (s : ByteArray) (pos : Nat) : Fr S a (w.iterAt k s pos) :=
  h.grown (iterAt_grown w k s pos) (fun i hi => by cases hi; exact hk)
end Go.Proofs.Yteockhemeneioaa
