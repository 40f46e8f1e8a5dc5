/- Laid together: VLp -/
import Derived.Test.YteockhemeneioaaVl17

namespace Go.Proofs.Yteockhemeneioaa
open Go.RowKit Go.ChangeShapes
set_option linter.unusedVariables false
def namesV {α : Type} (M : VT α) : List ByteArray := M.map (fun p => (⟨p.1.toArray⟩ : ByteArray))
theorem own_names {z : Nat} {w : World} {v : Value} {M : VT PathX} (h : OwnE 66 22 z w v (M.map rtC)) : NamesAt 22 w v (namesV M) :=
  names_of h.elems (by decide) (by simp [namesV]) (fun i h1 h2 => by
    rw [List.getElem_map]
    simp only [namesV, List.getElem_map]
    rfl)
theorem row_names {F : Nat → Prop} {z : Nat} {w : World} {v : Value} {l : List RowD} (h : OwnR F z w v l) : NamesAt 2 w v (l.map (·.key)) :=
  names_of h.own.elems (by decide) (by simp) (fun i h1 h2 => by
    rw [List.getElem_map, List.getElem_map]
    rfl)
theorem keys_names {l : List RowD} {M : VT Bs} (h : l.map RowD.row = M) : l.map (·.key) = namesV M := by
  subst h
  unfold namesV
  rw [List.map_map]
  refine List.map_congr_left (fun p _ => ?_)
  obtain ⟨⟨⟨k⟩⟩, x, B⟩ := p
  rfl
theorem findB_mem : ∀ (l : List ByteArray) (N : ByteArray), 0 ≤ findB l N ↔ N ∈ l
  | [], N => by simp [findB]
  | x :: l, N => by
    have ih := findB_mem l N
    unfold findB
    by_cases h : x = N
    · simp [h]
    · rw [if_neg h]
      by_cases h2 : findB l N < 0
      · rw [if_pos h2]
        constructor
        · intro h3; omega
        · intro h3
          rcases List.mem_cons.1 h3 with e | e
          · exact absurd e.symm h
          · have := ih.2 e; omega
      · rw [if_neg h2]
        constructor
        · intro _; exact List.mem_cons_of_mem _ (ih.1 (by omega))
        · intro _; omega
theorem findB_get : ∀ (l : List ByteArray) (N : ByteArray), 0 ≤ findB l N → ∃ i, findB l N = ((i : Nat) : Int) ∧ ∃ h : i < l.length, l[i] = N
  | [], N, h => by simp [findB] at h
  | x :: l, N, h => by
    by_cases h1 : x = N
    · exact ⟨0, by simp [findB, h1], by simp, h1⟩
    · by_cases h2 : findB l N < 0
      · unfold findB at h
        rw [if_neg h1, if_pos h2] at h
        omega
      · obtain ⟨i, e, hi, hg⟩ := findB_get l N (by omega)
        refine ⟨i + 1, ?_, by simpa using hi, hg⟩
        unfold findB
        rw [if_neg h1, if_neg h2, e]
        rfl
theorem mem_namesV {α : Type} {M : VT α} {N : ByteArray} : N ∈ namesV M ↔ (vGet M N.data.toList).isSome = true := by
  cases hg : vGet M N.data.toList with
  | none =>
    simp only [Option.isSome_none, Bool.false_eq_true, iff_false]
    intro hm
    obtain ⟨p, hp, e⟩ := List.mem_map.1 hm
    refine vGet_none.1 hg p hp ?_
    rw [← e]
  | some x =>
    simp only [Option.isSome_some, iff_true]
    exact List.mem_map.2 ⟨_, vGet_mem hg, by obtain ⟨⟨k⟩⟩ := N; rfl⟩
theorem find_iff {α : Type} {M : VT α} {N : ByteArray} : 0 ≤ findB (namesV M) N ↔ (vGet M N.data.toList).isSome = true := (findB_mem _ _).trans mem_namesV
theorem bl_lt : ∀ {a b : List UInt8}, a < b → Op.bytesLess a b = true
  | _, [], h => absurd h (List.not_lt_nil _)
  | [], _ :: _, _ => by simp [Op.bytesLess]
  | a :: x, b :: y, h => by
    rcases List.cons_lt_cons_iff.1 h with h1 | ⟨rfl, h2⟩
    · simp [Op.bytesLess, h1]
    · simp [Op.bytesLess, bl_lt h2]
theorem names_rise {α : Type} {M : VT α} (hM : VOk M) {j k : Nat} {x y : ByteArray} (hx : (namesV M)[j]? = some x) (hy : (namesV M)[k]? = some y) (hjk : j < k) : Op.bytesLess x.toList y.toList = true := by
  obtain ⟨hj, rfl⟩ := List.getElem?_eq_some_iff.1 hx
  obtain ⟨hk, rfl⟩ := List.getElem?_eq_some_iff.1 hy
  have hj' : j < M.length := by simpa [namesV] using hj
  have hk' : k < M.length := by simpa [namesV] using hk
  have h := List.pairwise_iff_getElem.1 hM j k hj' hk' hjk
  rw [Go.ByteArray.toList_eq, Go.ByteArray.toList_eq]
  simp only [namesV, List.getElem_map]
  exact bl_lt h
theorem find_no {α : Type} {M : VT α} {N : ByteArray} (h : vGet M N.data.toList = none) : findB (namesV M) N < 0 := by
  by_cases h0 : 0 ≤ findB (namesV M) N
  · have := find_iff.1 h0
    rw [h] at this
    cases this
  · omega
theorem un2 {s : VS} {e : DeedD} (hu : isUser s 1) (hm : e.what % 6 = 2) (he : e.who = 1) :
    (doE s e = 0 ∧ 0 ≤ findB (namesV (s.R 1)) e.name ∨ doE s e = 5 ∧ findB (namesV (s.R 1)) e.name < 0) ∧ findB (namesV ((doS s e).R 1)) e.name < 0 ∧ (doS s e).N = s.N := by
  have hE : doE s e = unrootE s 1 e.name.data.toList := by unfold doE; rw [if_pos hm, he]
  have hS : doS s e = unrootS s 1 e.name.data.toList := by unfold doS; rw [if_pos hm, he]
  rw [hE, hS]
  cases hg : vGet (s.R 1) e.name.data.toList with
  | none =>
    have h5 : unrootE s 1 e.name.data.toList = 5 := by unfold unrootE; rw [if_pos hu, hg]; rfl
    have h6 : unrootS s 1 e.name.data.toList = s := by unfold unrootS; rw [h5, if_neg (by decide)]
    rw [h6]
    exact ⟨.inr ⟨h5, find_no hg⟩, find_no hg, rfl⟩
  | some x =>
    have h5 : unrootE s 1 e.name.data.toList = 0 := by unfold unrootE; rw [if_pos hu, hg]; rfl
    have h6 : unrootS s 1 e.name.data.toList = s.setR 1 (vDel (s.R 1) e.name.data.toList) := by unfold unrootS; rw [h5, if_pos rfl]
    rw [h6]
    refine ⟨.inl ⟨h5, find_iff.2 (by rw [hg]; rfl)⟩, find_no ?_, rfl⟩
    show vGet (upd s.R 1 _ 1) _ = none
    rw [upd_same]
    exact vGet_del_same _ _
theorem un5 {s : VS} {e : DeedD} (hu : isUser s 1) (hm : e.what % 6 = 5) (he : e.who = 1) :
    (doE s e = 0 ∧ 0 ≤ findB (namesV (s.N 1)) e.name ∨ doE s e = 5 ∧ findB (namesV (s.N 1)) e.name < 0) ∧ findB (namesV ((doS s e).N 1)) e.name < 0 ∧ (doS s e).R = s.R := by
  have hE : doE s e = unnoteE s 1 e.name.data.toList := by unfold doE; rw [if_neg (by omega), if_neg (by omega), if_pos hm, he]
  have hS : doS s e = unnoteS s 1 e.name.data.toList := by unfold doS; rw [if_neg (by omega), if_neg (by omega), if_pos hm, he]
  rw [hE, hS]
  cases hg : vGet (s.N 1) e.name.data.toList with
  | none =>
    have h5 : unnoteE s 1 e.name.data.toList = 5 := by unfold unnoteE; rw [if_pos hu, hg]; rfl
    have h6 : unnoteS s 1 e.name.data.toList = s := by unfold unnoteS; rw [h5, if_neg (by decide)]
    rw [h6]
    exact ⟨.inr ⟨h5, find_no hg⟩, find_no hg, rfl⟩
  | some x =>
    have h5 : unnoteE s 1 e.name.data.toList = 0 := by unfold unnoteE; rw [if_pos hu, hg]; rfl
    have h6 : unnoteS s 1 e.name.data.toList = s.setN 1 (vDel (s.N 1) e.name.data.toList) := by unfold unnoteS; rw [h5, if_pos rfl]
    rw [h6]
    refine ⟨.inl ⟨h5, find_iff.2 (by rw [hg]; rfl)⟩, find_no ?_, rfl⟩
    show vGet (upd s.N 1 _ 1) _ = none
    rw [upd_same]
    exact vGet_del_same _ _
theorem un3 {s : VS} {e : DeedD} (hm : e.what % 6 = 3 ∨ e.what % 6 = 4) (he : e.who = 1) :
    (doE s e = 0 ∧ vGet ((doS s e).N 1) e.name.data.toList = some e.V ∨ doE s e ≠ 0 ∧ doS s e = s) ∧ (doS s e).R = s.R := by
  have hE : doE s e = noteE s 1 e.name.data.toList e.V := by unfold doE; rw [if_neg (by omega), if_pos hm, he]
  have hS : doS s e = noteS s 1 e.name.data.toList e.V := by unfold doS; rw [if_neg (by omega), if_pos hm, he]
  rw [hE, hS]
  by_cases h : noteE s 1 e.name.data.toList e.V = 0
  · have h6 : noteS s 1 e.name.data.toList e.V = s.setN 1 (vPut (s.N 1) e.name.data.toList e.V) := by unfold noteS; rw [if_pos h]
    rw [h6]
    refine ⟨.inl ⟨h, ?_⟩, rfl⟩
    show vGet (upd s.N 1 _ 1) _ = _
    rw [upd_same]
    exact vGet_put_same _ _ _
  · have h6 : noteS s 1 e.name.data.toList e.V = s := by unfold noteS; rw [if_neg h]
    rw [h6]
    exact ⟨.inr ⟨h, rfl⟩, rfl⟩
theorem un0 {s : VS} {e : DeedD} (hm : ¬ e.what % 6 = 2) (hm3 : ¬ (e.what % 6 = 3 ∨ e.what % 6 = 4)) (hm5 : ¬ e.what % 6 = 5) (he : e.who = 1) :
    (doE s e = 0 ∧ vGet ((doS s e).R 1) e.name.data.toList = some e.p ∨ doE s e ≠ 0 ∧ doS s e = s) ∧ (doS s e).N = s.N := by
  have hE : doE s e = rootE s 1 e.name.data.toList e.p := by unfold doE; rw [if_neg hm, if_neg hm3, if_neg hm5, he]
  have hS : doS s e = rootS s 1 e.name.data.toList e.p := by unfold doS; rw [if_neg hm, if_neg hm3, if_neg hm5, he]
  rw [hE, hS]
  by_cases h : rootE s 1 e.name.data.toList e.p = 0
  · have h6 : rootS s 1 e.name.data.toList e.p = s.setR 1 (vPut (s.R 1) e.name.data.toList e.p) := by unfold rootS; rw [if_pos h]
    rw [h6]
    refine ⟨.inl ⟨h, ?_⟩, rfl⟩
    show vGet (upd s.R 1 _ 1) _ = _
    rw [upd_same]
    exact vGet_put_same _ _ _
  · have h6 : rootS s 1 e.name.data.toList e.p = s := by unfold rootS; rw [if_neg h]
    rw [h6]
    exact ⟨.inr ⟨h, rfl⟩, rfl⟩
theorem idxRt8 (W : World) (b f n c i : Nat) (h : i < n) : (Instr.indexAt 58 (.slice (some ⟨b, f, none⟩) n c) (.int .i64 i)).run Try.prog W = .ok (.pointer (some ⟨b, f + i * 22, none⟩)) W := by
  simp [Instr.indexAt, h, Addr.add, asIntOf]
theorem root_at {z : Nat} {w : World} {a : Option Addr} {n c : Nat} {M : VT PathX} (h : OwnE 66 22 z w (.slice a n c) (M.map rtC)) {k : Nat} {x : PathX} (hk : k < M.length) (hx : M[k].2 = x) : ∃ b f, a = some ⟨b, f, none⟩ ∧ w.rangeAt b (f + k * 22 + 1) (cellsX x) := by
  obtain ⟨ao, cap, hv, h1, h2, h3, h4⟩ := h.elems
  obtain ⟨b, f, ha, _, hi⟩ := h4 (by
    intro e
    rw [List.map_eq_nil_iff] at e
    rw [e] at hk
    cases hk)
  injection hv with e1 e2 e3
  refine ⟨b, f, e1.trans ha, fun j u hu => ?_⟩
  have hj : j < 21 := by
    have := (List.getElem?_eq_some_iff.1 hu).1
    rwa [cellsX_length] at this
  have := hi k (by rw [List.length_map]; exact hk) (j + 1) (by omega)
  rw [List.getElem_map, rtC, List.getElem?_cons_succ, hx] at this
  rw [show f + k * 22 + 1 + j = f + k * 22 + (j + 1) by omega, this]
  exact hu
theorem root_path {W : World} {b o : Nat} {x : PathX} (h : W.rangeAt b o (cellsX x)) : (Instr.loadAt 43 (.pointer (some ⟨b, o, none⟩))).run Try.prog W = .ok (.agg (pathC x.h x.n)) W :=
  run_loadAt_mid W b o 43 (cellsX x) _ h Try.underlying43 rfl (by rw [cellsX_length]; kernel_rfl)
theorem find_val {α : Type} {M : VT α} (hM : VOk M) {N : ByteArray} {x : α} (h : vGet M N.data.toList = some x) : ∃ k : Nat, findB (namesV M) N = (k : Int) ∧ ∃ h : k < M.length, M[k].2 = x := by
  obtain ⟨k, e, hk, hn⟩ := findB_get _ _ (find_iff.2 (by rw [h]; rfl))
  have hk' : k < M.length := by simpa [namesV] using hk
  refine ⟨k, e, hk', ?_⟩
  have h1 := vGet_of_mem hM (List.getElem_mem hk')
  have h2 : M[k].1 = N.data.toList := by
    simp only [namesV, List.getElem_map] at hn
    rw [← hn]
  rw [h2, h] at h1
  exact (Option.some.inj h1).symm
theorem doS_Q (s : VS) (d : DeedD) : (doS s d).Q = s.Q := by
  unfold doS unrootS noteS unnoteS rootS
  repeat' split
  all_goals rfl
end Go.Proofs.Yteockhemeneioaa
