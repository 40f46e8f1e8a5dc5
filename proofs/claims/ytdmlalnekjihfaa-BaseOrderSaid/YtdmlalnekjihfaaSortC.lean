/- slices.SortFunc at paths, by base.order: by the shelf's contract. -/
import Derived.Test.YtdmlalnekjihfaaOwnP
import Derived.Test.YtdmlalnekjihfaaSortL
import Derived.Test.YtdmlalnekjihfaaShelf
namespace Go.Proofs.Ytdmlalnekjihfaa
open Go.RowKit Go.ChangeShapes Go.Sort
set_option linter.unusedVariables false

def lessX (x y : PathX) : Bool := lessP x.h x.n y.h y.n
def ordX (x y : PathX) : Int := ordP x.h x.n y.h y.n
theorem lessX_strict : Strict lessX := by
  refine ⟨fun a => lessV_strict.irr (a.h, a.n), fun a b c h1 h2 => lessV_strict.trans (a.h, a.n) (b.h, b.n) (c.h, c.n) h1 h2, fun a b h1 h2 => ?_⟩
  have h := lessV_strict.tri (a.h, a.n) (b.h, b.n) h1 h2
  simp only [Prod.mk.injEq] at h
  exact PathX.ext h.1 h.2
theorem lt_ordX (x y : PathX) : ltOf ordX x y = lessX x y := ord_less x.h x.n y.h y.n
theorem swo_ordX : SWO (ltOf ordX) := by
  refine ⟨fun x => ?_, fun x y z h1 h2 => ?_, fun x y z h1 h2 => ?_⟩
  · rw [lt_ordX]; exact lessX_strict.irr x
  · rw [lt_ordX] at *; exact lessX_strict.trans x y z h1 h2
  · rw [lt_ordX] at *
    cases h : lessX x z with
    | false => rfl
    | true =>
      cases h3 : lessX y x with
      | true => rw [lessX_strict.trans y x z h3 h] at h2; cases h2
      | false =>
        have e := lessX_strict.tri x y h1 h3
        rw [← e, h] at h2
        cases h2
/-- A row without doubles, no one below one ahead of it: it rises. -/
theorem asc_of_sorted (M : List PathX) (hn : M.Nodup) (hs : ∀ i j (hij : i < j) (hj : j < M.length), lessX M[j] M[i] = false) : Asc lessX M := by
  rw [Asc, List.pairwise_iff_getElem]
  intro i j hi hj hij
  cases h : lessX M[i] M[j] with
  | true => rfl
  | false =>
    have e := lessX_strict.tri _ _ h (hs i j hij hj)
    exact absurd e (List.pairwise_iff_getElem.1 hn i j hi hj hij)

theorem holdsX (w : World) (g : Nat) (cur : Array Value) (T : TypeId) (O : List PathX) (hg : w.heap[g]? = some (.cells cur T (0, 0))) (h : cur.toList.take (O.length * 21) = flatX O) : HoldsK cellsX 21 w g 0 O.toArray := by
  intro t ht
  rw [size_flatK, List.size_toArray] at ht
  refine ⟨?_, frozen_of_row _ _ _ _ _ hg⟩
  have hi : t / 21 < O.length := by omega
  rw [cell_of_row _ _ _ _ _ _ hg, Nat.zero_add, get_flatK _ _ _ t (by rw [List.size_toArray]; exact ht)]
  have e : O.toArray[t / 21]! = O[t / 21] := by simp [hi]
  rw [e]
  refine take_cell h t _ ?_
  have h1 := flatX_get O (t / 21) (t % 21) hi (by omega)
  rw [show t / 21 * 21 + t % 21 = t by omega] at h1
  have hlt : t % 21 < (cellsX O[t / 21]).length := by rw [cellsX_length]; omega
  rw [h1, List.getElem?_eq_getElem hlt]
  simp [hlt]
theorem paths_of_holds (F : Nat → Prop) (w : World) (g cap : Nat) (M : List PathX) (hF : F g) (hl : M.length ≤ cap) (hm : cap ≤ maxLen) (h : HoldsK cellsX 21 w g 0 M.toArray) : PathsIn F w (.slice (some ⟨g, 0, none⟩) M.length cap) M := by
  refine ⟨_, cap, rfl, hl, hm, (fun h => by cases h), fun _ => ⟨g, 0, rfl, hF, fun i hi j u hu => ?_⟩⟩
  obtain ⟨hj, rfl⟩ := List.getElem?_eq_some_iff.1 hu
  have hj21 : j < 21 := by rwa [cellsX_length] at hj
  have h1 := (h.cell (i := i) (c := j) (by simpa using hi) hj21).1
  rw [Nat.zero_add] at h1 ⊢
  rw [h1]
  simp [hi, hj]
theorem fr_sorted (w : World) (g m : Nat) (M : Array PathX) (os : Array Obj) : Fr (fun i => i = g) w (sortWorldK cellsX 21 w g 0 m M os) := by
  refine ⟨rfl, rfl, rfl, size_sortWorldK_c cellsX 21 w g 0 m M os, fun i hi hs => ?_⟩
  have hi' : i < (putRowK cellsX 21 (Sort.ahead w m) g 0 M).heap.size := by rw [size_putRowK]; exact hi
  show (grow (putRowK cellsX 21 (Sort.ahead w m) g 0 M) os).heap[i]? = _
  rw [heap_grow_old _ _ hi']
  show ((Sort.ahead w m).heap.modify g _)[i]? = _
  rw [Array.getElem?_modify, if_neg (fun e => hs e.symm)]
  rfl

theorem order_enters (args : Array Value) (w : World) : (callFunc 33 args).run Try.prog w = .ok (.enter 33 args) w := enters_of Try.func33 (by kernel_rfl) rfl args w
theorem sort_any {F : Nat → Prop} (w : World) (v : Value) (O : List PathX) (h : OwnP F w v O) (hn : O.Nodup) (hlen : O.length ≤ 1000000) :
    Calls Try.prog 32 #[v, .func (.func 33) #[] #[]] w fun e w' => e = .returned (.tuple #[]) ∧ ∃ M, PathsIn F w' v M ∧ Asc lessX M ∧ (∀ x, x ∈ M ↔ x ∈ O) ∧ Fr (fun k => v.ownBlock = some k) w w' := by
  rcases h.row with ⟨rfl, rfl⟩ | ⟨g, cap, cur, rfl, hF, hg, hb, h1, h2, h3⟩
  · have hc := AnyF.slices_SortFunc_none Try.sortP none 0 (.func (.func 33) #[] #[]) w
    change Calls Try.prog 32 _ _ _ at hc
    refine hc.mono ?_
    rintro e w' ⟨rfl, rfl⟩
    exact ⟨rfl, [], PathsIn.nil _ _, List.Pairwise.nil, fun x => Iff.rfl, Fr.refl _ _⟩
  · have hH := holdsX w g cur _ O hb h3
    have hc := AnyQ.slices_SortFunc Try.sortP 21 Try.isAgg25 Try.sizeOf25 cellsX cellsX_length cellsX_one ordX swo_ordX 33 #[] g 0 cap O.toArray w order_enters
      (fun m os dk hs x y => order_any x.h x.n y.h y.n x.hl y.hl _) hH hg (by rw [List.size_toArray]; omega)
    change Calls Try.prog 32 _ _ _ at hc
    rw [List.size_toArray] at hc
    refine hc.mono ?_
    rintro e w' ⟨rfl, d', n, os, hp, hs, rfl⟩
    obtain ⟨hps, _, hpp⟩ := hp
    have hd : d'.toList.Perm O := by
      have e1 : (d'.extract 0 O.length).toList = d'.toList := by
        have : d'.size = O.length := by rw [hps, List.size_toArray]
        rw [← this, Array.extract_size]
      have e2 : (O.toArray.extract 0 O.length).toList = O := by
        have : O.toArray.size = O.length := List.size_toArray
        rw [← this, Array.extract_size]
      rwa [e1, e2] at hpp
    have hlM : d'.toList.length = O.length := hd.length_eq
    have hH' := holdsK_sortWorldK_c cellsX 21 w g 0 O.toArray d' n os hH hg (by rw [hps])
    refine ⟨rfl, d'.toList, ?_, asc_of_sorted _ (hd.nodup_iff.2 hn) (fun i j hij hj => ?_), fun x => hd.mem_iff, (fr_sorted w g n d' os).mono (fun i _ e => by rw [e]; rfl)⟩
    · rw [← hlM]
      exact paths_of_holds F _ g cap d'.toList hF (by omega) h2 (by simpa using hH')
    · have h := hs i j (Nat.zero_le _) hij (by omega)
      rw [lt_ordX] at h
      have ej : d'[j]! = d'.toList[j] := by
        have : j < d'.size := by simpa using hj
        simp [this]
      have ei : d'[i]! = d'.toList[i]'(by omega) := by
        have : i < d'.size := by have : j < d'.size := by simpa using hj
                                 omega
        simp [this]
      rwa [ej, ei] at h
end Go.Proofs.Ytdmlalnekjihfaa
