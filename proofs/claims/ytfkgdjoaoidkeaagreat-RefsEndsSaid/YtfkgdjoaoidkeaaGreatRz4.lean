/- Laid together: PathEq RLess BVals BOrder HashL RParse BParse RunB OpenArr PathX OwnP -/
import Derived.Test.YtfkgdjoaoidkeaaGreatRz3
import Derived.Test.YtfkgdjoaoidkeaaGreatRz1
import Derived.Laws.StructEq
import Derived.Maps.OwnSet
import Derived.DeepKeys4
import Derived.Lib.OthersKept
import Derived.Laws.RangeAny
import Derived.Deep.LoopGhost
import Derived.Test.YtfkgdjoaoidkeaaGreatRz0
import Derived.Lib.TrimU
import Derived.Test.YtfkgdjoaoidkeaaGreatShelf
import Derived.Test.YtfkgdjoaoidkeaaGreatShelfS
import Derived.Lib.BytesEntry
import Derived.Laws.Externs
import Derived.StillTailTactics
import Derived.Deep.MidRow
import Derived.ProofKit
import Derived.OpenShut
import Derived.SizedLaws
import Derived.Deep.Slices
import Derived.Carry
import Derived.Laws.Tables

namespace Go.Proofs.YtfkgdjoaoidkeaaGreat
open Go.RowKit Go.ChangeShapes Go.WideMaps Go.Maps
set_option linter.unusedVariables false
def sameP (H1 : List UInt8) (N1 : ByteArray) (H2 : List UInt8) (N2 : ByteArray) : Bool := decide (H1 = H2 ∧ N1 = N2)
theorem sameP_refl (H : List UInt8) (N : ByteArray) : sameP H N H N = true := by simp [sameP]
theorem path_fields : (Tryz.prog.fieldsOf 27).toList.map (fun f => (f.name, f.type, f.offset)) = [("Hash", 24, 0), ("Name", 9, 20)] := by kernel_rfl
theorem path_part_hash (w : World) (H : List UInt8) (N : ByteArray) (h : H.length = 20) : (part 24 (pathC H N) 0).run Tryz.prog w = .ok (.agg (H.map bv).toArray) w := by
  simp only [part, Sem.run_bind, Tryz.isAgg24, Tryz.sizeOf24, Result.andThen_ok, if_true, Sem.run_pure]
  congr 2
  apply Array.ext'
  simp only [pathC, Array.toList_extract, List.extract_eq_take_drop, List.drop_zero, Nat.zero_add, Nat.sub_zero]
  rw [List.take_append_of_le_length (by simp [h]), List.take_of_length_le (by simp [h])]
theorem path_part_name (w : World) (H : List UInt8) (N : ByteArray) (h : H.length = 20) : (part 9 (pathC H N) 20).run Tryz.prog w = .ok (.string N) w := by
  have e := pathC_name H h N
  simp [part, Tryz.isAgg9, e]
theorem eqFields_cons {P : Program} (w : World) (d : Nat) (xs ys : Array Value) (f : Field) (fs : List Field) (hn : f.name ≠ "_") (a b : Value) (r : Bool) (h1 : (part f.type xs f.offset).run P w = .ok a w) (h2 : (part f.type ys f.offset).run P w = .ok b w)
    (h3 : (Op.equalIn d f.type a b).run P w = .ok r w) : (Op.eqFields d xs ys (f :: fs)).run P w = if r = true then (Op.eqFields d xs ys fs).run P w else .ok false w := by
  rw [Op.eqFields, if_pos hn]
  simp only [Sem.run_bind, h1, h2, h3, Result.andThen_ok]
  cases r
  · simp
  · simp
theorem two_of_map {α β : Type} {g : α → β} {l : List α} {x y : β} (h : l.map g = [x, y]) : ∃ a b, l = [a, b] ∧ g a = x ∧ g b = y := by
  have hl := congrArg List.length h
  rw [List.length_map] at hl
  match l, hl with
  | [a, b], _ =>
    simp only [List.map_cons, List.map_nil, List.cons.injEq, and_true] at h
    exact ⟨a, b, rfl, h.1, h.2⟩
theorem run_equalIn_pathD (d : Nat) (w : World) (H1 : List UInt8) (N1 : ByteArray) (H2 : List UInt8) (N2 : ByteArray) (h1 : H1.length = 20) (h2 : H2.length = 20) :
    (Op.equalIn (d + 3) 27 (.agg (pathC H1 N1)) (.agg (pathC H2 N2))).run Tryz.prog w = .ok (sameP H1 N1 H2 N2) w := by
  rw [run_equalIn_struct w (d + 2) 27 _ _ (by kernel_rfl) (by kernel_rfl)]
  obtain ⟨f1, f2, hf, a, b⟩ := two_of_map path_fields
  simp only [Prod.mk.injEq] at a b
  obtain ⟨n1, t1, o1⟩ := a
  obtain ⟨n2, t2, o2⟩ := b
  have n1 : f1.name ≠ "_" := by rw [n1]; decide
  have n2 : f2.name ≠ "_" := by rw [n2]; decide
  rw [hf]
  have e1 := run_equalIn_bytes (P := Tryz.prog) w d 24 5 20 Tryz.underlying24 Tryz.underlying5 (fun w => by kernel_rfl) H1 H2 h1 h2
  have e1 : (Op.equalIn (d + 2) 24 (.agg (H1.map bv).toArray) (.agg (H2.map bv).toArray)).run Tryz.prog w = .ok (H1 == H2) w := e1
  have e2 := run_equalIn_string (P := Tryz.prog) w (d + 1) 9 N1 N2 Tryz.underlying9
  rw [eqFields_cons w (d + 2) _ _ f1 [f2] n1 (.agg (H1.map bv).toArray) (.agg (H2.map bv).toArray) (H1 == H2) (by rw [t1, o1]; exact path_part_hash w _ _ h1) (by rw [t1, o1]; exact path_part_hash w _ _ h2) (by rw [t1]; exact e1),
    eqFields_cons w (d + 2) _ _ f2 [] n2 (.string N1) (.string N2) (N1.toList == N2.toList) (by rw [t2, o2]; exact path_part_name w _ _ h1) (by rw [t2, o2]; exact path_part_name w _ _ h2) (by rw [t2]; exact e2)]
  have hr : sameP H1 N1 H2 N2 = ((H1 == H2) && (N1.toList == N2.toList)) := by
    rw [Bool.eq_iff_iff, Bool.and_eq_true, beq_iff_eq, beq_iff_eq, sameP, decide_eq_true_iff]
    refine ⟨fun ⟨a, b⟩ => ⟨a, by rw [b]⟩, fun ⟨a, b⟩ => ⟨a, ?_⟩⟩
    rw [Go.ByteArray.toList_eq, Go.ByteArray.toList_eq] at b
    exact ByteArray.ext (Array.toList_inj.1 b)
  rw [hr]
  have hnil : (Op.eqFields (d + 2) (pathC H1 N1) (pathC H2 N2) []).run Tryz.prog w = .ok true w := rfl
  rw [hnil]
  cases (H1 == H2)
  · rfl
  · cases (N1.toList == N2.toList)
    · rfl
    · rfl
theorem run_equalIn_path (w : World) (H1 : List UInt8) (N1 : ByteArray) (H2 : List UInt8) (N2 : ByteArray) (h1 : H1.length = 20) (h2 : H2.length = 20) :
    (Op.equalIn 10000 27 (.agg (pathC H1 N1)) (.agg (pathC H2 N2))).run Tryz.prog w = .ok (sameP H1 N1 H2 N2) w := by
  rw [show Op.equalIn 10000 = Op.equalIn (9997 + 3) from rfl]
  exact run_equalIn_pathD 9997 w H1 N1 H2 N2 h1 h2
theorem run_eql_path (w : World) (H1 : List UInt8) (N1 : ByteArray) (H2 : List UInt8) (N2 : ByteArray) (h1 : H1.length = 20) (h2 : H2.length = 20) :
    (binOp .eql 27 (.agg (pathC H1 N1)) (.agg (pathC H2 N2))).run Tryz.prog w = .ok (.bool (sameP H1 N1 H2 N2)) w := by
  rw [run_eql_struct, run_equalIn_path w H1 N1 H2 N2 h1 h2]
  rfl
theorem run_neq_path (w : World) (H1 : List UInt8) (N1 : ByteArray) (H2 : List UInt8) (N2 : ByteArray) (h1 : H1.length = 20) (h2 : H2.length = 20) :
    (binOp .neq 27 (.agg (pathC H1 N1)) (.agg (pathC H2 N2))).run Tryz.prog w = .ok (.bool (!sameP H1 N1 H2 N2)) w := by
  rw [run_neq_struct, run_equalIn_path w H1 N1 H2 N2 h1 h2]
  rfl
theorem guard_path (w : World) (op : BinOp) (x y : Operand) (A Bb : Array Value) : (eqGuard op 27 x y (.agg A) (.agg Bb)).run Tryz.prog w = .ok () w := run_eqGuard_agg w op _ x y A Bb (by kernel_rfl)
theorem laidOutP : laidOutB Tryz.prog = true := by kernel_rfl
theorem lawP : Keyed Tryz.prog 27 := Keyed.of_law (deep_law_laid laidOutP (m := 5) (by decide) (Nat.le_of_ble_eq_true (by kernel_rfl)) (by kernel_rfl) (by kernel_rfl))
end Go.Proofs.YtfkgdjoaoidkeaaGreat
namespace Go.Proofs.YtfkgdjoaoidkeaaGreat
open Go.RowKit Go.ChangeShapes
set_option linter.unusedVariables false
theorem less_irrefl (L : List UInt8) : Op.bytesLess L L = false := by
  induction L with
  | nil => rfl
  | cons x L ih => simp [Op.bytesLess, ih]
def lessP (H1 : List UInt8) (N1 : ByteArray) (H2 : List UInt8) (N2 : ByteArray) : Bool :=
  Op.bytesLess H1 H2 || (H1 == H2 && Op.bytesLess N1.toList N2.toList)
theorem less_at : ∀ (A Bb : List UInt8) (i : Nat) (h1 : i < A.length) (h2 : i < Bb.length), A.take i = Bb.take i → A[i] ≠ Bb[i] → Op.bytesLess A Bb = decide (A[i] < Bb[i]) := by
  intro A
  induction A with
  | nil => intro Bb i h1; simp at h1
  | cons x A ih =>
    intro Bb i h1 h2 ht hne
    cases Bb with
    | nil => simp at h2
    | cons y Bb =>
      cases i with
      | zero =>
        simp only [List.getElem_cons_zero] at hne ⊢
        simp [Op.bytesLess, hne]
      | succ i =>
        simp only [List.take_succ_cons, List.cons.injEq] at ht
        obtain ⟨rfl, ht⟩ := ht
        simp only [List.getElem_cons_succ] at hne ⊢
        rw [← ih Bb i (by simpa using h1) (by simpa using h2) ht hne]
        simp [Op.bytesLess]
theorem lessP_at (A : List UInt8) (N1 : ByteArray) (Bb : List UInt8) (N2 : ByteArray) (i : Nat) (h1 : i < A.length) (h2 : i < Bb.length) (ht : A.take i = Bb.take i) (hne : A[i] ≠ Bb[i]) : lessP A N1 Bb N2 = decide (A[i] < Bb[i]) := by
  have hAB : (A == Bb) = false := by
    rw [beq_eq_false_iff_ne]
    rintro rfl
    exact hne rfl
  rw [lessP, hAB, less_at A Bb i h1 h2 ht hne]
  simp
theorem lessP_end (A : List UInt8) (N1 N2 : ByteArray) : lessP A N1 A N2 = Op.bytesLess N1.toList N2.toList := by
  simp [lessP, less_irrefl]
set_option maxRecDepth 100000 in
set_option maxHeartbeats 2000000 in
theorem rLess_any (H1 : List UInt8) (N1 : ByteArray) (H2 : List UInt8) (N2 : ByteArray) (hH1 : H1.length = 20) (hH2 : H2.length = 20) (w : World) :
    Calls Tryz.prog 45 #[.agg (pathC H1 N1), .agg (pathC H2 N2)] w fun e w' => e = .returned (.bool (lessP H1 N1 H2 N2)) ∧ Fr (fun _ => False) w w' := by
  obtain ⟨C1, hC1⟩ : ∃ C, C = pathC H1 N1 := ⟨_, rfl⟩
  obtain ⟨C2, hC2⟩ : ∃ C, C = pathC H2 N2 := ⟨_, rfl⟩
  obtain ⟨W, hW⟩ : ∃ W, W = (w.alloc (.cells C1 27)).alloc (.cells C2 27) := ⟨_, rfl⟩
  have HB1 := Lib.hid (show PathT W w.heap.size H1 N1 by rw [hW, hC1]; exact heap_alloc2_old w _ _)
  have HB2 := Lib.hid (show PathT W (w.heap.size + 1) H2 N2 by rw [hW, hC2]; exact heap_alloc2_new w _ _)
  have HF := Lib.hid (show Fr (fun _ => False) w W by rw [hW]; exact ((Fr.refl _ w).alloc _).alloc _)
  obtain ⟨RS, hRS⟩ : ∃ RS, RS = lessP H1 N1 H2 N2 := ⟨_, rfl⟩
  rw [← hRS, ← hC1, ← hC2]
  have HRS := Lib.hid hRS
  have hn1 := HB1.out.name hH1
  have hn2 := HB2.out.name hH2
  have HH := Lib.hid (And.intro hH1 hH2)
  clear hRS hC1 hC2 hH1 hH2
  go_enter Tryz.func45, Tryz.ntmps45
  go_wp2_with fail
  rw [← hW]
  clear hW
  go_loopw [5] (fun iv wr => ∃ i : Nat, i ≤ 20 ∧ iv = .int .i64 i ∧ Hid (H1.take i = H2.take i) ∧ ∃ m, wr = W.drewN m) (fun iv _ => 20 - (intOf iv).toNat)
  case atStart => exact ⟨0, by omega, rfl, Lib.hid rfl, 0, rfl⟩
  case round =>
    obtain ⟨i, hi, rfl, hT, m, rfl⟩ := hrel
    by_cases hlt : i < 20
    · have h1 : i < H1.length := by rw [HH.out.1]; exact hlt
      have h2 : i < H2.length := by rw [HH.out.2]; exact hlt
      have c1 := HB1.out.byte i h1
      have c2 := HB2.out.byte i h2
      have hat := lessP_at H1 N1 H2 N2 i h1 h2 hT.out
      have ha1 : H1.take (i + 1) = H1.take i ++ [H1[i]] := List.take_succ_eq_append_getElem h1
      have ha2 : H2.take (i + 1) = H2.take i ++ [H2[i]] := List.take_succ_eq_append_getElem h2
      rw [List.getD_eq_getElem?_getD, List.getElem?_eq_getElem h1, Option.getD_some] at c1
      rw [List.getD_eq_getElem?_getD, List.getElem?_eq_getElem h2, Option.getD_some] at c2
      obtain ⟨x, hx⟩ : ∃ x, x = H1[i] := ⟨_, rfl⟩
      obtain ⟨y, hy⟩ : ∃ y, y = H2[i] := ⟨_, rfl⟩
      rw [← hx] at c1 hat ha1
      rw [← hy] at c2 hat ha2
      have HAT := Lib.hid hat
      have HTK := Lib.hid (show x = y → H1.take (i + 1) = H2.take (i + 1) by rintro rfl; rw [ha1, ha2, hT.out])
      have bi : (i : Int) < 20 := by omega
      have bi0 : (0 : Int) ≤ (i : Int) := by omega
      clear hx hy hat ha1 ha2 hT h1 h2
      by_cases hxy : x = y
      · have hn := Lib.hid (HTK.out hxy)
        have hne : ((x.toNat : Int) != (y.toNat : Int)) = false := by rw [hxy]; simp
        clear hxy
        go_wp2_with fail
        go_quiet (fail)
        go_wp2
        go_roundw
        case rel => exact ⟨i + 1, by omega, by go_num, hn, _, rfl⟩
        case measure => simp [intOf]; omega
      · have HV := Lib.hid (HRS.out.trans (HAT.out hxy))
        have hne : ((x.toNat : Int) != (y.toNat : Int)) = true := by
          rw [bne_iff_ne]
          intro h
          exact hxy (UInt8.toNat_inj.1 (by omega))
        clear hxy
        go_wp2_with fail
        go_quiet (fail)
        go_wp2
        go_quiet (fail)
        go_wp2
        go_ret
        exact ⟨ret_bool (Eq.trans (by rw [decide_eq_decide]; exact UInt8.lt_iff_toNat_lt.symm) HV.out.symm), ((HF.out.drewN m).drewN _).drewN _⟩
    · have hE : H1 = H2 := by
        have h := hT.out
        rwa [List.take_of_length_le (by rw [HH.out.1]; omega), List.take_of_length_le (by rw [HH.out.2]; omega)] at h
      have HV := Lib.hid (HRS.out.trans (show lessP H1 N1 H2 N2 = Op.bytesLess N1.toList N2.toList by rw [hE]; exact lessP_end H2 N1 N2))
      clear hE hT
      go_wp2_with fail
      go_ret
      exact ⟨ret_bool HV.out.symm, HF.out.drewN m⟩
end Go.Proofs.YtfkgdjoaoidkeaaGreat
namespace Go.Proofs.YtfkgdjoaoidkeaaGreat
open Go.RowKit Go.ChangeShapes Go.WideMaps Go.Maps
set_option linter.unusedVariables false
theorem Fr.grownAs {a w : World} {g : Nat} (hg : a.grownBy w (some g)) : Fr (fun i => i = g) a w := (Fr.refl _ a).grown hg (fun k hk => by cases hk; exact .inl rfl)
end Go.Proofs.YtfkgdjoaoidkeaaGreat
namespace Go.Proofs.YtfkgdjoaoidkeaaGreat
open Go.RowKit Go.ChangeShapes Go.Sort
set_option linter.unusedVariables false
theorem cmp_less : ∀ (a b : List UInt8), decide (Lib.compareBytes a b < 0) = Op.bytesLess a b
  | [], [] => rfl
  | [], _ :: _ => by simp [Lib.compareBytes, Op.bytesLess]
  | _ :: _, [] => by simp [Lib.compareBytes, Op.bytesLess]
  | x :: a, y :: b => by
    have ih := cmp_less a b
    unfold Lib.compareBytes Op.bytesLess
    by_cases h1 : x < y
    · simp [h1]
    · by_cases h2 : y < x
      · have : ¬ x = y := by rintro rfl; exact h1 h2
        simp [h1, h2, this]
      · have e : x = y := UInt8.le_antisymm (UInt8.not_lt.1 h2) (UInt8.not_lt.1 h1)
        subst e
        rw [if_neg h1, if_neg h1, ih]
        simp
def ordP (H1 : List UInt8) (N1 : ByteArray) (H2 : List UInt8) (N2 : ByteArray) : Int :=
  if H1 = H2 then Lib.compareBytes N1.data.toList N2.data.toList else Lib.compareBytes H1 H2
theorem ord_less (H1 : List UInt8) (N1 : ByteArray) (H2 : List UInt8) (N2 : ByteArray) : decide (ordP H1 N1 H2 N2 < 0) = lessP H1 N1 H2 N2 := by
  unfold ordP lessP
  rw [Go.ByteArray.toList_eq, Go.ByteArray.toList_eq]
  by_cases h : H1 = H2
  · subst h
    rw [if_pos rfl, cmp_less]
    simp [less_irrefl]
  · rw [if_neg h, cmp_less]
    have : (H1 == H2) = false := by rw [beq_eq_false_iff_ne]; exact h
    simp [this]
theorem run_compare (w : World) (b1 o1 c1 b2 o2 c2 : Nat) (L1 L2 : List UInt8) (h1 : ∀ j (hj : j < L1.length), w.cell? ⟨b1, o1 + j, none⟩ = some (bv L1[j])) (h2 : ∀ j (hj : j < L2.length), w.cell? ⟨b2, o2 + j, none⟩ = some (bv L2[j])) :
    (Extern.BytealgCompare.compare #[.slice (some ⟨b1, o1, none⟩) L1.length c1, .slice (some ⟨b2, o2, none⟩) L2.length c2]).run Tryz.prog w = .ok (.int .i64 (Lib.compareBytes L1 L2)) w := by
  have hl : ∀ (b o : Nat) (L : List UInt8), (∀ j (hj : j < L.length), w.cell? ⟨b, o + j, none⟩ = some (bv L[j])) → (Extern.Bytes.loadBytes ⟨b, o, none⟩ L.length .empty).run Tryz.prog w = .ok ⟨L.toArray⟩ w := fun b o L h => by
    have e := Lib.run_loadBytesX (P := Tryz.prog) w (L.map fun x => (x.toNat : Int)) ⟨b, o, none⟩ .empty (fun j x hx => by
      rw [List.getElem?_map] at hx
      obtain ⟨y, hy, rfl⟩ := Option.map_eq_some_iff.1 hx
      obtain ⟨hj, rfl⟩ := List.getElem?_eq_some_iff.1 hy
      rw [addr_plain]
      exact h j hj)
    rw [List.length_map] at e
    rw [e]
    congr 1
    apply ByteArray.ext
    have h2 : (Lib.bytesOf (L.map fun x => (x.toNat : Int))) = L := by
      simp only [Lib.bytesOf, List.map_map]
      conv => rhs; rw [← List.map_id L]
      apply List.map_congr_left
      intro x _
      simp
    rw [h2]
    show (#[] ++ L.toArray) = L.toArray
    simp
  change Sem.run _ (do pure (goInt (Extern.BytealgCompare.cmp (← Extern.Bytes.bytesOf (.slice (some ⟨b1, o1, none⟩) L1.length c1)) (← Extern.Bytes.bytesOf (.slice (some ⟨b2, o2, none⟩) L2.length c2))))) w = _
  simp only [Extern.Bytes.bytesOf, Sem.run_bind, hl _ _ _ h1, hl _ _ _ h2, Sem.run_pure, Result.andThen]
  rw [Lib.cmp_eq]
  rfl
set_option maxRecDepth 100000 in
set_option maxHeartbeats 1000000 in
theorem bcompare_any (w : World) (b1 o1 c1 b2 o2 c2 : Nat) (L1 L2 : List UInt8) (h1 : ∀ j (hj : j < L1.length), w.cell? ⟨b1, o1 + j, none⟩ = some (bv L1[j])) (h2 : ∀ j (hj : j < L2.length), w.cell? ⟨b2, o2 + j, none⟩ = some (bv L2[j])) :
    Calls Tryz.prog 72 #[.slice (some ⟨b1, o1, none⟩) L1.length c1, .slice (some ⟨b2, o2, none⟩) L2.length c2] w fun e w' => e = .returned (.int .i64 (Lib.compareBytes L1 L2)) ∧ w' = w := by
  have hr := run_compare w b1 o1 c1 b2 o2 c2 L1 L2 h1 h2
  have he := run_callFunc_extern (P := Tryz.prog) (f := 112) Tryz.func112 (by kernel_rfl) (by kernel_rfl) (by kernel_rfl) (e := Extern.BytealgCompare.compare) (by kernel_rfl)
  have HH := Lib.hid (he #[.slice (some ⟨b1, o1, none⟩) L1.length c1, .slice (some ⟨b2, o2, none⟩) L2.length c2] w)
  have HR := Lib.hid hr
  clear h1 h2 hr he
  go_enter Tryz.func72, Tryz.ntmps72
  go_wp2
  rw [HH.out, HR.out]
  simp only [Result.andThen]
  rw [Oper.upon_value]
  go_wp2
  go_ret
  exact ⟨rfl, rfl⟩
theorem run_eql_hash (w : World) (A Bb : List UInt8) (hA : A.length = 20) (hB : Bb.length = 20) : (binOp .eql 24 (.agg (A.map bv).toArray) (.agg (Bb.map bv).toArray)).run Tryz.prog w = .ok (.bool (A == Bb)) w :=
  run_eql_arr w 24 20 A Bb Tryz.underlying24 hA hB
set_option maxRecDepth 100000 in
set_option maxHeartbeats 2000000 in
theorem order_any (H1 : List UInt8) (N1 : ByteArray) (H2 : List UInt8) (N2 : ByteArray) (hH1 : H1.length = 20) (hH2 : H2.length = 20) (w : World) :
    Calls Tryz.prog 42 #[.agg (pathC H1 N1), .agg (pathC H2 N2)] w fun e w' => e = .returned (.int .i64 (ordP H1 N1 H2 N2)) ∧ ∃ q os, w' = grow (w.drewN q) os := by
  obtain ⟨C1, hC1⟩ : ∃ C, C = pathC H1 N1 := ⟨_, rfl⟩
  obtain ⟨C2, hC2⟩ : ∃ C, C = pathC H2 N2 := ⟨_, rfl⟩
  obtain ⟨W, hW⟩ : ∃ W, W = (w.alloc (.cells C1 27)).alloc (.cells C2 27) := ⟨_, rfl⟩
  have HB1 := Lib.hid (show PathT W w.heap.size H1 N1 by rw [hW, hC1]; exact heap_alloc2_old w _ _)
  have HB2 := Lib.hid (show PathT W (w.heap.size + 1) H2 N2 by rw [hW, hC2]; exact heap_alloc2_new w _ _)
  have HG := Lib.hid (show W = grow w #[.cells C1 27, .cells C2 27] by rw [hW, alloc_eq_grow, alloc_eq_grow, grow_grow]; rfl)
  have HW := Lib.hid hW.symm
  have hra1 := HB1.out.range
  have hra2 := HB2.out.range
  have hn1 := HB1.out.name hH1
  have hn2 := HB2.out.name hH2
  have hui1 : (Tryz.prog.info? 24).map (·.size) = some (H1.map bv).length := by rw [List.length_map, hH1]; kernel_rfl
  have hui2 : (Tryz.prog.info? 24).map (·.size) = some (H2.map bv).length := by rw [List.length_map, hH2]; kernel_rfl
  have huu := Tryz.underlying24
  have hgd := fun W => run_eqGuard_agg (P := Tryz.prog) W .eql 24
  have la1 : ((w.alloc (.cells C1 27)).alloc (.cells C2 27)).rangeAt w.heap.size 0 (H1.map bv) := by rw [HW.out]; exact hra1
  have la2 : ((w.alloc (.cells C1 27)).alloc (.cells C2 27)).rangeAt (w.heap.size + 1) 0 (H2.map bv) := by rw [HW.out]; exact hra2
  have ln1 : ((w.alloc (.cells C1 27)).alloc (.cells C2 27)).cell? ⟨w.heap.size, 20, none⟩ = some (.string N1) := by rw [HW.out]; exact hn1
  have ln2 : ((w.alloc (.cells C1 27)).alloc (.cells C2 27)).cell? ⟨w.heap.size + 1, 20, none⟩ = some (.string N2) := by rw [HW.out]; exact hn2
  rw [← hC1, ← hC2]
  clear hC1 hC2 hW hra1 hra2 hn1 hn2
  by_cases h : H1 = H2
  · have HE := Lib.hid (show ordP H1 N1 H2 N2 = Lib.compareBytes N1.data.toList N2.data.toList by rw [ordP, if_pos h])
    have heq : ∀ W, (binOp .eql 24 (.agg (H1.map bv).toArray) (.agg (H2.map bv).toArray)).run Tryz.prog W = .ok (.bool true) W := fun W => by rw [run_eql_hash W H1 H2 hH1 hH2, h]; simp
    have HSC := Lib.hid (fun W => Tryz.strings_Compare N1 N2 W)
    clear h
    go_enter Tryz.func42, Tryz.ntmps42
    go_wp2_with (first
      | (with_reducible refine wpList_load_mid rfl 24 (.tmp 5) rfl w.heap.size 0 rfl (H1.map bv) _ la1 Tryz.underlying24 rfl hui1 ?_)
      | (with_reducible refine wpList_load_mid rfl 24 (.tmp 7) rfl (w.heap.size + 1) 0 rfl (H2.map bv) _ la2 Tryz.underlying24 rfl hui2 ?_)
      | (go_at_call 71; rw [HW.out]; refine (HSC.out _).mono ?_; rintro e w' ⟨rfl, rfl⟩))
    go_ret
    exact ⟨ret_int HE.out.symm, 0, _, HG.out⟩
  · have HE := Lib.hid (show ordP H1 N1 H2 N2 = Lib.compareBytes H1 H2 by rw [ordP, if_neg h])
    have heq : ∀ W, (binOp .eql 24 (.agg (H1.map bv).toArray) (.agg (H2.map bv).toArray)).run Tryz.prog W = .ok (.bool false) W := fun W => by
      rw [run_eql_hash W H1 H2 hH1 hH2]
      have : (H1 == H2) = false := by rw [beq_eq_false_iff_ne]; exact h
      rw [this]
    have HBC := Lib.hid (fun q => show Calls Tryz.prog 72 #[.slice (some ⟨w.heap.size, 0, none⟩) 20 20, .slice (some ⟨w.heap.size + 1, 0, none⟩) 20 20] (W.drewN q) fun e w' => e = .returned (.int .i64 (Lib.compareBytes H1 H2)) ∧ w' = W.drewN q by
      have hc := bcompare_any (W.drewN q) w.heap.size 0 20 (w.heap.size + 1) 0 20 H1 H2
        (fun j hj => by
          have h := HB1.out.byte j hj
          rw [List.getD_eq_getElem?_getD, List.getElem?_eq_getElem hj, Option.getD_some] at h
          rw [Nat.zero_add]
          exact h)
        (fun j hj => by
          have h := HB2.out.byte j hj
          rw [List.getD_eq_getElem?_getD, List.getElem?_eq_getElem hj, Option.getD_some] at h
          rw [Nat.zero_add]
          exact h)
      rwa [hH1, hH2] at hc)
    clear h
    go_enter Tryz.func42, Tryz.ntmps42
    go_wp2_with (first
      | (with_reducible refine wpList_load_mid rfl 24 (.tmp 5) rfl w.heap.size 0 rfl (H1.map bv) _ la1 Tryz.underlying24 rfl hui1 ?_)
      | (with_reducible refine wpList_load_mid rfl 24 (.tmp 7) rfl (w.heap.size + 1) 0 rfl (H2.map bv) _ la2 Tryz.underlying24 rfl hui2 ?_))
    rw [HW.out]
    go_quiet ((go_at_call 72; exact Calls.quiet_of_same (HBC.out _)))
    go_wp2
    go_ret
    exact ⟨ret_int HE.out.symm, _, _, by rw [HG.out]; rfl⟩
end Go.Proofs.YtfkgdjoaoidkeaaGreat
namespace Go.Proofs.YtfkgdjoaoidkeaaGreat
def valN (c : UInt8) : Nat := (valI c).toNat
def hashBit (S : List UInt8) (p : Nat) : Nat := valN (S.getD (p / 5) 0) / 2 ^ (p % 5) % 2
def hbyte (S : List UInt8) (j m : Nat) : Nat → Nat
  | 0 => 0
  | t + 1 => hbyte S j m t + (if 8 * m + t < j then hashBit S (8 * m + t) * 2 ^ t else 0)
def hB (S : List UInt8) (j m : Nat) : Nat := hbyte S j m 8
end Go.Proofs.YtfkgdjoaoidkeaaGreat
namespace Go.Proofs.YtfkgdjoaoidkeaaGreat
open Go.RowKit Go.ChangeShapes
set_option linter.unusedVariables false
theorem path_built20 (a0 a1 a2 a3 a4 a5 a6 a7 a8 a9 a10 a11 a12 a13 a14 a15 a16 a17 a18 a19 : Value) (N : ByteArray) : Tryz.prog.built 27 [(0, .agg #[a0, a1, a2, a3, a4, a5, a6, a7, a8, a9, a10, a11, a12, a13, a14, a15, a16, a17, a18, a19]), (1, .string N)] = some #[a0, a1, a2, a3, a4, a5, a6, a7, a8, a9, a10, a11, a12, a13, a14, a15, a16, a17, a18, a19, Value.string N] := by kernel_rfl
theorem path_built (A : List Value) (h : A.length = 20) (N : ByteArray) : Tryz.prog.built 27 [(0, .agg A.toArray), (1, .string N)] = some (A ++ [Value.string N]).toArray := by
  match A, h with
  | [a0, a1, a2, a3, a4, a5, a6, a7, a8, a9, a10, a11, a12, a13, a14, a15, a16, a17, a18, a19], _ => exact path_built20 a0 a1 a2 a3 a4 a5 a6 a7 a8 a9 a10 a11 a12 a13 a14 a15 a16 a17 a18 a19 N
end Go.Proofs.YtfkgdjoaoidkeaaGreat
namespace Go.Proofs.YtfkgdjoaoidkeaaGreat
open Go.RowKit Go.ChangeShapes
set_option linter.unusedVariables false
theorem Fr.new {w w' : World} (h : Below w.heap.size w w') : Fr (fun _ => False) w w' := (Fr.ofBelow h).mono (fun i hi h => absurd hi (by omega))
end Go.Proofs.YtfkgdjoaoidkeaaGreat
namespace Go.Proofs.YtfkgdjoaoidkeaaGreat
open Go.RowKit Go.ChangeShapes
set_option linter.unusedVariables false
section
variable {P : Program} {w : World} {o : Oper} {a : Act}
set_option maxRecDepth 100000 in
theorem op_fieldAddr {s : TypeId} {x : Operand} {f : Nat} {vx v : Value} (ho : o.op = .fieldAddr s x f) (hx : a.eval x = vx) (hr : (Instr.fieldAt s vx f).run P w = .ok v w) : (execOp a.eval o).run P w = .ok (.value v) w := by
  unfold execOp
  rw [ho]
  simp only [hx, Sem.run_bind, hr, Result.andThen_ok]
  rfl
set_option maxRecDepth 100000 in
theorem op_loadAt {t : TypeId} {x : Operand} {vx v : Value} (ho : o.op = .load t x) (hx : a.eval x = vx) (hr : (Instr.loadAt t vx).run P w = .ok v w) : (execOp a.eval o).run P w = .ok (.value v) w := by
  unfold execOp
  rw [ho]
  simp only [hx, Sem.run_bind, hr, Result.andThen_ok]
  rfl
set_option maxRecDepth 100000 in
theorem op_unop {t : TypeId} {op : UnOp} {x : Operand} {vx v : Value} (ho : o.op = .unOp op t x) (hx : a.eval x = vx) (hr : (Op.unary op vx).run P w = .ok v w) : (execOp a.eval o).run P w = .ok (.value v) w := by
  unfold execOp
  rw [ho]
  simp only [hx, Sem.run_bind, hr, Result.andThen_ok]
  rfl
set_option maxRecDepth 100000 in
theorem op_indexAddr {t : TypeId} {x i : Operand} {vx vi v : Value} (ho : o.op = .indexAddr t x i) (hx : a.eval x = vx) (hi : a.eval i = vi) (hr : (Instr.indexAt t vx vi).run P w = .ok v w) : (execOp a.eval o).run P w = .ok (.value v) w := by
  unfold execOp
  rw [ho]
  simp only [hx, hi, Sem.run_bind, hr, Result.andThen_ok]
  rfl
end
set_option maxRecDepth 100000 in
theorem load_path (w : World) (g : Nat) (H : List UInt8) (N : ByteArray) (h : PathT w g H N) (hH : H.length = 20) :
    (Instr.loadAt 27 (.pointer (some ⟨g, 0, none⟩))).run Tryz.prog w = .ok (.agg (pathC H N)) w :=
  by
  have h' : w.heap[g]? = some (.cells (pathC H N) 27 (0, 0)) := h
  simp only [Instr.loadAt, Instr.sureAddr, Sem.run_bind, Sem.run_pure, Result.andThen_ok, run_loadVar_row w g _ _ _ (0, 0) _ h' Tryz.underlying27 rfl (show (Tryz.prog.info? 27).map (·.size) = some (pathC H N).size by rw [pathC_size H hH N]; kernel_rfl)]
set_option maxRecDepth 100000 in
theorem guard_str (w : World) (op : BinOp) (x y : Operand) (A Bb : ByteArray) : (eqGuard op 9 x y (.string A) (.string Bb)).run Tryz.prog w = .ok () w := by cases op <;> rfl
set_option maxRecDepth 100000 in
theorem guard_int (w : World) (op : BinOp) (T : TypeId) (k : IntKind) (x y : Operand) (A Bb : Int) : (eqGuard op T x y (.int k A) (.int k Bb)).run Tryz.prog w = .ok () w := by cases op <;> rfl
def Rows (w : World) (l : List (Nat × Array Value × TypeId)) : Prop := ∀ x ∈ l, w.heap[x.1]? = some (.cells x.2.1 x.2.2 (0, 0))
set_option maxRecDepth 100000 in
theorem Rows.keep {w w' : World} {l : List (Nat × Array Value × TypeId)} (h : Rows w l) (hf : Fr (fun _ => False) w w') : Rows w' l := fun x hx => hf.heap (h x hx) (fun h => h)
set_option maxRecDepth 100000 in
theorem Rows.laid {w : World} {l : List (Nat × Array Value × TypeId)} (h : Rows w l) (Z C : Array Value) (T : TypeId) : Rows ((w.alloc (.cells Z T)).setRow w.heap.size C) ((w.heap.size, C, T) :: l) := by
  intro x hx
  rcases List.mem_cons.1 hx with rfl | hx
  · exact setRow_heap (w.alloc (.cells Z T)) w.heap.size Z C T (0, 0) (heap_alloc_new w _)
  · exact (h.keep (((Fr.refl (fun _ => False) w).alloc (.cells Z T)).setRow (.inr (Nat.le_refl _)) C)) x hx
set_option maxRecDepth 100000 in
theorem Fr.laid (w : World) (Z C : Array Value) (T : TypeId) : Fr (fun _ => False) w ((w.alloc (.cells Z T)).setRow w.heap.size C) := ((Fr.refl (fun _ => False) w).alloc (.cells Z T)).setRow (.inr (Nat.le_refl _)) C
set_option maxRecDepth 100000 in
theorem rLess_enter (args : Array Value) (w : World) : (callFunc 45 args).run Tryz.prog w = .ok (.enter 45 args) w := by rfl
end Go.Proofs.YtfkgdjoaoidkeaaGreat
namespace Go.Proofs.YtfkgdjoaoidkeaaGreat
open Go.RowKit Go.ChangeShapes Go.WideShapes Go.Deep
set_option linter.unusedVariables false
theorem Tryz.cellsB : Tryz.prog.cellsOf 5 = 1 := by kernel_rfl
section
variable {H : Type} {enc : TypeId × Value → H} {w : World} {base fuel : Nat} {held : Bool} {cs : List Value} {x : DataW H × List MemPlace}
end
end Go.Proofs.YtfkgdjoaoidkeaaGreat
namespace Go.Proofs.YtfkgdjoaoidkeaaGreat
open Go.RowKit Go.ChangeShapes Go.WideShapes Go.Deep
set_option linter.unusedVariables false
structure PathX where
  h : List UInt8
  n : ByteArray
  hl : h.length = 20
instance : Inhabited PathX := ⟨⟨List.replicate 20 0, ⟨#[]⟩, rfl⟩⟩
theorem PathX.ext {x y : PathX} (h1 : x.h = y.h) (h2 : x.n = y.n) : x = y := by
  obtain ⟨a, b, c⟩ := x
  obtain ⟨a', b', c'⟩ := y
  simp only at h1 h2
  subst h1
  subst h2
  rfl
instance : DecidableEq PathX := fun x y =>
  if h : x.h = y.h ∧ x.n = y.n then .isTrue (PathX.ext h.1 h.2) else .isFalse (fun e => h (by rw [e]; exact ⟨rfl, rfl⟩))
def cellsX (x : PathX) : List Value := x.h.map bv ++ [Value.string x.n]
theorem cellsX_length (x : PathX) : (cellsX x).length = 21 := by simp [cellsX, x.hl]
theorem cellsX_one (x : PathX) : ∀ v ∈ cellsX x, v.oneCell' = true := by
  intro v hv
  rcases List.mem_append.1 hv with h | h
  · exact bv_one _ v h
  · obtain rfl := List.mem_singleton.1 h
    rfl
theorem cellsX_C (x : PathX) : (cellsX x).toArray = pathC x.h x.n := rfl
def PathsIn (F : Nat → Prop) (w : World) (v : Value) (L : List PathX) : Prop :=
  ∃ ao cap, v = .slice ao L.length cap ∧ L.length ≤ cap ∧ cap ≤ maxLen ∧ (ao = none → cap = 0) ∧
    (L ≠ [] → ∃ b off, ao = some ⟨b, off, none⟩ ∧ F b ∧ ∀ i (h : i < L.length), w.rangeAt b (off + i * 21) (cellsX L[i]))
theorem Fr.range {S : Nat → Prop} {w w' : World} {b o : Nat} {cs : List Value} (hf : Fr S w w') (h : w.rangeAt b o cs) (hb : ¬ S b) : w'.rangeAt b o cs := fun j v hv => by
  exact hf.cell (h j v hv) hb
theorem PathsIn.keep {F S : Nat → Prop} {w w' : World} {v : Value} {L : List PathX} (h : PathsIn F w v L) (hf : Fr S w w') (hd : ∀ k, k < w.heap.size → F k → ¬ S k) : PathsIn F w' v L := by
  obtain ⟨ao, cap, rfl, h1, h2, h3, h4⟩ := h
  refine ⟨ao, cap, rfl, h1, h2, h3, fun hL => ?_⟩
  obtain ⟨b, off, rfl, hb, hr⟩ := h4 hL
  refine ⟨b, off, rfl, hb, fun i hi => hf.range (hr i hi) (hd b ?_ hb)⟩
  have hp : 0 < L.length := List.length_pos_iff.2 hL
  have h0 := hr 0 hp 20 (.string L[0].n) (by simp [cellsX, L[0].hl])
  exact World.block_lt_of_cell? _ _ h0
theorem PathsIn.mono {F G : Nat → Prop} {w : World} {v : Value} {L : List PathX} (h : PathsIn F w v L) (hd : ∀ k, k < w.heap.size → F k → G k) : PathsIn G w v L := by
  obtain ⟨ao, cap, rfl, h1, h2, h3, h4⟩ := h
  refine ⟨ao, cap, rfl, h1, h2, h3, fun hL => ?_⟩
  obtain ⟨b, off, rfl, hb, hr⟩ := h4 hL
  have hp : 0 < L.length := List.length_pos_iff.2 hL
  have h0 := hr 0 hp 20 (.string L[0].n) (by simp [cellsX, L[0].hl])
  exact ⟨b, off, rfl, hd b (World.block_lt_of_cell? _ _ h0) hb, hr⟩
theorem PathsIn.nil (F : Nat → Prop) (w : World) : PathsIn F w (.slice none 0 0) [] := ⟨none, 0, rfl, Nat.le_refl _, by simp [maxLen], fun _ => rfl, fun h => absurd rfl h⟩
theorem Tryz.cellsH : Tryz.prog.cellsOf 24 = 20 := by kernel_rfl
theorem Tryz.cellsS : Tryz.prog.cellsOf 9 = 1 := by kernel_rfl
theorem Tryz.cellsP : Tryz.prog.cellsOf 27 = 21 := by kernel_rfl
section
variable {H : Type} {enc : TypeId × Value → H} {w : World} {base fuel : Nat} {held : Bool} {cs : List Value} {x : DataW H × List MemPlace}
end
end Go.Proofs.YtfkgdjoaoidkeaaGreat
namespace Go.Proofs.YtfkgdjoaoidkeaaGreat
open Go.RowKit Go.ChangeShapes
set_option linter.unusedVariables false
def flatX (O : List PathX) : List Value := O.flatMap cellsX
theorem flatX_length (O : List PathX) : (flatX O).length = O.length * 21 := by
  induction O with
  | nil => rfl
  | cons x O ih =>
    rw [flatX, List.flatMap_cons, List.length_append, cellsX_length]
    rw [flatX] at ih
    rw [ih, List.length_cons]
    omega
theorem flatX_append (A Bb : List PathX) : flatX (A ++ Bb) = flatX A ++ flatX Bb := by simp [flatX]
theorem flatX_cell (O : List PathX) (v : Value) (hv : v ∈ flatX O) : v.oneCell' = true := by
  obtain ⟨x, _, h⟩ := List.mem_flatMap.1 hv
  exact cellsX_one x v h
theorem flatX_get (O : List PathX) (i j : Nat) (hi : i < O.length) (hj : j < 21) : (flatX O)[i * 21 + j]? = (cellsX O[i])[j]? := by
  induction O generalizing i with
  | nil => simp at hi
  | cons x O ih =>
    cases i with
    | zero =>
      rw [flatX, List.flatMap_cons, Nat.zero_mul, Nat.zero_add, List.getElem?_append_left (by rw [cellsX_length]; exact hj)]
      rfl
    | succ i =>
      rw [flatX, List.flatMap_cons, List.getElem?_append_right (by rw [cellsX_length]; omega), cellsX_length]
      have h := ih i (by simpa using hi)
      rw [flatX] at h
      rw [show (i + 1) * 21 + j - 21 = i * 21 + j by omega, h]
      rfl
def OwnP (F : Nat → Prop) (w : World) (v : Value) (O : List PathX) : Prop :=
  w.ownsRow 0 27 21 v O.length (flatX O) ∧ ∀ g, v.ownBlock = some g → F g
theorem OwnP.nil (F : Nat → Prop) (w : World) : OwnP F w (.slice none 0 0) [] := ⟨World.ownsRow_nil _ _ _ _, fun g h => by simp [Value.ownBlock] at h⟩
theorem OwnP.keep {F S : Nat → Prop} {w w' : World} {v : Value} {O : List PathX} (h : OwnP F w v O) (hf : Fr S w w') (hd : ∀ k, k < w.heap.size → F k → ¬ S k) : OwnP F w' v O := by
  refine ⟨⟨h.1.1, ?_⟩, h.2⟩
  rcases h.1.2 with h1 | ⟨g, cap, cur, hv, hb, hg, r⟩
  · exact .inl h1
  · exact .inr ⟨g, cap, cur, hv, hb, hf.heap hg (hd g (lt_of_block hg) (h.2 g (by rw [hv]; rfl))), r⟩
theorem OwnP.mono {F G : Nat → Prop} {w : World} {v : Value} {O : List PathX} (h : OwnP F w v O) (hd : ∀ k, k < w.heap.size → F k → G k) : OwnP G w v O :=
  ⟨h.1, fun g hg => hd g (h.1.lt g hg).2 (h.2 g hg)⟩
theorem OwnP.row {F : Nat → Prop} {w : World} {v : Value} {O : List PathX} (h : OwnP F w v O) :
    (v = .slice none 0 0 ∧ O = []) ∨ ∃ g cap cur, v = .slice (some ⟨g, 0, none⟩) O.length cap ∧ F g ∧ g < w.heap.size ∧ w.heap[g]? = some (.cells cur 27 (0, 0)) ∧ O.length ≤ cap ∧ cap ≤ maxLen ∧ cur.toList.take (O.length * 21) = flatX O := by
  rcases h.1.2 with ⟨hv, h0⟩ | ⟨g, cap, cur, hv, _, hg, h1, h2, _, h3⟩
  · exact .inl ⟨hv, List.eq_nil_of_length_eq_zero h0⟩
  · exact .inr ⟨g, cap, cur, hv, h.2 g (by rw [hv]; rfl), lt_of_block hg, hg, h1, h2, h3⟩
theorem take_cell {cur : Array Value} {n : Nat} {l : List Value} (h : cur.toList.take n = l) (i : Nat) (v : Value) (hv : l[i]? = some v) : cur[i]? = some v := by
  subst h
  rw [List.getElem?_take] at hv
  split at hv
  · rwa [Array.getElem?_toList] at hv
  · cases hv
theorem OwnP.paths {F : Nat → Prop} {w : World} {v : Value} {O : List PathX} (h : OwnP F w v O) : PathsIn F w v O := by
  rcases h.row with ⟨rfl, rfl⟩ | ⟨g, cap, cur, rfl, hF, _, hg, h1, h2, h3⟩
  · exact PathsIn.nil _ _
  · refine ⟨_, cap, rfl, h1, h2, (fun h => by cases h), fun _ => ⟨g, 0, rfl, hF, fun i hi j u hu => ?_⟩⟩
    have hj : j < 21 := by
      have := (List.getElem?_eq_some_iff.1 hu).1
      rwa [cellsX_length] at this
    rw [cell_of_row _ _ _ _ _ _ hg, Nat.zero_add]
    exact take_cell h3 _ _ (by rw [flatX_get O i j hi hj]; exact hu)
theorem Tryz.infoP : (Tryz.prog.info? 27).map (fun i => (i.zero, i.size, i.bytes)) = some (some (.agg (pathC (List.replicate 20 0) ⟨#[]⟩)), 21, 40) := by kernel_rfl
theorem run_append_paths {F G : Nat → Prop} (w : World) (ty : TypeId) (v x : Value) (O X : List PathX) (hown : OwnP F w v O) (hx : PathsIn G w x X) (hb : O.length + X.length ≤ 1000000) :
    ∃ v' w', (Builtin.append_ #[25, 25] ty #[v, x]).run Tryz.prog w = .ok v' w' ∧ OwnP (fun k => F k ∨ w.heap.size ≤ k) w' v' (O ++ X) ∧ w.grownBy w' v.ownBlock ∧ (v'.ownBlock = v.ownBlock ∨ v'.ownBlock = some w.heap.size) := by
  obtain ⟨i0, hi, hz0, hz1, hz2⟩ := info_parts Tryz.infoP
  obtain ⟨ao, cap, rfl, hl, hm, hn, hc⟩ := hx
  cases ao with
  | none =>
    obtain rfl := hn rfl
    obtain rfl : X = [] := List.eq_nil_of_length_eq_zero (by omega)
    have hr := run_append_owned_none (P := Tryz.prog) (w := w) 0 25 ty 27 i0 21 Tryz.underlying25 hi v O.length _ hown.1
    refine ⟨v, w, hr, ?_, World.grownBy.refl _ _, .inl rfl⟩
    rw [List.append_nil]
    exact hown.mono fun k _ h => .inl h
  | some a =>
    obtain ⟨v', w', hr, h2, h3, h4, h5⟩ := run_append_own_at (P := Tryz.prog) w 0 25 ty 27 i0 (.agg (pathC (List.replicate 20 0) ⟨#[]⟩)) 21 40 Tryz.underlying25 hi hz0 hz1 hz2 rfl (by decide) v O.length _ hown.1 a X.length cap (flatX X)
      (flatX_length X) (fun j u hu => by
        have hjl : j < X.length * 21 := by
          have := (List.getElem?_eq_some_iff.1 hu).1
          rwa [flatX_length] at this
        have hX : X ≠ [] := by rintro rfl; simp at hjl
        obtain ⟨b, off, ha, _, hr⟩ := hc hX
        cases ha
        have hi : j / 21 < X.length := by omega
        have h := hr (j / 21) hi (j % 21) u (by
          rw [← flatX_get X (j / 21) (j % 21) hi (by omega)]
          rw [show j / 21 * 21 + j % 21 = j by omega]
          exact hu)
        rw [addr_plain]
        rwa [show off + j / 21 * 21 + j % 21 = off + j by omega] at h) (fun u hu => flatX_cell X u hu) (by unfold maxLen; omega) (by omega) (Nat.zero_le _)
    refine ⟨v', w', hr, ⟨?_, ?_⟩, h3, h5⟩
    · rw [List.length_append, flatX_append]
      exact h2
    · intro g hg
      rcases h5 with h5 | h5
      · exact .inl (hown.2 g (by rw [← h5, hg]))
      · rw [hg] at h5
        exact .inr (by have := Option.some.inj h5; omega)
theorem wpList_append_paths {F G : Nat → Prop} (w : World) {ops : Array Oper} {rest : List Oper} {o : Oper} {a : Act} {Q : Exit → Act → World → Prop} (hgd : o.guard = none) (s x : Operand)
    (hop : o.op = Op.call { callee := Callee.builtin Builtin.append, args := #[s, x], argTypes := #[25, 25] })
    (v y : Value) (O X : List PathX) (hs : a.eval s = v) (hx : a.eval x = y) (hown : OwnP F w v O) (hX : PathsIn G w y X) (hb : O.length + X.length ≤ 1000000)
    (hK : ∀ v' w', OwnP (fun k => F k ∨ w.heap.size ≤ k) w' v' (O ++ X) → w.grownBy w' v.ownBlock → (v'.ownBlock = v.ownBlock ∨ v'.ownBlock = some w.heap.size) → wpList Tryz.prog ops Q rest (a.put o.dst v') w') : wpList Tryz.prog ops Q (o :: rest) a w := by
  refine wpList_plain hgd fun K hK' => ?_
  subst hs; subst hx
  obtain ⟨v', w', hr, h1, h2, h3⟩ := run_append_paths w o.type _ _ O X hown hX hb
  unfold Oper.wp
  simp [execOp, hop, resolve, invoke, builtin, hr, Result.andThen]
  exact hK' _ _ (hK v' w' h1 h2 h3)
theorem run_build_one20 (w : World) (a0 a1 a2 a3 a4 a5 a6 a7 a8 a9 a10 a11 a12 a13 a14 a15 a16 a17 a18 a19 : Value) (s : Value) : (Instr.buildSlice 25 1 #[(0, .agg #[a0, a1, a2, a3, a4, a5, a6, a7, a8, a9, a10, a11, a12, a13, a14, a15, a16, a17, a18, a19, s])]).run Tryz.prog w = .ok (.slice (some ⟨w.heap.size, 0, none⟩) 1 1) (w.alloc (.cells #[a0, a1, a2, a3, a4, a5, a6, a7, a8, a9, a10, a11, a12, a13, a14, a15, a16, a17, a18, a19, s] 27)) := by kernel_rfl
theorem run_build_one (w : World) (x : PathX) : (Instr.buildSlice 25 1 #[(0, .agg (pathC x.h x.n))]).run Tryz.prog w = .ok (.slice (some ⟨w.heap.size, 0, none⟩) 1 1) (w.alloc (.cells (pathC x.h x.n) 27)) := by
  obtain ⟨h, n, hl⟩ := x
  match h, hl with
  | [a0, a1, a2, a3, a4, a5, a6, a7, a8, a9, a10, a11, a12, a13, a14, a15, a16, a17, a18, a19], _ => exact run_build_one20 w (bv a0) (bv a1) (bv a2) (bv a3) (bv a4) (bv a5) (bv a6) (bv a7) (bv a8) (bv a9) (bv a10) (bv a11) (bv a12) (bv a13) (bv a14) (bv a15) (bv a16) (bv a17) (bv a18) (bv a19) (.string n)
theorem PathsIn.one (w : World) (x : PathX) : PathsIn (fun k => k = w.heap.size) (w.alloc (.cells (pathC x.h x.n) 27)) (.slice (some ⟨w.heap.size, 0, none⟩) 1 1) [x] := by
  refine ⟨_, 1, rfl, Nat.le_refl _, by simp [maxLen], (fun h => by cases h), fun _ => ⟨w.heap.size, 0, rfl, rfl, fun i hi j u hu => ?_⟩⟩
  have hi0 : i = 0 := by simp at hi; omega
  subst hi0
  rw [cell_of_row _ _ _ _ _ _ (heap_alloc_new w _)]
  simpa [cellsX, pathC] using hu
end Go.Proofs.YtfkgdjoaoidkeaaGreat
