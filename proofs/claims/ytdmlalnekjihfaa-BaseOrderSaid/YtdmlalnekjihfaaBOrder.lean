/- Contracts of bytes.Compare, base.order, base.Less. -/
import Derived.Test.YtdmlalnekjihfaaRLess
import Derived.Test.YtdmlalnekjihfaaBPath
import Derived.Test.YtdmlalnekjihfaaOps
import Derived.Test.YtdmlalnekjihfaaShelf
import Derived.Lib.BytesEntry
import Derived.Laws.Externs
namespace Go.Proofs.Ytdmlalnekjihfaa
open Go.RowKit Go.ChangeShapes Go.Sort
set_option linter.unusedVariables false

theorem cmp_less : ∀ (a b : List UInt8), decide (Lib.compareBytes a b < 0) = Op.bytesLess a b
  | [], [] => rfl
  | [], _ :: _ => by simp [Lib.compareBytes, Op.bytesLess]
  | _ :: _, [] => by simp [Lib.compareBytes, Op.bytesLess]
  | x :: a, y :: b => by
    have ih := cmp_less a b
    unfold Lib.compareBytes Op.bytesLess
    by_cases h1 : x < y
    · simp [h1]
    · by_cases h2 : y < x
      · have : ¬ x = y := by rintro rfl; exact h1 h2
        simp [h1, h2, this]
      · have e : x = y := UInt8.le_antisymm (UInt8.not_lt.1 h2) (UInt8.not_lt.1 h1)
        subst e
        rw [if_neg h1, if_neg h1, ih]
        simp
theorem cmp_refl (a : List UInt8) : Lib.compareBytes a a = 0 := by
  induction a with
  | nil => rfl
  | cons x a ih => simp [Lib.compareBytes, ih]
theorem cmp_range : ∀ (a b : List UInt8), -1 ≤ Lib.compareBytes a b ∧ Lib.compareBytes a b ≤ 1
  | [], [] => by simp [Lib.compareBytes]
  | [], _ :: _ => by simp [Lib.compareBytes]
  | _ :: _, [] => by simp [Lib.compareBytes]
  | x :: a, y :: b => by
    have ih := cmp_range a b
    unfold Lib.compareBytes
    split
    · omega
    · split
      · omega
      · exact ih
/-- What order tells. -/
def ordP (H1 : List UInt8) (N1 : ByteArray) (H2 : List UInt8) (N2 : ByteArray) : Int :=
  if H1 = H2 then Lib.compareBytes N1.data.toList N2.data.toList else Lib.compareBytes H1 H2
theorem ord_range (H1 : List UInt8) (N1 : ByteArray) (H2 : List UInt8) (N2 : ByteArray) : -1 ≤ ordP H1 N1 H2 N2 ∧ ordP H1 N1 H2 N2 ≤ 1 := by
  unfold ordP
  split
  · exact cmp_range _ _
  · exact cmp_range _ _
theorem ord_less (H1 : List UInt8) (N1 : ByteArray) (H2 : List UInt8) (N2 : ByteArray) : decide (ordP H1 N1 H2 N2 < 0) = lessP H1 N1 H2 N2 := by
  unfold ordP lessP
  rw [Go.ByteArray.toList_eq, Go.ByteArray.toList_eq]
  by_cases h : H1 = H2
  · subst h
    rw [if_pos rfl, cmp_less]
    simp [less_irrefl]
  · rw [if_neg h, cmp_less]
    have : (H1 == H2) = false := by rw [beq_eq_false_iff_ne]; exact h
    simp [this]

theorem run_compare (w : World) (b1 o1 c1 b2 o2 c2 : Nat) (L1 L2 : List UInt8) (h1 : ∀ j (hj : j < L1.length), w.cell? ⟨b1, o1 + j, none⟩ = some (bv L1[j])) (h2 : ∀ j (hj : j < L2.length), w.cell? ⟨b2, o2 + j, none⟩ = some (bv L2[j])) :
    (Extern.BytealgCompare.compare #[.slice (some ⟨b1, o1, none⟩) L1.length c1, .slice (some ⟨b2, o2, none⟩) L2.length c2]).run Try.prog w = .ok (.int .i64 (Lib.compareBytes L1 L2)) w := by
  have hl : ∀ (b o : Nat) (L : List UInt8), (∀ j (hj : j < L.length), w.cell? ⟨b, o + j, none⟩ = some (bv L[j])) → (Extern.Bytes.loadBytes ⟨b, o, none⟩ L.length .empty).run Try.prog w = .ok ⟨L.toArray⟩ w := fun b o L h => by
    have e := Lib.run_loadBytesX (P := Try.prog) w (L.map fun x => (x.toNat : Int)) ⟨b, o, none⟩ .empty (fun j x hx => by
      rw [List.getElem?_map] at hx
      obtain ⟨y, hy, rfl⟩ := Option.map_eq_some_iff.1 hx
      obtain ⟨hj, rfl⟩ := List.getElem?_eq_some_iff.1 hy
      rw [addr_plain]
      exact h j hj)
    rw [List.length_map] at e
    rw [e]
    congr 1
    apply ByteArray.ext
    have h2 : (Lib.bytesOf (L.map fun x => (x.toNat : Int))) = L := by
      simp only [Lib.bytesOf, List.map_map]
      conv => rhs; rw [← List.map_id L]
      apply List.map_congr_left
      intro x _
      simp
    rw [h2]
    show (#[] ++ L.toArray) = L.toArray
    simp
  change Sem.run _ (do pure (goInt (Extern.BytealgCompare.cmp (← Extern.Bytes.bytesOf (.slice (some ⟨b1, o1, none⟩) L1.length c1)) (← Extern.Bytes.bytesOf (.slice (some ⟨b2, o2, none⟩) L2.length c2))))) w = _
  simp only [Extern.Bytes.bytesOf, Sem.run_bind, hl _ _ _ h1, hl _ _ _ h2, Sem.run_pure, Result.andThen]
  rw [Lib.cmp_eq]
  rfl

set_option maxHeartbeats 1000000 in
theorem bcompare_any (w : World) (b1 o1 c1 b2 o2 c2 : Nat) (L1 L2 : List UInt8) (h1 : ∀ j (hj : j < L1.length), w.cell? ⟨b1, o1 + j, none⟩ = some (bv L1[j])) (h2 : ∀ j (hj : j < L2.length), w.cell? ⟨b2, o2 + j, none⟩ = some (bv L2[j])) :
    Calls Try.prog 39 #[.slice (some ⟨b1, o1, none⟩) L1.length c1, .slice (some ⟨b2, o2, none⟩) L2.length c2] w fun e w' => e = .returned (.int .i64 (Lib.compareBytes L1 L2)) ∧ w' = w := by
  have hr := run_compare w b1 o1 c1 b2 o2 c2 L1 L2 h1 h2
  have he := run_callFunc_extern (P := Try.prog) (f := 51) Try.func51 (by kernel_rfl) (by kernel_rfl) (by kernel_rfl) (e := Extern.BytealgCompare.compare) (by kernel_rfl)
  have HH := Lib.hid (he #[.slice (some ⟨b1, o1, none⟩) L1.length c1, .slice (some ⟨b2, o2, none⟩) L2.length c2] w)
  have HR := Lib.hid hr
  clear h1 h2 hr he
  go_enter Try.func39, Try.ntmps39
  go_wp2
  rw [HH.out, HR.out]
  simp only [Result.andThen]
  rw [Oper.upon_value]
  go_wp2
  go_ret
  exact ⟨rfl, rfl⟩

theorem run_eql_hash (w : World) (A Bb : List UInt8) (hA : A.length = 20) (hB : Bb.length = 20) : (binOp .eql 23 (.agg (A.map bv).toArray) (.agg (Bb.map bv).toArray)).run Try.prog w = .ok (.bool (A == Bb)) w :=
  run_eql_arr w 23 20 A Bb Try.underlying23 hA hB

set_option maxRecDepth 100000 in
set_option maxHeartbeats 2000000 in
theorem order_any (H1 : List UInt8) (N1 : ByteArray) (H2 : List UInt8) (N2 : ByteArray) (hH1 : H1.length = 20) (hH2 : H2.length = 20) (w : World) :
    Calls Try.prog 33 #[.agg (pathC H1 N1), .agg (pathC H2 N2)] w fun e w' => e = .returned (.int .i64 (ordP H1 N1 H2 N2)) ∧ ∃ q os, w' = grow (w.drewN q) os := by
  obtain ⟨C1, hC1⟩ : ∃ C, C = pathC H1 N1 := ⟨_, rfl⟩
  obtain ⟨C2, hC2⟩ : ∃ C, C = pathC H2 N2 := ⟨_, rfl⟩
  obtain ⟨W, hW⟩ : ∃ W, W = (w.alloc (.cells C1 25)).alloc (.cells C2 25) := ⟨_, rfl⟩
  have HB1 := Lib.hid (show PathT W w.heap.size H1 N1 by rw [hW, hC1]; exact heap_alloc2_old w _ _)
  have HB2 := Lib.hid (show PathT W (w.heap.size + 1) H2 N2 by rw [hW, hC2]; exact heap_alloc2_new w _ _)
  have HG := Lib.hid (show W = grow w #[.cells C1 25, .cells C2 25] by rw [hW, alloc_eq_grow, alloc_eq_grow, grow_grow]; rfl)
  have HW := Lib.hid hW.symm
  have hra1 := HB1.out.range
  have hra2 := HB2.out.range
  have hn1 := HB1.out.name hH1
  have hn2 := HB2.out.name hH2
  have hui1 : (Try.prog.info? 23).map (·.size) = some (H1.map bv).length := by rw [List.length_map, hH1]; kernel_rfl
  have hui2 : (Try.prog.info? 23).map (·.size) = some (H2.map bv).length := by rw [List.length_map, hH2]; kernel_rfl
  have huu := Try.underlying23
  have hgd := fun W => run_eqGuard_agg (P := Try.prog) W .eql 23
  have la1 : ((w.alloc (.cells C1 25)).alloc (.cells C2 25)).rangeAt w.heap.size 0 (H1.map bv) := by rw [HW.out]; exact hra1
  have la2 : ((w.alloc (.cells C1 25)).alloc (.cells C2 25)).rangeAt (w.heap.size + 1) 0 (H2.map bv) := by rw [HW.out]; exact hra2
  have ln1 : ((w.alloc (.cells C1 25)).alloc (.cells C2 25)).cell? ⟨w.heap.size, 20, none⟩ = some (.string N1) := by rw [HW.out]; exact hn1
  have ln2 : ((w.alloc (.cells C1 25)).alloc (.cells C2 25)).cell? ⟨w.heap.size + 1, 20, none⟩ = some (.string N2) := by rw [HW.out]; exact hn2
  rw [← hC1, ← hC2]
  clear hC1 hC2 hW hra1 hra2 hn1 hn2
  by_cases h : H1 = H2
  · have HE := Lib.hid (show ordP H1 N1 H2 N2 = Lib.compareBytes N1.data.toList N2.data.toList by rw [ordP, if_pos h])
    have heq : ∀ W, (binOp .eql 23 (.agg (H1.map bv).toArray) (.agg (H2.map bv).toArray)).run Try.prog W = .ok (.bool true) W := fun W => by rw [run_eql_hash W H1 H2 hH1 hH2, h]; simp
    have HSC := Lib.hid (fun W => Try.strings_Compare N1 N2 W)
    clear h
    go_enter Try.func33, Try.ntmps33
    go_wp2_with (first
      | (with_reducible refine wpList_load_mid rfl 23 (.tmp 5) rfl w.heap.size 0 rfl (H1.map bv) _ la1 Try.underlying23 rfl hui1 ?_)
      | (with_reducible refine wpList_load_mid rfl 23 (.tmp 7) rfl (w.heap.size + 1) 0 rfl (H2.map bv) _ la2 Try.underlying23 rfl hui2 ?_)
      | (go_at_call 38; rw [HW.out]; refine (HSC.out _).mono ?_; rintro e w' ⟨rfl, rfl⟩))
    go_ret
    exact ⟨ret_int HE.out.symm, 0, _, HG.out⟩
  · have HE := Lib.hid (show ordP H1 N1 H2 N2 = Lib.compareBytes H1 H2 by rw [ordP, if_neg h])
    have heq : ∀ W, (binOp .eql 23 (.agg (H1.map bv).toArray) (.agg (H2.map bv).toArray)).run Try.prog W = .ok (.bool false) W := fun W => by
      rw [run_eql_hash W H1 H2 hH1 hH2]
      have : (H1 == H2) = false := by rw [beq_eq_false_iff_ne]; exact h
      rw [this]
    have HBC := Lib.hid (fun q => show Calls Try.prog 39 #[.slice (some ⟨w.heap.size, 0, none⟩) 20 20, .slice (some ⟨w.heap.size + 1, 0, none⟩) 20 20] (W.drewN q) fun e w' => e = .returned (.int .i64 (Lib.compareBytes H1 H2)) ∧ w' = W.drewN q by
      have hc := bcompare_any (W.drewN q) w.heap.size 0 20 (w.heap.size + 1) 0 20 H1 H2
        (fun j hj => by
          have h := HB1.out.byte j hj
          rw [List.getD_eq_getElem?_getD, List.getElem?_eq_getElem hj, Option.getD_some] at h
          rw [Nat.zero_add]
          exact h)
        (fun j hj => by
          have h := HB2.out.byte j hj
          rw [List.getD_eq_getElem?_getD, List.getElem?_eq_getElem hj, Option.getD_some] at h
          rw [Nat.zero_add]
          exact h)
      rwa [hH1, hH2] at hc)
    clear h
    go_enter Try.func33, Try.ntmps33
    go_wp2_with (first
      | (with_reducible refine wpList_load_mid rfl 23 (.tmp 5) rfl w.heap.size 0 rfl (H1.map bv) _ la1 Try.underlying23 rfl hui1 ?_)
      | (with_reducible refine wpList_load_mid rfl 23 (.tmp 7) rfl (w.heap.size + 1) 0 rfl (H2.map bv) _ la2 Try.underlying23 rfl hui2 ?_))
    rw [HW.out]
    go_quiet ((go_at_call 39; exact Calls.quiet_of_same (HBC.out _)))
    go_wp2
    go_ret
    exact ⟨ret_int HE.out.symm, _, _, by rw [HG.out]; rfl⟩

theorem Fr.ofGrow (w : World) (q : Nat) (os : Array Obj) : Fr (fun _ => False) w (grow (w.drewN q) os) :=
  ⟨rfl, rfl, rfl, by simp [grow, World.drewN], fun i hi _ => by
    show ((w.drewN q).heap ++ os)[i]? = w.heap[i]?
    rw [Array.getElem?_append_left (by exact hi)]
    rfl⟩

set_option maxRecDepth 100000 in
set_option maxHeartbeats 2000000 in
theorem bLess_any (H1 : List UInt8) (N1 : ByteArray) (H2 : List UInt8) (N2 : ByteArray) (hH1 : H1.length = 20) (hH2 : H2.length = 20) (w : World) :
    Calls Try.prog 21 #[.agg (pathC H1 N1), .agg (pathC H2 N2)] w fun e w' => e = .returned (.bool (lessP H1 N1 H2 N2)) ∧ Fr (fun _ => False) w w' := by
  obtain ⟨C1, hC1⟩ : ∃ C, C = pathC H1 N1 := ⟨_, rfl⟩
  obtain ⟨C2, hC2⟩ : ∃ C, C = pathC H2 N2 := ⟨_, rfl⟩
  have HR := Lib.hid (ord_less H1 N1 H2 N2)
  have HO := Lib.hid (fun W => order_any H1 N1 H2 N2 hH1 hH2 W)
  obtain ⟨z, hz⟩ : ∃ z, z = ordP H1 N1 H2 N2 := ⟨_, rfl⟩
  rw [← hz] at HR HO
  have hs1 : C1.size = 21 := by rw [hC1]; exact pathC_size H1 hH1 N1
  have hs2 : C2.size = 21 := by rw [hC2]; exact pathC_size H2 hH2 N2
  have hi1 : (Try.prog.info? 25).map (·.size) = some C1.size := by rw [hs1]; kernel_rfl
  have hi2 : (Try.prog.info? 25).map (·.size) = some C2.size := by rw [hs2]; kernel_rfl
  have hg1 := heap_alloc2_old w (.cells C1 25) (.cells C2 25)
  have hg2 := heap_alloc2_new w (.cells C1 25) (.cells C2 25)
  rw [← hC1, ← hC2] at HO ⊢
  have hzr := ord_range H1 N1 H2 N2
  rw [← hz] at hzr
  clear hC1 hC2 hs1 hs2 hz
  go_enter Try.func21, Try.ntmps21
  go_wp2_with (first
    | (with_reducible refine wpList_load_row rfl 25 (.tmp 2) rfl w.heap.size rfl 25 C1 (0, 0) _ hg1 Try.underlying25 rfl hi1 ?_)
    | (with_reducible refine wpList_load_row rfl 25 (.tmp 3) rfl (w.heap.size + 1) rfl 25 C2 (0, 0) _ hg2 Try.underlying25 rfl hi2 ?_)
    | (go_at_call 33; refine (HO.out _).mono ?_; rintro e w' ⟨rfl, q, os, rfl⟩))
  go_ret
  exact ⟨ret_bool HR.out, (((Fr.refl _ w).alloc _).alloc _).trans (Fr.ofGrow _ q os) (fun _ h => h.elim)⟩
end Go.Proofs.Ytdmlalnekjihfaa
