/- Laid together: BOrder HashL BParse RunB PathX KeysX OwnP -/
import Derived.Test.YtfkgdjoaoidkeaaRg3
import Derived.Test.YtfkgdjoaoidkeaaRg0
import Derived.Lib.TrimU
import Derived.Test.YtfkgdjoaoidkeaaRg1
import Derived.Test.YtfkgdjoaoidkeaaShelf
import Derived.Test.YtfkgdjoaoidkeaaShelfS
import Derived.Lib.BytesEntry
import Derived.Laws.Externs
import Derived.StillTailTactics
import Derived.Deep.MidRow
import Derived.Laws.Tables

namespace Go.Proofs.Ytfkgdjoaoidkeaa
open Go.RowKit Go.ChangeShapes Go.Sort
set_option linter.unusedVariables false
theorem cmp_less : ∀ (a b : List UInt8), decide (Lib.compareBytes a b < 0) = Op.bytesLess a b
  | [], [] => rfl
  | [], _ :: _ => by simp [Lib.compareBytes, Op.bytesLess]
  | _ :: _, [] => by simp [Lib.compareBytes, Op.bytesLess]
  | x :: a, y :: b => by
    have ih := cmp_less a b
    unfold Lib.compareBytes Op.bytesLess
    by_cases h1 : x < y
    · simp [h1]
    · by_cases h2 : y < x
      · have : ¬ x = y := by rintro rfl; exact h1 h2
        simp [h1, h2, this]
      · have e : x = y := UInt8.le_antisymm (UInt8.not_lt.1 h2) (UInt8.not_lt.1 h1)
        subst e
        rw [if_neg h1, if_neg h1, ih]
        simp
theorem cmp_range : ∀ (a b : List UInt8), -1 ≤ Lib.compareBytes a b ∧ Lib.compareBytes a b ≤ 1
  | [], [] => by simp [Lib.compareBytes]
  | [], _ :: _ => by simp [Lib.compareBytes]
  | _ :: _, [] => by simp [Lib.compareBytes]
  | x :: a, y :: b => by
    have ih := cmp_range a b
    unfold Lib.compareBytes
    split
    · omega
    · split
      · omega
      · exact ih
def ordP (H1 : List UInt8) (N1 : ByteArray) (H2 : List UInt8) (N2 : ByteArray) : Int :=
  if H1 = H2 then Lib.compareBytes N1.data.toList N2.data.toList else Lib.compareBytes H1 H2
theorem ord_range (H1 : List UInt8) (N1 : ByteArray) (H2 : List UInt8) (N2 : ByteArray) : -1 ≤ ordP H1 N1 H2 N2 ∧ ordP H1 N1 H2 N2 ≤ 1 := by
  unfold ordP
  split
  · exact cmp_range _ _
  · exact cmp_range _ _
theorem ord_less (H1 : List UInt8) (N1 : ByteArray) (H2 : List UInt8) (N2 : ByteArray) : decide (ordP H1 N1 H2 N2 < 0) = lessP H1 N1 H2 N2 := by
  unfold ordP lessP
  rw [Go.ByteArray.toList_eq, Go.ByteArray.toList_eq]
  by_cases h : H1 = H2
  · subst h
    rw [if_pos rfl, cmp_less]
    simp [less_irrefl]
  · rw [if_neg h, cmp_less]
    have : (H1 == H2) = false := by rw [beq_eq_false_iff_ne]; exact h
    simp [this]
theorem run_compare (w : World) (b1 o1 c1 b2 o2 c2 : Nat) (L1 L2 : List UInt8) (h1 : ∀ j (hj : j < L1.length), w.cell? ⟨b1, o1 + j, none⟩ = some (bv L1[j])) (h2 : ∀ j (hj : j < L2.length), w.cell? ⟨b2, o2 + j, none⟩ = some (bv L2[j])) :
    (Extern.BytealgCompare.compare #[.slice (some ⟨b1, o1, none⟩) L1.length c1, .slice (some ⟨b2, o2, none⟩) L2.length c2]).run Try.prog w = .ok (.int .i64 (Lib.compareBytes L1 L2)) w := by
  have hl : ∀ (b o : Nat) (L : List UInt8), (∀ j (hj : j < L.length), w.cell? ⟨b, o + j, none⟩ = some (bv L[j])) → (Extern.Bytes.loadBytes ⟨b, o, none⟩ L.length .empty).run Try.prog w = .ok ⟨L.toArray⟩ w := fun b o L h => by
    have e := Lib.run_loadBytesX (P := Try.prog) w (L.map fun x => (x.toNat : Int)) ⟨b, o, none⟩ .empty (fun j x hx => by
      rw [List.getElem?_map] at hx
      obtain ⟨y, hy, rfl⟩ := Option.map_eq_some_iff.1 hx
      obtain ⟨hj, rfl⟩ := List.getElem?_eq_some_iff.1 hy
      rw [addr_plain]
      exact h j hj)
    rw [List.length_map] at e
    rw [e]
    congr 1
    apply ByteArray.ext
    have h2 : (Lib.bytesOf (L.map fun x => (x.toNat : Int))) = L := by
      simp only [Lib.bytesOf, List.map_map]
      conv => rhs; rw [← List.map_id L]
      apply List.map_congr_left
      intro x _
      simp
    rw [h2]
    show (#[] ++ L.toArray) = L.toArray
    simp
  change Sem.run _ (do pure (goInt (Extern.BytealgCompare.cmp (← Extern.Bytes.bytesOf (.slice (some ⟨b1, o1, none⟩) L1.length c1)) (← Extern.Bytes.bytesOf (.slice (some ⟨b2, o2, none⟩) L2.length c2))))) w = _
  simp only [Extern.Bytes.bytesOf, Sem.run_bind, hl _ _ _ h1, hl _ _ _ h2, Sem.run_pure, Result.andThen]
  rw [Lib.cmp_eq]
  rfl
set_option maxHeartbeats 1000000 in
theorem bcompare_any (w : World) (b1 o1 c1 b2 o2 c2 : Nat) (L1 L2 : List UInt8) (h1 : ∀ j (hj : j < L1.length), w.cell? ⟨b1, o1 + j, none⟩ = some (bv L1[j])) (h2 : ∀ j (hj : j < L2.length), w.cell? ⟨b2, o2 + j, none⟩ = some (bv L2[j])) :
    Calls Try.prog 31 #[.slice (some ⟨b1, o1, none⟩) L1.length c1, .slice (some ⟨b2, o2, none⟩) L2.length c2] w fun e w' => e = .returned (.int .i64 (Lib.compareBytes L1 L2)) ∧ w' = w := by
  have hr := run_compare w b1 o1 c1 b2 o2 c2 L1 L2 h1 h2
  have he := run_callFunc_extern (P := Try.prog) (f := 41) Try.func41 (by kernel_rfl) (by kernel_rfl) (by kernel_rfl) (e := Extern.BytealgCompare.compare) (by kernel_rfl)
  have HH := Lib.hid (he #[.slice (some ⟨b1, o1, none⟩) L1.length c1, .slice (some ⟨b2, o2, none⟩) L2.length c2] w)
  have HR := Lib.hid hr
  clear h1 h2 hr he
  go_enter Try.func31, Try.ntmps31
  go_wp2
  rw [HH.out, HR.out]
  simp only [Result.andThen]
  rw [Oper.upon_value]
  go_wp2
  go_ret
  exact ⟨rfl, rfl⟩
theorem run_eql_hash (w : World) (A Bb : List UInt8) (hA : A.length = 20) (hB : Bb.length = 20) : (binOp .eql 24 (.agg (A.map bv).toArray) (.agg (Bb.map bv).toArray)).run Try.prog w = .ok (.bool (A == Bb)) w :=
  run_eql_arr w 24 20 A Bb Try.underlying24 hA hB
set_option maxRecDepth 100000 in
set_option maxHeartbeats 2000000 in
theorem order_any (H1 : List UInt8) (N1 : ByteArray) (H2 : List UInt8) (N2 : ByteArray) (hH1 : H1.length = 20) (hH2 : H2.length = 20) (w : World) :
    Calls Try.prog 23 #[.agg (pathC H1 N1), .agg (pathC H2 N2)] w fun e w' => e = .returned (.int .i64 (ordP H1 N1 H2 N2)) ∧ ∃ q os, w' = grow (w.drewN q) os := by
  obtain ⟨C1, hC1⟩ : ∃ C, C = pathC H1 N1 := ⟨_, rfl⟩
  obtain ⟨C2, hC2⟩ : ∃ C, C = pathC H2 N2 := ⟨_, rfl⟩
  obtain ⟨W, hW⟩ : ∃ W, W = (w.alloc (.cells C1 37)).alloc (.cells C2 37) := ⟨_, rfl⟩
  have HB1 := Lib.hid (show PathT W w.heap.size H1 N1 by rw [hW, hC1]; exact heap_alloc2_old w _ _)
  have HB2 := Lib.hid (show PathT W (w.heap.size + 1) H2 N2 by rw [hW, hC2]; exact heap_alloc2_new w _ _)
  have HG := Lib.hid (show W = grow w #[.cells C1 37, .cells C2 37] by rw [hW, alloc_eq_grow, alloc_eq_grow, grow_grow]; rfl)
  have HW := Lib.hid hW.symm
  have hra1 := HB1.out.range
  have hra2 := HB2.out.range
  have hn1 := HB1.out.name hH1
  have hn2 := HB2.out.name hH2
  have hui1 : (Try.prog.info? 24).map (·.size) = some (H1.map bv).length := by rw [List.length_map, hH1]; kernel_rfl
  have hui2 : (Try.prog.info? 24).map (·.size) = some (H2.map bv).length := by rw [List.length_map, hH2]; kernel_rfl
  have huu := Try.underlying24
  have hgd := fun W => run_eqGuard_agg (P := Try.prog) W .eql 24
  have la1 : ((w.alloc (.cells C1 37)).alloc (.cells C2 37)).rangeAt w.heap.size 0 (H1.map bv) := by rw [HW.out]; exact hra1
  have la2 : ((w.alloc (.cells C1 37)).alloc (.cells C2 37)).rangeAt (w.heap.size + 1) 0 (H2.map bv) := by rw [HW.out]; exact hra2
  have ln1 : ((w.alloc (.cells C1 37)).alloc (.cells C2 37)).cell? ⟨w.heap.size, 20, none⟩ = some (.string N1) := by rw [HW.out]; exact hn1
  have ln2 : ((w.alloc (.cells C1 37)).alloc (.cells C2 37)).cell? ⟨w.heap.size + 1, 20, none⟩ = some (.string N2) := by rw [HW.out]; exact hn2
  rw [← hC1, ← hC2]
  clear hC1 hC2 hW hra1 hra2 hn1 hn2
  by_cases h : H1 = H2
  · have HE := Lib.hid (show ordP H1 N1 H2 N2 = Lib.compareBytes N1.data.toList N2.data.toList by rw [ordP, if_pos h])
    have heq : ∀ W, (binOp .eql 24 (.agg (H1.map bv).toArray) (.agg (H2.map bv).toArray)).run Try.prog W = .ok (.bool true) W := fun W => by rw [run_eql_hash W H1 H2 hH1 hH2, h]; simp
    have HSC := Lib.hid (fun W => Try.strings_Compare N1 N2 W)
    clear h
    go_enter Try.func23, Try.ntmps23
    go_wp2_with (first
      | (with_reducible refine wpList_load_mid rfl 24 (.tmp 5) rfl w.heap.size 0 rfl (H1.map bv) _ la1 Try.underlying24 rfl hui1 ?_)
      | (with_reducible refine wpList_load_mid rfl 24 (.tmp 7) rfl (w.heap.size + 1) 0 rfl (H2.map bv) _ la2 Try.underlying24 rfl hui2 ?_)
      | (go_at_call 30; rw [HW.out]; refine (HSC.out _).mono ?_; rintro e w' ⟨rfl, rfl⟩))
    go_ret
    exact ⟨ret_int HE.out.symm, 0, _, HG.out⟩
  · have HE := Lib.hid (show ordP H1 N1 H2 N2 = Lib.compareBytes H1 H2 by rw [ordP, if_neg h])
    have heq : ∀ W, (binOp .eql 24 (.agg (H1.map bv).toArray) (.agg (H2.map bv).toArray)).run Try.prog W = .ok (.bool false) W := fun W => by
      rw [run_eql_hash W H1 H2 hH1 hH2]
      have : (H1 == H2) = false := by rw [beq_eq_false_iff_ne]; exact h
      rw [this]
    have HBC := Lib.hid (fun q => show Calls Try.prog 31 #[.slice (some ⟨w.heap.size, 0, none⟩) 20 20, .slice (some ⟨w.heap.size + 1, 0, none⟩) 20 20] (W.drewN q) fun e w' => e = .returned (.int .i64 (Lib.compareBytes H1 H2)) ∧ w' = W.drewN q by
      have hc := bcompare_any (W.drewN q) w.heap.size 0 20 (w.heap.size + 1) 0 20 H1 H2
        (fun j hj => by
          have h := HB1.out.byte j hj
          rw [List.getD_eq_getElem?_getD, List.getElem?_eq_getElem hj, Option.getD_some] at h
          rw [Nat.zero_add]
          exact h)
        (fun j hj => by
          have h := HB2.out.byte j hj
          rw [List.getD_eq_getElem?_getD, List.getElem?_eq_getElem hj, Option.getD_some] at h
          rw [Nat.zero_add]
          exact h)
      rwa [hH1, hH2] at hc)
    clear h
    go_enter Try.func23, Try.ntmps23
    go_wp2_with (first
      | (with_reducible refine wpList_load_mid rfl 24 (.tmp 5) rfl w.heap.size 0 rfl (H1.map bv) _ la1 Try.underlying24 rfl hui1 ?_)
      | (with_reducible refine wpList_load_mid rfl 24 (.tmp 7) rfl (w.heap.size + 1) 0 rfl (H2.map bv) _ la2 Try.underlying24 rfl hui2 ?_))
    rw [HW.out]
    go_quiet ((go_at_call 31; exact Calls.quiet_of_same (HBC.out _)))
    go_wp2
    go_ret
    exact ⟨ret_int HE.out.symm, _, _, by rw [HG.out]; rfl⟩
theorem Fr.ofGrow (w : World) (q : Nat) (os : Array Obj) : Fr (fun _ => False) w (grow (w.drewN q) os) :=
  ⟨rfl, rfl, rfl, by simp [grow, World.drewN], fun i hi _ => by
    show ((w.drewN q).heap ++ os)[i]? = w.heap[i]?
    rw [Array.getElem?_append_left (by exact hi)]
    rfl⟩
set_option maxRecDepth 100000 in
set_option maxHeartbeats 2000000 in
theorem bLess_any (H1 : List UInt8) (N1 : ByteArray) (H2 : List UInt8) (N2 : ByteArray) (hH1 : H1.length = 20) (hH2 : H2.length = 20) (w : World) :
    Calls Try.prog 14 #[.agg (pathC H1 N1), .agg (pathC H2 N2)] w fun e w' => e = .returned (.bool (lessP H1 N1 H2 N2)) ∧ Fr (fun _ => False) w w' := by
  obtain ⟨C1, hC1⟩ : ∃ C, C = pathC H1 N1 := ⟨_, rfl⟩
  obtain ⟨C2, hC2⟩ : ∃ C, C = pathC H2 N2 := ⟨_, rfl⟩
  have HR := Lib.hid (ord_less H1 N1 H2 N2)
  have HO := Lib.hid (fun W => order_any H1 N1 H2 N2 hH1 hH2 W)
  obtain ⟨z, hz⟩ : ∃ z, z = ordP H1 N1 H2 N2 := ⟨_, rfl⟩
  rw [← hz] at HR HO
  have hs1 : C1.size = 21 := by rw [hC1]; exact pathC_size H1 hH1 N1
  have hs2 : C2.size = 21 := by rw [hC2]; exact pathC_size H2 hH2 N2
  have hi1 : (Try.prog.info? 37).map (·.size) = some C1.size := by rw [hs1]; kernel_rfl
  have hi2 : (Try.prog.info? 37).map (·.size) = some C2.size := by rw [hs2]; kernel_rfl
  have hg1 := heap_alloc2_old w (.cells C1 37) (.cells C2 37)
  have hg2 := heap_alloc2_new w (.cells C1 37) (.cells C2 37)
  rw [← hC1, ← hC2] at HO ⊢
  have hzr := ord_range H1 N1 H2 N2
  rw [← hz] at hzr
  clear hC1 hC2 hs1 hs2 hz
  go_enter Try.func14, Try.ntmps14
  go_wp2_with (first
    | (with_reducible refine wpList_load_row rfl 37 (.tmp 2) rfl w.heap.size rfl 37 C1 (0, 0) _ hg1 Try.underlying37 rfl hi1 ?_)
    | (with_reducible refine wpList_load_row rfl 37 (.tmp 3) rfl (w.heap.size + 1) rfl 37 C2 (0, 0) _ hg2 Try.underlying37 rfl hi2 ?_)
    | (go_at_call 23; refine (HO.out _).mono ?_; rintro e w' ⟨rfl, q, os, rfl⟩))
  go_ret
  exact ⟨ret_bool HR.out, (((Fr.refl _ w).alloc _).alloc _).trans (Fr.ofGrow _ q os) (fun _ h => h.elim)⟩
end Go.Proofs.Ytfkgdjoaoidkeaa
namespace Go.Proofs.Ytfkgdjoaoidkeaa
def valN (c : UInt8) : Nat := (valI c).toNat
def hashBit (S : List UInt8) (p : Nat) : Nat := valN (S.getD (p / 5) 0) / 2 ^ (p % 5) % 2
def hbyte (S : List UInt8) (j m : Nat) : Nat → Nat
  | 0 => 0
  | t + 1 => hbyte S j m t + (if 8 * m + t < j then hashBit S (8 * m + t) * 2 ^ t else 0)
def hB (S : List UInt8) (j m : Nat) : Nat := hbyte S j m 8
end Go.Proofs.Ytfkgdjoaoidkeaa
namespace Go.Proofs.Ytfkgdjoaoidkeaa
open Go.RowKit Go.ChangeShapes
set_option linter.unusedVariables false
theorem Fr.new {w w' : World} (h : Below w.heap.size w w') : Fr (fun _ => False) w w' := (Fr.ofBelow h).mono (fun i hi h => absurd hi (by omega))
end Go.Proofs.Ytfkgdjoaoidkeaa
namespace Go.Proofs.Ytfkgdjoaoidkeaa
open Go.RowKit Go.ChangeShapes
set_option linter.unusedVariables false
section
variable {P : Program} {w : World} {o : Oper} {a : Act}
theorem op_fieldAddr {s : TypeId} {x : Operand} {f : Nat} {vx v : Value} (ho : o.op = .fieldAddr s x f) (hx : a.eval x = vx) (hr : (Instr.fieldAt s vx f).run P w = .ok v w) : (execOp a.eval o).run P w = .ok (.value v) w := by
  unfold execOp
  rw [ho]
  simp only [hx, Sem.run_bind, hr, Result.andThen_ok]
  rfl
theorem op_loadAt {t : TypeId} {x : Operand} {vx v : Value} (ho : o.op = .load t x) (hx : a.eval x = vx) (hr : (Instr.loadAt t vx).run P w = .ok v w) : (execOp a.eval o).run P w = .ok (.value v) w := by
  unfold execOp
  rw [ho]
  simp only [hx, Sem.run_bind, hr, Result.andThen_ok]
  rfl
theorem op_unop {t : TypeId} {op : UnOp} {x : Operand} {vx v : Value} (ho : o.op = .unOp op t x) (hx : a.eval x = vx) (hr : (Op.unary op vx).run P w = .ok v w) : (execOp a.eval o).run P w = .ok (.value v) w := by
  unfold execOp
  rw [ho]
  simp only [hx, Sem.run_bind, hr, Result.andThen_ok]
  rfl
theorem op_indexAddr {t : TypeId} {x i : Operand} {vx vi v : Value} (ho : o.op = .indexAddr t x i) (hx : a.eval x = vx) (hi : a.eval i = vi) (hr : (Instr.indexAt t vx vi).run P w = .ok v w) : (execOp a.eval o).run P w = .ok (.value v) w := by
  unfold execOp
  rw [ho]
  simp only [hx, hi, Sem.run_bind, hr, Result.andThen_ok]
  rfl
end
theorem guard_bool (w : World) (op : BinOp) (T : TypeId) (x y : Operand) (A Bb : Bool) : (eqGuard op T x y (.bool A) (.bool Bb)).run Try.prog w = .ok () w := by cases op <;> rfl
def Rows (w : World) (l : List (Nat × Array Value × TypeId)) : Prop := ∀ x ∈ l, w.heap[x.1]? = some (.cells x.2.1 x.2.2 (0, 0))
theorem Rows.keep {w w' : World} {l : List (Nat × Array Value × TypeId)} (h : Rows w l) (hf : Fr (fun _ => False) w w') : Rows w' l := fun x hx => hf.heap (h x hx) (fun h => h)
theorem Rows.laid {w : World} {l : List (Nat × Array Value × TypeId)} (h : Rows w l) (Z C : Array Value) (T : TypeId) : Rows ((w.alloc (.cells Z T)).setRow w.heap.size C) ((w.heap.size, C, T) :: l) := by
  intro x hx
  rcases List.mem_cons.1 hx with rfl | hx
  · exact setRow_heap (w.alloc (.cells Z T)) w.heap.size Z C T (0, 0) (heap_alloc_new w _)
  · exact (h.keep (((Fr.refl (fun _ => False) w).alloc (.cells Z T)).setRow (.inr (Nat.le_refl _)) C)) x hx
theorem Fr.laid (w : World) (Z C : Array Value) (T : TypeId) : Fr (fun _ => False) w ((w.alloc (.cells Z T)).setRow w.heap.size C) := ((Fr.refl (fun _ => False) w).alloc (.cells Z T)).setRow (.inr (Nat.le_refl _)) C
end Go.Proofs.Ytfkgdjoaoidkeaa
namespace Go.Proofs.Ytfkgdjoaoidkeaa
open Go.RowKit Go.ChangeShapes Go.WideShapes Go.Deep
set_option linter.unusedVariables false
structure PathX where
  h : List UInt8
  n : ByteArray
  hl : h.length = 20
instance : Inhabited PathX := ⟨⟨List.replicate 20 0, ⟨#[]⟩, rfl⟩⟩
theorem PathX.ext {x y : PathX} (h1 : x.h = y.h) (h2 : x.n = y.n) : x = y := by
  obtain ⟨a, b, c⟩ := x
  obtain ⟨a', b', c'⟩ := y
  simp only at h1 h2
  subst h1
  subst h2
  rfl
instance : DecidableEq PathX := fun x y =>
  if h : x.h = y.h ∧ x.n = y.n then .isTrue (PathX.ext h.1 h.2) else .isFalse (fun e => h (by rw [e]; exact ⟨rfl, rfl⟩))
def cellsX (x : PathX) : List Value := x.h.map bv ++ [Value.string x.n]
theorem cellsX_length (x : PathX) : (cellsX x).length = 21 := by simp [cellsX, x.hl]
theorem cellsX_one (x : PathX) : ∀ v ∈ cellsX x, v.oneCell' = true := by
  intro v hv
  rcases List.mem_append.1 hv with h | h
  · exact bv_one _ v h
  · obtain rfl := List.mem_singleton.1 h
    rfl
theorem cellsX_C (x : PathX) : (cellsX x).toArray = pathC x.h x.n := rfl
def PathsIn (F : Nat → Prop) (w : World) (v : Value) (L : List PathX) : Prop :=
  ∃ ao cap, v = .slice ao L.length cap ∧ L.length ≤ cap ∧ cap ≤ maxLen ∧ (ao = none → cap = 0) ∧
    (L ≠ [] → ∃ b off, ao = some ⟨b, off, none⟩ ∧ F b ∧ ∀ i (h : i < L.length), w.rangeAt b (off + i * 21) (cellsX L[i]))
theorem Fr.range {S : Nat → Prop} {w w' : World} {b o : Nat} {cs : List Value} (hf : Fr S w w') (h : w.rangeAt b o cs) (hb : ¬ S b) : w'.rangeAt b o cs := fun j v hv => by
  exact hf.cell (h j v hv) hb
theorem PathsIn.keep {F S : Nat → Prop} {w w' : World} {v : Value} {L : List PathX} (h : PathsIn F w v L) (hf : Fr S w w') (hd : ∀ k, k < w.heap.size → F k → ¬ S k) : PathsIn F w' v L := by
  obtain ⟨ao, cap, rfl, h1, h2, h3, h4⟩ := h
  refine ⟨ao, cap, rfl, h1, h2, h3, fun hL => ?_⟩
  obtain ⟨b, off, rfl, hb, hr⟩ := h4 hL
  refine ⟨b, off, rfl, hb, fun i hi => hf.range (hr i hi) (hd b ?_ hb)⟩
  have hp : 0 < L.length := List.length_pos_iff.2 hL
  have h0 := hr 0 hp 20 (.string L[0].n) (by simp [cellsX, L[0].hl])
  exact World.block_lt_of_cell? _ _ h0
theorem PathsIn.mono {F G : Nat → Prop} {w : World} {v : Value} {L : List PathX} (h : PathsIn F w v L) (hd : ∀ k, k < w.heap.size → F k → G k) : PathsIn G w v L := by
  obtain ⟨ao, cap, rfl, h1, h2, h3, h4⟩ := h
  refine ⟨ao, cap, rfl, h1, h2, h3, fun hL => ?_⟩
  obtain ⟨b, off, rfl, hb, hr⟩ := h4 hL
  have hp : 0 < L.length := List.length_pos_iff.2 hL
  have h0 := hr 0 hp 20 (.string L[0].n) (by simp [cellsX, L[0].hl])
  exact ⟨b, off, rfl, hd b (World.block_lt_of_cell? _ _ h0) hb, hr⟩
theorem PathsIn.nil (F : Nat → Prop) (w : World) : PathsIn F w (.slice none 0 0) [] := ⟨none, 0, rfl, Nat.le_refl _, by simp [maxLen], fun _ => rfl, fun h => absurd rfl h⟩
theorem Try.cellsH : Try.prog.cellsOf 24 = 20 := by kernel_rfl
theorem Try.cellsS : Try.prog.cellsOf 9 = 1 := by kernel_rfl
theorem Try.cellsP : Try.prog.cellsOf 37 = 21 := by kernel_rfl
theorem Try.bytesP : Try.prog.bytesOf 37 = 40 := by kernel_rfl
section
variable {H : Type} {enc : TypeId × Value → H} {w : World} {base fuel : Nat} {held : Bool} {cs : List Value} {x : DataW H × List MemPlace}
theorem open_path (h : DataW.trod enc Try.prog w base (fun _ => true) held fuel 37 cs = some x) (hz : ∀ n ∈ x.1.weights Try.prog 37, n ≤ reachBytes) :
    ∃ p : PathX, cs = cellsX p ∧ p.n.size ≤ 140737488351232 := by
  obtain ⟨y0, y1, n, rfl, hl, hh, hn⟩ := trod_struct2 Try.underlying37 h
  simp only [Try.cellsH, Try.cellsS, List.drop_zero] at hh hn
  rw [Try.cellsP] at hl
  obtain ⟨Hh, hH, eH⟩ := open_arr Try.underlying24 Try.cellsH hh
  obtain ⟨N, eN, rfl, _⟩ := DataW.trod_string Try.underlying9 hn
  have hN : N.size ≤ 140737488351232 := by
    have hm := hz N.data.toList.length (by
      simp only [DataW.weights, Try.underlying37, List.map_cons, List.map_nil, DataW.weightsEach, List.mem_append]
      exact .inr (by simp))
    simpa [reachBytes] using hm
  refine ⟨⟨Hh, N, hH⟩, ?_, hN⟩
  have e : cs = cs.take 20 ++ (cs.drop 20).take 1 := by
    conv => lhs; rw [← List.take_append_drop 20 cs]
    congr 1
    rw [List.take_of_length_le (by rw [List.length_drop]; omega)]
  rw [e, eH, eN]
  rfl
theorem open_paths (h : DataW.trod enc Try.prog w base (fun _ => true) held fuel 35 cs = some x) (hz : ∀ n ∈ x.1.weights Try.prog 35, n ≤ reachBytes) :
    ∃ v L, cs = [v] ∧ PathsIn (fun k => k < w.heap.size) w v L ∧ L.length ≤ 140737488351232 ∧ ∀ p ∈ L, p.n.size ≤ 140737488351232 := by
  rcases open_slice Try.underlying35 h with ⟨rfl, _⟩ | ⟨a, len, cap, m, n, D, Pl, rfl, _, hl, hm, hmm, hx, hi⟩
  · exact ⟨_, [], rfl, PathsIn.nil _ _, by simp, by simp⟩
  · simp only [if_true] at hmm
    subst hmm
    rw [Try.cellsP] at hi
    have hw : ∀ k ∈ DataW.weightsAll Try.prog 37 ((List.range len).map D), k ≤ reachBytes := fun k hk => hz k (by
      rw [hx]; simp only [DataW.weights, Try.underlying35, List.mem_cons, List.mem_append]; exact .inr (.inl hk))
    have hm2 : m * 40 ≤ 140737488351232 := by
      have := hz ((len + (m - len)) * 40) (by rw [hx]; simp [DataW.weights, Try.underlying35, Try.bytesP])
      simp only [reachBytes] at this
      omega
    by_cases h0 : len = 0
    · subst h0
      refine ⟨_, [], rfl, ⟨some a, m, rfl, Nat.zero_le _, by unfold maxLen; omega, by simp, fun h => absurd rfl h⟩, by simp, by simp⟩
    · obtain ⟨b, off, spot⟩ := a
      have hone' : ∀ i, i < len → ∃ p : PathX, p.n.size ≤ 140737488351232 ∧ ∀ j v, (cellsX p)[j]? = some v → w.cell? ((((⟨b, off, spot⟩ : Addr).add (i * 21))).add j) = some v := by
        intro i hil
        obtain ⟨cs', hc, ht⟩ := hi i (by omega)
        obtain ⟨_, hcl, hat⟩ := World.cells?_some hc
        obtain ⟨p, rfl, hp⟩ := open_path ht (fun k hk => hw k (mem_weightsAll (List.mem_map_of_mem (List.mem_range.2 hil)) k hk))
        refine ⟨p, hp, fun j v hv => ?_⟩
        have hj := (List.getElem?_eq_some_iff.1 hv).1
        have := hat j (by omega)
        rw [this, hv]
      have hs : spot = none := by
        obtain ⟨p, _, hc⟩ := hone' 0 (by omega)
        have h0 := hc 0 ((cellsX p)[0]'(by rw [cellsX_length]; omega)) (List.getElem?_eq_getElem _)
        simpa [Addr.add] using World.cell?_spot h0
      subst hs
      have hone : ∀ i, ∃ p : PathX, i < len → p.n.size ≤ 140737488351232 ∧ w.rangeAt b (off + i * 21) (cellsX p) := by
        intro i
        by_cases hil : i < len
        · obtain ⟨p, hp, hc⟩ := hone' i hil
          refine ⟨p, fun _ => ⟨hp, fun j v hv => ?_⟩⟩
          have := hc j v hv
          rwa [addr_plain, addr_plain] at this
        · exact ⟨default, fun h => absurd h hil⟩
      obtain ⟨f, hf⟩ := Classical.axiomOfChoice hone
      have hlen : ((List.range len).map f).length = len := by simp
      have hbk : b < w.heap.size := World.block_lt_of_cell? _ _ ((hf 0 (by omega)).2 20 (.string (f 0).n) (by simp [cellsX, (f 0).hl]))
      refine ⟨_, (List.range len).map f, rfl, ⟨some ⟨b, off, none⟩, m, by rw [hlen], by rw [hlen]; exact hl, by unfold maxLen; omega, (fun h => by cases h), fun _ => ⟨b, off, rfl, hbk, fun i hi => ?_⟩⟩, by rw [hlen]; omega, ?_⟩
      · have : i < len := by omega
        simpa using (hf i this).2
      · intro p hp
        obtain ⟨i, hi, rfl⟩ := List.mem_map.1 hp
        exact (hf i (List.mem_range.1 hi)).1
end
end Go.Proofs.Ytfkgdjoaoidkeaa
namespace Go.Proofs.Ytfkgdjoaoidkeaa
open Go.RowKit Go.ChangeShapes Go.WideMaps Go.Maps
set_option linter.unusedVariables false
theorem mapM_some {α β : Type} {f : α → Option β} {g : α → β} : ∀ {l : List α}, (∀ x ∈ l, f x = some (g x)) → l.mapM f = some (l.map g)
  | [], _ => rfl
  | x :: l, h => by
    rw [List.mapM_cons, h x (by simp), mapM_some (l := l) (fun y hy => h y (by simp [hy]))]
    rfl
theorem keyLits_u8 (m : Nat) (x : UInt8) : Try.prog.keyLits (m + 1) 5 [bv x] = some [.int .u8 x.toNat] := by
  have hx := x.toNat_lt
  have hw : (Lit.int .u8 (x.toNat : Int)).wf = true := by simp [Lit.wf, IntKind.min, IntKind.max, IntKind.bits, IntKind.signed]; omega
  simp [Program.keyLits, Try.underlying5, bv, hw]
theorem keyLits_str (m : Nat) (s : ByteArray) (h : s.size ≤ maxLen) : Try.prog.keyLits (m + 1) 9 [.string s] = some [.string s.data.toList] := by
  simp [Program.keyLits, Try.underlying9, h]
theorem keyLits_hash (m : Nat) (H : List UInt8) (hH : H.length = 20) : Try.prog.keyLits (m + 2) 24 (H.map bv) = some ((List.range 20).map fun i => [Lit.int .u8 (H.getD i 0).toNat]).flatten := by
  have e : (List.range 20).mapM (fun i => Try.prog.keyLits (m + 1) 5 (((H.map bv).drop (i * Try.prog.cellsOf 5)).take (Try.prog.cellsOf 5))) = some ((List.range 20).map fun i => [Lit.int .u8 (H.getD i 0).toNat]) := by
    refine mapM_some (fun i hi => ?_)
    have hi := List.mem_range.1 hi
    rw [Try.cellsB, Nat.mul_one, List.drop_eq_getElem_cons (by rw [List.length_map]; omega)]
    simp only [List.take_succ_cons, List.take_zero, List.getElem_map]
    rw [keyLits_u8, List.getD_eq_getElem?_getD, List.getElem?_eq_getElem (by omega), Option.getD_some]
  unfold Program.keyLits
  simp only [Try.underlying24]
  rw [if_pos (by rw [Try.cellsH, List.length_map, hH]), e]
  rfl
def litsX (x : PathX) : List Lit := ((List.range 20).map fun i => [Lit.int .u8 (x.h.getD i 0).toNat]).flatten ++ [Lit.string x.n.data.toList]
theorem keyLits_path (m : Nat) (x : PathX) (h : x.n.size ≤ maxLen) : Try.prog.keyLits (m + 3) 37 (cellsX x) = some (litsX x) := by
  obtain ⟨f1, f2, hf, a, b⟩ := two_of_map path_fields
  simp only [Prod.mk.injEq] at a b
  obtain ⟨n1, t1, o1⟩ := a
  obtain ⟨n2, t2, o2⟩ := b
  have hu : Try.prog.underlying 37 = some (.struct (Try.prog.fieldsOf 37)) := by kernel_rfl
  have hall : (Try.prog.fieldsOf 37).all (·.name != "_") = true := by kernel_rfl
  have e1 : (cellsX x).take 20 = x.h.map bv := by
    rw [cellsX, List.take_append_of_le_length (by simp [x.hl]), List.take_of_length_le (by simp [x.hl])]
  have e2 : ((cellsX x).drop 20).take 1 = [.string x.n] := by
    rw [cellsX, List.drop_append, List.length_map, x.hl, List.drop_eq_nil_of_le (by simp [x.hl])]
    rfl
  have e : (Try.prog.fieldsOf 37).toList.mapM (fun f => Try.prog.keyLits (m + 2) f.type (((cellsX x).drop f.offset).take (Try.prog.cellsOf f.type))) = some [((List.range 20).map fun i => [Lit.int .u8 (x.h.getD i 0).toNat]).flatten, [.string x.n.data.toList]] := by
    rw [hf, List.mapM_cons, List.mapM_cons, List.mapM_nil, t1, t2, o1, o2, Try.cellsH, Try.cellsS, List.drop_zero, e1, e2, keyLits_hash m x.h x.hl, keyLits_str (m + 1) x.n h]
    rfl
  unfold Program.keyLits
  rw [hu]
  simp only []
  rw [if_pos ⟨by rw [Try.cellsP, cellsX_length], hall⟩, e]
  simp [litsX]
def keyX (x : PathX) : Lit := .string (keyBytes (litsX x))
theorem keyX_of (x : PathX) (h : x.n.size ≤ maxLen) : keyOf Try.prog 37 (.agg (pathC x.h x.n)) = some (keyX x) ∧ ∃ b, keyX x = .string b := by
  obtain ⟨m, hm⟩ : ∃ m, Try.prog.types.size + 1 = m + 3 := by
    have : 2 ≤ Try.prog.types.size := Nat.le_of_ble_eq_true (by kernel_rfl)
    exact ⟨Try.prog.types.size - 2, by omega⟩
  have hl := keyLits_path m x h
  have hu : Try.prog.underlying 37 = some (.struct (Try.prog.fieldsOf 37)) := by kernel_rfl
  have hk : Try.prog.keyType 37 = true := by kernel_rfl
  have hfm : Value.formed Try.prog 37 (.agg (pathC x.h x.n)) = true := by
    simp only [Value.formed, hu]
    rw [Try.cellsP, pathC_size x.h x.hl]
    rfl
  have e : keyOf Try.prog 37 (.agg (pathC x.h x.n)) = some (keyX x) := by
    unfold keyOf
    rw [hu]
    simp only []
    rw [hk, hfm, hm]
    simp only [Bool.and_self, if_true]
    have hc : (Value.agg (pathC x.h x.n)).cells.toList = cellsX x := rfl
    rw [hc, hl]
    rfl
  exact ⟨e, _, rfl⟩
theorem keyX_inj (x y : PathX) (hx : x.n.size ≤ maxLen) (hy : y.n.size ≤ maxLen) (h : keyX x = keyX y) : x = y := by
  have h1 := (keyX_of x hx).1
  have h2 := (keyX_of y hy).1
  rw [h] at h1
  have h3 := lawP.inj h1 h2
  injection h3 with h3
  have h4 := congrArg Array.toList h3
  simp only [pathC] at h4
  obtain ⟨a, b⟩ := List.append_inj h4 (by simp [x.hl, y.hl])
  refine PathX.ext ?_ (by simpa using b)
  refine List.map_inj_right (fun u v huv => ?_) |>.1 a
  have : (u.toNat : Int) = v.toNat := by
    injection huv
  exact UInt8.toNat_inj.1 (by omega)
theorem has_set (O : List PathX) (x : PathX) (hO : ∀ y ∈ O, y.n.size ≤ maxLen) (hx : x.n.size ≤ maxLen) : Maps.has (setOf (DataW.agg [] : DataW Unit) (O.map keyX)) (keyX x) = decide (x ∈ O) := by
  rw [has_setOf _ _ _ (fun l hl => by
    obtain ⟨y, hy, rfl⟩ := List.mem_map.1 hl
    obtain ⟨b, hb⟩ := (keyX_of y (hO y hy)).2
    rw [hb]
    trivial)]
  rw [Bool.eq_iff_iff, List.any_eq_true, decide_eq_true_iff]
  constructor
  · rintro ⟨l, hl, hs⟩
    obtain ⟨y, hy, rfl⟩ := List.mem_map.1 hl
    by_cases e : keyX y = keyX x
    · rw [← keyX_inj y x (hO y hy) hx e]
      exact hy
    · rw [sameKey_ne e] at hs
      cases hs
  · intro h
    refine ⟨keyX x, List.mem_map_of_mem h, ?_⟩
    obtain ⟨b, hb⟩ := (keyX_of x hx).2
    rw [hb]
    simp [Lit.sameKey]
def onceX : List PathX → List PathX → List PathX
  | O, [] => O
  | O, x :: l => onceX (if x ∈ O then O else O ++ [x]) l
def onceK (L : List PathX) (k : Nat) : List PathX := onceX [] (L.take k)
theorem onceX_snoc (O l : List PathX) (x : PathX) : onceX O (l ++ [x]) = (if x ∈ onceX O l then onceX O l else onceX O l ++ [x]) := by
  induction l generalizing O with
  | nil => rfl
  | cons y l ih => rw [List.cons_append, onceX, onceX, ih]
theorem onceK_succ (L : List PathX) (k : Nat) (h : k < L.length) : onceK L (k + 1) = (if L[k] ∈ onceK L k then onceK L k else onceK L k ++ [L[k]]) := by
  rw [onceK, onceK, List.take_succ_eq_append_getElem h, onceX_snoc]
theorem onceX_mem (O l : List PathX) (x : PathX) : x ∈ onceX O l ↔ x ∈ O ∨ x ∈ l := by
  induction l generalizing O with
  | nil => simp [onceX]
  | cons y l ih =>
    rw [onceX, ih]
    by_cases h : y ∈ O
    · rw [if_pos h, List.mem_cons]
      constructor
      · rintro (a | a)
        · exact .inl a
        · exact .inr (.inr a)
      · rintro (a | rfl | a)
        · exact .inl a
        · exact .inl h
        · exact .inr a
    · rw [if_neg h, List.mem_append, List.mem_singleton, List.mem_cons, or_assoc]
theorem onceK_mem (L : List PathX) (k : Nat) (x : PathX) : x ∈ onceK L k ↔ x ∈ L.take k := by simp [onceK, onceX_mem]
theorem onceX_nodup (O l : List PathX) (h : O.Nodup) : (onceX O l).Nodup := by
  induction l generalizing O with
  | nil => exact h
  | cons y l ih =>
    rw [onceX]
    refine ih _ ?_
    by_cases hy : y ∈ O
    · rw [if_pos hy]; exact h
    · rw [if_neg hy]
      exact List.nodup_append.2 ⟨h, by simp, fun a ha b hb => by
        obtain rfl := List.mem_singleton.1 hb
        rintro rfl
        exact hy ha⟩
theorem onceK_nodup (L : List PathX) (k : Nat) : (onceK L k).Nodup := onceX_nodup _ _ List.nodup_nil
theorem onceK_length (L : List PathX) (k : Nat) : (onceK L k).length ≤ k := by
  induction k with
  | zero => simp [onceK, onceX]
  | succ k ih =>
    by_cases h : k < L.length
    · rw [onceK_succ L k h]
      split
      · omega
      · rw [List.length_append, List.length_singleton]; omega
    · rw [onceK, List.take_of_length_le (by omega)]
      rw [onceK, List.take_of_length_le (by omega)] at ih
      omega
end Go.Proofs.Ytfkgdjoaoidkeaa
namespace Go.Proofs.Ytfkgdjoaoidkeaa
open Go.RowKit Go.ChangeShapes
set_option linter.unusedVariables false
def flatX (O : List PathX) : List Value := O.flatMap cellsX
theorem flatX_length (O : List PathX) : (flatX O).length = O.length * 21 := by
  induction O with
  | nil => rfl
  | cons x O ih =>
    rw [flatX, List.flatMap_cons, List.length_append, cellsX_length]
    rw [flatX] at ih
    rw [ih, List.length_cons]
    omega
theorem flatX_append (A Bb : List PathX) : flatX (A ++ Bb) = flatX A ++ flatX Bb := by simp [flatX]
theorem flatX_cell (O : List PathX) (v : Value) (hv : v ∈ flatX O) : v.oneCell' = true := by
  obtain ⟨x, _, h⟩ := List.mem_flatMap.1 hv
  exact cellsX_one x v h
theorem flatX_get (O : List PathX) (i j : Nat) (hi : i < O.length) (hj : j < 21) : (flatX O)[i * 21 + j]? = (cellsX O[i])[j]? := by
  induction O generalizing i with
  | nil => simp at hi
  | cons x O ih =>
    cases i with
    | zero =>
      rw [flatX, List.flatMap_cons, Nat.zero_mul, Nat.zero_add, List.getElem?_append_left (by rw [cellsX_length]; exact hj)]
      rfl
    | succ i =>
      rw [flatX, List.flatMap_cons, List.getElem?_append_right (by rw [cellsX_length]; omega), cellsX_length]
      have h := ih i (by simpa using hi)
      rw [flatX] at h
      rw [show (i + 1) * 21 + j - 21 = i * 21 + j by omega, h]
      rfl
def OwnP (F : Nat → Prop) (w : World) (v : Value) (O : List PathX) : Prop :=
  w.ownsRow 0 37 21 v O.length (flatX O) ∧ ∀ g, v.ownBlock = some g → F g
theorem OwnP.nil (F : Nat → Prop) (w : World) : OwnP F w (.slice none 0 0) [] := ⟨World.ownsRow_nil _ _ _ _, fun g h => by simp [Value.ownBlock] at h⟩
theorem OwnP.keep {F S : Nat → Prop} {w w' : World} {v : Value} {O : List PathX} (h : OwnP F w v O) (hf : Fr S w w') (hd : ∀ k, k < w.heap.size → F k → ¬ S k) : OwnP F w' v O := by
  refine ⟨⟨h.1.1, ?_⟩, h.2⟩
  rcases h.1.2 with h1 | ⟨g, cap, cur, hv, hb, hg, r⟩
  · exact .inl h1
  · exact .inr ⟨g, cap, cur, hv, hb, hf.heap hg (hd g (lt_of_block hg) (h.2 g (by rw [hv]; rfl))), r⟩
theorem OwnP.mono {F G : Nat → Prop} {w : World} {v : Value} {O : List PathX} (h : OwnP F w v O) (hd : ∀ k, k < w.heap.size → F k → G k) : OwnP G w v O :=
  ⟨h.1, fun g hg => hd g (h.1.lt g hg).2 (h.2 g hg)⟩
theorem OwnP.row {F : Nat → Prop} {w : World} {v : Value} {O : List PathX} (h : OwnP F w v O) :
    (v = .slice none 0 0 ∧ O = []) ∨ ∃ g cap cur, v = .slice (some ⟨g, 0, none⟩) O.length cap ∧ F g ∧ g < w.heap.size ∧ w.heap[g]? = some (.cells cur 37 (0, 0)) ∧ O.length ≤ cap ∧ cap ≤ maxLen ∧ cur.toList.take (O.length * 21) = flatX O := by
  rcases h.1.2 with ⟨hv, h0⟩ | ⟨g, cap, cur, hv, _, hg, h1, h2, _, h3⟩
  · exact .inl ⟨hv, List.eq_nil_of_length_eq_zero h0⟩
  · exact .inr ⟨g, cap, cur, hv, h.2 g (by rw [hv]; rfl), lt_of_block hg, hg, h1, h2, h3⟩
theorem take_cell {cur : Array Value} {n : Nat} {l : List Value} (h : cur.toList.take n = l) (i : Nat) (v : Value) (hv : l[i]? = some v) : cur[i]? = some v := by
  subst h
  rw [List.getElem?_take] at hv
  split at hv
  · rwa [Array.getElem?_toList] at hv
  · cases hv
theorem OwnP.paths {F : Nat → Prop} {w : World} {v : Value} {O : List PathX} (h : OwnP F w v O) : PathsIn F w v O := by
  rcases h.row with ⟨rfl, rfl⟩ | ⟨g, cap, cur, rfl, hF, _, hg, h1, h2, h3⟩
  · exact PathsIn.nil _ _
  · refine ⟨_, cap, rfl, h1, h2, (fun h => by cases h), fun _ => ⟨g, 0, rfl, hF, fun i hi j u hu => ?_⟩⟩
    have hj : j < 21 := by
      have := (List.getElem?_eq_some_iff.1 hu).1
      rwa [cellsX_length] at this
    rw [cell_of_row _ _ _ _ _ _ hg, Nat.zero_add]
    exact take_cell h3 _ _ (by rw [flatX_get O i j hi hj]; exact hu)
theorem Try.infoP : (Try.prog.info? 37).map (fun i => (i.zero, i.size, i.bytes)) = some (some (.agg (pathC (List.replicate 20 0) ⟨#[]⟩)), 21, 40) := by kernel_rfl
theorem run_append_paths {F G : Nat → Prop} (w : World) (ty : TypeId) (v x : Value) (O X : List PathX) (hown : OwnP F w v O) (hx : PathsIn G w x X) (hb : O.length + X.length ≤ 1000000) :
    ∃ v' w', (Builtin.append_ #[35, 35] ty #[v, x]).run Try.prog w = .ok v' w' ∧ OwnP (fun k => F k ∨ w.heap.size ≤ k) w' v' (O ++ X) ∧ w.grownBy w' v.ownBlock ∧ (v'.ownBlock = v.ownBlock ∨ v'.ownBlock = some w.heap.size) := by
  obtain ⟨i0, hi, hz0, hz1, hz2⟩ := info_parts Try.infoP
  obtain ⟨ao, cap, rfl, hl, hm, hn, hc⟩ := hx
  cases ao with
  | none =>
    obtain rfl := hn rfl
    obtain rfl : X = [] := List.eq_nil_of_length_eq_zero (by omega)
    have hr := run_append_owned_none (P := Try.prog) (w := w) 0 35 ty 37 i0 21 Try.underlying35 hi v O.length _ hown.1
    refine ⟨v, w, hr, ?_, World.grownBy.refl _ _, .inl rfl⟩
    rw [List.append_nil]
    exact hown.mono fun k _ h => .inl h
  | some a =>
    obtain ⟨v', w', hr, h2, h3, h4, h5⟩ := run_append_own_at (P := Try.prog) w 0 35 ty 37 i0 (.agg (pathC (List.replicate 20 0) ⟨#[]⟩)) 21 40 Try.underlying35 hi hz0 hz1 hz2 rfl (by decide) v O.length _ hown.1 a X.length cap (flatX X)
      (flatX_length X) (fun j u hu => by
        have hjl : j < X.length * 21 := by
          have := (List.getElem?_eq_some_iff.1 hu).1
          rwa [flatX_length] at this
        have hX : X ≠ [] := by rintro rfl; simp at hjl
        obtain ⟨b, off, ha, _, hr⟩ := hc hX
        cases ha
        have hi : j / 21 < X.length := by omega
        have h := hr (j / 21) hi (j % 21) u (by
          rw [← flatX_get X (j / 21) (j % 21) hi (by omega)]
          rw [show j / 21 * 21 + j % 21 = j by omega]
          exact hu)
        rw [addr_plain]
        rwa [show off + j / 21 * 21 + j % 21 = off + j by omega] at h) (fun u hu => flatX_cell X u hu) (by unfold maxLen; omega) (by omega) (Nat.zero_le _)
    refine ⟨v', w', hr, ⟨?_, ?_⟩, h3, h5⟩
    · rw [List.length_append, flatX_append]
      exact h2
    · intro g hg
      rcases h5 with h5 | h5
      · exact .inl (hown.2 g (by rw [← h5, hg]))
      · rw [hg] at h5
        exact .inr (by have := Option.some.inj h5; omega)
theorem wpList_append_paths {F G : Nat → Prop} (w : World) {ops : Array Oper} {rest : List Oper} {o : Oper} {a : Act} {Q : Exit → Act → World → Prop} (hgd : o.guard = none) (s x : Operand)
    (hop : o.op = Op.call { callee := Callee.builtin Builtin.append, args := #[s, x], argTypes := #[35, 35] })
    (v y : Value) (O X : List PathX) (hs : a.eval s = v) (hx : a.eval x = y) (hown : OwnP F w v O) (hX : PathsIn G w y X) (hb : O.length + X.length ≤ 1000000)
    (hK : ∀ v' w', OwnP (fun k => F k ∨ w.heap.size ≤ k) w' v' (O ++ X) → w.grownBy w' v.ownBlock → (v'.ownBlock = v.ownBlock ∨ v'.ownBlock = some w.heap.size) → wpList Try.prog ops Q rest (a.put o.dst v') w') : wpList Try.prog ops Q (o :: rest) a w := by
  refine wpList_plain hgd fun K hK' => ?_
  subst hs; subst hx
  obtain ⟨v', w', hr, h1, h2, h3⟩ := run_append_paths w o.type _ _ O X hown hX hb
  unfold Oper.wp
  simp [execOp, hop, resolve, invoke, builtin, hr, Result.andThen]
  exact hK' _ _ (hK v' w' h1 h2 h3)
theorem run_build_one20 (w : World) (a0 a1 a2 a3 a4 a5 a6 a7 a8 a9 a10 a11 a12 a13 a14 a15 a16 a17 a18 a19 : Value) (s : Value) : (Instr.buildSlice 35 1 #[(0, .agg #[a0, a1, a2, a3, a4, a5, a6, a7, a8, a9, a10, a11, a12, a13, a14, a15, a16, a17, a18, a19, s])]).run Try.prog w = .ok (.slice (some ⟨w.heap.size, 0, none⟩) 1 1) (w.alloc (.cells #[a0, a1, a2, a3, a4, a5, a6, a7, a8, a9, a10, a11, a12, a13, a14, a15, a16, a17, a18, a19, s] 37)) := by kernel_rfl
theorem run_build_one (w : World) (x : PathX) : (Instr.buildSlice 35 1 #[(0, .agg (pathC x.h x.n))]).run Try.prog w = .ok (.slice (some ⟨w.heap.size, 0, none⟩) 1 1) (w.alloc (.cells (pathC x.h x.n) 37)) := by
  obtain ⟨h, n, hl⟩ := x
  match h, hl with
  | [a0, a1, a2, a3, a4, a5, a6, a7, a8, a9, a10, a11, a12, a13, a14, a15, a16, a17, a18, a19], _ => exact run_build_one20 w (bv a0) (bv a1) (bv a2) (bv a3) (bv a4) (bv a5) (bv a6) (bv a7) (bv a8) (bv a9) (bv a10) (bv a11) (bv a12) (bv a13) (bv a14) (bv a15) (bv a16) (bv a17) (bv a18) (bv a19) (.string n)
theorem PathsIn.one (w : World) (x : PathX) : PathsIn (fun k => k = w.heap.size) (w.alloc (.cells (pathC x.h x.n) 37)) (.slice (some ⟨w.heap.size, 0, none⟩) 1 1) [x] := by
  refine ⟨_, 1, rfl, Nat.le_refl _, by simp [maxLen], (fun h => by cases h), fun _ => ⟨w.heap.size, 0, rfl, rfl, fun i hi j u hu => ?_⟩⟩
  have hi0 : i = 0 := by simp at hi; omega
  subst hi0
  rw [cell_of_row _ _ _ _ _ _ (heap_alloc_new w _)]
  simpa [cellsX, pathC] using hu
end Go.Proofs.Ytfkgdjoaoidkeaa
