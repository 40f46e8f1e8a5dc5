/- Laid together: VLast -/
import Derived.Test.YteockhemeneioaaVl17
import Derived.Test.YteockhemeneioaaVl18
import Derived.Test.YteockhemeneioaaVl16
import Derived.Deep.QuietTactic
import Derived.BigQuiet
import Derived.Deep.DeepCutAuto
import Derived.Deep.CutBlock

namespace Go.Proofs.Yteockhemeneioaa
open Go.RowKit Go.ChangeShapes
set_option linter.unusedVariables false
structure LsAt (w0 : World) (A : VA) (q : Qt) (i : Nat) (wr : World) : Prop where
  ex : ∃ (F : Nat → Prop) (s : VS), VwAt F wr A i s ∧ s.Q = [q] ∧ (∀ k, F k → w0.heap.size ≤ k ∧ k < wr.heap.size)
  new : ∀ k ∈ A.all, w0.heap.size ≤ k
  fr : Fr (fun _ => False) w0 wr
theorem op_lenRw {w : World} {o : Oper} {a : Act} {x : Operand} {ao : Option Addr} {n cap : Nat} (ho : o.op = .call { callee := .builtin .len, args := #[x], argTypes := #[63] }) (hx : a.eval x = .slice ao n cap) :
    (execOp a.eval o).run Try.prog w = .ok (.value (.int .i64 n)) w := by
  obtain ⟨d, op, ty, pos, aft, g⟩ := o
  simp only at ho
  subst ho
  simp [execOp, resolve, invoke, builtin, Builtin.len_, hx, Result.andThen, goInt]
theorem fldRt1 (W : World) (g o : Nat) : (Instr.fieldAt 66 (.pointer (some ⟨g, o, none⟩)) 1).run Try.prog W = .ok (.pointer (some ⟨g, o + 1, none⟩)) W := by kernel_rfl
theorem fldRw1 (W : World) (g o : Nat) : (Instr.fieldAt 73 (.pointer (some ⟨g, o, none⟩)) 1).run Try.prog W = .ok (.pointer (some ⟨g, o + 1, none⟩)) W := by kernel_rfl
theorem OwnR.rws9 {F : Nat → Prop} {z : Nat} {w : World} {v : Value} {l : List RowD} (h : OwnR F z w v l) : RwsIn (fun _ => True) w v l :=
  ⟨h.own.elems.mono (by decide) (fun _ _ _ => trivial), fun p hp => (h.bytes p hp).mono (fun _ _ _ => trivial)⟩
theorem fld_spence_spencelaw14_Deed_2_0 (w : World) (g : Nat) : (Instr.fieldAt 46 (.pointer (some ⟨g, 0, none⟩)) 2).run Try.prog w = .ok (.pointer (some ⟨g, 2, none⟩)) w := by kernel_rfl
theorem ent_spence_spencelaw14_find (args : Array Value) (w : World) : (callFunc 27 args).run Try.prog w = .ok (.enter 27 args) w := by kernel_rfl
theorem ent_spence_spencelaw14_line (args : Array Value) (w : World) : (callFunc 28 args).run Try.prog w = .ok (.enter 28 args) w := by kernel_rfl
theorem fld_spence_spencelaw14_Deed_4_0 (w : World) (g : Nat) : (Instr.fieldAt 46 (.pointer (some ⟨g, 0, none⟩)) 4).run Try.prog w = .ok (.pointer (some ⟨g, 24, none⟩)) w := by kernel_rfl
theorem ent_spence_spencekit_SameLines (args : Array Value) (w : World) : (callFunc 25 args).run Try.prog w = .ok (.enter 25 args) w := by kernel_rfl
theorem fld_spence_spencelaw14_Deed_3_0 (w : World) (g : Nat) : (Instr.fieldAt 46 (.pointer (some ⟨g, 0, none⟩)) 3).run Try.prog w = .ok (.pointer (some ⟨g, 3, none⟩)) w := by kernel_rfl
def VlA (gd na ca nb cb : Nat) (aa ab : Option Addr) (N : ByteArray) (fa fb : Int) (i : Nat) (v : Value) (W : World) : Prop :=
  match i with
  | 0 => v = .slice aa na ca
  | 1 => v = .pointer (some ⟨gd, 2, none⟩)
  | 2 => v = .string N
  | 3 => v = .int .i64 fa
  | 4 => v = .slice ab nb cb
  | 5 => v = .pointer (some ⟨gd, 2, none⟩)
  | 6 => v = .string N
  | 7 => v = .int .i64 fb
  | 8 => v = .int .i64 fa
  | 9 => v = .int .i64 fb
  | _ => True
theorem VlA.ext (gd na ca nb cb : Nat) (aa ab : Option Addr) (N : ByteArray) (fa fb : Int) : ∀ (j : Nat) (u : Value) (W W' : World), Fr (fun _ => False) W W' → VlA gd na ca nb cb aa ab N fa fb j u W → VlA gd na ca nb cb aa ab N fa fb j u W'
  | 0, u, W, W', hf, h => h
  | 1, u, W, W', hf, h => h
  | 2, u, W, W', hf, h => h
  | 3, u, W, W', hf, h => h
  | 4, u, W, W', hf, h => h
  | 5, u, W, W', hf, h => h
  | 6, u, W, W', hf, h => h
  | 7, u, W, W', hf, h => h
  | 8, u, W, W', hf, h => h
  | 9, u, W, W', hf, h => h
  | _ + 10, u, W, W', hf, h => trivial
def VlY (gd n7 n8 n10 n11 c7 c8 c10 c11 b3 o3 k9 : Nat) (E fa fb : Int) (a7 a8 a10 a11 : Option Addr) (ay ax : Value) (C : Array Value) (f3 : Nat) (i : Nat) (v : Value) (W : World) : Prop :=
  match i with
  | 0 => v = .int .i64 0
  | 1 => v = .bool true
  | 2 => v = .bool true
  | 3 => v = .int .i64 (k9 : Nat)
  | 4 => v = .bool false
  | 5 => v = .bool false
  | 6 => v = .slice (some ⟨b3, f3, none⟩) n11 c11
  | 7 => v = .int .i64 (k9 : Nat)
  | 8 => v = .pointer (some ⟨b3, o3, none⟩)
  | 9 => v = .pointer (some ⟨b3, o3 + 1, none⟩)
  | 10 => v = ay
  | 11 => v = .pointer (some ⟨gd, 24, none⟩)
  | 12 => v = ax
  | 13 => v = .bool true
  | 14 => v = .bool false
  | 15 => v = .bool false
  | 16 => v = .bool false
  | 17 => v = .bool false
  | 18 => v = .int .i64 0
  | 19 => v = .bool false
  | 20 => v = .bool false
  | 21 => v = undef
  | 22 => v = undef
  | 23 => v = undef
  | 24 => v = undef
  | 25 => v = .bool false
  | 26 => v = .bool false
  | 27 => v = .bool false
  | 28 => v = .slice a10 n7 c10
  | 29 => v = .int .i64 (n7 : Nat)
  | 30 => v = .slice a7 n7 c7
  | 31 => v = .int .i64 (n7 : Nat)
  | 32 => v = .bool false
  | 33 => v = .bool false
  | _ => True
theorem VlY.ext (gd n7 n8 n10 n11 c7 c8 c10 c11 b3 o3 k9 : Nat) (E fa fb : Int) (a7 a8 a10 a11 : Option Addr) (ay ax : Value) (C : Array Value) (f3 : Nat) : ∀ (j : Nat) (u : Value) (W W' : World), Fr (fun _ => False) W W' → VlY gd n7 n8 n10 n11 c7 c8 c10 c11 b3 o3 k9 E fa fb a7 a8 a10 a11 ay ax C f3 j u W → VlY gd n7 n8 n10 n11 c7 c8 c10 c11 b3 o3 k9 E fa fb a7 a8 a10 a11 ay ax C f3 j u W'
  | 0, u, W, W', hf, h => h
  | 1, u, W, W', hf, h => h
  | 2, u, W, W', hf, h => h
  | 3, u, W, W', hf, h => h
  | 4, u, W, W', hf, h => h
  | 5, u, W, W', hf, h => h
  | 6, u, W, W', hf, h => h
  | 7, u, W, W', hf, h => h
  | 8, u, W, W', hf, h => h
  | 9, u, W, W', hf, h => h
  | 10, u, W, W', hf, h => h
  | 11, u, W, W', hf, h => h
  | 12, u, W, W', hf, h => h
  | 13, u, W, W', hf, h => h
  | 14, u, W, W', hf, h => h
  | 15, u, W, W', hf, h => h
  | 16, u, W, W', hf, h => h
  | 17, u, W, W', hf, h => h
  | 18, u, W, W', hf, h => h
  | 19, u, W, W', hf, h => h
  | 20, u, W, W', hf, h => h
  | 21, u, W, W', hf, h => h
  | 22, u, W, W', hf, h => h
  | 23, u, W, W', hf, h => h
  | 24, u, W, W', hf, h => h
  | 25, u, W, W', hf, h => h
  | 26, u, W, W', hf, h => h
  | 27, u, W, W', hf, h => h
  | 28, u, W, W', hf, h => h
  | 29, u, W, W', hf, h => h
  | 30, u, W, W', hf, h => h
  | 31, u, W, W', hf, h => h
  | 32, u, W, W', hf, h => h
  | 33, u, W, W', hf, h => h
  | _ + 34, u, W, W', hf, h => trivial
def VlN (gd n7 n8 n10 n11 c7 c8 c10 c11 b3 o3 k9 : Nat) (E fa fb : Int) (a7 a8 a10 a11 : Option Addr) (ay ax : Value) (C : Array Value) (f3 : Nat) (i : Nat) (v : Value) (W : World) : Prop :=
  match i with
  | 0 => v = .int .i64 E
  | 1 => v = .bool false
  | 2 => v = .bool false
  | 3 => v = undef
  | 4 => v = undef
  | 5 => v = undef
  | 6 => v = undef
  | 7 => v = undef
  | 8 => v = undef
  | 9 => v = undef
  | 10 => v = undef
  | 11 => v = undef
  | 12 => v = undef
  | 13 => v = undef
  | 14 => v = undef
  | 15 => v = undef
  | 16 => v = .bool false
  | 17 => v = .bool false
  | 18 => v = .int .i64 E
  | 19 => v = .bool true
  | 20 => v = .bool true
  | 21 => v = .slice a11 n8 c11
  | 22 => v = .slice a8 n8 c8
  | 23 => v = .bool true
  | 24 => v = .bool false
  | 25 => v = .bool false
  | 26 => v = .bool false
  | 27 => v = .bool false
  | 28 => v = .slice a10 n7 c10
  | 29 => v = .int .i64 (n7 : Nat)
  | 30 => v = .slice a7 n7 c7
  | 31 => v = .int .i64 (n7 : Nat)
  | 32 => v = .bool false
  | 33 => v = .bool false
  | _ => True
theorem VlN.ext (gd n7 n8 n10 n11 c7 c8 c10 c11 b3 o3 k9 : Nat) (E fa fb : Int) (a7 a8 a10 a11 : Option Addr) (ay ax : Value) (C : Array Value) (f3 : Nat) : ∀ (j : Nat) (u : Value) (W W' : World), Fr (fun _ => False) W W' → VlN gd n7 n8 n10 n11 c7 c8 c10 c11 b3 o3 k9 E fa fb a7 a8 a10 a11 ay ax C f3 j u W → VlN gd n7 n8 n10 n11 c7 c8 c10 c11 b3 o3 k9 E fa fb a7 a8 a10 a11 ay ax C f3 j u W'
  | 0, u, W, W', hf, h => h
  | 1, u, W, W', hf, h => h
  | 2, u, W, W', hf, h => h
  | 3, u, W, W', hf, h => h
  | 4, u, W, W', hf, h => h
  | 5, u, W, W', hf, h => h
  | 6, u, W, W', hf, h => h
  | 7, u, W, W', hf, h => h
  | 8, u, W, W', hf, h => h
  | 9, u, W, W', hf, h => h
  | 10, u, W, W', hf, h => h
  | 11, u, W, W', hf, h => h
  | 12, u, W, W', hf, h => h
  | 13, u, W, W', hf, h => h
  | 14, u, W, W', hf, h => h
  | 15, u, W, W', hf, h => h
  | 16, u, W, W', hf, h => h
  | 17, u, W, W', hf, h => h
  | 18, u, W, W', hf, h => h
  | 19, u, W, W', hf, h => h
  | 20, u, W, W', hf, h => h
  | 21, u, W, W', hf, h => h
  | 22, u, W, W', hf, h => h
  | 23, u, W, W', hf, h => h
  | 24, u, W, W', hf, h => h
  | 25, u, W, W', hf, h => h
  | 26, u, W, W', hf, h => h
  | 27, u, W, W', hf, h => h
  | 28, u, W, W', hf, h => h
  | 29, u, W, W', hf, h => h
  | 30, u, W, W', hf, h => h
  | 31, u, W, W', hf, h => h
  | 32, u, W, W', hf, h => h
  | 33, u, W, W', hf, h => h
  | _ + 34, u, W, W', hf, h => trivial
def VmY (gd n7 n8 n10 n11 c7 c8 c10 c11 b3 o3 k9 : Nat) (E fa fb : Int) (a7 a8 a10 a11 : Option Addr) (ay ax : Value) (C : Array Value) (f3 : Nat) (i : Nat) (v : Value) (W : World) : Prop :=
  match i with
  | 0 => v = .int .i64 0
  | 1 => v = .bool true
  | 2 => v = .bool true
  | 3 => v = .int .i64 (k9 : Nat)
  | 4 => v = .bool false
  | 5 => v = .bool false
  | 6 => v = .slice (some ⟨b3, f3, none⟩) n10 c10
  | 7 => v = .int .i64 (k9 : Nat)
  | 8 => v = .pointer (some ⟨b3, o3, none⟩)
  | 9 => v = .pointer (some ⟨b3, o3 + 1, none⟩)
  | 10 => v = .agg C
  | 11 => v = .pointer (some ⟨gd, 3, none⟩)
  | 12 => v = .agg C
  | 13 => v = .bool false
  | 14 => v = .bool false
  | 15 => v = .bool false
  | 16 => v = .bool false
  | 17 => v = .int .i64 0
  | 18 => v = .bool false
  | 19 => v = .bool false
  | 20 => v = undef
  | 21 => v = undef
  | 22 => v = undef
  | 23 => v = undef
  | 24 => v = undef
  | 25 => v = .bool false
  | 26 => v = .bool false
  | 27 => v = .bool false
  | 28 => v = .slice a11 n8 c11
  | 29 => v = .int .i64 (n8 : Nat)
  | 30 => v = .slice a8 n8 c8
  | 31 => v = .int .i64 (n8 : Nat)
  | 32 => v = .bool false
  | 33 => v = .bool false
  | _ => True
theorem VmY.ext (gd n7 n8 n10 n11 c7 c8 c10 c11 b3 o3 k9 : Nat) (E fa fb : Int) (a7 a8 a10 a11 : Option Addr) (ay ax : Value) (C : Array Value) (f3 : Nat) : ∀ (j : Nat) (u : Value) (W W' : World), Fr (fun _ => False) W W' → VmY gd n7 n8 n10 n11 c7 c8 c10 c11 b3 o3 k9 E fa fb a7 a8 a10 a11 ay ax C f3 j u W → VmY gd n7 n8 n10 n11 c7 c8 c10 c11 b3 o3 k9 E fa fb a7 a8 a10 a11 ay ax C f3 j u W'
  | 0, u, W, W', hf, h => h
  | 1, u, W, W', hf, h => h
  | 2, u, W, W', hf, h => h
  | 3, u, W, W', hf, h => h
  | 4, u, W, W', hf, h => h
  | 5, u, W, W', hf, h => h
  | 6, u, W, W', hf, h => h
  | 7, u, W, W', hf, h => h
  | 8, u, W, W', hf, h => h
  | 9, u, W, W', hf, h => h
  | 10, u, W, W', hf, h => h
  | 11, u, W, W', hf, h => h
  | 12, u, W, W', hf, h => h
  | 13, u, W, W', hf, h => h
  | 14, u, W, W', hf, h => h
  | 15, u, W, W', hf, h => h
  | 16, u, W, W', hf, h => h
  | 17, u, W, W', hf, h => h
  | 18, u, W, W', hf, h => h
  | 19, u, W, W', hf, h => h
  | 20, u, W, W', hf, h => h
  | 21, u, W, W', hf, h => h
  | 22, u, W, W', hf, h => h
  | 23, u, W, W', hf, h => h
  | 24, u, W, W', hf, h => h
  | 25, u, W, W', hf, h => h
  | 26, u, W, W', hf, h => h
  | 27, u, W, W', hf, h => h
  | 28, u, W, W', hf, h => h
  | 29, u, W, W', hf, h => h
  | 30, u, W, W', hf, h => h
  | 31, u, W, W', hf, h => h
  | 32, u, W, W', hf, h => h
  | 33, u, W, W', hf, h => h
  | _ + 34, u, W, W', hf, h => trivial
def VmN (gd n7 n8 n10 n11 c7 c8 c10 c11 b3 o3 k9 : Nat) (E fa fb : Int) (a7 a8 a10 a11 : Option Addr) (ay ax : Value) (C : Array Value) (f3 : Nat) (i : Nat) (v : Value) (W : World) : Prop :=
  match i with
  | 0 => v = .int .i64 E
  | 1 => v = .bool false
  | 2 => v = .bool false
  | 3 => v = undef
  | 4 => v = undef
  | 5 => v = undef
  | 6 => v = undef
  | 7 => v = undef
  | 8 => v = undef
  | 9 => v = undef
  | 10 => v = undef
  | 11 => v = undef
  | 12 => v = undef
  | 13 => v = undef
  | 14 => v = undef
  | 15 => v = .bool false
  | 16 => v = .bool false
  | 17 => v = .int .i64 E
  | 18 => v = .bool true
  | 19 => v = .bool true
  | 20 => v = .slice a10 n7 c10
  | 21 => v = .int .i64 (n7 : Nat)
  | 22 => v = .slice a7 n7 c7
  | 23 => v = .int .i64 (n7 : Nat)
  | 24 => v = .bool false
  | 25 => v = .bool false
  | 26 => v = .bool false
  | 27 => v = .bool false
  | 28 => v = .slice a11 n8 c11
  | 29 => v = .int .i64 (n8 : Nat)
  | 30 => v = .slice a8 n8 c8
  | 31 => v = .int .i64 (n8 : Nat)
  | 32 => v = .bool false
  | 33 => v = .bool false
  | _ => True
theorem VmN.ext (gd n7 n8 n10 n11 c7 c8 c10 c11 b3 o3 k9 : Nat) (E fa fb : Int) (a7 a8 a10 a11 : Option Addr) (ay ax : Value) (C : Array Value) (f3 : Nat) : ∀ (j : Nat) (u : Value) (W W' : World), Fr (fun _ => False) W W' → VmN gd n7 n8 n10 n11 c7 c8 c10 c11 b3 o3 k9 E fa fb a7 a8 a10 a11 ay ax C f3 j u W → VmN gd n7 n8 n10 n11 c7 c8 c10 c11 b3 o3 k9 E fa fb a7 a8 a10 a11 ay ax C f3 j u W'
  | 0, u, W, W', hf, h => h
  | 1, u, W, W', hf, h => h
  | 2, u, W, W', hf, h => h
  | 3, u, W, W', hf, h => h
  | 4, u, W, W', hf, h => h
  | 5, u, W, W', hf, h => h
  | 6, u, W, W', hf, h => h
  | 7, u, W, W', hf, h => h
  | 8, u, W, W', hf, h => h
  | 9, u, W, W', hf, h => h
  | 10, u, W, W', hf, h => h
  | 11, u, W, W', hf, h => h
  | 12, u, W, W', hf, h => h
  | 13, u, W, W', hf, h => h
  | 14, u, W, W', hf, h => h
  | 15, u, W, W', hf, h => h
  | 16, u, W, W', hf, h => h
  | 17, u, W, W', hf, h => h
  | 18, u, W, W', hf, h => h
  | 19, u, W, W', hf, h => h
  | 20, u, W, W', hf, h => h
  | 21, u, W, W', hf, h => h
  | 22, u, W, W', hf, h => h
  | 23, u, W, W', hf, h => h
  | 24, u, W, W', hf, h => h
  | 25, u, W, W', hf, h => h
  | 26, u, W, W', hf, h => h
  | 27, u, W, W', hf, h => h
  | 28, u, W, W', hf, h => h
  | 29, u, W, W', hf, h => h
  | 30, u, W, W', hf, h => h
  | 31, u, W, W', hf, h => h
  | 32, u, W, W', hf, h => h
  | 33, u, W, W', hf, h => h
  | _ + 34, u, W, W', hf, h => trivial
section
set_option maxRecDepth 100000
set_option maxHeartbeats 4000000
theorem viewLast_any (w : World) (q : Qt) (v : Value) (l : List DeedD) (hl : DeedsIn (fun k => k < w.heap.size) w v l) :
    Calls Try.prog 7 #[.agg #[.int .i64 q.b, .int .i64 q.o, .int .i64 q.r, .int .i64 q.n], v] w fun e w' => e = .returned (.bool true) ∧ Fr (fun _ => False) w w' := by
  obtain ⟨W1, hW1⟩ : ∃ W1, W1 = w.alloc (.cells #[.int .i64 q.b, .int .i64 q.o, .int .i64 q.r, .int .i64 q.n] 38) := ⟨_, rfl⟩
  have hf1 : Fr (fun _ => False) w W1 := by rw [hW1]; exact (Fr.refl _ _).alloc _
  have hb1 : W1.heap[w.heap.size]? = some (.cells #[.int .i64 q.b, .int .i64 q.o, .int .i64 q.r, .int .i64 q.n] 38 (0, 0)) := by rw [hW1]; exact heap_alloc_new w _
  have hl1 := hl.keep hf1 (fun _ _ _ h => h)
  obtain ⟨ao, cap, rfl, _⟩ := id hl
  obtain ⟨n, hn⟩ : ∃ n, n = l.length := ⟨_, rfl⟩
  have HAW := Lib.hid awake_any
  rw [← hn] at hl hl1 ⊢
  have HW := Lib.hid (And.intro hW1 (And.intro hf1 hb1))
  have HL := Lib.hid (And.intro hl1 hn)
  clear hW1 hf1 hb1 hl hl1 hn
  have HGR := Lib.hid (fun W (hf : Fr (fun _ => False) W1 W) => great_any W none 0 0 (HL.out.1.keep hf (fun _ _ _ h => h)))
  go_enter Try.func7, Try.ntmps7
  go_wp2_with (first
    | (go_at_call 9; rw [← HW.out.1]; refine (HAW.out _).mono ?_; rintro e w2 ⟨rfl, hf⟩; (have H2 := Lib.hid hf); clear hf)
    | (go_at_call 8; refine (HGR.out w2 H2.out).mono ?_; rintro e w3 ⟨b, rfl, hb, hf3⟩; (have H3 := Lib.hid (And.intro hb (H2.out.trans hf3 (fun _ h => h.elim)))); clear hb hf3; refine stopAt ?_))
  refine Stop.mk ?_
  cases b with
  | true =>
    go_wp2_with fail
    go_ret
    exact ⟨rfl, HW.out.2.1.trans H3.out.2 (fun _ h => h.elim)⟩
  | false =>
    have hrow3 := H3.out.2.heap HW.out.2.2 id
    have c0 := cell_of_row _ _ 0 _ _ _ hrow3
    have c1 := cell_of_row _ _ 1 _ _ _ hrow3
    have c2 := cell_of_row _ _ 2 _ _ _ hrow3
    have c3 := cell_of_row _ _ 3 _ _ _ hrow3
    simp only [List.getElem?_toArray, List.getElem?_cons_zero, List.getElem?_cons_succ] at c0 c1 c2 c3
    clear hrow3
    obtain ⟨qb, qo, qr, qn⟩ := q
    simp only at c0 c1 c2 c3 ⊢
    have HRT := Lib.hid (vRight_any w3 qb qo qr qn)
    obtain ⟨K, hK⟩ : ∃ K, K = okQ ⟨qb, qo, qr, qn⟩ := ⟨_, rfl⟩
    rw [← hK] at HRT
    cases K with
    | false =>
      clear hK
      go_wp2_with (go_at_call 19; refine HRT.out.mono ?_; rintro e w4 ⟨rfl, hf⟩; (have H4 := Lib.hid hf); clear hf)
      go_ret
      exact ⟨rfl, (HW.out.2.1.trans H3.out.2 (fun _ h => h.elim)).trans H4.out (fun _ h => h.elim)⟩
    | true =>
      have HK := Lib.hid hK
      clear hK
      have HC := Lib.hid (And.intro c0 (And.intro c1 (And.intro c2 c3)))
      go_wp2_with (first
        | (go_at_call 19; refine HRT.out.mono ?_; rintro e w4 ⟨rfl, hf⟩; (obtain ⟨W5, hW5⟩ : ∃ W, W = w4.alloc (.cells #[.int .i64 qb, .int .i64 qo, .int .i64 qr, .int .i64 qn] 38) := ⟨_, rfl⟩); (have hq5 : QsIn (fun k => k = w4.heap.size) W5 (.slice (some ⟨w4.heap.size, 0, none⟩) 1 1) [⟨qb, qo, qr, qn⟩] := by rw [hW5]; exact Elems.ofBlock (heap_alloc_new w4 _) rfl); (have HNEW := Lib.hid (new_yes W5 _ [⟨qb, qo, qr, qn⟩] hq5 (by simp [okQs, ← HK.out]))); (have H4 := Lib.hid (And.intro hf (And.intro hW5 (show Fr (fun _ => False) w4 W5 by rw [hW5]; exact (Fr.refl _ _).alloc _)))); (have d0 := hf.cell HC.out.1 id); (have d1 := hf.cell HC.out.2.1 id); (have d2 := hf.cell HC.out.2.2.1 id); (have d3 := hf.cell HC.out.2.2.2 id); clear hf hq5 hW5)
        | (go_at_call 10; rw [← H4.out.2.1]; refine HNEW.out.mono ?_; rintro e w6 ⟨A, rfl, hv6, hl6, hf6⟩; (have H6 := Lib.hid (And.intro hv6 (And.intro hl6 hf6))); clear hv6 hl6 hf6))
      have HLS : Hid (LsAt W1 A ⟨qb, qo, qr, qn⟩ 0 w6) := Lib.hid (by
        have hf5 : Fr (fun _ => False) W1 W5 := (H3.out.2.trans H4.out.1 (fun _ h => h.elim)).trans H4.out.2.2 (fun _ h => h.elim)
        exact ⟨⟨fun _ => False, _, H6.out.1, rfl, fun k hk => hk.elim⟩, fun k hk => Nat.le_trans hf5.size (H6.out.2.1 k hk).1, hf5.trans H6.out.2.2 (fun _ h => h.elim)⟩)
      have h60 : n ≤ 60 := by have := (H3.out.1 (by first | rfl | trivial)).1; have := HL.out.2; omega
      have HB := Lib.hid (show ∃ b off, (0 < n → ao = some ⟨b, off, none⟩) ∧ ∀ i (h : i < l.length), DeedAt (fun k => k < w.heap.size) W1 b (off + i * 25) l[i] from by
        obtain ⟨ao', cap', hv, h1, h2, h4⟩ := HL.out.1
        cases hv
        by_cases hl : l = []
        · subst hl
          exact ⟨0, 0, fun h => absurd h (by simp), fun i h => by simp at h⟩
        · obtain ⟨b, off, ha, hi⟩ := h4 hl
          exact ⟨b, off, fun _ => ha, hi⟩)
      obtain ⟨b, off, hao, hdd⟩ := HB.out
      have HAO := Lib.hid hao
      have HDD := Lib.hid hdd
      clear hao hdd HB
      go_loopw [7] (fun iv wr => ∃ (i : Nat), i ≤ n ∧ iv = .int .i64 i ∧ Hid (LsAt W1 A ⟨qb, qo, qr, qn⟩ i wr)) (fun iv _ => n - (intOf iv).toNat)
      case atStart => exact ⟨0, by omega, rfl, HLS⟩
      case round =>
        obtain ⟨i, hi, rfl, HLI⟩ := hrel
        by_cases hlt : i < n
        · have hiL : i < l.length := by have := HL.out.2; omega
          obtain rfl := HAO.out (by omega)
          have hd := (HDD.out i hiL).keep HLI.out.fr (fun _ _ _ h => h)
          obtain ⟨d, hdq⟩ : ∃ d, d = l[i] := ⟨_, rfl⟩
          rw [← hdq] at hd
          obtain ⟨dv, dc, hdv, _⟩ := id hd.bytes
          obtain ⟨wa, wb, wc, g, hD⟩ := deed_lay wr d (by rw [hdv]; rfl)
          obtain ⟨e, he⟩ : ∃ e : DeedD, e = { d with who := 1 } := ⟨_, rfl⟩
          rw [← he] at hD
          obtain ⟨X, hX⟩ : ∃ X, X = (deedC d).toArray := ⟨_, rfl⟩
          obtain ⟨o, ho⟩ : ∃ o, o = off + i * 25 := ⟨_, rfl⟩
          have hld := load_deed hd
          rw [← hX, ← ho] at hld
          rw [← hX] at hD
          have HDL := Lib.hid hD
          have HD := Lib.hid (And.intro hd (And.intro he (And.intro hX ho)))
          have HLD := Lib.hid (fun (oo : Oper) (a : Act) (e1 : oo.op = .load 46 (.tmp 43)) (e2 : a.eval (.tmp 43) = .pointer (some ⟨b, off + i * 25, none⟩)) => op_loadAt e1 (e2.trans (by rw [ho])) hld)
          have hi64 : (i : Int) < (n : Int) := by omega
          have c1 := hD.c1
          have z1 := hD.z1
          obtain ⟨F, s, hv, hsQ, hF⟩ := HLI.out.ex
          have HV := Lib.hid (show VwAt F wc A i s ∧ isUser s 1 ∧ (∀ k, F k → W1.heap.size ≤ k ∧ k < wc.heap.size) ∧ s.Q = [⟨qb, qo, qr, qn⟩] from ⟨hv.quiet hD.fr, by rw [isUser, hsQ]; simp, fun k hk => ⟨(hF k hk).1, Nat.lt_of_lt_of_le (hF k hk).2 hD.fr.size⟩, hsQ⟩)
          have hi5 : i ≤ 100000 := by omega
          obtain ⟨Y, hY⟩ : ∃ Y, Y = (deedC e).toArray := ⟨_, rfl⟩
          have HY := Lib.hid (show DeedC Y e ∧ wc.heap[g]? = some (.cells Y 46 (0, 0)) ∧ BytesIn (fun k => k < w.heap.size) wc e.xv e.V from by
            rw [hY]
            refine ⟨deedC_ok e ?_ ?_, hD.row, ?_⟩
            · rw [he]; exact ⟨hd.wf.1, (show IntOk 1 from ⟨by decide, by decide⟩)⟩
            · rw [he]; exact hd.fit
            · rw [he]; exact hd.bytes.keep hD.fr (fun _ _ _ h => h))
          have HLY : Hid (∀ (W : World), Fr (fun _ => False) wc W → ∀ (oo : Oper) (a : Act), oo.op = .load 46 (.tmp 8) → a.eval (.tmp 8) = .pointer (some ⟨g, 0, none⟩) → (execOp a.eval oo).run Try.prog W = .ok (.value (.agg Y)) W) := Lib.hid (fun W hf oo a e1 e2 => op_loadAt e1 e2 (by
            have hr := hf.heap HY.out.2.1 id
            rw [hY] at hr ⊢
            exact load_deed_row hr))
          clear hd hdq hdv hld hD he hX ho hv hsQ hF hY
          go_wp2_with (with_reducible refine Go.Proofs.Yteockhemeneioaa.wpList_value rfl (.agg X) wr (HLD.out _ _ rfl rfl) ?_; refine stopAt ?_)
          refine Stop.mk ?_
          refine Go.Proofs.Yteockhemeneioaa.wpList_value rfl _ _ (HDL.out.a1 _ _ rfl) ?_
          simp only [Act.put, List.setIfInBounds_toArray, List.set_cons_succ, List.set_cons_zero]
          refine HDL.out.s1 rfl (.tmp 8) (.tmp 44) rfl rfl rfl ?_
          simp only [Act.put]
          go_wp2_with (first
            | (go_at_call 23; rw [HDL.out.e]; refine (callsIn_wide.1 (vRoots_in HV.out.1 hi5 1 HV.out.2.1)).mono ?_; rintro en w7 ⟨v7, rfl, ho7, hf7⟩; (obtain ⟨a7, c7, hv7⟩ := ho7.form); (rw [List.length_map] at hv7); (obtain ⟨n7, hn7⟩ : ∃ n7, n7 = (s.R 1).length := ⟨_, rfl⟩); (rw [← hn7] at hv7); (subst hv7); (have H7 := Lib.hid (And.intro hf7 (And.intro ho7 hn7))); clear hf7 ho7 hn7)
            | (go_at_call 26; refine (callsIn_wide.1 (vNotes_in (HV.out.1.quiet H7.out.1) (fun k hk => Nat.lt_of_lt_of_le (HV.out.2.2.1 k hk).2 H7.out.1.size) hi5 1 HV.out.2.1 ⟨#[]⟩)).mono ?_; rintro en w8 ⟨v8, l8, rfl, ho8, hm8, hf8⟩; (obtain ⟨a8, c8, hv8⟩ := ho8.form); (obtain ⟨n8, hn8⟩ : ∃ n8, n8 = l8.length := ⟨_, rfl⟩); (rw [← hn8] at hv8); (subst hv8); (have H8 := Lib.hid (And.intro hf8 (And.intro ho8 (And.intro hm8 (And.intro hn8 (H7.out.1.trans hf8 (fun _ h => h.elim))))))); clear hf8 ho8 hm8 hn8; refine stopAt ?_))
          refine Stop.mk ?_
          have HDO := Lib.hid (do_any (HV.out.1.quiet H8.out.2.2.2.2) (fun k hk => Nat.lt_of_lt_of_le (HV.out.2.2.1 k hk).2 H8.out.2.2.2.2.size) hi5 Y e HY.out.1 (HY.out.2.2.keep H8.out.2.2.2.2 (fun _ _ _ h => h)))
          have HLY8 := Lib.hid (HLY.out w8 H8.out.2.2.2.2)
          obtain ⟨E, hE⟩ : ∃ E, E = doE s e := ⟨_, rfl⟩
          rw [← hE] at HDO
          have HE := Lib.hid hE
          clear hE
          go_wp2_with (first
            | (with_reducible refine Go.Proofs.Yteockhemeneioaa.wpList_value rfl (.agg Y) w8 (HLY8.out _ _ rfl rfl) ?_)
            | (go_at_call 22; refine HDO.out.mono ?_; rintro en w9 ⟨rfl, hv9, hf9⟩; (have H9 := Lib.hid (And.intro hv9 hf9)); clear hv9 hf9; refine stopAt ?_))
          refine Stop.mk ?_
          obtain ⟨s1, hs1⟩ : ∃ s1, s1 = doS s e := ⟨_, rfl⟩
          have HS1 := Lib.hid hs1
          have HV9 := Lib.hid (show VwAt (newF F w8 w9) w9 A (i + 1) s1 ∧ isUser s1 1 ∧ (∀ k, newF F w8 w9 k → W1.heap.size ≤ k ∧ k < w9.heap.size) from ⟨by rw [hs1]; exact H9.out.1, by
            have := HV.out.2.1
            rw [isUser, hs1, doS_Q]
            exact this, fun k hk => by
            have h1 := H8.out.2.2.2.2.size
            have h2 := H9.out.2.size
            have h3 := HDL.out.fr.size
            have h4 := HLI.out.fr.size
            rcases hk with hk | hk
            · have := HV.out.2.2.1 k hk; omega
            · omega⟩)
          clear hs1
          go_wp2_with (first
            | (go_at_call 23; refine (callsIn_wide.1 (vRoots_in HV9.out.1 (by omega) 1 HV9.out.2.1)).mono ?_; rintro en w10 ⟨v10, rfl, ho10, hf10⟩; (obtain ⟨a10, c10, hv10⟩ := ho10.form); (rw [List.length_map] at hv10); (obtain ⟨n10, hn10⟩ : ∃ n10, n10 = (s1.R 1).length := ⟨_, rfl⟩); (rw [← hn10] at hv10); (subst hv10); (have H10 := Lib.hid (And.intro hf10 (And.intro ho10 hn10))); clear hf10 ho10 hn10)
            | (go_at_call 26; refine (callsIn_wide.1 (vNotes_in (HV9.out.1.quiet H10.out.1) (fun k hk => Nat.lt_of_lt_of_le (HV9.out.2.2 k hk).2 H10.out.1.size) (by omega) 1 HV9.out.2.1 ⟨#[]⟩)).mono ?_; rintro en w11 ⟨v11, l11, rfl, ho11, hm11, hf11⟩; (obtain ⟨a11, c11, hv11⟩ := ho11.form); (obtain ⟨n11, hn11⟩ : ∃ n11, n11 = l11.length := ⟨_, rfl⟩); (rw [← hn11] at hv11); (subst hv11); (have H11 := Lib.hid (And.intro hf11 (And.intro ho11 (And.intro hm11 (And.intro hn11 (H10.out.1.trans hf11 (fun _ h => h.elim))))))); clear hf11 ho11 hm11 hn11; refine stopAt ?_))
          refine Stop.mk ?_
          go_wp2_with fail
          have HG : Hid (∀ k, A.own k → k < wr.heap.size) := Lib.hid (fun k hk => by
            obtain ⟨F', s', hv', _⟩ := HLI.out.ex
            refine hv'.lts k ?_
            rcases hk with rfl | rfl | rfl | rfl <;> simp [VA.all])
          have hm8 : l8.map RowD.row = s.N 1 := by rw [H8.out.2.2.1]; exact List.filter_eq_self.2 (fun p _ => by simp [Lib.hasPrefix])
          have hm11 : l11.map RowD.row = s1.N 1 := by rw [H11.out.2.2.1]; exact List.filter_eq_self.2 (fun p _ => by simp [Lib.hasPrefix])
          have hf911 : Fr (fun _ => False) w9 w11 := H11.out.2.2.2.2
          have hsz : wr.heap.size ≤ wc.heap.size := HDL.out.fr.size
          have ho7 : OwnE 66 22 wc.heap.size w11 (.slice a7 n7 c7) ((s.R 1).map rtC) := ((H7.out.2.1.keep H8.out.1 (fun _ _ h => h)).keep H9.out.2 (fun k hk hA => by
            have h1 := (H7.out.2.1.own k hk).1
            have h2 := HG.out k hA
            omega)).keep hf911 (fun _ _ h => h)
          have ho8 : OwnR (fun k => w7.heap.size ≤ k) w7.heap.size w11 (.slice a8 n8 c8) l8 := (H8.out.2.1.keep H9.out.2 (fun k hk hA => by
            have h1 := (H8.out.2.1.own.own k hk).1
            have h2 := HG.out k hA
            have h3 := H7.out.1.size
            omega) (fun k _ hk hA => by
            have h2 := HG.out k hA
            have h3 := H7.out.1.size
            omega)).keep hf911 (fun _ _ h => h) (fun _ _ _ h => h)
          have ho10 : OwnE 66 22 w9.heap.size w11 (.slice a10 n10 c10) ((s1.R 1).map rtC) := H10.out.2.1.keep H11.out.1 (fun _ _ h => h)
          have hrow : w11.heap[g]? = some (.cells Y 46 (0, 0)) := hf911.heap (H9.out.2.heap (H8.out.2.2.2.2.heap HY.out.2.1 id) (fun hA => by
            have h2 := HG.out g hA
            have h3 := HDL.out.ge
            omega)) id
          have hby : BytesIn (fun k => k < w.heap.size) w11 e.xv e.V := ((HY.out.2.2.keep H8.out.2.2.2.2 (fun _ _ _ h => h)).keep H9.out.2 (fun k _ hk hA => by
            have h1 : w.heap.size ≤ W1.heap.size := HW.out.2.1.size
            have h2 : W1.heap.size ≤ k := HLI.out.new k (by rcases hA with rfl | rfl | rfl | rfl <;> simp [VA.all])
            omega)).keep hf911 (fun _ _ _ h => h)
          have H16 := Lib.hid (And.intro ho7 (And.intro ho8 (And.intro ho10 (And.intro H11.out.2.1 (And.intro hrow (And.intro hby (And.intro hm8 hm11)))))))
          have LDN := Lib.hid (fun W (hW : Fr (fun _ => False) w11 W) => load_one5 W 9 ⟨g, 2, none⟩ _ (by kernel_rfl) (hW.cell (show w11.cell? ⟨g, 2, none⟩ = some (.string e.name) by rw [cell_of_row _ _ _ _ _ _ hrow]; exact HY.out.1.c2) id))
          have hn10 := own_names ho10
          have hn11 := row_names H11.out.2.1
          rw [keys_names hm11] at hn11
          obtain ⟨N, hN⟩ : ∃ N, N = e.name := ⟨_, rfl⟩
          obtain ⟨fa, hfa⟩ : ∃ fa, fa = findB (namesV (s1.R 1)) N := ⟨_, rfl⟩
          obtain ⟨fb, hfb⟩ : ∃ fb, fb = findB (namesV (s1.N 1)) N := ⟨_, rfl⟩
          rw [← hN] at LDN
          have HFD := Lib.hid (fun W (hW : Fr (fun _ => False) w11 W) => find_any W _ _ N (hn10.quiet hW))
          have HLN := Lib.hid (fun W (hW : Fr (fun _ => False) w11 W) => line_any W _ _ N (hn11.quiet hW))
          rw [← hfa] at HFD
          rw [← hfb] at HLN
          have HFF := Lib.hid (And.intro hN (And.intro hfa hfb))
          clear hm8 hm11 hf911 hsz ho7 ho8 ho10 hrow hby hn10 hn11 hN hfa hfb
          refine wp_region_inv 10 (by kernel_rfl) (by kernel_rfl) (fun W => Fr (fun _ => False) w11 W) (VlA g n10 c10 n11 c11 a10 a11 N fa fb) (fun _ _ _ _ => True) (Fr (fun _ => False)) (VlA.ext g n10 c10 n11 c11 a10 a11 N fa fb) (Fr.refl _ _).drew ?_ ?_
          · intro i hi o ho
            replace hi : i < 10 := hi
            obtain rfl | rfl | rfl | rfl | rfl | rfl | rfl | rfl | rfl | rfl : i = 0 ∨ i = 1 ∨ i = 2 ∨ i = 3 ∨ i = 4 ∨ i = 5 ∨ i = 6 ∨ i = 7 ∨ i = 8 ∨ i = 9 := by omega
            · simp only [List.getElem?_cons_zero, Option.some.injEq] at ho
              subst ho
              intro a W vs hB hS hE hU
              refine wpG_plain rfl ?_
              have v12 : a.eval (.tmp 12) = .slice a10 n10 c10 := (hU 12 (by kernel_rfl)).trans rfl
              clear hE hU
              exact wp_value_inv (w' := W) (.slice a10 n10 c10) (op_move rfl v12) ⟨_, rfl, hB, Fr.refl _ _, rfl, fun _ _ _ _ _ => trivial⟩
            · simp only [List.getElem?_cons_zero, List.getElem?_cons_succ, Option.some.injEq] at ho
              subst ho
              intro a W vs hB hS hE hU
              refine wpG_plain rfl ?_
              have v8 : a.eval (.tmp 8) = .pointer (some ⟨g, 0, none⟩) := (hU 8 (by kernel_rfl)).trans rfl
              clear hE hU
              exact wp_value_inv (w' := W) (.pointer (some ⟨g, 2, none⟩)) (op_fieldAddr rfl v8 (fld_spence_spencelaw14_Deed_2_0 W g)) ⟨_, rfl, hB, Fr.refl _ _, rfl, fun _ _ _ _ _ => trivial⟩
            · simp only [List.getElem?_cons_zero, List.getElem?_cons_succ, Option.some.injEq] at ho
              subst ho
              intro a W vs hB hS hE hU
              refine wpG_plain rfl ?_
              obtain ⟨r1, e58⟩ := hE 1 58 (by kernel_rfl) (by kernel_rfl)
              have v58 : a.eval (.tmp 58) = .pointer (some ⟨g, 2, none⟩) := e58.trans r1
              clear hE hU
              exact wp_value_inv (w' := W) (.string N) (op_loadAt rfl v58 (LDN.out W hB)) ⟨_, rfl, hB, Fr.refl _ _, rfl, fun _ _ _ _ _ => trivial⟩
            · simp only [List.getElem?_cons_zero, List.getElem?_cons_succ, Option.some.injEq] at ho
              subst ho
              intro a W vs hB hS hE hU
              refine wpG_plain rfl ?_
              obtain ⟨r0, e57⟩ := hE 0 57 (by kernel_rfl) (by kernel_rfl)
              have v57 : a.eval (.tmp 57) = .slice a10 n10 c10 := e57.trans r0
              obtain ⟨r2, e59⟩ := hE 2 59 (by kernel_rfl) (by kernel_rfl)
              have v59 : a.eval (.tmp 59) = .string N := e59.trans r2
              clear hE hU
              refine wp_call_inv 27 #[.tmp 57, .tmp 59] #[58, 9] rfl #[.slice a10 n10 c10, .string N] (by simp only [List.map_toArray, List.map_cons, List.map_nil, v57, v59]) (ent_spence_spencelaw14_find _) (Post := fun v W' => v = .int .i64 fa ∧ Fr (fun _ => False) W W') ((HFD.out W hB).mono fun e w' h => ⟨_, h.1, rfl, h.2⟩) ?_
              rintro v W' ⟨rfl, hf⟩
              exact ⟨_, rfl, hB.trans hf (fun _ h => h.elim), hf, rfl, fun _ _ _ _ _ => trivial⟩
            · simp only [List.getElem?_cons_zero, List.getElem?_cons_succ, Option.some.injEq] at ho
              subst ho
              intro a W vs hB hS hE hU
              refine wpG_plain rfl ?_
              have v13 : a.eval (.tmp 13) = .slice a11 n11 c11 := (hU 13 (by kernel_rfl)).trans rfl
              clear hE hU
              exact wp_value_inv (w' := W) (.slice a11 n11 c11) (op_move rfl v13) ⟨_, rfl, hB, Fr.refl _ _, rfl, fun _ _ _ _ _ => trivial⟩
            · simp only [List.getElem?_cons_zero, List.getElem?_cons_succ, Option.some.injEq] at ho
              subst ho
              intro a W vs hB hS hE hU
              refine wpG_plain rfl ?_
              have v8 : a.eval (.tmp 8) = .pointer (some ⟨g, 0, none⟩) := (hU 8 (by kernel_rfl)).trans rfl
              clear hE hU
              exact wp_value_inv (w' := W) (.pointer (some ⟨g, 2, none⟩)) (op_fieldAddr rfl v8 (fld_spence_spencelaw14_Deed_2_0 W g)) ⟨_, rfl, hB, Fr.refl _ _, rfl, fun _ _ _ _ _ => trivial⟩
            · simp only [List.getElem?_cons_zero, List.getElem?_cons_succ, Option.some.injEq] at ho
              subst ho
              intro a W vs hB hS hE hU
              refine wpG_plain rfl ?_
              obtain ⟨r5, e62⟩ := hE 5 62 (by kernel_rfl) (by kernel_rfl)
              have v62 : a.eval (.tmp 62) = .pointer (some ⟨g, 2, none⟩) := e62.trans r5
              clear hE hU
              exact wp_value_inv (w' := W) (.string N) (op_loadAt rfl v62 (LDN.out W hB)) ⟨_, rfl, hB, Fr.refl _ _, rfl, fun _ _ _ _ _ => trivial⟩
            · simp only [List.getElem?_cons_zero, List.getElem?_cons_succ, Option.some.injEq] at ho
              subst ho
              intro a W vs hB hS hE hU
              refine wpG_plain rfl ?_
              obtain ⟨r4, e61⟩ := hE 4 61 (by kernel_rfl) (by kernel_rfl)
              have v61 : a.eval (.tmp 61) = .slice a11 n11 c11 := e61.trans r4
              obtain ⟨r6, e63⟩ := hE 6 63 (by kernel_rfl) (by kernel_rfl)
              have v63 : a.eval (.tmp 63) = .string N := e63.trans r6
              clear hE hU
              refine wp_call_inv 28 #[.tmp 61, .tmp 63] #[63, 9] rfl #[.slice a11 n11 c11, .string N] (by simp only [List.map_toArray, List.map_cons, List.map_nil, v61, v63]) (ent_spence_spencelaw14_line _) (Post := fun v W' => v = .int .i64 fb ∧ Fr (fun _ => False) W W') ((HLN.out W hB).mono fun e w' h => ⟨_, h.1, rfl, h.2⟩) ?_
              rintro v W' ⟨rfl, hf⟩
              exact ⟨_, rfl, hB.trans hf (fun _ h => h.elim), hf, rfl, fun _ _ _ _ _ => trivial⟩
            · simp only [List.getElem?_cons_zero, List.getElem?_cons_succ, Option.some.injEq] at ho
              subst ho
              intro a W vs hB hS hE hU
              refine wpG_plain rfl ?_
              obtain ⟨r3, e60⟩ := hE 3 60 (by kernel_rfl) (by kernel_rfl)
              have v60 : a.eval (.tmp 60) = .int .i64 fa := e60.trans r3
              clear hE hU
              exact wp_value_inv (w' := W) (.int .i64 fa) (op_assign rfl v60) ⟨_, rfl, hB, Fr.refl _ _, rfl, fun _ _ _ _ _ => trivial⟩
            · simp only [List.getElem?_cons_zero, List.getElem?_cons_succ, Option.some.injEq] at ho
              subst ho
              intro a W vs hB hS hE hU
              refine wpG_plain rfl ?_
              obtain ⟨r7, e64⟩ := hE 7 64 (by kernel_rfl) (by kernel_rfl)
              have v64 : a.eval (.tmp 64) = .int .i64 fb := e64.trans r7
              clear hE hU
              exact wp_value_inv (w' := W) (.int .i64 fb) (op_assign rfl v64) ⟨_, rfl, hB, Fr.refl _ _, rfl, fun _ _ _ _ _ => trivial⟩
          · intro vs Wd hB0 hR0 hD
            have r14 : vs 8 = .int .i64 fa := hR0 8 (by decide)
            have r15 : vs 9 = .int .i64 fb := hR0 9 (by decide)
            have HD16 := Lib.hid hB0
            clear hR0 hD hB0
            simp only [acts, if_true, dstAt, List.getElem?_cons_zero, List.getElem?_cons_succ, Option.bind_some, Act.put, List.setIfInBounds_toArray, List.set_cons_succ, List.set_cons_zero, List.drop_succ_cons, List.drop_nil]
            simp only [r14, r15]
            clear r14 r15
            have HRW := Lib.hid (HD16.out.heap H16.out.2.2.2.2.1 id)
            have hwf := HY.out.1.wf.1
            obtain ⟨m, hm⟩ : ∃ m, m = e.what % 6 := ⟨_, rfl⟩
            have HPK := Lib.hid (fun W => pick_any e.what 6 W (by decide) (by decide) hwf.1 hwf.2)
            rw [← hm] at HPK
            have HM := Lib.hid hm
            have ck0 : Wd.cell? ⟨g, 0, none⟩ = some (.int .i64 e.what) := by rw [cell_of_row _ _ _ _ _ _ HRW.out]; exact HY.out.1.c0
            clear hm hwf
            go_wp2_with (go_at_call 29; refine (HPK.out _).mono ?_; rintro en w12 ⟨rfl, hw12⟩; (obtain rfl : Wd = w12 := hw12); refine stopAt ?_)
            refine Stop.mk ?_
            go_upto_block 2 with fail
            have HNA := Lib.hid (own_names H16.out.2.2.1)
            have HNB := Lib.hid (row_names H16.out.2.2.2.1)
            go_cut [102] (fun c wx => Hid (Fr (fun _ => False) Wd wx))
            case first =>
              have ck2 : Wd.cell? ⟨g, 2, none⟩ = some (.string N) := by rw [cell_of_row _ _ _ _ _ _ HRW.out, HFF.out.1]; exact HY.out.1.c2
              have hn8' := row_names H16.out.2.1
              rw [keys_names H16.out.2.2.2.2.2.2.1] at hn8'
              have HR0 := Lib.hid (fun W (hW : Fr (fun _ => False) Wd W) => find_any W _ _ N (((own_names H16.out.1).quiet HD16.out).quiet hW))
              have HN0 := Lib.hid (fun W (hW : Fr (fun _ => False) Wd W) => line_any W _ _ N ((hn8'.quiet HD16.out).quiet hW))
              obtain ⟨fr0, hfr0⟩ : ∃ f, f = findB (namesV (s.R 1)) N := ⟨_, rfl⟩
              obtain ⟨fn0, hfn0⟩ : ∃ f, f = findB (namesV (s.N 1)) N := ⟨_, rfl⟩
              rw [← hfr0] at HR0
              rw [← hfn0] at HN0
              have hew : e.who = 1 := by rw [HD.out.2.1]
              have hU := HV.out.2.1
              have HFR := Lib.hid (And.intro hfr0 hfn0)
              have hl7 : n7 = (s.R 1).length := H7.out.2.2
              have hl8 : n8 = (s.N 1).length := by rw [H8.out.2.2.2.1, ← H16.out.2.2.2.2.2.2.1]; simp
              have hl10 : n10 = (s1.R 1).length := H10.out.2.2
              have hl11 : n11 = (s1.N 1).length := by rw [H11.out.2.2.2.1, ← H16.out.2.2.2.2.2.2.2]; simp
              have HLL := Lib.hid (And.intro hl7 (And.intro hl8 (And.intro hl10 hl11)))
              clear hl7 hl8 hl10 hl11 hn8' hfr0 hfn0
              by_cases m2 : m = 2
              · have hp := un2 hU (by rw [← HM.out]; exact m2) hew
                rw [← HE.out, ← HS1.out, ← HFF.out.1, ← HFF.out.2.1, ← HFR.out.1] at hp
                obtain ⟨hc, hfa, hnn⟩ := hp
                obtain rfl : n11 = n8 := by rw [HLL.out.2.2.2, HLL.out.2.1, hnn]
                subst m2
                have b2 : decide ((0 : Int) ≤ fa) = false := decide_eq_false (by omega)
                clear hnn hfa hU hew
                rcases hc with ⟨hE0, h0⟩ | ⟨hE0, h0⟩
                · have b1 : decide ((0 : Int) ≤ fr0) = true := decide_eq_true h0
                  subst hE0
                  go_wp2_with (go_at_call 27; refine (HR0.out _ (Fr.refl _ _)).mono ?_; rintro en w20 ⟨rfl, hf20⟩; (have H20 := Lib.hid hf20); clear hf20)
                  go_meet
                  case rel => exact H20
                · have b1 : decide ((0 : Int) ≤ fr0) = false := decide_eq_false (by omega)
                  subst hE0
                  go_wp2_with (go_at_call 27; refine (HR0.out _ (Fr.refl _ _)).mono ?_; rintro en w20 ⟨rfl, hf20⟩; (have H20 := Lib.hid hf20); clear hf20)
                  go_meet
                  case rel => exact H20
              · have e2 : decide (m = 2) = false := decide_eq_false m2
                by_cases m5 : m = 5
                · have hp := un5 hU (by rw [← HM.out]; exact m5) hew
                  rw [← HE.out, ← HS1.out, ← HFF.out.1, ← HFF.out.2.2, ← HFR.out.2] at hp
                  obtain ⟨hc, hfa, hnn⟩ := hp
                  obtain rfl : n10 = n7 := by rw [HLL.out.2.2.1, HLL.out.1, hnn]
                  subst m5
                  have b2 : decide ((0 : Int) ≤ fb) = false := decide_eq_false (by omega)
                  clear hnn hfa hU hew m2
                  rcases hc with ⟨hE0, h0⟩ | ⟨hE0, h0⟩
                  · have b1 : decide ((0 : Int) ≤ fn0) = true := decide_eq_true h0
                    subst hE0
                    go_wp2_with (go_at_call 28; refine (HN0.out _ (Fr.refl _ _)).mono ?_; rintro en w20 ⟨rfl, hf20⟩; (have H20 := Lib.hid hf20); clear hf20)
                    go_meet
                    case rel => exact H20
                  · have b1 : decide ((0 : Int) ≤ fn0) = false := decide_eq_false (by omega)
                    subst hE0
                    go_wp2_with (go_at_call 28; refine (HN0.out _ (Fr.refl _ _)).mono ?_; rintro en w20 ⟨rfl, hf20⟩; (have H20 := Lib.hid hf20); clear hf20)
                    go_meet
                    case rel => exact H20
                · have e5 : decide (m = 5) = false := decide_eq_false m5
                  by_cases m34 : m = 3 ∨ m = 4
                  · have hp := un3 (s := s) (by rw [← HM.out]; exact m34) hew
                    rw [← HE.out, ← HS1.out] at hp
                    obtain ⟨hc, hRR⟩ := hp
                    obtain rfl : n7 = n10 := by rw [HLL.out.2.2.1, HLL.out.1, hRR]
                    clear hRR
                    rcases m34 with m3 | m4
                    · subst m3
                      clear m2 m5
                      rcases hc with ⟨hE0, hv⟩ | ⟨hE0, hss⟩
                      · as_aux_lemma =>
                          obtain ⟨k9, hk9, hkl, hkv⟩ := find_val (N := N) (x := e.V) (HV9.out.1.nk.ok 1).1 (by rw [HFF.out.1]; exact hv)
                          rw [← HFF.out.2.2] at hk9
                          obtain ⟨ao3, cap3, hva, hcc1, hcc2, b3, f3, hao3, hcl3⟩ := H16.out.2.2.2.1.rws9.open6
                          have hkl3 : k9 < l11.length := by have := congrArg List.length H16.out.2.2.2.2.2.2.2; rw [List.length_map] at this; omega
                          have ha11 : a11 = some ⟨b3, f3, none⟩ := by injection hva with h1; rw [h1]; exact (hao3 (by omega)).1
                          have hkn : k9 < n11 := by rw [H11.out.2.2.2.1]; exact hkl3
                          have hrb : l11[k9].B = e.V := by
                            have h1 : (l11.map RowD.row)[k9]? = (s1.N 1)[k9]? := by rw [H16.out.2.2.2.2.2.2.2]
                            rw [List.getElem?_map, List.getElem?_eq_getElem hkl3, List.getElem?_eq_getElem hkl] at h1
                            have h2 := Option.some.inj h1
                            rw [← hkv, ← h2]
                            rfl
                          obtain ⟨xr, hxr⟩ : ∃ xr, xr = l11[k9].x := ⟨_, rfl⟩
                          have hbr := H16.out.2.2.2.1.bytes _ (List.getElem_mem hkl3)
                          have hcx := (hcl3 k9 hkl3).2
                          rw [hrb, ← hxr] at hbr
                          rw [← hxr] at hcx
                          obtain ⟨o3, ho3⟩ : ∃ o3, o3 = f3 + k9 * 2 := ⟨_, rfl⟩
                          rw [← ho3] at hcx
                          obtain ⟨ay1, cy1, hay, _⟩ := id hbr
                          obtain ⟨ax1, cx1, hax, _⟩ := id H16.out.2.2.2.2.2.1
                          have HI3 := Lib.hid (fun W => idxRw W b3 f3 n11 c11 k9 hkn)
                          rw [← ho3] at HI3
                          have LDV := Lib.hid (fun W (hW : Fr (fun _ => False) Wd W) => load_one5 W 44 ⟨b3, o3 + 1, none⟩ _ (by kernel_rfl) (hW.cell (HD16.out.cell hcx id) id))
                          have LDX := Lib.hid (fun W (hW : Fr (fun _ => False) Wd W) => load_one5 W 44 ⟨g, 24, none⟩ _ (by kernel_rfl) (hW.cell (show Wd.cell? ⟨g, 24, none⟩ = some e.xv by rw [cell_of_row _ _ _ _ _ _ HRW.out]; exact HY.out.1.cv) id))
                          have HSB := Lib.hid (fun W (hW : Fr (fun _ => False) Wd W) => (same_any xr e.xv e.V e.V W ((hbr.keep HD16.out (fun _ _ _ h => h)).keep hW (fun _ _ _ h => h)) ((H16.out.2.2.2.2.2.1.keep HD16.out (fun _ _ _ h => h)).keep hW (fun _ _ _ h => h))).mono (fun en w' h => (⟨by rw [h.1, show sameB e.V e.V = true by simp [sameB]], by obtain ⟨q9, hq9⟩ := h.2; rw [hq9]; exact (Fr.refl _ _).drewN _⟩ : en = Ending.returned (.bool true) ∧ Fr (fun _ => False) W w')))
                          obtain ⟨ey, hey⟩ : ∃ ey, ey = e.xv := ⟨_, rfl⟩
                          rw [← hey] at LDX HSB
                          subst ha11
                          subst hE0
                          subst hk9
                          clear hv hkl hkv hva hcc1 hcc2 hao3 hcl3 hkl3 hrb hxr hbr hcx ho3 hay hax hey hU hew
                          go_wp2_with fail
                          refine wp_region_inv 34 (by kernel_rfl) (by kernel_rfl) (fun W => Fr (fun _ => False) Wd W) (VlY g n7 n8 n7 n11 c7 c8 c10 c11 b3 o3 k9 (0 : Int) fa (0 : Int) a7 a8 a10 none xr ey #[] f3) (fun _ _ _ _ => True) (Fr (fun _ => False)) (VlY.ext g n7 n8 n7 n11 c7 c8 c10 c11 b3 o3 k9 (0 : Int) fa (0 : Int) a7 a8 a10 none xr ey #[] f3) (Fr.refl _ _).drew ?_ ?_
                          · intro i hi o ho
                            replace hi : i < 34 := hi
                            obtain rfl | rfl | rfl | rfl | rfl | rfl | rfl | rfl | rfl | rfl | rfl | rfl | rfl | rfl | rfl | rfl | rfl | rfl | rfl | rfl | rfl | rfl | rfl | rfl | rfl | rfl | rfl | rfl | rfl | rfl | rfl | rfl | rfl | rfl : i = 0 ∨ i = 1 ∨ i = 2 ∨ i = 3 ∨ i = 4 ∨ i = 5 ∨ i = 6 ∨ i = 7 ∨ i = 8 ∨ i = 9 ∨ i = 10 ∨ i = 11 ∨ i = 12 ∨ i = 13 ∨ i = 14 ∨ i = 15 ∨ i = 16 ∨ i = 17 ∨ i = 18 ∨ i = 19 ∨ i = 20 ∨ i = 21 ∨ i = 22 ∨ i = 23 ∨ i = 24 ∨ i = 25 ∨ i = 26 ∨ i = 27 ∨ i = 28 ∨ i = 29 ∨ i = 30 ∨ i = 31 ∨ i = 32 ∨ i = 33 := by omega
                            · simp only [List.getElem?_cons_zero, Option.some.injEq] at ho
                              subst ho
                              intro a W vs hB hS hE hU
                              refine wpG_plain rfl ?_
                              have v11 : a.eval (.tmp 11) = .int .i64 0 := (hU 11 (by kernel_rfl)).trans rfl
                              clear hE hU
                              exact wp_value_inv (w' := W) (.int .i64 0) (op_move rfl v11) ⟨_, rfl, hB, Fr.refl _ _, rfl, fun _ _ _ _ _ => trivial⟩
                            · simp only [List.getElem?_cons_zero, List.getElem?_cons_succ, Option.some.injEq] at ho
                              subst ho
                              intro a W vs hB hS hE hU
                              refine wpG_plain rfl ?_
                              obtain ⟨r0, e126⟩ := hE 0 126 (by kernel_rfl) (by kernel_rfl)
                              have v126 : a.eval (.tmp 126) = .int .i64 0 := e126.trans r0
                              clear hE hU
                              exact wp_value_inv (w' := W) (.bool true) (op_bin rfl v126 rfl (guard_int9 W _ _ _ _ _ _ _) eql_yes) ⟨_, rfl, hB, Fr.refl _ _, rfl, fun _ _ _ _ _ => trivial⟩
                            · simp only [List.getElem?_cons_zero, List.getElem?_cons_succ, Option.some.injEq] at ho
                              subst ho
                              intro a W vs hB hS hE hU
                              refine wpG_plain rfl ?_
                              obtain ⟨r1, e127⟩ := hE 1 127 (by kernel_rfl) (by kernel_rfl)
                              have v127 : a.eval (.tmp 127) = .bool true := e127.trans r1
                              clear hE hU
                              exact wp_value_inv (w' := W) (.bool true) (op_move rfl v127) ⟨_, rfl, hB, Fr.refl _ _, rfl, fun _ _ _ _ _ => trivial⟩
                            · simp only [List.getElem?_cons_zero, List.getElem?_cons_succ, Option.some.injEq] at ho
                              subst ho
                              intro a W vs hB hS hE hU
                              obtain ⟨r2, e128⟩ := hE 2 128 (by kernel_rfl) (by kernel_rfl)
                              have v128 : a.eval (.tmp 128) = .bool true := e128.trans r2
                              refine wpG_yes 2 true 128 rfl (by kernel_rfl) (by rw [hS]; first | simp | exact Nat.le_of_ble_eq_true rfl) v128 ?_
                              have v15 : a.eval (.tmp 15) = .int .i64 (k9 : Nat) := (hU 15 (by kernel_rfl)).trans rfl
                              clear hE hU
                              exact wp_value_inv (w' := W) (.int .i64 (k9 : Nat)) (op_move rfl v15) ⟨_, rfl, hB, Fr.refl _ _, rfl, fun _ _ _ _ _ => trivial⟩
                            · simp only [List.getElem?_cons_zero, List.getElem?_cons_succ, Option.some.injEq] at ho
                              subst ho
                              intro a W vs hB hS hE hU
                              obtain ⟨r2, e128⟩ := hE 2 128 (by kernel_rfl) (by kernel_rfl)
                              have v128 : a.eval (.tmp 128) = .bool true := e128.trans r2
                              refine wpG_yes 2 true 128 rfl (by kernel_rfl) (by rw [hS]; first | simp | exact Nat.le_of_ble_eq_true rfl) v128 ?_
                              obtain ⟨r3, e129⟩ := hE 3 129 (by kernel_rfl) (by kernel_rfl)
                              have v129 : a.eval (.tmp 129) = .int .i64 (k9 : Nat) := e129.trans r3
                              clear hE hU
                              exact wp_value_inv (w' := W) (.bool false) (op_bin rfl v129 rfl rfl (lss_no (by omega))) ⟨_, rfl, hB, Fr.refl _ _, rfl, fun _ _ _ _ _ => trivial⟩
                            · simp only [List.getElem?_cons_zero, List.getElem?_cons_succ, Option.some.injEq] at ho
                              subst ho
                              intro a W vs hB hS hE hU
                              obtain ⟨r2, e128⟩ := hE 2 128 (by kernel_rfl) (by kernel_rfl)
                              have v128 : a.eval (.tmp 128) = .bool true := e128.trans r2
                              refine wpG_yes 2 true 128 rfl (by kernel_rfl) (by rw [hS]; first | simp | exact Nat.le_of_ble_eq_true rfl) v128 ?_
                              obtain ⟨r4, e130⟩ := hE 4 130 (by kernel_rfl) (by kernel_rfl)
                              have v130 : a.eval (.tmp 130) = .bool false := e130.trans r4
                              clear hE hU
                              exact wp_value_inv (w' := W) (.bool false) (op_move rfl v130) ⟨_, rfl, hB, Fr.refl _ _, rfl, fun _ _ _ _ _ => trivial⟩
                            · simp only [List.getElem?_cons_zero, List.getElem?_cons_succ, Option.some.injEq] at ho
                              subst ho
                              intro a W vs hB hS hE hU
                              obtain ⟨r5, e131⟩ := hE 5 131 (by kernel_rfl) (by kernel_rfl)
                              have v131 : a.eval (.tmp 131) = .bool false := e131.trans r5
                              refine wpG_yes 5 false 131 rfl (by kernel_rfl) (by rw [hS]; first | simp | exact Nat.le_of_ble_eq_true rfl) v131 ?_
                              have v13 : a.eval (.tmp 13) = .slice (some ⟨b3, f3, none⟩) n11 c11 := (hU 13 (by kernel_rfl)).trans rfl
                              clear hE hU
                              exact wp_value_inv (w' := W) (.slice (some ⟨b3, f3, none⟩) n11 c11) (op_move rfl v13) ⟨_, rfl, hB, Fr.refl _ _, rfl, fun _ _ _ _ _ => trivial⟩
                            · simp only [List.getElem?_cons_zero, List.getElem?_cons_succ, Option.some.injEq] at ho
                              subst ho
                              intro a W vs hB hS hE hU
                              obtain ⟨r5, e131⟩ := hE 5 131 (by kernel_rfl) (by kernel_rfl)
                              have v131 : a.eval (.tmp 131) = .bool false := e131.trans r5
                              refine wpG_yes 5 false 131 rfl (by kernel_rfl) (by rw [hS]; first | simp | exact Nat.le_of_ble_eq_true rfl) v131 ?_
                              have v15 : a.eval (.tmp 15) = .int .i64 (k9 : Nat) := (hU 15 (by kernel_rfl)).trans rfl
                              clear hE hU
                              exact wp_value_inv (w' := W) (.int .i64 (k9 : Nat)) (op_move rfl v15) ⟨_, rfl, hB, Fr.refl _ _, rfl, fun _ _ _ _ _ => trivial⟩
                            · simp only [List.getElem?_cons_zero, List.getElem?_cons_succ, Option.some.injEq] at ho
                              subst ho
                              intro a W vs hB hS hE hU
                              obtain ⟨r5, e131⟩ := hE 5 131 (by kernel_rfl) (by kernel_rfl)
                              have v131 : a.eval (.tmp 131) = .bool false := e131.trans r5
                              refine wpG_yes 5 false 131 rfl (by kernel_rfl) (by rw [hS]; first | simp | exact Nat.le_of_ble_eq_true rfl) v131 ?_
                              obtain ⟨r6, e132⟩ := hE 6 132 (by kernel_rfl) (by kernel_rfl)
                              have v132 : a.eval (.tmp 132) = .slice (some ⟨b3, f3, none⟩) n11 c11 := e132.trans r6
                              obtain ⟨r7, e133⟩ := hE 7 133 (by kernel_rfl) (by kernel_rfl)
                              have v133 : a.eval (.tmp 133) = .int .i64 (k9 : Nat) := e133.trans r7
                              clear hE hU
                              exact wp_value_inv (w' := W) (.pointer (some ⟨b3, o3, none⟩)) (op_indexAddr rfl v132 v133 (HI3.out W)) ⟨_, rfl, hB, Fr.refl _ _, rfl, fun _ _ _ _ _ => trivial⟩
                            · simp only [List.getElem?_cons_zero, List.getElem?_cons_succ, Option.some.injEq] at ho
                              subst ho
                              intro a W vs hB hS hE hU
                              obtain ⟨r5, e131⟩ := hE 5 131 (by kernel_rfl) (by kernel_rfl)
                              have v131 : a.eval (.tmp 131) = .bool false := e131.trans r5
                              refine wpG_yes 5 false 131 rfl (by kernel_rfl) (by rw [hS]; first | simp | exact Nat.le_of_ble_eq_true rfl) v131 ?_
                              obtain ⟨r8, e134⟩ := hE 8 134 (by kernel_rfl) (by kernel_rfl)
                              have v134 : a.eval (.tmp 134) = .pointer (some ⟨b3, o3, none⟩) := e134.trans r8
                              clear hE hU
                              exact wp_value_inv (w' := W) (.pointer (some ⟨b3, o3 + 1, none⟩)) (op_fieldAddr rfl v134 (fldRw1 W b3 o3)) ⟨_, rfl, hB, Fr.refl _ _, rfl, fun _ _ _ _ _ => trivial⟩
                            · simp only [List.getElem?_cons_zero, List.getElem?_cons_succ, Option.some.injEq] at ho
                              subst ho
                              intro a W vs hB hS hE hU
                              obtain ⟨r5, e131⟩ := hE 5 131 (by kernel_rfl) (by kernel_rfl)
                              have v131 : a.eval (.tmp 131) = .bool false := e131.trans r5
                              refine wpG_yes 5 false 131 rfl (by kernel_rfl) (by rw [hS]; first | simp | exact Nat.le_of_ble_eq_true rfl) v131 ?_
                              obtain ⟨r9, e135⟩ := hE 9 135 (by kernel_rfl) (by kernel_rfl)
                              have v135 : a.eval (.tmp 135) = .pointer (some ⟨b3, o3 + 1, none⟩) := e135.trans r9
                              clear hE hU
                              exact wp_value_inv (w' := W) (xr) (op_loadAt rfl v135 (LDV.out W hB)) ⟨_, rfl, hB, Fr.refl _ _, rfl, fun _ _ _ _ _ => trivial⟩
                            · simp only [List.getElem?_cons_zero, List.getElem?_cons_succ, Option.some.injEq] at ho
                              subst ho
                              intro a W vs hB hS hE hU
                              obtain ⟨r5, e131⟩ := hE 5 131 (by kernel_rfl) (by kernel_rfl)
                              have v131 : a.eval (.tmp 131) = .bool false := e131.trans r5
                              refine wpG_yes 5 false 131 rfl (by kernel_rfl) (by rw [hS]; first | simp | exact Nat.le_of_ble_eq_true rfl) v131 ?_
                              have v8 : a.eval (.tmp 8) = .pointer (some ⟨g, 0, none⟩) := (hU 8 (by kernel_rfl)).trans rfl
                              clear hE hU
                              exact wp_value_inv (w' := W) (.pointer (some ⟨g, 24, none⟩)) (op_fieldAddr rfl v8 (fld_spence_spencelaw14_Deed_4_0 W g)) ⟨_, rfl, hB, Fr.refl _ _, rfl, fun _ _ _ _ _ => trivial⟩
                            · simp only [List.getElem?_cons_zero, List.getElem?_cons_succ, Option.some.injEq] at ho
                              subst ho
                              intro a W vs hB hS hE hU
                              obtain ⟨r5, e131⟩ := hE 5 131 (by kernel_rfl) (by kernel_rfl)
                              have v131 : a.eval (.tmp 131) = .bool false := e131.trans r5
                              refine wpG_yes 5 false 131 rfl (by kernel_rfl) (by rw [hS]; first | simp | exact Nat.le_of_ble_eq_true rfl) v131 ?_
                              obtain ⟨r11, e137⟩ := hE 11 137 (by kernel_rfl) (by kernel_rfl)
                              have v137 : a.eval (.tmp 137) = .pointer (some ⟨g, 24, none⟩) := e137.trans r11
                              clear hE hU
                              exact wp_value_inv (w' := W) (ey) (op_loadAt rfl v137 (LDX.out W hB)) ⟨_, rfl, hB, Fr.refl _ _, rfl, fun _ _ _ _ _ => trivial⟩
                            · simp only [List.getElem?_cons_zero, List.getElem?_cons_succ, Option.some.injEq] at ho
                              subst ho
                              intro a W vs hB hS hE hU
                              obtain ⟨r5, e131⟩ := hE 5 131 (by kernel_rfl) (by kernel_rfl)
                              have v131 : a.eval (.tmp 131) = .bool false := e131.trans r5
                              refine wpG_yes 5 false 131 rfl (by kernel_rfl) (by rw [hS]; first | simp | exact Nat.le_of_ble_eq_true rfl) v131 ?_
                              obtain ⟨r10, e136⟩ := hE 10 136 (by kernel_rfl) (by kernel_rfl)
                              have v136 : a.eval (.tmp 136) = xr := e136.trans r10
                              obtain ⟨r12, e138⟩ := hE 12 138 (by kernel_rfl) (by kernel_rfl)
                              have v138 : a.eval (.tmp 138) = ey := e138.trans r12
                              clear hE hU
                              refine wp_call_inv 30 #[.tmp 136, .tmp 138] #[44, 44] rfl #[xr, ey] (by simp only [List.map_toArray, List.map_cons, List.map_nil, v136, v138]) (ent_spence_spencekit_SameBytes _) (Post := fun v W' => v = .bool true ∧ Fr (fun _ => False) W W') ((HSB.out W hB).mono fun e w' h => ⟨_, h.1, rfl, h.2⟩) ?_
                              rintro v W' ⟨rfl, hf⟩
                              exact ⟨_, rfl, hB.trans hf (fun _ h => h.elim), hf, rfl, fun _ _ _ _ _ => trivial⟩
                            · simp only [List.getElem?_cons_zero, List.getElem?_cons_succ, Option.some.injEq] at ho
                              subst ho
                              intro a W vs hB hS hE hU
                              obtain ⟨r5, e131⟩ := hE 5 131 (by kernel_rfl) (by kernel_rfl)
                              have v131 : a.eval (.tmp 131) = .bool false := e131.trans r5
                              refine wpG_yes 5 false 131 rfl (by kernel_rfl) (by rw [hS]; first | simp | exact Nat.le_of_ble_eq_true rfl) v131 ?_
                              obtain ⟨r13, e139⟩ := hE 13 139 (by kernel_rfl) (by kernel_rfl)
                              have v139 : a.eval (.tmp 139) = .bool true := e139.trans r13
                              clear hE hU
                              exact wp_value_inv (w' := W) (.bool false) (op_not9 rfl v139) ⟨_, rfl, hB, Fr.refl _ _, rfl, fun _ _ _ _ _ => trivial⟩
                            · simp only [List.getElem?_cons_zero, List.getElem?_cons_succ, Option.some.injEq] at ho
                              subst ho
                              intro a W vs hB hS hE hU
                              obtain ⟨r2, e128⟩ := hE 2 128 (by kernel_rfl) (by kernel_rfl)
                              have v128 : a.eval (.tmp 128) = .bool true := e128.trans r2
                              refine wpG_yes 2 true 128 rfl (by kernel_rfl) (by rw [hS]; first | simp | exact Nat.le_of_ble_eq_true rfl) v128 ?_
                              obtain ⟨r5, e131⟩ := hE 5 131 (by kernel_rfl) (by kernel_rfl)
                              have v131 : a.eval (.tmp 131) = .bool false := e131.trans r5
                              obtain ⟨r14, e140⟩ := hE 14 140 (by kernel_rfl) (by kernel_rfl)
                              have v140 : a.eval (.tmp 140) = .bool false := e140.trans r14
                              clear hE hU
                              exact wp_value_inv (w' := W) (.bool false) (op_pick rfl v131 (by simp only [Bool.false_eq_true, if_false]; exact v140)) ⟨_, rfl, hB, Fr.refl _ _, rfl, fun _ _ _ _ _ => trivial⟩
                            · simp only [List.getElem?_cons_zero, List.getElem?_cons_succ, Option.some.injEq] at ho
                              subst ho
                              intro a W vs hB hS hE hU
                              refine wpG_plain rfl ?_
                              obtain ⟨r2, e128⟩ := hE 2 128 (by kernel_rfl) (by kernel_rfl)
                              have v128 : a.eval (.tmp 128) = .bool true := e128.trans r2
                              obtain ⟨r15, e141⟩ := hE 15 141 (by kernel_rfl) (by kernel_rfl)
                              have v141 : a.eval (.tmp 141) = .bool false := e141.trans r15
                              clear hE hU
                              exact wp_value_inv (w' := W) (.bool false) (op_pick rfl v128 (by simp only [if_true]; exact v141)) ⟨_, rfl, hB, Fr.refl _ _, rfl, fun _ _ _ _ _ => trivial⟩
                            · simp only [List.getElem?_cons_zero, List.getElem?_cons_succ, Option.some.injEq] at ho
                              subst ho
                              intro a W vs hB hS hE hU
                              refine wpG_plain rfl ?_
                              obtain ⟨r16, e142⟩ := hE 16 142 (by kernel_rfl) (by kernel_rfl)
                              have v142 : a.eval (.tmp 142) = .bool false := e142.trans r16
                              clear hE hU
                              exact wp_value_inv (w' := W) (.bool false) (op_move rfl v142) ⟨_, rfl, hB, Fr.refl _ _, rfl, fun _ _ _ _ _ => trivial⟩
                            · simp only [List.getElem?_cons_zero, List.getElem?_cons_succ, Option.some.injEq] at ho
                              subst ho
                              intro a W vs hB hS hE hU
                              obtain ⟨r17, e143⟩ := hE 17 143 (by kernel_rfl) (by kernel_rfl)
                              have v143 : a.eval (.tmp 143) = .bool false := e143.trans r17
                              refine wpG_yes 17 false 143 rfl (by kernel_rfl) (by rw [hS]; first | simp | exact Nat.le_of_ble_eq_true rfl) v143 ?_
                              have v11 : a.eval (.tmp 11) = .int .i64 0 := (hU 11 (by kernel_rfl)).trans rfl
                              clear hE hU
                              exact wp_value_inv (w' := W) (.int .i64 0) (op_move rfl v11) ⟨_, rfl, hB, Fr.refl _ _, rfl, fun _ _ _ _ _ => trivial⟩
                            · simp only [List.getElem?_cons_zero, List.getElem?_cons_succ, Option.some.injEq] at ho
                              subst ho
                              intro a W vs hB hS hE hU
                              obtain ⟨r17, e143⟩ := hE 17 143 (by kernel_rfl) (by kernel_rfl)
                              have v143 : a.eval (.tmp 143) = .bool false := e143.trans r17
                              refine wpG_yes 17 false 143 rfl (by kernel_rfl) (by rw [hS]; first | simp | exact Nat.le_of_ble_eq_true rfl) v143 ?_
                              obtain ⟨r18, e144⟩ := hE 18 144 (by kernel_rfl) (by kernel_rfl)
                              have v144 : a.eval (.tmp 144) = .int .i64 0 := e144.trans r18
                              clear hE hU
                              exact wp_value_inv (w' := W) (.bool false) (op_bin rfl v144 rfl (guard_int9 W _ _ _ _ _ _ _) neq_no) ⟨_, rfl, hB, Fr.refl _ _, rfl, fun _ _ _ _ _ => trivial⟩
                            · simp only [List.getElem?_cons_zero, List.getElem?_cons_succ, Option.some.injEq] at ho
                              subst ho
                              intro a W vs hB hS hE hU
                              obtain ⟨r17, e143⟩ := hE 17 143 (by kernel_rfl) (by kernel_rfl)
                              have v143 : a.eval (.tmp 143) = .bool false := e143.trans r17
                              refine wpG_yes 17 false 143 rfl (by kernel_rfl) (by rw [hS]; first | simp | exact Nat.le_of_ble_eq_true rfl) v143 ?_
                              obtain ⟨r19, e145⟩ := hE 19 145 (by kernel_rfl) (by kernel_rfl)
                              have v145 : a.eval (.tmp 145) = .bool false := e145.trans r19
                              clear hE hU
                              exact wp_value_inv (w' := W) (.bool false) (op_move rfl v145) ⟨_, rfl, hB, Fr.refl _ _, rfl, fun _ _ _ _ _ => trivial⟩
                            · simp only [List.getElem?_cons_zero, List.getElem?_cons_succ, Option.some.injEq] at ho
                              subst ho
                              intro a W vs hB hS hE hU
                              obtain ⟨r20, e146⟩ := hE 20 146 (by kernel_rfl) (by kernel_rfl)
                              have v146 : a.eval (.tmp 146) = .bool false := e146.trans r20
                              exact wpG_no 20 true 146 rfl (by kernel_rfl) (by rw [hS]; first | simp | exact Nat.le_of_ble_eq_true rfl) v146 ⟨_, rfl, hB, Fr.refl _ _, rfl, fun _ _ _ _ _ => trivial⟩
                            · simp only [List.getElem?_cons_zero, List.getElem?_cons_succ, Option.some.injEq] at ho
                              subst ho
                              intro a W vs hB hS hE hU
                              obtain ⟨r20, e146⟩ := hE 20 146 (by kernel_rfl) (by kernel_rfl)
                              have v146 : a.eval (.tmp 146) = .bool false := e146.trans r20
                              exact wpG_no 20 true 146 rfl (by kernel_rfl) (by rw [hS]; first | simp | exact Nat.le_of_ble_eq_true rfl) v146 ⟨_, rfl, hB, Fr.refl _ _, rfl, fun _ _ _ _ _ => trivial⟩
                            · simp only [List.getElem?_cons_zero, List.getElem?_cons_succ, Option.some.injEq] at ho
                              subst ho
                              intro a W vs hB hS hE hU
                              obtain ⟨r20, e146⟩ := hE 20 146 (by kernel_rfl) (by kernel_rfl)
                              have v146 : a.eval (.tmp 146) = .bool false := e146.trans r20
                              exact wpG_no 20 true 146 rfl (by kernel_rfl) (by rw [hS]; first | simp | exact Nat.le_of_ble_eq_true rfl) v146 ⟨_, rfl, hB, Fr.refl _ _, rfl, fun _ _ _ _ _ => trivial⟩
                            · simp only [List.getElem?_cons_zero, List.getElem?_cons_succ, Option.some.injEq] at ho
                              subst ho
                              intro a W vs hB hS hE hU
                              obtain ⟨r20, e146⟩ := hE 20 146 (by kernel_rfl) (by kernel_rfl)
                              have v146 : a.eval (.tmp 146) = .bool false := e146.trans r20
                              exact wpG_no 20 true 146 rfl (by kernel_rfl) (by rw [hS]; first | simp | exact Nat.le_of_ble_eq_true rfl) v146 ⟨_, rfl, hB, Fr.refl _ _, rfl, fun _ _ _ _ _ => trivial⟩
                            · simp only [List.getElem?_cons_zero, List.getElem?_cons_succ, Option.some.injEq] at ho
                              subst ho
                              intro a W vs hB hS hE hU
                              obtain ⟨r17, e143⟩ := hE 17 143 (by kernel_rfl) (by kernel_rfl)
                              have v143 : a.eval (.tmp 143) = .bool false := e143.trans r17
                              refine wpG_yes 17 false 143 rfl (by kernel_rfl) (by rw [hS]; first | simp | exact Nat.le_of_ble_eq_true rfl) v143 ?_
                              obtain ⟨r20, e146⟩ := hE 20 146 (by kernel_rfl) (by kernel_rfl)
                              have v146 : a.eval (.tmp 146) = .bool false := e146.trans r20
                              clear hE hU
                              exact wp_value_inv (w' := W) (.bool false) (op_pick rfl v146 (by simp only [Bool.false_eq_true, if_false]; rfl)) ⟨_, rfl, hB, Fr.refl _ _, rfl, fun _ _ _ _ _ => trivial⟩
                            · simp only [List.getElem?_cons_zero, List.getElem?_cons_succ, Option.some.injEq] at ho
                              subst ho
                              intro a W vs hB hS hE hU
                              refine wpG_plain rfl ?_
                              obtain ⟨r17, e143⟩ := hE 17 143 (by kernel_rfl) (by kernel_rfl)
                              have v143 : a.eval (.tmp 143) = .bool false := e143.trans r17
                              obtain ⟨r25, e151⟩ := hE 25 151 (by kernel_rfl) (by kernel_rfl)
                              have v151 : a.eval (.tmp 151) = .bool false := e151.trans r25
                              clear hE hU
                              exact wp_value_inv (w' := W) (.bool false) (op_pick rfl v143 (by simp only [Bool.false_eq_true, if_false]; exact v151)) ⟨_, rfl, hB, Fr.refl _ _, rfl, fun _ _ _ _ _ => trivial⟩
                            · simp only [List.getElem?_cons_zero, List.getElem?_cons_succ, Option.some.injEq] at ho
                              subst ho
                              intro a W vs hB hS hE hU
                              refine wpG_plain rfl ?_
                              obtain ⟨r26, e152⟩ := hE 26 152 (by kernel_rfl) (by kernel_rfl)
                              have v152 : a.eval (.tmp 152) = .bool false := e152.trans r26
                              clear hE hU
                              exact wp_value_inv (w' := W) (.bool false) (op_move rfl v152) ⟨_, rfl, hB, Fr.refl _ _, rfl, fun _ _ _ _ _ => trivial⟩
                            · simp only [List.getElem?_cons_zero, List.getElem?_cons_succ, Option.some.injEq] at ho
                              subst ho
                              intro a W vs hB hS hE hU
                              obtain ⟨r27, e153⟩ := hE 27 153 (by kernel_rfl) (by kernel_rfl)
                              have v153 : a.eval (.tmp 153) = .bool false := e153.trans r27
                              refine wpG_yes 27 false 153 rfl (by kernel_rfl) (by rw [hS]; first | simp | exact Nat.le_of_ble_eq_true rfl) v153 ?_
                              have v12 : a.eval (.tmp 12) = .slice a10 n7 c10 := (hU 12 (by kernel_rfl)).trans rfl
                              clear hE hU
                              exact wp_value_inv (w' := W) (.slice a10 n7 c10) (op_move rfl v12) ⟨_, rfl, hB, Fr.refl _ _, rfl, fun _ _ _ _ _ => trivial⟩
                            · simp only [List.getElem?_cons_zero, List.getElem?_cons_succ, Option.some.injEq] at ho
                              subst ho
                              intro a W vs hB hS hE hU
                              obtain ⟨r27, e153⟩ := hE 27 153 (by kernel_rfl) (by kernel_rfl)
                              have v153 : a.eval (.tmp 153) = .bool false := e153.trans r27
                              refine wpG_yes 27 false 153 rfl (by kernel_rfl) (by rw [hS]; first | simp | exact Nat.le_of_ble_eq_true rfl) v153 ?_
                              obtain ⟨r28, e154⟩ := hE 28 154 (by kernel_rfl) (by kernel_rfl)
                              have v154 : a.eval (.tmp 154) = .slice a10 n7 c10 := e154.trans r28
                              clear hE hU
                              exact wp_value_inv (w' := W) (.int .i64 (n7 : Nat)) (op_lenRt rfl v154) ⟨_, rfl, hB, Fr.refl _ _, rfl, fun _ _ _ _ _ => trivial⟩
                            · simp only [List.getElem?_cons_zero, List.getElem?_cons_succ, Option.some.injEq] at ho
                              subst ho
                              intro a W vs hB hS hE hU
                              obtain ⟨r27, e153⟩ := hE 27 153 (by kernel_rfl) (by kernel_rfl)
                              have v153 : a.eval (.tmp 153) = .bool false := e153.trans r27
                              refine wpG_yes 27 false 153 rfl (by kernel_rfl) (by rw [hS]; first | simp | exact Nat.le_of_ble_eq_true rfl) v153 ?_
                              have v9 : a.eval (.tmp 9) = .slice a7 n7 c7 := (hU 9 (by kernel_rfl)).trans rfl
                              clear hE hU
                              exact wp_value_inv (w' := W) (.slice a7 n7 c7) (op_move rfl v9) ⟨_, rfl, hB, Fr.refl _ _, rfl, fun _ _ _ _ _ => trivial⟩
                            · simp only [List.getElem?_cons_zero, List.getElem?_cons_succ, Option.some.injEq] at ho
                              subst ho
                              intro a W vs hB hS hE hU
                              obtain ⟨r27, e153⟩ := hE 27 153 (by kernel_rfl) (by kernel_rfl)
                              have v153 : a.eval (.tmp 153) = .bool false := e153.trans r27
                              refine wpG_yes 27 false 153 rfl (by kernel_rfl) (by rw [hS]; first | simp | exact Nat.le_of_ble_eq_true rfl) v153 ?_
                              obtain ⟨r30, e156⟩ := hE 30 156 (by kernel_rfl) (by kernel_rfl)
                              have v156 : a.eval (.tmp 156) = .slice a7 n7 c7 := e156.trans r30
                              clear hE hU
                              exact wp_value_inv (w' := W) (.int .i64 (n7 : Nat)) (op_lenRt rfl v156) ⟨_, rfl, hB, Fr.refl _ _, rfl, fun _ _ _ _ _ => trivial⟩
                            · simp only [List.getElem?_cons_zero, List.getElem?_cons_succ, Option.some.injEq] at ho
                              subst ho
                              intro a W vs hB hS hE hU
                              obtain ⟨r27, e153⟩ := hE 27 153 (by kernel_rfl) (by kernel_rfl)
                              have v153 : a.eval (.tmp 153) = .bool false := e153.trans r27
                              refine wpG_yes 27 false 153 rfl (by kernel_rfl) (by rw [hS]; first | simp | exact Nat.le_of_ble_eq_true rfl) v153 ?_
                              obtain ⟨r29, e155⟩ := hE 29 155 (by kernel_rfl) (by kernel_rfl)
                              have v155 : a.eval (.tmp 155) = .int .i64 (n7 : Nat) := e155.trans r29
                              obtain ⟨r31, e157⟩ := hE 31 157 (by kernel_rfl) (by kernel_rfl)
                              have v157 : a.eval (.tmp 157) = .int .i64 (n7 : Nat) := e157.trans r31
                              clear hE hU
                              exact wp_value_inv (w' := W) (.bool false) (op_bin rfl v155 v157 (guard_int9 W _ _ _ _ _ _ _) neq_no) ⟨_, rfl, hB, Fr.refl _ _, rfl, fun _ _ _ _ _ => trivial⟩
                            · simp only [List.getElem?_cons_zero, List.getElem?_cons_succ, Option.some.injEq] at ho
                              subst ho
                              intro a W vs hB hS hE hU
                              refine wpG_plain rfl ?_
                              obtain ⟨r27, e153⟩ := hE 27 153 (by kernel_rfl) (by kernel_rfl)
                              have v153 : a.eval (.tmp 153) = .bool false := e153.trans r27
                              obtain ⟨r32, e158⟩ := hE 32 158 (by kernel_rfl) (by kernel_rfl)
                              have v158 : a.eval (.tmp 158) = .bool false := e158.trans r32
                              clear hE hU
                              exact wp_value_inv (w' := W) (.bool false) (op_pick rfl v153 (by simp only [Bool.false_eq_true, if_false]; exact v158)) ⟨_, rfl, hB, Fr.refl _ _, rfl, fun _ _ _ _ _ => trivial⟩
                          · intro vs Wz hB0 hR0 hD
                            have r159 : vs 33 = .bool false := hR0 33 (by decide)
                            have HZ := Lib.hid hB0
                            clear hR0 hD hB0
                            simp only [acts, if_true, dstAt, List.getElem?_cons_zero, List.getElem?_cons_succ, Option.bind_some, Act.put, List.setIfInBounds_toArray, List.set_cons_succ, List.set_cons_zero, List.drop_succ_cons, List.drop_nil]
                            simp only [r159]
                            clear r159
                            go_wp2_with fail
                            go_meet
                            case rel => exact HZ
                      · as_aux_lemma =>
                          obtain rfl : n8 = n11 := by rw [HLL.out.2.2.2, HLL.out.2.1, hss]
                          have HEN := Lib.hid hE0
                          have HSL := Lib.hid (fun W (hW : Fr (fun _ => False) Wd W) => sameLines_yes W _ _ l11 l8 (((H16.out.2.2.2.1.rws9).keep HD16.out (fun _ _ _ h => h)).keep hW (fun _ _ _ h => h)) (((H16.out.2.1.rws9).keep HD16.out (fun _ _ _ h => h)).keep hW (fun _ _ _ h => h)) (by rw [H16.out.2.2.2.2.2.2.2, H16.out.2.2.2.2.2.2.1, hss]) (by
                            have h1 := (HV9.out.1.nk.ok 1).2.1
                            rw [← H16.out.2.2.2.2.2.2.2, List.length_map] at h1
                            omega))
                          clear hss hU hew hE0
                          go_wp2_with fail
                          refine wp_region_inv 34 (by kernel_rfl) (by kernel_rfl) (fun W => Fr (fun _ => False) Wd W) (VlN g n7 n8 n7 n8 c7 c8 c10 c11 0 0 0 E fa fb a7 a8 a10 a11 undef undef #[] 0) (fun _ _ _ _ => True) (Fr (fun _ => False)) (VlN.ext g n7 n8 n7 n8 c7 c8 c10 c11 0 0 0 E fa fb a7 a8 a10 a11 undef undef #[] 0) (Fr.refl _ _).drew ?_ ?_
                          · intro i hi o ho
                            replace hi : i < 34 := hi
                            obtain rfl | rfl | rfl | rfl | rfl | rfl | rfl | rfl | rfl | rfl | rfl | rfl | rfl | rfl | rfl | rfl | rfl | rfl | rfl | rfl | rfl | rfl | rfl | rfl | rfl | rfl | rfl | rfl | rfl | rfl | rfl | rfl | rfl | rfl : i = 0 ∨ i = 1 ∨ i = 2 ∨ i = 3 ∨ i = 4 ∨ i = 5 ∨ i = 6 ∨ i = 7 ∨ i = 8 ∨ i = 9 ∨ i = 10 ∨ i = 11 ∨ i = 12 ∨ i = 13 ∨ i = 14 ∨ i = 15 ∨ i = 16 ∨ i = 17 ∨ i = 18 ∨ i = 19 ∨ i = 20 ∨ i = 21 ∨ i = 22 ∨ i = 23 ∨ i = 24 ∨ i = 25 ∨ i = 26 ∨ i = 27 ∨ i = 28 ∨ i = 29 ∨ i = 30 ∨ i = 31 ∨ i = 32 ∨ i = 33 := by omega
                            · simp only [List.getElem?_cons_zero, Option.some.injEq] at ho
                              subst ho
                              intro a W vs hB hS hE hU
                              refine wpG_plain rfl ?_
                              have v11 : a.eval (.tmp 11) = .int .i64 E := (hU 11 (by kernel_rfl)).trans rfl
                              clear hE hU
                              exact wp_value_inv (w' := W) (.int .i64 E) (op_move rfl v11) ⟨_, rfl, hB, Fr.refl _ _, rfl, fun _ _ _ _ _ => trivial⟩
                            · simp only [List.getElem?_cons_zero, List.getElem?_cons_succ, Option.some.injEq] at ho
                              subst ho
                              intro a W vs hB hS hE hU
                              refine wpG_plain rfl ?_
                              obtain ⟨r0, e126⟩ := hE 0 126 (by kernel_rfl) (by kernel_rfl)
                              have v126 : a.eval (.tmp 126) = .int .i64 E := e126.trans r0
                              clear hE hU
                              exact wp_value_inv (w' := W) (.bool false) (op_bin rfl v126 rfl (guard_int9 W _ _ _ _ _ _ _) (eql_no HEN.out)) ⟨_, rfl, hB, Fr.refl _ _, rfl, fun _ _ _ _ _ => trivial⟩
                            · simp only [List.getElem?_cons_zero, List.getElem?_cons_succ, Option.some.injEq] at ho
                              subst ho
                              intro a W vs hB hS hE hU
                              refine wpG_plain rfl ?_
                              obtain ⟨r1, e127⟩ := hE 1 127 (by kernel_rfl) (by kernel_rfl)
                              have v127 : a.eval (.tmp 127) = .bool false := e127.trans r1
                              clear hE hU
                              exact wp_value_inv (w' := W) (.bool false) (op_move rfl v127) ⟨_, rfl, hB, Fr.refl _ _, rfl, fun _ _ _ _ _ => trivial⟩
                            · simp only [List.getElem?_cons_zero, List.getElem?_cons_succ, Option.some.injEq] at ho
                              subst ho
                              intro a W vs hB hS hE hU
                              obtain ⟨r2, e128⟩ := hE 2 128 (by kernel_rfl) (by kernel_rfl)
                              have v128 : a.eval (.tmp 128) = .bool false := e128.trans r2
                              exact wpG_no 2 true 128 rfl (by kernel_rfl) (by rw [hS]; first | simp | exact Nat.le_of_ble_eq_true rfl) v128 ⟨_, rfl, hB, Fr.refl _ _, rfl, fun _ _ _ _ _ => trivial⟩
                            · simp only [List.getElem?_cons_zero, List.getElem?_cons_succ, Option.some.injEq] at ho
                              subst ho
                              intro a W vs hB hS hE hU
                              obtain ⟨r2, e128⟩ := hE 2 128 (by kernel_rfl) (by kernel_rfl)
                              have v128 : a.eval (.tmp 128) = .bool false := e128.trans r2
                              exact wpG_no 2 true 128 rfl (by kernel_rfl) (by rw [hS]; first | simp | exact Nat.le_of_ble_eq_true rfl) v128 ⟨_, rfl, hB, Fr.refl _ _, rfl, fun _ _ _ _ _ => trivial⟩
                            · simp only [List.getElem?_cons_zero, List.getElem?_cons_succ, Option.some.injEq] at ho
                              subst ho
                              intro a W vs hB hS hE hU
                              obtain ⟨r2, e128⟩ := hE 2 128 (by kernel_rfl) (by kernel_rfl)
                              have v128 : a.eval (.tmp 128) = .bool false := e128.trans r2
                              exact wpG_no 2 true 128 rfl (by kernel_rfl) (by rw [hS]; first | simp | exact Nat.le_of_ble_eq_true rfl) v128 ⟨_, rfl, hB, Fr.refl _ _, rfl, fun _ _ _ _ _ => trivial⟩
                            · simp only [List.getElem?_cons_zero, List.getElem?_cons_succ, Option.some.injEq] at ho
                              subst ho
                              intro a W vs hB hS hE hU
                              obtain ⟨r5, e131⟩ := hE 5 131 (by kernel_rfl) (by kernel_rfl)
                              have v131 : a.eval (.tmp 131) = undef := e131.trans r5
                              exact wpG_undef 5 false 131 rfl (by kernel_rfl) (by rw [hS]; first | simp | exact Nat.le_of_ble_eq_true rfl) v131 ⟨_, rfl, hB, Fr.refl _ _, rfl, fun _ _ _ _ _ => trivial⟩
                            · simp only [List.getElem?_cons_zero, List.getElem?_cons_succ, Option.some.injEq] at ho
                              subst ho
                              intro a W vs hB hS hE hU
                              obtain ⟨r5, e131⟩ := hE 5 131 (by kernel_rfl) (by kernel_rfl)
                              have v131 : a.eval (.tmp 131) = undef := e131.trans r5
                              exact wpG_undef 5 false 131 rfl (by kernel_rfl) (by rw [hS]; first | simp | exact Nat.le_of_ble_eq_true rfl) v131 ⟨_, rfl, hB, Fr.refl _ _, rfl, fun _ _ _ _ _ => trivial⟩
                            · simp only [List.getElem?_cons_zero, List.getElem?_cons_succ, Option.some.injEq] at ho
                              subst ho
                              intro a W vs hB hS hE hU
                              obtain ⟨r5, e131⟩ := hE 5 131 (by kernel_rfl) (by kernel_rfl)
                              have v131 : a.eval (.tmp 131) = undef := e131.trans r5
                              exact wpG_undef 5 false 131 rfl (by kernel_rfl) (by rw [hS]; first | simp | exact Nat.le_of_ble_eq_true rfl) v131 ⟨_, rfl, hB, Fr.refl _ _, rfl, fun _ _ _ _ _ => trivial⟩
                            · simp only [List.getElem?_cons_zero, List.getElem?_cons_succ, Option.some.injEq] at ho
                              subst ho
                              intro a W vs hB hS hE hU
                              obtain ⟨r5, e131⟩ := hE 5 131 (by kernel_rfl) (by kernel_rfl)
                              have v131 : a.eval (.tmp 131) = undef := e131.trans r5
                              exact wpG_undef 5 false 131 rfl (by kernel_rfl) (by rw [hS]; first | simp | exact Nat.le_of_ble_eq_true rfl) v131 ⟨_, rfl, hB, Fr.refl _ _, rfl, fun _ _ _ _ _ => trivial⟩
                            · simp only [List.getElem?_cons_zero, List.getElem?_cons_succ, Option.some.injEq] at ho
                              subst ho
                              intro a W vs hB hS hE hU
                              obtain ⟨r5, e131⟩ := hE 5 131 (by kernel_rfl) (by kernel_rfl)
                              have v131 : a.eval (.tmp 131) = undef := e131.trans r5
                              exact wpG_undef 5 false 131 rfl (by kernel_rfl) (by rw [hS]; first | simp | exact Nat.le_of_ble_eq_true rfl) v131 ⟨_, rfl, hB, Fr.refl _ _, rfl, fun _ _ _ _ _ => trivial⟩
                            · simp only [List.getElem?_cons_zero, List.getElem?_cons_succ, Option.some.injEq] at ho
                              subst ho
                              intro a W vs hB hS hE hU
                              obtain ⟨r5, e131⟩ := hE 5 131 (by kernel_rfl) (by kernel_rfl)
                              have v131 : a.eval (.tmp 131) = undef := e131.trans r5
                              exact wpG_undef 5 false 131 rfl (by kernel_rfl) (by rw [hS]; first | simp | exact Nat.le_of_ble_eq_true rfl) v131 ⟨_, rfl, hB, Fr.refl _ _, rfl, fun _ _ _ _ _ => trivial⟩
                            · simp only [List.getElem?_cons_zero, List.getElem?_cons_succ, Option.some.injEq] at ho
                              subst ho
                              intro a W vs hB hS hE hU
                              obtain ⟨r5, e131⟩ := hE 5 131 (by kernel_rfl) (by kernel_rfl)
                              have v131 : a.eval (.tmp 131) = undef := e131.trans r5
                              exact wpG_undef 5 false 131 rfl (by kernel_rfl) (by rw [hS]; first | simp | exact Nat.le_of_ble_eq_true rfl) v131 ⟨_, rfl, hB, Fr.refl _ _, rfl, fun _ _ _ _ _ => trivial⟩
                            · simp only [List.getElem?_cons_zero, List.getElem?_cons_succ, Option.some.injEq] at ho
                              subst ho
                              intro a W vs hB hS hE hU
                              obtain ⟨r5, e131⟩ := hE 5 131 (by kernel_rfl) (by kernel_rfl)
                              have v131 : a.eval (.tmp 131) = undef := e131.trans r5
                              exact wpG_undef 5 false 131 rfl (by kernel_rfl) (by rw [hS]; first | simp | exact Nat.le_of_ble_eq_true rfl) v131 ⟨_, rfl, hB, Fr.refl _ _, rfl, fun _ _ _ _ _ => trivial⟩
                            · simp only [List.getElem?_cons_zero, List.getElem?_cons_succ, Option.some.injEq] at ho
                              subst ho
                              intro a W vs hB hS hE hU
                              obtain ⟨r5, e131⟩ := hE 5 131 (by kernel_rfl) (by kernel_rfl)
                              have v131 : a.eval (.tmp 131) = undef := e131.trans r5
                              exact wpG_undef 5 false 131 rfl (by kernel_rfl) (by rw [hS]; first | simp | exact Nat.le_of_ble_eq_true rfl) v131 ⟨_, rfl, hB, Fr.refl _ _, rfl, fun _ _ _ _ _ => trivial⟩
                            · simp only [List.getElem?_cons_zero, List.getElem?_cons_succ, Option.some.injEq] at ho
                              subst ho
                              intro a W vs hB hS hE hU
                              obtain ⟨r2, e128⟩ := hE 2 128 (by kernel_rfl) (by kernel_rfl)
                              have v128 : a.eval (.tmp 128) = .bool false := e128.trans r2
                              exact wpG_no 2 true 128 rfl (by kernel_rfl) (by rw [hS]; first | simp | exact Nat.le_of_ble_eq_true rfl) v128 ⟨_, rfl, hB, Fr.refl _ _, rfl, fun _ _ _ _ _ => trivial⟩
                            · simp only [List.getElem?_cons_zero, List.getElem?_cons_succ, Option.some.injEq] at ho
                              subst ho
                              intro a W vs hB hS hE hU
                              refine wpG_plain rfl ?_
                              obtain ⟨r2, e128⟩ := hE 2 128 (by kernel_rfl) (by kernel_rfl)
                              have v128 : a.eval (.tmp 128) = .bool false := e128.trans r2
                              clear hE hU
                              exact wp_value_inv (w' := W) (.bool false) (op_pick rfl v128 (by simp only [Bool.false_eq_true, if_false]; rfl)) ⟨_, rfl, hB, Fr.refl _ _, rfl, fun _ _ _ _ _ => trivial⟩
                            · simp only [List.getElem?_cons_zero, List.getElem?_cons_succ, Option.some.injEq] at ho
                              subst ho
                              intro a W vs hB hS hE hU
                              refine wpG_plain rfl ?_
                              obtain ⟨r16, e142⟩ := hE 16 142 (by kernel_rfl) (by kernel_rfl)
                              have v142 : a.eval (.tmp 142) = .bool false := e142.trans r16
                              clear hE hU
                              exact wp_value_inv (w' := W) (.bool false) (op_move rfl v142) ⟨_, rfl, hB, Fr.refl _ _, rfl, fun _ _ _ _ _ => trivial⟩
                            · simp only [List.getElem?_cons_zero, List.getElem?_cons_succ, Option.some.injEq] at ho
                              subst ho
                              intro a W vs hB hS hE hU
                              obtain ⟨r17, e143⟩ := hE 17 143 (by kernel_rfl) (by kernel_rfl)
                              have v143 : a.eval (.tmp 143) = .bool false := e143.trans r17
                              refine wpG_yes 17 false 143 rfl (by kernel_rfl) (by rw [hS]; first | simp | exact Nat.le_of_ble_eq_true rfl) v143 ?_
                              have v11 : a.eval (.tmp 11) = .int .i64 E := (hU 11 (by kernel_rfl)).trans rfl
                              clear hE hU
                              exact wp_value_inv (w' := W) (.int .i64 E) (op_move rfl v11) ⟨_, rfl, hB, Fr.refl _ _, rfl, fun _ _ _ _ _ => trivial⟩
                            · simp only [List.getElem?_cons_zero, List.getElem?_cons_succ, Option.some.injEq] at ho
                              subst ho
                              intro a W vs hB hS hE hU
                              obtain ⟨r17, e143⟩ := hE 17 143 (by kernel_rfl) (by kernel_rfl)
                              have v143 : a.eval (.tmp 143) = .bool false := e143.trans r17
                              refine wpG_yes 17 false 143 rfl (by kernel_rfl) (by rw [hS]; first | simp | exact Nat.le_of_ble_eq_true rfl) v143 ?_
                              obtain ⟨r18, e144⟩ := hE 18 144 (by kernel_rfl) (by kernel_rfl)
                              have v144 : a.eval (.tmp 144) = .int .i64 E := e144.trans r18
                              clear hE hU
                              exact wp_value_inv (w' := W) (.bool true) (op_bin rfl v144 rfl (guard_int9 W _ _ _ _ _ _ _) (neq_yes HEN.out)) ⟨_, rfl, hB, Fr.refl _ _, rfl, fun _ _ _ _ _ => trivial⟩
                            · simp only [List.getElem?_cons_zero, List.getElem?_cons_succ, Option.some.injEq] at ho
                              subst ho
                              intro a W vs hB hS hE hU
                              obtain ⟨r17, e143⟩ := hE 17 143 (by kernel_rfl) (by kernel_rfl)
                              have v143 : a.eval (.tmp 143) = .bool false := e143.trans r17
                              refine wpG_yes 17 false 143 rfl (by kernel_rfl) (by rw [hS]; first | simp | exact Nat.le_of_ble_eq_true rfl) v143 ?_
                              obtain ⟨r19, e145⟩ := hE 19 145 (by kernel_rfl) (by kernel_rfl)
                              have v145 : a.eval (.tmp 145) = .bool true := e145.trans r19
                              clear hE hU
                              exact wp_value_inv (w' := W) (.bool true) (op_move rfl v145) ⟨_, rfl, hB, Fr.refl _ _, rfl, fun _ _ _ _ _ => trivial⟩
                            · simp only [List.getElem?_cons_zero, List.getElem?_cons_succ, Option.some.injEq] at ho
                              subst ho
                              intro a W vs hB hS hE hU
                              obtain ⟨r20, e146⟩ := hE 20 146 (by kernel_rfl) (by kernel_rfl)
                              have v146 : a.eval (.tmp 146) = .bool true := e146.trans r20
                              refine wpG_yes 20 true 146 rfl (by kernel_rfl) (by rw [hS]; first | simp | exact Nat.le_of_ble_eq_true rfl) v146 ?_
                              have v13 : a.eval (.tmp 13) = .slice a11 n8 c11 := (hU 13 (by kernel_rfl)).trans rfl
                              clear hE hU
                              exact wp_value_inv (w' := W) (.slice a11 n8 c11) (op_move rfl v13) ⟨_, rfl, hB, Fr.refl _ _, rfl, fun _ _ _ _ _ => trivial⟩
                            · simp only [List.getElem?_cons_zero, List.getElem?_cons_succ, Option.some.injEq] at ho
                              subst ho
                              intro a W vs hB hS hE hU
                              obtain ⟨r20, e146⟩ := hE 20 146 (by kernel_rfl) (by kernel_rfl)
                              have v146 : a.eval (.tmp 146) = .bool true := e146.trans r20
                              refine wpG_yes 20 true 146 rfl (by kernel_rfl) (by rw [hS]; first | simp | exact Nat.le_of_ble_eq_true rfl) v146 ?_
                              have v10 : a.eval (.tmp 10) = .slice a8 n8 c8 := (hU 10 (by kernel_rfl)).trans rfl
                              clear hE hU
                              exact wp_value_inv (w' := W) (.slice a8 n8 c8) (op_move rfl v10) ⟨_, rfl, hB, Fr.refl _ _, rfl, fun _ _ _ _ _ => trivial⟩
                            · simp only [List.getElem?_cons_zero, List.getElem?_cons_succ, Option.some.injEq] at ho
                              subst ho
                              intro a W vs hB hS hE hU
                              obtain ⟨r20, e146⟩ := hE 20 146 (by kernel_rfl) (by kernel_rfl)
                              have v146 : a.eval (.tmp 146) = .bool true := e146.trans r20
                              refine wpG_yes 20 true 146 rfl (by kernel_rfl) (by rw [hS]; first | simp | exact Nat.le_of_ble_eq_true rfl) v146 ?_
                              obtain ⟨r21, e147⟩ := hE 21 147 (by kernel_rfl) (by kernel_rfl)
                              have v147 : a.eval (.tmp 147) = .slice a11 n8 c11 := e147.trans r21
                              obtain ⟨r22, e148⟩ := hE 22 148 (by kernel_rfl) (by kernel_rfl)
                              have v148 : a.eval (.tmp 148) = .slice a8 n8 c8 := e148.trans r22
                              clear hE hU
                              refine wp_call_inv 25 #[.tmp 147, .tmp 148] #[63, 63] rfl #[.slice a11 n8 c11, .slice a8 n8 c8] (by simp only [List.map_toArray, List.map_cons, List.map_nil, v147, v148]) (ent_spence_spencekit_SameLines _) (Post := fun v W' => v = .bool true ∧ Fr (fun _ => False) W W') ((HSL.out W hB).mono fun e w' h => ⟨_, h.1, rfl, h.2⟩) ?_
                              rintro v W' ⟨rfl, hf⟩
                              exact ⟨_, rfl, hB.trans hf (fun _ h => h.elim), hf, rfl, fun _ _ _ _ _ => trivial⟩
                            · simp only [List.getElem?_cons_zero, List.getElem?_cons_succ, Option.some.injEq] at ho
                              subst ho
                              intro a W vs hB hS hE hU
                              obtain ⟨r20, e146⟩ := hE 20 146 (by kernel_rfl) (by kernel_rfl)
                              have v146 : a.eval (.tmp 146) = .bool true := e146.trans r20
                              refine wpG_yes 20 true 146 rfl (by kernel_rfl) (by rw [hS]; first | simp | exact Nat.le_of_ble_eq_true rfl) v146 ?_
                              obtain ⟨r23, e149⟩ := hE 23 149 (by kernel_rfl) (by kernel_rfl)
                              have v149 : a.eval (.tmp 149) = .bool true := e149.trans r23
                              clear hE hU
                              exact wp_value_inv (w' := W) (.bool false) (op_not9 rfl v149) ⟨_, rfl, hB, Fr.refl _ _, rfl, fun _ _ _ _ _ => trivial⟩
                            · simp only [List.getElem?_cons_zero, List.getElem?_cons_succ, Option.some.injEq] at ho
                              subst ho
                              intro a W vs hB hS hE hU
                              obtain ⟨r17, e143⟩ := hE 17 143 (by kernel_rfl) (by kernel_rfl)
                              have v143 : a.eval (.tmp 143) = .bool false := e143.trans r17
                              refine wpG_yes 17 false 143 rfl (by kernel_rfl) (by rw [hS]; first | simp | exact Nat.le_of_ble_eq_true rfl) v143 ?_
                              obtain ⟨r20, e146⟩ := hE 20 146 (by kernel_rfl) (by kernel_rfl)
                              have v146 : a.eval (.tmp 146) = .bool true := e146.trans r20
                              obtain ⟨r24, e150⟩ := hE 24 150 (by kernel_rfl) (by kernel_rfl)
                              have v150 : a.eval (.tmp 150) = .bool false := e150.trans r24
                              clear hE hU
                              exact wp_value_inv (w' := W) (.bool false) (op_pick rfl v146 (by simp only [if_true]; exact v150)) ⟨_, rfl, hB, Fr.refl _ _, rfl, fun _ _ _ _ _ => trivial⟩
                            · simp only [List.getElem?_cons_zero, List.getElem?_cons_succ, Option.some.injEq] at ho
                              subst ho
                              intro a W vs hB hS hE hU
                              refine wpG_plain rfl ?_
                              obtain ⟨r17, e143⟩ := hE 17 143 (by kernel_rfl) (by kernel_rfl)
                              have v143 : a.eval (.tmp 143) = .bool false := e143.trans r17
                              obtain ⟨r25, e151⟩ := hE 25 151 (by kernel_rfl) (by kernel_rfl)
                              have v151 : a.eval (.tmp 151) = .bool false := e151.trans r25
                              clear hE hU
                              exact wp_value_inv (w' := W) (.bool false) (op_pick rfl v143 (by simp only [Bool.false_eq_true, if_false]; exact v151)) ⟨_, rfl, hB, Fr.refl _ _, rfl, fun _ _ _ _ _ => trivial⟩
                            · simp only [List.getElem?_cons_zero, List.getElem?_cons_succ, Option.some.injEq] at ho
                              subst ho
                              intro a W vs hB hS hE hU
                              refine wpG_plain rfl ?_
                              obtain ⟨r26, e152⟩ := hE 26 152 (by kernel_rfl) (by kernel_rfl)
                              have v152 : a.eval (.tmp 152) = .bool false := e152.trans r26
                              clear hE hU
                              exact wp_value_inv (w' := W) (.bool false) (op_move rfl v152) ⟨_, rfl, hB, Fr.refl _ _, rfl, fun _ _ _ _ _ => trivial⟩
                            · simp only [List.getElem?_cons_zero, List.getElem?_cons_succ, Option.some.injEq] at ho
                              subst ho
                              intro a W vs hB hS hE hU
                              obtain ⟨r27, e153⟩ := hE 27 153 (by kernel_rfl) (by kernel_rfl)
                              have v153 : a.eval (.tmp 153) = .bool false := e153.trans r27
                              refine wpG_yes 27 false 153 rfl (by kernel_rfl) (by rw [hS]; first | simp | exact Nat.le_of_ble_eq_true rfl) v153 ?_
                              have v12 : a.eval (.tmp 12) = .slice a10 n7 c10 := (hU 12 (by kernel_rfl)).trans rfl
                              clear hE hU
                              exact wp_value_inv (w' := W) (.slice a10 n7 c10) (op_move rfl v12) ⟨_, rfl, hB, Fr.refl _ _, rfl, fun _ _ _ _ _ => trivial⟩
                            · simp only [List.getElem?_cons_zero, List.getElem?_cons_succ, Option.some.injEq] at ho
                              subst ho
                              intro a W vs hB hS hE hU
                              obtain ⟨r27, e153⟩ := hE 27 153 (by kernel_rfl) (by kernel_rfl)
                              have v153 : a.eval (.tmp 153) = .bool false := e153.trans r27
                              refine wpG_yes 27 false 153 rfl (by kernel_rfl) (by rw [hS]; first | simp | exact Nat.le_of_ble_eq_true rfl) v153 ?_
                              obtain ⟨r28, e154⟩ := hE 28 154 (by kernel_rfl) (by kernel_rfl)
                              have v154 : a.eval (.tmp 154) = .slice a10 n7 c10 := e154.trans r28
                              clear hE hU
                              exact wp_value_inv (w' := W) (.int .i64 (n7 : Nat)) (op_lenRt rfl v154) ⟨_, rfl, hB, Fr.refl _ _, rfl, fun _ _ _ _ _ => trivial⟩
                            · simp only [List.getElem?_cons_zero, List.getElem?_cons_succ, Option.some.injEq] at ho
                              subst ho
                              intro a W vs hB hS hE hU
                              obtain ⟨r27, e153⟩ := hE 27 153 (by kernel_rfl) (by kernel_rfl)
                              have v153 : a.eval (.tmp 153) = .bool false := e153.trans r27
                              refine wpG_yes 27 false 153 rfl (by kernel_rfl) (by rw [hS]; first | simp | exact Nat.le_of_ble_eq_true rfl) v153 ?_
                              have v9 : a.eval (.tmp 9) = .slice a7 n7 c7 := (hU 9 (by kernel_rfl)).trans rfl
                              clear hE hU
                              exact wp_value_inv (w' := W) (.slice a7 n7 c7) (op_move rfl v9) ⟨_, rfl, hB, Fr.refl _ _, rfl, fun _ _ _ _ _ => trivial⟩
                            · simp only [List.getElem?_cons_zero, List.getElem?_cons_succ, Option.some.injEq] at ho
                              subst ho
                              intro a W vs hB hS hE hU
                              obtain ⟨r27, e153⟩ := hE 27 153 (by kernel_rfl) (by kernel_rfl)
                              have v153 : a.eval (.tmp 153) = .bool false := e153.trans r27
                              refine wpG_yes 27 false 153 rfl (by kernel_rfl) (by rw [hS]; first | simp | exact Nat.le_of_ble_eq_true rfl) v153 ?_
                              obtain ⟨r30, e156⟩ := hE 30 156 (by kernel_rfl) (by kernel_rfl)
                              have v156 : a.eval (.tmp 156) = .slice a7 n7 c7 := e156.trans r30
                              clear hE hU
                              exact wp_value_inv (w' := W) (.int .i64 (n7 : Nat)) (op_lenRt rfl v156) ⟨_, rfl, hB, Fr.refl _ _, rfl, fun _ _ _ _ _ => trivial⟩
                            · simp only [List.getElem?_cons_zero, List.getElem?_cons_succ, Option.some.injEq] at ho
                              subst ho
                              intro a W vs hB hS hE hU
                              obtain ⟨r27, e153⟩ := hE 27 153 (by kernel_rfl) (by kernel_rfl)
                              have v153 : a.eval (.tmp 153) = .bool false := e153.trans r27
                              refine wpG_yes 27 false 153 rfl (by kernel_rfl) (by rw [hS]; first | simp | exact Nat.le_of_ble_eq_true rfl) v153 ?_
                              obtain ⟨r29, e155⟩ := hE 29 155 (by kernel_rfl) (by kernel_rfl)
                              have v155 : a.eval (.tmp 155) = .int .i64 (n7 : Nat) := e155.trans r29
                              obtain ⟨r31, e157⟩ := hE 31 157 (by kernel_rfl) (by kernel_rfl)
                              have v157 : a.eval (.tmp 157) = .int .i64 (n7 : Nat) := e157.trans r31
                              clear hE hU
                              exact wp_value_inv (w' := W) (.bool false) (op_bin rfl v155 v157 (guard_int9 W _ _ _ _ _ _ _) neq_no) ⟨_, rfl, hB, Fr.refl _ _, rfl, fun _ _ _ _ _ => trivial⟩
                            · simp only [List.getElem?_cons_zero, List.getElem?_cons_succ, Option.some.injEq] at ho
                              subst ho
                              intro a W vs hB hS hE hU
                              refine wpG_plain rfl ?_
                              obtain ⟨r27, e153⟩ := hE 27 153 (by kernel_rfl) (by kernel_rfl)
                              have v153 : a.eval (.tmp 153) = .bool false := e153.trans r27
                              obtain ⟨r32, e158⟩ := hE 32 158 (by kernel_rfl) (by kernel_rfl)
                              have v158 : a.eval (.tmp 158) = .bool false := e158.trans r32
                              clear hE hU
                              exact wp_value_inv (w' := W) (.bool false) (op_pick rfl v153 (by simp only [Bool.false_eq_true, if_false]; exact v158)) ⟨_, rfl, hB, Fr.refl _ _, rfl, fun _ _ _ _ _ => trivial⟩
                          · intro vs Wz hB0 hR0 hD
                            have r159 : vs 33 = .bool false := hR0 33 (by decide)
                            have HZ := Lib.hid hB0
                            clear hR0 hD hB0
                            simp only [acts, if_true, dstAt, List.getElem?_cons_zero, List.getElem?_cons_succ, Option.bind_some, Act.put, List.setIfInBounds_toArray, List.set_cons_succ, List.set_cons_zero, List.drop_succ_cons, List.drop_nil]
                            simp only [r159]
                            clear r159
                            go_wp2_with fail
                            go_meet
                            case rel => exact HZ
                    · subst m4
                      clear m2 m5
                      rcases hc with ⟨hE0, hv⟩ | ⟨hE0, hss⟩
                      · as_aux_lemma =>
                          obtain ⟨k9, hk9, hkl, hkv⟩ := find_val (N := N) (x := e.V) (HV9.out.1.nk.ok 1).1 (by rw [HFF.out.1]; exact hv)
                          rw [← HFF.out.2.2] at hk9
                          obtain ⟨ao3, cap3, hva, hcc1, hcc2, b3, f3, hao3, hcl3⟩ := H16.out.2.2.2.1.rws9.open6
                          have hkl3 : k9 < l11.length := by have := congrArg List.length H16.out.2.2.2.2.2.2.2; rw [List.length_map] at this; omega
                          have ha11 : a11 = some ⟨b3, f3, none⟩ := by injection hva with h1; rw [h1]; exact (hao3 (by omega)).1
                          have hkn : k9 < n11 := by rw [H11.out.2.2.2.1]; exact hkl3
                          have hrb : l11[k9].B = e.V := by
                            have h1 : (l11.map RowD.row)[k9]? = (s1.N 1)[k9]? := by rw [H16.out.2.2.2.2.2.2.2]
                            rw [List.getElem?_map, List.getElem?_eq_getElem hkl3, List.getElem?_eq_getElem hkl] at h1
                            have h2 := Option.some.inj h1
                            rw [← hkv, ← h2]
                            rfl
                          obtain ⟨xr, hxr⟩ : ∃ xr, xr = l11[k9].x := ⟨_, rfl⟩
                          have hbr := H16.out.2.2.2.1.bytes _ (List.getElem_mem hkl3)
                          have hcx := (hcl3 k9 hkl3).2
                          rw [hrb, ← hxr] at hbr
                          rw [← hxr] at hcx
                          obtain ⟨o3, ho3⟩ : ∃ o3, o3 = f3 + k9 * 2 := ⟨_, rfl⟩
                          rw [← ho3] at hcx
                          obtain ⟨ay1, cy1, hay, _⟩ := id hbr
                          obtain ⟨ax1, cx1, hax, _⟩ := id H16.out.2.2.2.2.2.1
                          have HI3 := Lib.hid (fun W => idxRw W b3 f3 n11 c11 k9 hkn)
                          rw [← ho3] at HI3
                          have LDV := Lib.hid (fun W (hW : Fr (fun _ => False) Wd W) => load_one5 W 44 ⟨b3, o3 + 1, none⟩ _ (by kernel_rfl) (hW.cell (HD16.out.cell hcx id) id))
                          have LDX := Lib.hid (fun W (hW : Fr (fun _ => False) Wd W) => load_one5 W 44 ⟨g, 24, none⟩ _ (by kernel_rfl) (hW.cell (show Wd.cell? ⟨g, 24, none⟩ = some e.xv by rw [cell_of_row _ _ _ _ _ _ HRW.out]; exact HY.out.1.cv) id))
                          have HSB := Lib.hid (fun W (hW : Fr (fun _ => False) Wd W) => (same_any xr e.xv e.V e.V W ((hbr.keep HD16.out (fun _ _ _ h => h)).keep hW (fun _ _ _ h => h)) ((H16.out.2.2.2.2.2.1.keep HD16.out (fun _ _ _ h => h)).keep hW (fun _ _ _ h => h))).mono (fun en w' h => (⟨by rw [h.1, show sameB e.V e.V = true by simp [sameB]], by obtain ⟨q9, hq9⟩ := h.2; rw [hq9]; exact (Fr.refl _ _).drewN _⟩ : en = Ending.returned (.bool true) ∧ Fr (fun _ => False) W w')))
                          obtain ⟨ey, hey⟩ : ∃ ey, ey = e.xv := ⟨_, rfl⟩
                          rw [← hey] at LDX HSB
                          subst ha11
                          subst hE0
                          subst hk9
                          clear hv hkl hkv hva hcc1 hcc2 hao3 hcl3 hkl3 hrb hxr hbr hcx ho3 hay hax hey hU hew
                          go_wp2_with fail
                          refine wp_region_inv 34 (by kernel_rfl) (by kernel_rfl) (fun W => Fr (fun _ => False) Wd W) (VlY g n7 n8 n7 n11 c7 c8 c10 c11 b3 o3 k9 (0 : Int) fa (0 : Int) a7 a8 a10 none xr ey #[] f3) (fun _ _ _ _ => True) (Fr (fun _ => False)) (VlY.ext g n7 n8 n7 n11 c7 c8 c10 c11 b3 o3 k9 (0 : Int) fa (0 : Int) a7 a8 a10 none xr ey #[] f3) (Fr.refl _ _).drew ?_ ?_
                          · intro i hi o ho
                            replace hi : i < 34 := hi
                            obtain rfl | rfl | rfl | rfl | rfl | rfl | rfl | rfl | rfl | rfl | rfl | rfl | rfl | rfl | rfl | rfl | rfl | rfl | rfl | rfl | rfl | rfl | rfl | rfl | rfl | rfl | rfl | rfl | rfl | rfl | rfl | rfl | rfl | rfl : i = 0 ∨ i = 1 ∨ i = 2 ∨ i = 3 ∨ i = 4 ∨ i = 5 ∨ i = 6 ∨ i = 7 ∨ i = 8 ∨ i = 9 ∨ i = 10 ∨ i = 11 ∨ i = 12 ∨ i = 13 ∨ i = 14 ∨ i = 15 ∨ i = 16 ∨ i = 17 ∨ i = 18 ∨ i = 19 ∨ i = 20 ∨ i = 21 ∨ i = 22 ∨ i = 23 ∨ i = 24 ∨ i = 25 ∨ i = 26 ∨ i = 27 ∨ i = 28 ∨ i = 29 ∨ i = 30 ∨ i = 31 ∨ i = 32 ∨ i = 33 := by omega
                            · simp only [List.getElem?_cons_zero, Option.some.injEq] at ho
                              subst ho
                              intro a W vs hB hS hE hU
                              refine wpG_plain rfl ?_
                              have v11 : a.eval (.tmp 11) = .int .i64 0 := (hU 11 (by kernel_rfl)).trans rfl
                              clear hE hU
                              exact wp_value_inv (w' := W) (.int .i64 0) (op_move rfl v11) ⟨_, rfl, hB, Fr.refl _ _, rfl, fun _ _ _ _ _ => trivial⟩
                            · simp only [List.getElem?_cons_zero, List.getElem?_cons_succ, Option.some.injEq] at ho
                              subst ho
                              intro a W vs hB hS hE hU
                              refine wpG_plain rfl ?_
                              obtain ⟨r0, e126⟩ := hE 0 126 (by kernel_rfl) (by kernel_rfl)
                              have v126 : a.eval (.tmp 126) = .int .i64 0 := e126.trans r0
                              clear hE hU
                              exact wp_value_inv (w' := W) (.bool true) (op_bin rfl v126 rfl (guard_int9 W _ _ _ _ _ _ _) eql_yes) ⟨_, rfl, hB, Fr.refl _ _, rfl, fun _ _ _ _ _ => trivial⟩
                            · simp only [List.getElem?_cons_zero, List.getElem?_cons_succ, Option.some.injEq] at ho
                              subst ho
                              intro a W vs hB hS hE hU
                              refine wpG_plain rfl ?_
                              obtain ⟨r1, e127⟩ := hE 1 127 (by kernel_rfl) (by kernel_rfl)
                              have v127 : a.eval (.tmp 127) = .bool true := e127.trans r1
                              clear hE hU
                              exact wp_value_inv (w' := W) (.bool true) (op_move rfl v127) ⟨_, rfl, hB, Fr.refl _ _, rfl, fun _ _ _ _ _ => trivial⟩
                            · simp only [List.getElem?_cons_zero, List.getElem?_cons_succ, Option.some.injEq] at ho
                              subst ho
                              intro a W vs hB hS hE hU
                              obtain ⟨r2, e128⟩ := hE 2 128 (by kernel_rfl) (by kernel_rfl)
                              have v128 : a.eval (.tmp 128) = .bool true := e128.trans r2
                              refine wpG_yes 2 true 128 rfl (by kernel_rfl) (by rw [hS]; first | simp | exact Nat.le_of_ble_eq_true rfl) v128 ?_
                              have v15 : a.eval (.tmp 15) = .int .i64 (k9 : Nat) := (hU 15 (by kernel_rfl)).trans rfl
                              clear hE hU
                              exact wp_value_inv (w' := W) (.int .i64 (k9 : Nat)) (op_move rfl v15) ⟨_, rfl, hB, Fr.refl _ _, rfl, fun _ _ _ _ _ => trivial⟩
                            · simp only [List.getElem?_cons_zero, List.getElem?_cons_succ, Option.some.injEq] at ho
                              subst ho
                              intro a W vs hB hS hE hU
                              obtain ⟨r2, e128⟩ := hE 2 128 (by kernel_rfl) (by kernel_rfl)
                              have v128 : a.eval (.tmp 128) = .bool true := e128.trans r2
                              refine wpG_yes 2 true 128 rfl (by kernel_rfl) (by rw [hS]; first | simp | exact Nat.le_of_ble_eq_true rfl) v128 ?_
                              obtain ⟨r3, e129⟩ := hE 3 129 (by kernel_rfl) (by kernel_rfl)
                              have v129 : a.eval (.tmp 129) = .int .i64 (k9 : Nat) := e129.trans r3
                              clear hE hU
                              exact wp_value_inv (w' := W) (.bool false) (op_bin rfl v129 rfl rfl (lss_no (by omega))) ⟨_, rfl, hB, Fr.refl _ _, rfl, fun _ _ _ _ _ => trivial⟩
                            · simp only [List.getElem?_cons_zero, List.getElem?_cons_succ, Option.some.injEq] at ho
                              subst ho
                              intro a W vs hB hS hE hU
                              obtain ⟨r2, e128⟩ := hE 2 128 (by kernel_rfl) (by kernel_rfl)
                              have v128 : a.eval (.tmp 128) = .bool true := e128.trans r2
                              refine wpG_yes 2 true 128 rfl (by kernel_rfl) (by rw [hS]; first | simp | exact Nat.le_of_ble_eq_true rfl) v128 ?_
                              obtain ⟨r4, e130⟩ := hE 4 130 (by kernel_rfl) (by kernel_rfl)
                              have v130 : a.eval (.tmp 130) = .bool false := e130.trans r4
                              clear hE hU
                              exact wp_value_inv (w' := W) (.bool false) (op_move rfl v130) ⟨_, rfl, hB, Fr.refl _ _, rfl, fun _ _ _ _ _ => trivial⟩
                            · simp only [List.getElem?_cons_zero, List.getElem?_cons_succ, Option.some.injEq] at ho
                              subst ho
                              intro a W vs hB hS hE hU
                              obtain ⟨r5, e131⟩ := hE 5 131 (by kernel_rfl) (by kernel_rfl)
                              have v131 : a.eval (.tmp 131) = .bool false := e131.trans r5
                              refine wpG_yes 5 false 131 rfl (by kernel_rfl) (by rw [hS]; first | simp | exact Nat.le_of_ble_eq_true rfl) v131 ?_
                              have v13 : a.eval (.tmp 13) = .slice (some ⟨b3, f3, none⟩) n11 c11 := (hU 13 (by kernel_rfl)).trans rfl
                              clear hE hU
                              exact wp_value_inv (w' := W) (.slice (some ⟨b3, f3, none⟩) n11 c11) (op_move rfl v13) ⟨_, rfl, hB, Fr.refl _ _, rfl, fun _ _ _ _ _ => trivial⟩
                            · simp only [List.getElem?_cons_zero, List.getElem?_cons_succ, Option.some.injEq] at ho
                              subst ho
                              intro a W vs hB hS hE hU
                              obtain ⟨r5, e131⟩ := hE 5 131 (by kernel_rfl) (by kernel_rfl)
                              have v131 : a.eval (.tmp 131) = .bool false := e131.trans r5
                              refine wpG_yes 5 false 131 rfl (by kernel_rfl) (by rw [hS]; first | simp | exact Nat.le_of_ble_eq_true rfl) v131 ?_
                              have v15 : a.eval (.tmp 15) = .int .i64 (k9 : Nat) := (hU 15 (by kernel_rfl)).trans rfl
                              clear hE hU
                              exact wp_value_inv (w' := W) (.int .i64 (k9 : Nat)) (op_move rfl v15) ⟨_, rfl, hB, Fr.refl _ _, rfl, fun _ _ _ _ _ => trivial⟩
                            · simp only [List.getElem?_cons_zero, List.getElem?_cons_succ, Option.some.injEq] at ho
                              subst ho
                              intro a W vs hB hS hE hU
                              obtain ⟨r5, e131⟩ := hE 5 131 (by kernel_rfl) (by kernel_rfl)
                              have v131 : a.eval (.tmp 131) = .bool false := e131.trans r5
                              refine wpG_yes 5 false 131 rfl (by kernel_rfl) (by rw [hS]; first | simp | exact Nat.le_of_ble_eq_true rfl) v131 ?_
                              obtain ⟨r6, e132⟩ := hE 6 132 (by kernel_rfl) (by kernel_rfl)
                              have v132 : a.eval (.tmp 132) = .slice (some ⟨b3, f3, none⟩) n11 c11 := e132.trans r6
                              obtain ⟨r7, e133⟩ := hE 7 133 (by kernel_rfl) (by kernel_rfl)
                              have v133 : a.eval (.tmp 133) = .int .i64 (k9 : Nat) := e133.trans r7
                              clear hE hU
                              exact wp_value_inv (w' := W) (.pointer (some ⟨b3, o3, none⟩)) (op_indexAddr rfl v132 v133 (HI3.out W)) ⟨_, rfl, hB, Fr.refl _ _, rfl, fun _ _ _ _ _ => trivial⟩
                            · simp only [List.getElem?_cons_zero, List.getElem?_cons_succ, Option.some.injEq] at ho
                              subst ho
                              intro a W vs hB hS hE hU
                              obtain ⟨r5, e131⟩ := hE 5 131 (by kernel_rfl) (by kernel_rfl)
                              have v131 : a.eval (.tmp 131) = .bool false := e131.trans r5
                              refine wpG_yes 5 false 131 rfl (by kernel_rfl) (by rw [hS]; first | simp | exact Nat.le_of_ble_eq_true rfl) v131 ?_
                              obtain ⟨r8, e134⟩ := hE 8 134 (by kernel_rfl) (by kernel_rfl)
                              have v134 : a.eval (.tmp 134) = .pointer (some ⟨b3, o3, none⟩) := e134.trans r8
                              clear hE hU
                              exact wp_value_inv (w' := W) (.pointer (some ⟨b3, o3 + 1, none⟩)) (op_fieldAddr rfl v134 (fldRw1 W b3 o3)) ⟨_, rfl, hB, Fr.refl _ _, rfl, fun _ _ _ _ _ => trivial⟩
                            · simp only [List.getElem?_cons_zero, List.getElem?_cons_succ, Option.some.injEq] at ho
                              subst ho
                              intro a W vs hB hS hE hU
                              obtain ⟨r5, e131⟩ := hE 5 131 (by kernel_rfl) (by kernel_rfl)
                              have v131 : a.eval (.tmp 131) = .bool false := e131.trans r5
                              refine wpG_yes 5 false 131 rfl (by kernel_rfl) (by rw [hS]; first | simp | exact Nat.le_of_ble_eq_true rfl) v131 ?_
                              obtain ⟨r9, e135⟩ := hE 9 135 (by kernel_rfl) (by kernel_rfl)
                              have v135 : a.eval (.tmp 135) = .pointer (some ⟨b3, o3 + 1, none⟩) := e135.trans r9
                              clear hE hU
                              exact wp_value_inv (w' := W) (xr) (op_loadAt rfl v135 (LDV.out W hB)) ⟨_, rfl, hB, Fr.refl _ _, rfl, fun _ _ _ _ _ => trivial⟩
                            · simp only [List.getElem?_cons_zero, List.getElem?_cons_succ, Option.some.injEq] at ho
                              subst ho
                              intro a W vs hB hS hE hU
                              obtain ⟨r5, e131⟩ := hE 5 131 (by kernel_rfl) (by kernel_rfl)
                              have v131 : a.eval (.tmp 131) = .bool false := e131.trans r5
                              refine wpG_yes 5 false 131 rfl (by kernel_rfl) (by rw [hS]; first | simp | exact Nat.le_of_ble_eq_true rfl) v131 ?_
                              have v8 : a.eval (.tmp 8) = .pointer (some ⟨g, 0, none⟩) := (hU 8 (by kernel_rfl)).trans rfl
                              clear hE hU
                              exact wp_value_inv (w' := W) (.pointer (some ⟨g, 24, none⟩)) (op_fieldAddr rfl v8 (fld_spence_spencelaw14_Deed_4_0 W g)) ⟨_, rfl, hB, Fr.refl _ _, rfl, fun _ _ _ _ _ => trivial⟩
                            · simp only [List.getElem?_cons_zero, List.getElem?_cons_succ, Option.some.injEq] at ho
                              subst ho
                              intro a W vs hB hS hE hU
                              obtain ⟨r5, e131⟩ := hE 5 131 (by kernel_rfl) (by kernel_rfl)
                              have v131 : a.eval (.tmp 131) = .bool false := e131.trans r5
                              refine wpG_yes 5 false 131 rfl (by kernel_rfl) (by rw [hS]; first | simp | exact Nat.le_of_ble_eq_true rfl) v131 ?_
                              obtain ⟨r11, e137⟩ := hE 11 137 (by kernel_rfl) (by kernel_rfl)
                              have v137 : a.eval (.tmp 137) = .pointer (some ⟨g, 24, none⟩) := e137.trans r11
                              clear hE hU
                              exact wp_value_inv (w' := W) (ey) (op_loadAt rfl v137 (LDX.out W hB)) ⟨_, rfl, hB, Fr.refl _ _, rfl, fun _ _ _ _ _ => trivial⟩
                            · simp only [List.getElem?_cons_zero, List.getElem?_cons_succ, Option.some.injEq] at ho
                              subst ho
                              intro a W vs hB hS hE hU
                              obtain ⟨r5, e131⟩ := hE 5 131 (by kernel_rfl) (by kernel_rfl)
                              have v131 : a.eval (.tmp 131) = .bool false := e131.trans r5
                              refine wpG_yes 5 false 131 rfl (by kernel_rfl) (by rw [hS]; first | simp | exact Nat.le_of_ble_eq_true rfl) v131 ?_
                              obtain ⟨r10, e136⟩ := hE 10 136 (by kernel_rfl) (by kernel_rfl)
                              have v136 : a.eval (.tmp 136) = xr := e136.trans r10
                              obtain ⟨r12, e138⟩ := hE 12 138 (by kernel_rfl) (by kernel_rfl)
                              have v138 : a.eval (.tmp 138) = ey := e138.trans r12
                              clear hE hU
                              refine wp_call_inv 30 #[.tmp 136, .tmp 138] #[44, 44] rfl #[xr, ey] (by simp only [List.map_toArray, List.map_cons, List.map_nil, v136, v138]) (ent_spence_spencekit_SameBytes _) (Post := fun v W' => v = .bool true ∧ Fr (fun _ => False) W W') ((HSB.out W hB).mono fun e w' h => ⟨_, h.1, rfl, h.2⟩) ?_
                              rintro v W' ⟨rfl, hf⟩
                              exact ⟨_, rfl, hB.trans hf (fun _ h => h.elim), hf, rfl, fun _ _ _ _ _ => trivial⟩
                            · simp only [List.getElem?_cons_zero, List.getElem?_cons_succ, Option.some.injEq] at ho
                              subst ho
                              intro a W vs hB hS hE hU
                              obtain ⟨r5, e131⟩ := hE 5 131 (by kernel_rfl) (by kernel_rfl)
                              have v131 : a.eval (.tmp 131) = .bool false := e131.trans r5
                              refine wpG_yes 5 false 131 rfl (by kernel_rfl) (by rw [hS]; first | simp | exact Nat.le_of_ble_eq_true rfl) v131 ?_
                              obtain ⟨r13, e139⟩ := hE 13 139 (by kernel_rfl) (by kernel_rfl)
                              have v139 : a.eval (.tmp 139) = .bool true := e139.trans r13
                              clear hE hU
                              exact wp_value_inv (w' := W) (.bool false) (op_not9 rfl v139) ⟨_, rfl, hB, Fr.refl _ _, rfl, fun _ _ _ _ _ => trivial⟩
                            · simp only [List.getElem?_cons_zero, List.getElem?_cons_succ, Option.some.injEq] at ho
                              subst ho
                              intro a W vs hB hS hE hU
                              obtain ⟨r2, e128⟩ := hE 2 128 (by kernel_rfl) (by kernel_rfl)
                              have v128 : a.eval (.tmp 128) = .bool true := e128.trans r2
                              refine wpG_yes 2 true 128 rfl (by kernel_rfl) (by rw [hS]; first | simp | exact Nat.le_of_ble_eq_true rfl) v128 ?_
                              obtain ⟨r5, e131⟩ := hE 5 131 (by kernel_rfl) (by kernel_rfl)
                              have v131 : a.eval (.tmp 131) = .bool false := e131.trans r5
                              obtain ⟨r14, e140⟩ := hE 14 140 (by kernel_rfl) (by kernel_rfl)
                              have v140 : a.eval (.tmp 140) = .bool false := e140.trans r14
                              clear hE hU
                              exact wp_value_inv (w' := W) (.bool false) (op_pick rfl v131 (by simp only [Bool.false_eq_true, if_false]; exact v140)) ⟨_, rfl, hB, Fr.refl _ _, rfl, fun _ _ _ _ _ => trivial⟩
                            · simp only [List.getElem?_cons_zero, List.getElem?_cons_succ, Option.some.injEq] at ho
                              subst ho
                              intro a W vs hB hS hE hU
                              refine wpG_plain rfl ?_
                              obtain ⟨r2, e128⟩ := hE 2 128 (by kernel_rfl) (by kernel_rfl)
                              have v128 : a.eval (.tmp 128) = .bool true := e128.trans r2
                              obtain ⟨r15, e141⟩ := hE 15 141 (by kernel_rfl) (by kernel_rfl)
                              have v141 : a.eval (.tmp 141) = .bool false := e141.trans r15
                              clear hE hU
                              exact wp_value_inv (w' := W) (.bool false) (op_pick rfl v128 (by simp only [if_true]; exact v141)) ⟨_, rfl, hB, Fr.refl _ _, rfl, fun _ _ _ _ _ => trivial⟩
                            · simp only [List.getElem?_cons_zero, List.getElem?_cons_succ, Option.some.injEq] at ho
                              subst ho
                              intro a W vs hB hS hE hU
                              refine wpG_plain rfl ?_
                              obtain ⟨r16, e142⟩ := hE 16 142 (by kernel_rfl) (by kernel_rfl)
                              have v142 : a.eval (.tmp 142) = .bool false := e142.trans r16
                              clear hE hU
                              exact wp_value_inv (w' := W) (.bool false) (op_move rfl v142) ⟨_, rfl, hB, Fr.refl _ _, rfl, fun _ _ _ _ _ => trivial⟩
                            · simp only [List.getElem?_cons_zero, List.getElem?_cons_succ, Option.some.injEq] at ho
                              subst ho
                              intro a W vs hB hS hE hU
                              obtain ⟨r17, e143⟩ := hE 17 143 (by kernel_rfl) (by kernel_rfl)
                              have v143 : a.eval (.tmp 143) = .bool false := e143.trans r17
                              refine wpG_yes 17 false 143 rfl (by kernel_rfl) (by rw [hS]; first | simp | exact Nat.le_of_ble_eq_true rfl) v143 ?_
                              have v11 : a.eval (.tmp 11) = .int .i64 0 := (hU 11 (by kernel_rfl)).trans rfl
                              clear hE hU
                              exact wp_value_inv (w' := W) (.int .i64 0) (op_move rfl v11) ⟨_, rfl, hB, Fr.refl _ _, rfl, fun _ _ _ _ _ => trivial⟩
                            · simp only [List.getElem?_cons_zero, List.getElem?_cons_succ, Option.some.injEq] at ho
                              subst ho
                              intro a W vs hB hS hE hU
                              obtain ⟨r17, e143⟩ := hE 17 143 (by kernel_rfl) (by kernel_rfl)
                              have v143 : a.eval (.tmp 143) = .bool false := e143.trans r17
                              refine wpG_yes 17 false 143 rfl (by kernel_rfl) (by rw [hS]; first | simp | exact Nat.le_of_ble_eq_true rfl) v143 ?_
                              obtain ⟨r18, e144⟩ := hE 18 144 (by kernel_rfl) (by kernel_rfl)
                              have v144 : a.eval (.tmp 144) = .int .i64 0 := e144.trans r18
                              clear hE hU
                              exact wp_value_inv (w' := W) (.bool false) (op_bin rfl v144 rfl (guard_int9 W _ _ _ _ _ _ _) neq_no) ⟨_, rfl, hB, Fr.refl _ _, rfl, fun _ _ _ _ _ => trivial⟩
                            · simp only [List.getElem?_cons_zero, List.getElem?_cons_succ, Option.some.injEq] at ho
                              subst ho
                              intro a W vs hB hS hE hU
                              obtain ⟨r17, e143⟩ := hE 17 143 (by kernel_rfl) (by kernel_rfl)
                              have v143 : a.eval (.tmp 143) = .bool false := e143.trans r17
                              refine wpG_yes 17 false 143 rfl (by kernel_rfl) (by rw [hS]; first | simp | exact Nat.le_of_ble_eq_true rfl) v143 ?_
                              obtain ⟨r19, e145⟩ := hE 19 145 (by kernel_rfl) (by kernel_rfl)
                              have v145 : a.eval (.tmp 145) = .bool false := e145.trans r19
                              clear hE hU
                              exact wp_value_inv (w' := W) (.bool false) (op_move rfl v145) ⟨_, rfl, hB, Fr.refl _ _, rfl, fun _ _ _ _ _ => trivial⟩
                            · simp only [List.getElem?_cons_zero, List.getElem?_cons_succ, Option.some.injEq] at ho
                              subst ho
                              intro a W vs hB hS hE hU
                              obtain ⟨r20, e146⟩ := hE 20 146 (by kernel_rfl) (by kernel_rfl)
                              have v146 : a.eval (.tmp 146) = .bool false := e146.trans r20
                              exact wpG_no 20 true 146 rfl (by kernel_rfl) (by rw [hS]; first | simp | exact Nat.le_of_ble_eq_true rfl) v146 ⟨_, rfl, hB, Fr.refl _ _, rfl, fun _ _ _ _ _ => trivial⟩
                            · simp only [List.getElem?_cons_zero, List.getElem?_cons_succ, Option.some.injEq] at ho
                              subst ho
                              intro a W vs hB hS hE hU
                              obtain ⟨r20, e146⟩ := hE 20 146 (by kernel_rfl) (by kernel_rfl)
                              have v146 : a.eval (.tmp 146) = .bool false := e146.trans r20
                              exact wpG_no 20 true 146 rfl (by kernel_rfl) (by rw [hS]; first | simp | exact Nat.le_of_ble_eq_true rfl) v146 ⟨_, rfl, hB, Fr.refl _ _, rfl, fun _ _ _ _ _ => trivial⟩
                            · simp only [List.getElem?_cons_zero, List.getElem?_cons_succ, Option.some.injEq] at ho
                              subst ho
                              intro a W vs hB hS hE hU
                              obtain ⟨r20, e146⟩ := hE 20 146 (by kernel_rfl) (by kernel_rfl)
                              have v146 : a.eval (.tmp 146) = .bool false := e146.trans r20
                              exact wpG_no 20 true 146 rfl (by kernel_rfl) (by rw [hS]; first | simp | exact Nat.le_of_ble_eq_true rfl) v146 ⟨_, rfl, hB, Fr.refl _ _, rfl, fun _ _ _ _ _ => trivial⟩
                            · simp only [List.getElem?_cons_zero, List.getElem?_cons_succ, Option.some.injEq] at ho
                              subst ho
                              intro a W vs hB hS hE hU
                              obtain ⟨r20, e146⟩ := hE 20 146 (by kernel_rfl) (by kernel_rfl)
                              have v146 : a.eval (.tmp 146) = .bool false := e146.trans r20
                              exact wpG_no 20 true 146 rfl (by kernel_rfl) (by rw [hS]; first | simp | exact Nat.le_of_ble_eq_true rfl) v146 ⟨_, rfl, hB, Fr.refl _ _, rfl, fun _ _ _ _ _ => trivial⟩
                            · simp only [List.getElem?_cons_zero, List.getElem?_cons_succ, Option.some.injEq] at ho
                              subst ho
                              intro a W vs hB hS hE hU
                              obtain ⟨r17, e143⟩ := hE 17 143 (by kernel_rfl) (by kernel_rfl)
                              have v143 : a.eval (.tmp 143) = .bool false := e143.trans r17
                              refine wpG_yes 17 false 143 rfl (by kernel_rfl) (by rw [hS]; first | simp | exact Nat.le_of_ble_eq_true rfl) v143 ?_
                              obtain ⟨r20, e146⟩ := hE 20 146 (by kernel_rfl) (by kernel_rfl)
                              have v146 : a.eval (.tmp 146) = .bool false := e146.trans r20
                              clear hE hU
                              exact wp_value_inv (w' := W) (.bool false) (op_pick rfl v146 (by simp only [Bool.false_eq_true, if_false]; rfl)) ⟨_, rfl, hB, Fr.refl _ _, rfl, fun _ _ _ _ _ => trivial⟩
                            · simp only [List.getElem?_cons_zero, List.getElem?_cons_succ, Option.some.injEq] at ho
                              subst ho
                              intro a W vs hB hS hE hU
                              refine wpG_plain rfl ?_
                              obtain ⟨r17, e143⟩ := hE 17 143 (by kernel_rfl) (by kernel_rfl)
                              have v143 : a.eval (.tmp 143) = .bool false := e143.trans r17
                              obtain ⟨r25, e151⟩ := hE 25 151 (by kernel_rfl) (by kernel_rfl)
                              have v151 : a.eval (.tmp 151) = .bool false := e151.trans r25
                              clear hE hU
                              exact wp_value_inv (w' := W) (.bool false) (op_pick rfl v143 (by simp only [Bool.false_eq_true, if_false]; exact v151)) ⟨_, rfl, hB, Fr.refl _ _, rfl, fun _ _ _ _ _ => trivial⟩
                            · simp only [List.getElem?_cons_zero, List.getElem?_cons_succ, Option.some.injEq] at ho
                              subst ho
                              intro a W vs hB hS hE hU
                              refine wpG_plain rfl ?_
                              obtain ⟨r26, e152⟩ := hE 26 152 (by kernel_rfl) (by kernel_rfl)
                              have v152 : a.eval (.tmp 152) = .bool false := e152.trans r26
                              clear hE hU
                              exact wp_value_inv (w' := W) (.bool false) (op_move rfl v152) ⟨_, rfl, hB, Fr.refl _ _, rfl, fun _ _ _ _ _ => trivial⟩
                            · simp only [List.getElem?_cons_zero, List.getElem?_cons_succ, Option.some.injEq] at ho
                              subst ho
                              intro a W vs hB hS hE hU
                              obtain ⟨r27, e153⟩ := hE 27 153 (by kernel_rfl) (by kernel_rfl)
                              have v153 : a.eval (.tmp 153) = .bool false := e153.trans r27
                              refine wpG_yes 27 false 153 rfl (by kernel_rfl) (by rw [hS]; first | simp | exact Nat.le_of_ble_eq_true rfl) v153 ?_
                              have v12 : a.eval (.tmp 12) = .slice a10 n7 c10 := (hU 12 (by kernel_rfl)).trans rfl
                              clear hE hU
                              exact wp_value_inv (w' := W) (.slice a10 n7 c10) (op_move rfl v12) ⟨_, rfl, hB, Fr.refl _ _, rfl, fun _ _ _ _ _ => trivial⟩
                            · simp only [List.getElem?_cons_zero, List.getElem?_cons_succ, Option.some.injEq] at ho
                              subst ho
                              intro a W vs hB hS hE hU
                              obtain ⟨r27, e153⟩ := hE 27 153 (by kernel_rfl) (by kernel_rfl)
                              have v153 : a.eval (.tmp 153) = .bool false := e153.trans r27
                              refine wpG_yes 27 false 153 rfl (by kernel_rfl) (by rw [hS]; first | simp | exact Nat.le_of_ble_eq_true rfl) v153 ?_
                              obtain ⟨r28, e154⟩ := hE 28 154 (by kernel_rfl) (by kernel_rfl)
                              have v154 : a.eval (.tmp 154) = .slice a10 n7 c10 := e154.trans r28
                              clear hE hU
                              exact wp_value_inv (w' := W) (.int .i64 (n7 : Nat)) (op_lenRt rfl v154) ⟨_, rfl, hB, Fr.refl _ _, rfl, fun _ _ _ _ _ => trivial⟩
                            · simp only [List.getElem?_cons_zero, List.getElem?_cons_succ, Option.some.injEq] at ho
                              subst ho
                              intro a W vs hB hS hE hU
                              obtain ⟨r27, e153⟩ := hE 27 153 (by kernel_rfl) (by kernel_rfl)
                              have v153 : a.eval (.tmp 153) = .bool false := e153.trans r27
                              refine wpG_yes 27 false 153 rfl (by kernel_rfl) (by rw [hS]; first | simp | exact Nat.le_of_ble_eq_true rfl) v153 ?_
                              have v9 : a.eval (.tmp 9) = .slice a7 n7 c7 := (hU 9 (by kernel_rfl)).trans rfl
                              clear hE hU
                              exact wp_value_inv (w' := W) (.slice a7 n7 c7) (op_move rfl v9) ⟨_, rfl, hB, Fr.refl _ _, rfl, fun _ _ _ _ _ => trivial⟩
                            · simp only [List.getElem?_cons_zero, List.getElem?_cons_succ, Option.some.injEq] at ho
                              subst ho
                              intro a W vs hB hS hE hU
                              obtain ⟨r27, e153⟩ := hE 27 153 (by kernel_rfl) (by kernel_rfl)
                              have v153 : a.eval (.tmp 153) = .bool false := e153.trans r27
                              refine wpG_yes 27 false 153 rfl (by kernel_rfl) (by rw [hS]; first | simp | exact Nat.le_of_ble_eq_true rfl) v153 ?_
                              obtain ⟨r30, e156⟩ := hE 30 156 (by kernel_rfl) (by kernel_rfl)
                              have v156 : a.eval (.tmp 156) = .slice a7 n7 c7 := e156.trans r30
                              clear hE hU
                              exact wp_value_inv (w' := W) (.int .i64 (n7 : Nat)) (op_lenRt rfl v156) ⟨_, rfl, hB, Fr.refl _ _, rfl, fun _ _ _ _ _ => trivial⟩
                            · simp only [List.getElem?_cons_zero, List.getElem?_cons_succ, Option.some.injEq] at ho
                              subst ho
                              intro a W vs hB hS hE hU
                              obtain ⟨r27, e153⟩ := hE 27 153 (by kernel_rfl) (by kernel_rfl)
                              have v153 : a.eval (.tmp 153) = .bool false := e153.trans r27
                              refine wpG_yes 27 false 153 rfl (by kernel_rfl) (by rw [hS]; first | simp | exact Nat.le_of_ble_eq_true rfl) v153 ?_
                              obtain ⟨r29, e155⟩ := hE 29 155 (by kernel_rfl) (by kernel_rfl)
                              have v155 : a.eval (.tmp 155) = .int .i64 (n7 : Nat) := e155.trans r29
                              obtain ⟨r31, e157⟩ := hE 31 157 (by kernel_rfl) (by kernel_rfl)
                              have v157 : a.eval (.tmp 157) = .int .i64 (n7 : Nat) := e157.trans r31
                              clear hE hU
                              exact wp_value_inv (w' := W) (.bool false) (op_bin rfl v155 v157 (guard_int9 W _ _ _ _ _ _ _) neq_no) ⟨_, rfl, hB, Fr.refl _ _, rfl, fun _ _ _ _ _ => trivial⟩
                            · simp only [List.getElem?_cons_zero, List.getElem?_cons_succ, Option.some.injEq] at ho
                              subst ho
                              intro a W vs hB hS hE hU
                              refine wpG_plain rfl ?_
                              obtain ⟨r27, e153⟩ := hE 27 153 (by kernel_rfl) (by kernel_rfl)
                              have v153 : a.eval (.tmp 153) = .bool false := e153.trans r27
                              obtain ⟨r32, e158⟩ := hE 32 158 (by kernel_rfl) (by kernel_rfl)
                              have v158 : a.eval (.tmp 158) = .bool false := e158.trans r32
                              clear hE hU
                              exact wp_value_inv (w' := W) (.bool false) (op_pick rfl v153 (by simp only [Bool.false_eq_true, if_false]; exact v158)) ⟨_, rfl, hB, Fr.refl _ _, rfl, fun _ _ _ _ _ => trivial⟩
                          · intro vs Wz hB0 hR0 hD
                            have r159 : vs 33 = .bool false := hR0 33 (by decide)
                            have HZ := Lib.hid hB0
                            clear hR0 hD hB0
                            simp only [acts, if_true, dstAt, List.getElem?_cons_zero, List.getElem?_cons_succ, Option.bind_some, Act.put, List.setIfInBounds_toArray, List.set_cons_succ, List.set_cons_zero, List.drop_succ_cons, List.drop_nil]
                            simp only [r159]
                            clear r159
                            go_wp2_with fail
                            go_meet
                            case rel => exact HZ
                      · as_aux_lemma =>
                          obtain rfl : n8 = n11 := by rw [HLL.out.2.2.2, HLL.out.2.1, hss]
                          have HEN := Lib.hid hE0
                          have HSL := Lib.hid (fun W (hW : Fr (fun _ => False) Wd W) => sameLines_yes W _ _ l11 l8 (((H16.out.2.2.2.1.rws9).keep HD16.out (fun _ _ _ h => h)).keep hW (fun _ _ _ h => h)) (((H16.out.2.1.rws9).keep HD16.out (fun _ _ _ h => h)).keep hW (fun _ _ _ h => h)) (by rw [H16.out.2.2.2.2.2.2.2, H16.out.2.2.2.2.2.2.1, hss]) (by
                            have h1 := (HV9.out.1.nk.ok 1).2.1
                            rw [← H16.out.2.2.2.2.2.2.2, List.length_map] at h1
                            omega))
                          clear hss hU hew hE0
                          go_wp2_with fail
                          refine wp_region_inv 34 (by kernel_rfl) (by kernel_rfl) (fun W => Fr (fun _ => False) Wd W) (VlN g n7 n8 n7 n8 c7 c8 c10 c11 0 0 0 E fa fb a7 a8 a10 a11 undef undef #[] 0) (fun _ _ _ _ => True) (Fr (fun _ => False)) (VlN.ext g n7 n8 n7 n8 c7 c8 c10 c11 0 0 0 E fa fb a7 a8 a10 a11 undef undef #[] 0) (Fr.refl _ _).drew ?_ ?_
                          · intro i hi o ho
                            replace hi : i < 34 := hi
                            obtain rfl | rfl | rfl | rfl | rfl | rfl | rfl | rfl | rfl | rfl | rfl | rfl | rfl | rfl | rfl | rfl | rfl | rfl | rfl | rfl | rfl | rfl | rfl | rfl | rfl | rfl | rfl | rfl | rfl | rfl | rfl | rfl | rfl | rfl : i = 0 ∨ i = 1 ∨ i = 2 ∨ i = 3 ∨ i = 4 ∨ i = 5 ∨ i = 6 ∨ i = 7 ∨ i = 8 ∨ i = 9 ∨ i = 10 ∨ i = 11 ∨ i = 12 ∨ i = 13 ∨ i = 14 ∨ i = 15 ∨ i = 16 ∨ i = 17 ∨ i = 18 ∨ i = 19 ∨ i = 20 ∨ i = 21 ∨ i = 22 ∨ i = 23 ∨ i = 24 ∨ i = 25 ∨ i = 26 ∨ i = 27 ∨ i = 28 ∨ i = 29 ∨ i = 30 ∨ i = 31 ∨ i = 32 ∨ i = 33 := by omega
                            · simp only [List.getElem?_cons_zero, Option.some.injEq] at ho
                              subst ho
                              intro a W vs hB hS hE hU
                              refine wpG_plain rfl ?_
                              have v11 : a.eval (.tmp 11) = .int .i64 E := (hU 11 (by kernel_rfl)).trans rfl
                              clear hE hU
                              exact wp_value_inv (w' := W) (.int .i64 E) (op_move rfl v11) ⟨_, rfl, hB, Fr.refl _ _, rfl, fun _ _ _ _ _ => trivial⟩
                            · simp only [List.getElem?_cons_zero, List.getElem?_cons_succ, Option.some.injEq] at ho
                              subst ho
                              intro a W vs hB hS hE hU
                              refine wpG_plain rfl ?_
                              obtain ⟨r0, e126⟩ := hE 0 126 (by kernel_rfl) (by kernel_rfl)
                              have v126 : a.eval (.tmp 126) = .int .i64 E := e126.trans r0
                              clear hE hU
                              exact wp_value_inv (w' := W) (.bool false) (op_bin rfl v126 rfl (guard_int9 W _ _ _ _ _ _ _) (eql_no HEN.out)) ⟨_, rfl, hB, Fr.refl _ _, rfl, fun _ _ _ _ _ => trivial⟩
                            · simp only [List.getElem?_cons_zero, List.getElem?_cons_succ, Option.some.injEq] at ho
                              subst ho
                              intro a W vs hB hS hE hU
                              refine wpG_plain rfl ?_
                              obtain ⟨r1, e127⟩ := hE 1 127 (by kernel_rfl) (by kernel_rfl)
                              have v127 : a.eval (.tmp 127) = .bool false := e127.trans r1
                              clear hE hU
                              exact wp_value_inv (w' := W) (.bool false) (op_move rfl v127) ⟨_, rfl, hB, Fr.refl _ _, rfl, fun _ _ _ _ _ => trivial⟩
                            · simp only [List.getElem?_cons_zero, List.getElem?_cons_succ, Option.some.injEq] at ho
                              subst ho
                              intro a W vs hB hS hE hU
                              obtain ⟨r2, e128⟩ := hE 2 128 (by kernel_rfl) (by kernel_rfl)
                              have v128 : a.eval (.tmp 128) = .bool false := e128.trans r2
                              exact wpG_no 2 true 128 rfl (by kernel_rfl) (by rw [hS]; first | simp | exact Nat.le_of_ble_eq_true rfl) v128 ⟨_, rfl, hB, Fr.refl _ _, rfl, fun _ _ _ _ _ => trivial⟩
                            · simp only [List.getElem?_cons_zero, List.getElem?_cons_succ, Option.some.injEq] at ho
                              subst ho
                              intro a W vs hB hS hE hU
                              obtain ⟨r2, e128⟩ := hE 2 128 (by kernel_rfl) (by kernel_rfl)
                              have v128 : a.eval (.tmp 128) = .bool false := e128.trans r2
                              exact wpG_no 2 true 128 rfl (by kernel_rfl) (by rw [hS]; first | simp | exact Nat.le_of_ble_eq_true rfl) v128 ⟨_, rfl, hB, Fr.refl _ _, rfl, fun _ _ _ _ _ => trivial⟩
                            · simp only [List.getElem?_cons_zero, List.getElem?_cons_succ, Option.some.injEq] at ho
                              subst ho
                              intro a W vs hB hS hE hU
                              obtain ⟨r2, e128⟩ := hE 2 128 (by kernel_rfl) (by kernel_rfl)
                              have v128 : a.eval (.tmp 128) = .bool false := e128.trans r2
                              exact wpG_no 2 true 128 rfl (by kernel_rfl) (by rw [hS]; first | simp | exact Nat.le_of_ble_eq_true rfl) v128 ⟨_, rfl, hB, Fr.refl _ _, rfl, fun _ _ _ _ _ => trivial⟩
                            · simp only [List.getElem?_cons_zero, List.getElem?_cons_succ, Option.some.injEq] at ho
                              subst ho
                              intro a W vs hB hS hE hU
                              obtain ⟨r5, e131⟩ := hE 5 131 (by kernel_rfl) (by kernel_rfl)
                              have v131 : a.eval (.tmp 131) = undef := e131.trans r5
                              exact wpG_undef 5 false 131 rfl (by kernel_rfl) (by rw [hS]; first | simp | exact Nat.le_of_ble_eq_true rfl) v131 ⟨_, rfl, hB, Fr.refl _ _, rfl, fun _ _ _ _ _ => trivial⟩
                            · simp only [List.getElem?_cons_zero, List.getElem?_cons_succ, Option.some.injEq] at ho
                              subst ho
                              intro a W vs hB hS hE hU
                              obtain ⟨r5, e131⟩ := hE 5 131 (by kernel_rfl) (by kernel_rfl)
                              have v131 : a.eval (.tmp 131) = undef := e131.trans r5
                              exact wpG_undef 5 false 131 rfl (by kernel_rfl) (by rw [hS]; first | simp | exact Nat.le_of_ble_eq_true rfl) v131 ⟨_, rfl, hB, Fr.refl _ _, rfl, fun _ _ _ _ _ => trivial⟩
                            · simp only [List.getElem?_cons_zero, List.getElem?_cons_succ, Option.some.injEq] at ho
                              subst ho
                              intro a W vs hB hS hE hU
                              obtain ⟨r5, e131⟩ := hE 5 131 (by kernel_rfl) (by kernel_rfl)
                              have v131 : a.eval (.tmp 131) = undef := e131.trans r5
                              exact wpG_undef 5 false 131 rfl (by kernel_rfl) (by rw [hS]; first | simp | exact Nat.le_of_ble_eq_true rfl) v131 ⟨_, rfl, hB, Fr.refl _ _, rfl, fun _ _ _ _ _ => trivial⟩
                            · simp only [List.getElem?_cons_zero, List.getElem?_cons_succ, Option.some.injEq] at ho
                              subst ho
                              intro a W vs hB hS hE hU
                              obtain ⟨r5, e131⟩ := hE 5 131 (by kernel_rfl) (by kernel_rfl)
                              have v131 : a.eval (.tmp 131) = undef := e131.trans r5
                              exact wpG_undef 5 false 131 rfl (by kernel_rfl) (by rw [hS]; first | simp | exact Nat.le_of_ble_eq_true rfl) v131 ⟨_, rfl, hB, Fr.refl _ _, rfl, fun _ _ _ _ _ => trivial⟩
                            · simp only [List.getElem?_cons_zero, List.getElem?_cons_succ, Option.some.injEq] at ho
                              subst ho
                              intro a W vs hB hS hE hU
                              obtain ⟨r5, e131⟩ := hE 5 131 (by kernel_rfl) (by kernel_rfl)
                              have v131 : a.eval (.tmp 131) = undef := e131.trans r5
                              exact wpG_undef 5 false 131 rfl (by kernel_rfl) (by rw [hS]; first | simp | exact Nat.le_of_ble_eq_true rfl) v131 ⟨_, rfl, hB, Fr.refl _ _, rfl, fun _ _ _ _ _ => trivial⟩
                            · simp only [List.getElem?_cons_zero, List.getElem?_cons_succ, Option.some.injEq] at ho
                              subst ho
                              intro a W vs hB hS hE hU
                              obtain ⟨r5, e131⟩ := hE 5 131 (by kernel_rfl) (by kernel_rfl)
                              have v131 : a.eval (.tmp 131) = undef := e131.trans r5
                              exact wpG_undef 5 false 131 rfl (by kernel_rfl) (by rw [hS]; first | simp | exact Nat.le_of_ble_eq_true rfl) v131 ⟨_, rfl, hB, Fr.refl _ _, rfl, fun _ _ _ _ _ => trivial⟩
                            · simp only [List.getElem?_cons_zero, List.getElem?_cons_succ, Option.some.injEq] at ho
                              subst ho
                              intro a W vs hB hS hE hU
                              obtain ⟨r5, e131⟩ := hE 5 131 (by kernel_rfl) (by kernel_rfl)
                              have v131 : a.eval (.tmp 131) = undef := e131.trans r5
                              exact wpG_undef 5 false 131 rfl (by kernel_rfl) (by rw [hS]; first | simp | exact Nat.le_of_ble_eq_true rfl) v131 ⟨_, rfl, hB, Fr.refl _ _, rfl, fun _ _ _ _ _ => trivial⟩
                            · simp only [List.getElem?_cons_zero, List.getElem?_cons_succ, Option.some.injEq] at ho
                              subst ho
                              intro a W vs hB hS hE hU
                              obtain ⟨r5, e131⟩ := hE 5 131 (by kernel_rfl) (by kernel_rfl)
                              have v131 : a.eval (.tmp 131) = undef := e131.trans r5
                              exact wpG_undef 5 false 131 rfl (by kernel_rfl) (by rw [hS]; first | simp | exact Nat.le_of_ble_eq_true rfl) v131 ⟨_, rfl, hB, Fr.refl _ _, rfl, fun _ _ _ _ _ => trivial⟩
                            · simp only [List.getElem?_cons_zero, List.getElem?_cons_succ, Option.some.injEq] at ho
                              subst ho
                              intro a W vs hB hS hE hU
                              obtain ⟨r5, e131⟩ := hE 5 131 (by kernel_rfl) (by kernel_rfl)
                              have v131 : a.eval (.tmp 131) = undef := e131.trans r5
                              exact wpG_undef 5 false 131 rfl (by kernel_rfl) (by rw [hS]; first | simp | exact Nat.le_of_ble_eq_true rfl) v131 ⟨_, rfl, hB, Fr.refl _ _, rfl, fun _ _ _ _ _ => trivial⟩
                            · simp only [List.getElem?_cons_zero, List.getElem?_cons_succ, Option.some.injEq] at ho
                              subst ho
                              intro a W vs hB hS hE hU
                              obtain ⟨r2, e128⟩ := hE 2 128 (by kernel_rfl) (by kernel_rfl)
                              have v128 : a.eval (.tmp 128) = .bool false := e128.trans r2
                              exact wpG_no 2 true 128 rfl (by kernel_rfl) (by rw [hS]; first | simp | exact Nat.le_of_ble_eq_true rfl) v128 ⟨_, rfl, hB, Fr.refl _ _, rfl, fun _ _ _ _ _ => trivial⟩
                            · simp only [List.getElem?_cons_zero, List.getElem?_cons_succ, Option.some.injEq] at ho
                              subst ho
                              intro a W vs hB hS hE hU
                              refine wpG_plain rfl ?_
                              obtain ⟨r2, e128⟩ := hE 2 128 (by kernel_rfl) (by kernel_rfl)
                              have v128 : a.eval (.tmp 128) = .bool false := e128.trans r2
                              clear hE hU
                              exact wp_value_inv (w' := W) (.bool false) (op_pick rfl v128 (by simp only [Bool.false_eq_true, if_false]; rfl)) ⟨_, rfl, hB, Fr.refl _ _, rfl, fun _ _ _ _ _ => trivial⟩
                            · simp only [List.getElem?_cons_zero, List.getElem?_cons_succ, Option.some.injEq] at ho
                              subst ho
                              intro a W vs hB hS hE hU
                              refine wpG_plain rfl ?_
                              obtain ⟨r16, e142⟩ := hE 16 142 (by kernel_rfl) (by kernel_rfl)
                              have v142 : a.eval (.tmp 142) = .bool false := e142.trans r16
                              clear hE hU
                              exact wp_value_inv (w' := W) (.bool false) (op_move rfl v142) ⟨_, rfl, hB, Fr.refl _ _, rfl, fun _ _ _ _ _ => trivial⟩
                            · simp only [List.getElem?_cons_zero, List.getElem?_cons_succ, Option.some.injEq] at ho
                              subst ho
                              intro a W vs hB hS hE hU
                              obtain ⟨r17, e143⟩ := hE 17 143 (by kernel_rfl) (by kernel_rfl)
                              have v143 : a.eval (.tmp 143) = .bool false := e143.trans r17
                              refine wpG_yes 17 false 143 rfl (by kernel_rfl) (by rw [hS]; first | simp | exact Nat.le_of_ble_eq_true rfl) v143 ?_
                              have v11 : a.eval (.tmp 11) = .int .i64 E := (hU 11 (by kernel_rfl)).trans rfl
                              clear hE hU
                              exact wp_value_inv (w' := W) (.int .i64 E) (op_move rfl v11) ⟨_, rfl, hB, Fr.refl _ _, rfl, fun _ _ _ _ _ => trivial⟩
                            · simp only [List.getElem?_cons_zero, List.getElem?_cons_succ, Option.some.injEq] at ho
                              subst ho
                              intro a W vs hB hS hE hU
                              obtain ⟨r17, e143⟩ := hE 17 143 (by kernel_rfl) (by kernel_rfl)
                              have v143 : a.eval (.tmp 143) = .bool false := e143.trans r17
                              refine wpG_yes 17 false 143 rfl (by kernel_rfl) (by rw [hS]; first | simp | exact Nat.le_of_ble_eq_true rfl) v143 ?_
                              obtain ⟨r18, e144⟩ := hE 18 144 (by kernel_rfl) (by kernel_rfl)
                              have v144 : a.eval (.tmp 144) = .int .i64 E := e144.trans r18
                              clear hE hU
                              exact wp_value_inv (w' := W) (.bool true) (op_bin rfl v144 rfl (guard_int9 W _ _ _ _ _ _ _) (neq_yes HEN.out)) ⟨_, rfl, hB, Fr.refl _ _, rfl, fun _ _ _ _ _ => trivial⟩
                            · simp only [List.getElem?_cons_zero, List.getElem?_cons_succ, Option.some.injEq] at ho
                              subst ho
                              intro a W vs hB hS hE hU
                              obtain ⟨r17, e143⟩ := hE 17 143 (by kernel_rfl) (by kernel_rfl)
                              have v143 : a.eval (.tmp 143) = .bool false := e143.trans r17
                              refine wpG_yes 17 false 143 rfl (by kernel_rfl) (by rw [hS]; first | simp | exact Nat.le_of_ble_eq_true rfl) v143 ?_
                              obtain ⟨r19, e145⟩ := hE 19 145 (by kernel_rfl) (by kernel_rfl)
                              have v145 : a.eval (.tmp 145) = .bool true := e145.trans r19
                              clear hE hU
                              exact wp_value_inv (w' := W) (.bool true) (op_move rfl v145) ⟨_, rfl, hB, Fr.refl _ _, rfl, fun _ _ _ _ _ => trivial⟩
                            · simp only [List.getElem?_cons_zero, List.getElem?_cons_succ, Option.some.injEq] at ho
                              subst ho
                              intro a W vs hB hS hE hU
                              obtain ⟨r20, e146⟩ := hE 20 146 (by kernel_rfl) (by kernel_rfl)
                              have v146 : a.eval (.tmp 146) = .bool true := e146.trans r20
                              refine wpG_yes 20 true 146 rfl (by kernel_rfl) (by rw [hS]; first | simp | exact Nat.le_of_ble_eq_true rfl) v146 ?_
                              have v13 : a.eval (.tmp 13) = .slice a11 n8 c11 := (hU 13 (by kernel_rfl)).trans rfl
                              clear hE hU
                              exact wp_value_inv (w' := W) (.slice a11 n8 c11) (op_move rfl v13) ⟨_, rfl, hB, Fr.refl _ _, rfl, fun _ _ _ _ _ => trivial⟩
                            · simp only [List.getElem?_cons_zero, List.getElem?_cons_succ, Option.some.injEq] at ho
                              subst ho
                              intro a W vs hB hS hE hU
                              obtain ⟨r20, e146⟩ := hE 20 146 (by kernel_rfl) (by kernel_rfl)
                              have v146 : a.eval (.tmp 146) = .bool true := e146.trans r20
                              refine wpG_yes 20 true 146 rfl (by kernel_rfl) (by rw [hS]; first | simp | exact Nat.le_of_ble_eq_true rfl) v146 ?_
                              have v10 : a.eval (.tmp 10) = .slice a8 n8 c8 := (hU 10 (by kernel_rfl)).trans rfl
                              clear hE hU
                              exact wp_value_inv (w' := W) (.slice a8 n8 c8) (op_move rfl v10) ⟨_, rfl, hB, Fr.refl _ _, rfl, fun _ _ _ _ _ => trivial⟩
                            · simp only [List.getElem?_cons_zero, List.getElem?_cons_succ, Option.some.injEq] at ho
                              subst ho
                              intro a W vs hB hS hE hU
                              obtain ⟨r20, e146⟩ := hE 20 146 (by kernel_rfl) (by kernel_rfl)
                              have v146 : a.eval (.tmp 146) = .bool true := e146.trans r20
                              refine wpG_yes 20 true 146 rfl (by kernel_rfl) (by rw [hS]; first | simp | exact Nat.le_of_ble_eq_true rfl) v146 ?_
                              obtain ⟨r21, e147⟩ := hE 21 147 (by kernel_rfl) (by kernel_rfl)
                              have v147 : a.eval (.tmp 147) = .slice a11 n8 c11 := e147.trans r21
                              obtain ⟨r22, e148⟩ := hE 22 148 (by kernel_rfl) (by kernel_rfl)
                              have v148 : a.eval (.tmp 148) = .slice a8 n8 c8 := e148.trans r22
                              clear hE hU
                              refine wp_call_inv 25 #[.tmp 147, .tmp 148] #[63, 63] rfl #[.slice a11 n8 c11, .slice a8 n8 c8] (by simp only [List.map_toArray, List.map_cons, List.map_nil, v147, v148]) (ent_spence_spencekit_SameLines _) (Post := fun v W' => v = .bool true ∧ Fr (fun _ => False) W W') ((HSL.out W hB).mono fun e w' h => ⟨_, h.1, rfl, h.2⟩) ?_
                              rintro v W' ⟨rfl, hf⟩
                              exact ⟨_, rfl, hB.trans hf (fun _ h => h.elim), hf, rfl, fun _ _ _ _ _ => trivial⟩
                            · simp only [List.getElem?_cons_zero, List.getElem?_cons_succ, Option.some.injEq] at ho
                              subst ho
                              intro a W vs hB hS hE hU
                              obtain ⟨r20, e146⟩ := hE 20 146 (by kernel_rfl) (by kernel_rfl)
                              have v146 : a.eval (.tmp 146) = .bool true := e146.trans r20
                              refine wpG_yes 20 true 146 rfl (by kernel_rfl) (by rw [hS]; first | simp | exact Nat.le_of_ble_eq_true rfl) v146 ?_
                              obtain ⟨r23, e149⟩ := hE 23 149 (by kernel_rfl) (by kernel_rfl)
                              have v149 : a.eval (.tmp 149) = .bool true := e149.trans r23
                              clear hE hU
                              exact wp_value_inv (w' := W) (.bool false) (op_not9 rfl v149) ⟨_, rfl, hB, Fr.refl _ _, rfl, fun _ _ _ _ _ => trivial⟩
                            · simp only [List.getElem?_cons_zero, List.getElem?_cons_succ, Option.some.injEq] at ho
                              subst ho
                              intro a W vs hB hS hE hU
                              obtain ⟨r17, e143⟩ := hE 17 143 (by kernel_rfl) (by kernel_rfl)
                              have v143 : a.eval (.tmp 143) = .bool false := e143.trans r17
                              refine wpG_yes 17 false 143 rfl (by kernel_rfl) (by rw [hS]; first | simp | exact Nat.le_of_ble_eq_true rfl) v143 ?_
                              obtain ⟨r20, e146⟩ := hE 20 146 (by kernel_rfl) (by kernel_rfl)
                              have v146 : a.eval (.tmp 146) = .bool true := e146.trans r20
                              obtain ⟨r24, e150⟩ := hE 24 150 (by kernel_rfl) (by kernel_rfl)
                              have v150 : a.eval (.tmp 150) = .bool false := e150.trans r24
                              clear hE hU
                              exact wp_value_inv (w' := W) (.bool false) (op_pick rfl v146 (by simp only [if_true]; exact v150)) ⟨_, rfl, hB, Fr.refl _ _, rfl, fun _ _ _ _ _ => trivial⟩
                            · simp only [List.getElem?_cons_zero, List.getElem?_cons_succ, Option.some.injEq] at ho
                              subst ho
                              intro a W vs hB hS hE hU
                              refine wpG_plain rfl ?_
                              obtain ⟨r17, e143⟩ := hE 17 143 (by kernel_rfl) (by kernel_rfl)
                              have v143 : a.eval (.tmp 143) = .bool false := e143.trans r17
                              obtain ⟨r25, e151⟩ := hE 25 151 (by kernel_rfl) (by kernel_rfl)
                              have v151 : a.eval (.tmp 151) = .bool false := e151.trans r25
                              clear hE hU
                              exact wp_value_inv (w' := W) (.bool false) (op_pick rfl v143 (by simp only [Bool.false_eq_true, if_false]; exact v151)) ⟨_, rfl, hB, Fr.refl _ _, rfl, fun _ _ _ _ _ => trivial⟩
                            · simp only [List.getElem?_cons_zero, List.getElem?_cons_succ, Option.some.injEq] at ho
                              subst ho
                              intro a W vs hB hS hE hU
                              refine wpG_plain rfl ?_
                              obtain ⟨r26, e152⟩ := hE 26 152 (by kernel_rfl) (by kernel_rfl)
                              have v152 : a.eval (.tmp 152) = .bool false := e152.trans r26
                              clear hE hU
                              exact wp_value_inv (w' := W) (.bool false) (op_move rfl v152) ⟨_, rfl, hB, Fr.refl _ _, rfl, fun _ _ _ _ _ => trivial⟩
                            · simp only [List.getElem?_cons_zero, List.getElem?_cons_succ, Option.some.injEq] at ho
                              subst ho
                              intro a W vs hB hS hE hU
                              obtain ⟨r27, e153⟩ := hE 27 153 (by kernel_rfl) (by kernel_rfl)
                              have v153 : a.eval (.tmp 153) = .bool false := e153.trans r27
                              refine wpG_yes 27 false 153 rfl (by kernel_rfl) (by rw [hS]; first | simp | exact Nat.le_of_ble_eq_true rfl) v153 ?_
                              have v12 : a.eval (.tmp 12) = .slice a10 n7 c10 := (hU 12 (by kernel_rfl)).trans rfl
                              clear hE hU
                              exact wp_value_inv (w' := W) (.slice a10 n7 c10) (op_move rfl v12) ⟨_, rfl, hB, Fr.refl _ _, rfl, fun _ _ _ _ _ => trivial⟩
                            · simp only [List.getElem?_cons_zero, List.getElem?_cons_succ, Option.some.injEq] at ho
                              subst ho
                              intro a W vs hB hS hE hU
                              obtain ⟨r27, e153⟩ := hE 27 153 (by kernel_rfl) (by kernel_rfl)
                              have v153 : a.eval (.tmp 153) = .bool false := e153.trans r27
                              refine wpG_yes 27 false 153 rfl (by kernel_rfl) (by rw [hS]; first | simp | exact Nat.le_of_ble_eq_true rfl) v153 ?_
                              obtain ⟨r28, e154⟩ := hE 28 154 (by kernel_rfl) (by kernel_rfl)
                              have v154 : a.eval (.tmp 154) = .slice a10 n7 c10 := e154.trans r28
                              clear hE hU
                              exact wp_value_inv (w' := W) (.int .i64 (n7 : Nat)) (op_lenRt rfl v154) ⟨_, rfl, hB, Fr.refl _ _, rfl, fun _ _ _ _ _ => trivial⟩
                            · simp only [List.getElem?_cons_zero, List.getElem?_cons_succ, Option.some.injEq] at ho
                              subst ho
                              intro a W vs hB hS hE hU
                              obtain ⟨r27, e153⟩ := hE 27 153 (by kernel_rfl) (by kernel_rfl)
                              have v153 : a.eval (.tmp 153) = .bool false := e153.trans r27
                              refine wpG_yes 27 false 153 rfl (by kernel_rfl) (by rw [hS]; first | simp | exact Nat.le_of_ble_eq_true rfl) v153 ?_
                              have v9 : a.eval (.tmp 9) = .slice a7 n7 c7 := (hU 9 (by kernel_rfl)).trans rfl
                              clear hE hU
                              exact wp_value_inv (w' := W) (.slice a7 n7 c7) (op_move rfl v9) ⟨_, rfl, hB, Fr.refl _ _, rfl, fun _ _ _ _ _ => trivial⟩
                            · simp only [List.getElem?_cons_zero, List.getElem?_cons_succ, Option.some.injEq] at ho
                              subst ho
                              intro a W vs hB hS hE hU
                              obtain ⟨r27, e153⟩ := hE 27 153 (by kernel_rfl) (by kernel_rfl)
                              have v153 : a.eval (.tmp 153) = .bool false := e153.trans r27
                              refine wpG_yes 27 false 153 rfl (by kernel_rfl) (by rw [hS]; first | simp | exact Nat.le_of_ble_eq_true rfl) v153 ?_
                              obtain ⟨r30, e156⟩ := hE 30 156 (by kernel_rfl) (by kernel_rfl)
                              have v156 : a.eval (.tmp 156) = .slice a7 n7 c7 := e156.trans r30
                              clear hE hU
                              exact wp_value_inv (w' := W) (.int .i64 (n7 : Nat)) (op_lenRt rfl v156) ⟨_, rfl, hB, Fr.refl _ _, rfl, fun _ _ _ _ _ => trivial⟩
                            · simp only [List.getElem?_cons_zero, List.getElem?_cons_succ, Option.some.injEq] at ho
                              subst ho
                              intro a W vs hB hS hE hU
                              obtain ⟨r27, e153⟩ := hE 27 153 (by kernel_rfl) (by kernel_rfl)
                              have v153 : a.eval (.tmp 153) = .bool false := e153.trans r27
                              refine wpG_yes 27 false 153 rfl (by kernel_rfl) (by rw [hS]; first | simp | exact Nat.le_of_ble_eq_true rfl) v153 ?_
                              obtain ⟨r29, e155⟩ := hE 29 155 (by kernel_rfl) (by kernel_rfl)
                              have v155 : a.eval (.tmp 155) = .int .i64 (n7 : Nat) := e155.trans r29
                              obtain ⟨r31, e157⟩ := hE 31 157 (by kernel_rfl) (by kernel_rfl)
                              have v157 : a.eval (.tmp 157) = .int .i64 (n7 : Nat) := e157.trans r31
                              clear hE hU
                              exact wp_value_inv (w' := W) (.bool false) (op_bin rfl v155 v157 (guard_int9 W _ _ _ _ _ _ _) neq_no) ⟨_, rfl, hB, Fr.refl _ _, rfl, fun _ _ _ _ _ => trivial⟩
                            · simp only [List.getElem?_cons_zero, List.getElem?_cons_succ, Option.some.injEq] at ho
                              subst ho
                              intro a W vs hB hS hE hU
                              refine wpG_plain rfl ?_
                              obtain ⟨r27, e153⟩ := hE 27 153 (by kernel_rfl) (by kernel_rfl)
                              have v153 : a.eval (.tmp 153) = .bool false := e153.trans r27
                              obtain ⟨r32, e158⟩ := hE 32 158 (by kernel_rfl) (by kernel_rfl)
                              have v158 : a.eval (.tmp 158) = .bool false := e158.trans r32
                              clear hE hU
                              exact wp_value_inv (w' := W) (.bool false) (op_pick rfl v153 (by simp only [Bool.false_eq_true, if_false]; exact v158)) ⟨_, rfl, hB, Fr.refl _ _, rfl, fun _ _ _ _ _ => trivial⟩
                          · intro vs Wz hB0 hR0 hD
                            have r159 : vs 33 = .bool false := hR0 33 (by decide)
                            have HZ := Lib.hid hB0
                            clear hR0 hD hB0
                            simp only [acts, if_true, dstAt, List.getElem?_cons_zero, List.getElem?_cons_succ, Option.bind_some, Act.put, List.setIfInBounds_toArray, List.set_cons_succ, List.set_cons_zero, List.drop_succ_cons, List.drop_nil]
                            simp only [r159]
                            clear r159
                            go_wp2_with fail
                            go_meet
                            case rel => exact HZ
                  · have e3 : decide (m = 3) = false := decide_eq_false (fun h => m34 (.inl h))
                    have e4 : decide (m = 4) = false := decide_eq_false (fun h => m34 (.inr h))
                    have hp := un0 (s := s) (by rw [← HM.out]; exact m2) (by rw [← HM.out]; exact m34) (by rw [← HM.out]; exact m5) hew
                    rw [← HE.out, ← HS1.out] at hp
                    obtain ⟨hc, hNN⟩ := hp
                    obtain rfl : n8 = n11 := by rw [HLL.out.2.2.2, HLL.out.2.1, hNN]
                    have m3 : ¬ m = 3 := fun h => m34 (.inl h)
                    have m4 : ¬ m = 4 := fun h => m34 (.inr h)
                    clear hNN m34
                    rcases hc with ⟨hE0, hv⟩ | ⟨hE0, hss⟩
                    · as_aux_lemma =>
                        obtain ⟨k9, hk9, hkl, hkv⟩ := find_val (N := N) (x := e.p) (HV9.out.1.rk.ok 1).1 (by rw [HFF.out.1]; exact hv)
                        rw [← HFF.out.2.1] at hk9
                        obtain ⟨b3, f3, ha10, hrg⟩ := root_at H16.out.2.2.1 hkl hkv
                        have hkn : k9 < n10 := by rw [HLL.out.2.2.1]; exact hkl
                        obtain ⟨o3, ho3⟩ : ∃ o3, o3 = f3 + k9 * 22 := ⟨_, rfl⟩
                        rw [← ho3] at hrg
                        obtain ⟨C, hC⟩ : ∃ C, C = pathC e.p.h e.p.n := ⟨_, rfl⟩
                        have HI3 := Lib.hid (fun W => idxRt8 W b3 f3 n10 c10 k9 hkn)
                        rw [← ho3] at HI3
                        have LDP := Lib.hid (fun W (hW : Fr (fun _ => False) Wd W) => (root_path (Fr.range9 hW (Fr.range9 HD16.out hrg id) id)))
                        have LDQ := Lib.hid (fun W (hW : Fr (fun _ => False) Wd W) => load_deed_path HY.out.1 (hW.heap HRW.out id))
                        have HNP := Lib.hid (fun W => show (binOp .neq 43 (.agg C) (.agg C)).run Try.prog W = .ok (.bool false) W by rw [hC, run_neq_path W _ _ _ _ e.p.hl e.p.hl, sameP_refl]; rfl)
                        rw [← hC] at LDP LDQ
                        subst ha10
                        subst hE0
                        subst hk9
                        clear hv hkl hkv hrg ho3 hC hU hew
                        go_wp2_with fail
                        refine wp_region_inv 34 (by kernel_rfl) (by kernel_rfl) (fun W => Fr (fun _ => False) Wd W) (VmY g n7 n8 n10 n8 c7 c8 c10 c11 b3 o3 k9 (0 : Int) (0 : Int) fb a7 a8 none a11 undef undef C f3) (fun _ _ _ _ => True) (Fr (fun _ => False)) (VmY.ext g n7 n8 n10 n8 c7 c8 c10 c11 b3 o3 k9 (0 : Int) (0 : Int) fb a7 a8 none a11 undef undef C f3) (Fr.refl _ _).drew ?_ ?_
                        · intro i hi o ho
                          replace hi : i < 34 := hi
                          obtain rfl | rfl | rfl | rfl | rfl | rfl | rfl | rfl | rfl | rfl | rfl | rfl | rfl | rfl | rfl | rfl | rfl | rfl | rfl | rfl | rfl | rfl | rfl | rfl | rfl | rfl | rfl | rfl | rfl | rfl | rfl | rfl | rfl | rfl : i = 0 ∨ i = 1 ∨ i = 2 ∨ i = 3 ∨ i = 4 ∨ i = 5 ∨ i = 6 ∨ i = 7 ∨ i = 8 ∨ i = 9 ∨ i = 10 ∨ i = 11 ∨ i = 12 ∨ i = 13 ∨ i = 14 ∨ i = 15 ∨ i = 16 ∨ i = 17 ∨ i = 18 ∨ i = 19 ∨ i = 20 ∨ i = 21 ∨ i = 22 ∨ i = 23 ∨ i = 24 ∨ i = 25 ∨ i = 26 ∨ i = 27 ∨ i = 28 ∨ i = 29 ∨ i = 30 ∨ i = 31 ∨ i = 32 ∨ i = 33 := by omega
                          · simp only [List.getElem?_cons_zero, Option.some.injEq] at ho
                            subst ho
                            intro a W vs hB hS hE hU
                            refine wpG_plain rfl ?_
                            have v11 : a.eval (.tmp 11) = .int .i64 0 := (hU 11 (by kernel_rfl)).trans rfl
                            clear hE hU
                            exact wp_value_inv (w' := W) (.int .i64 0) (op_move rfl v11) ⟨_, rfl, hB, Fr.refl _ _, rfl, fun _ _ _ _ _ => trivial⟩
                          · simp only [List.getElem?_cons_zero, List.getElem?_cons_succ, Option.some.injEq] at ho
                            subst ho
                            intro a W vs hB hS hE hU
                            refine wpG_plain rfl ?_
                            obtain ⟨r0, e68⟩ := hE 0 68 (by kernel_rfl) (by kernel_rfl)
                            have v68 : a.eval (.tmp 68) = .int .i64 0 := e68.trans r0
                            clear hE hU
                            exact wp_value_inv (w' := W) (.bool true) (op_bin rfl v68 rfl (guard_int9 W _ _ _ _ _ _ _) eql_yes) ⟨_, rfl, hB, Fr.refl _ _, rfl, fun _ _ _ _ _ => trivial⟩
                          · simp only [List.getElem?_cons_zero, List.getElem?_cons_succ, Option.some.injEq] at ho
                            subst ho
                            intro a W vs hB hS hE hU
                            refine wpG_plain rfl ?_
                            obtain ⟨r1, e69⟩ := hE 1 69 (by kernel_rfl) (by kernel_rfl)
                            have v69 : a.eval (.tmp 69) = .bool true := e69.trans r1
                            clear hE hU
                            exact wp_value_inv (w' := W) (.bool true) (op_move rfl v69) ⟨_, rfl, hB, Fr.refl _ _, rfl, fun _ _ _ _ _ => trivial⟩
                          · simp only [List.getElem?_cons_zero, List.getElem?_cons_succ, Option.some.injEq] at ho
                            subst ho
                            intro a W vs hB hS hE hU
                            obtain ⟨r2, e70⟩ := hE 2 70 (by kernel_rfl) (by kernel_rfl)
                            have v70 : a.eval (.tmp 70) = .bool true := e70.trans r2
                            refine wpG_yes 2 true 70 rfl (by kernel_rfl) (by rw [hS]; first | simp | exact Nat.le_of_ble_eq_true rfl) v70 ?_
                            have v14 : a.eval (.tmp 14) = .int .i64 (k9 : Nat) := (hU 14 (by kernel_rfl)).trans rfl
                            clear hE hU
                            exact wp_value_inv (w' := W) (.int .i64 (k9 : Nat)) (op_move rfl v14) ⟨_, rfl, hB, Fr.refl _ _, rfl, fun _ _ _ _ _ => trivial⟩
                          · simp only [List.getElem?_cons_zero, List.getElem?_cons_succ, Option.some.injEq] at ho
                            subst ho
                            intro a W vs hB hS hE hU
                            obtain ⟨r2, e70⟩ := hE 2 70 (by kernel_rfl) (by kernel_rfl)
                            have v70 : a.eval (.tmp 70) = .bool true := e70.trans r2
                            refine wpG_yes 2 true 70 rfl (by kernel_rfl) (by rw [hS]; first | simp | exact Nat.le_of_ble_eq_true rfl) v70 ?_
                            obtain ⟨r3, e71⟩ := hE 3 71 (by kernel_rfl) (by kernel_rfl)
                            have v71 : a.eval (.tmp 71) = .int .i64 (k9 : Nat) := e71.trans r3
                            clear hE hU
                            exact wp_value_inv (w' := W) (.bool false) (op_bin rfl v71 rfl rfl (lss_no (by omega))) ⟨_, rfl, hB, Fr.refl _ _, rfl, fun _ _ _ _ _ => trivial⟩
                          · simp only [List.getElem?_cons_zero, List.getElem?_cons_succ, Option.some.injEq] at ho
                            subst ho
                            intro a W vs hB hS hE hU
                            obtain ⟨r2, e70⟩ := hE 2 70 (by kernel_rfl) (by kernel_rfl)
                            have v70 : a.eval (.tmp 70) = .bool true := e70.trans r2
                            refine wpG_yes 2 true 70 rfl (by kernel_rfl) (by rw [hS]; first | simp | exact Nat.le_of_ble_eq_true rfl) v70 ?_
                            obtain ⟨r4, e72⟩ := hE 4 72 (by kernel_rfl) (by kernel_rfl)
                            have v72 : a.eval (.tmp 72) = .bool false := e72.trans r4
                            clear hE hU
                            exact wp_value_inv (w' := W) (.bool false) (op_move rfl v72) ⟨_, rfl, hB, Fr.refl _ _, rfl, fun _ _ _ _ _ => trivial⟩
                          · simp only [List.getElem?_cons_zero, List.getElem?_cons_succ, Option.some.injEq] at ho
                            subst ho
                            intro a W vs hB hS hE hU
                            obtain ⟨r5, e73⟩ := hE 5 73 (by kernel_rfl) (by kernel_rfl)
                            have v73 : a.eval (.tmp 73) = .bool false := e73.trans r5
                            refine wpG_yes 5 false 73 rfl (by kernel_rfl) (by rw [hS]; first | simp | exact Nat.le_of_ble_eq_true rfl) v73 ?_
                            have v12 : a.eval (.tmp 12) = .slice (some ⟨b3, f3, none⟩) n10 c10 := (hU 12 (by kernel_rfl)).trans rfl
                            clear hE hU
                            exact wp_value_inv (w' := W) (.slice (some ⟨b3, f3, none⟩) n10 c10) (op_move rfl v12) ⟨_, rfl, hB, Fr.refl _ _, rfl, fun _ _ _ _ _ => trivial⟩
                          · simp only [List.getElem?_cons_zero, List.getElem?_cons_succ, Option.some.injEq] at ho
                            subst ho
                            intro a W vs hB hS hE hU
                            obtain ⟨r5, e73⟩ := hE 5 73 (by kernel_rfl) (by kernel_rfl)
                            have v73 : a.eval (.tmp 73) = .bool false := e73.trans r5
                            refine wpG_yes 5 false 73 rfl (by kernel_rfl) (by rw [hS]; first | simp | exact Nat.le_of_ble_eq_true rfl) v73 ?_
                            have v14 : a.eval (.tmp 14) = .int .i64 (k9 : Nat) := (hU 14 (by kernel_rfl)).trans rfl
                            clear hE hU
                            exact wp_value_inv (w' := W) (.int .i64 (k9 : Nat)) (op_move rfl v14) ⟨_, rfl, hB, Fr.refl _ _, rfl, fun _ _ _ _ _ => trivial⟩
                          · simp only [List.getElem?_cons_zero, List.getElem?_cons_succ, Option.some.injEq] at ho
                            subst ho
                            intro a W vs hB hS hE hU
                            obtain ⟨r5, e73⟩ := hE 5 73 (by kernel_rfl) (by kernel_rfl)
                            have v73 : a.eval (.tmp 73) = .bool false := e73.trans r5
                            refine wpG_yes 5 false 73 rfl (by kernel_rfl) (by rw [hS]; first | simp | exact Nat.le_of_ble_eq_true rfl) v73 ?_
                            obtain ⟨r6, e74⟩ := hE 6 74 (by kernel_rfl) (by kernel_rfl)
                            have v74 : a.eval (.tmp 74) = .slice (some ⟨b3, f3, none⟩) n10 c10 := e74.trans r6
                            obtain ⟨r7, e75⟩ := hE 7 75 (by kernel_rfl) (by kernel_rfl)
                            have v75 : a.eval (.tmp 75) = .int .i64 (k9 : Nat) := e75.trans r7
                            clear hE hU
                            exact wp_value_inv (w' := W) (.pointer (some ⟨b3, o3, none⟩)) (op_indexAddr rfl v74 v75 (HI3.out W)) ⟨_, rfl, hB, Fr.refl _ _, rfl, fun _ _ _ _ _ => trivial⟩
                          · simp only [List.getElem?_cons_zero, List.getElem?_cons_succ, Option.some.injEq] at ho
                            subst ho
                            intro a W vs hB hS hE hU
                            obtain ⟨r5, e73⟩ := hE 5 73 (by kernel_rfl) (by kernel_rfl)
                            have v73 : a.eval (.tmp 73) = .bool false := e73.trans r5
                            refine wpG_yes 5 false 73 rfl (by kernel_rfl) (by rw [hS]; first | simp | exact Nat.le_of_ble_eq_true rfl) v73 ?_
                            obtain ⟨r8, e76⟩ := hE 8 76 (by kernel_rfl) (by kernel_rfl)
                            have v76 : a.eval (.tmp 76) = .pointer (some ⟨b3, o3, none⟩) := e76.trans r8
                            clear hE hU
                            exact wp_value_inv (w' := W) (.pointer (some ⟨b3, o3 + 1, none⟩)) (op_fieldAddr rfl v76 (fldRt1 W b3 o3)) ⟨_, rfl, hB, Fr.refl _ _, rfl, fun _ _ _ _ _ => trivial⟩
                          · simp only [List.getElem?_cons_zero, List.getElem?_cons_succ, Option.some.injEq] at ho
                            subst ho
                            intro a W vs hB hS hE hU
                            obtain ⟨r5, e73⟩ := hE 5 73 (by kernel_rfl) (by kernel_rfl)
                            have v73 : a.eval (.tmp 73) = .bool false := e73.trans r5
                            refine wpG_yes 5 false 73 rfl (by kernel_rfl) (by rw [hS]; first | simp | exact Nat.le_of_ble_eq_true rfl) v73 ?_
                            obtain ⟨r9, e77⟩ := hE 9 77 (by kernel_rfl) (by kernel_rfl)
                            have v77 : a.eval (.tmp 77) = .pointer (some ⟨b3, o3 + 1, none⟩) := e77.trans r9
                            clear hE hU
                            exact wp_value_inv (w' := W) (.agg C) (op_loadAt rfl v77 (LDP.out W hB)) ⟨_, rfl, hB, Fr.refl _ _, rfl, fun _ _ _ _ _ => trivial⟩
                          · simp only [List.getElem?_cons_zero, List.getElem?_cons_succ, Option.some.injEq] at ho
                            subst ho
                            intro a W vs hB hS hE hU
                            obtain ⟨r5, e73⟩ := hE 5 73 (by kernel_rfl) (by kernel_rfl)
                            have v73 : a.eval (.tmp 73) = .bool false := e73.trans r5
                            refine wpG_yes 5 false 73 rfl (by kernel_rfl) (by rw [hS]; first | simp | exact Nat.le_of_ble_eq_true rfl) v73 ?_
                            have v8 : a.eval (.tmp 8) = .pointer (some ⟨g, 0, none⟩) := (hU 8 (by kernel_rfl)).trans rfl
                            clear hE hU
                            exact wp_value_inv (w' := W) (.pointer (some ⟨g, 3, none⟩)) (op_fieldAddr rfl v8 (fld_spence_spencelaw14_Deed_3_0 W g)) ⟨_, rfl, hB, Fr.refl _ _, rfl, fun _ _ _ _ _ => trivial⟩
                          · simp only [List.getElem?_cons_zero, List.getElem?_cons_succ, Option.some.injEq] at ho
                            subst ho
                            intro a W vs hB hS hE hU
                            obtain ⟨r5, e73⟩ := hE 5 73 (by kernel_rfl) (by kernel_rfl)
                            have v73 : a.eval (.tmp 73) = .bool false := e73.trans r5
                            refine wpG_yes 5 false 73 rfl (by kernel_rfl) (by rw [hS]; first | simp | exact Nat.le_of_ble_eq_true rfl) v73 ?_
                            obtain ⟨r11, e79⟩ := hE 11 79 (by kernel_rfl) (by kernel_rfl)
                            have v79 : a.eval (.tmp 79) = .pointer (some ⟨g, 3, none⟩) := e79.trans r11
                            clear hE hU
                            exact wp_value_inv (w' := W) (.agg C) (op_loadAt rfl v79 (LDQ.out W hB)) ⟨_, rfl, hB, Fr.refl _ _, rfl, fun _ _ _ _ _ => trivial⟩
                          · simp only [List.getElem?_cons_zero, List.getElem?_cons_succ, Option.some.injEq] at ho
                            subst ho
                            intro a W vs hB hS hE hU
                            obtain ⟨r5, e73⟩ := hE 5 73 (by kernel_rfl) (by kernel_rfl)
                            have v73 : a.eval (.tmp 73) = .bool false := e73.trans r5
                            refine wpG_yes 5 false 73 rfl (by kernel_rfl) (by rw [hS]; first | simp | exact Nat.le_of_ble_eq_true rfl) v73 ?_
                            obtain ⟨r10, e78⟩ := hE 10 78 (by kernel_rfl) (by kernel_rfl)
                            have v78 : a.eval (.tmp 78) = .agg C := e78.trans r10
                            obtain ⟨r12, e80⟩ := hE 12 80 (by kernel_rfl) (by kernel_rfl)
                            have v80 : a.eval (.tmp 80) = .agg C := e80.trans r12
                            clear hE hU
                            exact wp_value_inv (w' := W) (.bool false) (op_bin rfl v78 v80 (guard_path _ _ _ _ _ _) (HNP.out W)) ⟨_, rfl, hB, Fr.refl _ _, rfl, fun _ _ _ _ _ => trivial⟩
                          · simp only [List.getElem?_cons_zero, List.getElem?_cons_succ, Option.some.injEq] at ho
                            subst ho
                            intro a W vs hB hS hE hU
                            obtain ⟨r2, e70⟩ := hE 2 70 (by kernel_rfl) (by kernel_rfl)
                            have v70 : a.eval (.tmp 70) = .bool true := e70.trans r2
                            refine wpG_yes 2 true 70 rfl (by kernel_rfl) (by rw [hS]; first | simp | exact Nat.le_of_ble_eq_true rfl) v70 ?_
                            obtain ⟨r5, e73⟩ := hE 5 73 (by kernel_rfl) (by kernel_rfl)
                            have v73 : a.eval (.tmp 73) = .bool false := e73.trans r5
                            obtain ⟨r13, e81⟩ := hE 13 81 (by kernel_rfl) (by kernel_rfl)
                            have v81 : a.eval (.tmp 81) = .bool false := e81.trans r13
                            clear hE hU
                            exact wp_value_inv (w' := W) (.bool false) (op_pick rfl v73 (by simp only [Bool.false_eq_true, if_false]; exact v81)) ⟨_, rfl, hB, Fr.refl _ _, rfl, fun _ _ _ _ _ => trivial⟩
                          · simp only [List.getElem?_cons_zero, List.getElem?_cons_succ, Option.some.injEq] at ho
                            subst ho
                            intro a W vs hB hS hE hU
                            refine wpG_plain rfl ?_
                            obtain ⟨r2, e70⟩ := hE 2 70 (by kernel_rfl) (by kernel_rfl)
                            have v70 : a.eval (.tmp 70) = .bool true := e70.trans r2
                            obtain ⟨r14, e82⟩ := hE 14 82 (by kernel_rfl) (by kernel_rfl)
                            have v82 : a.eval (.tmp 82) = .bool false := e82.trans r14
                            clear hE hU
                            exact wp_value_inv (w' := W) (.bool false) (op_pick rfl v70 (by simp only [if_true]; exact v82)) ⟨_, rfl, hB, Fr.refl _ _, rfl, fun _ _ _ _ _ => trivial⟩
                          · simp only [List.getElem?_cons_zero, List.getElem?_cons_succ, Option.some.injEq] at ho
                            subst ho
                            intro a W vs hB hS hE hU
                            refine wpG_plain rfl ?_
                            obtain ⟨r15, e83⟩ := hE 15 83 (by kernel_rfl) (by kernel_rfl)
                            have v83 : a.eval (.tmp 83) = .bool false := e83.trans r15
                            clear hE hU
                            exact wp_value_inv (w' := W) (.bool false) (op_move rfl v83) ⟨_, rfl, hB, Fr.refl _ _, rfl, fun _ _ _ _ _ => trivial⟩
                          · simp only [List.getElem?_cons_zero, List.getElem?_cons_succ, Option.some.injEq] at ho
                            subst ho
                            intro a W vs hB hS hE hU
                            obtain ⟨r16, e84⟩ := hE 16 84 (by kernel_rfl) (by kernel_rfl)
                            have v84 : a.eval (.tmp 84) = .bool false := e84.trans r16
                            refine wpG_yes 16 false 84 rfl (by kernel_rfl) (by rw [hS]; first | simp | exact Nat.le_of_ble_eq_true rfl) v84 ?_
                            have v11 : a.eval (.tmp 11) = .int .i64 0 := (hU 11 (by kernel_rfl)).trans rfl
                            clear hE hU
                            exact wp_value_inv (w' := W) (.int .i64 0) (op_move rfl v11) ⟨_, rfl, hB, Fr.refl _ _, rfl, fun _ _ _ _ _ => trivial⟩
                          · simp only [List.getElem?_cons_zero, List.getElem?_cons_succ, Option.some.injEq] at ho
                            subst ho
                            intro a W vs hB hS hE hU
                            obtain ⟨r16, e84⟩ := hE 16 84 (by kernel_rfl) (by kernel_rfl)
                            have v84 : a.eval (.tmp 84) = .bool false := e84.trans r16
                            refine wpG_yes 16 false 84 rfl (by kernel_rfl) (by rw [hS]; first | simp | exact Nat.le_of_ble_eq_true rfl) v84 ?_
                            obtain ⟨r17, e85⟩ := hE 17 85 (by kernel_rfl) (by kernel_rfl)
                            have v85 : a.eval (.tmp 85) = .int .i64 0 := e85.trans r17
                            clear hE hU
                            exact wp_value_inv (w' := W) (.bool false) (op_bin rfl v85 rfl (guard_int9 W _ _ _ _ _ _ _) neq_no) ⟨_, rfl, hB, Fr.refl _ _, rfl, fun _ _ _ _ _ => trivial⟩
                          · simp only [List.getElem?_cons_zero, List.getElem?_cons_succ, Option.some.injEq] at ho
                            subst ho
                            intro a W vs hB hS hE hU
                            obtain ⟨r16, e84⟩ := hE 16 84 (by kernel_rfl) (by kernel_rfl)
                            have v84 : a.eval (.tmp 84) = .bool false := e84.trans r16
                            refine wpG_yes 16 false 84 rfl (by kernel_rfl) (by rw [hS]; first | simp | exact Nat.le_of_ble_eq_true rfl) v84 ?_
                            obtain ⟨r18, e86⟩ := hE 18 86 (by kernel_rfl) (by kernel_rfl)
                            have v86 : a.eval (.tmp 86) = .bool false := e86.trans r18
                            clear hE hU
                            exact wp_value_inv (w' := W) (.bool false) (op_move rfl v86) ⟨_, rfl, hB, Fr.refl _ _, rfl, fun _ _ _ _ _ => trivial⟩
                          · simp only [List.getElem?_cons_zero, List.getElem?_cons_succ, Option.some.injEq] at ho
                            subst ho
                            intro a W vs hB hS hE hU
                            obtain ⟨r19, e87⟩ := hE 19 87 (by kernel_rfl) (by kernel_rfl)
                            have v87 : a.eval (.tmp 87) = .bool false := e87.trans r19
                            exact wpG_no 19 true 87 rfl (by kernel_rfl) (by rw [hS]; first | simp | exact Nat.le_of_ble_eq_true rfl) v87 ⟨_, rfl, hB, Fr.refl _ _, rfl, fun _ _ _ _ _ => trivial⟩
                          · simp only [List.getElem?_cons_zero, List.getElem?_cons_succ, Option.some.injEq] at ho
                            subst ho
                            intro a W vs hB hS hE hU
                            obtain ⟨r19, e87⟩ := hE 19 87 (by kernel_rfl) (by kernel_rfl)
                            have v87 : a.eval (.tmp 87) = .bool false := e87.trans r19
                            exact wpG_no 19 true 87 rfl (by kernel_rfl) (by rw [hS]; first | simp | exact Nat.le_of_ble_eq_true rfl) v87 ⟨_, rfl, hB, Fr.refl _ _, rfl, fun _ _ _ _ _ => trivial⟩
                          · simp only [List.getElem?_cons_zero, List.getElem?_cons_succ, Option.some.injEq] at ho
                            subst ho
                            intro a W vs hB hS hE hU
                            obtain ⟨r19, e87⟩ := hE 19 87 (by kernel_rfl) (by kernel_rfl)
                            have v87 : a.eval (.tmp 87) = .bool false := e87.trans r19
                            exact wpG_no 19 true 87 rfl (by kernel_rfl) (by rw [hS]; first | simp | exact Nat.le_of_ble_eq_true rfl) v87 ⟨_, rfl, hB, Fr.refl _ _, rfl, fun _ _ _ _ _ => trivial⟩
                          · simp only [List.getElem?_cons_zero, List.getElem?_cons_succ, Option.some.injEq] at ho
                            subst ho
                            intro a W vs hB hS hE hU
                            obtain ⟨r19, e87⟩ := hE 19 87 (by kernel_rfl) (by kernel_rfl)
                            have v87 : a.eval (.tmp 87) = .bool false := e87.trans r19
                            exact wpG_no 19 true 87 rfl (by kernel_rfl) (by rw [hS]; first | simp | exact Nat.le_of_ble_eq_true rfl) v87 ⟨_, rfl, hB, Fr.refl _ _, rfl, fun _ _ _ _ _ => trivial⟩
                          · simp only [List.getElem?_cons_zero, List.getElem?_cons_succ, Option.some.injEq] at ho
                            subst ho
                            intro a W vs hB hS hE hU
                            obtain ⟨r19, e87⟩ := hE 19 87 (by kernel_rfl) (by kernel_rfl)
                            have v87 : a.eval (.tmp 87) = .bool false := e87.trans r19
                            exact wpG_no 19 true 87 rfl (by kernel_rfl) (by rw [hS]; first | simp | exact Nat.le_of_ble_eq_true rfl) v87 ⟨_, rfl, hB, Fr.refl _ _, rfl, fun _ _ _ _ _ => trivial⟩
                          · simp only [List.getElem?_cons_zero, List.getElem?_cons_succ, Option.some.injEq] at ho
                            subst ho
                            intro a W vs hB hS hE hU
                            obtain ⟨r16, e84⟩ := hE 16 84 (by kernel_rfl) (by kernel_rfl)
                            have v84 : a.eval (.tmp 84) = .bool false := e84.trans r16
                            refine wpG_yes 16 false 84 rfl (by kernel_rfl) (by rw [hS]; first | simp | exact Nat.le_of_ble_eq_true rfl) v84 ?_
                            obtain ⟨r19, e87⟩ := hE 19 87 (by kernel_rfl) (by kernel_rfl)
                            have v87 : a.eval (.tmp 87) = .bool false := e87.trans r19
                            clear hE hU
                            exact wp_value_inv (w' := W) (.bool false) (op_pick rfl v87 (by simp only [Bool.false_eq_true, if_false]; rfl)) ⟨_, rfl, hB, Fr.refl _ _, rfl, fun _ _ _ _ _ => trivial⟩
                          · simp only [List.getElem?_cons_zero, List.getElem?_cons_succ, Option.some.injEq] at ho
                            subst ho
                            intro a W vs hB hS hE hU
                            refine wpG_plain rfl ?_
                            obtain ⟨r16, e84⟩ := hE 16 84 (by kernel_rfl) (by kernel_rfl)
                            have v84 : a.eval (.tmp 84) = .bool false := e84.trans r16
                            obtain ⟨r25, e93⟩ := hE 25 93 (by kernel_rfl) (by kernel_rfl)
                            have v93 : a.eval (.tmp 93) = .bool false := e93.trans r25
                            clear hE hU
                            exact wp_value_inv (w' := W) (.bool false) (op_pick rfl v84 (by simp only [Bool.false_eq_true, if_false]; exact v93)) ⟨_, rfl, hB, Fr.refl _ _, rfl, fun _ _ _ _ _ => trivial⟩
                          · simp only [List.getElem?_cons_zero, List.getElem?_cons_succ, Option.some.injEq] at ho
                            subst ho
                            intro a W vs hB hS hE hU
                            refine wpG_plain rfl ?_
                            obtain ⟨r26, e94⟩ := hE 26 94 (by kernel_rfl) (by kernel_rfl)
                            have v94 : a.eval (.tmp 94) = .bool false := e94.trans r26
                            clear hE hU
                            exact wp_value_inv (w' := W) (.bool false) (op_move rfl v94) ⟨_, rfl, hB, Fr.refl _ _, rfl, fun _ _ _ _ _ => trivial⟩
                          · simp only [List.getElem?_cons_zero, List.getElem?_cons_succ, Option.some.injEq] at ho
                            subst ho
                            intro a W vs hB hS hE hU
                            obtain ⟨r27, e95⟩ := hE 27 95 (by kernel_rfl) (by kernel_rfl)
                            have v95 : a.eval (.tmp 95) = .bool false := e95.trans r27
                            refine wpG_yes 27 false 95 rfl (by kernel_rfl) (by rw [hS]; first | simp | exact Nat.le_of_ble_eq_true rfl) v95 ?_
                            have v13 : a.eval (.tmp 13) = .slice a11 n8 c11 := (hU 13 (by kernel_rfl)).trans rfl
                            clear hE hU
                            exact wp_value_inv (w' := W) (.slice a11 n8 c11) (op_move rfl v13) ⟨_, rfl, hB, Fr.refl _ _, rfl, fun _ _ _ _ _ => trivial⟩
                          · simp only [List.getElem?_cons_zero, List.getElem?_cons_succ, Option.some.injEq] at ho
                            subst ho
                            intro a W vs hB hS hE hU
                            obtain ⟨r27, e95⟩ := hE 27 95 (by kernel_rfl) (by kernel_rfl)
                            have v95 : a.eval (.tmp 95) = .bool false := e95.trans r27
                            refine wpG_yes 27 false 95 rfl (by kernel_rfl) (by rw [hS]; first | simp | exact Nat.le_of_ble_eq_true rfl) v95 ?_
                            obtain ⟨r28, e96⟩ := hE 28 96 (by kernel_rfl) (by kernel_rfl)
                            have v96 : a.eval (.tmp 96) = .slice a11 n8 c11 := e96.trans r28
                            clear hE hU
                            exact wp_value_inv (w' := W) (.int .i64 (n8 : Nat)) (op_lenRw rfl v96) ⟨_, rfl, hB, Fr.refl _ _, rfl, fun _ _ _ _ _ => trivial⟩
                          · simp only [List.getElem?_cons_zero, List.getElem?_cons_succ, Option.some.injEq] at ho
                            subst ho
                            intro a W vs hB hS hE hU
                            obtain ⟨r27, e95⟩ := hE 27 95 (by kernel_rfl) (by kernel_rfl)
                            have v95 : a.eval (.tmp 95) = .bool false := e95.trans r27
                            refine wpG_yes 27 false 95 rfl (by kernel_rfl) (by rw [hS]; first | simp | exact Nat.le_of_ble_eq_true rfl) v95 ?_
                            have v10 : a.eval (.tmp 10) = .slice a8 n8 c8 := (hU 10 (by kernel_rfl)).trans rfl
                            clear hE hU
                            exact wp_value_inv (w' := W) (.slice a8 n8 c8) (op_move rfl v10) ⟨_, rfl, hB, Fr.refl _ _, rfl, fun _ _ _ _ _ => trivial⟩
                          · simp only [List.getElem?_cons_zero, List.getElem?_cons_succ, Option.some.injEq] at ho
                            subst ho
                            intro a W vs hB hS hE hU
                            obtain ⟨r27, e95⟩ := hE 27 95 (by kernel_rfl) (by kernel_rfl)
                            have v95 : a.eval (.tmp 95) = .bool false := e95.trans r27
                            refine wpG_yes 27 false 95 rfl (by kernel_rfl) (by rw [hS]; first | simp | exact Nat.le_of_ble_eq_true rfl) v95 ?_
                            obtain ⟨r30, e98⟩ := hE 30 98 (by kernel_rfl) (by kernel_rfl)
                            have v98 : a.eval (.tmp 98) = .slice a8 n8 c8 := e98.trans r30
                            clear hE hU
                            exact wp_value_inv (w' := W) (.int .i64 (n8 : Nat)) (op_lenRw rfl v98) ⟨_, rfl, hB, Fr.refl _ _, rfl, fun _ _ _ _ _ => trivial⟩
                          · simp only [List.getElem?_cons_zero, List.getElem?_cons_succ, Option.some.injEq] at ho
                            subst ho
                            intro a W vs hB hS hE hU
                            obtain ⟨r27, e95⟩ := hE 27 95 (by kernel_rfl) (by kernel_rfl)
                            have v95 : a.eval (.tmp 95) = .bool false := e95.trans r27
                            refine wpG_yes 27 false 95 rfl (by kernel_rfl) (by rw [hS]; first | simp | exact Nat.le_of_ble_eq_true rfl) v95 ?_
                            obtain ⟨r29, e97⟩ := hE 29 97 (by kernel_rfl) (by kernel_rfl)
                            have v97 : a.eval (.tmp 97) = .int .i64 (n8 : Nat) := e97.trans r29
                            obtain ⟨r31, e99⟩ := hE 31 99 (by kernel_rfl) (by kernel_rfl)
                            have v99 : a.eval (.tmp 99) = .int .i64 (n8 : Nat) := e99.trans r31
                            clear hE hU
                            exact wp_value_inv (w' := W) (.bool false) (op_bin rfl v97 v99 (guard_int9 W _ _ _ _ _ _ _) neq_no) ⟨_, rfl, hB, Fr.refl _ _, rfl, fun _ _ _ _ _ => trivial⟩
                          · simp only [List.getElem?_cons_zero, List.getElem?_cons_succ, Option.some.injEq] at ho
                            subst ho
                            intro a W vs hB hS hE hU
                            refine wpG_plain rfl ?_
                            obtain ⟨r27, e95⟩ := hE 27 95 (by kernel_rfl) (by kernel_rfl)
                            have v95 : a.eval (.tmp 95) = .bool false := e95.trans r27
                            obtain ⟨r32, e100⟩ := hE 32 100 (by kernel_rfl) (by kernel_rfl)
                            have v100 : a.eval (.tmp 100) = .bool false := e100.trans r32
                            clear hE hU
                            exact wp_value_inv (w' := W) (.bool false) (op_pick rfl v95 (by simp only [Bool.false_eq_true, if_false]; exact v100)) ⟨_, rfl, hB, Fr.refl _ _, rfl, fun _ _ _ _ _ => trivial⟩
                        · intro vs Wz hB0 hR0 hD
                          have r101 : vs 33 = .bool false := hR0 33 (by decide)
                          have HZ := Lib.hid hB0
                          clear hR0 hD hB0
                          simp only [acts, if_true, dstAt, List.getElem?_cons_zero, List.getElem?_cons_succ, Option.bind_some, Act.put, List.setIfInBounds_toArray, List.set_cons_succ, List.set_cons_zero, List.drop_succ_cons, List.drop_nil]
                          simp only [r101]
                          clear r101
                          go_wp2_with fail
                          go_meet
                          case rel => exact HZ
                    · as_aux_lemma =>
                        obtain rfl : n7 = n10 := by rw [HLL.out.2.2.1, HLL.out.1, hss]
                        have HEN := Lib.hid hE0
                        clear hss hU hew hE0
                        go_wp2_with fail
                        refine wp_region_inv 34 (by kernel_rfl) (by kernel_rfl) (fun W => Fr (fun _ => False) Wd W) (VmN g n7 n8 n7 n8 c7 c8 c10 c11 0 0 0 E fa fb a7 a8 a10 a11 undef undef #[] 0) (fun _ _ _ _ => True) (Fr (fun _ => False)) (VmN.ext g n7 n8 n7 n8 c7 c8 c10 c11 0 0 0 E fa fb a7 a8 a10 a11 undef undef #[] 0) (Fr.refl _ _).drew ?_ ?_
                        · intro i hi o ho
                          replace hi : i < 34 := hi
                          obtain rfl | rfl | rfl | rfl | rfl | rfl | rfl | rfl | rfl | rfl | rfl | rfl | rfl | rfl | rfl | rfl | rfl | rfl | rfl | rfl | rfl | rfl | rfl | rfl | rfl | rfl | rfl | rfl | rfl | rfl | rfl | rfl | rfl | rfl : i = 0 ∨ i = 1 ∨ i = 2 ∨ i = 3 ∨ i = 4 ∨ i = 5 ∨ i = 6 ∨ i = 7 ∨ i = 8 ∨ i = 9 ∨ i = 10 ∨ i = 11 ∨ i = 12 ∨ i = 13 ∨ i = 14 ∨ i = 15 ∨ i = 16 ∨ i = 17 ∨ i = 18 ∨ i = 19 ∨ i = 20 ∨ i = 21 ∨ i = 22 ∨ i = 23 ∨ i = 24 ∨ i = 25 ∨ i = 26 ∨ i = 27 ∨ i = 28 ∨ i = 29 ∨ i = 30 ∨ i = 31 ∨ i = 32 ∨ i = 33 := by omega
                          · simp only [List.getElem?_cons_zero, Option.some.injEq] at ho
                            subst ho
                            intro a W vs hB hS hE hU
                            refine wpG_plain rfl ?_
                            have v11 : a.eval (.tmp 11) = .int .i64 E := (hU 11 (by kernel_rfl)).trans rfl
                            clear hE hU
                            exact wp_value_inv (w' := W) (.int .i64 E) (op_move rfl v11) ⟨_, rfl, hB, Fr.refl _ _, rfl, fun _ _ _ _ _ => trivial⟩
                          · simp only [List.getElem?_cons_zero, List.getElem?_cons_succ, Option.some.injEq] at ho
                            subst ho
                            intro a W vs hB hS hE hU
                            refine wpG_plain rfl ?_
                            obtain ⟨r0, e68⟩ := hE 0 68 (by kernel_rfl) (by kernel_rfl)
                            have v68 : a.eval (.tmp 68) = .int .i64 E := e68.trans r0
                            clear hE hU
                            exact wp_value_inv (w' := W) (.bool false) (op_bin rfl v68 rfl (guard_int9 W _ _ _ _ _ _ _) (eql_no HEN.out)) ⟨_, rfl, hB, Fr.refl _ _, rfl, fun _ _ _ _ _ => trivial⟩
                          · simp only [List.getElem?_cons_zero, List.getElem?_cons_succ, Option.some.injEq] at ho
                            subst ho
                            intro a W vs hB hS hE hU
                            refine wpG_plain rfl ?_
                            obtain ⟨r1, e69⟩ := hE 1 69 (by kernel_rfl) (by kernel_rfl)
                            have v69 : a.eval (.tmp 69) = .bool false := e69.trans r1
                            clear hE hU
                            exact wp_value_inv (w' := W) (.bool false) (op_move rfl v69) ⟨_, rfl, hB, Fr.refl _ _, rfl, fun _ _ _ _ _ => trivial⟩
                          · simp only [List.getElem?_cons_zero, List.getElem?_cons_succ, Option.some.injEq] at ho
                            subst ho
                            intro a W vs hB hS hE hU
                            obtain ⟨r2, e70⟩ := hE 2 70 (by kernel_rfl) (by kernel_rfl)
                            have v70 : a.eval (.tmp 70) = .bool false := e70.trans r2
                            exact wpG_no 2 true 70 rfl (by kernel_rfl) (by rw [hS]; first | simp | exact Nat.le_of_ble_eq_true rfl) v70 ⟨_, rfl, hB, Fr.refl _ _, rfl, fun _ _ _ _ _ => trivial⟩
                          · simp only [List.getElem?_cons_zero, List.getElem?_cons_succ, Option.some.injEq] at ho
                            subst ho
                            intro a W vs hB hS hE hU
                            obtain ⟨r2, e70⟩ := hE 2 70 (by kernel_rfl) (by kernel_rfl)
                            have v70 : a.eval (.tmp 70) = .bool false := e70.trans r2
                            exact wpG_no 2 true 70 rfl (by kernel_rfl) (by rw [hS]; first | simp | exact Nat.le_of_ble_eq_true rfl) v70 ⟨_, rfl, hB, Fr.refl _ _, rfl, fun _ _ _ _ _ => trivial⟩
                          · simp only [List.getElem?_cons_zero, List.getElem?_cons_succ, Option.some.injEq] at ho
                            subst ho
                            intro a W vs hB hS hE hU
                            obtain ⟨r2, e70⟩ := hE 2 70 (by kernel_rfl) (by kernel_rfl)
                            have v70 : a.eval (.tmp 70) = .bool false := e70.trans r2
                            exact wpG_no 2 true 70 rfl (by kernel_rfl) (by rw [hS]; first | simp | exact Nat.le_of_ble_eq_true rfl) v70 ⟨_, rfl, hB, Fr.refl _ _, rfl, fun _ _ _ _ _ => trivial⟩
                          · simp only [List.getElem?_cons_zero, List.getElem?_cons_succ, Option.some.injEq] at ho
                            subst ho
                            intro a W vs hB hS hE hU
                            obtain ⟨r5, e73⟩ := hE 5 73 (by kernel_rfl) (by kernel_rfl)
                            have v73 : a.eval (.tmp 73) = undef := e73.trans r5
                            exact wpG_undef 5 false 73 rfl (by kernel_rfl) (by rw [hS]; first | simp | exact Nat.le_of_ble_eq_true rfl) v73 ⟨_, rfl, hB, Fr.refl _ _, rfl, fun _ _ _ _ _ => trivial⟩
                          · simp only [List.getElem?_cons_zero, List.getElem?_cons_succ, Option.some.injEq] at ho
                            subst ho
                            intro a W vs hB hS hE hU
                            obtain ⟨r5, e73⟩ := hE 5 73 (by kernel_rfl) (by kernel_rfl)
                            have v73 : a.eval (.tmp 73) = undef := e73.trans r5
                            exact wpG_undef 5 false 73 rfl (by kernel_rfl) (by rw [hS]; first | simp | exact Nat.le_of_ble_eq_true rfl) v73 ⟨_, rfl, hB, Fr.refl _ _, rfl, fun _ _ _ _ _ => trivial⟩
                          · simp only [List.getElem?_cons_zero, List.getElem?_cons_succ, Option.some.injEq] at ho
                            subst ho
                            intro a W vs hB hS hE hU
                            obtain ⟨r5, e73⟩ := hE 5 73 (by kernel_rfl) (by kernel_rfl)
                            have v73 : a.eval (.tmp 73) = undef := e73.trans r5
                            exact wpG_undef 5 false 73 rfl (by kernel_rfl) (by rw [hS]; first | simp | exact Nat.le_of_ble_eq_true rfl) v73 ⟨_, rfl, hB, Fr.refl _ _, rfl, fun _ _ _ _ _ => trivial⟩
                          · simp only [List.getElem?_cons_zero, List.getElem?_cons_succ, Option.some.injEq] at ho
                            subst ho
                            intro a W vs hB hS hE hU
                            obtain ⟨r5, e73⟩ := hE 5 73 (by kernel_rfl) (by kernel_rfl)
                            have v73 : a.eval (.tmp 73) = undef := e73.trans r5
                            exact wpG_undef 5 false 73 rfl (by kernel_rfl) (by rw [hS]; first | simp | exact Nat.le_of_ble_eq_true rfl) v73 ⟨_, rfl, hB, Fr.refl _ _, rfl, fun _ _ _ _ _ => trivial⟩
                          · simp only [List.getElem?_cons_zero, List.getElem?_cons_succ, Option.some.injEq] at ho
                            subst ho
                            intro a W vs hB hS hE hU
                            obtain ⟨r5, e73⟩ := hE 5 73 (by kernel_rfl) (by kernel_rfl)
                            have v73 : a.eval (.tmp 73) = undef := e73.trans r5
                            exact wpG_undef 5 false 73 rfl (by kernel_rfl) (by rw [hS]; first | simp | exact Nat.le_of_ble_eq_true rfl) v73 ⟨_, rfl, hB, Fr.refl _ _, rfl, fun _ _ _ _ _ => trivial⟩
                          · simp only [List.getElem?_cons_zero, List.getElem?_cons_succ, Option.some.injEq] at ho
                            subst ho
                            intro a W vs hB hS hE hU
                            obtain ⟨r5, e73⟩ := hE 5 73 (by kernel_rfl) (by kernel_rfl)
                            have v73 : a.eval (.tmp 73) = undef := e73.trans r5
                            exact wpG_undef 5 false 73 rfl (by kernel_rfl) (by rw [hS]; first | simp | exact Nat.le_of_ble_eq_true rfl) v73 ⟨_, rfl, hB, Fr.refl _ _, rfl, fun _ _ _ _ _ => trivial⟩
                          · simp only [List.getElem?_cons_zero, List.getElem?_cons_succ, Option.some.injEq] at ho
                            subst ho
                            intro a W vs hB hS hE hU
                            obtain ⟨r5, e73⟩ := hE 5 73 (by kernel_rfl) (by kernel_rfl)
                            have v73 : a.eval (.tmp 73) = undef := e73.trans r5
                            exact wpG_undef 5 false 73 rfl (by kernel_rfl) (by rw [hS]; first | simp | exact Nat.le_of_ble_eq_true rfl) v73 ⟨_, rfl, hB, Fr.refl _ _, rfl, fun _ _ _ _ _ => trivial⟩
                          · simp only [List.getElem?_cons_zero, List.getElem?_cons_succ, Option.some.injEq] at ho
                            subst ho
                            intro a W vs hB hS hE hU
                            obtain ⟨r5, e73⟩ := hE 5 73 (by kernel_rfl) (by kernel_rfl)
                            have v73 : a.eval (.tmp 73) = undef := e73.trans r5
                            exact wpG_undef 5 false 73 rfl (by kernel_rfl) (by rw [hS]; first | simp | exact Nat.le_of_ble_eq_true rfl) v73 ⟨_, rfl, hB, Fr.refl _ _, rfl, fun _ _ _ _ _ => trivial⟩
                          · simp only [List.getElem?_cons_zero, List.getElem?_cons_succ, Option.some.injEq] at ho
                            subst ho
                            intro a W vs hB hS hE hU
                            obtain ⟨r2, e70⟩ := hE 2 70 (by kernel_rfl) (by kernel_rfl)
                            have v70 : a.eval (.tmp 70) = .bool false := e70.trans r2
                            exact wpG_no 2 true 70 rfl (by kernel_rfl) (by rw [hS]; first | simp | exact Nat.le_of_ble_eq_true rfl) v70 ⟨_, rfl, hB, Fr.refl _ _, rfl, fun _ _ _ _ _ => trivial⟩
                          · simp only [List.getElem?_cons_zero, List.getElem?_cons_succ, Option.some.injEq] at ho
                            subst ho
                            intro a W vs hB hS hE hU
                            refine wpG_plain rfl ?_
                            obtain ⟨r2, e70⟩ := hE 2 70 (by kernel_rfl) (by kernel_rfl)
                            have v70 : a.eval (.tmp 70) = .bool false := e70.trans r2
                            clear hE hU
                            exact wp_value_inv (w' := W) (.bool false) (op_pick rfl v70 (by simp only [Bool.false_eq_true, if_false]; rfl)) ⟨_, rfl, hB, Fr.refl _ _, rfl, fun _ _ _ _ _ => trivial⟩
                          · simp only [List.getElem?_cons_zero, List.getElem?_cons_succ, Option.some.injEq] at ho
                            subst ho
                            intro a W vs hB hS hE hU
                            refine wpG_plain rfl ?_
                            obtain ⟨r15, e83⟩ := hE 15 83 (by kernel_rfl) (by kernel_rfl)
                            have v83 : a.eval (.tmp 83) = .bool false := e83.trans r15
                            clear hE hU
                            exact wp_value_inv (w' := W) (.bool false) (op_move rfl v83) ⟨_, rfl, hB, Fr.refl _ _, rfl, fun _ _ _ _ _ => trivial⟩
                          · simp only [List.getElem?_cons_zero, List.getElem?_cons_succ, Option.some.injEq] at ho
                            subst ho
                            intro a W vs hB hS hE hU
                            obtain ⟨r16, e84⟩ := hE 16 84 (by kernel_rfl) (by kernel_rfl)
                            have v84 : a.eval (.tmp 84) = .bool false := e84.trans r16
                            refine wpG_yes 16 false 84 rfl (by kernel_rfl) (by rw [hS]; first | simp | exact Nat.le_of_ble_eq_true rfl) v84 ?_
                            have v11 : a.eval (.tmp 11) = .int .i64 E := (hU 11 (by kernel_rfl)).trans rfl
                            clear hE hU
                            exact wp_value_inv (w' := W) (.int .i64 E) (op_move rfl v11) ⟨_, rfl, hB, Fr.refl _ _, rfl, fun _ _ _ _ _ => trivial⟩
                          · simp only [List.getElem?_cons_zero, List.getElem?_cons_succ, Option.some.injEq] at ho
                            subst ho
                            intro a W vs hB hS hE hU
                            obtain ⟨r16, e84⟩ := hE 16 84 (by kernel_rfl) (by kernel_rfl)
                            have v84 : a.eval (.tmp 84) = .bool false := e84.trans r16
                            refine wpG_yes 16 false 84 rfl (by kernel_rfl) (by rw [hS]; first | simp | exact Nat.le_of_ble_eq_true rfl) v84 ?_
                            obtain ⟨r17, e85⟩ := hE 17 85 (by kernel_rfl) (by kernel_rfl)
                            have v85 : a.eval (.tmp 85) = .int .i64 E := e85.trans r17
                            clear hE hU
                            exact wp_value_inv (w' := W) (.bool true) (op_bin rfl v85 rfl (guard_int9 W _ _ _ _ _ _ _) (neq_yes HEN.out)) ⟨_, rfl, hB, Fr.refl _ _, rfl, fun _ _ _ _ _ => trivial⟩
                          · simp only [List.getElem?_cons_zero, List.getElem?_cons_succ, Option.some.injEq] at ho
                            subst ho
                            intro a W vs hB hS hE hU
                            obtain ⟨r16, e84⟩ := hE 16 84 (by kernel_rfl) (by kernel_rfl)
                            have v84 : a.eval (.tmp 84) = .bool false := e84.trans r16
                            refine wpG_yes 16 false 84 rfl (by kernel_rfl) (by rw [hS]; first | simp | exact Nat.le_of_ble_eq_true rfl) v84 ?_
                            obtain ⟨r18, e86⟩ := hE 18 86 (by kernel_rfl) (by kernel_rfl)
                            have v86 : a.eval (.tmp 86) = .bool true := e86.trans r18
                            clear hE hU
                            exact wp_value_inv (w' := W) (.bool true) (op_move rfl v86) ⟨_, rfl, hB, Fr.refl _ _, rfl, fun _ _ _ _ _ => trivial⟩
                          · simp only [List.getElem?_cons_zero, List.getElem?_cons_succ, Option.some.injEq] at ho
                            subst ho
                            intro a W vs hB hS hE hU
                            obtain ⟨r19, e87⟩ := hE 19 87 (by kernel_rfl) (by kernel_rfl)
                            have v87 : a.eval (.tmp 87) = .bool true := e87.trans r19
                            refine wpG_yes 19 true 87 rfl (by kernel_rfl) (by rw [hS]; first | simp | exact Nat.le_of_ble_eq_true rfl) v87 ?_
                            have v12 : a.eval (.tmp 12) = .slice a10 n7 c10 := (hU 12 (by kernel_rfl)).trans rfl
                            clear hE hU
                            exact wp_value_inv (w' := W) (.slice a10 n7 c10) (op_move rfl v12) ⟨_, rfl, hB, Fr.refl _ _, rfl, fun _ _ _ _ _ => trivial⟩
                          · simp only [List.getElem?_cons_zero, List.getElem?_cons_succ, Option.some.injEq] at ho
                            subst ho
                            intro a W vs hB hS hE hU
                            obtain ⟨r19, e87⟩ := hE 19 87 (by kernel_rfl) (by kernel_rfl)
                            have v87 : a.eval (.tmp 87) = .bool true := e87.trans r19
                            refine wpG_yes 19 true 87 rfl (by kernel_rfl) (by rw [hS]; first | simp | exact Nat.le_of_ble_eq_true rfl) v87 ?_
                            obtain ⟨r20, e88⟩ := hE 20 88 (by kernel_rfl) (by kernel_rfl)
                            have v88 : a.eval (.tmp 88) = .slice a10 n7 c10 := e88.trans r20
                            clear hE hU
                            exact wp_value_inv (w' := W) (.int .i64 (n7 : Nat)) (op_lenRt rfl v88) ⟨_, rfl, hB, Fr.refl _ _, rfl, fun _ _ _ _ _ => trivial⟩
                          · simp only [List.getElem?_cons_zero, List.getElem?_cons_succ, Option.some.injEq] at ho
                            subst ho
                            intro a W vs hB hS hE hU
                            obtain ⟨r19, e87⟩ := hE 19 87 (by kernel_rfl) (by kernel_rfl)
                            have v87 : a.eval (.tmp 87) = .bool true := e87.trans r19
                            refine wpG_yes 19 true 87 rfl (by kernel_rfl) (by rw [hS]; first | simp | exact Nat.le_of_ble_eq_true rfl) v87 ?_
                            have v9 : a.eval (.tmp 9) = .slice a7 n7 c7 := (hU 9 (by kernel_rfl)).trans rfl
                            clear hE hU
                            exact wp_value_inv (w' := W) (.slice a7 n7 c7) (op_move rfl v9) ⟨_, rfl, hB, Fr.refl _ _, rfl, fun _ _ _ _ _ => trivial⟩
                          · simp only [List.getElem?_cons_zero, List.getElem?_cons_succ, Option.some.injEq] at ho
                            subst ho
                            intro a W vs hB hS hE hU
                            obtain ⟨r19, e87⟩ := hE 19 87 (by kernel_rfl) (by kernel_rfl)
                            have v87 : a.eval (.tmp 87) = .bool true := e87.trans r19
                            refine wpG_yes 19 true 87 rfl (by kernel_rfl) (by rw [hS]; first | simp | exact Nat.le_of_ble_eq_true rfl) v87 ?_
                            obtain ⟨r22, e90⟩ := hE 22 90 (by kernel_rfl) (by kernel_rfl)
                            have v90 : a.eval (.tmp 90) = .slice a7 n7 c7 := e90.trans r22
                            clear hE hU
                            exact wp_value_inv (w' := W) (.int .i64 (n7 : Nat)) (op_lenRt rfl v90) ⟨_, rfl, hB, Fr.refl _ _, rfl, fun _ _ _ _ _ => trivial⟩
                          · simp only [List.getElem?_cons_zero, List.getElem?_cons_succ, Option.some.injEq] at ho
                            subst ho
                            intro a W vs hB hS hE hU
                            obtain ⟨r19, e87⟩ := hE 19 87 (by kernel_rfl) (by kernel_rfl)
                            have v87 : a.eval (.tmp 87) = .bool true := e87.trans r19
                            refine wpG_yes 19 true 87 rfl (by kernel_rfl) (by rw [hS]; first | simp | exact Nat.le_of_ble_eq_true rfl) v87 ?_
                            obtain ⟨r21, e89⟩ := hE 21 89 (by kernel_rfl) (by kernel_rfl)
                            have v89 : a.eval (.tmp 89) = .int .i64 (n7 : Nat) := e89.trans r21
                            obtain ⟨r23, e91⟩ := hE 23 91 (by kernel_rfl) (by kernel_rfl)
                            have v91 : a.eval (.tmp 91) = .int .i64 (n7 : Nat) := e91.trans r23
                            clear hE hU
                            exact wp_value_inv (w' := W) (.bool false) (op_bin rfl v89 v91 (guard_int9 W _ _ _ _ _ _ _) neq_no) ⟨_, rfl, hB, Fr.refl _ _, rfl, fun _ _ _ _ _ => trivial⟩
                          · simp only [List.getElem?_cons_zero, List.getElem?_cons_succ, Option.some.injEq] at ho
                            subst ho
                            intro a W vs hB hS hE hU
                            obtain ⟨r16, e84⟩ := hE 16 84 (by kernel_rfl) (by kernel_rfl)
                            have v84 : a.eval (.tmp 84) = .bool false := e84.trans r16
                            refine wpG_yes 16 false 84 rfl (by kernel_rfl) (by rw [hS]; first | simp | exact Nat.le_of_ble_eq_true rfl) v84 ?_
                            obtain ⟨r19, e87⟩ := hE 19 87 (by kernel_rfl) (by kernel_rfl)
                            have v87 : a.eval (.tmp 87) = .bool true := e87.trans r19
                            obtain ⟨r24, e92⟩ := hE 24 92 (by kernel_rfl) (by kernel_rfl)
                            have v92 : a.eval (.tmp 92) = .bool false := e92.trans r24
                            clear hE hU
                            exact wp_value_inv (w' := W) (.bool false) (op_pick rfl v87 (by simp only [if_true]; exact v92)) ⟨_, rfl, hB, Fr.refl _ _, rfl, fun _ _ _ _ _ => trivial⟩
                          · simp only [List.getElem?_cons_zero, List.getElem?_cons_succ, Option.some.injEq] at ho
                            subst ho
                            intro a W vs hB hS hE hU
                            refine wpG_plain rfl ?_
                            obtain ⟨r16, e84⟩ := hE 16 84 (by kernel_rfl) (by kernel_rfl)
                            have v84 : a.eval (.tmp 84) = .bool false := e84.trans r16
                            obtain ⟨r25, e93⟩ := hE 25 93 (by kernel_rfl) (by kernel_rfl)
                            have v93 : a.eval (.tmp 93) = .bool false := e93.trans r25
                            clear hE hU
                            exact wp_value_inv (w' := W) (.bool false) (op_pick rfl v84 (by simp only [Bool.false_eq_true, if_false]; exact v93)) ⟨_, rfl, hB, Fr.refl _ _, rfl, fun _ _ _ _ _ => trivial⟩
                          · simp only [List.getElem?_cons_zero, List.getElem?_cons_succ, Option.some.injEq] at ho
                            subst ho
                            intro a W vs hB hS hE hU
                            refine wpG_plain rfl ?_
                            obtain ⟨r26, e94⟩ := hE 26 94 (by kernel_rfl) (by kernel_rfl)
                            have v94 : a.eval (.tmp 94) = .bool false := e94.trans r26
                            clear hE hU
                            exact wp_value_inv (w' := W) (.bool false) (op_move rfl v94) ⟨_, rfl, hB, Fr.refl _ _, rfl, fun _ _ _ _ _ => trivial⟩
                          · simp only [List.getElem?_cons_zero, List.getElem?_cons_succ, Option.some.injEq] at ho
                            subst ho
                            intro a W vs hB hS hE hU
                            obtain ⟨r27, e95⟩ := hE 27 95 (by kernel_rfl) (by kernel_rfl)
                            have v95 : a.eval (.tmp 95) = .bool false := e95.trans r27
                            refine wpG_yes 27 false 95 rfl (by kernel_rfl) (by rw [hS]; first | simp | exact Nat.le_of_ble_eq_true rfl) v95 ?_
                            have v13 : a.eval (.tmp 13) = .slice a11 n8 c11 := (hU 13 (by kernel_rfl)).trans rfl
                            clear hE hU
                            exact wp_value_inv (w' := W) (.slice a11 n8 c11) (op_move rfl v13) ⟨_, rfl, hB, Fr.refl _ _, rfl, fun _ _ _ _ _ => trivial⟩
                          · simp only [List.getElem?_cons_zero, List.getElem?_cons_succ, Option.some.injEq] at ho
                            subst ho
                            intro a W vs hB hS hE hU
                            obtain ⟨r27, e95⟩ := hE 27 95 (by kernel_rfl) (by kernel_rfl)
                            have v95 : a.eval (.tmp 95) = .bool false := e95.trans r27
                            refine wpG_yes 27 false 95 rfl (by kernel_rfl) (by rw [hS]; first | simp | exact Nat.le_of_ble_eq_true rfl) v95 ?_
                            obtain ⟨r28, e96⟩ := hE 28 96 (by kernel_rfl) (by kernel_rfl)
                            have v96 : a.eval (.tmp 96) = .slice a11 n8 c11 := e96.trans r28
                            clear hE hU
                            exact wp_value_inv (w' := W) (.int .i64 (n8 : Nat)) (op_lenRw rfl v96) ⟨_, rfl, hB, Fr.refl _ _, rfl, fun _ _ _ _ _ => trivial⟩
                          · simp only [List.getElem?_cons_zero, List.getElem?_cons_succ, Option.some.injEq] at ho
                            subst ho
                            intro a W vs hB hS hE hU
                            obtain ⟨r27, e95⟩ := hE 27 95 (by kernel_rfl) (by kernel_rfl)
                            have v95 : a.eval (.tmp 95) = .bool false := e95.trans r27
                            refine wpG_yes 27 false 95 rfl (by kernel_rfl) (by rw [hS]; first | simp | exact Nat.le_of_ble_eq_true rfl) v95 ?_
                            have v10 : a.eval (.tmp 10) = .slice a8 n8 c8 := (hU 10 (by kernel_rfl)).trans rfl
                            clear hE hU
                            exact wp_value_inv (w' := W) (.slice a8 n8 c8) (op_move rfl v10) ⟨_, rfl, hB, Fr.refl _ _, rfl, fun _ _ _ _ _ => trivial⟩
                          · simp only [List.getElem?_cons_zero, List.getElem?_cons_succ, Option.some.injEq] at ho
                            subst ho
                            intro a W vs hB hS hE hU
                            obtain ⟨r27, e95⟩ := hE 27 95 (by kernel_rfl) (by kernel_rfl)
                            have v95 : a.eval (.tmp 95) = .bool false := e95.trans r27
                            refine wpG_yes 27 false 95 rfl (by kernel_rfl) (by rw [hS]; first | simp | exact Nat.le_of_ble_eq_true rfl) v95 ?_
                            obtain ⟨r30, e98⟩ := hE 30 98 (by kernel_rfl) (by kernel_rfl)
                            have v98 : a.eval (.tmp 98) = .slice a8 n8 c8 := e98.trans r30
                            clear hE hU
                            exact wp_value_inv (w' := W) (.int .i64 (n8 : Nat)) (op_lenRw rfl v98) ⟨_, rfl, hB, Fr.refl _ _, rfl, fun _ _ _ _ _ => trivial⟩
                          · simp only [List.getElem?_cons_zero, List.getElem?_cons_succ, Option.some.injEq] at ho
                            subst ho
                            intro a W vs hB hS hE hU
                            obtain ⟨r27, e95⟩ := hE 27 95 (by kernel_rfl) (by kernel_rfl)
                            have v95 : a.eval (.tmp 95) = .bool false := e95.trans r27
                            refine wpG_yes 27 false 95 rfl (by kernel_rfl) (by rw [hS]; first | simp | exact Nat.le_of_ble_eq_true rfl) v95 ?_
                            obtain ⟨r29, e97⟩ := hE 29 97 (by kernel_rfl) (by kernel_rfl)
                            have v97 : a.eval (.tmp 97) = .int .i64 (n8 : Nat) := e97.trans r29
                            obtain ⟨r31, e99⟩ := hE 31 99 (by kernel_rfl) (by kernel_rfl)
                            have v99 : a.eval (.tmp 99) = .int .i64 (n8 : Nat) := e99.trans r31
                            clear hE hU
                            exact wp_value_inv (w' := W) (.bool false) (op_bin rfl v97 v99 (guard_int9 W _ _ _ _ _ _ _) neq_no) ⟨_, rfl, hB, Fr.refl _ _, rfl, fun _ _ _ _ _ => trivial⟩
                          · simp only [List.getElem?_cons_zero, List.getElem?_cons_succ, Option.some.injEq] at ho
                            subst ho
                            intro a W vs hB hS hE hU
                            refine wpG_plain rfl ?_
                            obtain ⟨r27, e95⟩ := hE 27 95 (by kernel_rfl) (by kernel_rfl)
                            have v95 : a.eval (.tmp 95) = .bool false := e95.trans r27
                            obtain ⟨r32, e100⟩ := hE 32 100 (by kernel_rfl) (by kernel_rfl)
                            have v100 : a.eval (.tmp 100) = .bool false := e100.trans r32
                            clear hE hU
                            exact wp_value_inv (w' := W) (.bool false) (op_pick rfl v95 (by simp only [Bool.false_eq_true, if_false]; exact v100)) ⟨_, rfl, hB, Fr.refl _ _, rfl, fun _ _ _ _ _ => trivial⟩
                        · intro vs Wz hB0 hR0 hD
                          have r101 : vs 33 = .bool false := hR0 33 (by decide)
                          have HZ := Lib.hid hB0
                          clear hR0 hD hB0
                          simp only [acts, if_true, dstAt, List.getElem?_cons_zero, List.getElem?_cons_succ, Option.bind_some, Act.put, List.setIfInBounds_toArray, List.set_cons_succ, List.set_cons_zero, List.drop_succ_cons, List.drop_nil]
                          simp only [r101]
                          clear r101
                          go_wp2_with fail
                          go_meet
                          case rel => exact HZ
            case rest =>
              as_aux_lemma =>
                have HCW := Lib.hid (HD16.out.trans hcut.out (fun _ h => h.elim))
                clear hcut
                obtain ⟨w13, hw13⟩ : ∃ w13, w13 = wc := ⟨_, rfl⟩
                subst hw13
                obtain ⟨aa, ca, b2, f2, hva, hcb, hao2, hcl2⟩ := (HNA.out.quiet HCW.out).ex
                have hl2 : (namesV (s1.R 1)).length = n10 := by rw [H10.out.2.2]; simp [namesV]
                rw [hl2] at hva hao2
                have HA2 := Lib.hid (show (0 < n10 → a10 = some ⟨b2, f2, none⟩) ∧ ∀ k (h : k < (namesV (s1.R 1)).length), w13.cell? ⟨b2, f2 + k * 22, none⟩ = some (.string (namesV (s1.R 1))[k]) from ⟨fun h => by injection hva with h1; rw [h1]; exact hao2 h, hcl2⟩)
                have HL2 := Lib.hid hl2
                have hn10 : n10 ≤ 9223372036854775807 := by omega
                clear hva hao2 hcl2 hl2 hcb
                have hnb := HNB.out
                rw [keys_names H16.out.2.2.2.2.2.2.2] at hnb
                obtain ⟨ab3, cb3, b3, f3, hva, hcb, hao2, hcl2⟩ := (hnb.quiet HCW.out).ex
                have hl2 : (namesV (s1.N 1)).length = n11 := by rw [H11.out.2.2.2.1, ← H16.out.2.2.2.2.2.2.2]; simp [namesV]
                rw [hl2] at hva hao2
                have HA3 := Lib.hid (show (0 < n11 → a11 = some ⟨b3, f3, none⟩) ∧ ∀ k (h : k < (namesV (s1.N 1)).length), w13.cell? ⟨b3, f3 + k * 2, none⟩ = some (.string (namesV (s1.N 1))[k]) from ⟨fun h => by injection hva with h1; rw [h1]; exact hao2 h, hcl2⟩)
                have HL3 := Lib.hid hl2
                have hn11 : n11 ≤ 9223372036854775807 := by omega
                clear hva hao2 hcl2 hl2 hcb hnb
                go_wp2_with fail
                go_loopw [16] (fun kv wr2 => ∃ k : Nat, 1 ≤ k ∧ k ≤ n10 + 1 ∧ kv = .int .i64 k ∧ Hid (Fr (fun _ => False) w13 wr2)) (fun kv _ => n10 + 1 - (intOf kv).toNat)
                case atStart => exact ⟨1, by omega, by omega, rfl, Lib.hid (Fr.refl _ _)⟩
                case round =>
                  obtain ⟨k, hk1, hk2, rfl, hf2⟩ := hrel
                  by_cases hkn : k < n10
                  · obtain ⟨j, hj⟩ : ∃ j, j = k - 1 := ⟨_, rfl⟩
                    obtain rfl := HA2.out.1 (by omega)
                    have hkl : k < (namesV (s1.R 1)).length := by rw [HL2.out]; exact hkn
                    have hjl : j < (namesV (s1.R 1)).length := by omega
                    have cj := hf2.out.cell (HA2.out.2 j hjl) id
                    have ck := hf2.out.cell (HA2.out.2 k hkl) id
                    obtain ⟨x, hx⟩ : ∃ x, x = (namesV (s1.R 1))[j] := ⟨_, rfl⟩
                    obtain ⟨y, hy⟩ : ∃ y, y = (namesV (s1.R 1))[k] := ⟨_, rfl⟩
                    rw [← hx] at cj
                    rw [← hy] at ck
                    have ws : IntKind.i64.wrap ((k : Int) - 1) = (j : Int) := by rw [wrap_in5 (by omega) (by omega)]; omega
                    have k64 : (k : Int) < (n10 : Int) := by omega
                    have j64 : (j : Int) < (n10 : Int) := by omega
                    have k0 : (0 : Int) ≤ (k : Int) := by omega
                    have j0 : (0 : Int) ≤ (j : Int) := by omega
                    have HXY := Lib.hid (show (namesV (s1.R 1))[j]? = some x ∧ (namesV (s1.R 1))[k]? = some y ∧ j = k - 1 from ⟨List.getElem?_eq_some_iff.2 ⟨hjl, hx.symm⟩, List.getElem?_eq_some_iff.2 ⟨hkl, hy.symm⟩, hj⟩)
                    clear hx hy hj hkl hjl
                    have hbl := names_rise (HV9.out.1.rk.ok 1).1 HXY.out.1 HXY.out.2.1 (by have := HXY.out.2.2; omega)
                    go_wp2_with fail
                    go_quiet (fail)
                    go_wp2_with fail
                    go_roundw
                    case rel => exact ⟨k + 1, by omega, by omega, by go_num, Lib.hid (hf2.out.trans ((Fr.refl (fun _ => False) wr).drewN _) (fun _ h => h.elim))⟩
                    case measure => simp [intOf]; omega
                  · have HX2 := Lib.hid hf2.out
                    have HXA := HA2.out.1
                    obtain ⟨w14, hw14⟩ : ∃ w14, w14 = wr := ⟨_, rfl⟩
                    go_wp2_with fail
                    rw [← hw14] at HX2 ⊢
                    clear hw14
                    go_loopw [17] (fun kv wr3 => ∃ k : Nat, 1 ≤ k ∧ k ≤ n11 + 1 ∧ kv = .int .i64 k ∧ Hid (Fr (fun _ => False) w14 wr3)) (fun kv _ => n11 + 1 - (intOf kv).toNat)
                    case atStart => exact ⟨1, by omega, by omega, rfl, Lib.hid (Fr.refl _ _)⟩
                    case round =>
                      obtain ⟨k, hk1, hk2, rfl, hf3⟩ := hrel
                      by_cases hkn : k < n11
                      · obtain ⟨j, hj⟩ : ∃ j, j = k - 1 := ⟨_, rfl⟩
                        obtain rfl := HA3.out.1 (by omega)
                        have hkl : k < (namesV (s1.N 1)).length := by rw [HL3.out]; exact hkn
                        have hjl : j < (namesV (s1.N 1)).length := by omega
                        have cj := (HX2.out.trans hf3.out (fun _ h => h.elim)).cell (HA3.out.2 j hjl) id
                        have ck := (HX2.out.trans hf3.out (fun _ h => h.elim)).cell (HA3.out.2 k hkl) id
                        obtain ⟨x, hx⟩ : ∃ x, x = (namesV (s1.N 1))[j] := ⟨_, rfl⟩
                        obtain ⟨y, hy⟩ : ∃ y, y = (namesV (s1.N 1))[k] := ⟨_, rfl⟩
                        rw [← hx] at cj
                        rw [← hy] at ck
                        have ws : IntKind.i64.wrap ((k : Int) - 1) = (j : Int) := by rw [wrap_in5 (by omega) (by omega)]; omega
                        have k64 : (k : Int) < (n11 : Int) := by omega
                        have j64 : (j : Int) < (n11 : Int) := by omega
                        have k0 : (0 : Int) ≤ (k : Int) := by omega
                        have j0 : (0 : Int) ≤ (j : Int) := by omega
                        have HXY := Lib.hid (show (namesV (s1.N 1))[j]? = some x ∧ (namesV (s1.N 1))[k]? = some y ∧ j = k - 1 from ⟨List.getElem?_eq_some_iff.2 ⟨hjl, hx.symm⟩, List.getElem?_eq_some_iff.2 ⟨hkl, hy.symm⟩, hj⟩)
                        clear hx hy hj hkl hjl
                        have hbl := names_rise (HV9.out.1.nk.ok 1).1 HXY.out.1 HXY.out.2.1 (by have := HXY.out.2.2; omega)
                        go_wp2_with fail
                        go_quiet (fail)
                        go_wp2_with fail
                        go_roundw
                        case rel => exact ⟨k + 1, by omega, by omega, by go_num, Lib.hid (hf3.out.trans ((Fr.refl (fun _ => False) wr).drewN _) (fun _ h => h.elim))⟩
                        case measure => simp [intOf]; omega
                      · have HX3 := Lib.hid hf3.out
                        go_wp2_with fail
                        go_roundw
                        case rel => exact ⟨i + 1, by omega, by go_num, Lib.hid (by
                          have hq : Fr (fun _ => False) w9 wr := (((H11.out.2.2.2.2.trans HCW.out (fun _ h => h.elim)).trans HX2.out (fun _ h => h.elim)).trans HX3.out (fun _ h => h.elim))
                          exact ⟨⟨newF F w8 w9, s1, HV9.out.1.quiet hq, by rw [HS1.out, doS_Q]; exact HV.out.2.2.2, fun k hk => ⟨(HV9.out.2.2 k hk).1, Nat.lt_of_lt_of_le (HV9.out.2.2 k hk).2 hq.size⟩⟩, HLI.out.new, ((HLI.out.fr.trans HDL.out.fr (fun _ h => h.elim)).trans H8.out.2.2.2.2 (fun _ h => h.elim)).trans (H9.out.2.trans hq (fun _ h => h.elim)) (fun k hk => .inr (HLI.out.new k (by rcases hk with rfl | rfl | rfl | rfl <;> simp [VA.all])))⟩)⟩
                        case measure => simp [intOf]; omega
        · obtain rfl : i = n := by omega
          go_wp2_with fail
          go_ret
          exact ⟨rfl, HW.out.2.1.trans HLI.out.fr (fun _ h => h.elim)⟩
end
end Go.Proofs.Yteockhemeneioaa
