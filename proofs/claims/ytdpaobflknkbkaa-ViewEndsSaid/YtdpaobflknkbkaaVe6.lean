/- Laid together: VPtN -/
import Derived.Test.YtdpaobflknkbkaaVe4

namespace Go.Proofs.Ytdpaobflknkbkaa
open Go.RowKit Go.ChangeShapes Go.Maps Go.WideMaps
set_option linter.unusedVariables false
theorem fld_spence_view_book___byte__0_0 (w : World) (g : Nat) : (Instr.fieldAt 121 (.pointer (some ⟨g, 0, none⟩)) 0).run Try.prog w = .ok (.pointer (some ⟨g, 0, none⟩)) w := by kernel_rfl
theorem fld_spence_view_book___byte__1_0 (w : World) (g : Nat) : (Instr.fieldAt 121 (.pointer (some ⟨g, 0, none⟩)) 1).run Try.prog w = .ok (.pointer (some ⟨g, 1, none⟩)) w := by kernel_rfl
theorem fldPtN_0_0 (w : World) (g : Nat) : (Instr.fieldAt 114 (.pointer (some ⟨g, 0, none⟩)) 0).run Try.prog w = .ok (.pointer (some ⟨g, 0, none⟩)) w := by kernel_rfl
def Put1N (bk tm mm pb xb : Nat) (who most : Int) (N : ByteArray) (L : Nat) (xv yv : Value) (b c : Bool) (i : Nat) (v : Value) (W : World) : Prop :=
  match i with
  | 0 => v = .pointer (some ⟨bk, 0, none⟩)
  | 1 => v = .pointer (some ⟨bk, 0, none⟩)
  | 2 => v = .pointer (some ⟨bk, 0, none⟩)
  | 3 => v = .map (some tm)
  | 4 => v = .agg #[.int .i64 who, .string N]
  | 5 => v = .tuple #[xv, .bool b]
  | 6 => v = .tuple #[xv, .bool b]
  | 7 => v = xv
  | 8 => v = .bool b
  | 9 => v = xv
  | 10 => v = .bool b
  | _ => True
theorem Put1N.ext (bk tm mm pb xb : Nat) (who most : Int) (N : ByteArray) (L : Nat) (xv yv : Value) (b c : Bool) : ∀ (j : Nat) (u : Value) (W W' : World), Fr (fun _ => False) W W' → Put1N bk tm mm pb xb who most N L xv yv b c j u W → Put1N bk tm mm pb xb who most N L xv yv b c j u W'
  | 0, u, W, W', hf, h => h
  | 1, u, W, W', hf, h => h
  | 2, u, W, W', hf, h => h
  | 3, u, W, W', hf, h => h
  | 4, u, W, W', hf, h => h
  | 5, u, W, W', hf, h => h
  | 6, u, W, W', hf, h => h
  | 7, u, W, W', hf, h => h
  | 8, u, W, W', hf, h => h
  | 9, u, W, W', hf, h => h
  | 10, u, W, W', hf, h => h
  | _ + 11, u, W, W', hf, h => trivial
def Put3N (bk tm mm pb xb : Nat) (who most : Int) (N : ByteArray) (L : Nat) (xv yv : Value) (b c : Bool) (i : Nat) (v : Value) (W : World) : Prop :=
  match i with
  | 0 => v = .pointer (some ⟨bk, 0, none⟩)
  | 1 => v = .pointer (some ⟨bk, 0, none⟩)
  | 2 => v = .pointer (some ⟨bk, 1, none⟩)
  | 3 => v = .map (some mm)
  | 4 => v = .pointer (some ⟨pb, 0, none⟩)
  | 5 => v = .int .i64 who
  | 6 => v = .int .i64 (L : Nat)
  | 7 => v = .int .i64 most
  | 8 => v = .bool c
  | _ => True
theorem Put3N.ext (bk tm mm pb xb : Nat) (who most : Int) (N : ByteArray) (L : Nat) (xv yv : Value) (b c : Bool) : ∀ (j : Nat) (u : Value) (W W' : World), Fr (fun _ => False) W W' → Put3N bk tm mm pb xb who most N L xv yv b c j u W → Put3N bk tm mm pb xb who most N L xv yv b c j u W'
  | 0, u, W, W', hf, h => h
  | 1, u, W, W', hf, h => h
  | 2, u, W, W', hf, h => h
  | 3, u, W, W', hf, h => h
  | 4, u, W, W', hf, h => h
  | 5, u, W, W', hf, h => h
  | 6, u, W, W', hf, h => h
  | 7, u, W, W', hf, h => h
  | 8, u, W, W', hf, h => h
  | _ + 9, u, W, W', hf, h => trivial
def Put5N (bk tm mm pb xb : Nat) (who most : Int) (N : ByteArray) (L : Nat) (xv yv : Value) (b c : Bool) (i : Nat) (v : Value) (W : World) : Prop :=
  match i with
  | 0 => v = .pointer (some ⟨bk, 0, none⟩)
  | 1 => v = .pointer (some ⟨bk, 0, none⟩)
  | 2 => v = .pointer (some ⟨bk, 1, none⟩)
  | 3 => v = .map (some mm)
  | 4 => v = .pointer (some ⟨pb, 0, none⟩)
  | 5 => v = .int .i64 who
  | 6 => v = .int .i64 (L : Nat)
  | 7 => v = .int .i64 (L + 1 : Nat)
  | _ => True
theorem Put5N.ext (bk tm mm pb xb : Nat) (who most : Int) (N : ByteArray) (L : Nat) (xv yv : Value) (b c : Bool) : ∀ (j : Nat) (u : Value) (W W' : World), Fr (fun _ => False) W W' → Put5N bk tm mm pb xb who most N L xv yv b c j u W → Put5N bk tm mm pb xb who most N L xv yv b c j u W'
  | 0, u, W, W', hf, h => h
  | 1, u, W, W', hf, h => h
  | 2, u, W, W', hf, h => h
  | 3, u, W, W', hf, h => h
  | 4, u, W, W', hf, h => h
  | 5, u, W, W', hf, h => h
  | 6, u, W, W', hf, h => h
  | 7, u, W, W', hf, h => h
  | _ + 8, u, W, W', hf, h => trivial
def Put6N (bk tm mm pb xb : Nat) (who most : Int) (N : ByteArray) (L : Nat) (xv yv : Value) (b c : Bool) (i : Nat) (v : Value) (W : World) : Prop :=
  match i with
  | 0 => v = .pointer (some ⟨bk, 0, none⟩)
  | 1 => v = .pointer (some ⟨bk, 0, none⟩)
  | 2 => v = .pointer (some ⟨bk, 0, none⟩)
  | 3 => v = .map (some tm)
  | 4 => v = .agg #[.int .i64 who, .string N]
  | 5 => v = yv
  | _ => True
theorem Put6N.ext (bk tm mm pb xb : Nat) (who most : Int) (N : ByteArray) (L : Nat) (xv yv : Value) (b c : Bool) : ∀ (j : Nat) (u : Value) (W W' : World), Fr (fun _ => False) W W' → Put6N bk tm mm pb xb who most N L xv yv b c j u W → Put6N bk tm mm pb xb who most N L xv yv b c j u W'
  | 0, u, W, W', hf, h => h
  | 1, u, W, W', hf, h => h
  | 2, u, W, W', hf, h => h
  | 3, u, W, W', hf, h => h
  | 4, u, W, W', hf, h => h
  | 5, u, W, W', hf, h => h
  | _ + 6, u, W, W', hf, h => trivial
def Tk1N (bk tm mm pb xb : Nat) (who most : Int) (N : ByteArray) (L : Nat) (xv yv : Value) (b c : Bool) (i : Nat) (v : Value) (W : World) : Prop :=
  match i with
  | 0 => v = .pointer (some ⟨bk, 0, none⟩)
  | 1 => v = .pointer (some ⟨bk, 0, none⟩)
  | 2 => v = .pointer (some ⟨bk, 0, none⟩)
  | 3 => v = .map (some tm)
  | 4 => v = .agg #[.int .i64 who, .string N]
  | 5 => v = .tuple #[xv, .bool b]
  | 6 => v = .tuple #[xv, .bool b]
  | 7 => v = xv
  | 8 => v = .bool b
  | 9 => v = xv
  | 10 => v = .bool b
  | _ => True
theorem Tk1N.ext (bk tm mm pb xb : Nat) (who most : Int) (N : ByteArray) (L : Nat) (xv yv : Value) (b c : Bool) : ∀ (j : Nat) (u : Value) (W W' : World), Fr (fun _ => False) W W' → Tk1N bk tm mm pb xb who most N L xv yv b c j u W → Tk1N bk tm mm pb xb who most N L xv yv b c j u W'
  | 0, u, W, W', hf, h => h
  | 1, u, W, W', hf, h => h
  | 2, u, W, W', hf, h => h
  | 3, u, W, W', hf, h => h
  | 4, u, W, W', hf, h => h
  | 5, u, W, W', hf, h => h
  | 6, u, W, W', hf, h => h
  | 7, u, W, W', hf, h => h
  | 8, u, W, W', hf, h => h
  | 9, u, W, W', hf, h => h
  | 10, u, W, W', hf, h => h
  | _ + 11, u, W, W', hf, h => trivial
def Tk4N (bk tm mm pb xb : Nat) (who most : Int) (N : ByteArray) (L : Nat) (xv yv : Value) (b c : Bool) (i : Nat) (v : Value) (W : World) : Prop :=
  match i with
  | 0 => v = .pointer (some ⟨bk, 0, none⟩)
  | 1 => v = .pointer (some ⟨bk, 0, none⟩)
  | 2 => v = .pointer (some ⟨bk, 0, none⟩)
  | 3 => v = .map (some tm)
  | 4 => v = .agg #[.int .i64 who, .string N]
  | _ => True
theorem Tk4N.ext (bk tm mm pb xb : Nat) (who most : Int) (N : ByteArray) (L : Nat) (xv yv : Value) (b c : Bool) : ∀ (j : Nat) (u : Value) (W W' : World), Fr (fun _ => False) W W' → Tk4N bk tm mm pb xb who most N L xv yv b c j u W → Tk4N bk tm mm pb xb who most N L xv yv b c j u W'
  | 0, u, W, W', hf, h => h
  | 1, u, W, W', hf, h => h
  | 2, u, W, W', hf, h => h
  | 3, u, W, W', hf, h => h
  | 4, u, W, W', hf, h => h
  | _ + 5, u, W, W', hf, h => trivial
def Tk5N (bk tm mm pb xb : Nat) (who most : Int) (N : ByteArray) (L : Nat) (xv yv : Value) (b c : Bool) (i : Nat) (v : Value) (W : World) : Prop :=
  match i with
  | 0 => v = .pointer (some ⟨bk, 0, none⟩)
  | 1 => v = .pointer (some ⟨bk, 0, none⟩)
  | 2 => v = .pointer (some ⟨bk, 1, none⟩)
  | 3 => v = .map (some mm)
  | 4 => v = .pointer (some ⟨pb, 0, none⟩)
  | 5 => v = .int .i64 who
  | 6 => v = .int .i64 (L : Nat)
  | 7 => v = .int .i64 (L - 1 : Nat)
  | _ => True
theorem Tk5N.ext (bk tm mm pb xb : Nat) (who most : Int) (N : ByteArray) (L : Nat) (xv yv : Value) (b c : Bool) : ∀ (j : Nat) (u : Value) (W W' : World), Fr (fun _ => False) W W' → Tk5N bk tm mm pb xb who most N L xv yv b c j u W → Tk5N bk tm mm pb xb who most N L xv yv b c j u W'
  | 0, u, W, W', hf, h => h
  | 1, u, W, W', hf, h => h
  | 2, u, W, W', hf, h => h
  | 3, u, W, W', hf, h => h
  | 4, u, W, W', hf, h => h
  | 5, u, W, W', hf, h => h
  | 6, u, W, W', hf, h => h
  | 7, u, W, W', hf, h => h
  | _ + 8, u, W, W', hf, h => trivial
theorem ldTN {F : Nat → Prop} {w : World} {bk tm mm n : Nat} {B : Int → VT Bs} (h : BkAt kN 121 F w bk tm mm n B) : ∀ W, Fr (fun _ => False) w W → (Instr.loadAt 119 (.pointer (some ⟨bk, 0, none⟩))).run Try.prog W = .ok (.map (some tm)) W := fun W hf => load_one5 W 119 ⟨bk, 0, none⟩ _ (by kernel_rfl) (hf.cell h.cells.1 id)
theorem ldMN {F : Nat → Prop} {w : World} {bk tm mm n : Nat} {B : Int → VT Bs} (h : BkAt kN 121 F w bk tm mm n B) : ∀ W, Fr (fun _ => False) w W → (Instr.loadAt 116 (.pointer (some ⟨bk, 1, none⟩))).run Try.prog W = .ok (.map (some mm)) W := fun W hf => load_one5 W 116 ⟨bk, 1, none⟩ _ (by kernel_rfl) (hf.cell h.cells.2 id)
theorem lookN {F : Nat → Prop} {w : World} {bk tm mm n : Nat} {B : Int → VT Bs} (h : BkAt kN 121 F w bk tm mm n B) (i : Int) (hi : Wf i) (N : ByteArray) (hN : N.size ≤ maxLen) :
    ∃ v, (∀ W, Fr (fun _ => False) w W → (Instr.lookup 119 (.map (some tm)) (.agg #[.int .i64 i, .string N]) true).run Try.prog W = .ok (.tuple #[v, .bool (vGet (B i) N.data.toList).isSome]) W) ∧ (∀ x, vGet (B i) N.data.toList = some x → kN.vi F w v x) ∧ (vGet (B i) N.data.toList = none → v = (.slice none 0 0)) := by
  have hz : ∀ W : World, (zeroValue 44).run Try.prog W = .ok (.slice none 0 0) W := fun W => by kernel_rfl
  obtain ⟨v, h1, _, h3, h4⟩ := ThAt.look' Try.underlying119 (hz w) h.th i hi N hN
  refine ⟨v, fun W hf => ?_, h3, h4⟩
  obtain ⟨D, g1, g2, g3⟩ := h.th
  have q1 := World.ownsMap.look_ok g1 lawPl (t := 119) (e := 44) Try.underlying119 (hz w) (zd := .held (.slice none 0 0)) (zp := []) rfl (keyP_of i N hi hN)
  have q2 := World.ownsMap.look_ok (ownsMap_kept9 g1 hf id) lawPl (t := 119) (e := 44) Try.underlying119 (hz W) (zd := .held (.slice none 0 0)) (zp := []) rfl (keyP_of i N hi hN)
  obtain ⟨v1, p1, r1, e1⟩ := q1
  obtain ⟨v2, p2, r2, e2⟩ := q2
  have a1 : v2 = v1 := by
    simp only [heldR9, Option.some.injEq, Prod.mk.injEq] at e1 e2
    have c := e2.1.trans e1.1.symm
    injection c
  have r1' : (Instr.lookup 119 (.map (some tm)) (.agg (plC i N)) true).run Try.prog w = .ok (.tuple #[v1, .bool (Maps.has D (keyP i N.data.toList))]) w := r1
  rw [h1] at r1'
  simp only [Result.ok.injEq, Value.tuple.injEq, and_true] at r1'
  have e := congrArg (fun a : Array Value => (a[0]?, a[1]?)) r1'
  simp at e
  have r2' : (Instr.lookup 119 (.map (some tm)) (.agg #[.int .i64 i, .string N]) true).run Try.prog W = .ok (.tuple #[v2, .bool (Maps.has D (keyP i N.data.toList))]) W := r2
  rw [r2', a1, ← e.1, ← e.2]
theorem lookMN {F : Nat → Prop} {w : World} {bk tm mm n : Nat} {B : Int → VT Bs} (h : BkAt kN 121 F w bk tm mm n B) (i : Int) (hi : Wf i) : ∀ W, Fr (fun _ => False) w W → (Instr.lookup 116 (.map (some mm)) (.int .i64 i) false).run Try.prog W = .ok (.int .i64 ((B i).length : Nat)) W := fun W hf => (h.mn.keep hf id).look i hi
set_option maxRecDepth 100000 in
set_option maxHeartbeats 2000000 in
theorem putN_full {F : Nat → Prop} {bk tm mm n : Nat} {B : Int → VT Bs} (w : World) (h : BkAt kN 121 F w bk tm mm n B) (hn : n ≤ 100000) (who : Int) (hw : Wf who) (N : ByteArray) (hN : N.size ≤ 64) (yv : Value) (x : Bs) (hx : BytesIn F w yv x) (hxl : x.length ≤ 2048) (most : Int) (hg : vGet (B who) N.data.toList = none) (hm : most ≤ ((B who).length : Int)) :
    Calls Try.prog 68 #[.pointer (some ⟨bk, 0, none⟩), .agg #[.int .i64 who, .string N], yv, .int .i64 most] w fun e w' => e = .returned (.int .i64 8) ∧ Fr (fun _ => False) w w' := by
  obtain ⟨W1, hW1⟩ : ∃ W1, W1 = w.alloc (.cells #[.int .i64 who, .string N] 114) := ⟨_, rfl⟩
  have hf1 : Fr (fun _ => False) w W1 := by rw [hW1]; exact (Fr.refl _ _).alloc _
  have hP1 : W1.heap[w.heap.size]? = some (.cells #[.int .i64 who, .string N] 114 (0, 0)) := by rw [hW1]; exact heap_alloc_new w _
  have h1 := h.quiet hf1
  obtain ⟨xv, hl1, hl2, hl3⟩ := lookN h1 who hw N (by unfold maxLen; omega)
  obtain ⟨L, hL⟩ : ∃ L, L = (B who).length := ⟨_, rfl⟩
  have hLn : L ≤ 100000 := by rw [hL]; have := (h.ok who).2.1; omega
  rw [hg] at hl1
  have HX := Lib.hid (And.intro hx hxl)
  have HH := Lib.hid h
  have HW := Lib.hid (And.intro hW1 (And.intro hf1 hP1))
  have HL := Lib.hid (And.intro hL hLn)
  have HG := Lib.hid (And.intro hg (And.intro hn (And.intro hN hw)))
  have G := Lib.hid (show decide (most ≤ (L : Int)) = true by rw [hL]; simp; omega)
  have LDT := Lib.hid (ldTN h1)
  have LDP := Lib.hid (ldP hP1)
  have LK := Lib.hid hl1
  clear hx hxl
  clear h hW1 hf1 hP1 h1 hl1 hl2 hl3 hL hLn hg hn hN hw
  go_enter Try.func68, Try.ntmps68
  go_wp2_with fail
  rw [← HW.out.1]
  refine wp_region_inv 11 (by kernel_rfl) (by kernel_rfl) (fun W => Fr (fun _ => False) W1 W) (Put1N bk tm mm (w.heap.size) (w.heap.size + 1) who most N L xv yv false true) (fun _ _ _ _ => True) (Fr (fun _ => False)) (Put1N.ext bk tm mm (w.heap.size) (w.heap.size + 1) who most N L xv yv false true) (Fr.refl _ _).drew ?_ ?_
  · intro i hi o ho
    replace hi : i < 11 := hi
    obtain rfl | rfl | rfl | rfl | rfl | rfl | rfl | rfl | rfl | rfl | rfl : i = 0 ∨ i = 1 ∨ i = 2 ∨ i = 3 ∨ i = 4 ∨ i = 5 ∨ i = 6 ∨ i = 7 ∨ i = 8 ∨ i = 9 ∨ i = 10 := by omega
    · simp only [List.getElem?_cons_zero, Option.some.injEq] at ho
      subst ho
      intro a W vs hB hS hE hU
      refine wpG_plain rfl ?_
      have v0 : a.eval (.tmp 0) = .pointer (some ⟨bk, 0, none⟩) := (hU 0 (by kernel_rfl)).trans rfl
      clear hE hU
      exact wp_value_inv (w' := W) (.pointer (some ⟨bk, 0, none⟩)) (op_move rfl v0) ⟨_, rfl, hB, Fr.refl _ _, rfl, fun _ _ _ _ _ => trivial⟩
    · simp only [List.getElem?_cons_zero, List.getElem?_cons_succ, Option.some.injEq] at ho
      subst ho
      intro a W vs hB hS hE hU
      refine wpG_plain rfl ?_
      obtain ⟨r0, e12⟩ := hE 0 12 (by kernel_rfl) (by kernel_rfl)
      have v12 : a.eval (.tmp 12) = .pointer (some ⟨bk, 0, none⟩) := e12.trans r0
      clear hE hU
      exact wp_value_inv (w' := W) (.pointer (some ⟨bk, 0, none⟩)) (op_nilCheck rfl v12) ⟨_, rfl, hB, Fr.refl _ _, rfl, fun _ _ _ _ _ => trivial⟩
    · simp only [List.getElem?_cons_zero, List.getElem?_cons_succ, Option.some.injEq] at ho
      subst ho
      intro a W vs hB hS hE hU
      refine wpG_plain rfl ?_
      obtain ⟨r1, e13⟩ := hE 1 13 (by kernel_rfl) (by kernel_rfl)
      have v13 : a.eval (.tmp 13) = .pointer (some ⟨bk, 0, none⟩) := e13.trans r1
      clear hE hU
      exact wp_value_inv (w' := W) (.pointer (some ⟨bk, 0, none⟩)) (op_fieldAddr rfl v13 (fld_spence_view_book___byte__0_0 W bk)) ⟨_, rfl, hB, Fr.refl _ _, rfl, fun _ _ _ _ _ => trivial⟩
    · simp only [List.getElem?_cons_zero, List.getElem?_cons_succ, Option.some.injEq] at ho
      subst ho
      intro a W vs hB hS hE hU
      refine wpG_plain rfl ?_
      obtain ⟨r2, e14⟩ := hE 2 14 (by kernel_rfl) (by kernel_rfl)
      have v14 : a.eval (.tmp 14) = .pointer (some ⟨bk, 0, none⟩) := e14.trans r2
      clear hE hU
      exact wp_value_inv (w' := W) (.map (some tm)) (op_loadAt rfl v14 (LDT.out W hB)) ⟨_, rfl, hB, Fr.refl _ _, rfl, fun _ _ _ _ _ => trivial⟩
    · simp only [List.getElem?_cons_zero, List.getElem?_cons_succ, Option.some.injEq] at ho
      subst ho
      intro a W vs hB hS hE hU
      refine wpG_plain rfl ?_
      have v5 : a.eval (.tmp 5) = .pointer (some ⟨(w.heap.size), 0, none⟩) := (hU 5 (by kernel_rfl)).trans rfl
      clear hE hU
      exact wp_value_inv (w' := W) (.agg #[.int .i64 who, .string N]) (op_loadAt rfl v5 (LDP.out W hB)) ⟨_, rfl, hB, Fr.refl _ _, rfl, fun _ _ _ _ _ => trivial⟩
    · simp only [List.getElem?_cons_zero, List.getElem?_cons_succ, Option.some.injEq] at ho
      subst ho
      intro a W vs hB hS hE hU
      refine wpG_plain rfl ?_
      obtain ⟨r3, e15⟩ := hE 3 15 (by kernel_rfl) (by kernel_rfl)
      have v15 : a.eval (.tmp 15) = .map (some tm) := e15.trans r3
      obtain ⟨r4, e16⟩ := hE 4 16 (by kernel_rfl) (by kernel_rfl)
      have v16 : a.eval (.tmp 16) = .agg #[.int .i64 who, .string N] := e16.trans r4
      clear hE hU
      exact wp_value_inv (w' := W) (.tuple #[xv, .bool false]) (op_lookup rfl v15 v16 (LK.out W hB)) ⟨_, rfl, hB, Fr.refl _ _, rfl, fun _ _ _ _ _ => trivial⟩
    · simp only [List.getElem?_cons_zero, List.getElem?_cons_succ, Option.some.injEq] at ho
      subst ho
      intro a W vs hB hS hE hU
      refine wpG_plain rfl ?_
      obtain ⟨r5, e17⟩ := hE 5 17 (by kernel_rfl) (by kernel_rfl)
      have v17 : a.eval (.tmp 17) = .tuple #[xv, .bool false] := e17.trans r5
      clear hE hU
      exact wp_value_inv (w' := W) (.tuple #[xv, .bool false]) (op_move rfl v17) ⟨_, rfl, hB, Fr.refl _ _, rfl, fun _ _ _ _ _ => trivial⟩
    · simp only [List.getElem?_cons_zero, List.getElem?_cons_succ, Option.some.injEq] at ho
      subst ho
      intro a W vs hB hS hE hU
      refine wpG_plain rfl ?_
      obtain ⟨r6, e11⟩ := hE 6 11 (by kernel_rfl) (by kernel_rfl)
      have v11 : a.eval (.tmp 11) = .tuple #[xv, .bool false] := e11.trans r6
      clear hE hU
      exact wp_value_inv (w' := W) (xv) (op_extract5 rfl v11 rfl) ⟨_, rfl, hB, Fr.refl _ _, rfl, fun _ _ _ _ _ => trivial⟩
    · simp only [List.getElem?_cons_zero, List.getElem?_cons_succ, Option.some.injEq] at ho
      subst ho
      intro a W vs hB hS hE hU
      refine wpG_plain rfl ?_
      obtain ⟨r6, e11⟩ := hE 6 11 (by kernel_rfl) (by kernel_rfl)
      have v11 : a.eval (.tmp 11) = .tuple #[xv, .bool false] := e11.trans r6
      clear hE hU
      exact wp_value_inv (w' := W) (.bool false) (op_extract5 rfl v11 rfl) ⟨_, rfl, hB, Fr.refl _ _, rfl, fun _ _ _ _ _ => trivial⟩
    · simp only [List.getElem?_cons_zero, List.getElem?_cons_succ, Option.some.injEq] at ho
      subst ho
      intro a W vs hB hS hE hU
      refine wpG_plain rfl ?_
      obtain ⟨r7, e18⟩ := hE 7 18 (by kernel_rfl) (by kernel_rfl)
      have v18 : a.eval (.tmp 18) = xv := e18.trans r7
      clear hE hU
      exact wp_value_inv (w' := W) (xv) (op_assign rfl v18) ⟨_, rfl, hB, Fr.refl _ _, rfl, fun _ _ _ _ _ => trivial⟩
    · simp only [List.getElem?_cons_zero, List.getElem?_cons_succ, Option.some.injEq] at ho
      subst ho
      intro a W vs hB hS hE hU
      refine wpG_plain rfl ?_
      obtain ⟨r8, e19⟩ := hE 8 19 (by kernel_rfl) (by kernel_rfl)
      have v19 : a.eval (.tmp 19) = .bool false := e19.trans r8
      clear hE hU
      exact wp_value_inv (w' := W) (.bool false) (op_assign rfl v19) ⟨_, rfl, hB, Fr.refl _ _, rfl, fun _ _ _ _ _ => trivial⟩
  · intro vs Wa hB0 hR0 hD
    have r10 : vs 10 = .bool false := hR0 10 (by decide)
    have HA := Lib.hid hB0
    clear hR0 hD hB0
    simp only [acts, if_true, dstAt, List.getElem?_cons_zero, List.getElem?_cons_succ, Option.bind_some, Act.put, List.setIfInBounds_toArray, List.set_cons_succ, List.set_cons_zero, List.drop_succ_cons, List.drop_nil]
    simp only [r10]
    clear r10
    obtain ⟨Wb, hWb⟩ : ∃ Wb, Wb = Wa := ⟨_, rfl⟩
    rw [← hWb]
    have hfb : Fr (fun _ => False) W1 Wb := by rw [hWb]; exact HA.out
    have hwb := HW.out.2.1.trans hfb (fun _ h => h.elim)
    have hPb := hfb.heap HW.out.2.2 id
    have hkb := HH.out.quiet hwb
    have LDM := Lib.hid (ldMN hkb)
    have LDW := Lib.hid (ldW hPb)
    have LKM := Lib.hid (lookMN hkb who HG.out.2.2.2)
    rw [← HL.out.1] at LKM
    have HB := Lib.hid (And.intro hwb (And.intro hPb (And.intro hkb True.intro)))
    clear hWb
    clear hfb hwb hPb hkb
    go_wp2_with fail
    refine wp_region_inv 9 (by kernel_rfl) (by kernel_rfl) (fun W => Fr (fun _ => False) Wb W) (Put3N bk tm mm (w.heap.size) (w.heap.size + 1) who most N L xv yv false true) (fun _ _ _ _ => True) (Fr (fun _ => False)) (Put3N.ext bk tm mm (w.heap.size) (w.heap.size + 1) who most N L xv yv false true) (Fr.refl _ _).drew ?_ ?_
    · intro i hi o ho
      replace hi : i < 9 := hi
      obtain rfl | rfl | rfl | rfl | rfl | rfl | rfl | rfl | rfl : i = 0 ∨ i = 1 ∨ i = 2 ∨ i = 3 ∨ i = 4 ∨ i = 5 ∨ i = 6 ∨ i = 7 ∨ i = 8 := by omega
      · simp only [List.getElem?_cons_zero, Option.some.injEq] at ho
        subst ho
        intro a W vs hB hS hE hU
        refine wpG_plain rfl ?_
        have v0 : a.eval (.tmp 0) = .pointer (some ⟨bk, 0, none⟩) := (hU 0 (by kernel_rfl)).trans rfl
        clear hE hU
        exact wp_value_inv (w' := W) (.pointer (some ⟨bk, 0, none⟩)) (op_move rfl v0) ⟨_, rfl, hB, Fr.refl _ _, rfl, fun _ _ _ _ _ => trivial⟩
      · simp only [List.getElem?_cons_zero, List.getElem?_cons_succ, Option.some.injEq] at ho
        subst ho
        intro a W vs hB hS hE hU
        refine wpG_plain rfl ?_
        obtain ⟨r0, e22⟩ := hE 0 22 (by kernel_rfl) (by kernel_rfl)
        have v22 : a.eval (.tmp 22) = .pointer (some ⟨bk, 0, none⟩) := e22.trans r0
        clear hE hU
        exact wp_value_inv (w' := W) (.pointer (some ⟨bk, 0, none⟩)) (op_nilCheck rfl v22) ⟨_, rfl, hB, Fr.refl _ _, rfl, fun _ _ _ _ _ => trivial⟩
      · simp only [List.getElem?_cons_zero, List.getElem?_cons_succ, Option.some.injEq] at ho
        subst ho
        intro a W vs hB hS hE hU
        refine wpG_plain rfl ?_
        obtain ⟨r1, e23⟩ := hE 1 23 (by kernel_rfl) (by kernel_rfl)
        have v23 : a.eval (.tmp 23) = .pointer (some ⟨bk, 0, none⟩) := e23.trans r1
        clear hE hU
        exact wp_value_inv (w' := W) (.pointer (some ⟨bk, 1, none⟩)) (op_fieldAddr rfl v23 (fld_spence_view_book___byte__1_0 W bk)) ⟨_, rfl, hB, Fr.refl _ _, rfl, fun _ _ _ _ _ => trivial⟩
      · simp only [List.getElem?_cons_zero, List.getElem?_cons_succ, Option.some.injEq] at ho
        subst ho
        intro a W vs hB hS hE hU
        refine wpG_plain rfl ?_
        obtain ⟨r2, e24⟩ := hE 2 24 (by kernel_rfl) (by kernel_rfl)
        have v24 : a.eval (.tmp 24) = .pointer (some ⟨bk, 1, none⟩) := e24.trans r2
        clear hE hU
        exact wp_value_inv (w' := W) (.map (some mm)) (op_loadAt rfl v24 (LDM.out W hB)) ⟨_, rfl, hB, Fr.refl _ _, rfl, fun _ _ _ _ _ => trivial⟩
      · simp only [List.getElem?_cons_zero, List.getElem?_cons_succ, Option.some.injEq] at ho
        subst ho
        intro a W vs hB hS hE hU
        refine wpG_plain rfl ?_
        have v5 : a.eval (.tmp 5) = .pointer (some ⟨(w.heap.size), 0, none⟩) := (hU 5 (by kernel_rfl)).trans rfl
        clear hE hU
        exact wp_value_inv (w' := W) (.pointer (some ⟨(w.heap.size), 0, none⟩)) (op_fieldAddr rfl v5 (fldPtN_0_0 W (w.heap.size))) ⟨_, rfl, hB, Fr.refl _ _, rfl, fun _ _ _ _ _ => trivial⟩
      · simp only [List.getElem?_cons_zero, List.getElem?_cons_succ, Option.some.injEq] at ho
        subst ho
        intro a W vs hB hS hE hU
        refine wpG_plain rfl ?_
        obtain ⟨r4, e26⟩ := hE 4 26 (by kernel_rfl) (by kernel_rfl)
        have v26 : a.eval (.tmp 26) = .pointer (some ⟨(w.heap.size), 0, none⟩) := e26.trans r4
        clear hE hU
        exact wp_value_inv (w' := W) (.int .i64 who) (op_loadAt rfl v26 (LDW.out W hB)) ⟨_, rfl, hB, Fr.refl _ _, rfl, fun _ _ _ _ _ => trivial⟩
      · simp only [List.getElem?_cons_zero, List.getElem?_cons_succ, Option.some.injEq] at ho
        subst ho
        intro a W vs hB hS hE hU
        refine wpG_plain rfl ?_
        obtain ⟨r3, e25⟩ := hE 3 25 (by kernel_rfl) (by kernel_rfl)
        have v25 : a.eval (.tmp 25) = .map (some mm) := e25.trans r3
        obtain ⟨r5, e27⟩ := hE 5 27 (by kernel_rfl) (by kernel_rfl)
        have v27 : a.eval (.tmp 27) = .int .i64 who := e27.trans r5
        clear hE hU
        exact wp_value_inv (w' := W) (.int .i64 (L : Nat)) (op_lookup rfl v25 v27 (LKM.out W hB)) ⟨_, rfl, hB, Fr.refl _ _, rfl, fun _ _ _ _ _ => trivial⟩
      · simp only [List.getElem?_cons_zero, List.getElem?_cons_succ, Option.some.injEq] at ho
        subst ho
        intro a W vs hB hS hE hU
        refine wpG_plain rfl ?_
        have v3 : a.eval (.tmp 3) = .int .i64 most := (hU 3 (by kernel_rfl)).trans rfl
        clear hE hU
        exact wp_value_inv (w' := W) (.int .i64 most) (op_move rfl v3) ⟨_, rfl, hB, Fr.refl _ _, rfl, fun _ _ _ _ _ => trivial⟩
      · simp only [List.getElem?_cons_zero, List.getElem?_cons_succ, Option.some.injEq] at ho
        subst ho
        intro a W vs hB hS hE hU
        refine wpG_plain rfl ?_
        obtain ⟨r6, e28⟩ := hE 6 28 (by kernel_rfl) (by kernel_rfl)
        have v28 : a.eval (.tmp 28) = .int .i64 (L : Nat) := e28.trans r6
        obtain ⟨r7, e29⟩ := hE 7 29 (by kernel_rfl) (by kernel_rfl)
        have v29 : a.eval (.tmp 29) = .int .i64 most := e29.trans r7
        clear hE hU
        exact wp_value_inv (w' := W) (.bool true) (op_bin rfl v28 v29 (rfl) (geq9 G.out)) ⟨_, rfl, hB, Fr.refl _ _, rfl, fun _ _ _ _ _ => trivial⟩
    · intro vs Wc hB0 hR0 hD
      have r30 : vs 8 = .bool true := hR0 8 (by decide)
      have HC := Lib.hid hB0
      clear hR0 hD hB0
      simp only [acts, if_true, dstAt, List.getElem?_cons_zero, List.getElem?_cons_succ, Option.bind_some, Act.put, List.setIfInBounds_toArray, List.set_cons_succ, List.set_cons_zero, List.drop_succ_cons, List.drop_nil]
      simp only [r30]
      clear r30
      go_wp2_with fail
      go_ret
      exact ⟨rfl, HB.out.1.trans HC.out (fun _ h => h.elim)⟩
set_option maxRecDepth 100000 in
set_option maxHeartbeats 2000000 in
theorem putN_new {F : Nat → Prop} {bk tm mm n : Nat} {B : Int → VT Bs} (w : World) (h : BkAt kN 121 F w bk tm mm n B) (hn : n ≤ 100000) (who : Int) (hw : Wf who) (N : ByteArray) (hN : N.size ≤ 64) (yv : Value) (x : Bs) (hx : BytesIn F w yv x) (hxl : x.length ≤ 2048) (most : Int) (hg : vGet (B who) N.data.toList = none) (hm : ((B who).length : Int) < most) :
    Calls Try.prog 68 #[.pointer (some ⟨bk, 0, none⟩), .agg #[.int .i64 who, .string N], yv, .int .i64 most] w fun e w' => e = .returned (.int .i64 0) ∧ BkAt kN 121 F w' bk tm mm (n + 1) (upd B who (vPut (B who) N.data.toList x)) ∧ Fr (fun k => k = tm ∨ k = mm) w w' := by
  obtain ⟨W1, hW1⟩ : ∃ W1, W1 = w.alloc (.cells #[.int .i64 who, .string N] 114) := ⟨_, rfl⟩
  have hf1 : Fr (fun _ => False) w W1 := by rw [hW1]; exact (Fr.refl _ _).alloc _
  have hP1 : W1.heap[w.heap.size]? = some (.cells #[.int .i64 who, .string N] 114 (0, 0)) := by rw [hW1]; exact heap_alloc_new w _
  have h1 := h.quiet hf1
  obtain ⟨xv, hl1, hl2, hl3⟩ := lookN h1 who hw N (by unfold maxLen; omega)
  obtain ⟨L, hL⟩ : ∃ L, L = (B who).length := ⟨_, rfl⟩
  have hLn : L ≤ 100000 := by rw [hL]; have := (h.ok who).2.1; omega
  rw [hg] at hl1
  have HX := Lib.hid (And.intro hx hxl)
  have HH := Lib.hid h
  have HW := Lib.hid (And.intro hW1 (And.intro hf1 hP1))
  have HL := Lib.hid (And.intro hL hLn)
  have HG := Lib.hid (And.intro hg (And.intro hn (And.intro hN hw)))
  have G := Lib.hid (show decide (most ≤ (L : Int)) = false by rw [hL]; simp; omega)
  have LDT := Lib.hid (ldTN h1)
  have LDP := Lib.hid (ldP hP1)
  have LK := Lib.hid hl1
  clear hx hxl
  clear h hW1 hf1 hP1 h1 hl1 hl2 hl3 hL hLn hg hn hN hw
  go_enter Try.func68, Try.ntmps68
  go_wp2_with fail
  rw [← HW.out.1]
  refine wp_region_inv 11 (by kernel_rfl) (by kernel_rfl) (fun W => Fr (fun _ => False) W1 W) (Put1N bk tm mm (w.heap.size) (w.heap.size + 1) who most N L xv yv false false) (fun _ _ _ _ => True) (Fr (fun _ => False)) (Put1N.ext bk tm mm (w.heap.size) (w.heap.size + 1) who most N L xv yv false false) (Fr.refl _ _).drew ?_ ?_
  · intro i hi o ho
    replace hi : i < 11 := hi
    obtain rfl | rfl | rfl | rfl | rfl | rfl | rfl | rfl | rfl | rfl | rfl : i = 0 ∨ i = 1 ∨ i = 2 ∨ i = 3 ∨ i = 4 ∨ i = 5 ∨ i = 6 ∨ i = 7 ∨ i = 8 ∨ i = 9 ∨ i = 10 := by omega
    · simp only [List.getElem?_cons_zero, Option.some.injEq] at ho
      subst ho
      intro a W vs hB hS hE hU
      refine wpG_plain rfl ?_
      have v0 : a.eval (.tmp 0) = .pointer (some ⟨bk, 0, none⟩) := (hU 0 (by kernel_rfl)).trans rfl
      clear hE hU
      exact wp_value_inv (w' := W) (.pointer (some ⟨bk, 0, none⟩)) (op_move rfl v0) ⟨_, rfl, hB, Fr.refl _ _, rfl, fun _ _ _ _ _ => trivial⟩
    · simp only [List.getElem?_cons_zero, List.getElem?_cons_succ, Option.some.injEq] at ho
      subst ho
      intro a W vs hB hS hE hU
      refine wpG_plain rfl ?_
      obtain ⟨r0, e12⟩ := hE 0 12 (by kernel_rfl) (by kernel_rfl)
      have v12 : a.eval (.tmp 12) = .pointer (some ⟨bk, 0, none⟩) := e12.trans r0
      clear hE hU
      exact wp_value_inv (w' := W) (.pointer (some ⟨bk, 0, none⟩)) (op_nilCheck rfl v12) ⟨_, rfl, hB, Fr.refl _ _, rfl, fun _ _ _ _ _ => trivial⟩
    · simp only [List.getElem?_cons_zero, List.getElem?_cons_succ, Option.some.injEq] at ho
      subst ho
      intro a W vs hB hS hE hU
      refine wpG_plain rfl ?_
      obtain ⟨r1, e13⟩ := hE 1 13 (by kernel_rfl) (by kernel_rfl)
      have v13 : a.eval (.tmp 13) = .pointer (some ⟨bk, 0, none⟩) := e13.trans r1
      clear hE hU
      exact wp_value_inv (w' := W) (.pointer (some ⟨bk, 0, none⟩)) (op_fieldAddr rfl v13 (fld_spence_view_book___byte__0_0 W bk)) ⟨_, rfl, hB, Fr.refl _ _, rfl, fun _ _ _ _ _ => trivial⟩
    · simp only [List.getElem?_cons_zero, List.getElem?_cons_succ, Option.some.injEq] at ho
      subst ho
      intro a W vs hB hS hE hU
      refine wpG_plain rfl ?_
      obtain ⟨r2, e14⟩ := hE 2 14 (by kernel_rfl) (by kernel_rfl)
      have v14 : a.eval (.tmp 14) = .pointer (some ⟨bk, 0, none⟩) := e14.trans r2
      clear hE hU
      exact wp_value_inv (w' := W) (.map (some tm)) (op_loadAt rfl v14 (LDT.out W hB)) ⟨_, rfl, hB, Fr.refl _ _, rfl, fun _ _ _ _ _ => trivial⟩
    · simp only [List.getElem?_cons_zero, List.getElem?_cons_succ, Option.some.injEq] at ho
      subst ho
      intro a W vs hB hS hE hU
      refine wpG_plain rfl ?_
      have v5 : a.eval (.tmp 5) = .pointer (some ⟨(w.heap.size), 0, none⟩) := (hU 5 (by kernel_rfl)).trans rfl
      clear hE hU
      exact wp_value_inv (w' := W) (.agg #[.int .i64 who, .string N]) (op_loadAt rfl v5 (LDP.out W hB)) ⟨_, rfl, hB, Fr.refl _ _, rfl, fun _ _ _ _ _ => trivial⟩
    · simp only [List.getElem?_cons_zero, List.getElem?_cons_succ, Option.some.injEq] at ho
      subst ho
      intro a W vs hB hS hE hU
      refine wpG_plain rfl ?_
      obtain ⟨r3, e15⟩ := hE 3 15 (by kernel_rfl) (by kernel_rfl)
      have v15 : a.eval (.tmp 15) = .map (some tm) := e15.trans r3
      obtain ⟨r4, e16⟩ := hE 4 16 (by kernel_rfl) (by kernel_rfl)
      have v16 : a.eval (.tmp 16) = .agg #[.int .i64 who, .string N] := e16.trans r4
      clear hE hU
      exact wp_value_inv (w' := W) (.tuple #[xv, .bool false]) (op_lookup rfl v15 v16 (LK.out W hB)) ⟨_, rfl, hB, Fr.refl _ _, rfl, fun _ _ _ _ _ => trivial⟩
    · simp only [List.getElem?_cons_zero, List.getElem?_cons_succ, Option.some.injEq] at ho
      subst ho
      intro a W vs hB hS hE hU
      refine wpG_plain rfl ?_
      obtain ⟨r5, e17⟩ := hE 5 17 (by kernel_rfl) (by kernel_rfl)
      have v17 : a.eval (.tmp 17) = .tuple #[xv, .bool false] := e17.trans r5
      clear hE hU
      exact wp_value_inv (w' := W) (.tuple #[xv, .bool false]) (op_move rfl v17) ⟨_, rfl, hB, Fr.refl _ _, rfl, fun _ _ _ _ _ => trivial⟩
    · simp only [List.getElem?_cons_zero, List.getElem?_cons_succ, Option.some.injEq] at ho
      subst ho
      intro a W vs hB hS hE hU
      refine wpG_plain rfl ?_
      obtain ⟨r6, e11⟩ := hE 6 11 (by kernel_rfl) (by kernel_rfl)
      have v11 : a.eval (.tmp 11) = .tuple #[xv, .bool false] := e11.trans r6
      clear hE hU
      exact wp_value_inv (w' := W) (xv) (op_extract5 rfl v11 rfl) ⟨_, rfl, hB, Fr.refl _ _, rfl, fun _ _ _ _ _ => trivial⟩
    · simp only [List.getElem?_cons_zero, List.getElem?_cons_succ, Option.some.injEq] at ho
      subst ho
      intro a W vs hB hS hE hU
      refine wpG_plain rfl ?_
      obtain ⟨r6, e11⟩ := hE 6 11 (by kernel_rfl) (by kernel_rfl)
      have v11 : a.eval (.tmp 11) = .tuple #[xv, .bool false] := e11.trans r6
      clear hE hU
      exact wp_value_inv (w' := W) (.bool false) (op_extract5 rfl v11 rfl) ⟨_, rfl, hB, Fr.refl _ _, rfl, fun _ _ _ _ _ => trivial⟩
    · simp only [List.getElem?_cons_zero, List.getElem?_cons_succ, Option.some.injEq] at ho
      subst ho
      intro a W vs hB hS hE hU
      refine wpG_plain rfl ?_
      obtain ⟨r7, e18⟩ := hE 7 18 (by kernel_rfl) (by kernel_rfl)
      have v18 : a.eval (.tmp 18) = xv := e18.trans r7
      clear hE hU
      exact wp_value_inv (w' := W) (xv) (op_assign rfl v18) ⟨_, rfl, hB, Fr.refl _ _, rfl, fun _ _ _ _ _ => trivial⟩
    · simp only [List.getElem?_cons_zero, List.getElem?_cons_succ, Option.some.injEq] at ho
      subst ho
      intro a W vs hB hS hE hU
      refine wpG_plain rfl ?_
      obtain ⟨r8, e19⟩ := hE 8 19 (by kernel_rfl) (by kernel_rfl)
      have v19 : a.eval (.tmp 19) = .bool false := e19.trans r8
      clear hE hU
      exact wp_value_inv (w' := W) (.bool false) (op_assign rfl v19) ⟨_, rfl, hB, Fr.refl _ _, rfl, fun _ _ _ _ _ => trivial⟩
  · intro vs Wa hB0 hR0 hD
    have r10 : vs 10 = .bool false := hR0 10 (by decide)
    have HA := Lib.hid hB0
    clear hR0 hD hB0
    simp only [acts, if_true, dstAt, List.getElem?_cons_zero, List.getElem?_cons_succ, Option.bind_some, Act.put, List.setIfInBounds_toArray, List.set_cons_succ, List.set_cons_zero, List.drop_succ_cons, List.drop_nil]
    simp only [r10]
    clear r10
    obtain ⟨Wb, hWb⟩ : ∃ Wb, Wb = Wa := ⟨_, rfl⟩
    rw [← hWb]
    have hfb : Fr (fun _ => False) W1 Wb := by rw [hWb]; exact HA.out
    have hwb := HW.out.2.1.trans hfb (fun _ h => h.elim)
    have hPb := hfb.heap HW.out.2.2 id
    have hkb := HH.out.quiet hwb
    have LDM := Lib.hid (ldMN hkb)
    have LDW := Lib.hid (ldW hPb)
    have LKM := Lib.hid (lookMN hkb who HG.out.2.2.2)
    rw [← HL.out.1] at LKM
    have HB := Lib.hid (And.intro hwb (And.intro hPb (And.intro hkb True.intro)))
    clear hWb
    clear hfb hwb hPb hkb
    go_wp2_with fail
    refine wp_region_inv 9 (by kernel_rfl) (by kernel_rfl) (fun W => Fr (fun _ => False) Wb W) (Put3N bk tm mm (w.heap.size) (w.heap.size + 1) who most N L xv yv false false) (fun _ _ _ _ => True) (Fr (fun _ => False)) (Put3N.ext bk tm mm (w.heap.size) (w.heap.size + 1) who most N L xv yv false false) (Fr.refl _ _).drew ?_ ?_
    · intro i hi o ho
      replace hi : i < 9 := hi
      obtain rfl | rfl | rfl | rfl | rfl | rfl | rfl | rfl | rfl : i = 0 ∨ i = 1 ∨ i = 2 ∨ i = 3 ∨ i = 4 ∨ i = 5 ∨ i = 6 ∨ i = 7 ∨ i = 8 := by omega
      · simp only [List.getElem?_cons_zero, Option.some.injEq] at ho
        subst ho
        intro a W vs hB hS hE hU
        refine wpG_plain rfl ?_
        have v0 : a.eval (.tmp 0) = .pointer (some ⟨bk, 0, none⟩) := (hU 0 (by kernel_rfl)).trans rfl
        clear hE hU
        exact wp_value_inv (w' := W) (.pointer (some ⟨bk, 0, none⟩)) (op_move rfl v0) ⟨_, rfl, hB, Fr.refl _ _, rfl, fun _ _ _ _ _ => trivial⟩
      · simp only [List.getElem?_cons_zero, List.getElem?_cons_succ, Option.some.injEq] at ho
        subst ho
        intro a W vs hB hS hE hU
        refine wpG_plain rfl ?_
        obtain ⟨r0, e22⟩ := hE 0 22 (by kernel_rfl) (by kernel_rfl)
        have v22 : a.eval (.tmp 22) = .pointer (some ⟨bk, 0, none⟩) := e22.trans r0
        clear hE hU
        exact wp_value_inv (w' := W) (.pointer (some ⟨bk, 0, none⟩)) (op_nilCheck rfl v22) ⟨_, rfl, hB, Fr.refl _ _, rfl, fun _ _ _ _ _ => trivial⟩
      · simp only [List.getElem?_cons_zero, List.getElem?_cons_succ, Option.some.injEq] at ho
        subst ho
        intro a W vs hB hS hE hU
        refine wpG_plain rfl ?_
        obtain ⟨r1, e23⟩ := hE 1 23 (by kernel_rfl) (by kernel_rfl)
        have v23 : a.eval (.tmp 23) = .pointer (some ⟨bk, 0, none⟩) := e23.trans r1
        clear hE hU
        exact wp_value_inv (w' := W) (.pointer (some ⟨bk, 1, none⟩)) (op_fieldAddr rfl v23 (fld_spence_view_book___byte__1_0 W bk)) ⟨_, rfl, hB, Fr.refl _ _, rfl, fun _ _ _ _ _ => trivial⟩
      · simp only [List.getElem?_cons_zero, List.getElem?_cons_succ, Option.some.injEq] at ho
        subst ho
        intro a W vs hB hS hE hU
        refine wpG_plain rfl ?_
        obtain ⟨r2, e24⟩ := hE 2 24 (by kernel_rfl) (by kernel_rfl)
        have v24 : a.eval (.tmp 24) = .pointer (some ⟨bk, 1, none⟩) := e24.trans r2
        clear hE hU
        exact wp_value_inv (w' := W) (.map (some mm)) (op_loadAt rfl v24 (LDM.out W hB)) ⟨_, rfl, hB, Fr.refl _ _, rfl, fun _ _ _ _ _ => trivial⟩
      · simp only [List.getElem?_cons_zero, List.getElem?_cons_succ, Option.some.injEq] at ho
        subst ho
        intro a W vs hB hS hE hU
        refine wpG_plain rfl ?_
        have v5 : a.eval (.tmp 5) = .pointer (some ⟨(w.heap.size), 0, none⟩) := (hU 5 (by kernel_rfl)).trans rfl
        clear hE hU
        exact wp_value_inv (w' := W) (.pointer (some ⟨(w.heap.size), 0, none⟩)) (op_fieldAddr rfl v5 (fldPtN_0_0 W (w.heap.size))) ⟨_, rfl, hB, Fr.refl _ _, rfl, fun _ _ _ _ _ => trivial⟩
      · simp only [List.getElem?_cons_zero, List.getElem?_cons_succ, Option.some.injEq] at ho
        subst ho
        intro a W vs hB hS hE hU
        refine wpG_plain rfl ?_
        obtain ⟨r4, e26⟩ := hE 4 26 (by kernel_rfl) (by kernel_rfl)
        have v26 : a.eval (.tmp 26) = .pointer (some ⟨(w.heap.size), 0, none⟩) := e26.trans r4
        clear hE hU
        exact wp_value_inv (w' := W) (.int .i64 who) (op_loadAt rfl v26 (LDW.out W hB)) ⟨_, rfl, hB, Fr.refl _ _, rfl, fun _ _ _ _ _ => trivial⟩
      · simp only [List.getElem?_cons_zero, List.getElem?_cons_succ, Option.some.injEq] at ho
        subst ho
        intro a W vs hB hS hE hU
        refine wpG_plain rfl ?_
        obtain ⟨r3, e25⟩ := hE 3 25 (by kernel_rfl) (by kernel_rfl)
        have v25 : a.eval (.tmp 25) = .map (some mm) := e25.trans r3
        obtain ⟨r5, e27⟩ := hE 5 27 (by kernel_rfl) (by kernel_rfl)
        have v27 : a.eval (.tmp 27) = .int .i64 who := e27.trans r5
        clear hE hU
        exact wp_value_inv (w' := W) (.int .i64 (L : Nat)) (op_lookup rfl v25 v27 (LKM.out W hB)) ⟨_, rfl, hB, Fr.refl _ _, rfl, fun _ _ _ _ _ => trivial⟩
      · simp only [List.getElem?_cons_zero, List.getElem?_cons_succ, Option.some.injEq] at ho
        subst ho
        intro a W vs hB hS hE hU
        refine wpG_plain rfl ?_
        have v3 : a.eval (.tmp 3) = .int .i64 most := (hU 3 (by kernel_rfl)).trans rfl
        clear hE hU
        exact wp_value_inv (w' := W) (.int .i64 most) (op_move rfl v3) ⟨_, rfl, hB, Fr.refl _ _, rfl, fun _ _ _ _ _ => trivial⟩
      · simp only [List.getElem?_cons_zero, List.getElem?_cons_succ, Option.some.injEq] at ho
        subst ho
        intro a W vs hB hS hE hU
        refine wpG_plain rfl ?_
        obtain ⟨r6, e28⟩ := hE 6 28 (by kernel_rfl) (by kernel_rfl)
        have v28 : a.eval (.tmp 28) = .int .i64 (L : Nat) := e28.trans r6
        obtain ⟨r7, e29⟩ := hE 7 29 (by kernel_rfl) (by kernel_rfl)
        have v29 : a.eval (.tmp 29) = .int .i64 most := e29.trans r7
        clear hE hU
        exact wp_value_inv (w' := W) (.bool false) (op_bin rfl v28 v29 (rfl) (geq9 G.out)) ⟨_, rfl, hB, Fr.refl _ _, rfl, fun _ _ _ _ _ => trivial⟩
    · intro vs Wc hB0 hR0 hD
      have r30 : vs 8 = .bool false := hR0 8 (by decide)
      have HC := Lib.hid hB0
      clear hR0 hD hB0
      simp only [acts, if_true, dstAt, List.getElem?_cons_zero, List.getElem?_cons_succ, Option.bind_some, Act.put, List.setIfInBounds_toArray, List.set_cons_succ, List.set_cons_zero, List.drop_succ_cons, List.drop_nil]
      simp only [r30]
      clear r30
      go_wp2_with fail
      have hwc := HB.out.1.trans HC.out (fun _ h => h.elim)
      have hPc := HC.out.heap HB.out.2.1 id
      have hkc := HH.out.quiet hwc
      have LDM := Lib.hid (ldMN hkc)
      have LDW := Lib.hid (ldW hPc)
      have LKM := Lib.hid (lookMN hkc who HG.out.2.2.2)
      rw [← HL.out.1] at LKM
      have G := Lib.hid (show L ≤ 1000000 by have := HL.out.2; omega)
      have HC2 := Lib.hid (And.intro hwc (And.intro hPc (And.intro hkc True.intro)))
      clear hwc hPc hkc
      refine wp_region_inv 8 (by kernel_rfl) (by kernel_rfl) (fun W => Fr (fun _ => False) Wc W) (Put5N bk tm mm (w.heap.size) (w.heap.size + 1) who most N L xv yv false false) (fun _ _ _ _ => True) (Fr (fun _ => False)) (Put5N.ext bk tm mm (w.heap.size) (w.heap.size + 1) who most N L xv yv false false) (Fr.refl _ _).drew ?_ ?_
      · intro i hi o ho
        replace hi : i < 8 := hi
        obtain rfl | rfl | rfl | rfl | rfl | rfl | rfl | rfl : i = 0 ∨ i = 1 ∨ i = 2 ∨ i = 3 ∨ i = 4 ∨ i = 5 ∨ i = 6 ∨ i = 7 := by omega
        · simp only [List.getElem?_cons_zero, Option.some.injEq] at ho
          subst ho
          intro a W vs hB hS hE hU
          refine wpG_plain rfl ?_
          have v0 : a.eval (.tmp 0) = .pointer (some ⟨bk, 0, none⟩) := (hU 0 (by kernel_rfl)).trans rfl
          clear hE hU
          exact wp_value_inv (w' := W) (.pointer (some ⟨bk, 0, none⟩)) (op_move rfl v0) ⟨_, rfl, hB, Fr.refl _ _, rfl, fun _ _ _ _ _ => trivial⟩
        · simp only [List.getElem?_cons_zero, List.getElem?_cons_succ, Option.some.injEq] at ho
          subst ho
          intro a W vs hB hS hE hU
          refine wpG_plain rfl ?_
          obtain ⟨r0, e31⟩ := hE 0 31 (by kernel_rfl) (by kernel_rfl)
          have v31 : a.eval (.tmp 31) = .pointer (some ⟨bk, 0, none⟩) := e31.trans r0
          clear hE hU
          exact wp_value_inv (w' := W) (.pointer (some ⟨bk, 0, none⟩)) (op_nilCheck rfl v31) ⟨_, rfl, hB, Fr.refl _ _, rfl, fun _ _ _ _ _ => trivial⟩
        · simp only [List.getElem?_cons_zero, List.getElem?_cons_succ, Option.some.injEq] at ho
          subst ho
          intro a W vs hB hS hE hU
          refine wpG_plain rfl ?_
          obtain ⟨r1, e32⟩ := hE 1 32 (by kernel_rfl) (by kernel_rfl)
          have v32 : a.eval (.tmp 32) = .pointer (some ⟨bk, 0, none⟩) := e32.trans r1
          clear hE hU
          exact wp_value_inv (w' := W) (.pointer (some ⟨bk, 1, none⟩)) (op_fieldAddr rfl v32 (fld_spence_view_book___byte__1_0 W bk)) ⟨_, rfl, hB, Fr.refl _ _, rfl, fun _ _ _ _ _ => trivial⟩
        · simp only [List.getElem?_cons_zero, List.getElem?_cons_succ, Option.some.injEq] at ho
          subst ho
          intro a W vs hB hS hE hU
          refine wpG_plain rfl ?_
          obtain ⟨r2, e33⟩ := hE 2 33 (by kernel_rfl) (by kernel_rfl)
          have v33 : a.eval (.tmp 33) = .pointer (some ⟨bk, 1, none⟩) := e33.trans r2
          clear hE hU
          exact wp_value_inv (w' := W) (.map (some mm)) (op_loadAt rfl v33 (LDM.out W hB)) ⟨_, rfl, hB, Fr.refl _ _, rfl, fun _ _ _ _ _ => trivial⟩
        · simp only [List.getElem?_cons_zero, List.getElem?_cons_succ, Option.some.injEq] at ho
          subst ho
          intro a W vs hB hS hE hU
          refine wpG_plain rfl ?_
          have v5 : a.eval (.tmp 5) = .pointer (some ⟨(w.heap.size), 0, none⟩) := (hU 5 (by kernel_rfl)).trans rfl
          clear hE hU
          exact wp_value_inv (w' := W) (.pointer (some ⟨(w.heap.size), 0, none⟩)) (op_fieldAddr rfl v5 (fldPtN_0_0 W (w.heap.size))) ⟨_, rfl, hB, Fr.refl _ _, rfl, fun _ _ _ _ _ => trivial⟩
        · simp only [List.getElem?_cons_zero, List.getElem?_cons_succ, Option.some.injEq] at ho
          subst ho
          intro a W vs hB hS hE hU
          refine wpG_plain rfl ?_
          obtain ⟨r4, e35⟩ := hE 4 35 (by kernel_rfl) (by kernel_rfl)
          have v35 : a.eval (.tmp 35) = .pointer (some ⟨(w.heap.size), 0, none⟩) := e35.trans r4
          clear hE hU
          exact wp_value_inv (w' := W) (.int .i64 who) (op_loadAt rfl v35 (LDW.out W hB)) ⟨_, rfl, hB, Fr.refl _ _, rfl, fun _ _ _ _ _ => trivial⟩
        · simp only [List.getElem?_cons_zero, List.getElem?_cons_succ, Option.some.injEq] at ho
          subst ho
          intro a W vs hB hS hE hU
          refine wpG_plain rfl ?_
          obtain ⟨r3, e34⟩ := hE 3 34 (by kernel_rfl) (by kernel_rfl)
          have v34 : a.eval (.tmp 34) = .map (some mm) := e34.trans r3
          obtain ⟨r5, e36⟩ := hE 5 36 (by kernel_rfl) (by kernel_rfl)
          have v36 : a.eval (.tmp 36) = .int .i64 who := e36.trans r5
          clear hE hU
          exact wp_value_inv (w' := W) (.int .i64 (L : Nat)) (op_lookup rfl v34 v36 (LKM.out W hB)) ⟨_, rfl, hB, Fr.refl _ _, rfl, fun _ _ _ _ _ => trivial⟩
        · simp only [List.getElem?_cons_zero, List.getElem?_cons_succ, Option.some.injEq] at ho
          subst ho
          intro a W vs hB hS hE hU
          refine wpG_plain rfl ?_
          obtain ⟨r6, e37⟩ := hE 6 37 (by kernel_rfl) (by kernel_rfl)
          have v37 : a.eval (.tmp 37) = .int .i64 (L : Nat) := e37.trans r6
          clear hE hU
          exact wp_value_inv (w' := W) (.int .i64 (L + 1 : Nat)) (op_bin rfl v37 rfl (rfl) (addL W G.out)) ⟨_, rfl, hB, Fr.refl _ _, rfl, fun _ _ _ _ _ => trivial⟩
      · intro vs Wd hB0 hR0 hD
        have r34 : vs 3 = .map (some mm) := hR0 3 (by decide)
        have r36 : vs 5 = .int .i64 who := hR0 5 (by decide)
        have r38 : vs 7 = .int .i64 (L + 1 : Nat) := hR0 7 (by decide)
        have HD := Lib.hid hB0
        clear hR0 hD hB0
        simp only [acts, if_true, dstAt, List.getElem?_cons_zero, List.getElem?_cons_succ, Option.bind_some, Act.put, List.setIfInBounds_toArray, List.set_cons_succ, List.set_cons_zero, List.drop_succ_cons]
        simp only [r34, r36, r38]
        clear r34 r36 r38
        have hkd := HC2.out.2.2.1.quiet HD.out
        obtain ⟨we, hre, hme, hfe⟩ := hkd.mn.put (by have := HG.out.2.1; omega) who HG.out.2.2.2 (L + 1)
        have hPe := hfe.heap (HD.out.heap HC2.out.2.1 id) (fun e => by have := hkd.lt; have := HH.out.lt; omega)
        have hrw := hfe.heap hkd.row HH.out.sep.2.1
        have hthe := hkd.th.keep hfe HH.out.sep.2.2.1 (fun k _ hk e => HH.out.sep.2.2.2.2.2 (e ▸ hk))
        have hwe : Fr (fun k => k = tm ∨ k = mm) w we := ((HC2.out.1.trans HD.out (fun _ h => h.elim)).mono (T := fun k => k = tm ∨ k = mm) (fun _ _ h => h.elim)).trans hfe (fun k h => .inl (.inr h))
        have HE := Lib.hid (And.intro hme (And.intro hthe (And.intro hrw (And.intro hwe (And.intro hPe True.intro)))))
        have HRE := Lib.hid hre
        clear hkd hre hme hfe hPe hrw hthe hwe
        refine wpList_mu rfl 116 (.tmp 34) (.tmp 36) (.tmp 38) rfl _ _ _ rfl rfl rfl HRE.out ?_
        have LDT := Lib.hid (fun W (hf : Fr (fun _ => False) we W) => load_one5 W 119 ⟨bk, 0, none⟩ _ (by kernel_rfl) (hf.cell (cell_of_row _ _ _ _ _ _ HE.out.2.2.1) id))
        have LDP := Lib.hid (ldP HE.out.2.2.2.2.1)
        go_wp2_with fail
        refine wp_region_inv 6 (by kernel_rfl) (by kernel_rfl) (fun W => Fr (fun _ => False) we W) (Put6N bk tm mm (w.heap.size) (w.heap.size + 1) who most N L xv yv false false) (fun _ _ _ _ => True) (Fr (fun _ => False)) (Put6N.ext bk tm mm (w.heap.size) (w.heap.size + 1) who most N L xv yv false false) (Fr.refl _ _).drew ?_ ?_
        · intro i hi o ho
          replace hi : i < 6 := hi
          obtain rfl | rfl | rfl | rfl | rfl | rfl : i = 0 ∨ i = 1 ∨ i = 2 ∨ i = 3 ∨ i = 4 ∨ i = 5 := by omega
          · simp only [List.getElem?_cons_zero, Option.some.injEq] at ho
            subst ho
            intro a W vs hB hS hE hU
            refine wpG_plain rfl ?_
            have v0 : a.eval (.tmp 0) = .pointer (some ⟨bk, 0, none⟩) := (hU 0 (by kernel_rfl)).trans rfl
            clear hE hU
            exact wp_value_inv (w' := W) (.pointer (some ⟨bk, 0, none⟩)) (op_move rfl v0) ⟨_, rfl, hB, Fr.refl _ _, rfl, fun _ _ _ _ _ => trivial⟩
          · simp only [List.getElem?_cons_zero, List.getElem?_cons_succ, Option.some.injEq] at ho
            subst ho
            intro a W vs hB hS hE hU
            refine wpG_plain rfl ?_
            obtain ⟨r0, e39⟩ := hE 0 39 (by kernel_rfl) (by kernel_rfl)
            have v39 : a.eval (.tmp 39) = .pointer (some ⟨bk, 0, none⟩) := e39.trans r0
            clear hE hU
            exact wp_value_inv (w' := W) (.pointer (some ⟨bk, 0, none⟩)) (op_nilCheck rfl v39) ⟨_, rfl, hB, Fr.refl _ _, rfl, fun _ _ _ _ _ => trivial⟩
          · simp only [List.getElem?_cons_zero, List.getElem?_cons_succ, Option.some.injEq] at ho
            subst ho
            intro a W vs hB hS hE hU
            refine wpG_plain rfl ?_
            obtain ⟨r1, e40⟩ := hE 1 40 (by kernel_rfl) (by kernel_rfl)
            have v40 : a.eval (.tmp 40) = .pointer (some ⟨bk, 0, none⟩) := e40.trans r1
            clear hE hU
            exact wp_value_inv (w' := W) (.pointer (some ⟨bk, 0, none⟩)) (op_fieldAddr rfl v40 (fld_spence_view_book___byte__0_0 W bk)) ⟨_, rfl, hB, Fr.refl _ _, rfl, fun _ _ _ _ _ => trivial⟩
          · simp only [List.getElem?_cons_zero, List.getElem?_cons_succ, Option.some.injEq] at ho
            subst ho
            intro a W vs hB hS hE hU
            refine wpG_plain rfl ?_
            obtain ⟨r2, e41⟩ := hE 2 41 (by kernel_rfl) (by kernel_rfl)
            have v41 : a.eval (.tmp 41) = .pointer (some ⟨bk, 0, none⟩) := e41.trans r2
            clear hE hU
            exact wp_value_inv (w' := W) (.map (some tm)) (op_loadAt rfl v41 (LDT.out W hB)) ⟨_, rfl, hB, Fr.refl _ _, rfl, fun _ _ _ _ _ => trivial⟩
          · simp only [List.getElem?_cons_zero, List.getElem?_cons_succ, Option.some.injEq] at ho
            subst ho
            intro a W vs hB hS hE hU
            refine wpG_plain rfl ?_
            have v5 : a.eval (.tmp 5) = .pointer (some ⟨(w.heap.size), 0, none⟩) := (hU 5 (by kernel_rfl)).trans rfl
            clear hE hU
            exact wp_value_inv (w' := W) (.agg #[.int .i64 who, .string N]) (op_loadAt rfl v5 (LDP.out W hB)) ⟨_, rfl, hB, Fr.refl _ _, rfl, fun _ _ _ _ _ => trivial⟩
          · simp only [List.getElem?_cons_zero, List.getElem?_cons_succ, Option.some.injEq] at ho
            subst ho
            intro a W vs hB hS hE hU
            refine wpG_plain rfl ?_
            have v2 : a.eval (.tmp 2) = yv := (hU 2 (by kernel_rfl)).trans rfl
            clear hE hU
            exact wp_value_inv (w' := W) (yv) (op_move rfl v2) ⟨_, rfl, hB, Fr.refl _ _, rfl, fun _ _ _ _ _ => trivial⟩
        · intro vs Wf hB0 hR0 hD
          have r42 : vs 3 = .map (some tm) := hR0 3 (by decide)
          have r43 : vs 4 = .agg #[.int .i64 who, .string N] := hR0 4 (by decide)
          have r44 : vs 5 = yv := hR0 5 (by decide)
          have HF := Lib.hid hB0
          clear hR0 hD hB0
          simp only [acts, if_true, dstAt, List.getElem?_cons_zero, List.getElem?_cons_succ, Option.bind_some, Act.put, List.setIfInBounds_toArray, List.set_cons_succ, List.set_cons_zero, List.drop_succ_cons]
          simp only [r42, r43, r44]
          clear r42 r43 r44
          have hthf := HE.out.2.1.keep HF.out id (fun _ _ _ h => h)
          have hwf := HE.out.2.2.2.1.trans HF.out (fun _ h => h.elim)
          have hv : kN.vi F Wf yv x := ⟨HX.out.1.keep hwf (fun k _ hk e => e.elim (fun e => HH.out.sep.2.2.2.2.1 (e ▸ hk)) (fun e => HH.out.sep.2.2.2.2.2 (e ▸ hk))), HX.out.2⟩
          obtain ⟨wg, hrg, hthg, hfg⟩ := ThAt.put' Try.underlying119 hthf (by have := HG.out.2.1; omega) who HG.out.2.2.2 N (by have := HG.out.2.2.1; unfold maxLen; omega) (HH.out.ok who).1 _ x hv HH.out.sep.2.2.2.2.1
          have hrw := hfg.heap (HF.out.heap HE.out.2.2.1 id) HH.out.sep.1
          have hmg := (HE.out.1.keep HF.out id).keep hfg (fun e => HH.out.sep.2.2.1 e.symm)
          have HY := Lib.hid (And.intro hthg (And.intro hrw (And.intro hmg (hwf.trans hfg (fun k h => .inl (.inl h))))))
          have HRG := Lib.hid hrg
          clear hthf hwf hv hrg hthg hfg hrw hmg
          refine wpList_mu rfl 119 (.tmp 42) (.tmp 43) (.tmp 44) rfl _ _ _ rfl rfl rfl HRG.out ?_
          go_wp2_with fail
          go_ret
          refine ⟨rfl, ⟨HY.out.2.1, HY.out.1, by rw [← upd_len (m := L + 1) (by rw [vPut_len (HH.out.ok who).1, HG.out.1, HL.out.1]; rfl)]; exact HY.out.2.2.1, okPut HH.out.ok who N HG.out.2.2.1 x, HH.out.sep⟩, HY.out.2.2.2⟩
set_option maxRecDepth 100000 in
set_option maxHeartbeats 2000000 in
theorem putN_old {F : Nat → Prop} {bk tm mm n : Nat} {B : Int → VT Bs} (w : World) (h : BkAt kN 121 F w bk tm mm n B) (hn : n ≤ 100000) (who : Int) (hw : Wf who) (N : ByteArray) (hN : N.size ≤ 64) (yv : Value) (x : Bs) (hx : BytesIn F w yv x) (hxl : x.length ≤ 2048) (most : Int) (hg : (vGet (B who) N.data.toList).isSome = true) :
    Calls Try.prog 68 #[.pointer (some ⟨bk, 0, none⟩), .agg #[.int .i64 who, .string N], yv, .int .i64 most] w fun e w' => e = .returned (.int .i64 0) ∧ BkAt kN 121 F w' bk tm mm (n + 1) (upd B who (vPut (B who) N.data.toList x)) ∧ Fr (fun k => k = tm ∨ k = mm) w w' := by
  obtain ⟨W1, hW1⟩ : ∃ W1, W1 = w.alloc (.cells #[.int .i64 who, .string N] 114) := ⟨_, rfl⟩
  have hf1 : Fr (fun _ => False) w W1 := by rw [hW1]; exact (Fr.refl _ _).alloc _
  have hP1 : W1.heap[w.heap.size]? = some (.cells #[.int .i64 who, .string N] 114 (0, 0)) := by rw [hW1]; exact heap_alloc_new w _
  have h1 := h.quiet hf1
  obtain ⟨xv, hl1, hl2, hl3⟩ := lookN h1 who hw N (by unfold maxLen; omega)
  obtain ⟨L, hL⟩ : ∃ L, L = (B who).length := ⟨_, rfl⟩
  have hLn : L ≤ 100000 := by rw [hL]; have := (h.ok who).2.1; omega
  rw [hg] at hl1
  obtain ⟨x0, hx0⟩ := Option.isSome_iff_exists.1 hg
  have HX := Lib.hid (And.intro hx hxl)
  have HH := Lib.hid h
  have HW := Lib.hid (And.intro hW1 (And.intro hf1 hP1))
  have HL := Lib.hid (And.intro hL hLn)
  have HG := Lib.hid (And.intro hg (And.intro hn (And.intro hN hw)))
  have LDT := Lib.hid (ldTN h1)
  have LDP := Lib.hid (ldP hP1)
  have LK := Lib.hid hl1
  clear hx hxl
  clear h hW1 hf1 hP1 h1 hl1 hl2 hl3 hL hLn hg hn hN hw
  go_enter Try.func68, Try.ntmps68
  go_wp2_with fail
  rw [← HW.out.1]
  refine wp_region_inv 11 (by kernel_rfl) (by kernel_rfl) (fun W => Fr (fun _ => False) W1 W) (Put1N bk tm mm (w.heap.size) (w.heap.size + 1) who most N L xv yv true false) (fun _ _ _ _ => True) (Fr (fun _ => False)) (Put1N.ext bk tm mm (w.heap.size) (w.heap.size + 1) who most N L xv yv true false) (Fr.refl _ _).drew ?_ ?_
  · intro i hi o ho
    replace hi : i < 11 := hi
    obtain rfl | rfl | rfl | rfl | rfl | rfl | rfl | rfl | rfl | rfl | rfl : i = 0 ∨ i = 1 ∨ i = 2 ∨ i = 3 ∨ i = 4 ∨ i = 5 ∨ i = 6 ∨ i = 7 ∨ i = 8 ∨ i = 9 ∨ i = 10 := by omega
    · simp only [List.getElem?_cons_zero, Option.some.injEq] at ho
      subst ho
      intro a W vs hB hS hE hU
      refine wpG_plain rfl ?_
      have v0 : a.eval (.tmp 0) = .pointer (some ⟨bk, 0, none⟩) := (hU 0 (by kernel_rfl)).trans rfl
      clear hE hU
      exact wp_value_inv (w' := W) (.pointer (some ⟨bk, 0, none⟩)) (op_move rfl v0) ⟨_, rfl, hB, Fr.refl _ _, rfl, fun _ _ _ _ _ => trivial⟩
    · simp only [List.getElem?_cons_zero, List.getElem?_cons_succ, Option.some.injEq] at ho
      subst ho
      intro a W vs hB hS hE hU
      refine wpG_plain rfl ?_
      obtain ⟨r0, e12⟩ := hE 0 12 (by kernel_rfl) (by kernel_rfl)
      have v12 : a.eval (.tmp 12) = .pointer (some ⟨bk, 0, none⟩) := e12.trans r0
      clear hE hU
      exact wp_value_inv (w' := W) (.pointer (some ⟨bk, 0, none⟩)) (op_nilCheck rfl v12) ⟨_, rfl, hB, Fr.refl _ _, rfl, fun _ _ _ _ _ => trivial⟩
    · simp only [List.getElem?_cons_zero, List.getElem?_cons_succ, Option.some.injEq] at ho
      subst ho
      intro a W vs hB hS hE hU
      refine wpG_plain rfl ?_
      obtain ⟨r1, e13⟩ := hE 1 13 (by kernel_rfl) (by kernel_rfl)
      have v13 : a.eval (.tmp 13) = .pointer (some ⟨bk, 0, none⟩) := e13.trans r1
      clear hE hU
      exact wp_value_inv (w' := W) (.pointer (some ⟨bk, 0, none⟩)) (op_fieldAddr rfl v13 (fld_spence_view_book___byte__0_0 W bk)) ⟨_, rfl, hB, Fr.refl _ _, rfl, fun _ _ _ _ _ => trivial⟩
    · simp only [List.getElem?_cons_zero, List.getElem?_cons_succ, Option.some.injEq] at ho
      subst ho
      intro a W vs hB hS hE hU
      refine wpG_plain rfl ?_
      obtain ⟨r2, e14⟩ := hE 2 14 (by kernel_rfl) (by kernel_rfl)
      have v14 : a.eval (.tmp 14) = .pointer (some ⟨bk, 0, none⟩) := e14.trans r2
      clear hE hU
      exact wp_value_inv (w' := W) (.map (some tm)) (op_loadAt rfl v14 (LDT.out W hB)) ⟨_, rfl, hB, Fr.refl _ _, rfl, fun _ _ _ _ _ => trivial⟩
    · simp only [List.getElem?_cons_zero, List.getElem?_cons_succ, Option.some.injEq] at ho
      subst ho
      intro a W vs hB hS hE hU
      refine wpG_plain rfl ?_
      have v5 : a.eval (.tmp 5) = .pointer (some ⟨(w.heap.size), 0, none⟩) := (hU 5 (by kernel_rfl)).trans rfl
      clear hE hU
      exact wp_value_inv (w' := W) (.agg #[.int .i64 who, .string N]) (op_loadAt rfl v5 (LDP.out W hB)) ⟨_, rfl, hB, Fr.refl _ _, rfl, fun _ _ _ _ _ => trivial⟩
    · simp only [List.getElem?_cons_zero, List.getElem?_cons_succ, Option.some.injEq] at ho
      subst ho
      intro a W vs hB hS hE hU
      refine wpG_plain rfl ?_
      obtain ⟨r3, e15⟩ := hE 3 15 (by kernel_rfl) (by kernel_rfl)
      have v15 : a.eval (.tmp 15) = .map (some tm) := e15.trans r3
      obtain ⟨r4, e16⟩ := hE 4 16 (by kernel_rfl) (by kernel_rfl)
      have v16 : a.eval (.tmp 16) = .agg #[.int .i64 who, .string N] := e16.trans r4
      clear hE hU
      exact wp_value_inv (w' := W) (.tuple #[xv, .bool true]) (op_lookup rfl v15 v16 (LK.out W hB)) ⟨_, rfl, hB, Fr.refl _ _, rfl, fun _ _ _ _ _ => trivial⟩
    · simp only [List.getElem?_cons_zero, List.getElem?_cons_succ, Option.some.injEq] at ho
      subst ho
      intro a W vs hB hS hE hU
      refine wpG_plain rfl ?_
      obtain ⟨r5, e17⟩ := hE 5 17 (by kernel_rfl) (by kernel_rfl)
      have v17 : a.eval (.tmp 17) = .tuple #[xv, .bool true] := e17.trans r5
      clear hE hU
      exact wp_value_inv (w' := W) (.tuple #[xv, .bool true]) (op_move rfl v17) ⟨_, rfl, hB, Fr.refl _ _, rfl, fun _ _ _ _ _ => trivial⟩
    · simp only [List.getElem?_cons_zero, List.getElem?_cons_succ, Option.some.injEq] at ho
      subst ho
      intro a W vs hB hS hE hU
      refine wpG_plain rfl ?_
      obtain ⟨r6, e11⟩ := hE 6 11 (by kernel_rfl) (by kernel_rfl)
      have v11 : a.eval (.tmp 11) = .tuple #[xv, .bool true] := e11.trans r6
      clear hE hU
      exact wp_value_inv (w' := W) (xv) (op_extract5 rfl v11 rfl) ⟨_, rfl, hB, Fr.refl _ _, rfl, fun _ _ _ _ _ => trivial⟩
    · simp only [List.getElem?_cons_zero, List.getElem?_cons_succ, Option.some.injEq] at ho
      subst ho
      intro a W vs hB hS hE hU
      refine wpG_plain rfl ?_
      obtain ⟨r6, e11⟩ := hE 6 11 (by kernel_rfl) (by kernel_rfl)
      have v11 : a.eval (.tmp 11) = .tuple #[xv, .bool true] := e11.trans r6
      clear hE hU
      exact wp_value_inv (w' := W) (.bool true) (op_extract5 rfl v11 rfl) ⟨_, rfl, hB, Fr.refl _ _, rfl, fun _ _ _ _ _ => trivial⟩
    · simp only [List.getElem?_cons_zero, List.getElem?_cons_succ, Option.some.injEq] at ho
      subst ho
      intro a W vs hB hS hE hU
      refine wpG_plain rfl ?_
      obtain ⟨r7, e18⟩ := hE 7 18 (by kernel_rfl) (by kernel_rfl)
      have v18 : a.eval (.tmp 18) = xv := e18.trans r7
      clear hE hU
      exact wp_value_inv (w' := W) (xv) (op_assign rfl v18) ⟨_, rfl, hB, Fr.refl _ _, rfl, fun _ _ _ _ _ => trivial⟩
    · simp only [List.getElem?_cons_zero, List.getElem?_cons_succ, Option.some.injEq] at ho
      subst ho
      intro a W vs hB hS hE hU
      refine wpG_plain rfl ?_
      obtain ⟨r8, e19⟩ := hE 8 19 (by kernel_rfl) (by kernel_rfl)
      have v19 : a.eval (.tmp 19) = .bool true := e19.trans r8
      clear hE hU
      exact wp_value_inv (w' := W) (.bool true) (op_assign rfl v19) ⟨_, rfl, hB, Fr.refl _ _, rfl, fun _ _ _ _ _ => trivial⟩
  · intro vs Wa hB0 hR0 hD
    have r10 : vs 10 = .bool true := hR0 10 (by decide)
    have HA := Lib.hid hB0
    clear hR0 hD hB0
    simp only [acts, if_true, dstAt, List.getElem?_cons_zero, List.getElem?_cons_succ, Option.bind_some, Act.put, List.setIfInBounds_toArray, List.set_cons_succ, List.set_cons_zero, List.drop_succ_cons, List.drop_nil]
    simp only [r10]
    clear r10
    obtain ⟨Wb, hWb⟩ : ∃ Wb, Wb = Wa := ⟨_, rfl⟩
    rw [← hWb]
    have hfb : Fr (fun _ => False) W1 Wb := by rw [hWb]; exact HA.out
    have hwb := HW.out.2.1.trans hfb (fun _ h => h.elim)
    have hPb := hfb.heap HW.out.2.2 id
    have hkb := HH.out.quiet hwb
    have hxb : Wb.heap[w.heap.size]? = some (.cells #[.int .i64 who, .string N] 114 (0, 0)) := hPb
    have HE := Lib.hid (And.intro hkb.mn (And.intro hkb.th (And.intro hkb.row (And.intro (hwb.mono (T := fun k => k = tm ∨ k = mm) (fun _ _ h => h.elim)) (And.intro hxb True.intro)))))
    obtain ⟨we, hwe⟩ : ∃ we, we = Wb := ⟨_, rfl⟩
    rw [← hwe] at HE ⊢
    clear hWb
    clear hfb hwb hPb hkb hxb hwe
    have LDT := Lib.hid (fun W (hf : Fr (fun _ => False) we W) => load_one5 W 119 ⟨bk, 0, none⟩ _ (by kernel_rfl) (hf.cell (cell_of_row _ _ _ _ _ _ HE.out.2.2.1) id))
    have LDP := Lib.hid (ldP HE.out.2.2.2.2.1)
    go_wp2_with fail
    refine wp_region_inv 6 (by kernel_rfl) (by kernel_rfl) (fun W => Fr (fun _ => False) we W) (Put6N bk tm mm (w.heap.size) (w.heap.size + 1) who most N L xv yv true false) (fun _ _ _ _ => True) (Fr (fun _ => False)) (Put6N.ext bk tm mm (w.heap.size) (w.heap.size + 1) who most N L xv yv true false) (Fr.refl _ _).drew ?_ ?_
    · intro i hi o ho
      replace hi : i < 6 := hi
      obtain rfl | rfl | rfl | rfl | rfl | rfl : i = 0 ∨ i = 1 ∨ i = 2 ∨ i = 3 ∨ i = 4 ∨ i = 5 := by omega
      · simp only [List.getElem?_cons_zero, Option.some.injEq] at ho
        subst ho
        intro a W vs hB hS hE hU
        refine wpG_plain rfl ?_
        have v0 : a.eval (.tmp 0) = .pointer (some ⟨bk, 0, none⟩) := (hU 0 (by kernel_rfl)).trans rfl
        clear hE hU
        exact wp_value_inv (w' := W) (.pointer (some ⟨bk, 0, none⟩)) (op_move rfl v0) ⟨_, rfl, hB, Fr.refl _ _, rfl, fun _ _ _ _ _ => trivial⟩
      · simp only [List.getElem?_cons_zero, List.getElem?_cons_succ, Option.some.injEq] at ho
        subst ho
        intro a W vs hB hS hE hU
        refine wpG_plain rfl ?_
        obtain ⟨r0, e39⟩ := hE 0 39 (by kernel_rfl) (by kernel_rfl)
        have v39 : a.eval (.tmp 39) = .pointer (some ⟨bk, 0, none⟩) := e39.trans r0
        clear hE hU
        exact wp_value_inv (w' := W) (.pointer (some ⟨bk, 0, none⟩)) (op_nilCheck rfl v39) ⟨_, rfl, hB, Fr.refl _ _, rfl, fun _ _ _ _ _ => trivial⟩
      · simp only [List.getElem?_cons_zero, List.getElem?_cons_succ, Option.some.injEq] at ho
        subst ho
        intro a W vs hB hS hE hU
        refine wpG_plain rfl ?_
        obtain ⟨r1, e40⟩ := hE 1 40 (by kernel_rfl) (by kernel_rfl)
        have v40 : a.eval (.tmp 40) = .pointer (some ⟨bk, 0, none⟩) := e40.trans r1
        clear hE hU
        exact wp_value_inv (w' := W) (.pointer (some ⟨bk, 0, none⟩)) (op_fieldAddr rfl v40 (fld_spence_view_book___byte__0_0 W bk)) ⟨_, rfl, hB, Fr.refl _ _, rfl, fun _ _ _ _ _ => trivial⟩
      · simp only [List.getElem?_cons_zero, List.getElem?_cons_succ, Option.some.injEq] at ho
        subst ho
        intro a W vs hB hS hE hU
        refine wpG_plain rfl ?_
        obtain ⟨r2, e41⟩ := hE 2 41 (by kernel_rfl) (by kernel_rfl)
        have v41 : a.eval (.tmp 41) = .pointer (some ⟨bk, 0, none⟩) := e41.trans r2
        clear hE hU
        exact wp_value_inv (w' := W) (.map (some tm)) (op_loadAt rfl v41 (LDT.out W hB)) ⟨_, rfl, hB, Fr.refl _ _, rfl, fun _ _ _ _ _ => trivial⟩
      · simp only [List.getElem?_cons_zero, List.getElem?_cons_succ, Option.some.injEq] at ho
        subst ho
        intro a W vs hB hS hE hU
        refine wpG_plain rfl ?_
        have v5 : a.eval (.tmp 5) = .pointer (some ⟨(w.heap.size), 0, none⟩) := (hU 5 (by kernel_rfl)).trans rfl
        clear hE hU
        exact wp_value_inv (w' := W) (.agg #[.int .i64 who, .string N]) (op_loadAt rfl v5 (LDP.out W hB)) ⟨_, rfl, hB, Fr.refl _ _, rfl, fun _ _ _ _ _ => trivial⟩
      · simp only [List.getElem?_cons_zero, List.getElem?_cons_succ, Option.some.injEq] at ho
        subst ho
        intro a W vs hB hS hE hU
        refine wpG_plain rfl ?_
        have v2 : a.eval (.tmp 2) = yv := (hU 2 (by kernel_rfl)).trans rfl
        clear hE hU
        exact wp_value_inv (w' := W) (yv) (op_move rfl v2) ⟨_, rfl, hB, Fr.refl _ _, rfl, fun _ _ _ _ _ => trivial⟩
    · intro vs Wf hB0 hR0 hD
      have r42 : vs 3 = .map (some tm) := hR0 3 (by decide)
      have r43 : vs 4 = .agg #[.int .i64 who, .string N] := hR0 4 (by decide)
      have r44 : vs 5 = yv := hR0 5 (by decide)
      have HF := Lib.hid hB0
      clear hR0 hD hB0
      simp only [acts, if_true, dstAt, List.getElem?_cons_zero, List.getElem?_cons_succ, Option.bind_some, Act.put, List.setIfInBounds_toArray, List.set_cons_succ, List.set_cons_zero, List.drop_succ_cons]
      simp only [r42, r43, r44]
      clear r42 r43 r44
      have hthf := HE.out.2.1.keep HF.out id (fun _ _ _ h => h)
      have hwf := HE.out.2.2.2.1.trans HF.out (fun _ h => h.elim)
      have hv : kN.vi F Wf yv x := ⟨HX.out.1.keep hwf (fun k _ hk e => e.elim (fun e => HH.out.sep.2.2.2.2.1 (e ▸ hk)) (fun e => HH.out.sep.2.2.2.2.2 (e ▸ hk))), HX.out.2⟩
      obtain ⟨wg, hrg, hthg, hfg⟩ := ThAt.put' Try.underlying119 hthf (by have := HG.out.2.1; omega) who HG.out.2.2.2 N (by have := HG.out.2.2.1; unfold maxLen; omega) (HH.out.ok who).1 _ x hv HH.out.sep.2.2.2.2.1
      have hrw := hfg.heap (HF.out.heap HE.out.2.2.1 id) HH.out.sep.1
      have hmg := (HE.out.1.keep HF.out id).keep hfg (fun e => HH.out.sep.2.2.1 e.symm)
      have HY := Lib.hid (And.intro hthg (And.intro hrw (And.intro hmg (hwf.trans hfg (fun k h => .inl (.inl h))))))
      have HRG := Lib.hid hrg
      clear hthf hwf hv hrg hthg hfg hrw hmg
      refine wpList_mu rfl 119 (.tmp 42) (.tmp 43) (.tmp 44) rfl _ _ _ rfl rfl rfl HRG.out ?_
      go_wp2_with fail
      go_ret
      refine ⟨rfl, ⟨HY.out.2.1, HY.out.1, by rw [← len_self (by rw [vPut_len (HH.out.ok who).1, HG.out.1]; rfl)]; exact HY.out.2.2.1.more (Nat.le_succ n), okPut HH.out.ok who N HG.out.2.2.1 x, HH.out.sep⟩, HY.out.2.2.2⟩
set_option maxRecDepth 100000 in
set_option maxHeartbeats 2000000 in
theorem takeN_none {F : Nat → Prop} {bk tm mm n : Nat} {B : Int → VT Bs} (w : World) (h : BkAt kN 121 F w bk tm mm n B) (hF : ∀ k, F k → k < w.heap.size) (hn : n ≤ 100000) (who : Int) (hw : Wf who) (N : ByteArray) (hN : N.size ≤ maxLen) (hg : vGet (B who) N.data.toList = none) :
    Calls Try.prog 69 #[.pointer (some ⟨bk, 0, none⟩), .agg #[.int .i64 who, .string N]] w fun e w' => e = .returned (.tuple #[(.slice none 0 0), .int .i64 5]) ∧ Fr (fun _ => False) w w' := by
  obtain ⟨W1, hW1⟩ : ∃ W1, W1 = w.alloc (.cells #[.int .i64 who, .string N] 114) := ⟨_, rfl⟩
  have hf1 : Fr (fun _ => False) w W1 := by rw [hW1]; exact (Fr.refl _ _).alloc _
  have hP1 : W1.heap[w.heap.size]? = some (.cells #[.int .i64 who, .string N] 114 (0, 0)) := by rw [hW1]; exact heap_alloc_new w _
  have h1 := h.quiet hf1
  obtain ⟨xv, hl1, hl2, hl3⟩ := lookN h1 who hw N hN
  obtain ⟨L, hL⟩ : ∃ L, L = (B who).length := ⟨_, rfl⟩
  have hLn : L ≤ 100000 := by rw [hL]; have := (h.ok who).2.1; omega
  rw [hg] at hl1
  have HXE := Lib.hid (hl3 hg)
  obtain ⟨most, hm0⟩ : ∃ m : Int, m = 0 := ⟨_, rfl⟩
  clear hm0
  obtain ⟨yv, hy0⟩ : ∃ v : Value, v = .nilFunc := ⟨_, rfl⟩
  clear hy0
  have HH := Lib.hid h
  have HFlt := Lib.hid (show ∀ k, F k → k ≠ w.heap.size + 1 from fun k hk e => by have := hF k hk; omega)
  clear hF
  have HW := Lib.hid (And.intro hW1 (And.intro hf1 hP1))
  have HL := Lib.hid (And.intro hL hLn)
  have HG := Lib.hid (And.intro hg (And.intro hn (And.intro hN hw)))
  have LDT := Lib.hid (ldTN h1)
  have LDP := Lib.hid (ldP hP1)
  have LK := Lib.hid hl1
  clear h hW1 hf1 hP1 h1 hl1 hl2 hl3 hL hLn hg hn hN hw
  go_enter Try.func69, Try.ntmps69
  go_wp2_with fail
  rw [← HW.out.1]
  refine wp_region_inv 11 (by kernel_rfl) (by kernel_rfl) (fun W => Fr (fun _ => False) W1 W) (Tk1N bk tm mm (w.heap.size) (w.heap.size + 1) who most N L xv yv false false) (fun _ _ _ _ => True) (Fr (fun _ => False)) (Tk1N.ext bk tm mm (w.heap.size) (w.heap.size + 1) who most N L xv yv false false) (Fr.refl _ _).drew ?_ ?_
  · intro i hi o ho
    replace hi : i < 11 := hi
    obtain rfl | rfl | rfl | rfl | rfl | rfl | rfl | rfl | rfl | rfl | rfl : i = 0 ∨ i = 1 ∨ i = 2 ∨ i = 3 ∨ i = 4 ∨ i = 5 ∨ i = 6 ∨ i = 7 ∨ i = 8 ∨ i = 9 ∨ i = 10 := by omega
    · simp only [List.getElem?_cons_zero, Option.some.injEq] at ho
      subst ho
      intro a W vs hB hS hE hU
      refine wpG_plain rfl ?_
      have v0 : a.eval (.tmp 0) = .pointer (some ⟨bk, 0, none⟩) := (hU 0 (by kernel_rfl)).trans rfl
      clear hE hU
      exact wp_value_inv (w' := W) (.pointer (some ⟨bk, 0, none⟩)) (op_move rfl v0) ⟨_, rfl, hB, Fr.refl _ _, rfl, fun _ _ _ _ _ => trivial⟩
    · simp only [List.getElem?_cons_zero, List.getElem?_cons_succ, Option.some.injEq] at ho
      subst ho
      intro a W vs hB hS hE hU
      refine wpG_plain rfl ?_
      obtain ⟨r0, e9⟩ := hE 0 9 (by kernel_rfl) (by kernel_rfl)
      have v9 : a.eval (.tmp 9) = .pointer (some ⟨bk, 0, none⟩) := e9.trans r0
      clear hE hU
      exact wp_value_inv (w' := W) (.pointer (some ⟨bk, 0, none⟩)) (op_nilCheck rfl v9) ⟨_, rfl, hB, Fr.refl _ _, rfl, fun _ _ _ _ _ => trivial⟩
    · simp only [List.getElem?_cons_zero, List.getElem?_cons_succ, Option.some.injEq] at ho
      subst ho
      intro a W vs hB hS hE hU
      refine wpG_plain rfl ?_
      obtain ⟨r1, e10⟩ := hE 1 10 (by kernel_rfl) (by kernel_rfl)
      have v10 : a.eval (.tmp 10) = .pointer (some ⟨bk, 0, none⟩) := e10.trans r1
      clear hE hU
      exact wp_value_inv (w' := W) (.pointer (some ⟨bk, 0, none⟩)) (op_fieldAddr rfl v10 (fld_spence_view_book___byte__0_0 W bk)) ⟨_, rfl, hB, Fr.refl _ _, rfl, fun _ _ _ _ _ => trivial⟩
    · simp only [List.getElem?_cons_zero, List.getElem?_cons_succ, Option.some.injEq] at ho
      subst ho
      intro a W vs hB hS hE hU
      refine wpG_plain rfl ?_
      obtain ⟨r2, e11⟩ := hE 2 11 (by kernel_rfl) (by kernel_rfl)
      have v11 : a.eval (.tmp 11) = .pointer (some ⟨bk, 0, none⟩) := e11.trans r2
      clear hE hU
      exact wp_value_inv (w' := W) (.map (some tm)) (op_loadAt rfl v11 (LDT.out W hB)) ⟨_, rfl, hB, Fr.refl _ _, rfl, fun _ _ _ _ _ => trivial⟩
    · simp only [List.getElem?_cons_zero, List.getElem?_cons_succ, Option.some.injEq] at ho
      subst ho
      intro a W vs hB hS hE hU
      refine wpG_plain rfl ?_
      have v3 : a.eval (.tmp 3) = .pointer (some ⟨(w.heap.size), 0, none⟩) := (hU 3 (by kernel_rfl)).trans rfl
      clear hE hU
      exact wp_value_inv (w' := W) (.agg #[.int .i64 who, .string N]) (op_loadAt rfl v3 (LDP.out W hB)) ⟨_, rfl, hB, Fr.refl _ _, rfl, fun _ _ _ _ _ => trivial⟩
    · simp only [List.getElem?_cons_zero, List.getElem?_cons_succ, Option.some.injEq] at ho
      subst ho
      intro a W vs hB hS hE hU
      refine wpG_plain rfl ?_
      obtain ⟨r3, e12⟩ := hE 3 12 (by kernel_rfl) (by kernel_rfl)
      have v12 : a.eval (.tmp 12) = .map (some tm) := e12.trans r3
      obtain ⟨r4, e13⟩ := hE 4 13 (by kernel_rfl) (by kernel_rfl)
      have v13 : a.eval (.tmp 13) = .agg #[.int .i64 who, .string N] := e13.trans r4
      clear hE hU
      exact wp_value_inv (w' := W) (.tuple #[xv, .bool false]) (op_lookup rfl v12 v13 (LK.out W hB)) ⟨_, rfl, hB, Fr.refl _ _, rfl, fun _ _ _ _ _ => trivial⟩
    · simp only [List.getElem?_cons_zero, List.getElem?_cons_succ, Option.some.injEq] at ho
      subst ho
      intro a W vs hB hS hE hU
      refine wpG_plain rfl ?_
      obtain ⟨r5, e14⟩ := hE 5 14 (by kernel_rfl) (by kernel_rfl)
      have v14 : a.eval (.tmp 14) = .tuple #[xv, .bool false] := e14.trans r5
      clear hE hU
      exact wp_value_inv (w' := W) (.tuple #[xv, .bool false]) (op_move rfl v14) ⟨_, rfl, hB, Fr.refl _ _, rfl, fun _ _ _ _ _ => trivial⟩
    · simp only [List.getElem?_cons_zero, List.getElem?_cons_succ, Option.some.injEq] at ho
      subst ho
      intro a W vs hB hS hE hU
      refine wpG_plain rfl ?_
      obtain ⟨r6, e8⟩ := hE 6 8 (by kernel_rfl) (by kernel_rfl)
      have v8 : a.eval (.tmp 8) = .tuple #[xv, .bool false] := e8.trans r6
      clear hE hU
      exact wp_value_inv (w' := W) (xv) (op_extract5 rfl v8 rfl) ⟨_, rfl, hB, Fr.refl _ _, rfl, fun _ _ _ _ _ => trivial⟩
    · simp only [List.getElem?_cons_zero, List.getElem?_cons_succ, Option.some.injEq] at ho
      subst ho
      intro a W vs hB hS hE hU
      refine wpG_plain rfl ?_
      obtain ⟨r6, e8⟩ := hE 6 8 (by kernel_rfl) (by kernel_rfl)
      have v8 : a.eval (.tmp 8) = .tuple #[xv, .bool false] := e8.trans r6
      clear hE hU
      exact wp_value_inv (w' := W) (.bool false) (op_extract5 rfl v8 rfl) ⟨_, rfl, hB, Fr.refl _ _, rfl, fun _ _ _ _ _ => trivial⟩
    · simp only [List.getElem?_cons_zero, List.getElem?_cons_succ, Option.some.injEq] at ho
      subst ho
      intro a W vs hB hS hE hU
      refine wpG_plain rfl ?_
      obtain ⟨r7, e15⟩ := hE 7 15 (by kernel_rfl) (by kernel_rfl)
      have v15 : a.eval (.tmp 15) = xv := e15.trans r7
      clear hE hU
      exact wp_value_inv (w' := W) (xv) (op_assign rfl v15) ⟨_, rfl, hB, Fr.refl _ _, rfl, fun _ _ _ _ _ => trivial⟩
    · simp only [List.getElem?_cons_zero, List.getElem?_cons_succ, Option.some.injEq] at ho
      subst ho
      intro a W vs hB hS hE hU
      refine wpG_plain rfl ?_
      obtain ⟨r8, e16⟩ := hE 8 16 (by kernel_rfl) (by kernel_rfl)
      have v16 : a.eval (.tmp 16) = .bool false := e16.trans r8
      clear hE hU
      exact wp_value_inv (w' := W) (.bool false) (op_assign rfl v16) ⟨_, rfl, hB, Fr.refl _ _, rfl, fun _ _ _ _ _ => trivial⟩
  · intro vs Wa hB0 hR0 hD
    have r7 : vs 10 = .bool false := hR0 10 (by decide)
    have r6 : vs 9 = xv := hR0 9 (by decide)
    have HA := Lib.hid hB0
    clear hR0 hD hB0
    simp only [acts, if_true, dstAt, List.getElem?_cons_zero, List.getElem?_cons_succ, Option.bind_some, Act.put, List.setIfInBounds_toArray, List.set_cons_succ, List.set_cons_zero, List.drop_succ_cons, List.drop_nil]
    simp only [r7, r6]
    clear r7 r6
    obtain ⟨Wb, hWb⟩ : ∃ Wb, Wb = Wa := ⟨_, rfl⟩
    rw [← hWb]
    have hfb : Fr (fun _ => False) W1 Wb := by rw [hWb]; exact HA.out
    have hwb := HW.out.2.1.trans hfb (fun _ h => h.elim)
    have hPb := hfb.heap HW.out.2.2 id
    have hkb := HH.out.quiet hwb
    clear hWb hfb hPb hkb
    have HB := Lib.hid hwb
    clear hwb
    go_wp2_with fail
    go_ret2
    rw [HXE.out]
    exact ⟨rfl, HB.out⟩
set_option maxRecDepth 100000 in
set_option maxHeartbeats 2000000 in
theorem takeN_some {F : Nat → Prop} {bk tm mm n : Nat} {B : Int → VT Bs} (w : World) (h : BkAt kN 121 F w bk tm mm n B) (hF : ∀ k, F k → k < w.heap.size) (hn : n ≤ 100000) (who : Int) (hw : Wf who) (N : ByteArray) (hN : N.size ≤ maxLen) (x : Bs) (hg : vGet (B who) N.data.toList = some x) :
    Calls Try.prog 69 #[.pointer (some ⟨bk, 0, none⟩), .agg #[.int .i64 who, .string N]] w fun e w' => ∃ v, e = .returned (.tuple #[v, .int .i64 0]) ∧ kN.vi F w v x ∧ BkAt kN 121 F w' bk tm mm (n + 1) (upd B who (vDel (B who) N.data.toList)) ∧ Fr (fun k => k = tm ∨ k = mm) w w' := by
  obtain ⟨W1, hW1⟩ : ∃ W1, W1 = w.alloc (.cells #[.int .i64 who, .string N] 114) := ⟨_, rfl⟩
  have hf1 : Fr (fun _ => False) w W1 := by rw [hW1]; exact (Fr.refl _ _).alloc _
  have hP1 : W1.heap[w.heap.size]? = some (.cells #[.int .i64 who, .string N] 114 (0, 0)) := by rw [hW1]; exact heap_alloc_new w _
  have h1 := h.quiet hf1
  obtain ⟨xv, hl1, hl2, hl3⟩ := lookN h1 who hw N hN
  obtain ⟨L, hL⟩ : ∃ L, L = (B who).length := ⟨_, rfl⟩
  have hLn : L ≤ 100000 := by rw [hL]; have := (h.ok who).2.1; omega
  rw [hg] at hl1
  have hL1 : 1 ≤ L := by rw [hL]; exact List.length_pos_of_mem (vGet_mem hg)
  have hvx : kN.vi F w xv x := by
    obtain ⟨v0, g0, g2, g3⟩ := lookN h who hw N hN
    have e1 := g0 W1 hf1
    have e2 := hl1 W1 (Fr.refl _ _)
    rw [hg] at e1
    rw [e1] at e2
    simp only [Result.ok.injEq, Value.tuple.injEq, and_true] at e2
    have e3 := congrArg (fun a : Array Value => a[0]?) e2
    simp at e3
    rw [← e3]
    exact g2 x hg
  obtain ⟨most, hm0⟩ : ∃ m : Int, m = 0 := ⟨_, rfl⟩
  clear hm0
  obtain ⟨yv, hy0⟩ : ∃ v : Value, v = .nilFunc := ⟨_, rfl⟩
  clear hy0
  have HH := Lib.hid h
  have HFlt := Lib.hid (show ∀ k, F k → k ≠ w.heap.size + 1 from fun k hk e => by have := hF k hk; omega)
  clear hF
  have HW := Lib.hid (And.intro hW1 (And.intro hf1 hP1))
  have HL := Lib.hid (And.intro hL hLn)
  have HG := Lib.hid (And.intro hg (And.intro hn (And.intro hN hw)))
  have LDT := Lib.hid (ldTN h1)
  have LDP := Lib.hid (ldP hP1)
  have LK := Lib.hid hl1
  clear h hW1 hf1 hP1 h1 hl1 hl2 hl3 hL hLn hg hn hN hw
  go_enter Try.func69, Try.ntmps69
  go_wp2_with fail
  rw [← HW.out.1]
  refine wp_region_inv 11 (by kernel_rfl) (by kernel_rfl) (fun W => Fr (fun _ => False) W1 W) (Tk1N bk tm mm (w.heap.size) (w.heap.size + 1) who most N L xv yv true false) (fun _ _ _ _ => True) (Fr (fun _ => False)) (Tk1N.ext bk tm mm (w.heap.size) (w.heap.size + 1) who most N L xv yv true false) (Fr.refl _ _).drew ?_ ?_
  · intro i hi o ho
    replace hi : i < 11 := hi
    obtain rfl | rfl | rfl | rfl | rfl | rfl | rfl | rfl | rfl | rfl | rfl : i = 0 ∨ i = 1 ∨ i = 2 ∨ i = 3 ∨ i = 4 ∨ i = 5 ∨ i = 6 ∨ i = 7 ∨ i = 8 ∨ i = 9 ∨ i = 10 := by omega
    · simp only [List.getElem?_cons_zero, Option.some.injEq] at ho
      subst ho
      intro a W vs hB hS hE hU
      refine wpG_plain rfl ?_
      have v0 : a.eval (.tmp 0) = .pointer (some ⟨bk, 0, none⟩) := (hU 0 (by kernel_rfl)).trans rfl
      clear hE hU
      exact wp_value_inv (w' := W) (.pointer (some ⟨bk, 0, none⟩)) (op_move rfl v0) ⟨_, rfl, hB, Fr.refl _ _, rfl, fun _ _ _ _ _ => trivial⟩
    · simp only [List.getElem?_cons_zero, List.getElem?_cons_succ, Option.some.injEq] at ho
      subst ho
      intro a W vs hB hS hE hU
      refine wpG_plain rfl ?_
      obtain ⟨r0, e9⟩ := hE 0 9 (by kernel_rfl) (by kernel_rfl)
      have v9 : a.eval (.tmp 9) = .pointer (some ⟨bk, 0, none⟩) := e9.trans r0
      clear hE hU
      exact wp_value_inv (w' := W) (.pointer (some ⟨bk, 0, none⟩)) (op_nilCheck rfl v9) ⟨_, rfl, hB, Fr.refl _ _, rfl, fun _ _ _ _ _ => trivial⟩
    · simp only [List.getElem?_cons_zero, List.getElem?_cons_succ, Option.some.injEq] at ho
      subst ho
      intro a W vs hB hS hE hU
      refine wpG_plain rfl ?_
      obtain ⟨r1, e10⟩ := hE 1 10 (by kernel_rfl) (by kernel_rfl)
      have v10 : a.eval (.tmp 10) = .pointer (some ⟨bk, 0, none⟩) := e10.trans r1
      clear hE hU
      exact wp_value_inv (w' := W) (.pointer (some ⟨bk, 0, none⟩)) (op_fieldAddr rfl v10 (fld_spence_view_book___byte__0_0 W bk)) ⟨_, rfl, hB, Fr.refl _ _, rfl, fun _ _ _ _ _ => trivial⟩
    · simp only [List.getElem?_cons_zero, List.getElem?_cons_succ, Option.some.injEq] at ho
      subst ho
      intro a W vs hB hS hE hU
      refine wpG_plain rfl ?_
      obtain ⟨r2, e11⟩ := hE 2 11 (by kernel_rfl) (by kernel_rfl)
      have v11 : a.eval (.tmp 11) = .pointer (some ⟨bk, 0, none⟩) := e11.trans r2
      clear hE hU
      exact wp_value_inv (w' := W) (.map (some tm)) (op_loadAt rfl v11 (LDT.out W hB)) ⟨_, rfl, hB, Fr.refl _ _, rfl, fun _ _ _ _ _ => trivial⟩
    · simp only [List.getElem?_cons_zero, List.getElem?_cons_succ, Option.some.injEq] at ho
      subst ho
      intro a W vs hB hS hE hU
      refine wpG_plain rfl ?_
      have v3 : a.eval (.tmp 3) = .pointer (some ⟨(w.heap.size), 0, none⟩) := (hU 3 (by kernel_rfl)).trans rfl
      clear hE hU
      exact wp_value_inv (w' := W) (.agg #[.int .i64 who, .string N]) (op_loadAt rfl v3 (LDP.out W hB)) ⟨_, rfl, hB, Fr.refl _ _, rfl, fun _ _ _ _ _ => trivial⟩
    · simp only [List.getElem?_cons_zero, List.getElem?_cons_succ, Option.some.injEq] at ho
      subst ho
      intro a W vs hB hS hE hU
      refine wpG_plain rfl ?_
      obtain ⟨r3, e12⟩ := hE 3 12 (by kernel_rfl) (by kernel_rfl)
      have v12 : a.eval (.tmp 12) = .map (some tm) := e12.trans r3
      obtain ⟨r4, e13⟩ := hE 4 13 (by kernel_rfl) (by kernel_rfl)
      have v13 : a.eval (.tmp 13) = .agg #[.int .i64 who, .string N] := e13.trans r4
      clear hE hU
      exact wp_value_inv (w' := W) (.tuple #[xv, .bool true]) (op_lookup rfl v12 v13 (LK.out W hB)) ⟨_, rfl, hB, Fr.refl _ _, rfl, fun _ _ _ _ _ => trivial⟩
    · simp only [List.getElem?_cons_zero, List.getElem?_cons_succ, Option.some.injEq] at ho
      subst ho
      intro a W vs hB hS hE hU
      refine wpG_plain rfl ?_
      obtain ⟨r5, e14⟩ := hE 5 14 (by kernel_rfl) (by kernel_rfl)
      have v14 : a.eval (.tmp 14) = .tuple #[xv, .bool true] := e14.trans r5
      clear hE hU
      exact wp_value_inv (w' := W) (.tuple #[xv, .bool true]) (op_move rfl v14) ⟨_, rfl, hB, Fr.refl _ _, rfl, fun _ _ _ _ _ => trivial⟩
    · simp only [List.getElem?_cons_zero, List.getElem?_cons_succ, Option.some.injEq] at ho
      subst ho
      intro a W vs hB hS hE hU
      refine wpG_plain rfl ?_
      obtain ⟨r6, e8⟩ := hE 6 8 (by kernel_rfl) (by kernel_rfl)
      have v8 : a.eval (.tmp 8) = .tuple #[xv, .bool true] := e8.trans r6
      clear hE hU
      exact wp_value_inv (w' := W) (xv) (op_extract5 rfl v8 rfl) ⟨_, rfl, hB, Fr.refl _ _, rfl, fun _ _ _ _ _ => trivial⟩
    · simp only [List.getElem?_cons_zero, List.getElem?_cons_succ, Option.some.injEq] at ho
      subst ho
      intro a W vs hB hS hE hU
      refine wpG_plain rfl ?_
      obtain ⟨r6, e8⟩ := hE 6 8 (by kernel_rfl) (by kernel_rfl)
      have v8 : a.eval (.tmp 8) = .tuple #[xv, .bool true] := e8.trans r6
      clear hE hU
      exact wp_value_inv (w' := W) (.bool true) (op_extract5 rfl v8 rfl) ⟨_, rfl, hB, Fr.refl _ _, rfl, fun _ _ _ _ _ => trivial⟩
    · simp only [List.getElem?_cons_zero, List.getElem?_cons_succ, Option.some.injEq] at ho
      subst ho
      intro a W vs hB hS hE hU
      refine wpG_plain rfl ?_
      obtain ⟨r7, e15⟩ := hE 7 15 (by kernel_rfl) (by kernel_rfl)
      have v15 : a.eval (.tmp 15) = xv := e15.trans r7
      clear hE hU
      exact wp_value_inv (w' := W) (xv) (op_assign rfl v15) ⟨_, rfl, hB, Fr.refl _ _, rfl, fun _ _ _ _ _ => trivial⟩
    · simp only [List.getElem?_cons_zero, List.getElem?_cons_succ, Option.some.injEq] at ho
      subst ho
      intro a W vs hB hS hE hU
      refine wpG_plain rfl ?_
      obtain ⟨r8, e16⟩ := hE 8 16 (by kernel_rfl) (by kernel_rfl)
      have v16 : a.eval (.tmp 16) = .bool true := e16.trans r8
      clear hE hU
      exact wp_value_inv (w' := W) (.bool true) (op_assign rfl v16) ⟨_, rfl, hB, Fr.refl _ _, rfl, fun _ _ _ _ _ => trivial⟩
  · intro vs Wa hB0 hR0 hD
    have r7 : vs 10 = .bool true := hR0 10 (by decide)
    have r6 : vs 9 = xv := hR0 9 (by decide)
    have HA := Lib.hid hB0
    clear hR0 hD hB0
    simp only [acts, if_true, dstAt, List.getElem?_cons_zero, List.getElem?_cons_succ, Option.bind_some, Act.put, List.setIfInBounds_toArray, List.set_cons_succ, List.set_cons_zero, List.drop_succ_cons, List.drop_nil]
    simp only [r7, r6]
    clear r7 r6
    obtain ⟨Wb, hWb⟩ : ∃ Wb, Wb = Wa := ⟨_, rfl⟩
    rw [← hWb]
    have hfb : Fr (fun _ => False) W1 Wb := by rw [hWb]; exact HA.out
    have hwb := HW.out.2.1.trans hfb (fun _ h => h.elim)
    have hPb := hfb.heap HW.out.2.2 id
    have hkb := HH.out.quiet hwb
    have LDT := Lib.hid (ldTN hkb)
    have LDP := Lib.hid (ldP hPb)
    have HB := Lib.hid (And.intro hwb (And.intro hPb (And.intro hkb True.intro)))
    clear hWb
    clear hfb hwb hPb hkb
    go_wp2_with fail
    refine wp_region_inv 5 (by kernel_rfl) (by kernel_rfl) (fun W => Fr (fun _ => False) Wb W) (Tk4N bk tm mm (w.heap.size) (w.heap.size + 1) who most N L xv yv true false) (fun _ _ _ _ => True) (Fr (fun _ => False)) (Tk4N.ext bk tm mm (w.heap.size) (w.heap.size + 1) who most N L xv yv true false) (Fr.refl _ _).drew ?_ ?_
    · intro i hi o ho
      replace hi : i < 5 := hi
      obtain rfl | rfl | rfl | rfl | rfl : i = 0 ∨ i = 1 ∨ i = 2 ∨ i = 3 ∨ i = 4 := by omega
      · simp only [List.getElem?_cons_zero, Option.some.injEq] at ho
        subst ho
        intro a W vs hB hS hE hU
        refine wpG_plain rfl ?_
        have v0 : a.eval (.tmp 0) = .pointer (some ⟨bk, 0, none⟩) := (hU 0 (by kernel_rfl)).trans rfl
        clear hE hU
        exact wp_value_inv (w' := W) (.pointer (some ⟨bk, 0, none⟩)) (op_move rfl v0) ⟨_, rfl, hB, Fr.refl _ _, rfl, fun _ _ _ _ _ => trivial⟩
      · simp only [List.getElem?_cons_zero, List.getElem?_cons_succ, Option.some.injEq] at ho
        subst ho
        intro a W vs hB hS hE hU
        refine wpG_plain rfl ?_
        obtain ⟨r0, e20⟩ := hE 0 20 (by kernel_rfl) (by kernel_rfl)
        have v20 : a.eval (.tmp 20) = .pointer (some ⟨bk, 0, none⟩) := e20.trans r0
        clear hE hU
        exact wp_value_inv (w' := W) (.pointer (some ⟨bk, 0, none⟩)) (op_nilCheck rfl v20) ⟨_, rfl, hB, Fr.refl _ _, rfl, fun _ _ _ _ _ => trivial⟩
      · simp only [List.getElem?_cons_zero, List.getElem?_cons_succ, Option.some.injEq] at ho
        subst ho
        intro a W vs hB hS hE hU
        refine wpG_plain rfl ?_
        obtain ⟨r1, e21⟩ := hE 1 21 (by kernel_rfl) (by kernel_rfl)
        have v21 : a.eval (.tmp 21) = .pointer (some ⟨bk, 0, none⟩) := e21.trans r1
        clear hE hU
        exact wp_value_inv (w' := W) (.pointer (some ⟨bk, 0, none⟩)) (op_fieldAddr rfl v21 (fld_spence_view_book___byte__0_0 W bk)) ⟨_, rfl, hB, Fr.refl _ _, rfl, fun _ _ _ _ _ => trivial⟩
      · simp only [List.getElem?_cons_zero, List.getElem?_cons_succ, Option.some.injEq] at ho
        subst ho
        intro a W vs hB hS hE hU
        refine wpG_plain rfl ?_
        obtain ⟨r2, e22⟩ := hE 2 22 (by kernel_rfl) (by kernel_rfl)
        have v22 : a.eval (.tmp 22) = .pointer (some ⟨bk, 0, none⟩) := e22.trans r2
        clear hE hU
        exact wp_value_inv (w' := W) (.map (some tm)) (op_loadAt rfl v22 (LDT.out W hB)) ⟨_, rfl, hB, Fr.refl _ _, rfl, fun _ _ _ _ _ => trivial⟩
      · simp only [List.getElem?_cons_zero, List.getElem?_cons_succ, Option.some.injEq] at ho
        subst ho
        intro a W vs hB hS hE hU
        refine wpG_plain rfl ?_
        have v3 : a.eval (.tmp 3) = .pointer (some ⟨(w.heap.size), 0, none⟩) := (hU 3 (by kernel_rfl)).trans rfl
        clear hE hU
        exact wp_value_inv (w' := W) (.agg #[.int .i64 who, .string N]) (op_loadAt rfl v3 (LDP.out W hB)) ⟨_, rfl, hB, Fr.refl _ _, rfl, fun _ _ _ _ _ => trivial⟩
    · intro vs Wc hB0 hR0 hD
      have r23 : vs 3 = .map (some tm) := hR0 3 (by decide)
      have r24 : vs 4 = .agg #[.int .i64 who, .string N] := hR0 4 (by decide)
      have HC := Lib.hid hB0
      clear hR0 hD hB0
      simp only [acts, if_true, dstAt, List.getElem?_cons_zero, List.getElem?_cons_succ, Option.bind_some, Act.put, List.setIfInBounds_toArray, List.set_cons_succ, List.set_cons_zero, List.drop_succ_cons]
      simp only [r23, r24]
      clear r23 r24
      have hkc := HB.out.2.2.1.quiet HC.out
      have hdel := fun ty => ThAt.del' Try.underlying119 hkc.th who HG.out.2.2.2 N HG.out.2.2.1 HH.out.sep.2.2.2.2.1 ty
      obtain ⟨wd, hrd, hthd, hfd⟩ := hdel 0
      have hrd' : ∀ ty, (Builtin.delete_ #[119, 114] ty #[.map (some tm), .agg #[.int .i64 who, .string N]]).run Try.prog Wc = .ok (.tuple #[]) wd := fun ty => hrd
      have hwd : Fr (fun k => k = tm ∨ k = mm) w wd := ((HB.out.1.trans HC.out (fun _ h => h.elim)).mono (T := fun k => k = tm ∨ k = mm) (fun _ _ h => h.elim)).trans hfd (fun k h => .inl (.inl h))
      have hPd := hfd.heap (HC.out.heap HB.out.2.1 id) (fun e => by have := HH.out.lt; omega)
      have hrw := hfd.heap hkc.row HH.out.sep.1
      have hmn := hkc.mn.keep hfd (fun e => HH.out.sep.2.2.1 e.symm)
      have LDM := Lib.hid (fun W (hf : Fr (fun _ => False) wd W) => load_one5 W 116 ⟨bk, 1, none⟩ _ (by kernel_rfl) (hf.cell (cell_of_row _ _ _ _ _ _ hrw) id))
      have LDW := Lib.hid (ldW hPd)
      have LKM := Lib.hid (fun W (hf : Fr (fun _ => False) wd W) => (hmn.keep hf id).look who HG.out.2.2.2)
      rw [← HL.out.1] at LKM
      have G := Lib.hid (show 1 ≤ L ∧ L ≤ 1000000 from ⟨hL1, by have := HL.out.2; omega⟩)
      have HD := Lib.hid (And.intro hthd (And.intro hmn (And.intro hrw (And.intro hwd True.intro))))
      have HRD := Lib.hid hrd'
      clear hkc hdel hrd hrd' hthd hfd hwd hPd hrw hmn hL1
      refine wpList_dl rfl 119 114 (.tmp 23) (.tmp 24) rfl _ _ rfl rfl HRD.out ?_
      go_wp2_with fail
      refine wp_region_inv 8 (by kernel_rfl) (by kernel_rfl) (fun W => Fr (fun _ => False) wd W) (Tk5N bk tm mm (w.heap.size) (w.heap.size + 1) who most N L xv yv true false) (fun _ _ _ _ => True) (Fr (fun _ => False)) (Tk5N.ext bk tm mm (w.heap.size) (w.heap.size + 1) who most N L xv yv true false) (Fr.refl _ _).drew ?_ ?_
      · intro i hi o ho
        replace hi : i < 8 := hi
        obtain rfl | rfl | rfl | rfl | rfl | rfl | rfl | rfl : i = 0 ∨ i = 1 ∨ i = 2 ∨ i = 3 ∨ i = 4 ∨ i = 5 ∨ i = 6 ∨ i = 7 := by omega
        · simp only [List.getElem?_cons_zero, Option.some.injEq] at ho
          subst ho
          intro a W vs hB hS hE hU
          refine wpG_plain rfl ?_
          have v0 : a.eval (.tmp 0) = .pointer (some ⟨bk, 0, none⟩) := (hU 0 (by kernel_rfl)).trans rfl
          clear hE hU
          exact wp_value_inv (w' := W) (.pointer (some ⟨bk, 0, none⟩)) (op_move rfl v0) ⟨_, rfl, hB, Fr.refl _ _, rfl, fun _ _ _ _ _ => trivial⟩
        · simp only [List.getElem?_cons_zero, List.getElem?_cons_succ, Option.some.injEq] at ho
          subst ho
          intro a W vs hB hS hE hU
          refine wpG_plain rfl ?_
          obtain ⟨r0, e25⟩ := hE 0 25 (by kernel_rfl) (by kernel_rfl)
          have v25 : a.eval (.tmp 25) = .pointer (some ⟨bk, 0, none⟩) := e25.trans r0
          clear hE hU
          exact wp_value_inv (w' := W) (.pointer (some ⟨bk, 0, none⟩)) (op_nilCheck rfl v25) ⟨_, rfl, hB, Fr.refl _ _, rfl, fun _ _ _ _ _ => trivial⟩
        · simp only [List.getElem?_cons_zero, List.getElem?_cons_succ, Option.some.injEq] at ho
          subst ho
          intro a W vs hB hS hE hU
          refine wpG_plain rfl ?_
          obtain ⟨r1, e26⟩ := hE 1 26 (by kernel_rfl) (by kernel_rfl)
          have v26 : a.eval (.tmp 26) = .pointer (some ⟨bk, 0, none⟩) := e26.trans r1
          clear hE hU
          exact wp_value_inv (w' := W) (.pointer (some ⟨bk, 1, none⟩)) (op_fieldAddr rfl v26 (fld_spence_view_book___byte__1_0 W bk)) ⟨_, rfl, hB, Fr.refl _ _, rfl, fun _ _ _ _ _ => trivial⟩
        · simp only [List.getElem?_cons_zero, List.getElem?_cons_succ, Option.some.injEq] at ho
          subst ho
          intro a W vs hB hS hE hU
          refine wpG_plain rfl ?_
          obtain ⟨r2, e27⟩ := hE 2 27 (by kernel_rfl) (by kernel_rfl)
          have v27 : a.eval (.tmp 27) = .pointer (some ⟨bk, 1, none⟩) := e27.trans r2
          clear hE hU
          exact wp_value_inv (w' := W) (.map (some mm)) (op_loadAt rfl v27 (LDM.out W hB)) ⟨_, rfl, hB, Fr.refl _ _, rfl, fun _ _ _ _ _ => trivial⟩
        · simp only [List.getElem?_cons_zero, List.getElem?_cons_succ, Option.some.injEq] at ho
          subst ho
          intro a W vs hB hS hE hU
          refine wpG_plain rfl ?_
          have v3 : a.eval (.tmp 3) = .pointer (some ⟨(w.heap.size), 0, none⟩) := (hU 3 (by kernel_rfl)).trans rfl
          clear hE hU
          exact wp_value_inv (w' := W) (.pointer (some ⟨(w.heap.size), 0, none⟩)) (op_fieldAddr rfl v3 (fldPtN_0_0 W (w.heap.size))) ⟨_, rfl, hB, Fr.refl _ _, rfl, fun _ _ _ _ _ => trivial⟩
        · simp only [List.getElem?_cons_zero, List.getElem?_cons_succ, Option.some.injEq] at ho
          subst ho
          intro a W vs hB hS hE hU
          refine wpG_plain rfl ?_
          obtain ⟨r4, e29⟩ := hE 4 29 (by kernel_rfl) (by kernel_rfl)
          have v29 : a.eval (.tmp 29) = .pointer (some ⟨(w.heap.size), 0, none⟩) := e29.trans r4
          clear hE hU
          exact wp_value_inv (w' := W) (.int .i64 who) (op_loadAt rfl v29 (LDW.out W hB)) ⟨_, rfl, hB, Fr.refl _ _, rfl, fun _ _ _ _ _ => trivial⟩
        · simp only [List.getElem?_cons_zero, List.getElem?_cons_succ, Option.some.injEq] at ho
          subst ho
          intro a W vs hB hS hE hU
          refine wpG_plain rfl ?_
          obtain ⟨r3, e28⟩ := hE 3 28 (by kernel_rfl) (by kernel_rfl)
          have v28 : a.eval (.tmp 28) = .map (some mm) := e28.trans r3
          obtain ⟨r5, e30⟩ := hE 5 30 (by kernel_rfl) (by kernel_rfl)
          have v30 : a.eval (.tmp 30) = .int .i64 who := e30.trans r5
          clear hE hU
          exact wp_value_inv (w' := W) (.int .i64 (L : Nat)) (op_lookup rfl v28 v30 (LKM.out W hB)) ⟨_, rfl, hB, Fr.refl _ _, rfl, fun _ _ _ _ _ => trivial⟩
        · simp only [List.getElem?_cons_zero, List.getElem?_cons_succ, Option.some.injEq] at ho
          subst ho
          intro a W vs hB hS hE hU
          refine wpG_plain rfl ?_
          obtain ⟨r6, e31⟩ := hE 6 31 (by kernel_rfl) (by kernel_rfl)
          have v31 : a.eval (.tmp 31) = .int .i64 (L : Nat) := e31.trans r6
          clear hE hU
          exact wp_value_inv (w' := W) (.int .i64 (L - 1 : Nat)) (op_bin rfl v31 rfl (rfl) (subL W G.out)) ⟨_, rfl, hB, Fr.refl _ _, rfl, fun _ _ _ _ _ => trivial⟩
      · intro vs We hB0 hR0 hD
        have r28 : vs 3 = .map (some mm) := hR0 3 (by decide)
        have r30 : vs 5 = .int .i64 who := hR0 5 (by decide)
        have r32 : vs 7 = .int .i64 (L - 1 : Nat) := hR0 7 (by decide)
        have HE := Lib.hid hB0
        clear hR0 hD hB0
        simp only [acts, if_true, dstAt, List.getElem?_cons_zero, List.getElem?_cons_succ, Option.bind_some, Act.put, List.setIfInBounds_toArray, List.set_cons_succ, List.set_cons_zero, List.drop_succ_cons]
        simp only [r28, r30, r32]
        clear r28 r30 r32
        have hme0 := HD.out.2.1.keep HE.out id
        obtain ⟨wg, hrg, hmg, hfg⟩ := hme0.put (by have := HG.out.2.1; omega) who HG.out.2.2.2 (L - 1)
        have hrw := hfg.heap (HE.out.heap HD.out.2.2.1 id) HH.out.sep.2.1
        have hth := (HD.out.1.keep HE.out id (fun _ _ _ h => h)).keep hfg HH.out.sep.2.2.1 (fun k _ hk e => HH.out.sep.2.2.2.2.2 (e ▸ hk))
        have hwg := (HD.out.2.2.2.1.trans HE.out (fun _ h => h.elim)).trans hfg (fun k h => .inl (.inr h))
        have HY := Lib.hid (And.intro hth (And.intro hrw (And.intro hmg (And.intro hwg True.intro))))
        have HRG := Lib.hid hrg
        clear hme0 hrg hmg hfg hrw hth hwg
        refine wpList_mu rfl 116 (.tmp 28) (.tmp 30) (.tmp 32) rfl _ _ _ rfl rfl rfl HRG.out ?_
        have hbk : ∀ w', Fr (fun _ => False) wg w' → BkAt kN 121 F w' bk tm mm (n + 1) (upd B who (vDel (B who) N.data.toList)) := fun w' hf => (⟨HY.out.2.1, HY.out.1.more (Nat.le_succ n), (by rw [← upd_len (m := L - 1) (by have := vDel_len (HH.out.ok who).1 (k := N.data.toList) (by rw [HG.out.1]; rfl); rw [HL.out.1]; omega)]; exact HY.out.2.2.1), okDel HH.out.ok who _, HH.out.sep⟩ : BkAt kN 121 F wg bk tm mm (n + 1) (upd B who (vDel (B who) N.data.toList))).quiet hf
        have HK := Lib.hid (And.intro hbk hvx)
        clear hbk hvx
        go_wp2_with fail
        go_ret2
        exact ⟨_, rfl, HK.out.2, HK.out.1 _ (Fr.refl _ _), HY.out.2.2.2.1⟩
end Go.Proofs.Ytdpaobflknkbkaa
