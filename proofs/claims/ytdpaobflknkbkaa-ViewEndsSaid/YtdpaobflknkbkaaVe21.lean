/- Laid together: VFits -/
import Derived.Test.YtdpaobflknkbkaaVe17
import Derived.Test.YtdpaobflknkbkaaVe19
import Derived.Test.YtdpaobflknkbkaaVe20
import Derived.Laws.StructEq
import Derived.DeepKeys4

namespace Go.Proofs.Ytdpaobflknkbkaa
open Go.RowKit Go.ChangeShapes
set_option linter.unusedVariables false
theorem q_fields9 : (Try.prog.fieldsOf 38).toList.map (fun f => (f.name, f.type, f.offset)) = [("Bytes", 3, 0), ("Objects", 3, 1), ("Roots", 3, 2), ("Notes", 3, 3)] := by kernel_rfl
theorem four_of_map9 {α β : Type} {g : α → β} {l : List α} {x y z u : β} (h : l.map g = [x, y, z, u]) : ∃ a b c d, l = [a, b, c, d] ∧ g a = x ∧ g b = y ∧ g c = z ∧ g d = u := by
  have hl := congrArg List.length h
  rw [List.length_map] at hl
  match l, hl with
  | [a, b, c, d], _ =>
    simp only [List.map_cons, List.map_nil, List.cons.injEq, and_true] at h
    exact ⟨a, b, c, d, rfl, h.1, h.2.1, h.2.2.1, h.2.2.2⟩
theorem eqFields_cons9 {P : Program} (w : World) (d : Nat) (xs ys : Array Value) (f : Field) (fs : List Field) (hn : f.name ≠ "_") (a b : Value) (r : Bool) (h1 : (part f.type xs f.offset).run P w = .ok a w) (h2 : (part f.type ys f.offset).run P w = .ok b w)
    (h3 : (Op.equalIn d f.type a b).run P w = .ok r w) : (Op.eqFields d xs ys (f :: fs)).run P w = if r = true then (Op.eqFields d xs ys fs).run P w else .ok false w := by
  rw [Op.eqFields, if_pos hn]
  simp only [Sem.run_bind, h1, h2, h3, Result.andThen_ok]
  cases r
  · simp
  · simp
theorem eq_int_self9 (w : World) (d : Nat) (a : Int) : (Op.equalIn (d + 1) 3 (.int .i64 a) (.int .i64 a)).run Try.prog w = .ok true w := by
  have h : (Op.equalIn (d + 1) 3 (.int .i64 a) (.int .i64 a)).run Try.prog w = .ok (a == a) w := by kernel_rfl
  rw [h, beq_self_eq_true]
theorem neq_q9 (w : World) (a b c e : Int) :
    (binOp .neq 38 (.agg #[.int .i64 a, .int .i64 b, .int .i64 c, .int .i64 e]) (.agg #[.int .i64 a, .int .i64 b, .int .i64 c, .int .i64 e])).run Try.prog w = .ok (.bool false) w := by
  rw [run_neq_struct, show Op.equalIn 10000 = Op.equalIn (9998 + 2) from rfl]
  have h : (Op.equalIn (9998 + 2) 38 (.agg #[.int .i64 a, .int .i64 b, .int .i64 c, .int .i64 e]) (.agg #[.int .i64 a, .int .i64 b, .int .i64 c, .int .i64 e])).run Try.prog w = .ok true w := by
    rw [run_equalIn_struct w (9998 + 1) 38 _ _ (by kernel_rfl) (by kernel_rfl)]
    obtain ⟨f1, f2, f3, f4, hf, x1, x2, x3, x4⟩ := four_of_map9 q_fields9
    simp only [Prod.mk.injEq] at x1 x2 x3 x4
    obtain ⟨n1, t1, o1⟩ := x1
    obtain ⟨n2, t2, o2⟩ := x2
    obtain ⟨n3, t3, o3⟩ := x3
    obtain ⟨n4, t4, o4⟩ := x4
    rw [hf]
    rw [eqFields_cons9 w _ _ _ f1 _ (by rw [n1]; decide) (.int .i64 a) (.int .i64 a) true (by rw [t1, o1]; kernel_rfl) (by rw [t1, o1]; kernel_rfl) (by rw [t1]; exact eq_int_self9 w 9998 a), if_pos rfl,
      eqFields_cons9 w _ _ _ f2 _ (by rw [n2]; decide) (.int .i64 b) (.int .i64 b) true (by rw [t2, o2]; kernel_rfl) (by rw [t2, o2]; kernel_rfl) (by rw [t2]; exact eq_int_self9 w 9998 b), if_pos rfl,
      eqFields_cons9 w _ _ _ f3 _ (by rw [n3]; decide) (.int .i64 c) (.int .i64 c) true (by rw [t3, o3]; kernel_rfl) (by rw [t3, o3]; kernel_rfl) (by rw [t3]; exact eq_int_self9 w 9998 c), if_pos rfl,
      eqFields_cons9 w _ _ _ f4 _ (by rw [n4]; decide) (.int .i64 e) (.int .i64 e) true (by rw [t4, o4]; kernel_rfl) (by rw [t4, o4]; kernel_rfl) (by rw [t4]; exact eq_int_self9 w 9998 e), if_pos rfl]
    rfl
  rw [h]
  rfl
theorem guard_q9 (w : World) (op : BinOp) (x y : Operand) (A Bb : Array Value) : (eqGuard op 38 x y (.agg A) (.agg Bb)).run Try.prog w = .ok () w := run_eqGuard_agg w op _ x y A Bb (by kernel_rfl)
theorem guard_b9 (w : World) (op : BinOp) (x y : Operand) (A Bb : Bool) : (eqGuard op 4 x y (.bool A) (.bool Bb)).run Try.prog w = .ok () w := by cases op <;> rfl
theorem neq_b9 (w : World) (b : Bool) : (binOp .neq 4 (.bool b) (.bool b)).run Try.prog w = .ok (.bool false) w := by cases b <;> kernel_rfl
theorem OwnE.empty9 (w : World) : OwnE 38 4 w.heap.size (w.alloc (.cells #[] 38)) (.slice (some ⟨w.heap.size, 0, none⟩) 0 0) [] :=
  ⟨⟨rfl, .inr ⟨w.heap.size, 0, #[], rfl, Nat.le_refl _, heap_alloc_new w _, Nat.le_refl _, by simp [maxLen], rfl, rfl⟩⟩, fun _ h => by cases h⟩
theorem qs_at {F : Nat → Prop} {w : World} {v : Value} {Q : List Qt} (h : QsIn F w v Q) (i : Nat) (hi : i < Q.length) : ∃ b f c, v = .slice (some ⟨b, f, none⟩) Q.length c ∧ w.rangeAt b (f + i * 4) (qC Q[i]) := by
  obtain ⟨ao, c, rfl, h1, h2, h3, h4⟩ := h
  obtain ⟨b, f, rfl, hb, hc⟩ := h4 (by
    intro e
    rw [List.map_eq_nil_iff] at e
    rw [e] at hi
    cases hi)
  refine ⟨b, f, c, by rw [List.length_map], fun j u hu => ?_⟩
  have hj : j < 4 := (List.getElem?_eq_some_iff.1 hu).1
  have := hc i (by rw [List.length_map]; exact hi) j hj
  rw [this, List.getElem_map]
  exact hu
theorem idxQ9 (W : World) (b f n c i : Nat) (h : i < n) : (Instr.indexAt 22 (.slice (some ⟨b, f, none⟩) n c) (.int .i64 i)).run Try.prog W = .ok (.pointer (some ⟨b, f + i * 4, none⟩)) W := by
  simp [Instr.indexAt, h, Addr.add, asIntOf]
theorem ldQ9 (W : World) (b o : Nat) (q : Qt) (h : W.rangeAt b o (qC q)) : (Instr.loadAt 38 (.pointer (some ⟨b, o, none⟩))).run Try.prog W = .ok (.agg #[.int .i64 q.b, .int .i64 q.o, .int .i64 q.r, .int .i64 q.n]) W :=
  run_loadAt_mid W b o 38 (qC q) _ h Try.underlying38 rfl (by kernel_rfl)
theorem _root_.Go.World.rangeAt.keep9 {w w' : World} {b o : Nat} {cs : List Value} (h : w.rangeAt b o cs) (hf : Fr (fun _ => False) w w') : w'.rangeAt b o cs := Fr.range9 hf h id
theorem ent_spence_view_Fits (args : Array Value) (w : World) : (callFunc 17 args).run Try.prog w = .ok (.enter 17 args) w := by kernel_rfl
theorem ent_spence_spenceref14_Fits (args : Array Value) (w : World) : (callFunc 18 args).run Try.prog w = .ok (.enter 18 args) w := by kernel_rfl
theorem ent_spence_view_Right (args : Array Value) (w : World) : (callFunc 19 args).run Try.prog w = .ok (.enter 19 args) w := by kernel_rfl
theorem ent_spence_spenceref14_Right (args : Array Value) (w : World) : (callFunc 20 args).run Try.prog w = .ok (.enter 20 args) w := by kernel_rfl
def VfA (gs n c5 c1 : Nat) (L A D E : Int) (a5 a1 : Option Addr) (i : Nat) (v : Value) (W : World) : Prop :=
  match i with
  | 0 => v = .agg #[.int .i64 L, .int .i64 A, .int .i64 D]
  | 1 => v = .slice a5 n c5
  | 2 => v = .int .i64 E
  | 3 => v = .agg #[.int .i64 L, .int .i64 A, .int .i64 D]
  | 4 => v = .slice a1 n c1
  | 5 => v = .int .i64 E
  | 6 => v = .bool false
  | _ => True
theorem VfA.ext (gs n c5 c1 : Nat) (L A D E : Int) (a5 a1 : Option Addr) : ∀ (j : Nat) (u : Value) (W W' : World), Fr (fun _ => False) W W' → VfA gs n c5 c1 L A D E a5 a1 j u W → VfA gs n c5 c1 L A D E a5 a1 j u W'
  | 0, u, W, W', hf, h => h
  | 1, u, W, W', hf, h => h
  | 2, u, W, W', hf, h => h
  | 3, u, W, W', hf, h => h
  | 4, u, W, W', hf, h => h
  | 5, u, W, W', hf, h => h
  | 6, u, W, W', hf, h => h
  | _ + 7, u, W, W', hf, h => trivial
def VfB (b5 f5 c5 o5 b1 f1 c1 o1 n k9 : Nat) (qb qo qr qn : Int) (K : Bool) (i : Nat) (v : Value) (W : World) : Prop :=
  match i with
  | 0 => v = .slice (some ⟨b5, f5, none⟩) n c5
  | 1 => v = .int .i64 (k9 : Nat)
  | 2 => v = .pointer (some ⟨b5, o5, none⟩)
  | 3 => v = .agg #[.int .i64 qb, .int .i64 qo, .int .i64 qr, .int .i64 qn]
  | 4 => v = .slice (some ⟨b1, f1, none⟩) n c1
  | 5 => v = .int .i64 (k9 : Nat)
  | 6 => v = .pointer (some ⟨b1, o1, none⟩)
  | 7 => v = .agg #[.int .i64 qb, .int .i64 qo, .int .i64 qr, .int .i64 qn]
  | 8 => v = .bool false
  | 9 => v = .bool false
  | 10 => v = .slice (some ⟨b5, f5, none⟩) n c5
  | 11 => v = .int .i64 (k9 : Nat)
  | 12 => v = .pointer (some ⟨b5, o5, none⟩)
  | 13 => v = .agg #[.int .i64 qb, .int .i64 qo, .int .i64 qr, .int .i64 qn]
  | 14 => v = .bool K
  | 15 => v = .slice (some ⟨b1, f1, none⟩) n c1
  | 16 => v = .int .i64 (k9 : Nat)
  | 17 => v = .pointer (some ⟨b1, o1, none⟩)
  | 18 => v = .agg #[.int .i64 qb, .int .i64 qo, .int .i64 qr, .int .i64 qn]
  | 19 => v = .bool K
  | 20 => v = .bool false
  | 21 => v = .bool false
  | _ => True
theorem VfB.ext (b5 f5 c5 o5 b1 f1 c1 o1 n k9 : Nat) (qb qo qr qn : Int) (K : Bool) : ∀ (j : Nat) (u : Value) (W W' : World), Fr (fun _ => False) W W' → VfB b5 f5 c5 o5 b1 f1 c1 o1 n k9 qb qo qr qn K j u W → VfB b5 f5 c5 o5 b1 f1 c1 o1 n k9 qb qo qr qn K j u W'
  | 0, u, W, W', hf, h => h
  | 1, u, W, W', hf, h => h
  | 2, u, W, W', hf, h => h
  | 3, u, W, W', hf, h => h
  | 4, u, W, W', hf, h => h
  | 5, u, W, W', hf, h => h
  | 6, u, W, W', hf, h => h
  | 7, u, W, W', hf, h => h
  | 8, u, W, W', hf, h => h
  | 9, u, W, W', hf, h => h
  | 10, u, W, W', hf, h => h
  | 11, u, W, W', hf, h => h
  | 12, u, W, W', hf, h => h
  | 13, u, W, W', hf, h => h
  | 14, u, W, W', hf, h => h
  | 15, u, W, W', hf, h => h
  | 16, u, W, W', hf, h => h
  | 17, u, W, W', hf, h => h
  | 18, u, W, W', hf, h => h
  | 19, u, W, W', hf, h => h
  | 20, u, W, W', hf, h => h
  | 21, u, W, W', hf, h => h
  | _ + 22, u, W, W', hf, h => trivial
section
set_option maxRecDepth 100000
set_option maxHeartbeats 4000000
theorem viewFits_any {F : Nat → Prop} (w : World) (L A D : Int) (v : Value) (Q : List Qt) (hQ : QsIn F w v Q) :
    Calls Try.prog 4 #[.agg #[.int .i64 L, .int .i64 A, .int .i64 D], v] w fun e w' => e = .returned (.bool true) ∧ Fr (fun _ => False) w w' := by
  obtain ⟨W1, hW1⟩ : ∃ W1, W1 = w.alloc (.cells #[.int .i64 L, .int .i64 A, .int .i64 D] 51) := ⟨_, rfl⟩
  have hf1 : Fr (fun _ => False) w W1 := by rw [hW1]; exact (Fr.refl _ _).alloc _
  have hb1 : W1.heap[w.heap.size]? = some (.cells #[.int .i64 L, .int .i64 A, .int .i64 D] 51 (0, 0)) := by rw [hW1]; exact heap_alloc_new w _
  obtain ⟨a1, c1, rfl, _⟩ := id hQ.open9
  obtain ⟨n, hn⟩ : ∃ n, n = Q.length := ⟨_, rfl⟩
  rw [← hn] at hQ ⊢
  have HW := Lib.hid (And.intro hW1 (And.intro hf1 hb1))
  have HQ := Lib.hid (And.intro hQ hn)
  have HAW := Lib.hid awake_any
  have HE := Lib.hid (show OwnE 38 4 (w.heap.size + 1) (W1.alloc (.cells #[] 38)) (.slice (some ⟨w.heap.size + 1, 0, none⟩) 0 0) [] ∧ W1.heap.size = w.heap.size + 1 by
    have e : W1.heap.size = w.heap.size + 1 := by
      rw [hW1]
      show (w.heap.push _).size = _
      simp
    have := OwnE.empty9 W1
    rw [e] at this
    exact ⟨this, e⟩)
  clear hW1 hf1 hb1 hQ hn
  by_cases h50 : n ≤ 50
  · have hg : ¬ (50 : Int) < (n : Int) := by omega
    have H50 := Lib.hid h50
    have hb0 : ∀ W : World, (Instr.buildSlice 22 0 #[]).run Try.prog W = .ok (.slice (some ⟨W.heap.size, 0, none⟩) 0 0) (W.alloc (.cells #[] 38)) := fun W => by kernel_rfl
    clear h50
    go_enter Try.func4, Try.ntmps4
    go_wp2_with (at_builtin; rw [← HW.out.1]; refine wpList_append_e (T := 38) (z := w.heap.size + 1) Try.underlying22 infoQ rfl (by decide) (by decide) _ rfl (.tmp 11) (.tmp 12) rfl (.slice (some ⟨w.heap.size + 1, 0, none⟩) 0 0) _ [] (Q.map qC) rfl rfl HE.out.1 ((HQ.out.1.quiet HW.out.2.1).quiet ((Fr.refl (fun _ => False) W1).alloc _)) (qC_one Q) (by have := HE.out.2; simp; omega) (by have := HQ.out.2; have := H50.out; simp; omega) ?_; intro v5 w5 ho5 hg5 hb5; rw [List.nil_append] at ho5; (have HO := Lib.hid (And.intro ho5 hg5)); (obtain ⟨a5, c5, hv5⟩ := ho5.form); (rw [List.length_map, ← HQ.out.2] at hv5); (subst hv5); clear ho5 hg5 hb5)
    have hf5 : Fr (fun _ => False) W1 w5 := ((Fr.refl (fun _ => False) W1).alloc (.cells #[] 38)).grown HO.out.2 (fun k hk => .inr (by
      have := HE.out.2
      simp only [Value.ownBlock, Option.some.injEq] at hk
      omega))
    have h05 := HW.out.2.1.trans hf5 (fun _ h => h.elim)
    have LDS := Lib.hid (fun W (hW : Fr (fun _ => False) w5 W) => load_shape5 W w.heap.size 0 _ _ _ (range_row5 (hW.heap (hf5.heap HW.out.2.2 id) id)))
    obtain ⟨E, hE⟩ : ∃ E, E = fitsQ L A D Q := ⟨_, rfl⟩
    have hq5 : QsIn (fun b => (Value.slice a5 n c5).ownBlock = some b) w5 (.slice a5 n c5) Q := HO.out.1.elems
    have hq1 : QsIn F w5 (.slice a1 n c1) Q := HQ.out.1.quiet h05
    have HFA := Lib.hid (fun W (hW : Fr (fun _ => False) w5 W) => vFits_any W L A D _ Q (hq5.quiet hW))
    have HFB := Lib.hid (fun W (hW : Fr (fun _ => False) w5 W) => rFits14_any W L A D _ Q (hq1.quiet hW))
    rw [← hE] at HFA HFB
    have HS := Lib.hid (And.intro h05 (And.intro hq5 hq1))
    clear hf5 h05 hE hq5 hq1
    refine wp_region_inv 7 (by kernel_rfl) (by kernel_rfl) (fun W => Fr (fun _ => False) w5 W) (VfA (w.heap.size) n c5 c1 L A D E a5 a1) (fun _ _ _ _ => True) (Fr (fun _ => False)) (VfA.ext (w.heap.size) n c5 c1 L A D E a5 a1) (Fr.refl _ _).drew ?_ ?_
    · intro i hi o ho
      replace hi : i < 7 := hi
      obtain rfl | rfl | rfl | rfl | rfl | rfl | rfl : i = 0 ∨ i = 1 ∨ i = 2 ∨ i = 3 ∨ i = 4 ∨ i = 5 ∨ i = 6 := by omega
      · simp only [List.getElem?_cons_zero, Option.some.injEq] at ho
        subst ho
        intro a W vs hB hS hE hU
        refine wpG_plain rfl ?_
        have v2 : a.eval (.tmp 2) = .pointer (some ⟨(w.heap.size), 0, none⟩) := (hU 2 (by kernel_rfl)).trans rfl
        clear hE hU
        exact wp_value_inv (w' := W) (.agg #[.int .i64 L, .int .i64 A, .int .i64 D]) (op_loadAt rfl v2 (LDS.out W hB)) ⟨_, rfl, hB, Fr.refl _ _, rfl, fun _ _ _ _ _ => trivial⟩
      · simp only [List.getElem?_cons_zero, List.getElem?_cons_succ, Option.some.injEq] at ho
        subst ho
        intro a W vs hB hS hE hU
        refine wpG_plain rfl ?_
        have v5 : a.eval (.tmp 5) = .slice a5 n c5 := (hU 5 (by kernel_rfl)).trans rfl
        clear hE hU
        exact wp_value_inv (w' := W) (.slice a5 n c5) (op_move rfl v5) ⟨_, rfl, hB, Fr.refl _ _, rfl, fun _ _ _ _ _ => trivial⟩
      · simp only [List.getElem?_cons_zero, List.getElem?_cons_succ, Option.some.injEq] at ho
        subst ho
        intro a W vs hB hS hE hU
        refine wpG_plain rfl ?_
        obtain ⟨r0, e14⟩ := hE 0 14 (by kernel_rfl) (by kernel_rfl)
        have v14 : a.eval (.tmp 14) = .agg #[.int .i64 L, .int .i64 A, .int .i64 D] := e14.trans r0
        obtain ⟨r1, e15⟩ := hE 1 15 (by kernel_rfl) (by kernel_rfl)
        have v15 : a.eval (.tmp 15) = .slice a5 n c5 := e15.trans r1
        clear hE hU
        refine wp_call_inv 17 #[.tmp 14, .tmp 15] #[51, 22] rfl #[.agg #[.int .i64 L, .int .i64 A, .int .i64 D], .slice a5 n c5] (by simp only [List.map_toArray, List.map_cons, List.map_nil, v14, v15]) (ent_spence_view_Fits _) (Post := fun v W' => v = .int .i64 E ∧ Fr (fun _ => False) W W') ((HFA.out W hB).mono fun e w' h => ⟨_, h.1, rfl, h.2⟩) ?_
        rintro v W' ⟨rfl, hf⟩
        exact ⟨_, rfl, hB.trans hf (fun _ h => h.elim), hf, rfl, fun _ _ _ _ _ => trivial⟩
      · simp only [List.getElem?_cons_zero, List.getElem?_cons_succ, Option.some.injEq] at ho
        subst ho
        intro a W vs hB hS hE hU
        refine wpG_plain rfl ?_
        have v2 : a.eval (.tmp 2) = .pointer (some ⟨(w.heap.size), 0, none⟩) := (hU 2 (by kernel_rfl)).trans rfl
        clear hE hU
        exact wp_value_inv (w' := W) (.agg #[.int .i64 L, .int .i64 A, .int .i64 D]) (op_loadAt rfl v2 (LDS.out W hB)) ⟨_, rfl, hB, Fr.refl _ _, rfl, fun _ _ _ _ _ => trivial⟩
      · simp only [List.getElem?_cons_zero, List.getElem?_cons_succ, Option.some.injEq] at ho
        subst ho
        intro a W vs hB hS hE hU
        refine wpG_plain rfl ?_
        have v1 : a.eval (.tmp 1) = .slice a1 n c1 := (hU 1 (by kernel_rfl)).trans rfl
        clear hE hU
        exact wp_value_inv (w' := W) (.slice a1 n c1) (op_move rfl v1) ⟨_, rfl, hB, Fr.refl _ _, rfl, fun _ _ _ _ _ => trivial⟩
      · simp only [List.getElem?_cons_zero, List.getElem?_cons_succ, Option.some.injEq] at ho
        subst ho
        intro a W vs hB hS hE hU
        refine wpG_plain rfl ?_
        obtain ⟨r3, e17⟩ := hE 3 17 (by kernel_rfl) (by kernel_rfl)
        have v17 : a.eval (.tmp 17) = .agg #[.int .i64 L, .int .i64 A, .int .i64 D] := e17.trans r3
        obtain ⟨r4, e18⟩ := hE 4 18 (by kernel_rfl) (by kernel_rfl)
        have v18 : a.eval (.tmp 18) = .slice a1 n c1 := e18.trans r4
        clear hE hU
        refine wp_call_inv 18 #[.tmp 17, .tmp 18] #[51, 22] rfl #[.agg #[.int .i64 L, .int .i64 A, .int .i64 D], .slice a1 n c1] (by simp only [List.map_toArray, List.map_cons, List.map_nil, v17, v18]) (ent_spence_spenceref14_Fits _) (Post := fun v W' => v = .int .i64 E ∧ Fr (fun _ => False) W W') ((HFB.out W hB).mono fun e w' h => ⟨_, h.1, rfl, h.2⟩) ?_
        rintro v W' ⟨rfl, hf⟩
        exact ⟨_, rfl, hB.trans hf (fun _ h => h.elim), hf, rfl, fun _ _ _ _ _ => trivial⟩
      · simp only [List.getElem?_cons_zero, List.getElem?_cons_succ, Option.some.injEq] at ho
        subst ho
        intro a W vs hB hS hE hU
        refine wpG_plain rfl ?_
        obtain ⟨r2, e16⟩ := hE 2 16 (by kernel_rfl) (by kernel_rfl)
        have v16 : a.eval (.tmp 16) = .int .i64 E := e16.trans r2
        obtain ⟨r5, e19⟩ := hE 5 19 (by kernel_rfl) (by kernel_rfl)
        have v19 : a.eval (.tmp 19) = .int .i64 E := e19.trans r5
        clear hE hU
        exact wp_value_inv (w' := W) (.bool false) (op_bin rfl v16 v19 (guard_int9 W _ _ _ _ _ _ _) neq_no) ⟨_, rfl, hB, Fr.refl _ _, rfl, fun _ _ _ _ _ => trivial⟩
    · intro vs W9 hB0 hR0 hD
      have r20 : vs 6 = .bool false := hR0 6 (by decide)
      have HB := Lib.hid hB0
      clear hR0 hD hB0
      simp only [acts, if_true, dstAt, List.getElem?_cons_zero, List.getElem?_cons_succ, Option.bind_some, Act.put, List.setIfInBounds_toArray, List.set_cons_succ, List.set_cons_zero, List.drop_succ_cons, List.drop_nil]
      simp only [r20]
      clear r20
      have HF9 := Lib.hid (And.intro (HS.out.1.trans HB.out (fun _ h => h.elim)) (And.intro (HS.out.2.1.quiet HB.out) (HS.out.2.2.quiet HB.out)))
      go_wp2
      go_loopw [6] (fun iv wr => ∃ (i : Nat), i ≤ n ∧ iv = .int .i64 i ∧ Hid (Fr (fun _ => False) W9 wr)) (fun iv _ => n - (intOf iv).toNat)
      case atStart => exact ⟨0, by omega, rfl, Lib.hid (Fr.refl _ _)⟩
      case round =>
        obtain ⟨k9, hi, rfl, hf⟩ := hrel
        by_cases hlt : k9 < n
        · have hiL : k9 < Q.length := by have := HQ.out.2; omega
          have HFR := Lib.hid hf.out
          obtain ⟨b5, f5, d5, e5, g5⟩ := qs_at HF9.out.2.1 k9 hiL
          obtain ⟨b1, f1, d1, e1, g1⟩ := qs_at HF9.out.2.2 k9 hiL
          have a5e : a5 = some ⟨b5, f5, none⟩ := by injection e5
          have a1e : a1 = some ⟨b1, f1, none⟩ := by injection e1
          obtain ⟨q, hq⟩ : ∃ q, q = Q[k9] := ⟨_, rfl⟩
          rw [← hq] at g5 g1
          obtain ⟨o5, ho5⟩ : ∃ o5, o5 = f5 + k9 * 4 := ⟨_, rfl⟩
          obtain ⟨o1, ho1⟩ : ∃ o1, o1 = f1 + k9 * 4 := ⟨_, rfl⟩
          have HI5 := Lib.hid (fun W => idxQ9 W b5 f5 n c5 k9 hlt)
          have HI1 := Lib.hid (fun W => idxQ9 W b1 f1 n c1 k9 hlt)
          rw [← ho5] at g5 HI5
          rw [← ho1] at g1 HI1
          obtain ⟨qb, qo, qr, qn⟩ := q
          have LD5 := Lib.hid (fun W (hW : Fr (fun _ => False) wr W) => ldQ9 W b5 o5 _ ((hf.out.range9 g5 id).keep9 hW))
          have LD1 := Lib.hid (fun W (hW : Fr (fun _ => False) wr W) => ldQ9 W b1 o1 _ ((hf.out.range9 g1 id).keep9 hW))
          obtain ⟨K, hK⟩ : ∃ K, K = okQ ⟨qb, qo, qr, qn⟩ := ⟨_, rfl⟩
          have HRA := Lib.hid (fun W => vRight_any W qb qo qr qn)
          have HRB := Lib.hid (fun W => rRight14_any W qb qo qr qn)
          rw [← hK] at HRA HRB
          subst a5e a1e
          have hi64 : (k9 : Int) < (n : Int) := by omega
          clear hK hq ho5 ho1 g5 g1 e5 e1 hf
          go_wp2
          refine wp_region_inv 22 (by kernel_rfl) (by kernel_rfl) (fun W => Fr (fun _ => False) wr W) (VfB b5 f5 c5 o5 b1 f1 c1 o1 n k9 qb qo qr qn K) (fun _ _ _ _ => True) (Fr (fun _ => False)) (VfB.ext b5 f5 c5 o5 b1 f1 c1 o1 n k9 qb qo qr qn K) (Fr.refl _ _).drew ?_ ?_
          · intro i hi o ho
            replace hi : i < 22 := hi
            obtain rfl | rfl | rfl | rfl | rfl | rfl | rfl | rfl | rfl | rfl | rfl | rfl | rfl | rfl | rfl | rfl | rfl | rfl | rfl | rfl | rfl | rfl : i = 0 ∨ i = 1 ∨ i = 2 ∨ i = 3 ∨ i = 4 ∨ i = 5 ∨ i = 6 ∨ i = 7 ∨ i = 8 ∨ i = 9 ∨ i = 10 ∨ i = 11 ∨ i = 12 ∨ i = 13 ∨ i = 14 ∨ i = 15 ∨ i = 16 ∨ i = 17 ∨ i = 18 ∨ i = 19 ∨ i = 20 ∨ i = 21 := by omega
            · simp only [List.getElem?_cons_zero, Option.some.injEq] at ho
              subst ho
              intro a W vs hB hS hE hU
              refine wpG_plain rfl ?_
              have v5 : a.eval (.tmp 5) = .slice (some ⟨b5, f5, none⟩) n c5 := (hU 5 (by kernel_rfl)).trans rfl
              clear hE hU
              exact wp_value_inv (w' := W) (.slice (some ⟨b5, f5, none⟩) n c5) (op_move rfl v5) ⟨_, rfl, hB, Fr.refl _ _, rfl, fun _ _ _ _ _ => trivial⟩
            · simp only [List.getElem?_cons_zero, List.getElem?_cons_succ, Option.some.injEq] at ho
              subst ho
              intro a W vs hB hS hE hU
              refine wpG_plain rfl ?_
              have v6 : a.eval (.tmp 6) = .int .i64 (k9 : Nat) := (hU 6 (by kernel_rfl)).trans rfl
              clear hE hU
              exact wp_value_inv (w' := W) (.int .i64 (k9 : Nat)) (op_move rfl v6) ⟨_, rfl, hB, Fr.refl _ _, rfl, fun _ _ _ _ _ => trivial⟩
            · simp only [List.getElem?_cons_zero, List.getElem?_cons_succ, Option.some.injEq] at ho
              subst ho
              intro a W vs hB hS hE hU
              refine wpG_plain rfl ?_
              obtain ⟨r0, e27⟩ := hE 0 27 (by kernel_rfl) (by kernel_rfl)
              have v27 : a.eval (.tmp 27) = .slice (some ⟨b5, f5, none⟩) n c5 := e27.trans r0
              obtain ⟨r1, e28⟩ := hE 1 28 (by kernel_rfl) (by kernel_rfl)
              have v28 : a.eval (.tmp 28) = .int .i64 (k9 : Nat) := e28.trans r1
              clear hE hU
              exact wp_value_inv (w' := W) (.pointer (some ⟨b5, o5, none⟩)) (op_indexAddr rfl v27 v28 (HI5.out W)) ⟨_, rfl, hB, Fr.refl _ _, rfl, fun _ _ _ _ _ => trivial⟩
            · simp only [List.getElem?_cons_zero, List.getElem?_cons_succ, Option.some.injEq] at ho
              subst ho
              intro a W vs hB hS hE hU
              refine wpG_plain rfl ?_
              obtain ⟨r2, e29⟩ := hE 2 29 (by kernel_rfl) (by kernel_rfl)
              have v29 : a.eval (.tmp 29) = .pointer (some ⟨b5, o5, none⟩) := e29.trans r2
              clear hE hU
              exact wp_value_inv (w' := W) (.agg #[.int .i64 qb, .int .i64 qo, .int .i64 qr, .int .i64 qn]) (op_loadAt rfl v29 (LD5.out W hB)) ⟨_, rfl, hB, Fr.refl _ _, rfl, fun _ _ _ _ _ => trivial⟩
            · simp only [List.getElem?_cons_zero, List.getElem?_cons_succ, Option.some.injEq] at ho
              subst ho
              intro a W vs hB hS hE hU
              refine wpG_plain rfl ?_
              have v1 : a.eval (.tmp 1) = .slice (some ⟨b1, f1, none⟩) n c1 := (hU 1 (by kernel_rfl)).trans rfl
              clear hE hU
              exact wp_value_inv (w' := W) (.slice (some ⟨b1, f1, none⟩) n c1) (op_move rfl v1) ⟨_, rfl, hB, Fr.refl _ _, rfl, fun _ _ _ _ _ => trivial⟩
            · simp only [List.getElem?_cons_zero, List.getElem?_cons_succ, Option.some.injEq] at ho
              subst ho
              intro a W vs hB hS hE hU
              refine wpG_plain rfl ?_
              have v6 : a.eval (.tmp 6) = .int .i64 (k9 : Nat) := (hU 6 (by kernel_rfl)).trans rfl
              clear hE hU
              exact wp_value_inv (w' := W) (.int .i64 (k9 : Nat)) (op_move rfl v6) ⟨_, rfl, hB, Fr.refl _ _, rfl, fun _ _ _ _ _ => trivial⟩
            · simp only [List.getElem?_cons_zero, List.getElem?_cons_succ, Option.some.injEq] at ho
              subst ho
              intro a W vs hB hS hE hU
              refine wpG_plain rfl ?_
              obtain ⟨r4, e31⟩ := hE 4 31 (by kernel_rfl) (by kernel_rfl)
              have v31 : a.eval (.tmp 31) = .slice (some ⟨b1, f1, none⟩) n c1 := e31.trans r4
              obtain ⟨r5, e32⟩ := hE 5 32 (by kernel_rfl) (by kernel_rfl)
              have v32 : a.eval (.tmp 32) = .int .i64 (k9 : Nat) := e32.trans r5
              clear hE hU
              exact wp_value_inv (w' := W) (.pointer (some ⟨b1, o1, none⟩)) (op_indexAddr rfl v31 v32 (HI1.out W)) ⟨_, rfl, hB, Fr.refl _ _, rfl, fun _ _ _ _ _ => trivial⟩
            · simp only [List.getElem?_cons_zero, List.getElem?_cons_succ, Option.some.injEq] at ho
              subst ho
              intro a W vs hB hS hE hU
              refine wpG_plain rfl ?_
              obtain ⟨r6, e33⟩ := hE 6 33 (by kernel_rfl) (by kernel_rfl)
              have v33 : a.eval (.tmp 33) = .pointer (some ⟨b1, o1, none⟩) := e33.trans r6
              clear hE hU
              exact wp_value_inv (w' := W) (.agg #[.int .i64 qb, .int .i64 qo, .int .i64 qr, .int .i64 qn]) (op_loadAt rfl v33 (LD1.out W hB)) ⟨_, rfl, hB, Fr.refl _ _, rfl, fun _ _ _ _ _ => trivial⟩
            · simp only [List.getElem?_cons_zero, List.getElem?_cons_succ, Option.some.injEq] at ho
              subst ho
              intro a W vs hB hS hE hU
              refine wpG_plain rfl ?_
              obtain ⟨r3, e30⟩ := hE 3 30 (by kernel_rfl) (by kernel_rfl)
              have v30 : a.eval (.tmp 30) = .agg #[.int .i64 qb, .int .i64 qo, .int .i64 qr, .int .i64 qn] := e30.trans r3
              obtain ⟨r7, e34⟩ := hE 7 34 (by kernel_rfl) (by kernel_rfl)
              have v34 : a.eval (.tmp 34) = .agg #[.int .i64 qb, .int .i64 qo, .int .i64 qr, .int .i64 qn] := e34.trans r7
              clear hE hU
              exact wp_value_inv (w' := W) (.bool false) (op_bin rfl v30 v34 (guard_q9 W _ _ _ _ _) (neq_q9 W _ _ _ _)) ⟨_, rfl, hB, Fr.refl _ _, rfl, fun _ _ _ _ _ => trivial⟩
            · simp only [List.getElem?_cons_zero, List.getElem?_cons_succ, Option.some.injEq] at ho
              subst ho
              intro a W vs hB hS hE hU
              refine wpG_plain rfl ?_
              obtain ⟨r8, e35⟩ := hE 8 35 (by kernel_rfl) (by kernel_rfl)
              have v35 : a.eval (.tmp 35) = .bool false := e35.trans r8
              clear hE hU
              exact wp_value_inv (w' := W) (.bool false) (op_move rfl v35) ⟨_, rfl, hB, Fr.refl _ _, rfl, fun _ _ _ _ _ => trivial⟩
            · simp only [List.getElem?_cons_zero, List.getElem?_cons_succ, Option.some.injEq] at ho
              subst ho
              intro a W vs hB hS hE hU
              obtain ⟨r9, e36⟩ := hE 9 36 (by kernel_rfl) (by kernel_rfl)
              have v36 : a.eval (.tmp 36) = .bool false := e36.trans r9
              refine wpG_yes 9 false 36 rfl (by kernel_rfl) (by rw [hS]; first | simp | exact Nat.le_of_ble_eq_true rfl) v36 ?_
              have v5 : a.eval (.tmp 5) = .slice (some ⟨b5, f5, none⟩) n c5 := (hU 5 (by kernel_rfl)).trans rfl
              clear hE hU
              exact wp_value_inv (w' := W) (.slice (some ⟨b5, f5, none⟩) n c5) (op_move rfl v5) ⟨_, rfl, hB, Fr.refl _ _, rfl, fun _ _ _ _ _ => trivial⟩
            · simp only [List.getElem?_cons_zero, List.getElem?_cons_succ, Option.some.injEq] at ho
              subst ho
              intro a W vs hB hS hE hU
              obtain ⟨r9, e36⟩ := hE 9 36 (by kernel_rfl) (by kernel_rfl)
              have v36 : a.eval (.tmp 36) = .bool false := e36.trans r9
              refine wpG_yes 9 false 36 rfl (by kernel_rfl) (by rw [hS]; first | simp | exact Nat.le_of_ble_eq_true rfl) v36 ?_
              have v6 : a.eval (.tmp 6) = .int .i64 (k9 : Nat) := (hU 6 (by kernel_rfl)).trans rfl
              clear hE hU
              exact wp_value_inv (w' := W) (.int .i64 (k9 : Nat)) (op_move rfl v6) ⟨_, rfl, hB, Fr.refl _ _, rfl, fun _ _ _ _ _ => trivial⟩
            · simp only [List.getElem?_cons_zero, List.getElem?_cons_succ, Option.some.injEq] at ho
              subst ho
              intro a W vs hB hS hE hU
              obtain ⟨r9, e36⟩ := hE 9 36 (by kernel_rfl) (by kernel_rfl)
              have v36 : a.eval (.tmp 36) = .bool false := e36.trans r9
              refine wpG_yes 9 false 36 rfl (by kernel_rfl) (by rw [hS]; first | simp | exact Nat.le_of_ble_eq_true rfl) v36 ?_
              obtain ⟨r10, e37⟩ := hE 10 37 (by kernel_rfl) (by kernel_rfl)
              have v37 : a.eval (.tmp 37) = .slice (some ⟨b5, f5, none⟩) n c5 := e37.trans r10
              obtain ⟨r11, e38⟩ := hE 11 38 (by kernel_rfl) (by kernel_rfl)
              have v38 : a.eval (.tmp 38) = .int .i64 (k9 : Nat) := e38.trans r11
              clear hE hU
              exact wp_value_inv (w' := W) (.pointer (some ⟨b5, o5, none⟩)) (op_indexAddr rfl v37 v38 (HI5.out W)) ⟨_, rfl, hB, Fr.refl _ _, rfl, fun _ _ _ _ _ => trivial⟩
            · simp only [List.getElem?_cons_zero, List.getElem?_cons_succ, Option.some.injEq] at ho
              subst ho
              intro a W vs hB hS hE hU
              obtain ⟨r9, e36⟩ := hE 9 36 (by kernel_rfl) (by kernel_rfl)
              have v36 : a.eval (.tmp 36) = .bool false := e36.trans r9
              refine wpG_yes 9 false 36 rfl (by kernel_rfl) (by rw [hS]; first | simp | exact Nat.le_of_ble_eq_true rfl) v36 ?_
              obtain ⟨r12, e39⟩ := hE 12 39 (by kernel_rfl) (by kernel_rfl)
              have v39 : a.eval (.tmp 39) = .pointer (some ⟨b5, o5, none⟩) := e39.trans r12
              clear hE hU
              exact wp_value_inv (w' := W) (.agg #[.int .i64 qb, .int .i64 qo, .int .i64 qr, .int .i64 qn]) (op_loadAt rfl v39 (LD5.out W hB)) ⟨_, rfl, hB, Fr.refl _ _, rfl, fun _ _ _ _ _ => trivial⟩
            · simp only [List.getElem?_cons_zero, List.getElem?_cons_succ, Option.some.injEq] at ho
              subst ho
              intro a W vs hB hS hE hU
              obtain ⟨r9, e36⟩ := hE 9 36 (by kernel_rfl) (by kernel_rfl)
              have v36 : a.eval (.tmp 36) = .bool false := e36.trans r9
              refine wpG_yes 9 false 36 rfl (by kernel_rfl) (by rw [hS]; first | simp | exact Nat.le_of_ble_eq_true rfl) v36 ?_
              obtain ⟨r13, e40⟩ := hE 13 40 (by kernel_rfl) (by kernel_rfl)
              have v40 : a.eval (.tmp 40) = .agg #[.int .i64 qb, .int .i64 qo, .int .i64 qr, .int .i64 qn] := e40.trans r13
              clear hE hU
              refine wp_call_inv 19 #[.tmp 40] #[38] rfl #[.agg #[.int .i64 qb, .int .i64 qo, .int .i64 qr, .int .i64 qn]] (by simp only [List.map_toArray, List.map_cons, List.map_nil, v40]) (ent_spence_view_Right _) (Post := fun v W' => v = .bool K ∧ Fr (fun _ => False) W W') ((HRA.out W).mono fun e w' h => ⟨_, h.1, rfl, h.2⟩) ?_
              rintro v W' ⟨rfl, hf⟩
              exact ⟨_, rfl, hB.trans hf (fun _ h => h.elim), hf, rfl, fun _ _ _ _ _ => trivial⟩
            · simp only [List.getElem?_cons_zero, List.getElem?_cons_succ, Option.some.injEq] at ho
              subst ho
              intro a W vs hB hS hE hU
              obtain ⟨r9, e36⟩ := hE 9 36 (by kernel_rfl) (by kernel_rfl)
              have v36 : a.eval (.tmp 36) = .bool false := e36.trans r9
              refine wpG_yes 9 false 36 rfl (by kernel_rfl) (by rw [hS]; first | simp | exact Nat.le_of_ble_eq_true rfl) v36 ?_
              have v1 : a.eval (.tmp 1) = .slice (some ⟨b1, f1, none⟩) n c1 := (hU 1 (by kernel_rfl)).trans rfl
              clear hE hU
              exact wp_value_inv (w' := W) (.slice (some ⟨b1, f1, none⟩) n c1) (op_move rfl v1) ⟨_, rfl, hB, Fr.refl _ _, rfl, fun _ _ _ _ _ => trivial⟩
            · simp only [List.getElem?_cons_zero, List.getElem?_cons_succ, Option.some.injEq] at ho
              subst ho
              intro a W vs hB hS hE hU
              obtain ⟨r9, e36⟩ := hE 9 36 (by kernel_rfl) (by kernel_rfl)
              have v36 : a.eval (.tmp 36) = .bool false := e36.trans r9
              refine wpG_yes 9 false 36 rfl (by kernel_rfl) (by rw [hS]; first | simp | exact Nat.le_of_ble_eq_true rfl) v36 ?_
              have v6 : a.eval (.tmp 6) = .int .i64 (k9 : Nat) := (hU 6 (by kernel_rfl)).trans rfl
              clear hE hU
              exact wp_value_inv (w' := W) (.int .i64 (k9 : Nat)) (op_move rfl v6) ⟨_, rfl, hB, Fr.refl _ _, rfl, fun _ _ _ _ _ => trivial⟩
            · simp only [List.getElem?_cons_zero, List.getElem?_cons_succ, Option.some.injEq] at ho
              subst ho
              intro a W vs hB hS hE hU
              obtain ⟨r9, e36⟩ := hE 9 36 (by kernel_rfl) (by kernel_rfl)
              have v36 : a.eval (.tmp 36) = .bool false := e36.trans r9
              refine wpG_yes 9 false 36 rfl (by kernel_rfl) (by rw [hS]; first | simp | exact Nat.le_of_ble_eq_true rfl) v36 ?_
              obtain ⟨r15, e42⟩ := hE 15 42 (by kernel_rfl) (by kernel_rfl)
              have v42 : a.eval (.tmp 42) = .slice (some ⟨b1, f1, none⟩) n c1 := e42.trans r15
              obtain ⟨r16, e43⟩ := hE 16 43 (by kernel_rfl) (by kernel_rfl)
              have v43 : a.eval (.tmp 43) = .int .i64 (k9 : Nat) := e43.trans r16
              clear hE hU
              exact wp_value_inv (w' := W) (.pointer (some ⟨b1, o1, none⟩)) (op_indexAddr rfl v42 v43 (HI1.out W)) ⟨_, rfl, hB, Fr.refl _ _, rfl, fun _ _ _ _ _ => trivial⟩
            · simp only [List.getElem?_cons_zero, List.getElem?_cons_succ, Option.some.injEq] at ho
              subst ho
              intro a W vs hB hS hE hU
              obtain ⟨r9, e36⟩ := hE 9 36 (by kernel_rfl) (by kernel_rfl)
              have v36 : a.eval (.tmp 36) = .bool false := e36.trans r9
              refine wpG_yes 9 false 36 rfl (by kernel_rfl) (by rw [hS]; first | simp | exact Nat.le_of_ble_eq_true rfl) v36 ?_
              obtain ⟨r17, e44⟩ := hE 17 44 (by kernel_rfl) (by kernel_rfl)
              have v44 : a.eval (.tmp 44) = .pointer (some ⟨b1, o1, none⟩) := e44.trans r17
              clear hE hU
              exact wp_value_inv (w' := W) (.agg #[.int .i64 qb, .int .i64 qo, .int .i64 qr, .int .i64 qn]) (op_loadAt rfl v44 (LD1.out W hB)) ⟨_, rfl, hB, Fr.refl _ _, rfl, fun _ _ _ _ _ => trivial⟩
            · simp only [List.getElem?_cons_zero, List.getElem?_cons_succ, Option.some.injEq] at ho
              subst ho
              intro a W vs hB hS hE hU
              obtain ⟨r9, e36⟩ := hE 9 36 (by kernel_rfl) (by kernel_rfl)
              have v36 : a.eval (.tmp 36) = .bool false := e36.trans r9
              refine wpG_yes 9 false 36 rfl (by kernel_rfl) (by rw [hS]; first | simp | exact Nat.le_of_ble_eq_true rfl) v36 ?_
              obtain ⟨r18, e45⟩ := hE 18 45 (by kernel_rfl) (by kernel_rfl)
              have v45 : a.eval (.tmp 45) = .agg #[.int .i64 qb, .int .i64 qo, .int .i64 qr, .int .i64 qn] := e45.trans r18
              clear hE hU
              refine wp_call_inv 20 #[.tmp 45] #[38] rfl #[.agg #[.int .i64 qb, .int .i64 qo, .int .i64 qr, .int .i64 qn]] (by simp only [List.map_toArray, List.map_cons, List.map_nil, v45]) (ent_spence_spenceref14_Right _) (Post := fun v W' => v = .bool K ∧ Fr (fun _ => False) W W') ((HRB.out W).mono fun e w' h => ⟨_, h.1, rfl, h.2⟩) ?_
              rintro v W' ⟨rfl, hf⟩
              exact ⟨_, rfl, hB.trans hf (fun _ h => h.elim), hf, rfl, fun _ _ _ _ _ => trivial⟩
            · simp only [List.getElem?_cons_zero, List.getElem?_cons_succ, Option.some.injEq] at ho
              subst ho
              intro a W vs hB hS hE hU
              obtain ⟨r9, e36⟩ := hE 9 36 (by kernel_rfl) (by kernel_rfl)
              have v36 : a.eval (.tmp 36) = .bool false := e36.trans r9
              refine wpG_yes 9 false 36 rfl (by kernel_rfl) (by rw [hS]; first | simp | exact Nat.le_of_ble_eq_true rfl) v36 ?_
              obtain ⟨r14, e41⟩ := hE 14 41 (by kernel_rfl) (by kernel_rfl)
              have v41 : a.eval (.tmp 41) = .bool K := e41.trans r14
              obtain ⟨r19, e46⟩ := hE 19 46 (by kernel_rfl) (by kernel_rfl)
              have v46 : a.eval (.tmp 46) = .bool K := e46.trans r19
              clear hE hU
              exact wp_value_inv (w' := W) (.bool false) (op_bin rfl v41 v46 (guard_b9 W _ _ _ _ _) (neq_b9 W _)) ⟨_, rfl, hB, Fr.refl _ _, rfl, fun _ _ _ _ _ => trivial⟩
            · simp only [List.getElem?_cons_zero, List.getElem?_cons_succ, Option.some.injEq] at ho
              subst ho
              intro a W vs hB hS hE hU
              refine wpG_plain rfl ?_
              obtain ⟨r9, e36⟩ := hE 9 36 (by kernel_rfl) (by kernel_rfl)
              have v36 : a.eval (.tmp 36) = .bool false := e36.trans r9
              obtain ⟨r20, e47⟩ := hE 20 47 (by kernel_rfl) (by kernel_rfl)
              have v47 : a.eval (.tmp 47) = .bool false := e47.trans r20
              clear hE hU
              exact wp_value_inv (w' := W) (.bool false) (op_pick rfl v36 (by simp only [Bool.false_eq_true, if_false]; exact v47)) ⟨_, rfl, hB, Fr.refl _ _, rfl, fun _ _ _ _ _ => trivial⟩
          · intro vs Wb hB0 hR0 hD
            have r48 : vs 21 = .bool false := hR0 21 (by decide)
            have HC := Lib.hid hB0
            clear hR0 hD hB0
            simp only [acts, if_true, dstAt, List.getElem?_cons_zero, List.getElem?_cons_succ, Option.bind_some, Act.put, List.setIfInBounds_toArray, List.set_cons_succ, List.set_cons_zero, List.drop_succ_cons, List.drop_nil]
            simp only [r48]
            clear r48
            go_wp2
            go_roundw
            case rel => exact ⟨k9 + 1, by omega, by go_num, Lib.hid (HFR.out.trans HC.out (fun _ h => h.elim))⟩
            case measure => simp [intOf]; omega
        · obtain rfl : k9 = n := by omega
          go_wp2_with (go_at_call 9; refine (HAW.out _).mono ?_; rintro e w2 ⟨rfl, hf2⟩; (have H2 := Lib.hid hf2); clear hf2)
          go_ret
          exact ⟨rfl, (HF9.out.1.trans hf.out (fun _ h => h.elim)).trans H2.out (fun _ h => h.elim)⟩
  · have hg : (50 : Int) < (n : Int) := by omega
    go_enter Try.func4, Try.ntmps4
    go_wp2_with (go_at_call 9; rw [← HW.out.1]; refine (HAW.out _).mono ?_; rintro e w2 ⟨rfl, hf⟩; (have H2 := Lib.hid hf); clear hf)
    go_ret
    exact ⟨rfl, HW.out.2.1.trans H2.out (fun _ h => h.elim)⟩
end
end Go.Proofs.Ytdpaobflknkbkaa
