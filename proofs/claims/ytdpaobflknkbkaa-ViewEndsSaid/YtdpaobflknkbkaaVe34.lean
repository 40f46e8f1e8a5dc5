/- Laid together: VDl -/
import Derived.Test.YtdpaobflknkbkaaVe31
import Derived.Test.YtdpaobflknkbkaaVe32
import Derived.Test.YtdpaobflknkbkaaVe21
import Derived.Test.YtdpaobflknkbkaaVe18
import Derived.Test.YtdpaobflknkbkaaVe33

namespace Go.Proofs.Ytdpaobflknkbkaa
open Go.RowKit Go.ChangeShapes
set_option linter.unusedVariables false
def VdY (A : VA) (g u9 nq cQ : Nat) (i : Nat) (v : Value) (W : World) : Prop :=
  match i with
  | 0 => v = .int .i64 0
  | 1 => v = .int .i64 0
  | 2 => v = .bool false
  | 3 => v = .bool false
  | 4 => v = .pointer (some ⟨A.vb, 0, none⟩)
  | 5 => v = .bool false
  | 6 => v = .pointer (some ⟨g, 0, none⟩)
  | 7 => v = .bool false
  | 8 => v = .bool false
  | 9 => v = .bool false
  | 10 => v = .bool false
  | 11 => v = .pointer (some ⟨g, 0, none⟩)
  | 12 => v = .bool true
  | 13 => v = .bool true
  | 14 => v = .pointer (some ⟨A.vb, 0, none⟩)
  | 15 => v = .int .i64 (nq : Nat)
  | 16 => v = .pointer (some ⟨g, 0, none⟩)
  | 17 => v = .pointer (some ⟨g, 0, none⟩)
  | 18 => v = .pointer (some ⟨g, 0, none⟩)
  | 19 => v = .slice (some ⟨u9, 0, none⟩) nq cQ
  | 20 => v = .int .i64 (nq : Nat)
  | 21 => v = .bool false
  | 22 => v = .bool false
  | 23 => v = .bool false
  | _ => True
theorem VdY.ext (A : VA) (g u9 nq cQ : Nat) : ∀ (j : Nat) (u : Value) (W W' : World), Fr (fun _ => False) W W' → VdY A g u9 nq cQ j u W → VdY A g u9 nq cQ j u W'
  | 0, u, W, W', hf, h => h
  | 1, u, W, W', hf, h => h
  | 2, u, W, W', hf, h => h
  | 3, u, W, W', hf, h => h
  | 4, u, W, W', hf, h => h
  | 5, u, W, W', hf, h => h
  | 6, u, W, W', hf, h => h
  | 7, u, W, W', hf, h => h
  | 8, u, W, W', hf, h => h
  | 9, u, W, W', hf, h => h
  | 10, u, W, W', hf, h => h
  | 11, u, W, W', hf, h => h
  | 12, u, W, W', hf, h => h
  | 13, u, W, W', hf, h => h
  | 14, u, W, W', hf, h => h
  | 15, u, W, W', hf, h => h
  | 16, u, W, W', hf, h => h
  | 17, u, W, W', hf, h => h
  | 18, u, W, W', hf, h => h
  | 19, u, W, W', hf, h => h
  | 20, u, W, W', hf, h => h
  | 21, u, W, W', hf, h => h
  | 22, u, W, W', hf, h => h
  | 23, u, W, W', hf, h => h
  | _ + 24, u, W, W', hf, h => trivial
def VdN (k9 : Nat) (i : Nat) (v : Value) (W : World) : Prop :=
  match i with
  | 0 => v = .int .i64 2
  | 1 => v = .int .i64 2
  | 2 => v = .bool false
  | 3 => v = .bool false
  | 4 => v = .pointer none
  | 5 => v = .bool true
  | 6 => v = .pointer none
  | 7 => v = .bool true
  | 8 => v = .bool false
  | 9 => v = .bool false
  | 10 => v = .bool false
  | 11 => v = .pointer none
  | 12 => v = .bool false
  | 13 => v = .bool false
  | 14 => v = undef
  | 15 => v = undef
  | 16 => v = undef
  | 17 => v = undef
  | 18 => v = undef
  | 19 => v = undef
  | 20 => v = undef
  | 21 => v = undef
  | 22 => v = .bool false
  | 23 => v = .bool false
  | _ => True
theorem VdN.ext (k9 : Nat) : ∀ (j : Nat) (u : Value) (W W' : World), Fr (fun _ => False) W W' → VdN k9 j u W → VdN k9 j u W'
  | 0, u, W, W', hf, h => h
  | 1, u, W, W', hf, h => h
  | 2, u, W, W', hf, h => h
  | 3, u, W, W', hf, h => h
  | 4, u, W, W', hf, h => h
  | 5, u, W, W', hf, h => h
  | 6, u, W, W', hf, h => h
  | 7, u, W, W', hf, h => h
  | 8, u, W, W', hf, h => h
  | 9, u, W, W', hf, h => h
  | 10, u, W, W', hf, h => h
  | 11, u, W, W', hf, h => h
  | 12, u, W, W', hf, h => h
  | 13, u, W, W', hf, h => h
  | 14, u, W, W', hf, h => h
  | 15, u, W, W', hf, h => h
  | 16, u, W, W', hf, h => h
  | 17, u, W, W', hf, h => h
  | 18, u, W, W', hf, h => h
  | 19, u, W, W', hf, h => h
  | 20, u, W, W', hf, h => h
  | 21, u, W, W', hf, h => h
  | 22, u, W, W', hf, h => h
  | 23, u, W, W', hf, h => h
  | _ + 24, u, W, W', hf, h => trivial
theorem ent___spence_view_View__Users (args : Array Value) (w : World) : (callFunc 12 args).run Try.prog w = .ok (.enter 12 args) w := by kernel_rfl
theorem ptr_g9 (w : World) (op : BinOp) (T : TypeId) (x y : Operand) (a b : Option Addr) : (eqGuard op T x y (.pointer a) (.pointer b)).run Try.prog w = .ok () w := by cases op <;> rfl
theorem eqv_no (w : World) (k : Nat) : (binOp .eql 26 (.pointer (some ⟨k, 0, none⟩)) (.pointer none)).run Try.prog w = .ok (.bool false) w := by kernel_rfl
theorem eqr_no (w : World) (k : Nat) : (binOp .eql 30 (.pointer (some ⟨k, 0, none⟩)) (.pointer none)).run Try.prog w = .ok (.bool false) w := by kernel_rfl
theorem ner_yes (w : World) (k : Nat) : (binOp .neq 30 (.pointer (some ⟨k, 0, none⟩)) (.pointer none)).run Try.prog w = .ok (.bool true) w := by kernel_rfl
theorem eqv_nn (w : World) : (binOp .eql 26 (.pointer none) (.pointer none)).run Try.prog w = .ok (.bool true) w := by kernel_rfl
theorem eqr_nn (w : World) : (binOp .eql 30 (.pointer none) (.pointer none)).run Try.prog w = .ok (.bool true) w := by kernel_rfl
theorem ner_nn (w : World) : (binOp .neq 30 (.pointer none) (.pointer none)).run Try.prog w = .ok (.bool false) w := by kernel_rfl
theorem op_lenUs {w : World} {o : Oper} {a : Act} {x : Operand} {ao : Option Addr} {n cap : Nat} (ho : o.op = .call { callee := .builtin .len, args := #[x], argTypes := #[34] }) (hx : a.eval x = .slice ao n cap) :
    (execOp a.eval o).run Try.prog w = .ok (.value (.int .i64 n)) w := by
  obtain ⟨d, op, ty, pos, aft, g⟩ := o
  simp only at ho
  subst ho
  simp [execOp, resolve, invoke, builtin, Builtin.len_, hx, Result.andThen, goInt]
theorem room_w {X : Nat → Prop} {z : Nat} {A : VA} {g u n : Nat} {s : VS} {W : World} (h : Wv X z A g u n s s W) (who o b : Int) : Calls Try.prog 15 #[.pointer (some ⟨A.vb, 0, none⟩), .int .i64 who, .int .i64 o, .int .i64 b] W fun e W' => e = .returned (.int .i64 (roomE s who o b)) ∧ Fr (fun _ => False) W W' := by
  obtain ⟨F, G, a, _⟩ := h.ex
  exact room_any a who o b
theorem rroom_w {X : Nat → Prop} {z : Nat} {A : VA} {g u n : Nat} {s : VS} {W : World} (h : Wv X z A g u n s s W) (who o b : Int) : Calls Try.prog 16 #[.pointer (some ⟨g, 0, none⟩), .int .i64 who, .int .i64 o, .int .i64 b] W fun e W' => e = .returned (.int .i64 (roomE s who o b)) ∧ Fr (fun _ => False) W W' := by
  obtain ⟨F, G, a, b9, _⟩ := h.ex
  exact rroom_any b9 (okQs_iff h.pl.ok).2.2 who o b
def LiAt (gI nq : Nat) (W : World) : Prop := 0 < nq → ∃ C, W.heap[gI]? = some (.cells C 38 (0, 0)) ∧ nq * 4 ≤ C.size ∧ ∀ j, j < nq → ∃ x, C[j * 4 + 2]? = some (.int .i64 x)
theorem li_of {z : Nat} {w : World} {a : Option Addr} {nq c : Nat} {Q : List Qt} (h : OwnE 38 4 z w (.slice a nq c) (Q.map qC)) (h0 : z < w.heap.size) : ∃ gI, z ≤ gI ∧ gI < w.heap.size ∧ (0 < nq → a = some ⟨gI, 0, none⟩) ∧ LiAt gI nq w := by
  obtain ⟨hn, hnc, hcm, b, f, hbf, hrng⟩ := h.elems.rng
  rcases h.row.2 with ⟨hv, _⟩ | ⟨g, cap, cur, hv, hzg, hg, hn', hm, hs, ht⟩
  · injection hv with e1 e2 e3
    subst e2
    exact ⟨z, Nat.le_refl _, h0, fun h => absurd h (Nat.lt_irrefl 0), fun h => absurd h (Nat.lt_irrefl 0)⟩
  · injection hv with e1 e2 e3
    subst e1 e3
    rw [List.length_map] at hn
    refine ⟨g, hzg, lt_of_block hg, fun _ => rfl, fun hp => ⟨cur, hg, by omega, fun j hj => ?_⟩⟩
    have h1 := (hbf (by omega)).1
    injection h1 with h1
    injection h1 with h1 h2
    have h3 := hrng j (by rw [List.length_map]; omega) 2
    rw [List.getElem_map] at h3
    have h4 := h3 _ rfl
    rw [← h1, ← h2, cell_of_row _ _ _ _ _ _ hg] at h4
    exact ⟨_, by rw [← h4]; congr 1; omega⟩
theorem LiAt.quiet {gI nq : Nat} {W W' : World} (h : LiAt gI nq W) (hf : Fr (fun _ => False) W W') : LiAt gI nq W' := fun hp => by
  obtain ⟨C, h1, h2, h3⟩ := h hp
  exact ⟨C, hf.heap h1 id, h2, h3⟩
theorem LiAt.put {gI nq : Nat} {W : World} (h : LiAt gI nq W) (i : Nat) (x : Int) : LiAt gI nq (W.setCell ⟨gI, i * 4 + 2, none⟩ (.int .i64 x)) := fun hp => by
  obtain ⟨C, h1, h2, h3⟩ := h hp
  refine ⟨_, heap_setCell_at (i := i * 4 + 2) (.int .i64 x) h1, by rw [Array.size_setIfInBounds]; exact h2, fun j hj => ?_⟩
  by_cases e : j = i
  · subst e
    exact ⟨x, by rw [Array.getElem?_setIfInBounds_self_of_lt (by omega)]⟩
  · rw [Array.getElem?_setIfInBounds_ne (by omega)]
    exact h3 j hj
set_option maxRecDepth 100000 in
set_option maxHeartbeats 4000000 in
theorem viewDoes_any (w : World) (vq vl : Value) (Q : List Qt) (l : List DeedD) (hQ : QsIn (fun k => k < w.heap.size) w vq Q) (hl : DeedsIn (fun k => k < w.heap.size) w vl l) (oo bb : Int) :
    Calls Try.prog 3 #[vq, vl, .int .i64 oo, .int .i64 bb] w fun e w' => e = .returned (.bool true) ∧ Fr (fun _ => False) w w' := by
  obtain ⟨a1, c1, rfl, _⟩ := id hQ.open9
  obtain ⟨ao, cl, rfl, _⟩ := id hl
  obtain ⟨nq, hnq⟩ : ∃ n, n = Q.length := ⟨_, rfl⟩
  obtain ⟨n, hn⟩ : ∃ n, n = l.length := ⟨_, rfl⟩
  rw [← hnq] at hQ ⊢
  rw [← hn] at hl ⊢
  have HGR := Lib.hid (great2_any w a1 nq c1 hl)
  have HAW := Lib.hid awake_any
  have HQ := Lib.hid (And.intro hQ hnq)
  have HL := Lib.hid (And.intro hl hn)
  have hb0 : ∀ W : World, (Instr.buildSlice 22 0 #[]).run Try.prog W = .ok (.slice (some ⟨W.heap.size, 0, none⟩) 0 0) (W.alloc (.cells #[] 38)) := fun W => by kernel_rfl
  clear hQ hl hnq hn
  go_enter Try.func3, Try.ntmps3
  go_wp2_with (go_at_call 8; refine HGR.out.mono ?_; rintro e w3 ⟨b, rfl, hb, hf3⟩; (have H3 := Lib.hid (And.intro hb hf3)); clear hb hf3; refine stopAt ?_)
  refine Stop.mk ?_
  cases b with
  | true =>
    go_wp2_with (go_at_call 9; refine (HAW.out w3).mono ?_; rintro e w4 ⟨rfl, hf4⟩; (have H4 := Lib.hid hf4); clear hf4)
    go_ret
    exact ⟨rfl, H3.out.2.trans H4.out (fun _ h => h.elim)⟩
  | false =>
    have HGP := Lib.hid (H3.out.1 rfl)
    have HE := Lib.hid (OwnE.empty9 w3)
    go_wp2_with (at_builtin; refine wpList_append_e (T := 38) (z := w3.heap.size) Try.underlying22 infoQ rfl (by decide) (by decide) _ rfl (.tmp 21) (.tmp 22) rfl (.slice (some ⟨w3.heap.size, 0, none⟩) 0 0) _ [] (Q.map qC) rfl rfl HE.out ((HQ.out.1.quiet H3.out.2).quiet ((Fr.refl (fun _ => False) w3).alloc _)) (qC_one Q) (by simp) (by have h1 := HQ.out.2; have h2 := HGP.out.2.1; simp; omega) ?_; intro v5 w5 ho5 hg5 hb5; rw [List.nil_append] at ho5; (have HO := Lib.hid (And.intro ho5 hg5)); (obtain ⟨a5, c5, hv5⟩ := ho5.form); (rw [List.length_map, ← HQ.out.2] at hv5); (subst hv5); clear ho5 hg5 hb5; refine stopAt ?_)
    refine Stop.mk ?_
    have hf35 : Fr (fun _ => False) w3 w5 := ((Fr.refl (fun _ => False) w3).alloc (.cells #[] 38)).grown HO.out.2 (fun k hk => .inr (by
      simp only [Value.ownBlock, Option.some.injEq] at hk
      omega))
    have h35 : w3.heap.size < w5.heap.size := by
      have h1 := HO.out.2.size
      simp at h1
      omega
    obtain ⟨gI, hgz, hg5, hga, hli⟩ := li_of HO.out.1 h35
    have hq5 : QsIn (fun b => (Value.slice a5 nq c5).ownBlock = some b) w5 (.slice a5 nq c5) Q := HO.out.1.elems
    have H5 := Lib.hid (And.intro (H3.out.2.trans hf35 (fun _ h => h.elim)) (And.intro hq5 (And.intro hga (And.intro hli (And.intro hg5 (Nat.le_trans H3.out.2.size hgz))))))
    clear hf35 h35 hgz hg5 hga hli hq5 HO HE
    by_cases hok : okQs Q = true
    · have HN5 := Lib.hid (new_yes w5 _ Q H5.out.2.1 hok)
      have HR5 := Lib.hid (fun W (hW : Fr (fun _ => False) w5 W) => rnew_yes W _ Q ((HQ.out.1.quiet H5.out.1).quiet hW) hok)
      clear hok
      go_wp2_with (first
        | (go_at_call 10; refine HN5.out.mono ?_; rintro e w6 ⟨A, rfl, hv6, hl6, hf6⟩; (have H6 := Lib.hid (And.intro hv6 (And.intro hl6 hf6))); clear hv6 hl6 hf6)
        | (go_at_call 11; refine (HR5.out w6 H6.out.2.2).mono ?_; rintro e w7 ⟨g, u, rfl, hv7, hl7, hf7⟩; (have HWV := Lib.hid (Wv.made (w0 := w5) (z := w5.heap.size) H6.out.1 (fun k hk => (H6.out.2.1 k hk).1) (fun _ h => h.elim) hv7 hf7 hl7)); (have H7 := Lib.hid (H6.out.2.2.trans hf7 (fun _ h => h.elim))); clear hv7 hl7 hf7))
      obtain ⟨cQ, HGQ⟩ : ∃ cQ, Hid (w7.cell? ⟨g, 0, none⟩ = some (.slice (some ⟨u, 0, none⟩) nq cQ)) := by
        obtain ⟨F, G, a, b, _⟩ := HWV.out.ex
        obtain ⟨c, h1, _⟩ := b.row
        exact ⟨c, Lib.hid (by have := cell_of_one h1; rwa [← HQ.out.2] at this)⟩
      have HUS := Lib.hid (fun W (hW : Fr (fun _ => False) w7 W) => show Calls Try.prog 12 #[.pointer (some ⟨A.vb, 0, none⟩)] W fun e w' => e = .returned (.int .i64 nq) ∧ Fr (fun _ => False) W w' from by
        obtain ⟨F, G, a, b, _⟩ := HWV.out.ex
        rw [HQ.out.2]
        exact (users_any (a.quiet hW)).mono fun e w' ⟨h1, h2⟩ => ⟨h1, by rw [h2]; exact Fr.refl _ _⟩)
      have LG := Lib.hid (fun W (hW : Fr (fun _ => False) w7 W) => show (Instr.loadAt 34 (.pointer (some ⟨g, 0, none⟩))).run Try.prog W = .ok (.slice (some ⟨u, 0, none⟩) nq cQ) W from load_one5 W _ _ _ (by kernel_rfl) (hW.cell HGQ.out id))
      refine wp_region_inv 24 (by kernel_rfl) (by kernel_rfl) (fun W => Fr (fun _ => False) w7 W) (VdY A g u nq cQ) (fun _ _ _ _ => True) (Fr (fun _ => False)) (VdY.ext A g u nq cQ) (Fr.refl _ _).drew ?_ ?_
      · intro i hi o ho
        replace hi : i < 24 := hi
        obtain rfl | rfl | rfl | rfl | rfl | rfl | rfl | rfl | rfl | rfl | rfl | rfl | rfl | rfl | rfl | rfl | rfl | rfl | rfl | rfl | rfl | rfl | rfl | rfl : i = 0 ∨ i = 1 ∨ i = 2 ∨ i = 3 ∨ i = 4 ∨ i = 5 ∨ i = 6 ∨ i = 7 ∨ i = 8 ∨ i = 9 ∨ i = 10 ∨ i = 11 ∨ i = 12 ∨ i = 13 ∨ i = 14 ∨ i = 15 ∨ i = 16 ∨ i = 17 ∨ i = 18 ∨ i = 19 ∨ i = 20 ∨ i = 21 ∨ i = 22 ∨ i = 23 := by omega
        · simp only [List.getElem?_cons_zero, Option.some.injEq] at ho
          subst ho
          intro a W vs hB hS hE hU
          refine wpG_plain rfl ?_
          have v11 : a.eval (.tmp 11) = .int .i64 0 := (hU 11 (by kernel_rfl)).trans rfl
          clear hE hU
          exact wp_value_inv (w' := W) (.int .i64 0) (op_move rfl v11) ⟨_, rfl, hB, Fr.refl _ _, rfl, fun _ _ _ _ _ => trivial⟩
        · simp only [List.getElem?_cons_zero, List.getElem?_cons_succ, Option.some.injEq] at ho
          subst ho
          intro a W vs hB hS hE hU
          refine wpG_plain rfl ?_
          have v13 : a.eval (.tmp 13) = .int .i64 0 := (hU 13 (by kernel_rfl)).trans rfl
          clear hE hU
          exact wp_value_inv (w' := W) (.int .i64 0) (op_move rfl v13) ⟨_, rfl, hB, Fr.refl _ _, rfl, fun _ _ _ _ _ => trivial⟩
        · simp only [List.getElem?_cons_zero, List.getElem?_cons_succ, Option.some.injEq] at ho
          subst ho
          intro a W vs hB hS hE hU
          refine wpG_plain rfl ?_
          obtain ⟨r0, e34⟩ := hE 0 34 (by kernel_rfl) (by kernel_rfl)
          have v34 : a.eval (.tmp 34) = .int .i64 0 := e34.trans r0
          obtain ⟨r1, e35⟩ := hE 1 35 (by kernel_rfl) (by kernel_rfl)
          have v35 : a.eval (.tmp 35) = .int .i64 0 := e35.trans r1
          clear hE hU
          exact wp_value_inv (w' := W) (.bool false) (op_bin rfl v34 v35 (guard_int9 W _ _ _ _ _ _ _) neq_no) ⟨_, rfl, hB, Fr.refl _ _, rfl, fun _ _ _ _ _ => trivial⟩
        · simp only [List.getElem?_cons_zero, List.getElem?_cons_succ, Option.some.injEq] at ho
          subst ho
          intro a W vs hB hS hE hU
          refine wpG_plain rfl ?_
          obtain ⟨r2, e36⟩ := hE 2 36 (by kernel_rfl) (by kernel_rfl)
          have v36 : a.eval (.tmp 36) = .bool false := e36.trans r2
          clear hE hU
          exact wp_value_inv (w' := W) (.bool false) (op_move rfl v36) ⟨_, rfl, hB, Fr.refl _ _, rfl, fun _ _ _ _ _ => trivial⟩
        · simp only [List.getElem?_cons_zero, List.getElem?_cons_succ, Option.some.injEq] at ho
          subst ho
          intro a W vs hB hS hE hU
          obtain ⟨r3, e37⟩ := hE 3 37 (by kernel_rfl) (by kernel_rfl)
          have v37 : a.eval (.tmp 37) = .bool false := e37.trans r3
          refine wpG_yes 3 false 37 rfl (by kernel_rfl) (by rw [hS]; first | simp | exact Nat.le_of_ble_eq_true rfl) v37 ?_
          have v10 : a.eval (.tmp 10) = .pointer (some ⟨A.vb, 0, none⟩) := (hU 10 (by kernel_rfl)).trans rfl
          clear hE hU
          exact wp_value_inv (w' := W) (.pointer (some ⟨A.vb, 0, none⟩)) (op_move rfl v10) ⟨_, rfl, hB, Fr.refl _ _, rfl, fun _ _ _ _ _ => trivial⟩
        · simp only [List.getElem?_cons_zero, List.getElem?_cons_succ, Option.some.injEq] at ho
          subst ho
          intro a W vs hB hS hE hU
          obtain ⟨r3, e37⟩ := hE 3 37 (by kernel_rfl) (by kernel_rfl)
          have v37 : a.eval (.tmp 37) = .bool false := e37.trans r3
          refine wpG_yes 3 false 37 rfl (by kernel_rfl) (by rw [hS]; first | simp | exact Nat.le_of_ble_eq_true rfl) v37 ?_
          obtain ⟨r4, e38⟩ := hE 4 38 (by kernel_rfl) (by kernel_rfl)
          have v38 : a.eval (.tmp 38) = .pointer (some ⟨A.vb, 0, none⟩) := e38.trans r4
          clear hE hU
          exact wp_value_inv (w' := W) (.bool false) (op_bin rfl v38 rfl (ptr_g9 W _ _ _ _ _ _) (eqv_no W _)) ⟨_, rfl, hB, Fr.refl _ _, rfl, fun _ _ _ _ _ => trivial⟩
        · simp only [List.getElem?_cons_zero, List.getElem?_cons_succ, Option.some.injEq] at ho
          subst ho
          intro a W vs hB hS hE hU
          obtain ⟨r3, e37⟩ := hE 3 37 (by kernel_rfl) (by kernel_rfl)
          have v37 : a.eval (.tmp 37) = .bool false := e37.trans r3
          refine wpG_yes 3 false 37 rfl (by kernel_rfl) (by rw [hS]; first | simp | exact Nat.le_of_ble_eq_true rfl) v37 ?_
          have v12 : a.eval (.tmp 12) = .pointer (some ⟨g, 0, none⟩) := (hU 12 (by kernel_rfl)).trans rfl
          clear hE hU
          exact wp_value_inv (w' := W) (.pointer (some ⟨g, 0, none⟩)) (op_move rfl v12) ⟨_, rfl, hB, Fr.refl _ _, rfl, fun _ _ _ _ _ => trivial⟩
        · simp only [List.getElem?_cons_zero, List.getElem?_cons_succ, Option.some.injEq] at ho
          subst ho
          intro a W vs hB hS hE hU
          obtain ⟨r3, e37⟩ := hE 3 37 (by kernel_rfl) (by kernel_rfl)
          have v37 : a.eval (.tmp 37) = .bool false := e37.trans r3
          refine wpG_yes 3 false 37 rfl (by kernel_rfl) (by rw [hS]; first | simp | exact Nat.le_of_ble_eq_true rfl) v37 ?_
          obtain ⟨r6, e40⟩ := hE 6 40 (by kernel_rfl) (by kernel_rfl)
          have v40 : a.eval (.tmp 40) = .pointer (some ⟨g, 0, none⟩) := e40.trans r6
          clear hE hU
          exact wp_value_inv (w' := W) (.bool false) (op_bin rfl v40 rfl (ptr_g9 W _ _ _ _ _ _) (eqr_no W _)) ⟨_, rfl, hB, Fr.refl _ _, rfl, fun _ _ _ _ _ => trivial⟩
        · simp only [List.getElem?_cons_zero, List.getElem?_cons_succ, Option.some.injEq] at ho
          subst ho
          intro a W vs hB hS hE hU
          obtain ⟨r3, e37⟩ := hE 3 37 (by kernel_rfl) (by kernel_rfl)
          have v37 : a.eval (.tmp 37) = .bool false := e37.trans r3
          refine wpG_yes 3 false 37 rfl (by kernel_rfl) (by rw [hS]; first | simp | exact Nat.le_of_ble_eq_true rfl) v37 ?_
          obtain ⟨r5, e39⟩ := hE 5 39 (by kernel_rfl) (by kernel_rfl)
          have v39 : a.eval (.tmp 39) = .bool false := e39.trans r5
          obtain ⟨r7, e41⟩ := hE 7 41 (by kernel_rfl) (by kernel_rfl)
          have v41 : a.eval (.tmp 41) = .bool false := e41.trans r7
          clear hE hU
          exact wp_value_inv (w' := W) (.bool false) (op_bin rfl v39 v41 (guard_b9 W _ _ _ _ _) (neq_b9 W _)) ⟨_, rfl, hB, Fr.refl _ _, rfl, fun _ _ _ _ _ => trivial⟩
        · simp only [List.getElem?_cons_zero, List.getElem?_cons_succ, Option.some.injEq] at ho
          subst ho
          intro a W vs hB hS hE hU
          refine wpG_plain rfl ?_
          obtain ⟨r3, e37⟩ := hE 3 37 (by kernel_rfl) (by kernel_rfl)
          have v37 : a.eval (.tmp 37) = .bool false := e37.trans r3
          obtain ⟨r8, e42⟩ := hE 8 42 (by kernel_rfl) (by kernel_rfl)
          have v42 : a.eval (.tmp 42) = .bool false := e42.trans r8
          clear hE hU
          exact wp_value_inv (w' := W) (.bool false) (op_pick rfl v37 (by simp only [Bool.false_eq_true, if_false]; exact v42)) ⟨_, rfl, hB, Fr.refl _ _, rfl, fun _ _ _ _ _ => trivial⟩
        · simp only [List.getElem?_cons_zero, List.getElem?_cons_succ, Option.some.injEq] at ho
          subst ho
          intro a W vs hB hS hE hU
          refine wpG_plain rfl ?_
          obtain ⟨r9, e43⟩ := hE 9 43 (by kernel_rfl) (by kernel_rfl)
          have v43 : a.eval (.tmp 43) = .bool false := e43.trans r9
          clear hE hU
          exact wp_value_inv (w' := W) (.bool false) (op_move rfl v43) ⟨_, rfl, hB, Fr.refl _ _, rfl, fun _ _ _ _ _ => trivial⟩
        · simp only [List.getElem?_cons_zero, List.getElem?_cons_succ, Option.some.injEq] at ho
          subst ho
          intro a W vs hB hS hE hU
          obtain ⟨r10, e44⟩ := hE 10 44 (by kernel_rfl) (by kernel_rfl)
          have v44 : a.eval (.tmp 44) = .bool false := e44.trans r10
          refine wpG_yes 10 false 44 rfl (by kernel_rfl) (by rw [hS]; first | simp | exact Nat.le_of_ble_eq_true rfl) v44 ?_
          have v12 : a.eval (.tmp 12) = .pointer (some ⟨g, 0, none⟩) := (hU 12 (by kernel_rfl)).trans rfl
          clear hE hU
          exact wp_value_inv (w' := W) (.pointer (some ⟨g, 0, none⟩)) (op_move rfl v12) ⟨_, rfl, hB, Fr.refl _ _, rfl, fun _ _ _ _ _ => trivial⟩
        · simp only [List.getElem?_cons_zero, List.getElem?_cons_succ, Option.some.injEq] at ho
          subst ho
          intro a W vs hB hS hE hU
          obtain ⟨r10, e44⟩ := hE 10 44 (by kernel_rfl) (by kernel_rfl)
          have v44 : a.eval (.tmp 44) = .bool false := e44.trans r10
          refine wpG_yes 10 false 44 rfl (by kernel_rfl) (by rw [hS]; first | simp | exact Nat.le_of_ble_eq_true rfl) v44 ?_
          obtain ⟨r11, e45⟩ := hE 11 45 (by kernel_rfl) (by kernel_rfl)
          have v45 : a.eval (.tmp 45) = .pointer (some ⟨g, 0, none⟩) := e45.trans r11
          clear hE hU
          exact wp_value_inv (w' := W) (.bool true) (op_bin rfl v45 rfl (ptr_g9 W _ _ _ _ _ _) (ner_yes W _)) ⟨_, rfl, hB, Fr.refl _ _, rfl, fun _ _ _ _ _ => trivial⟩
        · simp only [List.getElem?_cons_zero, List.getElem?_cons_succ, Option.some.injEq] at ho
          subst ho
          intro a W vs hB hS hE hU
          obtain ⟨r10, e44⟩ := hE 10 44 (by kernel_rfl) (by kernel_rfl)
          have v44 : a.eval (.tmp 44) = .bool false := e44.trans r10
          refine wpG_yes 10 false 44 rfl (by kernel_rfl) (by rw [hS]; first | simp | exact Nat.le_of_ble_eq_true rfl) v44 ?_
          obtain ⟨r12, e46⟩ := hE 12 46 (by kernel_rfl) (by kernel_rfl)
          have v46 : a.eval (.tmp 46) = .bool true := e46.trans r12
          clear hE hU
          exact wp_value_inv (w' := W) (.bool true) (op_move rfl v46) ⟨_, rfl, hB, Fr.refl _ _, rfl, fun _ _ _ _ _ => trivial⟩
        · simp only [List.getElem?_cons_zero, List.getElem?_cons_succ, Option.some.injEq] at ho
          subst ho
          intro a W vs hB hS hE hU
          obtain ⟨r13, e47⟩ := hE 13 47 (by kernel_rfl) (by kernel_rfl)
          have v47 : a.eval (.tmp 47) = .bool true := e47.trans r13
          refine wpG_yes 13 true 47 rfl (by kernel_rfl) (by rw [hS]; first | simp | exact Nat.le_of_ble_eq_true rfl) v47 ?_
          have v10 : a.eval (.tmp 10) = .pointer (some ⟨A.vb, 0, none⟩) := (hU 10 (by kernel_rfl)).trans rfl
          clear hE hU
          exact wp_value_inv (w' := W) (.pointer (some ⟨A.vb, 0, none⟩)) (op_move rfl v10) ⟨_, rfl, hB, Fr.refl _ _, rfl, fun _ _ _ _ _ => trivial⟩
        · simp only [List.getElem?_cons_zero, List.getElem?_cons_succ, Option.some.injEq] at ho
          subst ho
          intro a W vs hB hS hE hU
          obtain ⟨r13, e47⟩ := hE 13 47 (by kernel_rfl) (by kernel_rfl)
          have v47 : a.eval (.tmp 47) = .bool true := e47.trans r13
          refine wpG_yes 13 true 47 rfl (by kernel_rfl) (by rw [hS]; first | simp | exact Nat.le_of_ble_eq_true rfl) v47 ?_
          obtain ⟨r14, e48⟩ := hE 14 48 (by kernel_rfl) (by kernel_rfl)
          have v48 : a.eval (.tmp 48) = .pointer (some ⟨A.vb, 0, none⟩) := e48.trans r14
          clear hE hU
          refine wp_call_inv 12 #[.tmp 48] #[26] rfl #[.pointer (some ⟨A.vb, 0, none⟩)] (by simp only [List.map_toArray, List.map_cons, List.map_nil, v48]) (ent___spence_view_View__Users _) (Post := fun v W' => v = .int .i64 (nq : Nat) ∧ Fr (fun _ => False) W W') ((HUS.out W hB).mono fun e w' h => ⟨_, h.1, rfl, h.2⟩) ?_
          rintro v W' ⟨rfl, hf⟩
          exact ⟨_, rfl, hB.trans hf (fun _ h => h.elim), hf, rfl, fun _ _ _ _ _ => trivial⟩
        · simp only [List.getElem?_cons_zero, List.getElem?_cons_succ, Option.some.injEq] at ho
          subst ho
          intro a W vs hB hS hE hU
          obtain ⟨r13, e47⟩ := hE 13 47 (by kernel_rfl) (by kernel_rfl)
          have v47 : a.eval (.tmp 47) = .bool true := e47.trans r13
          refine wpG_yes 13 true 47 rfl (by kernel_rfl) (by rw [hS]; first | simp | exact Nat.le_of_ble_eq_true rfl) v47 ?_
          have v12 : a.eval (.tmp 12) = .pointer (some ⟨g, 0, none⟩) := (hU 12 (by kernel_rfl)).trans rfl
          clear hE hU
          exact wp_value_inv (w' := W) (.pointer (some ⟨g, 0, none⟩)) (op_move rfl v12) ⟨_, rfl, hB, Fr.refl _ _, rfl, fun _ _ _ _ _ => trivial⟩
        · simp only [List.getElem?_cons_zero, List.getElem?_cons_succ, Option.some.injEq] at ho
          subst ho
          intro a W vs hB hS hE hU
          obtain ⟨r13, e47⟩ := hE 13 47 (by kernel_rfl) (by kernel_rfl)
          have v47 : a.eval (.tmp 47) = .bool true := e47.trans r13
          refine wpG_yes 13 true 47 rfl (by kernel_rfl) (by rw [hS]; first | simp | exact Nat.le_of_ble_eq_true rfl) v47 ?_
          obtain ⟨r16, e50⟩ := hE 16 50 (by kernel_rfl) (by kernel_rfl)
          have v50 : a.eval (.tmp 50) = .pointer (some ⟨g, 0, none⟩) := e50.trans r16
          clear hE hU
          exact wp_value_inv (w' := W) (.pointer (some ⟨g, 0, none⟩)) (op_nilCheck rfl v50) ⟨_, rfl, hB, Fr.refl _ _, rfl, fun _ _ _ _ _ => trivial⟩
        · simp only [List.getElem?_cons_zero, List.getElem?_cons_succ, Option.some.injEq] at ho
          subst ho
          intro a W vs hB hS hE hU
          obtain ⟨r13, e47⟩ := hE 13 47 (by kernel_rfl) (by kernel_rfl)
          have v47 : a.eval (.tmp 47) = .bool true := e47.trans r13
          refine wpG_yes 13 true 47 rfl (by kernel_rfl) (by rw [hS]; first | simp | exact Nat.le_of_ble_eq_true rfl) v47 ?_
          obtain ⟨r17, e51⟩ := hE 17 51 (by kernel_rfl) (by kernel_rfl)
          have v51 : a.eval (.tmp 51) = .pointer (some ⟨g, 0, none⟩) := e51.trans r17
          clear hE hU
          exact wp_value_inv (w' := W) (.pointer (some ⟨g, 0, none⟩)) (op_fieldAddr rfl v51 (fldVw0 W g)) ⟨_, rfl, hB, Fr.refl _ _, rfl, fun _ _ _ _ _ => trivial⟩
        · simp only [List.getElem?_cons_zero, List.getElem?_cons_succ, Option.some.injEq] at ho
          subst ho
          intro a W vs hB hS hE hU
          obtain ⟨r13, e47⟩ := hE 13 47 (by kernel_rfl) (by kernel_rfl)
          have v47 : a.eval (.tmp 47) = .bool true := e47.trans r13
          refine wpG_yes 13 true 47 rfl (by kernel_rfl) (by rw [hS]; first | simp | exact Nat.le_of_ble_eq_true rfl) v47 ?_
          obtain ⟨r18, e52⟩ := hE 18 52 (by kernel_rfl) (by kernel_rfl)
          have v52 : a.eval (.tmp 52) = .pointer (some ⟨g, 0, none⟩) := e52.trans r18
          clear hE hU
          exact wp_value_inv (w' := W) (.slice (some ⟨u, 0, none⟩) nq cQ) (op_loadAt rfl v52 (LG.out W hB)) ⟨_, rfl, hB, Fr.refl _ _, rfl, fun _ _ _ _ _ => trivial⟩
        · simp only [List.getElem?_cons_zero, List.getElem?_cons_succ, Option.some.injEq] at ho
          subst ho
          intro a W vs hB hS hE hU
          obtain ⟨r13, e47⟩ := hE 13 47 (by kernel_rfl) (by kernel_rfl)
          have v47 : a.eval (.tmp 47) = .bool true := e47.trans r13
          refine wpG_yes 13 true 47 rfl (by kernel_rfl) (by rw [hS]; first | simp | exact Nat.le_of_ble_eq_true rfl) v47 ?_
          obtain ⟨r19, e53⟩ := hE 19 53 (by kernel_rfl) (by kernel_rfl)
          have v53 : a.eval (.tmp 53) = .slice (some ⟨u, 0, none⟩) nq cQ := e53.trans r19
          clear hE hU
          exact wp_value_inv (w' := W) (.int .i64 (nq : Nat)) (op_lenUs rfl v53) ⟨_, rfl, hB, Fr.refl _ _, rfl, fun _ _ _ _ _ => trivial⟩
        · simp only [List.getElem?_cons_zero, List.getElem?_cons_succ, Option.some.injEq] at ho
          subst ho
          intro a W vs hB hS hE hU
          obtain ⟨r13, e47⟩ := hE 13 47 (by kernel_rfl) (by kernel_rfl)
          have v47 : a.eval (.tmp 47) = .bool true := e47.trans r13
          refine wpG_yes 13 true 47 rfl (by kernel_rfl) (by rw [hS]; first | simp | exact Nat.le_of_ble_eq_true rfl) v47 ?_
          obtain ⟨r15, e49⟩ := hE 15 49 (by kernel_rfl) (by kernel_rfl)
          have v49 : a.eval (.tmp 49) = .int .i64 (nq : Nat) := e49.trans r15
          obtain ⟨r20, e54⟩ := hE 20 54 (by kernel_rfl) (by kernel_rfl)
          have v54 : a.eval (.tmp 54) = .int .i64 (nq : Nat) := e54.trans r20
          clear hE hU
          exact wp_value_inv (w' := W) (.bool false) (op_bin rfl v49 v54 (guard_int9 W _ _ _ _ _ _ _) neq_no) ⟨_, rfl, hB, Fr.refl _ _, rfl, fun _ _ _ _ _ => trivial⟩
        · simp only [List.getElem?_cons_zero, List.getElem?_cons_succ, Option.some.injEq] at ho
          subst ho
          intro a W vs hB hS hE hU
          obtain ⟨r10, e44⟩ := hE 10 44 (by kernel_rfl) (by kernel_rfl)
          have v44 : a.eval (.tmp 44) = .bool false := e44.trans r10
          refine wpG_yes 10 false 44 rfl (by kernel_rfl) (by rw [hS]; first | simp | exact Nat.le_of_ble_eq_true rfl) v44 ?_
          obtain ⟨r13, e47⟩ := hE 13 47 (by kernel_rfl) (by kernel_rfl)
          have v47 : a.eval (.tmp 47) = .bool true := e47.trans r13
          obtain ⟨r21, e55⟩ := hE 21 55 (by kernel_rfl) (by kernel_rfl)
          have v55 : a.eval (.tmp 55) = .bool false := e55.trans r21
          clear hE hU
          exact wp_value_inv (w' := W) (.bool false) (op_pick rfl v47 (by simp only [if_true]; exact v55)) ⟨_, rfl, hB, Fr.refl _ _, rfl, fun _ _ _ _ _ => trivial⟩
        · simp only [List.getElem?_cons_zero, List.getElem?_cons_succ, Option.some.injEq] at ho
          subst ho
          intro a W vs hB hS hE hU
          refine wpG_plain rfl ?_
          obtain ⟨r10, e44⟩ := hE 10 44 (by kernel_rfl) (by kernel_rfl)
          have v44 : a.eval (.tmp 44) = .bool false := e44.trans r10
          obtain ⟨r22, e56⟩ := hE 22 56 (by kernel_rfl) (by kernel_rfl)
          have v56 : a.eval (.tmp 56) = .bool false := e56.trans r22
          clear hE hU
          exact wp_value_inv (w' := W) (.bool false) (op_pick rfl v44 (by simp only [Bool.false_eq_true, if_false]; exact v56)) ⟨_, rfl, hB, Fr.refl _ _, rfl, fun _ _ _ _ _ => trivial⟩
      · intro vs WA hB0 hR0 hD
        have r57 : vs 23 = .bool false := hR0 23 (by decide)
        have HZ := Lib.hid hB0
        clear hR0 hD hB0
        simp only [acts, if_true, dstAt, List.getElem?_cons_zero, List.getElem?_cons_succ, Option.bind_some, Act.put, List.setIfInBounds_toArray, List.set_cons_succ, List.set_cons_zero, List.drop_succ_cons, List.drop_nil]
        simp only [r57]
        clear r57
        have HWA := Lib.hid (And.intro (HWV.out.quiet HZ.out) (H7.out.trans HZ.out (fun _ h => h.elim)))
        have HLI := Lib.hid (H5.out.2.2.2.1.quiet HWA.out.2)
        clear HZ HWV HUS LG HGQ H7 H6 HR5 HN5
        go_wp2_with fail
        go_loopw [14] (fun kv wr => ∃ k : Nat, k ≤ nq ∧ kv = .int .i64 k ∧ Hid (Fr (fun k => k = gI) WA wr ∧ LiAt gI nq wr)) (fun kv _ => nq - (intOf kv).toNat)
        case atStart => exact ⟨0, by omega, rfl, Lib.hid ⟨Fr.refl _ _, HLI.out⟩⟩
        case round =>
          obtain ⟨k, hk, rfl, HK⟩ := hrel
          by_cases hkn : k < nq
          · have h50 : nq ≤ 50 := HGP.out.2.1
            have hga := H5.out.2.2.1 (by omega)
            subst hga
            obtain ⟨C, hC1, hC2, hC3⟩ := HK.out.2 (by omega)
            obtain ⟨x, hx⟩ := hC3 k hkn
            have cx : wr.cell? ⟨gI, k * 4 + 2, none⟩ = some (.int .i64 x) := by rw [cell_of_row _ _ _ _ _ _ hC1]; exact hx
            have hfx := frozen_of_row wr gI (k * 4 + 2) C 38 hC1
            have k64 : (k : Int) < (nq : Int) := by omega
            have HNX := Lib.hid (show Fr (fun k => k = gI) WA (wr.setCell ⟨gI, k * 4 + 2, none⟩ (.int .i64 (IntKind.i64.wrap (x + 1)))) ∧ LiAt gI nq (wr.setCell ⟨gI, k * 4 + 2, none⟩ (.int .i64 (IntKind.i64.wrap (x + 1)))) from ⟨HK.out.1.setCell (p := ⟨gI, k * 4 + 2, none⟩) (.inl rfl) _, HK.out.2.put k _⟩)
            obtain ⟨y, hy⟩ : ∃ y, y = IntKind.i64.wrap (x + 1) := ⟨_, rfl⟩
            have hy' : IntKind.i64.wrap (x + 1) = y := hy.symm
            rw [← hy] at HNX
            clear hC1 hC2 hC3 hx hy HK
            go_wp2_with fail
            go_roundw
            case rel => exact ⟨k + 1, by omega, by go_num, HNX⟩
            case measure => simp [intOf]; omega
          · have HA := Lib.hid HK.out.1
            clear HK
            have h60 : n ≤ 60 := by have := HL.out.2; have := HGP.out.1; omega
            have HV0 := Lib.hid (show ∃ s, Wv (fun _ => False) w5.heap.size A g u 0 s s wr ∧ Sm s ∧ Fr (fun _ => False) w wr from ⟨_, HWA.out.1.keep HA.out (fun k hk => .inr (by rw [hk]; exact H5.out.2.2.2.2.1)), Sm.start Q, (H5.out.1.trans HWA.out.2 (fun _ h => h.elim)).trans HA.out (fun k hk => .inr (by rw [hk]; exact H5.out.2.2.2.2.2))⟩)
            have HB := Lib.hid (show ∃ b off, (0 < n → ao = some ⟨b, off, none⟩) ∧ ∀ i (h : i < l.length), DeedAt (fun k => k < w.heap.size) w b (off + i * 25) l[i] from by
              obtain ⟨ao', cap', hv, h1, h2, h4⟩ := HL.out.1
              cases hv
              by_cases hl : l = []
              · subst hl
                exact ⟨0, 0, fun h => absurd h (by simp), fun i h => by simp at h⟩
              · obtain ⟨b, off, ha, hi⟩ := h4 hl
                exact ⟨b, off, fun _ => ha, hi⟩)
            obtain ⟨b, off, hao, hdd⟩ := HB.out
            have HAO := Lib.hid hao
            have HDD := Lib.hid hdd
            have hw5 : Hid (w.heap.size ≤ w5.heap.size) := Lib.hid H5.out.1.size
            clear hao hdd HB HA HWA HLI
            go_wp2_with fail
            go_loopw [15] (fun iv wq => ∃ i : Nat, i ≤ n ∧ iv = .int .i64 i ∧ Hid (∃ s, Wv (fun _ => False) w5.heap.size A g u i s s wq ∧ Sm s ∧ Fr (fun _ => False) w wq)) (fun iv _ => n - (intOf iv).toNat)
            case atStart => exact ⟨0, by omega, rfl, HV0⟩
            case round =>
              obtain ⟨i, hi, rfl, HVI⟩ := hrel
              clear HV0
              by_cases hlt : i < n
              · have hiL : i < l.length := by have := HL.out.2; omega
                obtain rfl := HAO.out (by omega)
                obtain ⟨s, hv, hsm, hfw⟩ := HVI.out
                have hd := (HDD.out i hiL).keep hfw (fun _ _ _ h => h)
                obtain ⟨d, hdq⟩ : ∃ d, d = l[i] := ⟨_, rfl⟩
                have hdl : d ∈ l := hdq ▸ List.getElem_mem hiL
                rw [← hdq] at hd
                have hld := load_deed hd
                obtain ⟨XD, hXD⟩ : ∃ X, X = (deedC d).toArray := ⟨_, rfl⟩
                rw [← hXD] at hld
                have HLD6 := Lib.hid (fun (oo : Oper) (a : Act) (e1 : oo.op = .load 46 (.tmp 86)) (e2 : a.eval (.tmp 86) = .pointer (some ⟨b, off + i * 25, none⟩)) => op_loadAt e1 e2 hld)
                have HDO := Lib.hid (does_any hv (by omega) XD d (hXD ▸ deedC_ok d hd.wf hd.fit) hd.bytes (fun k hk => Nat.lt_of_lt_of_le hk hw5.out) (Nat.le_trans (HGP.out.2.2 d hdl) (by decide)))
                obtain ⟨P, hP⟩ : ∃ P, P = d.name := ⟨_, rfl⟩
                have hPs : P.size ≤ 140737488351232 := by rw [hP]; exact hd.fit.1
                have HNM := Lib.hid (fun W (hW : Fr (fun _ => False) w W) => show W.cell? ⟨b, off + i * 25 + 2, none⟩ = some (.string P) by rw [hP, hdq]; exact ((HDD.out i hiL).keep hW (fun _ _ _ h => h)).nm)
                have HSF := Lib.hid (And.intro (hsm.doS d) hfw)
                have hi64 : (i : Int) < (n : Int) := by omega
                have d1 : decide ((i : Int) < (n : Int)) = true := by rw [decide_eq_true_iff]; omega
                have HNN := Lib.hid (ner_yes wr g)
                have HPG := Lib.hid (ptr_g9 wr)
                clear hd hld hdl hXD hP hsm hfw HVI hv hdq hiL
                go_wp2_with (first
                  | (with_reducible refine wpList_value_g (by simp [Region.wanted, yielded]) (.bool true) wr (op_bin rfl rfl rfl (HPG.out _ _ _ _ _ _) HNN.out) ?_)
                  | (with_reducible refine Go.Proofs.Ytdpaobflknkbkaa.wpList_value rfl (.agg XD) wr (HLD6.out _ _ rfl rfl) ?_)
                  | (go_at_call 13; refine HDO.out.mono ?_; rintro e w10 ⟨rfl, hv10, hf10⟩; (have H10 := Lib.hid (And.intro hv10 (HSF.out.2.trans hf10 (fun k hk => .inr (Nat.le_trans hw5.out hk))))); clear hv10 hf10))
                go_loopw [16] (fun kv wk => ∃ k : Nat, k ≤ 11 ∧ kv = .int .i64 ((k : Int) - 1) ∧ Hid (Fr (fun _ => False) w10 wk)) (fun kv _ => 11 - (intOf kv + 1).toNat)
                case atStart => exact ⟨0, by omega, by simp, Lib.hid (Fr.refl _ _)⟩
                case round =>
                  obtain ⟨k, hk11, rfl, HK⟩ := hrel
                  have HV := Lib.hid (And.intro (H10.out.1.quiet HK.out) (H10.out.2.trans HK.out (fun _ h => h.elim)))
                  by_cases hk : k < 11
                  · obtain ⟨who, hwho⟩ : ∃ x, x = (k : Int) - 1 := ⟨_, rfl⟩
                    have hw10 : who < 10 := by omega
                    have hwn : IntKind.i64.wrap (who + 1) = ((k + 1 : Nat) : Int) - 1 := by rw [hwho]; exact (wrap_in5 (by omega) (by omega)).trans (by omega)
                    rw [← hwho]
                    have HWH := Lib.hid hwho
                    have HFK := Lib.hid HK.out
                    have HS1 := Lib.hid (same9_any HV.out.1 (by omega) HSF.out.1 who ⟨#[]⟩ (by decide))
                    have HS2 := Lib.hid (fun W (hW : Fr (fun _ => False) wr W) => same9_any (HV.out.1.quiet hW) (by omega) HSF.out.1 who P hPs)
                    have HRV := Lib.hid (fun W (hW : Fr (fun _ => False) wr W) => room_w (HV.out.1.quiet hW) who oo bb)
                    have HRR := Lib.hid (fun W (hW : Fr (fun _ => False) wr W) => rroom_w (HV.out.1.quiet hW) who oo bb)
                    obtain ⟨KE, hKE⟩ : ∃ E, E = roomE (doS s d) who oo bb := ⟨_, rfl⟩
                    rw [← hKE] at HRV HRR
                    have HNK := Lib.hid (fun W (hW : Fr (fun _ => False) wr W) => HNM.out W (HV.out.2.trans hW (fun _ h => h.elim)))
                    clear hwho hKE HV HK
                    go_wp2_with (first
                      | (go_at_call 14; first
                          | (with_reducible refine HS1.out.mono ?_; rintro e w12 ⟨rfl, hf12⟩; (have nm := HNK.out w12 hf12); (have H12 := Lib.hid hf12); clear hf12)
                          | (with_reducible refine (HS2.out w12 H12.out).mono ?_; rintro e w13 ⟨rfl, hf13⟩; (have H13 := Lib.hid (H12.out.trans hf13 (fun _ h => h.elim))); clear hf13))
                      | (go_at_call 15; refine (HRV.out w13 H13.out).mono ?_; rintro e w14 ⟨rfl, hf14⟩; (have H14 := Lib.hid (H13.out.trans hf14 (fun _ h => h.elim))); clear hf14)
                      | (go_at_call 16; refine (HRR.out w14 H14.out).mono ?_; rintro e w15 ⟨rfl, hf15⟩; (have H15 := Lib.hid (H14.out.trans hf15 (fun _ h => h.elim))); clear hf15))
                    go_roundw
                    case rel => exact ⟨k + 1, by omega, by congr 1; omega, Lib.hid (HFK.out.trans H15.out (fun _ h => h.elim))⟩
                    case measure => have := HWH.out; simp [intOf]; omega
                  · have hke : ¬ ((k : Int) - 1) < 10 := by omega
                    clear HK
                    go_wp2_with fail
                    go_roundw
                    case rel => exact ⟨i + 1, by omega, by go_num, Lib.hid ⟨doS s d, HV.out.1, HSF.out.1, HV.out.2⟩⟩
                    case measure => simp [intOf]; omega
              · have HE := Lib.hid (show Fr (fun _ => False) w wr from by obtain ⟨s, _, _, h⟩ := HVI.out; exact h)
                have HAR := Lib.hid (HAW.out wr)
                have d1 : decide ((i : Int) < (n : Int)) = false := by rw [decide_eq_false_iff_not]; omega
                clear HVI
                go_wp2_with (go_at_call 9; refine HAR.out.mono ?_; rintro e w4 ⟨rfl, hf4⟩; (have H4 := Lib.hid hf4); clear hf4)
                go_ret
                exact ⟨rfl, HE.out.trans H4.out (fun _ h => h.elim)⟩
    · have hok : okQs Q = false := by simpa using hok
      have HN5 := Lib.hid (new_no w5 _ Q H5.out.2.1 hok)
      have HR5 := Lib.hid (fun W (hW : Fr (fun _ => False) w5 W) => rnew_no W _ Q ((HQ.out.1.quiet H5.out.1).quiet hW) hok)
      clear hok
      go_wp2_with (first
        | (go_at_call 10; refine HN5.out.mono ?_; rintro e w6 ⟨rfl, hf6⟩; (have H6 := Lib.hid hf6); clear hf6)
        | (go_at_call 11; refine (HR5.out w6 H6.out).mono ?_; rintro e w7 ⟨rfl, hf7⟩; (have H7 := Lib.hid (H6.out.trans hf7 (fun _ h => h.elim))); clear hf7))
      refine wp_region_inv 24 (by kernel_rfl) (by kernel_rfl) (fun W => Fr (fun _ => False) w7 W) (VdN 0) (fun _ _ _ _ => True) (Fr (fun _ => False)) (VdN.ext 0) (Fr.refl _ _).drew ?_ ?_
      · intro i hi o ho
        replace hi : i < 24 := hi
        obtain rfl | rfl | rfl | rfl | rfl | rfl | rfl | rfl | rfl | rfl | rfl | rfl | rfl | rfl | rfl | rfl | rfl | rfl | rfl | rfl | rfl | rfl | rfl | rfl : i = 0 ∨ i = 1 ∨ i = 2 ∨ i = 3 ∨ i = 4 ∨ i = 5 ∨ i = 6 ∨ i = 7 ∨ i = 8 ∨ i = 9 ∨ i = 10 ∨ i = 11 ∨ i = 12 ∨ i = 13 ∨ i = 14 ∨ i = 15 ∨ i = 16 ∨ i = 17 ∨ i = 18 ∨ i = 19 ∨ i = 20 ∨ i = 21 ∨ i = 22 ∨ i = 23 := by omega
        · simp only [List.getElem?_cons_zero, Option.some.injEq] at ho
          subst ho
          intro a W vs hB hS hE hU
          refine wpG_plain rfl ?_
          have v11 : a.eval (.tmp 11) = .int .i64 2 := (hU 11 (by kernel_rfl)).trans rfl
          clear hE hU
          exact wp_value_inv (w' := W) (.int .i64 2) (op_move rfl v11) ⟨_, rfl, hB, Fr.refl _ _, rfl, fun _ _ _ _ _ => trivial⟩
        · simp only [List.getElem?_cons_zero, List.getElem?_cons_succ, Option.some.injEq] at ho
          subst ho
          intro a W vs hB hS hE hU
          refine wpG_plain rfl ?_
          have v13 : a.eval (.tmp 13) = .int .i64 2 := (hU 13 (by kernel_rfl)).trans rfl
          clear hE hU
          exact wp_value_inv (w' := W) (.int .i64 2) (op_move rfl v13) ⟨_, rfl, hB, Fr.refl _ _, rfl, fun _ _ _ _ _ => trivial⟩
        · simp only [List.getElem?_cons_zero, List.getElem?_cons_succ, Option.some.injEq] at ho
          subst ho
          intro a W vs hB hS hE hU
          refine wpG_plain rfl ?_
          obtain ⟨r0, e34⟩ := hE 0 34 (by kernel_rfl) (by kernel_rfl)
          have v34 : a.eval (.tmp 34) = .int .i64 2 := e34.trans r0
          obtain ⟨r1, e35⟩ := hE 1 35 (by kernel_rfl) (by kernel_rfl)
          have v35 : a.eval (.tmp 35) = .int .i64 2 := e35.trans r1
          clear hE hU
          exact wp_value_inv (w' := W) (.bool false) (op_bin rfl v34 v35 (guard_int9 W _ _ _ _ _ _ _) neq_no) ⟨_, rfl, hB, Fr.refl _ _, rfl, fun _ _ _ _ _ => trivial⟩
        · simp only [List.getElem?_cons_zero, List.getElem?_cons_succ, Option.some.injEq] at ho
          subst ho
          intro a W vs hB hS hE hU
          refine wpG_plain rfl ?_
          obtain ⟨r2, e36⟩ := hE 2 36 (by kernel_rfl) (by kernel_rfl)
          have v36 : a.eval (.tmp 36) = .bool false := e36.trans r2
          clear hE hU
          exact wp_value_inv (w' := W) (.bool false) (op_move rfl v36) ⟨_, rfl, hB, Fr.refl _ _, rfl, fun _ _ _ _ _ => trivial⟩
        · simp only [List.getElem?_cons_zero, List.getElem?_cons_succ, Option.some.injEq] at ho
          subst ho
          intro a W vs hB hS hE hU
          obtain ⟨r3, e37⟩ := hE 3 37 (by kernel_rfl) (by kernel_rfl)
          have v37 : a.eval (.tmp 37) = .bool false := e37.trans r3
          refine wpG_yes 3 false 37 rfl (by kernel_rfl) (by rw [hS]; first | simp | exact Nat.le_of_ble_eq_true rfl) v37 ?_
          have v10 : a.eval (.tmp 10) = .pointer none := (hU 10 (by kernel_rfl)).trans rfl
          clear hE hU
          exact wp_value_inv (w' := W) (.pointer none) (op_move rfl v10) ⟨_, rfl, hB, Fr.refl _ _, rfl, fun _ _ _ _ _ => trivial⟩
        · simp only [List.getElem?_cons_zero, List.getElem?_cons_succ, Option.some.injEq] at ho
          subst ho
          intro a W vs hB hS hE hU
          obtain ⟨r3, e37⟩ := hE 3 37 (by kernel_rfl) (by kernel_rfl)
          have v37 : a.eval (.tmp 37) = .bool false := e37.trans r3
          refine wpG_yes 3 false 37 rfl (by kernel_rfl) (by rw [hS]; first | simp | exact Nat.le_of_ble_eq_true rfl) v37 ?_
          obtain ⟨r4, e38⟩ := hE 4 38 (by kernel_rfl) (by kernel_rfl)
          have v38 : a.eval (.tmp 38) = .pointer none := e38.trans r4
          clear hE hU
          exact wp_value_inv (w' := W) (.bool true) (op_bin rfl v38 rfl (ptr_g9 W _ _ _ _ _ _) (eqv_nn W)) ⟨_, rfl, hB, Fr.refl _ _, rfl, fun _ _ _ _ _ => trivial⟩
        · simp only [List.getElem?_cons_zero, List.getElem?_cons_succ, Option.some.injEq] at ho
          subst ho
          intro a W vs hB hS hE hU
          obtain ⟨r3, e37⟩ := hE 3 37 (by kernel_rfl) (by kernel_rfl)
          have v37 : a.eval (.tmp 37) = .bool false := e37.trans r3
          refine wpG_yes 3 false 37 rfl (by kernel_rfl) (by rw [hS]; first | simp | exact Nat.le_of_ble_eq_true rfl) v37 ?_
          have v12 : a.eval (.tmp 12) = .pointer none := (hU 12 (by kernel_rfl)).trans rfl
          clear hE hU
          exact wp_value_inv (w' := W) (.pointer none) (op_move rfl v12) ⟨_, rfl, hB, Fr.refl _ _, rfl, fun _ _ _ _ _ => trivial⟩
        · simp only [List.getElem?_cons_zero, List.getElem?_cons_succ, Option.some.injEq] at ho
          subst ho
          intro a W vs hB hS hE hU
          obtain ⟨r3, e37⟩ := hE 3 37 (by kernel_rfl) (by kernel_rfl)
          have v37 : a.eval (.tmp 37) = .bool false := e37.trans r3
          refine wpG_yes 3 false 37 rfl (by kernel_rfl) (by rw [hS]; first | simp | exact Nat.le_of_ble_eq_true rfl) v37 ?_
          obtain ⟨r6, e40⟩ := hE 6 40 (by kernel_rfl) (by kernel_rfl)
          have v40 : a.eval (.tmp 40) = .pointer none := e40.trans r6
          clear hE hU
          exact wp_value_inv (w' := W) (.bool true) (op_bin rfl v40 rfl (ptr_g9 W _ _ _ _ _ _) (eqr_nn W)) ⟨_, rfl, hB, Fr.refl _ _, rfl, fun _ _ _ _ _ => trivial⟩
        · simp only [List.getElem?_cons_zero, List.getElem?_cons_succ, Option.some.injEq] at ho
          subst ho
          intro a W vs hB hS hE hU
          obtain ⟨r3, e37⟩ := hE 3 37 (by kernel_rfl) (by kernel_rfl)
          have v37 : a.eval (.tmp 37) = .bool false := e37.trans r3
          refine wpG_yes 3 false 37 rfl (by kernel_rfl) (by rw [hS]; first | simp | exact Nat.le_of_ble_eq_true rfl) v37 ?_
          obtain ⟨r5, e39⟩ := hE 5 39 (by kernel_rfl) (by kernel_rfl)
          have v39 : a.eval (.tmp 39) = .bool true := e39.trans r5
          obtain ⟨r7, e41⟩ := hE 7 41 (by kernel_rfl) (by kernel_rfl)
          have v41 : a.eval (.tmp 41) = .bool true := e41.trans r7
          clear hE hU
          exact wp_value_inv (w' := W) (.bool false) (op_bin rfl v39 v41 (guard_b9 W _ _ _ _ _) (neq_b9 W _)) ⟨_, rfl, hB, Fr.refl _ _, rfl, fun _ _ _ _ _ => trivial⟩
        · simp only [List.getElem?_cons_zero, List.getElem?_cons_succ, Option.some.injEq] at ho
          subst ho
          intro a W vs hB hS hE hU
          refine wpG_plain rfl ?_
          obtain ⟨r3, e37⟩ := hE 3 37 (by kernel_rfl) (by kernel_rfl)
          have v37 : a.eval (.tmp 37) = .bool false := e37.trans r3
          obtain ⟨r8, e42⟩ := hE 8 42 (by kernel_rfl) (by kernel_rfl)
          have v42 : a.eval (.tmp 42) = .bool false := e42.trans r8
          clear hE hU
          exact wp_value_inv (w' := W) (.bool false) (op_pick rfl v37 (by simp only [Bool.false_eq_true, if_false]; exact v42)) ⟨_, rfl, hB, Fr.refl _ _, rfl, fun _ _ _ _ _ => trivial⟩
        · simp only [List.getElem?_cons_zero, List.getElem?_cons_succ, Option.some.injEq] at ho
          subst ho
          intro a W vs hB hS hE hU
          refine wpG_plain rfl ?_
          obtain ⟨r9, e43⟩ := hE 9 43 (by kernel_rfl) (by kernel_rfl)
          have v43 : a.eval (.tmp 43) = .bool false := e43.trans r9
          clear hE hU
          exact wp_value_inv (w' := W) (.bool false) (op_move rfl v43) ⟨_, rfl, hB, Fr.refl _ _, rfl, fun _ _ _ _ _ => trivial⟩
        · simp only [List.getElem?_cons_zero, List.getElem?_cons_succ, Option.some.injEq] at ho
          subst ho
          intro a W vs hB hS hE hU
          obtain ⟨r10, e44⟩ := hE 10 44 (by kernel_rfl) (by kernel_rfl)
          have v44 : a.eval (.tmp 44) = .bool false := e44.trans r10
          refine wpG_yes 10 false 44 rfl (by kernel_rfl) (by rw [hS]; first | simp | exact Nat.le_of_ble_eq_true rfl) v44 ?_
          have v12 : a.eval (.tmp 12) = .pointer none := (hU 12 (by kernel_rfl)).trans rfl
          clear hE hU
          exact wp_value_inv (w' := W) (.pointer none) (op_move rfl v12) ⟨_, rfl, hB, Fr.refl _ _, rfl, fun _ _ _ _ _ => trivial⟩
        · simp only [List.getElem?_cons_zero, List.getElem?_cons_succ, Option.some.injEq] at ho
          subst ho
          intro a W vs hB hS hE hU
          obtain ⟨r10, e44⟩ := hE 10 44 (by kernel_rfl) (by kernel_rfl)
          have v44 : a.eval (.tmp 44) = .bool false := e44.trans r10
          refine wpG_yes 10 false 44 rfl (by kernel_rfl) (by rw [hS]; first | simp | exact Nat.le_of_ble_eq_true rfl) v44 ?_
          obtain ⟨r11, e45⟩ := hE 11 45 (by kernel_rfl) (by kernel_rfl)
          have v45 : a.eval (.tmp 45) = .pointer none := e45.trans r11
          clear hE hU
          exact wp_value_inv (w' := W) (.bool false) (op_bin rfl v45 rfl (ptr_g9 W _ _ _ _ _ _) (ner_nn W)) ⟨_, rfl, hB, Fr.refl _ _, rfl, fun _ _ _ _ _ => trivial⟩
        · simp only [List.getElem?_cons_zero, List.getElem?_cons_succ, Option.some.injEq] at ho
          subst ho
          intro a W vs hB hS hE hU
          obtain ⟨r10, e44⟩ := hE 10 44 (by kernel_rfl) (by kernel_rfl)
          have v44 : a.eval (.tmp 44) = .bool false := e44.trans r10
          refine wpG_yes 10 false 44 rfl (by kernel_rfl) (by rw [hS]; first | simp | exact Nat.le_of_ble_eq_true rfl) v44 ?_
          obtain ⟨r12, e46⟩ := hE 12 46 (by kernel_rfl) (by kernel_rfl)
          have v46 : a.eval (.tmp 46) = .bool false := e46.trans r12
          clear hE hU
          exact wp_value_inv (w' := W) (.bool false) (op_move rfl v46) ⟨_, rfl, hB, Fr.refl _ _, rfl, fun _ _ _ _ _ => trivial⟩
        · simp only [List.getElem?_cons_zero, List.getElem?_cons_succ, Option.some.injEq] at ho
          subst ho
          intro a W vs hB hS hE hU
          obtain ⟨r13, e47⟩ := hE 13 47 (by kernel_rfl) (by kernel_rfl)
          have v47 : a.eval (.tmp 47) = .bool false := e47.trans r13
          exact wpG_no 13 true 47 rfl (by kernel_rfl) (by rw [hS]; first | simp | exact Nat.le_of_ble_eq_true rfl) v47 ⟨_, rfl, hB, Fr.refl _ _, rfl, fun _ _ _ _ _ => trivial⟩
        · simp only [List.getElem?_cons_zero, List.getElem?_cons_succ, Option.some.injEq] at ho
          subst ho
          intro a W vs hB hS hE hU
          obtain ⟨r13, e47⟩ := hE 13 47 (by kernel_rfl) (by kernel_rfl)
          have v47 : a.eval (.tmp 47) = .bool false := e47.trans r13
          exact wpG_no 13 true 47 rfl (by kernel_rfl) (by rw [hS]; first | simp | exact Nat.le_of_ble_eq_true rfl) v47 ⟨_, rfl, hB, Fr.refl _ _, rfl, fun _ _ _ _ _ => trivial⟩
        · simp only [List.getElem?_cons_zero, List.getElem?_cons_succ, Option.some.injEq] at ho
          subst ho
          intro a W vs hB hS hE hU
          obtain ⟨r13, e47⟩ := hE 13 47 (by kernel_rfl) (by kernel_rfl)
          have v47 : a.eval (.tmp 47) = .bool false := e47.trans r13
          exact wpG_no 13 true 47 rfl (by kernel_rfl) (by rw [hS]; first | simp | exact Nat.le_of_ble_eq_true rfl) v47 ⟨_, rfl, hB, Fr.refl _ _, rfl, fun _ _ _ _ _ => trivial⟩
        · simp only [List.getElem?_cons_zero, List.getElem?_cons_succ, Option.some.injEq] at ho
          subst ho
          intro a W vs hB hS hE hU
          obtain ⟨r13, e47⟩ := hE 13 47 (by kernel_rfl) (by kernel_rfl)
          have v47 : a.eval (.tmp 47) = .bool false := e47.trans r13
          exact wpG_no 13 true 47 rfl (by kernel_rfl) (by rw [hS]; first | simp | exact Nat.le_of_ble_eq_true rfl) v47 ⟨_, rfl, hB, Fr.refl _ _, rfl, fun _ _ _ _ _ => trivial⟩
        · simp only [List.getElem?_cons_zero, List.getElem?_cons_succ, Option.some.injEq] at ho
          subst ho
          intro a W vs hB hS hE hU
          obtain ⟨r13, e47⟩ := hE 13 47 (by kernel_rfl) (by kernel_rfl)
          have v47 : a.eval (.tmp 47) = .bool false := e47.trans r13
          exact wpG_no 13 true 47 rfl (by kernel_rfl) (by rw [hS]; first | simp | exact Nat.le_of_ble_eq_true rfl) v47 ⟨_, rfl, hB, Fr.refl _ _, rfl, fun _ _ _ _ _ => trivial⟩
        · simp only [List.getElem?_cons_zero, List.getElem?_cons_succ, Option.some.injEq] at ho
          subst ho
          intro a W vs hB hS hE hU
          obtain ⟨r13, e47⟩ := hE 13 47 (by kernel_rfl) (by kernel_rfl)
          have v47 : a.eval (.tmp 47) = .bool false := e47.trans r13
          exact wpG_no 13 true 47 rfl (by kernel_rfl) (by rw [hS]; first | simp | exact Nat.le_of_ble_eq_true rfl) v47 ⟨_, rfl, hB, Fr.refl _ _, rfl, fun _ _ _ _ _ => trivial⟩
        · simp only [List.getElem?_cons_zero, List.getElem?_cons_succ, Option.some.injEq] at ho
          subst ho
          intro a W vs hB hS hE hU
          obtain ⟨r13, e47⟩ := hE 13 47 (by kernel_rfl) (by kernel_rfl)
          have v47 : a.eval (.tmp 47) = .bool false := e47.trans r13
          exact wpG_no 13 true 47 rfl (by kernel_rfl) (by rw [hS]; first | simp | exact Nat.le_of_ble_eq_true rfl) v47 ⟨_, rfl, hB, Fr.refl _ _, rfl, fun _ _ _ _ _ => trivial⟩
        · simp only [List.getElem?_cons_zero, List.getElem?_cons_succ, Option.some.injEq] at ho
          subst ho
          intro a W vs hB hS hE hU
          obtain ⟨r13, e47⟩ := hE 13 47 (by kernel_rfl) (by kernel_rfl)
          have v47 : a.eval (.tmp 47) = .bool false := e47.trans r13
          exact wpG_no 13 true 47 rfl (by kernel_rfl) (by rw [hS]; first | simp | exact Nat.le_of_ble_eq_true rfl) v47 ⟨_, rfl, hB, Fr.refl _ _, rfl, fun _ _ _ _ _ => trivial⟩
        · simp only [List.getElem?_cons_zero, List.getElem?_cons_succ, Option.some.injEq] at ho
          subst ho
          intro a W vs hB hS hE hU
          obtain ⟨r10, e44⟩ := hE 10 44 (by kernel_rfl) (by kernel_rfl)
          have v44 : a.eval (.tmp 44) = .bool false := e44.trans r10
          refine wpG_yes 10 false 44 rfl (by kernel_rfl) (by rw [hS]; first | simp | exact Nat.le_of_ble_eq_true rfl) v44 ?_
          obtain ⟨r13, e47⟩ := hE 13 47 (by kernel_rfl) (by kernel_rfl)
          have v47 : a.eval (.tmp 47) = .bool false := e47.trans r13
          clear hE hU
          exact wp_value_inv (w' := W) (.bool false) (op_pick rfl v47 (by simp only [Bool.false_eq_true, if_false]; rfl)) ⟨_, rfl, hB, Fr.refl _ _, rfl, fun _ _ _ _ _ => trivial⟩
        · simp only [List.getElem?_cons_zero, List.getElem?_cons_succ, Option.some.injEq] at ho
          subst ho
          intro a W vs hB hS hE hU
          refine wpG_plain rfl ?_
          obtain ⟨r10, e44⟩ := hE 10 44 (by kernel_rfl) (by kernel_rfl)
          have v44 : a.eval (.tmp 44) = .bool false := e44.trans r10
          obtain ⟨r22, e56⟩ := hE 22 56 (by kernel_rfl) (by kernel_rfl)
          have v56 : a.eval (.tmp 56) = .bool false := e56.trans r22
          clear hE hU
          exact wp_value_inv (w' := W) (.bool false) (op_pick rfl v44 (by simp only [Bool.false_eq_true, if_false]; exact v56)) ⟨_, rfl, hB, Fr.refl _ _, rfl, fun _ _ _ _ _ => trivial⟩
      · intro vs WA hB0 hR0 hD
        have r57 : vs 23 = .bool false := hR0 23 (by decide)
        have HZ := Lib.hid hB0
        clear hR0 hD hB0
        simp only [acts, if_true, dstAt, List.getElem?_cons_zero, List.getElem?_cons_succ, Option.bind_some, Act.put, List.setIfInBounds_toArray, List.set_cons_succ, List.set_cons_zero, List.drop_succ_cons, List.drop_nil]
        simp only [r57]
        clear r57
        have HWA := Lib.hid (H7.out.trans HZ.out (fun _ h => h.elim))
        have HLI := Lib.hid (H5.out.2.2.2.1.quiet HWA.out)
        clear HZ H7 H6 HR5 HN5
        go_wp2_with fail
        go_loopw [14] (fun kv wr => ∃ k : Nat, k ≤ nq ∧ kv = .int .i64 k ∧ Hid (Fr (fun k => k = gI) WA wr ∧ LiAt gI nq wr)) (fun kv _ => nq - (intOf kv).toNat)
        case atStart => exact ⟨0, by omega, rfl, Lib.hid ⟨Fr.refl _ _, HLI.out⟩⟩
        case round =>
          obtain ⟨k, hk, rfl, HK⟩ := hrel
          by_cases hkn : k < nq
          · have h50 : nq ≤ 50 := HGP.out.2.1
            have hga := H5.out.2.2.1 (by omega)
            subst hga
            obtain ⟨C, hC1, hC2, hC3⟩ := HK.out.2 (by omega)
            obtain ⟨x, hx⟩ := hC3 k hkn
            have cx : wr.cell? ⟨gI, k * 4 + 2, none⟩ = some (.int .i64 x) := by rw [cell_of_row _ _ _ _ _ _ hC1]; exact hx
            have hfx := frozen_of_row wr gI (k * 4 + 2) C 38 hC1
            have k64 : (k : Int) < (nq : Int) := by omega
            have HNX := Lib.hid (show Fr (fun k => k = gI) WA (wr.setCell ⟨gI, k * 4 + 2, none⟩ (.int .i64 (IntKind.i64.wrap (x + 1)))) ∧ LiAt gI nq (wr.setCell ⟨gI, k * 4 + 2, none⟩ (.int .i64 (IntKind.i64.wrap (x + 1)))) from ⟨HK.out.1.setCell (p := ⟨gI, k * 4 + 2, none⟩) (.inl rfl) _, HK.out.2.put k _⟩)
            obtain ⟨y, hy⟩ : ∃ y, y = IntKind.i64.wrap (x + 1) := ⟨_, rfl⟩
            have hy' : IntKind.i64.wrap (x + 1) = y := hy.symm
            rw [← hy] at HNX
            clear hC1 hC2 hC3 hx hy HK
            go_wp2_with fail
            go_roundw
            case rel => exact ⟨k + 1, by omega, by go_num, HNX⟩
            case measure => simp [intOf]; omega
          · have HA := Lib.hid HK.out.1
            clear HK
            have HE := Lib.hid (show Fr (fun _ => False) w wr from (H5.out.1.trans HWA.out (fun _ h => h.elim)).trans HA.out (fun k hk => .inr (by rw [hk]; exact H5.out.2.2.2.2.2)))
            have HAR := Lib.hid (HAW.out wr)
            have HNN := Lib.hid (ner_nn wr)
            have HPG := Lib.hid (ptr_g9 wr)
            obtain ⟨wB, hwB⟩ : ∃ wB, wB = wr := ⟨_, rfl⟩
            rw [← hwB] at HE HAR HNN HPG
            clear HA HWA HLI
            go_wp2_with fail
            refine wp_loop_rounds 1 ?_
            rw [rounds_succ]
            by_cases hn0 : 0 < n
            · have d1 : decide ((0 : Int) < (n : Int)) = true := by rw [decide_eq_true_iff]; omega
              go_wp2_with (first
                | (rw [← hwB]; with_reducible refine wpList_value_g (by simp [Region.wanted, yielded]) (.bool false) wB (op_bin rfl rfl rfl (HPG.out _ _ _ _ _ _) HNN.out) ?_)
                | (go_at_call 9; try rw [← hwB]; refine HAR.out.mono ?_; rintro e w4 ⟨rfl, hf4⟩; (have H4 := Lib.hid hf4); clear hf4))
              go_ret
              exact ⟨rfl, HE.out.trans H4.out (fun _ h => h.elim)⟩
            · have d1 : decide ((0 : Int) < (n : Int)) = false := by rw [decide_eq_false_iff_not]; omega
              go_wp2_with (go_at_call 9; try rw [← hwB]; refine HAR.out.mono ?_; rintro e w4 ⟨rfl, hf4⟩; (have H4 := Lib.hid hf4); clear hf4)
              go_ret
              exact ⟨rfl, HE.out.trans H4.out (fun _ h => h.elim)⟩
end Go.Proofs.Ytdpaobflknkbkaa
