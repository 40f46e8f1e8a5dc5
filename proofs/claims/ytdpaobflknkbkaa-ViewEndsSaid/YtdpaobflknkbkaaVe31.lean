/- Laid together: VSm -/
import Derived.Test.YtdpaobflknkbkaaVe30
import Derived.Test.YtdpaobflknkbkaaVe21

namespace Go.Proofs.Ytdpaobflknkbkaa
open Go.RowKit Go.ChangeShapes
set_option linter.unusedVariables false
def VsL (k9 nM ca cb b3 f3 o3 b4 f4 o4 : Nat) (KX : ByteArray) (C : Array Value) (i : Nat) (v : Value) (W : World) : Prop :=
  match i with
  | 0 => v = .slice (some ⟨b3, f3, none⟩) nM ca
  | 1 => v = .int .i64 (k9 : Nat)
  | 2 => v = .pointer (some ⟨b3, o3, none⟩)
  | 3 => v = .pointer (some ⟨b3, o3, none⟩)
  | 4 => v = .string KX
  | 5 => v = .slice (some ⟨b4, f4, none⟩) nM cb
  | 6 => v = .int .i64 (k9 : Nat)
  | 7 => v = .pointer (some ⟨b4, o4, none⟩)
  | 8 => v = .pointer (some ⟨b4, o4, none⟩)
  | 9 => v = .string KX
  | 10 => v = .bool false
  | 11 => v = .bool false
  | 12 => v = .slice (some ⟨b3, f3, none⟩) nM ca
  | 13 => v = .int .i64 (k9 : Nat)
  | 14 => v = .pointer (some ⟨b3, o3, none⟩)
  | 15 => v = .pointer (some ⟨b3, o3 + 1, none⟩)
  | 16 => v = .agg C
  | 17 => v = .slice (some ⟨b4, f4, none⟩) nM cb
  | 18 => v = .int .i64 (k9 : Nat)
  | 19 => v = .pointer (some ⟨b4, o4, none⟩)
  | 20 => v = .pointer (some ⟨b4, o4 + 1, none⟩)
  | 21 => v = .agg C
  | 22 => v = .bool false
  | 23 => v = .bool false
  | _ => True
theorem VsL.ext (k9 nM ca cb b3 f3 o3 b4 f4 o4 : Nat) (KX : ByteArray) (C : Array Value) : ∀ (j : Nat) (u : Value) (W W' : World), Fr (fun _ => False) W W' → VsL k9 nM ca cb b3 f3 o3 b4 f4 o4 KX C j u W → VsL k9 nM ca cb b3 f3 o3 b4 f4 o4 KX C j u W'
  | 0, u, W, W', hf, h => h
  | 1, u, W, W', hf, h => h
  | 2, u, W, W', hf, h => h
  | 3, u, W, W', hf, h => h
  | 4, u, W, W', hf, h => h
  | 5, u, W, W', hf, h => h
  | 6, u, W, W', hf, h => h
  | 7, u, W, W', hf, h => h
  | 8, u, W, W', hf, h => h
  | 9, u, W, W', hf, h => h
  | 10, u, W, W', hf, h => h
  | 11, u, W, W', hf, h => h
  | 12, u, W, W', hf, h => h
  | 13, u, W, W', hf, h => h
  | 14, u, W, W', hf, h => h
  | 15, u, W, W', hf, h => h
  | 16, u, W, W', hf, h => h
  | 17, u, W, W', hf, h => h
  | 18, u, W, W', hf, h => h
  | 19, u, W, W', hf, h => h
  | 20, u, W, W', hf, h => h
  | 21, u, W, W', hf, h => h
  | 22, u, W, W', hf, h => h
  | 23, u, W, W', hf, h => h
  | _ + 24, u, W, W', hf, h => trivial
def VsQ (g u9 o9 nQ cQ gq i9 : Nat) (who : Int) (QA : Array Value) (i : Nat) (v : Value) (W : World) : Prop :=
  match i with
  | 0 => v = .bool true
  | 1 => v = .bool true
  | 2 => v = .int .i64 0
  | 3 => v = .bool true
  | 4 => v = .bool true
  | 5 => v = .bool true
  | 6 => v = .agg QA
  | 7 => v = .pointer (some ⟨g, 0, none⟩)
  | 8 => v = .pointer (some ⟨g, 0, none⟩)
  | 9 => v = .pointer (some ⟨g, 0, none⟩)
  | 10 => v = .slice (some ⟨u9, 0, none⟩) nQ cQ
  | 11 => v = .int .i64 who
  | 12 => v = .int .i64 (i9 : Nat)
  | 13 => v = .pointer (some ⟨u9, o9, none⟩)
  | 14 => v = .pointer (some ⟨u9, o9, none⟩)
  | 15 => v = .agg QA
  | 16 => v = .bool true
  | 17 => v = .bool true
  | 18 => v = .bool true
  | _ => True
theorem VsQ.ext (g u9 o9 nQ cQ gq i9 : Nat) (who : Int) (QA : Array Value) : ∀ (j : Nat) (u : Value) (W W' : World), Fr (fun _ => False) W W' → VsQ g u9 o9 nQ cQ gq i9 who QA j u W → VsQ g u9 o9 nQ cQ gq i9 who QA j u W'
  | 0, u, W, W', hf, h => h
  | 1, u, W, W', hf, h => h
  | 2, u, W, W', hf, h => h
  | 3, u, W, W', hf, h => h
  | 4, u, W, W', hf, h => h
  | 5, u, W, W', hf, h => h
  | 6, u, W, W', hf, h => h
  | 7, u, W, W', hf, h => h
  | 8, u, W, W', hf, h => h
  | 9, u, W, W', hf, h => h
  | 10, u, W, W', hf, h => h
  | 11, u, W, W', hf, h => h
  | 12, u, W, W', hf, h => h
  | 13, u, W, W', hf, h => h
  | 14, u, W, W', hf, h => h
  | 15, u, W, W', hf, h => h
  | 16, u, W, W', hf, h => h
  | 17, u, W, W', hf, h => h
  | 18, u, W, W', hf, h => h
  | _ + 19, u, W, W', hf, h => trivial
theorem eql_q9 (w : World) (a b c e : Int) :
    (binOp .eql 38 (.agg #[.int .i64 a, .int .i64 b, .int .i64 c, .int .i64 e]) (.agg #[.int .i64 a, .int .i64 b, .int .i64 c, .int .i64 e])).run Try.prog w = .ok (.bool true) w := by
  rw [run_eql_struct, show Op.equalIn 10000 = Op.equalIn (9998 + 2) from rfl]
  have h : (Op.equalIn (9998 + 2) 38 (.agg #[.int .i64 a, .int .i64 b, .int .i64 c, .int .i64 e]) (.agg #[.int .i64 a, .int .i64 b, .int .i64 c, .int .i64 e])).run Try.prog w = .ok true w := by
    rw [run_equalIn_struct w (9998 + 1) 38 _ _ (by kernel_rfl) (by kernel_rfl)]
    obtain ⟨f1, f2, f3, f4, hf, x1, x2, x3, x4⟩ := four_of_map9 q_fields9
    simp only [Prod.mk.injEq] at x1 x2 x3 x4
    obtain ⟨n1, t1, o1⟩ := x1
    obtain ⟨n2, t2, o2⟩ := x2
    obtain ⟨n3, t3, o3⟩ := x3
    obtain ⟨n4, t4, o4⟩ := x4
    rw [hf]
    rw [eqFields_cons9 w _ _ _ f1 _ (by rw [n1]; decide) (.int .i64 a) (.int .i64 a) true (by rw [t1, o1]; kernel_rfl) (by rw [t1, o1]; kernel_rfl) (by rw [t1]; exact eq_int_self9 w 9998 a), if_pos rfl,
      eqFields_cons9 w _ _ _ f2 _ (by rw [n2]; decide) (.int .i64 b) (.int .i64 b) true (by rw [t2, o2]; kernel_rfl) (by rw [t2, o2]; kernel_rfl) (by rw [t2]; exact eq_int_self9 w 9998 b), if_pos rfl,
      eqFields_cons9 w _ _ _ f3 _ (by rw [n3]; decide) (.int .i64 c) (.int .i64 c) true (by rw [t3, o3]; kernel_rfl) (by rw [t3, o3]; kernel_rfl) (by rw [t3]; exact eq_int_self9 w 9998 c), if_pos rfl,
      eqFields_cons9 w _ _ _ f4 _ (by rw [n4]; decide) (.int .i64 e) (.int .i64 e) true (by rw [t4, o4]; kernel_rfl) (by rw [t4, o4]; kernel_rfl) (by rw [t4]; exact eq_int_self9 w 9998 e), if_pos rfl]
    rfl
  rw [h]
  rfl
theorem root_rngE {F : Nat → Prop} {w : World} {a : Option Addr} {n c : Nat} {M : VT PathX} (h : Elems 22 F w (.slice a n c) (M.map rtC)) {k : Nat} (hk : k < M.length) : ∃ b f, a = some ⟨b, f, none⟩ ∧ w.rangeAt b (f + k * 22) (rtC M[k]) := by
  obtain ⟨hn, _, _, b, f, ha, hi⟩ := h.rng
  rw [List.length_map] at hn
  have h1 := hi k (by rw [List.length_map]; exact hk)
  rw [List.getElem_map] at h1
  exact ⟨b, f, (ha (by omega)).1, h1⟩
theorem idxRr8 (W : World) (b f n c i : Nat) (h : i < n) : (Instr.indexAt 85 (.slice (some ⟨b, f, none⟩) n c) (.int .i64 i)).run Try.prog W = .ok (.pointer (some ⟨b, f + i * 22, none⟩)) W := by
  simp [Instr.indexAt, h, Addr.add, asIntOf]
theorem fldRv0 (W : World) (g o : Nat) : (Instr.fieldAt 66 (.pointer (some ⟨g, o, none⟩)) 0).run Try.prog W = .ok (.pointer (some ⟨g, o, none⟩)) W := by kernel_rfl
theorem fldRv1 (W : World) (g o : Nat) : (Instr.fieldAt 66 (.pointer (some ⟨g, o, none⟩)) 1).run Try.prog W = .ok (.pointer (some ⟨g, o + 1, none⟩)) W := by kernel_rfl
theorem fldRr0 (W : World) (g o : Nat) : (Instr.fieldAt 95 (.pointer (some ⟨g, o, none⟩)) 0).run Try.prog W = .ok (.pointer (some ⟨g, o, none⟩)) W := by kernel_rfl
theorem fldRr1 (W : World) (g o : Nat) : (Instr.fieldAt 95 (.pointer (some ⟨g, o, none⟩)) 1).run Try.prog W = .ok (.pointer (some ⟨g, o + 1, none⟩)) W := by kernel_rfl
theorem fldUs0 (W : World) (g o : Nat) : (Instr.fieldAt 87 (.pointer (some ⟨g, o, none⟩)) 0).run Try.prog W = .ok (.pointer (some ⟨g, o, none⟩)) W := by kernel_rfl
theorem neq_str9 (w : World) (s : ByteArray) : (binOp .neq 9 (.string s) (.string s)).run Try.prog w = .ok (.bool false) w := by
  rw [binOp_string_neq]
  simp
theorem fldVw0 (W : World) (g : Nat) : (Instr.fieldAt 36 (.pointer (some ⟨g, 0, none⟩)) 0).run Try.prog W = .ok (.pointer (some ⟨g, 0, none⟩)) W := by kernel_rfl
theorem guard_str9 (w : World) (op : BinOp) (x y : Operand) (s t : ByteArray) : (eqGuard op 9 x y (.string s) (.string t)).run Try.prog w = .ok () w := by cases op <;> rfl
section
variable {X : Nat → Prop} {z : Nat} {A : VA} {g u n : Nat} {s : VS} {w : World}
set_option maxRecDepth 100000 in
set_option maxHeartbeats 4000000 in
theorem same9_no (h : Wv X z A g u n s s w) (hn : n ≤ 100000) (hsm : Sm s) (who : Int) (hu : ¬ isUser s who) (P : ByteArray) (hP : P.size ≤ 140737488351232) :
    Calls Try.prog 14 #[.pointer (some ⟨A.vb, 0, none⟩), .pointer (some ⟨g, 0, none⟩), .int .i64 who, .string P] w fun e w' => e = .returned (.bool true) ∧ Fr (fun _ => False) w w' := by
  have hr := nv_roots h hn who
  rw [show rowsR s who = [] from if_neg hu] at hr
  simp only [List.length_nil, List.map_nil] at hr
  have HR := Lib.hid hr
  have HIS := Lib.hid (fun W (hW : Wv X z A g u n s s W) => nv_is_no hW who hu)
  have HNV := Lib.hid (fun W (hW : Wv X z A g u n s s W) => nv_view hW hn who P)
  have HND := Lib.hid (fun W0 W v (hW : NvP X z A g u n s (rowsN s who P.data.toList) W0 W v) => nv_doc hW who P hP)
  have HNS := Lib.hid (fun W0 W v v' (hW : NvP X z A g u n s (rowsN s who P.data.toList) W0 W v) (h1 : NtOk (rowsN s who P.data.toList) v' W) => nv_same hW h1 (rowsN_len h.pl who _))
  have HNO := Lib.hid (fun W0 W v (h0 : Wv X z A g u n s s W0) (hW : NvP X z A g u n s (rowsN s who P.data.toList) W0 W v) => nv_over hW (rowsN_len h.pl who _) (hsm.rows who _) h0)
  have hq := fun W (hW : Wv X z A g u n s s W) => nv_quota hW who
  rw [show quotaU s who = ⟨0, 0, 0, 0⟩ from if_neg hu, show quotaE s who = 18 from if_neg hu] at hq
  simp only [qA] at hq
  have HQU := Lib.hid hq
  have HAL := Lib.hid op_aQ
  have hi4 : ∀ a b c d : Int, (Try.prog.info? 38).map (·.size) = some (#[Value.int .i64 a, .int .i64 b, .int .i64 c, .int .i64 d] : Array Value).size := fun a b c d => by kernel_rfl
  have hz4 : ∀ a b c d : Int, (#[Value.int .i64 0, .int .i64 0, .int .i64 0, .int .i64 0] : Array Value).size = (#[Value.int .i64 a, .int .i64 b, .int .i64 c, .int .i64 d] : Array Value).size := fun _ _ _ _ => rfl
  have h14 : ∀ a b c d : Int, (#[Value.int .i64 a, .int .i64 b, .int .i64 c, .int .i64 d] : Array Value).all (·.oneCell') = true := fun a b c d => by kernel_rfl
  clear hr hq h hn hsm hu hP
  go_enter Try.func14, Try.ntmps14
  go_wp2_with (first
    | (go_at_call 23; refine HR.out.mono ?_; rintro e W1 ⟨aa, ca, rfl, _, hv1, hf1⟩; (have H1 := Lib.hid (And.intro hv1 hf1)); clear hv1 hf1)
    | (go_at_call 48; refine (HIS.out W1 H1.out.1).mono ?_; rintro e w2 ⟨rfl, hw2⟩; (obtain rfl : W1 = w2 := hw2.symm)))
  refine wp_loop_rounds 1 ?_
  rw [rounds_succ]
  go_wp2_with (first
    | (go_at_call 26; refine (HNV.out W1 H1.out.1).mono ?_; rintro e W2 ⟨v2, rfl, hv2⟩; (have H2 := Lib.hid hv2); clear hv2)
    | (go_at_call 49; refine (HND.out W1 W2 v2 H2.out).mono ?_; rintro e W3 ⟨v3, rfl, hk3, hv3⟩; (have H3 := Lib.hid (And.intro hk3 hv3)); clear hk3 hv3)
    | (go_at_call 25; refine (HNS.out W1 W3 v2 v3 H3.out.2 H3.out.1).mono ?_; rintro e W4 ⟨rfl, hv4⟩; (have H4 := Lib.hid hv4); clear hv4)
    | (go_at_call 50; refine (HNO.out W1 W4 v2 H1.out.1 H4.out).mono ?_; rintro e W5 ⟨rfl, hv5, hf5⟩; (have H5 := Lib.hid (And.intro hv5 (H1.out.2.trans hf5 (fun _ h => h.elim)))); clear hv5 hf5)
    | (go_at_call 24; refine (HQU.out W5 H5.out.1).mono ?_; rintro e W6 ⟨rfl, hv6, hf6⟩; (have H6 := Lib.hid (And.intro hv6 (H5.out.2.trans hf6 (fun _ h => h.elim)))); clear hv6 hf6)
    | (with_reducible refine Go.Proofs.Ytdpaobflknkbkaa.wpList_value rfl _ _ (HAL.out _ _ _ rfl) ?_; refine stopAt ?_))
  refine Stop.mk ?_
  try simp only [Act.put, List.setIfInBounds_toArray, List.set_cons_succ, List.set_cons_zero]
  refine Go.Proofs.Ytdpaobflknkbkaa.wpList_store_row rfl 38 (.tmp 14) (.tmp 82) rfl W6.heap.size #[.int .i64 0, .int .i64 0, .int .i64 0, .int .i64 0] #[.int .i64 0, .int .i64 0, .int .i64 0, .int .i64 0] 38 rfl rfl (heap_alloc_new W6 _) (hi4 _ _ _ _) (hz4 _ _ _ _) (h14 _ _ _ _) ?_
  obtain ⟨W7, hW7⟩ : ∃ W7, W7 = (W6.alloc (.cells #[.int .i64 0, .int .i64 0, .int .i64 0, .int .i64 0] 38)).setRow W6.heap.size #[.int .i64 0, .int .i64 0, .int .i64 0, .int .i64 0] := ⟨_, rfl⟩
  have hf7 : Fr (fun _ => False) W6 W7 := by rw [hW7]; exact ((Fr.refl _ _).alloc _).setRow (.inr (Nat.le_refl _)) _
  have hb7 : W7.heap[W6.heap.size]? = some (.cells #[.int .i64 0, .int .i64 0, .int .i64 0, .int .i64 0] 38 (0, 0)) := by rw [hW7]; exact setRow_heap _ _ _ _ _ _ (heap_alloc_new W6 _)
  rw [← hW7]
  have H7 := Lib.hid (And.intro hb7 (And.intro (H6.out.1.quiet hf7) (H6.out.2.trans hf7 (fun _ h => h.elim))))
  clear hW7 hf7 hb7
  obtain ⟨g8, hg8⟩ : ∃ k, k = W6.heap.size := ⟨_, rfl⟩
  rw [← hg8] at H7 ⊢
  clear hg8
  try simp only [Act.put]
  go_wp2_with (first
    | (go_at_call 48; refine (HIS.out W7 H7.out.2.1).mono ?_; rintro e w2 ⟨rfl, hw2⟩; (obtain rfl : W7 = w2 := hw2.symm))
    | (with_reducible refine wpList_load_row_g (by simp [Region.wanted, yielded, Act.put]) 38 (.tmp 14) rfl g8 rfl 38 #[.int .i64 0, .int .i64 0, .int .i64 0, .int .i64 0] (0, 0) _ H7.out.1 Try.underlying38 rfl (hi4 _ _ _ _) ?_)
    | (with_reducible refine wpList_value_g (by simp [Region.wanted, yielded, Act.put]) (.bool true) W7 (op_bin rfl rfl rfl (guard_q9 _ _ _ _ _ _) (eql_q9 W7 0 0 0 0)) ?_))
  go_ret
  exact ⟨rfl, H7.out.2.2⟩
theorem rowsR_len {s : VS} (h : Pl s) (who : Int) : (rowsR s who).length ≤ 100 := by
  unfold rowsR
  split
  · next hu =>
    obtain ⟨i, rfl, hi⟩ := user_at hu
    exact (h.lens hi).1
  · exact Nat.zero_le _
theorem nv_user {W : World} (h : Wv X z A g u n s s W) (who : Int) (hu : isUser s who) : ∃ (i nQ cQ : Nat) (ab : Option Addr) (cb : Nat) (nv : Value) (G : Nat → Prop), who = ((i + 1 : Nat) : Int) ∧ i < nQ ∧ nQ ≤ 8 ∧ W.cell? ⟨g, 0, none⟩ = some (.slice (some ⟨u, 0, none⟩) nQ cQ) ∧ W.rangeAt u (i * 6) (usL (quotaU s who) (.slice ab (rowsR s who).length cb) nv) ∧ Elems 22 G W (.slice ab (rowsR s who).length cb) ((rowsR s who).map rtC) := by
  obtain ⟨F, G, a, b, _⟩ := h.ex
  have hp := h.pl
  obtain ⟨i, rfl, hi⟩ := user_at hu
  obtain ⟨c, h1, h2, h3⟩ := b.row
  obtain ⟨rv, nv, l, hr, he, _⟩ := (b.us i hi).ex
  have e1 : rowsR s ((i + 1 : Nat) : Int) = s.R ((i + 1 : Nat) : Int) := if_pos hu
  have e2 : quotaU s ((i + 1 : Nat) : Int) = s.Q[i] := by rw [quotaU, if_pos hu, quota_at hi]
  obtain ⟨ao, cap, hv, _⟩ := id he
  rw [List.length_map] at hv
  subst hv
  rw [e1, e2]
  exact ⟨i, s.Q.length, c, ao, cap, nv, G, rfl, hi, (hp.lens hi).2.2, cell_of_one h1, hr, he⟩
set_option maxRecDepth 100000 in
set_option maxHeartbeats 4000000 in
theorem same9_yes (h : Wv X z A g u n s s w) (hn : n ≤ 100000) (hsm : Sm s) (who : Int) (hu : isUser s who) (P : ByteArray) (hP : P.size ≤ 140737488351232) :
    Calls Try.prog 14 #[.pointer (some ⟨A.vb, 0, none⟩), .pointer (some ⟨g, 0, none⟩), .int .i64 who, .string P] w fun e w' => e = .returned (.bool true) ∧ Fr (fun _ => False) w w' := by
  have hr := nv_roots h hn who
  obtain ⟨M, hM⟩ : ∃ M, M = rowsR s who := ⟨_, rfl⟩
  obtain ⟨nM, hnM⟩ : ∃ k, k = M.length := ⟨_, rfl⟩
  rw [← hM, ← hnM] at hr
  have HR := Lib.hid hr
  have HIS := Lib.hid (fun W (hW : Wv X z A g u n s s W) => nv_is_yes hW who hu)
  have HNV := Lib.hid (fun W (hW : Wv X z A g u n s s W) => nv_view hW hn who P)
  have HND := Lib.hid (fun W0 W v (hW : NvP X z A g u n s (rowsN s who P.data.toList) W0 W v) => nv_doc hW who P hP)
  have HNS := Lib.hid (fun W0 W v v' (hW : NvP X z A g u n s (rowsN s who P.data.toList) W0 W v) (h1 : NtOk (rowsN s who P.data.toList) v' W) => nv_same hW h1 (rowsN_len h.pl who _))
  have HNO := Lib.hid (fun W0 W v (h0 : Wv X z A g u n s s W0) (hW : NvP X z A g u n s (rowsN s who P.data.toList) W0 W v) => nv_over hW (rowsN_len h.pl who _) (hsm.rows who _) h0)
  have hq := fun W (hW : Wv X z A g u n s s W) => nv_quota hW who
  obtain ⟨⟨qb, qo, qr, qn⟩, hqq⟩ : ∃ q, q = quotaU s who := ⟨_, rfl⟩
  rw [← hqq, show quotaE s who = 0 from if_pos hu] at hq
  simp only [qA] at hq
  have HQU := Lib.hid hq
  have hus := fun W (hW : Wv X z A g u n s s W) => nv_user hW who hu
  rw [← hM, ← hnM, ← hqq] at hus
  have HUS := Lib.hid hus
  have HAL := Lib.hid op_aQ
  have HNM := Lib.hid hnM
  have hi4 : ∀ a b c d : Int, (Try.prog.info? 38).map (·.size) = some (#[Value.int .i64 a, .int .i64 b, .int .i64 c, .int .i64 d] : Array Value).size := fun a b c d => by kernel_rfl
  have hz4 : ∀ a b c d : Int, (#[Value.int .i64 0, .int .i64 0, .int .i64 0, .int .i64 0] : Array Value).size = (#[Value.int .i64 a, .int .i64 b, .int .i64 c, .int .i64 d] : Array Value).size := fun _ _ _ _ => rfl
  have h14 : ∀ a b c d : Int, (#[Value.int .i64 a, .int .i64 b, .int .i64 c, .int .i64 d] : Array Value).all (·.oneCell') = true := fun a b c d => by kernel_rfl
  have hnl : nM ≤ 100 := by rw [hnM, hM]; exact rowsR_len h.pl who
  clear hr hq hus h hn hsm hu hP hM hqq hnM
  go_enter Try.func14, Try.ntmps14
  go_wp2_with (first
    | (go_at_call 23; refine HR.out.mono ?_; rintro e W1 ⟨aa, ca, rfl, ho1, hv1, hf1⟩; (obtain ⟨i, nQ, cQ, ab, cb, nv, G, hwi, hi, hq8, c0, hrg, hel⟩ := HUS.out W1 hv1); (have cR := hrg 4 _ rfl); (have hi2 : (i : Int) < (nQ : Int) := by omega); (have hw1 : IntKind.i64.wrap (who - 1) = (i : Int) := by rw [hwi, show (((i + 1 : Nat) : Int) - 1) = (i : Int) by omega]; exact wrap_in5 (by omega) (by omega)); (have hi0 : (0 : Int) ≤ (i : Int) := by omega); (have H1 := Lib.hid (And.intro hv1 hf1)); (have HAB := Lib.hid (And.intro ho1 hel)); (have HWI := Lib.hid hwi); clear hv1 hf1 ho1 hel hrg hwi)
    | (go_at_call 48; refine (HIS.out W1 H1.out.1).mono ?_; rintro e w2 ⟨rfl, hw2⟩; (obtain rfl : W1 = w2 := hw2.symm)))
  clear c0 cR hi2 hw1 hi0
  go_loopw [11] (fun kv wr => ∃ k : Nat, k ≤ nM ∧ kv = .int .i64 k ∧ Hid (Fr (fun _ => False) W1 wr)) (fun kv _ => nM - (intOf kv).toNat)
  case atStart => exact ⟨0, by omega, rfl, Lib.hid (Fr.refl _ _)⟩
  case round =>
    obtain ⟨k, hk1, rfl, hf2⟩ := hrel
    by_cases hkn : k < nM
    · have hkM : k < M.length := by rw [← HNM.out]; exact hkn
      obtain ⟨b3, f3, ha3, hr3⟩ := root_rng HAB.out.1 hkM
      obtain ⟨b4, f4, ha4, hr4⟩ := root_rngE HAB.out.2 hkM
      obtain ⟨C, hC⟩ : ∃ C, C = pathC M[k].2.h M[k].2.n := ⟨_, rfl⟩
      obtain ⟨KX, hKX⟩ : ∃ K : ByteArray, K = ⟨M[k].1.toArray⟩ := ⟨_, rfl⟩
      obtain ⟨o3, ho3⟩ : ∃ o3, o3 = f3 + k * 22 := ⟨_, rfl⟩
      obtain ⟨o4, ho4⟩ : ∃ o4, o4 = f4 + k * 22 := ⟨_, rfl⟩
      rw [← ho3] at hr3
      rw [← ho4] at hr4
      have HI3 := Lib.hid (fun W => idxRt8 W b3 f3 nM ca k hkn)
      have HI4 := Lib.hid (fun W => idxRr8 W b4 f4 nM cb k hkn)
      rw [← ho3] at HI3
      rw [← ho4] at HI4
      have hcl : ∀ b o, W1.rangeAt b o (rtC M[k]) → ∀ W, Fr (fun _ => False) wr W → W.cell? ⟨b, o, none⟩ = some (.string KX) ∧ (Instr.loadAt 43 (.pointer (some ⟨b, o + 1, none⟩))).run Try.prog W = .ok (.agg C) W := fun b o hr W hW => by
        have h9 := Fr.range9 hW (Fr.range9 hf2.out hr id) id
        refine ⟨by rw [hKX]; exact h9 0 _ rfl, by rw [hC]; exact root_path (fun j v hv => by rw [Nat.add_assoc, Nat.add_comm 1 j]; exact h9 (j + 1) v (by simpa [rtC] using hv))⟩
      have LS3 := Lib.hid (fun W (hW : Fr (fun _ => False) wr W) => load_one5 W 9 _ _ (by kernel_rfl) (hcl b3 o3 hr3 W hW).1)
      have LS4 := Lib.hid (fun W (hW : Fr (fun _ => False) wr W) => load_one5 W 9 _ _ (by kernel_rfl) (hcl b4 o4 hr4 W hW).1)
      have LP3 := Lib.hid (fun W (hW : Fr (fun _ => False) wr W) => (hcl b3 o3 hr3 W hW).2)
      have LP4 := Lib.hid (fun W (hW : Fr (fun _ => False) wr W) => (hcl b4 o4 hr4 W hW).2)
      have HNP := Lib.hid (fun W => show (binOp .neq 43 (.agg C) (.agg C)).run Try.prog W = .ok (.bool false) W by rw [hC, run_neq_path W _ _ _ _ M[k].2.hl M[k].2.hl, sameP_refl]; rfl)
      have k64 : (k : Int) < (nM : Int) := by omega
      obtain ⟨w15, hw15⟩ : ∃ w15, w15 = wr := ⟨_, rfl⟩
      rw [← hw15] at LS3 LS4 LP3 LP4
      have HF2 := Lib.hid (show Fr (fun _ => False) W1 w15 from hw15 ▸ hf2.out)
      subst ha3
      subst ha4
      clear hcl hr3 hr4 ho3 ho4 hC hKX hkM hf2
      go_wp2_with fail
      rw [← hw15]
      refine wp_region_inv 24 (by kernel_rfl) (by kernel_rfl) (fun W => Fr (fun _ => False) w15 W) (VsL k nM ca cb b3 f3 o3 b4 f4 o4 KX C) (fun _ _ _ _ => True) (Fr (fun _ => False)) (VsL.ext k nM ca cb b3 f3 o3 b4 f4 o4 KX C) (Fr.refl _ _).drew ?_ ?_
      · intro i hi o ho
        replace hi : i < 24 := hi
        obtain rfl | rfl | rfl | rfl | rfl | rfl | rfl | rfl | rfl | rfl | rfl | rfl | rfl | rfl | rfl | rfl | rfl | rfl | rfl | rfl | rfl | rfl | rfl | rfl : i = 0 ∨ i = 1 ∨ i = 2 ∨ i = 3 ∨ i = 4 ∨ i = 5 ∨ i = 6 ∨ i = 7 ∨ i = 8 ∨ i = 9 ∨ i = 10 ∨ i = 11 ∨ i = 12 ∨ i = 13 ∨ i = 14 ∨ i = 15 ∨ i = 16 ∨ i = 17 ∨ i = 18 ∨ i = 19 ∨ i = 20 ∨ i = 21 ∨ i = 22 ∨ i = 23 := by omega
        · simp only [List.getElem?_cons_zero, Option.some.injEq] at ho
          subst ho
          intro a W vs hB hS hE hU
          refine wpG_plain rfl ?_
          have v9 : a.eval (.tmp 9) = .slice (some ⟨b3, f3, none⟩) nM ca := (hU 9 (by kernel_rfl)).trans rfl
          clear hE hU
          exact wp_value_inv (w' := W) (.slice (some ⟨b3, f3, none⟩) nM ca) (op_move rfl v9) ⟨_, rfl, hB, Fr.refl _ _, rfl, fun _ _ _ _ _ => trivial⟩
        · simp only [List.getElem?_cons_zero, List.getElem?_cons_succ, Option.some.injEq] at ho
          subst ho
          intro a W vs hB hS hE hU
          refine wpG_plain rfl ?_
          have v11 : a.eval (.tmp 11) = .int .i64 (k : Nat) := (hU 11 (by kernel_rfl)).trans rfl
          clear hE hU
          exact wp_value_inv (w' := W) (.int .i64 (k : Nat)) (op_move rfl v11) ⟨_, rfl, hB, Fr.refl _ _, rfl, fun _ _ _ _ _ => trivial⟩
        · simp only [List.getElem?_cons_zero, List.getElem?_cons_succ, Option.some.injEq] at ho
          subst ho
          intro a W vs hB hS hE hU
          refine wpG_plain rfl ?_
          obtain ⟨r0, e42⟩ := hE 0 42 (by kernel_rfl) (by kernel_rfl)
          have v42 : a.eval (.tmp 42) = .slice (some ⟨b3, f3, none⟩) nM ca := e42.trans r0
          obtain ⟨r1, e43⟩ := hE 1 43 (by kernel_rfl) (by kernel_rfl)
          have v43 : a.eval (.tmp 43) = .int .i64 (k : Nat) := e43.trans r1
          clear hE hU
          exact wp_value_inv (w' := W) (.pointer (some ⟨b3, o3, none⟩)) (op_indexAddr rfl v42 v43 (HI3.out W)) ⟨_, rfl, hB, Fr.refl _ _, rfl, fun _ _ _ _ _ => trivial⟩
        · simp only [List.getElem?_cons_zero, List.getElem?_cons_succ, Option.some.injEq] at ho
          subst ho
          intro a W vs hB hS hE hU
          refine wpG_plain rfl ?_
          obtain ⟨r2, e44⟩ := hE 2 44 (by kernel_rfl) (by kernel_rfl)
          have v44 : a.eval (.tmp 44) = .pointer (some ⟨b3, o3, none⟩) := e44.trans r2
          clear hE hU
          exact wp_value_inv (w' := W) (.pointer (some ⟨b3, o3, none⟩)) (op_fieldAddr rfl v44 (fldRv0 W b3 o3)) ⟨_, rfl, hB, Fr.refl _ _, rfl, fun _ _ _ _ _ => trivial⟩
        · simp only [List.getElem?_cons_zero, List.getElem?_cons_succ, Option.some.injEq] at ho
          subst ho
          intro a W vs hB hS hE hU
          refine wpG_plain rfl ?_
          obtain ⟨r3, e45⟩ := hE 3 45 (by kernel_rfl) (by kernel_rfl)
          have v45 : a.eval (.tmp 45) = .pointer (some ⟨b3, o3, none⟩) := e45.trans r3
          clear hE hU
          exact wp_value_inv (w' := W) (.string KX) (op_loadAt rfl v45 (LS3.out W hB)) ⟨_, rfl, hB, Fr.refl _ _, rfl, fun _ _ _ _ _ => trivial⟩
        · simp only [List.getElem?_cons_zero, List.getElem?_cons_succ, Option.some.injEq] at ho
          subst ho
          intro a W vs hB hS hE hU
          refine wpG_plain rfl ?_
          have v10 : a.eval (.tmp 10) = .slice (some ⟨b4, f4, none⟩) nM cb := (hU 10 (by kernel_rfl)).trans rfl
          clear hE hU
          exact wp_value_inv (w' := W) (.slice (some ⟨b4, f4, none⟩) nM cb) (op_move rfl v10) ⟨_, rfl, hB, Fr.refl _ _, rfl, fun _ _ _ _ _ => trivial⟩
        · simp only [List.getElem?_cons_zero, List.getElem?_cons_succ, Option.some.injEq] at ho
          subst ho
          intro a W vs hB hS hE hU
          refine wpG_plain rfl ?_
          have v11 : a.eval (.tmp 11) = .int .i64 (k : Nat) := (hU 11 (by kernel_rfl)).trans rfl
          clear hE hU
          exact wp_value_inv (w' := W) (.int .i64 (k : Nat)) (op_move rfl v11) ⟨_, rfl, hB, Fr.refl _ _, rfl, fun _ _ _ _ _ => trivial⟩
        · simp only [List.getElem?_cons_zero, List.getElem?_cons_succ, Option.some.injEq] at ho
          subst ho
          intro a W vs hB hS hE hU
          refine wpG_plain rfl ?_
          obtain ⟨r5, e47⟩ := hE 5 47 (by kernel_rfl) (by kernel_rfl)
          have v47 : a.eval (.tmp 47) = .slice (some ⟨b4, f4, none⟩) nM cb := e47.trans r5
          obtain ⟨r6, e48⟩ := hE 6 48 (by kernel_rfl) (by kernel_rfl)
          have v48 : a.eval (.tmp 48) = .int .i64 (k : Nat) := e48.trans r6
          clear hE hU
          exact wp_value_inv (w' := W) (.pointer (some ⟨b4, o4, none⟩)) (op_indexAddr rfl v47 v48 (HI4.out W)) ⟨_, rfl, hB, Fr.refl _ _, rfl, fun _ _ _ _ _ => trivial⟩
        · simp only [List.getElem?_cons_zero, List.getElem?_cons_succ, Option.some.injEq] at ho
          subst ho
          intro a W vs hB hS hE hU
          refine wpG_plain rfl ?_
          obtain ⟨r7, e49⟩ := hE 7 49 (by kernel_rfl) (by kernel_rfl)
          have v49 : a.eval (.tmp 49) = .pointer (some ⟨b4, o4, none⟩) := e49.trans r7
          clear hE hU
          exact wp_value_inv (w' := W) (.pointer (some ⟨b4, o4, none⟩)) (op_fieldAddr rfl v49 (fldRr0 W b4 o4)) ⟨_, rfl, hB, Fr.refl _ _, rfl, fun _ _ _ _ _ => trivial⟩
        · simp only [List.getElem?_cons_zero, List.getElem?_cons_succ, Option.some.injEq] at ho
          subst ho
          intro a W vs hB hS hE hU
          refine wpG_plain rfl ?_
          obtain ⟨r8, e50⟩ := hE 8 50 (by kernel_rfl) (by kernel_rfl)
          have v50 : a.eval (.tmp 50) = .pointer (some ⟨b4, o4, none⟩) := e50.trans r8
          clear hE hU
          exact wp_value_inv (w' := W) (.string KX) (op_loadAt rfl v50 (LS4.out W hB)) ⟨_, rfl, hB, Fr.refl _ _, rfl, fun _ _ _ _ _ => trivial⟩
        · simp only [List.getElem?_cons_zero, List.getElem?_cons_succ, Option.some.injEq] at ho
          subst ho
          intro a W vs hB hS hE hU
          refine wpG_plain rfl ?_
          obtain ⟨r4, e46⟩ := hE 4 46 (by kernel_rfl) (by kernel_rfl)
          have v46 : a.eval (.tmp 46) = .string KX := e46.trans r4
          obtain ⟨r9, e51⟩ := hE 9 51 (by kernel_rfl) (by kernel_rfl)
          have v51 : a.eval (.tmp 51) = .string KX := e51.trans r9
          clear hE hU
          exact wp_value_inv (w' := W) (.bool false) (op_bin rfl v46 v51 (guard_str9 _ _ _ _ _ _) (neq_str9 W KX)) ⟨_, rfl, hB, Fr.refl _ _, rfl, fun _ _ _ _ _ => trivial⟩
        · simp only [List.getElem?_cons_zero, List.getElem?_cons_succ, Option.some.injEq] at ho
          subst ho
          intro a W vs hB hS hE hU
          refine wpG_plain rfl ?_
          obtain ⟨r10, e52⟩ := hE 10 52 (by kernel_rfl) (by kernel_rfl)
          have v52 : a.eval (.tmp 52) = .bool false := e52.trans r10
          clear hE hU
          exact wp_value_inv (w' := W) (.bool false) (op_move rfl v52) ⟨_, rfl, hB, Fr.refl _ _, rfl, fun _ _ _ _ _ => trivial⟩
        · simp only [List.getElem?_cons_zero, List.getElem?_cons_succ, Option.some.injEq] at ho
          subst ho
          intro a W vs hB hS hE hU
          obtain ⟨r11, e53⟩ := hE 11 53 (by kernel_rfl) (by kernel_rfl)
          have v53 : a.eval (.tmp 53) = .bool false := e53.trans r11
          refine wpG_yes 11 false 53 rfl (by kernel_rfl) (by rw [hS]; first | simp | exact Nat.le_of_ble_eq_true rfl) v53 ?_
          have v9 : a.eval (.tmp 9) = .slice (some ⟨b3, f3, none⟩) nM ca := (hU 9 (by kernel_rfl)).trans rfl
          clear hE hU
          exact wp_value_inv (w' := W) (.slice (some ⟨b3, f3, none⟩) nM ca) (op_move rfl v9) ⟨_, rfl, hB, Fr.refl _ _, rfl, fun _ _ _ _ _ => trivial⟩
        · simp only [List.getElem?_cons_zero, List.getElem?_cons_succ, Option.some.injEq] at ho
          subst ho
          intro a W vs hB hS hE hU
          obtain ⟨r11, e53⟩ := hE 11 53 (by kernel_rfl) (by kernel_rfl)
          have v53 : a.eval (.tmp 53) = .bool false := e53.trans r11
          refine wpG_yes 11 false 53 rfl (by kernel_rfl) (by rw [hS]; first | simp | exact Nat.le_of_ble_eq_true rfl) v53 ?_
          have v11 : a.eval (.tmp 11) = .int .i64 (k : Nat) := (hU 11 (by kernel_rfl)).trans rfl
          clear hE hU
          exact wp_value_inv (w' := W) (.int .i64 (k : Nat)) (op_move rfl v11) ⟨_, rfl, hB, Fr.refl _ _, rfl, fun _ _ _ _ _ => trivial⟩
        · simp only [List.getElem?_cons_zero, List.getElem?_cons_succ, Option.some.injEq] at ho
          subst ho
          intro a W vs hB hS hE hU
          obtain ⟨r11, e53⟩ := hE 11 53 (by kernel_rfl) (by kernel_rfl)
          have v53 : a.eval (.tmp 53) = .bool false := e53.trans r11
          refine wpG_yes 11 false 53 rfl (by kernel_rfl) (by rw [hS]; first | simp | exact Nat.le_of_ble_eq_true rfl) v53 ?_
          obtain ⟨r12, e54⟩ := hE 12 54 (by kernel_rfl) (by kernel_rfl)
          have v54 : a.eval (.tmp 54) = .slice (some ⟨b3, f3, none⟩) nM ca := e54.trans r12
          obtain ⟨r13, e55⟩ := hE 13 55 (by kernel_rfl) (by kernel_rfl)
          have v55 : a.eval (.tmp 55) = .int .i64 (k : Nat) := e55.trans r13
          clear hE hU
          exact wp_value_inv (w' := W) (.pointer (some ⟨b3, o3, none⟩)) (op_indexAddr rfl v54 v55 (HI3.out W)) ⟨_, rfl, hB, Fr.refl _ _, rfl, fun _ _ _ _ _ => trivial⟩
        · simp only [List.getElem?_cons_zero, List.getElem?_cons_succ, Option.some.injEq] at ho
          subst ho
          intro a W vs hB hS hE hU
          obtain ⟨r11, e53⟩ := hE 11 53 (by kernel_rfl) (by kernel_rfl)
          have v53 : a.eval (.tmp 53) = .bool false := e53.trans r11
          refine wpG_yes 11 false 53 rfl (by kernel_rfl) (by rw [hS]; first | simp | exact Nat.le_of_ble_eq_true rfl) v53 ?_
          obtain ⟨r14, e56⟩ := hE 14 56 (by kernel_rfl) (by kernel_rfl)
          have v56 : a.eval (.tmp 56) = .pointer (some ⟨b3, o3, none⟩) := e56.trans r14
          clear hE hU
          exact wp_value_inv (w' := W) (.pointer (some ⟨b3, o3 + 1, none⟩)) (op_fieldAddr rfl v56 (fldRv1 W b3 o3)) ⟨_, rfl, hB, Fr.refl _ _, rfl, fun _ _ _ _ _ => trivial⟩
        · simp only [List.getElem?_cons_zero, List.getElem?_cons_succ, Option.some.injEq] at ho
          subst ho
          intro a W vs hB hS hE hU
          obtain ⟨r11, e53⟩ := hE 11 53 (by kernel_rfl) (by kernel_rfl)
          have v53 : a.eval (.tmp 53) = .bool false := e53.trans r11
          refine wpG_yes 11 false 53 rfl (by kernel_rfl) (by rw [hS]; first | simp | exact Nat.le_of_ble_eq_true rfl) v53 ?_
          obtain ⟨r15, e57⟩ := hE 15 57 (by kernel_rfl) (by kernel_rfl)
          have v57 : a.eval (.tmp 57) = .pointer (some ⟨b3, o3 + 1, none⟩) := e57.trans r15
          clear hE hU
          exact wp_value_inv (w' := W) (.agg C) (op_loadAt rfl v57 (LP3.out W hB)) ⟨_, rfl, hB, Fr.refl _ _, rfl, fun _ _ _ _ _ => trivial⟩
        · simp only [List.getElem?_cons_zero, List.getElem?_cons_succ, Option.some.injEq] at ho
          subst ho
          intro a W vs hB hS hE hU
          obtain ⟨r11, e53⟩ := hE 11 53 (by kernel_rfl) (by kernel_rfl)
          have v53 : a.eval (.tmp 53) = .bool false := e53.trans r11
          refine wpG_yes 11 false 53 rfl (by kernel_rfl) (by rw [hS]; first | simp | exact Nat.le_of_ble_eq_true rfl) v53 ?_
          have v10 : a.eval (.tmp 10) = .slice (some ⟨b4, f4, none⟩) nM cb := (hU 10 (by kernel_rfl)).trans rfl
          clear hE hU
          exact wp_value_inv (w' := W) (.slice (some ⟨b4, f4, none⟩) nM cb) (op_move rfl v10) ⟨_, rfl, hB, Fr.refl _ _, rfl, fun _ _ _ _ _ => trivial⟩
        · simp only [List.getElem?_cons_zero, List.getElem?_cons_succ, Option.some.injEq] at ho
          subst ho
          intro a W vs hB hS hE hU
          obtain ⟨r11, e53⟩ := hE 11 53 (by kernel_rfl) (by kernel_rfl)
          have v53 : a.eval (.tmp 53) = .bool false := e53.trans r11
          refine wpG_yes 11 false 53 rfl (by kernel_rfl) (by rw [hS]; first | simp | exact Nat.le_of_ble_eq_true rfl) v53 ?_
          have v11 : a.eval (.tmp 11) = .int .i64 (k : Nat) := (hU 11 (by kernel_rfl)).trans rfl
          clear hE hU
          exact wp_value_inv (w' := W) (.int .i64 (k : Nat)) (op_move rfl v11) ⟨_, rfl, hB, Fr.refl _ _, rfl, fun _ _ _ _ _ => trivial⟩
        · simp only [List.getElem?_cons_zero, List.getElem?_cons_succ, Option.some.injEq] at ho
          subst ho
          intro a W vs hB hS hE hU
          obtain ⟨r11, e53⟩ := hE 11 53 (by kernel_rfl) (by kernel_rfl)
          have v53 : a.eval (.tmp 53) = .bool false := e53.trans r11
          refine wpG_yes 11 false 53 rfl (by kernel_rfl) (by rw [hS]; first | simp | exact Nat.le_of_ble_eq_true rfl) v53 ?_
          obtain ⟨r17, e59⟩ := hE 17 59 (by kernel_rfl) (by kernel_rfl)
          have v59 : a.eval (.tmp 59) = .slice (some ⟨b4, f4, none⟩) nM cb := e59.trans r17
          obtain ⟨r18, e60⟩ := hE 18 60 (by kernel_rfl) (by kernel_rfl)
          have v60 : a.eval (.tmp 60) = .int .i64 (k : Nat) := e60.trans r18
          clear hE hU
          exact wp_value_inv (w' := W) (.pointer (some ⟨b4, o4, none⟩)) (op_indexAddr rfl v59 v60 (HI4.out W)) ⟨_, rfl, hB, Fr.refl _ _, rfl, fun _ _ _ _ _ => trivial⟩
        · simp only [List.getElem?_cons_zero, List.getElem?_cons_succ, Option.some.injEq] at ho
          subst ho
          intro a W vs hB hS hE hU
          obtain ⟨r11, e53⟩ := hE 11 53 (by kernel_rfl) (by kernel_rfl)
          have v53 : a.eval (.tmp 53) = .bool false := e53.trans r11
          refine wpG_yes 11 false 53 rfl (by kernel_rfl) (by rw [hS]; first | simp | exact Nat.le_of_ble_eq_true rfl) v53 ?_
          obtain ⟨r19, e61⟩ := hE 19 61 (by kernel_rfl) (by kernel_rfl)
          have v61 : a.eval (.tmp 61) = .pointer (some ⟨b4, o4, none⟩) := e61.trans r19
          clear hE hU
          exact wp_value_inv (w' := W) (.pointer (some ⟨b4, o4 + 1, none⟩)) (op_fieldAddr rfl v61 (fldRr1 W b4 o4)) ⟨_, rfl, hB, Fr.refl _ _, rfl, fun _ _ _ _ _ => trivial⟩
        · simp only [List.getElem?_cons_zero, List.getElem?_cons_succ, Option.some.injEq] at ho
          subst ho
          intro a W vs hB hS hE hU
          obtain ⟨r11, e53⟩ := hE 11 53 (by kernel_rfl) (by kernel_rfl)
          have v53 : a.eval (.tmp 53) = .bool false := e53.trans r11
          refine wpG_yes 11 false 53 rfl (by kernel_rfl) (by rw [hS]; first | simp | exact Nat.le_of_ble_eq_true rfl) v53 ?_
          obtain ⟨r20, e62⟩ := hE 20 62 (by kernel_rfl) (by kernel_rfl)
          have v62 : a.eval (.tmp 62) = .pointer (some ⟨b4, o4 + 1, none⟩) := e62.trans r20
          clear hE hU
          exact wp_value_inv (w' := W) (.agg C) (op_loadAt rfl v62 (LP4.out W hB)) ⟨_, rfl, hB, Fr.refl _ _, rfl, fun _ _ _ _ _ => trivial⟩
        · simp only [List.getElem?_cons_zero, List.getElem?_cons_succ, Option.some.injEq] at ho
          subst ho
          intro a W vs hB hS hE hU
          obtain ⟨r11, e53⟩ := hE 11 53 (by kernel_rfl) (by kernel_rfl)
          have v53 : a.eval (.tmp 53) = .bool false := e53.trans r11
          refine wpG_yes 11 false 53 rfl (by kernel_rfl) (by rw [hS]; first | simp | exact Nat.le_of_ble_eq_true rfl) v53 ?_
          obtain ⟨r16, e58⟩ := hE 16 58 (by kernel_rfl) (by kernel_rfl)
          have v58 : a.eval (.tmp 58) = .agg C := e58.trans r16
          obtain ⟨r21, e63⟩ := hE 21 63 (by kernel_rfl) (by kernel_rfl)
          have v63 : a.eval (.tmp 63) = .agg C := e63.trans r21
          clear hE hU
          exact wp_value_inv (w' := W) (.bool false) (op_bin rfl v58 v63 (guard_path _ _ _ _ _ _) (HNP.out W)) ⟨_, rfl, hB, Fr.refl _ _, rfl, fun _ _ _ _ _ => trivial⟩
        · simp only [List.getElem?_cons_zero, List.getElem?_cons_succ, Option.some.injEq] at ho
          subst ho
          intro a W vs hB hS hE hU
          refine wpG_plain rfl ?_
          obtain ⟨r11, e53⟩ := hE 11 53 (by kernel_rfl) (by kernel_rfl)
          have v53 : a.eval (.tmp 53) = .bool false := e53.trans r11
          obtain ⟨r22, e64⟩ := hE 22 64 (by kernel_rfl) (by kernel_rfl)
          have v64 : a.eval (.tmp 64) = .bool false := e64.trans r22
          clear hE hU
          exact wp_value_inv (w' := W) (.bool false) (op_pick rfl v53 (by simp only [Bool.false_eq_true, if_false]; exact v64)) ⟨_, rfl, hB, Fr.refl _ _, rfl, fun _ _ _ _ _ => trivial⟩
      · intro vs Wz hB0 hR0 hD
        have r65 : vs 23 = .bool false := hR0 23 (by decide)
        have HZ := Lib.hid hB0
        clear hR0 hD hB0
        simp only [acts, if_true, dstAt, List.getElem?_cons_zero, List.getElem?_cons_succ, Option.bind_some, Act.put, List.setIfInBounds_toArray, List.set_cons_succ, List.set_cons_zero, List.drop_succ_cons, List.drop_nil]
        simp only [r65]
        clear r65
        go_wp2_with fail
        go_roundw
        case rel => exact ⟨k + 1, by omega, by go_num, Lib.hid (HF2.out.trans HZ.out (fun _ h => h.elim))⟩
        case measure => simp [intOf]; omega
    · have HV1 := Lib.hid (And.intro (H1.out.1.quiet hf2.out) (H1.out.2.trans hf2.out (fun _ h => h.elim)))
      obtain ⟨W1b, hW1b⟩ : ∃ W, W = wr := ⟨_, rfl⟩
      rw [← hW1b] at HV1
      clear HAB hf2 H1
      go_wp2_with (first
        | (go_at_call 26; rw [← hW1b]; refine (HNV.out W1b HV1.out.1).mono ?_; rintro e W2 ⟨v2, rfl, hv2⟩; (have H2 := Lib.hid hv2); clear hv2)
        | (go_at_call 49; refine (HND.out W1b W2 v2 H2.out).mono ?_; rintro e W3 ⟨v3, rfl, hk3, hv3⟩; (have H3 := Lib.hid (And.intro hk3 hv3)); clear hk3 hv3)
        | (go_at_call 25; refine (HNS.out W1b W3 v2 v3 H3.out.2 H3.out.1).mono ?_; rintro e W4 ⟨rfl, hv4⟩; (have H4 := Lib.hid hv4); clear hv4)
        | (go_at_call 50; refine (HNO.out W1b W4 v2 HV1.out.1 H4.out).mono ?_; rintro e W5 ⟨rfl, hv5, hf5⟩; (have H5 := Lib.hid (And.intro hv5 (HV1.out.2.trans hf5 (fun _ h => h.elim)))); clear hv5 hf5)
        | (go_at_call 24; refine (HQU.out W5 H5.out.1).mono ?_; rintro e W6 ⟨rfl, hv6, hf6⟩; (have H6 := Lib.hid (And.intro hv6 (H5.out.2.trans hf6 (fun _ h => h.elim)))); clear hv6 hf6)
        | (with_reducible refine Go.Proofs.Ytdpaobflknkbkaa.wpList_value rfl _ _ (HAL.out _ _ _ rfl) ?_; refine stopAt ?_))
      refine Stop.mk ?_
      try simp only [Act.put, List.setIfInBounds_toArray, List.set_cons_succ, List.set_cons_zero]
      refine Go.Proofs.Ytdpaobflknkbkaa.wpList_store_row rfl 38 (.tmp 14) (.tmp 82) rfl W6.heap.size #[.int .i64 qb, .int .i64 qo, .int .i64 qr, .int .i64 qn] #[.int .i64 0, .int .i64 0, .int .i64 0, .int .i64 0] 38 rfl rfl (heap_alloc_new W6 _) (hi4 _ _ _ _) (hz4 _ _ _ _) (h14 _ _ _ _) ?_
      obtain ⟨W7, hW7⟩ : ∃ W7, W7 = (W6.alloc (.cells #[.int .i64 0, .int .i64 0, .int .i64 0, .int .i64 0] 38)).setRow W6.heap.size #[.int .i64 qb, .int .i64 qo, .int .i64 qr, .int .i64 qn] := ⟨_, rfl⟩
      have hf7 : Fr (fun _ => False) W6 W7 := by rw [hW7]; exact ((Fr.refl _ _).alloc _).setRow (.inr (Nat.le_refl _)) _
      have hb7 : W7.heap[W6.heap.size]? = some (.cells #[.int .i64 qb, .int .i64 qo, .int .i64 qr, .int .i64 qn] 38 (0, 0)) := by rw [hW7]; exact setRow_heap _ _ _ _ _ _ (heap_alloc_new W6 _)
      rw [← hW7]
      have H7 := Lib.hid (And.intro hb7 (And.intro (H6.out.1.quiet hf7) (H6.out.2.trans hf7 (fun _ h => h.elim))))
      clear hW7 hf7 hb7
      obtain ⟨gq, hg8⟩ : ∃ k, k = W6.heap.size := ⟨_, rfl⟩
      rw [← hg8] at H7 ⊢
      clear hg8
      try simp only [Act.put]
      go_wp2_with (first
        | (go_at_call 48; refine (HIS.out W7 H7.out.2.1).mono ?_; rintro e w2 ⟨rfl, hw2⟩; (obtain rfl : W7 = w2 := hw2.symm)))
      obtain ⟨i5, mQ, dQ, ab', cb', nv', G', hwi5, hi5, hq8', d0, hrg, hel⟩ := HUS.out W7 H7.out.2.1
      obtain ⟨QA, hQA⟩ : ∃ Q : Array Value, Q = #[.int .i64 qb, .int .i64 qo, .int .i64 qr, .int .i64 qn] := ⟨_, rfl⟩
      obtain ⟨o9, ho9⟩ : ∃ o, o = 0 + i5 * 6 := ⟨_, rfl⟩
      have HI9 := Lib.hid (fun W => idxUs W u 0 mQ dQ i5 hi5)
      rw [← ho9] at HI9
      have HSB := Lib.hid (fun W => show (binOp .sub 3 (.int .i64 who) (.int .i64 1)).run Try.prog W = .ok (.int .i64 i5) W from sub_in5 (by rw [hwi5]; omega) (by omega) (by omega))
      have HEQ := Lib.hid (fun W => show (binOp .eql 38 (.agg QA) (.agg QA)).run Try.prog W = .ok (.bool true) W by rw [hQA]; exact eql_q9 W _ _ _ _)
      have LQ1 := Lib.hid (fun W (hW : Fr (fun _ => False) W7 W) => show (Instr.loadAt 38 (.pointer (some ⟨gq, 0, none⟩))).run Try.prog W = .ok (.agg QA) W by
        rw [hQA]
        exact run_loadAt_mid W gq 0 38 [.int .i64 qb, .int .i64 qo, .int .i64 qr, .int .i64 qn] _ (fun j v hv => by rw [Nat.zero_add, cell_of_row _ _ _ _ _ _ (hW.heap H7.out.1 id)]; simpa using hv) Try.underlying38 rfl (hi4 _ _ _ _))
      have LQ2 := Lib.hid (fun W (hW : Fr (fun _ => False) W7 W) => show (Instr.loadAt 38 (.pointer (some ⟨u, o9, none⟩))).run Try.prog W = .ok (.agg QA) W by
        rw [hQA]
        exact run_loadAt_mid W u o9 38 [.int .i64 qb, .int .i64 qo, .int .i64 qr, .int .i64 qn] _ (fun j v hv => by
          rw [ho9, Nat.zero_add]
          refine Fr.range9 hW hrg id j v ?_
          match j, hv with
          | 0, hv => exact hv
          | 1, hv => exact hv
          | 2, hv => exact hv
          | 3, hv => exact hv) Try.underlying38 rfl (hi4 _ _ _ _))
      have LG := Lib.hid (fun W (hW : Fr (fun _ => False) W7 W) => show (Instr.loadAt 34 (.pointer (some ⟨g, 0, none⟩))).run Try.prog W = .ok (.slice (some ⟨u, 0, none⟩) mQ dQ) W from load_one5 W _ _ _ (by kernel_rfl) (hW.cell d0 id))
      have HFN := Lib.hid H7.out.2.2
      clear hel hrg d0 ho9 hQA HUS HQU HNO HNS HND HNV HIS HR H7 H6 H5 H4 H3 H2 HV1
      refine wp_region_inv 19 (by kernel_rfl) (by kernel_rfl) (fun W => Fr (fun _ => False) W7 W) (VsQ g u o9 mQ dQ gq i5 who QA) (fun _ _ _ _ => True) (Fr (fun _ => False)) (VsQ.ext g u o9 mQ dQ gq i5 who QA) (Fr.refl _ _).drew ?_ ?_
      · intro i hi o ho
        replace hi : i < 19 := hi
        obtain rfl | rfl | rfl | rfl | rfl | rfl | rfl | rfl | rfl | rfl | rfl | rfl | rfl | rfl | rfl | rfl | rfl | rfl | rfl : i = 0 ∨ i = 1 ∨ i = 2 ∨ i = 3 ∨ i = 4 ∨ i = 5 ∨ i = 6 ∨ i = 7 ∨ i = 8 ∨ i = 9 ∨ i = 10 ∨ i = 11 ∨ i = 12 ∨ i = 13 ∨ i = 14 ∨ i = 15 ∨ i = 16 ∨ i = 17 ∨ i = 18 := by omega
        · simp only [List.getElem?_cons_zero, Option.some.injEq] at ho
          subst ho
          intro a W vs hB hS hE hU
          refine wpG_plain rfl ?_
          have v13 : a.eval (.tmp 13) = .bool true := (hU 13 (by kernel_rfl)).trans rfl
          clear hE hU
          exact wp_value_inv (w' := W) (.bool true) (op_move rfl v13) ⟨_, rfl, hB, Fr.refl _ _, rfl, fun _ _ _ _ _ => trivial⟩
        · simp only [List.getElem?_cons_zero, List.getElem?_cons_succ, Option.some.injEq] at ho
          subst ho
          intro a W vs hB hS hE hU
          refine wpG_plain rfl ?_
          obtain ⟨r0, e98⟩ := hE 0 98 (by kernel_rfl) (by kernel_rfl)
          have v98 : a.eval (.tmp 98) = .bool true := e98.trans r0
          clear hE hU
          exact wp_value_inv (w' := W) (.bool true) (op_move rfl v98) ⟨_, rfl, hB, Fr.refl _ _, rfl, fun _ _ _ _ _ => trivial⟩
        · simp only [List.getElem?_cons_zero, List.getElem?_cons_succ, Option.some.injEq] at ho
          subst ho
          intro a W vs hB hS hE hU
          obtain ⟨r1, e99⟩ := hE 1 99 (by kernel_rfl) (by kernel_rfl)
          have v99 : a.eval (.tmp 99) = .bool true := e99.trans r1
          refine wpG_yes 1 true 99 rfl (by kernel_rfl) (by rw [hS]; first | simp | exact Nat.le_of_ble_eq_true rfl) v99 ?_
          have v15 : a.eval (.tmp 15) = .int .i64 0 := (hU 15 (by kernel_rfl)).trans rfl
          clear hE hU
          exact wp_value_inv (w' := W) (.int .i64 0) (op_move rfl v15) ⟨_, rfl, hB, Fr.refl _ _, rfl, fun _ _ _ _ _ => trivial⟩
        · simp only [List.getElem?_cons_zero, List.getElem?_cons_succ, Option.some.injEq] at ho
          subst ho
          intro a W vs hB hS hE hU
          obtain ⟨r1, e99⟩ := hE 1 99 (by kernel_rfl) (by kernel_rfl)
          have v99 : a.eval (.tmp 99) = .bool true := e99.trans r1
          refine wpG_yes 1 true 99 rfl (by kernel_rfl) (by rw [hS]; first | simp | exact Nat.le_of_ble_eq_true rfl) v99 ?_
          obtain ⟨r2, e100⟩ := hE 2 100 (by kernel_rfl) (by kernel_rfl)
          have v100 : a.eval (.tmp 100) = .int .i64 0 := e100.trans r2
          clear hE hU
          exact wp_value_inv (w' := W) (.bool true) (op_bin rfl v100 rfl (guard_int9 W _ _ _ _ _ _ _) eql_yes) ⟨_, rfl, hB, Fr.refl _ _, rfl, fun _ _ _ _ _ => trivial⟩
        · simp only [List.getElem?_cons_zero, List.getElem?_cons_succ, Option.some.injEq] at ho
          subst ho
          intro a W vs hB hS hE hU
          refine wpG_plain rfl ?_
          obtain ⟨r1, e99⟩ := hE 1 99 (by kernel_rfl) (by kernel_rfl)
          have v99 : a.eval (.tmp 99) = .bool true := e99.trans r1
          obtain ⟨r3, e101⟩ := hE 3 101 (by kernel_rfl) (by kernel_rfl)
          have v101 : a.eval (.tmp 101) = .bool true := e101.trans r3
          clear hE hU
          exact wp_value_inv (w' := W) (.bool true) (op_pick rfl v99 (by simp only [if_true]; exact v101)) ⟨_, rfl, hB, Fr.refl _ _, rfl, fun _ _ _ _ _ => trivial⟩
        · simp only [List.getElem?_cons_zero, List.getElem?_cons_succ, Option.some.injEq] at ho
          subst ho
          intro a W vs hB hS hE hU
          refine wpG_plain rfl ?_
          obtain ⟨r4, e102⟩ := hE 4 102 (by kernel_rfl) (by kernel_rfl)
          have v102 : a.eval (.tmp 102) = .bool true := e102.trans r4
          clear hE hU
          exact wp_value_inv (w' := W) (.bool true) (op_move rfl v102) ⟨_, rfl, hB, Fr.refl _ _, rfl, fun _ _ _ _ _ => trivial⟩
        · simp only [List.getElem?_cons_zero, List.getElem?_cons_succ, Option.some.injEq] at ho
          subst ho
          intro a W vs hB hS hE hU
          obtain ⟨r5, e103⟩ := hE 5 103 (by kernel_rfl) (by kernel_rfl)
          have v103 : a.eval (.tmp 103) = .bool true := e103.trans r5
          refine wpG_yes 5 true 103 rfl (by kernel_rfl) (by rw [hS]; first | simp | exact Nat.le_of_ble_eq_true rfl) v103 ?_
          have v14 : a.eval (.tmp 14) = .pointer (some ⟨gq, 0, none⟩) := (hU 14 (by kernel_rfl)).trans rfl
          clear hE hU
          exact wp_value_inv (w' := W) (.agg QA) (op_loadAt rfl v14 (LQ1.out W hB)) ⟨_, rfl, hB, Fr.refl _ _, rfl, fun _ _ _ _ _ => trivial⟩
        · simp only [List.getElem?_cons_zero, List.getElem?_cons_succ, Option.some.injEq] at ho
          subst ho
          intro a W vs hB hS hE hU
          obtain ⟨r5, e103⟩ := hE 5 103 (by kernel_rfl) (by kernel_rfl)
          have v103 : a.eval (.tmp 103) = .bool true := e103.trans r5
          refine wpG_yes 5 true 103 rfl (by kernel_rfl) (by rw [hS]; first | simp | exact Nat.le_of_ble_eq_true rfl) v103 ?_
          have v1 : a.eval (.tmp 1) = .pointer (some ⟨g, 0, none⟩) := (hU 1 (by kernel_rfl)).trans rfl
          clear hE hU
          exact wp_value_inv (w' := W) (.pointer (some ⟨g, 0, none⟩)) (op_move rfl v1) ⟨_, rfl, hB, Fr.refl _ _, rfl, fun _ _ _ _ _ => trivial⟩
        · simp only [List.getElem?_cons_zero, List.getElem?_cons_succ, Option.some.injEq] at ho
          subst ho
          intro a W vs hB hS hE hU
          obtain ⟨r5, e103⟩ := hE 5 103 (by kernel_rfl) (by kernel_rfl)
          have v103 : a.eval (.tmp 103) = .bool true := e103.trans r5
          refine wpG_yes 5 true 103 rfl (by kernel_rfl) (by rw [hS]; first | simp | exact Nat.le_of_ble_eq_true rfl) v103 ?_
          obtain ⟨r7, e105⟩ := hE 7 105 (by kernel_rfl) (by kernel_rfl)
          have v105 : a.eval (.tmp 105) = .pointer (some ⟨g, 0, none⟩) := e105.trans r7
          clear hE hU
          exact wp_value_inv (w' := W) (.pointer (some ⟨g, 0, none⟩)) (op_nilCheck rfl v105) ⟨_, rfl, hB, Fr.refl _ _, rfl, fun _ _ _ _ _ => trivial⟩
        · simp only [List.getElem?_cons_zero, List.getElem?_cons_succ, Option.some.injEq] at ho
          subst ho
          intro a W vs hB hS hE hU
          obtain ⟨r5, e103⟩ := hE 5 103 (by kernel_rfl) (by kernel_rfl)
          have v103 : a.eval (.tmp 103) = .bool true := e103.trans r5
          refine wpG_yes 5 true 103 rfl (by kernel_rfl) (by rw [hS]; first | simp | exact Nat.le_of_ble_eq_true rfl) v103 ?_
          obtain ⟨r8, e106⟩ := hE 8 106 (by kernel_rfl) (by kernel_rfl)
          have v106 : a.eval (.tmp 106) = .pointer (some ⟨g, 0, none⟩) := e106.trans r8
          clear hE hU
          exact wp_value_inv (w' := W) (.pointer (some ⟨g, 0, none⟩)) (op_fieldAddr rfl v106 (fldVw0 W g)) ⟨_, rfl, hB, Fr.refl _ _, rfl, fun _ _ _ _ _ => trivial⟩
        · simp only [List.getElem?_cons_zero, List.getElem?_cons_succ, Option.some.injEq] at ho
          subst ho
          intro a W vs hB hS hE hU
          obtain ⟨r5, e103⟩ := hE 5 103 (by kernel_rfl) (by kernel_rfl)
          have v103 : a.eval (.tmp 103) = .bool true := e103.trans r5
          refine wpG_yes 5 true 103 rfl (by kernel_rfl) (by rw [hS]; first | simp | exact Nat.le_of_ble_eq_true rfl) v103 ?_
          obtain ⟨r9, e107⟩ := hE 9 107 (by kernel_rfl) (by kernel_rfl)
          have v107 : a.eval (.tmp 107) = .pointer (some ⟨g, 0, none⟩) := e107.trans r9
          clear hE hU
          exact wp_value_inv (w' := W) (.slice (some ⟨u, 0, none⟩) mQ dQ) (op_loadAt rfl v107 (LG.out W hB)) ⟨_, rfl, hB, Fr.refl _ _, rfl, fun _ _ _ _ _ => trivial⟩
        · simp only [List.getElem?_cons_zero, List.getElem?_cons_succ, Option.some.injEq] at ho
          subst ho
          intro a W vs hB hS hE hU
          obtain ⟨r5, e103⟩ := hE 5 103 (by kernel_rfl) (by kernel_rfl)
          have v103 : a.eval (.tmp 103) = .bool true := e103.trans r5
          refine wpG_yes 5 true 103 rfl (by kernel_rfl) (by rw [hS]; first | simp | exact Nat.le_of_ble_eq_true rfl) v103 ?_
          have v2 : a.eval (.tmp 2) = .int .i64 who := (hU 2 (by kernel_rfl)).trans rfl
          clear hE hU
          exact wp_value_inv (w' := W) (.int .i64 who) (op_move rfl v2) ⟨_, rfl, hB, Fr.refl _ _, rfl, fun _ _ _ _ _ => trivial⟩
        · simp only [List.getElem?_cons_zero, List.getElem?_cons_succ, Option.some.injEq] at ho
          subst ho
          intro a W vs hB hS hE hU
          obtain ⟨r5, e103⟩ := hE 5 103 (by kernel_rfl) (by kernel_rfl)
          have v103 : a.eval (.tmp 103) = .bool true := e103.trans r5
          refine wpG_yes 5 true 103 rfl (by kernel_rfl) (by rw [hS]; first | simp | exact Nat.le_of_ble_eq_true rfl) v103 ?_
          obtain ⟨r11, e109⟩ := hE 11 109 (by kernel_rfl) (by kernel_rfl)
          have v109 : a.eval (.tmp 109) = .int .i64 who := e109.trans r11
          clear hE hU
          exact wp_value_inv (w' := W) (.int .i64 (i5 : Nat)) (op_bin rfl v109 rfl rfl (HSB.out W)) ⟨_, rfl, hB, Fr.refl _ _, rfl, fun _ _ _ _ _ => trivial⟩
        · simp only [List.getElem?_cons_zero, List.getElem?_cons_succ, Option.some.injEq] at ho
          subst ho
          intro a W vs hB hS hE hU
          obtain ⟨r5, e103⟩ := hE 5 103 (by kernel_rfl) (by kernel_rfl)
          have v103 : a.eval (.tmp 103) = .bool true := e103.trans r5
          refine wpG_yes 5 true 103 rfl (by kernel_rfl) (by rw [hS]; first | simp | exact Nat.le_of_ble_eq_true rfl) v103 ?_
          obtain ⟨r10, e108⟩ := hE 10 108 (by kernel_rfl) (by kernel_rfl)
          have v108 : a.eval (.tmp 108) = .slice (some ⟨u, 0, none⟩) mQ dQ := e108.trans r10
          obtain ⟨r12, e110⟩ := hE 12 110 (by kernel_rfl) (by kernel_rfl)
          have v110 : a.eval (.tmp 110) = .int .i64 (i5 : Nat) := e110.trans r12
          clear hE hU
          exact wp_value_inv (w' := W) (.pointer (some ⟨u, o9, none⟩)) (op_indexAddr rfl v108 v110 (HI9.out W)) ⟨_, rfl, hB, Fr.refl _ _, rfl, fun _ _ _ _ _ => trivial⟩
        · simp only [List.getElem?_cons_zero, List.getElem?_cons_succ, Option.some.injEq] at ho
          subst ho
          intro a W vs hB hS hE hU
          obtain ⟨r5, e103⟩ := hE 5 103 (by kernel_rfl) (by kernel_rfl)
          have v103 : a.eval (.tmp 103) = .bool true := e103.trans r5
          refine wpG_yes 5 true 103 rfl (by kernel_rfl) (by rw [hS]; first | simp | exact Nat.le_of_ble_eq_true rfl) v103 ?_
          obtain ⟨r13, e111⟩ := hE 13 111 (by kernel_rfl) (by kernel_rfl)
          have v111 : a.eval (.tmp 111) = .pointer (some ⟨u, o9, none⟩) := e111.trans r13
          clear hE hU
          exact wp_value_inv (w' := W) (.pointer (some ⟨u, o9, none⟩)) (op_fieldAddr rfl v111 (fldUs0 W u o9)) ⟨_, rfl, hB, Fr.refl _ _, rfl, fun _ _ _ _ _ => trivial⟩
        · simp only [List.getElem?_cons_zero, List.getElem?_cons_succ, Option.some.injEq] at ho
          subst ho
          intro a W vs hB hS hE hU
          obtain ⟨r5, e103⟩ := hE 5 103 (by kernel_rfl) (by kernel_rfl)
          have v103 : a.eval (.tmp 103) = .bool true := e103.trans r5
          refine wpG_yes 5 true 103 rfl (by kernel_rfl) (by rw [hS]; first | simp | exact Nat.le_of_ble_eq_true rfl) v103 ?_
          obtain ⟨r14, e112⟩ := hE 14 112 (by kernel_rfl) (by kernel_rfl)
          have v112 : a.eval (.tmp 112) = .pointer (some ⟨u, o9, none⟩) := e112.trans r14
          clear hE hU
          exact wp_value_inv (w' := W) (.agg QA) (op_loadAt rfl v112 (LQ2.out W hB)) ⟨_, rfl, hB, Fr.refl _ _, rfl, fun _ _ _ _ _ => trivial⟩
        · simp only [List.getElem?_cons_zero, List.getElem?_cons_succ, Option.some.injEq] at ho
          subst ho
          intro a W vs hB hS hE hU
          obtain ⟨r5, e103⟩ := hE 5 103 (by kernel_rfl) (by kernel_rfl)
          have v103 : a.eval (.tmp 103) = .bool true := e103.trans r5
          refine wpG_yes 5 true 103 rfl (by kernel_rfl) (by rw [hS]; first | simp | exact Nat.le_of_ble_eq_true rfl) v103 ?_
          obtain ⟨r6, e104⟩ := hE 6 104 (by kernel_rfl) (by kernel_rfl)
          have v104 : a.eval (.tmp 104) = .agg QA := e104.trans r6
          obtain ⟨r15, e113⟩ := hE 15 113 (by kernel_rfl) (by kernel_rfl)
          have v113 : a.eval (.tmp 113) = .agg QA := e113.trans r15
          clear hE hU
          exact wp_value_inv (w' := W) (.bool true) (op_bin rfl v104 v113 (guard_q9 _ _ _ _ _ _) (HEQ.out W)) ⟨_, rfl, hB, Fr.refl _ _, rfl, fun _ _ _ _ _ => trivial⟩
        · simp only [List.getElem?_cons_zero, List.getElem?_cons_succ, Option.some.injEq] at ho
          subst ho
          intro a W vs hB hS hE hU
          refine wpG_plain rfl ?_
          obtain ⟨r5, e103⟩ := hE 5 103 (by kernel_rfl) (by kernel_rfl)
          have v103 : a.eval (.tmp 103) = .bool true := e103.trans r5
          obtain ⟨r16, e114⟩ := hE 16 114 (by kernel_rfl) (by kernel_rfl)
          have v114 : a.eval (.tmp 114) = .bool true := e114.trans r16
          clear hE hU
          exact wp_value_inv (w' := W) (.bool true) (op_pick rfl v103 (by simp only [if_true]; exact v114)) ⟨_, rfl, hB, Fr.refl _ _, rfl, fun _ _ _ _ _ => trivial⟩
        · simp only [List.getElem?_cons_zero, List.getElem?_cons_succ, Option.some.injEq] at ho
          subst ho
          intro a W vs hB hS hE hU
          refine wpG_plain rfl ?_
          obtain ⟨r17, e115⟩ := hE 17 115 (by kernel_rfl) (by kernel_rfl)
          have v115 : a.eval (.tmp 115) = .bool true := e115.trans r17
          clear hE hU
          exact wp_value_inv (w' := W) (.bool true) (op_assign rfl v115) ⟨_, rfl, hB, Fr.refl _ _, rfl, fun _ _ _ _ _ => trivial⟩
      · intro vs Wz hB0 hR0 hD
        have r8 : vs 18 = .bool true := hR0 18 (by decide)
        have HZ := Lib.hid hB0
        clear hR0 hD hB0
        simp only [acts, if_true, dstAt, List.getElem?_cons_zero, List.getElem?_cons_succ, Option.bind_some, Act.put, List.setIfInBounds_toArray, List.set_cons_succ, List.set_cons_zero, List.drop_succ_cons, List.drop_nil]
        simp only [r8]
        clear r8
        go_wp2_with fail
        go_ret
        exact ⟨rfl, HFN.out.trans HZ.out (fun _ h => h.elim)⟩
theorem same9_any (h : Wv X z A g u n s s w) (hn : n ≤ 100000) (hsm : Sm s) (who : Int) (P : ByteArray) (hP : P.size ≤ 140737488351232) :
    Calls Try.prog 14 #[.pointer (some ⟨A.vb, 0, none⟩), .pointer (some ⟨g, 0, none⟩), .int .i64 who, .string P] w fun e w' => e = .returned (.bool true) ∧ Fr (fun _ => False) w w' := by
  by_cases hu : isUser s who
  · exact same9_yes h hn hsm who hu P hP
  · exact same9_no h hn hsm who hu P hP
end
end Go.Proofs.Ytdpaobflknkbkaa
