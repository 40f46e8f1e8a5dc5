/- Laid together: VAlone -/
import Derived.Test.YteockhemeneioaaVa17
import Derived.Deep.QuietTactic
import Derived.BigQuiet
import Derived.Deep.DeepCutAuto
import Derived.Deep.CutBlock

namespace Go.Proofs.Yteockhemeneioaa
open Go.RowKit Go.ChangeShapes
set_option linter.unusedVariables false
structure AlAt (w0 : World) (z : Nat) (A B : VA) (Q : List Qt) (u : Int) (n : Nat) (wr : World) : Prop where
  ex : ∃ s t, Tw z A B n s t wr ∧ SameU s t u
  fr : Fr (fun _ => False) w0 wr
  zz : w0.heap.size ≤ z
theorem OwnR.rws8 {F : Nat → Prop} {z : Nat} {w : World} {v : Value} {l : List RowD} (h : OwnR F z w v l) : RwsIn (fun _ => True) w v l :=
  ⟨h.own.elems.mono (by decide) (fun _ _ _ => trivial), fun p hp => (h.bytes p hp).mono (fun _ _ _ => trivial)⟩
def NtOk (M : VT Bs) (v : Value) (W : World) : Prop := ∃ l : List RowD, RwsIn (fun _ => True) W v l ∧ l.map RowD.row = M
theorem NtOk.ext {M : VT Bs} {v : Value} {W W' : World} (hf : Fr (fun _ => False) W W') (h : NtOk M v W) : NtOk M v W' := by
  obtain ⟨l, h1, h2⟩ := h
  exact ⟨l, h1.keep hf (fun _ _ _ h => h), h2⟩
theorem NtOk.len {M : VT Bs} {v : Value} {W : World} (h : NtOk M v W) : ∃ a c, v = .slice a M.length c := by
  obtain ⟨l, h1, h2⟩ := h
  obtain ⟨ao, cap, hv, _⟩ := h1.open6
  exact ⟨ao, cap, by rw [hv, ← h2, List.length_map]⟩
theorem op_lenRw8 {w : World} {o : Oper} {a : Act} {x : Operand} {ao : Option Addr} {n cap : Nat} (ho : o.op = .call { callee := .builtin .len, args := #[x], argTypes := #[63] }) (hx : a.eval x = .slice ao n cap) :
    (execOp a.eval o).run Try.prog w = .ok (.value (.int .i64 n)) w := by
  obtain ⟨d, op, ty, pos, aft, g⟩ := o
  simp only at ho
  subst ho
  simp [execOp, resolve, invoke, builtin, Builtin.len_, hx, Result.andThen, goInt]
theorem guard_root (w : World) (op : BinOp) (x y : Operand) (A Bb : Array Value) : (eqGuard op 66 x y (.agg A) (.agg Bb)).run Try.prog w = .ok () w := run_eqGuard_agg w op _ x y A Bb (by kernel_rfl)
theorem root_rng {z : Nat} {w : World} {a : Option Addr} {n c : Nat} {M : VT PathX} (h : OwnE 66 22 z w (.slice a n c) (M.map rtC)) {k : Nat} (hk : k < M.length) : ∃ b f, a = some ⟨b, f, none⟩ ∧ w.rangeAt b (f + k * 22) (rtC M[k]) := by
  obtain ⟨ao, cap, hv, h1, h2, h3, h4⟩ := h.elems
  obtain ⟨b, f, ha, _, hi⟩ := h4 (by
    intro e
    rw [List.map_eq_nil_iff] at e
    rw [e] at hk
    cases hk)
  injection hv with e1 e2 e3
  refine ⟨b, f, e1.trans ha, fun j u hu => ?_⟩
  have hj : j < 22 := by
    have := (List.getElem?_eq_some_iff.1 hu).1
    rwa [rtC_len] at this
  rw [hi k (by rw [List.length_map]; exact hk) j hj, List.getElem_map]
  exact hu
theorem load_root {W : World} {b o : Nat} {p : Bs × PathX} (h : W.rangeAt b o (rtC p)) : (Instr.loadAt 66 (.pointer (some ⟨b, o, none⟩))).run Try.prog W = .ok (.agg (rtC p).toArray) W :=
  run_loadAt_mid W b o 66 (rtC p) _ h Try.underlying66 rfl (by rw [rtC_len]; kernel_rfl)
theorem op_aQ (o : Oper) (a : Act) (w : World) (h : o.op = .alloc 38) : (execOp a.eval o).run Try.prog w = .ok (.value (.pointer (some ⟨w.heap.size, 0, none⟩))) (w.alloc (.cells #[.int .i64 0, .int .i64 0, .int .i64 0, .int .i64 0] 38)) := by
  unfold execOp
  rw [h]
  kernel_rfl
theorem wpList_value_g {P : Program} {ops : Array Oper} {rest : List Oper} {o : Oper} {a : Act} {w : World} {Q : Exit → Act → World → Prop} (hw : Region.wanted o (yielded ops a.tmps) = true) (v : Value) (w' : World) (h : (execOp a.eval o).run P w = .ok (.value v) w')
    (hK : wpList P ops Q rest (a.put o.dst v) w') : wpList P ops Q (o :: rest) a w :=
  wpList_step fun _ hK' => by
    rw [if_pos hw]
    exact wp_value_inv v h (hK' _ _ hK)
theorem szQ9 (a b c d : Int) : (Try.prog.info? 38).map (·.size) = some (#[Value.int .i64 a, .int .i64 b, .int .i64 c, .int .i64 d] : Array Value).size := by kernel_rfl
theorem oneQ9 (a b c d : Int) : (#[Value.int .i64 a, .int .i64 b, .int .i64 c, .int .i64 d] : Array Value).all (·.oneCell') = true := by kernel_rfl
theorem ent_Notes8 (args : Array Value) (w : World) : (callFunc 26 args).run Try.prog w = .ok (.enter 26 args) w := by kernel_rfl
theorem ent_SameLines8 (args : Array Value) (w : World) : (callFunc 25 args).run Try.prog w = .ok (.enter 25 args) w := by kernel_rfl
theorem sameNt (W : World) (va vb : Value) {M : VT Bs} (h1 : NtOk M va W) (h2 : NtOk M vb W) (hM : M.length ≤ 1000000) : Calls Try.prog 25 #[va, vb] W fun e w' => e = .returned (.bool true) ∧ Fr (fun _ => False) W w' := by
  obtain ⟨la, a1, a2⟩ := h1
  obtain ⟨lb, b1, b2⟩ := h2
  exact sameLines_yes W va vb la lb a1 b1 (a2.trans b2.symm) (by rw [← a2, List.length_map] at hM; exact hM)
theorem fld_spence_api_Quota_2_0 (w : World) (g : Nat) : (Instr.fieldAt 38 (.pointer (some ⟨g, 0, none⟩)) 2).run Try.prog w = .ok (.pointer (some ⟨g, 2, none⟩)) w := by kernel_rfl
theorem fld_spence_api_Quota_3_0 (w : World) (g : Nat) : (Instr.fieldAt 38 (.pointer (some ⟨g, 0, none⟩)) 3).run Try.prog w = .ok (.pointer (some ⟨g, 3, none⟩)) w := by kernel_rfl
def VaY (gq na ca cb : Nat) (aa ab : Option Addr) (pa pb : Nat) (ux qr qn KE : Int) (M : VT Bs) (i : Nat) (v : Value) (W : World) : Prop :=
  match i with
  | 0 => v = .slice aa na ca
  | 1 => v = .int .i64 (na : Nat)
  | 2 => v = .slice ab na cb
  | 3 => v = .int .i64 (na : Nat)
  | 4 => v = .bool false
  | 5 => v = .bool false
  | 6 => v = .pointer (some ⟨pa, 0, none⟩)
  | 7 => v = .int .i64 ux
  | 8 => NtOk M v W
  | 9 => v = .pointer (some ⟨pb, 0, none⟩)
  | 10 => v = .int .i64 ux
  | 11 => NtOk M v W
  | 12 => v = .bool true
  | 13 => v = .bool false
  | 14 => v = .bool false
  | 15 => v = .bool false
  | 16 => v = .int .i64 0
  | 17 => v = .bool true
  | 18 => v = .bool true
  | 19 => v = .slice aa na ca
  | 20 => v = .int .i64 (na : Nat)
  | 21 => v = .pointer (some ⟨gq, 2, none⟩)
  | 22 => v = .int .i64 qr
  | 23 => v = .bool false
  | 24 => v = .bool false
  | 25 => v = .pointer (some ⟨pa, 0, none⟩)
  | 26 => v = .int .i64 ux
  | 27 => NtOk M v W
  | 28 => v = .int .i64 (M.length : Nat)
  | 29 => v = .pointer (some ⟨gq, 3, none⟩)
  | 30 => v = .int .i64 qn
  | 31 => v = .bool false
  | 32 => v = .bool false
  | 33 => v = .bool false
  | 34 => v = .bool false
  | _ => True
theorem VaY.ext (gq na ca cb : Nat) (aa ab : Option Addr) (pa pb : Nat) (ux qr qn KE : Int) (M : VT Bs) : ∀ (j : Nat) (u : Value) (W W' : World), Fr (fun _ => False) W W' → VaY gq na ca cb aa ab pa pb ux qr qn KE M j u W → VaY gq na ca cb aa ab pa pb ux qr qn KE M j u W'
  | 0, u, W, W', hf, h => h
  | 1, u, W, W', hf, h => h
  | 2, u, W, W', hf, h => h
  | 3, u, W, W', hf, h => h
  | 4, u, W, W', hf, h => h
  | 5, u, W, W', hf, h => h
  | 6, u, W, W', hf, h => h
  | 7, u, W, W', hf, h => h
  | 8, u, W, W', hf, h => NtOk.ext hf h
  | 9, u, W, W', hf, h => h
  | 10, u, W, W', hf, h => h
  | 11, u, W, W', hf, h => NtOk.ext hf h
  | 12, u, W, W', hf, h => h
  | 13, u, W, W', hf, h => h
  | 14, u, W, W', hf, h => h
  | 15, u, W, W', hf, h => h
  | 16, u, W, W', hf, h => h
  | 17, u, W, W', hf, h => h
  | 18, u, W, W', hf, h => h
  | 19, u, W, W', hf, h => h
  | 20, u, W, W', hf, h => h
  | 21, u, W, W', hf, h => h
  | 22, u, W, W', hf, h => h
  | 23, u, W, W', hf, h => h
  | 24, u, W, W', hf, h => h
  | 25, u, W, W', hf, h => h
  | 26, u, W, W', hf, h => h
  | 27, u, W, W', hf, h => NtOk.ext hf h
  | 28, u, W, W', hf, h => h
  | 29, u, W, W', hf, h => h
  | 30, u, W, W', hf, h => h
  | 31, u, W, W', hf, h => h
  | 32, u, W, W', hf, h => h
  | 33, u, W, W', hf, h => h
  | 34, u, W, W', hf, h => h
  | _ + 35, u, W, W', hf, h => trivial
def VaN (gq na ca cb : Nat) (aa ab : Option Addr) (pa pb : Nat) (ux qr qn KE : Int) (M : VT Bs) (i : Nat) (v : Value) (W : World) : Prop :=
  match i with
  | 0 => v = .slice aa na ca
  | 1 => v = .int .i64 (na : Nat)
  | 2 => v = .slice ab na cb
  | 3 => v = .int .i64 (na : Nat)
  | 4 => v = .bool false
  | 5 => v = .bool false
  | 6 => v = .pointer (some ⟨pa, 0, none⟩)
  | 7 => v = .int .i64 ux
  | 8 => NtOk M v W
  | 9 => v = .pointer (some ⟨pb, 0, none⟩)
  | 10 => v = .int .i64 ux
  | 11 => NtOk M v W
  | 12 => v = .bool true
  | 13 => v = .bool false
  | 14 => v = .bool false
  | 15 => v = .bool false
  | 16 => v = .int .i64 KE
  | 17 => v = .bool false
  | 18 => v = .bool false
  | 19 => v = undef
  | 20 => v = undef
  | 21 => v = undef
  | 22 => v = undef
  | 23 => v = undef
  | 24 => v = undef
  | 25 => v = undef
  | 26 => v = undef
  | 27 => v = undef
  | 28 => v = undef
  | 29 => v = undef
  | 30 => v = undef
  | 31 => v = undef
  | 32 => v = undef
  | 33 => v = .bool false
  | 34 => v = .bool false
  | _ => True
theorem VaN.ext (gq na ca cb : Nat) (aa ab : Option Addr) (pa pb : Nat) (ux qr qn KE : Int) (M : VT Bs) : ∀ (j : Nat) (u : Value) (W W' : World), Fr (fun _ => False) W W' → VaN gq na ca cb aa ab pa pb ux qr qn KE M j u W → VaN gq na ca cb aa ab pa pb ux qr qn KE M j u W'
  | 0, u, W, W', hf, h => h
  | 1, u, W, W', hf, h => h
  | 2, u, W, W', hf, h => h
  | 3, u, W, W', hf, h => h
  | 4, u, W, W', hf, h => h
  | 5, u, W, W', hf, h => h
  | 6, u, W, W', hf, h => h
  | 7, u, W, W', hf, h => h
  | 8, u, W, W', hf, h => NtOk.ext hf h
  | 9, u, W, W', hf, h => h
  | 10, u, W, W', hf, h => h
  | 11, u, W, W', hf, h => NtOk.ext hf h
  | 12, u, W, W', hf, h => h
  | 13, u, W, W', hf, h => h
  | 14, u, W, W', hf, h => h
  | 15, u, W, W', hf, h => h
  | 16, u, W, W', hf, h => h
  | 17, u, W, W', hf, h => h
  | 18, u, W, W', hf, h => h
  | 19, u, W, W', hf, h => h
  | 20, u, W, W', hf, h => h
  | 21, u, W, W', hf, h => h
  | 22, u, W, W', hf, h => h
  | 23, u, W, W', hf, h => h
  | 24, u, W, W', hf, h => h
  | 25, u, W, W', hf, h => h
  | 26, u, W, W', hf, h => h
  | 27, u, W, W', hf, h => h
  | 28, u, W, W', hf, h => h
  | 29, u, W, W', hf, h => h
  | 30, u, W, W', hf, h => h
  | 31, u, W, W', hf, h => h
  | 32, u, W, W', hf, h => h
  | 33, u, W, W', hf, h => h
  | 34, u, W, W', hf, h => h
  | _ + 35, u, W, W', hf, h => trivial
def VaL (k9 na ca cb b3 f3 o3 b4 f4 o4 : Nat) (C : Array Value) (i : Nat) (v : Value) (W : World) : Prop :=
  match i with
  | 0 => v = .slice (some ⟨b3, f3, none⟩) na ca
  | 1 => v = .int .i64 (k9 : Nat)
  | 2 => v = .pointer (some ⟨b3, o3, none⟩)
  | 3 => v = .agg C
  | 4 => v = .slice (some ⟨b4, f4, none⟩) na cb
  | 5 => v = .int .i64 (k9 : Nat)
  | 6 => v = .pointer (some ⟨b4, o4, none⟩)
  | 7 => v = .agg C
  | 8 => v = .bool false
  | _ => True
theorem VaL.ext (k9 na ca cb b3 f3 o3 b4 f4 o4 : Nat) (C : Array Value) : ∀ (j : Nat) (u : Value) (W W' : World), Fr (fun _ => False) W W' → VaL k9 na ca cb b3 f3 o3 b4 f4 o4 C j u W → VaL k9 na ca cb b3 f3 o3 b4 f4 o4 C j u W'
  | 0, u, W, W', hf, h => h
  | 1, u, W, W', hf, h => h
  | 2, u, W, W', hf, h => h
  | 3, u, W, W', hf, h => h
  | 4, u, W, W', hf, h => h
  | 5, u, W, W', hf, h => h
  | 6, u, W, W', hf, h => h
  | 7, u, W, W', hf, h => h
  | 8, u, W, W', hf, h => h
  | _ + 9, u, W, W', hf, h => trivial
section
set_option maxRecDepth 100000
set_option maxHeartbeats 4000000
theorem viewAlone_any (w : World) (v v2 : Value) (Q : List Qt) (l : List DeedD) (u : Int) (hQ : QsIn (fun k => k < w.heap.size) w v Q) (hl : DeedsIn (fun k => k < w.heap.size) w v2 l) :
    Calls Try.prog 6 #[v, v2, .int .i64 u] w fun e w' => e = .returned (.bool true) ∧ Fr (fun _ => False) w w' := by
  obtain ⟨ao, cap, rfl, _⟩ := id hl
  obtain ⟨qa, qc, rfl, _⟩ := id hQ.open9
  obtain ⟨n, hn⟩ : ∃ n, n = l.length := ⟨_, rfl⟩
  obtain ⟨nq, hnq⟩ : ∃ n, n = Q.length := ⟨_, rfl⟩
  have HAW := Lib.hid awake_any
  rw [← hn] at hl ⊢
  rw [← hnq] at hQ ⊢
  have HQ := Lib.hid hQ
  have HL := Lib.hid (And.intro hl hn)
  clear hQ hl hn hnq
  have HGR := Lib.hid (fun W (hf : Fr (fun _ => False) w W) => great_any W qa nq qc (HL.out.1.keep hf (fun _ _ _ h => h)))
  go_enter Try.func6, Try.ntmps6
  go_wp2_with (first
    | (go_at_call 9; refine (HAW.out _).mono ?_; rintro e w2 ⟨rfl, hf⟩; (have H2 := Lib.hid hf); clear hf)
    | (go_at_call 8; refine (HGR.out w2 H2.out).mono ?_; rintro e w3 ⟨b, rfl, hb, hf3⟩; (have H3 := Lib.hid (And.intro hb (H2.out.trans hf3 (fun _ h => h.elim)))); clear hb hf3; refine stopAt ?_))
  refine Stop.mk ?_
  cases b with
  | true =>
    go_wp2_with fail
    go_ret
    exact ⟨rfl, H3.out.2⟩
  | false =>
    obtain ⟨K, hK⟩ : ∃ K, K = okQs Q := ⟨_, rfl⟩
    cases K with
    | false =>
      have HNO := Lib.hid (fun W (hf : Fr (fun _ => False) w W) => new_no W _ Q (HQ.out.keep hf (fun _ _ _ h => h)) hK.symm)
      clear hK
      go_wp2_with (first
        | (go_at_call 10; with_reducible refine (HNO.out w3 H3.out.2).mono ?_; rintro e w4 ⟨rfl, hf⟩; (have H4 := Lib.hid (H3.out.2.trans hf (fun _ h => h.elim))); clear hf)
        | (go_at_call 10; with_reducible refine (HNO.out w4 H4.out).mono ?_; rintro e w5 ⟨rfl, hf⟩; (have H5 := Lib.hid (H4.out.trans hf (fun _ h => h.elim))); clear hf))
      go_ret
      exact ⟨rfl, H5.out⟩
    | true =>
      have HNY := Lib.hid (fun W (hf : Fr (fun _ => False) w W) => new_yes W _ Q (HQ.out.keep hf (fun _ _ _ h => h)) hK.symm)
      clear hK
      go_wp2_with (first
        | (go_at_call 10; with_reducible refine (HNY.out w3 H3.out.2).mono ?_; rintro e w4 ⟨A, rfl, hv4, hl4, hf4⟩; (have H4 := Lib.hid (And.intro hv4 (And.intro hl4 (And.intro hf4 (H3.out.2.trans hf4 (fun _ h => h.elim)))))); clear hv4 hl4 hf4)
        | (go_at_call 10; with_reducible refine (HNY.out w4 H4.out.2.2.2).mono ?_; rintro e w5 ⟨B, rfl, hv5, hl5, hf5⟩; (have H5 := Lib.hid (And.intro hv5 (And.intro hl5 hf5))); clear hv5 hl5 hf5; refine stopAt ?_))
      refine Stop.mk ?_
      go_wp2_with fail
      obtain ⟨z, hz⟩ : ∃ z, z = w3.heap.size := ⟨_, rfl⟩
      have HZ := Lib.hid hz
      have HLS : Hid (AlAt w z A B Q u (2 * 0) w5) := Lib.hid (by
        refine ⟨⟨_, _, ⟨⟨fun _ => False, fun _ => False, H4.out.1.quiet H5.out.2.2, H5.out.1, fun k hk => hk.elim, fun k hk => hk.elim, fun _ _ h => h, fun _ _ h => h⟩, fun k hk => by rw [hz]; exact (H4.out.2.1 k hk).1, fun k hk => by rw [hz]; exact Nat.le_trans H4.out.2.2.1.size (H5.out.2.1 k hk).1, fun k hA hB => by
          have h1 := (H4.out.2.1 k hA).2
          have h2 := (H5.out.2.1 k hB).1
          omega⟩, ⟨rfl, rfl, rfl⟩⟩, H4.out.2.2.2.trans H5.out.2.2 (fun _ h => h.elim), by rw [hz]; exact H3.out.2.size⟩)
      clear hz
      have h60 : n ≤ 60 := by have := (H3.out.1 (by first | rfl | trivial)).1; have := HL.out.2; omega
      have HB := Lib.hid (show ∃ b off, (0 < n → ao = some ⟨b, off, none⟩) ∧ ∀ i (h : i < l.length), DeedAt (fun k => k < w.heap.size) w b (off + i * 25) l[i] from by
        obtain ⟨ao', cap', hv, h1, h2, h4⟩ := HL.out.1
        cases hv
        by_cases hl : l = []
        · subst hl
          exact ⟨0, 0, fun h => absurd h (by simp), fun i h => by simp at h⟩
        · obtain ⟨b, off, ha, hi⟩ := h4 hl
          exact ⟨b, off, fun _ => ha, hi⟩)
      obtain ⟨b, off, hao, hdd⟩ := HB.out
      have HAO := Lib.hid hao
      have HDD := Lib.hid hdd
      clear hao hdd HB
      go_loopw [11] (fun iv wr => ∃ (i : Nat), i ≤ n ∧ iv = .int .i64 i ∧ Hid (AlAt w z A B Q u (2 * i) wr)) (fun iv _ => n - (intOf iv).toNat)
      case atStart => exact ⟨0, by omega, rfl, HLS⟩
      case round =>
        obtain ⟨i, hi, rfl, HLI⟩ := hrel
        by_cases hlt : i < n
        · have hiL : i < l.length := by have := HL.out.2; omega
          obtain rfl := HAO.out (by omega)
          obtain ⟨d, hdq⟩ : ∃ d, d = l[i] := ⟨_, rfl⟩
          have hd := (HDD.out i hiL).keep HLI.out.fr (fun _ _ _ h => h)
          rw [← hdq] at hd
          obtain ⟨o, ho⟩ : ∃ o, o = off + i * 25 := ⟨_, rfl⟩
          rw [← ho] at hd
          have HDK := Lib.hid (fun W (hf : Fr (fun k => z ≤ k) wr W) => hd.keep hf (fun k _ hk hs => by have := HLI.out.zz; omega))
          obtain ⟨X, hX⟩ : ∃ X, X = (deedC d).toArray := ⟨_, rfl⟩
          have HDC := Lib.hid (show DeedC X d from by rw [hX]; exact deedC_ok d hd.wf hd.fit)
          have HLD := Lib.hid (fun W (hf : Fr (fun k => z ≤ k) wr W) (t : Nat) (oo : Oper) (a : Act) (e1 : oo.op = .load 46 (.tmp t)) (e2 : a.eval (.tmp t) = .pointer (some ⟨b, off + i * 25, none⟩)) => op_loadAt e1 (e2.trans (by rw [ho])) (show (Instr.loadAt 46 (.pointer (some ⟨b, o, none⟩))).run Try.prog W = .ok (.agg X) W by rw [hX]; exact load_deed (HDK.out W hf)))
          have HO := Lib.hid ho
          have hi64 : (i : Int) < (n : Int) := by omega
          obtain ⟨s, t, hst, hsu⟩ := HLI.out.ex
          have HST := Lib.hid (And.intro hst hsu)
          have hi5 : 2 * i ≤ 120 := by omega
          have HDO := Lib.hid (hst.doA (by omega) X d HDC.out hd.bytes)
          obtain ⟨E, hE⟩ : ∃ E, E = doE s d := ⟨_, rfl⟩
          rw [← hE] at HDO
          have HE := Lib.hid hE
          clear hd hdq hX ho hst hsu hE
          go_wp2_with (first
            | (with_reducible refine Go.Proofs.Yteockhemeneioaa.wpList_value rfl (.agg X) wr (HLD.out wr (Fr.refl _ _) 55 _ _ rfl rfl) ?_)
            | (go_at_call 22; refine HDO.out.mono ?_; rintro en w7 ⟨rfl, hv7, hf7⟩; (have H7 := Lib.hid (And.intro hv7 (hf7.mono (T := fun k => z ≤ k) (fun k _ hk => HST.out.1.newA k (VA.own_all hk))))); clear hv7 hf7; refine stopAt ?_))
          refine Stop.mk ?_
          go_upto_region 13 with fail
          go_cut [74] (fun c wx => c = .bool false ∧ Hid (∃ s t, Tw z A B (2 * (i + 1)) s t wx ∧ SameU s t u ∧ Fr (fun k => z ≤ k) wr wx))
          case first =>
            as_aux_lemma =>
              have hwho : w7.cell? ⟨b, off + i * 25 + 1, none⟩ = some (.int .i64 d.who) := by have h := (HDK.out w7 H7.out.2).who; rw [HO.out] at h; exact h
              by_cases hwu : d.who = u
              · have HB7 := Lib.hid (H7.out.1.doB (by omega) X d HDC.out (HDK.out w7 H7.out.2).bytes)
                have hEE : E = doE t d := by rw [HE.out]; exact HST.out.2.doE hwu
                rw [← hEE] at HB7
                have HU := Lib.hid hwu
                clear hEE
                rw [hwu] at hwho
                clear hwu
                go_wp2_with (first
                  | (with_reducible refine wpList_value_g (by simp [Region.wanted, yielded]) (.agg X) w7 (HLD.out w7 H7.out.2 69 _ _ rfl rfl) ?_)
                  | (go_at_call 22; refine HB7.out.mono ?_; rintro en w8 ⟨rfl, hv8, hf8⟩; (have H8 := Lib.hid (And.intro hv8 (hf8.mono (T := fun k => z ≤ k) (fun k _ hk => HST.out.1.newB k (VA.own_all hk))))); clear hv8 hf8))
                go_meet
                case rel => exact ⟨rfl, Lib.hid ⟨_, _, H8.out.1.more (by omega), HST.out.2.doS HU.out, H7.out.2.trans H8.out.2 (fun _ h => .inl h)⟩⟩
              · go_wp2_with fail
                go_meet
                case rel => exact ⟨rfl, Lib.hid ⟨_, _, H7.out.1.more (by omega), HST.out.2.other hwu, H7.out.2⟩⟩
          case rest =>
            obtain ⟨rfl, HC⟩ := hcut
            obtain ⟨w9, hw9⟩ : ∃ w9, w9 = wc := ⟨_, rfl⟩
            subst hw9
            obtain ⟨s1, t1, hst, hsu, hf9⟩ := HC.out
            have HTW := Lib.hid (And.intro hst (And.intro hsu hf9))
            clear hst hsu hf9 HC
            have hi6 : 2 * (i + 1) ≤ 100000 := by omega
            have hrr : rowsR t1 u = rowsR s1 u := HTW.out.2.1.rowsR.symm
            obtain ⟨M, hM⟩ : ∃ M, M = rowsR s1 u := ⟨_, rfl⟩
            have HRA := Lib.hid (HTW.out.1.rootsA hi6 u)
            have HRB := Lib.hid (fun W (hf : Fr (fun _ => False) w9 W) => (HTW.out.1.quiet hf).symm.rootsA hi6 u)
            rw [hrr, ← hM] at HRB
            rw [← hM] at HRA
            have HQU := Lib.hid (fun W (hf : Fr (fun _ => False) w9 W) => (HTW.out.1.quiet hf).quotaA u)
            obtain ⟨⟨qb, qo, qr, qn⟩, hqq⟩ : ∃ q, q = quotaU s1 u := ⟨_, rfl⟩
            obtain ⟨KE, hKE⟩ : ∃ k, k = quotaE s1 u := ⟨_, rfl⟩
            rw [← hqq, ← hKE] at HQU
            simp only [qA] at HQU
            have HM := Lib.hid (And.intro hM (And.intro hqq hKE))
            clear hrr hM hqq hKE
            go_wp2_with (first
              | (go_at_call 23; with_reducible refine HRA.out.mono ?_; rintro en w10 ⟨v10, rfl, ho10, hf10⟩; (obtain ⟨aa, ca, hv10⟩ := ho10.form); (rw [List.length_map] at hv10); (obtain ⟨na, hna⟩ : ∃ na, na = M.length := ⟨_, rfl⟩); (rw [← hna] at hv10); (subst hv10); (have H10 := Lib.hid (And.intro hf10 (And.intro ho10 hna))); clear hf10 ho10 hna)
              | (go_at_call 23; with_reducible refine (HRB.out w10 H10.out.1).mono ?_; rintro en w11 ⟨v11, rfl, ho11, hf11⟩; (obtain ⟨ab, cb, hv11⟩ := ho11.form); (rw [List.length_map, ← H10.out.2.2] at hv11); (subst hv11); (have H11 := Lib.hid (And.intro (H10.out.1.trans hf11 (fun _ h => h.elim)) (And.intro ho11 (H10.out.2.1.keep hf11 (fun _ _ h => h))))); clear hf11 ho11)
              | (go_at_call 24; refine (HQU.out w11 H11.out.1).mono ?_; rintro en w12 ⟨rfl, hf12⟩; (have H12 := Lib.hid (And.intro hf12 (H11.out.1.trans hf12 (fun _ h => h.elim)))); clear hf12)
              | (with_reducible refine Go.Proofs.Yteockhemeneioaa.wpList_value rfl _ _ (op_aQ _ _ _ rfl) ?_; refine stopAt ?_))
            refine Stop.mk ?_
            try simp only [Act.put, List.setIfInBounds_toArray, List.set_cons_succ, List.set_cons_zero]
            refine Go.Proofs.Yteockhemeneioaa.wpList_store_row rfl 38 (.tmp 15) (.tmp 85) rfl w12.heap.size #[.int .i64 qb, .int .i64 qo, .int .i64 qr, .int .i64 qn] #[.int .i64 0, .int .i64 0, .int .i64 0, .int .i64 0] 38 rfl rfl (heap_alloc_new w12 _) (szQ9 _ _ _ _) rfl (oneQ9 _ _ _ _) ?_
            try simp only [Act.put]
            obtain ⟨w13, hw13⟩ : ∃ w13, w13 = (w12.alloc (.cells #[.int .i64 0, .int .i64 0, .int .i64 0, .int .i64 0] 38)).setRow w12.heap.size #[.int .i64 qb, .int .i64 qo, .int .i64 qr, .int .i64 qn] := ⟨_, rfl⟩
            obtain ⟨gq, hgq⟩ : ∃ g, g = w12.heap.size := ⟨_, rfl⟩
            have hf13 : Fr (fun _ => False) w12 w13 := by rw [hw13]; exact ((Fr.refl _ _).alloc _).setRow (.inr (Nat.le_refl _)) _
            have hq13 : w13.heap[gq]? = some (.cells #[.int .i64 qb, .int .i64 qo, .int .i64 qr, .int .i64 qn] 38 (0, 0)) := by rw [hw13, hgq]; exact setRow_heap _ _ _ _ _ _ (heap_alloc_new w12 _)
            rw [← hw13, ← hgq]
            have H13 := Lib.hid (And.intro (H12.out.2.trans hf13 (fun _ h => h.elim)) hq13)
            have HAB := Lib.hid (And.intro (H11.out.2.2.keep (H12.out.1.trans hf13 (fun _ h => h.elim)) (fun _ _ h => h)) (H11.out.2.1.keep (H12.out.1.trans hf13 (fun _ h => h.elim)) (fun _ _ h => h)))
            clear hw13 hgq hf13 hq13
            go_wp2_with fail
            go_upto_region 17 with fail
            obtain ⟨MN, hMN⟩ : ∃ M, M = rowsN s1 u [] := ⟨_, rfl⟩
            have HML := Lib.hid (show MN.length ≤ 1000000 by
              obtain ⟨F, G, a, _⟩ := HTW.out.1.ex
              have h1 := (a.nk.ok u).2.1
              have h2 := List.length_filter_le (fun p : Bs × Bs => Lib.hasPrefix p.1 []) (s1.N u)
              rw [hMN, rowsN]
              split
              · omega
              · simp)
            have hmn : rowsN t1 u [] = MN := by rw [hMN]; exact (HTW.out.2.1.rowsN []).symm
            have HNA := Lib.hid (fun W (hf : Fr (fun _ => False) w13 W) => ((HTW.out.1.quiet (H13.out.1.trans hf (fun _ h => h.elim))).notesA hi6 u ⟨#[]⟩).mono (R' := fun e w' => ∃ v, e = .returned v ∧ NtOk MN v w' ∧ Fr (fun _ => False) W w') (fun e w' h => by
              obtain ⟨v, l, h1, h2, h3, h4⟩ := h
              exact ⟨v, h1, ⟨l, h2.rws8, h3.trans hMN.symm⟩, h4⟩))
            have HNB := Lib.hid (fun W (hf : Fr (fun _ => False) w13 W) => ((HTW.out.1.quiet (H13.out.1.trans hf (fun _ h => h.elim))).symm.notesA hi6 u ⟨#[]⟩).mono (R' := fun e w' => ∃ v, e = .returned v ∧ NtOk MN v w' ∧ Fr (fun _ => False) W w') (fun e w' h => by
              obtain ⟨v, l, h1, h2, h3, h4⟩ := h
              exact ⟨v, h1, ⟨l, h2.rws8, h3.trans hmn⟩, h4⟩))
            have HMN := Lib.hid hMN
            clear hMN hmn
            go_cut [121] (fun c wx => c = .bool false ∧ Hid (Fr (fun _ => False) w13 wx))
            case first =>
              by_cases hu : isUser s1 u
              · as_aux_lemma =>
                  have hk0 : KE = 0 := by rw [HM.out.2.2]; exact if_pos hu
                  subst hk0
                  have hcap := HTW.out.1.cap hu
                  rw [← HMN.out, ← HM.out.1, ← HM.out.2.1, ← H10.out.2.2] at hcap
                  have HCA := Lib.hid hcap.1
                  have HCN := Lib.hid hcap.2
                  have LQ2 := Lib.hid (fun W (hW : Fr (fun _ => False) w13 W) => load_int5 W ⟨gq, 2, none⟩ (.int .i64 qr) (hW.cell (show w13.cell? ⟨gq, 2, none⟩ = some (.int .i64 qr) by rw [cell_of_row _ _ _ _ _ _ H13.out.2]; rfl) id))
                  have LQ3 := Lib.hid (fun W (hW : Fr (fun _ => False) w13 W) => load_int5 W ⟨gq, 3, none⟩ (.int .i64 qn) (hW.cell (show w13.cell? ⟨gq, 3, none⟩ = some (.int .i64 qn) by rw [cell_of_row _ _ _ _ _ _ H13.out.2]; rfl) id))
                  clear hcap hu
                  refine wp_region_inv 35 (by kernel_rfl) (by kernel_rfl) (fun W => Fr (fun _ => False) w13 W) (VaY gq na ca cb aa ab A.vb B.vb u qr qn (0 : Int) MN) (fun _ _ _ _ => True) (Fr (fun _ => False)) (VaY.ext gq na ca cb aa ab A.vb B.vb u qr qn (0 : Int) MN) (Fr.refl _ _).drew ?_ ?_
                  · intro i hi o ho
                    replace hi : i < 35 := hi
                    obtain rfl | rfl | rfl | rfl | rfl | rfl | rfl | rfl | rfl | rfl | rfl | rfl | rfl | rfl | rfl | rfl | rfl | rfl | rfl | rfl | rfl | rfl | rfl | rfl | rfl | rfl | rfl | rfl | rfl | rfl | rfl | rfl | rfl | rfl | rfl : i = 0 ∨ i = 1 ∨ i = 2 ∨ i = 3 ∨ i = 4 ∨ i = 5 ∨ i = 6 ∨ i = 7 ∨ i = 8 ∨ i = 9 ∨ i = 10 ∨ i = 11 ∨ i = 12 ∨ i = 13 ∨ i = 14 ∨ i = 15 ∨ i = 16 ∨ i = 17 ∨ i = 18 ∨ i = 19 ∨ i = 20 ∨ i = 21 ∨ i = 22 ∨ i = 23 ∨ i = 24 ∨ i = 25 ∨ i = 26 ∨ i = 27 ∨ i = 28 ∨ i = 29 ∨ i = 30 ∨ i = 31 ∨ i = 32 ∨ i = 33 ∨ i = 34 := by omega
                    · simp only [List.getElem?_cons_zero, Option.some.injEq] at ho
                      subst ho
                      intro a W vs hB hS hE hU
                      refine wpG_plain rfl ?_
                      have v13 : a.eval (.tmp 13) = .slice aa na ca := (hU 13 (by kernel_rfl)).trans rfl
                      clear hE hU
                      exact wp_value_inv (w' := W) (.slice aa na ca) (op_move rfl v13) ⟨_, rfl, hB, Fr.refl _ _, rfl, fun _ _ _ _ _ => trivial⟩
                    · simp only [List.getElem?_cons_zero, List.getElem?_cons_succ, Option.some.injEq] at ho
                      subst ho
                      intro a W vs hB hS hE hU
                      refine wpG_plain rfl ?_
                      obtain ⟨r0, e87⟩ := hE 0 87 (by kernel_rfl) (by kernel_rfl)
                      have v87 : a.eval (.tmp 87) = .slice aa na ca := e87.trans r0
                      clear hE hU
                      exact wp_value_inv (w' := W) (.int .i64 (na : Nat)) (op_lenRt rfl v87) ⟨_, rfl, hB, Fr.refl _ _, rfl, fun _ _ _ _ _ => trivial⟩
                    · simp only [List.getElem?_cons_zero, List.getElem?_cons_succ, Option.some.injEq] at ho
                      subst ho
                      intro a W vs hB hS hE hU
                      refine wpG_plain rfl ?_
                      have v14 : a.eval (.tmp 14) = .slice ab na cb := (hU 14 (by kernel_rfl)).trans rfl
                      clear hE hU
                      exact wp_value_inv (w' := W) (.slice ab na cb) (op_move rfl v14) ⟨_, rfl, hB, Fr.refl _ _, rfl, fun _ _ _ _ _ => trivial⟩
                    · simp only [List.getElem?_cons_zero, List.getElem?_cons_succ, Option.some.injEq] at ho
                      subst ho
                      intro a W vs hB hS hE hU
                      refine wpG_plain rfl ?_
                      obtain ⟨r2, e89⟩ := hE 2 89 (by kernel_rfl) (by kernel_rfl)
                      have v89 : a.eval (.tmp 89) = .slice ab na cb := e89.trans r2
                      clear hE hU
                      exact wp_value_inv (w' := W) (.int .i64 (na : Nat)) (op_lenRt rfl v89) ⟨_, rfl, hB, Fr.refl _ _, rfl, fun _ _ _ _ _ => trivial⟩
                    · simp only [List.getElem?_cons_zero, List.getElem?_cons_succ, Option.some.injEq] at ho
                      subst ho
                      intro a W vs hB hS hE hU
                      refine wpG_plain rfl ?_
                      obtain ⟨r1, e88⟩ := hE 1 88 (by kernel_rfl) (by kernel_rfl)
                      have v88 : a.eval (.tmp 88) = .int .i64 (na : Nat) := e88.trans r1
                      obtain ⟨r3, e90⟩ := hE 3 90 (by kernel_rfl) (by kernel_rfl)
                      have v90 : a.eval (.tmp 90) = .int .i64 (na : Nat) := e90.trans r3
                      clear hE hU
                      exact wp_value_inv (w' := W) (.bool false) (op_bin rfl v88 v90 (guard_int9 W _ _ _ _ _ _ _) neq_no) ⟨_, rfl, hB, Fr.refl _ _, rfl, fun _ _ _ _ _ => trivial⟩
                    · simp only [List.getElem?_cons_zero, List.getElem?_cons_succ, Option.some.injEq] at ho
                      subst ho
                      intro a W vs hB hS hE hU
                      refine wpG_plain rfl ?_
                      obtain ⟨r4, e91⟩ := hE 4 91 (by kernel_rfl) (by kernel_rfl)
                      have v91 : a.eval (.tmp 91) = .bool false := e91.trans r4
                      clear hE hU
                      exact wp_value_inv (w' := W) (.bool false) (op_move rfl v91) ⟨_, rfl, hB, Fr.refl _ _, rfl, fun _ _ _ _ _ => trivial⟩
                    · simp only [List.getElem?_cons_zero, List.getElem?_cons_succ, Option.some.injEq] at ho
                      subst ho
                      intro a W vs hB hS hE hU
                      obtain ⟨r5, e92⟩ := hE 5 92 (by kernel_rfl) (by kernel_rfl)
                      have v92 : a.eval (.tmp 92) = .bool false := e92.trans r5
                      refine wpG_yes 5 false 92 rfl (by kernel_rfl) (by rw [hS]; first | simp | exact Nat.le_of_ble_eq_true rfl) v92 ?_
                      have v7 : a.eval (.tmp 7) = .pointer (some ⟨A.vb, 0, none⟩) := (hU 7 (by kernel_rfl)).trans rfl
                      clear hE hU
                      exact wp_value_inv (w' := W) (.pointer (some ⟨A.vb, 0, none⟩)) (op_move rfl v7) ⟨_, rfl, hB, Fr.refl _ _, rfl, fun _ _ _ _ _ => trivial⟩
                    · simp only [List.getElem?_cons_zero, List.getElem?_cons_succ, Option.some.injEq] at ho
                      subst ho
                      intro a W vs hB hS hE hU
                      obtain ⟨r5, e92⟩ := hE 5 92 (by kernel_rfl) (by kernel_rfl)
                      have v92 : a.eval (.tmp 92) = .bool false := e92.trans r5
                      refine wpG_yes 5 false 92 rfl (by kernel_rfl) (by rw [hS]; first | simp | exact Nat.le_of_ble_eq_true rfl) v92 ?_
                      have v2 : a.eval (.tmp 2) = .int .i64 u := (hU 2 (by kernel_rfl)).trans rfl
                      clear hE hU
                      exact wp_value_inv (w' := W) (.int .i64 u) (op_move rfl v2) ⟨_, rfl, hB, Fr.refl _ _, rfl, fun _ _ _ _ _ => trivial⟩
                    · simp only [List.getElem?_cons_zero, List.getElem?_cons_succ, Option.some.injEq] at ho
                      subst ho
                      intro a W vs hB hS hE hU
                      obtain ⟨r5, e92⟩ := hE 5 92 (by kernel_rfl) (by kernel_rfl)
                      have v92 : a.eval (.tmp 92) = .bool false := e92.trans r5
                      refine wpG_yes 5 false 92 rfl (by kernel_rfl) (by rw [hS]; first | simp | exact Nat.le_of_ble_eq_true rfl) v92 ?_
                      obtain ⟨r6, e93⟩ := hE 6 93 (by kernel_rfl) (by kernel_rfl)
                      have v93 : a.eval (.tmp 93) = .pointer (some ⟨A.vb, 0, none⟩) := e93.trans r6
                      obtain ⟨r7, e94⟩ := hE 7 94 (by kernel_rfl) (by kernel_rfl)
                      have v94 : a.eval (.tmp 94) = .int .i64 u := e94.trans r7
                      clear hE hU
                      refine wp_call_inv 26 #[.tmp 93, .tmp 94, .const (.string ⟨#[]⟩)] #[26, 3, 9] rfl #[.pointer (some ⟨A.vb, 0, none⟩), .int .i64 u, .string ⟨#[]⟩] (by simp only [List.map_toArray, List.map_cons, List.map_nil, eval_const5, v93, v94]) (ent_Notes8 _) (Post := fun v W' => NtOk MN v W' ∧ Fr (fun _ => False) W W') ((HNA.out W hB).mono fun e w' h => ⟨h.choose, h.choose_spec.1, h.choose_spec.2⟩) ?_
                      rintro v W' ⟨ho, hf⟩
                      exact ⟨_, rfl, hB.trans hf (fun _ h => h.elim), hf, ho, fun _ _ _ _ _ => trivial⟩
                    · simp only [List.getElem?_cons_zero, List.getElem?_cons_succ, Option.some.injEq] at ho
                      subst ho
                      intro a W vs hB hS hE hU
                      obtain ⟨r5, e92⟩ := hE 5 92 (by kernel_rfl) (by kernel_rfl)
                      have v92 : a.eval (.tmp 92) = .bool false := e92.trans r5
                      refine wpG_yes 5 false 92 rfl (by kernel_rfl) (by rw [hS]; first | simp | exact Nat.le_of_ble_eq_true rfl) v92 ?_
                      have v9 : a.eval (.tmp 9) = .pointer (some ⟨B.vb, 0, none⟩) := (hU 9 (by kernel_rfl)).trans rfl
                      clear hE hU
                      exact wp_value_inv (w' := W) (.pointer (some ⟨B.vb, 0, none⟩)) (op_move rfl v9) ⟨_, rfl, hB, Fr.refl _ _, rfl, fun _ _ _ _ _ => trivial⟩
                    · simp only [List.getElem?_cons_zero, List.getElem?_cons_succ, Option.some.injEq] at ho
                      subst ho
                      intro a W vs hB hS hE hU
                      obtain ⟨r5, e92⟩ := hE 5 92 (by kernel_rfl) (by kernel_rfl)
                      have v92 : a.eval (.tmp 92) = .bool false := e92.trans r5
                      refine wpG_yes 5 false 92 rfl (by kernel_rfl) (by rw [hS]; first | simp | exact Nat.le_of_ble_eq_true rfl) v92 ?_
                      have v2 : a.eval (.tmp 2) = .int .i64 u := (hU 2 (by kernel_rfl)).trans rfl
                      clear hE hU
                      exact wp_value_inv (w' := W) (.int .i64 u) (op_move rfl v2) ⟨_, rfl, hB, Fr.refl _ _, rfl, fun _ _ _ _ _ => trivial⟩
                    · simp only [List.getElem?_cons_zero, List.getElem?_cons_succ, Option.some.injEq] at ho
                      subst ho
                      intro a W vs hB hS hE hU
                      obtain ⟨r5, e92⟩ := hE 5 92 (by kernel_rfl) (by kernel_rfl)
                      have v92 : a.eval (.tmp 92) = .bool false := e92.trans r5
                      refine wpG_yes 5 false 92 rfl (by kernel_rfl) (by rw [hS]; first | simp | exact Nat.le_of_ble_eq_true rfl) v92 ?_
                      obtain ⟨r9, e96⟩ := hE 9 96 (by kernel_rfl) (by kernel_rfl)
                      have v96 : a.eval (.tmp 96) = .pointer (some ⟨B.vb, 0, none⟩) := e96.trans r9
                      obtain ⟨r10, e97⟩ := hE 10 97 (by kernel_rfl) (by kernel_rfl)
                      have v97 : a.eval (.tmp 97) = .int .i64 u := e97.trans r10
                      clear hE hU
                      refine wp_call_inv 26 #[.tmp 96, .tmp 97, .const (.string ⟨#[]⟩)] #[26, 3, 9] rfl #[.pointer (some ⟨B.vb, 0, none⟩), .int .i64 u, .string ⟨#[]⟩] (by simp only [List.map_toArray, List.map_cons, List.map_nil, eval_const5, v96, v97]) (ent_Notes8 _) (Post := fun v W' => NtOk MN v W' ∧ Fr (fun _ => False) W W') ((HNB.out W hB).mono fun e w' h => ⟨h.choose, h.choose_spec.1, h.choose_spec.2⟩) ?_
                      rintro v W' ⟨ho, hf⟩
                      exact ⟨_, rfl, hB.trans hf (fun _ h => h.elim), hf, ho, fun _ _ _ _ _ => trivial⟩
                    · simp only [List.getElem?_cons_zero, List.getElem?_cons_succ, Option.some.injEq] at ho
                      subst ho
                      intro a W vs hB hS hE hU
                      obtain ⟨r5, e92⟩ := hE 5 92 (by kernel_rfl) (by kernel_rfl)
                      have v92 : a.eval (.tmp 92) = .bool false := e92.trans r5
                      refine wpG_yes 5 false 92 rfl (by kernel_rfl) (by rw [hS]; first | simp | exact Nat.le_of_ble_eq_true rfl) v92 ?_
                      skip
                      obtain ⟨r8, e95⟩ := hE 8 95 (by kernel_rfl) (by kernel_rfl)
                      obtain ⟨r11, e98⟩ := hE 11 98 (by kernel_rfl) (by kernel_rfl)
                      refine wp_call_inv 25 #[.tmp 95, .tmp 98] #[63, 63] rfl #[vs 8, vs 11] (by simp only [List.map_toArray, List.map_cons, List.map_nil, e95, e98]) (ent_SameLines8 _) (Post := fun v W' => v = .bool true ∧ Fr (fun _ => False) W W') ((sameNt W _ _ r8 r11 HML.out).mono fun e w' h => ⟨_, h.1, rfl, h.2⟩) ?_
                      rintro v W' ⟨rfl, hf⟩
                      exact ⟨_, rfl, hB.trans hf (fun _ h => h.elim), hf, rfl, fun _ _ _ _ _ => trivial⟩
                    · simp only [List.getElem?_cons_zero, List.getElem?_cons_succ, Option.some.injEq] at ho
                      subst ho
                      intro a W vs hB hS hE hU
                      obtain ⟨r5, e92⟩ := hE 5 92 (by kernel_rfl) (by kernel_rfl)
                      have v92 : a.eval (.tmp 92) = .bool false := e92.trans r5
                      refine wpG_yes 5 false 92 rfl (by kernel_rfl) (by rw [hS]; first | simp | exact Nat.le_of_ble_eq_true rfl) v92 ?_
                      obtain ⟨r12, e99⟩ := hE 12 99 (by kernel_rfl) (by kernel_rfl)
                      have v99 : a.eval (.tmp 99) = .bool true := e99.trans r12
                      clear hE hU
                      exact wp_value_inv (w' := W) (.bool false) (op_unop rfl v99 (by rfl)) ⟨_, rfl, hB, Fr.refl _ _, rfl, fun _ _ _ _ _ => trivial⟩
                    · simp only [List.getElem?_cons_zero, List.getElem?_cons_succ, Option.some.injEq] at ho
                      subst ho
                      intro a W vs hB hS hE hU
                      refine wpG_plain rfl ?_
                      obtain ⟨r5, e92⟩ := hE 5 92 (by kernel_rfl) (by kernel_rfl)
                      have v92 : a.eval (.tmp 92) = .bool false := e92.trans r5
                      obtain ⟨r13, e100⟩ := hE 13 100 (by kernel_rfl) (by kernel_rfl)
                      have v100 : a.eval (.tmp 100) = .bool false := e100.trans r13
                      clear hE hU
                      exact wp_value_inv (w' := W) (.bool false) (op_pick rfl v92 (by simp only [Bool.false_eq_true, if_false]; exact v100)) ⟨_, rfl, hB, Fr.refl _ _, rfl, fun _ _ _ _ _ => trivial⟩
                    · simp only [List.getElem?_cons_zero, List.getElem?_cons_succ, Option.some.injEq] at ho
                      subst ho
                      intro a W vs hB hS hE hU
                      refine wpG_plain rfl ?_
                      obtain ⟨r14, e101⟩ := hE 14 101 (by kernel_rfl) (by kernel_rfl)
                      have v101 : a.eval (.tmp 101) = .bool false := e101.trans r14
                      clear hE hU
                      exact wp_value_inv (w' := W) (.bool false) (op_move rfl v101) ⟨_, rfl, hB, Fr.refl _ _, rfl, fun _ _ _ _ _ => trivial⟩
                    · simp only [List.getElem?_cons_zero, List.getElem?_cons_succ, Option.some.injEq] at ho
                      subst ho
                      intro a W vs hB hS hE hU
                      obtain ⟨r15, e102⟩ := hE 15 102 (by kernel_rfl) (by kernel_rfl)
                      have v102 : a.eval (.tmp 102) = .bool false := e102.trans r15
                      refine wpG_yes 15 false 102 rfl (by kernel_rfl) (by rw [hS]; first | simp | exact Nat.le_of_ble_eq_true rfl) v102 ?_
                      have v16 : a.eval (.tmp 16) = .int .i64 0 := (hU 16 (by kernel_rfl)).trans rfl
                      clear hE hU
                      exact wp_value_inv (w' := W) (.int .i64 0) (op_move rfl v16) ⟨_, rfl, hB, Fr.refl _ _, rfl, fun _ _ _ _ _ => trivial⟩
                    · simp only [List.getElem?_cons_zero, List.getElem?_cons_succ, Option.some.injEq] at ho
                      subst ho
                      intro a W vs hB hS hE hU
                      obtain ⟨r15, e102⟩ := hE 15 102 (by kernel_rfl) (by kernel_rfl)
                      have v102 : a.eval (.tmp 102) = .bool false := e102.trans r15
                      refine wpG_yes 15 false 102 rfl (by kernel_rfl) (by rw [hS]; first | simp | exact Nat.le_of_ble_eq_true rfl) v102 ?_
                      obtain ⟨r16, e103⟩ := hE 16 103 (by kernel_rfl) (by kernel_rfl)
                      have v103 : a.eval (.tmp 103) = .int .i64 0 := e103.trans r16
                      clear hE hU
                      exact wp_value_inv (w' := W) (.bool true) (op_bin rfl v103 rfl (guard_int9 W _ _ _ _ _ _ _) eql_yes) ⟨_, rfl, hB, Fr.refl _ _, rfl, fun _ _ _ _ _ => trivial⟩
                    · simp only [List.getElem?_cons_zero, List.getElem?_cons_succ, Option.some.injEq] at ho
                      subst ho
                      intro a W vs hB hS hE hU
                      obtain ⟨r15, e102⟩ := hE 15 102 (by kernel_rfl) (by kernel_rfl)
                      have v102 : a.eval (.tmp 102) = .bool false := e102.trans r15
                      refine wpG_yes 15 false 102 rfl (by kernel_rfl) (by rw [hS]; first | simp | exact Nat.le_of_ble_eq_true rfl) v102 ?_
                      obtain ⟨r17, e104⟩ := hE 17 104 (by kernel_rfl) (by kernel_rfl)
                      have v104 : a.eval (.tmp 104) = .bool true := e104.trans r17
                      clear hE hU
                      exact wp_value_inv (w' := W) (.bool true) (op_move rfl v104) ⟨_, rfl, hB, Fr.refl _ _, rfl, fun _ _ _ _ _ => trivial⟩
                    · simp only [List.getElem?_cons_zero, List.getElem?_cons_succ, Option.some.injEq] at ho
                      subst ho
                      intro a W vs hB hS hE hU
                      obtain ⟨r18, e105⟩ := hE 18 105 (by kernel_rfl) (by kernel_rfl)
                      have v105 : a.eval (.tmp 105) = .bool true := e105.trans r18
                      refine wpG_yes 18 true 105 rfl (by kernel_rfl) (by rw [hS]; first | simp | exact Nat.le_of_ble_eq_true rfl) v105 ?_
                      have v13 : a.eval (.tmp 13) = .slice aa na ca := (hU 13 (by kernel_rfl)).trans rfl
                      clear hE hU
                      exact wp_value_inv (w' := W) (.slice aa na ca) (op_move rfl v13) ⟨_, rfl, hB, Fr.refl _ _, rfl, fun _ _ _ _ _ => trivial⟩
                    · simp only [List.getElem?_cons_zero, List.getElem?_cons_succ, Option.some.injEq] at ho
                      subst ho
                      intro a W vs hB hS hE hU
                      obtain ⟨r18, e105⟩ := hE 18 105 (by kernel_rfl) (by kernel_rfl)
                      have v105 : a.eval (.tmp 105) = .bool true := e105.trans r18
                      refine wpG_yes 18 true 105 rfl (by kernel_rfl) (by rw [hS]; first | simp | exact Nat.le_of_ble_eq_true rfl) v105 ?_
                      obtain ⟨r19, e106⟩ := hE 19 106 (by kernel_rfl) (by kernel_rfl)
                      have v106 : a.eval (.tmp 106) = .slice aa na ca := e106.trans r19
                      clear hE hU
                      exact wp_value_inv (w' := W) (.int .i64 (na : Nat)) (op_lenRt rfl v106) ⟨_, rfl, hB, Fr.refl _ _, rfl, fun _ _ _ _ _ => trivial⟩
                    · simp only [List.getElem?_cons_zero, List.getElem?_cons_succ, Option.some.injEq] at ho
                      subst ho
                      intro a W vs hB hS hE hU
                      obtain ⟨r18, e105⟩ := hE 18 105 (by kernel_rfl) (by kernel_rfl)
                      have v105 : a.eval (.tmp 105) = .bool true := e105.trans r18
                      refine wpG_yes 18 true 105 rfl (by kernel_rfl) (by rw [hS]; first | simp | exact Nat.le_of_ble_eq_true rfl) v105 ?_
                      have v15 : a.eval (.tmp 15) = .pointer (some ⟨gq, 0, none⟩) := (hU 15 (by kernel_rfl)).trans rfl
                      clear hE hU
                      exact wp_value_inv (w' := W) (.pointer (some ⟨gq, 2, none⟩)) (op_fieldAddr rfl v15 (fld_spence_api_Quota_2_0 W gq)) ⟨_, rfl, hB, Fr.refl _ _, rfl, fun _ _ _ _ _ => trivial⟩
                    · simp only [List.getElem?_cons_zero, List.getElem?_cons_succ, Option.some.injEq] at ho
                      subst ho
                      intro a W vs hB hS hE hU
                      obtain ⟨r18, e105⟩ := hE 18 105 (by kernel_rfl) (by kernel_rfl)
                      have v105 : a.eval (.tmp 105) = .bool true := e105.trans r18
                      refine wpG_yes 18 true 105 rfl (by kernel_rfl) (by rw [hS]; first | simp | exact Nat.le_of_ble_eq_true rfl) v105 ?_
                      obtain ⟨r21, e108⟩ := hE 21 108 (by kernel_rfl) (by kernel_rfl)
                      have v108 : a.eval (.tmp 108) = .pointer (some ⟨gq, 2, none⟩) := e108.trans r21
                      clear hE hU
                      exact wp_value_inv (w' := W) (.int .i64 qr) (op_loadAt rfl v108 (LQ2.out W hB)) ⟨_, rfl, hB, Fr.refl _ _, rfl, fun _ _ _ _ _ => trivial⟩
                    · simp only [List.getElem?_cons_zero, List.getElem?_cons_succ, Option.some.injEq] at ho
                      subst ho
                      intro a W vs hB hS hE hU
                      obtain ⟨r18, e105⟩ := hE 18 105 (by kernel_rfl) (by kernel_rfl)
                      have v105 : a.eval (.tmp 105) = .bool true := e105.trans r18
                      refine wpG_yes 18 true 105 rfl (by kernel_rfl) (by rw [hS]; first | simp | exact Nat.le_of_ble_eq_true rfl) v105 ?_
                      obtain ⟨r20, e107⟩ := hE 20 107 (by kernel_rfl) (by kernel_rfl)
                      have v107 : a.eval (.tmp 107) = .int .i64 (na : Nat) := e107.trans r20
                      obtain ⟨r22, e109⟩ := hE 22 109 (by kernel_rfl) (by kernel_rfl)
                      have v109 : a.eval (.tmp 109) = .int .i64 qr := e109.trans r22
                      clear hE hU
                      exact wp_value_inv (w' := W) (.bool false) (op_bin rfl v107 v109 rfl (gtr_no HCA.out)) ⟨_, rfl, hB, Fr.refl _ _, rfl, fun _ _ _ _ _ => trivial⟩
                    · simp only [List.getElem?_cons_zero, List.getElem?_cons_succ, Option.some.injEq] at ho
                      subst ho
                      intro a W vs hB hS hE hU
                      obtain ⟨r18, e105⟩ := hE 18 105 (by kernel_rfl) (by kernel_rfl)
                      have v105 : a.eval (.tmp 105) = .bool true := e105.trans r18
                      refine wpG_yes 18 true 105 rfl (by kernel_rfl) (by rw [hS]; first | simp | exact Nat.le_of_ble_eq_true rfl) v105 ?_
                      obtain ⟨r23, e110⟩ := hE 23 110 (by kernel_rfl) (by kernel_rfl)
                      have v110 : a.eval (.tmp 110) = .bool false := e110.trans r23
                      clear hE hU
                      exact wp_value_inv (w' := W) (.bool false) (op_move rfl v110) ⟨_, rfl, hB, Fr.refl _ _, rfl, fun _ _ _ _ _ => trivial⟩
                    · simp only [List.getElem?_cons_zero, List.getElem?_cons_succ, Option.some.injEq] at ho
                      subst ho
                      intro a W vs hB hS hE hU
                      obtain ⟨r24, e111⟩ := hE 24 111 (by kernel_rfl) (by kernel_rfl)
                      have v111 : a.eval (.tmp 111) = .bool false := e111.trans r24
                      refine wpG_yes 24 false 111 rfl (by kernel_rfl) (by rw [hS]; first | simp | exact Nat.le_of_ble_eq_true rfl) v111 ?_
                      have v7 : a.eval (.tmp 7) = .pointer (some ⟨A.vb, 0, none⟩) := (hU 7 (by kernel_rfl)).trans rfl
                      clear hE hU
                      exact wp_value_inv (w' := W) (.pointer (some ⟨A.vb, 0, none⟩)) (op_move rfl v7) ⟨_, rfl, hB, Fr.refl _ _, rfl, fun _ _ _ _ _ => trivial⟩
                    · simp only [List.getElem?_cons_zero, List.getElem?_cons_succ, Option.some.injEq] at ho
                      subst ho
                      intro a W vs hB hS hE hU
                      obtain ⟨r24, e111⟩ := hE 24 111 (by kernel_rfl) (by kernel_rfl)
                      have v111 : a.eval (.tmp 111) = .bool false := e111.trans r24
                      refine wpG_yes 24 false 111 rfl (by kernel_rfl) (by rw [hS]; first | simp | exact Nat.le_of_ble_eq_true rfl) v111 ?_
                      have v2 : a.eval (.tmp 2) = .int .i64 u := (hU 2 (by kernel_rfl)).trans rfl
                      clear hE hU
                      exact wp_value_inv (w' := W) (.int .i64 u) (op_move rfl v2) ⟨_, rfl, hB, Fr.refl _ _, rfl, fun _ _ _ _ _ => trivial⟩
                    · simp only [List.getElem?_cons_zero, List.getElem?_cons_succ, Option.some.injEq] at ho
                      subst ho
                      intro a W vs hB hS hE hU
                      obtain ⟨r24, e111⟩ := hE 24 111 (by kernel_rfl) (by kernel_rfl)
                      have v111 : a.eval (.tmp 111) = .bool false := e111.trans r24
                      refine wpG_yes 24 false 111 rfl (by kernel_rfl) (by rw [hS]; first | simp | exact Nat.le_of_ble_eq_true rfl) v111 ?_
                      obtain ⟨r25, e112⟩ := hE 25 112 (by kernel_rfl) (by kernel_rfl)
                      have v112 : a.eval (.tmp 112) = .pointer (some ⟨A.vb, 0, none⟩) := e112.trans r25
                      obtain ⟨r26, e113⟩ := hE 26 113 (by kernel_rfl) (by kernel_rfl)
                      have v113 : a.eval (.tmp 113) = .int .i64 u := e113.trans r26
                      clear hE hU
                      refine wp_call_inv 26 #[.tmp 112, .tmp 113, .const (.string ⟨#[]⟩)] #[26, 3, 9] rfl #[.pointer (some ⟨A.vb, 0, none⟩), .int .i64 u, .string ⟨#[]⟩] (by simp only [List.map_toArray, List.map_cons, List.map_nil, eval_const5, v112, v113]) (ent_Notes8 _) (Post := fun v W' => NtOk MN v W' ∧ Fr (fun _ => False) W W') ((HNA.out W hB).mono fun e w' h => ⟨h.choose, h.choose_spec.1, h.choose_spec.2⟩) ?_
                      rintro v W' ⟨ho, hf⟩
                      exact ⟨_, rfl, hB.trans hf (fun _ h => h.elim), hf, ho, fun _ _ _ _ _ => trivial⟩
                    · simp only [List.getElem?_cons_zero, List.getElem?_cons_succ, Option.some.injEq] at ho
                      subst ho
                      intro a W vs hB hS hE hU
                      obtain ⟨r24, e111⟩ := hE 24 111 (by kernel_rfl) (by kernel_rfl)
                      have v111 : a.eval (.tmp 111) = .bool false := e111.trans r24
                      refine wpG_yes 24 false 111 rfl (by kernel_rfl) (by rw [hS]; first | simp | exact Nat.le_of_ble_eq_true rfl) v111 ?_
                      skip
                      obtain ⟨r27, e114⟩ := hE 27 114 (by kernel_rfl) (by kernel_rfl)
                      obtain ⟨a9, c9, hv9⟩ := NtOk.len r27
                      have v114 : a.eval (.tmp 114) = .slice a9 MN.length c9 := e114.trans hv9
                      exact wp_value_inv (w' := W) (.int .i64 (MN.length : Nat)) (op_lenRw8 rfl v114) ⟨_, rfl, hB, Fr.refl _ _, rfl, fun _ _ _ _ _ => trivial⟩
                    · simp only [List.getElem?_cons_zero, List.getElem?_cons_succ, Option.some.injEq] at ho
                      subst ho
                      intro a W vs hB hS hE hU
                      obtain ⟨r24, e111⟩ := hE 24 111 (by kernel_rfl) (by kernel_rfl)
                      have v111 : a.eval (.tmp 111) = .bool false := e111.trans r24
                      refine wpG_yes 24 false 111 rfl (by kernel_rfl) (by rw [hS]; first | simp | exact Nat.le_of_ble_eq_true rfl) v111 ?_
                      have v15 : a.eval (.tmp 15) = .pointer (some ⟨gq, 0, none⟩) := (hU 15 (by kernel_rfl)).trans rfl
                      clear hE hU
                      exact wp_value_inv (w' := W) (.pointer (some ⟨gq, 3, none⟩)) (op_fieldAddr rfl v15 (fld_spence_api_Quota_3_0 W gq)) ⟨_, rfl, hB, Fr.refl _ _, rfl, fun _ _ _ _ _ => trivial⟩
                    · simp only [List.getElem?_cons_zero, List.getElem?_cons_succ, Option.some.injEq] at ho
                      subst ho
                      intro a W vs hB hS hE hU
                      obtain ⟨r24, e111⟩ := hE 24 111 (by kernel_rfl) (by kernel_rfl)
                      have v111 : a.eval (.tmp 111) = .bool false := e111.trans r24
                      refine wpG_yes 24 false 111 rfl (by kernel_rfl) (by rw [hS]; first | simp | exact Nat.le_of_ble_eq_true rfl) v111 ?_
                      obtain ⟨r29, e116⟩ := hE 29 116 (by kernel_rfl) (by kernel_rfl)
                      have v116 : a.eval (.tmp 116) = .pointer (some ⟨gq, 3, none⟩) := e116.trans r29
                      clear hE hU
                      exact wp_value_inv (w' := W) (.int .i64 qn) (op_loadAt rfl v116 (LQ3.out W hB)) ⟨_, rfl, hB, Fr.refl _ _, rfl, fun _ _ _ _ _ => trivial⟩
                    · simp only [List.getElem?_cons_zero, List.getElem?_cons_succ, Option.some.injEq] at ho
                      subst ho
                      intro a W vs hB hS hE hU
                      obtain ⟨r24, e111⟩ := hE 24 111 (by kernel_rfl) (by kernel_rfl)
                      have v111 : a.eval (.tmp 111) = .bool false := e111.trans r24
                      refine wpG_yes 24 false 111 rfl (by kernel_rfl) (by rw [hS]; first | simp | exact Nat.le_of_ble_eq_true rfl) v111 ?_
                      obtain ⟨r28, e115⟩ := hE 28 115 (by kernel_rfl) (by kernel_rfl)
                      have v115 : a.eval (.tmp 115) = .int .i64 (MN.length : Nat) := e115.trans r28
                      obtain ⟨r30, e117⟩ := hE 30 117 (by kernel_rfl) (by kernel_rfl)
                      have v117 : a.eval (.tmp 117) = .int .i64 qn := e117.trans r30
                      clear hE hU
                      exact wp_value_inv (w' := W) (.bool false) (op_bin rfl v115 v117 rfl (gtr_no HCN.out)) ⟨_, rfl, hB, Fr.refl _ _, rfl, fun _ _ _ _ _ => trivial⟩
                    · simp only [List.getElem?_cons_zero, List.getElem?_cons_succ, Option.some.injEq] at ho
                      subst ho
                      intro a W vs hB hS hE hU
                      obtain ⟨r18, e105⟩ := hE 18 105 (by kernel_rfl) (by kernel_rfl)
                      have v105 : a.eval (.tmp 105) = .bool true := e105.trans r18
                      refine wpG_yes 18 true 105 rfl (by kernel_rfl) (by rw [hS]; first | simp | exact Nat.le_of_ble_eq_true rfl) v105 ?_
                      obtain ⟨r24, e111⟩ := hE 24 111 (by kernel_rfl) (by kernel_rfl)
                      have v111 : a.eval (.tmp 111) = .bool false := e111.trans r24
                      obtain ⟨r31, e118⟩ := hE 31 118 (by kernel_rfl) (by kernel_rfl)
                      have v118 : a.eval (.tmp 118) = .bool false := e118.trans r31
                      clear hE hU
                      exact wp_value_inv (w' := W) (.bool false) (op_pick rfl v111 (by simp only [Bool.false_eq_true, if_false]; exact v118)) ⟨_, rfl, hB, Fr.refl _ _, rfl, fun _ _ _ _ _ => trivial⟩
                    · simp only [List.getElem?_cons_zero, List.getElem?_cons_succ, Option.some.injEq] at ho
                      subst ho
                      intro a W vs hB hS hE hU
                      obtain ⟨r15, e102⟩ := hE 15 102 (by kernel_rfl) (by kernel_rfl)
                      have v102 : a.eval (.tmp 102) = .bool false := e102.trans r15
                      refine wpG_yes 15 false 102 rfl (by kernel_rfl) (by rw [hS]; first | simp | exact Nat.le_of_ble_eq_true rfl) v102 ?_
                      obtain ⟨r18, e105⟩ := hE 18 105 (by kernel_rfl) (by kernel_rfl)
                      have v105 : a.eval (.tmp 105) = .bool true := e105.trans r18
                      obtain ⟨r32, e119⟩ := hE 32 119 (by kernel_rfl) (by kernel_rfl)
                      have v119 : a.eval (.tmp 119) = .bool false := e119.trans r32
                      clear hE hU
                      exact wp_value_inv (w' := W) (.bool false) (op_pick rfl v105 (by simp only [if_true]; exact v119)) ⟨_, rfl, hB, Fr.refl _ _, rfl, fun _ _ _ _ _ => trivial⟩
                    · simp only [List.getElem?_cons_zero, List.getElem?_cons_succ, Option.some.injEq] at ho
                      subst ho
                      intro a W vs hB hS hE hU
                      refine wpG_plain rfl ?_
                      obtain ⟨r15, e102⟩ := hE 15 102 (by kernel_rfl) (by kernel_rfl)
                      have v102 : a.eval (.tmp 102) = .bool false := e102.trans r15
                      obtain ⟨r33, e120⟩ := hE 33 120 (by kernel_rfl) (by kernel_rfl)
                      have v120 : a.eval (.tmp 120) = .bool false := e120.trans r33
                      clear hE hU
                      exact wp_value_inv (w' := W) (.bool false) (op_pick rfl v102 (by simp only [Bool.false_eq_true, if_false]; exact v120)) ⟨_, rfl, hB, Fr.refl _ _, rfl, fun _ _ _ _ _ => trivial⟩
                  · intro vs Wz hB0 hR0 hD
                    have r121 : vs 34 = .bool false := hR0 34 (by decide)
                    have HZ := Lib.hid hB0
                    clear hR0 hD hB0
                    simp only [acts, if_true, dstAt, List.getElem?_cons_zero, List.getElem?_cons_succ, Option.bind_some, Act.put, List.setIfInBounds_toArray, List.set_cons_succ, List.set_cons_zero, List.drop_succ_cons, List.drop_nil]
                    simp only [r121]
                    clear r121
                    go_wp2_with fail
                    go_meet
                    case rel => exact ⟨rfl, HZ⟩
              · as_aux_lemma =>
                  have hk0 : KE = 18 := by rw [HM.out.2.2]; exact if_neg hu
                  have HKN := Lib.hid (show KE ≠ 0 by omega)
                  clear hk0 hu
                  refine wp_region_inv 35 (by kernel_rfl) (by kernel_rfl) (fun W => Fr (fun _ => False) w13 W) (VaN gq na ca cb aa ab A.vb B.vb u qr qn KE MN) (fun _ _ _ _ => True) (Fr (fun _ => False)) (VaN.ext gq na ca cb aa ab A.vb B.vb u qr qn KE MN) (Fr.refl _ _).drew ?_ ?_
                  · intro i hi o ho
                    replace hi : i < 35 := hi
                    obtain rfl | rfl | rfl | rfl | rfl | rfl | rfl | rfl | rfl | rfl | rfl | rfl | rfl | rfl | rfl | rfl | rfl | rfl | rfl | rfl | rfl | rfl | rfl | rfl | rfl | rfl | rfl | rfl | rfl | rfl | rfl | rfl | rfl | rfl | rfl : i = 0 ∨ i = 1 ∨ i = 2 ∨ i = 3 ∨ i = 4 ∨ i = 5 ∨ i = 6 ∨ i = 7 ∨ i = 8 ∨ i = 9 ∨ i = 10 ∨ i = 11 ∨ i = 12 ∨ i = 13 ∨ i = 14 ∨ i = 15 ∨ i = 16 ∨ i = 17 ∨ i = 18 ∨ i = 19 ∨ i = 20 ∨ i = 21 ∨ i = 22 ∨ i = 23 ∨ i = 24 ∨ i = 25 ∨ i = 26 ∨ i = 27 ∨ i = 28 ∨ i = 29 ∨ i = 30 ∨ i = 31 ∨ i = 32 ∨ i = 33 ∨ i = 34 := by omega
                    · simp only [List.getElem?_cons_zero, Option.some.injEq] at ho
                      subst ho
                      intro a W vs hB hS hE hU
                      refine wpG_plain rfl ?_
                      have v13 : a.eval (.tmp 13) = .slice aa na ca := (hU 13 (by kernel_rfl)).trans rfl
                      clear hE hU
                      exact wp_value_inv (w' := W) (.slice aa na ca) (op_move rfl v13) ⟨_, rfl, hB, Fr.refl _ _, rfl, fun _ _ _ _ _ => trivial⟩
                    · simp only [List.getElem?_cons_zero, List.getElem?_cons_succ, Option.some.injEq] at ho
                      subst ho
                      intro a W vs hB hS hE hU
                      refine wpG_plain rfl ?_
                      obtain ⟨r0, e87⟩ := hE 0 87 (by kernel_rfl) (by kernel_rfl)
                      have v87 : a.eval (.tmp 87) = .slice aa na ca := e87.trans r0
                      clear hE hU
                      exact wp_value_inv (w' := W) (.int .i64 (na : Nat)) (op_lenRt rfl v87) ⟨_, rfl, hB, Fr.refl _ _, rfl, fun _ _ _ _ _ => trivial⟩
                    · simp only [List.getElem?_cons_zero, List.getElem?_cons_succ, Option.some.injEq] at ho
                      subst ho
                      intro a W vs hB hS hE hU
                      refine wpG_plain rfl ?_
                      have v14 : a.eval (.tmp 14) = .slice ab na cb := (hU 14 (by kernel_rfl)).trans rfl
                      clear hE hU
                      exact wp_value_inv (w' := W) (.slice ab na cb) (op_move rfl v14) ⟨_, rfl, hB, Fr.refl _ _, rfl, fun _ _ _ _ _ => trivial⟩
                    · simp only [List.getElem?_cons_zero, List.getElem?_cons_succ, Option.some.injEq] at ho
                      subst ho
                      intro a W vs hB hS hE hU
                      refine wpG_plain rfl ?_
                      obtain ⟨r2, e89⟩ := hE 2 89 (by kernel_rfl) (by kernel_rfl)
                      have v89 : a.eval (.tmp 89) = .slice ab na cb := e89.trans r2
                      clear hE hU
                      exact wp_value_inv (w' := W) (.int .i64 (na : Nat)) (op_lenRt rfl v89) ⟨_, rfl, hB, Fr.refl _ _, rfl, fun _ _ _ _ _ => trivial⟩
                    · simp only [List.getElem?_cons_zero, List.getElem?_cons_succ, Option.some.injEq] at ho
                      subst ho
                      intro a W vs hB hS hE hU
                      refine wpG_plain rfl ?_
                      obtain ⟨r1, e88⟩ := hE 1 88 (by kernel_rfl) (by kernel_rfl)
                      have v88 : a.eval (.tmp 88) = .int .i64 (na : Nat) := e88.trans r1
                      obtain ⟨r3, e90⟩ := hE 3 90 (by kernel_rfl) (by kernel_rfl)
                      have v90 : a.eval (.tmp 90) = .int .i64 (na : Nat) := e90.trans r3
                      clear hE hU
                      exact wp_value_inv (w' := W) (.bool false) (op_bin rfl v88 v90 (guard_int9 W _ _ _ _ _ _ _) neq_no) ⟨_, rfl, hB, Fr.refl _ _, rfl, fun _ _ _ _ _ => trivial⟩
                    · simp only [List.getElem?_cons_zero, List.getElem?_cons_succ, Option.some.injEq] at ho
                      subst ho
                      intro a W vs hB hS hE hU
                      refine wpG_plain rfl ?_
                      obtain ⟨r4, e91⟩ := hE 4 91 (by kernel_rfl) (by kernel_rfl)
                      have v91 : a.eval (.tmp 91) = .bool false := e91.trans r4
                      clear hE hU
                      exact wp_value_inv (w' := W) (.bool false) (op_move rfl v91) ⟨_, rfl, hB, Fr.refl _ _, rfl, fun _ _ _ _ _ => trivial⟩
                    · simp only [List.getElem?_cons_zero, List.getElem?_cons_succ, Option.some.injEq] at ho
                      subst ho
                      intro a W vs hB hS hE hU
                      obtain ⟨r5, e92⟩ := hE 5 92 (by kernel_rfl) (by kernel_rfl)
                      have v92 : a.eval (.tmp 92) = .bool false := e92.trans r5
                      refine wpG_yes 5 false 92 rfl (by kernel_rfl) (by rw [hS]; first | simp | exact Nat.le_of_ble_eq_true rfl) v92 ?_
                      have v7 : a.eval (.tmp 7) = .pointer (some ⟨A.vb, 0, none⟩) := (hU 7 (by kernel_rfl)).trans rfl
                      clear hE hU
                      exact wp_value_inv (w' := W) (.pointer (some ⟨A.vb, 0, none⟩)) (op_move rfl v7) ⟨_, rfl, hB, Fr.refl _ _, rfl, fun _ _ _ _ _ => trivial⟩
                    · simp only [List.getElem?_cons_zero, List.getElem?_cons_succ, Option.some.injEq] at ho
                      subst ho
                      intro a W vs hB hS hE hU
                      obtain ⟨r5, e92⟩ := hE 5 92 (by kernel_rfl) (by kernel_rfl)
                      have v92 : a.eval (.tmp 92) = .bool false := e92.trans r5
                      refine wpG_yes 5 false 92 rfl (by kernel_rfl) (by rw [hS]; first | simp | exact Nat.le_of_ble_eq_true rfl) v92 ?_
                      have v2 : a.eval (.tmp 2) = .int .i64 u := (hU 2 (by kernel_rfl)).trans rfl
                      clear hE hU
                      exact wp_value_inv (w' := W) (.int .i64 u) (op_move rfl v2) ⟨_, rfl, hB, Fr.refl _ _, rfl, fun _ _ _ _ _ => trivial⟩
                    · simp only [List.getElem?_cons_zero, List.getElem?_cons_succ, Option.some.injEq] at ho
                      subst ho
                      intro a W vs hB hS hE hU
                      obtain ⟨r5, e92⟩ := hE 5 92 (by kernel_rfl) (by kernel_rfl)
                      have v92 : a.eval (.tmp 92) = .bool false := e92.trans r5
                      refine wpG_yes 5 false 92 rfl (by kernel_rfl) (by rw [hS]; first | simp | exact Nat.le_of_ble_eq_true rfl) v92 ?_
                      obtain ⟨r6, e93⟩ := hE 6 93 (by kernel_rfl) (by kernel_rfl)
                      have v93 : a.eval (.tmp 93) = .pointer (some ⟨A.vb, 0, none⟩) := e93.trans r6
                      obtain ⟨r7, e94⟩ := hE 7 94 (by kernel_rfl) (by kernel_rfl)
                      have v94 : a.eval (.tmp 94) = .int .i64 u := e94.trans r7
                      clear hE hU
                      refine wp_call_inv 26 #[.tmp 93, .tmp 94, .const (.string ⟨#[]⟩)] #[26, 3, 9] rfl #[.pointer (some ⟨A.vb, 0, none⟩), .int .i64 u, .string ⟨#[]⟩] (by simp only [List.map_toArray, List.map_cons, List.map_nil, eval_const5, v93, v94]) (ent_Notes8 _) (Post := fun v W' => NtOk MN v W' ∧ Fr (fun _ => False) W W') ((HNA.out W hB).mono fun e w' h => ⟨h.choose, h.choose_spec.1, h.choose_spec.2⟩) ?_
                      rintro v W' ⟨ho, hf⟩
                      exact ⟨_, rfl, hB.trans hf (fun _ h => h.elim), hf, ho, fun _ _ _ _ _ => trivial⟩
                    · simp only [List.getElem?_cons_zero, List.getElem?_cons_succ, Option.some.injEq] at ho
                      subst ho
                      intro a W vs hB hS hE hU
                      obtain ⟨r5, e92⟩ := hE 5 92 (by kernel_rfl) (by kernel_rfl)
                      have v92 : a.eval (.tmp 92) = .bool false := e92.trans r5
                      refine wpG_yes 5 false 92 rfl (by kernel_rfl) (by rw [hS]; first | simp | exact Nat.le_of_ble_eq_true rfl) v92 ?_
                      have v9 : a.eval (.tmp 9) = .pointer (some ⟨B.vb, 0, none⟩) := (hU 9 (by kernel_rfl)).trans rfl
                      clear hE hU
                      exact wp_value_inv (w' := W) (.pointer (some ⟨B.vb, 0, none⟩)) (op_move rfl v9) ⟨_, rfl, hB, Fr.refl _ _, rfl, fun _ _ _ _ _ => trivial⟩
                    · simp only [List.getElem?_cons_zero, List.getElem?_cons_succ, Option.some.injEq] at ho
                      subst ho
                      intro a W vs hB hS hE hU
                      obtain ⟨r5, e92⟩ := hE 5 92 (by kernel_rfl) (by kernel_rfl)
                      have v92 : a.eval (.tmp 92) = .bool false := e92.trans r5
                      refine wpG_yes 5 false 92 rfl (by kernel_rfl) (by rw [hS]; first | simp | exact Nat.le_of_ble_eq_true rfl) v92 ?_
                      have v2 : a.eval (.tmp 2) = .int .i64 u := (hU 2 (by kernel_rfl)).trans rfl
                      clear hE hU
                      exact wp_value_inv (w' := W) (.int .i64 u) (op_move rfl v2) ⟨_, rfl, hB, Fr.refl _ _, rfl, fun _ _ _ _ _ => trivial⟩
                    · simp only [List.getElem?_cons_zero, List.getElem?_cons_succ, Option.some.injEq] at ho
                      subst ho
                      intro a W vs hB hS hE hU
                      obtain ⟨r5, e92⟩ := hE 5 92 (by kernel_rfl) (by kernel_rfl)
                      have v92 : a.eval (.tmp 92) = .bool false := e92.trans r5
                      refine wpG_yes 5 false 92 rfl (by kernel_rfl) (by rw [hS]; first | simp | exact Nat.le_of_ble_eq_true rfl) v92 ?_
                      obtain ⟨r9, e96⟩ := hE 9 96 (by kernel_rfl) (by kernel_rfl)
                      have v96 : a.eval (.tmp 96) = .pointer (some ⟨B.vb, 0, none⟩) := e96.trans r9
                      obtain ⟨r10, e97⟩ := hE 10 97 (by kernel_rfl) (by kernel_rfl)
                      have v97 : a.eval (.tmp 97) = .int .i64 u := e97.trans r10
                      clear hE hU
                      refine wp_call_inv 26 #[.tmp 96, .tmp 97, .const (.string ⟨#[]⟩)] #[26, 3, 9] rfl #[.pointer (some ⟨B.vb, 0, none⟩), .int .i64 u, .string ⟨#[]⟩] (by simp only [List.map_toArray, List.map_cons, List.map_nil, eval_const5, v96, v97]) (ent_Notes8 _) (Post := fun v W' => NtOk MN v W' ∧ Fr (fun _ => False) W W') ((HNB.out W hB).mono fun e w' h => ⟨h.choose, h.choose_spec.1, h.choose_spec.2⟩) ?_
                      rintro v W' ⟨ho, hf⟩
                      exact ⟨_, rfl, hB.trans hf (fun _ h => h.elim), hf, ho, fun _ _ _ _ _ => trivial⟩
                    · simp only [List.getElem?_cons_zero, List.getElem?_cons_succ, Option.some.injEq] at ho
                      subst ho
                      intro a W vs hB hS hE hU
                      obtain ⟨r5, e92⟩ := hE 5 92 (by kernel_rfl) (by kernel_rfl)
                      have v92 : a.eval (.tmp 92) = .bool false := e92.trans r5
                      refine wpG_yes 5 false 92 rfl (by kernel_rfl) (by rw [hS]; first | simp | exact Nat.le_of_ble_eq_true rfl) v92 ?_
                      skip
                      obtain ⟨r8, e95⟩ := hE 8 95 (by kernel_rfl) (by kernel_rfl)
                      obtain ⟨r11, e98⟩ := hE 11 98 (by kernel_rfl) (by kernel_rfl)
                      refine wp_call_inv 25 #[.tmp 95, .tmp 98] #[63, 63] rfl #[vs 8, vs 11] (by simp only [List.map_toArray, List.map_cons, List.map_nil, e95, e98]) (ent_SameLines8 _) (Post := fun v W' => v = .bool true ∧ Fr (fun _ => False) W W') ((sameNt W _ _ r8 r11 HML.out).mono fun e w' h => ⟨_, h.1, rfl, h.2⟩) ?_
                      rintro v W' ⟨rfl, hf⟩
                      exact ⟨_, rfl, hB.trans hf (fun _ h => h.elim), hf, rfl, fun _ _ _ _ _ => trivial⟩
                    · simp only [List.getElem?_cons_zero, List.getElem?_cons_succ, Option.some.injEq] at ho
                      subst ho
                      intro a W vs hB hS hE hU
                      obtain ⟨r5, e92⟩ := hE 5 92 (by kernel_rfl) (by kernel_rfl)
                      have v92 : a.eval (.tmp 92) = .bool false := e92.trans r5
                      refine wpG_yes 5 false 92 rfl (by kernel_rfl) (by rw [hS]; first | simp | exact Nat.le_of_ble_eq_true rfl) v92 ?_
                      obtain ⟨r12, e99⟩ := hE 12 99 (by kernel_rfl) (by kernel_rfl)
                      have v99 : a.eval (.tmp 99) = .bool true := e99.trans r12
                      clear hE hU
                      exact wp_value_inv (w' := W) (.bool false) (op_unop rfl v99 (by rfl)) ⟨_, rfl, hB, Fr.refl _ _, rfl, fun _ _ _ _ _ => trivial⟩
                    · simp only [List.getElem?_cons_zero, List.getElem?_cons_succ, Option.some.injEq] at ho
                      subst ho
                      intro a W vs hB hS hE hU
                      refine wpG_plain rfl ?_
                      obtain ⟨r5, e92⟩ := hE 5 92 (by kernel_rfl) (by kernel_rfl)
                      have v92 : a.eval (.tmp 92) = .bool false := e92.trans r5
                      obtain ⟨r13, e100⟩ := hE 13 100 (by kernel_rfl) (by kernel_rfl)
                      have v100 : a.eval (.tmp 100) = .bool false := e100.trans r13
                      clear hE hU
                      exact wp_value_inv (w' := W) (.bool false) (op_pick rfl v92 (by simp only [Bool.false_eq_true, if_false]; exact v100)) ⟨_, rfl, hB, Fr.refl _ _, rfl, fun _ _ _ _ _ => trivial⟩
                    · simp only [List.getElem?_cons_zero, List.getElem?_cons_succ, Option.some.injEq] at ho
                      subst ho
                      intro a W vs hB hS hE hU
                      refine wpG_plain rfl ?_
                      obtain ⟨r14, e101⟩ := hE 14 101 (by kernel_rfl) (by kernel_rfl)
                      have v101 : a.eval (.tmp 101) = .bool false := e101.trans r14
                      clear hE hU
                      exact wp_value_inv (w' := W) (.bool false) (op_move rfl v101) ⟨_, rfl, hB, Fr.refl _ _, rfl, fun _ _ _ _ _ => trivial⟩
                    · simp only [List.getElem?_cons_zero, List.getElem?_cons_succ, Option.some.injEq] at ho
                      subst ho
                      intro a W vs hB hS hE hU
                      obtain ⟨r15, e102⟩ := hE 15 102 (by kernel_rfl) (by kernel_rfl)
                      have v102 : a.eval (.tmp 102) = .bool false := e102.trans r15
                      refine wpG_yes 15 false 102 rfl (by kernel_rfl) (by rw [hS]; first | simp | exact Nat.le_of_ble_eq_true rfl) v102 ?_
                      have v16 : a.eval (.tmp 16) = .int .i64 KE := (hU 16 (by kernel_rfl)).trans rfl
                      clear hE hU
                      exact wp_value_inv (w' := W) (.int .i64 KE) (op_move rfl v16) ⟨_, rfl, hB, Fr.refl _ _, rfl, fun _ _ _ _ _ => trivial⟩
                    · simp only [List.getElem?_cons_zero, List.getElem?_cons_succ, Option.some.injEq] at ho
                      subst ho
                      intro a W vs hB hS hE hU
                      obtain ⟨r15, e102⟩ := hE 15 102 (by kernel_rfl) (by kernel_rfl)
                      have v102 : a.eval (.tmp 102) = .bool false := e102.trans r15
                      refine wpG_yes 15 false 102 rfl (by kernel_rfl) (by rw [hS]; first | simp | exact Nat.le_of_ble_eq_true rfl) v102 ?_
                      obtain ⟨r16, e103⟩ := hE 16 103 (by kernel_rfl) (by kernel_rfl)
                      have v103 : a.eval (.tmp 103) = .int .i64 KE := e103.trans r16
                      clear hE hU
                      exact wp_value_inv (w' := W) (.bool false) (op_bin rfl v103 rfl (guard_int9 W _ _ _ _ _ _ _) (eql_no HKN.out)) ⟨_, rfl, hB, Fr.refl _ _, rfl, fun _ _ _ _ _ => trivial⟩
                    · simp only [List.getElem?_cons_zero, List.getElem?_cons_succ, Option.some.injEq] at ho
                      subst ho
                      intro a W vs hB hS hE hU
                      obtain ⟨r15, e102⟩ := hE 15 102 (by kernel_rfl) (by kernel_rfl)
                      have v102 : a.eval (.tmp 102) = .bool false := e102.trans r15
                      refine wpG_yes 15 false 102 rfl (by kernel_rfl) (by rw [hS]; first | simp | exact Nat.le_of_ble_eq_true rfl) v102 ?_
                      obtain ⟨r17, e104⟩ := hE 17 104 (by kernel_rfl) (by kernel_rfl)
                      have v104 : a.eval (.tmp 104) = .bool false := e104.trans r17
                      clear hE hU
                      exact wp_value_inv (w' := W) (.bool false) (op_move rfl v104) ⟨_, rfl, hB, Fr.refl _ _, rfl, fun _ _ _ _ _ => trivial⟩
                    · simp only [List.getElem?_cons_zero, List.getElem?_cons_succ, Option.some.injEq] at ho
                      subst ho
                      intro a W vs hB hS hE hU
                      obtain ⟨r18, e105⟩ := hE 18 105 (by kernel_rfl) (by kernel_rfl)
                      have v105 : a.eval (.tmp 105) = .bool false := e105.trans r18
                      exact wpG_no 18 true 105 rfl (by kernel_rfl) (by rw [hS]; first | simp | exact Nat.le_of_ble_eq_true rfl) v105 ⟨_, rfl, hB, Fr.refl _ _, rfl, fun _ _ _ _ _ => trivial⟩
                    · simp only [List.getElem?_cons_zero, List.getElem?_cons_succ, Option.some.injEq] at ho
                      subst ho
                      intro a W vs hB hS hE hU
                      obtain ⟨r18, e105⟩ := hE 18 105 (by kernel_rfl) (by kernel_rfl)
                      have v105 : a.eval (.tmp 105) = .bool false := e105.trans r18
                      exact wpG_no 18 true 105 rfl (by kernel_rfl) (by rw [hS]; first | simp | exact Nat.le_of_ble_eq_true rfl) v105 ⟨_, rfl, hB, Fr.refl _ _, rfl, fun _ _ _ _ _ => trivial⟩
                    · simp only [List.getElem?_cons_zero, List.getElem?_cons_succ, Option.some.injEq] at ho
                      subst ho
                      intro a W vs hB hS hE hU
                      obtain ⟨r18, e105⟩ := hE 18 105 (by kernel_rfl) (by kernel_rfl)
                      have v105 : a.eval (.tmp 105) = .bool false := e105.trans r18
                      exact wpG_no 18 true 105 rfl (by kernel_rfl) (by rw [hS]; first | simp | exact Nat.le_of_ble_eq_true rfl) v105 ⟨_, rfl, hB, Fr.refl _ _, rfl, fun _ _ _ _ _ => trivial⟩
                    · simp only [List.getElem?_cons_zero, List.getElem?_cons_succ, Option.some.injEq] at ho
                      subst ho
                      intro a W vs hB hS hE hU
                      obtain ⟨r18, e105⟩ := hE 18 105 (by kernel_rfl) (by kernel_rfl)
                      have v105 : a.eval (.tmp 105) = .bool false := e105.trans r18
                      exact wpG_no 18 true 105 rfl (by kernel_rfl) (by rw [hS]; first | simp | exact Nat.le_of_ble_eq_true rfl) v105 ⟨_, rfl, hB, Fr.refl _ _, rfl, fun _ _ _ _ _ => trivial⟩
                    · simp only [List.getElem?_cons_zero, List.getElem?_cons_succ, Option.some.injEq] at ho
                      subst ho
                      intro a W vs hB hS hE hU
                      obtain ⟨r18, e105⟩ := hE 18 105 (by kernel_rfl) (by kernel_rfl)
                      have v105 : a.eval (.tmp 105) = .bool false := e105.trans r18
                      exact wpG_no 18 true 105 rfl (by kernel_rfl) (by rw [hS]; first | simp | exact Nat.le_of_ble_eq_true rfl) v105 ⟨_, rfl, hB, Fr.refl _ _, rfl, fun _ _ _ _ _ => trivial⟩
                    · simp only [List.getElem?_cons_zero, List.getElem?_cons_succ, Option.some.injEq] at ho
                      subst ho
                      intro a W vs hB hS hE hU
                      obtain ⟨r18, e105⟩ := hE 18 105 (by kernel_rfl) (by kernel_rfl)
                      have v105 : a.eval (.tmp 105) = .bool false := e105.trans r18
                      exact wpG_no 18 true 105 rfl (by kernel_rfl) (by rw [hS]; first | simp | exact Nat.le_of_ble_eq_true rfl) v105 ⟨_, rfl, hB, Fr.refl _ _, rfl, fun _ _ _ _ _ => trivial⟩
                    · simp only [List.getElem?_cons_zero, List.getElem?_cons_succ, Option.some.injEq] at ho
                      subst ho
                      intro a W vs hB hS hE hU
                      obtain ⟨r24, e111⟩ := hE 24 111 (by kernel_rfl) (by kernel_rfl)
                      have v111 : a.eval (.tmp 111) = undef := e111.trans r24
                      exact wpG_undef 24 false 111 rfl (by kernel_rfl) (by rw [hS]; first | simp | exact Nat.le_of_ble_eq_true rfl) v111 ⟨_, rfl, hB, Fr.refl _ _, rfl, fun _ _ _ _ _ => trivial⟩
                    · simp only [List.getElem?_cons_zero, List.getElem?_cons_succ, Option.some.injEq] at ho
                      subst ho
                      intro a W vs hB hS hE hU
                      obtain ⟨r24, e111⟩ := hE 24 111 (by kernel_rfl) (by kernel_rfl)
                      have v111 : a.eval (.tmp 111) = undef := e111.trans r24
                      exact wpG_undef 24 false 111 rfl (by kernel_rfl) (by rw [hS]; first | simp | exact Nat.le_of_ble_eq_true rfl) v111 ⟨_, rfl, hB, Fr.refl _ _, rfl, fun _ _ _ _ _ => trivial⟩
                    · simp only [List.getElem?_cons_zero, List.getElem?_cons_succ, Option.some.injEq] at ho
                      subst ho
                      intro a W vs hB hS hE hU
                      obtain ⟨r24, e111⟩ := hE 24 111 (by kernel_rfl) (by kernel_rfl)
                      have v111 : a.eval (.tmp 111) = undef := e111.trans r24
                      exact wpG_undef 24 false 111 rfl (by kernel_rfl) (by rw [hS]; first | simp | exact Nat.le_of_ble_eq_true rfl) v111 ⟨_, rfl, hB, Fr.refl _ _, rfl, fun _ _ _ _ _ => trivial⟩
                    · simp only [List.getElem?_cons_zero, List.getElem?_cons_succ, Option.some.injEq] at ho
                      subst ho
                      intro a W vs hB hS hE hU
                      obtain ⟨r24, e111⟩ := hE 24 111 (by kernel_rfl) (by kernel_rfl)
                      have v111 : a.eval (.tmp 111) = undef := e111.trans r24
                      exact wpG_undef 24 false 111 rfl (by kernel_rfl) (by rw [hS]; first | simp | exact Nat.le_of_ble_eq_true rfl) v111 ⟨_, rfl, hB, Fr.refl _ _, rfl, fun _ _ _ _ _ => trivial⟩
                    · simp only [List.getElem?_cons_zero, List.getElem?_cons_succ, Option.some.injEq] at ho
                      subst ho
                      intro a W vs hB hS hE hU
                      obtain ⟨r24, e111⟩ := hE 24 111 (by kernel_rfl) (by kernel_rfl)
                      have v111 : a.eval (.tmp 111) = undef := e111.trans r24
                      exact wpG_undef 24 false 111 rfl (by kernel_rfl) (by rw [hS]; first | simp | exact Nat.le_of_ble_eq_true rfl) v111 ⟨_, rfl, hB, Fr.refl _ _, rfl, fun _ _ _ _ _ => trivial⟩
                    · simp only [List.getElem?_cons_zero, List.getElem?_cons_succ, Option.some.injEq] at ho
                      subst ho
                      intro a W vs hB hS hE hU
                      obtain ⟨r24, e111⟩ := hE 24 111 (by kernel_rfl) (by kernel_rfl)
                      have v111 : a.eval (.tmp 111) = undef := e111.trans r24
                      exact wpG_undef 24 false 111 rfl (by kernel_rfl) (by rw [hS]; first | simp | exact Nat.le_of_ble_eq_true rfl) v111 ⟨_, rfl, hB, Fr.refl _ _, rfl, fun _ _ _ _ _ => trivial⟩
                    · simp only [List.getElem?_cons_zero, List.getElem?_cons_succ, Option.some.injEq] at ho
                      subst ho
                      intro a W vs hB hS hE hU
                      obtain ⟨r24, e111⟩ := hE 24 111 (by kernel_rfl) (by kernel_rfl)
                      have v111 : a.eval (.tmp 111) = undef := e111.trans r24
                      exact wpG_undef 24 false 111 rfl (by kernel_rfl) (by rw [hS]; first | simp | exact Nat.le_of_ble_eq_true rfl) v111 ⟨_, rfl, hB, Fr.refl _ _, rfl, fun _ _ _ _ _ => trivial⟩
                    · simp only [List.getElem?_cons_zero, List.getElem?_cons_succ, Option.some.injEq] at ho
                      subst ho
                      intro a W vs hB hS hE hU
                      obtain ⟨r18, e105⟩ := hE 18 105 (by kernel_rfl) (by kernel_rfl)
                      have v105 : a.eval (.tmp 105) = .bool false := e105.trans r18
                      exact wpG_no 18 true 105 rfl (by kernel_rfl) (by rw [hS]; first | simp | exact Nat.le_of_ble_eq_true rfl) v105 ⟨_, rfl, hB, Fr.refl _ _, rfl, fun _ _ _ _ _ => trivial⟩
                    · simp only [List.getElem?_cons_zero, List.getElem?_cons_succ, Option.some.injEq] at ho
                      subst ho
                      intro a W vs hB hS hE hU
                      obtain ⟨r15, e102⟩ := hE 15 102 (by kernel_rfl) (by kernel_rfl)
                      have v102 : a.eval (.tmp 102) = .bool false := e102.trans r15
                      refine wpG_yes 15 false 102 rfl (by kernel_rfl) (by rw [hS]; first | simp | exact Nat.le_of_ble_eq_true rfl) v102 ?_
                      obtain ⟨r18, e105⟩ := hE 18 105 (by kernel_rfl) (by kernel_rfl)
                      have v105 : a.eval (.tmp 105) = .bool false := e105.trans r18
                      clear hE hU
                      exact wp_value_inv (w' := W) (.bool false) (op_pick rfl v105 (by simp only [Bool.false_eq_true, if_false]; rfl)) ⟨_, rfl, hB, Fr.refl _ _, rfl, fun _ _ _ _ _ => trivial⟩
                    · simp only [List.getElem?_cons_zero, List.getElem?_cons_succ, Option.some.injEq] at ho
                      subst ho
                      intro a W vs hB hS hE hU
                      refine wpG_plain rfl ?_
                      obtain ⟨r15, e102⟩ := hE 15 102 (by kernel_rfl) (by kernel_rfl)
                      have v102 : a.eval (.tmp 102) = .bool false := e102.trans r15
                      obtain ⟨r33, e120⟩ := hE 33 120 (by kernel_rfl) (by kernel_rfl)
                      have v120 : a.eval (.tmp 120) = .bool false := e120.trans r33
                      clear hE hU
                      exact wp_value_inv (w' := W) (.bool false) (op_pick rfl v102 (by simp only [Bool.false_eq_true, if_false]; exact v120)) ⟨_, rfl, hB, Fr.refl _ _, rfl, fun _ _ _ _ _ => trivial⟩
                  · intro vs Wz hB0 hR0 hD
                    have r121 : vs 34 = .bool false := hR0 34 (by decide)
                    have HZ := Lib.hid hB0
                    clear hR0 hD hB0
                    simp only [acts, if_true, dstAt, List.getElem?_cons_zero, List.getElem?_cons_succ, Option.bind_some, Act.put, List.setIfInBounds_toArray, List.set_cons_succ, List.set_cons_zero, List.drop_succ_cons, List.drop_nil]
                    simp only [r121]
                    clear r121
                    go_wp2_with fail
                    go_meet
                    case rel => exact ⟨rfl, HZ⟩
            case rest =>
              as_aux_lemma =>
                obtain ⟨rfl, hf14⟩ := hcut
                obtain ⟨w14, hw14⟩ : ∃ w14, w14 = wc := ⟨_, rfl⟩
                subst hw14
                have hnl : na ≤ 9223372036854775807 := by
                  obtain ⟨ao, cap9, hv, h1, h2, _⟩ := HAB.out.1.elems
                  injection hv with e1 e2 e3
                  omega
                go_wp2_with fail
                go_loopw [17] (fun kv wr2 => ∃ k : Nat, k ≤ na ∧ kv = .int .i64 k ∧ Hid (Fr (fun _ => False) w14 wr2)) (fun kv _ => na - (intOf kv).toNat)
                case atStart => exact ⟨0, by omega, rfl, Lib.hid (Fr.refl _ _)⟩
                case round =>
                  obtain ⟨k, hk1, rfl, hf2⟩ := hrel
                  by_cases hkn : k < na
                  · have hkM : k < M.length := by rw [← H10.out.2.2]; exact hkn
                    obtain ⟨b3, f3, ha3, hr3⟩ := root_rng HAB.out.1 hkM
                    obtain ⟨b4, f4, ha4, hr4⟩ := root_rng HAB.out.2 hkM
                    have hf13 : Fr (fun _ => False) w13 wr := hf14.out.trans hf2.out (fun _ h => h.elim)
                    obtain ⟨C, hC⟩ : ∃ C, C = (rtC M[k]).toArray := ⟨_, rfl⟩
                    obtain ⟨o3, ho3⟩ : ∃ o3, o3 = f3 + k * 22 := ⟨_, rfl⟩
                    obtain ⟨o4, ho4⟩ : ∃ o4, o4 = f4 + k * 22 := ⟨_, rfl⟩
                    rw [← ho3] at hr3
                    rw [← ho4] at hr4
                    have HI3 := Lib.hid (fun W => idxRt8 W b3 f3 na ca k hkn)
                    have HI4 := Lib.hid (fun W => idxRt8 W b4 f4 na cb k hkn)
                    rw [← ho3] at HI3
                    rw [← ho4] at HI4
                    have LDA := Lib.hid (fun W (hW : Fr (fun _ => False) wr W) => load_root (Fr.range9 hW (Fr.range9 hf13 hr3 id) id))
                    have LDB := Lib.hid (fun W (hW : Fr (fun _ => False) wr W) => load_root (Fr.range9 hW (Fr.range9 hf13 hr4 id) id))
                    have HNR := Lib.hid (fun W => neq_root W M[k])
                    rw [← hC] at LDA LDB HNR
                    have k64 : (k : Int) < (na : Int) := by omega
                    obtain ⟨w15, hw15⟩ : ∃ w15, w15 = wr := ⟨_, rfl⟩
                    rw [← hw15] at LDA LDB
                    subst ha3
                    subst ha4
                    clear hr3 hr4 ho3 ho4 hC hkM hf13
                    go_wp2_with fail
                    rw [← hw15]
                    refine wp_region_inv 9 (by kernel_rfl) (by kernel_rfl) (fun W => Fr (fun _ => False) w15 W) (VaL k na ca cb b3 f3 o3 b4 f4 o4 C) (fun _ _ _ _ => True) (Fr (fun _ => False)) (VaL.ext k na ca cb b3 f3 o3 b4 f4 o4 C) (Fr.refl _ _).drew ?_ ?_
                    · intro i hi o ho
                      replace hi : i < 9 := hi
                      obtain rfl | rfl | rfl | rfl | rfl | rfl | rfl | rfl | rfl : i = 0 ∨ i = 1 ∨ i = 2 ∨ i = 3 ∨ i = 4 ∨ i = 5 ∨ i = 6 ∨ i = 7 ∨ i = 8 := by omega
                      · simp only [List.getElem?_cons_zero, Option.some.injEq] at ho
                        subst ho
                        intro a W vs hB hS hE hU
                        refine wpG_plain rfl ?_
                        have v13 : a.eval (.tmp 13) = .slice (some ⟨b3, f3, none⟩) na ca := (hU 13 (by kernel_rfl)).trans rfl
                        clear hE hU
                        exact wp_value_inv (w' := W) (.slice (some ⟨b3, f3, none⟩) na ca) (op_move rfl v13) ⟨_, rfl, hB, Fr.refl _ _, rfl, fun _ _ _ _ _ => trivial⟩
                      · simp only [List.getElem?_cons_zero, List.getElem?_cons_succ, Option.some.injEq] at ho
                        subst ho
                        intro a W vs hB hS hE hU
                        refine wpG_plain rfl ?_
                        have v17 : a.eval (.tmp 17) = .int .i64 (k : Nat) := (hU 17 (by kernel_rfl)).trans rfl
                        clear hE hU
                        exact wp_value_inv (w' := W) (.int .i64 (k : Nat)) (op_move rfl v17) ⟨_, rfl, hB, Fr.refl _ _, rfl, fun _ _ _ _ _ => trivial⟩
                      · simp only [List.getElem?_cons_zero, List.getElem?_cons_succ, Option.some.injEq] at ho
                        subst ho
                        intro a W vs hB hS hE hU
                        refine wpG_plain rfl ?_
                        obtain ⟨r0, e128⟩ := hE 0 128 (by kernel_rfl) (by kernel_rfl)
                        have v128 : a.eval (.tmp 128) = .slice (some ⟨b3, f3, none⟩) na ca := e128.trans r0
                        obtain ⟨r1, e129⟩ := hE 1 129 (by kernel_rfl) (by kernel_rfl)
                        have v129 : a.eval (.tmp 129) = .int .i64 (k : Nat) := e129.trans r1
                        clear hE hU
                        exact wp_value_inv (w' := W) (.pointer (some ⟨b3, o3, none⟩)) (op_indexAddr rfl v128 v129 (HI3.out W)) ⟨_, rfl, hB, Fr.refl _ _, rfl, fun _ _ _ _ _ => trivial⟩
                      · simp only [List.getElem?_cons_zero, List.getElem?_cons_succ, Option.some.injEq] at ho
                        subst ho
                        intro a W vs hB hS hE hU
                        refine wpG_plain rfl ?_
                        obtain ⟨r2, e130⟩ := hE 2 130 (by kernel_rfl) (by kernel_rfl)
                        have v130 : a.eval (.tmp 130) = .pointer (some ⟨b3, o3, none⟩) := e130.trans r2
                        clear hE hU
                        exact wp_value_inv (w' := W) (.agg C) (op_loadAt rfl v130 (LDA.out W hB)) ⟨_, rfl, hB, Fr.refl _ _, rfl, fun _ _ _ _ _ => trivial⟩
                      · simp only [List.getElem?_cons_zero, List.getElem?_cons_succ, Option.some.injEq] at ho
                        subst ho
                        intro a W vs hB hS hE hU
                        refine wpG_plain rfl ?_
                        have v14 : a.eval (.tmp 14) = .slice (some ⟨b4, f4, none⟩) na cb := (hU 14 (by kernel_rfl)).trans rfl
                        clear hE hU
                        exact wp_value_inv (w' := W) (.slice (some ⟨b4, f4, none⟩) na cb) (op_move rfl v14) ⟨_, rfl, hB, Fr.refl _ _, rfl, fun _ _ _ _ _ => trivial⟩
                      · simp only [List.getElem?_cons_zero, List.getElem?_cons_succ, Option.some.injEq] at ho
                        subst ho
                        intro a W vs hB hS hE hU
                        refine wpG_plain rfl ?_
                        have v17 : a.eval (.tmp 17) = .int .i64 (k : Nat) := (hU 17 (by kernel_rfl)).trans rfl
                        clear hE hU
                        exact wp_value_inv (w' := W) (.int .i64 (k : Nat)) (op_move rfl v17) ⟨_, rfl, hB, Fr.refl _ _, rfl, fun _ _ _ _ _ => trivial⟩
                      · simp only [List.getElem?_cons_zero, List.getElem?_cons_succ, Option.some.injEq] at ho
                        subst ho
                        intro a W vs hB hS hE hU
                        refine wpG_plain rfl ?_
                        obtain ⟨r4, e132⟩ := hE 4 132 (by kernel_rfl) (by kernel_rfl)
                        have v132 : a.eval (.tmp 132) = .slice (some ⟨b4, f4, none⟩) na cb := e132.trans r4
                        obtain ⟨r5, e133⟩ := hE 5 133 (by kernel_rfl) (by kernel_rfl)
                        have v133 : a.eval (.tmp 133) = .int .i64 (k : Nat) := e133.trans r5
                        clear hE hU
                        exact wp_value_inv (w' := W) (.pointer (some ⟨b4, o4, none⟩)) (op_indexAddr rfl v132 v133 (HI4.out W)) ⟨_, rfl, hB, Fr.refl _ _, rfl, fun _ _ _ _ _ => trivial⟩
                      · simp only [List.getElem?_cons_zero, List.getElem?_cons_succ, Option.some.injEq] at ho
                        subst ho
                        intro a W vs hB hS hE hU
                        refine wpG_plain rfl ?_
                        obtain ⟨r6, e134⟩ := hE 6 134 (by kernel_rfl) (by kernel_rfl)
                        have v134 : a.eval (.tmp 134) = .pointer (some ⟨b4, o4, none⟩) := e134.trans r6
                        clear hE hU
                        exact wp_value_inv (w' := W) (.agg C) (op_loadAt rfl v134 (LDB.out W hB)) ⟨_, rfl, hB, Fr.refl _ _, rfl, fun _ _ _ _ _ => trivial⟩
                      · simp only [List.getElem?_cons_zero, List.getElem?_cons_succ, Option.some.injEq] at ho
                        subst ho
                        intro a W vs hB hS hE hU
                        refine wpG_plain rfl ?_
                        obtain ⟨r3, e131⟩ := hE 3 131 (by kernel_rfl) (by kernel_rfl)
                        have v131 : a.eval (.tmp 131) = .agg C := e131.trans r3
                        obtain ⟨r7, e135⟩ := hE 7 135 (by kernel_rfl) (by kernel_rfl)
                        have v135 : a.eval (.tmp 135) = .agg C := e135.trans r7
                        clear hE hU
                        exact wp_value_inv (w' := W) (.bool false) (op_bin rfl v131 v135 (guard_root _ _ _ _ _ _) (HNR.out W)) ⟨_, rfl, hB, Fr.refl _ _, rfl, fun _ _ _ _ _ => trivial⟩
                    · intro vs Wz hB0 hR0 hD
                      have r136 : vs 8 = .bool false := hR0 8 (by decide)
                      have HZ := Lib.hid hB0
                      clear hR0 hD hB0
                      simp only [acts, if_true, dstAt, List.getElem?_cons_zero, List.getElem?_cons_succ, Option.bind_some, Act.put, List.setIfInBounds_toArray, List.set_cons_succ, List.set_cons_zero, List.drop_succ_cons, List.drop_nil]
                      simp only [r136]
                      clear r136
                      go_wp2_with fail
                      have hzz : Fr (fun _ => False) wr Wz := by rw [← hw15]; exact HZ.out
                      have HZZ := Lib.hid hzz
                      clear hzz
                      go_roundw
                      case rel => exact ⟨k + 1, by omega, by go_num, Lib.hid (hf2.out.trans HZZ.out (fun _ h => h.elim))⟩
                      case measure => simp [intOf]; omega
                  · have HX3 := Lib.hid (hf14.out.trans hf2.out (fun _ h => h.elim))
                    go_wp2_with fail
                    go_roundw
                    case rel => exact ⟨i + 1, by omega, by go_num, Lib.hid (by
                      have hq : Fr (fun _ => False) w9 wr := H13.out.1.trans HX3.out (fun _ h => h.elim)
                      exact ⟨⟨s1, t1, HTW.out.1.quiet hq, HTW.out.2.1⟩, HLI.out.fr.trans (HTW.out.2.2.trans hq (fun _ h => h.elim)) (fun k hk => .inr (Nat.le_trans HLI.out.zz hk)), HLI.out.zz⟩)⟩
                    case measure => simp [intOf]; omega
        · obtain rfl : i = n := by omega
          go_wp2_with fail
          go_ret
          exact ⟨rfl, HLI.out.fr⟩
end
end Go.Proofs.Yteockhemeneioaa
