/- Contract of spencelaw03.within, where all are within. Printed by gen_within.py (wip/gen). -/
import Derived.Test.YtdmlalnekjihfaaSortOps
namespace Go.Proofs.Ytdmlalnekjihfaa
open Go.RowKit Go.ChangeShapes
set_option linter.unusedVariables false

def sameX (x y : PathX) : Bool := sameP x.h x.n y.h y.n
theorem sameX_eq (x y : PathX) : sameX x y = decide (x = y) := by
  rw [sameX, sameP, decide_eq_decide]
  exact ⟨fun h => PathX.ext h.1 h.2, fun h => by rw [h]; exact ⟨rfl, rfl⟩⟩
theorem mem_take_succ (L : List PathX) (x : PathX) (j : Nat) (h : j < L.length) : decide (x ∈ L.take (j + 1)) = (decide (x ∈ L.take j) || sameX x L[j]) := by
  rw [sameX_eq, List.take_succ_eq_append_getElem h, Bool.eq_iff_iff, decide_eq_true_iff, Bool.or_eq_true, decide_eq_true_iff, decide_eq_true_iff, List.mem_append, List.mem_singleton]
def WiR (b off n cap kx b2 off2 n2 cap2 jx : Nat) (CX CY : Array Value) (bl : Bool) (i : Nat) (v : Value) (W : World) : Prop :=
  match i with
  | 0 => v = .bool false
  | 1 => v = .bool false
  | 2 => v = .slice (some ⟨b, off, none⟩) n cap
  | 3 => v = .int .i64 (kx : Int)
  | 4 => v = .pointer (some ⟨b, off + kx * 21, none⟩)
  | 5 => v = .agg CX
  | 6 => v = .slice (some ⟨b2, off2, none⟩) n2 cap2
  | 7 => v = .int .i64 (jx : Int)
  | 8 => v = .pointer (some ⟨b2, off2 + jx * 21, none⟩)
  | 9 => v = .agg CY
  | 10 => v = .bool bl
  | 11 => v = .bool bl
  | _ => True
theorem WiR.ext (b off n cap kx b2 off2 n2 cap2 jx : Nat) (CX CY : Array Value) (bl : Bool) : ∀ (j : Nat) (u : Value) (W W' : World), Fr (fun _ => False) W W' → WiR b off n cap kx b2 off2 n2 cap2 jx CX CY bl j u W → WiR b off n cap kx b2 off2 n2 cap2 jx CX CY bl j u W'
  | 0, u, W, W', hf, h => h
  | 1, u, W, W', hf, h => h
  | 2, u, W, W', hf, h => h
  | 3, u, W, W', hf, h => h
  | 4, u, W, W', hf, h => h
  | 5, u, W, W', hf, h => h
  | 6, u, W, W', hf, h => h
  | 7, u, W, W', hf, h => h
  | 8, u, W, W', hf, h => h
  | 9, u, W, W', hf, h => h
  | 10, u, W, W', hf, h => h
  | 11, u, W, W', hf, h => h
  | _ + 12, u, W, W', hf, h => trivial

set_option maxRecDepth 100000 in
set_option maxHeartbeats 8000000 in
theorem within_any {F G : Nat → Prop} (w : World) (v u : Value) (X Y : List PathX) (hv : PathsIn F w v X) (hu : PathsIn G w u Y) (hX : X.length ≤ 1000000) (hY : Y.length ≤ 1000000) (hs : ∀ x ∈ X, x ∈ Y) :
    Calls Try.prog 23 #[v, u] w fun e w' => e = .returned (.bool true) ∧ Fr (fun _ => False) w w' := by
  obtain ⟨ao, cap, rfl, hlc, hcm, hn0, hrow⟩ := hv
  obtain ⟨ao2, cap2, rfl, hlc2, hcm2, hn02, hrow2⟩ := hu
  have HROW := Lib.hid hrow
  have HROW2 := Lib.hid hrow2
  have HS := Lib.hid hs
  unfold maxLen at hcm hcm2
  have H0 := Lib.hid (Fr.refl (fun _ => False) w)
  clear hn0 hn02 hrow hrow2 hs
  obtain ⟨n, hn⟩ : ∃ n, n = X.length := ⟨_, rfl⟩
  obtain ⟨n2, hn2⟩ : ∃ n, n = Y.length := ⟨_, rfl⟩
  rw [← hn] at hlc hX ⊢
  rw [← hn2] at hlc2 hY ⊢
  have HN := Lib.hid hn
  have HN2 := Lib.hid hn2
  clear hn hn2
  go_enter Try.func23, Try.ntmps23
  go_wp2_with fail
  go_loopw [5, 6, 7] (fun iv fv jv wr => ∃ kx : Nat, kx ≤ n ∧ iv = .int .i64 kx ∧ Hid (Fr (fun _ => False) w wr)) (fun iv _ _ _ => n - (intOf iv).toNat)
  case atStart => exact ⟨0, by omega, rfl, H0⟩
  case round =>
    clear H0
    obtain ⟨kx, hkx, rfl, HF⟩ := hrel
    by_cases hlt : kx < n
    · have hil : kx < X.length := by rw [← HN.out]; exact hlt
      obtain ⟨x, hx⟩ : ∃ x, x = X[kx] := ⟨_, rfl⟩
      obtain ⟨b, off, rfl, _, hrg⟩ := HROW.out (by rintro rfl; simp at hil)
      have hrx := hrg kx hil
      rw [← hx] at hrx
      have HRX := Lib.hid hrx
      have HXY := Lib.hid (show x ∈ Y from HS.out x (by rw [hx]; exact List.getElem_mem _))
      have hd : decide ((kx : Int) < (n : Int)) = true := by rw [decide_eq_true_iff]; omega
      have HIN := Lib.hid hlt
      have H1 := Lib.hid (show false = decide (x ∈ Y.take 0) by simp)
      clear hx hil hrg hrx
      go_wp2_with fail
      go_loopw [6, 7] (fun fv jv wi => ∃ (jx : Nat) (f : Bool), jx ≤ n2 ∧ fv = .bool f ∧ jv = .int .i64 jx ∧ Hid (f = decide (x ∈ Y.take jx)) ∧ Hid (Fr (fun _ => False) w wi)) (fun _ jv _ => n2 - (intOf jv).toNat)
      case atStart => exact ⟨0, false, by omega, rfl, rfl, H1, HF⟩
      case round =>
        clear H1 HF
        obtain ⟨jx, f, hj, rfl, rfl, HFB, HF2⟩ := hrel
        by_cases hlt2 : jx < n2
        · have hjl : jx < Y.length := by rw [← HN2.out]; exact hlt2
          obtain ⟨y, hy⟩ : ∃ y, y = Y[jx] := ⟨_, rfl⟩
          obtain ⟨b2, off2, rfl, _, hrg2⟩ := HROW2.out (by rintro rfl; simp at hjl)
          have hry := hrg2 jx hjl
          have hst := mem_take_succ Y x jx hjl
          rw [← hy] at hry hst
          have HRY := Lib.hid hry
          have hd2 : decide ((jx : Int) < (n2 : Int)) = true := by rw [decide_eq_true_iff]; omega
          have HJN := Lib.hid hlt2
          obtain ⟨CX, hCX⟩ : ∃ C, C = pathC x.h x.n := ⟨_, rfl⟩
          obtain ⟨CY, hCY⟩ : ∃ C, C = pathC y.h y.n := ⟨_, rfl⟩
          have LDX := Lib.hid (fun W (hW : Fr (fun _ => False) wr W) => show (Instr.loadAt 25 (.pointer (some ⟨b, off + kx * 21, none⟩))).run Try.prog W = .ok (.agg CX) W by rw [hCX]; exact load_mid_path W b _ x (hW.range (HF2.out.range HRX.out (fun h => h)) (fun h => h)))
          have LDY := Lib.hid (fun W (hW : Fr (fun _ => False) wr W) => show (Instr.loadAt 25 (.pointer (some ⟨b2, off2 + jx * 21, none⟩))).run Try.prog W = .ok (.agg CY) W by rw [hCY]; exact load_mid_path W b2 _ y (hW.range (HF2.out.range HRY.out (fun h => h)) (fun h => h)))
          rw [← HFB.out] at hst
          have HST := Lib.hid hst
          clear hy hjl hrg2 hry hst
          cases f with
          | true =>
            clear hCX hCY
            go_wp2_with fail
            go_quiet (fail)
            have HFN := Lib.hid (HF2.out.drewN nq)
            have HNX := Lib.hid (HST.out.trans (by rfl))
            go_wp2
            go_roundw
            case rel => exact ⟨jx + 1, true, by omega, rfl, by go_num, Lib.hid HNX.out.symm, HFN⟩
            case measure => simp [intOf]; omega
          | false =>
            have SAME := Lib.hid (Bool.false_or (sameX x y))
            cases hbl : sameX x y with
            | true =>
              have EQX := Lib.hid (fun W => show (binOp .eql 25 (.agg CX) (.agg CY)).run Try.prog W = .ok (.bool true) W by rw [hCX, hCY, ← hbl]; exact run_eql_path W x.h x.n y.h y.n x.hl y.hl)
              have HBL := Lib.hid hbl
              clear hCX hCY hbl
              go_wp2_with fail
              refine wp_region_inv 12 (by kernel_rfl) (by kernel_rfl) (fun W => Fr (fun _ => False) wr W) (WiR b off n cap kx b2 off2 n2 cap2 jx CX CY true) (fun _ _ _ _ => True) (Fr (fun _ => False)) (WiR.ext b off n cap kx b2 off2 n2 cap2 jx CX CY true) (Fr.refl _ _).drew ?_ ?_
              · intro i hi o ho
                replace hi : i < 12 := hi
                obtain rfl | rfl | rfl | rfl | rfl | rfl | rfl | rfl | rfl | rfl | rfl | rfl : i = 0 ∨ i = 1 ∨ i = 2 ∨ i = 3 ∨ i = 4 ∨ i = 5 ∨ i = 6 ∨ i = 7 ∨ i = 8 ∨ i = 9 ∨ i = 10 ∨ i = 11 := by omega
                · simp only [List.getElem?_cons_zero, Option.some.injEq] at ho
                  subst ho
                  intro a W vs hB hS hE hU
                  refine wpG_plain rfl ?_
                  have v6 : a.eval (.tmp 6) = .bool false := (hU 6 (by kernel_rfl)).trans rfl
                  clear hE hU
                  exact wp_value_inv (w' := W) (.bool false) (op_move rfl v6) ⟨_, rfl, hB, Fr.refl _ _, rfl, fun _ _ _ _ _ => trivial⟩
                · simp only [List.getElem?_cons_zero, List.getElem?_cons_succ, Option.some.injEq] at ho
                  subst ho
                  intro a W vs hB hS hE hU
                  refine wpG_plain rfl ?_
                  obtain ⟨r0, e20⟩ := hE 0 20 (by kernel_rfl) (by kernel_rfl)
                  have v20 : a.eval (.tmp 20) = .bool false := e20.trans r0
                  clear hE hU
                  exact wp_value_inv (w' := W) (.bool false) (op_move rfl v20) ⟨_, rfl, hB, Fr.refl _ _, rfl, fun _ _ _ _ _ => trivial⟩
                · simp only [List.getElem?_cons_zero, List.getElem?_cons_succ, Option.some.injEq] at ho
                  subst ho
                  intro a W vs hB hS hE hU
                  obtain ⟨r1, e21⟩ := hE 1 21 (by kernel_rfl) (by kernel_rfl)
                  have v21 : a.eval (.tmp 21) = .bool false := e21.trans r1
                  refine wpG_yes 1 false 21 rfl (by kernel_rfl) (by rw [hS]; simp) v21 ?_
                  have v0 : a.eval (.tmp 0) = .slice (some ⟨b, off, none⟩) n cap := (hU 0 (by kernel_rfl)).trans rfl
                  clear hE hU
                  exact wp_value_inv (w' := W) (.slice (some ⟨b, off, none⟩) n cap) (op_move rfl v0) ⟨_, rfl, hB, Fr.refl _ _, rfl, fun _ _ _ _ _ => trivial⟩
                · simp only [List.getElem?_cons_zero, List.getElem?_cons_succ, Option.some.injEq] at ho
                  subst ho
                  intro a W vs hB hS hE hU
                  obtain ⟨r1, e21⟩ := hE 1 21 (by kernel_rfl) (by kernel_rfl)
                  have v21 : a.eval (.tmp 21) = .bool false := e21.trans r1
                  refine wpG_yes 1 false 21 rfl (by kernel_rfl) (by rw [hS]; simp) v21 ?_
                  have v5 : a.eval (.tmp 5) = .int .i64 (kx : Int) := (hU 5 (by kernel_rfl)).trans rfl
                  clear hE hU
                  exact wp_value_inv (w' := W) (.int .i64 (kx : Int)) (op_move rfl v5) ⟨_, rfl, hB, Fr.refl _ _, rfl, fun _ _ _ _ _ => trivial⟩
                · simp only [List.getElem?_cons_zero, List.getElem?_cons_succ, Option.some.injEq] at ho
                  subst ho
                  intro a W vs hB hS hE hU
                  obtain ⟨r1, e21⟩ := hE 1 21 (by kernel_rfl) (by kernel_rfl)
                  have v21 : a.eval (.tmp 21) = .bool false := e21.trans r1
                  refine wpG_yes 1 false 21 rfl (by kernel_rfl) (by rw [hS]; simp) v21 ?_
                  obtain ⟨r2, e22⟩ := hE 2 22 (by kernel_rfl) (by kernel_rfl)
                  have v22 : a.eval (.tmp 22) = .slice (some ⟨b, off, none⟩) n cap := e22.trans r2
                  obtain ⟨r3, e23⟩ := hE 3 23 (by kernel_rfl) (by kernel_rfl)
                  have v23 : a.eval (.tmp 23) = .int .i64 (kx : Int) := e23.trans r3
                  clear hE hU
                  exact wp_value_inv (w' := W) (.pointer (some ⟨b, off + kx * 21, none⟩)) (op_indexAddr rfl v22 v23 (run_index_paths W b off n cap kx HIN.out)) ⟨_, rfl, hB, Fr.refl _ _, rfl, fun _ _ _ _ _ => trivial⟩
                · simp only [List.getElem?_cons_zero, List.getElem?_cons_succ, Option.some.injEq] at ho
                  subst ho
                  intro a W vs hB hS hE hU
                  obtain ⟨r1, e21⟩ := hE 1 21 (by kernel_rfl) (by kernel_rfl)
                  have v21 : a.eval (.tmp 21) = .bool false := e21.trans r1
                  refine wpG_yes 1 false 21 rfl (by kernel_rfl) (by rw [hS]; simp) v21 ?_
                  obtain ⟨r4, e24⟩ := hE 4 24 (by kernel_rfl) (by kernel_rfl)
                  have v24 : a.eval (.tmp 24) = .pointer (some ⟨b, off + kx * 21, none⟩) := e24.trans r4
                  clear hE hU
                  exact wp_value_inv (w' := W) (.agg CX) (op_loadAt rfl v24 (LDX.out W hB)) ⟨_, rfl, hB, Fr.refl _ _, rfl, fun _ _ _ _ _ => trivial⟩
                · simp only [List.getElem?_cons_zero, List.getElem?_cons_succ, Option.some.injEq] at ho
                  subst ho
                  intro a W vs hB hS hE hU
                  obtain ⟨r1, e21⟩ := hE 1 21 (by kernel_rfl) (by kernel_rfl)
                  have v21 : a.eval (.tmp 21) = .bool false := e21.trans r1
                  refine wpG_yes 1 false 21 rfl (by kernel_rfl) (by rw [hS]; simp) v21 ?_
                  have v1 : a.eval (.tmp 1) = .slice (some ⟨b2, off2, none⟩) n2 cap2 := (hU 1 (by kernel_rfl)).trans rfl
                  clear hE hU
                  exact wp_value_inv (w' := W) (.slice (some ⟨b2, off2, none⟩) n2 cap2) (op_move rfl v1) ⟨_, rfl, hB, Fr.refl _ _, rfl, fun _ _ _ _ _ => trivial⟩
                · simp only [List.getElem?_cons_zero, List.getElem?_cons_succ, Option.some.injEq] at ho
                  subst ho
                  intro a W vs hB hS hE hU
                  obtain ⟨r1, e21⟩ := hE 1 21 (by kernel_rfl) (by kernel_rfl)
                  have v21 : a.eval (.tmp 21) = .bool false := e21.trans r1
                  refine wpG_yes 1 false 21 rfl (by kernel_rfl) (by rw [hS]; simp) v21 ?_
                  have v7 : a.eval (.tmp 7) = .int .i64 (jx : Int) := (hU 7 (by kernel_rfl)).trans rfl
                  clear hE hU
                  exact wp_value_inv (w' := W) (.int .i64 (jx : Int)) (op_move rfl v7) ⟨_, rfl, hB, Fr.refl _ _, rfl, fun _ _ _ _ _ => trivial⟩
                · simp only [List.getElem?_cons_zero, List.getElem?_cons_succ, Option.some.injEq] at ho
                  subst ho
                  intro a W vs hB hS hE hU
                  obtain ⟨r1, e21⟩ := hE 1 21 (by kernel_rfl) (by kernel_rfl)
                  have v21 : a.eval (.tmp 21) = .bool false := e21.trans r1
                  refine wpG_yes 1 false 21 rfl (by kernel_rfl) (by rw [hS]; simp) v21 ?_
                  obtain ⟨r6, e26⟩ := hE 6 26 (by kernel_rfl) (by kernel_rfl)
                  have v26 : a.eval (.tmp 26) = .slice (some ⟨b2, off2, none⟩) n2 cap2 := e26.trans r6
                  obtain ⟨r7, e27⟩ := hE 7 27 (by kernel_rfl) (by kernel_rfl)
                  have v27 : a.eval (.tmp 27) = .int .i64 (jx : Int) := e27.trans r7
                  clear hE hU
                  exact wp_value_inv (w' := W) (.pointer (some ⟨b2, off2 + jx * 21, none⟩)) (op_indexAddr rfl v26 v27 (run_index_paths W b2 off2 n2 cap2 jx HJN.out)) ⟨_, rfl, hB, Fr.refl _ _, rfl, fun _ _ _ _ _ => trivial⟩
                · simp only [List.getElem?_cons_zero, List.getElem?_cons_succ, Option.some.injEq] at ho
                  subst ho
                  intro a W vs hB hS hE hU
                  obtain ⟨r1, e21⟩ := hE 1 21 (by kernel_rfl) (by kernel_rfl)
                  have v21 : a.eval (.tmp 21) = .bool false := e21.trans r1
                  refine wpG_yes 1 false 21 rfl (by kernel_rfl) (by rw [hS]; simp) v21 ?_
                  obtain ⟨r8, e28⟩ := hE 8 28 (by kernel_rfl) (by kernel_rfl)
                  have v28 : a.eval (.tmp 28) = .pointer (some ⟨b2, off2 + jx * 21, none⟩) := e28.trans r8
                  clear hE hU
                  exact wp_value_inv (w' := W) (.agg CY) (op_loadAt rfl v28 (LDY.out W hB)) ⟨_, rfl, hB, Fr.refl _ _, rfl, fun _ _ _ _ _ => trivial⟩
                · simp only [List.getElem?_cons_zero, List.getElem?_cons_succ, Option.some.injEq] at ho
                  subst ho
                  intro a W vs hB hS hE hU
                  obtain ⟨r1, e21⟩ := hE 1 21 (by kernel_rfl) (by kernel_rfl)
                  have v21 : a.eval (.tmp 21) = .bool false := e21.trans r1
                  refine wpG_yes 1 false 21 rfl (by kernel_rfl) (by rw [hS]; simp) v21 ?_
                  obtain ⟨r5, e25⟩ := hE 5 25 (by kernel_rfl) (by kernel_rfl)
                  have v25 : a.eval (.tmp 25) = .agg CX := e25.trans r5
                  obtain ⟨r9, e29⟩ := hE 9 29 (by kernel_rfl) (by kernel_rfl)
                  have v29 : a.eval (.tmp 29) = .agg CY := e29.trans r9
                  clear hE hU
                  exact wp_value_inv (w' := W) (.bool true) (op_bin rfl v25 v29 (guard_path W _ _ _ _ _) (EQX.out W)) ⟨_, rfl, hB, Fr.refl _ _, rfl, fun _ _ _ _ _ => trivial⟩
                · simp only [List.getElem?_cons_zero, List.getElem?_cons_succ, Option.some.injEq] at ho
                  subst ho
                  intro a W vs hB hS hE hU
                  refine wpG_plain rfl ?_
                  obtain ⟨r1, e21⟩ := hE 1 21 (by kernel_rfl) (by kernel_rfl)
                  have v21 : a.eval (.tmp 21) = .bool false := e21.trans r1
                  obtain ⟨r10, e30⟩ := hE 10 30 (by kernel_rfl) (by kernel_rfl)
                  have v30 : a.eval (.tmp 30) = .bool true := e30.trans r10
                  clear hE hU
                  exact wp_value_inv (w' := W) (.bool true) (op_pick rfl v21 (by simp only [Bool.false_eq_true, if_false]; exact v30)) ⟨_, rfl, hB, Fr.refl _ _, rfl, fun _ _ _ _ _ => trivial⟩
              · intro vs Wa hB0 hR0 hD
                have rL : vs 11 = .bool true := hR0 11 (by decide)
                have HB := Lib.hid hB0
                clear hR0 hD hB0
                simp only [acts, if_true, dstAt, List.getElem?_cons_zero, List.getElem?_cons_succ, Option.bind_some, Act.put, List.setIfInBounds_toArray, List.set_cons_succ, List.set_cons_zero, List.drop_succ_cons, List.drop_zero]
                simp only [rL]
                clear rL
                have HFN := Lib.hid (HF2.out.trans HB.out (fun _ h => h.elim))
                have HNX := Lib.hid (HST.out.trans (by rw [SAME.out, HBL.out]))
                go_wp2
                go_roundw
                case rel => exact ⟨jx + 1, true, by omega, rfl, by go_num, Lib.hid HNX.out.symm, HFN⟩
                case measure => simp [intOf]; omega
            | false =>
              have EQX := Lib.hid (fun W => show (binOp .eql 25 (.agg CX) (.agg CY)).run Try.prog W = .ok (.bool false) W by rw [hCX, hCY, ← hbl]; exact run_eql_path W x.h x.n y.h y.n x.hl y.hl)
              have HBL := Lib.hid hbl
              clear hCX hCY hbl
              go_wp2_with fail
              refine wp_region_inv 12 (by kernel_rfl) (by kernel_rfl) (fun W => Fr (fun _ => False) wr W) (WiR b off n cap kx b2 off2 n2 cap2 jx CX CY false) (fun _ _ _ _ => True) (Fr (fun _ => False)) (WiR.ext b off n cap kx b2 off2 n2 cap2 jx CX CY false) (Fr.refl _ _).drew ?_ ?_
              · intro i hi o ho
                replace hi : i < 12 := hi
                obtain rfl | rfl | rfl | rfl | rfl | rfl | rfl | rfl | rfl | rfl | rfl | rfl : i = 0 ∨ i = 1 ∨ i = 2 ∨ i = 3 ∨ i = 4 ∨ i = 5 ∨ i = 6 ∨ i = 7 ∨ i = 8 ∨ i = 9 ∨ i = 10 ∨ i = 11 := by omega
                · simp only [List.getElem?_cons_zero, Option.some.injEq] at ho
                  subst ho
                  intro a W vs hB hS hE hU
                  refine wpG_plain rfl ?_
                  have v6 : a.eval (.tmp 6) = .bool false := (hU 6 (by kernel_rfl)).trans rfl
                  clear hE hU
                  exact wp_value_inv (w' := W) (.bool false) (op_move rfl v6) ⟨_, rfl, hB, Fr.refl _ _, rfl, fun _ _ _ _ _ => trivial⟩
                · simp only [List.getElem?_cons_zero, List.getElem?_cons_succ, Option.some.injEq] at ho
                  subst ho
                  intro a W vs hB hS hE hU
                  refine wpG_plain rfl ?_
                  obtain ⟨r0, e20⟩ := hE 0 20 (by kernel_rfl) (by kernel_rfl)
                  have v20 : a.eval (.tmp 20) = .bool false := e20.trans r0
                  clear hE hU
                  exact wp_value_inv (w' := W) (.bool false) (op_move rfl v20) ⟨_, rfl, hB, Fr.refl _ _, rfl, fun _ _ _ _ _ => trivial⟩
                · simp only [List.getElem?_cons_zero, List.getElem?_cons_succ, Option.some.injEq] at ho
                  subst ho
                  intro a W vs hB hS hE hU
                  obtain ⟨r1, e21⟩ := hE 1 21 (by kernel_rfl) (by kernel_rfl)
                  have v21 : a.eval (.tmp 21) = .bool false := e21.trans r1
                  refine wpG_yes 1 false 21 rfl (by kernel_rfl) (by rw [hS]; simp) v21 ?_
                  have v0 : a.eval (.tmp 0) = .slice (some ⟨b, off, none⟩) n cap := (hU 0 (by kernel_rfl)).trans rfl
                  clear hE hU
                  exact wp_value_inv (w' := W) (.slice (some ⟨b, off, none⟩) n cap) (op_move rfl v0) ⟨_, rfl, hB, Fr.refl _ _, rfl, fun _ _ _ _ _ => trivial⟩
                · simp only [List.getElem?_cons_zero, List.getElem?_cons_succ, Option.some.injEq] at ho
                  subst ho
                  intro a W vs hB hS hE hU
                  obtain ⟨r1, e21⟩ := hE 1 21 (by kernel_rfl) (by kernel_rfl)
                  have v21 : a.eval (.tmp 21) = .bool false := e21.trans r1
                  refine wpG_yes 1 false 21 rfl (by kernel_rfl) (by rw [hS]; simp) v21 ?_
                  have v5 : a.eval (.tmp 5) = .int .i64 (kx : Int) := (hU 5 (by kernel_rfl)).trans rfl
                  clear hE hU
                  exact wp_value_inv (w' := W) (.int .i64 (kx : Int)) (op_move rfl v5) ⟨_, rfl, hB, Fr.refl _ _, rfl, fun _ _ _ _ _ => trivial⟩
                · simp only [List.getElem?_cons_zero, List.getElem?_cons_succ, Option.some.injEq] at ho
                  subst ho
                  intro a W vs hB hS hE hU
                  obtain ⟨r1, e21⟩ := hE 1 21 (by kernel_rfl) (by kernel_rfl)
                  have v21 : a.eval (.tmp 21) = .bool false := e21.trans r1
                  refine wpG_yes 1 false 21 rfl (by kernel_rfl) (by rw [hS]; simp) v21 ?_
                  obtain ⟨r2, e22⟩ := hE 2 22 (by kernel_rfl) (by kernel_rfl)
                  have v22 : a.eval (.tmp 22) = .slice (some ⟨b, off, none⟩) n cap := e22.trans r2
                  obtain ⟨r3, e23⟩ := hE 3 23 (by kernel_rfl) (by kernel_rfl)
                  have v23 : a.eval (.tmp 23) = .int .i64 (kx : Int) := e23.trans r3
                  clear hE hU
                  exact wp_value_inv (w' := W) (.pointer (some ⟨b, off + kx * 21, none⟩)) (op_indexAddr rfl v22 v23 (run_index_paths W b off n cap kx HIN.out)) ⟨_, rfl, hB, Fr.refl _ _, rfl, fun _ _ _ _ _ => trivial⟩
                · simp only [List.getElem?_cons_zero, List.getElem?_cons_succ, Option.some.injEq] at ho
                  subst ho
                  intro a W vs hB hS hE hU
                  obtain ⟨r1, e21⟩ := hE 1 21 (by kernel_rfl) (by kernel_rfl)
                  have v21 : a.eval (.tmp 21) = .bool false := e21.trans r1
                  refine wpG_yes 1 false 21 rfl (by kernel_rfl) (by rw [hS]; simp) v21 ?_
                  obtain ⟨r4, e24⟩ := hE 4 24 (by kernel_rfl) (by kernel_rfl)
                  have v24 : a.eval (.tmp 24) = .pointer (some ⟨b, off + kx * 21, none⟩) := e24.trans r4
                  clear hE hU
                  exact wp_value_inv (w' := W) (.agg CX) (op_loadAt rfl v24 (LDX.out W hB)) ⟨_, rfl, hB, Fr.refl _ _, rfl, fun _ _ _ _ _ => trivial⟩
                · simp only [List.getElem?_cons_zero, List.getElem?_cons_succ, Option.some.injEq] at ho
                  subst ho
                  intro a W vs hB hS hE hU
                  obtain ⟨r1, e21⟩ := hE 1 21 (by kernel_rfl) (by kernel_rfl)
                  have v21 : a.eval (.tmp 21) = .bool false := e21.trans r1
                  refine wpG_yes 1 false 21 rfl (by kernel_rfl) (by rw [hS]; simp) v21 ?_
                  have v1 : a.eval (.tmp 1) = .slice (some ⟨b2, off2, none⟩) n2 cap2 := (hU 1 (by kernel_rfl)).trans rfl
                  clear hE hU
                  exact wp_value_inv (w' := W) (.slice (some ⟨b2, off2, none⟩) n2 cap2) (op_move rfl v1) ⟨_, rfl, hB, Fr.refl _ _, rfl, fun _ _ _ _ _ => trivial⟩
                · simp only [List.getElem?_cons_zero, List.getElem?_cons_succ, Option.some.injEq] at ho
                  subst ho
                  intro a W vs hB hS hE hU
                  obtain ⟨r1, e21⟩ := hE 1 21 (by kernel_rfl) (by kernel_rfl)
                  have v21 : a.eval (.tmp 21) = .bool false := e21.trans r1
                  refine wpG_yes 1 false 21 rfl (by kernel_rfl) (by rw [hS]; simp) v21 ?_
                  have v7 : a.eval (.tmp 7) = .int .i64 (jx : Int) := (hU 7 (by kernel_rfl)).trans rfl
                  clear hE hU
                  exact wp_value_inv (w' := W) (.int .i64 (jx : Int)) (op_move rfl v7) ⟨_, rfl, hB, Fr.refl _ _, rfl, fun _ _ _ _ _ => trivial⟩
                · simp only [List.getElem?_cons_zero, List.getElem?_cons_succ, Option.some.injEq] at ho
                  subst ho
                  intro a W vs hB hS hE hU
                  obtain ⟨r1, e21⟩ := hE 1 21 (by kernel_rfl) (by kernel_rfl)
                  have v21 : a.eval (.tmp 21) = .bool false := e21.trans r1
                  refine wpG_yes 1 false 21 rfl (by kernel_rfl) (by rw [hS]; simp) v21 ?_
                  obtain ⟨r6, e26⟩ := hE 6 26 (by kernel_rfl) (by kernel_rfl)
                  have v26 : a.eval (.tmp 26) = .slice (some ⟨b2, off2, none⟩) n2 cap2 := e26.trans r6
                  obtain ⟨r7, e27⟩ := hE 7 27 (by kernel_rfl) (by kernel_rfl)
                  have v27 : a.eval (.tmp 27) = .int .i64 (jx : Int) := e27.trans r7
                  clear hE hU
                  exact wp_value_inv (w' := W) (.pointer (some ⟨b2, off2 + jx * 21, none⟩)) (op_indexAddr rfl v26 v27 (run_index_paths W b2 off2 n2 cap2 jx HJN.out)) ⟨_, rfl, hB, Fr.refl _ _, rfl, fun _ _ _ _ _ => trivial⟩
                · simp only [List.getElem?_cons_zero, List.getElem?_cons_succ, Option.some.injEq] at ho
                  subst ho
                  intro a W vs hB hS hE hU
                  obtain ⟨r1, e21⟩ := hE 1 21 (by kernel_rfl) (by kernel_rfl)
                  have v21 : a.eval (.tmp 21) = .bool false := e21.trans r1
                  refine wpG_yes 1 false 21 rfl (by kernel_rfl) (by rw [hS]; simp) v21 ?_
                  obtain ⟨r8, e28⟩ := hE 8 28 (by kernel_rfl) (by kernel_rfl)
                  have v28 : a.eval (.tmp 28) = .pointer (some ⟨b2, off2 + jx * 21, none⟩) := e28.trans r8
                  clear hE hU
                  exact wp_value_inv (w' := W) (.agg CY) (op_loadAt rfl v28 (LDY.out W hB)) ⟨_, rfl, hB, Fr.refl _ _, rfl, fun _ _ _ _ _ => trivial⟩
                · simp only [List.getElem?_cons_zero, List.getElem?_cons_succ, Option.some.injEq] at ho
                  subst ho
                  intro a W vs hB hS hE hU
                  obtain ⟨r1, e21⟩ := hE 1 21 (by kernel_rfl) (by kernel_rfl)
                  have v21 : a.eval (.tmp 21) = .bool false := e21.trans r1
                  refine wpG_yes 1 false 21 rfl (by kernel_rfl) (by rw [hS]; simp) v21 ?_
                  obtain ⟨r5, e25⟩ := hE 5 25 (by kernel_rfl) (by kernel_rfl)
                  have v25 : a.eval (.tmp 25) = .agg CX := e25.trans r5
                  obtain ⟨r9, e29⟩ := hE 9 29 (by kernel_rfl) (by kernel_rfl)
                  have v29 : a.eval (.tmp 29) = .agg CY := e29.trans r9
                  clear hE hU
                  exact wp_value_inv (w' := W) (.bool false) (op_bin rfl v25 v29 (guard_path W _ _ _ _ _) (EQX.out W)) ⟨_, rfl, hB, Fr.refl _ _, rfl, fun _ _ _ _ _ => trivial⟩
                · simp only [List.getElem?_cons_zero, List.getElem?_cons_succ, Option.some.injEq] at ho
                  subst ho
                  intro a W vs hB hS hE hU
                  refine wpG_plain rfl ?_
                  obtain ⟨r1, e21⟩ := hE 1 21 (by kernel_rfl) (by kernel_rfl)
                  have v21 : a.eval (.tmp 21) = .bool false := e21.trans r1
                  obtain ⟨r10, e30⟩ := hE 10 30 (by kernel_rfl) (by kernel_rfl)
                  have v30 : a.eval (.tmp 30) = .bool false := e30.trans r10
                  clear hE hU
                  exact wp_value_inv (w' := W) (.bool false) (op_pick rfl v21 (by simp only [Bool.false_eq_true, if_false]; exact v30)) ⟨_, rfl, hB, Fr.refl _ _, rfl, fun _ _ _ _ _ => trivial⟩
              · intro vs Wa hB0 hR0 hD
                have rL : vs 11 = .bool false := hR0 11 (by decide)
                have HB := Lib.hid hB0
                clear hR0 hD hB0
                simp only [acts, if_true, dstAt, List.getElem?_cons_zero, List.getElem?_cons_succ, Option.bind_some, Act.put, List.setIfInBounds_toArray, List.set_cons_succ, List.set_cons_zero, List.drop_succ_cons, List.drop_zero]
                simp only [rL]
                clear rL
                have HFN := Lib.hid (HF2.out.trans HB.out (fun _ h => h.elim))
                have HNX := Lib.hid (HST.out.trans (by rw [SAME.out, HBL.out]))
                go_wp2
                go_roundw
                case rel => exact ⟨jx + 1, false, by omega, rfl, by go_num, Lib.hid HNX.out.symm, HFN⟩
                case measure => simp [intOf]; omega
        · have hjn : jx = n2 := by omega
          have hd2 : decide ((jx : Int) < (n2 : Int)) = false := by rw [decide_eq_false_iff_not]; omega
          obtain rfl : f = true := by
            have h := HFB.out
            rw [List.take_of_length_le (by rw [← HN2.out]; omega)] at h
            rw [h]
            exact decide_eq_true HXY.out
          clear hjn HFB
          go_wp2_with fail
          go_roundw
          case rel => exact ⟨kx + 1, by omega, by go_num, HF2⟩
          case measure => simp [intOf]; omega
    · have hd : decide ((kx : Int) < (n : Int)) = false := by rw [decide_eq_false_iff_not]; omega
      go_wp2_with fail
      go_ret
      exact ⟨rfl, HF.out⟩
end Go.Proofs.Ytdmlalnekjihfaa
