/- Contract of spencelaw03.BaseSorts. Printed by gen_bsorts.py (wip/gen). -/
import Derived.Test.YtdmlalnekjihfaaSortS
namespace Go.Proofs.Ytdmlalnekjihfaa
open Go.RowKit Go.ChangeShapes
set_option linter.unusedVariables false

def S16 (b6 o6 c6 b7 o7 c7 m kx : Nat) (CX : Array Value) (i : Nat) (v : Value) (W : World) : Prop :=
  match i with
  | 0 => v = .slice (some ⟨b6, o6, none⟩) m c6
  | 1 => v = .int .i64 (kx : Int)
  | 2 => v = .pointer (some ⟨b6, o6 + kx * 21, none⟩)
  | 3 => v = .agg CX
  | 4 => v = .slice (some ⟨b7, o7, none⟩) m c7
  | 5 => v = .int .i64 (kx : Int)
  | 6 => v = .pointer (some ⟨b7, o7 + kx * 21, none⟩)
  | 7 => v = .agg CX
  | 8 => v = .bool false
  | _ => True
theorem S16.ext (b6 o6 c6 b7 o7 c7 m kx : Nat) (CX : Array Value) : ∀ (j : Nat) (u : Value) (W W' : World), Fr (fun _ => False) W W' → S16 b6 o6 c6 b7 o7 c7 m kx CX j u W → S16 b6 o6 c6 b7 o7 c7 m kx CX j u W'
  | 0, u, W, W', hf, h => h
  | 1, u, W, W', hf, h => h
  | 2, u, W, W', hf, h => h
  | 3, u, W, W', hf, h => h
  | 4, u, W, W', hf, h => h
  | 5, u, W, W', hf, h => h
  | 6, u, W, W', hf, h => h
  | 7, u, W, W', hf, h => h
  | 8, u, W, W', hf, h => h
  | _ + 9, u, W, W', hf, h => trivial

def S22 (b off n cap b5 o5 c5 gk kx : Nat) (CX CZ : Array Value) (bl : Bool) (i : Nat) (v : Value) (W : World) : Prop :=
  match i with
  | 0 => v = .slice (some ⟨b5, o5, none⟩) n c5
  | 1 => v = .int .i64 (kx : Int)
  | 2 => v = .pointer (some ⟨b5, o5 + kx * 21, none⟩)
  | 3 => v = .agg CX
  | 4 => v = .slice (some ⟨b, off, none⟩) n cap
  | 5 => v = .int .i64 (kx : Int)
  | 6 => v = .pointer (some ⟨b, off + kx * 21, none⟩)
  | 7 => v = .agg CX
  | 8 => v = .bool false
  | 9 => v = .bool false
  | 10 => v = .slice (some ⟨b, off, none⟩) n cap
  | 11 => v = .int .i64 (kx : Int)
  | 12 => v = .pointer (some ⟨b, off + kx * 21, none⟩)
  | 13 => v = .agg CX
  | 14 => v = .agg CZ
  | 15 => v = .bool bl
  | 16 => v = .slice (some ⟨b, off, none⟩) n cap
  | 17 => v = .int .i64 (kx : Int)
  | 18 => v = .pointer (some ⟨b, off + kx * 21, none⟩)
  | 19 => v = .agg CX
  | 20 => v = .agg CZ
  | 21 => v = .bool bl
  | 22 => v = .bool false
  | 23 => v = .bool false
  | _ => True
theorem S22.ext (b off n cap b5 o5 c5 gk kx : Nat) (CX CZ : Array Value) (bl : Bool) : ∀ (j : Nat) (u : Value) (W W' : World), Fr (fun _ => False) W W' → S22 b off n cap b5 o5 c5 gk kx CX CZ bl j u W → S22 b off n cap b5 o5 c5 gk kx CX CZ bl j u W'
  | 0, u, W, W', hf, h => h
  | 1, u, W, W', hf, h => h
  | 2, u, W, W', hf, h => h
  | 3, u, W, W', hf, h => h
  | 4, u, W, W', hf, h => h
  | 5, u, W, W', hf, h => h
  | 6, u, W, W', hf, h => h
  | 7, u, W, W', hf, h => h
  | 8, u, W, W', hf, h => h
  | 9, u, W, W', hf, h => h
  | 10, u, W, W', hf, h => h
  | 11, u, W, W', hf, h => h
  | 12, u, W, W', hf, h => h
  | 13, u, W, W', hf, h => h
  | 14, u, W, W', hf, h => h
  | 15, u, W, W', hf, h => h
  | 16, u, W, W', hf, h => h
  | 17, u, W, W', hf, h => h
  | 18, u, W, W', hf, h => h
  | 19, u, W, W', hf, h => h
  | 20, u, W, W', hf, h => h
  | 21, u, W, W', hf, h => h
  | 22, u, W, W', hf, h => h
  | 23, u, W, W', hf, h => h
  | _ + 24, u, W, W', hf, h => trivial

set_option maxRecDepth 100000 in
set_option maxHeartbeats 16000000 in
theorem baseSorts_any (w : World) (v : Value) (L : List PathX) (hv : PathsIn (fun k => k < w.heap.size) w v L) (hlen : L.length ≤ 140737488351232) (hNs : ∀ p ∈ L, p.n.size ≤ 140737488351232) :
    Calls Try.prog 4 #[v] w fun e w' => e = .returned (.bool true) ∧ Fr (fun _ => False) w w' := by
  have HV := Lib.hid hv
  obtain ⟨ao, cap, rfl, hlc, hcm, hn0, hrow⟩ := hv
  have HROW := Lib.hid hrow
  have HNS := Lib.hid hNs
  have H0 := Lib.hid (Fr.refl (fun _ => False) w)
  have HAW := Lib.hid (fun W => awake_any W)
  unfold maxLen at hcm
  clear hn0 hrow hNs
  obtain ⟨n, hn⟩ : ∃ n, n = L.length := ⟨_, rfl⟩
  rw [← hn] at hlc hlen HV ⊢
  have HN := Lib.hid hn
  have HS0 := Lib.hid (show 0 = sumN L 0 by simp [sumN])
  clear hn
  go_enter Try.func4, Try.ntmps4
  go_wp2_with fail
  go_loopw [3, 4] (fun sv iv wr => ∃ kx s : Nat, kx ≤ n ∧ kx ≤ 120 ∧ s ≤ kx * 140737488351232 ∧ sv = .int .i64 s ∧ iv = .int .i64 kx ∧ Hid (s = sumN L kx) ∧ Hid (Fr (fun _ => False) w wr)) (fun _ iv _ => n - (intOf iv).toNat)
  case atStart => exact ⟨0, 0, by omega, by omega, by omega, rfl, rfl, HS0, H0⟩
  case round =>
    clear H0 HS0
    obtain ⟨kx, s, hk, hk2, hs, rfl, rfl, HS, HF⟩ := hrel
    by_cases hlt : kx < n
    · have hd : decide ((kx : Int) < (n : Int)) = true := by rw [decide_eq_true_iff]; omega
      by_cases h120 : kx < 120
      · have hd2 : decide ((kx : Int) < 120) = true := by rw [decide_eq_true_iff]; omega
        have hil : kx < L.length := by rw [← HN.out]; exact hlt
        obtain ⟨x, hx⟩ : ∃ x, x = L[kx] := ⟨_, rfl⟩
        obtain ⟨b, off, rfl, _, hrg⟩ := HROW.out (by rintro rfl; simp at hil)
        have hr0 := HF.out.range (hrg kx hil) (fun h => h)
        have hst := sumN_succ L kx hil
        rw [← hx] at hr0 hst
        have hxn : x.n.size ≤ 140737488351232 := HNS.out x (by rw [hx]; exact List.getElem_mem _)
        have hc := name_cell hr0
        obtain ⟨N, hN⟩ : ∃ N, N = x.n := ⟨_, rfl⟩
        rw [← hN] at hc hxn hst
        rw [← HS.out] at hst
        have HST := Lib.hid hst
        have hkn : (kx : Int) < (n : Int) := by omega
        have hk0 : (0 : Int) ≤ (kx : Int) := by omega
        clear hx hil hrg hr0 hst hN
        go_wp2_with fail
        go_roundw
        case rel => exact ⟨kx + 1, s + N.size, by omega, by omega, by omega, by go_num, by go_num, Lib.hid HST.out.symm, HF⟩
        case measure => simp [intOf]; omega
      · have hd2 : decide ((kx : Int) < 120) = false := by rw [decide_eq_false_iff_not]; omega
        have hd3 : decide (120 < (n : Int)) = true := by rw [decide_eq_true_iff]; omega
        go_wp2_with (go_at_call 8; refine (HAW.out _).mono ?_; rintro e w4 ⟨rfl, hf4⟩; have HF4 := Lib.hid (HF.out.trans hf4 (fun _ h => h.elim)); clear hf4)
        go_ret
        exact ⟨rfl, HF4.out⟩
    · have hkn : kx = n := by omega
      have hn120 : n ≤ 120 := by omega
      have hd : decide ((kx : Int) < (n : Int)) = false := by rw [decide_eq_false_iff_not]; omega
      have hd3 : decide (120 < (n : Int)) = false := by rw [decide_eq_false_iff_not]; omega
      by_cases h2000 : 2000 < s
      · have hd4 : decide (2000 < (s : Int)) = true := by rw [decide_eq_true_iff]; omega
        go_wp2_with (go_at_call 8; refine (HAW.out _).mono ?_; rintro e w4 ⟨rfl, hf4⟩; have HF4 := Lib.hid (HF.out.trans hf4 (fun _ h => h.elim)); clear hf4)
        go_ret
        exact ⟨rfl, HF4.out⟩
      · have hd4 : decide (2000 < (s : Int)) = false := by rw [decide_eq_false_iff_not]; omega
        have hL6 : L.length ≤ 100000 := by rw [← HN.out]; omega
        have HL6 := Lib.hid hL6
        have HSO := Lib.hid (fun (W : World) (u : Value) (h : PathsIn (fun k => k < W.heap.size) W u L) => bSorted_any W u L h (fun k h => h) (by have := HL6.out; omega) HNS.out)
        have HRS := Lib.hid (fun (W : World) (u : Value) (h : PathsIn (fun k => k < W.heap.size) W u L) => rSorted_any W u L h (fun k h => h) HL6.out)
        have HW := Lib.hid (show PathsIn (fun k => k < w.heap.size) wr (.slice ao n cap) L from HV.out.keep HF.out (fun _ _ _ h => h))
        have HOM := Lib.hid (OwnP.made wr)
        have HW2 := Lib.hid (HW.out.keep ((Fr.refl (fun _ => False) wr).alloc (.cells #[] 25)) (fun _ _ _ h => h))
        clear hL6 HS hs h2000
        go_wp2_with (first
          | (refine wpList_value rfl (.slice (some ⟨wr.heap.size, 0, none⟩) 0 0) (wr.alloc (.cells #[] 25)) (op_rows (vs := #[]) rfl (by simp) (run_build_none wr)) ?_)
          | (refine wpList_append_paths (F := fun g => wr.heap.size ≤ g) (G := fun k => k < w.heap.size) _ rfl (.tmp 37) (.tmp 38) rfl (.slice (some ⟨wr.heap.size, 0, none⟩) 0 0) (.slice ao n cap) [] L rfl rfl HOM.out HW2.out (by have := HL6.out; simp only [List.length_nil]; omega) ?_; intro v5 w5 hown5 hgrow5 hblk5; (have HF5 := Lib.hid (made_grown HF.out hgrow5)); (have HP5 := Lib.hid (show PathsIn (fun k => k < w5.heap.size) w5 v5 L from hown5.paths.mono (G := fun k => k < w5.heap.size) (fun k h _ => h))); (have HW5 := Lib.hid (show PathsIn (fun k => k < w5.heap.size) w5 (.slice ao n cap) L from (HV.out.keep HF5.out (fun _ _ _ h => h)).mono (fun k h _ => h))); clear hown5 hgrow5 hblk5; obtain ⟨a5, c5, hv5, hl5, hcm5, _, hr5⟩ := HP5.out; rw [← HN.out] at hv5 hl5; subst hv5; (have HR5 := Lib.hid hr5); clear hr5)
          | (go_at_call 19; refine (HSO.out _ _ HP5.out).mono ?_; rintro e w6 ⟨u6, M, rfl, hp6, ha6, hm6, hf6⟩; obtain ⟨a6, c6, rfl, hl6, hcm6, _, hr6⟩ := hp6; (have HR6 := Lib.hid hr6); (have HQ6 := Lib.hid (And.intro ha6 hm6)); (have HF6 := Lib.hid (HF5.out.trans hf6 (fun _ h => h.elim))); (have HF56 := Lib.hid hf6); (have HW6 := Lib.hid (show PathsIn (fun k => k < w6.heap.size) w6 (.slice ao n cap) L from (HV.out.keep HF6.out (fun _ _ _ h => h)).mono (fun k h _ => h))); clear hr6 ha6 hm6 hf6)
          | (go_at_call 20; refine (HRS.out _ _ HW6.out).mono ?_; rintro e w7 ⟨u7, M7, rfl, hp7, ha7, hm7, hf7⟩; (have eM : M = M7 := HQ6.out.1.same lessX_strict ha7 (fun x => (HQ6.out.2 x).trans (hm7 x).symm)); subst eM; obtain ⟨a7, c7, rfl, hl7, hcm7, _, hr7⟩ := hp7; (have HR7 := Lib.hid hr7); (have HF7 := Lib.hid (HF6.out.trans hf7 (fun _ h => h.elim))); (have HF67 := Lib.hid hf7); clear hr7 ha7 hm7 hf7))
        have H07 := Lib.hid (Fr.refl (fun _ => False) w7)
        unfold maxLen at hcm5 hcm6 hcm7
        go_loopw [8] (fun iv wr => ∃ kx : Nat, kx ≤ M.length ∧ iv = .int .i64 kx ∧ Hid (Fr (fun _ => False) w7 wr)) (fun iv _ => M.length - (intOf iv).toNat)
        case atStart => exact ⟨0, by omega, rfl, H07⟩
        case round =>
          clear H07
          obtain ⟨kx, hk, rfl, HG⟩ := hrel
          by_cases hlt2 : kx < M.length
          · have hd : decide ((kx : Int) < (M.length : Int)) = true := by rw [decide_eq_true_iff]; omega
            obtain ⟨x, hx⟩ : ∃ x, x = M[kx] := ⟨_, rfl⟩
            have hM : M ≠ [] := by rintro rfl; simp at hlt2
            obtain ⟨b6, o6, rfl, _, hg6⟩ := HR6.out hM
            obtain ⟨b7, o7, rfl, _, hg7⟩ := HR7.out hM
            have hr6 := HG.out.range (HF67.out.range (hg6 kx hlt2) (fun h => h)) (fun h => h)
            have hr7 := HG.out.range (hg7 kx hlt2) (fun h => h)
            rw [← hx] at hr6 hr7
            obtain ⟨CX, hCX⟩ : ∃ C, C = pathC x.h x.n := ⟨_, rfl⟩
            have LD6 := Lib.hid (fun W (hW : Fr (fun _ => False) wr W) => show (Instr.loadAt 25 (.pointer (some ⟨b6, o6 + kx * 21, none⟩))).run Try.prog W = .ok (.agg CX) W by rw [hCX]; exact load_mid_path W b6 _ x (hW.range hr6 (fun h => h)))
            have LD7 := Lib.hid (fun W (hW : Fr (fun _ => False) wr W) => show (Instr.loadAt 25 (.pointer (some ⟨b7, o7 + kx * 21, none⟩))).run Try.prog W = .ok (.agg CX) W by rw [hCX]; exact load_mid_path W b7 _ x (hW.range hr7 (fun h => h)))
            have EQX := Lib.hid (fun W => show (binOp .neq 25 (.agg CX) (.agg CX)).run Try.prog W = .ok (.bool false) W by rw [hCX, run_neq_path W x.h x.n x.h x.n x.hl x.hl, sameP_refl]; rfl)
            have HIN := Lib.hid hlt2
            clear hx hM hg6 hg7 hr6 hr7 hCX
            go_wp2_with fail
            refine wp_region_inv 9 (by kernel_rfl) (by kernel_rfl) (fun W => Fr (fun _ => False) wr W) (S16 b6 o6 c6 b7 o7 c7 M.length kx CX) (fun _ _ _ _ => True) (Fr (fun _ => False)) (S16.ext b6 o6 c6 b7 o7 c7 M.length kx CX) (Fr.refl _ _).drew ?_ ?_
            · intro i hi o ho
              replace hi : i < 9 := hi
              obtain rfl | rfl | rfl | rfl | rfl | rfl | rfl | rfl | rfl : i = 0 ∨ i = 1 ∨ i = 2 ∨ i = 3 ∨ i = 4 ∨ i = 5 ∨ i = 6 ∨ i = 7 ∨ i = 8 := by omega
              · simp only [List.getElem?_cons_zero, Option.some.injEq] at ho
                subst ho
                intro a W vs hB hS hE hU
                refine wpG_plain rfl ?_
                have v6 : a.eval (.tmp 6) = .slice (some ⟨b6, o6, none⟩) M.length c6 := (hU 6 (by kernel_rfl)).trans rfl
                clear hE hU
                exact wp_value_inv (w' := W) (.slice (some ⟨b6, o6, none⟩) M.length c6) (op_move rfl v6) ⟨_, rfl, hB, Fr.refl _ _, rfl, fun _ _ _ _ _ => trivial⟩
              · simp only [List.getElem?_cons_zero, List.getElem?_cons_succ, Option.some.injEq] at ho
                subst ho
                intro a W vs hB hS hE hU
                refine wpG_plain rfl ?_
                have v8 : a.eval (.tmp 8) = .int .i64 (kx : Int) := (hU 8 (by kernel_rfl)).trans rfl
                clear hE hU
                exact wp_value_inv (w' := W) (.int .i64 (kx : Int)) (op_move rfl v8) ⟨_, rfl, hB, Fr.refl _ _, rfl, fun _ _ _ _ _ => trivial⟩
              · simp only [List.getElem?_cons_zero, List.getElem?_cons_succ, Option.some.injEq] at ho
                subst ho
                intro a W vs hB hS hE hU
                refine wpG_plain rfl ?_
                obtain ⟨r0, e55⟩ := hE 0 55 (by kernel_rfl) (by kernel_rfl)
                have v55 : a.eval (.tmp 55) = .slice (some ⟨b6, o6, none⟩) M.length c6 := e55.trans r0
                obtain ⟨r1, e56⟩ := hE 1 56 (by kernel_rfl) (by kernel_rfl)
                have v56 : a.eval (.tmp 56) = .int .i64 (kx : Int) := e56.trans r1
                clear hE hU
                exact wp_value_inv (w' := W) (.pointer (some ⟨b6, o6 + kx * 21, none⟩)) (op_indexAddr rfl v55 v56 (run_index_paths W b6 o6 M.length c6 kx HIN.out)) ⟨_, rfl, hB, Fr.refl _ _, rfl, fun _ _ _ _ _ => trivial⟩
              · simp only [List.getElem?_cons_zero, List.getElem?_cons_succ, Option.some.injEq] at ho
                subst ho
                intro a W vs hB hS hE hU
                refine wpG_plain rfl ?_
                obtain ⟨r2, e57⟩ := hE 2 57 (by kernel_rfl) (by kernel_rfl)
                have v57 : a.eval (.tmp 57) = .pointer (some ⟨b6, o6 + kx * 21, none⟩) := e57.trans r2
                clear hE hU
                exact wp_value_inv (w' := W) (.agg CX) (op_loadAt rfl v57 (LD6.out W hB)) ⟨_, rfl, hB, Fr.refl _ _, rfl, fun _ _ _ _ _ => trivial⟩
              · simp only [List.getElem?_cons_zero, List.getElem?_cons_succ, Option.some.injEq] at ho
                subst ho
                intro a W vs hB hS hE hU
                refine wpG_plain rfl ?_
                have v7 : a.eval (.tmp 7) = .slice (some ⟨b7, o7, none⟩) M.length c7 := (hU 7 (by kernel_rfl)).trans rfl
                clear hE hU
                exact wp_value_inv (w' := W) (.slice (some ⟨b7, o7, none⟩) M.length c7) (op_move rfl v7) ⟨_, rfl, hB, Fr.refl _ _, rfl, fun _ _ _ _ _ => trivial⟩
              · simp only [List.getElem?_cons_zero, List.getElem?_cons_succ, Option.some.injEq] at ho
                subst ho
                intro a W vs hB hS hE hU
                refine wpG_plain rfl ?_
                have v8 : a.eval (.tmp 8) = .int .i64 (kx : Int) := (hU 8 (by kernel_rfl)).trans rfl
                clear hE hU
                exact wp_value_inv (w' := W) (.int .i64 (kx : Int)) (op_move rfl v8) ⟨_, rfl, hB, Fr.refl _ _, rfl, fun _ _ _ _ _ => trivial⟩
              · simp only [List.getElem?_cons_zero, List.getElem?_cons_succ, Option.some.injEq] at ho
                subst ho
                intro a W vs hB hS hE hU
                refine wpG_plain rfl ?_
                obtain ⟨r4, e59⟩ := hE 4 59 (by kernel_rfl) (by kernel_rfl)
                have v59 : a.eval (.tmp 59) = .slice (some ⟨b7, o7, none⟩) M.length c7 := e59.trans r4
                obtain ⟨r5, e60⟩ := hE 5 60 (by kernel_rfl) (by kernel_rfl)
                have v60 : a.eval (.tmp 60) = .int .i64 (kx : Int) := e60.trans r5
                clear hE hU
                exact wp_value_inv (w' := W) (.pointer (some ⟨b7, o7 + kx * 21, none⟩)) (op_indexAddr rfl v59 v60 (run_index_paths W b7 o7 M.length c7 kx HIN.out)) ⟨_, rfl, hB, Fr.refl _ _, rfl, fun _ _ _ _ _ => trivial⟩
              · simp only [List.getElem?_cons_zero, List.getElem?_cons_succ, Option.some.injEq] at ho
                subst ho
                intro a W vs hB hS hE hU
                refine wpG_plain rfl ?_
                obtain ⟨r6, e61⟩ := hE 6 61 (by kernel_rfl) (by kernel_rfl)
                have v61 : a.eval (.tmp 61) = .pointer (some ⟨b7, o7 + kx * 21, none⟩) := e61.trans r6
                clear hE hU
                exact wp_value_inv (w' := W) (.agg CX) (op_loadAt rfl v61 (LD7.out W hB)) ⟨_, rfl, hB, Fr.refl _ _, rfl, fun _ _ _ _ _ => trivial⟩
              · simp only [List.getElem?_cons_zero, List.getElem?_cons_succ, Option.some.injEq] at ho
                subst ho
                intro a W vs hB hS hE hU
                refine wpG_plain rfl ?_
                obtain ⟨r3, e58⟩ := hE 3 58 (by kernel_rfl) (by kernel_rfl)
                have v58 : a.eval (.tmp 58) = .agg CX := e58.trans r3
                obtain ⟨r7, e62⟩ := hE 7 62 (by kernel_rfl) (by kernel_rfl)
                have v62 : a.eval (.tmp 62) = .agg CX := e62.trans r7
                clear hE hU
                exact wp_value_inv (w' := W) (.bool false) (op_bin rfl v58 v62 (guard_path W _ _ _ _ _) (EQX.out W)) ⟨_, rfl, hB, Fr.refl _ _, rfl, fun _ _ _ _ _ => trivial⟩
            · intro vs Wa hB0 hR0 hD
              have rL : vs 8 = .bool false := hR0 8 (by decide)
              have HB := Lib.hid hB0
              clear hR0 hD hB0
              simp only [acts, if_true, dstAt, List.getElem?_cons_zero, List.getElem?_cons_succ, Option.bind_some, Act.put, List.setIfInBounds_toArray, List.set_cons_succ, List.set_cons_zero, List.drop_succ_cons, List.drop_nil]
              simp only [rL]
              clear rL
              have HG2 := Lib.hid (HG.out.trans HB.out (fun _ h => h.elim))
              go_wp2
              go_roundw
              case rel => exact ⟨kx + 1, by omega, by go_num, HG2⟩
              case measure => simp [intOf]; omega
          · have hd : decide ((kx : Int) < (M.length : Int)) = false := by rw [decide_eq_false_iff_not]; omega
            go_wp2_with fail
            go_loopw [9, 10] (fun iv pv wr => ∃ kx : Nat, kx ≤ n ∧ iv = .int .i64 kx ∧ Hid (Fr (fun _ => False) w7 wr)) (fun iv _ _ => n - (intOf iv).toNat)
            case atStart => exact ⟨0, by omega, rfl, HG⟩
            case round =>
              clear HG
              obtain ⟨kx, hk, rfl, HG⟩ := hrel
              by_cases hlt3 : kx < n
              · have hd3 : decide ((kx : Int) < (n : Int)) = true := by rw [decide_eq_true_iff]; omega
                have hil : kx < L.length := by rw [← HN.out]; exact hlt3
                obtain ⟨j, hj⟩ : ∃ j, j = (kx * 7 + 3) % n := ⟨_, rfl⟩
                have hjn : j < n := by rw [hj]; exact Nat.mod_lt _ (by omega)
                have hjl : j < L.length := by rw [← HN.out]; exact hjn
                have hq : ((kx : Int) * 7 + 3).tmod (n : Int) = (j : Int) := by rw [hj]; exact rem_lt kx n (by omega)
                have hn0 : ¬ (n : Int) = 0 := by omega
                obtain ⟨x, hx⟩ : ∃ x, x = L[kx] := ⟨_, rfl⟩
                obtain ⟨z, hz⟩ : ∃ z, z = L[j] := ⟨_, rfl⟩
                have hL : L ≠ [] := by rintro rfl; simp at hil
                obtain ⟨b, off, rfl, _, hrg⟩ := HROW.out hL
                obtain ⟨b5, o5, rfl, _, hg5⟩ := HR5.out hL
                have h7 := HF7.out.trans HG.out (fun _ h => h.elim)
                have hrx := h7.range (hrg kx hil) (fun h => h)
                have hrz := h7.range (hrg j hjl) (fun h => h)
                have hr5 := HG.out.range (HF67.out.range (HF56.out.range (hg5 kx hil) (fun h => h)) (fun h => h)) (fun h => h)
                rw [← hx] at hrx hr5
                rw [← hz] at hrz
                have HRX := Lib.hid (And.intro hrx hr5)
                obtain ⟨CX, hCX⟩ : ∃ C, C = pathC x.h x.n := ⟨_, rfl⟩
                obtain ⟨CZ, hCZ⟩ : ∃ C, C = pathC z.h z.n := ⟨_, rfl⟩
                obtain ⟨Cl, hCl⟩ : ∃ C, C = cellsX z := ⟨_, rfl⟩
                rw [← hCl] at hrz
                have HCC := Lib.hid (show Cl.toArray = CZ by rw [hCl, hCZ]; rfl)
                have hll : Cl.length = 21 := by rw [hCl, cellsX_length]
                have hcs : CZ.size = 21 := by rw [hCZ, pathC_size z.h z.hl]
                have hiC : (Try.prog.info? 25).map (·.size) = some CZ.size := by rw [hcs]; kernel_rfl
                have hiL : (Try.prog.info? 25).map (·.size) = some Cl.length := by rw [hll]; kernel_rfl
                have hsC : (#[.int .u8 0, .int .u8 0, .int .u8 0, .int .u8 0, .int .u8 0, .int .u8 0, .int .u8 0, .int .u8 0, .int .u8 0, .int .u8 0, .int .u8 0, .int .u8 0, .int .u8 0, .int .u8 0, .int .u8 0, .int .u8 0, .int .u8 0, .int .u8 0, .int .u8 0, .int .u8 0, .string ⟨#[]⟩] : Array Value).size = CZ.size := Eq.trans (b := 21) rfl hcs.symm
                have hoC : CZ.all (·.oneCell') = true := by rw [hCZ]; exact pathC_one z.h z.n
                have HCX := Lib.hid hCX
                have HCZ := Lib.hid hCZ
                have EQX := Lib.hid (fun W => show (binOp .neq 25 (.agg CX) (.agg CX)).run Try.prog W = .ok (.bool false) W by rw [hCX, run_neq_path W x.h x.n x.h x.n x.hl x.hl, sameP_refl]; rfl)
                obtain ⟨bl, hbl⟩ : ∃ b, b = lessX x z := ⟨_, rfl⟩
                have HBL := Lib.hid (fun W => show Calls Try.prog 21 #[.agg CX, .agg CZ] W fun e w' => e = .returned (.bool bl) ∧ Fr (fun _ => False) W w' from by rw [hCX, hCZ, hbl]; exact bLessX_any x z W)
                have HRL := Lib.hid (fun W => show Calls Try.prog 22 #[.agg CX, .agg CZ] W fun e w' => e = .returned (.bool bl) ∧ Fr (fun _ => False) W w' from by rw [hCX, hCZ, hbl]; exact rLessX_any x z W)
                have HIN := Lib.hid hlt3
                have hj1 : (j : Int) < (n : Int) := by omega
                have hj0 : (0 : Int) ≤ (j : Int) := by omega
                clear hx hz hL hrg hg5 h7 hrx hr5 hCX hCZ hCl hcs hll hbl hj hil hjl
                go_wp2_with (first
                  | (with_reducible refine wpList_load_mid rfl 25 (.tmp 77) rfl b (off + j * 21) rfl Cl _ hrz Try.underlying25 rfl hiL ?_; rw [HCC.out])
                  | (with_reducible refine wpList_store_row rfl 25 (.tmp 10) (.tmp 78) rfl wr.heap.size CZ #[.int .u8 0, .int .u8 0, .int .u8 0, .int .u8 0, .int .u8 0, .int .u8 0, .int .u8 0, .int .u8 0, .int .u8 0, .int .u8 0, .int .u8 0, .int .u8 0, .int .u8 0, .int .u8 0, .int .u8 0, .int .u8 0, .int .u8 0, .int .u8 0, .int .u8 0, .int .u8 0, .string ⟨#[]⟩] 25 rfl rfl (heap_alloc_new wr _) hiC hsC hoC ?_; (have hbx := setRow_heap (wr.alloc (.cells #[.int .u8 0, .int .u8 0, .int .u8 0, .int .u8 0, .int .u8 0, .int .u8 0, .int .u8 0, .int .u8 0, .int .u8 0, .int .u8 0, .int .u8 0, .int .u8 0, .int .u8 0, .int .u8 0, .int .u8 0, .int .u8 0, .int .u8 0, .int .u8 0, .int .u8 0, .int .u8 0, .string ⟨#[]⟩] 25)) wr.heap.size #[.int .u8 0, .int .u8 0, .int .u8 0, .int .u8 0, .int .u8 0, .int .u8 0, .int .u8 0, .int .u8 0, .int .u8 0, .int .u8 0, .int .u8 0, .int .u8 0, .int .u8 0, .int .u8 0, .int .u8 0, .int .u8 0, .int .u8 0, .int .u8 0, .int .u8 0, .int .u8 0, .string ⟨#[]⟩] CZ 25 (0, 0) (heap_alloc_new wr _)); (have HFW := Lib.hid (Fr.laid wr #[.int .u8 0, .int .u8 0, .int .u8 0, .int .u8 0, .int .u8 0, .int .u8 0, .int .u8 0, .int .u8 0, .int .u8 0, .int .u8 0, .int .u8 0, .int .u8 0, .int .u8 0, .int .u8 0, .int .u8 0, .int .u8 0, .int .u8 0, .int .u8 0, .int .u8 0, .int .u8 0, .string ⟨#[]⟩] CZ 25)); generalize (wr.alloc (.cells #[.int .u8 0, .int .u8 0, .int .u8 0, .int .u8 0, .int .u8 0, .int .u8 0, .int .u8 0, .int .u8 0, .int .u8 0, .int .u8 0, .int .u8 0, .int .u8 0, .int .u8 0, .int .u8 0, .int .u8 0, .int .u8 0, .int .u8 0, .int .u8 0, .int .u8 0, .int .u8 0, .string ⟨#[]⟩] 25)).setRow wr.heap.size CZ = W1 at *; generalize wr.heap.size = gk at *))
                have HBX := Lib.hid hbx
                have LDX := Lib.hid (fun W (hW : Fr (fun _ => False) W1 W) => show (Instr.loadAt 25 (.pointer (some ⟨b, off + kx * 21, none⟩))).run Try.prog W = .ok (.agg CX) W by rw [HCX.out]; exact load_mid_path W b _ x (hW.range (HFW.out.range HRX.out.1 (fun h => h)) (fun h => h)))
                have LD5 := Lib.hid (fun W (hW : Fr (fun _ => False) W1 W) => show (Instr.loadAt 25 (.pointer (some ⟨b5, o5 + kx * 21, none⟩))).run Try.prog W = .ok (.agg CX) W by rw [HCX.out]; exact load_mid_path W b5 _ x (hW.range (HFW.out.range HRX.out.2 (fun h => h)) (fun h => h)))
                have LDZ := Lib.hid (fun W (hW : Fr (fun _ => False) W1 W) => show (Instr.loadAt 25 (.pointer (some ⟨gk, 0, none⟩))).run Try.prog W = .ok (.agg CZ) W by rw [HCZ.out]; exact load_path W gk z.h z.n (by have h := hW.heap HBX.out (fun h => h); rw [HCZ.out] at h; exact h) z.hl)
                refine wp_region_inv 24 (by kernel_rfl) (by kernel_rfl) (fun W => Fr (fun _ => False) W1 W) (S22 b off n cap b5 o5 c5 gk kx CX CZ bl) (fun _ _ _ _ => True) (Fr (fun _ => False)) (S22.ext b off n cap b5 o5 c5 gk kx CX CZ bl) (Fr.refl _ _).drew ?_ ?_
                · intro i hi o ho
                  replace hi : i < 24 := hi
                  obtain rfl | rfl | rfl | rfl | rfl | rfl | rfl | rfl | rfl | rfl | rfl | rfl | rfl | rfl | rfl | rfl | rfl | rfl | rfl | rfl | rfl | rfl | rfl | rfl : i = 0 ∨ i = 1 ∨ i = 2 ∨ i = 3 ∨ i = 4 ∨ i = 5 ∨ i = 6 ∨ i = 7 ∨ i = 8 ∨ i = 9 ∨ i = 10 ∨ i = 11 ∨ i = 12 ∨ i = 13 ∨ i = 14 ∨ i = 15 ∨ i = 16 ∨ i = 17 ∨ i = 18 ∨ i = 19 ∨ i = 20 ∨ i = 21 ∨ i = 22 ∨ i = 23 := by omega
                  · simp only [List.getElem?_cons_zero, Option.some.injEq] at ho
                    subst ho
                    intro a W vs hB hS hE hU
                    refine wpG_plain rfl ?_
                    have v5 : a.eval (.tmp 5) = .slice (some ⟨b5, o5, none⟩) n c5 := (hU 5 (by kernel_rfl)).trans rfl
                    clear hE hU
                    exact wp_value_inv (w' := W) (.slice (some ⟨b5, o5, none⟩) n c5) (op_move rfl v5) ⟨_, rfl, hB, Fr.refl _ _, rfl, fun _ _ _ _ _ => trivial⟩
                  · simp only [List.getElem?_cons_zero, List.getElem?_cons_succ, Option.some.injEq] at ho
                    subst ho
                    intro a W vs hB hS hE hU
                    refine wpG_plain rfl ?_
                    have v9 : a.eval (.tmp 9) = .int .i64 (kx : Int) := (hU 9 (by kernel_rfl)).trans rfl
                    clear hE hU
                    exact wp_value_inv (w' := W) (.int .i64 (kx : Int)) (op_move rfl v9) ⟨_, rfl, hB, Fr.refl _ _, rfl, fun _ _ _ _ _ => trivial⟩
                  · simp only [List.getElem?_cons_zero, List.getElem?_cons_succ, Option.some.injEq] at ho
                    subst ho
                    intro a W vs hB hS hE hU
                    refine wpG_plain rfl ?_
                    obtain ⟨r0, e79⟩ := hE 0 79 (by kernel_rfl) (by kernel_rfl)
                    have v79 : a.eval (.tmp 79) = .slice (some ⟨b5, o5, none⟩) n c5 := e79.trans r0
                    obtain ⟨r1, e80⟩ := hE 1 80 (by kernel_rfl) (by kernel_rfl)
                    have v80 : a.eval (.tmp 80) = .int .i64 (kx : Int) := e80.trans r1
                    clear hE hU
                    exact wp_value_inv (w' := W) (.pointer (some ⟨b5, o5 + kx * 21, none⟩)) (op_indexAddr rfl v79 v80 (run_index_paths W b5 o5 n c5 kx HIN.out)) ⟨_, rfl, hB, Fr.refl _ _, rfl, fun _ _ _ _ _ => trivial⟩
                  · simp only [List.getElem?_cons_zero, List.getElem?_cons_succ, Option.some.injEq] at ho
                    subst ho
                    intro a W vs hB hS hE hU
                    refine wpG_plain rfl ?_
                    obtain ⟨r2, e81⟩ := hE 2 81 (by kernel_rfl) (by kernel_rfl)
                    have v81 : a.eval (.tmp 81) = .pointer (some ⟨b5, o5 + kx * 21, none⟩) := e81.trans r2
                    clear hE hU
                    exact wp_value_inv (w' := W) (.agg CX) (op_loadAt rfl v81 (LD5.out W hB)) ⟨_, rfl, hB, Fr.refl _ _, rfl, fun _ _ _ _ _ => trivial⟩
                  · simp only [List.getElem?_cons_zero, List.getElem?_cons_succ, Option.some.injEq] at ho
                    subst ho
                    intro a W vs hB hS hE hU
                    refine wpG_plain rfl ?_
                    have v0 : a.eval (.tmp 0) = .slice (some ⟨b, off, none⟩) n cap := (hU 0 (by kernel_rfl)).trans rfl
                    clear hE hU
                    exact wp_value_inv (w' := W) (.slice (some ⟨b, off, none⟩) n cap) (op_move rfl v0) ⟨_, rfl, hB, Fr.refl _ _, rfl, fun _ _ _ _ _ => trivial⟩
                  · simp only [List.getElem?_cons_zero, List.getElem?_cons_succ, Option.some.injEq] at ho
                    subst ho
                    intro a W vs hB hS hE hU
                    refine wpG_plain rfl ?_
                    have v9 : a.eval (.tmp 9) = .int .i64 (kx : Int) := (hU 9 (by kernel_rfl)).trans rfl
                    clear hE hU
                    exact wp_value_inv (w' := W) (.int .i64 (kx : Int)) (op_move rfl v9) ⟨_, rfl, hB, Fr.refl _ _, rfl, fun _ _ _ _ _ => trivial⟩
                  · simp only [List.getElem?_cons_zero, List.getElem?_cons_succ, Option.some.injEq] at ho
                    subst ho
                    intro a W vs hB hS hE hU
                    refine wpG_plain rfl ?_
                    obtain ⟨r4, e83⟩ := hE 4 83 (by kernel_rfl) (by kernel_rfl)
                    have v83 : a.eval (.tmp 83) = .slice (some ⟨b, off, none⟩) n cap := e83.trans r4
                    obtain ⟨r5, e84⟩ := hE 5 84 (by kernel_rfl) (by kernel_rfl)
                    have v84 : a.eval (.tmp 84) = .int .i64 (kx : Int) := e84.trans r5
                    clear hE hU
                    exact wp_value_inv (w' := W) (.pointer (some ⟨b, off + kx * 21, none⟩)) (op_indexAddr rfl v83 v84 (run_index_paths W b off n cap kx HIN.out)) ⟨_, rfl, hB, Fr.refl _ _, rfl, fun _ _ _ _ _ => trivial⟩
                  · simp only [List.getElem?_cons_zero, List.getElem?_cons_succ, Option.some.injEq] at ho
                    subst ho
                    intro a W vs hB hS hE hU
                    refine wpG_plain rfl ?_
                    obtain ⟨r6, e85⟩ := hE 6 85 (by kernel_rfl) (by kernel_rfl)
                    have v85 : a.eval (.tmp 85) = .pointer (some ⟨b, off + kx * 21, none⟩) := e85.trans r6
                    clear hE hU
                    exact wp_value_inv (w' := W) (.agg CX) (op_loadAt rfl v85 (LDX.out W hB)) ⟨_, rfl, hB, Fr.refl _ _, rfl, fun _ _ _ _ _ => trivial⟩
                  · simp only [List.getElem?_cons_zero, List.getElem?_cons_succ, Option.some.injEq] at ho
                    subst ho
                    intro a W vs hB hS hE hU
                    refine wpG_plain rfl ?_
                    obtain ⟨r3, e82⟩ := hE 3 82 (by kernel_rfl) (by kernel_rfl)
                    have v82 : a.eval (.tmp 82) = .agg CX := e82.trans r3
                    obtain ⟨r7, e86⟩ := hE 7 86 (by kernel_rfl) (by kernel_rfl)
                    have v86 : a.eval (.tmp 86) = .agg CX := e86.trans r7
                    clear hE hU
                    exact wp_value_inv (w' := W) (.bool false) (op_bin rfl v82 v86 (guard_path W _ _ _ _ _) (EQX.out W)) ⟨_, rfl, hB, Fr.refl _ _, rfl, fun _ _ _ _ _ => trivial⟩
                  · simp only [List.getElem?_cons_zero, List.getElem?_cons_succ, Option.some.injEq] at ho
                    subst ho
                    intro a W vs hB hS hE hU
                    refine wpG_plain rfl ?_
                    obtain ⟨r8, e87⟩ := hE 8 87 (by kernel_rfl) (by kernel_rfl)
                    have v87 : a.eval (.tmp 87) = .bool false := e87.trans r8
                    clear hE hU
                    exact wp_value_inv (w' := W) (.bool false) (op_move rfl v87) ⟨_, rfl, hB, Fr.refl _ _, rfl, fun _ _ _ _ _ => trivial⟩
                  · simp only [List.getElem?_cons_zero, List.getElem?_cons_succ, Option.some.injEq] at ho
                    subst ho
                    intro a W vs hB hS hE hU
                    obtain ⟨r9, e88⟩ := hE 9 88 (by kernel_rfl) (by kernel_rfl)
                    have v88 : a.eval (.tmp 88) = .bool false := e88.trans r9
                    refine wpG_yes 9 false 88 rfl (by kernel_rfl) (by rw [hS]; first | simp | exact Nat.le_of_ble_eq_true rfl) v88 ?_
                    have v0 : a.eval (.tmp 0) = .slice (some ⟨b, off, none⟩) n cap := (hU 0 (by kernel_rfl)).trans rfl
                    clear hE hU
                    exact wp_value_inv (w' := W) (.slice (some ⟨b, off, none⟩) n cap) (op_move rfl v0) ⟨_, rfl, hB, Fr.refl _ _, rfl, fun _ _ _ _ _ => trivial⟩
                  · simp only [List.getElem?_cons_zero, List.getElem?_cons_succ, Option.some.injEq] at ho
                    subst ho
                    intro a W vs hB hS hE hU
                    obtain ⟨r9, e88⟩ := hE 9 88 (by kernel_rfl) (by kernel_rfl)
                    have v88 : a.eval (.tmp 88) = .bool false := e88.trans r9
                    refine wpG_yes 9 false 88 rfl (by kernel_rfl) (by rw [hS]; first | simp | exact Nat.le_of_ble_eq_true rfl) v88 ?_
                    have v9 : a.eval (.tmp 9) = .int .i64 (kx : Int) := (hU 9 (by kernel_rfl)).trans rfl
                    clear hE hU
                    exact wp_value_inv (w' := W) (.int .i64 (kx : Int)) (op_move rfl v9) ⟨_, rfl, hB, Fr.refl _ _, rfl, fun _ _ _ _ _ => trivial⟩
                  · simp only [List.getElem?_cons_zero, List.getElem?_cons_succ, Option.some.injEq] at ho
                    subst ho
                    intro a W vs hB hS hE hU
                    obtain ⟨r9, e88⟩ := hE 9 88 (by kernel_rfl) (by kernel_rfl)
                    have v88 : a.eval (.tmp 88) = .bool false := e88.trans r9
                    refine wpG_yes 9 false 88 rfl (by kernel_rfl) (by rw [hS]; first | simp | exact Nat.le_of_ble_eq_true rfl) v88 ?_
                    obtain ⟨r10, e89⟩ := hE 10 89 (by kernel_rfl) (by kernel_rfl)
                    have v89 : a.eval (.tmp 89) = .slice (some ⟨b, off, none⟩) n cap := e89.trans r10
                    obtain ⟨r11, e90⟩ := hE 11 90 (by kernel_rfl) (by kernel_rfl)
                    have v90 : a.eval (.tmp 90) = .int .i64 (kx : Int) := e90.trans r11
                    clear hE hU
                    exact wp_value_inv (w' := W) (.pointer (some ⟨b, off + kx * 21, none⟩)) (op_indexAddr rfl v89 v90 (run_index_paths W b off n cap kx HIN.out)) ⟨_, rfl, hB, Fr.refl _ _, rfl, fun _ _ _ _ _ => trivial⟩
                  · simp only [List.getElem?_cons_zero, List.getElem?_cons_succ, Option.some.injEq] at ho
                    subst ho
                    intro a W vs hB hS hE hU
                    obtain ⟨r9, e88⟩ := hE 9 88 (by kernel_rfl) (by kernel_rfl)
                    have v88 : a.eval (.tmp 88) = .bool false := e88.trans r9
                    refine wpG_yes 9 false 88 rfl (by kernel_rfl) (by rw [hS]; first | simp | exact Nat.le_of_ble_eq_true rfl) v88 ?_
                    obtain ⟨r12, e91⟩ := hE 12 91 (by kernel_rfl) (by kernel_rfl)
                    have v91 : a.eval (.tmp 91) = .pointer (some ⟨b, off + kx * 21, none⟩) := e91.trans r12
                    clear hE hU
                    exact wp_value_inv (w' := W) (.agg CX) (op_loadAt rfl v91 (LDX.out W hB)) ⟨_, rfl, hB, Fr.refl _ _, rfl, fun _ _ _ _ _ => trivial⟩
                  · simp only [List.getElem?_cons_zero, List.getElem?_cons_succ, Option.some.injEq] at ho
                    subst ho
                    intro a W vs hB hS hE hU
                    obtain ⟨r9, e88⟩ := hE 9 88 (by kernel_rfl) (by kernel_rfl)
                    have v88 : a.eval (.tmp 88) = .bool false := e88.trans r9
                    refine wpG_yes 9 false 88 rfl (by kernel_rfl) (by rw [hS]; first | simp | exact Nat.le_of_ble_eq_true rfl) v88 ?_
                    have v10 : a.eval (.tmp 10) = .pointer (some ⟨gk, 0, none⟩) := (hU 10 (by kernel_rfl)).trans rfl
                    clear hE hU
                    exact wp_value_inv (w' := W) (.agg CZ) (op_loadAt rfl v10 (LDZ.out W hB)) ⟨_, rfl, hB, Fr.refl _ _, rfl, fun _ _ _ _ _ => trivial⟩
                  · simp only [List.getElem?_cons_zero, List.getElem?_cons_succ, Option.some.injEq] at ho
                    subst ho
                    intro a W vs hB hS hE hU
                    obtain ⟨r9, e88⟩ := hE 9 88 (by kernel_rfl) (by kernel_rfl)
                    have v88 : a.eval (.tmp 88) = .bool false := e88.trans r9
                    refine wpG_yes 9 false 88 rfl (by kernel_rfl) (by rw [hS]; first | simp | exact Nat.le_of_ble_eq_true rfl) v88 ?_
                    obtain ⟨r13, e92⟩ := hE 13 92 (by kernel_rfl) (by kernel_rfl)
                    have v92 : a.eval (.tmp 92) = .agg CX := e92.trans r13
                    obtain ⟨r14, e93⟩ := hE 14 93 (by kernel_rfl) (by kernel_rfl)
                    have v93 : a.eval (.tmp 93) = .agg CZ := e93.trans r14
                    clear hE hU
                    refine wp_call_inv 21 #[.tmp 92, .tmp 93] #[25, 25] rfl #[.agg CX, .agg CZ] (by simp only [List.map_toArray, List.map_cons, List.map_nil, v92, v93]) (bLess_enter _) (Post := fun v W' => v = .bool bl ∧ Fr (fun _ => False) W W') ((HBL.out W).mono fun e w' h => ⟨_, h.1, rfl, h.2⟩) ?_
                    rintro v W' ⟨rfl, hf⟩
                    exact ⟨_, rfl, hB.trans hf (fun _ h => h.elim), hf, rfl, fun _ _ _ _ _ => trivial⟩
                  · simp only [List.getElem?_cons_zero, List.getElem?_cons_succ, Option.some.injEq] at ho
                    subst ho
                    intro a W vs hB hS hE hU
                    obtain ⟨r9, e88⟩ := hE 9 88 (by kernel_rfl) (by kernel_rfl)
                    have v88 : a.eval (.tmp 88) = .bool false := e88.trans r9
                    refine wpG_yes 9 false 88 rfl (by kernel_rfl) (by rw [hS]; first | simp | exact Nat.le_of_ble_eq_true rfl) v88 ?_
                    have v0 : a.eval (.tmp 0) = .slice (some ⟨b, off, none⟩) n cap := (hU 0 (by kernel_rfl)).trans rfl
                    clear hE hU
                    exact wp_value_inv (w' := W) (.slice (some ⟨b, off, none⟩) n cap) (op_move rfl v0) ⟨_, rfl, hB, Fr.refl _ _, rfl, fun _ _ _ _ _ => trivial⟩
                  · simp only [List.getElem?_cons_zero, List.getElem?_cons_succ, Option.some.injEq] at ho
                    subst ho
                    intro a W vs hB hS hE hU
                    obtain ⟨r9, e88⟩ := hE 9 88 (by kernel_rfl) (by kernel_rfl)
                    have v88 : a.eval (.tmp 88) = .bool false := e88.trans r9
                    refine wpG_yes 9 false 88 rfl (by kernel_rfl) (by rw [hS]; first | simp | exact Nat.le_of_ble_eq_true rfl) v88 ?_
                    have v9 : a.eval (.tmp 9) = .int .i64 (kx : Int) := (hU 9 (by kernel_rfl)).trans rfl
                    clear hE hU
                    exact wp_value_inv (w' := W) (.int .i64 (kx : Int)) (op_move rfl v9) ⟨_, rfl, hB, Fr.refl _ _, rfl, fun _ _ _ _ _ => trivial⟩
                  · simp only [List.getElem?_cons_zero, List.getElem?_cons_succ, Option.some.injEq] at ho
                    subst ho
                    intro a W vs hB hS hE hU
                    obtain ⟨r9, e88⟩ := hE 9 88 (by kernel_rfl) (by kernel_rfl)
                    have v88 : a.eval (.tmp 88) = .bool false := e88.trans r9
                    refine wpG_yes 9 false 88 rfl (by kernel_rfl) (by rw [hS]; first | simp | exact Nat.le_of_ble_eq_true rfl) v88 ?_
                    obtain ⟨r16, e95⟩ := hE 16 95 (by kernel_rfl) (by kernel_rfl)
                    have v95 : a.eval (.tmp 95) = .slice (some ⟨b, off, none⟩) n cap := e95.trans r16
                    obtain ⟨r17, e96⟩ := hE 17 96 (by kernel_rfl) (by kernel_rfl)
                    have v96 : a.eval (.tmp 96) = .int .i64 (kx : Int) := e96.trans r17
                    clear hE hU
                    exact wp_value_inv (w' := W) (.pointer (some ⟨b, off + kx * 21, none⟩)) (op_indexAddr rfl v95 v96 (run_index_paths W b off n cap kx HIN.out)) ⟨_, rfl, hB, Fr.refl _ _, rfl, fun _ _ _ _ _ => trivial⟩
                  · simp only [List.getElem?_cons_zero, List.getElem?_cons_succ, Option.some.injEq] at ho
                    subst ho
                    intro a W vs hB hS hE hU
                    obtain ⟨r9, e88⟩ := hE 9 88 (by kernel_rfl) (by kernel_rfl)
                    have v88 : a.eval (.tmp 88) = .bool false := e88.trans r9
                    refine wpG_yes 9 false 88 rfl (by kernel_rfl) (by rw [hS]; first | simp | exact Nat.le_of_ble_eq_true rfl) v88 ?_
                    obtain ⟨r18, e97⟩ := hE 18 97 (by kernel_rfl) (by kernel_rfl)
                    have v97 : a.eval (.tmp 97) = .pointer (some ⟨b, off + kx * 21, none⟩) := e97.trans r18
                    clear hE hU
                    exact wp_value_inv (w' := W) (.agg CX) (op_loadAt rfl v97 (LDX.out W hB)) ⟨_, rfl, hB, Fr.refl _ _, rfl, fun _ _ _ _ _ => trivial⟩
                  · simp only [List.getElem?_cons_zero, List.getElem?_cons_succ, Option.some.injEq] at ho
                    subst ho
                    intro a W vs hB hS hE hU
                    obtain ⟨r9, e88⟩ := hE 9 88 (by kernel_rfl) (by kernel_rfl)
                    have v88 : a.eval (.tmp 88) = .bool false := e88.trans r9
                    refine wpG_yes 9 false 88 rfl (by kernel_rfl) (by rw [hS]; first | simp | exact Nat.le_of_ble_eq_true rfl) v88 ?_
                    have v10 : a.eval (.tmp 10) = .pointer (some ⟨gk, 0, none⟩) := (hU 10 (by kernel_rfl)).trans rfl
                    clear hE hU
                    exact wp_value_inv (w' := W) (.agg CZ) (op_loadAt rfl v10 (LDZ.out W hB)) ⟨_, rfl, hB, Fr.refl _ _, rfl, fun _ _ _ _ _ => trivial⟩
                  · simp only [List.getElem?_cons_zero, List.getElem?_cons_succ, Option.some.injEq] at ho
                    subst ho
                    intro a W vs hB hS hE hU
                    obtain ⟨r9, e88⟩ := hE 9 88 (by kernel_rfl) (by kernel_rfl)
                    have v88 : a.eval (.tmp 88) = .bool false := e88.trans r9
                    refine wpG_yes 9 false 88 rfl (by kernel_rfl) (by rw [hS]; first | simp | exact Nat.le_of_ble_eq_true rfl) v88 ?_
                    obtain ⟨r19, e98⟩ := hE 19 98 (by kernel_rfl) (by kernel_rfl)
                    have v98 : a.eval (.tmp 98) = .agg CX := e98.trans r19
                    obtain ⟨r20, e99⟩ := hE 20 99 (by kernel_rfl) (by kernel_rfl)
                    have v99 : a.eval (.tmp 99) = .agg CZ := e99.trans r20
                    clear hE hU
                    refine wp_call_inv 22 #[.tmp 98, .tmp 99] #[25, 25] rfl #[.agg CX, .agg CZ] (by simp only [List.map_toArray, List.map_cons, List.map_nil, v98, v99]) (rLess_enter _) (Post := fun v W' => v = .bool bl ∧ Fr (fun _ => False) W W') ((HRL.out W).mono fun e w' h => ⟨_, h.1, rfl, h.2⟩) ?_
                    rintro v W' ⟨rfl, hf⟩
                    exact ⟨_, rfl, hB.trans hf (fun _ h => h.elim), hf, rfl, fun _ _ _ _ _ => trivial⟩
                  · simp only [List.getElem?_cons_zero, List.getElem?_cons_succ, Option.some.injEq] at ho
                    subst ho
                    intro a W vs hB hS hE hU
                    obtain ⟨r9, e88⟩ := hE 9 88 (by kernel_rfl) (by kernel_rfl)
                    have v88 : a.eval (.tmp 88) = .bool false := e88.trans r9
                    refine wpG_yes 9 false 88 rfl (by kernel_rfl) (by rw [hS]; first | simp | exact Nat.le_of_ble_eq_true rfl) v88 ?_
                    obtain ⟨r15, e94⟩ := hE 15 94 (by kernel_rfl) (by kernel_rfl)
                    have v94 : a.eval (.tmp 94) = .bool bl := e94.trans r15
                    obtain ⟨r21, e100⟩ := hE 21 100 (by kernel_rfl) (by kernel_rfl)
                    have v100 : a.eval (.tmp 100) = .bool bl := e100.trans r21
                    clear hE hU
                    exact wp_value_inv (w' := W) (.bool false) (op_bin rfl v94 v100 (guard_bool W _ _ _ _ _ _) (neq_bool W _)) ⟨_, rfl, hB, Fr.refl _ _, rfl, fun _ _ _ _ _ => trivial⟩
                  · simp only [List.getElem?_cons_zero, List.getElem?_cons_succ, Option.some.injEq] at ho
                    subst ho
                    intro a W vs hB hS hE hU
                    refine wpG_plain rfl ?_
                    obtain ⟨r9, e88⟩ := hE 9 88 (by kernel_rfl) (by kernel_rfl)
                    have v88 : a.eval (.tmp 88) = .bool false := e88.trans r9
                    obtain ⟨r22, e101⟩ := hE 22 101 (by kernel_rfl) (by kernel_rfl)
                    have v101 : a.eval (.tmp 101) = .bool false := e101.trans r22
                    clear hE hU
                    exact wp_value_inv (w' := W) (.bool false) (op_pick rfl v88 (by simp only [Bool.false_eq_true, if_false]; exact v101)) ⟨_, rfl, hB, Fr.refl _ _, rfl, fun _ _ _ _ _ => trivial⟩
                · intro vs Wa hB0 hR0 hD
                  have rL : vs 23 = .bool false := hR0 23 (by decide)
                  have HB := Lib.hid hB0
                  clear hR0 hD hB0
                  simp only [acts, if_true, dstAt, List.getElem?_cons_zero, List.getElem?_cons_succ, Option.bind_some, Act.put, List.setIfInBounds_toArray, List.set_cons_succ, List.set_cons_zero, List.drop_succ_cons, List.drop_nil]
                  simp only [rL]
                  clear rL
                  have HG2 := Lib.hid ((HG.out.trans HFW.out (fun _ h => h.elim)).trans HB.out (fun _ h => h.elim))
                  go_wp2
                  go_roundw
                  case rel => exact ⟨kx + 1, by omega, by go_num, HG2⟩
                  case measure => simp [intOf]; omega
              · have hd3 : decide ((kx : Int) < (n : Int)) = false := by rw [decide_eq_false_iff_not]; omega
                go_wp2_with (go_at_call 8; refine (HAW.out _).mono ?_; rintro e w4 ⟨rfl, hf4⟩; have HF4 := Lib.hid ((HF7.out.trans HG.out (fun _ h => h.elim)).trans hf4 (fun _ h => h.elim)); clear hf4)
                go_ret
                exact ⟨rfl, HF4.out⟩
end Go.Proofs.Ytdmlalnekjihfaa
