/- Laid together: VFit -/
import Derived.Test.YtdpaobflknkbkaaVe9

namespace Go.Proofs.Ytdpaobflknkbkaa
open Go.RowKit Go.ChangeShapes
set_option linter.unusedVariables false
def need9 (n : Int) : Int := if n < 1 then 0 else (n - 1) / 64 + 1
theorem need9_le {n A : Int} (hn : 1 ≤ n) : A < need9 n ↔ 64 * A < n := by
  unfold need9
  rw [if_neg (by omega)]
  omega
set_option maxRecDepth 100000 in
theorem need9_any (w : World) (n : Int) (h1 : -9223372036854775808 ≤ n) (h2 : n ≤ 9223372036854775807) :
    Calls Try.prog 54 #[.int .i64 n] w fun e w' => e = .returned (.int .i64 (need9 n)) ∧ Fr (fun _ => False) w w' := by
  by_cases h : n < 1
  · have hR : need9 n = 0 := by unfold need9; rw [if_pos h]
    rw [hR]
    clear hR
    go_enter Try.func54, Try.ntmps54
    go_wp2
    go_ret
    exact ⟨rfl, Fr.refl _ _⟩
  · have hR : (n - 1) / 64 + 1 = need9 n := by unfold need9; rw [if_neg h]
    have HR := Lib.hid hR
    clear hR
    obtain ⟨k, hk⟩ : ∃ k, k = (n - 1) / 64 := ⟨_, rfl⟩
    have hk0 : 0 ≤ k := by omega
    have hk1 : k ≤ 9223372036854775806 := by omega
    have e1 : (n - 1).tdiv 64 = k := by rw [hk, Int.tdiv_eq_ediv_of_nonneg (by omega)]
    have e2 : (n - 1) / 64 = k := hk.symm
    have HK := Lib.hid e2
    clear hk
    go_enter Try.func54, Try.ntmps54
    go_wp2
    go_ret
    exact ⟨by rw [← HR.out, HK.out]; rfl, Fr.refl _ _⟩
theorem lss9 {w : World} {T : TypeId} {x y : Int} {b : Bool} (h : decide (x < y) = b) : (binOp .lss T (.int .i64 x) (.int .i64 y)).run Try.prog w = .ok (.bool b) w := by
  subst h
  by_cases hx : x < y
  · rw [decide_eq_true hx]; exact lss_yes hx
  · rw [decide_eq_false hx]; exact lss_no (by omega)
def fitsQ (L A D : Int) (Q : List Qt) : Int := if rightS L A D = true ∧ okQs Q = true then (if 64 * A < areaOf Q ∨ D < dataOf Q then 9 else 0) else 2
theorem ent_spence_view_areaBytes (args : Array Value) (w : World) : (callFunc 55 args).run Try.prog w = .ok (.enter 55 args) w := by kernel_rfl
theorem ent_spence_blob_Need (args : Array Value) (w : World) : (callFunc 54 args).run Try.prog w = .ok (.enter 54 args) w := by kernel_rfl
theorem ent_spence_view_dataSectors (args : Array Value) (w : World) : (callFunc 56 args).run Try.prog w = .ok (.enter 56 args) w := by kernel_rfl
def FitA (gw n cap : Nat) (ao : Option Addr) (A D ab nd db : Int) (i : Nat) (v : Value) (W : World) : Prop :=
  match i with
  | 0 => v = .pointer (some ⟨gw, 1, none⟩)
  | 1 => v = .int .i64 A
  | 2 => v = .slice ao n cap
  | 3 => v = .int .i64 ab
  | 4 => v = .int .i64 nd
  | 5 => v = .bool true
  | 6 => v = .bool true
  | 7 => v = undef
  | 8 => v = undef
  | 9 => v = undef
  | 10 => v = undef
  | 11 => v = undef
  | 12 => v = .bool true
  | 13 => v = .bool true
  | _ => True
theorem FitA.ext (gw n cap : Nat) (ao : Option Addr) (A D ab nd db : Int) : ∀ (j : Nat) (u : Value) (W W' : World), Fr (fun _ => False) W W' → FitA gw n cap ao A D ab nd db j u W → FitA gw n cap ao A D ab nd db j u W'
  | 0, u, W, W', hf, h => h
  | 1, u, W, W', hf, h => h
  | 2, u, W, W', hf, h => h
  | 3, u, W, W', hf, h => h
  | 4, u, W, W', hf, h => h
  | 5, u, W, W', hf, h => h
  | 6, u, W, W', hf, h => h
  | 7, u, W, W', hf, h => h
  | 8, u, W, W', hf, h => h
  | 9, u, W, W', hf, h => h
  | 10, u, W, W', hf, h => h
  | 11, u, W, W', hf, h => h
  | 12, u, W, W', hf, h => h
  | 13, u, W, W', hf, h => h
  | _ + 14, u, W, W', hf, h => trivial
def FitB (gw n cap : Nat) (ao : Option Addr) (A D ab nd db : Int) (i : Nat) (v : Value) (W : World) : Prop :=
  match i with
  | 0 => v = .pointer (some ⟨gw, 1, none⟩)
  | 1 => v = .int .i64 A
  | 2 => v = .slice ao n cap
  | 3 => v = .int .i64 ab
  | 4 => v = .int .i64 nd
  | 5 => v = .bool false
  | 6 => v = .bool false
  | 7 => v = .pointer (some ⟨gw, 2, none⟩)
  | 8 => v = .int .i64 D
  | 9 => v = .slice ao n cap
  | 10 => v = .int .i64 db
  | 11 => v = .bool true
  | 12 => v = .bool true
  | 13 => v = .bool true
  | _ => True
theorem FitB.ext (gw n cap : Nat) (ao : Option Addr) (A D ab nd db : Int) : ∀ (j : Nat) (u : Value) (W W' : World), Fr (fun _ => False) W W' → FitB gw n cap ao A D ab nd db j u W → FitB gw n cap ao A D ab nd db j u W'
  | 0, u, W, W', hf, h => h
  | 1, u, W, W', hf, h => h
  | 2, u, W, W', hf, h => h
  | 3, u, W, W', hf, h => h
  | 4, u, W, W', hf, h => h
  | 5, u, W, W', hf, h => h
  | 6, u, W, W', hf, h => h
  | 7, u, W, W', hf, h => h
  | 8, u, W, W', hf, h => h
  | 9, u, W, W', hf, h => h
  | 10, u, W, W', hf, h => h
  | 11, u, W, W', hf, h => h
  | 12, u, W, W', hf, h => h
  | 13, u, W, W', hf, h => h
  | _ + 14, u, W, W', hf, h => trivial
def FitC (gw n cap : Nat) (ao : Option Addr) (A D ab nd db : Int) (i : Nat) (v : Value) (W : World) : Prop :=
  match i with
  | 0 => v = .pointer (some ⟨gw, 1, none⟩)
  | 1 => v = .int .i64 A
  | 2 => v = .slice ao n cap
  | 3 => v = .int .i64 ab
  | 4 => v = .int .i64 nd
  | 5 => v = .bool false
  | 6 => v = .bool false
  | 7 => v = .pointer (some ⟨gw, 2, none⟩)
  | 8 => v = .int .i64 D
  | 9 => v = .slice ao n cap
  | 10 => v = .int .i64 db
  | 11 => v = .bool false
  | 12 => v = .bool false
  | 13 => v = .bool false
  | _ => True
theorem FitC.ext (gw n cap : Nat) (ao : Option Addr) (A D ab nd db : Int) : ∀ (j : Nat) (u : Value) (W W' : World), Fr (fun _ => False) W W' → FitC gw n cap ao A D ab nd db j u W → FitC gw n cap ao A D ab nd db j u W'
  | 0, u, W, W', hf, h => h
  | 1, u, W, W', hf, h => h
  | 2, u, W, W', hf, h => h
  | 3, u, W, W', hf, h => h
  | 4, u, W, W', hf, h => h
  | 5, u, W, W', hf, h => h
  | 6, u, W, W', hf, h => h
  | 7, u, W, W', hf, h => h
  | 8, u, W, W', hf, h => h
  | 9, u, W, W', hf, h => h
  | 10, u, W, W', hf, h => h
  | 11, u, W, W', hf, h => h
  | 12, u, W, W', hf, h => h
  | 13, u, W, W', hf, h => h
  | _ + 14, u, W, W', hf, h => trivial
set_option maxRecDepth 100000 in
set_option maxHeartbeats 2000000 in
theorem vFits_any {F : Nat → Prop} (w : World) (L A D : Int) (v : Value) (Q : List Qt) (hQ : QsIn F w v Q) :
    Calls Try.prog 17 #[.agg #[.int .i64 L, .int .i64 A, .int .i64 D], v] w fun e w' => e = .returned (.int .i64 (fitsQ L A D Q)) ∧ Fr (fun _ => False) w w' := by
  obtain ⟨W1, hW1⟩ : ∃ W1, W1 = w.alloc (.cells #[.int .i64 L, .int .i64 A, .int .i64 D] 51) := ⟨_, rfl⟩
  have hf1 : Fr (fun _ => False) w W1 := by rw [hW1]; exact (Fr.refl _ _).alloc _
  have hb1 : W1.heap[w.heap.size]? = some (.cells #[.int .i64 L, .int .i64 A, .int .i64 D] 51 (0, 0)) := by rw [hW1]; exact heap_alloc_new w _
  have hr := lRight_any W1 L A D
  have hq := fun W (hf : Fr (fun _ => False) w W) => areRight_any W v Q (hQ.quiet hf)
  obtain ⟨ao, cap, rfl, _⟩ := id hQ.open9
  obtain ⟨n, hn⟩ : ∃ n, n = Q.length := ⟨_, rfl⟩
  rw [← hn] at hQ hq ⊢
  have HQQ := Lib.hid hQ
  have HQ := Lib.hid hq
  have HW := Lib.hid (And.intro hW1 (And.intro hf1 hb1))
  have c0 := cell_of_row _ _ 0 _ _ _ hb1
  have c1 := cell_of_row _ _ 1 _ _ _ hb1
  have c2 := cell_of_row _ _ 2 _ _ _ hb1
  cases hb : rightS L A D with
  | false =>
    rw [hb] at hr
    have HR := Lib.hid hr
    have HF := Lib.hid (show fitsQ L A D Q = 2 by unfold fitsQ; rw [hb]; simp)
    clear hr hq hQ hf1 hb1 hW1 hn
    go_enter Try.func17, Try.ntmps17
    go_wp2_with (go_at_call 53; rw [← HW.out.1]; refine HR.out.mono ?_; rintro e w2 ⟨rfl, hf2⟩; (have H2 := Lib.hid hf2); clear hf2)
    go_ret
    exact ⟨by rw [HF.out]; rfl, HW.out.2.1.trans H2.out (fun _ h => h.elim)⟩
  | true =>
    rw [hb] at hr
    have HR := Lib.hid hr
    cases hk : okQs Q with
    | false =>
      have HK := Lib.hid hk
      have HF := Lib.hid (show fitsQ L A D Q = 2 by unfold fitsQ; rw [hk]; simp)
      clear hr hq hQ hf1 hb1 hW1 hn hk
      go_enter Try.func17, Try.ntmps17
      go_wp2_with (first
        | (go_at_call 53; rw [← HW.out.1]; refine HR.out.mono ?_; rintro e w2 ⟨rfl, hf2⟩; (have H2 := Lib.hid (HW.out.2.1.trans hf2 (fun _ h => h.elim))); clear hf2)
        | (go_at_call 32; refine (HQ.out _ H2.out).mono ?_; rintro e w3 ⟨rfl, hf3⟩; rw [HK.out]; (have H3 := Lib.hid (H2.out.trans hf3 (fun _ h => h.elim))); clear hf3))
      go_ret
      exact ⟨by rw [HF.out]; rfl, H3.out⟩
    | true =>
      have HK := Lib.hid hk
      obtain ⟨hall, hn1, hn8⟩ := okQs_iff hk
      have ha := area_le hall Q.length (Nat.le_refl _)
      have hd := data_le hall Q.length (Nat.le_refl _)
      rw [List.take_length] at ha hd
      have hfit : fitsQ L A D Q = (if A < need9 (areaOf Q) ∨ D < dataOf Q then 9 else 0) := by
        unfold fitsQ
        rw [if_pos ⟨hb, hk⟩]
        simp only [need9_le (A := A) (show 1 ≤ areaOf Q by omega)]
      obtain ⟨ab, hab⟩ : ∃ ab, ab = areaOf Q := ⟨_, rfl⟩
      obtain ⟨db, hdb⟩ : ∃ db, db = dataOf Q := ⟨_, rfl⟩
      obtain ⟨nd, hnd⟩ : ∃ nd, nd = need9 ab := ⟨_, rfl⟩
      have hab1 : -9223372036854775808 ≤ ab ∧ ab ≤ 9223372036854775807 := by rw [hab]; omega
      rw [← hab, ← hdb, ← hnd] at hfit
      have HF := Lib.hid hfit
      have HAB0 := Lib.hid (fun W (hf : Fr (fun _ => False) w W) => areaBytes_any W _ Q (hQ.quiet hf) hk)
      have HDB0 := Lib.hid (fun W (hf : Fr (fun _ => False) w W) => dataSectors_any W _ Q (hQ.quiet hf) hk)
      have HND0 := Lib.hid (fun W => need9_any W ab hab1.1 hab1.2)
      rw [← hab] at HAB0
      rw [← hdb] at HDB0
      rw [← hnd] at HND0
      clear hr hq hQ hf1 hb1 hW1 hn hk ha hd hall hn1 hn8 hfit hab hdb hnd hab1 HQQ
      by_cases h1 : A < nd
      · have HE := Lib.hid (show fitsQ L A D Q = 9 by rw [HF.out, if_pos (.inl h1)])
        have D1 := Lib.hid (decide_eq_true h1)
        clear h1
        go_enter Try.func17, Try.ntmps17
        go_wp2_with (first
          | (go_at_call 53; rw [← HW.out.1]; refine HR.out.mono ?_; rintro e w2 ⟨rfl, hf2⟩; (have H2 := Lib.hid (And.intro (HW.out.2.1.trans hf2 (fun _ h => h.elim)) hf2)); clear hf2)
          | (go_at_call 32; refine (HQ.out _ H2.out.1).mono ?_; rintro e w3 ⟨rfl, hf3⟩; rw [HK.out]; (have H3 := Lib.hid (And.intro (H2.out.1.trans hf3 (fun _ h => h.elim)) ((H2.out.2.trans hf3 (fun _ h => h.elim)).heap HW.out.2.2 id))); clear hf3))
        have HAB := Lib.hid (fun W (hf : Fr (fun _ => False) w3 W) => HAB0.out W (H3.out.1.trans hf (fun _ h => h.elim)))
        have HDB := Lib.hid (fun W (hf : Fr (fun _ => False) w3 W) => HDB0.out W (H3.out.1.trans hf (fun _ h => h.elim)))
        have HND := Lib.hid (fun W (hf : Fr (fun _ => False) w3 W) => HND0.out W)
        have LDA := Lib.hid (fun W (hf : Fr (fun _ => False) w3 W) => load_int5 W ⟨w.heap.size, 1, none⟩ _ (hf.cell (cell_of_row _ _ _ _ _ _ H3.out.2) id))
        have LDD := Lib.hid (fun W (hf : Fr (fun _ => False) w3 W) => load_int5 W ⟨w.heap.size, 2, none⟩ _ (hf.cell (cell_of_row _ _ _ _ _ _ H3.out.2) id))
        refine wp_region_inv 14 (by kernel_rfl) (by kernel_rfl) (fun W => Fr (fun _ => False) w3 W) (FitA (w.heap.size) n cap ao A D ab nd db) (fun _ _ _ _ => True) (Fr (fun _ => False)) (FitA.ext (w.heap.size) n cap ao A D ab nd db) (Fr.refl _ _).drew ?_ ?_
        · intro i hi o ho
          replace hi : i < 14 := hi
          obtain rfl | rfl | rfl | rfl | rfl | rfl | rfl | rfl | rfl | rfl | rfl | rfl | rfl | rfl : i = 0 ∨ i = 1 ∨ i = 2 ∨ i = 3 ∨ i = 4 ∨ i = 5 ∨ i = 6 ∨ i = 7 ∨ i = 8 ∨ i = 9 ∨ i = 10 ∨ i = 11 ∨ i = 12 ∨ i = 13 := by omega
          · simp only [List.getElem?_cons_zero, Option.some.injEq] at ho
            subst ho
            intro a W vs hB hS hE hU
            refine wpG_plain rfl ?_
            have v2 : a.eval (.tmp 2) = .pointer (some ⟨(w.heap.size), 0, none⟩) := (hU 2 (by kernel_rfl)).trans rfl
            clear hE hU
            exact wp_value_inv (w' := W) (.pointer (some ⟨(w.heap.size), 1, none⟩)) (op_fieldAddr rfl v2 (fld_spence_api_Shape_1_0 W (w.heap.size))) ⟨_, rfl, hB, Fr.refl _ _, rfl, fun _ _ _ _ _ => trivial⟩
          · simp only [List.getElem?_cons_zero, List.getElem?_cons_succ, Option.some.injEq] at ho
            subst ho
            intro a W vs hB hS hE hU
            refine wpG_plain rfl ?_
            obtain ⟨r0, e15⟩ := hE 0 15 (by kernel_rfl) (by kernel_rfl)
            have v15 : a.eval (.tmp 15) = .pointer (some ⟨(w.heap.size), 1, none⟩) := e15.trans r0
            clear hE hU
            exact wp_value_inv (w' := W) (.int .i64 A) (op_loadAt rfl v15 (LDA.out W hB)) ⟨_, rfl, hB, Fr.refl _ _, rfl, fun _ _ _ _ _ => trivial⟩
          · simp only [List.getElem?_cons_zero, List.getElem?_cons_succ, Option.some.injEq] at ho
            subst ho
            intro a W vs hB hS hE hU
            refine wpG_plain rfl ?_
            have v1 : a.eval (.tmp 1) = .slice ao n cap := (hU 1 (by kernel_rfl)).trans rfl
            clear hE hU
            exact wp_value_inv (w' := W) (.slice ao n cap) (op_move rfl v1) ⟨_, rfl, hB, Fr.refl _ _, rfl, fun _ _ _ _ _ => trivial⟩
          · simp only [List.getElem?_cons_zero, List.getElem?_cons_succ, Option.some.injEq] at ho
            subst ho
            intro a W vs hB hS hE hU
            refine wpG_plain rfl ?_
            obtain ⟨r2, e17⟩ := hE 2 17 (by kernel_rfl) (by kernel_rfl)
            have v17 : a.eval (.tmp 17) = .slice ao n cap := e17.trans r2
            clear hE hU
            refine wp_call_inv 55 #[.tmp 17] #[22] rfl #[.slice ao n cap] (by simp only [List.map_toArray, List.map_cons, List.map_nil, v17]) (ent_spence_view_areaBytes _) (Post := fun v W' => v = .int .i64 ab ∧ Fr (fun _ => False) W W') ((HAB.out W hB).mono fun e w' h => ⟨_, h.1, rfl, h.2⟩) ?_
            rintro v W' ⟨rfl, hf⟩
            exact ⟨_, rfl, hB.trans hf (fun _ h => h.elim), hf, rfl, fun _ _ _ _ _ => trivial⟩
          · simp only [List.getElem?_cons_zero, List.getElem?_cons_succ, Option.some.injEq] at ho
            subst ho
            intro a W vs hB hS hE hU
            refine wpG_plain rfl ?_
            obtain ⟨r3, e18⟩ := hE 3 18 (by kernel_rfl) (by kernel_rfl)
            have v18 : a.eval (.tmp 18) = .int .i64 ab := e18.trans r3
            clear hE hU
            refine wp_call_inv 54 #[.tmp 18] #[3] rfl #[.int .i64 ab] (by simp only [List.map_toArray, List.map_cons, List.map_nil, v18]) (ent_spence_blob_Need _) (Post := fun v W' => v = .int .i64 nd ∧ Fr (fun _ => False) W W') ((HND.out W hB).mono fun e w' h => ⟨_, h.1, rfl, h.2⟩) ?_
            rintro v W' ⟨rfl, hf⟩
            exact ⟨_, rfl, hB.trans hf (fun _ h => h.elim), hf, rfl, fun _ _ _ _ _ => trivial⟩
          · simp only [List.getElem?_cons_zero, List.getElem?_cons_succ, Option.some.injEq] at ho
            subst ho
            intro a W vs hB hS hE hU
            refine wpG_plain rfl ?_
            obtain ⟨r1, e16⟩ := hE 1 16 (by kernel_rfl) (by kernel_rfl)
            have v16 : a.eval (.tmp 16) = .int .i64 A := e16.trans r1
            obtain ⟨r4, e19⟩ := hE 4 19 (by kernel_rfl) (by kernel_rfl)
            have v19 : a.eval (.tmp 19) = .int .i64 nd := e19.trans r4
            clear hE hU
            exact wp_value_inv (w' := W) (.bool true) (op_bin rfl v16 v19 (rfl) (lss9 D1.out)) ⟨_, rfl, hB, Fr.refl _ _, rfl, fun _ _ _ _ _ => trivial⟩
          · simp only [List.getElem?_cons_zero, List.getElem?_cons_succ, Option.some.injEq] at ho
            subst ho
            intro a W vs hB hS hE hU
            refine wpG_plain rfl ?_
            obtain ⟨r5, e20⟩ := hE 5 20 (by kernel_rfl) (by kernel_rfl)
            have v20 : a.eval (.tmp 20) = .bool true := e20.trans r5
            clear hE hU
            exact wp_value_inv (w' := W) (.bool true) (op_move rfl v20) ⟨_, rfl, hB, Fr.refl _ _, rfl, fun _ _ _ _ _ => trivial⟩
          · simp only [List.getElem?_cons_zero, List.getElem?_cons_succ, Option.some.injEq] at ho
            subst ho
            intro a W vs hB hS hE hU
            obtain ⟨r6, e21⟩ := hE 6 21 (by kernel_rfl) (by kernel_rfl)
            have v21 : a.eval (.tmp 21) = .bool true := e21.trans r6
            exact wpG_no 6 false 21 rfl (by kernel_rfl) (by rw [hS]; first | simp | exact Nat.le_of_ble_eq_true rfl) v21 ⟨_, rfl, hB, Fr.refl _ _, rfl, fun _ _ _ _ _ => trivial⟩
          · simp only [List.getElem?_cons_zero, List.getElem?_cons_succ, Option.some.injEq] at ho
            subst ho
            intro a W vs hB hS hE hU
            obtain ⟨r6, e21⟩ := hE 6 21 (by kernel_rfl) (by kernel_rfl)
            have v21 : a.eval (.tmp 21) = .bool true := e21.trans r6
            exact wpG_no 6 false 21 rfl (by kernel_rfl) (by rw [hS]; first | simp | exact Nat.le_of_ble_eq_true rfl) v21 ⟨_, rfl, hB, Fr.refl _ _, rfl, fun _ _ _ _ _ => trivial⟩
          · simp only [List.getElem?_cons_zero, List.getElem?_cons_succ, Option.some.injEq] at ho
            subst ho
            intro a W vs hB hS hE hU
            obtain ⟨r6, e21⟩ := hE 6 21 (by kernel_rfl) (by kernel_rfl)
            have v21 : a.eval (.tmp 21) = .bool true := e21.trans r6
            exact wpG_no 6 false 21 rfl (by kernel_rfl) (by rw [hS]; first | simp | exact Nat.le_of_ble_eq_true rfl) v21 ⟨_, rfl, hB, Fr.refl _ _, rfl, fun _ _ _ _ _ => trivial⟩
          · simp only [List.getElem?_cons_zero, List.getElem?_cons_succ, Option.some.injEq] at ho
            subst ho
            intro a W vs hB hS hE hU
            obtain ⟨r6, e21⟩ := hE 6 21 (by kernel_rfl) (by kernel_rfl)
            have v21 : a.eval (.tmp 21) = .bool true := e21.trans r6
            exact wpG_no 6 false 21 rfl (by kernel_rfl) (by rw [hS]; first | simp | exact Nat.le_of_ble_eq_true rfl) v21 ⟨_, rfl, hB, Fr.refl _ _, rfl, fun _ _ _ _ _ => trivial⟩
          · simp only [List.getElem?_cons_zero, List.getElem?_cons_succ, Option.some.injEq] at ho
            subst ho
            intro a W vs hB hS hE hU
            obtain ⟨r6, e21⟩ := hE 6 21 (by kernel_rfl) (by kernel_rfl)
            have v21 : a.eval (.tmp 21) = .bool true := e21.trans r6
            exact wpG_no 6 false 21 rfl (by kernel_rfl) (by rw [hS]; first | simp | exact Nat.le_of_ble_eq_true rfl) v21 ⟨_, rfl, hB, Fr.refl _ _, rfl, fun _ _ _ _ _ => trivial⟩
          · simp only [List.getElem?_cons_zero, List.getElem?_cons_succ, Option.some.injEq] at ho
            subst ho
            intro a W vs hB hS hE hU
            refine wpG_plain rfl ?_
            obtain ⟨r6, e21⟩ := hE 6 21 (by kernel_rfl) (by kernel_rfl)
            have v21 : a.eval (.tmp 21) = .bool true := e21.trans r6
            clear hE hU
            exact wp_value_inv (w' := W) (.bool true) (op_pick rfl v21 (by simp only [if_true]; rfl)) ⟨_, rfl, hB, Fr.refl _ _, rfl, fun _ _ _ _ _ => trivial⟩
          · simp only [List.getElem?_cons_zero, List.getElem?_cons_succ, Option.some.injEq] at ho
            subst ho
            intro a W vs hB hS hE hU
            refine wpG_plain rfl ?_
            obtain ⟨r12, e27⟩ := hE 12 27 (by kernel_rfl) (by kernel_rfl)
            have v27 : a.eval (.tmp 27) = .bool true := e27.trans r12
            clear hE hU
            exact wp_value_inv (w' := W) (.bool true) (op_assign rfl v27) ⟨_, rfl, hB, Fr.refl _ _, rfl, fun _ _ _ _ _ => trivial⟩
        · intro vs Wa hB0 hR0 hD
          have r14 : vs 13 = .bool true := hR0 13 (by decide)
          have HA := Lib.hid hB0
          clear hR0 hD hB0
          simp only [acts, if_true, dstAt, List.getElem?_cons_zero, List.getElem?_cons_succ, Option.bind_some, Act.put, List.setIfInBounds_toArray, List.set_cons_succ, List.set_cons_zero, List.drop_succ_cons, List.drop_nil]
          simp only [r14]
          clear r14
          go_wp2
          go_ret
          exact ⟨by rw [HE.out]; rfl, H3.out.1.trans HA.out (fun _ h => h.elim)⟩
      · have D1 := Lib.hid (decide_eq_false h1)
        by_cases h2 : D < db
        · have HE := Lib.hid (show fitsQ L A D Q = 9 by rw [HF.out, if_pos (.inr h2)])
          have D2 := Lib.hid (decide_eq_true h2)
          clear h1 h2
          go_enter Try.func17, Try.ntmps17
          go_wp2_with (first
            | (go_at_call 53; rw [← HW.out.1]; refine HR.out.mono ?_; rintro e w2 ⟨rfl, hf2⟩; (have H2 := Lib.hid (And.intro (HW.out.2.1.trans hf2 (fun _ h => h.elim)) hf2)); clear hf2)
            | (go_at_call 32; refine (HQ.out _ H2.out.1).mono ?_; rintro e w3 ⟨rfl, hf3⟩; rw [HK.out]; (have H3 := Lib.hid (And.intro (H2.out.1.trans hf3 (fun _ h => h.elim)) ((H2.out.2.trans hf3 (fun _ h => h.elim)).heap HW.out.2.2 id))); clear hf3))
          have HAB := Lib.hid (fun W (hf : Fr (fun _ => False) w3 W) => HAB0.out W (H3.out.1.trans hf (fun _ h => h.elim)))
          have HDB := Lib.hid (fun W (hf : Fr (fun _ => False) w3 W) => HDB0.out W (H3.out.1.trans hf (fun _ h => h.elim)))
          have HND := Lib.hid (fun W (hf : Fr (fun _ => False) w3 W) => HND0.out W)
          have LDA := Lib.hid (fun W (hf : Fr (fun _ => False) w3 W) => load_int5 W ⟨w.heap.size, 1, none⟩ _ (hf.cell (cell_of_row _ _ _ _ _ _ H3.out.2) id))
          have LDD := Lib.hid (fun W (hf : Fr (fun _ => False) w3 W) => load_int5 W ⟨w.heap.size, 2, none⟩ _ (hf.cell (cell_of_row _ _ _ _ _ _ H3.out.2) id))
          refine wp_region_inv 14 (by kernel_rfl) (by kernel_rfl) (fun W => Fr (fun _ => False) w3 W) (FitB (w.heap.size) n cap ao A D ab nd db) (fun _ _ _ _ => True) (Fr (fun _ => False)) (FitB.ext (w.heap.size) n cap ao A D ab nd db) (Fr.refl _ _).drew ?_ ?_
          · intro i hi o ho
            replace hi : i < 14 := hi
            obtain rfl | rfl | rfl | rfl | rfl | rfl | rfl | rfl | rfl | rfl | rfl | rfl | rfl | rfl : i = 0 ∨ i = 1 ∨ i = 2 ∨ i = 3 ∨ i = 4 ∨ i = 5 ∨ i = 6 ∨ i = 7 ∨ i = 8 ∨ i = 9 ∨ i = 10 ∨ i = 11 ∨ i = 12 ∨ i = 13 := by omega
            · simp only [List.getElem?_cons_zero, Option.some.injEq] at ho
              subst ho
              intro a W vs hB hS hE hU
              refine wpG_plain rfl ?_
              have v2 : a.eval (.tmp 2) = .pointer (some ⟨(w.heap.size), 0, none⟩) := (hU 2 (by kernel_rfl)).trans rfl
              clear hE hU
              exact wp_value_inv (w' := W) (.pointer (some ⟨(w.heap.size), 1, none⟩)) (op_fieldAddr rfl v2 (fld_spence_api_Shape_1_0 W (w.heap.size))) ⟨_, rfl, hB, Fr.refl _ _, rfl, fun _ _ _ _ _ => trivial⟩
            · simp only [List.getElem?_cons_zero, List.getElem?_cons_succ, Option.some.injEq] at ho
              subst ho
              intro a W vs hB hS hE hU
              refine wpG_plain rfl ?_
              obtain ⟨r0, e15⟩ := hE 0 15 (by kernel_rfl) (by kernel_rfl)
              have v15 : a.eval (.tmp 15) = .pointer (some ⟨(w.heap.size), 1, none⟩) := e15.trans r0
              clear hE hU
              exact wp_value_inv (w' := W) (.int .i64 A) (op_loadAt rfl v15 (LDA.out W hB)) ⟨_, rfl, hB, Fr.refl _ _, rfl, fun _ _ _ _ _ => trivial⟩
            · simp only [List.getElem?_cons_zero, List.getElem?_cons_succ, Option.some.injEq] at ho
              subst ho
              intro a W vs hB hS hE hU
              refine wpG_plain rfl ?_
              have v1 : a.eval (.tmp 1) = .slice ao n cap := (hU 1 (by kernel_rfl)).trans rfl
              clear hE hU
              exact wp_value_inv (w' := W) (.slice ao n cap) (op_move rfl v1) ⟨_, rfl, hB, Fr.refl _ _, rfl, fun _ _ _ _ _ => trivial⟩
            · simp only [List.getElem?_cons_zero, List.getElem?_cons_succ, Option.some.injEq] at ho
              subst ho
              intro a W vs hB hS hE hU
              refine wpG_plain rfl ?_
              obtain ⟨r2, e17⟩ := hE 2 17 (by kernel_rfl) (by kernel_rfl)
              have v17 : a.eval (.tmp 17) = .slice ao n cap := e17.trans r2
              clear hE hU
              refine wp_call_inv 55 #[.tmp 17] #[22] rfl #[.slice ao n cap] (by simp only [List.map_toArray, List.map_cons, List.map_nil, v17]) (ent_spence_view_areaBytes _) (Post := fun v W' => v = .int .i64 ab ∧ Fr (fun _ => False) W W') ((HAB.out W hB).mono fun e w' h => ⟨_, h.1, rfl, h.2⟩) ?_
              rintro v W' ⟨rfl, hf⟩
              exact ⟨_, rfl, hB.trans hf (fun _ h => h.elim), hf, rfl, fun _ _ _ _ _ => trivial⟩
            · simp only [List.getElem?_cons_zero, List.getElem?_cons_succ, Option.some.injEq] at ho
              subst ho
              intro a W vs hB hS hE hU
              refine wpG_plain rfl ?_
              obtain ⟨r3, e18⟩ := hE 3 18 (by kernel_rfl) (by kernel_rfl)
              have v18 : a.eval (.tmp 18) = .int .i64 ab := e18.trans r3
              clear hE hU
              refine wp_call_inv 54 #[.tmp 18] #[3] rfl #[.int .i64 ab] (by simp only [List.map_toArray, List.map_cons, List.map_nil, v18]) (ent_spence_blob_Need _) (Post := fun v W' => v = .int .i64 nd ∧ Fr (fun _ => False) W W') ((HND.out W hB).mono fun e w' h => ⟨_, h.1, rfl, h.2⟩) ?_
              rintro v W' ⟨rfl, hf⟩
              exact ⟨_, rfl, hB.trans hf (fun _ h => h.elim), hf, rfl, fun _ _ _ _ _ => trivial⟩
            · simp only [List.getElem?_cons_zero, List.getElem?_cons_succ, Option.some.injEq] at ho
              subst ho
              intro a W vs hB hS hE hU
              refine wpG_plain rfl ?_
              obtain ⟨r1, e16⟩ := hE 1 16 (by kernel_rfl) (by kernel_rfl)
              have v16 : a.eval (.tmp 16) = .int .i64 A := e16.trans r1
              obtain ⟨r4, e19⟩ := hE 4 19 (by kernel_rfl) (by kernel_rfl)
              have v19 : a.eval (.tmp 19) = .int .i64 nd := e19.trans r4
              clear hE hU
              exact wp_value_inv (w' := W) (.bool false) (op_bin rfl v16 v19 (rfl) (lss9 D1.out)) ⟨_, rfl, hB, Fr.refl _ _, rfl, fun _ _ _ _ _ => trivial⟩
            · simp only [List.getElem?_cons_zero, List.getElem?_cons_succ, Option.some.injEq] at ho
              subst ho
              intro a W vs hB hS hE hU
              refine wpG_plain rfl ?_
              obtain ⟨r5, e20⟩ := hE 5 20 (by kernel_rfl) (by kernel_rfl)
              have v20 : a.eval (.tmp 20) = .bool false := e20.trans r5
              clear hE hU
              exact wp_value_inv (w' := W) (.bool false) (op_move rfl v20) ⟨_, rfl, hB, Fr.refl _ _, rfl, fun _ _ _ _ _ => trivial⟩
            · simp only [List.getElem?_cons_zero, List.getElem?_cons_succ, Option.some.injEq] at ho
              subst ho
              intro a W vs hB hS hE hU
              obtain ⟨r6, e21⟩ := hE 6 21 (by kernel_rfl) (by kernel_rfl)
              have v21 : a.eval (.tmp 21) = .bool false := e21.trans r6
              refine wpG_yes 6 false 21 rfl (by kernel_rfl) (by rw [hS]; first | simp | exact Nat.le_of_ble_eq_true rfl) v21 ?_
              have v2 : a.eval (.tmp 2) = .pointer (some ⟨(w.heap.size), 0, none⟩) := (hU 2 (by kernel_rfl)).trans rfl
              clear hE hU
              exact wp_value_inv (w' := W) (.pointer (some ⟨(w.heap.size), 2, none⟩)) (op_fieldAddr rfl v2 (fld_spence_api_Shape_2_0 W (w.heap.size))) ⟨_, rfl, hB, Fr.refl _ _, rfl, fun _ _ _ _ _ => trivial⟩
            · simp only [List.getElem?_cons_zero, List.getElem?_cons_succ, Option.some.injEq] at ho
              subst ho
              intro a W vs hB hS hE hU
              obtain ⟨r6, e21⟩ := hE 6 21 (by kernel_rfl) (by kernel_rfl)
              have v21 : a.eval (.tmp 21) = .bool false := e21.trans r6
              refine wpG_yes 6 false 21 rfl (by kernel_rfl) (by rw [hS]; first | simp | exact Nat.le_of_ble_eq_true rfl) v21 ?_
              obtain ⟨r7, e22⟩ := hE 7 22 (by kernel_rfl) (by kernel_rfl)
              have v22 : a.eval (.tmp 22) = .pointer (some ⟨(w.heap.size), 2, none⟩) := e22.trans r7
              clear hE hU
              exact wp_value_inv (w' := W) (.int .i64 D) (op_loadAt rfl v22 (LDD.out W hB)) ⟨_, rfl, hB, Fr.refl _ _, rfl, fun _ _ _ _ _ => trivial⟩
            · simp only [List.getElem?_cons_zero, List.getElem?_cons_succ, Option.some.injEq] at ho
              subst ho
              intro a W vs hB hS hE hU
              obtain ⟨r6, e21⟩ := hE 6 21 (by kernel_rfl) (by kernel_rfl)
              have v21 : a.eval (.tmp 21) = .bool false := e21.trans r6
              refine wpG_yes 6 false 21 rfl (by kernel_rfl) (by rw [hS]; first | simp | exact Nat.le_of_ble_eq_true rfl) v21 ?_
              have v1 : a.eval (.tmp 1) = .slice ao n cap := (hU 1 (by kernel_rfl)).trans rfl
              clear hE hU
              exact wp_value_inv (w' := W) (.slice ao n cap) (op_move rfl v1) ⟨_, rfl, hB, Fr.refl _ _, rfl, fun _ _ _ _ _ => trivial⟩
            · simp only [List.getElem?_cons_zero, List.getElem?_cons_succ, Option.some.injEq] at ho
              subst ho
              intro a W vs hB hS hE hU
              obtain ⟨r6, e21⟩ := hE 6 21 (by kernel_rfl) (by kernel_rfl)
              have v21 : a.eval (.tmp 21) = .bool false := e21.trans r6
              refine wpG_yes 6 false 21 rfl (by kernel_rfl) (by rw [hS]; first | simp | exact Nat.le_of_ble_eq_true rfl) v21 ?_
              obtain ⟨r9, e24⟩ := hE 9 24 (by kernel_rfl) (by kernel_rfl)
              have v24 : a.eval (.tmp 24) = .slice ao n cap := e24.trans r9
              clear hE hU
              refine wp_call_inv 56 #[.tmp 24] #[22] rfl #[.slice ao n cap] (by simp only [List.map_toArray, List.map_cons, List.map_nil, v24]) (ent_spence_view_dataSectors _) (Post := fun v W' => v = .int .i64 db ∧ Fr (fun _ => False) W W') ((HDB.out W hB).mono fun e w' h => ⟨_, h.1, rfl, h.2⟩) ?_
              rintro v W' ⟨rfl, hf⟩
              exact ⟨_, rfl, hB.trans hf (fun _ h => h.elim), hf, rfl, fun _ _ _ _ _ => trivial⟩
            · simp only [List.getElem?_cons_zero, List.getElem?_cons_succ, Option.some.injEq] at ho
              subst ho
              intro a W vs hB hS hE hU
              obtain ⟨r6, e21⟩ := hE 6 21 (by kernel_rfl) (by kernel_rfl)
              have v21 : a.eval (.tmp 21) = .bool false := e21.trans r6
              refine wpG_yes 6 false 21 rfl (by kernel_rfl) (by rw [hS]; first | simp | exact Nat.le_of_ble_eq_true rfl) v21 ?_
              obtain ⟨r8, e23⟩ := hE 8 23 (by kernel_rfl) (by kernel_rfl)
              have v23 : a.eval (.tmp 23) = .int .i64 D := e23.trans r8
              obtain ⟨r10, e25⟩ := hE 10 25 (by kernel_rfl) (by kernel_rfl)
              have v25 : a.eval (.tmp 25) = .int .i64 db := e25.trans r10
              clear hE hU
              exact wp_value_inv (w' := W) (.bool true) (op_bin rfl v23 v25 (rfl) (lss9 D2.out)) ⟨_, rfl, hB, Fr.refl _ _, rfl, fun _ _ _ _ _ => trivial⟩
            · simp only [List.getElem?_cons_zero, List.getElem?_cons_succ, Option.some.injEq] at ho
              subst ho
              intro a W vs hB hS hE hU
              refine wpG_plain rfl ?_
              obtain ⟨r6, e21⟩ := hE 6 21 (by kernel_rfl) (by kernel_rfl)
              have v21 : a.eval (.tmp 21) = .bool false := e21.trans r6
              obtain ⟨r11, e26⟩ := hE 11 26 (by kernel_rfl) (by kernel_rfl)
              have v26 : a.eval (.tmp 26) = .bool true := e26.trans r11
              clear hE hU
              exact wp_value_inv (w' := W) (.bool true) (op_pick rfl v21 (by simp only [Bool.false_eq_true, if_false]; exact v26)) ⟨_, rfl, hB, Fr.refl _ _, rfl, fun _ _ _ _ _ => trivial⟩
            · simp only [List.getElem?_cons_zero, List.getElem?_cons_succ, Option.some.injEq] at ho
              subst ho
              intro a W vs hB hS hE hU
              refine wpG_plain rfl ?_
              obtain ⟨r12, e27⟩ := hE 12 27 (by kernel_rfl) (by kernel_rfl)
              have v27 : a.eval (.tmp 27) = .bool true := e27.trans r12
              clear hE hU
              exact wp_value_inv (w' := W) (.bool true) (op_assign rfl v27) ⟨_, rfl, hB, Fr.refl _ _, rfl, fun _ _ _ _ _ => trivial⟩
          · intro vs Wa hB0 hR0 hD
            have r14 : vs 13 = .bool true := hR0 13 (by decide)
            have HA := Lib.hid hB0
            clear hR0 hD hB0
            simp only [acts, if_true, dstAt, List.getElem?_cons_zero, List.getElem?_cons_succ, Option.bind_some, Act.put, List.setIfInBounds_toArray, List.set_cons_succ, List.set_cons_zero, List.drop_succ_cons, List.drop_nil]
            simp only [r14]
            clear r14
            go_wp2
            go_ret
            exact ⟨by rw [HE.out]; rfl, H3.out.1.trans HA.out (fun _ h => h.elim)⟩
        · have HE := Lib.hid (show fitsQ L A D Q = 0 by rw [HF.out, if_neg (fun h => h.elim h1 h2)])
          have D2 := Lib.hid (decide_eq_false h2)
          clear h1 h2
          go_enter Try.func17, Try.ntmps17
          go_wp2_with (first
            | (go_at_call 53; rw [← HW.out.1]; refine HR.out.mono ?_; rintro e w2 ⟨rfl, hf2⟩; (have H2 := Lib.hid (And.intro (HW.out.2.1.trans hf2 (fun _ h => h.elim)) hf2)); clear hf2)
            | (go_at_call 32; refine (HQ.out _ H2.out.1).mono ?_; rintro e w3 ⟨rfl, hf3⟩; rw [HK.out]; (have H3 := Lib.hid (And.intro (H2.out.1.trans hf3 (fun _ h => h.elim)) ((H2.out.2.trans hf3 (fun _ h => h.elim)).heap HW.out.2.2 id))); clear hf3))
          have HAB := Lib.hid (fun W (hf : Fr (fun _ => False) w3 W) => HAB0.out W (H3.out.1.trans hf (fun _ h => h.elim)))
          have HDB := Lib.hid (fun W (hf : Fr (fun _ => False) w3 W) => HDB0.out W (H3.out.1.trans hf (fun _ h => h.elim)))
          have HND := Lib.hid (fun W (hf : Fr (fun _ => False) w3 W) => HND0.out W)
          have LDA := Lib.hid (fun W (hf : Fr (fun _ => False) w3 W) => load_int5 W ⟨w.heap.size, 1, none⟩ _ (hf.cell (cell_of_row _ _ _ _ _ _ H3.out.2) id))
          have LDD := Lib.hid (fun W (hf : Fr (fun _ => False) w3 W) => load_int5 W ⟨w.heap.size, 2, none⟩ _ (hf.cell (cell_of_row _ _ _ _ _ _ H3.out.2) id))
          refine wp_region_inv 14 (by kernel_rfl) (by kernel_rfl) (fun W => Fr (fun _ => False) w3 W) (FitC (w.heap.size) n cap ao A D ab nd db) (fun _ _ _ _ => True) (Fr (fun _ => False)) (FitC.ext (w.heap.size) n cap ao A D ab nd db) (Fr.refl _ _).drew ?_ ?_
          · intro i hi o ho
            replace hi : i < 14 := hi
            obtain rfl | rfl | rfl | rfl | rfl | rfl | rfl | rfl | rfl | rfl | rfl | rfl | rfl | rfl : i = 0 ∨ i = 1 ∨ i = 2 ∨ i = 3 ∨ i = 4 ∨ i = 5 ∨ i = 6 ∨ i = 7 ∨ i = 8 ∨ i = 9 ∨ i = 10 ∨ i = 11 ∨ i = 12 ∨ i = 13 := by omega
            · simp only [List.getElem?_cons_zero, Option.some.injEq] at ho
              subst ho
              intro a W vs hB hS hE hU
              refine wpG_plain rfl ?_
              have v2 : a.eval (.tmp 2) = .pointer (some ⟨(w.heap.size), 0, none⟩) := (hU 2 (by kernel_rfl)).trans rfl
              clear hE hU
              exact wp_value_inv (w' := W) (.pointer (some ⟨(w.heap.size), 1, none⟩)) (op_fieldAddr rfl v2 (fld_spence_api_Shape_1_0 W (w.heap.size))) ⟨_, rfl, hB, Fr.refl _ _, rfl, fun _ _ _ _ _ => trivial⟩
            · simp only [List.getElem?_cons_zero, List.getElem?_cons_succ, Option.some.injEq] at ho
              subst ho
              intro a W vs hB hS hE hU
              refine wpG_plain rfl ?_
              obtain ⟨r0, e15⟩ := hE 0 15 (by kernel_rfl) (by kernel_rfl)
              have v15 : a.eval (.tmp 15) = .pointer (some ⟨(w.heap.size), 1, none⟩) := e15.trans r0
              clear hE hU
              exact wp_value_inv (w' := W) (.int .i64 A) (op_loadAt rfl v15 (LDA.out W hB)) ⟨_, rfl, hB, Fr.refl _ _, rfl, fun _ _ _ _ _ => trivial⟩
            · simp only [List.getElem?_cons_zero, List.getElem?_cons_succ, Option.some.injEq] at ho
              subst ho
              intro a W vs hB hS hE hU
              refine wpG_plain rfl ?_
              have v1 : a.eval (.tmp 1) = .slice ao n cap := (hU 1 (by kernel_rfl)).trans rfl
              clear hE hU
              exact wp_value_inv (w' := W) (.slice ao n cap) (op_move rfl v1) ⟨_, rfl, hB, Fr.refl _ _, rfl, fun _ _ _ _ _ => trivial⟩
            · simp only [List.getElem?_cons_zero, List.getElem?_cons_succ, Option.some.injEq] at ho
              subst ho
              intro a W vs hB hS hE hU
              refine wpG_plain rfl ?_
              obtain ⟨r2, e17⟩ := hE 2 17 (by kernel_rfl) (by kernel_rfl)
              have v17 : a.eval (.tmp 17) = .slice ao n cap := e17.trans r2
              clear hE hU
              refine wp_call_inv 55 #[.tmp 17] #[22] rfl #[.slice ao n cap] (by simp only [List.map_toArray, List.map_cons, List.map_nil, v17]) (ent_spence_view_areaBytes _) (Post := fun v W' => v = .int .i64 ab ∧ Fr (fun _ => False) W W') ((HAB.out W hB).mono fun e w' h => ⟨_, h.1, rfl, h.2⟩) ?_
              rintro v W' ⟨rfl, hf⟩
              exact ⟨_, rfl, hB.trans hf (fun _ h => h.elim), hf, rfl, fun _ _ _ _ _ => trivial⟩
            · simp only [List.getElem?_cons_zero, List.getElem?_cons_succ, Option.some.injEq] at ho
              subst ho
              intro a W vs hB hS hE hU
              refine wpG_plain rfl ?_
              obtain ⟨r3, e18⟩ := hE 3 18 (by kernel_rfl) (by kernel_rfl)
              have v18 : a.eval (.tmp 18) = .int .i64 ab := e18.trans r3
              clear hE hU
              refine wp_call_inv 54 #[.tmp 18] #[3] rfl #[.int .i64 ab] (by simp only [List.map_toArray, List.map_cons, List.map_nil, v18]) (ent_spence_blob_Need _) (Post := fun v W' => v = .int .i64 nd ∧ Fr (fun _ => False) W W') ((HND.out W hB).mono fun e w' h => ⟨_, h.1, rfl, h.2⟩) ?_
              rintro v W' ⟨rfl, hf⟩
              exact ⟨_, rfl, hB.trans hf (fun _ h => h.elim), hf, rfl, fun _ _ _ _ _ => trivial⟩
            · simp only [List.getElem?_cons_zero, List.getElem?_cons_succ, Option.some.injEq] at ho
              subst ho
              intro a W vs hB hS hE hU
              refine wpG_plain rfl ?_
              obtain ⟨r1, e16⟩ := hE 1 16 (by kernel_rfl) (by kernel_rfl)
              have v16 : a.eval (.tmp 16) = .int .i64 A := e16.trans r1
              obtain ⟨r4, e19⟩ := hE 4 19 (by kernel_rfl) (by kernel_rfl)
              have v19 : a.eval (.tmp 19) = .int .i64 nd := e19.trans r4
              clear hE hU
              exact wp_value_inv (w' := W) (.bool false) (op_bin rfl v16 v19 (rfl) (lss9 D1.out)) ⟨_, rfl, hB, Fr.refl _ _, rfl, fun _ _ _ _ _ => trivial⟩
            · simp only [List.getElem?_cons_zero, List.getElem?_cons_succ, Option.some.injEq] at ho
              subst ho
              intro a W vs hB hS hE hU
              refine wpG_plain rfl ?_
              obtain ⟨r5, e20⟩ := hE 5 20 (by kernel_rfl) (by kernel_rfl)
              have v20 : a.eval (.tmp 20) = .bool false := e20.trans r5
              clear hE hU
              exact wp_value_inv (w' := W) (.bool false) (op_move rfl v20) ⟨_, rfl, hB, Fr.refl _ _, rfl, fun _ _ _ _ _ => trivial⟩
            · simp only [List.getElem?_cons_zero, List.getElem?_cons_succ, Option.some.injEq] at ho
              subst ho
              intro a W vs hB hS hE hU
              obtain ⟨r6, e21⟩ := hE 6 21 (by kernel_rfl) (by kernel_rfl)
              have v21 : a.eval (.tmp 21) = .bool false := e21.trans r6
              refine wpG_yes 6 false 21 rfl (by kernel_rfl) (by rw [hS]; first | simp | exact Nat.le_of_ble_eq_true rfl) v21 ?_
              have v2 : a.eval (.tmp 2) = .pointer (some ⟨(w.heap.size), 0, none⟩) := (hU 2 (by kernel_rfl)).trans rfl
              clear hE hU
              exact wp_value_inv (w' := W) (.pointer (some ⟨(w.heap.size), 2, none⟩)) (op_fieldAddr rfl v2 (fld_spence_api_Shape_2_0 W (w.heap.size))) ⟨_, rfl, hB, Fr.refl _ _, rfl, fun _ _ _ _ _ => trivial⟩
            · simp only [List.getElem?_cons_zero, List.getElem?_cons_succ, Option.some.injEq] at ho
              subst ho
              intro a W vs hB hS hE hU
              obtain ⟨r6, e21⟩ := hE 6 21 (by kernel_rfl) (by kernel_rfl)
              have v21 : a.eval (.tmp 21) = .bool false := e21.trans r6
              refine wpG_yes 6 false 21 rfl (by kernel_rfl) (by rw [hS]; first | simp | exact Nat.le_of_ble_eq_true rfl) v21 ?_
              obtain ⟨r7, e22⟩ := hE 7 22 (by kernel_rfl) (by kernel_rfl)
              have v22 : a.eval (.tmp 22) = .pointer (some ⟨(w.heap.size), 2, none⟩) := e22.trans r7
              clear hE hU
              exact wp_value_inv (w' := W) (.int .i64 D) (op_loadAt rfl v22 (LDD.out W hB)) ⟨_, rfl, hB, Fr.refl _ _, rfl, fun _ _ _ _ _ => trivial⟩
            · simp only [List.getElem?_cons_zero, List.getElem?_cons_succ, Option.some.injEq] at ho
              subst ho
              intro a W vs hB hS hE hU
              obtain ⟨r6, e21⟩ := hE 6 21 (by kernel_rfl) (by kernel_rfl)
              have v21 : a.eval (.tmp 21) = .bool false := e21.trans r6
              refine wpG_yes 6 false 21 rfl (by kernel_rfl) (by rw [hS]; first | simp | exact Nat.le_of_ble_eq_true rfl) v21 ?_
              have v1 : a.eval (.tmp 1) = .slice ao n cap := (hU 1 (by kernel_rfl)).trans rfl
              clear hE hU
              exact wp_value_inv (w' := W) (.slice ao n cap) (op_move rfl v1) ⟨_, rfl, hB, Fr.refl _ _, rfl, fun _ _ _ _ _ => trivial⟩
            · simp only [List.getElem?_cons_zero, List.getElem?_cons_succ, Option.some.injEq] at ho
              subst ho
              intro a W vs hB hS hE hU
              obtain ⟨r6, e21⟩ := hE 6 21 (by kernel_rfl) (by kernel_rfl)
              have v21 : a.eval (.tmp 21) = .bool false := e21.trans r6
              refine wpG_yes 6 false 21 rfl (by kernel_rfl) (by rw [hS]; first | simp | exact Nat.le_of_ble_eq_true rfl) v21 ?_
              obtain ⟨r9, e24⟩ := hE 9 24 (by kernel_rfl) (by kernel_rfl)
              have v24 : a.eval (.tmp 24) = .slice ao n cap := e24.trans r9
              clear hE hU
              refine wp_call_inv 56 #[.tmp 24] #[22] rfl #[.slice ao n cap] (by simp only [List.map_toArray, List.map_cons, List.map_nil, v24]) (ent_spence_view_dataSectors _) (Post := fun v W' => v = .int .i64 db ∧ Fr (fun _ => False) W W') ((HDB.out W hB).mono fun e w' h => ⟨_, h.1, rfl, h.2⟩) ?_
              rintro v W' ⟨rfl, hf⟩
              exact ⟨_, rfl, hB.trans hf (fun _ h => h.elim), hf, rfl, fun _ _ _ _ _ => trivial⟩
            · simp only [List.getElem?_cons_zero, List.getElem?_cons_succ, Option.some.injEq] at ho
              subst ho
              intro a W vs hB hS hE hU
              obtain ⟨r6, e21⟩ := hE 6 21 (by kernel_rfl) (by kernel_rfl)
              have v21 : a.eval (.tmp 21) = .bool false := e21.trans r6
              refine wpG_yes 6 false 21 rfl (by kernel_rfl) (by rw [hS]; first | simp | exact Nat.le_of_ble_eq_true rfl) v21 ?_
              obtain ⟨r8, e23⟩ := hE 8 23 (by kernel_rfl) (by kernel_rfl)
              have v23 : a.eval (.tmp 23) = .int .i64 D := e23.trans r8
              obtain ⟨r10, e25⟩ := hE 10 25 (by kernel_rfl) (by kernel_rfl)
              have v25 : a.eval (.tmp 25) = .int .i64 db := e25.trans r10
              clear hE hU
              exact wp_value_inv (w' := W) (.bool false) (op_bin rfl v23 v25 (rfl) (lss9 D2.out)) ⟨_, rfl, hB, Fr.refl _ _, rfl, fun _ _ _ _ _ => trivial⟩
            · simp only [List.getElem?_cons_zero, List.getElem?_cons_succ, Option.some.injEq] at ho
              subst ho
              intro a W vs hB hS hE hU
              refine wpG_plain rfl ?_
              obtain ⟨r6, e21⟩ := hE 6 21 (by kernel_rfl) (by kernel_rfl)
              have v21 : a.eval (.tmp 21) = .bool false := e21.trans r6
              obtain ⟨r11, e26⟩ := hE 11 26 (by kernel_rfl) (by kernel_rfl)
              have v26 : a.eval (.tmp 26) = .bool false := e26.trans r11
              clear hE hU
              exact wp_value_inv (w' := W) (.bool false) (op_pick rfl v21 (by simp only [Bool.false_eq_true, if_false]; exact v26)) ⟨_, rfl, hB, Fr.refl _ _, rfl, fun _ _ _ _ _ => trivial⟩
            · simp only [List.getElem?_cons_zero, List.getElem?_cons_succ, Option.some.injEq] at ho
              subst ho
              intro a W vs hB hS hE hU
              refine wpG_plain rfl ?_
              obtain ⟨r12, e27⟩ := hE 12 27 (by kernel_rfl) (by kernel_rfl)
              have v27 : a.eval (.tmp 27) = .bool false := e27.trans r12
              clear hE hU
              exact wp_value_inv (w' := W) (.bool false) (op_assign rfl v27) ⟨_, rfl, hB, Fr.refl _ _, rfl, fun _ _ _ _ _ => trivial⟩
          · intro vs Wa hB0 hR0 hD
            have r14 : vs 13 = .bool false := hR0 13 (by decide)
            have HA := Lib.hid hB0
            clear hR0 hD hB0
            simp only [acts, if_true, dstAt, List.getElem?_cons_zero, List.getElem?_cons_succ, Option.bind_some, Act.put, List.setIfInBounds_toArray, List.set_cons_succ, List.set_cons_zero, List.drop_succ_cons, List.drop_nil]
            simp only [r14]
            clear r14
            go_wp2
            go_ret
            exact ⟨by rw [HE.out]; rfl, H3.out.1.trans HA.out (fun _ h => h.elim)⟩
end Go.Proofs.Ytdpaobflknkbkaa
