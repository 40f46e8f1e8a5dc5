/- Laid together: VMc VNmR -/
import Derived.Test.YtdpaobflknkbkaaVe10
import Derived.Test.YtdpaobflknkbkaaVe3

namespace Go.Proofs.Ytdpaobflknkbkaa
open Go.RowKit Go.ChangeShapes
set_option linter.unusedVariables false
theorem op_field9 {P : Program} {w : World} {o : Oper} {a : Act} {t : TypeId} {x : Operand} {f : Nat} {vx v : Value} (ho : o.op = .field t x f) (hx : a.eval x = vx) (hr : (Instr.field t vx f).run P w = .ok v w) : (execOp a.eval o).run P w = .ok (.value v) w := by
  unfold execOp
  rw [ho]
  simp only [hx, Sem.run_bind, hr, Result.andThen_ok]
  rfl
theorem qfld2 (b o r n : Int) (w : World) : (Instr.field 38 (.agg #[.int .i64 b, .int .i64 o, .int .i64 r, .int .i64 n]) 2).run Try.prog w = .ok (.int .i64 r) w := by kernel_rfl
theorem qfld3 (b o r n : Int) (w : World) : (Instr.field 38 (.agg #[.int .i64 b, .int .i64 o, .int .i64 r, .int .i64 n]) 3).run Try.prog w = .ok (.int .i64 n) w := by kernel_rfl
theorem ent_copyB (args : Array Value) (w : World) : (callFunc 63 args).run Try.prog w = .ok (.enter 63 args) w := by kernel_rfl
theorem fld_spence_view_View_1_0 (w : World) (g : Nat) : (Instr.fieldAt 83 (.pointer (some ⟨g, 0, none⟩)) 1).run Try.prog w = .ok (.pointer (some ⟨g, 1, none⟩)) w := by kernel_rfl
theorem ent___spence_view_View__quota (args : Array Value) (w : World) : (callFunc 52 args).run Try.prog w = .ok (.enter 52 args) w := by kernel_rfl
theorem fld_spence_view_View_2_0 (w : World) (g : Nat) : (Instr.fieldAt 83 (.pointer (some ⟨g, 0, none⟩)) 2).run Try.prog w = .ok (.pointer (some ⟨g, 2, none⟩)) w := by kernel_rfl
def RtR (vb rb xb : Nat) (who qb qo qr qn : Int) (N : ByteArray) (C : Array Value) (i : Nat) (v : Value) (W : World) : Prop :=
  match i with
  | 0 => v = .pointer (some ⟨vb, 0, none⟩)
  | 1 => v = .pointer (some ⟨vb, 0, none⟩)
  | 2 => v = .pointer (some ⟨vb, 1, none⟩)
  | 3 => v = .pointer (some ⟨rb, 0, none⟩)
  | 4 => v = .int .i64 who
  | 5 => v = .string N
  | 6 => v = .agg #[.int .i64 who, .string N]
  | 7 => v = .agg C
  | 8 => v = .pointer (some ⟨vb, 0, none⟩)
  | 9 => v = .int .i64 who
  | 10 => v = .agg #[.int .i64 qb, .int .i64 qo, .int .i64 qr, .int .i64 qn]
  | 11 => v = .int .i64 qr
  | _ => True
theorem RtR.ext (vb rb xb : Nat) (who qb qo qr qn : Int) (N : ByteArray) (C : Array Value) : ∀ (j : Nat) (u : Value) (W W' : World), Fr (fun _ => False) W W' → RtR vb rb xb who qb qo qr qn N C j u W → RtR vb rb xb who qb qo qr qn N C j u W'
  | 0, u, W, W', hf, h => h
  | 1, u, W, W', hf, h => h
  | 2, u, W, W', hf, h => h
  | 3, u, W, W', hf, h => h
  | 4, u, W, W', hf, h => h
  | 5, u, W, W', hf, h => h
  | 6, u, W, W', hf, h => h
  | 7, u, W, W', hf, h => h
  | 8, u, W, W', hf, h => h
  | 9, u, W, W', hf, h => h
  | 10, u, W, W', hf, h => h
  | 11, u, W, W', hf, h => h
  | _ + 12, u, W, W', hf, h => trivial
def rootE (s : VS) (who : Int) (k : Bs) (p : PathX) : Int := if isUser s who then (if nameB k = true ∧ nameB p.n.data.toList = true then (if vGet (s.R who) k = none ∧ (s.quota who).r ≤ ((s.R who).length : Int) then 8 else 0) else 2) else 18
def rootS (s : VS) (who : Int) (k : Bs) (p : PathX) : VS := if rootE s who k p = 0 then s.setR who (vPut (s.R who) k p) else s
def noteE (s : VS) (who : Int) (k : Bs) (b : Bs) : Int := if isUser s who then (if 1 ≤ k.length ∧ k.length ≤ 62 then (if b.length ≤ 2048 then (if vGet (s.N who) k = none ∧ (s.quota who).n ≤ ((s.N who).length : Int) then 8 else 0) else 3) else 2) else 18
def noteS (s : VS) (who : Int) (k : Bs) (b : Bs) : VS := if noteE s who k b = 0 then s.setN who (vPut (s.N who) k b) else s
theorem nameB_len {L : Bs} (h : nameB L = true) : 1 ≤ L.length ∧ L.length ≤ 24 := by
  unfold nameB at h
  simp only [Bool.and_eq_true, decide_eq_true_eq] at h
  omega
theorem putR_any {F : Nat → Prop} {bk tm mm n : Nat} {B : Int → VT PathX} (w : World) (h : BkAt kR 118 F w bk tm mm n B) (hn : n ≤ 100000) (who : Int) (hw : Wf who) (N : ByteArray) (hN : N.size ≤ 64) (x : PathX) (hx : x.n.size ≤ 64) (most : Int) (E : Int) (hE : E = (if vGet (B who) N.data.toList = none ∧ most ≤ ((B who).length : Int) then 8 else 0)) :
    Calls Try.prog 65 #[.pointer (some ⟨bk, 0, none⟩), .agg #[.int .i64 who, .string N], .agg (pathC x.h x.n), .int .i64 most] w fun e w' => e = .returned (.int .i64 E) ∧ ((E = 8 ∧ Fr (fun _ => False) w w') ∨ (E = 0 ∧ BkAt kR 118 F w' bk tm mm (n + 1) (upd B who (vPut (B who) N.data.toList x)) ∧ Fr (fun k => k = tm ∨ k = mm) w w')) := by
  cases hg : vGet (B who) N.data.toList with
  | none =>
    by_cases hm : most ≤ ((B who).length : Int)
    · rw [if_pos ⟨hg, hm⟩] at hE
      subst hE
      refine (putR_full w h hn who hw N hN x hx most hg hm).mono ?_
      rintro e w' ⟨rfl, hf⟩
      exact ⟨rfl, .inl ⟨rfl, hf⟩⟩
    · rw [if_neg (fun h => hm h.2)] at hE
      subst hE
      refine (putR_new w h hn who hw N hN x hx most hg (by omega)).mono ?_
      rintro e w' ⟨rfl, hb, hf⟩
      exact ⟨rfl, .inr ⟨rfl, hb, hf⟩⟩
  | some y =>
    rw [if_neg (fun h => by rw [hg] at h; cases h.1)] at hE
    subst hE
    refine (putR_old w h hn who hw N hN x hx most (by rw [hg]; rfl)).mono ?_
    rintro e w' ⟨rfl, hb, hf⟩
    exact ⟨rfl, .inr ⟨rfl, hb, hf⟩⟩
theorem putN_any {F : Nat → Prop} {bk tm mm n : Nat} {B : Int → VT Bs} (w : World) (h : BkAt kN 121 F w bk tm mm n B) (hn : n ≤ 100000) (who : Int) (hw : Wf who) (N : ByteArray) (hN : N.size ≤ 64) (yv : Value) (x : Bs) (hx : BytesIn F w yv x) (hxl : x.length ≤ 2048) (most : Int) (E : Int) (hE : E = (if vGet (B who) N.data.toList = none ∧ most ≤ ((B who).length : Int) then 8 else 0)) :
    Calls Try.prog 68 #[.pointer (some ⟨bk, 0, none⟩), .agg #[.int .i64 who, .string N], yv, .int .i64 most] w fun e w' => e = .returned (.int .i64 E) ∧ ((E = 8 ∧ Fr (fun _ => False) w w') ∨ (E = 0 ∧ BkAt kN 121 F w' bk tm mm (n + 1) (upd B who (vPut (B who) N.data.toList x)) ∧ Fr (fun k => k = tm ∨ k = mm) w w')) := by
  cases hg : vGet (B who) N.data.toList with
  | none =>
    by_cases hm : most ≤ ((B who).length : Int)
    · rw [if_pos ⟨hg, hm⟩] at hE
      subst hE
      refine (putN_full w h hn who hw N hN yv x hx hxl most hg hm).mono ?_
      rintro e w' ⟨rfl, hf⟩
      exact ⟨rfl, .inl ⟨rfl, hf⟩⟩
    · rw [if_neg (fun h => hm h.2)] at hE
      subst hE
      refine (putN_new w h hn who hw N hN yv x hx hxl most hg (by omega)).mono ?_
      rintro e w' ⟨rfl, hb, hf⟩
      exact ⟨rfl, .inr ⟨rfl, hb, hf⟩⟩
  | some y =>
    rw [if_neg (fun h => by rw [hg] at h; cases h.1)] at hE
    subst hE
    refine (putN_old w h hn who hw N hN yv x hx hxl most (by rw [hg]; rfl)).mono ?_
    rintro e w' ⟨rfl, hb, hf⟩
    exact ⟨rfl, .inr ⟨rfl, hb, hf⟩⟩
theorem vPut_le {α : Type} {M : VT α} (h : VOk M) (k : Bs) (x : α) {most : Int} (hm : (M.length : Int) ≤ most) (hf : ¬ (vGet M k = none ∧ most ≤ (M.length : Int))) : ((vPut M k x).length : Int) ≤ most := by
  rw [vPut_len h]
  split
  · omega
  · next hs =>
    have : vGet M k = none := by cases hq : vGet M k with
      | none => rfl
      | some y => rw [hq] at hs; exact absurd rfl hs
    have : ¬ most ≤ (M.length : Int) := fun h => hf ⟨this, h⟩
    omega
section
variable {F G S : Nat → Prop} {w w' : World} {A : VA} {n : Nat} {s : VS}
set_option maxRecDepth 100000 in
set_option maxHeartbeats 2000000 in
theorem root_any (h : VwAt F w A n s) (hn : n ≤ 100000) (who : Int) (N : ByteArray) (hN : N.size ≤ 140737488351232) (p : PathX) (hp : p.n.size ≤ 140737488351232) : Calls Try.prog 31 #[.pointer (some ⟨A.vb, 0, none⟩), .int .i64 who, .string N, .agg (pathC p.h p.n)] w fun e w' => e = .returned (.int .i64 (rootE s who N.data.toList p)) ∧ VwAt F w' A (n + 1) (rootS s who N.data.toList p) ∧ Fr (fun k => k = A.tr ∨ k = A.mr) w w' := by
  obtain ⟨C, hC⟩ : ∃ C, C = pathC p.h p.n := ⟨_, rfl⟩
  have hCs : C.size = 21 := by rw [hC]; exact pathC_size p.h p.hl p.n
  have hC20 : C[20]? = some (.string p.n) := by rw [hC]; exact pathC_name p.h p.hl p.n
  obtain ⟨W1, hW1⟩ : ∃ W1, W1 = w.alloc (.cells C 43) := ⟨_, rfl⟩
  have hf1 : Fr (fun _ => False) w W1 := by rw [hW1]; exact (Fr.refl _ _).alloc _
  have hb1 : W1.heap[w.heap.size]? = some (.cells C 43 (0, 0)) := by rw [hW1]; exact heap_alloc_new w _
  have h1 := h.quiet hf1
  have cn : W1.cell? ⟨w.heap.size, 20, none⟩ = some (.string p.n) := by rw [cell_of_row _ _ _ _ _ _ hb1]; exact hC20
  have HW := Lib.hid (And.intro hW1 (And.intro hf1 (And.intro hb1 cn)))
  have HC := Lib.hid (And.intro hC hCs)
  rw [← hC]
  have HN1 := Lib.hid (fun W => bName_any N hN W)
  have HN2 := Lib.hid (fun W => bName_any p.n hp W)
  have HH := Lib.hid h1
  by_cases hu : isUser s who
  · have hr := ready_yes h1 who hu
    have HR := Lib.hid hr
    cases hn1 : nameB N.data.toList with
    | false =>
      have hE : rootE s who N.data.toList p = 2 := by unfold rootE; rw [if_pos hu, if_neg (fun h => by rw [hn1] at h; cases h.1)]
      have hS : rootS s who N.data.toList p = s := by unfold rootS; rw [hE, if_neg (by decide)]
      rw [hn1] at HN1
      rw [hS, hE]
      clear hr h h1 hu hE hS hf1 hb1 hW1 hC hCs hC20 cn hn1
      go_enter Try.func31, Try.ntmps31
      go_wp2_with fail
      rw [← HW.out.1]
      go_wp2_with (first
        | (go_at_call 51; refine HR.out.mono ?_; rintro e w1 ⟨rfl, rfl⟩)
        | (go_at_call 64; with_reducible refine (HN1.out _).mono ?_; rintro e w2 ⟨rfl, hf2⟩; (have H2 := Lib.hid hf2); clear hf2))
      go_ret
      exact ⟨rfl, (HH.out.quiet H2.out).more (Nat.le_succ n), (HW.out.2.1.trans H2.out (fun _ h => h.elim)).mono (fun _ _ h => h.elim)⟩
    | true =>
      rw [hn1] at HN1
      have HNT := Lib.hid hn1
      cases hn2 : nameB p.n.data.toList with
      | false =>
        have hE : rootE s who N.data.toList p = 2 := by unfold rootE; rw [if_pos hu, if_neg (fun h => by rw [hn2] at h; cases h.2)]
        have hS : rootS s who N.data.toList p = s := by unfold rootS; rw [hE, if_neg (by decide)]
        rw [hn2] at HN2
        rw [hS, hE]
        clear hr h h1 hu hE hS hf1 hb1 hW1 hC hCs hC20 cn hn1 hn2
        go_enter Try.func31, Try.ntmps31
        go_wp2_with fail
        rw [← HW.out.1]
        go_wp2_with (first
          | (go_at_call 51; refine HR.out.mono ?_; rintro e w1 ⟨rfl, rfl⟩)
          | (go_at_call 64; with_reducible refine (HN1.out _).mono ?_; rintro e w2 ⟨rfl, hf2⟩; (have cn := hf2.cell HW.out.2.2.2 id); (have H2 := Lib.hid hf2); clear hf2)
          | (go_at_call 64; with_reducible refine (HN2.out _).mono ?_; rintro e w3 ⟨rfl, hf3⟩; (have H3 := Lib.hid (H2.out.trans hf3 (fun _ h => h.elim))); clear hf3))
        go_ret
        exact ⟨rfl, (HH.out.quiet H3.out).more (Nat.le_succ n), (HW.out.2.1.trans H3.out (fun _ h => h.elim)).mono (fun _ _ h => h.elim)⟩
      | true =>
        rw [hn2] at HN2
        have HNP := Lib.hid hn2
        have hw := user_wf h.ok hu
        obtain ⟨q, hqq⟩ : ∃ q, q = s.quota who := ⟨_, rfl⟩
        obtain ⟨E, hEE⟩ : ∃ E, E = rootE s who N.data.toList p := ⟨_, rfl⟩
        have hE2 : E = (if vGet (s.R who) N.data.toList = none ∧ q.r ≤ ((s.R who).length : Int) then 8 else 0) := by rw [hEE, hqq]; unfold rootE; rw [if_pos hu, if_pos ⟨hn1, hn2⟩]
        have hS : rootS s who N.data.toList p = if E = 0 then s.setR who (vPut (s.R who) N.data.toList p) else s := by rw [hEE]; rfl
        have HQ0 := Lib.hid (fun W (hf : Fr (fun _ => False) W1 W) => quota_any (h1.quiet hf) who hu)
        rw [← hqq] at HQ0
        rw [← hEE]
        obtain ⟨qb, qo, qr, qn⟩ := q
        have HU := Lib.hid (And.intro hu (And.intro hw (And.intro hqq (And.intro hE2 (And.intro hS hn)))))
        clear hr h h1 hu hw hE2 hS hf1 hb1 hW1 hC hCs hC20 cn hn1 hn2 hqq hEE hn
        go_enter Try.func31, Try.ntmps31
        go_wp2_with fail
        rw [← HW.out.1]
        go_wp2_with (first
          | (go_at_call 51; refine HR.out.mono ?_; rintro e w1 ⟨rfl, hw1⟩; (obtain rfl : W1 = w1 := hw1.symm))
          | (go_at_call 64; with_reducible refine (HN1.out _).mono ?_; rintro e w2 ⟨rfl, hf2⟩; (have cn := hf2.cell HW.out.2.2.2 id); (have H2 := Lib.hid hf2); clear hf2)
          | (go_at_call 64; with_reducible refine (HN2.out _).mono ?_; rintro e w3 ⟨rfl, hf3⟩; (have H3 := Lib.hid (H2.out.trans hf3 (fun _ h => h.elim))); clear hf3))
        have LDR := Lib.hid (fun W (hf : Fr (fun _ => False) w3 W) => load_one5 W 78 ⟨A.vb, 1, none⟩ _ (by kernel_rfl) (hf.cell (HH.out.quiet H3.out).ptrs.1 id))
        have LDX := Lib.hid (ldX (H3.out.heap HW.out.2.2.1 id) HC.out.2)
        have HQ := Lib.hid (fun W (hf : Fr (fun _ => False) w3 W) => HQ0.out W (H3.out.trans hf (fun _ h => h.elim)))
        refine wp_region_inv 12 (by kernel_rfl) (by kernel_rfl) (fun W => Fr (fun _ => False) w3 W) (RtR A.vb A.rb (w.heap.size) who qb qo qr qn N C) (fun _ _ _ _ => True) (Fr (fun _ => False)) (RtR.ext A.vb A.rb (w.heap.size) who qb qo qr qn N C) (Fr.refl _ _).drew ?_ ?_
        · intro i hi o ho
          replace hi : i < 12 := hi
          obtain rfl | rfl | rfl | rfl | rfl | rfl | rfl | rfl | rfl | rfl | rfl | rfl : i = 0 ∨ i = 1 ∨ i = 2 ∨ i = 3 ∨ i = 4 ∨ i = 5 ∨ i = 6 ∨ i = 7 ∨ i = 8 ∨ i = 9 ∨ i = 10 ∨ i = 11 := by omega
          · simp only [List.getElem?_cons_zero, Option.some.injEq] at ho
            subst ho
            intro a W vs hB hS hE hU
            refine wpG_plain rfl ?_
            have v0 : a.eval (.tmp 0) = .pointer (some ⟨A.vb, 0, none⟩) := (hU 0 (by kernel_rfl)).trans rfl
            clear hE hU
            exact wp_value_inv (w' := W) (.pointer (some ⟨A.vb, 0, none⟩)) (op_move rfl v0) ⟨_, rfl, hB, Fr.refl _ _, rfl, fun _ _ _ _ _ => trivial⟩
          · simp only [List.getElem?_cons_zero, List.getElem?_cons_succ, Option.some.injEq] at ho
            subst ho
            intro a W vs hB hS hE hU
            refine wpG_plain rfl ?_
            obtain ⟨r0, e25⟩ := hE 0 25 (by kernel_rfl) (by kernel_rfl)
            have v25 : a.eval (.tmp 25) = .pointer (some ⟨A.vb, 0, none⟩) := e25.trans r0
            clear hE hU
            exact wp_value_inv (w' := W) (.pointer (some ⟨A.vb, 0, none⟩)) (op_nilCheck rfl v25) ⟨_, rfl, hB, Fr.refl _ _, rfl, fun _ _ _ _ _ => trivial⟩
          · simp only [List.getElem?_cons_zero, List.getElem?_cons_succ, Option.some.injEq] at ho
            subst ho
            intro a W vs hB hS hE hU
            refine wpG_plain rfl ?_
            obtain ⟨r1, e26⟩ := hE 1 26 (by kernel_rfl) (by kernel_rfl)
            have v26 : a.eval (.tmp 26) = .pointer (some ⟨A.vb, 0, none⟩) := e26.trans r1
            clear hE hU
            exact wp_value_inv (w' := W) (.pointer (some ⟨A.vb, 1, none⟩)) (op_fieldAddr rfl v26 (fld_spence_view_View_1_0 W A.vb)) ⟨_, rfl, hB, Fr.refl _ _, rfl, fun _ _ _ _ _ => trivial⟩
          · simp only [List.getElem?_cons_zero, List.getElem?_cons_succ, Option.some.injEq] at ho
            subst ho
            intro a W vs hB hS hE hU
            refine wpG_plain rfl ?_
            obtain ⟨r2, e27⟩ := hE 2 27 (by kernel_rfl) (by kernel_rfl)
            have v27 : a.eval (.tmp 27) = .pointer (some ⟨A.vb, 1, none⟩) := e27.trans r2
            clear hE hU
            exact wp_value_inv (w' := W) (.pointer (some ⟨A.rb, 0, none⟩)) (op_loadAt rfl v27 (LDR.out W hB)) ⟨_, rfl, hB, Fr.refl _ _, rfl, fun _ _ _ _ _ => trivial⟩
          · simp only [List.getElem?_cons_zero, List.getElem?_cons_succ, Option.some.injEq] at ho
            subst ho
            intro a W vs hB hS hE hU
            refine wpG_plain rfl ?_
            have v1 : a.eval (.tmp 1) = .int .i64 who := (hU 1 (by kernel_rfl)).trans rfl
            clear hE hU
            exact wp_value_inv (w' := W) (.int .i64 who) (op_move rfl v1) ⟨_, rfl, hB, Fr.refl _ _, rfl, fun _ _ _ _ _ => trivial⟩
          · simp only [List.getElem?_cons_zero, List.getElem?_cons_succ, Option.some.injEq] at ho
            subst ho
            intro a W vs hB hS hE hU
            refine wpG_plain rfl ?_
            have v2 : a.eval (.tmp 2) = .string N := (hU 2 (by kernel_rfl)).trans rfl
            clear hE hU
            exact wp_value_inv (w' := W) (.string N) (op_move rfl v2) ⟨_, rfl, hB, Fr.refl _ _, rfl, fun _ _ _ _ _ => trivial⟩
          · simp only [List.getElem?_cons_zero, List.getElem?_cons_succ, Option.some.injEq] at ho
            subst ho
            intro a W vs hB hS hE hU
            refine wpG_plain rfl ?_
            obtain ⟨r4, e29⟩ := hE 4 29 (by kernel_rfl) (by kernel_rfl)
            have v29 : a.eval (.tmp 29) = .int .i64 who := e29.trans r4
            obtain ⟨r5, e30⟩ := hE 5 30 (by kernel_rfl) (by kernel_rfl)
            have v30 : a.eval (.tmp 30) = .string N := e30.trans r5
            clear hE hU
            exact wp_value_inv (w' := W) (.agg #[.int .i64 who, .string N]) (op_build rfl (vs := #[(0, .int .i64 who), (1, .string N)]) (by simp only [List.map_toArray, List.map_cons, List.map_nil, v29, v30]) (place_built _ _)) ⟨_, rfl, hB, Fr.refl _ _, rfl, fun _ _ _ _ _ => trivial⟩
          · simp only [List.getElem?_cons_zero, List.getElem?_cons_succ, Option.some.injEq] at ho
            subst ho
            intro a W vs hB hS hE hU
            refine wpG_plain rfl ?_
            have v7 : a.eval (.tmp 7) = .pointer (some ⟨(w.heap.size), 0, none⟩) := (hU 7 (by kernel_rfl)).trans rfl
            clear hE hU
            exact wp_value_inv (w' := W) (.agg C) (op_loadAt rfl v7 (LDX.out W hB)) ⟨_, rfl, hB, Fr.refl _ _, rfl, fun _ _ _ _ _ => trivial⟩
          · simp only [List.getElem?_cons_zero, List.getElem?_cons_succ, Option.some.injEq] at ho
            subst ho
            intro a W vs hB hS hE hU
            refine wpG_plain rfl ?_
            have v0 : a.eval (.tmp 0) = .pointer (some ⟨A.vb, 0, none⟩) := (hU 0 (by kernel_rfl)).trans rfl
            clear hE hU
            exact wp_value_inv (w' := W) (.pointer (some ⟨A.vb, 0, none⟩)) (op_move rfl v0) ⟨_, rfl, hB, Fr.refl _ _, rfl, fun _ _ _ _ _ => trivial⟩
          · simp only [List.getElem?_cons_zero, List.getElem?_cons_succ, Option.some.injEq] at ho
            subst ho
            intro a W vs hB hS hE hU
            refine wpG_plain rfl ?_
            have v1 : a.eval (.tmp 1) = .int .i64 who := (hU 1 (by kernel_rfl)).trans rfl
            clear hE hU
            exact wp_value_inv (w' := W) (.int .i64 who) (op_move rfl v1) ⟨_, rfl, hB, Fr.refl _ _, rfl, fun _ _ _ _ _ => trivial⟩
          · simp only [List.getElem?_cons_zero, List.getElem?_cons_succ, Option.some.injEq] at ho
            subst ho
            intro a W vs hB hS hE hU
            refine wpG_plain rfl ?_
            obtain ⟨r8, e33⟩ := hE 8 33 (by kernel_rfl) (by kernel_rfl)
            have v33 : a.eval (.tmp 33) = .pointer (some ⟨A.vb, 0, none⟩) := e33.trans r8
            obtain ⟨r9, e34⟩ := hE 9 34 (by kernel_rfl) (by kernel_rfl)
            have v34 : a.eval (.tmp 34) = .int .i64 who := e34.trans r9
            clear hE hU
            refine wp_call_inv 52 #[.tmp 33, .tmp 34] #[26, 3] rfl #[.pointer (some ⟨A.vb, 0, none⟩), .int .i64 who] (by simp only [List.map_toArray, List.map_cons, List.map_nil, v33, v34]) (ent___spence_view_View__quota _) (Post := fun v W' => v = .agg #[.int .i64 qb, .int .i64 qo, .int .i64 qr, .int .i64 qn] ∧ Fr (fun _ => False) W W') ((HQ.out W hB).mono fun e w' h => ⟨_, h.1, rfl, h.2⟩) ?_
            rintro v W' ⟨rfl, hf⟩
            exact ⟨_, rfl, hB.trans hf (fun _ h => h.elim), hf, rfl, fun _ _ _ _ _ => trivial⟩
          · simp only [List.getElem?_cons_zero, List.getElem?_cons_succ, Option.some.injEq] at ho
            subst ho
            intro a W vs hB hS hE hU
            refine wpG_plain rfl ?_
            obtain ⟨r10, e35⟩ := hE 10 35 (by kernel_rfl) (by kernel_rfl)
            have v35 : a.eval (.tmp 35) = .agg #[.int .i64 qb, .int .i64 qo, .int .i64 qr, .int .i64 qn] := e35.trans r10
            clear hE hU
            exact wp_value_inv (w' := W) (.int .i64 qr) (op_field9 rfl v35 (qfld2 _ _ _ _ W)) ⟨_, rfl, hB, Fr.refl _ _, rfl, fun _ _ _ _ _ => trivial⟩
        · intro vs Wa hB0 hR0 hD
          have r28 : vs 3 = .pointer (some ⟨A.rb, 0, none⟩) := hR0 3 (by decide)
          have r31 : vs 6 = .agg #[.int .i64 who, .string N] := hR0 6 (by decide)
          have r32 : vs 7 = .agg C := hR0 7 (by decide)
          have r36 : vs 11 = .int .i64 qr := hR0 11 (by decide)
          have HA := Lib.hid hB0
          clear hR0 hD hB0
          simp only [acts, if_true, dstAt, List.getElem?_cons_zero, List.getElem?_cons_succ, Option.bind_some, Act.put, List.setIfInBounds_toArray, List.set_cons_succ, List.set_cons_zero, List.drop_succ_cons]
          simp only [r28, r31, r32, r36]
          clear r28 r31 r32 r36
          have hk := HH.out.quiet (H3.out.trans HA.out (fun _ h => h.elim))
          have hput := putR_any Wa hk.rk HU.out.2.2.2.2.2 who HU.out.2.1 N (by have := (nameB_len HNT.out).2; rw [size_list] at this; omega) p (by have := (nameB_len HNP.out).2; rw [size_list] at this; omega) qr E HU.out.2.2.2.1
          rw [← HC.out.1] at hput
          have HP := Lib.hid hput
          have HK := Lib.hid hk
          clear hput hk
          go_wp2_with (go_at_call 65; refine HP.out.mono ?_; rintro e w5 ⟨rfl, h5⟩; (have H5 := Lib.hid h5); clear h5)
          go_ret
          have hfw : Fr (fun k => k = A.tr ∨ k = A.mr) w Wa := ((HW.out.2.1.trans H3.out (fun _ h => h.elim)).trans HA.out (fun _ h => h.elim)).mono (fun _ _ h => h.elim)
          refine ⟨rfl, ?_⟩
          rw [HU.out.2.2.2.2.1]
          rcases H5.out with ⟨h8, hf5⟩ | ⟨h0, hb5, hf5⟩
          · rw [if_neg (by rw [h8]; decide)]
            exact ⟨(HK.out.quiet hf5).more (Nat.le_succ n), hfw.trans hf5 (fun _ h => h.elim)⟩
          · rw [if_pos h0]
            refine ⟨HK.out.withR hf5 who _ HU.out.1 hb5 ?_, hfw.trans hf5 (fun _ h => .inl h)⟩
            refine vPut_le (HK.out.rk.ok who).1 _ _ (HK.out.capU HU.out.1).1 (fun hfull => ?_)
            have h4 := HU.out.2.2.2.1
            rw [← HU.out.2.2.1] at hfull
            rw [if_pos hfull, h0] at h4
            exact absurd h4 (by decide)
  · have hr := ready_no h1 who hu
    have HR := Lib.hid hr
    have hE : rootE s who N.data.toList p = 18 := by unfold rootE; rw [if_neg hu]
    have hS : rootS s who N.data.toList p = s := by unfold rootS; rw [hE, if_neg (by decide)]
    rw [hS, hE]
    clear hr h h1 hu hE hS hf1 hb1 hW1 hC hCs hC20 cn
    go_enter Try.func31, Try.ntmps31
    go_wp2_with fail
    rw [← HW.out.1]
    go_wp2_with (go_at_call 51; refine HR.out.mono ?_; rintro e w1 ⟨rfl, rfl⟩)
    go_ret
    exact ⟨rfl, HH.out.more (Nat.le_succ n), HW.out.2.1.mono (fun _ _ h => h.elim)⟩
end
end Go.Proofs.Ytdpaobflknkbkaa
namespace Go.Proofs.Ytdpaobflknkbkaa
open Go.RowKit Go.ChangeShapes Go.Maps Go.WideMaps Go.Sort
set_option linter.unusedVariables false
set_option maxRecDepth 100000 in
set_option maxHeartbeats 2000000 in
theorem namesR_any {F : Nat → Prop} {bk tm mm n : Nat} {B : Int → VT PathX} (w : World) (h : BkAt kR 118 F w bk tm mm n B) (hn : n ≤ 100000) (who : Int) (hw : Wf who) (P : ByteArray) :
    Calls Try.prog 77 #[.pointer (some ⟨bk, 0, none⟩), .int .i64 who, .string P] w fun e w' => ∃ v, e = .returned v ∧ Elems 1 (fun k => w.heap.size ≤ k) w' v ((vKeys (B who) P.data.toList).map encK) ∧ Fr (fun _ => False) w w' ∧ (vKeys (B who) P.data.toList ≠ [] → ∃ g c, v = .slice (some ⟨g, 0, none⟩) (vKeys (B who) P.data.toList).length c ∧ StrB w' g) := by
  obtain ⟨c0, c1⟩ := h.cells
  obtain ⟨D, hD1, hD2, hD3⟩ := id h.th
  have hlt := h.lt
  have HR := Lib.hid h
  have HD := Lib.hid (And.intro hD2 hD3)
  have HLT := Lib.hid hlt
  have HW := Lib.hid (And.intro hw hn)
  have hsz := hD1.size_le
  obtain ⟨cnt0, hcnt0⟩ : ∃ c, c = Maps.size D := ⟨_, rfl⟩
  have HC0 := Lib.hid hcnt0
  clear h hD2 hD3 hlt hw hn hcnt0
  go_enter Try.func77, Try.ntmps77
  go_wp2_with (at_range; refine wpList_range_own _ rfl _ 115 rfl 114 43 lawPl Try.underlying115 heldR9 tm _ D rfl hD1 ?_; intro w0 hrg0 hg0 hs0; (have H0 := Lib.hid (And.intro hrg0 (And.intro hg0 hs0))); clear hrg0 hg0 hs0)
  go_frame
  go_loopw [7] (fun lv wr => ∃ (ks : List Bs) (left : Lit → Bool) (cnt : Nat), (∃ ao c, lv = .slice ao ks.length c) ∧ Hid (wr.ranges Try.prog 114 heldR9 tm w.heap.size n D left cnt ∧ NmSt B who P.data.toList (w.heap.size + 1) w wr lv ks left)) (fun _ wr => wr.rangeLeft tm w.heap.size)
  case atStart =>
    have hf0 : Fr (fun _ => False) w w0 := (Fr.refl _ w).grown H0.out.2.1 (fun k hk => by cases hk)
    refine ⟨[], _, _, ⟨none, 0, rfl⟩, Lib.hid ⟨H0.out.1, ⟨OwnE.nil _ _ _ _, List.Pairwise.nil, fun k => ⟨(fun h => by cases h), fun h => ?_⟩, fun i k hi hk h => by rw [← HD.out.1 i k hi hk]; exact h, hf0⟩⟩⟩
    obtain ⟨h1, h2⟩ := h
    have h3 := (vKeys_mem.1 h1).1
    obtain ⟨x, hx⟩ := Option.isSome_iff_exists.1 h3
    have h4 := ((HR.out.ok who).2.2 _ (vGet_mem hx))
    simp only at h4
    rw [← HD.out.1 who k HW.out.1 (by unfold maxLen; omega), h2] at h3
    cases h3
  case round =>
    obtain ⟨ks, left, cnt, ⟨ao, c, rfl⟩, hR⟩ := hrel
    go_wp2_with (at_next; refine wpList_next_ranges (α := Int × ByteArray) (β := Value) _ rfl _ rfl 114 lawPl heldR9 (fun x => Value.agg #[.int .i64 x.1, .string x.2]) id (fun key kl h => by obtain ⟨i, N, e, _⟩ := keyP_back h; exact ⟨(i, N), e⟩) (fun v y h => ⟨v, rfl⟩) tm w.heap.size n D left cnt rfl hR.out.1 ?_ ?_)
    · intro hc0 hl0
      have hks : ∀ k, k ∈ ks ↔ k ∈ vKeys (B who) P.data.toList := fun k => by rw [hR.out.2.mem k]; exact ⟨fun h => h.1, fun h => ⟨h, hl0 _⟩⟩
      have hlk : ks.length ≤ 1000000 := by
        have h1 := hR.out.2.le
        have h2 := (HR.out.ok who).2.1
        have := HW.out.2
        omega
      have HS := Lib.hid (sort_vkeys (HR.out.ok who).1 P.data.toList wr _ ks hR.out.2.own hR.out.2.nodup hks hlk)
      clear hks hlk hl0 hc0
      go_wp2_with (go_at_call 86; refine HS.out.mono ?_; rintro e w3 ⟨rfl, he3, hf3⟩; (have H3 := Lib.hid (And.intro he3 hf3)); clear he3 hf3)
      go_ret
      exact ⟨_, rfl, H3.out.1.mono (by decide) (fun k _ hk => by omega), hR.out.2.fr.trans H3.out.2.1 (fun k hk => .inr (by have := hR.out.2.own.own k hk; omega)), H3.out.2.2⟩
    · intro i N cv kl ya yb w1 cnt1 hkey hlk hv hat hrg1 hlt1 hg1 hs1 hen
      have hkey' : keyOf Try.prog 114 (.agg (plC i N)) = some kl := hkey
      obtain ⟨i', N', hx', hwi, hNs, hkl⟩ := keyP_back hkey'
      simp only [plC, Value.agg.injEq, Array.mk.injEq, List.cons.injEq, Value.int.injEq, Value.string.injEq, true_and, and_true] at hx'
      obtain ⟨rfl, rfl⟩ := hx'
      subst hkl
      have hNl : N.data.toList.length ≤ maxLen := by rw [size_list]; exact hNs
      have hf1 : Fr (fun k => k = w.heap.size) wr w1 := (Fr.refl _ wr).grown hg1 (fun k hk => .inl (by injection hk with hk; exact hk.symm))
      have hfw1 : Fr (fun _ => False) w w1 := hR.out.2.fr.trans hf1 (fun k hk => .inr (by rw [show k = w.heap.size from hk]; exact Nat.le_refl _))
      have hown1 := hR.out.2.own.keep hf1 (fun g hg e => by have := hR.out.2.own.own g hg; have e2 : g = w.heap.size := e; omega)
      have hle := hR.out.2.le
      have hsm := (HR.out.ok who).2.1
      have H1 := Lib.hid (And.intro hrg1 (And.intro hfw1 (And.intro hown1 (And.intro hlk (And.intro hlt1 (And.intro hR.out.2 (And.intro hR.out.1 hs1)))))))
      have HLE := Lib.hid (show ks.length ≤ 100000 by have := HW.out.2; omega)
      have HI := Lib.hid (And.intro hwi hNl)
      have hpl := hasPrefix_any N P
      obtain ⟨q, hq⟩ : ∃ q, q = Lib.hasPrefix N.data.toList P.data.toList := ⟨_, rfl⟩
      rw [← hq] at hpl
      have HPL := Lib.hid hpl
      have HQ := Lib.hid hq
      clear hR hkey hkey' hlk hv hat hrg1 hlt1 hg1 hs1 hf1 hfw1 hown1 hle hsm hpl hq hwi hNl hNs
      by_cases hiw : i = who
      · have hb : (i == who) = true := by rw [hiw]; exact beq_self_eq_true _
        have HIW := Lib.hid hiw
        clear hiw
        cases q with
        | true =>
          go_wp2_with (first
            | (go_at_call 85; refine (HPL.out _).mono ?_; rintro e w3 ⟨rfl, rfl⟩)
            | (at_builtin; refine wpList_append_e (T := 9) (z := w.heap.size + 1) Try.underlying131 infoStr rfl (by decide) (by decide) ((w1.alloc (.cells #[.int .i64 i, .string N] 114)).alloc (.cells #[.string N] 9)) rfl (.tmp 28) (.tmp 31) rfl (.slice ao ks.length c) _ (ks.map encK) [[.string N]] rfl rfl (H1.out.2.2.1.keep (((Fr.refl (fun _ => False) w1).alloc _).alloc _) (fun _ _ h => h)) (Elems.ofBlock (c := [.string N]) (heap_alloc2_new w1 _ _) rfl) (fun c hc u hu => by rw [List.mem_singleton.1 hc] at hu; rw [List.mem_singleton.1 hu]; rfl) (by have := H1.out.2.1.size; simp; have := H1.out.2.2.2.2.2.2.2; have := lt_range9 H1.out.2.2.2.2.2.2.1; omega) (by rw [List.length_map]; have := HLE.out; simp; omega) ?_; intro v5 w5 ho5 hg5 hb5; (obtain ⟨a5, c5, rfl⟩ := ho5.form); (have H5 := Lib.hid (And.intro ho5 (And.intro hg5 hb5))); clear ho5 hg5 hb5))
          go_roundw
          case rel =>
            have hf5 : Fr (fun k => (Value.slice ao ks.length c).ownBlock = some k) w1 w5 := (((Fr.refl _ w1).alloc _).alloc _).grown H5.out.2.1 (fun k hk => .inl hk)
            have hog := H1.out.2.2.1.own
            have hfw5 : Fr (fun _ => False) w w5 := H1.out.2.1.trans hf5 (fun k hk => .inr (by have := hog k hk; omega))
            obtain ⟨ks', hk1, hk2⟩ := H1.out.2.2.2.2.2.1.next (fun p hp => (HR.out.ok who).2.2 p hp) HW.out.1 HI.out.1 HI.out.2 H1.out.2.2.2.1 hfw5 (.inl ⟨⟨HIW.out, HQ.out.symm⟩, by rw [encK_str]; exact H5.out.1⟩)
            have hln : ks'.length = ks.length + 1 := by rw [hk2, if_pos ⟨HIW.out, HQ.out.symm⟩]
            rw [show (ks.map encK ++ [[Value.string N]]).length = ks.length + 1 by simp] at hk1
            rw [← hln] at hk1 ⊢
            exact ⟨ks', _, cnt1, ⟨a5, c5, rfl⟩, Lib.hid ⟨World.ranges.keep9 H1.out.1 hf5 (fun e => by have := hog tm e; have := HLT.out; omega) (fun e => by have := hog _ e; omega), hk1⟩⟩
          case measure =>
            have hf5 : Fr (fun k => (Value.slice ao ks.length c).ownBlock = some k) w1 w5 := (((Fr.refl _ w1).alloc _).alloc _).grown H5.out.2.1 (fun k hk => .inl hk)
            have hog := H1.out.2.2.1.own
            have h5 := World.ranges.keep9 H1.out.1 hf5 (fun e => by have := hog tm e; have := HLT.out; omega) (fun e => by have := hog _ e; omega)
            rw [World.ranges.left_eq h5, World.ranges.left_eq H1.out.2.2.2.2.2.2.1]
            exact H1.out.2.2.2.2.1
        | false =>
          go_wp2_with (first
            | (go_at_call 85; refine (HPL.out _).mono ?_; rintro e w3 ⟨rfl, rfl⟩))
          go_roundw
          case rel =>
            have hf5 : Fr (fun _ => False) w1 (w1.alloc (.cells #[.int .i64 i, .string N] 114)) := (Fr.refl _ w1).alloc _
            obtain ⟨ks', hk1, hk2⟩ := H1.out.2.2.2.2.2.1.next (fun p hp => (HR.out.ok who).2.2 p hp) HW.out.1 HI.out.1 HI.out.2 H1.out.2.2.2.1 (H1.out.2.1.trans hf5 (fun _ h => h.elim)) (.inr ⟨(fun h => by have := HQ.out; rw [h.2] at this; cases this), H1.out.2.2.1.keep hf5 (fun _ _ h => h)⟩)
            have hln : ks'.length = ks.length := by rw [hk2, if_neg (fun h => by have := HQ.out; rw [h.2] at this; cases this)]; rfl
            rw [← hln] at hk1 ⊢
            exact ⟨ks', _, cnt1, ⟨ao, c, rfl⟩, Lib.hid ⟨World.ranges.keep9 H1.out.1 hf5 id id, hk1⟩⟩
          case measure =>
            have hf5 : Fr (fun _ => False) w1 (w1.alloc (.cells #[.int .i64 i, .string N] 114)) := (Fr.refl _ w1).alloc _
            rw [World.ranges.left_eq (World.ranges.keep9 H1.out.1 hf5 id id), World.ranges.left_eq H1.out.2.2.2.2.2.2.1]
            exact H1.out.2.2.2.2.1
      · have hb : (i == who) = false := by rw [beq_eq_false_iff_ne]; exact hiw
        have HIW := Lib.hid hiw
        clear hiw
        go_wp2
        go_roundw
        case rel =>
          have hf5 : Fr (fun _ => False) w1 (w1.alloc (.cells #[.int .i64 i, .string N] 114)) := (Fr.refl _ w1).alloc _
          obtain ⟨ks', hk1, hk2⟩ := H1.out.2.2.2.2.2.1.next (fun p hp => (HR.out.ok who).2.2 p hp) HW.out.1 HI.out.1 HI.out.2 H1.out.2.2.2.1 (H1.out.2.1.trans hf5 (fun _ h => h.elim)) (.inr ⟨fun h => HIW.out h.1, H1.out.2.2.1.keep hf5 (fun _ _ h => h)⟩)
          have hln : ks'.length = ks.length := by rw [hk2, if_neg (fun h => HIW.out h.1)]; rfl
          rw [← hln] at hk1 ⊢
          exact ⟨ks', _, cnt1, ⟨ao, c, rfl⟩, Lib.hid ⟨World.ranges.keep9 H1.out.1 hf5 id id, hk1⟩⟩
        case measure =>
          have hf5 : Fr (fun _ => False) w1 (w1.alloc (.cells #[.int .i64 i, .string N] 114)) := (Fr.refl _ w1).alloc _
          rw [World.ranges.left_eq (World.ranges.keep9 H1.out.1 hf5 id id), World.ranges.left_eq H1.out.2.2.2.2.2.2.1]
          exact H1.out.2.2.2.2.1
end Go.Proofs.Ytdpaobflknkbkaa
