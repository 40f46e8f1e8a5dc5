/- Laid together: VRw Mark VOv FlatLib -/
import Derived.Test.YtdpaobflknkbkaaVe28
import Derived.Test.YtdpaobflknkbkaaVe9
import Derived.Test.YtdpaobflknkbkaaVe21
import Derived.Test.YtdpaobflknkbkaaVe0
import Derived.Test.YtdpaobflknkbkaaVe16
import Derived.Test.YtdpaobflknkbkaaVe2
import Derived.Test.YtdpaobflknkbkaaVe4
import Derived.ArgAppend

namespace Go.Proofs.Ytdpaobflknkbkaa
open Go.RowKit Go.ChangeShapes
set_option linter.unusedVariables false
theorem infoU9 : (Try.prog.info? 87).map (fun i => (i.zero, i.size, i.bytes)) = some (some (.agg zU), 6, 80) := by kernel_rfl
def usQ (q : Qt) : List Value := usL q (.slice none 0 0) (.slice none 0 0)
theorem us_built (b o r n : Int) : Try.prog.built 87 #[(0, Value.agg #[.int .i64 b, .int .i64 o, .int .i64 r, .int .i64 n])].toList = some (usQ ⟨b, o, r, n⟩).toArray := by kernel_rfl
theorem us_one (w : World) (q : Qt) : (Instr.buildSlice 34 1 #[(0, .agg (usQ q).toArray)]).run Try.prog w = .ok (.slice (some ⟨w.heap.size, 0, none⟩) 1 1) (w.alloc (.cells (usQ q).toArray 87)) := by kernel_rfl
theorem VRw_fld_spence_spenceref14_View_0_0 (w : World) (g : Nat) : (Instr.fieldAt 36 (.pointer (some ⟨g, 0, none⟩)) 0).run Try.prog w = .ok (.pointer (some ⟨g, 0, none⟩)) w := by kernel_rfl
def VrW (g j9 : Nat) (c : Nat) (a : Option Addr) (b3 f3 n0 c0 : Nat) (qb qo qr qn : Int) (z z9 : Nat) (L1 : List (List Value)) (UL : List Value) (i : Nat) (v : Value) (W : World) : Prop :=
  match i with
  | 0 => v = .pointer (some ⟨g, 0, none⟩)
  | 1 => v = .pointer (some ⟨g, 0, none⟩)
  | 2 => v = .pointer (some ⟨g, 0, none⟩)
  | 3 => v = .pointer (some ⟨g, 0, none⟩)
  | 4 => v = .slice a j9 c
  | 5 => v = .slice (some ⟨b3, f3, none⟩) n0 c0
  | 6 => v = .int .i64 (j9 : Nat)
  | 7 => v = .pointer (some ⟨b3, f3 + j9 * 4, none⟩)
  | 8 => v = .agg #[.int .i64 qb, .int .i64 qo, .int .i64 qr, .int .i64 qn]
  | 9 => v = .agg UL.toArray
  | 10 => ∃ b, v = .slice (some ⟨b, 0, none⟩) 1 1 ∧ z9 ≤ b ∧ W.heap[b]? = some (.cells UL.toArray 87 (0, 0))
  | 11 => OwnE 87 6 z W v (L1 ++ [UL])
  | 12 => v = .pointer (some ⟨g, 0, none⟩)
  | 13 => v = .pointer (some ⟨g, 0, none⟩)
  | _ => True
theorem VrW.ext (g j9 : Nat) (c : Nat) (a : Option Addr) (b3 f3 n0 c0 : Nat) (qb qo qr qn : Int) (z z9 : Nat) (L1 : List (List Value)) (UL : List Value) : ∀ (j : Nat) (u : Value) (W W' : World), (ExtE 87 6 z (L1 ++ [UL]) W W' ∧ ∀ b, z9 ≤ b → ∀ o, W.heap[b]? = some o → W'.heap[b]? = some o) → VrW g j9 c a b3 f3 n0 c0 qb qo qr qn z z9 L1 UL j u W → VrW g j9 c a b3 f3 n0 c0 qb qo qr qn z z9 L1 UL j u W'
  | 0, u, W, W', hf, h => h
  | 1, u, W, W', hf, h => h
  | 2, u, W, W', hf, h => h
  | 3, u, W, W', hf, h => h
  | 4, u, W, W', hf, h => h
  | 5, u, W, W', hf, h => h
  | 6, u, W, W', hf, h => h
  | 7, u, W, W', hf, h => h
  | 8, u, W, W', hf, h => h
  | 9, u, W, W', hf, h => h
  | 10, u, W, W', hf, h => (by obtain ⟨b, h1, h2, h3⟩ := h; exact ⟨b, h1, h2, hf.2 b h2 _ h3⟩)
  | 11, u, W, W', hf, h => hf.1 _ _ (List.prefix_refl _) h
  | 12, u, W, W', hf, h => h
  | 13, u, W, W', hf, h => h
  | _ + 14, u, W, W', hf, h => trivial
section
variable {F : Nat → Prop}
set_option maxRecDepth 100000
set_option maxHeartbeats 4000000
theorem rnew_no (w : World) (v : Value) (Q : List Qt) (hQ : QsIn F w v Q) (hok : okQs Q = false) :
    Calls Try.prog 11 #[v] w fun e w' => e = .returned (.tuple #[.pointer none, .int .i64 2]) ∧ Fr (fun _ => False) w w' := by
  have ha := rAll_any w v Q hQ
  rw [hok] at ha
  have HA := Lib.hid ha
  obtain ⟨ao, cap, rfl, _⟩ := id hQ.open9
  clear ha hQ hok
  go_enter Try.func11, Try.ntmps11
  go_wp2_with (go_at_call 36; refine HA.out.mono ?_; rintro e w1 ⟨rfl, hf1⟩; (have H1 := Lib.hid hf1); clear hf1)
  go_ret2
  exact ⟨rfl, H1.out⟩
theorem rnew_yes (w : World) (v : Value) (Q : List Qt) (hQ : QsIn F w v Q) (hok : okQs Q = true) :
    Calls Try.prog 11 #[v] w fun e w' => ∃ g u, e = .returned (.tuple #[.pointer (some ⟨g, 0, none⟩), .int .i64 0]) ∧ RvAt (fun _ => False) w' g u ⟨Q, fun _ => [], fun _ => []⟩ ∧ (w.heap.size ≤ g ∧ w.heap.size ≤ u) ∧ Fr (fun _ => False) w w' := by
  have ha := rAll_any w v Q hQ
  rw [hok] at ha
  have HA := Lib.hid ha
  have hq8 := (okQs_iff hok).2
  obtain ⟨ao, cap, rfl, hqc, hqm, b3, f3, hao, hqi⟩ := id hQ.open9
  obtain ⟨hao, hFb⟩ := hao (by omega)
  subst hao
  obtain ⟨n0, hn0⟩ : ∃ n, n = Q.length := ⟨_, rfl⟩
  have HQR := Lib.hid (show ∀ j (hj : j < Q.length), w.rangeAt b3 (f3 + j * 4) (qC Q[j]) from fun j hj t v hv => by
    obtain ⟨g0, g1, g2, g3⟩ := hqi j hj
    match t, hv with
    | 0, hv => cases hv; exact g0
    | 1, hv => cases hv; exact g1
    | 2, hv => cases hv; exact g2
    | 3, hv => cases hv; exact g3)
  rw [← hn0] at HA ⊢
  have HN0 := Lib.hid (And.intro hn0 hq8)
  have hb30 : b3 < w.heap.size := by
    have h9 := HQR.out 0 (by omega) 0 _ rfl
    exact World.block_lt_of_cell? _ _ h9
  have HB3 := Lib.hid hb30
  have hn8 : n0 ≤ 8 := by omega
  have hcap9 : n0 ≤ cap ∧ cap ≤ 9223372036854775807 := by omega
  clear ha hQ hok hq8 hqi hn0 hb30 hqc hqm
  go_enter Try.func11, Try.ntmps11
  go_wp2_with (go_at_call 36; refine HA.out.mono ?_; rintro e w1 ⟨rfl, hf1⟩; (have H1 := Lib.hid hf1); clear hf1; refine stopAt ?_)
  refine Stop.mk ?_
  go_wp2_with fail
  obtain ⟨W0, hW0⟩ : ∃ W0, W0 = w1.alloc (.cells #[.slice none 0 0] 36) := ⟨_, rfl⟩
  obtain ⟨g, hg⟩ : ∃ g, g = w1.heap.size := ⟨_, rfl⟩
  have hf0 : Fr (fun _ => False) w W0 := by rw [hW0]; exact H1.out.alloc _
  have hb0 : W0.heap[g]? = some (.cells #[.slice none 0 0] 36 (0, 0)) := by rw [hW0, hg]; exact heap_alloc_new w1 _
  rw [← hW0, ← hg]
  have hgw : w.heap.size ≤ g := by rw [hg]; exact H1.out.size
  have hgl : g < W0.heap.size := lt_of_block hb0
  have HW0 := Lib.hid (And.intro hf0 (And.intro hb0 (And.intro hgw hgl)))
  clear hW0 hg hf0 hb0 hgw hgl
  go_loopw [5] (fun iv wr => ∃ (j : Nat) (a : Option Addr) (c : Nat), j ≤ n0 ∧ iv = .int .i64 j ∧ Hid (Fr (fun k => k = g) W0 wr ∧ wr.heap[g]? = some (.cells #[.slice a j c] 36 (0, 0)) ∧ OwnE 87 6 W0.heap.size wr (.slice a j c) ((Q.take j).map usQ))) (fun iv _ => n0 - (intOf iv).toNat)
  case atStart => exact ⟨0, none, 0, by omega, rfl, Lib.hid ⟨Fr.refl _ _, HW0.out.2.1, OwnE.nil _ _ _ _⟩⟩
  case round =>
    obtain ⟨j, a, c, hj, rfl, HS⟩ := hrel
    by_cases hlt : j < n0
    · have hjQ : j < Q.length := by have := HN0.out.1; omega
      have hj64 : (j : Int) < (n0 : Int) := by omega
      obtain ⟨z, hz⟩ : ∃ z, z = W0.heap.size := ⟨_, rfl⟩
      obtain ⟨z9, hz9⟩ : ∃ z, z = wr.heap.size := ⟨_, rfl⟩
      obtain ⟨⟨qb, qo, qr, qn⟩, hqe⟩ : ∃ q, q = Q[j] := ⟨_, rfl⟩
      obtain ⟨UL, hUL⟩ : ∃ UL, UL = usQ ⟨qb, qo, qr, qn⟩ := ⟨_, rfl⟩
      obtain ⟨L1, hL1⟩ : ∃ L1, L1 = (Q.take j).map usQ := ⟨_, rfl⟩
      have ho := HS.out.2.2
      rw [← hL1, ← hz] at ho
      have hL1l : L1.length = j := by rw [hL1, List.length_map, List.length_take]; omega
      have hown : ∀ b, (Value.slice a j c).ownBlock = some b → z ≤ b ∧ b < z9 := fun b hb => by rw [hz9]; exact ho.own b hb
      have hzw : W0.heap.size ≤ wr.heap.size := HS.out.1.size
      have hgz : g < z := by rw [hz]; exact HW0.out.2.2.2
      have hb3z : b3 < z := by have := HB3.out; have := HW0.out.1.size; omega
      have hb3g : b3 ≠ g := by have := HB3.out; have := HW0.out.2.2.1; omega
      have hrq : wr.rangeAt b3 (f3 + j * 4) (qC ⟨qb, qo, qr, qn⟩) := by rw [hqe]; exact Fr.range9 HS.out.1 (Fr.range9 HW0.out.1 (HQR.out j hjQ) id) hb3g
      have HZ9 := Lib.hid hz9.symm
      have HLT := Lib.hid (fun b hb => (hown b hb).2)
      have HOW := Lib.hid ho
      have LDG := Lib.hid (fun W (hW : Fr (fun k => (Value.slice a j c).ownBlock = some k) wr W ∧ OwnE 87 6 z W (.slice a j c) L1) => load_one5 W 34 ⟨g, 0, none⟩ (.slice a j c) (by kernel_rfl) (hW.1.cell (cell_of_one HS.out.2.1) (fun e => by have := hown g e; omega)))
      have LDQ := Lib.hid (fun W (hW : Fr (fun k => (Value.slice a j c).ownBlock = some k) wr W ∧ OwnE 87 6 z W (.slice a j c) L1) => ldQ9 W b3 (f3 + j * 4) ⟨qb, qo, qr, qn⟩ (Fr.range9 hW.1 hrq (fun e => by have := hown b3 e; omega)))
      have HIX := Lib.hid (fun W => idxQ9 W b3 f3 n0 cap j hlt)
      have hbu := us_built qb qo qr qn
      have hb1 := fun W => us_one W ⟨qb, qo, qr, qn⟩
      rw [← hUL] at hbu hb1
      have HBU := Lib.hid hbu
      have HB1 := Lib.hid hb1
      have HUL := Lib.hid (And.intro (show UL.length = 6 by rw [hUL]; rfl) (And.intro (show ∀ c ∈ [UL], ∀ u ∈ c, u.oneCell' = true from fun c hc u hu => by
        rw [List.mem_singleton.1 hc, hUL] at hu
        simp only [usQ, usL, List.mem_cons, List.not_mem_nil, or_false] at hu
        rcases hu with rfl | rfl | rfl | rfl | rfl | rfl <;> rfl) (show z ≤ wr.heap.size by omega)))
      have HN1 := Lib.hid (show L1.length + ([UL] : List (List Value)).length ≤ 1000000 by rw [hL1l]; simp; omega)
      have HG := Lib.hid (And.intro hgz (And.intro hown hz))
      have HL1 := Lib.hid (And.intro hL1 (And.intro hL1l (And.intro hjQ (And.intro hUL hqe))))
      have hj9 : (j : Int) ≤ 8 := by omega
      clear hbu hb1 hL1 hL1l hown hrq ho hUL hqe hz hz9 hzw hgz hb3z hb3g
      go_wp2_with fail
      refine wp_region_inv 14 (by kernel_rfl) (by kernel_rfl) (fun W => Fr (fun k => (Value.slice a j c).ownBlock = some k) wr W ∧ OwnE 87 6 z W (.slice a j c) L1) (VrW g j c a b3 f3 n0 cap qb qo qr qn z z9 L1 UL) (fun _ _ _ _ => True) (fun W W' => ExtE 87 6 z (L1 ++ [UL]) W W' ∧ ∀ b, z9 ≤ b → ∀ o, W.heap[b]? = some o → W'.heap[b]? = some o) (VrW.ext g j c a b3 f3 n0 cap qb qo qr qn z z9 L1 UL) ⟨(Fr.refl _ _).drew, HOW.out.keep ((Fr.refl (fun _ => False) wr).drew) (fun _ _ h => h)⟩ ?_ ?_
      · intro i hi o ho
        replace hi : i < 14 := hi
        obtain rfl | rfl | rfl | rfl | rfl | rfl | rfl | rfl | rfl | rfl | rfl | rfl | rfl | rfl : i = 0 ∨ i = 1 ∨ i = 2 ∨ i = 3 ∨ i = 4 ∨ i = 5 ∨ i = 6 ∨ i = 7 ∨ i = 8 ∨ i = 9 ∨ i = 10 ∨ i = 11 ∨ i = 12 ∨ i = 13 := by omega
        · simp only [List.getElem?_cons_zero, Option.some.injEq] at ho
          subst ho
          intro a' W vs hB hS hE hU
          refine wpG_plain rfl ?_
          have v4 : a'.eval (.tmp 4) = .pointer (some ⟨g, 0, none⟩) := (hU 4 (by kernel_rfl)).trans rfl
          clear hE hU
          exact wp_value_inv (w' := W) (.pointer (some ⟨g, 0, none⟩)) (op_move rfl v4) ⟨_, rfl, hB, ⟨ExtE.refl _ _ _ _ _, fun _ _ _ h => h⟩, rfl, fun _ _ _ _ _ => trivial⟩
        · simp only [List.getElem?_cons_zero, List.getElem?_cons_succ, Option.some.injEq] at ho
          subst ho
          intro a' W vs hB hS hE hU
          refine wpG_plain rfl ?_
          have v4 : a'.eval (.tmp 4) = .pointer (some ⟨g, 0, none⟩) := (hU 4 (by kernel_rfl)).trans rfl
          clear hE hU
          exact wp_value_inv (w' := W) (.pointer (some ⟨g, 0, none⟩)) (op_move rfl v4) ⟨_, rfl, hB, ⟨ExtE.refl _ _ _ _ _, fun _ _ _ h => h⟩, rfl, fun _ _ _ _ _ => trivial⟩
        · simp only [List.getElem?_cons_zero, List.getElem?_cons_succ, Option.some.injEq] at ho
          subst ho
          intro a' W vs hB hS hE hU
          refine wpG_plain rfl ?_
          obtain ⟨r1, e18⟩ := hE 1 18 (by kernel_rfl) (by kernel_rfl)
          have v18 : a'.eval (.tmp 18) = .pointer (some ⟨g, 0, none⟩) := e18.trans r1
          clear hE hU
          exact wp_value_inv (w' := W) (.pointer (some ⟨g, 0, none⟩)) (op_nilCheck rfl v18) ⟨_, rfl, hB, ⟨ExtE.refl _ _ _ _ _, fun _ _ _ h => h⟩, rfl, fun _ _ _ _ _ => trivial⟩
        · simp only [List.getElem?_cons_zero, List.getElem?_cons_succ, Option.some.injEq] at ho
          subst ho
          intro a' W vs hB hS hE hU
          refine wpG_plain rfl ?_
          obtain ⟨r2, e19⟩ := hE 2 19 (by kernel_rfl) (by kernel_rfl)
          have v19 : a'.eval (.tmp 19) = .pointer (some ⟨g, 0, none⟩) := e19.trans r2
          clear hE hU
          exact wp_value_inv (w' := W) (.pointer (some ⟨g, 0, none⟩)) (op_fieldAddr rfl v19 (VRw_fld_spence_spenceref14_View_0_0 W g)) ⟨_, rfl, hB, ⟨ExtE.refl _ _ _ _ _, fun _ _ _ h => h⟩, rfl, fun _ _ _ _ _ => trivial⟩
        · simp only [List.getElem?_cons_zero, List.getElem?_cons_succ, Option.some.injEq] at ho
          subst ho
          intro a' W vs hB hS hE hU
          refine wpG_plain rfl ?_
          obtain ⟨r3, e20⟩ := hE 3 20 (by kernel_rfl) (by kernel_rfl)
          have v20 : a'.eval (.tmp 20) = .pointer (some ⟨g, 0, none⟩) := e20.trans r3
          clear hE hU
          exact wp_value_inv (w' := W) (.slice a j c) (op_loadAt rfl v20 (LDG.out W hB)) ⟨_, rfl, hB, ⟨ExtE.refl _ _ _ _ _, fun _ _ _ h => h⟩, rfl, fun _ _ _ _ _ => trivial⟩
        · simp only [List.getElem?_cons_zero, List.getElem?_cons_succ, Option.some.injEq] at ho
          subst ho
          intro a' W vs hB hS hE hU
          refine wpG_plain rfl ?_
          have v0 : a'.eval (.tmp 0) = .slice (some ⟨b3, f3, none⟩) n0 cap := (hU 0 (by kernel_rfl)).trans rfl
          clear hE hU
          exact wp_value_inv (w' := W) (.slice (some ⟨b3, f3, none⟩) n0 cap) (op_move rfl v0) ⟨_, rfl, hB, ⟨ExtE.refl _ _ _ _ _, fun _ _ _ h => h⟩, rfl, fun _ _ _ _ _ => trivial⟩
        · simp only [List.getElem?_cons_zero, List.getElem?_cons_succ, Option.some.injEq] at ho
          subst ho
          intro a' W vs hB hS hE hU
          refine wpG_plain rfl ?_
          have v5 : a'.eval (.tmp 5) = .int .i64 (j : Nat) := (hU 5 (by kernel_rfl)).trans rfl
          clear hE hU
          exact wp_value_inv (w' := W) (.int .i64 (j : Nat)) (op_move rfl v5) ⟨_, rfl, hB, ⟨ExtE.refl _ _ _ _ _, fun _ _ _ h => h⟩, rfl, fun _ _ _ _ _ => trivial⟩
        · simp only [List.getElem?_cons_zero, List.getElem?_cons_succ, Option.some.injEq] at ho
          subst ho
          intro a' W vs hB hS hE hU
          refine wpG_plain rfl ?_
          obtain ⟨r5, e22⟩ := hE 5 22 (by kernel_rfl) (by kernel_rfl)
          have v22 : a'.eval (.tmp 22) = .slice (some ⟨b3, f3, none⟩) n0 cap := e22.trans r5
          obtain ⟨r6, e23⟩ := hE 6 23 (by kernel_rfl) (by kernel_rfl)
          have v23 : a'.eval (.tmp 23) = .int .i64 (j : Nat) := e23.trans r6
          clear hE hU
          exact wp_value_inv (w' := W) (.pointer (some ⟨b3, f3 + j * 4, none⟩)) (op_indexAddr rfl v22 v23 (HIX.out W)) ⟨_, rfl, hB, ⟨ExtE.refl _ _ _ _ _, fun _ _ _ h => h⟩, rfl, fun _ _ _ _ _ => trivial⟩
        · simp only [List.getElem?_cons_zero, List.getElem?_cons_succ, Option.some.injEq] at ho
          subst ho
          intro a' W vs hB hS hE hU
          refine wpG_plain rfl ?_
          obtain ⟨r7, e24⟩ := hE 7 24 (by kernel_rfl) (by kernel_rfl)
          have v24 : a'.eval (.tmp 24) = .pointer (some ⟨b3, f3 + j * 4, none⟩) := e24.trans r7
          clear hE hU
          exact wp_value_inv (w' := W) (.agg #[.int .i64 qb, .int .i64 qo, .int .i64 qr, .int .i64 qn]) (op_loadAt rfl v24 (LDQ.out W hB)) ⟨_, rfl, hB, ⟨ExtE.refl _ _ _ _ _, fun _ _ _ h => h⟩, rfl, fun _ _ _ _ _ => trivial⟩
        · simp only [List.getElem?_cons_zero, List.getElem?_cons_succ, Option.some.injEq] at ho
          subst ho
          intro a' W vs hB hS hE hU
          refine wpG_plain rfl ?_
          obtain ⟨r8, e25⟩ := hE 8 25 (by kernel_rfl) (by kernel_rfl)
          have v25 : a'.eval (.tmp 25) = .agg #[.int .i64 qb, .int .i64 qo, .int .i64 qr, .int .i64 qn] := e25.trans r8
          clear hE hU
          exact wp_value_inv (w' := W) (.agg UL.toArray) (op_build rfl (by simp [v25]) HBU.out) ⟨_, rfl, hB, ⟨ExtE.refl _ _ _ _ _, fun _ _ _ h => h⟩, rfl, fun _ _ _ _ _ => trivial⟩
        · simp only [List.getElem?_cons_zero, List.getElem?_cons_succ, Option.some.injEq] at ho
          subst ho
          intro a' W vs hB hS hE hU
          refine wpG_plain rfl ?_
          obtain ⟨r9, e26⟩ := hE 9 26 (by kernel_rfl) (by kernel_rfl)
          have v26 : a'.eval (.tmp 26) = .agg UL.toArray := e26.trans r9
          clear hE hU
          have hfa : Fr (fun _ => False) W (W.alloc (.cells UL.toArray 87)) := (Fr.refl _ _).alloc _
          exact wp_value_inv (w' := W.alloc (.cells UL.toArray 87)) (.slice (some ⟨W.heap.size, 0, none⟩) 1 1) (op_rows rfl (by simp [v26]) (HB1.out W)) ⟨_, rfl, ⟨hB.1.trans hfa (fun _ h => h.elim), hB.2.keep hfa (fun _ _ h => h)⟩, ⟨ExtE.quiet hfa, fun b _ o h => hfa.heap h id⟩, ⟨_, rfl, HZ9.out ▸ hB.1.size, heap_alloc_new W _⟩, fun _ _ _ _ _ => trivial⟩
        · simp only [List.getElem?_cons_zero, List.getElem?_cons_succ, Option.some.injEq] at ho
          subst ho
          intro a' W vs hB hS hE hU
          refine wpG_plain rfl ?_
          obtain ⟨r4, e21⟩ := hE 4 21 (by kernel_rfl) (by kernel_rfl)
          have v21 : a'.eval (.tmp 21) = .slice a j c := e21.trans r4
          skip
          obtain ⟨r10, e27⟩ := hE 10 27 (by kernel_rfl) (by kernel_rfl)
          obtain ⟨b9, hb9, hz9, hr9⟩ := r10
          have v27 : a'.eval (.tmp 27) = .slice (some ⟨b9, 0, none⟩) 1 1 := e27.trans hb9
          obtain ⟨v', w', hr, ho, hf, hf0, hp⟩ := run_append_ek Try.underlying34 infoU9 rfl (by decide) (by decide) W _ (.slice a j c) _ L1 [UL] hB.2 (Elems.ofBlock hr9 HUL.out.1) HUL.out.2.1 (Nat.le_trans HUL.out.2.2 hB.1.size) HN1.out
          exact wp_value_inv (w' := w') v' (op_append9 rfl v21 v27 hr) ⟨_, rfl, ⟨hB.1.trans hf (fun b hb => .inl hb), hp _ _ ⟨[UL], rfl⟩ hB.2⟩, ⟨hp, fun b hb o h => hf.heap h (fun e => by have := HLT.out b e; omega)⟩, ho, fun _ _ _ _ _ => trivial⟩
        · simp only [List.getElem?_cons_zero, List.getElem?_cons_succ, Option.some.injEq] at ho
          subst ho
          intro a' W vs hB hS hE hU
          refine wpG_plain rfl ?_
          obtain ⟨r0, e17⟩ := hE 0 17 (by kernel_rfl) (by kernel_rfl)
          have v17 : a'.eval (.tmp 17) = .pointer (some ⟨g, 0, none⟩) := e17.trans r0
          clear hE hU
          exact wp_value_inv (w' := W) (.pointer (some ⟨g, 0, none⟩)) (op_nilCheck rfl v17) ⟨_, rfl, hB, ⟨ExtE.refl _ _ _ _ _, fun _ _ _ h => h⟩, rfl, fun _ _ _ _ _ => trivial⟩
        · simp only [List.getElem?_cons_zero, List.getElem?_cons_succ, Option.some.injEq] at ho
          subst ho
          intro a' W vs hB hS hE hU
          refine wpG_plain rfl ?_
          obtain ⟨r12, e29⟩ := hE 12 29 (by kernel_rfl) (by kernel_rfl)
          have v29 : a'.eval (.tmp 29) = .pointer (some ⟨g, 0, none⟩) := e29.trans r12
          clear hE hU
          exact wp_value_inv (w' := W) (.pointer (some ⟨g, 0, none⟩)) (op_fieldAddr rfl v29 (VRw_fld_spence_spenceref14_View_0_0 W g)) ⟨_, rfl, hB, ⟨ExtE.refl _ _ _ _ _, fun _ _ _ h => h⟩, rfl, fun _ _ _ _ _ => trivial⟩
      · intro vs Wz hB0 hR0 hD
        have H11 := Lib.hid (show OwnE 87 6 z Wz (vs 11) (L1 ++ [UL]) from hR0 11 (by decide))
        obtain ⟨a7, c7, hv7⟩ := OwnE.form H11.out
        have r30 : vs 13 = .pointer (some ⟨g, 0, none⟩) := hR0 13 (by decide)
        have HZ := Lib.hid hB0
        clear hR0 hD hB0
        simp only [acts, if_true, dstAt, List.getElem?_cons_zero, List.getElem?_cons_succ, Option.bind_some, Act.put, List.setIfInBounds_toArray, List.set_cons_succ, List.set_cons_zero, List.drop_succ_cons]
        simp only [r30]
        clear r30
        obtain ⟨n7, hn7⟩ : ∃ n7, n7 = (L1 ++ [UL]).length := ⟨_, rfl⟩
        rw [← hn7] at hv7
        simp only [hv7]
        have ho7 : OwnE 87 6 z Wz (.slice a7 n7 c7) (L1 ++ [UL]) := by rw [← hv7]; exact H11.out
        obtain rfl : n7 = j + 1 := by rw [hn7, List.length_append, HL1.out.2.1]; rfl
        have hgo : ¬ (Value.slice a j c).ownBlock = some g := fun e => by have := HG.out.2.1 g e; have := HG.out.1; omega
        have hgz := HZ.out.1.heap HS.out.2.1 hgo
        have cz := cell_of_one hgz
        have fz : Wz.frozen? ⟨g, 0, none⟩ = false := frozen_of_row _ _ _ _ _ hgz
        have HF := Lib.hid (And.intro hgz ho7)
        clear hn7 hv7 H11 ho7 hgo hgz
        go_wp2_with fail
        go_roundw
        case rel => exact ⟨j + 1, a7, c7, by omega, by go_num, Lib.hid (by
          have hfs : Fr (fun k => k = g) Wz (Wz.setCell ⟨g, 0, none⟩ (.slice a7 (j + 1) c7)) := Fr.cell1 Wz g 0 _
          refine ⟨(HS.out.1.trans HZ.out.1 (fun b hb => .inr (by have := HG.out.2.1 b hb; have := HG.out.2.2; omega))).trans hfs (fun k hk => .inl hk), ?_, ?_⟩
          · have := cell_put (i := 0) (.slice a7 (j + 1) c7) HF.out.1
            simpa using this
          · have h9 := HF.out.2.keep hfs (fun b hb e => by have := HF.out.2.own b hb; have := HG.out.1; omega)
            obtain ⟨e1, e2, e3, e4, e5⟩ := HL1.out
            rw [← HG.out.2.2, List.take_succ_eq_append_getElem e3, List.map_append, ← e1, ← e5, List.map_cons, List.map_nil, ← e4]
            exact h9)⟩
        case measure => simp [intOf]; omega
    · have hjn : j = n0 := by omega
      subst hjn
      have ho := HS.out.2.2
      have hQl := HN0.out.1
      rw [hQl, List.take_length] at ho
      have hne : Q ≠ [] := fun e => by have := HN0.out.2.1; rw [e] at this; simp at this
      have hRv : ∃ u, W0.heap.size ≤ u ∧ RvAt (fun _ => False) wr g u ⟨Q, fun _ => [], fun _ => []⟩ := by
        obtain ⟨u, hzu, hul, he, hou⟩ := OwnE.atBlock ho (by decide) (by simpa using hne)
        rcases ho.row.2 with ⟨_, hl⟩ | ⟨g', cap', cur, hv, hb, hgg, hnc, hcm, hcs, ht⟩
        · exact absurd (List.eq_nil_of_length_eq_zero hl) (by simpa using hne)
        · rw [List.length_map] at hv
          have hug : u = g' := by rw [hv] at hou; simp [Value.ownBlock] at hou; exact hou.symm
          subst hug
          unfold maxLen at hcm
          rw [List.length_map] at hnc
          refine ⟨u, hzu, ⟨⟨cap', ?_, hnc, by omega⟩, ⟨_, hgg⟩, fun t ht' => ?_, by have := HW0.out.2.2.2; omega, id, id⟩⟩
          · rw [← hv, ← hQl]
            exact HS.out.2.1
          · refine ⟨⟨.slice none 0 0, .slice none 0 0, [], ?_, Elems.nil _ _ _, ⟨Elems.nil _ _ _, fun _ h => by cases h⟩, rfl⟩⟩
            intro y v hy
            have hy6 : y < 6 := (List.getElem?_eq_some_iff.1 hy).1
            rw [hv] at ho
            have hr9 := ho.row
            rw [List.length_map] at hr9
            have h9 := World.ownsRow.cellAt hr9 (t * 6 + y) (by
              have : t < Q.length := ht'
              omega)
            rw [h9, flat_get _ ho.each t (by rw [List.length_map]; exact ht') y hy6, List.getElem_map]
            exact hy
      obtain ⟨u, hu1, hu2⟩ := hRv
      have HRV := Lib.hid (And.intro hu1 hu2)
      clear ho hQl hne hu1 hu2
      go_wp2_with fail
      go_ret2
      have hsz := HW0.out.1.size
      exact ⟨g, u, rfl, HRV.out.2, ⟨HW0.out.2.2.1, Nat.le_trans hsz HRV.out.1⟩, HW0.out.1.trans HS.out.1 (fun k hk => .inr (by rw [hk]; exact HW0.out.2.2.1))⟩
end
end Go.Proofs.Ytdpaobflknkbkaa
namespace Go.Proofs.Ytdpaobflknkbkaa
open Go.RowKit Go.ChangeShapes
set_option linter.unusedVariables false
theorem mark_any (k i : Nat) (w : World) (hk : k ≤ 1000000000) (hi : i ≤ 1000000000000000) :
    Calls Try.prog 81 #[.int .i64 k, .int .i64 i] w fun e w' => e = .returned (.int .i64 (1000003 * ((k : Int) + 7) + i)) ∧ w = w' := by
  go_enter Try.func81, Try.ntmps81
  go_wp2
  go_ret
  exact ⟨rfl, rfl⟩
def mB (k i : Nat) : UInt8 := UInt8.ofNat (IntKind.u64.wrap ((1000003 * ((k : Int) + 7) + i) * 11400714819323198485) / 72057594037927936 % 256).toNat
theorem mB_val (k i : Nat) : IntKind.u64.wrap ((1000003 * ((k : Int) + 7) + i) * 11400714819323198485) / 72057594037927936 % 256 = (mB k i).toNat := by
  unfold mB
  generalize IntKind.u64.wrap ((1000003 * ((k : Int) + 7) + i) * 11400714819323198485) / 72057594037927936 = z
  rw [UInt8.toNat_ofNat']
  omega
theorem markByte_any (k i : Nat) (w : World) (hk : k ≤ 1000000000) (hi : i ≤ 1000000000000000) :
    Calls Try.prog 66 #[.int .i64 k, .int .i64 i] w fun e w' => e = .returned (bv (mB k i)) ∧ w = w' := by
  have HV := Lib.hid (mB_val k i)
  obtain ⟨m, hm⟩ : ∃ m : Int, m = 1000003 * ((k : Int) + 7) + i := ⟨_, rfl⟩
  have h0 : 0 ≤ m := by omega
  have h1 : m ≤ 2000000000000000000 := by omega
  have HM := mark_any k i w hk hi
  rw [← hm] at HM HV
  have HM' := Lib.hid HM
  clear hm HM
  go_enter Try.func66, Try.ntmps66
  go_wp2_with (go_at_call 81; refine HM'.out.mono ?_; rintro e w' ⟨rfl, rfl⟩)
  go_ret
  exact ⟨ret_int HV.out, rfl⟩
end Go.Proofs.Ytdpaobflknkbkaa
namespace Go.Proofs.Ytdpaobflknkbkaa
open Go.RowKit Go.ChangeShapes
set_option linter.unusedVariables false
set_option maxHeartbeats 2000000 in
set_option maxRecDepth 100000 in
theorem overB_some (w : World) (g n cap : Nat) (cur : Array Value) (hg : w.heap[g]? = some (.cells cur 5 (0, 0))) (hs : cur.size = cap) (hn : n ≤ cap) (hm : cap ≤ 9223372036854775807) (hL : n ≤ 1000000000) :
    Calls Try.prog 43 #[.slice (some ⟨g, 0, none⟩) n cap] w fun e w' => e = .returned (.tuple #[]) ∧ Fr (fun k => k = g) w w' ∧ ∃ C : Array Value, C.size = cap ∧ w'.heap[g]? = some (.cells C 5 (0, 0)) := by
  have HG := Lib.hid (And.intro hg hs)
  clear hg hs
  by_cases hc : cap ≤ n + 12
  · obtain ⟨t, rfl⟩ : ∃ t, t = cap := ⟨_, rfl⟩
    have hc1 : (t : Int) ≤ (n : Int) + 12 := by omega
    go_enter Try.func43, Try.ntmps43
    go_wp2_with fail
    go_loopw [3] (fun iv wr => ∃ i : Nat, i ≤ t ∧ iv = .int .i64 i ∧ Hid (Fr (fun k => k = g) w wr ∧ ∃ C : Array Value, C.size = t ∧ wr.heap[g]? = some (.cells C 5 (0, 0)))) (fun iv _ => t - (intOf iv).toNat)
    case atStart => exact ⟨0, by omega, rfl, Lib.hid ⟨Fr.refl _ _, cur, HG.out.2, HG.out.1⟩⟩
    case round =>
      obtain ⟨i, hi, rfl, hR⟩ := hrel
      by_cases hlt : i < t
      · obtain ⟨hF, C, hC, hb⟩ := hR.out
        have hci : wr.cell? ⟨g, i, none⟩ = some (C[i]'(by omega)) := by rw [cell_of_row _ _ _ _ _ _ hb]; exact Array.getElem?_eq_getElem (by omega)
        have hfi := frozen_of_row wr g i C 5 hb
        obtain ⟨y, hy⟩ : ∃ y, y = C[i]'(by omega) := ⟨_, rfl⟩
        rw [← hy] at hci
        have HMB := Lib.hid (markByte_any 2 i wr (by omega) (by omega))
        have HBV := Lib.hid (show bv (mB 2 i) = .int .u8 (mB 2 i).toNat from rfl)
        have HS := Lib.hid (show Fr (fun k => k = g) w (wr.setCell ⟨g, i, none⟩ (.int .u8 (mB 2 i).toNat)) ∧ ∃ C : Array Value, C.size = t ∧ (wr.setCell ⟨g, i, none⟩ (.int .u8 (mB 2 i).toNat)).heap[g]? = some (.cells C 5 (0, 0)) from
          ⟨hF.setCell (p := ⟨g, i, none⟩) (.inl rfl) _, _, by rw [Array.size_setIfInBounds]; exact hC, heap_setCell_at _ hb⟩)
        have hit : (i : Int) < (t : Int) := by omega
        clear hR hF hC hb hy
        go_wp2_with (go_at_call 66; refine HMB.out.mono ?_; rintro e w' ⟨rfl, rfl⟩; rw [HBV.out])
        go_roundw
        case rel => exact ⟨i + 1, by omega, by go_num, HS⟩
        case measure => simp [intOf]; omega
      · have HQ := Lib.hid hR.out
        clear hR
        go_wp2
        go_end0
        exact ⟨rfl, HQ.out⟩
  · obtain ⟨t, hte⟩ : ∃ t, t = n + 12 := ⟨_, rfl⟩
    have hti : (n : Int) + 12 = (t : Int) := by omega
    have hc1 : ¬ (cap : Int) ≤ (t : Int) := by omega
    have hc2 : (t : Int) ≤ (cap : Int) := by omega
    have hc3 : t ≤ cap := by omega
    have htb : t ≤ 1000000012 := by omega
    clear hc hte
    go_enter Try.func43, Try.ntmps43
    go_wp2_with fail
    go_loopw [3] (fun iv wr => ∃ i : Nat, i ≤ t ∧ iv = .int .i64 i ∧ Hid (Fr (fun k => k = g) w wr ∧ ∃ C : Array Value, C.size = cap ∧ wr.heap[g]? = some (.cells C 5 (0, 0)))) (fun iv _ => t - (intOf iv).toNat)
    case atStart => exact ⟨0, by omega, rfl, Lib.hid ⟨Fr.refl _ _, cur, HG.out.2, HG.out.1⟩⟩
    case round =>
      obtain ⟨i, hi, rfl, hR⟩ := hrel
      by_cases hlt : i < t
      · obtain ⟨hF, C, hC, hb⟩ := hR.out
        have hci : wr.cell? ⟨g, i, none⟩ = some (C[i]'(by omega)) := by rw [cell_of_row _ _ _ _ _ _ hb]; exact Array.getElem?_eq_getElem (by omega)
        have hfi := frozen_of_row wr g i C 5 hb
        obtain ⟨y, hy⟩ : ∃ y, y = C[i]'(by omega) := ⟨_, rfl⟩
        rw [← hy] at hci
        have HMB := Lib.hid (markByte_any 2 i wr (by omega) (by omega))
        have HBV := Lib.hid (show bv (mB 2 i) = .int .u8 (mB 2 i).toNat from rfl)
        have HS := Lib.hid (show Fr (fun k => k = g) w (wr.setCell ⟨g, i, none⟩ (.int .u8 (mB 2 i).toNat)) ∧ ∃ C : Array Value, C.size = cap ∧ (wr.setCell ⟨g, i, none⟩ (.int .u8 (mB 2 i).toNat)).heap[g]? = some (.cells C 5 (0, 0)) from
          ⟨hF.setCell (p := ⟨g, i, none⟩) (.inl rfl) _, _, by rw [Array.size_setIfInBounds]; exact hC, heap_setCell_at _ hb⟩)
        have hit : (i : Int) < (t : Int) := by omega
        clear hR hF hC hb hy
        go_wp2_with (go_at_call 66; refine HMB.out.mono ?_; rintro e w' ⟨rfl, rfl⟩; rw [HBV.out])
        go_roundw
        case rel => exact ⟨i + 1, by omega, by go_num, HS⟩
        case measure => simp [intOf]; omega
      · have HQ := Lib.hid hR.out
        clear hR
        go_wp2
        go_end0
        exact ⟨rfl, HQ.out⟩
set_option maxRecDepth 100000 in
theorem overB_nil (w : World) : Calls Try.prog 43 #[.slice none 0 0] w fun e w' => e = .returned (.tuple #[]) ∧ w' = w := by
  go_enter Try.func43, Try.ntmps43
  go_wp2
  refine wp_loop_rounds 1 ?_
  rw [rounds_succ]
  go_wp2
  go_end0
  exact ⟨rfl, rfl⟩
def CapB (F : Nat → Prop) (w : World) (x : Value) : Prop := x = .slice none 0 0 ∨ ∃ (g n cap : Nat) (C : Array Value), x = .slice (some ⟨g, 0, none⟩) n cap ∧ n ≤ cap ∧ cap ≤ 9223372036854775807 ∧ n ≤ 1000000000 ∧ F g ∧ w.heap[g]? = some (.cells C 5 (0, 0)) ∧ C.size = cap
theorem CapB.ofOwn {F : Nat → Prop} {w : World} {x : Value} {L : List UInt8} (h : OwnB F w x L) (hL : L.length ≤ 1000000000) : CapB F w x := by
  rcases h.1.2 with ⟨rfl, _⟩ | ⟨g, cap, cur, rfl, hb, hg, hn, hm, hs, ht⟩
  · exact .inl rfl
  · unfold maxLen at hm
    exact .inr ⟨g, L.length, cap, cur, rfl, hn, by omega, hL, h.2 g rfl, hg, by simpa using hs⟩
def Kept9 (w w' : World) : Prop := ∀ (g : Nat) (C : Array Value), w.heap[g]? = some (.cells C 5 (0, 0)) → ∃ C' : Array Value, w'.heap[g]? = some (.cells C' 5 (0, 0)) ∧ C'.size = C.size
theorem Kept9.quiet {w w' : World} (h : Fr (fun _ => False) w w') : Kept9 w w' := fun g C hg => ⟨C, h.heap hg id, rfl⟩
theorem Kept9.trans {a b c : World} (h : Kept9 a b) (k : Kept9 b c) : Kept9 a c := fun g C hg => by
  obtain ⟨D, h1, h2⟩ := h g C hg
  obtain ⟨E, h3, h4⟩ := k g D h1
  exact ⟨E, h3, h4.trans h2⟩
theorem CapB.kept {F : Nat → Prop} {w w' : World} {x : Value} (h : CapB F w x) (hk : Kept9 w w') : CapB F w' x := by
  rcases h with h | ⟨g, n, cap, C, h1, h2, h3, h4, h5, h6, h7⟩
  · exact .inl h
  · obtain ⟨C', h8, h9⟩ := hk g C h6
    exact .inr ⟨g, n, cap, C', h1, h2, h3, h4, h5, h8, h9.trans h7⟩
theorem overB_any {F : Nat → Prop} (w : World) (x : Value) (h : CapB F w x) : Calls Try.prog 43 #[x] w fun e w' => e = .returned (.tuple #[]) ∧ Fr F w w' ∧ Kept9 w w' := by
  rcases h with rfl | ⟨g, n, cap, C, rfl, h2, h3, h4, h5, h6, h7⟩
  · exact (overB_nil w).mono fun e w' ⟨h1, h2⟩ => ⟨h1, by rw [h2]; exact Fr.refl _ _, by rw [h2]; exact Kept9.quiet (Fr.refl _ _)⟩
  · refine (overB_some w g n cap C h6 h7 h2 h3 h4).mono fun e w' ⟨h8, h9, C', h10, h11⟩ => ⟨h8, h9.mono (fun k _ hk => by rw [hk]; exact h5), fun g' D hg => ?_⟩
    by_cases e : g' = g
    · subst e
      rw [h6] at hg
      simp only [Option.some.injEq, Obj.cells.injEq, and_true] at hg
      subst hg
      exact ⟨C', h11, h10.trans h7.symm⟩
    · exact ⟨D, h9.heap hg e, rfl⟩
set_option maxRecDepth 100000 in
set_option maxHeartbeats 1000000 in
theorem markText2_any (i : Nat) (h : i ≤ 100000) (w : World) : Calls Try.prog 83 #[.int .i64 2, .int .i64 i] w fun e w' => ∃ S, e = .returned (.string S) ∧ Fr (fun _ => False) w w' := by
  obtain ⟨x1, hx1⟩ : ∃ x : UInt8, x = UInt8.ofNat i := ⟨_, rfl⟩
  obtain ⟨x2, hx2⟩ : ∃ x : UInt8, x = UInt8.ofNat (i / 256) := ⟨_, rfl⟩
  obtain ⟨x3, hx3⟩ : ∃ x : UInt8, x = UInt8.ofNat (i / 65536) := ⟨_, rfl⟩
  obtain ⟨n1, hn1⟩ : ∃ n : Nat, n = x1.toNat := ⟨_, rfl⟩
  obtain ⟨n2, hn2⟩ : ∃ n : Nat, n = x2.toNat := ⟨_, rfl⟩
  obtain ⟨n3, hn3⟩ : ∃ n : Nat, n = x3.toNat := ⟨_, rfl⟩
  have h1 : (i : Int) % 256 = (n1 : Int) := by rw [hn1, hx1, UInt8.toNat_ofNat']; omega
  have h2 : (i : Int) / 256 % 256 = (n2 : Int) := by rw [hn2, hx2, UInt8.toNat_ofNat']; omega
  have h3 : (i : Int) / 65536 = (n3 : Int) := by rw [hn3, hx3, UInt8.toNat_ofNat']; omega
  obtain ⟨S, hcv⟩ : ∃ S, (convert 44 9 (.slice (some ⟨w.heap.size, 0, none⟩) 8 8)).run Try.prog (w.alloc (.cells #[.int .u8 35, .int .u8 2, .int .u8 0, .int .u8 0, .int .u8 47, .int .u8 (n1 : Int), .int .u8 (n2 : Int), .int .u8 (n3 : Int)] 5)) = .ok (.string S) (w.alloc (.cells #[.int .u8 35, .int .u8 2, .int .u8 0, .int .u8 0, .int .u8 47, .int .u8 (n1 : Int), .int .u8 (n2 : Int), .int .u8 (n3 : Int)] 5)) := by
    rw [hn1, hn2, hn3]
    exact ⟨_, run_bytes_str _ _ [35, 2, 0, 0, 47, x1, x2, x3] ((Byt.new w [35, 2, 0, 0, 47, x1, x2, x3]).bytes (by simp [maxLen]))⟩
  clear hx1 hx2 hx3 hn1 hn2 hn3
  go_enter Try.func83, Try.ntmps83
  go_wp2
  go_ret
  exact ⟨S, rfl, (Fr.refl _ _).alloc _⟩
theorem row_key (S : ByteArray) : Try.prog.built 73 #[(0, Value.string S)].toList = some #[.string S, .slice none 0 0] := by kernel_rfl
set_option maxRecDepth 100000 in
set_option maxHeartbeats 1000000 in
theorem markRow2_any (i : Nat) (h : i ≤ 100000) (w : World) : Calls Try.prog 72 #[.int .i64 2, .int .i64 i] w fun e w' => ∃ S, e = .returned (.agg #[.string S, .slice none 0 0]) ∧ Fr (fun _ => False) w w' := by
  obtain ⟨W1, hW1⟩ : ∃ W1, W1 = w.alloc (.cells #[.string ⟨#[]⟩, .slice none 0 0] 73) := ⟨_, rfl⟩
  have hf1 : Fr (fun _ => False) w W1 := by rw [hW1]; exact (Fr.refl _ _).alloc _
  have hb1 : W1.heap[w.heap.size]? = some (.cells #[.string ⟨#[]⟩, .slice none 0 0] 73 (0, 0)) := by rw [hW1]; exact heap_alloc_new w _
  have HM := Lib.hid (markText2_any i h W1)
  have HW := Lib.hid (And.intro hW1 (And.intro hf1 hb1))
  clear hf1 hb1 hW1
  go_enter Try.func72, Try.ntmps72
  go_wp2_with fail
  rw [← HW.out.1]
  go_wp2_with (first
    | (go_at_call 83; refine HM.out.mono ?_; rintro e w2 ⟨S, rfl, hf2⟩; (have H2 := Lib.hid (And.intro hf2 (hf2.heap HW.out.2.2 id))); clear hf2)
    | (with_reducible refine Go.Proofs.Ytdpaobflknkbkaa.wpList_value rfl (.agg #[.string S, .slice none 0 0]) w2 (op_build rfl (by simp; rfl) (row_key S)) ?_; simp only [Act.put, List.setIfInBounds_toArray, List.set_cons_succ, List.set_cons_zero])
    | (with_reducible refine Go.Proofs.Ytdpaobflknkbkaa.wpList_store_row rfl 73 (.tmp 4) (.tmp 8) rfl w.heap.size #[.string S, .slice none 0 0] #[.string ⟨#[]⟩, .slice none 0 0] 73 rfl rfl H2.out.2 (by kernel_rfl) rfl (by kernel_rfl) ?_))
  refine bodyPost_ret (results_cell_row rfl _ _ w.heap.size 73 #[.string S, .slice none 0 0] (0, 0) _ rfl (setRow_heap _ _ _ _ _ _ H2.out.2) Try.underlying73 rfl (by kernel_rfl)) rfl ⟨S, rfl, ?_⟩
  exact (HW.out.2.1.trans H2.out.1 (fun _ h => h.elim)).setRow (.inr (Nat.le_refl _)) _
set_option maxRecDepth 100000 in
theorem overRow_any {F : Nat → Prop} (w : World) (N : ByteArray) (x : Value) (h : CapB F w x) : Calls Try.prog 71 #[.agg #[.string N, x]] w fun e w' => e = .returned (.tuple #[]) ∧ Fr F w w' ∧ Kept9 w w' := by
  obtain ⟨xa, xn, xc, rfl⟩ : ∃ a n c, x = .slice a n c := by
    rcases h with rfl | ⟨g, n, cap, C, rfl, _⟩
    · exact ⟨_, _, _, rfl⟩
    · exact ⟨_, _, _, rfl⟩
  obtain ⟨W1, hW1⟩ : ∃ W1, W1 = w.alloc (.cells #[.string N, .slice xa xn xc] 73) := ⟨_, rfl⟩
  have hf1 : Fr (fun _ => False) w W1 := by rw [hW1]; exact (Fr.refl _ _).alloc _
  have HO := Lib.hid (overB_any W1 _ (h.kept (Kept9.quiet hf1)))
  have HW := Lib.hid (And.intro hW1 hf1)
  clear hf1 hW1 h
  go_enter Try.func71, Try.ntmps71
  go_wp2_with (go_at_call 43; rw [← HW.out.1]; refine HO.out.mono ?_; rintro e w2 ⟨rfl, hf2, hk2⟩; (have H2 := Lib.hid (And.intro hf2 hk2)); clear hf2 hk2)
  go_end0
  exact ⟨rfl, (HW.out.2.mono (fun _ _ h => h.elim)).trans H2.out.1 (fun k hk => .inl hk), (Kept9.quiet HW.out.2).trans H2.out.2⟩
end Go.Proofs.Ytdpaobflknkbkaa
namespace Go.Proofs.Ytdpaobflknkbkaa
open Go.RowKit Go.ChangeShapes
set_option linter.unusedVariables false
theorem OwnB.store {F : Nat → Prop} {w : World} {g m cap : Nat} {L : List UInt8} (h : OwnB F w (.slice (some ⟨g, 0, none⟩) m cap) L) (i : Nat) (b : UInt8) :
    OwnB F (w.setCell ⟨g, i, none⟩ (bv b)) (.slice (some ⟨g, 0, none⟩) m cap) (L.set i b) := by
  obtain ⟨ao, c, hv⟩ := h.len
  simp only [Value.slice.injEq] at hv
  obtain ⟨_, hm, _⟩ := hv
  subst hm
  refine ⟨?_, h.2⟩
  have := (World.ownsRow.stored h.1 i (bv b)).1
  rw [← List.map_set] at this
  simpa using this
theorem OwnB.head {F : Nat → Prop} {w : World} {ao : Option Addr} {m cap : Nat} {L : List UInt8} (h : OwnB F w (.slice ao m cap) L) (n : Nat) (hn : n ≤ L.length) (hz : ao ≠ none) : OwnB F w (.slice ao n cap) (L.take n) := by
  rcases h.1.2 with ⟨hv, _⟩ | ⟨g, cap', cur, hv, hb, hg, hnc, hcm, hcs, ht⟩
  · simp only [Value.slice.injEq] at hv
    exact absurd hv.1 hz
  · simp only [Value.slice.injEq] at hv
    obtain ⟨rfl, _, rfl⟩ := hv
    have hl : (L.take n).length = n := by rw [List.length_take]; omega
    refine ⟨⟨by simp, .inr ⟨g, cap, cur, by rw [hl], hb, hg, by omega, hcm, hcs, ?_⟩⟩, fun k hk => h.2 k hk⟩
    rw [hl, List.map_take, ← ht, List.take_take]
    congr 1
    omega
def marks (k m : Nat) : List UInt8 := (List.range m).map (mB k)
theorem marks_length (k m : Nat) : (marks k m).length = m := by simp [marks]
theorem marks_succ (k m : Nat) : marks k (m + 1) = marks k m ++ [mB k m] := by simp [marks, List.range_succ]
theorem marks_get (k m i : Nat) (h : i < m) : (marks k m)[i]? = some (mB k i) := by
  simp [marks, h]
theorem OwnB.keep' {F S : Nat → Prop} {w w' : World} {v : Value} {L : List UInt8} (h : OwnB F w v L) (hf : Fr S w w') (hd : ∀ g, v.ownBlock = some g → ¬ S g) : OwnB F w' v L := by
  have h1 : OwnB (fun k => v.ownBlock = some k) w v L := ⟨h.1, fun g hg => hg⟩
  have h2 := h1.keep hf (fun k _ hk => hd k hk)
  exact ⟨h2.1, h.2⟩
theorem OwnB.form {F : Nat → Prop} {w : World} {v : Value} {L : List UInt8} (h : OwnB F w v L) (hL : 0 < L.length) :
    ∃ g cap, v = .slice (some ⟨g, 0, none⟩) L.length cap ∧ L.length ≤ cap ∧ cap ≤ maxLen ∧ F g ∧ ∀ i, i < L.length → w.cell? ⟨g, i, none⟩ = some (.int .u8 (L.getD i 0).toNat) ∧ w.frozen? ⟨g, i, none⟩ = false := by
  rcases h.1.2 with ⟨_, h0⟩ | ⟨g, cap, cur, hv, hb, hg, hnc, hcm, hcs, ht⟩
  · omega
  · subst hv
    refine ⟨g, cap, rfl, hnc, hcm, h.2 g rfl, fun i hi => ⟨?_, World.ownsRow.frozenAt h.1 i⟩⟩
    rw [World.ownsRow.cellAt h.1 i (by omega), List.getElem?_map, List.getElem?_eq_getElem hi]
    simp [bv, List.getD, List.getElem?_eq_getElem hi]
theorem mark_quiet (k i : Nat) (w : World) (q : Nat) (hk : k ≤ 1000000000) (hi : i ≤ 1000000000000000) :
    Calls Try.prog 66 #[.int .i64 k, .int .i64 i] (w.drewN q) fun e w' => e = .returned (.int .u8 (mB k i).toNat) ∧ w' = w.drewN q :=
  (markByte_any k i (w.drewN q) hk hi).mono fun _ _ ⟨h, e⟩ => ⟨h, e.symm⟩
end Go.Proofs.Ytdpaobflknkbkaa
