/- Laid together: VOfN -/
import Derived.Test.YtdpaobflknkbkaaVe14
import Derived.Test.YtdpaobflknkbkaaVe3
import Derived.Test.YtdpaobflknkbkaaVe12

namespace Go.Proofs.Ytdpaobflknkbkaa
open Go.RowKit Go.ChangeShapes Go.Maps Go.WideMaps
set_option linter.unusedVariables false
attribute [local go_sem] Oper.semAt_some
structure ItN (F : Nat → Prop) (bk tm mm n : Nat) (B : Int → VT Bs) (who : Int) (P : ByteArray) (Bp Bw Bq : Nat) (D : DataW Value) (W : World) : Prop where
  box : W.cell? ⟨Bp, 0, none⟩ = some (.pointer (some ⟨bk, 0, none⟩))
  bw : W.cell? ⟨Bw, 0, none⟩ = some (.int .i64 who)
  bq : W.cell? ⟨Bq, 0, none⟩ = some (.string P)
  at_ : BkAt kN 121 F W bk tm mm n B
  own : W.ownsMap Try.prog 114 heldR9 tm n D
theorem ItN.keep {S F : Nat → Prop} {bk tm mm n : Nat} {B : Int → VT Bs} {who : Int} {P : ByteArray} {Bp Bw Bq : Nat} {D : DataW Value} {W W' : World} (h : ItN F bk tm mm n B who P Bp Bw Bq D W) (hf : Fr S W W') (h1 : ¬ S Bp) (h2 : ¬ S Bw) (h3 : ¬ S Bq) (h4 : ¬ S bk) (h5 : ¬ S tm) (h6 : ¬ S mm) (h7 : ∀ k, k < W.heap.size → F k → ¬ S k) : ItN F bk tm mm n B who P Bp Bw Bq D W' :=
  ⟨hf.cell h.box h1, hf.cell h.bw h2, hf.cell h.bq h3, h.at_.keep hf h4 h5 h6 h7, ownsMap_kept9 h.own hf h5⟩
theorem look_valN {w : World} {tm n : Nat} {D : DataW Value} (h : w.ownsMap Try.prog 114 heldR9 tm n D) (i : Int) (hi : Wf i) (N : ByteArray) (hN : N.size ≤ 1000000) {x : Value} (hx : ∀ z, D.atKey (keyP i N.data.toList) z = .held x) : (Instr.lookup 119 (.map (some tm)) (.agg #[.int .i64 i, .string N]) false).run Try.prog w = .ok x w := by
  obtain ⟨v, ps, hr, hv⟩ := h.lookup (t := 119) (e := 44) lawPl Try.underlying119 (z := .slice none 0 0) (by kernel_rfl) (zd := .held (.slice none 0 0)) (zp := []) rfl (keyP_of i N hi (by unfold maxLen; omega))
  rw [hx, heldR9] at hv
  simp only [Option.some.injEq, Prod.mk.injEq, DataW.held.injEq] at hv
  rw [show Value.agg #[.int .i64 i, .string N] = .agg (plC i N) from rfl, hr, hv.1]
theorem fldOfN_0_0 (w : World) (g : Nat) : (Instr.fieldAt 121 (.pointer (some ⟨g, 0, none⟩)) 0).run Try.prog w = .ok (.pointer (some ⟨g, 0, none⟩)) w := by kernel_rfl
def OfRN (l Bp Bw bk tm : Nat) (who : Int) (N : ByteArray) (xv : Value) (i : Nat) (v : Value) (W : World) : Prop :=
  match i with
  | 0 => v = .func (.yield l) #[] #[]
  | 1 => v = .string N
  | 2 => v = .pointer (some ⟨bk, 0, none⟩)
  | 3 => v = .pointer (some ⟨bk, 0, none⟩)
  | 4 => v = .pointer (some ⟨bk, 0, none⟩)
  | 5 => v = .map (some tm)
  | 6 => v = .int .i64 who
  | 7 => v = .string N
  | 8 => v = .agg #[.int .i64 who, .string N]
  | 9 => v = xv
  | _ => True
theorem OfRN.ext (l Bp Bw bk tm : Nat) (who : Int) (N : ByteArray) (xv : Value) : ∀ (j : Nat) (u : Value) (W W' : World), Fr (fun _ => False) W W' → OfRN l Bp Bw bk tm who N xv j u W → OfRN l Bp Bw bk tm who N xv j u W'
  | 0, u, W, W', hf, h => h
  | 1, u, W, W', hf, h => h
  | 2, u, W, W', hf, h => h
  | 3, u, W, W', hf, h => h
  | 4, u, W, W', hf, h => h
  | 5, u, W, W', hf, h => h
  | 6, u, W, W', hf, h => h
  | 7, u, W, W', hf, h => h
  | 8, u, W, W', hf, h => h
  | 9, u, W, W', hf, h => h
  | _ + 10, u, W, W', hf, h => trivial
set_option maxRecDepth 100000 in
set_option maxHeartbeats 4000000 in
theorem of1N_in {T F : Nat → Prop} (n0 : Nat) (l Bp Bw Bq bk tm mm n : Nat) (B : Int → VT Bs) (who : Int) (hw : Wf who) (hn : n ≤ 100000) (P : ByteArray) (D : DataW Value) (val : Bs → Value) (hval : ∀ k x, vGet (B who) k = some x → ∀ z, D.atKey (keyP who k) z = .held (val k))
    (hT1 : ¬ T Bp) (hT2 : ¬ T Bw) (hT3 : ¬ T Bq) (hT4 : ¬ T bk) (hT5 : ¬ T tm) (hT6 : ¬ T mm) (hT7 : ∀ k, F k → ¬ T k) (B0 : Nat) (J Jx : List (KeyV (B who)) → World → Prop) (hJ : AbidesFrom B0 J)
    (hY : ∀ pre x W, J pre W → pre.length < (vKeys (B who) P.data.toList).length → YieldAt Fence.wide (n0 - 1) Try.prog l (encV val x) W fun e W' =>
      (e = .returned (.bool true) ∧ J (pre ++ [x]) W' ∧ KpV T W W') ∨ (e = .returned (.bool false) ∧ Jx (pre ++ [x]) W'))
    (W : World) (hR : ItN F bk tm mm n B who P Bp Bw Bq D W) (h0 : J [] W) :
    CallsIn Fence.wide n0 Try.prog 78 #[.func (.yield l) #[] #[], .pointer (some ⟨Bp, 0, none⟩), .pointer (some ⟨Bw, 0, none⟩), .pointer (some ⟨Bq, 0, none⟩)] W fun e W' => (∃ v, e = .returned v) ∧
      ((∃ ys, ys = keysV (B who) P.data.toList ∧ J ys W') ∨ (∃ pre, pre <+: keysV (B who) P.data.toList ∧ Jx pre W')) := by
  obtain ⟨hbx, hbw, hbq, hrw, hown⟩ := id hR
  have hkeys := WideF.out.calls (n := n0 - 1) (namesN_any W hrw hn who hw P)
  have HR := Lib.hid hR
  have HY := Lib.hid hY
  have HJ := Lib.hid hJ
  have HT := Lib.hid (And.intro hT1 (And.intro hT2 (And.intro hT3 (And.intro hT4 (And.intro hT5 (And.intro hT6 hT7))))))
  have HKE := Lib.hid hkeys
  have HV := Lib.hid hval
  have HWN := Lib.hid (And.intro hw hn)
  clear hR hY hJ hT1 hT2 hT3 hT4 hT5 hT6 hT7 hrw hown hkeys hval hw hn
  refine callsIn_of_wp Try.func78 rfl trivial ?_ rfl
  simp only [Try.ntmps78, List.size_toArray, List.length_cons, List.length_nil, Nat.reduceAdd, Nat.reduceSub, Array.replicate_succ, Array.replicate_zero, List.push_toArray, List.append_toArray, List.nil_append, List.cons_append]
  obtain ⟨m, hm⟩ : ∃ m, m = (vKeys (B who) P.data.toList).length := ⟨_, rfl⟩
  have HM := Lib.hid hm
  gi_wp2_with (refine ⟨trivial, fun hx => WideF.out.free hx, ?_⟩; gi_at_call 79; refine HKE.out.mono ?_; rintro e w2 ⟨v, rfl, he2, hf2, hs2⟩; (obtain ⟨ao, cap, rfl, hc1, hc2, hc3, hc4⟩ := id he2); rw [List.length_map] at he2 hc1 ⊢; rw [← hm] at he2 hc1 hs2 ⊢; (have H2 := Lib.hid (And.intro he2 (And.intro hf2 (And.intro hs2 hc4)))); clear he2 hf2 hs2 hc3 hc4)
  have hJ2 : J [] w2 := HJ.out _ _ _ none h0 (FrV.grew H2.out.2.1) (fun r e => by cases e)
  have HR2 := Lib.hid (HR.out.keep H2.out.2.1 id id id id id id (fun _ _ _ h => h))
  have HS2 := Lib.hid (show ∀ i (h : i < (vKeys (B who) P.data.toList).length), ∃ g off, ao = some ⟨g, off, none⟩ ∧ StrB w2 g ∧ w2.cell? ⟨g, off + i, none⟩ = some (encStr (vKeys (B who) P.data.toList)[i]) from fun i h => by
    obtain ⟨b, off, ha, hF, hi⟩ := H2.out.2.2.2 (by intro e; rw [List.map_eq_nil_iff] at e; rw [e] at h; simp at h)
    obtain ⟨g, c, hv, hst⟩ := H2.out.2.2.1 (by intro e; rw [e] at h; simp at h)
    simp only [Value.slice.injEq] at hv
    have h5 := hi i (by rw [List.length_map]; exact h) 0 (by decide)
    rw [List.getElem_map] at h5
    rw [ha] at hv
    have e2 : b = g ∧ off = 0 := by have := hv.1; simp at this; exact this
    exact ⟨b, off, ha, by rw [e2.1]; exact hst, by rw [show off + i = off + i * 1 + 0 by omega]; exact h5⟩)
  clear h0
  gi_loopw [12] (fun iv wr => ∃ i : Nat, i ≤ m ∧ iv = .int .i64 i ∧ J ((keysV (B who) P.data.toList).take i) wr ∧ Hid (ItN F bk tm mm n B who P Bp Bw Bq D wr ∧ KpV T w2 wr)) (fun iv _ => m - (intOf iv).toNat)
  case atStart => exact ⟨0, by omega, rfl, hJ2, Lib.hid ⟨HR2.out, Fr.refl _ _, fun _ _ => rfl⟩⟩
  case round =>
    clear hJ2
    obtain ⟨i, hi, rfl, hJs, hRr⟩ := hrel
    by_cases hlt : i < m
    · have hiL : i < (vKeys (B who) P.data.toList).length := by have := HM.out; omega
      obtain ⟨g, off, rfl, hst, hce⟩ := HS2.out i hiL
      have hce2 : wr.cell? ⟨g, off + i, none⟩ = some (encStr (vKeys (B who) P.data.toList)[i]) := by
        rw [World.cell?_of_block (hRr.out.2.2 g hst)]; exact hce
      have hiO : i < (keysV (B who) P.data.toList).length := by rw [keysV_length]; exact hiL
      obtain ⟨x, hx⟩ : ∃ x, x = (keysV (B who) P.data.toList)[i] := ⟨_, rfl⟩
      have hxk : (vKeys (B who) P.data.toList)[i] = x.1 := by
        have h1 : ((keysV (B who) P.data.toList).map (·.1))[i]'(by rw [List.length_map]; exact hiO) = x.1 := by rw [List.getElem_map, hx]
        rw [← h1]
        congr 1
        rw [keysV_map]
      rw [hxk] at hce2
      obtain ⟨b1, b2, b3, b4, b5⟩ := hRr.out.1
      obtain ⟨c0, c1⟩ := b4.cells
      have hxs : x.1.length ≤ 64 := (b4.ok who).2.2 _ (vGet_mem (getV_eq x))
      obtain ⟨N, hN⟩ : ∃ N : ByteArray, encStr x.1 = .string N ∧ N.size ≤ 1000000 ∧ N.data.toList = x.1 := ⟨⟨x.1.toArray⟩, rfl, by show x.1.toArray.size ≤ 1000000; simp; omega, by simp⟩
      obtain ⟨xv, hxv⟩ : ∃ v, v = val x.1 := ⟨_, rfl⟩
      have LD1 := Lib.hid (fun W (hf : Fr (fun _ => False) wr W) => load_one5 W 80 ⟨Bp, 0, none⟩ _ (by kernel_rfl) (hf.cell b1 id))
      have LD3 := Lib.hid (fun W (hf : Fr (fun _ => False) wr W) => load_int5 W ⟨Bw, 0, none⟩ _ (hf.cell b2 id))
      have LD2 := Lib.hid (fun W (hf : Fr (fun _ => False) wr W) => load_one5 W 119 ⟨bk, 0, none⟩ _ (by kernel_rfl) (hf.cell c0 id))
      have LK := Lib.hid (fun W (hf : Fr (fun _ => False) wr W) => look_valN (w := W) (ownsMap_kept9 b5 hf id) who HWN.out.1 N hN.2.1 (x := xv) (by rw [hN.2.2, hxv]; exact HV.out _ _ (getV_eq x)))
      have htk : (keysV (B who) P.data.toList).take (i + 1) = (keysV (B who) P.data.toList).take i ++ [x] := by rw [List.take_succ_eq_append_getElem hiO, hx]
      rw [hN.1] at hce2
      have HXV := Lib.hid (And.intro hN hxv)
      have HTK := Lib.hid (And.intro htk hJs)
      have hi64 : (i : Int) < (m : Int) := by omega
      clear hst hce hx hxk htk b4 b5 hJs hN hxv c0 c1
      gi_wp2
      refine wpIn_region_inv .out 10 (by kernel_rfl) ?nodefer (by kernel_rfl) (fun W => Fr (fun _ => False) wr W) (OfRN l Bp Bw bk tm who N xv) (fun _ _ _ _ => True) (Fr (fun _ => False)) (OfRN.ext l Bp Bw bk tm who N xv) (Fr.refl _ _).drew ?steps ?tail
      case nodefer =>
        intro i o ho c
        rcases i with _ | _ | _ | _ | _ | _ | _ | _ | _ | _ | _ | _ | i <;> simp at ho
        all_goals (subst ho; intro h; cases h)
      case steps =>
        intro i hi o ho
        replace hi : i < 10 := hi
        obtain rfl | rfl | rfl | rfl | rfl | rfl | rfl | rfl | rfl | rfl : i = 0 ∨ i = 1 ∨ i = 2 ∨ i = 3 ∨ i = 4 ∨ i = 5 ∨ i = 6 ∨ i = 7 ∨ i = 8 ∨ i = 9 := by omega
        · simp only [List.getElem?_cons_zero, Option.some.injEq] at ho
          subst ho
          intro a W vs hB hS hE hU
          refine wpG_plain rfl ?_
          have v0 : a.eval (.tmp 0) = .func (.yield l) #[] #[] := (hU 0 (by kernel_rfl)).trans rfl
          clear hE hU
          exact wp_value_inv (w' := W) (.func (.yield l) #[] #[]) (op_move rfl v0) ⟨_, rfl, hB, Fr.refl _ _, rfl, fun _ _ _ _ _ => trivial⟩
        · simp only [List.getElem?_cons_zero, List.getElem?_cons_succ, Option.some.injEq] at ho
          subst ho
          intro a W vs hB hS hE hU
          refine wpG_plain rfl ?_
          have v6 : a.eval (.tmp 6) = .string N := (hU 6 (by kernel_rfl)).trans rfl
          clear hE hU
          exact wp_value_inv (w' := W) (.string N) (op_move rfl v6) ⟨_, rfl, hB, Fr.refl _ _, rfl, fun _ _ _ _ _ => trivial⟩
        · simp only [List.getElem?_cons_zero, List.getElem?_cons_succ, Option.some.injEq] at ho
          subst ho
          intro a W vs hB hS hE hU
          refine wpG_plain rfl ?_
          have v1 : a.eval (.tmp 1) = .pointer (some ⟨Bp, 0, none⟩) := (hU 1 (by kernel_rfl)).trans rfl
          clear hE hU
          exact wp_value_inv (w' := W) (.pointer (some ⟨bk, 0, none⟩)) (op_loadAt rfl v1 (LD1.out W hB)) ⟨_, rfl, hB, Fr.refl _ _, rfl, fun _ _ _ _ _ => trivial⟩
        · simp only [List.getElem?_cons_zero, List.getElem?_cons_succ, Option.some.injEq] at ho
          subst ho
          intro a W vs hB hS hE hU
          refine wpG_plain rfl ?_
          obtain ⟨r2, e18⟩ := hE 2 18 (by kernel_rfl) (by kernel_rfl)
          have v18 : a.eval (.tmp 18) = .pointer (some ⟨bk, 0, none⟩) := e18.trans r2
          clear hE hU
          exact wp_value_inv (w' := W) (.pointer (some ⟨bk, 0, none⟩)) (op_nilCheck rfl v18) ⟨_, rfl, hB, Fr.refl _ _, rfl, fun _ _ _ _ _ => trivial⟩
        · simp only [List.getElem?_cons_zero, List.getElem?_cons_succ, Option.some.injEq] at ho
          subst ho
          intro a W vs hB hS hE hU
          refine wpG_plain rfl ?_
          obtain ⟨r3, e19⟩ := hE 3 19 (by kernel_rfl) (by kernel_rfl)
          have v19 : a.eval (.tmp 19) = .pointer (some ⟨bk, 0, none⟩) := e19.trans r3
          clear hE hU
          exact wp_value_inv (w' := W) (.pointer (some ⟨bk, 0, none⟩)) (op_fieldAddr rfl v19 (fldOfN_0_0 W bk)) ⟨_, rfl, hB, Fr.refl _ _, rfl, fun _ _ _ _ _ => trivial⟩
        · simp only [List.getElem?_cons_zero, List.getElem?_cons_succ, Option.some.injEq] at ho
          subst ho
          intro a W vs hB hS hE hU
          refine wpG_plain rfl ?_
          obtain ⟨r4, e20⟩ := hE 4 20 (by kernel_rfl) (by kernel_rfl)
          have v20 : a.eval (.tmp 20) = .pointer (some ⟨bk, 0, none⟩) := e20.trans r4
          clear hE hU
          exact wp_value_inv (w' := W) (.map (some tm)) (op_loadAt rfl v20 (LD2.out W hB)) ⟨_, rfl, hB, Fr.refl _ _, rfl, fun _ _ _ _ _ => trivial⟩
        · simp only [List.getElem?_cons_zero, List.getElem?_cons_succ, Option.some.injEq] at ho
          subst ho
          intro a W vs hB hS hE hU
          refine wpG_plain rfl ?_
          have v2 : a.eval (.tmp 2) = .pointer (some ⟨Bw, 0, none⟩) := (hU 2 (by kernel_rfl)).trans rfl
          clear hE hU
          exact wp_value_inv (w' := W) (.int .i64 who) (op_loadAt rfl v2 (LD3.out W hB)) ⟨_, rfl, hB, Fr.refl _ _, rfl, fun _ _ _ _ _ => trivial⟩
        · simp only [List.getElem?_cons_zero, List.getElem?_cons_succ, Option.some.injEq] at ho
          subst ho
          intro a W vs hB hS hE hU
          refine wpG_plain rfl ?_
          have v6 : a.eval (.tmp 6) = .string N := (hU 6 (by kernel_rfl)).trans rfl
          clear hE hU
          exact wp_value_inv (w' := W) (.string N) (op_move rfl v6) ⟨_, rfl, hB, Fr.refl _ _, rfl, fun _ _ _ _ _ => trivial⟩
        · simp only [List.getElem?_cons_zero, List.getElem?_cons_succ, Option.some.injEq] at ho
          subst ho
          intro a W vs hB hS hE hU
          refine wpG_plain rfl ?_
          obtain ⟨r6, e22⟩ := hE 6 22 (by kernel_rfl) (by kernel_rfl)
          have v22 : a.eval (.tmp 22) = .int .i64 who := e22.trans r6
          obtain ⟨r7, e23⟩ := hE 7 23 (by kernel_rfl) (by kernel_rfl)
          have v23 : a.eval (.tmp 23) = .string N := e23.trans r7
          clear hE hU
          exact wp_value_inv (w' := W) (.agg #[.int .i64 who, .string N]) (op_build rfl (vs := #[(0, .int .i64 who), (1, .string N)]) (by simp only [List.map_toArray, List.map_cons, List.map_nil, v22, v23]) (place_built _ _)) ⟨_, rfl, hB, Fr.refl _ _, rfl, fun _ _ _ _ _ => trivial⟩
        · simp only [List.getElem?_cons_zero, List.getElem?_cons_succ, Option.some.injEq] at ho
          subst ho
          intro a W vs hB hS hE hU
          refine wpG_plain rfl ?_
          obtain ⟨r5, e21⟩ := hE 5 21 (by kernel_rfl) (by kernel_rfl)
          have v21 : a.eval (.tmp 21) = .map (some tm) := e21.trans r5
          obtain ⟨r8, e24⟩ := hE 8 24 (by kernel_rfl) (by kernel_rfl)
          have v24 : a.eval (.tmp 24) = .agg #[.int .i64 who, .string N] := e24.trans r8
          clear hE hU
          exact wp_value_inv (w' := W) (xv) (op_lookup rfl v21 v24 (LK.out W hB)) ⟨_, rfl, hB, Fr.refl _ _, rfl, fun _ _ _ _ _ => trivial⟩
      case tail =>
        intro vs Wa hB0 hR0 hD
        have r16 : vs 0 = .func (.yield l) #[] #[] := hR0 0 (by decide)
        have r17 : vs 1 = .string N := hR0 1 (by decide)
        have r25 : vs 9 = xv := hR0 9 (by decide)
        have HB := Lib.hid hB0
        have hJa := HJ.out _ _ _ none HTK.out.2 (FrV.grew hB0) (fun r e => by cases e)
        obtain ⟨fn, tmps, assign, body, hy, hRd⟩ := HY.out _ x Wa hJa (by simp; omega)
        simp only [encV, HXV.out.1.1, ← HXV.out.2] at hy
        clear hR0 hD hB0 hJa
        simp only [acts, if_true, dstAt, List.getElem?_cons_zero, List.getElem?_cons_succ, Option.bind_some, Act.put, List.setIfInBounds_toArray, List.set_cons_succ, List.set_cons_zero, List.drop_succ_cons, List.drop_zero]
        simp only [r16, r17, r25]
        clear r16 r17 r25
        gi_wp2
        refine ⟨fun hx => WideF.out.free hx, hRd.mono ?_⟩
        rintro e W3 (⟨rfl, hJ3, hk3⟩ | ⟨rfl, hJx3⟩)
        · have HR3 := Lib.hid (And.intro ((hRr.out.1.keep HB.out id id id id id id (fun _ _ _ h => h)).keep hk3.1 HT.out.1 HT.out.2.1 HT.out.2.2.1 HT.out.2.2.2.1 HT.out.2.2.2.2.1 HT.out.2.2.2.2.2.1 (fun k _ hk => HT.out.2.2.2.2.2.2 k hk)) ((hRr.out.2.trans (KpV.of (S := fun _ => False) HB.out (fun _ _ h => h.elim) (fun _ _ h => h))).trans hk3))
          gi_wp2
          go_roundw
          case rel => exact ⟨i + 1, by omega, by go_num, by rw [HTK.out.1]; exact hJ3, HR3⟩
          case measure => simp [intOf]; omega
        · gi_wp2
          refine bodyPost_ret (results_none rfl _ _ _) rfl ?_
          exact ⟨⟨_, rfl⟩, .inr ⟨_, List.take_prefix _ _, by rw [HTK.out.1]; exact hJx3⟩⟩
    · obtain rfl : i = m := by omega
      gi_wp2
      go_end0
      exact ⟨⟨_, rfl⟩, .inl ⟨_, rfl, by rwa [List.take_of_length_le (by rw [keysV_length, ← HM.out]; exact Nat.le_refl _)] at hJs⟩⟩
theorem ItN.below {F : Nat → Prop} {bk tm mm n : Nat} {B : Int → VT Bs} {who : Int} {P : ByteArray} {Bp Bw Bq : Nat} {D : DataW Value} {w W : World} (h : ItN F bk tm mm n B who P Bp Bw Bq D w) (hF : ∀ k, F k → k < w.heap.size) (hb : Below w.heap.size w W) : ItN F bk tm mm n B who P Bp Bw Bq D W := by
  have h1 := World.block_lt_of_cell? _ _ h.box
  have h2 := World.block_lt_of_cell? _ _ h.bw
  have h3 := World.block_lt_of_cell? _ _ h.bq
  have h4 := h.at_.lt
  simp only at h1 h2 h3
  exact h.keep (Fr.ofBelow hb) (fun h => by omega) (fun h => by omega) (fun h => by omega) (fun h => by omega) (fun h => by omega) (fun h => by omega) (fun k hk hF' h => by omega)
theorem ofN_stops {T F : Nat → Prop} (n0 : Nat) (Bp Bw Bq bk tm mm n : Nat) (B : Int → VT Bs) (who : Int) (hw : Wf who) (hn : n ≤ 100000) (P : ByteArray) (D : DataW Value) (val : Bs → Value) (hval : ∀ k x, vGet (B who) k = some x → ∀ z, D.atKey (keyP who k) z = .held (val k))
    (hT1 : ¬ T Bp) (hT2 : ¬ T Bw) (hT3 : ¬ T Bq) (hT4 : ¬ T bk) (hT5 : ¬ T tm) (hT6 : ¬ T mm) (hT7 : ∀ k, F k → ¬ T k) (w : World) (hF : ∀ k, F k → k < w.heap.size) (hR : ItN F bk tm mm n B who P Bp Bw Bq D w) :
    SeqStopsK Fence.wide n0 Try.prog 78 #[.pointer (some ⟨Bp, 0, none⟩), .pointer (some ⟨Bw, 0, none⟩), .pointer (some ⟨Bq, 0, none⟩)] (encV val) (KpV T) (fun ys => ys = keysV (B who) P.data.toList) (fun pre => pre <+: keysV (B who) P.data.toList) (vKeys (B who) P.data.toList).length w :=
  fun l J Jx W hW hJ hJx hY h0 => of1N_in n0 l Bp Bw Bq bk tm mm n B who hw hn P D val hval hT1 hT2 hT3 hT4 hT5 hT6 hT7 _ J Jx hJ hY W (hR.below hF hW) h0
set_option maxRecDepth 100000 in
theorem ofN_any (w : World) (g : Nat) (who : Int) (P : ByteArray) :
    Calls Try.prog 62 #[.pointer (some ⟨g, 0, none⟩), .int .i64 who, .string P] w fun e w' => e = .returned (.func (.func 78) #[] #[.pointer (some ⟨w.heap.size, 0, none⟩), .pointer (some ⟨w.heap.size + 1, 0, none⟩), .pointer (some ⟨w.heap.size + 2, 0, none⟩)]) ∧ w' = ((w.alloc (.cells #[.pointer (some ⟨g, 0, none⟩)] 80)).alloc (.cells #[.int .i64 who] 3)).alloc (.cells #[.string P] 9) := by
  go_enter Try.func62, Try.ntmps62
  go_wp2
  go_ret
  exact ⟨rfl, rfl⟩
end Go.Proofs.Ytdpaobflknkbkaa
