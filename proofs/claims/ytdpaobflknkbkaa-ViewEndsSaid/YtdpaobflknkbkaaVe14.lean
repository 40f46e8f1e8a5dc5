/- Laid together: VNote VNmN -/
import Derived.Test.YtdpaobflknkbkaaVe13
import Derived.Test.YtdpaobflknkbkaaVe3

namespace Go.Proofs.Ytdpaobflknkbkaa
open Go.RowKit Go.ChangeShapes
set_option linter.unusedVariables false
set_option maxRecDepth 100000 in
theorem copyB_any {F : Nat → Prop} (w : World) (v : Value) (b : List UInt8) (hb : BytesIn F w v b) (hl : b.length ≤ 140737488355328) :
    Calls Try.prog 63 #[v] w fun e w' => ∃ v', e = .returned v' ∧ OwnB (fun k => w.heap.size ≤ k) w' v' b ∧ Fr (fun _ => False) w w' := by
  have HB := Lib.hid hb
  obtain ⟨ao, cap, rfl, _⟩ := id hb
  obtain ⟨n, hn⟩ : ∃ n, n = b.length := ⟨_, rfl⟩
  rw [← hn] at HB hl ⊢
  have HL := Lib.hid (And.intro hl hn)
  clear hb hn hl
  go_enter Try.func63, Try.ntmps63
  go_wp2_with (at_builtin; refine wpList_append_bytes (F := fun k => w.heap.size ≤ k) w rfl (.const (.slice none 0 0)) (.tmp 3) rfl (.slice none 0 0) _ [] b rfl rfl (OwnB.nil _ _) HB.out (by have := HL.out; simp; omega) ?_; intro v5 w5 ho5 hg5 hb5; rw [List.nil_append] at ho5; (obtain ⟨a5, c5, hv5⟩ := ho5.len); (subst hv5); (have H5 := Lib.hid (And.intro ho5 hg5)); clear ho5 hg5 hb5)
  go_ret
  exact ⟨_, rfl, H5.out.1.mono (fun k _ h => h.elim id id), (Fr.refl _ w).grown H5.out.2 (fun k hk => by simp [Value.ownBlock] at hk)⟩
def NtX (vb nb : Nat) (who qb qo qr qn : Int) (N : ByteArray) (yv : Value) (b : List UInt8) (W0 : World) (i : Nat) (v : Value) (W : World) : Prop :=
  match i with
  | 0 => v = .pointer (some ⟨vb, 0, none⟩)
  | 1 => v = .pointer (some ⟨vb, 0, none⟩)
  | 2 => v = .pointer (some ⟨vb, 2, none⟩)
  | 3 => v = .pointer (some ⟨nb, 0, none⟩)
  | 4 => v = .int .i64 who
  | 5 => v = .string N
  | 6 => v = .agg #[.int .i64 who, .string N]
  | 7 => v = yv
  | 8 => OwnB (fun k => W0.heap.size ≤ k) W v b
  | 9 => v = .pointer (some ⟨vb, 0, none⟩)
  | 10 => v = .int .i64 who
  | 11 => v = .agg #[.int .i64 qb, .int .i64 qo, .int .i64 qr, .int .i64 qn]
  | 12 => v = .int .i64 qn
  | _ => True
theorem NtX.ext (vb nb : Nat) (who qb qo qr qn : Int) (N : ByteArray) (yv : Value) (b : List UInt8) (W0 : World) : ∀ (j : Nat) (u : Value) (W W' : World), Fr (fun _ => False) W W' → NtX vb nb who qb qo qr qn N yv b W0 j u W → NtX vb nb who qb qo qr qn N yv b W0 j u W'
  | 0, u, W, W', hf, h => h
  | 1, u, W, W', hf, h => h
  | 2, u, W, W', hf, h => h
  | 3, u, W, W', hf, h => h
  | 4, u, W, W', hf, h => h
  | 5, u, W, W', hf, h => h
  | 6, u, W, W', hf, h => h
  | 7, u, W, W', hf, h => h
  | 8, u, W, W', hf, h => h.keep hf (fun _ _ _ h => h)
  | 9, u, W, W', hf, h => h
  | 10, u, W, W', hf, h => h
  | 11, u, W, W', hf, h => h
  | 12, u, W, W', hf, h => h
  | _ + 13, u, W, W', hf, h => trivial
section
variable {F G S : Nat → Prop} {w w' : World} {A : VA} {n : Nat} {s : VS}
theorem VwAt.qlt (h : VwAt F w A n s) : A.qb < w.heap.size := by
  obtain ⟨qv, r1, r2⟩ := h.row
  have h1 := (okQs_iff h.ok).2.1
  obtain ⟨ao, c, hv, _, _, b, off, hao, hc⟩ := r2.open9
  have e := (hao (by omega)).2
  have := (hc 0 (by omega)).1
  rw [← e]
  exact World.block_lt_of_cell? _ _ this
theorem VwAt.lts (h : VwAt F w A n s) : ∀ k ∈ A.all, k < w.heap.size := fun k hk => by
  rcases h.lt k hk with e | e
  · rw [e]; exact h.qlt
  · exact e
theorem BkAt.wider {α : Type} {K : VKind α} {T : TypeId} {bk tm mm : Nat} {B : Int → VT α} (h : BkAt K T F w bk tm mm n B) (hd : ∀ k, k < w.heap.size → F k → G k) (hs : ¬ G bk ∧ ¬ G tm ∧ ¬ G mm) : BkAt K T G w bk tm mm n B :=
  ⟨h.row, h.th.mono hd, h.mn, h.ok, ⟨h.sep.1, h.sep.2.1, h.sep.2.2.1, hs.1, hs.2.1, hs.2.2⟩⟩
theorem VwAt.wider (h : VwAt F w A n s) (hd : ∀ k, k < w.heap.size → F k → G k) (hs : ∀ k ∈ A.all, ¬ G k) : VwAt G w A n s :=
  ⟨h.row, h.rk, h.nk.wider hd ⟨hs _ (by simp [VA.all]), hs _ (by simp [VA.all]), hs _ (by simp [VA.all])⟩, h.ok, h.cap, h.sep.1, hs⟩
def newF (F : Nat → Prop) (w w' : World) : Nat → Prop := fun k => F k ∨ (w.heap.size ≤ k ∧ k < w'.heap.size)
theorem VwAt.newF (h0 : VwAt F w A n s) {m : Nat} {t : VS} (h : VwAt F w' A m t) : VwAt (newF F w w') w' A m t := by
  have hlt := h0.lts
  refine h.wider (fun k _ hk => .inl hk) (fun k hk hg => ?_)
  rcases hg with hg | hg
  · exact h0.sep.2 k hk hg
  · have := hlt k hk; omega
set_option maxRecDepth 100000 in
set_option maxHeartbeats 2000000 in
theorem note_any (h : VwAt F w A n s) (hn : n ≤ 100000) (who : Int) (N : ByteArray) (hN : N.size ≤ 140737488351232) (yv : Value) (b : Bs) (hb : BytesIn G w yv b) (hbl : b.length ≤ 140737488355328) : Calls Try.prog 41 #[.pointer (some ⟨A.vb, 0, none⟩), .int .i64 who, .string N, yv] w fun e w' => e = .returned (.int .i64 (noteE s who N.data.toList b)) ∧ VwAt (newF F w w') w' A (n + 1) (noteS s who N.data.toList b) ∧ Fr (fun k => k = A.tn ∨ k = A.mn) w w' := by
  have HH := Lib.hid h
  obtain ⟨ao, cap, rfl, _⟩ := id hb
  obtain ⟨m, hm⟩ : ∃ m, m = b.length := ⟨_, rfl⟩
  obtain ⟨kl, hkl⟩ : ∃ kl, kl = N.size := ⟨_, rfl⟩
  have hkl2 : N.data.toList.length = kl := by rw [size_list, hkl]
  rw [← hm] at hb ⊢
  have HN := Lib.hid (And.intro hkl hN)
  by_cases hu : isUser s who
  · have hr := ready_yes h who hu
    have HR := Lib.hid hr
    by_cases hk : 1 ≤ kl ∧ kl ≤ 62
    · obtain ⟨hk1, hk2⟩ := hk
      have d1 : ¬ (kl : Int) < 1 := by omega
      have d2 : ¬ (62 : Int) < (kl : Int) := by omega
      by_cases hv : m ≤ 2048
      · have d3 : ¬ (2048 : Int) < (m : Int) := by omega
        have hw := user_wf h.ok hu
        obtain ⟨q, hqq⟩ : ∃ q, q = s.quota who := ⟨_, rfl⟩
        obtain ⟨E, hEE⟩ : ∃ E, E = noteE s who N.data.toList b := ⟨_, rfl⟩
        have hE2 : E = (if vGet (s.N who) N.data.toList = none ∧ q.n ≤ ((s.N who).length : Int) then 8 else 0) := by rw [hEE, hqq]; unfold noteE; rw [if_pos hu, if_pos (by rw [hkl2]; exact ⟨hk1, hk2⟩), if_pos (by rw [← hm]; exact hv)]
        have hS : noteS s who N.data.toList b = if E = 0 then s.setN who (vPut (s.N who) N.data.toList b) else s := by rw [hEE]; rfl
        have HQ := Lib.hid (fun W (hf : Fr (fun _ => False) w W) => quota_any (h.quiet hf) who hu)
        have hcp : ∀ W, Fr (fun _ => False) w W → Calls Try.prog 63 #[.slice ao m cap] W (fun e w' => ∃ v, e = .returned v ∧ (OwnB (fun k => w.heap.size ≤ k) w' v b ∧ Fr (fun _ => False) W w')) := fun W hf => (copyB_any W _ b (hb.keep hf (fun _ _ _ h => h)) hbl).mono (fun e w' ⟨v', h1, h2, h3⟩ => ⟨v', h1, h2.mono (fun k _ hk => Nat.le_trans hf.size hk), h3⟩)
        have HCP := Lib.hid hcp
        rw [← hqq] at HQ
        rw [← hEE]
        obtain ⟨qb, qo, qr, qn⟩ := q
        have LDN := Lib.hid (fun W (hf : Fr (fun _ => False) w W) => load_one5 W 80 ⟨A.vb, 2, none⟩ _ (by kernel_rfl) (hf.cell h.ptrs.2 id))
        have HU := Lib.hid (And.intro hu (And.intro hw (And.intro hqq (And.intro hE2 (And.intro hS hn)))))
        have HM := Lib.hid (And.intro hv (And.intro hm hk2))
        clear hr h hu hw hE2 hS hqq hEE hn hv hm hk1 hk2 hkl2 hbl hcp
        have e1 : (N.size : Nat) = kl := hkl.symm
        clear hkl
        go_enter Try.func41, Try.ntmps41
        go_wp2_with (go_at_call 51; refine HR.out.mono ?_; rintro e w1 ⟨rfl, hw1⟩; (obtain rfl : w = w1 := hw1.symm))
        refine wp_region_inv 13 (by kernel_rfl) (by kernel_rfl) (fun W => Fr (fun _ => False) w W) (NtX A.vb A.nb who qb qo qr qn N (.slice ao m cap) b w) (fun _ _ _ _ => True) (Fr (fun _ => False)) (NtX.ext A.vb A.nb who qb qo qr qn N (.slice ao m cap) b w) (Fr.refl _ _).drew ?_ ?_
        · intro i hi o ho
          replace hi : i < 13 := hi
          obtain rfl | rfl | rfl | rfl | rfl | rfl | rfl | rfl | rfl | rfl | rfl | rfl | rfl : i = 0 ∨ i = 1 ∨ i = 2 ∨ i = 3 ∨ i = 4 ∨ i = 5 ∨ i = 6 ∨ i = 7 ∨ i = 8 ∨ i = 9 ∨ i = 10 ∨ i = 11 ∨ i = 12 := by omega
          · simp only [List.getElem?_cons_zero, Option.some.injEq] at ho
            subst ho
            intro a W vs hB hS hE hU
            refine wpG_plain rfl ?_
            have v0 : a.eval (.tmp 0) = .pointer (some ⟨A.vb, 0, none⟩) := (hU 0 (by kernel_rfl)).trans rfl
            clear hE hU
            exact wp_value_inv (w' := W) (.pointer (some ⟨A.vb, 0, none⟩)) (op_move rfl v0) ⟨_, rfl, hB, Fr.refl _ _, rfl, fun _ _ _ _ _ => trivial⟩
          · simp only [List.getElem?_cons_zero, List.getElem?_cons_succ, Option.some.injEq] at ho
            subst ho
            intro a W vs hB hS hE hU
            refine wpG_plain rfl ?_
            obtain ⟨r0, e29⟩ := hE 0 29 (by kernel_rfl) (by kernel_rfl)
            have v29 : a.eval (.tmp 29) = .pointer (some ⟨A.vb, 0, none⟩) := e29.trans r0
            clear hE hU
            exact wp_value_inv (w' := W) (.pointer (some ⟨A.vb, 0, none⟩)) (op_nilCheck rfl v29) ⟨_, rfl, hB, Fr.refl _ _, rfl, fun _ _ _ _ _ => trivial⟩
          · simp only [List.getElem?_cons_zero, List.getElem?_cons_succ, Option.some.injEq] at ho
            subst ho
            intro a W vs hB hS hE hU
            refine wpG_plain rfl ?_
            obtain ⟨r1, e30⟩ := hE 1 30 (by kernel_rfl) (by kernel_rfl)
            have v30 : a.eval (.tmp 30) = .pointer (some ⟨A.vb, 0, none⟩) := e30.trans r1
            clear hE hU
            exact wp_value_inv (w' := W) (.pointer (some ⟨A.vb, 2, none⟩)) (op_fieldAddr rfl v30 (fld_spence_view_View_2_0 W A.vb)) ⟨_, rfl, hB, Fr.refl _ _, rfl, fun _ _ _ _ _ => trivial⟩
          · simp only [List.getElem?_cons_zero, List.getElem?_cons_succ, Option.some.injEq] at ho
            subst ho
            intro a W vs hB hS hE hU
            refine wpG_plain rfl ?_
            obtain ⟨r2, e31⟩ := hE 2 31 (by kernel_rfl) (by kernel_rfl)
            have v31 : a.eval (.tmp 31) = .pointer (some ⟨A.vb, 2, none⟩) := e31.trans r2
            clear hE hU
            exact wp_value_inv (w' := W) (.pointer (some ⟨A.nb, 0, none⟩)) (op_loadAt rfl v31 (LDN.out W hB)) ⟨_, rfl, hB, Fr.refl _ _, rfl, fun _ _ _ _ _ => trivial⟩
          · simp only [List.getElem?_cons_zero, List.getElem?_cons_succ, Option.some.injEq] at ho
            subst ho
            intro a W vs hB hS hE hU
            refine wpG_plain rfl ?_
            have v1 : a.eval (.tmp 1) = .int .i64 who := (hU 1 (by kernel_rfl)).trans rfl
            clear hE hU
            exact wp_value_inv (w' := W) (.int .i64 who) (op_move rfl v1) ⟨_, rfl, hB, Fr.refl _ _, rfl, fun _ _ _ _ _ => trivial⟩
          · simp only [List.getElem?_cons_zero, List.getElem?_cons_succ, Option.some.injEq] at ho
            subst ho
            intro a W vs hB hS hE hU
            refine wpG_plain rfl ?_
            have v2 : a.eval (.tmp 2) = .string N := (hU 2 (by kernel_rfl)).trans rfl
            clear hE hU
            exact wp_value_inv (w' := W) (.string N) (op_move rfl v2) ⟨_, rfl, hB, Fr.refl _ _, rfl, fun _ _ _ _ _ => trivial⟩
          · simp only [List.getElem?_cons_zero, List.getElem?_cons_succ, Option.some.injEq] at ho
            subst ho
            intro a W vs hB hS hE hU
            refine wpG_plain rfl ?_
            obtain ⟨r4, e33⟩ := hE 4 33 (by kernel_rfl) (by kernel_rfl)
            have v33 : a.eval (.tmp 33) = .int .i64 who := e33.trans r4
            obtain ⟨r5, e34⟩ := hE 5 34 (by kernel_rfl) (by kernel_rfl)
            have v34 : a.eval (.tmp 34) = .string N := e34.trans r5
            clear hE hU
            exact wp_value_inv (w' := W) (.agg #[.int .i64 who, .string N]) (op_build rfl (vs := #[(0, .int .i64 who), (1, .string N)]) (by simp only [List.map_toArray, List.map_cons, List.map_nil, v33, v34]) (place_built _ _)) ⟨_, rfl, hB, Fr.refl _ _, rfl, fun _ _ _ _ _ => trivial⟩
          · simp only [List.getElem?_cons_zero, List.getElem?_cons_succ, Option.some.injEq] at ho
            subst ho
            intro a W vs hB hS hE hU
            refine wpG_plain rfl ?_
            have v3 : a.eval (.tmp 3) = (.slice ao m cap) := (hU 3 (by kernel_rfl)).trans rfl
            clear hE hU
            exact wp_value_inv (w' := W) ((.slice ao m cap)) (op_move rfl v3) ⟨_, rfl, hB, Fr.refl _ _, rfl, fun _ _ _ _ _ => trivial⟩
          · simp only [List.getElem?_cons_zero, List.getElem?_cons_succ, Option.some.injEq] at ho
            subst ho
            intro a W vs hB hS hE hU
            refine wpG_plain rfl ?_
            obtain ⟨r7, e36⟩ := hE 7 36 (by kernel_rfl) (by kernel_rfl)
            have v36 : a.eval (.tmp 36) = (.slice ao m cap) := e36.trans r7
            clear hE hU
            refine wp_call_inv 63 #[.tmp 36] #[44] rfl #[(.slice ao m cap)] (by simp only [List.map_toArray, List.map_cons, List.map_nil, v36]) (ent_copyB _) (Post := fun v W' => OwnB (fun k => w.heap.size ≤ k) W' v b ∧ Fr (fun _ => False) W W') ((HCP.out W hB).mono fun e w' h => h) ?_
            rintro v W' ⟨ho, hf⟩
            exact ⟨_, rfl, hB.trans hf (fun _ h => h.elim), hf, ho, fun _ _ _ _ _ => trivial⟩
          · simp only [List.getElem?_cons_zero, List.getElem?_cons_succ, Option.some.injEq] at ho
            subst ho
            intro a W vs hB hS hE hU
            refine wpG_plain rfl ?_
            have v0 : a.eval (.tmp 0) = .pointer (some ⟨A.vb, 0, none⟩) := (hU 0 (by kernel_rfl)).trans rfl
            clear hE hU
            exact wp_value_inv (w' := W) (.pointer (some ⟨A.vb, 0, none⟩)) (op_move rfl v0) ⟨_, rfl, hB, Fr.refl _ _, rfl, fun _ _ _ _ _ => trivial⟩
          · simp only [List.getElem?_cons_zero, List.getElem?_cons_succ, Option.some.injEq] at ho
            subst ho
            intro a W vs hB hS hE hU
            refine wpG_plain rfl ?_
            have v1 : a.eval (.tmp 1) = .int .i64 who := (hU 1 (by kernel_rfl)).trans rfl
            clear hE hU
            exact wp_value_inv (w' := W) (.int .i64 who) (op_move rfl v1) ⟨_, rfl, hB, Fr.refl _ _, rfl, fun _ _ _ _ _ => trivial⟩
          · simp only [List.getElem?_cons_zero, List.getElem?_cons_succ, Option.some.injEq] at ho
            subst ho
            intro a W vs hB hS hE hU
            refine wpG_plain rfl ?_
            obtain ⟨r9, e38⟩ := hE 9 38 (by kernel_rfl) (by kernel_rfl)
            have v38 : a.eval (.tmp 38) = .pointer (some ⟨A.vb, 0, none⟩) := e38.trans r9
            obtain ⟨r10, e39⟩ := hE 10 39 (by kernel_rfl) (by kernel_rfl)
            have v39 : a.eval (.tmp 39) = .int .i64 who := e39.trans r10
            clear hE hU
            refine wp_call_inv 52 #[.tmp 38, .tmp 39] #[26, 3] rfl #[.pointer (some ⟨A.vb, 0, none⟩), .int .i64 who] (by simp only [List.map_toArray, List.map_cons, List.map_nil, v38, v39]) (ent___spence_view_View__quota _) (Post := fun v W' => v = .agg #[.int .i64 qb, .int .i64 qo, .int .i64 qr, .int .i64 qn] ∧ Fr (fun _ => False) W W') ((HQ.out W hB).mono fun e w' h => ⟨_, h.1, rfl, h.2⟩) ?_
            rintro v W' ⟨rfl, hf⟩
            exact ⟨_, rfl, hB.trans hf (fun _ h => h.elim), hf, rfl, fun _ _ _ _ _ => trivial⟩
          · simp only [List.getElem?_cons_zero, List.getElem?_cons_succ, Option.some.injEq] at ho
            subst ho
            intro a W vs hB hS hE hU
            refine wpG_plain rfl ?_
            obtain ⟨r11, e40⟩ := hE 11 40 (by kernel_rfl) (by kernel_rfl)
            have v40 : a.eval (.tmp 40) = .agg #[.int .i64 qb, .int .i64 qo, .int .i64 qr, .int .i64 qn] := e40.trans r11
            clear hE hU
            exact wp_value_inv (w' := W) (.int .i64 qn) (op_field9 rfl v40 (qfld3 _ _ _ _ W)) ⟨_, rfl, hB, Fr.refl _ _, rfl, fun _ _ _ _ _ => trivial⟩
        · intro vs Wa hB0 hR0 hD
          have r32 : vs 3 = .pointer (some ⟨A.nb, 0, none⟩) := hR0 3 (by decide)
          have r35 : vs 6 = .agg #[.int .i64 who, .string N] := hR0 6 (by decide)
          have r41 : vs 12 = .int .i64 qn := hR0 12 (by decide)
          have hco : OwnB (fun k => w.heap.size ≤ k) Wa (vs 8) b := hR0 8 (by decide)
          obtain ⟨y2, hy2⟩ : ∃ y, y = vs 8 := ⟨_, rfl⟩
          rw [← hy2] at hco
          have HA := Lib.hid (And.intro hB0 hco)
          clear hR0 hD hB0 hco
          simp only [acts, if_true, dstAt, List.getElem?_cons_zero, List.getElem?_cons_succ, Option.bind_some, Act.put, List.setIfInBounds_toArray, List.set_cons_succ, List.set_cons_zero, List.drop_succ_cons]
          simp only [r32, r35, r41, ← hy2]
          clear r32 r35 r41 hy2
          have hk := HH.out.quiet HA.out.1
          have hlt := HH.out.lts
          have hnk : BkAt kN 121 (newF F w Wa) Wa A.nb A.tn A.mn n s.N := (HH.out.newF hk).nk
          have hput := putN_any Wa hnk HU.out.2.2.2.2.2 who HU.out.2.1 N (by have := HM.out.2.2; have := HN.out.1; omega) y2 b (HA.out.2.bytes.mono (fun k hk2 hk => .inr ⟨hk, hk2⟩)) (by rw [← HM.out.2.1]; exact HM.out.1) qn E HU.out.2.2.2.1
          have HP := Lib.hid hput
          have HK := Lib.hid (And.intro hk hnk)
          obtain ⟨ay, cy, hy⟩ := HA.out.2.len
          have HY := Lib.hid hy
          clear hput hk hlt hnk
          subst hy
          rw [← HM.out.2.1] at HP ⊢
          go_wp2_with (go_at_call 68; refine HP.out.mono ?_; rintro e w5 ⟨rfl, h5⟩; (have H5 := Lib.hid h5); clear h5)
          go_ret
          refine ⟨rfl, ?_⟩
          rw [HU.out.2.2.2.2.1]
          rcases H5.out with ⟨h8, hf5⟩ | ⟨h0, hb5, hf5⟩
          · rw [if_neg (by rw [h8]; decide)]
            exact ⟨HH.out.newF ((HK.out.1.quiet hf5).more (Nat.le_succ n)), (HA.out.1.trans hf5 (fun _ h => h.elim)).mono (fun _ _ h => h.elim)⟩
          · rw [if_pos h0]
            have hfw : Fr (fun k => k = A.tn ∨ k = A.mn) w w5 := (HA.out.1.mono (T := fun k => k = A.tn ∨ k = A.mn) (fun _ _ h => h.elim)).trans hf5 (fun _ h => .inl h)
            have hv := (HH.out.newF HK.out.1).withN hf5 who _ HU.out.1 hb5 (HH.out.newF HK.out.1).sep.2 (by
              refine vPut_le (HK.out.1.nk.ok who).1 _ _ (HK.out.1.capU HU.out.1).2 (fun hfull => ?_)
              have h4 := HU.out.2.2.2.1
              rw [← HU.out.2.2.1] at hfull
              rw [if_pos hfull, h0] at h4
              exact absurd h4 (by decide))
            have hs := hf5.size
            have hlt := HH.out.lts
            refine ⟨hv.wider (fun k _ hk => hk.imp id (fun e => ⟨e.1, Nat.lt_of_lt_of_le e.2 hs⟩)) (fun k hk hg => ?_), hfw⟩
            rcases hg with hg | hg
            · exact HH.out.sep.2 k hk hg
            · have := hlt k hk; omega
      · have d3 : (2048 : Int) < (m : Int) := by omega
        have hE : noteE s who N.data.toList b = 3 := by unfold noteE; rw [if_pos hu, if_pos (by rw [hkl2]; exact ⟨hk1, hk2⟩), if_neg (by rw [← hm]; exact hv)]
        have hS : noteS s who N.data.toList b = s := by unfold noteS; rw [hE, if_neg (by decide)]
        rw [hS, hE]
        have e1 : (N.size : Nat) = kl := hkl.symm
        clear hr h hu hE hS hb hm hkl hkl2 hbl hv hk1 hk2
        go_enter Try.func41, Try.ntmps41
        go_wp2_with (go_at_call 51; refine HR.out.mono ?_; rintro e w1 ⟨rfl, hw1⟩; (obtain rfl : w = w1 := hw1.symm))
        go_ret
        exact ⟨rfl, HH.out.newF (HH.out.more (Nat.le_succ n)), Fr.refl _ _⟩
    · have hE : noteE s who N.data.toList b = 2 := by unfold noteE; rw [if_pos hu, if_neg (by rw [hkl2]; exact hk)]
      have hS : noteS s who N.data.toList b = s := by unfold noteS; rw [hE, if_neg (by decide)]
      rw [hS, hE]
      have e1 : (N.size : Nat) = kl := hkl.symm
      by_cases hk1 : kl < 1
      · have d1 : (kl : Int) < 1 := by omega
        clear hr h hu hE hS hb hm hkl hkl2 hbl hk hk1
        go_enter Try.func41, Try.ntmps41
        go_wp2_with (go_at_call 51; refine HR.out.mono ?_; rintro e w1 ⟨rfl, hw1⟩; (obtain rfl : w = w1 := hw1.symm))
        go_ret
        exact ⟨rfl, HH.out.newF (HH.out.more (Nat.le_succ n)), Fr.refl _ _⟩
      · have d1 : ¬ (kl : Int) < 1 := by omega
        have d2 : (62 : Int) < (kl : Int) := by omega
        clear hr h hu hE hS hb hm hkl hkl2 hbl hk hk1
        go_enter Try.func41, Try.ntmps41
        go_wp2_with (go_at_call 51; refine HR.out.mono ?_; rintro e w1 ⟨rfl, hw1⟩; (obtain rfl : w = w1 := hw1.symm))
        go_ret
        exact ⟨rfl, HH.out.newF (HH.out.more (Nat.le_succ n)), Fr.refl _ _⟩
  · have hr := ready_no h who hu
    have HR := Lib.hid hr
    have hE : noteE s who N.data.toList b = 18 := by unfold noteE; rw [if_neg hu]
    have hS : noteS s who N.data.toList b = s := by unfold noteS; rw [hE, if_neg (by decide)]
    rw [hS, hE]
    clear hr h hu hE hS hb hm hkl hkl2 hbl
    go_enter Try.func41, Try.ntmps41
    go_wp2_with (go_at_call 51; refine HR.out.mono ?_; rintro e w1 ⟨rfl, hw1⟩; (obtain rfl : w = w1 := hw1.symm))
    go_ret
    exact ⟨rfl, HH.out.newF (HH.out.more (Nat.le_succ n)), Fr.refl _ _⟩
end
end Go.Proofs.Ytdpaobflknkbkaa
namespace Go.Proofs.Ytdpaobflknkbkaa
open Go.RowKit Go.ChangeShapes Go.Maps Go.WideMaps Go.Sort
set_option linter.unusedVariables false
set_option maxRecDepth 100000 in
set_option maxHeartbeats 2000000 in
theorem namesN_any {F : Nat → Prop} {bk tm mm n : Nat} {B : Int → VT Bs} (w : World) (h : BkAt kN 121 F w bk tm mm n B) (hn : n ≤ 100000) (who : Int) (hw : Wf who) (P : ByteArray) :
    Calls Try.prog 79 #[.pointer (some ⟨bk, 0, none⟩), .int .i64 who, .string P] w fun e w' => ∃ v, e = .returned v ∧ Elems 1 (fun k => w.heap.size ≤ k) w' v ((vKeys (B who) P.data.toList).map encK) ∧ Fr (fun _ => False) w w' ∧ (vKeys (B who) P.data.toList ≠ [] → ∃ g c, v = .slice (some ⟨g, 0, none⟩) (vKeys (B who) P.data.toList).length c ∧ StrB w' g) := by
  obtain ⟨c0, c1⟩ := h.cells
  obtain ⟨D, hD1, hD2, hD3⟩ := id h.th
  have hlt := h.lt
  have HR := Lib.hid h
  have HD := Lib.hid (And.intro hD2 hD3)
  have HLT := Lib.hid hlt
  have HW := Lib.hid (And.intro hw hn)
  have hsz := hD1.size_le
  obtain ⟨cnt0, hcnt0⟩ : ∃ c, c = Maps.size D := ⟨_, rfl⟩
  have HC0 := Lib.hid hcnt0
  clear h hD2 hD3 hlt hw hn hcnt0
  go_enter Try.func79, Try.ntmps79
  go_wp2_with (at_range; refine wpList_range_own _ rfl _ 119 rfl 114 44 lawPl Try.underlying119 heldR9 tm _ D rfl hD1 ?_; intro w0 hrg0 hg0 hs0; (have H0 := Lib.hid (And.intro hrg0 (And.intro hg0 hs0))); clear hrg0 hg0 hs0)
  go_frame
  go_loopw [7] (fun lv wr => ∃ (ks : List Bs) (left : Lit → Bool) (cnt : Nat), (∃ ao c, lv = .slice ao ks.length c) ∧ Hid (wr.ranges Try.prog 114 heldR9 tm w.heap.size n D left cnt ∧ NmSt B who P.data.toList (w.heap.size + 1) w wr lv ks left)) (fun _ wr => wr.rangeLeft tm w.heap.size)
  case atStart =>
    have hf0 : Fr (fun _ => False) w w0 := (Fr.refl _ w).grown H0.out.2.1 (fun k hk => by cases hk)
    refine ⟨[], _, _, ⟨none, 0, rfl⟩, Lib.hid ⟨H0.out.1, ⟨OwnE.nil _ _ _ _, List.Pairwise.nil, fun k => ⟨(fun h => by cases h), fun h => ?_⟩, fun i k hi hk h => by rw [← HD.out.1 i k hi hk]; exact h, hf0⟩⟩⟩
    obtain ⟨h1, h2⟩ := h
    have h3 := (vKeys_mem.1 h1).1
    obtain ⟨x, hx⟩ := Option.isSome_iff_exists.1 h3
    have h4 := ((HR.out.ok who).2.2 _ (vGet_mem hx))
    simp only at h4
    rw [← HD.out.1 who k HW.out.1 (by unfold maxLen; omega), h2] at h3
    cases h3
  case round =>
    obtain ⟨ks, left, cnt, ⟨ao, c, rfl⟩, hR⟩ := hrel
    go_wp2_with (at_next; refine wpList_next_ranges (α := Int × ByteArray) (β := Value) _ rfl _ rfl 114 lawPl heldR9 (fun x => Value.agg #[.int .i64 x.1, .string x.2]) id (fun key kl h => by obtain ⟨i, N, e, _⟩ := keyP_back h; exact ⟨(i, N), e⟩) (fun v y h => ⟨v, rfl⟩) tm w.heap.size n D left cnt rfl hR.out.1 ?_ ?_)
    · intro hc0 hl0
      have hks : ∀ k, k ∈ ks ↔ k ∈ vKeys (B who) P.data.toList := fun k => by rw [hR.out.2.mem k]; exact ⟨fun h => h.1, fun h => ⟨h, hl0 _⟩⟩
      have hlk : ks.length ≤ 1000000 := by
        have h1 := hR.out.2.le
        have h2 := (HR.out.ok who).2.1
        have := HW.out.2
        omega
      have HS := Lib.hid (sort_vkeys (HR.out.ok who).1 P.data.toList wr _ ks hR.out.2.own hR.out.2.nodup hks hlk)
      clear hks hlk hl0 hc0
      go_wp2_with (go_at_call 86; refine HS.out.mono ?_; rintro e w3 ⟨rfl, he3, hf3⟩; (have H3 := Lib.hid (And.intro he3 hf3)); clear he3 hf3)
      go_ret
      exact ⟨_, rfl, H3.out.1.mono (by decide) (fun k _ hk => by omega), hR.out.2.fr.trans H3.out.2.1 (fun k hk => .inr (by have := hR.out.2.own.own k hk; omega)), H3.out.2.2⟩
    · intro i N cv kl ya yb w1 cnt1 hkey hlk hv hat hrg1 hlt1 hg1 hs1 hen
      have hkey' : keyOf Try.prog 114 (.agg (plC i N)) = some kl := hkey
      obtain ⟨i', N', hx', hwi, hNs, hkl⟩ := keyP_back hkey'
      simp only [plC, Value.agg.injEq, Array.mk.injEq, List.cons.injEq, Value.int.injEq, Value.string.injEq, true_and, and_true] at hx'
      obtain ⟨rfl, rfl⟩ := hx'
      subst hkl
      have hNl : N.data.toList.length ≤ maxLen := by rw [size_list]; exact hNs
      have hf1 : Fr (fun k => k = w.heap.size) wr w1 := (Fr.refl _ wr).grown hg1 (fun k hk => .inl (by injection hk with hk; exact hk.symm))
      have hfw1 : Fr (fun _ => False) w w1 := hR.out.2.fr.trans hf1 (fun k hk => .inr (by rw [show k = w.heap.size from hk]; exact Nat.le_refl _))
      have hown1 := hR.out.2.own.keep hf1 (fun g hg e => by have := hR.out.2.own.own g hg; have e2 : g = w.heap.size := e; omega)
      have hle := hR.out.2.le
      have hsm := (HR.out.ok who).2.1
      have H1 := Lib.hid (And.intro hrg1 (And.intro hfw1 (And.intro hown1 (And.intro hlk (And.intro hlt1 (And.intro hR.out.2 (And.intro hR.out.1 hs1)))))))
      have HLE := Lib.hid (show ks.length ≤ 100000 by have := HW.out.2; omega)
      have HI := Lib.hid (And.intro hwi hNl)
      have hpl := hasPrefix_any N P
      obtain ⟨q, hq⟩ : ∃ q, q = Lib.hasPrefix N.data.toList P.data.toList := ⟨_, rfl⟩
      rw [← hq] at hpl
      have HPL := Lib.hid hpl
      have HQ := Lib.hid hq
      clear hR hkey hkey' hlk hv hat hrg1 hlt1 hg1 hs1 hf1 hfw1 hown1 hle hsm hpl hq hwi hNl hNs
      by_cases hiw : i = who
      · have hb : (i == who) = true := by rw [hiw]; exact beq_self_eq_true _
        have HIW := Lib.hid hiw
        clear hiw
        cases q with
        | true =>
          go_wp2_with (first
            | (go_at_call 85; refine (HPL.out _).mono ?_; rintro e w3 ⟨rfl, rfl⟩)
            | (at_builtin; refine wpList_append_e (T := 9) (z := w.heap.size + 1) Try.underlying131 infoStr rfl (by decide) (by decide) ((w1.alloc (.cells #[.int .i64 i, .string N] 114)).alloc (.cells #[.string N] 9)) rfl (.tmp 28) (.tmp 31) rfl (.slice ao ks.length c) _ (ks.map encK) [[.string N]] rfl rfl (H1.out.2.2.1.keep (((Fr.refl (fun _ => False) w1).alloc _).alloc _) (fun _ _ h => h)) (Elems.ofBlock (c := [.string N]) (heap_alloc2_new w1 _ _) rfl) (fun c hc u hu => by rw [List.mem_singleton.1 hc] at hu; rw [List.mem_singleton.1 hu]; rfl) (by have := H1.out.2.1.size; simp; have := H1.out.2.2.2.2.2.2.2; have := lt_range9 H1.out.2.2.2.2.2.2.1; omega) (by rw [List.length_map]; have := HLE.out; simp; omega) ?_; intro v5 w5 ho5 hg5 hb5; (obtain ⟨a5, c5, rfl⟩ := ho5.form); (have H5 := Lib.hid (And.intro ho5 (And.intro hg5 hb5))); clear ho5 hg5 hb5))
          go_roundw
          case rel =>
            have hf5 : Fr (fun k => (Value.slice ao ks.length c).ownBlock = some k) w1 w5 := (((Fr.refl _ w1).alloc _).alloc _).grown H5.out.2.1 (fun k hk => .inl hk)
            have hog := H1.out.2.2.1.own
            have hfw5 : Fr (fun _ => False) w w5 := H1.out.2.1.trans hf5 (fun k hk => .inr (by have := hog k hk; omega))
            obtain ⟨ks', hk1, hk2⟩ := H1.out.2.2.2.2.2.1.next (fun p hp => (HR.out.ok who).2.2 p hp) HW.out.1 HI.out.1 HI.out.2 H1.out.2.2.2.1 hfw5 (.inl ⟨⟨HIW.out, HQ.out.symm⟩, by rw [encK_str]; exact H5.out.1⟩)
            have hln : ks'.length = ks.length + 1 := by rw [hk2, if_pos ⟨HIW.out, HQ.out.symm⟩]
            rw [show (ks.map encK ++ [[Value.string N]]).length = ks.length + 1 by simp] at hk1
            rw [← hln] at hk1 ⊢
            exact ⟨ks', _, cnt1, ⟨a5, c5, rfl⟩, Lib.hid ⟨World.ranges.keep9 H1.out.1 hf5 (fun e => by have := hog tm e; have := HLT.out; omega) (fun e => by have := hog _ e; omega), hk1⟩⟩
          case measure =>
            have hf5 : Fr (fun k => (Value.slice ao ks.length c).ownBlock = some k) w1 w5 := (((Fr.refl _ w1).alloc _).alloc _).grown H5.out.2.1 (fun k hk => .inl hk)
            have hog := H1.out.2.2.1.own
            have h5 := World.ranges.keep9 H1.out.1 hf5 (fun e => by have := hog tm e; have := HLT.out; omega) (fun e => by have := hog _ e; omega)
            rw [World.ranges.left_eq h5, World.ranges.left_eq H1.out.2.2.2.2.2.2.1]
            exact H1.out.2.2.2.2.1
        | false =>
          go_wp2_with (first
            | (go_at_call 85; refine (HPL.out _).mono ?_; rintro e w3 ⟨rfl, rfl⟩))
          go_roundw
          case rel =>
            have hf5 : Fr (fun _ => False) w1 (w1.alloc (.cells #[.int .i64 i, .string N] 114)) := (Fr.refl _ w1).alloc _
            obtain ⟨ks', hk1, hk2⟩ := H1.out.2.2.2.2.2.1.next (fun p hp => (HR.out.ok who).2.2 p hp) HW.out.1 HI.out.1 HI.out.2 H1.out.2.2.2.1 (H1.out.2.1.trans hf5 (fun _ h => h.elim)) (.inr ⟨(fun h => by have := HQ.out; rw [h.2] at this; cases this), H1.out.2.2.1.keep hf5 (fun _ _ h => h)⟩)
            have hln : ks'.length = ks.length := by rw [hk2, if_neg (fun h => by have := HQ.out; rw [h.2] at this; cases this)]; rfl
            rw [← hln] at hk1 ⊢
            exact ⟨ks', _, cnt1, ⟨ao, c, rfl⟩, Lib.hid ⟨World.ranges.keep9 H1.out.1 hf5 id id, hk1⟩⟩
          case measure =>
            have hf5 : Fr (fun _ => False) w1 (w1.alloc (.cells #[.int .i64 i, .string N] 114)) := (Fr.refl _ w1).alloc _
            rw [World.ranges.left_eq (World.ranges.keep9 H1.out.1 hf5 id id), World.ranges.left_eq H1.out.2.2.2.2.2.2.1]
            exact H1.out.2.2.2.2.1
      · have hb : (i == who) = false := by rw [beq_eq_false_iff_ne]; exact hiw
        have HIW := Lib.hid hiw
        clear hiw
        go_wp2
        go_roundw
        case rel =>
          have hf5 : Fr (fun _ => False) w1 (w1.alloc (.cells #[.int .i64 i, .string N] 114)) := (Fr.refl _ w1).alloc _
          obtain ⟨ks', hk1, hk2⟩ := H1.out.2.2.2.2.2.1.next (fun p hp => (HR.out.ok who).2.2 p hp) HW.out.1 HI.out.1 HI.out.2 H1.out.2.2.2.1 (H1.out.2.1.trans hf5 (fun _ h => h.elim)) (.inr ⟨fun h => HIW.out h.1, H1.out.2.2.1.keep hf5 (fun _ _ h => h)⟩)
          have hln : ks'.length = ks.length := by rw [hk2, if_neg (fun h => HIW.out h.1)]; rfl
          rw [← hln] at hk1 ⊢
          exact ⟨ks', _, cnt1, ⟨ao, c, rfl⟩, Lib.hid ⟨World.ranges.keep9 H1.out.1 hf5 id id, hk1⟩⟩
        case measure =>
          have hf5 : Fr (fun _ => False) w1 (w1.alloc (.cells #[.int .i64 i, .string N] 114)) := (Fr.refl _ w1).alloc _
          rw [World.ranges.left_eq (World.ranges.keep9 H1.out.1 hf5 id id), World.ranges.left_eq H1.out.2.2.2.2.2.2.1]
          exact H1.out.2.2.2.2.1
end Go.Proofs.Ytdpaobflknkbkaa
