/- Laid together: VMa VMb BName -/
import Derived.Test.YtdpaobflknkbkaaVe9
import Derived.Test.YtdpaobflknkbkaaVe0
import Derived.Test.YtdpaobflknkbkaaVe2
import Derived.Lib.TrimU

namespace Go.Proofs.Ytdpaobflknkbkaa
open Go.RowKit Go.ChangeShapes
set_option linter.unusedVariables false
instance (s : VS) (who : Int) : Decidable (isUser s who) := inferInstanceAs (Decidable (_ ∧ _))
def VS.setR (s : VS) (who : Int) (M : VT PathX) : VS := ⟨s.Q, upd s.R who M, s.N⟩
def VS.setN (s : VS) (who : Int) (M : VT Bs) : VS := ⟨s.Q, s.R, upd s.N who M⟩
def roomE (s : VS) (who o b : Int) : Int := if isUser s who then (if (s.quota who).o < o ∨ (s.quota who).b < b then 8 else 0) else 18
def unrootE (s : VS) (who : Int) (k : Bs) : Int := if isUser s who then (if (vGet (s.R who) k).isSome = true then 0 else 5) else 18
def unrootP (s : VS) (who : Int) (k : Bs) : Value := if isUser s who then (match vGet (s.R who) k with | some x => .agg (pathC x.h x.n) | none => zR) else zR
def unrootS (s : VS) (who : Int) (k : Bs) : VS := if unrootE s who k = 0 then s.setR who (vDel (s.R who) k) else s
def unnoteE (s : VS) (who : Int) (k : Bs) : Int := if isUser s who then (if (vGet (s.N who) k).isSome = true then 0 else 5) else 18
def unnoteS (s : VS) (who : Int) (k : Bs) : VS := if unnoteE s who k = 0 then s.setN who (vDel (s.N who) k) else s
theorem user_wf {s : VS} (hok : okQs s.Q = true) {who : Int} (hu : isUser s who) : Wf who := by
  have := (okQs_iff hok).2.2
  have := hu.1
  have := hu.2
  simp [Wf, Lit.wf, IntKind.min, IntKind.max, IntKind.bits, IntKind.signed]
  omega
section
variable {F G S : Nat → Prop} {w w' : World} {a : VA} {n : Nat} {s : VS}
theorem VwAt.names (h : VwAt F w a n s) : (a.vb ≠ a.tr ∧ a.vb ≠ a.mr ∧ a.vb ≠ a.tn ∧ a.vb ≠ a.mn ∧ a.qb ≠ a.tr ∧ a.qb ≠ a.mr ∧ a.qb ≠ a.tn ∧ a.qb ≠ a.mn) ∧ (a.rb ≠ a.tn ∧ a.rb ≠ a.mn ∧ a.tr ≠ a.tn ∧ a.tr ≠ a.mn ∧ a.mr ≠ a.tn ∧ a.mr ≠ a.mn ∧ a.nb ≠ a.tr ∧ a.nb ≠ a.mr) := by
  have := h.sep.1
  simp only [VA.all, List.nodup_cons, List.mem_cons, List.not_mem_nil, or_false, not_or] at this
  obtain ⟨⟨b1, b2, b3, b4, b5, b6, b7⟩, ⟨c1, c2, c3, c4, c5, c6⟩, ⟨d1, d2, d3, d4, d5⟩, ⟨e1, e2, e3, e4⟩, ⟨f1, f2, f3⟩, ⟨g1, g2⟩, k1, _⟩ := this
  refine ⟨⟨b3, b4, b6, b7, c2, c3, c5, c6⟩, ⟨d4, d5, e3, e4, f2, f3, fun e => e2 e.symm, fun e => f1 e.symm⟩⟩
theorem VwAt.withR (h : VwAt F w a n s) (hf : Fr (fun k => k = a.tr ∨ k = a.mr) w w') (who : Int) (M : VT PathX) (hu : isUser s who) (hb : BkAt kR 118 (fun _ => False) w' a.rb a.tr a.mr (n + 1) (upd s.R who M)) (hM : (M.length : Int) ≤ (s.quota who).r) : VwAt F w' a (n + 1) (s.setR who M) := by
  obtain ⟨⟨n1, n2, n3, n4, n5, n6, n7, n8⟩, ⟨m1, m2, m3, m4, m5, m6, m7, m8⟩⟩ := h.names
  obtain ⟨⟨qv, r1, r2⟩, h2, h3, h4, h5, h6⟩ := h
  refine ⟨⟨qv, hf.heap r1 (fun e => e.elim n1 n2), r2.keep hf (fun b _ hb e => by rw [hb] at e; exact e.elim n5 n6)⟩, hb, (h3.keep hf (fun e => e.elim m7 m8) (fun e => e.elim (fun e => m3 e.symm) (fun e => m5 e.symm)) (fun e => e.elim (fun e => m4 e.symm) (fun e => m6 e.symm)) (fun k _ hk e => ?_)).more (Nat.le_succ n), h4, fun i (hi : i < s.Q.length) => ⟨?_, (h5 i hi).2⟩, h6⟩
  · rcases e with rfl | rfl
    · exact h6.2 a.tr (by simp [VA.all]) hk
    · exact h6.2 a.mr (by simp [VA.all]) hk
  · show ((upd s.R who M ((i + 1 : Nat) : Int)).length : Int) ≤ s.Q[i].r
    by_cases e : ((i + 1 : Nat) : Int) = who
    · rw [e, upd_same]
      have hq : s.quota who = s.Q[i] := by
        unfold VS.quota
        rw [← e, show ((((i + 1 : Nat) : Int) - 1)).toNat = i by omega, List.getD_eq_getElem?_getD, List.getElem?_eq_getElem hi, Option.getD_some]
      rw [← hq]
      exact hM
    · rw [upd_other _ _ e]
      exact (h5 i hi).1
theorem VwAt.withN (h : VwAt F w a n s) (hf : Fr (fun k => k = a.tn ∨ k = a.mn) w w') (who : Int) (M : VT Bs) (hu : isUser s who) (hb : BkAt kN 121 G w' a.nb a.tn a.mn (n + 1) (upd s.N who M)) (hG : ∀ k ∈ a.all, ¬ G k) (hM : (M.length : Int) ≤ (s.quota who).n) : VwAt G w' a (n + 1) (s.setN who M) := by
  obtain ⟨⟨n1, n2, n3, n4, n5, n6, n7, n8⟩, ⟨m1, m2, m3, m4, m5, m6, m7, m8⟩⟩ := h.names
  obtain ⟨⟨qv, r1, r2⟩, h2, h3, h4, h5, h6⟩ := h
  refine ⟨⟨qv, hf.heap r1 (fun e => e.elim n3 n4), r2.keep hf (fun b _ hb e => by rw [hb] at e; exact e.elim n7 n8)⟩, (h2.keep hf (fun e => e.elim m1 m2) (fun e => e.elim m3 m4) (fun e => e.elim m5 m6) (fun _ _ h => h.elim)).more (Nat.le_succ n), hb, h4, fun i (hi : i < s.Q.length) => ⟨(h5 i hi).1, ?_⟩, h6.1, hG⟩
  show ((upd s.N who M ((i + 1 : Nat) : Int)).length : Int) ≤ s.Q[i].n
  by_cases e : ((i + 1 : Nat) : Int) = who
  · rw [e, upd_same]
    have hq : s.quota who = s.Q[i] := by
      unfold VS.quota
      rw [← e, show ((((i + 1 : Nat) : Int) - 1)).toNat = i by omega, List.getD_eq_getElem?_getD, List.getElem?_eq_getElem hi, Option.getD_some]
    rw [← hq]
    exact hM
  · rw [upd_other _ _ e]
    exact (h5 i hi).2
theorem VwAt.more {m : Nat} (h : VwAt F w a n s) (hm : n ≤ m) : VwAt F w a m s := ⟨h.row, h.rk.more hm, h.nk.more hm, h.ok, h.cap, h.sep⟩
theorem VwAt.capU (h : VwAt F w a n s) {who : Int} (hu : isUser s who) : ((s.R who).length : Int) ≤ (s.quota who).r ∧ ((s.N who).length : Int) ≤ (s.quota who).n := by
  obtain ⟨i, hi⟩ : ∃ i : Nat, who = ((i + 1 : Nat) : Int) := ⟨(who - 1).toNat, by have := hu.1; omega⟩
  have hil : i < s.Q.length := by have := hu.2; omega
  have hq : s.quota who = s.Q[i] := by
    unfold VS.quota
    rw [hi, show ((((i + 1 : Nat) : Int) - 1)).toNat = i by omega, List.getD_eq_getElem?_getD, List.getElem?_eq_getElem hil, Option.getD_some]
  rw [hq, hi]
  exact h.cap i hil
set_option maxRecDepth 100000 in
theorem users_any (h : VwAt F w a n s) : Calls Try.prog 12 #[.pointer (some ⟨a.vb, 0, none⟩)] w fun e w' => e = .returned (.int .i64 s.Q.length) ∧ w' = w := by
  obtain ⟨qv, r1, r2⟩ := h.row
  have hv := isView_any h
  obtain ⟨ao, cap, rfl, _⟩ := r2.open9
  have c0 := cell_of_row _ _ 0 _ _ _ r1
  have HV := Lib.hid hv
  clear h r1 r2 hv
  go_enter Try.func12, Try.ntmps12
  go_wp2_with (go_at_call 37; refine HV.out.mono ?_; rintro e w1 ⟨rfl, rfl⟩)
  go_ret
  exact ⟨rfl, rfl⟩
set_option maxRecDepth 100000 in
set_option maxHeartbeats 1000000 in
theorem room_any (h : VwAt F w a n s) (who o b : Int) : Calls Try.prog 15 #[.pointer (some ⟨a.vb, 0, none⟩), .int .i64 who, .int .i64 o, .int .i64 b] w fun e w' => e = .returned (.int .i64 (roomE s who o b)) ∧ Fr (fun _ => False) w w' := by
  by_cases hu : isUser s who
  · have hr := ready_yes h who hu
    have hq := quota_any h who hu
    have HR := Lib.hid hr
    have hE : roomE s who o b = (if (s.quota who).o < o ∨ (s.quota who).b < b then 8 else 0) := by unfold roomE; rw [if_pos hu]
    obtain ⟨⟨qb, qo, qr, qn⟩, hqq⟩ : ∃ q, q = s.quota who := ⟨_, rfl⟩
    rw [← hqq] at hq hE
    simp only at hE
    unfold qA at hq
    simp only at hq
    have HQ := Lib.hid hq
    have HE := Lib.hid hE
    clear hr hq h hqq hE hu
    by_cases h1 : qo < o
    · have HE2 := Lib.hid (show roomE s who o b = 8 by rw [HE.out, if_pos (.inl h1)])
      go_enter Try.func15, Try.ntmps15
      go_wp2_with (first
        | (go_at_call 51; refine HR.out.mono ?_; rintro e w1 ⟨rfl, rfl⟩)
        | (go_at_call 52; refine HQ.out.mono ?_; rintro e w2 ⟨rfl, hf2⟩; (have H2 := Lib.hid hf2); clear hf2))
      go_ret
      exact ⟨by first | (rw [HE2.out]; rfl) | rfl, H2.out.alloc _⟩
    · by_cases h2 : qb < b
      · have HE2 := Lib.hid (show roomE s who o b = 8 by rw [HE.out, if_pos (.inr h2)])
        go_enter Try.func15, Try.ntmps15
        go_wp2_with (first
          | (go_at_call 51; refine HR.out.mono ?_; rintro e w1 ⟨rfl, rfl⟩)
          | (go_at_call 52; refine HQ.out.mono ?_; rintro e w2 ⟨rfl, hf2⟩; (have H2 := Lib.hid hf2); clear hf2))
        go_ret
        exact ⟨by first | (rw [HE2.out]; rfl) | rfl, H2.out.alloc _⟩
      · have HE2 := Lib.hid (show roomE s who o b = 0 by rw [HE.out, if_neg (fun h => h.elim h1 h2)])
        go_enter Try.func15, Try.ntmps15
        go_wp2_with (first
          | (go_at_call 51; refine HR.out.mono ?_; rintro e w1 ⟨rfl, rfl⟩)
          | (go_at_call 52; refine HQ.out.mono ?_; rintro e w2 ⟨rfl, hf2⟩; (have H2 := Lib.hid hf2); clear hf2))
        go_ret
        exact ⟨by first | (rw [HE2.out]; rfl) | rfl, H2.out.alloc _⟩
  · have hr := ready_no h who hu
    have HR := Lib.hid hr
    have HE := Lib.hid (show roomE s who o b = 18 by unfold roomE; rw [if_neg hu])
    clear hr h hu
    go_enter Try.func15, Try.ntmps15
    go_wp2_with (go_at_call 51; refine HR.out.mono ?_; rintro e w1 ⟨rfl, rfl⟩)
    go_ret
    exact ⟨by first | (rw [HE.out]; rfl) | rfl, Fr.refl _ _⟩
end
end Go.Proofs.Ytdpaobflknkbkaa
namespace Go.Proofs.Ytdpaobflknkbkaa
open Go.RowKit Go.ChangeShapes
set_option linter.unusedVariables false
abbrev zL : Array Value := #[.int .u8 0, .int .u8 0, .int .u8 0, .int .u8 0, .int .u8 0, .int .u8 0, .int .u8 0, .int .u8 0, .int .u8 0, .int .u8 0, .int .u8 0, .int .u8 0, .int .u8 0, .int .u8 0, .int .u8 0, .int .u8 0, .int .u8 0, .int .u8 0, .int .u8 0, .int .u8 0, .string ⟨#[]⟩]
theorem zL_zC : zL = zC := by kernel_rfl
section
variable {F G S : Nat → Prop} {w w' : World} {a : VA} {n : Nat} {s : VS}
theorem VwAt.ptrs (h : VwAt F w a n s) : w.cell? ⟨a.vb, 1, none⟩ = some (.pointer (some ⟨a.rb, 0, none⟩)) ∧ w.cell? ⟨a.vb, 2, none⟩ = some (.pointer (some ⟨a.nb, 0, none⟩)) := by
  obtain ⟨qv, r1, r2⟩ := h.row
  exact ⟨cell_of_row _ _ _ _ _ _ r1, cell_of_row _ _ _ _ _ _ r1⟩
set_option maxRecDepth 100000 in
set_option maxHeartbeats 2000000 in
theorem unnote_any (h : VwAt F w a n s) (hF : ∀ k, F k → k < w.heap.size) (hn : n ≤ 100000) (who : Int) (N : ByteArray) (hN : N.size ≤ maxLen) : Calls Try.prog 45 #[.pointer (some ⟨a.vb, 0, none⟩), .int .i64 who, .string N] w fun e w' => e = .returned (.int .i64 (unnoteE s who N.data.toList)) ∧ VwAt F w' a (n + 1) (unnoteS s who N.data.toList) ∧ Fr (fun k => k = a.tn ∨ k = a.mn) w w' := by
  by_cases hu : isUser s who
  · have hr := ready_yes h who hu
    have c2 := h.ptrs.2
    have hw := user_wf h.ok hu
    cases hg : vGet (s.N who) N.data.toList with
    | none =>
      have hE : unnoteE s who N.data.toList = 5 := by unfold unnoteE; rw [if_pos hu, hg]; rfl
      have hS : unnoteS s who N.data.toList = s := by unfold unnoteS; rw [hE, if_neg (by decide)]
      have HT := Lib.hid (takeN_none w h.nk hF hn who hw N hN hg)
      have HR := Lib.hid hr
      have HH := Lib.hid h
      rw [hS, hE]
      clear hr h hu hg hw hE hS
      go_enter Try.func45, Try.ntmps45
      go_wp2_with (first
        | (go_at_call 51; refine HR.out.mono ?_; rintro e w1 ⟨rfl, rfl⟩)
        | (go_at_call 69; refine HT.out.mono ?_; rintro e w2 ⟨rfl, hf2⟩; (have H2 := Lib.hid hf2); clear hf2))
      go_ret
      exact ⟨rfl, (HH.out.quiet H2.out).more (Nat.le_succ n), H2.out.mono (fun _ _ h => h.elim)⟩
    | some x =>
      have hE : unnoteE s who N.data.toList = 0 := by unfold unnoteE; rw [if_pos hu, hg]; rfl
      have hS : unnoteS s who N.data.toList = s.setN who (vDel (s.N who) N.data.toList) := by unfold unnoteS; rw [hE, if_pos rfl]
      have HT := Lib.hid (takeN_some w h.nk hF hn who hw N hN x hg)
      have HR := Lib.hid hr
      have HH := Lib.hid h
      have HU := Lib.hid hu
      rw [hS, hE]
      clear hr h hu hg hw hE hS
      go_enter Try.func45, Try.ntmps45
      go_wp2_with (first
        | (go_at_call 51; refine HR.out.mono ?_; rintro e w1 ⟨rfl, rfl⟩)
        | (go_at_call 69; refine HT.out.mono ?_; rintro e w2 ⟨v2, rfl, hv2, hb2, hf2⟩; (have H2 := Lib.hid (And.intro hb2 hf2)); clear hb2 hf2 hv2))
      go_ret
      refine ⟨rfl, HH.out.withN H2.out.2 who _ HU.out H2.out.1 HH.out.sep.2 ?_, H2.out.2⟩
      have h1 := (HH.out.capU HU.out).2
      have h2 := vDel_le (s.N who) N.data.toList
      omega
  · have hr := ready_no h who hu
    have HR := Lib.hid hr
    have hE : unnoteE s who N.data.toList = 18 := by unfold unnoteE; rw [if_neg hu]
    have hS : unnoteS s who N.data.toList = s := by unfold unnoteS; rw [hE, if_neg (by decide)]
    have HH := Lib.hid h
    rw [hS, hE]
    clear hr h hu hE hS
    go_enter Try.func45, Try.ntmps45
    go_wp2_with (go_at_call 51; refine HR.out.mono ?_; rintro e w1 ⟨rfl, rfl⟩)
    go_ret
    exact ⟨rfl, HH.out.more (Nat.le_succ n), Fr.refl _ _⟩
set_option maxRecDepth 100000 in
set_option maxHeartbeats 2000000 in
theorem unroot_any (h : VwAt F w a n s) (hF : ∀ k, F k → k < w.heap.size) (hqb : a.qb < w.heap.size) (hn : n ≤ 100000) (who : Int) (N : ByteArray) (hN : N.size ≤ maxLen) : Calls Try.prog 39 #[.pointer (some ⟨a.vb, 0, none⟩), .int .i64 who, .string N] w fun e w' => e = .returned (.tuple #[unrootP s who N.data.toList, .int .i64 (unrootE s who N.data.toList)]) ∧ VwAt F w' a (n + 1) (unrootS s who N.data.toList) ∧ Fr (fun k => k = a.tr ∨ k = a.mr) w w' := by
  obtain ⟨W1, hW1⟩ : ∃ W1, W1 = w.alloc (.cells zC 43) := ⟨_, rfl⟩
  have hf1 : Fr (fun _ => False) w W1 := by rw [hW1]; exact (Fr.refl _ _).alloc _
  have hb1 : W1.heap[w.heap.size]? = some (.cells zC 43 (0, 0)) := by rw [hW1]; exact heap_alloc_new w _
  have h1 := h.quiet hf1
  have hzz : zC.size = zL.size := by rw [zL_zC]
  have hz21 : zC.size = 21 := pathC_size _ rfl _
  have hz1 : zL.all (·.oneCell') = true := by rw [zL_zC]; exact pathC_one _ _
  have hiz : (Try.prog.info? 43).map (·.size) = some zL.size := by rw [zL_zC, hz21]; kernel_rfl
  have HW := Lib.hid (And.intro hW1 (And.intro hf1 hb1))
  have c1 := h1.ptrs.1
  rw [hW1] at c1
  have HLT := Lib.hid (show ∀ k ∈ a.all, k ≠ w.heap.size from fun k hk e => by have := h.lt k hk; omega)
  have HLF := Lib.hid (show ∀ k, F k → k ≠ w.heap.size from fun k hk e => by have := hF k hk; omega)
  have HLM := Lib.hid (show ¬ (w.heap.size = a.tr ∨ w.heap.size = a.mr) from fun e => by have := h.rk.lt; omega)
  clear hF hqb
  by_cases hu : isUser s who
  · have hr := ready_yes h1 who hu
    have hw := user_wf h.ok hu
    cases hg : vGet (s.R who) N.data.toList with
    | none =>
      have hE : unrootE s who N.data.toList = 5 := by unfold unrootE; rw [if_pos hu, hg]; rfl
      have hS : unrootS s who N.data.toList = s := by unfold unrootS; rw [hE, if_neg (by decide)]
      have hP : unrootP s who N.data.toList = zR := by unfold unrootP; rw [if_pos hu, hg]
      have HT := Lib.hid (takeR_none W1 h1.rk (fun _ h => h.elim) hn who hw N hN hg)
      have HR := Lib.hid hr
      have HH := Lib.hid h1
      rw [hS, hE, hP]
      clear hr h h1 hu hg hw hE hS hP hf1 hb1 hW1
      go_enter Try.func39, Try.ntmps39
      go_wp2_with fail
      rw [← zC_lit, ← HW.out.1]
      rw [← HW.out.1] at c1
      go_wp2_with (first
        | (go_at_call 51; refine HR.out.mono ?_; rintro e w1 ⟨rfl, rfl⟩)
        | (go_at_call 67; refine HT.out.mono ?_; rintro e w2 ⟨rfl, hf2⟩; rw [show zR = .agg zL from congrArg Value.agg zL_zC.symm]; (have H2 := Lib.hid (And.intro hf2 (hf2.heap HW.out.2.2 id))); clear hf2)
        | (with_reducible refine Go.Proofs.Ytdpaobflknkbkaa.wpList_store_row rfl 43 (.tmp 6) (.tmp 24) rfl w.heap.size zL zC 43 rfl rfl H2.out.2 hiz hzz hz1 ?_))
      refine bodyPost_ret (results_cell_row_tmp rfl _ _ w.heap.size 43 zL (0, 0) _ rfl (setRow_heap _ _ _ _ _ _ H2.out.2) Try.underlying43 rfl hiz) rfl ⟨by rw [zL_zC]; rfl, ?_, ?_⟩
      · have hk := (HH.out.quiet H2.out.1).more (Nat.le_succ n)
        exact hk.keep (S := fun k => k = w.heap.size) ((Fr.refl (fun k => k = w.heap.size) w2).setRow (.inl rfl) _) (fun k hk e => HLT.out k hk e) (fun k _ hk e => HLF.out k hk e)
      · exact ((HW.out.2.1.trans H2.out.1 (fun _ h => h.elim)).setRow (.inr (Nat.le_refl _)) _).mono (fun _ _ h => h.elim)
    | some x =>
      have hE : unrootE s who N.data.toList = 0 := by unfold unrootE; rw [if_pos hu, hg]; rfl
      have hS : unrootS s who N.data.toList = s.setR who (vDel (s.R who) N.data.toList) := by unfold unrootS; rw [hE, if_pos rfl]
      have hP : unrootP s who N.data.toList = .agg (pathC x.h x.n) := by unfold unrootP; rw [if_pos hu, hg]
      have HT := Lib.hid (takeR_some W1 h1.rk (fun _ h => h.elim) hn who hw N hN x hg)
      have HR := Lib.hid hr
      have HH := Lib.hid h1
      have HU := Lib.hid hu
      rw [hS, hE, hP]
      obtain ⟨C, hC⟩ : ∃ C, C = pathC x.h x.n := ⟨_, rfl⟩
      have hCs : C.size = 21 := by rw [hC]; exact pathC_size _ x.hl _
      have hC1 : C.all (·.oneCell') = true := by rw [hC]; exact pathC_one _ _
      have hiC : (Try.prog.info? 43).map (·.size) = some C.size := by rw [hCs]; kernel_rfl
      have hzC : zC.size = C.size := by rw [hCs, hz21]
      have HC := Lib.hid hC
      rw [← hC]
      clear hr h h1 hu hg hw hE hS hP hf1 hb1 hW1 hC
      go_enter Try.func39, Try.ntmps39
      go_wp2_with fail
      rw [← zC_lit, ← HW.out.1]
      rw [← HW.out.1] at c1
      go_wp2_with (first
        | (go_at_call 51; refine HR.out.mono ?_; rintro e w1 ⟨rfl, rfl⟩)
        | (go_at_call 67; refine HT.out.mono ?_; rintro e w2 ⟨v2, rfl, hv2, hb2, hf2⟩; (obtain rfl := hv2.1); rw [← HC.out]; (have H2 := Lib.hid (And.intro hf2 (And.intro (hf2.heap HW.out.2.2 (fun e => HLM.out e)) hb2))); clear hf2 hb2 hv2)
        | (with_reducible refine Go.Proofs.Ytdpaobflknkbkaa.wpList_store_row rfl 43 (.tmp 6) (.tmp 24) rfl w.heap.size C zC 43 rfl rfl H2.out.2.1 hiC hzC hC1 ?_))
      refine bodyPost_ret (results_cell_row_tmp rfl _ _ w.heap.size 43 C (0, 0) _ rfl (setRow_heap _ _ _ _ _ _ H2.out.2.1) Try.underlying43 rfl hiC) rfl ⟨rfl, ?_, ?_⟩
      · have hk := HH.out.withR H2.out.1 who (vDel (s.R who) N.data.toList) HU.out H2.out.2.2 (by
          have h1 := (HH.out.capU HU.out).1
          have h2 := vDel_le (s.R who) N.data.toList
          omega)
        exact hk.keep (S := fun k => k = w.heap.size) ((Fr.refl (fun k => k = w.heap.size) w2).setRow (.inl rfl) _) (fun k hk e => HLT.out k hk e) (fun k _ hk e => HLF.out k hk e)
      · exact (((HW.out.2.1.mono (T := fun k => k = a.tr ∨ k = a.mr) (fun _ _ h => h.elim)).trans H2.out.1 (fun _ h => .inl h))).setRow (.inr (Nat.le_refl _)) _
  · have hr := ready_no h1 who hu
    have HR := Lib.hid hr
    have hE : unrootE s who N.data.toList = 18 := by unfold unrootE; rw [if_neg hu]
    have hS : unrootS s who N.data.toList = s := by unfold unrootS; rw [hE, if_neg (by decide)]
    have hP : unrootP s who N.data.toList = zR := by unfold unrootP; rw [if_neg hu]
    have HH := Lib.hid h1
    rw [hS, hE, hP]
    clear hr h h1 hu hE hS hP hf1 hb1 hW1
    go_enter Try.func39, Try.ntmps39
    go_wp2_with fail
    rw [← zC_lit, ← HW.out.1]
    rw [← HW.out.1] at c1
    go_wp2_with (first
      | (go_at_call 51; refine HR.out.mono ?_; rintro e w1 ⟨rfl, rfl⟩)
      | (with_reducible refine Go.Proofs.Ytdpaobflknkbkaa.wpList_store_row rfl 43 (.tmp 6) (.tmp 14) rfl w.heap.size zL zC 43 rfl rfl HW.out.2.2 hiz hzz hz1 ?_))
    refine bodyPost_ret (results_cell_row_tmp rfl _ _ w.heap.size 43 zL (0, 0) _ rfl (setRow_heap _ _ _ _ _ _ HW.out.2.2) Try.underlying43 rfl hiz) rfl ⟨by rw [zL_zC]; rfl, ?_, ?_⟩
    · have hk := HH.out.more (Nat.le_succ n)
      exact hk.keep (S := fun k => k = w.heap.size) ((Fr.refl (fun k => k = w.heap.size) _).setRow (.inl rfl) _) (fun k hk e => HLT.out k hk e) (fun k _ hk e => HLF.out k hk e)
    · exact (HW.out.2.1.setRow (.inr (Nat.le_refl _)) _).mono (fun _ _ h => h.elim)
end
end Go.Proofs.Ytdpaobflknkbkaa
namespace Go.Proofs.Ytdpaobflknkbkaa
open Go.RowKit Go.ChangeShapes
set_option linter.unusedVariables false
def okR (r : Nat) : Bool := decide ((97 ≤ r ∧ r ≤ 122) ∨ (65 ≤ r ∧ r ≤ 90) ∨ (48 ≤ r ∧ r ≤ 57) ∨ r = 46 ∨ r = 95 ∨ r = 43 ∨ r = 45)
theorem okR_yes {r : Nat} (h : (97 ≤ r ∧ r ≤ 122) ∨ (65 ≤ r ∧ r ≤ 90) ∨ (48 ≤ r ∧ r ≤ 57) ∨ r = 46 ∨ r = 95 ∨ r = 43 ∨ r = 45) : okR r = true := by simp only [okR, h, decide_true]
theorem okR_no {r : Nat} (h : ¬ ((97 ≤ r ∧ r ≤ 122) ∨ (65 ≤ r ∧ r ≤ 90) ∨ (48 ≤ r ∧ r ≤ 57) ∨ r = 46 ∨ r = 95 ∨ r = 43 ∨ r = 45)) : okR r = false := by simp only [okR, h, decide_false]
theorem okR_all : ∀ c : Fin 256, okR c.val = okC (UInt8.ofNat c.val) := by decide +kernel
theorem okR_okC (c : UInt8) : okR c.toNat = okC c := by
  have h := okR_all ⟨c.toNat, c.toNat_lt⟩
  simpa using h
theorem okC_high (c : UInt8) (h : 128 ≤ c.toNat) : okC c = false := by
  rw [← okR_okC]
  exact okR_no (by omega)
set_option maxHeartbeats 4000000 in
theorem ofName_any (r : Nat) (hr : r < 1114112) (w : World) :
    Calls Try.prog 80 #[.int .i32 r] w fun e w' => e = .returned (.bool (okR r)) ∧ w = w' := by
  have hc : (97 ≤ r ∧ r ≤ 122) ∨ (65 ≤ r ∧ r ≤ 90) ∨ (48 ≤ r ∧ r ≤ 57) ∨ r = 46 ∨ r = 95 ∨ r = 43 ∨ r = 45 ∨ r < 43 ∨ r = 44 ∨ r = 47 ∨ (58 ≤ r ∧ r ≤ 64) ∨ (91 ≤ r ∧ r ≤ 94) ∨ r = 96 ∨ 122 < r := by omega
  rcases hc with ⟨h1, h2⟩ | ⟨h1, h2⟩ | ⟨h1, h2⟩ | rfl | rfl | rfl | rfl | h1 | rfl | rfl | ⟨h1, h2⟩ | ⟨h1, h2⟩ | rfl | h1
  · have HE := Lib.hid (okR_yes (by omega) : okR r = true)
    have e46 : ((r : Int) == 46) = false := by rw [beq_eq_false_iff_ne]; omega
    have e95 : ((r : Int) == 95) = false := by rw [beq_eq_false_iff_ne]; omega
    have e43 : ((r : Int) == 43) = false := by rw [beq_eq_false_iff_ne]; omega
    have e45 : ((r : Int) == 45) = false := by rw [beq_eq_false_iff_ne]; omega
    rw [HE.out]
    go_enter Try.func80, Try.ntmps80
    go_wp2
    go_ret
    exact ⟨rfl, rfl⟩
  · have HE := Lib.hid (okR_yes (by omega) : okR r = true)
    have e46 : ((r : Int) == 46) = false := by rw [beq_eq_false_iff_ne]; omega
    have e95 : ((r : Int) == 95) = false := by rw [beq_eq_false_iff_ne]; omega
    have e43 : ((r : Int) == 43) = false := by rw [beq_eq_false_iff_ne]; omega
    have e45 : ((r : Int) == 45) = false := by rw [beq_eq_false_iff_ne]; omega
    rw [HE.out]
    go_enter Try.func80, Try.ntmps80
    go_wp2
    go_ret
    exact ⟨rfl, rfl⟩
  · have HE := Lib.hid (okR_yes (by omega) : okR r = true)
    have e46 : ((r : Int) == 46) = false := by rw [beq_eq_false_iff_ne]; omega
    have e95 : ((r : Int) == 95) = false := by rw [beq_eq_false_iff_ne]; omega
    have e43 : ((r : Int) == 43) = false := by rw [beq_eq_false_iff_ne]; omega
    have e45 : ((r : Int) == 45) = false := by rw [beq_eq_false_iff_ne]; omega
    rw [HE.out]
    go_enter Try.func80, Try.ntmps80
    go_wp2
    go_ret
    exact ⟨rfl, rfl⟩
  · have HE := Lib.hid (okR_yes (by omega) : okR 46 = true)
    rw [HE.out]
    go_enter Try.func80, Try.ntmps80
    go_wp2
    go_ret
    exact ⟨rfl, rfl⟩
  · have HE := Lib.hid (okR_yes (by omega) : okR 95 = true)
    rw [HE.out]
    go_enter Try.func80, Try.ntmps80
    go_wp2
    go_ret
    exact ⟨rfl, rfl⟩
  · have HE := Lib.hid (okR_yes (by omega) : okR 43 = true)
    rw [HE.out]
    go_enter Try.func80, Try.ntmps80
    go_wp2
    go_ret
    exact ⟨rfl, rfl⟩
  · have HE := Lib.hid (okR_yes (by omega) : okR 45 = true)
    rw [HE.out]
    go_enter Try.func80, Try.ntmps80
    go_wp2
    go_ret
    exact ⟨rfl, rfl⟩
  · have HE := Lib.hid (okR_no (by omega) : okR r = false)
    have e46 : ((r : Int) == 46) = false := by rw [beq_eq_false_iff_ne]; omega
    have e95 : ((r : Int) == 95) = false := by rw [beq_eq_false_iff_ne]; omega
    have e43 : ((r : Int) == 43) = false := by rw [beq_eq_false_iff_ne]; omega
    have e45 : ((r : Int) == 45) = false := by rw [beq_eq_false_iff_ne]; omega
    rw [HE.out]
    go_enter Try.func80, Try.ntmps80
    go_wp2
    go_ret
    exact ⟨rfl, rfl⟩
  · have HE := Lib.hid (okR_no (by omega) : okR 44 = false)
    rw [HE.out]
    go_enter Try.func80, Try.ntmps80
    go_wp2
    go_ret
    exact ⟨rfl, rfl⟩
  · have HE := Lib.hid (okR_no (by omega) : okR 47 = false)
    rw [HE.out]
    go_enter Try.func80, Try.ntmps80
    go_wp2
    go_ret
    exact ⟨rfl, rfl⟩
  · have HE := Lib.hid (okR_no (by omega) : okR r = false)
    have e46 : ((r : Int) == 46) = false := by rw [beq_eq_false_iff_ne]; omega
    have e95 : ((r : Int) == 95) = false := by rw [beq_eq_false_iff_ne]; omega
    have e43 : ((r : Int) == 43) = false := by rw [beq_eq_false_iff_ne]; omega
    have e45 : ((r : Int) == 45) = false := by rw [beq_eq_false_iff_ne]; omega
    rw [HE.out]
    go_enter Try.func80, Try.ntmps80
    go_wp2
    go_ret
    exact ⟨rfl, rfl⟩
  · have HE := Lib.hid (okR_no (by omega) : okR r = false)
    have e46 : ((r : Int) == 46) = false := by rw [beq_eq_false_iff_ne]; omega
    have e95 : ((r : Int) == 95) = false := by rw [beq_eq_false_iff_ne]; omega
    have e43 : ((r : Int) == 43) = false := by rw [beq_eq_false_iff_ne]; omega
    have e45 : ((r : Int) == 45) = false := by rw [beq_eq_false_iff_ne]; omega
    rw [HE.out]
    go_enter Try.func80, Try.ntmps80
    go_wp2
    go_ret
    exact ⟨rfl, rfl⟩
  · have HE := Lib.hid (okR_no (by omega) : okR 96 = false)
    rw [HE.out]
    go_enter Try.func80, Try.ntmps80
    go_wp2
    go_ret
    exact ⟨rfl, rfl⟩
  · have HE := Lib.hid (okR_no (by omega) : okR r = false)
    have e46 : ((r : Int) == 46) = false := by rw [beq_eq_false_iff_ne]; omega
    have e95 : ((r : Int) == 95) = false := by rw [beq_eq_false_iff_ne]; omega
    have e43 : ((r : Int) == 43) = false := by rw [beq_eq_false_iff_ne]; omega
    have e45 : ((r : Int) == 45) = false := by rw [beq_eq_false_iff_ne]; omega
    rw [HE.out]
    go_enter Try.func80, Try.ntmps80
    go_wp2
    go_ret
    exact ⟨rfl, rfl⟩
theorem nameB_long (L : List UInt8) (h : ¬ L.length ≤ 24) : nameB L = false := by
  have : decide (L.length ≤ 24) = false := by rw [decide_eq_false_iff_not]; exact h
  simp [nameB, this]
theorem nameB_dot (L : List UInt8) (h : L.getD 0 0 = 46) : nameB L = false := by
  have : (L.getD 0 0 == 46) = true := by rw [h]; rfl
  simp only [nameB, this, Bool.not_true, Bool.and_false]
theorem nameB_yes (L : List UInt8) (h0 : 0 < L.length) (h1 : L.length ≤ 24) (h2 : ¬ L.getD 0 0 = 46) (h3 : L.all okC = true) : nameB L = true := by
  have : (L.getD 0 0 == 46) = false := by rw [beq_eq_false_iff_ne]; exact h2
  simp only [nameB, h3, h0, h1, this, decide_true, Bool.not_false, Bool.and_true]
set_option maxRecDepth 100000 in
set_option maxHeartbeats 2000000 in
theorem bName_any (s : ByteArray) (hs : s.size ≤ 140737488351232) (w : World) :
    Calls Try.prog 64 #[.string s] w fun e w' => e = .returned (.bool (nameB s.data.toList)) ∧ Fr (fun _ => False) w w' := by
  have hsl : s.size = s.data.toList.length := by simp
  have HSL := Lib.hid hsl
  obtain ⟨RS, hRS⟩ : ∃ RS, RS = nameB s.data.toList := ⟨_, rfl⟩
  rw [← hRS]
  have HRS := Lib.hid hRS
  clear hRS hsl
  by_cases h0 : s.size = 0
  · obtain rfl : s = ⟨#[]⟩ := by
      apply ByteArray.ext
      exact Array.eq_empty_of_size_eq_zero h0
    have HE := Lib.hid (show RS = false by rw [HRS.out]; rfl)
    clear h0
    go_enter Try.func64, Try.ntmps64
    go_wp2
    go_ret
    exact ⟨by rw [HE.out]; rfl, Fr.refl _ _⟩
  · by_cases h24 : s.size ≤ 24
    · obtain ⟨c, hc⟩ : ∃ c, c = s[0]'(by omega) := ⟨_, rfl⟩
      have hg : ∀ h, s[0]'h = c := fun h => hc.symm
      have hcd : c = s.data.toList.getD 0 0 := by
        rw [hc, List.getD_eq_getElem?_getD, List.getElem?_eq_getElem (by rw [← HSL.out]; omega)]
        rfl
      have e0 : ((s.size : Int) == 0) = false := by rw [beq_eq_false_iff_ne]; omega
      have e24 : decide (24 < (s.size : Int)) = false := by rw [decide_eq_false_iff_not]; omega
      have b0 : (0 : Int) < (s.size : Int) := by omega
      have n0 : 0 < s.size := by omega
      have H0 := Lib.hid h0
      clear h0 hc
      by_cases h46 : c = 46
      · have HE := Lib.hid (show RS = false by rw [HRS.out]; exact nameB_dot _ (by rw [← hcd]; exact h46))
        have e46 : ((c.toNat : Int) == 46) = true := by rw [h46]; rfl
        clear h46 hcd
        go_enter Try.func64, Try.ntmps64
        go_wp2
        go_ret
        exact ⟨by rw [HE.out]; rfl, Fr.refl _ _⟩
      · have HND := Lib.hid (show ¬ s.data.toList.getD 0 0 = 46 by rw [← hcd]; exact h46)
        have e46 : ((c.toNat : Int) == 46) = false := by
          rw [beq_eq_false_iff_ne]
          intro h
          exact h46 (UInt8.toNat_inj.1 (by have : (46 : UInt8).toNat = 46 := rfl; omega))
        clear h46 hcd
        have HON := Lib.hid (fun r (hr : r < 1114112) W => ofName_any r hr W)
        go_enter Try.func64, Try.ntmps64
        go_wp2_with fail
        go_loopg [4] s.size (fun gf s4 wx => ∃ i : Nat, i ≤ s.size ∧ s.size = i + gf ∧ wx.heap[w.heap.size]? = some (.stringIter s i) ∧ Fr (fun _ => False) w wx ∧ Hid ((s.data.toList.take i).all okC = true))
        case atStart => exact ⟨0, by omega, by omega, World.iter_heap w s 0, (Fr.refl _ _).alloc _, Lib.hid rfl⟩
        case round =>
          obtain ⟨i, hi, hgf, hit, hF, hA⟩ := hrel
          have HGF := Lib.hid hgf
          clear hgf
          by_cases hlt : i < s.size
          · obtain ⟨g', hg'⟩ : ∃ g', gk = g' + 1 := ⟨gk - 1, by have := HGF.out; omega⟩
            have HG' := Lib.hid hg'
            have hil : i < s.data.toList.length := by rw [← HSL.out]; exact hlt
            have hst := all_take_succ s.data.toList i hil
            rw [hA.out, Bool.true_and] at hst
            have hbad := nameB_bad s.data.toList i hil
            obtain ⟨d, hd⟩ : ∃ d, d = s.data.toList[i] := ⟨_, rfl⟩
            rw [← hd] at hst hbad
            have hsd : s[i]'hlt = d := by rw [hd]; rfl
            obtain ⟨R, hR⟩ : ∃ R, R = (Utf8.decode s i).1 := ⟨_, rfl⟩
            obtain ⟨p, hp⟩ : ∃ p, p = i + (Utf8.decode s i).2 := ⟨_, rfl⟩
            have hRl : R < 1114112 := by have := Lib.rune_le s i; omega
            have hok : okR R = okC d := by
              by_cases ha : d.toNat < 128
              · rw [hR, decode_ascii s i hlt (by rw [hsd]; exact ha), hsd]
                exact okR_okC d
              · have h := (decode_high s i hlt (by rw [hsd]; omega)).1
                rw [okC_high d (by omega)]
                exact okR_no (by omega)
            have hp1 : okC d = true → p = i + 1 := fun hk => by
              have ha : d.toNat < 128 := by
                by_cases h : d.toNat < 128
                · exact h
                · rw [okC_high d (by omega)] at hk; cases hk
              rw [hp, decode_ascii s i hlt (by rw [hsd]; exact ha)]
            have hnx : ∀ ty, (Instr.next (.pointer (some ⟨w.heap.size, 0, none⟩)) true ty).run Try.prog wr = .ok (.tuple #[.bool true, .int .i64 i, .int .i32 R]) (wr.iterAt w.heap.size s p) := fun ty => by
              rw [hR, hp]
              exact Lib.run_next_any_at (P := Try.prog) wr w.heap.size s i ty hit hlt
            have hit2 := Lib.iterAt_heap wr w.heap.size s i p hit
            have hF2 := hF.iterAt (.inr (Nat.le_refl w.heap.size)) s p
            obtain ⟨W, hWd⟩ : ∃ W, wr.iterAt w.heap.size s p = W := ⟨_, rfl⟩
            rw [hWd] at hnx hit2 hF2
            have HF2 := Lib.hid (And.intro hit2 hF2)
            have HO := HON.out R hRl
            rw [hok] at HO
            have HO := Lib.hid HO
            have HST := Lib.hid hst
            have HBAD := Lib.hid hbad
            have HP1 := Lib.hid hp1
            clear hit hF hit2 hF2 hA hst hbad hd hsd hR hp hok hp1 hWd hg' HON hil
            by_cases hk : okC d = true
            · have HK := Lib.hid hk
              clear hk
              go_wp2_with (go_at_call 80; refine (HO.out _).mono ?_; rintro e w2 ⟨rfl, rfl⟩; rw [HK.out])
              go_roundg g'
              case measure => have := HG'.out; omega
              case rel =>
                have e := HP1.out HK.out
                refine ⟨i + 1, by omega, by have := HG'.out; have := HGF.out; omega, ?_, HF2.out.2, Lib.hid (HST.out.trans HK.out)⟩
                rw [← e]
                exact HF2.out.1
            · have HK := Lib.hid (show okC d = false by simpa using hk)
              have HE := Lib.hid (show RS = false by rw [HRS.out]; exact HBAD.out HK.out)
              clear hk
              go_wp2_with (go_at_call 80; refine (HO.out _).mono ?_; rintro e w2 ⟨rfl, rfl⟩; rw [HK.out])
              go_ret
              exact ⟨by rw [HE.out]; rfl, HF2.out.2⟩
          · have hnx : ∀ ty, (Instr.next (.pointer (some ⟨w.heap.size, 0, none⟩)) true ty).run Try.prog wr = .ok (.tuple #[.bool false]) wr := fun ty => Lib.run_next_end_at (P := Try.prog) wr w.heap.size s i ty hit hlt
            have HE := Lib.hid (show RS = true by
              rw [HRS.out]
              refine nameB_yes _ (by rw [← HSL.out]; omega) (by rw [← HSL.out]; exact h24) HND.out ?_
              have h := hA.out
              rwa [List.take_of_length_le (by rw [← HSL.out]; omega)] at h)
            have HF := Lib.hid hF
            clear hit hF hA
            go_wp2_with fail
            go_ret
            exact ⟨by rw [HE.out]; rfl, HF.out⟩
    · have HE := Lib.hid (show RS = false by rw [HRS.out]; exact nameB_long _ (by rw [← HSL.out]; exact h24))
      have e0 : ((s.size : Int) == 0) = false := by rw [beq_eq_false_iff_ne]; omega
      have e24 : decide (24 < (s.size : Int)) = true := by rw [decide_eq_true_iff]; omega
      clear h0 h24
      go_enter Try.func64, Try.ntmps64
      go_wp2
      go_ret
      exact ⟨by rw [HE.out]; rfl, Fr.refl _ _⟩
end Go.Proofs.Ytdpaobflknkbkaa
