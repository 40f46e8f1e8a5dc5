/- Laid together: VNo VAlone VNone VRp VRv -/
import Derived.Test.YtdpaobflknkbkaaVe18
import Derived.Test.YtdpaobflknkbkaaVe21
import Derived.Test.YtdpaobflknkbkaaVe0
import Derived.ProofKit
import Derived.OpenShut
import Derived.SizedLaws
import Derived.Deep.Slices
import Derived.Carry
import Derived.Test.YtdpaobflknkbkaaVe9
import Derived.Deep.Fields
import Derived.Deep.QuietTactic
import Derived.BigQuiet
import Derived.Deep.DeepCutAuto
import Derived.Deep.CutBlock

namespace Go.Proofs.Ytdpaobflknkbkaa
open Go.RowKit Go.ChangeShapes
set_option linter.unusedVariables false
def NoV (w : World) (p : Value) : Prop := p = .pointer none ∨ ∃ g, p = .pointer (some ⟨g, 0, none⟩) ∧ w.heap[g]? = some (.cells #[.slice none 0 0, .pointer none, .pointer none, .pointer none] 83 (0, 0))
theorem NoV.keep {w w' : World} {p : Value} (h : NoV w p) (hf : Fr (fun _ => False) w w') : NoV w' p := by
  rcases h with rfl | ⟨g, rfl, h5⟩
  · exact .inl rfl
  · exact .inr ⟨g, rfl, hf.heap h5 id⟩
theorem run_eql_nilV (w : World) (a : Addr) : (binOp .eql 26 (.pointer none) (.pointer (some a))).run Try.prog w = .ok (.bool false) w := by kernel_rfl
theorem isView_none {w : World} {p : Value} (h : NoV w p) : Calls Try.prog 37 #[p] w fun e w' => e = .returned (.bool false) ∧ w' = w := by
  rcases h with rfl | ⟨g, rfl, h5⟩
  · go_enter Try.func37, Try.ntmps37
    go_wp2
    go_ret
    exact ⟨rfl, rfl⟩
  · have c3 := cell_of_row _ _ 3 _ _ _ h5
    have heq := run_eql_nilV
    clear h5
    go_enter Try.func37, Try.ntmps37
    go_wp2
    go_ret
    exact ⟨rfl, rfl⟩
theorem ready_none {w : World} {p : Value} (h : NoV w p) (who : Int) : Calls Try.prog 51 #[p, .int .i64 who] w fun e w' => e = .returned (.int .i64 1) ∧ w' = w := by
  have hc := isView_none h
  clear h
  go_enter Try.func51, Try.ntmps51
  go_wp2_with (go_at_call 37; refine hc.mono ?_; rintro e w1 ⟨rfl, rfl⟩)
  go_ret
  exact ⟨rfl, rfl⟩
theorem nUsers {w : World} {p : Value} (h : NoV w p) : Calls Try.prog 12 #[p] w fun e w' => e = .returned (.int .i64 0) ∧ Fr (fun _ => False) w w' := by
  have hc := isView_none h
  clear h
  go_enter Try.func12, Try.ntmps12
  go_wp2_with (go_at_call 37; refine hc.mono ?_; rintro e w1 ⟨rfl, rfl⟩)
  go_ret
  exact ⟨rfl, Fr.refl _ _⟩
theorem nRoom {w : World} {p : Value} (h : NoV w p) (who o b : Int) : Calls Try.prog 15 #[p, .int .i64 who, .int .i64 o, .int .i64 b] w fun e w' => e = .returned (.int .i64 1) ∧ Fr (fun _ => False) w w' := by
  have HR := Lib.hid (ready_none h who)
  clear h
  go_enter Try.func15, Try.ntmps15
  go_wp2_with (go_at_call 51; refine HR.out.mono ?_; rintro e w1 ⟨rfl, rfl⟩)
  go_ret
  exact ⟨rfl, Fr.refl _ _⟩
set_option maxRecDepth 100000 in
theorem nRoot {w : World} {p : Value} (h : NoV w p) (who : Int) (N : ByteArray) (C : Array Value) (hCs : C.size = 21) : Calls Try.prog 31 #[p, .int .i64 who, .string N, .agg C] w fun e w' => e = .returned (.int .i64 1) ∧ Fr (fun _ => False) w w' := by
  obtain ⟨W1, hW1⟩ : ∃ W1, W1 = w.alloc (.cells C 43) := ⟨_, rfl⟩
  have hf1 : Fr (fun _ => False) w W1 := by rw [hW1]; exact (Fr.refl _ _).alloc _
  have HR := Lib.hid (ready_none (h.keep hf1) who)
  have HW := Lib.hid (And.intro hW1 hf1)
  clear h hf1 hW1
  go_enter Try.func31, Try.ntmps31
  go_wp2_with fail
  rw [← HW.out.1]
  go_wp2_with (go_at_call 51; refine HR.out.mono ?_; rintro e w1 ⟨rfl, rfl⟩)
  go_ret
  exact ⟨rfl, HW.out.2⟩
theorem nNote {w : World} {p : Value} (h : NoV w p) (who : Int) (N : ByteArray) (y : Value) : Calls Try.prog 41 #[p, .int .i64 who, .string N, y] w fun e w' => e = .returned (.int .i64 1) ∧ Fr (fun _ => False) w w' := by
  have HR := Lib.hid (ready_none h who)
  clear h
  go_enter Try.func41, Try.ntmps41
  go_wp2_with (go_at_call 51; refine HR.out.mono ?_; rintro e w1 ⟨rfl, rfl⟩)
  go_ret
  exact ⟨rfl, Fr.refl _ _⟩
theorem nUnnote {w : World} {p : Value} (h : NoV w p) (who : Int) (N : ByteArray) : Calls Try.prog 45 #[p, .int .i64 who, .string N] w fun e w' => e = .returned (.int .i64 1) ∧ Fr (fun _ => False) w w' := by
  have HR := Lib.hid (ready_none h who)
  clear h
  go_enter Try.func45, Try.ntmps45
  go_wp2_with (go_at_call 51; refine HR.out.mono ?_; rintro e w1 ⟨rfl, rfl⟩)
  go_ret
  exact ⟨rfl, Fr.refl _ _⟩
set_option maxRecDepth 100000 in
theorem nRoots {w : World} {p : Value} (h : NoV w p) (who : Int) : Calls Try.prog 23 #[p, .int .i64 who] w fun e w' => e = .returned (.slice none 0 0) ∧ Fr (fun _ => False) w w' := by
  have HR := Lib.hid (ready_none h who)
  clear h
  go_enter Try.func23, Try.ntmps23
  go_wp2_with (go_at_call 51; refine HR.out.mono ?_; rintro e w1 ⟨rfl, rfl⟩)
  go_ret
  exact ⟨rfl, Fr.refl _ _⟩
set_option maxRecDepth 100000 in
theorem nNotes {w : World} {p : Value} (h : NoV w p) (who : Int) (P : ByteArray) : Calls Try.prog 26 #[p, .int .i64 who, .string P] w fun e w' => e = .returned (.slice none 0 0) ∧ Fr (fun _ => False) w w' := by
  have HR := Lib.hid (ready_none h who)
  clear h
  go_enter Try.func26, Try.ntmps26
  go_wp2_with (go_at_call 51; refine HR.out.mono ?_; rintro e w1 ⟨rfl, rfl⟩)
  go_ret
  exact ⟨rfl, Fr.refl _ _⟩
set_option maxRecDepth 100000 in
set_option maxHeartbeats 1000000 in
theorem nQuota {w : World} {p : Value} (h : NoV w p) (who : Int) : Calls Try.prog 24 #[p, .int .i64 who] w fun e w' => e = .returned (.tuple #[.agg #[.int .i64 0, .int .i64 0, .int .i64 0, .int .i64 0], .int .i64 1]) ∧ Fr (fun _ => False) w w' := by
  obtain ⟨W1, hW1⟩ : ∃ W1, W1 = w.alloc (.cells #[.int .i64 0, .int .i64 0, .int .i64 0, .int .i64 0] 38) := ⟨_, rfl⟩
  have hf1 : Fr (fun _ => False) w W1 := by rw [hW1]; exact (Fr.refl _ _).alloc _
  have hb1 : W1.heap[w.heap.size]? = some (.cells #[.int .i64 0, .int .i64 0, .int .i64 0, .int .i64 0] 38 (0, 0)) := by rw [hW1]; exact heap_alloc_new w _
  have hi4 : ∀ a b c d : Int, (Try.prog.info? 38).map (·.size) = some (#[Value.int .i64 a, .int .i64 b, .int .i64 c, .int .i64 d] : Array Value).size := fun a b c d => by kernel_rfl
  have hz4 : ∀ a b c d : Int, (#[Value.int .i64 0, .int .i64 0, .int .i64 0, .int .i64 0] : Array Value).size = (#[Value.int .i64 a, .int .i64 b, .int .i64 c, .int .i64 d] : Array Value).size := fun _ _ _ _ => rfl
  have h14 : ∀ a b c d : Int, (#[Value.int .i64 a, .int .i64 b, .int .i64 c, .int .i64 d] : Array Value).all (·.oneCell') = true := fun a b c d => by kernel_rfl
  have HW := Lib.hid (And.intro hW1 (And.intro hf1 hb1))
  have HR := Lib.hid (ready_none (h.keep hf1) who)
  clear h hW1 hf1 hb1
  go_enter Try.func24, Try.ntmps24
  go_wp2_with fail
  rw [← HW.out.1]
  go_wp2_with (first
    | (go_at_call 51; refine HR.out.mono ?_; rintro e w1 ⟨rfl, rfl⟩)
    | (with_reducible refine Go.Proofs.Ytdpaobflknkbkaa.wpList_store_row rfl 38 (.tmp 4) (.tmp 12) rfl w.heap.size #[.int .i64 0, .int .i64 0, .int .i64 0, .int .i64 0] #[.int .i64 0, .int .i64 0, .int .i64 0, .int .i64 0] 38 rfl rfl HW.out.2.2 (hi4 _ _ _ _) (hz4 _ _ _ _) (h14 _ _ _ _) ?_))
  refine bodyPost_ret (results_cell_row_tmp rfl _ _ w.heap.size 38 #[.int .i64 0, .int .i64 0, .int .i64 0, .int .i64 0] (0, 0) _ rfl (setRow_heap _ _ _ _ _ _ HW.out.2.2) Try.underlying38 rfl (hi4 _ _ _ _)) rfl ⟨rfl, ?_⟩
  exact HW.out.2.1.setRow (.inr (Nat.le_refl _)) _
set_option maxRecDepth 100000 in
set_option maxHeartbeats 2000000 in
theorem nUnroot {w : World} {p : Value} (h : NoV w p) (who : Int) (N : ByteArray) : Calls Try.prog 39 #[p, .int .i64 who, .string N] w fun e w' => e = .returned (.tuple #[.agg zL, .int .i64 1]) ∧ Fr (fun _ => False) w w' := by
  obtain ⟨W1, hW1⟩ : ∃ W1, W1 = w.alloc (.cells zC 43) := ⟨_, rfl⟩
  have hf1 : Fr (fun _ => False) w W1 := by rw [hW1]; exact (Fr.refl _ _).alloc _
  have hb1 : W1.heap[w.heap.size]? = some (.cells zC 43 (0, 0)) := by rw [hW1]; exact heap_alloc_new w _
  have hzz : zC.size = zL.size := by rw [zL_zC]
  have hz21 : zC.size = 21 := pathC_size _ rfl _
  have hz1 : zL.all (·.oneCell') = true := by rw [zL_zC]; exact pathC_one _ _
  have hiz : (Try.prog.info? 43).map (·.size) = some zL.size := by rw [zL_zC, hz21]; kernel_rfl
  have HW := Lib.hid (And.intro hW1 (And.intro hf1 hb1))
  have HR := Lib.hid (ready_none (h.keep hf1) who)
  clear h hW1 hf1 hb1
  go_enter Try.func39, Try.ntmps39
  go_wp2_with fail
  rw [← zC_lit, ← HW.out.1]
  go_wp2_with (first
    | (go_at_call 51; refine HR.out.mono ?_; rintro e w1 ⟨rfl, rfl⟩)
    | (with_reducible refine Go.Proofs.Ytdpaobflknkbkaa.wpList_store_row rfl 43 (.tmp 6) (.tmp 14) rfl w.heap.size zL zC 43 rfl rfl HW.out.2.2 hiz hzz hz1 ?_))
  refine bodyPost_ret (results_cell_row_tmp rfl _ _ w.heap.size 43 zL (0, 0) _ rfl (setRow_heap _ _ _ _ _ _ HW.out.2.2) Try.underlying43 rfl hiz) rfl ⟨rfl, ?_⟩
  exact HW.out.2.1.setRow (.inr (Nat.le_refl _)) _
end Go.Proofs.Ytdpaobflknkbkaa
namespace Go.Proofs.Ytdpaobflknkbkaa
open Go.RowKit Go.ChangeShapes
set_option linter.unusedVariables false
def NtOk (M : VT Bs) (v : Value) (W : World) : Prop := ∃ l : List RowD, RwsIn (fun _ => True) W v l ∧ l.map RowD.row = M
theorem NtOk.ext {M : VT Bs} {v : Value} {W W' : World} (hf : Fr (fun _ => False) W W') (h : NtOk M v W) : NtOk M v W' := by
  obtain ⟨l, h1, h2⟩ := h
  exact ⟨l, h1.keep hf (fun _ _ _ h => h), h2⟩
theorem NtOk.len {M : VT Bs} {v : Value} {W : World} (h : NtOk M v W) : ∃ a c, v = .slice a M.length c := by
  obtain ⟨l, h1, h2⟩ := h
  obtain ⟨ao, cap, hv, _⟩ := h1.open6
  exact ⟨ao, cap, by rw [hv, ← h2, List.length_map]⟩
theorem root_rng {z : Nat} {w : World} {a : Option Addr} {n c : Nat} {M : VT PathX} (h : OwnE 66 22 z w (.slice a n c) (M.map rtC)) {k : Nat} (hk : k < M.length) : ∃ b f, a = some ⟨b, f, none⟩ ∧ w.rangeAt b (f + k * 22) (rtC M[k]) := by
  obtain ⟨ao, cap, hv, h1, h2, h3, h4⟩ := h.elems
  obtain ⟨b, f, ha, _, hi⟩ := h4 (by
    intro e
    rw [List.map_eq_nil_iff] at e
    rw [e] at hk
    cases hk)
  injection hv with e1 e2 e3
  refine ⟨b, f, e1.trans ha, fun j u hu => ?_⟩
  have hj : j < 22 := by
    have := (List.getElem?_eq_some_iff.1 hu).1
    rwa [rtC_len] at this
  rw [hi k (by rw [List.length_map]; exact hk) j hj, List.getElem_map]
  exact hu
theorem op_aQ (o : Oper) (a : Act) (w : World) (h : o.op = .alloc 38) : (execOp a.eval o).run Try.prog w = .ok (.value (.pointer (some ⟨w.heap.size, 0, none⟩))) (w.alloc (.cells #[.int .i64 0, .int .i64 0, .int .i64 0, .int .i64 0] 38)) := by
  unfold execOp
  rw [h]
  kernel_rfl
theorem wpList_value_g {P : Program} {ops : Array Oper} {rest : List Oper} {o : Oper} {a : Act} {w : World} {Q : Exit → Act → World → Prop} (hw : Region.wanted o (yielded ops a.tmps) = true) (v : Value) (w' : World) (h : (execOp a.eval o).run P w = .ok (.value v) w')
    (hK : wpList P ops Q rest (a.put o.dst v) w') : wpList P ops Q (o :: rest) a w :=
  wpList_step fun _ hK' => by
    rw [if_pos hw]
    exact wp_value_inv v h (hK' _ _ hK)
theorem sameNt (W : World) (va vb : Value) {M : VT Bs} (h1 : NtOk M va W) (h2 : NtOk M vb W) (hM : M.length ≤ 1000000) : Calls Try.prog 25 #[va, vb] W fun e w' => e = .returned (.bool true) ∧ Fr (fun _ => False) W w' := by
  obtain ⟨la, a1, a2⟩ := h1
  obtain ⟨lb, b1, b2⟩ := h2
  exact sameLines_yes W va vb la lb a1 b1 (a2.trans b2.symm) (by rw [← a2, List.length_map] at hM; exact hM)
section
set_option maxRecDepth 100000
set_option maxHeartbeats 4000000
end
end Go.Proofs.Ytdpaobflknkbkaa
namespace Go.Proofs.Ytdpaobflknkbkaa
open Go.RowKit Go.ChangeShapes
set_option linter.unusedVariables false
def aL : Array Value := #[.int .u8 0, .int .u8 0, .int .u8 0, .int .u8 0, .int .u8 0, .int .u8 0, .int .u8 0, .int .u8 0, .int .u8 0, .int .u8 0, .int .u8 0, .int .u8 0, .int .u8 0, .int .u8 0, .int .u8 0, .int .u8 0, .int .u8 0, .int .u8 0, .int .u8 0, .int .u8 0, .string ⟨#[97]⟩]
theorem op_bA (o : Oper) (a : Act) (w : World) (h : o.op = .build 43 #[(1, .const (.string ⟨#[97]⟩))]) : (execOp a.eval o).run Try.prog w = .ok (.value (.agg aL)) w := by
  unfold execOp
  rw [h]
  kernel_rfl
structure NoAt (w wr : World) : Prop where
  fr : Fr (fun _ => False) w wr
  zero : wr.heap[w.heap.size]? = some (.cells #[.slice none 0 0, .pointer none, .pointer none, .pointer none] 83 (0, 0))
  c0 : wr.cell? ⟨w.heap.size + 1, 0, none⟩ = some (.pointer none)
  c1 : wr.cell? ⟨w.heap.size + 1, 1, none⟩ = some (.pointer (some ⟨w.heap.size, 0, none⟩))
theorem NoAt.next {w wr w' : World} (h : NoAt w wr) (hf : Fr (fun _ => False) wr w') : NoAt w w' :=
  ⟨h.fr.trans hf (fun _ h => h.elim), hf.heap h.zero id, hf.cell h.c0 id, hf.cell h.c1 id⟩
theorem NoAt.start (w : World) : NoAt w ((w.alloc (.cells #[.slice none 0 0, .pointer none, .pointer none, .pointer none] 83)).alloc (.cells #[.pointer none, .pointer (some ⟨w.heap.size, 0, none⟩)] 26)) := by
  obtain ⟨W1, hW1⟩ : ∃ W1, W1 = w.alloc (.cells #[.slice none 0 0, .pointer none, .pointer none, .pointer none] 83) := ⟨_, rfl⟩
  have h1 : W1.heap[w.heap.size]? = some (.cells #[.slice none 0 0, .pointer none, .pointer none, .pointer none] 83 (0, 0)) := by rw [hW1]; exact heap_alloc_new w _
  have hf1 : Fr (fun _ => False) w W1 := by rw [hW1]; exact (Fr.refl _ _).alloc _
  have hs : W1.heap.size = w.heap.size + 1 := by rw [hW1]; simp
  rw [← hW1]
  have h2 := heap_alloc_new W1 (.cells #[.pointer none, .pointer (some ⟨w.heap.size, 0, none⟩)] 26)
  have hf2 : Fr (fun _ => False) W1 (W1.alloc (.cells #[.pointer none, .pointer (some ⟨w.heap.size, 0, none⟩)] 26)) := (Fr.refl _ _).alloc _
  rw [hs] at h2
  exact ⟨hf1.trans hf2 (fun _ h => h.elim), hf2.heap h1 id, cell_of_row _ _ _ _ _ _ h2, cell_of_row _ _ _ _ _ _ h2⟩
theorem NoAt.no {w wr : World} (h : NoAt w wr) {p : Value} (hp : p = .pointer none ∨ p = .pointer (some ⟨w.heap.size, 0, none⟩)) : NoV wr p := by
  rcases hp with rfl | rfl
  · exact .inl rfl
  · exact .inr ⟨_, rfl, h.zero⟩
theorem noAt_path {w w3 W4 : World} (h : NoAt w w3) (hW : W4 = w3.alloc (.cells zC 43)) : NoAt w (W4.setRow w3.heap.size zL) :=
  h.next (((Fr.refl (fun _ => False) w3).alloc (.cells zC 43)).trans (by rw [← hW]; exact (Fr.refl (fun k => k = w3.heap.size) W4).setRow (.inl rfl) _) (fun k hk => .inr (by rw [show k = w3.heap.size from hk]; exact Nat.le_refl _)))
set_option maxRecDepth 100000 in
set_option maxHeartbeats 4000000 in
theorem none14_any (w : World) : Calls Try.prog 21 #[] w fun e w' => e = .returned (.bool true) ∧ Fr (fun _ => False) w w' := by
  have hzz : zC.size = zL.size := by rw [zL_zC]
  have hz21 : zC.size = 21 := pathC_size _ rfl _
  have hz1 : zL.all (·.oneCell') = true := by rw [zL_zC]; exact pathC_one _ _
  have hiz : (Try.prog.info? 43).map (·.size) = some zL.size := by rw [zL_zC, hz21]; kernel_rfl
  have HZ := Lib.hid (And.intro hiz (And.intro hzz hz1))
  have HP := Lib.hid op_bA
  clear hzz hz21 hz1 hiz
  go_enter Try.func21, Try.ntmps21
  go_wp2_with fail
  go_loopw [2] (fun iv wr => ∃ i : Nat, i ≤ 2 ∧ iv = .int .i64 i ∧ Hid (NoAt w wr)) (fun iv _ => 2 - (intOf iv).toNat)
  case atStart => exact ⟨0, by decide, rfl, Lib.hid (NoAt.start w)⟩
  case round =>
    obtain ⟨i, hi, rfl, hR⟩ := hrel
    rcases (show i = 0 ∨ i = 1 ∨ i = 2 by omega) with rfl | rfl | rfl
    · clear hi
      have HND := Lib.hid (show ∀ W, NoAt w W → NoV W (.pointer none) from fun W h => h.no (.inl rfl))
      have c0 := hR.out.c0
      go_wp2_with (first
        | (go_at_call 24; refine (nQuota (HND.out _ hR.out) 1).mono ?_; rintro e w2 ⟨rfl, hf2⟩; (have H2 := Lib.hid (hR.out.next hf2)); (have H2a := Lib.hid (H2.out.next ((Fr.refl _ _).alloc (.cells #[.int .i64 0, .int .i64 0, .int .i64 0, .int .i64 0] 38)))); clear hf2)
        | (go_at_call 39; refine (nUnroot (HND.out _ H2a.out) 1 _).mono ?_; rintro e w3 ⟨rfl, hf3⟩; (have H3 := Lib.hid (H2a.out.next hf3)); (obtain ⟨W4, hW4⟩ : ∃ W4, W4 = w3.alloc (.cells zC 43) := ⟨_, rfl⟩); (have HA4 := Lib.hid (show ∀ (o : Oper) (a : Act), o.op = .alloc 43 → (execOp a.eval o).run Try.prog w3 = .ok (.value (.pointer (some ⟨w3.heap.size, 0, none⟩))) W4 from fun o a h => by rw [hW4]; exact op_aP o a w3 h)); (have HB4 := Lib.hid (show W4.heap[w3.heap.size]? = some (.cells zC 43 (0, 0)) by rw [hW4]; exact heap_alloc_new w3 _)); (have H4 := Lib.hid (noAt_path H3.out hW4)); clear hf3 hW4)
        | (with_reducible refine Go.Proofs.Ytdpaobflknkbkaa.wpList_value rfl (.pointer (some ⟨w3.heap.size, 0, none⟩)) W4 (HA4.out _ _ rfl) ?_)
        | ((with_reducible refine Go.Proofs.Ytdpaobflknkbkaa.wpList_store_row rfl 43 (.tmp 6) (.tmp 27) rfl w3.heap.size zL zC 43 rfl rfl HB4.out HZ.out.1 HZ.out.2.1 HZ.out.2.2 ?_); (obtain ⟨W5, hW5⟩ : ∃ W5, W5 = W4.setRow w3.heap.size zL := ⟨_, rfl⟩); rw [← hW5] at H4 ⊢; clear hW5)
        | (go_at_call 12; refine (nUsers (HND.out _ H4.out)).mono ?_; rintro e w6 ⟨rfl, hf6⟩; (have H6 := Lib.hid (H4.out.next hf6)); clear hf6)
        | (go_at_call 15; refine (nRoom (HND.out _ H6.out) 1 0 0).mono ?_; rintro e w7 ⟨rfl, hf7⟩; (have H7 := Lib.hid (H6.out.next hf7)); clear hf7)
        | (with_reducible refine wpList_value_g (by simp [Region.wanted, yielded, Act.put]) (.agg aL) _ (HP.out _ _ _ rfl) ?_)
        | (go_at_call 31; refine (nRoot (HND.out _ H7.out) 1 _ aL rfl).mono ?_; rintro e w8 ⟨rfl, hf8⟩; (have H8 := Lib.hid (H7.out.next hf8)); clear hf8)
        | (go_at_call 41; refine (nNote (HND.out _ H8.out) 1 _ _).mono ?_; rintro e w9 ⟨rfl, hf9⟩; (have H9 := Lib.hid (H8.out.next hf9)); clear hf9)
        | (go_at_call 45; refine (nUnnote (HND.out _ H9.out) 1 _).mono ?_; rintro e wa ⟨rfl, hfa⟩; (have Ha := Lib.hid (H9.out.next hfa)); clear hfa)
        | (go_at_call 23; refine (nRoots (HND.out _ Ha.out) 1).mono ?_; rintro e wb ⟨rfl, hfb⟩; (have Hb := Lib.hid (Ha.out.next hfb)); clear hfb)
        | (go_at_call 26; refine (nNotes (HND.out _ Hb.out) 1 _).mono ?_; rintro e wc ⟨rfl, hfc⟩; (have Hc := Lib.hid (Hb.out.next hfc)); clear hfc))
      go_roundw
      case rel => exact ⟨1, by decide, rfl, Hc⟩
      case measure => simp [intOf]
    · clear hi
      have HND := Lib.hid (show ∀ W, NoAt w W → NoV W (.pointer (some ⟨w.heap.size, 0, none⟩)) from fun W h => h.no (.inr rfl))
      have c1 := hR.out.c1
      go_wp2_with (first
        | (go_at_call 24; refine (nQuota (HND.out _ hR.out) 1).mono ?_; rintro e w2 ⟨rfl, hf2⟩; (have H2 := Lib.hid (hR.out.next hf2)); (have H2a := Lib.hid (H2.out.next ((Fr.refl _ _).alloc (.cells #[.int .i64 0, .int .i64 0, .int .i64 0, .int .i64 0] 38)))); clear hf2)
        | (go_at_call 39; refine (nUnroot (HND.out _ H2a.out) 1 _).mono ?_; rintro e w3 ⟨rfl, hf3⟩; (have H3 := Lib.hid (H2a.out.next hf3)); (obtain ⟨W4, hW4⟩ : ∃ W4, W4 = w3.alloc (.cells zC 43) := ⟨_, rfl⟩); (have HA4 := Lib.hid (show ∀ (o : Oper) (a : Act), o.op = .alloc 43 → (execOp a.eval o).run Try.prog w3 = .ok (.value (.pointer (some ⟨w3.heap.size, 0, none⟩))) W4 from fun o a h => by rw [hW4]; exact op_aP o a w3 h)); (have HB4 := Lib.hid (show W4.heap[w3.heap.size]? = some (.cells zC 43 (0, 0)) by rw [hW4]; exact heap_alloc_new w3 _)); (have H4 := Lib.hid (noAt_path H3.out hW4)); clear hf3 hW4)
        | (with_reducible refine Go.Proofs.Ytdpaobflknkbkaa.wpList_value rfl (.pointer (some ⟨w3.heap.size, 0, none⟩)) W4 (HA4.out _ _ rfl) ?_)
        | ((with_reducible refine Go.Proofs.Ytdpaobflknkbkaa.wpList_store_row rfl 43 (.tmp 6) (.tmp 27) rfl w3.heap.size zL zC 43 rfl rfl HB4.out HZ.out.1 HZ.out.2.1 HZ.out.2.2 ?_); (obtain ⟨W5, hW5⟩ : ∃ W5, W5 = W4.setRow w3.heap.size zL := ⟨_, rfl⟩); rw [← hW5] at H4 ⊢; clear hW5)
        | (go_at_call 12; refine (nUsers (HND.out _ H4.out)).mono ?_; rintro e w6 ⟨rfl, hf6⟩; (have H6 := Lib.hid (H4.out.next hf6)); clear hf6)
        | (go_at_call 15; refine (nRoom (HND.out _ H6.out) 1 0 0).mono ?_; rintro e w7 ⟨rfl, hf7⟩; (have H7 := Lib.hid (H6.out.next hf7)); clear hf7)
        | (with_reducible refine wpList_value_g (by simp [Region.wanted, yielded, Act.put]) (.agg aL) _ (HP.out _ _ _ rfl) ?_)
        | (go_at_call 31; refine (nRoot (HND.out _ H7.out) 1 _ aL rfl).mono ?_; rintro e w8 ⟨rfl, hf8⟩; (have H8 := Lib.hid (H7.out.next hf8)); clear hf8)
        | (go_at_call 41; refine (nNote (HND.out _ H8.out) 1 _ _).mono ?_; rintro e w9 ⟨rfl, hf9⟩; (have H9 := Lib.hid (H8.out.next hf9)); clear hf9)
        | (go_at_call 45; refine (nUnnote (HND.out _ H9.out) 1 _).mono ?_; rintro e wa ⟨rfl, hfa⟩; (have Ha := Lib.hid (H9.out.next hfa)); clear hfa)
        | (go_at_call 23; refine (nRoots (HND.out _ Ha.out) 1).mono ?_; rintro e wb ⟨rfl, hfb⟩; (have Hb := Lib.hid (Ha.out.next hfb)); clear hfb)
        | (go_at_call 26; refine (nNotes (HND.out _ Hb.out) 1 _).mono ?_; rintro e wc ⟨rfl, hfc⟩; (have Hc := Lib.hid (Hb.out.next hfc)); clear hfc))
      go_roundw
      case rel => exact ⟨2, by decide, rfl, Hc⟩
      case measure => simp [intOf]
    · have HR := Lib.hid hR.out.fr
      clear hi hR
      go_wp2
      go_ret
      exact ⟨rfl, HR.out⟩
end Go.Proofs.Ytdpaobflknkbkaa
namespace Go.Proofs.Ytdpaobflknkbkaa
set_option linter.unusedVariables false
section
variable {α : Type}
def insS (k : Bs) (v : α) (st : VT α × Bool) (x : Bs × α) : VT α × Bool :=
  if st.2 = false ∧ ¬ x.1 < k then (if x.1 = k then (st.1 ++ [(k, v)], true) else (st.1 ++ [(k, v)] ++ [x], true))
  else (if x.1 = k then st else (st.1 ++ [x], st.2))
def insE (k : Bs) (v : α) (st : VT α × Bool) : VT α := if st.2 = true then st.1 else st.1 ++ [(k, v)]
def insI (k : Bs) (v : α) (M : VT α) (i : Nat) : VT α × Bool := (M.take i).foldl (insS k v) ([], false)
theorem insI_zero (k : Bs) (v : α) (M : VT α) : insI k v M 0 = ([], false) := rfl
theorem insI_succ (k : Bs) (v : α) (M : VT α) (i : Nat) (h : i < M.length) : insI k v M (i + 1) = insS k v (insI k v M i) M[i] := by
  unfold insI
  rw [List.take_succ_eq_append_getElem h, List.foldl_append]
  rfl
theorem ins_rest (k : Bs) (v : α) : ∀ (M acc : VT α), (∀ p ∈ M, k < p.1) → M.foldl (insS k v) (acc, true) = (acc ++ M, true)
  | [], acc, _ => by simp
  | x :: r, acc, h => by
    have hx := h x List.mem_cons_self
    rw [List.foldl_cons, insS, if_neg (by simp), if_neg (bs_ne hx).symm, ins_rest k v r _ (fun p hp => h p (List.mem_cons_of_mem _ hp)), List.append_assoc, List.singleton_append]
theorem ins_all (k : Bs) (v : α) : ∀ (M acc : VT α), VOk M → insE k v (M.foldl (insS k v) (acc, false)) = acc ++ vPut M k v
  | [], acc, _ => by simp [insE, vPut]
  | x :: r, acc, h => by
    have h1 := List.pairwise_cons.1 h
    rw [List.foldl_cons, insS]
    by_cases hx : x.1 < k
    · have hne := bs_ne hx
      rw [if_neg (fun e => e.2 hx), if_neg hne, ins_all k v r _ h1.2]
      unfold vPut
      rw [if_neg (fun e => List.lt_irrefl _ (List.lt_trans hx e)), if_neg hne, List.append_assoc, List.singleton_append]
      cases r <;> rfl
    · rw [if_pos ⟨rfl, hx⟩]
      by_cases he : x.1 = k
      · rw [if_pos he, ins_rest k v r _ (fun p hp => by rw [← he]; exact h1.1 p hp)]
        unfold vPut insE
        rw [if_pos rfl, if_neg (fun e => by rw [he] at e; exact List.lt_irrefl _ e), if_pos he, List.append_assoc, List.singleton_append]
      · have hlt : k < x.1 := bs_lt_or hx (fun e => he e.symm)
        rw [if_neg he, ins_rest k v r _ (fun p hp => List.lt_trans hlt (h1.1 p hp))]
        unfold vPut insE
        rw [if_pos rfl, if_pos hlt]
        simp
theorem ins_put (k : Bs) (v : α) (M : VT α) (h : VOk M) : insE k v (insI k v M M.length) = vPut M k v := by
  unfold insI
  rw [List.take_length, ins_all k v M [] h, List.nil_append]
theorem insS_len (k : Bs) (v : α) (st : VT α × Bool) (x : Bs × α) : (insS k v st x).1.length ≤ st.1.length + 2 := by
  unfold insS
  split
  · split <;> simp
  · split <;> simp
theorem insI_len (k : Bs) (v : α) (M : VT α) : ∀ i, i ≤ M.length → (insI k v M i).1.length ≤ 2 * i
  | 0, _ => by simp [insI_zero]
  | i + 1, h => by
    rw [insI_succ k v M i h]
    have := insS_len k v (insI k v M i) M[i]
    have := insI_len k v M i (by omega)
    omega
theorem vDel_at {M : VT α} (hM : VOk M) {i : Nat} (hi : i < M.length) {k : Bs} (hk : M[i].1 = k) : M.take i ++ M.drop (i + 1) = vDel M k := by
  have h := List.pairwise_iff_getElem.1 hM
  have e : M = M.take i ++ (M[i] :: M.drop (i + 1)) := by rw [List.getElem_cons_drop]; exact (List.take_append_drop i M).symm
  have h1 : (M.take i).filter (fun p => p.1 != k) = M.take i := by
    rw [List.filter_eq_self]
    intro p hp
    obtain ⟨j, hj, rfl⟩ := List.mem_iff_getElem.1 hp
    rw [List.length_take] at hj
    rw [List.getElem_take]
    have := bs_ne (h j i (by omega) hi (by omega))
    rw [hk] at this
    simpa using this
  have h2 : (M.drop (i + 1)).filter (fun p => p.1 != k) = M.drop (i + 1) := by
    rw [List.filter_eq_self]
    intro p hp
    obtain ⟨j, hj, rfl⟩ := List.mem_iff_getElem.1 hp
    rw [List.length_drop] at hj
    rw [List.getElem_drop]
    have := bs_ne (h i (i + 1 + j) hi (by omega) (by omega))
    rw [hk] at this
    simpa using this.symm
  have h3 : vDel M k = (M.take i ++ (M[i] :: M.drop (i + 1))).filter (fun p => p.1 != k) := by rw [← e]; rfl
  rw [h3, List.filter_append, List.filter_cons, h1, h2, hk]
  simp
theorem vGet_at {M : VT α} (hM : VOk M) {i : Nat} (hi : i < M.length) {k : Bs} (hk : M[i].1 = k) : vGet M k = some M[i].2 := by
  rw [← hk]
  exact vGet_of_mem hM (List.getElem_mem hi)
theorem vGet_no {M : VT α} {k : Bs} (h : ∀ i (hi : i < M.length), M[i].1 ≠ k) : vGet M k = none := vGet_none.2 fun p hp => by
  obtain ⟨i, hi, rfl⟩ := List.mem_iff_getElem.1 hp
  exact h i hi
end
theorem bl_not : ∀ {a b : List UInt8}, ¬ a < b → Op.bytesLess a b = false
  | a, [], h => by cases a <;> simp [Op.bytesLess]
  | [], b :: y, h => absurd (List.nil_lt_cons b y) h
  | a :: x, b :: y, h => by
    rw [List.cons_lt_cons_iff] at h
    unfold Op.bytesLess
    by_cases h1 : a < b
    · exact absurd (.inl h1) h
    · by_cases h2 : a = b
      · subst h2
        have := bl_not (a := x) (b := y) (fun e => h (.inr ⟨rfl, e⟩))
        simp [this]
      · simp [h1, h2]
theorem bl_iff (a b : List UInt8) : Op.bytesLess a b = decide (a < b) := by
  by_cases h : a < b
  · rw [bl_lt h, decide_eq_true h]
  · rw [bl_not h, decide_eq_false h]
end Go.Proofs.Ytdpaobflknkbkaa
namespace Go.Proofs.Ytdpaobflknkbkaa
open Go.RowKit Go.ChangeShapes
set_option linter.unusedVariables false
structure UsAt (F : Nat → Prop) (w : World) (u i : Nat) (q : Qt) (M : VT PathX) (N : VT Bs) : Prop where
  ex : ∃ rv nv l, w.rangeAt u (i * 6) [.int .i64 q.b, .int .i64 q.o, .int .i64 q.r, .int .i64 q.n, rv, nv] ∧ Elems 22 F w rv (M.map rtC) ∧ RwsIn F w nv l ∧ l.map RowD.row = N
theorem UsAt.keep {F S : Nat → Prop} {w w' : World} {u i : Nat} {q : Qt} {M : VT PathX} {N : VT Bs} (h : UsAt F w u i q M N) (hf : Fr S w w') (hu : ¬ S u) (hd : ∀ k, k < w.heap.size → F k → ¬ S k) : UsAt F w' u i q M N := by
  obtain ⟨rv, nv, l, h1, h2, h3, h4⟩ := h.ex
  exact ⟨rv, nv, l, Fr.range9 hf h1 hu, h2.keep hf hd, h3.keep hf hd, h4⟩
theorem UsAt.mono {F G : Nat → Prop} {w : World} {u i : Nat} {q : Qt} {M : VT PathX} {N : VT Bs} (h : UsAt F w u i q M N) (hd : ∀ k, k < w.heap.size → F k → G k) : UsAt G w u i q M N := by
  obtain ⟨rv, nv, l, h1, h2, h3, h4⟩ := h.ex
  exact ⟨rv, nv, l, h1, h2.mono (by decide) hd, ⟨h3.el.mono (by decide) hd, fun p hp => (h3.bytes p hp).mono hd⟩, h4⟩
structure RvAt (F : Nat → Prop) (w : World) (g u : Nat) (s : VS) : Prop where
  row : ∃ c, w.heap[g]? = some (.cells #[.slice (some ⟨u, 0, none⟩) s.Q.length c] 36 (0, 0)) ∧ s.Q.length ≤ c ∧ c ≤ 9223372036854775807
  blk : ∃ cs, w.heap[u]? = some (.cells cs 87 (0, 0))
  us : ∀ i (h : i < s.Q.length), UsAt F w u i s.Q[i] (s.R ((i + 1 : Nat) : Int)) (s.N ((i + 1 : Nat) : Int))
  sep : g ≠ u ∧ ¬ F g ∧ ¬ F u
theorem RvAt.keep {F S : Nat → Prop} {w w' : World} {g u : Nat} {s : VS} (h : RvAt F w g u s) (hf : Fr S w w') (hg : ¬ S g) (hu : ¬ S u) (hd : ∀ k, k < w.heap.size → F k → ¬ S k) : RvAt F w' g u s := by
  obtain ⟨c, h1, h2⟩ := h.row
  obtain ⟨cs, h3⟩ := h.blk
  exact ⟨⟨c, hf.heap h1 hg, h2⟩, ⟨cs, hf.heap h3 hu⟩, fun i hi => (h.us i hi).keep hf hu hd, h.sep⟩
theorem RvAt.quiet {F : Nat → Prop} {w w' : World} {g u : Nat} {s : VS} (h : RvAt F w g u s) (hf : Fr (fun _ => False) w w') : RvAt F w' g u s := h.keep hf id id (fun _ _ _ h => h)
theorem RvAt.lt {F : Nat → Prop} {w : World} {g u : Nat} {s : VS} (h : RvAt F w g u s) : g < w.heap.size ∧ u < w.heap.size := by
  obtain ⟨c, h1, h2⟩ := h.row
  obtain ⟨cs, h3⟩ := h.blk
  exact ⟨lt_of_block h1, lt_of_block h3⟩
theorem user_at {s : VS} {who : Int} (hu : isUser s who) : ∃ i : Nat, who = ((i + 1 : Nat) : Int) ∧ i < s.Q.length := by
  have h1 := hu.1
  have h2 := hu.2
  exact ⟨(who - 1).toNat, by omega, by omega⟩
theorem quota_at {s : VS} {i : Nat} (h : i < s.Q.length) : s.quota ((i + 1 : Nat) : Int) = s.Q[i] := by
  unfold VS.quota
  rw [show ((((i + 1 : Nat) : Int) - 1)).toNat = i by omega, List.getD_eq_getElem?_getD, List.getElem?_eq_getElem h, Option.getD_some]
theorem idxUs (W : World) (b f n c i : Nat) (h : i < n) : (Instr.indexAt 34 (.slice (some ⟨b, f, none⟩) n c) (.int .i64 i)).run Try.prog W = .ok (.pointer (some ⟨b, f + i * 6, none⟩)) W := by
  simp [Instr.indexAt, h, Addr.add, asIntOf]
section
set_option maxRecDepth 100000
set_option maxHeartbeats 1000000
variable {F : Nat → Prop} {w : World} {g u : Nat} {s : VS}
theorem is_yes (h : RvAt F w g u s) (who : Int) (hu : isUser s who) : Calls Try.prog 48 #[.pointer (some ⟨g, 0, none⟩), .int .i64 who] w fun e w' => e = .returned (.bool true) ∧ w' = w := by
  obtain ⟨c, h1, h2, h3⟩ := h.row
  have c0 := cell_of_one h1
  obtain ⟨n, hn⟩ : ∃ n, n = s.Q.length := ⟨_, rfl⟩
  have e1 : (1 : Int) ≤ who := hu.1
  have e2 : who ≤ (n : Int) := by rw [hn]; exact hu.2
  rw [← hn] at c0
  clear h h1 h2 hu hn
  go_enter Try.func48, Try.ntmps48
  go_wp2
  go_ret
  exact ⟨rfl, rfl⟩
theorem is_no (h : RvAt F w g u s) (who : Int) (hu : ¬ isUser s who) : Calls Try.prog 48 #[.pointer (some ⟨g, 0, none⟩), .int .i64 who] w fun e w' => e = .returned (.bool false) ∧ w' = w := by
  obtain ⟨c, h1, h2, h3⟩ := h.row
  have c0 := cell_of_one h1
  obtain ⟨n, hn⟩ : ∃ n, n = s.Q.length := ⟨_, rfl⟩
  rw [← hn] at c0
  by_cases e1 : (1 : Int) ≤ who
  · have e2 : ¬ who ≤ (n : Int) := fun e => hu ⟨e1, by rw [← hn]; exact e⟩
    clear h h1 h2 hu hn
    go_enter Try.func48, Try.ntmps48
    go_wp2
    go_ret
    exact ⟨rfl, rfl⟩
  · clear h h1 h2 hu hn
    go_enter Try.func48, Try.ntmps48
    go_wp2
    go_ret
    exact ⟨rfl, rfl⟩
theorem rroom_any (h : RvAt F w g u s) (hl : s.Q.length ≤ 8) (who o b : Int) : Calls Try.prog 16 #[.pointer (some ⟨g, 0, none⟩), .int .i64 who, .int .i64 o, .int .i64 b] w fun e w' => e = .returned (.int .i64 (roomE s who o b)) ∧ Fr (fun _ => False) w w' := by
  by_cases hu : isUser s who
  · have HI := Lib.hid (is_yes h who hu)
    obtain ⟨i, rfl, hi⟩ := user_at hu
    have hE : roomE s ((i + 1 : Nat) : Int) o b = (if s.Q[i].o < o ∨ s.Q[i].b < b then 8 else 0) := by unfold roomE; rw [if_pos hu, quota_at hi]
    obtain ⟨c, h1, h2, h3⟩ := h.row
    have c0 := cell_of_one h1
    obtain ⟨rv, nv, l, hr, _⟩ := (h.us i hi).ex
    have q0 := hr 0 _ rfl
    have q1 := hr 1 _ rfl
    have q2 := hr 2 _ rfl
    have q3 := hr 3 _ rfl
    obtain ⟨n, hn⟩ : ∃ n, n = s.Q.length := ⟨_, rfl⟩
    obtain ⟨⟨qb, qo, qr, qn⟩, hq⟩ : ∃ q, q = s.Q[i] := ⟨_, rfl⟩
    rw [← hq] at q0 q1 q2 q3 hE
    simp only [Nat.add_zero] at q0 q1 q2 q3 hE
    rw [← hn] at c0
    have hi2 : (i : Int) < (n : Int) := by omega
    have hw1 : IntKind.i64.wrap (((i + 1 : Nat) : Int) - 1) = (i : Int) := by rw [show (((i + 1 : Nat) : Int) - 1) = (i : Int) by omega]; exact wrap_in5 (by omega) (by omega)
    have hi0 : (0 : Int) ≤ (i : Int) := by omega
    have hA : Fr (fun _ => False) w (w.alloc (.cells #[.int .i64 0, .int .i64 0, .int .i64 0, .int .i64 0] 38)) := (Fr.refl _ _).alloc _
    have HE := Lib.hid hE
    obtain ⟨who, hwho⟩ : ∃ who, who = ((i + 1 : Nat) : Int) := ⟨_, rfl⟩
    rw [← hwho] at HI HE hw1 ⊢
    clear h h1 h2 hu hn hq hr hE hl hA hwho
    by_cases a1 : qo < o
    · have HE2 : roomE s who o b = 8 := by rw [HE.out, if_pos (.inl a1)]
      rw [HE2]
      clear HE HE2
      go_enter Try.func16, Try.ntmps16
      go_wp2_with (go_at_call 48; refine HI.out.mono ?_; rintro e w1 ⟨rfl, rfl⟩)
      go_ret
      refine ⟨rfl, ?_⟩
      first | exact (Fr.refl _ _).alloc _ | exact ((((((Fr.refl _ _).alloc _).setCell (.inr (Nat.le_refl _)) _).setCell (.inr (Nat.le_refl _)) _).setCell (.inr (Nat.le_refl _)) _).setCell (.inr (Nat.le_refl _)) _)
    · by_cases a2 : qb < b
      · have HE2 : roomE s who o b = 8 := by rw [HE.out, if_pos (.inr a2)]
        rw [HE2]
        clear HE HE2
        go_enter Try.func16, Try.ntmps16
        go_wp2_with (go_at_call 48; refine HI.out.mono ?_; rintro e w1 ⟨rfl, rfl⟩)
        go_ret
        refine ⟨rfl, ?_⟩
        exact (Fr.refl _ _).alloc _
      · have HE2 : roomE s who o b = 0 := by rw [HE.out, if_neg (fun h => h.elim a1 a2)]
        rw [HE2]
        clear HE HE2
        go_enter Try.func16, Try.ntmps16
        go_wp2_with (go_at_call 48; refine HI.out.mono ?_; rintro e w1 ⟨rfl, rfl⟩)
        go_ret
        refine ⟨rfl, ?_⟩
        exact (Fr.refl _ _).alloc _
  · have HI := Lib.hid (is_no h who hu)
    have HE : roomE s who o b = 18 := by unfold roomE; rw [if_neg hu]
    rw [HE]
    clear h hu HE hl
    go_enter Try.func16, Try.ntmps16
    go_wp2_with (go_at_call 48; refine HI.out.mono ?_; rintro e w1 ⟨rfl, rfl⟩)
    go_ret
    exact ⟨rfl, Fr.refl _ _⟩
end
end Go.Proofs.Ytdpaobflknkbkaa
