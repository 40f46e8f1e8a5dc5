/- Laid together: JFits JRSec BCnt BMap BSec BWrL -/
import Derived.Test.YtcbbcihfooaggaaBk7
import Derived.Test.YtcbbcihfooaggaaBk6
import Derived.Test.YtcbbcihfooaggaaBk5
import Derived.Maps.OwnSet
import Derived.WalkArith
import Derived.Laws.BitsAll
import Derived.Laws.Shifts
import Derived.Test.YtcbbcihfooaggaaBk1

namespace Go.Proofs.Ytcbbcihfooaggaa
open Go.RowKit Go.ChangeShapes
set_option linter.unusedVariables false
structure ShOk (l la d s : Nat) : Prop where
  l1 : 1 ≤ l
  a1 : 1 ≤ la
  d1 : 1 ≤ d
  sum : s = 1 + l + 2 * la + d
  most : s ≤ 8192
theorem ShOk.right {l la d s : Nat} (h : ShOk l la d s) (w : World) :
    Calls Try.prog 35 #[.agg #[.int .i64 l, .int .i64 la, .int .i64 d]] w fun e w' => e = .returned (.bool true) ∧ Fr (fun _ => False) w w' := by
  have h' := lRight_any w l la d
  rwa [rightS_nat h.l1 h.a1 h.d1 (by have := h.sum; have := h.most; omega)] at h'
theorem row3_cells {w : World} {g : Nat} {x y z : Value} {T : TypeId} (h : w.heap[g]? = some (.cells #[x, y, z] T (0, 0))) : w.cell? ⟨g, 0, none⟩ = some x ∧ w.cell? ⟨g, 1, none⟩ = some y ∧ w.cell? ⟨g, 2, none⟩ = some z :=
  ⟨cell_of_row _ _ _ _ _ _ h, cell_of_row _ _ _ _ _ _ h, cell_of_row _ _ _ _ _ _ h⟩
def SecR (gw l la d m : Nat) (i : Nat) (v : Value) (W : World) : Prop :=
  match i with
  | 0 => v = .agg #[.int .i64 (l : Nat), .int .i64 (la : Nat), .int .i64 (d : Nat)]
  | 1 => v = .int .i64 (m : Nat)
  | 2 => v = .pointer (some ⟨gw, 2, none⟩)
  | 3 => v = .int .i64 (d : Nat)
  | 4 => v = .int .i64 ((m + d : Nat) : Int)
  | 5 => v = .int .i64 ((m + d : Nat) : Int)
  | _ => True
theorem SecR.ext (gw l la d m : Nat) : ∀ (j : Nat) (u : Value) (W W' : World), Fr (fun _ => False) W W' → SecR gw l la d m j u W → SecR gw l la d m j u W'
  | 0, u, W, W', hf, h => h
  | 1, u, W, W', hf, h => h
  | 2, u, W, W', hf, h => h
  | 3, u, W, W', hf, h => h
  | 4, u, W, W', hf, h => h
  | 5, u, W, W', hf, h => h
  | _ + 6, u, W, W', hf, h => trivial
set_option maxRecDepth 100000 in
set_option maxHeartbeats 1000000 in
theorem lSectors_any (w : World) (l la d s : Nat) (h : ShOk l la d s) :
    Calls Try.prog 36 #[.agg #[.int .i64 l, .int .i64 la, .int .i64 d]] w fun e w' => e = .returned (.int .i64 s) ∧ Fr (fun _ => False) w w' := by
  obtain ⟨m, hm⟩ : ∃ m, m = 1 + l + 2 * la := ⟨_, rfl⟩
  have hs : s = m + d := by rw [hm]; exact h.sum
  have HRI := Lib.hid fun W => h.right W
  have HD := Lib.hid fun w => lData_any w l la d (by have := h.sum; have := h.most; omega) (by have := h.sum; have := h.most; omega)
  have HMB := Lib.hid (show m + d ≤ 8192 by rw [← hs]; exact h.most)
  rw [← hm] at HD
  rw [hs]
  clear hm hs h
  obtain ⟨gw, hgw⟩ : ∃ gw, gw = w.heap.size := ⟨_, rfl⟩
  obtain ⟨W1, hW⟩ : ∃ W, W = w.alloc (.cells #[.int .i64 l, .int .i64 la, .int .i64 d] 23) := ⟨_, rfl⟩
  have hf : Fr (fun _ => False) w W1 := by rw [hW]; exact (Fr.refl _ _).alloc _
  have hrow : W1.heap[gw]? = some (.cells #[.int .i64 l, .int .i64 la, .int .i64 d] 23 (0, 0)) := by rw [hW, hgw]; exact heap_alloc_new w _
  have HROW := Lib.hid hrow
  have HROWW := Lib.hid (show W1.heap[w.heap.size]? = some (.cells #[.int .i64 l, .int .i64 la, .int .i64 d] 23 (0, 0)) by rw [← hgw]; exact hrow)
  have HF := Lib.hid hf
  have HW := Lib.hid (And.intro hW hgw)
  clear hW hf hrow hgw
  go_enter Try.func36, Try.ntmps36
  go_wp2_with (go_at_call 35; refine (HRI.out _).mono ?_; rintro e w1 ⟨rfl, hf1⟩; rw [← HW.out.1] at hf1; (have HF1 := Lib.hid hf1); clear hf1)
  rw [← HW.out.2]
  have LD2 := Lib.hid (fun W (hW : Fr (fun _ => False) w1 W) => load_int5 W ⟨gw, 2, none⟩ (.int .i64 d) (cell_of_row _ _ _ _ _ _ (hW.heap (HF1.out.heap HROW.out id) id)))
  have LDS := Lib.hid (fun W (hW : Fr (fun _ => False) w1 W) => load_shape5 W gw 0 _ _ _ (range_row5 (hW.heap (HF1.out.heap HROW.out id) id)))
  refine wp_region_inv 6 (by kernel_rfl) (by kernel_rfl) (fun W => Fr (fun _ => False) w1 W) (SecR gw l la d m) (fun _ _ _ _ => True) (Fr (fun _ => False)) (SecR.ext gw l la d m) (Fr.refl _ _).drew ?_ ?_
  · intro i hi o ho
    replace hi : i < 6 := hi
    obtain rfl | rfl | rfl | rfl | rfl | rfl : i = 0 ∨ i = 1 ∨ i = 2 ∨ i = 3 ∨ i = 4 ∨ i = 5 := by omega
    · simp only [List.getElem?_cons_zero, Option.some.injEq] at ho
      subst ho
      intro a W vs hB hS hE hU
      refine wpG_plain rfl ?_
      have v1 : a.eval (.tmp 1) = .pointer (some ⟨gw, 0, none⟩) := (hU 1 (by kernel_rfl)).trans rfl
      clear hE hU
      exact wp_value_inv (w' := W) (.agg #[.int .i64 (l : Nat), .int .i64 (la : Nat), .int .i64 (d : Nat)]) (op_loadAt rfl v1 (LDS.out W hB)) ⟨_, rfl, hB, Fr.refl _ _, rfl, fun _ _ _ _ _ => trivial⟩
    · simp only [List.getElem?_cons_zero, List.getElem?_cons_succ, Option.some.injEq] at ho
      subst ho
      intro a W vs hB hS hE hU
      refine wpG_plain rfl ?_
      obtain ⟨r0, e6⟩ := hE 0 6 (by kernel_rfl) (by kernel_rfl)
      have v6 : a.eval (.tmp 6) = .agg #[.int .i64 (l : Nat), .int .i64 (la : Nat), .int .i64 (d : Nat)] := e6.trans r0
      clear hE hU
      refine wp_call_inv 63 #[.tmp 6] #[23] rfl #[.agg #[.int .i64 (l : Nat), .int .i64 (la : Nat), .int .i64 (d : Nat)]] (by simp only [List.map_toArray, List.map_cons, List.map_nil, v6]) (ent_spence_log_dataAt _) (Post := fun v W' => v = .int .i64 (m : Nat) ∧ Fr (fun _ => False) W W') ((HD.out W).mono fun e w' h => ⟨_, h.1, rfl, h.2⟩) ?_
      rintro v W' ⟨rfl, hf⟩
      exact ⟨_, rfl, hB.trans hf (fun _ h => h.elim), hf, rfl, fun _ _ _ _ _ => trivial⟩
    · simp only [List.getElem?_cons_zero, List.getElem?_cons_succ, Option.some.injEq] at ho
      subst ho
      intro a W vs hB hS hE hU
      refine wpG_plain rfl ?_
      have v1 : a.eval (.tmp 1) = .pointer (some ⟨gw, 0, none⟩) := (hU 1 (by kernel_rfl)).trans rfl
      clear hE hU
      exact wp_value_inv (w' := W) (.pointer (some ⟨gw, 2, none⟩)) (op_fieldAddr rfl v1 (fld_spence_api_Shape_2_0 W gw)) ⟨_, rfl, hB, Fr.refl _ _, rfl, fun _ _ _ _ _ => trivial⟩
    · simp only [List.getElem?_cons_zero, List.getElem?_cons_succ, Option.some.injEq] at ho
      subst ho
      intro a W vs hB hS hE hU
      refine wpG_plain rfl ?_
      obtain ⟨r2, e8⟩ := hE 2 8 (by kernel_rfl) (by kernel_rfl)
      have v8 : a.eval (.tmp 8) = .pointer (some ⟨gw, 2, none⟩) := e8.trans r2
      clear hE hU
      exact wp_value_inv (w' := W) (.int .i64 (d : Nat)) (op_loadAt rfl v8 (LD2.out W hB)) ⟨_, rfl, hB, Fr.refl _ _, rfl, fun _ _ _ _ _ => trivial⟩
    · simp only [List.getElem?_cons_zero, List.getElem?_cons_succ, Option.some.injEq] at ho
      subst ho
      intro a W vs hB hS hE hU
      refine wpG_plain rfl ?_
      obtain ⟨r1, e7⟩ := hE 1 7 (by kernel_rfl) (by kernel_rfl)
      have v7 : a.eval (.tmp 7) = .int .i64 (m : Nat) := e7.trans r1
      obtain ⟨r3, e9⟩ := hE 3 9 (by kernel_rfl) (by kernel_rfl)
      have v9 : a.eval (.tmp 9) = .int .i64 (d : Nat) := e9.trans r3
      clear hE hU
      exact wp_value_inv (w' := W) (.int .i64 ((m + d : Nat) : Int)) (op_bin rfl v7 v9 (rfl) (add_in5 (by push_cast; rfl) (by omega) (by have := HMB.out; omega))) ⟨_, rfl, hB, Fr.refl _ _, rfl, fun _ _ _ _ _ => trivial⟩
    · simp only [List.getElem?_cons_zero, List.getElem?_cons_succ, Option.some.injEq] at ho
      subst ho
      intro a W vs hB hS hE hU
      refine wpG_plain rfl ?_
      obtain ⟨r4, e10⟩ := hE 4 10 (by kernel_rfl) (by kernel_rfl)
      have v10 : a.eval (.tmp 10) = .int .i64 ((m + d : Nat) : Int) := e10.trans r4
      clear hE hU
      exact wp_value_inv (w' := W) (.int .i64 ((m + d : Nat) : Int)) (op_assign rfl v10) ⟨_, rfl, hB, Fr.refl _ _, rfl, fun _ _ _ _ _ => trivial⟩
  · intro vs Wa hB0 hR0 hD
    have r2 : vs 5 = .int .i64 ((m + d : Nat) : Int) := hR0 5 (by decide)
    have HB := Lib.hid hB0
    clear hR0 hD hB0
    simp only [acts, if_true, dstAt, List.getElem?_cons_zero, List.getElem?_cons_succ, Option.bind_some, Act.put, List.setIfInBounds_toArray, List.set_cons_succ, List.set_cons_zero, List.drop_succ_cons, List.drop_nil]
    simp only [r2]
    clear r2
    go_wp2
    go_ret
    exact ⟨rfl, (HF.out.trans HF1.out (fun _ h => h.elim)).trans HB.out (fun _ h => h.elim)⟩
end Go.Proofs.Ytcbbcihfooaggaa
namespace Go.Proofs.Ytcbbcihfooaggaa
open Go.RowKit Go.ChangeShapes
set_option linter.unusedVariables false
def secsS (L A D : Int) : Int := if rightS L A D = true then 1 + L + 2 * A + D else 0
end Go.Proofs.Ytcbbcihfooaggaa
namespace Go.Proofs.Ytcbbcihfooaggaa
open Go.RowKit Go.ChangeShapes
set_option linter.unusedVariables false
set_option maxRecDepth 100000 in
theorem bNeed_any (w : World) (n : Int) (h1 : -9223372036854775808 ≤ n) (h2 : n ≤ 9223372036854775807) :
    Calls Try.prog 14 #[.int .i64 n] w fun e w' => e = .returned (.int .i64 (need7 n)) ∧ w' = w := by
  by_cases h : n < 1
  · have hR : need7 n = 0 := by unfold need7; rw [if_pos h]
    rw [hR]
    clear hR
    go_enter Try.func14, Try.ntmps14
    go_wp2
    go_ret
    exact ⟨rfl, rfl⟩
  · have hR : (n - 1) / 64 + 1 = need7 n := by unfold need7; rw [if_neg h]
    have HR := Lib.hid hR
    clear hR
    go_enter Try.func14, Try.ntmps14
    go_wp2
    go_ret
    rw [← HR.out]
    exact ⟨rfl, rfl⟩
set_option maxRecDepth 100000 in
theorem isRun_any (w : World) (L A : Int) (d : Nat) (a m : Int) (hd : d ≤ 8192) (ha : -9223372036854775808 ≤ a) (ha2 : a ≤ 9223372036854775807) (hm : -9223372036854775808 ≤ m) (hm2 : m ≤ 9223372036854775807) :
    Calls Try.prog 66 #[.agg #[.int .i64 L, .int .i64 A, .int .i64 d], .agg #[.int .i64 a, .int .i64 m]] w fun e w' => e = .returned (.bool (rnOk d (a, m))) ∧ Fr (fun _ => False) w w' := by
  by_cases h1 : 0 ≤ a
  · by_cases h2 : 1 ≤ m
    · have hs : IntKind.i64.wrap ((d : Int) - a) = (d : Int) - a := wrap_in5 (by omega) (by omega)
      by_cases h3 : m ≤ (d : Int) - a
      · have hR : rnOk d (a, m) = true := rnOk_iff.2 ⟨h1, h2, h3⟩
        rw [hR]
        clear hR
        go_enter Try.func66, Try.ntmps66
        go_wp2
        go_ret
        exact ⟨rfl, ((Fr.refl _ _).alloc _).alloc _⟩
      · have hR : rnOk d (a, m) = false := by rw [← Bool.not_eq_true, rnOk_iff]; exact fun h => h3 h.2.2
        rw [hR]
        clear hR
        go_enter Try.func66, Try.ntmps66
        go_wp2
        go_ret
        exact ⟨rfl, ((Fr.refl _ _).alloc _).alloc _⟩
    · have hR : rnOk d (a, m) = false := by rw [← Bool.not_eq_true, rnOk_iff]; exact fun h => h2 h.2.1
      rw [hR]
      clear hR
      go_enter Try.func66, Try.ntmps66
      go_wp2
      go_ret
      exact ⟨rfl, ((Fr.refl _ _).alloc _).alloc _⟩
  · have hR : rnOk d (a, m) = false := by rw [← Bool.not_eq_true, rnOk_iff]; exact fun h => h1 h.1
    rw [hR]
    clear hR
    go_enter Try.func66, Try.ntmps66
    go_wp2
    go_ret
    exact ⟨rfl, ((Fr.refl _ _).alloc _).alloc _⟩
theorem many7_take_le {d : Nat} {l : List Rn} (h : ∀ r ∈ l, rnOk d r = true) (hs : (secs7 l).length ≤ 8192) (i : Nat) : 0 ≤ many7 (l.take i) ∧ many7 (l.take i) ≤ 8192 := by
  have h1 : ∀ r ∈ l.take i, rnOk d r = true := fun r hr => h r (List.mem_of_mem_take hr)
  rw [many7_eq h1]
  have h2 : (secs7 l) = secs7 (l.take i) ++ secs7 (l.drop i) := by rw [← secs7_append, List.take_append_drop]
  have h3 := congrArg List.length h2
  rw [List.length_append] at h3
  omega
set_option maxRecDepth 100000 in
set_option maxHeartbeats 1000000 in
theorem count_any {F : Nat → Prop} {d : Nat} (w : World) (v : Value) (l : List Rn) (hl : RnsIn F w v l) (hd : d ≤ 8192) (hap : apart7 d l = true) :
    Calls Try.prog 41 #[v] w fun e w' => e = .returned (.int .i64 ((secs7 l).length : Nat)) ∧ Fr (fun _ => False) w w' := by
  have hle := apart7_le hap
  rw [apart7_iff] at hap
  have hle2 : (secs7 l).length ≤ 8192 := by omega
  have hmany := many7_eq hap.1
  have hcnt := secs7_many hap.1
  obtain ⟨ao, cap, rfl, hc1, hc2, b, off, hao, hcells⟩ := hl.open7
  obtain ⟨n, hnn⟩ : ∃ n, n = l.length := ⟨_, rfl⟩
  rw [← hnn] at hc1 hao ⊢
  have hn : n ≤ 8192 := by omega
  rw [← hmany]
  have HN := Lib.hid (And.intro hnn (And.intro hap.1 hle2))
  have HCE := Lib.hid hcells
  have HAO := Lib.hid hao
  have HLT := Lib.hid (show ∀ i (h : i < l.length), b < w.heap.size from fun i h => by have := World.block_lt_of_cell? _ _ (hcells i h).1; exact this)
  clear hl hle hle2 hap hmany hcnt hnn hcells hao
  go_enter Try.func41, Try.ntmps41
  go_wp2
  go_loopw [3, 8] (fun mv iv wr => ∃ (i : Nat), i ≤ n ∧ iv = .int .i64 i ∧ mv = .int .i64 (many7 (l.take i)) ∧ Hid (Fr (fun _ => False) w wr)) (fun _ iv _ => n - (intOf iv).toNat)
  case atStart => exact ⟨0, by omega, rfl, rfl, Lib.hid (Fr.refl _ _)⟩
  case round =>
    obtain ⟨i, hi, rfl, rfl, hR⟩ := hrel
    by_cases hlt : i < n
    · have hiL : i < l.length := by have := HN.out.1; omega
      obtain ⟨rfl, hFb⟩ := HAO.out (by have := HN.out.1; omega)
      have hce := HCE.out i hiL
      have f0 := hR.out.cell hce.1 id
      have f1 := hR.out.cell hce.2 id
      obtain ⟨x, hx⟩ : ∃ x, x = l[i].1 := ⟨_, rfl⟩
      obtain ⟨y, hy⟩ : ∃ y, y = l[i].2 := ⟨_, rfl⟩
      rw [← hx] at f0
      rw [← hy] at f1
      obtain ⟨s, hs⟩ : ∃ s, s = many7 (l.take i) := ⟨_, rfl⟩
      have hb1 := many7_take_le HN.out.2.1 HN.out.2.2 i
      have hb2 := many7_take_le HN.out.2.1 HN.out.2.2 (i + 1)
      have hsn : many7 (l.take (i + 1)) = s + y := by rw [List.take_succ_eq_append_getElem hiL, many7_snoc, ← hs, hy]
      rw [← hs] at hb1 ⊢
      rw [hsn] at hb2
      have HS := Lib.hid hsn
      have hlt64 : (i : Int) < (n : Int) := by omega
      obtain ⟨b1, b2⟩ := hb1
      obtain ⟨b3, b4⟩ := hb2
      have hw : IntKind.i64.wrap (s + y) = s + y := wrap_in5 (by omega) (by omega)
      clear hce hx hy hs hsn hiL
      go_wp2
      go_roundw
      case rel => exact ⟨i + 1, by omega, by go_num, by rw [HS.out], Lib.hid (hR.out.alloc _)⟩
      case measure => simp [intOf]; omega
    · obtain rfl : i = n := by omega
      have HE := Lib.hid (show l.take i = l from List.take_of_length_le (by have := HN.out.1; omega))
      go_wp2
      go_ret
      exact ⟨by rw [HE.out]; rfl, hR.out⟩
end Go.Proofs.Ytcbbcihfooaggaa
namespace Go.Proofs.Ytcbbcihfooaggaa
open Go.RowKit Go.ChangeShapes Go.Maps
set_option linter.unusedVariables false
def held7 : Value → Option (DataW Value × List MemPlace) := fun v => some (.held v, [])
def key7 (k : Nat) : Lit := .int .i64 (k : Int)
theorem key7_inj {i j : Nat} (h : key7 i = key7 j) : i = j := by
  simp only [key7, Lit.int.injEq, true_and] at h
  omega
theorem key7_lit (k : Nat) : WideAt.IsKeyLit (key7 k) := by simp [key7, WideAt.IsKeyLit]
def WordOk (S : List Nat) (k n : Nat) : Prop := n < 18446744073709551616 ∧ ∀ i, i < 64 → n.testBit i = decide (64 * k + i ∈ S)
def TkAt (w : World) (mb : Nat) (S : List Nat) : Prop := ∃ D, w.ownsMap Try.prog 3 held7 mb S.length D ∧ IsMap D ∧ ∀ k : Nat, ∃ n : Nat, D.atKey (key7 k) (.held (.int .u64 0)) = .held (.int .u64 n) ∧ WordOk S k n
theorem ownsMap_fr7 {w w' : World} {b n : Nat} {D : DataW Value} {S : Nat → Prop} (h : w.ownsMap Try.prog 3 held7 b n D) (hf : Fr S w w') (hb : ¬ S b) : w'.ownsMap Try.prog 3 held7 b n D := by
  obtain ⟨es, clock, h1, rest⟩ := h
  exact ⟨es, clock, hf.heap h1 hb, rest⟩
theorem TkAt.keep {w w' : World} {mb : Nat} {X : List Nat} {S : Nat → Prop} (h : TkAt w mb X) (hf : Fr S w w') (hb : ¬ S mb) : TkAt w' mb X := by
  obtain ⟨D, h1, h2⟩ := h
  exact ⟨D, ownsMap_fr7 h1 hf hb, h2⟩
theorem TkAt.lt {w : World} {mb : Nat} {X : List Nat} (h : TkAt w mb X) : mb < w.heap.size := by
  obtain ⟨D, h1, h2⟩ := h
  exact h1.lt
theorem TkAt.made (w : World) : TkAt (w.alloc (.map #[] 0)) w.heap.size [] :=
  ⟨.map [], World.ownsMap_made w _ _ _, ⟨_, rfl⟩, fun k => ⟨0, rfl, by decide, fun i _ => by simp⟩⟩
theorem TkAt.look {w : World} {mb : Nat} {S : List Nat} (h : TkAt w mb S) (k : Nat) (hk : k ≤ 1000000) :
    ∃ n : Nat, WordOk S k n ∧ (Instr.lookup 76 (.map (some mb)) (.int .i64 (k : Int)) false).run Try.prog w = .ok (.int .u64 n) w := by
  obtain ⟨D, h1, h2, h3⟩ := h
  obtain ⟨n, h4, h5⟩ := h3 k
  obtain ⟨v, ps, hr, hv⟩ := h1.lookup (t := 76) (e := 111) (int_keyed Try.underlying3) Try.underlying76 (z := .int .u64 0) (by kernel_rfl) (zd := .held (.int .u64 0)) (zp := []) rfl (key := .int .i64 (k : Int)) (kl := key7 k) (keyOf_int_mk Try.underlying3 (WalkArith.wf_i64 (by omega)))
  rw [h4, held7] at hv
  simp only [Option.some.injEq, Prod.mk.injEq, DataW.held.injEq] at hv
  rw [hv.1] at hr
  exact ⟨n, h5, hr⟩
theorem TkAt.put {w : World} {mb : Nat} {S : List Nat} (h : TkAt w mb S) (x k i n : Nat) (hx : x = 64 * k + i) (hi : i < 64) (hn : WordOk S k n) (hk : k ≤ 1000000) (hl : S.length < 1000000) :
    ∃ w', (Instr.mapUpdate 76 (.map (some mb)) (.int .i64 (k : Int)) (.int .u64 ((n ||| 2 ^ i : Nat) : Int))).run Try.prog w = .ok () w' ∧ TkAt w' mb (S ++ [x]) ∧ Fr (fun b => b = mb) w w' := by
  obtain ⟨D, h1, h2, h3⟩ := h
  obtain ⟨w', hr, ho, hg⟩ := h1.update (t := 76) (e := 111) (int_keyed Try.underlying3) Try.underlying76 (by unfold maxLen; omega) (key := .int .i64 (k : Int)) (val := .int .u64 ((n ||| 2 ^ i : Nat) : Int)) (kl := key7 k) (d := .held (.int .u64 ((n ||| 2 ^ i : Nat) : Int))) (ps := []) (keyOf_int_mk Try.underlying3 (WalkArith.wf_i64 (by omega))) rfl
  refine ⟨w', hr, ⟨_, by rw [List.length_append]; exact ho, h2.put _ _, fun j => ?_⟩, (Fr.refl _ w).grown hg (fun b hb => .inl (Option.some.inj hb).symm)⟩
  by_cases e : j = k
  · subst e
    refine ⟨_, atKey_put_same h2 (key7_lit j) _ _, ?_, fun t ht => ?_⟩
    · have h6 : 2 ^ i < 2 ^ 64 := Nat.pow_lt_pow_right (by decide) hi
      have := Nat.or_lt_two_pow hn.1 h6
      exact this
    · rw [Nat.testBit_or, hn.2 t ht, Nat.testBit_two_pow]
      by_cases hti : i = t
      · subst hti
        simp [hx]
      · have hne : ¬ 64 * j + t = x := by omega
        simp [hti, hne]
  · obtain ⟨m, h4, h5⟩ := h3 j
    refine ⟨m, by rw [atKey_put_other (fun h => e (key7_inj h))]; exact h4, h5.1, fun t ht => ?_⟩
    rw [h5.2 t ht]
    have hne : ¬ 64 * j + t = x := by omega
    simp [hne]
theorem shr_and_bit (n i : Nat) (b : Bool) (h : n.testBit i = b) : (n / 2 ^ i) % 2 = if b = true then 1 else 0 := by
  subst h
  rw [Nat.testBit_eq_decide_div_mod_eq]
  by_cases h : n / 2 ^ i % 2 = 1
  · simp [h]
  · simp [h]; omega
theorem bit_test (n i : Nat) (b : Bool) (hn : n < 18446744073709551616) (h : n.testBit i = b) : (bits BinOp.and IntKind.u64 ((n : Int) / 2 ^ i) 1 == 1) = b := by
  have h1 : n / 2 ^ i ≤ n := Nat.div_le_self _ _
  have h2 : (n : Int) / 2 ^ i = ((n / 2 ^ i : Nat) : Int) := by push_cast; rfl
  have h3 := u64_and_nat (n / 2 ^ i) 1 (by omega) (by decide)
  rw [h2, show (1 : Int) = ((1 : Nat) : Int) from rfl, h3, Nat.and_one_is_mod]
  have h4 := shr_and_bit n i b h
  rw [h4]
  cases b <;> decide
theorem bit_set (n i : Nat) (hn : n < 18446744073709551616) (hi : i < 64) : IntKind.u64.wrap (2 ^ i) = ((2 ^ i : Nat) : Int) ∧ bits BinOp.or IntKind.u64 (n : Int) ((2 ^ i : Nat) : Int) = ((n ||| 2 ^ i : Nat) : Int) := by
  have h6 : 2 ^ i < 18446744073709551616 := Nat.lt_of_lt_of_eq (Nat.pow_lt_pow_right (by decide) hi) (show 2 ^ 64 = 18446744073709551616 from rfl)
  have h5 : ((2 : Int) ^ i) = ((2 ^ i : Nat) : Int) := by push_cast; rfl
  rw [h5]
  generalize 2 ^ i = y at *
  refine ⟨?_, u64_or_nat n y hn h6⟩
  rw [IntKind.wrap_u64]
  omega
theorem wpList_tk (w w' : World) {ops : Array Oper} {rest : List Oper} {o : Oper} {a : Act} {Q : Exit → Act → World → Prop} (hg : o.guard = none) (m x v : Operand) (hop : o.op = Op.mapUpdate 76 m x v) (mv xv vv : Value) (hm : a.eval m = mv) (hx : a.eval x = xv) (hv : a.eval v = vv)
    (hr : (Instr.mapUpdate 76 mv xv vv).run Try.prog w = .ok () w') (hK : wpList Try.prog ops Q rest (a.put o.dst undef) w') : wpList Try.prog ops Q (o :: rest) a w := by
  refine wpList_plain hg fun K' hK' => ?_
  unfold Oper.wp
  simp [execOp, hop, hm, hx, hv, hr, Result.andThen]
  exact hK' _ _ hK
set_option maxRecDepth 100000 in
theorem has_any (w : World) (mb x : Nat) (S : List Nat) (h : TkAt w mb S) (hx : x ≤ 8192) :
    Calls Try.prog 69 #[.map (some mb), .int .i64 x] w fun e w' => e = .returned (.bool (decide (x ∈ S))) ∧ w' = w := by
  obtain ⟨k, hk⟩ : ∃ k, k = x / 64 := ⟨_, rfl⟩
  obtain ⟨i, hi⟩ : ∃ i, i = x % 64 := ⟨_, rfl⟩
  have hi64 : i < 64 := by omega
  obtain ⟨n, hn, hlk⟩ := h.look k (by omega)
  have hq : (x : Int) / 64 = (k : Nat) := by omega
  have hr : (x : Int) % 64 = (i : Nat) := by omega
  have hb := hn.2 i hi64
  rw [show 64 * k + i = x by omega] at hb
  have HB := Lib.hid (bit_test n i _ hn.1 hb)
  clear hk hi hb hn h
  go_enter Try.func69, Try.ntmps69
  go_wp2
  go_ret
  exact ⟨ret_bool HB.out, rfl⟩
set_option maxRecDepth 100000 in
theorem hold_no (w : World) (mb x : Nat) (S : List Nat) (h : TkAt w mb S) (hx : x ≤ 8192) (hm : x ∈ S) :
    Calls Try.prog 67 #[.map (some mb), .int .i64 x] w fun e w' => e = .returned (.bool false) ∧ w' = w := by
  have hc := has_any w mb x S h hx
  rw [show decide (x ∈ S) = true from decide_eq_true hm] at hc
  have HC := Lib.hid hc
  clear hc hm h
  go_enter Try.func67, Try.ntmps67
  go_wp2_with (go_at_call 69; refine HC.out.mono ?_; rintro e w1 ⟨rfl, rfl⟩)
  go_ret
  exact ⟨rfl, rfl⟩
set_option maxRecDepth 100000 in
theorem hold_yes (w : World) (mb x : Nat) (S : List Nat) (h : TkAt w mb S) (hx : x ≤ 8192) (hm : x ∉ S) (hS : S.length < 1000000) :
    Calls Try.prog 67 #[.map (some mb), .int .i64 x] w fun e w' => e = .returned (.bool true) ∧ TkAt w' mb (S ++ [x]) ∧ Fr (fun b => b = mb) w w' := by
  have hc := has_any w mb x S h hx
  rw [show decide (x ∈ S) = false from decide_eq_false hm] at hc
  have HC := Lib.hid hc
  obtain ⟨k, hk⟩ : ∃ k, k = x / 64 := ⟨_, rfl⟩
  obtain ⟨i, hi⟩ : ∃ i, i = x % 64 := ⟨_, rfl⟩
  have hi64 : i < 64 := by omega
  have hd : TkAt w.drew mb S := h.keep (Fr.refl (fun _ => False) w).drew id
  obtain ⟨n, hn, hlk⟩ := hd.look k (by omega)
  obtain ⟨hw2, hbs⟩ := bit_set n i hn.1 hi64
  obtain ⟨y, hy⟩ : ∃ y, y = 2 ^ i := ⟨_, rfl⟩
  obtain ⟨m, hm9⟩ : ∃ m, m = n ||| 2 ^ i := ⟨_, rfl⟩
  rw [← hy] at hw2
  rw [← hm9, ← hy] at hbs
  obtain ⟨w', hr, hT, hf⟩ := hd.put x k i n (by omega) hi64 hn (by omega) hS
  rw [← hm9] at hr
  have hq : (x : Int) / 64 = (k : Nat) := by omega
  have hr6 : (x : Int).tmod 64 = (i : Nat) := by rw [Int.tmod_eq_emod_of_nonneg (by omega)]; omega
  have hi0 : (0 : Int) ≤ (i : Int) := by omega
  have hti : (i : Int).toNat = i := by omega
  have hwk : IntKind.i64.wrap (k : Int) = (k : Int) := wrap_in5 (by omega) (by omega)
  have hwi : IntKind.i64.wrap (i : Int) = (i : Int) := wrap_in5 (by omega) (by omega)
  have HR := Lib.hid hr
  have HP := Lib.hid (And.intro hT (Fr.refl (fun b => b = mb) w).drew)
  have HF := Lib.hid hf
  clear hk hi hc hm h hn hr hT hf hd hS hm9 hy
  go_enter Try.func67, Try.ntmps67
  go_wp2_with (go_at_call 69; refine HC.out.mono ?_; rintro e w1 ⟨rfl, rfl⟩)
  go_still_tail 8, (by kernel_rfl)
  go_wp2_with (refine wpList_tk _ w' rfl (.tmp 8) (.tmp 10) (.tmp 15) rfl _ _ _ rfl rfl rfl HR.out ?_)
  go_ret
  exact ⟨rfl, HP.out.1, HP.out.2.trans HF.out (fun _ h => .inl h)⟩
end Go.Proofs.Ytcbbcihfooaggaa
namespace Go.Proofs.Ytcbbcihfooaggaa
open Go.RowKit Go.ChangeShapes
set_option linter.unusedVariables false
attribute [local go_sem] Oper.semAt_some
theorem Fr.grew {A B : World} (h : Fr (fun _ => False) A B) : A.grownBy B none := ⟨h.os, h.tape, h.output, h.size, fun k hk _ => h.block k hk id⟩
abbrev Sc (d : Nat) := {x : Nat // x < d}
def enc7 {d : Nat} (x : Sc d) : Array Value := #[.int .i64 (x.1 : Nat)]
def xs7 (d : Nat) (l : List Rn) (h : ∀ r ∈ l, rnOk d r = true) : List (Sc d) := (secs7 l).attachWith (· < d) (fun x hx => secs7_lt h hx)
theorem xs7_val {d : Nat} {l : List Rn} (h : ∀ r ∈ l, rnOk d r = true) : (xs7 d l h).map (·.1) = secs7 l := by unfold xs7; simp
theorem xs7_length {d : Nat} {l : List Rn} (h : ∀ r ∈ l, rnOk d r = true) : (xs7 d l h).length = (secs7 l).length := by unfold xs7; simp
theorem secs7_at {l : List Rn} {i : Nat} (h : i < l.length) : secs7 l = secs7 (l.take i) ++ (rnSecs l[i] ++ secs7 (l.drop (i + 1))) := by
  rw [← secs7_cons, ← secs7_append]
  congr 1
  rw [← List.drop_eq_getElem_cons h, List.take_append_drop]
theorem xs7_at {d : Nat} {l : List Rn} (h : ∀ r ∈ l, rnOk d r = true) {i a m k p : Nat} (hi : i < l.length) (hr : l[i] = ((a : Int), (m : Int))) (hp : p = (secs7 (l.take i)).length) (hk : k < m) :
    ∃ hq : p + k < (xs7 d l h).length, ((xs7 d l h)[p + k]'hq).1 = a + k := by
  have e := secs7_at hi
  rw [hr] at e
  have hl : (rnSecs ((a : Int), (m : Int))).length = m := by rw [rnSecs_length]; simp
  have hle := congrArg List.length e
  rw [List.length_append, List.length_append, hl, ← hp] at hle
  have hq : p + k < (xs7 d l h).length := by rw [xs7_length]; omega
  refine ⟨hq, ?_⟩
  have h1 : ((xs7 d l h).map (·.1))[p + k]? = some (a + k) := by
    rw [xs7_val, e, List.getElem?_append_right (by omega), ← hp, Nat.add_sub_cancel_left, List.getElem?_append_left (by omega), rnSecs_nat]
    simp [hk]
  rw [List.getElem?_map, List.getElem?_eq_getElem hq] at h1
  simpa using h1
theorem secs7_take_succ {l : List Rn} {i a m : Nat} (hi : i < l.length) (hr : l[i] = ((a : Int), (m : Int))) : (secs7 (l.take (i + 1))).length = (secs7 (l.take i)).length + m := by
  rw [List.take_succ_eq_append_getElem hi, secs7_append, hr, List.length_append, secs7_one, rnSecs_length]
  simp
def RunB (w : World) (k : Nat) : Prop := ∃ cs fr, w.heap[k]? = some (.cells cs 68 fr)
theorem RunB.lt {w : World} {k : Nat} (h : RunB w k) : k < w.heap.size := by obtain ⟨cs, fr, h1⟩ := h; exact lt_of_block h1
theorem RunB.same {A B : World} {k : Nat} (h : RunB A k) (e : B.heap[k]? = A.heap[k]?) : RunB B k := by obtain ⟨cs, fr, h1⟩ := h; exact ⟨cs, fr, by rw [e]; exact h1⟩
theorem RunB.keep {S : Nat → Prop} {A B : World} {k : Nat} (h : RunB A k) (hf : Fr S A B) (hs : ¬ S k) : RunB B k := h.same (hf.block k h.lt hs)
def Kp7 (T : Nat → Prop) (A B : World) : Prop := Fr T A B ∧ ∀ k, RunB A k → B.heap[k]? = A.heap[k]?
theorem Kp7.trans {T : Nat → Prop} {A B C : World} (h : Kp7 T A B) (k : Kp7 T B C) : Kp7 T A C := ⟨h.1.trans k.1 (fun _ h => .inl h), fun i hi => by rw [k.2 i (hi.same (h.2 i hi)), h.2 i hi]⟩
theorem Kp7.of {S T : Nat → Prop} {A B : World} (h : Fr S A B) (h1 : ∀ k, k < A.heap.size → S k → T k) (h2 : ∀ k, RunB A k → ¬ S k) : Kp7 T A B := ⟨h.mono h1, fun k hk => h.block k hk.lt (h2 k hk)⟩
structure ItS (F : Nat → Prop) (Bp : Nat) (v : Value) (l : List Rn) (W : World) : Prop where
  box : W.cell? ⟨Bp, 0, none⟩ = some v
  runs : RnsIn F W v l
theorem ItS.keep {S F : Nat → Prop} {Bp : Nat} {v : Value} {l : List Rn} {W W' : World} (h : ItS F Bp v l W) (hf : Fr S W W') (h1 : ¬ S Bp) (h2 : ∀ k, k < W.heap.size → F k → ¬ S k) : ItS F Bp v l W' :=
  ⟨hf.cell h.box h1, h.runs.keep hf h2⟩
set_option maxRecDepth 100000 in
set_option maxHeartbeats 4000000 in
theorem sectors1_in {T F : Nat → Prop} {d : Nat} (n0 : Nat) (l Bp : Nat) (v : Value) (L : List Rn) (hL : ∀ r ∈ L, rnOk d r = true) (hd : d ≤ 8192) (hT1 : ¬ T Bp) (hT2 : ∀ k, F k → ¬ T k) (B0 : Nat) (J Jx : List (Sc d) → World → Prop) (hJ : AbidesFrom B0 J)
    (hY : ∀ pre x W, J pre W → pre.length < (secs7 L).length → YieldAt Fence.wide (n0 - 1) Try.prog l (enc7 x) W fun e W' =>
      (e = .returned (.bool true) ∧ J (pre ++ [x]) W' ∧ Kp7 T W W') ∨ (e = .returned (.bool false) ∧ Jx (pre ++ [x]) W'))
    (W : World) (hR : ItS F Bp v L W) (h0 : J [] W) :
    CallsIn Fence.wide n0 Try.prog 72 #[.func (.yield l) #[] #[], .pointer (some ⟨Bp, 0, none⟩)] W fun e W' => (∃ v, e = .returned v) ∧
      ((∃ ys, ys = xs7 d L hL ∧ J ys W') ∨ (∃ pre, pre <+: xs7 d L hL ∧ Jx pre W')) := by
  obtain ⟨hbx, hrn⟩ := id hR
  obtain ⟨ao, cap, rfl, hc1, hc2, b, off, hao, hcells⟩ := hrn.open7
  obtain ⟨n, hnn⟩ : ∃ n, n = L.length := ⟨_, rfl⟩
  rw [← hnn] at hc1 hao hbx hR
  obtain ⟨X, hX⟩ : ∃ X, X = xs7 d L hL := ⟨_, rfl⟩
  have hXl : X.length = (secs7 L).length := by rw [hX, xs7_length]
  rw [← hXl] at hY
  rw [← hX]
  have HR := Lib.hid hR
  have HY := Lib.hid hY
  have HJ := Lib.hid hJ
  have HT := Lib.hid (And.intro hT1 hT2)
  have HN := Lib.hid (And.intro hnn (And.intro hX hXl))
  have HAO := Lib.hid hao
  have HCE := Lib.hid hcells
  have HL := Lib.hid hL
  clear hR hY hJ hT1 hT2 hnn hX hXl hao hrn hcells
  refine callsIn_of_wp Try.func72 rfl trivial ?_ rfl
  simp only [Try.ntmps72, List.size_toArray, List.length_cons, List.length_nil, Nat.reduceAdd, Nat.reduceSub, Array.replicate_succ, Array.replicate_zero, List.push_toArray, List.append_toArray, List.nil_append, List.cons_append]
  gi_wp2
  gi_loopw [8] (fun iv wr => ∃ i p : Nat, i ≤ n ∧ iv = .int .i64 i ∧ J (X.take p) wr ∧ Hid (p = (secs7 (L.take i)).length ∧ Kp7 T W wr)) (fun iv _ => n - (intOf iv).toNat)
  case atStart => exact ⟨0, 0, by omega, rfl, h0, Lib.hid ⟨rfl, Fr.refl _ _, fun _ _ => rfl⟩⟩
  case round =>
    clear h0
    obtain ⟨i, p, hi, rfl, hJs, hRr⟩ := hrel
    by_cases hlt : i < n
    · have hiL : i < L.length := by have := HN.out.1; omega
      obtain ⟨a, m, hr, hm1, ham⟩ := rnOk_nat (HL.out _ (List.getElem_mem hiL))
      obtain ⟨rfl, hFb⟩ := HAO.out (by omega)
      have hce := HCE.out i hiL
      rw [hr] at hce
      have f0 : wr.cell? ⟨b, off + i * 2, none⟩ = some (.int .i64 (a : Int)) := hRr.out.2.1.cell hce.1 (HT.out.2 b hFb)
      have f1 : wr.cell? ⟨b, off + i * 2 + 1, none⟩ = some (.int .i64 (m : Int)) := hRr.out.2.1.cell hce.2 (HT.out.2 b hFb)
      have HRR := Lib.hid (And.intro hr (And.intro hm1 ham))
      clear hce hr hFb
      have hlt64 : (i : Int) < (n : Int) := by omega
      gi_wp2
      obtain ⟨W1, hW1⟩ : ∃ W1, W1 = wr.alloc (.cells #[.int .i64 (a : Int), .int .i64 (m : Int)] 68) := ⟨_, rfl⟩
      obtain ⟨rb, hrb⟩ : ∃ rb, rb = wr.heap.size := ⟨_, rfl⟩
      have hf1 : Fr (fun _ => False) wr W1 := by rw [hW1]; exact (Fr.refl _ _).alloc _
      have hrow : W1.heap[rb]? = some (.cells #[.int .i64 (a : Int), .int .i64 (m : Int)] 68 (0, 0)) := by rw [hW1, hrb]; exact heap_alloc_new wr _
      have hJ1 : J (X.take (p + 0)) W1 := HJ.out _ _ _ none hJs (Fr.grew hf1) (fun r e => by cases e)
      rw [← hW1, ← hrb]
      have HW1 := Lib.hid (And.intro hf1 hrow)
      have HRR2 := Lib.hid hRr.out
      clear hW1 hrb hf1 hrow hJs hRr f0 f1
      gi_loopw [14] (fun kv wr => ∃ k : Nat, k ≤ m ∧ kv = .int .i64 k ∧ J (X.take (p + k)) wr ∧ Hid (Kp7 T W1 wr)) (fun kv _ => m - (intOf kv).toNat)
      case atStart => exact ⟨0, by omega, rfl, hJ1, Lib.hid ⟨Fr.refl _ _, fun _ _ => rfl⟩⟩
      case round =>
        clear hJ1
        obtain ⟨k, hk, rfl, hJs, hKq⟩ := hrel
        have hrq : wr.heap[rb]? = some (.cells #[.int .i64 (a : Int), .int .i64 (m : Int)] 68 (0, 0)) := by rw [hKq.out.2 rb ⟨_, _, HW1.out.2⟩]; exact HW1.out.2
        by_cases hlk : k < m
        · have g0 : wr.cell? ⟨rb, 0, none⟩ = some (.int .i64 (a : Int)) := cell_of_row _ _ _ _ _ _ hrq
          have g1 : wr.cell? ⟨rb, 1, none⟩ = some (.int .i64 (m : Int)) := cell_of_row _ _ _ _ _ _ hrq
          obtain ⟨hq, hxv⟩ := xs7_at HL.out hiL HRR.out.1 HRR2.out.1 hlk
          obtain ⟨x, hx⟩ : ∃ x, x = (xs7 d L HL.out)[p + k] := ⟨_, rfl⟩
          rw [← hx] at hxv
          have htk : X.take (p + (k + 1)) = X.take (p + k) ++ [x] := by rw [HN.out.2.1, ← Nat.add_assoc, List.take_succ_eq_append_getElem hq, hx]
          have hpl : (X.take (p + k)).length < X.length := by rw [HN.out.2.1, List.length_take]; omega
          obtain ⟨fn, tmps, assign, body, hy, hRd⟩ := HY.out _ x wr hJs hpl
          obtain ⟨q, hqq⟩ : ∃ q, q = a + k := ⟨_, rfl⟩
          have hai : (a : Int) + (k : Int) = (q : Nat) := by omega
          simp only [enc7] at hy
          rw [hxv, ← hqq] at hy
          have hab : a + m ≤ 8192 := by have := HRR.out.2.2; omega
          have hq8 : q ≤ 8192 := by omega
          have hkm : (k : Int) < (m : Int) := by omega
          have HTK := Lib.hid htk
          clear hx hxv hq hpl htk hqq hJs hab
          gi_wp2
          refine ⟨fun hx => WideF.out.free hx, hRd.mono ?_⟩
          rintro e W3 (⟨rfl, hJ3, hk3⟩ | ⟨rfl, hJx3⟩)
          · have HR3 := Lib.hid (hKq.out.trans hk3)
            gi_wp2
            go_roundw
            case rel => exact ⟨k + 1, by omega, by go_num, by rw [HTK.out]; exact hJ3, HR3⟩
            case measure => simp [intOf]; omega
          · gi_wp2
            refine bodyPost_ret (results_none rfl _ _ _) rfl ?_
            exact ⟨⟨_, rfl⟩, .inr ⟨_, by rw [← HTK.out]; exact List.take_prefix _ _, hJx3⟩⟩
        · obtain rfl : k = m := by omega
          have HK := Lib.hid (show p + k = (secs7 (L.take (i + 1))).length ∧ Kp7 T W wr from ⟨by rw [secs7_take_succ hiL HRR.out.1, HRR2.out.1], HRR2.out.2.trans ((Kp7.of (T := T) HW1.out.1 (fun _ _ h => h.elim) (fun _ _ h => h)).trans hKq.out)⟩)
          clear hrq hKq
          gi_wp2
          go_roundw
          case rel => exact ⟨i + 1, p + k, by omega, by go_num, hJs, HK⟩
          case measure => simp [intOf]; omega
    · obtain rfl : i = n := by omega
      gi_wp2
      go_end0
      have hp : p = X.length := by have h1 := hRr.out.1; rw [List.take_of_length_le (by rw [← HN.out.1]; exact Nat.le_refl _)] at h1; rw [h1, HN.out.2.2]
      exact ⟨⟨_, rfl⟩, .inl ⟨_, rfl, by rwa [List.take_of_length_le (by rw [hp]; exact Nat.le_refl _)] at hJs⟩⟩
theorem ItS.below {F : Nat → Prop} {Bp : Nat} {v : Value} {l : List Rn} {w W : World} (h : ItS F Bp v l w) (hF : ∀ k, F k → k < w.heap.size) (hb : Below w.heap.size w W) : ItS F Bp v l W := by
  have h1 := World.block_lt_of_cell? _ _ h.box
  simp only at h1
  exact h.keep (Fr.ofBelow hb) (fun h => by omega) (fun k hk hF' h => by omega)
theorem sectors_stops {T F : Nat → Prop} {d : Nat} (n0 Bp : Nat) (v : Value) (L : List Rn) (hL : ∀ r ∈ L, rnOk d r = true) (hd : d ≤ 8192) (hT1 : ¬ T Bp) (hT2 : ∀ k, F k → ¬ T k) (w : World) (hF : ∀ k, F k → k < w.heap.size) (hR : ItS F Bp v L w) :
    SeqStopsK Fence.wide n0 Try.prog 72 #[.pointer (some ⟨Bp, 0, none⟩)] enc7 (Kp7 T) (fun ys => ys = xs7 d L hL) (fun pre => pre <+: xs7 d L hL) (secs7 L).length w :=
  fun l J Jx W hW hJ hJx hY h0 => sectors1_in n0 l Bp v L hL hd hT1 hT2 _ J Jx hJ hY W (hR.below hF hW) h0
theorem sectors_any (w : World) (ao : Option Addr) (n cap : Nat) :
    Calls Try.prog 50 #[.slice ao n cap] w fun e w' => e = .returned (.func (.func 72) #[] #[.pointer (some ⟨w.heap.size, 0, none⟩)]) ∧ w' = w.alloc (.cells #[.slice ao n cap] 24) := by
  go_enter Try.func50, Try.ntmps50
  go_wp2
  go_ret
  exact ⟨rfl, rfl⟩
end Go.Proofs.Ytcbbcihfooaggaa
namespace Go.Proofs.Ytcbbcihfooaggaa
set_option linter.unusedVariables false
theorem Dv.puts7_append (s : Nat) : ∀ (A B : List Pend) (d : Dv), d.puts s (A ++ B) = if (d.puts s A).1 = 0 then (d.puts s A).2.puts s B else d.puts s A
  | [], B, d => by simp [Dv.puts]
  | p :: A, B, d => by
    rw [List.cons_append, Dv.puts, Dv.puts]
    by_cases h : (d.write s p.1 p.2).1 = 0
    · rw [if_pos h, if_pos h]
      exact Dv.puts7_append s A B _
    · rw [if_neg h, if_neg h, if_neg h]
theorem pends7_append (f : Nat) : ∀ (xs ys : List Nat) (b : List UInt8), pends7 f (xs ++ ys) b = pends7 f xs b ++ pends7 f ys (b.drop (64 * xs.length))
  | [], ys, b => by simp [pends7]
  | x :: xs, ys, b => by
    rw [List.cons_append, pends7, pends7, pends7_append f xs ys, List.cons_append, List.drop_drop, List.length_cons]
    congr 3
    congr 1
    omega
def Dv.wp7 (d : Dv) (s f : Nat) (xs : List Nat) (b : List UInt8) : Int × Dv := d.puts s (pends7 f xs b)
theorem Dv.wp7_snoc {d : Dv} {s f x : Nat} {xs : List Nat} {b : List UInt8} (h : (d.wp7 s f xs b).1 = 0) : d.wp7 s f (xs ++ [x]) b = (d.wp7 s f xs b).2.write s ((f + x : Nat) : Int) ((b.drop (64 * xs.length)).take 64) := by
  unfold Dv.wp7 at h ⊢
  rw [pends7_append, Dv.puts7_append, if_pos h]
  simp only [pends7, Dv.puts, Dv.write_full _ s _ _ (take64_le _)]
  split
  · rename_i h0
    rw [← h0]
  · rfl
theorem Dv.wp7_stop {d : Dv} {s f : Nat} {xs ys : List Nat} {b : List UInt8} (h : (d.wp7 s f xs b).1 ≠ 0) : d.wp7 s f (xs ++ ys) b = d.wp7 s f xs b := by
  unfold Dv.wp7 at h ⊢
  rw [pends7_append, Dv.puts7_append, if_neg h]
theorem Dv.wr7_of (d : Dv) (s f : Nat) (xs : List Nat) (b : List UInt8) : d.wr7 s f xs b = if (d.wp7 s f xs b).1 = 0 then (d.wp7 s f xs b).2.flush else d.wp7 s f xs b := rfl
theorem Dv.wp7_up {d : Dv} {s f : Nat} {xs : List Nat} {b : List UInt8} (hd : d.down = false) (hx : ∀ x ∈ xs, f + x < s) (h : (d.wp7 s f xs b).1 = 0) : (d.wp7 s f xs b).2.down = false ∧ (d.wp7 s f xs b).2.deeds = d.deeds + xs.length ∧ (d.wp7 s f xs b).2.waits.length = d.waits.length + xs.length := by
  rcases Dv.puts_cases s (pends7 f xs b) d hd (pends7_pends s f xs b hx) with ⟨_, _, h3, h4, h5, _⟩ | ⟨_, h2, _⟩
  · unfold Dv.wp7
    rw [h3, h4, h5, List.length_append, pends7_length]
    exact ⟨rfl, rfl, rfl⟩
  · unfold Dv.wp7 at h
    rw [h2] at h
    cases h
end Go.Proofs.Ytcbbcihfooaggaa
