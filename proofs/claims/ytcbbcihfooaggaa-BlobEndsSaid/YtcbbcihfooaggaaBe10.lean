/- Laid together: BSec BLib InvIn -/
import Derived.Test.YtcbbcihfooaggaaBe9
import Derived.Test.YtcbbcihfooaggaaBe2
import Derived.Test.YtcbbcihfooaggaaBe4

namespace Go.Proofs.Ytcbbcihfooaggaa
open Go.RowKit Go.ChangeShapes
set_option linter.unusedVariables false
attribute [local go_sem] Oper.semAt_some
theorem Fr.grew {A B : World} (h : Fr (fun _ => False) A B) : A.grownBy B none := ⟨h.os, h.tape, h.output, h.size, fun k hk _ => h.block k hk id⟩
abbrev Sc (d : Nat) := {x : Nat // x < d}
def enc7 {d : Nat} (x : Sc d) : Array Value := #[.int .i64 (x.1 : Nat)]
def xs7 (d : Nat) (l : List Rn) (h : ∀ r ∈ l, rnOk d r = true) : List (Sc d) := (secs7 l).attachWith (· < d) (fun x hx => secs7_lt h hx)
theorem xs7_val {d : Nat} {l : List Rn} (h : ∀ r ∈ l, rnOk d r = true) : (xs7 d l h).map (·.1) = secs7 l := by unfold xs7; simp
theorem xs7_length {d : Nat} {l : List Rn} (h : ∀ r ∈ l, rnOk d r = true) : (xs7 d l h).length = (secs7 l).length := by unfold xs7; simp
theorem secs7_at {l : List Rn} {i : Nat} (h : i < l.length) : secs7 l = secs7 (l.take i) ++ (rnSecs l[i] ++ secs7 (l.drop (i + 1))) := by
  rw [← secs7_cons, ← secs7_append]
  congr 1
  rw [← List.drop_eq_getElem_cons h, List.take_append_drop]
theorem xs7_at {d : Nat} {l : List Rn} (h : ∀ r ∈ l, rnOk d r = true) {i a m k p : Nat} (hi : i < l.length) (hr : l[i] = ((a : Int), (m : Int))) (hp : p = (secs7 (l.take i)).length) (hk : k < m) :
    ∃ hq : p + k < (xs7 d l h).length, ((xs7 d l h)[p + k]'hq).1 = a + k := by
  have e := secs7_at hi
  rw [hr] at e
  have hl : (rnSecs ((a : Int), (m : Int))).length = m := by rw [rnSecs_length]; simp
  have hle := congrArg List.length e
  rw [List.length_append, List.length_append, hl, ← hp] at hle
  have hq : p + k < (xs7 d l h).length := by rw [xs7_length]; omega
  refine ⟨hq, ?_⟩
  have h1 : ((xs7 d l h).map (·.1))[p + k]? = some (a + k) := by
    rw [xs7_val, e, List.getElem?_append_right (by omega), ← hp, Nat.add_sub_cancel_left, List.getElem?_append_left (by omega), rnSecs_nat]
    simp [hk]
  rw [List.getElem?_map, List.getElem?_eq_getElem hq] at h1
  simpa using h1
theorem secs7_take_succ {l : List Rn} {i a m : Nat} (hi : i < l.length) (hr : l[i] = ((a : Int), (m : Int))) : (secs7 (l.take (i + 1))).length = (secs7 (l.take i)).length + m := by
  rw [List.take_succ_eq_append_getElem hi, secs7_append, hr, List.length_append, secs7_one, rnSecs_length]
  simp
def RunB (w : World) (k : Nat) : Prop := ∃ cs fr, w.heap[k]? = some (.cells cs 68 fr)
theorem RunB.lt {w : World} {k : Nat} (h : RunB w k) : k < w.heap.size := by obtain ⟨cs, fr, h1⟩ := h; exact lt_of_block h1
theorem RunB.same {A B : World} {k : Nat} (h : RunB A k) (e : B.heap[k]? = A.heap[k]?) : RunB B k := by obtain ⟨cs, fr, h1⟩ := h; exact ⟨cs, fr, by rw [e]; exact h1⟩
theorem RunB.keep {S : Nat → Prop} {A B : World} {k : Nat} (h : RunB A k) (hf : Fr S A B) (hs : ¬ S k) : RunB B k := h.same (hf.block k h.lt hs)
def Kp7 (T : Nat → Prop) (A B : World) : Prop := Fr T A B ∧ ∀ k, RunB A k → B.heap[k]? = A.heap[k]?
theorem Kp7.trans {T : Nat → Prop} {A B C : World} (h : Kp7 T A B) (k : Kp7 T B C) : Kp7 T A C := ⟨h.1.trans k.1 (fun _ h => .inl h), fun i hi => by rw [k.2 i (hi.same (h.2 i hi)), h.2 i hi]⟩
theorem Kp7.of {S T : Nat → Prop} {A B : World} (h : Fr S A B) (h1 : ∀ k, k < A.heap.size → S k → T k) (h2 : ∀ k, RunB A k → ¬ S k) : Kp7 T A B := ⟨h.mono h1, fun k hk => h.block k hk.lt (h2 k hk)⟩
structure ItS (F : Nat → Prop) (Bp : Nat) (v : Value) (l : List Rn) (W : World) : Prop where
  box : W.cell? ⟨Bp, 0, none⟩ = some v
  runs : RnsIn F W v l
theorem ItS.keep {S F : Nat → Prop} {Bp : Nat} {v : Value} {l : List Rn} {W W' : World} (h : ItS F Bp v l W) (hf : Fr S W W') (h1 : ¬ S Bp) (h2 : ∀ k, k < W.heap.size → F k → ¬ S k) : ItS F Bp v l W' :=
  ⟨hf.cell h.box h1, h.runs.keep hf h2⟩
set_option maxRecDepth 100000 in
set_option maxHeartbeats 4000000 in
theorem sectors1_in {T F : Nat → Prop} {d : Nat} (n0 : Nat) (l Bp : Nat) (v : Value) (L : List Rn) (hL : ∀ r ∈ L, rnOk d r = true) (hd : d ≤ 8192) (hT1 : ¬ T Bp) (hT2 : ∀ k, F k → ¬ T k) (B0 : Nat) (J Jx : List (Sc d) → World → Prop) (hJ : AbidesFrom B0 J)
    (hY : ∀ pre x W, J pre W → pre.length < (secs7 L).length → YieldAt Fence.wide (n0 - 1) Try.prog l (enc7 x) W fun e W' =>
      (e = .returned (.bool true) ∧ J (pre ++ [x]) W' ∧ Kp7 T W W') ∨ (e = .returned (.bool false) ∧ Jx (pre ++ [x]) W'))
    (W : World) (hR : ItS F Bp v L W) (h0 : J [] W) :
    CallsIn Fence.wide n0 Try.prog 72 #[.func (.yield l) #[] #[], .pointer (some ⟨Bp, 0, none⟩)] W fun e W' => (∃ v, e = .returned v) ∧
      ((∃ ys, ys = xs7 d L hL ∧ J ys W') ∨ (∃ pre, pre <+: xs7 d L hL ∧ Jx pre W')) := by
  obtain ⟨hbx, hrn⟩ := id hR
  obtain ⟨ao, cap, rfl, hc1, hc2, b, off, hao, hcells⟩ := hrn.open7
  obtain ⟨n, hnn⟩ : ∃ n, n = L.length := ⟨_, rfl⟩
  rw [← hnn] at hc1 hao hbx hR
  obtain ⟨X, hX⟩ : ∃ X, X = xs7 d L hL := ⟨_, rfl⟩
  have hXl : X.length = (secs7 L).length := by rw [hX, xs7_length]
  rw [← hXl] at hY
  rw [← hX]
  have HR := Lib.hid hR
  have HY := Lib.hid hY
  have HJ := Lib.hid hJ
  have HT := Lib.hid (And.intro hT1 hT2)
  have HN := Lib.hid (And.intro hnn (And.intro hX hXl))
  have HAO := Lib.hid hao
  have HCE := Lib.hid hcells
  have HL := Lib.hid hL
  clear hR hY hJ hT1 hT2 hnn hX hXl hao hrn hcells
  refine callsIn_of_wp Try.func72 rfl trivial ?_ rfl
  simp only [Try.ntmps72, List.size_toArray, List.length_cons, List.length_nil, Nat.reduceAdd, Nat.reduceSub, Array.replicate_succ, Array.replicate_zero, List.push_toArray, List.append_toArray, List.nil_append, List.cons_append]
  gi_wp2
  gi_loopw [8] (fun iv wr => ∃ i p : Nat, i ≤ n ∧ iv = .int .i64 i ∧ J (X.take p) wr ∧ Hid (p = (secs7 (L.take i)).length ∧ Kp7 T W wr)) (fun iv _ => n - (intOf iv).toNat)
  case atStart => exact ⟨0, 0, by omega, rfl, h0, Lib.hid ⟨rfl, Fr.refl _ _, fun _ _ => rfl⟩⟩
  case round =>
    clear h0
    obtain ⟨i, p, hi, rfl, hJs, hRr⟩ := hrel
    by_cases hlt : i < n
    · have hiL : i < L.length := by have := HN.out.1; omega
      obtain ⟨a, m, hr, hm1, ham⟩ := rnOk_nat (HL.out _ (List.getElem_mem hiL))
      obtain ⟨rfl, hFb⟩ := HAO.out (by omega)
      have hce := HCE.out i hiL
      rw [hr] at hce
      have f0 : wr.cell? ⟨b, off + i * 2, none⟩ = some (.int .i64 (a : Int)) := hRr.out.2.1.cell hce.1 (HT.out.2 b hFb)
      have f1 : wr.cell? ⟨b, off + i * 2 + 1, none⟩ = some (.int .i64 (m : Int)) := hRr.out.2.1.cell hce.2 (HT.out.2 b hFb)
      have HRR := Lib.hid (And.intro hr (And.intro hm1 ham))
      clear hce hr hFb
      have hlt64 : (i : Int) < (n : Int) := by omega
      gi_wp2
      obtain ⟨W1, hW1⟩ : ∃ W1, W1 = wr.alloc (.cells #[.int .i64 (a : Int), .int .i64 (m : Int)] 68) := ⟨_, rfl⟩
      obtain ⟨rb, hrb⟩ : ∃ rb, rb = wr.heap.size := ⟨_, rfl⟩
      have hf1 : Fr (fun _ => False) wr W1 := by rw [hW1]; exact (Fr.refl _ _).alloc _
      have hrow : W1.heap[rb]? = some (.cells #[.int .i64 (a : Int), .int .i64 (m : Int)] 68 (0, 0)) := by rw [hW1, hrb]; exact heap_alloc_new wr _
      have hJ1 : J (X.take (p + 0)) W1 := HJ.out _ _ _ none hJs (Fr.grew hf1) (fun r e => by cases e)
      rw [← hW1, ← hrb]
      have HW1 := Lib.hid (And.intro hf1 hrow)
      have HRR2 := Lib.hid hRr.out
      clear hW1 hrb hf1 hrow hJs hRr f0 f1
      gi_loopw [14] (fun kv wr => ∃ k : Nat, k ≤ m ∧ kv = .int .i64 k ∧ J (X.take (p + k)) wr ∧ Hid (Kp7 T W1 wr)) (fun kv _ => m - (intOf kv).toNat)
      case atStart => exact ⟨0, by omega, rfl, hJ1, Lib.hid ⟨Fr.refl _ _, fun _ _ => rfl⟩⟩
      case round =>
        clear hJ1
        obtain ⟨k, hk, rfl, hJs, hKq⟩ := hrel
        have hrq : wr.heap[rb]? = some (.cells #[.int .i64 (a : Int), .int .i64 (m : Int)] 68 (0, 0)) := by rw [hKq.out.2 rb ⟨_, _, HW1.out.2⟩]; exact HW1.out.2
        by_cases hlk : k < m
        · have g0 : wr.cell? ⟨rb, 0, none⟩ = some (.int .i64 (a : Int)) := cell_of_row _ _ _ _ _ _ hrq
          have g1 : wr.cell? ⟨rb, 1, none⟩ = some (.int .i64 (m : Int)) := cell_of_row _ _ _ _ _ _ hrq
          obtain ⟨hq, hxv⟩ := xs7_at HL.out hiL HRR.out.1 HRR2.out.1 hlk
          obtain ⟨x, hx⟩ : ∃ x, x = (xs7 d L HL.out)[p + k] := ⟨_, rfl⟩
          rw [← hx] at hxv
          have htk : X.take (p + (k + 1)) = X.take (p + k) ++ [x] := by rw [HN.out.2.1, ← Nat.add_assoc, List.take_succ_eq_append_getElem hq, hx]
          have hpl : (X.take (p + k)).length < X.length := by rw [HN.out.2.1, List.length_take]; omega
          obtain ⟨fn, tmps, assign, body, hy, hRd⟩ := HY.out _ x wr hJs hpl
          obtain ⟨q, hqq⟩ : ∃ q, q = a + k := ⟨_, rfl⟩
          have hai : (a : Int) + (k : Int) = (q : Nat) := by omega
          simp only [enc7] at hy
          rw [hxv, ← hqq] at hy
          have hab : a + m ≤ 8192 := by have := HRR.out.2.2; omega
          have hq8 : q ≤ 8192 := by omega
          have hkm : (k : Int) < (m : Int) := by omega
          have HTK := Lib.hid htk
          clear hx hxv hq hpl htk hqq hJs hab
          gi_wp2
          refine ⟨fun hx => WideF.out.free hx, hRd.mono ?_⟩
          rintro e W3 (⟨rfl, hJ3, hk3⟩ | ⟨rfl, hJx3⟩)
          · have HR3 := Lib.hid (hKq.out.trans hk3)
            gi_wp2
            go_roundw
            case rel => exact ⟨k + 1, by omega, by go_num, by rw [HTK.out]; exact hJ3, HR3⟩
            case measure => simp [intOf]; omega
          · gi_wp2
            refine bodyPost_ret (results_none rfl _ _ _) rfl ?_
            exact ⟨⟨_, rfl⟩, .inr ⟨_, by rw [← HTK.out]; exact List.take_prefix _ _, hJx3⟩⟩
        · obtain rfl : k = m := by omega
          have HK := Lib.hid (show p + k = (secs7 (L.take (i + 1))).length ∧ Kp7 T W wr from ⟨by rw [secs7_take_succ hiL HRR.out.1, HRR2.out.1], HRR2.out.2.trans ((Kp7.of (T := T) HW1.out.1 (fun _ _ h => h.elim) (fun _ _ h => h)).trans hKq.out)⟩)
          clear hrq hKq
          gi_wp2
          go_roundw
          case rel => exact ⟨i + 1, p + k, by omega, by go_num, hJs, HK⟩
          case measure => simp [intOf]; omega
    · obtain rfl : i = n := by omega
      gi_wp2
      go_end0
      have hp : p = X.length := by have h1 := hRr.out.1; rw [List.take_of_length_le (by rw [← HN.out.1]; exact Nat.le_refl _)] at h1; rw [h1, HN.out.2.2]
      exact ⟨⟨_, rfl⟩, .inl ⟨_, rfl, by rwa [List.take_of_length_le (by rw [hp]; exact Nat.le_refl _)] at hJs⟩⟩
theorem ItS.below {F : Nat → Prop} {Bp : Nat} {v : Value} {l : List Rn} {w W : World} (h : ItS F Bp v l w) (hF : ∀ k, F k → k < w.heap.size) (hb : Below w.heap.size w W) : ItS F Bp v l W := by
  have h1 := World.block_lt_of_cell? _ _ h.box
  simp only at h1
  exact h.keep (Fr.ofBelow hb) (fun h => by omega) (fun k hk hF' h => by omega)
theorem sectors_stops {T F : Nat → Prop} {d : Nat} (n0 Bp : Nat) (v : Value) (L : List Rn) (hL : ∀ r ∈ L, rnOk d r = true) (hd : d ≤ 8192) (hT1 : ¬ T Bp) (hT2 : ∀ k, F k → ¬ T k) (w : World) (hF : ∀ k, F k → k < w.heap.size) (hR : ItS F Bp v L w) :
    SeqStopsK Fence.wide n0 Try.prog 72 #[.pointer (some ⟨Bp, 0, none⟩)] enc7 (Kp7 T) (fun ys => ys = xs7 d L hL) (fun pre => pre <+: xs7 d L hL) (secs7 L).length w :=
  fun l J Jx W hW hJ hJx hY h0 => sectors1_in n0 l Bp v L hL hd hT1 hT2 _ J Jx hJ hY W (hR.below hF hW) h0
theorem sectors_any (w : World) (ao : Option Addr) (n cap : Nat) :
    Calls Try.prog 50 #[.slice ao n cap] w fun e w' => e = .returned (.func (.func 72) #[] #[.pointer (some ⟨w.heap.size, 0, none⟩)]) ∧ w' = w.alloc (.cells #[.slice ao n cap] 24) := by
  go_enter Try.func50, Try.ntmps50
  go_wp2
  go_ret
  exact ⟨rfl, rfl⟩
end Go.Proofs.Ytcbbcihfooaggaa
namespace Go.Proofs.Ytcbbcihfooaggaa
open Go.RowKit Go.ChangeShapes
set_option linter.unusedVariables false
theorem results_cell1 {fn : Func} {p : Tmp} {ty : TypeId} (h : fn.results = #[.cell p ty]) (tmps : Array Value) (w : World) (g : Nat) (x : Value) (hT : (isAgg ty).run Try.prog w = .ok false w)
    (hp : tmps.getD p undef = .pointer (some ⟨g, 0, none⟩)) (hx : w.cell? ⟨g, 0, none⟩ = some x) : (results fn tmps).run Try.prog w = .ok x w := by
  have hp' : tmps[p]?.getD undef = .pointer (some ⟨g, 0, none⟩) := by simpa using hp
  simp [results, h, hp', asAddr, loadVar, hT, hx, go_sem]
theorem results_cells2 {fn : Func} {p q : Tmp} {ty tz : TypeId} (h : fn.results = #[.cell p ty, .cell q tz]) (tmps : Array Value) (w : World) (g k : Nat) (x y : Value) (hT : (isAgg ty).run Try.prog w = .ok false w) (hU : (isAgg tz).run Try.prog w = .ok false w)
    (hp : tmps.getD p undef = .pointer (some ⟨g, 0, none⟩)) (hq : tmps.getD q undef = .pointer (some ⟨k, 0, none⟩)) (hx : w.cell? ⟨g, 0, none⟩ = some x) (hy : w.cell? ⟨k, 0, none⟩ = some y) : (results fn tmps).run Try.prog w = .ok (.tuple #[x, y]) w := by
  have hp' : tmps[p]?.getD undef = .pointer (some ⟨g, 0, none⟩) := by simpa using hp
  have hq' : tmps[q]?.getD undef = .pointer (some ⟨k, 0, none⟩) := by simpa using hq
  simp [results, h, hp', hq', asAddr, loadVar, hT, hU, hx, hy, go_sem]
def markOf (k : Nat) : Deferred := { target := .collected k, args := #[] }
structure MarksOk (z : Nat) (Ds : List Deferred) (ks : List Nat) (W : World) : Prop where
  eq : Ds = ks.map markOf
  nodup : ks.Nodup
  block : ∀ k ∈ ks, z ≤ k ∧ W.heap[k]? = some (.deferred (some []))
theorem MarksOk.nil (z : Nat) (W : World) : MarksOk z [] [] W := ⟨rfl, List.nodup_nil, fun _ h => by cases h⟩
def MarkB (z : Nat) (W : World) (k : Nat) : Prop := z ≤ k ∧ ∃ ds, W.heap[k]? = some (.deferred ds)
theorem MarksOk.keep {z : Nat} {Ds : List Deferred} {ks : List Nat} {S : Nat → Prop} {W W' : World} (h : MarksOk z Ds ks W) (hf : Fr S W W') (hS : ∀ k ds, W.heap[k]? = some (.deferred ds) → ¬ S k) : MarksOk z Ds ks W' :=
  ⟨h.eq, h.nodup, fun k hk => ⟨(h.block k hk).1, hf.heap (h.block k hk).2 (hS k _ (h.block k hk).2)⟩⟩
theorem MarksOk.quiet {z : Nat} {Ds : List Deferred} {ks : List Nat} {W W' : World} (h : MarksOk z Ds ks W) (hf : Fr (fun _ => False) W W') : MarksOk z Ds ks W' := h.keep hf (fun _ _ _ h => h)
theorem MarksOk.lt {z : Nat} {Ds : List Deferred} {ks : List Nat} {W : World} (h : MarksOk z Ds ks W) {k : Nat} (hk : k ∈ ks) : k < W.heap.size := lt_of_block (h.block k hk).2
theorem MarksOk.cons {z : Nat} {Ds : List Deferred} {ks : List Nat} {W : World} {D : Nat} (h : MarksOk z Ds ks W) (hz : z ≤ D) (hD : W.heap[D]? = some (.deferred (some []))) (hn : D ∉ ks) : MarksOk z ({ target := .collected D, args := #[] } :: Ds) (D :: ks) W :=
  ⟨by rw [h.eq]; rfl, List.nodup_cons.2 ⟨hn, h.nodup⟩, fun k hk => by
    rcases List.mem_cons.1 hk with rfl | hk
    · exact ⟨hz, hD⟩
    · exact h.block k hk⟩
theorem MarksOk.grown {z B : Nat} {Ds : List Deferred} {ks : List Nat} {W W' : World} {row : Option Nat} (h : MarksOk z Ds ks W) (hb : ∀ k ∈ ks, k < B) (hg : W.grownBy W' row) (hr : ∀ r, row = some r → B ≤ r ∧ ∃ o : Obj, W.heap[r]? = some o ∧ o.isCells = false) : MarksOk z Ds ks W' :=
  ⟨h.eq, h.nodup, fun k hk => ⟨(h.block k hk).1, by
    rw [hg.block k (h.lt hk) (fun e => by have := (hr k e.symm).1; have := hb k hk; omega)]
    exact (h.block k hk).2⟩⟩
theorem leaves_marks {F : Fence} {n : Nat} {fn : Func} {tmps : Array Value} {R : Ending → World → Prop} {u : FrameMode} (hu : u ≠ .run) (z : Nat) : ∀ (ks : List Nat) (Ds : List Deferred) (W : World), MarksOk z Ds ks W →
    (∀ W', Fr (MarkB z W) W W' → LeavesIn F n Try.prog fn tmps R [] u W') → LeavesInM F n Try.prog fn tmps R Ds u W
  | [], Ds, W, h, hR => by
    rw [h.eq]
    exact hR W (Fr.refl _ _)
  | k :: ks, Ds, W, h, hR => by
    rw [h.eq]
    obtain ⟨hz, hk⟩ := h.block k List.mem_cons_self
    have hn := List.nodup_cons.1 h.nodup
    have hf := fr_putObj (T := (· = k)) W k (.deferred none) rfl
    refine ⟨hu, .inl ⟨k, _, rfl, run_takeDeferred hk, ?_⟩⟩
    refine leaves_marks hu z ks _ _ ⟨rfl, hn.2, fun j hj => ?_⟩ (fun W' hW => hR W' ?_)
    · obtain ⟨h1, h2⟩ := h.block j (List.mem_cons_of_mem _ hj)
      exact ⟨h1, hf.heap h2 (fun e => hn.1 (e ▸ hj))⟩
    · have hf2 : Fr (MarkB z W) W (W.putObj k (.deferred none)) := hf.mono (fun i _ e => by rw [show i = k from e]; exact ⟨hz, _, hk⟩)
      refine hf2.trans hW (fun i hi => ?_)
      obtain ⟨h1, ds, h2⟩ := hi
      by_cases hlt : i < W.heap.size
      · by_cases e : i = k
        · rw [e]; exact .inl ⟨hz, _, hk⟩
        · rw [hf.block i hlt e] at h2
          exact .inl ⟨h1, ds, h2⟩
      · exact .inr (by omega)
theorem one_cell {w : World} {b : Nat} {x : Value} {T : TypeId} (h : w.heap[b]? = some (.cells #[x] T (0, 0))) : w.cell? ⟨b, 0, none⟩ = some x ∧ w.frozen? ⟨b, 0, none⟩ = false := ⟨cell_of_one h, by simp [World.frozen?, h]⟩
theorem one_put {w : World} {b : Nat} {x : Value} {T : TypeId} (h : w.heap[b]? = some (.cells #[x] T (0, 0))) (u : Value) : (w.setCell ⟨b, 0, none⟩ u).heap[b]? = some (.cells #[u] T (0, 0)) := cell_put (i := 0) u h
theorem one_put2 {w : World} {b k : Nat} {x y : Value} {T U : TypeId} (h : w.heap[b]? = some (.cells #[x] T (0, 0))) (hk : w.heap[k]? = some (.cells #[y] U (0, 0))) (hne : b ≠ k) (u : Value) : (w.setCell ⟨b, 0, none⟩ u).heap[k]? = some (.cells #[y] U (0, 0)) :=
  (Fr.cell1 w b 0 u).heap hk (fun e => hne e.symm)
end Go.Proofs.Ytcbbcihfooaggaa
namespace Go.Proofs.Ytcbbcihfooaggaa
open Go.RowKit
set_option linter.unusedVariables false
section
variable {P : Program}
theorem Oper.wpIn_of_wp {F : Fence} {n : Nat} (hF : WideF F) {o : Oper} (hd : ∀ c, o.op ≠ Op.defer c) {a : Act} {w : World} {K : Act → World → Prop} {Q : Exit → Act → World → Prop} (h : o.wp P a w K Q) : o.wpIn F n P a w K Q := by
  refine ⟨fun f _ => hF.fn f, ?_⟩
  rw [Oper.semAt_plain F _ _ hd]
  unfold Oper.wp at h
  generalize (execOp a.eval o).run P w = r at *
  cases r with
  | ok m w' =>
    cases m
    case value v => exact h
    case skip => exact h
    case defer d => exact h
    case enter f args =>
      refine ⟨fun hx => hF.free hx, hF.calls (Calls.mono h fun e w2 he => ?_)⟩
      cases e <;> exact he
    case row r args =>
      refine ⟨fun hx => hF.free hx, ?_⟩
      cases hF with
      | out =>
        intro c cs _
        obtain ⟨v, w2, hr, hs⟩ := h c cs
        exact ⟨v, w2, hr, stepsIn_wide.2 hs⟩
      | round l =>
        intro c cs _
        obtain ⟨v, w2, hr, hs⟩ := h c cs
        exact ⟨v, w2, hr, stepsIn_wide.2 hs⟩
    all_goals exact absurd h (by simp [Oper.upon])
  | halt x w' =>
    cases x <;> first | exact h | exact absurd h (by simp [Oper.upon])
theorem wpIn_region_inv {F : Fence} {fl : Nat} (hF : WideF F) {id : Nat} {Q : Exit → Act → World → Prop} {a : Act} {w : World} {l : List Oper} (n : Nat) (hm : P.follows .mixedOrders = true) (hdf : ∀ (i : Nat) (o : Oper), l[i]? = some o → ∀ c, o.op ≠ Op.defer c) (hB : invB l n a.tmps.size = true)
    (B : World → Prop) (R : Nat → Value → World → Prop) (D : Nat → Nat → Value → Value → Prop) (Ext : World → World → Prop) (hext : ∀ j u w w', Ext w w' → R j u w → R j u w') (hB0 : B w.drew)
    (hstep : ∀ i, i < n → ∀ o, l[i]? = some o → InvStep P l n Q B R D Ext a i o)
    (htail : ∀ vs w', B w' → (∀ i, i < n → R i (vs i) w') → (∀ i j, i < n → j < n → i ≠ j → D i j (vs i) (vs j) ∨ D j i (vs j) (vs i)) → wpListIn F fl P l.toArray Q (l.drop n) (acts l (fun _ => true) vs a n) w') : (Code.region id l.toArray true).wpIn F fl P Q a w := by
  simp only [invB, Bool.and_eq_true, decide_eq_true_eq, Bool.or_eq_true] at hB
  obtain ⟨⟨⟨⟨hn, hops⟩, hdst⟩, hwait⟩, hseq⟩ := hB
  have hop : ∀ i, i < n → ∃ o, l[i]? = some o ∧ (∀ e ∈ o.after, Region.binds .any e = true → e.on < i) ∧ (∀ d, o.dst = some d → d < a.tmps.size) := by
    intro i hi
    have h := List.all_eq_true.1 hops i (List.mem_range.2 hi)
    cases ho : l[i]? with
    | none => rw [ho] at h; cases h
    | some o =>
      rw [ho] at h
      simp only [Bool.and_eq_true] at h
      obtain ⟨h2, h3⟩ := h
      refine ⟨o, rfl, fun e he hb => ?_, fun d hd => ?_⟩
      · have := Array.all_eq_true_iff_forall_mem.1 h2 e he
        rw [hb] at this
        simpa using this
      · rw [hd] at h3
        simpa using h3
  have hdis : ∀ i j, i < n → j < n → j ≠ i → ∀ d, dstAt l i = some d → dstAt l j ≠ some d := by
    intro i j hi hj hji d hd hd2
    have h := List.all_eq_true.1 (List.all_eq_true.1 hdst i (List.mem_range.2 hi)) j (List.mem_range.2 hj)
    rw [hd, hd2] at h
    simp at h
    omega
  refine wpIn_region_any hm ?_
  have main : ∀ (m : Nat) (listed : Array Bool) (vs : Nat → Value) (w' : World), left n listed = m → HeadInv .any l.toArray n listed → B w' → (∀ i, i < n → listed.getD i false = true → R i (vs i) w') →
      (∀ i j, i < n → j < n → listed.getD i false = true → listed.getD j false = true → i ≠ j → D i j (vs i) (vs j) ∨ D j i (vs j) (vs i)) →
      wpAnyIn F fl P .any l.toArray Q (m + (l.length - n)) listed (acts l (fun i => listed.getD i false) vs a n) w' := by
    intro m
    induction m with
    | zero =>
      intro listed vs w' hl inv hBw hR hD
      have hall : ∀ i, i < n → listed.getD i false = true := fun i hi => by simpa using countP_zero n hl i hi
      have hlisted : listed = (List.replicate n true ++ List.replicate (l.length - n) false).toArray := by
        apply Array.ext
        · rw [inv.size]; simp; omega
        · intro i h1 h2
          have hi : i < l.length := by rw [inv.size] at h1; simpa using h1
          have e1 : listed[i] = listed.getD i false := by simp [h1]
          rw [e1]
          by_cases h : i < n
          · rw [hall i h]
            simp [h]
          · rw [getD_both (inv.tail i (by omega) (by simpa using hi))]
            simp [List.getElem_append, h]
      have hact : acts l (fun i => listed.getD i false) vs a n = acts l (fun _ => true) vs a n := acts_congr n fun j hj => ⟨hall j hj, fun _ => rfl⟩
      rw [hact, Nat.zero_add]
      have hdl : (l.drop n).length = l.length - n := by simp
      rw [← hdl]
      refine wpAnyIn_of_seq (l.drop n) n listed _ w' (fun j => by simp [List.getElem?_drop]) ?_ (htail vs w' hBw (fun i hi => hR i hi (hall i hi)) (fun i j hi hj hij => hD i j hi hj (hall i hi) (hall j hj) hij))
      rw [hdl, hlisted]
      exact hseq
    | succ m ih =>
      intro listed vs w' hl inv hBw hR hD
      have hex : ∃ i, i < n ∧ listed.getD i false = false := by
        by_cases h : ∃ i, i < n ∧ listed.getD i false = false
        · exact h
        · exfalso
          have : left n listed = 0 := by
            unfold left
            rw [List.countP_eq_zero]
            intro i hi
            have hi' := List.mem_range.1 hi
            cases hg : listed.getD i false with
            | true => simp
            | false => exact absurd ⟨i, hi', hg⟩ h
          omega
      obtain ⟨i0, hi0, hun0⟩ := hex
      have hne : Region.ready .any l.toArray listed ≠ [] := by
        obtain ⟨i1, ⟨hi1, hun1⟩, hmin⟩ := least (p := fun i => i < n ∧ listed.getD i false = false) i0 ⟨hi0, hun0⟩
        obtain ⟨o, ho, hback, _⟩ := hop i1 hi1
        have : i1 ∈ Region.ready .any l.toArray listed := by
          refine mem_ready.2 ⟨getD_in (by rw [inv.size]; simp; omega) hun1, o, by simpa using ho, fun e he hb => ?_⟩
          have h1 := hback e he hb
          cases hg : listed.getD e.on false with
          | true => rfl
          | false => exact absurd ⟨by omega, hg⟩ (hmin e.on h1)
        intro h
        rw [h] at this
        cases this
      rw [show m + 1 + (l.length - n) = (m + (l.length - n)) + 1 by omega]
      refine ⟨fun h => absurd h hne, fun i hi => ?_⟩
      have hin : i < n := by
        rcases Nat.lt_or_ge i n with h | h
        · exact h
        · exfalso
          rcases hwait with hw | ⟨⟨hs, hc⟩, hlt⟩
          · obtain ⟨_, o, ho, _⟩ := mem_ready.1 hi
            have := (Array.getElem?_eq_some_iff.1 ho).1
            simp at this
            omega
          · exact tail_waits hs hc (by simpa using hlt) inv _ i0 rfl hi0 (getD_in (by rw [inv.size]; simp; omega) hun0) i h hi
      obtain ⟨hun, o', ho', hall⟩ := mem_ready.1 hi
      obtain ⟨o, ho, hback, hds⟩ := hop i hin
      have : o' = o := by simpa [ho] using ho'.symm
      subst this
      have hdo : dstAt l i = o'.dst := by simp [dstAt, ho]
      have hunf := getD_both hun
      have hst := hstep i hin o' ho (acts l (fun i => listed.getD i false) vs a n) w' vs hBw (acts_size n)
        (fun j t hj ht => by
          obtain ⟨e, he, hb⟩ := Array.any_eq_true'.1 hj
          simp only [Bool.and_eq_true, beq_iff_eq] at hb
          obtain ⟨hb, rfl⟩ := hb
          have h1 := hall e he hb
          have h2 := hback e he hb
          refine ⟨hR e.on (by omega) h1, ?_⟩
          obtain ⟨oe, hoe, _, hde⟩ := hop e.on (by omega)
          exact acts_eval_eq h1 ht (hde t (by simpa [dstAt, hoe] using ht)) n (by omega) (fun j hj hji => hdis e.on j (by omega) hj hji t ht))
        (fun t ht => acts_eval_ne n (fun j hj => by simpa using List.all_eq_true.1 ht j (List.mem_range.2 hj)))
      have hgo : ∀ a' w2, (∃ v, a' = (acts l (fun i => listed.getD i false) vs a n).put o'.dst v ∧ B w2 ∧ Ext w' w2 ∧ R i v w2 ∧ ∀ j u, j < n → j ≠ i → R j u w' → D i j v u) →
          wpAnyIn F fl P .any l.toArray Q (m + (l.length - n)) (listed.setIfInBounds i true) a' w2 := by
        rintro a' w2 ⟨v, rfl, hB2, hE, hRv, hDv⟩
        have hput := acts_put (l := l) (f := fun i => listed.getD i false) (vs := vs) (a0 := a) (i := i) (v := v) hunf n hin (fun j hj hji d hd => hdis i j hin hj hji d hd)
        rw [← hdo, ← hput]
        have hcong : acts l (fun j => if j = i then true else listed.getD j false) (fun j => if j = i then v else vs j) a n = acts l (fun j => (listed.setIfInBounds i true).getD j false) (fun j => if j = i then v else vs j) a n := by
          refine acts_congr n fun j hj => ⟨?_, fun _ => rfl⟩
          by_cases hji : j = i
          · subst hji
            rw [if_pos rfl]
            have : j < listed.size := by rw [inv.size]; simp; omega
            simp [this]
          · rw [if_neg hji, getD_set_ne false (Ne.symm hji)]
        rw [hcong]
        refine ih _ _ w2 ?_ (inv.set hi hin) hB2 (fun j hj hlj => ?_) (fun j k hj hk hlj hlk hjk => ?_)
        · have hsz : i < listed.size := by rw [inv.size]; simp; omega
          have := countP_one (f := fun j => !listed.getD j false) (g := fun j => !(listed.setIfInBounds i true).getD j false) (i := i) (by simp only [hunf]; rfl) (by simp [hsz]) (fun j hj => by simp only [getD_set_ne false (Ne.symm hj)]) n
          rw [if_pos hin] at this
          unfold left at hl ⊢
          omega
        · by_cases hji : j = i
          · subst hji
            rw [if_pos rfl]
            exact hRv
          · rw [if_neg hji]
            rw [getD_set_ne false (Ne.symm hji)] at hlj
            exact hext _ _ _ _ hE (hR j hj hlj)
        · by_cases hji : j = i
          · subst hji
            rw [if_pos rfl, if_neg (Ne.symm hjk)]
            rw [getD_set_ne false hjk] at hlk
            exact .inl (hDv k _ hk (Ne.symm hjk) (hR k hk hlk))
          · rw [if_neg hji]
            rw [getD_set_ne false (Ne.symm hji)] at hlj
            by_cases hki : k = i
            · subst hki
              rw [if_pos rfl]
              exact .inr (hDv j _ hj hji (hR j hj hlj))
            · rw [if_neg hki]
              rw [getD_set_ne false (Ne.symm hki)] at hlk
              exact hD j k hj hk hlj hlk hjk
      unfold wpOpIn
      rw [ho']
      unfold WpG at hst
      simp only
      split
      · rename_i hw
        rw [if_pos hw] at hst
        exact Oper.wpIn_mono (fun a' w2 h => hgo a' w2 h) (Oper.wpIn_of_wp hF (hdf i o' ho) hst)
      · rename_i hw
        rw [if_neg hw] at hst
        exact ⟨fun f _ => hF.fn f, hgo _ _ hst⟩
  have h0 : left n (Array.replicate l.length false) = n := by
    unfold left
    have : ((List.range n).countP fun i => !(Array.replicate l.length false).getD i false) = (List.range n).length := by
      rw [List.countP_eq_length]
      intro i _
      rw [getD_replicate_false]
      rfl
    rw [this, List.length_range]
  have hmain := main n (Array.replicate l.length false) (fun _ => undef) w.drew h0
    ⟨by simp, fun j oj _ hl => (by rw [getD_replicate_false] at hl; cases hl), fun t _ ht => getD_in (by simpa using ht) (getD_replicate_false _ _)⟩ hB0 (fun i _ hl => by rw [getD_replicate_false] at hl; cases hl) (fun i j _ _ hl => by rw [getD_replicate_false] at hl; cases hl)
  have e1 : acts l (fun i => (Array.replicate l.length false).getD i false) (fun _ => undef) a n = a := by
    have : ∀ k, acts l (fun i => (Array.replicate l.length false).getD i false) (fun _ => undef) a k = a := by
      intro k
      induction k with
      | zero => rfl
      | succ k ih => unfold acts; rw [if_neg (by rw [getD_replicate_false]; decide), ih]
    exact this n
  rw [e1, show n + (l.length - n) = l.length by omega] at hmain
  exact hmain
end
end Go.Proofs.Ytcbbcihfooaggaa
