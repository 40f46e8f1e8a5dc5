/- Laid together: BReadA RDev5 RDev6 RDev7 Cut64 Mark FlatLib RRead -/
import Derived.Test.YtcbbcihfooaggaaBe17
import Derived.Test.YtcbbcihfooaggaaBe3
import Derived.Laws.Tables
import Derived.Test.YtcbbcihfooaggaaBe1
import Derived.Test.YtcbbcihfooaggaaBe6
import Derived.StillTailTactics
import Derived.Test.YtcbbcihfooaggaaBe0
import Derived.ArgAppend
import Derived.Test.YtcbbcihfooaggaaBe7

namespace Go.Proofs.Ytcbbcihfooaggaa
open Go.RowKit Go.ChangeShapes
set_option linter.unusedVariables false
def rdA (s : Nat) (dv : Dv) (L A D many : Int) (l : List Rn) : Int × List UInt8 := if fit7 s L A D many l = 0 then ((dv.rd7 s (1 + L + 2 * A).toNat (secs7 l)).1, (dv.rd7 s (1 + L + 2 * A).toNat (secs7 l)).2.take many.toNat) else (fit7 s L A D many l, [])
set_option maxRecDepth 100000 in
set_option maxHeartbeats 4000000 in
theorem bRead_no {D F : Nat → Prop} (w : World) (g s : Nat) (dv : Dv) (L A Dt many : Int) (v : Value) (l : List Rn) (h : DevAt w D g s dv) (hs1 : 1 ≤ s) (hs2 : s ≤ 8192) (hm1 : -9223372036854775808 ≤ many) (hm2 : many ≤ 9223372036854775807) (hL : RnsIn F w v l) (hF : ∀ k, F k → k < w.heap.size) (hr : fit7 s L A Dt many l = 2) :
    CallsIn Fence.wide 3 Try.prog 28 #[.pointer (some ⟨g, 0, none⟩), .agg #[.int .i64 L, .int .i64 A, .int .i64 Dt], .int .i64 many, v] w (ReadP w (2, [])) := by
  refine callsIn_of_wp_marks Try.func28 rfl trivial ?_ rfl
  simp only [Try.ntmps28, List.size_toArray, List.length_cons, List.length_nil, Nat.reduceAdd, Nat.reduceSub, Array.replicate_succ, Array.replicate_zero, List.push_toArray, List.append_toArray, List.nil_append, List.cons_append]
  obtain ⟨ao, cap, rfl, hc1, hc2, -⟩ := hL.open7
  obtain ⟨nl, hnl⟩ : ∃ nl, nl = l.length := ⟨_, rfl⟩
  rw [← hnl] at hL hc1 ⊢
  have hft := fun (W : World) (hW : Fr (fun _ => False) w W) => WideF.out.calls (n := 2) (fits_any (F := fun k => F k ∧ k < w.heap.size) W g s dv L A Dt many _ l (h.keep hW (fun _ _ _ h => h)) hs1 hs2 hm1 hm2 ((hL.mono (fun k hk h => ⟨h, hk⟩)).quiet hW) (fun k hk => by have := hk.2; have := hW.size; omega))
  rw [hr] at hft
  have HFT := Lib.hid hft
  obtain ⟨k4, k5, k6, k8, k9⟩ := heap5_new w (.cells #[.pointer (some ⟨g, 0, none⟩)] 43) (.cells #[.int .i64 L, .int .i64 A, .int .i64 Dt] 23) (.cells #[.int .i64 many] 3) (.cells #[.slice none 0 0] 40) (.cells #[.int .i64 0] 27)
  have hne : w.heap.size + 1 + 1 + 1 ≠ w.heap.size + 1 + 1 + 1 + 1 := by omega
  have HK := Lib.hid (And.intro k8 (And.intro k9 hne))
  clear k4 k5 k6 k8 k9 hft hr hL hF h hs1 hs2 hnl hne
  gi_wp2_with (refine ⟨trivial, ?_⟩; gi_at_call 48; refine (HFT.out _ ((((((Fr.refl (fun _ => False) w).alloc _).alloc _).alloc _).alloc _).alloc _)).mono ?_; rintro e w2 ⟨rfl, hf2⟩; (have h8 := hf2.heap HK.out.1 id); (have h9 := hf2.heap HK.out.2.1 id); (obtain ⟨e8, q8⟩ := one_cell h8); (obtain ⟨e9, q9⟩ := one_cell (one_put2 h8 h9 HK.out.2.2 (.slice none 0 0))); (have H2 := Lib.hid (And.intro h8 (And.intro h9 hf2))); clear h8 h9 hf2)
  have hf2 : Fr (fun _ => False) w w2 := ((((((Fr.refl (fun _ => False) w).alloc _).alloc _).alloc _).alloc _).alloc _).trans H2.out.2.2 (fun _ h => h.elim)
  have hf9 : Fr (fun _ => False) w ((w2.setCell ⟨w.heap.size + 1 + 1 + 1, 0, none⟩ (.slice none 0 0)).setCell ⟨w.heap.size + 1 + 1 + 1 + 1, 0, none⟩ (.int .i64 2)) :=
    (hf2.trans (Fr.cell1 w2 (w.heap.size + 1 + 1 + 1) 0 (.slice none 0 0)) (fun k e => .inr (by have : k = w.heap.size + 1 + 1 + 1 := e; omega))).trans (Fr.cell1 _ (w.heap.size + 1 + 1 + 1 + 1) 0 (.int .i64 2)) (fun k e => .inr (by have : k = w.heap.size + 1 + 1 + 1 + 1 := e; omega))
  have ho : RdOut ((w2.setCell ⟨w.heap.size + 1 + 1 + 1, 0, none⟩ (.slice none 0 0)).setCell ⟨w.heap.size + 1 + 1 + 1 + 1, 0, none⟩ (.int .i64 2)) ((w2.setCell ⟨w.heap.size + 1 + 1 + 1, 0, none⟩ (.slice none 0 0)).setCell ⟨w.heap.size + 1 + 1 + 1 + 1, 0, none⟩ (.int .i64 2)) (w.heap.size + 1 + 1 + 1) (w.heap.size + 1 + 1 + 1 + 1) w.heap.size w.heap.size (.slice none 0 0) (2, []) :=
    ⟨(Fr.cell1 _ (w.heap.size + 1 + 1 + 1 + 1) 0 _).heap (one_put H2.out.1 _) HK.out.2.2, one_put (one_put2 H2.out.1 H2.out.2.1 HK.out.2.2 (.slice none 0 0)) _, OwnB.nil _ _, Fr.refl _ _⟩
  exact ho.leave (MarksOk.nil _ _) rfl rfl hf9 (by omega) (fun W' hd hf => ⟨_, rfl, hd, hf⟩)
theorem bRead_any {D F : Nat → Prop} (w : World) (g s : Nat) (dv : Dv) (L A Dt many : Int) (v : Value) (l : List Rn) (h : DevAt w D g s dv) (hs1 : 1 ≤ s) (hs2 : s ≤ 8192) (hn6 : dv.waits.length ≤ 1000000) (hm1 : -9223372036854775808 ≤ many) (hm2 : many ≤ 9223372036854775807) (hL : RnsIn F w v l) (hF : ∀ k, F k → k < w.heap.size) :
    Calls Try.prog 28 #[.pointer (some ⟨g, 0, none⟩), .agg #[.int .i64 L, .int .i64 A, .int .i64 Dt], .int .i64 many, v] w (ReadP w (rdA s dv L A Dt many l)) := by
  rcases fit7_cases s L A Dt many l with hr | ⟨hr, hap, hm, hc, hS⟩
  · have e : rdA s dv L A Dt many l = (2, []) := by unfold rdA; rw [hr, if_neg (by decide)]
    rw [e]
    exact callsIn_wide.1 (bRead_no w g s dv L A Dt many v l h hs1 hs2 hm1 hm2 hL hF hr)
  · obtain ⟨l0, la, d, s0, rfl, rfl, rfl, hs, hap0⟩ := ap7_open hap
    have hsec : secsS (l0 : Int) la d = s0 := by
      unfold secsS
      rw [if_pos (by unfold ap7 at hap; rw [Bool.and_eq_true] at hap; exact hap.1), hs.sum]
      push_cast
      rfl
    obtain ⟨mn, rfl⟩ : ∃ mn : Nat, many = mn := ⟨many.toNat, by omega⟩
    have hcn := apart7_le hap0
    have hd : d ≤ 8192 := by have := hs.sum; have := hs.most; omega
    rw [need7_nat] at hc
    have e : rdA s dv l0 la d mn l = ((dv.rd7 s (1 + l0 + 2 * la) (secs7 l)).1, (dv.rd7 s (1 + l0 + 2 * la) (secs7 l)).2.take mn) := by
      unfold rdA
      rw [if_pos hr]
      have e1 : (1 + (l0 : Int) + 2 * (la : Int)).toNat = 1 + l0 + 2 * la := by omega
      rw [e1, Int.toNat_natCast]
    rw [e]
    exact callsIn_wide.1 (bRead_yes w g s dv l0 la d s0 mn v l h hs1 hs2 hn6 (by omega) hL hF hs (by omega) hap0 hr)
end Go.Proofs.Ytcbbcihfooaggaa
namespace Go.Proofs.Ytcbbcihfooaggaa
open Go.RowKit Go.ChangeShapes
set_option linter.unusedVariables false
theorem flatW_snoc (p : Pend) (g : Nat) : ∀ (W : List Pend) (gs : List Nat), gs.length = W.length → flatW (W ++ [p]) (gs ++ [g]) = flatW W gs ++ pendC p g
  | [], [], _ => by simp [flatW]
  | q :: W, x :: gs, h => by
    rw [List.cons_append, List.cons_append, flatW, flatW, flatW_snoc p g W gs (by simpa using h), List.append_assoc]
  | [], g :: gs, h => by simp at h
  | p :: W, [], h => by simp at h
theorem Try.infoW : (Try.prog.info? 107).map (fun i => (i.zero, i.size, i.bytes)) = some (some (.agg #[.int .i64 0, .slice none 0 0]), 2, 32) := by kernel_rfl
theorem run_append_pend {F : Nat → Prop} (w : World) (ty : TypeId) (v : Value) (W : List Pend) (p : Pend) (g b : Nat) (hP : PendAt F w v W) (hb : w.heap[b]? = some (.cells (pendC p g).toArray 107 (0, 0))) (hg : BytT w g 5 p.2) (hn : W.length + 1 ≤ 1000000) :
    ∃ v' w', (Builtin.append_ #[59, 59] ty #[v, .slice (some ⟨b, 0, none⟩) 1 1]).run Try.prog w = .ok v' w' ∧ PendAt (fun k => F k ∨ w.heap.size ≤ k ∨ k = g) w' v' (W ++ [p]) ∧ w.grownBy w' v.ownBlock ∧ (v'.ownBlock = v.ownBlock ∨ v'.ownBlock = some w.heap.size) := by
  obtain ⟨gs, h1, h2, h3, h4⟩ := hP
  obtain ⟨i0, hi, hz0, hz1, hz2⟩ := info_parts Try.infoW
  obtain ⟨v', w', hr, k2, k3, k4, k5⟩ := run_append_own_at (P := Try.prog) w 0 59 ty 107 i0 (.agg #[.int .i64 0, .slice none 0 0]) 2 32 Try.underlying59 hi hz0 hz1 hz2 rfl (by decide) v W.length _ h2 ⟨b, 0, none⟩ 1 1 (pendC p g)
    rfl (fun j u hu => by
      rw [addr_plain, Nat.zero_add, cell_of_row _ _ _ _ _ _ hb]
      simpa using hu) (fun u hu => by simp [pendC] at hu; rcases hu with rfl | rfl <;> rfl) (by unfold maxLen; omega) (by omega) (Nat.zero_le _)
  have hother : ∀ x L, BytT w x 5 L → v.ownBlock ≠ some x := by
    intro x L hx e
    rcases h2.2 with ⟨hv, _⟩ | ⟨gv, cap, cur, hv, _, hgv, _⟩
    · rw [hv] at e; simp [Value.ownBlock] at e
    · rw [hv] at e
      simp [Value.ownBlock] at e
      subst e
      rw [BytT, hgv] at hx
      simp at hx
  have hkept : ∀ x L, BytT w x 5 L → BytT w' x 5 L := fun x L hx => (k3.block x (lt_of_block hx) (Ne.symm (hother x L hx))).trans hx
  refine ⟨v', w', hr, ⟨gs ++ [g], by simp [h1], ?_, ?_, fun i hi1 hi2 => ?_⟩, k3, k5⟩
  · rw [List.length_append, List.length_singleton, flatW_snoc p g W gs h1]
    exact k2
  · intro x hx
    rcases k5 with k5 | k5
    · exact .inl (h3 x (by rw [← k5, hx]))
    · rw [hx] at k5
      exact .inr (.inl (by have := Option.some.inj k5; omega))
  · by_cases hlt : i < W.length
    · have e1 : (W ++ [p])[i] = W[i] := List.getElem_append_left hlt
      have e2 : (gs ++ [g])[i] = gs[i]'(by omega) := List.getElem_append_left (by omega)
      rw [e1, e2]
      exact ⟨hkept _ _ (h4 i hlt (by omega)).1, .inl (h4 i hlt (by omega)).2⟩
    · have hiW : i = W.length := by simp at hi1; omega
      subst hiW
      have e1 : (W ++ [p])[W.length] = p := by simp
      have e2 : (gs ++ [g])[W.length]'hi2 = g := by simp [← h1]
      rw [e1, e2]
      exact ⟨hkept _ _ hg, .inr (.inr rfl)⟩
end Go.Proofs.Ytcbbcihfooaggaa
namespace Go.Proofs.Ytcbbcihfooaggaa
open Go.RowKit Go.ChangeShapes
set_option linter.unusedVariables false
set_option maxRecDepth 100000 in
theorem run_copy_full {G : Nat → Prop} (w : World) (ty : TypeId) (gf : Nat) (vb : Value) (b : List UInt8) (hz : BytT w gf 5 (List.replicate 64 0)) (hb : BytesIn G w vb b) (hl : b.length ≤ 64) :
    ∃ v w', (Builtin.copy_ #[40, 40] ty #[.slice (some ⟨gf, 0, none⟩) 64 64, vb]).run Try.prog w = .ok v w' ∧ BytT w' gf 5 (full64 b) ∧ Fr (· = gf) w w' := by
  obtain ⟨ao, cap, rfl, h1, h2, h3, h4⟩ := hb
  cases ao with
  | none =>
    have hb0 : b = [] := List.eq_nil_of_length_eq_zero (by have := h3 rfl; omega)
    subst hb0
    obtain rfl := h3 rfl
    exact ⟨_, w, run_copy_nil (P := Try.prog) w 40 40 ty 5 ⟨gf, 0, none⟩ 64 64 Try.underlying40 (by kernel_rfl), hz, Fr.refl _ _⟩
  | some ad =>
    have hr := run_copy_row (P := Try.prog) w 40 40 ty 5 gf 0 64 64 ad b.length cap ((List.replicate 64 (0 : UInt8)).map bv).toArray 5 (b.map bv) Try.underlying40 (by kernel_rfl) hz (by rw [List.length_map]; exact (Nat.min_eq_left hl).symm)
      (h4 ad rfl).1 (by simp; exact hl) (bv_one _)
    have e : (((List.replicate 64 (0 : UInt8)).map bv).toArray.toList.take 0 ++ b.map bv ++ ((List.replicate 64 (0 : UInt8)).map bv).toArray.toList.drop (0 + (b.map bv).length)).toArray = ((full64 b).map bv).toArray := by
      rw [full64, List.map_append, List.take_zero, List.nil_append, Nat.zero_add, List.length_map]
      congr 2
      rw [← List.map_drop, List.drop_replicate]
    rw [e] at hr
    exact ⟨_, _, hr, setRow_heap w gf _ _ _ (0, 0) hz, (Fr.refl (· = gf) w).setRow (.inl rfl) _⟩
theorem wpList_copy_full {G : Nat → Prop} (w : World) {ops : Array Oper} {rest : List Oper} {o : Oper} {a : Act} {Q : Exit → Act → World → Prop} (hgd : o.guard = none) (d s : Operand)
    (hop : o.op = Op.call { callee := Callee.builtin Builtin.copy, args := #[d, s], argTypes := #[40, 40] })
    (gf : Nat) (vb : Value) (b : List UInt8) (hd : a.eval d = .slice (some ⟨gf, 0, none⟩) 64 64) (hs : a.eval s = vb) (hz : BytT w gf 5 (List.replicate 64 0)) (hb : BytesIn G w vb b) (hl : b.length ≤ 64)
    (hK : ∀ v' w', BytT w' gf 5 (full64 b) → Fr (· = gf) w w' → wpList Try.prog ops Q rest (a.put o.dst v') w') : wpList Try.prog ops Q (o :: rest) a w := by
  refine wpList_plain hgd fun K hK' => ?_
  subst hs
  obtain ⟨v', w', hr, h1, h2⟩ := run_copy_full w o.type gf _ b hz hb hl
  unfold Oper.wp
  simp [execOp, hop, resolve, invoke, builtin, hd, hr, Result.andThen]
  exact hK' _ _ (hK v' w' h1 h2)
theorem wpList_append_pend {F : Nat → Prop} (w : World) {ops : Array Oper} {rest : List Oper} {o : Oper} {a : Act} {Q : Exit → Act → World → Prop} (hgd : o.guard = none) (s x : Operand)
    (hop : o.op = Op.call { callee := Callee.builtin Builtin.append, args := #[s, x], argTypes := #[59, 59] })
    (v : Value) (W : List Pend) (p : Pend) (g b : Nat) (hs : a.eval s = v) (hx : a.eval x = .slice (some ⟨b, 0, none⟩) 1 1) (hP : PendAt F w v W) (hb : w.heap[b]? = some (.cells (pendC p g).toArray 107 (0, 0))) (hg : BytT w g 5 p.2) (hn : W.length + 1 ≤ 1000000)
    (hK : ∀ v' w', PendAt (fun k => F k ∨ w.heap.size ≤ k ∨ k = g) w' v' (W ++ [p]) → w.grownBy w' v.ownBlock → (v'.ownBlock = v.ownBlock ∨ v'.ownBlock = some w.heap.size) → wpList Try.prog ops Q rest (a.put o.dst v') w') : wpList Try.prog ops Q (o :: rest) a w := by
  refine wpList_plain hgd fun K hK' => ?_
  subst hs
  obtain ⟨v', w', hr, h1, h2, h3⟩ := run_append_pend w o.type _ W p g b hP hb hg hn
  unfold Oper.wp
  simp [execOp, hop, resolve, invoke, builtin, hx, hr, Result.andThen]
  exact hK' _ _ (hK v' w' h1 h2 h3)
theorem run_build_pend (w : World) (a : Int) (g : Nat) : (Instr.buildSlice 59 1 #[(0, .agg #[.int .i64 a, .slice (some ⟨g, 0, none⟩) 64 64])]).run Try.prog w = .ok (.slice (some ⟨w.heap.size, 0, none⟩) 1 1) (w.alloc (.cells #[.int .i64 a, .slice (some ⟨g, 0, none⟩) 64 64] 107)) := by kernel_rfl
theorem PendAt.mono {F G : Nat → Prop} {w : World} {v : Value} {W : List Pend} (h : PendAt F w v W) (hd : ∀ k, F k → G k) : PendAt G w v W := by
  obtain ⟨gs, h1, h2, h3, h4⟩ := h
  exact ⟨gs, h1, h2, fun g hg => hd g (h3 g hg), fun i hi hi2 => ⟨(h4 i hi hi2).1, hd _ (h4 i hi hi2).2⟩⟩
theorem PendAt.own {F : Nat → Prop} {w : World} {v : Value} {W : List Pend} (h : PendAt F w v W) : ∀ g, v.ownBlock = some g → F g := by
  obtain ⟨gs, h1, h2, h3, h4⟩ := h
  exact h3
theorem rWrite_down (w : World) (g : Nat) (va vw vb : Value) (k l a : Int) (h : DevH w g va vw k l true) :
    Calls Try.prog 54 #[.pointer (some ⟨g, 0, none⟩), .int .i64 a, vb] w fun e w' => e = .returned (.int .i64 10) ∧ w = w' := by
  obtain ⟨_, _, _, _, h4⟩ := h.cells
  clear h
  go_enter Try.func54, Try.ntmps54
  go_wp2
  go_ret
  exact ⟨rfl, rfl⟩
set_option maxRecDepth 100000 in
set_option maxHeartbeats 4000000 in
theorem rWrite_ok {F G : Nat → Prop} (w : World) (g ga s a : Nat) (vw vb : Value) (Wt : List Pend) (b : List UInt8) (k l : Int) (h : DevH w g (.slice (some ⟨ga, 0, none⟩) (64 * s) (64 * s)) vw k l false) (hP : PendAt F w vw Wt) (hb : BytesIn G w vb b) (hGw : ∀ i, G i → i < w.heap.size ∧ i ≠ g) (hbl : b.length ≤ 64) (ha : a < s) (hs : s ≤ 8192) (hgF : ¬ F g)
    (hk0 : 0 ≤ k) (hk : k ≤ 1000000000) (hl0 : 0 ≤ l) (hll : l ≤ 9223372036854775807) (hl1 : l ≠ 1) (hn6 : Wt.length + 1 ≤ 1000000) :
    Calls Try.prog 54 #[.pointer (some ⟨g, 0, none⟩), .int .i64 a, vb] w fun e w' => e = .returned (.int .i64 0) ∧ ∃ vw', DevH w' g (.slice (some ⟨ga, 0, none⟩) (64 * s) (64 * s)) vw' (k + 1) (if l = 0 then 0 else l - 1) false ∧ PendAt (fun i => F i ∨ w.heap.size ≤ i) w' vw' (Wt ++ [(a, full64 b)]) ∧ Fr (fun i => i = g ∨ F i) w w' := by
  obtain ⟨ab, cb, hvb, _, _⟩ : ∃ ao cap, vb = .slice ao b.length cap ∧ True ∧ True := by obtain ⟨x, y, hx, _⟩ := hb; exact ⟨x, y, hx, trivial, trivial⟩
  subst hvb
  have hsec := fun W vw k l dn h => rSectors_any W g (some ⟨ga, 0, none⟩) s (64 * s) vw k l dn h hs
  have hd0 := rdeed_any w g (.slice (some ⟨ga, 0, none⟩) (64 * s) (64 * s)) vw k l false hk0 hk hl0 hll h
  rw [decide_eq_true hl1, if_neg hl1, if_neg hl1] at hd0
  have hs0 := hsec w vw k l false h
  obtain ⟨m, hm⟩ : ∃ m : Nat, m = 64 * s := ⟨_, rfl⟩
  rw [← hm] at h hd0 ⊢
  obtain ⟨l', hl'⟩ : ∃ x : Int, x = if l = 0 then 0 else l - 1 := ⟨_, rfl⟩
  rw [← hl'] at hd0 ⊢
  obtain ⟨Z, hZ⟩ : ∃ Z, Z = ((List.replicate 64 (0 : UInt8)).map bv).toArray := ⟨_, rfl⟩
  have hmk := fun W => run_make_bytes W 64 64 rfl (by decide)
  rw [← hZ] at hmk
  obtain ⟨_, _, _, _, c4⟩ := h.cells
  obtain ⟨q, hq⟩ : ∃ q, q = b.length := ⟨_, rfl⟩
  have d1 : decide ((a : Int) < 0) = false := by rw [decide_eq_false_iff_not]; omega
  have d2 : decide ((s : Int) ≤ (a : Int)) = false := by rw [decide_eq_false_iff_not]; omega
  have d3 : decide (64 < (q : Int)) = false := by rw [decide_eq_false_iff_not]; omega
  have d4 : decide (s ≤ a) = false := by rw [decide_eq_false_iff_not]; omega
  have d5 : decide (64 < q) = false := by rw [decide_eq_false_iff_not]; omega
  have d6 : ¬ s ≤ a := by omega
  have d7 : ¬ 64 < q := by omega
  have HB := Lib.hid hb
  rw [← hq] at HB ⊢
  have HD := Lib.hid hd0
  have HS := Lib.hid hs0
  have HZ := Lib.hid hZ
  have HX := Lib.hid (And.intro hP (And.intro hGw (And.intro hbl (And.intro hgF hn6))))
  have HQ := Lib.hid hq
  have HGL := Lib.hid (lt_of_block h)
  clear hsec hd0 hs0 hm hl' hZ hP hGw hbl hgF hn6 h hq hb hk0 hk hl0 hll hl1 ha hs
  go_enter Try.func54, Try.ntmps54
  go_wp2_with (first
    | (go_at_call 76; (with_reducible refine HS.out.mono ?_); rintro e w0 ⟨rfl, rfl⟩)
    | (go_at_call 78; (with_reducible refine HD.out.mono ?_); rintro e w1 ⟨rfl, hh, hf⟩; (have HH := Lib.hid hh); (have HF := Lib.hid hf); (have HZ1 := Lib.hid (show BytT (w1.alloc (.cells Z 5)) w1.heap.size 5 (List.replicate 64 0) by rw [HZ.out]; exact heap_alloc_new w1 _)); (have HB1 := Lib.hid ((HB.out.keep hf (fun i hi hg e => (HX.out.2.1 i hg).2 e)).keep ((Fr.refl (fun _ => False) w1).alloc (.cells Z 5)) (fun _ _ _ h => h))); clear hh hf)
    | (refine wpList_copy_full (G := G) (w1.alloc (.cells Z 5)) rfl (.tmp 29) (.tmp 30) rfl w1.heap.size (.slice ab q cb) b rfl rfl HZ1.out HB1.out HX.out.2.2.1 ?_; intro v2 w2 hb2 hf2; (have HB2 := Lib.hid hb2); (have HF2 := Lib.hid (show Fr (fun _ => False) w1 w2 from ((Fr.refl (fun _ => False) w1).alloc (.cells Z 5)).trans hf2 (fun i e => .inr (by rw [show i = _ from e]; exact Nat.le_refl _)))); (have HH2 := Lib.hid (HH.out.keep HF2.out (fun h => h))); (have HP2 := Lib.hid ((HX.out.1.keep HF.out (fun i _ hi e => HX.out.2.2.2.1 (e ▸ hi))).keep HF2.out (fun _ _ _ h => h))); (have c1 := HH2.out.cells.2.1); clear hb2 hf2; (have HGF := Lib.hid (show w.heap.size ≤ w1.heap.size from HF.out.size)); (have HG2 := Lib.hid (show w1.heap.size ≤ w2.heap.size from HF2.out.size)); generalize w1.heap.size = gf at *)
    | (refine wpList_one rfl 59 (.tmp 39) rfl (.agg #[.int .i64 a, .slice (some ⟨gf, 0, none⟩) 64 64]) (.slice (some ⟨w2.heap.size, 0, none⟩) 1 1) (w2.alloc (.cells #[.int .i64 a, .slice (some ⟨gf, 0, none⟩) 64 64] 107)) rfl (run_build_pend w2 a gf) ?_)
    | (refine wpList_append_pend (F := F) (w2.alloc (.cells #[.int .i64 a, .slice (some ⟨gf, 0, none⟩) 64 64] 107)) rfl (.tmp 36) (.tmp 40) rfl vw Wt (a, full64 b) gf w2.heap.size rfl rfl (HP2.out.keep ((Fr.refl (fun _ => False) w2).alloc _) (fun _ _ _ h => h)) (heap_alloc_new w2 _) (((Fr.refl (fun _ => False) w2).alloc _).heap HB2.out (fun h => h)) HX.out.2.2.2.2 ?_; intro v4 w4 hp4 hg4 hk4; (have HP4 := Lib.hid hp4); (have HG4 := Lib.hid hg4); (have HH4 := Lib.hid (show DevH w4 g (.slice (some ⟨ga, 0, none⟩) m m) vw (k + 1) l' false from (HH2.out.keep ((Fr.refl (fun _ => False) w2).alloc _) (fun h => h)).keep ((Fr.refl (fun x => vw.ownBlock = some x) _).grown hg4 (fun x hx => .inl hx)) (fun e => HX.out.2.2.2.1 (HX.out.1.own g e)))); (have d1' := HH4.out.cells.2.1); (have d2' := HH4.out.free 1); obtain ⟨a4, q4, hv4, _, _⟩ := hp4.form; subst hv4; clear hp4 hg4 hk4 c1))
  go_ret
  refine ⟨rfl, _, HH4.out.put1 _, ?_, ?_⟩
  · have hp4 := HP4.out
    rw [show (Wt ++ [(a, full64 b)]).length = Wt.length + 1 by simp] at hp4
    refine (hp4.keep (Fr.cell1 w4 g 1 _) (fun i _ hi e => ?_)).mono (fun i hi => ?_)
    · have h1 := HGL.out
      have h2 := HGF.out
      have h3 := HG2.out
      rcases hi with hi | hi | hi
      · exact HX.out.2.2.2.1 (e ▸ hi)
      · simp at hi; omega
      · omega
    · have h2 := HGF.out
      have h3 := HG2.out
      rcases hi with hi | hi | hi
      · exact .inl hi
      · simp at hi; exact .inr (by omega)
      · exact .inr (by omega)
  · have hA : Fr (fun i => i = g ∨ F i) w w1 := HF.out.mono (fun _ _ e => .inl e)
    have hB : Fr (fun i => i = g ∨ F i) w w2 := hA.trans HF2.out (fun _ h => h.elim)
    exact ((hB.alloc _).grown HG4.out (fun x hx => .inl (.inr (HX.out.1.own x hx)))).trans (Fr.cell1 w4 g 1 _) (fun i e => .inl (.inl e))
end Go.Proofs.Ytcbbcihfooaggaa
namespace Go.Proofs.Ytcbbcihfooaggaa
open Go.RowKit Go.ChangeShapes
set_option linter.unusedVariables false
theorem rWrite_arg (w : World) (g ga s : Nat) (vw : Value) (k l : Int) (a : Int) (ab : Option Addr) (q cb : Nat) (h : DevH w g (.slice (some ⟨ga, 0, none⟩) (64 * s) (64 * s)) vw k l false) (hs : s ≤ 8192) (hn : a < 0 ∨ (s : Int) ≤ a ∨ 64 < q) :
    Calls Try.prog 54 #[.pointer (some ⟨g, 0, none⟩), .int .i64 a, .slice ab q cb] w fun e w' => e = .returned (.int .i64 2) ∧ w = w' := by
  have HS := Lib.hid (rSectors_any w g (some ⟨ga, 0, none⟩) s (64 * s) vw k l false h hs)
  obtain ⟨_, _, _, _, c4⟩ := h.cells
  clear h
  by_cases h1 : a < 0
  · have d1 : decide (a < 0) = true := by rw [decide_eq_true_iff]; exact h1
    clear h1 hn
    go_enter Try.func54, Try.ntmps54
    go_wp2
    go_ret
    exact ⟨rfl, rfl⟩
  · have d1 : decide (a < 0) = false := by rw [decide_eq_false_iff_not]; exact h1
    by_cases h2 : (s : Int) ≤ a
    · have d2 : decide ((s : Int) ≤ a) = true := by rw [decide_eq_true_iff]; exact h2
      clear h1 h2 hn
      go_enter Try.func54, Try.ntmps54
      go_wp2_with (go_at_call 76; (with_reducible refine HS.out.mono ?_); rintro e w0 ⟨rfl, rfl⟩)
      go_ret
      exact ⟨rfl, rfl⟩
    · have d2 : decide ((s : Int) ≤ a) = false := by rw [decide_eq_false_iff_not]; exact h2
      have h3 : 64 < q := by omega
      have d3 : decide (64 < (q : Int)) = true := by rw [decide_eq_true_iff]; omega
      have d5 : decide (64 < q) = true := by rw [decide_eq_true_iff]; omega
      clear h1 h2 hn
      go_enter Try.func54, Try.ntmps54
      go_wp2_with (go_at_call 76; (with_reducible refine HS.out.mono ?_); rintro e w0 ⟨rfl, rfl⟩)
      go_ret
      exact ⟨rfl, rfl⟩
theorem rWrite_out (w : World) (g ga s a : Nat) (vw : Value) (k : Int) (ab : Option Addr) (q cb : Nat) (hk0 : 0 ≤ k) (hk : k ≤ 1000000000) (h : DevH w g (.slice (some ⟨ga, 0, none⟩) (64 * s) (64 * s)) vw k 1 false) (hs : s ≤ 8192) (ha : a < s) (hq : q ≤ 64) :
    Calls Try.prog 54 #[.pointer (some ⟨g, 0, none⟩), .int .i64 a, .slice ab q cb] w fun e w' => e = .returned (.int .i64 10) ∧ DevH w' g (.slice (some ⟨ga, 0, none⟩) (64 * s) (64 * s)) vw k 0 true ∧ Fr (· = g) w w' := by
  have HS := Lib.hid (rSectors_any w g (some ⟨ga, 0, none⟩) s (64 * s) vw k 1 false h hs)
  have HD := Lib.hid (rdeed_any w g (.slice (some ⟨ga, 0, none⟩) (64 * s) (64 * s)) vw k 1 false hk0 hk (by decide) (by decide) h)
  obtain ⟨_, _, _, _, c4⟩ := h.cells
  have d1 : decide ((a : Int) < 0) = false := by rw [decide_eq_false_iff_not]; omega
  have d2 : decide ((s : Int) ≤ (a : Int)) = false := by rw [decide_eq_false_iff_not]; omega
  have d3 : decide (64 < (q : Int)) = false := by rw [decide_eq_false_iff_not]; omega
  have d4 : decide (s ≤ a) = false := by rw [decide_eq_false_iff_not]; omega
  have d5 : decide (64 < q) = false := by rw [decide_eq_false_iff_not]; omega
  have d6 : ¬ s ≤ a := by omega
  have d7 : ¬ 64 < q := by omega
  obtain ⟨m, hm⟩ : ∃ m : Nat, m = 64 * s := ⟨_, rfl⟩
  rw [← hm] at HD ⊢
  clear h hk0 hk hs ha hq hm
  go_enter Try.func54, Try.ntmps54
  go_wp2_with (first
    | (go_at_call 76; (with_reducible refine HS.out.mono ?_); rintro e w0 ⟨rfl, rfl⟩)
    | (go_at_call 78; (with_reducible refine HD.out.mono ?_); rintro e w1 ⟨rfl, hh, hf⟩; (have HH := Lib.hid (And.intro hh hf)); clear hh hf))
  go_ret
  exact ⟨rfl, HH.out.1, HH.out.2⟩
end Go.Proofs.Ytcbbcihfooaggaa
namespace Go.Proofs.Ytcbbcihfooaggaa
open Go.RowKit Go.ChangeShapes
set_option linter.unusedVariables false
abbrev Bare (X : Nat → Prop) (w0 : World) : Nat → Prop := fun k => w0.heap.size ≤ k ∧ ¬ X k
theorem run_cut64 (w : World) (b m cap q : Nat) (q2 : Int) (hq2 : q2 = (q : Int) + 64) (hq : q + 64 ≤ m) (hm : m ≤ cap) :
    (Instr.slice 40 (.slice (some ⟨b, 0, none⟩) m cap) (some (.int .i64 (q : Int))) (some (.int .i64 q2)) none).run Try.prog w = .ok (.slice (some ⟨b, q, none⟩) 64 (cap - q)) w := by
  subst hq2
  have hs : ∀ w, (sizeOf 5).run Try.prog w = .ok 1 w := fun w => by kernel_rfl
  have h1 : (0 : Int) ≤ (q : Int) + 64 := by omega
  have h2 : (q : Int) + 64 ≤ (cap : Int) := by omega
  have h3 : (q : Int) ≤ (q : Int) + 64 := by omega
  have h4 : ((q : Int) + 64).toNat = q + 64 := by omega
  have h5 : ¬ cap = q := by omega
  have h6 : q ≤ q + 64 := by omega
  simp [Instr.slice, run_underlying Try.underlying40, Instr.sliceBounds, run_sliceBound, hs, h1, h2, h3, h4, h5, Addr.add]
  omega
theorem BytesIn.cut64 {F : Nat → Prop} {w : World} {b m cap : Nat} {L : List UInt8} (h : BytesIn F w (.slice (some ⟨b, 0, none⟩) m cap) L) (a : Nat) (ha : 64 * a + 64 ≤ L.length) : BytesIn F w (.slice (some ⟨b, 64 * a, none⟩) 64 (cap - 64 * a)) (secAt L a) := by
  obtain ⟨ao, cap', hv, h1, h2, h3, h4⟩ := h
  simp only [Value.slice.injEq] at hv
  obtain ⟨rfl, rfl, rfl⟩ := hv
  have hl : (secAt L a).length = 64 := by rw [secAt, List.length_take, List.length_drop]; omega
  refine ⟨_, cap - 64 * a, by rw [hl], by omega, by omega, (fun h => by cases h), fun p hp => ?_⟩
  cases hp
  refine ⟨fun j u hu => ?_, fun _ => (h4 _ rfl).2 (fun h => by rw [h] at ha; simp at ha)⟩
  have hj : j < 64 := by
    have := (List.getElem?_eq_some_iff.1 hu).1
    rwa [List.length_map, hl] at this
  have := (h4 _ rfl).1 (64 * a + j) u (by
    rw [List.getElem?_map] at hu ⊢
    rw [← secAt_get L a j hj]
    exact hu)
  rw [addr_plain, Nat.zero_add] at this
  rw [addr_plain]
  exact this
end Go.Proofs.Ytcbbcihfooaggaa
namespace Go.Proofs.Ytcbbcihfooaggaa
open Go.RowKit Go.ChangeShapes
set_option linter.unusedVariables false
theorem mark_any (k i : Nat) (w : World) (hk : k ≤ 1000000000) (hi : i ≤ 1000000000000000) :
    Calls Try.prog 71 #[.int .i64 k, .int .i64 i] w fun e w' => e = .returned (.int .i64 (1000003 * ((k : Int) + 7) + i)) ∧ w = w' := by
  go_enter Try.func71, Try.ntmps71
  go_wp2
  go_ret
  exact ⟨rfl, rfl⟩
def mB (k i : Nat) : UInt8 := UInt8.ofNat (IntKind.u64.wrap ((1000003 * ((k : Int) + 7) + i) * 11400714819323198485) / 72057594037927936 % 256).toNat
theorem mB_val (k i : Nat) : IntKind.u64.wrap ((1000003 * ((k : Int) + 7) + i) * 11400714819323198485) / 72057594037927936 % 256 = (mB k i).toNat := by
  unfold mB
  generalize IntKind.u64.wrap ((1000003 * ((k : Int) + 7) + i) * 11400714819323198485) / 72057594037927936 = z
  rw [UInt8.toNat_ofNat']
  omega
theorem markByte_any (k i : Nat) (w : World) (hk : k ≤ 1000000000) (hi : i ≤ 1000000000000000) :
    Calls Try.prog 45 #[.int .i64 k, .int .i64 i] w fun e w' => e = .returned (bv (mB k i)) ∧ w = w' := by
  have HV := Lib.hid (mB_val k i)
  obtain ⟨m, hm⟩ : ∃ m : Int, m = 1000003 * ((k : Int) + 7) + i := ⟨_, rfl⟩
  have h0 : 0 ≤ m := by omega
  have h1 : m ≤ 2000000000000000000 := by omega
  have HM := mark_any k i w hk hi
  rw [← hm] at HM HV
  have HM' := Lib.hid HM
  clear hm HM
  go_enter Try.func45, Try.ntmps45
  go_wp2_with (go_at_call 71; refine HM'.out.mono ?_; rintro e w' ⟨rfl, rfl⟩)
  go_ret
  exact ⟨ret_int HV.out, rfl⟩
end Go.Proofs.Ytcbbcihfooaggaa
namespace Go.Proofs.Ytcbbcihfooaggaa
open Go.RowKit Go.ChangeShapes
set_option linter.unusedVariables false
theorem OwnB.store {F : Nat → Prop} {w : World} {g m cap : Nat} {L : List UInt8} (h : OwnB F w (.slice (some ⟨g, 0, none⟩) m cap) L) (i : Nat) (b : UInt8) :
    OwnB F (w.setCell ⟨g, i, none⟩ (bv b)) (.slice (some ⟨g, 0, none⟩) m cap) (L.set i b) := by
  obtain ⟨ao, c, hv⟩ := h.len
  simp only [Value.slice.injEq] at hv
  obtain ⟨_, hm, _⟩ := hv
  subst hm
  refine ⟨?_, h.2⟩
  have := (World.ownsRow.stored h.1 i (bv b)).1
  rw [← List.map_set] at this
  simpa using this
theorem OwnB.head {F : Nat → Prop} {w : World} {ao : Option Addr} {m cap : Nat} {L : List UInt8} (h : OwnB F w (.slice ao m cap) L) (n : Nat) (hn : n ≤ L.length) (hz : ao ≠ none) : OwnB F w (.slice ao n cap) (L.take n) := by
  rcases h.1.2 with ⟨hv, _⟩ | ⟨g, cap', cur, hv, hb, hg, hnc, hcm, hcs, ht⟩
  · simp only [Value.slice.injEq] at hv
    exact absurd hv.1 hz
  · simp only [Value.slice.injEq] at hv
    obtain ⟨rfl, _, rfl⟩ := hv
    have hl : (L.take n).length = n := by rw [List.length_take]; omega
    refine ⟨⟨by simp, .inr ⟨g, cap, cur, by rw [hl], hb, hg, by omega, hcm, hcs, ?_⟩⟩, fun k hk => h.2 k hk⟩
    rw [hl, List.map_take, ← ht, List.take_take]
    congr 1
    omega
def marks (k m : Nat) : List UInt8 := (List.range m).map (mB k)
theorem marks_length (k m : Nat) : (marks k m).length = m := by simp [marks]
theorem marks_succ (k m : Nat) : marks k (m + 1) = marks k m ++ [mB k m] := by simp [marks, List.range_succ]
theorem marks_get (k m i : Nat) (h : i < m) : (marks k m)[i]? = some (mB k i) := by
  simp [marks, h]
theorem OwnB.keep' {F S : Nat → Prop} {w w' : World} {v : Value} {L : List UInt8} (h : OwnB F w v L) (hf : Fr S w w') (hd : ∀ g, v.ownBlock = some g → ¬ S g) : OwnB F w' v L := by
  have h1 : OwnB (fun k => v.ownBlock = some k) w v L := ⟨h.1, fun g hg => hg⟩
  have h2 := h1.keep hf (fun k _ hk => hd k hk)
  exact ⟨h2.1, h.2⟩
theorem OwnB.form {F : Nat → Prop} {w : World} {v : Value} {L : List UInt8} (h : OwnB F w v L) (hL : 0 < L.length) :
    ∃ g cap, v = .slice (some ⟨g, 0, none⟩) L.length cap ∧ L.length ≤ cap ∧ cap ≤ maxLen ∧ F g ∧ ∀ i, i < L.length → w.cell? ⟨g, i, none⟩ = some (.int .u8 (L.getD i 0).toNat) ∧ w.frozen? ⟨g, i, none⟩ = false := by
  rcases h.1.2 with ⟨_, h0⟩ | ⟨g, cap, cur, hv, hb, hg, hnc, hcm, hcs, ht⟩
  · omega
  · subst hv
    refine ⟨g, cap, rfl, hnc, hcm, h.2 g rfl, fun i hi => ⟨?_, World.ownsRow.frozenAt h.1 i⟩⟩
    rw [World.ownsRow.cellAt h.1 i (by omega), List.getElem?_map, List.getElem?_eq_getElem hi]
    simp [bv, List.getD, List.getElem?_eq_getElem hi]
theorem mark_quiet (k i : Nat) (w : World) (q : Nat) (hk : k ≤ 1000000000) (hi : i ≤ 1000000000000000) :
    Calls Try.prog 45 #[.int .i64 k, .int .i64 i] (w.drewN q) fun e w' => e = .returned (.int .u8 (mB k i).toNat) ∧ w' = w.drewN q :=
  (markByte_any k i (w.drewN q) hk hi).mono fun _ _ ⟨h, e⟩ => ⟨h, e.symm⟩
end Go.Proofs.Ytcbbcihfooaggaa
namespace Go.Proofs.Ytcbbcihfooaggaa
open Go.RowKit Go.ChangeShapes
set_option linter.unusedVariables false
theorem OwnB.empty4 (w : World) : OwnB (fun k => w.heap.size ≤ k) (w.alloc (.cells #[] 5)) (.slice (some ⟨w.heap.size, 0, none⟩) 0 0) [] :=
  ⟨World.ownsRow_lit w #[] 0 (Nat.zero_le _) (by simp [maxLen]) (by simp), fun g hg => by simp only [Value.ownBlock, Option.some.injEq] at hg; omega⟩
theorem BytT.bytes4 {w : World} {g : Nat} {T : TypeId} {L : List UInt8} (h : BytT w g T L) (m : Nat) (hm : L.length = m) (hl : m ≤ maxLen) : BytesIn (fun k => k = g) w (.slice (some ⟨g, 0, none⟩) m m) L := by
  subst hm
  refine ⟨_, L.length, rfl, Nat.le_refl _, hl, (fun h => by cases h), fun p hp => ?_⟩
  cases hp
  refine ⟨fun j u hu => ?_, fun _ => rfl⟩
  rw [addr_plain, Nat.zero_add, cell_of_row _ _ _ _ _ _ h]
  simpa using hu
structure RdAt (w wr : World) (v : Value) (a : Nat) (X : List UInt8) : Prop where
  own : OwnB (fun k => w.heap.size ≤ k) wr v X
  fr : Fr (fun _ => False) w wr
set_option maxRecDepth 100000 in
set_option maxHeartbeats 4000000 in
theorem rRead_ok {F : Nat → Prop} (w : World) (g ga s a : Nat) (L : List UInt8) (Wt : List Pend) (vw : Value) (k l : Int) (h : DevH w g (.slice (some ⟨ga, 0, none⟩) (64 * s) (64 * s)) vw k l false) (hL : BytT w ga 5 L) (hl : L.length = 64 * s) (hs : s ≤ 8192)
    (hP : PendAt F w vw Wt) (hW : Pends s Wt) (ha : a < s) (hn6 : Wt.length ≤ 1000000) :
    Calls Try.prog 57 #[.pointer (some ⟨g, 0, none⟩), .int .i64 a] w fun e w' => ∃ v, e = .returned (.tuple #[v, .int .i64 0]) ∧ OwnB (fun k => w.heap.size ≤ k) w' v (lastL (fun _ => true) a 0 Wt (secAt L a)) ∧ Fr (fun _ => False) w w' := by
  obtain ⟨ao, cap, hvf, hwc, hwm⟩ := hP.form
  subst hvf
  unfold maxLen at hwm
  obtain ⟨n, hn⟩ : ∃ n, n = Wt.length := ⟨_, rfl⟩
  have HS := Lib.hid (rSectors_any w g (some ⟨ga, 0, none⟩) s (64 * s) _ k l false h hs)
  obtain ⟨m, hm⟩ : ∃ m : Nat, m = 64 * s := ⟨_, rfl⟩
  obtain ⟨q, hq⟩ : ∃ q : Nat, q = 64 * a := ⟨_, rfl⟩
  have hqm : q + 64 ≤ m := by omega
  have hm6 : m ≤ 524288 := by omega
  have e1 : (a : Int) * 64 = (q : Int) := by omega
  have hcut := fun W => run_cut64 W ga m m q ((q : Int) + 64) rfl hqm (Nat.le_refl _)
  have wq : IntKind.i64.wrap (q : Int) = (q : Int) := IntWalk.i64_in _ (by omega)
  have wq2 : IntKind.i64.wrap ((q : Int) + 64) = (q : Int) + 64 := IntWalk.i64_in _ (by omega)
  have hbs := ((hL.keep ((Fr.refl (fun _ => False) w).alloc (.cells #[] 5)) (fun h => h)).bytes4 m (by omega) (by unfold maxLen; omega)).cut64 a (by omega)
  rw [← hq] at hbs
  rw [← hm] at h
  rw [← hn] at h hP hn6 hwc
  obtain ⟨c0, _, _, _, c4⟩ := h.cells
  have c0' := ((h.keep ((Fr.refl (fun _ => False) w).alloc (.cells #[] 5)) (fun h => h)).cells).1
  have d0 : decide ((a : Int) < 0) = false := by rw [decide_eq_false_iff_not]; omega
  have d1 : decide ((s : Int) ≤ (a : Int)) = false := by rw [decide_eq_false_iff_not]; omega
  have d2 : decide (s ≤ a) = false := by rw [decide_eq_false_iff_not]; omega
  have HO1 := Lib.hid (OwnB.empty4 w)
  have HX1 := Lib.hid hbs
  have HF1 := Lib.hid ((Fr.refl (fun _ => False) w).alloc (.cells #[] 5))
  have HSL := Lib.hid (secAt_length L s a hl ha)
  have HN := Lib.hid hn
  have HW := Lib.hid hW
  have HPL := Lib.hid (And.intro hP h)
  clear hn hW hm hP hL h hl hs hbs hq ha
  go_enter Try.func57, Try.ntmps57
  go_wp2_with (first
    | (go_at_call 76; (with_reducible refine HS.out.mono ?_); rintro e w0 ⟨rfl, rfl⟩)
    | (at_builtin; refine wpList_append_bytes (F := fun k => w.heap.size ≤ k) _ rfl (.tmp 20) (.tmp 30) rfl _ _ [] (secAt L a) rfl rfl HO1.out HX1.out (by rw [HSL.out]; decide) ?_; intro v3 w3 ho3 hg3 hn3; (have HS3 : Hid (RdAt w w3 v3 a (secAt L a)) := Lib.hid ⟨by have h := ho3.mono (G := fun k => w.heap.size ≤ k) (fun k _ h => h.elim id (fun h => Nat.le_trans HF1.out.size h)); simpa using h, HF1.out.grown hg3 (fun k hk => .inr (HO1.out.2 k hk))⟩); clear ho3 hg3 hn3)
    | fail)
  go_loopw [6, 7] (fun gv iv wr => ∃ i : Nat, i ≤ n ∧ iv = .int .i64 i ∧ Hid (RdAt w wr gv a (lastL (fun _ => true) a 0 (Wt.take i) (secAt L a)))) (fun _ iv _ => n - (intOf iv).toNat)
  case atStart => exact ⟨0, by omega, rfl, HS3⟩
  case round =>
    clear HS3 HO1 HX1 HF1
    obtain ⟨i, hi, rfl, hR⟩ := hrel
    have hcc := (HPL.out.2.keep hR.out.fr (fun h => h)).cells.2.1
    by_cases hlt : i < n
    · have hil : i < Wt.length := by rw [← HN.out]; exact hlt
      obtain ⟨b, gb, rfl, hFb, hrg, hbb, hFg⟩ := (HPL.out.1.keep hR.out.fr (fun _ _ _ h => h)).elem i hil
      obtain ⟨p, hp⟩ : ∃ p, p = Wt[i] := ⟨_, rfl⟩
      rw [← hp] at hrg hbb
      have hpw := HW.out p (by rw [hp]; exact List.getElem_mem _)
      have cp0 : wr.cell? ⟨b, i * 2, none⟩ = some (.int .i64 (p.1 : Nat)) := hrg 0 _ rfl
      have cp1 : wr.cell? ⟨b, i * 2 + 1, none⟩ = some (.slice (some ⟨gb, 0, none⟩) 64 64) := hrg 1 _ rfl
      have cp1' : (wr.alloc (.cells #[] 5)).cell? ⟨b, i * 2 + 1, none⟩ = some (.slice (some ⟨gb, 0, none⟩) 64 64) := ((Fr.refl (fun _ => False) wr).alloc (.cells #[] 5)).cell cp1 (fun h => h)
      have hcc' := ((HPL.out.2.keep hR.out.fr (fun h => h)).keep ((Fr.refl (fun _ => False) wr).alloc (.cells #[] 5)) (fun h => h)).cells.2.1
      have hst : lastL (fun _ => true) a 0 (Wt.take (i + 1)) (secAt L a) = if a = p.1 then p.2 else lastL (fun _ => true) a 0 (Wt.take i) (secAt L a) := by
        rw [List.take_succ_eq_append_getElem hil, lastL_snoc, ← hp]
        simp
      have HST := Lib.hid hst
      have hd : decide ((i : Int) < (n : Int)) = true := by rw [decide_eq_true_iff]; omega
      have hkn : (i : Int) < (n : Int) := by omega
      have hi0 : (0 : Int) ≤ (i : Int) := by omega
      have HBB := Lib.hid (And.intro (((BytT.keep hbb ((Fr.refl (fun _ => False) wr).alloc (.cells #[] 5)) (fun h => h))).bytes4 64 hpw.2 (by decide)) hpw.2)
      by_cases hpa : a = p.1
      · have hb1 : ((p.1 : Int) == (a : Int)) = true := by rw [beq_iff_eq]; omega
        have HO2 := Lib.hid (OwnB.empty4 wr)
        have HF2 := Lib.hid ((Fr.refl (fun _ => False) wr).alloc (.cells #[] 5))
        have HST2 := Lib.hid (HST.out.trans (if_pos hpa))
        clear hpa hil hp hpw hst hbb hrg
        go_wp2_with (at_builtin; refine wpList_append_bytes (F := fun k => wr.heap.size ≤ k) _ rfl (.tmp 51) (.tmp 59) rfl _ _ [] p.2 rfl rfl HO2.out HBB.out.1 (by rw [HBB.out.2]; decide) ?_; intro v5 w5 ho5 hg5 hn5; (have HS5 : Hid (RdAt w w5 v5 a (lastL (fun _ => true) a 0 (Wt.take (i + 1)) (secAt L a))) := Lib.hid ⟨by have h := ho5.mono (G := fun k => w.heap.size ≤ k) (fun k _ h => Nat.le_trans hR.out.fr.size (h.elim id (fun h => Nat.le_trans HF2.out.size h))); rw [HST2.out]; simpa using h, (hR.out.fr.trans HF2.out (fun _ h => h.elim)).grown hg5 (fun k hk => .inr (Nat.le_trans hR.out.fr.size (HO2.out.2 k hk)))⟩); clear ho5 hg5 hn5)
        go_roundw
        case rel => exact ⟨i + 1, by omega, by go_num, HS5⟩
        case measure => simp [intOf]; omega
      · have hb1 : ((p.1 : Int) == (a : Int)) = false := by rw [beq_eq_false_iff_ne]; omega
        have HST2 := Lib.hid (HST.out.trans (if_neg hpa))
        have hpa2 : ¬ p.1 = a := fun h => hpa h.symm
        clear hpa hil hp hpw hst hbb hrg
        go_wp2_with fail
        go_roundw
        case rel => exact ⟨i + 1, by omega, by go_num, Lib.hid (by rw [HST2.out]; exact hR.out)⟩
        case measure => simp [intOf]; omega
    · have hd : decide ((i : Int) < (n : Int)) = false := by rw [decide_eq_false_iff_not]; omega
      have hRR := hR.out
      rw [List.take_of_length_le (by rw [← HN.out]; omega)] at hRR
      have HRR := Lib.hid hRR
      clear hRR hR
      go_wp2_with fail
      go_ret2
      exact ⟨_, rfl, HRR.out.own, HRR.out.fr⟩
theorem rRead_down (w : World) (g : Nat) (va vw : Value) (k l a : Int) (h : DevH w g va vw k l true) :
    Calls Try.prog 57 #[.pointer (some ⟨g, 0, none⟩), .int .i64 a] w fun e w' => e = .returned (.tuple #[.slice none 0 0, .int .i64 10]) ∧ w = w' := by
  obtain ⟨_, _, _, _, h4⟩ := h.cells
  clear h
  go_enter Try.func57, Try.ntmps57
  go_wp2
  go_ret2
  exact ⟨rfl, rfl⟩
theorem rRead_arg (w : World) (g ga s : Nat) (vw : Value) (k l a : Int) (h : DevH w g (.slice (some ⟨ga, 0, none⟩) (64 * s) (64 * s)) vw k l false) (hs : s ≤ 8192) (hn : a < 0 ∨ (s : Int) ≤ a) :
    Calls Try.prog 57 #[.pointer (some ⟨g, 0, none⟩), .int .i64 a] w fun e w' => e = .returned (.tuple #[.slice none 0 0, .int .i64 2]) ∧ w = w' := by
  have HS := Lib.hid (rSectors_any w g (some ⟨ga, 0, none⟩) s (64 * s) vw k l false h hs)
  obtain ⟨_, _, _, _, c4⟩ := h.cells
  clear h
  by_cases h1 : a < 0
  · have d1 : decide (a < 0) = true := by rw [decide_eq_true_iff]; exact h1
    clear h1 hn
    go_enter Try.func57, Try.ntmps57
    go_wp2
    go_ret2
    exact ⟨rfl, rfl⟩
  · have d1 : decide (a < 0) = false := by rw [decide_eq_false_iff_not]; exact h1
    have d2 : decide ((s : Int) ≤ a) = true := by rw [decide_eq_true_iff]; omega
    clear h1 hn
    go_enter Try.func57, Try.ntmps57
    go_wp2_with (go_at_call 76; (with_reducible refine HS.out.mono ?_); rintro e w0 ⟨rfl, rfl⟩)
    go_ret2
    exact ⟨rfl, rfl⟩
end Go.Proofs.Ytcbbcihfooaggaa
