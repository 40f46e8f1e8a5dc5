/- Laid together: BJoin BFree -/
import Derived.Test.YtcbbcihfooaggaaBk10

namespace Go.Proofs.Ytcbbcihfooaggaa
open Go.RowKit Go.ChangeShapes
set_option linter.unusedVariables false
attribute [local go_sem] Oper.semAt_some
theorem OwnRn.last {z : Nat} {w : World} {g cap : Nat} {l : List Rn} {r : Rn} (h : OwnRn z w (.slice (some ⟨g, 0, none⟩) (l.length + 1) cap) (l ++ [r])) :
    w.cell? ⟨g, l.length * 2, none⟩ = some (.int .i64 r.1) ∧ w.cell? ⟨g, l.length * 2 + 1, none⟩ = some (.int .i64 r.2) ∧ w.frozen? ⟨g, l.length * 2 + 1, none⟩ = false := by
  obtain ⟨ao, cap2, hv, _, _, _, h4⟩ := OwnE.elems h
  obtain ⟨b, off, ha, hF, hi⟩ := h4 (by simp)
  simp only [Value.slice.injEq] at hv
  rw [← hv.1] at ha
  simp only [Option.some.injEq, Addr.mk.injEq, and_true] at ha
  obtain ⟨rfl, rfl⟩ := ha
  have g0 := hi l.length (by simp) 0 (by decide)
  have g1 := hi l.length (by simp) 1 (by decide)
  refine ⟨by simpa [rnC] using g0, by simpa [rnC] using g1, ?_⟩
  rcases OwnRn.block h with ⟨hv, _⟩ | ⟨g', cap', cur, hv, _, hg, _⟩
  · cases hv
  · simp only [Value.slice.injEq, Option.some.injEq, Addr.mk.injEq, and_true] at hv
    rw [← hv.1] at hg
    simp [World.frozen?, hg]
theorem OwnRn.grow {z : Nat} {w : World} {g cap : Nat} {l : List Rn} {r : Rn} (h : OwnRn z w (.slice (some ⟨g, 0, none⟩) (l.length + 1) cap) (l ++ [r])) (y : Int) :
    OwnRn z (w.setCell ⟨g, l.length * 2 + 1, none⟩ (.int .i64 y)) (.slice (some ⟨g, 0, none⟩) (l.length + 1) cap) (l ++ [(r.1, y)]) := by
  rcases OwnRn.block h with ⟨hv, _⟩ | ⟨g', cap', cur, hv, hz, hg, hn, hc, hs, ht⟩
  · cases hv
  · simp only [Value.slice.injEq, Option.some.injEq, Addr.mk.injEq, and_true] at hv
    obtain ⟨rfl, hln, rfl⟩ := hv
    have hll : (l ++ [r]).length = l.length + 1 := by simp
    rw [hll] at ht hn
    refine ⟨⟨?_, .inr ⟨g, cap, _, ?_, hz, cell_put _ hg, ?_, ?_, ?_, ?_⟩⟩, rnC_len _⟩
    · rw [flat_len _ (rnC_len _)]
    · rw [List.length_map]; simp
    · rw [List.length_map]; simpa using hn
    · unfold maxLen; omega
    · rw [Array.size_setIfInBounds]; exact hs
    · rw [List.length_map]
      have h2 : (l ++ [(r.1, y)]).length = l.length + 1 := by simp
      rw [h2]
      have hcl : cur.toList.length = cap * 2 := by rw [Array.length_toList]; exact hs
      have hlen : (l.map rnC).flatten.length = l.length * 2 := by rw [flat_len _ (rnC_len _), List.length_map]
      apply List.ext_getElem?
      intro j
      rw [List.getElem?_take]
      have ht2 := congrArg (fun t => t[j]?) ht
      simp only [List.getElem?_take] at ht2
      by_cases hj : j < (l.length + 1) * 2
      · rw [if_pos hj] at ht2 ⊢
        rw [Array.toList_setIfInBounds, List.getElem?_set]
        by_cases e : l.length * 2 + 1 = j
        · rw [if_pos e, if_pos (by rw [hcl]; omega)]
          subst e
          rw [List.map_append, List.flatten_append, List.getElem?_append_right (by omega), hlen]
          simp [rnC]
        · rw [if_neg e, ht2, List.map_append, List.flatten_append, List.map_append, List.flatten_append]
          by_cases hj2 : j < l.length * 2
          · rw [List.getElem?_append_left (by omega), List.getElem?_append_left (by omega)]
          · rw [List.getElem?_append_right (by omega), List.getElem?_append_right (by omega), hlen, show j - l.length * 2 = 0 by omega]
            simp [rnC]
      · rw [if_neg hj, List.getElem?_eq_none]
        rw [flat_len _ (rnC_len _), List.length_map, h2]
        omega
theorem op_append7 {w w' : World} {o : Oper} {a : Act} {s x : Operand} {ST : TypeId} {v y u : Value} (ho : o.op = Op.call { callee := Callee.builtin Builtin.append, args := #[s, x], argTypes := #[ST, ST] }) (hs : a.eval s = v) (hx : a.eval x = y) (hr : (Builtin.append_ #[ST, ST] o.type #[v, y]).run Try.prog w = .ok u w') : (execOp a.eval o).run Try.prog w = .ok (.value u) w' := by
  simp [execOp, ho, resolve, invoke, builtin, hs, hx, hr, Result.andThen]
theorem wpList_append_rn {z : Nat} (w : World) {ops : Array Oper} {rest : List Oper} {o : Oper} {a : Act} {Q : Exit → Act → World → Prop} (hgd : o.guard = none) (s x : Operand)
    (hop : o.op = Op.call { callee := Callee.builtin Builtin.append, args := #[s, x], argTypes := #[24, 24] })
    (v : Value) (l : List Rn) (r : Rn) (b : Nat) (hs : a.eval s = v) (hx : a.eval x = .slice (some ⟨b, 0, none⟩) 1 1) (hb : w.heap[b]? = some (.cells #[.int .i64 r.1, .int .i64 r.2] 68 (0, 0)))
    (hown : OwnRn z w v l) (hz : z ≤ w.heap.size) (hn : l.length + 1 ≤ 1000000)
    (hK : ∀ v' w', OwnRn z w' v' (l ++ [r]) → Fr (fun k => v.ownBlock = some k) w w' → wpList Try.prog ops Q rest (a.put o.dst v') w') : wpList Try.prog ops Q (o :: rest) a w := by
  refine wpList_append_e (T := 68) Try.underlying24 infoRn rfl (by decide) (by decide) w hgd s x hop v _ _ _ hs hx hown (Elems.ofBlock (c := rnC r) hb rfl) (fun c hc u hu => by
    rw [List.mem_singleton.1 hc] at hu
    simp only [rnC, List.mem_cons, List.not_mem_nil, or_false] at hu
    rcases hu with rfl | rfl <;> rfl) hz (by simpa using hn) fun v' w' ho hg hv => ?_
  exact hK v' w' (by unfold OwnRn; rw [List.map_append]; exact ho) ((Fr.refl (fun k => v.ownBlock = some k) w).grown hg (fun k hk => .inl hk))
def JoinPost (z : Nat) (w : World) (v : Value) (l : List Rn) (e : Ending) (w' : World) : Prop := ∃ v', e = .returned v' ∧ OwnRn z w' v' l ∧ Fr (fun k => v.ownBlock = some k) w w'
set_option maxRecDepth 100000 in
set_option maxHeartbeats 2000000 in
theorem joined_any (z : Nat) (w : World) (v : Value) (l : List Rn) (x : Nat) (h : OwnRn z w v l) (hz : z ≤ w.heap.size) (hx : x ≤ 1000000) (hl : l.length ≤ 900000) (hb : ∀ r ∈ l, 0 ≤ r.1 ∧ r.1 ≤ 1000000 ∧ 0 ≤ r.2 ∧ r.2 ≤ 1000000) :
    Calls Try.prog 43 #[v, .int .i64 x] w (JoinPost z w v (jn7 l x)) := by
  rcases List.eq_nil_or_concat l with rfl | ⟨l, r, rfl⟩
  · rw [jn7_nil]
    obtain ⟨ao, c, rfl⟩ := h.form
    simp only [List.length_nil] at h ⊢
    have e1 : IntKind.i64.wrap ((0 : Int) - 1) = -1 := by decide
    have HO := Lib.hid h
    clear h hb
    go_enter Try.func43, Try.ntmps43
    go_wp2
    go_quiet ((fail))
    have hD := (Fr.refl (fun _ => False) w).drewN nq
    obtain ⟨W2, hW2⟩ : ∃ W2, W2 = w.drewN nq := ⟨_, rfl⟩
    rw [← hW2] at hD ⊢
    have H2 := Lib.hid hD
    clear hW2 hD
    go_wp2_with (at_builtin; refine wpList_append_rn (z := z) _ rfl (.tmp 35) (.tmp 38) rfl (.slice ao 0 c) [] ((x : Int), 1) _ rfl rfl (heap_alloc_new _ _) ((OwnE.keep HO.out H2.out (fun _ _ h => h)).keep ((Fr.refl (fun _ => False) W2).alloc _) (fun _ _ h => h)) (by have := H2.out.size; simp; omega) (by decide) ?_; intro v' w' ho hf; (have H3 := Lib.hid (And.intro ho hf)); clear ho hf)
    go_ret
    exact ⟨v', rfl, H3.out.1, (H2.out.mono (fun _ _ h => h.elim)).trans (((Fr.refl (fun k => (Value.slice ao 0 c).ownBlock = some k) W2).alloc _).trans H3.out.2 (fun _ h => .inl h)) (fun _ h => .inl h)⟩
  · rw [List.concat_eq_append] at h hl hb ⊢
    rw [jn7_snoc]
    obtain ⟨p, q⟩ := r
    have hb1 := hb (p, q) (by simp)
    rcases OwnRn.block h with ⟨_, hv⟩ | ⟨g, cap, cur, rfl, hzg, hg, hn, hc, hs, ht⟩
    · simp at hv
    · rw [List.length_append, List.length_cons, List.length_nil, Nat.zero_add] at h hl hn ⊢
      obtain ⟨m, hm⟩ : ∃ m, m = l.length := ⟨_, rfl⟩
      obtain ⟨n, hnm⟩ : ∃ n, n = m + 1 := ⟨_, rfl⟩
      have hlast := OwnRn.last h
      have hgrow := OwnRn.grow h
      rw [← hm] at h hlast hgrow hl hn ⊢
      rw [← hnm] at h hgrow hl hn ⊢
      obtain ⟨c0, c1, c2⟩ := hlast
      obtain ⟨b1, b2, b3, b4⟩ := hb1
      simp only at b1 b2 b3 b4 c0 c1
      have e1 : IntKind.i64.wrap ((n : Int) - 1) = (m : Int) := by rw [wrap_in5 (by omega) (by omega)]; omega
      have m0 : (0 : Int) ≤ (m : Int) := by omega
      have m1 : (m : Int) < (n : Int) := by omega
      have m2 : m < n := by omega
      obtain ⟨t, ht9⟩ : ∃ t, t = p + q := ⟨_, rfl⟩
      have e2 : IntKind.i64.wrap (p + q) = t := by rw [wrap_in5 (by omega) (by omega), ht9]
      have HO := Lib.hid (And.intro h (And.intro hgrow (And.intro hm (And.intro hnm hl))))
      clear h hgrow hm hnm hl hb hg hs ht hn hzg
      by_cases hpx : p + q = x
      · rw [if_pos hpx]
        have e3 : (t == (x : Int)) = true := by rw [beq_iff_eq, ht9, hpx]
        have e4 : IntKind.i64.wrap (q + 1) = q + 1 := wrap_in5 (by omega) (by omega)
        clear hpx ht9
        go_enter Try.func43, Try.ntmps43
        go_wp2
        go_quiet ((fail))
        have hD := (Fr.refl (fun _ => False) w).drewN nq
        obtain ⟨W2, hW2⟩ : ∃ W2, W2 = w.drewN nq := ⟨_, rfl⟩
        have k1 : W2.cell? ⟨g, m * 2 + 1, none⟩ = some (.int .i64 q) := by rw [hW2]; exact c1
        have k2 : W2.frozen? ⟨g, m * 2 + 1, none⟩ = false := by rw [hW2]; exact c2
        rw [← hW2] at hD ⊢
        have H2 := Lib.hid hD
        clear hW2 hD c0 c1 c2 e3
        go_wp2
        go_ret
        have h9 := OwnRn.grow (l := l) (r := (p, q)) (cap := cap) (z := z) (w := W2) (g := g) (by have h8 := OwnE.keep HO.out.1 H2.out (fun _ _ h => h); rw [← HO.out.2.2.1, ← HO.out.2.2.2.1]; exact h8) (q + 1)
        rw [← HO.out.2.2.1, ← HO.out.2.2.2.1] at h9
        exact ⟨_, rfl, h9, (H2.out.mono (T := fun k => (Value.slice (some ⟨g, 0, none⟩) n cap).ownBlock = some k) (fun _ _ h => h.elim)).setCell (p := ⟨g, m * 2 + 1, none⟩) (.inl rfl) _⟩
      · rw [if_neg hpx]
        have e3 : (t == (x : Int)) = false := by rw [beq_eq_false_iff_ne, ht9]; exact hpx
        clear hpx ht9
        go_enter Try.func43, Try.ntmps43
        go_wp2
        go_quiet ((fail))
        have hD := (Fr.refl (fun _ => False) w).drewN nq
        obtain ⟨W2, hW2⟩ : ∃ W2, W2 = w.drewN nq := ⟨_, rfl⟩
        rw [← hW2] at hD ⊢
        have H2 := Lib.hid hD
        clear hW2 hD c0 c1 c2 e3
        go_wp2_with (at_builtin; refine wpList_append_rn (z := z) _ rfl (.tmp 35) (.tmp 38) rfl (.slice (some ⟨g, 0, none⟩) n cap) (l ++ [(p, q)]) ((x : Int), 1) _ rfl rfl (heap_alloc_new _ _) ((OwnE.keep HO.out.1 H2.out (fun _ _ h => h)).keep ((Fr.refl (fun _ => False) W2).alloc _) (fun _ _ h => h)) (by have := H2.out.size; simp; omega) (by have := HO.out.2.2; simp; omega) ?_; intro v' w' ho hf; (have H3 := Lib.hid (And.intro ho hf)); clear ho hf)
        go_ret
        exact ⟨v', rfl, H3.out.1, (H2.out.mono (fun _ _ h => h.elim)).trans (((Fr.refl (fun k => (Value.slice (some ⟨g, 0, none⟩) n cap).ownBlock = some k) W2).alloc _).trans H3.out.2 (fun _ h => .inl h)) (fun _ h => .inl h)⟩
end Go.Proofs.Ytcbbcihfooaggaa
namespace Go.Proofs.Ytcbbcihfooaggaa
open Go.RowKit Go.ChangeShapes
set_option linter.unusedVariables false
attribute [local go_sem] Oper.semAt_some
def xsF (d : Nat) (L : List Rn) : List (Sc d) := (free7 d L).attachWith (· < d) (fun x hx => (mem_free7.1 hx).1)
theorem xsF_val (d : Nat) (L : List Rn) : (xsF d L).map (·.1) = free7 d L := by unfold xsF; simp
theorem xsF_length (d : Nat) (L : List Rn) : (xsF d L).length = (free7 d L).length := by unfold xsF; simp
theorem free7_succ (i : Nat) (L : List Rn) : free7 (i + 1) L = free7 i L ++ (if i ∈ secs7 L then [] else [i]) := by
  unfold free7
  rw [List.range_succ, List.filter_append]
  congr 1
  by_cases h : i ∈ secs7 L <;> simp [h]
theorem free7_prefix {i d : Nat} (h : i ≤ d) (L : List Rn) : ∃ r, free7 d L = free7 i L ++ r := by
  obtain ⟨k, rfl⟩ := Nat.exists_eq_add_of_le h
  clear h
  induction k with
  | zero => exact ⟨[], by simp⟩
  | succ k ih =>
    obtain ⟨r, hr⟩ := ih
    refine ⟨r ++ (if i + k ∈ secs7 L then [] else [i + k]), ?_⟩
    rw [← Nat.add_assoc, free7_succ, hr, List.append_assoc]
theorem xsF_at {i d : Nat} (h : i < d) (L : List Rn) (hm : i ∉ secs7 L) : ∃ hq : (free7 i L).length < (xsF d L).length, ((xsF d L)[(free7 i L).length]'hq).1 = i := by
  obtain ⟨r, hr⟩ := free7_prefix (show i + 1 ≤ d by omega) L
  rw [free7_succ, if_neg hm] at hr
  have hl := congrArg List.length hr
  simp only [List.length_append, List.length_cons, List.length_nil] at hl
  have hq : (free7 i L).length < (xsF d L).length := by rw [xsF_length]; omega
  refine ⟨hq, ?_⟩
  have h1 : ((xsF d L).map (·.1))[(free7 i L).length]? = some i := by
    rw [xsF_val, hr, List.append_assoc, List.getElem?_append_right (Nat.le_refl _), Nat.sub_self]
    rfl
  rw [List.getElem?_map, List.getElem?_eq_getElem hq] at h1
  simpa using h1
structure ItF (mb Bd Bt d : Nat) (S : List Nat) (W : World) : Prop where
  data : W.cell? ⟨Bd, 0, none⟩ = some (.int .i64 (d : Nat))
  box : W.cell? ⟨Bt, 0, none⟩ = some (.map (some mb))
  tk : TkAt W mb S
theorem ItF.keep {T : Nat → Prop} {mb Bd Bt d : Nat} {S : List Nat} {W W' : World} (h : ItF mb Bd Bt d S W) (hf : Fr T W W') (h1 : ¬ T Bd) (h2 : ¬ T Bt) (h3 : ¬ T mb) : ItF mb Bd Bt d S W' :=
  ⟨hf.cell h.data h1, hf.cell h.box h2, h.tk.keep hf h3⟩
set_option maxRecDepth 100000 in
set_option maxHeartbeats 4000000 in
theorem free1_in {T : Nat → Prop} {d : Nat} (n0 : Nat) (l Bd Bt mb : Nat) (L : List Rn) (hd : d ≤ 8192) (hT1 : ¬ T Bd) (hT2 : ¬ T Bt) (hT3 : ¬ T mb) (B0 : Nat) (J Jx : List (Sc d) → World → Prop) (hJ : AbidesFrom B0 J)
    (hY : ∀ pre x W, J pre W → pre.length < (free7 d L).length → YieldAt Fence.wide (n0 - 1) Try.prog l (enc7 x) W fun e W' =>
      (e = .returned (.bool true) ∧ J (pre ++ [x]) W' ∧ Fr T W W') ∨ (e = .returned (.bool false) ∧ Jx (pre ++ [x]) W'))
    (W : World) (hR : ItF mb Bd Bt d (secs7 L) W) (h0 : J [] W) :
    CallsIn Fence.wide n0 Try.prog 68 #[.func (.yield l) #[] #[], .pointer (some ⟨Bd, 0, none⟩), .pointer (some ⟨Bt, 0, none⟩)] W fun e W' => (∃ v, e = .returned v) ∧
      ((∃ ys, ys = xsF d L ∧ J ys W') ∨ (∃ pre, pre <+: xsF d L ∧ Jx pre W')) := by
  obtain ⟨X, hX⟩ : ∃ X, X = xsF d L := ⟨_, rfl⟩
  have hXl : X.length = (free7 d L).length := by rw [hX, xsF_length]
  rw [← hXl] at hY
  rw [← hX]
  obtain ⟨hda, hbx, _⟩ := id hR
  have HR := Lib.hid hR
  have HY := Lib.hid hY
  have HT := Lib.hid (And.intro hT1 (And.intro hT2 hT3))
  have HN := Lib.hid (And.intro hX hXl)
  clear hR hY hJ hT1 hT2 hT3 hX hXl
  refine callsIn_of_wp Try.func68 rfl trivial ?_ rfl
  simp only [Try.ntmps68, List.size_toArray, List.length_cons, List.length_nil, Nat.reduceAdd, Nat.reduceSub, Array.replicate_succ, Array.replicate_zero, List.push_toArray, List.append_toArray, List.nil_append, List.cons_append]
  gi_wp2
  gi_loopw [6] (fun iv wr => ∃ i p : Nat, i ≤ d ∧ iv = .int .i64 i ∧ J (X.take p) wr ∧ Hid (p = (free7 i L).length ∧ ItF mb Bd Bt d (secs7 L) wr)) (fun iv _ => d - (intOf iv).toNat)
  case atStart => exact ⟨0, 0, by omega, rfl, h0, Lib.hid ⟨rfl, HR.out⟩⟩
  case round =>
    clear h0 hda hbx
    obtain ⟨i, p, hi, rfl, hJs, hRr⟩ := hrel
    by_cases hlt : i < d
    · have hbx := hRr.out.2.box
      have hlt64 : (i : Int) < (d : Int) := by omega
      by_cases hm : i ∈ secs7 L
      · have hc := WideF.out.calls (n := n0 - 1) (has_any wr mb i (secs7 L) hRr.out.2.tk (by omega))
        rw [show decide (i ∈ secs7 L) = true from decide_eq_true hm] at hc
        have HC := Lib.hid hc
        have HK := Lib.hid (show p = (free7 (i + 1) L).length by rw [free7_succ, if_pos hm, List.append_nil]; exact hRr.out.1)
        clear hc hm
        gi_wp2_with (refine ⟨trivial, fun hx => WideF.out.free hx, ?_⟩; gi_at_call 69; refine HC.out.mono ?_; rintro e w2 ⟨rfl, rfl⟩)
        refine ⟨fun _ h => (by cases h), ?_⟩
        gi_wp2
        go_roundw
        case rel => exact ⟨i + 1, p, by omega, by go_num, hJs, Lib.hid ⟨HK.out, hRr.out.2⟩⟩
        case measure => simp [intOf]; omega
      · have hc := WideF.out.calls (n := n0 - 1) (has_any wr mb i (secs7 L) hRr.out.2.tk (by omega))
        rw [show decide (i ∈ secs7 L) = false from decide_eq_false hm] at hc
        have HC := Lib.hid hc
        obtain ⟨hq, hxv⟩ := xsF_at hlt L hm
        have HK := Lib.hid (show p + 1 = (free7 (i + 1) L).length by rw [free7_succ, if_neg hm, List.length_append]; rw [hRr.out.1]; rfl)
        obtain ⟨x, hx⟩ : ∃ x, x = (xsF d L)[(free7 i L).length] := ⟨_, rfl⟩
        rw [← hx] at hxv
        have htk : X.take (p + 1) = X.take p ++ [x] := by rw [hRr.out.1, HN.out.1, List.take_succ_eq_append_getElem hq, hx]
        have hpl : (X.take p).length < X.length := by rw [HN.out.1, List.length_take, hRr.out.1]; omega
        obtain ⟨fn, tmps, assign, body, hy, hRd⟩ := HY.out _ x wr hJs hpl
        simp only [enc7] at hy
        rw [hxv] at hy
        have HTK := Lib.hid htk
        clear hc hm hq hxv hx htk hpl hJs
        gi_wp2_with (refine ⟨trivial, fun hx => WideF.out.free hx, ?_⟩; gi_at_call 69; refine HC.out.mono ?_; rintro e w2 ⟨rfl, rfl⟩)
        refine ⟨fun hx => WideF.out.free hx, hRd.mono ?_⟩
        rintro e W3 (⟨rfl, hJ3, hk3⟩ | ⟨rfl, hJx3⟩)
        · have HR3 := Lib.hid (hRr.out.2.keep hk3 HT.out.1 HT.out.2.1 HT.out.2.2)
          gi_wp2
          go_roundw
          case rel => exact ⟨i + 1, p + 1, by omega, by go_num, by rw [HTK.out]; exact hJ3, Lib.hid ⟨HK.out, HR3.out⟩⟩
          case measure => simp [intOf]; omega
        · gi_wp2
          refine bodyPost_ret (results_none rfl _ _ _) rfl ?_
          exact ⟨⟨_, rfl⟩, .inr ⟨_, by rw [← HTK.out]; exact List.take_prefix _ _, hJx3⟩⟩
    · obtain rfl : i = d := by omega
      gi_wp2
      go_end0
      exact ⟨⟨_, rfl⟩, .inl ⟨_, rfl, by rwa [List.take_of_length_le (by rw [HN.out.2, hRr.out.1]; exact Nat.le_refl _)] at hJs⟩⟩
theorem ItF.below {mb Bd Bt d : Nat} {S : List Nat} {w W : World} (h : ItF mb Bd Bt d S w) (hb : Below w.heap.size w W) : ItF mb Bd Bt d S W := by
  have h1 := World.block_lt_of_cell? _ _ h.data
  have h2 := World.block_lt_of_cell? _ _ h.box
  have h3 := h.tk.lt
  simp only at h1 h2
  exact h.keep (Fr.ofBelow hb) (fun h => by omega) (fun h => by omega) (fun h => by omega)
theorem free_stops {T : Nat → Prop} {d : Nat} (n0 Bd Bt mb : Nat) (L : List Rn) (hd : d ≤ 8192) (hT1 : ¬ T Bd) (hT2 : ¬ T Bt) (hT3 : ¬ T mb) (w : World) (hR : ItF mb Bd Bt d (secs7 L) w) :
    SeqStopsK Fence.wide n0 Try.prog 68 #[.pointer (some ⟨Bd, 0, none⟩), .pointer (some ⟨Bt, 0, none⟩)] enc7 (Fr T) (fun ys => ys = xsF d L) (fun pre => pre <+: xsF d L) (free7 d L).length w :=
  fun l J Jx W hW hJ hJx hY h0 => free1_in n0 l Bd Bt mb L hd hT1 hT2 hT3 _ J Jx hJ hY W (hR.below hW) h0
theorem free_any (w : World) (mb : Nat) (d : Int) :
    Calls Try.prog 42 #[.map (some mb), .int .i64 d] w fun e w' => e = .returned (.func (.func 68) #[] #[.pointer (some ⟨w.heap.size + 1, 0, none⟩), .pointer (some ⟨w.heap.size, 0, none⟩)]) ∧ w' = (w.alloc (.cells #[.map (some mb)] 76)).alloc (.cells #[.int .i64 d] 3) := by
  go_enter Try.func42, Try.ntmps42
  go_wp2
  go_ret
  exact ⟨rfl, rfl⟩
end Go.Proofs.Ytcbbcihfooaggaa
