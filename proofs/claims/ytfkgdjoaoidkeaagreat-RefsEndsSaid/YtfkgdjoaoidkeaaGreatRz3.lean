/- Laid together: RfPl RfM RfPs RfWi RPath -/
import Derived.Test.YtfkgdjoaoidkeaaGreatRz2
import Derived.Test.YtfkgdjoaoidkeaaGreatShelf
import Derived.Deep.QuietTactic
import Derived.BigQuiet
import Derived.Test.YtfkgdjoaoidkeaaGreatRz0
import Derived.RangeFuncBound
import Derived.RangeFuncNested
import Derived.Laws.CopyRow
import Derived.Deep.RegionHeldLaw
import Derived.Deep.RegionHeld3
import Derived.Deep.MidRow

namespace Go.Proofs.YtfkgdjoaoidkeaaGreat
open Go.RowKit Go.ChangeShapes
set_option linter.unusedVariables false
attribute [local go_sem] Oper.semAt_some
def MlAt (w : World) : Prop := ∃ m : Int, w.cell? ⟨0, 0, none⟩ = some (.int .i64 m)
theorem MlAt.keep {S : Nat → Prop} {w w' : World} (h : MlAt w) (hf : Fr S w w') (hn : ¬ S 0) : MlAt w' := by
  obtain ⟨m, hm⟩ := h
  exact ⟨m, hf.cell hm hn⟩
theorem MlAt.lt {w : World} (h : MlAt w) : 0 < w.heap.size := by
  obtain ⟨m, hm⟩ := h
  exact World.block_lt_of_cell? _ _ hm
theorem ints_bytesOf (L : List UInt8) : Go.Lib.bytesOf (L.map fun u => (u.toNat : Int)) = L := by
  unfold Go.Lib.bytesOf
  rw [List.map_map]
  conv => rhs; rw [← List.map_id L]
  refine List.map_congr_left fun u _ => ?_
  simp
theorem u8_ints (L : List UInt8) : ∀ x ∈ (L.map fun u => (u.toNat : Int)), 0 ≤ x ∧ x < 256 := by
  intro x hx
  obtain ⟨u, _, rfl⟩ := List.mem_map.1 hx
  have := u.toNat_lt
  omega
theorem index_any {F : Nat → Prop} (w : World) (v : Value) (L s : List UInt8) (g : Nat) (hv : BytesIn F w v L) (hg : w.heap[g]? = some (.cells (ltC s) 51 (0, 0))) (hs : s.length = 32) (hL : L.length ≤ 1000000000) (hm : MlAt w) :
    Calls Tryz.prog 44 #[v, .slice (some ⟨g, 0, none⟩) 32 32] w fun e w' => e = .returned (.int .i64 (Go.Lib.index L s)) ∧ ∃ q, w' = w.drewN q := by
  obtain ⟨m, hm⟩ := hm
  obtain ⟨ao, cap, rfl, h1, h2, h3, h4⟩ := hv
  have hc2 : ∀ i, i < 32 → w.cell? ((⟨g, 0, none⟩ : Addr).add i) = some (.int .u8 ((s.map fun u => (u.toNat : Int)).getD i 0)) := fun i hi => by
    rw [addr_plain, Nat.zero_add, cell_of_row _ _ _ _ _ _ hg]
    unfold ltC
    have hi' : i < s.length := by omega
    rw [List.getElem?_toArray, List.getElem?_map, List.getElem?_eq_getElem hi', List.getD_eq_getElem?_getD, List.getElem?_map, List.getElem?_eq_getElem hi']
    rfl
  cases ao with
  | none =>
    obtain rfl := h3 rfl
    obtain rfl : L = [] := List.eq_nil_of_length_eq_zero (by omega)
    have := Tryz.bytes_Index_nil (some ⟨g, 0, none⟩) 32 32 w (by decide) (fun h => by omega)
    refine this.mono ?_
    rintro e w' ⟨rfl, rfl⟩
    refine ⟨?_, 0, rfl⟩
    rw [if_neg (by decide)]
    rcases Go.Lib.index_spec [] s with ⟨he, _⟩ | ⟨i, he, hl, ho, _⟩
    · rw [he]
    · have hr := Go.Lib.occAt_room ho
      rw [hs] at hr
      rcases hr with hr | hr
      · simp at hr
      · rw [hr] at hs; simp at hs
  | some a =>
    have := Tryz.bytes_Index_at a ⟨g, 0, none⟩ L.length cap 32 32 (L.map fun u => (u.toNat : Int)) (s.map fun u => (u.toNat : Int)) m w (by simp) (by simpa using hs) (u8_ints L) (u8_ints s) (fun i hi => by
      have := (h4 a rfl).1 i (bv L[i]) (by rw [List.getElem?_map, List.getElem?_eq_getElem hi]; rfl)
      rw [this, List.getD_eq_getElem?_getD, List.getElem?_map, List.getElem?_eq_getElem hi]
      rfl) hc2 h1 (by omega) (by decide) hm
    rw [ints_bytesOf, ints_bytesOf] at this
    exact this
theorem run_cutLet (w : World) (g : Nat) : (Instr.sliceAt 51 (.pointer (some ⟨g, 0, none⟩)) none none none).run Tryz.prog w = .ok (.slice (some ⟨g, 0, none⟩) 32 32) w := by kernel_rfl
theorem Fr.grew {A B : World} (h : Fr (fun _ => False) A B) : A.grownBy B none := ⟨h.os, h.tape, h.output, h.size, fun k hk _ => h.block k hk id⟩
structure ItP (F : Nat → Prop) (Bb Bl : Nat) (v : Value) (b s : List UInt8) (W : World) : Prop where
  box : W.cell? ⟨Bb, 0, none⟩ = some v
  lets : W.heap[Bl]? = some (.cells (ltC s) 51 (0, 0))
  byt : BytesIn F W v b
  ml : MlAt W
theorem ItP.keep {T F : Nat → Prop} {Bb Bl : Nat} {v : Value} {b s : List UInt8} {W W' : World} (h : ItP F Bb Bl v b s W) (hf : Fr T W W') (h1 : ¬ T Bb) (h2 : ¬ T Bl) (h3 : ∀ k, F k → ¬ T k) (h4 : ¬ T 0) : ItP F Bb Bl v b s W' :=
  ⟨hf.cell h.box h1, hf.heap h.lets h2, h.byt.keep hf (fun k _ hk => h3 k hk), h.ml.keep hf h4⟩
def encI (x : Nat) : Array Value := #[.int .i64 (x : Nat)]
set_option maxRecDepth 100000 in
set_option maxHeartbeats 4000000 in
theorem places1_in {T F : Nat → Prop} (n0 : Nat) (l Bb Bl : Nat) (v : Value) (b s : List UInt8) (hs : s.length = 32) (hb : b.length ≤ 1000000000) (hT1 : ¬ T Bb) (hT2 : ¬ T Bl) (hT3 : ∀ k, F k → ¬ T k) (hT4 : ¬ T 0) (B0 : Nat) (J Jx : List Nat → World → Prop) (hJ : AbidesFrom B0 J)
    (hY : ∀ pre x W, J pre W → pre.length < (placesR b s).length → YieldAt Fence.wide (n0 - 1) Tryz.prog l (encI x) W fun e W' =>
      (e = .returned (.bool true) ∧ J (pre ++ [x]) W' ∧ Fr T W W') ∨ (e = .returned (.bool false) ∧ Jx (pre ++ [x]) W'))
    (W : World) (hR : ItP F Bb Bl v b s W) (h0 : J [] W) :
    CallsIn Fence.wide n0 Tryz.prog 43 #[.func (.yield l) #[] #[], .pointer (some ⟨Bb, 0, none⟩), .pointer (some ⟨Bl, 0, none⟩)] W fun e W' => (∃ v, e = .returned v) ∧
      ((∃ ys, ys = placesR b s ∧ J ys W') ∨ (∃ pre, pre <+: placesR b s ∧ Jx pre W')) := by
  obtain ⟨X, hX⟩ : ∃ X, X = placesR b s := ⟨_, rfl⟩
  rw [← hX] at hY
  rw [← hX]
  have hvf : ∃ ao cap, v = .slice ao b.length cap := by
    obtain ⟨ao, cap, hv, _⟩ := hR.byt
    exact ⟨ao, cap, hv⟩
  obtain ⟨ao, cap, rfl⟩ := hvf
  obtain ⟨n, hn⟩ : ∃ n, n = b.length := ⟨_, rfl⟩
  rw [← hn] at hb hR
  have HR := Lib.hid hR
  have HY := Lib.hid hY
  have HJ := Lib.hid hJ
  have HT := Lib.hid (And.intro hT1 (And.intro hT2 (And.intro hT3 hT4)))
  have HN := Lib.hid (And.intro hn (And.intro hX hs))
  clear hR hY hJ hT1 hT2 hT3 hT4 hn hX hs
  refine callsIn_of_wp Tryz.func43 rfl trivial ?_ rfl
  simp only [Tryz.ntmps43, List.size_toArray, List.length_cons, List.length_nil, Nat.reduceAdd, Nat.reduceSub, Array.replicate_succ, Array.replicate_zero, List.push_toArray, List.append_toArray, List.nil_append, List.cons_append]
  gi_wp2
  gi_loopw [4, 5] (fun iv jv wr => ∃ k p : Nat, k ≤ n ∧ iv = .int .i64 k ∧ J (X.take p) wr ∧ Hid (AtR b s k (X.take p) ∧ p = (X.take p).length ∧ ItP F Bb Bl (.slice ao n cap) b s wr)) (fun iv _ _ => n - (intOf iv).toNat)
  case atStart => exact ⟨0, 0, by omega, rfl, h0, Lib.hid ⟨by simpa using AtR.zero b s, by simp, HR.out⟩⟩
  case round =>
    clear h0
    obtain ⟨k, p, hk, rfl, hJs, hRr⟩ := hrel
    have hbx := hRr.out.2.2.box
    have hcl := fun W => run_cutLow W ao n cap k hk
    have hcb := fun W => run_cutLet W Bl
    have HI := Lib.hid (fun q => index_any (wr.drewN q) _ _ s Bl ((hRr.out.2.2.byt.cutLow k (by rw [← HN.out.1]; exact hk)).drewN q) hRr.out.2.2.lets HN.out.2.2 (by have := HN.out.1; rw [List.length_drop]; omega) (by obtain ⟨m, hm⟩ := hRr.out.2.2.ml; exact ⟨m, hm⟩))
    obtain ⟨z, hz⟩ : ∃ z, z = Go.Lib.index (b.drop k) s := ⟨_, rfl⟩
    rw [← hz] at HI
    have HZ := Lib.hid hz
    clear hz
    gi_wp2
    refine wpIn_wide.2 ?_
    go_quiet ((go_at_call 44; exact Calls.quiet_of (HI.out _)))
    have hf2 : Fr (fun _ => False) wr (wr.drewN nq) := (Fr.refl _ _).drewN nq
    have hJ2 : J (X.take p) (wr.drewN nq) := HJ.out _ _ _ none hJs (Fr.grew hf2) (fun r e => by cases e)
    have HR2 := Lib.hid (hRr.out.2.2.keep hf2 (fun h => h) (fun h => h) (fun _ _ h => h) (fun h => h))
    generalize hW2 : wr.drewN nq = W2 at *
    have HA := Lib.hid (And.intro hRr.out.1 hRr.out.2.1)
    clear hW2 hf2 hJs hbx hcl hcb HI hRr
    by_cases hz : z < 0
    · have HD := Lib.hid (show X.take p = X by
        have h1 := HA.out.1.done HN.out.2.2 (by rw [← HZ.out]; exact hz)
        rw [← HN.out.2.1] at h1
        exact h1.symm)
      gi_wp2
      refine ⟨fun _ h => (by cases h), ?_⟩
      gi_wp2
      refine bodyPost_ret (results_none rfl _ _ _) rfl ?_
      exact ⟨⟨_, rfl⟩, .inl ⟨_, rfl, by rw [HD.out] at hJ2; exact hJ2⟩⟩
    · obtain ⟨j, rfl⟩ : ∃ j : Nat, z = j := ⟨z.toNat, by omega⟩
      have hmo := HA.out.1.more HN.out.2.2 HZ.out.symm
      have hjn : k + j + 32 ≤ n := by have := hmo.1; have := HN.out.1; omega
      obtain ⟨x, hx⟩ : ∃ x, x = k + j := ⟨_, rfl⟩
      rw [← hx] at hmo
      have hki : (k : Int) + (j : Int) = (x : Nat) := by omega
      have hpl : (X.take p).length < X.length := by
        have h1 := hmo.take
        rw [← HN.out.2.1] at h1
        have h2 := congrArg List.length h1
        rw [List.length_take, List.length_append] at h2
        simp only [List.length_cons, List.length_nil] at h2
        omega
      have htk : X.take (p + 1) = X.take p ++ [x] := by
        have h1 := hmo.take
        rw [← HN.out.2.1, List.length_append, ← HA.out.2] at h1
        exact h1
      obtain ⟨fn, tmps, assign, body, hy, hRd⟩ := HY.out _ x W2 hJ2 hpl
      simp only [encI] at hy
      have HM := Lib.hid (And.intro hmo htk)
      have hxn : x + 32 ≤ n := by omega
      have hx64 : (x : Int) ≤ 1000000000 := by omega
      have hzd : decide ((j : Int) < 0) = false := by rw [decide_eq_false_iff_not]; omega
      have hzn : ¬ (j : Int) < 0 := by omega
      have HX := Lib.hid hx
      clear hmo htk hpl hx hJ2
      gi_wp2
      refine ⟨fun hx => WideF.out.free hx, hRd.mono ?_⟩
      rintro e W3 (⟨rfl, hJ3, hk3⟩ | ⟨rfl, hJx3⟩)
      · have HR3 := Lib.hid (HR2.out.keep hk3 HT.out.1 HT.out.2.1 HT.out.2.2.1 HT.out.2.2.2)
        gi_wp2
        go_roundw
        case rel =>
          refine ⟨x + 32, p + 1, hxn, ?_, by rw [HM.out.2]; exact hJ3, Lib.hid ⟨by rw [HM.out.2]; exact HM.out.1, by rw [HM.out.2, List.length_append, ← HA.out.2]; rfl, HR3.out⟩⟩
          have := HX.out
          rw [show (k : Int) + ((j : Int) + 32) = ((x + 32 : Nat) : Int) by omega]
        case measure => simp [intOf]; omega
      · gi_wp2
        refine bodyPost_ret (results_none rfl _ _ _) rfl ?_
        exact ⟨⟨_, rfl⟩, .inr ⟨_, by rw [← HM.out.2]; exact List.take_prefix _ _, hJx3⟩⟩
theorem ItP.below {F : Nat → Prop} {Bb Bl : Nat} {v : Value} {b s : List UInt8} {w W : World} (h : ItP F Bb Bl v b s w) (hF : ∀ k, F k → k < w.heap.size) (hb : Below w.heap.size w W) : ItP F Bb Bl v b s W := by
  have h1 := World.block_lt_of_cell? _ _ h.box
  have h2 := lt_of_block h.lets
  have h3 := h.ml.lt
  simp only at h1
  exact h.keep (Fr.ofBelow hb) (fun h => by omega) (fun h => by omega) (fun k hk h => by have := hF k hk; omega) (fun h => by omega)
theorem places_stops {T F : Nat → Prop} (n0 Bb Bl : Nat) (v : Value) (b s : List UInt8) (hs : s.length = 32) (hb : b.length ≤ 1000000000) (hT1 : ¬ T Bb) (hT2 : ¬ T Bl) (hT3 : ∀ k, F k → ¬ T k) (hT4 : ¬ T 0) (w : World) (hF : ∀ k, F k → k < w.heap.size) (hR : ItP F Bb Bl v b s w) :
    SeqStopsK Fence.wide n0 Tryz.prog 43 #[.pointer (some ⟨Bb, 0, none⟩), .pointer (some ⟨Bl, 0, none⟩)] encI (Fr T) (fun ys => ys = placesR b s) (fun pre => pre <+: placesR b s) (placesR b s).length w :=
  fun l J Jx W hW hJ hJx hY h0 => places1_in n0 l Bb Bl v b s hs hb hT1 hT2 hT3 hT4 _ J Jx hJ hY W (hR.below hF hW) h0
theorem places_any (w : World) (ao : Option Addr) (n cap : Nat) (C : Array Value) :
    Calls Tryz.prog 31 #[.slice ao n cap, .agg C] w fun e w' => e = .returned (.func (.func 43) #[] #[.pointer (some ⟨w.heap.size, 0, none⟩), .pointer (some ⟨w.heap.size + 1, 0, none⟩)]) ∧ w' = (w.alloc (.cells #[.slice ao n cap] 22)).alloc (.cells C 51) := by
  go_enter Tryz.func31, Tryz.ntmps31
  go_wp2
  go_ret
  exact ⟨rfl, rfl⟩
end Go.Proofs.YtfkgdjoaoidkeaaGreat
namespace Go.Proofs.YtfkgdjoaoidkeaaGreat
open Go.RowKit Go.ChangeShapes
set_option linter.unusedVariables false
theorem cell_put {w : World} {b i : Nat} {c : Array Value} {t : TypeId} {z : Nat × Nat} (u : Value) (h : w.heap[b]? = some (.cells c t z)) :
    (w.setCell ⟨b, i, none⟩ u).heap[b]? = some (.cells (c.setIfInBounds i u) t z) := by
  simp only [World.setCell, Array.getElem?_modify, h]
  simp
theorem Fr.cell1 (w : World) (b i : Nat) (u : Value) : Fr (· = b) w (w.setCell ⟨b, i, none⟩ u) := (Fr.refl (· = b) w).setCell (p := ⟨b, i, none⟩) (.inl rfl) u
theorem fr_putObj {T : Nat → Prop} (W : World) (l : Nat) (o' : Obj) (hT : T l) : Fr T W (W.putObj l o') :=
  (Fr.refl T W).grown (grownBy_putObj' W l o') (fun k e => by cases e; exact .inl hT)
theorem one_cell {w : World} {b : Nat} {x : Value} {T : TypeId} (h : w.heap[b]? = some (.cells #[x] T (0, 0))) : w.cell? ⟨b, 0, none⟩ = some x ∧ w.frozen? ⟨b, 0, none⟩ = false := ⟨cell_of_one h, by simp [World.frozen?, h]⟩
theorem one_put {w : World} {b : Nat} {x : Value} {T : TypeId} (h : w.heap[b]? = some (.cells #[x] T (0, 0))) (u : Value) : (w.setCell ⟨b, 0, none⟩ u).heap[b]? = some (.cells #[u] T (0, 0)) := cell_put (i := 0) u h
theorem op_append7 {w w' : World} {o : Oper} {a : Act} {s x : Operand} {ST : TypeId} {v y u : Value} (ho : o.op = Op.call { callee := Callee.builtin Builtin.append, args := #[s, x], argTypes := #[ST, ST] }) (hs : a.eval s = v) (hx : a.eval x = y) (hr : (Builtin.append_ #[ST, ST] o.type #[v, y]).run Tryz.prog w = .ok u w') : (execOp a.eval o).run Tryz.prog w = .ok (.value u) w' := by
  simp [execOp, ho, resolve, invoke, builtin, hs, hx, hr, Result.andThen]
theorem OwnE.ownCells {T : TypeId} {k z : Nat} {w : World} {v : Value} {css : List (List Value)} (h : OwnE T k z w v css) {g : Nat} (hg : v.ownBlock = some g) : ∃ cs, w.heap[g]? = some (.cells cs T (0, 0)) := by
  rcases h.row.2 with ⟨hv, _⟩ | ⟨g', cap, cur, hv, hb, hg', _⟩
  · rw [hv] at hg; simp [Value.ownBlock] at hg
  · rw [hv] at hg
    simp only [Value.ownBlock, Option.some.injEq] at hg
    subst hg
    exact ⟨_, hg'⟩
theorem OwnE.grown {T : TypeId} {k z : Nat} {w w' : World} {v : Value} {css : List (List Value)} {row : Option Nat} (h : OwnE T k z w v css) (hg : w.grownBy w' row) (hr : ∀ r, row = some r → ∃ o : Obj, w.heap[r]? = some o ∧ o.isCells = false) : OwnE T k z w' v css :=
  OwnE.keep h ((Fr.refl (fun k => row = some k) w).grown hg (fun k hk => .inl hk)) (fun g hgb e => by
    obtain ⟨cs, hb⟩ := h.ownCells hgb
    obtain ⟨o, ho, hc⟩ := hr g e
    rw [hb] at ho
    cases ho
    cases hc)
end Go.Proofs.YtfkgdjoaoidkeaaGreat
namespace Go.Proofs.YtfkgdjoaoidkeaaGreat
open Go.RowKit Go.ChangeShapes
set_option linter.unusedVariables false
attribute [local go_sem] Oper.semAt_some
structure PsAt (T : Nat → Prop) (z : Nat) (W0 W : World) (bl : Nat) (xs : List Nat) : Prop where
  own : ∃ v, W.heap[bl]? = some (.cells #[v] 31 (0, 0)) ∧ OwnI z W v xs
  fr : Fr T W0 W
theorem PsAt.grown {T : Nat → Prop} {z : Nat} {W0 W W' : World} {bl : Nat} {xs : List Nat} {row : Option Nat} (h : PsAt T z W0 W bl xs) (hb : bl < z) (hT : ∀ k, z ≤ k → T k) (hg : W.grownBy W' row) (hr : ∀ r, row = some r → z ≤ r ∧ ∃ o : Obj, W.heap[r]? = some o ∧ o.isCells = false) : PsAt T z W0 W' bl xs := by
  have hf : Fr (fun k => row = some k) W W' := (Fr.refl _ W).grown hg (fun k hk => .inl hk)
  obtain ⟨v, h1, h2⟩ := h.own
  exact ⟨⟨v, hf.heap h1 (fun e => by have := (hr _ e).1; omega), OwnE.grown h2 hg (fun r e => (hr r e).2)⟩, h.fr.trans hf (fun k hk => .inl (hT k (hr k hk).1))⟩
theorem PsAt.step {T : Nat → Prop} {z : Nat} {W0 W w8 : World} {bl x : Nat} {xs : List Nat} {v0 v8 : Value} (h : PsAt T z W0 W bl xs) (hb : bl < z) (hT : ∀ k, z ≤ k → T k) (hTl : T bl) (h1 : W.heap[bl]? = some (.cells #[v0] 31 (0, 0))) (h0 : OwnI z W v0 xs) (h8 : OwnI z w8 v8 (xs ++ [x])) (hf8 : Fr (fun k => v0.ownBlock = some k) W w8) :
    KeepsFrom z W (w8.setCell ⟨bl, 0, none⟩ v8) ∧ Fr T W (w8.setCell ⟨bl, 0, none⟩ v8) ∧ PsAt T z W0 (w8.setCell ⟨bl, 0, none⟩ v8) bl (xs ++ [x]) := by
  have hob : ∀ k, v0.ownBlock = some k → z ≤ k ∧ ∃ cs, W.heap[k]? = some (.cells cs 3 (0, 0)) := fun k hk => ⟨(OwnE.own h0 k hk).1, OwnE.ownCells h0 hk⟩
  have hl8 := hf8.heap h1 (fun e => by have := (hob _ e).1; omega)
  have f1 := Fr.cell1 w8 bl 0 v8
  have hall : Fr (fun k => v0.ownBlock = some k ∨ k = bl) W (w8.setCell ⟨bl, 0, none⟩ v8) :=
    (hf8.mono (T := fun k => v0.ownBlock = some k ∨ k = bl) (fun _ _ h => .inl h)).trans f1 (fun k e => .inl (.inr e))
  have hallT : Fr T W (w8.setCell ⟨bl, 0, none⟩ v8) := hall.mono (fun k _ hk => by
    rcases hk with hk | rfl
    · exact hT k (hob k hk).1
    · exact hTl)
  refine ⟨⟨hall.size, fun k o hzk hk hc => hall.heap hk (fun hs => ?_)⟩, hallT, ⟨⟨v8, one_put hl8 v8, OwnE.keep h8 f1 (fun g hg e => ?_)⟩, h.fr.trans hallT (fun _ h => .inl h)⟩⟩
  · rcases hs with hs | rfl
    · obtain ⟨_, cs, hb9⟩ := hob k hs
      rw [hb9] at hk
      cases hk
      cases hc
    · omega
  · have := (OwnE.own h8 g hg).1
    have e' : g = bl := e
    omega
set_option maxRecDepth 100000 in
set_option maxHeartbeats 4000000 in
theorem fPlaces_in {F : Nat → Prop} (w : World) (v : Value) (b H : List UInt8) (hH : H.length = 20) (hv : BytesIn F w v b) (hF : ∀ k, F k → k < w.heap.size) (hb : b.length ≤ 1000000) (hm : MlAt w) :
    CallsIn Fence.wide 3 Tryz.prog 13 #[v, .agg (H.map bv).toArray] w fun e w' => ∃ u, e = .returned u ∧ OwnI w.heap.size w' u (placesR b (letL H)) ∧ Fr (fun _ => False) w w' := by
  obtain ⟨ao, n, cap, rfl⟩ : ∃ ao n cap, v = .slice ao n cap := by obtain ⟨ao, cap, h, _⟩ := hv; exact ⟨_, _, _, h⟩
  obtain ⟨C, hC⟩ : ∃ C, C = (H.map bv).toArray := ⟨_, rfl⟩
  have hcs : C.size = 20 := by rw [hC]; simp [hH]
  have HLO := Lib.hid (fun W => lettersOf_any H hH W)
  rw [← hC] at HLO ⊢
  have hsl := letL_length H
  obtain ⟨s, hs⟩ : ∃ s, s = letL H := ⟨_, rfl⟩
  rw [← hs] at HLO hsl ⊢
  clear hC hs hH
  obtain ⟨W1, hW1⟩ : ∃ W1, W1 = (w.alloc (.cells C 24)).alloc (.cells #[.slice none 0 0] 31) := ⟨_, rfl⟩
  have hf1 : Fr (fun _ => False) w W1 := by rw [hW1]; exact ((Fr.refl _ _).alloc _).alloc _
  have hz1 : W1.heap.size = w.heap.size + 2 := by rw [hW1]; simp
  have hr1 : W1.heap[w.heap.size]? = some (.cells C 24 (0, 0)) := by rw [hW1]; exact heap_alloc2_old w _ _
  have hr2 : W1.heap[w.heap.size + 1]? = some (.cells #[.slice none 0 0] 31 (0, 0)) := by rw [hW1]; exact heap_alloc2_new w _ _
  have HW := Lib.hid hW1
  have HX := Lib.hid (And.intro hf1 (And.intro hr2 (And.intro hv (And.intro hF (And.intro hm (And.intro hb hsl))))))
  have HR1 := Lib.hid hr1
  clear hW1 hf1 hr1 hr2 hv hF hm hb hsl
  refine callsIn_of_wp_marks Tryz.func13 rfl trivial ?_ rfl
  simp only [Tryz.ntmps13, List.size_toArray, List.length_cons, List.length_nil, Nat.reduceAdd, Nat.reduceSub, Array.replicate_succ, Array.replicate_zero, List.push_toArray, List.append_toArray, List.nil_append, List.cons_append]
  refine wpIn_wide.2 ?_
  go_wp2_with (first
    | (rw [← HW.out]; (with_reducible refine wpList_load_row rfl 24 (.tmp 3) rfl w.heap.size rfl 24 C (0, 0) _ HR1.out Tryz.underlying24 rfl (by rw [hcs]; kernel_rfl) ?_))
    | (go_at_call 28; refine (HLO.out _).mono ?_; rintro e w2 ⟨rfl, hf2⟩)
    | (go_at_call 31; refine (places_any _ _ _ _ _).mono ?_; rintro e w3 ⟨rfl, rfl⟩))
  obtain ⟨bb, hbb⟩ : ∃ bb, bb = w2.heap.size := ⟨_, rfl⟩
  obtain ⟨bl, hbl⟩ : ∃ bl, bl = w.heap.size + 1 := ⟨_, rfl⟩
  obtain ⟨W0, hW0⟩ : ∃ W0, W0 = (w2.alloc (.cells #[.slice ao n cap] 22)).alloc (.cells (ltC s) 51) := ⟨_, rfl⟩
  have hf0 : Fr (fun _ => False) w2 W0 := by rw [hW0]; exact ((Fr.refl _ _).alloc _).alloc _
  have hz0 : W0.heap.size = bb + 2 := by rw [hW0, hbb]; simp
  have j1 : W0.heap[bb]? = some (.cells #[.slice ao n cap] 22 (0, 0)) := by rw [hW0, hbb]; exact heap_alloc2_old w2 _ _
  have j2 : W0.heap[bb + 1]? = some (.cells (ltC s) 51 (0, 0)) := by rw [hW0, hbb]; exact heap_alloc2_new w2 _ _
  rw [← hbb, ← hbl, ← hW0]
  have hf10 : Fr (fun _ => False) W1 W0 := hf2.trans hf0 (fun _ h => h.elim)
  have hfw : Fr (fun _ => False) w W0 := HX.out.1.trans hf10 (fun _ h => h.elim)
  have hs12 := hf2.size
  obtain ⟨T, hT⟩ : ∃ T : Nat → Prop, T = fun k => k = bl ∨ W0.heap.size ≤ k := ⟨_, rfl⟩
  have hT0 : ∀ k, W0.heap.size ≤ k → T k := fun k hk => by rw [hT]; exact .inr hk
  have hTn : ∀ k, k ≠ bl → k < W0.heap.size → ¬ T k := fun k h1 h2 h3 => by rw [hT] at h3; rcases h3 with h3 | h3 <;> omega
  have hml := HX.out.2.2.2.2.1.lt
  have hFw := HX.out.2.2.2.1
  have hIt : ItP (fun k => F k) bb (bb + 1) (.slice ao n cap) b s W0 := ⟨cell_of_one j1, j2, HX.out.2.2.1.keep hfw (fun _ _ _ h => h), HX.out.2.2.2.2.1.keep hfw (fun h => h)⟩
  have hst0 : PsAt T W0.heap.size W0 W0 bl [] := ⟨⟨_, by rw [hbl]; exact hf10.heap HX.out.2.1 (fun h => h), OwnI.nil _ _⟩, Fr.refl _ _⟩
  have hblw : bl < W0.heap.size := by omega
  have h1 := hTn bb (by omega) (by omega)
  have h2 := hTn (bb + 1) (by omega) (by omega)
  have h3 : ∀ k, F k → ¬ T k := fun k hk => hTn _ (by have := hFw k hk; omega) (by have := hFw k hk; omega)
  have h4 := hTn 0 (by omega) (by omega)
  have h5 : ∀ k, F k → k < W0.heap.size := fun k hk => by have := hFw k hk; omega
  have hpn := placesR_length b s
  have HV := Lib.hid (And.intro hT (And.intro hT0 (And.intro hz0 (And.intro hfw (And.intro hblw (And.intro hbl hpn))))))
  clear hf2 hf0 hf10 j1 j2 hs12 hW0 hT hbb hbl hz0 hz1 hml hFw hfw hpn
  refine (wpIn_wide (n := 3)).1 ?_
  refine wpIn_rangeFunc_ownH rfl (by decide) (gf := 43) (lb := #[.pointer (some ⟨bb, 0, none⟩), .pointer (some ⟨bb + 1, 0, none⟩)]) rfl trivial (enters_of Tryz.func43 (by kernel_rfl) rfl)
    (places_stops (T := T) 2 bb (bb + 1) _ b s HX.out.2.2.2.2.2.2 (by have := HX.out.2.2.2.2.2.1; omega) h1 h2 h3 h4 W0 h5 hIt)
    (fun h k => h.trans k (fun _ hi => .inl hi)) (fun W l o o' hl _ _ _ => fr_putObj W l o' (hT0 l hl)) (Below.refl _ _) (fun _ => rfl)
    (fun (pre : List Nat) W => PsAt T W0.heap.size W0 W bl pre ∧ pre.length ≤ 1000000)
    (fun c (pre : List Nat) W => False)
    (fun pre A B row hs hg hr => ⟨hs.1.grown hblw hT0 hg hr, hs.2⟩)
    (fun c pre A B row hs hg hr => hs.elim)
    ⟨hst0, by simp⟩
    (fun x a' W => a' = ⟨#[.slice ao n cap, .agg C, undef, .pointer (some ⟨w.heap.size, 0, none⟩), .slice none 0 0, .pointer (some ⟨bl, 0, none⟩), .int .i64 (x : Nat), .slice ao n cap, .agg C, .agg (ltC s), .func (.func 43) #[] #[.pointer (some ⟨bb, 0, none⟩), .pointer (some ⟨bb + 1, 0, none⟩)], .int .i64 (x : Nat), undef, undef, undef, undef, undef], []⟩)
    (fun x a' s A B row hs hg hr => hs) ?assign ?body ?done ?stop
  case assign =>
    rintro l9 pre x W' K hI hK
    simp only [encI]
    gi_wp2
    exact hK _ _ (KeepsFrom.refl _ _) (Fr.refl _ _) hI rfl
  case body =>
    rintro l9 pre x a' W hll hr9 hst rfl hlt9
    obtain ⟨v0, h1, ho⟩ := hst.1.own
    obtain ⟨a0, c0, rfl⟩ := ho.form
    have el := cell_of_one h1
    have hbi := run_int1 W (x : Int)
    obtain ⟨a9, n9, c9, w9, hrun, ho9, hf9⟩ := run_append_i W 31 _ pre x ho (by have := hst.1.fr.size; omega) (by have := HV.out.2.2.2.2.2.2; have := HX.out.2.2.2.2.2.1; omega)
    have hs := hst.1.step hblw hT0 (by rw [HV.out.1]; exact .inl rfl) h1 ho ho9 hf9
    have hl9 := hf9.heap h1 (fun e => by have := (OwnE.own ho _ e).1; omega)
    obtain ⟨q1, q2⟩ := one_cell hl9
    have HS := Lib.hid hs
    have hpl : pre.length + 1 ≤ 1000000 := by have := HV.out.2.2.2.2.2.2; have := HX.out.2.2.2.2.2.1; omega
    clear hs ho9 hf9 h1 ho hst hl9
    gi_wp2_with (refine wpListIn_value (.round l9) rfl (by intro c h; cases h) (.slice a9 n9 c9) w9 (op_append7 rfl rfl rfl hrun) ?_)
    exact ⟨HS.out.1, HS.out.2.1, HS.out.2.2, by rw [List.length_append]; exact hpl⟩
  case done =>
    rintro D ys W hD rfl hst hK
    obtain ⟨v0, h1, ho⟩ := hst.1.own
    obtain ⟨a0, c0, rfl⟩ := ho.form
    have el := cell_of_one h1
    have HI := Lib.hid (And.intro ho hst.1.fr)
    have HK := Lib.hid hK
    clear h1 ho hst hK
    go_wp2
    refine ⟨by simp, .inl ⟨_, _, rfl, run_takeDeferred HK.out, ?_⟩⟩
    have hfd := fr_putObj (T := (· = D)) W D (.deferred none) rfl
    refine ⟨_, results_tmp rfl _ _ _, _, rfl, ?_, (HV.out.2.2.2.1.trans (S := fun _ => False) HI.out.2 (fun k hk => ?_)).trans hfd (fun k e => .inr (by have : k = D := e; have := HV.out.2.2.2.1.size; omega))⟩
    · have h9 := OwnE.keep HI.out.1 hfd (fun g hg e => by
        obtain ⟨cs, hb⟩ := OwnE.ownCells HI.out.1 hg
        rw [show g = D from e, HK.out] at hb
        cases hb)
      exact OwnI.lower h9 (HV.out.2.2.2.1.size)
    · rw [HV.out.1] at hk
      have := HV.out.2.2.2.1.size
      have := HV.out.2.2.2.2.2.1
      rcases hk with hk | hk <;> exact .inr (by omega)
  case stop =>
    rintro D c pre W hD hpre hst hK
    exact hst.elim
theorem fPlaces_any {F : Nat → Prop} (w : World) (v : Value) (b H : List UInt8) (hH : H.length = 20) (hv : BytesIn F w v b) (hF : ∀ k, F k → k < w.heap.size) (hb : b.length ≤ 1000000) (hm : MlAt w) :
    Calls Tryz.prog 13 #[v, .agg (H.map bv).toArray] w fun e w' => ∃ u, e = .returned u ∧ OwnI w.heap.size w' u (placesR b (letL H)) ∧ Fr (fun _ => False) w w' := callsIn_wide.1 (fPlaces_in w v b H hH hv hF hb hm)
end Go.Proofs.YtfkgdjoaoidkeaaGreat
namespace Go.Proofs.YtfkgdjoaoidkeaaGreat
open Go.RowKit Go.ChangeShapes
set_option linter.unusedVariables false
theorem OwnB.caseB {F : Nat → Prop} {w : World} {v : Value} {L : List UInt8} (h : OwnB F w v L) : (v = .slice none 0 0 ∧ L = []) ∨ ∃ g cap cur, v = .slice (some ⟨g, 0, none⟩) L.length cap ∧ F g ∧ w.heap[g]? = some (.cells cur 5 (0, 0)) ∧ L.length ≤ cap ∧ cap ≤ maxLen ∧ cur.size = cap ∧ cur.toList.take L.length = L.map bv := by
  rcases h.1.2 with ⟨hv, h0⟩ | ⟨g, cap, cur, hv, hb, hg, hnc, hcm, hcs, ht⟩
  · exact .inl ⟨hv, List.eq_nil_of_length_eq_zero h0⟩
  · refine .inr ⟨g, cap, cur, hv, h.2 g (by rw [hv]; rfl), hg, hnc, hcm, by simpa using hcs, by simpa using ht⟩
theorem run_copy_put {F : Nat → Prop} (w : World) (g cap p gl : Nat) (L s : List UInt8) (h : OwnB F w (.slice (some ⟨g, 0, none⟩) L.length cap) L) (hl : w.heap[gl]? = some (.cells (ltC s) 51 (0, 0))) (hs : s.length = 32) (hp : p + 32 ≤ L.length) :
    ∃ w', (∀ ty, (Builtin.copy_ #[22, 22] ty #[.slice (some ⟨g, p, none⟩) (L.length - p) (cap - p), .slice (some ⟨gl, 0, none⟩) 32 32]).run Tryz.prog w = .ok (.int .i64 32) w') ∧ OwnB F w' (.slice (some ⟨g, 0, none⟩) L.length cap) (putR s L p) ∧ Fr (· = g) w w' := by
  rcases h.1.2 with ⟨hv, h0⟩ | ⟨g', cap', cur, hv, hb, hg, hnc, hcm, hcs, ht⟩
  · cases hv
  · simp only [Value.slice.injEq, Option.some.injEq, Addr.mk.injEq, and_true, true_and] at hv
    obtain ⟨rfl, rfl⟩ := hv
    rw [Nat.mul_one] at hcs ht
    have hrun := fun ty => run_copy_row (P := Tryz.prog) w 22 22 ty 5 g p (L.length - p) (cap - p) ⟨gl, 0, none⟩ 32 32 cur 5 (s.map bv) Tryz.underlying22 (by kernel_rfl) hg (by rw [List.length_map, hs]; exact (Nat.min_eq_left (by omega)).symm)
      (fun j v hv => by
        rw [addr_plain, Nat.zero_add, cell_of_row _ _ _ _ _ _ hl]
        unfold ltC
        rw [List.getElem?_toArray]
        exact hv) (by rw [List.length_map, hs]; omega) (bv_one _)
    refine ⟨_, fun ty => by rw [hrun ty, List.length_map, hs]; rfl, ⟨⟨?_, .inr ⟨g, cap, _, by rw [putR_length hs hp], hb, setRow_heap w g _ _ _ (0, 0) hg, by rw [putR_length hs hp]; exact hnc, hcm, ?_, ?_⟩⟩, h.2⟩, (Fr.refl (· = g) w).setRow (.inl rfl) _⟩
    · rw [List.length_map, putR_length hs hp]; simp
    · have hcl : cur.toList.length = cap := by rw [Array.length_toList]; exact hcs
      simp only [List.size_toArray, List.length_append, List.length_take, List.length_drop, List.length_map, hcl, hs]
      omega
    · have hcl : cur.toList.length = cap := by rw [Array.length_toList]; exact hcs
      rw [Nat.mul_one, putR_length hs hp]
      unfold putR
      rw [List.map_append, List.map_append, List.map_take, List.map_drop, ← ht, List.take_take, Nat.min_eq_left (by omega), List.drop_take]
      have h1 : (cur.toList.take p).length = p := by rw [List.length_take]; omega
      have h2 : (cur.toList.take p ++ s.map bv).length = p + 32 := by rw [List.length_append, h1, List.length_map, hs]
      rw [List.take_append, h2, List.take_of_length_le (by rw [h2]; omega)]
set_option maxRecDepth 100000 in
set_option maxHeartbeats 4000000 in
theorem fWith_any {F : Nat → Prop} (w : World) (v : Value) (b H s : List UInt8) (hH : H.length = 20) (hs : s.length = 32) (hv : BytesIn F w v b) (hF : ∀ k, F k → k < w.heap.size) (hb : b.length ≤ 1000000) (hm : MlAt w) :
    Calls Tryz.prog 26 #[v, .agg (H.map bv).toArray, .agg (ltC s)] w fun e w' => ∃ x y, e = .returned (.tuple #[x, y]) ∧ OwnB (fun k => w.heap.size ≤ k) w' x (withR s b (placesR b (letL H))) ∧ IntsR (fun k => w.heap.size ≤ k) w' y (placesR b (letL H)) ∧ Fr (fun _ => False) w w' := by
  obtain ⟨C, hC⟩ : ∃ C, C = (H.map bv).toArray := ⟨_, rfl⟩
  have hcs : C.size = 20 := by rw [hC]; simp [hH]
  have HPL := Lib.hid (fun W (hv : BytesIn F W v b) (hF : ∀ k, F k → k < W.heap.size) (hm : MlAt W) => fPlaces_any W v b H hH hv hF hb hm)
  rw [← hC] at HPL ⊢
  have hroom := fun p hp => placesR_room (b := b) (letL_length H) (p := p) hp
  have hpn := placesR_length b (letL H)
  obtain ⟨L, hL⟩ : ∃ L, L = placesR b (letL H) := ⟨_, rfl⟩
  rw [← hL] at HPL hroom hpn ⊢
  clear hC hL hH
  obtain ⟨S, hS⟩ : ∃ S, S = ltC s := ⟨_, rfl⟩
  rw [← hS]
  obtain ⟨W1, hW1⟩ : ∃ W1, W1 = (w.alloc (.cells C 24)).alloc (.cells S 51) := ⟨_, rfl⟩
  have hf1 : Fr (fun _ => False) w W1 := by rw [hW1]; exact ((Fr.refl _ _).alloc _).alloc _
  have hz1 : W1.heap.size = w.heap.size + 2 := by rw [hW1]; simp
  have hr1 : W1.heap[w.heap.size]? = some (.cells C 24 (0, 0)) := by rw [hW1]; exact heap_alloc2_old w _ _
  have hr2 : W1.heap[w.heap.size + 1]? = some (.cells S 51 (0, 0)) := by rw [hW1]; exact heap_alloc2_new w _ _
  have HW := Lib.hid hW1
  have HX := Lib.hid (And.intro hf1 (And.intro hr1 (And.intro hr2 (And.intro (hv.keep hf1 (fun _ _ _ h => h)) (And.intro (hm.keep hf1 (fun h => h)) (And.intro hF hz1))))))
  have HB := Lib.hid (And.intro hb (And.intro hroom (And.intro hpn (And.intro hs hS))))
  clear hW1 hf1 hr1 hr2 hv hF hm hb hroom hpn hs hS hz1
  go_enter Tryz.func26, Tryz.ntmps26
  go_wp2_with (first
    | (rw [← HW.out]; (at_builtin; refine wpList_append_bytes (F := fun k => W1.heap.size ≤ k) (G := F) _ rfl (.const (.slice none 0 0)) (.tmp 12) rfl _ _ [] b rfl rfl (OwnB.nil _ _) HX.out.2.2.2.1 (by have := HB.out.1; simp; omega) ?next)))
  case next =>
    intro x0 w2 ho2 hg2 _
    have hf2 : Fr (fun _ => False) W1 w2 := (Fr.refl _ _).grown hg2 (fun k hk => by simp [Value.ownBlock] at hk)
    obtain ⟨g, cap, ao, rfl, hao, hcap, hown⟩ : ∃ g cap ao, x0 = .slice ao b.length cap ∧ (0 < b.length → ao = some ⟨g, 0, none⟩ ∧ b.length ≤ cap) ∧ cap ≤ maxLen ∧ ∀ j, (Value.slice ao b.length cap).ownBlock = some j → W1.heap.size ≤ j ∧ j < w2.heap.size := by
      rcases ho2.caseB with ⟨rfl, rfl⟩ | ⟨g, cap, cur, rfl, h1, h2, h3, h4, h5, h6⟩
      · exact ⟨0, 0, none, rfl, fun h => by simp at h, by simp, fun j hj => by simp [Value.ownBlock] at hj⟩
      · exact ⟨g, cap, _, rfl, fun _ => ⟨rfl, h3⟩, h4, fun j hj => by
          simp only [Value.ownBlock, Option.some.injEq] at hj
          exact hj ▸ ⟨h1, lt_of_block h2⟩⟩
    have hr4 := hf2.heap HX.out.2.1 (fun h => h)
    have HP := Lib.hid (HPL.out w2 (HX.out.2.2.2.1.keep hf2 (fun _ _ _ h => h)) (fun k hk => by have := HX.out.2.2.2.2.2.1 k hk; have := hf2.size; have := HX.out.2.2.2.2.2.2; omega) (HX.out.2.2.2.2.1.keep hf2 (fun h => h)))
    have H2 := Lib.hid (And.intro ho2 (And.intro hf2 (And.intro hao (And.intro hcap hown))))
    clear ho2 hg2 hf2 hao hcap hown
    go_wp2_with (first
      | (with_reducible refine wpList_load_row rfl 24 (.tmp 4) rfl w.heap.size rfl 24 C (0, 0) _ hr4 Tryz.underlying24 rfl (by rw [hcs]; kernel_rfl) ?_)
      | (go_at_call 13; refine HP.out.mono ?_; rintro e w3 ⟨u, rfl, ho3, hf3⟩; (obtain ⟨au, cu, hu, hcu1, hcu2, bq, oq, hau, hcq⟩ := ho3.ints); subst hu; (have H3 := Lib.hid (And.intro ho3 (And.intro hf3 (And.intro hau hcq)))); (obtain ⟨m, hmm⟩ : ∃ m, m = L.length := ⟨_, rfl⟩); (have HM := Lib.hid (show L.length = m from hmm.symm)); rw [← hmm]; clear ho3 hf3 hau hcq hmm hr4))
    have hm6 : m ≤ 1000000 := by have := HM.out; have := HB.out.1; have := HB.out.2.2.1; omega
    obtain ⟨x0, hx0⟩ : ∃ x0, x0 = Value.slice ao b.length cap := ⟨_, rfl⟩
    have H0 := Lib.hid (show OwnB (fun k => W1.heap.size ≤ k) w3 x0 (withR s b (L.take 0)) ∧ Fr (fun j => x0.ownBlock = some j) w3 w3 from ⟨by rw [hx0]; exact H2.out.1.keep H3.out.2.1 (fun _ _ _ h => h), Fr.refl _ _⟩)
    have HX0 := Lib.hid hx0
    clear hx0
    go_loopw [11, 19] (fun pv kv wr => ∃ k : Nat, k ≤ m ∧ kv = .int .i64 k ∧ Hid (OwnB (fun k => W1.heap.size ≤ k) wr x0 (withR s b (L.take k)) ∧ Fr (fun j => x0.ownBlock = some j) w3 wr)) (fun _ kv _ => m - (intOf kv).toNat)
    case atStart => exact ⟨0, by omega, rfl, H0⟩
    case round =>
      clear H0
      obtain ⟨k, hk, rfl, hR⟩ := hrel
      by_cases hlt : k < m
      · have hkL : k < L.length := by have := HM.out; omega
        obtain ⟨p, hp⟩ : ∃ p, p = L[k] := ⟨_, rfl⟩
        have hpr : p + 32 ≤ b.length := HB.out.2.1 p (by rw [hp]; exact List.getElem_mem _)
        obtain ⟨rfl, hbq⟩ := H3.out.2.2.1 (by omega)
        obtain ⟨rfl, hncap⟩ := H2.out.2.2.1 (by omega)
        have hng : ∀ j, x0.ownBlock = some j → j = g := fun j hj => by rw [HX0.out] at hj; simpa [Value.ownBlock] using hj.symm
        have hgl := H2.out.2.2.2.2 g rfl
        have hcq : wr.cell? ⟨bq, oq + k, none⟩ = some (.int .i64 (p : Nat)) := hR.out.2.cell (by rw [hp]; exact H3.out.2.2.2 k hkL) (fun e => by have := hng _ e; simp only at this; omega)
        have hlb : wr.heap[w.heap.size + 1]? = some (.cells (ltC s) 51 (0, 0)) := hR.out.2.heap (by rw [← HB.out.2.2.2.2]; exact H3.out.2.1.heap (H2.out.2.1.heap HX.out.2.2.1 (fun h => h)) (fun h => h)) (fun e => by have := hng _ e; have := HX.out.2.2.2.2.2.2; omega)
        have hwl : (withR s b (L.take k)).length = b.length := withR_length HB.out.2.2.2.1 _ _ (fun q hq => HB.out.2.1 q (List.mem_of_mem_take hq))
        have hob := hR.out.1
        rw [HX0.out, ← hwl] at hob
        obtain ⟨w9, hcp, ho9, hf9⟩ := run_copy_put wr.drew g cap p (w.heap.size + 1) _ s hob hlb HB.out.2.2.2.1 (by rw [hwl]; exact hpr)
        rw [hwl] at hcp ho9
        have hcl := fun W => run_cutLow W (some ⟨g, 0, none⟩) b.length cap p (by omega)
        rw [show cutLow (some ⟨g, 0, none⟩) p cap = some ⟨g, p, none⟩ by unfold cutLow; rw [if_neg (by omega), Option.map_some, addr_plain, Nat.zero_add]] at hcl
        have hcb := fun W => run_cutLet W (w.heap.size + 1)
        have H9 := Lib.hid (And.intro ho9 (And.intro hf9 (show x0.ownBlock = some g by rw [HX0.out]; rfl)))
        have HP9 := Lib.hid hp
        have hlt64 : (k : Int) < (m : Int) := by omega
        have hkcu : k < m := hlt
        clear hp hpr hbq hncap hng hgl hlb hwl hob ho9 hf9
        go_wp2
        go_region
        go_wp2
        go_roundw
        case rel =>
          refine ⟨k + 1, by omega, by go_num, Lib.hid ⟨?_, hR.out.2.trans ((Fr.ofDrew H9.out.2.1).mono (T := fun j => x0.ownBlock = some j) (fun i _ e => by rw [show i = g from e]; exact H9.out.2.2)) (fun _ h => .inl h)⟩⟩
          rw [withR_take_succ hkL, ← HP9.out, HX0.out]
          exact H9.out.1
        case measure => simp [intOf]; omega
      · obtain rfl : k = m := by omega
        have hd : decide ((k : Int) < (k : Int)) = false := by rw [decide_eq_false_iff_not]; omega
        have HF := Lib.hid (show OwnB (fun k => W1.heap.size ≤ k) wr (.slice ao b.length cap) (withR s b L) ∧ Fr (fun j => x0.ownBlock = some j) w3 wr by
          have h1 := hR.out.1
          rw [List.take_of_length_le (by rw [HM.out]; exact Nat.le_refl _), HX0.out] at h1
          exact ⟨h1, hR.out.2⟩)
        go_wp2
        go_ret2
        trace_state
        have hx : ∀ j, x0.ownBlock = some j → W1.heap.size ≤ j ∧ j < w2.heap.size := fun j hj => by rw [HX0.out] at hj; exact H2.out.2.2.2.2 j hj
        have hz := HX.out.2.2.2.2.2.2
        have hz2 := H2.out.2.1.size
        refine ⟨_, _, rfl, HF.out.1.mono (fun j _ hj => by omega), ?_, ((HX.out.1.trans H2.out.2.1 (fun _ h => h.elim)).trans H3.out.2.1 (fun _ h => h.elim)).trans HF.out.2 (fun j hj => .inr (by have := (hx j hj).1; omega))⟩
        have h1 := (H3.out.1.ints).keep HF.out.2 (fun j _ hj e => by have := (hx j e).2; omega)
        rw [HM.out] at h1
        exact h1.mono (fun j _ hj => by omega)
end Go.Proofs.YtfkgdjoaoidkeaaGreat
namespace Go.Proofs.YtfkgdjoaoidkeaaGreat
open Go.RowKit Go.ChangeShapes
set_option linter.unusedVariables false
def pathC (H : List UInt8) (N : ByteArray) : Array Value := (H.map bv ++ [Value.string N]).toArray
theorem pathC_size (H : List UInt8) (hH : H.length = 20) (N : ByteArray) : (pathC H N).size = 21 := by simp [pathC, hH]
theorem pathC_name (H : List UInt8) (hH : H.length = 20) (N : ByteArray) : (pathC H N)[20]? = some (.string N) := by
  rw [pathC, List.getElem?_toArray, List.getElem?_append_right (by simp [hH])]
  simp [hH]
theorem pathC_hash (H : List UInt8) (N : ByteArray) (i : Nat) (v : Value) (h : (H.map bv)[i]? = some v) : (pathC H N)[i]? = some v := by
  rw [pathC, List.getElem?_toArray, List.getElem?_append_left (List.getElem?_eq_some_iff.1 h).1]
  exact h
theorem pathC_one (H : List UInt8) (N : ByteArray) : (pathC H N).all (·.oneCell') = true := by
  rw [pathC]
  refine all_oneCell_toArray (fun u hu => ?_)
  rcases List.mem_append.1 hu with h | h
  · exact bv_one H u h
  · obtain rfl := List.mem_singleton.1 h
    rfl
def PathT (w : World) (g : Nat) (H : List UInt8) (N : ByteArray) : Prop := w.heap[g]? = some (.cells (pathC H N) 27 (0, 0))
theorem PathT.keep {S : Nat → Prop} {w w' : World} {g : Nat} {H : List UInt8} {N : ByteArray} (h : PathT w g H N) (hf : Fr S w w') (hg : ¬ S g) : PathT w' g H N := hf.heap h hg
theorem PathT.name {w : World} {g : Nat} {H : List UInt8} {N : ByteArray} (h : PathT w g H N) (hH : H.length = 20) : w.cell? ⟨g, 20, none⟩ = some (.string N) := by
  rw [cell_of_row _ _ _ _ _ _ h, pathC_name H hH N]
theorem PathT.range {w : World} {g : Nat} {H : List UInt8} {N : ByteArray} (h : PathT w g H N) : w.rangeAt g 0 (H.map bv) := fun j v hv => by
  rw [Nat.zero_add, cell_of_row _ _ _ _ _ _ h, pathC_hash H N j v hv]
theorem PathT.byte {w : World} {g : Nat} {H : List UInt8} {N : ByteArray} (h : PathT w g H N) (i : Nat) (hi : i < H.length) : w.cell? ⟨g, i, none⟩ = some (.int .u8 (H.getD i 0).toNat) := by
  rw [cell_of_row _ _ _ _ _ _ h]
  refine pathC_hash H N i _ ?_
  rw [List.getElem?_map, List.getD_eq_getElem?_getD, List.getElem?_eq_getElem hi]
  rfl
end Go.Proofs.YtfkgdjoaoidkeaaGreat
