/- dev's own device: pending writes, the last one first. -/
import Derived.Test.YthmcmomkomhilaaDMem
namespace Go.Proofs.Ythmcmomkomhilaa
open Go.RowKit Go.ChangeShapes
set_option linter.unusedVariables false
attribute [local go_sem] Oper.semAt_some

theorem load_sec (w : World) (b o : Nat) (x : List UInt8) (hx : x.length = 64) (h : w.rangeAt b o (x.map bv)) : (Instr.loadAt 70 (.pointer (some ⟨b, o, none⟩))).run Try.prog w = .ok (.agg (x.map bv).toArray) w :=
  run_loadAt_mid w b o 70 (x.map bv) _ h Try.underlying70 rfl (by rw [List.length_map, hx]; kernel_rfl)
theorem wrC_bytes {w : World} {b o : Nat} {p : Pend} (h : w.rangeAt b o (wrC p)) : w.cell? ⟨b, o, none⟩ = some (.int .i64 p.1) ∧ w.rangeAt b (o + 1) (p.2.map bv) := by
  refine ⟨h 0 _ rfl, fun j v hv => ?_⟩
  have := h (j + 1) v (by rw [wrC, List.getElem?_cons_succ]; exact hv)
  rwa [show o + (j + 1) = o + 1 + j by omega] at this

theorem rev_take {α : Type} (xs : List α) (r : Nat) (hr : r < xs.length) : xs.reverse.take (xs.length - r) = xs.reverse.take (xs.length - (r + 1)) ++ [xs[r]] := by
  have e : xs.length - r = xs.length - (r + 1) + 1 := by omega
  have h2 : xs.length - (r + 1) < xs.reverse.length := by simp; omega
  rw [e, List.take_succ_eq_append_getElem h2, List.getElem_reverse]
  congr 3
  omega

set_option maxRecDepth 100000 in
set_option maxHeartbeats 4000000 in
theorem latest1_in {T F : Nat → Prop} {s : Nat} (n : Nat) (l Bp g : Nat) (xs : List (PendX s)) (vw : Value) (hn6 : xs.length ≤ 1000000) (hT1 : ¬ T Bp) (hT2 : ¬ T g) (hT3 : ∀ k, F k → ¬ T k) (B0 : Nat) (J Jx : List (PendX s) → World → Prop) (hJ : AbidesFrom B0 J)
    (hY : ∀ pre x W, J pre W → pre.length < xs.length → YieldAt Fence.wide (n - 1) Try.prog l (encsX x) W fun e W' =>
      (e = .returned (.bool true) ∧ J (pre ++ [x]) W' ∧ Fr T W W') ∨ (e = .returned (.bool false) ∧ Jx (pre ++ [x]) W'))
    (W : World) (hR : ItR W F Bp g vw (valsX xs)) (h0 : J [] W) :
    CallsIn Fence.wide n Try.prog 54 #[.func (.yield l) #[] #[], .pointer (some ⟨Bp, 0, none⟩)] W fun e W' => (∃ v, e = .returned v) ∧
      ((∃ ys, ys = xs.reverse ∧ J ys W') ∨ (∃ pre, pre <+: xs.reverse ∧ Jx pre W')) := by
  obtain ⟨ao, cap, hvf, hc1, hc2⟩ := hR.wr.form
  have hvl : (valsX xs).length = xs.length := by simp [valsX]
  obtain ⟨m, hm⟩ : ∃ m, m = xs.length := ⟨_, rfl⟩
  rw [hvl, ← hm] at hvf
  subst hvf
  rw [← hm] at hn6
  obtain ⟨hbx, hhd, _⟩ := id hR
  have HR := Lib.hid hR
  have HM := Lib.hid hm
  have HY := Lib.hid hY
  have HJ := Lib.hid hJ
  have HT := Lib.hid (And.intro hT1 (And.intro hT2 hT3))
  have HL := Lib.hid (valsX_len xs)
  have e1 : IntKind.i64.wrap ((m : Int) - 1) = (m : Int) - 1 := by
    simp [IntKind.wrap, IntKind.bits, IntKind.signed]
    omega
  clear hR hm hY hJ hT1 hT2 hT3 hvl hc1 hc2
  refine callsIn_of_wp Try.func54 rfl trivial ?_ rfl
  simp only [Try.ntmps54, List.size_toArray, List.length_cons, List.length_nil, Nat.reduceAdd, Nat.reduceSub, Array.replicate_succ, Array.replicate_zero, List.push_toArray, List.append_toArray, List.nil_append, List.cons_append]
  gi_wp2
  gi_loopw [3] (fun iv wr => ∃ j : Nat, j ≤ m ∧ iv = .int .i64 ((j : Int) - 1) ∧ J (xs.reverse.take (m - j)) wr ∧ Hid (ItR wr F Bp g (.slice ao m cap) (valsX xs)))
    (fun iv _ => (intOf iv + 1).toNat)
  case atStart => exact ⟨m, by omega, rfl, by rw [Nat.sub_self]; exact h0, HR⟩
  case round =>
    obtain ⟨j, hj, rfl, hJs, hRr⟩ := hrel
    cases j with
    | zero =>
      gi_wp2
      go_end0
      exact ⟨⟨_, rfl⟩, .inl ⟨_, rfl, by rwa [List.take_of_length_le (by rw [List.length_reverse, HM.out]; omega)] at hJs⟩⟩
    | succ r =>
      have er : ((r + 1 : Nat) : Int) - 1 = (r : Int) := by omega
      rw [er]
      have hrx : r < xs.length := by rw [← HM.out]; omega
      obtain ⟨hb1, hh1, hw1⟩ := hRr.out
      obtain ⟨b, rfl, hFb, hrg⟩ := hw1.elem HL.out r (by simpa [valsX] using hrx)
      have ex : (valsX xs)[r]'(by simpa [valsX] using hrx) = xs[r].1 := by simp [valsX]
      rw [ex] at hrg
      obtain ⟨hat, hto⟩ := wrC_bytes hrg
      have hJd : J (xs.reverse.take (m - (r + 1))) wr.drew := HJ.out _ _ _ none hJs (grownBy_drew wr) (fun r e => by cases e)
      obtain ⟨fn, tmps, assign, body, hy, hRd⟩ := HY.out _ xs[r] wr.drew hJd (by simp [HM.out]; omega)
      have hre := rev_take xs r hrx
      rw [← HM.out] at hre
      obtain ⟨x, hx⟩ : ∃ x, x = xs[r] := ⟨_, rfl⟩
      rw [← hx] at hat hto hy hRd hre
      simp only [encsX] at hy
      have hxl := x.2.2
      have hld := load_sec wr.drew b (r * 65 + 1) x.1.2 hxl hto
      have HRE := Lib.hid hre
      have hrm : (r : Int) < (m : Int) := by omega
      have hr0 : (0 : Int) ≤ (r : Int) := by omega
      clear hre hx hrg hto hw1 hJd ex hJs hrx
      gi_wp2
      refine wpIn_still_tail 17 .out (by kernel_rfl) (by kernel_rfl) (by kernel_rfl) ?_
      simp only [List.take_succ_cons, List.take_zero, List.drop_succ_cons, List.drop_zero]
      iterate 16 still_step
      refine still_value rfl _ (op_load_ rfl rfl hld) ?_
      refine wpStill_nil ?_
      go_simp
      gi_wp2
      refine ⟨fun hx => WideF.out.free hx, hRd.mono ?_⟩
      rintro e W3 (⟨rfl, hJ3, hk3⟩ | ⟨rfl, hJx3⟩)
      · have HR3 := Lib.hid (hRr.out.keep (S := T) (w' := W3) (Fr.ofDrew hk3) HT.out.1 HT.out.2.1 (fun k _ hk => HT.out.2.2 k hk))
        gi_wp2
        go_roundw
        case rel => exact ⟨r, by omega, rfl, by rw [HRE.out]; exact hJ3, HR3⟩
        case measure => simp [intOf]
      · gi_wp2
        refine bodyPost_ret (results_none rfl _ _ _) rfl ?_
        exact ⟨⟨_, rfl⟩, .inr ⟨_, List.take_prefix _ _, by rw [HRE.out]; exact hJx3⟩⟩
theorem latest_any (w : World) (g : Nat) :
    Calls Try.prog 51 #[.pointer (some ⟨g, 0, none⟩)] w fun e w' => e = .returned (.func (.func 54) #[] #[.pointer (some ⟨w.heap.size, 0, none⟩)]) ∧ w' = w.alloc (.cells #[.pointer (some ⟨g, 0, none⟩)] 77) := by
  go_enter Try.func51, Try.ntmps51
  go_wp2
  go_ret
  exact ⟨rfl, rfl⟩
theorem ItR.below {w W : World} {F : Nat → Prop} {Bp g : Nat} {vw : Value} {V : List Pend} (h : ItR w F Bp g vw V) (hb : Below w.heap.size w W) : ItR W F Bp g vw V := by
  have h1 := World.block_lt_of_cell? _ _ h.box
  have h2 := World.block_lt_of_cell? _ _ h.head
  exact h.keep (Fr.ofBelow hb) (fun h => by simp only at h1; omega) (fun h => by simp only at h2; omega) (fun k hk _ h => by omega)
theorem latest_stops {T F : Nat → Prop} {s : Nat} (n Bp g : Nat) (xs : List (PendX s)) (vw : Value) (hn6 : xs.length ≤ 1000000) (hT1 : ¬ T Bp) (hT2 : ¬ T g) (hT3 : ∀ k, F k → ¬ T k) (w : World) (hR : ItR w F Bp g vw (valsX xs)) :
    SeqStopsK Fence.wide n Try.prog 54 #[.pointer (some ⟨Bp, 0, none⟩)] encsX (Fr T) (fun ys => ys = xs.reverse) (fun pre => pre <+: xs.reverse) xs.length w :=
  fun l J Jx W hW hJ hJx hY h0 => latest1_in n l Bp g xs vw hn6 hT1 hT2 hT3 _ J Jx hJ hY W (hR.below hW) h0
end Go.Proofs.Ythmcmomkomhilaa
