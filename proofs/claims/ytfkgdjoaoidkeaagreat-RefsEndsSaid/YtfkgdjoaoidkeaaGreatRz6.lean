/- Laid together: RfTl RfRn RfRp RfRq RfRr -/
import Derived.Test.YtfkgdjoaoidkeaaGreatRz5
import Derived.Test.YtfkgdjoaoidkeaaGreatRz3
import Derived.Test.YtfkgdjoaoidkeaaGreatRz0

namespace Go.Proofs.YtfkgdjoaoidkeaaGreat
open Go.RowKit Go.ChangeShapes
set_option linter.unusedVariables false
theorem run_cutMid (w : World) (ao : Option Addr) (l cap p q : Nat) (hp : p ≤ q) (hq : q ≤ cap) :
    (Instr.slice 22 (.slice ao l cap) (some (.int .i64 (p : Int))) (some (.int .i64 (q : Int))) none).run Tryz.prog w = .ok (.slice (cutLow ao p cap) (q - p) (cap - p)) w := by
  have hs : ∀ w, (sizeOf 5).run Tryz.prog w = .ok 1 w := fun w => by kernel_rfl
  simp [Instr.slice, run_underlying Tryz.underlying22, Instr.sliceBounds, run_sliceBound, hs, cutLow, hp, hq]
theorem BytesIn.mid {F : Nat → Prop} {w : World} {ao : Option Addr} {l cap : Nat} {X : List UInt8} (h : BytesIn F w (.slice ao l cap) X) (p q : Nat) (hp : p ≤ q) (hq : q ≤ X.length) :
    BytesIn F w (.slice (YtfkgdjoaoidkeaaGreat.cutLow ao p cap) (q - p) (cap - p)) ((X.drop p).take (q - p)) :=
  (h.cutLow p (by omega)).take (q - p) (by rw [List.length_drop]; omega)
section
variable {P : Program} {w : World} {o : Oper} {a : Act}
theorem op_slice_mid {t : TypeId} {x lo hi : Operand} {vx vl vh v : Value} (ho : o.op = .slice t x (some lo) (some hi) none) (hx : a.eval x = vx) (hl : a.eval lo = vl) (hh : a.eval hi = vh) (hr : (Instr.sliceAt t vx (some vl) (some vh) none).run P w = .ok v w) : (execOp a.eval o).run P w = .ok (.value v) w := by
  unfold execOp
  rw [ho]
  simp only [hx, hl, hh, Option.map_some, Option.map_none, Sem.run_bind, hr, Result.andThen_ok]
  rfl
theorem op_convert10 {t t' : TypeId} {x : Operand} {vx v : Value} (ho : o.op = .convert t t' x) (hx : a.eval x = vx) (hr : (convert t t' vx).run P w = .ok v w) : (execOp a.eval o).run P w = .ok (.value v) w := by
  unfold execOp
  rw [ho]
  simp only [hx, Sem.run_bind, hr, Result.andThen_ok]
  rfl
end
theorem eql_str_no (w : World) (T : TypeId) (A Bb : ByteArray) (h : A ≠ Bb) : (binOp .eql T (.string A) (.string Bb)).run Tryz.prog w = .ok (.bool false) w := by
  rw [binOp_string_eql]
  have : (A.toList == Bb.toList) = false := by
    rw [beq_eq_false_iff_ne]
    intro e
    apply h
    apply ByteArray.ext
    apply Array.ext'
    rw [← Go.Lib.toList_data, ← Go.Lib.toList_data]
    exact e
  rw [this]
  rfl
theorem run_cut32 (w : World) (ao : Option Addr) (l cap p : Nat) (h : p + 32 ≤ cap) :
    (Instr.sliceAt 22 (.slice ao l cap) (some (.int .i64 (p : Int))) (some (.int .i64 ((p + 32 : Nat) : Int))) none).run Tryz.prog w = .ok (.slice (cutLow ao p cap) 32 (cap - p)) w := by
  have h1 := run_cutMid w ao l cap p (p + 32) (by omega) h
  rw [show p + 32 - p = 32 by omega] at h1
  simpa [Instr.sliceAt, run_underlying Tryz.underlying22] using h1
theorem run_str32 {F : Nat → Prop} (w : World) (ao : Option Addr) (l cap p : Nat) (b : List UInt8) (h : BytesIn F w (.slice ao l cap) b) (hp : p + 32 ≤ b.length) :
    (convert 22 9 (.slice (cutLow ao p cap) 32 (cap - p))).run Tryz.prog w = .ok (.string ⟨((b.drop p).take 32).toArray⟩) w := by
  have h1 := h.mid p (p + 32) (by omega) hp
  rw [show p + 32 - p = 32 by omega] at h1
  exact run_bytes_str w _ _ h1
end Go.Proofs.YtfkgdjoaoidkeaaGreat
namespace Go.Proofs.YtfkgdjoaoidkeaaGreat
open Go.RowKit Go.ChangeShapes
set_option linter.unusedVariables false
theorem wpList_g_value {P : Program} {ops : Array Oper} {rest : List Oper} {o : Oper} {a : Act} {w : World} {Q : Exit → Act → World → Prop} (hw : Region.wanted o (yielded ops a.tmps) = true) (v : Value) (w' : World) (h : (execOp a.eval o).run P w = .ok (.value v) w')
    (hK : wpList P ops Q rest (a.put o.dst v) w') : wpList P ops Q (o :: rest) a w :=
  wpList_step fun _ hK' => by
    rw [if_pos hw]
    exact wp_value_inv v h (hK' _ _ hK)
theorem eql_str_is (w : World) (T : TypeId) (b s : List UInt8) (i : Nat) : (binOp .eql T (.string ⟨((b.drop i).take 32).toArray⟩) (.string ⟨s.toArray⟩)).run Tryz.prog w = .ok (.bool (occR b s i)) w := by
  unfold occR
  by_cases h : (b.drop i).take 32 = s
  · rw [h, binOp_string_eql]
    simp
  · rw [eql_str_no w T _ _ (fun e => h (by
      have := congrArg (fun s : ByteArray => s.data.toList) e
      simpa using this)), decide_eq_false h]
theorem occR_no {b s : List UInt8} {i : Nat} (hs : s.length = 32) (h : ¬ i + 32 ≤ b.length) : occR b s i = false := by
  cases hq : occR b s i with
  | false => rfl
  | true => exact absurd (occR_room hs hq) h
set_option maxRecDepth 100000 in
set_option maxHeartbeats 2000000 in
theorem stands_any {F : Nat → Prop} (w : World) (ao : Option Addr) (n cap i : Nat) (b s : List UInt8) (hv : BytesIn F w (.slice ao n cap) b) (hs : s.length = 32) (hi : i ≤ 1000000) (hn : n ≤ 1000000) :
    Calls Tryz.prog 32 #[.slice ao n cap, .int .i64 i, .string ⟨s.toArray⟩] w fun e w' => e = .returned (.bool (occR b s i)) ∧ w' = w := by
  have hnb : n = b.length ∧ n ≤ cap := by
    obtain ⟨a, c, h, h1, -⟩ := id hv
    simp only [Value.slice.injEq] at h
    omega
  obtain ⟨k, hk⟩ : ∃ k, k = i + 32 := ⟨_, rfl⟩
  have hki : (i : Int) + 32 = (k : Nat) := by omega
  have hk6 : (k : Int) ≤ 1000032 := by omega
  obtain ⟨S, hS⟩ : ∃ S : ByteArray, S = ⟨s.toArray⟩ := ⟨_, rfl⟩
  by_cases hp : i + 32 ≤ n
  · have hpk : (k : Int) ≤ (n : Int) := by omega
    have hcut := run_cut32 w ao n cap i (by omega)
    rw [← hk] at hcut
    have hcv := run_str32 w ao n cap i b hv (by omega)
    have hq := fun T => eql_str_is w T b s i
    obtain ⟨S2, hS2⟩ : ∃ S2 : ByteArray, S2 = ⟨((b.drop i).take 32).toArray⟩ := ⟨_, rfl⟩
    rw [← hS2] at hcv hq
    rw [← hS] at hq ⊢
    obtain ⟨r, hr⟩ : ∃ r, r = occR b s i := ⟨_, rfl⟩
    rw [← hr] at hq ⊢
    clear hr hS hS2 hv hs hnb hp hk
    go_enter Tryz.func32, Tryz.ntmps32
    go_wp2_with (first
      | (refine wpList_g_value (by first | (simp [Region.wanted, yielded]; done) | (simp [Region.wanted, yielded, Act.put]; done)) (.slice (cutLow ao i cap) 32 (cap - i)) w (op_slice_mid rfl rfl rfl rfl hcut) ?_)
      | (refine wpList_g_value (by first | (simp [Region.wanted, yielded]; done) | (simp [Region.wanted, yielded, Act.put]; done)) (.string S2) w (op_convert10 rfl rfl hcv) ?_)
      | (refine wpList_g_value (by simp [Region.wanted, yielded]) (.bool r) w (op_bin rfl rfl rfl (guard_str w _ _ _ _ _) (hq _)) ?_))
    go_ret
    exact ⟨rfl, rfl⟩
  · have hpk : ¬ (k : Int) ≤ (n : Int) := by omega
    rw [occR_no hs (by omega), ← hS]
    clear hS hv hs hnb hp hk
    go_enter Tryz.func32, Tryz.ntmps32
    go_wp2_with fail
    go_ret
    exact ⟨rfl, rfl⟩
end Go.Proofs.YtfkgdjoaoidkeaaGreat
namespace Go.Proofs.YtfkgdjoaoidkeaaGreat
open Go.RowKit Go.ChangeShapes
set_option linter.unusedVariables false
set_option maxRecDepth 100000 in
set_option maxHeartbeats 4000000 in
theorem rPlaces_any {F : Nat → Prop} (w : World) (v : Value) (b H : List UInt8) (hH : H.length = 20) (hv : BytesIn F w v b) (hb : b.length ≤ 900000) :
    Calls Tryz.prog 14 #[v, .agg (H.map bv).toArray] w fun e w' => ∃ u, e = .returned u ∧ OwnI w.heap.size w' u (placesR b (letL H)) ∧ Fr (fun _ => False) w w' := by
  obtain ⟨C, hC⟩ : ∃ C, C = (H.map bv).toArray := ⟨_, rfl⟩
  have hcs : C.size = 20 := by rw [hC]; simp [hH]
  obtain ⟨ao, n, cap, rfl, hnb⟩ : ∃ ao n cap, v = .slice ao n cap ∧ n = b.length := by obtain ⟨ao, cap, h, _⟩ := hv; exact ⟨_, _, _, h, rfl⟩
  obtain ⟨W1, hW1⟩ : ∃ W1, W1 = w.alloc (.cells C 24) := ⟨_, rfl⟩
  have hf1 : Fr (fun _ => False) w W1 := by rw [hW1]; exact (Fr.refl _ _).alloc _
  have hr1 : W1.heap[w.heap.size]? = some (.cells C 24 (0, 0)) := by rw [hW1]; exact heap_alloc_new w _
  have HLO := Lib.hid (fun W => show Calls Tryz.prog 22 #[.agg C] W fun e w' => e = .returned (.string ⟨(letL H).toArray⟩) ∧ Fr (fun _ => False) W w' by rw [hC]; exact rLetters_any H hH W)
  obtain ⟨s, hs⟩ : ∃ s, s = letL H := ⟨_, rfl⟩
  have hsl : s.length = 32 := by rw [hs]; exact letL_length H
  rw [← hC]
  rw [← hs] at HLO ⊢
  have HST := Lib.hid (fun W (hW : Fr (fun _ => False) w W) (i : Nat) (hi : i ≤ 1000000) => stands_any W ao n cap i b s (hv.keep hW (fun _ _ _ h => h)) hsl hi (by omega))
  obtain ⟨S, hS⟩ : ∃ S : ByteArray, S = ⟨s.toArray⟩ := ⟨_, rfl⟩
  rw [← hS] at HLO HST
  have HW := Lib.hid hW1
  have HX := Lib.hid (And.intro hf1 (And.intro hnb hb))
  have hn6 : n ≤ 900000 := by omega
  clear hC hs hsl hv hS hW1 hf1 hnb hb hH
  go_enter Tryz.func14, Tryz.ntmps14
  go_wp2_with (first
    | (rw [← HW.out]; (with_reducible refine wpList_load_row rfl 24 (.tmp 3) rfl w.heap.size rfl 24 C (0, 0) _ hr1 Tryz.underlying24 rfl (by rw [hcs]; kernel_rfl) ?_))
    | (go_at_call 22; refine (HLO.out _).mono ?_; rintro e w2 ⟨rfl, hf2⟩; (have H2 := Lib.hid (HX.out.1.trans hf2 (fun _ h => h.elim))); clear hf2 hr1))
  go_loopw [6, 7, 8] (fun ov nv iv wr => ∃ i q : Nat, i ≤ n ∧ iv = .int .i64 i ∧ nv = .int .i64 q ∧ Hid (q = (goR b s i).2 ∧ OwnI w.heap.size wr ov (goR b s i).1 ∧ Fr (fun _ => False) w wr)) (fun _ _ iv _ => n - (intOf iv).toNat)
  case atStart => exact ⟨0, 0, by omega, rfl, rfl, Lib.hid ⟨rfl, OwnI.nil _ _, H2.out⟩⟩
  case round =>
    obtain ⟨i, q, hi, rfl, rfl, hR⟩ := hrel
    obtain ⟨a0, c0, rfl⟩ := hR.out.2.1.form
    by_cases hlt : i < n
    · have hlt64 : (i : Int) < (n : Int) := by omega
      by_cases hge : q ≤ i
      · have hge64 : (q : Int) ≤ (i : Int) := by omega
        have HS := Lib.hid (HST.out wr hR.out.2.2 i (by omega))
        obtain ⟨r, hr⟩ : ∃ r, r = occR b s i := ⟨_, rfl⟩
        rw [← hr] at HS
        cases r with
        | true =>
          have hbi := run_int1 wr (i : Int)
          obtain ⟨l, hl⟩ : ∃ l, l = (goR b s i).1 := ⟨_, rfl⟩
          have hll := goR_length b s i
          rw [← hl] at hll
          obtain ⟨a9, n9, c9, w9, hrun, ho9, hf9⟩ := run_append_i wr 31 _ l i (by rw [hl]; exact hR.out.2.1) hR.out.2.2.size (by omega)
          have H9 := Lib.hid (show i + 32 = (goR b s (i + 1)).2 ∧ OwnI w.heap.size w9 (.slice a9 n9 c9) (goR b s (i + 1)).1 ∧ Fr (fun _ => False) w w9 by
            rw [goR_hit (by rw [← hR.out.1]; exact hge) hr.symm, ← hl]
            exact ⟨rfl, ho9, hR.out.2.2.trans hf9 (fun k e => .inr (OwnE.own hR.out.2.1 k e).1)⟩)
          obtain ⟨l0, hl0⟩ : ∃ k, k = (goR b s i).1.length := ⟨_, rfl⟩
          rw [← hl0] at hrun ⊢
          obtain ⟨q2, hq2⟩ : ∃ k, k = i + 32 := ⟨_, rfl⟩
          have hqi : (i : Int) + 32 = (q2 : Nat) := by omega
          have hq6 : (q2 : Int) ≤ 1000032 := by omega
          rw [← hq2] at H9
          clear ho9 hf9 hr hl hll hl0 hq2
          go_wp2_with (first
            | (go_at_call 32; refine HS.out.mono ?_; rintro e w3 ⟨rfl, rfl⟩)
            | (refine wpList_value rfl (.slice a9 n9 c9) w9 (op_append7 rfl rfl rfl hrun) ?_))
          go_roundw
          case rel => exact ⟨i + 1, q2, by omega, by go_num, rfl, H9⟩
          case measure => simp [intOf]; omega
        | false =>
          have H9 := Lib.hid (show q = (goR b s (i + 1)).2 ∧ OwnI w.heap.size wr (.slice a0 (goR b s i).1.length c0) (goR b s (i + 1)).1 ∧ Fr (fun _ => False) w wr by
            rw [goR_pass (.inr hr.symm)]
            exact hR.out)
          obtain ⟨l0, hl0⟩ : ∃ k, k = (goR b s i).1.length := ⟨_, rfl⟩
          rw [← hl0] at H9 ⊢
          clear hr hl0
          go_wp2_with (go_at_call 32; refine HS.out.mono ?_; rintro e w3 ⟨rfl, rfl⟩)
          go_roundw
          case rel => exact ⟨i + 1, q, by omega, by go_num, rfl, H9⟩
          case measure => simp [intOf]; omega
      · have hge64 : ¬ (q : Int) ≤ (i : Int) := by omega
        have H9 := Lib.hid (show q = (goR b s (i + 1)).2 ∧ OwnI w.heap.size wr (.slice a0 (goR b s i).1.length c0) (goR b s (i + 1)).1 ∧ Fr (fun _ => False) w wr by
          rw [goR_pass (.inl (by rw [← hR.out.1]; omega))]
          exact hR.out)
        obtain ⟨l0, hl0⟩ : ∃ k, k = (goR b s i).1.length := ⟨_, rfl⟩
        rw [← hl0] at H9 ⊢
        clear hl0
        go_wp2_with fail
        go_roundw
        case rel => exact ⟨i + 1, q, by omega, by go_num, rfl, H9⟩
        case measure => simp [intOf]; omega
    · obtain rfl : i = n := by omega
      have hlt64 : ¬ (i : Int) < (i : Int) := by omega
      go_wp2_with fail
      go_ret
      exact ⟨_, rfl, by unfold placesR; rw [← HX.out.2.1]; exact hR.out.2.1, hR.out.2.2⟩
end Go.Proofs.YtfkgdjoaoidkeaaGreat
namespace Go.Proofs.YtfkgdjoaoidkeaaGreat
open Go.RowKit Go.ChangeShapes
set_option linter.unusedVariables false
theorem run_copy_bytes {F G : Nat → Prop} (w : World) (g cap p : Nat) (a : Addr) (cy : Nat) (L s : List UInt8) (h : OwnB F w (.slice (some ⟨g, 0, none⟩) L.length cap) L) (hy : BytesIn G w (.slice (some a) 32 cy) s) (hs : s.length = 32) (hp : p + 32 ≤ L.length) :
    ∃ w', (∀ ty, (Builtin.copy_ #[22, 22] ty #[.slice (some ⟨g, p, none⟩) (L.length - p) (cap - p), .slice (some a) 32 cy]).run Tryz.prog w = .ok (.int .i64 32) w') ∧ OwnB F w' (.slice (some ⟨g, 0, none⟩) L.length cap) (putR s L p) ∧ Fr (· = g) w w' := by
  rcases h.1.2 with ⟨hv, h0⟩ | ⟨g', cap', cur, hv, hb, hg, hnc, hcm, hcs, ht⟩
  · cases hv
  · simp only [Value.slice.injEq, Option.some.injEq, Addr.mk.injEq, and_true, true_and] at hv
    obtain ⟨rfl, rfl⟩ := hv
    rw [Nat.mul_one] at hcs ht
    have hcell : ∀ j v, (s.map bv)[j]? = some v → w.cell? (a.add j) = some v := by
      obtain ⟨ao, cp, hv, h1, hm, h2, h3⟩ := hy
      simp only [Value.slice.injEq] at hv
      exact (h3 a hv.1.symm).1
    have hrun := fun ty => run_copy_row (P := Tryz.prog) w 22 22 ty 5 g p (L.length - p) (cap - p) a 32 cy cur 5 (s.map bv) Tryz.underlying22 (by kernel_rfl) hg (by rw [List.length_map, hs]; exact (Nat.min_eq_left (by omega)).symm)
      hcell (by rw [List.length_map, hs]; omega) (bv_one _)
    refine ⟨_, fun ty => by rw [hrun ty, List.length_map, hs]; rfl, ⟨⟨?_, .inr ⟨g, cap, _, by rw [putR_length hs hp], hb, setRow_heap w g _ _ _ (0, 0) hg, by rw [putR_length hs hp]; exact hnc, hcm, ?_, ?_⟩⟩, h.2⟩, (Fr.refl (· = g) w).setRow (.inl rfl) _⟩
    · rw [List.length_map, putR_length hs hp]; simp
    · have hcl : cur.toList.length = cap := by rw [Array.length_toList]; exact hcs
      simp only [List.size_toArray, List.length_append, List.length_take, List.length_drop, List.length_map, hcl, hs]
      omega
    · have hcl : cur.toList.length = cap := by rw [Array.length_toList]; exact hcs
      rw [Nat.mul_one, putR_length hs hp]
      unfold putR
      rw [List.map_append, List.map_append, List.map_take, List.map_drop, ← ht, List.take_take, Nat.min_eq_left (by omega), List.drop_take]
      have h1 : (cur.toList.take p).length = p := by rw [List.length_take]; omega
      have h2 : (cur.toList.take p ++ s.map bv).length = p + 32 := by rw [List.length_append, h1, List.length_map, hs]
      rw [List.take_append, h2, List.take_of_length_le (by rw [h2]; omega)]
set_option maxRecDepth 100000 in
set_option maxHeartbeats 4000000 in
theorem rWith_any {F G K : Nat → Prop} (w : World) (v u y : Value) (b s : List UInt8) (L : List Nat) (hv : BytesIn F w v b) (hu : IntsR G w u L) (hG : ∀ k, G k → k < w.heap.size) (hy : BytesIn K w y s) (hK : ∀ k, K k → k < w.heap.size) (hs : s.length = 32) (hb : b.length ≤ 900000) (hroom : ∀ p ∈ L, p + 32 ≤ b.length) (hL : L.length ≤ 900000) :
    Calls Tryz.prog 27 #[v, u, y] w fun e w' => ∃ x, e = .returned x ∧ OwnB (fun k => w.heap.size ≤ k) w' x (withR s b L) ∧ Fr (fun _ => False) w w' := by
  obtain ⟨aa, na, ca, rfl⟩ : ∃ ao n cap, v = .slice ao n cap := by obtain ⟨ao, cap, h, _⟩ := hv; exact ⟨_, _, _, h⟩
  obtain ⟨ay, cy, rfl⟩ : ∃ ay cy, y = .slice (some ay) 32 cy := by
    obtain ⟨ay, cy, h, h1, h2, h3, -⟩ := id hy
    rw [hs] at h h1
    cases ay with
    | none => have := h3 rfl; omega
    | some a => exact ⟨a, cy, h⟩
  obtain ⟨au, cu, rfl, hcu1, hcu2, bq, oq, hau, hcq⟩ := hu
  have HX := Lib.hid (And.intro hv (And.intro hy (And.intro hK (And.intro hs (And.intro hb (And.intro hroom (And.intro hG (And.intro hau hcq))))))))
  obtain ⟨m, hm⟩ : ∃ m, m = L.length := ⟨_, rfl⟩
  rw [← hm] at hcu1 hL ⊢
  have HM := Lib.hid hm
  clear hv hy hK hs hb hroom hG hau hcq hm
  go_enter Tryz.func27, Tryz.ntmps27
  go_wp2_with (at_builtin; refine wpList_append_bytes (F := fun k => w.heap.size ≤ k) (G := F) _ rfl (.tmp 9) (.tmp 10) rfl _ _ [] b rfl rfl (own_empty w _ rfl) ?src ?len ?next)
  case src => exact HX.out.1.keep ((Fr.refl (fun _ => False) w).alloc _) (fun _ _ _ h => h)
  case len =>
    have := HX.out.2.2.2.2.1
    simp
    omega
  case next =>
    intro x0 w2 ho2 hg2 _
    have hf2 : Fr (fun _ => False) w w2 := ((Fr.refl (fun _ => False) w).alloc _).grown hg2 (fun k hk => .inr (by simp [Value.ownBlock] at hk; omega))
    have ho2' : OwnB (fun k => w.heap.size ≤ k) w2 x0 b := ho2.mono (fun k _ hk => by have h9 := ((Fr.refl (fun _ => False) w).alloc (.cells #[] 5)).size; omega)
    obtain ⟨g, cap, ao, rfl, hao, hcap, hown⟩ : ∃ g cap ao, x0 = .slice ao b.length cap ∧ (0 < b.length → ao = some ⟨g, 0, none⟩ ∧ b.length ≤ cap) ∧ cap ≤ maxLen ∧ ∀ j, (Value.slice ao b.length cap).ownBlock = some j → w.heap.size ≤ j ∧ j < w2.heap.size := by
      rcases ho2'.caseB with ⟨rfl, rfl⟩ | ⟨g, cap, cur, rfl, h1, h2, h3, h4, h5, h6⟩
      · exact ⟨0, 0, none, rfl, fun h => by simp at h, by simp, fun j hj => by simp [Value.ownBlock] at hj⟩
      · exact ⟨g, cap, _, rfl, fun _ => ⟨rfl, h3⟩, h4, fun j hj => by
          simp only [Value.ownBlock, Option.some.injEq] at hj
          exact hj ▸ ⟨h1, lt_of_block h2⟩⟩
    obtain ⟨x0, hx0⟩ : ∃ x0, x0 = Value.slice ao b.length cap := ⟨_, rfl⟩
    have H2 := Lib.hid (And.intro hf2 (And.intro hao (And.intro hcap hown)))
    have H0 := Lib.hid (show OwnB (fun k => w.heap.size ≤ k) w2 x0 (withR s b (L.take 0)) ∧ Fr (fun j => x0.ownBlock = some j) w2 w2 from ⟨by rw [hx0]; exact ho2', Fr.refl _ _⟩)
    have HX0 := Lib.hid hx0
    clear hx0 ho2 hg2 hf2 ho2' hao hcap hown
    go_wp2
    go_loopw [8] (fun kv wr => ∃ k : Nat, k ≤ m ∧ kv = .int .i64 k ∧ Hid (OwnB (fun k => w.heap.size ≤ k) wr x0 (withR s b (L.take k)) ∧ Fr (fun j => x0.ownBlock = some j) w2 wr)) (fun kv _ => m - (intOf kv).toNat)
    case atStart => exact ⟨0, by omega, rfl, H0⟩
    case round =>
      clear H0
      obtain ⟨k, hk, rfl, hR⟩ := hrel
      by_cases hlt : k < m
      · have hkL : k < L.length := by have := HM.out; omega
        obtain ⟨p, hp⟩ : ∃ p, p = L[k] := ⟨_, rfl⟩
        have hpr : p + 32 ≤ b.length := HX.out.2.2.2.2.2.1 p (by rw [hp]; exact List.getElem_mem _)
        obtain ⟨rfl, hbq⟩ := HX.out.2.2.2.2.2.2.2.1 (by omega)
        obtain ⟨rfl, hncap⟩ := H2.out.2.1 (by omega)
        have hng : ∀ j, x0.ownBlock = some j → j = g := fun j hj => by rw [HX0.out] at hj; simpa [Value.ownBlock] using hj.symm
        have hgl := H2.out.2.2.2 g rfl
        have hbqw := HX.out.2.2.2.2.2.2.1 bq hbq
        have hcq : wr.cell? ⟨bq, oq + k, none⟩ = some (.int .i64 (p : Nat)) := hR.out.2.cell (H2.out.1.cell (by rw [hp]; exact HX.out.2.2.2.2.2.2.2.2 k hkL) (fun h => h)) (fun e => by have := hng _ e; simp only at this; omega)
        have hyw := (HX.out.2.1.keep H2.out.1 (fun _ _ _ h => h)).keep hR.out.2 (fun j _ hj e => by have := HX.out.2.2.1 j hj; have := hng _ e; omega)
        have hwl : (withR s b (L.take k)).length = b.length := withR_length HX.out.2.2.2.1 _ _ (fun q hq => HX.out.2.2.2.2.2.1 q (List.mem_of_mem_take hq))
        have hob := hR.out.1
        rw [HX0.out, ← hwl] at hob
        obtain ⟨w9, hcp, ho9, hf9⟩ := run_copy_bytes wr g cap p ay cy _ s hob hyw HX.out.2.2.2.1 (by rw [hwl]; exact hpr)
        rw [hwl] at hcp ho9
        have hcl := fun W => run_cutLow W (some ⟨g, 0, none⟩) b.length cap p (by omega)
        rw [show cutLow (some ⟨g, 0, none⟩) p cap = some ⟨g, p, none⟩ by unfold cutLow; rw [if_neg (by omega), Option.map_some, addr_plain, Nat.zero_add]] at hcl
        have H9 := Lib.hid (And.intro ho9 (And.intro hf9 (show x0.ownBlock = some g by rw [HX0.out]; rfl)))
        have HP9 := Lib.hid hp
        have hlt64 : (k : Int) < (m : Int) := by omega
        have hkcu : k < m := hlt
        clear hp hpr hbq hncap hng hgl hbqw hyw hwl hob ho9 hf9
        go_wp2
        go_roundw
        case rel =>
          refine ⟨k + 1, by omega, by go_num, Lib.hid ⟨?_, hR.out.2.trans (H9.out.2.1.mono (T := fun j => x0.ownBlock = some j) (fun i _ e => by rw [show i = g from e]; exact H9.out.2.2)) (fun _ h => .inl h)⟩⟩
          rw [withR_take_succ hkL, ← HP9.out, HX0.out]
          exact H9.out.1
        case measure => simp [intOf]; omega
      · obtain rfl : k = m := by omega
        have hd : ¬ (k : Int) < (k : Int) := by omega
        have HF := Lib.hid (show OwnB (fun k => w.heap.size ≤ k) wr (.slice ao b.length cap) (withR s b L) ∧ Fr (fun j => x0.ownBlock = some j) w2 wr by
          have h1 := hR.out.1
          rw [List.take_of_length_le (by rw [HM.out]; exact Nat.le_refl _), HX0.out] at h1
          exact ⟨h1, hR.out.2⟩)
        go_wp2
        go_ret
        have hx : ∀ j, x0.ownBlock = some j → w.heap.size ≤ j := fun j hj => by rw [HX0.out] at hj; exact (H2.out.2.2.2 j hj).1
        exact ⟨_, rfl, HF.out.1, H2.out.1.trans HF.out.2 (fun j hj => .inr (hx j hj))⟩
end Go.Proofs.YtfkgdjoaoidkeaaGreat
namespace Go.Proofs.YtfkgdjoaoidkeaaGreat
open Go.RowKit Go.ChangeShapes
set_option linter.unusedVariables false
theorem op_convert_w {P : Program} {w w' : World} {o : Oper} {a : Act} {t t' : TypeId} {x : Operand} {vx v : Value} (ho : o.op = .convert t t' x) (hx : a.eval x = vx) (hr : (convert t t' vx).run P w = .ok v w') : (execOp a.eval o).run P w = .ok (.value v) w' := by
  unfold execOp
  rw [ho]
  simp only [hx, Sem.run_bind, hr, Result.andThen_ok]
  rfl
theorem ent_spence_spenceref03_Letters (args : Array Value) (w : World) : (callFunc 22 args).run Tryz.prog w = .ok (.enter 22 args) w := by kernel_rfl
theorem ent_spence_spenceref10_Places (args : Array Value) (w : World) : (callFunc 14 args).run Tryz.prog w = .ok (.enter 14 args) w := by kernel_rfl
theorem ent_spence_spenceref10_with (args : Array Value) (w : World) : (callFunc 27 args).run Tryz.prog w = .ok (.enter 27 args) w := by kernel_rfl
def RrwR (ao : Option Addr) (n cap b4 b5 z0 : Nat) (C D : Array Value) (S : ByteArray) (s X : List UInt8) (PL : List Nat) (i : Nat) (v : Value) (W : World) : Prop :=
  match i with
  | 0 => v = .slice ao n cap
  | 1 => v = .slice ao n cap
  | 2 => v = .agg C
  | 3 => ∃ x, v = x ∧ IntsR (fun k => z0 ≤ k) W x PL
  | 4 => v = .agg D
  | 5 => v = .string S
  | 6 => ∃ x, v = x ∧ BytesIn (fun k => z0 ≤ k) W x s
  | 7 => ∃ x, v = x ∧ OwnB (fun k => z0 ≤ k) W x X
  | 8 => ∃ x, v = x ∧ OwnB (fun k => z0 ≤ k) W x X
  | _ => True
theorem RrwR.ext (ao : Option Addr) (n cap b4 b5 z0 : Nat) (C D : Array Value) (S : ByteArray) (s X : List UInt8) (PL : List Nat) : ∀ (j : Nat) (u : Value) (W W' : World), Fr (fun _ => False) W W' → RrwR ao n cap b4 b5 z0 C D S s X PL j u W → RrwR ao n cap b4 b5 z0 C D S s X PL j u W'
  | 0, u, W, W', hf, h => h
  | 1, u, W, W', hf, h => h
  | 2, u, W, W', hf, h => h
  | 3, u, W, W', hf, h => (let ⟨x, h1, h2⟩ := h; ⟨x, h1, h2.keep hf (fun _ _ _ h => h)⟩)
  | 4, u, W, W', hf, h => h
  | 5, u, W, W', hf, h => h
  | 6, u, W, W', hf, h => (let ⟨x, h1, h2⟩ := h; ⟨x, h1, h2.keep hf (fun _ _ _ h => h)⟩)
  | 7, u, W, W', hf, h => (let ⟨x, h1, h2⟩ := h; ⟨x, h1, h2.keep hf (fun _ _ _ h => h)⟩)
  | 8, u, W, W', hf, h => (let ⟨x, h1, h2⟩ := h; ⟨x, h1, h2.keep hf (fun _ _ _ h => h)⟩)
  | _ + 9, u, W, W', hf, h => trivial
set_option maxRecDepth 100000 in
set_option maxHeartbeats 4000000 in
theorem rRewrite_any {F : Nat → Prop} (w : World) (v : Value) (b H K : List UInt8) (hH : H.length = 20) (hK : K.length = 20) (hv : BytesIn F w v b) (hb : b.length ≤ 900000) :
    Calls Tryz.prog 18 #[v, .agg (H.map bv).toArray, .agg (K.map bv).toArray] w fun e w' => ∃ x, e = .returned x ∧ OwnB (fun k => w.heap.size ≤ k) w' x (withR (letL K) b (placesR b (letL H))) ∧ Fr (fun _ => False) w w' := by
  obtain ⟨va, hva⟩ : ∃ va, va = v := ⟨_, rfl⟩
  obtain ⟨ao, n, cap, hvs⟩ : ∃ ao n cap, v = .slice ao n cap := by obtain ⟨ao, cap, h, _⟩ := hv; exact ⟨_, _, _, h⟩
  have hroom := fun p hp => placesR_room (b := b) (letL_length H) (p := p) hp
  have hpn := placesR_length b (letL H)
  have HPJ := Lib.hid (fun W (hv : BytesIn F W v b) => rPlaces_any W v b H hH hv hb)
  obtain ⟨PL, hPL⟩ : ∃ L, L = placesR b (letL H) := ⟨_, rfl⟩
  rw [← hPL] at hroom hpn HPJ ⊢
  have HLO := Lib.hid (fun (W : World) => rLetters_any K hK W)
  have hsl := letL_length K
  obtain ⟨s, hs⟩ : ∃ s, s = letL K := ⟨_, rfl⟩
  rw [← hs] at HLO hsl ⊢
  obtain ⟨S, hS⟩ : ∃ S : ByteArray, S = ⟨s.toArray⟩ := ⟨_, rfl⟩
  rw [← hS] at HLO
  have hss : S.size = 32 := by rw [hS]; exact hsl
  have hsd : S.data.toList = s := by rw [hS]
  obtain ⟨C, hC⟩ : ∃ C, C = (H.map bv).toArray := ⟨_, rfl⟩
  have hcs : C.size = 20 := by rw [hC]; simp [hH]
  obtain ⟨D, hD⟩ : ∃ D, D = (K.map bv).toArray := ⟨_, rfl⟩
  have hds : D.size = 20 := by rw [hD]; simp [hK]
  obtain ⟨X, hX⟩ : ∃ X, X = withR s b PL := ⟨_, rfl⟩
  rw [← hX]
  rw [← hC] at HPJ ⊢
  rw [← hD] at HLO ⊢
  obtain ⟨z0, hz0⟩ : ∃ z0, z0 = w.heap.size := ⟨_, rfl⟩
  obtain ⟨b4, hb4⟩ : ∃ b4, b4 = w.heap.size := ⟨_, rfl⟩
  obtain ⟨b5, hb5⟩ : ∃ b5, b5 = w.heap.size + 1 := ⟨_, rfl⟩
  obtain ⟨Wb, hW1⟩ : ∃ W1, W1 = (w.alloc (.cells C 24)).alloc (.cells D 24) := ⟨_, rfl⟩
  have hf1 : Fr (fun _ => False) w Wb := by rw [hW1]; exact ((Fr.refl _ _).alloc _).alloc _
  have hr1 : Wb.heap[b4]? = some (.cells C 24 (0, 0)) := by rw [hW1, hb4]; exact heap_alloc2_old w _ _
  have hr2 : Wb.heap[b5]? = some (.cells D 24 (0, 0)) := by rw [hW1, hb5]; exact heap_alloc2_new w _ _
  have LD4 := Lib.hid (fun W (hW : Fr (fun _ => False) Wb W) => load_hash10 W b4 C (hW.heap hr1 (fun h => h)) hcs)
  have LD5 := Lib.hid (fun W (hW : Fr (fun _ => False) Wb W) => load_hash10 W b5 D (hW.heap hr2 (fun h => h)) hds)
  have hzb : z0 ≤ Wb.heap.size := by have := hf1.size; omega
  have HPL := Lib.hid (fun W (hW : Fr (fun _ => False) Wb W) => show Calls Tryz.prog 14 #[v, .agg C] W fun e w' => ∃ u, e = .returned u ∧ IntsR (fun k => z0 ≤ k) w' u PL ∧ Fr (fun _ => False) W w' from
    (HPJ.out W ((hv.keep hf1 (fun _ _ _ h => h)).keep hW (fun _ _ _ h => h))).mono fun e w' ⟨u, h1, h2, h3⟩ => ⟨u, h1, h2.ints.mono (fun k _ hk => by have := hW.size; omega), h3⟩)
  have HCV := Lib.hid (fun W (hW : Fr (fun _ => False) Wb W) => show ∃ y W', (convert 9 22 (.string S)).run Tryz.prog W = .ok y W' ∧ Fr (fun _ => False) W W' ∧ BytesIn (fun k => z0 ≤ k) W' y s by
    obtain ⟨cap, W', h1, h2, h3, _⟩ := run_tag W S (by rw [hss]; unfold maxLen; omega)
    rw [hsd] at h3
    exact ⟨_, W', h1, h2, h3.mono (fun k _ hk => by have hk' : k = W.heap.size := hk; have := hW.size; omega)⟩)
  have HWI := Lib.hid (fun W (hW : Fr (fun _ => False) Wb W) x y (hx : IntsR (fun k => z0 ≤ k) W x PL) (hy : BytesIn (fun k => z0 ≤ k) W y s) => show Calls Tryz.prog 27 #[v, x, y] W fun e w' => ∃ x, e = .returned x ∧ OwnB (fun k => z0 ≤ k) w' x X ∧ Fr (fun _ => False) W w' by
    rw [hX]
    exact (rWith_any W v x y b s PL ((hv.keep hf1 (fun _ _ _ h => h)).keep hW (fun _ _ _ h => h)) (hx.mono (G := fun k => k < W.heap.size) (fun k hk _ => hk)) (fun _ h => h) (hy.mono (G := fun k => k < W.heap.size) (fun k hk _ => hk)) (fun _ h => h) hsl hb hroom (by omega)).mono fun e w' ⟨u, h1, h2, h3⟩ => ⟨u, h1, h2.mono (fun k _ hk => by have := hW.size; omega), h3⟩)
  have HF1 := Lib.hid (And.intro hf1 hz0)
  rw [← hva] at HPL HWI ⊢
  clear hf1 hv hr1 hr2 hcs hds HPJ hroom hpn hPL hs hsl hS hss hsd hC hD hX hH hK hzb hb
  rw [hvs] at hva
  subst hva
  go_enter Tryz.func18, Tryz.ntmps18
  go_wp2_with fail
  rw [← hW1, ← hb5, ← hb4]
  clear hW1 hz0 hb4 hb5
  refine wp_region_inv 9 (by kernel_rfl) (by kernel_rfl) (fun W => Fr (fun _ => False) Wb W) (RrwR ao n cap b4 b5 z0 C D S s X PL) (fun _ _ _ _ => True) (Fr (fun _ => False)) (RrwR.ext ao n cap b4 b5 z0 C D S s X PL) (Fr.refl _ _).drew ?_ ?_
  · intro i hi o ho
    replace hi : i < 9 := hi
    obtain rfl | rfl | rfl | rfl | rfl | rfl | rfl | rfl | rfl : i = 0 ∨ i = 1 ∨ i = 2 ∨ i = 3 ∨ i = 4 ∨ i = 5 ∨ i = 6 ∨ i = 7 ∨ i = 8 := by omega
    · simp only [List.getElem?_cons_zero, Option.some.injEq] at ho
      subst ho
      intro a W vs hB hS hE hU
      refine wpG_plain rfl ?_
      have v0 : a.eval (.tmp 0) = .slice ao n cap := (hU 0 (by kernel_rfl)).trans rfl
      clear hE hU
      exact wp_value_inv (w' := W) (.slice ao n cap) (op_move rfl v0) ⟨_, rfl, hB, Fr.refl _ _, rfl, fun _ _ _ _ _ => trivial⟩
    · simp only [List.getElem?_cons_zero, List.getElem?_cons_succ, Option.some.injEq] at ho
      subst ho
      intro a W vs hB hS hE hU
      refine wpG_plain rfl ?_
      have v0 : a.eval (.tmp 0) = .slice ao n cap := (hU 0 (by kernel_rfl)).trans rfl
      clear hE hU
      exact wp_value_inv (w' := W) (.slice ao n cap) (op_move rfl v0) ⟨_, rfl, hB, Fr.refl _ _, rfl, fun _ _ _ _ _ => trivial⟩
    · simp only [List.getElem?_cons_zero, List.getElem?_cons_succ, Option.some.injEq] at ho
      subst ho
      intro a W vs hB hS hE hU
      refine wpG_plain rfl ?_
      have v4 : a.eval (.tmp 4) = .pointer (some ⟨b4, 0, none⟩) := (hU 4 (by kernel_rfl)).trans rfl
      clear hE hU
      exact wp_value_inv (w' := W) (.agg C) (op_loadAt rfl v4 (LD4.out W hB)) ⟨_, rfl, hB, Fr.refl _ _, rfl, fun _ _ _ _ _ => trivial⟩
    · simp only [List.getElem?_cons_zero, List.getElem?_cons_succ, Option.some.injEq] at ho
      subst ho
      intro a W vs hB hS hE hU
      refine wpG_plain rfl ?_
      obtain ⟨r1, e8⟩ := hE 1 8 (by kernel_rfl) (by kernel_rfl)
      have v8 : a.eval (.tmp 8) = .slice ao n cap := e8.trans r1
      obtain ⟨r2, e9⟩ := hE 2 9 (by kernel_rfl) (by kernel_rfl)
      have v9 : a.eval (.tmp 9) = .agg C := e9.trans r2
      clear hE hU
      refine wp_call_inv 14 #[.tmp 8, .tmp 9] #[22, 24] rfl #[.slice ao n cap, .agg C] (by simp only [List.map_toArray, List.map_cons, List.map_nil, v8, v9]) (ent_spence_spenceref10_Places _) (Post := fun v W' => IntsR (fun k => z0 ≤ k) W' v PL ∧ Fr (fun _ => False) W W') ((HPL.out W hB).mono fun e w' ⟨u, h1, h2, h3⟩ => ⟨_, h1, h2, h3⟩) ?_
      rintro v W' ⟨hv, hf⟩
      exact ⟨_, rfl, hB.trans hf (fun _ h => h.elim), hf, ⟨v, rfl, hv⟩, fun _ _ _ _ _ => trivial⟩
    · simp only [List.getElem?_cons_zero, List.getElem?_cons_succ, Option.some.injEq] at ho
      subst ho
      intro a W vs hB hS hE hU
      refine wpG_plain rfl ?_
      have v5 : a.eval (.tmp 5) = .pointer (some ⟨b5, 0, none⟩) := (hU 5 (by kernel_rfl)).trans rfl
      clear hE hU
      exact wp_value_inv (w' := W) (.agg D) (op_loadAt rfl v5 (LD5.out W hB)) ⟨_, rfl, hB, Fr.refl _ _, rfl, fun _ _ _ _ _ => trivial⟩
    · simp only [List.getElem?_cons_zero, List.getElem?_cons_succ, Option.some.injEq] at ho
      subst ho
      intro a W vs hB hS hE hU
      refine wpG_plain rfl ?_
      obtain ⟨r4, e11⟩ := hE 4 11 (by kernel_rfl) (by kernel_rfl)
      have v11 : a.eval (.tmp 11) = .agg D := e11.trans r4
      clear hE hU
      refine wp_call_inv 22 #[.tmp 11] #[24] rfl #[.agg D] (by simp only [List.map_toArray, List.map_cons, List.map_nil, v11]) (ent_spence_spenceref03_Letters _) (Post := fun v W' => v = .string S ∧ Fr (fun _ => False) W W') ((HLO.out W).mono fun e w' h => ⟨_, h.1, rfl, h.2⟩) ?_
      rintro v W' ⟨rfl, hf⟩
      exact ⟨_, rfl, hB.trans hf (fun _ h => h.elim), hf, rfl, fun _ _ _ _ _ => trivial⟩
    · simp only [List.getElem?_cons_zero, List.getElem?_cons_succ, Option.some.injEq] at ho
      subst ho
      intro a W vs hB hS hE hU
      refine wpG_plain rfl ?_
      obtain ⟨r5, e12⟩ := hE 5 12 (by kernel_rfl) (by kernel_rfl)
      have v12 : a.eval (.tmp 12) = .string S := e12.trans r5
      clear hE hU
      obtain ⟨y, W', hrun, hfr, hby⟩ := HCV.out W hB
      exact wp_value_inv (w' := W') y (op_convert_w rfl v12 hrun) ⟨_, rfl, hB.trans hfr (fun _ h => h.elim), hfr, ⟨y, rfl, hby⟩, fun _ _ _ _ _ => trivial⟩
    · simp only [List.getElem?_cons_zero, List.getElem?_cons_succ, Option.some.injEq] at ho
      subst ho
      intro a W vs hB hS hE hU
      refine wpG_plain rfl ?_
      obtain ⟨r0, e7⟩ := hE 0 7 (by kernel_rfl) (by kernel_rfl)
      have v7 : a.eval (.tmp 7) = .slice ao n cap := e7.trans r0
      obtain ⟨⟨x3, rg3, hg3⟩, e10⟩ := hE 3 10 (by kernel_rfl) (by kernel_rfl)
      have v10 : a.eval (.tmp 10) = x3 := e10.trans rg3
      obtain ⟨⟨x6, rg6, hg6⟩, e13⟩ := hE 6 13 (by kernel_rfl) (by kernel_rfl)
      have v13 : a.eval (.tmp 13) = x6 := e13.trans rg6
      clear hE hU
      refine wp_call_inv 27 #[.tmp 7, .tmp 10, .tmp 13] #[22, 31, 22] rfl #[.slice ao n cap, x3, x6] (by simp only [List.map_toArray, List.map_cons, List.map_nil, v7, v10, v13]) (ent_spence_spenceref10_with _) (Post := fun v W' => OwnB (fun k => z0 ≤ k) W' v X ∧ Fr (fun _ => False) W W') ((HWI.out W hB x3 x6 hg3 hg6).mono fun e w' ⟨u, h1, h2, h3⟩ => ⟨_, h1, h2, h3⟩) ?_
      rintro v W' ⟨hv, hf⟩
      exact ⟨_, rfl, hB.trans hf (fun _ h => h.elim), hf, ⟨v, rfl, hv⟩, fun _ _ _ _ _ => trivial⟩
    · simp only [List.getElem?_cons_zero, List.getElem?_cons_succ, Option.some.injEq] at ho
      subst ho
      intro a W vs hB hS hE hU
      refine wpG_plain rfl ?_
      obtain ⟨⟨x7, rg7, hg7⟩, e14⟩ := hE 7 14 (by kernel_rfl) (by kernel_rfl)
      have v14 : a.eval (.tmp 14) = x7 := e14.trans rg7
      clear hE hU
      exact wp_value_inv (w' := W) x7 (op_assign rfl v14) ⟨_, rfl, hB, Fr.refl _ _, ⟨x7, rfl, hg7⟩, fun _ _ _ _ _ => trivial⟩
  · intro vs Wa hB0 hR0 hD
    obtain ⟨x, hx, hox⟩ := hR0 8 (by decide)
    have HO := Lib.hid hox
    have HB := Lib.hid hB0
    clear hR0 hD hB0 hox
    simp only [acts, if_true, dstAt, List.getElem?_cons_zero, List.getElem?_cons_succ, Option.bind_some, Act.put, List.setIfInBounds_toArray, List.set_cons_succ, List.set_cons_zero, List.drop_succ_cons, List.drop_nil]
    rw [hx]
    clear hx
    go_wp2
    go_ret
    exact ⟨x, rfl, HO.out.mono (fun k _ hk => by have := HF1.out.2; omega), HF1.out.1.trans HB.out (fun _ h => h.elim)⟩
set_option maxRecDepth 100000 in
set_option maxHeartbeats 4000000 in
theorem rBlank_any {F : Nat → Prop} (w : World) (v : Value) (b H : List UInt8) (hH : H.length = 20) (hv : BytesIn F w v b) (hb : b.length ≤ 900000) :
    Calls Tryz.prog 9 #[v, .agg (H.map bv).toArray] w fun e w' => ∃ x y, e = .returned (.tuple #[x, y]) ∧ OwnB (fun k => w.heap.size ≤ k) w' x (withR (List.replicate 32 0) b (placesR b (letL H))) ∧ IntsR (fun k => w.heap.size ≤ k) w' y (placesR b (letL H)) ∧ Fr (fun _ => False) w w' := by
  have hroom := fun p hp => placesR_room (b := b) (letL_length H) (p := p) hp
  have hpn := placesR_length b (letL H)
  obtain ⟨C, hC⟩ : ∃ C, C = (H.map bv).toArray := ⟨_, rfl⟩
  have hcs : C.size = 20 := by rw [hC]; simp [hH]
  have hf1 : Fr (fun _ => False) w (w.alloc (.cells C 24)) := (Fr.refl _ _).alloc _
  obtain ⟨W1, hW1⟩ : ∃ W1, W1 = w.alloc (.cells C 24) := ⟨_, rfl⟩
  have hr1 : W1.heap[w.heap.size]? = some (.cells C 24 (0, 0)) := by rw [hW1]; exact heap_alloc_new w _
  rw [← hW1] at hf1
  have hv1 := hv.keep hf1 (fun _ _ _ h => h)
  have HPL := Lib.hid (rPlaces_any W1 v b H hH hv1 hb)
  rw [← hC] at HPL ⊢
  obtain ⟨PL, hPL⟩ : ∃ L, L = placesR b (letL H) := ⟨_, rfl⟩
  rw [← hPL] at hroom hpn HPL ⊢
  have HX := Lib.hid (And.intro hf1 hW1)
  have HV := Lib.hid (And.intro hv1 (And.intro hb (And.intro hroom hpn)))
  clear hC hf1 hv1 hv hb hroom hpn hPL hW1
  go_enter Tryz.func9, Tryz.ntmps9
  go_wp2_with (first
    | (rw [← HX.out.2]; (with_reducible refine wpList_load_row rfl 24 (.tmp 3) rfl w.heap.size rfl 24 C (0, 0) _ hr1 Tryz.underlying24 rfl (by rw [hcs]; kernel_rfl) ?_))
    | (go_at_call 14; refine HPL.out.mono ?_; rintro e w2 ⟨u, rfl, hu, hf2⟩; (have hmk := run_make_bytes w2 32 32 rfl (by omega)); (obtain ⟨w3, hw3⟩ : ∃ w3, w3 = w2.alloc (.cells ((List.replicate 32 (0 : UInt8)).map bv).toArray 5) := ⟨_, rfl⟩); rw [← hw3] at hmk; (have hf3 : Fr (fun _ => False) w2 w3 := by rw [hw3]; exact (Fr.refl _ _).alloc _); (have hz3 : BytesIn (fun k => k = w2.heap.size) w3 (.slice (some ⟨w2.heap.size, 0, none⟩) 32 32) (List.replicate 32 (0 : UInt8)) := by rw [hw3]; exact (Byt.new w2 (List.replicate 32 (0 : UInt8))).bytes (by rw [List.length_replicate]; unfold maxLen; omega)); (have HWI := Lib.hid (rWith_any w3 v u (.slice (some ⟨w2.heap.size, 0, none⟩) 32 32) b (List.replicate 32 0) PL ((HV.out.1.keep hf2 (fun _ _ _ h => h)).keep hf3 (fun _ _ _ h => h)) ((hu.ints.keep hf3 (fun _ _ _ h => h)).mono (G := fun k => k < w3.heap.size) (fun k hk _ => hk)) (fun _ h => h) (hz3.mono (G := fun k => k < w3.heap.size) (fun k hk _ => hk)) (fun _ h => h) (by simp) HV.out.2.1 HV.out.2.2.1 (by have := HV.out.2.2.2; have := HV.out.2.1; omega))); (have H3 := Lib.hid (And.intro (hu.ints.keep hf3 (fun _ _ _ h => h)) (hf2.trans hf3 (fun _ h => h.elim)))); clear hw3 hf3 hz3 hu hf2)
    | (go_at_call 27; refine HWI.out.mono ?_; rintro e w4 ⟨x, rfl, hox, hf4⟩))
  go_ret2
  have hz := HX.out.1.size
  have hz2 := H3.out.2.size
  exact ⟨x, _, rfl, hox.mono (fun k _ hk => by omega), (H3.out.1.keep hf4 (fun _ _ _ h => h)).mono (fun k _ hk => by omega), (HX.out.1.trans H3.out.2 (fun _ h => h.elim)).trans hf4 (fun _ h => h.elim)⟩
end Go.Proofs.YtfkgdjoaoidkeaaGreat
