/- dev's own device: pending writes whose bits are set, in order. -/
import Derived.Test.YthmcmomkomhilaaDLatest
import Derived.Test.YthmcmomkomhilaaRDev4
namespace Go.Proofs.Ythmcmomkomhilaa
open Go.RowKit Go.ChangeShapes
set_option linter.unusedVariables false
attribute [local go_sem] Oper.semAt_some

/-- Of a list, the first one the i-th, those that f tells. -/
def pickL {α : Type} (f : Nat → Bool) : Nat → List α → List α
  | _, [] => []
  | i, x :: xs => if f i = true then x :: pickL f (i + 1) xs else pickL f (i + 1) xs
theorem pickL_snoc {α : Type} (f : Nat → Bool) (x : α) : ∀ (xs : List α) (i : Nat), pickL f i (xs ++ [x]) = if f (i + xs.length) = true then pickL f i xs ++ [x] else pickL f i xs
  | [], i => by simp [pickL]
  | y :: xs, i => by
    rw [List.cons_append, pickL, pickL, pickL_snoc f x xs (i + 1), List.length_cons, show i + 1 + xs.length = i + (xs.length + 1) by omega]
    split <;> split <;> simp_all
theorem pickL_le {α : Type} (f : Nat → Bool) : ∀ (xs : List α) (i : Nat), (pickL f i xs).length ≤ xs.length
  | [], i => by simp [pickL]
  | y :: xs, i => by
    have := pickL_le f xs (i + 1)
    rw [pickL]
    split <;> simp <;> omega
theorem pickL_append {α : Type} (f : Nat → Bool) (zs : List α) : ∀ (xs : List α) (i : Nat), pickL f i (xs ++ zs) = pickL f i xs ++ pickL f (i + xs.length) zs
  | [], i => by simp [pickL]
  | y :: xs, i => by
    rw [List.cons_append, pickL, pickL, pickL_append f zs xs (i + 1), List.length_cons, show i + 1 + xs.length = i + (xs.length + 1) by omega]
    split <;> simp
theorem pickL_take {α : Type} (f : Nat → Bool) (xs : List α) (k : Nat) : pickL f 0 (xs.take k) <+: pickL f 0 xs := by
  conv => rhs; rw [← List.take_append_drop k xs]
  rw [pickL_append]
  exact List.prefix_append _ _
theorem pickL_all {α : Type} (f : Nat → Bool) (hf : ∀ i, f i = true) : ∀ (xs : List α) (i : Nat), pickL f i xs = xs
  | [], i => rfl
  | y :: xs, i => by rw [pickL, if_pos (hf i), pickL_all f hf xs]
/-- Writes kept, one behind the other. -/
def putAll (K : List UInt8) : List Pend → List UInt8
  | [] => K
  | p :: W => putAll (putSec K p.1 p.2) W
theorem putAll_snoc (p : Pend) : ∀ (W : List Pend) (K : List UInt8), putAll K (W ++ [p]) = putSec (putAll K W) p.1 p.2
  | [], K => rfl
  | q :: W, K => by rw [List.cons_append, putAll, putAll, putAll_snoc p W]
theorem wakeL_pick {s : Nat} (f : Nat → Bool) : ∀ (xs : List (PendX s)) (i : Nat) (K : List UInt8), wakeL f i (valsX xs) K = putAll K (valsX (pickL f i xs))
  | [], i, K => rfl
  | x :: xs, i, K => by
    show wakeL f (i + 1) (valsX xs) (if f i = true then putSec K x.1.1 x.1.2 else K) = _
    rw [wakeL_pick f xs (i + 1), pickL]
    split <;> rfl
theorem putAll_length {s : Nat} : ∀ (xs : List (PendX s)) (K : List UInt8), K.length = 64 * s → (putAll K (valsX xs)).length = 64 * s
  | [], K, h => h
  | x :: xs, K, h => putAll_length xs _ (putSec_length K s x.1.1 x.1.2 h x.2.1 x.2.2)

/-- What choosing reads besides: the box of the bits. -/
structure ItB (w : World) (F : Nat → Prop) (Bp Bk g : Nat) (vw : Value) (keep : Int) (W : List Pend) : Prop where
  it : ItR w F Bp g vw W
  bits : w.cell? ⟨Bk, 0, none⟩ = some (.int .i64 keep)
theorem ItB.keep {F S : Nat → Prop} {w w' : World} {Bp Bk g : Nat} {vw : Value} {kp : Int} {W : List Pend} (h : ItB w F Bp Bk g vw kp W) (hf : Fr S w w') (h1 : ¬ S Bp) (h4 : ¬ S Bk) (h2 : ¬ S g) (h3 : ∀ k, k < w.heap.size → F k → ¬ S k) : ItB w' F Bp Bk g vw kp W :=
  ⟨h.it.keep hf h1 h2 h3, hf.cell h.bits h4⟩
theorem ItB.alloc {F : Nat → Prop} {w : World} {Bp Bk g : Nat} {vw : Value} {kp : Int} {W : List Pend} (h : ItB w F Bp Bk g vw kp W) (o : Obj) : ItB (w.alloc o) F Bp Bk g vw kp W :=
  h.keep (S := fun _ => False) ((Fr.refl _ _).alloc o) id id id (fun _ _ _ h => h)

set_option maxRecDepth 100000 in
set_option maxHeartbeats 4000000 in
theorem chosen1_in {T F : Nat → Prop} {s : Nat} (n : Nat) (l Bp Bk g : Nat) (keep : Int) (hkp0 : -9223372036854775808 ≤ keep) (hkp1 : keep ≤ 9223372036854775807) (xs : List (PendX s)) (vw : Value) (hn6 : xs.length ≤ 1000000) (hT1 : ¬ T Bp) (hT4 : ¬ T Bk) (hT2 : ¬ T g) (hT3 : ∀ k, F k → ¬ T k) (B0 : Nat) (J Jx : List (PendX s) → World → Prop) (hJ : AbidesFrom B0 J)
    (hY : ∀ pre x W, J pre W → pre.length < xs.length → YieldAt Fence.wide (n - 1) Try.prog l (encsX x) W fun e W' =>
      (e = .returned (.bool true) ∧ J (pre ++ [x]) W' ∧ Fr T W W') ∨ (e = .returned (.bool false) ∧ Jx (pre ++ [x]) W'))
    (W : World) (hR : ItB W F Bp Bk g vw keep (valsX xs)) (h0 : J [] W) :
    CallsIn Fence.wide n Try.prog 53 #[.func (.yield l) #[] #[], .pointer (some ⟨Bp, 0, none⟩), .pointer (some ⟨Bk, 0, none⟩)] W fun e W' => (∃ v, e = .returned v) ∧
      ((∃ ys, ys = pickL (bitOf keep) 0 xs ∧ J ys W') ∨ (∃ pre, pre <+: pickL (bitOf keep) 0 xs ∧ Jx pre W')) := by
  obtain ⟨ao, cap, hvf, hc1, hc2⟩ := hR.it.wr.form
  have hvl : (valsX xs).length = xs.length := by simp [valsX]
  obtain ⟨m, hm⟩ : ∃ m, m = xs.length := ⟨_, rfl⟩
  rw [hvl, ← hm] at hvf
  subst hvf
  rw [← hm] at hn6
  obtain ⟨⟨hbx, hhd, _⟩, hbt⟩ := id hR
  have HR := Lib.hid hR
  have HM := Lib.hid hm
  have HY := Lib.hid hY
  have HJ := Lib.hid hJ
  have HT := Lib.hid (And.intro hT1 (And.intro hT4 (And.intro hT2 hT3)))
  have HL := Lib.hid (valsX_len xs)
  clear hR hm hY hJ hT1 hT2 hT3 hT4 hvl hc1 hc2
  refine callsIn_of_wp Try.func53 rfl trivial ?_ rfl
  simp only [Try.ntmps53, List.size_toArray, List.length_cons, List.length_nil, Nat.reduceAdd, Nat.reduceSub, Array.replicate_succ, Array.replicate_zero, List.push_toArray, List.append_toArray, List.nil_append, List.cons_append]
  gi_wp2
  gi_loopw [11] (fun iv wr => ∃ i : Nat, i ≤ m ∧ iv = .int .i64 i ∧ J (pickL (bitOf keep) 0 (xs.take i)) wr ∧ Hid (ItB wr F Bp Bk g (.slice ao m cap) keep (valsX xs)))
    (fun iv _ => m - (intOf iv).toNat)
  case atStart => exact ⟨0, by omega, rfl, h0, HR⟩
  case round =>
    obtain ⟨i, hi, rfl, hJs, hRr⟩ := hrel
    by_cases hlt : i < m
    · have hrx : i < xs.length := by rw [← HM.out]; exact hlt
      obtain ⟨⟨hb1, hh1, hw1⟩, hbt1⟩ := id hRr.out
      obtain ⟨b, rfl, hFb, hrg⟩ := hw1.elem HL.out i (by simpa [valsX] using hrx)
      have ex : (valsX xs)[i]'(by simpa [valsX] using hrx) = xs[i].1 := by simp [valsX]
      rw [ex] at hrg
      obtain ⟨x, hx⟩ : ∃ x, x = xs[i] := ⟨_, rfl⟩
      rw [← hx] at hrg
      have hst : pickL (bitOf keep) 0 (xs.take (i + 1)) = if bitOf keep i = true then pickL (bitOf keep) 0 (xs.take i) ++ [x] else pickL (bitOf keep) 0 (xs.take i) := by
        rw [List.take_succ_eq_append_getElem hrx, pickL_snoc, ← hx, Nat.zero_add, List.length_take, Nat.min_eq_left (by omega)]
      have HST := Lib.hid hst
      have hxl := x.2.2
      have hd : decide ((i : Int) < (m : Int)) = true := by rw [decide_eq_true_iff]; omega
      have hkn : (i : Int) < (m : Int) := by omega
      have hi0 : (0 : Int) ≤ (i : Int) := by omega
      obtain ⟨C, hC⟩ : ∃ C, C = (wrC x.1).toArray := ⟨_, rfl⟩
      have hCs : C.size = 65 := by rw [hC]; simp [wrC_length _ hxl]
      have hC1 : C.all (·.oneCell') = true := by rw [hC]; exact all_oneCell_toArray (wrC_one _)
      have hz : (Try.prog.info? 79).map (·.size) = some (wrC x.1).length := by rw [wrC_length _ hxl]; kernel_rfl
      have hz2 : (Try.prog.info? 79).map (·.size) = some C.size := by rw [hCs]; kernel_rfl
      have hzs : zWr.size = C.size := by rw [zWr_size, hCs]
      have hzv := zWr_zero
      have HC := Lib.hid hC
      have hr : ((i : Int)).tmod 62 = ((i % 62 : Nat) : Int) := rfl
      have hb := bit_tested keep i
      obtain ⟨r, hrr⟩ : ∃ r, r = i % 62 := ⟨_, rfl⟩
      have hr62 : r < 62 := by omega
      rw [← hrr] at hr hb
      have hJ2 := HJ.out _ _ _ none hJs (World.grownBy_alloc wr (.cells C 79) none) (fun r e => by cases e)
      have HR2 := Lib.hid (hRr.out.alloc (.cells C 79))
      have hbt2 := HR2.out.bits
      have hnb : (wr.alloc (.cells C 79)).heap[wr.heap.size]? = some (.cells C 79 (0, 0)) := heap_alloc_new wr _
      have hn0 : (wr.alloc (.cells C 79)).cell? ⟨wr.heap.size, 0, none⟩ = some (.int .i64 x.1.1) := by
        rw [cell_of_row _ _ _ _ _ _ hnb, hC]; rfl
      have hn1 : (wr.alloc (.cells C 79)).rangeAt wr.heap.size 1 (x.1.2.map bv) := fun j v hv => by
        rw [cell_of_row _ _ _ _ _ _ hnb, hC, List.getElem?_toArray, wrC, show 1 + j = j + 1 by omega, List.getElem?_cons_succ]; exact hv
      have hz3 : (Try.prog.info? 70).map (·.size) = some (x.1.2.map bv).length := by rw [List.length_map, hxl]; kernel_rfl
      clear hrr hst hx hw1 hRr ex hJs hnb hC
      by_cases hbit : bitOf keep i = true
      · obtain ⟨fn, tmps, assign, body, hy, hRd⟩ := HY.out _ x _ hJ2 (Nat.lt_of_le_of_lt (pickL_le _ _ _) (by rw [List.length_take]; omega))
        simp only [encsX] at hy
        have HBIT := Lib.hid hbit
        rw [hbit] at hb
        clear hbit hJ2
        gi_wp2_with (first
          | (with_reducible refine wpListIn_load_mid .out rfl 79 (.tmp 14) rfl b (i * 65) rfl (wrC x.1) _ hrg Try.underlying79 rfl hz ?_; rw [← HC.out])
          | (with_reducible refine wpListIn_store_new .out rfl 79 (.tmp 5) (.tmp 15) rfl C zWr 79 wr rfl rfl rfl hz2 hzs hC1 ?_)
          | (refine wpListIn_load_mid_g .out (by simp [Region.wanted, yielded, Act.put]) 70 (.tmp 26) rfl wr.heap.size 1 rfl (x.1.2.map bv) _ hn1 Try.underlying70 rfl hz3 ?_))
        refine ⟨fun hx => WideF.out.free hx, hRd.mono ?_⟩
        rintro e W3 (⟨rfl, hJ3, hk3⟩ | ⟨rfl, hJx3⟩)
        · have HR3 := Lib.hid (HR2.out.keep (S := T) (w' := W3) hk3 HT.out.1 HT.out.2.1 HT.out.2.2.1 (fun k _ hk => HT.out.2.2.2 k hk))
          gi_wp2
          go_roundw
          case rel => exact ⟨i + 1, by omega, by go_num, by rw [HST.out, if_pos HBIT.out]; exact hJ3, HR3⟩
          case measure => simp [intOf]; omega
        · gi_wp2
          refine bodyPost_ret (results_none rfl _ _ _) rfl ?_
          have hx3 : Jx (pickL (bitOf keep) 0 (xs.take (i + 1))) W3 := by rw [HST.out, if_pos HBIT.out]; exact hJx3
          exact ⟨⟨_, rfl⟩, .inr ⟨_, pickL_take _ _ _, hx3⟩⟩
      · have hbf : bitOf keep i = false := by simpa using hbit
        have HBIT := Lib.hid hbf
        rw [hbf] at hb
        clear hbit hbf
        gi_wp2_with (first
          | (with_reducible refine wpListIn_load_mid .out rfl 79 (.tmp 14) rfl b (i * 65) rfl (wrC x.1) _ hrg Try.underlying79 rfl hz ?_; rw [← HC.out])
          | (with_reducible refine wpListIn_store_new .out rfl 79 (.tmp 5) (.tmp 15) rfl C zWr 79 wr rfl rfl rfl hz2 hzs hC1 ?_))
        refine ⟨fun _ h => (by cases h), ?_⟩
        gi_wp2
        go_roundw
        case rel => exact ⟨i + 1, by omega, by go_num, by rw [HST.out, if_neg (by rw [HBIT.out]; decide)]; exact hJ2, HR2⟩
        case measure => simp [intOf]; omega
    · have hkn : i = m := by omega
      have hd : decide ((i : Int) < (m : Int)) = false := by rw [decide_eq_false_iff_not]; omega
      have HJE := Lib.hid (show J (pickL (bitOf keep) 0 xs) wr by rwa [List.take_of_length_le (by rw [← HM.out]; omega)] at hJs)
      clear hkn hJs
      gi_wp2
      go_end0
      exact ⟨⟨_, rfl⟩, .inl ⟨_, rfl, HJE.out⟩⟩
theorem chosen_any (w : World) (g : Nat) (keep : Int) :
    Calls Try.prog 50 #[.pointer (some ⟨g, 0, none⟩), .int .i64 keep] w fun e w' => e = .returned (.func (.func 53) #[] #[.pointer (some ⟨w.heap.size, 0, none⟩), .pointer (some ⟨w.heap.size + 1, 0, none⟩)]) ∧ w' = (w.alloc (.cells #[.pointer (some ⟨g, 0, none⟩)] 77)).alloc (.cells #[.int .i64 keep] 3) := by
  go_enter Try.func50, Try.ntmps50
  go_wp2
  go_ret
  exact ⟨rfl, rfl⟩
theorem ItB.below {w W : World} {F : Nat → Prop} {Bp Bk g : Nat} {vw : Value} {kp : Int} {V : List Pend} (h : ItB w F Bp Bk g vw kp V) (hb : Below w.heap.size w W) : ItB W F Bp Bk g vw kp V := by
  have h1 : Bk < w.heap.size := World.block_lt_of_cell? _ _ h.bits
  exact ⟨h.it.below hb, (Fr.ofBelow hb).cell h.bits (fun h => by have h : w.heap.size ≤ Bk := h; omega)⟩
theorem chosen_stops {T F : Nat → Prop} {s : Nat} (n Bp Bk g : Nat) (keep : Int) (hkp0 : -9223372036854775808 ≤ keep) (hkp1 : keep ≤ 9223372036854775807) (xs : List (PendX s)) (vw : Value) (hn6 : xs.length ≤ 1000000) (hT1 : ¬ T Bp) (hT4 : ¬ T Bk) (hT2 : ¬ T g) (hT3 : ∀ k, F k → ¬ T k) (w : World) (hR : ItB w F Bp Bk g vw keep (valsX xs)) :
    SeqStopsK Fence.wide n Try.prog 53 #[.pointer (some ⟨Bp, 0, none⟩), .pointer (some ⟨Bk, 0, none⟩)] encsX (Fr T) (fun ys => ys = pickL (bitOf keep) 0 xs) (fun pre => pre <+: pickL (bitOf keep) 0 xs) xs.length w :=
  fun l J Jx W hW hJ hJx hY h0 => chosen1_in n l Bp Bk g keep hkp0 hkp1 xs vw hn6 hT1 hT4 hT2 hT3 _ J Jx hJ hY W (hR.below hW) h0
end Go.Proofs.Ythmcmomkomhilaa
