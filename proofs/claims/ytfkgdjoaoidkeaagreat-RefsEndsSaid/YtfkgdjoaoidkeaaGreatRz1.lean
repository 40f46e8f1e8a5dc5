/- Laid together: BPlace Str BLetters Inv Ops -/
import Derived.Test.YtfkgdjoaoidkeaaGreatRz0
import Derived.Laws.Shifts
import Derived.Laws.IdiomStrings
import Derived.Lib.BufferRead
import Derived.Test.YtfkgdjoaoidkeaaGreatRows
import Derived.StillTail
import Derived.WalkKit
import Derived.Stop.BytesEq

namespace Go.Proofs.YtfkgdjoaoidkeaaGreat
open Go.RowKit Go.ChangeShapes
set_option linter.unusedVariables false
theorem ret_two {a b c d : Int} (h : a = c) (h' : b = d) : Ending.returned (.tuple #[.int .i64 a, .int .i64 b]) = .returned (.tuple #[.int .i64 c, .int .i64 d]) := by rw [h, h']
theorem place_any (i b : Nat) (hi : i < 32) (hb : b < 5) (w : World) :
    Calls Tryz.prog 100 #[.int .i64 i, .int .i64 b] w fun e w' => e = .returned (.tuple #[.int .i64 ((5 * i + b) / 8 : Nat), .int .i64 ((5 * i + b) % 8 : Nat)]) ∧ w = w' := by
  have h1 : (0 : Int) ≤ 5 * (i : Int) + (b : Int) := by omega
  go_enter Tryz.func100, Tryz.ntmps100
  go_wp2
  go_ret2
  exact ⟨ret_two (by omega) (by omega), rfl⟩
def lowFive (H : List UInt8) (i : Nat) : Nat → Nat
  | 0 => 0
  | k + 1 => lowFive H i k + bitN H (5 * i + k) * 2 ^ k
theorem lowFive_lt (H : List UInt8) (i k : Nat) : lowFive H i k < 2 ^ k := by
  induction k with
  | zero => simp [lowFive]
  | succ k ih =>
    have h := bitN_lt H (5 * i + k)
    rw [lowFive, Nat.pow_succ]
    have h2 : bitN H (5 * i + k) * 2 ^ k ≤ 1 * 2 ^ k := Nat.mul_le_mul_right _ (by omega)
    omega
theorem lowFive_five (H : List UInt8) (i : Nat) : lowFive H i 5 = five H i := by
  simp only [lowFive, five, fiveFrom, Nat.sub_zero, show 4 - 1 = 3 from rfl, show 4 - 2 = 2 from rfl, show 4 - 3 = 1 from rfl, show 4 - 4 = 0 from rfl]
  omega
theorem u8_and1 (n : Nat) (h : n < 256) : bits .and .u8 (n : Int) 1 = ((n % 2 : Nat) : Int) := by
  have := bits_mask .u8 8 (by decide) wraps_u8 1 (by decide) (n : Int) (by omega) (by omega)
  simpa using this
theorem bit_or (v b k : Nat) (hv : v < 2 ^ k) (hb : b < 2) (hk : k < 5) : bits .or .i64 (v : Int) ((b : Int) * 2 ^ k) = ((v + b * 2 ^ k : Nat) : Int) := by
  have h5 : 2 ^ k ≤ 2 ^ 4 := Nat.pow_le_pow_right (by decide) (by omega)
  have h6 : b * 2 ^ k ≤ 1 * 2 ^ k := Nat.mul_le_mul_right _ (by omega)
  have h := i64_or k v (b * 2 ^ k) hv ⟨b, Nat.mul_comm _ _⟩ (by omega) (by omega)
  rw [← h]
  push_cast
  rfl
set_option maxHeartbeats 1000000 in
theorem valueAt_any (H : List UInt8) (hH : H.length = 20) (i : Nat) (hi : i < 32) (w : World) :
    Calls Tryz.prog 67 #[.agg (H.map bv).toArray, .int .i64 i] w fun e w' => e = .returned (.int .i64 (five H i)) ∧ Fr (fun _ => False) w w' := by
  obtain ⟨C, hC⟩ : ∃ C, C = (H.map bv).toArray := ⟨_, rfl⟩
  have HB := Lib.hid (show BytT (w.alloc (.cells C 24)) w.heap.size 24 H by rw [hC]; exact heap_alloc_new w _)
  have HPL := Lib.hid (fun b (hb : b < 5) W => place_any i b hi hb W)
  have HL := Lib.hid (lowFive_five H i)
  have HH := Lib.hid hH
  rw [← hC]
  clear hC hH
  go_enter Tryz.func67, Tryz.ntmps67
  go_wp2_with fail
  go_loop [5, 9] (fun vv kv => ∃ k v : Nat, k ≤ 5 ∧ v < 32 ∧ kv = .int .i64 k ∧ vv = .int .i64 v ∧ Hid (v = lowFive H i k)) (fun _ kv => 5 - (intOf kv).toNat)
  case atStart => exact ⟨0, 0, by omega, by omega, rfl, rfl, Lib.hid rfl⟩
  case round =>
    obtain ⟨k, v, hk, hv, rfl, rfl, hV⟩ := hrel
    by_cases hlt : k < 5
    · have HP := HPL.out k hlt
      obtain ⟨p, hp⟩ : ∃ p, p = 5 * i + k := ⟨_, rfl⟩
      obtain ⟨q, hq⟩ : ∃ q, q = p / 8 := ⟨_, rfl⟩
      obtain ⟨r, hr⟩ : ∃ r, r = p % 8 := ⟨_, rfl⟩
      rw [← hp, ← hq, ← hr] at HP
      have HP := Lib.hid HP
      have hq20 : q < 20 := by omega
      have hr8 : r < 8 := by omega
      have c1 := HB.out.cell q (by rw [HH.out]; exact hq20)
      obtain ⟨x, hx⟩ : ∃ x, x = (H.getD q 0).toNat := ⟨_, rfl⟩
      rw [← hx] at c1
      have hx256 : x < 256 := by rw [hx]; exact UInt8.toNat_lt _
      obtain ⟨b, hb⟩ : ∃ b, b = bitN H (5 * i + k) := ⟨_, rfl⟩
      have hb2 : b < 2 := by rw [hb]; exact bitN_lt _ _
      have hbx : x / 2 ^ r % 2 = b := by rw [hb, bitN, ← hp, ← hq, ← hr, ← hx]
      have hxr : x / 2 ^ r < 256 := Nat.lt_of_le_of_lt (Nat.div_le_self _ _) hx256
      have e1 : bits .and .u8 ((x : Int) / 2 ^ r) 1 = (b : Int) := by
        have h := u8_and1 (x / 2 ^ r) hxr
        rw [hbx] at h
        rw [← h]
        push_cast
        rfl
      have hvl : v < 2 ^ k := by rw [hV.out]; exact lowFive_lt H i k
      have e2 := bit_or v b k hvl hb2 hlt
      have h2k : 2 ^ k ≤ 2 ^ 4 := Nat.pow_le_pow_right (by decide) (by omega)
      have hst : v + b * 2 ^ k = lowFive H i (k + 1) := by rw [lowFive, ← hV.out, ← hb]
      have hst2 : v + b * 2 ^ k < 32 := by
        have h6 : b * 2 ^ k ≤ 1 * 2 ^ k := Nat.mul_le_mul_right _ (by omega)
        omega
      have HST := Lib.hid hst
      have HW := Lib.hid (show ∀ y : Int, y = (b : Int) * 2 ^ k → 0 ≤ y ∧ y ≤ 16 by
        rintro y rfl
        have h6 : b * 2 ^ k ≤ 1 * 2 ^ k := Nat.mul_le_mul_right _ (by omega)
        have h7 : (b : Int) * 2 ^ k = ((b * 2 ^ k : Nat) : Int) := by push_cast; rfl
        omega)
      have bq : (q : Int) < 20 := by omega
      have bq0 : (0 : Int) ≤ (q : Int) := by omega
      clear hst hx hb hbx hp hq hr hV hvl
      go_wp2_with (go_at_call 100; refine (HP.out _).mono ?_; rintro e w2 ⟨rfl, rfl⟩)
      go_round
      case rel => exact ⟨k + 1, _, by omega, hst2, by go_num, by rw [IntWalk.wrap64_in _ (by have := HW.out _ rfl; omega), e2], HST⟩
      case measure => simp [intOf]; omega
    · have HE := Lib.hid (show v = five H i by
        rw [hV.out, show k = 5 by omega, HL.out])
      clear hV
      go_wp2_with fail
      go_ret
      exact ⟨ret_int (by rw [HE.out]), (Fr.refl _ _).alloc _⟩
end Go.Proofs.YtfkgdjoaoidkeaaGreat
namespace Go.Proofs.YtfkgdjoaoidkeaaGreat
open Go.RowKit Go.ChangeShapes
set_option linter.unusedVariables false
theorem run_bytes_str {F : Nat → Prop} (w : World) (v : Value) (L : List UInt8) (h : BytesIn F w v L) : (convert 22 9 v).run Tryz.prog w = .ok (.string ⟨L.toArray⟩) w := by
  obtain ⟨ao, cap, rfl, h1, h2, h3, h4⟩ := h
  cases ao with
  | none =>
    obtain rfl := h3 rfl
    obtain rfl : L = [] := List.eq_nil_of_length_eq_zero (by omega)
    exact Lib.run_convert_nil_bytes w 22 9 5 0 Tryz.underlying22 Tryz.underlying5 Tryz.underlying9
  | some a =>
    refine run_convert_bytes_back w 22 9 5 a cap L Tryz.underlying22 Tryz.underlying5 Tryz.underlying9 (fun j hj => ?_)
    exact (h4 a rfl).1 j _ (by rw [List.getElem?_map, List.getElem?_eq_getElem hj]; rfl)
end Go.Proofs.YtfkgdjoaoidkeaaGreat
namespace Go.Proofs.YtfkgdjoaoidkeaaGreat
open Go.RowKit Go.ChangeShapes
set_option linter.unusedVariables false
def partL (L : List UInt8) (i : Nat) : List UInt8 := L.take i ++ List.replicate (L.length - i) 0
theorem partL_zero (L : List UInt8) : partL L 0 = List.replicate L.length 0 := by simp [partL]
theorem partL_all (L : List UInt8) (i : Nat) (h : L.length ≤ i) : partL L i = L := by
  rw [partL, List.take_of_length_le h, show L.length - i = 0 by omega]
  simp
theorem partL_length (L : List UInt8) (i : Nat) (h : i ≤ L.length) : (partL L i).length = L.length := by
  simp [partL]
  omega
theorem partL_set (L : List UInt8) (i : Nat) (h : i < L.length) (y : UInt8) (hy : y = L.getD i 0) : (partL L i).set i y = partL L (i + 1) := by
  have e : L.length - i = (L.length - (i + 1)) + 1 := by omega
  rw [partL, partL, e, List.replicate_succ, List.set_append_right _ _ (by rw [List.length_take]; omega), List.take_succ_eq_append_getElem h]
  have e2 : i - (L.take i).length = 0 := by rw [List.length_take]; omega
  rw [e2, List.set_cons_zero, hy, List.getD_eq_getElem?_getD, List.getElem?_eq_getElem h, List.append_assoc]
  rfl
theorem BytT.bytes {w : World} {g : Nat} {T : TypeId} {L : List UInt8} (h : BytT w g T L) (hl : L.length ≤ maxLen) : BytesIn (fun k => k = g) w (.slice (some ⟨g, 0, none⟩) L.length L.length) L := by
  refine ⟨_, L.length, rfl, Nat.le_refl _, hl, (fun h => by cases h), ?_⟩
  intro a ha
  cases ha
  refine ⟨fun j u hu => ?_, fun _ => rfl⟩
  rw [addr_plain, Nat.zero_add, cell_of_row _ _ _ _ _ _ h]
  simpa using hu
set_option maxRecDepth 100000 in
set_option maxHeartbeats 2000000 in
theorem bLetters_any (H : List UInt8) (hH : H.length = 20) (w : World) :
    Calls Tryz.prog 39 #[.agg (H.map bv).toArray] w fun e w' => e = .returned (.string ⟨(letL H).toArray⟩) ∧ Fr (fun _ => False) w w' := by
  obtain ⟨C, hC⟩ : ∃ C, C = (H.map bv).toArray := ⟨_, rfl⟩
  have HC := Lib.hid hC
  have hcs : C.size = 20 := by rw [hC]; simp [hH]
  have HVA := Lib.hid (fun i (h : i < 32) W => valueAt_any H hH i h W)
  rw [← hC] at HVA
  rw [← hC]
  have H0 := Lib.hid (show Fr (fun _ => False) w ((w.alloc (.cells C 24)).alloc (.cells ((List.replicate 32 (0 : UInt8)).map bv).toArray 50)) ∧ ((w.alloc (.cells C 24)).alloc (.cells ((List.replicate 32 (0 : UInt8)).map bv).toArray 50)).heap[w.heap.size]? = some (.cells C 24 (0, 0)) ∧ BytT ((w.alloc (.cells C 24)).alloc (.cells ((List.replicate 32 (0 : UInt8)).map bv).toArray 50)) (w.heap.size + 1) 50 (partL (letL H) 0) from
    ⟨((Fr.refl _ _).alloc _).alloc _, heap_alloc2_old w _ _, by rw [partL_zero, letL_length]; exact heap_alloc2_new w _ _⟩)
  obtain ⟨W, hW⟩ : ∃ W, W = (w.alloc (.cells C 24)).alloc (.cells ((List.replicate 32 (0 : UInt8)).map bv).toArray 50) := ⟨_, rfl⟩
  rw [← hW] at H0
  have HW := Lib.hid (show (w.alloc (.cells C 24)).alloc (.cells #[.int .u8 0, .int .u8 0, .int .u8 0, .int .u8 0, .int .u8 0, .int .u8 0, .int .u8 0, .int .u8 0, .int .u8 0, .int .u8 0, .int .u8 0, .int .u8 0, .int .u8 0, .int .u8 0, .int .u8 0, .int .u8 0, .int .u8 0, .int .u8 0, .int .u8 0, .int .u8 0, .int .u8 0, .int .u8 0, .int .u8 0, .int .u8 0, .int .u8 0, .int .u8 0, .int .u8 0, .int .u8 0, .int .u8 0, .int .u8 0, .int .u8 0, .int .u8 0] 50) = W by rw [hW]; rfl)
  clear hC hW
  go_enter Tryz.func39, Tryz.ntmps39
  go_wp2_with fail
  rw [HW.out]
  clear HW
  go_loopw [5] (fun iv wr => ∃ i : Nat, i ≤ 32 ∧ iv = .int .i64 i ∧ Hid (Fr (fun _ => False) w wr ∧ wr.heap[w.heap.size]? = some (.cells C 24 (0, 0)) ∧ BytT wr (w.heap.size + 1) 50 (partL (letL H) i))) (fun iv _ => 32 - (intOf iv).toNat)
  case atStart => exact ⟨0, by omega, rfl, H0⟩
  case round =>
    clear H0
    obtain ⟨i, hi, rfl, hR⟩ := hrel
    by_cases hlt : i < 32
    · have hr1 := hR.out.2.1
      have HV := HVA.out i hlt
      obtain ⟨n, hn⟩ : ∃ n, n = five H i := ⟨_, rfl⟩
      have hn32 : n < 32 := by rw [hn]; exact five_lt H i
      rw [← hn] at HV
      have HV := Lib.hid HV
      obtain ⟨y, hy⟩ : ∃ y, y = abc.getD n 0 := ⟨_, rfl⟩
      have hg := fun h => abc_get n h
      rw [← hy] at hg
      have HY := Lib.hid (show y = (letL H).getD i 0 by rw [letL_get H i hlt, ← hn, hy])
      have bn0 : (0 : Int) ≤ (n : Int) := by omega
      have bn : (n : Int) < 32 := by omega
      have bi0 : (0 : Int) ≤ (i : Int) := by omega
      have bi : (i : Int) < 32 := by omega
      clear hn hy
      go_wp2_with (first
        | (with_reducible refine wpList_load_row rfl 24 (.tmp 1) rfl w.heap.size rfl 24 C (0, 0) _ hr1 Tryz.underlying24 rfl (by rw [hcs]; kernel_rfl) ?_)
        | (go_at_call 67; refine (HV.out _).mono ?_; rintro e w2 ⟨rfl, hf2⟩; have HR2 := Lib.hid (And.intro (hR.out.1.trans hf2 (fun _ h => h.elim)) (And.intro (hf2.heap hr1 (fun h => h)) (hR.out.2.2.keep hf2 (fun h => h)))); have c2 := HR2.out.2.2.cell i (by rw [partL_length _ _ (by rw [letL_length]; omega), letL_length]; exact hlt); have f2 := HR2.out.2.2.free i; clear hf2 HV))
      go_roundw
      case rel =>
        have hf : ∀ v, Fr (fun i => i = w.heap.size + 1) w2 (w2.setCell ⟨w.heap.size + 1, i, none⟩ v) := fun v => (Fr.refl (fun i => i = w.heap.size + 1) w2).setCell (p := ⟨w.heap.size + 1, i, none⟩) (.inl rfl) v
        refine ⟨i + 1, by omega, by go_num, Lib.hid ⟨HR2.out.1.setCell (.inr (by simp)) _, (hf _).heap HR2.out.2.1 (by omega), ?_⟩⟩
        rw [← partL_set (letL H) i (by rw [letL_length]; exact hlt) y HY.out]
        exact HR2.out.2.2.set_ i _ _ rfl
      case measure => simp [intOf]; omega
    · have hd : ¬ (i : Int) < 32 := by omega
      have HB := Lib.hid (show BytesIn (fun k => k = w.heap.size + 1) wr (.slice (some ⟨w.heap.size + 1, 0, none⟩) 32 32) (letL H) by
        have h := hR.out.2.2
        rw [partL_all _ _ (by rw [letL_length]; omega)] at h
        have h2 := h.bytes (by rw [letL_length]; unfold maxLen; omega)
        rwa [letL_length] at h2)
      have hcv := fun W (h : BytesIn (fun k => k = w.heap.size + 1) W (.slice (some ⟨w.heap.size + 1, 0, none⟩) 32 32) (letL H)) => run_bytes_str W _ _ h
      have hcv := hcv wr HB.out
      go_wp2_with fail
      go_ret
      exact ⟨rfl, hR.out.1⟩
end Go.Proofs.YtfkgdjoaoidkeaaGreat
namespace Go.Proofs.YtfkgdjoaoidkeaaGreat
open Go.RowKit
set_option linter.unusedVariables false
section
variable {P : Program}
def dstAt (l : List Oper) (i : Nat) : Option Tmp := (l[i]?).bind (·.dst)
def acts (l : List Oper) (lst : Nat → Bool) (vs : Nat → Value) (a0 : Act) : Nat → Act
  | 0 => a0
  | k + 1 => if lst k then (acts l lst vs a0 k).put (dstAt l k) (vs k) else acts l lst vs a0 k
def untouched (l : List Oper) (n : Nat) (t : Tmp) : Bool := (List.range n).all fun j => dstAt l j != some t
def waitsOn (o : Oper) (j : Nat) : Bool := o.after.any fun e => Region.binds .any e && e.on == j
def WpG (P : Program) (l : List Oper) (o : Oper) (a : Act) (w : World) (K : Act → World → Prop) (Q : Exit → Act → World → Prop) : Prop :=
  if Region.wanted o (yielded l.toArray a.tmps) = true then o.wp P a w K Q else K (a.put o.dst undef) w
theorem wpG_plain {l : List Oper} {o : Oper} {a : Act} {w : World} {K : Act → World → Prop} {Q : Exit → Act → World → Prop} (hg : o.guard = none) (h : o.wp P a w K Q) : WpG P l o a w K Q := by
  unfold WpG
  rw [if_pos (by simp [Region.wanted, hg])]
  exact h
theorem wpG_yes {l : List Oper} {o : Oper} {a : Act} {w : World} {K : Act → World → Prop} {Q : Exit → Act → World → Prop} (g : Nat) (b : Bool) (t : Tmp) (hg : o.guard = some (g, b)) (ht : dstAt l g = some t) (hs : t < a.tmps.size) (he : a.eval (.tmp t) = .bool b)
    (h : o.wp P a w K Q) : WpG P l o a w K Q := by
  unfold WpG
  have hy : yielded l.toArray a.tmps g = some b := by
    have h1 : (l.toArray[g]?.bind fun x => x.dst) = some t := by simpa [dstAt] using ht
    have h2 : a.tmps[t]? = some (.bool b) := by
      have h3 : a.tmps.getD t undef = .bool b := he
      rw [Array.getElem?_eq_getElem hs]
      simpa [hs] using h3
    unfold yielded
    rw [h1]
    simp only [Option.bind_some, h2]
  rw [if_pos (by simp [Region.wanted, hg, hy])]
  exact h
theorem wpG_no {l : List Oper} {o : Oper} {a : Act} {w : World} {K : Act → World → Prop} {Q : Exit → Act → World → Prop} (g : Nat) (b : Bool) (t : Tmp) (hg : o.guard = some (g, b)) (ht : dstAt l g = some t) (hs : t < a.tmps.size) (he : a.eval (.tmp t) = .bool (!b))
    (h : K (a.put o.dst undef) w) : WpG P l o a w K Q := by
  unfold WpG
  have hy : yielded l.toArray a.tmps g = some (!b) := by
    have h1 : (l.toArray[g]?.bind fun x => x.dst) = some t := by simpa [dstAt] using ht
    have h2 : a.tmps[t]? = some (.bool (!b)) := by
      have h3 : a.tmps.getD t undef = .bool (!b) := he
      rw [Array.getElem?_eq_getElem hs]
      simpa [hs] using h3
    unfold yielded
    rw [h1]
    simp only [Option.bind_some, h2]
  rw [if_neg (by simp [Region.wanted, hg, hy])]
  exact h
def InvStep (P : Program) (l : List Oper) (n : Nat) (Q : Exit → Act → World → Prop) (B : World → Prop) (R : Nat → Value → World → Prop) (D : Nat → Nat → Value → Value → Prop) (Ext : World → World → Prop) (a0 : Act) (i : Nat) (o : Oper) : Prop :=
  ∀ (a : Act) (w : World) (vs : Nat → Value), B w → a.tmps.size = a0.tmps.size →
    (∀ j t, waitsOn o j = true → dstAt l j = some t → R j (vs j) w ∧ a.eval (.tmp t) = vs j) →
    (∀ t, untouched l n t = true → a.eval (.tmp t) = a0.eval (.tmp t)) →
    WpG P l o a w (fun a' w' => ∃ v, a' = a.put o.dst v ∧ B w' ∧ Ext w w' ∧ R i v w' ∧ ∀ j u, j < n → j ≠ i → R j u w → D i j v u) Q
def invB (l : List Oper) (n size : Nat) : Bool :=
  decide (n ≤ l.length) &&
  ((List.range n).all fun i => match l[i]? with
    | some o => (o.after.all fun e => !Region.binds .any e || decide (e.on < i)) && (match o.dst with | some d => decide (d < size) | none => true)
    | none => false) &&
  ((List.range n).all fun i => (List.range n).all fun j => decide (i = j) || (match dstAt l i, dstAt l j with | some x, some y => decide (x ≠ y) | _, _ => true)) &&
  (decide (n = l.length) || (Region.sinkB .any l.toArray n && Region.chainB .any l.toArray n && decide (n < l.length))) &&
  Region.seqB .any l.toArray (l.length - n) n (List.replicate n true ++ List.replicate (l.length - n) false).toArray
theorem acts_congr {l : List Oper} {f g : Nat → Bool} {vs us : Nat → Value} {a0 : Act} : ∀ (k : Nat), (∀ j, j < k → f j = g j ∧ (f j = true → vs j = us j)) → acts l f vs a0 k = acts l g us a0 k
  | 0, _ => rfl
  | k + 1, h => by
    have ih := acts_congr (l := l) (a0 := a0) k (fun j hj => h j (by omega))
    obtain ⟨h1, h2⟩ := h k (by omega)
    unfold acts
    rw [ih, ← h1]
    by_cases hk : f k = true
    · rw [if_pos hk, if_pos hk, h2 hk]
    · rw [if_neg hk, if_neg hk]
theorem acts_put {l : List Oper} {f : Nat → Bool} {vs : Nat → Value} {a0 : Act} {i : Nat} {v : Value} (hf : f i = false) : ∀ (k : Nat), i < k →
    (∀ j, j < k → j ≠ i → ∀ d, dstAt l i = some d → dstAt l j ≠ some d) →
    acts l (fun j => if j = i then true else f j) (fun j => if j = i then v else vs j) a0 k = (acts l f vs a0 k).put (dstAt l i) v
  | 0, h, _ => by omega
  | k + 1, h, hd => by
    by_cases hk : k = i
    · subst hk
      have e := acts_congr (l := l) (a0 := a0) (f := fun j => if j = k then true else f j) (g := f) (vs := fun j => if j = k then v else vs j) (us := vs) k (fun j hj => ⟨if_neg (by omega), fun _ => if_neg (by omega)⟩)
      simp only [acts, if_true, hf, Bool.false_eq_true, if_false]
      rw [e]
    · have ih := acts_put (vs := vs) (a0 := a0) (v := v) hf k (by omega) (fun j hj hji => hd j (by omega) hji)
      unfold acts
      rw [ih]
      simp only [if_neg hk]
      by_cases hfk : f k = true
      · rw [if_pos hfk, if_pos hfk]
        exact Act.put_comm _ _ _ (fun d hx => hd k (by omega) hk d hx)
      · rw [if_neg hfk, if_neg hfk]
theorem put_size (a : Act) (d : Option Tmp) (v : Value) : (a.put d v).tmps.size = a.tmps.size := by
  cases d <;> simp [Act.put]
theorem acts_size {l : List Oper} {f : Nat → Bool} {vs : Nat → Value} {a0 : Act} : ∀ k, (acts l f vs a0 k).tmps.size = a0.tmps.size
  | 0 => rfl
  | k + 1 => by
    unfold acts
    split
    · rw [put_size, acts_size k]
    · exact acts_size k
theorem eval_put_ne {a : Act} {d : Option Tmp} {v : Value} {t : Tmp} (h : d ≠ some t) : (a.put d v).eval (.tmp t) = a.eval (.tmp t) :=
  Act.eval_put fun d' hd e => h (by rw [hd]; injection e with e; rw [e])
theorem eval_put_eq {a : Act} {v : Value} {t : Tmp} (h : t < a.tmps.size) : (a.put (some t) v).eval (.tmp t) = v := by
  simp [Act.put, Act.eval, h]
theorem acts_eval_ne {l : List Oper} {f : Nat → Bool} {vs : Nat → Value} {a0 : Act} {t : Tmp} : ∀ k, (∀ j, j < k → dstAt l j ≠ some t) → (acts l f vs a0 k).eval (.tmp t) = a0.eval (.tmp t)
  | 0, _ => rfl
  | k + 1, h => by
    unfold acts
    split
    · rw [eval_put_ne (h k (by omega)), acts_eval_ne k (fun j hj => h j (by omega))]
    · exact acts_eval_ne k (fun j hj => h j (by omega))
theorem acts_eval_eq {l : List Oper} {f : Nat → Bool} {vs : Nat → Value} {a0 : Act} {t : Tmp} {i : Nat} (hi : f i = true) (ht : dstAt l i = some t) (hs : t < a0.tmps.size) : ∀ k, i < k →
    (∀ j, j < k → j ≠ i → dstAt l j ≠ some t) → (acts l f vs a0 k).eval (.tmp t) = vs i
  | 0, h, _ => by omega
  | k + 1, h, hd => by
    unfold acts
    by_cases hk : k = i
    · subst hk
      rw [if_pos hi, ht, eval_put_eq (by rw [acts_size]; exact hs)]
    · have ih := acts_eval_eq (vs := vs) hi ht hs k (by omega) (fun j hj hji => hd j (by omega) hji)
      split
      · rw [eval_put_ne (hd k (by omega) hk), ih]
      · exact ih
def left (n : Nat) (listed : Array Bool) : Nat := (List.range n).countP fun i => !listed.getD i false
theorem countP_one {f g : Nat → Bool} {i : Nat} (hf : f i = true) (hg : g i = false) (he : ∀ j, j ≠ i → f j = g j) : ∀ n, (List.range n).countP f = (List.range n).countP g + (if i < n then 1 else 0)
  | 0 => by simp
  | n + 1 => by
    rw [List.range_succ, List.countP_append, List.countP_append, countP_one hf hg he n]
    by_cases h : n = i
    · subst h
      simp [hf, hg]
    · have := he n h
      simp only [List.countP_cons, List.countP_nil, this]
      by_cases h2 : i < n
      · have h3 : i < n + 1 := by omega
        simp only [h2, h3, if_true]
        omega
      · have h3 : ¬ i < n + 1 := by omega
        simp only [h2, h3, if_false]
        omega
theorem countP_zero {f : Nat → Bool} : ∀ n, (List.range n).countP f = 0 → ∀ i, i < n → f i = false
  | 0, _, i, h => by omega
  | n + 1, hc, i, h => by
    rw [List.range_succ, List.countP_append] at hc
    by_cases hi : i = n
    · subst hi
      by_cases hf : f i = true
      · simp [hf] at hc
      · simpa using hf
    · exact countP_zero n (by omega) i (by omega)
theorem least {p : Nat → Prop} (n : Nat) (hn : p n) : ∃ m, p m ∧ ∀ j, j < m → ¬ p j := by
  induction n using Nat.strongRecOn with
  | _ n ih =>
    by_cases h : ∃ j, j < n ∧ p j
    · obtain ⟨j, hj, hp⟩ := h
      exact ih j hj hp
    · exact ⟨n, hn, fun j hj hp => h ⟨j, hj, hp⟩⟩
theorem wp_region_inv {id : Nat} {Q : Exit → Act → World → Prop} {a : Act} {w : World} {l : List Oper} (n : Nat) (hm : P.follows .mixedOrders = true) (hB : invB l n a.tmps.size = true)
    (B : World → Prop) (R : Nat → Value → World → Prop) (D : Nat → Nat → Value → Value → Prop) (Ext : World → World → Prop) (hext : ∀ j u w w', Ext w w' → R j u w → R j u w') (hB0 : B w.drew)
    (hstep : ∀ i, i < n → ∀ o, l[i]? = some o → InvStep P l n Q B R D Ext a i o)
    (htail : ∀ vs w', B w' → (∀ i, i < n → R i (vs i) w') → (∀ i j, i < n → j < n → i ≠ j → D i j (vs i) (vs j) ∨ D j i (vs j) (vs i)) → wpList P l.toArray Q (l.drop n) (acts l (fun _ => true) vs a n) w') : (Code.region id l.toArray true).wp P Q a w := by
  simp only [invB, Bool.and_eq_true, decide_eq_true_eq, Bool.or_eq_true] at hB
  obtain ⟨⟨⟨⟨hn, hops⟩, hdst⟩, hwait⟩, hseq⟩ := hB
  have hop : ∀ i, i < n → ∃ o, l[i]? = some o ∧ (∀ e ∈ o.after, Region.binds .any e = true → e.on < i) ∧ (∀ d, o.dst = some d → d < a.tmps.size) := by
    intro i hi
    have h := List.all_eq_true.1 hops i (List.mem_range.2 hi)
    cases ho : l[i]? with
    | none => rw [ho] at h; cases h
    | some o =>
      rw [ho] at h
      simp only [Bool.and_eq_true] at h
      obtain ⟨h2, h3⟩ := h
      refine ⟨o, rfl, fun e he hb => ?_, fun d hd => ?_⟩
      · have := Array.all_eq_true_iff_forall_mem.1 h2 e he
        rw [hb] at this
        simpa using this
      · rw [hd] at h3
        simpa using h3
  have hdis : ∀ i j, i < n → j < n → j ≠ i → ∀ d, dstAt l i = some d → dstAt l j ≠ some d := by
    intro i j hi hj hji d hd hd2
    have h := List.all_eq_true.1 (List.all_eq_true.1 hdst i (List.mem_range.2 hi)) j (List.mem_range.2 hj)
    rw [hd, hd2] at h
    simp at h
    omega
  refine wp_region_any hm ?_
  have main : ∀ (m : Nat) (listed : Array Bool) (vs : Nat → Value) (w' : World), left n listed = m → HeadInv .any l.toArray n listed → B w' → (∀ i, i < n → listed.getD i false = true → R i (vs i) w') →
      (∀ i j, i < n → j < n → listed.getD i false = true → listed.getD j false = true → i ≠ j → D i j (vs i) (vs j) ∨ D j i (vs j) (vs i)) →
      wpAny P .any l.toArray Q (m + (l.length - n)) listed (acts l (fun i => listed.getD i false) vs a n) w' := by
    intro m
    induction m with
    | zero =>
      intro listed vs w' hl inv hBw hR hD
      have hall : ∀ i, i < n → listed.getD i false = true := fun i hi => by simpa using countP_zero n hl i hi
      have hlisted : listed = (List.replicate n true ++ List.replicate (l.length - n) false).toArray := by
        apply Array.ext
        · rw [inv.size]; simp; omega
        · intro i h1 h2
          have hi : i < l.length := by rw [inv.size] at h1; simpa using h1
          have e1 : listed[i] = listed.getD i false := by simp [h1]
          rw [e1]
          by_cases h : i < n
          · rw [hall i h]
            simp [h]
          · rw [getD_both (inv.tail i (by omega) (by simpa using hi))]
            simp [List.getElem_append, h]
      have hact : acts l (fun i => listed.getD i false) vs a n = acts l (fun _ => true) vs a n := acts_congr n fun j hj => ⟨hall j hj, fun _ => rfl⟩
      rw [hact, Nat.zero_add]
      have hdl : (l.drop n).length = l.length - n := by simp
      rw [← hdl]
      refine wpAny_of_seq (l.drop n) n listed _ w' (fun j => by simp [List.getElem?_drop]) ?_ (htail vs w' hBw (fun i hi => hR i hi (hall i hi)) (fun i j hi hj hij => hD i j hi hj (hall i hi) (hall j hj) hij))
      rw [hdl, hlisted]
      exact hseq
    | succ m ih =>
      intro listed vs w' hl inv hBw hR hD
      have hex : ∃ i, i < n ∧ listed.getD i false = false := by
        by_cases h : ∃ i, i < n ∧ listed.getD i false = false
        · exact h
        · exfalso
          have : left n listed = 0 := by
            unfold left
            rw [List.countP_eq_zero]
            intro i hi
            have hi' := List.mem_range.1 hi
            cases hg : listed.getD i false with
            | true => simp
            | false => exact absurd ⟨i, hi', hg⟩ h
          omega
      obtain ⟨i0, hi0, hun0⟩ := hex
      have hne : Region.ready .any l.toArray listed ≠ [] := by
        obtain ⟨i1, ⟨hi1, hun1⟩, hmin⟩ := least (p := fun i => i < n ∧ listed.getD i false = false) i0 ⟨hi0, hun0⟩
        obtain ⟨o, ho, hback, _⟩ := hop i1 hi1
        have : i1 ∈ Region.ready .any l.toArray listed := by
          refine mem_ready.2 ⟨getD_in (by rw [inv.size]; simp; omega) hun1, o, by simpa using ho, fun e he hb => ?_⟩
          have h1 := hback e he hb
          cases hg : listed.getD e.on false with
          | true => rfl
          | false => exact absurd ⟨by omega, hg⟩ (hmin e.on h1)
        intro h
        rw [h] at this
        cases this
      rw [show m + 1 + (l.length - n) = (m + (l.length - n)) + 1 by omega]
      refine ⟨fun h => absurd h hne, fun i hi => ?_⟩
      have hin : i < n := by
        rcases Nat.lt_or_ge i n with h | h
        · exact h
        · exfalso
          rcases hwait with hw | ⟨⟨hs, hc⟩, hlt⟩
          · obtain ⟨_, o, ho, _⟩ := mem_ready.1 hi
            have := (Array.getElem?_eq_some_iff.1 ho).1
            simp at this
            omega
          · exact tail_waits hs hc (by simpa using hlt) inv _ i0 rfl hi0 (getD_in (by rw [inv.size]; simp; omega) hun0) i h hi
      obtain ⟨hun, o', ho', hall⟩ := mem_ready.1 hi
      obtain ⟨o, ho, hback, hds⟩ := hop i hin
      have : o' = o := by simpa [ho] using ho'.symm
      subst this
      have hdo : dstAt l i = o'.dst := by simp [dstAt, ho]
      have hunf := getD_both hun
      have hst := hstep i hin o' ho (acts l (fun i => listed.getD i false) vs a n) w' vs hBw (acts_size n)
        (fun j t hj ht => by
          obtain ⟨e, he, hb⟩ := Array.any_eq_true'.1 hj
          simp only [Bool.and_eq_true, beq_iff_eq] at hb
          obtain ⟨hb, rfl⟩ := hb
          have h1 := hall e he hb
          have h2 := hback e he hb
          refine ⟨hR e.on (by omega) h1, ?_⟩
          obtain ⟨oe, hoe, _, hde⟩ := hop e.on (by omega)
          exact acts_eval_eq h1 ht (hde t (by simpa [dstAt, hoe] using ht)) n (by omega) (fun j hj hji => hdis e.on j (by omega) hj hji t ht))
        (fun t ht => acts_eval_ne n (fun j hj => by simpa using List.all_eq_true.1 ht j (List.mem_range.2 hj)))
      have hgo : ∀ a' w2, (∃ v, a' = (acts l (fun i => listed.getD i false) vs a n).put o'.dst v ∧ B w2 ∧ Ext w' w2 ∧ R i v w2 ∧ ∀ j u, j < n → j ≠ i → R j u w' → D i j v u) →
          wpAny P .any l.toArray Q (m + (l.length - n)) (listed.setIfInBounds i true) a' w2 := by
        rintro a' w2 ⟨v, rfl, hB2, hE, hRv, hDv⟩
        have hput := acts_put (l := l) (f := fun i => listed.getD i false) (vs := vs) (a0 := a) (i := i) (v := v) hunf n hin (fun j hj hji d hd => hdis i j hin hj hji d hd)
        rw [← hdo, ← hput]
        have hcong : acts l (fun j => if j = i then true else listed.getD j false) (fun j => if j = i then v else vs j) a n = acts l (fun j => (listed.setIfInBounds i true).getD j false) (fun j => if j = i then v else vs j) a n := by
          refine acts_congr n fun j hj => ⟨?_, fun _ => rfl⟩
          by_cases hji : j = i
          · subst hji
            rw [if_pos rfl]
            have : j < listed.size := by rw [inv.size]; simp; omega
            simp [this]
          · rw [if_neg hji, getD_set_ne false (Ne.symm hji)]
        rw [hcong]
        refine ih _ _ w2 ?_ (inv.set hi hin) hB2 (fun j hj hlj => ?_) (fun j k hj hk hlj hlk hjk => ?_)
        · have hsz : i < listed.size := by rw [inv.size]; simp; omega
          have := countP_one (f := fun j => !listed.getD j false) (g := fun j => !(listed.setIfInBounds i true).getD j false) (i := i) (by simp only [hunf]; rfl) (by simp [hsz]) (fun j hj => by simp only [getD_set_ne false (Ne.symm hj)]) n
          rw [if_pos hin] at this
          unfold left at hl ⊢
          omega
        · by_cases hji : j = i
          · subst hji
            rw [if_pos rfl]
            exact hRv
          · rw [if_neg hji]
            rw [getD_set_ne false (Ne.symm hji)] at hlj
            exact hext _ _ _ _ hE (hR j hj hlj)
        · by_cases hji : j = i
          · subst hji
            rw [if_pos rfl, if_neg (Ne.symm hjk)]
            rw [getD_set_ne false hjk] at hlk
            exact .inl (hDv k _ hk (Ne.symm hjk) (hR k hk hlk))
          · rw [if_neg hji]
            rw [getD_set_ne false (Ne.symm hji)] at hlj
            by_cases hki : k = i
            · subst hki
              rw [if_pos rfl]
              exact .inr (hDv j _ hj hji (hR j hj hlj))
            · rw [if_neg hki]
              rw [getD_set_ne false (Ne.symm hki)] at hlk
              exact hD j k hj hk hlj hlk hjk
      unfold wpOp
      rw [ho']
      unfold WpG at hst
      simp only
      split
      · rename_i hw
        rw [if_pos hw] at hst
        exact .inl (Oper.wp_mono (fun a' w2 h => hgo a' w2 h) hst)
      · rename_i hw
        rw [if_neg hw] at hst
        exact hgo _ _ hst
  have h0 : left n (Array.replicate l.length false) = n := by
    unfold left
    have : ((List.range n).countP fun i => !(Array.replicate l.length false).getD i false) = (List.range n).length := by
      rw [List.countP_eq_length]
      intro i _
      rw [getD_replicate_false]
      rfl
    rw [this, List.length_range]
  have hmain := main n (Array.replicate l.length false) (fun _ => undef) w.drew h0
    ⟨by simp, fun j oj _ hl => (by rw [getD_replicate_false] at hl; cases hl), fun t _ ht => getD_in (by simpa using ht) (getD_replicate_false _ _)⟩ hB0 (fun i _ hl => by rw [getD_replicate_false] at hl; cases hl) (fun i j _ _ hl => by rw [getD_replicate_false] at hl; cases hl)
  have e1 : acts l (fun i => (Array.replicate l.length false).getD i false) (fun _ => undef) a n = a := by
    have : ∀ k, acts l (fun i => (Array.replicate l.length false).getD i false) (fun _ => undef) a k = a := by
      intro k
      induction k with
      | zero => rfl
      | succ k ih => unfold acts; rw [if_neg (by rw [getD_replicate_false]; decide), ih]
    exact this n
  rw [e1, show n + (l.length - n) = l.length by omega] at hmain
  exact hmain
theorem wp_call_inv {o : Oper} {a : Act} {w : World} {K : Act → World → Prop} {Q : Exit → Act → World → Prop} (f : FuncId) (xs : Array Operand) (tys : Array TypeId)
    (ho : o.op = .call { callee := .value (.func f), args := xs, argTypes := tys }) (args : Array Value) (ha : xs.map a.eval = args) (hf : ∀ w, (callFunc f args).run P w = .ok (.enter f args) w) {Post : Value → World → Prop}
    (hc : Calls P f args w fun e w' => ∃ v, e = .returned v ∧ Post v w') (hK : ∀ v w', Post v w' → K (a.put o.dst v) w') : o.wp P a w K Q := by
  have he : (execOp a.eval o).run P w = .ok (.enter f args) w := by
    obtain ⟨d, op, ty, pos, aft, g⟩ := o
    simp only at ho
    subst ho
    have e : execOp a.eval { dst := d, op := .call { callee := .value (.func f), args := xs, argTypes := tys }, type := ty, pos := pos, after := aft, guard := g } = callFunc f (#[] ++ xs.map a.eval ++ #[]) := rfl
    rw [e, ha, Array.append_empty, Array.empty_append]
    exact hf w
  unfold Oper.wp
  rw [he]
  refine Calls.mono hc ?_
  rintro e w' ⟨v, rfl, hp⟩
  exact hK v w' hp
theorem wp_value_inv {o : Oper} {a : Act} {w w' : World} {K : Act → World → Prop} {Q : Exit → Act → World → Prop} (v : Value) (h : (execOp a.eval o).run P w = .ok (.value v) w') (hK : K (a.put o.dst v) w') : o.wp P a w K Q := by
  unfold Oper.wp
  rw [h]
  exact hK
end
end Go.Proofs.YtfkgdjoaoidkeaaGreat
namespace Go.Proofs.YtfkgdjoaoidkeaaGreat
open Go.RowKit Go.ChangeShapes
set_option linter.unusedVariables false
theorem run_eql_arr (w : World) (T : TypeId) (n : Nat) (A Bb : List UInt8) (hT : Tryz.prog.underlying T = some (.array n 5)) (hA : A.length = n) (hB : Bb.length = n) :
    (binOp .eql T (.agg (A.map bv).toArray) (.agg (Bb.map bv).toArray)).run Tryz.prog w = .ok (.bool (A == Bb)) w :=
  run_eql_bytes w T 5 n hT Tryz.underlying5 (fun w => by kernel_rfl) A Bb hA hB
section
variable {P : Program} {w : World} {o : Oper} {a : Act}
theorem op_move {x : Operand} {v : Value} (ho : o.op = .move x) (hv : a.eval x = v) : (execOp a.eval o).run P w = .ok (.value v) w := by
  unfold execOp
  rw [ho]
  simp only [hv]
  rfl
theorem op_assign {x : Operand} {v : Value} (ho : o.op = .assign x) (hv : a.eval x = v) : (execOp a.eval o).run P w = .ok (.value v) w := by
  unfold execOp
  rw [ho]
  simp only [hv]
  rfl
theorem op_slice_hi {t : TypeId} {x hi : Operand} {vx vh v : Value} (ho : o.op = .slice t x none (some hi) none) (hx : a.eval x = vx) (hh : a.eval hi = vh) (hr : (Instr.sliceAt t vx none (some vh) none).run P w = .ok v w) : (execOp a.eval o).run P w = .ok (.value v) w := by
  unfold execOp
  rw [ho]
  simp only [hx, hh, Option.map_some, Option.map_none, Sem.run_bind, hr, Result.andThen_ok]
  rfl
theorem op_pick {c x y : Operand} {b : Bool} {v : Value} (ho : o.op = .pick c x y) (hc : a.eval c = .bool b) (hv : (if b = true then a.eval x else a.eval y) = v) : (execOp a.eval o).run P w = .ok (.value v) w := by
  unfold execOp
  rw [ho]
  simp only [hc, asBool, Sem.run_bind, Sem.run_pure, Result.andThen_ok, hv]
theorem op_bin {op : BinOp} {t t' : TypeId} {x y : Operand} {vx vy v : Value} (ho : o.op = .binOp op t x y t') (hx : a.eval x = vx) (hy : a.eval y = vy) (hg : (eqGuard op t x y vx vy).run P w = .ok () w) (hr : (binOp op t vx vy).run P w = .ok v w) : (execOp a.eval o).run P w = .ok (.value v) w := by
  unfold execOp
  rw [ho]
  simp only [hx, hy, Sem.run_bind, hg, hr, Result.andThen_ok]
  rfl
end
theorem op_rows {P : Program} {w w' : World} {o : Oper} {a : Act} {t : TypeId} {n : Nat} {ps : Array (Nat × Operand)} {vs : Array (Nat × Value)} {v : Value} (ho : o.op = .buildSlice t n ps) (hp : (ps.map fun x => (x.1, a.eval x.2)) = vs) (hr : (Instr.buildSlice t n vs).run P w = .ok v w') : (execOp a.eval o).run P w = .ok (.value v) w' := by
  subst hp
  unfold execOp
  rw [ho]
  simp only [Sem.run_bind]
  rw [hr]
  rfl
theorem wpList_value {P : Program} {ops : Array Oper} {rest : List Oper} {o : Oper} {a : Act} {w : World} {Q : Exit → Act → World → Prop} (hgd : o.guard = none) (v : Value) (w' : World) (h : (execOp a.eval o).run P w = .ok (.value v) w')
    (hK : wpList P ops Q rest (a.put o.dst v) w') : wpList P ops Q (o :: rest) a w :=
  wpList_plain hgd fun _ hK' => wp_value_inv v h (hK' _ _ hK)
theorem wpList_one {P : Program} {ops : Array Oper} {rest : List Oper} {o : Oper} {a : Act} {w : World} {Q : Exit → Act → World → Prop} (hgd : o.guard = none) (t : TypeId) (x : Operand) (ho : o.op = .buildSlice t 1 #[(0, x)]) (y v : Value) (w' : World) (hx : a.eval x = y)
    (hr : (Instr.buildSlice t 1 #[(0, y)]).run P w = .ok v w') (hK : wpList P ops Q rest (a.put o.dst v) w') : wpList P ops Q (o :: rest) a w :=
  wpList_value hgd v w' (op_rows (vs := #[(0, y)]) ho (by simp [hx]) hr) hK
theorem op_build {P : Program} {w : World} {o : Oper} {a : Act} {t : TypeId} {ps : Array (Nat × Operand)} {vs : Array (Nat × Value)} {cells : Array Value} (ho : o.op = .build t ps) (hp : (ps.map fun x => (x.1, a.eval x.2)) = vs) (hc : P.built t vs.toList = some cells) : (execOp a.eval o).run P w = .ok (.value (.agg cells)) w := by
  subst hp
  unfold execOp
  rw [ho]
  simp only [Sem.run_bind, run_build w t _ cells hc, Result.andThen_ok]
  rfl
end Go.Proofs.YtfkgdjoaoidkeaaGreat
