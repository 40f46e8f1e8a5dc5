/- Laid together: RfLet RfL RfE Wide -/
import Derived.Test.YtfkgdjoaoidkeaaGreatRz1
import Derived.Deep.MidRow
import Derived.Deep.WholeRow
import Derived.Lib.IndexMore
import Derived.Test.YtfkgdjoaoidkeaaGreatRz0
import Derived.RangeFuncNested
import Derived.RangeFuncBound
import Derived.OwnWalkIn
import Derived.TacticsInMore
import Derived.LoopIn
import Derived.LoopNIn
import Derived.Laws.Rows

namespace Go.Proofs.YtfkgdjoaoidkeaaGreat
open Go.RowKit Go.ChangeShapes
set_option linter.unusedVariables false
def ltC (s : List UInt8) : Array Value := (s.map bv).toArray
theorem ltC_size (s : List UInt8) : (ltC s).size = s.length := by simp [ltC]
theorem ltC_one (s : List UInt8) : (ltC s).all (·.oneCell') = true := all_oneCell_toArray (bv_one _)
def zLet : Array Value := #[.int .u8 0, .int .u8 0, .int .u8 0, .int .u8 0, .int .u8 0, .int .u8 0, .int .u8 0, .int .u8 0, .int .u8 0, .int .u8 0, .int .u8 0, .int .u8 0, .int .u8 0, .int .u8 0, .int .u8 0, .int .u8 0, .int .u8 0, .int .u8 0, .int .u8 0, .int .u8 0, .int .u8 0, .int .u8 0, .int .u8 0, .int .u8 0, .int .u8 0, .int .u8 0, .int .u8 0, .int .u8 0, .int .u8 0, .int .u8 0, .int .u8 0, .int .u8 0]
theorem zLet_size : zLet.size = 32 := rfl
theorem run_arr (w : World) (a : Option Addr) (n c : Nat) (h : 32 ≤ n) : (Instr.arrayAt 51 (.slice a n c)).run Tryz.prog w = .ok (.pointer a) w := by
  simp [Instr.arrayAt, run_underlying Tryz.underlying51, show ¬ n < 32 by omega]
theorem str_bytes (L : List UInt8) : (⟨L.toArray⟩ : ByteArray).data.toList = L := rfl
theorem str_size (L : List UInt8) : (⟨L.toArray⟩ : ByteArray).size = L.length := by simp [ByteArray.size]
theorem BytesIn.range {F : Nat → Prop} {w : World} {g n cap : Nat} {L : List UInt8} (h : BytesIn F w (.slice (some ⟨g, 0, none⟩) n cap) L) : w.rangeAt g 0 (L.map bv) := by
  obtain ⟨ao, c, hv, h1, h2, h3, h4⟩ := h
  simp only [Value.slice.injEq] at hv
  obtain ⟨rfl, rfl, rfl⟩ := hv
  intro j v hv
  have := (h4 _ rfl).1 j v hv
  rw [addr_plain] at this
  exact this
set_option maxRecDepth 100000 in
set_option maxHeartbeats 2000000 in
theorem lettersOf_any (H : List UInt8) (hH : H.length = 20) (w : World) :
    Calls Tryz.prog 28 #[.agg (H.map bv).toArray] w fun e w' => e = .returned (.agg (ltC (letL H))) ∧ Fr (fun _ => False) w w' := by
  obtain ⟨C, hC⟩ : ∃ C, C = (H.map bv).toArray := ⟨_, rfl⟩
  have hcs : C.size = 20 := by rw [hC]; simp [hH]
  have HBL := Lib.hid (fun W => bLetters_any H hH W)
  rw [← hC] at HBL ⊢
  have HL := Lib.hid (letL_length H)
  obtain ⟨L, hL⟩ : ∃ L, L = letL H := ⟨_, rfl⟩
  rw [← hL] at HBL HL ⊢
  clear hC hL
  have hzi : (Tryz.prog.info? 51).map (·.size) = some (L.map bv).toArray.size := by rw [List.size_toArray, List.length_map, HL.out]; kernel_rfl
  have hl1 : (L.map bv).toArray.all (·.oneCell') = true := ltC_one L
  have hzz : zLet.size = (L.map bv).toArray.size := zLet_size.trans (by rw [List.size_toArray, List.length_map, HL.out])
  obtain ⟨W, hW⟩ : ∃ W, W = (w.alloc (.cells C 24)).alloc (.cells zLet 51) := ⟨_, rfl⟩
  have HW := Lib.hid (show (w.alloc (.cells C 24)).alloc (.cells #[.int .u8 0, .int .u8 0, .int .u8 0, .int .u8 0, .int .u8 0, .int .u8 0, .int .u8 0, .int .u8 0, .int .u8 0, .int .u8 0, .int .u8 0, .int .u8 0, .int .u8 0, .int .u8 0, .int .u8 0, .int .u8 0, .int .u8 0, .int .u8 0, .int .u8 0, .int .u8 0, .int .u8 0, .int .u8 0, .int .u8 0, .int .u8 0, .int .u8 0, .int .u8 0, .int .u8 0, .int .u8 0, .int .u8 0, .int .u8 0, .int .u8 0, .int .u8 0] 51) = W by rw [hW]; rfl)
  have hf0 : Fr (fun _ => False) w W := by rw [hW]; exact ((Fr.refl _ _).alloc _).alloc _
  have hr1 : W.heap[w.heap.size]? = some (.cells C 24 (0, 0)) := by rw [hW]; exact heap_alloc2_old w _ _
  have hr2 : W.heap[w.heap.size + 1]? = some (.cells zLet 51 (0, 0)) := by rw [hW]; exact heap_alloc2_new w _ _
  have HR := Lib.hid (And.intro hf0 hr2)
  clear hW hf0 hr2
  go_enter Tryz.func28, Tryz.ntmps28
  go_wp2_with (first
    | (rw [HW.out]; (with_reducible refine wpList_load_row rfl 24 (.tmp 1) rfl w.heap.size rfl 24 C (0, 0) _ hr1 Tryz.underlying24 rfl (by rw [hcs]; kernel_rfl) ?_); clear HW)
    | (go_at_call 39; refine (HBL.out _).mono ?_; rintro e w2 ⟨rfl, hf2⟩; (obtain ⟨cap, W3, hcv, hf3, hb3, hs3⟩ := run_tag w2 ⟨L.toArray⟩ (by rw [str_size, HL.out]; decide)); rw [str_size, HL.out] at hcv hb3; rw [str_bytes] at hb3; (have har := run_arr W3 (some ⟨w2.heap.size, 0, none⟩) 32 cap (Nat.le_refl _)); (have hrg := hb3.range); (have hLs : (Tryz.prog.info? 51).map (·.size) = some (L.map bv).length := by rw [List.length_map, HL.out]; kernel_rfl); (have HR3 := Lib.hid (And.intro (HR.out.1.trans (hf2.trans hf3 (fun _ h => .inl h)) (fun _ h => h.elim)) (hf3.heap (hf2.heap HR.out.2 (fun h => h)) (fun h => h)))); clear hf2 hf3 hb3 hs3)
    | (with_reducible refine wpList_load_mid rfl 51 (.tmp 6) rfl w2.heap.size 0 rfl (L.map bv) _ hrg Tryz.underlying51 rfl hLs ?_)
    | (with_reducible refine wpList_store_row rfl 51 (.tmp 2) (.tmp 7) rfl (w.heap.size + 1) (L.map bv).toArray zLet 51 rfl rfl HR3.out.2 hzi hzz hl1 ?_))
  have hfin := setRow_heap W3 (w.heap.size + 1) zLet (L.map bv).toArray 51 (0, 0) HR3.out.2
  refine bodyPost_ret (results_cell_row rfl _ _ (w.heap.size + 1) 51 (ltC L) (0, 0) _ rfl hfin Tryz.underlying51 rfl hzi) rfl ?_
  exact ⟨rfl, HR3.out.1.setRow (.inr (by omega)) _⟩
end Go.Proofs.YtfkgdjoaoidkeaaGreat
namespace Go.Proofs.YtfkgdjoaoidkeaaGreat
set_option linter.unusedVariables false
def occR (b s : List UInt8) (i : Nat) : Bool := decide ((b.drop i).take 32 = s)
theorem occR_room {b s : List UInt8} {i : Nat} (hs : s.length = 32) (h : occR b s i = true) : i + 32 ≤ b.length := by
  have h1 := of_decide_eq_true h
  have h2 := congrArg List.length h1
  rw [List.length_take, List.length_drop, hs] at h2
  omega
theorem occR_occAt {b s : List UInt8} {k i : Nat} (hs : s.length = 32) (h : k + i + 32 ≤ b.length) : Go.Lib.occAt (b.drop k) s i = occR b s (k + i) := by
  rw [Go.Lib.occAt_iff_take _ _ _ (by rw [List.length_drop]; omega), List.drop_drop, hs]
  unfold occR
  by_cases he : List.take 32 (List.drop (k + i) b) = s
  · rw [decide_eq_true he]; simpa using he
  · rw [decide_eq_false he]; simpa using he
def stepR (b s : List UInt8) (st : List Nat × Nat) (i : Nat) : List Nat × Nat := if st.2 ≤ i ∧ occR b s i = true then (st.1 ++ [i], i + 32) else st
def goR (b s : List UInt8) : Nat → List Nat × Nat
  | 0 => ([], 0)
  | k + 1 => stepR b s (goR b s k) k
def placesR (b s : List UInt8) : List Nat := (goR b s b.length).1
theorem goR_pass {b s : List UInt8} {k : Nat} (h : k < (goR b s k).2 ∨ occR b s k = false) : goR b s (k + 1) = goR b s k := by
  show stepR b s (goR b s k) k = _
  unfold stepR
  rw [if_neg (by rintro ⟨h1, h2⟩; rcases h with h | h; (· omega); rw [h] at h2; cases h2)]
theorem goR_skip {b s : List UInt8} {k : Nat} : ∀ (j : Nat), (∀ i, k ≤ i → i < k + j → i < (goR b s k).2 ∨ occR b s i = false) → goR b s (k + j) = goR b s k
  | 0, _ => rfl
  | j + 1, h => by
    have ih := goR_skip j (fun i h1 h2 => h i h1 (by omega))
    have h3 := h (k + j) (by omega) (by omega)
    rw [← ih] at h3
    rw [← Nat.add_assoc, goR_pass h3, ih]
theorem goR_hit {b s : List UInt8} {k : Nat} (h : (goR b s k).2 ≤ k) (ho : occR b s k = true) : goR b s (k + 1) = ((goR b s k).1 ++ [k], k + 32) := by
  show stepR b s (goR b s k) k = _
  unfold stepR
  rw [if_pos ⟨h, ho⟩]
theorem goR_over {b s : List UInt8} {k : Nat} (h : (goR b s k).2 ≤ k) (ho : occR b s k = true) : goR b s (k + 32) = ((goR b s k).1 ++ [k], k + 32) := by
  have h1 := goR_hit h ho
  have h2 := goR_skip (b := b) (s := s) (k := k + 1) 31 (fun i h2 h3 => .inl (by rw [h1]; show i < k + 32; omega))
  rw [show k + 32 = k + 1 + 31 by omega, h2, h1]
theorem goR_prefix {b s : List UInt8} (k : Nat) : ∀ j, ∃ r, (goR b s (k + j)).1 = (goR b s k).1 ++ r
  | 0 => ⟨[], by simp⟩
  | j + 1 => by
    obtain ⟨r, hr⟩ := goR_prefix (b := b) (s := s) k j
    have e : goR b s (k + (j + 1)) = stepR b s (goR b s (k + j)) (k + j) := rfl
    rw [e]
    unfold stepR
    split
    · exact ⟨r ++ [k + j], by rw [← List.append_assoc, ← hr]⟩
    · exact ⟨r, hr⟩
def AtR (b s : List UInt8) (k : Nat) (L : List Nat) : Prop := k ≤ b.length ∧ (goR b s k).1 = L ∧ (goR b s k).2 ≤ k
theorem AtR.zero (b s : List UInt8) : AtR b s 0 [] := ⟨Nat.zero_le _, rfl, Nat.le_refl _⟩
theorem AtR.more {b s : List UInt8} {k j : Nat} {L : List Nat} (hs : s.length = 32) (h : AtR b s k L) (hi : Go.Lib.index (b.drop k) s = (j : Nat)) : AtR b s (k + j + 32) (L ++ [k + j]) := by
  obtain ⟨h0, h1, h2⟩ := h
  rcases Go.Lib.index_spec (b.drop k) s with ⟨he, _⟩ | ⟨i, he, hl, ho, hn⟩
  · rw [he] at hi; omega
  · rw [he] at hi
    obtain rfl : i = j := by omega
    have hroom := Go.Lib.index_room (b.drop k) s (by rw [he]; omega)
    rw [he, List.length_drop, hs] at hroom
    have hr : k + i + 32 ≤ b.length := by omega
    have ho' : occR b s (k + i) = true := by rw [← occR_occAt hs hr]; exact ho
    have hsk := goR_skip (b := b) (s := s) (k := k) i (fun x hx1 hx2 => .inr (by
      have := hn (x - k) (by omega)
      rw [occR_occAt hs (by omega), show k + (x - k) = x by omega] at this
      exact this))
    have hle : (goR b s (k + i)).2 ≤ k + i := by rw [hsk]; omega
    have hov := goR_over hle ho'
    refine ⟨by omega, by rw [hov, hsk, h1], by rw [hov]; exact Nat.le_refl _⟩
theorem AtR.done {b s : List UInt8} {k : Nat} {L : List Nat} (hs : s.length = 32) (h : AtR b s k L) (hi : Go.Lib.index (b.drop k) s < 0) : placesR b s = L := by
  obtain ⟨h0, h1, h2⟩ := h
  rcases Go.Lib.index_spec (b.drop k) s with ⟨he, hn⟩ | ⟨i, he, hl, ho, hn⟩
  · have hsk := goR_skip (b := b) (s := s) (k := k) (b.length - k) (fun x hx1 hx2 => .inr (by
      by_cases hr : x + 32 ≤ b.length
      · have := hn (x - k) (by rw [List.length_drop]; omega)
        rw [occR_occAt hs (by omega), show k + (x - k) = x by omega] at this
        exact this
      · cases hq : occR b s x with
        | false => rfl
        | true => exact absurd (occR_room hs hq) hr))
    unfold placesR
    rw [show b.length = k + (b.length - k) by omega, hsk, h1]
  · rw [he] at hi; omega
theorem AtR.pre {b s : List UInt8} {k : Nat} {L : List Nat} (h : AtR b s k L) : ∃ r, placesR b s = L ++ r := by
  obtain ⟨h0, h1, h2⟩ := h
  obtain ⟨r, hr⟩ := goR_prefix (b := b) (s := s) k (b.length - k)
  refine ⟨r, ?_⟩
  unfold placesR
  rw [show b.length = k + (b.length - k) by omega, hr, h1]
theorem AtR.take {b s : List UInt8} {k : Nat} {L : List Nat} (h : AtR b s k L) : (placesR b s).take L.length = L := by
  obtain ⟨r, hr⟩ := h.pre
  rw [hr, List.take_left']
  rfl
theorem goR_good {b s : List UInt8} (hs : s.length = 32) : ∀ k, (∀ p ∈ (goR b s k).1, occR b s p = true ∧ p + 32 ≤ (goR b s k).2) ∧ (goR b s k).1.Pairwise (fun p q => p + 32 ≤ q) ∧ ((goR b s k).1 = [] → (goR b s k).2 = 0)
  | 0 => ⟨fun p hp => by simp [goR] at hp, by simp [goR], fun _ => rfl⟩
  | k + 1 => by
    obtain ⟨h1, h2, h3⟩ := goR_good hs k
    by_cases h : (goR b s k).2 ≤ k ∧ occR b s k = true
    · rw [goR_hit h.1 h.2]
      refine ⟨fun p hp => ?_, ?_, fun e => by simp at e⟩
      · rcases List.mem_append.1 hp with hp | hp
        · have := h1 p hp
          exact ⟨this.1, by show p + 32 ≤ k + 32; omega⟩
        · obtain rfl : p = k := by simpa using hp
          exact ⟨h.2, Nat.le_refl _⟩
      · refine List.pairwise_append.2 ⟨h2, List.pairwise_singleton _ _, fun p hp q hq => ?_⟩
        obtain rfl : q = k := by simpa using hq
        have := h1 p hp
        omega
    · rw [goR_pass (by
        by_cases h4 : (goR b s k).2 ≤ k
        · refine .inr ?_
          cases hq : occR b s k with
          | false => rfl
          | true => exact absurd ⟨h4, hq⟩ h
        · exact .inl (by omega))]
      exact ⟨h1, h2, h3⟩
theorem goR_length (b s : List UInt8) : ∀ k, (goR b s k).1.length ≤ k
  | 0 => Nat.le_refl _
  | k + 1 => by
    have ih := goR_length b s k
    show (stepR b s (goR b s k) k).1.length ≤ k + 1
    unfold stepR
    split
    · rw [List.length_append]; simp; omega
    · omega
theorem placesR_length (b s : List UInt8) : (placesR b s).length ≤ b.length := goR_length b s _
theorem placesR_occ {b s : List UInt8} (hs : s.length = 32) {p : Nat} (hp : p ∈ placesR b s) : occR b s p = true := ((goR_good hs b.length).1 p hp).1
theorem placesR_room {b s : List UInt8} (hs : s.length = 32) {p : Nat} (hp : p ∈ placesR b s) : p + 32 ≤ b.length := occR_room hs (placesR_occ hs hp)
theorem placesR_none {b s : List UInt8} (hs : s.length = 32) {i : Nat} (h : occR b s i = true) : placesR b s ≠ [] := by
  intro he
  have hr := occR_room hs h
  obtain ⟨r, hr1⟩ := goR_prefix (b := b) (s := s) i (b.length - i)
  obtain ⟨r2, hr2⟩ := goR_prefix (b := b) (s := s) (i + 1) (b.length - (i + 1))
  rw [show i + (b.length - i) = b.length by omega] at hr1
  rw [show i + 1 + (b.length - (i + 1)) = b.length by omega] at hr2
  have e1 : (goR b s i).1 = [] := by
    have : (goR b s i).1 ++ r = [] := by rw [← hr1]; exact he
    exact (List.append_eq_nil_iff.1 this).1
  have e2 := (goR_good hs i).2.2 e1
  have e3 := goR_hit (b := b) (s := s) (k := i) (by omega) h
  have : (goR b s (i + 1)).1 ++ r2 = [] := by rw [← hr2]; exact he
  rw [e3] at this
  simp at this
def anyR (b s : List UInt8) : Bool := decide (placesR b s ≠ [])
theorem anyR_iff {b s : List UInt8} (hs : s.length = 32) : anyR b s = true ↔ ∃ i, occR b s i = true := by
  constructor
  · intro h
    have h := of_decide_eq_true h
    obtain ⟨p, r, he⟩ := List.exists_cons_of_ne_nil h
    exact ⟨p, placesR_occ hs (by rw [he]; exact List.mem_cons_self)⟩
  · rintro ⟨i, h⟩
    exact decide_eq_true (placesR_none hs h)
def putR (s : List UInt8) (b : List UInt8) (p : Nat) : List UInt8 := b.take p ++ s ++ b.drop (p + 32)
def withR (s b : List UInt8) (L : List Nat) : List UInt8 := L.foldl (putR s) b
theorem putR_length {s b : List UInt8} {p : Nat} (hs : s.length = 32) (h : p + 32 ≤ b.length) : (putR s b p).length = b.length := by
  unfold putR
  rw [List.length_append, List.length_append, List.length_take, List.length_drop, hs]
  omega
theorem withR_length {s : List UInt8} (hs : s.length = 32) : ∀ (L : List Nat) (b : List UInt8), (∀ p ∈ L, p + 32 ≤ b.length) → (withR s b L).length = b.length
  | [], _, _ => rfl
  | p :: L, b, h => by
    have h1 := putR_length hs (h p List.mem_cons_self)
    show (withR s (putR s b p) L).length = _
    rw [withR_length hs L _ (fun q hq => by rw [h1]; exact h q (List.mem_cons_of_mem _ hq)), h1]
theorem withR_snoc (s b : List UInt8) (L : List Nat) (p : Nat) : withR s b (L ++ [p]) = putR s (withR s b L) p := by simp [withR]
theorem withR_take_succ {s b : List UInt8} {L : List Nat} {i : Nat} (h : i < L.length) : withR s b (L.take (i + 1)) = putR s (withR s b (L.take i)) L[i] := by rw [List.take_succ_eq_append_getElem h, withR_snoc]
end Go.Proofs.YtfkgdjoaoidkeaaGreat
namespace Go.Proofs.YtfkgdjoaoidkeaaGreat
open Go.RowKit Go.ChangeShapes
set_option linter.unusedVariables false
def Elems (k : Nat) (F : Nat → Prop) (w : World) (v : Value) (css : List (List Value)) : Prop :=
  ∃ ao cap, v = .slice ao css.length cap ∧ css.length ≤ cap ∧ cap ≤ 9223372036854775807 ∧ (∀ c ∈ css, c.length = k) ∧
    (css ≠ [] → ∃ b off, ao = some ⟨b, off, none⟩ ∧ F b ∧ ∀ i (h : i < css.length) j, j < k → w.cell? ⟨b, off + i * k + j, none⟩ = css[i][j]?)
theorem Elems.nil (k : Nat) (F : Nat → Prop) (w : World) : Elems k F w (.slice none 0 0) [] := ⟨none, 0, rfl, Nat.le_refl _, by simp, (fun _ h => by cases h), fun h => absurd rfl h⟩
theorem Elems.keep {k : Nat} {F S : Nat → Prop} {w w' : World} {v : Value} {css : List (List Value)} (h : Elems k F w v css) (hf : Fr S w w') (hd : ∀ b, b < w.heap.size → F b → ¬ S b) : Elems k F w' v css := by
  obtain ⟨ao, cap, hv, h1, h2, h3, h4⟩ := h
  refine ⟨ao, cap, hv, h1, h2, h3, fun hl => ?_⟩
  obtain ⟨b, off, ha, hF, hi⟩ := h4 hl
  refine ⟨b, off, ha, hF, fun i h j hj => ?_⟩
  have h5 := hi i h j hj
  have hlen := h3 _ (List.getElem_mem h)
  rw [List.getElem?_eq_getElem (by omega)] at h5 ⊢
  exact hf.cell h5 (hd b (World.block_lt_of_cell? _ _ h5) hF)
theorem Elems.mono {k : Nat} {F G : Nat → Prop} {w : World} {v : Value} {css : List (List Value)} (h : Elems k F w v css) (hk : 0 < k) (hd : ∀ b, b < w.heap.size → F b → G b) : Elems k G w v css := by
  obtain ⟨ao, cap, hv, h1, h2, h3, h4⟩ := h
  refine ⟨ao, cap, hv, h1, h2, h3, fun hl => ?_⟩
  obtain ⟨b, off, ha, hF, hi⟩ := h4 hl
  have hp := List.length_pos_iff.2 hl
  have h5 := hi 0 hp 0 hk
  have hlen := h3 _ (List.getElem_mem hp)
  rw [List.getElem?_eq_getElem (by omega)] at h5
  exact ⟨b, off, ha, hd b (World.block_lt_of_cell? _ _ h5) hF, hi⟩
theorem flat_get {α : Type} {k : Nat} : ∀ (css : List (List α)), (∀ c ∈ css, c.length = k) → ∀ i (h : i < css.length) j, j < k → css.flatten[i * k + j]? = css[i][j]?
  | [], _, i, h, _, _ => by simp at h
  | c :: css, hc, 0, h, j, hj => by
    have := hc c List.mem_cons_self
    rw [List.flatten_cons, Nat.zero_mul, Nat.zero_add, List.getElem?_append_left (by omega)]
    rfl
  | c :: css, hc, i + 1, h, j, hj => by
    have := hc c List.mem_cons_self
    have e : (i + 1) * k + j - c.length = i * k + j := by rw [Nat.add_mul, this]; omega
    have e2 : k ≤ (i + 1) * k := by rw [Nat.add_mul]; omega
    rw [List.flatten_cons, List.getElem?_append_right (by omega), e, flat_get css (fun d hd => hc d (List.mem_cons_of_mem _ hd)) i (by simpa using h) j hj]
    rfl
theorem flat_len {α : Type} {k : Nat} : ∀ (css : List (List α)), (∀ c ∈ css, c.length = k) → css.flatten.length = css.length * k
  | [], _ => by simp
  | c :: css, hc => by rw [List.flatten_cons, List.length_append, hc c List.mem_cons_self, flat_len css (fun d hd => hc d (List.mem_cons_of_mem _ hd)), List.length_cons, Nat.add_mul]; omega
structure OwnE (T : TypeId) (k z : Nat) (w : World) (v : Value) (css : List (List Value)) : Prop where
  row : w.ownsRow z T k v css.length css.flatten
  each : ∀ c ∈ css, c.length = k
theorem OwnE.nil (T : TypeId) (k z : Nat) (w : World) : OwnE T k z w (.slice none 0 0) [] := ⟨World.ownsRow_nil _ _ _ _, fun _ h => by cases h⟩
theorem OwnE.keep {S : Nat → Prop} {T : TypeId} {k z : Nat} {w w' : World} {v : Value} {css : List (List Value)} (h : OwnE T k z w v css) (hf : Fr S w w') (hd : ∀ g, v.ownBlock = some g → ¬ S g) : OwnE T k z w' v css := by
  refine ⟨⟨h.row.1, ?_⟩, h.each⟩
  rcases h.row.2 with e | ⟨g, cap, cur, hv, hb, hg, r⟩
  · exact .inl e
  · exact .inr ⟨g, cap, cur, hv, hb, hf.heap hg (hd g (by rw [hv]; rfl)), r⟩
theorem OwnE.own {T : TypeId} {k z : Nat} {w : World} {v : Value} {css : List (List Value)} (h : OwnE T k z w v css) (g : Nat) (hg : v.ownBlock = some g) : z ≤ g ∧ g < w.heap.size := by
  rcases h.row.2 with ⟨hv, _⟩ | ⟨g', cap, cur, hv, hb, hg', _⟩
  · rw [hv] at hg; simp [Value.ownBlock] at hg
  · rw [hv] at hg
    simp only [Value.ownBlock, Option.some.injEq] at hg
    exact hg ▸ ⟨hb, lt_of_block hg'⟩
theorem OwnE.elems {T : TypeId} {k z : Nat} {w : World} {v : Value} {css : List (List Value)} (h : OwnE T k z w v css) : Elems k (fun b => v.ownBlock = some b) w v css := by
  rcases h.row.2 with ⟨hv, h0⟩ | ⟨g, cap, cur, hv, hb, hg, hnc, hcm, hcs, ht⟩
  · obtain rfl := List.eq_nil_of_length_eq_zero h0
    rw [hv]
    exact Elems.nil _ _ _
  · unfold maxLen at hcm
    refine ⟨_, cap, hv, hnc, by omega, h.each, fun _ => ⟨g, 0, rfl, by rw [hv]; rfl, fun i hi j hj => ?_⟩⟩
    have hfl := flat_len css h.each
    have hlt : i * k + j < css.length * k := Nat.lt_of_lt_of_le (show i * k + j < (i + 1) * k by rw [Nat.add_mul]; omega) (Nat.mul_le_mul_right k hi)
    have hr := h.row
    rw [hv] at hr
    have := World.ownsRow.cellAt hr (i * k + j) (by omega)
    rw [Nat.zero_add, this, flat_get css h.each i hi j hj]
theorem OwnE.form {T : TypeId} {k z : Nat} {w : World} {v : Value} {css : List (List Value)} (h : OwnE T k z w v css) : ∃ ao c, v = .slice ao css.length c := by
  obtain ⟨ao, c, hv, _⟩ := h.elems
  exact ⟨ao, c, hv⟩
theorem run_append_e {T ST : TypeId} {k bs : Nat} {zv : Value} (hu : Tryz.prog.underlying ST = some (.slice T)) (hinf : (Tryz.prog.info? T).map (fun i => (i.zero, i.size, i.bytes)) = some (some zv, k, bs)) (hzs : zv.cells.size = k) (hk0 : 0 < k) (hbs : bs ≤ 100)
    {F : Nat → Prop} {z : Nat} (w : World) (ty : TypeId) (v x : Value) (css dss : List (List Value)) (hown : OwnE T k z w v css) (hx : Elems k F w x dss) (h1 : ∀ c ∈ dss, ∀ u ∈ c, u.oneCell' = true) (hz : z ≤ w.heap.size) (hn : css.length + dss.length ≤ 1000000) :
    ∃ v' w', (Builtin.append_ #[ST, ST] ty #[v, x]).run Tryz.prog w = .ok v' w' ∧ OwnE T k z w' v' (css ++ dss) ∧ w.grownBy w' v.ownBlock ∧ (v'.ownBlock = v.ownBlock ∨ v'.ownBlock = some w.heap.size) := by
  obtain ⟨i0, hi, hz0, hz1, hz2⟩ := info_parts hinf
  have heach : ∀ c ∈ css ++ dss, c.length = k := by
    obtain ⟨_, _, _, _, _, h3, _⟩ := hx
    intro c hc
    rcases List.mem_append.1 hc with hc | hc
    · exact hown.each c hc
    · exact h3 c hc
  obtain ⟨ao, cap, rfl, hc1, hc2, h3, h4⟩ := hx
  by_cases he : dss = []
  · subst he
    rw [List.append_nil]
    cases ao with
    | none =>
      have hcap : cap = 0 ∨ cap ≠ 0 := by omega
      rcases hcap with rfl | hcap
      · exact ⟨v, w, run_append_owned_none (P := Tryz.prog) (w := w) z ST ty T i0 k hu hi v css.length _ hown.row, hown, World.grownBy.refl _ _, .inl rfl⟩
      · exact ⟨v, w, run_append_owned_none (P := Tryz.prog) (w := w) z ST ty T i0 k hu hi v css.length _ hown.row, hown, World.grownBy.refl _ _, .inl rfl⟩
    | some a =>
      obtain ⟨v', w', hr, r2, r3, r4, r5⟩ := run_append_own_at (P := Tryz.prog) w z ST ty T i0 zv k bs hu hi hz0 hz1 hz2 hzs hk0 v css.length _ hown.row a 0 cap [] (by simp) (by simp) (by simp) (by unfold maxLen; simp at hn; omega) (Nat.le_trans (Nat.mul_le_mul (show css.length + 0 ≤ 1000000 by simpa using hn) hbs) (by decide)) hz
      exact ⟨v', w', hr, ⟨by simpa using r2, hown.each⟩, r3, r5⟩
  · obtain ⟨b, off, rfl, hF, hcell⟩ := h4 he
    obtain ⟨v', w', hr, r2, r3, r4, r5⟩ := run_append_own_at (P := Tryz.prog) w z ST ty T i0 zv k bs hu hi hz0 hz1 hz2 hzs hk0 v css.length _ hown.row ⟨b, off, none⟩ dss.length cap dss.flatten (flat_len dss h3) (fun j u hu => by
        have hfl := flat_len dss h3
        have hj : j < dss.flatten.length := (List.getElem?_eq_some_iff.1 hu).1
        rw [hfl] at hj
        have hq : j / k < dss.length := Nat.div_lt_of_lt_mul (by rw [Nat.mul_comm]; exact hj)
        have hm := Nat.div_add_mod j k
        have hml := Nat.mod_lt j hk0
        have e : off + (j / k) * k + j % k = off + j := by rw [Nat.mul_comm (j / k) k]; omega
        have h5 := hcell (j / k) hq (j % k) hml
        rw [e, ← flat_get dss h3 (j / k) hq (j % k) hml, show (j / k) * k + j % k = j by rw [Nat.mul_comm]; omega, hu] at h5
        rw [addr_plain]
        exact h5) (fun u hu => by
        obtain ⟨c, hc, huc⟩ := List.mem_flatten.1 hu
        exact h1 c hc u huc) (by unfold maxLen; omega) (Nat.le_trans (Nat.mul_le_mul hn hbs) (by decide)) hz
    refine ⟨v', w', hr, ⟨?_, heach⟩, r3, r5⟩
    rw [List.length_append, List.flatten_append]
    exact r2
theorem Elems.ofBlock {k : Nat} {w : World} {b : Nat} {T : TypeId} {c : List Value} (h : w.heap[b]? = some (.cells c.toArray T (0, 0))) (hc : c.length = k) : Elems k (fun j => j = b) w (.slice (some ⟨b, 0, none⟩) 1 1) [c] := by
  refine ⟨_, 1, rfl, Nat.le_refl _, by decide, (fun d hd => by rw [List.mem_singleton.1 hd]; exact hc), fun _ => ⟨b, 0, rfl, rfl, fun i hi j hj => ?_⟩⟩
  have : i = 0 := by simp at hi; omega
  subst this
  rw [cell_of_row _ _ _ _ _ _ h]
  simp
def inC (x : Int) : List Value := [.int .i64 x]
theorem infoI7 : (Tryz.prog.info? 3).map (fun i => (i.zero, i.size, i.bytes)) = some (some (.int .i64 0), 1, 8) := by kernel_rfl
def OwnI (z : Nat) (w : World) (v : Value) (l : List Nat) : Prop := OwnE 3 1 z w v (l.map (fun (x : Nat) => inC x))
theorem OwnI.nil (z : Nat) (w : World) : OwnI z w (.slice none 0 0) [] := OwnE.nil _ _ _ _
theorem OwnI.form {z : Nat} {w : World} {v : Value} {l : List Nat} (h : OwnI z w v l) : ∃ ao c, v = .slice ao l.length c := by
  obtain ⟨ao, c, hv⟩ := OwnE.form h
  rw [List.length_map] at hv
  exact ⟨ao, c, hv⟩
theorem OwnI.lower {z z' : Nat} {w : World} {v : Value} {l : List Nat} (h : OwnI z w v l) (hz : z' ≤ z) : OwnI z' w v l := by
  refine ⟨⟨(OwnE.row h).1, ?_⟩, OwnE.each h⟩
  rcases (OwnE.row h).2 with e | ⟨g, cap, cur, hv, hb, r⟩
  · exact .inl e
  · exact .inr ⟨g, cap, cur, hv, Nat.le_trans hz hb, r⟩
theorem run_int1 (w : World) (x : Int) : (Instr.buildSlice 31 1 #[(0, .int .i64 x)]).run Tryz.prog w = .ok (.slice (some ⟨w.heap.size, 0, none⟩) 1 1) (w.alloc (.cells #[.int .i64 x] 3)) := by kernel_rfl
theorem one_int (w : World) (x : Nat) : Elems 1 (fun j => j = w.heap.size) (w.alloc (.cells #[.int .i64 (x : Int)] 3)) (.slice (some ⟨w.heap.size, 0, none⟩) 1 1) ([x].map (fun (x : Nat) => inC x)) := Elems.ofBlock (c := [.int .i64 (x : Int)]) (heap_alloc_new w _) rfl
theorem run_append_i {z : Nat} (w : World) (ty : TypeId) (v : Value) (l : List Nat) (x : Nat) (hown : OwnI z w v l) (hz : z ≤ w.heap.size) (hn : l.length + 1 ≤ 1000000) :
    ∃ a n c w', (Builtin.append_ #[31, 31] ty #[v, .slice (some ⟨w.heap.size, 0, none⟩) 1 1]).run Tryz.prog (w.alloc (.cells #[.int .i64 (x : Int)] 3)) = .ok (.slice a n c) w' ∧ OwnI z w' (.slice a n c) (l ++ [x]) ∧ Fr (fun k => v.ownBlock = some k) w w' := by
  have hf : Fr (fun _ => False) w (w.alloc (.cells #[.int .i64 (x : Int)] 3)) := (Fr.refl _ _).alloc _
  obtain ⟨v', w', hr, h1, h2, h3⟩ := run_append_e (T := 3) (ST := 31) Tryz.underlying31 infoI7 rfl (by decide) (by decide) (w.alloc (.cells #[.int .i64 (x : Int)] 3)) ty v _ (l.map (fun (x : Nat) => inC x)) ([x].map (fun (x : Nat) => inC x)) (OwnE.keep hown hf (fun _ _ h => h)) (one_int w x) (by intro c hc u hu; simp [inC] at hc; subst hc; simp at hu; subst hu; rfl) (by have := hf.size; omega) (by simp; omega)
  rw [← List.map_append] at h1
  obtain ⟨a, c, rfl⟩ := OwnI.form h1
  exact ⟨_, _, _, w', hr, h1, (hf.mono (T := fun k => v.ownBlock = some k) (fun _ _ h => h.elim)).trans ((Fr.refl _ _).grown h2 (fun k hk => .inl hk)) (fun _ h => .inl h)⟩
def IntsR (F : Nat → Prop) (w : World) (v : Value) (l : List Nat) : Prop :=
  ∃ ao cap, v = .slice ao l.length cap ∧ l.length ≤ cap ∧ cap ≤ 9223372036854775807 ∧ ∃ b off, (0 < l.length → ao = some ⟨b, off, none⟩ ∧ F b) ∧ ∀ i (hi : i < l.length), w.cell? ⟨b, off + i, none⟩ = some (.int .i64 (l[i] : Nat))
theorem IntsR.keep {F S : Nat → Prop} {w w' : World} {v : Value} {l : List Nat} (h : IntsR F w v l) (hf : Fr S w w') (hd : ∀ k, k < w.heap.size → F k → ¬ S k) : IntsR F w' v l := by
  obtain ⟨ao, cap, hv, h1, h2, b, off, h3, h4⟩ := h
  exact ⟨ao, cap, hv, h1, h2, b, off, h3, fun i hi => hf.cell (h4 i hi) (hd b (World.block_lt_of_cell? _ _ (h4 i hi)) (h3 (by omega)).2)⟩
theorem IntsR.mono {F G : Nat → Prop} {w : World} {v : Value} {l : List Nat} (h : IntsR F w v l) (hd : ∀ k, k < w.heap.size → F k → G k) : IntsR G w v l := by
  obtain ⟨ao, cap, hv, h1, h2, b, off, h3, h4⟩ := h
  exact ⟨ao, cap, hv, h1, h2, b, off, fun h0 => ⟨(h3 h0).1, hd b (World.block_lt_of_cell? _ _ (h4 0 h0)) (h3 h0).2⟩, h4⟩
theorem IntsR.quiet {F : Nat → Prop} {w w' : World} {v : Value} {l : List Nat} (h : IntsR F w v l) (hf : Fr (fun _ => False) w w') : IntsR F w' v l := h.keep hf (fun _ _ _ h => h)
theorem IntsR.nil (F : Nat → Prop) (w : World) : IntsR F w (.slice none 0 0) [] := ⟨none, 0, rfl, Nat.le_refl _, by decide, 0, 0, fun h => by simp at h, fun i h => by simp at h⟩
theorem OwnI.ints {z : Nat} {w : World} {v : Value} {l : List Nat} (h : OwnI z w v l) : IntsR (fun k => z ≤ k) w v l := by
  have hO := OwnE.own h
  obtain ⟨ao, cap, hv, h1, h2, h3, h4⟩ := OwnE.elems h
  rw [List.length_map] at hv h1
  refine ⟨ao, cap, hv, h1, h2, ?_⟩
  by_cases h0 : l = []
  · subst h0
    exact ⟨0, 0, (fun h => by simp at h), fun i hi => by simp at hi⟩
  · obtain ⟨b, off, ha, hb, hc⟩ := h4 (by simpa using h0)
    refine ⟨b, off, fun _ => ⟨ha, (hO b hb).1⟩, fun i hi => ?_⟩
    have := hc i (by rw [List.length_map]; exact hi) 0 (by omega)
    rw [List.getElem_map] at this
    simpa [inC] using this
end Go.Proofs.YtfkgdjoaoidkeaaGreat
namespace Go.Proofs.YtfkgdjoaoidkeaaGreat
open Go.RowKit
set_option linter.unusedVariables false
inductive WideF : Fence → Prop
  | out : WideF Fence.wide
  | round (l : Nat) : WideF (Fence.wide.inRound l)
theorem WideF.fn {F : Fence} (h : WideF F) (f : FuncId) : F.fn f := by cases h <;> trivial
theorem WideF.free {F : Fence} (h : WideF F) {p : Prop} (hd : F.depth.isSome = true) : p := by cases h <;> simp [Fence.wide, Fence.inRound] at hd
section
variable {F : Fence} {n : Nat} {P : Program} {ops : Array Oper} {md : Region.Mode} {Q : Exit → Act → World → Prop}
theorem wpIn_value {o : Oper} {a : Act} {w w' : World} {K : Act → World → Prop} (hF : WideF F) (hd : ∀ c, o.op ≠ .defer c) (v : Value) (h : (execOp a.eval o).run P w = .ok (.value v) w') (hK : K (a.put o.dst v) w') : o.wpIn F n P a w K Q := by
  refine ⟨fun f _ => hF.fn f, ?_⟩
  rw [Oper.semAt_plain F _ _ hd, h]
  exact hK
theorem wpListIn_value {rest : List Oper} {o : Oper} {a : Act} {w : World} (hF : WideF F) (hg : o.guard = none) (hd : ∀ c, o.op ≠ .defer c) (v : Value) (w' : World) (h : (execOp a.eval o).run P w = .ok (.value v) w') (hK : wpListIn F n P ops Q rest (a.put o.dst v) w') : wpListIn F n P ops Q (o :: rest) a w :=
  wpListIn_plain hg fun _ hK' => wpIn_value hF hd v h (hK' _ _ hK)
end
end Go.Proofs.YtfkgdjoaoidkeaaGreat
