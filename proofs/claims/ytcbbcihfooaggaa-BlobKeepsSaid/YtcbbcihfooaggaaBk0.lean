/- Laid together: Base Kit DevL RDev0 DHead Cur Clone Arr -/
import Derived.Test.YtcbbcihfooaggaaRows
import Derived.WalkKit
import Derived.Maps.AppendAt
import Derived.Laws.OwnMore
import Derived.WalkSmall
import Derived.Deep.Draws
import Derived.WalkLawsBesides
import Derived.WalkSpells
import Derived.Deep.QuietTactic
import Derived.BigQuiet
import Derived.Outline
import Derived.Lib.Hide
import Derived.LaidEqlPtr
import Derived.Lib.SliceRun
import Derived.Deep.Slices
import Derived.Laws.Rows
import Derived.Deep.WholeRow
import Derived.Laws.MakeOwn
import Derived.Laws.IdiomStrings

namespace Go.Proofs.Ytcbbcihfooaggaa
open Go.RowKit
def bv (x : UInt8) : Value := .int .u8 x.toNat
theorem bv_one (L : List UInt8) : ∀ u ∈ L.map bv, u.oneCell' = true := by
  intro u hu
  obtain ⟨x, _, rfl⟩ := List.mem_map.1 hu
  rfl
structure Fr (S : Nat → Prop) (w w' : World) : Prop where
  os : w'.os = w.os
  tape : w'.tape = w.tape
  output : w'.output = w.output
  size : w.heap.size ≤ w'.heap.size
  block : ∀ k, k < w.heap.size → ¬ S k → w'.heap[k]? = w.heap[k]?
theorem Fr.refl (S : Nat → Prop) (w : World) : Fr S w w := ⟨rfl, rfl, rfl, Nat.le_refl _, fun _ _ _ => rfl⟩
theorem Fr.trans {S T : Nat → Prop} {a b c : World} (h : Fr S a b) (k : Fr T b c) (hT : ∀ i, T i → S i ∨ a.heap.size ≤ i) : Fr S a c :=
  ⟨k.os.trans h.os, k.tape.trans h.tape, k.output.trans h.output, Nat.le_trans h.size k.size, fun i hi hs => by
    rw [k.block i (Nat.lt_of_lt_of_le hi h.size) (fun ht => by rcases hT i ht with h1 | h1; exact hs h1; omega), h.block i hi hs]⟩
theorem Fr.mono {S T : Nat → Prop} {a b : World} (h : Fr S a b) (hT : ∀ i, i < a.heap.size → S i → T i) : Fr T a b :=
  ⟨h.os, h.tape, h.output, h.size, fun i hi ht => h.block i hi (fun hs => ht (hT i hi hs))⟩
theorem Fr.drew {S : Nat → Prop} {a w : World} (h : Fr S a w) : Fr S a w.drew := ⟨h.os, h.tape, h.output, h.size, h.block⟩
theorem Fr.drewN {S : Nat → Prop} {a w : World} (h : Fr S a w) (n : Nat) : Fr S a (w.drewN n) := ⟨h.os, h.tape, h.output, h.size, h.block⟩
theorem Fr.ofDrew {S : Nat → Prop} {a w : World} (h : Fr S a.drew w) : Fr S a w := ⟨h.os, h.tape, h.output, h.size, h.block⟩
theorem Fr.alloc {S : Nat → Prop} {a w : World} (h : Fr S a w) (o : Obj) : Fr S a (w.alloc o) :=
  ⟨h.os, h.tape, h.output, Nat.le_trans h.size (by simp), fun i hi hs => by rw [Below.heap_alloc _ _ _ (Nat.lt_of_lt_of_le hi h.size), h.block i hi hs]⟩
theorem Fr.setCell {S : Nat → Prop} {a w : World} (h : Fr S a w) {p : Addr} (hp : S p.block ∨ a.heap.size ≤ p.block) (u : Value) : Fr S a (w.setCell p u) :=
  ⟨h.os, h.tape, h.output, by simpa [World.setCell] using h.size, fun i hi hs => by
    rw [Below.heap_setCell _ _ _ _ (by rintro rfl; rcases hp with h1 | h1; exact hs h1; omega), h.block i hi hs]⟩
theorem Fr.grown {S : Nat → Prop} {a w w' : World} {row : Option Nat} (h : Fr S a w) (hg : w.grownBy w' row) (hr : ∀ k, row = some k → S k ∨ a.heap.size ≤ k) : Fr S a w' :=
  h.trans (T := fun k => row = some k) ⟨hg.os, hg.tape, hg.output, hg.size, fun k hk hn => hg.block k hk (fun e => hn e.symm)⟩ hr
theorem Fr.below {S : Nat → Prop} {a w : World} {B : Nat} (h : Fr S a w) (hB : B ≤ a.heap.size) (hS : ∀ k, S k → B ≤ k) : Below B a w :=
  ⟨h.os, h.tape, h.output, h.size, fun k hk => h.block k (by omega) (fun hs => by have := hS k hs; omega)⟩
theorem Fr.ofBelow {a w : World} {B : Nat} (h : Below B a w) : Fr (fun k => B ≤ k) a w :=
  ⟨h.os, h.tape, h.output, h.size, fun k _ hn => h.block k (by omega)⟩
theorem Fr.heap {S : Nat → Prop} {a w : World} {b : Nat} {o : Obj} (h : Fr S a w) (hb : a.heap[b]? = some o) (hs : ¬ S b) : w.heap[b]? = some o := by
  rw [h.block b (lt_of_block hb) hs, hb]
theorem Fr.cell {S : Nat → Prop} {a w : World} {p : Addr} {v : Value} (h : Fr S a w) (hc : a.cell? p = some v) (hs : ¬ S p.block) : w.cell? p = some v := by
  rw [World.cell?_of_block (h.block p.block (World.block_lt_of_cell? _ _ hc) hs), hc]
def BytesIn (F : Nat → Prop) (w : World) (v : Value) (L : List UInt8) : Prop :=
  ∃ ao cap, v = .slice ao L.length cap ∧ L.length ≤ cap ∧ cap ≤ maxLen ∧ (ao = none → cap = 0) ∧
    ∀ a, ao = some a → (∀ j u, (L.map bv)[j]? = some u → w.cell? (a.add j) = some u) ∧ (L ≠ [] → F a.block)
theorem add_block (a : Addr) (j : Nat) : (a.add j).block = a.block := by
  unfold Addr.add
  split <;> rfl
theorem BytesIn.keep {F S : Nat → Prop} {w w' : World} {v : Value} {L : List UInt8} (h : BytesIn F w v L) (hf : Fr S w w') (hd : ∀ k, k < w.heap.size → F k → ¬ S k) : BytesIn F w' v L := by
  obtain ⟨ao, cap, rfl, h1, hm, h2, h3⟩ := h
  refine ⟨ao, cap, rfl, h1, hm, h2, fun a ha => ⟨fun j u hu => ?_, (h3 a ha).2⟩⟩
  have hc := (h3 a ha).1 j u hu
  have hL : L ≠ [] := by rintro rfl; simp at hu
  have hb : (a.add j).block < w.heap.size := World.block_lt_of_cell? _ _ hc
  rw [add_block] at hb
  exact hf.cell hc (by rw [add_block]; exact hd _ hb ((h3 a ha).2 hL))
theorem BytesIn.drewN {F : Nat → Prop} {w : World} {v : Value} {L : List UInt8} (h : BytesIn F w v L) (n : Nat) : BytesIn F (w.drewN n) v L := h
theorem BytesIn.mono {F G : Nat → Prop} {w : World} {v : Value} {L : List UInt8} (h : BytesIn F w v L) (hd : ∀ k, k < w.heap.size → F k → G k) : BytesIn G w v L := by
  obtain ⟨ao, cap, rfl, h1, hm, h2, h3⟩ := h
  refine ⟨ao, cap, rfl, h1, hm, h2, fun a ha => ⟨(h3 a ha).1, fun hL => ?_⟩⟩
  obtain ⟨x, r, rfl⟩ := List.exists_cons_of_ne_nil hL
  exact hd _ (by simpa [Addr.add] using World.block_lt_of_cell? _ _ ((h3 a ha).1 0 (bv x) rfl)) ((h3 a ha).2 hL)
theorem BytesIn.nil (F : Nat → Prop) (w : World) : BytesIn F w (.slice none 0 0) [] := ⟨none, 0, rfl, Nat.le_refl _, by simp [maxLen], fun _ => rfl, fun a h => by cases h⟩
def OwnB (F : Nat → Prop) (w : World) (v : Value) (L : List UInt8) : Prop :=
  w.ownsRow 0 5 1 v L.length (L.map bv) ∧ ∀ g, v.ownBlock = some g → F g
theorem OwnB.nil (F : Nat → Prop) (w : World) : OwnB F w (.slice none 0 0) [] := ⟨World.ownsRow_nil _ _ _ _, fun g h => by simp [Value.ownBlock] at h⟩
theorem OwnB.keep {F S : Nat → Prop} {w w' : World} {v : Value} {L : List UInt8} (h : OwnB F w v L) (hf : Fr S w w') (hd : ∀ k, k < w.heap.size → F k → ¬ S k) : OwnB F w' v L := by
  refine ⟨⟨h.1.1, ?_⟩, h.2⟩
  rcases h.1.2 with h1 | ⟨g, cap, cur, hv, hb, hg, r⟩
  · exact .inl h1
  · exact .inr ⟨g, cap, cur, hv, hb, hf.heap hg (hd g (lt_of_block hg) (h.2 g (by rw [hv]; rfl))), r⟩
theorem OwnB.mono {F G : Nat → Prop} {w : World} {v : Value} {L : List UInt8} (h : OwnB F w v L) (hd : ∀ k, k < w.heap.size → F k → G k) : OwnB G w v L :=
  ⟨h.1, fun g hg => hd g (h.1.lt g hg).2 (h.2 g hg)⟩
theorem OwnB.bytes {F : Nat → Prop} {w : World} {v : Value} {L : List UInt8} (h : OwnB F w v L) : BytesIn F w v L := by
  rcases h.1.2 with ⟨rfl, h1⟩ | ⟨g, cap, cur, rfl, hb, hg, hn, hm, hs, ht⟩
  · obtain rfl := List.eq_nil_of_length_eq_zero h1
    exact BytesIn.nil _ _
  · refine ⟨some ⟨g, 0, none⟩, cap, rfl, hn, hm, (fun h => by cases h), ?_⟩
    intro a ha
    cases ha
    exact ⟨h.1.cells rfl, fun _ => h.2 g rfl⟩
theorem OwnB.len {F : Nat → Prop} {w : World} {v : Value} {L : List UInt8} (h : OwnB F w v L) : ∃ ao cap, v = .slice ao L.length cap := by
  obtain ⟨ao, cap, hv, _⟩ := h.bytes
  exact ⟨ao, cap, hv⟩
theorem Try.infoB : (Try.prog.info? 5).map (fun i => (i.zero, i.size, i.bytes)) = some (some (.int .u8 0), 1, 1) := by kernel_rfl
theorem run_append_bytes {F G : Nat → Prop} (w : World) (ty : TypeId) (v x : Value) (L X : List UInt8) (hown : OwnB F w v L) (hx : BytesIn G w x X) (hb : L.length + X.length ≤ 140737488355328) :
    ∃ v' w', (Builtin.append_ #[40, 40] ty #[v, x]).run Try.prog w = .ok v' w' ∧ OwnB (fun k => F k ∨ w.heap.size ≤ k) w' v' (L ++ X) ∧ w.grownBy w' v.ownBlock ∧ (v' = .slice none 0 0 ↔ v = .slice none 0 0 ∧ X = []) := by
  obtain ⟨i0, hi, hz0, hz1, hz2⟩ := info_parts Try.infoB
  obtain ⟨ao, cap, rfl, hl, hm, hn, hc⟩ := hx
  have hmx : L.length + X.length ≤ maxLen := by unfold maxLen; omega
  cases ao with
  | none =>
    obtain rfl := hn rfl
    obtain rfl : X = [] := List.eq_nil_of_length_eq_zero (by omega)
    have hr := run_append_owned_none (P := Try.prog) (w := w) 0 40 ty 5 i0 1 Try.underlying40 hi v L.length _ hown.1
    refine ⟨v, w, hr, ?_, World.grownBy.refl _ _, by simp⟩
    rw [List.append_nil]
    exact hown.mono fun k _ h => .inl h
  | some a =>
    obtain ⟨v', w', hr, h2, h3, h4, h5⟩ := run_append_own_at (P := Try.prog) w 0 40 ty 5 i0 (.int .u8 0) 1 1 Try.underlying40 hi hz0 hz1 hz2 rfl (by decide) v L.length _ hown.1 a X.length cap (X.map bv)
      (by simp) (hc a rfl).1 (bv_one X) hmx (by omega) (Nat.zero_le _)
    refine ⟨v', w', hr, ⟨?_, ?_⟩, h3, ?_⟩
    · rw [List.length_append, List.map_append]
      exact h2
    · intro g hg
      rcases h5 with h5 | h5
      · exact .inl (hown.2 g (by rw [← h5, hg]))
      · rw [hg] at h5
        exact .inr (by have := Option.some.inj h5; omega)
    · rw [h4]
      simp [List.length_eq_zero_iff]
end Go.Proofs.Ytcbbcihfooaggaa
namespace Go.Proofs.Ytcbbcihfooaggaa
open Go.RowKit Go.ChangeShapes
set_option linter.unusedVariables false
theorem ret_int {k : IntKind} {a b : Int} (h : a = b) : Ending.returned (.int k a) = .returned (.int k b) := by rw [h]
theorem ret_bool {a b : Bool} (h : a = b) : Ending.returned (.bool a) = .returned (.bool b) := by rw [h]
theorem mod_neg (x n : Int) (h1 : 1 ≤ n) (h : x.tmod n < 0) : x.tmod n + n = x % n := by
  have e : x.tmod n = x % n - (if 0 ≤ x ∨ n ∣ x then 0 else n.natAbs) := Int.tmod_eq_emod (a := x) (b := n)
  have hp := Int.emod_nonneg x (show n ≠ 0 by omega)
  split at e <;> omega
theorem mod_pos (x n : Int) (h1 : 1 ≤ n) (h : ¬ x.tmod n < 0) : x.tmod n = x % n := by
  have e : x.tmod n = x % n - (if 0 ≤ x ∨ n ∣ x then 0 else n.natAbs) := Int.tmod_eq_emod (a := x) (b := n)
  have hp := Int.emod_lt_of_pos x (show 0 < n by omega)
  split at e <;> omega
theorem pick_any (x n : Int) (w : World) (h1 : 1 ≤ n) (h2 : n ≤ 1000000) (hx : -9223372036854775808 ≤ x) (hx2 : x ≤ 9223372036854775807) :
    Calls Try.prog 37 #[.int .i64 x, .int .i64 n] w fun e w' => e = .returned (.int .i64 (x % n)) ∧ w = w' := by
  have hb : -n < x.tmod n ∧ x.tmod n < n := by
    constructor
    · have := Int.lt_tmod_of_pos x (show 0 < n by omega); omega
    · exact Int.tmod_lt_of_pos x (by omega)
  obtain ⟨b1, b2⟩ := hb
  have hn : ¬ n < 1 := by omega
  by_cases h : x.tmod n < 0
  · have HE := Lib.hid (mod_neg x n h1 h)
    go_enter Try.func37, Try.ntmps37
    go_wp2
    go_ret
    exact ⟨ret_int HE.out, rfl⟩
  · have HE := Lib.hid (mod_pos x n h1 h)
    go_enter Try.func37, Try.ntmps37
    go_wp2
    go_ret
    exact ⟨ret_int HE.out, rfl⟩
def sameB (A B : List UInt8) : Bool := decide (A = B)
theorem sameB_eq {A B : List UInt8} (h : A = B) : sameB A B = true := by simp [sameB, h]
theorem sameB_ne {A B : List UInt8} (h : A ≠ B) : sameB A B = false := by simp [sameB, h]
theorem addr_plain (b o i : Nat) : (⟨b, o, none⟩ : Addr).add i = ⟨b, o + i, none⟩ := by unfold Addr.add; split <;> simp_all
theorem BytesIn.plain {F : Nat → Prop} {w : World} {v : Value} {L : List UInt8} (h : BytesIn F w v L) (hL : L ≠ []) :
    ∃ b off cap, v = .slice (some ⟨b, off, none⟩) L.length cap ∧ L.length ≤ cap ∧ cap ≤ maxLen ∧ F b ∧ ∀ j (hj : j < L.length), w.cell? ⟨b, off + j, none⟩ = some (bv L[j]) := by
  obtain ⟨ao, cap, rfl, h1, hm, h2, h3⟩ := h
  obtain ⟨x, r, rfl⟩ := List.exists_cons_of_ne_nil hL
  cases ao with
  | none => have := h2 rfl; simp at h1; omega
  | some a =>
    obtain ⟨b, off, spot⟩ := a
    have hc := (h3 _ rfl).1
    have hs : spot = none := by simpa [Addr.add] using World.cell?_spot (hc 0 (bv x) rfl)
    subst hs
    refine ⟨b, off, cap, rfl, h1, hm, (h3 _ rfl).2 hL, fun j hj => ?_⟩
    have := hc j (bv (x :: r)[j]) (by rw [List.getElem?_map, List.getElem?_eq_getElem hj]; rfl)
    rwa [addr_plain] at this
set_option maxHeartbeats 400000 in
theorem same_any {F G : Nat → Prop} (v u : Value) (A B : List UInt8) (w : World) (hA : BytesIn F w v A) (hB : BytesIn G w u B) :
    Calls Try.prog 30 #[v, u] w fun e w' => e = .returned (.bool (sameB A B)) ∧ ∃ n, w' = w.drewN n := by
  by_cases hl : A.length = B.length
  · by_cases hn : A = []
    · subst hn
      obtain rfl : B = [] := List.eq_nil_of_length_eq_zero (by simpa using hl.symm)
      obtain ⟨ao, cap, rfl, _⟩ := hA
      obtain ⟨ao', cap', rfl, _⟩ := hB
      clear hl
      go_enter Try.func30, Try.ntmps30
      go_wp2
      refine wp_loop_rounds 1 ?_
      rw [rounds_succ]
      go_wp2
      go_ret
      exact ⟨ret_bool (sameB_eq rfl).symm, 0, rfl⟩
    · obtain ⟨b, off, cap, rfl, h1, hm, _, hc⟩ := hA.plain hn
      obtain ⟨b', off', cap', rfl, h1', hm', _, hc'⟩ := hB.plain (fun h => by subst h; simp at hl; exact hn hl)
      obtain ⟨n, hn'⟩ : ∃ n, n = A.length := ⟨_, rfl⟩
      have hlb : n = B.length := by omega
      clear hA hB hn hl
      rw [← hn'] at h1 ⊢
      rw [← hlb] at h1' ⊢
      have hcA : ∀ j, j < n → w.cell? ⟨b, off + j, none⟩ = some (.int .u8 (A.getD j 0).toNat) := fun j hj => by
        rw [hc j (by omega)]; simp [bv, List.getD, List.getElem?_eq_getElem (show j < A.length by omega)]
      have hcB : ∀ j, j < n → w.cell? ⟨b', off' + j, none⟩ = some (.int .u8 (B.getD j 0).toNat) := fun j hj => by
        rw [hc' j (by omega)]; simp [bv, List.getD, List.getElem?_eq_getElem (show j < B.length by omega)]
      clear hc hc'
      have hnm : n ≤ 9223372036854775807 := by unfold maxLen at hm; omega
      have HA := Lib.hid hn'; have HB := Lib.hid hlb
      clear hn' hlb hm hm'
      go_enter Try.func30, Try.ntmps30
      go_wp2
      go_loopw [5] (fun i wr => ∃ k : Nat, k ≤ n ∧ i = .int .i64 k ∧ Hid (A.take k = B.take k) ∧ ∃ m, wr = w.drewN m) (fun i _ => n - (intOf i).toNat)
      case atStart => exact ⟨0, by omega, rfl, Lib.hid rfl, 0, rfl⟩
      case round =>
        obtain ⟨k, hk, rfl, heq, m, rfl⟩ := hrel
        by_cases hlt : k < n
        · have h0 := hcA k hlt
          have h0' := hcB k hlt
          have hA1 : A.take (k + 1) = A.take k ++ [A.getD k 0] := by
            rw [List.take_succ_eq_append_getElem (by have := HA.out; omega)]; simp [List.getD, List.getElem?_eq_getElem (show k < A.length by have := HA.out; omega)]
          have hB1 : B.take (k + 1) = B.take k ++ [B.getD k 0] := by
            rw [List.take_succ_eq_append_getElem (by have := HB.out; omega)]; simp [List.getD, List.getElem?_eq_getElem (show k < B.length by have := HB.out; omega)]
          obtain ⟨x, hx⟩ : ∃ x, x = A.getD k 0 := ⟨_, rfl⟩
          obtain ⟨y, hy⟩ : ∃ y, y = B.getD k 0 := ⟨_, rfl⟩
          rw [← hx] at h0 hA1
          rw [← hy] at h0' hB1
          clear hcA hcB hx hy
          by_cases hxy : x = y
          · subst hxy
            have heq1 := Lib.hid (show A.take (k + 1) = B.take (k + 1) by rw [hA1, hB1, heq.out])
            clear hA1 hB1
            go_wp2_with fail
            go_quiet (fail)
            go_wp2
            go_roundw
            case rel => exact ⟨k + 1, by omega, by go_num, heq1, _, rfl⟩
            case measure => simp [intOf]; omega
          · have hne : ((x.toNat : Int) != (y.toNat : Int)) = true := by
              rw [bne_iff_ne]; intro h; exact hxy (UInt8.toNat_inj.1 (by omega))
            have hf := Lib.hid (show sameB A B = false by
              refine sameB_ne fun h => hxy ?_
              have := congrArg (List.take (k + 1)) h
              rw [hA1, hB1, heq.out] at this
              simpa using this)
            clear hA1 hB1 hxy
            go_wp2_with fail
            go_quiet (fail)
            go_wp2
            go_ret
            exact ⟨ret_bool hf.out.symm, m + nq, World.drewN_drewN ..⟩
        · have hkn := Lib.hid (show k = n by omega)
          go_wp2
          go_ret
          refine ⟨ret_bool (sameB_eq ?_).symm, _, rfl⟩
          have := heq.out
          rwa [hkn.out, List.take_of_length_le (by have := HA.out; omega), List.take_of_length_le (by have := HB.out; omega)] at this
  · obtain ⟨ao, cap, rfl, hA1, hA2, _⟩ := hA
    obtain ⟨ao', cap', rfl, hB1, hB2, _⟩ := hB
    have hne : ((A.length : Int) != (B.length : Int)) = true := by rw [bne_iff_ne]; omega
    have hf := Lib.hid (sameB_ne (fun h => hl (by rw [h]) : A ≠ B))
    clear hl
    go_enter Try.func30, Try.ntmps30
    go_wp2
    go_ret
    exact ⟨ret_bool hf.out.symm, 0, rfl⟩
end Go.Proofs.Ytcbbcihfooaggaa
namespace Go.Proofs.Ytcbbcihfooaggaa
set_option linter.unusedVariables false
def secAt (K : List UInt8) (a : Nat) : List UInt8 := (K.drop (64 * a)).take 64
def putSec (K : List UInt8) (a : Nat) (b : List UInt8) : List UInt8 := K.take (64 * a) ++ b ++ K.drop (64 * a + 64)
def full64 (b : List UInt8) : List UInt8 := b ++ List.replicate (64 - b.length) 0
theorem full64_length (b : List UInt8) (h : b.length ≤ 64) : (full64 b).length = 64 := by simp [full64]; omega
theorem secAt_length (K : List UInt8) (s a : Nat) (hK : K.length = 64 * s) (ha : a < s) : (secAt K a).length = 64 := by simp [secAt, hK]; omega
theorem putSec_length (K : List UInt8) (s a : Nat) (b : List UInt8) (hK : K.length = 64 * s) (ha : a < s) (hb : b.length = 64) : (putSec K a b).length = 64 * s := by
  simp [putSec, hK, hb]
  omega
theorem putSec_get (K : List UInt8) (s a : Nat) (b : List UInt8) (hK : K.length = 64 * s) (ha : a < s) (hb : b.length = 64) (j : Nat) :
    (putSec K a b)[j]? = if j / 64 = a then b[j % 64]? else K[j]? := by
  have h1 : (K.take (64 * a)).length = 64 * a := by simp [hK]; omega
  rw [putSec, List.append_assoc]
  by_cases h : j < 64 * a
  · rw [List.getElem?_append_left (by rw [h1]; exact h), if_neg (by omega), List.getElem?_take, if_pos h]
  · rw [List.getElem?_append_right (by rw [h1]; omega), h1]
    by_cases h2 : j < 64 * a + 64
    · rw [List.getElem?_append_left (by omega), if_pos (by omega), show j % 64 = j - 64 * a by omega]
    · rw [List.getElem?_append_right (by omega), if_neg (by omega), List.getElem?_drop, hb]
      congr 1
      omega
theorem secAt_get (K : List UInt8) (a j : Nat) (hj : j < 64) : (secAt K a)[j]? = K[64 * a + j]? := by
  rw [secAt, List.getElem?_take, if_pos hj, List.getElem?_drop]
theorem secAt_put (K : List UInt8) (s a : Nat) (b : List UInt8) (hK : K.length = 64 * s) (ha : a < s) (hb : b.length = 64) (c : Nat) (hc : c < s) :
    secAt (putSec K a b) c = if c = a then b else secAt K c := by
  apply List.ext_getElem?
  intro j
  by_cases hj : j < 64
  · rw [secAt_get _ _ _ hj, putSec_get K s a b hK ha hb]
    have e1 : (64 * c + j) / 64 = c := by omega
    have e2 : (64 * c + j) % 64 = j := by omega
    rw [e1, e2]
    by_cases h : c = a
    · rw [if_pos h, if_pos h]
    · rw [if_neg h, if_neg h, secAt_get _ _ _ hj]
  · have l1 := secAt_length (putSec K a b) s c (putSec_length K s a b hK ha hb) hc
    rw [List.getElem?_eq_none (by omega)]
    split
    · rw [List.getElem?_eq_none (by omega)]
    · rw [List.getElem?_eq_none (by rw [secAt_length K s c hK hc]; omega)]
abbrev Pend := Nat × List UInt8
def Pends (s : Nat) (W : List Pend) : Prop := ∀ p ∈ W, p.1 < s ∧ p.2.length = 64
def wakeL (f : Nat → Bool) : Nat → List Pend → List UInt8 → List UInt8
  | _, [], K => K
  | i, p :: W, K => wakeL f (i + 1) W (if f i = true then putSec K p.1 p.2 else K)
def lastL (f : Nat → Bool) (a : Nat) : Nat → List Pend → List UInt8 → List UInt8
  | _, [], x => x
  | i, p :: W, x => lastL f a (i + 1) W (if f i = true ∧ a = p.1 then p.2 else x)
theorem wakeL_length (f : Nat → Bool) (s : Nat) : ∀ (W : List Pend) (i : Nat) (K : List UInt8), Pends s W → K.length = 64 * s → (wakeL f i W K).length = 64 * s
  | [], _, K, _, hK => hK
  | p :: W, i, K, hW, hK => by
    have hp := hW p (by simp)
    refine wakeL_length f s W (i + 1) _ (fun q hq => hW q (by simp [hq])) ?_
    split
    · exact putSec_length K s p.1 p.2 hK hp.1 hp.2
    · exact hK
theorem wakeL_sec (f : Nat → Bool) (s a : Nat) (ha : a < s) : ∀ (W : List Pend) (i : Nat) (K : List UInt8), Pends s W → K.length = 64 * s → secAt (wakeL f i W K) a = lastL f a i W (secAt K a)
  | [], _, K, _, _ => rfl
  | p :: W, i, K, hW, hK => by
    have hp := hW p (by simp)
    rw [wakeL, lastL]
    by_cases h : f i = true
    · rw [if_pos h, wakeL_sec f s a ha W (i + 1) _ (fun q hq => hW q (by simp [hq])) (putSec_length K s p.1 p.2 hK hp.1 hp.2), secAt_put K s p.1 p.2 hK hp.1 hp.2 a ha]
      by_cases h2 : a = p.1
      · rw [if_pos h2, if_pos ⟨h, h2⟩]
      · rw [if_neg h2, if_neg (fun hh => h2 hh.2)]
    · rw [if_neg h, if_neg (fun hh => h hh.1)]
      exact wakeL_sec f s a ha W (i + 1) K (fun q hq => hW q (by simp [hq])) hK
def bitOf (keep : Int) (i : Nat) : Bool := decide (keep / 2 ^ (i % 62) % 2 = 1)
theorem bits_all : ∀ k : Fin 62, (-1 : Int) / 2 ^ k.val % 2 = 1 := by decide +kernel
theorem bitOf_all (i : Nat) : bitOf (-1) i = true := by
  rw [bitOf, decide_eq_true_iff]
  exact bits_all ⟨i % 62, Nat.mod_lt _ (by decide)⟩
structure Dv where
  all : List UInt8
  waits : List Pend
  deeds : Nat
  left : Nat
  down : Bool
structure Dv.Right (d : Dv) (s : Nat) : Prop where
  all : d.all.length = 64 * s
  waits : Pends s d.waits
def Dv.seen (d : Dv) (a : Nat) : List UInt8 := lastL (fun _ => true) a 0 d.waits (secAt d.all a)
def Dv.deed (d : Dv) : Bool × Dv := if d.left = 1 then (false, { d with left := 0, down := true }) else (true, { d with left := d.left - 1, deeds := d.deeds + 1 })
def Dv.write (d : Dv) (s : Nat) (a : Int) (b : List UInt8) : Int × Dv :=
  if d.down = true then (10, d) else if a < 0 ∨ (s : Int) ≤ a ∨ 64 < b.length then (2, d) else
    match d.deed with
    | (false, d) => (10, d)
    | (true, d) => (0, { d with waits := d.waits ++ [(a.toNat, full64 b)] })
def Dv.flush (d : Dv) : Int × Dv :=
  if d.down = true then (10, d) else
    match d.deed with
    | (false, d) => (10, d)
    | (true, d) => (0, { d with all := wakeL (fun _ => true) 0 d.waits d.all, waits := [] })
def Dv.crash (d : Dv) : Int × Dv := if d.down = true then (10, d) else (0, { d with down := true })
def Dv.wake (d : Dv) (keep : Int) : Int × Dv := if d.down = true then (0, { d with all := wakeL (bitOf keep) 0 d.waits d.all, waits := [], left := 0, down := false }) else (15, d)
theorem Dv.Right.write {d : Dv} {s : Nat} (h : d.Right s) (a : Int) (b : List UInt8) : (d.write s a b).2.Right s := by
  unfold Dv.write
  split
  · exact h
  · split
    · exact h
    · next hn =>
      unfold Dv.deed
      by_cases hl : d.left = 1
      · simp only [if_pos hl]
        exact ⟨h.all, h.waits⟩
      · simp only [if_neg hl]
        refine ⟨h.all, fun p hp => ?_⟩
        rcases List.mem_append.1 hp with hp | hp
        · exact h.waits p hp
        · obtain rfl := List.mem_singleton.1 hp
          exact ⟨by simp only; omega, full64_length b (by omega)⟩
theorem Dv.Right.flush {d : Dv} {s : Nat} (h : d.Right s) : d.flush.2.Right s := by
  unfold Dv.flush
  split
  · exact h
  · unfold Dv.deed
    by_cases hl : d.left = 1
    · simp only [if_pos hl]
      exact ⟨h.all, h.waits⟩
    · simp only [if_neg hl]
      exact ⟨wakeL_length _ s d.waits 0 d.all h.waits h.all, fun p hp => by cases hp⟩
theorem Dv.Right.wake {d : Dv} {s : Nat} (h : d.Right s) (keep : Int) : (d.wake keep).2.Right s := by
  unfold Dv.wake
  split
  · exact ⟨wakeL_length _ s d.waits 0 d.all h.waits h.all, fun p hp => by cases hp⟩
  · exact h
theorem Dv.Right.crash {d : Dv} {s : Nat} (h : d.Right s) : d.crash.2.Right s := by
  unfold Dv.crash
  split
  · exact h
  · exact ⟨h.all, h.waits⟩
end Go.Proofs.Ytcbbcihfooaggaa
namespace Go.Proofs.Ytcbbcihfooaggaa
open Go.RowKit Go.ChangeShapes
set_option linter.unusedVariables false
theorem cell_put {w : World} {b i : Nat} {c : Array Value} {t : TypeId} {z : Nat × Nat} (u : Value) (h : w.heap[b]? = some (.cells c t z)) :
    (w.setCell ⟨b, i, none⟩ u).heap[b]? = some (.cells (c.setIfInBounds i u) t z) := by
  simp only [World.setCell, Array.getElem?_modify, h]
  simp
theorem Fr.cell1 (w : World) (b i : Nat) (u : Value) : Fr (· = b) w (w.setCell ⟨b, i, none⟩ u) := (Fr.refl (· = b) w).setCell (p := ⟨b, i, none⟩) (.inl rfl) u
end Go.Proofs.Ytcbbcihfooaggaa
namespace Go.Proofs.Ytcbbcihfooaggaa
open Go.RowKit Go.ChangeShapes
set_option linter.unusedVariables false
def DvH (w : World) (g kb s : Nat) (vw : Value) (k l : Int) (dn : Bool) : Prop :=
  w.heap[g]? = some (.cells #[.int .i64 k, .int .i64 l, .bool dn, vw, .slice (some ⟨kb, 0, none⟩) s s, .pointer (some ⟨g, 0, none⟩)] 94 (0, 0))
section
variable {S : Nat → Prop} {w w' : World} {g kb s : Nat} {vw : Value} {k l : Int} {dn : Bool}
theorem DvH.keep (h : DvH w g kb s vw k l dn) (hf : Fr S w w') (hg : ¬ S g) : DvH w' g kb s vw k l dn := hf.heap h hg
theorem DvH.cells (h : DvH w g kb s vw k l dn) :
    w.cell? ⟨g, 0, none⟩ = some (.int .i64 k) ∧ w.cell? ⟨g, 1, none⟩ = some (.int .i64 l) ∧ w.cell? ⟨g, 2, none⟩ = some (.bool dn) ∧ w.cell? ⟨g, 3, none⟩ = some vw ∧ w.cell? ⟨g, 4, none⟩ = some (.slice (some ⟨kb, 0, none⟩) s s) ∧ w.cell? ⟨g, 5, none⟩ = some (.pointer (some ⟨g, 0, none⟩)) := by
  refine ⟨?_, ?_, ?_, ?_, ?_, ?_⟩ <;> exact cell_of_row _ _ _ _ _ _ h
theorem DvH.free (h : DvH w g kb s vw k l dn) (i : Nat) : w.frozen? ⟨g, i, none⟩ = false := frozen_of_row _ _ _ _ _ h
theorem DvH.put0 (h : DvH w g kb s vw k l dn) (k' : Int) : DvH (w.setCell ⟨g, 0, none⟩ (.int .i64 k')) g kb s vw k' l dn := cell_put _ h
theorem DvH.put1 (h : DvH w g kb s vw k l dn) (l' : Int) : DvH (w.setCell ⟨g, 1, none⟩ (.int .i64 l')) g kb s vw k l' dn := cell_put _ h
theorem DvH.put2 (h : DvH w g kb s vw k l dn) (b : Bool) : DvH (w.setCell ⟨g, 2, none⟩ (.bool b)) g kb s vw k l b := cell_put _ h
theorem DvH.put3 (h : DvH w g kb s vw k l dn) (v : Value) : DvH (w.setCell ⟨g, 3, none⟩ v) g kb s v k l dn := cell_put v h
theorem DvH.lt (h : DvH w g kb s vw k l dn) : g < w.heap.size := lt_of_block h
end
theorem run_eql_dev (w : World) (a : Addr) : (binOp .eql 43 (.pointer (some a)) (.pointer (some a))).run Try.prog w = .ok (.bool true) w := by
  have hi : (Try.prog.info? 94).isSome = true := by kernel_rfl
  obtain ⟨j, hte⟩ := Option.isSome_iff_exists.1 hi
  exact run_eql_ptr_same (P := Try.prog) w a Try.underlying43 hte
theorem dIs_yes (w : World) (g kb s : Nat) (vw : Value) (k l : Int) (dn : Bool) (h : DvH w g kb s vw k l dn) :
    Calls Try.prog 58 #[.pointer (some ⟨g, 0, none⟩)] w fun e w' => e = .returned (.bool true) ∧ w = w' := by
  have heq := run_eql_dev
  obtain ⟨_, _, _, _, _, h5⟩ := h.cells
  clear h
  go_enter Try.func58, Try.ntmps58
  go_wp2
  go_ret
  exact ⟨rfl, rfl⟩
theorem dReady_any (w : World) (g kb s : Nat) (vw : Value) (k l : Int) (dn : Bool) (h : DvH w g kb s vw k l dn) :
    Calls Try.prog 46 #[.pointer (some ⟨g, 0, none⟩)] w fun e w' => e = .returned (.int .i64 (if dn = true then 10 else 0)) ∧ w = w' := by
  have hc := dIs_yes w g kb s vw k l dn h
  obtain ⟨_, _, h2, _⟩ := h.cells
  clear h
  cases dn with
  | true =>
    go_enter Try.func46, Try.ntmps46
    go_wp2_with (go_at_call 58; refine hc.mono ?_; rintro e w1 ⟨rfl, rfl⟩)
    go_ret
    exact ⟨rfl, rfl⟩
  | false =>
    go_enter Try.func46, Try.ntmps46
    go_wp2_with (go_at_call 58; refine hc.mono ?_; rintro e w1 ⟨rfl, rfl⟩)
    go_ret
    exact ⟨rfl, rfl⟩
theorem dFall_any (w : World) (g kb s : Nat) (vw : Value) (k l : Int) (dn : Bool) (h : DvH w g kb s vw k l dn) :
    Calls Try.prog 64 #[.pointer (some ⟨g, 0, none⟩)] w fun e w' => e = .returned (.tuple #[]) ∧ DvH w' g kb s vw k l true ∧ Fr (· = g) w w' := by
  obtain ⟨_, _, h2, _⟩ := h.cells
  have hf := h.free 2
  have H := Lib.hid h
  clear h
  go_enter Try.func64, Try.ntmps64
  go_wp2
  refine bodyPost_end (results_none rfl _ _ _) rfl ?_
  exact ⟨rfl, H.out.put2 true, Fr.cell1 _ _ _ _⟩
theorem dRise_any (w : World) (g kb s : Nat) (vw : Value) (k l : Int) (dn : Bool) (h : DvH w g kb s vw k l dn) :
    Calls Try.prog 60 #[.pointer (some ⟨g, 0, none⟩)] w fun e w' => e = .returned (.tuple #[]) ∧ DvH w' g kb s vw k 0 false ∧ Fr (· = g) w w' := by
  obtain ⟨_, h1, h2, _⟩ := h.cells
  have hf := h.free 2
  have hf1 := h.free 1
  have H := Lib.hid h
  clear h
  go_enter Try.func60, Try.ntmps60
  go_wp2
  refine bodyPost_end (results_none rfl _ _ _) rfl ?_
  exact ⟨rfl, (H.out.put2 false).put1 0, (Fr.cell1 _ _ _ _).trans (Fr.cell1 _ _ _ _) (fun _ h => .inl h)⟩
theorem dDeed_any (w : World) (g kb s : Nat) (vw : Value) (k l : Int) (dn : Bool) (hk0 : 0 ≤ k) (hk : k ≤ 1000000000) (hl0 : 0 ≤ l) (hl : l ≤ 9223372036854775807) (h : DvH w g kb s vw k l dn) :
    Calls Try.prog 74 #[.pointer (some ⟨g, 0, none⟩)] w fun e w' => e = .returned (.bool (decide (l ≠ 1))) ∧ DvH w' g kb s vw (if l = 1 then k else k + 1) (if l = 0 ∨ l = 1 then l else l - 1) (if l = 1 then true else dn) ∧ Fr (· = g) w w' := by
  obtain ⟨h0, h1, h2, _⟩ := h.cells
  have hf0 := h.free 0
  have hf1 := h.free 1
  have H := Lib.hid h
  by_cases e1 : l = 1
  · subst e1
    have hc := Lib.hid (dFall_any w g kb s vw k 1 dn h)
    clear h
    go_enter Try.func74, Try.ntmps74
    go_wp2_with (go_at_call 64; refine hc.out.mono ?_; rintro e w1 ⟨rfl, hh, hf⟩; (have HS := Lib.hid (And.intro hh hf)); clear hh hf)
    go_ret
    exact ⟨rfl, HS.out.1, HS.out.2⟩
  · clear h
    by_cases e0 : l = 0
    · subst e0
      go_enter Try.func74, Try.ntmps74
      go_wp2
      go_ret
      exact ⟨rfl, H.out.put0 _, Fr.cell1 _ _ _ _⟩
    · have hn : decide (l ≠ 1) = true := by rw [decide_eq_true_iff]; exact e1
      rw [hn, if_neg e1, if_neg (by omega), if_neg e1]
      have hd1 : (l == 1) = false := by rw [beq_eq_false_iff_ne]; exact e1
      have hd0 : (l == 0) = false := by rw [beq_eq_false_iff_ne]; exact e0
      go_enter Try.func74, Try.ntmps74
      go_wp2
      go_ret
      exact ⟨rfl, (H.out.put1 _).put0 _, (Fr.cell1 _ _ _ _).trans (Fr.cell1 _ _ _ _) (fun _ h => .inl h)⟩
theorem dHas_any (w : World) (g kb s : Nat) (vw : Value) (k l : Int) (dn : Bool) (a : Int) (h : DvH w g kb s vw k l dn) :
    Calls Try.prog 73 #[.pointer (some ⟨g, 0, none⟩), .int .i64 a] w fun e w' => e = .returned (.bool (decide (0 ≤ a ∧ a < (s : Int)))) ∧ w = w' := by
  obtain ⟨_, _, _, _, h4, _⟩ := h.cells
  clear h
  by_cases h0 : 0 ≤ a
  · have hd : decide (0 ≤ a) = true := by rw [decide_eq_true_iff]; exact h0
    by_cases h1 : a < (s : Int)
    · have hd1 : decide (a < (s : Int)) = true := by rw [decide_eq_true_iff]; exact h1
      rw [show decide (0 ≤ a ∧ a < (s : Int)) = true by rw [decide_eq_true_iff]; exact ⟨h0, h1⟩]
      go_enter Try.func73, Try.ntmps73
      go_wp2
      go_ret
      exact ⟨rfl, rfl⟩
    · have hd1 : decide (a < (s : Int)) = false := by rw [decide_eq_false_iff_not]; exact h1
      rw [show decide (0 ≤ a ∧ a < (s : Int)) = false by rw [decide_eq_false_iff_not]; exact fun h => h1 h.2]
      go_enter Try.func73, Try.ntmps73
      go_wp2
      go_ret
      exact ⟨rfl, rfl⟩
  · have hd : decide (0 ≤ a) = false := by rw [decide_eq_false_iff_not]; exact h0
    rw [show decide (0 ≤ a ∧ a < (s : Int)) = false by rw [decide_eq_false_iff_not]; exact fun h => h0 h.1]
    go_enter Try.func73, Try.ntmps73
    go_wp2
    go_ret
    exact ⟨rfl, rfl⟩
theorem dCrash_any (w : World) (g kb s : Nat) (vw : Value) (k l : Int) (dn : Bool) (h : DvH w g kb s vw k l dn) :
    Calls Try.prog 38 #[.pointer (some ⟨g, 0, none⟩)] w fun e w' => e = .returned (.int .i64 (if dn = true then 10 else 0)) ∧ DvH w' g kb s vw k l true ∧ Fr (· = g) w w' := by
  have hc := dReady_any w g kb s vw k l dn h
  have hd := Lib.hid (dFall_any w g kb s vw k l dn h)
  have H := Lib.hid h
  clear h
  cases dn with
  | true =>
    go_enter Try.func38, Try.ntmps38
    go_wp2_with (go_at_call 46; refine hc.mono ?_; rintro e w1 ⟨rfl, rfl⟩)
    go_ret
    exact ⟨rfl, H.out, Fr.refl _ _⟩
  | false =>
    go_enter Try.func38, Try.ntmps38
    go_wp2_with (first | (go_at_call 46; refine hc.mono ?_; rintro e w1 ⟨rfl, rfl⟩) | (go_at_call 64; refine hd.out.mono ?_; rintro e w1 ⟨rfl, hh, hf⟩; (have HS := Lib.hid (And.intro hh hf)); clear hh hf))
    go_ret
    exact ⟨rfl, HS.out.1, HS.out.2⟩
end Go.Proofs.Ytcbbcihfooaggaa
namespace Go.Proofs.Ytcbbcihfooaggaa
open Go.RowKit Go.ChangeShapes
set_option linter.unusedVariables false
theorem Fr.one (w : World) (b i : Nat) (u : Value) : Fr (· = b) w (w.setCell ⟨b, i, none⟩ u) := (Fr.refl (· = b) w).setCell (p := ⟨b, i, none⟩) (.inl rfl) u
theorem Fr.two (w : World) (b i j : Nat) (u v : Value) : Fr (· = b) w ((w.setCell ⟨b, i, none⟩ u).setCell ⟨b, j, none⟩ v) := (Fr.one w b i u).setCell (p := ⟨b, j, none⟩) (.inl rfl) _
theorem BytesIn.drop {F : Nat → Prop} {w : World} {ao : Option Addr} {cap : Nat} {X : List UInt8} (h : BytesIn F w (.slice ao X.length cap) X) (n : Nat) (hn : n ≤ X.length) (b off : Nat) (ha : ao = some ⟨b, off, none⟩) :
    BytesIn F w (.slice (some ⟨b, off + n, none⟩) (X.length - n) (cap - n)) (X.drop n) := by
  obtain ⟨ao', cap', hv, h1, hm, h2, h3⟩ := h
  simp only [Value.slice.injEq] at hv
  obtain ⟨rfl, _, rfl⟩ := hv
  refine ⟨some ⟨b, off + n, none⟩, cap - n, by rw [List.length_drop], by rw [List.length_drop]; omega, by omega, (fun h => by cases h), ?_⟩
  intro a hab
  cases hab
  refine ⟨fun j u hu => ?_, fun hX => (h3 _ ha).2 (fun h => by subst h; simp at hX)⟩
  have := (h3 _ ha).1 (n + j) u (by rw [← hu, List.getElem?_map, List.getElem?_map, List.getElem?_drop])
  rw [addr_plain] at this ⊢
  rwa [Nat.add_assoc]
end Go.Proofs.Ytcbbcihfooaggaa
namespace Go.Proofs.Ytcbbcihfooaggaa
open Go.RowKit Go.ChangeShapes
set_option linter.unusedVariables false
def cutLow (ao : Option Addr) (n cap : Nat) : Option Addr := if cap = n then ao else ao.map (·.add n)
theorem run_cutLow (w : World) (ao : Option Addr) (l cap n : Nat) (hn : n ≤ l) :
    (Instr.slice 40 (.slice ao l cap) (some (.int .i64 (n : Int))) none none).run Try.prog w = .ok (.slice (cutLow ao n cap) (l - n) (cap - n)) w := by
  have hs : ∀ w, (sizeOf 5).run Try.prog w = .ok 1 w := fun w => by kernel_rfl
  simp [Instr.slice, run_underlying Try.underlying40, Instr.sliceBounds, run_sliceBound, hs, cutLow, hn]
theorem BytesIn.cutLow {F : Nat → Prop} {w : World} {ao : Option Addr} {l cap : Nat} {X : List UInt8} (h : BytesIn F w (.slice ao l cap) X) (n : Nat) (hn : n ≤ X.length) :
    BytesIn F w (.slice (cutLow ao n cap) (l - n) (cap - n)) (X.drop n) := by
  obtain ⟨ao', cap', hv, h1, hm, h2, h3⟩ := h
  simp only [Value.slice.injEq] at hv
  obtain ⟨rfl, rfl, rfl⟩ := hv
  unfold Ytcbbcihfooaggaa.cutLow
  refine ⟨_, cap - n, by rw [List.length_drop], by rw [List.length_drop]; omega, by omega, ?_, ?_⟩
  · intro h
    split at h
    · omega
    · have := h2 (by simpa using h); omega
  · intro a ha
    split at ha
    · rename_i hc
      obtain hX : X.drop n = [] := List.drop_eq_nil_of_le (by omega)
      rw [hX]
      exact ⟨fun j u hu => by simp at hu, fun h => absurd rfl h⟩
    · cases ao with
      | none => cases ha
      | some a0 =>
        simp only [Option.map_some, Option.some.injEq] at ha
        subst ha
        refine ⟨fun j u hu => ?_, fun hX => by rw [add_block]; exact (h3 _ rfl).2 (fun h => by subst h; simp at hX)⟩
        have := (h3 _ rfl).1 (n + j) u (by rw [← hu, List.getElem?_map, List.getElem?_map, List.getElem?_drop])
        rwa [Go.Deep.add_add]
theorem BytesIn.take {F : Nat → Prop} {w : World} {ao : Option Addr} {l cap : Nat} {X : List UInt8} (h : BytesIn F w (.slice ao l cap) X) (n : Nat) (hn : n ≤ X.length) :
    BytesIn F w (.slice ao n cap) (X.take n) := by
  obtain ⟨ao', cap', hv, h1, hm, h2, h3⟩ := h
  simp only [Value.slice.injEq] at hv
  obtain ⟨rfl, _, rfl⟩ := hv
  have hl : (X.take n).length = n := by rw [List.length_take]; omega
  refine ⟨ao, cap, by rw [hl], by omega, hm, h2, fun a ha => ⟨fun j u hu => (h3 a ha).1 j u ?_, fun hX => (h3 a ha).2 (fun h => by subst h; simp at hX)⟩⟩
  rw [← hu, List.map_take, List.getElem?_take]
  have hj : j < n := by have := (List.getElem?_eq_some_iff.1 hu).1; simp at this; omega
  rw [if_pos hj]
end Go.Proofs.Ytcbbcihfooaggaa
namespace Go.Proofs.Ytcbbcihfooaggaa
open Go.RowKit Go.ChangeShapes
set_option linter.unusedVariables false
theorem Fr.setRow {S : Nat → Prop} {a w : World} {g : Nat} (h : Fr S a w) (hg : S g ∨ a.heap.size ≤ g) (cs : Array Value) : Fr S a (w.setRow g cs) :=
  ⟨h.os, h.tape, h.output, by simpa using h.size, fun i hi hs => by
    rw [setRow_other _ _ _ _ (by rintro rfl; rcases hg with h1 | h1; exact hs h1; omega), h.block i hi hs]⟩
theorem wpList_store_row {P : Program} {ops : Array Oper} {rest : List Oper} {op : Oper} {a : Act} {w : World} {Q : Exit → Act → World → Prop} (hgd : op.guard = none) (ty : TypeId) (x y : Operand) (ho : op.op = .store ty x y)
    (g : Nat) (cells old : Array Value) (t : TypeId) (hx : a.eval x = .pointer (some ⟨g, 0, none⟩)) (hy : a.eval y = .agg cells)
    (hg : w.heap[g]? = some (.cells old t (0, 0))) (hi : (P.info? ty).map (·.size) = some cells.size) (hs : old.size = cells.size) (h1 : cells.all (·.oneCell') = true)
    (h : wpList P ops Q rest (a.put op.dst undef) (w.setRow g cells)) : wpList P ops Q (op :: rest) a w :=
  wpList_plain hgd fun _ hK => by
    unfold Oper.wp execOp
    simp only [ho, hx, hy, Instr.storeAt, Instr.sureAddr, Sem.run_bind, Sem.run_pure, Result.andThen_ok, run_storeVar_row w g t ty old cells hg hi hs h1]
    exact hK _ _ h
def BytT (w : World) (g : Nat) (T : TypeId) (L : List UInt8) : Prop := w.heap[g]? = some (.cells (L.map bv).toArray T (0, 0))
theorem BytT.cell {w : World} {g : Nat} {T : TypeId} {L : List UInt8} (h : BytT w g T L) (i : Nat) (hi : i < L.length) : w.cell? ⟨g, i, none⟩ = some (.int .u8 (L.getD i 0).toNat) := by
  rw [cell_of_row _ _ _ _ _ _ h, List.getElem?_toArray, List.getElem?_map, List.getD_eq_getElem?_getD, List.getElem?_eq_getElem hi]
  rfl
theorem BytT.free {w : World} {g : Nat} {T : TypeId} {L : List UInt8} (h : BytT w g T L) (i : Nat) : w.frozen? ⟨g, i, none⟩ = false := frozen_of_row _ _ _ _ _ h
theorem BytT.keep {S : Nat → Prop} {w w' : World} {g : Nat} {T : TypeId} {L : List UInt8} (h : BytT w g T L) (hf : Fr S w w') (hg : ¬ S g) : BytT w' g T L := hf.heap h hg
theorem BytT.lt {w : World} {g : Nat} {T : TypeId} {L : List UInt8} (h : BytT w g T L) : g < w.heap.size := lt_of_block h
end Go.Proofs.Ytcbbcihfooaggaa
