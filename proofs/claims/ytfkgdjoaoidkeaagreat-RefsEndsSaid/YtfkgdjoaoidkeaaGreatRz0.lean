/- Laid together: Let Base Kit Bits Cur Clone Arr RLet RLetters -/
import Derived.Test.YtfkgdjoaoidkeaaGreatRows
import Derived.WalkKit
import Derived.Maps.AppendAt
import Derived.Laws.OwnMore
import Derived.WalkSmall
import Derived.Deep.Draws
import Derived.WalkLawsBesides
import Derived.WalkSpells
import Derived.Deep.QuietTactic
import Derived.BigQuiet
import Derived.Outline
import Derived.Lib.Hide
import Derived.Lib.SliceRun
import Derived.Deep.Slices
import Derived.Laws.Rows
import Derived.Deep.WholeRow
import Derived.Laws.MakeOwn
import Derived.Laws.IdiomStrings

namespace Go.Proofs.YtfkgdjoaoidkeaaGreat
def abc : List UInt8 := [48, 49, 50, 51, 52, 53, 54, 55, 56, 57, 97, 98, 99, 100, 102, 103, 104, 105, 106, 107, 108, 109, 110, 112, 113, 114, 115, 118, 119, 120, 121, 122]
def bitN (H : List UInt8) (i : Nat) : Nat := (H.getD (i / 8) 0).toNat / 2 ^ (i % 8) % 2
theorem bitN_lt (H : List UInt8) (i : Nat) : bitN H i < 2 := Nat.mod_lt _ (by decide)
def fiveFrom (H : List UInt8) (i : Nat) : Nat → Nat
  | 0 => 0
  | k + 1 => 2 * fiveFrom H i k + bitN H (5 * i + (4 - k))
theorem fiveFrom_lt (H : List UInt8) (i k : Nat) : fiveFrom H i k < 2 ^ k := by
  induction k with
  | zero => simp [fiveFrom]
  | succ k ih =>
    have := bitN_lt H (5 * i + (4 - k))
    rw [fiveFrom, Nat.pow_succ]
    omega
def five (H : List UInt8) (i : Nat) : Nat := fiveFrom H i 5
theorem five_lt (H : List UInt8) (i : Nat) : five H i < 32 := fiveFrom_lt H i 5
def letL (H : List UInt8) : List UInt8 := (List.range 32).map fun i => abc.getD (five H i) 0
theorem letL_length (H : List UInt8) : (letL H).length = 32 := by simp [letL]
theorem letL_get (H : List UInt8) (i : Nat) (h : i < 32) : (letL H).getD i 0 = abc.getD (five H i) 0 := by
  rw [List.getD_eq_getElem?_getD, List.getElem?_eq_getElem (by rw [letL_length]; exact h)]
  simp [letL]
theorem letL_take_succ (H : List UInt8) (i : Nat) (h : i < 32) : (letL H).take (i + 1) = (letL H).take i ++ [abc.getD (five H i) 0] := by
  rw [List.take_succ_eq_append_getElem (by rw [letL_length]; exact h)]
  simp [letL]
def valL : List UInt8 → Nat → UInt8 → Int
  | [], _, _ => -1
  | x :: r, i, c => if x = c then i else valL r (i + 1) c
def valI (c : UInt8) : Int := valL abc 0 c
end Go.Proofs.YtfkgdjoaoidkeaaGreat
namespace Go.Proofs.YtfkgdjoaoidkeaaGreat
open Go.RowKit
def bv (x : UInt8) : Value := .int .u8 x.toNat
theorem bv_one (L : List UInt8) : ∀ u ∈ L.map bv, u.oneCell' = true := by
  intro u hu
  obtain ⟨x, _, rfl⟩ := List.mem_map.1 hu
  rfl
structure Fr (S : Nat → Prop) (w w' : World) : Prop where
  os : w'.os = w.os
  tape : w'.tape = w.tape
  output : w'.output = w.output
  size : w.heap.size ≤ w'.heap.size
  block : ∀ k, k < w.heap.size → ¬ S k → w'.heap[k]? = w.heap[k]?
theorem Fr.refl (S : Nat → Prop) (w : World) : Fr S w w := ⟨rfl, rfl, rfl, Nat.le_refl _, fun _ _ _ => rfl⟩
theorem Fr.trans {S T : Nat → Prop} {a b c : World} (h : Fr S a b) (k : Fr T b c) (hT : ∀ i, T i → S i ∨ a.heap.size ≤ i) : Fr S a c :=
  ⟨k.os.trans h.os, k.tape.trans h.tape, k.output.trans h.output, Nat.le_trans h.size k.size, fun i hi hs => by
    rw [k.block i (Nat.lt_of_lt_of_le hi h.size) (fun ht => by rcases hT i ht with h1 | h1; exact hs h1; omega), h.block i hi hs]⟩
theorem Fr.mono {S T : Nat → Prop} {a b : World} (h : Fr S a b) (hT : ∀ i, i < a.heap.size → S i → T i) : Fr T a b :=
  ⟨h.os, h.tape, h.output, h.size, fun i hi ht => h.block i hi (fun hs => ht (hT i hi hs))⟩
theorem Fr.drew {S : Nat → Prop} {a w : World} (h : Fr S a w) : Fr S a w.drew := ⟨h.os, h.tape, h.output, h.size, h.block⟩
theorem Fr.drewN {S : Nat → Prop} {a w : World} (h : Fr S a w) (n : Nat) : Fr S a (w.drewN n) := ⟨h.os, h.tape, h.output, h.size, h.block⟩
theorem Fr.ofDrew {S : Nat → Prop} {a w : World} (h : Fr S a.drew w) : Fr S a w := ⟨h.os, h.tape, h.output, h.size, h.block⟩
theorem Fr.alloc {S : Nat → Prop} {a w : World} (h : Fr S a w) (o : Obj) : Fr S a (w.alloc o) :=
  ⟨h.os, h.tape, h.output, Nat.le_trans h.size (by simp), fun i hi hs => by rw [Below.heap_alloc _ _ _ (Nat.lt_of_lt_of_le hi h.size), h.block i hi hs]⟩
theorem Fr.setCell {S : Nat → Prop} {a w : World} (h : Fr S a w) {p : Addr} (hp : S p.block ∨ a.heap.size ≤ p.block) (u : Value) : Fr S a (w.setCell p u) :=
  ⟨h.os, h.tape, h.output, by simpa [World.setCell] using h.size, fun i hi hs => by
    rw [Below.heap_setCell _ _ _ _ (by rintro rfl; rcases hp with h1 | h1; exact hs h1; omega), h.block i hi hs]⟩
theorem Fr.grown {S : Nat → Prop} {a w w' : World} {row : Option Nat} (h : Fr S a w) (hg : w.grownBy w' row) (hr : ∀ k, row = some k → S k ∨ a.heap.size ≤ k) : Fr S a w' :=
  h.trans (T := fun k => row = some k) ⟨hg.os, hg.tape, hg.output, hg.size, fun k hk hn => hg.block k hk (fun e => hn e.symm)⟩ hr
theorem Fr.below {S : Nat → Prop} {a w : World} {B : Nat} (h : Fr S a w) (hB : B ≤ a.heap.size) (hS : ∀ k, S k → B ≤ k) : Below B a w :=
  ⟨h.os, h.tape, h.output, h.size, fun k hk => h.block k (by omega) (fun hs => by have := hS k hs; omega)⟩
theorem Fr.ofBelow {a w : World} {B : Nat} (h : Below B a w) : Fr (fun k => B ≤ k) a w :=
  ⟨h.os, h.tape, h.output, h.size, fun k _ hn => h.block k (by omega)⟩
theorem Fr.heap {S : Nat → Prop} {a w : World} {b : Nat} {o : Obj} (h : Fr S a w) (hb : a.heap[b]? = some o) (hs : ¬ S b) : w.heap[b]? = some o := by
  rw [h.block b (lt_of_block hb) hs, hb]
theorem Fr.cell {S : Nat → Prop} {a w : World} {p : Addr} {v : Value} (h : Fr S a w) (hc : a.cell? p = some v) (hs : ¬ S p.block) : w.cell? p = some v := by
  rw [World.cell?_of_block (h.block p.block (World.block_lt_of_cell? _ _ hc) hs), hc]
def BytesIn (F : Nat → Prop) (w : World) (v : Value) (L : List UInt8) : Prop :=
  ∃ ao cap, v = .slice ao L.length cap ∧ L.length ≤ cap ∧ cap ≤ maxLen ∧ (ao = none → cap = 0) ∧
    ∀ a, ao = some a → (∀ j u, (L.map bv)[j]? = some u → w.cell? (a.add j) = some u) ∧ (L ≠ [] → F a.block)
theorem add_block (a : Addr) (j : Nat) : (a.add j).block = a.block := by
  unfold Addr.add
  split <;> rfl
theorem BytesIn.keep {F S : Nat → Prop} {w w' : World} {v : Value} {L : List UInt8} (h : BytesIn F w v L) (hf : Fr S w w') (hd : ∀ k, k < w.heap.size → F k → ¬ S k) : BytesIn F w' v L := by
  obtain ⟨ao, cap, rfl, h1, hm, h2, h3⟩ := h
  refine ⟨ao, cap, rfl, h1, hm, h2, fun a ha => ⟨fun j u hu => ?_, (h3 a ha).2⟩⟩
  have hc := (h3 a ha).1 j u hu
  have hL : L ≠ [] := by rintro rfl; simp at hu
  have hb : (a.add j).block < w.heap.size := World.block_lt_of_cell? _ _ hc
  rw [add_block] at hb
  exact hf.cell hc (by rw [add_block]; exact hd _ hb ((h3 a ha).2 hL))
theorem BytesIn.drewN {F : Nat → Prop} {w : World} {v : Value} {L : List UInt8} (h : BytesIn F w v L) (n : Nat) : BytesIn F (w.drewN n) v L := h
theorem BytesIn.mono {F G : Nat → Prop} {w : World} {v : Value} {L : List UInt8} (h : BytesIn F w v L) (hd : ∀ k, k < w.heap.size → F k → G k) : BytesIn G w v L := by
  obtain ⟨ao, cap, rfl, h1, hm, h2, h3⟩ := h
  refine ⟨ao, cap, rfl, h1, hm, h2, fun a ha => ⟨(h3 a ha).1, fun hL => ?_⟩⟩
  obtain ⟨x, r, rfl⟩ := List.exists_cons_of_ne_nil hL
  exact hd _ (by simpa [Addr.add] using World.block_lt_of_cell? _ _ ((h3 a ha).1 0 (bv x) rfl)) ((h3 a ha).2 hL)
theorem BytesIn.nil (F : Nat → Prop) (w : World) : BytesIn F w (.slice none 0 0) [] := ⟨none, 0, rfl, Nat.le_refl _, by simp [maxLen], fun _ => rfl, fun a h => by cases h⟩
def OwnB (F : Nat → Prop) (w : World) (v : Value) (L : List UInt8) : Prop :=
  w.ownsRow 0 5 1 v L.length (L.map bv) ∧ ∀ g, v.ownBlock = some g → F g
theorem OwnB.nil (F : Nat → Prop) (w : World) : OwnB F w (.slice none 0 0) [] := ⟨World.ownsRow_nil _ _ _ _, fun g h => by simp [Value.ownBlock] at h⟩
theorem OwnB.keep {F S : Nat → Prop} {w w' : World} {v : Value} {L : List UInt8} (h : OwnB F w v L) (hf : Fr S w w') (hd : ∀ k, k < w.heap.size → F k → ¬ S k) : OwnB F w' v L := by
  refine ⟨⟨h.1.1, ?_⟩, h.2⟩
  rcases h.1.2 with h1 | ⟨g, cap, cur, hv, hb, hg, r⟩
  · exact .inl h1
  · exact .inr ⟨g, cap, cur, hv, hb, hf.heap hg (hd g (lt_of_block hg) (h.2 g (by rw [hv]; rfl))), r⟩
theorem OwnB.mono {F G : Nat → Prop} {w : World} {v : Value} {L : List UInt8} (h : OwnB F w v L) (hd : ∀ k, k < w.heap.size → F k → G k) : OwnB G w v L :=
  ⟨h.1, fun g hg => hd g (h.1.lt g hg).2 (h.2 g hg)⟩
theorem OwnB.bytes {F : Nat → Prop} {w : World} {v : Value} {L : List UInt8} (h : OwnB F w v L) : BytesIn F w v L := by
  rcases h.1.2 with ⟨rfl, h1⟩ | ⟨g, cap, cur, rfl, hb, hg, hn, hm, hs, ht⟩
  · obtain rfl := List.eq_nil_of_length_eq_zero h1
    exact BytesIn.nil _ _
  · refine ⟨some ⟨g, 0, none⟩, cap, rfl, hn, hm, (fun h => by cases h), ?_⟩
    intro a ha
    cases ha
    exact ⟨h.1.cells rfl, fun _ => h.2 g rfl⟩
theorem OwnB.len {F : Nat → Prop} {w : World} {v : Value} {L : List UInt8} (h : OwnB F w v L) : ∃ ao cap, v = .slice ao L.length cap := by
  obtain ⟨ao, cap, hv, _⟩ := h.bytes
  exact ⟨ao, cap, hv⟩
theorem Tryz.infoB : (Tryz.prog.info? 5).map (fun i => (i.zero, i.size, i.bytes)) = some (some (.int .u8 0), 1, 1) := by kernel_rfl
theorem run_append_bytes {F G : Nat → Prop} (w : World) (ty : TypeId) (v x : Value) (L X : List UInt8) (hown : OwnB F w v L) (hx : BytesIn G w x X) (hb : L.length + X.length ≤ 140737488355328) :
    ∃ v' w', (Builtin.append_ #[22, 22] ty #[v, x]).run Tryz.prog w = .ok v' w' ∧ OwnB (fun k => F k ∨ w.heap.size ≤ k) w' v' (L ++ X) ∧ w.grownBy w' v.ownBlock ∧ (v' = .slice none 0 0 ↔ v = .slice none 0 0 ∧ X = []) := by
  obtain ⟨i0, hi, hz0, hz1, hz2⟩ := info_parts Tryz.infoB
  obtain ⟨ao, cap, rfl, hl, hm, hn, hc⟩ := hx
  have hmx : L.length + X.length ≤ maxLen := by unfold maxLen; omega
  cases ao with
  | none =>
    obtain rfl := hn rfl
    obtain rfl : X = [] := List.eq_nil_of_length_eq_zero (by omega)
    have hr := run_append_owned_none (P := Tryz.prog) (w := w) 0 22 ty 5 i0 1 Tryz.underlying22 hi v L.length _ hown.1
    refine ⟨v, w, hr, ?_, World.grownBy.refl _ _, by simp⟩
    rw [List.append_nil]
    exact hown.mono fun k _ h => .inl h
  | some a =>
    obtain ⟨v', w', hr, h2, h3, h4, h5⟩ := run_append_own_at (P := Tryz.prog) w 0 22 ty 5 i0 (.int .u8 0) 1 1 Tryz.underlying22 hi hz0 hz1 hz2 rfl (by decide) v L.length _ hown.1 a X.length cap (X.map bv)
      (by simp) (hc a rfl).1 (bv_one X) hmx (by omega) (Nat.zero_le _)
    refine ⟨v', w', hr, ⟨?_, ?_⟩, h3, ?_⟩
    · rw [List.length_append, List.map_append]
      exact h2
    · intro g hg
      rcases h5 with h5 | h5
      · exact .inl (hown.2 g (by rw [← h5, hg]))
      · rw [hg] at h5
        exact .inr (by have := Option.some.inj h5; omega)
    · rw [h4]
      simp [List.length_eq_zero_iff]
theorem wpList_append_bytes {F G : Nat → Prop} (w : World) {ops : Array Oper} {rest : List Oper} {o : Oper} {a : Act} {Q : Exit → Act → World → Prop} (hgd : o.guard = none) (s x : Operand)
    (hop : o.op = Op.call { callee := Callee.builtin Builtin.append, args := #[s, x], argTypes := #[22, 22] })
    (v y : Value) (L X : List UInt8) (hs : a.eval s = v) (hx : a.eval x = y) (hown : OwnB F w v L) (hX : BytesIn G w y X) (hb : L.length + X.length ≤ 140737488355328)
    (hK : ∀ v' w', OwnB (fun k => F k ∨ w.heap.size ≤ k) w' v' (L ++ X) → w.grownBy w' v.ownBlock → (v' = .slice none 0 0 ↔ v = .slice none 0 0 ∧ X = []) → wpList Tryz.prog ops Q rest (a.put o.dst v') w') : wpList Tryz.prog ops Q (o :: rest) a w := by
  refine wpList_plain hgd fun K hK' => ?_
  subst hs; subst hx
  obtain ⟨v', w', hr, h1, h2, h3⟩ := run_append_bytes w o.type _ _ L X hown hX hb
  unfold Oper.wp
  simp [execOp, hop, resolve, invoke, builtin, hr, Result.andThen]
  exact hK' _ _ (hK v' w' h1 h2 h3)
end Go.Proofs.YtfkgdjoaoidkeaaGreat
namespace Go.Proofs.YtfkgdjoaoidkeaaGreat
open Go.RowKit Go.ChangeShapes
set_option linter.unusedVariables false
theorem ret_int {k : IntKind} {a b : Int} (h : a = b) : Ending.returned (.int k a) = .returned (.int k b) := by rw [h]
theorem ret_bool {a b : Bool} (h : a = b) : Ending.returned (.bool a) = .returned (.bool b) := by rw [h]
def sameB (A B : List UInt8) : Bool := decide (A = B)
theorem sameB_eq {A B : List UInt8} (h : A = B) : sameB A B = true := by simp [sameB, h]
theorem sameB_ne {A B : List UInt8} (h : A ≠ B) : sameB A B = false := by simp [sameB, h]
theorem addr_plain (b o i : Nat) : (⟨b, o, none⟩ : Addr).add i = ⟨b, o + i, none⟩ := by unfold Addr.add; split <;> simp_all
theorem BytesIn.plain {F : Nat → Prop} {w : World} {v : Value} {L : List UInt8} (h : BytesIn F w v L) (hL : L ≠ []) :
    ∃ b off cap, v = .slice (some ⟨b, off, none⟩) L.length cap ∧ L.length ≤ cap ∧ cap ≤ maxLen ∧ F b ∧ ∀ j (hj : j < L.length), w.cell? ⟨b, off + j, none⟩ = some (bv L[j]) := by
  obtain ⟨ao, cap, rfl, h1, hm, h2, h3⟩ := h
  obtain ⟨x, r, rfl⟩ := List.exists_cons_of_ne_nil hL
  cases ao with
  | none => have := h2 rfl; simp at h1; omega
  | some a =>
    obtain ⟨b, off, spot⟩ := a
    have hc := (h3 _ rfl).1
    have hs : spot = none := by simpa [Addr.add] using World.cell?_spot (hc 0 (bv x) rfl)
    subst hs
    refine ⟨b, off, cap, rfl, h1, hm, (h3 _ rfl).2 hL, fun j hj => ?_⟩
    have := hc j (bv (x :: r)[j]) (by rw [List.getElem?_map, List.getElem?_eq_getElem hj]; rfl)
    rwa [addr_plain] at this
set_option maxHeartbeats 400000 in
theorem same_any {F G : Nat → Prop} (v u : Value) (A B : List UInt8) (w : World) (hA : BytesIn F w v A) (hB : BytesIn G w u B) :
    Calls Tryz.prog 17 #[v, u] w fun e w' => e = .returned (.bool (sameB A B)) ∧ ∃ n, w' = w.drewN n := by
  by_cases hl : A.length = B.length
  · by_cases hn : A = []
    · subst hn
      obtain rfl : B = [] := List.eq_nil_of_length_eq_zero (by simpa using hl.symm)
      obtain ⟨ao, cap, rfl, _⟩ := hA
      obtain ⟨ao', cap', rfl, _⟩ := hB
      clear hl
      go_enter Tryz.func17, Tryz.ntmps17
      go_wp2
      refine wp_loop_rounds 1 ?_
      rw [rounds_succ]
      go_wp2
      go_ret
      exact ⟨ret_bool (sameB_eq rfl).symm, 0, rfl⟩
    · obtain ⟨b, off, cap, rfl, h1, hm, _, hc⟩ := hA.plain hn
      obtain ⟨b', off', cap', rfl, h1', hm', _, hc'⟩ := hB.plain (fun h => by subst h; simp at hl; exact hn hl)
      obtain ⟨n, hn'⟩ : ∃ n, n = A.length := ⟨_, rfl⟩
      have hlb : n = B.length := by omega
      clear hA hB hn hl
      rw [← hn'] at h1 ⊢
      rw [← hlb] at h1' ⊢
      have hcA : ∀ j, j < n → w.cell? ⟨b, off + j, none⟩ = some (.int .u8 (A.getD j 0).toNat) := fun j hj => by
        rw [hc j (by omega)]; simp [bv, List.getD, List.getElem?_eq_getElem (show j < A.length by omega)]
      have hcB : ∀ j, j < n → w.cell? ⟨b', off' + j, none⟩ = some (.int .u8 (B.getD j 0).toNat) := fun j hj => by
        rw [hc' j (by omega)]; simp [bv, List.getD, List.getElem?_eq_getElem (show j < B.length by omega)]
      clear hc hc'
      have hnm : n ≤ 9223372036854775807 := by unfold maxLen at hm; omega
      have HA := Lib.hid hn'; have HB := Lib.hid hlb
      clear hn' hlb hm hm'
      go_enter Tryz.func17, Tryz.ntmps17
      go_wp2
      go_loopw [5] (fun i wr => ∃ k : Nat, k ≤ n ∧ i = .int .i64 k ∧ Hid (A.take k = B.take k) ∧ ∃ m, wr = w.drewN m) (fun i _ => n - (intOf i).toNat)
      case atStart => exact ⟨0, by omega, rfl, Lib.hid rfl, 0, rfl⟩
      case round =>
        obtain ⟨k, hk, rfl, heq, m, rfl⟩ := hrel
        by_cases hlt : k < n
        · have h0 := hcA k hlt
          have h0' := hcB k hlt
          have hA1 : A.take (k + 1) = A.take k ++ [A.getD k 0] := by
            rw [List.take_succ_eq_append_getElem (by have := HA.out; omega)]; simp [List.getD, List.getElem?_eq_getElem (show k < A.length by have := HA.out; omega)]
          have hB1 : B.take (k + 1) = B.take k ++ [B.getD k 0] := by
            rw [List.take_succ_eq_append_getElem (by have := HB.out; omega)]; simp [List.getD, List.getElem?_eq_getElem (show k < B.length by have := HB.out; omega)]
          obtain ⟨x, hx⟩ : ∃ x, x = A.getD k 0 := ⟨_, rfl⟩
          obtain ⟨y, hy⟩ : ∃ y, y = B.getD k 0 := ⟨_, rfl⟩
          rw [← hx] at h0 hA1
          rw [← hy] at h0' hB1
          clear hcA hcB hx hy
          by_cases hxy : x = y
          · subst hxy
            have heq1 := Lib.hid (show A.take (k + 1) = B.take (k + 1) by rw [hA1, hB1, heq.out])
            clear hA1 hB1
            go_wp2_with fail
            go_quiet (fail)
            go_wp2
            go_roundw
            case rel => exact ⟨k + 1, by omega, by go_num, heq1, _, rfl⟩
            case measure => simp [intOf]; omega
          · have hne : ((x.toNat : Int) != (y.toNat : Int)) = true := by
              rw [bne_iff_ne]; intro h; exact hxy (UInt8.toNat_inj.1 (by omega))
            have hf := Lib.hid (show sameB A B = false by
              refine sameB_ne fun h => hxy ?_
              have := congrArg (List.take (k + 1)) h
              rw [hA1, hB1, heq.out] at this
              simpa using this)
            clear hA1 hB1 hxy
            go_wp2_with fail
            go_quiet (fail)
            go_wp2
            go_ret
            exact ⟨ret_bool hf.out.symm, m + nq, World.drewN_drewN ..⟩
        · have hkn := Lib.hid (show k = n by omega)
          go_wp2
          go_ret
          refine ⟨ret_bool (sameB_eq ?_).symm, _, rfl⟩
          have := heq.out
          rwa [hkn.out, List.take_of_length_le (by have := HA.out; omega), List.take_of_length_le (by have := HB.out; omega)] at this
  · obtain ⟨ao, cap, rfl, hA1, hA2, _⟩ := hA
    obtain ⟨ao', cap', rfl, hB1, hB2, _⟩ := hB
    have hne : ((A.length : Int) != (B.length : Int)) = true := by rw [bne_iff_ne]; omega
    have hf := Lib.hid (sameB_ne (fun h => hl (by rw [h]) : A ≠ B))
    clear hl
    go_enter Tryz.func17, Tryz.ntmps17
    go_wp2
    go_ret
    exact ⟨ret_bool hf.out.symm, 0, rfl⟩
end Go.Proofs.YtfkgdjoaoidkeaaGreat
namespace Go.Proofs.YtfkgdjoaoidkeaaGreat
theorem wraps_i64 (n : Int) (h0 : 0 ≤ n) (h1 : n < 2 ^ 63) : IntKind.i64.wrap n = n := by rw [IntKind.wrap_i64]; omega
theorem i64_or (i m z : Nat) (hm : m < 2 ^ i) (hz : 2 ^ i ∣ z) (h1 : m < 2 ^ 63) (h2 : z < 2 ^ 63) : bits .or .i64 (m : Int) (z : Int) = ((m + z : Nat) : Int) := by
  rw [(bits_nat .i64 63 (by decide) wraps_i64 m z h1 h2).2]
  obtain ⟨q, rfl⟩ := hz
  rw [Nat.or_comm, ← Nat.two_pow_add_eq_or_of_lt hm q, Nat.add_comm]
end Go.Proofs.YtfkgdjoaoidkeaaGreat
namespace Go.Proofs.YtfkgdjoaoidkeaaGreat
open Go.RowKit Go.ChangeShapes
set_option linter.unusedVariables false
theorem heap_setCell_at {w : World} {b i : Nat} {c : Array Value} {t : TypeId} {z : Nat × Nat} (u : Value) (h : w.heap[b]? = some (.cells c t z)) :
    (w.setCell ⟨b, i, none⟩ u).heap[b]? = some (.cells (c.setIfInBounds i u) t z) := by
  simp only [World.setCell, Array.getElem?_modify, h]
  simp
theorem Fr.one (w : World) (b i : Nat) (u : Value) : Fr (· = b) w (w.setCell ⟨b, i, none⟩ u) := (Fr.refl (· = b) w).setCell (p := ⟨b, i, none⟩) (.inl rfl) u
theorem BytesIn.drop {F : Nat → Prop} {w : World} {ao : Option Addr} {cap : Nat} {X : List UInt8} (h : BytesIn F w (.slice ao X.length cap) X) (n : Nat) (hn : n ≤ X.length) (b off : Nat) (ha : ao = some ⟨b, off, none⟩) :
    BytesIn F w (.slice (some ⟨b, off + n, none⟩) (X.length - n) (cap - n)) (X.drop n) := by
  obtain ⟨ao', cap', hv, h1, hm, h2, h3⟩ := h
  simp only [Value.slice.injEq] at hv
  obtain ⟨rfl, _, rfl⟩ := hv
  refine ⟨some ⟨b, off + n, none⟩, cap - n, by rw [List.length_drop], by rw [List.length_drop]; omega, by omega, (fun h => by cases h), ?_⟩
  intro a hab
  cases hab
  refine ⟨fun j u hu => ?_, fun hX => (h3 _ ha).2 (fun h => by subst h; simp at hX)⟩
  have := (h3 _ ha).1 (n + j) u (by rw [← hu, List.getElem?_map, List.getElem?_map, List.getElem?_drop])
  rw [addr_plain] at this ⊢
  rwa [Nat.add_assoc]
end Go.Proofs.YtfkgdjoaoidkeaaGreat
namespace Go.Proofs.YtfkgdjoaoidkeaaGreat
open Go.RowKit Go.ChangeShapes
set_option linter.unusedVariables false
theorem own_empty (w : World) (o : Obj) (ho : o = .cells #[] 5) : OwnB (fun k => w.heap.size ≤ k) (w.alloc o) (.slice (some ⟨w.heap.size, 0, none⟩) 0 0) [] := by
  subst ho
  refine ⟨World.ownsRow_made (base := 0) (e := 5) (size := 1) w #[] 0 (Nat.zero_le _) (by simp [maxLen]) (by simp), fun g hg => ?_⟩
  simp [Value.ownBlock] at hg
  omega
def cutLow (ao : Option Addr) (n cap : Nat) : Option Addr := if cap = n then ao else ao.map (·.add n)
theorem run_cutLow (w : World) (ao : Option Addr) (l cap n : Nat) (hn : n ≤ l) :
    (Instr.slice 22 (.slice ao l cap) (some (.int .i64 (n : Int))) none none).run Tryz.prog w = .ok (.slice (cutLow ao n cap) (l - n) (cap - n)) w := by
  have hs : ∀ w, (sizeOf 5).run Tryz.prog w = .ok 1 w := fun w => by kernel_rfl
  simp [Instr.slice, run_underlying Tryz.underlying22, Instr.sliceBounds, run_sliceBound, hs, cutLow, hn]
theorem BytesIn.cutLow {F : Nat → Prop} {w : World} {ao : Option Addr} {l cap : Nat} {X : List UInt8} (h : BytesIn F w (.slice ao l cap) X) (n : Nat) (hn : n ≤ X.length) :
    BytesIn F w (.slice (cutLow ao n cap) (l - n) (cap - n)) (X.drop n) := by
  obtain ⟨ao', cap', hv, h1, hm, h2, h3⟩ := h
  simp only [Value.slice.injEq] at hv
  obtain ⟨rfl, rfl, rfl⟩ := hv
  unfold YtfkgdjoaoidkeaaGreat.cutLow
  refine ⟨_, cap - n, by rw [List.length_drop], by rw [List.length_drop]; omega, by omega, ?_, ?_⟩
  · intro h
    split at h
    · omega
    · have := h2 (by simpa using h); omega
  · intro a ha
    split at ha
    · rename_i hc
      obtain hX : X.drop n = [] := List.drop_eq_nil_of_le (by omega)
      rw [hX]
      exact ⟨fun j u hu => by simp at hu, fun h => absurd rfl h⟩
    · cases ao with
      | none => cases ha
      | some a0 =>
        simp only [Option.map_some, Option.some.injEq] at ha
        subst ha
        refine ⟨fun j u hu => ?_, fun hX => by rw [add_block]; exact (h3 _ rfl).2 (fun h => by subst h; simp at hX)⟩
        have := (h3 _ rfl).1 (n + j) u (by rw [← hu, List.getElem?_map, List.getElem?_map, List.getElem?_drop])
        rwa [Go.Deep.add_add]
theorem BytesIn.take {F : Nat → Prop} {w : World} {ao : Option Addr} {l cap : Nat} {X : List UInt8} (h : BytesIn F w (.slice ao l cap) X) (n : Nat) (hn : n ≤ X.length) :
    BytesIn F w (.slice ao n cap) (X.take n) := by
  obtain ⟨ao', cap', hv, h1, hm, h2, h3⟩ := h
  simp only [Value.slice.injEq] at hv
  obtain ⟨rfl, _, rfl⟩ := hv
  have hl : (X.take n).length = n := by rw [List.length_take]; omega
  refine ⟨ao, cap, by rw [hl], by omega, hm, h2, fun a ha => ⟨fun j u hu => (h3 a ha).1 j u ?_, fun hX => (h3 a ha).2 (fun h => by subst h; simp at hX)⟩⟩
  rw [← hu, List.map_take, List.getElem?_take]
  have hj : j < n := by have := (List.getElem?_eq_some_iff.1 hu).1; simp at this; omega
  rw [if_pos hj]
end Go.Proofs.YtfkgdjoaoidkeaaGreat
namespace Go.Proofs.YtfkgdjoaoidkeaaGreat
open Go.RowKit Go.ChangeShapes
set_option linter.unusedVariables false
theorem Fr.setRow {S : Nat → Prop} {a w : World} {g : Nat} (h : Fr S a w) (hg : S g ∨ a.heap.size ≤ g) (cs : Array Value) : Fr S a (w.setRow g cs) :=
  ⟨h.os, h.tape, h.output, by simpa using h.size, fun i hi hs => by
    rw [setRow_other _ _ _ _ (by rintro rfl; rcases hg with h1 | h1; exact hs h1; omega), h.block i hi hs]⟩
theorem wpList_store_row {P : Program} {ops : Array Oper} {rest : List Oper} {op : Oper} {a : Act} {w : World} {Q : Exit → Act → World → Prop} (hgd : op.guard = none) (ty : TypeId) (x y : Operand) (ho : op.op = .store ty x y)
    (g : Nat) (cells old : Array Value) (t : TypeId) (hx : a.eval x = .pointer (some ⟨g, 0, none⟩)) (hy : a.eval y = .agg cells)
    (hg : w.heap[g]? = some (.cells old t (0, 0))) (hi : (P.info? ty).map (·.size) = some cells.size) (hs : old.size = cells.size) (h1 : cells.all (·.oneCell') = true)
    (h : wpList P ops Q rest (a.put op.dst undef) (w.setRow g cells)) : wpList P ops Q (op :: rest) a w :=
  wpList_plain hgd fun _ hK => by
    unfold Oper.wp execOp
    simp only [ho, hx, hy, Instr.storeAt, Instr.sureAddr, Sem.run_bind, Sem.run_pure, Result.andThen_ok, run_storeVar_row w g t ty old cells hg hi hs h1]
    exact hK _ _ h
def Byt (w : World) (g : Nat) (L : List UInt8) : Prop := w.heap[g]? = some (.cells (L.map bv).toArray 5 (0, 0))
theorem Byt.cell {w : World} {g : Nat} {L : List UInt8} (h : Byt w g L) (i : Nat) (hi : i < L.length) : w.cell? ⟨g, i, none⟩ = some (.int .u8 (L.getD i 0).toNat) := by
  rw [cell_of_row _ _ _ _ _ _ h, List.getElem?_toArray, List.getElem?_map, List.getD_eq_getElem?_getD, List.getElem?_eq_getElem hi]
  rfl
theorem Byt.free {w : World} {g : Nat} {L : List UInt8} (h : Byt w g L) (i : Nat) : w.frozen? ⟨g, i, none⟩ = false := frozen_of_row _ _ _ _ _ h
theorem Byt.keep {S : Nat → Prop} {w w' : World} {g : Nat} {L : List UInt8} (h : Byt w g L) (hf : Fr S w w') (hg : ¬ S g) : Byt w' g L := hf.heap h hg
theorem Byt.set_ {w : World} {g : Nat} {L : List UInt8} (h : Byt w g L) (i : Nat) (x : Int) (y : UInt8) (hx : x = y.toNat) : Byt (w.setCell ⟨g, i, none⟩ (.int .u8 x)) g (L.set i y) := by
  subst hx
  refine (heap_setCell_at _ h).trans ?_
  rw [List.setIfInBounds_toArray, List.map_set]
  rfl
theorem Byt.bytes {w : World} {g : Nat} {L : List UInt8} (h : Byt w g L) (hl : L.length ≤ maxLen) : BytesIn (fun k => k = g) w (.slice (some ⟨g, 0, none⟩) L.length L.length) L := by
  refine ⟨_, L.length, rfl, Nat.le_refl _, hl, (fun h => by cases h), ?_⟩
  intro a ha
  cases ha
  refine ⟨fun j u hu => ?_, fun _ => rfl⟩
  rw [addr_plain, Nat.zero_add, cell_of_row _ _ _ _ _ _ h]
  simpa using hu
theorem Byt.lt {w : World} {g : Nat} {L : List UInt8} (h : Byt w g L) : g < w.heap.size := lt_of_block h
theorem Byt.new (w : World) (L : List UInt8) : Byt (w.alloc (.cells (L.map bv).toArray 5)) w.heap.size L := heap_alloc_new w _
theorem run_make_bytes (w : World) (m : Int) (n : Nat) (hm : m = n) (hn : n ≤ 140737488355328) :
    (Instr.makeSlice 22 (.int .i64 m) (.int .i64 m)).run Tryz.prog w = .ok (.slice (some ⟨w.heap.size, 0, none⟩) n n) (w.alloc (.cells ((List.replicate n (0 : UInt8)).map bv).toArray 5)) := by
  subst hm
  obtain ⟨i0, hi, hz0, hz1, hz2⟩ := info_parts Tryz.infoB
  have h := run_make (P := Tryz.prog) w 22 5 i0 (.int .u8 0) Tryz.underlying22 hi hz0 .i64 .i64 (n : Int) (n : Int) (by omega) (Int.le_refl _) (by rw [hz2]; omega) (by omega)
  rw [h, hz1, Int.toNat_natCast, Nat.mul_one]
  have e : madeCells (Value.int .u8 0).cells n = ((List.replicate n (0 : UInt8)).map bv).toArray := by
    apply Array.ext'
    simp only [madeCells, Value.cells, Array.toList_map, Array.toList_range, List.map_replicate]
    apply List.ext_getElem
    · simp
    · intro k h1 h2
      simp [Nat.mod_one]
      rfl
  rw [e]
def BytT (w : World) (g : Nat) (T : TypeId) (L : List UInt8) : Prop := w.heap[g]? = some (.cells (L.map bv).toArray T (0, 0))
theorem BytT.cell {w : World} {g : Nat} {T : TypeId} {L : List UInt8} (h : BytT w g T L) (i : Nat) (hi : i < L.length) : w.cell? ⟨g, i, none⟩ = some (.int .u8 (L.getD i 0).toNat) := by
  rw [cell_of_row _ _ _ _ _ _ h, List.getElem?_toArray, List.getElem?_map, List.getD_eq_getElem?_getD, List.getElem?_eq_getElem hi]
  rfl
theorem BytT.free {w : World} {g : Nat} {T : TypeId} {L : List UInt8} (h : BytT w g T L) (i : Nat) : w.frozen? ⟨g, i, none⟩ = false := frozen_of_row _ _ _ _ _ h
theorem BytT.keep {S : Nat → Prop} {w w' : World} {g : Nat} {T : TypeId} {L : List UInt8} (h : BytT w g T L) (hf : Fr S w w') (hg : ¬ S g) : BytT w' g T L := hf.heap h hg
theorem BytT.set_ {w : World} {g : Nat} {T : TypeId} {L : List UInt8} (h : BytT w g T L) (i : Nat) (x : Int) (y : UInt8) (hx : x = y.toNat) : BytT (w.setCell ⟨g, i, none⟩ (.int .u8 x)) g T (L.set i y) := by
  subst hx
  refine (heap_setCell_at _ h).trans ?_
  rw [List.setIfInBounds_toArray, List.map_set]
  rfl
theorem BytT.lt {w : World} {g : Nat} {T : TypeId} {L : List UInt8} (h : BytT w g T L) : g < w.heap.size := lt_of_block h
theorem run_tag (w : World) (s : ByteArray) (hs : s.size ≤ maxLen) :
    ∃ cap W, (convert 9 22 (.string s)).run Tryz.prog w = .ok (.slice (some ⟨w.heap.size, 0, none⟩) s.size cap) W ∧ Fr (fun _ => False) w W ∧ BytesIn (fun k => k = w.heap.size) W (.slice (some ⟨w.heap.size, 0, none⟩) s.size cap) s.data.toList ∧ W.heap.size = w.heap.size + 1 := by
  refine ⟨_, _, run_bytes_of_string w 9 22 5 s Tryz.underlying9 Tryz.underlying22 Tryz.underlying5, (Fr.refl _ w).drew.alloc _, ?_, by simp⟩
  have hge := grownCap_ge w s.size 0 5
  have hle := grownCap_le_maxLen w s.size 0 5 hs
  generalize grownCap w s.size 0 5 = cap at *
  have hl : s.data.toList.length = s.size := by simp
  refine ⟨_, cap, by rw [hl], by rw [hl]; exact hge, hle, (fun h => by cases h), ?_⟩
  intro a ha
  cases ha
  refine ⟨fun j u hu => ?_, fun _ => rfl⟩
  have hj : j < s.data.size := by have := (List.getElem?_eq_some_iff.1 hu).1; simpa using this
  rw [addr_plain, Nat.zero_add]
  refine (cell_of_row _ w.heap.size j _ _ _ (heap_alloc_new w.drew _)).trans ?_
  rw [bytesRow_at s cap j hj, ← hu, List.getElem?_map, Array.getElem?_toList, Array.getElem?_eq_getElem hj]
  rfl
end Go.Proofs.YtfkgdjoaoidkeaaGreat
namespace Go.Proofs.YtfkgdjoaoidkeaaGreat
open Go.RowKit Go.ChangeShapes
set_option linter.unusedVariables false
theorem bit_val (x r : Nat) : ((x : Int) / 2 ^ r).tmod 2 = ((x / 2 ^ r % 2 : Nat) : Int) := by
  have e : (x : Int) / 2 ^ r = ((x / 2 ^ r : Nat) : Int) := by simp
  rw [e]
  generalize x / 2 ^ r = n
  rw [Int.tmod_eq_emod_of_nonneg (by omega)]
  omega
theorem abc_get (i : Nat) (h : i < (⟨#[48, 49, 50, 51, 52, 53, 54, 55, 56, 57, 97, 98, 99, 100, 102, 103, 104, 105, 106, 107, 108, 109, 110, 112, 113, 114, 115, 118, 119, 120, 121, 122]⟩ : ByteArray).size) : (⟨#[48, 49, 50, 51, 52, 53, 54, 55, 56, 57, 97, 98, 99, 100, 102, 103, 104, 105, 106, 107, 108, 109, 110, 112, 113, 114, 115, 118, 119, 120, 121, 122]⟩ : ByteArray)[i] = abc.getD i 0 := by
  have hi : i < abc.length := h
  rw [List.getD_eq_getElem?_getD, List.getElem?_eq_getElem hi]
  rfl
set_option maxHeartbeats 1000000 in
theorem rbit_any (H : List UInt8) (hH : H.length = 20) (i : Nat) (hi : i < 160) (w : World) :
    Calls Tryz.prog 36 #[.agg (H.map bv).toArray, .int .i64 i] w fun e w' => e = .returned (.int .i64 (bitN H i)) ∧ Fr (fun _ => False) w w' := by
  obtain ⟨C, hC⟩ : ∃ C, C = (H.map bv).toArray := ⟨_, rfl⟩
  have hB := (show BytT (w.alloc (.cells C 24)) w.heap.size 24 H by rw [hC]; exact heap_alloc_new w _)
  obtain ⟨q, hq⟩ : ∃ q, q = i / 8 := ⟨_, rfl⟩
  obtain ⟨r, hr⟩ : ∃ r, r = i % 8 := ⟨_, rfl⟩
  have hq20 : q < 20 := by omega
  have hr8 : r < 8 := by omega
  have c1 := hB.cell q (by omega)
  obtain ⟨x, hx⟩ : ∃ x, x = (H.getD q 0).toNat := ⟨_, rfl⟩
  rw [← hx] at c1
  have hx256 : x < 256 := by rw [hx]; exact UInt8.toNat_lt _
  have HV := Lib.hid (show bitN H i = x / 2 ^ r % 2 by rw [bitN, ← hq, ← hr, ← hx])
  have eq1 : (i : Int) / 8 = (q : Int) := by omega
  have eq2 : (i : Int).tdiv 8 = (q : Int) := by rw [Int.tdiv_eq_ediv_of_nonneg (by omega)]; exact eq1
  have er1 : (i : Int) % 8 = (r : Int) := by omega
  have er2 : (i : Int).tmod 8 = (r : Int) := by rw [Int.tmod_eq_emod_of_nonneg (by omega)]; exact er1
  have bq : (q : Int) < 20 := by omega
  have bq0 : (0 : Int) ≤ (q : Int) := by omega
  rw [← hC]
  rw [HV.out]
  clear hB hx hq hr hC
  go_enter Tryz.func36, Tryz.ntmps36
  go_wp2
  go_ret
  exact ⟨ret_int (bit_val x r), (Fr.refl _ _).alloc _⟩
end Go.Proofs.YtfkgdjoaoidkeaaGreat
namespace Go.Proofs.YtfkgdjoaoidkeaaGreat
open Go.RowKit Go.ChangeShapes
set_option linter.unusedVariables false
theorem abc_cut_all : ∀ n : Fin 32, ((⟨#[48, 49, 50, 51, 52, 53, 54, 55, 56, 57, 97, 98, 99, 100, 102, 103, 104, 105, 106, 107, 108, 109, 110, 112, 113, 114, 115, 118, 119, 120, 121, 122]⟩ : ByteArray).extract n.val (n.val + 1)).data.toList = [abc.getD n.val 0] := by decide +kernel
theorem abc_cut (n : Nat) (h : n < 32) : ((⟨#[48, 49, 50, 51, 52, 53, 54, 55, 56, 57, 97, 98, 99, 100, 102, 103, 104, 105, 106, 107, 108, 109, 110, 112, 113, 114, 115, 118, 119, 120, 121, 122]⟩ : ByteArray).extract n (n + 1)).data.toList = [abc.getD n 0] := abc_cut_all ⟨n, h⟩
theorem abc_cut_size_all : ∀ n : Fin 32, ((⟨#[48, 49, 50, 51, 52, 53, 54, 55, 56, 57, 97, 98, 99, 100, 102, 103, 104, 105, 106, 107, 108, 109, 110, 112, 113, 114, 115, 118, 119, 120, 121, 122]⟩ : ByteArray).extract n.val (n.val + 1)).size = 1 := by decide +kernel
theorem abc_cut_size (n : Nat) (h : n < 32) : ((⟨#[48, 49, 50, 51, 52, 53, 54, 55, 56, 57, 97, 98, 99, 100, 102, 103, 104, 105, 106, 107, 108, 109, 110, 112, 113, 114, 115, 118, 119, 120, 121, 122]⟩ : ByteArray).extract n (n + 1)).size = 1 := abc_cut_size_all ⟨n, h⟩
theorem str_app (s t : ByteArray) : (s ++ t).data.toList = s.data.toList ++ t.data.toList := by simp
set_option maxRecDepth 100000 in
set_option maxHeartbeats 2000000 in
theorem rLetters_any (H : List UInt8) (hH : H.length = 20) (w : World) :
    Calls Tryz.prog 22 #[.agg (H.map bv).toArray] w fun e w' => e = .returned (.string ⟨(letL H).toArray⟩) ∧ Fr (fun _ => False) w w' := by
  obtain ⟨C, hC⟩ : ∃ C, C = (H.map bv).toArray := ⟨_, rfl⟩
  have HC := Lib.hid hC
  have hcs : C.size = 20 := by rw [hC]; simp [hH]
  have HBIT := Lib.hid (fun i (h : i < 160) W => rbit_any H hH i h W)
  rw [← hC] at HBIT
  rw [← hC]
  clear hC
  go_enter Tryz.func22, Tryz.ntmps22
  go_wp2_with fail
  go_loopw [3, 4] (fun sv iv wr => ∃ (i : Nat) (s : ByteArray), i ≤ 32 ∧ sv = .string s ∧ iv = .int .i64 i ∧ Hid (s.data.toList = (letL H).take i) ∧ Hid (Fr (fun _ => False) w wr ∧ wr.heap[w.heap.size]? = some (.cells C 24 (0, 0)))) (fun _ iv _ => 32 - (intOf iv).toNat)
  case atStart => exact ⟨0, ⟨#[]⟩, by omega, rfl, rfl, Lib.hid rfl, Lib.hid ⟨(Fr.refl _ _).alloc _, heap_alloc_new w _⟩⟩
  case round =>
    obtain ⟨i, s, hi, rfl, rfl, hS, hR⟩ := hrel
    by_cases hlt : i < 32
    · have hd : decide ((i : Int) < 32) = true := by rw [decide_eq_true_iff]; omega
      go_wp2_with fail
      go_loopw [5, 6] (fun nv kv wr => ∃ (n k : Nat), k ≤ 5 ∧ n < 32 ∧ nv = .int .i64 n ∧ kv = .int .i64 (4 - (k : Int)) ∧ Hid (n = fiveFrom H i k) ∧ Hid (Fr (fun _ => False) w wr ∧ wr.heap[w.heap.size]? = some (.cells C 24 (0, 0)))) (fun _ kv _ => (intOf kv + 1).toNat)
      case atStart => exact ⟨0, 0, by omega, by omega, rfl, rfl, Lib.hid rfl, hR⟩
      case round =>
        obtain ⟨n, k, hk, hn, rfl, rfl, hN, hR2⟩ := hrel
        clear hR
        by_cases hlk : k < 5
        · have hn2 := fiveFrom_lt H i (k + 1)
          have hp : (2 : Nat) ^ (k + 1) ≤ 2 ^ 5 := Nat.pow_le_pow_right (by decide) (by omega)
          have hst : fiveFrom H i (k + 1) = 2 * fiveFrom H i k + bitN H (5 * i + (4 - k)) := rfl
          rw [← hN.out] at hst
          obtain ⟨b, hb⟩ : ∃ b, b = bitN H (5 * i + (4 - k)) := ⟨_, rfl⟩
          have hb2 : b < 2 := by rw [hb]; exact bitN_lt _ _
          rw [← hb] at hst
          have HST := Lib.hid hst
          have hnb : 2 * n + b < 32 := by omega
          obtain ⟨p, hp5⟩ : ∃ p, p = 5 * i + (4 - k) := ⟨_, rfl⟩
          have hpi : 5 * (i : Int) + (4 - (k : Int)) = (p : Int) := by omega
          have HB := HBIT.out p (by omega)
          rw [hp5, ← hb, ← hp5] at HB
          have HB := Lib.hid HB
          have hkk : (0 : Int) ≤ 4 - (k : Int) := by omega
          have hr1 := hR2.out.2
          clear hst hb hn2 hp hp5 hN
          go_wp2_with (first
            | (with_reducible refine wpList_load_row rfl 24 (.tmp 1) rfl w.heap.size rfl 24 C (0, 0) _ hr1 Tryz.underlying24 rfl (by rw [hcs]; kernel_rfl) ?_)
            | (go_at_call 36; refine (HB.out _).mono ?_; rintro e w2 ⟨rfl, hf2⟩; have HR3 := Lib.hid (And.intro (hR2.out.1.trans hf2 (fun _ h => h.elim)) (hf2.heap hr1 (fun h => h))); clear hf2 HB))
          go_roundw
          case rel => exact ⟨2 * n + b, k + 1, by omega, hnb, by congr 1, by congr 1; push_cast; omega, Lib.hid HST.out.symm, HR3⟩
          case measure => simp [intOf]; omega
        · have hk5 : k = 5 := by omega
          have hf : n = five H i := by rw [hN.out, hk5]; rfl
          have hkd : decide ((0 : Int) ≤ 4 - (k : Int)) = false := by rw [decide_eq_false_iff_not]; omega
          have hkn : ¬ (0 : Int) ≤ 4 - (k : Int) := by omega
          have HN5 := Lib.hid hf
          clear hf hN hk5
          have hss : s.size ≤ 32 := by
            have h := congrArg List.length hS.out
            rw [List.length_take] at h
            simp at h
            omega
          have hes := abc_cut_size n hn
          have HAPP := Lib.hid (show (s ++ (⟨#[48, 49, 50, 51, 52, 53, 54, 55, 56, 57, 97, 98, 99, 100, 102, 103, 104, 105, 106, 107, 108, 109, 110, 112, 113, 114, 115, 118, 119, 120, 121, 122]⟩ : ByteArray).extract n (n + 1)).data.toList = (letL H).take (i + 1) by
            rw [str_app, abc_cut n hn, hS.out, letL_take_succ H i hlt, ← HN5.out])
          go_wp2_with fail
          go_roundw
          case rel => exact ⟨i + 1, _, by omega, rfl, by go_num, HAPP, hR2⟩
          case measure => simp [intOf]; omega
    · have HE := Lib.hid (show s = ⟨(letL H).toArray⟩ by
        have h := hS.out
        rw [List.take_of_length_le (by rw [letL_length]; omega)] at h
        obtain ⟨⟨l⟩⟩ := s
        have h' : l = letL H := h
        rw [h'])
      have hd : decide ((i : Int) < 32) = false := by rw [decide_eq_false_iff_not]; omega
      clear hS
      go_wp2_with fail
      go_ret
      exact ⟨by rw [HE.out]; rfl, hR.out.1⟩
end Go.Proofs.YtfkgdjoaoidkeaaGreat
