/- Laid together: Base Kit Cur Clone Arr RName RPath -/
import Derived.Test.YtdpaobflknkbkaaRows
import Derived.WalkKit
import Derived.Maps.AppendAt
import Derived.Laws.OwnMore
import Derived.WalkSmall
import Derived.Deep.Draws
import Derived.WalkLawsBesides
import Derived.WalkSpells
import Derived.Deep.QuietTactic
import Derived.BigQuiet
import Derived.Outline
import Derived.Lib.Hide
import Derived.Lib.SliceRun
import Derived.Deep.Slices
import Derived.Laws.Rows
import Derived.Deep.WholeRow
import Derived.Laws.MakeOwn
import Derived.Laws.IdiomStrings
import Derived.Deep.RegionHeld3
import Derived.Deep.MidRow

namespace Go.Proofs.Ytdpaobflknkbkaa
open Go.RowKit
def bv (x : UInt8) : Value := .int .u8 x.toNat
theorem bv_one (L : List UInt8) : ∀ u ∈ L.map bv, u.oneCell' = true := by
  intro u hu
  obtain ⟨x, _, rfl⟩ := List.mem_map.1 hu
  rfl
structure Fr (S : Nat → Prop) (w w' : World) : Prop where
  os : w'.os = w.os
  tape : w'.tape = w.tape
  output : w'.output = w.output
  size : w.heap.size ≤ w'.heap.size
  block : ∀ k, k < w.heap.size → ¬ S k → w'.heap[k]? = w.heap[k]?
theorem Fr.refl (S : Nat → Prop) (w : World) : Fr S w w := ⟨rfl, rfl, rfl, Nat.le_refl _, fun _ _ _ => rfl⟩
theorem Fr.trans {S T : Nat → Prop} {a b c : World} (h : Fr S a b) (k : Fr T b c) (hT : ∀ i, T i → S i ∨ a.heap.size ≤ i) : Fr S a c :=
  ⟨k.os.trans h.os, k.tape.trans h.tape, k.output.trans h.output, Nat.le_trans h.size k.size, fun i hi hs => by
    rw [k.block i (Nat.lt_of_lt_of_le hi h.size) (fun ht => by rcases hT i ht with h1 | h1; exact hs h1; omega), h.block i hi hs]⟩
theorem Fr.mono {S T : Nat → Prop} {a b : World} (h : Fr S a b) (hT : ∀ i, i < a.heap.size → S i → T i) : Fr T a b :=
  ⟨h.os, h.tape, h.output, h.size, fun i hi ht => h.block i hi (fun hs => ht (hT i hi hs))⟩
theorem Fr.drew {S : Nat → Prop} {a w : World} (h : Fr S a w) : Fr S a w.drew := ⟨h.os, h.tape, h.output, h.size, h.block⟩
theorem Fr.drewN {S : Nat → Prop} {a w : World} (h : Fr S a w) (n : Nat) : Fr S a (w.drewN n) := ⟨h.os, h.tape, h.output, h.size, h.block⟩
theorem Fr.alloc {S : Nat → Prop} {a w : World} (h : Fr S a w) (o : Obj) : Fr S a (w.alloc o) :=
  ⟨h.os, h.tape, h.output, Nat.le_trans h.size (by simp), fun i hi hs => by rw [Below.heap_alloc _ _ _ (Nat.lt_of_lt_of_le hi h.size), h.block i hi hs]⟩
theorem Fr.setCell {S : Nat → Prop} {a w : World} (h : Fr S a w) {p : Addr} (hp : S p.block ∨ a.heap.size ≤ p.block) (u : Value) : Fr S a (w.setCell p u) :=
  ⟨h.os, h.tape, h.output, by simpa [World.setCell] using h.size, fun i hi hs => by
    rw [Below.heap_setCell _ _ _ _ (by rintro rfl; rcases hp with h1 | h1; exact hs h1; omega), h.block i hi hs]⟩
theorem Fr.grown {S : Nat → Prop} {a w w' : World} {row : Option Nat} (h : Fr S a w) (hg : w.grownBy w' row) (hr : ∀ k, row = some k → S k ∨ a.heap.size ≤ k) : Fr S a w' :=
  h.trans (T := fun k => row = some k) ⟨hg.os, hg.tape, hg.output, hg.size, fun k hk hn => hg.block k hk (fun e => hn e.symm)⟩ hr
theorem Fr.below {S : Nat → Prop} {a w : World} {B : Nat} (h : Fr S a w) (hB : B ≤ a.heap.size) (hS : ∀ k, S k → B ≤ k) : Below B a w :=
  ⟨h.os, h.tape, h.output, h.size, fun k hk => h.block k (by omega) (fun hs => by have := hS k hs; omega)⟩
theorem Fr.ofBelow {a w : World} {B : Nat} (h : Below B a w) : Fr (fun k => B ≤ k) a w :=
  ⟨h.os, h.tape, h.output, h.size, fun k _ hn => h.block k (by omega)⟩
theorem Fr.heap {S : Nat → Prop} {a w : World} {b : Nat} {o : Obj} (h : Fr S a w) (hb : a.heap[b]? = some o) (hs : ¬ S b) : w.heap[b]? = some o := by
  rw [h.block b (lt_of_block hb) hs, hb]
theorem Fr.cell {S : Nat → Prop} {a w : World} {p : Addr} {v : Value} (h : Fr S a w) (hc : a.cell? p = some v) (hs : ¬ S p.block) : w.cell? p = some v := by
  rw [World.cell?_of_block (h.block p.block (World.block_lt_of_cell? _ _ hc) hs), hc]
def BytesIn (F : Nat → Prop) (w : World) (v : Value) (L : List UInt8) : Prop :=
  ∃ ao cap, v = .slice ao L.length cap ∧ L.length ≤ cap ∧ cap ≤ maxLen ∧ (ao = none → cap = 0) ∧
    ∀ a, ao = some a → (∀ j u, (L.map bv)[j]? = some u → w.cell? (a.add j) = some u) ∧ (L ≠ [] → F a.block)
theorem add_block (a : Addr) (j : Nat) : (a.add j).block = a.block := by
  unfold Addr.add
  split <;> rfl
theorem BytesIn.keep {F S : Nat → Prop} {w w' : World} {v : Value} {L : List UInt8} (h : BytesIn F w v L) (hf : Fr S w w') (hd : ∀ k, k < w.heap.size → F k → ¬ S k) : BytesIn F w' v L := by
  obtain ⟨ao, cap, rfl, h1, hm, h2, h3⟩ := h
  refine ⟨ao, cap, rfl, h1, hm, h2, fun a ha => ⟨fun j u hu => ?_, (h3 a ha).2⟩⟩
  have hc := (h3 a ha).1 j u hu
  have hL : L ≠ [] := by rintro rfl; simp at hu
  have hb : (a.add j).block < w.heap.size := World.block_lt_of_cell? _ _ hc
  rw [add_block] at hb
  exact hf.cell hc (by rw [add_block]; exact hd _ hb ((h3 a ha).2 hL))
theorem BytesIn.drewN {F : Nat → Prop} {w : World} {v : Value} {L : List UInt8} (h : BytesIn F w v L) (n : Nat) : BytesIn F (w.drewN n) v L := h
theorem BytesIn.mono {F G : Nat → Prop} {w : World} {v : Value} {L : List UInt8} (h : BytesIn F w v L) (hd : ∀ k, k < w.heap.size → F k → G k) : BytesIn G w v L := by
  obtain ⟨ao, cap, rfl, h1, hm, h2, h3⟩ := h
  refine ⟨ao, cap, rfl, h1, hm, h2, fun a ha => ⟨(h3 a ha).1, fun hL => ?_⟩⟩
  obtain ⟨x, r, rfl⟩ := List.exists_cons_of_ne_nil hL
  exact hd _ (by simpa [Addr.add] using World.block_lt_of_cell? _ _ ((h3 a ha).1 0 (bv x) rfl)) ((h3 a ha).2 hL)
theorem BytesIn.nil (F : Nat → Prop) (w : World) : BytesIn F w (.slice none 0 0) [] := ⟨none, 0, rfl, Nat.le_refl _, by simp [maxLen], fun _ => rfl, fun a h => by cases h⟩
def OwnB (F : Nat → Prop) (w : World) (v : Value) (L : List UInt8) : Prop :=
  w.ownsRow 0 5 1 v L.length (L.map bv) ∧ ∀ g, v.ownBlock = some g → F g
theorem OwnB.nil (F : Nat → Prop) (w : World) : OwnB F w (.slice none 0 0) [] := ⟨World.ownsRow_nil _ _ _ _, fun g h => by simp [Value.ownBlock] at h⟩
theorem OwnB.keep {F S : Nat → Prop} {w w' : World} {v : Value} {L : List UInt8} (h : OwnB F w v L) (hf : Fr S w w') (hd : ∀ k, k < w.heap.size → F k → ¬ S k) : OwnB F w' v L := by
  refine ⟨⟨h.1.1, ?_⟩, h.2⟩
  rcases h.1.2 with h1 | ⟨g, cap, cur, hv, hb, hg, r⟩
  · exact .inl h1
  · exact .inr ⟨g, cap, cur, hv, hb, hf.heap hg (hd g (lt_of_block hg) (h.2 g (by rw [hv]; rfl))), r⟩
theorem OwnB.mono {F G : Nat → Prop} {w : World} {v : Value} {L : List UInt8} (h : OwnB F w v L) (hd : ∀ k, k < w.heap.size → F k → G k) : OwnB G w v L :=
  ⟨h.1, fun g hg => hd g (h.1.lt g hg).2 (h.2 g hg)⟩
theorem OwnB.bytes {F : Nat → Prop} {w : World} {v : Value} {L : List UInt8} (h : OwnB F w v L) : BytesIn F w v L := by
  rcases h.1.2 with ⟨rfl, h1⟩ | ⟨g, cap, cur, rfl, hb, hg, hn, hm, hs, ht⟩
  · obtain rfl := List.eq_nil_of_length_eq_zero h1
    exact BytesIn.nil _ _
  · refine ⟨some ⟨g, 0, none⟩, cap, rfl, hn, hm, (fun h => by cases h), ?_⟩
    intro a ha
    cases ha
    exact ⟨h.1.cells rfl, fun _ => h.2 g rfl⟩
theorem OwnB.len {F : Nat → Prop} {w : World} {v : Value} {L : List UInt8} (h : OwnB F w v L) : ∃ ao cap, v = .slice ao L.length cap := by
  obtain ⟨ao, cap, hv, _⟩ := h.bytes
  exact ⟨ao, cap, hv⟩
theorem Try.infoB : (Try.prog.info? 5).map (fun i => (i.zero, i.size, i.bytes)) = some (some (.int .u8 0), 1, 1) := by kernel_rfl
theorem run_append_bytes {F G : Nat → Prop} (w : World) (ty : TypeId) (v x : Value) (L X : List UInt8) (hown : OwnB F w v L) (hx : BytesIn G w x X) (hb : L.length + X.length ≤ 140737488355328) :
    ∃ v' w', (Builtin.append_ #[44, 44] ty #[v, x]).run Try.prog w = .ok v' w' ∧ OwnB (fun k => F k ∨ w.heap.size ≤ k) w' v' (L ++ X) ∧ w.grownBy w' v.ownBlock ∧ (v' = .slice none 0 0 ↔ v = .slice none 0 0 ∧ X = []) := by
  obtain ⟨i0, hi, hz0, hz1, hz2⟩ := info_parts Try.infoB
  obtain ⟨ao, cap, rfl, hl, hm, hn, hc⟩ := hx
  have hmx : L.length + X.length ≤ maxLen := by unfold maxLen; omega
  cases ao with
  | none =>
    obtain rfl := hn rfl
    obtain rfl : X = [] := List.eq_nil_of_length_eq_zero (by omega)
    have hr := run_append_owned_none (P := Try.prog) (w := w) 0 44 ty 5 i0 1 Try.underlying44 hi v L.length _ hown.1
    refine ⟨v, w, hr, ?_, World.grownBy.refl _ _, by simp⟩
    rw [List.append_nil]
    exact hown.mono fun k _ h => .inl h
  | some a =>
    obtain ⟨v', w', hr, h2, h3, h4, h5⟩ := run_append_own_at (P := Try.prog) w 0 44 ty 5 i0 (.int .u8 0) 1 1 Try.underlying44 hi hz0 hz1 hz2 rfl (by decide) v L.length _ hown.1 a X.length cap (X.map bv)
      (by simp) (hc a rfl).1 (bv_one X) hmx (by omega) (Nat.zero_le _)
    refine ⟨v', w', hr, ⟨?_, ?_⟩, h3, ?_⟩
    · rw [List.length_append, List.map_append]
      exact h2
    · intro g hg
      rcases h5 with h5 | h5
      · exact .inl (hown.2 g (by rw [← h5, hg]))
      · rw [hg] at h5
        exact .inr (by have := Option.some.inj h5; omega)
    · rw [h4]
      simp [List.length_eq_zero_iff]
theorem wpList_append_bytes {F G : Nat → Prop} (w : World) {ops : Array Oper} {rest : List Oper} {o : Oper} {a : Act} {Q : Exit → Act → World → Prop} (hgd : o.guard = none) (s x : Operand)
    (hop : o.op = Op.call { callee := Callee.builtin Builtin.append, args := #[s, x], argTypes := #[44, 44] })
    (v y : Value) (L X : List UInt8) (hs : a.eval s = v) (hx : a.eval x = y) (hown : OwnB F w v L) (hX : BytesIn G w y X) (hb : L.length + X.length ≤ 140737488355328)
    (hK : ∀ v' w', OwnB (fun k => F k ∨ w.heap.size ≤ k) w' v' (L ++ X) → w.grownBy w' v.ownBlock → (v' = .slice none 0 0 ↔ v = .slice none 0 0 ∧ X = []) → wpList Try.prog ops Q rest (a.put o.dst v') w') : wpList Try.prog ops Q (o :: rest) a w := by
  refine wpList_plain hgd fun K hK' => ?_
  subst hs; subst hx
  obtain ⟨v', w', hr, h1, h2, h3⟩ := run_append_bytes w o.type _ _ L X hown hX hb
  unfold Oper.wp
  simp [execOp, hop, resolve, invoke, builtin, hr, Result.andThen]
  exact hK' _ _ (hK v' w' h1 h2 h3)
end Go.Proofs.Ytdpaobflknkbkaa
namespace Go.Proofs.Ytdpaobflknkbkaa
open Go.RowKit Go.ChangeShapes
set_option linter.unusedVariables false
theorem ret_int {k : IntKind} {a b : Int} (h : a = b) : Ending.returned (.int k a) = .returned (.int k b) := by rw [h]
theorem ret_bool {a b : Bool} (h : a = b) : Ending.returned (.bool a) = .returned (.bool b) := by rw [h]
theorem mod_neg (x n : Int) (h1 : 1 ≤ n) (h : x.tmod n < 0) : x.tmod n + n = x % n := by
  have e : x.tmod n = x % n - (if 0 ≤ x ∨ n ∣ x then 0 else n.natAbs) := Int.tmod_eq_emod (a := x) (b := n)
  have hp := Int.emod_nonneg x (show n ≠ 0 by omega)
  split at e <;> omega
theorem mod_pos (x n : Int) (h1 : 1 ≤ n) (h : ¬ x.tmod n < 0) : x.tmod n = x % n := by
  have e : x.tmod n = x % n - (if 0 ≤ x ∨ n ∣ x then 0 else n.natAbs) := Int.tmod_eq_emod (a := x) (b := n)
  have hp := Int.emod_lt_of_pos x (show 0 < n by omega)
  split at e <;> omega
theorem pick_any (x n : Int) (w : World) (h1 : 1 ≤ n) (h2 : n ≤ 1000000) (hx : -9223372036854775808 ≤ x) (hx2 : x ≤ 9223372036854775807) :
    Calls Try.prog 29 #[.int .i64 x, .int .i64 n] w fun e w' => e = .returned (.int .i64 (x % n)) ∧ w = w' := by
  have hb : -n < x.tmod n ∧ x.tmod n < n := by
    constructor
    · have := Int.lt_tmod_of_pos x (show 0 < n by omega); omega
    · exact Int.tmod_lt_of_pos x (by omega)
  obtain ⟨b1, b2⟩ := hb
  have hn : ¬ n < 1 := by omega
  by_cases h : x.tmod n < 0
  · have HE := Lib.hid (mod_neg x n h1 h)
    go_enter Try.func29, Try.ntmps29
    go_wp2
    go_ret
    exact ⟨ret_int HE.out, rfl⟩
  · have HE := Lib.hid (mod_pos x n h1 h)
    go_enter Try.func29, Try.ntmps29
    go_wp2
    go_ret
    exact ⟨ret_int HE.out, rfl⟩
def sameB (A B : List UInt8) : Bool := decide (A = B)
theorem sameB_eq {A B : List UInt8} (h : A = B) : sameB A B = true := by simp [sameB, h]
theorem sameB_ne {A B : List UInt8} (h : A ≠ B) : sameB A B = false := by simp [sameB, h]
theorem addr_plain (b o i : Nat) : (⟨b, o, none⟩ : Addr).add i = ⟨b, o + i, none⟩ := by unfold Addr.add; split <;> simp_all
theorem BytesIn.plain {F : Nat → Prop} {w : World} {v : Value} {L : List UInt8} (h : BytesIn F w v L) (hL : L ≠ []) :
    ∃ b off cap, v = .slice (some ⟨b, off, none⟩) L.length cap ∧ L.length ≤ cap ∧ cap ≤ maxLen ∧ F b ∧ ∀ j (hj : j < L.length), w.cell? ⟨b, off + j, none⟩ = some (bv L[j]) := by
  obtain ⟨ao, cap, rfl, h1, hm, h2, h3⟩ := h
  obtain ⟨x, r, rfl⟩ := List.exists_cons_of_ne_nil hL
  cases ao with
  | none => have := h2 rfl; simp at h1; omega
  | some a =>
    obtain ⟨b, off, spot⟩ := a
    have hc := (h3 _ rfl).1
    have hs : spot = none := by simpa [Addr.add] using World.cell?_spot (hc 0 (bv x) rfl)
    subst hs
    refine ⟨b, off, cap, rfl, h1, hm, (h3 _ rfl).2 hL, fun j hj => ?_⟩
    have := hc j (bv (x :: r)[j]) (by rw [List.getElem?_map, List.getElem?_eq_getElem hj]; rfl)
    rwa [addr_plain] at this
set_option maxHeartbeats 400000 in
theorem same_any {F G : Nat → Prop} (v u : Value) (A B : List UInt8) (w : World) (hA : BytesIn F w v A) (hB : BytesIn G w u B) :
    Calls Try.prog 30 #[v, u] w fun e w' => e = .returned (.bool (sameB A B)) ∧ ∃ n, w' = w.drewN n := by
  by_cases hl : A.length = B.length
  · by_cases hn : A = []
    · subst hn
      obtain rfl : B = [] := List.eq_nil_of_length_eq_zero (by simpa using hl.symm)
      obtain ⟨ao, cap, rfl, _⟩ := hA
      obtain ⟨ao', cap', rfl, _⟩ := hB
      clear hl
      go_enter Try.func30, Try.ntmps30
      go_wp2
      refine wp_loop_rounds 1 ?_
      rw [rounds_succ]
      go_wp2
      go_ret
      exact ⟨ret_bool (sameB_eq rfl).symm, 0, rfl⟩
    · obtain ⟨b, off, cap, rfl, h1, hm, _, hc⟩ := hA.plain hn
      obtain ⟨b', off', cap', rfl, h1', hm', _, hc'⟩ := hB.plain (fun h => by subst h; simp at hl; exact hn hl)
      obtain ⟨n, hn'⟩ : ∃ n, n = A.length := ⟨_, rfl⟩
      have hlb : n = B.length := by omega
      clear hA hB hn hl
      rw [← hn'] at h1 ⊢
      rw [← hlb] at h1' ⊢
      have hcA : ∀ j, j < n → w.cell? ⟨b, off + j, none⟩ = some (.int .u8 (A.getD j 0).toNat) := fun j hj => by
        rw [hc j (by omega)]; simp [bv, List.getD, List.getElem?_eq_getElem (show j < A.length by omega)]
      have hcB : ∀ j, j < n → w.cell? ⟨b', off' + j, none⟩ = some (.int .u8 (B.getD j 0).toNat) := fun j hj => by
        rw [hc' j (by omega)]; simp [bv, List.getD, List.getElem?_eq_getElem (show j < B.length by omega)]
      clear hc hc'
      have hnm : n ≤ 9223372036854775807 := by unfold maxLen at hm; omega
      have HA := Lib.hid hn'; have HB := Lib.hid hlb
      clear hn' hlb hm hm'
      go_enter Try.func30, Try.ntmps30
      go_wp2
      go_loopw [5] (fun i wr => ∃ k : Nat, k ≤ n ∧ i = .int .i64 k ∧ Hid (A.take k = B.take k) ∧ ∃ m, wr = w.drewN m) (fun i _ => n - (intOf i).toNat)
      case atStart => exact ⟨0, by omega, rfl, Lib.hid rfl, 0, rfl⟩
      case round =>
        obtain ⟨k, hk, rfl, heq, m, rfl⟩ := hrel
        by_cases hlt : k < n
        · have h0 := hcA k hlt
          have h0' := hcB k hlt
          have hA1 : A.take (k + 1) = A.take k ++ [A.getD k 0] := by
            rw [List.take_succ_eq_append_getElem (by have := HA.out; omega)]; simp [List.getD, List.getElem?_eq_getElem (show k < A.length by have := HA.out; omega)]
          have hB1 : B.take (k + 1) = B.take k ++ [B.getD k 0] := by
            rw [List.take_succ_eq_append_getElem (by have := HB.out; omega)]; simp [List.getD, List.getElem?_eq_getElem (show k < B.length by have := HB.out; omega)]
          obtain ⟨x, hx⟩ : ∃ x, x = A.getD k 0 := ⟨_, rfl⟩
          obtain ⟨y, hy⟩ : ∃ y, y = B.getD k 0 := ⟨_, rfl⟩
          rw [← hx] at h0 hA1
          rw [← hy] at h0' hB1
          clear hcA hcB hx hy
          by_cases hxy : x = y
          · subst hxy
            have heq1 := Lib.hid (show A.take (k + 1) = B.take (k + 1) by rw [hA1, hB1, heq.out])
            clear hA1 hB1
            go_wp2_with fail
            go_quiet (fail)
            go_wp2
            go_roundw
            case rel => exact ⟨k + 1, by omega, by go_num, heq1, _, rfl⟩
            case measure => simp [intOf]; omega
          · have hne : ((x.toNat : Int) != (y.toNat : Int)) = true := by
              rw [bne_iff_ne]; intro h; exact hxy (UInt8.toNat_inj.1 (by omega))
            have hf := Lib.hid (show sameB A B = false by
              refine sameB_ne fun h => hxy ?_
              have := congrArg (List.take (k + 1)) h
              rw [hA1, hB1, heq.out] at this
              simpa using this)
            clear hA1 hB1 hxy
            go_wp2_with fail
            go_quiet (fail)
            go_wp2
            go_ret
            exact ⟨ret_bool hf.out.symm, m + nq, World.drewN_drewN ..⟩
        · have hkn := Lib.hid (show k = n by omega)
          go_wp2
          go_ret
          refine ⟨ret_bool (sameB_eq ?_).symm, _, rfl⟩
          have := heq.out
          rwa [hkn.out, List.take_of_length_le (by have := HA.out; omega), List.take_of_length_le (by have := HB.out; omega)] at this
  · obtain ⟨ao, cap, rfl, hA1, hA2, _⟩ := hA
    obtain ⟨ao', cap', rfl, hB1, hB2, _⟩ := hB
    have hne : ((A.length : Int) != (B.length : Int)) = true := by rw [bne_iff_ne]; omega
    have hf := Lib.hid (sameB_ne (fun h => hl (by rw [h]) : A ≠ B))
    clear hl
    go_enter Try.func30, Try.ntmps30
    go_wp2
    go_ret
    exact ⟨ret_bool hf.out.symm, 0, rfl⟩
end Go.Proofs.Ytdpaobflknkbkaa
namespace Go.Proofs.Ytdpaobflknkbkaa
open Go.RowKit Go.ChangeShapes
set_option linter.unusedVariables false
theorem heap_setCell_at {w : World} {b i : Nat} {c : Array Value} {t : TypeId} {z : Nat × Nat} (u : Value) (h : w.heap[b]? = some (.cells c t z)) :
    (w.setCell ⟨b, i, none⟩ u).heap[b]? = some (.cells (c.setIfInBounds i u) t z) := by
  simp only [World.setCell, Array.getElem?_modify, h]
  simp
theorem Fr.one (w : World) (b i : Nat) (u : Value) : Fr (· = b) w (w.setCell ⟨b, i, none⟩ u) := (Fr.refl (· = b) w).setCell (p := ⟨b, i, none⟩) (.inl rfl) u
theorem BytesIn.drop {F : Nat → Prop} {w : World} {ao : Option Addr} {cap : Nat} {X : List UInt8} (h : BytesIn F w (.slice ao X.length cap) X) (n : Nat) (hn : n ≤ X.length) (b off : Nat) (ha : ao = some ⟨b, off, none⟩) :
    BytesIn F w (.slice (some ⟨b, off + n, none⟩) (X.length - n) (cap - n)) (X.drop n) := by
  obtain ⟨ao', cap', hv, h1, hm, h2, h3⟩ := h
  simp only [Value.slice.injEq] at hv
  obtain ⟨rfl, _, rfl⟩ := hv
  refine ⟨some ⟨b, off + n, none⟩, cap - n, by rw [List.length_drop], by rw [List.length_drop]; omega, by omega, (fun h => by cases h), ?_⟩
  intro a hab
  cases hab
  refine ⟨fun j u hu => ?_, fun hX => (h3 _ ha).2 (fun h => by subst h; simp at hX)⟩
  have := (h3 _ ha).1 (n + j) u (by rw [← hu, List.getElem?_map, List.getElem?_map, List.getElem?_drop])
  rw [addr_plain] at this ⊢
  rwa [Nat.add_assoc]
end Go.Proofs.Ytdpaobflknkbkaa
namespace Go.Proofs.Ytdpaobflknkbkaa
open Go.RowKit Go.ChangeShapes
set_option linter.unusedVariables false
theorem BytesIn.take {F : Nat → Prop} {w : World} {ao : Option Addr} {l cap : Nat} {X : List UInt8} (h : BytesIn F w (.slice ao l cap) X) (n : Nat) (hn : n ≤ X.length) :
    BytesIn F w (.slice ao n cap) (X.take n) := by
  obtain ⟨ao', cap', hv, h1, hm, h2, h3⟩ := h
  simp only [Value.slice.injEq] at hv
  obtain ⟨rfl, _, rfl⟩ := hv
  have hl : (X.take n).length = n := by rw [List.length_take]; omega
  refine ⟨ao, cap, by rw [hl], by omega, hm, h2, fun a ha => ⟨fun j u hu => (h3 a ha).1 j u ?_, fun hX => (h3 a ha).2 (fun h => by subst h; simp at hX)⟩⟩
  rw [← hu, List.map_take, List.getElem?_take]
  have hj : j < n := by have := (List.getElem?_eq_some_iff.1 hu).1; simp at this; omega
  rw [if_pos hj]
end Go.Proofs.Ytdpaobflknkbkaa
namespace Go.Proofs.Ytdpaobflknkbkaa
open Go.RowKit Go.ChangeShapes
set_option linter.unusedVariables false
theorem Fr.setRow {S : Nat → Prop} {a w : World} {g : Nat} (h : Fr S a w) (hg : S g ∨ a.heap.size ≤ g) (cs : Array Value) : Fr S a (w.setRow g cs) :=
  ⟨h.os, h.tape, h.output, by simpa using h.size, fun i hi hs => by
    rw [setRow_other _ _ _ _ (by rintro rfl; rcases hg with h1 | h1; exact hs h1; omega), h.block i hi hs]⟩
theorem wpList_store_row {P : Program} {ops : Array Oper} {rest : List Oper} {op : Oper} {a : Act} {w : World} {Q : Exit → Act → World → Prop} (hgd : op.guard = none) (ty : TypeId) (x y : Operand) (ho : op.op = .store ty x y)
    (g : Nat) (cells old : Array Value) (t : TypeId) (hx : a.eval x = .pointer (some ⟨g, 0, none⟩)) (hy : a.eval y = .agg cells)
    (hg : w.heap[g]? = some (.cells old t (0, 0))) (hi : (P.info? ty).map (·.size) = some cells.size) (hs : old.size = cells.size) (h1 : cells.all (·.oneCell') = true)
    (h : wpList P ops Q rest (a.put op.dst undef) (w.setRow g cells)) : wpList P ops Q (op :: rest) a w :=
  wpList_plain hgd fun _ hK => by
    unfold Oper.wp execOp
    simp only [ho, hx, hy, Instr.storeAt, Instr.sureAddr, Sem.run_bind, Sem.run_pure, Result.andThen_ok, run_storeVar_row w g t ty old cells hg hi hs h1]
    exact hK _ _ h
def Byt (w : World) (g : Nat) (L : List UInt8) : Prop := w.heap[g]? = some (.cells (L.map bv).toArray 5 (0, 0))
theorem Byt.cell {w : World} {g : Nat} {L : List UInt8} (h : Byt w g L) (i : Nat) (hi : i < L.length) : w.cell? ⟨g, i, none⟩ = some (.int .u8 (L.getD i 0).toNat) := by
  rw [cell_of_row _ _ _ _ _ _ h, List.getElem?_toArray, List.getElem?_map, List.getD_eq_getElem?_getD, List.getElem?_eq_getElem hi]
  rfl
theorem Byt.free {w : World} {g : Nat} {L : List UInt8} (h : Byt w g L) (i : Nat) : w.frozen? ⟨g, i, none⟩ = false := frozen_of_row _ _ _ _ _ h
theorem Byt.keep {S : Nat → Prop} {w w' : World} {g : Nat} {L : List UInt8} (h : Byt w g L) (hf : Fr S w w') (hg : ¬ S g) : Byt w' g L := hf.heap h hg
theorem Byt.bytes {w : World} {g : Nat} {L : List UInt8} (h : Byt w g L) (hl : L.length ≤ maxLen) : BytesIn (fun k => k = g) w (.slice (some ⟨g, 0, none⟩) L.length L.length) L := by
  refine ⟨_, L.length, rfl, Nat.le_refl _, hl, (fun h => by cases h), ?_⟩
  intro a ha
  cases ha
  refine ⟨fun j u hu => ?_, fun _ => rfl⟩
  rw [addr_plain, Nat.zero_add, cell_of_row _ _ _ _ _ _ h]
  simpa using hu
theorem Byt.lt {w : World} {g : Nat} {L : List UInt8} (h : Byt w g L) : g < w.heap.size := lt_of_block h
theorem Byt.new (w : World) (L : List UInt8) : Byt (w.alloc (.cells (L.map bv).toArray 5)) w.heap.size L := heap_alloc_new w _
theorem run_make_bytes (w : World) (m : Int) (n : Nat) (hm : m = n) (hn : n ≤ 140737488355328) :
    (Instr.makeSlice 44 (.int .i64 m) (.int .i64 m)).run Try.prog w = .ok (.slice (some ⟨w.heap.size, 0, none⟩) n n) (w.alloc (.cells ((List.replicate n (0 : UInt8)).map bv).toArray 5)) := by
  subst hm
  obtain ⟨i0, hi, hz0, hz1, hz2⟩ := info_parts Try.infoB
  have h := run_make (P := Try.prog) w 44 5 i0 (.int .u8 0) Try.underlying44 hi hz0 .i64 .i64 (n : Int) (n : Int) (by omega) (Int.le_refl _) (by rw [hz2]; omega) (by omega)
  rw [h, hz1, Int.toNat_natCast, Nat.mul_one]
  have e : madeCells (Value.int .u8 0).cells n = ((List.replicate n (0 : UInt8)).map bv).toArray := by
    apply Array.ext'
    simp only [madeCells, Value.cells, Array.toList_map, Array.toList_range, List.map_replicate]
    apply List.ext_getElem
    · simp
    · intro k h1 h2
      simp [Nat.mod_one]
      rfl
  rw [e]
def BytT (w : World) (g : Nat) (T : TypeId) (L : List UInt8) : Prop := w.heap[g]? = some (.cells (L.map bv).toArray T (0, 0))
theorem BytT.cell {w : World} {g : Nat} {T : TypeId} {L : List UInt8} (h : BytT w g T L) (i : Nat) (hi : i < L.length) : w.cell? ⟨g, i, none⟩ = some (.int .u8 (L.getD i 0).toNat) := by
  rw [cell_of_row _ _ _ _ _ _ h, List.getElem?_toArray, List.getElem?_map, List.getD_eq_getElem?_getD, List.getElem?_eq_getElem hi]
  rfl
theorem BytT.free {w : World} {g : Nat} {T : TypeId} {L : List UInt8} (h : BytT w g T L) (i : Nat) : w.frozen? ⟨g, i, none⟩ = false := frozen_of_row _ _ _ _ _ h
theorem BytT.keep {S : Nat → Prop} {w w' : World} {g : Nat} {T : TypeId} {L : List UInt8} (h : BytT w g T L) (hf : Fr S w w') (hg : ¬ S g) : BytT w' g T L := hf.heap h hg
theorem BytT.lt {w : World} {g : Nat} {T : TypeId} {L : List UInt8} (h : BytT w g T L) : g < w.heap.size := lt_of_block h
end Go.Proofs.Ytdpaobflknkbkaa
namespace Go.Proofs.Ytdpaobflknkbkaa
open Go.RowKit Go.ChangeShapes
set_option linter.unusedVariables false
def inB (c : UInt8) (lo hi : Nat) : Bool := decide (lo ≤ c.toNat ∧ c.toNat ≤ hi)
theorem rwithin_any (c : UInt8) (lo hi : Nat) (w : World) :
    Calls Try.prog 82 #[.int .u8 c.toNat, .int .u8 lo, .int .u8 hi] w fun e w' => e = .returned (.bool (inB c lo hi)) ∧ w = w' := by
  by_cases h1 : lo ≤ c.toNat
  · by_cases h2 : c.toNat ≤ hi
    · have HE := Lib.hid (show inB c lo hi = true by simp [inB, h1, h2])
      have h1' : (lo : Int) ≤ (c.toNat : Int) := by omega
      have h2' : (c.toNat : Int) ≤ (hi : Int) := by omega
      rw [HE.out]
      go_enter Try.func82, Try.ntmps82
      go_wp2
      go_ret
      exact ⟨rfl, rfl⟩
    · have HE := Lib.hid (show inB c lo hi = false by simp [inB, h1, h2])
      have h1' : (lo : Int) ≤ (c.toNat : Int) := by omega
      have h2' : ¬ (c.toNat : Int) ≤ (hi : Int) := by omega
      rw [HE.out]
      go_enter Try.func82, Try.ntmps82
      go_wp2
      go_ret
      exact ⟨rfl, rfl⟩
  · have HE := Lib.hid (show inB c lo hi = false by simp [inB]; omega)
    have h1' : ¬ (lo : Int) ≤ (c.toNat : Int) := by omega
    rw [HE.out]
    go_enter Try.func82, Try.ntmps82
    go_wp2
    go_ret
    exact ⟨rfl, rfl⟩
def okC (c : UInt8) : Bool := inB c 97 122 || inB c 65 90 || inB c 48 57 || c == 46 || c == 95 || c == 43 || c == 45
def nameB (L : List UInt8) : Bool := L.all okC && decide (0 < L.length) && decide (L.length ≤ 24) && !(L.getD 0 0 == 46)
theorem all_take_succ (L : List UInt8) (i : Nat) (h : i < L.length) : (L.take (i + 1)).all okC = ((L.take i).all okC && okC L[i]) := by
  rw [List.take_succ_eq_append_getElem h, List.all_append]
  simp
theorem nameB_bad (L : List UInt8) (i : Nat) (h : i < L.length) (hc : okC L[i] = false) : nameB L = false := by
  have : L.all okC = false := by
    rw [List.all_eq_false]
    exact ⟨L[i], List.getElem_mem _, by simp [hc]⟩
  simp [nameB, this]
theorem sign_eq (c : UInt8) (n : Nat) (h : c = UInt8.ofNat n) (hn : n < 256) : ((c.toNat : Int) != (n : Int)) = false := by
  rw [h, UInt8.toNat_ofNat', bne_eq_false_iff_eq]
  omega
theorem sign_ne (c : UInt8) (n : Nat) (h : ¬ c = UInt8.ofNat n) (hn : n < 256) : ((c.toNat : Int) != (n : Int)) = true := by
  rw [bne_iff_ne]
  intro e
  apply h
  apply UInt8.toNat_inj.1
  rw [UInt8.toNat_ofNat']
  omega
set_option maxRecDepth 100000 in
set_option maxHeartbeats 2000000 in
theorem rName_any (s : ByteArray) (hs : s.size ≤ 140737488351232) (w : World) :
    Calls Try.prog 70 #[.string s] w fun e w' => e = .returned (.bool (nameB s.data.toList)) ∧ w = w' := by
  have hsl : s.size = s.data.toList.length := by simp
  have HSL := Lib.hid hsl
  obtain ⟨RS, hRS⟩ : ∃ RS, RS = nameB s.data.toList := ⟨_, rfl⟩
  rw [← hRS]
  have HRS := Lib.hid hRS
  have HW1 : ∀ (c : UInt8) W, Calls Try.prog 82 #[.int .u8 c.toNat, .int .u8 97, .int .u8 122] W fun e w' => e = .returned (.bool (inB c 97 122)) ∧ W = w' := fun c W => rwithin_any c 97 122 W
  have HW2 : ∀ (c : UInt8) W, Calls Try.prog 82 #[.int .u8 c.toNat, .int .u8 65, .int .u8 90] W fun e w' => e = .returned (.bool (inB c 65 90)) ∧ W = w' := fun c W => rwithin_any c 65 90 W
  have HW3 : ∀ (c : UInt8) W, Calls Try.prog 82 #[.int .u8 c.toNat, .int .u8 48, .int .u8 57] W fun e w' => e = .returned (.bool (inB c 48 57)) ∧ W = w' := fun c W => rwithin_any c 48 57 W
  have HW1 := Lib.hid HW1
  have HW2 := Lib.hid HW2
  have HW3 := Lib.hid HW3
  clear hsl hRS
  go_enter Try.func70, Try.ntmps70
  go_wp2
  go_loop [3] (fun iv => ∃ i : Nat, i ≤ s.size ∧ iv = .int .i64 i ∧ Hid ((s.data.toList.take i).all okC = true)) (fun iv => s.size - (intOf iv).toNat)
  case atStart => exact ⟨0, by omega, rfl, Lib.hid rfl⟩
  case round =>
    obtain ⟨i, hi, rfl, hA⟩ := hrel
    by_cases hlt : i < s.size
    · have hil : i < s.data.toList.length := by rw [← HSL.out]; exact hlt
      have hst := all_take_succ s.data.toList i hil
      rw [hA.out, Bool.true_and] at hst
      have hbad := nameB_bad s.data.toList i hil
      obtain ⟨c, hc⟩ : ∃ c, c = s.data.toList[i] := ⟨_, rfl⟩
      rw [← hc] at hst hbad
      have hg : ∀ h, s[i]'h = c := fun h => by rw [hc]; rfl
      have HST := Lib.hid hst
      have HBAD := Lib.hid hbad
      have hi0 : (0 : Int) ≤ (i : Int) := by omega
      have hi1 : (i : Int) < (s.size : Int) := by omega
      clear hA hst hbad hc
      by_cases n1 : inB c 97 122 = true
      · have E1 := Lib.hid n1
        clear n1
        have HOK := Lib.hid (show okC c = true by simp [okC, E1.out])
        have hn := Lib.hid (HST.out.trans HOK.out)
        clear HOK
        go_wp2_with (first
          | (go_at_call 82; (with_reducible refine (HW1.out c _).mono ?_); rintro e w' ⟨rfl, rfl⟩; rw [E1.out]))
        go_round
        case rel => exact ⟨i + 1, by omega, by go_num, hn⟩
        case measure => simp [intOf]; omega
      · have E1 := Lib.hid (show inB c 97 122 = false by simpa using n1)
        clear n1
        by_cases n2 : inB c 65 90 = true
        · have E2 := Lib.hid n2
          clear n2
          have HOK := Lib.hid (show okC c = true by simp [okC, E2.out])
          have hn := Lib.hid (HST.out.trans HOK.out)
          clear HOK
          go_wp2_with (first
            | (go_at_call 82; (with_reducible refine (HW1.out c _).mono ?_); rintro e w' ⟨rfl, rfl⟩; rw [E1.out])
            | (go_at_call 82; (with_reducible refine (HW2.out c _).mono ?_); rintro e w' ⟨rfl, rfl⟩; rw [E2.out]))
          go_round
          case rel => exact ⟨i + 1, by omega, by go_num, hn⟩
          case measure => simp [intOf]; omega
        · have E2 := Lib.hid (show inB c 65 90 = false by simpa using n2)
          clear n2
          by_cases n3 : inB c 48 57 = true
          · have E3 := Lib.hid n3
            clear n3
            have HOK := Lib.hid (show okC c = true by simp [okC, E3.out])
            have hn := Lib.hid (HST.out.trans HOK.out)
            clear HOK
            go_wp2_with (first
              | (go_at_call 82; (with_reducible refine (HW1.out c _).mono ?_); rintro e w' ⟨rfl, rfl⟩; rw [E1.out])
              | (go_at_call 82; (with_reducible refine (HW2.out c _).mono ?_); rintro e w' ⟨rfl, rfl⟩; rw [E2.out])
              | (go_at_call 82; (with_reducible refine (HW3.out c _).mono ?_); rintro e w' ⟨rfl, rfl⟩; rw [E3.out]))
            go_round
            case rel => exact ⟨i + 1, by omega, by go_num, hn⟩
            case measure => simp [intOf]; omega
          · have E3 := Lib.hid (show inB c 48 57 = false by simpa using n3)
            clear n3
            by_cases N4 : c = 46
            · have d4 : ((c.toNat : Int) != 46) = false := sign_eq c 46 N4 (by decide)
              have HOK := Lib.hid (show okC c = true by simp [okC, N4])
              have hn := Lib.hid (HST.out.trans HOK.out)
              clear HOK N4
              go_wp2_with (first
                | (go_at_call 82; (with_reducible refine (HW1.out c _).mono ?_); rintro e w' ⟨rfl, rfl⟩; rw [E1.out])
                | (go_at_call 82; (with_reducible refine (HW2.out c _).mono ?_); rintro e w' ⟨rfl, rfl⟩; rw [E2.out])
                | (go_at_call 82; (with_reducible refine (HW3.out c _).mono ?_); rintro e w' ⟨rfl, rfl⟩; rw [E3.out]))
              go_round
              case rel => exact ⟨i + 1, by omega, by go_num, hn⟩
              case measure => simp [intOf]; omega
            · have d4 : ((c.toNat : Int) != 46) = true := sign_ne c 46 N4 (by decide)
              by_cases N5 : c = 95
              · have d5 : ((c.toNat : Int) != 95) = false := sign_eq c 95 N5 (by decide)
                have HOK := Lib.hid (show okC c = true by simp [okC, N5])
                have hn := Lib.hid (HST.out.trans HOK.out)
                clear HOK N4 N5
                go_wp2_with (first
                  | (go_at_call 82; (with_reducible refine (HW1.out c _).mono ?_); rintro e w' ⟨rfl, rfl⟩; rw [E1.out])
                  | (go_at_call 82; (with_reducible refine (HW2.out c _).mono ?_); rintro e w' ⟨rfl, rfl⟩; rw [E2.out])
                  | (go_at_call 82; (with_reducible refine (HW3.out c _).mono ?_); rintro e w' ⟨rfl, rfl⟩; rw [E3.out]))
                go_round
                case rel => exact ⟨i + 1, by omega, by go_num, hn⟩
                case measure => simp [intOf]; omega
              · have d5 : ((c.toNat : Int) != 95) = true := sign_ne c 95 N5 (by decide)
                by_cases N6 : c = 43
                · have d6 : ((c.toNat : Int) != 43) = false := sign_eq c 43 N6 (by decide)
                  have HOK := Lib.hid (show okC c = true by simp [okC, N6])
                  have hn := Lib.hid (HST.out.trans HOK.out)
                  clear HOK N4 N5 N6
                  go_wp2_with (first
                    | (go_at_call 82; (with_reducible refine (HW1.out c _).mono ?_); rintro e w' ⟨rfl, rfl⟩; rw [E1.out])
                    | (go_at_call 82; (with_reducible refine (HW2.out c _).mono ?_); rintro e w' ⟨rfl, rfl⟩; rw [E2.out])
                    | (go_at_call 82; (with_reducible refine (HW3.out c _).mono ?_); rintro e w' ⟨rfl, rfl⟩; rw [E3.out]))
                  go_round
                  case rel => exact ⟨i + 1, by omega, by go_num, hn⟩
                  case measure => simp [intOf]; omega
                · have d6 : ((c.toNat : Int) != 43) = true := sign_ne c 43 N6 (by decide)
                  by_cases N7 : c = 45
                  · have d7 : ((c.toNat : Int) != 45) = false := sign_eq c 45 N7 (by decide)
                    have HOK := Lib.hid (show okC c = true by simp [okC, N7])
                    have hn := Lib.hid (HST.out.trans HOK.out)
                    clear HOK N4 N5 N6 N7
                    go_wp2_with (first
                      | (go_at_call 82; (with_reducible refine (HW1.out c _).mono ?_); rintro e w' ⟨rfl, rfl⟩; rw [E1.out])
                      | (go_at_call 82; (with_reducible refine (HW2.out c _).mono ?_); rintro e w' ⟨rfl, rfl⟩; rw [E2.out])
                      | (go_at_call 82; (with_reducible refine (HW3.out c _).mono ?_); rintro e w' ⟨rfl, rfl⟩; rw [E3.out]))
                    go_round
                    case rel => exact ⟨i + 1, by omega, by go_num, hn⟩
                    case measure => simp [intOf]; omega
                  · have d7 : ((c.toNat : Int) != 45) = true := sign_ne c 45 N7 (by decide)
                    have HB := Lib.hid (HRS.out.trans (HBAD.out (show okC c = false by simp [okC, E1.out, E2.out, E3.out, N4, N5, N6, N7])))
                    clear N4 N5 N6 N7
                    go_wp2_with (first
                      | (go_at_call 82; (with_reducible refine (HW1.out c _).mono ?_); rintro e w' ⟨rfl, rfl⟩; rw [E1.out])
                      | (go_at_call 82; (with_reducible refine (HW2.out c _).mono ?_); rintro e w' ⟨rfl, rfl⟩; rw [E2.out])
                      | (go_at_call 82; (with_reducible refine (HW3.out c _).mono ?_); rintro e w' ⟨rfl, rfl⟩; rw [E3.out]))
                    go_ret
                    exact ⟨ret_bool HB.out.symm, rfl⟩
    · have hid : decide ((i : Int) < (s.size : Int)) = false := by rw [decide_eq_false_iff_not]; omega
      have HALL := Lib.hid (show s.data.toList.all okC = true by
        have h := hA.out
        rwa [List.take_of_length_le (by rw [← HSL.out]; omega)] at h)
      clear hA
      by_cases h0 : 0 < s.size
      · have h0' : (0 : Int) < (s.size : Int) := by omega
        by_cases h24 : s.size ≤ 24
        · have h24' : (s.size : Int) ≤ 24 := by omega
          have h0l : 0 < s.data.toList.length := by rw [← HSL.out]; exact h0
          obtain ⟨c, hc⟩ : ∃ c, c = s.data.toList[0]'h0l := ⟨_, rfl⟩
          have hg : ∀ h, s[0]'h = c := fun h => by rw [hc]; rfl
          have hgd : s.data.toList.getD 0 0 = c := by rw [List.getD_eq_getElem?_getD, List.getElem?_eq_getElem h0l, hc]; rfl
          by_cases hdot : c = 46
          · have hd1 : ((c.toNat : Int) != 46) = false := sign_eq c 46 hdot (by decide)
            have HE := Lib.hid (HRS.out.trans (show nameB s.data.toList = false by rw [nameB, hgd, hdot]; simp))
            clear hdot hc hgd
            go_wp2_with fail
            go_ret
            exact ⟨ret_bool HE.out.symm, rfl⟩
          · have hd1 : ((c.toNat : Int) != 46) = true := sign_ne c 46 hdot (by decide)
            have HE := Lib.hid (HRS.out.trans (show nameB s.data.toList = true by rw [nameB, hgd, HALL.out, ← HSL.out]; simp [h0, h24, hdot]))
            clear hdot hc hgd
            go_wp2_with fail
            go_ret
            exact ⟨ret_bool HE.out.symm, rfl⟩
        · have h24' : ¬ (s.size : Int) ≤ 24 := by omega
          have HE := Lib.hid (HRS.out.trans (show nameB s.data.toList = false by rw [nameB, ← HSL.out]; simp [h24]))
          go_wp2_with fail
          go_ret
          exact ⟨ret_bool HE.out.symm, rfl⟩
      · have h0' : ¬ (0 : Int) < (s.size : Int) := by omega
        have HE := Lib.hid (HRS.out.trans (show nameB s.data.toList = false by rw [nameB, ← HSL.out]; simp [h0]))
        go_wp2_with fail
        go_ret
        exact ⟨ret_bool HE.out.symm, rfl⟩
end Go.Proofs.Ytdpaobflknkbkaa
namespace Go.Proofs.Ytdpaobflknkbkaa
open Go.RowKit Go.ChangeShapes
set_option linter.unusedVariables false
def pathC (H : List UInt8) (N : ByteArray) : Array Value := (H.map bv ++ [Value.string N]).toArray
theorem pathC_size (H : List UInt8) (hH : H.length = 20) (N : ByteArray) : (pathC H N).size = 21 := by simp [pathC, hH]
theorem pathC_name (H : List UInt8) (hH : H.length = 20) (N : ByteArray) : (pathC H N)[20]? = some (.string N) := by
  rw [pathC, List.getElem?_toArray, List.getElem?_append_right (by simp [hH])]
  simp [hH]
theorem pathC_one (H : List UInt8) (N : ByteArray) : (pathC H N).all (·.oneCell') = true := by
  rw [pathC]
  refine all_oneCell_toArray (fun u hu => ?_)
  rcases List.mem_append.1 hu with h | h
  · exact bv_one H u h
  · obtain rfl := List.mem_singleton.1 h
    rfl
end Go.Proofs.Ytdpaobflknkbkaa
