/- Laid together: DOps3 LogL BlobD DOps4 JShape JEnt -/
import Derived.Test.YtcbbcihfooaggaaBe6
import Derived.Test.YtcbbcihfooaggaaBe5
import Derived.Test.YtcbbcihfooaggaaRows
import Derived.Deep.RegionHeld3

namespace Go.Proofs.Ytcbbcihfooaggaa
open Go.RowKit Go.ChangeShapes
set_option linter.unusedVariables false
def ToldT (F : Nat → Prop) (w : World) (v : Value) (L : List UInt8) : Prop :=
  (v = .slice none 0 0 ∧ L = []) ∨ ∃ b T C cap, v = .slice (some ⟨b, 0, none⟩) L.length cap ∧ F b ∧ w.heap[b]? = some (.cells C T (0, 0)) ∧ C.size = cap ∧ L.length ≤ cap ∧ cap ≤ maxLen ∧ C.toList.take L.length = L.map bv
theorem ToldT.nil (F : Nat → Prop) (w : World) : ToldT F w (.slice none 0 0) [] := .inl ⟨rfl, rfl⟩
theorem ToldT.keep {F S : Nat → Prop} {w w' : World} {v : Value} {L : List UInt8} (h : ToldT F w v L) (hf : Fr S w w') (hd : ∀ k, k < w.heap.size → F k → ¬ S k) : ToldT F w' v L := by
  rcases h with h | ⟨b, T, C, cap, h1, h2, h3, h4⟩
  · exact .inl h
  · exact .inr ⟨b, T, C, cap, h1, h2, hf.heap h3 (hd b (lt_of_block h3) h2), h4⟩
theorem ToldT.mono {F G : Nat → Prop} {w : World} {v : Value} {L : List UInt8} (h : ToldT F w v L) (hd : ∀ k, k < w.heap.size → F k → G k) : ToldT G w v L := by
  rcases h with h | ⟨b, T, C, cap, h1, h2, h3, h4⟩
  · exact .inl h
  · exact .inr ⟨b, T, C, cap, h1, hd b (lt_of_block h3) h2, h3, h4⟩
theorem ToldT.bytes {F : Nat → Prop} {w : World} {v : Value} {L : List UInt8} (h : ToldT F w v L) : BytesIn F w v L := by
  rcases h with ⟨rfl, rfl⟩ | ⟨b, T, C, cap, rfl, h2, h3, h4, h5, h6, h7⟩
  · exact BytesIn.nil _ _
  · refine ⟨_, cap, rfl, h5, h6, (fun h => by cases h), fun a ha => ?_⟩
    cases ha
    refine ⟨fun j u hu => ?_, fun _ => h2⟩
    rw [addr_plain, Nat.zero_add, cell_of_row _ _ _ _ _ _ h3]
    rw [← h7, List.getElem?_take] at hu
    split at hu
    · rwa [Array.getElem?_toList] at hu
    · cases hu
theorem ToldT.ofOwn {F : Nat → Prop} {w : World} {v : Value} {L : List UInt8} (h : OwnB F w v L) : ToldT F w v L := by
  rcases h.1.2 with ⟨rfl, h1⟩ | ⟨g, cap, cur, rfl, hb, hg, hn, hm, hs, ht⟩
  · exact .inl ⟨rfl, List.eq_nil_of_length_eq_zero h1⟩
  · exact .inr ⟨g, _, cur, cap, rfl, h.2 g rfl, hg, by simpa using hs, hn, hm, by simpa using ht⟩
def Dv.read (d : Dv) (s : Nat) (a : Int) : Int × List UInt8 := if d.down = true then (10, []) else if a < 0 ∨ (s : Int) ≤ a then (2, []) else (0, d.seen a.toNat)
theorem Dv.seen_length {d : Dv} {s a : Nat} (h : d.Right s) (ha : a < s) : (d.seen a).length = 64 := by
  unfold Dv.seen
  rw [← wakeL_sec (fun _ => true) s a ha d.waits 0 d.all h.waits h.all]
  exact secAt_length _ s a (wakeL_length _ s d.waits 0 d.all h.waits h.all) ha
theorem aRead {D : Nat → Prop} (w : World) (g s : Nat) (d : Dv) (a : Int) (hn6 : d.waits.length ≤ 1000000) (h : DevAt w D g s d) :
    Calls Try.prog 56 #[.pointer (some ⟨g, 0, none⟩), .int .i64 a] w fun e w' => ∃ v, e = .returned (.tuple #[v, .int .i64 (d.read s a).1]) ∧ ToldT (fun k => w.heap.size ≤ k) w' v (d.read s a).2 ∧ Fr (fun _ => False) w w' := by
  have hR := h.right
  obtain ⟨F, kb, vw, hm, hD⟩ := h
  obtain ⟨l, h1, h2, h3, hh⟩ := hm.head
  have hc := dReady_any w g kb s vw d.deeds l d.down hh
  unfold Dv.read
  cases hd : d.down with
  | true =>
    rw [hd] at hc
    clear hm hh hR h1
    go_enter Try.func56, Try.ntmps56
    go_wp2_with (go_at_call 46; refine hc.mono ?_; rintro e w1 ⟨rfl, rfl⟩)
    go_ret2
    exact ⟨_, rfl, ToldT.nil _ _, Fr.refl _ _⟩
  | false =>
    rw [hd] at hc hh
    rw [if_neg (by decide)]
    have hha := dHas_any w g kb s vw d.deeds l false a hh
    by_cases hs : 0 ≤ a ∧ a < (s : Int)
    · rw [show decide (0 ≤ a ∧ a < (s : Int)) = true by rw [decide_eq_true_iff]; exact hs] at hha
      rw [if_neg (by omega)]
      obtain ⟨n, rfl⟩ : ∃ n : Nat, a = n := ⟨a.toNat, by omega⟩
      have hns : n < s := by omega
      have hsl := Dv.seen_length hR hns
      obtain ⟨xs, hxs⟩ := exists_valsX d.waits hR.waits
      have hse : Calls Try.prog 79 #[.pointer (some ⟨g, 0, none⟩), .int .i64 n] w fun e w' => e = .returned (.agg ((d.seen n).map bv).toArray) ∧ Fr (fun _ => False) w w' := by
        have hx := callsIn_wide.1 (dSeen_in w g kb d.all xs vw d.deeds l false n hh hm.kept hR.all (by rw [hxs]; exact hm.wr) hns hm.small (by rw [← hxs] at hn6; simpa [valsX] using hn6))
        unfold Dv.seen
        rw [← hxs]
        exact hx
      rw [show (n : Int).toNat = n from rfl]
      obtain ⟨C, hC⟩ : ∃ C, C = ((d.seen n).map bv).toArray := ⟨_, rfl⟩
      rw [← hC] at hse
      have hCs : C.size = 64 := by rw [hC, List.size_toArray, List.length_map, hsl]
      have hz2 : (Try.prog.info? 104).map (·.size) = some C.size := by rw [hCs]; kernel_rfl
      have hC1 : C.all (·.oneCell') = true := by rw [hC]; exact all_oneCell_toArray (bv_one _)
      have hzs : zSec.size = C.size := by rw [zSec_size, hCs]
      have hzv := zSec_zero
      have HC := Lib.hid (And.intro hC hsl)
      have HSE := Lib.hid hse
      clear hm hh hR h1 hs hC hsl hse hns
      go_enter Try.func56, Try.ntmps56
      go_wp2_with (first
        | (go_at_call 46; refine hc.mono ?_; rintro e w1 ⟨rfl, rfl⟩)
        | (go_at_call 73; refine hha.mono ?_; rintro e w1 ⟨rfl, rfl⟩)
        | (go_at_call 79; refine HSE.out.mono ?_; rintro e w2 ⟨rfl, hf⟩; (have HS := Lib.hid hf); clear hf)
        | (with_reducible refine wpList_store_new rfl 104 (.tmp 7) (.tmp 19) rfl C zSec 104 w2 rfl rfl rfl hz2 hzs hC1 ?_))
      go_ret2
      refine ⟨_, rfl, .inr ⟨w2.heap.size, 104, C, 64, by rw [HC.out.2]; rfl, HS.out.size, heap_alloc_new w2 _, hCs, by rw [HC.out.2]; decide, by decide, ?_⟩, HS.out.alloc _⟩
      rw [HC.out.1]
      exact List.take_of_length_le (by simp)
    · rw [show decide (0 ≤ a ∧ a < (s : Int)) = false by rw [decide_eq_false_iff_not]; exact hs] at hha
      rw [if_pos (by omega)]
      clear hm hh hR h1 hs
      go_enter Try.func56, Try.ntmps56
      go_wp2_with (first
        | (go_at_call 46; refine hc.mono ?_; rintro e w1 ⟨rfl, rfl⟩)
        | (go_at_call 73; refine hha.mono ?_; rintro e w1 ⟨rfl, rfl⟩))
      go_ret2
      exact ⟨_, rfl, ToldT.nil _ _, Fr.refl _ _⟩
set_option maxRecDepth 100000 in
set_option maxHeartbeats 1000000 in
theorem aStat {D : Nat → Prop} (w : World) (g s : Nat) (d : Dv) (h : DevAt w D g s d) :
    Calls Try.prog 32 #[.pointer (some ⟨g, 0, none⟩)] w fun e w' => e = .returned (.agg #[.int .i64 s, .int .i64 d.waits.length, .int .i64 d.deeds, .bool d.down]) ∧ Fr (fun _ => False) w w' := by
  obtain ⟨F, kb, vw, hm, hD⟩ := h
  obtain ⟨l, h1, h2, h3, hh⟩ := hm.head
  obtain ⟨ao, cap, rfl, _, _⟩ := hm.wr.form
  obtain ⟨W0, hW0⟩ : ∃ W0, W0 = w.alloc (.cells #[.int .i64 0, .int .i64 0, .int .i64 0, .bool false] 63) := ⟨_, rfl⟩
  have hf0 : Fr (fun _ => False) w W0 := by rw [hW0]; exact (Fr.refl _ _).alloc _
  have hh2 := hh.keep hf0 id
  have hc := dIs_yes _ g kb s _ d.deeds l d.down hh2
  obtain ⟨c0, _, c2, c3, c4, _⟩ := hh2.cells
  have hnew : W0.heap[w.heap.size]? = some (.cells #[.int .i64 0, .int .i64 0, .int .i64 0, .bool false] 63 (0, 0)) := by rw [hW0]; exact heap_alloc_new _ _
  have HF0 := Lib.hid (And.intro hf0 hnew)
  have HW := Lib.hid hW0
  rw [hW0] at hc
  clear hm hh hh2 h1 hf0 hW0 hnew
  go_enter Try.func32, Try.ntmps32
  go_wp2_with (go_at_call 58; refine hc.mono ?_; rintro e w1 ⟨rfl, rfl⟩)
  rw [← HW.out]
  clear hc
  generalize hgb : w.heap.size = gb at *
  have HGB := Lib.hid hgb
  clear hgb
  go_still_tail 24, (by kernel_rfl)
  obtain ⟨n, hn⟩ : ∃ n, n = d.waits.length := ⟨_, rfl⟩
  refine wpList_store_row rfl 63 (.tmp 2) (.tmp 30) rfl gb #[.int .i64 s, .int .i64 d.waits.length, .int .i64 d.deeds, .bool d.down] #[.int .i64 0, .int .i64 0, .int .i64 0, .bool false] 63 rfl rfl HF0.out.2 (by kernel_rfl) rfl (by kernel_rfl) ?_
  go_wp2
  have hst := setRow_heap W0.drew gb _ #[.int .i64 s, .int .i64 d.waits.length, .int .i64 d.deeds, .bool d.down] _ (0, 0) HF0.out.2
  refine bodyPost_ret (results_cell_row rfl _ _ gb 63 _ (0, 0) _ rfl hst Try.underlying63 rfl (by kernel_rfl)) rfl ⟨rfl, ?_⟩
  exact HF0.out.1.trans (Fr.ofDrew ((Fr.refl (· = gb) W0.drew).setRow (.inl rfl) _)) (fun k e => .inr (by rw [HGB.out, show k = gb from e]; exact Nat.le_refl _))
end Go.Proofs.Ytcbbcihfooaggaa
namespace Go.Proofs.Ytcbbcihfooaggaa
set_option linter.unusedVariables false
def Dv.puts (s : Nat) : Dv → List Pend → Int × Dv
  | d, [] => (0, d)
  | d, p :: ps => if (d.write s p.1 p.2).1 = 0 then Dv.puts s (d.write s p.1 p.2).2 ps else d.write s p.1 p.2
theorem full64_self (b : List UInt8) (h : b.length = 64) : full64 b = b := by simp [full64, h]
theorem Dv.puts_cases (s : Nat) : ∀ (ps : List Pend) (d : Dv), d.down = false → Pends s ps →
    ((d.puts s ps).1 = 0 ∧ (d.puts s ps).2.all = d.all ∧ (d.puts s ps).2.waits = d.waits ++ ps ∧ (d.puts s ps).2.down = false ∧ (d.puts s ps).2.deeds = d.deeds + ps.length ∧ (d.left = 0 → (d.puts s ps).2.left = 0)) ∨
    (d.left ≠ 0 ∧ (d.puts s ps).1 = 10 ∧ (d.puts s ps).2.all = d.all ∧ (d.puts s ps).2.down = true ∧ (d.puts s ps).2.deeds ≤ d.deeds + ps.length ∧ ∃ qs, qs <+: ps ∧ (d.puts s ps).2.waits = d.waits ++ qs)
  | [], d, hd, _ => .inl ⟨rfl, rfl, by simp [Dv.puts], hd, rfl, id⟩
  | p :: ps, d, hd, hp => by
    have hp0 := hp p List.mem_cons_self
    have hps : Pends s ps := fun q hq => hp q (List.mem_cons_of_mem _ hq)
    have hn : ¬ ((p.1 : Int) < 0 ∨ (s : Int) ≤ p.1 ∨ 64 < p.2.length) := by omega
    by_cases h1 : d.left = 1
    · have hw := Dv.write_out hd hn h1
      rw [Dv.puts, hw]
      exact .inr ⟨by omega, rfl, rfl, rfl, by simp, [], List.nil_prefix, by simp⟩
    · have hw := Dv.write_ok hd hn h1
      rw [Dv.puts, hw]
      simp only [if_true]
      rw [full64_self _ hp0.2, Int.toNat_natCast]
      have ih := Dv.puts_cases s ps { all := d.all, waits := d.waits ++ [(p.1, p.2)], left := d.left - 1, deeds := d.deeds + 1, down := d.down } hd hps
      simp only at ih
      rcases ih with ⟨a1, a2, a3, a4, a5, a6⟩ | ⟨b0, b1, b2, b3, b4, qs, b5, b6⟩
      · exact .inl ⟨a1, a2, by rw [a3, List.append_assoc]; rfl, a4, by rw [a5, List.length_cons]; omega, fun h => a6 (by omega)⟩
      · exact .inr ⟨by omega, b1, b2, b3, by rw [List.length_cons]; omega, p :: qs, (List.prefix_cons_inj p).2 b5, by rw [b6, List.append_assoc]; rfl⟩
end Go.Proofs.Ytcbbcihfooaggaa
namespace Go.Proofs.Ytcbbcihfooaggaa
set_option linter.unusedVariables false
def need7 (n : Int) : Int := if n < 1 then 0 else (n - 1) / 64 + 1
theorem need7_nat (n : Nat) : need7 (n : Int) = ((n + 63) / 64 : Nat) := by unfold need7; split <;> omega
def pends7 (f : Nat) : List Nat → List UInt8 → List Pend
  | [], _ => []
  | x :: xs, b => (f + x, full64 (b.take 64)) :: pends7 f xs (b.drop 64)
theorem full64_full (b : List UInt8) (h : b.length ≤ 64) : full64 (full64 b) = full64 b := full64_self _ (full64_length b h)
theorem Dv.write_full (d : Dv) (s : Nat) (a : Int) (b : List UInt8) (h : b.length ≤ 64) : d.write s a (full64 b) = d.write s a b := by
  unfold Dv.write
  rw [full64_length b h, full64_full b h]
  by_cases h1 : d.down = true
  · rw [if_pos h1, if_pos h1]
  · rw [if_neg h1, if_neg h1]
    by_cases h2 : a < 0 ∨ (s : Int) ≤ a
    · rw [if_pos (by omega), if_pos (by omega)]
    · rw [if_neg (by omega), if_neg (by omega)]
theorem take64_le (b : List UInt8) : (b.take 64).length ≤ 64 := by rw [List.length_take]; omega
def Dv.wr7 (d : Dv) (s f : Nat) (xs : List Nat) (b : List UInt8) : Int × Dv := if (d.puts s (pends7 f xs b)).1 = 0 then (d.puts s (pends7 f xs b)).2.flush else d.puts s (pends7 f xs b)
theorem pends7_pends (s f : Nat) : ∀ (xs : List Nat) (b : List UInt8), (∀ x ∈ xs, f + x < s) → Pends s (pends7 f xs b)
  | [], _, _ => fun _ h => by cases h
  | x :: xs, b, h => fun p hp => by
    rw [pends7] at hp
    rcases List.mem_cons.1 hp with rfl | hp
    · exact ⟨h x List.mem_cons_self, full64_length _ (take64_le b)⟩
    · exact pends7_pends s f xs (b.drop 64) (fun y hy => h y (List.mem_cons_of_mem _ hy)) p hp
theorem pends7_length (f : Nat) : ∀ (xs : List Nat) (b : List UInt8), (pends7 f xs b).length = xs.length
  | [], _ => rfl
  | x :: xs, b => by rw [pends7, List.length_cons, List.length_cons, pends7_length f xs]
def Dv.rd7 (d : Dv) (s f : Nat) : List Nat → Int × List UInt8
  | [] => (0, [])
  | x :: xs => if (d.read s ((f + x : Nat) : Int)).1 = 0 then (if (Dv.rd7 d s f xs).1 = 0 then (0, (d.read s ((f + x : Nat) : Int)).2 ++ (Dv.rd7 d s f xs).2) else ((Dv.rd7 d s f xs).1, [])) else ((d.read s ((f + x : Nat) : Int)).1, [])
theorem Dv.read_up {d : Dv} {s a : Nat} (h : d.down = false) (ha : a < s) : d.read s (a : Int) = (0, d.seen a) := by
  unfold Dv.read
  rw [if_neg (by rw [h]; decide), if_neg (by omega), Int.toNat_natCast]
theorem Dv.read_dn {d : Dv} {s : Nat} {a : Int} (h : d.down = true) : d.read s a = (10, []) := by unfold Dv.read; rw [if_pos h]
def Dv.see7 (d : Dv) (f : Nat) (xs : List Nat) : List UInt8 := xs.flatMap (fun x => d.seen (f + x))
theorem Dv.rd7_up {d : Dv} {s f : Nat} (h : d.down = false) : ∀ xs : List Nat, (∀ x ∈ xs, f + x < s) → d.rd7 s f xs = (0, d.see7 f xs)
  | [], _ => rfl
  | x :: xs, hx => by
    rw [Dv.rd7, Dv.read_up h (hx x List.mem_cons_self), Dv.rd7_up h xs (fun y hy => hx y (List.mem_cons_of_mem _ hy))]
    simp [Dv.see7]
theorem Dv.rd7_dn {d : Dv} {s f : Nat} (h : d.down = true) : ∀ xs : List Nat, d.rd7 s f xs = if xs = [] then (0, []) else (10, [])
  | [] => rfl
  | x :: xs => by
    rw [Dv.rd7, Dv.read_dn h]
    simp
theorem Dv.see7_length {d : Dv} {s f : Nat} (h : d.Right s) : ∀ xs : List Nat, (∀ x ∈ xs, f + x < s) → (d.see7 f xs).length = 64 * xs.length
  | [], _ => rfl
  | x :: xs, hx => by
    have ih := Dv.see7_length h xs (fun y hy => hx y (List.mem_cons_of_mem _ hy))
    have h1 := Dv.seen_length h (hx x List.mem_cons_self)
    simp only [Dv.see7, List.flatMap_cons, List.length_append, List.length_cons] at ih ⊢
    omega
end Go.Proofs.Ytcbbcihfooaggaa
namespace Go.Proofs.Ytcbbcihfooaggaa
open Go.RowKit Go.ChangeShapes
set_option linter.unusedVariables false
theorem OwnB.madeN (w : World) (n : Nat) (hn : n ≤ maxLen) : OwnB (fun k => k = w.heap.size) (w.alloc (.cells ((List.replicate n (0 : UInt8)).map bv).toArray 5)) (.slice (some ⟨w.heap.size, 0, none⟩) 0 n) [] := by
  refine ⟨⟨by simp, .inr ⟨w.heap.size, n, _, rfl, Nat.zero_le _, heap_alloc_new w _, Nat.zero_le _, hn, by simp, by simp⟩⟩, fun g hg => ?_⟩
  simp [Value.ownBlock] at hg
  exact hg.symm
theorem run_make0 (w : World) (m : Int) (n : Nat) (hm : m = n) (hn : n ≤ 140737488355328) :
    (Instr.makeSlice 40 (.int .i64 0) (.int .i64 m)).run Try.prog w = .ok (.slice (some ⟨w.heap.size, 0, none⟩) 0 n) (w.alloc (.cells ((List.replicate n (0 : UInt8)).map bv).toArray 5)) := by
  subst hm
  obtain ⟨i0, hi, hz0, hz1, hz2⟩ := info_parts Try.infoB
  have h := run_make (P := Try.prog) w 40 5 i0 (.int .u8 0) Try.underlying40 hi hz0 .i64 .i64 0 (n : Int) (by omega) (by omega) (by rw [hz2]; omega) (by omega)
  rw [h, hz1, Int.toNat_natCast, Nat.mul_one]
  have e : madeCells (Value.int .u8 0).cells n = ((List.replicate n (0 : UInt8)).map bv).toArray := by
    apply Array.ext'
    simp only [madeCells, Value.cells, Array.toList_map, Array.toList_range, List.map_replicate]
    apply List.ext_getElem
    · simp
    · intro k h1 h2
      simp [Nat.mod_one]
      rfl
  rw [e]
  rfl
theorem take_sec (L : List UInt8) (i : Nat) : L.take (64 * (i + 1)) = L.take (64 * i) ++ secAt L i := by
  rw [secAt, show 64 * (i + 1) = 64 * i + 64 by omega, List.take_add]
set_option maxRecDepth 100000 in
set_option maxHeartbeats 2000000 in
theorem aKept {D : Nat → Prop} (w : World) (g s : Nat) (d : Dv) (h : DevAt w D g s d) :
    Calls Try.prog 31 #[.pointer (some ⟨g, 0, none⟩)] w fun e w' => ∃ v, e = .returned v ∧ OwnB (fun k => w.heap.size ≤ k) w' v d.all ∧ Fr (fun _ => False) w w' := by
  have hR := h.right
  obtain ⟨F, kb, vw, hm, hD⟩ := h
  obtain ⟨l, h1, h2, h3, hh⟩ := hm.head
  have hc := dIs_yes _ g kb s vw d.deeds l d.down hh
  obtain ⟨_, _, _, _, c4, _⟩ := hh.cells
  have hs := hm.small
  obtain ⟨m, hmm⟩ : ∃ m, m = 64 * s := ⟨_, rfl⟩
  have e1 : 64 * (s : Int) = (m : Int) := by omega
  have hmk := fun W => run_make0 W (m : Int) m rfl (by omega)
  obtain ⟨Z, hZ⟩ : ∃ Z, Z = ((List.replicate m (0 : UInt8)).map bv).toArray := ⟨_, rfl⟩
  rw [← hZ] at hmk
  have hzv := zSec_zero
  have hown := OwnB.madeN w m (by unfold maxLen; omega)
  rw [← hZ] at hown
  have HO := Lib.hid hown
  have c5 := (hh.keep ((Fr.refl (fun _ => False) w).alloc (.cells Z 5)) id).cells.2.2.2.2.1
  have hm6 : m ≤ 524288 := by omega
  have HM := Lib.hid (And.intro hm (And.intro hR (And.intro hmm hh)))
  clear hm hh h1 hD hR hmm hZ hown
  go_enter Try.func31, Try.ntmps31
  go_wp2_with (go_at_call 58; refine hc.mono ?_; rintro e w1 ⟨rfl, rfl⟩)
  go_loopw [3, 21] (fun v iv wr => ∃ i : Nat, i ≤ s ∧ iv = .int .i64 i ∧ Hid (OwnB (fun k => w.heap.size ≤ k) wr v (d.all.take (64 * i)) ∧ Fr (fun _ => False) w wr)) (fun _ iv _ => s - (intOf iv).toNat)
  case atStart => exact ⟨0, by omega, rfl, Lib.hid ⟨HO.out.mono (fun k _ h => by rw [show k = w.heap.size from h]; exact Nat.le_refl _), (Fr.refl _ _).alloc _⟩⟩
  case round =>
    clear HO
    obtain ⟨i, hi, rfl, hRr⟩ := hrel
    by_cases hlt : i < s
    · have hd : decide ((i : Int) < (s : Int)) = true := by rw [decide_eq_true_iff]; omega
      have hkn : (i : Int) < (s : Int) := by omega
      have hi0 : (0 : Int) ≤ (i : Int) := by omega
      obtain ⟨hm, hR, hmm, hh⟩ := HM.out
      obtain ⟨hob, hf⟩ := hRr.out
      have hLW : BytT wr kb 104 d.all := hf.heap hm.kept id
      have hbl := secAt_length d.all s i hR.all hlt
      have hrg := sec_range hLW i s hR.all hlt
      have hz3 : (Try.prog.info? 104).map (·.size) = some ((secAt d.all i).map bv).length := by rw [List.length_map, hbl]; kernel_rfl
      obtain ⟨C, hC⟩ : ∃ C, C = ((secAt d.all i).map bv).toArray := ⟨_, rfl⟩
      have hCs : C.size = 64 := by rw [hC, List.size_toArray, List.length_map, hbl]
      have hz2 : (Try.prog.info? 104).map (·.size) = some C.size := by rw [hCs]; kernel_rfl
      have hC1 : C.all (·.oneCell') = true := by rw [hC]; exact all_oneCell_toArray (bv_one _)
      have hzs : zSec.size = C.size := by rw [zSec_size, hCs]
      obtain ⟨w2, hw2⟩ : ∃ w2, w2 = wr.alloc (.cells C 104) := ⟨_, rfl⟩
      have hf2 : Fr (fun _ => False) wr w2 := by rw [hw2]; exact (Fr.refl _ _).alloc _
      have hnb : BytesIn (fun k => k = wr.heap.size) w2 (.slice (some ⟨wr.heap.size, 0, none⟩) 64 64) (secAt d.all i) := by
        have hb : w2.heap[wr.heap.size]? = some (.cells ((secAt d.all i).map bv).toArray 104 (0, 0)) := by rw [hw2, ← hC]; exact heap_alloc_new wr _
        have := (ToldT.bytes (F := fun k => k = wr.heap.size) (w := w2) (v := .slice (some ⟨wr.heap.size, 0, none⟩) (secAt d.all i).length 64) (L := secAt d.all i) (.inr ⟨wr.heap.size, _, _, 64, rfl, rfl, hb, by simp [hbl], by omega, by decide, by rw [show ((secAt d.all i).map bv).toArray.toList = (secAt d.all i).map bv from rfl]; exact List.take_of_length_le (by simp)⟩))
        rwa [hbl] at this
      have HOB := Lib.hid (hob.keep hf2 (fun _ _ _ h => h))
      have HNB := Lib.hid hnb
      have HC := Lib.hid hC
      have HF := Lib.hid (hf.trans hf2 (fun _ h => h.elim))
      have HT := Lib.hid (take_sec d.all i)
      have HLE := Lib.hid (show (d.all.take (64 * i)).length + (secAt d.all i).length ≤ 140737488355328 by rw [hbl, List.length_take]; omega)
      have HW2 := Lib.hid hw2
      clear hm hR hmm hh hob hf hLW hf2 hnb hC hw2 hRr
      go_wp2_with (first
        | (with_reducible refine wpList_load_mid rfl 104 (.tmp 23) rfl kb (i * 64) rfl ((secAt d.all i).map bv) _ hrg Try.underlying104 rfl hz3 ?_; rw [← HC.out])
        | (with_reducible refine wpList_store_new rfl 104 (.tmp 5) (.tmp 24) rfl C zSec 104 wr rfl rfl rfl hz2 hzs hC1 ?_; rw [← HW2.out])
        | (refine wpList_append_bytes (F := fun k => w.heap.size ≤ k) (G := fun k => k = wr.heap.size) w2 rfl (.tmp 25) (.tmp 26) rfl _ _ (d.all.take (64 * i)) (secAt d.all i) rfl rfl HOB.out HNB.out HLE.out ?_; intro v4 w4 ho4 hg4 hn4; (have HN4 := Lib.hid (show OwnB (fun k => w.heap.size ≤ k) w4 v4 (d.all.take (64 * (i + 1))) ∧ Fr (fun _ => False) w w4 from ⟨by rw [HT.out]; exact ho4.mono (fun k _ h => h.elim id (fun h => Nat.le_trans HF.out.size h)), HF.out.trans ((Fr.refl (fun k => w.heap.size ≤ k) _).grown hg4 (fun k hk => .inl (HOB.out.2 k hk))) (fun k h => .inr h)⟩)); clear ho4 hg4 hn4))
      go_roundw
      case rel => exact ⟨i + 1, by omega, by go_num, HN4⟩
      case measure => simp [intOf]; omega
    · have hd : decide ((i : Int) < (s : Int)) = false := by rw [decide_eq_false_iff_not]; omega
      have HE := Lib.hid (show OwnB (fun k => w.heap.size ≤ k) wr u3 d.all ∧ Fr (fun _ => False) w wr by
        have h := hRr.out
        rw [List.take_of_length_le (by have := HM.out.2.1.all; omega)] at h
        exact h)
      clear hRr
      go_wp2_with fail
      go_ret
      exact ⟨_, rfl, HE.out.1, HE.out.2⟩
end Go.Proofs.Ytcbbcihfooaggaa
namespace Go.Proofs.Ytcbbcihfooaggaa
open Go.RowKit Go.ChangeShapes
set_option linter.unusedVariables false
def manyS (n : Int) : Bool := decide (1 ≤ n ∧ n ≤ 8192)
theorem lMany_any (w : World) (n : Int) :
    Calls Try.prog 62 #[.int .i64 n] w fun e w' => e = .returned (.bool (manyS n)) ∧ w = w' := by
  by_cases h1 : 1 ≤ n
  · by_cases h2 : n ≤ 8192
    · have hR : manyS n = true := by rw [manyS, decide_eq_true_iff]; exact ⟨h1, h2⟩
      rw [hR]
      clear hR
      go_enter Try.func62, Try.ntmps62
      go_wp2
      go_ret
      exact ⟨rfl, rfl⟩
    · have hR : manyS n = false := by rw [manyS, decide_eq_false_iff_not]; omega
      rw [hR]
      clear hR
      go_enter Try.func62, Try.ntmps62
      go_wp2
      go_ret
      exact ⟨rfl, rfl⟩
  · have hR : manyS n = false := by rw [manyS, decide_eq_false_iff_not]; omega
    rw [hR]
    clear hR
    go_enter Try.func62, Try.ntmps62
    go_wp2
    go_ret
    exact ⟨rfl, rfl⟩
theorem manyS_yes {n : Int} (h : manyS n = true) : ∃ m : Nat, n = m ∧ 1 ≤ m ∧ m ≤ 8192 := by
  rw [manyS, decide_eq_true_iff] at h
  exact ⟨n.toNat, by omega, by omega, by omega⟩
theorem manyS_nat {m : Nat} (h1 : 1 ≤ m) (h2 : m ≤ 8192) : manyS (m : Int) = true := by
  rw [manyS, decide_eq_true_iff]; omega
theorem lArea_any (w : World) (L A D n : Nat) (hL : L ≤ 8192) (hA : A ≤ 8192) (hn : n ≤ 2) :
    Calls Try.prog 81 #[.agg #[.int .i64 L, .int .i64 A, .int .i64 D], .int .i64 n] w fun e w' => e = .returned (.int .i64 ((1 + L + n * A : Nat) : Int)) ∧ Fr (fun _ => False) w w' := by
  obtain ⟨m, hm⟩ : ∃ m, m = n * A := ⟨_, rfl⟩
  have hmb : m ≤ 16384 := by rw [hm]; exact Nat.le_trans (Nat.mul_le_mul hn hA) (by decide)
  have hmi : (n : Int) * (A : Int) = (m : Int) := by rw [hm]; push_cast; rfl
  rw [← hm]
  have HM := Lib.hid hm
  clear hm
  go_enter Try.func81, Try.ntmps81
  go_wp2
  go_ret
  exact ⟨by push_cast; rfl, (Fr.refl _ _).alloc _⟩
theorem lData_any (w : World) (L A D : Nat) (hL : L ≤ 8192) (hA : A ≤ 8192) :
    Calls Try.prog 63 #[.agg #[.int .i64 L, .int .i64 A, .int .i64 D]] w fun e w' => e = .returned (.int .i64 ((1 + L + 2 * A : Nat) : Int)) ∧ Fr (fun _ => False) w w' := by
  have hc := fun w => lArea_any w L A D 2 hL hA (by decide)
  have HC := Lib.hid hc
  clear hc
  go_enter Try.func63, Try.ntmps63
  go_wp2_with (go_at_call 81; refine (HC.out _).mono ?_; rintro e w1 ⟨rfl, hf1⟩; (have H1 := Lib.hid hf1); clear hf1)
  go_ret
  exact ⟨rfl, ((Fr.refl _ w).alloc _).trans H1.out (fun _ h => h.elim)⟩
end Go.Proofs.Ytcbbcihfooaggaa
namespace Go.Proofs.Ytcbbcihfooaggaa
open Go.RowKit Go.ChangeShapes
set_option linter.unusedVariables false
theorem ent_spence_log_isMany (args : Array Value) (w : World) : (callFunc 62 args).run Try.prog w = .ok (.enter 62 args) w := by kernel_rfl
theorem ent_spence_log_dataAt (args : Array Value) (w : World) : (callFunc 63 args).run Try.prog w = .ok (.enter 63 args) w := by kernel_rfl
theorem fld_spence_api_Shape_0_0 (w : World) (g : Nat) : (Instr.fieldAt 23 (.pointer (some ⟨g, 0, none⟩)) 0).run Try.prog w = .ok (.pointer (some ⟨g, 0, none⟩)) w := by kernel_rfl
theorem fld_spence_api_Shape_1_0 (w : World) (g : Nat) : (Instr.fieldAt 23 (.pointer (some ⟨g, 0, none⟩)) 1).run Try.prog w = .ok (.pointer (some ⟨g, 1, none⟩)) w := by kernel_rfl
theorem fld_spence_api_Shape_2_0 (w : World) (g : Nat) : (Instr.fieldAt 23 (.pointer (some ⟨g, 0, none⟩)) 2).run Try.prog w = .ok (.pointer (some ⟨g, 2, none⟩)) w := by kernel_rfl
end Go.Proofs.Ytcbbcihfooaggaa
