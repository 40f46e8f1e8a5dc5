/- dev's own device, whole: Read, Stat. -/
import Derived.Test.YthmcmomkomhilaaDOps2
namespace Go.Proofs.Ythmcmomkomhilaa
open Go.RowKit Go.ChangeShapes
set_option linter.unusedVariables false

/-- What was told: bytes in a block of F of their own, whatever its type; or nil. -/
def ToldT (F : Nat → Prop) (w : World) (v : Value) (L : List UInt8) : Prop :=
  (v = .slice none 0 0 ∧ L = []) ∨ ∃ b T C cap, v = .slice (some ⟨b, 0, none⟩) L.length cap ∧ F b ∧ w.heap[b]? = some (.cells C T (0, 0)) ∧ C.size = cap ∧ L.length ≤ cap ∧ cap ≤ maxLen ∧ C.toList.take L.length = L.map bv
theorem ToldT.nil (F : Nat → Prop) (w : World) : ToldT F w (.slice none 0 0) [] := .inl ⟨rfl, rfl⟩
theorem ToldT.keep {F S : Nat → Prop} {w w' : World} {v : Value} {L : List UInt8} (h : ToldT F w v L) (hf : Fr S w w') (hd : ∀ k, k < w.heap.size → F k → ¬ S k) : ToldT F w' v L := by
  rcases h with h | ⟨b, T, C, cap, h1, h2, h3, h4⟩
  · exact .inl h
  · exact .inr ⟨b, T, C, cap, h1, h2, hf.heap h3 (hd b (lt_of_block h3) h2), h4⟩
theorem ToldT.mono {F G : Nat → Prop} {w : World} {v : Value} {L : List UInt8} (h : ToldT F w v L) (hd : ∀ k, k < w.heap.size → F k → G k) : ToldT G w v L := by
  rcases h with h | ⟨b, T, C, cap, h1, h2, h3, h4⟩
  · exact .inl h
  · exact .inr ⟨b, T, C, cap, h1, hd b (lt_of_block h3) h2, h3, h4⟩
theorem ToldT.bytes {F : Nat → Prop} {w : World} {v : Value} {L : List UInt8} (h : ToldT F w v L) : BytesIn F w v L := by
  rcases h with ⟨rfl, rfl⟩ | ⟨b, T, C, cap, rfl, h2, h3, h4, h5, h6, h7⟩
  · exact BytesIn.nil _ _
  · refine ⟨_, cap, rfl, h5, h6, (fun h => by cases h), fun a ha => ?_⟩
    cases ha
    refine ⟨fun j u hu => ?_, fun _ => h2⟩
    rw [addr_plain, Nat.zero_add, cell_of_row _ _ _ _ _ _ h3]
    rw [← h7, List.getElem?_take] at hu
    split at hu
    · rwa [Array.getElem?_toList] at hu
    · cases hu
theorem ToldT.ofOwn {F : Nat → Prop} {w : World} {v : Value} {L : List UInt8} (h : OwnB F w v L) : ToldT F w v L := by
  rcases h.1.2 with ⟨rfl, h1⟩ | ⟨g, cap, cur, rfl, hb, hg, hn, hm, hs, ht⟩
  · exact .inl ⟨rfl, List.eq_nil_of_length_eq_zero h1⟩
  · exact .inr ⟨g, _, cur, cap, rfl, h.2 g rfl, hg, by simpa using hs, hn, hm, by simpa using ht⟩

/-- What Read tells. -/
def Dv.read (d : Dv) (s : Nat) (a : Int) : Int × List UInt8 := if d.down = true then (10, []) else if a < 0 ∨ (s : Int) ≤ a then (2, []) else (0, d.seen a.toNat)
theorem Dv.seen_length {d : Dv} {s a : Nat} (h : d.Right s) (ha : a < s) : (d.seen a).length = 64 := by
  unfold Dv.seen
  rw [← wakeL_sec (fun _ => true) s a ha d.waits 0 d.all h.waits h.all]
  exact secAt_length _ s a (wakeL_length _ s d.waits 0 d.all h.waits h.all) ha
theorem aRead {D : Nat → Prop} (w : World) (g s : Nat) (d : Dv) (a : Int) (hn6 : d.waits.length ≤ 1000000) (h : DevAt w D g s d) :
    Calls Try.prog 24 #[.pointer (some ⟨g, 0, none⟩), .int .i64 a] w fun e w' => ∃ v, e = .returned (.tuple #[v, .int .i64 (d.read s a).1]) ∧ ToldT (fun k => w.heap.size ≤ k) w' v (d.read s a).2 ∧ Fr (fun _ => False) w w' := by
  have hR := h.right
  obtain ⟨F, kb, vw, hm, hD⟩ := h
  obtain ⟨l, h1, h2, h3, hh⟩ := hm.head
  have hc := dReady_any w g kb s vw d.deeds l d.down hh
  unfold Dv.read
  cases hd : d.down with
  | true =>
    rw [hd] at hc
    clear hm hh hR h1
    go_enter Try.func24, Try.ntmps24
    go_wp2_with (go_at_call 37; refine hc.mono ?_; rintro e w1 ⟨rfl, rfl⟩)
    go_ret2
    exact ⟨_, rfl, ToldT.nil _ _, Fr.refl _ _⟩
  | false =>
    rw [hd] at hc hh
    rw [if_neg (by decide)]
    have hha := dHas_any w g kb s vw d.deeds l false a hh
    by_cases hs : 0 ≤ a ∧ a < (s : Int)
    · rw [show decide (0 ≤ a ∧ a < (s : Int)) = true by rw [decide_eq_true_iff]; exact hs] at hha
      rw [if_neg (by omega)]
      obtain ⟨n, rfl⟩ : ∃ n : Nat, a = n := ⟨a.toNat, by omega⟩
      have hns : n < s := by omega
      have hsl := Dv.seen_length hR hns
      obtain ⟨xs, hxs⟩ := exists_valsX d.waits hR.waits
      have hse : Calls Try.prog 46 #[.pointer (some ⟨g, 0, none⟩), .int .i64 n] w fun e w' => e = .returned (.agg ((d.seen n).map bv).toArray) ∧ Fr (fun _ => False) w w' := by
        have hx := callsIn_wide.1 (dSeen_in w g kb d.all xs vw d.deeds l false n hh hm.kept hR.all (by rw [hxs]; exact hm.wr) hns hm.small (by rw [← hxs] at hn6; simpa [valsX] using hn6))
        unfold Dv.seen
        rw [← hxs]
        exact hx
      rw [show (n : Int).toNat = n from rfl]
      obtain ⟨C, hC⟩ : ∃ C, C = ((d.seen n).map bv).toArray := ⟨_, rfl⟩
      rw [← hC] at hse
      have hCs : C.size = 64 := by rw [hC, List.size_toArray, List.length_map, hsl]
      have hz2 : (Try.prog.info? 70).map (·.size) = some C.size := by rw [hCs]; kernel_rfl
      have hC1 : C.all (·.oneCell') = true := by rw [hC]; exact all_oneCell_toArray (bv_one _)
      have hzs : zSec.size = C.size := by rw [zSec_size, hCs]
      have hzv := zSec_zero
      have HC := Lib.hid (And.intro hC hsl)
      have HSE := Lib.hid hse
      clear hm hh hR h1 hs hC hsl hse hns
      go_enter Try.func24, Try.ntmps24
      go_wp2_with (first
        | (go_at_call 37; refine hc.mono ?_; rintro e w1 ⟨rfl, rfl⟩)
        | (go_at_call 38; refine hha.mono ?_; rintro e w1 ⟨rfl, rfl⟩)
        | (go_at_call 46; refine HSE.out.mono ?_; rintro e w2 ⟨rfl, hf⟩; (have HS := Lib.hid hf); clear hf)
        | (with_reducible refine wpList_store_new rfl 70 (.tmp 7) (.tmp 19) rfl C zSec 70 w2 rfl rfl rfl hz2 hzs hC1 ?_))
      go_ret2
      refine ⟨_, rfl, .inr ⟨w2.heap.size, 70, C, 64, by rw [HC.out.2]; rfl, HS.out.size, heap_alloc_new w2 _, hCs, by rw [HC.out.2]; decide, by decide, ?_⟩, HS.out.alloc _⟩
      rw [HC.out.1]
      exact List.take_of_length_le (by simp)
    · rw [show decide (0 ≤ a ∧ a < (s : Int)) = false by rw [decide_eq_false_iff_not]; exact hs] at hha
      rw [if_pos (by omega)]
      clear hm hh hR h1 hs
      go_enter Try.func24, Try.ntmps24
      go_wp2_with (first
        | (go_at_call 37; refine hc.mono ?_; rintro e w1 ⟨rfl, rfl⟩)
        | (go_at_call 38; refine hha.mono ?_; rintro e w1 ⟨rfl, rfl⟩))
      go_ret2
      exact ⟨_, rfl, ToldT.nil _ _, Fr.refl _ _⟩

set_option maxHeartbeats 1000000 in
theorem aStat {D : Nat → Prop} (w : World) (g s : Nat) (d : Dv) (h : DevAt w D g s d) :
    Calls Try.prog 23 #[.pointer (some ⟨g, 0, none⟩)] w fun e w' => e = .returned (.agg #[.int .i64 s, .int .i64 d.waits.length, .int .i64 d.deeds, .bool d.down]) ∧ Fr (fun _ => False) w w' := by
  obtain ⟨F, kb, vw, hm, hD⟩ := h
  obtain ⟨l, h1, h2, h3, hh⟩ := hm.head
  obtain ⟨ao, cap, rfl, _, _⟩ := hm.wr.form
  obtain ⟨W0, hW0⟩ : ∃ W0, W0 = w.alloc (.cells #[.int .i64 0, .int .i64 0, .int .i64 0, .bool false] 46) := ⟨_, rfl⟩
  have hf0 : Fr (fun _ => False) w W0 := by rw [hW0]; exact (Fr.refl _ _).alloc _
  have hh2 := hh.keep hf0 id
  have hc := dIs_yes _ g kb s _ d.deeds l d.down hh2
  obtain ⟨c0, _, c2, c3, c4, _⟩ := hh2.cells
  have hnew : W0.heap[w.heap.size]? = some (.cells #[.int .i64 0, .int .i64 0, .int .i64 0, .bool false] 46 (0, 0)) := by rw [hW0]; exact heap_alloc_new _ _
  have HF0 := Lib.hid (And.intro hf0 hnew)
  have HW := Lib.hid hW0
  rw [hW0] at hc
  clear hm hh hh2 h1 hf0 hW0 hnew
  go_enter Try.func23, Try.ntmps23
  go_wp2_with (go_at_call 42; refine hc.mono ?_; rintro e w1 ⟨rfl, rfl⟩)
  rw [← HW.out]
  clear hc
  generalize hgb : w.heap.size = gb at *
  have HGB := Lib.hid hgb
  clear hgb
  go_still_tail 24, (by kernel_rfl)
  obtain ⟨n, hn⟩ : ∃ n, n = d.waits.length := ⟨_, rfl⟩
  refine wpList_store_row rfl 46 (.tmp 2) (.tmp 30) rfl gb #[.int .i64 s, .int .i64 d.waits.length, .int .i64 d.deeds, .bool d.down] #[.int .i64 0, .int .i64 0, .int .i64 0, .bool false] 46 rfl rfl HF0.out.2 (by kernel_rfl) rfl (by kernel_rfl) ?_
  go_wp2
  have hst := setRow_heap W0.drew gb _ #[.int .i64 s, .int .i64 d.waits.length, .int .i64 d.deeds, .bool d.down] _ (0, 0) HF0.out.2
  refine bodyPost_ret (results_cell_row rfl _ _ gb 46 _ (0, 0) _ rfl hst Try.underlying46 rfl (by kernel_rfl)) rfl ⟨rfl, ?_⟩
  exact HF0.out.1.trans (Fr.ofDrew ((Fr.refl (· = gb) W0.drew).setRow (.inl rfl) _)) (fun k e => .inr (by rw [HGB.out, show k = gb from e]; exact Nat.le_refl _))
end Go.Proofs.Ythmcmomkomhilaa
