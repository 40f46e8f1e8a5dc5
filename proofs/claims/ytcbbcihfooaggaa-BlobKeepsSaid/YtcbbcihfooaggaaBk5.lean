/- Laid together: DOps2 DOps3 LogL BlobL BlobD JOps -/
import Derived.Test.YtcbbcihfooaggaaBk4
import Derived.Test.YtcbbcihfooaggaaRows
import Derived.Test.YtcbbcihfooaggaaBk3
import Derived.Deep.MidRow

namespace Go.Proofs.Ytcbbcihfooaggaa
open Go.RowKit Go.ChangeShapes
set_option linter.unusedVariables false
def Dv.new (s : Nat) : Dv := { all := List.replicate (64 * s) 0, waits := [], deeds := 0, left := 0, down := false }
theorem aNew (w : World) (s : Nat) (h1 : 1 ≤ s) (h2 : s ≤ 8192) :
    Calls Try.prog 19 #[.int .i64 s] w fun e w' => ∃ g, e = .returned (.tuple #[.pointer (some ⟨g, 0, none⟩), .int .i64 0]) ∧ DevAt w' (fun k => w.heap.size ≤ k) g s (Dv.new s) ∧ Fr (fun _ => False) w w' := by
  refine (dNew_yes w s h1 h2).mono ?_
  rintro e w' ⟨g, kb, rfl, hg, hk, hne, hh, hb, hf⟩
  exact ⟨g, rfl, ⟨fun _ => False, kb, _, ⟨⟨0, fun _ => rfl, by decide, by decide, hh⟩, hb, WrAt.nil _ _, ⟨by simp [Dv.new], fun p hp => by cases hp⟩, ⟨hne, id, id⟩, h2⟩, fun k hk' => by
    rcases hk' with rfl | rfl | h
    · exact hg
    · exact hk
    · exact h.elim⟩, hf⟩
set_option maxHeartbeats 1000000 in
theorem aWrite {D G : Nat → Prop} (w : World) (g s : Nat) (d : Dv) (a : Int) (vb : Value) (b : List UInt8) (ha0 : -9223372036854775808 ≤ a) (ha1 : a ≤ 9223372036854775807) (hk6 : d.deeds ≤ 1000000000) (hn6 : d.waits.length + 1 ≤ 1000000) (hb : BytesIn G w vb b) (hG : ∀ k, k < w.heap.size → G k → ¬ D k) (h : DevAt w D g s d) :
    Calls Try.prog 51 #[.pointer (some ⟨g, 0, none⟩), .int .i64 a, vb] w fun e w' => e = .returned (.int .i64 (d.write s a b).1) ∧ DevAt w' (More D w) g s (d.write s a b).2 ∧ Fr D w w' := by
  have hR := h.right
  have hgD := h.lt
  obtain ⟨F, kb, vw, hm, hD⟩ := h
  obtain ⟨l, h1, h2, h3, hh⟩ := hm.head
  have hc := dReady_any w g kb s vw d.deeds l d.down hh
  obtain ⟨ab, cb, hvb⟩ : ∃ ao cap, vb = .slice ao b.length cap := by obtain ⟨x, y, hx, _⟩ := hb; exact ⟨x, y, hx⟩
  subst hvb
  have HM0 := Lib.hid (show DevAt w (More D w) g s d from ⟨F, kb, vw, hm, fun k hk => .inl (hD k hk)⟩)
  cases hd : d.down with
  | true =>
    rw [Dv.write_down hd]
    rw [hd] at hc
    clear hm hh hR h1 hb
    go_enter Try.func51, Try.ntmps51
    go_wp2_with (go_at_call 46; refine hc.mono ?_; rintro e w1 ⟨rfl, rfl⟩)
    go_ret
    exact ⟨rfl, HM0.out, Fr.refl _ _⟩
  | false =>
    have hl := h1 hd
    rw [hd] at hc hh
    have hha := dHas_any w g kb s vw d.deeds l false a hh
    obtain ⟨q, hq⟩ : ∃ q, q = b.length := ⟨_, rfl⟩
    by_cases h0 : a < 0 ∨ (s : Int) ≤ a ∨ 64 < b.length
    · rw [Dv.write_arg hd h0]
      by_cases hs : 0 ≤ a ∧ a < (s : Int)
      · rw [show decide (0 ≤ a ∧ a < (s : Int)) = true by rw [decide_eq_true_iff]; exact hs] at hha
        have hbl : 64 < q := by omega
        have hd1 : decide (64 < (q : Int)) = true := by rw [decide_eq_true_iff]; omega
        have hd2 : decide (64 < q) = true := by rw [decide_eq_true_iff]; omega
        rw [← hq] at *
        clear hm hh hR h1 hb h0 hs hl hq
        go_enter Try.func51, Try.ntmps51
        go_wp2_with (first
          | (go_at_call 46; refine hc.mono ?_; rintro e w1 ⟨rfl, rfl⟩)
          | (go_at_call 73; refine hha.mono ?_; rintro e w1 ⟨rfl, rfl⟩))
        go_ret
        exact ⟨rfl, HM0.out, Fr.refl _ _⟩
      · rw [show decide (0 ≤ a ∧ a < (s : Int)) = false by rw [decide_eq_false_iff_not]; exact hs] at hha
        clear hm hh hR h1 hb h0 hs hl hq
        go_enter Try.func51, Try.ntmps51
        go_wp2_with (first
          | (go_at_call 46; refine hc.mono ?_; rintro e w1 ⟨rfl, rfl⟩)
          | (go_at_call 73; refine hha.mono ?_; rintro e w1 ⟨rfl, rfl⟩))
        go_ret
        exact ⟨rfl, HM0.out, Fr.refl _ _⟩
    · have hs : 0 ≤ a ∧ a < (s : Int) := by omega
      rw [show decide (0 ≤ a ∧ a < (s : Int)) = true by rw [decide_eq_true_iff]; exact hs] at hha
      have hbl : ¬ 64 < q := by omega
      have hd1 : decide (64 < (q : Int)) = false := by rw [decide_eq_false_iff_not]; omega
      have hd2 : decide (64 < q) = false := by rw [decide_eq_false_iff_not]; omega
      have hde := dDeed_any w g kb s vw d.deeds l false (by omega) (by omega) h2 h3 hh
      obtain ⟨n, hn⟩ : ∃ n : Nat, a = n := ⟨a.toNat, by omega⟩
      by_cases e1 : d.left = 1
      · rw [Dv.write_out hd h0 e1]
        have el : l = 1 := by omega
        subst el
        have HDE := Lib.hid hde
        have HM := Lib.hid (And.intro hm (And.intro hD hR))
        rw [← hq] at *
        clear hm hh hR h1 hde hl hb h0 hs hq hn
        go_enter Try.func51, Try.ntmps51
        go_wp2_with (first
          | (go_at_call 46; refine hc.mono ?_; rintro e w1 ⟨rfl, rfl⟩)
          | (go_at_call 73; refine hha.mono ?_; rintro e w1 ⟨rfl, rfl⟩)
          | (go_at_call 74; refine HDE.out.mono ?_; rintro e w1 ⟨rfl, hh, hf⟩; (have HS := Lib.hid (And.intro hh hf)); clear hh hf))
        go_ret
        obtain ⟨hm, hD, hR⟩ := HM.out
        obtain ⟨hh, hf⟩ := HS.out
        exact ⟨rfl, ⟨F, kb, vw, ⟨⟨1, fun h => (by cases h), by decide, by decide, hh⟩, hf.heap hm.kept (fun e => hm.sep.1 e.symm), hm.wr.keep hf (fun k _ hF e => hm.sep.2.1 (e ▸ hF)), hR.same rfl rfl, hm.sep, hm.small⟩, fun k hk => .inl (hD k hk)⟩, hf.mono (fun k _ e => hD k (.inl e))⟩
      · rw [Dv.write_ok hd h0 e1]
        have hRW := hR.write a b
        rw [Dv.write_ok hd h0 e1] at hRW
        have el : l ≠ 1 := by omega
        have et : decide (l ≠ 1) = true := by rw [decide_eq_true_iff]; exact el
        rw [et, if_neg el, if_neg el] at hde
        obtain ⟨l', hl'⟩ : ∃ l', l' = if l = 0 ∨ l = 1 then l else l - 1 := ⟨_, rfl⟩
        have hl2 : l' = ((d.left - 1 : Nat) : Int) := by rw [hl']; split <;> omega
        have hl3 : 0 ≤ l' ∧ l' ≤ 9223372036854775807 := by omega
        rw [← hl'] at hde
        subst hn
        have had := fun W (hD2 : DvH W g kb s vw (d.deeds + 1) l' false) (hf : Fr (· = g) w W) => dAdd_any (G := fun k => G k ∧ k < w.heap.size) W g kb s n vw (.slice ab b.length cb) d.waits b (d.deeds + 1) l' false hD2 (hm.wr.keep hf (fun k _ hF e => hm.sep.2.1 (e ▸ hF)))
          ((hb.mono (G := fun k => G k ∧ k < w.heap.size) (fun k hk hg => ⟨hg, hk⟩)).keep hf (fun k hk hg e => hG k hk hg.1 (e ▸ hgD.2))) (fun i hi => ⟨Nat.lt_of_lt_of_le hi.2 hf.size, fun e => hG i hi.2 hi.1 (e ▸ hgD.2)⟩) (by omega) hm.sep.2.1 hn6
        have HDE := Lib.hid hde
        have HAD := Lib.hid had
        have HM := Lib.hid (And.intro hm (And.intro hD (And.intro hR hRW)))
        have HL := Lib.hid (And.intro hl2 hl3)
        rw [← hq] at *
        clear hm hh hR h1 hde hl hb h0 hs had hl2 hl3 hl' hRW hq
        go_enter Try.func51, Try.ntmps51
        go_wp2_with (first
          | (go_at_call 46; refine hc.mono ?_; rintro e w1 ⟨rfl, rfl⟩)
          | (go_at_call 73; refine hha.mono ?_; rintro e w1 ⟨rfl, rfl⟩)
          | (go_at_call 74; refine HDE.out.mono ?_; rintro e w1 ⟨rfl, hh, hf⟩; (have HS := Lib.hid (And.intro hh hf)); clear hh hf)
          | (go_at_call 75; refine (HAD.out _ HS.out.1 HS.out.2).mono ?_; rintro e w2 ⟨rfl, vw2, hh, hp, hf⟩; (have HS2 := Lib.hid (And.intro hh (And.intro hp hf))); clear hh hp hf))
        go_ret
        obtain ⟨hm, hD, hR, hRW⟩ := HM.out
        obtain ⟨hh, hp, hf⟩ := HS2.out
        have hlt := hm.lt
        have hsz := HS.out.2.size
        have hkb : BytT w2 kb 104 d.all := hf.heap (HS.out.2.heap hm.kept (fun e => hm.sep.1 e.symm)) (fun e => e.elim (fun e => hm.sep.1 e.symm) hm.sep.2.2)
        refine ⟨rfl, ⟨fun k => F k ∨ w1.heap.size ≤ k, kb, vw2, ⟨⟨l', fun _ => HL.out.1, HL.out.2.1, HL.out.2.2, by rw [hd]; exact hh⟩, hkb, by simpa using hp, hRW, ⟨hm.sep.1, fun h => h.elim hm.sep.2.1 (fun h => by omega), fun h => h.elim hm.sep.2.2 (fun h => by omega)⟩, hm.small⟩, fun k hk => ?_⟩, (HS.out.2.mono (T := D) (fun k _ e => hD k (.inl e))).trans hf (fun k e => .inl (hD k (e.elim .inl (fun h => .inr (.inr h)))))⟩
        rcases hk with hk | hk | hk | hk
        · exact .inl (hD k (.inl hk))
        · exact .inl (hD k (.inr (.inl hk)))
        · exact .inl (hD k (.inr (.inr hk)))
        · exact .inr (by omega)
end Go.Proofs.Ytcbbcihfooaggaa
namespace Go.Proofs.Ytcbbcihfooaggaa
open Go.RowKit Go.ChangeShapes
set_option linter.unusedVariables false
def ToldT (F : Nat → Prop) (w : World) (v : Value) (L : List UInt8) : Prop :=
  (v = .slice none 0 0 ∧ L = []) ∨ ∃ b T C cap, v = .slice (some ⟨b, 0, none⟩) L.length cap ∧ F b ∧ w.heap[b]? = some (.cells C T (0, 0)) ∧ C.size = cap ∧ L.length ≤ cap ∧ cap ≤ maxLen ∧ C.toList.take L.length = L.map bv
theorem ToldT.nil (F : Nat → Prop) (w : World) : ToldT F w (.slice none 0 0) [] := .inl ⟨rfl, rfl⟩
theorem ToldT.keep {F S : Nat → Prop} {w w' : World} {v : Value} {L : List UInt8} (h : ToldT F w v L) (hf : Fr S w w') (hd : ∀ k, k < w.heap.size → F k → ¬ S k) : ToldT F w' v L := by
  rcases h with h | ⟨b, T, C, cap, h1, h2, h3, h4⟩
  · exact .inl h
  · exact .inr ⟨b, T, C, cap, h1, h2, hf.heap h3 (hd b (lt_of_block h3) h2), h4⟩
theorem ToldT.mono {F G : Nat → Prop} {w : World} {v : Value} {L : List UInt8} (h : ToldT F w v L) (hd : ∀ k, k < w.heap.size → F k → G k) : ToldT G w v L := by
  rcases h with h | ⟨b, T, C, cap, h1, h2, h3, h4⟩
  · exact .inl h
  · exact .inr ⟨b, T, C, cap, h1, hd b (lt_of_block h3) h2, h3, h4⟩
theorem ToldT.bytes {F : Nat → Prop} {w : World} {v : Value} {L : List UInt8} (h : ToldT F w v L) : BytesIn F w v L := by
  rcases h with ⟨rfl, rfl⟩ | ⟨b, T, C, cap, rfl, h2, h3, h4, h5, h6, h7⟩
  · exact BytesIn.nil _ _
  · refine ⟨_, cap, rfl, h5, h6, (fun h => by cases h), fun a ha => ?_⟩
    cases ha
    refine ⟨fun j u hu => ?_, fun _ => h2⟩
    rw [addr_plain, Nat.zero_add, cell_of_row _ _ _ _ _ _ h3]
    rw [← h7, List.getElem?_take] at hu
    split at hu
    · rwa [Array.getElem?_toList] at hu
    · cases hu
def Dv.read (d : Dv) (s : Nat) (a : Int) : Int × List UInt8 := if d.down = true then (10, []) else if a < 0 ∨ (s : Int) ≤ a then (2, []) else (0, d.seen a.toNat)
theorem Dv.seen_length {d : Dv} {s a : Nat} (h : d.Right s) (ha : a < s) : (d.seen a).length = 64 := by
  unfold Dv.seen
  rw [← wakeL_sec (fun _ => true) s a ha d.waits 0 d.all h.waits h.all]
  exact secAt_length _ s a (wakeL_length _ s d.waits 0 d.all h.waits h.all) ha
theorem aRead {D : Nat → Prop} (w : World) (g s : Nat) (d : Dv) (a : Int) (hn6 : d.waits.length ≤ 1000000) (h : DevAt w D g s d) :
    Calls Try.prog 56 #[.pointer (some ⟨g, 0, none⟩), .int .i64 a] w fun e w' => ∃ v, e = .returned (.tuple #[v, .int .i64 (d.read s a).1]) ∧ ToldT (fun k => w.heap.size ≤ k) w' v (d.read s a).2 ∧ Fr (fun _ => False) w w' := by
  have hR := h.right
  obtain ⟨F, kb, vw, hm, hD⟩ := h
  obtain ⟨l, h1, h2, h3, hh⟩ := hm.head
  have hc := dReady_any w g kb s vw d.deeds l d.down hh
  unfold Dv.read
  cases hd : d.down with
  | true =>
    rw [hd] at hc
    clear hm hh hR h1
    go_enter Try.func56, Try.ntmps56
    go_wp2_with (go_at_call 46; refine hc.mono ?_; rintro e w1 ⟨rfl, rfl⟩)
    go_ret2
    exact ⟨_, rfl, ToldT.nil _ _, Fr.refl _ _⟩
  | false =>
    rw [hd] at hc hh
    rw [if_neg (by decide)]
    have hha := dHas_any w g kb s vw d.deeds l false a hh
    by_cases hs : 0 ≤ a ∧ a < (s : Int)
    · rw [show decide (0 ≤ a ∧ a < (s : Int)) = true by rw [decide_eq_true_iff]; exact hs] at hha
      rw [if_neg (by omega)]
      obtain ⟨n, rfl⟩ : ∃ n : Nat, a = n := ⟨a.toNat, by omega⟩
      have hns : n < s := by omega
      have hsl := Dv.seen_length hR hns
      obtain ⟨xs, hxs⟩ := exists_valsX d.waits hR.waits
      have hse : Calls Try.prog 79 #[.pointer (some ⟨g, 0, none⟩), .int .i64 n] w fun e w' => e = .returned (.agg ((d.seen n).map bv).toArray) ∧ Fr (fun _ => False) w w' := by
        have hx := callsIn_wide.1 (dSeen_in w g kb d.all xs vw d.deeds l false n hh hm.kept hR.all (by rw [hxs]; exact hm.wr) hns hm.small (by rw [← hxs] at hn6; simpa [valsX] using hn6))
        unfold Dv.seen
        rw [← hxs]
        exact hx
      rw [show (n : Int).toNat = n from rfl]
      obtain ⟨C, hC⟩ : ∃ C, C = ((d.seen n).map bv).toArray := ⟨_, rfl⟩
      rw [← hC] at hse
      have hCs : C.size = 64 := by rw [hC, List.size_toArray, List.length_map, hsl]
      have hz2 : (Try.prog.info? 104).map (·.size) = some C.size := by rw [hCs]; kernel_rfl
      have hC1 : C.all (·.oneCell') = true := by rw [hC]; exact all_oneCell_toArray (bv_one _)
      have hzs : zSec.size = C.size := by rw [zSec_size, hCs]
      have hzv := zSec_zero
      have HC := Lib.hid (And.intro hC hsl)
      have HSE := Lib.hid hse
      clear hm hh hR h1 hs hC hsl hse hns
      go_enter Try.func56, Try.ntmps56
      go_wp2_with (first
        | (go_at_call 46; refine hc.mono ?_; rintro e w1 ⟨rfl, rfl⟩)
        | (go_at_call 73; refine hha.mono ?_; rintro e w1 ⟨rfl, rfl⟩)
        | (go_at_call 79; refine HSE.out.mono ?_; rintro e w2 ⟨rfl, hf⟩; (have HS := Lib.hid hf); clear hf)
        | (with_reducible refine wpList_store_new rfl 104 (.tmp 7) (.tmp 19) rfl C zSec 104 w2 rfl rfl rfl hz2 hzs hC1 ?_))
      go_ret2
      refine ⟨_, rfl, .inr ⟨w2.heap.size, 104, C, 64, by rw [HC.out.2]; rfl, HS.out.size, heap_alloc_new w2 _, hCs, by rw [HC.out.2]; decide, by decide, ?_⟩, HS.out.alloc _⟩
      rw [HC.out.1]
      exact List.take_of_length_le (by simp)
    · rw [show decide (0 ≤ a ∧ a < (s : Int)) = false by rw [decide_eq_false_iff_not]; exact hs] at hha
      rw [if_pos (by omega)]
      clear hm hh hR h1 hs
      go_enter Try.func56, Try.ntmps56
      go_wp2_with (first
        | (go_at_call 46; refine hc.mono ?_; rintro e w1 ⟨rfl, rfl⟩)
        | (go_at_call 73; refine hha.mono ?_; rintro e w1 ⟨rfl, rfl⟩))
      go_ret2
      exact ⟨_, rfl, ToldT.nil _ _, Fr.refl _ _⟩
set_option maxRecDepth 100000 in
set_option maxHeartbeats 1000000 in
theorem aStat {D : Nat → Prop} (w : World) (g s : Nat) (d : Dv) (h : DevAt w D g s d) :
    Calls Try.prog 32 #[.pointer (some ⟨g, 0, none⟩)] w fun e w' => e = .returned (.agg #[.int .i64 s, .int .i64 d.waits.length, .int .i64 d.deeds, .bool d.down]) ∧ Fr (fun _ => False) w w' := by
  obtain ⟨F, kb, vw, hm, hD⟩ := h
  obtain ⟨l, h1, h2, h3, hh⟩ := hm.head
  obtain ⟨ao, cap, rfl, _, _⟩ := hm.wr.form
  obtain ⟨W0, hW0⟩ : ∃ W0, W0 = w.alloc (.cells #[.int .i64 0, .int .i64 0, .int .i64 0, .bool false] 63) := ⟨_, rfl⟩
  have hf0 : Fr (fun _ => False) w W0 := by rw [hW0]; exact (Fr.refl _ _).alloc _
  have hh2 := hh.keep hf0 id
  have hc := dIs_yes _ g kb s _ d.deeds l d.down hh2
  obtain ⟨c0, _, c2, c3, c4, _⟩ := hh2.cells
  have hnew : W0.heap[w.heap.size]? = some (.cells #[.int .i64 0, .int .i64 0, .int .i64 0, .bool false] 63 (0, 0)) := by rw [hW0]; exact heap_alloc_new _ _
  have HF0 := Lib.hid (And.intro hf0 hnew)
  have HW := Lib.hid hW0
  rw [hW0] at hc
  clear hm hh hh2 h1 hf0 hW0 hnew
  go_enter Try.func32, Try.ntmps32
  go_wp2_with (go_at_call 58; refine hc.mono ?_; rintro e w1 ⟨rfl, rfl⟩)
  rw [← HW.out]
  clear hc
  generalize hgb : w.heap.size = gb at *
  have HGB := Lib.hid hgb
  clear hgb
  go_still_tail 24, (by kernel_rfl)
  obtain ⟨n, hn⟩ : ∃ n, n = d.waits.length := ⟨_, rfl⟩
  refine wpList_store_row rfl 63 (.tmp 2) (.tmp 30) rfl gb #[.int .i64 s, .int .i64 d.waits.length, .int .i64 d.deeds, .bool d.down] #[.int .i64 0, .int .i64 0, .int .i64 0, .bool false] 63 rfl rfl HF0.out.2 (by kernel_rfl) rfl (by kernel_rfl) ?_
  go_wp2
  have hst := setRow_heap W0.drew gb _ #[.int .i64 s, .int .i64 d.waits.length, .int .i64 d.deeds, .bool d.down] _ (0, 0) HF0.out.2
  refine bodyPost_ret (results_cell_row rfl _ _ gb 63 _ (0, 0) _ rfl hst Try.underlying63 rfl (by kernel_rfl)) rfl ⟨rfl, ?_⟩
  exact HF0.out.1.trans (Fr.ofDrew ((Fr.refl (· = gb) W0.drew).setRow (.inl rfl) _)) (fun k e => .inr (by rw [HGB.out, show k = gb from e]; exact Nat.le_refl _))
end Go.Proofs.Ytcbbcihfooaggaa
namespace Go.Proofs.Ytcbbcihfooaggaa
set_option linter.unusedVariables false
def Dv.puts (s : Nat) : Dv → List Pend → Int × Dv
  | d, [] => (0, d)
  | d, p :: ps => if (d.write s p.1 p.2).1 = 0 then Dv.puts s (d.write s p.1 p.2).2 ps else d.write s p.1 p.2
theorem full64_self (b : List UInt8) (h : b.length = 64) : full64 b = b := by simp [full64, h]
theorem Dv.puts_cases (s : Nat) : ∀ (ps : List Pend) (d : Dv), d.down = false → Pends s ps →
    ((d.puts s ps).1 = 0 ∧ (d.puts s ps).2.all = d.all ∧ (d.puts s ps).2.waits = d.waits ++ ps ∧ (d.puts s ps).2.down = false ∧ (d.puts s ps).2.deeds = d.deeds + ps.length ∧ (d.left = 0 → (d.puts s ps).2.left = 0)) ∨
    (d.left ≠ 0 ∧ (d.puts s ps).1 = 10 ∧ (d.puts s ps).2.all = d.all ∧ (d.puts s ps).2.down = true ∧ (d.puts s ps).2.deeds ≤ d.deeds + ps.length ∧ ∃ qs, qs <+: ps ∧ (d.puts s ps).2.waits = d.waits ++ qs)
  | [], d, hd, _ => .inl ⟨rfl, rfl, by simp [Dv.puts], hd, rfl, id⟩
  | p :: ps, d, hd, hp => by
    have hp0 := hp p List.mem_cons_self
    have hps : Pends s ps := fun q hq => hp q (List.mem_cons_of_mem _ hq)
    have hn : ¬ ((p.1 : Int) < 0 ∨ (s : Int) ≤ p.1 ∨ 64 < p.2.length) := by omega
    by_cases h1 : d.left = 1
    · have hw := Dv.write_out hd hn h1
      rw [Dv.puts, hw]
      exact .inr ⟨by omega, rfl, rfl, rfl, by simp, [], List.nil_prefix, by simp⟩
    · have hw := Dv.write_ok hd hn h1
      rw [Dv.puts, hw]
      simp only [if_true]
      rw [full64_self _ hp0.2, Int.toNat_natCast]
      have ih := Dv.puts_cases s ps { all := d.all, waits := d.waits ++ [(p.1, p.2)], left := d.left - 1, deeds := d.deeds + 1, down := d.down } hd hps
      simp only at ih
      rcases ih with ⟨a1, a2, a3, a4, a5, a6⟩ | ⟨b0, b1, b2, b3, b4, qs, b5, b6⟩
      · exact .inl ⟨a1, a2, by rw [a3, List.append_assoc]; rfl, a4, by rw [a5, List.length_cons]; omega, fun h => a6 (by omega)⟩
      · exact .inr ⟨by omega, b1, b2, b3, by rw [List.length_cons]; omega, p :: qs, (List.prefix_cons_inj p).2 b5, by rw [b6, List.append_assoc]; rfl⟩
end Go.Proofs.Ytcbbcihfooaggaa
namespace Go.Proofs.Ytcbbcihfooaggaa
set_option linter.unusedVariables false
abbrev Rn := Int × Int
def rnOk (d : Nat) (r : Rn) : Bool := decide (0 ≤ r.1 ∧ 1 ≤ r.2 ∧ r.2 ≤ d - r.1)
def rnSecs (r : Rn) : List Nat := (List.range r.2.toNat).map (r.1.toNat + ·)
def secs7 (l : List Rn) : List Nat := l.flatMap rnSecs
def apart7 (d : Nat) (l : List Rn) : Bool := l.all (rnOk d) && decide (secs7 l).Nodup
theorem rnOk_iff {d : Nat} {r : Rn} : rnOk d r = true ↔ 0 ≤ r.1 ∧ 1 ≤ r.2 ∧ r.2 ≤ d - r.1 := by rw [rnOk, decide_eq_true_iff]
theorem rnOk_nat {d : Nat} {r : Rn} (h : rnOk d r = true) : ∃ a m : Nat, r = ((a : Int), (m : Int)) ∧ 1 ≤ m ∧ a + m ≤ d := by
  obtain ⟨h1, h2, h3⟩ := rnOk_iff.1 h
  refine ⟨r.1.toNat, r.2.toNat, ?_, by omega, by omega⟩
  obtain ⟨x, y⟩ := r
  simp only [Prod.mk.injEq]
  simp only at h1 h2
  exact ⟨by omega, by omega⟩
theorem rnSecs_nat (a m : Nat) : rnSecs ((a : Int), (m : Int)) = (List.range m).map (a + ·) := by simp [rnSecs]
theorem rnSecs_length (r : Rn) : (rnSecs r).length = r.2.toNat := by simp [rnSecs]
theorem mem_rnSecs {a m x : Nat} : x ∈ rnSecs ((a : Int), (m : Int)) ↔ a ≤ x ∧ x < a + m := by
  rw [rnSecs_nat, List.mem_map]
  constructor
  · rintro ⟨i, hi, rfl⟩
    have := List.mem_range.1 hi
    omega
  · intro h
    exact ⟨x - a, List.mem_range.2 (by omega), by omega⟩
theorem secs7_cons (r : Rn) (l : List Rn) : secs7 (r :: l) = rnSecs r ++ secs7 l := by simp [secs7]
theorem secs7_append (l m : List Rn) : secs7 (l ++ m) = secs7 l ++ secs7 m := by simp [secs7]
theorem secs7_one (r : Rn) : secs7 [r] = rnSecs r := by simp [secs7]
theorem apart7_iff {d : Nat} {l : List Rn} : apart7 d l = true ↔ (∀ r ∈ l, rnOk d r = true) ∧ (secs7 l).Nodup := by
  rw [apart7, Bool.and_eq_true, List.all_eq_true, decide_eq_true_iff]
theorem apart7_nil (d : Nat) : apart7 d [] = true := by rw [apart7_iff]; exact ⟨(fun _ h => by cases h), List.nodup_nil⟩
theorem apart7_left {d : Nat} {l m : List Rn} (h : apart7 d (l ++ m) = true) : apart7 d l = true := by
  rw [apart7_iff] at h ⊢
  rw [secs7_append] at h
  exact ⟨fun r hr => h.1 r (List.mem_append_left _ hr), (List.nodup_append.1 h.2).1⟩
theorem secs7_lt {d : Nat} {l : List Rn} (h : ∀ r ∈ l, rnOk d r = true) {x : Nat} (hx : x ∈ secs7 l) : x < d := by
  unfold secs7 at hx
  obtain ⟨r, hr, hx⟩ := List.mem_flatMap.1 hx
  obtain ⟨a, m, rfl, h1, h2⟩ := rnOk_nat (h r hr)
  have := mem_rnSecs.1 hx
  omega
theorem nodup_bound : ∀ (d : Nat) (l : List Nat), l.Nodup → (∀ x ∈ l, x < d) → l.length ≤ d := by
  intro d l hn hl
  have h1 : l ⊆ List.range d := fun x hx => List.mem_range.2 (hl x hx)
  have h2 : ∀ (l m : List Nat), l.Nodup → l ⊆ m → l.length ≤ m.length := by
    intro l
    induction l with
    | nil => intro m _ _; simp
    | cons x l ih =>
      intro m hn hs
      have hx : x ∈ m := hs List.mem_cons_self
      have hn2 := List.nodup_cons.1 hn
      have := ih (m.erase x) hn2.2 (fun y hy => by
        have hne : y ≠ x := fun e => hn2.1 (e ▸ hy)
        exact (List.mem_erase_of_ne hne).2 (hs (List.mem_cons_of_mem _ hy)))
      rw [List.length_erase_of_mem hx] at this
      have hp := List.length_pos_of_mem hx
      simp only [List.length_cons]
      omega
  have := h2 l (List.range d) hn h1
  rwa [List.length_range] at this
theorem apart7_le {d : Nat} {l : List Rn} (h : apart7 d l = true) : (secs7 l).length ≤ d := by
  rw [apart7_iff] at h
  exact nodup_bound d _ h.2 (fun x hx => secs7_lt h.1 hx)
theorem secs7_many {d : Nat} {l : List Rn} (h : ∀ r ∈ l, rnOk d r = true) : l.length ≤ (secs7 l).length := by
  induction l with
  | nil => simp
  | cons r l ih =>
    have := ih (fun q hq => h q (List.mem_cons_of_mem _ hq))
    have h1 := (rnOk_iff.1 (h r List.mem_cons_self)).2.1
    rw [secs7_cons, List.length_append, rnSecs_length, List.length_cons]
    omega
def many7 (l : List Rn) : Int := (l.map (·.2)).sum
theorem many7_eq {d : Nat} {l : List Rn} (h : ∀ r ∈ l, rnOk d r = true) : many7 l = (secs7 l).length := by
  induction l with
  | nil => rfl
  | cons r l ih =>
    have := ih (fun q hq => h q (List.mem_cons_of_mem _ hq))
    have h1 := (rnOk_iff.1 (h r List.mem_cons_self)).2.1
    rw [secs7_cons, List.length_append, rnSecs_length]
    simp only [many7, List.map_cons, List.sum_cons] at this ⊢
    rw [this]
    omega
theorem many7_snoc (l : List Rn) (r : Rn) : many7 (l ++ [r]) = many7 l + r.2 := by simp [many7]
def free7 (d : Nat) (l : List Rn) : List Nat := (List.range d).filter (fun x => !decide (x ∈ secs7 l))
theorem mem_free7 {d : Nat} {l : List Rn} {x : Nat} : x ∈ free7 d l ↔ x < d ∧ x ∉ secs7 l := by simp [free7]
theorem filter_count (S : List Nat) : ∀ (d : Nat), S.Nodup → (∀ x ∈ S, x < d) → ((List.range d).filter (fun x => decide (x ∈ S))).length = S.length := by
  intro d hn hl
  have hp : ((List.range d).filter (fun x => decide (x ∈ S))).Perm S := by
    rw [List.perm_ext_iff_of_nodup (List.nodup_range.filter _) hn]
    intro x
    simp only [List.mem_filter, List.mem_range, decide_eq_true_eq]
    exact ⟨fun h => h.2, fun h => ⟨hl x h, h⟩⟩
  exact hp.length_eq
theorem filter_not_length {α : Type} (p : α → Bool) : ∀ l : List α, (l.filter p).length + (l.filter (fun x => !p x)).length = l.length
  | [] => rfl
  | x :: l => by
    have := filter_not_length p l
    cases h : p x <;> simp [h] <;> omega
theorem free7_length {d : Nat} {l : List Rn} (h : apart7 d l = true) : (free7 d l).length + (secs7 l).length = d := by
  have h1 := filter_not_length (fun x => decide (x ∈ secs7 l)) (List.range d)
  rw [apart7_iff] at h
  rw [filter_count _ d h.2 (fun x hx => secs7_lt h.1 hx), List.length_range] at h1
  unfold free7
  omega
theorem free7_nodup (d : Nat) (l : List Rn) : (free7 d l).Nodup := List.nodup_range.filter _
def jn7 (l : List Rn) (x : Nat) : List Rn :=
  match l.getLast? with
  | some r => if r.1 + r.2 = x then l.dropLast ++ [(r.1, r.2 + 1)] else l ++ [((x : Int), 1)]
  | none => l ++ [((x : Int), 1)]
def joins7 (xs : List Nat) : List Rn := xs.foldl jn7 []
theorem joins7_snoc (xs : List Nat) (x : Nat) : joins7 (xs ++ [x]) = jn7 (joins7 xs) x := by simp [joins7]
theorem jn7_nil (x : Nat) : jn7 [] x = [((x : Int), 1)] := rfl
theorem jn7_snoc (l : List Rn) (r : Rn) (x : Nat) : jn7 (l ++ [r]) x = if r.1 + r.2 = x then l ++ [(r.1, r.2 + 1)] else l ++ [r] ++ [((x : Int), 1)] := by
  unfold jn7
  rw [List.getLast?_concat, List.dropLast_concat]
def find7 (d : Nat) (l : List Rn) (n : Nat) : List Rn := joins7 ((free7 d l).take n)
def RnPos (l : List Rn) : Prop := ∀ r ∈ l, 0 ≤ r.1 ∧ 1 ≤ r.2
theorem jn7_pos {l : List Rn} (h : RnPos l) (x : Nat) : RnPos (jn7 l x) := by
  rcases List.eq_nil_or_concat l with rfl | ⟨l, r, rfl⟩
  · rw [jn7_nil]
    intro q hq
    rw [List.mem_singleton.1 hq]
    exact ⟨by simp, by simp⟩
  · rw [List.concat_eq_append, jn7_snoc]
    rw [List.concat_eq_append] at h
    have hr := h r (by simp)
    split
    · intro q hq
      rcases List.mem_append.1 hq with hq | hq
      · exact h q (List.mem_append_left _ hq)
      · rw [List.mem_singleton.1 hq]
        exact ⟨hr.1, by simp only; omega⟩
    · intro q hq
      rcases List.mem_append.1 hq with hq | hq
      · exact h q hq
      · rw [List.mem_singleton.1 hq]
        exact ⟨by simp, by simp⟩
theorem jn7_secs {l : List Rn} (h : RnPos l) (x : Nat) : secs7 (jn7 l x) = secs7 l ++ [x] := by
  rcases List.eq_nil_or_concat l with rfl | ⟨l, r, rfl⟩
  · rw [jn7_nil, secs7_one, rnSecs]
    simp [secs7]
  · rw [List.concat_eq_append, jn7_snoc]
    rw [List.concat_eq_append] at h
    have hr := h r (by simp)
    split
    · rename_i e
      rw [secs7_append, secs7_append, secs7_one, secs7_one, List.append_assoc]
      congr 1
      unfold rnSecs
      simp only
      rw [show (r.2 + 1).toNat = r.2.toNat + 1 by omega, List.range_succ, List.map_append]
      congr 1
      simp only [List.map_cons, List.map_nil, List.cons.injEq, and_true]
      omega
    · rw [secs7_append (l ++ [r]), secs7_one (((x : Int), 1) : Rn)]
      congr 1
theorem joins7_pos : ∀ (xs : List Nat) (l : List Rn), RnPos l → RnPos (xs.foldl jn7 l)
  | [], l, h => h
  | x :: xs, l, h => joins7_pos xs _ (jn7_pos h x)
theorem joins7_secs_ : ∀ (xs : List Nat) (l : List Rn), RnPos l → secs7 (xs.foldl jn7 l) = secs7 l ++ xs
  | [], l, h => by simp
  | x :: xs, l, h => by
    rw [List.foldl_cons, joins7_secs_ xs _ (jn7_pos h x), jn7_secs h, List.append_assoc]
    rfl
theorem joins7_secs (xs : List Nat) : secs7 (joins7 xs) = xs := by
  have := joins7_secs_ xs [] (fun _ h => by cases h)
  simpa [joins7, secs7] using this
theorem joins7_Pos (xs : List Nat) : RnPos (joins7 xs) := joins7_pos xs [] (fun _ h => by cases h)
theorem rnOk_of {d : Nat} {l : List Rn} (h : RnPos l) (hd : ∀ x ∈ secs7 l, x < d) : ∀ r ∈ l, rnOk d r = true := by
  intro r hr
  have h1 := h r hr
  rw [rnOk_iff]
  refine ⟨h1.1, h1.2, ?_⟩
  have hm : r.1.toNat + (r.2.toNat - 1) ∈ secs7 l := by
    unfold secs7
    refine List.mem_flatMap.2 ⟨r, hr, ?_⟩
    unfold rnSecs
    exact List.mem_map.2 ⟨r.2.toNat - 1, List.mem_range.2 (by omega), rfl⟩
  have := hd _ hm
  omega
theorem find7_secs (d : Nat) (l : List Rn) (n : Nat) : secs7 (find7 d l n) = (free7 d l).take n := joins7_secs _
theorem find7_apart {d : Nat} {l : List Rn} (n : Nat) (h : apart7 d l = true) : apart7 d (l ++ find7 d l n) = true := by
  have hf := find7_secs d l n
  rw [apart7_iff] at h ⊢
  refine ⟨fun r hr => ?_, ?_⟩
  · rcases List.mem_append.1 hr with hr | hr
    · exact h.1 r hr
    · exact rnOk_of (joins7_Pos _) (fun x hx => by
        rw [show joins7 ((free7 d l).take n) = find7 d l n from rfl, hf] at hx
        exact (mem_free7.1 (List.mem_of_mem_take hx)).1) r hr
  · rw [secs7_append, hf, List.nodup_append]
    refine ⟨h.2, (free7_nodup d l).sublist (List.take_sublist _ _), fun x hx y hy e => ?_⟩
    subst e
    exact (mem_free7.1 (List.mem_of_mem_take hy)).2 hx
end Go.Proofs.Ytcbbcihfooaggaa
namespace Go.Proofs.Ytcbbcihfooaggaa
set_option linter.unusedVariables false
def need7 (n : Int) : Int := if n < 1 then 0 else (n - 1) / 64 + 1
theorem need7_nat (n : Nat) : need7 (n : Int) = ((n + 63) / 64 : Nat) := by unfold need7; split <;> omega
def pends7 (f : Nat) : List Nat → List UInt8 → List Pend
  | [], _ => []
  | x :: xs, b => (f + x, full64 (b.take 64)) :: pends7 f xs (b.drop 64)
theorem full64_full (b : List UInt8) (h : b.length ≤ 64) : full64 (full64 b) = full64 b := full64_self _ (full64_length b h)
theorem Dv.write_full (d : Dv) (s : Nat) (a : Int) (b : List UInt8) (h : b.length ≤ 64) : d.write s a (full64 b) = d.write s a b := by
  unfold Dv.write
  rw [full64_length b h, full64_full b h]
  by_cases h1 : d.down = true
  · rw [if_pos h1, if_pos h1]
  · rw [if_neg h1, if_neg h1]
    by_cases h2 : a < 0 ∨ (s : Int) ≤ a
    · rw [if_pos (by omega), if_pos (by omega)]
    · rw [if_neg (by omega), if_neg (by omega)]
theorem take64_le (b : List UInt8) : (b.take 64).length ≤ 64 := by rw [List.length_take]; omega
def Dv.wr7 (d : Dv) (s f : Nat) (xs : List Nat) (b : List UInt8) : Int × Dv := if (d.puts s (pends7 f xs b)).1 = 0 then (d.puts s (pends7 f xs b)).2.flush else d.puts s (pends7 f xs b)
theorem pends7_pends (s f : Nat) : ∀ (xs : List Nat) (b : List UInt8), (∀ x ∈ xs, f + x < s) → Pends s (pends7 f xs b)
  | [], _, _ => fun _ h => by cases h
  | x :: xs, b, h => fun p hp => by
    rw [pends7] at hp
    rcases List.mem_cons.1 hp with rfl | hp
    · exact ⟨h x List.mem_cons_self, full64_length _ (take64_le b)⟩
    · exact pends7_pends s f xs (b.drop 64) (fun y hy => h y (List.mem_cons_of_mem _ hy)) p hp
theorem pends7_length (f : Nat) : ∀ (xs : List Nat) (b : List UInt8), (pends7 f xs b).length = xs.length
  | [], _ => rfl
  | x :: xs, b => by rw [pends7, List.length_cons, List.length_cons, pends7_length f xs]
def Dv.rd7 (d : Dv) (s f : Nat) : List Nat → Int × List UInt8
  | [] => (0, [])
  | x :: xs => if (d.read s ((f + x : Nat) : Int)).1 = 0 then (if (Dv.rd7 d s f xs).1 = 0 then (0, (d.read s ((f + x : Nat) : Int)).2 ++ (Dv.rd7 d s f xs).2) else ((Dv.rd7 d s f xs).1, [])) else ((d.read s ((f + x : Nat) : Int)).1, [])
theorem Dv.read_up {d : Dv} {s a : Nat} (h : d.down = false) (ha : a < s) : d.read s (a : Int) = (0, d.seen a) := by
  unfold Dv.read
  rw [if_neg (by rw [h]; decide), if_neg (by omega), Int.toNat_natCast]
theorem Dv.read_dn {d : Dv} {s : Nat} {a : Int} (h : d.down = true) : d.read s a = (10, []) := by unfold Dv.read; rw [if_pos h]
def Dv.see7 (d : Dv) (f : Nat) (xs : List Nat) : List UInt8 := xs.flatMap (fun x => d.seen (f + x))
theorem Dv.rd7_up {d : Dv} {s f : Nat} (h : d.down = false) : ∀ xs : List Nat, (∀ x ∈ xs, f + x < s) → d.rd7 s f xs = (0, d.see7 f xs)
  | [], _ => rfl
  | x :: xs, hx => by
    rw [Dv.rd7, Dv.read_up h (hx x List.mem_cons_self), Dv.rd7_up h xs (fun y hy => hx y (List.mem_cons_of_mem _ hy))]
    simp [Dv.see7]
theorem Dv.rd7_dn {d : Dv} {s f : Nat} (h : d.down = true) : ∀ xs : List Nat, d.rd7 s f xs = if xs = [] then (0, []) else (10, [])
  | [] => rfl
  | x :: xs => by
    rw [Dv.rd7, Dv.read_dn h]
    simp
end Go.Proofs.Ytcbbcihfooaggaa
namespace Go.Proofs.Ytcbbcihfooaggaa
open Go.RowKit Go.ChangeShapes
set_option linter.unusedVariables false
section
variable {P : Program} {w : World} {o : Oper} {a : Act}
theorem op_loadAt {t : TypeId} {x : Operand} {vx v : Value} (ho : o.op = .load t x) (hx : a.eval x = vx) (hr : (Instr.loadAt t vx).run P w = .ok v w) : (execOp a.eval o).run P w = .ok (.value v) w := by
  unfold execOp
  rw [ho]
  simp only [hx, Sem.run_bind, hr, Result.andThen_ok]
  rfl
end
theorem op_len5 {w : World} {o : Oper} {a : Act} {x : Operand} {ao : Option Addr} {n cap : Nat} (ho : o.op = .call { callee := .builtin .len, args := #[x], argTypes := #[40] }) (hx : a.eval x = .slice ao n cap) :
    (execOp a.eval o).run Try.prog w = .ok (.value (.int .i64 n)) w := by
  obtain ⟨d, op, ty, pos, aft, g⟩ := o
  simp only at ho
  subst ho
  simp [execOp, resolve, invoke, builtin, Builtin.len_, hx, Result.andThen, goInt]
theorem load_one5 (w : World) (T : TypeId) (p : Addr) (v : Value) (hT : (isAgg T).run Try.prog w = .ok false w) (h : w.cell? p = some v) : (Instr.loadAt T (.pointer (some p))).run Try.prog w = .ok v w := by
  simp [Instr.loadAt, Instr.sureAddr, loadVar, hT, h, go_sem]
theorem load_int5 (w : World) (p : Addr) (v : Value) (h : w.cell? p = some v) : (Instr.loadAt 3 (.pointer (some p))).run Try.prog w = .ok v w := load_one5 w _ p v (by kernel_rfl) h
section
variable {w : World} {T : TypeId} {k : IntKind} {x y : Int}
theorem leq_yes (h : x ≤ y) : (binOp .leq T (.int k x) (.int k y)).run Try.prog w = .ok (.bool true) w := by rw [binOp_leq]; simp [h]
theorem leq_no (h : y < x) : (binOp .leq T (.int k x) (.int k y)).run Try.prog w = .ok (.bool false) w := by rw [binOp_leq]; simp [h]
end
theorem wrap_in5 {x : Int} (h0 : -9223372036854775808 ≤ x) (h1 : x ≤ 9223372036854775807) : IntKind.i64.wrap x = x := IntWalk.i64_in x (by omega)
theorem add_in5 {w : World} {T : TypeId} {x y z : Int} (hz : x + y = z) (h0 : -9223372036854775808 ≤ z) (h1 : z ≤ 9223372036854775807) : (binOp .add T (.int .i64 x) (.int .i64 y)).run Try.prog w = .ok (.int .i64 z) w := by
  rw [binOp_add]
  subst hz
  simp [Op.intArith, wrap_in5 h0 h1, go_sem]
theorem sub_in5 {w : World} {T : TypeId} {x y z : Int} (hz : x - y = z) (h0 : -9223372036854775808 ≤ z) (h1 : z ≤ 9223372036854775807) : (binOp .sub T (.int .i64 x) (.int .i64 y)).run Try.prog w = .ok (.int .i64 z) w := by
  rw [binOp_sub]
  subst hz
  simp [Op.intArith, wrap_in5 h0 h1, go_sem]
theorem range_row5 {w : World} {g : Nat} {C : Array Value} {T : TypeId} (h : w.heap[g]? = some (.cells C T (0, 0))) : w.rangeAt g 0 C.toList := fun j v hv => by
  rw [Nat.zero_add, cell_of_row _ _ _ _ _ _ h]
  simpa using hv
end Go.Proofs.Ytcbbcihfooaggaa
