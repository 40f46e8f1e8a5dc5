/- Laid together: DOps2 DOps3 LogL LogPut LogHead -/
import Derived.Test.YtldgcoikbjbjeaaGreatTk7
import Derived.Test.YtldgcoikbjbjeaaGreatTk1

namespace Go.Proofs.YtldgcoikbjbjeaaGreat
open Go.RowKit Go.ChangeShapes
set_option linter.unusedVariables false
def Dv.new (s : Nat) : Dv := { all := List.replicate (64 * s) 0, waits := [], deeds := 0, left := 0, down := false }
theorem aNew (w : World) (s : Nat) (h1 : 1 ≤ s) (h2 : s ≤ 8192) :
    Calls Tryz.prog 8 #[.int .i64 s] w fun e w' => ∃ g, e = .returned (.tuple #[.pointer (some ⟨g, 0, none⟩), .int .i64 0]) ∧ DevAt w' (fun k => w.heap.size ≤ k) g s (Dv.new s) ∧ Fr (fun _ => False) w w' := by
  refine (dNew_yes w s h1 h2).mono ?_
  rintro e w' ⟨g, kb, rfl, hg, hk, hne, hh, hb, hf⟩
  exact ⟨g, rfl, ⟨fun _ => False, kb, _, ⟨⟨0, fun _ => rfl, by decide, by decide, hh⟩, hb, WrAt.nil _ _, ⟨by simp [Dv.new], fun p hp => by cases hp⟩, ⟨hne, id, id⟩, h2⟩, fun k hk' => by
    rcases hk' with rfl | rfl | h
    · exact hg
    · exact hk
    · exact h.elim⟩, hf⟩
set_option maxHeartbeats 1000000 in
theorem aWrite {D G : Nat → Prop} (w : World) (g s : Nat) (d : Dv) (a : Int) (vb : Value) (b : List UInt8) (ha0 : -9223372036854775808 ≤ a) (ha1 : a ≤ 9223372036854775807) (hk6 : d.deeds ≤ 1000000000) (hn6 : d.waits.length + 1 ≤ 1000000) (hb : BytesIn G w vb b) (hG : ∀ k, k < w.heap.size → G k → ¬ D k) (h : DevAt w D g s d) :
    Calls Tryz.prog 88 #[.pointer (some ⟨g, 0, none⟩), .int .i64 a, vb] w fun e w' => e = .returned (.int .i64 (d.write s a b).1) ∧ DevAt w' (More D w) g s (d.write s a b).2 ∧ Fr D w w' := by
  have hR := h.right
  have hgD := h.lt
  obtain ⟨F, kb, vw, hm, hD⟩ := h
  obtain ⟨l, h1, h2, h3, hh⟩ := hm.head
  have hc := dReady_any w g kb s vw d.deeds l d.down hh
  obtain ⟨ab, cb, hvb⟩ : ∃ ao cap, vb = .slice ao b.length cap := by obtain ⟨x, y, hx, _⟩ := hb; exact ⟨x, y, hx⟩
  subst hvb
  have HM0 := Lib.hid (show DevAt w (More D w) g s d from ⟨F, kb, vw, hm, fun k hk => .inl (hD k hk)⟩)
  cases hd : d.down with
  | true =>
    rw [Dv.write_down hd]
    rw [hd] at hc
    clear hm hh hR h1 hb
    go_enter Tryz.func88, Tryz.ntmps88
    go_wp2_with (go_at_call 30; refine hc.mono ?_; rintro e w1 ⟨rfl, rfl⟩)
    go_ret
    exact ⟨rfl, HM0.out, Fr.refl _ _⟩
  | false =>
    have hl := h1 hd
    rw [hd] at hc hh
    have hha := dHas_any w g kb s vw d.deeds l false a hh
    obtain ⟨q, hq⟩ : ∃ q, q = b.length := ⟨_, rfl⟩
    by_cases h0 : a < 0 ∨ (s : Int) ≤ a ∨ 64 < b.length
    · rw [Dv.write_arg hd h0]
      by_cases hs : 0 ≤ a ∧ a < (s : Int)
      · rw [show decide (0 ≤ a ∧ a < (s : Int)) = true by rw [decide_eq_true_iff]; exact hs] at hha
        have hbl : 64 < q := by omega
        have hd1 : decide (64 < (q : Int)) = true := by rw [decide_eq_true_iff]; omega
        have hd2 : decide (64 < q) = true := by rw [decide_eq_true_iff]; omega
        rw [← hq] at *
        clear hm hh hR h1 hb h0 hs hl hq
        go_enter Tryz.func88, Tryz.ntmps88
        go_wp2_with (first
          | (go_at_call 30; refine hc.mono ?_; rintro e w1 ⟨rfl, rfl⟩)
          | (go_at_call 91; refine hha.mono ?_; rintro e w1 ⟨rfl, rfl⟩))
        go_ret
        exact ⟨rfl, HM0.out, Fr.refl _ _⟩
      · rw [show decide (0 ≤ a ∧ a < (s : Int)) = false by rw [decide_eq_false_iff_not]; exact hs] at hha
        clear hm hh hR h1 hb h0 hs hl hq
        go_enter Tryz.func88, Tryz.ntmps88
        go_wp2_with (first
          | (go_at_call 30; refine hc.mono ?_; rintro e w1 ⟨rfl, rfl⟩)
          | (go_at_call 91; refine hha.mono ?_; rintro e w1 ⟨rfl, rfl⟩))
        go_ret
        exact ⟨rfl, HM0.out, Fr.refl _ _⟩
    · have hs : 0 ≤ a ∧ a < (s : Int) := by omega
      rw [show decide (0 ≤ a ∧ a < (s : Int)) = true by rw [decide_eq_true_iff]; exact hs] at hha
      have hbl : ¬ 64 < q := by omega
      have hd1 : decide (64 < (q : Int)) = false := by rw [decide_eq_false_iff_not]; omega
      have hd2 : decide (64 < q) = false := by rw [decide_eq_false_iff_not]; omega
      have hde := dDeed_any w g kb s vw d.deeds l false (by omega) (by omega) h2 h3 hh
      obtain ⟨n, hn⟩ : ∃ n : Nat, a = n := ⟨a.toNat, by omega⟩
      by_cases e1 : d.left = 1
      · rw [Dv.write_out hd h0 e1]
        have el : l = 1 := by omega
        subst el
        have HDE := Lib.hid hde
        have HM := Lib.hid (And.intro hm (And.intro hD hR))
        rw [← hq] at *
        clear hm hh hR h1 hde hl hb h0 hs hq hn
        go_enter Tryz.func88, Tryz.ntmps88
        go_wp2_with (first
          | (go_at_call 30; refine hc.mono ?_; rintro e w1 ⟨rfl, rfl⟩)
          | (go_at_call 91; refine hha.mono ?_; rintro e w1 ⟨rfl, rfl⟩)
          | (go_at_call 125; refine HDE.out.mono ?_; rintro e w1 ⟨rfl, hh, hf⟩; (have HS := Lib.hid (And.intro hh hf)); clear hh hf))
        go_ret
        obtain ⟨hm, hD, hR⟩ := HM.out
        obtain ⟨hh, hf⟩ := HS.out
        exact ⟨rfl, ⟨F, kb, vw, ⟨⟨1, fun h => (by cases h), by decide, by decide, hh⟩, hf.heap hm.kept (fun e => hm.sep.1 e.symm), hm.wr.keep hf (fun k _ hF e => hm.sep.2.1 (e ▸ hF)), hR.same rfl rfl, hm.sep, hm.small⟩, fun k hk => .inl (hD k hk)⟩, hf.mono (fun k _ e => hD k (.inl e))⟩
      · rw [Dv.write_ok hd h0 e1]
        have hRW := hR.write a b
        rw [Dv.write_ok hd h0 e1] at hRW
        have el : l ≠ 1 := by omega
        have et : decide (l ≠ 1) = true := by rw [decide_eq_true_iff]; exact el
        rw [et, if_neg el, if_neg el] at hde
        obtain ⟨l', hl'⟩ : ∃ l', l' = if l = 0 ∨ l = 1 then l else l - 1 := ⟨_, rfl⟩
        have hl2 : l' = ((d.left - 1 : Nat) : Int) := by rw [hl']; split <;> omega
        have hl3 : 0 ≤ l' ∧ l' ≤ 9223372036854775807 := by omega
        rw [← hl'] at hde
        subst hn
        have had := fun W (hD2 : DvH W g kb s vw (d.deeds + 1) l' false) (hf : Fr (· = g) w W) => dAdd_any (G := fun k => G k ∧ k < w.heap.size) W g kb s n vw (.slice ab b.length cb) d.waits b (d.deeds + 1) l' false hD2 (hm.wr.keep hf (fun k _ hF e => hm.sep.2.1 (e ▸ hF)))
          ((hb.mono (G := fun k => G k ∧ k < w.heap.size) (fun k hk hg => ⟨hg, hk⟩)).keep hf (fun k hk hg e => hG k hk hg.1 (e ▸ hgD.2))) (fun i hi => ⟨Nat.lt_of_lt_of_le hi.2 hf.size, fun e => hG i hi.2 hi.1 (e ▸ hgD.2)⟩) (by omega) hm.sep.2.1 hn6
        have HDE := Lib.hid hde
        have HAD := Lib.hid had
        have HM := Lib.hid (And.intro hm (And.intro hD (And.intro hR hRW)))
        have HL := Lib.hid (And.intro hl2 hl3)
        rw [← hq] at *
        clear hm hh hR h1 hde hl hb h0 hs had hl2 hl3 hl' hRW hq
        go_enter Tryz.func88, Tryz.ntmps88
        go_wp2_with (first
          | (go_at_call 30; refine hc.mono ?_; rintro e w1 ⟨rfl, rfl⟩)
          | (go_at_call 91; refine hha.mono ?_; rintro e w1 ⟨rfl, rfl⟩)
          | (go_at_call 125; refine HDE.out.mono ?_; rintro e w1 ⟨rfl, hh, hf⟩; (have HS := Lib.hid (And.intro hh hf)); clear hh hf)
          | (go_at_call 126; refine (HAD.out _ HS.out.1 HS.out.2).mono ?_; rintro e w2 ⟨rfl, vw2, hh, hp, hf⟩; (have HS2 := Lib.hid (And.intro hh (And.intro hp hf))); clear hh hp hf))
        go_ret
        obtain ⟨hm, hD, hR, hRW⟩ := HM.out
        obtain ⟨hh, hp, hf⟩ := HS2.out
        have hlt := hm.lt
        have hsz := HS.out.2.size
        have hkb : BytT w2 kb 140 d.all := hf.heap (HS.out.2.heap hm.kept (fun e => hm.sep.1 e.symm)) (fun e => e.elim (fun e => hm.sep.1 e.symm) hm.sep.2.2)
        refine ⟨rfl, ⟨fun k => F k ∨ w1.heap.size ≤ k, kb, vw2, ⟨⟨l', fun _ => HL.out.1, HL.out.2.1, HL.out.2.2, by rw [hd]; exact hh⟩, hkb, by simpa using hp, hRW, ⟨hm.sep.1, fun h => h.elim hm.sep.2.1 (fun h => by omega), fun h => h.elim hm.sep.2.2 (fun h => by omega)⟩, hm.small⟩, fun k hk => ?_⟩, (HS.out.2.mono (T := D) (fun k _ e => hD k (.inl e))).trans hf (fun k e => .inl (hD k (e.elim .inl (fun h => .inr (.inr h)))))⟩
        rcases hk with hk | hk | hk | hk
        · exact .inl (hD k (.inl hk))
        · exact .inl (hD k (.inr (.inl hk)))
        · exact .inl (hD k (.inr (.inr hk)))
        · exact .inr (by omega)
end Go.Proofs.YtldgcoikbjbjeaaGreat
namespace Go.Proofs.YtldgcoikbjbjeaaGreat
open Go.RowKit Go.ChangeShapes
set_option linter.unusedVariables false
def ToldT (F : Nat → Prop) (w : World) (v : Value) (L : List UInt8) : Prop :=
  (v = .slice none 0 0 ∧ L = []) ∨ ∃ b T C cap, v = .slice (some ⟨b, 0, none⟩) L.length cap ∧ F b ∧ w.heap[b]? = some (.cells C T (0, 0)) ∧ C.size = cap ∧ L.length ≤ cap ∧ cap ≤ maxLen ∧ C.toList.take L.length = L.map bv
theorem ToldT.nil (F : Nat → Prop) (w : World) : ToldT F w (.slice none 0 0) [] := .inl ⟨rfl, rfl⟩
theorem ToldT.keep {F S : Nat → Prop} {w w' : World} {v : Value} {L : List UInt8} (h : ToldT F w v L) (hf : Fr S w w') (hd : ∀ k, k < w.heap.size → F k → ¬ S k) : ToldT F w' v L := by
  rcases h with h | ⟨b, T, C, cap, h1, h2, h3, h4⟩
  · exact .inl h
  · exact .inr ⟨b, T, C, cap, h1, h2, hf.heap h3 (hd b (lt_of_block h3) h2), h4⟩
theorem ToldT.mono {F G : Nat → Prop} {w : World} {v : Value} {L : List UInt8} (h : ToldT F w v L) (hd : ∀ k, k < w.heap.size → F k → G k) : ToldT G w v L := by
  rcases h with h | ⟨b, T, C, cap, h1, h2, h3, h4⟩
  · exact .inl h
  · exact .inr ⟨b, T, C, cap, h1, hd b (lt_of_block h3) h2, h3, h4⟩
theorem ToldT.bytes {F : Nat → Prop} {w : World} {v : Value} {L : List UInt8} (h : ToldT F w v L) : BytesIn F w v L := by
  rcases h with ⟨rfl, rfl⟩ | ⟨b, T, C, cap, rfl, h2, h3, h4, h5, h6, h7⟩
  · exact BytesIn.nil _ _
  · refine ⟨_, cap, rfl, h5, h6, (fun h => by cases h), fun a ha => ?_⟩
    cases ha
    refine ⟨fun j u hu => ?_, fun _ => h2⟩
    rw [addr_plain, Nat.zero_add, cell_of_row _ _ _ _ _ _ h3]
    rw [← h7, List.getElem?_take] at hu
    split at hu
    · rwa [Array.getElem?_toList] at hu
    · cases hu
def Dv.read (d : Dv) (s : Nat) (a : Int) : Int × List UInt8 := if d.down = true then (10, []) else if a < 0 ∨ (s : Int) ≤ a then (2, []) else (0, d.seen a.toNat)
theorem Dv.seen_length {d : Dv} {s a : Nat} (h : d.Right s) (ha : a < s) : (d.seen a).length = 64 := by
  unfold Dv.seen
  rw [← wakeL_sec (fun _ => true) s a ha d.waits 0 d.all h.waits h.all]
  exact secAt_length _ s a (wakeL_length _ s d.waits 0 d.all h.waits h.all) ha
theorem aRead {D : Nat → Prop} (w : World) (g s : Nat) (d : Dv) (a : Int) (hn6 : d.waits.length ≤ 1000000) (h : DevAt w D g s d) :
    Calls Tryz.prog 53 #[.pointer (some ⟨g, 0, none⟩), .int .i64 a] w fun e w' => ∃ v, e = .returned (.tuple #[v, .int .i64 (d.read s a).1]) ∧ ToldT (fun k => w.heap.size ≤ k) w' v (d.read s a).2 ∧ Fr (fun _ => False) w w' := by
  have hR := h.right
  obtain ⟨F, kb, vw, hm, hD⟩ := h
  obtain ⟨l, h1, h2, h3, hh⟩ := hm.head
  have hc := dReady_any w g kb s vw d.deeds l d.down hh
  unfold Dv.read
  cases hd : d.down with
  | true =>
    rw [hd] at hc
    clear hm hh hR h1
    go_enter Tryz.func53, Tryz.ntmps53
    go_wp2_with (go_at_call 30; refine hc.mono ?_; rintro e w1 ⟨rfl, rfl⟩)
    go_ret2
    exact ⟨_, rfl, ToldT.nil _ _, Fr.refl _ _⟩
  | false =>
    rw [hd] at hc hh
    rw [if_neg (by decide)]
    have hha := dHas_any w g kb s vw d.deeds l false a hh
    by_cases hs : 0 ≤ a ∧ a < (s : Int)
    · rw [show decide (0 ≤ a ∧ a < (s : Int)) = true by rw [decide_eq_true_iff]; exact hs] at hha
      rw [if_neg (by omega)]
      obtain ⟨n, rfl⟩ : ∃ n : Nat, a = n := ⟨a.toNat, by omega⟩
      have hns : n < s := by omega
      have hsl := Dv.seen_length hR hns
      obtain ⟨xs, hxs⟩ := exists_valsX d.waits hR.waits
      have hse : Calls Tryz.prog 92 #[.pointer (some ⟨g, 0, none⟩), .int .i64 n] w fun e w' => e = .returned (.agg ((d.seen n).map bv).toArray) ∧ Fr (fun _ => False) w w' := by
        have hx := callsIn_wide.1 (dSeen_in w g kb d.all xs vw d.deeds l false n hh hm.kept hR.all (by rw [hxs]; exact hm.wr) hns hm.small (by rw [← hxs] at hn6; simpa [valsX] using hn6))
        unfold Dv.seen
        rw [← hxs]
        exact hx
      rw [show (n : Int).toNat = n from rfl]
      obtain ⟨C, hC⟩ : ∃ C, C = ((d.seen n).map bv).toArray := ⟨_, rfl⟩
      rw [← hC] at hse
      have hCs : C.size = 64 := by rw [hC, List.size_toArray, List.length_map, hsl]
      have hz2 : (Tryz.prog.info? 140).map (·.size) = some C.size := by rw [hCs]; kernel_rfl
      have hC1 : C.all (·.oneCell') = true := by rw [hC]; exact all_oneCell_toArray (bv_one _)
      have hzs : zSec.size = C.size := by rw [zSec_size, hCs]
      have hzv := zSec_zero
      have HC := Lib.hid (And.intro hC hsl)
      have HSE := Lib.hid hse
      clear hm hh hR h1 hs hC hsl hse hns
      go_enter Tryz.func53, Tryz.ntmps53
      go_wp2_with (first
        | (go_at_call 30; refine hc.mono ?_; rintro e w1 ⟨rfl, rfl⟩)
        | (go_at_call 91; refine hha.mono ?_; rintro e w1 ⟨rfl, rfl⟩)
        | (go_at_call 92; refine HSE.out.mono ?_; rintro e w2 ⟨rfl, hf⟩; (have HS := Lib.hid hf); clear hf)
        | (with_reducible refine wpList_store_new rfl 140 (.tmp 7) (.tmp 19) rfl C zSec 140 w2 rfl rfl rfl hz2 hzs hC1 ?_))
      go_ret2
      refine ⟨_, rfl, .inr ⟨w2.heap.size, 140, C, 64, by rw [HC.out.2]; rfl, HS.out.size, heap_alloc_new w2 _, hCs, by rw [HC.out.2]; decide, by decide, ?_⟩, HS.out.alloc _⟩
      rw [HC.out.1]
      exact List.take_of_length_le (by simp)
    · rw [show decide (0 ≤ a ∧ a < (s : Int)) = false by rw [decide_eq_false_iff_not]; exact hs] at hha
      rw [if_pos (by omega)]
      clear hm hh hR h1 hs
      go_enter Tryz.func53, Tryz.ntmps53
      go_wp2_with (first
        | (go_at_call 30; refine hc.mono ?_; rintro e w1 ⟨rfl, rfl⟩)
        | (go_at_call 91; refine hha.mono ?_; rintro e w1 ⟨rfl, rfl⟩))
      go_ret2
      exact ⟨_, rfl, ToldT.nil _ _, Fr.refl _ _⟩
set_option maxRecDepth 100000 in
set_option maxHeartbeats 1000000 in
theorem aStat {D : Nat → Prop} (w : World) (g s : Nat) (d : Dv) (h : DevAt w D g s d) :
    Calls Tryz.prog 87 #[.pointer (some ⟨g, 0, none⟩)] w fun e w' => e = .returned (.agg #[.int .i64 s, .int .i64 d.waits.length, .int .i64 d.deeds, .bool d.down]) ∧ Fr (fun _ => False) w w' := by
  obtain ⟨F, kb, vw, hm, hD⟩ := h
  obtain ⟨l, h1, h2, h3, hh⟩ := hm.head
  obtain ⟨ao, cap, rfl, _, _⟩ := hm.wr.form
  obtain ⟨W0, hW0⟩ : ∃ W0, W0 = w.alloc (.cells #[.int .i64 0, .int .i64 0, .int .i64 0, .bool false] 159) := ⟨_, rfl⟩
  have hf0 : Fr (fun _ => False) w W0 := by rw [hW0]; exact (Fr.refl _ _).alloc _
  have hh2 := hh.keep hf0 id
  have hc := dIs_yes _ g kb s _ d.deeds l d.down hh2
  obtain ⟨c0, _, c2, c3, c4, _⟩ := hh2.cells
  have hnew : W0.heap[w.heap.size]? = some (.cells #[.int .i64 0, .int .i64 0, .int .i64 0, .bool false] 159 (0, 0)) := by rw [hW0]; exact heap_alloc_new _ _
  have HF0 := Lib.hid (And.intro hf0 hnew)
  have HW := Lib.hid hW0
  rw [hW0] at hc
  clear hm hh hh2 h1 hf0 hW0 hnew
  go_enter Tryz.func87, Tryz.ntmps87
  go_wp2_with (go_at_call 62; refine hc.mono ?_; rintro e w1 ⟨rfl, rfl⟩)
  rw [← HW.out]
  clear hc
  generalize hgb : w.heap.size = gb at *
  have HGB := Lib.hid hgb
  clear hgb
  go_still_tail 24, (by kernel_rfl)
  obtain ⟨n, hn⟩ : ∃ n, n = d.waits.length := ⟨_, rfl⟩
  refine wpList_store_row rfl 159 (.tmp 2) (.tmp 30) rfl gb #[.int .i64 s, .int .i64 d.waits.length, .int .i64 d.deeds, .bool d.down] #[.int .i64 0, .int .i64 0, .int .i64 0, .bool false] 159 rfl rfl HF0.out.2 (by kernel_rfl) rfl (by kernel_rfl) ?_
  go_wp2
  have hst := setRow_heap W0.drew gb _ #[.int .i64 s, .int .i64 d.waits.length, .int .i64 d.deeds, .bool d.down] _ (0, 0) HF0.out.2
  refine bodyPost_ret (results_cell_row rfl _ _ gb 159 _ (0, 0) _ rfl hst Tryz.underlying159 rfl (by kernel_rfl)) rfl ⟨rfl, ?_⟩
  exact HF0.out.1.trans (Fr.ofDrew ((Fr.refl (· = gb) W0.drew).setRow (.inl rfl) _)) (fun k e => .inr (by rw [HGB.out, show k = gb from e]; exact Nat.le_refl _))
end Go.Proofs.YtldgcoikbjbjeaaGreat
namespace Go.Proofs.YtldgcoikbjbjeaaGreat
set_option linter.unusedVariables false
def Dv.puts (s : Nat) : Dv → List Pend → Int × Dv
  | d, [] => (0, d)
  | d, p :: ps => if (d.write s p.1 p.2).1 = 0 then Dv.puts s (d.write s p.1 p.2).2 ps else d.write s p.1 p.2
theorem full64_self (b : List UInt8) (h : b.length = 64) : full64 b = b := by simp [full64, h]
theorem Dv.puts_cases (s : Nat) : ∀ (ps : List Pend) (d : Dv), d.down = false → Pends s ps →
    ((d.puts s ps).1 = 0 ∧ (d.puts s ps).2.all = d.all ∧ (d.puts s ps).2.waits = d.waits ++ ps ∧ (d.puts s ps).2.down = false ∧ (d.puts s ps).2.deeds = d.deeds + ps.length ∧ (d.left = 0 → (d.puts s ps).2.left = 0)) ∨
    (d.left ≠ 0 ∧ (d.puts s ps).1 = 10 ∧ (d.puts s ps).2.all = d.all ∧ (d.puts s ps).2.down = true ∧ (d.puts s ps).2.deeds ≤ d.deeds + ps.length ∧ ∃ qs, qs <+: ps ∧ (d.puts s ps).2.waits = d.waits ++ qs)
  | [], d, hd, _ => .inl ⟨rfl, rfl, by simp [Dv.puts], hd, rfl, id⟩
  | p :: ps, d, hd, hp => by
    have hp0 := hp p List.mem_cons_self
    have hps : Pends s ps := fun q hq => hp q (List.mem_cons_of_mem _ hq)
    have hn : ¬ ((p.1 : Int) < 0 ∨ (s : Int) ≤ p.1 ∨ 64 < p.2.length) := by omega
    by_cases h1 : d.left = 1
    · have hw := Dv.write_out hd hn h1
      rw [Dv.puts, hw]
      exact .inr ⟨by omega, rfl, rfl, rfl, by simp, [], List.nil_prefix, by simp⟩
    · have hw := Dv.write_ok hd hn h1
      rw [Dv.puts, hw]
      simp only [if_true]
      rw [full64_self _ hp0.2, Int.toNat_natCast]
      have ih := Dv.puts_cases s ps { all := d.all, waits := d.waits ++ [(p.1, p.2)], left := d.left - 1, deeds := d.deeds + 1, down := d.down } hd hps
      simp only at ih
      rcases ih with ⟨a1, a2, a3, a4, a5, a6⟩ | ⟨b0, b1, b2, b3, b4, qs, b5, b6⟩
      · exact .inl ⟨a1, a2, by rw [a3, List.append_assoc]; rfl, a4, by rw [a5, List.length_cons]; omega, fun h => a6 (by omega)⟩
      · exact .inr ⟨by omega, b1, b2, b3, by rw [List.length_cons]; omega, p :: qs, (List.prefix_cons_inj p).2 b5, by rw [b6, List.append_assoc]; rfl⟩
def Dv.commit (d : Dv) (s : Nat) (ps : List Pend) (h : List UInt8) : Int × Dv :=
  if (d.puts s ps).1 ≠ 0 then d.puts s ps else
  if (d.puts s ps).2.flush.1 ≠ 0 then (d.puts s ps).2.flush else
  if ((d.puts s ps).2.flush.2.write s 0 h).1 ≠ 0 then (d.puts s ps).2.flush.2.write s 0 h else ((d.puts s ps).2.flush.2.write s 0 h).2.flush
abbrev putAll4 (ps : List Pend) (K : List UInt8) : List UInt8 := wakeL (fun _ => true) 0 ps K
theorem Dv.commit_cases (d : Dv) (s : Nat) (hs : 1 ≤ s) (ps : List Pend) (h : List UInt8) (hd : d.down = false) (hw : d.waits = []) (hp : Pends s ps) (hh : h.length = 64) :
    ((d.commit s ps h).1 = 0 ∧ (d.commit s ps h).2.all = putSec (putAll4 ps d.all) 0 h ∧ (d.commit s ps h).2.waits = [] ∧ (d.commit s ps h).2.down = false ∧ (d.commit s ps h).2.deeds = d.deeds + ps.length + 3 ∧ (d.left = 0 → (d.commit s ps h).2.left = 0)) ∨
    (d.left ≠ 0 ∧ (d.commit s ps h).1 = 10 ∧ (d.commit s ps h).2.down = true ∧ (d.commit s ps h).2.deeds ≤ d.deeds + ps.length + 3 ∧
      (((d.commit s ps h).2.all = d.all ∧ ∃ qs, qs <+: ps ∧ (d.commit s ps h).2.waits = qs) ∨ ((d.commit s ps h).2.all = putAll4 ps d.all ∧ ((d.commit s ps h).2.waits = [] ∨ (d.commit s ps h).2.waits = [(0, h)])))) := by
  have hn : ¬ ((0 : Int) < 0 ∨ (s : Int) ≤ 0 ∨ 64 < h.length) := by omega
  rcases Dv.puts_cases s ps d hd hp with ⟨a1, a2, a3, a4, a5, a6⟩ | ⟨b0, b1, b2, b3, b4, qs, b5, b6⟩
  · unfold Dv.commit
    rw [if_neg (by rw [a1]; decide)]
    obtain ⟨e, he⟩ : ∃ e, e = (d.puts s ps).2 := ⟨_, rfl⟩
    rw [← he] at a2 a3 a4 a5 a6 ⊢
    rw [hw, List.nil_append] at a3
    by_cases h1 : e.left = 1
    · rw [Dv.flush_out a4 h1, if_pos (show (10 : Int) ≠ 0 by decide)]
      exact .inr ⟨fun h0 => by have := a6 h0; omega, rfl, rfl, by simp only; omega, .inl ⟨a2, ps, List.prefix_rfl, a3⟩⟩
    · rw [Dv.flush_ok a4 h1, if_neg (show ¬ (0 : Int) ≠ 0 by decide)]
      rw [a3, a2, a5, a4]
      by_cases h2 : e.left - 1 = 1
      · rw [Dv.write_out rfl hn h2, if_pos (show (10 : Int) ≠ 0 by decide)]
        exact .inr ⟨fun h0 => by have := a6 h0; omega, rfl, rfl, by simp only; omega, .inr ⟨rfl, .inl rfl⟩⟩
      · rw [Dv.write_ok rfl hn h2, if_neg (show ¬ (0 : Int) ≠ 0 by decide)]
        simp only
        rw [full64_self _ hh, show (0 : Int).toNat = 0 from rfl, List.nil_append]
        by_cases h3 : e.left - 1 - 1 = 1
        · rw [Dv.flush_out rfl h3]
          exact .inr ⟨fun h0 => by have := a6 h0; omega, rfl, rfl, by simp only; omega, .inr ⟨rfl, .inr rfl⟩⟩
        · rw [Dv.flush_ok rfl h3]
          exact .inl ⟨rfl, rfl, rfl, rfl, by simp only, fun h0 => by have := a6 h0; simp only; omega⟩
  · unfold Dv.commit
    rw [if_pos (by rw [b1]; decide)]
    exact .inr ⟨b0, b1, b3, by omega, .inl ⟨b2, qs, b5, by rw [b6, hw, List.nil_append]⟩⟩
theorem Dv.commit_woken (d : Dv) (s : Nat) (hs : 1 ≤ s) (ps : List Pend) (h : List UInt8) (keep : Int) (hd : d.down = false) (hw : d.waits = []) (hp : Pends s ps) (hh : h.length = 64) (hbad : (d.commit s ps h).1 ≠ 0) :
    ((d.commit s ps h).2.wake keep).1 = 0 ∧ ((d.commit s ps h).2.wake keep).2.waits = [] ∧ ((d.commit s ps h).2.wake keep).2.down = false ∧ ((d.commit s ps h).2.wake keep).2.left = 0 ∧ ((d.commit s ps h).2.wake keep).2.deeds ≤ d.deeds + ps.length + 3 ∧
    ((∃ qs, qs <+: ps ∧ ((d.commit s ps h).2.wake keep).2.all = wakeL (bitOf keep) 0 qs d.all) ∨ ((d.commit s ps h).2.wake keep).2.all = putAll4 ps d.all ∨ ((d.commit s ps h).2.wake keep).2.all = putSec (putAll4 ps d.all) 0 h) := by
  rcases Dv.commit_cases d s hs ps h hd hw hp hh with ⟨a1, _⟩ | ⟨_, b1, b2, b3, b4⟩
  · exact absurd a1 hbad
  · unfold Dv.wake
    rw [if_pos b2]
    refine ⟨rfl, rfl, rfl, rfl, b3, ?_⟩
    rcases b4 with ⟨c1, qs, c2, c3⟩ | ⟨c1, c2 | c2⟩
    · exact .inl ⟨qs, c2, by simp only [c1, c3]⟩
    · refine .inr (.inl ?_)
      simp only [c1, c2]
      rfl
    · simp only [c1, c2]
      by_cases hb : bitOf keep 0 = true
      · refine .inr (.inr ?_)
        rw [wakeL, if_pos hb]
        rfl
      · refine .inr (.inl ?_)
        rw [wakeL, if_neg hb]
        rfl
theorem wakeL_one (f : Nat → Bool) (s a : Nat) (ha : a < s) (W : List Pend) (K : List UInt8) (hW : Pends s W) (hK : K.length = 64 * s) : secAt (wakeL f 0 W K) a = secAt K a ∨ ∃ p ∈ W, p.1 = a ∧ secAt (wakeL f 0 W K) a = p.2 := by
  rw [wakeL_sec f s a ha W 0 K hW hK]
  exact lastL_one f a W 0 _
end Go.Proofs.YtldgcoikbjbjeaaGreat
namespace Go.Proofs.YtldgcoikbjbjeaaGreat
set_option linter.unusedVariables false
def over4 (K : List UInt8) (o : Nat) (B : List UInt8) : List UInt8 := K.take o ++ B ++ K.drop (o + B.length)
theorem over4_length (K : List UInt8) (o : Nat) (B : List UInt8) (h : o + B.length ≤ K.length) : (over4 K o B).length = K.length := by
  simp [over4]
  omega
theorem over4_get (K : List UInt8) (o : Nat) (B : List UInt8) (h : o + B.length ≤ K.length) (j : Nat) : (over4 K o B)[j]? = if o ≤ j ∧ j < o + B.length then B[j - o]? else K[j]? := by
  have h1 : (K.take o).length = o := by simp; omega
  rw [over4, List.append_assoc]
  by_cases hj : j < o
  · rw [List.getElem?_append_left (by omega), if_neg (by omega), List.getElem?_take, if_pos hj]
  · rw [List.getElem?_append_right (by omega), h1]
    by_cases h2 : j < o + B.length
    · rw [List.getElem?_append_left (by omega), if_pos (by omega)]
    · rw [List.getElem?_append_right (by omega), if_neg (by omega), List.getElem?_drop]
      congr 1
      omega
def cut4 (K : List UInt8) (o n : Nat) : List UInt8 := (K.drop o).take n
theorem cut4_length (K : List UInt8) (o n : Nat) (h : o + n ≤ K.length) : (cut4 K o n).length = n := by simp [cut4]; omega
theorem cut4_get (K : List UInt8) (o n j : Nat) (hj : j < n) : (cut4 K o n)[j]? = K[o + j]? := by
  rw [cut4, List.getElem?_take, if_pos hj, List.getElem?_drop]
theorem cut4_congr (K M : List UInt8) (o n : Nat) (hK : o + n ≤ K.length) (hM : o + n ≤ M.length) (h : ∀ j, o ≤ j → j < o + n → M[j]? = K[j]?) : cut4 M o n = cut4 K o n := by
  apply List.ext_getElem?
  intro j
  by_cases hj : j < n
  · rw [cut4_get _ _ _ _ hj, cut4_get _ _ _ _ hj, h _ (by omega) (by omega)]
  · rw [List.getElem?_eq_none (by rw [cut4_length _ _ _ hM]; omega), List.getElem?_eq_none (by rw [cut4_length _ _ _ hK]; omega)]
theorem cut4_over (K : List UInt8) (o : Nat) (B : List UInt8) (h : o + B.length ≤ K.length) : cut4 (over4 K o B) o B.length = B := by
  apply List.ext_getElem?
  intro j
  by_cases hj : j < B.length
  · rw [cut4_get _ _ _ _ hj, over4_get _ _ _ h, if_pos (by omega), show o + j - o = j by omega]
  · rw [List.getElem?_eq_none (by rw [cut4_length _ _ _ (by rw [over4_length _ _ _ h]; exact h)]; omega), List.getElem?_eq_none (by omega)]
theorem cut4_more (K : List UInt8) (p n : Nat) (B : List UInt8) (h : p + n + B.length ≤ K.length) : cut4 (over4 K (p + n) B) p (n + B.length) = cut4 K p n ++ B := by
  apply List.ext_getElem?
  intro j
  have hl := over4_length K (p + n) B h
  by_cases hj : j < n + B.length
  · rw [cut4_get _ _ _ _ hj, over4_get _ _ _ h]
    by_cases h1 : j < n
    · rw [if_neg (by omega), List.getElem?_append_left (by rw [cut4_length _ _ _ (by omega)]; exact h1), cut4_get _ _ _ _ h1]
    · rw [if_pos (by omega), List.getElem?_append_right (by rw [cut4_length _ _ _ (by omega)]; omega), cut4_length _ _ _ (by omega)]
      congr 1
      omega
  · rw [List.getElem?_eq_none (by rw [cut4_length _ _ _ (by omega)]; omega), List.getElem?_eq_none (by rw [List.length_append, cut4_length _ _ _ (by omega)]; omega)]
def secsOf (K' : List UInt8) (a n : Nat) : List Pend := (List.range' a n).map (fun i => (i, secAt K' i))
theorem secsOf_length (K' : List UInt8) (a n : Nat) : (secsOf K' a n).length = n := by simp [secsOf]
theorem secsOf_mem {K' : List UInt8} {a n : Nat} {p : Pend} (h : p ∈ secsOf K' a n) : (a ≤ p.1 ∧ p.1 < a + n) ∧ p.2 = secAt K' p.1 := by
  obtain ⟨i, hi, rfl⟩ := List.mem_map.1 h
  have := List.mem_range'_1.1 hi
  exact ⟨this, rfl⟩
theorem secsOf_right (K' : List UInt8) (s a n : Nat) (hK : K'.length = 64 * s) (h : a + n ≤ s) : Pends s (secsOf K' a n) := fun p hp => by
  obtain ⟨h1, h2⟩ := secsOf_mem hp
  exact ⟨by omega, by rw [h2]; exact secAt_length K' s _ hK (by omega)⟩
theorem secsOf_snoc (K' : List UInt8) (a n : Nat) : secsOf K' a (n + 1) = secsOf K' a n ++ [(a + n, secAt K' (a + n))] := by
  rw [secsOf, List.range'_concat, List.map_append]
  simp [secsOf]
theorem lastL_secsOf (K' : List UInt8) (a c : Nat) (x : List UInt8) : ∀ n, lastL (fun _ => true) c 0 (secsOf K' a n) x = if a ≤ c ∧ c < a + n then secAt K' c else x
  | 0 => by rw [if_neg (by omega)]; rfl
  | n + 1 => by
    rw [secsOf_snoc, lastL_snoc, lastL_secsOf K' a c x n]
    by_cases h : c = a + n
    · rw [if_pos ⟨rfl, h⟩, if_pos (by omega), h]
    · rw [if_neg (fun hh => h hh.2)]
      by_cases h2 : a ≤ c ∧ c < a + n
      · rw [if_pos h2, if_pos (by omega)]
      · rw [if_neg h2, if_neg (by omega)]
theorem put_secsOf (K K' : List UInt8) (s a n : Nat) (hK : K.length = 64 * s) (hK' : K'.length = 64 * s) (h : a + n ≤ s) (hd : ∀ c, c < s → ¬ (a ≤ c ∧ c < a + n) → secAt K' c = secAt K c) : putAll4 (secsOf K' a n) K = K' := by
  have hr := secsOf_right K' s a n hK' h
  refine secs_ext _ _ s (wakeL_length _ s _ 0 K hr hK) hK' fun c hc => ?_
  rw [putAll4, wakeL_sec _ s c hc _ 0 K hr hK, lastL_secsOf]
  split
  · rfl
  · next hn => exact (hd c hc hn).symm
theorem part_secsOf (f : Nat → Bool) (K K' : List UInt8) (s a n : Nat) (hK : K.length = 64 * s) (hK' : K'.length = 64 * s) (h : a + n ≤ s) (qs : List Pend) (hq : qs <+: secsOf K' a n) (j : Nat) (hj : j < 64 * s) (he : K'[j]? = K[j]?) : (wakeL f 0 qs K)[j]? = K[j]? := by
  have hr : Pends s qs := fun p hp => secsOf_right K' s a n hK' h p (hq.subset hp)
  have hc : j / 64 < s := by omega
  have hm : j % 64 < 64 := Nat.mod_lt _ (by decide)
  have e : 64 * (j / 64) + j % 64 = j := by omega
  have h1 := wakeL_one f s (j / 64) hc qs K hr hK
  have h2 : (wakeL f 0 qs K)[j]? = (secAt (wakeL f 0 qs K) (j / 64))[j % 64]? := by rw [secAt_get _ _ _ hm, e]
  rw [h2]
  rcases h1 with h1 | ⟨p, hp, hp1, h1⟩
  · rw [h1, secAt_get _ _ _ hm, e]
  · rw [h1, (secsOf_mem (hq.subset hp)).2, hp1, secAt_get _ _ _ hm, e, he]
def firstSec (o : Nat) : Nat := o / 64
def manySecs (o n : Nat) : Nat := if n = 0 then 0 else (o + n - 1) / 64 - o / 64 + 1
theorem manySecs_le (s o n : Nat) (h : o + n ≤ 64 * s) : firstSec o + manySecs o n ≤ s ∨ n = 0 := by
  unfold firstSec manySecs
  split
  · exact .inr (by assumption)
  · left; omega
theorem over4_sec (K : List UInt8) (s o : Nat) (B : List UInt8) (hK : K.length = 64 * s) (h : o + B.length ≤ 64 * s) (c : Nat) (hc : c < s) (hn : ¬ (firstSec o ≤ c ∧ c < firstSec o + manySecs o B.length)) : secAt (over4 K o B) c = secAt K c := by
  apply List.ext_getElem?
  intro r
  by_cases hr : r < 64
  · rw [secAt_get _ _ _ hr, secAt_get _ _ _ hr, over4_get _ _ _ (by omega)]
    rw [if_neg ?_]
    intro hh
    apply hn
    unfold firstSec manySecs
    rw [if_neg (by omega)]
    omega
  · have l1 := secAt_length (over4 K o B) s c (by rw [over4_length _ _ _ (by omega)]; exact hK) hc
    have l2 := secAt_length K s c hK hc
    rw [List.getElem?_eq_none (by omega), List.getElem?_eq_none (by omega)]
end Go.Proofs.YtldgcoikbjbjeaaGreat
namespace Go.Proofs.YtldgcoikbjbjeaaGreat
set_option linter.unusedVariables false
structure Hd where
  area : Nat
  size : Nat
  used : Nat
  round : Nat
structure Hd.Right (h : Hd) (L A : Nat) : Prop where
  area : h.area ≤ 1
  size : h.size ≤ 64 * A
  used : h.used ≤ 64 * L
  round : 1 ≤ h.round ∧ h.round ≤ 1099511627776
def Hd.bytes (h : Hd) : List UInt8 := numBytes 5 h.area ++ (numBytes 5 h.size ++ (numBytes 5 h.used ++ numBytes 5 h.round))
theorem Hd.bytes_le (h : Hd) : h.bytes.length ≤ 24 := by
  have h1 := (numBytes_len 5 h.area).2
  have h2 := (numBytes_len 5 h.size).2
  have h3 := (numBytes_len 5 h.used).2
  have h4 := (numBytes_len 5 h.round).2
  simp only [Hd.bytes, List.length_append]
  omega
def Hd.sec (h : Hd) : List UInt8 := full64 h.bytes
theorem Hd.sec_length (h : Hd) : h.sec.length = 64 := full64_length _ (by have := h.bytes_le; omega)
def recB (r : List UInt8) : List UInt8 := numBytes 5 r.length ++ r
def recsB (R : List (List UInt8)) : List UInt8 := (R.map recB).flatten
theorem recsB_snoc (R : List (List UInt8)) (r : List UInt8) : recsB (R ++ [r]) = recsB R ++ recB r := by simp [recsB]
theorem recsB_cons (r : List UInt8) (R : List (List UInt8)) : recsB (r :: R) = recB r ++ recsB R := by simp [recsB]
theorem recB_pos (r : List UInt8) : 1 ≤ (recB r).length := by
  have := (numBytes_len 5 r.length).1
  simp only [recB, List.length_append]
  omega
end Go.Proofs.YtldgcoikbjbjeaaGreat
