/- Contract of the document's own: spenceref02.Of. -/
import Derived.Test.YthjpgnmpcllolaaDoorRFold
import Derived.Test.YthjpgnmpcllolaaDoorRefNum
import Derived.Test.YthjpgnmpcllolaaDoorOf
import Derived.Deep.RegionHeld3
import Derived.Lib.AppendStr
namespace Go.Proofs.YthjpgnmpcllolaaDoor
open Go.RowKit Go.ChangeShapes
set_option linter.unusedVariables false

theorem OwnB.rowAt {z : Nat} {w : World} {v : Value} {L : List UInt8} (h : OwnB (fun k => z ≤ k) w v L) : w.ownsRow z 5 1 v L.length (L.map bv) := by
  refine ⟨h.1.1, ?_⟩
  rcases h.1.2 with h1 | ⟨g, cap, cur, rfl, hb, r⟩
  · exact .inl h1
  · exact .inr ⟨g, cap, cur, rfl, h.2 g rfl, r⟩
theorem OwnB.ofRow {z n : Nat} {w : World} {v : Value} {L : List UInt8} (hn : n = L.length) (h : w.ownsRow z 5 1 v n (L.map bv)) : OwnB (fun k => z ≤ k) w v L := by
  subst hn
  refine ⟨⟨h.1, ?_⟩, fun g hg => ?_⟩
  · rcases h.2 with h1 | ⟨g, cap, cur, rfl, hb, r⟩
    · exact .inl h1
    · exact .inr ⟨g, cap, cur, rfl, Nat.zero_le _, r⟩
  · rcases h.2 with ⟨rfl, _⟩ | ⟨g', cap, cur, rfl, hb, _⟩
    · simp [Value.ownBlock] at hg
    · simp only [Value.ownBlock, Option.some.injEq] at hg
      omega
theorem wpList_append_str {z : Nat} (w : World) {ops : Array Oper} {rest : List Oper} {o : Oper} {a : Act} {Q : Exit → Act → World → Prop} (hgd : o.guard = none) (s x : Operand)
    (hop : o.op = Op.call { callee := Callee.builtin Builtin.append, args := #[s, x], argTypes := #[38, 9] })
    (v : Value) (L : List UInt8) (t : ByteArray) (hs : a.eval s = v) (hx : a.eval x = .string t) (hown : OwnB (fun k => z ≤ k) w v L) (hb : L.length + t.data.toList.length ≤ 140737488355328) (hz : z ≤ w.heap.size)
    (hK : ∀ v' w', OwnB (fun k => z ≤ k) w' v' (L ++ t.data.toList) → w.grownBy w' v.ownBlock → wpList Tryd.prog ops Q rest (a.put o.dst v') w') : wpList Tryd.prog ops Q (o :: rest) a w := by
  obtain ⟨i0, hi, hz0, hz1, hz2⟩ := info_parts Tryd.infoB
  have ht : t.size = t.data.toList.length := by simp
  refine Lib.wpList_append_own_string w hgd s x 38 9 hop z 5 i0 Tryd.underlying38 Tryd.underlying9 hi hz0 hz1 hz2 v L.length _ hs hown.rowAt t hx (by rw [ht]; unfold maxLen; omega) (by rw [ht]; omega) hz ?_
  intro v' w' ho hg hn
  refine hK v' w' (OwnB.ofRow (n := L.length + t.size) (by rw [List.length_append, ht]) ?_) hg
  rw [List.map_append]
  exact ho

set_option maxRecDepth 100000 in
set_option maxHeartbeats 4000000 in
theorem rof_any {F : Nat → Prop} {v : Value} {P : List (List UInt8)} (tag : ByteArray) (w : World) (hP : RowsIn F w v P) (hF : ∀ k, F k → k < w.heap.size) (hM : tag.data.toList.length + (textsOf P).length ≤ 1000000000) :
    Calls Tryd.prog 17 #[.string tag, v] w fun e w' => e = .returned (.agg ((foldL (digest (textOf tag.data.toList ++ textsOf P))).map bv).toArray) ∧ Fr (fun _ => False) w w' := by
  obtain ⟨C, hC⟩ : ∃ C, C = ((foldL (digest (textOf tag.data.toList ++ textsOf P))).map bv).toArray := ⟨_, rfl⟩
  have hcs : C.size = 20 := by rw [hC]; simp [foldL, fl_length]
  have hone : C.all (·.oneCell') = true := by rw [hC]; exact all_oneCell_toArray (bv_one _)
  obtain ⟨C0, hC0⟩ : ∃ C0, C0 = ((List.replicate 20 (0 : UInt8)).map bv).toArray := ⟨_, rfl⟩
  have hs0 : C0.size = 20 := by rw [hC0]; simp
  rw [← hC]
  obtain ⟨ao, cap, hv, h1, h2, h3, h4⟩ := id hP
  subst hv
  obtain ⟨n, hn⟩ : ∃ n, n = P.length := ⟨_, rfl⟩
  rw [← hn] at h1 ⊢
  obtain ⟨T, hT⟩ : ∃ T, T = tag.data.toList := ⟨_, rfl⟩
  have hts : tag.size = T.length := by rw [hT]; simp
  rw [← hT] at hM hC
  have HP := Lib.hid (And.intro hP hF)
  have HI := Lib.hid h4
  have HC := Lib.hid hC
  have HC0 := Lib.hid hC0
  have HN := Lib.hid hn
  have HT := Lib.hid hT
  have HM := Lib.hid hM
  have HTS := Lib.hid hts
  have hTl : T.length ≤ 1000000000 := by omega
  clear hC hC0 hP hF h3 h4 hn hT hM hts
  go_enter Tryd.func17, Tryd.ntmps17
  go_wp2_with fail
  obtain ⟨w1, hw1⟩ : ∃ w1, w1 = w.alloc (.cells C0 33) := ⟨_, rfl⟩
  have hr1 : w1.heap[w.heap.size]? = some (.cells C0 33 (0, 0)) := by rw [hw1]; exact heap_alloc_new w _
  have HF1 := Lib.hid (show Fr (fun _ => False) w w1 by rw [hw1]; exact (Fr.refl _ w).alloc _)
  have hsz1 : w1.heap.size = w.heap.size + 1 := by rw [hw1]; simp
  have e1 : w.alloc (.cells #[.int .u8 0, .int .u8 0, .int .u8 0, .int .u8 0, .int .u8 0, .int .u8 0, .int .u8 0, .int .u8 0, .int .u8 0, .int .u8 0, .int .u8 0, .int .u8 0, .int .u8 0, .int .u8 0, .int .u8 0, .int .u8 0, .int .u8 0, .int .u8 0, .int .u8 0, .int .u8 0] 33) = w1 := by
    rw [hw1, HC0.out]
    rfl
  rw [e1]
  clear e1 hw1
  have HR1 := Lib.hid hr1
  clear hr1
  have HSZ1 := Lib.hid hsz1
  clear hsz1
  have HNUM := Lib.hid (refNumber_any tag.size w1 (by have := HTS.out; omega))
  refine HNUM.out.mono ?_
  rintro e w2 ⟨v2, rfl, ho2, hf2⟩
  have hnl := (numBytes_len 5 tag.size).2
  have HO2 := Lib.hid (ho2.mono (G := fun k => w.heap.size + 1 ≤ k) (fun k _ h => by have := HSZ1.out; omega))
  have HF2 := Lib.hid (HF1.out.trans hf2 (fun _ h => h.elim))
  have HR2 := Lib.hid (hf2.heap HR1.out (fun h => h))
  have HZ2 := Lib.hid (show w.heap.size + 1 ≤ w2.heap.size by have := HSZ1.out; have := hf2.size; omega)
  clear ho2 hf2 HNUM HR1 HF1
  go_wp2_with (first
    | (at_builtin; refine wpList_append_str (z := w.heap.size + 1) _ rfl (.tmp 9) (.tmp 10) rfl _ (numBytes 5 tag.size) tag rfl rfl HO2.out (by rw [← HT.out]; omega) HZ2.out ?_; intro v5 w5 ho5 hg5; have HS5 : Hid (OwnB (fun k => w.heap.size + 1 ≤ k) w5 v5 (textOf T) ∧ Fr (fun _ => False) w w5 ∧ w5.heap[w.heap.size]? = some (.cells C0 33 (0, 0))) := Lib.hid ⟨by rw [show textOf T = numBytes 5 tag.size ++ tag.data.toList from by rw [textOf, HTS.out, HT.out]]; exact ho5, HF2.out.grown hg5 (fun k hk => .inr (by have := HO2.out.2 k hk; omega)), (((Fr.refl (fun k => w.heap.size + 1 ≤ k) w2).grown hg5 (fun k hk => .inl (HO2.out.2 k hk))).heap HR2.out (by omega))⟩; clear ho5 hg5)
    | fail)
  go_loopw [5, 6] (fun gv iv wr => ∃ i : Nat, i ≤ n ∧ iv = .int .i64 i ∧ Hid (OwnB (fun k => w.heap.size + 1 ≤ k) wr gv (textOf T ++ textsOf (P.take i)) ∧ Fr (fun _ => False) w wr ∧ wr.heap[w.heap.size]? = some (.cells C0 33 (0, 0)))) (fun _ iv _ => n - (intOf iv).toNat)
  case atStart => exact ⟨0, by omega, rfl, Lib.hid (by simpa [textsOf] using HS5.out)⟩
  case round =>
    obtain ⟨i, hi, rfl, hR⟩ := hrel
    by_cases hlt : i < n
    · obtain ⟨b, off, hao, hFb, hx⟩ := HI.out (by intro e; have := HN.out; rw [e] at this; simp at this; omega)
      obtain ⟨x, hx1, hx2⟩ := hx i (by rw [← HN.out]; exact hlt)
      subst hao
      have hx3 := hR.out.2.1.cell hx1 (fun h => h)
      have HXB := Lib.hid (hx2.keep hR.out.2.1 (fun _ _ _ h => h))
      have HE := Lib.hid (textsOf_take_succ P i (by rw [← HN.out]; exact hlt))
      have HLE := Lib.hid (textsOf_take_le P (i + 1))
      obtain ⟨Y, hY⟩ : ∃ Y, Y = P[i]'(by rw [← HN.out]; exact hlt) := ⟨_, rfl⟩
      rw [← hY] at HE HXB
      obtain ⟨l, hl⟩ : ∃ l, l = Y.length := ⟨_, rfl⟩
      have HYL := Lib.hid hl
      have HLN := Lib.hid (show (textOf T ++ textsOf (P.take i)).length + Y.length + 6 ≤ 140737488355328 ∧ l ≤ 1000000000 by
        have h := congrArg List.length HE.out
        rw [List.length_append] at h
        have := HLE.out
        have := textOf_length T
        have hq : (textOf Y).length = (numBytes 5 Y.length).length + Y.length := by rw [textOf, List.length_append]
        rw [List.length_append]
        have := HM.out
        omega)
      obtain ⟨ay, cy, hxe, hxl, hxc, _⟩ := id HXB.out
      subst hxe
      rw [← hl] at hx3 HXB
      have hFbw := HP.out.2 b hFb
      have HXC := Lib.hid hx3
      have HO := Lib.hid hR.out.1
      have HFR := Lib.hid hR.out.2
      have hll := HLN.out.2
      have hnl2 := (numBytes_len 5 l).2
      have HNM := Lib.hid (refNumber_any l wr.drew (by omega))
      have hi0 : (0 : Int) ≤ (i : Int) := by omega
      have hi1 : (i : Int) < (n : Int) := by omega
      clear hR hx hx1 hx2 hY hl
      go_wp2_with fail
      go_region_held3 (fun w' => w'.cell? ⟨b, off + i, none⟩ = some (.slice ay l cy)) (first | assumption | go_keep)
        (first
          | (go_at_call 28; refine HNM.out.mono ?_; rintro e w3 ⟨u3, rfl, hu3, hf3⟩; have hf3' := (Fr.refl (fun _ => False) wr).drew.trans hf3 (fun _ h => h.elim); have hc3 := hf3'.cell HXC.out (fun h => h); have HU3 := Lib.hid hu3.bytes; have HX3 := Lib.hid (HXB.out.keep hf3' (fun _ _ _ h => h)); have HO3 := Lib.hid (HO.out.keep hf3' (fun _ _ _ h => h)); have HF3 := Lib.hid (And.intro (HFR.out.1.trans hf3' (fun _ h => h.elim)) (hf3'.heap HFR.out.2 (fun h => h))); clear hu3 hf3 hf3')
          | (refine step_append_bytes (F := fun k => w.heap.size + 1 ≤ k) (G := fun k => wr.drew.heap.size ≤ k) rfl (.tmp 18) (.tmp 24) rfl _ _ (textOf T ++ textsOf (P.take i)) (numBytes 5 l) rfl rfl HO3.out HU3.out (by have := HLN.out.1; omega) ?_; intro v5 w5 ho5 hg5 hn5; have hF5 : Fr (fun k => w.heap.size + 1 ≤ k) w3 w5 := (Fr.refl _ w3).grown hg5 (fun k hk => .inl (HO3.out.2 k hk)); have hc5 := hF5.cell hc3 (by show ¬ w.heap.size + 1 ≤ b; omega); have HX5 := Lib.hid (HX3.out.keep hF5 (fun k _ hk h => by have := HP.out.2 k hk; omega)); have HO5 := Lib.hid (ho5.mono (G := fun k => w.heap.size + 1 ≤ k) (fun k _ h => h.elim id (fun h => by have := lt_of_block HF3.out.2; omega))); have HF5 := Lib.hid (And.intro (HF3.out.1.trans hF5 (fun _ h => .inr (by omega))) (hF5.heap HF3.out.2 (by omega))); clear ho5 hg5 hn5 hF5)
          | (refine step_append_bytes (F := fun k => w.heap.size + 1 ≤ k) (G := F) rfl (.tmp 25) (.tmp 29) rfl _ _ (textOf T ++ textsOf (P.take i) ++ numBytes 5 l) Y rfl rfl HO5.out HX5.out (by have := HLN.out.1; rw [List.length_append]; omega) ?_; intro v6 w6 ho6 hg6 hn6; have hF6 : Fr (fun k => w.heap.size + 1 ≤ k) w5 w6 := (Fr.refl _ w5).grown hg6 (fun k hk => .inl (HO5.out.2 k hk)); have hc6 := hF6.cell hc5 (by show ¬ w.heap.size + 1 ≤ b; omega); have HS6 : Hid (OwnB (fun k => w.heap.size + 1 ≤ k) w6 v6 (textOf T ++ textsOf (P.take (i + 1))) ∧ Fr (fun _ => False) w w6 ∧ w6.heap[w.heap.size]? = some (.cells C0 33 (0, 0))) := Lib.hid ⟨by rw [HE.out, show textOf Y = numBytes 5 l ++ Y by rw [textOf, HYL.out], ← List.append_assoc, ← List.append_assoc]; exact ho6.mono (G := fun k => w.heap.size + 1 ≤ k) (fun k _ h => h.elim id (fun h => by have := lt_of_block HF5.out.2; omega)), HF5.out.1.trans hF6 (fun _ h => .inr (by omega)), hF6.heap HF5.out.2 (by omega)⟩; clear ho6 hg6 hn6 hF6))
      go_wp2
      go_roundw
      case rel => exact ⟨i + 1, by omega, by go_num, HS6⟩
      case measure => simp [intOf]; omega
    · have HR := Lib.hid (show BytesIn (fun k => w.heap.size + 1 ≤ k) wr u5 (textOf T ++ textsOf P) ∧ Fr (fun _ => False) w wr ∧ wr.heap[w.heap.size]? = some (.cells C0 33 (0, 0)) by
        have h := hR.out
        rw [List.take_of_length_le (by rw [← HN.out]; omega)] at h
        exact ⟨h.1.bytes, h.2⟩)
      have HLB := Lib.hid (show (textOf T ++ textsOf P).length ≤ 100000000000 by have := textOf_length T; have := HM.out; rw [List.length_append]; omega)
      have HD := Lib.hid (rdigest_any u5 (textOf T ++ textsOf P) wr (HR.out.1.mono (G := fun k => k < wr.heap.size) (fun k h _ => h)) (fun k h => h) HLB.out)
      obtain ⟨D, hD⟩ : ∃ D, D = digest (textOf T ++ textsOf P) := ⟨_, rfl⟩
      have hDl : D.length = 32 := by rw [hD]; rfl
      rw [← hD] at HD HC
      have HFD := Lib.hid (fun W => rfold_any W D hDl)
      clear hR hD hDl
      go_wp2_with (first
        | (go_at_call 25; refine HD.out.mono ?_; rintro e w4 ⟨rfl, hf4⟩; have HF4 := Lib.hid (And.intro (HR.out.2.1.trans hf4 (fun _ h => h.elim)) (hf4.heap HR.out.2.2 (fun h => h))); clear hf4)
        | (go_at_call 15; refine (HFD.out _).mono ?_; rintro e w7 ⟨rfl, hf7⟩; have hr7 := hf7.heap HF4.out.2 (fun h => h); have HF7 := Lib.hid (HF4.out.1.trans hf7 (fun _ h => h.elim)); clear hf7; rw [← HC.out])
        | (with_reducible refine wpList_store_row rfl 33 (.tmp 4) (.tmp 33) rfl w.heap.size C C0 33 rfl rfl hr7 (by rw [hcs]; kernel_rfl) (by rw [hs0, hcs]) hone ?_))
      refine bodyPost_ret (results_cell_row rfl _ _ w.heap.size 33 C (0, 0) _ rfl (setRow_heap _ _ _ _ _ _ hr7) Tryd.underlying33 rfl (by rw [hcs]; kernel_rfl)) rfl ⟨rfl, HF7.out.setRow (.inr (Nat.le_refl _)) _⟩
end Go.Proofs.YthjpgnmpcllolaaDoor
