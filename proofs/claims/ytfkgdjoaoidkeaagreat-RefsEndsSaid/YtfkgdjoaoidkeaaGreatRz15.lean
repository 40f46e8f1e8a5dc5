/- Laid together: Flat -/
import Derived.Test.YtfkgdjoaoidkeaaGreatRz13
import Derived.Deep.RegionWith
import Derived.Deep.DeepCutAuto

namespace Go.Proofs.YtfkgdjoaoidkeaaGreat
open Go.RowKit Go.ChangeShapes
set_option linter.unusedVariables false
set_option maxHeartbeats 8000000 in
set_option maxRecDepth 100000 in
theorem flatBytes_any (n lb cl : Nat) (X : Nat → Value) (L : Nat → List UInt8) (w : World) (hn : n ≤ 1000) (hcl : n ≤ cl) (hcm : cl ≤ maxLen)
    (hls : ∀ j, j < n → w.cell? ⟨lb, j, none⟩ = some (X j)) (hr : RowsB w n X L) (hD : DistB n X) (hlb : ¬ BlksB n X lb) (hL : ∀ j, j < n → (L j).length ≤ 140737488350000) :
    Calls Tryz.prog 51 #[.slice (some ⟨lb, 0, none⟩) n cl] w fun e w' => e = .returned (.bool true) ∧ Fr (BlksB n X) w w' := by
  unfold maxLen at hcm
  have HLS := Lib.hid hls
  have HR := Lib.hid hr
  have HD := Lib.hid hD
  have HLB := Lib.hid hlb
  have HL := Lib.hid hL
  clear hls hr hD hlb hL
  go_enter Tryz.func51, Tryz.ntmps51
  go_wp2
  go_loopw [3] (fun kv wr => ∃ k : Nat, k ≤ n ∧ kv = .int .i64 k ∧ Hid (RowsB wr n X (ph1 L k 0)) ∧ Hid (Fr (BlksB n X) w wr)) (fun kv _ => n - (intOf kv).toNat)
  case atStart => exact ⟨0, by omega, rfl, Lib.hid (HR.out.congr (fun j _ => by rw [ph1_zero]; simp)), Lib.hid (Fr.refl _ _)⟩
  case round =>
    obtain ⟨k, hk, rfl, hR, hfr⟩ := hrel
    clear HR
    by_cases hlt : k < n
    · obtain ⟨wo, hwo⟩ : ∃ wo : World, wo = wr := ⟨_, rfl⟩
      subst hwo
      have hown := hR.out k hlt
      have hlen : (ph1 L k 0 k).length = (L k).length := ph1_len L k 0 k (Nat.zero_le _)
      have hLk := HL.out k hlt
      obtain ⟨ax, cx, hX⟩ := hown.len
      rw [hlen] at hX
      obtain ⟨m, hm⟩ : ∃ m, m = (L k).length := ⟨_, rfl⟩
      rw [← hm] at hX hLk
      have hc0 := hfr.out.cell (HLS.out k hlt) HLB.out
      rw [hX] at hc0
      have HX := Lib.hid hX
      have HM := Lib.hid hm
      clear hX hm hown hlen
      have hm63 : m ≤ 140737488350000 := hLk
      have HR0 := Lib.hid hR.out
      clear hR
      go_wp2
      go_loopw [4] (fun iv wi => ∃ i : Nat, i ≤ m ∧ iv = .int .i64 i ∧ Hid (RowsB wi n X (ph1 L k i)) ∧ Hid (Fr (BlksB n X) w wi)) (fun iv _ => m - (intOf iv).toNat)
      case atStart => exact ⟨0, by omega, rfl, HR0, hfr⟩
      case round =>
        obtain ⟨i, hi, rfl, hRi, hfi⟩ := hrel
        clear HR0 hfr hc0
        have hc1 := hfi.out.cell (HLS.out k hlt) HLB.out
        rw [HX.out] at hc1
        by_cases hil : i < m
        · have hown := hRi.out k hlt
          have hlen : (ph1 L k i k).length = m := by rw [ph1_len L k i k (by have := HM.out; omega), HM.out]
          obtain ⟨g, cap, hv, hc, _, _, hcell⟩ := hown.form (by omega)
          rw [HX.out, hlen] at hv
          simp only [Value.slice.injEq] at hv
          obtain ⟨rfl, _, rfl⟩ := hv
          obtain ⟨c2, f2⟩ := hcell i (by omega)
          obtain ⟨y, hy⟩ : ∃ y, y = (ph1 L k i k).getD i 0 := ⟨_, rfl⟩
          rw [← hy] at c2
          have HMB := Lib.hid fun w' => markByte_any k i w' (by omega) (by omega)
          have hnext : RowsB (wr.setCell ⟨g, i, none⟩ (bv (mB k i))) n X (ph1 L k (i + 1)) := by
            have h1 := hRi.out.turn HD.out hlt (w' := wr.setCell ⟨g, i, none⟩ (bv (mB k i))) (M := ph1 L k (i + 1) k)
              ((Fr.refl (fun b => (X k).ownBlock = some b) wr).setCell (p := ⟨g, i, none⟩) (.inl (by rw [HX.out]; rfl)) _)
              (by have := hown; rw [HX.out] at this ⊢; have h2 := this.store i (mB k i); rwa [ph1_set L k i (by have := HM.out; omega)] at h2)
            refine h1.congr fun j hj => ?_
            by_cases e : j = k
            · subst e; simp
            · simp only [e, if_false]
              unfold ph1
              simp [e]
          have HNX := Lib.hid hnext
          have HFN := Lib.hid (hfi.out.setCell (p := ⟨g, i, none⟩) (.inl ⟨k, hlt, by rw [HX.out]; rfl⟩) (bv (mB k i)))
          have HBV := Lib.hid (show bv (mB k i) = .int .u8 (mB k i).toNat from rfl)
          clear hnext hown hlen hcell hy hc
          go_wp2_with fail
          go_region_with (first | (go_at_call 24; refine (HMB.out _).mono ?_; rintro e w' ⟨rfl, rfl⟩; rw [HBV.out]))
          all_goals
            go_wp2
            go_roundw
            case rel => exact ⟨i + 1, by omega, by go_num, HNX, Lib.hid (HFN.out.drew)⟩
            case measure => simp [intOf]; omega
        · have hRn := Lib.hid (show RowsB wr n X (ph1 L (k + 1) 0) from hRi.out.congr (fun j _ => by rw [show i = (L k).length by have := HM.out; omega]; exact ph1_end L k j))
          clear hRi
          go_wp2
          go_roundw
          case rel => exact ⟨k + 1, by omega, by go_num, hRn, hfi⟩
          case measure => simp [intOf]; omega
    · have hRn := Lib.hid (show RowsB wr n X (fun j => marks j (L j).length) from hR.out.congr (fun j hj => by rw [ph1_zero, if_pos (by omega)]))
      clear hR
      obtain ⟨i0, hi0, hz0, hz1, hz2⟩ := info_parts Tryz.infoS
      have HI0 := Lib.hid (And.intro hi0 (And.intro hz0 (And.intro hz1 hz2)))
      clear hi0 hz0 hz1 hz2
      go_wp2_with (at_make; refine wpList_make_full wr rfl (.tmp 41) (.tmp 41) 42 rfl 0 22 i0 (.slice none 0 0) 1 Tryz.underlying42 HI0.out.1 HI0.out.2.1 HI0.out.2.2.1 .i64 .i64 (n : Int) (n : Int) n rfl rfl rfl rfl (by rw [HI0.out.2.2.2]; omega) (by unfold maxLen; omega) (Nat.zero_le _) ?next)
      intro w2 hgs0 hg2
      have hgs : GsAt w2 wr.heap.size n (fun _ => .slice none 0 0) := by
        unfold GsAt
        have e : (madeCells #[Value.slice none 0 0] n).toList = (List.range n).map (fun _ => Value.slice none 0 0) := by
          rw [toList_madeCells_one]
          apply List.ext_getElem?
          intro i
          by_cases hi : i < n <;> simp [hi]
        rw [← e]
        exact hgs0
      obtain ⟨gb, hgb⟩ : ∃ gb, gb = wr.heap.size := ⟨_, rfl⟩
      have hXb : ∀ j, j < n → ∀ b, (X j).ownBlock = some b → b < gb := fun j hj b hb => by rw [hgb]; exact ((hRn.out j hj).1.lt b hb).2
      have HXB := Lib.hid hXb
      have HF2 := Lib.hid (hfr.out.grown hg2 (fun k hk => by cases hk))
      have HR2 := Lib.hid (hRn.out.keep (S := fun _ => False) ((Fr.refl _ _).grown hg2 (fun k hk => by cases hk)) (fun _ _ h => h))
      rw [← hgb] at hgs ⊢
      have HGS := Lib.hid hgs
      have HGB := Lib.hid (show w.heap.size ≤ gb by rw [hgb]; exact hfr.out.size)
      have HLBG := Lib.hid (show 0 < n → lb < gb from fun h => by rw [hgb]; exact Nat.lt_of_lt_of_le (World.block_lt_of_cell? _ _ (HLS.out 0 h)) hfr.out.size)
      clear hgs hgb hXb hgs0 hg2 hRn hfr HI0
      go_wp2
      go_loopw [6] (fun kv wr => ∃ (k : Nat) (G : Nat → Value), k ≤ n ∧ kv = .int .i64 k ∧ Hid (FlAt w wr n k gb X L G (fun j => marks j ((L j).length + 64)))) (fun kv _ => n - (intOf kv).toNat)
      case atStart => exact ⟨0, _, by omega, rfl, Lib.hid ⟨HGS.out, HR2.out, (fun j hj => by omega), HF2.out⟩⟩
      case round =>
        obtain ⟨k, G, hk, rfl, hst⟩ := hrel
        clear HGS HR2 HF2
        by_cases hlt : k < n
        · obtain ⟨wo, hwo⟩ : ∃ wo : World, wo = wr := ⟨_, rfl⟩
          subst hwo
          have hown := hst.out.2.1 k hlt
          obtain ⟨ax, cx, hX⟩ := hown.len
          rw [marks_length] at hX
          have hLk := HL.out k hlt
          obtain ⟨m, hm⟩ : ∃ m, m = (L k).length := ⟨_, rfl⟩
          rw [← hm] at hX hLk
          have hc0 := hst.out.2.2.2.cell (HLS.out k hlt) HLB.out
          have HC0 := Lib.hid hc0
          rw [hX] at hc0
          have HX := Lib.hid hX
          have HM := Lib.hid hm
          have HO0 : Hid (OwnB (fun b => (X k).ownBlock = some b ∨ wo.heap.size ≤ b) wo (.slice ax m cx) (marks k (m + 0)) ∧ OwnB (fun _ => True) wo (X k) (marks k m) ∧ Fr (fun b => (X k).ownBlock = some b) wo wo) := by
            have h0 : OwnB (fun _ => True) wo (X k) (marks k (L k).length) := hown
            refine Lib.hid ⟨?_, ?_, Fr.refl _ _⟩
            · rw [← hX, hm]
              exact ⟨h0.1, fun g hg => .inl hg⟩
            · rw [hm]; exact h0
          clear hX hm hown
          go_wp2
          go_loopw [7, 8] (fun gv iv wi => ∃ i : Nat, i ≤ 64 ∧ iv = .int .i64 i ∧ Hid (OwnB (fun b => (X k).ownBlock = some b ∨ wo.heap.size ≤ b) wi gv (marks k (m + i)) ∧ OwnB (fun _ => True) wi (X k) (marks k m) ∧ Fr (fun b => (X k).ownBlock = some b) wo wi)) (fun _ iv _ => 64 - (intOf iv).toNat)
          case atStart => exact ⟨0, by omega, rfl, HO0⟩
          case round =>
            obtain ⟨i, hi, rfl, hw⟩ := hrel
            clear HO0 hc0
            have hc1 := hw.out.2.2.cell HC0.out (fun e => HLB.out ⟨k, hlt, e⟩)
            rw [HX.out] at hc1
            by_cases hil : i < 64
            · have HMB : Hid (∀ w', Calls Tryz.prog 24 #[.int .i64 (k : Int), .int .i64 ((m : Int) + (i : Int))] w' fun e w'' => e = .returned (bv (mB k (m + i))) ∧ w' = w'') := Lib.hid fun w' => by
                have := markByte_any k (m + i) w' (by omega) (by omega)
                rw [Int.natCast_add] at this
                exact this
              have HBV := Lib.hid (show bv (mB k (m + i)) = .int .u8 (mB k (m + i)).toNat from rfl)
              have HP := Lib.hid (grow_made (.cells #[.int .u8 (mB k (m + i)).toNat] 5) hw.out.1 hw.out.2.1 hw.out.2.2)
              have HOB := Lib.hid (one_b wr _ (mB k (m + i)) rfl)
              have HLN := Lib.hid (show (marks k (m + i)).length + [mB k (m + i)].length ≤ 140737488355328 by rw [marks_length]; simp; omega)
              clear hw
              go_wp2_with (first
                | (go_at_call 24; refine (HMB.out _).mono ?_; rintro e w' ⟨rfl, rfl⟩; rw [HBV.out])
                | (at_builtin; refine wpList_append_keep (F := fun b => (X k).ownBlock = some b ∨ wo.heap.size ≤ b) (G := fun b => b = wr.heap.size) _ rfl (.tmp 57) (.tmp 67) rfl _ _ (marks k (m + i)) [mB k (m + i)] rfl rfl HP.out.1 HOB.out HLN.out ?_; intro v5 w5 ho5 hn5 hg5; have HN := Lib.hid (grow_row HP.out.1 HP.out.2.1 (by rw [marks_length, marks_length]; omega) HP.out.2.2 ho5 hn5 hg5); clear ho5 hn5 hg5)
                | fail)
              go_roundw
              case rel => exact ⟨i + 1, by omega, by go_num, Lib.hid (by have := HN.out; rwa [← marks_succ] at this)⟩
              case measure => simp [intOf]; omega
            · obtain rfl : i = 64 := by omega
              obtain ⟨a9, c9, hv9⟩ := hw.out.1.len
              rw [marks_length] at hv9
              subst hv9
              have hv1 := hw.out.1
              rw [show marks k (m + 64) = marks k ((L k).length + 64) by rw [HM.out]] at hv1
              have HE := Lib.hid (hst.out.store (wi := wr) hlt HD.out HXB.out HGB.out hv1 (by have := hw.out.2.1; rwa [HM.out] at this) hw.out.2.2)
              clear hv1
              have hgc := ((hst.out.1.keep hw.out.2.2 (fun e => by have := HXB.out k hlt gb e; omega)).cell k hlt)
              obtain ⟨hgc1, hgf1⟩ := hgc
              clear hw hst
              go_wp2
              go_roundw
              case rel => exact ⟨k + 1, _, by omega, by go_num, HE⟩
              case measure => simp [intOf]; omega
        · rw [show k = n by omega] at hst
          go_wp2
          go_loopw [9] (fun kv wr => ∃ k : Nat, k ≤ n ∧ kv = .int .i64 k ∧ Hid (FlAt w wr n n gb X L G (fun j => marks j ((L j).length + 64)))) (fun kv _ => n - (intOf kv).toNat)
          case atStart => exact ⟨0, by omega, rfl, hst⟩
          case round =>
            obtain ⟨k, hk, rfl, hR⟩ := hrel
            clear hst
            by_cases hlt : k < n
            · have hown := hR.out.2.1 k hlt
              obtain ⟨ax, cx, hX⟩ := hown.len
              rw [marks_length] at hX
              have hog := hR.out.2.2.1 k hlt
              obtain ⟨ag, cg, hG⟩ := hog.len
              rw [marks_length] at hG
              have hLk := HL.out k hlt
              obtain ⟨m, hm⟩ : ∃ m, m = (L k).length := ⟨_, rfl⟩
              rw [← hm] at hX hLk hG
              have HX := Lib.hid hX
              have HG := Lib.hid hG
              have HM := Lib.hid hm
              clear hX hm hown hog hG
              go_wp2
              go_loopw [10] (fun iv wi => ∃ i : Nat, i ≤ m + 64 ∧ iv = .int .i64 i ∧ Hid (FlAt w wi n n gb X L G (fun j => marks j ((L j).length + 64)))) (fun iv _ => m + 64 - (intOf iv).toNat)
              case atStart => exact ⟨0, by omega, rfl, hR⟩
              case round =>
                obtain ⟨i, hi, rfl, hRi⟩ := hrel
                clear hR
                have hc1 := (hRi.out.1.cell k hlt).1
                rw [HG.out] at hc1
                have hc2 := hRi.out.2.2.2.cell (HLS.out k hlt) HLB.out
                rw [HX.out] at hc2
                by_cases hil : i < m + 64
                · obtain ⟨g, cap, hv, _, _, _, hcell⟩ := (hRi.out.2.2.1 k hlt).form (by rw [marks_length]; omega)
                  rw [HG.out, marks_length] at hv
                  simp only [Value.slice.injEq] at hv
                  obtain ⟨rfl, hz8, rfl⟩ := hv
                  clear hz8
                  obtain ⟨c3, _⟩ := hcell i (by rw [marks_length, ← HM.out]; omega)
                  rw [List.getD_eq_getElem?_getD, marks_get _ _ _ (by rw [← HM.out]; omega), Option.getD_some] at c3
                  have HMB : Hid (∀ q, Calls Tryz.prog 24 #[.int .i64 (k : Int), .int .i64 (i : Int)] (wr.drewN q) fun e w' => e = .returned (.int .u8 (mB k i).toNat) ∧ w' = wr.drewN q) := Lib.hid fun q => mark_quiet k i wr q (by omega) (by omega)
                  clear hcell
                  by_cases him : i < m
                  · obtain ⟨g2, cap2, hv2, _, _, _, hcell2⟩ := (hRi.out.2.1 k hlt).form (by rw [marks_length, ← HM.out]; omega)
                    rw [HX.out, marks_length] at hv2
                    simp only [Value.slice.injEq] at hv2
                    obtain ⟨rfl, hz9, rfl⟩ := hv2
                    clear hz9
                    obtain ⟨c4, _⟩ := hcell2 i (by rw [marks_length, ← HM.out]; omega)
                    rw [List.getD_eq_getElem?_getD, marks_get _ _ _ (by rw [← HM.out]; omega), Option.getD_some] at c4
                    clear hcell2
                    have hd : (i : Int) < (m : Int) := by omega
                    go_wp2
                    go_quiet ((go_at_call 24; exact Calls.quiet_of_same (HMB.out _)))
                    go_wp2
                    go_roundw
                    case rel => exact ⟨i + 1, by omega, by go_num, Lib.hid (hRi.out.drewN _)⟩
                    case measure => simp [intOf]; omega
                  · have hd : decide ((i : Int) < (m : Int)) = false := by simp; omega
                    go_wp2
                    go_quiet ((go_at_call 24; exact Calls.quiet_of_same (HMB.out _)))
                    go_wp2
                    go_roundw
                    case rel => exact ⟨i + 1, by omega, by go_num, Lib.hid (hRi.out.drewN _)⟩
                    case measure => simp [intOf]; omega
                · go_wp2
                  go_roundw
                  case rel => exact ⟨k + 1, by omega, by go_num, hRi⟩
                  case measure => simp [intOf]; omega
            · obtain ⟨hr1, hr2, hr3, hr4⟩ := hR.out
              have hst : Hid (FlAt w wr n 0 gb X L G (fun j => marks j (L j).length ++ marks (j + n) 64)) := Lib.hid ⟨hr1, hr2, (fun j hj => by omega), hr4⟩
              clear hR hr1 hr2 hr3 hr4
              go_wp2
              go_loopw [11] (fun kv wr => ∃ (k : Nat) (G : Nat → Value), k ≤ n ∧ kv = .int .i64 k ∧ Hid (FlAt w wr n k gb X L G (fun j => marks j (L j).length ++ marks (j + n) 64))) (fun kv _ => n - (intOf kv).toNat)
              case atStart => exact ⟨0, _, by omega, rfl, hst⟩
              case round =>
                obtain ⟨k, G, hk, rfl, hst⟩ := hrel
                by_cases hlt : k < n
                · obtain ⟨wo, hwo⟩ : ∃ wo : World, wo = wr := ⟨_, rfl⟩
                  subst hwo
                  have hown := hst.out.2.1 k hlt
                  obtain ⟨ax, cx, hX⟩ := hown.len
                  rw [marks_length] at hX
                  have hLk := HL.out k hlt
                  obtain ⟨m, hm⟩ : ∃ m, m = (L k).length := ⟨_, rfl⟩
                  rw [← hm] at hX hLk
                  have hc0 := hst.out.2.2.2.cell (HLS.out k hlt) HLB.out
                  have HC0 := Lib.hid hc0
                  have HX := Lib.hid hX
                  have HM := Lib.hid hm
                  have HO : Hid (OwnB (fun b => (X k).ownBlock = some b ∨ wo.heap.size ≤ b) wo (.slice ax m cx) (marks k m) ∧ OwnB (fun _ => True) wo (X k) (marks k m)) := by
                    have h0 : OwnB (fun _ => True) wo (X k) (marks k (L k).length) := hown
                    rw [← hm] at h0
                    refine Lib.hid ⟨?_, h0⟩
                    rw [← hX]
                    exact ⟨h0.1, fun g hg => .inl hg⟩
                  clear hX hm hown hc0
                  obtain ⟨i1, hi1, hz0, hz1, hz2⟩ := info_parts Tryz.infoB
                  have HI1 := Lib.hid (And.intro hi1 (And.intro hz0 (And.intro hz1 hz2)))
                  clear hi1 hz0 hz1 hz2
                  go_wp2_with (at_make; refine wpList_make_full wo rfl (.const (.int .i64 64)) (.const (.int .i64 64)) 22 rfl 0 5 i1 (.int .u8 0) 1 Tryz.underlying22 HI1.out.1 HI1.out.2.1 HI1.out.2.2.1 .i64 .i64 (64 : Int) (64 : Int) 64 rfl rfl rfl rfl (by rw [HI1.out.2.2.2]; omega) (by unfold maxLen; omega) (Nat.zero_le _) ?next4)
                  intro w2 hw2 hg2
                  have hmany : OwnB (fun b => b = wo.heap.size) w2 (.slice (some ⟨wo.heap.size, 0, none⟩) 64 64) (fill64 (k + n) 0) := by
                    refine ⟨?_, fun g hg => by simp only [Value.ownBlock, Option.some.injEq] at hg; exact hg.symm⟩
                    rw [fill64_zero, ← fill64_made]
                    rw [show (List.replicate 64 (0 : UInt8)).length = 64 from rfl]
                    exact hw2
                  have HM2 : Hid (OwnB (fun b => b = wo.heap.size) w2 (.slice (some ⟨wo.heap.size, 0, none⟩) 64 64) (fill64 (k + n) 0) ∧ Fr (fun _ => False) wo w2) := Lib.hid ⟨hmany, (Fr.refl _ _).grown hg2 (fun k hk => by cases hk)⟩
                  obtain ⟨mb, hmb⟩ : ∃ mb, mb = wo.heap.size := ⟨_, rfl⟩
                  have HMBK := Lib.hid hmb
                  rw [← hmb] at HM2 ⊢
                  clear hmany hw2 hg2 hmb HI1
                  go_wp2
                  go_loopw [13] (fun iv wi => ∃ i : Nat, i ≤ 64 ∧ iv = .int .i64 i ∧ Hid (OwnB (fun b => b = mb) wi (.slice (some ⟨mb, 0, none⟩) 64 64) (fill64 (k + n) i) ∧ Fr (fun _ => False) wo wi)) (fun iv _ => 64 - (intOf iv).toNat)
                  case atStart => exact ⟨0, by omega, rfl, HM2⟩
                  case round =>
                    obtain ⟨i, hi, rfl, hw⟩ := hrel
                    clear HM2
                    by_cases hil : i < 64
                    · have HMB : Hid (∀ w', Calls Tryz.prog 24 #[.int .i64 ((k : Int) + (n : Int)), .int .i64 (i : Int)] w' fun e w'' => e = .returned (bv (mB (k + n) i)) ∧ w' = w'') := Lib.hid fun w' => by
                        have := markByte_any (k + n) i w' (by omega) (by omega)
                        rw [Int.natCast_add] at this
                        exact this
                      have HBV := Lib.hid (show bv (mB (k + n) i) = .int .u8 (mB (k + n) i).toNat from rfl)
                      obtain ⟨g9, c9, hv9, _, _, _, hcell⟩ := hw.out.1.form (by rw [fill64_len _ _ (by omega)]; omega)
                      rw [fill64_len _ _ (by omega)] at hcell hv9
                      simp only [Value.slice.injEq, Option.some.injEq, Addr.mk.injEq] at hv9
                      obtain ⟨⟨rfl, hz8, hz9⟩, hz7, rfl⟩ := hv9
                      clear hz7 hz8 hz9
                      obtain ⟨c2, f2⟩ := hcell i (by omega)
                      obtain ⟨y, hy⟩ : ∃ y, y = (fill64 (k + n) i).getD i 0 := ⟨_, rfl⟩
                      rw [← hy] at c2
                      have HNX : Hid (OwnB (fun b => b = mb) (wr.setCell ⟨mb, i, none⟩ (bv (mB (k + n) i))) (.slice (some ⟨mb, 0, none⟩) 64 64) (fill64 (k + n) (i + 1)) ∧ Fr (fun _ => False) wo (wr.setCell ⟨mb, i, none⟩ (bv (mB (k + n) i)))) :=
                        Lib.hid ⟨by have := hw.out.1.store i (mB (k + n) i); rwa [fill64_set _ _ hil] at this, hw.out.2.setCell (p := ⟨mb, i, none⟩) (.inr (by rw [HMBK.out]; exact Nat.le_refl _)) _⟩
                      rw [HBV.out] at HNX
                      clear hcell hy hw
                      go_wp2_with (first
                        | (go_at_call 24; refine (HMB.out _).mono ?_; rintro e w' ⟨rfl, rfl⟩; rw [HBV.out])
                        | fail)
                      go_roundw
                      case rel => exact ⟨i + 1, by omega, by go_num, HNX⟩
                      case measure => simp [intOf]; omega
                    · obtain rfl : i = 64 := by omega
                      have HF := Lib.hid (hw.out.2.mono (T := fun b => (X k).ownBlock = some b) (fun i _ h => h.elim))
                      have HA := Lib.hid (HO.out.1.keep' hw.out.2 (fun _ _ h => h))
                      have HB := Lib.hid (HO.out.2.keep' hw.out.2 (fun _ _ h => h))
                      have HC := Lib.hid (hw.out.1.bytes)
                      have HLN := Lib.hid (show (marks k m).length + (fill64 (k + n) 64).length ≤ 140737488355328 by rw [marks_length, fill64_len _ _ (Nat.le_refl _)]; omega)
                      have hc1 := HF.out.cell HC0.out (fun e => HLB.out ⟨k, hlt, e⟩)
                      rw [HX.out] at hc1
                      clear hw
                      go_wp2_with (first
                        | (at_builtin; refine wpList_append_keep (F := fun b => (X k).ownBlock = some b ∨ wo.heap.size ≤ b) (G := fun b => b = mb) _ rfl (.tmp 148) (.tmp 149) rfl _ _ (marks k m) (fill64 (k + n) 64) rfl rfl HA.out HC.out HLN.out ?_; intro v5 w5 ho5 hn5 hg5; have HN := Lib.hid (grow_row HA.out HB.out (Nat.le_refl _) HF.out ho5 hn5 hg5); clear ho5 hn5 hg5; obtain ⟨a5, c5, hv5⟩ := HN.out.1.len; rw [List.length_append, marks_length, fill64_len _ _ (Nat.le_refl _)] at hv5; subst hv5; obtain ⟨hgc1, hgf1⟩ := ((hst.out.1.keep HN.out.2.2 (fun e => by have := HXB.out k hlt gb e; omega)).cell k hlt))
                        | fail)
                      have hv1 := HN.out.1
                      rw [fill64_end, show marks k m ++ marks (k + n) 64 = marks k (L k).length ++ marks (k + n) 64 by rw [HM.out]] at hv1
                      have HE := Lib.hid (hst.out.store hlt HD.out HXB.out HGB.out hv1 (by have := HN.out.2.1; rwa [HM.out] at this) HN.out.2.2)
                      clear hv1 hst
                      go_roundw
                      case rel => exact ⟨k + 1, _, by omega, by go_num, HE⟩
                      case measure => simp [intOf]; omega
                · rw [show k = n by omega] at hst
                  go_wp2
                  go_loopw [14] (fun kv wr => ∃ k : Nat, k ≤ n ∧ kv = .int .i64 k ∧ Hid (FlAt w wr n n gb X L G (fun j => marks j (L j).length ++ marks (j + n) 64))) (fun kv _ => n - (intOf kv).toNat)
                  case atStart => exact ⟨0, by omega, rfl, hst⟩
                  case round =>
                    obtain ⟨k, hk, rfl, hR⟩ := hrel
                    clear hst
                    by_cases hlt : k < n
                    · have hown := hR.out.2.1 k hlt
                      obtain ⟨ax, cx, hX⟩ := hown.len
                      rw [marks_length] at hX
                      have hog := hR.out.2.2.1 k hlt
                      obtain ⟨ag, cg, hG⟩ := hog.len
                      rw [List.length_append, marks_length, marks_length] at hG
                      have hLk := HL.out k hlt
                      obtain ⟨m, hm⟩ : ∃ m, m = (L k).length := ⟨_, rfl⟩
                      rw [← hm] at hX hLk hG
                      have hc0 := hR.out.2.2.2.cell (HLS.out k hlt) HLB.out
                      rw [hX] at hc0
                      have HX := Lib.hid hX
                      have HG := Lib.hid hG
                      have HM := Lib.hid hm
                      clear hX hm hown hog hG hc0
                      go_wp2
                      go_loopw [15] (fun iv wi => ∃ i : Nat, i ≤ m ∧ iv = .int .i64 i ∧ Hid (FlAt w wi n n gb X L G (fun j => marks j (L j).length ++ marks (j + n) 64))) (fun iv _ => m - (intOf iv).toNat)
                      case atStart => exact ⟨0, by omega, rfl, hR⟩
                      case round =>
                        obtain ⟨i, hi, rfl, hRi⟩ := hrel
                        clear hR
                        have hc1 := (hRi.out.1.cell k hlt).1
                        rw [HG.out] at hc1
                        have hc2 := hRi.out.2.2.2.cell (HLS.out k hlt) HLB.out
                        rw [HX.out] at hc2
                        by_cases hil : i < m
                        · obtain ⟨g, cap, hv, _, _, _, hcell⟩ := (hRi.out.2.2.1 k hlt).form (by rw [List.length_append, marks_length, marks_length]; omega)
                          rw [HG.out, List.length_append, marks_length, marks_length] at hv
                          simp only [Value.slice.injEq] at hv
                          obtain ⟨rfl, hz8, rfl⟩ := hv
                          clear hz8
                          obtain ⟨c3, _⟩ := hcell i (by rw [List.length_append, marks_length, marks_length, ← HM.out]; omega)
                          rw [List.getD_eq_getElem?_getD, marks_app _ _ _ _ (by rw [← HM.out]; omega), Option.getD_some] at c3
                          have HMB : Hid (∀ q, Calls Tryz.prog 24 #[.int .i64 (k : Int), .int .i64 (i : Int)] (wr.drewN q) fun e w' => e = .returned (.int .u8 (mB k i).toNat) ∧ w' = wr.drewN q) := Lib.hid fun q => mark_quiet k i wr q (by omega) (by omega)
                          clear hcell
                          obtain ⟨g2, cap2, hv2, _, _, _, hcell2⟩ := (hRi.out.2.1 k hlt).form (by rw [marks_length, ← HM.out]; omega)
                          rw [HX.out, marks_length] at hv2
                          simp only [Value.slice.injEq] at hv2
                          obtain ⟨rfl, hz9, rfl⟩ := hv2
                          clear hz9
                          obtain ⟨c4, _⟩ := hcell2 i (by rw [marks_length, ← HM.out]; omega)
                          rw [List.getD_eq_getElem?_getD, marks_get _ _ _ (by rw [← HM.out]; omega), Option.getD_some] at c4
                          clear hcell2
                          go_wp2
                          go_quiet ((go_at_call 24; exact Calls.quiet_of_same (HMB.out _)))
                          go_wp2
                          go_roundw
                          case rel => exact ⟨i + 1, by omega, by go_num, Lib.hid (hRi.out.drewN _)⟩
                          case measure => simp [intOf]; omega
                        · go_wp2
                          go_roundw
                          case rel => exact ⟨k + 1, by omega, by go_num, hRi⟩
                          case measure => simp [intOf]; omega
                    · have HFR := hR.out.2.2.2
                      have HFR' := Lib.hid HFR
                      clear hR HFR
                      go_wp2
                      go_ret
                      exact ⟨rfl, HFR'.out⟩
end Go.Proofs.YtfkgdjoaoidkeaaGreat
