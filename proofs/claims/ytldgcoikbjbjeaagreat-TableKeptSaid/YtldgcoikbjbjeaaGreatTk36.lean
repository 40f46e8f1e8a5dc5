/- Laid together: TIs TRow1 -/
import Derived.Test.YtldgcoikbjbjeaaGreatTk24
import Derived.Test.YtldgcoikbjbjeaaGreatTk35
import Derived.Test.YtldgcoikbjbjeaaGreatTk22
import Derived.Deep.RegionHeldLaw

namespace Go.Proofs.YtldgcoikbjbjeaaGreat
open Go.RowKit Go.ChangeShapes
set_option linter.unusedVariables false
theorem bl_of_lt : ∀ (x y : List UInt8), x < y → Op.bytesLess x y = true
  | _, [], h => absurd h (List.not_lt_nil _)
  | [], _ :: _, _ => rfl
  | a :: x, b :: y, h => by
    unfold Op.bytesLess
    rw [List.cons_lt_cons_iff] at h
    rcases h with h | ⟨rfl, h⟩
    · simp [h]
    · simp [bl_of_lt x y h]
theorem isB_no {L M : Tab} {i : Nat} (hi : i < M.length) (h : tGet L M[i].1 ≠ some M[i].2) : isB L M = false := by
  unfold isB
  rw [Bool.and_eq_false_iff]
  right
  rw [List.all_eq_false]
  exact ⟨_, List.getElem_mem hi, by simpa using h⟩
theorem isB_all {L M : Tab} (hl : M.length = L.length) (h : ∀ j (hj : j < M.length), tGet L M[j].1 = some M[j].2) : isB L M = true := by
  unfold isB
  rw [Bool.and_eq_true, decide_eq_true_eq, List.all_eq_true]
  refine ⟨hl, fun p hp => ?_⟩
  obtain ⟨j, hj, rfl⟩ := List.getElem_of_mem hp
  rw [h j hj]
  simp
set_option maxRecDepth 100000 in
set_option maxHeartbeats 4000000 in
theorem is_any {F G : Nat → Prop} {w : World} {tb mb jn la : Nat} {M : Tab} (kv vv : Value) (l : List RowD) (h : VsIn G w kv vv l) (hn : l.length ≤ 1000000) (ho : (l.map RowD.row).Pairwise (fun p q => p.1 ≠ q.1))
    (hT : TbRow F w tb mb jn la M) (hF : ∀ k, F k → k < w.heap.size) (hM : tabOk M) (hml : M.length ≤ 4000) :
    Calls Tryz.prog 16 #[.agg #[kv, vv], .pointer (some ⟨tb, 0, none⟩)] w fun e w' => e = .returned (.bool (isB (l.map RowD.row) M)) ∧ Fr (fun _ => False) w w' := by
  obtain ⟨ak, ck, rfl, hk1, hk2, bk, ok, hak, hck⟩ := h.ke.open1
  obtain ⟨av, cv, rfl, hv1, hv2, bw, ov, hav, hcv⟩ := h.ve.open1
  have hlk : (keyV l).length = l.length := by simp [keyV]
  have hlv : (valV l).length = l.length := by simp [valV]
  obtain ⟨n, hnn⟩ : ∃ n, n = l.length := ⟨_, rfl⟩
  have HN := Lib.hid (And.intro hnn (And.intro hn ho))
  have HV := Lib.hid h
  have HC := Lib.hid (show ∀ i (hi : i < l.length), w.cell? ⟨bw, ov + i, none⟩ = some l[i].x from fun i hi => by
    have := hcv i (by rw [hlv]; exact hi)
    rw [this]
    simp [valV])
  have HA := Lib.hid hav
  rw [hlv, ← hnn] at HA
  rw [hlk, hlv, ← hnn] at HV ⊢
  obtain ⟨gb, hgb⟩ : ∃ g, g = w.heap.size := ⟨_, rfl⟩
  obtain ⟨W1, hW1⟩ : ∃ W, W = w.alloc (.cells #[.slice ak n ck, .slice av n cv] 40) := ⟨_, rfl⟩
  have H1 := Lib.hid (show Fr (fun _ => False) w W1 ∧ W1.heap[gb]? = some (.cells #[.slice ak n ck, .slice av n cv] 40 (0, 0)) by
    rw [hW1, hgb]
    exact ⟨(Fr.refl _ _).alloc _, heap_alloc_new w _⟩)
  have HW := Lib.hid (And.intro hW1 hgb)
  have HT := Lib.hid (show TbRow F W1 tb mb jn la M from RwAt.quiet hT H1.out.1)
  have HRO := Lib.hid (callsIn_wide.1 (tRows_in W1 HT.out (fun k hk => by have := hF k hk; have := H1.out.1.size; omega) ⟨#[]⟩))
  have HM := Lib.hid (And.intro hM hml)
  have s0 : W1.cell? ⟨gb, 0, none⟩ = some (.slice ak n ck) := cell_of_row _ _ _ _ _ _ H1.out.2
  clear h hak hck hav hcv hlk hlv hnn hW1 hgb hT hF hM hml hn ho hk1 hk2 hv1 hv2
  obtain ⟨q, hq⟩ : ∃ q, q = M.length := ⟨_, rfl⟩
  have HQ := Lib.hid hq
  have hq4 : q ≤ 4000 := by rw [hq]; exact HM.out.2
  clear hq
  by_cases hqn : q = n
  case neg =>
    have d0 : ((q : Int) != (n : Int)) = true := by rw [bne_iff_ne]; omega
    have d1 : ¬ (q : Int) = (n : Int) := by omega
    have d2 : ((q : Int) == (n : Int)) = false := by rw [beq_eq_false_iff_ne]; omega
    have HB := Lib.hid (show isB (l.map RowD.row) M = false by
      unfold isB
      rw [Bool.and_eq_false_iff]
      left
      rw [decide_eq_false_iff_not, List.length_map, ← HQ.out, ← HN.out.1]
      exact hqn)
    go_enter Tryz.func16, Tryz.ntmps16
    go_wp2_with (go_at_call 19; rw [← HW.out.1, ← HW.out.2]; (with_reducible refine HRO.out.mono ?_); rintro e w2 ⟨v2, rows, rfl, ho2, hm2, hf2⟩; (rw [List.filter_eq_self.2 (fun p _ => hasPrefix_nil6 _)] at hm2); (have H2 := Lib.hid (And.intro (ho2.rws (fun k hk => hk)) (And.intro hm2 hf2))); (obtain ⟨a2, c2, rfl, _⟩ := H2.out.1.open6); (have hm : rows.length = q := by rw [HQ.out, ← hm2, List.length_map]); (rw [hm] at H2 ⊢); (have s0 := hf2.cell s0 id); clear ho2 hm2 hf2 hm)
    go_ret
    exact ⟨by rw [HB.out]; rfl, H1.out.1.trans H2.out.2.2 (fun _ h => h.elim)⟩
  case pos =>
    subst hqn
    have s1 : W1.cell? ⟨gb, 1, none⟩ = some (.slice av q cv) := cell_of_row _ _ _ _ _ _ H1.out.2
    have HS := Lib.hid (And.intro s0 s1)
    go_enter Tryz.func16, Tryz.ntmps16
    go_wp2_with (go_at_call 19; rw [← HW.out.1, ← HW.out.2]; (with_reducible refine HRO.out.mono ?_); rintro e w2 ⟨v2, rows, rfl, ho2, hm2, hf2⟩; (rw [List.filter_eq_self.2 (fun p _ => hasPrefix_nil6 _)] at hm2); (have H2 := Lib.hid (And.intro (ho2.rws (fun k hk => hk)) (And.intro hm2 hf2))); (obtain ⟨a2, c2, rfl, _⟩ := H2.out.1.open6); (have hm : rows.length = q := by rw [HQ.out, ← hm2, List.length_map]); (have HRL := Lib.hid hm); (rw [hm] at H2 ⊢); (have s0 := hf2.cell s0 id); clear ho2 hm2 hf2 hm)
    clear s0 s1
    go_loopw [6] (fun iv wr => ∃ i : Nat, i ≤ q ∧ iv = .int .i64 i ∧ Hid (Fr (fun _ => False) W1 wr ∧ Fr (fun _ => False) w2 wr ∧ ∀ j (hj : j < M.length), j < i → tGet (l.map RowD.row) M[j].1 = some M[j].2)) (fun iv _ => q - (intOf iv).toNat)
    case atStart => exact ⟨0, by omega, rfl, Lib.hid ⟨H2.out.2.2, Fr.refl _ _, fun j _ hj => by omega⟩⟩
    case round =>
      obtain ⟨i, hi, rfl, hR⟩ := hrel
      by_cases hlt : i < q
      case neg =>
        obtain rfl : i = q := by omega
        have HB := Lib.hid (show isB (l.map RowD.row) M = true from isB_all (by rw [List.length_map, ← HQ.out, ← HN.out.1]) (fun j hj => hR.out.2.2 j hj (by rw [HQ.out]; exact hj)))
        go_wp2_with fail
        go_ret
        exact ⟨by rw [HB.out]; rfl, H1.out.1.trans hR.out.1 (fun _ h => h.elim)⟩
      case pos =>
        have hir : i < rows.length := by rw [HRL.out]; exact hlt
        have hiM : i < M.length := by rw [← HQ.out]; exact hlt
        have hrs := H2.out.1.keep hR.out.2.1 (fun _ _ _ h => h)
        obtain ⟨aa, ca, hva, _, _, b2, o2, hoa, hca⟩ := hrs.open6
        simp only [Value.slice.injEq] at hva
        obtain ⟨rfl, -, rfl⟩ := hva
        obtain ⟨rfl, _⟩ := hoa (by omega)
        obtain ⟨e0, e1⟩ := hca i hir
        have hbx := hrs.bytes _ (List.getElem_mem hir)
        have hMi : M[i] = rows[i].row := by
          have h1 : (rows.map RowD.row)[i]? = M[i]? := by rw [H2.out.2.1]
          rw [List.getElem?_map, List.getElem?_eq_getElem hir, List.getElem?_eq_getElem hiM] at h1
          exact (Option.some.inj h1).symm
        obtain ⟨key, x, B, hp⟩ : ∃ key x B, rows[i] = (⟨key, x, B⟩ : RowD) := ⟨_, _, _, rfl⟩
        have hpk : rows[i].key = key := by rw [hp]
        have hpx : rows[i].x = x := by rw [hp]
        have hpB : rows[i].B = B := by rw [hp]
        rw [hpk] at e0
        rw [hpx] at e1 hbx
        rw [hpB] at hbx
        have hMi2 : M[i] = (key.data.toList, B) := by rw [hMi, hp]; rfl
        obtain ⟨ax, cx, rfl, _⟩ := id hbx
        have hgM : tGet M key.data.toList = some B := by
          have := tGet_of_mem HM.out.1.1 (List.getElem_mem hiM)
          rw [hMi2] at this
          exact this
        have hks : key.size ≤ 1000000 := by
          have := (HM.out.1.2 _ (List.getElem_mem hiM)).1.2
          rw [hMi2, size_list] at this
          omega
        have HI := Lib.hid (And.intro hiM (And.intro hMi2 hbx))
        obtain ⟨s0, s1⟩ := HS.out
        replace s0 := hR.out.1.cell s0 id
        replace s1 := hR.out.1.cell s1 id
        have HFI := Lib.hid (fun (W : World) (hf : Fr (fun _ => False) wr W) => find_any W (.slice ak q ck) (.slice av q cv) l key (HV.out.keep (H1.out.1.trans (hR.out.1.trans hf (fun _ h => h.elim)) (fun _ h => h.elim)) (fun _ _ _ h => h)) HN.out.2.1)
        have HGE := Lib.hid (fun (W : World) (hf : Fr (fun _ => False) wr W) => get6_any (RwAt.quiet HT.out (hR.out.1.trans hf (fun _ h => h.elim))) key hks)
        clear hir hrs hoa hca hbx hMi hp hpk hpx hpB hMi2 hks
        rw [hgM] at HGE
        cases hfd : fnd l key with
        | none =>
          have hfi : fndI l key = -1 := by unfold fndI; rw [hfd]
          rw [hfi] at HFI
          have HB := Lib.hid (show isB (l.map RowD.row) M = false from isB_no HI.out.1 (by rw [HI.out.2.1, fnd_not hfd]; intro h; cases h))
          clear hfd hfi hgM
          go_wp2_with fail
          go_region_held_law (fun w' => w'.cell? ⟨gb, 0, none⟩ = some (.slice ak q ck) ∧ w'.cell? ⟨gb, 1, none⟩ = some (.slice av q cv) ∧ w'.cell? ⟨b2, o2 + i * 2, none⟩ = some (.string key)) (first | exact ⟨by assumption, by assumption, by assumption⟩ | go_keep) (first | (go_at_call 32; (refine (HFI.out _ (Fr.refl _ wr).drew).mono ?_); rintro e w4 ⟨rfl, hf4⟩; (have H4 := Lib.hid ((Fr.refl (fun _ => False) wr).drew.trans hf4 (fun _ h => h.elim))); (have s0 := H4.out.cell s0 id); (have s1 := H4.out.cell s1 id); (have e0 := H4.out.cell e0 id); (have e1 := H4.out.cell e1 id); clear hf4))
          all_goals (
            go_wp2_with (go_at_call 38; (with_reducible refine (HGE.out w4 H4.out).mono ?_); rintro e w5 ⟨v5, rfl, ho5, hf5⟩; (have H5 := Lib.hid (And.intro (H4.out.trans hf5 (fun _ h => h.elim)) (ho5 _ rfl).bytes)); (obtain ⟨a5, c5, rfl, _⟩ := id H5.out.2); (have s0 := hf5.cell s0 id); (have s1 := hf5.cell s1 id); (have e0 := hf5.cell e0 id); (have e1 := hf5.cell e1 id); clear hf5 ho5)
            go_quiet ((fail))
            go_wp2_with fail
            go_ret
            exact ⟨by rw [HB.out]; rfl, H1.out.1.trans (hR.out.1.trans (H5.out.1.drewN _) (fun _ h => h.elim)) (fun _ h => h.elim)⟩)
        | some k =>
          have hfi : fndI l key = (k : Int) := by unfold fndI; rw [hfd]
          rw [hfi] at HFI
          obtain ⟨hkl, hkk⟩ := fnd_get hfd
          have hval := fnd_val hfd HN.out.2.2 hkl
          have hkq : k < q := by rw [HN.out.1]; exact hkl
          obtain ⟨rfl, _⟩ := HA.out (by omega)
          have f1 := (H1.out.1.trans hR.out.1 (fun _ h => h.elim)).cell (HC.out k hkl) id
          have hby := (HV.out.keep (H1.out.1.trans hR.out.1 (fun _ h => h.elim)) (fun _ _ _ h => h)).bytes _ (List.getElem_mem hkl)
          obtain ⟨y, hy⟩ : ∃ y, y = l[k].x := ⟨_, rfl⟩
          obtain ⟨C, hC⟩ : ∃ C, C = l[k].B := ⟨_, rfl⟩
          rw [← hy] at f1 hby
          rw [← hC] at hby hval
          obtain ⟨ay, cy, rfl, _⟩ := id hby
          have HY := Lib.hid hby
          have g0 : decide ((k : Int) < 0) = false := decide_eq_false (by omega)
          have g1 : ¬ (k : Int) < 0 := by omega
          have g2 : (k : Int) < (q : Int) := by omega
          have HSA := Lib.hid (fun (W : World) (hf : Fr (fun _ => False) wr W) => same_any _ _ B C W (HI.out.2.2.keep hf (fun _ _ _ h => h)) (HY.out.keep hf (fun _ _ _ h => h)))
          have HSB := Lib.hid (fun (W : World) (u : Value) (hu : BytesIn (fun k => True) W u B) (hf : Fr (fun _ => False) wr W) => same_any _ _ B C W hu (HY.out.keep hf (fun _ _ _ h => h)))
          by_cases hBC : B = C
          case neg =>
            have HB := Lib.hid (show isB (l.map RowD.row) M = false from isB_no HI.out.1 (by rw [HI.out.2.1, hval]; intro h; exact hBC (Option.some.inj h).symm))
            rw [show sameB B C = false by simpa [sameB] using hBC] at HSA
            clear hfd hfi hgM hkl hkk hval hy hC hby hBC
            go_wp2_with fail
            go_region_held_law (fun w' => w'.cell? ⟨gb, 0, none⟩ = some (.slice ak q ck) ∧ w'.cell? ⟨gb, 1, none⟩ = some (.slice (some ⟨bw, ov, none⟩) q cv) ∧ w'.cell? ⟨b2, o2 + i * 2, none⟩ = some (.string key)) (first | exact ⟨by assumption, by assumption, by assumption⟩ | go_keep) (first | (go_at_call 32; (refine (HFI.out _ (Fr.refl _ wr).drew).mono ?_); rintro e w4 ⟨rfl, hf4⟩; (have H4 := Lib.hid ((Fr.refl (fun _ => False) wr).drew.trans hf4 (fun _ h => h.elim))); (have s0 := H4.out.cell s0 id); (have s1 := H4.out.cell s1 id); (have e0 := H4.out.cell e0 id); (have e1 := H4.out.cell e1 id); clear hf4))
            all_goals (
              go_wp2_with (go_at_call 38; (with_reducible refine (HGE.out w4 H4.out).mono ?_); rintro e w5 ⟨v5, rfl, ho5, hf5⟩; (have H5 := Lib.hid (And.intro (H4.out.trans hf5 (fun _ h => h.elim)) (ho5 _ rfl).bytes)); (obtain ⟨a5, c5, rfl, _⟩ := id H5.out.2); (have s0 := hf5.cell s0 id); (have s1 := hf5.cell s1 id); (have e0 := hf5.cell e0 id); (have e1 := hf5.cell e1 id); clear hf5 ho5)
              (have f1 := H5.out.1.cell f1 id)
              go_quiet ((go_at_call 21; exact Calls.quiet_of (HSA.out _ (H5.out.1.drewN _))))
              go_wp2_with fail
              go_ret
              exact ⟨by rw [HB.out]; rfl, H1.out.1.trans (hR.out.1.trans (H5.out.1.drewN _) (fun _ h => h.elim)) (fun _ h => h.elim)⟩)
          case pos =>
            subst hBC
            have HX := Lib.hid (show ∀ j (hj : j < M.length), j < i + 1 → tGet (l.map RowD.row) M[j].1 = some M[j].2 from fun j hj hji => by
              rcases Nat.lt_or_ge j i with h | h
              · exact hR.out.2.2 j hj h
              · obtain rfl : j = i := by omega
                rw [HI.out.2.1, hval])
            rw [show sameB B B = true by simp [sameB]] at HSA HSB
            clear hfd hfi hgM hkl hkk hval hy hC hby
            rcases Nat.eq_zero_or_pos i with hi0 | hi0
            · have k0 : decide ((0 : Int) < (i : Int)) = false := decide_eq_false (by omega)
              have k1 : ¬ (0 : Int) < (i : Int) := by omega
              have k5 : decide (0 < i) = false := decide_eq_false (by omega)
              have k6 : ¬ 0 < i := by omega
              clear hi0
              go_wp2_with fail
              go_region_held_law (fun w' => w'.cell? ⟨gb, 0, none⟩ = some (.slice ak q ck) ∧ w'.cell? ⟨gb, 1, none⟩ = some (.slice (some ⟨bw, ov, none⟩) q cv) ∧ w'.cell? ⟨b2, o2 + i * 2, none⟩ = some (.string key)) (first | exact ⟨by assumption, by assumption, by assumption⟩ | go_keep) (first | (go_at_call 32; (refine (HFI.out _ (Fr.refl _ wr).drew).mono ?_); rintro e w4 ⟨rfl, hf4⟩; (have H4 := Lib.hid ((Fr.refl (fun _ => False) wr).drew.trans hf4 (fun _ h => h.elim))); (have s0 := H4.out.cell s0 id); (have s1 := H4.out.cell s1 id); (have e0 := H4.out.cell e0 id); (have e1 := H4.out.cell e1 id); clear hf4))
              all_goals (
                go_wp2_with (go_at_call 38; (with_reducible refine (HGE.out w4 H4.out).mono ?_); rintro e w5 ⟨v5, rfl, ho5, hf5⟩; (have H5 := Lib.hid (And.intro (H4.out.trans hf5 (fun _ h => h.elim)) (ho5 _ rfl).bytes)); (obtain ⟨a5, c5, rfl, _⟩ := id H5.out.2); (have s0 := hf5.cell s0 id); (have s1 := hf5.cell s1 id); (have e0 := hf5.cell e0 id); (have e1 := hf5.cell e1 id); clear hf5 ho5)
                (have f1 := H5.out.1.cell f1 id)
                go_quiet ((go_at_call 21; first | (with_reducible exact Calls.quiet_of (HSA.out _ (H5.out.1.drewN _))) | (with_reducible exact Calls.quiet_of (HSB.out _ _ ((H5.out.2.mono (fun _ _ _ => trivial)).drewN _) (H5.out.1.drewN _)))))
                go_wp2_with fail
                go_roundw
                case rel => exact ⟨i + 1, by omega, by go_num, Lib.hid ⟨hR.out.1.trans (H5.out.1.drewN _) (fun _ h => h.elim), hR.out.2.1.trans (H5.out.1.drewN _) (fun _ h => h.elim), HX.out⟩⟩
                case measure => simp [intOf]; omega)
            · obtain ⟨j, hj⟩ : ∃ j, i = j + 1 := ⟨i - 1, by omega⟩
              have k0 : decide ((0 : Int) < (i : Int)) = true := decide_eq_true (by omega)
              have k1 : (0 : Int) < (i : Int) := by omega
              have k5 : decide (0 < i) = true := decide_eq_true (by omega)
              have k6 : 0 < i := by omega
              have k2 : (i : Int) - 1 = (j : Int) := by omega
              have k3 : (j : Int) < (q : Int) := by omega
              have hjr : j < rows.length := by rw [HRL.out]; omega
              have hjM : j < M.length := by rw [← HQ.out]; omega
              obtain ⟨aa, ca, hva, _, _, b4, o4, hob, hcb⟩ := (H2.out.1.keep hR.out.2.1 (fun _ _ _ h => h)).open6
              simp only [Value.slice.injEq] at hva
              obtain ⟨hva1, -, -⟩ := hva
              obtain ⟨hva2, _⟩ := hob (by omega)
              rw [← hva1] at hva2
              simp only [Option.some.injEq, Addr.mk.injEq, and_true] at hva2
              obtain ⟨rfl, rfl⟩ := hva2
              have p0 := (hcb j hjr).1
              obtain ⟨key2, hk2⟩ : ∃ key2, key2 = rows[j].key := ⟨_, rfl⟩
              rw [← hk2] at p0
              have hlt2 : key2.data.toList < key.data.toList := by
                have h1 := List.pairwise_iff_getElem.1 HM.out.1.1 j i hjM HI.out.1 (by omega)
                have h2 : M[j] = rows[j].row := by
                  have h1 : (rows.map RowD.row)[j]? = M[j]? := by rw [H2.out.2.1]
                  rw [List.getElem?_map, List.getElem?_eq_getElem hjr, List.getElem?_eq_getElem hjM] at h1
                  exact (Option.some.inj h1).symm
                rw [HI.out.2.1, h2] at h1
                rw [hk2]
                exact h1
              have k4 : Op.bytesLess key2.toList key.toList = true := by
                rw [Lib.toList_data, Lib.toList_data]
                exact bl_of_lt _ _ hlt2
              clear hi0 hj hjr hjM hva1 hob hcb hk2 hlt2
              go_wp2_with fail
              go_region_held_law (fun w' => w'.cell? ⟨gb, 0, none⟩ = some (.slice ak q ck) ∧ w'.cell? ⟨gb, 1, none⟩ = some (.slice (some ⟨bw, ov, none⟩) q cv) ∧ w'.cell? ⟨b2, o2 + i * 2, none⟩ = some (.string key)) (first | exact ⟨by assumption, by assumption, by assumption⟩ | go_keep) (first | (go_at_call 32; (refine (HFI.out _ (Fr.refl _ wr).drew).mono ?_); rintro e w4 ⟨rfl, hf4⟩; (have H4 := Lib.hid ((Fr.refl (fun _ => False) wr).drew.trans hf4 (fun _ h => h.elim))); (have s0 := H4.out.cell s0 id); (have s1 := H4.out.cell s1 id); (have e0 := H4.out.cell e0 id); (have e1 := H4.out.cell e1 id); clear hf4))
              all_goals (
                go_wp2_with (go_at_call 38; (with_reducible refine (HGE.out w4 H4.out).mono ?_); rintro e w5 ⟨v5, rfl, ho5, hf5⟩; (have H5 := Lib.hid (And.intro (H4.out.trans hf5 (fun _ h => h.elim)) (ho5 _ rfl).bytes)); (obtain ⟨a5, c5, rfl, _⟩ := id H5.out.2); (have s0 := hf5.cell s0 id); (have s1 := hf5.cell s1 id); (have e0 := hf5.cell e0 id); (have e1 := hf5.cell e1 id); clear hf5 ho5)
                (have f1 := H5.out.1.cell f1 id)
                (have p0 := H5.out.1.cell p0 id)
                go_quiet ((go_at_call 21; first | (with_reducible exact Calls.quiet_of (HSA.out _ (H5.out.1.drewN _))) | (with_reducible exact Calls.quiet_of (HSB.out _ _ ((H5.out.2.mono (fun _ _ _ => trivial)).drewN _) (H5.out.1.drewN _)))))
                go_wp2_with fail
                go_roundw
                case rel => exact ⟨i + 1, by omega, by go_num, Lib.hid ⟨hR.out.1.trans (H5.out.1.drewN _) (fun _ h => h.elim), hR.out.2.1.trans (H5.out.1.drewN _) (fun _ h => h.elim), HX.out⟩⟩
                case measure => simp [intOf]; omega)
end Go.Proofs.YtldgcoikbjbjeaaGreat
namespace Go.Proofs.YtldgcoikbjbjeaaGreat
open Go.RowKit Go.ChangeShapes
set_option linter.unusedVariables false
structure RowT (T : TypeId) (z : Nat) (w : World) (v : Value) (xs : List Value) : Prop where
  row : Row1 z w v xs
  ty : ∀ g, v.ownBlock = some g → ∃ cur, w.heap[g]? = some (.cells cur T (0, 0))
theorem RowT.keep {S : Nat → Prop} {T : TypeId} {z : Nat} {w w' : World} {v : Value} {xs : List Value} (h : RowT T z w v xs) (hf : Fr S w w') (hd : ∀ g, v.ownBlock = some g → ¬ S g) : RowT T z w' v xs :=
  ⟨h.row.keep hf hd, fun g hg => by obtain ⟨cur, hc⟩ := h.ty g hg; exact ⟨cur, hf.heap hc (hd g hg)⟩⟩
theorem RowT.cut {T : TypeId} {z : Nat} {w : World} {ao : Option Addr} {n c : Nat} {xs : List Value} (h : RowT T z w (.slice ao n c) xs) (k : Nat) (hk : k ≤ xs.length) : RowT T z w (.slice ao k k) (xs.take k) := ⟨h.row.cut k hk, fun g hg => h.ty g (by cases ao <;> exact hg)⟩
theorem RowT.apart {T U : TypeId} {z y : Nat} {w : World} {v u : Value} {xs ys : List Value} (h : RowT T z w v xs) (h' : RowT U y w u ys) (hTU : T ≠ U) (g : Nat) (hg : v.ownBlock = some g) : u.ownBlock ≠ some g := fun e => by
  obtain ⟨c, hc⟩ := h.ty g hg
  obtain ⟨d, hd⟩ := h'.ty g e
  rw [hc] at hd
  simp only [Option.some.injEq, Obj.cells.injEq] at hd
  exact hTU hd.2.1
theorem setCells_ty {w : World} {g : Nat} {T : TypeId} : ∀ {cur : Array Value}, w.heap[g]? = some (.cells cur T (0, 0)) → ∀ (vs : List Value) (o : Nat), ∃ cur', (w.setCells g o vs).heap[g]? = some (.cells cur' T (0, 0)) := by
  intro cur h vs
  induction vs generalizing w cur with
  | nil => exact fun o => ⟨cur, h⟩
  | cons v vs ih => exact fun o => ih (cell_put v h) (o + 1)
theorem RowT.over {T : TypeId} {z : Nat} {w : World} {g n : Nat} {ys : List Value} (hsome : ∀ j, j < ys.length → (w.cell? ⟨g, n + j, none⟩).isSome = true) {u : Value} {zs : List Value} (h : RowT T z w u zs) (hz : ∀ j, n ≤ j → j < n + ys.length → j < zs.length → zs[j]? = ys[j - n]?) : RowT T z (w.setCells g n ys) u zs := by
  have hf := Fr.setCells (S := fun k => k = g) g rfl ys n w
  by_cases hu : u.ownBlock = some g
  · refine ⟨?_, fun g' hg' => ?_⟩
    · rcases h.row with e | ⟨g', cap, rfl, h1, h2, h3, h4, h5, h6⟩
      · exact .inl e
      · simp only [Value.ownBlock, Option.some.injEq] at hu
        subst hu
        refine .inr ⟨g', cap, rfl, h1, Nat.lt_of_lt_of_le h2 hf.size, h3, h4, fun j hj => ?_, fun j hj => ⟨?_, (World.frozen?_setCells g' _ _ _ _).trans (h6 j hj).2⟩⟩
        · by_cases hin : n ≤ j ∧ j < n + ys.length
          · have := World.cell?_setCells_in g' ys n w hsome (j - n) (by omega)
            rw [show n + (j - n) = j by omega] at this
            rw [this, hz j hin.1 hin.2 hj, List.getElem?_eq_getElem (by omega)]
          · rw [World.cell?_setCells_out g' _ _ _ _ (fun _ _ => by show j < n ∨ n + ys.length ≤ j; omega)]
            exact h5 j hj
        · by_cases hin : n ≤ j ∧ j < n + ys.length
          · have := World.cell?_setCells_in g' ys n w hsome (j - n) (by omega)
            rw [show n + (j - n) = j by omega] at this
            rw [this]; rfl
          · rw [World.cell?_setCells_out g' _ _ _ _ (fun _ _ => by show j < n ∨ n + ys.length ≤ j; omega)]
            exact (h6 j hj).1
    · obtain ⟨cur, hc⟩ := h.ty g' hg'
      rw [hu] at hg'
      obtain rfl := Option.some.inj hg'
      exact setCells_ty hc ys n
  · exact h.keep hf (fun g' hg' e => hu (by rw [hg', show g' = g from e]))
theorem run_append_t {T ST : TypeId} {bs : Nat} {zv : Value} (hu : Tryz.prog.underlying ST = some (.slice T)) (hinf : (Tryz.prog.info? T).map (fun i => (i.zero, i.size, i.bytes)) = some (some zv, 1, bs)) (hzs : zv.cells.size = 1) (hbs : bs ≤ 100)
    {F : Nat → Prop} {z : Nat} (w : World) (ty : TypeId) (v x : Value) (xs ys : List Value) (hown : RowT T z w v xs) (hx : Elems 1 F w x (ys.map fun y => [y])) (h1 : ∀ u ∈ ys, u.oneCell' = true) (hz : z ≤ w.heap.size) (hn : xs.length + ys.length ≤ 1000000) :
    ∃ v' w', (Builtin.append_ #[ST, ST] ty #[v, x]).run Tryz.prog w = .ok v' w' ∧ RowT T z w' v' (xs ++ ys) ∧ Fr (fun k => v.ownBlock = some k) w w' ∧ ((∃ ao n, v = .slice ao n n) → Fr (fun _ => False) w w') ∧ (∀ u zs, (zs = xs ∨ zs = xs ++ ys) → RowT T z w u zs → RowT T z w' u zs) ∧ (v'.ownBlock = v.ownBlock ∨ v'.ownBlock = some w.heap.size) := by
  obtain ⟨i0, hi, hz0, hz1, hz2⟩ := info_parts hinf
  have hsrc : Src Tryz.prog i0.size ST x ys.length ys w := by
    obtain ⟨ao, cap, rfl, hc1, hc2, h3, h4⟩ := hx
    rw [List.length_map] at hc1 ⊢
    rw [hz1]
    by_cases he : ys = []
    · subst he
      cases ao with
      | none => exact Src.ofNil w hu cap
      | some a => exact Src.ofSlice w hu a 0 cap [] rfl (fun j u hu => by simp at hu) h1
    · obtain ⟨b, off, rfl, hF, hcell⟩ := h4 (by simpa using he)
      refine Src.ofSlice w hu ⟨b, off, none⟩ ys.length cap ys (by simp) (fun j u hju => ?_) h1
      have hj : j < ys.length := (List.getElem?_eq_some_iff.1 hju).1
      have h5 := hcell j (by rw [List.length_map]; exact hj) 0 (by decide)
      rw [addr_plain]
      rw [List.getElem_map, show off + j * 1 + 0 = off + j by omega] at h5
      rw [h5]
      have : ys[j] = u := (List.getElem?_eq_some_iff.1 hju).2
      simp [this]
  have hml : maxLen = 9223372036854775807 := rfl
  have hmb : ∀ n, n ≤ 1000000 → n * i0.bytes ≤ 140737488355328 := fun n hn => by rw [hz2]; exact Nat.le_trans (Nat.mul_le_mul hn hbs) (by decide)
  have hfb : ∀ (o : Obj), Fr (fun _ => False) w (w.drew.alloc o) := fun o => (Fr.refl _ w).drew.alloc o
  have hfa : ∀ (o : Obj), Fr (fun k => v.ownBlock = some k) w (w.drew.alloc o) := fun o => (Fr.refl _ w).drew.alloc o
  have grow : ∀ (bs' : Option Addr) (sc : Nat), v = .slice bs' xs.length sc → sc < xs.length + ys.length → (Builtin.firstCells i0.size xs.length (.slice bs' xs.length sc)).run Tryz.prog w.drew = .ok xs.toArray w.drew →
      ∃ v' w', (Builtin.append_ #[ST, ST] ty #[v, x]).run Tryz.prog w = .ok v' w' ∧ RowT T z w' v' (xs ++ ys) ∧ Fr (fun k => v.ownBlock = some k) w w' ∧ ((∃ ao n, v = .slice ao n n) → Fr (fun _ => False) w w') ∧ (∀ u zs, (zs = xs ∨ zs = xs ++ ys) → RowT T z w u zs → RowT T z w' u zs) ∧ (v'.ownBlock = v.ownBlock ∨ v'.ownBlock = some w.heap.size) := by
    intro bs' sc hv hg hold
    have hrun := run_append_grow_src (P := Tryz.prog) w ST ST ty T i0 zv hu hi hz0 bs' xs.length sc xs hold x ys.length ys hsrc hg (by omega) (growslice_fits hg (hmb _ hn))
    have hge := grownCap_ge w (xs.length + ys.length) sc T
    have hcm := grownCap_le_maxLen w (xs.length + ys.length) sc T (by omega)
    rw [← hv] at hrun
    refine ⟨_, _, hrun, ⟨.inr ⟨w.heap.size, _, by rw [List.length_append], hz, ?_, by rw [List.length_append]; exact hge, hcm, fun j hj => ?_, fun j hj => ⟨?_, World.frozen?_alloc_new w.drew _ _ j⟩⟩, fun g hg => ?_⟩, hfa _, fun _ => hfb _, fun u zs _ h => h.keep (hfb _) (fun _ _ h => h), .inr rfl⟩
    · exact lt_of_block (heap_alloc_new w.drew _)
    · have e1 : (w.drew.alloc (.cells ((xs ++ ys).toArray ++ Builtin.zeroCells zv.cells (grownCap w (xs.length + ys.length) sc T - (xs.length + ys.length))) T)).cell? ⟨w.heap.size, j, none⟩ = _ := World.cell?_alloc_new w.drew _ _ j
      rw [e1, Array.getElem?_append_left (by simpa using hj), List.getElem?_toArray]
    · have e1 : (w.drew.alloc (.cells ((xs ++ ys).toArray ++ Builtin.zeroCells zv.cells (grownCap w (xs.length + ys.length) sc T - (xs.length + ys.length))) T)).cell? ⟨w.heap.size, j, none⟩ = _ := World.cell?_alloc_new w.drew _ _ j
      rw [e1]
      have hsz : ((xs ++ ys).toArray ++ Builtin.zeroCells zv.cells (grownCap w (xs.length + ys.length) sc T - (xs.length + ys.length))).size = grownCap w (xs.length + ys.length) sc T := by
        rw [Array.size_append, List.size_toArray, List.length_append, size_zeroCells, hzs, Nat.mul_one]
        omega
      rw [Array.getElem?_eq_getElem (by rw [hsz]; exact hj)]
      rfl
    · simp only [Value.ownBlock, Option.some.injEq] at hg
      rw [← hg]
      exact ⟨_, heap_alloc_new w.drew _⟩
  obtain ⟨hown, hty⟩ := hown
  rcases hown with ⟨rfl, rfl⟩ | ⟨g, cap, rfl, g1, g2, g3, g4, g5, g6⟩
  · by_cases he : ys = []
    · subst he
      exact ⟨_, _, run_append_nothing (P := Tryz.prog) w ST ST ty T i0 hu hi none 0 0 (Nat.le_refl _) x hsrc, ⟨.inl ⟨rfl, rfl⟩, hty⟩, Fr.refl _ _, fun _ => Fr.refl _ _, fun _ _ _ h => h, .inl rfl⟩
    · exact grow none 0 rfl (by have := List.length_pos_iff.2 he; simp; omega) (run_firstCells_none w.drew i0.size 0 0 0)
  · by_cases hfit : xs.length + ys.length ≤ cap
    · have hsome : ∀ j, j < ys.length → (w.cell? ⟨g, 0 + xs.length * i0.size + j, none⟩).isSome = true := fun j hj => by rw [hz1]; exact (g6 _ (by omega)).1
      have hrun := run_append_room_src (P := Tryz.prog) w ST ST ty T i0 hu hi g 0 xs.length cap x ys.length ys hsrc hfit hsome (fun j hj => by rw [hz1]; exact (g6 _ (by omega)).2)
      rw [hz1, Nat.mul_one, Nat.zero_add] at hrun hsome
      refine ⟨_, _, hrun, ⟨.inr ⟨g, cap, by rw [List.length_append], g1, ?_, by rw [List.length_append]; exact hfit, g4, fun j hj => ?_, fun j hj => ⟨?_, (World.frozen?_setCells g _ _ _ _).trans (g6 j hj).2⟩⟩, fun g' hg' => ?_⟩, Fr.setCells (S := fun k => (Value.slice (some ⟨g, 0, none⟩) xs.length cap).ownBlock = some k) g rfl ys xs.length w, fun ⟨ao, n, e⟩ => ?_, fun u zs hzs h => h.over hsome (fun j j1 j2 j3 => ?_), .inl rfl⟩
      · have := (Fr.setCells (S := fun k => k = g) g rfl ys xs.length w).size
        omega
      · rw [List.length_append] at hj
        by_cases hjo : j < xs.length
        · rw [World.cell?_setCells_out g _ _ _ _ (fun _ _ => Or.inl (by show j < xs.length; omega)), List.getElem?_append_left hjo]
          exact g5 j hjo
        · have := World.cell?_setCells_in g ys xs.length w hsome (j - xs.length) (by omega)
          rw [show xs.length + (j - xs.length) = j by omega] at this
          rw [this, List.getElem?_append_right (by omega), List.getElem?_eq_getElem (by omega)]
      · by_cases hin : xs.length ≤ j ∧ j < xs.length + ys.length
        · have := World.cell?_setCells_in g ys xs.length w hsome (j - xs.length) (by omega)
          rw [show xs.length + (j - xs.length) = j by omega] at this
          rw [this]; rfl
        · rw [World.cell?_setCells_out g _ _ _ _ (fun _ _ => by show j < xs.length ∨ xs.length + ys.length ≤ j; omega)]
          exact (g6 j hj).1
      · obtain ⟨cur, hcur⟩ := hty g' hg'
        simp only [Value.ownBlock, Option.some.injEq] at hg'
        subst hg'
        exact setCells_ty hcur ys _
      · simp only [Value.slice.injEq] at e
        obtain rfl : ys = [] := List.eq_nil_of_length_eq_zero (by omega)
        exact Fr.refl _ _
      · rcases hzs with rfl | rfl
        · omega
        · rw [List.getElem?_append_right j1]
    · refine grow (some ⟨g, 0, none⟩) cap rfl (by omega) ?_
      refine run_firstCells_some w.drew i0.size xs.length ⟨g, 0, none⟩ xs.length cap xs (by rw [hz1, Nat.mul_one]) (fun j u hju => ?_)
      have hj : j < xs.length := (List.getElem?_eq_some_iff.1 hju).1
      rw [Addr.add_lit, Nat.zero_add]
      exact (g5 j hj).trans hju
end Go.Proofs.YtldgcoikbjbjeaaGreat
