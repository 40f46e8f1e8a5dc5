/- Contracts: spencekit.LentRows, KeptRows. -/
import Derived.Test.YthjpgnmpcllolaaDoorRowWalk
import Derived.BigQuiet
namespace Go.Proofs.YthjpgnmpcllolaaDoor
open Go.RowKit Go.ChangeShapes
set_option linter.unusedVariables false

set_option maxRecDepth 100000 in
set_option maxHeartbeats 2000000 in
theorem LentRows_any {F : Nat → Prop} {v : Value} {P : List (List UInt8)} (w : World) (hP : RowsIn F w v P) (hn : P.length ≤ 6000) (hM : ∀ X ∈ P, X.length ≤ 1000000000) :
    Calls Tryd.prog 10 #[v] w fun e w' => ∃ u, e = .returned u ∧ LentRowsAt w.heap.size w' u P ∧ Fr (fun _ => False) w w' := by
  obtain ⟨ao, cap, rfl, h1, h2, h3, h4⟩ := hP
  obtain ⟨n, hnn⟩ : ∃ n, n = P.length := ⟨_, rfl⟩
  rw [← hnn] at h1 hn ⊢
  have HI := Lib.hid (And.intro hM h4)
  have HN := Lib.hid hnn
  clear h3 h4 hnn hM
  go_enter Tryd.func10, Tryd.ntmps10
  go_wp2_with fail
  go_loopw [3, 4] (fun gv iv wr => ∃ i : Nat, i ≤ n ∧ iv = .int .i64 i ∧ Hid (LentRowsAt w.heap.size wr gv (P.take i) ∧ Fr (fun _ => False) w wr)) (fun _ iv _ => n - (intOf iv).toNat)
  case atStart => exact ⟨0, by omega, rfl, Lib.hid ⟨LentRowsAt.nil _ _, Fr.refl _ _⟩⟩
  case round =>
    obtain ⟨i, hi, rfl, hR⟩ := hrel
    by_cases hlt : i < n
    · obtain ⟨b, off, hao, hFb, hx⟩ := HI.out.2 (by intro e; have := HN.out; rw [e] at this; simp at this; omega)
      obtain ⟨y, hy1, hy2⟩ := hx i (by rw [← HN.out]; exact hlt)
      subst hao
      have hyc := hR.out.2.cell hy1 (fun h => h)
      have HE := Lib.hid (show P.take (i + 1) = P.take i ++ [P[i]'(by rw [← HN.out]; exact hlt)] from List.take_succ_eq_append_getElem (by rw [← HN.out]; exact hlt))
      have hb := HI.out.1 P[i] (List.getElem_mem _)
      have HC := Lib.hid (LentBytes_any y P[i] wr (hy2.keep hR.out.2 (fun _ _ _ h => h)) hb)
      obtain ⟨L, hL⟩ : ∃ L, L = P[i]'(by rw [← HN.out]; exact hlt) := ⟨_, rfl⟩
      rw [← hL] at HE HC
      obtain ⟨⟨vs, hvl, hvo, hvi⟩, hfr⟩ := hR.out
      have hpi : (P.take i).length = i := by rw [List.length_take, ← HN.out]; omega
      rw [hpi] at hvo
      have hvl' : vs.length = i := hvl.trans hpi
      obtain ⟨av, cv, hv, _, _, hvg⟩ := ownsRow_form hvo
      subst hv
      have hgw : ∀ k, (Value.slice av i cv).ownBlock = some k → k < wr.heap.size := fun k hk => by
        rcases hvo.2 with ⟨e, _⟩ | ⟨g', cap', cur', e, _, hg', _⟩
        · rw [e] at hk; simp [Value.ownBlock] at hk
        · rw [e] at hk; simp only [Value.ownBlock, Option.some.injEq] at hk; have := lt_of_block hg'; omega
      have hlb : ∀ k, (Value.slice av i cv).ownBlock = some k → w.heap.size ≤ k := fun k hk => by
        rcases hvo.2 with ⟨e, _⟩ | ⟨g', cap', cur', e, hb', _⟩
        · rw [e] at hk; simp [Value.ownBlock] at hk
        · rw [e] at hk; simp only [Value.ownBlock, Option.some.injEq] at hk; omega
      have HV_lb := Lib.hid hlb
      clear hlb
      have hvo' : wr.ownsRow w.heap.size 38 1 (.slice av i cv) vs.length vs := by rw [hvl']; exact hvo
      have HV := Lib.hid (And.intro hvo' (And.intro hfr (And.intro hgw (And.intro hvl hvi))))
      have hsz := hfr.size
      have HVL := Lib.hid hvl'
      clear hx hy1 hy2 hL hR hvl hvo hvo' hvi hfr hvg hb hgw hvl' hpi
      have hvs : vs.length ≤ 1000000 := by have := HVL.out; omega
      go_wp2_with (first
        | (go_at_call 21; refine HC.out.mono ?_; rintro e w1 ⟨g, c, rfl, hl1, hf1⟩; have HF1 := Lib.hid (hf1.alloc (.cells #[.slice (some ⟨g, 0, none⟩) L.length c] 38)); have HO1 := Lib.hid (ownsRow_keep HV.out.1 HF1.out (fun _ _ h => h)); have HL1 := Lib.hid (And.intro (hl1.keep_ (S := fun _ => False) ((Fr.refl _ w1).alloc (.cells #[.slice (some ⟨g, 0, none⟩) L.length c] 38)) (fun h => h)) (And.intro hl1.lt hf1.size)); have HC1 := Lib.hid (cell_of_one (heap_alloc_new w1 (.cells #[.slice (some ⟨g, 0, none⟩) L.length c] 38))); have hs1 := hf1.size; clear hl1 hf1)
        | (at_builtin; refine wpList_append_val w.heap.size _ rfl (.tmp 11) (.tmp 17) rfl (.slice av i cv) (.slice (some ⟨g, 0, none⟩) L.length c) vs w1.heap.size rfl rfl HO1.out HC1.out rfl hvs (by simp; omega) ?_; intro v5 w5 ho5 hg5 hb5; have HS5 : Hid (LentRowsAt w.heap.size w5 v5 (P.take (i + 1)) ∧ Fr (fun _ => False) w w5) := Lib.hid ⟨by rw [HE.out]; exact LentRowsAt.snoc HV.out.2.2.2.1 HV.out.2.2.2.2 HF1.out (HL1.out.1.mono_ (fun k h => by omega)) (by simp; have := HL1.out.2.1; omega) (fun e => by have h1 := HV.out.2.2.1 _ e; have h2 := HL1.out.1.2.2.2 g rfl; omega) ho5 hg5 hb5, (HV.out.2.1.trans HF1.out (fun _ h => h.elim)).grown hg5 (fun k hk => .inr (HV_lb.out k hk))⟩; clear ho5 hg5 hb5)
        | fail)
      go_roundw
      case rel => exact ⟨i + 1, by omega, by go_num, HS5⟩
      case measure => simp [intOf]; omega
    · have HR := Lib.hid (show LentRowsAt w.heap.size wr u3 P ∧ Fr (fun _ => False) w wr by
        have h := hR.out
        rwa [List.take_of_length_le (by rw [← HN.out]; omega)] at h)
      clear hR
      go_wp2
      go_ret
      exact ⟨_, rfl, HR.out⟩

set_option maxRecDepth 100000 in
set_option maxHeartbeats 2000000 in
theorem KeptRows_any {F : Nat → Prop} {z : Nat} {u v : Value} {P : List (List UInt8)} (w : World) (hU : LentRowsAt z w u P) (hP : RowsIn F w v P) (hM : ∀ X ∈ P, X.length ≤ 1000000000) :
    Calls Tryd.prog 13 #[u, v] w fun e w' => e = .returned (.bool true) ∧ ∃ q, w' = w.drewN q := by
  obtain ⟨ao, cap, rfl, h1, h2, h3, h4⟩ := hP
  obtain ⟨vs, hvl, hvo, hvi⟩ := hU
  obtain ⟨av, cv, rfl, k1, k2, k3⟩ := ownsRow_form hvo
  obtain ⟨n, hnn⟩ : ∃ n, n = P.length := ⟨_, rfl⟩
  rw [← hnn] at h1 k1 k3 ⊢
  have HI := Lib.hid (And.intro hM h4)
  have HV := Lib.hid (And.intro k3 (And.intro hvl hvi))
  have HN := Lib.hid hnn
  clear h3 h4 hnn hM k3 hvl hvi hvo
  go_enter Tryd.func13, Tryd.ntmps13
  go_wp2_with fail
  go_loopw [5] (fun iv wr => ∃ i : Nat, i ≤ n ∧ iv = .int .i64 i ∧ Hid (∃ q, wr = w.drewN q)) (fun iv _ => n - (intOf iv).toNat)
  case atStart => exact ⟨0, by omega, rfl, Lib.hid ⟨0, rfl⟩⟩
  case round =>
    obtain ⟨i, hi, rfl, hR⟩ := hrel
    have hlt' : i < n ∨ ¬ i < n := by omega
    rcases hlt' with hlt | hlt
    · obtain ⟨b, off, hao, hFb, hx⟩ := HI.out.2 (by intro e; have := HN.out; rw [e] at this; simp at this; omega)
      obtain ⟨y, hy1, hy2⟩ := hx i (by rw [← HN.out]; exact hlt)
      subst hao
      obtain ⟨gr, hav, _, _, hc⟩ := HV.out.1 (by omega)
      subst hav
      obtain ⟨g, c, e1, e2, e3, _⟩ := HV.out.2.2 i (by rw [HV.out.2.1, ← HN.out]; exact hlt) (by rw [← HN.out]; exact hlt)
      have hci := hc i (by rw [HV.out.2.1, ← HN.out]; exact hlt)
      rw [e1] at hci
      have hb := HI.out.1 P[i] (List.getElem_mem _)
      obtain ⟨L, hL⟩ : ∃ L, L = P[i]'(by rw [← HN.out]; exact hlt) := ⟨_, rfl⟩
      rw [← hL] at hci hb hy2 e3
      have hcr : wr.cell? ⟨gr, i, none⟩ = some (.slice (some ⟨g, 0, none⟩) L.length c) := by obtain ⟨q, rfl⟩ := hR.out; exact hci
      have hcy : wr.cell? ⟨b, off + i, none⟩ = some y := by obtain ⟨q, rfl⟩ := hR.out; exact hy1
      have hfr : ∀ q', Fr (fun _ => False) w (wr.drewN q') := fun q' => by obtain ⟨q, rfl⟩ := hR.out; exact ((Fr.refl _ w).drewN q).drewN q'
      have HC := Lib.hid (fun q' => KeptBytes_any y g c L (wr.drewN q') (hy2.keep (hfr q') (fun _ _ _ h => h)) (e3.keep_ (hfr q') (fun h => h)) hb)
      obtain ⟨ay, cy, rfl, _⟩ := hy2
      obtain ⟨l, hl⟩ : ∃ l, l = L.length := ⟨_, rfl⟩
      rw [← hl] at hcr hcy HC
      have hi1 : (i : Int) < (n : Int) := by omega
      have hi0 : (0 : Int) ≤ (i : Int) := by omega
      clear hx hy1 hL hc hci e1 e2 e3 hb hl hfr
      go_wp2_with fail
      go_quiet ((go_at_call 26; exact Calls.quiet_of (HC.out _)))
      go_wp2
      go_roundw
      case rel => exact ⟨i + 1, by omega, by go_num, Lib.hid (by obtain ⟨q, rfl⟩ := hR.out; exact ⟨q + nq, World.drewN_drewN ..⟩)⟩
      case measure => simp [intOf]; omega
    · have HR := hR
      clear hR
      go_wp2
      go_ret
      exact ⟨rfl, HR.out⟩
end Go.Proofs.YthjpgnmpcllolaaDoor
