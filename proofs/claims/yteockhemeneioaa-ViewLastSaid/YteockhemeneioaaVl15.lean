/- Laid together: VNew -/
import Derived.Test.YteockhemeneioaaVl11

namespace Go.Proofs.Yteockhemeneioaa
open Go.RowKit Go.ChangeShapes
set_option linter.unusedVariables false
theorem OwnE.atBlock {T : TypeId} {k z : Nat} {w : World} {v : Value} {css : List (List Value)} (h : OwnE T k z w v css) (hk : 0 < k) (hne : css ≠ []) : ∃ g, z ≤ g ∧ g < w.heap.size ∧ Elems k (fun b => b = g) w v css ∧ v.ownBlock = some g := by
  rcases h.row.2 with ⟨hv, h0⟩ | ⟨g, cap, cur, hv, hb, hg, r⟩
  · exact absurd (List.eq_nil_of_length_eq_zero h0) hne
  · have hob : v.ownBlock = some g := by rw [hv]; rfl
    exact ⟨g, hb, lt_of_block hg, h.elems.mono hk (fun b _ e => by rw [hob] at e; exact (Option.some.inj e).symm), hob⟩
section
set_option maxRecDepth 100000
set_option maxHeartbeats 1000000
theorem copyQ_any {F : Nat → Prop} (w : World) (v : Value) (Q : List Qt) (hQ : QsIn F w v Q) (hl : Q.length ≤ 100000) :
    Calls Try.prog 33 #[v] w fun e w' => ∃ v', e = .returned v' ∧ OwnE 38 4 w.heap.size w' v' (Q.map qC) ∧ Fr (fun _ => False) w w' := by
  have HQ := Lib.hid hQ
  obtain ⟨ao, cap, rfl, _⟩ := id hQ.open9
  obtain ⟨n, hn⟩ : ∃ n, n = Q.length := ⟨_, rfl⟩
  rw [← hn] at HQ ⊢
  clear hQ
  go_enter Try.func33, Try.ntmps33
  go_wp2_with (at_builtin; refine wpList_append_e (T := 38) (z := w.heap.size) Try.underlying22 infoQ rfl (by decide) (by decide) w rfl (.const (.slice none 0 0)) (.tmp 3) rfl (.slice none 0 0) _ [] (Q.map qC) rfl rfl (OwnE.nil _ _ _ _) HQ.out (qC_one Q) (Nat.le_refl _) (by simp; omega) ?_; intro v5 w5 ho5 hg5 hb5; (obtain ⟨a5, c5, hv5⟩ := ho5.form); (subst hv5); (have H5 := Lib.hid (And.intro ho5 hg5)); clear ho5 hg5 hb5)
  go_ret
  refine ⟨_, rfl, ?_, (Fr.refl _ w).grown H5.out.2 (fun k hk => by simp [Value.ownBlock] at hk)⟩
  have := H5.out.1
  simpa using this
theorem newR_any (w : World) : Calls Try.prog 34 #[] w fun e w' => e = .returned (.pointer (some ⟨w.heap.size + 2, 0, none⟩)) ∧ BkAt kR 118 (fun _ => False) w' (w.heap.size + 2) w.heap.size (w.heap.size + 1) 0 (fun _ => []) ∧ Fr (fun _ => False) w w' ∧ w'.heap.size = w.heap.size + 3 := by
  have hmm := @run_makeMap Try.prog
  go_enter Try.func34, Try.ntmps34
  go_wp2
  go_ret
  refine ⟨rfl, ⟨?_, ?_, ?_, fun i => ⟨List.Pairwise.nil, Nat.le_refl _, fun p hp => by cases hp⟩, ⟨by omega, by omega, by omega, id, id, id⟩⟩, (((Fr.refl _ _).alloc _).alloc _).alloc _, by simp⟩
  · have := heap_alloc_new ((w.alloc (.map #[] 0)).alloc (.map #[] 0)) (.cells #[.map (some w.heap.size), .map (some (w.heap.size + 1))] 118)
    simpa using this
  · exact (ThAt.made (K := kR) (fun _ => False) w).keep (S := fun _ => False) (((Fr.refl _ _).alloc _).alloc _) id (fun _ _ _ h => h)
  · have := (MnAt.made (w.alloc (.map #[] 0))).keep (S := fun _ => False) ((Fr.refl _ _).alloc (.cells #[.map (some w.heap.size), .map (some (w.heap.size + 1))] 118)) id
    simpa using this
theorem newN_any (w : World) : Calls Try.prog 35 #[] w fun e w' => e = .returned (.pointer (some ⟨w.heap.size + 2, 0, none⟩)) ∧ BkAt kN 121 (fun _ => False) w' (w.heap.size + 2) w.heap.size (w.heap.size + 1) 0 (fun _ => []) ∧ Fr (fun _ => False) w w' ∧ w'.heap.size = w.heap.size + 3 := by
  have hmm := @run_makeMap Try.prog
  go_enter Try.func35, Try.ntmps35
  go_wp2
  go_ret
  refine ⟨rfl, ⟨?_, ?_, ?_, fun i => ⟨List.Pairwise.nil, Nat.le_refl _, fun p hp => by cases hp⟩, ⟨by omega, by omega, by omega, id, id, id⟩⟩, (((Fr.refl _ _).alloc _).alloc _).alloc _, by simp⟩
  · have := heap_alloc_new ((w.alloc (.map #[] 0)).alloc (.map #[] 0)) (.cells #[.map (some w.heap.size), .map (some (w.heap.size + 1))] 121)
    simpa using this
  · exact (ThAt.made (K := kN) (fun _ => False) w).keep (S := fun _ => False) (((Fr.refl _ _).alloc _).alloc _) id (fun _ _ _ h => h)
  · have := (MnAt.made (w.alloc (.map #[] 0))).keep (S := fun _ => False) ((Fr.refl _ _).alloc (.cells #[.map (some w.heap.size), .map (some (w.heap.size + 1))] 121)) id
    simpa using this
theorem new_yes {F : Nat → Prop} (w : World) (v : Value) (Q : List Qt) (hQ : QsIn F w v Q) (hok : okQs Q = true) :
    Calls Try.prog 10 #[v] w fun e w' => ∃ a : VA, e = .returned (.tuple #[.pointer (some ⟨a.vb, 0, none⟩), .int .i64 0]) ∧ VwAt (fun _ => False) w' a 0 ⟨Q, fun _ => [], fun _ => []⟩ ∧ (∀ k ∈ a.all, w.heap.size ≤ k ∧ k < w'.heap.size) ∧ Fr (fun _ => False) w w' := by
  have ha := areRight_any w v Q hQ
  rw [hok] at ha
  have HA := Lib.hid ha
  have hq := okQs_iff hok
  have HQ := Lib.hid (And.intro hQ (And.intro hq hok))
  obtain ⟨ao, cap, rfl, _⟩ := id hQ.open9
  clear ha hQ hok hq
  go_enter Try.func10, Try.ntmps10
  go_wp2_with (first
    | (go_at_call 32; refine HA.out.mono ?_; rintro e w1 ⟨rfl, hf1⟩; (have H1 := Lib.hid hf1); clear hf1)
    | (go_at_call 33; refine (copyQ_any w1 _ Q (HQ.out.1.quiet H1.out) (by have := HQ.out.2.1.2.2; omega)).mono ?_; rintro e w2 ⟨v2, rfl, ho2, hf2⟩; (obtain ⟨a2, c2, hv2⟩ := ho2.form); (subst hv2); (have H2 := Lib.hid (And.intro ho2 (And.intro hf2 (H1.out.trans hf2 (fun _ h => h.elim))))); clear ho2 hf2)
    | (go_at_call 34; refine (newR_any w2).mono ?_; rintro e w3 ⟨rfl, hb3, hf3, hz3⟩; (have H3 := Lib.hid (And.intro hb3 (And.intro hf3 hz3))); clear hb3 hf3 hz3)
    | (go_at_call 35; refine (newN_any w3).mono ?_; rintro e w4 ⟨rfl, hb4, hf4, hz4⟩; (have H4 := Lib.hid (And.intro hb4 (And.intro hf4 hz4))); clear hb4 hf4 hz4))
  go_ret2
  obtain ⟨qb, hq1, hq2, hq3, _⟩ := H2.out.1.atBlock (by decide) (by
    intro e
    have := HQ.out.2.1.2.1
    rw [List.map_eq_nil_iff] at e
    rw [e] at this
    simp at this)
  rw [List.length_map] at hq3
  have hz1 := H1.out.size
  have hz2 := H2.out.2.1.size
  have hz3 := H3.out.2.2
  have hz4 := H4.out.2.2
  have hfa : Fr (fun _ => False) w4 (w4.alloc (.cells #[.slice a2 Q.length c2, .pointer (some ⟨w2.heap.size + 2, 0, none⟩), .pointer (some ⟨w3.heap.size + 2, 0, none⟩), .pointer (some ⟨w4.heap.size, 0, none⟩)] 83)) := (Fr.refl _ _).alloc _
  have hf23 := H3.out.2.1
  have hf34 := H4.out.2.1
  refine ⟨⟨w4.heap.size, qb, w2.heap.size + 2, w2.heap.size, w2.heap.size + 1, w3.heap.size + 2, w3.heap.size, w3.heap.size + 1⟩, rfl, ⟨⟨_, heap_alloc_new w4 _, ?_⟩, H3.out.1.quiet (hf34.trans hfa (fun _ h => h.elim)), H4.out.1.quiet hfa, HQ.out.2.2, fun i hi => ?_, ?_, fun _ _ h => h⟩, ?_, ((H2.out.2.2.trans hf23 (fun _ h => h.elim)).trans hf34 (fun _ h => h.elim)).trans hfa (fun _ h => h.elim)⟩
  · exact QsIn.quiet hq3 ((hf23.trans hf34 (fun _ h => h.elim)).trans hfa (fun _ h => h.elim))
  · have hb := okQ_bounds (HQ.out.2.1.1 _ (List.getElem_mem hi))
    exact ⟨by simpa using hb.2.2.1.1, by simpa using hb.2.2.2.1⟩
  · simp only [VA.all, List.nodup_cons, List.mem_cons, List.not_mem_nil, or_false, not_or, List.nodup_nil, and_true, not_false_eq_true]
    omega
  · intro k hk
    simp only [VA.all, List.mem_cons, List.not_mem_nil, or_false] at hk
    have hs : (w4.alloc (.cells #[.slice a2 Q.length c2, .pointer (some ⟨w2.heap.size + 2, 0, none⟩), .pointer (some ⟨w3.heap.size + 2, 0, none⟩), .pointer (some ⟨w4.heap.size, 0, none⟩)] 83)).heap.size = w4.heap.size + 1 := by simp
    rw [hs]
    omega
end
end Go.Proofs.Yteockhemeneioaa
