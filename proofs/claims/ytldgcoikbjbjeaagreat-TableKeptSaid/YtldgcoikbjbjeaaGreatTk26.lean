/- Laid together: TAll TOf -/
import Derived.Test.YtldgcoikbjbjeaaGreatTk23
import Derived.Test.YtldgcoikbjbjeaaGreatTk25
import Derived.Test.YtldgcoikbjbjeaaGreatTk12

namespace Go.Proofs.YtldgcoikbjbjeaaGreat
open Go.RowKit Go.ChangeShapes Go.Maps Go.WideMaps Go.Shelf
set_option linter.unusedVariables false
attribute [local go_sem] Oper.semAt_some
def NoStr (w : World) (k : Nat) : Prop := ∃ cs T fr, w.heap[k]? = some (.cells cs T fr) ∧ (T = 9 → ∀ s, cs[0]? ≠ some (Value.string s))
theorem NoStr.not {w : World} {k : Nat} (h : NoStr w k) : ¬ StrB w k := by
  rintro ⟨cs, fr, s, h1, h2⟩
  obtain ⟨cs', T, fr', h3, h4⟩ := h
  rw [h1] at h3
  cases h3
  exact h4 rfl s h2
theorem OwnB.nostr {F : Nat → Prop} {w : World} {v : Value} {L : List UInt8} (h : OwnB F w v L) : OwnB (fun k => F k ∧ NoStr w k) w v L := by
  refine ⟨h.1, fun g hg => ⟨h.2 g hg, ?_⟩⟩
  rcases h.1.2 with ⟨rfl, _⟩ | ⟨g', cap, cur, hv, hb, hgg, r⟩
  · simp [Value.ownBlock] at hg
  · rw [hv] at hg
    simp only [Value.ownBlock, Option.some.injEq] at hg
    exact ⟨_, _, _, hg ▸ hgg, fun e => absurd e (by decide)⟩
theorem MkAt.nostr {F : Nat → Prop} {w : World} {b : Nat} {L : Bs} (h : MkAt F w b L) : MkAt (fun k => F k ∧ NoStr w k) w b L := by
  obtain ⟨⟨h1, T, h2⟩, hl⟩ := h
  refine ⟨?_, fun k hk => hl k hk.1⟩
  rcases h2 with ⟨h3, h4⟩ | ⟨hb, sv, h3, h4, h5, h6, h7⟩
  · exact ⟨⟨h1, _, _, _, h4, fun _ s e => by simp at e⟩, T, .inl ⟨h3, h4⟩⟩
  · exact ⟨⟨h1, _, _, _, h5, fun _ s e => by simp at e⟩, T, .inr ⟨hb, sv, h3, ⟨h4, _, _, _, h6, fun e => absurd e (by decide)⟩, h5, h6, h7.nostr.mono (fun k _ hk => ⟨⟨hk.1.1, hk.2⟩, hk.1.2⟩)⟩⟩
theorem NoStr.keep {S : Nat → Prop} {A B : World} {k : Nat} (h : NoStr A k) (hf : Fr S A B) (hs : ¬ S k) : NoStr B k := by
  obtain ⟨cs, T, fr, h1, h2⟩ := h
  exact ⟨cs, T, fr, hf.heap h1 hs, h2⟩
structure AccM (T : Nat → Prop) (b Bt : Nat) (n : Nat) (W0 : World) (pre : List (Bs × Bs)) (W : World) : Prop where
  ex : ∃ F : Nat → Prop, MkAt F W b (numBytes 5 n ++ pre.flatMap rowB) ∧ (∀ k, F k → T k) ∧ ∀ k, F k → NoStr W k
  box : W.heap[Bt]? = some (.cells #[.pointer (some ⟨b, 0, none⟩)] 141 (0, 0))
  fr : Fr T W0 W
theorem ownFrom_accM {β : Type} {T : Nat → Prop} {n0 b Bt n : Nat} {W0 : World} (f : β → List (Bs × Bs)) (hT : ∀ k, n0 ≤ k → T k) : OwnFrom n0 (fun (s : β) W => AccM T b Bt n W0 (f s) W) := fun s A B row h hg hr => by
  obtain ⟨F, h1, h2, h3⟩ := h.ex
  have hf : Fr (fun k => row = some k) A B := (Fr.refl _ A).grown hg (fun k hk => .inl hk)
  have hn : ∀ k, row = some k → ∀ cs T fr, A.heap[k]? ≠ some (.cells cs T fr) := fun k hk cs T' fr e => by
    obtain ⟨_, o, ho, hc⟩ := hr k hk
    rw [e] at ho
    cases ho
    cases hc
  have hd : ∀ k, F k → row ≠ some k := fun k hk e => by
    obtain ⟨cs, T', fr, h4, _⟩ := h3 k hk
    exact hn k e _ _ _ h4
  exact ⟨⟨F, h1.keep hf hd, h2, fun k hk => (h3 k hk).keep hf (hd k hk)⟩, hf.heap h.box (fun hs => hn _ hs _ _ _ h.box), h.fr.trans hf (fun k hk => .inl (hT k (hr k hk).1))⟩
theorem flat_le {α : Type} (f : α → Bs) (c : Nat) : ∀ (l : List α), (∀ x ∈ l, (f x).length ≤ c) → (l.flatMap f).length ≤ c * l.length
  | [], _ => by simp
  | x :: l, h => by
    have h1 := flat_le f c l (fun y hy => h y (List.mem_cons_of_mem _ hy))
    have h2 := h x List.mem_cons_self
    rw [List.flatMap_cons, List.length_append, List.length_cons]
    have e : c * (l.length + 1) = c * l.length + c := by rw [Nat.mul_add]; omega
    omega
theorem rowB_le {p : Bs × Bs} (h : keyOk p.1 ∧ p.2.length ≤ 2048) : (rowB p).length ≤ 2200 := by
  have n1 := (numBytes_len 5 p.1.length).2
  have n2 := (numBytes_len 5 p.2.length).2
  have := h.1.2
  unfold rowB
  rw [List.length_append, recB_len, recB_len]; omega
theorem hasPrefix_nil (s : Bs) : Lib.hasPrefix s [] = true := by simp [Lib.hasPrefix]
theorem rowsO_all {M : Tab} (hM : Tab.Ok M) : (keysO M []).map rowO = M := by
  rw [rowsO_map hM]
  exact List.filter_eq_self.2 (fun p _ => hasPrefix_nil _)
set_option maxRecDepth 100000 in
set_option maxHeartbeats 4000000 in
theorem tBytes_in {F : Nat → Prop} {tb mb : Nat} {M : Tab} {Tt : TypeId} {rest : List Value} (w : World) (h : RwAt F w tb mb M Tt rest) (hF : ∀ k, F k → k < w.heap.size) :
    CallsIn Fence.wide 3 Tryz.prog 76 #[.pointer (some ⟨tb, 0, none⟩)] w fun e w' => ∃ ao c, e = .returned (.slice ao (rowsB M).length c) ∧ OwnB (fun k => w.heap.size ≤ k) w' (.slice ao (rowsB M).length c) (rowsB M) ∧ Fr (fun _ => False) w w' := by
  obtain ⟨n, hn⟩ : ∃ n, n = M.length := ⟨_, rfl⟩
  have hsm := h.small
  have hok := h.ok
  have hlt := h.lt
  obtain ⟨W1, hW1⟩ : ∃ W1, W1 = w.alloc (.cells #[.pointer none, .int .i64 0, .bool false] 146) := ⟨_, rfl⟩
  obtain ⟨W2, hW2⟩ : ∃ W2, W2 = W1.alloc (.cells #[.int .i64 n] 3) := ⟨_, rfl⟩
  have hf1 : Fr (fun _ => False) w W1 := by rw [hW1]; exact (Fr.refl _ _).alloc _
  have hf12 : Fr (fun _ => False) W1 W2 := by rw [hW2]; exact (Fr.refl _ _).alloc _
  have hf2 := hf1.trans hf12 (fun _ h => h.elim)
  have hz1 : W1.heap.size = w.heap.size + 1 := by rw [hW1]; simp
  have hs2 : W2.cell? ⟨W1.heap.size, 0, none⟩ = some (.int .i64 n) := by rw [hW2]; exact cell_of_one (heap_alloc_new W1 _)
  have hm0 : MkAt (fun k => k = w.heap.size) W1 w.heap.size [] := by rw [hW1]; exact MkAt.new w _
  have HNUM := Lib.hid (WideF.out.calls (n := 2) (mkNum_any (hm0.keep hf12 (fun _ _ h => h)) n (by omega) hs2 (by simp)))
  have HMANY := Lib.hid (WideF.out.calls (n := 2) (many_any W1 (h.quiet hf1)))
  rw [← hn] at HMANY
  have HW := Lib.hid (And.intro hW1 (And.intro hW2 hf2))
  have HALL := Lib.hid (And.intro h (And.intro hF (And.intro hok (And.intro hlt (And.intro hn hsm)))))
  clear hW1 hW2 hf1 hf12 hf2 hz1 hs2 hm0 h hF hok hlt hn hsm
  refine callsIn_of_wp_marks Tryz.func76 rfl trivial ?_ rfl
  simp only [Tryz.ntmps76, List.size_toArray, List.length_cons, List.length_nil, Nat.reduceAdd, Nat.reduceSub, Array.replicate_succ, Array.replicate_zero, List.push_toArray, List.append_toArray, List.nil_append, List.cons_append]
  gi_wp2_with (first
    | (refine ⟨trivial, ?_⟩; gi_at_call 42; rw [← HW.out.1]; refine HMANY.out.mono ?_; rintro e w0 ⟨rfl, rfl⟩)
    | (refine ⟨trivial, ?_⟩; gi_at_call 79; rw [← HW.out.2.1]; refine HNUM.out.mono ?_; rintro e w1 ⟨rfl, hf1, hm1⟩; (have H1 := Lib.hid (And.intro hm1 (HW.out.2.2.trans hf1 (fun k hk => .inr (by rw [show k = w.heap.size from hk]; exact Nat.le_refl _))))); clear hf1 hm1)
    | (refine ⟨trivial, ?_⟩; gi_at_call 44; refine (WideF.out.calls (n := 2) (ordered_any _ tb ⟨#[]⟩)).mono ?_; rintro e w2 ⟨rfl, rfl⟩))
  obtain ⟨z, hz⟩ : ∃ z, z = w0.heap.size := ⟨_, rfl⟩
  rw [← hz]
  obtain ⟨h, hF, hok, hlt, hn, hsm⟩ := HALL.out
  obtain ⟨hm1, hfw1⟩ := H1.out
  rw [List.nil_append] at hm1
  have hzW2 : w.heap.size ≤ W2.heap.size := HW.out.2.2.size
  have hzw1 : w.heap.size ≤ w1.heap.size := hfw1.size
  have hbl : w.heap.size < w1.heap.size := by obtain ⟨hh, _⟩ := hm1; exact hh.1.2
  obtain ⟨W0, hW0⟩ : ∃ W0, W0 = ((w1.alloc (.cells #[.pointer (some ⟨w.heap.size, 0, none⟩)] 141)).alloc (.cells #[.pointer (some ⟨tb, 0, none⟩)] 125)).alloc (.cells #[.string ⟨#[]⟩] 9) := ⟨_, rfl⟩
  have hsz : W0.heap.size = w1.heap.size + 3 := by rw [hW0]; simp
  have hf10 : Fr (fun _ => False) w1 W0 := by rw [hW0]; exact (((Fr.refl _ _).alloc _).alloc _).alloc _
  have hf0 : Fr (fun _ => False) w W0 := hfw1.trans hf10 (fun _ h => h.elim)
  have hbt : W0.heap[w1.heap.size]? = some (.cells #[.pointer (some ⟨w.heap.size, 0, none⟩)] 141 (0, 0)) := by
    rw [hW0]
    exact (((Fr.refl (fun _ => False) _).alloc _).alloc _).heap (heap_alloc_new w1 _) id
  have hb1 : W0.heap[w1.heap.size + 1]? = some (.cells #[.pointer (some ⟨tb, 0, none⟩)] 125 (0, 0)) := by
    rw [hW0]
    exact ((Fr.refl (fun _ => False) _).alloc _).heap (heap_alloc2_new w1 _ _) id
  have hb2 : W0.heap[w1.heap.size + 1 + 1]? = some (.cells #[.string ⟨#[]⟩] 9 (0, 0)) := by
    rw [hW0]
    have := heap_alloc2_new (w1.alloc (.cells #[.pointer (some ⟨w.heap.size, 0, none⟩)] 141)) (.cells #[.pointer (some ⟨tb, 0, none⟩)] 125) (.cells #[.string ⟨#[]⟩] 9)
    simpa using this
  rw [← hW0]
  obtain ⟨D, val, hown, hval⟩ := h.tm.vals
  obtain ⟨T, hT⟩ : ∃ T : Nat → Prop, T = fun b => Grow (fun k => k = w.heap.size) W2 w1 b ∨ W0.heap.size ≤ b := ⟨_, rfl⟩
  have hT0 : ∀ k, W0.heap.size ≤ k → T k := fun k hk => by rw [hT]; exact .inr hk
  have hTl : ∀ k, T k → w.heap.size ≤ k := fun k h1 => by
    rw [hT] at h1
    rcases h1 with h1 | h1
    · rcases h1.1 with h2 | h2
      · have h2' : k = w.heap.size := h2; omega
      · omega
    · omega
  have hTh : ∀ k, T k → k < w1.heap.size ∨ W0.heap.size ≤ k := fun k h1 => by
    rw [hT] at h1
    rcases h1 with h1 | h1
    · exact .inl h1.2
    · exact .inr h1
  have hIt : ItO F tb mb M Tt rest ⟨#[]⟩ (w1.heap.size + 1) (w1.heap.size + 1 + 1) M.length D W0 :=
    ⟨cell_of_row _ _ _ _ _ _ hb1, cell_of_row _ _ _ _ _ _ hb2, h.quiet hf0, ownsMap_kept6 hown hf0 id⟩
  have hFT : ∀ k, F k → ¬ T k := fun k hk ht => by have := hF k hk; have := hTl k ht; omega
  have hKb : ∀ (W : World) (l : Nat) (o o' : Obj), W0.heap.size ≤ l → W.heap[l]? = some o → o.isCells = false → o.isWalk = false → Kp6 T W (W.putObj l o') := fun W l o o' hl ho hc _ =>
    Kp6.of (S := (· = l)) (fr_putObj W l o' rfl) (fun k _ (e : k = l) => by rw [e]; exact hT0 l hl) (fun k hk (e : k = l) => by
      obtain ⟨cs, fr, s, h1, _⟩ := hk
      rw [e, ho] at h1
      cases h1
      cases hc)
  have hacc0 : AccM T w.heap.size w1.heap.size n W0 [] W0 := ⟨⟨fun k => Grow (fun k => k = w.heap.size) W2 w1 k ∧ NoStr w1 k, by simpa using (hm1.nostr.keep hf10 (fun _ _ h => h)), fun k hk => by rw [hT]; exact .inl hk.1, fun k hk => hk.2.keep hf10 id⟩, hbt, Fr.refl _ _⟩
  have hpre : ∀ pre : List (KeyO M), ((pre.map rowO).flatMap rowB).length ≤ 2200 * pre.length := fun pre => by
    have h1 := flat_le rowB 2200 (pre.map rowO) (fun p hp => by
      obtain ⟨x, _, rfl⟩ := List.mem_map.1 hp
      exact rowB_le (hok.2 _ (tGet_mem (getO_eq x))))
    rwa [List.length_map] at h1
  refine wpIn_rangeFunc_ownH rfl (by decide) (gf := 81) (lb := #[.pointer (some ⟨w1.heap.size + 1, 0, none⟩), .pointer (some ⟨w1.heap.size + 1 + 1, 0, none⟩)]) rfl trivial (enters_of Tryz.func81 (by kernel_rfl) rfl)
    (ordered_stops (T := T) (F := F) 2 (w1.heap.size + 1) (w1.heap.size + 1 + 1) tb mb M.length M _ _ ⟨#[]⟩ D val (fun k b hb => (hval k b hb).1) (fun ht => by have := hTh _ ht; omega) (fun ht => by have := hTh _ ht; omega) (fun ht => by have := hTl _ ht; omega) (fun ht => by have := hTl _ ht; omega) hFT W0 (fun k hk => by have := hF k hk; omega) hIt)
    (fun h k => h.trans k) hKb (Below.refl _ _) (fun _ => rfl)
    (fun (pre : List (KeyO M)) W => AccM T w.heap.size w1.heap.size n W0 (pre.map rowO) W)
    (fun _ _ _ => False)
    (ownFrom_accM (fun (pre : List (KeyO M)) => pre.map rowO) hT0)
    (fun _ _ _ _ _ hs _ _ => hs)
    hacc0
    (fun x a' W => a' = { tmps := #[.pointer (some ⟨tb, 0, none⟩), undef, .slice none 0 0, .pointer (some ⟨w1.heap.size, 0, none⟩), encStr x.1, val x.1, undef, undef, .agg #[.pointer none, .int .i64 0, .bool false], .pointer (some ⟨w.heap.size, 0, none⟩), .pointer (some ⟨tb, 0, none⟩), .int .i64 n, .slice (some ⟨z, 0, none⟩) 1 1, .pointer (some ⟨w.heap.size, 0, none⟩), .pointer (some ⟨tb, 0, none⟩), .func (.func 81) #[] #[.pointer (some ⟨w1.heap.size + 1, 0, none⟩), .pointer (some ⟨w1.heap.size + 1 + 1, 0, none⟩)], encStr x.1, val x.1, undef, undef, undef, undef, undef, undef, undef, undef, undef, undef, undef, undef], defers := [] })
    (fun x a' s A B row hs hg hr => hs)
    ?assign ?body ?done ?stop
  case assign =>
    rintro l pre x W K hi hK
    simp only [encO]
    have HK := Lib.hid hK
    have HI := Lib.hid hi
    clear hK hi hn hz
    gi_wp2
    exact HK.out _ _ (keepsFrom_fr (S := fun _ => False) (Fr.refl _ W) (fun _ h => h.elim)) ⟨Fr.refl _ _, fun _ _ => rfl⟩ HI.out rfl
  case body =>
    rintro l pre x a' W hll ⟨r, hr⟩ hi rfl hlt2
    obtain ⟨⟨Fk, hM, hFk, hNk⟩, hb, hfr⟩ := hi
    have hxk := hok.2 _ (tGet_mem (getO_eq x))
    have hx1 : x.1.length ≤ 64 := hxk.1.2
    have hx2 : (getO x).length ≤ 2048 := hxk.2
    have hbx : BytesIn F W (val x.1) (getO x) := ((hval x.1 (getO x) (getO_eq x)).2.keep hf0 (fun _ _ _ h => h)).keep hfr (fun k _ hk => hFT k hk)
    have hcell : ∀ W', Fr (fun _ => False) W W' → W'.cell? ⟨w1.heap.size, 0, none⟩ = some (.pointer (some ⟨w.heap.size, 0, none⟩)) := fun W' hf => cell_of_one (hf.heap hb id)
    obtain ⟨ax, nx, cx, hvx⟩ : ∃ a n c, val x.1 = .slice a n c := by obtain ⟨a, c, e, _⟩ := hbx; exact ⟨a, _, c, e⟩
    have hlen : (numBytes 5 n ++ (pre.map rowO).flatMap rowB).length ≤ 1000000000 := by
      have h1 := hpre pre
      have h2 := (numBytes_len 5 n).2
      have h3 : pre.length < 100000 := Nat.lt_of_lt_of_le hlt2 (Nat.le_trans (keysP_le M []) hsm)
      rw [List.length_append]
      omega
    obtain ⟨c3, W3, hrun, hf3, hb3, hz3⟩ := run_tag W ⟨x.1.toArray⟩ (by show x.1.toArray.size ≤ maxLen; unfold maxLen; simp; omega)
    obtain ⟨W4, hW4⟩ : ∃ W4, W4 = W3.alloc (.cells #[.slice (some ⟨W.heap.size, 0, none⟩) (⟨x.1.toArray⟩ : ByteArray).size c3, .slice ax nx cx] 43) := ⟨_, rfl⟩
    have hf4 : Fr (fun _ => False) W3 W4 := by rw [hW4]; exact (Fr.refl _ _).alloc _
    have hB0 := hf3.trans hf4 (fun _ h => h.elim)
    have hgr : W4.heap[W3.heap.size]? = some (.cells #[.slice (some ⟨W.heap.size, 0, none⟩) (⟨x.1.toArray⟩ : ByteArray).size c3, .slice ax nx cx] 43 (0, 0)) := by rw [hW4]; exact heap_alloc_new W3 _
    have hMa := hM.keep hB0 (fun _ _ h => h)
    have hgF : ¬ Fk W3.heap.size := fun hh => by have := hM.lt _ hh; omega
    have hbx4 := hbx.keep hB0 (fun _ _ _ h => h)
    rw [hvx] at hbx4
    have hcall := mkText2_any (G := fun k => k = W.heap.size ∨ F k) hMa (cell_of_row _ _ _ _ _ _ hgr) (cell_of_row _ _ _ _ _ _ hgr) hgF ((hb3.keep hf4 (fun _ _ _ h => h)).mono (G := fun k => k = W.heap.size ∨ F k) (fun _ _ h => .inl h)) (hbx4.mono (fun _ _ h => Or.inr h)) (fun k _ hk hh => by
      rcases hk with hk | hk
      · have := hM.lt k hh; omega
      · exact hFT k hk (hFk k hh)) (by show x.1.toArray.toList.length ≤ 1048576; rw [List.toList_toArray]; omega) (show (getO x).length ≤ 1048576 by omega) hlen
    have hc3 := hcell W (Fr.refl _ _)
    have HC := Lib.hid ((WideF.round l).calls (n := 0) hcall)
    have HX := Lib.hid (And.intro hM (And.intro hFk (And.intro hNk (And.intro hb (And.intro hfr (And.intro hB0 (And.intro hf3.size hz3)))))))
    have HW4 := Lib.hid hW4
    obtain ⟨nk, hnk⟩ : ∃ nk, nk = (⟨x.1.toArray⟩ : ByteArray).size := ⟨_, rfl⟩
    rw [hvx]
    simp only [encStr]
    rw [← hnk] at hrun HW4
    clear hM hFk hNk hb hfr hbx hxk hcell hlen hf3 hb3 hz3 hf4 hW4 hB0 hgr hMa hgF hcall hnk hn hz hx1 hx2 hbx4
    gi_wp2_with (refine ⟨trivial, ?_⟩; gi_at_call 105; rw [← HW4.out]; refine HC.out.mono ?_; rintro e w4 ⟨rfl, hf4, hm4⟩; (have H4 := Lib.hid (And.intro hf4 hm4)); clear hf4 hm4)
    obtain ⟨hM, hFk, hNk, hb, hfr, hB0, hz3a, hz3⟩ := HX.out
    have hall : Fr Fk W w4 := (hB0.mono (T := Fk) (fun _ _ h => h.elim)).trans H4.out.1 (fun _ h => .inl h)
    have hFkc : ∀ k, Fk k → ∀ o, W.heap[k]? = some o → o.isCells = true := fun k hk o ho => by
      obtain ⟨cs, T', fr, h1, _⟩ := hNk k hk
      rw [h1] at ho
      cases ho
      rfl
    refine ⟨⟨hall.size, fun k o _ hk hc => hall.heap hk (fun hs => ?_)⟩, Kp6.of hall (fun k _ hs => hFk k hs) (fun k hk hs => (hNk k hs).not hk), ⟨⟨fun k => Grow Fk W4 w4 k ∧ NoStr w4 k, by simpa [rowO, rowB, List.append_assoc] using H4.out.2.nostr, fun k hk => ?_, fun k hk => hk.2⟩, hall.heap hb (fun hs => ?_), hfr.trans hall (fun k hs => .inl (hFk k hs))⟩⟩
    · have := hFkc k hs o hk
      rw [this] at hc
      cases hc
    · rcases hk.1.1 with h1 | h1
      · exact hFk k h1
      · exact hT0 k (by have := hfr.size; have := hB0.size; omega)
    · have := hTh _ (hFk _ hs)
      omega
  case done =>
    rintro Dl ys W hD rfl hi hK
    obtain ⟨⟨Fk, hM, hFk, hNk⟩, hb, hfr⟩ := hi
    rw [show (⟨#[]⟩ : ByteArray).data.toList = [] from rfl, rowsO_all hok.1, hn] at hM
    have hM2 : MkAt Fk W w.heap.size (rowsB M) := hM
    have hlen : (rowsB M).length ≤ 1000000000 := by
      have h1 := tSum_le hok.2
      have h2 := (numBytes_len 5 M.length).2
      rw [rowsB_length]
      unfold tLen
      omega
    have hcell : W.cell? ⟨w1.heap.size, 0, none⟩ = some (.pointer (some ⟨w.heap.size, 0, none⟩)) := cell_of_one hb
    have HD := Lib.hid (WideF.out.calls (n := 2) (mkDone_any hM2 hlen))
    have HX := Lib.hid hfr
    have HHK := Lib.hid hK
    clear hM hM2 hlen hfr hb hK hFk hNk hn hz
    gi_wp2_with (refine ⟨trivial, ?_⟩; gi_at_call 80; refine HD.out.mono ?_; rintro e w5 ⟨ao5, c5, rfl, hf5, ho5⟩; (have H5 := Lib.hid (And.intro hf5 ho5)); clear hf5 ho5)
    have hK5 := H5.out.1.heap HHK.out id
    refine ⟨by simp, .inl ⟨_, _, rfl, run_takeDeferred hK5, ?_⟩⟩
    have hfd := fr_putObj (T := (· = Dl)) w5 Dl (.deferred none) rfl
    have hz5 := H5.out.1.size
    have hzx := HX.out.size
    refine ⟨_, results_tmp rfl _ _ _, ao5, c5, rfl, (H5.out.2.mono (G := fun k => W.heap.size ≤ k ∧ k ≠ Dl) (fun k _ (hk : W.heap.size ≤ k) => ⟨hk, fun e => by have := lt_of_block HHK.out; omega⟩)).keep hfd (fun k _ hk e => hk.2 e) |>.mono (fun k _ hk => by have := hk.1; omega), ?_⟩
    exact ((hf0.trans (S := fun _ => False) HX.out (fun k hk => .inr (hTl k hk))).trans H5.out.1 (fun _ h => h.elim)).trans hfd (fun k (hk : k = Dl) => .inr (by omega))
  case stop =>
    rintro Dl c pre W _ _ h _
    exact h.elim
end Go.Proofs.YtldgcoikbjbjeaaGreat
namespace Go.Proofs.YtldgcoikbjbjeaaGreat
open Go.RowKit Go.ChangeShapes Go.Maps Go.WideMaps
set_option linter.unusedVariables false
theorem tPut_last (M : Tab) (p : Bs × Bs) (h : ∀ q ∈ M, q.1 < p.1) : tPut M p.1 p.2 = M ++ [p] := by
  induction M with
  | nil => rfl
  | cons q M ih =>
    have h1 := h q List.mem_cons_self
    have h2 := ih (fun x hx => h x (List.mem_cons_of_mem _ hx))
    have h3 : ¬ p.1 < q.1 := fun h4 => List.lt_irrefl _ (List.lt_trans h1 h4)
    rw [tPut, if_neg h3, if_neg (bs_ne h1), h2]
    rfl
theorem tGet_above (M : Tab) (k : Bs) (h : ∀ q ∈ M, q.1 < k) : tGet M k = none := tGet_none.2 (fun p hp e => bs_ne (h p hp) e)
theorem run_mkmap6 (W : World) : (Instr.makeMap 79 none).run Tryz.prog W = .ok (.map (some W.heap.size)) (W.alloc (.map #[] 0)) := by kernel_rfl
def lastK (M : Tab) : Bs := (M.getLast?.map (·.1)).getD []
theorem lastK_lt {M : Tab} {k : Bs} (h : ∀ q ∈ M, q.1 < k) (hk : keyOk k) : lastK M < k := by
  unfold lastK
  cases hq : M.getLast? with
  | none =>
    cases k with
    | nil => have := hk.1; simp at this
    | cons a k => exact List.nil_lt_cons a k
  | some q => exact h q (List.mem_of_getLast? hq)
theorem lastK_snoc (M : Tab) (p : Bs × Bs) : lastK (M ++ [p]) = p.1 := by simp [lastK]
def OfPost (M : Tab) (w : World) (e : Ending) (w' : World) : Prop :=
  ∃ mb F, e = .returned (.tuple #[.agg #[.map (some mb), .int .i64 (tSum M : Nat)], .bool true]) ∧ w.heap.size ≤ mb ∧ TMt F w' mb M ∧ ¬ F mb ∧ (∀ k, F k → w.heap.size ≤ k ∧ k < w'.heap.size) ∧ Fr (fun _ => False) w w'
set_option maxRecDepth 100000 in
set_option maxHeartbeats 4000000 in
theorem tableOf_none {G : Nat → Prop} (w : World) (v : Value) (hb : BytesIn G w v []) :
    Calls Tryz.prog 60 #[v] w (OfPost [] w) := by
  obtain ⟨ab, cb, hvb, _⟩ := id hb
  subst hvb
  clear hb
  rw [List.length_nil]
  have hmk := run_mkmap6
  go_enter Tryz.func60, Tryz.ntmps60
  go_wp2
  have hb0 : (((w.alloc (.cells #[.map (some (w.heap.size + 1)), .int .i64 0] 81)).alloc (.map #[] 0)).alloc (.cells #[.map (some (w.heap.size + 1)), .int .i64 0] 81)).heap[w.heap.size]? = some (.cells #[.map (some (w.heap.size + 1)), .int .i64 0] 81 (0, 0)) :=
    (((Fr.refl (fun _ => False) _).alloc _).alloc _).heap (heap_alloc_new w _) id
  have t0 := cell_of_row _ _ 0 _ _ _ hb0
  have t1 := cell_of_row _ _ 1 _ _ _ hb0
  refine bodyPost_ret (v := .tuple #[.agg #[.map (some (w.heap.size + 1)), .int .i64 0], .bool true]) (by simp [results, Tryz.results60, go_sem, t0, t1]) rfl ⟨w.heap.size + 1, fun _ => False, rfl, by omega, ?_, id, fun k hk => hk.elim, (((Fr.refl _ _).alloc _).alloc _).alloc _⟩
  have h1 := TMt.made (fun _ => False) (w.alloc (.cells #[.map (some (w.heap.size + 1)), .int .i64 0] 81))
  have h2 := h1.keep ((Fr.refl (fun _ => False) _).alloc (.cells #[.map (some (w.heap.size + 1)), .int .i64 0] 81)) id (fun _ _ h => h.elim)
  simpa using h2
set_option maxRecDepth 100000 in
set_option maxHeartbeats 4000000 in
theorem tableOf_some {G : Nat → Prop} (w : World) (v : Value) (M : Tab) (hb : BytesIn G w v (rowsB M)) (hM : tabOk M) (hn : M.length ≤ 4000) :
    Calls Tryz.prog 60 #[v] w (OfPost M w) := by
  have hlen : (M.flatMap rowB).length ≤ 10000000 := by have h1 := flat_le rowB 2200 M (fun p hp => rowB_le (hM.2 p hp)); omega
  have hl2 : (rowsB M).length ≤ 20000000 ∧ 0 < (rowsB M).length := by have := numBytes_len 5 M.length; rw [rowsB, List.length_append]; omega
  obtain ⟨ab, cb, hvb, _⟩ := id hb
  subst hvb
  obtain ⟨W3, hW3⟩ : ∃ W3, W3 = ((w.alloc (.cells #[.map none, .int .i64 0] 81)).alloc (.map #[] 0)).alloc (.cells #[.map (some (w.heap.size + 1)), .int .i64 0] 81) := ⟨_, rfl⟩
  have hf3 : Fr (fun _ => False) w W3 := by rw [hW3]; exact (((Fr.refl _ _).alloc _).alloc _).alloc _
  have hov := over_any W3 (hb.keep hf3 (fun _ _ _ h => h)) (by omega)
  obtain ⟨lb, hlb⟩ : ∃ lb, lb = (rowsB M).length := ⟨_, rfl⟩
  rw [← hlb] at hov hl2 ⊢
  have d0 : decide ((lb : Int) = 0) = false := decide_eq_false (by omega)
  obtain ⟨n, hnn⟩ : ∃ n, n = M.length := ⟨_, rfl⟩
  rw [← hnn] at hn
  have HOV := Lib.hid hov
  have HN := Lib.hid hnn
  have HL := Lib.hid (And.intro hM hlen)
  have HW := Lib.hid (And.intro hW3 hf3)
  clear hb hov hlb hnn hM hlen hW3 hf3
  have hmk := run_mkmap6
  go_enter Tryz.func60, Tryz.ntmps60
  go_wp2_with (first
    | (go_at_call 93; rw [← HW.out.1]; refine HOV.out.mono ?_; rintro e w1 ⟨b, rfl, hf1, hb1, hc1⟩; (have H1 := Lib.hid (And.intro hf1 (And.intro hb1 hc1))); clear hf1 hb1 hc1)
    | (go_at_call 94; (have hnum := curNum_any 4000 w1 H1.out.2.2); rw [rowsB, curNum_num _ _ _ (by rw [← HN.out]; omega) (by rw [← HN.out]; omega), ← HN.out] at hnum; refine hnum.mono ?_; rintro e w2 ⟨rfl, hf2, hc2⟩; (have H2 := Lib.hid (And.intro hf2 hc2)); clear hf2 hc2 hnum))
  have hw3 : W3.heap.size = w.heap.size + 3 := by rw [HW.out.1]; simp
  have hz1 := H1.out.1.size
  have hz2 := H2.out.1.size
  have hbw : b < w1.heap.size := H1.out.2.2.lt6
  have hr0 : w2.heap[w.heap.size]? = some (.cells #[.map none, .int .i64 0] 81 (0, 0)) := by
    refine H2.out.1.heap (H1.out.1.heap ?_ id) (fun e => by have e' : w.heap.size = b := e; have := H1.out.2.1; omega)
    rw [HW.out.1]
    exact (((Fr.refl (fun _ => False) _).alloc _).alloc _).heap (heap_alloc_new w _) id
  have hrb : W3.heap[w.heap.size + 1 + 1]? = some (.cells #[.map (some (w.heap.size + 1)), .int .i64 0] 81 (0, 0)) := by
    rw [HW.out.1]
    have := heap_alloc2_new (w.alloc (.cells #[.map none, .int .i64 0] 81)) (.map #[] 0) (.cells #[.map (some (w.heap.size + 1)), .int .i64 0] 81)
    simpa using this
  have hmap : TMt (fun _ => False) W3 (w.heap.size + 1) [] := by
    rw [HW.out.1]
    have h1 := TMt.made (fun _ => False) (w.alloc (.cells #[.map none, .int .i64 0] 81))
    have h2 := h1.keep ((Fr.refl (fun _ => False) _).alloc (.cells #[.map (some (w.heap.size + 1)), .int .i64 0] 81)) id (fun _ _ h => h.elim)
    simpa using h2
  have hRw : RwAt (fun _ => False) w2 (w.heap.size + 1 + 1) (w.heap.size + 1) [] 81 [] :=
    (RwAt.quiet ⟨hrb, hmap, tabOk.nil, by decide, by omega, id, id⟩ H1.out.1).keep H2.out.1 (fun e => by have e' : w.heap.size + 1 + 1 = b := e; have := H1.out.2.1; omega) (fun e => by have e' : w.heap.size + 1 = b := e; have := H1.out.2.1; omega) (fun _ _ h => h.elim)
  have H0 := Lib.hid (And.intro hRw (And.intro hr0 (H2.out.2.mono6 (G := fun k => W3.heap.size ≤ k ∧ k < w2.heap.size ∧ k ≠ b) (fun k hk h => ⟨h.1, hk, h.2⟩) (fun h => h.2.2 rfl))))
  have HZ := Lib.hid (And.intro hw3 (And.intro H1.out.2.1 (And.intro (Nat.lt_of_lt_of_le hbw hz2) (Nat.le_trans hz1 hz2))))
  have HF := Lib.hid ((HW.out.2.trans H1.out.1 (fun _ h => h.elim)).trans H2.out.1 (fun k e => .inr (by have e' : k = b := e; have := H1.out.2.1; omega)))
  clear hw3 hz1 hz2 hbw hr0 hrb hmap hRw H1 H2 HOV HW d0 hmk
  go_loopw [6, 19] (fun lv iv wr => ∃ (i : Nat), i ≤ n ∧ iv = .int .i64 i ∧ lv = .string ⟨(lastK (M.take i)).toArray⟩ ∧ Hid (∃ F : Nat → Prop, RwAt F wr (w.heap.size + 1 + 1) (w.heap.size + 1) (M.take i) 81 [] ∧ (∀ k, F k → w2.heap.size ≤ k ∧ k < wr.heap.size) ∧ CurAt (fun k => W3.heap.size ≤ k ∧ k < w2.heap.size ∧ k ≠ b) wr b ((M.drop i).flatMap rowB) 0 ∧ Fr (fun k => k = w.heap.size + 1 + 1 ∨ k = w.heap.size + 1 ∨ k = b) w2 wr)) (fun _ iv _ => n - (intOf iv).toNat)
  case atStart => exact ⟨0, by omega, rfl, rfl, Lib.hid ⟨fun _ => False, H0.out.1, fun k hk => hk.elim, H0.out.2.2, Fr.refl _ _⟩⟩
  case round =>
    obtain ⟨i, hi, rfl, rfl, hR⟩ := hrel
    obtain ⟨F, hRw, hF, hc, hfr⟩ := hR.out
    by_cases hlt : i < n
    · have hiL : i < M.length := by rw [← HN.out]; exact hlt
      obtain ⟨key, val, hkv⟩ : ∃ key val, M[i] = (key, val) := ⟨_, _, rfl⟩
      have hdr : (M.drop i).flatMap rowB = recB key ++ (recB val ++ (M.drop (i + 1)).flatMap rowB) := by rw [List.drop_eq_getElem_cons hiL, List.flatMap_cons, hkv, rowB, List.append_assoc]
      have htk : M.take (i + 1) = M.take i ++ [(key, val)] := by rw [List.take_succ_eq_append_getElem hiL, hkv]
      have hok : keyOk key ∧ val.length ≤ 2048 := by have := HL.out.1.2 _ (List.getElem_mem hiL); rw [hkv] at this; exact this
      have habove : ∀ q ∈ M.take i, q.1 < key := fun q hq => by
        have h1 := HL.out.1.1
        rw [← List.take_append_drop i M, List.drop_eq_getElem_cons hiL, hkv] at h1
        exact (List.pairwise_append.1 h1).2.2 q hq (key, val) List.mem_cons_self
      have hll : (recB key ++ (recB val ++ (M.drop (i + 1)).flatMap rowB)).length ≤ 10000000 := by
        have h1 : M.flatMap rowB = (M.take i).flatMap rowB ++ (M.drop i).flatMap rowB := by rw [← List.flatMap_append, List.take_append_drop]
        have h2 := HL.out.2
        rw [h1, hdr, List.length_append] at h2
        omega
      have hlast : lastK (M.take i) < key := lastK_lt habove hok.1
      have hlm : (M.take i).length + 1 ≤ 100000 := by rw [List.length_take]; omega
      rw [hdr] at hc
      have HT := Lib.hid (curText_any 64 wr.drew (hc.quiet (Fr.refl (fun _ => False) wr).drew) (by omega))
      have HT2 := Lib.hid (fun (w3 : World) (h3 : CurAt (fun k => W3.heap.size ≤ k ∧ k < w2.heap.size ∧ k ≠ b) w3 b (recB val ++ (M.drop (i + 1)).flatMap rowB) 0) => curText_any 2048 w3 h3 (by rw [List.length_append] at hll; omega))
      have HK := Lib.hid (curText_rec6 64 key (recB val ++ (M.drop (i + 1)).flatMap rowB) (by have := hok.1.2; omega) (by have := hok.1.2; omega))
      have HV := Lib.hid (curText_rec6 2048 val ((M.drop (i + 1)).flatMap rowB) (by have := hok.2; omega) (by have := hok.2; omega))
      obtain ⟨lst, hls⟩ : ∃ l, l = lastK (M.take i) := ⟨_, rfl⟩
      rw [← hls] at hlast ⊢
      have dl : (Op.bytesLess key lst || key == lst) = false := by
        rw [bytesLess_eq, Bool.or_eq_false_iff]
        exact ⟨decide_eq_false (fun h => List.lt_irrefl _ (List.lt_trans hlast h)), by simpa using (bs_ne hlast).symm⟩
      have HS := Lib.hid (And.intro hRw (And.intro hF (And.intro hfr (And.intro htk (And.intro hok (And.intro habove (And.intro hlm hlast)))))))
      clear hR hRw hF hc hfr hkv hdr htk hok habove hll hlast hlm hls H0
      go_wp2_with fail
      have HBR := Lib.hid (show b < wr.heap.size by have := HS.out.2.2.1.size; have := HZ.out.2.2.1; omega)
      go_region_held_law (fun w' => True) (first | trivial | go_keep) (first
        | (go_at_call 98; (with_reducible refine HT.out.mono ?_); rw [HK.out]; rintro e w3 ⟨v3, rfl, hf3, ho3, hc3⟩; (have hcv := run_bytes_str w3 v3 key ho3.bytes); (have H3 := Lib.hid (And.intro ((Fr.refl (fun k => k = b) wr).drew.trans hf3 (fun _ h => .inl h)) (And.intro hc3 (show BytesIn (fun k => wr.heap.size ≤ k) w3 v3 key from ho3.bytes)))); clear hf3 ho3 hc3)
        | (go_at_call 98; (with_reducible refine (HT2.out _ H3.out.2.1).mono ?_); rw [HV.out]; rintro e w4 ⟨v4, rfl, hf4, ho4, hc4⟩; (obtain ⟨a4, c4, rfl⟩ := ho4.len); (have hcv := run_bytes_str w4 v3 key (H3.out.2.2.keep hf4 (fun k _ (hk : wr.heap.size ≤ k) e => by have e' : k = b := e; have := HBR.out; omega))); (have H4 := Lib.hid (And.intro (H3.out.1.trans hf4 (fun _ h => .inl h)) (And.intro hc4 ho4.bytes))); clear hf4 ho4 hc4))
      all_goals (
        go_wp2_with (go_at_call 69; refine (put_any6 w4 (HS.out.1.keep H4.out.1 (fun e => by have e' : w.heap.size + 1 + 1 = b := e; have := HZ.out; omega) (fun e => by have e' : w.heap.size + 1 = b := e; have := HZ.out; omega) (fun k _ hk e => by have e' : k = b := e; have := HS.out.2.1 k hk; have := HZ.out; omega)) ⟨key.toArray⟩ HS.out.2.2.2.2.1.1 (.slice a4 val.length c4) val H4.out.2.2 HS.out.2.2.2.2.1.2 (fun hk => by have hk' : w3.heap.size ≤ w.heap.size + 1 := hk; have := H3.out.1.size; have := HS.out.2.2.1.size; have := HZ.out; omega) (tGet_above _ _ HS.out.2.2.2.2.2.1) HS.out.2.2.2.2.2.2.1).mono ?_; rintro e w5 ⟨rfl, hr5, hf5⟩; (have H5 := Lib.hid (And.intro hr5 hf5)); clear hr5 hf5)
        go_roundw
        case rel =>
          refine ⟨i + 1, by omega, by go_num, by rw [HS.out.2.2.2.1, lastK_snoc], Lib.hid ⟨fun k => F k ∨ (w4.heap.size ≤ k ∧ k < w5.heap.size), ?_, fun k hk => ?_, H4.out.2.1.keep H5.out.2 (fun e => ?_) (fun k _ hk e => ?_), (HS.out.2.2.1.trans H4.out.1 (fun k e => .inl (.inr (.inr e)))).trans H5.out.2 (fun k e => .inl (e.elim .inl (fun e => .inr (.inl e))))⟩⟩
          · have h5 := H5.out.1
            rw [show tPut (M.take i) (⟨key.toArray⟩ : ByteArray).data.toList val = M.take (i + 1) by rw [HS.out.2.2.2.1]; exact tPut_last (M.take i) (key, val) HS.out.2.2.2.2.2.1] at h5
            exact h5
          · have := H5.out.2.size
            have := H4.out.1.size
            have := HS.out.2.2.1.size
            rcases hk with hk | hk
            · have := HS.out.2.1 k hk; omega
            · omega
          · have := HZ.out; omega
          · have := HZ.out; have := hk.1; omega
        case measure => simp [intOf]; omega)
    · obtain rfl : i = n := by omega
      have h0 : M.drop i = [] := List.drop_of_length_le (by rw [← HN.out]; exact Nat.le_refl _)
      have h1 : M.take i = M := List.take_of_length_le (by rw [← HN.out]; exact Nat.le_refl _)
      rw [h0] at hc
      rw [h1] at hRw
      have hen := curEnd_any wr hc
      have hen2 : curEnd (([] : Tab).flatMap rowB) 0 = 0 := rfl
      rw [hen2] at hen
      have HEN := Lib.hid hen
      obtain ⟨k0, k1, _⟩ := hRw.cells
      have hr0 := hfr.heap H0.out.2.1 (fun e => by have := HZ.out; have e' : w.heap.size = w.heap.size + 1 + 1 ∨ w.heap.size = w.heap.size + 1 ∨ w.heap.size = b := e; omega)
      obtain ⟨l0, l1⟩ : wr.cell? ⟨w.heap.size, 0, none⟩ = some (.map none) ∧ wr.cell? ⟨w.heap.size, 1, none⟩ = some (.int .i64 0) := ⟨cell_of_row _ _ _ _ _ _ hr0, cell_of_row _ _ _ _ _ _ hr0⟩
      obtain ⟨z0, z1⟩ : wr.frozen? ⟨w.heap.size, 0, none⟩ = false ∧ wr.frozen? ⟨w.heap.size, 1, none⟩ = false := ⟨frozen_of_row _ _ _ _ _ hr0, frozen_of_row _ _ _ _ _ hr0⟩
      have HS := Lib.hid (And.intro hRw (And.intro hF (And.intro hfr hr0)))
      obtain ⟨ts, hts⟩ : ∃ t, t = tSum M := ⟨_, rfl⟩
      have HTS := Lib.hid hts
      rw [← hts] at k1
      clear hR hRw hF hc hfr h0 h1 hen hen2 hr0 H0 hts
      go_wp2_with (go_at_call 99; refine HEN.out.mono ?_; rintro e w3 ⟨rfl, rfl⟩)
      obtain ⟨W4, hW4⟩ : ∃ W, W = (wr.setCell ⟨w.heap.size, 0, none⟩ (.map (some (w.heap.size + 1)))).setCell ⟨w.heap.size, 1, none⟩ (.int .i64 ts) := ⟨_, rfl⟩
      have hp : W4.heap[w.heap.size]? = some (.cells #[.map (some (w.heap.size + 1)), .int .i64 ts] 81 (0, 0)) := by rw [hW4]; exact cell_put _ (cell_put _ HS.out.2.2.2)
      have hfp : Fr (fun k => k = w.heap.size) wr W4 := by rw [hW4]; exact (Fr.cell1 wr _ 0 _).trans (Fr.cell1 _ _ 1 _) (fun k h => .inl h)
      rw [← hW4]
      have t0 := cell_of_row _ _ 0 _ _ _ hp
      have t1 := cell_of_row _ _ 1 _ _ _ hp
      refine bodyPost_ret (v := .tuple #[.agg #[.map (some (w.heap.size + 1)), .int .i64 ts], .bool true]) (by simp [results, Tryz.results60, go_sem, t0, t1]) rfl ⟨w.heap.size + 1, F, by rw [← HTS.out], by omega, HS.out.1.tm.keep hfp (fun e => by have e' : w.heap.size + 1 = w.heap.size := e; omega) (fun k _ hk e => by have := HS.out.2.1 k hk; have := HZ.out; have e' : k = w.heap.size := e; omega), fun hk => by have := HS.out.2.1 _ hk; have := HZ.out; omega, fun k hk => ⟨by have := HS.out.2.1 k hk; have := HZ.out; omega, by have := HS.out.2.1 k hk; have := hfp.size; omega⟩, ?_⟩
      exact (HF.out.trans HS.out.2.2.1 (fun k e => .inr (by have := HZ.out; omega))).trans hfp (fun k e => .inr (by have e' : k = w.heap.size := e; omega))
end Go.Proofs.YtldgcoikbjbjeaaGreat
