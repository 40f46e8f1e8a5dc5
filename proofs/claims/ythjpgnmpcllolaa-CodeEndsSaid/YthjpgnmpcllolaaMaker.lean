/- Contracts of code.Maker: what is put, what is told. -/
import Derived.Test.YthjpgnmpcllolaaClone
import Derived.Deep.RegionLaw
namespace Go.Proofs.Ythjpgnmpcllolaa
open Go.RowKit Go.ChangeShapes
set_option linter.unusedVariables false

/-- At block b lies a maker: broken (none), or with bytes L; all that is its own lies in blocks of F. -/
def MakAt (F : Nat → Prop) (w : World) (b : Nat) (m : Option (List UInt8)) : Prop :=
  F b ∧ ∃ T : TypeId, match m with
    | none => ∃ hv o, w.heap[b]? = some (.cells #[hv, .int .i64 o, .bool true] T (0, 0))
    | some L => (L = [] ∧ w.heap[b]? = some (.cells #[.pointer none, .int .i64 0, .bool false] T (0, 0))) ∨
        ∃ h sv, h ≠ b ∧ F h ∧ w.heap[b]? = some (.cells #[.pointer (some ⟨h, 0, none⟩), .int .i64 L.length, .bool false] T (0, 0)) ∧
          w.heap[h]? = some (.cells #[sv] 32 (0, 0)) ∧ OwnB (fun k => F k ∧ k ≠ b ∧ k ≠ h) w sv L

theorem MakAt.keep {F S : Nat → Prop} {w w' : World} {b : Nat} {m : Option (List UInt8)} (h : MakAt F w b m) (hf : Fr S w w') (hd : ∀ k, k < w.heap.size → F k → ¬ S k) : MakAt F w' b m := by
  obtain ⟨h1, T, h2⟩ := h
  refine ⟨h1, T, ?_⟩
  cases m with
  | none =>
    obtain ⟨hv, o, h3⟩ := h2
    exact ⟨hv, o, hf.heap h3 (hd _ (lt_of_block h3) h1)⟩
  | some L =>
    rcases h2 with ⟨h3, h4⟩ | ⟨hb, sv, h3, h4, h5, h6, h7⟩
    · exact .inl ⟨h3, hf.heap h4 (hd _ (lt_of_block h4) h1)⟩
    · exact .inr ⟨hb, sv, h3, h4, hf.heap h5 (hd _ (lt_of_block h5) h1), hf.heap h6 (hd _ (lt_of_block h6) h4), h7.keep hf (fun k hk hF => hd k hk hF.1)⟩

theorem MakAt.mono {F G : Nat → Prop} {w : World} {b : Nat} {m : Option (List UInt8)} (h : MakAt F w b m) (hd : ∀ k, k < w.heap.size → F k → G k) : MakAt G w b m := by
  obtain ⟨h1, T, h2⟩ := h
  have hb : b < w.heap.size := by
    cases m with
    | none => obtain ⟨hv, o, h3⟩ := h2; exact lt_of_block h3
    | some L => rcases h2 with ⟨h3, h4⟩ | ⟨hb, sv, h3, h4, h5, h6, h7⟩; exact lt_of_block h4; exact lt_of_block h5
  refine ⟨hd _ hb h1, T, ?_⟩
  cases m with
  | none => exact h2
  | some L =>
    rcases h2 with ⟨h3, h4⟩ | ⟨hb, sv, h3, h4, h5, h6, h7⟩
    · exact .inl ⟨h3, h4⟩
    · exact .inr ⟨hb, sv, h3, hd _ (lt_of_block h6) h4, h5, h6, h7.mono fun k hk h => ⟨hd k hk h.1, h.2⟩⟩

theorem mak_cells {w : World} {b : Nat} {x y z : Value} {T : TypeId} (h1 : w.heap[b]? = some (.cells #[x, y, z] T (0, 0))) :
    w.cell? ⟨b, 0, none⟩ = some x ∧ w.cell? ⟨b, 1, none⟩ = some y ∧ w.cell? ⟨b, 2, none⟩ = some z ∧ w.frozen? ⟨b, 0, none⟩ = false ∧ w.frozen? ⟨b, 1, none⟩ = false ∧ w.frozen? ⟨b, 2, none⟩ = false :=
  ⟨by simp [World.cell?, h1], by simp [World.cell?, h1], by simp [World.cell?, h1], by simp [World.frozen?, h1], by simp [World.frozen?, h1], by simp [World.frozen?, h1]⟩

theorem grown_heap {w w1 : World} {row : Option Nat} {k : Nat} {o : Obj} (hg : w.grownBy w1 row) (h : w.heap[k]? = some o) (hk : row ≠ some k) : w1.heap[k]? = some o := by
  rw [hg.block k (lt_of_block h) (fun e => hk e.symm), h]

/-- What put leaves: the new value in the place of its own, the new length. -/
theorem MakAt.put {F : Nat → Prop} {w w1 : World} {b h : Nat} {sv v' : Value} {L M : List UInt8} {T : TypeId} (hF : ∀ k, w.heap.size ≤ k → F k) (hlt : b < w.heap.size) (hlth : h < w.heap.size)
    (hb : w1.heap[b]? = some (.cells #[.pointer (some ⟨h, 0, none⟩), .int .i64 L.length, .bool false] T (0, 0))) (hh : w1.heap[h]? = some (.cells #[sv] 32 (0, 0)))
    (hne : h ≠ b) (hFb : F b) (hFh : F h) (hown : OwnB (fun k => (F k ∧ k ≠ b ∧ k ≠ h) ∨ w.heap.size ≤ k) w1 v' M) (n : Int) (hn : n = M.length) :
    MakAt F ((w1.setCell ⟨h, 0, none⟩ v').setCell ⟨b, 1, none⟩ (.int .i64 n)) b (some M) := by
  refine ⟨hFb, T, .inr ⟨h, v', hne, hFh, ?_, ?_, ?_⟩⟩
  · have h1 : (w1.setCell ⟨h, 0, none⟩ v').heap[b]? = w1.heap[b]? := Below.heap_setCell _ _ _ _ (by simpa using Ne.symm hne)
    have := heap_setCell_at (i := 1) (.int .i64 n) (h1.trans hb)
    rw [this, hn]
    simp
  · rw [Below.heap_setCell _ _ _ _ (by simpa using hne)]
    have := heap_setCell_at (i := 0) v' hh
    rw [this]
    simp
  · have h2 : OwnB (fun k => F k ∧ k ≠ b ∧ k ≠ h) w1 v' M := hown.mono fun k hk hh => by
      rcases hh with hh | hh
      · exact hh
      · exact ⟨hF k hh, by omega, by omega⟩
    refine h2.keep (S := fun k => k = b ∨ k = h) (((Fr.refl _ _).setCell (p := ⟨h, 0, none⟩) (.inl (.inr rfl)) _).setCell (p := ⟨b, 1, none⟩) (.inl (.inl rfl)) _) (fun k _ hk hs => ?_)
    rcases hs with hs | hs
    · exact hk.2.1 hs
    · exact hk.2.2 hs

theorem put_frame {F : Nat → Prop} {w w1 : World} {b h : Nat} {sv v' u : Value} {L : List UInt8} (hFb : F b) (hFh : F h) (hown : OwnB (fun k => F k ∧ k ≠ b ∧ k ≠ h) w sv L) {n : Nat} (hgr : (w.drewN n).grownBy w1 sv.ownBlock) :
    Fr F w ((w1.setCell ⟨h, 0, none⟩ v').setCell ⟨b, 1, none⟩ u) :=
  (((((Fr.refl F w).drewN n).grown hgr (fun k hk => .inl (hown.2 k hk).1)).setCell (p := ⟨h, 0, none⟩) (.inl hFh) _).setCell (p := ⟨b, 1, none⟩) (.inl hFb) _)

set_option maxHeartbeats 1000000 in
/-- put, where the pile has a place of its own. -/
theorem put_held {F G : Nat → Prop} {b h : Nat} {sv x : Value} {L X : List UInt8} {T : TypeId} (w : World) (hF : ∀ k, w.heap.size ≤ k → F k)
    (hb : w.heap[b]? = some (.cells #[.pointer (some ⟨h, 0, none⟩), .int .i64 L.length, .bool false] T (0, 0))) (hh : w.heap[h]? = some (.cells #[sv] 32 (0, 0)))
    (hne : h ≠ b) (hFb : F b) (hFh : F h) (hown : OwnB (fun k => F k ∧ k ≠ b ∧ k ≠ h) w sv L) (hx : BytesIn G w x X) (hlen : L.length + X.length ≤ 140737488355328) :
    Calls Try.prog 35 #[.pointer (some ⟨b, 0, none⟩), x] w fun r w' => r = .returned (.tuple #[]) ∧ Fr F w w' ∧ MakAt F w' b (some (L ++ X)) := by
  obtain ⟨c0, c1, c2, f0, f1, f2⟩ := mak_cells hb
  have d0 := cell_of_one hh
  have e0 := free_of_one hh
  obtain ⟨ao, cap, rfl⟩ := hown.len
  have hlb : ((L.length : Int) != (L.length : Int)) = false := by simp
  have hltb := lt_of_block hb
  have hlth := lt_of_block hh
  have hnb : (Value.slice ao L.length cap).ownBlock ≠ some b := fun e => (hown.2 b e).2.1 rfl
  have hnh : (Value.slice ao L.length cap).ownBlock ≠ some h := fun e => (hown.2 h e).2.2 rfl
  have HF := Lib.hid hF
  have hne' : ¬ b = h := Ne.symm hne
  clear hF
  go_enter Try.func35, Try.ntmps35
  go_wp2_with fail
  go_quiet (fail)
  go_wp2_with fail
  go_region_law (refine step_append_bytes (F := fun k => F k ∧ k ≠ b ∧ k ≠ h) (G := G) rfl (.tmp 43) (.tmp 44) rfl (.slice ao L.length cap) x L X (by simp [Act.eval]) (by simp [Act.eval]) hown hx hlen ?_; intro v' w1 hown' hgr hnil; have hb1 := grown_heap hgr hb hnb; have hh1 := grown_heap hgr hh hnh; obtain ⟨g0, g1, g2, k0, k1, k2⟩ := mak_cells hb1; have g4 := cell_of_one hh1; have k4 := free_of_one hh1; obtain ⟨ao', cap', rfl⟩ := hown'.len; rw [List.length_append] at hown'; have HO := Lib.hid hown'; have HG := Lib.hid hgr; clear hnil hown' hgr)
  all_goals
    go_wp2
    go_end0
    exact ⟨rfl, put_frame hFb hFh hown HG.out, MakAt.put HF.out hltb hlth hb1 hh1 hne hFb hFh HO.out _ (by simp)⟩

/-- gathered, of a pile that has no place of its own. -/
theorem gathered_nil {b : Nat} {T : TypeId} {y z : Value} (w : World) (hb : w.heap[b]? = some (.cells #[.pointer none, y, z] T (0, 0))) :
    Calls Try.prog 38 #[.pointer (some ⟨b, 0, none⟩)] w fun r w' => r = .returned (.slice none 0 0) ∧ w = w' := by
  obtain ⟨c0, c1, c2, f0, f1, f2⟩ := mak_cells hb
  clear hb
  go_enter Try.func38, Try.ntmps38
  go_wp2
  go_ret
  exact ⟨rfl, rfl⟩

theorem gathered_held {F : Nat → Prop} {b h : Nat} {T : TypeId} {sv z : Value} {L : List UInt8} (w : World) (hb : w.heap[b]? = some (.cells #[.pointer (some ⟨h, 0, none⟩), .int .i64 L.length, z] T (0, 0)))
    (hh : w.heap[h]? = some (.cells #[sv] 32 (0, 0))) (hown : OwnB F w sv L) :
    Calls Try.prog 38 #[.pointer (some ⟨b, 0, none⟩)] w fun r w' => ∃ v, r = .returned v ∧ (∃ n, w' = w.drewN n) ∧ BytesIn F w v L := by
  obtain ⟨c0, c1, c2, f0, f1, f2⟩ := mak_cells hb
  have d0 := cell_of_one hh
  obtain ⟨ao, cap, rfl, hl, hm, h2⟩ := hown.bytes
  have HB := Lib.hid hown.bytes
  clear hown h2 hb hh
  unfold maxLen at hm
  go_enter Try.func38, Try.ntmps38
  go_wp2_with fail
  go_quiet (fail)
  go_wp2
  go_ret
  exact ⟨_, rfl, ⟨_, rfl⟩, HB.out⟩

theorem clone_nil (w : World) :
    Calls Try.prog 37 #[.slice none 0 0] w fun e w' => e = .returned (.slice none 0 0) ∧ w = w' := by
  have qn := fun (w : World) a n c => Lib.run_eql_slice_nil (P := Try.prog) w 32 5 a n c 0 0 Try.underlying32
  go_enter Try.func37, Try.ntmps37
  go_wp2
  go_ret
  exact ⟨rfl, rfl⟩

set_option maxHeartbeats 1000000 in
/-- put, where the pile has no place of its own yet. -/
theorem put_fresh {F G : Nat → Prop} {b : Nat} {x : Value} {X : List UInt8} {T : TypeId} (w : World) (hF : ∀ k, w.heap.size ≤ k → F k) (hG : ∀ k, G k → ¬ F k)
    (hb : w.heap[b]? = some (.cells #[.pointer none, .int .i64 0, .bool false] T (0, 0))) (hFb : F b) (hx : BytesIn G w x X) (hlen : X.length ≤ 140737488355328) :
    Calls Try.prog 35 #[.pointer (some ⟨b, 0, none⟩), x] w fun r w' => r = .returned (.tuple #[]) ∧ Fr F w w' ∧ MakAt F w' b (some X) := by
  obtain ⟨c0, c1, c2, f0, f1, f2⟩ := mak_cells hb
  have hltb := lt_of_block hb
  have HF := Lib.hid hF
  clear hF
  go_enter Try.func35, Try.ntmps35
  go_wp2_with fail
  go_quiet (fail)
  have hfr0 := (Fr.refl F w).drewN nq
  have hb' : (w.drewN nq).heap[b]? = _ := hb
  have hx' : BytesIn G (w.drewN nq) x X := hx
  have HF' : Hid (∀ k, (w.drewN nq).heap.size ≤ k → F k) := HF
  have hltb' : b < (w.drewN nq).heap.size := hltb
  clear hb hx HF hltb c0 c1 c2 f0 f1 f2
  generalize w.drewN nq = W at hfr0 hb' hx' HF' hltb' ⊢
  obtain ⟨c0, c1, c2, f0, f1, f2⟩ := mak_cells hb'
  have H0 := Lib.hid hfr0
  clear hfr0
  go_wp2_with (first
    | (go_at_call 38; refine (gathered_nil _ (by exact hb')).mono ?_; rintro e w' ⟨rfl, rfl⟩)
    | (go_at_call 37; refine (clone_nil _).mono ?_; rintro e w' ⟨rfl, rfl⟩))
  obtain ⟨W2, hW2⟩ : ∃ W2, W2 = (W.setCell ⟨b, 0, none⟩ (.pointer (some ⟨W.heap.size, 0, none⟩))).alloc (.cells #[.slice none 0 0] 32) := ⟨_, rfl⟩
  obtain ⟨h, hh⟩ : ∃ h, h = W.heap.size := ⟨_, rfl⟩
  have hne : h ≠ b := by omega
  have hFh : F h := HF'.out h (by omega)
  have hfr2 : Fr F w W2 := by rw [hW2]; exact (H0.out.setCell (p := ⟨b, 0, none⟩) (.inl hFb) _).alloc _
  have hsz : W2.heap.size = W.heap.size + 1 := by rw [hW2]; simp [World.setCell]
  have hb2 : W2.heap[b]? = some (.cells #[.pointer (some ⟨h, 0, none⟩), .int .i64 0, .bool false] T (0, 0)) := by
    rw [hW2, Below.heap_alloc _ _ _ (by simpa [World.setCell] using hltb'), heap_setCell_at _ hb', hh]
    simp
  have hh2 : W2.heap[h]? = some (.cells #[.slice none 0 0] 32 (0, 0)) := by
    rw [hW2, hh]
    have := heap_alloc_new (W.setCell ⟨b, 0, none⟩ (.pointer (some ⟨W.heap.size, 0, none⟩))) (.cells #[.slice none 0 0] 32)
    simpa [World.setCell] using this
  have hx2 : BytesIn G W2 x X := hx'.keep (S := F) (by rw [hW2]; exact ((Fr.refl F W).setCell (p := ⟨b, 0, none⟩) (.inl hFb) _).alloc _) (fun k _ => hG k)
  have HF2 := Lib.hid (show ∀ k, W2.heap.size ≤ k → F k from fun k hk => HF'.out k (by omega))
  have hlt2 := lt_of_block hb2
  have hlth2 := lt_of_block hh2
  rw [← hW2, ← hh]
  clear hW2 hh hb' hx' HF' hltb' c0 c1 c2 f0 f1 f2 H0 hsz
  have H0 := Lib.hid hfr2
  clear hfr2
  obtain ⟨c0, c1, c2, f0, f1, f2⟩ := mak_cells hb2
  have d0 := cell_of_one hh2
  have e0 := free_of_one hh2
  have hne' : ¬ b = h := Ne.symm hne
  have hnb : (Value.slice none 0 0).ownBlock ≠ some b := fun e => by cases e
  have hnh : (Value.slice none 0 0).ownBlock ≠ some h := fun e => by cases e
  have hown : OwnB (fun k => F k ∧ k ≠ b ∧ k ≠ h) W2 (.slice none 0 0) [] := OwnB.nil _ _
  go_region_law (refine step_append_bytes (F := fun k => F k ∧ k ≠ b ∧ k ≠ h) (G := G) rfl (.tmp 43) (.tmp 44) rfl (.slice none 0 0) x [] X (by simp [Act.eval]) (by simp [Act.eval]) hown hx2 (by simpa using hlen) ?_; intro v' w1 hown' hgr hnil; have hb1 := grown_heap hgr hb2 hnb; have hh1 := grown_heap hgr hh2 hnh; obtain ⟨g0, g1, g2, k0, k1, k2⟩ := mak_cells hb1; have g4 := cell_of_one hh1; have k4 := free_of_one hh1; obtain ⟨ao', cap', rfl⟩ := hown'.len; rw [List.nil_append] at hown'; have HO := Lib.hid hown'; have HG := Lib.hid hgr; clear hnil hown' hgr)
  all_goals
    go_wp2
    go_end0
    exact ⟨rfl, H0.out.trans (put_frame hFb hFh hown HG.out) (fun i hi => .inl hi), MakAt.put (L := []) HF2.out hlt2 hlth2 hb1 hh1 hne hFb hFh HO.out _ rfl⟩

end Go.Proofs.Ythjpgnmpcllolaa
