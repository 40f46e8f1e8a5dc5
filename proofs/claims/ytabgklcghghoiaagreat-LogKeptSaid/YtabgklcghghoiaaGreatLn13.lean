/- Laid together by merge.py: Maker3 RefMaker RDev5 RDev6 DSpoil RDev7 Cut64 -/
import Derived.Test.YtabgklcghghoiaaGreatLn12
import Derived.Deep.RegionWith
import Derived.Deep.RegionLawGrows
import Derived.Test.YtabgklcghghoiaaGreatLn4
import Derived.Laws.Tables
import Derived.Test.YtabgklcghghoiaaGreatLn6
import Derived.Test.YtabgklcghghoiaaGreatLn7
import Derived.StillTailTactics
import Derived.Test.YtabgklcghghoiaaGreatLn2
import Derived.Test.YtabgklcghghoiaaGreatLn0

/- Contracts of code.Maker's own calls: Num, Raw, Text (of one each), Done. -/
namespace Go.Proofs.YtabgklcghghoiaaGreat
open Go.RowKit Go.ChangeShapes
set_option linter.unusedVariables false

theorem mkNum_len (n : Int) (m : Option (List UInt8)) : ∀ L, mkNum n m = some L → ∃ L0, m = some L0 ∧ L.length ≤ L0.length + 6 := by
  intro L h
  unfold mkNum at h
  split at h
  · obtain ⟨L0, hL0, rfl⟩ := Option.map_eq_some_iff.1 h
    have := (numBytes_len 5 n.toNat).2
    exact ⟨L0, hL0, by simp; omega⟩
  · cases h

/-- Num of one number. -/
theorem makerNum_any {F : Nat → Prop} {b s : Nat} {m : Option (List UInt8)} (n : Int) (w : World) (hF : ∀ k, w.heap.size ≤ k → F k)
    (hm : MakAt F w b m) (hs : w.cell? ⟨s, 0, none⟩ = some (.int .i64 n)) (hlen : ∀ L, m = some L → L.length + 6 ≤ 140737488355328) :
    Calls Tryz.prog 103 #[.pointer (some ⟨b, 0, none⟩), .slice (some ⟨s, 0, none⟩) 1 1] w fun r w' => r = .returned (.pointer (some ⟨b, 0, none⟩)) ∧ Fr F w w' ∧ MakAt F w' b (mkNum n m) := by
  have HN := Lib.hid (number_all n w hF hm hlen)
  clear hF hm hlen
  go_enter Tryz.func103, Tryz.ntmps103
  go_wp2
  refine wp_loop_rounds 2 ?_
  rw [rounds_succ]
  go_wp2_with (go_at_call 93; refine HN.out.mono ?_; rintro e w1 ⟨rfl, hf1, hM1⟩; have H1 := Lib.hid hf1; have H2 := Lib.hid hM1; clear hf1 hM1)
  rw [rounds_succ]
  go_wp2
  go_ret
  exact ⟨rfl, H1.out, H2.out⟩

/-- Text of one text. -/
theorem makerText_any {F G : Nat → Prop} {b s : Nat} {x : Value} {X : List UInt8} {m : Option (List UInt8)} (w : World) (hF : ∀ k, w.heap.size ≤ k → F k) (hG : ∀ k, G k → ¬ F k)
    (hm : MakAt F w b m) (hs : w.cell? ⟨s, 0, none⟩ = some x) (hx : BytesIn G w x X) (hlen : ∀ L, m = some L → L.length + 6 + X.length ≤ 140737488355328) :
    Calls Tryz.prog 48 #[.pointer (some ⟨b, 0, none⟩), .slice (some ⟨s, 0, none⟩) 1 1] w fun r w' => r = .returned (.pointer (some ⟨b, 0, none⟩)) ∧ Fr F w w' ∧ MakAt F w' b (mkText X m) := by
  have HN := Lib.hid (text_any w hF hG hm hx hlen)
  obtain ⟨ao, cap, rfl, _⟩ := hx
  clear hF hG hm hlen
  go_enter Tryz.func48, Tryz.ntmps48
  go_wp2
  refine wp_loop_rounds 2 ?_
  rw [rounds_succ]
  go_wp2_with (go_at_call 72; refine HN.out.mono ?_; rintro e w1 ⟨rfl, hf1, hM1⟩; have H1 := Lib.hid hf1; have H2 := Lib.hid hM1; clear hf1 hM1)
  rw [rounds_succ]
  go_wp2
  go_ret
  exact ⟨rfl, H1.out, H2.out⟩

/-- Done of a maker that holds. -/
theorem done_yes {F : Nat → Prop} {b : Nat} {L : List UInt8} (w : World) (hm : MakAt F w b (some L)) (hlen : L.length ≤ 140737488355328) :
    Calls Tryz.prog 49 #[.pointer (some ⟨b, 0, none⟩)] w fun r w' => ∃ v, r = .returned (.tuple #[v, .int .i64 0]) ∧ Fr (fun _ => False) w w' ∧ OwnB (fun k => w.heap.size ≤ k) w' v L := by
  obtain ⟨h1, T, h2⟩ := hm
  rcases h2 with ⟨rfl, h4⟩ | ⟨h, sv, hne, hFh, h5, h6, h7⟩
  · obtain ⟨c0, c1, c2, f0, f1, f2⟩ := mak_cells h4
    go_enter Tryz.func49, Tryz.ntmps49
    go_wp2_with (first
      | (go_at_call 74; refine (gathered_nil _ (by exact h4)).mono ?_; rintro e w' ⟨rfl, rfl⟩)
      | (go_at_call 73; refine (clone_nil _).mono ?_; rintro e w' ⟨rfl, rfl⟩))
    go_ret2
    exact ⟨_, rfl, Fr.refl _ _, OwnB.nil _ _⟩
  · obtain ⟨c0, c1, c2, f0, f1, f2⟩ := mak_cells h5
    have HG := Lib.hid (gathered_held w h5 h6 h7)
    clear h5 h6 h7
    go_enter Tryz.func49, Tryz.ntmps49
    go_wp2_with (first
      | (go_at_call 74; refine HG.out.mono ?_; rintro e w' ⟨v, rfl, ⟨k, rfl⟩, hB⟩; have HB := Lib.hid hB; clear hB)
      | (go_at_call 73; refine (clone_any _ (HB.out.drewN k) hlen).mono ?_; rintro e w2 ⟨v2, rfl, hf2, hO⟩; have H1 := Lib.hid hf2; have H2 := Lib.hid hO; clear hf2 hO))
    go_ret2
    exact ⟨_, rfl, H1.out.ofDrewN, H2.out⟩

theorem done_no {F : Nat → Prop} {b : Nat} (w : World) (hm : MakAt F w b none) :
    Calls Tryz.prog 49 #[.pointer (some ⟨b, 0, none⟩)] w fun r w' => r = .returned (.tuple #[.slice none 0 0, .int .i64 2]) ∧ w = w' := by
  obtain ⟨h1, T, hv, o, h3⟩ := hm
  obtain ⟨c0, c1, c2, f0, f1, f2⟩ := mak_cells h3
  clear h3
  go_enter Tryz.func49, Tryz.ntmps49
  go_wp2
  go_ret2
  exact ⟨rfl, rfl⟩

end Go.Proofs.YtabgklcghghoiaaGreat

/- The document's own maker. -/
namespace Go.Proofs.YtabgklcghghoiaaGreat
open Go.RowKit Go.ChangeShapes
set_option linter.unusedVariables false

/-- At block b lies the document's maker: bytes L, broken or not. -/
def RMkAt (F : Nat → Prop) (w : World) (b : Nat) (L : List UInt8) (br : Bool) : Prop :=
  F b ∧ ∃ T v, w.heap[b]? = some (.cells #[v, .bool br] T (0, 0)) ∧ OwnB (fun k => F k ∧ k ≠ b) w v L

theorem RMkAt.keep {F S : Nat → Prop} {w w' : World} {b : Nat} {L : List UInt8} {br : Bool} (h : RMkAt F w b L br) (hf : Fr S w w') (hd : ∀ k, k < w.heap.size → F k → ¬ S k) : RMkAt F w' b L br := by
  obtain ⟨h1, T, v, h2, h3⟩ := h
  exact ⟨h1, T, v, hf.heap h2 (hd _ (lt_of_block h2) h1), h3.keep hf (fun k hk hF => hd k hk hF.1)⟩
theorem RMkAt.mono {F G : Nat → Prop} {w : World} {b : Nat} {L : List UInt8} {br : Bool} (h : RMkAt F w b L br) (hd : ∀ k, k < w.heap.size → F k → G k) : RMkAt G w b L br := by
  obtain ⟨h1, T, v, h2, h3⟩ := h
  exact ⟨hd _ (lt_of_block h2) h1, T, v, h2, h3.mono fun k hk h => ⟨hd k hk h.1, h.2⟩⟩

theorem ref_cells {w : World} {b : Nat} {x y : Value} {T : TypeId} (h1 : w.heap[b]? = some (.cells #[x, y] T (0, 0))) :
    w.cell? ⟨b, 0, none⟩ = some x ∧ w.cell? ⟨b, 1, none⟩ = some y ∧ w.frozen? ⟨b, 0, none⟩ = false ∧ w.frozen? ⟨b, 1, none⟩ = false :=
  ⟨by simp [World.cell?, h1], by simp [World.cell?, h1], by simp [World.frozen?, h1], by simp [World.frozen?, h1]⟩

/-- What append onto its bytes leaves, stored. -/
theorem RMkAt.app {F : Nat → Prop} {w w1 w2 : World} {b : Nat} {L X : List UInt8} {br : Bool} {T : TypeId} {v v' : Value} (hF : ∀ k, w.heap.size ≤ k → F k) (hFb : F b) (hb : w1.heap[b]? = some (.cells #[v, .bool br] T (0, 0)))
    (hown : OwnB (fun k => F k ∧ k ≠ b) w1 v L) (hf : Fr F w w1) (hv : OwnB (fun k => (F k ∧ k ≠ b) ∨ w1.heap.size ≤ k) w2 v' X) (hg : w1.grownBy w2 v.ownBlock) :
    RMkAt F (w2.setCell ⟨b, 0, none⟩ v') b X br ∧ Fr F w (w2.setCell ⟨b, 0, none⟩ v') ∧ w2.cell? ⟨b, 0, none⟩ = some v ∧ w2.frozen? ⟨b, 0, none⟩ = false := by
  have hlt := lt_of_block hb
  have hb2 : w2.heap[b]? = some (.cells #[v, .bool br] T (0, 0)) := grown_heap hg hb (fun e => (hown.2 b e).2 rfl)
  have hvb : ∀ k, v'.ownBlock = some k → F k ∧ k ≠ b := fun k hk => by
    rcases hv.2 k hk with h | h
    · exact h
    · exact ⟨hF k (Nat.le_trans hf.size h), by omega⟩
  refine ⟨⟨hFb, T, v', ?_, ?_⟩, (hf.grown hg (fun k hk => .inl (hown.2 k hk).1)).setCell (p := ⟨b, 0, none⟩) (.inl hFb) _, (ref_cells hb2).1, (ref_cells hb2).2.2.1⟩
  · have := heap_setCell_at (i := 0) v' hb2
    exact this
  · have h1 : OwnB (fun k => F k ∧ k ≠ b) w2 v' X := ⟨hv.1, hvb⟩
    exact h1.keep' (Fr.one w2 b 0 v') (fun k hk e => (hvb k hk).2 e)

theorem RMkAt.broke {F : Nat → Prop} {w : World} {b : Nat} {L : List UInt8} {br : Bool} (h : RMkAt F w b L br) : RMkAt F (w.setCell ⟨b, 1, none⟩ (.bool true)) b L true ∧ Fr F w (w.setCell ⟨b, 1, none⟩ (.bool true)) := by
  obtain ⟨h1, T, v, h2, h3⟩ := h
  refine ⟨⟨h1, T, v, ?_, h3.keep' (Fr.one w b 1 _) (fun k hk e => (h3.2 k hk).2 e)⟩, (Fr.refl F w).setCell (p := ⟨b, 1, none⟩) (.inl h1) _⟩
  have := heap_setCell_at (i := 1) (.bool true) h2
  exact this



set_option maxHeartbeats 2000000 in
set_option maxRecDepth 100000 in
theorem refNum_yes {F : Nat → Prop} {b : Nat} {L : List UInt8} {br : Bool} (n : Nat) (w : World) (hn : n ≤ 1099511627776) (hF : ∀ k, w.heap.size ≤ k → F k) (hm : RMkAt F w b L br) (hlen : L.length + 6 ≤ 140737488355328) :
    Calls Tryz.prog 110 #[.pointer (some ⟨b, 0, none⟩), .int .i64 n] w fun r w' => r = .returned (.tuple #[]) ∧ Fr F w w' ∧ RMkAt F w' b (L ++ numBytes 5 n) br := by
  obtain ⟨hFb, T, v, hb, hown⟩ := hm
  obtain ⟨ao, cap, hv, _⟩ := hown.bytes
  obtain ⟨c0, c1, f0, f1⟩ := ref_cells hb
  have HV := Lib.hid (And.intro hb hown)
  subst hv
  have HL := Lib.hid (show L.length + (numBytes 5 n).length ≤ 140737488355328 by have := (numBytes_len 5 n).2; omega)
  have HF := Lib.hid hF
  have h0 : ¬ ((n : Int) < 0) := by omega
  have h1 : ¬ (1099511627776 < (n : Int)) := by omega
  clear hF hlen hb hown
  go_enter Tryz.func110, Tryz.ntmps110
  go_wp2
  go_region_law (first
    | (refine step_append_bytes (F := fun k => F k ∧ k ≠ b) (G := fun k => w.heap.size ≤ k) rfl (.tmp 17) (.tmp 19) rfl (.slice ao L.length cap) v1 L (numBytes 5 n) (by simp [Act.eval]) (by simp [Act.eval]) H1.out.1 H1.out.2.1 HL.out ?_; intro v' w2 ho5 hg5 hn5; have HR := Lib.hid (RMkAt.app (w := w) HF.out hFb H1.out.2.2.1 H1.out.1 H1.out.2.2.2 ho5 hg5); obtain ⟨_, _, d0, g0⟩ := HR.out; obtain ⟨a5, c5, hv5⟩ := ho5.len; rw [List.length_append] at hv5; subst hv5; clear ho5 hg5 hn5)
    | (go_simp; go_at_call 117; refine (refNumber_any n _ hn).mono ?_; rintro e w1 ⟨v1, rfl, ho1, hf1⟩; have hf1' : Fr (fun _ => False) w w1 := ⟨hf1.os, hf1.tape, hf1.output, hf1.size, hf1.block⟩; have H1 := Lib.hid (And.intro (HV.out.2.keep' hf1' (fun _ _ h => h)) (And.intro (show BytesIn (fun k => w.heap.size ≤ k) w1 v1 (numBytes 5 n) from ho1.bytes) (And.intro (hf1'.heap HV.out.1 (fun h => h)) (hf1'.mono (T := F) (fun _ _ h => h.elim))))); obtain ⟨e0, e1, g5, g6⟩ := ref_cells H1.out.2.2.1; clear ho1 hf1 hf1'))
  all_goals
    refine bodyPost_end (results_none rfl _ _ _) rfl ?_
    exact ⟨rfl, HR.out.2.1, HR.out.1⟩

theorem refNum_no {F : Nat → Prop} {b : Nat} {L : List UInt8} {br : Bool} (n : Int) (w : World) (hn : n < 0 ∨ 1099511627776 < n) (hm : RMkAt F w b L br) :
    Calls Tryz.prog 110 #[.pointer (some ⟨b, 0, none⟩), .int .i64 n] w fun r w' => r = .returned (.tuple #[]) ∧ Fr F w w' ∧ RMkAt F w' b L true := by
  have HR := Lib.hid hm.broke
  obtain ⟨hFb, T, v, hb, hown⟩ := hm
  obtain ⟨c0, c1, f0, f1⟩ := ref_cells hb
  clear hb hown
  by_cases h0 : n < 0
  · clear hn
    go_enter Tryz.func110, Tryz.ntmps110
    go_wp2
    refine bodyPost_ret (results_none rfl _ _ _) rfl ?_
    exact ⟨rfl, HR.out.2, HR.out.1⟩
  · have h1 : 1099511627776 < n := by omega
    clear hn
    go_enter Tryz.func110, Tryz.ntmps110
    go_wp2
    refine bodyPost_ret (results_none rfl _ _ _) rfl ?_
    exact ⟨rfl, HR.out.2, HR.out.1⟩


end Go.Proofs.YtabgklcghghoiaaGreat

/- The document's own device: a pending write more in memory; 64 bytes with noughts behind. -/
namespace Go.Proofs.YtabgklcghghoiaaGreat
open Go.RowKit Go.ChangeShapes
set_option linter.unusedVariables false

theorem flatW_length : ∀ (W : List Pend) (gs : List Nat), gs.length = W.length → (flatW W gs).length = W.length * 2
  | [], [], _ => rfl
  | p :: W, g :: gs, h => by
    rw [flatW, List.length_append, flatW_length W gs (by simpa using h), List.length_cons]
    simp [pendC]
    omega
  | [], g :: gs, h => by simp at h
  | p :: W, [], h => by simp at h
theorem flatW_snoc (p : Pend) (g : Nat) : ∀ (W : List Pend) (gs : List Nat), gs.length = W.length → flatW (W ++ [p]) (gs ++ [g]) = flatW W gs ++ pendC p g
  | [], [], _ => by simp [flatW]
  | q :: W, x :: gs, h => by
    rw [List.cons_append, List.cons_append, flatW, flatW, flatW_snoc p g W gs (by simpa using h), List.append_assoc]
  | [], g :: gs, h => by simp at h
  | p :: W, [], h => by simp at h
theorem flatW_cell : ∀ (W : List Pend) (gs : List Nat) (v : Value), v ∈ flatW W gs → v.oneCell' = true
  | [], _, v, h => by simp [flatW] at h
  | p :: W, [], v, h => by simp [flatW] at h
  | p :: W, g :: gs, v, h => by
    rw [flatW] at h
    rcases List.mem_append.1 h with h | h
    · simp [pendC] at h
      rcases h with rfl | rfl <;> rfl
    · exact flatW_cell W gs v h
theorem Tryz.infoW : (Tryz.prog.info? 157).map (fun i => (i.zero, i.size, i.bytes)) = some (some (.agg #[.int .i64 0, .slice none 0 0]), 2, 32) := by kernel_rfl
/-- append of one pending write, of a slice that was made for it. -/
theorem run_append_pend {F : Nat → Prop} (w : World) (ty : TypeId) (v : Value) (W : List Pend) (p : Pend) (g b : Nat) (hP : PendAt F w v W) (hb : w.heap[b]? = some (.cells (pendC p g).toArray 157 (0, 0))) (hg : BytT w g 5 p.2) (hn : W.length + 1 ≤ 1000000) :
    ∃ v' w', (Builtin.append_ #[116, 116] ty #[v, .slice (some ⟨b, 0, none⟩) 1 1]).run Tryz.prog w = .ok v' w' ∧ PendAt (fun k => F k ∨ w.heap.size ≤ k ∨ k = g) w' v' (W ++ [p]) ∧ w.grownBy w' v.ownBlock ∧ (v'.ownBlock = v.ownBlock ∨ v'.ownBlock = some w.heap.size) := by
  obtain ⟨gs, h1, h2, h3, h4⟩ := hP
  obtain ⟨i0, hi, hz0, hz1, hz2⟩ := info_parts Tryz.infoW
  obtain ⟨v', w', hr, k2, k3, k4, k5⟩ := run_append_own_at (P := Tryz.prog) w 0 116 ty 157 i0 (.agg #[.int .i64 0, .slice none 0 0]) 2 32 Tryz.underlying116 hi hz0 hz1 hz2 rfl (by decide) v W.length _ h2 ⟨b, 0, none⟩ 1 1 (pendC p g)
    rfl (fun j u hu => by
      rw [addr_plain, Nat.zero_add, cell_of_row _ _ _ _ _ _ hb]
      simpa using hu) (fun u hu => by simp [pendC] at hu; rcases hu with rfl | rfl <;> rfl) (by unfold maxLen; omega) (by omega) (Nat.zero_le _)
  have hother : ∀ x L, BytT w x 5 L → v.ownBlock ≠ some x := by
    intro x L hx e
    rcases h2.2 with ⟨hv, _⟩ | ⟨gv, cap, cur, hv, _, hgv, _⟩
    · rw [hv] at e; simp [Value.ownBlock] at e
    · rw [hv] at e
      simp [Value.ownBlock] at e
      subst e
      rw [BytT, hgv] at hx
      simp at hx
  have hkept : ∀ x L, BytT w x 5 L → BytT w' x 5 L := fun x L hx => (k3.block x (lt_of_block hx) (Ne.symm (hother x L hx))).trans hx
  refine ⟨v', w', hr, ⟨gs ++ [g], by simp [h1], ?_, ?_, fun i hi1 hi2 => ?_⟩, k3, k5⟩
  · rw [List.length_append, List.length_singleton, flatW_snoc p g W gs h1]
    exact k2
  · intro x hx
    rcases k5 with k5 | k5
    · exact .inl (h3 x (by rw [← k5, hx]))
    · rw [hx] at k5
      exact .inr (.inl (by have := Option.some.inj k5; omega))
  · by_cases hlt : i < W.length
    · have e1 : (W ++ [p])[i] = W[i] := List.getElem_append_left hlt
      have e2 : (gs ++ [g])[i] = gs[i]'(by omega) := List.getElem_append_left (by omega)
      rw [e1, e2]
      exact ⟨hkept _ _ (h4 i hlt (by omega)).1, .inl (h4 i hlt (by omega)).2⟩
    · have hiW : i = W.length := by simp at hi1; omega
      subst hiW
      have e1 : (W ++ [p])[W.length] = p := by simp
      have e2 : (gs ++ [g])[W.length]'hi2 = g := by simp [← h1]
      rw [e1, e2]
      exact ⟨hkept _ _ hg, .inr (.inr rfl)⟩
end Go.Proofs.YtabgklcghghoiaaGreat

/- The document's own device: Write. -/
namespace Go.Proofs.YtabgklcghghoiaaGreat
open Go.RowKit Go.ChangeShapes
set_option linter.unusedVariables false

set_option maxRecDepth 100000 in
theorem run_copy_full {G : Nat → Prop} (w : World) (ty : TypeId) (gf : Nat) (vb : Value) (b : List UInt8) (hz : BytT w gf 5 (List.replicate 64 0)) (hb : BytesIn G w vb b) (hl : b.length ≤ 64) :
    ∃ v w', (Builtin.copy_ #[37, 37] ty #[.slice (some ⟨gf, 0, none⟩) 64 64, vb]).run Tryz.prog w = .ok v w' ∧ BytT w' gf 5 (full64 b) ∧ Fr (· = gf) w w' := by
  obtain ⟨ao, cap, rfl, h1, h2, h3, h4⟩ := hb
  cases ao with
  | none =>
    have hb0 : b = [] := List.eq_nil_of_length_eq_zero (by have := h3 rfl; omega)
    subst hb0
    obtain rfl := h3 rfl
    exact ⟨_, w, run_copy_nil (P := Tryz.prog) w 37 37 ty 5 ⟨gf, 0, none⟩ 64 64 Tryz.underlying37 (by kernel_rfl), hz, Fr.refl _ _⟩
  | some ad =>
    have hr := run_copy_row (P := Tryz.prog) w 37 37 ty 5 gf 0 64 64 ad b.length cap ((List.replicate 64 (0 : UInt8)).map bv).toArray 5 (b.map bv) Tryz.underlying37 (by kernel_rfl) hz (by rw [List.length_map]; exact (Nat.min_eq_left hl).symm)
      (h4 ad rfl).1 (by simp; exact hl) (bv_one _)
    have e : (((List.replicate 64 (0 : UInt8)).map bv).toArray.toList.take 0 ++ b.map bv ++ ((List.replicate 64 (0 : UInt8)).map bv).toArray.toList.drop (0 + (b.map bv).length)).toArray = ((full64 b).map bv).toArray := by
      rw [full64, List.map_append, List.take_zero, List.nil_append, Nat.zero_add, List.length_map]
      congr 2
      rw [← List.map_drop, List.drop_replicate]
    rw [e] at hr
    exact ⟨_, _, hr, setRow_heap w gf _ _ _ (0, 0) hz, (Fr.refl (· = gf) w).setRow (.inl rfl) _⟩
theorem wpList_copy_full {G : Nat → Prop} (w : World) {ops : Array Oper} {rest : List Oper} {o : Oper} {a : Act} {Q : Exit → Act → World → Prop} (hgd : o.guard = none) (d s : Operand)
    (hop : o.op = Op.call { callee := Callee.builtin Builtin.copy, args := #[d, s], argTypes := #[37, 37] })
    (gf : Nat) (vb : Value) (b : List UInt8) (hd : a.eval d = .slice (some ⟨gf, 0, none⟩) 64 64) (hs : a.eval s = vb) (hz : BytT w gf 5 (List.replicate 64 0)) (hb : BytesIn G w vb b) (hl : b.length ≤ 64)
    (hK : ∀ v' w', BytT w' gf 5 (full64 b) → Fr (· = gf) w w' → wpList Tryz.prog ops Q rest (a.put o.dst v') w') : wpList Tryz.prog ops Q (o :: rest) a w := by
  refine wpList_plain hgd fun K hK' => ?_
  subst hs
  obtain ⟨v', w', hr, h1, h2⟩ := run_copy_full w o.type gf _ b hz hb hl
  unfold Oper.wp
  simp [execOp, hop, resolve, invoke, builtin, hd, hr, Result.andThen]
  exact hK' _ _ (hK v' w' h1 h2)
theorem wpList_append_pend {F : Nat → Prop} (w : World) {ops : Array Oper} {rest : List Oper} {o : Oper} {a : Act} {Q : Exit → Act → World → Prop} (hgd : o.guard = none) (s x : Operand)
    (hop : o.op = Op.call { callee := Callee.builtin Builtin.append, args := #[s, x], argTypes := #[116, 116] })
    (v : Value) (W : List Pend) (p : Pend) (g b : Nat) (hs : a.eval s = v) (hx : a.eval x = .slice (some ⟨b, 0, none⟩) 1 1) (hP : PendAt F w v W) (hb : w.heap[b]? = some (.cells (pendC p g).toArray 157 (0, 0))) (hg : BytT w g 5 p.2) (hn : W.length + 1 ≤ 1000000)
    (hK : ∀ v' w', PendAt (fun k => F k ∨ w.heap.size ≤ k ∨ k = g) w' v' (W ++ [p]) → w.grownBy w' v.ownBlock → (v'.ownBlock = v.ownBlock ∨ v'.ownBlock = some w.heap.size) → wpList Tryz.prog ops Q rest (a.put o.dst v') w') : wpList Tryz.prog ops Q (o :: rest) a w := by
  refine wpList_plain hgd fun K hK' => ?_
  subst hs
  obtain ⟨v', w', hr, h1, h2, h3⟩ := run_append_pend w o.type _ W p g b hP hb hg hn
  unfold Oper.wp
  simp [execOp, hop, resolve, invoke, builtin, hx, hr, Result.andThen]
  exact hK' _ _ (hK v' w' h1 h2 h3)
theorem run_build_pend (w : World) (a : Int) (g : Nat) : (Instr.buildSlice 116 1 #[(0, .agg #[.int .i64 a, .slice (some ⟨g, 0, none⟩) 64 64])]).run Tryz.prog w = .ok (.slice (some ⟨w.heap.size, 0, none⟩) 1 1) (w.alloc (.cells #[.int .i64 a, .slice (some ⟨g, 0, none⟩) 64 64] 157)) := by kernel_rfl

theorem PendAt.mono {F G : Nat → Prop} {w : World} {v : Value} {W : List Pend} (h : PendAt F w v W) (hd : ∀ k, F k → G k) : PendAt G w v W := by
  obtain ⟨gs, h1, h2, h3, h4⟩ := h
  exact ⟨gs, h1, h2, fun g hg => hd g (h3 g hg), fun i hi hi2 => ⟨(h4 i hi hi2).1, hd _ (h4 i hi hi2).2⟩⟩
theorem PendAt.own {F : Nat → Prop} {w : World} {v : Value} {W : List Pend} (h : PendAt F w v W) : ∀ g, v.ownBlock = some g → F g := by
  obtain ⟨gs, h1, h2, h3, h4⟩ := h
  exact h3
/-- Of a device that is down: ErrDown. -/
theorem rWrite_down (w : World) (g : Nat) (va vw vb : Value) (k l a : Int) (h : DevH w g va vw k l true) :
    Calls Tryz.prog 95 #[.pointer (some ⟨g, 0, none⟩), .int .i64 a, vb] w fun e w' => e = .returned (.int .i64 10) ∧ w = w' := by
  obtain ⟨_, _, _, _, h4⟩ := h.cells
  clear h
  go_enter Tryz.func95, Tryz.ntmps95
  go_wp2
  go_ret
  exact ⟨rfl, rfl⟩

set_option maxRecDepth 100000 in
set_option maxHeartbeats 4000000 in
theorem rWrite_ok {F G : Nat → Prop} (w : World) (g ga s a : Nat) (vw vb : Value) (Wt : List Pend) (b : List UInt8) (k l : Int) (h : DevH w g (.slice (some ⟨ga, 0, none⟩) (64 * s) (64 * s)) vw k l false) (hP : PendAt F w vw Wt) (hb : BytesIn G w vb b) (hGw : ∀ i, G i → i < w.heap.size ∧ i ≠ g) (hbl : b.length ≤ 64) (ha : a < s) (hs : s ≤ 8192) (hgF : ¬ F g)
    (hk0 : 0 ≤ k) (hk : k ≤ 1000000000) (hl0 : 0 ≤ l) (hll : l ≤ 9223372036854775807) (hl1 : l ≠ 1) (hn6 : Wt.length + 1 ≤ 1000000) :
    Calls Tryz.prog 95 #[.pointer (some ⟨g, 0, none⟩), .int .i64 a, vb] w fun e w' => e = .returned (.int .i64 0) ∧ ∃ vw', DevH w' g (.slice (some ⟨ga, 0, none⟩) (64 * s) (64 * s)) vw' (k + 1) (if l = 0 then 0 else l - 1) false ∧ PendAt (fun i => F i ∨ w.heap.size ≤ i) w' vw' (Wt ++ [(a, full64 b)]) ∧ Fr (fun i => i = g ∨ F i) w w' := by
  obtain ⟨ab, cb, hvb, _, _⟩ : ∃ ao cap, vb = .slice ao b.length cap ∧ True ∧ True := by obtain ⟨x, y, hx, _⟩ := hb; exact ⟨x, y, hx, trivial, trivial⟩
  subst hvb
  have hsec := fun W vw k l dn h => rSectors_any W g (some ⟨ga, 0, none⟩) s (64 * s) vw k l dn h hs
  have hd0 := rdeed_any w g (.slice (some ⟨ga, 0, none⟩) (64 * s) (64 * s)) vw k l false hk0 hk hl0 hll h
  rw [decide_eq_true hl1, if_neg hl1, if_neg hl1] at hd0
  have hs0 := hsec w vw k l false h
  obtain ⟨m, hm⟩ : ∃ m : Nat, m = 64 * s := ⟨_, rfl⟩
  rw [← hm] at h hd0 ⊢
  obtain ⟨l', hl'⟩ : ∃ x : Int, x = if l = 0 then 0 else l - 1 := ⟨_, rfl⟩
  rw [← hl'] at hd0 ⊢
  obtain ⟨Z, hZ⟩ : ∃ Z, Z = ((List.replicate 64 (0 : UInt8)).map bv).toArray := ⟨_, rfl⟩
  have hmk := fun W => run_make_bytes W 64 64 rfl (by decide)
  rw [← hZ] at hmk
  obtain ⟨_, _, _, _, c4⟩ := h.cells
  obtain ⟨q, hq⟩ : ∃ q, q = b.length := ⟨_, rfl⟩
  have d1 : decide ((a : Int) < 0) = false := by rw [decide_eq_false_iff_not]; omega
  have d2 : decide ((s : Int) ≤ (a : Int)) = false := by rw [decide_eq_false_iff_not]; omega
  have d3 : decide (64 < (q : Int)) = false := by rw [decide_eq_false_iff_not]; omega
  have d4 : decide (s ≤ a) = false := by rw [decide_eq_false_iff_not]; omega
  have d5 : decide (64 < q) = false := by rw [decide_eq_false_iff_not]; omega
  have d6 : ¬ s ≤ a := by omega
  have d7 : ¬ 64 < q := by omega
  have HB := Lib.hid hb
  rw [← hq] at HB ⊢
  have HD := Lib.hid hd0
  have HS := Lib.hid hs0
  have HZ := Lib.hid hZ
  have HX := Lib.hid (And.intro hP (And.intro hGw (And.intro hbl (And.intro hgF hn6))))
  have HQ := Lib.hid hq
  have HGL := Lib.hid (lt_of_block h)
  clear hsec hd0 hs0 hm hl' hZ hP hGw hbl hgF hn6 h hq hb hk0 hk hl0 hll hl1 ha hs
  go_enter Tryz.func95, Tryz.ntmps95
  go_wp2_with (first
    | (go_at_call 75; (with_reducible refine HS.out.mono ?_); rintro e w0 ⟨rfl, rfl⟩)
    | (go_at_call 109; (with_reducible refine HD.out.mono ?_); rintro e w1 ⟨rfl, hh, hf⟩; (have HH := Lib.hid hh); (have HF := Lib.hid hf); (have HZ1 := Lib.hid (show BytT (w1.alloc (.cells Z 5)) w1.heap.size 5 (List.replicate 64 0) by rw [HZ.out]; exact heap_alloc_new w1 _)); (have HB1 := Lib.hid ((HB.out.keep hf (fun i hi hg e => (HX.out.2.1 i hg).2 e)).keep ((Fr.refl (fun _ => False) w1).alloc (.cells Z 5)) (fun _ _ _ h => h))); clear hh hf)
    | (refine wpList_copy_full (G := G) (w1.alloc (.cells Z 5)) rfl (.tmp 29) (.tmp 30) rfl w1.heap.size (.slice ab q cb) b rfl rfl HZ1.out HB1.out HX.out.2.2.1 ?_; intro v2 w2 hb2 hf2; (have HB2 := Lib.hid hb2); (have HF2 := Lib.hid (show Fr (fun _ => False) w1 w2 from ((Fr.refl (fun _ => False) w1).alloc (.cells Z 5)).trans hf2 (fun i e => .inr (by rw [show i = _ from e]; exact Nat.le_refl _)))); (have HH2 := Lib.hid (HH.out.keep HF2.out (fun h => h))); (have HP2 := Lib.hid ((HX.out.1.keep HF.out (fun i _ hi e => HX.out.2.2.2.1 (e ▸ hi))).keep HF2.out (fun _ _ _ h => h))); (have c1 := HH2.out.cells.2.1); clear hb2 hf2; (have HGF := Lib.hid (show w.heap.size ≤ w1.heap.size from HF.out.size)); (have HG2 := Lib.hid (show w1.heap.size ≤ w2.heap.size from HF2.out.size)); generalize w1.heap.size = gf at *)
    | (refine wpList_one rfl 116 (.tmp 39) rfl (.agg #[.int .i64 a, .slice (some ⟨gf, 0, none⟩) 64 64]) (.slice (some ⟨w2.heap.size, 0, none⟩) 1 1) (w2.alloc (.cells #[.int .i64 a, .slice (some ⟨gf, 0, none⟩) 64 64] 157)) rfl (run_build_pend w2 a gf) ?_)
    | (refine wpList_append_pend (F := F) (w2.alloc (.cells #[.int .i64 a, .slice (some ⟨gf, 0, none⟩) 64 64] 157)) rfl (.tmp 36) (.tmp 40) rfl vw Wt (a, full64 b) gf w2.heap.size rfl rfl (HP2.out.keep ((Fr.refl (fun _ => False) w2).alloc _) (fun _ _ _ h => h)) (heap_alloc_new w2 _) (((Fr.refl (fun _ => False) w2).alloc _).heap HB2.out (fun h => h)) HX.out.2.2.2.2 ?_; intro v4 w4 hp4 hg4 hk4; (have HP4 := Lib.hid hp4); (have HG4 := Lib.hid hg4); (have HH4 := Lib.hid (show DevH w4 g (.slice (some ⟨ga, 0, none⟩) m m) vw (k + 1) l' false from (HH2.out.keep ((Fr.refl (fun _ => False) w2).alloc _) (fun h => h)).keep ((Fr.refl (fun x => vw.ownBlock = some x) _).grown hg4 (fun x hx => .inl hx)) (fun e => HX.out.2.2.2.1 (HX.out.1.own g e)))); (have d1' := HH4.out.cells.2.1); (have d2' := HH4.out.free 1); obtain ⟨a4, q4, hv4, _, _⟩ := hp4.form; subst hv4; clear hp4 hg4 hk4 c1))
  go_ret
  refine ⟨rfl, _, HH4.out.put1 _, ?_, ?_⟩
  · have hp4 := HP4.out
    rw [show (Wt ++ [(a, full64 b)]).length = Wt.length + 1 by simp] at hp4
    refine (hp4.keep (Fr.cell1 w4 g 1 _) (fun i _ hi e => ?_)).mono (fun i hi => ?_)
    · have h1 := HGL.out
      have h2 := HGF.out
      have h3 := HG2.out
      rcases hi with hi | hi | hi
      · exact HX.out.2.2.2.1 (e ▸ hi)
      · simp at hi; omega
      · omega
    · have h2 := HGF.out
      have h3 := HG2.out
      rcases hi with hi | hi | hi
      · exact .inl hi
      · simp at hi; exact .inr (by omega)
      · exact .inr (by omega)
  · have hA : Fr (fun i => i = g ∨ F i) w w1 := HF.out.mono (fun _ _ e => .inl e)
    have hB : Fr (fun i => i = g ∨ F i) w w2 := hA.trans HF2.out (fun _ h => h.elim)
    exact ((hB.alloc _).grown HG4.out (fun x hx => .inl (.inr (HX.out.1.own x hx)))).trans (Fr.cell1 w4 g 1 _) (fun i e => .inl (.inl e))
end Go.Proofs.YtabgklcghghoiaaGreat

/- Spoil: a bit of what is kept turned, on both sides. -/
namespace Go.Proofs.YtabgklcghghoiaaGreat
open Go.RowKit Go.ChangeShapes
set_option linter.unusedVariables false

/-- Byte x, its bit r turned. -/
def flipB (x : UInt8) (r : Nat) : UInt8 := UInt8.ofNat (bits BinOp.xor .u8 (x.toNat : Int) (IntKind.u8.wrap (2 ^ r))).toNat
theorem flipB_val (x : UInt8) (r : Nat) : ((flipB x r).toNat : Int) = bits BinOp.xor .u8 (x.toNat : Int) (IntKind.u8.wrap (2 ^ r)) := by
  have h0 : ∀ a b : Int, 0 ≤ bits BinOp.xor .u8 a b ∧ bits BinOp.xor .u8 a b < 256 := fun a b => by
    show 0 ≤ IntKind.u8.wrap _ ∧ IntKind.u8.wrap _ < 256
    rw [IntKind.wrap_u8]
    omega
  have := h0 (x.toNat : Int) (IntKind.u8.wrap (2 ^ r))
  rw [flipB, UInt8.toNat_ofNat']
  omega
/-- Bit of sector a turned, n = 8 * the byte + its bit. -/
def flipAt (L : List UInt8) (a n : Nat) : List UInt8 := L.set (64 * a + n / 8) (flipB (L.getD (64 * a + n / 8) 0) (n % 8))
def Dv.spoil (d : Dv) (s : Nat) (a n : Int) : Int × Dv := if (0 ≤ a ∧ a < (s : Int)) ∧ 0 ≤ n ∧ n < 512 then (0, { d with all := flipAt d.all a.toNat n.toNat }) else (2, d)
theorem Dv.Right.spoil {d : Dv} {s : Nat} (h : d.Right s) (a n : Int) : (d.spoil s a n).2.Right s := by
  unfold Dv.spoil
  split
  · exact ⟨by simp [flipAt, h.all], h.waits⟩
  · exact h

end Go.Proofs.YtabgklcghghoiaaGreat

/- The document's own device: Write told ErrArg, and with the fuse out; Spoil. -/
namespace Go.Proofs.YtabgklcghghoiaaGreat
open Go.RowKit Go.ChangeShapes
set_option linter.unusedVariables false

theorem rWrite_arg (w : World) (g ga s : Nat) (vw : Value) (k l : Int) (a : Int) (ab : Option Addr) (q cb : Nat) (h : DevH w g (.slice (some ⟨ga, 0, none⟩) (64 * s) (64 * s)) vw k l false) (hs : s ≤ 8192) (hn : a < 0 ∨ (s : Int) ≤ a ∨ 64 < q) :
    Calls Tryz.prog 95 #[.pointer (some ⟨g, 0, none⟩), .int .i64 a, .slice ab q cb] w fun e w' => e = .returned (.int .i64 2) ∧ w = w' := by
  have HS := Lib.hid (rSectors_any w g (some ⟨ga, 0, none⟩) s (64 * s) vw k l false h hs)
  obtain ⟨_, _, _, _, c4⟩ := h.cells
  clear h
  by_cases h1 : a < 0
  · have d1 : decide (a < 0) = true := by rw [decide_eq_true_iff]; exact h1
    clear h1 hn
    go_enter Tryz.func95, Tryz.ntmps95
    go_wp2
    go_ret
    exact ⟨rfl, rfl⟩
  · have d1 : decide (a < 0) = false := by rw [decide_eq_false_iff_not]; exact h1
    by_cases h2 : (s : Int) ≤ a
    · have d2 : decide ((s : Int) ≤ a) = true := by rw [decide_eq_true_iff]; exact h2
      clear h1 h2 hn
      go_enter Tryz.func95, Tryz.ntmps95
      go_wp2_with (go_at_call 75; (with_reducible refine HS.out.mono ?_); rintro e w0 ⟨rfl, rfl⟩)
      go_ret
      exact ⟨rfl, rfl⟩
    · have d2 : decide ((s : Int) ≤ a) = false := by rw [decide_eq_false_iff_not]; exact h2
      have h3 : 64 < q := by omega
      have d3 : decide (64 < (q : Int)) = true := by rw [decide_eq_true_iff]; omega
      have d5 : decide (64 < q) = true := by rw [decide_eq_true_iff]; omega
      clear h1 h2 hn
      go_enter Tryz.func95, Tryz.ntmps95
      go_wp2_with (go_at_call 75; (with_reducible refine HS.out.mono ?_); rintro e w0 ⟨rfl, rfl⟩)
      go_ret
      exact ⟨rfl, rfl⟩
theorem rWrite_out (w : World) (g ga s a : Nat) (vw : Value) (k : Int) (ab : Option Addr) (q cb : Nat) (hk0 : 0 ≤ k) (hk : k ≤ 1000000000) (h : DevH w g (.slice (some ⟨ga, 0, none⟩) (64 * s) (64 * s)) vw k 1 false) (hs : s ≤ 8192) (ha : a < s) (hq : q ≤ 64) :
    Calls Tryz.prog 95 #[.pointer (some ⟨g, 0, none⟩), .int .i64 a, .slice ab q cb] w fun e w' => e = .returned (.int .i64 10) ∧ DevH w' g (.slice (some ⟨ga, 0, none⟩) (64 * s) (64 * s)) vw k 0 true ∧ Fr (· = g) w w' := by
  have HS := Lib.hid (rSectors_any w g (some ⟨ga, 0, none⟩) s (64 * s) vw k 1 false h hs)
  have HD := Lib.hid (rdeed_any w g (.slice (some ⟨ga, 0, none⟩) (64 * s) (64 * s)) vw k 1 false hk0 hk (by decide) (by decide) h)
  obtain ⟨_, _, _, _, c4⟩ := h.cells
  have d1 : decide ((a : Int) < 0) = false := by rw [decide_eq_false_iff_not]; omega
  have d2 : decide ((s : Int) ≤ (a : Int)) = false := by rw [decide_eq_false_iff_not]; omega
  have d3 : decide (64 < (q : Int)) = false := by rw [decide_eq_false_iff_not]; omega
  have d4 : decide (s ≤ a) = false := by rw [decide_eq_false_iff_not]; omega
  have d5 : decide (64 < q) = false := by rw [decide_eq_false_iff_not]; omega
  have d6 : ¬ s ≤ a := by omega
  have d7 : ¬ 64 < q := by omega
  obtain ⟨m, hm⟩ : ∃ m : Nat, m = 64 * s := ⟨_, rfl⟩
  rw [← hm] at HD ⊢
  clear h hk0 hk hs ha hq hm
  go_enter Tryz.func95, Tryz.ntmps95
  go_wp2_with (first
    | (go_at_call 75; (with_reducible refine HS.out.mono ?_); rintro e w0 ⟨rfl, rfl⟩)
    | (go_at_call 109; (with_reducible refine HD.out.mono ?_); rintro e w1 ⟨rfl, hh, hf⟩; (have HH := Lib.hid (And.intro hh hf)); clear hh hf))
  go_ret
  exact ⟨rfl, HH.out.1, HH.out.2⟩

end Go.Proofs.YtabgklcghghoiaaGreat

/- A cut of 64 bytes out of a row of bytes. -/
namespace Go.Proofs.YtabgklcghghoiaaGreat
open Go.RowKit Go.ChangeShapes
set_option linter.unusedVariables false

/-- What such a device's calls may turn. -/
abbrev Bare (X : Nat → Prop) (w0 : World) : Nat → Prop := fun k => w0.heap.size ≤ k ∧ ¬ X k
/-- x[q:q+64]. -/
theorem run_cut64 (w : World) (b m cap q : Nat) (q2 : Int) (hq2 : q2 = (q : Int) + 64) (hq : q + 64 ≤ m) (hm : m ≤ cap) :
    (Instr.slice 37 (.slice (some ⟨b, 0, none⟩) m cap) (some (.int .i64 (q : Int))) (some (.int .i64 q2)) none).run Tryz.prog w = .ok (.slice (some ⟨b, q, none⟩) 64 (cap - q)) w := by
  subst hq2
  have hs : ∀ w, (sizeOf 5).run Tryz.prog w = .ok 1 w := fun w => by kernel_rfl
  have h1 : (0 : Int) ≤ (q : Int) + 64 := by omega
  have h2 : (q : Int) + 64 ≤ (cap : Int) := by omega
  have h3 : (q : Int) ≤ (q : Int) + 64 := by omega
  have h4 : ((q : Int) + 64).toNat = q + 64 := by omega
  have h5 : ¬ cap = q := by omega
  have h6 : q ≤ q + 64 := by omega
  simp [Instr.slice, run_underlying Tryz.underlying37, Instr.sliceBounds, run_sliceBound, hs, h1, h2, h3, h4, h5, Addr.add]
  omega
theorem BytesIn.cut64 {F : Nat → Prop} {w : World} {b m cap : Nat} {L : List UInt8} (h : BytesIn F w (.slice (some ⟨b, 0, none⟩) m cap) L) (a : Nat) (ha : 64 * a + 64 ≤ L.length) : BytesIn F w (.slice (some ⟨b, 64 * a, none⟩) 64 (cap - 64 * a)) (secAt L a) := by
  obtain ⟨ao, cap', hv, h1, h2, h3, h4⟩ := h
  simp only [Value.slice.injEq] at hv
  obtain ⟨rfl, rfl, rfl⟩ := hv
  have hl : (secAt L a).length = 64 := by rw [secAt, List.length_take, List.length_drop]; omega
  refine ⟨_, cap - 64 * a, by rw [hl], by omega, by omega, (fun h => by cases h), fun p hp => ?_⟩
  cases hp
  refine ⟨fun j u hu => ?_, fun _ => (h4 _ rfl).2 (fun h => by rw [h] at ha; simp at ha)⟩
  have hj : j < 64 := by
    have := (List.getElem?_eq_some_iff.1 hu).1
    rwa [List.length_map, hl] at this
  have := (h4 _ rfl).1 (64 * a + j) u (by
    rw [List.getElem?_map] at hu ⊢
    rw [← secAt_get L a j hj]
    exact hu)
  rw [addr_plain, Nat.zero_add] at this
  rw [addr_plain]
  exact this
end Go.Proofs.YtabgklcghghoiaaGreat

