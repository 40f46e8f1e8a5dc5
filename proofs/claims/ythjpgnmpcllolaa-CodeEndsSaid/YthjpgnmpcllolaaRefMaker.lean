/- The document's own maker. -/
import Derived.Test.YthjpgnmpcllolaaRefNum
import Derived.Test.YthjpgnmpcllolaaMaker3
import Derived.Deep.RegionWith
import Derived.Deep.RegionLawGrows
namespace Go.Proofs.Ythjpgnmpcllolaa
open Go.RowKit Go.ChangeShapes
set_option linter.unusedVariables false

/-- At block b lies the document's maker: bytes L, broken or not. -/
def RefAt (F : Nat → Prop) (w : World) (b : Nat) (L : List UInt8) (br : Bool) : Prop :=
  F b ∧ ∃ T v, w.heap[b]? = some (.cells #[v, .bool br] T (0, 0)) ∧ OwnB (fun k => F k ∧ k ≠ b) w v L

theorem RefAt.keep {F S : Nat → Prop} {w w' : World} {b : Nat} {L : List UInt8} {br : Bool} (h : RefAt F w b L br) (hf : Fr S w w') (hd : ∀ k, k < w.heap.size → F k → ¬ S k) : RefAt F w' b L br := by
  obtain ⟨h1, T, v, h2, h3⟩ := h
  exact ⟨h1, T, v, hf.heap h2 (hd _ (lt_of_block h2) h1), h3.keep hf (fun k hk hF => hd k hk hF.1)⟩
theorem RefAt.mono {F G : Nat → Prop} {w : World} {b : Nat} {L : List UInt8} {br : Bool} (h : RefAt F w b L br) (hd : ∀ k, k < w.heap.size → F k → G k) : RefAt G w b L br := by
  obtain ⟨h1, T, v, h2, h3⟩ := h
  exact ⟨hd _ (lt_of_block h2) h1, T, v, h2, h3.mono fun k hk h => ⟨hd k hk h.1, h.2⟩⟩

theorem ref_cells {w : World} {b : Nat} {x y : Value} {T : TypeId} (h1 : w.heap[b]? = some (.cells #[x, y] T (0, 0))) :
    w.cell? ⟨b, 0, none⟩ = some x ∧ w.cell? ⟨b, 1, none⟩ = some y ∧ w.frozen? ⟨b, 0, none⟩ = false ∧ w.frozen? ⟨b, 1, none⟩ = false :=
  ⟨by simp [World.cell?, h1], by simp [World.cell?, h1], by simp [World.frozen?, h1], by simp [World.frozen?, h1]⟩

/-- What append onto its bytes leaves, stored. -/
theorem RefAt.app {F : Nat → Prop} {w w1 w2 : World} {b : Nat} {L X : List UInt8} {br : Bool} {T : TypeId} {v v' : Value} (hF : ∀ k, w.heap.size ≤ k → F k) (hFb : F b) (hb : w1.heap[b]? = some (.cells #[v, .bool br] T (0, 0)))
    (hown : OwnB (fun k => F k ∧ k ≠ b) w1 v L) (hf : Fr F w w1) (hv : OwnB (fun k => (F k ∧ k ≠ b) ∨ w1.heap.size ≤ k) w2 v' X) (hg : w1.grownBy w2 v.ownBlock) :
    RefAt F (w2.setCell ⟨b, 0, none⟩ v') b X br ∧ Fr F w (w2.setCell ⟨b, 0, none⟩ v') ∧ w2.cell? ⟨b, 0, none⟩ = some v ∧ w2.frozen? ⟨b, 0, none⟩ = false := by
  have hlt := lt_of_block hb
  have hb2 : w2.heap[b]? = some (.cells #[v, .bool br] T (0, 0)) := grown_heap hg hb (fun e => (hown.2 b e).2 rfl)
  have hvb : ∀ k, v'.ownBlock = some k → F k ∧ k ≠ b := fun k hk => by
    rcases hv.2 k hk with h | h
    · exact h
    · exact ⟨hF k (Nat.le_trans hf.size h), by omega⟩
  refine ⟨⟨hFb, T, v', ?_, ?_⟩, (hf.grown hg (fun k hk => .inl (hown.2 k hk).1)).setCell (p := ⟨b, 0, none⟩) (.inl hFb) _, (ref_cells hb2).1, (ref_cells hb2).2.2.1⟩
  · have := heap_setCell_at (i := 0) v' hb2
    exact this
  · have h1 : OwnB (fun k => F k ∧ k ≠ b) w2 v' X := ⟨hv.1, hvb⟩
    exact h1.keep' (Fr.one w2 b 0 v') (fun k hk e => (hvb k hk).2 e)

theorem RefAt.broke {F : Nat → Prop} {w : World} {b : Nat} {L : List UInt8} {br : Bool} (h : RefAt F w b L br) : RefAt F (w.setCell ⟨b, 1, none⟩ (.bool true)) b L true ∧ Fr F w (w.setCell ⟨b, 1, none⟩ (.bool true)) := by
  obtain ⟨h1, T, v, h2, h3⟩ := h
  refine ⟨⟨h1, T, v, ?_, h3.keep' (Fr.one w b 1 _) (fun k hk e => (h3.2 k hk).2 e)⟩, (Fr.refl F w).setCell (p := ⟨b, 1, none⟩) (.inl h1) _⟩
  have := heap_setCell_at (i := 1) (.bool true) h2
  exact this

theorem refRaw_any {F G : Nat → Prop} {b : Nat} {x : Value} {L X : List UInt8} {br : Bool} (w : World) (hF : ∀ k, w.heap.size ≤ k → F k) (hm : RefAt F w b L br) (hx : BytesIn G w x X) (hlen : L.length + X.length ≤ 140737488355328) :
    Calls Try.prog 14 #[.pointer (some ⟨b, 0, none⟩), x] w fun r w' => r = .returned (.tuple #[]) ∧ Fr F w w' ∧ RefAt F w' b (L ++ X) br := by
  obtain ⟨hFb, T, v, hb, hown⟩ := hm
  obtain ⟨ao, cap, hv, _⟩ := hown.bytes
  obtain ⟨ax, cx, hxv, _⟩ := hx
  have HXB := Lib.hid (show BytesIn G w x X from ⟨ax, cx, hxv, by assumption⟩)
  obtain ⟨c0, c1, f0, f1⟩ := ref_cells hb
  have HV := Lib.hid (And.intro hb hown)
  subst hv
  subst hxv
  clear hb hown
  have HL := Lib.hid hlen
  have HF := Lib.hid hF
  clear hF hlen
  go_enter Try.func14, Try.ntmps14
  go_wp2_with (first
    | (at_builtin; refine wpList_append_bytes (F := fun k => F k ∧ k ≠ b) (G := G) _ rfl (.tmp 8) (.tmp 9) rfl _ _ L X rfl rfl HV.out.2 HXB.out HL.out ?_; intro v5 w5 ho5 hg5 hn5; have HR := Lib.hid (RefAt.app (w := w) HF.out hFb HV.out.1 HV.out.2 (Fr.refl F w) ho5 hg5); obtain ⟨_, _, d0, g0⟩ := HR.out; obtain ⟨a5, c5, hv5⟩ := ho5.len; rw [List.length_append] at hv5; subst hv5; clear ho5 hg5 hn5)
    | fail)
  refine bodyPost_end (results_none rfl _ _ _) rfl ?_
  exact ⟨rfl, HR.out.2.1, HR.out.1⟩
theorem refDone_no {F : Nat → Prop} {b : Nat} {L : List UInt8} (w : World) (hm : RefAt F w b L true) :
    Calls Try.prog 18 #[.pointer (some ⟨b, 0, none⟩)] w fun r w' => r = .returned (.tuple #[.slice none 0 0, .int .i64 2]) ∧ w' = w := by
  obtain ⟨hFb, T, v, hb, hown⟩ := hm
  obtain ⟨ao, cap, hv, _⟩ := hown.bytes
  obtain ⟨c0, c1, f0, f1⟩ := ref_cells hb
  subst hv
  clear hb hown
  go_enter Try.func18, Try.ntmps18
  go_wp2
  go_ret2
  exact ⟨rfl, rfl⟩

theorem refDone_yes {F : Nat → Prop} {b : Nat} {L : List UInt8} (w : World) (hm : RefAt F w b L false) (hlen : L.length ≤ 140737488355328) :
    Calls Try.prog 18 #[.pointer (some ⟨b, 0, none⟩)] w fun r w' => ∃ v, r = .returned (.tuple #[v, .int .i64 0]) ∧ Fr (fun _ => False) w w' ∧ OwnB (fun k => w.heap.size ≤ k) w' v L := by
  obtain ⟨hFb, T, v, hb, hown⟩ := hm
  have HB := Lib.hid hown.bytes
  obtain ⟨ao, cap, hv, _⟩ := hown.bytes
  obtain ⟨c0, c1, f0, f1⟩ := ref_cells hb
  have c9 := ((Fr.refl (fun _ => False) w).alloc (.cells #[] 5)).cell c0 (fun h => h)
  subst hv
  clear hb hown
  go_enter Try.func18, Try.ntmps18
  go_wp2_with (first
    | (at_builtin; refine wpList_append_bytes (F := fun k => w.heap.size ≤ k) (G := fun k => F k ∧ k ≠ b) _ rfl (.tmp 8) (.tmp 12) rfl (.slice (some ⟨w.heap.size, 0, none⟩) 0 0) (.slice ao L.length cap) [] L rfl rfl (own_empty w _ rfl) (HB.out.keep (S := fun _ => False) ((Fr.refl _ _).alloc _) (fun _ _ _ h => h)) (by simpa using hlen) ?_; intro v5 w5 ho5 hg5 hn5; have HO := Lib.hid ho5; have HG := Lib.hid hg5; clear ho5 hg5 hn5)
    | fail)
  go_ret2
  refine ⟨_, rfl, ((Fr.refl _ _).alloc _).grown HG.out (fun k hk => ?_), HO.out.mono fun k _ h => ?_⟩
  · exact .inr (by simp only [Value.ownBlock, Option.some.injEq] at hk; omega)
  · rcases h with h | h
    · exact h
    · simp at h; omega

set_option maxHeartbeats 2000000 in
set_option maxRecDepth 100000 in
theorem refNum_yes {F : Nat → Prop} {b : Nat} {L : List UInt8} {br : Bool} (n : Nat) (w : World) (hn : n ≤ 1099511627776) (hF : ∀ k, w.heap.size ≤ k → F k) (hm : RefAt F w b L br) (hlen : L.length + 6 ≤ 140737488355328) :
    Calls Try.prog 12 #[.pointer (some ⟨b, 0, none⟩), .int .i64 n] w fun r w' => r = .returned (.tuple #[]) ∧ Fr F w w' ∧ RefAt F w' b (L ++ numBytes 5 n) br := by
  obtain ⟨hFb, T, v, hb, hown⟩ := hm
  obtain ⟨ao, cap, hv, _⟩ := hown.bytes
  obtain ⟨c0, c1, f0, f1⟩ := ref_cells hb
  have HV := Lib.hid (And.intro hb hown)
  subst hv
  have HL := Lib.hid (show L.length + (numBytes 5 n).length ≤ 140737488355328 by have := (numBytes_len 5 n).2; omega)
  have HF := Lib.hid hF
  have h0 : ¬ ((n : Int) < 0) := by omega
  have h1 : ¬ (1099511627776 < (n : Int)) := by omega
  clear hF hlen hb hown
  go_enter Try.func12, Try.ntmps12
  go_wp2
  go_region_law (first
    | (refine step_append_bytes (F := fun k => F k ∧ k ≠ b) (G := fun k => w.heap.size ≤ k) rfl (.tmp 17) (.tmp 19) rfl (.slice ao L.length cap) v1 L (numBytes 5 n) (by simp [Act.eval]) (by simp [Act.eval]) H1.out.1 H1.out.2.1 HL.out ?_; intro v' w2 ho5 hg5 hn5; have HR := Lib.hid (RefAt.app (w := w) HF.out hFb H1.out.2.2.1 H1.out.1 H1.out.2.2.2 ho5 hg5); obtain ⟨_, _, d0, g0⟩ := HR.out; obtain ⟨a5, c5, hv5⟩ := ho5.len; rw [List.length_append] at hv5; subst hv5; clear ho5 hg5 hn5)
    | (go_simp; go_at_call 22; refine (refNumber_any n _ hn).mono ?_; rintro e w1 ⟨v1, rfl, ho1, hf1⟩; have hf1' : Fr (fun _ => False) w w1 := ⟨hf1.os, hf1.tape, hf1.output, hf1.size, hf1.block⟩; have H1 := Lib.hid (And.intro (HV.out.2.keep' hf1' (fun _ _ h => h)) (And.intro (show BytesIn (fun k => w.heap.size ≤ k) w1 v1 (numBytes 5 n) from ho1.bytes) (And.intro (hf1'.heap HV.out.1 (fun h => h)) (hf1'.mono (T := F) (fun _ _ h => h.elim))))); obtain ⟨e0, e1, g5, g6⟩ := ref_cells H1.out.2.2.1; clear ho1 hf1 hf1'))
  all_goals
    refine bodyPost_end (results_none rfl _ _ _) rfl ?_
    exact ⟨rfl, HR.out.2.1, HR.out.1⟩

theorem refNum_no {F : Nat → Prop} {b : Nat} {L : List UInt8} {br : Bool} (n : Int) (w : World) (hn : n < 0 ∨ 1099511627776 < n) (hm : RefAt F w b L br) :
    Calls Try.prog 12 #[.pointer (some ⟨b, 0, none⟩), .int .i64 n] w fun r w' => r = .returned (.tuple #[]) ∧ Fr F w w' ∧ RefAt F w' b L true := by
  have HR := Lib.hid hm.broke
  obtain ⟨hFb, T, v, hb, hown⟩ := hm
  obtain ⟨c0, c1, f0, f1⟩ := ref_cells hb
  clear hb hown
  by_cases h0 : n < 0
  · clear hn
    go_enter Try.func12, Try.ntmps12
    go_wp2
    refine bodyPost_ret (results_none rfl _ _ _) rfl ?_
    exact ⟨rfl, HR.out.2, HR.out.1⟩
  · have h1 : 1099511627776 < n := by omega
    clear hn
    go_enter Try.func12, Try.ntmps12
    go_wp2
    refine bodyPost_ret (results_none rfl _ _ _) rfl ?_
    exact ⟨rfl, HR.out.2, HR.out.1⟩

theorem refText_no {F : Nat → Prop} {b : Nat} {ax : Option Addr} {m cx : Nat} {L : List UInt8} {br : Bool} (w : World) (hm : RefAt F w b L br) (hX : 1048576 < m) :
    Calls Try.prog 16 #[.pointer (some ⟨b, 0, none⟩), .slice ax m cx] w fun r w' => r = .returned (.tuple #[]) ∧ Fr F w w' ∧ RefAt F w' b L true := by
  have HR := Lib.hid hm.broke
  obtain ⟨hFb, T, v, hb, hown⟩ := hm
  obtain ⟨c0, c1, f0, f1⟩ := ref_cells hb
  clear hb hown
  go_enter Try.func16, Try.ntmps16
  go_wp2
  refine bodyPost_ret (results_none rfl _ _ _) rfl ?_
  exact ⟨rfl, HR.out.2, HR.out.1⟩

theorem refText_yes {F G : Nat → Prop} {b : Nat} {ax : Option Addr} {m cx : Nat} {L X : List UInt8} {br : Bool} (w : World) (hF : ∀ k, w.heap.size ≤ k → F k) (hG : ∀ k, G k → ¬ F k) (hm : RefAt F w b L br) (hx : BytesIn G w (.slice ax m cx) X) (hX : m ≤ 1048576) (hmx : m = X.length) (hlen : L.length + 6 + X.length ≤ 140737488355328) :
    Calls Try.prog 16 #[.pointer (some ⟨b, 0, none⟩), .slice ax m cx] w fun r w' => r = .returned (.tuple #[]) ∧ Fr F w w' ∧ RefAt F w' b (L ++ numBytes 5 m ++ X) br := by
  have HN := Lib.hid (refNum_yes m w (by omega) hF hm (by omega))
  have HG := Lib.hid hG
  have HX := Lib.hid hx
  have HF := Lib.hid hF
  have HL := Lib.hid (show (L ++ numBytes 5 m).length + X.length ≤ 140737488355328 by have := (numBytes_len 5 m).2; rw [List.length_append]; omega)
  clear hF hG hm hx hmx hlen
  go_enter Try.func16, Try.ntmps16
  go_wp2_with (first
    | (go_at_call 12; refine HN.out.mono ?_; rintro e w1 ⟨rfl, hf1, hM1⟩; have H1 := Lib.hid hf1; have H2 := Lib.hid hM1; clear hf1 hM1)
    | (go_at_call 14; refine (refRaw_any w1 (fun k hk => HF.out k (Nat.le_trans H1.out.size hk)) H2.out (HX.out.keep H1.out (fun k _ hk => HG.out k hk)) HL.out).mono ?_; rintro e w2 ⟨rfl, hf2, hM2⟩; have H3 := Lib.hid hf2; have H4 := Lib.hid hM2; clear hf2 hM2)
    | fail)
  refine bodyPost_end (results_none rfl _ _ _) rfl ?_
  exact ⟨rfl, H1.out.trans H3.out (fun i hi => .inl hi), H4.out⟩
end Go.Proofs.Ythjpgnmpcllolaa
