/- Laid together: EnA EnT EnB EnC -/
import Derived.Test.YtfkgdjoaoidkeaaGreatRz13
import Derived.Test.YtfkgdjoaoidkeaaGreatRz1
import Derived.Lib.AppendStr
import Derived.Laws.OwnMore
import Derived.Test.YtfkgdjoaoidkeaaGreatRz0
import Derived.Test.YtfkgdjoaoidkeaaGreatRz18
import Derived.Test.YtfkgdjoaoidkeaaGreatRz4

namespace Go.Proofs.YtfkgdjoaoidkeaaGreat
open Go.RowKit Go.ChangeShapes
set_option linter.unusedVariables false
def AppC (w w' : World) (v v' : Value) (L Y : List UInt8) : Prop :=
  (∃ g c, v = .slice (some ⟨g, 0, none⟩) L.length c ∧ v' = .slice (some ⟨g, 0, none⟩) Y.length c ∧ OwnB (· = g) w' v' Y ∧ OwnB (· = g) w' v L ∧ Fr (· = g) w w') ∨
  (OwnB (fun k => w.heap.size ≤ k) w' v' Y ∧ Fr (fun _ => False) w w')
theorem run_append_case {F G : Nat → Prop} (w : World) (ty : TypeId) (g vc : Nat) (x : Value) (L X : List UInt8) (hown : OwnB F w (.slice (some ⟨g, 0, none⟩) L.length vc) L) (hx : BytesIn G w x X) (hb : L.length + X.length ≤ 140737488355328) :
    ∃ v' w', (Builtin.append_ #[22, 22] ty #[.slice (some ⟨g, 0, none⟩) L.length vc, x]).run Tryz.prog w = .ok v' w' ∧ AppC w w' (.slice (some ⟨g, 0, none⟩) L.length vc) v' L (L ++ X) := by
  obtain ⟨i0, hi, hz0, hz1, hz2⟩ := info_parts Tryz.infoB
  obtain ⟨ao, cap, rfl, hl, hm, hn, hc⟩ := hx
  have hmx : L.length + X.length ≤ maxLen := by unfold maxLen; omega
  cases ao with
  | none =>
    obtain rfl := hn rfl
    obtain rfl : X = [] := List.eq_nil_of_length_eq_zero (by omega)
    have hr := run_append_owned_none (P := Tryz.prog) (w := w) 0 22 ty 5 i0 1 Tryz.underlying22 hi (.slice (some ⟨g, 0, none⟩) L.length vc) L.length _ hown.1
    refine ⟨_, w, hr, .inl ⟨g, vc, rfl, by rw [List.append_nil], ?_, ?_, Fr.refl _ _⟩⟩
    · rw [List.append_nil]
      exact ⟨hown.1, fun k hk => by simp only [Value.ownBlock, Option.some.injEq] at hk; exact hk.symm⟩
    · exact ⟨hown.1, fun k hk => by simp only [Value.ownBlock, Option.some.injEq] at hk; exact hk.symm⟩
  | some a =>
    by_cases hroom : L.length + X.length ≤ vc
    · obtain ⟨w', hr, h2, h3⟩ := run_append_fits (P := Tryz.prog) (w := w) 0 22 ty 5 i0 1 Tryz.underlying22 hi hz1 g L.length vc _ hown.1 a X.length cap (X.map bv) (by simp) (hc a rfl).1 (bv_one X) hroom
      have h4 : OwnB (· = g) w' (.slice (some ⟨g, 0, none⟩) (L.length + X.length) vc) (L ++ X) :=
        ⟨by rw [List.length_append, List.map_append]; exact h2, fun k hk => by simp only [Value.ownBlock, Option.some.injEq] at hk; exact hk.symm⟩
      have h5 := h4.head L.length (by simp) (by simp)
      rw [List.take_left] at h5
      exact ⟨_, w', hr, .inl ⟨g, vc, rfl, by rw [List.length_append], by rw [← List.length_append] at h4 ⊢; exact h4, h5, (Fr.refl _ w).grown h3 (fun k hk => .inl (by simp only [Option.some.injEq] at hk; exact hk.symm))⟩⟩
    · obtain ⟨v', w', hr, h2, h3⟩ := run_append_arg_grows (P := Tryz.prog) w 22 ty 5 i0 (.int .u8 0) 1 1 Tryz.underlying22 hi hz0 hz1 hz2 rfl (by decide) ⟨g, 0, none⟩ L.length vc (L.map bv) (by simp) (hown.1.cells (g := g) rfl)
        a X.length cap (X.map bv) (by simp) (hc a rfl).1 (by omega) hmx (by omega)
      refine ⟨v', w', hr, .inr ⟨⟨?_, fun k hk => (h2.lt k hk).1⟩, (Fr.refl _ w).grown h3 (fun k hk => by cases hk)⟩⟩
      rw [List.length_append, List.map_append]
      exact ⟨h2.1, h2.2.imp id (fun ⟨g', c', cur', r1, r2, r3⟩ => ⟨g', c', cur', r1, Nat.zero_le _, r3⟩)⟩
theorem run_append_case_str {F : Nat → Prop} (w : World) (ty : TypeId) (g vc : Nat) (t : ByteArray) (L : List UInt8) (hown : OwnB F w (.slice (some ⟨g, 0, none⟩) L.length vc) L) (hb : L.length + t.size ≤ 140737488355328) :
    ∃ v' w', (Builtin.append_ #[22, 9] ty #[.slice (some ⟨g, 0, none⟩) L.length vc, .string t]).run Tryz.prog w = .ok v' w' ∧ AppC w w' (.slice (some ⟨g, 0, none⟩) L.length vc) v' L (L ++ t.data.toList) := by
  obtain ⟨i0, hi, hz0, hz1, hz2⟩ := info_parts Tryz.infoB
  have ht : t.size = t.data.toList.length := by simp
  have hmx : L.length + t.size ≤ maxLen := by unfold maxLen; omega
  obtain ⟨v', w', hr, h2, h3, _⟩ := Lib.run_append_own_string (P := Tryz.prog) w 0 22 9 ty 5 i0 Tryz.underlying22 Tryz.underlying9 hi hz0 hz1 hz2 (.slice (some ⟨g, 0, none⟩) L.length vc) L.length _ hown.1 t hmx hb (Nat.zero_le _)
  have h2' : w'.ownsRow 0 5 1 v' (L ++ t.data.toList).length ((L ++ t.data.toList).map bv) := by
    rw [List.length_append, ← ht, List.map_append]
    exact h2
  rcases hown.1.2 with ⟨hv, _⟩ | ⟨g', cap, cur, hv, hbb, hg, hnc, hcm, hcs, htk⟩
  · cases hv
  · simp only [Value.slice.injEq, Option.some.injEq, Addr.mk.injEq, and_true, true_and] at hv
    obtain ⟨rfl, rfl⟩ := hv
    by_cases hroom : L.length + t.size ≤ vc
    · have hr2 := Lib.run_append_room_string (P := Tryz.prog) w 22 9 ty 5 i0 Tryz.underlying22 Tryz.underlying9 hi hz1 g L.length vc cur hg t hroom (by rw [hcs]; omega)
      rw [hr2] at hr
      injection hr with e1 e2
      have h4 : OwnB (· = g) w' v' (L ++ t.data.toList) := ⟨h2', fun k hk => by rw [← e1] at hk; simp only [Value.ownBlock, Option.some.injEq] at hk; exact hk.symm⟩
      have h4' := h4
      rw [← e1] at h4'
      have h5 := h4'.head L.length (by simp) (by simp)
      rw [List.take_left] at h5
      refine ⟨v', w', by rw [hr2, e1, e2], .inl ⟨g, vc, rfl, by rw [← e1, List.length_append, ← ht], h4, h5, ?_⟩⟩
      rw [← e2]
      exact (Fr.refl (· = g) w).setRow (.inl rfl) _
    · have hr2 := Lib.run_append_grow_string (P := Tryz.prog) w 22 9 ty 5 i0 (.int .u8 0) Tryz.underlying22 Tryz.underlying9 hi hz0 ⟨g, 0, none⟩ L.length vc (L.map bv) (by rw [hz1]; simp) (hown.1.cells (g := g) rfl) t (by omega) (by unfold maxLen at hmx; omega) (growslice_fits (by omega) (by rw [hz2]; omega))
      have hr3 := hr
      rw [hr2] at hr3
      injection hr3 with e1 e2
      refine ⟨v', w', hr, .inr ⟨⟨h2', fun k hk => by rw [← e1] at hk; simp only [Value.ownBlock, Option.some.injEq] at hk; omega⟩, ?_⟩⟩
      rw [← e2]
      exact (Fr.refl _ w).drew.alloc _
structure I16 (b8 c8 b9 c9 : Nat) (L8 L9 : List UInt8) (w0 W : World) : Prop where
  fr : Fr (fun k => k = b8 ∨ k = b9) w0 W
  x8 : OwnB (· = b8) W (.slice (some ⟨b8, 0, none⟩) L8.length c8) L8
  x9 : OwnB (· = b9) W (.slice (some ⟨b9, 0, none⟩) L9.length c9) L9
structure E16 (b8 b9 z : Nat) (Y8 Y9 : List UInt8) (W W' : World) : Prop where
  fr : Fr (fun k => k = b8 ∨ k = b9) W W'
  y8 : ∀ x, OwnB (fun k => k = b8 ∨ z ≤ k) W x Y8 → OwnB (fun k => k = b8 ∨ z ≤ k) W' x Y8
  y9 : ∀ x, OwnB (fun k => k = b9 ∨ z ≤ k) W x Y9 → OwnB (fun k => k = b9 ∨ z ≤ k) W' x Y9
theorem I16.quiet {b8 c8 b9 c9 : Nat} {L8 L9 : List UInt8} {w0 W W' : World} (h : I16 b8 c8 b9 c9 L8 L9 w0 W) (hf : Fr (fun _ => False) W W') : I16 b8 c8 b9 c9 L8 L9 w0 W' :=
  ⟨h.fr.trans hf (fun _ h => h.elim), h.x8.keep hf (fun _ _ _ h => h), h.x9.keep hf (fun _ _ _ h => h)⟩
theorem E16.of {b8 b9 z : Nat} {Y8 Y9 : List UInt8} {W W' : World} (hf : Fr (fun _ => False) W W') : E16 b8 b9 z Y8 Y9 W W' :=
  ⟨hf.mono (fun _ _ h => h.elim), fun _ h => h.keep hf (fun _ _ _ h => h), fun _ h => h.keep hf (fun _ _ _ h => h)⟩
theorem E16.refl (b8 b9 z : Nat) (Y8 Y9 : List UInt8) (W : World) : E16 b8 b9 z Y8 Y9 W W := E16.of (Fr.refl _ _)
theorem own_again {F : Nat → Prop} {W W' : World} {g c : Nat} {x : Value} {L Y : List UInt8} (hv : OwnB F W (.slice (some ⟨g, 0, none⟩) L.length c) L) (hx : OwnB (fun k => k = g) W x Y) (hn : x ≠ .slice none 0 0) : x = .slice (some ⟨g, 0, none⟩) Y.length c := by
  rcases hx.1.2 with ⟨e, _⟩ | ⟨k, cap, cur, e, hb, hg, hnc, hcm, hcs, ht⟩
  · exact absurd e hn
  · have hk : k = g := hx.2 k (by rw [e]; rfl)
    subst hk
    rcases hv.1.2 with ⟨e2, _⟩ | ⟨k2, cap2, cur2, e2, hb2, hg2, hnc2, hcm2, hcs2, ht2⟩
    · cases e2
    · simp only [Value.slice.injEq, Option.some.injEq, Addr.mk.injEq, and_true, true_and] at e2
      obtain ⟨rfl, rfl⟩ := e2
      rw [hg] at hg2
      injection hg2 with hg2
      injection hg2 with e3
      subst e3
      rw [e, show cap = c by omega]
theorem app16 {z a b ca : Nat} {W W' : World} {v' : Value} {La Lb Ya : List UInt8} {cb : Nat} (hab : a ≠ b) (haz : a < z) (hbz : b < z) (hzw : z ≤ W.heap.size) (hYa : Ya ≠ [])
    (ha : OwnB (· = a) W (.slice (some ⟨a, 0, none⟩) La.length ca) La) (hb : OwnB (· = b) W (.slice (some ⟨b, 0, none⟩) Lb.length cb) Lb) (h : AppC W W' (.slice (some ⟨a, 0, none⟩) La.length ca) v' La Ya) :
    Fr (· = a) W W' ∧ OwnB (· = a) W' (.slice (some ⟨a, 0, none⟩) La.length ca) La ∧ OwnB (· = b) W' (.slice (some ⟨b, 0, none⟩) Lb.length cb) Lb ∧ OwnB (fun k => k = a ∨ z ≤ k) W' v' Ya ∧
    (∀ x, OwnB (fun k => k = a ∨ z ≤ k) W x Ya → OwnB (fun k => k = a ∨ z ≤ k) W' x Ya) ∧ (∀ x Yb, OwnB (fun k => k = b ∨ z ≤ k) W x Yb → OwnB (fun k => k = b ∨ z ≤ k) W' x Yb) := by
  rcases h with ⟨g, c, e1, rfl, h1, h2, h3⟩ | ⟨h1, h3⟩
  · simp only [Value.slice.injEq, Option.some.injEq, Addr.mk.injEq, and_true, true_and] at e1
    obtain ⟨rfl, rfl⟩ := e1
    refine ⟨h3, h2, hb.keep h3 (fun k _ hk e => hab (by rw [← e, hk])), h1.mono (fun k _ hk => .inl hk), fun x hx => ?_, fun x Yb hx => hx.keep h3 (fun k _ hk e => by rcases hk with hk | hk <;> omega)⟩
    by_cases hn : x = .slice none 0 0
    · exfalso
      rcases hx.1.2 with ⟨_, e⟩ | ⟨k, cap, cur, e, _⟩
      · exact hYa (List.eq_nil_of_length_eq_zero e)
      · rw [hn] at e; cases e
    · by_cases hxa : x.ownBlock = some a
      · have hx2 : OwnB (fun k => k = a) W x Ya := ⟨hx.1, fun k hk => by rw [hxa] at hk; injection hk with hk; exact hk.symm⟩
        rw [own_again (W' := W') ha hx2 hn]
        exact h1.mono (fun k _ hk => .inl hk)
      · have hx2 : OwnB (fun k => z ≤ k) W x Ya := ⟨hx.1, fun k hk => by rcases hx.2 k hk with e | e; (· exact absurd (by rw [hk, e]) hxa); exact e⟩
        exact (hx2.keep h3 (fun k _ hk e => by omega)).mono (fun k _ hk => .inr hk)
  · exact ⟨h3.mono (fun _ _ h => h.elim), ha.keep h3 (fun _ _ _ h => h), hb.keep h3 (fun _ _ _ h => h), h1.mono (fun k _ hk => .inr (by omega)), fun x hx => hx.keep h3 (fun _ _ _ h => h), fun x Yb hx => hx.keep h3 (fun _ _ _ h => h)⟩
end Go.Proofs.YtfkgdjoaoidkeaaGreat
namespace Go.Proofs.YtfkgdjoaoidkeaaGreat
open Go.RowKit Go.ChangeShapes
set_option linter.unusedVariables false
theorem OwnB.rowAt {z : Nat} {w : World} {v : Value} {L : List UInt8} (h : OwnB (fun k => z ≤ k) w v L) : w.ownsRow z 5 1 v L.length (L.map bv) := by
  refine ⟨h.1.1, ?_⟩
  rcases h.1.2 with h1 | ⟨g, cap, cur, rfl, hb, r⟩
  · exact .inl h1
  · exact .inr ⟨g, cap, cur, rfl, h.2 g rfl, r⟩
theorem OwnB.ofRow {z n : Nat} {w : World} {v : Value} {L : List UInt8} (hn : n = L.length) (h : w.ownsRow z 5 1 v n (L.map bv)) : OwnB (fun k => z ≤ k) w v L := by
  subst hn
  refine ⟨⟨h.1, ?_⟩, fun g hg => ?_⟩
  · rcases h.2 with h1 | ⟨g, cap, cur, rfl, hb, r⟩
    · exact .inl h1
    · exact .inr ⟨g, cap, cur, rfl, Nat.zero_le _, r⟩
  · rcases h.2 with ⟨rfl, _⟩ | ⟨g', cap, cur, rfl, hb, _⟩
    · simp [Value.ownBlock] at hg
    · simp only [Value.ownBlock, Option.some.injEq] at hg
      omega
theorem wpList_append_str {z : Nat} (w : World) {ops : Array Oper} {rest : List Oper} {o : Oper} {a : Act} {Q : Exit → Act → World → Prop} (hgd : o.guard = none) (s x : Operand)
    (hop : o.op = Op.call { callee := Callee.builtin Builtin.append, args := #[s, x], argTypes := #[22, 9] })
    (v : Value) (L : List UInt8) (t : ByteArray) (hs : a.eval s = v) (hx : a.eval x = .string t) (hown : OwnB (fun k => z ≤ k) w v L) (hb : L.length + t.data.toList.length ≤ 140737488355328) (hz : z ≤ w.heap.size)
    (hK : ∀ v' w', OwnB (fun k => z ≤ k) w' v' (L ++ t.data.toList) → w.grownBy w' v.ownBlock → wpList Tryz.prog ops Q rest (a.put o.dst v') w') : wpList Tryz.prog ops Q (o :: rest) a w := by
  obtain ⟨i0, hi, hz0, hz1, hz2⟩ := info_parts Tryz.infoB
  have ht : t.size = t.data.toList.length := by simp
  refine Lib.wpList_append_own_string w hgd s x 22 9 hop z 5 i0 Tryz.underlying22 Tryz.underlying9 hi hz0 hz1 hz2 v L.length _ hs hown.rowAt t hx (by rw [ht]; unfold maxLen; omega) (by rw [ht]; omega) hz ?_
  intro v' w' ho hg hn
  refine hK v' w' (OwnB.ofRow (n := L.length + t.size) (by rw [List.length_append, ht]) ?_) hg
  rw [List.map_append]
  exact ho
set_option maxRecDepth 100000 in
set_option maxHeartbeats 4000000 in
theorem text_any (w : World) (S : ByteArray) (hS : S.size = 32) (n : Nat) (hn : n < 100) :
    Calls Tryz.prog 23 #[.string S, .int .i64 n] w fun e w' => ∃ v X, e = .returned v ∧ OwnB (fun k => w.heap.size ≤ k) w' v X ∧ 0 < X.length ∧ X.length ≤ 320 ∧ Fr (fun _ => False) w w' := by
  obtain ⟨r, hr⟩ : ∃ r, r = n % 32 := ⟨_, rfl⟩
  obtain ⟨q, hq⟩ : ∃ q, q = n / 3 := ⟨_, rfl⟩
  obtain ⟨p, hp⟩ : ∃ p, p = q % 33 := ⟨_, rfl⟩
  have e1 : (n : Int).tmod 32 = (r : Int) := by rw [Int.tmod_eq_emod_of_nonneg (by omega)]; omega
  have e2 : (n : Int).tdiv 3 = (q : Int) := by rw [Int.tdiv_eq_ediv_of_nonneg (by omega)]; omega
  have e3 : (q : Int).tmod 33 = (p : Int) := by rw [Int.tmod_eq_emod_of_nonneg (by omega)]; omega
  have hr32 : r < 32 := by omega
  have hp33 : p < 33 := by omega
  have hq6 : (q : Int) ≤ 34 := by omega
  clear hr hq hp
  go_enter Tryz.func23, Tryz.ntmps23
  go_wp2
  go_loopw [5, 6] (fun ov iv wr => ∃ i : Nat, i ≤ 5 ∧ iv = .int .i64 i ∧ Hid (∃ X, OwnB (fun k => w.heap.size ≤ k) wr ov X ∧ (0 < i → 0 < X.length) ∧ X.length ≤ i * 64 ∧ Fr (fun _ => False) w wr)) (fun _ iv _ => 5 - (intOf iv).toNat)
  case atStart => exact ⟨0, by omega, rfl, Lib.hid ⟨[], OwnB.nil _ _, by omega, by simp, Fr.refl _ _⟩⟩
  case round =>
    obtain ⟨i, hi, rfl, hR⟩ := hrel
    by_cases hlt : i < 5
    · have hlt64 : (i : Int) < 5 := by omega
      obtain ⟨X, hX⟩ := hR.out
      have HX := Lib.hid hX
      have hl1 : (S.extract r 32).data.toList.length = 32 - r := by
        have := ByteArray.size_extract (a := S) (b := r) (e := 32)
        rw [Array.length_toList]
        show (S.extract r 32).size = _
        rw [this, hS]
        omega
      have hl2 : (S.extract 0 p).data.toList.length ≤ 32 := by
        have := ByteArray.size_extract (a := S) (b := 0) (e := p)
        rw [Array.length_toList]
        show (S.extract 0 p).size ≤ _
        rw [this, hS]
        omega
      have HL := Lib.hid (And.intro hl1 hl2)
      clear hX hl1 hl2 hR
      go_wp2_with (first
        | (at_builtin; refine wpList_append_str (z := w.heap.size) wr rfl (.tmp 11) (.tmp 15) rfl _ X (S.extract r 32) rfl rfl HX.out.1 (by have := HL.out.1; have := HX.out.2.2.1; omega) HX.out.2.2.2.size ?_; intro v5 w5 ho5 hg5; (have H5 := Lib.hid (And.intro ho5 (HX.out.2.2.2.grown hg5 (fun k hk => .inr (HX.out.1.2 k hk))))); clear ho5 hg5)
        | (at_builtin; refine wpList_append_str (z := w.heap.size) w5 rfl (.tmp 17) (.tmp 22) rfl _ (X ++ (S.extract r 32).data.toList) (S.extract 0 p) rfl rfl H5.out.1 (by have := HL.out.1; have := HL.out.2; have := HX.out.2.2.1; rw [List.length_append]; omega) H5.out.2.size ?_; intro v6 w6 ho6 hg6; (have H6 := Lib.hid (And.intro ho6 (H5.out.2.grown hg6 (fun k hk => .inr (H5.out.1.2 k hk))))); clear ho6 hg6))
      go_roundw
      case rel =>
        refine ⟨i + 1, by omega, by go_num, Lib.hid ⟨_, H6.out.1, fun _ => ?_, ?_, H6.out.2⟩⟩
        · have := HL.out.1
          rw [List.length_append, List.length_append]
          omega
        · have := HL.out.1
          have := HL.out.2
          have := HX.out.2.2.1
          rw [List.length_append, List.length_append]
          omega
      case measure => simp [intOf]; omega
    · obtain rfl : i = 5 := by omega
      have hlt64 : ¬ ((5 : Nat) : Int) < 5 := by omega
      go_wp2
      go_ret
      obtain ⟨X, h1, h2, h3, h4⟩ := hR.out
      exact ⟨_, rfl, X, h1, h2 (by omega), by omega, h4⟩
end Go.Proofs.YtfkgdjoaoidkeaaGreat
namespace Go.Proofs.YtfkgdjoaoidkeaaGreat
open Go.RowKit Go.ChangeShapes
set_option linter.unusedVariables false
theorem run_cutTo (w : World) (T E : TypeId) (k : Nat) (hT : Tryz.prog.underlying T = some (.slice E)) (hk : ∀ w, (sizeOf E).run Tryz.prog w = .ok k w) (b off l cap n : Nat) (hn : n ≤ cap) :
    (Instr.sliceAt T (.slice (some ⟨b, off, none⟩) l cap) none (some (.int .i64 (n : Nat))) none).run Tryz.prog w = .ok (.slice (some ⟨b, off, none⟩) n cap) w := by
  have hs : n ≤ cap := hn
  simp [Instr.sliceAt, Instr.slice, run_underlying hT, Instr.sliceBounds, run_sliceBound, hs, hk, Addr.add]
theorem run_alloc_hash (w : World) : (Instr.alloc 24 true (.tuple #[])).run Tryz.prog w = .ok (.pointer (some ⟨w.heap.size, 0, none⟩)) (w.alloc (.cells ((List.replicate 20 (0 : UInt8)).map bv).toArray 24)) := by kernel_rfl
theorem op_alloc_hash {w : World} {o : Oper} {a : Act} (ho : o.op = .alloc 24) : (execOp a.eval o).run Tryz.prog w = .ok (.value (.pointer (some ⟨w.heap.size, 0, none⟩))) (w.alloc (.cells ((List.replicate 20 (0 : UInt8)).map bv).toArray 24)) := by
  unfold execOp
  rw [ho]
  simp only [Sem.run_bind, run_alloc_hash, Result.andThen_ok]
  rfl
theorem run_index_hashes (w : World) (b off n cap i : Nat) (h : i < n) : (Instr.indexAt 44 (.slice (some ⟨b, off, none⟩) n cap) (.int .i64 i)).run Tryz.prog w = .ok (.pointer (some ⟨b, off + i * 20, none⟩)) w := by
  simp [Instr.indexAt, h, Addr.add, asIntOf]
def h0_ : List UInt8 := List.replicate 20 0
def h1_ : List UInt8 := 1 :: List.replicate 19 0
def h3_ : List UInt8 := 0 :: 0 :: 0 :: 255 :: List.replicate 16 0
def h5_ : List UInt8 := 5 :: List.replicate 19 0
def h9_ : List UInt8 := 9 :: List.replicate 19 0
theorem built0 : Tryz.prog.built 24 [] = some (h0_.map bv).toArray := by kernel_rfl
theorem built5 : Tryz.prog.built 24 [(0, .int .u8 5)] = some (h5_.map bv).toArray := by kernel_rfl
theorem built9 : Tryz.prog.built 24 [(0, .int .u8 9)] = some (h9_.map bv).toArray := by kernel_rfl
theorem build_hashes20 (w : World) (a0 a1 a2 a3 a4 a5 a6 a7 a8 a9 a10 a11 a12 a13 a14 a15 a16 a17 a18 a19 : UInt8) : (Instr.buildSlice 44 4 #[(0, .agg (h0_.map bv).toArray), (1, .agg ([a0, a1, a2, a3, a4, a5, a6, a7, a8, a9, a10, a11, a12, a13, a14, a15, a16, a17, a18, a19].map bv).toArray), (2, .agg (h1_.map bv).toArray), (3, .agg (h3_.map bv).toArray)]).run Tryz.prog w = .ok (.slice (some ⟨w.heap.size, 0, none⟩) 4 4) (w.alloc (.cells ((h0_ ++ [a0, a1, a2, a3, a4, a5, a6, a7, a8, a9, a10, a11, a12, a13, a14, a15, a16, a17, a18, a19] ++ h1_ ++ h3_).map bv).toArray 24)) := by kernel_rfl
theorem build_hashes (w : World) (T : List UInt8) (hT : T.length = 20) : (Instr.buildSlice 44 4 #[(0, .agg (h0_.map bv).toArray), (1, .agg (T.map bv).toArray), (2, .agg (h1_.map bv).toArray), (3, .agg (h3_.map bv).toArray)]).run Tryz.prog w = .ok (.slice (some ⟨w.heap.size, 0, none⟩) 4 4) (w.alloc (.cells ((h0_ ++ T ++ h1_ ++ h3_).map bv).toArray 24)) := by
  match T, hT with
  | [a0, a1, a2, a3, a4, a5, a6, a7, a8, a9, a10, a11, a12, a13, a14, a15, a16, a17, a18, a19], _ => exact build_hashes20 w a0 a1 a2 a3 a4 a5 a6 a7 a8 a9 a10 a11 a12 a13 a14 a15 a16 a17 a18 a19
theorem build_five20 (w : World) (a0 a1 a2 a3 a4 a5 a6 a7 a8 a9 a10 a11 a12 a13 a14 a15 a16 a17 a18 a19 b0 b1 b2 b3 b4 b5 b6 b7 b8 b9 b10 b11 b12 b13 b14 b15 b16 b17 b18 b19 : Value) (n1 n2 n3 n4 n5 : ByteArray) : (Instr.buildSlice 25 5 #[(0, .agg #[a0, a1, a2, a3, a4, a5, a6, a7, a8, a9, a10, a11, a12, a13, a14, a15, a16, a17, a18, a19, .string n1]), (1, .agg #[b0, b1, b2, b3, b4, b5, b6, b7, b8, b9, b10, b11, b12, b13, b14, b15, b16, b17, b18, b19, .string n2]), (2, .agg #[a0, a1, a2, a3, a4, a5, a6, a7, a8, a9, a10, a11, a12, a13, a14, a15, a16, a17, a18, a19, .string n3]), (3, .agg #[a0, a1, a2, a3, a4, a5, a6, a7, a8, a9, a10, a11, a12, a13, a14, a15, a16, a17, a18, a19, .string n4]), (4, .agg (pathC h9_ n5))]).run Tryz.prog w = .ok (.slice (some ⟨w.heap.size, 0, none⟩) 5 5) (w.alloc (.cells #[a0, a1, a2, a3, a4, a5, a6, a7, a8, a9, a10, a11, a12, a13, a14, a15, a16, a17, a18, a19, .string n1, b0, b1, b2, b3, b4, b5, b6, b7, b8, b9, b10, b11, b12, b13, b14, b15, b16, b17, b18, b19, .string n2, a0, a1, a2, a3, a4, a5, a6, a7, a8, a9, a10, a11, a12, a13, a14, a15, a16, a17, a18, a19, .string n3, a0, a1, a2, a3, a4, a5, a6, a7, a8, a9, a10, a11, a12, a13, a14, a15, a16, a17, a18, a19, .string n4, .int .u8 9, .int .u8 0, .int .u8 0, .int .u8 0, .int .u8 0, .int .u8 0, .int .u8 0, .int .u8 0, .int .u8 0, .int .u8 0, .int .u8 0, .int .u8 0, .int .u8 0, .int .u8 0, .int .u8 0, .int .u8 0, .int .u8 0, .int .u8 0, .int .u8 0, .int .u8 0, .string n5] 27)) := by kernel_rfl
theorem build_five (w : World) (H K : List UInt8) (hH : H.length = 20) (hK : K.length = 20) (n1 n2 n3 n4 n5 : ByteArray) : (Instr.buildSlice 25 5 #[(0, .agg (pathC H n1)), (1, .agg (pathC K n2)), (2, .agg (pathC H n3)), (3, .agg (pathC H n4)), (4, .agg (pathC h9_ n5))]).run Tryz.prog w =
    .ok (.slice (some ⟨w.heap.size, 0, none⟩) 5 5) (w.alloc (.cells (flatX [⟨H, n1, hH⟩, ⟨K, n2, hK⟩, ⟨H, n3, hH⟩, ⟨H, n4, hH⟩, ⟨h9_, n5, rfl⟩]).toArray 27)) := by
  match H, hH, K, hK with
  | [a0, a1, a2, a3, a4, a5, a6, a7, a8, a9, a10, a11, a12, a13, a14, a15, a16, a17, a18, a19], _, [b0, b1, b2, b3, b4, b5, b6, b7, b8, b9, b10, b11, b12, b13, b14, b15, b16, b17, b18, b19], _ => exact build_five20 w (bv a0) (bv a1) (bv a2) (bv a3) (bv a4) (bv a5) (bv a6) (bv a7) (bv a8) (bv a9) (bv a10) (bv a11) (bv a12) (bv a13) (bv a14) (bv a15) (bv a16) (bv a17) (bv a18) (bv a19) (bv b0) (bv b1) (bv b2) (bv b3) (bv b4) (bv b5) (bv b6) (bv b7) (bv b8) (bv b9) (bv b10) (bv b11) (bv b12) (bv b13) (bv b14) (bv b15) (bv b16) (bv b17) (bv b18) (bv b19) n1 n2 n3 n4 n5
theorem paths_block {w : World} {g : Nat} {O : List PathX} (h : w.heap[g]? = some (.cells (flatX O).toArray 27 (0, 0))) (n : Nat) (hn : n ≤ O.length) (cap : Nat) (hc : n ≤ cap) (hm : cap ≤ maxLen) : PathsIn (fun k => k = g) w (.slice (some ⟨g, 0, none⟩) n cap) (O.take n) := by
  have hl : (O.take n).length = n := by rw [List.length_take]; omega
  refine ⟨_, cap, by rw [hl], by omega, hm, (fun e => by cases e), fun _ => ⟨g, 0, rfl, rfl, fun i hi j u hu => ?_⟩⟩
  have hi2 : i < O.length := by rw [hl] at hi; omega
  have hj : j < 21 := by
    have := (List.getElem?_eq_some_iff.1 hu).1
    rwa [cellsX_length] at this
  rw [cell_of_row _ _ _ _ _ _ h, List.getElem?_toArray, show 0 + i * 21 + j = i * 21 + j by omega, flatX_get O i j hi2 hj]
  rw [List.getElem_take] at hu
  exact hu
end Go.Proofs.YtfkgdjoaoidkeaaGreat
namespace Go.Proofs.YtfkgdjoaoidkeaaGreat
open Go.RowKit Go.ChangeShapes
set_option linter.unusedVariables false
theorem load_hash16 (W : World) (g : Nat) (C : Array Value) (h : W.heap[g]? = some (.cells C 24 (0, 0))) (hi : (Tryz.prog.info? 24).map (·.size) = some C.size) :
    (Instr.loadAt 24 (.pointer (some ⟨g, 0, none⟩))).run Tryz.prog W = .ok (.agg C) W := by
  simp only [Instr.loadAt, Instr.sureAddr, Sem.run_bind, Sem.run_pure, Result.andThen_ok, run_loadVar_row W g _ _ C (0, 0) _ h Tryz.underlying24 rfl hi]
theorem tell16 {G : Nat → Prop} (W : World) (v : Value) (Y H K : List UInt8) (gp n : Nat) (PS : List PathX) (CH CK : Array Value) (hCH : CH = (H.map bv).toArray) (hCK : CK = (K.map bv).toArray) (hH : H.length = 20) (hK : K.length = 20)
    (hv : BytesIn G W v Y) (hp : W.heap[gp]? = some (.cells (flatX PS).toArray 27 (0, 0))) (hl : PS.length = 5) (hn : n ≤ 5) (hN : ∀ x ∈ PS, x.n.size ≤ 140737488351232) (hY : Y.length ≤ 1000) (hml : MlAt W) :
    Calls Tryz.prog 3 #[v, .agg CH, .agg CK, .slice (some ⟨gp, 0, none⟩) n 5] W fun e w' => e = .returned (.bool true) ∧ Fr (fun _ => False) W w' := by
  subst hCH hCK
  exact refsTell_any W v _ Y H K (PS.take n) hH hK (hv.mono (fun k hk _ => hk)) (fun k hk => hk) ((paths_block hp n (by omega) 5 hn (by unfold maxLen; omega)).mono (fun k hk _ => hk)) (by omega) (by rw [List.length_take]; omega) (fun x hx => hN x (List.mem_of_mem_take hx)) hml
theorem grow9 {b8 c8 b9 c9 z : Nat} {L8 L9 Y8 : List UInt8} {w0 W : World} (ty : TypeId) (h89 : b8 < b9) (h9z : b9 < z) (hz : z = w0.heap.size) (h8 : L8.length ≤ 1000) (h9 : L9.length ≤ 1000) (h90 : L9 ≠ []) (hI : I16 b8 c8 b9 c9 L8 L9 w0 W) :
    ∃ x W', (Builtin.append_ #[22, 22] ty #[.slice (some ⟨b9, 0, none⟩) L9.length c9, .slice (some ⟨b8, 0, none⟩) L8.length c8]).run Tryz.prog W = .ok x W' ∧ I16 b8 c8 b9 c9 L8 L9 w0 W' ∧ E16 b8 b9 z Y8 (L9 ++ L8) W W' ∧ OwnB (fun k => k = b9 ∨ z ≤ k) W' x (L9 ++ L8) := by
  obtain ⟨x, W', hrun, hc⟩ := run_append_case W ty b9 c9 _ L9 L8 hI.x9 hI.x8.bytes (by omega)
  obtain ⟨h1, h2, h3, h4, h5, h6⟩ := app16 (z := z) (by omega) h9z (by omega) (by have := hI.fr.size; omega) (by intro e; exact h90 (List.append_eq_nil_iff.1 e).1) hI.x9 hI.x8 hc
  exact ⟨x, W', hrun, ⟨hI.fr.trans h1 (fun k hk => .inl (.inr hk)), h3, h2⟩, ⟨h1.mono (fun k _ hk => .inr hk), fun y hy => h6 y Y8 hy, h5⟩, h4⟩
theorem grow8 {b8 c8 b9 c9 z : Nat} {L8 L9 Y9 : List UInt8} {w0 W : World} (ty : TypeId) (S : ByteArray) (h89 : b8 < b9) (h9z : b9 < z) (hz : z = w0.heap.size) (h8 : L8.length ≤ 1000) (hS : S.size ≤ 1000) (h80 : L8 ≠ []) (hI : I16 b8 c8 b9 c9 L8 L9 w0 W) :
    ∃ x W', (Builtin.append_ #[22, 9] ty #[.slice (some ⟨b8, 0, none⟩) L8.length c8, .string S]).run Tryz.prog W = .ok x W' ∧ I16 b8 c8 b9 c9 L8 L9 w0 W' ∧ E16 b8 b9 z (L8 ++ S.data.toList) Y9 W W' ∧ OwnB (fun k => k = b8 ∨ z ≤ k) W' x (L8 ++ S.data.toList) := by
  obtain ⟨x, W', hrun, hc⟩ := run_append_case_str W ty b8 c8 S L8 hI.x8 (by omega)
  obtain ⟨h1, h2, h3, h4, h5, h6⟩ := app16 (z := z) (by omega) (by omega) h9z (by have := hI.fr.size; omega) (by intro e; exact h80 (List.append_eq_nil_iff.1 e).1) hI.x8 hI.x9 hc
  exact ⟨x, W', hrun, ⟨hI.fr.trans h1 (fun k hk => .inl (.inl hk)), h2, h3⟩, ⟨h1.mono (fun k _ hk => .inl hk), h5, fun y hy => h6 y Y9 hy⟩, h4⟩
theorem cut_paths (w : World) (gp n : Nat) (hn : n ≤ 5) : (Instr.sliceAt 25 (.slice (some ⟨gp, 0, none⟩) 5 5) none (some (.int .i64 (n : Nat))) none).run Tryz.prog w = .ok (.slice (some ⟨gp, 0, none⟩) n 5) w :=
  run_cutTo w _ 27 21 Tryz.underlying25 (fun _ => by kernel_rfl) gp 0 5 5 n hn
theorem cut_bytes16 {F : Nat → Prop} (W : World) (g c n : Nat) (s : List UInt8) (hs : s.length = 32) (hn : n ≤ 32) (h : BytesIn F W (.slice (some ⟨g, 0, none⟩) 32 c) s) :
    (Instr.sliceAt 22 (.slice (some ⟨g, 0, none⟩) 32 c) none (some (.int .i64 (n : Nat))) none).run Tryz.prog W = .ok (.slice (some ⟨g, 0, none⟩) n c) W ∧ BytesIn F W (.slice (some ⟨g, 0, none⟩) n c) (s.take n) := by
  have hc : 32 ≤ c := by
    obtain ⟨ao, cap, hv, h1, _⟩ := h
    simp only [Value.slice.injEq] at hv
    obtain ⟨_, _, rfl⟩ := hv
    omega
  exact ⟨run_cutTo W _ 5 1 Tryz.underlying22 (fun _ => by kernel_rfl) g 0 32 c n (by omega), h.take n (by omega)⟩
theorem conv16 (W : World) (S : ByteArray) (s : List UInt8) (hS : S.size = 32) (hs : S.data.toList = s) (b8 b9 : Nat) (h8 : b8 < W.heap.size) (h9 : b9 < W.heap.size) :
    ∃ g c W', (convert 9 22 (.string S)).run Tryz.prog W = .ok (.slice (some ⟨g, 0, none⟩) 32 c) W' ∧ Fr (fun _ => False) W W' ∧ BytesIn (fun k => k ≠ b8 ∧ k ≠ b9) W' (.slice (some ⟨g, 0, none⟩) 32 c) s := by
  obtain ⟨cap, W', h1, h2, h3, _⟩ := run_tag W S (by rw [hS]; unfold maxLen; omega)
  rw [hS] at h1 h3
  rw [hs] at h3
  exact ⟨_, cap, W', h1, h2, h3.mono (fun k _ hk => by have hk' : k = W.heap.size := hk; omega)⟩
theorem wpList_build {P : Program} {ops : Array Oper} {rest : List Oper} {o : Oper} {a : Act} {w : World} {Q : Exit → Act → World → Prop} {t : TypeId} (ps : Array (Nat × Operand)) (vs : List (Nat × Value)) {cells : Array Value} (hgd : o.guard = none) (ho : o.op = .build t ps)
    (hp : (ps.map fun x => (x.1, a.eval x.2)).toList = vs) (hc : P.built t vs = some cells) (h : wpList P ops Q rest (a.put o.dst (.agg cells)) w) : wpList P ops Q (o :: rest) a w :=
  wpList_value hgd (.agg cells) w (op_build ho rfl (by rw [hp]; exact hc)) h
theorem lit0 : (#[.int .u8 0, .int .u8 0, .int .u8 0, .int .u8 0, .int .u8 0, .int .u8 0, .int .u8 0, .int .u8 0, .int .u8 0, .int .u8 0, .int .u8 0, .int .u8 0, .int .u8 0, .int .u8 0, .int .u8 0, .int .u8 0, .int .u8 0, .int .u8 0, .int .u8 0, .int .u8 0] : Array Value) = (h0_.map bv).toArray := by kernel_rfl
theorem lit1 : (#[.int .u8 1, .int .u8 0, .int .u8 0, .int .u8 0, .int .u8 0, .int .u8 0, .int .u8 0, .int .u8 0, .int .u8 0, .int .u8 0, .int .u8 0, .int .u8 0, .int .u8 0, .int .u8 0, .int .u8 0, .int .u8 0, .int .u8 0, .int .u8 0, .int .u8 0, .int .u8 0] : Array Value) = (h1_.map bv).toArray := by kernel_rfl
theorem tell_none (W : World) (Z0 : Array Value) (hZ0 : Z0 = (h0_.map bv).toArray) (hm : MlAt W) : Calls Tryz.prog 3 #[.slice none 0 0, .agg Z0, .agg Z0, .slice none 0 0] W fun e w' => e = .returned (.bool true) ∧ Fr (fun _ => False) W w' := by
  rw [hZ0]
  exact refsTell_any (F := fun _ => False) W _ _ [] h0_ h0_ [] rfl rfl (BytesIn.nil _ _) (fun _ h => h.elim) (PathsIn.nil _ _) (by simp) (by simp) (fun x hx => by simp at hx) hm
theorem tell_zero (w1 w70 : World) (Z0 Z1 : Array Value) (hZ0 : Z0 = (h0_.map bv).toArray) (hZ1 : Z1 = (h1_.map bv).toArray) (hw : w70 = w1.alloc (.cells ((List.replicate 70 (0 : UInt8)).map bv).toArray 5)) (hm : MlAt w1) : Calls Tryz.prog 3 #[.slice (some ⟨w1.heap.size, 0, none⟩) 70 70, .agg Z0, .agg Z1, .slice none 0 0] w70 fun e w' => e = .returned (.bool true) ∧ Fr (fun _ => False) w1 w' ∧ MlAt w' := by
  rw [hZ0, hZ1]
  have hf : Fr (fun _ => False) w1 w70 := by rw [hw]; exact (Fr.refl _ _).alloc _
  have hb : BytesIn (fun k => k = w1.heap.size) w70 (.slice (some ⟨w1.heap.size, 0, none⟩) 70 70) (List.replicate 70 0) := by
    have h : Byt w70 w1.heap.size (List.replicate 70 0) := by rw [hw]; exact Byt.new w1 _
    have h2 := h.bytes (by rw [List.length_replicate]; unfold maxLen; omega)
    rwa [List.length_replicate] at h2
  have hs : w1.heap.size < w70.heap.size := by rw [hw]; simp
  exact (refsTell_any (F := fun k => k = w1.heap.size) w70 _ _ _ h0_ h1_ [] rfl rfl hb (fun k hk => by omega) (PathsIn.nil _ _) (by rw [List.length_replicate]; omega) (by simp) (fun x hx => by simp at hx) (hm.keep hf (fun h => h))).mono fun e w' h => ⟨h.1, hf.trans h.2 (fun _ h => h.elim), (hm.keep hf (fun h => h)).keep h.2 (fun h => h)⟩
end Go.Proofs.YtfkgdjoaoidkeaaGreat
