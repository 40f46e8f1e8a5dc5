/- Laid together: TUp TKeep TK TAwk -/
import Derived.Test.YtldgcoikbjbjeaaGreatTk27
import Derived.Test.YtldgcoikbjbjeaaGreatTk28
import Derived.Deep.RegionHeldLaw
import Derived.Test.YtldgcoikbjbjeaaGreatTk22

namespace Go.Proofs.YtldgcoikbjbjeaaGreat
open Go.RowKit Go.ChangeShapes Go.Maps Go.WideMaps
set_option linter.unusedVariables false
section
variable {F S : Nat → Prop} {w w' : World} {tb mb jn g l la d : Nat} {h : Hd} {M : Tab}
set_option maxRecDepth 100000 in
set_option maxHeartbeats 1000000 in
theorem isDown_any (hT : TbRow F w tb mb jn la M) (hj : JnAt w jn g h l la d false) (h1 : 1 ≤ h.round) (h2 : h.round ≤ 1099511627776) :
    Calls Tryz.prog 63 #[.pointer (some ⟨tb, 0, none⟩)] w fun e w' => e = .returned (.bool false) ∧ Fr (fun _ => False) w w' := by
  obtain ⟨c2, c3, c4⟩ := TbRow.cells hT
  have HR := Lib.hid (jRound_any w jn g h l la d hj)
  have d0 : decide ((h.round : Int) = 0) = false := decide_eq_false (by omega)
  obtain ⟨r, hr⟩ : ∃ r, r = h.round := ⟨_, rfl⟩
  rw [← hr] at HR d0 h1 h2
  clear hT hj hr
  go_enter Tryz.func63, Tryz.ntmps63
  go_wp2_with (go_at_call 103; refine HR.out.mono ?_; rintro e w1 ⟨rfl, hf1⟩)
  go_ret
  exact ⟨by simp; omega, hf1⟩
set_option maxRecDepth 100000 in
set_option maxHeartbeats 1000000 in
theorem ready_any (hT : TbRow F w tb mb jn la M) (hj : JnAt w jn g h l la d false) (h1 : 1 ≤ h.round) (h2 : h.round ≤ 1099511627776) :
    Calls Tryz.prog 33 #[.pointer (some ⟨tb, 0, none⟩)] w fun e w' => e = .returned (.int .i64 0) ∧ Fr (fun _ => False) w w' := by
  have HS := Lib.hid (isStore_any hT)
  have HD := Lib.hid (isDown_any hT hj h1 h2)
  clear hT hj
  go_enter Tryz.func33, Tryz.ntmps33
  go_wp2_with (first
    | (go_at_call 41; refine HS.out.mono ?_; rintro e w1 ⟨rfl, rfl⟩)
    | (go_at_call 63; refine HD.out.mono ?_; rintro e w1 ⟨rfl, hf1⟩))
  go_ret
  exact ⟨rfl, hf1⟩
end
theorem LgAt.made {w0 w : World} {jn g s l la d : Nat} {h : Hd} {dn : Bool} {dv : Dv} {X D : Nat → Prop} (hj : JnAt w jn g h l la d dn) (hd : DevAt w D g s dv) (hD : ∀ k, D k → w0.heap.size ≤ k ∧ k < w.heap.size ∧ k ≠ jn ∧ ¬ X k) (hl : w0.heap.size ≤ jn ∧ ¬ X jn) (hX : ∀ k, X k → k < w.heap.size) (hf : Fr (fun _ => False) w0 w) : LgAt w0 w jn g s l la d h dn dv X := ⟨hj, ⟨D, hd, hD⟩, hl, hX, hf⟩
def bareW (w : World) : World := { w with heap := #[] }
theorem bareW_fr (w : World) : Fr (fun _ => False) (bareW w) w := ⟨rfl, rfl, rfl, Nat.zero_le _, fun k hk => by simp [bareW] at hk⟩
def OpPost (l la d g : Nat) (h : Hd) (M : Tab) (w : World) (e : Ending) (w' : World) : Prop :=
  ∃ (tb mb jn : Nat) (F : Nat → Prop), e = .returned (.tuple #[.pointer (some ⟨tb, 0, none⟩), .int .i64 0]) ∧ JnAt w' jn g h l la d false ∧ TbRow F w' tb mb jn la M ∧ (w.heap.size ≤ tb ∧ w.heap.size ≤ mb ∧ w.heap.size ≤ jn ∧ jn ≠ tb ∧ jn ≠ mb ∧ ¬ F jn) ∧ (∀ k, F k → w.heap.size ≤ k ∧ k < w'.heap.size) ∧ Fr (fun _ => False) w w'
set_option maxRecDepth 100000 in
set_option maxHeartbeats 4000000 in
theorem tOpen_any {D : Nat → Prop} (w : World) (g l la d s : Nat) (dv : Dv) (h : Hd) {B : Bs} {R : List Bs} {M M0 : Tab} {Ls : List (List Chg)} (hok : ShOk l la d s) (hd : DevAt w D g s dv) (hup : dv.down = false) (hw : dv.waits = []) (k : Kp dv.all l la s h B R) (kt : KpT M B R M0 Ls) (hfit : tLen M ≤ 64 * la) :
    Calls Tryz.prog 11 #[.pointer (some ⟨g, 0, none⟩), .agg #[.int .i64 l, .int .i64 la, .int .i64 d]] w (OpPost l la d g h M w) := by
  obtain ⟨W1, hW1⟩ : ∃ W1, W1 = w.alloc (.cells #[.int .i64 l, .int .i64 la, .int .i64 d] 23) := ⟨_, rfl⟩
  have hf1 : Fr (fun _ => False) w W1 := by rw [hW1]; exact (Fr.refl _ _).alloc _
  have hz1 : W1.heap.size = w.heap.size + 1 := by rw [hW1]; simp
  have hr1 : W1.heap[w.heap.size]? = some (.cells #[.int .i64 l, .int .i64 la, .int .i64 d] 23 (0, 0)) := by rw [hW1]; exact heap_alloc_new w _
  have HOP := Lib.hid (lOpen_any W1 g l la d s dv h B R hok (hd.keep hf1 (fun _ _ _ h => h)) hup hw k)
  have HRO := Lib.hid (fun (w2 : World) (jn : Nat) (hf : Fr (fun _ => False) w w2) (hj : JnAt w2 jn g h l la d false) (hjn : w.heap.size ≤ jn) => rowsOf_any (LgAt.made (w0 := bareW w2) (X := fun _ => False) hj (((hd.mono (E := fun k => D k ∧ k < w.heap.size) (fun k hk hD => ⟨hD, hk⟩)).keep hf (fun _ _ _ h => h))) (fun k hk => ⟨Nat.zero_le _, Nat.lt_of_lt_of_le hk.2 hf.size, fun e => by have := hk.2; omega, id⟩) ⟨Nat.zero_le _, id⟩ (fun _ h => h.elim) (bareW_fr w2)) hok hup hw k kt)
  have HW := Lib.hid (And.intro hW1 (And.intro hf1 (And.intro hz1 hr1)))
  have HK := Lib.hid (And.intro hfit kt.ok)
  have HE := Lib.hid (show ((la : Nat) : Int) * 64 = ((64 * la : Nat) : Int) by omega)
  have HT := Lib.hid (fun (w3 : World) (mb jn : Nat) (F : Nat → Prop) (hm : TMt F w3 mb M) (hF : ¬ F mb) (hFF : ∀ k, F k → k < w3.heap.size) => (⟨heap_alloc2_new w3 _ _, (hm.keep ((Fr.refl (fun _ => False) w3).alloc _) id (fun _ _ _ h => h)).keep ((Fr.refl (fun _ => False) _).alloc _) id (fun _ _ _ h => h), kt.ok.1, by have := kt.ok.2; omega, by have := hm.lt; omega, fun hh => by have := hFF _ hh; omega, hF⟩ : TbRow F ((w3.alloc (.cells #[.map (some mb), .int .i64 (tSum M : Nat)] 81)).alloc (.cells #[.map (some mb), .int .i64 (tSum M : Nat), .pointer (some ⟨jn, 0, none⟩), .int .i64 (64 * la : Nat), .pointer (some ⟨w3.heap.size + 1, 0, none⟩)] 85)) (w3.heap.size + 1) mb jn la M))
  have hla := hok.la8
  clear hW1 hf1 hz1 hr1 hd hup hw k kt hfit hok
  go_enter Tryz.func11, Tryz.ntmps11
  go_wp2_with (first
    | (go_at_call 27; rw [← HW.out.1]; refine HOP.out.mono ?_; rintro e w2 ⟨jn, rfl, hz2, hj2, hf2⟩; (have H2 := Lib.hid (And.intro hz2 (And.intro hj2 (And.intro (HW.out.2.1.trans hf2 (fun _ h => h.elim)) (hf2.heap HW.out.2.2.2 id))))); clear hz2 hj2 hf2)
    | (go_at_call 28; refine (HRO.out w2 jn H2.out.2.2.1 H2.out.2.1 (by have := H2.out.1; have := HW.out.2.2.1; omega)).mono ?_; rintro e w3 ⟨mb, F, rfl, hz3, hm3, hF3, hFF, hf3⟩; (have sh1 : (w3.alloc (.cells #[.map (some mb), .int .i64 (tSum M : Nat)] 81)).cell? ⟨w.heap.size, 1, none⟩ = some (.int .i64 (la : Nat)) := cell_of_row _ _ _ _ _ _ (((Fr.refl (fun _ => False) w3).alloc _).heap (hf3.heap H2.out.2.2.2 id) id)); (have H3 := Lib.hid (And.intro hz3 (And.intro hm3 (And.intro hF3 (And.intro hFF hf3))))); clear hz3 hm3 hF3 hFF hf3)
    | (go_at_call 29; rw [HE.out]; refine (fits_any (HT.out w3 mb jn F H3.out.2.1 H3.out.2.2.1 (fun k hk => (H3.out.2.2.2.1 k hk).2))).mono ?_; rw [decide_eq_true (And.intro HK.out.2.2 HK.out.1)]; rintro e w5 ⟨rfl, hf5⟩; (have H5 := Lib.hid hf5); clear hf5))
  go_ret2
  have ht := HT.out w3 mb jn F H3.out.2.1 H3.out.2.2.1 (fun k hk => (H3.out.2.2.2.1 k hk).2)
  obtain ⟨hz3, hm3, hF3, hFF, hf3⟩ := H3.out
  have hf4 : Fr (fun _ => False) w3 w5 := (((Fr.refl _ w3).alloc _).alloc _).trans H5.out (fun _ h => h.elim)
  have hz2 := H2.out.2.2.1.size
  have hz := H2.out.1
  have hzw := HW.out.2.2.1
  have hjl := H2.out.2.1.lt
  have h3z := hf3.size
  have hml := hm3.lt
  exact ⟨_, mb, jn, F, rfl, (H2.out.2.1.keep hf3 id).keep hf4 id, RwAt.quiet ht H5.out, ⟨by omega, by omega, by omega, by omega, by omega, fun hh => by have := hFF jn hh; omega⟩, fun k hk => ⟨by have := hFF k hk; omega, by have := hFF k hk; have := hf4.size; omega⟩, (H2.out.2.2.1.trans hf3 (fun _ h => h.elim)).trans hf4 (fun _ h => h.elim)⟩
end Go.Proofs.YtldgcoikbjbjeaaGreat
namespace Go.Proofs.YtldgcoikbjbjeaaGreat
open Go.RowKit Go.ChangeShapes Go.Maps Go.WideMaps
set_option linter.unusedVariables false
section
variable {w0 W : World} {jn g s l la d tb mb : Nat} {h : Hd} {dv : Dv} {X F G : Nat → Prop} {M : Tab}
set_option maxRecDepth 100000 in
set_option maxHeartbeats 1000000 in
theorem keep_full (hT : TbRow F W tb mb jn la M) (v : Value) (hno : ¬ (M.length ≤ 4000 ∧ tLen M ≤ 64 * la)) :
    Calls Tryz.prog 37 #[.pointer (some ⟨tb, 0, none⟩), v] W fun e w' => e = .returned (.int .i64 7) ∧ Fr (fun _ => False) W w' := by
  have hf := fits_any hT
  rw [decide_eq_false hno] at hf
  have HF := Lib.hid hf
  clear hf hT hno
  go_enter Tryz.func37, Tryz.ntmps37
  go_wp2_with (go_at_call 29; refine HF.out.mono ?_; rintro e w1 ⟨rfl, hf1⟩)
  go_ret
  exact ⟨rfl, hf1⟩
set_option maxRecDepth 100000 in
set_option maxHeartbeats 4000000 in
theorem keep_app (H : LgAt w0 W jn g s l la d h false dv X) (hok : ShOk l la d s) (hr : h.Right l la) (hT : TbRow F W tb mb jn la M) (v : Value) (L : List ChgD) (hL : ChgsIn G W v L) (hG : ∀ k, G k → k < W.heap.size) (hcs : ∀ p ∈ L, chgOk p.chg) (hn : L.length ≤ 400) (hfit : M.length ≤ 4000 ∧ tLen M ≤ 64 * la)
    (hc1 : (recB (chgsB (L.map ChgD.chg))).length ≤ 64 * l - h.used) (hc2 : h.round < 1099511627776) (hup : dv.down = false) (hw : dv.waits = []) (hk6 : dv.deeds ≤ 900000000) :
    Calls Tryz.prog 37 #[.pointer (some ⟨tb, 0, none⟩), v] W (LgPost w0 W jn g s l la d h ⟨h.area, h.size, h.used + (recB (chgsB (L.map ChgD.chg))).length, h.round + 1⟩ (dv.commit s (secsAt dv.all (64 + h.used) (recB (chgsB (L.map ChgD.chg)))) (Hd.sec ⟨h.area, h.size, h.used + (recB (chgsB (L.map ChgD.chg))).length, h.round + 1⟩)) X) := by
  have hf := fits_any hT
  rw [decide_eq_true hfit] at hf
  have HF := Lib.hid hf
  obtain ⟨R, hR⟩ : ∃ R, R = chgsB (L.map ChgD.chg) := ⟨_, rfl⟩
  have hRl : R.length ≤ 1048576 := by
    have h1 := chg_bytes_le (L.map ChgD.chg) (fun c hc => by obtain ⟨p, hp, rfl⟩ := List.mem_map.1 hc; exact hcs p hp)
    have h2 := (numBytes_len 5 (L.map ChgD.chg).length).2
    rw [List.length_map] at h1
    rw [hR, chgsB, List.length_append]
    omega
  have HCB := Lib.hid (fun (w1 : World) (hf1 : Fr (fun _ => False) W w1) => changesBytes_any w1 v L (hL.keep hf1 (fun _ _ _ h => h)) (fun k hk => by have := hG k hk; have := hf1.size; omega) hcs (by omega))
  rw [← hR] at HCB hc1 ⊢
  obtain ⟨c2, c3, c4⟩ := TbRow.cells hT
  have HC := Lib.hid (fun (w1 : World) (hf1 : Fr (fun _ => False) W w1) => (hf1.cell c2 id : w1.cell? ⟨tb, 2, none⟩ = some (.pointer (some ⟨jn, 0, none⟩))))
  have hu : h.used ≤ 64 * l := hr.used
  have HRM := Lib.hid (fun (w1 : World) (hf1 : Fr (fun _ => False) W w1) => gRoom (H.quiet hf1) hok hu)
  have HAP := Lib.hid (fun (w1 : World) (vb : Value) (hf1 : Fr (fun _ => False) W w1) (hb : BytesIn (fun k => W.heap.size ≤ k) w1 vb R) => gAppend (H.quiet hf1) hok hr vb R hRl hb hc1 hc2 hup hw hk6)
  have HTL := Lib.hid (fun (w1 : World) (vb : Value) (hb : BytesIn (fun k => W.heap.size ≤ k) w1 vb R) => textLength_any w1 vb R hb (by omega))
  obtain ⟨tl, htl⟩ : ∃ tl, tl = (recB R).length := ⟨_, rfl⟩
  obtain ⟨rm, hrm⟩ : ∃ rm, rm = 64 * l - h.used := ⟨_, rfl⟩
  have dl : decide ((tl : Int) ≤ (rm : Int)) = true := decide_eq_true (by omega)
  have dl2 : decide (tl ≤ rm) = true := decide_eq_true (by omega)
  rw [← htl] at HTL
  rw [← hrm] at HRM
  obtain ⟨rl, hrl⟩ : ∃ rl, rl = R.length := ⟨_, rfl⟩
  rw [← hrl] at HCB
  clear hf H hok hr hT hL hG hcs hfit hR hRl hc1 hc2 hup hw hk6 c3 c4 hu htl hrm hrl
  go_enter Tryz.func37, Tryz.ntmps37
  go_wp2_with (first
    | (go_at_call 29; refine HF.out.mono ?_; rintro e w1 ⟨rfl, hf1⟩; (have H1 := Lib.hid hf1); clear hf1)
    | (go_at_call 71; refine (HCB.out w1 H1.out).mono ?_; rintro e w2 ⟨a2, cp2, rfl, hb2, hf2⟩; (have c2 := HC.out w2 (H1.out.trans hf2 (fun _ h => h.elim))); (have H2 := Lib.hid (And.intro (H1.out.trans hf2 (fun _ h => h.elim)) (hb2.mono (G := fun k => W.heap.size ≤ k) (fun k _ hk => Nat.le_trans H1.out.size hk)))); clear hb2 hf2))
  have H2d := Lib.hid (And.intro (H2.out.1.trans (Fr.refl (fun _ => False) w2).drew (fun _ h => h.elim)) (H2.out.2.keep (Fr.refl (fun _ => False) w2).drew (fun _ _ _ h => h)))
  go_region_held_law (fun w' => w'.cell? ⟨tb, 2, none⟩ = some (.pointer (some ⟨jn, 0, none⟩))) (first | assumption | go_keep) (first
    | (go_at_call 72; (first | (with_reducible refine (HTL.out _ _ H3.out.2).mono ?_) | (with_reducible refine (HTL.out _ _ H2d.out.2).mono ?_)); rintro e w3 ⟨rfl, hf3⟩; (first | (have H4 := Lib.hid (And.intro (H3.out.1.trans hf3 (fun _ h => h.elim)) (H3.out.2.keep hf3 (fun _ _ _ h => h))); have c2 := HC.out w3 H4.out.1) | (have H3 := Lib.hid (And.intro (H2d.out.1.trans hf3 (fun _ h => h.elim)) (H2d.out.2.keep hf3 (fun _ _ _ h => h))); have c2 := HC.out w3 H3.out.1)); clear hf3)
    | (go_at_call 73; (first | (with_reducible refine (HRM.out _ H3.out.1).mono ?_) | (with_reducible refine (HRM.out _ H2d.out.1).mono ?_)); rintro e w3 ⟨rfl, hf3⟩; (first | (have H4 := Lib.hid (And.intro (H3.out.1.trans hf3 (fun _ h => h.elim)) (H3.out.2.keep hf3 (fun _ _ _ h => h))); have c2 := HC.out w3 H4.out.1) | (have H3 := Lib.hid (And.intro (H2d.out.1.trans hf3 (fun _ h => h.elim)) (H2d.out.2.keep hf3 (fun _ _ _ h => h))); have c2 := HC.out w3 H3.out.1)); clear hf3))
  all_goals (
    go_wp2_with (go_at_call 74; refine (HAP.out _ _ H4.out.1 H4.out.2).mono ?_; rintro e w5 ⟨rfl, hl5, hf5⟩; (have H5 := Lib.hid (And.intro hl5 hf5)); clear hl5 hf5)
    go_ret
    exact ⟨rfl, H5.out.1, (H4.out.1.mono (fun _ _ h => h.elim)).trans H5.out.2 (fun _ h => .inl h)⟩)
set_option maxRecDepth 100000 in
set_option maxHeartbeats 4000000 in
theorem keep_switch (H : LgAt w0 W jn g s l la d h false dv X) (hok : ShOk l la d s) (hr : h.Right l la) (hT : TbRow F W tb mb jn la M) (hF : ∀ k, F k → k < W.heap.size) (htb : ¬ LgT w0 X tb) (v : Value) (L : List ChgD) (hL : ChgsIn G W v L) (hG : ∀ k, G k → k < W.heap.size) (hcs : ∀ p ∈ L, chgOk p.chg) (hn : L.length ≤ 400) (hfit : M.length ≤ 4000 ∧ tLen M ≤ 64 * la)
    (hc1 : ¬ (recB (chgsB (L.map ChgD.chg))).length ≤ 64 * l - h.used) (hc2 : h.round < 1099511627776) (hup : dv.down = false) (hw : dv.waits = []) (hk6 : dv.deeds ≤ 900000000) :
    Calls Tryz.prog 37 #[.pointer (some ⟨tb, 0, none⟩), v] W (LgPost w0 W jn g s l la d h ⟨1 - h.area, (rowsB M).length, 0, h.round + 1⟩ (dv.commit s (secsAt dv.all (areaAt l la (1 - h.area)) (rowsB M)) (Hd.sec ⟨1 - h.area, (rowsB M).length, 0, h.round + 1⟩)) X) := by
  have hf := fits_any hT
  rw [decide_eq_true hfit] at hf
  have HF := Lib.hid hf
  obtain ⟨R, hR⟩ : ∃ R, R = chgsB (L.map ChgD.chg) := ⟨_, rfl⟩
  have hRl : R.length ≤ 1048576 := by
    have h1 := chg_bytes_le (L.map ChgD.chg) (fun c hc => by obtain ⟨p, hp, rfl⟩ := List.mem_map.1 hc; exact hcs p hp)
    have h2 := (numBytes_len 5 (L.map ChgD.chg).length).2
    rw [List.length_map] at h1
    rw [hR, chgsB, List.length_append]
    omega
  have HCB := Lib.hid (fun (w1 : World) (hf1 : Fr (fun _ => False) W w1) => changesBytes_any w1 v L (hL.keep hf1 (fun _ _ _ h => h)) (fun k hk => by have := hG k hk; have := hf1.size; omega) hcs (by omega))
  rw [← hR] at HCB hc1
  obtain ⟨c2, c3, c4⟩ := TbRow.cells hT
  have HC := Lib.hid (fun (w1 : World) (hf1 : Fr (fun _ => False) W w1) => (hf1.cell c2 id : w1.cell? ⟨tb, 2, none⟩ = some (.pointer (some ⟨jn, 0, none⟩))))
  have hu : h.used ≤ 64 * l := hr.used
  have HRM := Lib.hid (fun (w1 : World) (hf1 : Fr (fun _ => False) W w1) => gRoom (H.quiet hf1) hok hu)
  have HSW := Lib.hid (fun (w1 : World) (vb : Value) (hf1 : Fr (fun _ => False) W w1) (hb : BytesIn (fun k => W.heap.size ≤ k) w1 vb (rowsB M)) => gSwitch (H.quiet hf1) hok hr vb (rowsB M) hb (by rw [rowsB_length]; exact hfit.2) hc2 hup hw hk6)
  have HBY := Lib.hid (fun (w1 : World) (hf1 : Fr (fun _ => False) W w1) => callsIn_wide.1 (tBytes_in w1 (RwAt.quiet hT hf1) (fun k hk => by have := hF k hk; have := hf1.size; omega)))
  have HTL := Lib.hid (fun (w1 : World) (vb : Value) (hb : BytesIn (fun k => W.heap.size ≤ k) w1 vb R) => textLength_any w1 vb R hb (by omega))
  obtain ⟨tl, htl⟩ : ∃ tl, tl = (recB R).length := ⟨_, rfl⟩
  obtain ⟨rm, hrm⟩ : ∃ rm, rm = 64 * l - h.used := ⟨_, rfl⟩
  have dl : decide ((tl : Int) ≤ (rm : Int)) = false := decide_eq_false (by omega)
  have dl2 : decide (tl ≤ rm) = false := decide_eq_false (by omega)
  rw [← htl] at HTL
  rw [← hrm] at HRM
  obtain ⟨rl, hrl⟩ : ∃ rl, rl = R.length := ⟨_, rfl⟩
  rw [← hrl] at HCB
  clear hf H hok hr hT hF hL hG hcs hfit hR hRl hc1 hc2 hup hw hk6 c3 c4 hu htl hrm hrl
  go_enter Tryz.func37, Tryz.ntmps37
  go_wp2_with (first
    | (go_at_call 29; refine HF.out.mono ?_; rintro e w1 ⟨rfl, hf1⟩; (have H1 := Lib.hid hf1); clear hf1)
    | (go_at_call 71; refine (HCB.out w1 H1.out).mono ?_; rintro e w2 ⟨a2, cp2, rfl, hb2, hf2⟩; (have c2 := HC.out w2 (H1.out.trans hf2 (fun _ h => h.elim))); (have H2 := Lib.hid (And.intro (H1.out.trans hf2 (fun _ h => h.elim)) (hb2.mono (G := fun k => W.heap.size ≤ k) (fun k _ hk => Nat.le_trans H1.out.size hk)))); clear hb2 hf2))
  have H2d := Lib.hid (And.intro (H2.out.1.trans (Fr.refl (fun _ => False) w2).drew (fun _ h => h.elim)) (H2.out.2.keep (Fr.refl (fun _ => False) w2).drew (fun _ _ _ h => h)))
  go_region_held_law (fun w' => w'.cell? ⟨tb, 2, none⟩ = some (.pointer (some ⟨jn, 0, none⟩))) (first | assumption | go_keep) (first
    | (go_at_call 72; (first | (with_reducible refine (HTL.out _ _ H3.out.2).mono ?_) | (with_reducible refine (HTL.out _ _ H2d.out.2).mono ?_)); rintro e w3 ⟨rfl, hf3⟩; (first | (have H4 := Lib.hid (And.intro (H3.out.1.trans hf3 (fun _ h => h.elim)) (H3.out.2.keep hf3 (fun _ _ _ h => h))); have c2 := HC.out w3 H4.out.1) | (have H3 := Lib.hid (And.intro (H2d.out.1.trans hf3 (fun _ h => h.elim)) (H2d.out.2.keep hf3 (fun _ _ _ h => h))); have c2 := HC.out w3 H3.out.1)); clear hf3)
    | (go_at_call 73; (first | (with_reducible refine (HRM.out _ H3.out.1).mono ?_) | (with_reducible refine (HRM.out _ H2d.out.1).mono ?_)); rintro e w3 ⟨rfl, hf3⟩; (first | (have H4 := Lib.hid (And.intro (H3.out.1.trans hf3 (fun _ h => h.elim)) (H3.out.2.keep hf3 (fun _ _ _ h => h))); have c2 := HC.out w3 H4.out.1) | (have H3 := Lib.hid (And.intro (H2d.out.1.trans hf3 (fun _ h => h.elim)) (H2d.out.2.keep hf3 (fun _ _ _ h => h))); have c2 := HC.out w3 H3.out.1)); clear hf3))
  all_goals (
    have H4d := Lib.hid (H4.out.1.trans (Fr.refl (fun _ => False) w3).drew (fun _ h => h.elim))
    obtain ⟨rb, hrb⟩ : ∃ rb, rb = rowsB M := ⟨_, rfl⟩
    go_wp2_with fail
    go_region_held_law (fun w' => w'.cell? ⟨tb, 2, none⟩ = some (.pointer (some ⟨jn, 0, none⟩))) (first | assumption | go_keep) (first
      | (go_at_call 76; (with_reducible refine (HBY.out _ H4d.out).mono ?_); rintro e w5 ⟨a5, c5, rfl, ho5, hf5⟩; (have H5 := Lib.hid (And.intro (H4d.out.trans hf5 (fun _ h => h.elim)) (ho5.bytes.mono (G := fun k => W.heap.size ≤ k) (fun k _ hk => Nat.le_trans H4d.out.size hk)))); (have c2 := HC.out w5 H5.out.1); clear ho5 hf5)
      | (go_at_call 75; (with_reducible refine (HSW.out _ _ H5.out.1 H5.out.2).mono ?_); rintro e w6 ⟨rfl, hl6, hf6⟩; (have c2 := hf6.cell c2 htb); (have H6 := Lib.hid (And.intro hl6 hf6)); clear hl6 hf6))
    all_goals (
      go_wp2_with fail
      go_ret
      exact ⟨rfl, H6.out.1, (H5.out.1.mono (fun _ _ h => h.elim)).trans H6.out.2 (fun _ h => .inl h)⟩))
end
end Go.Proofs.YtldgcoikbjbjeaaGreat
namespace Go.Proofs.YtldgcoikbjbjeaaGreat
open Go.RowKit Go.ChangeShapes Go.Maps Go.WideMaps
set_option linter.unusedVariables false
structure TgK (dv : Dv) (l la s : Nat) (h : Hd) (M : Tab) (i : Nat) : Prop where
  up : dv.down = false
  waits : dv.waits = []
  kept : ∃ B R M0 Ls, Kp dv.all l la s h B R ∧ KpT M B R M0 Ls
  fit : tLen M ≤ 64 * la
  deeds : dv.deeds ≤ 2 + 100 * i
  round : h.round ≤ 1 + i
section
variable {dv : Dv} {l la s : Nat} {h h' : Hd} {M M' M0 M0' : Tab} {i : Nat} {B B' : Bs} {R R' : List Bs} {Ls Ls' : List (List Chg)}
theorem TgK.later (H : TgK dv l la s h M i) {j : Nat} (hj : i ≤ j) : TgK dv l la s h M j := ⟨H.up, H.waits, H.kept, H.fit, by have := H.deeds; omega, by have := H.round; omega⟩
theorem TgK.ok (H : TgK dv l la s h M i) : tabOk M ∧ M.length ≤ 4000 := by obtain ⟨_, _, _, _, _, k⟩ := H.kept; exact k.ok
theorem TgK.right (H : TgK dv l la s h M i) : h.Right l la := by obtain ⟨_, _, _, _, k, _⟩ := H.kept; exact k.right
theorem TgK.fuse (H : TgK dv l la s h M i) (n : Int) : TgK (dv.fuse n).2 l la s h M i := by
  unfold Dv.fuse
  rw [if_neg (by rw [H.up]; decide)]
  exact ⟨H.up, H.waits, H.kept, H.fit, H.deeds, H.round⟩
def ToldG (r : Int) (dn : Bool) (dv : Dv) (l la s : Nat) (h : Hd) (M M' : Tab) (i : Nat) : Prop :=
  (r = 0 ∧ dn = false ∧ TgK dv l la s h M' i) ∨
  (r = 10 ∧ dn = true ∧ dv.waits.length ≤ 1000000 ∧ ∀ keep, (dv.wake keep).1 = 0 ∧ ∃ h2, TgK (dv.wake keep).2 l la s h2 M i ∨ TgK (dv.wake keep).2 l la s h2 M' i)
theorem TgK.commit (H : TgK dv l la s h M i) (hs : s ≤ 80) (k : Kp dv.all l la s h B R) (kt : KpT M B R M0 Ls) (o : Nat) (X : List UInt8) (ho : o + X.length ≤ 64 * s)
    (hout : ∀ j, (j < 64 + h.used ∨ (areaAt l la h.area ≤ j ∧ j < areaAt l la h.area + h.size)) → ¬ (o ≤ j ∧ j < o + X.length))
    (hnew : Kp (putSec (over4 dv.all o X) 0 h'.sec) l la s h' B' R') (kt' : KpT M' B' R' M0' Ls') (fit' : tLen M' ≤ 64 * la) (hr : h'.round ≤ 1 + (i + 1)) :
    ToldG (dv.commit s (secsAt dv.all o X) h'.sec).1 (if (dv.commit s (secsAt dv.all o X) h'.sec).1 = 0 then false else true) (dv.commit s (secsAt dv.all o X) h'.sec).2 l la s (if (dv.commit s (secsAt dv.all o X) h'.sec).1 = 0 then h' else h) M M' (i + 1) ∧
      (dv.left = 0 → (dv.commit s (secsAt dv.all o X) h'.sec).1 = 0 ∧ (dv.commit s (secsAt dv.all o X) h'.sec).2.left = 0) := by
  have hs1 : 1 ≤ s := by have := k.shape.1; omega
  have hrd := k.redo o X ho hout hnew H.up H.waits
  have hle := secsAt_le (K := dv.all) ho
  have hps := secsAt_right k.len ho
  have hde := H.deeds
  have hro := H.round
  rcases dv.commit_cases s hs1 _ h'.sec H.up H.waits hps h'.sec_length with ⟨a1, _, a3, a4, a5, a6⟩ | ⟨b0, b1, b2, b3, b4⟩
  · refine ⟨.inl ⟨a1, by rw [if_pos a1], ?_⟩, fun hl => ⟨a1, a6 hl⟩⟩
    rw [if_pos a1]
    exact ⟨a4, a3, ⟨_, _, _, _, hrd.1 a1, kt'⟩, fit', by omega, hr⟩
  · have hn : (dv.commit s (secsAt dv.all o X) h'.sec).1 ≠ 0 := by rw [b1]; decide
    refine ⟨.inr ⟨b1, by rw [if_neg hn], ?_, fun keep => ?_⟩, fun hl => absurd hl b0⟩
    · rcases b4 with ⟨_, qs, c2, c3⟩ | ⟨_, c2 | c2⟩
      · rw [c3]
        have := c2.length_le
        omega
      · rw [c2]; decide
      · rw [c2]; simp
    · obtain ⟨w1, w2, w3, _, w5, _⟩ := Dv.commit_woken dv s hs1 _ h'.sec keep H.up H.waits hps h'.sec_length hn
      refine ⟨w1, ?_⟩
      rcases (hrd.2 hn).2.2 keep with hk | hk
      · exact ⟨h, .inl ⟨w3, w2, ⟨_, _, _, _, hk, kt⟩, H.fit, by omega, by omega⟩⟩
      · exact ⟨h', .inr ⟨w3, w2, ⟨_, _, _, _, hk, kt'⟩, fit', by omega, hr⟩⟩
end
theorem RwAt.mono {F G : Nat → Prop} {w : World} {rb mb : Nat} {M : Tab} {T : TypeId} {rest : List Value} (h : RwAt F w rb mb M T rest) (hd : ∀ k, k < w.heap.size → F k → G k) (h1 : ¬ G rb) (h2 : ¬ G mb) : RwAt G w rb mb M T rest := ⟨h.row, h.tm.mono hd, h.ok, h.small, h.sep.1, h1, h2⟩
theorem LgAt.grow {S : Nat → Prop} {w0 w w2 : World} {jn g s l la d : Nat} {h : Hd} {dn : Bool} {dv : Dv} {X Y : Nat → Prop} (H : LgAt w0 w jn g s l la d h dn dv X) (hf : Fr S w w2) (hS : ∀ k, S k → X k ∧ w0.heap.size ≤ k) (hY : ∀ k, Y k → X k ∨ (w.heap.size ≤ k ∧ k < w2.heap.size)) (hXY : ∀ k, X k → Y k) : LgAt w0 w2 jn g s l la d h dn dv Y := by
  obtain ⟨D, h1, h2⟩ := H.dev
  have hz := hf.size
  have hj := H.jrn.lt
  refine ⟨H.jrn.keep hf (fun hh => H.low.2 (hS _ hh).1), ⟨D, h1.keep hf (fun k _ hD hh => (h2 k hD).2.2.2 (hS k hh).1), fun k hk => ⟨(h2 k hk).1, by have := (h2 k hk).2.1; omega, (h2 k hk).2.2.1, fun hy => ?_⟩⟩, ⟨H.low.1, fun hy => ?_⟩, fun k hk => ?_, H.fr.trans hf (fun k h => .inr (hS k h).2)⟩
  · rcases hY k hy with h | h
    · exact (h2 k hk).2.2.2 h
    · have := (h2 k hk).2.1; omega
  · rcases hY jn hy with h | h
    · exact H.low.2 h
    · omega
  · rcases hY k hk with h | h
    · have := H.xs k h; omega
    · omega
structure TbAt (w0 w : World) (tb jn g s l la d : Nat) (h : Hd) (dn : Bool) (dv : Dv) (M : Tab) (X : Nat → Prop) : Prop where
  ex : ∃ (mb : Nat) (F : Nat → Prop), LgAt w0 w jn g s l la d h dn dv (fun k => X k ∨ k = tb ∨ k = mb ∨ F k) ∧ TbRow F w tb mb jn la M ∧ ∀ k, (k = tb ∨ k = mb ∨ F k) → w0.heap.size ≤ k ∧ ¬ X k
def KEx (Lc : List Chg) (dv : Dv) (l s : Nat) (h : Hd) (r : Int) (h' : Hd) (dv' : Dv) : Prop :=
  (recB (chgsB Lc)).length ≤ 64 * l - h.used → r = (dv.commit s (secsAt dv.all (64 + h.used) (recB (chgsB Lc))) (Hd.sec ⟨h.area, h.size, h.used + (recB (chgsB Lc)).length, h.round + 1⟩)).1 ∧ dv' = (dv.commit s (secsAt dv.all (64 + h.used) (recB (chgsB Lc))) (Hd.sec ⟨h.area, h.size, h.used + (recB (chgsB Lc)).length, h.round + 1⟩)).2 ∧ h' = (if r = 0 then ⟨h.area, h.size, h.used + (recB (chgsB Lc)).length, h.round + 1⟩ else h)
theorem keep_ok {w0 W : World} {jn g s l la d tb mb i : Nat} {h : Hd} {dv : Dv} {X F G : Nat → Prop} {Mo M : Tab} (H : LgAt w0 W jn g s l la d h false dv X) (hok : ShOk l la d s) (hT : TbRow F W tb mb jn la M) (hF : ∀ k, F k → k < W.heap.size) (htb : ¬ LgT w0 X tb) (v : Value) (L : List ChgD) (hL : ChgsIn G W v L) (hG : ∀ k, G k → k < W.heap.size) (hcs : ∀ p ∈ L, chgOk p.chg) (hn : L.length ≤ 400) (hfit : M.length ≤ 4000 ∧ tLen M ≤ 64 * la)
    (K : TgK dv l la s h Mo i) (hM : M = tDoAll Mo (L.map ChgD.chg)) (hs : s ≤ 80) (hi : i ≤ 1000000) :
    Calls Tryz.prog 37 #[.pointer (some ⟨tb, 0, none⟩), v] W fun e w' => ∃ r h' dn' dv', e = .returned (.int .i64 r) ∧ LgAt w0 w' jn g s l la d h' dn' dv' X ∧ Fr (LgT w0 X) W w' ∧ ToldG r dn' dv' l la s h' Mo M (i + 1) ∧ (dv.left = 0 → r = 0 ∧ dv'.left = 0) ∧ KEx (L.map ChgD.chg) dv l s h r h' dv' := by
  obtain ⟨B, R, M0, Ls, k, kt⟩ := K.kept
  have hr := k.right
  have hro := K.round
  have hde := K.deeds
  have hsh := k.shape.1
  by_cases hc : (recB (chgsB (L.map ChgD.chg))).length ≤ 64 * l - h.used
  · refine (keep_app H hok hr hT v L hL hG hcs hn hfit hc (by omega) K.up K.waits (by omega)).mono ?_
    rintro e w' ⟨rfl, h1, h2⟩
    have hu := hr.used
    obtain ⟨t1, t2⟩ := K.commit hs k kt (64 + h.used) (recB (chgsB (L.map ChgD.chg))) (by omega) (k.append_out _ (by omega)) (k.append _ (by omega) (by omega)) (kt.more (L.map ChgD.chg) ⟨by rw [List.length_map]; exact hn, fun c hc => by obtain ⟨p, hp, rfl⟩ := List.mem_map.1 hc; exact hcs p hp⟩ (by rw [← hM]; exact hfit.1)) (by rw [← hM]; exact hfit.2) (by simp only; omega)
    exact ⟨_, _, _, _, rfl, h1, h2, by rw [hM]; exact t1, t2, fun _ => ⟨rfl, rfl, rfl⟩⟩
  · refine (keep_switch H hok hr hT hF htb v L hL hG hcs hn hfit hc (by omega) K.up K.waits (by omega)).mono ?_
    rintro e w' ⟨rfl, h1, h2⟩
    have hl : (rowsB M).length ≤ 64 * la := by rw [rowsB_length]; exact hfit.2
    obtain ⟨t1, t2⟩ := K.commit hs k kt (areaAt l la (1 - h.area)) (rowsB M) (area_in hsh (by omega) hl) (k.switch_out _ hl) (k.switch _ hl (by omega)) (KpT.all hT.ok hfit.1) hfit.2 (by simp only; omega)
    exact ⟨_, _, _, _, rfl, h1, h2, t1, t2, fun h => absurd h hc⟩
end Go.Proofs.YtldgcoikbjbjeaaGreat
namespace Go.Proofs.YtldgcoikbjbjeaaGreat
set_option linter.unusedVariables false
def awL1 : List Chg := [([97], some [49]), ([98], some [50])]
def awL2 : List Chg := [([97], none), ([99], some [51])]
def awM1 : Tab := [([97], [49]), ([98], [50])]
def awM2 : Tab := [([98], [50]), ([99], [51])]
def awT1 : Dv := { all := putSec (List.replicate 512 0) 0 (Hd.sec ⟨0, 0, 0, 1⟩), waits := [], deeds := 2, left := 0, down := false }
def awT2 : Int × Dv := awT1.commit 8 (secsAt awT1.all (64 + 0) (recB (chgsB awL1))) (Hd.sec ⟨0, 0, 0 + (recB (chgsB awL1)).length, 1 + 1⟩)
def awH2 : Hd := ⟨0, 0, 0 + (recB (chgsB awL1)).length, 1 + 1⟩
def awT3 : Int × Dv := awT2.2.fuse 4
def awT4 : Int × Dv := awT3.2.commit 8 (secsAt awT3.2.all (64 + awH2.used) (recB (chgsB awL2))) (Hd.sec ⟨0, 0, awH2.used + (recB (chgsB awL2)).length, awH2.round + 1⟩)
def awT5 (n : Int) : Int × Dv := awT4.2.wake n
theorem awS_ok : ShOk 2 2 1 8 := ⟨by decide, by decide, by decide, by decide, by decide⟩
theorem awT1_new : (Dv.new 8).tell 8 (Hd.sec ⟨0, 0, 0, 1⟩) = (0, awT1) := Dv.tell_new (Dv.new 8) 8 _ rfl rfl rfl (by decide) (Hd.sec_length _)
theorem awT1_kp : Kp awT1.all 2 2 8 ⟨0, 0, 0, 1⟩ [] [] := Kp.formatted (K := List.replicate 512 0) (by decide +kernel) (by decide)
theorem awT1_k : TgK awT1 2 2 8 ⟨0, 0, 0, 1⟩ [] 0 := ⟨rfl, rfl, ⟨_, _, _, _, awT1_kp, KpT.none⟩, by decide +kernel, by decide, by decide⟩
theorem awT2_is : awT2.1 = 0 ∧ awT2.2.down = false ∧ awT2.2.waits = [] ∧ awT2.2.deeds ≤ 100 := by decide +kernel
theorem awT3_is : awT3.1 = 0 := by decide +kernel
theorem awT4_is : awT4.1 = 10 ∧ awT4.2.waits.length ≤ 1000 := by decide +kernel
theorem awT5_is : ∀ n : Fin 2, (awT5 n.val).1 = 0 ∧ (awT5 n.val).2.down = false ∧ (awT5 n.val).2.waits = [] := by decide +kernel
theorem awR1_room : (recB (chgsB awL1)).length ≤ 64 * 2 - 0 := by decide +kernel
theorem awR2_room : (recB (chgsB awL2)).length ≤ 64 * 2 - awH2.used := by decide +kernel
theorem awM1_is : tDoAll [] awL1 = awM1 := by decide +kernel
theorem awM2_is : tDoAll awM1 awL2 = awM2 := by decide +kernel
theorem awL1_ok : ∀ c ∈ awL1, chgOk c := by
  intro c hc
  simp only [awL1, List.mem_cons, List.not_mem_nil, or_false] at hc
  rcases hc with rfl | rfl <;> exact ⟨by unfold keyOk; decide, fun v hv => by obtain rfl := Option.some.inj hv; decide⟩
theorem awL2_ok : ∀ c ∈ awL2, chgOk c := by
  intro c hc
  simp only [awL2, List.mem_cons, List.not_mem_nil, or_false] at hc
  rcases hc with rfl | rfl
  · exact ⟨by unfold keyOk; decide, fun v hv => by cases hv⟩
  · exact ⟨by unfold keyOk; decide, fun v hv => by obtain rfl := Option.some.inj hv; decide⟩
theorem awKt1 : KpT awM1 [] [chgsB awL1] [] [awL1] := by
  have := KpT.none.more awL1 ⟨by decide, awL1_ok⟩ (by rw [awM1_is]; decide)
  rwa [awM1_is] at this
theorem awKt2 : KpT awM2 [] [chgsB awL1, chgsB awL2] [] [awL1, awL2] := by
  have := awKt1.more awL2 ⟨by decide, awL2_ok⟩ (by rw [awM2_is]; decide)
  rwa [awM2_is] at this
theorem awT5_0 : Kp (awT5 0).2.all 2 2 8 ⟨0, 0, 12, 2⟩ [] [chgsB awL1] :=
  ⟨by decide +kernel, by decide, by decide +kernel, ⟨by decide, by decide, by decide, by decide⟩, by decide +kernel, by decide +kernel⟩
theorem awT5_1 : Kp (awT5 1).2.all 2 2 8 ⟨0, 0, 22, 3⟩ [] [chgsB awL1, chgsB awL2] :=
  ⟨by decide +kernel, by decide, by decide +kernel, ⟨by decide, by decide, by decide, by decide⟩, by decide +kernel, by decide +kernel⟩
def awM (n : Nat) : Tab := if n = 0 then awM1 else awM2
theorem awT5_kp (n : Nat) (hn : n < 2) : ∃ h B R M0 Ls, Kp (awT5 n).2.all 2 2 8 h B R ∧ KpT (awM n) B R M0 Ls ∧ tLen (awM n) ≤ 64 * 2 := by
  obtain rfl | rfl : n = 0 ∨ n = 1 := by omega
  · exact ⟨_, _, _, _, _, awT5_0, awKt1, by decide +kernel⟩
  · exact ⟨_, _, _, _, _, awT5_1, awKt2, by decide +kernel⟩
theorem awT5_ok (n : Nat) (hn : n < 2) : (awT5 n).1 = 0 ∧ (awT5 n).2.down = false ∧ (awT5 n).2.waits = [] := awT5_is ⟨n, hn⟩
end Go.Proofs.YtldgcoikbjbjeaaGreat
