/- Laid together: TCom TAwC JRSec RefNum -/
import Derived.Test.YtldgcoikbjbjeaaGreatTk29
import Derived.Test.YtldgcoikbjbjeaaGreatTk24
import Derived.Test.YtldgcoikbjbjeaaGreatTk25
import Derived.Test.YtldgcoikbjbjeaaGreatTk17
import Derived.Test.YtldgcoikbjbjeaaGreatTk10

namespace Go.Proofs.YtldgcoikbjbjeaaGreat
open Go.RowKit Go.ChangeShapes Go.Maps Go.WideMaps
set_option linter.unusedVariables false
def CmR (L : List ChgD) (dv : Dv) (l la s : Nat) (h : Hd) (M : Tab) (i : Nat) (r : Int) (h' : Hd) (dn' : Bool) (dv' : Dv) (M' : Tab) : Prop :=
  (((r = 0 ∧ L = []) ∨ (r = 3 ∧ 400 < L.length) ∨ (r = 2 ∧ L.any ChgD.wrong = true) ∨ (r = 7 ∧ (∀ p ∈ L, chgOk p.chg) ∧ ¬ ((tDoAll M (L.map ChgD.chg)).length ≤ 4000 ∧ tLen (tDoAll M (L.map ChgD.chg)) ≤ 64 * la))) ∧ h' = h ∧ dn' = false ∧ dv' = dv ∧ M' = M) ∨
  (L.any ChgD.wrong = false ∧ (∀ p ∈ L, chgOk p.chg) ∧ L.length ≤ 400 ∧ (r = 0 ∨ r = 10) ∧ M' = (if r = 0 then tDoAll M (L.map ChgD.chg) else M) ∧ ToldG r dn' dv' l la s h' M (tDoAll M (L.map ChgD.chg)) (i + 1) ∧ (dv.left = 0 → r = 0 ∧ dv'.left = 0) ∧ KEx (L.map ChgD.chg) dv l s h r h' dv')
def CmPost (w0 w : World) (tb jn g s l la d : Nat) (X : Nat → Prop) (L : List ChgD) (dv : Dv) (h : Hd) (M : Tab) (i : Nat) (e : Ending) (w' : World) : Prop :=
  ∃ r h' dn' dv' M', e = .returned (.int .i64 r) ∧ TbAt w0 w' tb jn g s l la d h' dn' dv' M' X ∧ Fr (LgT w0 X) w w' ∧ CmR L dv l la s h M i r h' dn' dv' M'
section
variable {w0 w : World} {tb jn g s l la d i : Nat} {h : Hd} {dn : Bool} {dv : Dv} {M : Tab} {X G : Nat → Prop}
theorem TbAt.quiet {w' : World} (H : TbAt w0 w tb jn g s l la d h dn dv M X) (hf : Fr (fun _ => False) w w') : TbAt w0 w' tb jn g s l la d h dn dv M X := by
  obtain ⟨mb, F, h1, h2, h3⟩ := H.ex
  exact ⟨mb, F, h1.quiet hf, RwAt.quiet h2 hf, h3⟩
set_option maxRecDepth 100000 in
set_option maxHeartbeats 1000000 in
theorem commit_nil (H : TbAt w0 w tb jn g s l la d h false dv M X) (K : TgK dv l la s h M i) (ao : Option Addr) (cap : Nat) :
    Calls Tryz.prog 15 #[.pointer (some ⟨tb, 0, none⟩), .slice ao 0 cap] w (CmPost w0 w tb jn g s l la d X [] dv h M i) := by
  obtain ⟨mb, F, h1, h2, h3⟩ := H.ex
  have hr := K.right.round
  have HR := Lib.hid (ready_any h2 h1.jrn hr.1 hr.2)
  have HH := Lib.hid H
  clear H K h1 h2 h3 hr
  go_enter Tryz.func15, Tryz.ntmps15
  go_wp2_with (go_at_call 33; refine HR.out.mono ?_; rintro e w1 ⟨rfl, hf1⟩)
  go_ret
  exact ⟨_, h, false, dv, M, rfl, HH.out.quiet hf1, hf1.mono (fun _ _ h => h.elim), .inl ⟨.inl ⟨rfl, rfl⟩, rfl, rfl, rfl, rfl⟩⟩
set_option maxRecDepth 100000 in
set_option maxHeartbeats 1000000 in
theorem commit_long (H : TbAt w0 w tb jn g s l la d h false dv M X) (K : TgK dv l la s h M i) (L : List ChgD) (ao : Option Addr) (cap : Nat) (hl : 400 < L.length) (hn : L.length ≤ 1000000) :
    Calls Tryz.prog 15 #[.pointer (some ⟨tb, 0, none⟩), .slice ao L.length cap] w (CmPost w0 w tb jn g s l la d X L dv h M i) := by
  obtain ⟨mb, F, h1, h2, h3⟩ := H.ex
  have hr := K.right.round
  have HR := Lib.hid (ready_any h2 h1.jrn hr.1 hr.2)
  have HH := Lib.hid (And.intro H hl)
  obtain ⟨n, hnn⟩ : ∃ n, n = L.length := ⟨_, rfl⟩
  rw [← hnn] at hl hn ⊢
  have d0 : decide ((n : Int) = 0) = false := decide_eq_false (by omega)
  have d1 : decide ((400 : Int) < (n : Int)) = true := decide_eq_true (by omega)
  clear H K h1 h2 h3 hr hnn
  go_enter Tryz.func15, Tryz.ntmps15
  go_wp2_with (go_at_call 33; refine HR.out.mono ?_; rintro e w1 ⟨rfl, hf1⟩)
  go_ret
  exact ⟨_, h, false, dv, M, rfl, HH.out.1.quiet hf1, hf1.mono (fun _ _ h => h.elim), .inl ⟨.inr (.inl ⟨rfl, HH.out.2⟩), rfl, rfl, rfl, rfl⟩⟩
set_option maxRecDepth 100000 in
set_option maxHeartbeats 1000000 in
theorem commit_wrong (H : TbAt w0 w tb jn g s l la d h false dv M X) (K : TgK dv l la s h M i) (v : Value) (L : List ChgD) (hL : ChgsIn G w v L) (h0 : 0 < L.length) (hl : L.length ≤ 400) (hw : L.any ChgD.wrong = true) :
    Calls Tryz.prog 15 #[.pointer (some ⟨tb, 0, none⟩), v] w (CmPost w0 w tb jn g s l la d X L dv h M i) := by
  obtain ⟨mb, F, h1, h2, h3⟩ := H.ex
  have hr := K.right.round
  have HR := Lib.hid (ready_any h2 h1.jrn hr.1 hr.2)
  have HC := Lib.hid (fun (w1 : World) (hf : Fr (fun _ => False) w w1) => contains_any w1 v L (hL.keep hf (fun _ _ _ h => h)) h0)
  rw [hw] at HC
  obtain ⟨ao, cap, rfl, _⟩ := hL.open6
  have HH := Lib.hid (And.intro H hw)
  obtain ⟨n, hnn⟩ : ∃ n, n = L.length := ⟨_, rfl⟩
  rw [← hnn] at hl h0 HC ⊢
  have d0 : decide ((n : Int) = 0) = false := decide_eq_false (by omega)
  have d1 : decide ((400 : Int) < (n : Int)) = false := decide_eq_false (by omega)
  clear H K h1 h2 h3 hr hnn hL hw
  go_enter Tryz.func15, Tryz.ntmps15
  go_wp2_with (first
    | (go_at_call 33; refine HR.out.mono ?_; rintro e w1 ⟨rfl, hf1⟩; (have H1 := Lib.hid hf1); clear hf1)
    | (go_at_call 34; refine (HC.out w1 H1.out).mono ?_; rintro e w2 ⟨rfl, hf2⟩; (have H2 := Lib.hid (H1.out.trans hf2 (fun _ h => h.elim))); clear hf2))
  go_ret
  exact ⟨_, h, false, dv, M, rfl, HH.out.1.quiet H2.out, H2.out.mono (fun _ _ h => h.elim), .inl ⟨.inr (.inr (.inl ⟨rfl, HH.out.2⟩)), rfl, rfl, rfl, rfl⟩⟩
theorem after_do {w w3 : World} {F F' : Nat → Prop} {mb : Nat} {M M2 : Tab} {vb : Value} {Lb : List ChgD} (h1 : LgAt w0 w jn g s l la d h dn dv (fun k => X k ∨ k = tb ∨ k = mb ∨ F k)) (h3 : ∀ k, (k = tb ∨ k = mb ∨ F k) → w0.heap.size ≤ k ∧ ¬ X k) (h2 : TbRow F w tb mb jn la M)
    (hr3 : TbRow F' w3 tb mb jn la M2) (hF3 : ∀ k, F' k → (F k ∨ w.heap.size ≤ k) ∧ k < w3.heap.size) (hFF3 : ∀ k, F k → F' k) (hb3 : ChgsIn (fun k => (F' k ∨ w.heap.size ≤ k) ∧ k < w3.heap.size) w3 vb Lb) (hf3 : Fr (fun k => k = tb ∨ k = mb) w w3) :
    ∃ F2 : Nat → Prop, LgAt w0 w3 jn g s l la d h dn dv (fun k => X k ∨ k = tb ∨ k = mb ∨ F2 k) ∧ TbRow F2 w3 tb mb jn la M2 ∧ ChgsIn F2 w3 vb Lb ∧ (∀ k, F2 k → k < w3.heap.size) ∧ ∀ k, (k = tb ∨ k = mb ∨ F2 k) → w0.heap.size ≤ k ∧ ¬ X k := by
  have hlt := RwAt.lt h2
  have hz := h1.fr.size
  refine ⟨fun k => F' k ∨ (w.heap.size ≤ k ∧ k < w3.heap.size), h1.grow hf3 (fun k hk => ⟨.inr (by rcases hk with h | h; exact .inl h; exact .inr (.inl h)), (h3 k (by rcases hk with h | h; exact .inl h; exact .inr (.inl h))).1⟩) (fun k hk => ?_) (fun k hk => ?_), RwAt.mono hr3 (fun k _ hk => .inl hk) (fun hh => ?_) (fun hh => ?_), hb3.mono (fun k _ hk => ?_), fun k hk => ?_, fun k hk => ?_⟩
  · rcases hk with hk | hk | hk | hk | hk
    · exact .inl (.inl hk)
    · exact .inl (.inr (.inl hk))
    · exact .inl (.inr (.inr (.inl hk)))
    · rcases (hF3 k hk).1 with h | h
      · exact .inl (.inr (.inr (.inr h)))
      · exact .inr ⟨h, (hF3 k hk).2⟩
    · exact .inr hk
  · rcases hk with hk | hk | hk | hk
    · exact .inl hk
    · exact .inr (.inl hk)
    · exact .inr (.inr (.inl hk))
    · exact .inr (.inr (.inr (.inl (hFF3 k hk))))
  · rcases hh with hh | hh
    · exact hr3.sep.2.1 hh
    · omega
  · rcases hh with hh | hh
    · exact hr3.sep.2.2 hh
    · omega
  · rcases hk.1 with h | h
    · exact .inl h
    · exact .inr ⟨h, hk.2⟩
  · rcases hk with h | h
    · exact (hF3 k h).2
    · exact h.2
  · have hnew : w.heap.size ≤ k → w0.heap.size ≤ k ∧ ¬ X k := fun hk => ⟨by omega, fun hX => by have := h1.xs k (.inl hX); omega⟩
    rcases hk with hk | hk | hk | hk
    · exact h3 k (.inl hk)
    · exact h3 k (.inr (.inl hk))
    · rcases (hF3 k hk).1 with h | h
      · exact h3 k (.inr (.inr h))
      · exact hnew h
    · exact hnew hk.1
theorem back_any {w : World} {F : Nat → Prop} {mb : Nat} {M2 : Tab} {vb : Value} {Lb : List ChgD} {Lc : List Chg} (g1 : LgAt w0 w jn g s l la d h dn dv (fun k => X k ∨ k = tb ∨ k = mb ∨ F k)) (g5 : ∀ k, (k = tb ∨ k = mb ∨ F k) → w0.heap.size ≤ k ∧ ¬ X k) (g2 : TbRow F w tb mb jn la M2) (g4 : ∀ k, F k → k < w.heap.size) (g3 : ChgsIn F w vb Lb)
    (hM : tabOk M) (hml : M.length ≤ 4000) (hL : ∀ c ∈ Lc, chgOk c) (hn : Lc.length ≤ 400) (hM2 : M2 = tDoAll M Lc) (hb : Lb.map ChgD.chg = (tBack M Lc).reverse) :
    Calls Tryz.prog 36 #[.pointer (some ⟨tb, 0, none⟩), vb] w fun e w' => ∃ v, e = .returned v ∧ (∃ ao n c, v = .slice ao n c) ∧ TbAt w0 w' tb jn g s l la d h dn dv M X ∧ Fr (LgT w0 X) w w' := by
  have hbk := tBack_ok hM hL
  have hll : Lb.length = Lc.length := by have h1 := congrArg List.length hb; rw [List.length_map, List.length_reverse, tBack_length] at h1; exact h1
  refine (do_any w g2 g4 vb Lb g3 (fun k hk => ⟨g4 k hk, fun e => g2.sep.2.1 (e ▸ hk), fun e => g2.sep.2.2 (e ▸ hk)⟩) (fun p hp => hbk _ (by
    have h1 : p.chg ∈ Lb.map ChgD.chg := List.mem_map_of_mem hp
    rw [hb] at h1
    exact List.mem_reverse.1 h1)) (by omega) (by have := tDoAll_le M Lc; rw [hM2]; omega)).mono ?_
  rintro e w' ⟨v2, Lb2, F', rfl, hr3, hF3, hFF3, hb3, hm3, hf3⟩
  have e1 : tDoAll M2 (Lb.map ChgD.chg) = M := by rw [hM2, hb]; exact tBack_undo hM.1 Lc
  rw [e1] at hr3
  obtain ⟨F2, a1, a2, a3, a4, a5⟩ := after_do g1 g5 g2 hr3 hF3 hFF3 hb3 hf3
  obtain ⟨ao, c, rfl, _⟩ := hb3.open6
  exact ⟨_, rfl, ⟨_, _, _, rfl⟩, ⟨mb, F2, a1, a2, a5⟩, hf3.mono (fun k _ hk => g5 k (by rcases hk with h | h; exact .inl h; exact .inr (.inl h)))⟩
set_option maxRecDepth 100000 in
set_option maxHeartbeats 4000000 in
theorem commit_ok (H : TbAt w0 w tb jn g s l la d h false dv M X) (K : TgK dv l la s h M i) (hok : ShOk l la d s) (hs : s ≤ 80) (hi : i ≤ 1000000) (v : Value) (L : List ChgD) (hL : ChgsIn G w v L) (hG : ∀ k, G k → k < w.heap.size ∧ (X k ∨ k < w0.heap.size)) (h0 : 0 < L.length) (hl : L.length ≤ 400) (hw : L.any ChgD.wrong = false) :
    Calls Tryz.prog 15 #[.pointer (some ⟨tb, 0, none⟩), v] w (CmPost w0 w tb jn g s l la d X L dv h M i) := by
  obtain ⟨mb, F, h1, h2, h3⟩ := H.ex
  have hcs : ∀ p ∈ L, chgOk p.chg := fun p hp => ChgD.ok (by
    cases hq : p.wrong with
    | false => rfl
    | true => have : L.any ChgD.wrong = true := List.any_eq_true.2 ⟨p, hp, hq⟩; rw [hw] at this; cases this)
  have hr := K.right.round
  have HR := Lib.hid (ready_any h2 h1.jrn hr.1 hr.2)
  have HC := Lib.hid (fun (w1 : World) (hf : Fr (fun _ => False) w w1) => contains_any w1 v L (hL.keep hf (fun _ _ _ h => h)) h0)
  rw [hw] at HC
  have hmb : w0.heap.size ≤ mb ∧ ¬ X mb := h3 mb (.inr (.inl rfl))
  have htb : w0.heap.size ≤ tb ∧ ¬ X tb := h3 tb (.inl rfl)
  have hGS : ∀ k, G k → ¬ (k = tb ∨ k = mb) := fun k hk e => by
    rcases e with rfl | rfl
    · rcases (hG k hk).2 with h | h
      · exact htb.2 h
      · omega
    · rcases (hG k hk).2 with h | h
      · exact hmb.2 h
      · omega
  have hml := K.ok.2
  have HDO := Lib.hid (fun (w1 : World) (hf : Fr (fun _ => False) w w1) => do_any w1 (RwAt.quiet h2 hf) (fun k hk => by have := h1.xs k (.inr (.inr (.inr hk))); have := hf.size; omega) v L (hL.keep hf (fun _ _ _ h => h)) (fun k hk => ⟨by have := (hG k hk).1; have := hf.size; omega, fun e => hGS k hk (.inl e), fun e => hGS k hk (.inr e)⟩) hcs (by omega) (by omega))
  have HAF := Lib.hid (fun (w2 : World) (hf : Fr (fun _ => False) w w2) (w3 : World) (F' : Nat → Prop) (vb : Value) (Lb : List ChgD) => after_do (w3 := w3) (F' := F') (vb := vb) (Lb := Lb) (M2 := tDoAll M (L.map ChgD.chg)) (h1.quiet hf) h3 (RwAt.quiet h2 hf))
  have HLK := Lib.hid (fun (w2 w3 : World) (hf : Fr (fun _ => False) w w2) (hf3 : Fr (fun k => k = tb ∨ k = mb) w2 w3) => (⟨(hL.keep hf (fun _ _ _ h => h)).keep hf3 (fun k _ hk => hGS k hk), fun k hk => by have := (hG k hk).1; have := hf.size; have := hf3.size; omega⟩ : ChgsIn G w3 v L ∧ ∀ k, G k → k < w3.heap.size))
  have HK := Lib.hid (And.intro K (And.intro hok (And.intro hcs (And.intro hmb htb))))
  have HWR := Lib.hid hw
  obtain ⟨ao, cap, rfl, _⟩ := hL.open6
  obtain ⟨n, hnn⟩ : ∃ n, n = L.length := ⟨_, rfl⟩
  have HNN := Lib.hid hnn
  rw [← hnn] at hl h0 HC HDO HLK ⊢
  have d0 : decide ((n : Int) = 0) = false := decide_eq_false (by omega)
  have d1 : decide ((400 : Int) < (n : Int)) = false := decide_eq_false (by omega)
  clear H K h1 h2 h3 hr hnn hL hw hok hcs hmb htb hGS hml hG
  go_enter Tryz.func15, Tryz.ntmps15
  go_wp2_with (first
    | (go_at_call 33; refine HR.out.mono ?_; rintro e w1 ⟨rfl, hf1⟩; (have H1 := Lib.hid hf1); clear hf1)
    | (go_at_call 34; refine (HC.out w1 H1.out).mono ?_; rintro e w2 ⟨rfl, hf2⟩; (have H2 := Lib.hid (H1.out.trans hf2 (fun _ h => h.elim))); clear hf2)
    | (go_at_call 36; (with_reducible refine (HDO.out w2 H2.out).mono ?_); rintro e w3 ⟨vb, Lb, F', rfl, hr3, hF3, hFF3, hb3, hm3, hf3⟩; (obtain ⟨a3, c3, rfl, _⟩ := hb3.open6); (have H3 := Lib.hid (And.intro (HAF.out w2 H2.out w3 F' _ Lb hr3 hF3 hFF3 hb3 hf3) (And.intro hm3 hf3))); clear hr3 hF3 hFF3 hb3 hm3 hf3))
  obtain ⟨⟨F2, g1, g2, g3, g4, g5⟩, hm3, hf3⟩ := H3.out
  obtain ⟨hlk1, hlk2⟩ := HLK.out w2 w3 H2.out hf3
  obtain ⟨K, hok, hcs, hmb, htb⟩ := HK.out
  have hLc : ∀ c ∈ L.map ChgD.chg, chgOk c := fun c hc => by obtain ⟨p, hp, rfl⟩ := List.mem_map.1 hc; exact hcs p hp
  have hfw : Fr (LgT w0 X) w w3 := (H2.out.mono (T := LgT w0 X) (fun _ _ h => h.elim)).trans hf3 (fun k hk => .inl (g5 k (by rcases hk with h | h; exact .inl h; exact .inr (.inl h))))
  have HN3 := HNN.out
  by_cases hfit : (tDoAll M (L.map ChgD.chg)).length ≤ 4000 ∧ tLen (tDoAll M (L.map ChgD.chg)) ≤ 64 * la
  · refine (keep_ok g1 hok g2 g4 (fun hh => hh.2 (.inr (.inl rfl))) _ L hlk1 hlk2 hcs (by omega) hfit K rfl hs hi).mono ?_
    rintro e w4 ⟨r, h', dn', dv', rfl, hl4, hf4, ht, hq, hx⟩
    have hfY : ∀ k, LgT w0 (fun k => X k ∨ k = tb ∨ k = mb ∨ F2 k) k → LgT w0 X k := fun k hk => ⟨hk.1, fun hX => hk.2 (.inl hX)⟩
    have hT4 : TbRow F2 w4 tb mb jn la (tDoAll M (L.map ChgD.chg)) := RwAt.keep g2 hf4 (fun hh => hh.2 (.inr (.inl rfl))) (fun hh => hh.2 (.inr (.inr (.inl rfl)))) (fun k _ hk hh => hh.2 (.inr (.inr (.inr hk))))
    have hw4 : Fr (LgT w0 X) w w4 := hfw.trans hf4 (fun k hk => .inl (hfY k hk))
    rcases ht with ⟨rfl, rfl, t⟩ | ⟨rfl, rfl, t1, t2⟩
    · have HE := Lib.hid (show CmPost w0 w tb jn g s l la d X L dv h M i (.returned (.int .i64 0)) w4 from ⟨0, h', false, dv', _, rfl, ⟨mb, F2, hl4, hT4, g5⟩, hw4, .inr ⟨HWR.out, hcs, by omega, .inl rfl, rfl, .inl ⟨rfl, rfl, t⟩, hq, hx⟩⟩)
      clear H3 g1 g2 g3 g4 g5 hm3 hf3 hlk1 hlk2 K hok hcs hmb htb hLc hfw HN3 hl4 hf4 hq hx hfY hT4 hw4 t hfit
      go_wp2
      go_ret
      exact HE.out
    · have hbk := back_any hl4 g5 hT4 (fun k hk => by have := g4 k hk; have := hf4.size; omega) (g3.keep hf4 (fun k _ hk hh => hh.2 (.inr (.inr (.inr hk))))) K.ok.1 K.ok.2 hLc (by rw [List.length_map]; omega) rfl hm3
      have HBK := Lib.hid hbk
      have HE := Lib.hid (fun (w5 : World) (h5 : TbAt w0 w5 tb jn g s l la d h' true dv' M X) (hf5 : Fr (LgT w0 X) w4 w5) => (⟨10, h', true, dv', _, rfl, h5, hw4.trans hf5 (fun k hk => .inl hk), .inr ⟨HWR.out, hcs, by omega, .inr rfl, rfl, .inr ⟨rfl, rfl, t1, t2⟩, hq, hx⟩⟩ : CmPost w0 w tb jn g s l la d X L dv h M i (.returned (.int .i64 10)) w5))
      clear H3 g1 g2 g3 g4 g5 hm3 hf3 hlk1 hlk2 K hok hcs hmb htb hLc hfw HN3 hl4 hf4 hq hx hfY hT4 hw4 t1 t2 hfit hbk
      go_wp2_with (go_at_call 36; (with_reducible refine HBK.out.mono ?_); rintro e w5 ⟨v5, rfl, ⟨a5, n5, c5, rfl⟩, h5, hf5⟩; (have H5 := Lib.hid (And.intro h5 hf5)); clear h5 hf5)
      go_ret
      exact HE.out w5 H5.out.1 H5.out.2
  · refine (keep_full g2 _ hfit).mono ?_
    rintro e w4 ⟨rfl, hf4⟩
    have hbk := back_any (g1.quiet hf4) g5 (RwAt.quiet g2 hf4) (fun k hk => by have := g4 k hk; have := hf4.size; omega) (g3.keep hf4 (fun k _ hk hh => hh)) K.ok.1 K.ok.2 hLc (by rw [List.length_map]; omega) rfl hm3
    have HBK := Lib.hid hbk
    have HE := Lib.hid (fun (w5 : World) (h5 : TbAt w0 w5 tb jn g s l la d h false dv M X) (hf5 : Fr (LgT w0 X) w4 w5) => (⟨7, h, false, dv, _, rfl, h5, (hfw.trans hf4 (fun k hk => hk.elim)).trans hf5 (fun k hk => .inl hk), .inl ⟨.inr (.inr (.inr ⟨rfl, hcs, hfit⟩)), rfl, rfl, rfl, rfl⟩⟩ : CmPost w0 w tb jn g s l la d X L dv h M i (.returned (.int .i64 7)) w5))
    clear H3 g1 g2 g3 g4 g5 hm3 hf3 hlk1 hlk2 K hok hcs hmb htb hLc hfw HN3 hf4 hfit hbk
    go_wp2_with (go_at_call 36; (with_reducible refine HBK.out.mono ?_); rintro e w5 ⟨v5, rfl, ⟨a5, n5, c5, rfl⟩, h5, hf5⟩; (have H5 := Lib.hid (And.intro h5 hf5)); clear h5 hf5)
    go_ret
    exact HE.out w5 H5.out.1 H5.out.2
theorem commit_any (H : TbAt w0 w tb jn g s l la d h false dv M X) (K : TgK dv l la s h M i) (hok : ShOk l la d s) (hs : s ≤ 80) (hi : i ≤ 1000000) (v : Value) (L : List ChgD) (hL : ChgsIn G w v L) (hG : ∀ k, G k → k < w.heap.size ∧ (X k ∨ k < w0.heap.size)) (hn : L.length ≤ 1000000) :
    Calls Tryz.prog 15 #[.pointer (some ⟨tb, 0, none⟩), v] w (CmPost w0 w tb jn g s l la d X L dv h M i) := by
  by_cases h0 : L = []
  · subst h0
    obtain ⟨ao, cap, rfl, _⟩ := hL.open6
    exact commit_nil H K ao cap
  · have h1 : 0 < L.length := List.length_pos_iff.2 h0
    by_cases h2 : 400 < L.length
    · obtain ⟨ao, cap, rfl, _⟩ := hL.open6
      exact commit_long H K L ao cap h2 hn
    · cases hw : L.any ChgD.wrong with
      | true => exact commit_wrong H K v L hL h1 (by omega) hw
      | false => exact commit_ok H K hok hs hi v L hL hG h1 (by omega) hw
end
end Go.Proofs.YtldgcoikbjbjeaaGreat
namespace Go.Proofs.YtldgcoikbjbjeaaGreat
open Go.RowKit Go.ChangeShapes
set_option linter.unusedVariables false
section
variable {w0 w w2 : World} {tb jn g s l la d i : Nat} {h : Hd} {dn : Bool} {dv : Dv} {M : Tab} {X Y G : Nat → Prop}
theorem TbAt.grow (H : TbAt w0 w tb jn g s l la d h dn dv M X) (hf : Fr (fun _ => False) w w2) (hY : ∀ k, Y k → X k ∨ (w.heap.size ≤ k ∧ k < w2.heap.size)) (hXY : ∀ k, X k → Y k) : TbAt w0 w2 tb jn g s l la d h dn dv M Y := by
  obtain ⟨mb, F, h1, h2, h3⟩ := H.ex
  have hlt := RwAt.lt h2
  refine ⟨mb, F, h1.grow hf (fun k hk => hk.elim) (fun k hk => ?_) (fun k hk => ?_), RwAt.quiet h2 hf, fun k hk => ⟨(h3 k hk).1, fun hy => ?_⟩⟩
  · rcases hk with hk | hk
    · rcases hY k hk with h | h
      · exact .inl (.inl h)
      · exact .inr h
    · exact .inl (.inr hk)
  · rcases hk with hk | hk
    · exact .inl (hXY k hk)
    · exact .inr hk
  · rcases hY k hy with h | h
    · exact (h3 k hk).2 h
    · have : k < w.heap.size := by
        rcases hk with rfl | rfl | hk
        · exact hlt.1
        · exact hlt.2
        · exact h1.xs k (.inr (.inr (.inr hk)))
      omega
theorem LgT.sub {Z : Nat → Prop} {k : Nat} (hk : LgT w0 (fun k => X k ∨ Z k) k) : LgT w0 X k := ⟨hk.1, fun h => hk.2 (.inl h)⟩
theorem TbAt.turned {h' : Hd} {dn' : Bool} {dv' : Dv} {mb : Nat} {F : Nat → Prop} (h2 : TbRow F w tb mb jn la M) (h3 : ∀ k, (k = tb ∨ k = mb ∨ F k) → w0.heap.size ≤ k ∧ ¬ X k) (h1 : LgAt w0 w2 jn g s l la d h' dn' dv' (fun k => X k ∨ k = tb ∨ k = mb ∨ F k)) (hf : Fr (LgT w0 (fun k => X k ∨ k = tb ∨ k = mb ∨ F k)) w w2) : TbAt w0 w2 tb jn g s l la d h' dn' dv' M X ∧ Fr (LgT w0 X) w w2 :=
  ⟨⟨mb, F, h1, RwAt.keep h2 hf (fun hh => hh.2 (.inr (.inl rfl))) (fun hh => hh.2 (.inr (.inr (.inl rfl)))) (fun k _ hk hh => hh.2 (.inr (.inr (.inr hk)))), h3⟩, hf.mono (fun k _ hk => LgT.sub hk)⟩
theorem tFuse (H : TbAt w0 w tb jn g s l la d h dn dv M X) (n : Int) (hn : n ≤ 9223372036854775807) (hn0 : -9223372036854775808 ≤ n) :
    Calls Tryz.prog 13 #[.pointer (some ⟨g, 0, none⟩), .int .i64 n] w fun e w' => e = .returned (.int .i64 (dv.fuse n).1) ∧ TbAt w0 w' tb jn g s l la d h dn (dv.fuse n).2 M X ∧ Fr (LgT w0 X) w w' := by
  obtain ⟨mb, F, h1, h2, h3⟩ := H.ex
  refine (gFuse h1 n hn hn0).mono ?_
  rintro e w' ⟨rfl, a1, a2⟩
  exact ⟨rfl, TbAt.turned h2 h3 a1 a2⟩
theorem tWake (H : TbAt w0 w tb jn g s l la d h dn dv M X) (keep : Int) (hkp0 : -9223372036854775808 ≤ keep) (hkp1 : keep ≤ 9223372036854775807) (hn6 : dv.waits.length ≤ 1000000) :
    Calls Tryz.prog 17 #[.pointer (some ⟨g, 0, none⟩), .int .i64 keep] w fun e w' => e = .returned (.int .i64 (dv.wake keep).1) ∧ TbAt w0 w' tb jn g s l la d h dn (dv.wake keep).2 M X ∧ Fr (LgT w0 X) w w' := by
  obtain ⟨mb, F, h1, h2, h3⟩ := H.ex
  refine (gWake h1 keep hkp0 hkp1 hn6).mono ?_
  rintro e w' ⟨rfl, a1, a2⟩
  exact ⟨rfl, TbAt.turned h2 h3 a1 a2⟩
theorem not_wrong {L : List ChgD} (h : ∀ p ∈ L, chgOk p.chg ∧ (p.gone = true → p.B = [])) : L.any ChgD.wrong = false := by
  rw [List.any_eq_false]
  intro p hp
  obtain ⟨h1, h2⟩ := h p hp
  rw [show p.wrong = false from by
    obtain ⟨key, x, B, gone⟩ := p
    unfold ChgD.wrong
    exact wrongB_ok (a := none) (cx := 0) h1 rfl h2]
  decide
theorem awC1 (H : TbAt w0 w tb jn g 8 2 2 1 ⟨0, 0, 0, 1⟩ false awT1 [] X) (v : Value) (L : List ChgD) (hL : ChgsIn G w v L) (hG : ∀ k, G k → k < w.heap.size ∧ (X k ∨ k < w0.heap.size)) (hm : L.map ChgD.chg = awL1) (hg : ∀ p ∈ L, p.gone = true → p.B = []) :
    Calls Tryz.prog 15 #[.pointer (some ⟨tb, 0, none⟩), v] w fun e w' => e = .returned (.int .i64 0) ∧ TbAt w0 w' tb jn g 8 2 2 1 awH2 false awT2.2 awM1 X ∧ Fr (LgT w0 X) w w' ∧ TgK awT2.2 2 2 8 awH2 awM1 1 := by
  have hll : L.length = 2 := by have := congrArg List.length hm; rw [List.length_map] at this; exact this
  have hok : ∀ p ∈ L, chgOk p.chg := fun p hp => awL1_ok _ (by rw [← hm]; exact List.mem_map_of_mem hp)
  refine (commit_any H awT1_k awS_ok (by decide) (by decide) v L hL hG (by omega)).mono ?_
  rintro e w' ⟨r, h', dn', dv', M', rfl, a1, a2, a3⟩
  rcases a3 with ⟨b | b | b | b, _⟩ | ⟨_, _, _, c3, c4, c5, _, c7⟩
  · have := b.2; rw [this] at hll; cases hll
  · omega
  · have := not_wrong (fun p hp => ⟨hok p hp, hg p hp⟩); rw [b.2] at this; cases this
  · exact absurd (by rw [hm, awM1_is]; exact ⟨by decide, by decide +kernel⟩) b.2.2
  · rw [hm] at c7 c4 c5
    obtain ⟨d1, d2, d3⟩ := c7 awR1_room
    have e1 : r = 0 := by rw [d1]; exact awT2_is.1
    subst e1
    rw [if_pos rfl] at d3 c4
    rw [awM1_is] at c4 c5
    have e2 : dv' = awT2.2 := d2
    have e3 : h' = awH2 := d3
    subst e2 e3 c4
    rcases c5 with ⟨_, rfl, t⟩ | ⟨t, _⟩
    · exact ⟨rfl, a1, a2, t⟩
    · cases t
theorem awC2 (H : TbAt w0 w tb jn g 8 2 2 1 awH2 false awT3.2 awM1 X) (K : TgK awT3.2 2 2 8 awH2 awM1 1) (v : Value) (L : List ChgD) (hL : ChgsIn G w v L) (hG : ∀ k, G k → k < w.heap.size ∧ (X k ∨ k < w0.heap.size)) (hm : L.map ChgD.chg = awL2) (hg : ∀ p ∈ L, p.gone = true → p.B = []) :
    Calls Tryz.prog 15 #[.pointer (some ⟨tb, 0, none⟩), v] w fun e w' => e = .returned (.int .i64 10) ∧ (∃ h', TbAt w0 w' tb jn g 8 2 2 1 h' true awT4.2 awM1 X) ∧ Fr (LgT w0 X) w w' := by
  have hll : L.length = 2 := by have := congrArg List.length hm; rw [List.length_map] at this; exact this
  have hok : ∀ p ∈ L, chgOk p.chg := fun p hp => awL2_ok _ (by rw [← hm]; exact List.mem_map_of_mem hp)
  refine (commit_any H K awS_ok (by decide) (by decide) v L hL hG (by omega)).mono ?_
  rintro e w' ⟨r, h', dn', dv', M', rfl, a1, a2, a3⟩
  rcases a3 with ⟨b | b | b | b, _⟩ | ⟨_, _, _, c3, c4, c5, _, c7⟩
  · have := b.2; rw [this] at hll; cases hll
  · omega
  · have := not_wrong (fun p hp => ⟨hok p hp, hg p hp⟩); rw [b.2] at this; cases this
  · exact absurd (by rw [hm, awM2_is]; exact ⟨by decide, by decide +kernel⟩) b.2.2
  · rw [hm] at c7 c4 c5
    obtain ⟨d1, d2, d3⟩ := c7 awR2_room
    have e1 : r = 10 := by rw [d1]; exact awT4_is.1
    subst e1
    rw [if_neg (by decide)] at c4
    have e2 : dv' = awT4.2 := d2
    subst e2 c4
    rcases c5 with ⟨t, _⟩ | ⟨_, rfl, _⟩
    · cases t
    · exact ⟨rfl, ⟨_, a1⟩, a2⟩
end
end Go.Proofs.YtldgcoikbjbjeaaGreat
namespace Go.Proofs.YtldgcoikbjbjeaaGreat
open Go.RowKit Go.ChangeShapes
set_option linter.unusedVariables false
theorem rWithin_any (w : World) (n : Int) (b : Bool) (hb : manyS n = b) :
    Calls Tryz.prog 86 #[.int .i64 n] w fun e w' => e = .returned (.bool b) ∧ w = w' := by
  subst hb
  by_cases h1 : 1 ≤ n
  · by_cases h2 : n ≤ 8192
    · have hR : manyS n = true := by rw [manyS, decide_eq_true_iff]; exact ⟨h1, h2⟩
      rw [hR]
      clear hR
      go_enter Tryz.func86, Tryz.ntmps86
      go_wp2
      go_ret
      exact ⟨rfl, rfl⟩
    · have hR : manyS n = false := by rw [manyS, decide_eq_false_iff_not]; omega
      rw [hR]
      clear hR
      go_enter Tryz.func86, Tryz.ntmps86
      go_wp2
      go_ret
      exact ⟨rfl, rfl⟩
  · have hR : manyS n = false := by rw [manyS, decide_eq_false_iff_not]; omega
    rw [hR]
    clear hR
    go_enter Tryz.func86, Tryz.ntmps86
    go_wp2
    go_ret
    exact ⟨rfl, rfl⟩
set_option maxRecDepth 100000 in
set_option maxHeartbeats 4000000 in
theorem rRight_0 (w : World) (L A D : Int) (b1 : manyS L = false) :
    Calls Tryz.prog 49 #[.agg #[.int .i64 L, .int .i64 A, .int .i64 D]] w fun e w' => e = .returned (.bool false) ∧ Fr (fun _ => False) w w' := by
  have C1 := Lib.hid fun W => rWithin_any W L false b1
  clear b1
  go_enter Tryz.func49, Tryz.ntmps49
  go_wp2_with (go_at_call 86; (first | ((with_reducible refine (C1.out _).mono ?_); rintro e w1 ⟨rfl, rfl⟩)))
  go_ret
  exact ⟨rfl, (Fr.refl _ w).alloc _⟩
set_option maxRecDepth 100000 in
set_option maxHeartbeats 4000000 in
theorem rRight_1 (w : World) (l : Nat) (A D : Int) (b1 : manyS l = true) (b2 : manyS A = false) :
    Calls Tryz.prog 49 #[.agg #[.int .i64 l, .int .i64 A, .int .i64 D]] w fun e w' => e = .returned (.bool false) ∧ Fr (fun _ => False) w w' := by
  have C1 := Lib.hid fun W => rWithin_any W l true b1
  have C2 := Lib.hid fun W => rWithin_any W A false b2
  clear b1 b2
  go_enter Tryz.func49, Tryz.ntmps49
  go_wp2_with (go_at_call 86; (first | ((with_reducible refine (C1.out _).mono ?_); rintro e w1 ⟨rfl, rfl⟩) | ((with_reducible refine (C2.out _).mono ?_); rintro e w1 ⟨rfl, rfl⟩)))
  go_ret
  exact ⟨rfl, (Fr.refl _ w).alloc _⟩
set_option maxRecDepth 100000 in
set_option maxHeartbeats 4000000 in
theorem rRight_2 (w : World) (l la : Nat) (D : Int) (b1 : manyS l = true) (b2 : manyS la = true) (b3 : manyS D = false) :
    Calls Tryz.prog 49 #[.agg #[.int .i64 l, .int .i64 la, .int .i64 D]] w fun e w' => e = .returned (.bool false) ∧ Fr (fun _ => False) w w' := by
  have C1 := Lib.hid fun W => rWithin_any W l true b1
  have C2 := Lib.hid fun W => rWithin_any W la true b2
  have C3 := Lib.hid fun W => rWithin_any W D false b3
  clear b1 b2 b3
  go_enter Tryz.func49, Tryz.ntmps49
  go_wp2_with (go_at_call 86; (first | ((with_reducible refine (C1.out _).mono ?_); rintro e w1 ⟨rfl, rfl⟩) | ((with_reducible refine (C2.out _).mono ?_); rintro e w1 ⟨rfl, rfl⟩) | ((with_reducible refine (C3.out _).mono ?_); rintro e w1 ⟨rfl, rfl⟩)))
  go_ret
  exact ⟨rfl, (Fr.refl _ w).alloc _⟩
set_option maxRecDepth 100000 in
set_option maxHeartbeats 4000000 in
theorem rRight_4 (w : World) (l la d : Nat) (b1 : manyS l = true) (b2 : manyS la = true) (b3 : manyS d = true) (hl2 : l ≤ 8192) (ha2 : la ≤ 8192) (hd2 : d ≤ 8192) (hle : 1 + l + 2 * la + d ≤ 8192) :
    Calls Tryz.prog 49 #[.agg #[.int .i64 l, .int .i64 la, .int .i64 d]] w fun e w' => e = .returned (.bool true) ∧ Fr (fun _ => False) w w' := by
  have C1 := Lib.hid fun W => rWithin_any W l true b1
  have C2 := Lib.hid fun W => rWithin_any W la true b2
  have C3 := Lib.hid fun W => rWithin_any W d true b3
  have hle2 : decide ((1 : Int) + l + 2 * la + d ≤ 8192) = true := by rw [decide_eq_true_iff]; omega
  clear hle
  clear b1 b2 b3
  go_enter Tryz.func49, Tryz.ntmps49
  go_wp2_with (go_at_call 86; (first | ((with_reducible refine (C1.out _).mono ?_); rintro e w1 ⟨rfl, rfl⟩) | ((with_reducible refine (C2.out _).mono ?_); rintro e w1 ⟨rfl, rfl⟩) | ((with_reducible refine (C3.out _).mono ?_); rintro e w1 ⟨rfl, rfl⟩)))
  go_ret
  exact ⟨rfl, (Fr.refl _ w).alloc _⟩
set_option maxRecDepth 100000 in
set_option maxHeartbeats 4000000 in
theorem rRight_5 (w : World) (l la d : Nat) (b1 : manyS l = true) (b2 : manyS la = true) (b3 : manyS d = true) (hl2 : l ≤ 8192) (ha2 : la ≤ 8192) (hd2 : d ≤ 8192) (hle : ¬ 1 + l + 2 * la + d ≤ 8192) :
    Calls Tryz.prog 49 #[.agg #[.int .i64 l, .int .i64 la, .int .i64 d]] w fun e w' => e = .returned (.bool false) ∧ Fr (fun _ => False) w w' := by
  have C1 := Lib.hid fun W => rWithin_any W l true b1
  have C2 := Lib.hid fun W => rWithin_any W la true b2
  have C3 := Lib.hid fun W => rWithin_any W d true b3
  have hle2 : decide ((1 : Int) + l + 2 * la + d ≤ 8192) = false := by rw [decide_eq_false_iff_not]; omega
  clear hle
  clear b1 b2 b3
  go_enter Tryz.func49, Tryz.ntmps49
  go_wp2_with (go_at_call 86; (first | ((with_reducible refine (C1.out _).mono ?_); rintro e w1 ⟨rfl, rfl⟩) | ((with_reducible refine (C2.out _).mono ?_); rintro e w1 ⟨rfl, rfl⟩) | ((with_reducible refine (C3.out _).mono ?_); rintro e w1 ⟨rfl, rfl⟩)))
  go_ret
  exact ⟨rfl, (Fr.refl _ w).alloc _⟩
theorem rRight_any (w : World) (L A D : Int) :
    Calls Tryz.prog 49 #[.agg #[.int .i64 L, .int .i64 A, .int .i64 D]] w fun e w' => e = .returned (.bool (rightS L A D)) ∧ Fr (fun _ => False) w w' := by
  cases b1 : manyS L with
  | false =>
    rw [show rightS L A D = false by rw [rightS, b1]; rfl]
    exact rRight_0 w L A D b1
  | true =>
    obtain ⟨l, rfl, hl1, hl2⟩ := manyS_yes b1
    cases b2 : manyS A with
    | false =>
      rw [show rightS l A D = false by rw [rightS, b1, b2]; rfl]
      exact rRight_1 w l A D b1 b2
    | true =>
      obtain ⟨a, rfl, ha1, ha2⟩ := manyS_yes b2
      cases b3 : manyS D with
      | false =>
        rw [show rightS l a D = false by rw [rightS, b1, b2, b3]; rfl]
        exact rRight_2 w l a D b1 b2 b3
      | true =>
        obtain ⟨d, rfl, hd1, hd2⟩ := manyS_yes b3
        by_cases hle : 1 + l + 2 * a + d ≤ 8192
        · rw [show rightS l a d = true from rightS_nat hl1 ha1 hd1 hle]
          exact rRight_4 w l a d b1 b2 b3 hl2 ha2 hd2 hle
        · rw [show rightS l a d = false by
            rw [rightS, b1, b2, b3]
            simp only [Bool.true_and, decide_eq_false_iff_not]
            omega]
          exact rRight_5 w l a d b1 b2 b3 hl2 ha2 hd2 hle
def secsS (L A D : Int) : Int := if rightS L A D = true then 1 + L + 2 * A + D else 0
theorem r5Sectors_any (w : World) (L A D : Int) :
    Calls Tryz.prog 23 #[.agg #[.int .i64 L, .int .i64 A, .int .i64 D]] w fun e w' => e = .returned (.int .i64 (secsS L A D)) ∧ Fr (fun _ => False) w w' := by
  obtain ⟨W1, hW1⟩ : ∃ W, W = w.alloc (.cells #[.int .i64 L, .int .i64 A, .int .i64 D] 23) := ⟨_, rfl⟩
  have hf : Fr (fun _ => False) w W1 := by rw [hW1]; exact (Fr.refl _ _).alloc _
  have hrow : W1.heap[w.heap.size]? = some (.cells #[.int .i64 L, .int .i64 A, .int .i64 D] 23 (0, 0)) := by rw [hW1]; exact heap_alloc_new w _
  have hr := rRight_any W1 L A D
  have HW := Lib.hid (And.intro hW1 (And.intro hf hrow))
  cases hb : rightS L A D with
  | false =>
    rw [secsS, hb, if_neg (by decide)]
    rw [hb] at hr
    have HR := Lib.hid hr
    clear hr hb hf hrow hW1
    go_enter Tryz.func23, Tryz.ntmps23
    go_wp2_with (go_at_call 49; rw [← HW.out.1]; refine HR.out.mono ?_; rintro e w2 ⟨rfl, hf2⟩; (have H2 := Lib.hid (HW.out.2.1.trans hf2 (fun _ h => h.elim))); clear hf2)
    go_ret
    exact ⟨rfl, H2.out⟩
  | true =>
    rw [secsS, hb, if_pos rfl]
    obtain ⟨l, a, d, rfl, rfl, rfl, h1, h2, h3, h4⟩ := rightS_yes hb
    rw [hb] at hr
    have HR := Lib.hid hr
    clear hr hb hf hrow hW1
    go_enter Tryz.func23, Tryz.ntmps23
    go_wp2_with (go_at_call 49; rw [← HW.out.1]; refine HR.out.mono ?_; rintro e w2 ⟨rfl, hf2⟩; (have H2 := Lib.hid (HW.out.2.1.trans hf2 (fun _ h => h.elim))); (obtain ⟨s0, s1, s2⟩ := row3_cells (hf2.heap HW.out.2.2 id)); clear hf2)
    go_ret
    exact ⟨rfl, H2.out⟩
end Go.Proofs.YtldgcoikbjbjeaaGreat
namespace Go.Proofs.YtldgcoikbjbjeaaGreat
open Go.RowKit Go.ChangeShapes
set_option linter.unusedVariables false
set_option maxHeartbeats 2000000 in
set_option maxRecDepth 100000 in
theorem refNumber_gen (K n : Nat) (w : World) (hn : n ≤ 9223372036854775807) (hK : n < 128 ^ (K + 1)) (hK2 : K ≤ 100) :
    Calls Tryz.prog 175 #[.int .i64 n] w fun e w' => ∃ v, e = .returned v ∧ OwnB (fun k => w.heap.size ≤ k) w' v (numBytes K n) ∧ Fr (fun _ => False) w w' := by
  go_enter Tryz.func175, Tryz.ntmps175
  go_wp2
  go_loopw [0, 3] (fun nv gv wi => ∃ (r i : Nat) (P : List UInt8), nv = .int .i64 r ∧ r ≤ 9223372036854775807 ∧ Hid (r < 128 ^ (i + 1)) ∧ Hid (P ++ numBytes i r = numBytes K n) ∧ P.length + i ≤ K ∧ Hid (OwnB (fun k => w.heap.size ≤ k) wi gv P ∧ Fr (fun _ => False) w wi)) (fun nv _ _ => (intOf nv).toNat)
  case atStart => exact ⟨n, K, [], rfl, hn, Lib.hid hK, Lib.hid rfl, by simp, Lib.hid ⟨OwnB.nil _ _, Fr.refl _ _⟩⟩
  case round =>
    obtain ⟨r, i, P, rfl, hr, hrb, hP, hPl, hw⟩ := hrel
    have HLN := Lib.hid (show P.length + 1 ≤ 140737488355328 by omega)
    by_cases hlt : r < 128
    · have hPE := Lib.hid (show P ++ [UInt8.ofNat r] = numBytes K n by
        rw [← hP.out]
        cases i with
        | zero => rfl
        | succ k => rw [numBytes, if_pos hlt])
      clear hP hrb
      have HP := Lib.hid (hw.out.1.keep' ((Fr.refl (fun _ => False) wr).alloc (.cells #[.int .u8 (r : Int)] 5)) (fun _ _ h => h))
      have HQ := Lib.hid (hw.out.2.alloc (.cells #[.int .u8 (r : Int)] 5))
      have HOB := Lib.hid (one_byte wr (r : Int) (UInt8.ofNat r) (by rw [UInt8.toNat_ofNat']; omega))
      clear hw
      go_wp2_with (first
        | (at_builtin; refine wpList_append_bytes (F := fun k => w.heap.size ≤ k) (G := fun b => b = wr.heap.size) _ rfl (.tmp 15) (.tmp 18) rfl _ _ P [UInt8.ofNat r] rfl rfl HP.out HOB.out HLN.out ?_; intro v5 w5 ho5 hg5 hn5; have HS5 : Hid (OwnB (fun k => w.heap.size ≤ k) w5 v5 (numBytes K n) ∧ Fr (fun _ => False) w w5) := Lib.hid ⟨by have h := ho5.mono (G := fun k => w.heap.size ≤ k) (fun k _ h => h.elim id (fun h => Nat.le_trans HQ.out.size h)); rwa [hPE.out] at h, HQ.out.grown hg5 (fun k hk => .inr (HP.out.2 k hk))⟩; clear ho5 hg5 hn5)
        | fail)
      go_ret
      exact ⟨_, rfl, HS5.out.1, HS5.out.2⟩
    · have hP' : i ≠ 0 := by rintro rfl; have := hrb.out; omega
      obtain ⟨k, rfl⟩ : ∃ k, i = k + 1 := ⟨i - 1, by omega⟩
      have hPE := Lib.hid (show (P ++ [UInt8.ofNat (r % 128 + 128)]) ++ numBytes k (r / 128) = numBytes K n by
        rw [← hP.out, numBytes, if_neg hlt]; simp)
      have hr1 := Lib.hid (show r / 128 < 128 ^ (k + 1) by have := hrb.out; rw [Nat.pow_succ] at this; omega)
      clear hP hrb
      have HP := Lib.hid (hw.out.1.keep' ((Fr.refl (fun _ => False) wr).alloc (.cells #[.int .u8 ((r : Int) % 128 + 128)] 5)) (fun _ _ h => h))
      have HQ := Lib.hid (hw.out.2.alloc (.cells #[.int .u8 ((r : Int) % 128 + 128)] 5))
      have HOB := Lib.hid (one_byte wr ((r : Int) % 128 + 128) (UInt8.ofNat (r % 128 + 128)) (by rw [UInt8.toNat_ofNat']; omega))
      clear hw
      go_wp2_with (first
        | (at_builtin; refine wpList_append_bytes (F := fun k => w.heap.size ≤ k) (G := fun b => b = wr.heap.size) _ rfl (.tmp 6) (.tmp 11) rfl _ _ P [UInt8.ofNat (r % 128 + 128)] rfl rfl HP.out HOB.out HLN.out ?_; intro v5 w5 ho5 hg5 hn5; have HS5 : Hid (OwnB (fun k => w.heap.size ≤ k) w5 v5 (P ++ [UInt8.ofNat (r % 128 + 128)]) ∧ Fr (fun _ => False) w w5) := Lib.hid ⟨ho5.mono (G := fun k => w.heap.size ≤ k) (fun k _ h => h.elim id (fun h => Nat.le_trans HQ.out.size h)), HQ.out.grown hg5 (fun k hk => .inr (HP.out.2 k hk))⟩; clear ho5 hg5 hn5)
        | fail)
      go_roundw
      case rel => exact ⟨r / 128, k, P ++ [UInt8.ofNat (r % 128 + 128)], by go_num, by omega, hr1, hPE, by simp; omega, HS5⟩
      case measure => simp [intOf]; omega
theorem refNumber_wide (n : Nat) (w : World) (hn : n < 4398046511104) :
    Calls Tryz.prog 175 #[.int .i64 n] w fun e w' => ∃ v, e = .returned v ∧ OwnB (fun k => w.heap.size ≤ k) w' v (numBytes 5 n) ∧ Fr (fun _ => False) w w' :=
  refNumber_gen 5 n w (by omega) (by omega) (by omega)
theorem refNumber_any (n : Nat) (w : World) (hn : n ≤ 1099511627776) :
    Calls Tryz.prog 175 #[.int .i64 n] w fun e w' => ∃ v, e = .returned v ∧ OwnB (fun k => w.heap.size ≤ k) w' v (numBytes 5 n) ∧ Fr (fun _ => False) w w' :=
  refNumber_wide n w (by omega)
end Go.Proofs.YtldgcoikbjbjeaaGreat
