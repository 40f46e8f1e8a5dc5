/- Laid together: TRo TEnt -/
import Derived.Test.YtldgcoikbjbjeaaGreatTk26
import Derived.Test.YtldgcoikbjbjeaaGreatTk22
import Derived.Test.YtldgcoikbjbjeaaGreatTk12
import Derived.Test.YtldgcoikbjbjeaaGreatTk14

namespace Go.Proofs.YtldgcoikbjbjeaaGreat
open Go.RowKit Go.ChangeShapes Go.Maps Go.WideMaps
set_option linter.unusedVariables false
structure KpT (M : Tab) (B : Bs) (R : List Bs) (M0 : Tab) (Ls : List (List Chg)) : Prop where
  ok0 : tabOk M0
  area : (B = [] ∧ M0 = []) ∨ B = rowsB M0
  recs : R = Ls.map chgsB
  okL : ∀ L ∈ Ls, L.length ≤ 400 ∧ ∀ c ∈ L, chgOk c
  tab : M = Ls.foldl tDoAll M0
  smalls : ∀ k, ((Ls.take k).foldl tDoAll M0).length ≤ 4000
theorem KpT.none : KpT [] [] [] [] [] := ⟨tabOk.nil, .inl ⟨rfl, rfl⟩, rfl, (fun L h => by cases h), rfl, fun k => by simp⟩
theorem KpT.all {M : Tab} (h : tabOk M) (hn : M.length ≤ 4000) : KpT M (rowsB M) [] M [] := ⟨h, .inr rfl, rfl, (fun L h => by cases h), rfl, fun k => by simpa using hn⟩
theorem KpT.more {M M0 : Tab} {B : Bs} {R : List Bs} {Ls : List (List Chg)} (h : KpT M B R M0 Ls) (L : List Chg) (hL : L.length ≤ 400 ∧ ∀ c ∈ L, chgOk c) (hn : (tDoAll M L).length ≤ 4000) : KpT (tDoAll M L) B (R ++ [chgsB L]) M0 (Ls ++ [L]) := by
  refine ⟨h.ok0, h.area, by rw [h.recs, List.map_append]; rfl, fun K hK => ?_, by rw [List.foldl_append, ← h.tab]; rfl, fun k => ?_⟩
  · rcases List.mem_append.1 hK with hK | hK
    · exact h.okL K hK
    · rw [List.mem_singleton.1 hK]; exact hL
  · rw [List.take_append]
    by_cases hk : k ≤ Ls.length
    · rw [show k - Ls.length = 0 by omega, List.take_zero, List.append_nil]
      exact h.smalls k
    · obtain ⟨m, hm⟩ : ∃ m, k - Ls.length = m + 1 := ⟨k - Ls.length - 1, by omega⟩
      rw [hm, List.take_of_length_le (by omega), List.foldl_append, ← h.tab]
      simpa using hn
theorem foldl_ok {Ls : List (List Chg)} : ∀ {M0 : Tab}, tabOk M0 → (∀ L ∈ Ls, L.length ≤ 400 ∧ ∀ c ∈ L, chgOk c) → tabOk (Ls.foldl tDoAll M0) := by
  induction Ls with
  | nil => intro M0 h _; exact h
  | cons L Ls ih => intro M0 h hL; exact ih (h.doAll (hL L List.mem_cons_self).2) (fun K hK => hL K (List.mem_cons_of_mem _ hK))
theorem KpT.ok {M M0 : Tab} {B : Bs} {R : List Bs} {Ls : List (List Chg)} (h : KpT M B R M0 Ls) : tabOk M ∧ M.length ≤ 4000 := by
  refine ⟨by rw [h.tab]; exact foldl_ok h.ok0 h.okL, ?_⟩
  have := h.smalls Ls.length
  rwa [List.take_length, ← h.tab] at this
theorem tableOf_any {G : Nat → Prop} (w : World) (v : Value) (M : Tab) (B : Bs) (hb : BytesIn G w v B) (h : (B = [] ∧ M = []) ∨ B = rowsB M) (hM : tabOk M) (hn : M.length ≤ 4000) :
    Calls Tryz.prog 60 #[v] w (OfPost M w) := by
  rcases h with ⟨rfl, rfl⟩ | rfl
  · exact tableOf_none w v hb
  · exact tableOf_some w v M hb hM hn
theorem run_index_rows6 (w : World) (b off n cap i : Nat) (h : i < n) : (Instr.indexAt 38 (.slice (some ⟨b, off, none⟩) n cap) (.int .i64 i)).run Tryz.prog w = .ok (.pointer (some ⟨b, off + i, none⟩)) w := by
  simp [Instr.indexAt, h, Addr.add, asIntOf]
def RoPost (M : Tab) (w : World) (e : Ending) (w' : World) : Prop :=
  ∃ mb F, e = .returned (.tuple #[.agg #[.map (some mb), .int .i64 (tSum M : Nat)], .int .i64 0]) ∧ w.heap.size ≤ mb ∧ TMt F w' mb M ∧ ¬ F mb ∧ (∀ k, F k → w.heap.size ≤ k ∧ k < w'.heap.size) ∧ Fr (fun _ => False) w w'
set_option maxRecDepth 100000 in
set_option maxHeartbeats 4000000 in
theorem rowsOf_any {w0 w : World} {jn g s l la d : Nat} {h : Hd} {dv : Dv} {X : Nat → Prop} (H : LgAt w0 w jn g s l la d h false dv X) (hok : ShOk l la d s) {B : Bs} {R : List Bs} {M M0 : Tab} {Ls : List (List Chg)} (hup : dv.down = false) (hw : dv.waits = []) (k : Kp dv.all l la s h B R) (kt : KpT M B R M0 Ls) :
    Calls Tryz.prog 28 #[.pointer (some ⟨jn, 0, none⟩)] w (RoPost M w) := by
  obtain ⟨W1, hW1⟩ : ∃ W1, W1 = w.alloc (.cells #[.map none, .int .i64 0] 81) := ⟨_, rfl⟩
  have hf1 : Fr (fun _ => False) w W1 := by rw [hW1]; exact (Fr.refl _ _).alloc _
  have hz1 : W1.heap.size = w.heap.size + 1 := by rw [hW1]; simp
  have hr1 : W1.heap[w.heap.size]? = some (.cells #[.map none, .int .i64 0] 81 (0, 0)) := by rw [hW1]; exact heap_alloc_new w _
  have HAR := Lib.hid (gArea (H.quiet hf1) hok hup hw k)
  have HRE := Lib.hid (fun (w2 : World) (hf : Fr (fun _ => False) W1 w2) => gRecords ((H.quiet hf1).quiet hf) hok hup hw k)
  have HKT := Lib.hid kt
  have HW := Lib.hid (And.intro hW1 (And.intro hf1 (And.intro hz1 hr1)))
  obtain ⟨n, hn⟩ : ∃ n, n = R.length := ⟨_, rfl⟩
  have HN := Lib.hid hn
  have h0 := Lib.hid (show M0.length ≤ 4000 by have := kt.smalls 0; simpa using this)
  clear hW1 hf1 hz1 hr1 H hup hw k kt hn hok
  go_enter Tryz.func28, Tryz.ntmps28
  go_wp2_with (first
    | (go_at_call 58; rw [← HW.out.1]; refine HAR.out.mono ?_; rintro e w2 ⟨v2, rfl, ho2, hf2⟩; (obtain ⟨a2, c2, rfl⟩ := ho2.len); (have H2 := Lib.hid (And.intro ho2 hf2)); clear ho2 hf2)
    | (go_at_call 59; refine (HRE.out w2 H2.out.2).mono ?_; rintro e w3 ⟨v3, rfl, ho3, hf3⟩; (obtain ⟨a3, c3, rfl, hc3, hcm3, _⟩ := id ho3); (rw [← HN.out] at hc3 ⊢); (have hn2 := Nat.le_trans hc3 hcm3); clear hc3 hcm3; (have H3 := Lib.hid (And.intro ho3 hf3)); clear ho3 hf3)
    | (go_at_call 60; refine (tableOf_any w3 _ M0 B (H2.out.1.bytes.keep H3.out.2 (fun _ _ _ h => h)) HKT.out.area HKT.out.ok0 h0.out).mono ?_; rintro e w4 ⟨mb, F, rfl, hz4, hm4, hF4, hFF, hf4⟩; (have H4 := Lib.hid (And.intro hz4 (And.intro hm4 (And.intro hF4 (And.intro hFF hf4))))); clear hz4 hm4 hF4 hFF hf4))
  have HRW := Lib.hid H3.out.1
  have hz2 := H2.out.2.size
  have hz3 := H3.out.2.size
  obtain ⟨hz4, hm4, hF4, hFF, hf4⟩ := H4.out
  obtain ⟨-, hfW, hzW, hrW⟩ := HW.out
  have hfw4 : Fr (fun _ => False) w w4 := ((hfW.trans H2.out.2 (fun _ h => h.elim)).trans H3.out.2 (fun _ h => h.elim)).trans hf4 (fun _ h => h.elim)
  have hr4 := hf4.heap (H3.out.2.heap (H2.out.2.heap hrW id) id) id
  obtain ⟨W5, hW5⟩ : ∃ W5, W5 = w4.alloc (.cells #[.map (some mb), .int .i64 (tSum M0 : Nat)] 81) := ⟨_, rfl⟩
  have hf5 : Fr (fun _ => False) w4 W5 := by rw [hW5]; exact (Fr.refl _ _).alloc _
  have hmb := hm4.lt
  have hRw : RwAt F W5 w4.heap.size mb M0 81 [] := ⟨by rw [hW5]; exact heap_alloc_new w4 _, hm4.keep hf5 id (fun _ _ _ h => h), HKT.out.ok0, by have := h0.out; omega, by omega, fun hh => by have := hFF _ hh; omega, hF4⟩
  have HS0 := Lib.hid (show RwAt F W5 w4.heap.size mb ((Ls.take 0).foldl tDoAll M0) 81 [] ∧ (∀ k, F k → w.heap.size < k ∧ k < W5.heap.size) ∧ (∀ k, F k → k < w3.heap.size → False) from ⟨hRw, fun k hk => by have := hFF k hk; have := hf5.size; omega, fun k hk h => by have := hFF k hk; omega⟩)
  have HFR := Lib.hid (And.intro (hfw4.trans hf5 (fun _ h => h.elim)) (And.intro (hf5.heap hr4 id) (show w.heap.size < mb ∧ mb < w4.heap.size by omega)))
  have HRW5 := Lib.hid (And.intro ((H3.out.1.keep hf4 (fun _ _ _ h => h)).keep hf5 (fun _ _ _ h => h)) (And.intro (show W5.heap.size = w4.heap.size + 1 by rw [hW5]; simp) (And.intro hf4.size hz4)))
  rw [← hW5]
  clear HAR HRE HW H2 H4 HRW hz2 hz3 hz4 hm4 hF4 hFF hf4 hfW hzW hrW hfw4 hr4 hW5 hf5 hmb hRw H3
  go_loopw [41] (fun iv wr => ∃ (i : Nat), i ≤ n ∧ iv = .int .i64 i ∧ Hid (∃ F : Nat → Prop, RwAt F wr w4.heap.size mb ((Ls.take i).foldl tDoAll M0) 81 [] ∧ (∀ k, F k → w.heap.size < k ∧ k < wr.heap.size) ∧ (∀ k, F k → k < w3.heap.size → False) ∧ Fr (fun k => k = w4.heap.size ∨ k = mb) W5 wr)) (fun iv _ => n - (intOf iv).toNat)
  case atStart => exact ⟨0, by omega, rfl, Lib.hid ⟨F, HS0.out.1, HS0.out.2.1, HS0.out.2.2, Fr.refl _ _⟩⟩
  case round =>
    obtain ⟨i, hi, rfl, hR⟩ := hrel
    obtain ⟨F, hRw, hF, hF3, hfr⟩ := hR.out
    have hkt := HKT.out
    by_cases hlt : i < n
    · have hiR : i < R.length := by rw [← HN.out]; exact hlt
      have hiL : i < Ls.length := by have h1 := congrArg List.length hkt.recs; rw [List.length_map] at h1; omega
      obtain ⟨ao, cap, hv, _, _, _, hrows⟩ := HRW5.out.1
      obtain ⟨b, off, rfl, hb3, hcell⟩ := hrows (by intro e; rw [e] at hiR; simp at hiR)
      simp only [Value.slice.injEq] at hv
      obtain ⟨rfl, -, rfl⟩ := hv
      obtain ⟨x, hx, hbx⟩ := hcell i hiR
      obtain ⟨L, hL⟩ : ∃ L, L = Ls[i] := ⟨_, rfl⟩
      have hRL : R[i] = chgsB L := by
        have h1 := List.getElem?_eq_getElem hiR
        have h2 : R[i]? = some (chgsB Ls[i]) := by rw [hkt.recs, List.getElem?_map, List.getElem?_eq_getElem hiL]; rfl
        rw [h2] at h1
        rw [hL]
        exact (Option.some.inj h1).symm
      have hLok := hkt.okL L (by rw [hL]; exact List.getElem_mem _)
      have htk : (Ls.take (i + 1)).foldl tDoAll M0 = tDoAll ((Ls.take i).foldl tDoAll M0) L := by rw [List.take_succ_eq_append_getElem hiL, ← hL, List.foldl_append]; rfl
      rw [hRL] at hbx
      obtain ⟨ax, cx, rfl, _⟩ := id hbx
      have hbz : b < w3.heap.size := hb3
      have hx2 := hfr.cell hx (fun e => by have := HRW5.out; have e' : b = w4.heap.size ∨ b = mb := e; omega)
      have hbx2 := hbx.keep hfr (fun k _ (hk : k < w3.heap.size) e => by have := HRW5.out; have e' : k = w4.heap.size ∨ k = mb := e; omega)
      have hix := run_index_rows6 wr b off n c3 i hlt
      have hCO := Lib.hid (changesOf_any wr _ L hbx2 hLok.2 (by have := hLok.1; omega))
      have hsm : ((Ls.take i).foldl tDoAll M0).length ≤ 50000 := by have := hkt.smalls i; omega
      have HS := Lib.hid (And.intro hRw (And.intro hF (And.intro hF3 (And.intro hfr (And.intro hLok (And.intro htk (And.intro hsm hRw.lt)))))))
      obtain ⟨lx, hlx⟩ : ∃ lx, lx = (chgsB L).length := ⟨_, rfl⟩
      rw [← hlx] at hx2 hCO
      clear hR hRw hF hF3 hfr hrows hcell hx hbx hbx2 hL hRL hLok htk hsm HS0 hkt hlx hiR hiL hb3 hbz
      go_wp2_with (first
        | (go_at_call 61; refine hCO.out.mono ?_; rintro e w6 ⟨x6, l6, rfl, hc6, hm6, hf6⟩; (obtain ⟨a6, c6, rfl, _⟩ := hc6.open6); (have H6 := Lib.hid (And.intro hc6 (And.intro hm6 hf6))); clear hc6 hm6 hf6)
        | (go_at_call 36; refine (do_any w6 (HS.out.1.quiet H6.out.2.2) (fun k hk => by have := HS.out.2.1 k hk; have := H6.out.2.2.size; omega) _ l6 H6.out.1 (fun k hk => by have := HS.out.2.2.2.2.2.2.2; have := H6.out.2.2.size; omega) (fun p hp => HS.out.2.2.2.2.1.2 _ (by rw [← H6.out.2.1]; exact List.mem_map_of_mem hp)) (by have h1 := congrArg List.length H6.out.2.1; rw [List.length_map] at h1; have := HS.out.2.2.2.2.1.1; omega) HS.out.2.2.2.2.2.2.1).mono ?_; rintro e w7 ⟨vb, Lb, F', rfl, hr7, hF7, -, -, -, hf7⟩; (have H7 := Lib.hid (And.intro hr7 (And.intro hF7 hf7))); clear hr7 hF7 hf7))
      go_roundw
      case rel =>
        refine ⟨i + 1, by omega, by go_num, Lib.hid ⟨F', by rw [HS.out.2.2.2.2.2.1, ← H6.out.2.1]; exact H7.out.1, fun k hk => ?_, fun k hk h3 => ?_, (HS.out.2.2.2.1.trans H6.out.2.2 (fun _ h => h.elim)).trans H7.out.2.2 (fun k hk => .inl hk)⟩⟩
        · have h1 := H7.out.2.1 k hk
          have h2 := H6.out.2.2.size
          have h3 := HS.out.2.2.2.1.size
          have h4 := HFR.out.1.size
          have h5 := HFR.out.2.2
          have h6 := HRW5.out.2
          rcases h1.1 with h | h
          · have := HS.out.2.1 k h; omega
          · omega
        · have h1 := H7.out.2.1 k hk
          have h2 := H6.out.2.2.size
          have h5 := HS.out.2.2.2.1.size
          have h4 := HRW5.out.2
          rcases h1.1 with h | h
          · exact HS.out.2.2.1 k h h3
          · omega
      case measure => simp [intOf]; omega
    · obtain rfl : i = n := by omega
      have htk : Ls.take i = Ls := List.take_of_length_le (by have h1 := congrArg List.length hkt.recs; rw [List.length_map] at h1; rw [HN.out]; omega)
      rw [htk, ← hkt.tab] at hRw
      obtain ⟨k0, k1, _⟩ := hRw.cells
      have hr0 := hfr.heap HFR.out.2.1 (fun e => by have := HFR.out.2.2; have e' : w.heap.size = w4.heap.size ∨ w.heap.size = mb := e; omega)
      obtain ⟨l0, l1⟩ : wr.cell? ⟨w.heap.size, 0, none⟩ = some (.map none) ∧ wr.cell? ⟨w.heap.size, 1, none⟩ = some (.int .i64 0) := ⟨cell_of_row _ _ _ _ _ _ hr0, cell_of_row _ _ _ _ _ _ hr0⟩
      obtain ⟨z0, z1⟩ : wr.frozen? ⟨w.heap.size, 0, none⟩ = false ∧ wr.frozen? ⟨w.heap.size, 1, none⟩ = false := ⟨frozen_of_row _ _ _ _ _ hr0, frozen_of_row _ _ _ _ _ hr0⟩
      have HS := Lib.hid (And.intro hRw (And.intro hF (And.intro hfr hr0)))
      clear hR hRw hF hF3 hfr htk hr0 HS0 hkt
      go_wp2
      obtain ⟨W6, hW6⟩ : ∃ W, W = (wr.setCell ⟨w.heap.size, 0, none⟩ (.map (some mb))).setCell ⟨w.heap.size, 1, none⟩ (.int .i64 (tSum M : Nat)) := ⟨_, rfl⟩
      have hp : W6.heap[w.heap.size]? = some (.cells #[.map (some mb), .int .i64 (tSum M : Nat)] 81 (0, 0)) := by rw [hW6]; exact cell_put _ (cell_put _ HS.out.2.2.2)
      have hfp : Fr (fun k => k = w.heap.size) wr W6 := by rw [hW6]; exact (Fr.cell1 wr _ 0 _).trans (Fr.cell1 _ _ 1 _) (fun k h => .inl h)
      rw [← hW6]
      have t0 := cell_of_row _ _ 0 _ _ _ hp
      have t1 := cell_of_row _ _ 1 _ _ _ hp
      have hz := HFR.out.2.2
      refine bodyPost_ret (v := .tuple #[.agg #[.map (some mb), .int .i64 (tSum M : Nat)], .int .i64 0]) (by simp [results, Tryz.results28, go_sem, t0, t1]) rfl ⟨mb, F, rfl, by omega, HS.out.1.tm.keep hfp (fun e => by have e' : mb = w.heap.size := e; omega) (fun k _ hk e => by have := HS.out.2.1 k hk; have e' : k = w.heap.size := e; omega), HS.out.1.sep.2.2, fun k hk => ⟨by have := HS.out.2.1 k hk; omega, by have := HS.out.2.1 k hk; have := hfp.size; omega⟩, ?_⟩
      exact (HFR.out.1.trans HS.out.2.2.1 (fun k e => .inr (by omega))).trans hfp (fun k e => .inr (by have e' : k = w.heap.size := e; omega))
end Go.Proofs.YtldgcoikbjbjeaaGreat
namespace Go.Proofs.YtldgcoikbjbjeaaGreat
open Go.RowKit Go.ChangeShapes
set_option linter.unusedVariables false
theorem fld_spence_table_Table_0_0 (w : World) (g : Nat) : (Instr.fieldAt 85 (.pointer (some ⟨g, 0, none⟩)) 0).run Tryz.prog w = .ok (.pointer (some ⟨g, 0, none⟩)) w := by kernel_rfl
theorem ent___spence_table_rows__many (args : Array Value) (w : World) : (callFunc 42 args).run Tryz.prog w = .ok (.enter 42 args) w := by kernel_rfl
theorem ent___spence_table_rows__length (args : Array Value) (w : World) : (callFunc 43 args).run Tryz.prog w = .ok (.enter 43 args) w := by kernel_rfl
theorem fld_spence_table_Table_2_0 (w : World) (g : Nat) : (Instr.fieldAt 85 (.pointer (some ⟨g, 0, none⟩)) 2).run Tryz.prog w = .ok (.pointer (some ⟨g, 3, none⟩)) w := by kernel_rfl
end Go.Proofs.YtldgcoikbjbjeaaGreat
