/- Laid together: TKLaw -/
import Derived.Test.YtldgcoikbjbjeaaGreatTk39

namespace Go.Proofs.YtldgcoikbjbjeaaGreat
open Go.RowKit Go.ChangeShapes
set_option linter.unusedVariables false
theorem run_index_de6 (w : World) (b off n cap i : Nat) (h : i < n) : (Instr.indexAt 24 (.slice (some ⟨b, off, none⟩) n cap) (.int .i64 i)).run Tryz.prog w = .ok (.pointer (some ⟨b, off + i * 6, none⟩)) w := by
  simp [Instr.indexAt, h, Addr.add, asIntOf]
theorem fld_de3 (w : World) (b o : Nat) : (Instr.fieldAt 45 (.pointer (some ⟨b, o, none⟩)) 3).run Tryz.prog w = .ok (.pointer (some ⟨b, o + 3, none⟩)) w := by kernel_rfl
theorem load_vals6 (w : World) (g : Nat) (x y : Value) (h : w.rangeAt g 0 [x, y]) : (Instr.loadAt 40 (.pointer (some ⟨g, 0, none⟩))).run Tryz.prog w = .ok (.agg #[x, y]) w :=
  run_loadAt_mid w g 0 40 [x, y] _ h Tryz.underlying40 rfl (by kernel_rfl)
theorem vals_range {w : World} {g : Nat} {a b : Value} {T : TypeId} (h : w.heap[g]? = some (.cells #[a, b] T (0, 0))) : w.rangeAt g 0 [a, b] := fun j v hv => by
  rw [Nat.zero_add]
  rw [show w.cell? ⟨g, j, none⟩ = (#[a, b] : Array Value)[j]? by simp [World.cell?, h]]
  simpa using hv
theorem ent_turned (args : Array Value) (w : World) : (callFunc 14 args).run Tryz.prog w = .ok (.enter 14 args) w := by kernel_rfl
theorem TbAt.size0 {w0 w : World} {tb jn g s l la d : Nat} {h : Hd} {dn : Bool} {dv : Dv} {M : Tab} {X : Nat → Prop} (H : TbAt w0 w tb jn g s l la d h dn dv M X) : w0.heap.size ≤ w.heap.size := by
  obtain ⟨_, _, h1, _⟩ := H.ex
  exact h1.fr.size
def TkPost (Gx : Nat → Prop) (zz : Nat) (M2 : Tab) (N2 : Nat) (v : Value) (W : World) : Prop := ∃ p1 q1 r1 p2 q2 r2 l2, v = .agg #[.slice p1 q1 r1, .slice p2 q2 r2] ∧ VsOwn Gx zz W (.slice p1 q1 r1) (.slice p2 q2 r2) l2 ∧ TRep (l2.map RowD.row) M2 ∧ l2.length ≤ N2
def TkR (gn b oo n cap ii : Nat) (a1 : Option Addr) (n1 c1 : Nat) (a2 : Option Addr) (n2 c2 : Nat) (al : Option Addr) (m cl zz : Nat) (Gx : Nat → Prop) (M2 : Tab) (N2 : Nat) (i : Nat) (v : Value) (W : World) : Prop :=
  match i with
  | 0 => v = .agg #[.slice a1 n1 c1, .slice a2 n2 c2]
  | 1 => v = .slice (some ⟨b, oo, none⟩) n cap
  | 2 => v = .int .i64 (ii : Nat)
  | 3 => v = .pointer (some ⟨b, oo + ii * 6, none⟩)
  | 4 => v = .pointer (some ⟨b, oo + ii * 6 + 3, none⟩)
  | 5 => v = .slice al m cl
  | 6 => ∃ p1 q1 r1 p2 q2 r2 l2, v = .agg #[.slice p1 q1 r1, .slice p2 q2 r2] ∧ VsOwn Gx zz W (.slice p1 q1 r1) (.slice p2 q2 r2) l2 ∧ TRep (l2.map RowD.row) M2 ∧ l2.length ≤ N2
  | 7 => ∃ gc, v = .pointer (some ⟨gc, 0, none⟩) ∧ zz ≤ gc ∧ W.heap[gc]? = some (.cells #[.slice none 0 0, .slice none 0 0] 40 (0, 0))
  | _ => True
theorem TkR.ext (gn b oo n cap ii : Nat) (a1 : Option Addr) (n1 c1 : Nat) (a2 : Option Addr) (n2 c2 : Nat) (al : Option Addr) (m cl zz : Nat) (Gx : Nat → Prop) (M2 : Tab) (N2 : Nat) : ∀ (j : Nat) (u : Value) (W W' : World), Fr (fun _ => False) W W' → TkR gn b oo n cap ii a1 n1 c1 a2 n2 c2 al m cl zz Gx M2 N2 j u W → TkR gn b oo n cap ii a1 n1 c1 a2 n2 c2 al m cl zz Gx M2 N2 j u W'
  | 0, u, W, W', hf, h => h
  | 1, u, W, W', hf, h => h
  | 2, u, W, W', hf, h => h
  | 3, u, W, W', hf, h => h
  | 4, u, W, W', hf, h => h
  | 5, u, W, W', hf, h => h
  | 6, u, W, W', hf, h => (let ⟨p1, q1, r1, p2, q2, r2, l2, h1, h2, h3⟩ := h; ⟨p1, q1, r1, p2, q2, r2, l2, h1, h2.quiet hf, h3⟩)
  | 7, u, W, W', hf, h => (let ⟨g, h1, h2, h3⟩ := h; ⟨g, h1, h2, hf.heap h3 id⟩)
  | _ + 8, u, W, W', hf, h => trivial
theorem tk_post {Gx : Nat → Prop} {zz N2 : Nat} {M2 : Tab} {kv vv : Value} {l2 : List RowD} {W : World} (h : VsOwn Gx zz W kv vv l2) (hr : TRep (l2.map RowD.row) M2) (hl : l2.length ≤ N2) : TkPost Gx zz M2 N2 (.agg #[kv, vv]) W := by
  obtain ⟨ak, ck, rfl, _⟩ := h.kr.row.form
  obtain ⟨av, cv, rfl, _⟩ := h.vr.row.form
  exact ⟨_, _, _, _, _, _, l2, rfl, h, hr, hl⟩
set_option maxRecDepth 100000 in
set_option maxHeartbeats 8000000 in
theorem tableKept_any (w : World) (L A D : Int) (v : Value) (ds : List DeedD) (hds : DeedsIn (fun k => k < w.heap.size) w v ds) :
    Calls Tryz.prog 3 #[.agg #[.int .i64 L, .int .i64 A, .int .i64 D], v] w fun e w' => e = .returned (.bool true) ∧ Fr (fun _ => False) w w' := by
  obtain ⟨gs, hgs⟩ : ∃ gs, gs = w.heap.size := ⟨_, rfl⟩
  obtain ⟨W1, hW1⟩ : ∃ W, W = w.alloc (.cells #[.int .i64 L, .int .i64 A, .int .i64 D] 23) := ⟨_, rfl⟩
  have H1 := Lib.hid (show Fr (fun _ => False) w W1 ∧ W1.heap[gs]? = some (.cells #[.int .i64 L, .int .i64 A, .int .i64 D] 23 (0, 0)) by
    rw [hW1, hgs]
    exact ⟨(Fr.refl _ _).alloc _, heap_alloc_new w _⟩)
  have HW := Lib.hid (And.intro hW1 hgs)
  have HDS := Lib.hid hds
  obtain ⟨ao, cap, rfl, _⟩ := hds
  obtain ⟨n, hn⟩ : ∃ n, n = ds.length := ⟨_, rfl⟩
  have HN := Lib.hid hn
  rw [← hn] at HDS ⊢
  have HGR := Lib.hid (fun (w2 : World) (hf : Fr (fun _ => False) w w2) => great_any6 w2 L A D (HDS.out.keep hf (fun _ _ _ h => h)))
  have HRI := Lib.hid (fun (W : World) => lRight_any W L A D)
  clear hW1 hgs hn
  go_enter Tryz.func3, Tryz.ntmps3
  go_wp2_with (go_at_call 5; rw [← HW.out.1, ← HW.out.2]; refine (awake_any W1).mono ?_; rintro e w2 ⟨rfl, hf2⟩; (have H2 := Lib.hid (And.intro (H1.out.1.trans hf2 (fun _ h => h.elim)) (hf2.heap H1.out.2 id))); (obtain ⟨s0, s1, s2⟩ := row3_cells H2.out.2); clear hf2)
  refine (HGR.out w2 H2.out.1).mono ?_
  rintro e w3 ⟨bg, rfl, hbg, hf3⟩
  have H3 := Lib.hid (And.intro (H2.out.1.trans hf3 (fun _ h => h.elim)) (hf3.heap H2.out.2 id))
  obtain ⟨s0, s1, s2⟩ := row3_cells H3.out.2
  clear hf3
  cases bg with
  | true =>
    go_wp2
    go_ret
    exact ⟨rfl, H3.out.1⟩
  | false =>
    obtain ⟨hs80, hl40, hlen⟩ := hbg rfl
    have HLEN := Lib.hid hlen
    have hn1 : n ≤ 40 := by rw [HN.out]; exact hl40
    clear hbg hlen hl40
    go_wp2_with fail
    refine (HRI.out w3).mono ?_
    rintro e w4 ⟨rfl, hf4⟩
    have H4 := Lib.hid (And.intro (H3.out.1.trans hf4 (fun _ h => h.elim)) (hf4.heap H3.out.2 id))
    cases hr : rightS L A D with
    | false =>
      clear hf4
      go_wp2
      go_ret
      exact ⟨rfl, H4.out.1⟩
    | true =>
      obtain ⟨l, la, d, rfl, rfl, rfl, hl1, hl2, hl3, hl4⟩ := rightS_yes hr
      have hs80' : 1 + l + 2 * la + d ≤ 80 := by
        rw [secsS, if_pos hr] at hs80
        omega
      obtain ⟨s, hs⟩ : ∃ s, s = 1 + l + 2 * la + d := ⟨_, rfl⟩
      have hok : ShOk l la d s := ⟨hl1, hl2, hl3, hs, by omega⟩
      have HOK := Lib.hid hok
      have hs8 : s ≤ 80 := by omega
      clear hr hs80 hs80' hs hok hl1 hl2 hl3 hl4 HGR HRI s0 s1 s2 hf4
      obtain ⟨s0, s1, s2⟩ := row3_cells H4.out.2
      have HNS := Lib.hid (show 1 ≤ s ∧ s ≤ 8192 from ⟨by have := HOK.out.sum; omega, by omega⟩)
      obtain ⟨dv1, ht1, K1, k01, hlf1⟩ := TgK.new l la d s HOK.out
      have HT := Lib.hid (And.intro ht1 (And.intro K1 (And.intro k01 hlf1)))
      have HFO := Lib.hid (fun (W : World) (g : Nat) (D : Nat → Prop) (hd : DevAt W D g s (Dv.new s)) => tFormat_any W g l la d s (Dv.new s) HOK.out hd (by simp [Dv.new]) (by simp [Dv.new]))
      rw [ht1] at HFO
      have HOP := Lib.hid (fun (W : World) (g : Nat) (D : Nat → Prop) (hd : DevAt W D g s dv1) => tOpen_any W g l la d s dv1 ⟨0, 0, 0, 1⟩ HOK.out hd K1.up K1.waits k01 KpT.none K1.fit)
      clear ht1 K1 k01 hlf1
      go_wp2_with (first
        | (go_at_call 9; (with_reducible refine (lSectors_any w4 l la d s HOK.out).mono ?_); rintro e w5 ⟨rfl, hf5⟩; (have H5 := Lib.hid (And.intro (H4.out.1.trans hf5 (fun _ h => h.elim)) (hf5.heap H4.out.2 id))); (obtain ⟨s0, s1, s2⟩ := row3_cells H5.out.2); clear hf5)
        | (go_at_call 8; (with_reducible refine (aNew w5 s HNS.out.1 HNS.out.2).mono ?_); rintro e w6 ⟨ga, rfl, hd6, hf6⟩; (have H6 := Lib.hid (And.intro (H5.out.1.trans hf6 (fun _ h => h.elim)) (And.intro (hf6.heap H5.out.2 id) (And.intro (hd6.mono (E := fun k => w5.heap.size ≤ k ∧ k < w6.heap.size) (fun k hk h => ⟨h, hk⟩)) hf6)))); (obtain ⟨s0, s1, s2⟩ := row3_cells H6.out.2.1); clear hf6 hd6))
      obtain ⟨a6, b6, c6, d6⟩ := H6.out
      refine (HFO.out w6 ga _ c6).mono ?_
      rintro e w7 ⟨rfl, hd7, hf7⟩
      have hz6 := d6.size
      have hz7 := hf7.size
      have hz5 := H5.out.1.size
      have hgs := lt_of_block H5.out.2
      have H7 := Lib.hid (And.intro (a6.trans hf7 (fun k hk => .inr (by omega))) (And.intro (hf7.heap b6 (fun hh => by omega)) (And.intro (hd7.mono (E := fun k => w5.heap.size ≤ k ∧ k < w7.heap.size) (fun k hk h => ⟨by omega, hk⟩)) (d6.trans hf7 (fun k hk => .inr (by omega))))))
      clear a6 b6 c6 d6 hd7 hf7
      obtain ⟨s0, s1, s2⟩ := row3_cells H7.out.2.1
      go_wp2_with (first
        | (go_at_call 11; (with_reducible refine (HOP.out w7 ga _ H7.out.2.2.1).mono ?_); rintro e w8 ⟨tb, mb, jn, F, rfl, hj8, ht8, ho8, hF8, hf8⟩; (have H8 := Lib.hid (And.intro hj8 (And.intro ht8 (And.intro ho8 (And.intro hF8 hf8))))); (obtain ⟨s0, s1, s2⟩ := row3_cells (hf8.heap H7.out.2.1 id)); clear hj8 ht8 ho8 hF8 hf8))
      have hz6 := H6.out.2.2.2.size
      have hz7 := H7.out.2.2.2.size
      have hz5 := H5.out.1.size
      obtain ⟨a7, b7, c7, d7⟩ := H7.out
      obtain ⟨j8, t8, o8, F8, f8⟩ := H8.out
      have hz8 := f8.size
      have lt8 := RwAt.lt t8
      have lj8 := j8.lt
      have hTB : TbAt w5 w8 tb jn ga s l la d ⟨0, 0, 0, 1⟩ false dv1 [] (fun _ => False) := by
        refine ⟨mb, F, LgAt.made j8 (c7.keep f8 (fun _ _ _ h => h)) (fun k hk => ⟨by omega, by omega, by omega, fun h => ?_⟩) ⟨by omega, fun h => ?_⟩ (fun k h => ?_) (d7.trans f8 (fun _ h => h.elim)), t8, fun k h => ⟨?_, id⟩⟩
        · rcases h with h | h | h | h
          · exact h
          · omega
          · omega
          · have := F8 k h; omega
        · rcases h with h | h | h | h
          · exact h
          · omega
          · omega
          · exact o8.2.2.2.2.2 h
        · rcases h with h | h | h | h
          · exact h.elim
          · omega
          · omega
          · have := F8 k h; omega
        · rcases h with h | h | h
          · omega
          · omega
          · have := F8 k h; omega
      obtain ⟨gn, hgn⟩ : ∃ gn, gn = w8.heap.size := ⟨_, rfl⟩
      obtain ⟨W9, hW9⟩ : ∃ W, W = w8.alloc (.cells #[.slice none 0 0, .slice none 0 0] 40) := ⟨_, rfl⟩
      have hf9 : Fr (fun _ => False) w8 W9 := by rw [hW9]; exact (Fr.refl _ _).alloc _
      have hb9 : W9.heap[gn]? = some (.cells #[.slice none 0 0, .slice none 0 0] 40 (0, 0)) := by rw [hW9, hgn]; exact heap_alloc_new w8 _
      have hz9 := lt_of_block hb9
      have HG := Lib.hid (show ∀ k, k < w.heap.size → k < w5.heap.size from fun k hk => by omega)
      have H0 := Lib.hid (show KS w5 ga s l la d gn (fun k => k < w.heap.size) 0 tb jn W9 from ⟨fun k => k = gn, _, _, [], _, _, [], hTB.grow (Y := fun k => k = gn) hf9 (fun k hk => .inr (by omega)) (fun k hk => hk.elim), HT.out.2.1, ⟨hb9, rfl, by omega, VsOwn.nil _ _ _, fun g hg => by simp [Value.ownBlock] at hg, TRep.nil, by simp⟩⟩)
      have H9 := Lib.hid (show DeedsIn (fun k => k < w.heap.size) W9 (.slice ao n cap) ds ∧ W9.heap[gs]? = some (.cells #[.int .i64 l, .int .i64 la, .int .i64 d] 23 (0, 0)) ∧ gs < w5.heap.size ∧ w.heap.size ≤ w5.heap.size ∧ Fr (fun _ => False) w W9 from ⟨HDS.out.keep ((a7.trans f8 (fun _ h => h.elim)).trans hf9 (fun _ h => h.elim)) (fun _ _ _ h => h), hf9.heap (f8.heap b7 id) id, by omega, by omega, (a7.trans f8 (fun _ h => h.elim)).trans hf9 (fun _ h => h.elim)⟩)
      rw [← hW9, ← hgn]
      clear a7 b7 c7 d7 j8 t8 o8 F8 f8 lt8 lj8 hTB hW9 hgn hf9 hb9 hz9 hz5 hz6 hz7 hz8 H2 H3 H4 H5 H6 H7 H8 HFO HOP HT HNS H1 HW s0 s1 s2 hgs
      go_loopw [7, 10] (fun tv iv wr => ∃ tb jn i : Nat, i ≤ n ∧ tv = .pointer (some ⟨tb, 0, none⟩) ∧ iv = .int .i64 i ∧ Hid (KS w5 ga s l la d gn (fun k => k < w.heap.size) i tb jn wr ∧ Fr (fun k => w5.heap.size ≤ k) W9 wr)) (fun _ iv _ => n - (intOf iv).toNat)
      case atStart => exact ⟨tb, jn, 0, by omega, rfl, rfl, Lib.hid ⟨H0.out, Fr.refl _ _⟩⟩
      case round =>
        clear H0
        obtain ⟨tb, jn, i, hi, rfl, rfl, hR⟩ := hrel
        obtain ⟨X, hh, dv, M, kv, vv, lv, hTB, hK, hNW⟩ := hR.out.1.ex
        have hfr := hR.out.2
        have hbs := hfr.heap H9.out.2.1 (fun e => by have := H9.out.2.2.1; omega)
        obtain ⟨s0, s1, s2⟩ := row3_cells hbs
        by_cases hlt : i < n
        case neg =>
          obtain rfl : i = n := by omega
          have HOP := Lib.hid (reopen_any hTB hK HOK.out)
          have HIS := Lib.hid (fun (W : World) (tb' jn' : Nat) (hf : Fr (fun _ => False) wr W) (HT : TbAt w5 W tb' jn' ga s l la d hh false dv M X) => (hNW.quiet hf).is (by omega) HT hK.ok)
          rw [isB_yes hNW.rep] at HIS
          have HFR := Lib.hid (H9.out.2.2.2.2.trans hfr (fun k hk => .inr (by have := H9.out.2.2.2.1; omega)))
          have HNC := Lib.hid hNW
          obtain ⟨ak, ck, rfl, _⟩ := hNW.own.kr.row.form
          obtain ⟨av, cv, rfl, _⟩ := hNW.own.vr.row.form
          obtain ⟨q0, q1, _, _⟩ := hNW.cells
          clear hTB hK hNW hR hfr hbs
          go_wp2_with (first
            | (go_at_call 11; (with_reducible refine HOP.out.mono ?_); rintro e w10 ⟨tb', jn', rfl, ht10, hf10⟩; (have H10 := Lib.hid (And.intro ht10 hf10)); (have q0 := hf10.cell q0 id); (have q1 := hf10.cell q1 id); clear ht10 hf10)
            | (go_at_call 16; (with_reducible refine (HIS.out w10 tb' jn' H10.out.2 H10.out.1).mono ?_); rintro e w11 ⟨rfl, hf11⟩; (have H11 := Lib.hid ((HFR.out.trans H10.out.2 (fun _ h => h.elim)).trans hf11 (fun _ h => h.elim))); clear hf11))
          go_ret
          exact ⟨rfl, H11.out⟩
        case pos =>
          have hil : i < ds.length := by rw [← HN.out]; exact hlt
          have HLT := Lib.hid hlt
          obtain ⟨ao2, cap2, hv2, _, _, hblk⟩ := H9.out.1.keep hfr (fun k _ hk hh => by have := HG.out k hk; omega)
          simp only [Value.slice.injEq] at hv2
          obtain ⟨rfl, -, rfl⟩ := hv2
          obtain ⟨b, off, rfl, hall⟩ := hblk (fun e => by rw [e] at hil; simp at hil)
          have hat := hall i hil
          have hlen := HLEN.out _ (List.getElem_mem hil)
          obtain ⟨⟨what, nn, bit, xl, Lc, key, xr, Rr⟩, hp⟩ : ∃ p, p = ds[i] := ⟨_, rfl⟩
          rw [← hp] at hat hlen
          obtain ⟨dw, dnn, _, dcl, _, _, dchgs, _, din, ⟨⟨w1, w2⟩, ⟨n1, n2⟩, _⟩, _⟩ := hat
          simp only at dw dnn dcl dchgs w1 w2 n1 n2 hlen
          have HCH := Lib.hid dchgs
          obtain ⟨al, cl, rfl, _⟩ := dchgs.open6
          clear hblk hall hp
          by_cases hw2 : what % 9 = 2
          case pos =>
            have d1 : (what % 9 == 2) = true := by rw [beq_iff_eq]; exact hw2
            have HFU := Lib.hid (tFuse hTB nn n2 n1)
            have HKK := Lib.hid (And.intro hK (And.intro hNW hfr))
            clear hTB hK hNW hR hfr hbs hil
            go_wp2_with (first
              | (go_at_call 12; refine (pick_any what 9 _ (by decide) (by decide) w1 w2).mono ?_; rintro e r4 ⟨rfl, rfl⟩)
              | (go_at_call 13; (with_reducible refine HFU.out.mono ?_); rintro e w10 ⟨rfl, h10, f10⟩; (have H10 := Lib.hid (And.intro h10 f10)); clear h10 f10))
            go_roundw
            case rel => exact ⟨tb, jn, i + 1, by have := HLT.out; omega, rfl, by go_num, Lib.hid ⟨⟨X, hh, _, M, kv, vv, lv, H10.out.1, (HKK.out.1.fuse nn).later (by omega), (HKK.out.2.1.keep H10.out.2 HG.out).wide (fun _ h => h) (by omega)⟩, HKK.out.2.2.trans H10.out.2 (fun k hk => .inl hk.1)⟩⟩
            case measure => (have := HLT.out; simp [intOf]; omega)
          case neg =>
            have d1 : (what % 9 == 2) = false := by rw [beq_eq_false_iff_ne]; exact hw2
            have HNC := Lib.hid (And.intro hNW (And.intro hTB (And.intro hK hfr)))
            obtain ⟨ak, ck, hkv, _⟩ := hNW.own.kr.row.form
            obtain ⟨av, cv, hvv, _⟩ := hNW.own.vr.row.form
            subst hkv
            subst hvv
            obtain ⟨n1', hn1'⟩ : ∃ q, q = (keyV lv).length := ⟨_, rfl⟩
            obtain ⟨n2', hn2'⟩ : ∃ q, q = (valV lv).length := ⟨_, rfl⟩
            obtain ⟨m, hm⟩ : ∃ m, m = Lc.length := ⟨_, rfl⟩
            rw [← hn1', ← hn2'] at HNC hNW
            rw [← hm] at HCH dcl
            have HMM := Lib.hid (And.intro hm hlen)
            obtain ⟨M2, hM2⟩ : ∃ M2, M2 = tDoAll M (Lc.map ChgD.chg) := ⟨_, rfl⟩
            obtain ⟨zz, hzz⟩ : ∃ zz, zz = wr.heap.size := ⟨_, rfl⟩
            obtain ⟨N2, hN2⟩ : ∃ N2, N2 = 1000 * (i + 1) := ⟨_, rfl⟩
            have HZZ := Lib.hid hzz
            have HM2 := Lib.hid (And.intro hM2 hN2)
            have HTU := Lib.hid (fun (W : World) (hW : Fr (fun _ => False) wr W) => (turned_any (G := fun k => k < w.heap.size) (hNW.quiet hW).own.vs (hNW.quiet hW).own.bytes (HCH.out.keep hW (fun _ _ _ h => h)) (fun k hk => by have := HG.out k hk; have := hTB.size0; have := hW.size; omega) (by have := hNW.len; omega) hNW.rep).mono (fun e w' ⟨kv', vv', l', he, ho, hl, hr, hf⟩ => show ∃ v, e = Ending.returned v ∧ Fr (fun _ => False) W w' ∧ TkPost (fun k => k < w.heap.size) zz M2 N2 v w' from ⟨_, he, hf, tk_post (ho.mono (by have := hW.size; omega)) (by rw [hM2]; exact hr) (by have := hNW.len; omega)⟩))
            have LDN := Lib.hid (fun (W : World) (hW : Fr (fun _ => False) wr W) => load_vals6 W gn (.slice ak n1' ck) (.slice av n2' cv) (vals_range (hNW.quiet hW).box))
            have LDC := Lib.hid (fun (W : World) (hW : Fr (fun _ => False) wr W) => load_one5 W 42 ⟨b, off + i * 6 + 3, none⟩ _ (by kernel_rfl) (hW.cell dcl id))
            clear hTB hK hNW hR hfr hbs hil hM2 hzz hm hn1' hn2' hN2
            go_wp2_with (first
              | (go_at_call 12; refine (pick_any what 9 _ (by decide) (by decide) w1 w2).mono ?_; rintro e r4 ⟨rfl, rfl⟩))
            refine wp_region_inv 8 (by kernel_rfl) (by kernel_rfl) (fun W => Fr (fun _ => False) wr W) (TkR gn b off n cap i ak n1' ck av n2' cv al m cl zz (fun k => k < w.heap.size) M2 N2) (fun _ _ _ _ => True) (Fr (fun _ => False)) (TkR.ext gn b off n cap i ak n1' ck av n2' cv al m cl zz (fun k => k < w.heap.size) M2 N2) (Fr.refl _ _).drew ?_ ?_
            · intro i hi o ho
              replace hi : i < 8 := hi
              obtain rfl | rfl | rfl | rfl | rfl | rfl | rfl | rfl : i = 0 ∨ i = 1 ∨ i = 2 ∨ i = 3 ∨ i = 4 ∨ i = 5 ∨ i = 6 ∨ i = 7 := by omega
              · simp only [List.getElem?_cons_zero, Option.some.injEq] at ho
                subst ho
                intro a W vs hB hS hE hU
                refine wpG_plain rfl ?_
                have v9 : a.eval (.tmp 9) = .pointer (some ⟨gn, 0, none⟩) := (hU 9 (by kernel_rfl)).trans rfl
                clear hE hU
                exact wp_value_inv (w' := W) (.agg #[.slice ak n1' ck, .slice av n2' cv]) (op_loadAt rfl v9 (LDN.out W hB)) ⟨_, rfl, hB, Fr.refl _ _, rfl, fun _ _ _ _ _ => trivial⟩
              · simp only [List.getElem?_cons_zero, List.getElem?_cons_succ, Option.some.injEq] at ho
                subst ho
                intro a W vs hB hS hE hU
                refine wpG_plain rfl ?_
                have v1 : a.eval (.tmp 1) = .slice (some ⟨b, off, none⟩) n cap := (hU 1 (by kernel_rfl)).trans rfl
                clear hE hU
                exact wp_value_inv (w' := W) (.slice (some ⟨b, off, none⟩) n cap) (op_move rfl v1) ⟨_, rfl, hB, Fr.refl _ _, rfl, fun _ _ _ _ _ => trivial⟩
              · simp only [List.getElem?_cons_zero, List.getElem?_cons_succ, Option.some.injEq] at ho
                subst ho
                intro a W vs hB hS hE hU
                refine wpG_plain rfl ?_
                have v10 : a.eval (.tmp 10) = .int .i64 (i : Nat) := (hU 10 (by kernel_rfl)).trans rfl
                clear hE hU
                exact wp_value_inv (w' := W) (.int .i64 (i : Nat)) (op_move rfl v10) ⟨_, rfl, hB, Fr.refl _ _, rfl, fun _ _ _ _ _ => trivial⟩
              · simp only [List.getElem?_cons_zero, List.getElem?_cons_succ, Option.some.injEq] at ho
                subst ho
                intro a W vs hB hS hE hU
                refine wpG_plain rfl ?_
                obtain ⟨r1, e66⟩ := hE 1 66 (by kernel_rfl) (by kernel_rfl)
                have v66 : a.eval (.tmp 66) = .slice (some ⟨b, off, none⟩) n cap := e66.trans r1
                obtain ⟨r2, e67⟩ := hE 2 67 (by kernel_rfl) (by kernel_rfl)
                have v67 : a.eval (.tmp 67) = .int .i64 (i : Nat) := e67.trans r2
                clear hE hU
                exact wp_value_inv (w' := W) (.pointer (some ⟨b, off + i * 6, none⟩)) (op_indexAddr rfl v66 v67 (run_index_de6 W b off n cap i HLT.out)) ⟨_, rfl, hB, Fr.refl _ _, rfl, fun _ _ _ _ _ => trivial⟩
              · simp only [List.getElem?_cons_zero, List.getElem?_cons_succ, Option.some.injEq] at ho
                subst ho
                intro a W vs hB hS hE hU
                refine wpG_plain rfl ?_
                obtain ⟨r3, e68⟩ := hE 3 68 (by kernel_rfl) (by kernel_rfl)
                have v68 : a.eval (.tmp 68) = .pointer (some ⟨b, off + i * 6, none⟩) := e68.trans r3
                clear hE hU
                exact wp_value_inv (w' := W) (.pointer (some ⟨b, off + i * 6 + 3, none⟩)) (op_fieldAddr rfl v68 (fld_de3 W _ _)) ⟨_, rfl, hB, Fr.refl _ _, rfl, fun _ _ _ _ _ => trivial⟩
              · simp only [List.getElem?_cons_zero, List.getElem?_cons_succ, Option.some.injEq] at ho
                subst ho
                intro a W vs hB hS hE hU
                refine wpG_plain rfl ?_
                obtain ⟨r4, e69⟩ := hE 4 69 (by kernel_rfl) (by kernel_rfl)
                have v69 : a.eval (.tmp 69) = .pointer (some ⟨b, off + i * 6 + 3, none⟩) := e69.trans r4
                clear hE hU
                exact wp_value_inv (w' := W) (.slice al m cl) (op_loadAt rfl v69 (LDC.out W hB)) ⟨_, rfl, hB, Fr.refl _ _, rfl, fun _ _ _ _ _ => trivial⟩
              · simp only [List.getElem?_cons_zero, List.getElem?_cons_succ, Option.some.injEq] at ho
                subst ho
                intro a W vs hB hS hE hU
                refine wpG_plain rfl ?_
                obtain ⟨r0, e65⟩ := hE 0 65 (by kernel_rfl) (by kernel_rfl)
                have v65 : a.eval (.tmp 65) = .agg #[.slice ak n1' ck, .slice av n2' cv] := e65.trans r0
                obtain ⟨r5, e70⟩ := hE 5 70 (by kernel_rfl) (by kernel_rfl)
                have v70 : a.eval (.tmp 70) = .slice al m cl := e70.trans r5
                clear hE hU
                refine wp_call_inv 14 #[.tmp 65, .tmp 70] #[40, 42] rfl #[.agg #[.slice ak n1' ck, .slice av n2' cv], .slice al m cl] (by simp only [List.map_toArray, List.map_cons, List.map_nil, v65, v70]) (ent_turned _) (Post := fun v W' => Fr (fun _ => False) W W' ∧ TkPost (fun k => k < w.heap.size) zz M2 N2 v W') (HTU.out W hB) ?_
                rintro v W' ⟨hf, hv⟩
                exact ⟨_, rfl, hB.trans hf (fun _ h => h.elim), hf, hv, fun _ _ _ _ _ => trivial⟩
              · simp only [List.getElem?_cons_zero, List.getElem?_cons_succ, Option.some.injEq] at ho
                subst ho
                intro a W vs hB hS hE hU
                refine wpG_plain rfl ?_
                clear hE hU
                have hfa : Fr (fun _ => False) W (W.alloc (.cells #[.slice none 0 0, .slice none 0 0] 40)) := (Fr.refl _ _).alloc _
                exact wp_value_inv (w' := W.alloc (.cells #[.slice none 0 0, .slice none 0 0] 40)) (.pointer (some ⟨W.heap.size, 0, none⟩)) (op_allocV rfl) ⟨_, rfl, hB.trans hfa (fun _ h => h.elim), hfa, ⟨W.heap.size, rfl, by have := hB.size; have := HZZ.out; omega, heap_alloc_new W _⟩, fun _ _ _ _ _ => trivial⟩
            · intro vs Wb hB0 hR0 hD
              obtain ⟨gc, r11, b11, c11⟩ := hR0 7 (by decide)
              obtain ⟨p1, q1, r1, p2, q2, r2, l2, r71, o71, t71, k71⟩ := hR0 6 (by decide)
              have fB := hB0
              clear hR0 hD hB0
              simp only [acts, if_true, dstAt, List.getElem?_cons_zero, List.getElem?_cons_succ, Option.bind_some, Act.put, List.setIfInBounds_toArray, List.set_cons_succ, List.set_cons_zero, List.drop_succ_cons]
              simp only [r11, r71]
              clear r11 r71
              obtain ⟨hNW, hTB, hK, hfr⟩ := HNC.out
              have hx0 : Wb.cell? ⟨gc, 0, none⟩ = some (.slice none 0 0) := cell_of_row _ _ _ _ _ _ c11
              have hx1 : Wb.cell? ⟨gc, 1, none⟩ = some (.slice none 0 0) := cell_of_row _ _ _ _ _ _ c11
              have f0 := frozen_of_row _ _ 0 _ _ c11
              have f1 := frozen_of_row _ _ 1 _ _ c11
              obtain ⟨W11, hW11⟩ : ∃ W, W = (Wb.setCell ⟨gc, 0, none⟩ (.slice p1 q1 r1)).setCell ⟨gc, 1, none⟩ (.slice p2 q2 r2) := ⟨_, rfl⟩
              have hf11 : Fr (fun k => k = gc) Wb W11 := by rw [hW11]; exact (Fr.cell1 Wb gc 0 _).trans (Fr.cell1 _ gc 1 _) (fun k h => .inl h)
              have hz5 := hTB.size0
              have hzz := HZZ.out
              have hgc := lt_of_block c11
              have hgn := lt_of_block hNW.box
              have hzb := fB.size
              have hz11 := hf11.size
              obtain ⟨X2, hX2⟩ : ∃ X2 : Nat → Prop, X2 = fun k => X k ∨ (wr.heap.size ≤ k ∧ k < Wb.heap.size) := ⟨_, rfl⟩
              have hgcX : X2 gc := by rw [hX2]; exact .inr ⟨by omega, hgc⟩
              have hXX : ∀ k, X k → X2 k := fun k hk => by rw [hX2]; exact .inl hk
              have hTB11 : TbAt w5 W11 tb jn ga s l la d hh false dv M X2 := (hTB.grow (Y := X2) fB (fun k hk => by rw [hX2] at hk; exact hk) hXX).away hf11 (fun k e => by have e2 : k = gc := e; rw [e2]; exact ⟨hgcX, by omega⟩)
              have hNT : NwAt w5 gc (fun k => k < w.heap.size) X2 N2 W11 (.slice p1 q1 r1) (.slice p2 q2 r2) l2 M2 := ⟨by rw [hW11]; exact cell_put _ (cell_put _ c11), hgcX, by omega, (o71.keep hf11 (fun g hg e => o71.kr.not c11 (by decide) (by rw [hg, show g = gc from e])) (fun g hg e => o71.vr.not c11 (by decide) (by rw [hg, show g = gc from e])) (fun k _ hk e => by have := HG.out k hk; have e2 : k = gc := e; omega)).mono (by omega), fun g hg => by
                rw [hX2]
                right
                rcases hg with hg | hg
                · have := o71.kr.row.own g hg; omega
                · have := o71.vr.row.own g hg; omega, t71, k71⟩
              have hNN : NwAt w5 gn (fun k => k < w.heap.size) X2 N2 W11 (.slice ak n1' ck) (.slice av n2' cv) lv M := ((hNW.quiet fB).wide hXX (by rw [HM2.out.2]; omega)).other c11 (by omega) (by omega) HG.out hf11
              have hbne : b ≠ gc := by have := HG.out b din; omega
              have dcl11 := hf11.cell (fB.cell dcl id) hbne
              have hch11 := (HCH.out.keep fB (fun _ _ _ h => h)).keep hf11 (fun k _ hk e => by have := HG.out k hk; have e2 : k = gc := e; omega)
              have HCM := Lib.hid (commit_any hTB11 hK HOK.out hs8 (by omega) (.slice al m cl) Lc hch11 (fun k hk => ⟨by have := HG.out k hk; omega, .inr (HG.out k hk)⟩) (by have := HMM.out; omega))
              have HN2 := Lib.hid (And.intro hNT hNN)
              have HFR := Lib.hid (show Fr (fun k => w5.heap.size ≤ k) W9 W11 from (hfr.trans fB (fun _ h => h.elim)).trans hf11 (fun k e => .inl (by have e2 : k = gc := e; show w5.heap.size ≤ k; omega)))
              have HSH := Lib.hid (show W11.heap[gs]? = some (.cells #[.int .i64 l, .int .i64 la, .int .i64 d] 23 (0, 0)) from HFR.out.heap H9.out.2.1 (fun e => by have := H9.out.2.2.1; omega))
              have HNE := Lib.hid (show gc ≠ gn by omega)
              have dnn11 := hf11.cell (fB.cell dnn id) hbne
              have HDN := Lib.hid dnn11
              clear hNW hTB hfr c11 b11 o71 t71 k71 fB hz5 hzz hgc hgn hzb hz11 hX2 hgcX hXX hTB11 hNT hNN hch11 HTU LDN LDC HNC
              have dcl12 : ((Wb.setCell ⟨gc, 0, none⟩ (.slice p1 q1 r1)).setCell ⟨gc, 1, none⟩ (.slice p2 q2 r2)).cell? ⟨b, off + i * 6 + 3, none⟩ = some (.slice al m cl) := by rw [← hW11]; exact dcl11
              clear dw dnn dcl
              go_wp2_with fail
              rw [← hW11]
              clear hW11 hx0 hx1 f0 f1 hf11 dcl12
              refine HCM.out.mono ?_
              rintro e w12 ⟨r, h12, dn12, dv12, M12, rfl, ht12, hf12, hc12⟩
              have HR12 := Lib.hid (show NwAt w5 gc (fun k => k < w.heap.size) X2 N2 w12 (.slice p1 q1 r1) (.slice p2 q2 r2) l2 M2 ∧ NwAt w5 gn (fun k => k < w.heap.size) X2 N2 w12 (.slice ak n1' ck) (.slice av n2' cv) lv M ∧ Fr (fun k => w5.heap.size ≤ k) W9 w12 from ⟨HN2.out.1.keep hf12 HG.out, HN2.out.2.keep hf12 HG.out, HFR.out.trans hf12 (fun k hk => .inl hk.1)⟩)
              have hcase : (r = 0 ∧ dn12 = false ∧ M12 = M2 ∧ TgK dv12 l la s h12 M2 (i + 1)) ∨ (r ≠ 0 ∧ r ≠ 10 ∧ dn12 = false ∧ M12 = M ∧ TgK dv12 l la s h12 M (i + 1)) ∨ (r = 10 ∧ M12 = M ∧ dv12.waits.length ≤ 1000000 ∧ ∀ keep, (dv12.wake keep).1 = 0 ∧ ∃ h2, TgK (dv12.wake keep).2 l la s h2 M (i + 1) ∨ TgK (dv12.wake keep).2 l la s h2 M2 (i + 1)) := by
                rcases hc12 with ⟨q, rfl, rfl, rfl, rfl⟩ | ⟨_, _, _, q4, q5, q6, _, _⟩
                · rcases q with ⟨rfl, q⟩ | q | q | q
                  · exact .inl ⟨rfl, rfl, by rw [HM2.out.1, q]; rfl, by rw [HM2.out.1, q]; exact hK.later (by omega)⟩
                  · exact .inr (.inl ⟨by rw [q.1]; decide, by rw [q.1]; decide, rfl, rfl, hK.later (by omega)⟩)
                  · exact .inr (.inl ⟨by rw [q.1]; decide, by rw [q.1]; decide, rfl, rfl, hK.later (by omega)⟩)
                  · exact .inr (.inl ⟨by rw [q.1]; decide, by rw [q.1]; decide, rfl, rfl, hK.later (by omega)⟩)
                · rw [← HM2.out.1] at q5 q6
                  rcases q6 with ⟨rfl, rfl, t⟩ | ⟨rfl, rfl, t1, t2⟩
                  · exact .inl ⟨rfl, rfl, by rw [q5, if_pos rfl], t⟩
                  · exact .inr (.inr ⟨rfl, by rw [q5, if_neg (by decide)], t1, t2⟩)
              have hmok := hK.ok
              have HMO := Lib.hid hmok
              have hgs12 := hf12.heap HSH.out (fun hh => by have := H9.out.2.2.1; have := hh.1; omega)
              have HGS := Lib.hid hgs12
              have dnn12 := hf12.cell HDN.out (fun hh => by have := HG.out b din; have h2 : w5.heap.size ≤ b := hh.1; omega)
              obtain ⟨c0, c1, _, _⟩ := HR12.out.1.cells
              obtain ⟨n0, n1x, g0, g1⟩ := HR12.out.2.1.cells
              have HH12 := Lib.hid (And.intro ht12 hf12)
              clear hc12 HCM HSH HFR HN2 HDN hK hmok hgs12 dnn11 dcl11 ht12 hf12
              rcases hcase with ⟨rfl, rfl, rfl, hK2⟩ | ⟨hr0, hr10, rfl, rfl, hK2⟩ | ⟨rfl, rfl, hwl, hwk⟩
              · have HCP := Lib.hid (HR12.out.2.1.copy HR12.out.1 HNE.out HG.out)
                have HTC := Lib.hid (HH12.out.1.away HCP.out.2 (fun k e => by have e2 : k = gn := e; rw [e2]; exact ⟨HR12.out.2.1.inX, HR12.out.2.1.low⟩))
                have HIS := Lib.hid (HCP.out.1.is (by rw [HM2.out.2]; omega) HTC.out hK2.ok)
                rw [isB_yes HR12.out.1.rep] at HIS
                have HKK := Lib.hid hK2
                clear hK2
                go_wp2_with (go_at_call 16; (refine HIS.out.mono ?_); rintro e w13 ⟨rfl, hf13⟩; (have H13 := Lib.hid hf13); clear hf13)
                go_roundw
                case rel => exact ⟨tb, jn, i + 1, by have := HLT.out; omega, rfl, by go_num, Lib.hid ⟨⟨X2, h12, dv12, _, _, _, l2, HTC.out.quiet H13.out, HKK.out, by have := HCP.out.1.quiet H13.out; rw [HM2.out.2] at this; exact this⟩, (HR12.out.2.2.trans HCP.out.2 (fun k e => .inl (by have e2 : k = gn := e; rw [e2]; exact HR12.out.2.1.low))).trans H13.out (fun _ h => h.elim)⟩⟩
                case measure => (have := HLT.out; simp [intOf]; omega)
              · have d0 : (r == 0) = false := by rw [beq_eq_false_iff_ne]; exact hr0
                have d2 : decide (r = 0) = false := decide_eq_false hr0
                have d3 : (r != 10) = true := by rw [bne_iff_ne]; exact hr10
                have d4 : decide (r = 10) = false := decide_eq_false hr10
                have HIS := Lib.hid (HR12.out.2.1.is (by rw [HM2.out.2]; omega) HH12.out.1 hK2.ok)
                rw [isB_yes HR12.out.2.1.rep] at HIS
                have HKK := Lib.hid hK2
                clear hK2
                go_wp2_with (go_at_call 16; (refine HIS.out.mono ?_); rintro e w13 ⟨rfl, hf13⟩; (have H13 := Lib.hid hf13); clear hf13)
                go_roundw
                case rel => exact ⟨tb, jn, i + 1, by have := HLT.out; omega, rfl, by go_num, Lib.hid ⟨⟨X2, h12, dv12, _, _, _, lv, HH12.out.1.quiet H13.out, HKK.out, by have := HR12.out.2.1.quiet H13.out; rw [HM2.out.2] at this; exact this⟩, HR12.out.2.2.trans H13.out (fun _ h => h.elim)⟩⟩
                case measure => (have := HLT.out; simp [intOf]; omega)
              · obtain ⟨hw0, h2, hK2⟩ := hwk nn
                obtain ⟨Mw, hMw, hK2⟩ : ∃ Mw, (Mw = M12 ∨ Mw = M2) ∧ TgK (dv12.wake nn).2 l la s h2 Mw (i + 1) := by
                  rcases hK2 with h | h
                  · exact ⟨M12, .inl rfl, h⟩
                  · exact ⟨M2, .inr rfl, h⟩
                have hN6 : N2 ≤ 1000000 := by rw [HM2.out.2]; omega
                have HIS := Lib.hid (HR12.out.2.1.is hN6 HH12.out.1 HMO.out)
                rw [isB_yes HR12.out.2.1.rep] at HIS
                have HS12 := Lib.hid (show DS w5 W9 w12 tb jn ga s l la d h12 dn12 dv12 M12 X2 gn gc gs (fun k => k < w.heap.size) N2 (.slice ak n1' ck) (.slice av n2' cv) lv M12 (.slice p1 q1 r1) (.slice p2 q2 r2) l2 M2 from ⟨HH12.out.1, HR12.out.2.1, HR12.out.1, HGS.out, HR12.out.2.2⟩)
                have HWK := Lib.hid (fun (W : World) (H : DS w5 W9 W tb jn ga s l la d h12 dn12 dv12 M12 X2 gn gc gs (fun k => k < w.heap.size) N2 (.slice ak n1' ck) (.slice av n2' cv) lv M12 (.slice p1 q1 r1) (.slice p2 q2 r2) l2 M2) => tWake H.tab nn n1 n2 hwl)
                have HOP := Lib.hid (fun (W : World) (H : DS w5 W9 W tb jn ga s l la d h12 dn12 (dv12.wake nn).2 M12 X2 gn gc gs (fun k => k < w.heap.size) N2 (.slice ak n1' ck) (.slice av n2' cv) lv M12 (.slice p1 q1 r1) (.slice p2 q2 r2) l2 M2) => reopen_any H.tab hK2 HOK.out)
                have HI1 := Lib.hid (fun (W : World) (tb' jn' : Nat) (H : DS w5 W9 W tb' jn' ga s l la d h2 false (dv12.wake nn).2 Mw X2 gn gc gs (fun k => k < w.heap.size) N2 (.slice ak n1' ck) (.slice av n2' cv) lv M12 (.slice p1 q1 r1) (.slice p2 q2 r2) l2 M2) => H.now.is hN6 H.tab hK2.ok)
                have HI2 := Lib.hid (fun (W : World) (tb' jn' : Nat) (H : DS w5 W9 W tb' jn' ga s l la d h2 false (dv12.wake nn).2 Mw X2 gn gc gs (fun k => k < w.heap.size) N2 (.slice ak n1' ck) (.slice av n2' cv) lv M12 (.slice p1 q1 r1) (.slice p2 q2 r2) l2 M2) => H.thn.is hN6 H.tab hK2.ok)
                obtain ⟨b1, hb1⟩ : ∃ b1, b1 = isB (lv.map RowD.row) Mw := ⟨_, rfl⟩
                obtain ⟨b2, hb2⟩ : ∃ b2, b2 = isB (l2.map RowD.row) Mw := ⟨_, rfl⟩
                rw [← hb1] at HI1
                rw [← hb2] at HI2
                have hbb : b1 = true ∨ b2 = true := by
                  rcases hMw with rfl | rfl
                  · left; rw [hb1]; exact isB_yes HR12.out.2.1.rep
                  · right; rw [hb2]; exact isB_yes HR12.out.1.rep
                have HKK := Lib.hid (show TgK (dv12.wake nn).2 l la s h2 Mw (i + 1) ∧ (b1 = true → ∀ W, NwAt w5 gn (fun k => k < w.heap.size) X2 N2 W (.slice ak n1' ck) (.slice av n2' cv) lv M12 → NwAt w5 gn (fun k => k < w.heap.size) X2 (1000 * (i + 1)) W (.slice ak n1' ck) (.slice av n2' cv) lv Mw) ∧ (b2 = true → ∀ W, NwAt w5 gn (fun k => k < w.heap.size) X2 N2 W (.slice p1 q1 r1) (.slice p2 q2 r2) l2 M2 → NwAt w5 gn (fun k => k < w.heap.size) X2 (1000 * (i + 1)) W (.slice p1 q1 r1) (.slice p2 q2 r2) l2 Mw) from ⟨hK2, fun h W H => by rw [isB_eq HR12.out.2.1.rep hK2.ok.1.1 (hb1.symm.trans h), ← HM2.out.2]; exact H, fun h W H => by rw [isB_eq HR12.out.1.rep hK2.ok.1.1 (hb2.symm.trans h), ← HM2.out.2]; exact H⟩)
                clear hwk hwl hMw hK2 hb1 hb2 hN6
                rcases b1 with _ | _ <;> rcases b2 with _ | _
                · simp at hbb
                · go_wp2_with (first
                    | (go_at_call 16; (with_reducible refine HIS.out.mono ?_); rintro e w13 ⟨rfl, hf13⟩; (have H13 := Lib.hid (HS12.out.quiet hf13)); (have dnn12 := hf13.cell dnn12 id); (obtain ⟨c0, c1, _, _⟩ := H13.out.thn.cells); (obtain ⟨n0, n1x, g0, g1⟩ := H13.out.now.cells); (obtain ⟨s0, s1, s2⟩ := row3_cells H13.out.shp); clear hf13)
                    | (go_at_call 17; (with_reducible refine (HWK.out w13 H13.out).mono ?_); rintro e w14 ⟨rfl, ht14, hf14⟩; (rw [hw0]); (have H14 := Lib.hid (H13.out.turn ht14 hf14 HG.out H9.out.2.2.1)); (obtain ⟨c0, c1, _, _⟩ := H14.out.thn.cells); (obtain ⟨n0, n1x, g0, g1⟩ := H14.out.now.cells); (obtain ⟨s0, s1, s2⟩ := row3_cells H14.out.shp); clear ht14 hf14)
                    | (go_at_call 11; (with_reducible refine (HOP.out w14 H14.out).mono ?_); rintro e w15 ⟨tb', jn', rfl, ht15, hf15⟩; (have H15 := Lib.hid (H14.out.turn ht15 (hf15.mono (fun _ _ h => h.elim)) HG.out H9.out.2.2.1)); (obtain ⟨c0, c1, _, _⟩ := H15.out.thn.cells); (obtain ⟨n0, n1x, g0, g1⟩ := H15.out.now.cells); (obtain ⟨s0, s1, s2⟩ := row3_cells H15.out.shp); clear ht15 hf15)
                    | (go_at_call 16; (with_reducible refine (HI1.out w15 tb' jn' H15.out).mono ?_); rintro e w16 ⟨rfl, hf16⟩; (have H16 := Lib.hid (H15.out.quiet hf16)); (obtain ⟨c0, c1, _, _⟩ := H16.out.thn.cells); (obtain ⟨n0, n1x, g0, g1⟩ := H16.out.now.cells); (obtain ⟨s0, s1, s2⟩ := row3_cells H16.out.shp); clear hf16)
                    | (go_at_call 16; (with_reducible refine (HI2.out w16 tb' jn' H16.out).mono ?_); rintro e w17 ⟨rfl, hf17⟩; (have H17 := Lib.hid (H16.out.quiet hf17)); (obtain ⟨c0, c1, _, _⟩ := H17.out.thn.cells); (obtain ⟨n0, n1x, g0, g1⟩ := H17.out.now.cells); (obtain ⟨s0, s1, s2⟩ := row3_cells H17.out.shp); clear hf17)
                    | (go_at_call 16; (with_reducible refine (HI2.out w17 tb' jn' H17.out).mono ?_); rintro e w18 ⟨rfl, hf18⟩; (have H18 := Lib.hid (H17.out.quiet hf18)); (obtain ⟨c0, c1, _, _⟩ := H18.out.thn.cells); (obtain ⟨n0, n1x, g0, g1⟩ := H18.out.now.cells); (obtain ⟨s0, s1, s2⟩ := row3_cells H18.out.shp); clear hf18))
                  go_roundw
                  case rel => exact ⟨tb', jn', i + 1, by have := HLT.out; omega, rfl, by go_num, Lib.hid ⟨⟨X2, h2, (dv12.wake nn).2, Mw, _, _, l2, H18.out.tab.away (H18.out.now.copy H18.out.thn HNE.out HG.out).2 (fun k e => by have e2 : k = gn := e; rw [e2]; exact ⟨H18.out.now.inX, H18.out.now.low⟩), HKK.out.1, HKK.out.2.2 trivial _ (H18.out.now.copy H18.out.thn HNE.out HG.out).1⟩, H18.out.fr.trans (H18.out.now.copy H18.out.thn HNE.out HG.out).2 (fun k e => .inl (by have e2 : k = gn := e; rw [e2]; exact H18.out.now.low))⟩⟩
                  case measure => (have := HLT.out; simp [intOf]; omega)
                · go_wp2_with (first
                    | (go_at_call 16; (with_reducible refine HIS.out.mono ?_); rintro e w13 ⟨rfl, hf13⟩; (have H13 := Lib.hid (HS12.out.quiet hf13)); (have dnn12 := hf13.cell dnn12 id); (obtain ⟨c0, c1, _, _⟩ := H13.out.thn.cells); (obtain ⟨n0, n1x, g0, g1⟩ := H13.out.now.cells); (obtain ⟨s0, s1, s2⟩ := row3_cells H13.out.shp); clear hf13)
                    | (go_at_call 17; (with_reducible refine (HWK.out w13 H13.out).mono ?_); rintro e w14 ⟨rfl, ht14, hf14⟩; (rw [hw0]); (have H14 := Lib.hid (H13.out.turn ht14 hf14 HG.out H9.out.2.2.1)); (obtain ⟨c0, c1, _, _⟩ := H14.out.thn.cells); (obtain ⟨n0, n1x, g0, g1⟩ := H14.out.now.cells); (obtain ⟨s0, s1, s2⟩ := row3_cells H14.out.shp); clear ht14 hf14)
                    | (go_at_call 11; (with_reducible refine (HOP.out w14 H14.out).mono ?_); rintro e w15 ⟨tb', jn', rfl, ht15, hf15⟩; (have H15 := Lib.hid (H14.out.turn ht15 (hf15.mono (fun _ _ h => h.elim)) HG.out H9.out.2.2.1)); (obtain ⟨c0, c1, _, _⟩ := H15.out.thn.cells); (obtain ⟨n0, n1x, g0, g1⟩ := H15.out.now.cells); (obtain ⟨s0, s1, s2⟩ := row3_cells H15.out.shp); clear ht15 hf15)
                    | (go_at_call 16; (with_reducible refine (HI1.out w15 tb' jn' H15.out).mono ?_); rintro e w16 ⟨rfl, hf16⟩; (have H16 := Lib.hid (H15.out.quiet hf16)); (obtain ⟨c0, c1, _, _⟩ := H16.out.thn.cells); (obtain ⟨n0, n1x, g0, g1⟩ := H16.out.now.cells); (obtain ⟨s0, s1, s2⟩ := row3_cells H16.out.shp); clear hf16)
                    | (go_at_call 16; (with_reducible refine (HI2.out w16 tb' jn' H16.out).mono ?_); rintro e w17 ⟨rfl, hf17⟩; (have H17 := Lib.hid (H16.out.quiet hf17)); (obtain ⟨c0, c1, _, _⟩ := H17.out.thn.cells); (obtain ⟨n0, n1x, g0, g1⟩ := H17.out.now.cells); (obtain ⟨s0, s1, s2⟩ := row3_cells H17.out.shp); clear hf17))
                  go_roundw
                  case rel => exact ⟨tb', jn', i + 1, by have := HLT.out; omega, rfl, by go_num, Lib.hid ⟨⟨X2, h2, (dv12.wake nn).2, Mw, _, _, lv, H17.out.tab, HKK.out.1, HKK.out.2.1 trivial _ H17.out.now⟩, H17.out.fr⟩⟩
                  case measure => (have := HLT.out; simp [intOf]; omega)
                · go_wp2_with (first
                    | (go_at_call 16; (with_reducible refine HIS.out.mono ?_); rintro e w13 ⟨rfl, hf13⟩; (have H13 := Lib.hid (HS12.out.quiet hf13)); (have dnn12 := hf13.cell dnn12 id); (obtain ⟨c0, c1, _, _⟩ := H13.out.thn.cells); (obtain ⟨n0, n1x, g0, g1⟩ := H13.out.now.cells); (obtain ⟨s0, s1, s2⟩ := row3_cells H13.out.shp); clear hf13)
                    | (go_at_call 17; (with_reducible refine (HWK.out w13 H13.out).mono ?_); rintro e w14 ⟨rfl, ht14, hf14⟩; (rw [hw0]); (have H14 := Lib.hid (H13.out.turn ht14 hf14 HG.out H9.out.2.2.1)); (obtain ⟨c0, c1, _, _⟩ := H14.out.thn.cells); (obtain ⟨n0, n1x, g0, g1⟩ := H14.out.now.cells); (obtain ⟨s0, s1, s2⟩ := row3_cells H14.out.shp); clear ht14 hf14)
                    | (go_at_call 11; (with_reducible refine (HOP.out w14 H14.out).mono ?_); rintro e w15 ⟨tb', jn', rfl, ht15, hf15⟩; (have H15 := Lib.hid (H14.out.turn ht15 (hf15.mono (fun _ _ h => h.elim)) HG.out H9.out.2.2.1)); (obtain ⟨c0, c1, _, _⟩ := H15.out.thn.cells); (obtain ⟨n0, n1x, g0, g1⟩ := H15.out.now.cells); (obtain ⟨s0, s1, s2⟩ := row3_cells H15.out.shp); clear ht15 hf15)
                    | (go_at_call 16; (with_reducible refine (HI1.out w15 tb' jn' H15.out).mono ?_); rintro e w16 ⟨rfl, hf16⟩; (have H16 := Lib.hid (H15.out.quiet hf16)); (obtain ⟨c0, c1, _, _⟩ := H16.out.thn.cells); (obtain ⟨n0, n1x, g0, g1⟩ := H16.out.now.cells); (obtain ⟨s0, s1, s2⟩ := row3_cells H16.out.shp); clear hf16)
                    | (go_at_call 16; (with_reducible refine (HI2.out w16 tb' jn' H16.out).mono ?_); rintro e w17 ⟨rfl, hf17⟩; (have H17 := Lib.hid (H16.out.quiet hf17)); (obtain ⟨c0, c1, _, _⟩ := H17.out.thn.cells); (obtain ⟨n0, n1x, g0, g1⟩ := H17.out.now.cells); (obtain ⟨s0, s1, s2⟩ := row3_cells H17.out.shp); clear hf17))
                  go_roundw
                  case rel => exact ⟨tb', jn', i + 1, by have := HLT.out; omega, rfl, by go_num, Lib.hid ⟨⟨X2, h2, (dv12.wake nn).2, Mw, _, _, l2, H17.out.tab.away (H17.out.now.copy H17.out.thn HNE.out HG.out).2 (fun k e => by have e2 : k = gn := e; rw [e2]; exact ⟨H17.out.now.inX, H17.out.now.low⟩), HKK.out.1, HKK.out.2.2 trivial _ (H17.out.now.copy H17.out.thn HNE.out HG.out).1⟩, H17.out.fr.trans (H17.out.now.copy H17.out.thn HNE.out HG.out).2 (fun k e => .inl (by have e2 : k = gn := e; rw [e2]; exact H17.out.now.low))⟩⟩
                  case measure => (have := HLT.out; simp [intOf]; omega)
end Go.Proofs.YtldgcoikbjbjeaaGreat
