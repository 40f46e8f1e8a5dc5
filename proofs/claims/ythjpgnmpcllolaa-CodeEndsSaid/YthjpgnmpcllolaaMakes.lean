/- CodeMakes: whatever is put, both makers tell the same; what is lent stays, what is told lies apart. -/
import Derived.Test.YthjpgnmpcllolaaMakesLib
import Derived.Test.YthjpgnmpcllolaaBack
import Derived.LaidEqlPtr
namespace Go.Proofs.Ythjpgnmpcllolaa
open Go.RowKit Go.ChangeShapes
set_option linter.unusedVariables false

theorem run_neq_mak (w : World) (a : Addr) : (binOp .neq 25 (.pointer (some a)) (.pointer (some a))).run Try.prog w = .ok (.bool false) w := by
  have hp : Try.prog.underlying 25 = some (.pointer 30) := by kernel_rfl
  have hi : (Try.prog.info? 30).isSome = true := by kernel_rfl
  obtain ⟨j, hte⟩ := Option.isSome_iff_exists.1 hi
  have h : ∀ d : Nat, (Op.equalIn (d + 1) 25 (.pointer (some a)) (.pointer (some a))).run Try.prog w = .ok true w := fun d => by
    simp [Op.equalIn, run_underlying hp, sizeOf, typeInfo, hte, run_sameAddr_same]
  simp only [binOp]
  simp [Op.equal, Op.maxDepth, h 9999]

theorem both_new (w w0 : World) (hs : w0.heap.size = w.heap.size) (o1 o2 : Obj) (T1 T2 : TypeId) (h1 : o1 = .cells #[.pointer none, .int .i64 0, .bool false] T1) (h2 : o2 = .cells #[.slice none 0 0, .bool false] T2) :
    BothAt w.heap.size ((w0.alloc o1).alloc o2) w.heap.size (w.heap.size + 1) (refAll []) := by
  subst h1; subst h2
  have hz : (w0.alloc (.cells #[.pointer none, .int .i64 0, .bool false] T1)).heap.size = w.heap.size + 1 := by simp [hs]
  have e1 : ((w0.alloc (.cells #[.pointer none, .int .i64 0, .bool false] T1)).alloc (.cells #[.slice none 0 0, .bool false] T2)).heap[w.heap.size + 1]? = some (.cells #[.slice none 0 0, .bool false] T2) := by
    have := heap_alloc_new (w0.alloc (.cells #[.pointer none, .int .i64 0, .bool false] T1)) (.cells #[.slice none 0 0, .bool false] T2)
    rwa [hz] at this
  have e0 : ((w0.alloc (.cells #[.pointer none, .int .i64 0, .bool false] T1)).alloc (.cells #[.slice none 0 0, .bool false] T2)).heap[w.heap.size]? = some (.cells #[.pointer none, .int .i64 0, .bool false] T1) := by
    have := heap_alloc_new w0 (.cells #[.pointer none, .int .i64 0, .bool false] T1)
    rw [hs] at this
    exact ((Fr.refl (fun _ => False) _).alloc _).heap this (fun h => h)
  refine ⟨(· = w.heap.size), (· = w.heap.size + 1), ⟨rfl, T1, .inl ⟨rfl, e0⟩⟩, ⟨rfl, T2, _, e1, OwnB.nil _ _⟩, ?_, ?_, ?_, ?_, ?_⟩
  · rintro k rfl; exact Nat.le_refl _
  · rintro k rfl; omega
  · rintro k rfl h; omega
  · rintro k rfl; simp [hs]; omega
  · rintro k rfl; simp [hs]

theorem mk_ready {D : Nat → Prop} {wr w1 : World} {mb : Nat} {m : Option (List UInt8)} (hm : MakAt D wr mb m) (hf : Fr (fun _ => False) wr w1) : MakAt (fun k => D k ∨ w1.heap.size ≤ k) w1 mb m :=
  (hm.keep hf (fun _ _ _ h => h)).mono (fun k _ h => .inl h)
theorem rf_ready {D E : Nat → Prop} {wr w1 w2 w3 : World} {rb : Nat} {L : List UInt8} {br : Bool} (hr : RefAt E wr rb L br) (f1 : Fr (fun _ => False) wr w1) (f2 : Fr (fun k => D k ∨ w1.heap.size ≤ k) w1 w2) (h5 : ∀ k, D k → ¬ E k) (h7 : ∀ k, E k → k < wr.heap.size) :
    RefAt (fun k => E k ∨ w2.heap.size ≤ k) w2 rb L br :=
  ((hr.keep f1 (fun _ _ _ h => h)).keep f2 (fun k _ he hd => hd.elim (fun h => h5 k h he) (fun h => by have := h7 k he; have := f1.size; omega))).mono (fun k _ h => .inl h)

theorem LentAt.keep {F S : Nat → Prop} {w w' : World} {g c : Nat} {L : List UInt8} (h : LentAt F w g c L) (hf : Fr S w w') (hS : ¬ S g) : LentAt F w' g c L :=
  ⟨h.1, h.2.1, h.2.2.keep' hf (fun k hk hs => by simp only [Value.ownBlock, Option.some.injEq] at hk; subst hk; exact hS hs)⟩
theorem LentAt.own {F : Nat → Prop} {w : World} {g c : Nat} {L : List UInt8} (h : LentAt F w g c L) : OwnB (fun k => k = g) w (.slice (some ⟨g, 0, none⟩) L.length c) L := by
  have := h.2.2.head L.length (by simp) (by simp)
  rw [List.take_left] at this
  exact ⟨this.1, fun k hk => by simp only [Value.ownBlock, Option.some.injEq] at hk; exact hk.symm⟩

theorem refNum_part {F : Nat → Prop} {b : Nat} (p : PartD) (s : List UInt8 × Bool) (w : World) (h0 : p.what % 3 = 0) (hF : ∀ k, w.heap.size ≤ k → F k) (hm : RefAt F w b s.1 s.2) (hlen : s.1.length ≤ 30000) :
    Calls Try.prog 12 #[.pointer (some ⟨b, 0, none⟩), .int .i64 p.n] w fun r w' => r = .returned (.tuple #[]) ∧ Fr F w w' ∧ RefAt F w' b (refPart p s).1 (refPart p s).2 := by
  by_cases h : 0 ≤ p.n ∧ p.n ≤ 1099511627776
  · have e : p.n = ((p.n.toNat : Nat) : Int) := by omega
    have := refNum_yes p.n.toNat w (by omega) hF hm (by omega)
    rw [← e] at this
    refine this.mono ?_
    rintro e' w' ⟨h1, h2, h3⟩
    refine ⟨h1, h2, ?_⟩
    unfold refPart
    rw [if_pos h0, if_pos h]
    exact h3
  · refine (refNum_no p.n w (by omega) hm).mono ?_
    rintro e' w' ⟨h1, h2, h3⟩
    refine ⟨h1, h2, ?_⟩
    unfold refPart
    rw [if_pos h0, if_neg h]
    exact h3

theorem refRaw_part {F G : Nat → Prop} {b : Nat} (p : PartD) (s : List UInt8 × Bool) (w : World) (h0 : ¬ p.what % 3 = 0) (h1 : p.what % 3 = 1) (hF : ∀ k, w.heap.size ≤ k → F k) (hm : RefAt F w b s.1 s.2) (hx : BytesIn G w p.x p.B) (hlen : s.1.length ≤ 30000) (hb : p.B.length ≤ 30000) :
    Calls Try.prog 14 #[.pointer (some ⟨b, 0, none⟩), p.x] w fun r w' => r = .returned (.tuple #[]) ∧ Fr F w w' ∧ RefAt F w' b (refPart p s).1 (refPart p s).2 := by
  refine (refRaw_any w hF hm hx (by omega)).mono ?_
  rintro e' w' ⟨g1, g2, g3⟩
  refine ⟨g1, g2, ?_⟩
  unfold refPart
  rw [if_neg h0, if_pos h1]
  exact g3

theorem refText_part {F G : Nat → Prop} {b : Nat} {ax : Option Addr} {cx : Nat} (pw pn pm : Int) (pB : List UInt8) (s : List UInt8 × Bool) (w : World) (h0 : ¬ pw % 3 = 0) (h1 : ¬ pw % 3 = 1) (hF : ∀ k, w.heap.size ≤ k → F k) (hG : ∀ k, G k → ¬ F k) (hm : RefAt F w b s.1 s.2) (hx : BytesIn G w (.slice ax pB.length cx) pB) (hlen : s.1.length ≤ 30000) (hb : pB.length ≤ 30000) :
    Calls Try.prog 16 #[.pointer (some ⟨b, 0, none⟩), .slice ax pB.length cx] w fun r w' => r = .returned (.tuple #[]) ∧ Fr F w w' ∧ RefAt F w' b (refPart ⟨pw, pn, pm, .slice ax pB.length cx, pB⟩ s).1 (refPart ⟨pw, pn, pm, .slice ax pB.length cx, pB⟩ s).2 := by
  refine (refText_yes w hF hG hm hx (by omega) rfl (by omega)).mono ?_
  rintro e' w' ⟨g1, g2, g3⟩
  refine ⟨g1, g2, ?_⟩
  unfold refPart
  rw [if_neg h0, if_neg h1, if_pos (show pB.length ≤ 1048576 by omega)]
  exact g3

set_option maxHeartbeats 8000000 in
set_option maxRecDepth 100000 in
theorem makes_any (l : List PartD) (v : Value) (w : World) (hl : PartsIn (fun k => k < w.heap.size) w v l) :
    Calls Try.prog 3 #[v] w fun e w' => e = .returned (.bool true) ∧ Fr (fun _ => False) w w' := by
  have hneq := run_neq_mak
  obtain ⟨ao, cap, rfl, h1, h2, h3, h4⟩ := id hl
  have HL := Lib.hid hl
  obtain ⟨n, hn⟩ : ∃ n, n = l.length := ⟨_, rfl⟩
  rw [← hn] at h1 HL ⊢
  have HN := Lib.hid hn
  clear hl hn h3 h4
  have hns : n ≤ 2932031007317 := by omega
  go_enter Try.func3, Try.ntmps3
  go_wp2_with fail
  refine (size_any w HL.out).mono ?_
  rintro e w1 ⟨s0, rfl, hs1, hs2, hs3, d, rfl⟩
  by_cases hbig : 4000 < s0
  · clear hs2 hs3
    go_wp2_with (go_at_call 8; refine (awake_any _).mono ?_; rintro e w9 ⟨rfl, hf9⟩; have HF9 := Lib.hid hf9; clear hf9)
    go_ret
    exact ⟨rfl, Fr.ofDrewN HF9.out⟩
  · have hbulk := hs2 (by omega)
    clear hs2 hs3
    have HB := Lib.hid (show bulkOf l ≤ 4000 by omega)
    have hn4 : n ≤ 4000 := by have := HB.out; have := HN.out; unfold bulkOf at *; omega
    clear hbulk
    have HNEW := Lib.hid (both_new w (w.drewN d) rfl (.cells #[.pointer none, .int .i64 0, .bool false] 30) (.cells #[.slice none 0 0, .bool false] 34) _ _ rfl rfl)
    have HF1 := Lib.hid ((((Fr.refl (fun _ => False) w).drewN d).alloc (.cells #[.pointer none, .int .i64 0, .bool false] 30)).alloc (.cells #[.slice none 0 0, .bool false] 34))
    have hbd : decide ((4000 : Int) < (s0 : Int)) = false := by simp; omega
    go_wp2_with fail
    clear hbd
    go_loopw [5] (fun i wr => ∃ k : Nat, k ≤ n ∧ i = .int .i64 k ∧ Hid (BothAt w.heap.size wr w.heap.size (w.heap.size + 1) (refAll (l.take k))) ∧ Hid (Fr (fun _ => False) w wr)) (fun i _ => n - (intOf i).toNat)
    case atStart => exact ⟨0, by omega, rfl, HNEW, HF1⟩
    case round =>
      obtain ⟨k, hk, rfl, hboth, hfr⟩ := hrel
      clear HNEW HF1
      by_cases hlt : k < n
      · have hkl : k < l.length := by have := HN.out; omega
        obtain ⟨ao2, cap2, hv2, _, _, _, hcells⟩ := HL.out
        simp only [Value.slice.injEq] at hv2
        obtain ⟨rfl, hv3, rfl⟩ := hv2
        clear hv3
        obtain ⟨pb, off, hao, hi⟩ := hcells (by rintro rfl; simp at hkl)
        subst hao
        have hp := hi k hkl
        have hpl := part_len_le l l[k] (List.getElem_mem _) HB.out
        have hsl := refAll_take_len l k HB.out
        obtain ⟨p, hpk⟩ : ∃ p, p = l[k] := ⟨_, rfl⟩
        obtain ⟨s, hs⟩ : ∃ s, s = refAll (l.take k) := ⟨_, rfl⟩
        rw [← hpk] at hp hpl
        rw [← hs] at hboth hsl
        have HNX := Lib.hid (show refAll (l.take (k + 1)) = refPart p s by rw [refAll_take_succ l k hkl, ← hpk, ← hs])
        have HSL := Lib.hid hsl
        clear hpk hs hi hcells hsl
        have hwf := hp.wf
        obtain ⟨pw, pn, pm, px, pB⟩ := p
        obtain ⟨m1, m2⟩ := hwf.1
        simp only at m1 m2 hpl
        have hpx : ∃ ax cx, px = .slice ax pB.length cx := by obtain ⟨a, c, h, _⟩ := hp.bytes; exact ⟨a, c, h⟩
        obtain ⟨ax, cx, hpx⟩ := hpx
        subst hpx
        have HP := Lib.hid (fun (w' : World) (hf : Fr (fun _ => False) w w') => (show w'.cell? ⟨pb, off + k * 4, none⟩ = some (.int .i64 pw) ∧ w'.cell? ⟨pb, off + k * 4 + 1, none⟩ = some (.int .i64 pn) ∧ w'.cell? ⟨pb, off + k * 4 + 3, none⟩ = some (.slice ax pB.length cx) ∧ BytesIn (fun k => k < w.heap.size) w' (.slice ax pB.length cx) pB from
          have h := hp.keep hf (fun _ _ _ h => h)
          ⟨h.what, h.n, h.cb, h.bytes⟩))
        clear hp hwf
        have hmod0 := Int.emod_nonneg pw (show (3 : Int) ≠ 0 by decide)
        have hmod3 := Int.emod_lt_of_pos pw (show (0 : Int) < 3 by decide)
        obtain ⟨D, E, hm, hr, h3, h4, h5, h6, h7⟩ := hboth.out
        have HM := Lib.hid hm
        have HR := Lib.hid hr
        have H3 := Lib.hid (And.intro h3 (And.intro h4 (And.intro h5 (And.intro h6 h7))))
        clear hm hr h3 h4 h5 h6 h7 hboth
        obtain ⟨q1, q2, q4, q5⟩ := HP.out wr hfr.out
        have HSZ := Lib.hid hfr.out.size
        have HLT := Lib.hid (LentBytes_any (.slice ax pB.length cx) pB wr q5 (by omega))
        clear q5
        obtain ⟨s', hs'⟩ : ∃ s', s' = refPart ⟨pw, pn, pm, .slice ax pB.length cx, pB⟩ s := ⟨_, rfl⟩
        have HS' := Lib.hid hs'
        have HSL' := Lib.hid (show s'.1.length ≤ 100000 by rw [hs']; have h8 := refPart_len ⟨pw, pn, pm, .slice ax pB.length cx, pB⟩ s; have h9 := HSL.out; exact Nat.le_trans h8 (by show s.1.length + 6 + pB.length ≤ 100000; omega))
        rw [← hs'] at HNX
        obtain ⟨ec, hec⟩ : ∃ ec : Int, ec = if s'.2 then 2 else 0 := ⟨_, rfl⟩
        obtain ⟨Ld, hLd⟩ : ∃ Ld : List UInt8, Ld = if s'.2 then [] else s'.1 := ⟨_, rfl⟩
        have HLD := Lib.hid (show Ld.length ≤ 100000 by rw [hLd]; split; exact Nat.zero_le _; exact HSL'.out)
        have HD := Lib.hid (fun (g : Nat) (w' : World) (h : BothOff w.heap.size w' w.heap.size (w.heap.size + 1) s' g) => (show _ from by have := done_told w' h HSL'.out; rw [← hec, ← hLd] at this; exact this))
        have HE := Lib.hid (fun (g : Nat) (w' : World) (h : BothOff w.heap.size w' w.heap.size (w.heap.size + 1) s' g) => (show _ from by have := refDone_told w' h HSL'.out; rw [← hec, ← hLd] at this; exact this))
        clear hec hLd hs'
        obtain ⟨ld, hld⟩ : ∃ ld, ld = Ld.length := ⟨_, rfl⟩
        have HLL := Lib.hid hld
        clear hld
        obtain ⟨nb, hnb⟩ : ∃ nb, nb = pB.length := ⟨_, rfl⟩
        clear hnb
        by_cases w0 : pw % 3 = 0
        · have w0' : (pw % 3 == 0) = true := by simpa using w0
          have HW0 := Lib.hid w0
          clear w0
          go_wp2_with (first
            | (go_at_call 9; refine HLT.out.mono ?_; rintro e w1 ⟨g, c, rfl, hl1, hf1⟩; have HL1 := Lib.hid hl1; have HF1 := Lib.hid hf1; have HG := Lib.hid (show wr.heap.size ≤ g ∧ g < w1.heap.size from ⟨hl1.2.2.2 g rfl, (hl1.2.2.1.lt g rfl).2⟩); obtain ⟨r1, r2, r4, r5⟩ := HP.out w1 (hfr.out.trans hf1 (fun _ h => h.elim)); clear r5 hl1 hf1)
            | (go_at_call 10; refine (pick_any pw 3 _ (by decide) (by decide) m1 m2).mono ?_; rintro e w' ⟨rfl, rfl⟩)
            | (go_at_call 11; have HFa1 := Lib.hid (HF1.out.alloc (.cells #[.int .i64 pn] 3)); refine (makerNum_any (F := fun k => D k ∨ (w1.alloc (.cells #[.int .i64 pn] 3)).heap.size ≤ k) pn _ (fun k hk => .inr hk) (mk_ready HM.out HFa1.out) (cell_of_one (heap_alloc_new w1 (.cells #[.int .i64 pn] 3))) (fun L hL => by have h8 := HSL.out; unfold refTold at hL; split at hL; cases hL; cases hL; omega)).mono ?_; rintro e w2 ⟨rfl, hf2, hm2⟩; have HFa2 := Lib.hid hf2; have HFw2 := Lib.hid ((hfr.out.trans HFa1.out (fun _ h => h.elim)).trans hf2 (fun i hi => .inr (hi.elim (fun h => H3.out.1 i h) (fun h => Nat.le_trans (hfr.out.trans HFa1.out (fun _ h => h.elim)).size h)))); have HM2 := Lib.hid (show MakAt _ w2 _ (refTold s') by rw [HS'.out, ← refTold_part]; unfold mkPart; exact by rw [if_pos HW0.out]; exact hm2); obtain ⟨t1, t2, t4, t5⟩ := HP.out w2 HFw2.out; clear t5 hf2 hm2)
            | (go_at_call 12; refine (refNum_part (F := fun k => E k ∨ w2.heap.size ≤ k) ⟨pw, pn, pm, .slice ax pB.length cx, pB⟩ s w2 HW0.out (fun k hk => .inr hk) (rf_ready (w3 := w2) HR.out HFa1.out HFa2.out H3.out.2.2.1 H3.out.2.2.2.2) HSL.out).mono ?_; rintro e w3 ⟨rfl, hf3, hr3⟩; rw [← HS'.out] at hr3; have HOFF := Lib.hid (BothAt.step (g := g) HSZ.out H3.out.1 H3.out.2.1 H3.out.2.2.1 H3.out.2.2.2.1 H3.out.2.2.2.2 HG.out.1 (Nat.lt_of_lt_of_le HG.out.2 (((Fr.refl (fun _ => False) w1).alloc (.cells #[.int .i64 pn] 3)).size)) HFa1.out HM2.out HFa2.out (Fr.refl _ _) hr3 hf3); have HFw3 := Lib.hid (HFw2.out.trans hf3 (fun i hi => .inr (hi.elim (fun h => H3.out.2.1 i h) (fun h => Nat.le_trans HFw2.out.size h)))); have HLE := Lib.hid (((HL1.out.keep ((Fr.refl (fun _ => False) w1).alloc (.cells #[.int .i64 pn] 3)) (fun h => h)).keep HFa2.out (fun h => h.elim (fun h => by have := H3.out.2.2.2.1 g h; have := HG.out.1; omega) (fun h => by have := HG.out.2; have := (((Fr.refl (fun _ => False) w1).alloc (.cells #[.int .i64 pn] 3)).size); omega))).keep hf3 (fun h => h.elim (fun h => by have := H3.out.2.2.2.2 g h; have := HG.out.1; omega) (fun h => by have := HG.out.2; have := (((Fr.refl (fun _ => False) w1).alloc (.cells #[.int .i64 pn] 3)).size); have := HFa2.out.size; omega))); have HG3 := Lib.hid (show g < w3.heap.size from by have := HG.out.2; have := (((Fr.refl (fun _ => False) w1).alloc (.cells #[.int .i64 pn] 3)).size); have := HFa2.out.size; have := hf3.size; omega); clear hf3 hr3)
            | (go_at_call 17; refine (HD.out g w3 HOFF.out).mono ?_; rintro e w4 ⟨va, rfl, hf4, ho4⟩; obtain ⟨aa, ca, hva⟩ := ho4.len; rw [← HLL.out] at hva; subst hva; have HF4 := Lib.hid hf4; have HA := Lib.hid (ho4.mono (G := fun k => w3.heap.size ≤ k ∧ k < w4.heap.size) (fun k hk h => ⟨h, hk⟩)); clear hf4 ho4)
            | (go_at_call 18; refine (HE.out g w4 (HOFF.out.keep HF4.out (fun _ h => h.elim))).mono ?_; rintro e w5 ⟨vb, rfl, hf5, ho5⟩; obtain ⟨ab, cb, hvb⟩ := ho5.len; rw [← HLL.out] at hvb; subst hvb; have HF5 := Lib.hid hf5; have HF35 := Lib.hid (HF4.out.trans hf5 (fun _ h => h.elim)); have HBb := Lib.hid ho5; clear hf5 ho5)
            | (go_at_call 17; refine (HD.out g w5 (HOFF.out.keep HF35.out (fun _ h => h.elim))).mono ?_; rintro e w6 ⟨vc, rfl, hf6, ho6⟩; obtain ⟨ac, cc, hvc⟩ := ho6.len; rw [← HLL.out] at hvc; subst hvc; have HF6 := Lib.hid hf6; have HF36 := Lib.hid (HF35.out.trans hf6 (fun _ h => h.elim)); have HC := Lib.hid (ho6.mono (G := fun k => w5.heap.size ≤ k ∧ k < w6.heap.size) (fun k hk h => ⟨h, hk⟩)); clear hf6 ho6)
            | (go_at_call 19; have hsm := same_any _ _ Ld Ld w6 (HA.out.keep (HF5.out.trans HF6.out (fun _ h => h.elim)) (fun _ _ _ h => h)).bytes (HBb.out.keep HF6.out (fun _ _ _ h => h)).bytes; rw [show sameB Ld Ld = true from sameB_eq rfl] at hsm; refine hsm.mono ?_; clear hsm; rintro e w7 ⟨rfl, hq⟩; have HF67 := Lib.hid (show Fr (fun _ => False) w6 w7 by obtain ⟨q, rfl⟩ := hq; exact (Fr.refl _ _).drewN q); have HF37 := Lib.hid (HF36.out.trans HF67.out (fun _ h => h.elim)); obtain ⟨u1, u2, u4, u5⟩ := HP.out w7 (HFw3.out.trans HF37.out (fun _ h => h.elim)); have HU5 := Lib.hid u5; clear u5 hq)
            | (go_at_call 20; refine (KeptBytes_any _ g c pB w7 HU5.out (HLE.out.keep HF37.out (fun h => h)) (by omega)).mono ?_; rintro e w8 ⟨rfl, hq⟩; have HF78 := Lib.hid (show Fr (fun _ => False) w7 w8 by obtain ⟨q, rfl⟩ := hq; exact (Fr.refl _ _).drewN q); have HF38 := Lib.hid (HF37.out.trans HF78.out (fun _ h => h.elim)); clear hq)
            | (go_at_call 21; have hap := apart_three (La := Ld) (Lc := Ld) (Li := pB) (Fa := fun k => w3.heap.size ≤ k ∧ k < w4.heap.size) (Fc := fun k => w5.heap.size ≤ k ∧ k < w6.heap.size) (Fi := fun k => k = g) _ (heap_alloc_new w8 (.cells #[.slice aa ld ca, .slice ac ld cc, .slice (some ⟨g, 0, none⟩) pB.length c] 32)) (HA.out.keep (((((HF5.out.trans HF6.out (fun _ h => h.elim)).trans HF67.out (fun _ h => h.elim)).trans HF78.out (fun _ h => h.elim))).alloc _) (fun _ _ _ h => h)) (HC.out.keep ((HF67.out.trans HF78.out (fun _ h => h.elim)).alloc _) (fun _ _ _ h => h)) ((HLE.out.own.keep (HF38.out.alloc _) (fun _ _ _ h => h))) (fun k h h' => by have := HF5.out.size; omega) (fun k h h' => by have := HG3.out; omega) (fun k h h' => by have := HG3.out; have := HF35.out.size; omega) (by have := HLD.out; omega) (by have := HLD.out; omega) (by omega); refine hap.mono ?_; clear hap; rintro e w9 ⟨rfl, hf9⟩; have HF39 := Lib.hid (((HF38.out.mono (T := fun k => k = g ∨ w3.heap.size ≤ k) (fun _ _ h => h.elim)).alloc _).trans hf9 (fun i hi => .inl (by rcases hi with ⟨h, _⟩ | ⟨h, _⟩ | h; exact .inr h; exact .inr (Nat.le_trans HF35.out.size h); exact .inl h))); clear hf9)
            | fail)
          go_roundw
          case rel => exact ⟨k + 1, by omega, by go_num, Lib.hid (by rw [HNX.out]; exact (HOFF.out.keep HF39.out (fun k h => h)).at), Lib.hid (HFw3.out.trans HF39.out (fun i hi => .inr (hi.elim (fun h => by rw [h]; exact Nat.le_trans HSZ.out HG.out.1) (fun h => Nat.le_trans HFw3.out.size h))))⟩
          case measure => simp [intOf]; omega
        · have w0' : (pw % 3 == 0) = false := by simpa using w0
          by_cases w1' : pw % 3 = 1
          · have w1'' : (pw % 3 == 1) = true := by simpa using w1'
            have HW0 := Lib.hid w0
            have HW1 := Lib.hid w1'
            clear w0 w1'
            go_wp2_with (first
              | (go_at_call 9; refine HLT.out.mono ?_; rintro e w1 ⟨g, c, rfl, hl1, hf1⟩; have HL1 := Lib.hid hl1; have HF1 := Lib.hid hf1; have HG := Lib.hid (show wr.heap.size ≤ g ∧ g < w1.heap.size from ⟨hl1.2.2.2 g rfl, (hl1.2.2.1.lt g rfl).2⟩); obtain ⟨r1, r2, r4, r5⟩ := HP.out w1 (hfr.out.trans hf1 (fun _ h => h.elim)); clear r5 hl1 hf1)
              | (go_at_call 10; refine (pick_any pw 3 _ (by decide) (by decide) m1 m2).mono ?_; rintro e w' ⟨rfl, rfl⟩)
              | (go_at_call 13; have HFa1 := Lib.hid (HF1.out); refine (makerRaw_any (F := fun k => D k ∨ w1.heap.size ≤ k) (G := fun k => k = g) w1 (fun k hk => .inr hk) (fun k hk h => h.elim (fun h => by have hk' : k = g := hk; rw [hk'] at h; have := H3.out.2.2.2.1 g h; have := HG.out.1; omega) (fun h => by have hk' : k = g := hk; have := HG.out.2;  omega)) (mk_ready HM.out HFa1.out) HL1.out.own.bytes (fun L hL => by have h8 := HSL.out; unfold refTold at hL; split at hL; cases hL; cases hL; omega)).mono ?_; rintro e w2 ⟨rfl, hf2, hm2⟩; have HFa2 := Lib.hid hf2; have HFw2 := Lib.hid ((hfr.out.trans HFa1.out (fun _ h => h.elim)).trans hf2 (fun i hi => .inr (hi.elim (fun h => H3.out.1 i h) (fun h => Nat.le_trans (hfr.out.trans HFa1.out (fun _ h => h.elim)).size h)))); have HM2 := Lib.hid (show MakAt _ w2 _ (refTold s') by rw [HS'.out, ← refTold_part]; unfold mkPart; exact by rw [if_neg HW0.out, if_pos HW1.out]; exact hm2); obtain ⟨t1, t2, t4, t5⟩ := HP.out w2 HFw2.out; clear t5 hf2 hm2)
              | (go_at_call 14; refine (refRaw_part (F := fun k => E k ∨ w2.heap.size ≤ k) ⟨pw, pn, pm, .slice ax pB.length cx, pB⟩ s w2 HW0.out HW1.out (fun k hk => .inr hk) (rf_ready (w3 := w2) HR.out HFa1.out HFa2.out H3.out.2.2.1 H3.out.2.2.2.2) (HP.out w2 HFw2.out).2.2.2 HSL.out (by show pB.length ≤ 30000; omega)).mono ?_; rintro e w3 ⟨rfl, hf3, hr3⟩; rw [← HS'.out] at hr3; have HOFF := Lib.hid (BothAt.step (g := g) HSZ.out H3.out.1 H3.out.2.1 H3.out.2.2.1 H3.out.2.2.2.1 H3.out.2.2.2.2 HG.out.1 (Nat.lt_of_lt_of_le HG.out.2 (Nat.le_refl w1.heap.size)) HFa1.out HM2.out HFa2.out (Fr.refl _ _) hr3 hf3); have HFw3 := Lib.hid (HFw2.out.trans hf3 (fun i hi => .inr (hi.elim (fun h => H3.out.2.1 i h) (fun h => Nat.le_trans HFw2.out.size h)))); have HLE := Lib.hid (((HL1.out).keep HFa2.out (fun h => h.elim (fun h => by have := H3.out.2.2.2.1 g h; have := HG.out.1; omega) (fun h => by have := HG.out.2; have := (Nat.le_refl w1.heap.size); omega))).keep hf3 (fun h => h.elim (fun h => by have := H3.out.2.2.2.2 g h; have := HG.out.1; omega) (fun h => by have := HG.out.2; have := (Nat.le_refl w1.heap.size); have := HFa2.out.size; omega))); have HG3 := Lib.hid (show g < w3.heap.size from by have := HG.out.2; have := (Nat.le_refl w1.heap.size); have := HFa2.out.size; have := hf3.size; omega); clear hf3 hr3)
              | (go_at_call 17; refine (HD.out g w3 HOFF.out).mono ?_; rintro e w4 ⟨va, rfl, hf4, ho4⟩; obtain ⟨aa, ca, hva⟩ := ho4.len; rw [← HLL.out] at hva; subst hva; have HF4 := Lib.hid hf4; have HA := Lib.hid (ho4.mono (G := fun k => w3.heap.size ≤ k ∧ k < w4.heap.size) (fun k hk h => ⟨h, hk⟩)); clear hf4 ho4)
              | (go_at_call 18; refine (HE.out g w4 (HOFF.out.keep HF4.out (fun _ h => h.elim))).mono ?_; rintro e w5 ⟨vb, rfl, hf5, ho5⟩; obtain ⟨ab, cb, hvb⟩ := ho5.len; rw [← HLL.out] at hvb; subst hvb; have HF5 := Lib.hid hf5; have HF35 := Lib.hid (HF4.out.trans hf5 (fun _ h => h.elim)); have HBb := Lib.hid ho5; clear hf5 ho5)
              | (go_at_call 17; refine (HD.out g w5 (HOFF.out.keep HF35.out (fun _ h => h.elim))).mono ?_; rintro e w6 ⟨vc, rfl, hf6, ho6⟩; obtain ⟨ac, cc, hvc⟩ := ho6.len; rw [← HLL.out] at hvc; subst hvc; have HF6 := Lib.hid hf6; have HF36 := Lib.hid (HF35.out.trans hf6 (fun _ h => h.elim)); have HC := Lib.hid (ho6.mono (G := fun k => w5.heap.size ≤ k ∧ k < w6.heap.size) (fun k hk h => ⟨h, hk⟩)); clear hf6 ho6)
              | (go_at_call 19; have hsm := same_any _ _ Ld Ld w6 (HA.out.keep (HF5.out.trans HF6.out (fun _ h => h.elim)) (fun _ _ _ h => h)).bytes (HBb.out.keep HF6.out (fun _ _ _ h => h)).bytes; rw [show sameB Ld Ld = true from sameB_eq rfl] at hsm; refine hsm.mono ?_; clear hsm; rintro e w7 ⟨rfl, hq⟩; have HF67 := Lib.hid (show Fr (fun _ => False) w6 w7 by obtain ⟨q, rfl⟩ := hq; exact (Fr.refl _ _).drewN q); have HF37 := Lib.hid (HF36.out.trans HF67.out (fun _ h => h.elim)); obtain ⟨u1, u2, u4, u5⟩ := HP.out w7 (HFw3.out.trans HF37.out (fun _ h => h.elim)); have HU5 := Lib.hid u5; clear u5 hq)
              | (go_at_call 20; refine (KeptBytes_any _ g c pB w7 HU5.out (HLE.out.keep HF37.out (fun h => h)) (by omega)).mono ?_; rintro e w8 ⟨rfl, hq⟩; have HF78 := Lib.hid (show Fr (fun _ => False) w7 w8 by obtain ⟨q, rfl⟩ := hq; exact (Fr.refl _ _).drewN q); have HF38 := Lib.hid (HF37.out.trans HF78.out (fun _ h => h.elim)); clear hq)
              | (go_at_call 21; have hap := apart_three (La := Ld) (Lc := Ld) (Li := pB) (Fa := fun k => w3.heap.size ≤ k ∧ k < w4.heap.size) (Fc := fun k => w5.heap.size ≤ k ∧ k < w6.heap.size) (Fi := fun k => k = g) _ (heap_alloc_new w8 (.cells #[.slice aa ld ca, .slice ac ld cc, .slice (some ⟨g, 0, none⟩) pB.length c] 32)) (HA.out.keep (((((HF5.out.trans HF6.out (fun _ h => h.elim)).trans HF67.out (fun _ h => h.elim)).trans HF78.out (fun _ h => h.elim))).alloc _) (fun _ _ _ h => h)) (HC.out.keep ((HF67.out.trans HF78.out (fun _ h => h.elim)).alloc _) (fun _ _ _ h => h)) ((HLE.out.own.keep (HF38.out.alloc _) (fun _ _ _ h => h))) (fun k h h' => by have := HF5.out.size; omega) (fun k h h' => by have := HG3.out; omega) (fun k h h' => by have := HG3.out; have := HF35.out.size; omega) (by have := HLD.out; omega) (by have := HLD.out; omega) (by omega); refine hap.mono ?_; clear hap; rintro e w9 ⟨rfl, hf9⟩; have HF39 := Lib.hid (((HF38.out.mono (T := fun k => k = g ∨ w3.heap.size ≤ k) (fun _ _ h => h.elim)).alloc _).trans hf9 (fun i hi => .inl (by rcases hi with ⟨h, _⟩ | ⟨h, _⟩ | h; exact .inr h; exact .inr (Nat.le_trans HF35.out.size h); exact .inl h))); clear hf9)
              | fail)
            go_roundw
            case rel => exact ⟨k + 1, by omega, by go_num, Lib.hid (by rw [HNX.out]; exact (HOFF.out.keep HF39.out (fun k h => h)).at), Lib.hid (HFw3.out.trans HF39.out (fun i hi => .inr (hi.elim (fun h => by rw [h]; exact Nat.le_trans HSZ.out HG.out.1) (fun h => Nat.le_trans HFw3.out.size h))))⟩
            case measure => simp [intOf]; omega
          · have w1'' : (pw % 3 == 1) = false := by simpa using w1'
            have HW0 := Lib.hid w0
            have HW1 := Lib.hid w1'
            clear w0 w1'
            go_wp2_with (first
              | (go_at_call 9; refine HLT.out.mono ?_; rintro e w1 ⟨g, c, rfl, hl1, hf1⟩; have HL1 := Lib.hid hl1; have HF1 := Lib.hid hf1; have HG := Lib.hid (show wr.heap.size ≤ g ∧ g < w1.heap.size from ⟨hl1.2.2.2 g rfl, (hl1.2.2.1.lt g rfl).2⟩); obtain ⟨r1, r2, r4, r5⟩ := HP.out w1 (hfr.out.trans hf1 (fun _ h => h.elim)); clear r5 hl1 hf1)
              | (go_at_call 10; refine (pick_any pw 3 _ (by decide) (by decide) m1 m2).mono ?_; rintro e w' ⟨rfl, rfl⟩)
              | (go_at_call 15; have HFa1 := Lib.hid (HF1.out.alloc (.cells #[.slice (some ⟨g, 0, none⟩) pB.length c] 32)); refine (makerText_any (F := fun k => D k ∨ (w1.alloc (.cells #[.slice (some ⟨g, 0, none⟩) pB.length c] 32)).heap.size ≤ k) (G := fun k => k = g) _ (fun k hk => .inr hk) (fun k hk h => h.elim (fun h => by have hk' : k = g := hk; rw [hk'] at h; have := H3.out.2.2.2.1 g h; have := HG.out.1; omega) (fun h => by have hk' : k = g := hk; have := HG.out.2; have := ((Fr.refl (fun _ => False) w1).alloc (.cells #[.slice (some ⟨g, 0, none⟩) pB.length c] 32)).size; omega)) (mk_ready HM.out HFa1.out) (cell_of_one (heap_alloc_new w1 (.cells #[.slice (some ⟨g, 0, none⟩) pB.length c] 32))) (HL1.out.own.bytes.keep (S := fun _ => False) ((Fr.refl _ _).alloc _) (fun _ _ _ h => h)) (fun L hL => by have h8 := HSL.out; unfold refTold at hL; split at hL; cases hL; cases hL; omega)).mono ?_; rintro e w2 ⟨rfl, hf2, hm2⟩; have HFa2 := Lib.hid hf2; have HFw2 := Lib.hid ((hfr.out.trans HFa1.out (fun _ h => h.elim)).trans hf2 (fun i hi => .inr (hi.elim (fun h => H3.out.1 i h) (fun h => Nat.le_trans (hfr.out.trans HFa1.out (fun _ h => h.elim)).size h)))); have HM2 := Lib.hid (show MakAt _ w2 _ (refTold s') by rw [HS'.out, ← refTold_part]; unfold mkPart; exact by rw [if_neg HW0.out, if_neg HW1.out]; exact hm2); obtain ⟨t1, t2, t4, t5⟩ := HP.out w2 HFw2.out; clear t5 hf2 hm2)
              | (go_at_call 16; refine (refText_part (F := fun k => E k ∨ w2.heap.size ≤ k) (G := fun k => k < w.heap.size) pw pn pm pB s w2 HW0.out HW1.out (fun k hk => .inr hk) (fun k hk h => h.elim (fun h => by have := H3.out.2.1 k h; omega) (fun h => by have := HFw2.out.size; omega)) (rf_ready (w3 := w2) HR.out HFa1.out HFa2.out H3.out.2.2.1 H3.out.2.2.2.2) (HP.out w2 HFw2.out).2.2.2 HSL.out (by omega)).mono ?_; rintro e w3 ⟨rfl, hf3, hr3⟩; rw [← HS'.out] at hr3; have HOFF := Lib.hid (BothAt.step (g := g) HSZ.out H3.out.1 H3.out.2.1 H3.out.2.2.1 H3.out.2.2.2.1 H3.out.2.2.2.2 HG.out.1 (Nat.lt_of_lt_of_le HG.out.2 (((Fr.refl (fun _ => False) w1).alloc (.cells #[.slice (some ⟨g, 0, none⟩) pB.length c] 32)).size)) HFa1.out HM2.out HFa2.out (Fr.refl _ _) hr3 hf3); have HFw3 := Lib.hid (HFw2.out.trans hf3 (fun i hi => .inr (hi.elim (fun h => H3.out.2.1 i h) (fun h => Nat.le_trans HFw2.out.size h)))); have HLE := Lib.hid (((HL1.out.keep ((Fr.refl (fun _ => False) w1).alloc (.cells #[.slice (some ⟨g, 0, none⟩) pB.length c] 32)) (fun h => h)).keep HFa2.out (fun h => h.elim (fun h => by have := H3.out.2.2.2.1 g h; have := HG.out.1; omega) (fun h => by have := HG.out.2; have := (((Fr.refl (fun _ => False) w1).alloc (.cells #[.slice (some ⟨g, 0, none⟩) pB.length c] 32)).size); omega))).keep hf3 (fun h => h.elim (fun h => by have := H3.out.2.2.2.2 g h; have := HG.out.1; omega) (fun h => by have := HG.out.2; have := (((Fr.refl (fun _ => False) w1).alloc (.cells #[.slice (some ⟨g, 0, none⟩) pB.length c] 32)).size); have := HFa2.out.size; omega))); have HG3 := Lib.hid (show g < w3.heap.size from by have := HG.out.2; have := (((Fr.refl (fun _ => False) w1).alloc (.cells #[.slice (some ⟨g, 0, none⟩) pB.length c] 32)).size); have := HFa2.out.size; have := hf3.size; omega); clear hf3 hr3)
              | (go_at_call 17; refine (HD.out g w3 HOFF.out).mono ?_; rintro e w4 ⟨va, rfl, hf4, ho4⟩; obtain ⟨aa, ca, hva⟩ := ho4.len; rw [← HLL.out] at hva; subst hva; have HF4 := Lib.hid hf4; have HA := Lib.hid (ho4.mono (G := fun k => w3.heap.size ≤ k ∧ k < w4.heap.size) (fun k hk h => ⟨h, hk⟩)); clear hf4 ho4)
              | (go_at_call 18; refine (HE.out g w4 (HOFF.out.keep HF4.out (fun _ h => h.elim))).mono ?_; rintro e w5 ⟨vb, rfl, hf5, ho5⟩; obtain ⟨ab, cb, hvb⟩ := ho5.len; rw [← HLL.out] at hvb; subst hvb; have HF5 := Lib.hid hf5; have HF35 := Lib.hid (HF4.out.trans hf5 (fun _ h => h.elim)); have HBb := Lib.hid ho5; clear hf5 ho5)
              | (go_at_call 17; refine (HD.out g w5 (HOFF.out.keep HF35.out (fun _ h => h.elim))).mono ?_; rintro e w6 ⟨vc, rfl, hf6, ho6⟩; obtain ⟨ac, cc, hvc⟩ := ho6.len; rw [← HLL.out] at hvc; subst hvc; have HF6 := Lib.hid hf6; have HF36 := Lib.hid (HF35.out.trans hf6 (fun _ h => h.elim)); have HC := Lib.hid (ho6.mono (G := fun k => w5.heap.size ≤ k ∧ k < w6.heap.size) (fun k hk h => ⟨h, hk⟩)); clear hf6 ho6)
              | (go_at_call 19; have hsm := same_any _ _ Ld Ld w6 (HA.out.keep (HF5.out.trans HF6.out (fun _ h => h.elim)) (fun _ _ _ h => h)).bytes (HBb.out.keep HF6.out (fun _ _ _ h => h)).bytes; rw [show sameB Ld Ld = true from sameB_eq rfl] at hsm; refine hsm.mono ?_; clear hsm; rintro e w7 ⟨rfl, hq⟩; have HF67 := Lib.hid (show Fr (fun _ => False) w6 w7 by obtain ⟨q, rfl⟩ := hq; exact (Fr.refl _ _).drewN q); have HF37 := Lib.hid (HF36.out.trans HF67.out (fun _ h => h.elim)); obtain ⟨u1, u2, u4, u5⟩ := HP.out w7 (HFw3.out.trans HF37.out (fun _ h => h.elim)); have HU5 := Lib.hid u5; clear u5 hq)
              | (go_at_call 20; refine (KeptBytes_any _ g c pB w7 HU5.out (HLE.out.keep HF37.out (fun h => h)) (by omega)).mono ?_; rintro e w8 ⟨rfl, hq⟩; have HF78 := Lib.hid (show Fr (fun _ => False) w7 w8 by obtain ⟨q, rfl⟩ := hq; exact (Fr.refl _ _).drewN q); have HF38 := Lib.hid (HF37.out.trans HF78.out (fun _ h => h.elim)); clear hq)
              | (go_at_call 21; have hap := apart_three (La := Ld) (Lc := Ld) (Li := pB) (Fa := fun k => w3.heap.size ≤ k ∧ k < w4.heap.size) (Fc := fun k => w5.heap.size ≤ k ∧ k < w6.heap.size) (Fi := fun k => k = g) _ (heap_alloc_new w8 (.cells #[.slice aa ld ca, .slice ac ld cc, .slice (some ⟨g, 0, none⟩) pB.length c] 32)) (HA.out.keep (((((HF5.out.trans HF6.out (fun _ h => h.elim)).trans HF67.out (fun _ h => h.elim)).trans HF78.out (fun _ h => h.elim))).alloc _) (fun _ _ _ h => h)) (HC.out.keep ((HF67.out.trans HF78.out (fun _ h => h.elim)).alloc _) (fun _ _ _ h => h)) ((HLE.out.own.keep (HF38.out.alloc _) (fun _ _ _ h => h))) (fun k h h' => by have := HF5.out.size; omega) (fun k h h' => by have := HG3.out; omega) (fun k h h' => by have := HG3.out; have := HF35.out.size; omega) (by have := HLD.out; omega) (by have := HLD.out; omega) (by omega); refine hap.mono ?_; clear hap; rintro e w9 ⟨rfl, hf9⟩; have HF39 := Lib.hid (((HF38.out.mono (T := fun k => k = g ∨ w3.heap.size ≤ k) (fun _ _ h => h.elim)).alloc _).trans hf9 (fun i hi => .inl (by rcases hi with ⟨h, _⟩ | ⟨h, _⟩ | h; exact .inr h; exact .inr (Nat.le_trans HF35.out.size h); exact .inl h))); clear hf9)
              | fail)
            go_roundw
            case rel => exact ⟨k + 1, by omega, by go_num, Lib.hid (by rw [HNX.out]; exact (HOFF.out.keep HF39.out (fun k h => h)).at), Lib.hid (HFw3.out.trans HF39.out (fun i hi => .inr (hi.elim (fun h => by rw [h]; exact Nat.le_trans HSZ.out HG.out.1) (fun h => Nat.le_trans HFw3.out.size h))))⟩
            case measure => simp [intOf]; omega
      · go_wp2_with (go_at_call 8; refine (awake_any _).mono ?_; rintro e w9 ⟨rfl, hf9⟩; have HF9 := Lib.hid hf9; clear hf9)
        go_ret
        exact ⟨rfl, hfr.out.trans HF9.out (fun _ h => h.elim)⟩
end Go.Proofs.Ythjpgnmpcllolaa
