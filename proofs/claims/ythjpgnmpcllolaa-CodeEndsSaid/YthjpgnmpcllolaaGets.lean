/- CodeGets: whatever is got, both cursors tell the same; the bytes stay. Printed by gen_gets.py (wip/gen). -/
import Derived.Test.YthjpgnmpcllolaaRefCur
import Derived.Test.YthjpgnmpcllolaaOver
import Derived.Test.YthjpgnmpcllolaaMakes
import Derived.Deep.RegionHeld3
namespace Go.Proofs.Ythjpgnmpcllolaa
open Go.RowKit Go.ChangeShapes
set_option linter.unusedVariables false

theorem sameB_self (A : List UInt8) : sameB A A = true := by simp [sameB]
theorem curNum_nil {m : Int} {X : List UInt8} {e : Int} (h : e ≠ 0 → X = []) : (curNum m X e).2.2 ≠ 0 → (curNum m X e).2.1 = [] := by
  unfold curNum
  split
  · split
    · intro _; rfl
    · intro h; exact absurd rfl h
  · exact h
theorem curRaw_nil {m : Int} {X : List UInt8} {e : Int} (h : e ≠ 0 → X = []) : (curRaw m X e).2.2 ≠ 0 → (curRaw m X e).2.1 = [] := by
  unfold curRaw
  split
  · split
    · intro _; rfl
    · intro h; exact absurd rfl h
  · exact h
theorem curText_nil {m : Int} {X : List UInt8} {e : Int} (h : e ≠ 0 → X = []) : (curText m X e).2.2 ≠ 0 → (curText m X e).2.1 = [] := by
  unfold curText
  split
  · split
    · intro _; rfl
    · split
      · intro _; rfl
      · split
        · intro _; rfl
        · exact curRaw_nil (fun h => absurd rfl h)
  · exact h
theorem curLeft_eq {X : List UInt8} {e : Int} (h : e ≠ 0 → X = []) : curLeft X e = X.length := by
  unfold curLeft
  by_cases he : e = 0
  · rw [if_pos he]
  · rw [if_neg he, h he]; rfl
theorem CurAt.monoF {F G : Nat → Prop} {w : World} {b : Nat} {X : List UInt8} {e : Int} (h : CurAt F w b X e) (hd : ∀ k, k < w.heap.size → F k → G k) (hb : ¬ G b) : CurAt G w b X e := by
  obtain ⟨v, h1, h2, h3⟩ := h
  exact ⟨v, h1, h2.mono hd, hb⟩
theorem LentAt.bytes_ {F : Nat → Prop} {w : World} {g c : Nat} {L : List UInt8} (h : LentAt F w g c L) : BytesIn F w (.slice (some ⟨g, 0, none⟩) L.length c) L := by
  have h1 := h.2.2.bytes.take L.length (by simp)
  rwa [List.take_left] at h1

theorem curRaw_got (m : Int) (X : List UInt8) (e : Int) : (curRaw m X e).1.length ≤ X.length := by
  unfold curRaw
  split
  · split
    · simp
    · simp only [List.length_take]; omega
  · simp
theorem curText_got (m : Int) (X : List UInt8) (e : Int) : (curText m X e).1.length ≤ X.length := by
  unfold curText
  split
  · split
    · simp
    · split
      · simp
      · split
        · simp
        · have := curRaw_got (numV X) (X.drop (numS X)) 0
          rw [List.length_drop] at this
          omega
  · simp
theorem LentAt_lower {z y : Nat} {w : World} {g c : Nat} {L : List UInt8} (h : LentAt (fun k => z ≤ k) w g c L) (hy : y ≤ z) : LentAt (fun k => y ≤ k) w g c L :=
  ⟨h.1, h.2.1, h.2.2.1, fun k hk => Nat.le_trans hy (h.2.2.2 k hk)⟩

/-- The state of a round. -/
structure GetsAt (w wr : World) (g c cb z : Nat) (L X : List UInt8) (e : Int) : Prop where
  fr : Fr (fun _ => False) w wr
  cur : CurAt (fun k => w.heap.size ≤ k ∧ k < z ∧ k ≠ cb ∧ k ≠ g) wr cb X e
  ref : RCur (fun k => k < w.heap.size) wr z X e
  lent : LentAt (fun k => w.heap.size ≤ k) wr g c L
  nil : e ≠ 0 → X = []
  len : X.length ≤ 4000
  pos : w.heap.size ≤ g ∧ g < z ∧ w.heap.size ≤ cb ∧ cb < z ∧ g ≠ cb ∧ z < wr.heap.size
theorem GetsAt.keep {S : Nat → Prop} {w wr w' : World} {g c cb z : Nat} {L X : List UInt8} {e : Int} (h : GetsAt w wr g c cb z L X e) (hf : Fr S wr w') (hS : ∀ k, S k → z < k) : GetsAt w w' g c cb z L X e := by
  obtain ⟨p1, p2, p3, p4, p5, p6⟩ := h.pos
  refine ⟨h.fr.trans hf (fun k hk => .inr (by have := hS k hk; omega)), h.cur.keep hf (fun hk => by have := hS _ hk; omega) (fun k _ h1 h2 => by have := hS _ h2; omega), h.ref.keep hf (fun hk => by have := hS _ hk; omega) (fun k _ h1 h2 => by have := hS _ h2; omega), LentAt.keep h.lent hf (fun hk => by have := hS _ hk; omega), h.nil, h.len, p1, p2, p3, p4, p5, Nat.lt_of_lt_of_le p6 hf.size⟩
theorem GetsAt.next {w wr wb wc : World} {g c cb z : Nat} {L X Y : List UInt8} {e f : Int} (h : GetsAt w wr g c cb z L X e) (f1 : Fr (· = cb) wr wb) (hc : CurAt (fun k => w.heap.size ≤ k ∧ k < z ∧ k ≠ cb ∧ k ≠ g) wb cb Y f) (f2 : Fr (· = z) wb wc) (hr : RCur (fun k => k < w.heap.size) wc z Y f) (hn : f ≠ 0 → Y = []) (hl : Y.length ≤ X.length) : GetsAt w wc g c cb z L Y f := by
  obtain ⟨p1, p2, p3, p4, p5, p6⟩ := h.pos
  have := h.len
  refine ⟨(h.fr.trans f1 (fun k hk => .inr (by omega))).trans f2 (fun k hk => .inr (by omega)), hc.keep f2 (by omega) (fun k _ h1 h2 => by omega), hr, LentAt.keep (LentAt.keep h.lent f1 (by omega)) f2 (by omega), hn, by omega, p1, p2, p3, p4, p5, Nat.lt_of_lt_of_le (Nat.lt_of_lt_of_le p6 f1.size) f2.size⟩
theorem GetsAt.refb {w wr wb : World} {g c cb z : Nat} {L X : List UInt8} {e : Int} (h : GetsAt w wr g c cb z L X e) (f1 : Fr (· = cb) wr wb) : RCur (fun k => k < w.heap.size) wb z X e := by
  obtain ⟨p1, p2, p3, p4, p5, p6⟩ := h.pos
  exact h.ref.keep f1 (by omega) (fun k _ h1 h2 => by omega)

set_option maxRecDepth 100000 in
set_option maxHeartbeats 4000000 in
theorem gets_any (v pv : Value) (L : List UInt8) (l : List PartD) (w : World) (hv : BytesIn (fun k => k < w.heap.size) w v L) (hvl : L.length ≤ 140737488351232) (hp : PartsIn (fun k => k < w.heap.size) w pv l) :
    Calls Try.prog 23 #[v, pv] w fun e w' => e = .returned (.bool true) ∧ Fr (fun _ => False) w w' := by
  obtain ⟨av, cv, hve, hv1, hv2, _⟩ := id hv
  obtain ⟨nl, hnl⟩ : ∃ nl, nl = L.length := ⟨_, rfl⟩
  have HNL := Lib.hid hnl
  subst hve
  rw [← hnl] at hv hvl ⊢
  have HV := Lib.hid hv
  obtain ⟨ao, cap, hpv, hp1, hp2, _⟩ := id hp
  obtain ⟨n, hn⟩ : ∃ n, n = l.length := ⟨_, rfl⟩
  have HN := Lib.hid hn
  subst hpv
  rw [← hn] at hp hp1 ⊢
  have HP0 := Lib.hid hp
  have HSZ0 := Lib.hid (size_any w hp)
  clear hv hp hn hnl hv1 hv2
  go_enter Try.func23, Try.ntmps23
  go_wp2_with fail
  refine HSZ0.out.mono ?_
  rintro e w0 ⟨s0, rfl, hs1, hs2, hs3, d, rfl⟩
  by_cases hbig : s0 + nl ≤ 4000
  · have hb4 : bulkOf l = s0 := (hs2 (by omega)).symm
    have HB := Lib.hid (show bulkOf l ≤ 4000 by omega)
    have hn4 : n ≤ 4000 := by have := HB.out; have := HN.out; unfold bulkOf at *; omega
    have hbi : ¬ (4000 : Int) < (s0 : Int) + (nl : Int) := by omega
    have HF0 := Lib.hid ((Fr.refl (fun _ => False) w).drewN d)
    have HLT := Lib.hid (LentBytes_any (.slice av nl cv) L (w.drewN d) (HV.out.keep HF0.out (fun _ _ _ h => h)) (by rw [← HNL.out]; omega))
    have hnl4 : nl ≤ 4000 := by omega
    clear hs2 hs3 hbig hb4
    go_wp2_with fail
    refine HLT.out.mono ?_
    rintro e w1 ⟨g, c, rfl, hlt1, hf1⟩
    rw [← HNL.out]
    have HF1 := Lib.hid (HF0.out.trans hf1 (fun _ h => h.elim))
    have HL1 := Lib.hid hlt1
    have hin : BytesIn (fun k => (w.drewN d).heap.size ≤ k) w1 (.slice (some ⟨g, 0, none⟩) nl c) L := by rw [HNL.out]; exact hlt1.bytes_
    have hg1 : w.heap.size ≤ g ∧ g < w1.heap.size := by
      have h1 := hlt1.2.2.form (by rw [List.length_append, marks_length]; omega)
      obtain ⟨g', cap', hv', _, _, h2, hc'⟩ := h1
      simp only [Value.slice.injEq, Option.some.injEq, Addr.mk.injEq] at hv'
      obtain ⟨⟨rfl, _⟩, _⟩ := hv'
      exact ⟨h2, World.block_lt_of_cell? _ _ (hc' 0 (by rw [List.length_append, marks_length]; omega)).1⟩
    have HOV := Lib.hid (over_any w1 hin (by rw [← HNL.out]; omega))
    clear hlt1 hf1 hin HLT
    go_wp2_with fail
    refine HOV.out.mono ?_
    rintro e w2 ⟨cb, rfl, hf2, hcb, hc2⟩
    have HF2 := Lib.hid (HF1.out.trans hf2 (fun _ h => h.elim))
    have hcl : cb < w2.heap.size := by obtain ⟨_, h1, _⟩ := hc2; exact lt_of_block h1
    have HL2 := Lib.hid (LentAt.keep HL1.out hf2 (fun h => h))
    have HC2 := Lib.hid (hc2.monoF (G := fun k => w.heap.size ≤ k ∧ k < w2.heap.size ∧ k ≠ cb ∧ k ≠ g) (fun k hk h => ⟨by have := HF1.out.size; omega, hk, h.2, by omega⟩) (fun h => h.2.2.1 rfl))
    have hz1 := HF1.out.size
    have hz2 := hf2.size
    clear hf2 hc2 HOV HL1
    obtain ⟨z, hz⟩ : ∃ z, z = w2.heap.size := ⟨_, rfl⟩
    rw [← hz] at HC2 hcl hz2
    have HG0 : ∀ T, Hid (GetsAt w (w2.alloc (.cells #[.slice av nl cv, .int .i64 0] T)) g c cb z L L 0) := fun T => Lib.hid
      ⟨HF2.out.alloc _, HC2.out.keep (S := fun _ => False) ((Fr.refl _ _).alloc _) (fun h => h) (fun _ _ _ h => h), ⟨_, T, by rw [hz]; exact heap_alloc_new w2 _, HV.out.keep (HF2.out.alloc _) (fun _ _ _ h => h), by omega⟩, LentAt.keep (S := fun _ => False) (LentAt_lower HL2.out (Nat.le_refl _)) ((Fr.refl _ _).alloc _) (fun h => h), fun h => absurd rfl h, by rw [← HNL.out]; omega, hg1.1, by omega, by omega, hcl, by omega, by simp; omega⟩
    have HZ := Lib.hid hz
    go_wp2_with fail
    rw [← HZ.out]
    clear hz
    go_loopw [8] (fun iv wr => ∃ (k : Nat) (X : List UInt8) (e : Int), k ≤ n ∧ iv = .int .i64 k ∧ Hid (GetsAt w wr g c cb z L X e)) (fun iv _ => n - (intOf iv).toNat)
    case atStart => exact ⟨0, L, 0, by omega, rfl, HG0 _⟩
    case round =>
      clear HG0
      obtain ⟨k, X, f, hk, rfl, HG⟩ := hrel
      by_cases hlt : k < n
      · have hkl : k < l.length := by have := HN.out; omega
        obtain ⟨ao2, cap2, hv2, _, _, _, hcells⟩ := HP0.out
        simp only [Value.slice.injEq] at hv2
        obtain ⟨rfl, hv3, rfl⟩ := hv2
        clear hv3
        obtain ⟨pb, off, hao, hi⟩ := hcells (by rintro rfl; simp at hkl)
        subst hao
        have hp := (hi k hkl).keep HG.out.fr (fun _ _ _ h => h)
        obtain ⟨p, hpk⟩ : ∃ p, p = l[k] := ⟨_, rfl⟩
        rw [← hpk] at hp
        clear hpk hi hcells
        obtain ⟨pw, pn, pm, px, pB⟩ := p
        obtain ⟨q0, q1, q2, q3, q4, q5, q7⟩ := hp
        try simp only at q0 q2 q5 q7
        obtain ⟨m1, m2⟩ := q7.1
        obtain ⟨m3, m4⟩ := q7.2.2
        have hmod0 := Int.emod_nonneg pw (show (3 : Int) ≠ 0 by decide)
        have hmod3 := Int.emod_lt_of_pos pw (show (0 : Int) < 3 by decide)
        have hpb1 : pb ≠ cb := by have := HG.out.pos.2.2.1; omega
        have hpb2 : pb ≠ z := by have := HG.out.pos.2.2.1; omega
        have Q2 := Lib.hid q2
        clear q1 q3 q4 q7
        try simp only at m1 m2 m3 m4
        by_cases w0 : pw % 3 = 0
        · have w0' : (pw % 3 == 0) = true := by simpa using w0
          have hlen := curNum_len pm X f
          have hnil := curNum_nil (m := pm) HG.out.nil
          have hcall := fun (W : World) (h : Fr (fun _ => False) wr W) => curNum_any pm W (HG.out.cur.keep h (fun h => h) (fun _ _ _ h => h))
          have hcallr := fun (W : World) (h : Fr (· = cb) wr W) => rNum_any pm W (HG.out.refb h) HG.out.nil (by have := HG.out.len; omega)
          obtain ⟨a, ha⟩ : ∃ a, a = curNum pm X f := ⟨_, rfl⟩
          rw [← ha] at hlen hnil hcall hcallr
          obtain ⟨a1, a2, a3⟩ := a
          simp only at hlen hnil hcall hcallr
          have HCALL := Lib.hid (And.intro hcall (And.intro hcallr (And.intro hlen hnil)))
          clear w0 ha hlen hnil hcall hcallr
          go_wp2_with (go_at_call 10; refine (pick_any pw 3 _ (by decide) (by decide) m1 m2).mono ?_; rintro e w' ⟨rfl, rfl⟩)
          go_region_held3 (fun w' => w'.cell? ⟨pb, off + k * 4 + 2, none⟩ = some (.int .i64 pm)) (first | assumption | go_keep)
            (first
              | (go_at_call 30; refine (HCALL.out.1 _ ((Fr.refl _ wr).drew)).mono ?_; rintro e wb ⟨rfl, hfb, hcb'⟩; have hfb' : Fr (· = cb) wr wb := ((Fr.refl (fun _ => False) wr).drew.mono (fun _ _ h => h.elim)).trans hfb (fun _ h => .inl h); have r2 := hfb'.cell Q2.out hpb1; have HFB := Lib.hid (And.intro hfb' hcb'); clear hfb hfb' hcb')
              | (go_at_call 41; refine (HCALL.out.2.1 _ HFB.out.1).mono ?_; rintro e wc ⟨rfl, hfc, hrc⟩; have r3 := hfc.cell r2 hpb2; have HG2 := Lib.hid (HG.out.next HFB.out.1 HFB.out.2 hfc hrc HCALL.out.2.2.2 HCALL.out.2.2.1); clear hfc hrc))
          go_wp2_with fail
          obtain ⟨rv, d0, _, _, _, hbv⟩ := HG2.out.ref.facts
          obtain ⟨ar, cr, hrv, _⟩ := hbv
          subst hrv
          obtain ⟨lr, hlr⟩ : ∃ lr, lr = a2.length := ⟨_, rfl⟩
          rw [← hlr] at d0
          have hLF := curLeft_eq HG2.out.nil
          rw [← hlr] at hLF
          obtain ⟨E, hE⟩ : ∃ E, E = curEnd a2 a3 := ⟨_, rfl⟩
          have HL := Lib.hid (fun W (h : Fr (fun _ => False) wc W) => curLeft_any W (HG2.out.cur.keep h (fun h => h) (fun _ _ _ h => h)))
          have HE1 := Lib.hid (fun W (h : Fr (fun _ => False) wc W) => curEnd_any W (HG2.out.cur.keep h (fun h => h) (fun _ _ _ h => h)))
          have HE2 := Lib.hid (fun W (h : Fr (fun _ => False) wc W) => rEnd_any W (HG2.out.ref.keep h (fun h => h) (fun _ _ _ h => h)))
          simp only [hLF] at HL
          rw [← hE] at HE1 HE2
          clear hLF hE hlr
          go_region_held3 (fun w' => w'.cell? ⟨z, 0, none⟩ = some (.slice ar lr cr)) (first | assumption | go_keep)
            (first
              | (go_at_call 28; refine (HL.out _ ((Fr.refl _ _).drew)).mono ?_; rintro e w' ⟨rfl, rfl⟩)
              | (go_at_call 29; refine (HE1.out _ ((Fr.refl _ _).drew)).mono ?_; rintro e w' ⟨rfl, rfl⟩)
              | (go_at_call 45; refine (HE2.out _ ((Fr.refl _ _).drew)).mono ?_; rintro e w' ⟨rfl, rfl⟩))
          go_wp2
          go_roundw
          case rel => exact ⟨k + 1, a2, a3, by omega, by go_num, Lib.hid (HG2.out.keep (S := fun _ => False) ((Fr.refl _ _).drew) (fun _ h => h.elim))⟩
          case measure => simp [intOf]; omega
        · by_cases w1 : pw % 3 = 1
          · have w0' : (pw % 3 == 0) = false := by simpa using w0
            have w1' : (pw % 3 == 1) = true := by simpa using w1
            have hlen := curRaw_len pm X f
            have hnil := curRaw_nil (m := pm) HG.out.nil
            have hcall := curRaw_any pm wr HG.out.cur (by have := HG.out.len; omega) m3 m4
            have hcallr := fun (W : World) (h : Fr (· = cb) wr W) => rRaw_any pm W (HG.out.refb h) HG.out.nil (by have := HG.out.len; omega) (fun k hk => Nat.lt_of_lt_of_le hk (Nat.le_trans HG.out.fr.size h.size)) m3 m4
            obtain ⟨a, ha⟩ : ∃ a, a = curRaw pm X f := ⟨_, rfl⟩
            rw [← ha] at hlen hnil hcall hcallr
            obtain ⟨a1, a2, a3⟩ := a
            simp only at hlen hnil hcall hcallr
            have hal : a1.length ≤ 1000000 := by
              have h1 : a1 = (curRaw pm X f).1 := congrArg (·.1) ha
              rw [h1]
              exact Nat.le_trans (curRaw_got pm X f) (by have := HG.out.len; omega)
            have hself := sameB_self a1
            have HSELF := Lib.hid hself
            have HCALL := Lib.hid (And.intro hcall (And.intro hcallr (And.intro hlen (And.intro hnil hal))))
            clear w0 w1 ha hlen hnil hcall hcallr hal
            go_wp2_with (first
              | (go_at_call 10; refine (pick_any pw 3 _ (by decide) (by decide) m1 m2).mono ?_; rintro e w' ⟨rfl, rfl⟩)
              | (go_at_call 31; refine HCALL.out.1.mono ?_; rintro e wb ⟨vx, rfl, hfb, hox, hcb'⟩; have r2 := hfb.cell Q2.out hpb1; have HX := Lib.hid (hox.mono (G := fun k => wr.heap.size ≤ k ∧ k < wb.heap.size) (fun k hk h => ⟨h, hk⟩)); have HFB := Lib.hid (And.intro hfb hcb'); clear hfb hcb' hox)
              | (go_at_call 42; refine (HCALL.out.2.1 _ HFB.out.1).mono ?_; rintro e wc ⟨vy, rfl, hfc, hoy, hrc⟩; have HY := Lib.hid hoy.bytes; have HX2 := Lib.hid (HX.out.keep hfc (fun k hk h1 h2 => by have := HG.out.pos.2.2.2.2.2; omega)); have HG1 := Lib.hid (HG.out.next HFB.out.1 HFB.out.2 hfc hrc HCALL.out.2.2.2.1 HCALL.out.2.2.1); clear hfc hrc hoy)
              | (go_at_call 19; refine (same_any vx vy a1 a1 _ HX2.out.bytes HY.out).mono ?_; rintro e wd ⟨rfl, qd, rfl⟩; have HOV := Lib.hid (OverBytes_any vx a1 (wc.drewN qd) (HX2.out.keep (S := fun _ => False) ((Fr.refl _ _).drewN qd) (fun _ _ _ h => h)) (by have := HCALL.out.2.2.2.2; omega)); rw [HSELF.out])
              | (go_at_call 43; refine HOV.out.mono ?_; rintro e we ⟨rfl, hfe⟩; have HG2 := Lib.hid ((HG1.out.keep (S := fun _ => False) ((Fr.refl _ _).drewN qd) (fun _ h => h.elim)).keep hfe (fun k hk => by have := (HX.out.2 k hk).1; have := HG.out.pos.2.2.2.2.2; omega)); clear hfe)
              | fail)
            obtain ⟨rv, d0, _, _, _, hbv⟩ := HG2.out.ref.facts
            obtain ⟨ar, cr, hrv, _⟩ := hbv
            subst hrv
            obtain ⟨lr, hlr⟩ : ∃ lr, lr = a2.length := ⟨_, rfl⟩
            rw [← hlr] at d0
            have hLF := curLeft_eq HG2.out.nil
            rw [← hlr] at hLF
            obtain ⟨E, hE⟩ : ∃ E, E = curEnd a2 a3 := ⟨_, rfl⟩
            have HL := Lib.hid (fun W (h : Fr (fun _ => False) we W) => curLeft_any W (HG2.out.cur.keep h (fun h => h) (fun _ _ _ h => h)))
            have HE1 := Lib.hid (fun W (h : Fr (fun _ => False) we W) => curEnd_any W (HG2.out.cur.keep h (fun h => h) (fun _ _ _ h => h)))
            have HE2 := Lib.hid (fun W (h : Fr (fun _ => False) we W) => rEnd_any W (HG2.out.ref.keep h (fun h => h) (fun _ _ _ h => h)))
            simp only [hLF] at HL
            rw [← hE] at HE1 HE2
            clear hLF hE hlr
            go_region_held3 (fun w' => w'.cell? ⟨z, 0, none⟩ = some (.slice ar lr cr)) (first | assumption | go_keep)
              (first
                | (go_at_call 28; refine (HL.out _ ((Fr.refl _ _).drew)).mono ?_; rintro e w' ⟨rfl, rfl⟩)
                | (go_at_call 29; refine (HE1.out _ ((Fr.refl _ _).drew)).mono ?_; rintro e w' ⟨rfl, rfl⟩)
                | (go_at_call 45; refine (HE2.out _ ((Fr.refl _ _).drew)).mono ?_; rintro e w' ⟨rfl, rfl⟩))
            go_wp2
            go_roundw
            case rel => exact ⟨k + 1, a2, a3, by omega, by go_num, Lib.hid (HG2.out.keep (S := fun _ => False) ((Fr.refl _ _).drew) (fun _ h => h.elim))⟩
            case measure => simp [intOf]; omega
          · have w0' : (pw % 3 == 0) = false := by simpa using w0
            have w1' : (pw % 3 == 1) = false := by simpa using w1
            have hlen := curText_len pm X f
            have hnil := curText_nil (m := pm) HG.out.nil
            have hcall := curText_any pm wr HG.out.cur (by have := HG.out.len; omega)
            have hcallr := fun (W : World) (h : Fr (· = cb) wr W) => rText_any pm W (HG.out.refb h) HG.out.nil (by have := HG.out.len; omega) (fun k hk => Nat.lt_of_lt_of_le hk (Nat.le_trans HG.out.fr.size h.size)) 
            obtain ⟨a, ha⟩ : ∃ a, a = curText pm X f := ⟨_, rfl⟩
            rw [← ha] at hlen hnil hcall hcallr
            obtain ⟨a1, a2, a3⟩ := a
            simp only at hlen hnil hcall hcallr
            have hal : a1.length ≤ 1000000 := by
              have h1 : a1 = (curText pm X f).1 := congrArg (·.1) ha
              rw [h1]
              exact Nat.le_trans (curText_got pm X f) (by have := HG.out.len; omega)
            have hself := sameB_self a1
            have HSELF := Lib.hid hself
            have HCALL := Lib.hid (And.intro hcall (And.intro hcallr (And.intro hlen (And.intro hnil hal))))
            clear w0 w1 ha hlen hnil hcall hcallr hal
            go_wp2_with (first
              | (go_at_call 10; refine (pick_any pw 3 _ (by decide) (by decide) m1 m2).mono ?_; rintro e w' ⟨rfl, rfl⟩)
              | (go_at_call 32; refine HCALL.out.1.mono ?_; rintro e wb ⟨vx, rfl, hfb, hox, hcb'⟩; have r2 := hfb.cell Q2.out hpb1; have HX := Lib.hid (hox.mono (G := fun k => wr.heap.size ≤ k ∧ k < wb.heap.size) (fun k hk h => ⟨h, hk⟩)); have HFB := Lib.hid (And.intro hfb hcb'); clear hfb hcb' hox)
              | (go_at_call 44; refine (HCALL.out.2.1 _ HFB.out.1).mono ?_; rintro e wc ⟨vy, rfl, hfc, hoy, hrc⟩; have HY := Lib.hid hoy.bytes; have HX2 := Lib.hid (HX.out.keep hfc (fun k hk h1 h2 => by have := HG.out.pos.2.2.2.2.2; omega)); have HG1 := Lib.hid (HG.out.next HFB.out.1 HFB.out.2 hfc hrc HCALL.out.2.2.2.1 HCALL.out.2.2.1); clear hfc hrc hoy)
              | (go_at_call 19; refine (same_any vx vy a1 a1 _ HX2.out.bytes HY.out).mono ?_; rintro e wd ⟨rfl, qd, rfl⟩; have HOV := Lib.hid (OverBytes_any vx a1 (wc.drewN qd) (HX2.out.keep (S := fun _ => False) ((Fr.refl _ _).drewN qd) (fun _ _ _ h => h)) (by have := HCALL.out.2.2.2.2; omega)); rw [HSELF.out])
              | (go_at_call 43; refine HOV.out.mono ?_; rintro e we ⟨rfl, hfe⟩; have HG2 := Lib.hid ((HG1.out.keep (S := fun _ => False) ((Fr.refl _ _).drewN qd) (fun _ h => h.elim)).keep hfe (fun k hk => by have := (HX.out.2 k hk).1; have := HG.out.pos.2.2.2.2.2; omega)); clear hfe)
              | fail)
            obtain ⟨rv, d0, _, _, _, hbv⟩ := HG2.out.ref.facts
            obtain ⟨ar, cr, hrv, _⟩ := hbv
            subst hrv
            obtain ⟨lr, hlr⟩ : ∃ lr, lr = a2.length := ⟨_, rfl⟩
            rw [← hlr] at d0
            have hLF := curLeft_eq HG2.out.nil
            rw [← hlr] at hLF
            obtain ⟨E, hE⟩ : ∃ E, E = curEnd a2 a3 := ⟨_, rfl⟩
            have HL := Lib.hid (fun W (h : Fr (fun _ => False) we W) => curLeft_any W (HG2.out.cur.keep h (fun h => h) (fun _ _ _ h => h)))
            have HE1 := Lib.hid (fun W (h : Fr (fun _ => False) we W) => curEnd_any W (HG2.out.cur.keep h (fun h => h) (fun _ _ _ h => h)))
            have HE2 := Lib.hid (fun W (h : Fr (fun _ => False) we W) => rEnd_any W (HG2.out.ref.keep h (fun h => h) (fun _ _ _ h => h)))
            simp only [hLF] at HL
            rw [← hE] at HE1 HE2
            clear hLF hE hlr
            go_region_held3 (fun w' => w'.cell? ⟨z, 0, none⟩ = some (.slice ar lr cr)) (first | assumption | go_keep)
              (first
                | (go_at_call 28; refine (HL.out _ ((Fr.refl _ _).drew)).mono ?_; rintro e w' ⟨rfl, rfl⟩)
                | (go_at_call 29; refine (HE1.out _ ((Fr.refl _ _).drew)).mono ?_; rintro e w' ⟨rfl, rfl⟩)
                | (go_at_call 45; refine (HE2.out _ ((Fr.refl _ _).drew)).mono ?_; rintro e w' ⟨rfl, rfl⟩))
            go_wp2
            go_roundw
            case rel => exact ⟨k + 1, a2, a3, by omega, by go_num, Lib.hid (HG2.out.keep (S := fun _ => False) ((Fr.refl _ _).drew) (fun _ h => h.elim))⟩
            case measure => simp [intOf]; omega
      · have HF := Lib.hid HG.out.fr
        have HK := Lib.hid (KeptBytes_any (.slice av nl cv) g c L wr (HV.out.keep HF.out (fun _ _ _ h => h)) HG.out.lent (by rw [← HNL.out]; omega))
        rw [← HNL.out] at HK
        clear HG
        go_wp2_with (first
          | (go_at_call 20; refine HK.out.mono ?_; rintro e w5 ⟨rfl, q5, rfl⟩; have HF5 := Lib.hid (HF.out.drewN q5); clear HF)
          | (go_at_call 8; refine (awake_any _).mono ?_; rintro e w6 ⟨rfl, hf6⟩; have HF6 := Lib.hid (HF5.out.trans hf6 (fun _ h => h.elim)); clear hf6))
        go_ret
        exact ⟨rfl, HF6.out⟩
  · have hbi : (4000 : Int) < (s0 : Int) + (nl : Int) := by omega
    have HF0 := Lib.hid ((Fr.refl (fun _ => False) w).drewN d)
    clear hs2 hs3 hbig
    go_wp2_with (go_at_call 8; refine (awake_any _).mono ?_; rintro e w6 ⟨rfl, hf6⟩; have HF6 := Lib.hid (HF0.out.trans hf6 (fun _ h => h.elim)); clear hf6)
    go_ret
    exact ⟨rfl, HF6.out⟩
end Go.Proofs.Ythjpgnmpcllolaa
