/- Laid together by merge.py: JLaid2 JWrite JHead -/
import Derived.Test.YtabgklcghghoiaaGreatLn14
import Derived.Test.YtabgklcghghoiaaGreatLn9
import Derived.Test.YtabgklcghghoiaaGreatLn11
import Derived.Test.YtabgklcghghoiaaGreatLn13
import Derived.Test.YtabgklcghghoiaaGreatLn8

/- Contract: log.laid. -/
namespace Go.Proofs.YtabgklcghghoiaaGreat
open Go.RowKit Go.ChangeShapes Go.Maps
set_option linter.unusedVariables false

theorem Dv.read_yes {dv : Dv} {s q : Nat} (h1 : dv.down = false) (h2 : dv.waits = []) (hq : q < s) : dv.read s (q : Int) = (0, secAt dv.all q) := by
  unfold Dv.read
  rw [if_neg (by rw [h1]; decide), if_neg (by omega)]
  simp only [Dv.seen, h2, lastL, Int.toNat_natCast]
/-- What stands of the map behind k sectors. -/
structure LaidAt (w0 w : World) (mb o k : Nat) (X : List UInt8) (K : List UInt8) (vs : Nat → Value) : Prop where
  map : w.ownsMap Tryz.prog 3 heldR mb k (mD (o / 64) vs k)
  secs : ∀ i, i < k → ToldT (fun j => w0.heap.size ≤ j ∧ j ≠ mb) w (vs i) (secAt (over4 K o X) (o / 64 + i))
  fr : Fr (fun _ => False) w0 w

theorem ownsMap_fr {w w' : World} {b n : Nat} {D : DataW Value} (h : w.ownsMap Tryz.prog 3 heldR b n D) (hf : Fr (fun _ => False) w w') : w'.ownsMap Tryz.prog 3 heldR b n D := by
  obtain ⟨es, clock, hb, rest⟩ := h
  exact ⟨es, clock, hf.heap hb id, rest⟩
theorem ToldT.block {F : Nat → Prop} {w : World} {v : Value} {L : List UInt8} (h : ToldT F w v L) (hL : L.length = 64) :
    ∃ g T C cap, v = .slice (some ⟨g, 0, none⟩) 64 cap ∧ F g ∧ w.heap[g]? = some (.cells C T (0, 0)) ∧ C.size = cap ∧ 64 ≤ cap ∧ cap ≤ maxLen ∧ C.toList.take 64 = L.map bv := by
  rcases h with ⟨_, rfl⟩ | ⟨g, T, C, cap, rfl, h1, h2, h3, h4, h5, h6⟩
  · cases hL
  · rw [hL] at h4 h6 ⊢
    exact ⟨g, T, C, cap, rfl, h1, h2, h3, h4, h5, h6⟩
/-- One sector more. -/
theorem LaidAt.step {w0 wr w2 w3 : World} {mb o k g cap : Nat} {X K : List UInt8} {vs : Nat → Value} {T : TypeId} {C : Array Value} (h : LaidAt w0 wr mb o k X K vs) (hf : Fr (fun _ => False) wr w2) (hmb : w0.heap.size ≤ mb) (hlt : mb < wr.heap.size)
    (hg : wr.heap.size ≤ g) (hl : (secAt (over4 K o X) (o / 64 + k)).length = 64) (hC : w2.heap[g]? = some (.cells C T (0, 0))) (hCs : C.size = cap) (hc : 64 ≤ cap) (hcm : cap ≤ maxLen) (hCL : C.toList.take 64 = (secAt (over4 K o X) (o / 64 + k)).map bv)
    (hm : w3.ownsMap Tryz.prog 3 heldR mb (k + 1) ((mD (o / 64) vs k).put (keyN (o / 64) k) (.held (.slice (some ⟨g, 0, none⟩) 64 cap)))) (hgr : w2.grownBy w3 (some mb)) :
    LaidAt w0 w3 mb o (k + 1) X K (fun i => if i = k then .slice (some ⟨g, 0, none⟩) 64 cap else vs i) := by
  have hs := h.fr.size
  have hf3 : Fr (fun j => j = mb) w2 w3 := (Fr.refl _ w2).grown hgr (fun j hj => .inl (Option.some.inj hj).symm)
  refine ⟨?_, fun i hi => ?_, (h.fr.trans hf (fun _ h => h.elim)).trans hf3 (fun j e => .inr (by rw [show j = mb from e]; exact hmb))⟩
  · rw [mD, mD_congr _ _ vs k (fun i hi => if_neg (by omega)), if_pos rfl]
    exact hm
  · by_cases e : i = k
    · subst e
      rw [if_pos rfl]
      have ht : ToldT (fun j => w0.heap.size ≤ j ∧ j ≠ mb) w2 (.slice (some ⟨g, 0, none⟩) 64 cap) (secAt (over4 K o X) (o / 64 + i)) := .inr ⟨g, T, C, cap, by rw [hl], ⟨by omega, by omega⟩, hC, hCs, by omega, hcm, by rw [hl]; exact hCL⟩
      exact ht.keep hf3 (fun j _ h1 h2 => h1.2 h2)
    · rw [if_neg e]
      exact ((h.secs i (by omega)).keep hf (fun _ _ _ h => h)).keep hf3 (fun j _ h1 h2 => h1.2 h2)

def LaidPost (w : World) (o k : Nat) (X K : List UInt8) (e : Ending) (w' : World) : Prop := ∃ mb vs, e = .returned (.tuple #[.map (some mb), .int .i64 0]) ∧ w.heap.size ≤ mb ∧ LaidAt w w' mb o k X K vs
set_option maxRecDepth 100000 in
set_option maxHeartbeats 4000000 in
theorem lLaid_any {D G : Nat → Prop} (w : World) (g s o : Nat) (dv : Dv) (vb : Value) (X : List UInt8) (hd : DevAt w D g s dv) (hup : dv.down = false) (hw : dv.waits = []) (hs : s ≤ 8192) (ho : o + X.length ≤ 64 * s) (hb : BytesIn G w vb X) :
    Calls Tryz.prog 89 #[.pointer (some ⟨g, 0, none⟩), .int .i64 o, vb] w (LaidPost w o (manySecs o X.length) X dv.all) := by
  have hK := hd.right.all
  obtain ⟨ao, cap, rfl, h1, h2, _⟩ := id hb
  unfold maxLen at h2
  obtain ⟨n, hn⟩ : ∃ n, n = X.length := ⟨_, rfl⟩
  obtain ⟨mb, hmb⟩ : ∃ mb, mb = w.heap.size := ⟨_, rfl⟩
  have hmbl : n ≤ 524288 := by omega
  have hol : o ≤ 524288 := by omega
  have hmk := run_makeMap (P := Tryz.prog)
  have hf0 : Fr (fun _ => False) w (w.alloc (.map #[] 0)) := (Fr.refl _ _).alloc _
  have HB := Lib.hid ((hb.mono (G := fun k => G k ∧ k < w.heap.size) (fun k hk h => ⟨h, hk⟩)).keep hf0 (fun _ _ _ h => h))
  have H0 := Lib.hid (show LaidAt w (w.alloc (.map #[] 0)) mb o 0 X dv.all (fun _ => undef) from ⟨by rw [hmb]; exact World.ownsMap_made w _ _ _, fun i hi => absurd hi (by omega), hf0⟩)
  have HD := Lib.hid (And.intro hd (And.intro hK (And.intro hup hw)))
  have HN := Lib.hid (And.intro hn (And.intro hmb ho))
  rw [← hn]
  rw [← hn] at h1
  rw [← hn] at HB
  clear hd hK hup hw hb hf0 ho hn hmb
  go_enter Tryz.func89, Tryz.ntmps89
  go_wp2_with fail
  go_loopw [1, 2] (fun fv xv wr => ∃ (p c k : Nat) (vs : Nat → Value), c ≤ n ∧ p ≤ 1048576 ∧ fv = .int .i64 (p : Nat) ∧ Hid (p = o + c ∧ c = cAt o n k ∧ k ≤ manySecs o n ∧ LaidAt w wr mb o k X dv.all vs ∧ mb < wr.heap.size) ∧ Hid (BytesIn (fun j => G j ∧ j < w.heap.size) wr xv (X.drop c))) (fun fv _ _ => 2097152 - (intOf fv).toNat)
  case atStart => exact ⟨o, 0, 0, _, by omega, by omega, rfl, Lib.hid ⟨rfl, (cAt_zero o n).symm, Nat.zero_le _, H0.out, by rw [HN.out.2.1]; simp⟩, HB⟩
  case round =>
    obtain ⟨p, c, k, vs, hcn, hp, rfl, hR, hXB⟩ := hrel
    clear HB H0
    have hxl : (X.drop c).length = n - c := by rw [List.length_drop, ← HN.out.1]
    obtain ⟨ao2, cap2, rfl, l1, l2, _⟩ := id hXB.out
    unfold maxLen at l2
    obtain ⟨q, hq⟩ : ∃ q, q = (X.drop c).length := ⟨_, rfl⟩
    rw [← hq] at l1
    have hqb : q = n - c := by rw [hq]; exact hxl
    rw [← hq] at hXB ⊢
    by_cases hlt : c < n
    · have hq0 : 0 < q := by omega
      have hq1 : q ≤ 524288 := by omega
      have hcl : cAt o n k < n := by rw [← hR.out.2.1]; exact hlt
      obtain ⟨a, ha⟩ : ∃ a, a = o / 64 + k := ⟨_, rfl⟩
      obtain ⟨r, hr⟩ : ∃ r, r = (o + c) % 64 := ⟨_, rfl⟩
      have hpa : p / 64 = a := by rw [hR.out.1, ha, hR.out.2.1]; exact cAt_sec o n k hcl
      have hqi : (p : Int) / 64 = (a : Nat) := by omega
      have hpr : p % 64 = r := by rw [hR.out.1, hr]
      have hri : (p : Int) % 64 = (r : Nat) := by omega
      have hr64 : r < 64 := by omega
      have has : a < s := by have := HN.out.2.2; have := HN.out.1; have := hR.out.1; omega
      obtain ⟨m, hm⟩ : ∃ m, m = min (64 - r) q := ⟨_, rfl⟩
      have hmb1 : m ≤ q ∧ 0 < m ∧ m ≤ 64 := by omega
      have hdr := HD.out.1.keep hR.out.2.2.2.1.fr (fun _ _ _ h => h)
      have hrd := aRead wr g s dv (a : Int) (by rw [HD.out.2.2.2]; decide) hdr
      rw [Dv.read_yes HD.out.2.2.1 HD.out.2.2.2 has] at hrd
      have hsl := secAt_length dv.all s a HD.out.2.1 has
      obtain ⟨S, hS⟩ : ∃ S, S = secAt dv.all a := ⟨_, rfl⟩
      rw [← hS] at hrd hsl
      have HRD := Lib.hid hrd
      have HSL := Lib.hid (And.intro hsl hS)
      have HM := Lib.hid (And.intro hm (And.intro hq (And.intro ha hr)))
      have hcut := fun W : World => run_cutLow W ao2 q cap2 m hmb1.1
      have HCL := Lib.hid hcl
      have HLAID := Lib.hid (laid_sec dv.all s o k X HD.out.2.1 HN.out.2.2 (by rw [← HN.out.1]; exact hcl) c r m (by rw [← HN.out.1]; exact hR.out.2.1) hr (by rw [hm, hqb, HN.out.1]))
      have HTL := Lib.hid (show (X.drop c) ≠ [] from fun h => by rw [h] at hq; simp at hq; omega)
      have HKEY := Lib.hid (keyOf_int_mk (P := Tryz.prog) Tryz.underlying3 (a := ((a : Nat) : Int)) (WalkArith.wf_i64 (by omega)))
      have HQB := Lib.hid (And.intro hqb (And.intro hmb1 (And.intro hp (And.intro hcn hlt))))
      have hmp : (p : Int) + (m : Int) ≤ 2000000 := by omega
      have hm0 : 0 < m := hmb1.2.1
      have hmq : m ≤ q := hmb1.1
      clear hdr hrd hsl hS hq hqb ha hr hpa hpr hm hcl hxl hmb1 hcn hlt
      go_wp2_with (first
        | (go_at_call 31; refine HRD.out.mono ?_; rintro e w1 ⟨v, rfl, ht, hf1⟩; obtain ⟨g1, T, C, capr, rfl, hg1, hC, hCs, hc64, hcm, hCL⟩ := ht.block HSL.out.1; (have hsl5 := fun W : World => op_slice_lo5 W g1 capr r hr64 hc64); obtain ⟨w2, C2, hcp, hC2, hC2s, hC2L, hf2⟩ := copy_told w1 g1 T C S (X.drop c) (.slice ao2 q cap2) capr r m hC hCs HSL.out.1 hc64 hCL hr64 (hXB.out.keep hf1 (fun _ _ _ h => h)) HTL.out (by rw [HM.out.1, HM.out.2.1]); (have HCP := Lib.hid hcp); (have H2 := Lib.hid (And.intro (hf1.trans hf2 (fun j e => .inr (by rw [show j = g1 from e]; exact hg1))) (And.intro hg1 (And.intro hC2 (And.intro hC2s (And.intro hc64 (And.intro hcm hC2L))))))); clear ht hf1 hC hCs hcm hCL hcp hC2 hC2s hC2L hf2 hg1)
        | (refine wpList_value rfl (.int .i64 m) w2 (op_copy rfl rfl rfl HCP.out) ?_)
        | (at_mapUpdate; refine wpList_mapUpdate_own w2 rfl (.tmp 36) (.tmp 37) (.tmp 38) 135 rfl 3 37 (int_keyed Tryz.underlying3) Tryz.underlying135 heldR mb k (mD (o / 64) vs k) (by rw [HN.out.2.1]; rfl) (ownsMap_fr hR.out.2.2.2.1.map H2.out.1) (by have := hR.out.2.2.1; unfold manySecs at this; unfold maxLen; split at this <;> omega) (.int .i64 a) (.slice (some ⟨g1, 0, none⟩) 64 capr) _ rfl rfl HKEY.out (.held (.slice (some ⟨g1, 0, none⟩) 64 capr)) [] rfl ?_; intro w3 hm3 hgr3; (have H3 := Lib.hid (And.intro hm3 hgr3)); clear hm3 hgr3))
      go_roundw
      case rel =>
        have hcs : c + m = cAt o n (k + 1) := by
          rw [← cAt_succ o n k HCL.out, ← hR.out.2.1, HM.out.1, HM.out.2.2.2, HQB.out.1]
        have hsec : (secAt (over4 dv.all o X) (o / 64 + k)).length = 64 := secAt_length _ s _ (by rw [over4_length _ _ _ (by rw [HD.out.2.1]; exact HN.out.2.2)]; exact HD.out.2.1) (by rw [← HM.out.2.2.1]; exact has)
        have hf3 : Fr (fun j => j = mb) w2 w3 := (Fr.refl _ w2).grown H3.out.2 (fun j hj => .inl (Option.some.inj hj).symm)
        refine ⟨p + m, c + m, k + 1, _, by have := HQB.out.2.1; have := HQB.out.1; omega, by omega, by go_num, Lib.hid ⟨by rw [hR.out.1, Nat.add_assoc], hcs, cAt_many o n k HCL.out, hR.out.2.2.2.1.step H2.out.1 (by rw [HN.out.2.1]; exact Nat.le_refl _) hR.out.2.2.2.2 H2.out.2.1 hsec H2.out.2.2.1 H2.out.2.2.2.1 H2.out.2.2.2.2.1 H2.out.2.2.2.2.2.1 (by rw [← HLAID.out, ← HM.out.2.2.1, ← HSL.out.2]; exact H2.out.2.2.2.2.2.2) (by have h := H3.out.1; rw [HM.out.2.2.1] at h; exact h) H3.out.2, ?_⟩, ?_⟩
        · exact Nat.lt_of_lt_of_le (Nat.lt_of_lt_of_le hR.out.2.2.2.2 H2.out.1.size) hf3.size
        · have h := ((hXB.out.keep H2.out.1 (fun _ _ _ h => h)).keep hf3 (fun j _ h e => by have := HN.out.2.1; have e' : j = mb := e; have := h.2; omega)).cutLow m (by rw [← HM.out.2.1]; exact HQB.out.2.1.1)
          rw [List.drop_drop] at h
          exact Lib.hid h
      case measure => simp [intOf]; omega
    · have hq0 : q = 0 := by omega
      subst hq0
      have HP := Lib.hid (show w.heap.size ≤ mb ∧ LaidAt w wr mb o (manySecs o n) X dv.all vs by
        have hcn2 : cAt o n k = n := by rw [← hR.out.2.1]; omega
        refine ⟨by rw [HN.out.2.1]; exact Nat.le_refl _, ?_⟩
        rw [← cAt_done o n k hR.out.2.2.1 hcn2]
        exact hR.out.2.2.2.1)
      have HMB := Lib.hid (HN.out.2.1)
      clear hR hXB hq hqb hcn hlt hxl
      go_wp2
      go_ret2
      exact ⟨mb, vs, by rw [HMB.out]; rfl, HP.out⟩
end Go.Proofs.YtabgklcghghoiaaGreat

/- Contract: log.write. -/
namespace Go.Proofs.YtabgklcghghoiaaGreat
open Go.RowKit Go.ChangeShapes Go.Maps Go.Sort
set_option linter.unusedVariables false

theorem Dv.puts_append (s : Nat) : ∀ (A B : List Pend) (d : Dv), d.puts s (A ++ B) = if (d.puts s A).1 = 0 then (d.puts s A).2.puts s B else d.puts s A
  | [], B, d => by simp [Dv.puts]
  | p :: A, B, d => by
    rw [List.cons_append, Dv.puts, Dv.puts]
    by_cases h : (d.write s p.1 p.2).1 = 0
    · rw [if_pos h, if_pos h]
      exact Dv.puts_append s A B _
    · rw [if_neg h, if_neg h, if_neg h]
theorem Dv.puts_one (s : Nat) (p : Pend) (d : Dv) : d.puts s [p] = d.write s p.1 p.2 := by
  rw [Dv.puts]
  split
  · rename_i h
    rw [Dv.puts, ← h]
  · rfl
theorem Dv.puts_step (s : Nat) (ps : List Pend) (d : Dv) (i : Nat) (hi : i < ps.length) (h : (d.puts s (ps.take i)).1 = 0) : d.puts s (ps.take (i + 1)) = (d.puts s (ps.take i)).2.write s ps[i].1 ps[i].2 := by
  rw [List.take_succ_eq_append_getElem hi, Dv.puts_append, if_pos h, Dv.puts_one]
theorem Dv.puts_stop (s : Nat) (ps : List Pend) (d : Dv) (i : Nat) (h : (d.puts s (ps.take i)).1 ≠ 0) : d.puts s ps = d.puts s (ps.take i) := by
  conv => lhs; rw [← List.take_append_drop i ps]
  rw [Dv.puts_append, if_neg h]
theorem secsOf_get (K : List UInt8) (a n i : Nat) (hi : i < (secsOf K a n).length) : (secsOf K a n)[i] = (a + i, secAt K (a + i)) := by
  simp [secsOf]
theorem ownsRow_form5 {w : World} {z n : Nat} {e : TypeId} {v : Value} {vs : List Value} (h : w.ownsRow z e 1 v n vs) : ∃ ao c, v = .slice ao n c ∧ n ≤ c ∧ c ≤ 9223372036854775807 ∧ (0 < n → ∃ g, ao = some ⟨g, 0, none⟩ ∧ z ≤ g ∧ g < w.heap.size ∧ ∀ j (hj : j < vs.length), w.cell? ⟨g, j, none⟩ = some vs[j]) := by
  have hl : vs.length = n := by simpa using h.1
  rcases h.2 with ⟨rfl, h0⟩ | ⟨g, cap, cur, rfl, hb, hg, hnc, hcm, hcs, ht⟩
  · exact ⟨none, 0, by rw [h0], by omega, by omega, fun hn => by omega⟩
  · unfold maxLen at hcm
    exact ⟨_, cap, rfl, hnc, by omega, fun _ => ⟨g, rfl, hb, lt_of_block hg, fun j hj => by
      rw [World.ownsRow.cellAt h j (by omega), List.getElem?_eq_getElem hj]⟩⟩

/-- What write leaves of the device, behind k sectors. -/
structure WroteAt (D : Nat → Prop) (w w2 wr : World) (g s k : Nat) (dv : Dv) (ps : List Pend) : Prop where
  ok : (dv.puts s (ps.take k)).1 = 0
  dev : DevAt wr (fun j => (D j ∧ j < w.heap.size) ∨ w2.heap.size ≤ j) g s (dv.puts s (ps.take k)).2
  fr : Fr (fun j => (D j ∧ j < w.heap.size) ∨ w2.heap.size ≤ j) w2 wr
def WritePost (D : Nat → Prop) (w : World) (g s : Nat) (r : Int × Dv) (e : Ending) (w' : World) : Prop := e = .returned (.int .i64 r.1) ∧ DevAt w' (More D w) g s r.2 ∧ Fr D w w'
theorem WroteAt.post {D : Nat → Prop} {w w2 wr : World} {g s : Nat} {d2 : Dv} (hf : Fr (fun _ => False) w w2) (hd : DevAt wr (fun j => (D j ∧ j < w.heap.size) ∨ w2.heap.size ≤ j) g s d2) (hr : Fr (fun j => (D j ∧ j < w.heap.size) ∨ w2.heap.size ≤ j) w2 wr) : DevAt wr (More D w) g s d2 ∧ Fr D w wr :=
  ⟨hd.mono fun j _ h => h.elim (fun h => .inl h.1) (fun h => .inr (Nat.le_trans hf.size h)), (hf.mono (T := D) (fun _ _ h => h.elim)).trans hr fun j h => h.elim (fun h => .inl h.1) (fun h => .inr (Nat.le_trans hf.size h))⟩
/-- One sector written. -/
theorem lWrite_one {D G : Nat → Prop} (w w2 wr : World) (g s k : Nat) (dv : Dv) (ps : List Pend) (y : Value) (hs : s ≤ 8192) (hp : Pends s ps) (hk : k < ps.length) (hup : dv.down = false) (hw : dv.waits = []) (hk6 : dv.deeds ≤ 900000000) (hpl : ps.length ≤ 100000)
    (h : WroteAt D w w2 wr g s k dv ps) (hy : BytesIn G w2 y ps[k].2) (hG : ∀ j, G j → w.heap.size ≤ j ∧ j < w2.heap.size) :
    Calls Tryz.prog 57 #[.pointer (some ⟨g, 0, none⟩), .int .i64 (ps[k].1 : Nat), y] wr fun e w' => e = .returned (.int .i64 (dv.puts s (ps.take (k + 1))).1) ∧ DevAt w' (fun j => (D j ∧ j < w.heap.size) ∨ w2.heap.size ≤ j) g s (dv.puts s (ps.take (k + 1))).2 ∧ Fr (fun j => (D j ∧ j < w.heap.size) ∨ w2.heap.size ≤ j) w2 w' := by
  rw [Dv.puts_step s ps dv k hk h.ok]
  have hpk : Pends s (ps.take k) := fun p hm => hp p (List.mem_of_mem_take hm)
  have hl : (ps.take k).length = k := by rw [List.length_take]; omega
  have hq : (dv.puts s (ps.take k)).2.waits.length = k ∧ (dv.puts s (ps.take k)).2.deeds = dv.deeds + k := by
    rcases Dv.puts_cases s (ps.take k) dv hup hpk with ⟨_, _, a3, _, a5, _⟩ | ⟨_, b1, _⟩
    · rw [a3, a5, hw, List.nil_append, hl]
      exact ⟨rfl, rfl⟩
    · rw [h.ok] at b1
      cases b1
  have hps := hp ps[k] (List.getElem_mem hk)
  have hsz := h.fr.size
  refine (aWrite wr g s _ (ps[k].1 : Nat) y ps[k].2 (by omega) (by omega) (by omega) (by omega) (hy.keep h.fr (fun j hj hg hh => by have := hG j hg; omega)) (fun j hj hg hh => by have := hG j hg; omega) h.dev).mono ?_
  rintro e w' ⟨rfl, hd, hf⟩
  refine ⟨rfl, hd.mono fun j _ hh => hh.elim id (fun h2 => .inr (by omega)), h.fr.trans hf fun j hh => .inl hh⟩
theorem ownsMap_frS {S : Nat → Prop} {w w' : World} {b n : Nat} {D : DataW Value} (h : w.ownsMap Tryz.prog 3 heldR b n D) (hf : Fr S w w') (hS : ¬ S b) : w'.ownsMap Tryz.prog 3 heldR b n D := by
  obtain ⟨es, clock, hb, rest⟩ := h
  exact ⟨es, clock, hf.heap hb hS, rest⟩

set_option maxRecDepth 100000 in
set_option maxHeartbeats 4000000 in
theorem lWrite_any {D G : Nat → Prop} (w : World) (g s o : Nat) (dv : Dv) (vb : Value) (X : List UInt8) (hd : DevAt w D g s dv) (hup : dv.down = false) (hw : dv.waits = []) (hs : s ≤ 8192) (ho : o + X.length ≤ 64 * s) (hb : BytesIn G w vb X) (hk6 : dv.deeds ≤ 900000000) :
    Calls Tryz.prog 70 #[.pointer (some ⟨g, 0, none⟩), .int .i64 o, vb] w (WritePost D w g s (dv.puts s (secsAt dv.all o X))) := by
  have HLD := Lib.hid (lLaid_any w g s o dv vb X hd hup hw hs ho hb)
  obtain ⟨ps, hps⟩ : ∃ ps, ps = secsAt dv.all o X := ⟨_, rfl⟩
  have hpl : ps.length = manySecs o X.length := by rw [hps]; exact secsOf_length _ _ _
  have hpr : Pends s ps := by rw [hps]; exact secsAt_right hd.right.all ho
  have hget : ∀ i (h : i < ps.length), ps[i] = (o / 64 + i, secAt (over4 dv.all o X) (o / 64 + i)) := by
    intro i h
    subst hps
    exact secsOf_get _ _ _ i h
  have hm := manySecs_le s o X.length ho
  obtain ⟨n, hn⟩ : ∃ n, n = manySecs o X.length := ⟨_, rfl⟩
  have hnb : o / 64 + n ≤ 1000000 := by
    rcases hm with h | h
    · unfold firstSec at h; omega
    · rw [hn, manySecs, if_pos h]; omega
  have hnb2 : n ≤ 8192 := by
    rcases hm with h | h
    · omega
    · rw [hn, manySecs, if_pos h]; omega
  rw [← hps]
  rw [← hn] at HLD hpl
  have HD := Lib.hid (And.intro hd (And.intro hup (And.intro hw hk6)))
  have HP := Lib.hid (And.intro hpl (And.intro hpr (And.intro hget (And.intro hnb hnb2))))
  obtain ⟨ab, cb, hvb, _⟩ := hb
  subst hvb
  obtain ⟨lb, hlb⟩ : ∃ lb, lb = X.length := ⟨_, rfl⟩
  rw [← hlb] at HLD ⊢
  clear hd hup hw hk6 hpl hpr hget hnb hnb2 hm hn hps ho hlb
  go_enter Tryz.func70, Tryz.ntmps70
  go_wp2_with (first
    | (go_at_call 89; refine HLD.out.mono ?_; rintro e w1 ⟨mb, vs, rfl, hmb, hL⟩; (have HL := Lib.hid (And.intro hmb hL)); clear hmb hL)
    | (go_at_call 91; refine (keysP_any w1 mb).mono ?_; rintro e w1b ⟨rfl, rfl⟩)
    | (go_at_call 90; refine (sortedP_any mb n (mD (o / 64) vs n) heldR w1 HL.out.2.map (by rw [mD_size]; have := HP.out.2.2.2.2; unfold maxLen; omega) (by rw [mD_size]; have := HP.out.2.2.2.2; omega)).mono ?_; rintro e w2 ⟨v, ss, rfl, hp, hrow, hnil, hbel⟩; obtain ⟨ao3, c3, rfl, l3a, l3b, l3c⟩ := ownsRow_form5 hrow; obtain ⟨n2, hn2⟩ : ∃ n2, n2 = ss.length := ⟨_, rfl⟩; rw [← hn2]; rw [← hn2] at l3a; (have H3 := Lib.hid (And.intro hp (And.intro hn2 (And.intro hbel l3c)))); clear hp hrow hnil hbel l3c hn2))
  have hfw : Fr (fun _ => False) w1 w2 := ((Fr.refl (fun _ => False) w1).alloc _).trans (T := fun k => (w1.alloc (.cells #[.map (some mb)] 135)).heap.size ≤ k) (Fr.ofBelow H3.out.2.2.1) (fun k h => .inr (Nat.le_trans (by simp) h))
  have hfw2 : Fr (fun _ => False) w w2 := HL.out.2.fr.trans hfw (fun _ h => h.elim)
  have hnn : n2 = n := by rw [H3.out.2.1]; exact mD_count _ _ _ _ H3.out.1
  have hsort := mD_sorted _ _ _ _ H3.out.1
  have hmbl : mb < w1.heap.size := HL.out.2.map.lt
  have hrow : 0 < n2 → ∃ gr, ao3 = some ⟨gr, 0, none⟩ ∧ w.heap.size ≤ gr ∧ gr < w2.heap.size ∧ ∀ i, i < n2 → w2.cell? ⟨gr, i, none⟩ = some (.int .i64 ((o / 64 + i : Nat) : Int)) := by
    intro h0
    obtain ⟨gr, e1, e2, e3, e4⟩ := H3.out.2.2.2 (by rw [← H3.out.2.1]; exact h0)
    refine ⟨gr, e1, ?_, e3, fun i hi => ?_⟩
    · have := HL.out.2.fr.size
      simp at e2
      omega
    · have h1 := e4 i (by rw [List.length_map, List.length_mergeSort, ← H3.out.2.1]; exact hi)
      rw [h1]
      simp only [hsort, List.getElem_map, List.getElem_range]
  have HF2 := Lib.hid (And.intro hfw hfw2)
  have HR := Lib.hid (And.intro hrow (And.intro hmbl hnn))
  have h0 : WroteAt D w w2 w2 g s 0 dv ps := ⟨rfl, (HD.out.1.mono (E := fun j => D j ∧ j < w.heap.size) (fun j hj h => ⟨h, hj⟩)).keep hfw2 (fun _ _ _ h => h) |>.mono (fun j _ h => .inl h), Fr.refl _ _⟩
  have H0 := Lib.hid h0
  have hn2b : n2 ≤ 8192 := by rw [hnn]; exact HP.out.2.2.2.2
  clear h0 hrow hmbl hnn hsort hfw hfw2
  go_loopw [26] (fun iv wr => ∃ k : Nat, k ≤ n2 ∧ iv = .int .i64 k ∧ Hid (WroteAt D w w2 wr g s k dv ps)) (fun iv _ => n2 - (intOf iv).toNat)
  case atStart => exact ⟨0, by omega, rfl, H0⟩
  case round =>
    obtain ⟨k, hk, rfl, hR⟩ := hrel
    clear H0
    by_cases hlt : k < n2
    · obtain ⟨gr, rfl, hg1, hg2, hcell⟩ := HR.out.1 (by omega)
      have hkp : k < ps.length := by rw [HP.out.1, ← HR.out.2.2]; exact hlt
      obtain ⟨x, hx⟩ : ∃ x, x = o / 64 + k := ⟨_, rfl⟩
      obtain ⟨y, hy⟩ : ∃ y, y = vs k := ⟨_, rfl⟩
      have hc := hR.out.fr.cell (hcell k hlt) (by simp only; omega)
      have hmr := ownsMap_frS (ownsMap_fr HL.out.2.map HF2.out.1) hR.out.fr (by have := HL.out.1; have := HR.out.2.1; have := HF2.out.1.size; omega)
      have hlk := mD_lookup hmr k (by rw [← HR.out.2.2]; exact hlt) HP.out.2.2.2.1
      have hyb : BytesIn (fun j => w.heap.size ≤ j ∧ j < w2.heap.size) w2 (vs k) ps[k].2 := by
        rw [HP.out.2.2.1 k hkp]
        have h := (HL.out.2.secs k (by rw [← HR.out.2.2]; exact hlt)).bytes
        exact (h.mono (G := fun j => w.heap.size ≤ j ∧ j < w2.heap.size) (fun j hj h => ⟨h.1, Nat.lt_of_lt_of_le hj HF2.out.1.size⟩)).keep HF2.out.1 (fun _ _ _ h => h)
      have hwo := lWrite_one w w2 wr g s k dv ps (vs k) hs HP.out.2.1 hkp HD.out.2.1 HD.out.2.2.1 HD.out.2.2.2 (by rw [HP.out.1]; have := HP.out.2.2.2.2; omega) hR.out hyb (fun _ h => h)
      have e1 : ps[k].1 = x := by rw [HP.out.2.2.1 k hkp, hx]
      rw [e1, ← hy] at hwo
      rw [← hx, ← hy] at hlk
      rw [← hx] at hc
      obtain ⟨e, he⟩ : ∃ e, e = (dv.puts s (ps.take (k + 1))).1 := ⟨_, rfl⟩
      rw [← he] at hwo
      have HE := Lib.hid he
      have HWO := Lib.hid hwo
      have hk0 : (0 : Int) ≤ (k : Int) := by omega
      have hk1 : (k : Int) < (n2 : Int) := by omega
      clear hcell hmr hyb hwo e1 he hkp hx hy
      by_cases h0 : e = 0
      · subst h0
        go_wp2_with (go_at_call 57; refine HWO.out.mono ?_; rintro e w5 ⟨rfl, hd5, hf5⟩; (have H5 := Lib.hid (And.intro hd5 hf5)); clear hd5 hf5)
        go_roundw
        case rel => exact ⟨k + 1, by omega, by go_num, Lib.hid ⟨HE.out.symm, H5.out.1, H5.out.2⟩⟩
        case measure => simp [intOf]; omega
      · have hb : (e != 0) = true := by rw [bne_iff_ne]; exact h0
        have HST := Lib.hid (Dv.puts_stop s ps dv (k + 1) (by rw [← HE.out]; exact h0))
        clear h0
        go_wp2_with (go_at_call 57; refine HWO.out.mono ?_; rintro e w5 ⟨rfl, hd5, hf5⟩; (have H5 := Lib.hid (And.intro hd5 hf5)); clear hd5 hf5)
        go_ret
        have hp := WroteAt.post HF2.out.2 H5.out.1 H5.out.2
        unfold WritePost
        rw [HST.out, ← HE.out]
        exact ⟨rfl, hp⟩
    · obtain rfl : k = n2 := by omega
      have HQ := Lib.hid (show DevAt wr (More D w) g s (dv.puts s ps).2 ∧ Fr D w wr ∧ (dv.puts s ps).1 = 0 by
        have h1 := WroteAt.post HF2.out.2 hR.out.dev hR.out.fr
        have h2 := hR.out.ok
        rw [List.take_of_length_le (by rw [HP.out.1, ← HR.out.2.2]; exact Nat.le_refl _)] at h1 h2
        exact ⟨h1.1, h1.2, h2⟩)
      clear hR
      go_wp2
      go_ret
      unfold WritePost
      rw [HQ.out.2.2]
      exact ⟨rfl, HQ.out.1, HQ.out.2.1⟩
end Go.Proofs.YtabgklcghghoiaaGreat

/- log's own heads: padded, bytes; within, room, last, appended, switched. -/
namespace Go.Proofs.YtabgklcghghoiaaGreat
open Go.RowKit Go.ChangeShapes
set_option linter.unusedVariables false

/-- The bytes of numbers. -/
def numsB (N : List Nat) : List UInt8 := (N.map (numBytes 5)).flatten
theorem numsB_take_succ (N : List Nat) (k : Nat) (h : k < N.length) : numsB (N.take (k + 1)) = numsB (N.take k) ++ numBytes 5 N[k] := by
  rw [numsB, numsB, List.take_succ_eq_append_getElem h, List.map_append, List.flatten_append]
  simp
theorem numsB_len (N : List Nat) : (numsB N).length ≤ 6 * N.length := by
  induction N with
  | nil => simp [numsB]
  | cons a N ih =>
    have := (numBytes_len 5 a).2
    simp only [numsB, List.map_cons, List.flatten_cons, List.length_append, List.length_cons] at ih ⊢
    omega
theorem Hd.bytes_eq (h : Hd) : h.bytes = numsB [h.area, h.size, h.used, h.round] := by simp [Hd.bytes, numsB]

set_option maxRecDepth 100000 in
set_option maxHeartbeats 1000000 in
/-- Num of some numbers. -/
theorem makerNums_any {F : Nat → Prop} {b s : Nat} {N : List Nat} (w : World) (hF : ∀ k, w.heap.size ≤ k → F k) (hm : MakAt F w b (some [])) (hs : ∀ i (h : i < N.length), w.cell? ⟨s, i, none⟩ = some (.int .i64 (N[i] : Nat))) (hsF : ¬ F s) (hN : ∀ n ∈ N, n ≤ 1099511627776) (hl : N.length ≤ 100) :
    Calls Tryz.prog 103 #[.pointer (some ⟨b, 0, none⟩), .slice (some ⟨s, 0, none⟩) N.length N.length] w fun r w' => r = .returned (.pointer (some ⟨b, 0, none⟩)) ∧ Fr F w w' ∧ MakAt F w' b (some (numsB N)) := by
  have H := Lib.hid (And.intro hF (And.intro hm (And.intro hs (And.intro hsF hN))))
  obtain ⟨l, hll⟩ : ∃ l, l = N.length := ⟨_, rfl⟩
  rw [← hll] at hl ⊢
  have HL := Lib.hid hll
  clear hF hm hs hsF hN hll
  go_enter Tryz.func103, Tryz.ntmps103
  go_wp2
  go_loopw [11] (fun iv wr => ∃ k : Nat, k ≤ l ∧ iv = .int .i64 k ∧ Hid (Fr F w wr ∧ MakAt F wr b (some (numsB (N.take k))))) (fun iv _ => l - (intOf iv).toNat)
  case atStart => exact ⟨0, by omega, rfl, Lib.hid ⟨Fr.refl _ _, H.out.2.1⟩⟩
  case round =>
    obtain ⟨k, hk, rfl, hR⟩ := hrel
    by_cases hlt : k < l
    · have hkN : k < N.length := by rw [← HL.out]; exact hlt
      obtain ⟨x, hx⟩ : ∃ x, x = N[k] := ⟨_, rfl⟩
      have hc := hR.out.1.cell (H.out.2.2.1 k hkN) H.out.2.2.2.1
      rw [← hx] at hc
      have HNX := Lib.hid (number_any x wr (H.out.2.2.2.2 x (by rw [hx]; exact List.getElem_mem _)) (fun j hj => H.out.1 j (Nat.le_trans hR.out.1.size hj)) hR.out.2 (fun L hL => by
        cases hL
        have h1 := numsB_len (N.take k)
        rw [List.length_take] at h1
        omega))
      have HS := Lib.hid (numsB_take_succ N k hkN)
      rw [← hx] at HS
      have hk0 : (0 : Int) ≤ (k : Int) := by omega
      have hk1 : (k : Int) < (l : Int) := by omega
      clear hx hkN
      go_wp2_with (go_at_call 93; refine HNX.out.mono ?_; rintro e w1 ⟨rfl, hf1, hM1⟩; (have H1 := Lib.hid (show Fr F w w1 ∧ MakAt F w1 b (some (numsB (N.take (k + 1)))) by rw [HS.out]; exact ⟨hR.out.1.trans hf1 (fun _ h => .inl h), hM1⟩)); clear hf1 hM1)
      go_roundw
      case rel => exact ⟨k + 1, by omega, by go_num, H1⟩
      case measure => simp [intOf]; omega
    · obtain rfl : k = l := by omega
      have HQ := Lib.hid (show Fr F w wr ∧ MakAt F wr b (some (numsB N)) by have h := hR.out; rw [List.take_of_length_le (by rw [← HL.out]; exact Nat.le_refl _)] at h; exact h)
      clear hR
      go_wp2
      go_ret
      exact ⟨rfl, HQ.out⟩

theorem OwnB.ofBlock {F : Nat → Prop} {w : World} {g n : Nat} {L : List UInt8} (h : BytT w g 5 L) (hl : L.length = n) (hn : n ≤ 1000000) (hF : F g) : OwnB F w (.slice (some ⟨g, 0, none⟩) n n) L := by
  subst hl
  refine ⟨⟨by simp, .inr ⟨g, L.length, (L.map bv).toArray, rfl, Nat.zero_le _, h, Nat.le_refl _, by unfold maxLen; omega, by simp, by simp [List.take_of_length_le]⟩⟩, fun k hk => ?_⟩
  simp only [Value.ownBlock, Option.some.injEq] at hk
  exact hk ▸ hF
set_option maxRecDepth 100000 in
set_option maxHeartbeats 1000000 in
theorem lPadded_any (w : World) (s : Nat) (N : List Nat) (hs : ∀ i (h : i < N.length), w.cell? ⟨s, i, none⟩ = some (.int .i64 (N[i] : Nat))) (hsl : s < w.heap.size) (hN : ∀ n ∈ N, n ≤ 1099511627776) (hl : N.length ≤ 10) (hb : (numsB N).length ≤ 64) :
    Calls Tryz.prog 81 #[.slice (some ⟨s, 0, none⟩) N.length N.length] w fun e w' => ∃ v, e = .returned v ∧ OwnB (fun k => w.heap.size ≤ k) w' v (full64 (numsB N)) ∧ Fr (fun _ => False) w w' := by
  have hmk := fun w : World => run_make_bytes w 64 64 rfl (by decide)
  obtain ⟨Z, hZ⟩ : ∃ Z, Z = ((List.replicate 64 (0 : UInt8)).map bv).toArray := ⟨_, rfl⟩
  obtain ⟨W1, hW1⟩ : ∃ W1, W1 = w.alloc (.cells Z 5) := ⟨_, rfl⟩
  obtain ⟨W2, hW2⟩ : ∃ W2, W2 = W1.alloc (.cells #[.pointer none, .int .i64 0, .bool false] 93) := ⟨_, rfl⟩
  rw [← hZ] at hmk
  have hf1 : Fr (fun _ => False) w W1 := by rw [hW1]; exact (Fr.refl _ _).alloc _
  have hf2 : Fr (fun _ => False) w W2 := by rw [hW2]; exact hf1.alloc _
  have hz1 : W1.heap.size = w.heap.size + 1 := by rw [hW1]; simp
  have hz2 : W2.heap.size = w.heap.size + 2 := by rw [hW2]; simp [hz1]
  have hB1 : BytT W1 w.heap.size 5 (List.replicate 64 0) := by rw [hW1, hZ]; exact heap_alloc_new w _
  have hB2 : BytT W2 w.heap.size 5 (List.replicate 64 0) := by rw [hW2]; exact hB1.keep ((Fr.refl (fun _ => False) W1).alloc _) id
  have hm : MakAt (fun k => w.heap.size + 1 ≤ k) W2 (w.heap.size + 1) (some []) := ⟨Nat.le_refl _, 93, .inl ⟨rfl, by rw [hW2, ← hz1]; exact heap_alloc_new W1 _⟩⟩
  have HNUM := Lib.hid (makerNums_any W2 (fun k hk => by omega) hm (fun i h => hf2.cell (hs i h) id) (by omega) hN (by omega))
  have HB2 := Lib.hid hB2
  have HW := Lib.hid (And.intro hW1 (And.intro hW2 hf2))
  have HL := Lib.hid hb
  obtain ⟨l, hll⟩ : ∃ l, l = N.length := ⟨_, rfl⟩
  rw [← hll] at HNUM ⊢
  clear hs hsl hN hl hb hf1 hf2 hz1 hz2 hB1 hB2 hm hZ hW1 hW2 hll
  go_enter Tryz.func81, Tryz.ntmps81
  go_wp2_with (first
    | (go_at_call 103; rw [← HW.out.1, ← HW.out.2.1]; refine HNUM.out.mono ?_; rintro e w1 ⟨rfl, hf1, hm1⟩; (have H1 := Lib.hid (And.intro hf1 hm1)); clear hf1 hm1)
    | (go_at_call 49; refine (done_yes w1 H1.out.2 (by have := HL.out; omega)).mono ?_; rintro e w2 ⟨v, rfl, hf2, ho2⟩; (have H2 := Lib.hid (And.intro (H1.out.1.trans hf2 (fun _ h => h.elim)) ho2)); (have HZ := Lib.hid (HB2.out.keep H2.out.1 (by omega))); clear hf2 ho2)
    | (refine wpList_copy_full (G := fun k => w1.heap.size ≤ k) w2 rfl (.tmp 15) (.tmp 16) rfl w.heap.size v (numsB N) rfl rfl HZ.out H2.out.2.bytes HL.out ?_; intro v2 w3 hb3 hf3; (have H3 := Lib.hid (And.intro hb3 hf3)); clear hb3 hf3))
  go_ret
  exact ⟨_, rfl, OwnB.ofBlock H3.out.1 (full64_length _ HL.out) (by decide) (Nat.le_refl _), (HW.out.2.2.trans H2.out.1 (fun k h => .inr (by omega))).trans H3.out.2 (fun k h => .inr (by rw [show k = _ from h]; exact Nat.le_refl _))⟩

/-- A head's numbers are numbers. -/
structure Hd.Num (h : Hd) : Prop where
  area : h.area ≤ 1099511627776
  size : h.size ≤ 1099511627776
  used : h.used ≤ 1099511627776
  round : h.round ≤ 1099511627776
theorem Hd.Right.num {h : Hd} {L A : Nat} (r : h.Right L A) (hL : L ≤ 8192) (hA : A ≤ 8192) : h.Num := by
  have := r.area; have := r.size; have := r.used; have := r.round
  exact ⟨by omega, by omega, by omega, by omega⟩
set_option maxRecDepth 100000 in
set_option maxHeartbeats 1000000 in
theorem lBytes_any (w : World) (h : Hd) (hn : h.Num) :
    Calls Tryz.prog 58 #[.agg #[.int .i64 h.area, .int .i64 h.size, .int .i64 h.used, .int .i64 h.round]] w fun e w' => ∃ v, e = .returned v ∧ OwnB (fun k => w.heap.size ≤ k) w' v h.sec ∧ Fr (fun _ => False) w w' := by
  obtain ⟨W1, hW1⟩ : ∃ W1, W1 = w.alloc (.cells #[.int .i64 h.area, .int .i64 h.size, .int .i64 h.used, .int .i64 h.round] 71) := ⟨_, rfl⟩
  obtain ⟨W2, hW2⟩ : ∃ W2, W2 = W1.alloc (.cells #[.int .i64 h.area, .int .i64 h.size, .int .i64 h.used, .int .i64 h.round] 3) := ⟨_, rfl⟩
  have hf1 : Fr (fun _ => False) w W1 := by rw [hW1]; exact (Fr.refl _ _).alloc _
  have hf2 : Fr (fun _ => False) w W2 := by rw [hW2]; exact hf1.alloc _
  have hz1 : W1.heap.size = w.heap.size + 1 := by rw [hW1]; simp
  have hz2 : W2.heap.size = w.heap.size + 2 := by rw [hW2]; simp [hz1]
  have hrow : W2.heap[w.heap.size + 1]? = some (.cells #[.int .i64 h.area, .int .i64 h.size, .int .i64 h.used, .int .i64 h.round] 3 (0, 0)) := by rw [hW2, ← hz1]; exact heap_alloc_new W1 _
  have hp := lPadded_any W2 (w.heap.size + 1) [h.area, h.size, h.used, h.round] (fun i hi => by
    rw [cell_of_row _ _ _ _ _ _ hrow]
    match i, hi with
    | 0, _ => rfl
    | 1, _ => rfl
    | 2, _ => rfl
    | 3, _ => rfl) (by omega) (fun n hm => by
      simp only [List.mem_cons, List.not_mem_nil, or_false] at hm
      have := hn.area; have := hn.size; have := hn.used; have := hn.round
      rcases hm with rfl | rfl | rfl | rfl <;> assumption) (by simp) (by rw [← Hd.bytes_eq]; have := h.bytes_le; omega)
  rw [← Hd.bytes_eq] at hp
  have HP := Lib.hid hp
  have HW := Lib.hid (And.intro hW1 (And.intro hW2 (And.intro hf2 hz2)))
  obtain ⟨x1, hx1⟩ : ∃ x, x = h.area := ⟨_, rfl⟩
  obtain ⟨x2, hx2⟩ : ∃ x, x = h.size := ⟨_, rfl⟩
  obtain ⟨x3, hx3⟩ : ∃ x, x = h.used := ⟨_, rfl⟩
  obtain ⟨x4, hx4⟩ : ∃ x, x = h.round := ⟨_, rfl⟩
  rw [← hx1, ← hx2, ← hx3, ← hx4] at HW ⊢
  clear hf1 hf2 hz1 hz2 hrow hp hW1 hW2 hn hx1 hx2 hx3 hx4
  go_enter Tryz.func58, Tryz.ntmps58
  go_wp2_with (first
    | (go_at_call 81; rw [← HW.out.1, ← HW.out.2.1]; refine HP.out.mono ?_; rintro e w1 ⟨v, rfl, ho1, hf1⟩; (have H1 := Lib.hid (And.intro ho1 hf1)); clear ho1 hf1))
  go_ret
  exact ⟨_, rfl, H1.out.1.mono (fun k _ hk => by have := HW.out.2.2.2; omega), HW.out.2.2.1.trans H1.out.2 (fun _ h => h.elim)⟩
theorem lRoom_any (w : World) (h : Hd) (l la d : Nat) (hl : l ≤ 8192) (hu : h.used ≤ 64 * l) :
    Calls Tryz.prog 42 #[.agg #[.int .i64 h.area, .int .i64 h.size, .int .i64 h.used, .int .i64 h.round], .agg #[.int .i64 l, .int .i64 la, .int .i64 d]] w fun e w' => e = .returned (.int .i64 ((64 * l - h.used : Nat) : Int)) ∧ Fr (fun _ => False) w w' := by
  obtain ⟨x3, hx3⟩ : ∃ x, x = h.used := ⟨_, rfl⟩
  rw [← hx3] at hu ⊢
  clear hx3
  go_enter Tryz.func42, Tryz.ntmps42
  go_wp2
  go_ret
  exact ⟨ret_int (a := (l : Int) * 64 - (x3 : Int)) (by omega), ((Fr.refl _ _).alloc _).alloc _⟩
theorem lLast_any (w : World) (h : Hd) (b : Bool) (hb : decide (1099511627776 ≤ h.round) = b) :
    Calls Tryz.prog 44 #[.agg #[.int .i64 h.area, .int .i64 h.size, .int .i64 h.used, .int .i64 h.round]] w fun e w' => e = .returned (.bool b) ∧ Fr (fun _ => False) w w' := by
  obtain ⟨x3, hx3⟩ : ∃ x, x = h.round := ⟨_, rfl⟩
  rw [← hx3] at hb ⊢
  clear hx3
  have hb2 : decide (1099511627776 ≤ (x3 : Int)) = b := by rw [← hb]; exact decide_eq_decide.2 (by omega)
  clear hb
  cases b
  · have h2 : ¬ (1099511627776 ≤ (x3 : Int)) := by simpa using hb2
    clear hb2
    go_enter Tryz.func44, Tryz.ntmps44
    go_wp2
    go_ret
    exact ⟨rfl, (Fr.refl _ _).alloc _⟩
  · have h2 : 1099511627776 ≤ (x3 : Int) := by simpa using hb2
    clear hb2
    go_enter Tryz.func44, Tryz.ntmps44
    go_wp2
    go_ret
    exact ⟨rfl, (Fr.refl _ _).alloc _⟩
end Go.Proofs.YtabgklcghghoiaaGreat

