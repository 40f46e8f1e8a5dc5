/- Laid together by merge.py: Maker2 Maker3 Mark FlatLib -/
import Derived.Test.YtiinmilfgclddaaGreatTr9
import Derived.Test.YtiinmilfgclddaaGreatTr1
import Derived.Deep.LoopGhost
import Derived.Test.YtiinmilfgclddaaGreatTr0
import Derived.ArgAppend

/- Contracts of code.Maker: put in any state, numbers, texts. -/
namespace Go.Proofs.YtiinmilfgclddaaGreat
open Go.RowKit Go.ChangeShapes
set_option linter.unusedVariables false

theorem put_broken {b : Nat} {T : TypeId} {y x : Value} {o : Int} (w : World) (hb : w.heap[b]? = some (.cells #[y, .int .i64 o, .bool true] T (0, 0))) :
    Calls Tryz.prog 140 #[.pointer (some ⟨b, 0, none⟩), x] w fun r w' => r = .returned (.tuple #[]) ∧ w = w' := by
  obtain ⟨c0, c1, c2, f0, f1, f2⟩ := mak_cells hb
  clear hb
  go_enter Tryz.func140, Tryz.ntmps140
  go_wp2
  refine bodyPost_ret (results_none rfl _ _ _) rfl ?_
  exact ⟨rfl, rfl⟩

theorem put_any {F G : Nat → Prop} {b : Nat} {x : Value} {X : List UInt8} {m : Option (List UInt8)} (w : World) (hF : ∀ k, w.heap.size ≤ k → F k) (hG : ∀ k, G k → ¬ F k)
    (hm : MakAt F w b m) (hx : BytesIn G w x X) (hlen : ∀ L, m = some L → L.length + X.length ≤ 140737488355328) :
    Calls Tryz.prog 140 #[.pointer (some ⟨b, 0, none⟩), x] w fun r w' => r = .returned (.tuple #[]) ∧ Fr F w w' ∧ MakAt F w' b (m.map (· ++ X)) := by
  obtain ⟨h1, T, h2⟩ := id hm
  cases m with
  | none =>
    obtain ⟨hv, o, h3⟩ := h2
    exact (put_broken w h3).mono fun r w' ⟨hr, hw⟩ => ⟨hr, hw ▸ Fr.refl _ _, hw ▸ hm⟩
  | some L =>
    have hl := hlen L rfl
    rcases h2 with ⟨rfl, h4⟩ | ⟨h, sv, hne, hFh, h5, h6, h7⟩
    · exact put_fresh w hF hG h4 h1 hx (by simpa using hl)
    · exact put_held w hF h5 h6 hne h1 hFh h7 hx hl

theorem spoil_any {F : Nat → Prop} {b : Nat} {m : Option (List UInt8)} (w : World) (hm : MakAt F w b m) :
    Calls Tryz.prog 139 #[.pointer (some ⟨b, 0, none⟩)] w fun r w' => r = .returned (.tuple #[]) ∧ Fr F w w' ∧ MakAt F w' b none := by
  obtain ⟨h1, T, h2⟩ := id hm
  obtain ⟨x, y, z, hb⟩ : ∃ x y z, w.heap[b]? = some (.cells #[x, y, z] T (0, 0)) := by
    cases m with
    | none => obtain ⟨hv, o, h3⟩ := h2; exact ⟨_, _, _, h3⟩
    | some L => rcases h2 with ⟨rfl, h4⟩ | ⟨h, sv, hne, hFh, h5, h6, h7⟩; exact ⟨_, _, _, h4⟩; exact ⟨_, _, _, h5⟩
  obtain ⟨c0, c1, c2, f0, f1, f2⟩ := mak_cells hb
  clear h2 hm
  go_enter Tryz.func139, Tryz.ntmps139
  go_wp2
  go_end0
  refine ⟨rfl, (((Fr.refl F w).setCell (p := ⟨b, 0, none⟩) (.inl h1) _).setCell (p := ⟨b, 1, none⟩) (.inl h1) _).setCell (p := ⟨b, 2, none⟩) (.inl h1) _, h1, T, .pointer none, 0, ?_⟩
  have := heap_setCell_at (i := 2) (.bool true) (heap_setCell_at (i := 1) (.int .i64 0) (heap_setCell_at (i := 0) (.pointer none) hb))
  simpa using this

theorem one_byte (w : World) (z : Int) (x : UInt8) (hz : z = x.toNat) : BytesIn (fun k => k = w.heap.size) (w.alloc (.cells #[.int .u8 z] 5)) (.slice (some ⟨w.heap.size, 0, none⟩) 1 1) [x] := by
  subst hz
  refine ⟨_, 1, rfl, Nat.le_refl _, by simp [maxLen], (fun h => by cases h), ?_⟩
  intro a ha
  cases ha
  refine ⟨fun j u hu => ?_, fun _ => rfl⟩
  match j, hu with
  | 0, hu =>
    simp at hu
    subst hu
    have := heap_alloc_new w (.cells #[bv x] 5)
    simp only [Addr.add, if_true]
    exact cell_of_one this

/-- A put of bytes that lie in one new block. -/
theorem put_new {F : Nat → Prop} {b : Nat} {x : Value} {X : List UInt8} {m : Option (List UInt8)} (w : World) (o : Obj) (hF : ∀ k, w.heap.size ≤ k → F k)
    (hm : MakAt F w b m) (hx : BytesIn (fun k => k = w.heap.size) (w.alloc o) x X) (hlen : ∀ L, m = some L → L.length + X.length ≤ 140737488355328) :
    Calls Tryz.prog 140 #[.pointer (some ⟨b, 0, none⟩), x] (w.alloc o) fun r w' => r = .returned (.tuple #[]) ∧ Fr F w w' ∧ MakAt F w' b (m.map (· ++ X)) := by
  have h1 : MakAt (fun k => F k ∧ k ≠ w.heap.size) (w.alloc o) b m := (hm.mono (fun k hk h => ⟨h, by omega⟩)).keep (S := fun _ => False) ((Fr.refl _ _).alloc o) (fun _ _ _ h => h)
  refine (put_any (F := fun k => F k ∧ k ≠ w.heap.size) (w.alloc o) (fun k hk => ⟨hF k ?_, ?_⟩) (fun k hk h => h.2 hk) h1 hx hlen).mono fun r w' ⟨hr, hf, hM⟩ => ⟨hr, ?_, hM.mono fun k _ h => h.1⟩
  · simp at hk; omega
  · simp at hk; omega
  · exact ((Fr.refl F w).alloc o).trans hf (fun i hi => .inl hi.1)

theorem map_app (m : Option (List UInt8)) (P X : List UInt8) : (m.map (· ++ P)).map (· ++ X) = m.map (· ++ (P ++ X)) := by
  cases m <;> simp

theorem number_any {F : Nat → Prop} {b : Nat} {m : Option (List UInt8)} (n : Nat) (w : World) (hn : n ≤ 1099511627776) (hF : ∀ k, w.heap.size ≤ k → F k)
    (hm : MakAt F w b m) (hlen : ∀ L, m = some L → L.length + 6 ≤ 140737488355328) :
    Calls Tryz.prog 111 #[.pointer (some ⟨b, 0, none⟩), .int .i64 n] w fun r w' => r = .returned (.tuple #[]) ∧ Fr F w w' ∧ MakAt F w' b (m.map (· ++ numBytes 5 n)) := by
  have hb : isNumB (n : Int) = true := isNumB_yes (by omega) (by omega)
  go_enter Tryz.func111, Tryz.ntmps111
  go_wp2_with (go_at_call 138; refine (isNum_any _ _).mono ?_; rintro e w' ⟨rfl, rfl⟩)
  go_step3
  go_wp2_with (go_at_call 138; refine (isNum_any _ _).mono ?_; rintro e w' ⟨rfl, rfl⟩)
  go_step3
  go_wp2
  have HF := Lib.hid hF
  have HM := Lib.hid hm
  have HL := Lib.hid hlen
  clear hF hm hlen hb
  go_loopg [1] 5 (fun i v wr => ∃ (r : Nat) (P : List UInt8), v = .int .i64 r ∧ Hid (r < 128 ^ (i + 1)) ∧ r ≤ 1099511627776 ∧ Hid (P ++ numBytes i r = numBytes 5 n) ∧ P.length + i ≤ 5 ∧ Hid (MakAt F wr b (m.map (· ++ P))) ∧ Hid (Fr F w wr))
  case atStart => exact ⟨n, [], rfl, Lib.hid (by omega), hn, Lib.hid rfl, by simp, Lib.hid (by simpa using HM.out), Lib.hid (Fr.refl _ _)⟩
  case round =>
    obtain ⟨r, P, rfl, hr, hrn, hP, hPl, hM, hFr⟩ := hrel
    clear HM
    obtain ⟨y, e1, hy⟩ : ∃ y : Nat, bits .and .i64 (r : Int) 127 = (y : Int) ∧ y = r % 128 := ⟨_, i64_and127 r (by omega), rfl⟩
    have hy1 : y < 128 := by omega
    have HY := Lib.hid hy
    clear hy
    by_cases hlt : r < 128
    · have hPE := Lib.hid (show P ++ [UInt8.ofNat y] = numBytes 5 n by
        rw [← hP.out, HY.out, Nat.mod_eq_of_lt hlt]
        cases gk with
        | zero => rfl
        | succ k => rw [numBytes, if_pos hlt])
      have hq : ((r : Int) / 128 == 0) = true := by rw [beq_iff_eq]; omega
      clear hP hr
      have hx : (y : Int) = ((UInt8.ofNat y).toNat : Int) := by rw [UInt8.toNat_ofNat']; omega
      have HP := Lib.hid (put_new (x := .slice (some ⟨wr.heap.size, 0, none⟩) 1 1) wr (.cells #[.int .u8 (y : Int)] 5) (fun k hk => HF.out k (Nat.le_trans hFr.out.size hk)) hM.out (one_byte wr _ _ hx) (by intro L' hL'; obtain ⟨L0, hL0, rfl⟩ := Option.map_eq_some_iff.1 hL'; have := HL.out L0 hL0; simp; omega))
      clear hx
      go_wp2_with (go_at_call 140; refine HP.out.mono ?_; rintro e w1 ⟨rfl, hf1, hM1⟩; have H1 := Lib.hid hf1; have H2 := Lib.hid hM1; clear hf1 hM1)
      rw [Exit.noGoto_normal]
      go_end0
      exact ⟨rfl, hFr.out.trans H1.out (fun i hi => .inl hi), by have := H2.out; rw [map_app, hPE.out] at this; exact this⟩
    · have hP' : gk ≠ 0 := by rintro rfl; have := hr.out; omega
      obtain ⟨k, rfl⟩ : ∃ k, gk = k + 1 := ⟨gk - 1, by omega⟩
      have hPE := Lib.hid (show (P ++ [UInt8.ofNat (y + 128)]) ++ numBytes k (r / 128) = numBytes 5 n by
        rw [← hP.out, HY.out, numBytes, if_neg hlt]; simp)
      have hr1 := Lib.hid (show r / 128 < 128 ^ (k + 1) by have := hr.out; rw [Nat.pow_succ] at this; omega)
      have hq : ((r : Int) / 128 == 0) = false := by rw [beq_eq_false_iff_ne]; omega
      have e4 := u8_or128 y hy1
      clear hP hr
      have hx : ((y : Int) + 128) = ((UInt8.ofNat (y + 128)).toNat : Int) := by rw [UInt8.toNat_ofNat']; omega
      have HP := Lib.hid (put_new (x := .slice (some ⟨wr.heap.size, 0, none⟩) 1 1) wr (.cells #[.int .u8 ((y : Int) + 128)] 5) (fun k hk => HF.out k (Nat.le_trans hFr.out.size hk)) hM.out (one_byte wr _ _ hx) (by intro L' hL'; obtain ⟨L0, hL0, rfl⟩ := Option.map_eq_some_iff.1 hL'; have := HL.out L0 hL0; simp; omega))
      clear hx
      go_wp2_with (go_at_call 140; refine HP.out.mono ?_; rintro e w1 ⟨rfl, hf1, hM1⟩; have H1 := Lib.hid hf1; have H2 := Lib.hid hM1; clear hf1 hM1)
      go_roundg k
      case measure => omega
      case rel => exact ⟨r / 128, P ++ [UInt8.ofNat (y + 128)], by go_num, hr1, by omega, hPE, by simp; omega, Lib.hid (by have := H2.out; rw [map_app] at this; exact this), Lib.hid (hFr.out.trans H1.out (fun i hi => .inl hi))⟩

theorem number_bad {F : Nat → Prop} {b : Nat} {m : Option (List UInt8)} (n : Int) (w : World) (hn : n < 0 ∨ 1099511627776 < n) (hm : MakAt F w b m) :
    Calls Tryz.prog 111 #[.pointer (some ⟨b, 0, none⟩), .int .i64 n] w fun r w' => r = .returned (.tuple #[]) ∧ Fr F w w' ∧ MakAt F w' b none := by
  have hb : isNumB n = false := isNumB_no hn
  clear hn
  go_enter Tryz.func111, Tryz.ntmps111
  go_step3
  go_wp2_with (first
    | (go_at_call 138; refine (isNum_any _ _).mono ?_; rintro e w' ⟨rfl, rfl⟩)
    | (go_at_call 139; refine (spoil_any _ hm).mono ?_; rintro e w1 ⟨rfl, hf1, hM1⟩; have H1 := Lib.hid hf1; have H2 := Lib.hid hM1; clear hf1 hM1))
  rw [Exit.noGoto_ret]
  refine bodyPost_ret (results_none rfl _ _ _) rfl ?_
  exact ⟨rfl, H1.out, H2.out⟩

/-- What number does to a maker. -/
def mkNum (n : Int) (m : Option (List UInt8)) : Option (List UInt8) := if 0 ≤ n ∧ n ≤ 1099511627776 then m.map (· ++ numBytes 5 n.toNat) else none
/-- What text does to a maker. -/
def mkText (X : List UInt8) (m : Option (List UInt8)) : Option (List UInt8) := if X.length ≤ 1048576 then m.map (· ++ (numBytes 5 X.length ++ X)) else none

theorem number_all {F : Nat → Prop} {b : Nat} {m : Option (List UInt8)} (n : Int) (w : World) (hF : ∀ k, w.heap.size ≤ k → F k)
    (hm : MakAt F w b m) (hlen : ∀ L, m = some L → L.length + 6 ≤ 140737488355328) :
    Calls Tryz.prog 111 #[.pointer (some ⟨b, 0, none⟩), .int .i64 n] w fun r w' => r = .returned (.tuple #[]) ∧ Fr F w w' ∧ MakAt F w' b (mkNum n m) := by
  by_cases h : 0 ≤ n ∧ n ≤ 1099511627776
  · obtain ⟨k, rfl⟩ := Int.eq_ofNat_of_zero_le h.1
    rw [mkNum, if_pos h]
    exact number_any k w (by omega) hF hm hlen
  · rw [mkNum, if_neg h]
    exact number_bad n w (by omega) hm

theorem text_any {F G : Nat → Prop} {b : Nat} {x : Value} {X : List UInt8} {m : Option (List UInt8)} (w : World) (hF : ∀ k, w.heap.size ≤ k → F k) (hG : ∀ k, G k → ¬ F k)
    (hm : MakAt F w b m) (hx : BytesIn G w x X) (hlen : ∀ L, m = some L → L.length + 6 + X.length ≤ 140737488355328) :
    Calls Tryz.prog 136 #[.pointer (some ⟨b, 0, none⟩), x] w fun r w' => r = .returned (.tuple #[]) ∧ Fr F w w' ∧ MakAt F w' b (mkText X m) := by
  obtain ⟨ao, cap, rfl, hl, hmx, _⟩ := id hx
  unfold maxLen at hmx
  by_cases h : X.length ≤ 1048576
  · rw [mkText, if_pos h]
    have HN := Lib.hid (number_any X.length w (by omega) hF hm (fun L hL => by have := hlen L hL; omega))
    have HX := Lib.hid hx
    have HF := Lib.hid hF
    have HL := Lib.hid hlen
    have hnl := numBytes_len 5 X.length
    have HNL := Lib.hid hnl
    have HG := Lib.hid hG
    clear hx hF hlen hm hnl hG
    go_enter Tryz.func136, Tryz.ntmps136
    go_wp2_with (go_at_call 111; refine HN.out.mono ?_; rintro e w1 ⟨rfl, hf1, hM1⟩; have H1 := Lib.hid hf1; have H2 := Lib.hid hM1; clear hf1 hM1)
    refine (put_any (F := F) (G := G) w1 (fun k hk => HF.out k (Nat.le_trans H1.out.size hk)) HG.out H2.out (HX.out.keep H1.out (fun k _ => HG.out k)) ?_).mono ?_
    · intro L' hL'
      obtain ⟨L0, hL0, rfl⟩ := Option.map_eq_some_iff.1 hL'
      have := HL.out L0 hL0
      have := HNL.out.2
      simp
      omega
    · rintro e w2 ⟨rfl, hf2, hM2⟩
      have H3 := Lib.hid hf2
      have H4 := Lib.hid hM2
      clear hf2 hM2
      go_wp2
      go_end0
      exact ⟨rfl, H1.out.trans H3.out (fun i hi => .inl hi), by have := H4.out; rw [map_app] at this; exact this⟩
  · rw [mkText, if_neg h]
    have HS := Lib.hid (spoil_any w hm)
    clear hx hF hlen hm hG
    go_enter Tryz.func136, Tryz.ntmps136
    go_wp2_with (go_at_call 139; refine HS.out.mono ?_; rintro e w1 ⟨rfl, hf1, hM1⟩; have H1 := Lib.hid hf1; have H2 := Lib.hid hM1; clear hf1 hM1)
    refine bodyPost_ret (results_none rfl _ _ _) rfl ?_
    exact ⟨rfl, H1.out, H2.out⟩

end Go.Proofs.YtiinmilfgclddaaGreat

/- Contracts of code.Maker's own calls: Num, Raw, Text (of one each), Done. -/
namespace Go.Proofs.YtiinmilfgclddaaGreat
open Go.RowKit Go.ChangeShapes
set_option linter.unusedVariables false

theorem mkNum_len (n : Int) (m : Option (List UInt8)) : ∀ L, mkNum n m = some L → ∃ L0, m = some L0 ∧ L.length ≤ L0.length + 6 := by
  intro L h
  unfold mkNum at h
  split at h
  · obtain ⟨L0, hL0, rfl⟩ := Option.map_eq_some_iff.1 h
    have := (numBytes_len 5 n.toNat).2
    exact ⟨L0, hL0, by simp; omega⟩
  · cases h

/-- Num of one number. -/
theorem makerNum_any {F : Nat → Prop} {b s : Nat} {m : Option (List UInt8)} (n : Int) (w : World) (hF : ∀ k, w.heap.size ≤ k → F k)
    (hm : MakAt F w b m) (hs : w.cell? ⟨s, 0, none⟩ = some (.int .i64 n)) (hlen : ∀ L, m = some L → L.length + 6 ≤ 140737488355328) :
    Calls Tryz.prog 79 #[.pointer (some ⟨b, 0, none⟩), .slice (some ⟨s, 0, none⟩) 1 1] w fun r w' => r = .returned (.pointer (some ⟨b, 0, none⟩)) ∧ Fr F w w' ∧ MakAt F w' b (mkNum n m) := by
  have HN := Lib.hid (number_all n w hF hm hlen)
  clear hF hm hlen
  go_enter Tryz.func79, Tryz.ntmps79
  go_wp2
  refine wp_loop_rounds 2 ?_
  rw [rounds_succ]
  go_wp2_with (go_at_call 111; refine HN.out.mono ?_; rintro e w1 ⟨rfl, hf1, hM1⟩; have H1 := Lib.hid hf1; have H2 := Lib.hid hM1; clear hf1 hM1)
  rw [rounds_succ]
  go_wp2
  go_ret
  exact ⟨rfl, H1.out, H2.out⟩

/-- Text of one text. -/
theorem makerText_any {F G : Nat → Prop} {b s : Nat} {x : Value} {X : List UInt8} {m : Option (List UInt8)} (w : World) (hF : ∀ k, w.heap.size ≤ k → F k) (hG : ∀ k, G k → ¬ F k)
    (hm : MakAt F w b m) (hs : w.cell? ⟨s, 0, none⟩ = some x) (hx : BytesIn G w x X) (hlen : ∀ L, m = some L → L.length + 6 + X.length ≤ 140737488355328) :
    Calls Tryz.prog 105 #[.pointer (some ⟨b, 0, none⟩), .slice (some ⟨s, 0, none⟩) 1 1] w fun r w' => r = .returned (.pointer (some ⟨b, 0, none⟩)) ∧ Fr F w w' ∧ MakAt F w' b (mkText X m) := by
  have HN := Lib.hid (text_any w hF hG hm hx hlen)
  obtain ⟨ao, cap, rfl, _⟩ := hx
  clear hF hG hm hlen
  go_enter Tryz.func105, Tryz.ntmps105
  go_wp2
  refine wp_loop_rounds 2 ?_
  rw [rounds_succ]
  go_wp2_with (go_at_call 136; refine HN.out.mono ?_; rintro e w1 ⟨rfl, hf1, hM1⟩; have H1 := Lib.hid hf1; have H2 := Lib.hid hM1; clear hf1 hM1)
  rw [rounds_succ]
  go_wp2
  go_ret
  exact ⟨rfl, H1.out, H2.out⟩

/-- Done of a maker that holds. -/
theorem done_yes {F : Nat → Prop} {b : Nat} {L : List UInt8} (w : World) (hm : MakAt F w b (some L)) (hlen : L.length ≤ 140737488355328) :
    Calls Tryz.prog 80 #[.pointer (some ⟨b, 0, none⟩)] w fun r w' => ∃ v, r = .returned (.tuple #[v, .int .i64 0]) ∧ Fr (fun _ => False) w w' ∧ OwnB (fun k => w.heap.size ≤ k) w' v L := by
  obtain ⟨h1, T, h2⟩ := hm
  rcases h2 with ⟨rfl, h4⟩ | ⟨h, sv, hne, hFh, h5, h6, h7⟩
  · obtain ⟨c0, c1, c2, f0, f1, f2⟩ := mak_cells h4
    go_enter Tryz.func80, Tryz.ntmps80
    go_wp2_with (first
      | (go_at_call 112; refine (gathered_nil _ (by exact h4)).mono ?_; rintro e w' ⟨rfl, rfl⟩)
      | (go_at_call 45; refine (clone_nil _).mono ?_; rintro e w' ⟨rfl, rfl⟩))
    go_ret2
    exact ⟨_, rfl, Fr.refl _ _, OwnB.nil _ _⟩
  · obtain ⟨c0, c1, c2, f0, f1, f2⟩ := mak_cells h5
    have HG := Lib.hid (gathered_held w h5 h6 h7)
    clear h5 h6 h7
    go_enter Tryz.func80, Tryz.ntmps80
    go_wp2_with (first
      | (go_at_call 112; refine HG.out.mono ?_; rintro e w' ⟨v, rfl, ⟨k, rfl⟩, hB⟩; have HB := Lib.hid hB; clear hB)
      | (go_at_call 45; refine (clone_any _ (HB.out.drewN k) hlen).mono ?_; rintro e w2 ⟨v2, rfl, hf2, hO⟩; have H1 := Lib.hid hf2; have H2 := Lib.hid hO; clear hf2 hO))
    go_ret2
    exact ⟨_, rfl, H1.out.ofDrewN, H2.out⟩

theorem done_no {F : Nat → Prop} {b : Nat} (w : World) (hm : MakAt F w b none) :
    Calls Tryz.prog 80 #[.pointer (some ⟨b, 0, none⟩)] w fun r w' => r = .returned (.tuple #[.slice none 0 0, .int .i64 2]) ∧ w = w' := by
  obtain ⟨h1, T, hv, o, h3⟩ := hm
  obtain ⟨c0, c1, c2, f0, f1, f2⟩ := mak_cells h3
  clear h3
  go_enter Tryz.func80, Tryz.ntmps80
  go_wp2
  go_ret2
  exact ⟨rfl, rfl⟩

end Go.Proofs.YtiinmilfgclddaaGreat

/- Contracts of the kit's marks. -/
namespace Go.Proofs.YtiinmilfgclddaaGreat
open Go.RowKit Go.ChangeShapes
set_option linter.unusedVariables false


/-- The mark of place i of list k, as a byte. -/
def mB (k i : Nat) : UInt8 := UInt8.ofNat (IntKind.u64.wrap ((1000003 * ((k : Int) + 7) + i) * 11400714819323198485) / 72057594037927936 % 256).toNat

theorem mB_val (k i : Nat) : IntKind.u64.wrap ((1000003 * ((k : Int) + 7) + i) * 11400714819323198485) / 72057594037927936 % 256 = (mB k i).toNat := by
  unfold mB
  generalize IntKind.u64.wrap ((1000003 * ((k : Int) + 7) + i) * 11400714819323198485) / 72057594037927936 = z
  rw [UInt8.toNat_ofNat']
  omega

end Go.Proofs.YtiinmilfgclddaaGreat

/- Lists of bytes that lie apart: the words of flatBytes' contract. -/
namespace Go.Proofs.YtiinmilfgclddaaGreat
open Go.RowKit Go.ChangeShapes
set_option linter.unusedVariables false

/-- A byte stored into what the call owns. -/
theorem OwnB.store {F : Nat → Prop} {w : World} {g m cap : Nat} {L : List UInt8} (h : OwnB F w (.slice (some ⟨g, 0, none⟩) m cap) L) (i : Nat) (b : UInt8) :
    OwnB F (w.setCell ⟨g, i, none⟩ (bv b)) (.slice (some ⟨g, 0, none⟩) m cap) (L.set i b) := by
  obtain ⟨ao, c, hv⟩ := h.len
  simp only [Value.slice.injEq] at hv
  obtain ⟨_, hm, _⟩ := hv
  subst hm
  refine ⟨?_, h.2⟩
  have := (World.ownsRow.stored h.1 i (bv b)).1
  rw [← List.map_set] at this
  simpa using this

/-- Of what is owned the head is owned, too. -/
theorem OwnB.head {F : Nat → Prop} {w : World} {ao : Option Addr} {m cap : Nat} {L : List UInt8} (h : OwnB F w (.slice ao m cap) L) (n : Nat) (hn : n ≤ L.length) (hz : ao ≠ none) : OwnB F w (.slice ao n cap) (L.take n) := by
  rcases h.1.2 with ⟨hv, _⟩ | ⟨g, cap', cur, hv, hb, hg, hnc, hcm, hcs, ht⟩
  · simp only [Value.slice.injEq] at hv
    exact absurd hv.1 hz
  · simp only [Value.slice.injEq] at hv
    obtain ⟨rfl, _, rfl⟩ := hv
    have hl : (L.take n).length = n := by rw [List.length_take]; omega
    refine ⟨⟨by simp, .inr ⟨g, cap, cur, by rw [hl], hb, hg, by omega, hcm, hcs, ?_⟩⟩, fun k hk => h.2 k hk⟩
    rw [hl, List.map_take, ← ht, List.take_take]
    congr 1
    omega

/-- append of any bytes onto bytes that the call owns: what was owned is as it was. -/
theorem run_append_keep {F G : Nat → Prop} (w : World) (ty : TypeId) (v x : Value) (L X : List UInt8) (hown : OwnB F w v L) (hx : BytesIn G w x X) (hb : L.length + X.length ≤ 140737488355328) :
    ∃ v' w', (Builtin.append_ #[43, 43] ty #[v, x]).run Tryz.prog w = .ok v' w' ∧ OwnB F w' v L ∧ OwnB (fun k => v.ownBlock = some k ∨ w.heap.size ≤ k) w' v' (L ++ X) ∧ w.grownBy w' v.ownBlock := by
  obtain ⟨i0, hi, hz0, hz1, hz2⟩ := info_parts Tryz.infoB
  obtain ⟨ao, cap, rfl, hl, hm, hn, hc⟩ := hx
  have hmx : L.length + X.length ≤ maxLen := by unfold maxLen; omega
  cases ao with
  | none =>
    obtain rfl := hn rfl
    obtain rfl : X = [] := List.eq_nil_of_length_eq_zero (by omega)
    have hr := run_append_owned_none (P := Tryz.prog) (w := w) 0 43 ty 5 i0 1 Tryz.underlying43 hi v L.length _ hown.1
    refine ⟨v, w, hr, hown, ?_, World.grownBy.refl _ _⟩
    rw [List.append_nil]
    exact ⟨hown.1, fun g hg => .inl hg⟩
  | some a =>
    rcases hown.1.2 with ⟨rfl, h0⟩ | ⟨g, vc, cur, rfl, hbase, hg, hnc, hcm, hcs, ht⟩
    · obtain rfl : L = [] := List.eq_nil_of_length_eq_zero h0
      obtain ⟨v', w', hr, h2, h3, h4, h5⟩ := run_append_own_at (P := Tryz.prog) w 0 43 ty 5 i0 (.int .u8 0) 1 1 Tryz.underlying43 hi hz0 hz1 hz2 rfl (by decide) (.slice none 0 0) 0 [] hown.1 a X.length cap (X.map bv)
        (by simp) (hc a rfl).1 (bv_one X) (by simpa using hmx) (by simp at hb; omega) (Nat.zero_le _)
      refine ⟨v', w', hr, OwnB.nil _ _, ⟨by simpa using h2, fun g hg => ?_⟩, h3⟩
      rcases h5 with h5 | h5
      · rw [hg] at h5; cases h5
      · rw [hg] at h5; exact .inr (by have := Option.some.inj h5; omega)
    · by_cases hroom : L.length + X.length ≤ vc
      · obtain ⟨w', hr, h2, h3⟩ := run_append_fits (P := Tryz.prog) (w := w) 0 43 ty 5 i0 1 Tryz.underlying43 hi hz1 g L.length vc _ hown.1 a X.length cap (X.map bv) (by simp) (hc a rfl).1 (bv_one X) hroom
        have h4 : OwnB (fun k => (Value.slice (some ⟨g, 0, none⟩) L.length vc).ownBlock = some k ∨ w.heap.size ≤ k) w' (.slice (some ⟨g, 0, none⟩) (L.length + X.length) vc) (L ++ X) :=
          ⟨by rw [List.length_append, List.map_append]; exact h2, fun k hk => .inl hk⟩
        refine ⟨_, w', hr, ?_, h4, h3⟩
        have := h4.head L.length (by simp) (by simp)
        rw [List.take_left] at this
        exact ⟨this.1, hown.2⟩
      · obtain ⟨v', w', hr, h2, h3⟩ := run_append_arg_grows (P := Tryz.prog) w 43 ty 5 i0 (.int .u8 0) 1 1 Tryz.underlying43 hi hz0 hz1 hz2 rfl (by decide) ⟨g, 0, none⟩ L.length vc (L.map bv) (by simp) (hown.1.cells (g := g) rfl)
          a X.length cap (X.map bv) (by simp) (hc a rfl).1 (by omega) hmx (by omega)
        have hlt := lt_of_block hg
        refine ⟨v', w', hr, ?_, ⟨?_, fun k hk => .inr (h2.lt k hk).1⟩, ?_⟩
        · exact hown.keep (S := fun _ => False) ((Fr.refl _ w).grown h3 (fun k hk => by cases hk)) (fun _ _ _ h => h)
        · rw [List.length_append, List.map_append]
          exact ⟨h2.1, h2.2.imp id (fun ⟨g', c', cur', r1, r2, r3⟩ => ⟨g', c', cur', r1, Nat.zero_le _, r3⟩)⟩
        · exact ⟨h3.os, h3.tape, h3.output, h3.size, fun k hk _ => h3.block k hk (by simp)⟩

/-- .. at a plain region's list. -/
theorem wpList_append_keep {F G : Nat → Prop} (w : World) {ops : Array Oper} {rest : List Oper} {o : Oper} {a : Act} {Q : Exit → Act → World → Prop} (hgd : o.guard = none) (s x : Operand)
    (hop : o.op = Op.call { callee := Callee.builtin Builtin.append, args := #[s, x], argTypes := #[43, 43] })
    (v y : Value) (L X : List UInt8) (hs : a.eval s = v) (hx : a.eval x = y) (hown : OwnB F w v L) (hX : BytesIn G w y X) (hb : L.length + X.length ≤ 140737488355328)
    (hK : ∀ v' w', OwnB F w' v L → OwnB (fun k => v.ownBlock = some k ∨ w.heap.size ≤ k) w' v' (L ++ X) → w.grownBy w' v.ownBlock → wpList Tryz.prog ops Q rest (a.put o.dst v') w') : wpList Tryz.prog ops Q (o :: rest) a w := by
  refine wpList_plain hgd fun K hK' => ?_
  subst hs; subst hx
  obtain ⟨v', w', hr, h1, h2, h3⟩ := run_append_keep w o.type _ _ L X hown hX hb
  unfold Oper.wp
  simp [execOp, hop, resolve, invoke, builtin, hr, Result.andThen]
  exact hK' _ _ (hK v' w' h1 h2 h3)

/-- The marks of the first m places of list k. -/
def marks (k m : Nat) : List UInt8 := (List.range m).map (mB k)
theorem marks_length (k m : Nat) : (marks k m).length = m := by simp [marks]
theorem marks_succ (k m : Nat) : marks k (m + 1) = marks k m ++ [mB k m] := by simp [marks, List.range_succ]
theorem marks_get (k m i : Nat) (h : i < m) : (marks k m)[i]? = some (mB k i) := by
  simp [marks, h]
theorem marks_take (k m n : Nat) (h : n ≤ m) : (marks k m).take n = marks k n := by
  simp [marks, ← List.map_take, List.take_range, Nat.min_eq_left h]

/-- n lists, each of which the call owns. -/
def RowsB (w : World) (n : Nat) (X : Nat → Value) (Lf : Nat → List UInt8) : Prop := ∀ j, j < n → OwnB (fun _ => True) w (X j) (Lf j)
/-- No two of them lie in one block. -/
def DistB (n : Nat) (X : Nat → Value) : Prop := ∀ i j, i < n → j < n → i ≠ j → ∀ g, (X i).ownBlock = some g → (X j).ownBlock ≠ some g
/-- The blocks in which they lie. -/
def BlksB (n : Nat) (X : Nat → Value) (b : Nat) : Prop := ∃ j, j < n ∧ (X j).ownBlock = some b

theorem OwnB.keep' {F S : Nat → Prop} {w w' : World} {v : Value} {L : List UInt8} (h : OwnB F w v L) (hf : Fr S w w') (hd : ∀ g, v.ownBlock = some g → ¬ S g) : OwnB F w' v L := by
  have h1 : OwnB (fun k => v.ownBlock = some k) w v L := ⟨h.1, fun g hg => hg⟩
  have h2 := h1.keep hf (fun k _ hk => hd k hk)
  exact ⟨h2.1, h.2⟩

theorem RowsB.keep {S : Nat → Prop} {w w' : World} {n : Nat} {X : Nat → Value} {Lf : Nat → List UInt8} (h : RowsB w n X Lf) (hf : Fr S w w') (hd : ∀ b, BlksB n X b → ¬ S b) : RowsB w' n X Lf :=
  fun j hj => (h j hj).keep' hf (fun g hg => hd g ⟨j, hj, hg⟩)
theorem RowsB.congr {w : World} {n : Nat} {X : Nat → Value} {Lf Mf : Nat → List UInt8} (h : RowsB w n X Lf) (e : ∀ j, j < n → Lf j = Mf j) : RowsB w n X Mf := fun j hj => e j hj ▸ h j hj

/-- One list turned, the others as they were. -/
theorem RowsB.turn {w w' : World} {n k : Nat} {X : Nat → Value} {Lf : Nat → List UInt8} {M : List UInt8} (h : RowsB w n X Lf) (hD : DistB n X) (hk : k < n) (hf : Fr (fun b => (X k).ownBlock = some b) w w') (hM : OwnB (fun _ => True) w' (X k) M) :
    RowsB w' n X (fun j => if j = k then M else Lf j) := by
  intro j hj
  by_cases e : j = k
  · subst e
    simpa using hM
  · simp only [e, if_false]
    exact (h j hj).keep' hf (fun g hg hk' => hD j k hj hk e g hg hk')

/-- What the lists hold where those ahead of k, and the first i places of k, are marked. -/
def ph1 (L : Nat → List UInt8) (k i : Nat) : Nat → List UInt8 := fun j => if j < k then marks j (L j).length else if j = k then marks k i ++ (L k).drop i else L j
theorem ph1_zero (L : Nat → List UInt8) (k : Nat) (j : Nat) : ph1 L k 0 j = if j < k then marks j (L j).length else L j := by
  unfold ph1
  split
  · rfl
  · split
    · subst_vars; simp [marks]
    · rfl
theorem ph1_end (L : Nat → List UInt8) (k : Nat) (j : Nat) : ph1 L k (L k).length j = ph1 L (k + 1) 0 j := by
  rw [ph1_zero]
  unfold ph1
  by_cases h1 : j < k
  · simp [h1, show j < k + 1 by omega]
  · by_cases h2 : j = k
    · subst h2; simp
    · simp [h1, h2, show ¬ j < k + 1 by omega]
theorem ph1_len (L : Nat → List UInt8) (k i j : Nat) (hi : i ≤ (L k).length) : (ph1 L k i j).length = (L j).length := by
  unfold ph1
  split
  · rw [marks_length]
  · split
    · subst_vars; rw [List.length_append, marks_length, List.length_drop]; omega
    · rfl
theorem ph1_set (L : Nat → List UInt8) (k i : Nat) (hi : i < (L k).length) : (ph1 L k i k).set i (mB k i) = ph1 L k (i + 1) k := by
  unfold ph1
  simp only [Nat.lt_irrefl, if_false, if_true]
  rw [marks_succ, List.set_append_right (h := by rw [marks_length]; exact Nat.le_refl _), marks_length, Nat.sub_self, List.drop_eq_getElem_cons hi, List.set_cons_zero, List.append_assoc]
  rfl


/-- What a slice of bytes that the call owns looks like, where it has an element. -/
theorem OwnB.form {F : Nat → Prop} {w : World} {v : Value} {L : List UInt8} (h : OwnB F w v L) (hL : 0 < L.length) :
    ∃ g cap, v = .slice (some ⟨g, 0, none⟩) L.length cap ∧ L.length ≤ cap ∧ cap ≤ maxLen ∧ F g ∧ ∀ i, i < L.length → w.cell? ⟨g, i, none⟩ = some (.int .u8 (L.getD i 0).toNat) ∧ w.frozen? ⟨g, i, none⟩ = false := by
  rcases h.1.2 with ⟨_, h0⟩ | ⟨g, cap, cur, hv, hb, hg, hnc, hcm, hcs, ht⟩
  · omega
  · subst hv
    refine ⟨g, cap, rfl, hnc, hcm, h.2 g rfl, fun i hi => ⟨?_, World.ownsRow.frozenAt h.1 i⟩⟩
    rw [World.ownsRow.cellAt h.1 i (by omega), List.getElem?_map, List.getElem?_eq_getElem hi]
    simp [bv, List.getD, List.getElem?_eq_getElem hi]

/-- Two values in one block: what follows of the one, where the other is as it was. -/
theorem OwnB.follow {F G K : Nat → Prop} {w w' : World} {v x : Value} {L M : List UInt8} {g : Nat} (hv : OwnB F w v L) (hx : OwnB G w x M) (hvg : v.ownBlock = some g) (hxg : x.ownBlock = some g) (hl : M.length ≤ L.length) (hv' : OwnB K w' v L) : OwnB G w' x M := by
  rcases hv.1.2 with ⟨rfl, _⟩ | ⟨g1, c1, u1, rfl, _, hg1, hn1, hm1, hs1, ht1⟩
  · cases hvg
  rcases hx.1.2 with ⟨rfl, _⟩ | ⟨g2, c2, u2, rfl, _, hg2, hn2, hm2, hs2, ht2⟩
  · cases hxg
  simp only [Value.ownBlock, Option.some.injEq] at hvg hxg
  subst hvg; subst hxg
  rw [hg1] at hg2
  simp only [Option.some.injEq, Obj.cells.injEq, and_true] at hg2
  subst hg2
  obtain rfl : c1 = c2 := by omega
  have hh := hv'.head M.length hl (by simp)
  refine ⟨?_, hx.2⟩
  have e : M.map bv = (L.take M.length).map bv := by
    rw [List.map_take, ← ht1, List.take_take, ← ht2]
    congr 1
    omega
  have := hh.1
  rw [← e, List.length_take, Nat.min_eq_left hl] at this
  exact this

/-- A row of n slices that the call owns: its cells. -/
def GsAt (w : World) (gb n : Nat) (G : Nat → Value) : Prop := w.ownsRow 0 43 1 (.slice (some ⟨gb, 0, none⟩) n n) n ((List.range n).map G)
theorem GsAt.keep {S : Nat → Prop} {w w' : World} {gb n : Nat} {G : Nat → Value} (h : GsAt w gb n G) (hf : Fr S w w') (hd : ¬ S gb) : GsAt w' gb n G := by
  refine ⟨h.1, ?_⟩
  rcases h.2 with h1 | ⟨g, cap, cur, hv, hb, hg, r⟩
  · exact .inl h1
  · have : gb = g := by simp only [Value.slice.injEq, Option.some.injEq, Addr.mk.injEq] at hv; exact hv.1.1
    subst this
    exact .inr ⟨gb, cap, cur, hv, hb, hf.heap hg hd, r⟩
theorem GsAt.lt {w : World} {gb n : Nat} {G : Nat → Value} (h : GsAt w gb n G) : gb < w.heap.size := (World.ownsRow.lt h gb rfl).2
theorem GsAt.cell {w : World} {gb n : Nat} {G : Nat → Value} (h : GsAt w gb n G) (j : Nat) (hj : j < n) : w.cell? ⟨gb, j, none⟩ = some (G j) ∧ w.frozen? ⟨gb, j, none⟩ = false := by
  refine ⟨?_, World.ownsRow.frozenAt h j⟩
  rw [World.ownsRow.cellAt h j (by omega)]
  simp [hj]
theorem GsAt.store {w : World} {gb n : Nat} {G : Nat → Value} (h : GsAt w gb n G) (k : Nat) (v : Value) : GsAt (w.setCell ⟨gb, k, none⟩ v) gb n (fun j => if j = k then v else G j) := by
  have := (World.ownsRow.stored h k v).1
  unfold GsAt
  have e : (List.range n).map (fun j => if j = k then v else G j) = ((List.range n).map G).set k v := by
    apply List.ext_getElem?
    intro i
    rw [List.getElem?_set]
    by_cases hi : i < n
    · by_cases hik : k = i
      · subst hik; simp [hi]
      · simp [hi, hik, Ne.symm hik]
    · simp [hi]
      intro hki
      omega
  rw [e]
  exact this
theorem Tryz.infoS : (Tryz.prog.info? 43).map (fun i => (i.zero, i.size, i.bytes)) = some (some (.slice none 0 0), 1, 24) := by kernel_rfl

/-- What append left: the list as it was, in what it may be written. -/
theorem grow_row {wo w1 w2 : World} {x v v' : Value} {L M N : List UInt8} {K : Nat → Prop} (hv : OwnB (fun b => x.ownBlock = some b ∨ wo.heap.size ≤ b) w1 v L) (hx : OwnB (fun _ => True) w1 x M) (hl : M.length ≤ L.length)
    (hf : Fr (fun b => x.ownBlock = some b) wo w1) (hv2 : OwnB K w2 v L) (hn : OwnB (fun b => v.ownBlock = some b ∨ w1.heap.size ≤ b) w2 v' N) (hg : w1.grownBy w2 v.ownBlock) :
    OwnB (fun b => x.ownBlock = some b ∨ wo.heap.size ≤ b) w2 v' N ∧ OwnB (fun _ => True) w2 x M ∧ Fr (fun b => x.ownBlock = some b) wo w2 := by
  refine ⟨hn.mono (fun b _ hb => ?_), ?_, hf.grown hg (fun b hb => hv.2 b hb)⟩
  · rcases hb with hb | hb
    · exact hv.2 b hb
    · exact .inr (Nat.le_trans hf.size hb)
  · cases hvo : v.ownBlock with
    | none =>
      rw [hvo] at hg
      exact hx.keep' ((Fr.refl (fun _ => False) w1).grown hg (fun b hb => by cases hb)) (fun _ _ h => h)
    | some g =>
      by_cases hxg : x.ownBlock = some g
      · exact hv.follow hx hvo hxg hl hv2
      · rw [hvo] at hg
        exact hx.keep' ((Fr.refl (fun b => b = g) w1).grown hg (fun b hb => .inl (Option.some.inj hb).symm)) (fun b hb e => hxg (by rw [hb, e]))

/-- .. where something was made ahead of it. -/
theorem grow_made {wo w1 : World} {x v : Value} {L M : List UInt8} (o : Obj) (hv : OwnB (fun b => x.ownBlock = some b ∨ wo.heap.size ≤ b) w1 v L) (hx : OwnB (fun _ => True) w1 x M)
    (hf : Fr (fun b => x.ownBlock = some b) wo w1) :
    OwnB (fun b => x.ownBlock = some b ∨ wo.heap.size ≤ b) (w1.alloc o) v L ∧ OwnB (fun _ => True) (w1.alloc o) x M ∧ Fr (fun b => x.ownBlock = some b) wo (w1.alloc o) :=
  ⟨hv.keep' ((Fr.refl (fun _ => False) w1).alloc o) (fun _ _ h => h), hx.keep' ((Fr.refl (fun _ => False) w1).alloc o) (fun _ _ h => h), hf.alloc o⟩

/-- Where the call stands: the row of slices, the lists, what the slices ahead of k hold, what was written. -/
def FlAt (w wr : World) (n k gb : Nat) (X : Nat → Value) (L : Nat → List UInt8) (G : Nat → Value) (Mf : Nat → List UInt8) : Prop :=
  GsAt wr gb n G ∧ RowsB wr n X (fun j => marks j (L j).length) ∧ (∀ j, j < k → OwnB (fun b => (X j).ownBlock = some b ∨ gb < b) wr (G j) (Mf j)) ∧ Fr (BlksB n X) w wr

theorem FlAt.drew {w wr : World} {n k gb : Nat} {X : Nat → Value} {L : Nat → List UInt8} {G : Nat → Value} {Mf : Nat → List UInt8} (h : FlAt w wr n k gb X L G Mf) : FlAt w wr.drew n k gb X L G Mf :=
  ⟨h.1, h.2.1, h.2.2.1, h.2.2.2.drew⟩

theorem FlAt.drewN {w wr : World} {n k gb : Nat} {X : Nat → Value} {L : Nat → List UInt8} {G : Nat → Value} {Mf : Nat → List UInt8} (h : FlAt w wr n k gb X L G Mf) (q : Nat) : FlAt w (wr.drewN q) n k gb X L G Mf :=
  ⟨h.1, h.2.1, h.2.2.1, h.2.2.2.drewN q⟩

/-- 64 places, of which the first i are marked. -/
def fill64 (q i : Nat) : List UInt8 := marks q i ++ List.replicate (64 - i) 0
theorem fill64_zero (q : Nat) : fill64 q 0 = List.replicate 64 0 := by simp [fill64, marks]
theorem fill64_end (q : Nat) : fill64 q 64 = marks q 64 := by simp [fill64]
theorem fill64_len (q i : Nat) (h : i ≤ 64) : (fill64 q i).length = 64 := by
  unfold fill64
  rw [List.length_append, marks_length, List.length_replicate]; omega
theorem fill64_set (q i : Nat) (h : i < 64) : (fill64 q i).set i (mB q i) = fill64 q (i + 1) := by
  unfold fill64
  rw [marks_succ, List.set_append_right (h := by rw [marks_length]; exact Nat.le_refl _), marks_length, Nat.sub_self, show 64 - i = (64 - (i + 1)) + 1 by omega, List.replicate_succ, List.set_cons_zero, List.append_assoc]
  rfl
theorem fill64_made : (madeCells #[Value.int .u8 0] 64).toList = (List.replicate 64 (0 : UInt8)).map bv := by
  rw [toList_madeCells_one, List.map_replicate]
  rfl
theorem marks_app (k m i : Nat) (R : List UInt8) (h : i < m) : (marks k m ++ R)[i]? = some (mB k i) := by
  rw [List.getElem?_append_left (by rw [marks_length]; exact h)]
  exact marks_get k m i h


/-- One slice of the row, stored. -/
theorem FlAt.store {w wo wi : World} {n k gb : Nat} {X : Nat → Value} {L : Nat → List UInt8} {G : Nat → Value} {Mf : Nat → List UInt8} {v : Value} (h : FlAt w wo n k gb X L G Mf) (hk : k < n) (hD : DistB n X)
    (hXB : ∀ j, j < n → ∀ b, (X j).ownBlock = some b → b < gb) (hGB : w.heap.size ≤ gb)
    (hv : OwnB (fun b => (X k).ownBlock = some b ∨ wo.heap.size ≤ b) wi v (Mf k)) (hx : OwnB (fun _ => True) wi (X k) (marks k (L k).length)) (hf : Fr (fun b => (X k).ownBlock = some b) wo wi) :
    FlAt w (wi.setCell ⟨gb, k, none⟩ v) n (k + 1) gb X L (fun j => if j = k then v else G j) Mf := by
  obtain ⟨h1, h2, h3, h4⟩ := h
  have hlt := h1.lt
  have hgk : (X k).ownBlock ≠ some gb := fun e => by have := hXB k hk gb e; omega
  have hs : Fr (fun b => b = gb) wi (wi.setCell ⟨gb, k, none⟩ v) := (Fr.refl (fun b => b = gb) wi).setCell (p := ⟨gb, k, none⟩) (.inl rfl) v
  refine ⟨(h1.keep hf hgk).store k v, ?_, ?_, ?_⟩
  · intro j hj
    have hj1 : OwnB (fun _ => True) wi (X j) (marks j (L j).length) := by
      by_cases e : j = k
      · subst e; exact hx
      · exact (h2 j hj).keep' hf (fun g hg hk' => hD j k hj hk e g hg hk')
    exact hj1.keep' hs (fun g hg e => by have := hXB j hj g hg; omega)
  · intro j hj
    by_cases e : j = k
    · subst e
      show OwnB _ _ (if j = j then v else G j) _
      rw [if_pos rfl]
      refine (hv.mono (G := fun b => (X j).ownBlock = some b ∨ gb < b) (fun b _ hb => hb.imp id (fun h => by omega))).keep' hs (fun g hg e => ?_)
      rcases hv.2 g hg with h | h
      · exact hgk (by rw [h, e])
      · omega
    · show OwnB _ _ (if j = k then v else G j) _
      rw [if_neg e]
      refine ((h3 j (by omega)).keep' hf (fun g hg hk' => ?_)).keep' hs (fun g hg e' => ?_)
      · rcases (h3 j (by omega)).2 g hg with h | h
        · exact hD j k (by omega) hk e g h hk'
        · have := hXB k hk g hk'; omega
      · rcases (h3 j (by omega)).2 g hg with h | h
        · have := hXB j (by omega) g h; omega
        · omega
  · refine (h4.trans hf (fun b hb => .inl ⟨k, hk, hb⟩)).setCell (p := ⟨gb, k, none⟩) (.inr hGB) v

end Go.Proofs.YtiinmilfgclddaaGreat

