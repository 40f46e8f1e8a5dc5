/- Laid together: Maker2 Maker3 FlatLib JRowP TRow -/
import Derived.Test.YtldgcoikbjbjeaaGreatTk9
import Derived.Test.YtldgcoikbjbjeaaGreatTk1
import Derived.Deep.LoopGhost
import Derived.Test.YtldgcoikbjbjeaaGreatTk0
import Derived.ArgAppend
import Derived.Test.YtldgcoikbjbjeaaGreatTk2

namespace Go.Proofs.YtldgcoikbjbjeaaGreat
open Go.RowKit Go.ChangeShapes
set_option linter.unusedVariables false
theorem put_broken {b : Nat} {T : TypeId} {y x : Value} {o : Int} (w : World) (hb : w.heap[b]? = some (.cells #[y, .int .i64 o, .bool true] T (0, 0))) :
    Calls Tryz.prog 140 #[.pointer (some ⟨b, 0, none⟩), x] w fun r w' => r = .returned (.tuple #[]) ∧ w = w' := by
  obtain ⟨c0, c1, c2, f0, f1, f2⟩ := mak_cells hb
  clear hb
  go_enter Tryz.func140, Tryz.ntmps140
  go_wp2
  refine bodyPost_ret (results_none rfl _ _ _) rfl ?_
  exact ⟨rfl, rfl⟩
theorem put_any {F G : Nat → Prop} {b : Nat} {x : Value} {X : List UInt8} {m : Option (List UInt8)} (w : World) (hF : ∀ k, w.heap.size ≤ k → F k) (hG : ∀ k, G k → ¬ F k)
    (hm : MakAt F w b m) (hx : BytesIn G w x X) (hlen : ∀ L, m = some L → L.length + X.length ≤ 140737488355328) :
    Calls Tryz.prog 140 #[.pointer (some ⟨b, 0, none⟩), x] w fun r w' => r = .returned (.tuple #[]) ∧ Fr F w w' ∧ MakAt F w' b (m.map (· ++ X)) := by
  obtain ⟨h1, T, h2⟩ := id hm
  cases m with
  | none =>
    obtain ⟨hv, o, h3⟩ := h2
    exact (put_broken w h3).mono fun r w' ⟨hr, hw⟩ => ⟨hr, hw ▸ Fr.refl _ _, hw ▸ hm⟩
  | some L =>
    have hl := hlen L rfl
    rcases h2 with ⟨rfl, h4⟩ | ⟨h, sv, hne, hFh, h5, h6, h7⟩
    · exact put_fresh w hF hG h4 h1 hx (by simpa using hl)
    · exact put_held w hF h5 h6 hne h1 hFh h7 hx hl
theorem spoil_any {F : Nat → Prop} {b : Nat} {m : Option (List UInt8)} (w : World) (hm : MakAt F w b m) :
    Calls Tryz.prog 139 #[.pointer (some ⟨b, 0, none⟩)] w fun r w' => r = .returned (.tuple #[]) ∧ Fr F w w' ∧ MakAt F w' b none := by
  obtain ⟨h1, T, h2⟩ := id hm
  obtain ⟨x, y, z, hb⟩ : ∃ x y z, w.heap[b]? = some (.cells #[x, y, z] T (0, 0)) := by
    cases m with
    | none => obtain ⟨hv, o, h3⟩ := h2; exact ⟨_, _, _, h3⟩
    | some L => rcases h2 with ⟨rfl, h4⟩ | ⟨h, sv, hne, hFh, h5, h6, h7⟩; exact ⟨_, _, _, h4⟩; exact ⟨_, _, _, h5⟩
  obtain ⟨c0, c1, c2, f0, f1, f2⟩ := mak_cells hb
  clear h2 hm
  go_enter Tryz.func139, Tryz.ntmps139
  go_wp2
  go_end0
  refine ⟨rfl, (((Fr.refl F w).setCell (p := ⟨b, 0, none⟩) (.inl h1) _).setCell (p := ⟨b, 1, none⟩) (.inl h1) _).setCell (p := ⟨b, 2, none⟩) (.inl h1) _, h1, T, .pointer none, 0, ?_⟩
  have := heap_setCell_at (i := 2) (.bool true) (heap_setCell_at (i := 1) (.int .i64 0) (heap_setCell_at (i := 0) (.pointer none) hb))
  simpa using this
theorem one_byte (w : World) (z : Int) (x : UInt8) (hz : z = x.toNat) : BytesIn (fun k => k = w.heap.size) (w.alloc (.cells #[.int .u8 z] 5)) (.slice (some ⟨w.heap.size, 0, none⟩) 1 1) [x] := by
  subst hz
  refine ⟨_, 1, rfl, Nat.le_refl _, by simp [maxLen], (fun h => by cases h), ?_⟩
  intro a ha
  cases ha
  refine ⟨fun j u hu => ?_, fun _ => rfl⟩
  match j, hu with
  | 0, hu =>
    simp at hu
    subst hu
    have := heap_alloc_new w (.cells #[bv x] 5)
    simp only [Addr.add, if_true]
    exact cell_of_one this
theorem put_new {F : Nat → Prop} {b : Nat} {x : Value} {X : List UInt8} {m : Option (List UInt8)} (w : World) (o : Obj) (hF : ∀ k, w.heap.size ≤ k → F k)
    (hm : MakAt F w b m) (hx : BytesIn (fun k => k = w.heap.size) (w.alloc o) x X) (hlen : ∀ L, m = some L → L.length + X.length ≤ 140737488355328) :
    Calls Tryz.prog 140 #[.pointer (some ⟨b, 0, none⟩), x] (w.alloc o) fun r w' => r = .returned (.tuple #[]) ∧ Fr F w w' ∧ MakAt F w' b (m.map (· ++ X)) := by
  have h1 : MakAt (fun k => F k ∧ k ≠ w.heap.size) (w.alloc o) b m := (hm.mono (fun k hk h => ⟨h, by omega⟩)).keep (S := fun _ => False) ((Fr.refl _ _).alloc o) (fun _ _ _ h => h)
  refine (put_any (F := fun k => F k ∧ k ≠ w.heap.size) (w.alloc o) (fun k hk => ⟨hF k ?_, ?_⟩) (fun k hk h => h.2 hk) h1 hx hlen).mono fun r w' ⟨hr, hf, hM⟩ => ⟨hr, ?_, hM.mono fun k _ h => h.1⟩
  · simp at hk; omega
  · simp at hk; omega
  · exact ((Fr.refl F w).alloc o).trans hf (fun i hi => .inl hi.1)
theorem map_app (m : Option (List UInt8)) (P X : List UInt8) : (m.map (· ++ P)).map (· ++ X) = m.map (· ++ (P ++ X)) := by
  cases m <;> simp
theorem number_any {F : Nat → Prop} {b : Nat} {m : Option (List UInt8)} (n : Nat) (w : World) (hn : n ≤ 1099511627776) (hF : ∀ k, w.heap.size ≤ k → F k)
    (hm : MakAt F w b m) (hlen : ∀ L, m = some L → L.length + 6 ≤ 140737488355328) :
    Calls Tryz.prog 111 #[.pointer (some ⟨b, 0, none⟩), .int .i64 n] w fun r w' => r = .returned (.tuple #[]) ∧ Fr F w w' ∧ MakAt F w' b (m.map (· ++ numBytes 5 n)) := by
  have hb : isNumB (n : Int) = true := isNumB_yes (by omega) (by omega)
  go_enter Tryz.func111, Tryz.ntmps111
  go_wp2_with (go_at_call 138; refine (isNum_any _ _).mono ?_; rintro e w' ⟨rfl, rfl⟩)
  go_step3
  go_wp2_with (go_at_call 138; refine (isNum_any _ _).mono ?_; rintro e w' ⟨rfl, rfl⟩)
  go_step3
  go_wp2
  have HF := Lib.hid hF
  have HM := Lib.hid hm
  have HL := Lib.hid hlen
  clear hF hm hlen hb
  go_loopg [1] 5 (fun i v wr => ∃ (r : Nat) (P : List UInt8), v = .int .i64 r ∧ Hid (r < 128 ^ (i + 1)) ∧ r ≤ 1099511627776 ∧ Hid (P ++ numBytes i r = numBytes 5 n) ∧ P.length + i ≤ 5 ∧ Hid (MakAt F wr b (m.map (· ++ P))) ∧ Hid (Fr F w wr))
  case atStart => exact ⟨n, [], rfl, Lib.hid (by omega), hn, Lib.hid rfl, by simp, Lib.hid (by simpa using HM.out), Lib.hid (Fr.refl _ _)⟩
  case round =>
    obtain ⟨r, P, rfl, hr, hrn, hP, hPl, hM, hFr⟩ := hrel
    clear HM
    obtain ⟨y, e1, hy⟩ : ∃ y : Nat, bits .and .i64 (r : Int) 127 = (y : Int) ∧ y = r % 128 := ⟨_, i64_and127 r (by omega), rfl⟩
    have hy1 : y < 128 := by omega
    have HY := Lib.hid hy
    clear hy
    by_cases hlt : r < 128
    · have hPE := Lib.hid (show P ++ [UInt8.ofNat y] = numBytes 5 n by
        rw [← hP.out, HY.out, Nat.mod_eq_of_lt hlt]
        cases gk with
        | zero => rfl
        | succ k => rw [numBytes, if_pos hlt])
      have hq : ((r : Int) / 128 == 0) = true := by rw [beq_iff_eq]; omega
      clear hP hr
      have hx : (y : Int) = ((UInt8.ofNat y).toNat : Int) := by rw [UInt8.toNat_ofNat']; omega
      have HP := Lib.hid (put_new (x := .slice (some ⟨wr.heap.size, 0, none⟩) 1 1) wr (.cells #[.int .u8 (y : Int)] 5) (fun k hk => HF.out k (Nat.le_trans hFr.out.size hk)) hM.out (one_byte wr _ _ hx) (by intro L' hL'; obtain ⟨L0, hL0, rfl⟩ := Option.map_eq_some_iff.1 hL'; have := HL.out L0 hL0; simp; omega))
      clear hx
      go_wp2_with (go_at_call 140; refine HP.out.mono ?_; rintro e w1 ⟨rfl, hf1, hM1⟩; have H1 := Lib.hid hf1; have H2 := Lib.hid hM1; clear hf1 hM1)
      rw [Exit.noGoto_normal]
      go_end0
      exact ⟨rfl, hFr.out.trans H1.out (fun i hi => .inl hi), by have := H2.out; rw [map_app, hPE.out] at this; exact this⟩
    · have hP' : gk ≠ 0 := by rintro rfl; have := hr.out; omega
      obtain ⟨k, rfl⟩ : ∃ k, gk = k + 1 := ⟨gk - 1, by omega⟩
      have hPE := Lib.hid (show (P ++ [UInt8.ofNat (y + 128)]) ++ numBytes k (r / 128) = numBytes 5 n by
        rw [← hP.out, HY.out, numBytes, if_neg hlt]; simp)
      have hr1 := Lib.hid (show r / 128 < 128 ^ (k + 1) by have := hr.out; rw [Nat.pow_succ] at this; omega)
      have hq : ((r : Int) / 128 == 0) = false := by rw [beq_eq_false_iff_ne]; omega
      have e4 := u8_or128 y hy1
      clear hP hr
      have hx : ((y : Int) + 128) = ((UInt8.ofNat (y + 128)).toNat : Int) := by rw [UInt8.toNat_ofNat']; omega
      have HP := Lib.hid (put_new (x := .slice (some ⟨wr.heap.size, 0, none⟩) 1 1) wr (.cells #[.int .u8 ((y : Int) + 128)] 5) (fun k hk => HF.out k (Nat.le_trans hFr.out.size hk)) hM.out (one_byte wr _ _ hx) (by intro L' hL'; obtain ⟨L0, hL0, rfl⟩ := Option.map_eq_some_iff.1 hL'; have := HL.out L0 hL0; simp; omega))
      clear hx
      go_wp2_with (go_at_call 140; refine HP.out.mono ?_; rintro e w1 ⟨rfl, hf1, hM1⟩; have H1 := Lib.hid hf1; have H2 := Lib.hid hM1; clear hf1 hM1)
      go_roundg k
      case measure => omega
      case rel => exact ⟨r / 128, P ++ [UInt8.ofNat (y + 128)], by go_num, hr1, by omega, hPE, by simp; omega, Lib.hid (by have := H2.out; rw [map_app] at this; exact this), Lib.hid (hFr.out.trans H1.out (fun i hi => .inl hi))⟩
theorem number_bad {F : Nat → Prop} {b : Nat} {m : Option (List UInt8)} (n : Int) (w : World) (hn : n < 0 ∨ 1099511627776 < n) (hm : MakAt F w b m) :
    Calls Tryz.prog 111 #[.pointer (some ⟨b, 0, none⟩), .int .i64 n] w fun r w' => r = .returned (.tuple #[]) ∧ Fr F w w' ∧ MakAt F w' b none := by
  have hb : isNumB n = false := isNumB_no hn
  clear hn
  go_enter Tryz.func111, Tryz.ntmps111
  go_step3
  go_wp2_with (first
    | (go_at_call 138; refine (isNum_any _ _).mono ?_; rintro e w' ⟨rfl, rfl⟩)
    | (go_at_call 139; refine (spoil_any _ hm).mono ?_; rintro e w1 ⟨rfl, hf1, hM1⟩; have H1 := Lib.hid hf1; have H2 := Lib.hid hM1; clear hf1 hM1))
  rw [Exit.noGoto_ret]
  refine bodyPost_ret (results_none rfl _ _ _) rfl ?_
  exact ⟨rfl, H1.out, H2.out⟩
def mkNum (n : Int) (m : Option (List UInt8)) : Option (List UInt8) := if 0 ≤ n ∧ n ≤ 1099511627776 then m.map (· ++ numBytes 5 n.toNat) else none
def mkText (X : List UInt8) (m : Option (List UInt8)) : Option (List UInt8) := if X.length ≤ 1048576 then m.map (· ++ (numBytes 5 X.length ++ X)) else none
theorem number_all {F : Nat → Prop} {b : Nat} {m : Option (List UInt8)} (n : Int) (w : World) (hF : ∀ k, w.heap.size ≤ k → F k)
    (hm : MakAt F w b m) (hlen : ∀ L, m = some L → L.length + 6 ≤ 140737488355328) :
    Calls Tryz.prog 111 #[.pointer (some ⟨b, 0, none⟩), .int .i64 n] w fun r w' => r = .returned (.tuple #[]) ∧ Fr F w w' ∧ MakAt F w' b (mkNum n m) := by
  by_cases h : 0 ≤ n ∧ n ≤ 1099511627776
  · obtain ⟨k, rfl⟩ := Int.eq_ofNat_of_zero_le h.1
    rw [mkNum, if_pos h]
    exact number_any k w (by omega) hF hm hlen
  · rw [mkNum, if_neg h]
    exact number_bad n w (by omega) hm
theorem text_any {F G : Nat → Prop} {b : Nat} {x : Value} {X : List UInt8} {m : Option (List UInt8)} (w : World) (hF : ∀ k, w.heap.size ≤ k → F k) (hG : ∀ k, G k → ¬ F k)
    (hm : MakAt F w b m) (hx : BytesIn G w x X) (hlen : ∀ L, m = some L → L.length + 6 + X.length ≤ 140737488355328) :
    Calls Tryz.prog 136 #[.pointer (some ⟨b, 0, none⟩), x] w fun r w' => r = .returned (.tuple #[]) ∧ Fr F w w' ∧ MakAt F w' b (mkText X m) := by
  obtain ⟨ao, cap, rfl, hl, hmx, _⟩ := id hx
  unfold maxLen at hmx
  by_cases h : X.length ≤ 1048576
  · rw [mkText, if_pos h]
    have HN := Lib.hid (number_any X.length w (by omega) hF hm (fun L hL => by have := hlen L hL; omega))
    have HX := Lib.hid hx
    have HF := Lib.hid hF
    have HL := Lib.hid hlen
    have hnl := numBytes_len 5 X.length
    have HNL := Lib.hid hnl
    have HG := Lib.hid hG
    clear hx hF hlen hm hnl hG
    go_enter Tryz.func136, Tryz.ntmps136
    go_wp2_with (go_at_call 111; refine HN.out.mono ?_; rintro e w1 ⟨rfl, hf1, hM1⟩; have H1 := Lib.hid hf1; have H2 := Lib.hid hM1; clear hf1 hM1)
    refine (put_any (F := F) (G := G) w1 (fun k hk => HF.out k (Nat.le_trans H1.out.size hk)) HG.out H2.out (HX.out.keep H1.out (fun k _ => HG.out k)) ?_).mono ?_
    · intro L' hL'
      obtain ⟨L0, hL0, rfl⟩ := Option.map_eq_some_iff.1 hL'
      have := HL.out L0 hL0
      have := HNL.out.2
      simp
      omega
    · rintro e w2 ⟨rfl, hf2, hM2⟩
      have H3 := Lib.hid hf2
      have H4 := Lib.hid hM2
      clear hf2 hM2
      go_wp2
      go_end0
      exact ⟨rfl, H1.out.trans H3.out (fun i hi => .inl hi), by have := H4.out; rw [map_app] at this; exact this⟩
  · rw [mkText, if_neg h]
    have HS := Lib.hid (spoil_any w hm)
    clear hx hF hlen hm hG
    go_enter Tryz.func136, Tryz.ntmps136
    go_wp2_with (go_at_call 139; refine HS.out.mono ?_; rintro e w1 ⟨rfl, hf1, hM1⟩; have H1 := Lib.hid hf1; have H2 := Lib.hid hM1; clear hf1 hM1)
    refine bodyPost_ret (results_none rfl _ _ _) rfl ?_
    exact ⟨rfl, H1.out, H2.out⟩
end Go.Proofs.YtldgcoikbjbjeaaGreat
namespace Go.Proofs.YtldgcoikbjbjeaaGreat
open Go.RowKit Go.ChangeShapes
set_option linter.unusedVariables false
theorem makerNum_any {F : Nat → Prop} {b s : Nat} {m : Option (List UInt8)} (n : Int) (w : World) (hF : ∀ k, w.heap.size ≤ k → F k)
    (hm : MakAt F w b m) (hs : w.cell? ⟨s, 0, none⟩ = some (.int .i64 n)) (hlen : ∀ L, m = some L → L.length + 6 ≤ 140737488355328) :
    Calls Tryz.prog 79 #[.pointer (some ⟨b, 0, none⟩), .slice (some ⟨s, 0, none⟩) 1 1] w fun r w' => r = .returned (.pointer (some ⟨b, 0, none⟩)) ∧ Fr F w w' ∧ MakAt F w' b (mkNum n m) := by
  have HN := Lib.hid (number_all n w hF hm hlen)
  clear hF hm hlen
  go_enter Tryz.func79, Tryz.ntmps79
  go_wp2
  refine wp_loop_rounds 2 ?_
  rw [rounds_succ]
  go_wp2_with (go_at_call 111; refine HN.out.mono ?_; rintro e w1 ⟨rfl, hf1, hM1⟩; have H1 := Lib.hid hf1; have H2 := Lib.hid hM1; clear hf1 hM1)
  rw [rounds_succ]
  go_wp2
  go_ret
  exact ⟨rfl, H1.out, H2.out⟩
theorem makerText_any {F G : Nat → Prop} {b s : Nat} {x : Value} {X : List UInt8} {m : Option (List UInt8)} (w : World) (hF : ∀ k, w.heap.size ≤ k → F k) (hG : ∀ k, G k → ¬ F k)
    (hm : MakAt F w b m) (hs : w.cell? ⟨s, 0, none⟩ = some x) (hx : BytesIn G w x X) (hlen : ∀ L, m = some L → L.length + 6 + X.length ≤ 140737488355328) :
    Calls Tryz.prog 105 #[.pointer (some ⟨b, 0, none⟩), .slice (some ⟨s, 0, none⟩) 1 1] w fun r w' => r = .returned (.pointer (some ⟨b, 0, none⟩)) ∧ Fr F w w' ∧ MakAt F w' b (mkText X m) := by
  have HN := Lib.hid (text_any w hF hG hm hx hlen)
  obtain ⟨ao, cap, rfl, _⟩ := hx
  clear hF hG hm hlen
  go_enter Tryz.func105, Tryz.ntmps105
  go_wp2
  refine wp_loop_rounds 2 ?_
  rw [rounds_succ]
  go_wp2_with (go_at_call 136; refine HN.out.mono ?_; rintro e w1 ⟨rfl, hf1, hM1⟩; have H1 := Lib.hid hf1; have H2 := Lib.hid hM1; clear hf1 hM1)
  rw [rounds_succ]
  go_wp2
  go_ret
  exact ⟨rfl, H1.out, H2.out⟩
theorem done_yes {F : Nat → Prop} {b : Nat} {L : List UInt8} (w : World) (hm : MakAt F w b (some L)) (hlen : L.length ≤ 140737488355328) :
    Calls Tryz.prog 80 #[.pointer (some ⟨b, 0, none⟩)] w fun r w' => ∃ v, r = .returned (.tuple #[v, .int .i64 0]) ∧ Fr (fun _ => False) w w' ∧ OwnB (fun k => w.heap.size ≤ k) w' v L := by
  obtain ⟨h1, T, h2⟩ := hm
  rcases h2 with ⟨rfl, h4⟩ | ⟨h, sv, hne, hFh, h5, h6, h7⟩
  · obtain ⟨c0, c1, c2, f0, f1, f2⟩ := mak_cells h4
    go_enter Tryz.func80, Tryz.ntmps80
    go_wp2_with (first
      | (go_at_call 112; refine (gathered_nil _ (by exact h4)).mono ?_; rintro e w' ⟨rfl, rfl⟩)
      | (go_at_call 45; refine (clone_nil _).mono ?_; rintro e w' ⟨rfl, rfl⟩))
    go_ret2
    exact ⟨_, rfl, Fr.refl _ _, OwnB.nil _ _⟩
  · obtain ⟨c0, c1, c2, f0, f1, f2⟩ := mak_cells h5
    have HG := Lib.hid (gathered_held w h5 h6 h7)
    clear h5 h6 h7
    go_enter Tryz.func80, Tryz.ntmps80
    go_wp2_with (first
      | (go_at_call 112; refine HG.out.mono ?_; rintro e w' ⟨v, rfl, ⟨k, rfl⟩, hB⟩; have HB := Lib.hid hB; clear hB)
      | (go_at_call 45; refine (clone_any _ (HB.out.drewN k) hlen).mono ?_; rintro e w2 ⟨v2, rfl, hf2, hO⟩; have H1 := Lib.hid hf2; have H2 := Lib.hid hO; clear hf2 hO))
    go_ret2
    exact ⟨_, rfl, H1.out.ofDrewN, H2.out⟩
end Go.Proofs.YtldgcoikbjbjeaaGreat
namespace Go.Proofs.YtldgcoikbjbjeaaGreat
open Go.RowKit Go.ChangeShapes
set_option linter.unusedVariables false
theorem OwnB.store {F : Nat → Prop} {w : World} {g m cap : Nat} {L : List UInt8} (h : OwnB F w (.slice (some ⟨g, 0, none⟩) m cap) L) (i : Nat) (b : UInt8) :
    OwnB F (w.setCell ⟨g, i, none⟩ (bv b)) (.slice (some ⟨g, 0, none⟩) m cap) (L.set i b) := by
  obtain ⟨ao, c, hv⟩ := h.len
  simp only [Value.slice.injEq] at hv
  obtain ⟨_, hm, _⟩ := hv
  subst hm
  refine ⟨?_, h.2⟩
  have := (World.ownsRow.stored h.1 i (bv b)).1
  rw [← List.map_set] at this
  simpa using this
theorem OwnB.head {F : Nat → Prop} {w : World} {ao : Option Addr} {m cap : Nat} {L : List UInt8} (h : OwnB F w (.slice ao m cap) L) (n : Nat) (hn : n ≤ L.length) (hz : ao ≠ none) : OwnB F w (.slice ao n cap) (L.take n) := by
  rcases h.1.2 with ⟨hv, _⟩ | ⟨g, cap', cur, hv, hb, hg, hnc, hcm, hcs, ht⟩
  · simp only [Value.slice.injEq] at hv
    exact absurd hv.1 hz
  · simp only [Value.slice.injEq] at hv
    obtain ⟨rfl, _, rfl⟩ := hv
    have hl : (L.take n).length = n := by rw [List.length_take]; omega
    refine ⟨⟨by simp, .inr ⟨g, cap, cur, by rw [hl], hb, hg, by omega, hcm, hcs, ?_⟩⟩, fun k hk => h.2 k hk⟩
    rw [hl, List.map_take, ← ht, List.take_take]
    congr 1
    omega
theorem OwnB.keep' {F S : Nat → Prop} {w w' : World} {v : Value} {L : List UInt8} (h : OwnB F w v L) (hf : Fr S w w') (hd : ∀ g, v.ownBlock = some g → ¬ S g) : OwnB F w' v L := by
  have h1 : OwnB (fun k => v.ownBlock = some k) w v L := ⟨h.1, fun g hg => hg⟩
  have h2 := h1.keep hf (fun k _ hk => hd k hk)
  exact ⟨h2.1, h.2⟩
theorem OwnB.form {F : Nat → Prop} {w : World} {v : Value} {L : List UInt8} (h : OwnB F w v L) (hL : 0 < L.length) :
    ∃ g cap, v = .slice (some ⟨g, 0, none⟩) L.length cap ∧ L.length ≤ cap ∧ cap ≤ maxLen ∧ F g ∧ ∀ i, i < L.length → w.cell? ⟨g, i, none⟩ = some (.int .u8 (L.getD i 0).toNat) ∧ w.frozen? ⟨g, i, none⟩ = false := by
  rcases h.1.2 with ⟨_, h0⟩ | ⟨g, cap, cur, hv, hb, hg, hnc, hcm, hcs, ht⟩
  · omega
  · subst hv
    refine ⟨g, cap, rfl, hnc, hcm, h.2 g rfl, fun i hi => ⟨?_, World.ownsRow.frozenAt h.1 i⟩⟩
    rw [World.ownsRow.cellAt h.1 i (by omega), List.getElem?_map, List.getElem?_eq_getElem hi]
    simp [bv, List.getD, List.getElem?_eq_getElem hi]
end Go.Proofs.YtldgcoikbjbjeaaGreat
namespace Go.Proofs.YtldgcoikbjbjeaaGreat
open Go.RowKit Go.ChangeShapes
set_option linter.unusedVariables false
theorem Tryz.infoS5 : (Tryz.prog.info? 43).map (fun i => (i.zero, i.size, i.bytes)) = some (some (.slice none 0 0), 1, 24) := by kernel_rfl
def RowsIn (F : Nat → Prop) (w : World) (v : Value) (P : List (List UInt8)) : Prop :=
  ∃ ao cap, v = .slice ao P.length cap ∧ P.length ≤ cap ∧ cap ≤ 9223372036854775807 ∧ (∀ X ∈ P, X.length ≤ 140737488351232) ∧
    (P ≠ [] → ∃ b off, ao = some ⟨b, off, none⟩ ∧ F b ∧ ∀ i (h : i < P.length), ∃ x, w.cell? ⟨b, off + i, none⟩ = some x ∧ BytesIn F w x P[i])
theorem RowsIn.keep {F S : Nat → Prop} {w w' : World} {v : Value} {P : List (List UInt8)} (h : RowsIn F w v P) (hf : Fr S w w') (hd : ∀ k, k < w.heap.size → F k → ¬ S k) : RowsIn F w' v P := by
  obtain ⟨ao, cap, hv, h1, h2, h3, h4⟩ := h
  refine ⟨ao, cap, hv, h1, h2, h3, fun hl => ?_⟩
  obtain ⟨b, off, ha, hF, hi⟩ := h4 hl
  refine ⟨b, off, ha, hF, fun i h => ?_⟩
  obtain ⟨x, hx, hb⟩ := hi i h
  exact ⟨x, hf.cell hx (hd b (World.block_lt_of_cell? _ _ hx) hF), hb.keep hf hd⟩
theorem run_append_val (z : Nat) (w : World) (ty : TypeId) (v y : Value) (vs : List Value) (h : Nat) (hown : w.ownsRow z 43 1 v vs.length vs) (hcell : w.cell? ⟨h, 0, none⟩ = some y) (hy : y.oneCell' = true) (hk : vs.length ≤ 1000000) (hz : z ≤ w.heap.size) :
    ∃ v' w', (Builtin.append_ #[38, 38] ty #[v, .slice (some ⟨h, 0, none⟩) 1 1]).run Tryz.prog w = .ok v' w' ∧ w'.ownsRow z 43 1 v' (vs.length + 1) (vs ++ [y]) ∧ w.grownBy w' v.ownBlock ∧ (v'.ownBlock = v.ownBlock ∨ v'.ownBlock = some w.heap.size) := by
  obtain ⟨i0, hi, hz0, hz1, hz2⟩ := info_parts Tryz.infoS5
  obtain ⟨v', w', hr, h2, h3, h4, h5⟩ := run_append_own_at (P := Tryz.prog) w z 38 ty 43 i0 (.slice none 0 0) 1 24 Tryz.underlying38 hi hz0 hz1 hz2 rfl (by decide) v vs.length _ hown ⟨h, 0, none⟩ 1 1 [y]
    rfl (by
      intro j u hu
      match j, hu with
      | 0, hu =>
        simp at hu
        subst hu
        simpa [Addr.add] using hcell) (by simpa using hy) (by unfold maxLen; omega) (by omega) hz
  exact ⟨v', w', hr, h2, h3, h5⟩
theorem wpList_append_val (z : Nat) (w : World) {ops : Array Oper} {rest : List Oper} {o : Oper} {a : Act} {Q : Exit → Act → World → Prop} (hgd : o.guard = none) (s x : Operand)
    (hop : o.op = Op.call { callee := Callee.builtin Builtin.append, args := #[s, x], argTypes := #[38, 38] })
    (v y : Value) (vs : List Value) (h : Nat) (hs : a.eval s = v) (hx : a.eval x = .slice (some ⟨h, 0, none⟩) 1 1) (hown : w.ownsRow z 43 1 v vs.length vs) (hcell : w.cell? ⟨h, 0, none⟩ = some y) (hy : y.oneCell' = true) (hk : vs.length ≤ 1000000) (hz : z ≤ w.heap.size)
    (hK : ∀ v' w', w'.ownsRow z 43 1 v' (vs.length + 1) (vs ++ [y]) → w.grownBy w' v.ownBlock → (v'.ownBlock = v.ownBlock ∨ v'.ownBlock = some w.heap.size) → wpList Tryz.prog ops Q rest (a.put o.dst v') w') : wpList Tryz.prog ops Q (o :: rest) a w := by
  refine wpList_plain hgd fun K hK' => ?_
  subst hs
  obtain ⟨v', w', hr, h1, h2, h3⟩ := run_append_val z w o.type _ _ vs h hown hcell hy hk hz
  unfold Oper.wp
  simp [execOp, hop, resolve, invoke, builtin, hx, hr, Result.andThen]
  exact hK' _ _ (hK v' w' h1 h2 h3)
theorem ownsRow_keep {S : Nat → Prop} {w w' : World} {z n : Nat} {e : TypeId} {v : Value} {vs : List Value} (h : w.ownsRow z e 1 v n vs) (hf : Fr S w w') (hd : ∀ g, v.ownBlock = some g → ¬ S g) : w'.ownsRow z e 1 v n vs := by
  refine ⟨h.1, ?_⟩
  rcases h.2 with h1 | ⟨g, cap, cur, hv, hb, hg, r⟩
  · exact .inl h1
  · exact .inr ⟨g, cap, cur, hv, hb, hf.heap hg (hd g (by rw [hv]; rfl)), r⟩
theorem ownsRow_form {w : World} {z n : Nat} {v : Value} {vs : List Value} (h : w.ownsRow z 43 1 v n vs) : ∃ ao c, v = .slice ao n c ∧ n ≤ c ∧ c ≤ 9223372036854775807 ∧ (0 < n → ∃ g, ao = some ⟨g, 0, none⟩ ∧ z ≤ g ∧ g < w.heap.size ∧ ∀ j (hj : j < vs.length), w.cell? ⟨g, j, none⟩ = some vs[j]) := by
  have hl : vs.length = n := by simpa using h.1
  rcases h.2 with ⟨rfl, h0⟩ | ⟨g, cap, cur, rfl, hb, hg, hnc, hcm, hcs, ht⟩
  · exact ⟨none, 0, by rw [h0], by omega, by omega, fun hn => by omega⟩
  · unfold maxLen at hcm
    exact ⟨_, cap, rfl, hnc, by omega, fun _ => ⟨g, rfl, hb, lt_of_block hg, fun j hj => by
      rw [World.ownsRow.cellAt h j (by omega), List.getElem?_eq_getElem hj]⟩⟩
def MadeAt (z : Nat) (w : World) (v : Value) (P : List (List UInt8)) : Prop :=
  ∃ vs : List Value, vs.length = P.length ∧ w.ownsRow z 43 1 v P.length vs ∧ ∀ i (h1 : i < vs.length) (h2 : i < P.length), BytesIn (fun k => z ≤ k ∧ v.ownBlock ≠ some k) w vs[i] P[i]
theorem MadeAt.nil (z : Nat) (w : World) : MadeAt z w (.slice none 0 0) [] := ⟨[], rfl, World.ownsRow_nil _ _ _ _, fun i h => by simp at h⟩
theorem MadeAt.snoc {z : Nat} {w w2 w5 : World} {v v5 : Value} {P : List (List UInt8)} {vs : List Value} {y : Value} {L : List UInt8} (hl : vs.length = P.length)
    (hi : ∀ i (h1 : i < vs.length) (h2 : i < P.length), BytesIn (fun k => z ≤ k ∧ v.ownBlock ≠ some k) w vs[i] P[i])
    (hf : Fr (fun _ => False) w w2) (hg : BytesIn (fun k => z ≤ k ∧ v.ownBlock ≠ some k) w2 y L)
    (ho : w5.ownsRow z 43 1 v5 (vs.length + 1) (vs ++ [y])) (hgr : w2.grownBy w5 v.ownBlock) (hb : v5.ownBlock = v.ownBlock ∨ v5.ownBlock = some w2.heap.size) : MadeAt z w5 v5 (P ++ [L]) := by
  have hf5 : Fr (fun k => v.ownBlock = some k) w2 w5 := (Fr.refl _ w2).grown hgr (fun k hk => .inl hk)
  have hne : ∀ k, k < w2.heap.size → z ≤ k ∧ v.ownBlock ≠ some k → z ≤ k ∧ v5.ownBlock ≠ some k := fun k hk h1 => ⟨h1.1, fun h2 => by
    rcases hb with hb | hb
    · exact h1.2 (by rw [← hb, h2])
    · rw [hb] at h2; injection h2 with h2; omega⟩
  have go : ∀ (y : Value) (L : List UInt8), BytesIn (fun k => z ≤ k ∧ v.ownBlock ≠ some k) w2 y L → BytesIn (fun k => z ≤ k ∧ v5.ownBlock ≠ some k) w5 y L := fun y L h =>
    ((h.mono (G := fun k => (z ≤ k ∧ v.ownBlock ≠ some k) ∧ k < w2.heap.size) (fun k hk h => ⟨h, hk⟩)).keep hf5 (fun k hk h1 h2 => h1.1.2 h2)).mono (fun k hk h => hne k h.2 h.1)
  refine ⟨vs ++ [y], by simp [hl], by rw [List.length_append, ← hl]; exact ho, fun i h1 h2 => ?_⟩
  by_cases h : i < vs.length
  · have ep : (P ++ [L])[i] = P[i]'(by omega) := List.getElem_append_left (by omega)
    rw [List.getElem_append_left h, ep]
    exact go _ _ ((hi i h (by omega)).keep hf (fun _ _ _ h => h))
  · have h1' : i = vs.length := by simp at h1; omega
    subst h1'
    have ep : (P ++ [L])[vs.length] = L := by rw [List.getElem_append_right (by omega)]; simp [hl]
    rw [ep]
    simp only [List.getElem_append_right (Nat.le_refl _), Nat.sub_self, List.getElem_cons_zero]
    exact go _ _ hg
theorem MadeAt.keep {z : Nat} {w w' : World} {v : Value} {P : List (List UInt8)} (h : MadeAt z w v P) (hf : Fr (fun _ => False) w w') : MadeAt z w' v P := by
  obtain ⟨vs, hl, ho, hi⟩ := h
  exact ⟨vs, hl, ownsRow_keep ho hf (fun _ _ h => h), fun i h1 h2 => (hi i h1 h2).keep hf (fun _ _ _ h => h)⟩
theorem MadeAt.rows {z : Nat} {w : World} {v : Value} {P : List (List UInt8)} (h : MadeAt z w v P) (hP : ∀ X ∈ P, X.length ≤ 140737488351232) : RowsIn (fun k => k < w.heap.size) w v P := by
  obtain ⟨vs, hl, ho, hi⟩ := h
  obtain ⟨ao, c, rfl, h1, h2, h3⟩ := ownsRow_form ho
  refine ⟨ao, c, rfl, h1, h2, hP, fun hne => ?_⟩
  obtain ⟨g, rfl, hg1, hg2, hc⟩ := h3 (List.length_pos_iff.2 hne)
  exact ⟨g, 0, rfl, hg2, fun i hil => ⟨vs[i]'(by omega), by rw [Nat.zero_add]; exact hc i (by omega), (hi i (by omega) hil).mono (fun k hk h => hk)⟩⟩
end Go.Proofs.YtldgcoikbjbjeaaGreat
namespace Go.Proofs.YtldgcoikbjbjeaaGreat
open Go.RowKit Go.ChangeShapes
set_option linter.unusedVariables false
theorem recB_len (X : Bs) : (recB X).length = (numBytes 5 X.length).length + X.length := by unfold recB; rw [List.length_append]
theorem mkNum_one (n : Nat) (h : n ≤ 1099511627776) : mkNum n (some []) = some (numBytes 5 n) := by
  unfold mkNum
  rw [if_pos ⟨by omega, by omega⟩]
  simp
set_option maxRecDepth 100000 in
set_option maxHeartbeats 1000000 in
theorem textLength_any {F : Nat → Prop} (w : World) (v : Value) (X : Bs) (hb : BytesIn F w v X) (hX : X.length ≤ 1000000000) :
    Calls Tryz.prog 72 #[v] w fun e w' => e = .returned (.int .i64 ((recB X).length : Nat)) ∧ Fr (fun _ => False) w w' := by
  obtain ⟨ao, cap, rfl, _⟩ := hb
  rw [recB_len]
  obtain ⟨n, hn⟩ : ∃ n, n = X.length := ⟨_, rfl⟩
  rw [← hn] at hX ⊢
  clear hn
  obtain ⟨W1, hW1⟩ : ∃ W1, W1 = w.alloc (.cells #[.pointer none, .int .i64 0, .bool false] 146) := ⟨_, rfl⟩
  obtain ⟨W2, hW2⟩ : ∃ W2, W2 = W1.alloc (.cells #[.int .i64 n] 3) := ⟨_, rfl⟩
  have hf1 : Fr (fun _ => False) w W1 := by rw [hW1]; exact (Fr.refl _ _).alloc _
  have hf2 : Fr (fun _ => False) w W2 := by rw [hW2]; exact hf1.alloc _
  have hz1 : W1.heap.size = w.heap.size + 1 := by rw [hW1]; simp
  have hz2 : W2.heap.size = w.heap.size + 2 := by rw [hW2]; simp [hz1]
  have hm : MakAt (fun k => w.heap.size ≤ k) W2 w.heap.size (some []) := ⟨Nat.le_refl _, 146, .inl ⟨rfl, by rw [hW2]; exact ((Fr.refl (fun _ => False) W1).alloc _).heap (by rw [hW1]; exact heap_alloc_new w _) id⟩⟩
  have hs : W2.cell? ⟨w.heap.size + 1, 0, none⟩ = some (.int .i64 n) := by rw [hW2, ← hz1]; exact cell_of_one (heap_alloc_new W1 _)
  have hnum := makerNum_any (F := fun k => w.heap.size ≤ k) (n : Int) W2 (fun k hk => by omega) hm hs (fun L hL => by cases hL; simp)
  rw [mkNum_one n (by omega)] at hnum
  have HNUM := Lib.hid hnum
  have HW := Lib.hid (And.intro hW1 (And.intro hW2 hf2))
  have hq := (numBytes_len 5 n).2
  obtain ⟨q, hqq⟩ : ∃ q, q = (numBytes 5 n).length := ⟨_, rfl⟩
  have HQ := Lib.hid hqq
  rw [← hqq] at hq ⊢
  clear hW1 hW2 hf1 hf2 hz1 hz2 hm hs hnum hqq
  go_enter Tryz.func72, Tryz.ntmps72
  go_wp2_with (first
    | (go_at_call 79; rw [← HW.out.1, ← HW.out.2.1]; refine HNUM.out.mono ?_; rintro e w1 ⟨rfl, hf1, hm1⟩; (have H1 := Lib.hid (And.intro hf1 hm1)); clear hf1 hm1)
    | (go_at_call 80; refine (done_yes w1 H1.out.2 (by rw [← HQ.out]; omega)).mono ?_; rintro e w2 ⟨v, rfl, hf2, ho2⟩; obtain ⟨a2, c2, rfl⟩ := ho2.len; rw [← HQ.out]; (have H2 := Lib.hid (H1.out.1.trans hf2 (fun _ h => h.elim))); clear hf2 ho2))
  go_ret
  exact ⟨by rw [show ((q + n : Nat) : Int) = (q : Int) + n from by push_cast; rfl]; rfl, HW.out.2.2.trans H2.out (fun k h => .inr h)⟩
theorem isVal_any (w : World) (ao : Option Addr) (n cap : Nat) :
    Calls Tryz.prog 66 #[.slice ao n cap] w fun e w' => e = .returned (.bool (decide (n ≤ 2048))) ∧ w' = w := by
  by_cases h2 : n ≤ 2048
  · have d2 : decide ((n : Int) ≤ (2048 : Int)) = true := by rw [decide_eq_true_iff]; omega
    go_enter Tryz.func66, Tryz.ntmps66
    go_wp2
    go_ret
    exact ⟨by simp [h2], rfl⟩
  · have d2 : decide ((n : Int) ≤ (2048 : Int)) = false := by rw [decide_eq_false_iff_not]; omega
    go_enter Tryz.func66, Tryz.ntmps66
    go_wp2
    go_ret
    exact ⟨by simp [h2], rfl⟩
set_option maxRecDepth 100000 in
set_option maxHeartbeats 1000000 in
theorem rowLength_any {F : Nat → Prop} (w : World) (N : ByteArray) (v : Value) (b : Bs) (hN : N.size ≤ 1000000) (hv : BytesIn F w v b) (hb : b.length ≤ 1000000) :
    Calls Tryz.prog 104 #[.string N, v] w fun e w' => e = .returned (.int .i64 (rowLen (N.data.toList, b) : Nat)) ∧ Fr (fun _ => False) w w' := by
  obtain ⟨ao, cap, rfl, _⟩ := id hv
  have HV := Lib.hid hv
  have hNl := size_list N
  have q1 : (recB N.data.toList).length ≤ 1100000 := by have := (numBytes_len 5 N.data.toList.length).2; rw [recB_len]; omega
  have q2 : (recB b).length ≤ 1100000 := by have := (numBytes_len 5 b.length).2; rw [recB_len]; omega
  obtain ⟨x, hx⟩ : ∃ x, x = (recB N.data.toList).length := ⟨_, rfl⟩
  obtain ⟨y, hy⟩ : ∃ y, y = (recB b).length := ⟨_, rfl⟩
  have hr : rowLen (N.data.toList, b) = x + y := by rw [hx, hy]; rfl
  have HX := Lib.hid (And.intro hx (And.intro hy (And.intro hNl (And.intro hN hb))))
  rw [hr]
  rw [← hx] at q1
  rw [← hy] at q2
  obtain ⟨cap3, w3, hcv, hf3, hb3, _⟩ := run_tag w N (by unfold maxLen; omega)
  have H3 := Lib.hid (And.intro hf3 (And.intro hb3 (hv.keep hf3 (fun _ _ _ h => h))))
  have HL := Lib.hid (And.intro hNl (And.intro hN hb))
  clear hv hr hx hy hNl hN hb hf3 hb3
  go_enter Tryz.func104, Tryz.ntmps104
  go_wp2_with (first
    | (go_at_call 72; (with_reducible refine (textLength_any w3 (.slice (some ⟨w.heap.size, 0, none⟩) N.size cap3) N.data.toList H3.out.2.1 (by have := HL.out; omega)).mono ?_); rintro e w4 ⟨rfl, hf4⟩; rw [← HX.out.1]; (have H4 := Lib.hid (And.intro (H3.out.1.trans hf4 (fun _ h => h.elim)) (H3.out.2.2.keep hf4 (fun _ _ _ h => h)))); clear hf4)
    | (go_at_call 72; (with_reducible refine (textLength_any w4 _ b H4.out.2 (by have := HL.out; omega)).mono ?_); rintro e w5 ⟨rfl, hf5⟩; rw [← HX.out.2.1]; (have H5 := Lib.hid (H4.out.1.trans hf5 (fun _ h => h.elim))); clear hf5))
  go_ret
  exact ⟨by rw [show ((x + y : Nat) : Int) = (x : Int) + y from by push_cast; rfl]; rfl, H5.out⟩
structure RwAt (F : Nat → Prop) (w : World) (rb mb : Nat) (M : Tab) (T : TypeId) (rest : List Value) : Prop where
  row : w.heap[rb]? = some (.cells (.map (some mb) :: .int .i64 (tSum M : Nat) :: rest).toArray T (0, 0))
  tm : TMt F w mb M
  ok : tabOk M
  small : M.length ≤ 100000
  sep : rb ≠ mb ∧ ¬ F rb ∧ ¬ F mb
theorem tSum_le {M : Tab} (h : ∀ p ∈ M, keyOk p.1 ∧ p.2.length ≤ 2048) : tSum M ≤ 2200 * M.length := by
  induction M with
  | nil => simp [tSum]
  | cons p M ih =>
    have h1 := ih (fun q hq => h q (List.mem_cons_of_mem _ hq))
    have h2 := h p List.mem_cons_self
    rw [tSum_cons, List.length_cons]
    have : rowLen p ≤ 2200 := by
      unfold rowLen
      rw [recB_len, recB_len]
      have := (numBytes_len 5 p.1.length).2
      have := (numBytes_len 5 p.2.length).2
      have := h2.1.2
      omega
    omega
theorem cell_list {w : World} {g i : Nat} {l : List Value} {T : TypeId} {v : Value} (h : w.heap[g]? = some (.cells l.toArray T (0, 0))) (hi : l[i]? = some v) : w.cell? ⟨g, i, none⟩ = some v := by
  rw [cell_of_row _ _ _ _ _ _ h]
  simpa using hi
section
variable {F G S : Nat → Prop} {w w' : World} {rb mb : Nat} {M : Tab} {T : TypeId} {rest : List Value}
theorem RwAt.cells (h : RwAt F w rb mb M T rest) : w.cell? ⟨rb, 0, none⟩ = some (.map (some mb)) ∧ w.cell? ⟨rb, 1, none⟩ = some (.int .i64 (tSum M : Nat)) ∧ w.frozen? ⟨rb, 1, none⟩ = false :=
  ⟨cell_list h.row rfl, cell_list h.row rfl, by simp [World.frozen?, h.row]⟩
theorem RwAt.lt (h : RwAt F w rb mb M T rest) : rb < w.heap.size ∧ mb < w.heap.size := ⟨lt_of_block h.row, h.tm.lt⟩
theorem RwAt.sum (h : RwAt F w rb mb M T rest) : tSum M ≤ 220000000 := by
  have := tSum_le h.ok.2
  have := h.small
  omega
theorem RwAt.keep (h : RwAt F w rb mb M T rest) (hf : Fr S w w') (h1 : ¬ S rb) (h2 : ¬ S mb) (hd : ∀ k, k < w.heap.size → F k → ¬ S k) : RwAt F w' rb mb M T rest :=
  ⟨hf.heap h.row h1, h.tm.keep hf h2 hd, h.ok, h.small, h.sep⟩
theorem RwAt.quiet (h : RwAt F w rb mb M T rest) (hf : Fr (fun _ => False) w w') : RwAt F w' rb mb M T rest := h.keep hf id id (fun _ _ _ h => h)
end
set_option maxRecDepth 100000 in
theorem many_any {F : Nat → Prop} {rb mb : Nat} {M : Tab} {T : TypeId} {rest : List Value} (w : World) (h : RwAt F w rb mb M T rest) :
    Calls Tryz.prog 42 #[.pointer (some ⟨rb, 0, none⟩)] w fun e w' => e = .returned (.int .i64 M.length) ∧ w' = w := by
  obtain ⟨c0, c1, f1⟩ := h.cells
  have hlen := h.tm.len
  clear h
  go_enter Tryz.func42, Tryz.ntmps42
  go_wp2
  go_ret
  exact ⟨rfl, rfl⟩
set_option maxRecDepth 100000 in
theorem get_any {F : Nat → Prop} {rb mb : Nat} {M : Tab} {T : TypeId} {rest : List Value} (w : World) (h : RwAt F w rb mb M T rest) (N : ByteArray) (hN : N.size ≤ 1000000) :
    Calls Tryz.prog 77 #[.pointer (some ⟨rb, 0, none⟩), .string N] w fun e w' => ∃ v, e = .returned (.tuple #[v, .bool (tGet M N.data.toList).isSome]) ∧ w' = w ∧ (∀ b, tGet M N.data.toList = some b → BytesIn F w v b) ∧ (tGet M N.data.toList = none → v = .slice none 0 0) := by
  obtain ⟨c0, c1, f1⟩ := h.cells
  obtain ⟨v, hlk, h1, h2⟩ := h.tm.look N hN
  have H := Lib.hid (And.intro h1 h2)
  obtain ⟨g, hg⟩ : ∃ g, g = (tGet M N.data.toList).isSome := ⟨_, rfl⟩
  rw [← hg] at hlk ⊢
  clear h h1 h2 hg hN
  go_enter Tryz.func77, Tryz.ntmps77
  go_wp2
  refine bodyPost_ret (v := .tuple #[v, .bool g]) (by simp [results, Tryz.results77, go_sem]) rfl ⟨v, rfl, rfl, H.out.1, H.out.2⟩
end Go.Proofs.YtldgcoikbjbjeaaGreat
