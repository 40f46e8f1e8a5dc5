/- Contracts of code.Maker: put in any state, numbers, texts. -/
import Derived.Test.YthjpgnmpcllolaaMaker
import Derived.Test.YthjpgnmpcllolaaCursor
import Derived.Test.YthjpgnmpcllolaaBits
import Derived.Deep.LoopGhost
namespace Go.Proofs.Ythjpgnmpcllolaa
open Go.RowKit Go.ChangeShapes
set_option linter.unusedVariables false

theorem put_broken {b : Nat} {T : TypeId} {y x : Value} {o : Int} (w : World) (hb : w.heap[b]? = some (.cells #[y, .int .i64 o, .bool true] T (0, 0))) :
    Calls Try.prog 35 #[.pointer (some ⟨b, 0, none⟩), x] w fun r w' => r = .returned (.tuple #[]) ∧ w = w' := by
  obtain ⟨c0, c1, c2, f0, f1, f2⟩ := mak_cells hb
  clear hb
  go_enter Try.func35, Try.ntmps35
  go_wp2
  refine bodyPost_ret (results_none rfl _ _ _) rfl ?_
  exact ⟨rfl, rfl⟩

theorem put_any {F G : Nat → Prop} {b : Nat} {x : Value} {X : List UInt8} {m : Option (List UInt8)} (w : World) (hF : ∀ k, w.heap.size ≤ k → F k) (hG : ∀ k, G k → ¬ F k)
    (hm : MakAt F w b m) (hx : BytesIn G w x X) (hlen : ∀ L, m = some L → L.length + X.length ≤ 140737488355328) :
    Calls Try.prog 35 #[.pointer (some ⟨b, 0, none⟩), x] w fun r w' => r = .returned (.tuple #[]) ∧ Fr F w w' ∧ MakAt F w' b (m.map (· ++ X)) := by
  obtain ⟨h1, T, h2⟩ := id hm
  cases m with
  | none =>
    obtain ⟨hv, o, h3⟩ := h2
    exact (put_broken w h3).mono fun r w' ⟨hr, hw⟩ => ⟨hr, hw ▸ Fr.refl _ _, hw ▸ hm⟩
  | some L =>
    have hl := hlen L rfl
    rcases h2 with ⟨rfl, h4⟩ | ⟨h, sv, hne, hFh, h5, h6, h7⟩
    · exact put_fresh w hF hG h4 h1 hx (by simpa using hl)
    · exact put_held w hF h5 h6 hne h1 hFh h7 hx hl

theorem spoil_any {F : Nat → Prop} {b : Nat} {m : Option (List UInt8)} (w : World) (hm : MakAt F w b m) :
    Calls Try.prog 52 #[.pointer (some ⟨b, 0, none⟩)] w fun r w' => r = .returned (.tuple #[]) ∧ Fr F w w' ∧ MakAt F w' b none := by
  obtain ⟨h1, T, h2⟩ := id hm
  obtain ⟨x, y, z, hb⟩ : ∃ x y z, w.heap[b]? = some (.cells #[x, y, z] T (0, 0)) := by
    cases m with
    | none => obtain ⟨hv, o, h3⟩ := h2; exact ⟨_, _, _, h3⟩
    | some L => rcases h2 with ⟨rfl, h4⟩ | ⟨h, sv, hne, hFh, h5, h6, h7⟩; exact ⟨_, _, _, h4⟩; exact ⟨_, _, _, h5⟩
  obtain ⟨c0, c1, c2, f0, f1, f2⟩ := mak_cells hb
  clear h2 hm
  go_enter Try.func52, Try.ntmps52
  go_wp2
  go_end0
  refine ⟨rfl, (((Fr.refl F w).setCell (p := ⟨b, 0, none⟩) (.inl h1) _).setCell (p := ⟨b, 1, none⟩) (.inl h1) _).setCell (p := ⟨b, 2, none⟩) (.inl h1) _, h1, T, .pointer none, 0, ?_⟩
  have := heap_setCell_at (i := 2) (.bool true) (heap_setCell_at (i := 1) (.int .i64 0) (heap_setCell_at (i := 0) (.pointer none) hb))
  simpa using this

theorem one_byte (w : World) (z : Int) (x : UInt8) (hz : z = x.toNat) : BytesIn (fun k => k = w.heap.size) (w.alloc (.cells #[.int .u8 z] 5)) (.slice (some ⟨w.heap.size, 0, none⟩) 1 1) [x] := by
  subst hz
  refine ⟨_, 1, rfl, Nat.le_refl _, by simp [maxLen], (fun h => by cases h), ?_⟩
  intro a ha
  cases ha
  refine ⟨fun j u hu => ?_, fun _ => rfl⟩
  match j, hu with
  | 0, hu =>
    simp at hu
    subst hu
    have := heap_alloc_new w (.cells #[bv x] 5)
    simp only [Addr.add, if_true]
    exact cell_of_one this

/-- A put of bytes that lie in one new block. -/
theorem put_new {F : Nat → Prop} {b : Nat} {x : Value} {X : List UInt8} {m : Option (List UInt8)} (w : World) (o : Obj) (hF : ∀ k, w.heap.size ≤ k → F k)
    (hm : MakAt F w b m) (hx : BytesIn (fun k => k = w.heap.size) (w.alloc o) x X) (hlen : ∀ L, m = some L → L.length + X.length ≤ 140737488355328) :
    Calls Try.prog 35 #[.pointer (some ⟨b, 0, none⟩), x] (w.alloc o) fun r w' => r = .returned (.tuple #[]) ∧ Fr F w w' ∧ MakAt F w' b (m.map (· ++ X)) := by
  have h1 : MakAt (fun k => F k ∧ k ≠ w.heap.size) (w.alloc o) b m := (hm.mono (fun k hk h => ⟨h, by omega⟩)).keep (S := fun _ => False) ((Fr.refl _ _).alloc o) (fun _ _ _ h => h)
  refine (put_any (F := fun k => F k ∧ k ≠ w.heap.size) (w.alloc o) (fun k hk => ⟨hF k ?_, ?_⟩) (fun k hk h => h.2 hk) h1 hx hlen).mono fun r w' ⟨hr, hf, hM⟩ => ⟨hr, ?_, hM.mono fun k _ h => h.1⟩
  · simp at hk; omega
  · simp at hk; omega
  · exact ((Fr.refl F w).alloc o).trans hf (fun i hi => .inl hi.1)

theorem map_app (m : Option (List UInt8)) (P X : List UInt8) : (m.map (· ++ P)).map (· ++ X) = m.map (· ++ (P ++ X)) := by
  cases m <;> simp

theorem number_any {F : Nat → Prop} {b : Nat} {m : Option (List UInt8)} (n : Nat) (w : World) (hn : n ≤ 1099511627776) (hF : ∀ k, w.heap.size ≤ k → F k)
    (hm : MakAt F w b m) (hlen : ∀ L, m = some L → L.length + 6 ≤ 140737488355328) :
    Calls Try.prog 34 #[.pointer (some ⟨b, 0, none⟩), .int .i64 n] w fun r w' => r = .returned (.tuple #[]) ∧ Fr F w w' ∧ MakAt F w' b (m.map (· ++ numBytes 5 n)) := by
  have hb : isNumB (n : Int) = true := isNumB_yes (by omega) (by omega)
  go_enter Try.func34, Try.ntmps34
  go_wp2_with (go_at_call 51; refine (isNum_any _ _).mono ?_; rintro e w' ⟨rfl, rfl⟩)
  go_step3
  go_wp2_with (go_at_call 51; refine (isNum_any _ _).mono ?_; rintro e w' ⟨rfl, rfl⟩)
  go_step3
  go_wp2
  have HF := Lib.hid hF
  have HM := Lib.hid hm
  have HL := Lib.hid hlen
  clear hF hm hlen hb
  go_loopg [1] 5 (fun i v wr => ∃ (r : Nat) (P : List UInt8), v = .int .i64 r ∧ Hid (r < 128 ^ (i + 1)) ∧ r ≤ 1099511627776 ∧ Hid (P ++ numBytes i r = numBytes 5 n) ∧ P.length + i ≤ 5 ∧ Hid (MakAt F wr b (m.map (· ++ P))) ∧ Hid (Fr F w wr))
  case atStart => exact ⟨n, [], rfl, Lib.hid (by omega), hn, Lib.hid rfl, by simp, Lib.hid (by simpa using HM.out), Lib.hid (Fr.refl _ _)⟩
  case round =>
    obtain ⟨r, P, rfl, hr, hrn, hP, hPl, hM, hFr⟩ := hrel
    clear HM
    obtain ⟨y, e1, hy⟩ : ∃ y : Nat, bits .and .i64 (r : Int) 127 = (y : Int) ∧ y = r % 128 := ⟨_, i64_and127 r (by omega), rfl⟩
    have hy1 : y < 128 := by omega
    have HY := Lib.hid hy
    clear hy
    by_cases hlt : r < 128
    · have hPE := Lib.hid (show P ++ [UInt8.ofNat y] = numBytes 5 n by
        rw [← hP.out, HY.out, Nat.mod_eq_of_lt hlt]
        cases gk with
        | zero => rfl
        | succ k => rw [numBytes, if_pos hlt])
      have hq : ((r : Int) / 128 == 0) = true := by rw [beq_iff_eq]; omega
      clear hP hr
      have hx : (y : Int) = ((UInt8.ofNat y).toNat : Int) := by rw [UInt8.toNat_ofNat']; omega
      have HP := Lib.hid (put_new (x := .slice (some ⟨wr.heap.size, 0, none⟩) 1 1) wr (.cells #[.int .u8 (y : Int)] 5) (fun k hk => HF.out k (Nat.le_trans hFr.out.size hk)) hM.out (one_byte wr _ _ hx) (by intro L' hL'; obtain ⟨L0, hL0, rfl⟩ := Option.map_eq_some_iff.1 hL'; have := HL.out L0 hL0; simp; omega))
      clear hx
      go_wp2_with (go_at_call 35; refine HP.out.mono ?_; rintro e w1 ⟨rfl, hf1, hM1⟩; have H1 := Lib.hid hf1; have H2 := Lib.hid hM1; clear hf1 hM1)
      rw [Exit.noGoto_normal]
      go_end0
      exact ⟨rfl, hFr.out.trans H1.out (fun i hi => .inl hi), by have := H2.out; rw [map_app, hPE.out] at this; exact this⟩
    · have hP' : gk ≠ 0 := by rintro rfl; have := hr.out; omega
      obtain ⟨k, rfl⟩ : ∃ k, gk = k + 1 := ⟨gk - 1, by omega⟩
      have hPE := Lib.hid (show (P ++ [UInt8.ofNat (y + 128)]) ++ numBytes k (r / 128) = numBytes 5 n by
        rw [← hP.out, HY.out, numBytes, if_neg hlt]; simp)
      have hr1 := Lib.hid (show r / 128 < 128 ^ (k + 1) by have := hr.out; rw [Nat.pow_succ] at this; omega)
      have hq : ((r : Int) / 128 == 0) = false := by rw [beq_eq_false_iff_ne]; omega
      have e4 := u8_or128 y hy1
      clear hP hr
      have hx : ((y : Int) + 128) = ((UInt8.ofNat (y + 128)).toNat : Int) := by rw [UInt8.toNat_ofNat']; omega
      have HP := Lib.hid (put_new (x := .slice (some ⟨wr.heap.size, 0, none⟩) 1 1) wr (.cells #[.int .u8 ((y : Int) + 128)] 5) (fun k hk => HF.out k (Nat.le_trans hFr.out.size hk)) hM.out (one_byte wr _ _ hx) (by intro L' hL'; obtain ⟨L0, hL0, rfl⟩ := Option.map_eq_some_iff.1 hL'; have := HL.out L0 hL0; simp; omega))
      clear hx
      go_wp2_with (go_at_call 35; refine HP.out.mono ?_; rintro e w1 ⟨rfl, hf1, hM1⟩; have H1 := Lib.hid hf1; have H2 := Lib.hid hM1; clear hf1 hM1)
      go_roundg k
      case measure => omega
      case rel => exact ⟨r / 128, P ++ [UInt8.ofNat (y + 128)], by go_num, hr1, by omega, hPE, by simp; omega, Lib.hid (by have := H2.out; rw [map_app] at this; exact this), Lib.hid (hFr.out.trans H1.out (fun i hi => .inl hi))⟩

theorem number_bad {F : Nat → Prop} {b : Nat} {m : Option (List UInt8)} (n : Int) (w : World) (hn : n < 0 ∨ 1099511627776 < n) (hm : MakAt F w b m) :
    Calls Try.prog 34 #[.pointer (some ⟨b, 0, none⟩), .int .i64 n] w fun r w' => r = .returned (.tuple #[]) ∧ Fr F w w' ∧ MakAt F w' b none := by
  have hb : isNumB n = false := isNumB_no hn
  clear hn
  go_enter Try.func34, Try.ntmps34
  go_step3
  go_wp2_with (first
    | (go_at_call 51; refine (isNum_any _ _).mono ?_; rintro e w' ⟨rfl, rfl⟩)
    | (go_at_call 52; refine (spoil_any _ hm).mono ?_; rintro e w1 ⟨rfl, hf1, hM1⟩; have H1 := Lib.hid hf1; have H2 := Lib.hid hM1; clear hf1 hM1))
  rw [Exit.noGoto_ret]
  refine bodyPost_ret (results_none rfl _ _ _) rfl ?_
  exact ⟨rfl, H1.out, H2.out⟩

/-- What number does to a maker. -/
def mkNum (n : Int) (m : Option (List UInt8)) : Option (List UInt8) := if 0 ≤ n ∧ n ≤ 1099511627776 then m.map (· ++ numBytes 5 n.toNat) else none
/-- What text does to a maker. -/
def mkText (X : List UInt8) (m : Option (List UInt8)) : Option (List UInt8) := if X.length ≤ 1048576 then m.map (· ++ (numBytes 5 X.length ++ X)) else none

theorem number_all {F : Nat → Prop} {b : Nat} {m : Option (List UInt8)} (n : Int) (w : World) (hF : ∀ k, w.heap.size ≤ k → F k)
    (hm : MakAt F w b m) (hlen : ∀ L, m = some L → L.length + 6 ≤ 140737488355328) :
    Calls Try.prog 34 #[.pointer (some ⟨b, 0, none⟩), .int .i64 n] w fun r w' => r = .returned (.tuple #[]) ∧ Fr F w w' ∧ MakAt F w' b (mkNum n m) := by
  by_cases h : 0 ≤ n ∧ n ≤ 1099511627776
  · obtain ⟨k, rfl⟩ := Int.eq_ofNat_of_zero_le h.1
    rw [mkNum, if_pos h]
    exact number_any k w (by omega) hF hm hlen
  · rw [mkNum, if_neg h]
    exact number_bad n w (by omega) hm

theorem text_any {F G : Nat → Prop} {b : Nat} {x : Value} {X : List UInt8} {m : Option (List UInt8)} (w : World) (hF : ∀ k, w.heap.size ≤ k → F k) (hG : ∀ k, G k → ¬ F k)
    (hm : MakAt F w b m) (hx : BytesIn G w x X) (hlen : ∀ L, m = some L → L.length + 6 + X.length ≤ 140737488355328) :
    Calls Try.prog 36 #[.pointer (some ⟨b, 0, none⟩), x] w fun r w' => r = .returned (.tuple #[]) ∧ Fr F w w' ∧ MakAt F w' b (mkText X m) := by
  obtain ⟨ao, cap, rfl, hl, hmx, _⟩ := id hx
  unfold maxLen at hmx
  by_cases h : X.length ≤ 1048576
  · rw [mkText, if_pos h]
    have HN := Lib.hid (number_any X.length w (by omega) hF hm (fun L hL => by have := hlen L hL; omega))
    have HX := Lib.hid hx
    have HF := Lib.hid hF
    have HL := Lib.hid hlen
    have hnl := numBytes_len 5 X.length
    have HNL := Lib.hid hnl
    have HG := Lib.hid hG
    clear hx hF hlen hm hnl hG
    go_enter Try.func36, Try.ntmps36
    go_wp2_with (go_at_call 34; refine HN.out.mono ?_; rintro e w1 ⟨rfl, hf1, hM1⟩; have H1 := Lib.hid hf1; have H2 := Lib.hid hM1; clear hf1 hM1)
    refine (put_any (F := F) (G := G) w1 (fun k hk => HF.out k (Nat.le_trans H1.out.size hk)) HG.out H2.out (HX.out.keep H1.out (fun k _ => HG.out k)) ?_).mono ?_
    · intro L' hL'
      obtain ⟨L0, hL0, rfl⟩ := Option.map_eq_some_iff.1 hL'
      have := HL.out L0 hL0
      have := HNL.out.2
      simp
      omega
    · rintro e w2 ⟨rfl, hf2, hM2⟩
      have H3 := Lib.hid hf2
      have H4 := Lib.hid hM2
      clear hf2 hM2
      go_wp2
      go_end0
      exact ⟨rfl, H1.out.trans H3.out (fun i hi => .inl hi), by have := H4.out; rw [map_app] at this; exact this⟩
  · rw [mkText, if_neg h]
    have HS := Lib.hid (spoil_any w hm)
    clear hx hF hlen hm hG
    go_enter Try.func36, Try.ntmps36
    go_wp2_with (go_at_call 52; refine HS.out.mono ?_; rintro e w1 ⟨rfl, hf1, hM1⟩; have H1 := Lib.hid hf1; have H2 := Lib.hid hM1; clear hf1 hM1)
    refine bodyPost_ret (results_none rfl _ _ _) rfl ?_
    exact ⟨rfl, H1.out, H2.out⟩

end Go.Proofs.Ythjpgnmpcllolaa
