/- Laid together: RefCur JRHead -/
import Derived.Test.YtldgcoikbjbjeaaGreatTk30
import Derived.Test.YtldgcoikbjbjeaaGreatTk20
import Derived.Test.YtldgcoikbjbjeaaGreatTk31
import Derived.Test.YtldgcoikbjbjeaaGreatTk21

namespace Go.Proofs.YtldgcoikbjbjeaaGreat
open Go.RowKit Go.ChangeShapes
set_option linter.unusedVariables false
theorem numBytes_short (j : Nat) : ∀ k n, n < 128 ^ (j + 1) → (numBytes k n).length ≤ j + 1 := by
  induction j with
  | zero =>
    intro k n h
    cases k with
    | zero => simp [numBytes]
    | succ k => rw [numBytes, if_pos (by omega)]; simp
  | succ j ih =>
    intro k n h
    cases k with
    | zero => simp [numBytes]
    | succ k =>
      rw [numBytes]
      split
      · simp
      · have := ih k (n / 128) (by rw [Nat.pow_succ] at h; omega)
        simp only [List.length_cons]
        omega
theorem numBytes_long (j : Nat) : ∀ k n, j ≤ k → 128 ^ j ≤ n → j + 1 ≤ (numBytes k n).length := by
  induction j with
  | zero => intro k n _ _; exact (numBytes_len k n).1
  | succ j ih =>
    intro k n hk h
    obtain ⟨k, rfl⟩ : ∃ m, k = m + 1 := ⟨k - 1, by omega⟩
    have h1 : 128 ≤ 128 ^ (j + 1) := by
      have := Nat.pow_le_pow_right (show 0 < 128 by decide) (show 1 ≤ j + 1 by omega)
      omega
    rw [numBytes, if_neg (by omega)]
    have := ih k (n / 128) (by omega) (by rw [Nat.pow_succ] at h; omega)
    simp only [List.length_cons]
    omega
theorem gathered_len (i n x : Nat) (hi : i ≤ 5) (hn : n < 128 ^ i) (hx : x < 128) : (numBytes 5 (n + x * 128 ^ i)).length = i + 1 ↔ ¬ (0 < i ∧ x = 0) := by
  by_cases h0 : 0 < i ∧ x = 0
  · obtain ⟨h1, rfl⟩ := h0
    obtain ⟨j, rfl⟩ : ∃ j, i = j + 1 := ⟨i - 1, by omega⟩
    have := numBytes_short j 5 n hn
    simp
    omega
  · have h1 : n + x * 128 ^ i < 128 ^ (i + 1) := by
      have : x * 128 ^ i ≤ 127 * 128 ^ i := Nat.mul_le_mul_right _ (by omega)
      rw [Nat.pow_succ]
      omega
    have h2 := numBytes_short i 5 _ h1
    have h3 : i + 1 ≤ (numBytes 5 (n + x * 128 ^ i)).length := by
      by_cases hi0 : i = 0
      · subst hi0; exact (numBytes_len 5 _).1
      · refine numBytes_long i 5 _ hi ?_
        have : 1 * 128 ^ i ≤ x * 128 ^ i := Nat.mul_le_mul_right _ (by omega)
        omega
    constructor
    · intro _; exact h0
    · intro _; omega
theorem numFrom_more (f i n : Nat) (X : List UInt8) (h : i < X.length) (hx : 128 ≤ (X[i]).toNat) : numFrom (f + 1) i n (X.drop i) = numFrom f (i + 1) (n + (X[i]).toNat % 128 * 128 ^ i) (X.drop (i + 1)) := by
  rw [List.drop_eq_getElem_cons h, numFrom, if_pos hx]
theorem numFrom_last (f i n : Nat) (X : List UInt8) (h : i < X.length) (hx : (X[i]).toNat < 128) : numFrom (f + 1) i n (X.drop i) = if (0 < i ∧ (X[i]).toNat = 0) ∨ 1099511627776 < n + (X[i]).toNat * 128 ^ i then none else some (n + (X[i]).toNat * 128 ^ i, i + 1) := by
  rw [List.drop_eq_getElem_cons h, numFrom, if_neg (by omega), Nat.mod_eq_of_lt hx]
def RCur (F : Nat → Prop) (w : World) (b : Nat) (X : List UInt8) (e : Int) : Prop :=
  ∃ v T, w.heap[b]? = some (.cells #[v, .int .i64 e] T (0, 0)) ∧ BytesIn F w v X ∧ ¬ F b
theorem RCur.keep {F S : Nat → Prop} {w w' : World} {b : Nat} {X : List UInt8} {e : Int} (h : RCur F w b X e) (hf : Fr S w w') (hb : ¬ S b) (hd : ∀ k, k < w.heap.size → F k → ¬ S k) : RCur F w' b X e := by
  obtain ⟨v, T, h1, h2, h3⟩ := h
  exact ⟨v, T, hf.heap h1 hb, h2.keep hf hd, h3⟩
theorem RCur.facts {F : Nat → Prop} {w : World} {b : Nat} {X : List UInt8} {e : Int} (h : RCur F w b X e) :
    ∃ v, w.cell? ⟨b, 0, none⟩ = some v ∧ w.cell? ⟨b, 1, none⟩ = some (.int .i64 e) ∧ w.frozen? ⟨b, 0, none⟩ = false ∧ w.frozen? ⟨b, 1, none⟩ = false ∧ BytesIn F w v X := by
  obtain ⟨v, T, h1, h2, h3⟩ := h
  exact ⟨v, by simp [World.cell?, h1], by simp [World.cell?, h1], by simp [World.frozen?, h1], by simp [World.frozen?, h1], h2⟩
theorem RCur.lt {F : Nat → Prop} {w : World} {b : Nat} {X : List UInt8} {e : Int} (h : RCur F w b X e) : b < w.heap.size := by
  obtain ⟨v, T, h1, _⟩ := h
  exact lt_of_block h1
theorem RCur.store {F : Nat → Prop} {w : World} {b : Nat} {X : List UInt8} {e : Int} (h : RCur F w b X e) (e' : Int) (v' : Value) (X' : List UInt8) (hv : BytesIn F w v' X') :
    RCur F ((w.setCell ⟨b, 1, none⟩ (.int .i64 e')).setCell ⟨b, 0, none⟩ v') b X' e' := by
  obtain ⟨v, T, h1, h2, h3⟩ := h
  refine ⟨v', T, ?_, ?_, h3⟩
  · have := heap_setCell_at (i := 0) v' (heap_setCell_at (i := 1) (.int .i64 e') h1)
    simpa using this
  · exact hv.keep (S := (· = b)) (Fr.two _ _ _ _ _ _) (fun k _ hk hb => h3 (hb ▸ hk))
theorem RCur.store0 {F : Nat → Prop} {w : World} {b : Nat} {X : List UInt8} {e : Int} (h : RCur F w b X e) (v' : Value) (X' : List UInt8) (hv : BytesIn F w v' X') :
    RCur F (w.setCell ⟨b, 0, none⟩ v') b X' e := by
  obtain ⟨v, T, h1, h2, h3⟩ := h
  refine ⟨v', T, ?_, ?_, h3⟩
  · have := heap_setCell_at (i := 0) v' h1
    simpa using this
  · exact hv.keep (S := (· = b)) (Fr.one _ _ _ _) (fun k _ hk hb => h3 (hb ▸ hk))
theorem rfail_any {F : Nat → Prop} {b : Nat} {X : List UInt8} {e : Int} (e' : Int) (w : World) (h : RCur F w b X e) :
    Calls Tryz.prog 176 #[.pointer (some ⟨b, 0, none⟩), .int .i64 e'] w fun r w' => r = .returned (.tuple #[]) ∧ Fr (· = b) w w' ∧ RCur F w' b [] (if e = 0 then e' else e) := by
  by_cases he : e = 0
  · subst he
    have hfin := Lib.hid (h.store e' (.slice none 0 0) [] (BytesIn.nil _ _))
    obtain ⟨v, c0, c1, f0, f1, hb⟩ := h.facts
    rw [if_pos rfl]
    clear h hb
    go_enter Tryz.func176, Tryz.ntmps176
    go_wp2
    go_end0
    exact ⟨rfl, Fr.two _ _ _ _ _ _, hfin.out⟩
  · have hfin := Lib.hid (h.store0 (.slice none 0 0) [] (BytesIn.nil _ _))
    obtain ⟨v, c0, c1, f0, f1, hb⟩ := h.facts
    rw [if_neg he]
    have he' : (e == 0) = false := by simpa using he
    clear h hb he
    go_enter Tryz.func176, Tryz.ntmps176
    go_wp2
    go_end0
    exact ⟨rfl, Fr.one _ _ _ _, hfin.out⟩
set_option maxHeartbeats 4000000 in
set_option maxRecDepth 100000 in
theorem rNum_any {F : Nat → Prop} {b : Nat} {X : List UInt8} {e : Int} (most : Int) (w : World) (h : RCur F w b X e) (he0 : e ≠ 0 → X = []) (hX : X.length ≤ 1000000) :
    Calls Tryz.prog 153 #[.pointer (some ⟨b, 0, none⟩), .int .i64 most] w fun r w' => r = .returned (.int .i64 (curNum most X e).1) ∧ Fr (· = b) w w' ∧ RCur F w' b (curNum most X e).2.1 (curNum most X e).2.2 := by
  by_cases he : e = 0
  · subst he
    clear he0
    have HC := rfail_any 4 w h
    rw [if_pos rfl] at HC
    have HC := Lib.hid HC
    obtain ⟨v, c0, c1, f0, f1, hb⟩ := h.facts
    have HB := Lib.hid hb
    have HH := Lib.hid h
    by_cases hnil : X = []
    · have hR : curNum most X 0 = (0, [], 4) := by subst hnil; simp [curNum, numS, numOf, numFrom]
      rw [hR]
      obtain ⟨ao, cap, rfl, hl, hm, _⟩ := hb
      subst hnil
      clear h hR
      go_enter Tryz.func153, Tryz.ntmps153
      go_wp2
      refine wp_loop_rounds 1 ?_
      rw [rounds_succ]
      go_wp2_with (go_at_call 176; refine HC.out.mono ?_; rintro e w1 ⟨rfl, hf1, hc1⟩; have H1 := Lib.hid (And.intro hf1 hc1); clear hf1 hc1)
      go_ret
      exact ⟨rfl, H1.out⟩
    · obtain ⟨b', off, cap, rfl, h1, hm, hF, hc⟩ := hb.plain hnil
      have hcA : ∀ j, (hj : j < X.length) → w.cell? ⟨b', off + j, none⟩ = some (.int .u8 (X[j]).toNat) := hc
      have HCA := Lib.hid hcA
      obtain ⟨l, hl⟩ : ∃ l, l = X.length := ⟨_, rfl⟩
      have HLN := Lib.hid hl
      rw [← hl] at c0 h1 hX
      unfold maxLen at hm
      obtain ⟨RS, hRS⟩ : ∃ RS, RS = curNum most X 0 := ⟨_, rfl⟩
      rw [← hRS]
      have HRS := Lib.hid hRS
      clear h hb hc hcA hnil hl hRS
      go_enter Tryz.func153, Tryz.ntmps153
      go_wp2
      go_loop [5, 6, 7] (fun nv uv iv => ∃ n u i : Nat, i ≤ 6 ∧ nv = .int .i64 n ∧ uv = .int .i64 u ∧ iv = .int .i64 i ∧ n < 4398046511104 ∧ u ≤ 4398046511104 ∧ Hid (i ≤ l ∧ u = 128 ^ i ∧ n < 128 ^ i ∧ numFrom (6 - i) i n (X.drop i) = numOf X)) (fun _ _ iv => 6 - (intOf iv).toNat)
      case atStart => exact ⟨0, 1, 0, by omega, rfl, rfl, rfl, by omega, by omega, Lib.hid ⟨by omega, rfl, by omega, rfl⟩⟩
      case round =>
        obtain ⟨n, u, i, hi6, rfl, rfl, rfl, hn, hu, hR⟩ := hrel
        by_cases hlt6 : i < 6
        · by_cases hltl : i < l
          · have hil : i < X.length := by have := HLN.out; omega
            have ci := HCA.out i hil
            obtain ⟨x, hx⟩ : ∃ x, x = (X[i]).toNat := ⟨_, rfl⟩
            have hx8 : x < 256 := by rw [hx]; exact (X[i]).toNat_lt
            rw [← hx] at ci
            obtain ⟨z, hz⟩ : ∃ z, z = x % 128 * u := ⟨_, rfl⟩
            have hzi : (x : Int) % 128 * (u : Int) = (z : Int) := by rw [hz]; push_cast; rfl
            have hpi : 128 ^ i ≤ 128 ^ 5 := Nat.pow_le_pow_right (by decide) (by omega)
            have hub : u ≤ 34359738368 := by have := hR.out.2.1; omega
            have hzb : z ≤ 127 * u := by rw [hz]; exact Nat.mul_le_mul_right _ (by omega)
            have hnb : n < u := by have := hR.out.2.1; have := hR.out.2.2.1; omega
            have hnz : n + z < 128 * u := by omega
            have HZ := Lib.hid hz
            have HX := Lib.hid hx
            clear hz hx hpi
            by_cases hx128 : 128 ≤ x
            · have HN2 := Lib.hid (show i + 1 ≤ l ∧ u * 128 = 128 ^ (i + 1) ∧ n + z < 128 ^ (i + 1) ∧ numFrom (6 - (i + 1)) (i + 1) (n + z) (X.drop (i + 1)) = numOf X by
                have e1 := hR.out
                have e2 := numFrom_more (6 - (i + 1)) i n X hil (by rw [← HX.out]; exact hx128)
                refine ⟨by omega, by rw [e1.2.1, Nat.pow_succ], by rw [Nat.pow_succ, ← e1.2.1]; omega, ?_⟩
                rw [← e1.2.2.2, show 6 - i = (6 - (i + 1)) + 1 by omega, e2, ← HX.out, ← e1.2.1, HZ.out])
              clear hR
              go_wp2_with fail
              go_round
              case rel => exact ⟨n + z, u * 128, i + 1, by omega, by go_num, by go_num, by go_num, by omega, by omega, HN2⟩
              case measure => simp [intOf]; omega
            · have hmod : x % 128 = x := Nat.mod_eq_of_lt (by omega)
              have hL := gathered_len i n x (by omega) hR.out.2.2.1 (by omega)
              have e2 := numFrom_last (6 - (i + 1)) i n X hil (by rw [← HX.out]; omega)
              rw [← HX.out] at e2
              have e3 : n + x * 128 ^ i = n + z := by rw [HZ.out, hmod, hR.out.2.1]
              rw [e3] at hL e2
              have e4 : numOf X = if (0 < i ∧ x = 0) ∨ 1099511627776 < n + z then none else some (n + z, i + 1) := by
                rw [← hR.out.2.2.2, show 6 - i = (6 - (i + 1)) + 1 by omega, e2]
              obtain ⟨m, hm'⟩ : ∃ m, m = n + z := ⟨_, rfl⟩
              have hmi : (n : Int) + (z : Int) = (m : Int) := by omega
              have hmb : m < 4398046511104 := by omega
              rw [← hm'] at hL e4
              have HNUM := Lib.hid (refNumber_wide m w hmb)
              obtain ⟨q, hq⟩ : ∃ q, q = (numBytes 5 m).length := ⟨_, rfl⟩
              have hqb := (numBytes_len 5 m).2
              rw [← hq] at hL hqb
              have HQ := Lib.hid hq
              have HU := Lib.hid hR.out.2.1
              clear hR e2 e3 hq hm' hnz hnb
              by_cases hlast : 0 < i ∧ x = 0
              · have hR0 : curNum most X 0 = (0, [], 4) := by
                  rw [if_pos (.inl hlast)] at e4
                  simp [curNum, numS, e4]
                have HR0 := Lib.hid (HRS.out.trans hR0)
                have hq1 : q ≠ i + 1 := fun h => hL.1 h hlast
                have hq2 : ((q : Int) != (i : Int) + 1) = true := by rw [bne_iff_ne]; omega
                have hq3 : ((q : Int) == (i : Int) + 1) = false := by rw [beq_eq_false_iff_ne]; omega
                clear hL e4 hR0 hlast hq1 hmod
                go_wp2_with (first
                  | (go_at_call 175; refine HNUM.out.mono ?_; rintro e w3 ⟨u3, rfl, hu3, hf3⟩; obtain ⟨a3, c3, hv3⟩ := hu3.len; rw [← HQ.out] at hv3; subst hv3; have HC3 := Lib.hid (rfail_any 4 w3 (HH.out.keep hf3 (fun h => h) (fun _ _ _ h => h))); rw [if_pos rfl] at HC3; have HF3 := Lib.hid hf3; clear hu3 hf3)
                  | (go_at_call 176; refine HC3.out.mono ?_; rintro e w1 ⟨rfl, hf1, hc1⟩; have H1 := Lib.hid (And.intro ((HF3.out.mono (fun _ _ h => h.elim)).trans hf1 (fun _ h => .inl h)) hc1); clear hf1 hc1))
                go_ret
                rw [HR0.out]
                exact ⟨rfl, H1.out⟩
              · have hq1 : q = i + 1 := hL.2 hlast
                have hq2 : ((q : Int) != (i : Int) + 1) = false := by rw [bne_eq_false_iff_eq]; omega
                have hq3 : ((q : Int) == (i : Int) + 1) = true := by rw [beq_iff_eq]; omega
                by_cases hbig : 1099511627776 < m
                · have hR0 : curNum most X 0 = (0, [], 4) := by
                    rw [if_pos (.inr hbig)] at e4
                    simp [curNum, numS, e4]
                  have HR0 := Lib.hid (HRS.out.trans hR0)
                  clear hL e4 hR0 hlast hq1 hmod
                  go_wp2_with (first
                    | (go_at_call 175; refine HNUM.out.mono ?_; rintro e w3 ⟨u3, rfl, hu3, hf3⟩; obtain ⟨a3, c3, hv3⟩ := hu3.len; rw [← HQ.out] at hv3; subst hv3; have HC3 := Lib.hid (rfail_any 4 w3 (HH.out.keep hf3 (fun h => h) (fun _ _ _ h => h))); rw [if_pos rfl] at HC3; have HF3 := Lib.hid hf3; clear hu3 hf3)
                    | (go_at_call 176; refine HC3.out.mono ?_; rintro e w1 ⟨rfl, hf1, hc1⟩; have H1 := Lib.hid (And.intro ((HF3.out.mono (fun _ _ h => h.elim)).trans hf1 (fun _ h => .inl h)) hc1); clear hf1 hc1))
                  go_ret
                  rw [HR0.out]
                  exact ⟨rfl, H1.out⟩
                · rw [if_neg (by rintro (h | h); exact hlast h; exact hbig h)] at e4
                  by_cases hmost : most < (m : Int)
                  · have hR0 : curNum most X 0 = (0, [], 4) := by simp [curNum, numS, numV, e4, hmost]
                    have HR0 := Lib.hid (HRS.out.trans hR0)
                    clear hL e4 hR0 hlast hq1 hmod
                    go_wp2_with (first
                      | (go_at_call 175; refine HNUM.out.mono ?_; rintro e w3 ⟨u3, rfl, hu3, hf3⟩; obtain ⟨a3, c3, hv3⟩ := hu3.len; rw [← HQ.out] at hv3; subst hv3; have HC3 := Lib.hid (rfail_any 4 w3 (HH.out.keep hf3 (fun h => h) (fun _ _ _ h => h))); rw [if_pos rfl] at HC3; have HF3 := Lib.hid hf3; clear hu3 hf3)
                      | (go_at_call 176; refine HC3.out.mono ?_; rintro e w1 ⟨rfl, hf1, hc1⟩; have H1 := Lib.hid (And.intro ((HF3.out.mono (fun _ _ h => h.elim)).trans hf1 (fun _ h => .inl h)) hc1); clear hf1 hc1))
                    go_ret
                    rw [HR0.out]
                    exact ⟨rfl, H1.out⟩
                  · have hR0 : curNum most X 0 = ((m : Int), X.drop (i + 1), 0) := by simp [curNum, numS, numV, e4, hmost]
                    have HR0 := Lib.hid (HRS.out.trans hR0)
                    have HCL := Lib.hid (HB.out.cutLow (i + 1) (by omega))
                    rw [← HLN.out] at HCL
                    have kl := fun (w : World) => run_cutLow w (some ⟨b', off, none⟩) l cap (i + 1) (by omega)
                    have kc : ((i + 1 : Nat) : Int) = (i : Int) + 1 := by omega
                    rw [kc] at kl
                    clear hL e4 hR0 hlast hq1 hmod kc
                    go_wp2_with (first
                      | (go_at_call 175; refine HNUM.out.mono ?_; rintro e w3 ⟨u3, rfl, hu3, hf3⟩; obtain ⟨a3, c3, hv3⟩ := hu3.len; rw [← HQ.out] at hv3; subst hv3; have HH3 := Lib.hid (HH.out.keep hf3 (fun h => h) (fun _ _ _ h => h)); have d0 := hf3.cell c0 (fun h => h); obtain ⟨_, _, _, g0, _, _⟩ := HH3.out.facts; have HF3 := Lib.hid hf3; clear hu3 hf3)
                      | fail)
                    go_ret
                    rw [HR0.out]
                    exact ⟨rfl, (HF3.out.mono (fun _ _ h => h.elim)).trans (Fr.one _ _ _ _) (fun _ h => .inl h), HH3.out.store0 _ _ (HCL.out.keep HF3.out (fun _ _ _ h => h))⟩
          · have hR0 : curNum most X 0 = (0, [], 4) := by
              have e1 := hR.out.2.2.2
              rw [numFrom_end (by have := HLN.out; omega)] at e1
              simp [curNum, numS, ← e1]
            have HR0 := Lib.hid (HRS.out.trans hR0)
            clear hR hR0
            go_wp2_with (go_at_call 176; refine HC.out.mono ?_; rintro e w1 ⟨rfl, hf1, hc1⟩; have H1 := Lib.hid (And.intro hf1 hc1); clear hf1 hc1)
            go_ret
            rw [HR0.out]
            exact ⟨rfl, H1.out⟩
        · have hR0 : curNum most X 0 = (0, [], 4) := by
            have e1 := hR.out.2.2.2
            rw [show 6 - i = 0 by omega, numFrom] at e1
            simp [curNum, numS, ← e1]
          have HR0 := Lib.hid (HRS.out.trans hR0)
          clear hR hR0
          go_wp2_with (go_at_call 176; refine HC.out.mono ?_; rintro e w1 ⟨rfl, hf1, hc1⟩; have H1 := Lib.hid (And.intro hf1 hc1); clear hf1 hc1)
          go_ret
          rw [HR0.out]
          exact ⟨rfl, H1.out⟩
  · obtain rfl := he0 he
    have hR : curNum most [] e = (0, [], e) := by simp [curNum, he]
    have HC := rfail_any 4 w h
    rw [if_neg he] at HC
    have HC := Lib.hid HC
    obtain ⟨v, c0, c1, f0, f1, hb⟩ := h.facts
    obtain ⟨ao, cap, rfl, hl, hm, _⟩ := hb
    rw [hR]
    clear h hR he0 hX
    go_enter Tryz.func153, Tryz.ntmps153
    go_wp2
    refine wp_loop_rounds 1 ?_
    rw [rounds_succ]
    go_wp2_with (go_at_call 176; refine HC.out.mono ?_; rintro e w1 ⟨rfl, hf1, hc1⟩; have H1 := Lib.hid (And.intro hf1 hc1); clear hf1 hc1)
    go_ret
    exact ⟨rfl, H1.out⟩
end Go.Proofs.YtldgcoikbjbjeaaGreat
namespace Go.Proofs.YtldgcoikbjbjeaaGreat
open Go.RowKit Go.ChangeShapes
set_option linter.unusedVariables false
structure RhAt (w0 w : World) (l la d gs gr gh b : Nat) (x1 x2 x3 x4 : Int) (G : Nat → Prop) (X : List UInt8) : Prop where
  shp : w.heap[gs]? = some (.cells #[.int .i64 l, .int .i64 la, .int .i64 d] 23 (0, 0))
  res : w.heap[gr]? = some (.cells #[.int .i64 0, .int .i64 0, .int .i64 0, .int .i64 0] 155 (0, 0))
  got : w.heap[gh]? = some (.cells #[.int .i64 x1, .int .i64 x2, .int .i64 x3, .int .i64 x4] 155 (0, 0))
  cur : RCur G w b X 0
  sep : (gs ≠ gr ∧ gs ≠ gh ∧ gs ≠ b ∧ gr ≠ gh ∧ gr ≠ b ∧ gh ≠ b) ∧ (w0.heap.size ≤ gs ∧ w0.heap.size ≤ gr ∧ w0.heap.size ≤ gh ∧ w0.heap.size ≤ b) ∧ ∀ k, G k → k < w0.heap.size
  fr : Fr (fun _ => False) w0 w
theorem RhAt.go {w0 w w' : World} {l la d gs gr gh b : Nat} {x1 x2 x3 x4 : Int} {G : Nat → Prop} {X Y : List UInt8} (h : RhAt w0 w l la d gs gr gh b x1 x2 x3 x4 G X) (hf : Fr (· = b) w w') (hc : RCur G w' b Y 0) : RhAt w0 w' l la d gs gr gh b x1 x2 x3 x4 G Y :=
  ⟨hf.heap h.shp h.sep.1.2.2.1, hf.heap h.res h.sep.1.2.2.2.2.1, hf.heap h.got h.sep.1.2.2.2.2.2, hc, h.sep, h.fr.trans hf fun k e => .inr (by rw [show k = b from e]; exact h.sep.2.1.2.2.2)⟩
theorem RhAt.frs {w0 w w' : World} {l la d gs gr gh b : Nat} {x1 x2 x3 x4 y1 y2 y3 y4 : Int} {G : Nat → Prop} {X : List UInt8} (h : RhAt w0 w l la d gs gr gh b x1 x2 x3 x4 G X) (hf : Fr (· = gh) w w') (hg : w'.heap[gh]? = some (.cells #[.int .i64 y1, .int .i64 y2, .int .i64 y3, .int .i64 y4] 155 (0, 0))) : RhAt w0 w' l la d gs gr gh b y1 y2 y3 y4 G X :=
  ⟨hf.heap h.shp h.sep.1.2.1, hf.heap h.res h.sep.1.2.2.2.1, hg, h.cur.keep hf (fun e => h.sep.1.2.2.2.2.2 e.symm) (fun k _ h1 e => by have := h.sep.2.2 k h1; have e' : k = gh := e; have := h.sep.2.1.2.2.1; omega), h.sep, h.fr.trans hf fun k e => .inr (by rw [show k = gh from e]; exact h.sep.2.1.2.2.1)⟩
theorem RhAt.set1 {w0 w : World} {l la d gs gr gh b : Nat} {x1 x2 x3 x4 : Int} {G : Nat → Prop} {X : List UInt8} (h : RhAt w0 w l la d gs gr gh b x1 x2 x3 x4 G X) (y : Int) : RhAt w0 (w.setCell ⟨gh, 1, none⟩ (.int .i64 y)) l la d gs gr gh b x1 y x3 x4 G X := h.frs (Fr.cell1 _ _ _ _) (cell_put _ h.got)
theorem RhAt.set2 {w0 w : World} {l la d gs gr gh b : Nat} {x1 x2 x3 x4 : Int} {G : Nat → Prop} {X : List UInt8} (h : RhAt w0 w l la d gs gr gh b x1 x2 x3 x4 G X) (y : Int) : RhAt w0 (w.setCell ⟨gh, 2, none⟩ (.int .i64 y)) l la d gs gr gh b x1 x2 y x4 G X := h.frs (Fr.cell1 _ _ _ _) (cell_put _ h.got)
theorem RhAt.set3 {w0 w : World} {l la d gs gr gh b : Nat} {x1 x2 x3 x4 : Int} {G : Nat → Prop} {X : List UInt8} (h : RhAt w0 w l la d gs gr gh b x1 x2 x3 x4 G X) (y : Int) : RhAt w0 (w.setCell ⟨gh, 3, none⟩ (.int .i64 y)) l la d gs gr gh b x1 x2 x3 y G X := h.frs (Fr.cell1 _ _ _ _) (cell_put _ h.got)
set_option maxRecDepth 100000 in
set_option maxHeartbeats 4000000 in
theorem rHeadOf_any {G : Nat → Prop} (w : World) (vb : Value) (l la d : Nat) (h : Hd) (hn : h.Num) (hl : l ≤ 8192) (hla : la ≤ 8192) (hri : h.Right l la) (hb : BytesIn G w vb h.sec) :
    Calls Tryz.prog 148 #[vb, .agg #[.int .i64 l, .int .i64 la, .int .i64 d]] w (HeadPost w h) := by
  have hsl := h.sec_length
  obtain ⟨ab, cb, hvb, _⟩ := id hb
  subst hvb
  obtain ⟨W1, hW1⟩ : ∃ W, W = w.alloc (.cells #[.int .i64 l, .int .i64 la, .int .i64 d] 23) := ⟨_, rfl⟩
  obtain ⟨W2, hW2⟩ : ∃ W, W = W1.alloc (.cells #[.int .i64 0, .int .i64 0, .int .i64 0, .int .i64 0] 155) := ⟨_, rfl⟩
  obtain ⟨W3, hW3⟩ : ∃ W, W = W2.alloc (.cells #[.slice ab h.sec.length cb, .int .i64 0] 220) := ⟨_, rfl⟩
  have hf1 : Fr (fun _ => False) w W1 := by rw [hW1]; exact (Fr.refl _ _).alloc _
  have hf2 : Fr (fun _ => False) w W2 := by rw [hW2]; exact hf1.alloc _
  have hf3 : Fr (fun _ => False) w W3 := by rw [hW3]; exact hf2.alloc _
  have hz1 : W1.heap.size = w.heap.size + 1 := by rw [hW1]; simp
  have hz2 : W2.heap.size = w.heap.size + 2 := by rw [hW2]; simp [hz1]
  have hz3 : W3.heap.size = w.heap.size + 3 := by rw [hW3]; simp [hz2]
  have hf13 : Fr (fun _ => False) W1 W3 := by rw [hW3, hW2]; exact ((Fr.refl _ W1).alloc _).alloc _
  have hf23 : Fr (fun _ => False) W2 W3 := by rw [hW3]; exact (Fr.refl _ W2).alloc _
  have hs1 : W3.heap[w.heap.size]? = some (.cells #[.int .i64 l, .int .i64 la, .int .i64 d] 23 (0, 0)) := hf13.heap (by rw [hW1]; exact heap_alloc_new w _) id
  have hs2 : W3.heap[w.heap.size + 1]? = some (.cells #[.int .i64 0, .int .i64 0, .int .i64 0, .int .i64 0] 155 (0, 0)) := hf23.heap (by rw [hW2, ← hz1]; exact heap_alloc_new W1 _) id
  have hcur : RCur (fun k => G k ∧ k < w.heap.size) W3 (w.heap.size + 2) h.sec 0 := ⟨_, 220, by rw [hW3, ← hz2]; exact heap_alloc_new W2 _, (hb.mono (fun k hk h => ⟨h, hk⟩)).keep hf3 (fun _ _ _ h => h), fun hh => by have := hh.2; omega⟩
  obtain ⟨Z, hZ⟩ : ∃ Z : List UInt8, Z = List.replicate (64 - h.bytes.length) 0 := ⟨_, rfl⟩
  have hsec : h.sec = numBytes 5 h.area ++ (numBytes 5 h.size ++ (numBytes 5 h.used ++ (numBytes 5 h.round ++ Z))) := by
    rw [Hd.sec, full64, Hd.bytes, hZ, Hd.bytes]
    simp only [List.append_assoc]
  have HW := Lib.hid (And.intro hW1 (And.intro hW2 (And.intro hW3 (And.intro hf3 (And.intro hz3 (And.intro hs1 hs2))))))
  have e1 := fun X => curNum_bytes 1 h.area X (by have := hri.area; omega) hn.area
  have e2 := fun X => curNum_bytes 1099511627776 h.size X (by have := hn.size; omega) hn.size
  have e3 := fun X => curNum_bytes 1099511627776 h.used X (by have := hn.used; omega) hn.used
  have e4 := fun X => curNum_bytes 1099511627776 h.round X (by have := hn.round; omega) hn.round
  have HEQ := Lib.hid (And.intro e1 (And.intro e2 (And.intro e3 e4)))
  have hb1 := h.bytes_le
  obtain ⟨x1, hx1⟩ : ∃ x, x = h.area := ⟨_, rfl⟩
  obtain ⟨x2, hx2⟩ : ∃ x, x = h.size := ⟨_, rfl⟩
  obtain ⟨x3, hx3⟩ : ∃ x, x = h.used := ⟨_, rfl⟩
  obtain ⟨x4, hx4⟩ : ∃ x, x = h.round := ⟨_, rfl⟩
  have HX := Lib.hid (And.intro hx1 (And.intro hx2 (And.intro hx3 hx4)))
  have hg4 : ¬ ((x4 : Int) < 1) := by rw [hx4]; have := hri.round; omega
  have hg2 : ¬ ((la : Int) * 64 < (x2 : Int)) := by rw [hx2]; have := hri.size; omega
  have hg3 : ¬ ((l : Int) * 64 < (x3 : Int)) := by rw [hx3]; have := hri.used; omega
  have hwa : wrap64 ((la : Int) * 64) = (la : Int) * 64 := by unfold wrap64; omega
  have hwl : wrap64 ((l : Int) * 64) = (l : Int) * 64 := by unfold wrap64; omega
  rw [← hx1, ← hx2, ← hx3, ← hx4] at HEQ hsec
  have HLN := Lib.hid (show (numBytes 5 x1 ++ (numBytes 5 x2 ++ (numBytes 5 x3 ++ (numBytes 5 x4 ++ Z)))).length ≤ 1000000 ∧ (numBytes 5 x2 ++ (numBytes 5 x3 ++ (numBytes 5 x4 ++ Z))).length ≤ 1000000 ∧ (numBytes 5 x3 ++ (numBytes 5 x4 ++ Z)).length ≤ 1000000 ∧ (numBytes 5 x4 ++ Z).length ≤ 1000000 by
    have h64 := h.sec_length
    rw [hsec] at h64
    simp only [List.length_append] at h64 ⊢
    omega)
  rw [hsec] at hcur
  have HC := Lib.hid hcur
  have HZ := Lib.hid (show (∀ i (hi : i < Z.length), Z[i] = 0) ∧ Z.length ≤ 64 by rw [hZ]; exact ⟨fun i hi => by simp, by simp⟩)
  rw [hsl] at HW ⊢
  clear hb hn hri hsl hW1 hW2 hW3 hf1 hf2 hf3 hz1 hz2 hz3 hf13 hf23 hs1 hs2 hcur hsec e1 e2 e3 e4 hZ hx1 hx2 hx3 hx4 hb1 hl hla
  go_enter Tryz.func148, Tryz.ntmps148
  go_wp2_with fail
  rw [← HW.out.1, ← HW.out.2.1, ← HW.out.2.2.1]
  have hc0 := rNum_any 1 W3 HC.out (fun h => absurd rfl h) (by have := HLN.out.1; omega)
  rw [HEQ.out.1] at hc0
  refine hc0.mono ?_
  rintro e w1 ⟨rfl, hf, hcu⟩
  have G0 := Lib.hid (And.intro hf hcu)
  clear hc0 hf hcu
  obtain ⟨W4, hW4⟩ : ∃ W, W = w1.alloc (.cells #[.int .i64 x1, .int .i64 0, .int .i64 0, .int .i64 0] 155) := ⟨_, rfl⟩
  have hs1 := G0.out.1.size
  have H1 := Lib.hid (show RhAt w W4 l la d w.heap.size (w.heap.size + 1) w1.heap.size (w.heap.size + 2) x1 0 0 0 (fun k => G k ∧ k < w.heap.size) (numBytes 5 x2 ++ (numBytes 5 x3 ++ (numBytes 5 x4 ++ Z))) by
    have hz3 := HW.out.2.2.2.2.1
    have hfa : Fr (fun _ => False) w1 W4 := by rw [hW4]; exact (Fr.refl _ w1).alloc _
    refine ⟨hfa.heap (G0.out.1.heap HW.out.2.2.2.2.2.1 (by omega)) id, hfa.heap (G0.out.1.heap HW.out.2.2.2.2.2.2 (by omega)) id, by rw [hW4]; exact heap_alloc_new w1 _, G0.out.2.keep hfa id (fun _ _ _ h => h), ⟨⟨by omega, by omega, by omega, by omega, by omega, by omega⟩, ⟨by omega, by omega, by omega, by omega⟩, fun k hk => hk.2⟩, (HW.out.2.2.2.1.trans (T := fun k => k = w.heap.size + 2) G0.out.1 (fun k e => .inr (by omega))).trans hfa (fun _ h => h.elim)⟩)
  have HW4 := Lib.hid hW4
  clear hW4 hs1
  go_wp2_with fail
  rw [← HW4.out]
  obtain ⟨gh, hgh⟩ : ∃ gh, gh = w1.heap.size := ⟨_, rfl⟩
  rw [← hgh] at H1 ⊢
  clear hgh
  have hc1 := rNum_any 1099511627776 W4 H1.out.cur (fun h => absurd rfl h) (by have := HLN.out.2.1; omega)
  rw [HEQ.out.2.1] at hc1
  refine hc1.mono ?_
  rintro e w2 ⟨rfl, hf, hcu⟩
  have G1 := Lib.hid (H1.out.go hf hcu)
  clear hc1 hf hcu
  obtain ⟨q0, q1, q2, q3⟩ := row4_cells G1.out.got
  have r0 := frozen_of_row _ _ 0 _ _ G1.out.got
  have r1 := frozen_of_row _ _ 1 _ _ G1.out.got
  have r2 := frozen_of_row _ _ 2 _ _ G1.out.got
  have r3 := frozen_of_row _ _ 3 _ _ G1.out.got
  have H2 := Lib.hid (G1.out.set1 (x2 : Nat))
  go_wp2_with fail
  clear q0 q1 q2 q3 r0 r1 r2 r3
  have hc2 := rNum_any 1099511627776 (w2.setCell ⟨gh, 1, none⟩ (.int .i64 x2)) H2.out.cur (fun h => absurd rfl h) (by have := HLN.out.2.2.1; omega)
  rw [HEQ.out.2.2.1] at hc2
  refine hc2.mono ?_
  rintro e w3 ⟨rfl, hf, hcu⟩
  have G2 := Lib.hid (H2.out.go hf hcu)
  clear hc2 hf hcu
  obtain ⟨q0, q1, q2, q3⟩ := row4_cells G2.out.got
  have r0 := frozen_of_row _ _ 0 _ _ G2.out.got
  have r1 := frozen_of_row _ _ 1 _ _ G2.out.got
  have r2 := frozen_of_row _ _ 2 _ _ G2.out.got
  have r3 := frozen_of_row _ _ 3 _ _ G2.out.got
  have H3 := Lib.hid (G2.out.set2 (x3 : Nat))
  go_wp2_with fail
  clear q0 q1 q2 q3 r0 r1 r2 r3
  have hc3 := rNum_any 1099511627776 (w3.setCell ⟨gh, 2, none⟩ (.int .i64 x3)) H3.out.cur (fun h => absurd rfl h) (by have := HLN.out.2.2.2; omega)
  rw [HEQ.out.2.2.2] at hc3
  refine hc3.mono ?_
  rintro e w4 ⟨rfl, hf, hcu⟩
  have G3 := Lib.hid (H3.out.go hf hcu)
  clear hc3 hf hcu
  obtain ⟨q0, q1, q2, q3⟩ := row4_cells G3.out.got
  have r0 := frozen_of_row _ _ 0 _ _ G3.out.got
  have r1 := frozen_of_row _ _ 1 _ _ G3.out.got
  have r2 := frozen_of_row _ _ 2 _ _ G3.out.got
  have r3 := frozen_of_row _ _ 3 _ _ G3.out.got
  have H4 := Lib.hid (G3.out.set3 (x4 : Nat))
  obtain ⟨s0, s1, s2⟩ := row3_cells G3.out.shp
  have hne := G3.out.sep.1
  have hb0 : w.heap.size + 2 = w.heap.size + 1 + 1 := rfl
  obtain ⟨vz, T, hcb, hbz, _⟩ := G3.out.cur
  have cc := ref_cells hcb
  obtain ⟨k0, k1, _, _⟩ := cc
  have hd4 : decide ((x4 : Int) < 1) = false := by rw [decide_eq_false_iff_not]; omega
  have hd2 : decide ((la : Int) * 64 < (x2 : Int)) = false := by rw [decide_eq_false_iff_not]; omega
  have hd3 : decide ((l : Int) * 64 < (x3 : Int)) = false := by rw [decide_eq_false_iff_not]; omega
  clear hcb hbz
  go_wp2_with fail
  obtain ⟨W5, hW5⟩ : ∃ W, W = w4.setCell ⟨gh, 3, none⟩ (.int .i64 x4) := ⟨_, rfl⟩
  rw [← hW5] at H4 ⊢
  clear q0 q1 q2 q3 r0 r1 r2 r3 s0 s1 s2 k0 k1 hW5 hd4 hd2 hd3 hwa hwl hg4 hg2 hg3
  go_loopw [8] (fun iv wr => ∃ i : Nat, i ≤ Z.length ∧ iv = .int .i64 i ∧ wr = W5) (fun iv _ => Z.length - (intOf iv).toNat)
  case atStart => exact ⟨0, by omega, rfl, rfl⟩
  case round =>
    obtain ⟨i, hi, rfl, rfl⟩ := hrel
    have hz64 := HZ.out.2
    obtain ⟨vz, T, hcb, hbz, _⟩ := H4.out.cur
    obtain ⟨k0, k1, _, _⟩ := ref_cells hcb
    by_cases hlt : i < Z.length
    · obtain ⟨bz, oz, cz, rfl, hlz, hmz, _, hez⟩ := hbz.plain (by intro h; rw [h] at hlt; simp at hlt)
      have hel := hez i hlt
      rw [HZ.out.1 i hlt, show bv 0 = .int .u8 0 from rfl] at hel
      have hd : decide ((i : Int) < (Z.length : Int)) = true := by rw [decide_eq_true_iff]; omega
      clear hez hcb hbz
      go_wp2_with fail
      go_roundw
      case rel => exact ⟨i + 1, by omega, by go_num, trivial⟩
      case measure => simp [intOf]; omega
    · obtain ⟨az, cz, rfl, hlz, hmz, _, _⟩ := id hbz
      have hiz : i = Z.length := by omega
      have hd : decide ((i : Int) < (Z.length : Int)) = false := by rw [decide_eq_false_iff_not]; omega
      obtain ⟨q0, q1, q2, q3⟩ := row4_cells H4.out.got
      obtain ⟨q5, q6, q7, q8⟩ := row4_cells H4.out.res
      have r0 := frozen_of_row _ _ 0 _ _ H4.out.res
      have r1 := frozen_of_row _ _ 1 _ _ H4.out.res
      have r2 := frozen_of_row _ _ 2 _ _ H4.out.res
      have r3 := frozen_of_row _ _ 3 _ _ H4.out.res
      clear hcb hbz
      go_wp2_with fail
      refine bodyPost_ret (v := .tuple #[.agg #[.int .i64 x1, .int .i64 x2, .int .i64 x3, .int .i64 x4], .bool true]) (by simp [results, Tryz.results148, q5, q6, q7, q8, go_sem]) rfl ?_
      unfold HeadPost
      rw [← HX.out.1, ← HX.out.2.1, ← HX.out.2.2.1, ← HX.out.2.2.2]
      exact ⟨rfl, (((H4.out.fr.setCell (p := ⟨w.heap.size + 1, 0, none⟩) (.inr (Nat.le_succ _)) _).setCell (p := ⟨w.heap.size + 1, 1, none⟩) (.inr (Nat.le_succ _)) _).setCell (p := ⟨w.heap.size + 1, 2, none⟩) (.inr (Nat.le_succ _)) _).setCell (p := ⟨w.heap.size + 1, 3, none⟩) (.inr (Nat.le_succ _)) _⟩
end Go.Proofs.YtldgcoikbjbjeaaGreat
