/- Laid together: VQ VQs VQt VVw VMa -/
import Derived.Test.YteockhemeneioaaVd3
import Derived.Deep.RegionHeld3
import Derived.Test.YteockhemeneioaaVd5
import Derived.Test.YteockhemeneioaaVd6
import Derived.LaidEqlPtr

namespace Go.Proofs.Yteockhemeneioaa
open Go.RowKit Go.ChangeShapes
set_option linter.unusedVariables false
structure Qt where
  b : Int
  o : Int
  r : Int
  n : Int
deriving DecidableEq
instance : Inhabited Qt := ⟨⟨0, 0, 0, 0⟩⟩
def in9 (n m : Int) : Bool := decide (0 ≤ n ∧ n ≤ m)
theorem in9_yes {n m : Int} (h : in9 n m = true) : 0 ≤ n ∧ n ≤ m := by simpa [in9] using h
def okQ (q : Qt) : Bool := in9 q.o 150 && in9 q.b 614400 && in9 q.r 100 && in9 q.n 400
def okQs (Q : List Qt) : Bool := Q.all okQ && decide (1 ≤ Q.length) && decide (Q.length ≤ 8)
def qC (q : Qt) : List Value := [.int .i64 q.b, .int .i64 q.o, .int .i64 q.r, .int .i64 q.n]
def qA (q : Qt) : Array Value := #[.int .i64 q.b, .int .i64 q.o, .int .i64 q.r, .int .i64 q.n]
theorem qC_len (l : List Qt) : ∀ c ∈ l.map qC, c.length = 4 := by
  intro c hc
  obtain ⟨r, _, rfl⟩ := List.mem_map.1 hc
  rfl
theorem qC_one (l : List Qt) : ∀ c ∈ l.map qC, ∀ u ∈ c, u.oneCell' = true := by
  intro c hc u hu
  obtain ⟨r, _, rfl⟩ := List.mem_map.1 hc
  simp only [qC, List.mem_cons, List.not_mem_nil, or_false] at hu
  rcases hu with rfl | rfl | rfl | rfl <;> rfl
def QsIn (F : Nat → Prop) (w : World) (v : Value) (l : List Qt) : Prop := Elems 4 F w v (l.map qC)
theorem QsIn.keep {F S : Nat → Prop} {w w' : World} {v : Value} {l : List Qt} (h : QsIn F w v l) (hf : Fr S w w') (hd : ∀ b, b < w.heap.size → F b → ¬ S b) : QsIn F w' v l := Elems.keep h hf hd
theorem QsIn.quiet {F : Nat → Prop} {w w' : World} {v : Value} {l : List Qt} (h : QsIn F w v l) (hf : Fr (fun _ => False) w w') : QsIn F w' v l := h.keep hf (fun _ _ _ h => h)
theorem QsIn.mono {F G : Nat → Prop} {w : World} {v : Value} {l : List Qt} (h : QsIn F w v l) (hd : ∀ b, b < w.heap.size → F b → G b) : QsIn G w v l := Elems.mono h (by decide) hd
theorem QsIn.open9 {F : Nat → Prop} {w : World} {v : Value} {l : List Qt} (h : QsIn F w v l) : ∃ ao cap, v = .slice ao l.length cap ∧ l.length ≤ cap ∧ cap ≤ 9223372036854775807 ∧
    ∃ b off, (0 < l.length → ao = some ⟨b, off, none⟩ ∧ F b) ∧ ∀ i (h : i < l.length), w.cell? ⟨b, off + i * 4, none⟩ = some (.int .i64 l[i].b) ∧ w.cell? ⟨b, off + i * 4 + 1, none⟩ = some (.int .i64 l[i].o) ∧ w.cell? ⟨b, off + i * 4 + 2, none⟩ = some (.int .i64 l[i].r) ∧ w.cell? ⟨b, off + i * 4 + 3, none⟩ = some (.int .i64 l[i].n) := by
  obtain ⟨ao, cap, hv, h1, h2, h3, h4⟩ := h
  rw [List.length_map] at hv h1
  refine ⟨ao, cap, hv, h1, h2, ?_⟩
  by_cases hl : l = []
  · subst hl
    exact ⟨0, 0, fun h => by simp at h, fun i h => by simp at h⟩
  · obtain ⟨b, off, ha, hF, hi⟩ := h4 (by simpa using hl)
    refine ⟨b, off, fun _ => ⟨ha, hF⟩, fun i h => ?_⟩
    have g := fun j hj => hi i (by simpa using h) j hj
    exact ⟨(g 0 (by decide)).trans (by simp [qC]), (g 1 (by decide)).trans (by simp [qC]), (g 2 (by decide)).trans (by simp [qC]), (g 3 (by decide)).trans (by simp [qC])⟩
theorem infoQ : (Try.prog.info? 38).map (fun i => (i.zero, i.size, i.bytes)) = some (some (.agg #[.int .i64 0, .int .i64 0, .int .i64 0, .int .i64 0]), 4, 32) := by kernel_rfl
section
set_option maxRecDepth 100000
theorem vWithin_any (w : World) (n m : Int) :
    Calls Try.prog 58 #[.int .i64 n, .int .i64 m] w fun e w' => e = .returned (.bool (in9 n m)) ∧ w' = w := by
  by_cases h1 : 0 ≤ n
  · by_cases h2 : n ≤ m
    · have hR : in9 n m = true := by simp [in9, h1, h2]
      have HR := Lib.hid hR
      rw [hR]; clear hR
      go_enter Try.func58, Try.ntmps58
      go_wp2
      go_ret
      exact ⟨rfl, rfl⟩
    · have hR : in9 n m = false := by simp [in9, h2]
      rw [hR]; clear hR
      go_enter Try.func58, Try.ntmps58
      go_wp2
      go_ret
      exact ⟨rfl, rfl⟩
  · have hR : in9 n m = false := by simp [in9, h1]
    rw [hR]; clear hR
    go_enter Try.func58, Try.ntmps58
    go_wp2
    go_ret
    exact ⟨rfl, rfl⟩
theorem rWithin14_any (w : World) (n m : Int) :
    Calls Try.prog 59 #[.int .i64 n, .int .i64 m] w fun e w' => e = .returned (.bool (in9 n m)) ∧ w' = w := by
  by_cases h1 : 0 ≤ n
  · by_cases h2 : n ≤ m
    · have hR : in9 n m = true := by simp [in9, h1, h2]
      rw [hR]; clear hR
      go_enter Try.func59, Try.ntmps59
      go_wp2
      go_ret
      exact ⟨rfl, rfl⟩
    · have hR : in9 n m = false := by simp [in9, h2]
      rw [hR]; clear hR
      go_enter Try.func59, Try.ntmps59
      go_wp2
      go_ret
      exact ⟨rfl, rfl⟩
  · have hR : in9 n m = false := by simp [in9, h1]
    rw [hR]; clear hR
    go_enter Try.func59, Try.ntmps59
    go_wp2
    go_ret
    exact ⟨rfl, rfl⟩
set_option maxHeartbeats 1000000
theorem vRight_any (w : World) (b o r n : Int) :
    Calls Try.prog 19 #[.agg #[.int .i64 b, .int .i64 o, .int .i64 r, .int .i64 n]] w fun e w' => e = .returned (.bool (okQ ⟨b, o, r, n⟩)) ∧ Fr (fun _ => False) w w' := by
  have hR : okQ ⟨b, o, r, n⟩ = (in9 o 150 && in9 b 614400 && in9 r 100 && in9 n 400) := rfl
  rw [hR]
  clear hR
  have H1 := fun W => vWithin_any W o 150
  have H2 := fun W => vWithin_any W b 614400
  have H3 := fun W => vWithin_any W r 100
  have H4 := fun W => vWithin_any W n 400
  generalize in9 o 150 = x1 at *
  generalize in9 b 614400 = x2 at *
  generalize in9 r 100 = x3 at *
  generalize in9 n 400 = x4 at *
  have G1 := Lib.hid H1
  have G2 := Lib.hid H2
  have G3 := Lib.hid H3
  have G4 := Lib.hid H4
  clear H1 H2 H3 H4
  cases x1 with
  | false =>
    go_enter Try.func19, Try.ntmps19
    go_wp2_with (first
      | (go_at_call 58; (with_reducible refine (G1.out _).mono ?_); rintro e w1 ⟨rfl, rfl⟩))
    go_ret
    exact ⟨rfl, (Fr.refl _ _).alloc _⟩
  | true =>
    cases x2 with
    | false =>
      go_enter Try.func19, Try.ntmps19
      go_wp2_with (first
        | (go_at_call 58; (with_reducible refine (G1.out _).mono ?_); rintro e w1 ⟨rfl, rfl⟩)
        | (go_at_call 58; (with_reducible refine (G2.out _).mono ?_); rintro e w1 ⟨rfl, rfl⟩))
      go_ret
      exact ⟨rfl, (Fr.refl _ _).alloc _⟩
    | true =>
      cases x3 with
      | false =>
        go_enter Try.func19, Try.ntmps19
        go_wp2_with (first
          | (go_at_call 58; (with_reducible refine (G1.out _).mono ?_); rintro e w1 ⟨rfl, rfl⟩)
          | (go_at_call 58; (with_reducible refine (G2.out _).mono ?_); rintro e w1 ⟨rfl, rfl⟩)
          | (go_at_call 58; (with_reducible refine (G3.out _).mono ?_); rintro e w1 ⟨rfl, rfl⟩))
        go_ret
        exact ⟨rfl, (Fr.refl _ _).alloc _⟩
      | true =>
        go_enter Try.func19, Try.ntmps19
        go_wp2_with (first
          | (go_at_call 58; (with_reducible refine (G1.out _).mono ?_); rintro e w1 ⟨rfl, rfl⟩)
          | (go_at_call 58; (with_reducible refine (G2.out _).mono ?_); rintro e w1 ⟨rfl, rfl⟩)
          | (go_at_call 58; (with_reducible refine (G3.out _).mono ?_); rintro e w1 ⟨rfl, rfl⟩)
          | (go_at_call 58; (with_reducible refine (G4.out _).mono ?_); rintro e w1 ⟨rfl, rfl⟩))
        go_ret
        exact ⟨rfl, (Fr.refl _ _).alloc _⟩
theorem rRight14_any (w : World) (b o r n : Int) :
    Calls Try.prog 20 #[.agg #[.int .i64 b, .int .i64 o, .int .i64 r, .int .i64 n]] w fun e w' => e = .returned (.bool (okQ ⟨b, o, r, n⟩)) ∧ Fr (fun _ => False) w w' := by
  have hR : okQ ⟨b, o, r, n⟩ = (in9 o 150 && in9 b 614400 && in9 r 100 && in9 n 400) := rfl
  rw [hR]
  clear hR
  have H1 := fun W => rWithin14_any W o 150
  have H2 := fun W => rWithin14_any W b 614400
  have H3 := fun W => rWithin14_any W r 100
  have H4 := fun W => rWithin14_any W n 400
  generalize in9 o 150 = x1 at *
  generalize in9 b 614400 = x2 at *
  generalize in9 r 100 = x3 at *
  generalize in9 n 400 = x4 at *
  have G1 := Lib.hid H1
  have G2 := Lib.hid H2
  have G3 := Lib.hid H3
  have G4 := Lib.hid H4
  clear H1 H2 H3 H4
  cases x1 with
  | false =>
    go_enter Try.func20, Try.ntmps20
    go_wp2_with (first
      | (go_at_call 59; (with_reducible refine (G1.out _).mono ?_); rintro e w1 ⟨rfl, rfl⟩))
    go_ret
    exact ⟨rfl, (Fr.refl _ _).alloc _⟩
  | true =>
    cases x2 with
    | false =>
      go_enter Try.func20, Try.ntmps20
      go_wp2_with (first
        | (go_at_call 59; (with_reducible refine (G1.out _).mono ?_); rintro e w1 ⟨rfl, rfl⟩)
        | (go_at_call 59; (with_reducible refine (G2.out _).mono ?_); rintro e w1 ⟨rfl, rfl⟩))
      go_ret
      exact ⟨rfl, (Fr.refl _ _).alloc _⟩
    | true =>
      cases x3 with
      | false =>
        go_enter Try.func20, Try.ntmps20
        go_wp2_with (first
          | (go_at_call 59; (with_reducible refine (G1.out _).mono ?_); rintro e w1 ⟨rfl, rfl⟩)
          | (go_at_call 59; (with_reducible refine (G2.out _).mono ?_); rintro e w1 ⟨rfl, rfl⟩)
          | (go_at_call 59; (with_reducible refine (G3.out _).mono ?_); rintro e w1 ⟨rfl, rfl⟩))
        go_ret
        exact ⟨rfl, (Fr.refl _ _).alloc _⟩
      | true =>
        go_enter Try.func20, Try.ntmps20
        go_wp2_with (first
          | (go_at_call 59; (with_reducible refine (G1.out _).mono ?_); rintro e w1 ⟨rfl, rfl⟩)
          | (go_at_call 59; (with_reducible refine (G2.out _).mono ?_); rintro e w1 ⟨rfl, rfl⟩)
          | (go_at_call 59; (with_reducible refine (G3.out _).mono ?_); rintro e w1 ⟨rfl, rfl⟩)
          | (go_at_call 59; (with_reducible refine (G4.out _).mono ?_); rintro e w1 ⟨rfl, rfl⟩))
        go_ret
        exact ⟨rfl, (Fr.refl _ _).alloc _⟩
end
end Go.Proofs.Yteockhemeneioaa
namespace Go.Proofs.Yteockhemeneioaa
open Go.RowKit Go.ChangeShapes
set_option linter.unusedVariables false
theorem all_take9 (Q : List Qt) (i : Nat) (h : i < Q.length) : (Q.take (i + 1)).all okQ = ((Q.take i).all okQ && okQ Q[i]) := by
  rw [List.take_succ_eq_append_getElem h, List.all_append]
  simp
theorem all_bad9 (Q : List Qt) (i : Nat) (h : i < Q.length) (hc : okQ Q[i] = false) : Q.all okQ = false := by
  rw [List.all_eq_false]
  exact ⟨Q[i], List.getElem_mem _, by simp [hc]⟩
section
set_option maxRecDepth 100000
set_option maxHeartbeats 1000000
theorem areRight_any {F : Nat → Prop} (w : World) (v : Value) (Q : List Qt) (hQ : QsIn F w v Q) :
    Calls Try.prog 32 #[v] w fun e w' => e = .returned (.bool (okQs Q)) ∧ Fr (fun _ => False) w w' := by
  obtain ⟨ao, cap, rfl, hc1, hc2, b, off, hao, hcells⟩ := hQ.open9
  obtain ⟨n, hn⟩ : ∃ n, n = Q.length := ⟨_, rfl⟩
  obtain ⟨R, hR⟩ : ∃ R, R = okQs Q := ⟨_, rfl⟩
  rw [← hR]
  rw [← hn] at hc1 hao ⊢
  have HN := Lib.hid hn
  have HR := Lib.hid hR
  have HAO := Lib.hid hao
  have HCE := Lib.hid hcells
  clear hn hR hao hcells hQ
  go_enter Try.func32, Try.ntmps32
  go_wp2
  go_loopw [7] (fun iv wr => ∃ (i : Nat), i ≤ n ∧ iv = .int .i64 i ∧ Hid (Fr (fun _ => False) w wr ∧ (Q.take i).all okQ = true)) (fun iv _ => n - (intOf iv).toNat)
  case atStart => exact ⟨0, by omega, rfl, Lib.hid ⟨Fr.refl _ _, rfl⟩⟩
  case round =>
    obtain ⟨i, hi, rfl, hf⟩ := hrel
    by_cases hlt : i < n
    · have hiL : i < Q.length := by have := HN.out; omega
      obtain ⟨rfl, hFb⟩ := HAO.out (by omega)
      obtain ⟨g0, g1, g2, g3⟩ := HCE.out i hiL
      have c0 := hf.out.1.cell g0 id
      have c1 := hf.out.1.cell g1 id
      have c2 := hf.out.1.cell g2 id
      have c3 := hf.out.1.cell g3 id
      obtain ⟨q, hq⟩ : ∃ q, q = Q[i] := ⟨_, rfl⟩
      rw [← hq] at c0 c1 c2 c3
      have hi64 : (i : Int) < (n : Int) := by omega
      have HQ := Lib.hid (List.getElem?_eq_some_iff.2 ⟨hiL, hq.symm⟩ : Q[i]? = some q)
      clear g0 g1 g2 g3 hq hiL
      cases hk : okQ q with
      | false =>
        have HS := Lib.hid (show okQ ⟨q.b, q.o, q.r, q.n⟩ = false from hk)
        have HK := Lib.hid hk
        clear hk
        go_wp2_with (go_at_call 19; refine (vRight_any _ q.b q.o q.r q.n).mono ?_; rintro e w4 ⟨rfl, hf4⟩; rw [HS.out]; (have H4 := Lib.hid hf4); clear hf4)
        go_ret
        have hbad : R = false := by
          obtain ⟨h2, h1⟩ := List.getElem?_eq_some_iff.1 HQ.out
          rw [HR.out, okQs, all_bad9 Q i h2 (by rw [h1]; exact HK.out)]
          rfl
        rw [hbad]
        exact ⟨rfl, (hf.out.1.alloc _).trans H4.out (fun _ h => h.elim)⟩
      | true =>
        have HS := Lib.hid (show okQ ⟨q.b, q.o, q.r, q.n⟩ = true from hk)
        have HK := Lib.hid hk
        clear hk
        go_wp2_with (go_at_call 19; refine (vRight_any _ q.b q.o q.r q.n).mono ?_; rintro e w4 ⟨rfl, hf4⟩; rw [HS.out]; (have H4 := Lib.hid hf4); clear hf4)
        go_roundw
        case rel =>
          obtain ⟨h2, h1⟩ := List.getElem?_eq_some_iff.1 HQ.out
          exact ⟨i + 1, by omega, by go_num, Lib.hid ⟨(hf.out.1.alloc _).trans H4.out (fun _ h => h.elim), by rw [all_take9 Q i h2, hf.out.2, h1, HK.out]; rfl⟩⟩
        case measure => simp [intOf]; omega
    · obtain rfl : i = n := by omega
      have hall : Q.all okQ = true := by
        have := hf.out.2
        rwa [List.take_of_length_le (by rw [← HN.out]; exact Nat.le_refl _)] at this
      have hRe : R = (decide (1 ≤ i) && decide (i ≤ 8)) := by rw [HR.out, okQs, hall, ← HN.out, Bool.true_and]
      have HRE := Lib.hid hRe
      have HF := Lib.hid hf.out.1
      clear hall hRe hf hlt
      by_cases h1 : 1 ≤ i
      · have d1 : (1 : Int) ≤ (i : Int) := by omega
        by_cases h8 : i ≤ 8
        · have d8 : (i : Int) ≤ 8 := by omega
          have HE := Lib.hid (show R = true by rw [HRE.out]; simp [h1, h8])
          go_wp2
          go_ret
          exact ⟨by rw [HE.out]; rfl, HF.out⟩
        · have d8 : ¬ (i : Int) ≤ 8 := by omega
          have HE := Lib.hid (show R = false by rw [HRE.out]; simp [h8])
          go_wp2
          go_ret
          exact ⟨by rw [HE.out]; rfl, HF.out⟩
      · have d1 : ¬ (1 : Int) ≤ (i : Int) := by omega
        have HE := Lib.hid (show R = false by rw [HRE.out]; simp [h1])
        go_wp2
        go_ret
        exact ⟨by rw [HE.out]; rfl, HF.out⟩
end
end Go.Proofs.Yteockhemeneioaa
namespace Go.Proofs.Yteockhemeneioaa
open Go.RowKit Go.ChangeShapes
set_option linter.unusedVariables false
theorem okQ_bounds {q : Qt} (h : okQ q = true) : (0 ≤ q.o ∧ q.o ≤ 150) ∧ (0 ≤ q.b ∧ q.b ≤ 614400) ∧ (0 ≤ q.r ∧ q.r ≤ 100) ∧ (0 ≤ q.n ∧ q.n ≤ 400) := by
  unfold okQ at h
  rw [Bool.and_eq_true, Bool.and_eq_true, Bool.and_eq_true] at h
  exact ⟨in9_yes h.1.1.1, in9_yes h.1.1.2, in9_yes h.1.2, in9_yes h.2⟩
theorem okQs_iff {Q : List Qt} (h : okQs Q = true) : (∀ q ∈ Q, okQ q = true) ∧ 1 ≤ Q.length ∧ Q.length ≤ 8 := by
  unfold okQs at h
  rw [Bool.and_eq_true, Bool.and_eq_true, decide_eq_true_iff, decide_eq_true_iff] at h
  exact ⟨List.all_eq_true.1 h.1.1, h.1.2, h.2⟩
section
set_option maxRecDepth 100000
set_option maxHeartbeats 1000000
theorem rAll_any {F : Nat → Prop} (w : World) (v : Value) (Q : List Qt) (hQ : QsIn F w v Q) :
    Calls Try.prog 36 #[v] w fun e w' => e = .returned (.bool (okQs Q)) ∧ Fr (fun _ => False) w w' := by
  obtain ⟨ao, cap, rfl, hc1, hc2, b, off, hao, hcells⟩ := hQ.open9
  obtain ⟨n, hn⟩ : ∃ n, n = Q.length := ⟨_, rfl⟩
  obtain ⟨R, hR⟩ : ∃ R, R = okQs Q := ⟨_, rfl⟩
  rw [← hR]
  rw [← hn] at hc1 hao ⊢
  have HN := Lib.hid hn
  have HR := Lib.hid hR
  have HAO := Lib.hid hao
  have HCE := Lib.hid hcells
  clear hn hR hao hcells hQ
  go_enter Try.func36, Try.ntmps36
  go_wp2
  go_loopw [3] (fun iv wr => ∃ (i : Nat), i ≤ n ∧ i ≤ 9 ∧ iv = .int .i64 i ∧ Hid (Fr (fun _ => False) w wr ∧ (Q.take i).all okQ = true)) (fun iv _ => n - (intOf iv).toNat)
  case atStart => exact ⟨0, by omega, by omega, rfl, Lib.hid ⟨Fr.refl _ _, rfl⟩⟩
  case round =>
    obtain ⟨i, hi, hi9, rfl, hf⟩ := hrel
    by_cases hlt : i < n
    · by_cases hl9 : i < 9
      · have hiL : i < Q.length := by have := HN.out; omega
        obtain ⟨rfl, hFb⟩ := HAO.out (by omega)
        obtain ⟨g0, g1, g2, g3⟩ := HCE.out i hiL
        have c0 := hf.out.1.cell g0 id
        have c1 := hf.out.1.cell g1 id
        have c2 := hf.out.1.cell g2 id
        have c3 := hf.out.1.cell g3 id
        obtain ⟨q, hq⟩ : ∃ q, q = Q[i] := ⟨_, rfl⟩
        rw [← hq] at c0 c1 c2 c3
        have hi64 : (i : Int) < (n : Int) := by omega
        have hi9' : (i : Int) < 9 := by omega
        have HQ := Lib.hid (List.getElem?_eq_some_iff.2 ⟨hiL, hq.symm⟩ : Q[i]? = some q)
        clear g0 g1 g2 g3 hq hiL
        cases hk : okQ q with
        | false =>
          have HS := Lib.hid (show okQ ⟨q.b, q.o, q.r, q.n⟩ = false from hk)
          have HK := Lib.hid hk
          clear hk
          go_wp2_with (go_at_call 20; refine (rRight14_any _ q.b q.o q.r q.n).mono ?_; rintro e w4 ⟨rfl, hf4⟩; rw [HS.out]; (have H4 := Lib.hid hf4); clear hf4)
          go_ret
          have hbad : R = false := by
            obtain ⟨h2, h1⟩ := List.getElem?_eq_some_iff.1 HQ.out
            rw [HR.out, okQs, all_bad9 Q i h2 (by rw [h1]; exact HK.out)]
            rfl
          rw [hbad]
          exact ⟨rfl, hf.out.1.trans H4.out (fun _ h => h.elim)⟩
        | true =>
          have HS := Lib.hid (show okQ ⟨q.b, q.o, q.r, q.n⟩ = true from hk)
          have HK := Lib.hid hk
          clear hk
          go_wp2_with (go_at_call 20; refine (rRight14_any _ q.b q.o q.r q.n).mono ?_; rintro e w4 ⟨rfl, hf4⟩; rw [HS.out]; (have H4 := Lib.hid hf4); clear hf4)
          go_roundw
          case rel =>
            obtain ⟨h2, h1⟩ := List.getElem?_eq_some_iff.1 HQ.out
            exact ⟨i + 1, by omega, by omega, by go_num, Lib.hid ⟨hf.out.1.trans H4.out (fun _ h => h.elim), by rw [all_take9 Q i h2, hf.out.2, h1, HK.out]; rfl⟩⟩
          case measure => simp [intOf]; omega
      · have hn9 : 9 ≤ n := by omega
        have hi64 : (i : Int) < (n : Int) := by omega
        have hi9' : ¬ (i : Int) < 9 := by omega
        have d1 : (1 : Int) ≤ (n : Int) := by omega
        have d8 : ¬ (n : Int) ≤ 8 := by omega
        have HE := Lib.hid (show R = false by rw [HR.out, okQs, ← HN.out]; simp; omega)
        have HF := Lib.hid hf.out.1
        clear hf
        go_wp2
        go_ret
        exact ⟨by rw [HE.out]; rfl, HF.out⟩
    · obtain rfl : i = n := by omega
      have hall : Q.all okQ = true := by
        have := hf.out.2
        rwa [List.take_of_length_le (by rw [← HN.out]; exact Nat.le_refl _)] at this
      have hRe : R = (decide (1 ≤ i) && decide (i ≤ 8)) := by rw [HR.out, okQs, hall, ← HN.out, Bool.true_and]
      have HRE := Lib.hid hRe
      have HF := Lib.hid hf.out.1
      clear hall hRe hf hlt
      by_cases h1 : 1 ≤ i
      · have d1 : (1 : Int) ≤ (i : Int) := by omega
        by_cases h8 : i ≤ 8
        · have d8 : (i : Int) ≤ 8 := by omega
          have HE := Lib.hid (show R = true by rw [HRE.out]; simp [h1, h8])
          go_wp2
          go_ret
          exact ⟨by rw [HE.out]; rfl, HF.out⟩
        · have d8 : ¬ (i : Int) ≤ 8 := by omega
          have HE := Lib.hid (show R = false by rw [HRE.out]; simp [h8])
          go_wp2
          go_ret
          exact ⟨by rw [HE.out]; rfl, HF.out⟩
      · have d1 : ¬ (1 : Int) ≤ (i : Int) := by omega
        have HE := Lib.hid (show R = false by rw [HRE.out]; simp [h1])
        go_wp2
        go_ret
        exact ⟨by rw [HE.out]; rfl, HF.out⟩
end
end Go.Proofs.Yteockhemeneioaa
namespace Go.Proofs.Yteockhemeneioaa
open Go.RowKit Go.ChangeShapes
set_option linter.unusedVariables false
structure VA where
  vb : Nat
  qb : Nat
  rb : Nat
  tr : Nat
  mr : Nat
  nb : Nat
  tn : Nat
  mn : Nat
def VA.all (a : VA) : List Nat := [a.vb, a.qb, a.rb, a.tr, a.mr, a.nb, a.tn, a.mn]
structure VS where
  Q : List Qt
  R : Int → VT PathX
  N : Int → VT Bs
structure VwAt (F : Nat → Prop) (w : World) (a : VA) (n : Nat) (s : VS) : Prop where
  row : ∃ qv, w.heap[a.vb]? = some (.cells #[qv, .pointer (some ⟨a.rb, 0, none⟩), .pointer (some ⟨a.nb, 0, none⟩), .pointer (some ⟨a.vb, 0, none⟩)] 83 (0, 0)) ∧ QsIn (fun k => k = a.qb) w qv s.Q
  rk : BkAt kR 118 (fun _ => False) w a.rb a.tr a.mr n s.R
  nk : BkAt kN 121 F w a.nb a.tn a.mn n s.N
  ok : okQs s.Q = true
  cap : ∀ i (h : i < s.Q.length), ((s.R ((i + 1 : Nat) : Int)).length : Int) ≤ s.Q[i].r ∧ ((s.N ((i + 1 : Nat) : Int)).length : Int) ≤ s.Q[i].n
  sep : a.all.Nodup ∧ ∀ k ∈ a.all, ¬ F k
section
variable {F G S : Nat → Prop} {w w' : World} {a : VA} {n : Nat} {s : VS}
theorem VwAt.keep (h : VwAt F w a n s) (hf : Fr S w w') (h1 : ∀ k ∈ a.all, ¬ S k) (hd : ∀ k, k < w.heap.size → F k → ¬ S k) : VwAt F w' a n s := by
  obtain ⟨⟨qv, r1, r2⟩, h2, h3, h4, h5, h6⟩ := h
  simp only [VA.all, List.mem_cons, List.not_mem_nil, or_false, forall_eq_or_imp, forall_eq] at h1
  obtain ⟨k1, k2, k3, k4, k5, k6, k7, k8⟩ := h1
  exact ⟨⟨qv, hf.heap r1 k1, r2.keep hf (fun b _ hb => by rw [hb]; exact k2)⟩, h2.keep hf k3 k4 k5 (fun _ _ h => h.elim), h3.keep hf k6 k7 k8 hd, h4, h5, h6⟩
theorem VwAt.quiet (h : VwAt F w a n s) (hf : Fr (fun _ => False) w w') : VwAt F w' a n s := h.keep hf (fun _ _ h => h) (fun _ _ _ h => h)
theorem VwAt.lt (h : VwAt F w a n s) : ∀ k ∈ a.all, k = a.qb ∨ k < w.heap.size := by
  obtain ⟨⟨qv, r1, r2⟩, h2, h3, h4, h5, h6⟩ := h
  have := lt_of_block r1
  have := h2.lt
  have := h3.lt
  intro k hk
  simp only [VA.all, List.mem_cons, List.not_mem_nil, or_false] at hk
  omega
theorem run_eql_view (w : World) (a : Addr) : (binOp .eql 26 (.pointer (some a)) (.pointer (some a))).run Try.prog w = .ok (.bool true) w := by
  have hi : (Try.prog.info? 83).isSome = true := by kernel_rfl
  obtain ⟨j, hte⟩ := Option.isSome_iff_exists.1 hi
  exact run_eql_ptr_same (P := Try.prog) w a Try.underlying26 hte
set_option maxRecDepth 100000 in
theorem isView_any (h : VwAt F w a n s) : Calls Try.prog 37 #[.pointer (some ⟨a.vb, 0, none⟩)] w fun e w' => e = .returned (.bool true) ∧ w' = w := by
  obtain ⟨qv, r1, r2⟩ := h.row
  have c3 := cell_of_row _ _ 3 _ _ _ r1
  have heq := run_eql_view
  clear h r1 r2
  go_enter Try.func37, Try.ntmps37
  go_wp2
  go_ret
  exact ⟨rfl, rfl⟩
def isUser (s : VS) (who : Int) : Prop := 1 ≤ who ∧ who ≤ (s.Q.length : Int)
set_option maxRecDepth 100000 in
theorem ready_no (h : VwAt F w a n s) (who : Int) (hu : ¬ isUser s who) : Calls Try.prog 51 #[.pointer (some ⟨a.vb, 0, none⟩), .int .i64 who] w fun e w' => e = .returned (.int .i64 18) ∧ w' = w := by
  obtain ⟨qv, r1, r2⟩ := h.row
  have hv := isView_any h
  obtain ⟨ao, cap, rfl, _⟩ := r2.open9
  have c0 := cell_of_row _ _ 0 _ _ _ r1
  obtain ⟨m, hm⟩ : ∃ m, m = s.Q.length := ⟨_, rfl⟩
  unfold isUser at hu
  rw [← hm] at hu c0
  have HV := Lib.hid hv
  clear h r1 r2 hv hm
  by_cases h1 : who < 1
  · go_enter Try.func51, Try.ntmps51
    go_wp2_with (go_at_call 37; refine HV.out.mono ?_; rintro e w1 ⟨rfl, rfl⟩)
    go_ret
    exact ⟨rfl, rfl⟩
  · have h2 : (m : Int) < who := by omega
    go_enter Try.func51, Try.ntmps51
    go_wp2_with (go_at_call 37; refine HV.out.mono ?_; rintro e w1 ⟨rfl, rfl⟩)
    go_ret
    exact ⟨rfl, rfl⟩
set_option maxRecDepth 100000 in
theorem ready_yes (h : VwAt F w a n s) (who : Int) (hu : isUser s who) : Calls Try.prog 51 #[.pointer (some ⟨a.vb, 0, none⟩), .int .i64 who] w fun e w' => e = .returned (.int .i64 0) ∧ w' = w := by
  obtain ⟨qv, r1, r2⟩ := h.row
  have hv := isView_any h
  obtain ⟨ao, cap, rfl, _⟩ := r2.open9
  have c0 := cell_of_row _ _ 0 _ _ _ r1
  obtain ⟨m, hm⟩ : ∃ m, m = s.Q.length := ⟨_, rfl⟩
  unfold isUser at hu
  rw [← hm] at hu c0
  obtain ⟨hu1, hu2⟩ := hu
  have HV := Lib.hid hv
  have h1 : ¬ who < 1 := by omega
  have h2 : ¬ (m : Int) < who := by omega
  clear h r1 r2 hv hm
  go_enter Try.func51, Try.ntmps51
  go_wp2_with (go_at_call 37; refine HV.out.mono ?_; rintro e w1 ⟨rfl, rfl⟩)
  go_ret
  exact ⟨rfl, rfl⟩
def VS.quota (s : VS) (who : Int) : Qt := s.Q.getD (who - 1).toNat default
set_option maxRecDepth 100000 in
theorem quota_any (h : VwAt F w a n s) (who : Int) (hu : isUser s who) : Calls Try.prog 52 #[.pointer (some ⟨a.vb, 0, none⟩), .int .i64 who] w fun e w' => e = .returned (.agg (qA (s.quota who))) ∧ Fr (fun _ => False) w w' := by
  obtain ⟨qv, r1, r2⟩ := h.row
  obtain ⟨ao, cap, rfl, hc1, hc2, b, off, hao, hcells⟩ := r2.open9
  obtain ⟨m, hm⟩ : ∃ m, m = s.Q.length := ⟨_, rfl⟩
  obtain ⟨i, hi⟩ : ∃ i : Nat, who = ((i + 1 : Nat) : Int) := ⟨(who - 1).toNat, by have := hu.1; omega⟩
  have hil : i < s.Q.length := by have := hu.2; omega
  have hq : s.quota who = s.Q[i] := by
    unfold VS.quota
    rw [hi, show ((((i + 1 : Nat) : Int) - 1)).toNat = i by omega, List.getD_eq_getElem?_getD, List.getElem?_eq_getElem hil, Option.getD_some]
  rw [hq]
  subst hi
  obtain ⟨g0, g1, g2, g3⟩ := hcells i hil
  obtain ⟨rfl, hbq⟩ := hao (by omega)
  obtain rfl : b = a.qb := hbq
  have c0 := cell_of_row _ _ 0 _ _ _ r1
  have ht : (-9223372036854775808 : Int) ≤ (i : Int) ∧ (i : Int) ≤ 100 := by have := (okQs_iff h.ok).2.2; omega
  have hw : IntKind.i64.wrap (((i + 1 : Nat) : Int) - 1) = (i : Int) := by rw [show (((i + 1 : Nat) : Int) - 1) = (i : Int) by omega]; exact wrap_in5 (by omega) (by omega)
  have hil2 : (i : Int) < (s.Q.length : Int) := by omega
  have hi0 : (0 : Int) ≤ (i : Int) := by omega
  obtain ⟨q, hqq⟩ : ∃ q, q = s.Q[i] := ⟨_, rfl⟩
  rw [← hqq] at g0 g1 g2 g3 ⊢
  obtain ⟨qb, qo, qr, qn⟩ := q
  simp only at g0 g1 g2 g3
  have hA : Fr (fun _ => False) w (w.alloc (.cells #[.int .i64 0, .int .i64 0, .int .i64 0, .int .i64 0] 38)) := (Fr.refl _ _).alloc _
  have c0 := hA.cell c0 id
  have g0 := hA.cell g0 id
  have g1 := hA.cell g1 id
  have g2 := hA.cell g2 id
  have g3 := hA.cell g3 id
  clear h r1 r2 hm hu hcells hq hao hqq hA
  go_enter Try.func52, Try.ntmps52
  go_wp2
  exact bodyPost_ret (results_cell_row rfl _ _ w.heap.size 38 #[.int .i64 qb, .int .i64 qo, .int .i64 qr, .int .i64 qn] (0, 0) _ rfl (heap_alloc_new w _) Try.underlying38 rfl (by kernel_rfl)) rfl ⟨rfl, (Fr.refl _ _).alloc _⟩
end
end Go.Proofs.Yteockhemeneioaa
namespace Go.Proofs.Yteockhemeneioaa
open Go.RowKit Go.ChangeShapes
set_option linter.unusedVariables false
instance (s : VS) (who : Int) : Decidable (isUser s who) := inferInstanceAs (Decidable (_ ∧ _))
def VS.setR (s : VS) (who : Int) (M : VT PathX) : VS := ⟨s.Q, upd s.R who M, s.N⟩
def VS.setN (s : VS) (who : Int) (M : VT Bs) : VS := ⟨s.Q, s.R, upd s.N who M⟩
def roomE (s : VS) (who o b : Int) : Int := if isUser s who then (if (s.quota who).o < o ∨ (s.quota who).b < b then 8 else 0) else 18
def unrootE (s : VS) (who : Int) (k : Bs) : Int := if isUser s who then (if (vGet (s.R who) k).isSome = true then 0 else 5) else 18
def unrootP (s : VS) (who : Int) (k : Bs) : Value := if isUser s who then (match vGet (s.R who) k with | some x => .agg (pathC x.h x.n) | none => zR) else zR
def unrootS (s : VS) (who : Int) (k : Bs) : VS := if unrootE s who k = 0 then s.setR who (vDel (s.R who) k) else s
def unnoteE (s : VS) (who : Int) (k : Bs) : Int := if isUser s who then (if (vGet (s.N who) k).isSome = true then 0 else 5) else 18
def unnoteS (s : VS) (who : Int) (k : Bs) : VS := if unnoteE s who k = 0 then s.setN who (vDel (s.N who) k) else s
theorem user_wf {s : VS} (hok : okQs s.Q = true) {who : Int} (hu : isUser s who) : Wf who := by
  have := (okQs_iff hok).2.2
  have := hu.1
  have := hu.2
  simp [Wf, Lit.wf, IntKind.min, IntKind.max, IntKind.bits, IntKind.signed]
  omega
section
variable {F G S : Nat → Prop} {w w' : World} {a : VA} {n : Nat} {s : VS}
theorem VwAt.names (h : VwAt F w a n s) : (a.vb ≠ a.tr ∧ a.vb ≠ a.mr ∧ a.vb ≠ a.tn ∧ a.vb ≠ a.mn ∧ a.qb ≠ a.tr ∧ a.qb ≠ a.mr ∧ a.qb ≠ a.tn ∧ a.qb ≠ a.mn) ∧ (a.rb ≠ a.tn ∧ a.rb ≠ a.mn ∧ a.tr ≠ a.tn ∧ a.tr ≠ a.mn ∧ a.mr ≠ a.tn ∧ a.mr ≠ a.mn ∧ a.nb ≠ a.tr ∧ a.nb ≠ a.mr) := by
  have := h.sep.1
  simp only [VA.all, List.nodup_cons, List.mem_cons, List.not_mem_nil, or_false, not_or] at this
  obtain ⟨⟨b1, b2, b3, b4, b5, b6, b7⟩, ⟨c1, c2, c3, c4, c5, c6⟩, ⟨d1, d2, d3, d4, d5⟩, ⟨e1, e2, e3, e4⟩, ⟨f1, f2, f3⟩, ⟨g1, g2⟩, k1, _⟩ := this
  refine ⟨⟨b3, b4, b6, b7, c2, c3, c5, c6⟩, ⟨d4, d5, e3, e4, f2, f3, fun e => e2 e.symm, fun e => f1 e.symm⟩⟩
theorem VwAt.withR (h : VwAt F w a n s) (hf : Fr (fun k => k = a.tr ∨ k = a.mr) w w') (who : Int) (M : VT PathX) (hu : isUser s who) (hb : BkAt kR 118 (fun _ => False) w' a.rb a.tr a.mr (n + 1) (upd s.R who M)) (hM : (M.length : Int) ≤ (s.quota who).r) : VwAt F w' a (n + 1) (s.setR who M) := by
  obtain ⟨⟨n1, n2, n3, n4, n5, n6, n7, n8⟩, ⟨m1, m2, m3, m4, m5, m6, m7, m8⟩⟩ := h.names
  obtain ⟨⟨qv, r1, r2⟩, h2, h3, h4, h5, h6⟩ := h
  refine ⟨⟨qv, hf.heap r1 (fun e => e.elim n1 n2), r2.keep hf (fun b _ hb e => by rw [hb] at e; exact e.elim n5 n6)⟩, hb, (h3.keep hf (fun e => e.elim m7 m8) (fun e => e.elim (fun e => m3 e.symm) (fun e => m5 e.symm)) (fun e => e.elim (fun e => m4 e.symm) (fun e => m6 e.symm)) (fun k _ hk e => ?_)).more (Nat.le_succ n), h4, fun i (hi : i < s.Q.length) => ⟨?_, (h5 i hi).2⟩, h6⟩
  · rcases e with rfl | rfl
    · exact h6.2 a.tr (by simp [VA.all]) hk
    · exact h6.2 a.mr (by simp [VA.all]) hk
  · show ((upd s.R who M ((i + 1 : Nat) : Int)).length : Int) ≤ s.Q[i].r
    by_cases e : ((i + 1 : Nat) : Int) = who
    · rw [e, upd_same]
      have hq : s.quota who = s.Q[i] := by
        unfold VS.quota
        rw [← e, show ((((i + 1 : Nat) : Int) - 1)).toNat = i by omega, List.getD_eq_getElem?_getD, List.getElem?_eq_getElem hi, Option.getD_some]
      rw [← hq]
      exact hM
    · rw [upd_other _ _ e]
      exact (h5 i hi).1
theorem VwAt.withN (h : VwAt F w a n s) (hf : Fr (fun k => k = a.tn ∨ k = a.mn) w w') (who : Int) (M : VT Bs) (hu : isUser s who) (hb : BkAt kN 121 G w' a.nb a.tn a.mn (n + 1) (upd s.N who M)) (hG : ∀ k ∈ a.all, ¬ G k) (hM : (M.length : Int) ≤ (s.quota who).n) : VwAt G w' a (n + 1) (s.setN who M) := by
  obtain ⟨⟨n1, n2, n3, n4, n5, n6, n7, n8⟩, ⟨m1, m2, m3, m4, m5, m6, m7, m8⟩⟩ := h.names
  obtain ⟨⟨qv, r1, r2⟩, h2, h3, h4, h5, h6⟩ := h
  refine ⟨⟨qv, hf.heap r1 (fun e => e.elim n3 n4), r2.keep hf (fun b _ hb e => by rw [hb] at e; exact e.elim n7 n8)⟩, (h2.keep hf (fun e => e.elim m1 m2) (fun e => e.elim m3 m4) (fun e => e.elim m5 m6) (fun _ _ h => h.elim)).more (Nat.le_succ n), hb, h4, fun i (hi : i < s.Q.length) => ⟨(h5 i hi).1, ?_⟩, h6.1, hG⟩
  show ((upd s.N who M ((i + 1 : Nat) : Int)).length : Int) ≤ s.Q[i].n
  by_cases e : ((i + 1 : Nat) : Int) = who
  · rw [e, upd_same]
    have hq : s.quota who = s.Q[i] := by
      unfold VS.quota
      rw [← e, show ((((i + 1 : Nat) : Int) - 1)).toNat = i by omega, List.getD_eq_getElem?_getD, List.getElem?_eq_getElem hi, Option.getD_some]
    rw [← hq]
    exact hM
  · rw [upd_other _ _ e]
    exact (h5 i hi).2
theorem VwAt.more {m : Nat} (h : VwAt F w a n s) (hm : n ≤ m) : VwAt F w a m s := ⟨h.row, h.rk.more hm, h.nk.more hm, h.ok, h.cap, h.sep⟩
theorem VwAt.capU (h : VwAt F w a n s) {who : Int} (hu : isUser s who) : ((s.R who).length : Int) ≤ (s.quota who).r ∧ ((s.N who).length : Int) ≤ (s.quota who).n := by
  obtain ⟨i, hi⟩ : ∃ i : Nat, who = ((i + 1 : Nat) : Int) := ⟨(who - 1).toNat, by have := hu.1; omega⟩
  have hil : i < s.Q.length := by have := hu.2; omega
  have hq : s.quota who = s.Q[i] := by
    unfold VS.quota
    rw [hi, show ((((i + 1 : Nat) : Int) - 1)).toNat = i by omega, List.getD_eq_getElem?_getD, List.getElem?_eq_getElem hil, Option.getD_some]
  rw [hq, hi]
  exact h.cap i hil
set_option maxRecDepth 100000 in
theorem users_any (h : VwAt F w a n s) : Calls Try.prog 12 #[.pointer (some ⟨a.vb, 0, none⟩)] w fun e w' => e = .returned (.int .i64 s.Q.length) ∧ w' = w := by
  obtain ⟨qv, r1, r2⟩ := h.row
  have hv := isView_any h
  obtain ⟨ao, cap, rfl, _⟩ := r2.open9
  have c0 := cell_of_row _ _ 0 _ _ _ r1
  have HV := Lib.hid hv
  clear h r1 r2 hv
  go_enter Try.func12, Try.ntmps12
  go_wp2_with (go_at_call 37; refine HV.out.mono ?_; rintro e w1 ⟨rfl, rfl⟩)
  go_ret
  exact ⟨rfl, rfl⟩
set_option maxRecDepth 100000 in
set_option maxHeartbeats 1000000 in
theorem room_any (h : VwAt F w a n s) (who o b : Int) : Calls Try.prog 15 #[.pointer (some ⟨a.vb, 0, none⟩), .int .i64 who, .int .i64 o, .int .i64 b] w fun e w' => e = .returned (.int .i64 (roomE s who o b)) ∧ Fr (fun _ => False) w w' := by
  by_cases hu : isUser s who
  · have hr := ready_yes h who hu
    have hq := quota_any h who hu
    have HR := Lib.hid hr
    have hE : roomE s who o b = (if (s.quota who).o < o ∨ (s.quota who).b < b then 8 else 0) := by unfold roomE; rw [if_pos hu]
    obtain ⟨⟨qb, qo, qr, qn⟩, hqq⟩ : ∃ q, q = s.quota who := ⟨_, rfl⟩
    rw [← hqq] at hq hE
    simp only at hE
    unfold qA at hq
    simp only at hq
    have HQ := Lib.hid hq
    have HE := Lib.hid hE
    clear hr hq h hqq hE hu
    by_cases h1 : qo < o
    · have HE2 := Lib.hid (show roomE s who o b = 8 by rw [HE.out, if_pos (.inl h1)])
      go_enter Try.func15, Try.ntmps15
      go_wp2_with (first
        | (go_at_call 51; refine HR.out.mono ?_; rintro e w1 ⟨rfl, rfl⟩)
        | (go_at_call 52; refine HQ.out.mono ?_; rintro e w2 ⟨rfl, hf2⟩; (have H2 := Lib.hid hf2); clear hf2))
      go_ret
      exact ⟨by first | (rw [HE2.out]; rfl) | rfl, H2.out.alloc _⟩
    · by_cases h2 : qb < b
      · have HE2 := Lib.hid (show roomE s who o b = 8 by rw [HE.out, if_pos (.inr h2)])
        go_enter Try.func15, Try.ntmps15
        go_wp2_with (first
          | (go_at_call 51; refine HR.out.mono ?_; rintro e w1 ⟨rfl, rfl⟩)
          | (go_at_call 52; refine HQ.out.mono ?_; rintro e w2 ⟨rfl, hf2⟩; (have H2 := Lib.hid hf2); clear hf2))
        go_ret
        exact ⟨by first | (rw [HE2.out]; rfl) | rfl, H2.out.alloc _⟩
      · have HE2 := Lib.hid (show roomE s who o b = 0 by rw [HE.out, if_neg (fun h => h.elim h1 h2)])
        go_enter Try.func15, Try.ntmps15
        go_wp2_with (first
          | (go_at_call 51; refine HR.out.mono ?_; rintro e w1 ⟨rfl, rfl⟩)
          | (go_at_call 52; refine HQ.out.mono ?_; rintro e w2 ⟨rfl, hf2⟩; (have H2 := Lib.hid hf2); clear hf2))
        go_ret
        exact ⟨by first | (rw [HE2.out]; rfl) | rfl, H2.out.alloc _⟩
  · have hr := ready_no h who hu
    have HR := Lib.hid hr
    have HE := Lib.hid (show roomE s who o b = 18 by unfold roomE; rw [if_neg hu])
    clear hr h hu
    go_enter Try.func15, Try.ntmps15
    go_wp2_with (go_at_call 51; refine HR.out.mono ?_; rintro e w1 ⟨rfl, rfl⟩)
    go_ret
    exact ⟨by first | (rw [HE.out]; rfl) | rfl, Fr.refl _ _⟩
end
end Go.Proofs.Yteockhemeneioaa
