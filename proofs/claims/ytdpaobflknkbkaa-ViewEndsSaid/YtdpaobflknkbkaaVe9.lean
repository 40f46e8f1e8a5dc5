/- Laid together: VJq VQ VQs VQt VVw -/
import Derived.Test.YtdpaobflknkbkaaVe8
import Derived.Test.YtdpaobflknkbkaaVe2
import Derived.Test.YtdpaobflknkbkaaVe5
import Derived.Test.YtdpaobflknkbkaaVe6
import Derived.LaidEqlPtr

namespace Go.Proofs.Ytdpaobflknkbkaa
open Go.RowKit Go.ChangeShapes
set_option linter.unusedVariables false
theorem rWithin_any (w : World) (n : Int) (b : Bool) (hb : manyS n = b) :
    Calls Try.prog 75 #[.int .i64 n] w fun e w' => e = .returned (.bool b) ∧ w = w' := by
  subst hb
  by_cases h1 : 1 ≤ n
  · by_cases h2 : n ≤ 8192
    · have hR : manyS n = true := by rw [manyS, decide_eq_true_iff]; exact ⟨h1, h2⟩
      rw [hR]
      clear hR
      go_enter Try.func75, Try.ntmps75
      go_wp2
      go_ret
      exact ⟨rfl, rfl⟩
    · have hR : manyS n = false := by rw [manyS, decide_eq_false_iff_not]; omega
      rw [hR]
      clear hR
      go_enter Try.func75, Try.ntmps75
      go_wp2
      go_ret
      exact ⟨rfl, rfl⟩
  · have hR : manyS n = false := by rw [manyS, decide_eq_false_iff_not]; omega
    rw [hR]
    clear hR
    go_enter Try.func75, Try.ntmps75
    go_wp2
    go_ret
    exact ⟨rfl, rfl⟩
set_option maxRecDepth 100000 in
set_option maxHeartbeats 4000000 in
theorem rRight_0 (w : World) (L A D : Int) (b1 : manyS L = false) :
    Calls Try.prog 57 #[.agg #[.int .i64 L, .int .i64 A, .int .i64 D]] w fun e w' => e = .returned (.bool false) ∧ Fr (fun _ => False) w w' := by
  have C1 := Lib.hid fun W => rWithin_any W L false b1
  clear b1
  go_enter Try.func57, Try.ntmps57
  go_wp2_with (go_at_call 75; (first | ((with_reducible refine (C1.out _).mono ?_); rintro e w1 ⟨rfl, rfl⟩)))
  go_ret
  exact ⟨rfl, (Fr.refl _ w).alloc _⟩
set_option maxRecDepth 100000 in
set_option maxHeartbeats 4000000 in
theorem rRight_1 (w : World) (l : Nat) (A D : Int) (b1 : manyS l = true) (b2 : manyS A = false) :
    Calls Try.prog 57 #[.agg #[.int .i64 l, .int .i64 A, .int .i64 D]] w fun e w' => e = .returned (.bool false) ∧ Fr (fun _ => False) w w' := by
  have C1 := Lib.hid fun W => rWithin_any W l true b1
  have C2 := Lib.hid fun W => rWithin_any W A false b2
  clear b1 b2
  go_enter Try.func57, Try.ntmps57
  go_wp2_with (go_at_call 75; (first | ((with_reducible refine (C1.out _).mono ?_); rintro e w1 ⟨rfl, rfl⟩) | ((with_reducible refine (C2.out _).mono ?_); rintro e w1 ⟨rfl, rfl⟩)))
  go_ret
  exact ⟨rfl, (Fr.refl _ w).alloc _⟩
set_option maxRecDepth 100000 in
set_option maxHeartbeats 4000000 in
theorem rRight_2 (w : World) (l la : Nat) (D : Int) (b1 : manyS l = true) (b2 : manyS la = true) (b3 : manyS D = false) :
    Calls Try.prog 57 #[.agg #[.int .i64 l, .int .i64 la, .int .i64 D]] w fun e w' => e = .returned (.bool false) ∧ Fr (fun _ => False) w w' := by
  have C1 := Lib.hid fun W => rWithin_any W l true b1
  have C2 := Lib.hid fun W => rWithin_any W la true b2
  have C3 := Lib.hid fun W => rWithin_any W D false b3
  clear b1 b2 b3
  go_enter Try.func57, Try.ntmps57
  go_wp2_with (go_at_call 75; (first | ((with_reducible refine (C1.out _).mono ?_); rintro e w1 ⟨rfl, rfl⟩) | ((with_reducible refine (C2.out _).mono ?_); rintro e w1 ⟨rfl, rfl⟩) | ((with_reducible refine (C3.out _).mono ?_); rintro e w1 ⟨rfl, rfl⟩)))
  go_ret
  exact ⟨rfl, (Fr.refl _ w).alloc _⟩
set_option maxRecDepth 100000 in
set_option maxHeartbeats 4000000 in
theorem rRight_4 (w : World) (l la d : Nat) (b1 : manyS l = true) (b2 : manyS la = true) (b3 : manyS d = true) (hl2 : l ≤ 8192) (ha2 : la ≤ 8192) (hd2 : d ≤ 8192) (hle : 1 + l + 2 * la + d ≤ 8192) :
    Calls Try.prog 57 #[.agg #[.int .i64 l, .int .i64 la, .int .i64 d]] w fun e w' => e = .returned (.bool true) ∧ Fr (fun _ => False) w w' := by
  have C1 := Lib.hid fun W => rWithin_any W l true b1
  have C2 := Lib.hid fun W => rWithin_any W la true b2
  have C3 := Lib.hid fun W => rWithin_any W d true b3
  have hle2 : decide ((1 : Int) + l + 2 * la + d ≤ 8192) = true := by rw [decide_eq_true_iff]; omega
  clear hle
  clear b1 b2 b3
  go_enter Try.func57, Try.ntmps57
  go_wp2_with (go_at_call 75; (first | ((with_reducible refine (C1.out _).mono ?_); rintro e w1 ⟨rfl, rfl⟩) | ((with_reducible refine (C2.out _).mono ?_); rintro e w1 ⟨rfl, rfl⟩) | ((with_reducible refine (C3.out _).mono ?_); rintro e w1 ⟨rfl, rfl⟩)))
  go_ret
  exact ⟨rfl, (Fr.refl _ w).alloc _⟩
set_option maxRecDepth 100000 in
set_option maxHeartbeats 4000000 in
theorem rRight_5 (w : World) (l la d : Nat) (b1 : manyS l = true) (b2 : manyS la = true) (b3 : manyS d = true) (hl2 : l ≤ 8192) (ha2 : la ≤ 8192) (hd2 : d ≤ 8192) (hle : ¬ 1 + l + 2 * la + d ≤ 8192) :
    Calls Try.prog 57 #[.agg #[.int .i64 l, .int .i64 la, .int .i64 d]] w fun e w' => e = .returned (.bool false) ∧ Fr (fun _ => False) w w' := by
  have C1 := Lib.hid fun W => rWithin_any W l true b1
  have C2 := Lib.hid fun W => rWithin_any W la true b2
  have C3 := Lib.hid fun W => rWithin_any W d true b3
  have hle2 : decide ((1 : Int) + l + 2 * la + d ≤ 8192) = false := by rw [decide_eq_false_iff_not]; omega
  clear hle
  clear b1 b2 b3
  go_enter Try.func57, Try.ntmps57
  go_wp2_with (go_at_call 75; (first | ((with_reducible refine (C1.out _).mono ?_); rintro e w1 ⟨rfl, rfl⟩) | ((with_reducible refine (C2.out _).mono ?_); rintro e w1 ⟨rfl, rfl⟩) | ((with_reducible refine (C3.out _).mono ?_); rintro e w1 ⟨rfl, rfl⟩)))
  go_ret
  exact ⟨rfl, (Fr.refl _ w).alloc _⟩
theorem rRight_any (w : World) (L A D : Int) :
    Calls Try.prog 57 #[.agg #[.int .i64 L, .int .i64 A, .int .i64 D]] w fun e w' => e = .returned (.bool (rightS L A D)) ∧ Fr (fun _ => False) w w' := by
  cases b1 : manyS L with
  | false =>
    rw [show rightS L A D = false by rw [rightS, b1]; rfl]
    exact rRight_0 w L A D b1
  | true =>
    obtain ⟨l, rfl, hl1, hl2⟩ := manyS_yes b1
    cases b2 : manyS A with
    | false =>
      rw [show rightS l A D = false by rw [rightS, b1, b2]; rfl]
      exact rRight_1 w l A D b1 b2
    | true =>
      obtain ⟨a, rfl, ha1, ha2⟩ := manyS_yes b2
      cases b3 : manyS D with
      | false =>
        rw [show rightS l a D = false by rw [rightS, b1, b2, b3]; rfl]
        exact rRight_2 w l a D b1 b2 b3
      | true =>
        obtain ⟨d, rfl, hd1, hd2⟩ := manyS_yes b3
        by_cases hle : 1 + l + 2 * a + d ≤ 8192
        · rw [show rightS l a d = true from rightS_nat hl1 ha1 hd1 hle]
          exact rRight_4 w l a d b1 b2 b3 hl2 ha2 hd2 hle
        · rw [show rightS l a d = false by
            rw [rightS, b1, b2, b3]
            simp only [Bool.true_and, decide_eq_false_iff_not]
            omega]
          exact rRight_5 w l a d b1 b2 b3 hl2 ha2 hd2 hle
end Go.Proofs.Ytdpaobflknkbkaa
namespace Go.Proofs.Ytdpaobflknkbkaa
open Go.RowKit Go.ChangeShapes
set_option linter.unusedVariables false
structure Qt where
  b : Int
  o : Int
  r : Int
  n : Int
deriving DecidableEq
instance : Inhabited Qt := ⟨⟨0, 0, 0, 0⟩⟩
def in9 (n m : Int) : Bool := decide (0 ≤ n ∧ n ≤ m)
theorem in9_yes {n m : Int} (h : in9 n m = true) : 0 ≤ n ∧ n ≤ m := by simpa [in9] using h
def okQ (q : Qt) : Bool := in9 q.o 150 && in9 q.b 614400 && in9 q.r 100 && in9 q.n 400
def okQs (Q : List Qt) : Bool := Q.all okQ && decide (1 ≤ Q.length) && decide (Q.length ≤ 8)
def qC (q : Qt) : List Value := [.int .i64 q.b, .int .i64 q.o, .int .i64 q.r, .int .i64 q.n]
def qA (q : Qt) : Array Value := #[.int .i64 q.b, .int .i64 q.o, .int .i64 q.r, .int .i64 q.n]
theorem qC_len (l : List Qt) : ∀ c ∈ l.map qC, c.length = 4 := by
  intro c hc
  obtain ⟨r, _, rfl⟩ := List.mem_map.1 hc
  rfl
theorem qC_one (l : List Qt) : ∀ c ∈ l.map qC, ∀ u ∈ c, u.oneCell' = true := by
  intro c hc u hu
  obtain ⟨r, _, rfl⟩ := List.mem_map.1 hc
  simp only [qC, List.mem_cons, List.not_mem_nil, or_false] at hu
  rcases hu with rfl | rfl | rfl | rfl <;> rfl
def QsIn (F : Nat → Prop) (w : World) (v : Value) (l : List Qt) : Prop := Elems 4 F w v (l.map qC)
theorem QsIn.keep {F S : Nat → Prop} {w w' : World} {v : Value} {l : List Qt} (h : QsIn F w v l) (hf : Fr S w w') (hd : ∀ b, b < w.heap.size → F b → ¬ S b) : QsIn F w' v l := Elems.keep h hf hd
theorem QsIn.quiet {F : Nat → Prop} {w w' : World} {v : Value} {l : List Qt} (h : QsIn F w v l) (hf : Fr (fun _ => False) w w') : QsIn F w' v l := h.keep hf (fun _ _ _ h => h)
theorem QsIn.mono {F G : Nat → Prop} {w : World} {v : Value} {l : List Qt} (h : QsIn F w v l) (hd : ∀ b, b < w.heap.size → F b → G b) : QsIn G w v l := Elems.mono h (by decide) hd
theorem QsIn.open9 {F : Nat → Prop} {w : World} {v : Value} {l : List Qt} (h : QsIn F w v l) : ∃ ao cap, v = .slice ao l.length cap ∧ l.length ≤ cap ∧ cap ≤ 9223372036854775807 ∧
    ∃ b off, (0 < l.length → ao = some ⟨b, off, none⟩ ∧ F b) ∧ ∀ i (h : i < l.length), w.cell? ⟨b, off + i * 4, none⟩ = some (.int .i64 l[i].b) ∧ w.cell? ⟨b, off + i * 4 + 1, none⟩ = some (.int .i64 l[i].o) ∧ w.cell? ⟨b, off + i * 4 + 2, none⟩ = some (.int .i64 l[i].r) ∧ w.cell? ⟨b, off + i * 4 + 3, none⟩ = some (.int .i64 l[i].n) := by
  obtain ⟨ao, cap, hv, h1, h2, h3, h4⟩ := h
  rw [List.length_map] at hv h1
  refine ⟨ao, cap, hv, h1, h2, ?_⟩
  by_cases hl : l = []
  · subst hl
    exact ⟨0, 0, fun h => by simp at h, fun i h => by simp at h⟩
  · obtain ⟨b, off, ha, hF, hi⟩ := h4 (by simpa using hl)
    refine ⟨b, off, fun _ => ⟨ha, hF⟩, fun i h => ?_⟩
    have g := fun j hj => hi i (by simpa using h) j hj
    exact ⟨(g 0 (by decide)).trans (by simp [qC]), (g 1 (by decide)).trans (by simp [qC]), (g 2 (by decide)).trans (by simp [qC]), (g 3 (by decide)).trans (by simp [qC])⟩
theorem infoQ : (Try.prog.info? 38).map (fun i => (i.zero, i.size, i.bytes)) = some (some (.agg #[.int .i64 0, .int .i64 0, .int .i64 0, .int .i64 0]), 4, 32) := by kernel_rfl
section
set_option maxRecDepth 100000
theorem vWithin_any (w : World) (n m : Int) :
    Calls Try.prog 58 #[.int .i64 n, .int .i64 m] w fun e w' => e = .returned (.bool (in9 n m)) ∧ w' = w := by
  by_cases h1 : 0 ≤ n
  · by_cases h2 : n ≤ m
    · have hR : in9 n m = true := by simp [in9, h1, h2]
      have HR := Lib.hid hR
      rw [hR]; clear hR
      go_enter Try.func58, Try.ntmps58
      go_wp2
      go_ret
      exact ⟨rfl, rfl⟩
    · have hR : in9 n m = false := by simp [in9, h2]
      rw [hR]; clear hR
      go_enter Try.func58, Try.ntmps58
      go_wp2
      go_ret
      exact ⟨rfl, rfl⟩
  · have hR : in9 n m = false := by simp [in9, h1]
    rw [hR]; clear hR
    go_enter Try.func58, Try.ntmps58
    go_wp2
    go_ret
    exact ⟨rfl, rfl⟩
theorem rWithin14_any (w : World) (n m : Int) :
    Calls Try.prog 59 #[.int .i64 n, .int .i64 m] w fun e w' => e = .returned (.bool (in9 n m)) ∧ w' = w := by
  by_cases h1 : 0 ≤ n
  · by_cases h2 : n ≤ m
    · have hR : in9 n m = true := by simp [in9, h1, h2]
      rw [hR]; clear hR
      go_enter Try.func59, Try.ntmps59
      go_wp2
      go_ret
      exact ⟨rfl, rfl⟩
    · have hR : in9 n m = false := by simp [in9, h2]
      rw [hR]; clear hR
      go_enter Try.func59, Try.ntmps59
      go_wp2
      go_ret
      exact ⟨rfl, rfl⟩
  · have hR : in9 n m = false := by simp [in9, h1]
    rw [hR]; clear hR
    go_enter Try.func59, Try.ntmps59
    go_wp2
    go_ret
    exact ⟨rfl, rfl⟩
set_option maxHeartbeats 1000000
theorem vRight_any (w : World) (b o r n : Int) :
    Calls Try.prog 19 #[.agg #[.int .i64 b, .int .i64 o, .int .i64 r, .int .i64 n]] w fun e w' => e = .returned (.bool (okQ ⟨b, o, r, n⟩)) ∧ Fr (fun _ => False) w w' := by
  have hR : okQ ⟨b, o, r, n⟩ = (in9 o 150 && in9 b 614400 && in9 r 100 && in9 n 400) := rfl
  rw [hR]
  clear hR
  have H1 := fun W => vWithin_any W o 150
  have H2 := fun W => vWithin_any W b 614400
  have H3 := fun W => vWithin_any W r 100
  have H4 := fun W => vWithin_any W n 400
  generalize in9 o 150 = x1 at *
  generalize in9 b 614400 = x2 at *
  generalize in9 r 100 = x3 at *
  generalize in9 n 400 = x4 at *
  have G1 := Lib.hid H1
  have G2 := Lib.hid H2
  have G3 := Lib.hid H3
  have G4 := Lib.hid H4
  clear H1 H2 H3 H4
  cases x1 with
  | false =>
    go_enter Try.func19, Try.ntmps19
    go_wp2_with (first
      | (go_at_call 58; (with_reducible refine (G1.out _).mono ?_); rintro e w1 ⟨rfl, rfl⟩))
    go_ret
    exact ⟨rfl, (Fr.refl _ _).alloc _⟩
  | true =>
    cases x2 with
    | false =>
      go_enter Try.func19, Try.ntmps19
      go_wp2_with (first
        | (go_at_call 58; (with_reducible refine (G1.out _).mono ?_); rintro e w1 ⟨rfl, rfl⟩)
        | (go_at_call 58; (with_reducible refine (G2.out _).mono ?_); rintro e w1 ⟨rfl, rfl⟩))
      go_ret
      exact ⟨rfl, (Fr.refl _ _).alloc _⟩
    | true =>
      cases x3 with
      | false =>
        go_enter Try.func19, Try.ntmps19
        go_wp2_with (first
          | (go_at_call 58; (with_reducible refine (G1.out _).mono ?_); rintro e w1 ⟨rfl, rfl⟩)
          | (go_at_call 58; (with_reducible refine (G2.out _).mono ?_); rintro e w1 ⟨rfl, rfl⟩)
          | (go_at_call 58; (with_reducible refine (G3.out _).mono ?_); rintro e w1 ⟨rfl, rfl⟩))
        go_ret
        exact ⟨rfl, (Fr.refl _ _).alloc _⟩
      | true =>
        go_enter Try.func19, Try.ntmps19
        go_wp2_with (first
          | (go_at_call 58; (with_reducible refine (G1.out _).mono ?_); rintro e w1 ⟨rfl, rfl⟩)
          | (go_at_call 58; (with_reducible refine (G2.out _).mono ?_); rintro e w1 ⟨rfl, rfl⟩)
          | (go_at_call 58; (with_reducible refine (G3.out _).mono ?_); rintro e w1 ⟨rfl, rfl⟩)
          | (go_at_call 58; (with_reducible refine (G4.out _).mono ?_); rintro e w1 ⟨rfl, rfl⟩))
        go_ret
        exact ⟨rfl, (Fr.refl _ _).alloc _⟩
theorem rRight14_any (w : World) (b o r n : Int) :
    Calls Try.prog 20 #[.agg #[.int .i64 b, .int .i64 o, .int .i64 r, .int .i64 n]] w fun e w' => e = .returned (.bool (okQ ⟨b, o, r, n⟩)) ∧ Fr (fun _ => False) w w' := by
  have hR : okQ ⟨b, o, r, n⟩ = (in9 o 150 && in9 b 614400 && in9 r 100 && in9 n 400) := rfl
  rw [hR]
  clear hR
  have H1 := fun W => rWithin14_any W o 150
  have H2 := fun W => rWithin14_any W b 614400
  have H3 := fun W => rWithin14_any W r 100
  have H4 := fun W => rWithin14_any W n 400
  generalize in9 o 150 = x1 at *
  generalize in9 b 614400 = x2 at *
  generalize in9 r 100 = x3 at *
  generalize in9 n 400 = x4 at *
  have G1 := Lib.hid H1
  have G2 := Lib.hid H2
  have G3 := Lib.hid H3
  have G4 := Lib.hid H4
  clear H1 H2 H3 H4
  cases x1 with
  | false =>
    go_enter Try.func20, Try.ntmps20
    go_wp2_with (first
      | (go_at_call 59; (with_reducible refine (G1.out _).mono ?_); rintro e w1 ⟨rfl, rfl⟩))
    go_ret
    exact ⟨rfl, (Fr.refl _ _).alloc _⟩
  | true =>
    cases x2 with
    | false =>
      go_enter Try.func20, Try.ntmps20
      go_wp2_with (first
        | (go_at_call 59; (with_reducible refine (G1.out _).mono ?_); rintro e w1 ⟨rfl, rfl⟩)
        | (go_at_call 59; (with_reducible refine (G2.out _).mono ?_); rintro e w1 ⟨rfl, rfl⟩))
      go_ret
      exact ⟨rfl, (Fr.refl _ _).alloc _⟩
    | true =>
      cases x3 with
      | false =>
        go_enter Try.func20, Try.ntmps20
        go_wp2_with (first
          | (go_at_call 59; (with_reducible refine (G1.out _).mono ?_); rintro e w1 ⟨rfl, rfl⟩)
          | (go_at_call 59; (with_reducible refine (G2.out _).mono ?_); rintro e w1 ⟨rfl, rfl⟩)
          | (go_at_call 59; (with_reducible refine (G3.out _).mono ?_); rintro e w1 ⟨rfl, rfl⟩))
        go_ret
        exact ⟨rfl, (Fr.refl _ _).alloc _⟩
      | true =>
        go_enter Try.func20, Try.ntmps20
        go_wp2_with (first
          | (go_at_call 59; (with_reducible refine (G1.out _).mono ?_); rintro e w1 ⟨rfl, rfl⟩)
          | (go_at_call 59; (with_reducible refine (G2.out _).mono ?_); rintro e w1 ⟨rfl, rfl⟩)
          | (go_at_call 59; (with_reducible refine (G3.out _).mono ?_); rintro e w1 ⟨rfl, rfl⟩)
          | (go_at_call 59; (with_reducible refine (G4.out _).mono ?_); rintro e w1 ⟨rfl, rfl⟩))
        go_ret
        exact ⟨rfl, (Fr.refl _ _).alloc _⟩
end
end Go.Proofs.Ytdpaobflknkbkaa
namespace Go.Proofs.Ytdpaobflknkbkaa
open Go.RowKit Go.ChangeShapes
set_option linter.unusedVariables false
theorem all_take9 (Q : List Qt) (i : Nat) (h : i < Q.length) : (Q.take (i + 1)).all okQ = ((Q.take i).all okQ && okQ Q[i]) := by
  rw [List.take_succ_eq_append_getElem h, List.all_append]
  simp
theorem all_bad9 (Q : List Qt) (i : Nat) (h : i < Q.length) (hc : okQ Q[i] = false) : Q.all okQ = false := by
  rw [List.all_eq_false]
  exact ⟨Q[i], List.getElem_mem _, by simp [hc]⟩
section
set_option maxRecDepth 100000
set_option maxHeartbeats 1000000
theorem areRight_any {F : Nat → Prop} (w : World) (v : Value) (Q : List Qt) (hQ : QsIn F w v Q) :
    Calls Try.prog 32 #[v] w fun e w' => e = .returned (.bool (okQs Q)) ∧ Fr (fun _ => False) w w' := by
  obtain ⟨ao, cap, rfl, hc1, hc2, b, off, hao, hcells⟩ := hQ.open9
  obtain ⟨n, hn⟩ : ∃ n, n = Q.length := ⟨_, rfl⟩
  obtain ⟨R, hR⟩ : ∃ R, R = okQs Q := ⟨_, rfl⟩
  rw [← hR]
  rw [← hn] at hc1 hao ⊢
  have HN := Lib.hid hn
  have HR := Lib.hid hR
  have HAO := Lib.hid hao
  have HCE := Lib.hid hcells
  clear hn hR hao hcells hQ
  go_enter Try.func32, Try.ntmps32
  go_wp2
  go_loopw [7] (fun iv wr => ∃ (i : Nat), i ≤ n ∧ iv = .int .i64 i ∧ Hid (Fr (fun _ => False) w wr ∧ (Q.take i).all okQ = true)) (fun iv _ => n - (intOf iv).toNat)
  case atStart => exact ⟨0, by omega, rfl, Lib.hid ⟨Fr.refl _ _, rfl⟩⟩
  case round =>
    obtain ⟨i, hi, rfl, hf⟩ := hrel
    by_cases hlt : i < n
    · have hiL : i < Q.length := by have := HN.out; omega
      obtain ⟨rfl, hFb⟩ := HAO.out (by omega)
      obtain ⟨g0, g1, g2, g3⟩ := HCE.out i hiL
      have c0 := hf.out.1.cell g0 id
      have c1 := hf.out.1.cell g1 id
      have c2 := hf.out.1.cell g2 id
      have c3 := hf.out.1.cell g3 id
      obtain ⟨q, hq⟩ : ∃ q, q = Q[i] := ⟨_, rfl⟩
      rw [← hq] at c0 c1 c2 c3
      have hi64 : (i : Int) < (n : Int) := by omega
      have HQ := Lib.hid (List.getElem?_eq_some_iff.2 ⟨hiL, hq.symm⟩ : Q[i]? = some q)
      clear g0 g1 g2 g3 hq hiL
      cases hk : okQ q with
      | false =>
        have HS := Lib.hid (show okQ ⟨q.b, q.o, q.r, q.n⟩ = false from hk)
        have HK := Lib.hid hk
        clear hk
        go_wp2_with (go_at_call 19; refine (vRight_any _ q.b q.o q.r q.n).mono ?_; rintro e w4 ⟨rfl, hf4⟩; rw [HS.out]; (have H4 := Lib.hid hf4); clear hf4)
        go_ret
        have hbad : R = false := by
          obtain ⟨h2, h1⟩ := List.getElem?_eq_some_iff.1 HQ.out
          rw [HR.out, okQs, all_bad9 Q i h2 (by rw [h1]; exact HK.out)]
          rfl
        rw [hbad]
        exact ⟨rfl, (hf.out.1.alloc _).trans H4.out (fun _ h => h.elim)⟩
      | true =>
        have HS := Lib.hid (show okQ ⟨q.b, q.o, q.r, q.n⟩ = true from hk)
        have HK := Lib.hid hk
        clear hk
        go_wp2_with (go_at_call 19; refine (vRight_any _ q.b q.o q.r q.n).mono ?_; rintro e w4 ⟨rfl, hf4⟩; rw [HS.out]; (have H4 := Lib.hid hf4); clear hf4)
        go_roundw
        case rel =>
          obtain ⟨h2, h1⟩ := List.getElem?_eq_some_iff.1 HQ.out
          exact ⟨i + 1, by omega, by go_num, Lib.hid ⟨(hf.out.1.alloc _).trans H4.out (fun _ h => h.elim), by rw [all_take9 Q i h2, hf.out.2, h1, HK.out]; rfl⟩⟩
        case measure => simp [intOf]; omega
    · obtain rfl : i = n := by omega
      have hall : Q.all okQ = true := by
        have := hf.out.2
        rwa [List.take_of_length_le (by rw [← HN.out]; exact Nat.le_refl _)] at this
      have hRe : R = (decide (1 ≤ i) && decide (i ≤ 8)) := by rw [HR.out, okQs, hall, ← HN.out, Bool.true_and]
      have HRE := Lib.hid hRe
      have HF := Lib.hid hf.out.1
      clear hall hRe hf hlt
      by_cases h1 : 1 ≤ i
      · have d1 : (1 : Int) ≤ (i : Int) := by omega
        by_cases h8 : i ≤ 8
        · have d8 : (i : Int) ≤ 8 := by omega
          have HE := Lib.hid (show R = true by rw [HRE.out]; simp [h1, h8])
          go_wp2
          go_ret
          exact ⟨by rw [HE.out]; rfl, HF.out⟩
        · have d8 : ¬ (i : Int) ≤ 8 := by omega
          have HE := Lib.hid (show R = false by rw [HRE.out]; simp [h8])
          go_wp2
          go_ret
          exact ⟨by rw [HE.out]; rfl, HF.out⟩
      · have d1 : ¬ (1 : Int) ≤ (i : Int) := by omega
        have HE := Lib.hid (show R = false by rw [HRE.out]; simp [h1])
        go_wp2
        go_ret
        exact ⟨by rw [HE.out]; rfl, HF.out⟩
end
end Go.Proofs.Ytdpaobflknkbkaa
namespace Go.Proofs.Ytdpaobflknkbkaa
open Go.RowKit Go.ChangeShapes
set_option linter.unusedVariables false
def areaQ (q : Qt) : Int := 2400 * q.o + 100 * q.r + 2130 * q.n + 100
def areaOf (Q : List Qt) : Int := 100 + (Q.map areaQ).sum
def dataQ (q : Qt) : Int := q.b / 64 + q.o
def dataOf (Q : List Qt) : Int := 64 + (Q.map dataQ).sum
theorem areaOf_take (Q : List Qt) (i : Nat) (h : i < Q.length) : areaOf (Q.take (i + 1)) = areaOf (Q.take i) + areaQ Q[i] := by
  unfold areaOf
  rw [List.take_succ_eq_append_getElem h, List.map_append, List.sum_append]
  simp
  omega
theorem dataOf_take (Q : List Qt) (i : Nat) (h : i < Q.length) : dataOf (Q.take (i + 1)) = dataOf (Q.take i) + dataQ Q[i] := by
  unfold dataOf
  rw [List.take_succ_eq_append_getElem h, List.map_append, List.sum_append]
  simp
  omega
theorem okQ_bounds {q : Qt} (h : okQ q = true) : (0 ≤ q.o ∧ q.o ≤ 150) ∧ (0 ≤ q.b ∧ q.b ≤ 614400) ∧ (0 ≤ q.r ∧ q.r ≤ 100) ∧ (0 ≤ q.n ∧ q.n ≤ 400) := by
  unfold okQ at h
  rw [Bool.and_eq_true, Bool.and_eq_true, Bool.and_eq_true] at h
  exact ⟨in9_yes h.1.1.1, in9_yes h.1.1.2, in9_yes h.1.2, in9_yes h.2⟩
theorem okQs_iff {Q : List Qt} (h : okQs Q = true) : (∀ q ∈ Q, okQ q = true) ∧ 1 ≤ Q.length ∧ Q.length ≤ 8 := by
  unfold okQs at h
  rw [Bool.and_eq_true, Bool.and_eq_true, decide_eq_true_iff, decide_eq_true_iff] at h
  exact ⟨List.all_eq_true.1 h.1.1, h.1.2, h.2⟩
theorem area_le {Q : List Qt} (h : ∀ q ∈ Q, okQ q = true) : ∀ i, i ≤ Q.length → 100 ≤ areaOf (Q.take i) ∧ areaOf (Q.take i) ≤ 100 + 1300000 * i
  | 0, _ => by simp [areaOf]
  | i + 1, hi => by
    have ih := area_le h i (by omega)
    have hb := okQ_bounds (h _ (List.getElem_mem (show i < Q.length by omega)))
    rw [areaOf_take Q i (by omega)]
    unfold areaQ
    omega
theorem data_le {Q : List Qt} (h : ∀ q ∈ Q, okQ q = true) : ∀ i, i ≤ Q.length → 64 ≤ dataOf (Q.take i) ∧ dataOf (Q.take i) ≤ 64 + 20000 * i
  | 0, _ => by simp [dataOf]
  | i + 1, hi => by
    have ih := data_le h i (by omega)
    have hb := okQ_bounds (h _ (List.getElem_mem (show i < Q.length by omega)))
    rw [dataOf_take Q i (by omega)]
    unfold dataQ
    omega
section
set_option maxRecDepth 100000
set_option maxHeartbeats 1000000
theorem areaBytes_any {F : Nat → Prop} (w : World) (v : Value) (Q : List Qt) (hQ : QsIn F w v Q) (hok : okQs Q = true) :
    Calls Try.prog 55 #[v] w fun e w' => e = .returned (.int .i64 (areaOf Q)) ∧ Fr (fun _ => False) w w' := by
  obtain ⟨ao, cap, rfl, hc1, hc2, b, off, hao, hcells⟩ := hQ.open9
  obtain ⟨hall, hn1, hn8⟩ := okQs_iff hok
  obtain ⟨n, hn⟩ : ∃ n, n = Q.length := ⟨_, rfl⟩
  rw [← hn] at hc1 hao hn1 hn8 ⊢
  have HN := Lib.hid hn
  have HAO := Lib.hid hao
  have HCE := Lib.hid hcells
  have HALL := Lib.hid hall
  clear hn hao hcells hQ hok hall
  go_enter Try.func55, Try.ntmps55
  go_wp2
  go_loopw [3, 8] (fun av iv wr => ∃ (i : Nat), i ≤ n ∧ iv = .int .i64 i ∧ av = .int .i64 (areaOf (Q.take i)) ∧ Hid (Fr (fun _ => False) w wr)) (fun _ iv _ => n - (intOf iv).toNat)
  case atStart => exact ⟨0, by omega, rfl, rfl, Lib.hid (Fr.refl _ _)⟩
  case round =>
    obtain ⟨i, hi, rfl, rfl, hf⟩ := hrel
    by_cases hlt : i < n
    · have hiL : i < Q.length := by have := HN.out; omega
      obtain ⟨rfl, hFb⟩ := HAO.out (by omega)
      obtain ⟨g0, g1, g2, g3⟩ := HCE.out i hiL
      have c0 := hf.out.cell g0 id
      have c1 := hf.out.cell g1 id
      have c2 := hf.out.cell g2 id
      have c3 := hf.out.cell g3 id
      obtain ⟨q, hq⟩ : ∃ q, q = Q[i] := ⟨_, rfl⟩
      rw [← hq] at c0 c1 c2 c3
      have hok := HALL.out _ (List.getElem_mem hiL)
      rw [← hq] at hok
      obtain ⟨⟨ho0, ho1⟩, ⟨hb0, hb1⟩, ⟨hr0, hr1⟩, ⟨hn0, hn1'⟩⟩ := okQ_bounds hok
      have ha := area_le HALL.out i (by omega)
      have hst := areaOf_take Q i hiL
      rw [← hq] at hst
      obtain ⟨A, hA⟩ : ∃ A, A = areaOf (Q.take i) := ⟨_, rfl⟩
      rw [← hA] at ha hst ⊢
      obtain ⟨ha0, ha1⟩ := ha
      have hi64 : (i : Int) < (n : Int) := by omega
      obtain ⟨qb, qo, qr, qn⟩ := q
      simp only at c0 c1 c2 c3 ho0 ho1 hb0 hb1 hr0 hr1 hn0 hn1'
      unfold areaQ at hst
      simp only at hst
      have HST := Lib.hid hst
      clear g0 g1 g2 g3 hq hiL hok hst hA
      go_wp2
      go_roundw
      case rel => exact ⟨i + 1, by omega, by go_num, by rw [HST.out]; congr 1; omega, Lib.hid (hf.out.alloc _)⟩
      case measure => simp [intOf]; omega
    · obtain rfl : i = n := by omega
      have htk : Q.take i = Q := List.take_of_length_le (by rw [← HN.out]; exact Nat.le_refl _)
      rw [htk]
      clear htk
      go_wp2
      go_ret
      exact ⟨rfl, hf.out⟩
theorem dataSectors_any {F : Nat → Prop} (w : World) (v : Value) (Q : List Qt) (hQ : QsIn F w v Q) (hok : okQs Q = true) :
    Calls Try.prog 56 #[v] w fun e w' => e = .returned (.int .i64 (dataOf Q)) ∧ Fr (fun _ => False) w w' := by
  obtain ⟨ao, cap, rfl, hc1, hc2, b, off, hao, hcells⟩ := hQ.open9
  obtain ⟨hall, hn1, hn8⟩ := okQs_iff hok
  obtain ⟨n, hn⟩ : ∃ n, n = Q.length := ⟨_, rfl⟩
  rw [← hn] at hc1 hao hn1 hn8 ⊢
  have HN := Lib.hid hn
  have HAO := Lib.hid hao
  have HCE := Lib.hid hcells
  have HALL := Lib.hid hall
  clear hn hao hcells hQ hok hall
  go_enter Try.func56, Try.ntmps56
  go_wp2
  go_loopw [3, 8] (fun av iv wr => ∃ (i : Nat), i ≤ n ∧ iv = .int .i64 i ∧ av = .int .i64 (dataOf (Q.take i)) ∧ Hid (Fr (fun _ => False) w wr)) (fun _ iv _ => n - (intOf iv).toNat)
  case atStart => exact ⟨0, by omega, rfl, rfl, Lib.hid (Fr.refl _ _)⟩
  case round =>
    obtain ⟨i, hi, rfl, rfl, hf⟩ := hrel
    by_cases hlt : i < n
    · have hiL : i < Q.length := by have := HN.out; omega
      obtain ⟨rfl, hFb⟩ := HAO.out (by omega)
      obtain ⟨g0, g1, g2, g3⟩ := HCE.out i hiL
      have c0 := hf.out.cell g0 id
      have c1 := hf.out.cell g1 id
      have c2 := hf.out.cell g2 id
      have c3 := hf.out.cell g3 id
      obtain ⟨q, hq⟩ : ∃ q, q = Q[i] := ⟨_, rfl⟩
      rw [← hq] at c0 c1 c2 c3
      have hok := HALL.out _ (List.getElem_mem hiL)
      rw [← hq] at hok
      obtain ⟨⟨ho0, ho1⟩, ⟨hb0, hb1⟩, _, _⟩ := okQ_bounds hok
      have ha := data_le HALL.out i (by omega)
      have hst := dataOf_take Q i hiL
      rw [← hq] at hst
      obtain ⟨A, hA⟩ : ∃ A, A = dataOf (Q.take i) := ⟨_, rfl⟩
      rw [← hA] at ha hst ⊢
      obtain ⟨ha0, ha1⟩ := ha
      have hi64 : (i : Int) < (n : Int) := by omega
      obtain ⟨qb, qo, qr, qn⟩ := q
      simp only at c0 c1 c2 c3 ho0 ho1 hb0 hb1
      unfold dataQ at hst
      simp only at hst
      have HST := Lib.hid hst
      obtain ⟨k, hk⟩ : ∃ k, k = qb / 64 := ⟨_, rfl⟩
      have hk0 : 0 ≤ k := by omega
      have hk1 : k ≤ 614400 := by omega
      have e1 : qb.tdiv 64 = k := by rw [hk, Int.tdiv_eq_ediv_of_nonneg hb0]
      have e2 : qb / 64 = k := hk.symm
      have HK := Lib.hid e2
      clear g0 g1 g2 g3 hq hiL hok hst hA hk
      go_wp2
      go_roundw
      case rel => exact ⟨i + 1, by omega, by go_num, by rw [HST.out, HK.out], Lib.hid (hf.out.alloc _)⟩
      case measure => simp [intOf]; omega
    · obtain rfl : i = n := by omega
      have htk : Q.take i = Q := List.take_of_length_le (by rw [← HN.out]; exact Nat.le_refl _)
      rw [htk]
      clear htk
      go_wp2
      go_ret
      exact ⟨rfl, hf.out⟩
theorem rAll_any {F : Nat → Prop} (w : World) (v : Value) (Q : List Qt) (hQ : QsIn F w v Q) :
    Calls Try.prog 36 #[v] w fun e w' => e = .returned (.bool (okQs Q)) ∧ Fr (fun _ => False) w w' := by
  obtain ⟨ao, cap, rfl, hc1, hc2, b, off, hao, hcells⟩ := hQ.open9
  obtain ⟨n, hn⟩ : ∃ n, n = Q.length := ⟨_, rfl⟩
  obtain ⟨R, hR⟩ : ∃ R, R = okQs Q := ⟨_, rfl⟩
  rw [← hR]
  rw [← hn] at hc1 hao ⊢
  have HN := Lib.hid hn
  have HR := Lib.hid hR
  have HAO := Lib.hid hao
  have HCE := Lib.hid hcells
  clear hn hR hao hcells hQ
  go_enter Try.func36, Try.ntmps36
  go_wp2
  go_loopw [3] (fun iv wr => ∃ (i : Nat), i ≤ n ∧ i ≤ 9 ∧ iv = .int .i64 i ∧ Hid (Fr (fun _ => False) w wr ∧ (Q.take i).all okQ = true)) (fun iv _ => n - (intOf iv).toNat)
  case atStart => exact ⟨0, by omega, by omega, rfl, Lib.hid ⟨Fr.refl _ _, rfl⟩⟩
  case round =>
    obtain ⟨i, hi, hi9, rfl, hf⟩ := hrel
    by_cases hlt : i < n
    · by_cases hl9 : i < 9
      · have hiL : i < Q.length := by have := HN.out; omega
        obtain ⟨rfl, hFb⟩ := HAO.out (by omega)
        obtain ⟨g0, g1, g2, g3⟩ := HCE.out i hiL
        have c0 := hf.out.1.cell g0 id
        have c1 := hf.out.1.cell g1 id
        have c2 := hf.out.1.cell g2 id
        have c3 := hf.out.1.cell g3 id
        obtain ⟨q, hq⟩ : ∃ q, q = Q[i] := ⟨_, rfl⟩
        rw [← hq] at c0 c1 c2 c3
        have hi64 : (i : Int) < (n : Int) := by omega
        have hi9' : (i : Int) < 9 := by omega
        have HQ := Lib.hid (List.getElem?_eq_some_iff.2 ⟨hiL, hq.symm⟩ : Q[i]? = some q)
        clear g0 g1 g2 g3 hq hiL
        cases hk : okQ q with
        | false =>
          have HS := Lib.hid (show okQ ⟨q.b, q.o, q.r, q.n⟩ = false from hk)
          have HK := Lib.hid hk
          clear hk
          go_wp2_with (go_at_call 20; refine (rRight14_any _ q.b q.o q.r q.n).mono ?_; rintro e w4 ⟨rfl, hf4⟩; rw [HS.out]; (have H4 := Lib.hid hf4); clear hf4)
          go_ret
          have hbad : R = false := by
            obtain ⟨h2, h1⟩ := List.getElem?_eq_some_iff.1 HQ.out
            rw [HR.out, okQs, all_bad9 Q i h2 (by rw [h1]; exact HK.out)]
            rfl
          rw [hbad]
          exact ⟨rfl, hf.out.1.trans H4.out (fun _ h => h.elim)⟩
        | true =>
          have HS := Lib.hid (show okQ ⟨q.b, q.o, q.r, q.n⟩ = true from hk)
          have HK := Lib.hid hk
          clear hk
          go_wp2_with (go_at_call 20; refine (rRight14_any _ q.b q.o q.r q.n).mono ?_; rintro e w4 ⟨rfl, hf4⟩; rw [HS.out]; (have H4 := Lib.hid hf4); clear hf4)
          go_roundw
          case rel =>
            obtain ⟨h2, h1⟩ := List.getElem?_eq_some_iff.1 HQ.out
            exact ⟨i + 1, by omega, by omega, by go_num, Lib.hid ⟨hf.out.1.trans H4.out (fun _ h => h.elim), by rw [all_take9 Q i h2, hf.out.2, h1, HK.out]; rfl⟩⟩
          case measure => simp [intOf]; omega
      · have hn9 : 9 ≤ n := by omega
        have hi64 : (i : Int) < (n : Int) := by omega
        have hi9' : ¬ (i : Int) < 9 := by omega
        have d1 : (1 : Int) ≤ (n : Int) := by omega
        have d8 : ¬ (n : Int) ≤ 8 := by omega
        have HE := Lib.hid (show R = false by rw [HR.out, okQs, ← HN.out]; simp; omega)
        have HF := Lib.hid hf.out.1
        clear hf
        go_wp2
        go_ret
        exact ⟨by rw [HE.out]; rfl, HF.out⟩
    · obtain rfl : i = n := by omega
      have hall : Q.all okQ = true := by
        have := hf.out.2
        rwa [List.take_of_length_le (by rw [← HN.out]; exact Nat.le_refl _)] at this
      have hRe : R = (decide (1 ≤ i) && decide (i ≤ 8)) := by rw [HR.out, okQs, hall, ← HN.out, Bool.true_and]
      have HRE := Lib.hid hRe
      have HF := Lib.hid hf.out.1
      clear hall hRe hf hlt
      by_cases h1 : 1 ≤ i
      · have d1 : (1 : Int) ≤ (i : Int) := by omega
        by_cases h8 : i ≤ 8
        · have d8 : (i : Int) ≤ 8 := by omega
          have HE := Lib.hid (show R = true by rw [HRE.out]; simp [h1, h8])
          go_wp2
          go_ret
          exact ⟨by rw [HE.out]; rfl, HF.out⟩
        · have d8 : ¬ (i : Int) ≤ 8 := by omega
          have HE := Lib.hid (show R = false by rw [HRE.out]; simp [h8])
          go_wp2
          go_ret
          exact ⟨by rw [HE.out]; rfl, HF.out⟩
      · have d1 : ¬ (1 : Int) ≤ (i : Int) := by omega
        have HE := Lib.hid (show R = false by rw [HRE.out]; simp [h1])
        go_wp2
        go_ret
        exact ⟨by rw [HE.out]; rfl, HF.out⟩
end
end Go.Proofs.Ytdpaobflknkbkaa
namespace Go.Proofs.Ytdpaobflknkbkaa
open Go.RowKit Go.ChangeShapes
set_option linter.unusedVariables false
structure VA where
  vb : Nat
  qb : Nat
  rb : Nat
  tr : Nat
  mr : Nat
  nb : Nat
  tn : Nat
  mn : Nat
def VA.all (a : VA) : List Nat := [a.vb, a.qb, a.rb, a.tr, a.mr, a.nb, a.tn, a.mn]
structure VS where
  Q : List Qt
  R : Int → VT PathX
  N : Int → VT Bs
structure VwAt (F : Nat → Prop) (w : World) (a : VA) (n : Nat) (s : VS) : Prop where
  row : ∃ qv, w.heap[a.vb]? = some (.cells #[qv, .pointer (some ⟨a.rb, 0, none⟩), .pointer (some ⟨a.nb, 0, none⟩), .pointer (some ⟨a.vb, 0, none⟩)] 83 (0, 0)) ∧ QsIn (fun k => k = a.qb) w qv s.Q
  rk : BkAt kR 118 (fun _ => False) w a.rb a.tr a.mr n s.R
  nk : BkAt kN 121 F w a.nb a.tn a.mn n s.N
  ok : okQs s.Q = true
  cap : ∀ i (h : i < s.Q.length), ((s.R ((i + 1 : Nat) : Int)).length : Int) ≤ s.Q[i].r ∧ ((s.N ((i + 1 : Nat) : Int)).length : Int) ≤ s.Q[i].n
  sep : a.all.Nodup ∧ ∀ k ∈ a.all, ¬ F k
section
variable {F G S : Nat → Prop} {w w' : World} {a : VA} {n : Nat} {s : VS}
theorem VwAt.keep (h : VwAt F w a n s) (hf : Fr S w w') (h1 : ∀ k ∈ a.all, ¬ S k) (hd : ∀ k, k < w.heap.size → F k → ¬ S k) : VwAt F w' a n s := by
  obtain ⟨⟨qv, r1, r2⟩, h2, h3, h4, h5, h6⟩ := h
  simp only [VA.all, List.mem_cons, List.not_mem_nil, or_false, forall_eq_or_imp, forall_eq] at h1
  obtain ⟨k1, k2, k3, k4, k5, k6, k7, k8⟩ := h1
  exact ⟨⟨qv, hf.heap r1 k1, r2.keep hf (fun b _ hb => by rw [hb]; exact k2)⟩, h2.keep hf k3 k4 k5 (fun _ _ h => h.elim), h3.keep hf k6 k7 k8 hd, h4, h5, h6⟩
theorem VwAt.quiet (h : VwAt F w a n s) (hf : Fr (fun _ => False) w w') : VwAt F w' a n s := h.keep hf (fun _ _ h => h) (fun _ _ _ h => h)
theorem VwAt.lt (h : VwAt F w a n s) : ∀ k ∈ a.all, k = a.qb ∨ k < w.heap.size := by
  obtain ⟨⟨qv, r1, r2⟩, h2, h3, h4, h5, h6⟩ := h
  have := lt_of_block r1
  have := h2.lt
  have := h3.lt
  intro k hk
  simp only [VA.all, List.mem_cons, List.not_mem_nil, or_false] at hk
  omega
theorem run_eql_view (w : World) (a : Addr) : (binOp .eql 26 (.pointer (some a)) (.pointer (some a))).run Try.prog w = .ok (.bool true) w := by
  have hi : (Try.prog.info? 83).isSome = true := by kernel_rfl
  obtain ⟨j, hte⟩ := Option.isSome_iff_exists.1 hi
  exact run_eql_ptr_same (P := Try.prog) w a Try.underlying26 hte
set_option maxRecDepth 100000 in
theorem isView_any (h : VwAt F w a n s) : Calls Try.prog 37 #[.pointer (some ⟨a.vb, 0, none⟩)] w fun e w' => e = .returned (.bool true) ∧ w' = w := by
  obtain ⟨qv, r1, r2⟩ := h.row
  have c3 := cell_of_row _ _ 3 _ _ _ r1
  have heq := run_eql_view
  clear h r1 r2
  go_enter Try.func37, Try.ntmps37
  go_wp2
  go_ret
  exact ⟨rfl, rfl⟩
def isUser (s : VS) (who : Int) : Prop := 1 ≤ who ∧ who ≤ (s.Q.length : Int)
set_option maxRecDepth 100000 in
theorem ready_no (h : VwAt F w a n s) (who : Int) (hu : ¬ isUser s who) : Calls Try.prog 51 #[.pointer (some ⟨a.vb, 0, none⟩), .int .i64 who] w fun e w' => e = .returned (.int .i64 18) ∧ w' = w := by
  obtain ⟨qv, r1, r2⟩ := h.row
  have hv := isView_any h
  obtain ⟨ao, cap, rfl, _⟩ := r2.open9
  have c0 := cell_of_row _ _ 0 _ _ _ r1
  obtain ⟨m, hm⟩ : ∃ m, m = s.Q.length := ⟨_, rfl⟩
  unfold isUser at hu
  rw [← hm] at hu c0
  have HV := Lib.hid hv
  clear h r1 r2 hv hm
  by_cases h1 : who < 1
  · go_enter Try.func51, Try.ntmps51
    go_wp2_with (go_at_call 37; refine HV.out.mono ?_; rintro e w1 ⟨rfl, rfl⟩)
    go_ret
    exact ⟨rfl, rfl⟩
  · have h2 : (m : Int) < who := by omega
    go_enter Try.func51, Try.ntmps51
    go_wp2_with (go_at_call 37; refine HV.out.mono ?_; rintro e w1 ⟨rfl, rfl⟩)
    go_ret
    exact ⟨rfl, rfl⟩
set_option maxRecDepth 100000 in
theorem ready_yes (h : VwAt F w a n s) (who : Int) (hu : isUser s who) : Calls Try.prog 51 #[.pointer (some ⟨a.vb, 0, none⟩), .int .i64 who] w fun e w' => e = .returned (.int .i64 0) ∧ w' = w := by
  obtain ⟨qv, r1, r2⟩ := h.row
  have hv := isView_any h
  obtain ⟨ao, cap, rfl, _⟩ := r2.open9
  have c0 := cell_of_row _ _ 0 _ _ _ r1
  obtain ⟨m, hm⟩ : ∃ m, m = s.Q.length := ⟨_, rfl⟩
  unfold isUser at hu
  rw [← hm] at hu c0
  obtain ⟨hu1, hu2⟩ := hu
  have HV := Lib.hid hv
  have h1 : ¬ who < 1 := by omega
  have h2 : ¬ (m : Int) < who := by omega
  clear h r1 r2 hv hm
  go_enter Try.func51, Try.ntmps51
  go_wp2_with (go_at_call 37; refine HV.out.mono ?_; rintro e w1 ⟨rfl, rfl⟩)
  go_ret
  exact ⟨rfl, rfl⟩
def VS.quota (s : VS) (who : Int) : Qt := s.Q.getD (who - 1).toNat default
set_option maxRecDepth 100000 in
theorem quota_any (h : VwAt F w a n s) (who : Int) (hu : isUser s who) : Calls Try.prog 52 #[.pointer (some ⟨a.vb, 0, none⟩), .int .i64 who] w fun e w' => e = .returned (.agg (qA (s.quota who))) ∧ Fr (fun _ => False) w w' := by
  obtain ⟨qv, r1, r2⟩ := h.row
  obtain ⟨ao, cap, rfl, hc1, hc2, b, off, hao, hcells⟩ := r2.open9
  obtain ⟨m, hm⟩ : ∃ m, m = s.Q.length := ⟨_, rfl⟩
  obtain ⟨i, hi⟩ : ∃ i : Nat, who = ((i + 1 : Nat) : Int) := ⟨(who - 1).toNat, by have := hu.1; omega⟩
  have hil : i < s.Q.length := by have := hu.2; omega
  have hq : s.quota who = s.Q[i] := by
    unfold VS.quota
    rw [hi, show ((((i + 1 : Nat) : Int) - 1)).toNat = i by omega, List.getD_eq_getElem?_getD, List.getElem?_eq_getElem hil, Option.getD_some]
  rw [hq]
  subst hi
  obtain ⟨g0, g1, g2, g3⟩ := hcells i hil
  obtain ⟨rfl, hbq⟩ := hao (by omega)
  obtain rfl : b = a.qb := hbq
  have c0 := cell_of_row _ _ 0 _ _ _ r1
  have ht : (-9223372036854775808 : Int) ≤ (i : Int) ∧ (i : Int) ≤ 100 := by have := (okQs_iff h.ok).2.2; omega
  have hw : IntKind.i64.wrap (((i + 1 : Nat) : Int) - 1) = (i : Int) := by rw [show (((i + 1 : Nat) : Int) - 1) = (i : Int) by omega]; exact wrap_in5 (by omega) (by omega)
  have hil2 : (i : Int) < (s.Q.length : Int) := by omega
  have hi0 : (0 : Int) ≤ (i : Int) := by omega
  obtain ⟨q, hqq⟩ : ∃ q, q = s.Q[i] := ⟨_, rfl⟩
  rw [← hqq] at g0 g1 g2 g3 ⊢
  obtain ⟨qb, qo, qr, qn⟩ := q
  simp only at g0 g1 g2 g3
  have hA : Fr (fun _ => False) w (w.alloc (.cells #[.int .i64 0, .int .i64 0, .int .i64 0, .int .i64 0] 38)) := (Fr.refl _ _).alloc _
  have c0 := hA.cell c0 id
  have g0 := hA.cell g0 id
  have g1 := hA.cell g1 id
  have g2 := hA.cell g2 id
  have g3 := hA.cell g3 id
  clear h r1 r2 hm hu hcells hq hao hqq hA
  go_enter Try.func52, Try.ntmps52
  go_wp2
  exact bodyPost_ret (results_cell_row rfl _ _ w.heap.size 38 #[.int .i64 qb, .int .i64 qo, .int .i64 qr, .int .i64 qn] (0, 0) _ rfl (heap_alloc_new w _) Try.underlying38 rfl (by kernel_rfl)) rfl ⟨rfl, (Fr.refl _ _).alloc _⟩
end
end Go.Proofs.Ytdpaobflknkbkaa
