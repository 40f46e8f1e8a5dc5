/- Laid together: BKLaw -/
import Derived.Test.YtcbbcihfooaggaaBk17
import Derived.Test.YtcbbcihfooaggaaBk12
import Derived.Test.YtcbbcihfooaggaaBk18
import Derived.Deep.QuietTactic
import Derived.BigQuiet
import Derived.Deep.RegionHeld3
import Derived.Deep.DeepCutAuto

namespace Go.Proofs.Ytcbbcihfooaggaa
open Go.RowKit Go.ChangeShapes
set_option linter.unusedVariables false
def lenK (l : List (List UInt8)) : Nat := (l.map List.length).sum
theorem lenK_succ (l : List (List UInt8)) (k : Nat) (h : k < l.length) : lenK (l.take (k + 1)) = lenK (l.take k) + l[k].length := by
  unfold lenK
  rw [List.take_succ_eq_append_getElem h, List.map_append, List.sum_append]
  congr 1
theorem lenK_mem : ∀ (l : List (List UInt8)) (p : List UInt8), p ∈ l → p.length ≤ lenK l
  | [], p, h => by cases h
  | q :: l, p, h => by
    unfold lenK
    rw [List.map_cons, List.sum_cons]
    rcases List.mem_cons.1 h with rfl | h
    · omega
    · have := lenK_mem l p h
      unfold lenK at this
      omega
structure St8 (w1 W : World) (gd s d f i m : Nat) (rv uv : Value) : Prop where
  ex : ∃ dv E, Kp8 w1 W gd s d f dv rv uv (E.map (·.x)) (E.map (·.y)) E ∧ E.length = m ∧ m ≤ i ∧ (∀ e ∈ E, e.B.length ≤ 4000) ∧ dv.deeds ≤ 9000 * i
structure KB8 (w4 : World) (z0 z3 : Nat) (hv fv : Value) (hl fl : List Rn) (W : World) : Prop where
  fr : Fr (fun k => hv.ownBlock = some k) w4 W
  held : OwnRn z0 W hv hl
  found : OwnRn z3 W fv fl
theorem KB8.quiet {w4 W W' : World} {z0 z3 : Nat} {hv fv : Value} {hl fl : List Rn} (h : KB8 w4 z0 z3 hv fv hl fl W) (hf : Fr (fun _ => False) W W') : KB8 w4 z0 z3 hv fv hl fl W' := ⟨h.fr.trans hf (fun _ h => h.elim), h.held.keepR hf (fun _ _ h => h), h.found.keepR hf (fun _ _ h => h)⟩
theorem op_extract7 {P : Program} {w : World} {o : Oper} {a : Act} {x : Operand} {i : Nat} {vs : Array Value} {v : Value} (ho : o.op = .extract x i) (hx : a.eval x = .tuple vs) (hv : vs[i]? = some v) : (execOp a.eval o).run P w = .ok (.value v) w := by
  unfold execOp
  rw [ho]
  simp only [hx, Instr.extract, hv]
  rfl
theorem add1_i64 (w : World) (k : Nat) (h : IntKind.i64.wrap ((k : Int) + 1) = (k : Int) + 1) : (binOp .add 3 (.int .i64 (k : Nat)) (.int .i64 1)).run Try.prog w = .ok (.int .i64 ((k : Int) + 1)) w := by
  simp [h, go_sem]
theorem op_slice_hm7 {t : TypeId} {w : World} {o : Oper} {a : Act} {x hi mx : Operand} {vx vh vm v : Value} (ho : o.op = .slice t x none (some hi) (some mx)) (hx : a.eval x = vx) (hh : a.eval hi = vh) (hm : a.eval mx = vm) (hr : (Instr.sliceAt t vx none (some vh) (some vm)).run Try.prog w = .ok v w) : (execOp a.eval o).run Try.prog w = .ok (.value v) w := by
  unfold execOp
  rw [ho]
  simp only [hx, hh, hm, Option.map_some, Option.map_none, Sem.run_bind, hr, Result.andThen_ok]
  rfl
theorem k7_ent_spence_blob_Free (args : Array Value) (w : World) : (callFunc 12 args).run Try.prog w = .ok (.enter 12 args) w := by kernel_rfl
def KrR (z nh ch nf cf l0 la d z0 f2 nx : Nat) (ah af : Option Addr) (hl fl : List Rn) (i : Nat) (v : Value) (W : World) : Prop :=
  match i with
  | 0 => v = .agg #[.int .i64 (l0 : Nat), .int .i64 (la : Nat), .int .i64 (d : Nat)]
  | 1 => v = .slice ah nh ch
  | 2 => v = .slice af nf cf
  | 3 => ∃ ag cg, v = .slice ag nx cg ∧ OwnRn z0 W (.slice ag nx cg) (hl ++ fl)
  | 4 => v = .tuple #[.int .i64 (f2 : Nat), .int .i64 0]
  | 5 => v = .tuple #[.int .i64 (f2 : Nat), .int .i64 0]
  | 6 => v = .int .i64 (f2 : Nat)
  | 7 => v = .int .i64 0
  | 8 => v = .int .i64 (f2 : Nat)
  | _ => True
theorem KrR.ext (z nh ch nf cf l0 la d z0 f2 nx : Nat) (ah af : Option Addr) (hl fl : List Rn) : ∀ (j : Nat) (u : Value) (W W' : World), ExtB z0 (hl ++ fl) (0, 0) false W W' → KrR z nh ch nf cf l0 la d z0 f2 nx ah af hl fl j u W → KrR z nh ch nf cf l0 la d z0 f2 nx ah af hl fl j u W'
  | 0, u, W, W', hf, h => h
  | 1, u, W, W', hf, h => h
  | 2, u, W, W', hf, h => h
  | 3, u, W, W', hf, h => (let ⟨x, y, h1, h2⟩ := h; ⟨x, y, h1, hf.own _ _ (List.prefix_refl _) h2⟩)
  | 4, u, W, W', hf, h => h
  | 5, u, W, W', hf, h => h
  | 6, u, W, W', hf, h => h
  | 7, u, W, W', hf, h => h
  | 8, u, W, W', hf, h => h
  | _ + 9, u, W, W', hf, h => trivial
def KrB (a8 : Option Addr) (m1 c8 k : Nat) (i : Nat) (v : Value) (W : World) : Prop :=
  match i with
  | 0 => v = .slice a8 m1 c8
  | 1 => v = .int .i64 (k : Nat)
  | 2 => v = .int .i64 (k : Nat)
  | 3 => v = .slice a8 k k
  | 4 => v = .slice a8 m1 c8
  | 5 => v = .int .i64 (k : Nat)
  | 6 => v = .int .i64 ((k : Int) + 1)
  | 7 => v = .slice (cutLow a8 (k + 1) c8) (m1 - (k + 1)) (c8 - (k + 1))
  | _ => True
theorem KrB.ext (a8 : Option Addr) (m1 c8 k : Nat) : ∀ (j : Nat) (u : Value) (W W' : World), Fr (fun _ => False) W W' → KrB a8 m1 c8 k j u W → KrB a8 m1 c8 k j u W'
  | 0, u, W, W', hf, h => h
  | 1, u, W, W', hf, h => h
  | 2, u, W, W', hf, h => h
  | 3, u, W, W', hf, h => h
  | 4, u, W, W', hf, h => h
  | 5, u, W, W', hf, h => h
  | 6, u, W, W', hf, h => h
  | 7, u, W, W', hf, h => h
  | _ + 8, u, W, W', hf, h => trivial
def KrC (a8 : Option Addr) (m1 c8 k : Nat) (i : Nat) (v : Value) (W : World) : Prop :=
  match i with
  | 0 => v = .slice a8 m1 c8
  | 1 => v = .int .i64 (k : Nat)
  | 2 => v = .int .i64 (k : Nat)
  | 3 => v = .slice a8 k k
  | 4 => v = .slice a8 m1 c8
  | 5 => v = .int .i64 (k : Nat)
  | 6 => v = .int .i64 ((k : Int) + 1)
  | 7 => v = .slice (cutLow a8 (k + 1) c8) (m1 - (k + 1)) (c8 - (k + 1))
  | _ => True
theorem KrC.ext (a8 : Option Addr) (m1 c8 k : Nat) : ∀ (j : Nat) (u : Value) (W W' : World), Fr (fun _ => False) W W' → KrC a8 m1 c8 k j u W → KrC a8 m1 c8 k j u W'
  | 0, u, W, W', hf, h => h
  | 1, u, W, W', hf, h => h
  | 2, u, W, W', hf, h => h
  | 3, u, W, W', hf, h => h
  | 4, u, W, W', hf, h => h
  | 5, u, W, W', hf, h => h
  | 6, u, W, W', hf, h => h
  | 7, u, W, W', hf, h => h
  | _ + 8, u, W, W', hf, h => trivial
set_option maxRecDepth 100000 in
set_option maxHeartbeats 8000000 in
theorem blobKeeps_any (w : World) (L A Dt : Int) (vl vg : Value) (P : List (List UInt8)) (G : List Int) (hP : RowsIn (fun k => k < w.heap.size) w vl P) (hPl : P.length ≤ 140737488351232) (hG : IntsIn (fun k => k < w.heap.size) w vg G) :
    Calls Try.prog 6 #[.agg #[.int .i64 L, .int .i64 A, .int .i64 Dt], vl, vg] w fun e w' => e = .returned (.bool true) ∧ Fr (fun _ => False) w w' := by
  obtain ⟨z, hz⟩ : ∃ z, z = w.heap.size := ⟨_, rfl⟩
  obtain ⟨W0, hW0⟩ : ∃ W, W = w.alloc (.cells #[.int .i64 L, .int .i64 A, .int .i64 Dt] 23) := ⟨_, rfl⟩
  have H0 := Lib.hid (show Fr (fun _ => False) w W0 ∧ W0.heap[z]? = some (.cells #[.int .i64 L, .int .i64 A, .int .i64 Dt] 23 (0, 0)) ∧ z < W0.heap.size by
    rw [hW0, hz]
    exact ⟨(Fr.refl _ _).alloc _, heap_alloc_new w _, by simp⟩)
  have HW := Lib.hid (And.intro hW0 hz)
  have HRI := Lib.hid (fun (W : World) => lRight_any W L A Dt)
  obtain ⟨ao, cap, rfl, h1, h2, h3, h4⟩ := hP
  obtain ⟨n, hn⟩ : ∃ n, n = P.length := ⟨_, rfl⟩
  have hb : ∃ b off, (0 < n → ao = some ⟨b, off, none⟩ ∧ b < w.heap.size) ∧ ∀ i (h : i < P.length), ∃ x, w.cell? ⟨b, off + i, none⟩ = some x ∧ BytesIn (fun k => k < w.heap.size) w x P[i] := by
    by_cases hl : P = []
    · subst hl
      exact ⟨0, 0, fun h => by simp at hn; omega, fun i h => by simp at h⟩
    · obtain ⟨b, off, ha, hF, hi⟩ := h4 hl
      exact ⟨b, off, fun _ => ⟨ha, hF⟩, hi⟩
  obtain ⟨b, off, hao, hi⟩ := hb
  obtain ⟨ag, cg, rfl, g1, g2, g3, g4⟩ := hG
  obtain ⟨ng, hng⟩ : ∃ ng, ng = G.length := ⟨_, rfl⟩
  have hb2 : ∃ bg og, (0 < ng → ag = some ⟨bg, og, none⟩ ∧ bg < w.heap.size) ∧ ∀ i (h : i < G.length), w.cell? ⟨bg, og + i, none⟩ = some (.int .i64 G[i]) := by
    by_cases hl : G = []
    · subst hl
      exact ⟨0, 0, fun h => by simp at hng; omega, fun i h => by simp at h⟩
    · obtain ⟨b, off, ha, hF, hi⟩ := g4 hl
      exact ⟨b, off, fun _ => ⟨ha, hF⟩, hi⟩
  obtain ⟨bg, og, hag, hgi⟩ := hb2
  rw [← hn] at h1 ⊢
  rw [← hng] at g1 g2 ⊢
  have HI := Lib.hid hi
  have HN := Lib.hid (And.intro hn (And.intro h3 hPl))
  have HAO := Lib.hid hao
  have HGI := Lib.hid (And.intro hgi (And.intro hng (And.intro hag g3)))
  clear hi hn h3 h4 hao hW0 hz hgi hng hag g3 g4 hPl h2 g2
  have hn9 : n ≤ 140737488351232 := by have := HN.out.2.2; have := HN.out.1; omega
  go_enter Try.func6, Try.ntmps6
  go_wp2_with (go_at_call 9; rw [← HW.out.1, ← HW.out.2]; refine (awake7_any W0).mono ?_; rintro e w1 ⟨rfl, hf1⟩; (have H1 := Lib.hid (And.intro (H0.out.1.trans hf1 (fun _ h => h.elim)) (And.intro (hf1.heap H0.out.2.1 id) (Nat.lt_of_lt_of_le H0.out.2.2 hf1.size)))); clear hf1)
  go_loopw [7, 8] (fun tv iv wr => ∃ k t : Nat, k ≤ n ∧ k ≤ 60 ∧ iv = .int .i64 k ∧ tv = .int .i64 t ∧ t ≤ 300000000000000 * k ∧ Hid (t = lenK (P.take k) ∧ Fr (fun _ => False) w1 wr)) (fun _ iv _ => n - (intOf iv).toNat)
  case atStart => exact ⟨0, 0, by omega, by omega, rfl, rfl, by omega, Lib.hid ⟨rfl, Fr.refl _ _⟩⟩
  case round =>
    obtain ⟨k, t, hk, hk60, rfl, rfl, htb, hR⟩ := hrel
    by_cases hlt : k < n ∧ k < 60
    · obtain ⟨hlt, hl60⟩ := hlt
      have hil : k < P.length := by have := HN.out.1; omega
      obtain ⟨xv, hx1, hx2⟩ := HI.out k hil
      obtain ⟨ab, cb, hvb, -⟩ := id hx2
      have hle := HN.out.2.1 _ (List.getElem_mem hil)
      have hsu := lenK_succ P k hil
      obtain ⟨q, hq⟩ : ∃ q, q = P[k].length := ⟨_, rfl⟩
      rw [← hq] at hle hsu hvb
      subst hvb
      have c0 := hR.out.2.cell (H1.out.1.cell hx1 id) id
      have hao2 := (HAO.out (by omega)).1
      subst hao2
      have d1 : decide ((k : Int) < (n : Int)) = true := by rw [decide_eq_true_iff]; omega
      have d2 : decide ((k : Int) < 60) = true := by rw [decide_eq_true_iff]; omega
      have d3 : (k : Int) < (n : Int) := by omega
      have d4 : (0 : Int) ≤ (k : Int) := by omega
      have d5 : (k : Int) < 60 := by omega
      have hq9 : (q : Int) ≤ 140737488351232 := by omega
      have ht9 : (t : Int) ≤ 18000000000000000 := by omega
      have HSU := Lib.hid hsu
      have HT := Lib.hid (And.intro hR.out.1 hR.out.2)
      have HB := Lib.hid (show t + q ≤ 300000000000000 * (k + 1) by omega)
      clear hsu hq hR htb hx1 hx2 hle
      go_wp2_with fail
      go_roundw
      case rel => exact ⟨k + 1, t + q, by omega, by omega, by go_num, by go_num, HB.out, Lib.hid ⟨by rw [HSU.out, ← HT.out.1], HT.out.2⟩⟩
      case measure => simp [intOf]; omega
    · have HR := Lib.hid (And.intro hR.out.1 (And.intro hR.out.2 (hR.out.2.heap H1.out.2.1 id)))
      obtain ⟨s0, s1, s2⟩ := row3_cells HR.out.2.2
      clear hR
      by_cases hn60 : n ≤ 60
      · obtain rfl : n = k := by omega
        have d1 : decide ((n : Int) < (n : Int)) = false := by rw [decide_eq_false_iff_not]; omega
        have d6 : decide ((60 : Int) < (n : Int)) = false := by rw [decide_eq_false_iff_not]; omega
        have hn9 : (n : Int) ≤ 60 := by omega
        by_cases ht : t ≤ 4000
        · have d7 : decide ((4000 : Int) < (t : Int)) = false := by rw [decide_eq_false_iff_not]; omega
          have ht9 : (t : Int) ≤ 4000 := by omega
          have hri := HRI.out wr
          cases hrs : rightS L A Dt with
          | false =>
            rw [hrs] at hri
            have HR2 := Lib.hid hri
            clear hlt hk hk60 htb hri hrs ht
            go_wp2_with (go_at_call 35; refine HR2.out.mono ?_; rintro e w2 ⟨rfl, hf2⟩; (have H2 := Lib.hid (HR.out.2.1.trans hf2 (fun _ h => h.elim))); clear hf2)
            go_ret
            exact ⟨rfl, H1.out.1.trans H2.out (fun _ h => h.elim)⟩
          | true =>
            rw [hrs] at hri
            obtain ⟨l0, la, d, rfl, rfl, rfl, hl1, hl2, hl3, hl4⟩ := rightS_yes hrs
            obtain ⟨s, hs⟩ : ∃ s, s = 1 + l0 + 2 * la + d := ⟨_, rfl⟩
            have hok : ShOk l0 la d s := ⟨hl1, hl2, hl3, hs, by omega⟩
            have HOK := Lib.hid hok
            have HR2 := Lib.hid hri
            have HPL := Lib.hid (show ∀ p ∈ P, p.length ≤ 4000 by
              intro p hp
              have h1 := lenK_mem P p hp
              have h2 := HR.out.1
              rw [List.take_of_length_le (by have := HN.out.1; omega)] at h2
              omega)
            by_cases hs60 : s ≤ 60
            · have d8 : decide ((60 : Int) < (s : Int)) = false := by rw [decide_eq_false_iff_not]; omega
              have hs9 : (s : Int) ≤ 60 := by omega
              have hs1 : 1 ≤ s := by omega
              have HN1 := Lib.hid (fun W => aNew W s hs1 (by omega))
              have HS1 := Lib.hid (And.intro hs1 hs60)
              clear hlt hk hk60 htb hri hrs ht hl1 hl2 hl3 hl4 hs hok
              go_wp2_with (first
                | (go_at_call 35; refine HR2.out.mono ?_; rintro e w2 ⟨rfl, hf2⟩; (have H2 := Lib.hid (And.intro (HR.out.2.1.trans hf2 (fun _ h => h.elim)) (hf2.heap HR.out.2.2 id))); (obtain ⟨s0, s1, s2⟩ := row3_cells H2.out.2); clear hf2)
                | (go_at_call 36; (with_reducible refine (lSectors_any w2 l0 la d s HOK.out).mono ?_); rintro e w3 ⟨rfl, hf3⟩; (have H3 := Lib.hid (And.intro (H2.out.1.trans hf3 (fun _ h => h.elim)) (hf3.heap H2.out.2 id))); (obtain ⟨s0, s1, s2⟩ := row3_cells H3.out.2); clear hf3)
                | (go_at_call 36; (with_reducible refine (lSectors_any w3 l0 la d s HOK.out).mono ?_); rintro e w4 ⟨rfl, hf4⟩; (have H4 := Lib.hid (And.intro (H3.out.1.trans hf4 (fun _ h => h.elim)) (hf4.heap H3.out.2 id))); (obtain ⟨s0, s1, s2⟩ := row3_cells H4.out.2); clear hf4)
                | (go_at_call 19; refine (HN1.out w4).mono ?_; rintro e w5 ⟨gd, rfl, hd5, hf5⟩; (have HS := Lib.hid (show ∃ f, f = 1 + l0 + 2 * la ∧ St8 w1 w5 gd s d f 0 0 (.slice none 0 0) (.slice none 0 0) from ⟨_, rfl, ⟨Dv.new s, [], ⟨⟨fun k => w4.heap.size ≤ k ∧ k < w5.heap.size, hd5.mono (fun k hk h => ⟨h, hk⟩), fun k hk => ⟨⟨Nat.le_trans H4.out.1.size hk.1, hk.2⟩, (by simp [Value.ownBlock]), (by simp [Value.ownBlock]), fun _ h => by (cases h)⟩⟩, ⟨Row1.nil _ _, fun g hg => by (simp [Value.ownBlock] at hg)⟩, ⟨Row1.nil _ _, fun g hg => by (simp [Value.ownBlock] at hg)⟩, fun _ h => by (cases h), H4.out.1.trans hf5 (fun _ h => h.elim), KpL.nil d s _⟩, rfl, Nat.le_refl _, (fun _ h => by (cases h)), Nat.zero_le _⟩⟩)); clear hf5 hd5))
              obtain ⟨f, hf0, hs0⟩ := HS.out
              have HFF := Lib.hid hf0
              clear HS hf0
              go_loopw [6, 11, 12, 13] (fun v6 rv uv iv wq => ∃ i m : Nat, i ≤ n ∧ v6 = .bool false ∧ iv = .int .i64 i ∧ m ≤ i ∧ (∃ a c, rv = .slice a m c) ∧ (∃ a c, uv = .slice a m c) ∧ Hid (St8 w1 wq gd s d f i m rv uv)) (fun _ _ _ iv _ => n - (intOf iv).toNat)
              case atStart => exact ⟨0, 0, by omega, rfl, rfl, Nat.le_refl _, ⟨none, 0, rfl⟩, ⟨none, 0, rfl⟩, Lib.hid hs0⟩
              case round =>
                clear hs0
                obtain ⟨i, m, hi, rfl, rfl, hmi, ⟨ar, cr, rfl⟩, ⟨au, cu, rfl⟩, hS⟩ := hrel
                by_cases hlt : i < n
                · obtain ⟨dv, E, hK, hEm, -, hEB, hdd⟩ := hS.out.ex
                  have hil : i < P.length := by have := HN.out.1; omega
                  obtain ⟨xv, hx1, hx2⟩ := HI.out i hil
                  obtain ⟨ab, cb, hvb, -⟩ := id hx2
                  have hpl := HPL.out _ (List.getElem_mem hil)
                  obtain ⟨B, hB⟩ : ∃ B, B = P[i] := ⟨_, rfl⟩
                  rw [← hB] at hx2 hvb hpl
                  obtain ⟨q, hq⟩ : ∃ q, q = B.length := ⟨_, rfl⟩
                  rw [← hq] at hvb hpl
                  subst hvb
                  have hao2 := (HAO.out (by omega)).1
                  subst hao2
                  have HC := Lib.hid (And.intro (H1.out.1.cell hx1 id) (hx2.keep H1.out.1 (fun _ _ _ h => h)))
                  have HXL := Lib.hid (And.intro hq (And.intro hpl hlt))
                  have HK := Lib.hid (And.intro hK (And.intro hEm (And.intro hEB (And.intro hdd hmi))))
                  have hey : (E.map (·.y)).length = m := by rw [List.length_map]; exact hEm
                  obtain ⟨au', cu', hu1, hu2, hu3, bu, ou, hu4, hu5⟩ := hK.runs.row.elems.open1
                  rw [hey] at hu1 hu4
                  simp only [Value.slice.injEq] at hu1
                  obtain ⟨rfl, -, rfl⟩ := hu1
                  have HU := Lib.hid (And.intro hu4 hu5)
                  have d11 : decide ((i : Int) < (n : Int)) = true := by rw [decide_eq_true_iff]; omega
                  have d12 : decide (i < n) = true := by rw [decide_eq_true_iff]; omega
                  have d13 : (i : Int) < (n : Int) := by omega
                  have d14 : (0 : Int) ≤ (i : Int) := by omega
                  have d15 : (m : Int) ≤ 60 := by omega
                  clear hS hK hEm hEB hdd hmi hi hlt hil hx1 hx2 hB hq hpl hey hu2 hu3 hu4 hu5
                  go_wp2_with fail
                  obtain ⟨wr0, hwr0⟩ : ∃ wr0, wr0 = wr := ⟨_, rfl⟩
                  rw [← hwr0] at HK HU
                  have hst3 : Fr (fun _ => False) wr0 wr ∧ OwnRn wr0.heap.size wr (.slice none 0 0) (runsP ((E.map Ent.p).take 0)) := by
                    rw [hwr0]
                    exact ⟨Fr.refl _ _, OwnRn.nil _ _⟩
                  clear hwr0
                  go_loopw [14, 15] (fun hv kv wq => ∃ k : Nat, k ≤ m ∧ kv = .int .i64 k ∧ (∃ a h c, hv = .slice a h c) ∧ Hid (Fr (fun _ => False) wr0 wq ∧ OwnRn wr0.heap.size wq hv (runsP ((E.map Ent.p).take k)))) (fun _ kv _ => m - (intOf kv).toNat)
                  case atStart => exact ⟨0, Nat.zero_le _, rfl, ⟨none, 0, 0, rfl⟩, Lib.hid hst3⟩
                  case round =>
                    clear hst3
                    obtain ⟨k, hk, rfl, ⟨ah, nh, ch, rfl⟩, hT⟩ := hrel
                    by_cases hlk : k < m
                    · skip
                      have hkE : k < E.length := by have := HK.out.2.1; omega
                      obtain ⟨ek, hek⟩ : ∃ ek, ek = E[k] := ⟨_, rfl⟩
                      have hau := (HU.out.1 (by omega)).1
                      subst hau
                      have hcu := HU.out.2 k (by rw [List.length_map]; exact hkE)
                      rw [List.getElem_map, ← hek] at hcu
                      have hent := HK.out.1.ents ek (by rw [hek]; exact List.getElem_mem hkE)
                      obtain ⟨ay, cy, hy⟩ := hent.2.form
                      have hbd : ∀ r ∈ ek.R, -9223372036854775808 ≤ r.1 ∧ r.1 ≤ 9223372036854775807 ∧ -9223372036854775808 ≤ r.2 ∧ r.2 ≤ 9223372036854775807 := fun r hr => by
                        have hm : ek.p ∈ E.map Ent.p := List.mem_map_of_mem (by rw [hek]; exact List.getElem_mem hkE)
                        have hap := HK.out.1.keeps.apart
                        have := rnOk_iff.1 ((apart7_iff.1 hap).1 r (List.mem_flatMap.2 ⟨ek.p, hm, hr⟩))
                        have := HOK.out.most
                        have := HOK.out.sum
                        omega
                      have htk : runsP ((E.map Ent.p).take (k + 1)) = runsP ((E.map Ent.p).take k) ++ ek.R := by
                        rw [List.take_succ_eq_append_getElem (by rw [List.length_map]; exact hkE), runsP_append, runsP_one, List.getElem_map, ← hek]
                        rfl
                      have hll : (runsP ((E.map Ent.p).take k)).length + ek.R.length ≤ 1000000 := by
                        rw [← List.length_append, ← htk]
                        have hsu : apart7 d (runsP ((E.map Ent.p).take (k + 1))) = true := apart7_sub HK.out.1.keeps.apart (runsP_sub (List.take_sublist _ _))
                        have := secs7_many (apart7_iff.1 hsu).1
                        have := apart7_le hsu
                        have := HOK.out.most
                        have := HOK.out.sum
                        omega
                      have hrns := (hent.2.rns hbd).keep hT.out.1 (fun _ _ _ h => h)
                      have hcw := hT.out.1.cell hcu id
                      obtain ⟨ny, hny⟩ : ∃ ny, ny = ek.R.length := ⟨_, rfl⟩
                      rw [← hny] at hy
                      rw [hy] at hcw hrns
                      have HTT := Lib.hid (And.intro hT.out.1 (And.intro hT.out.2 (And.intro htk (And.intro hll (And.intro hrns hlk)))))
                      have e1 : decide ((k : Int) < (m : Int)) = true := by rw [decide_eq_true_iff]; omega
                      have e2 : decide (k < m) = true := by rw [decide_eq_true_iff]; omega
                      have e3 : (k : Int) < (m : Int) := by omega
                      have e4 : (0 : Int) ≤ (k : Int) := by omega
                      clear hkE hek hcu hent hy hbd htk hll hrns hny hT hk hlk
                      go_wp2_with (at_builtin; refine wpList_append_rns (z := wr0.heap.size) _ rfl (.tmp 82) (.tmp 86) rfl (.slice ah nh ch) (.slice ay ny cy) _ ek.R rfl rfl HTT.out.2.1 HTT.out.2.2.2.2.1 HTT.out.1.size HTT.out.2.2.2.1 ?_; intro v7 w7 ho7 hf7; rw [← HTT.out.2.2.1] at ho7; (obtain ⟨a7, c7, hv7⟩ := ho7.form); (obtain ⟨n7, hn7⟩ : ∃ n7, n7 = (runsP ((E.map Ent.p).take (k + 1))).length := ⟨_, rfl⟩); rw [← hn7] at hv7; subst hv7; (have H7 := Lib.hid (And.intro ho7 hf7)); clear ho7 hf7 hn7)
                      go_roundw
                      case rel => exact ⟨k + 1, by have := HTT.out.2.2.2.2.2; omega, by go_num, ⟨_, _, _, rfl⟩, Lib.hid ⟨HTT.out.1.trans H7.out.2 (fun g hg => .inr (OwnRn.own HTT.out.2.1 hg).1), H7.out.1⟩⟩
                      case measure => have := HTT.out.2.2.2.2.2; simp [intOf]; omega
                    · obtain rfl : m = k := by omega
                      have hall : (E.map Ent.p).take m = E.map Ent.p := List.take_of_length_le (by rw [List.length_map]; have := HK.out.2.1; omega)
                      have hT2 := hT.out.2
                      rw [hall] at hT2
                      obtain ⟨hl, hhl⟩ : ∃ hl, hl = runsP (E.map Ent.p) := ⟨_, rfl⟩
                      rw [← hhl] at hT2
                      have hap : apart7 d hl = true := by rw [hhl]; exact HK.out.1.keeps.apart
                      have hd60 : d ≤ 60 := by have := HOK.out.sum; have := HS1.out.2; omega
                      have hbH : ∀ r ∈ hl, -9223372036854775808 ≤ r.1 ∧ r.1 ≤ 9223372036854775807 ∧ -9223372036854775808 ≤ r.2 ∧ r.2 ≤ 9223372036854775807 := fun r hr => by
                        have := rnOk_iff.1 ((apart7_iff.1 hap).1 r hr)
                        omega
                      obtain ⟨fr, hfr⟩ : ∃ fr, fr = (free7 d hl).length := ⟨_, rfl⟩
                      obtain ⟨nq, hnq⟩ : ∃ nq, nq = (q + 63) / 64 := ⟨_, rfl⟩
                      have hn7 : need7 (q : Int) = (nq : Int) := by rw [need7_nat, ← hnq]
                      have hfr60 : (fr : Int) ≤ 60 := by have := free7_length hap; omega
                      have hnq60 : (nq : Int) ≤ 100 := by have := HXL.out.2.1; omega
                      have hHrn := hT2.rns hbH
                      have hHlt : ∀ k, (wr0.heap.size ≤ k ∧ (Value.slice ah nh ch).ownBlock = some k) → k < wr.heap.size := fun k hk => by
                        obtain ⟨_, cs, hc⟩ := OwnRn.own hT2 hk.2
                        exact lt_of_block hc
                      have HFR := Lib.hid (bFree_yes wr l0 la d s (.slice ah nh ch) hl HOK.out hHrn hHlt hap)
                      rw [← hfr] at HFR
                      have HND := Lib.hid (fun W => (bNeed_any W (q : Int) (by omega) (by have := HXL.out.2.1; omega)).mono (fun e w' h => (⟨by rw [h.1, hn7], by rw [h.2]; exact Fr.refl _ _⟩ : e = .returned (.int .i64 (nq : Nat)) ∧ Fr (fun _ => False) W w')))
                      have hwf : Fr (fun _ => False) w1 wr := HK.out.1.fr.trans hT.out.1 (fun _ h => h.elim)
                      have c0 := hwf.cell HC.out.1 id
                      obtain ⟨s0, s1, s2⟩ := row3_cells (hwf.heap H1.out.2.1 id)
                      have e1 : decide ((m : Int) < (m : Int)) = false := by rw [decide_eq_false_iff_not]; omega
                      have e2 : decide (m < m) = false := by rw [decide_eq_false_iff_not]; omega
                      have HHT := Lib.hid (And.intro hT.out.1 (And.intro hT2 (And.intro hHrn (And.intro hHlt (And.intro hhl (And.intro hfr (And.intro hap (And.intro hn7 hbH))))))))
                      clear hall hT2 hhl hap hbH hfr hnq hn7 hHrn hHlt hwf hT hk hlk
                      by_cases hfit : nq ≤ fr
                      · have hff : (nq : Int) ≤ (fr : Int) := by omega
                        have hfd : decide (nq ≤ fr) = true := by rw [decide_eq_true_iff]; exact hfit
                        have hfi := (fun (W : World) (hW : Fr (fun _ => False) wr W) => bFind_any W l0 la d s nq (.slice ah nh ch) hl HOK.out (HHT.out.2.2.1.keep hW (fun _ _ _ h => h)) (fun k hk => Nat.lt_of_lt_of_le (HHT.out.2.2.2.1 k hk) hW.size) HHT.out.2.2.2.2.2.2.1 (by rw [← HHT.out.2.2.2.2.2.1]; exact hfit))
                        obtain ⟨fl, hfl⟩ : ∃ fl, fl = find7 d hl nq := ⟨_, rfl⟩
                        obtain ⟨nf, hnf⟩ : ∃ nf, nf = fl.length := ⟨_, rfl⟩
                        rw [← hfl] at hfi
                        have HFI := Lib.hid hfi
                        have HFL := Lib.hid (And.intro hfl (And.intro hnf hfit))
                        clear hfi hfl hnf hfit
                        go_wp2_with (go_at_call 12; refine HFR.out.mono ?_; rintro e w2 ⟨rfl, hf2⟩; (have c02 := hf2.cell c0 id); (have s02 := hf2.cell s0 id); (have s12 := hf2.cell s1 id); (have s22 := hf2.cell s2 id); (have H2 := Lib.hid hf2); (have HND2 := Lib.hid (HND.out w2.drew)); clear hf2)
                        go_region_held3 (fun w' => w'.cell? ⟨z, 0, none⟩ = some (.int .i64 (l0 : Int)) ∧ w'.cell? ⟨z, 1, none⟩ = some (.int .i64 (la : Int)) ∧ w'.cell? ⟨z, 2, none⟩ = some (.int .i64 (d : Int)) ∧ w'.cell? ⟨b, off + i, none⟩ = some (.slice ab q cb)) (first | exact ⟨by assumption, by assumption, by assumption, by assumption⟩ | go_keep)
                          (first
                            | (go_at_call 14; refine HND2.out.mono ?_; rintro e w3 ⟨rfl, hf3'⟩; (have hf3 := hf3'.ofDrew); (have c03 := hf3.cell c02 id); (have s03 := hf3.cell s02 id); (have s13 := hf3.cell s12 id); (have s23 := hf3.cell s22 id); (have H3 := Lib.hid (H2.out.trans hf3 (fun _ h => h.elim))); clear hf3 hf3')
                            | (go_at_call 10; refine (HFI.out w3 H3.out).mono ?_; rintro e w4 ⟨fv, rfl, ho4, hf4⟩; (obtain ⟨af, cf, hfv⟩ := ho4.form); rw [← HFL.out.2.1] at hfv; subst hfv; (have c04 := hf4.cell c03 id); (have s04 := hf4.cell s03 id); (have s14 := hf4.cell s13 id); (have s24 := hf4.cell s23 id); (have H4 := Lib.hid (And.intro (H3.out.trans hf4 (fun _ h => h.elim)) (And.intro ho4 H3.out.size))); (have HND4 := Lib.hid (HND.out w4)); clear ho4 hf4))
                        go_upto_region 28 with (go_at_call 14; refine HND4.out.mono ?_; rintro e w5 ⟨rfl, hf5⟩; (have c05 := hf5.cell c04 id); (have s05 := hf5.cell s04 id); (have s15 := hf5.cell s14 id); (have s25 := hf5.cell s24 id); (have H5 := Lib.hid hf5); clear hf5)
                        obtain ⟨z0, hz0⟩ : ∃ z0, z0 = wr0.heap.size := ⟨_, rfl⟩
                        obtain ⟨z3, hz3⟩ : ∃ z3, z3 = w3.heap.size := ⟨_, rfl⟩
                        have hf5 : Fr (fun _ => False) wr w5 := H4.out.1.trans H5.out (fun _ h => h.elim)
                        have hf05 : Fr (fun _ => False) wr0 w5 := HHT.out.1.trans hf5 (fun _ h => h.elim)
                        have hheld := HHT.out.2.1.keepR hf5 (fun _ _ h => h)
                        have hfound := H4.out.2.1.keepR H5.out (fun _ _ h => h)
                        have HKB := Lib.hid (show KB8 w5 z0 z3 (.slice ah nh ch) (.slice af nf cf) hl fl w5.drew from ⟨(Fr.refl _ _).drew, by rw [hz0]; exact hheld.keepR ((Fr.refl (fun _ => False) w5).drew) (fun _ _ h => h), by rw [hz3]; exact hfound.keepR ((Fr.refl (fun _ => False) w5).drew) (fun _ _ h => h)⟩)
                        have hdj : ∀ g, (Value.slice ah nh ch).ownBlock = some g → (Value.slice af nf cf).ownBlock = some g → False := fun g h1 h2 => by
                          have h3 := HHT.out.2.2.2.1 g ⟨(OwnRn.own HHT.out.2.1 h1).1, h1⟩
                          have h4 := (OwnRn.own hfound h2).1
                          have h5 := H3.out.size
                          omega
                        have HDJ := Lib.hid hdj
                        have hz1 : z < w1.heap.size := H1.out.2.2
                        have hw10 : w1.heap.size ≤ wr0.heap.size := HK.out.1.fr.size
                        have hsh5 := (HK.out.1.fr.trans hf05 (fun _ h => h.elim)).heap H1.out.2.1 id
                        have LDS := Lib.hid (fun W (hW : Fr (fun k => (Value.slice ah nh ch).ownBlock = some k) w5 W) => load_shape5 W z 0 _ _ _ (range_row5 (hW.heap hsh5 (fun e => by have := (OwnRn.own HHT.out.2.1 e).1; omega))))
                        have hfin : ∀ r ∈ fl, -9223372036854775808 ≤ r.1 ∧ r.1 ≤ 9223372036854775807 ∧ -9223372036854775808 ≤ r.2 ∧ r.2 ≤ 9223372036854775807 := by rw [HFL.out.1]; exact find7_in (by have := HOK.out.sum; have := HOK.out.most; omega)
                        have HRN := Lib.hid (fun W (hW : OwnRn z3 W (.slice af nf cf) fl) => hW.rns hfin)
                        have HZ0 := Lib.hid (show z0 ≤ w5.heap.size by rw [hz0]; exact hf05.size)
                        have hap2 : apart7 d (hl ++ fl) = true := by rw [HFL.out.1]; exact find7_apart nq HHT.out.2.2.2.2.2.2.1
                        have hsl : (hl ++ fl).length ≤ 8192 := by
                          have := secs7_many (apart7_iff.1 hap2).1
                          have := apart7_le hap2
                          have := HOK.out.sum
                          have := HOK.out.most
                          omega
                        have HLN := Lib.hid (show hl.length + fl.length ≤ 1000000 by rw [List.length_append] at hsl; omega)
                        obtain ⟨nx, hnx⟩ : ∃ nx, nx = (hl ++ fl).length := ⟨_, rfl⟩
                        have HLX := Lib.hid hnx.symm
                        obtain ⟨f2, hf2⟩ : ∃ f2, f2 = (free7 d (hl ++ fl)).length := ⟨_, rfl⟩
                        have hff2 : f2 = fr - nq := by rw [hf2, HFL.out.1, free7_found HHT.out.2.2.2.2.2.2.1 (by rw [← HHT.out.2.2.2.2.2.1]; exact HFL.out.2.2), ← HHT.out.2.2.2.2.2.1]
                        have hbX : ∀ r ∈ hl ++ fl, -9223372036854775808 ≤ r.1 ∧ r.1 ≤ 9223372036854775807 ∧ -9223372036854775808 ≤ r.2 ∧ r.2 ≤ 9223372036854775807 := fun r hr => by
                          rcases List.mem_append.1 hr with hr | hr
                          · exact HHT.out.2.2.2.2.2.2.2.2 r hr
                          · exact hfin r hr
                        have hfe := fun (W : World) (v : Value) (h : OwnRn z0 W v (hl ++ fl)) => bFree_yes W l0 la d s v (hl ++ fl) HOK.out (h.rns hbX) (fun k hk => by
                          obtain ⟨_, cs, hc⟩ := OwnRn.own h hk.2
                          exact lt_of_block hc) hap2
                        rw [← hf2] at hfe
                        have HFE := Lib.hid hfe
                        have H05 := Lib.hid (And.intro hf05 (And.intro hff2 (And.intro hfound (And.intro hz0 (And.intro hz3 (H3.out.size))))))
                        clear hz0 hz3 hf5 hf05 hheld hfound hdj hz1 hw10 hsh5 hfin hap2 hsl hnx hf2 hff2 hbX hfe
                        refine wp_region_inv 9 (by kernel_rfl) (by kernel_rfl) (fun W => KB8 w5 z0 z3 (.slice ah nh ch) (.slice af nf cf) hl fl W) (KrR z nh ch nf cf l0 la d z0 f2 nx ah af hl fl) (fun _ _ _ _ => True) (ExtB z0 (hl ++ fl) (0, 0) false) (KrR.ext z nh ch nf cf l0 la d z0 f2 nx ah af hl fl) HKB.out ?_ ?_
                        · intro i hi o ho
                          replace hi : i < 9 := hi
                          obtain rfl | rfl | rfl | rfl | rfl | rfl | rfl | rfl | rfl : i = 0 ∨ i = 1 ∨ i = 2 ∨ i = 3 ∨ i = 4 ∨ i = 5 ∨ i = 6 ∨ i = 7 ∨ i = 8 := by omega
                          · simp only [List.getElem?_cons_zero, Option.some.injEq] at ho
                            subst ho
                            intro a W vs hB hS hE hU
                            refine wpG_plain rfl ?_
                            have v3 : a.eval (.tmp 3) = .pointer (some ⟨z, 0, none⟩) := (hU 3 (by kernel_rfl)).trans rfl
                            clear hE hU
                            exact wp_value_inv (w' := W) (.agg #[.int .i64 (l0 : Nat), .int .i64 (la : Nat), .int .i64 (d : Nat)]) (op_loadAt rfl v3 (LDS.out W hB.fr)) ⟨_, rfl, hB, ExtB.refl _ _ _ _ _, rfl, fun _ _ _ _ _ => trivial⟩
                          · simp only [List.getElem?_cons_zero, List.getElem?_cons_succ, Option.some.injEq] at ho
                            subst ho
                            intro a W vs hB hS hE hU
                            refine wpG_plain rfl ?_
                            have v14 : a.eval (.tmp 14) = .slice ah nh ch := (hU 14 (by kernel_rfl)).trans rfl
                            clear hE hU
                            exact wp_value_inv (w' := W) (.slice ah nh ch) (op_move rfl v14) ⟨_, rfl, hB, ExtB.refl _ _ _ _ _, rfl, fun _ _ _ _ _ => trivial⟩
                          · simp only [List.getElem?_cons_zero, List.getElem?_cons_succ, Option.some.injEq] at ho
                            subst ho
                            intro a W vs hB hS hE hU
                            refine wpG_plain rfl ?_
                            have v18 : a.eval (.tmp 18) = .slice af nf cf := (hU 18 (by kernel_rfl)).trans rfl
                            clear hE hU
                            exact wp_value_inv (w' := W) (.slice af nf cf) (op_move rfl v18) ⟨_, rfl, hB, ExtB.refl _ _ _ _ _, rfl, fun _ _ _ _ _ => trivial⟩
                          · simp only [List.getElem?_cons_zero, List.getElem?_cons_succ, Option.some.injEq] at ho
                            subst ho
                            intro a W vs hB hS hE hU
                            refine wpG_plain rfl ?_
                            obtain ⟨r1, e133⟩ := hE 1 133 (by kernel_rfl) (by kernel_rfl)
                            have v133 : a.eval (.tmp 133) = .slice ah nh ch := e133.trans r1
                            obtain ⟨r2, e134⟩ := hE 2 134 (by kernel_rfl) (by kernel_rfl)
                            have v134 : a.eval (.tmp 134) = .slice af nf cf := e134.trans r2
                            clear hE hU
                            refine wp_append_rk (.tmp 133) (.tmp 134) rfl v133 v134 hB.held (HRN.out W hB.found) (by have := hB.fr.size; have := HZ0.out; omega) HLN.out ?_
                            intro v' w' r1 r2 r3 r4 r5
                            obtain ⟨ag, cg, hv⟩ := r1.form
                            rw [HLX.out] at hv
                            subst hv
                            exact ⟨_, rfl, ⟨hB.fr.trans r2 (fun k hk => .inl hk), r4 _ _ (List.prefix_append _ _) hB.held, hB.found.keepR r2 (fun g hg e => HDJ.out g e hg)⟩, ⟨r4, fun h => by cases h⟩, ⟨ag, cg, rfl, r1⟩, fun _ _ _ _ _ => trivial⟩
                          · simp only [List.getElem?_cons_zero, List.getElem?_cons_succ, Option.some.injEq] at ho
                            subst ho
                            intro a W vs hB hS hE hU
                            refine wpG_plain rfl ?_
                            obtain ⟨r0, e132⟩ := hE 0 132 (by kernel_rfl) (by kernel_rfl)
                            have v132 : a.eval (.tmp 132) = .agg #[.int .i64 (l0 : Nat), .int .i64 (la : Nat), .int .i64 (d : Nat)] := e132.trans r0
                            obtain ⟨⟨ag3, cg3, rg3, rh3⟩, e135⟩ := hE 3 135 (by kernel_rfl) (by kernel_rfl)
                            have v135 : a.eval (.tmp 135) = .slice ag3 nx cg3 := e135.trans rg3
                            clear hE hU
                            refine wp_call_inv 12 #[.tmp 132, .tmp 135] #[23, 24] rfl #[.agg #[.int .i64 (l0 : Nat), .int .i64 (la : Nat), .int .i64 (d : Nat)], .slice ag3 nx cg3] (by simp only [List.map_toArray, List.map_cons, List.map_nil, v132, v135]) (k7_ent_spence_blob_Free _) (Post := fun v W' => v = .tuple #[.int .i64 (f2 : Nat), .int .i64 0] ∧ Fr (fun _ => False) W W') ((HFE.out W _ rh3).mono fun e w' h => ⟨_, h.1, rfl, h.2⟩) ?_
                            rintro v W' ⟨rfl, hf⟩
                            exact ⟨_, rfl, hB.quiet hf, ExtB.quiet hf, rfl, fun _ _ _ _ _ => trivial⟩
                          · simp only [List.getElem?_cons_zero, List.getElem?_cons_succ, Option.some.injEq] at ho
                            subst ho
                            intro a W vs hB hS hE hU
                            refine wpG_plain rfl ?_
                            obtain ⟨r4, e136⟩ := hE 4 136 (by kernel_rfl) (by kernel_rfl)
                            have v136 : a.eval (.tmp 136) = .tuple #[.int .i64 (f2 : Nat), .int .i64 0] := e136.trans r4
                            clear hE hU
                            exact wp_value_inv (w' := W) (.tuple #[.int .i64 (f2 : Nat), .int .i64 0]) (op_move rfl v136) ⟨_, rfl, hB, ExtB.refl _ _ _ _ _, rfl, fun _ _ _ _ _ => trivial⟩
                          · simp only [List.getElem?_cons_zero, List.getElem?_cons_succ, Option.some.injEq] at ho
                            subst ho
                            intro a W vs hB hS hE hU
                            refine wpG_plain rfl ?_
                            obtain ⟨r5, e131⟩ := hE 5 131 (by kernel_rfl) (by kernel_rfl)
                            have v131 : a.eval (.tmp 131) = .tuple #[.int .i64 (f2 : Nat), .int .i64 0] := e131.trans r5
                            clear hE hU
                            exact wp_value_inv (w' := W) (.int .i64 (f2 : Nat)) (op_extract7 rfl v131 rfl) ⟨_, rfl, hB, ExtB.refl _ _ _ _ _, rfl, fun _ _ _ _ _ => trivial⟩
                          · simp only [List.getElem?_cons_zero, List.getElem?_cons_succ, Option.some.injEq] at ho
                            subst ho
                            intro a W vs hB hS hE hU
                            refine wpG_plain rfl ?_
                            obtain ⟨r5, e131⟩ := hE 5 131 (by kernel_rfl) (by kernel_rfl)
                            have v131 : a.eval (.tmp 131) = .tuple #[.int .i64 (f2 : Nat), .int .i64 0] := e131.trans r5
                            clear hE hU
                            exact wp_value_inv (w' := W) (.int .i64 0) (op_extract7 rfl v131 rfl) ⟨_, rfl, hB, ExtB.refl _ _ _ _ _, rfl, fun _ _ _ _ _ => trivial⟩
                          · simp only [List.getElem?_cons_zero, List.getElem?_cons_succ, Option.some.injEq] at ho
                            subst ho
                            intro a W vs hB hS hE hU
                            refine wpG_plain rfl ?_
                            obtain ⟨r6, e137⟩ := hE 6 137 (by kernel_rfl) (by kernel_rfl)
                            have v137 : a.eval (.tmp 137) = .int .i64 (f2 : Nat) := e137.trans r6
                            clear hE hU
                            exact wp_value_inv (w' := W) (.int .i64 (f2 : Nat)) (op_assign rfl v137) ⟨_, rfl, hB, ExtB.refl _ _ _ _ _, rfl, fun _ _ _ _ _ => trivial⟩
                        · intro vs Wa hB0 hR0 hD
                          have r20 : vs 8 = .int .i64 (f2 : Nat) := hR0 8 (by decide)
                          have r138 : vs 7 = .int .i64 0 := hR0 7 (by decide)
                          have HB := Lib.hid hB0
                          clear hR0 hD hB0
                          simp only [acts, if_true, dstAt, List.getElem?_cons_zero, List.getElem?_cons_succ, Option.bind_some, Act.put, List.setIfInBounds_toArray, List.set_cons_succ, List.set_cons_zero, List.drop_succ_cons]
                          simp only [r20, r138]
                          clear r20 r138
                          have hqa : Fr (fun _ => False) wr0 Wa := H05.out.1.trans HB.out.fr (fun k hk => .inr (by have := (OwnRn.own HHT.out.2.1 hk).1; omega))
                          have hfo : OwnRn wr0.heap.size Wa (.slice af nf cf) fl := OwnRn.lower HB.out.found (by have := H05.out.2.2.2.2.1; have := H05.out.2.2.2.2.2; have := HHT.out.1.size; omega)
                          have hflE : fl = find7 d (runsP (E.map Ent.p)) nq := by rw [HFL.out.1, HHT.out.2.2.2.2.1]
                          have hwq : Fr (fun _ => False) w1 Wa := HK.out.1.fr.trans hqa (fun _ h => h.elim)
                          have hwr := fun (W : World) (hW : Fr (fun _ => False) Wa W) => HK.out.1.write (s0 := s) HFF.out HOK.out rfl (by omega) (hqa.trans hW (fun _ h => h.elim)) (by have := HK.out.2.2.2.1; have := HXL.out.2.2; omega) (.slice ab q cb) (.slice af nf cf) B ((HC.out.2.mono (fun k hk _ => hk)).keep (hwq.trans hW (fun _ h => h.elim)) (fun _ _ _ h => h)) (by have := HXL.out.1; have := HXL.out.2.1; omega) nq (by rw [← HXL.out.1]; exact HHT.out.2.2.2.2.2.2.2.1.symm) (by rw [← HHT.out.2.2.2.2.1, ← HHT.out.2.2.2.2.2.1]; exact HFL.out.2.2) (by rw [← hflE]; exact hfo.keepR hW (fun _ _ h => h))
                          rw [← hflE] at hwr
                          have HWR := Lib.hid hwr
                          have hzb : b < wr0.heap.size ∧ z < wr0.heap.size := by have := (HAO.out (by have := HXL.out.2.2; omega)).2; have := H1.out.2.2; have := HK.out.1.fr.size; have := H1.out.1.size; omega
                          have hnb : ∀ g, g < wr0.heap.size → (Value.slice ah nh ch).ownBlock ≠ some g := fun g hg e => by have := (OwnRn.own HHT.out.2.1 e).1; omega
                          have c0a := HB.out.fr.cell c05 (hnb _ hzb.1)
                          have s0a := HB.out.fr.cell s05 (hnb _ hzb.2)
                          have s1a := HB.out.fr.cell s15 (hnb _ hzb.2)
                          have s2a := HB.out.fr.cell s25 (hnb _ hzb.2)
                          have HNDa := Lib.hid (HND.out Wa.drew)
                          have HZB := Lib.hid hzb
                          have w9 : IntKind.i64.wrap ((fr : Int) - (nq : Int)) = (f2 : Int) := by rw [wrap_in5 (by omega) (by omega)]; have := H05.out.2.1; omega
                          have w8' : ((f2 : Int) != (f2 : Int)) = false := by simp
                          clear hqa hfo hflE hwq hwr hzb hnb
                          clear c0 s0 s1 s2 c02 s02 s12 s22 c03 s03 s13 s23 c04 s04 s14 s24 c05 s05 s15 s25
                          go_upto_region 29 with fail
                          go_cut_scratch
                          go_cut [6, 11, 12, 13, 18, 163] (fun v6 v11 v12 v13 v18 c wx => v6 = .bool false ∧ v11 = .slice ar m cr ∧ v12 = .slice au m cu ∧ v13 = .int .i64 i ∧ v18 = .slice af nf cf ∧ c = .bool false ∧ ∃ dv7, Hid (Kp8 w1 wx gd s d f dv7 (.slice ar m cr) (.slice au m cu) (E.map (·.x)) (E.map (·.y)) (E ++ [⟨.slice ab q cb, B, .slice af nf cf, fl⟩]) ∧ dv7.deeds = dv.deeds + nq + 1))
                          case first =>
                            as_aux_lemma =>
                                go_region_held3 (fun w' => w'.cell? ⟨z, 0, none⟩ = some (.int .i64 (l0 : Int)) ∧ w'.cell? ⟨z, 1, none⟩ = some (.int .i64 (la : Int)) ∧ w'.cell? ⟨z, 2, none⟩ = some (.int .i64 (d : Int)) ∧ w'.cell? ⟨b, off + i, none⟩ = some (.slice ab q cb)) (first | exact ⟨by assumption, by assumption, by assumption, by assumption⟩ | go_keep)
                                  (first
                                    | (go_at_call 14; refine HNDa.out.mono ?_; rintro e w6 ⟨rfl, hf6'⟩; (have hf6 := hf6'.ofDrew); (have c06 := hf6.cell c0a id); (have s06 := hf6.cell s0a id); (have s16 := hf6.cell s1a id); (have s26 := hf6.cell s2a id); (have H6 := Lib.hid hf6); clear hf6 hf6')
                                    | (go_at_call 24; refine (HWR.out w6 H6.out).mono ?_; rintro e w7 ⟨rfl, dv7, hk7, hd7⟩; (have c07 := hk7.fr.cell HC.out.1 id); (obtain ⟨s07, s17, s27⟩ := row3_cells (hk7.fr.heap H1.out.2.1 id)); (have HK7 := Lib.hid (And.intro hk7 hd7)); clear hk7 hd7))
                                go_wp2_with fail
                                go_meet
                                case rel => exact ⟨rfl, rfl, rfl, rfl, rfl, rfl, _, HK7⟩
                          case rest =>
                            obtain ⟨rfl, rfl, rfl, rfl, rfl, rfl, dv7, HK7⟩ := hcut
                            obtain ⟨w7, hw7⟩ : ∃ w7, w7 = wc := ⟨_, rfl⟩
                            subst hw7
                            have c07 := HK7.out.1.fr.cell HC.out.1 id
                            obtain ⟨e7, he7⟩ : ∃ e7 : Ent, e7 = ⟨.slice ab q cb, B, .slice af nf cf, fl⟩ := ⟨_, rfl⟩
                            obtain ⟨m1, hm1⟩ : ∃ m1, m1 = m + 1 := ⟨_, rfl⟩
                            have hk7 := HK7.out.1
                            rw [← he7] at hk7
                            have HK8 := Lib.hid (And.intro hk7 (And.intro HK7.out.2 (And.intro (show e7.x = .slice ab q cb by rw [he7]) (And.intro (show e7.y = .slice af nf cf by rw [he7]) (And.intro (show e7.B = B by rw [he7]) (And.intro hm1 (show w1.heap.size ≤ w7.heap.size from hk7.fr.size)))))))
                            clear he7 hm1 hk7 HK7 HB HKB HWR HNDa w9 w8' HFE HRN LDS HDJ HZ0 HLN HLX H05 HFI HFL HND4 HND2 HND HHT H2 H3 H4 H5 HFR hff hfd hfr60
                            have HLX7 := Lib.hid (show (E.map (·.x)).length + 1 = m1 ∧ (E.map (·.y)).length + 1 = m1 ∧ m1 ≤ 1000 by rw [List.length_map, List.length_map]; have := HK.out.2.1; have := HK8.out.2.2.2.2.2.1; omega)
                            go_upto_region 33 with (first
                              | (at_builtin; refine wpList_growB HK8.out.1 (.slice ab q cb) rfl m1 HLX7.out.1 HLX7.out.2.2 rfl (.tmp 164) (.tmp 169) rfl rfl rfl ?_; intro a8 c8 w8 h8; (have H8 := Lib.hid h8); clear h8)
                              | (at_builtin; refine wpList_growR H8.out (.slice af nf cf) rfl m1 HLX7.out.2.1 HLX7.out.2.2 rfl (.tmp 171) (.tmp 173) rfl rfl rfl ?_; intro a9 c9 w9 h9; (have H9 := Lib.hid h9); clear h9))
                            obtain ⟨E7, hE7⟩ : ∃ E7, E7 = E ++ [e7] := ⟨_, rfl⟩
                            have hG := H9.out
                            have hx7 : E.map (·.x) ++ [.slice ab q cb] = E7.map (·.x) := by rw [hE7, List.map_append, List.map_singleton, HK8.out.2.2.1]
                            have hy7 : E.map (·.y) ++ [.slice af nf cf] = E7.map (·.y) := by rw [hE7, List.map_append, List.map_singleton, HK8.out.2.2.2.1]
                            rw [hx7, hy7, ← hE7] at hG
                            have hb7 : ∀ e ∈ E7, e.B.length ≤ 4000 := fun e he => by
                              rw [hE7] at he
                              rcases List.mem_append.1 he with he | he
                              · exact HK.out.2.2.1 e he
                              · rw [List.mem_singleton.1 he, HK8.out.2.2.2.2.1]
                                have := HXL.out
                                omega
                            have hl7 : E7.length = m1 := by rw [hE7, List.length_append, HK8.out.2.2.2.2.2.1, HK.out.2.1]; rfl
                            have HG := Lib.hid (And.intro hG (And.intro hl7 (And.intro hb7 (And.intro (show dv7.deeds ≤ 9000 * (i + 1) by have := HK8.out.2.1; have := HK.out.2.2.2.1; omega) (show m1 ≤ i + 1 ∧ 1 ≤ m1 by have := HK8.out.2.2.2.2.2.1; have := HK.out.2.2.2.2; omega)))))
                            clear hE7 hG hx7 hy7 hb7 hl7 H8 H9 HK8
                            clear HK HU HC c07 c0a s0a s1a s2a
                            by_cases hgo : i < ng
                            · have hig : i < G.length := by have := HGI.out.2.1; omega
                              obtain ⟨x, hx⟩ : ∃ x, x = G[i] := ⟨_, rfl⟩
                              have hag := (HGI.out.2.2.1 (by omega)).1
                              subst hag
                              have hw9 : Fr (fun _ => False) w w9 := H1.out.1.trans HG.out.1.fr (fun _ h => h.elim)
                              have cg9 := hw9.cell (HGI.out.1 i hig) id
                              rw [← hx] at cg9
                              have hxb : -9223372036854775808 ≤ x ∧ x ≤ 9223372036854775807 := HGI.out.2.2.2 x (by rw [hx]; exact List.getElem_mem hig)
                              have g7 : decide ((i : Int) < (ng : Int)) = true := by rw [decide_eq_true_iff]; omega
                              have g8 : decide (i < ng) = true := by rw [decide_eq_true_iff]; omega
                              have g9 : decide ((0 : Int) < (m1 : Int)) = true := by rw [decide_eq_true_iff]; have := HG.out.2.2.2.2.2; omega
                              have g10 : decide (0 < m1) = true := by rw [decide_eq_true_iff]; have := HG.out.2.2.2.2.2; omega
                              have g11 : (i : Int) < (ng : Int) := by omega
                              clear hx hig hw9
                              go_upto_if 191 with fail
                              by_cases hm3 : x.tmod 3 = 0
                              · have g12 : (x.tmod 3 == 0) = true := by simp [hm3]
                                obtain ⟨k, hk, HPK⟩ : ∃ k : Nat, k < m1 ∧ Hid (∀ W, Calls Try.prog 37 #[.int .i64 x, .int .i64 (m1 : Nat)] W fun e w' => e = .returned (.int .i64 (k : Nat)) ∧ Fr (fun _ => False) W w') := by
                                  have hm9 := HG.out.2.2.2.2.2
                                  have hm8 := HLX7.out.2.2
                                  have e1 := Int.emod_nonneg x (show (m1 : Int) ≠ 0 by omega)
                                  have e2 := Int.emod_lt_of_pos x (show (0 : Int) < (m1 : Int) by omega)
                                  obtain ⟨k, hk⟩ : ∃ k : Nat, x % (m1 : Int) = (k : Int) := ⟨(x % (m1 : Int)).toNat, by omega⟩
                                  rw [hk] at e2
                                  refine ⟨k, by omega, Lib.hid fun W => (pick_any x m1 W (by omega) (by omega) hxb.1 hxb.2).mono ?_⟩
                                  rintro e w' ⟨rfl, rfl⟩
                                  exact ⟨by rw [hk], Fr.refl _ _⟩
                                go_upto_region 35 with (go_at_call 37; refine (HPK.out _).mono ?_; rintro e w10 ⟨rfl, hf10⟩; (have H10 := Lib.hid hf10); clear hf10)
                                have hG := HG.out.1.quiet H10.out
                                have hmc : m1 ≤ c8 ∧ m1 ≤ c9 := by
                                  obtain ⟨ao, c, hv, hc, -⟩ := hG.rows.row.form
                                  obtain ⟨ao', c', hv', hc', -⟩ := hG.runs.row.form
                                  rw [List.length_map, HG.out.2.1] at hv hc hv' hc'
                                  simp only [Value.slice.injEq] at hv hv'
                                  omega
                                have HKC := Lib.hid (show k ≤ c8 ∧ IntKind.i64.wrap ((k : Int) + 1) = (k : Int) + 1 ∧ k + 1 ≤ m1 from ⟨by omega, wrap_in5 (by omega) (by have := HLX7.out.2.2; omega), by omega⟩)
                                have HKD := Lib.hid (show k ≤ c9 ∧ IntKind.i64.wrap ((k : Int) + 1) = (k : Int) + 1 ∧ k + 1 ≤ m1 from ⟨by omega, wrap_in5 (by omega) (by have := HLX7.out.2.2; omega), by omega⟩)
                                have hox : (∀ u ∈ E7.map (·.x), u.oneCell' = true) ∧ ∀ u ∈ E7.map (·.y), u.oneCell' = true := by
                                  constructor
                                  · intro u hu
                                    obtain ⟨e, he, rfl⟩ := List.mem_map.1 hu
                                    obtain ⟨ao, c, hv, -⟩ := (hG.ents e he).1
                                    show Value.oneCell' e.x = true
                                    rw [hv]
                                    rfl
                                  · intro u hu
                                    obtain ⟨e, he, rfl⟩ := List.mem_map.1 hu
                                    obtain ⟨ao, c, hv⟩ := (hG.ents e he).2.form
                                    show Value.oneCell' e.y = true
                                    rw [hv]
                                    rfl
                                have HGG := Lib.hid (And.intro hG hox)
                                clear hG hox hmc
                                refine wp_region_inv 8 (by kernel_rfl) (by kernel_rfl) (fun W => Fr (fun _ => False) w10 W) (KrB a8 m1 c8 k) (fun _ _ _ _ => True) (Fr (fun _ => False)) (KrB.ext a8 m1 c8 k) (Fr.refl _ _).drew ?_ ?_
                                · intro i hi o ho
                                  replace hi : i < 8 := hi
                                  obtain rfl | rfl | rfl | rfl | rfl | rfl | rfl | rfl : i = 0 ∨ i = 1 ∨ i = 2 ∨ i = 3 ∨ i = 4 ∨ i = 5 ∨ i = 6 ∨ i = 7 := by omega
                                  · simp only [List.getElem?_cons_zero, Option.some.injEq] at ho
                                    subst ho
                                    intro a W vs hB hS hE hU
                                    refine wpG_plain rfl ?_
                                    have v11 : a.eval (.tmp 11) = .slice a8 m1 c8 := (hU 11 (by kernel_rfl)).trans rfl
                                    clear hE hU
                                    exact wp_value_inv (w' := W) (.slice a8 m1 c8) (op_move rfl v11) ⟨_, rfl, hB, Fr.refl _ _, rfl, fun _ _ _ _ _ => trivial⟩
                                  · simp only [List.getElem?_cons_zero, List.getElem?_cons_succ, Option.some.injEq] at ho
                                    subst ho
                                    intro a W vs hB hS hE hU
                                    refine wpG_plain rfl ?_
                                    have v22 : a.eval (.tmp 22) = .int .i64 (k : Nat) := (hU 22 (by kernel_rfl)).trans rfl
                                    clear hE hU
                                    exact wp_value_inv (w' := W) (.int .i64 (k : Nat)) (op_move rfl v22) ⟨_, rfl, hB, Fr.refl _ _, rfl, fun _ _ _ _ _ => trivial⟩
                                  · simp only [List.getElem?_cons_zero, List.getElem?_cons_succ, Option.some.injEq] at ho
                                    subst ho
                                    intro a W vs hB hS hE hU
                                    refine wpG_plain rfl ?_
                                    have v22 : a.eval (.tmp 22) = .int .i64 (k : Nat) := (hU 22 (by kernel_rfl)).trans rfl
                                    clear hE hU
                                    exact wp_value_inv (w' := W) (.int .i64 (k : Nat)) (op_move rfl v22) ⟨_, rfl, hB, Fr.refl _ _, rfl, fun _ _ _ _ _ => trivial⟩
                                  · simp only [List.getElem?_cons_zero, List.getElem?_cons_succ, Option.some.injEq] at ho
                                    subst ho
                                    intro a W vs hB hS hE hU
                                    refine wpG_plain rfl ?_
                                    obtain ⟨r0, e199⟩ := hE 0 199 (by kernel_rfl) (by kernel_rfl)
                                    have v199 : a.eval (.tmp 199) = .slice a8 m1 c8 := e199.trans r0
                                    obtain ⟨r1, e200⟩ := hE 1 200 (by kernel_rfl) (by kernel_rfl)
                                    have v200 : a.eval (.tmp 200) = .int .i64 (k : Nat) := e200.trans r1
                                    obtain ⟨r2, e201⟩ := hE 2 201 (by kernel_rfl) (by kernel_rfl)
                                    have v201 : a.eval (.tmp 201) = .int .i64 (k : Nat) := e201.trans r2
                                    clear hE hU
                                    exact wp_value_inv (w' := W) (.slice a8 k k) (op_slice_hm7 rfl v199 v200 v201 (run_headB8 W a8 m1 c8 k HKC.out.1)) ⟨_, rfl, hB, Fr.refl _ _, rfl, fun _ _ _ _ _ => trivial⟩
                                  · simp only [List.getElem?_cons_zero, List.getElem?_cons_succ, Option.some.injEq] at ho
                                    subst ho
                                    intro a W vs hB hS hE hU
                                    refine wpG_plain rfl ?_
                                    have v11 : a.eval (.tmp 11) = .slice a8 m1 c8 := (hU 11 (by kernel_rfl)).trans rfl
                                    clear hE hU
                                    exact wp_value_inv (w' := W) (.slice a8 m1 c8) (op_move rfl v11) ⟨_, rfl, hB, Fr.refl _ _, rfl, fun _ _ _ _ _ => trivial⟩
                                  · simp only [List.getElem?_cons_zero, List.getElem?_cons_succ, Option.some.injEq] at ho
                                    subst ho
                                    intro a W vs hB hS hE hU
                                    refine wpG_plain rfl ?_
                                    have v22 : a.eval (.tmp 22) = .int .i64 (k : Nat) := (hU 22 (by kernel_rfl)).trans rfl
                                    clear hE hU
                                    exact wp_value_inv (w' := W) (.int .i64 (k : Nat)) (op_move rfl v22) ⟨_, rfl, hB, Fr.refl _ _, rfl, fun _ _ _ _ _ => trivial⟩
                                  · simp only [List.getElem?_cons_zero, List.getElem?_cons_succ, Option.some.injEq] at ho
                                    subst ho
                                    intro a W vs hB hS hE hU
                                    refine wpG_plain rfl ?_
                                    obtain ⟨r5, e204⟩ := hE 5 204 (by kernel_rfl) (by kernel_rfl)
                                    have v204 : a.eval (.tmp 204) = .int .i64 (k : Nat) := e204.trans r5
                                    clear hE hU
                                    exact wp_value_inv (w' := W) (.int .i64 ((k : Int) + 1)) (op_bin rfl v204 rfl rfl (add1_i64 W k HKC.out.2.1)) ⟨_, rfl, hB, Fr.refl _ _, rfl, fun _ _ _ _ _ => trivial⟩
                                  · simp only [List.getElem?_cons_zero, List.getElem?_cons_succ, Option.some.injEq] at ho
                                    subst ho
                                    intro a W vs hB hS hE hU
                                    refine wpG_plain rfl ?_
                                    obtain ⟨r4, e203⟩ := hE 4 203 (by kernel_rfl) (by kernel_rfl)
                                    have v203 : a.eval (.tmp 203) = .slice a8 m1 c8 := e203.trans r4
                                    obtain ⟨r6, e205⟩ := hE 6 205 (by kernel_rfl) (by kernel_rfl)
                                    have v205 : a.eval (.tmp 205) = .int .i64 ((k : Int) + 1) := e205.trans r6
                                    clear hE hU
                                    exact wp_value_inv (w' := W) (.slice (cutLow a8 (k + 1) c8) (m1 - (k + 1)) (c8 - (k + 1))) (op_slice_lo rfl v203 v205 (by have h := run_cutB8 W a8 m1 c8 (k + 1) HKC.out.2.2; rw [show ((k + 1 : Nat) : Int) = (k : Int) + 1 by push_cast; rfl] at h; exact h)) ⟨_, rfl, hB, Fr.refl _ _, rfl, fun _ _ _ _ _ => trivial⟩
                                · intro vs Wa hB0 hR0 hD
                                  have r202 : vs 3 = .slice a8 k k := hR0 3 (by decide)
                                  have r206 : vs 7 = .slice (cutLow a8 (k + 1) c8) (m1 - (k + 1)) (c8 - (k + 1)) := hR0 7 (by decide)
                                  have HB5 := Lib.hid hB0
                                  clear hR0 hD hB0
                                  simp only [acts, if_true, dstAt, List.getElem?_cons_zero, List.getElem?_cons_succ, Option.bind_some, Act.put, List.setIfInBounds_toArray, List.set_cons_succ, List.set_cons_zero, List.drop_succ_cons]
                                  simp only [r202, r206]
                                  clear r202 r206
                                  refine wpList_goneB (HGG.out.1.quiet HB5.out) HGG.out.2.1 k (by rw [List.length_map]; exact HG.out.2.1) hk HLX7.out.2.2 rfl (.tmp 202) (.tmp 206) rfl rfl rfl ?_
                                  intro a10 c10 w11 h11
                                  have H11 := Lib.hid h11
                                  clear h11
                                  go_upto_region 36 with fail
                                  refine wp_region_inv 8 (by kernel_rfl) (by kernel_rfl) (fun W => Fr (fun _ => False) w11 W) (KrC a9 m1 c9 k) (fun _ _ _ _ => True) (Fr (fun _ => False)) (KrC.ext a9 m1 c9 k) (Fr.refl _ _).drew ?_ ?_
                                  · intro i hi o ho
                                    replace hi : i < 8 := hi
                                    obtain rfl | rfl | rfl | rfl | rfl | rfl | rfl | rfl : i = 0 ∨ i = 1 ∨ i = 2 ∨ i = 3 ∨ i = 4 ∨ i = 5 ∨ i = 6 ∨ i = 7 := by omega
                                    · simp only [List.getElem?_cons_zero, Option.some.injEq] at ho
                                      subst ho
                                      intro a W vs hB hS hE hU
                                      refine wpG_plain rfl ?_
                                      have v12 : a.eval (.tmp 12) = .slice a9 m1 c9 := (hU 12 (by kernel_rfl)).trans rfl
                                      clear hE hU
                                      exact wp_value_inv (w' := W) (.slice a9 m1 c9) (op_move rfl v12) ⟨_, rfl, hB, Fr.refl _ _, rfl, fun _ _ _ _ _ => trivial⟩
                                    · simp only [List.getElem?_cons_zero, List.getElem?_cons_succ, Option.some.injEq] at ho
                                      subst ho
                                      intro a W vs hB hS hE hU
                                      refine wpG_plain rfl ?_
                                      have v22 : a.eval (.tmp 22) = .int .i64 (k : Nat) := (hU 22 (by kernel_rfl)).trans rfl
                                      clear hE hU
                                      exact wp_value_inv (w' := W) (.int .i64 (k : Nat)) (op_move rfl v22) ⟨_, rfl, hB, Fr.refl _ _, rfl, fun _ _ _ _ _ => trivial⟩
                                    · simp only [List.getElem?_cons_zero, List.getElem?_cons_succ, Option.some.injEq] at ho
                                      subst ho
                                      intro a W vs hB hS hE hU
                                      refine wpG_plain rfl ?_
                                      have v22 : a.eval (.tmp 22) = .int .i64 (k : Nat) := (hU 22 (by kernel_rfl)).trans rfl
                                      clear hE hU
                                      exact wp_value_inv (w' := W) (.int .i64 (k : Nat)) (op_move rfl v22) ⟨_, rfl, hB, Fr.refl _ _, rfl, fun _ _ _ _ _ => trivial⟩
                                    · simp only [List.getElem?_cons_zero, List.getElem?_cons_succ, Option.some.injEq] at ho
                                      subst ho
                                      intro a W vs hB hS hE hU
                                      refine wpG_plain rfl ?_
                                      obtain ⟨r0, e208⟩ := hE 0 208 (by kernel_rfl) (by kernel_rfl)
                                      have v208 : a.eval (.tmp 208) = .slice a9 m1 c9 := e208.trans r0
                                      obtain ⟨r1, e209⟩ := hE 1 209 (by kernel_rfl) (by kernel_rfl)
                                      have v209 : a.eval (.tmp 209) = .int .i64 (k : Nat) := e209.trans r1
                                      obtain ⟨r2, e210⟩ := hE 2 210 (by kernel_rfl) (by kernel_rfl)
                                      have v210 : a.eval (.tmp 210) = .int .i64 (k : Nat) := e210.trans r2
                                      clear hE hU
                                      exact wp_value_inv (w' := W) (.slice a9 k k) (op_slice_hm7 rfl v208 v209 v210 (run_headR8 W a9 m1 c9 k HKD.out.1)) ⟨_, rfl, hB, Fr.refl _ _, rfl, fun _ _ _ _ _ => trivial⟩
                                    · simp only [List.getElem?_cons_zero, List.getElem?_cons_succ, Option.some.injEq] at ho
                                      subst ho
                                      intro a W vs hB hS hE hU
                                      refine wpG_plain rfl ?_
                                      have v12 : a.eval (.tmp 12) = .slice a9 m1 c9 := (hU 12 (by kernel_rfl)).trans rfl
                                      clear hE hU
                                      exact wp_value_inv (w' := W) (.slice a9 m1 c9) (op_move rfl v12) ⟨_, rfl, hB, Fr.refl _ _, rfl, fun _ _ _ _ _ => trivial⟩
                                    · simp only [List.getElem?_cons_zero, List.getElem?_cons_succ, Option.some.injEq] at ho
                                      subst ho
                                      intro a W vs hB hS hE hU
                                      refine wpG_plain rfl ?_
                                      have v22 : a.eval (.tmp 22) = .int .i64 (k : Nat) := (hU 22 (by kernel_rfl)).trans rfl
                                      clear hE hU
                                      exact wp_value_inv (w' := W) (.int .i64 (k : Nat)) (op_move rfl v22) ⟨_, rfl, hB, Fr.refl _ _, rfl, fun _ _ _ _ _ => trivial⟩
                                    · simp only [List.getElem?_cons_zero, List.getElem?_cons_succ, Option.some.injEq] at ho
                                      subst ho
                                      intro a W vs hB hS hE hU
                                      refine wpG_plain rfl ?_
                                      obtain ⟨r5, e213⟩ := hE 5 213 (by kernel_rfl) (by kernel_rfl)
                                      have v213 : a.eval (.tmp 213) = .int .i64 (k : Nat) := e213.trans r5
                                      clear hE hU
                                      exact wp_value_inv (w' := W) (.int .i64 ((k : Int) + 1)) (op_bin rfl v213 rfl rfl (add1_i64 W k HKD.out.2.1)) ⟨_, rfl, hB, Fr.refl _ _, rfl, fun _ _ _ _ _ => trivial⟩
                                    · simp only [List.getElem?_cons_zero, List.getElem?_cons_succ, Option.some.injEq] at ho
                                      subst ho
                                      intro a W vs hB hS hE hU
                                      refine wpG_plain rfl ?_
                                      obtain ⟨r4, e212⟩ := hE 4 212 (by kernel_rfl) (by kernel_rfl)
                                      have v212 : a.eval (.tmp 212) = .slice a9 m1 c9 := e212.trans r4
                                      obtain ⟨r6, e214⟩ := hE 6 214 (by kernel_rfl) (by kernel_rfl)
                                      have v214 : a.eval (.tmp 214) = .int .i64 ((k : Int) + 1) := e214.trans r6
                                      clear hE hU
                                      exact wp_value_inv (w' := W) (.slice (cutLow a9 (k + 1) c9) (m1 - (k + 1)) (c9 - (k + 1))) (op_slice_lo rfl v212 v214 (by have h := run_cutR8 W a9 m1 c9 (k + 1) HKD.out.2.2; rw [show ((k + 1 : Nat) : Int) = (k : Int) + 1 by push_cast; rfl] at h; exact h)) ⟨_, rfl, hB, Fr.refl _ _, rfl, fun _ _ _ _ _ => trivial⟩
                                  · intro vs Wb hB0 hR0 hD
                                    have r211 : vs 3 = .slice a9 k k := hR0 3 (by decide)
                                    have r215 : vs 7 = .slice (cutLow a9 (k + 1) c9) (m1 - (k + 1)) (c9 - (k + 1)) := hR0 7 (by decide)
                                    have HB6 := Lib.hid hB0
                                    clear hR0 hD hB0
                                    simp only [acts, if_true, dstAt, List.getElem?_cons_zero, List.getElem?_cons_succ, Option.bind_some, Act.put, List.setIfInBounds_toArray, List.set_cons_succ, List.set_cons_zero, List.drop_succ_cons]
                                    simp only [r211, r215]
                                    clear r211 r215
                                    refine wpList_goneR (H11.out.quiet HB6.out) HGG.out.2.2 k (by rw [List.length_map]; exact HG.out.2.1) hk HLX7.out.2.2 rfl (.tmp 211) (.tmp 215) rfl rfl rfl ?_
                                    intro a12 c12 w12 h12
                                    obtain ⟨E8, hE8⟩ : ∃ E8, E8 = E7.take k ++ E7.drop (k + 1) := ⟨_, rfl⟩
                                    have hsub : E8.Sublist E7 := by
                                      have h := (List.Sublist.refl (E7.take k)).append (List.drop_sublist_drop_left E7 (Nat.le_succ k))
                                      rw [List.take_append_drop] at h
                                      rw [hE8]
                                      exact h
                                    have h13 := h12.sub hsub
                                    rw [show (E7.map (·.x)).take k ++ (E7.map (·.x)).drop (k + 1) = E8.map (·.x) by rw [hE8, List.map_append, List.map_take, List.map_drop], show (E7.map (·.y)).take k ++ (E7.map (·.y)).drop (k + 1) = E8.map (·.y) by rw [hE8, List.map_append, List.map_take, List.map_drop]] at h13
                                    have hl8 : E8.length = m1 - 1 := by
                                      rw [hE8, List.length_append, List.length_take, List.length_drop, HG.out.2.1]
                                      omega
                                    have H13 := Lib.hid (And.intro h13 (And.intro hl8 (fun e he => HG.out.2.2.1 e (hsub.subset he))))
                                    clear h12 h13 hE8 hsub hl8
                                    go_wp2_with fail
                                    go_roundw
                                    case rel => exact ⟨i + 1, m1 - 1, by have := HXL.out.2.2; omega, rfl, by go_num, by have := HG.out.2.2.2.2.1; omega, ⟨_, _, rfl⟩, ⟨_, _, rfl⟩, Lib.hid ⟨dv7, E8, H13.out.1, H13.out.2.1, by have := HG.out.2.2.2.2.1; omega, H13.out.2.2, HG.out.2.2.2.1⟩⟩
                                    case measure => have := HXL.out.2.2; simp [intOf]; omega
                              · have g12 : (x.tmod 3 == 0) = false := by simp [hm3]
                                go_wp2_with fail
                                go_roundw
                                case rel => exact ⟨i + 1, m1, by have := HXL.out.2.2; omega, rfl, by go_num, HG.out.2.2.2.2.1, ⟨_, _, rfl⟩, ⟨_, _, rfl⟩, Lib.hid ⟨dv7, E7, HG.out.1, HG.out.2.1, HG.out.2.2.2.2.1, HG.out.2.2.1, HG.out.2.2.2.1⟩⟩
                                case measure => have := HXL.out.2.2; simp [intOf]; omega
                            · have g7 : decide ((i : Int) < (ng : Int)) = false := by rw [decide_eq_false_iff_not]; omega
                              have g8 : decide (i < ng) = false := by rw [decide_eq_false_iff_not]; omega
                              go_wp2_with fail
                              go_roundw
                              case rel => exact ⟨i + 1, m1, by have := HXL.out.2.2; omega, rfl, by go_num, HG.out.2.2.2.2.1, ⟨_, _, rfl⟩, ⟨_, _, rfl⟩, Lib.hid ⟨dv7, E7, HG.out.1, HG.out.2.1, HG.out.2.2.2.2.1, HG.out.2.2.1, HG.out.2.2.2.1⟩⟩
                              case measure => have := HXL.out.2.2; simp [intOf]; omega
                      · have hff : (fr : Int) < (nq : Int) := by omega
                        have hfd : decide (nq ≤ fr) = false := by rw [decide_eq_false_iff_not]; exact hfit
                        have hfd2 : decide ((nq : Int) ≤ (fr : Int)) = false := by rw [decide_eq_false_iff_not]; omega
                        have hfi := (fun (W : World) (hW : Fr (fun _ => False) wr W) => bFind_full W l0 la d s nq (.slice ah nh ch) hl HOK.out (HHT.out.2.2.1.keep hW (fun _ _ _ h => h)) (fun k hk => Nat.lt_of_lt_of_le (HHT.out.2.2.2.1 k hk) hW.size) HHT.out.2.2.2.2.2.2.1 (by rw [← HHT.out.2.2.2.2.2.1]; omega) (by omega))
                        have HFI := Lib.hid hfi
                        clear hfi hfit
                        go_wp2_with (go_at_call 12; refine HFR.out.mono ?_; rintro e w2 ⟨rfl, hf2⟩; (have c02 := hf2.cell c0 id); (have s02 := hf2.cell s0 id); (have s12 := hf2.cell s1 id); (have s22 := hf2.cell s2 id); (have H2 := Lib.hid hf2); (have HND2 := Lib.hid (HND.out w2.drew)); clear hf2)
                        go_region_held3 (fun w' => w'.cell? ⟨z, 0, none⟩ = some (.int .i64 (l0 : Int)) ∧ w'.cell? ⟨z, 1, none⟩ = some (.int .i64 (la : Int)) ∧ w'.cell? ⟨z, 2, none⟩ = some (.int .i64 (d : Int)) ∧ w'.cell? ⟨b, off + i, none⟩ = some (.slice ab q cb)) (first | exact ⟨by assumption, by assumption, by assumption, by assumption⟩ | go_keep)
                          (first
                            | (go_at_call 14; refine HND2.out.mono ?_; rintro e w3 ⟨rfl, hf3'⟩; (have hf3 := hf3'.ofDrew); (have c03 := hf3.cell c02 id); (have s03 := hf3.cell s02 id); (have s13 := hf3.cell s12 id); (have s23 := hf3.cell s22 id); (have H3 := Lib.hid (H2.out.trans hf3 (fun _ h => h.elim))); clear hf3 hf3')
                            | (go_at_call 10; refine (HFI.out w3 H3.out).mono ?_; rintro e w4 ⟨rfl, hf4⟩; (have c04 := hf4.cell c03 id); (have s04 := hf4.cell s03 id); (have s14 := hf4.cell s13 id); (have s24 := hf4.cell s23 id); (have H4 := Lib.hid (H3.out.trans hf4 (fun _ h => h.elim))); (have HND4 := Lib.hid (HND.out w4)); clear hf4))
                        go_wp2_with (go_at_call 14; refine HND4.out.mono ?_; rintro e w5 ⟨rfl, hf5⟩; (have H5 := Lib.hid (H4.out.trans hf5 (fun _ h => h.elim))); clear hf5)
                        go_roundw
                        case rel => exact ⟨i + 1, m, by have := HXL.out.2.2; omega, rfl, by go_num, by have := HK.out.2.2.2.2; omega, ⟨_, _, rfl⟩, ⟨_, _, rfl⟩, Lib.hid ⟨dv, E, HK.out.1.quiet (HHT.out.1.trans H5.out (fun _ h => h.elim)), HK.out.2.1, by have := HK.out.2.2.2.2; omega, HK.out.2.2.1, by have := HK.out.2.2.2.1; omega⟩⟩
                        case measure => have := HXL.out.2.2; simp [intOf]; omega
                · obtain ⟨dv, E, hK, hEm, -, hEB, hdd⟩ := hS.out.ex
                  have HK := Lib.hid (And.intro hK (And.intro hEm hEB))
                  have t11 : decide ((i : Int) < (n : Int)) = false := by rw [decide_eq_false_iff_not]; omega
                  have t12 : decide (i < n) = false := by rw [decide_eq_false_iff_not]; omega
                  have t15 : (m : Int) ≤ 60 := by omega
                  clear hS hK hEm hEB hdd hmi hi hlt
                  go_wp2_with (first
                    | (go_at_call 38; refine HK.out.1.crash_any.mono ?_; rintro e w8 ⟨rfl, hc8⟩; (have H8 := Lib.hid hc8); clear hc8)
                    | (go_at_call 33; refine (HK.out.1.wake_any H8.out).mono ?_; rintro e w9 ⟨rfl, hk9⟩; (have H9 := Lib.hid hk9); clear hk9))
                  go_loopw [6, 23] (fun v6 iv wq => ∃ j : Nat, j ≤ m ∧ v6 = .bool false ∧ iv = .int .i64 j ∧ Hid (Fr (fun _ => False) w9 wq)) (fun _ iv _ => m - (intOf iv).toNat)
                  case atStart => exact ⟨0, Nat.zero_le _, rfl, rfl, Lib.hid (Fr.refl _ _)⟩
                  case round =>
                    obtain ⟨j, hj, rfl, rfl, hT⟩ := hrel
                    by_cases hlj : j < m
                    · have hjE : j < E.length := by have := HK.out.2.1; omega
                      obtain ⟨ej, hej⟩ : ∃ ej, ej = E[j] := ⟨_, rfl⟩
                      have hmem : ej ∈ E := by rw [hej]; exact List.getElem_mem hjE
                      obtain ⟨ar', cr', hr1, -, -, br, ob, hr4, hr5⟩ := H9.out.rows.row.elems.open1
                      rw [List.length_map, HK.out.2.1] at hr1 hr4
                      simp only [Value.slice.injEq] at hr1
                      obtain ⟨rfl, -, rfl⟩ := hr1
                      have hr6 := (hr4 (by omega)).1
                      subst hr6
                      have cxv := hT.out.cell (hr5 j (by rw [List.length_map]; exact hjE)) id
                      rw [List.getElem_map, ← hej] at cxv
                      obtain ⟨au', cu', hq1, -, -, bq, oq, hq4, hq5⟩ := H9.out.runs.row.elems.open1
                      rw [List.length_map, HK.out.2.1] at hq1 hq4
                      simp only [Value.slice.injEq] at hq1
                      obtain ⟨rfl, -, rfl⟩ := hq1
                      have hq6 := (hq4 (by omega)).1
                      subst hq6
                      have cyv := hT.out.cell (hq5 j (by rw [List.length_map]; exact hjE)) id
                      rw [List.getElem_map, ← hej] at cyv
                      obtain ⟨hbx, hoy⟩ := H9.out.ents ej hmem
                      have hrd := fun (W : World) (hW : Fr (fun _ => False) w9 W) => H9.out.read (s0 := s) HFF.out HOK.out rfl (by omega) hW ej hmem (by have := HK.out.2.2 ej hmem; omega)
                      obtain ⟨ax, cx, hxv, -⟩ := id hbx
                      obtain ⟨ay, cy, hyv⟩ := hoy.form
                      obtain ⟨nx, hnx⟩ : ∃ nx, nx = ej.B.length := ⟨_, rfl⟩
                      obtain ⟨ny, hny⟩ : ∃ ny, ny = ej.R.length := ⟨_, rfl⟩
                      have hnx4 : nx ≤ 4000 := by have := HK.out.2.2 ej hmem; omega
                      rw [← hnx] at hxv hrd
                      rw [← hny] at hyv
                      rw [hxv] at cxv hbx
                      rw [hyv] at cyv hrd
                      obtain ⟨s0, s1, s2⟩ := row3_cells ((H9.out.fr.trans hT.out (fun _ h => h.elim)).heap H1.out.2.1 id)
                      have HRD := Lib.hid (hrd wr.drew hT.out.drew)
                      have HBX := Lib.hid (And.intro hbx hnx)
                      have e1 : decide ((j : Int) < (m : Int)) = true := by rw [decide_eq_true_iff]; omega
                      have e2 : decide (j < m) = true := by rw [decide_eq_true_iff]; omega
                      have e3 : (j : Int) < (m : Int) := by omega
                      have e4 : (0 : Int) ≤ (j : Int) := by omega
                      clear hjE hej hmem hr4 hr5 hq4 hq5 hbx hoy hrd hxv hyv hnx hny hj hlj
                      go_upto_region 42 with fail
                      go_region_held3 (fun w' => w'.cell? ⟨z, 0, none⟩ = some (.int .i64 (l0 : Int)) ∧ w'.cell? ⟨z, 1, none⟩ = some (.int .i64 (la : Int)) ∧ w'.cell? ⟨z, 2, none⟩ = some (.int .i64 (d : Int)) ∧ w'.cell? ⟨br, ob + j, none⟩ = some (.slice ax nx cx) ∧ w'.cell? ⟨bq, oq + j, none⟩ = some (.slice ay ny cy)) (first | exact ⟨by assumption, by assumption, by assumption, by assumption, by assumption⟩ | go_keep)
                        (first
                          | (go_at_call 28; refine HRD.out.mono ?_; rintro r w5 ⟨a5, n5, c5, rfl, ho5, hf5'⟩; (have hf5 := hf5'.ofDrew); (have cx5 := hf5.cell cxv id); (have cy5 := hf5.cell cyv id); (have s05 := hf5.cell s0 id); (have s15 := hf5.cell s1 id); (have s25 := hf5.cell s2 id); (have H5 := Lib.hid (And.intro (hT.out.trans hf5 (fun _ h => h.elim)) ho5)); clear ho5 hf5 hf5'))
                      have hsm := same_any (.slice a5 n5 c5) (.slice ax nx cx) ej.B ej.B w5 H5.out.2.bytes (HBX.out.1.keep H5.out.1 (fun _ _ _ h => h))
                      rw [sameB_eq rfl] at hsm
                      have HSM := Lib.hid hsm
                      clear hsm
                      go_wp2_with (go_at_call 30; refine HSM.out.mono ?_; rintro e w6 ⟨rfl, n6, rfl⟩)
                      go_roundw
                      case rel => exact ⟨j + 1, by omega, rfl, by go_num, Lib.hid (H5.out.1.drewN n6)⟩
                      case measure => simp [intOf]; omega
                    · have e1 : decide ((j : Int) < (m : Int)) = false := by rw [decide_eq_false_iff_not]; omega
                      have e2 : decide (j < m) = false := by rw [decide_eq_false_iff_not]; omega
                      clear hj hlj
                      go_wp2_with fail
                      go_ret
                      exact ⟨rfl, H1.out.1.trans (H9.out.fr.trans hT.out (fun _ h => h.elim)) (fun _ h => h.elim)⟩
            · have d8 : decide ((60 : Int) < (s : Int)) = true := by rw [decide_eq_true_iff]; omega
              have hs9 : (60 : Int) < (s : Int) := by omega
              clear hlt hk hk60 htb hri hrs ht hl1 hl2 hl3 hl4 hs hok
              go_wp2_with (first
                | (go_at_call 35; refine HR2.out.mono ?_; rintro e w2 ⟨rfl, hf2⟩; (have H2 := Lib.hid (And.intro (HR.out.2.1.trans hf2 (fun _ h => h.elim)) (hf2.heap HR.out.2.2 id))); (obtain ⟨s0, s1, s2⟩ := row3_cells H2.out.2); clear hf2)
                | (go_at_call 36; (with_reducible refine (lSectors_any w2 l0 la d s HOK.out).mono ?_); rintro e w3 ⟨rfl, hf3⟩; (have H3 := Lib.hid (H2.out.1.trans hf3 (fun _ h => h.elim))); clear hf3))
              go_ret
              exact ⟨rfl, H1.out.1.trans H3.out (fun _ h => h.elim)⟩
        · have d7 : decide ((4000 : Int) < (t : Int)) = true := by rw [decide_eq_true_iff]; omega
          clear hlt hk hk60 htb
          go_wp2_with fail
          go_ret
          exact ⟨rfl, H1.out.1.trans HR.out.2.1 (fun _ h => h.elim)⟩
      · have d1 : decide ((k : Int) < (n : Int)) = true := by rw [decide_eq_true_iff]; omega
        have d2 : decide ((k : Int) < 60) = false := by rw [decide_eq_false_iff_not]; omega
        have d3 : (60 : Int) ≤ (k : Int) := by omega
        have d4 : (60 : Int) < (n : Int) := by omega
        have d5 : decide (k < n) = true := by rw [decide_eq_true_iff]; omega
        have d6 : decide ((60 : Int) < (n : Int)) = true := by rw [decide_eq_true_iff]; omega
        clear hlt hk hk60 htb
        go_wp2_with fail
        go_ret
        exact ⟨rfl, H1.out.1.trans HR.out.2.1 (fun _ h => h.elim)⟩
end Go.Proofs.Ytcbbcihfooaggaa
