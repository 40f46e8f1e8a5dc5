/- Laid together: BFinds -/
import Derived.Test.YtcbbcihfooaggaaBe14
import Derived.Test.YtcbbcihfooaggaaBe0
import Derived.ProofKit
import Derived.OpenShut
import Derived.SizedLaws
import Derived.Deep.Slices
import Derived.Carry
import Derived.Test.YtcbbcihfooaggaaBe6
import Derived.Deep.Fields

namespace Go.Proofs.Ytcbbcihfooaggaa
open Go.RowKit Go.ChangeShapes
set_option linter.unusedVariables false
theorem eql_bool7 (w : World) (b : Bool) : (binOp .eql 4 (.bool b) (.bool b)).run Try.prog w = .ok (.bool true) w := by cases b <;> kernel_rfl
theorem drewN_fr {w w' : World} {e : Ending} {v : Value} (h : e = .returned v ∧ ∃ n, w' = w.drewN n) : e = .returned v ∧ Fr (fun _ => False) w w' := by
  obtain ⟨h1, n, rfl⟩ := h
  exact ⟨h1, (Fr.refl _ _).drewN n⟩
theorem same_fr {w w' : World} {e : Ending} {v : Value} (h : e = .returned v ∧ w' = w) : e = .returned v ∧ Fr (fun _ => False) w w' := ⟨h.1, h.2 ▸ Fr.refl _ _⟩
theorem ent_spence_blob_Apart (args : Array Value) (w : World) : (callFunc 16 args).run Try.prog w = .ok (.enter 16 args) w := by kernel_rfl
theorem ent_spence_blob_Need (args : Array Value) (w : World) : (callFunc 14 args).run Try.prog w = .ok (.enter 14 args) w := by kernel_rfl
theorem ent_spence_spencelaw07_awake (args : Array Value) (w : World) : (callFunc 9 args).run Try.prog w = .ok (.enter 9 args) w := by kernel_rfl
theorem ent_spence_spencelaw07_sameRuns (args : Array Value) (w : World) : (callFunc 18 args).run Try.prog w = .ok (.enter 18 args) w := by kernel_rfl
theorem ent_spence_spenceref07_Apart (args : Array Value) (w : World) : (callFunc 17 args).run Try.prog w = .ok (.enter 17 args) w := by kernel_rfl
theorem ent_spence_spenceref07_Need (args : Array Value) (w : World) : (callFunc 15 args).run Try.prog w = .ok (.enter 15 args) w := by kernel_rfl
def BfR (b3 n na nb ch ci ca cb : Nat) (L A D many nd cc q fc : Int) (ap : Bool) (ah ai aa ab : Option Addr) (i : Nat) (v : Value) (W : World) : Prop :=
  match i with
  | 0 => v = .int .i64 many
  | 1 => v = .int .i64 nd
  | 2 => v = .int .i64 many
  | 3 => v = .int .i64 nd
  | 4 => v = .bool true
  | 5 => v = .bool true
  | 6 => v = .agg #[.int .i64 L, .int .i64 A, .int .i64 D]
  | 7 => v = .slice ai n ci
  | 8 => v = .bool ap
  | 9 => v = .agg #[.int .i64 L, .int .i64 A, .int .i64 D]
  | 10 => v = .slice ah n ch
  | 11 => v = .bool ap
  | 12 => v = .bool true
  | 13 => v = .bool true
  | 14 => v = .bool true
  | 15 => v = .int .i64 cc
  | 16 => v = .int .i64 cc
  | 17 => v = .bool true
  | 18 => v = .bool true
  | 19 => v = .bool true
  | 20 => v = .slice aa na ca
  | 21 => v = .slice ab nb cb
  | 22 => v = .bool true
  | 23 => v = .bool true
  | 24 => v = .bool true
  | 25 => v = .int .i64 fc
  | 26 => v = .int .i64 fc
  | 27 => v = .bool true
  | 28 => v = .bool true
  | 29 => v = .bool true
  | 30 => v = .int .i64 q
  | 31 => v = .int .i64 q
  | 32 => v = .bool true
  | 33 => v = .bool true
  | 34 => v = .bool true
  | 35 => v = .slice ai n ci
  | 36 => v = .slice ah n ch
  | 37 => v = .bool true
  | 38 => v = .bool true
  | 39 => v = .bool true
  | 40 => v = .bool true
  | 41 => v = .bool true
  | 42 => v = .bool true
  | _ => True
theorem BfR.ext (b3 n na nb ch ci ca cb : Nat) (L A D many nd cc q fc : Int) (ap : Bool) (ah ai aa ab : Option Addr) : ∀ (j : Nat) (u : Value) (W W' : World), Fr (fun _ => False) W W' → BfR b3 n na nb ch ci ca cb L A D many nd cc q fc ap ah ai aa ab j u W → BfR b3 n na nb ch ci ca cb L A D many nd cc q fc ap ah ai aa ab j u W'
  | 0, u, W, W', hf, h => h
  | 1, u, W, W', hf, h => h
  | 2, u, W, W', hf, h => h
  | 3, u, W, W', hf, h => h
  | 4, u, W, W', hf, h => h
  | 5, u, W, W', hf, h => h
  | 6, u, W, W', hf, h => h
  | 7, u, W, W', hf, h => h
  | 8, u, W, W', hf, h => h
  | 9, u, W, W', hf, h => h
  | 10, u, W, W', hf, h => h
  | 11, u, W, W', hf, h => h
  | 12, u, W, W', hf, h => h
  | 13, u, W, W', hf, h => h
  | 14, u, W, W', hf, h => h
  | 15, u, W, W', hf, h => h
  | 16, u, W, W', hf, h => h
  | 17, u, W, W', hf, h => h
  | 18, u, W, W', hf, h => h
  | 19, u, W, W', hf, h => h
  | 20, u, W, W', hf, h => h
  | 21, u, W, W', hf, h => h
  | 22, u, W, W', hf, h => h
  | 23, u, W, W', hf, h => h
  | 24, u, W, W', hf, h => h
  | 25, u, W, W', hf, h => h
  | 26, u, W, W', hf, h => h
  | 27, u, W, W', hf, h => h
  | 28, u, W, W', hf, h => h
  | 29, u, W, W', hf, h => h
  | 30, u, W, W', hf, h => h
  | 31, u, W, W', hf, h => h
  | 32, u, W, W', hf, h => h
  | 33, u, W, W', hf, h => h
  | 34, u, W, W', hf, h => h
  | 35, u, W, W', hf, h => h
  | 36, u, W, W', hf, h => h
  | 37, u, W, W', hf, h => h
  | 38, u, W, W', hf, h => h
  | 39, u, W, W', hf, h => h
  | 40, u, W, W', hf, h => h
  | 41, u, W, W', hf, h => h
  | 42, u, W, W', hf, h => h
  | _ + 43, u, W, W', hf, h => trivial
set_option maxRecDepth 100000 in
set_option maxHeartbeats 4000000 in
theorem blobFinds_any (w : World) (L A D many : Int) (hm1 : -9223372036854775808 ≤ many) (hm2 : many ≤ 9223372036854775807) (v : Value) (l : List Rn) (hl : RnsIn (fun k => k < w.heap.size) w v l) :
    Calls Try.prog 3 #[.agg #[.int .i64 L, .int .i64 A, .int .i64 D], .int .i64 many, v] w fun e w' => e = .returned (.bool true) ∧ Fr (fun _ => False) w w' := by
  obtain ⟨ah, ch, rfl, hc1, hc2, _⟩ := hl.open7
  obtain ⟨n, hn⟩ : ∃ n, n = l.length := ⟨_, rfl⟩
  rw [← hn] at hc1 hl ⊢
  obtain ⟨b3, hb3⟩ : ∃ b3, b3 = w.heap.size := ⟨_, rfl⟩
  obtain ⟨W1, hW1⟩ : ∃ W1, W1 = w.alloc (.cells #[.int .i64 L, .int .i64 A, .int .i64 D] 23) := ⟨_, rfl⟩
  have hf1 : Fr (fun _ => False) w W1 := by rw [hW1]; exact (Fr.refl _ _).alloc _
  have hrow : W1.heap[b3]? = some (.cells #[.int .i64 L, .int .i64 A, .int .i64 D] 23 (0, 0)) := by rw [hW1, hb3]; exact heap_alloc_new w _
  have hl1 := (hl.quiet hf1)
  have HAW := Lib.hid awake7_any
  have HW := Lib.hid (And.intro hW1 hb3)
  have HX := Lib.hid (And.intro hf1 (And.intro hrow (And.intro hl1 (And.intro hn (show w.heap.size ≤ W1.heap.size from hf1.size)))))
  clear hW1 hf1 hrow hl1 hn hl hb3
  by_cases h1 : 60 < n
  · have hg : (60 : Int) < (n : Int) := by omega
    go_enter Try.func3, Try.ntmps3
    go_wp2_with (go_at_call 9; rw [← HW.out.1]; refine (HAW.out _).mono ?_; rintro e w2 ⟨rfl, hf⟩; (have H2 := Lib.hid hf); clear hf)
    go_ret
    exact ⟨rfl, HX.out.1.trans H2.out (fun _ h => h.elim)⟩
  · have hg : ¬ (60 : Int) < (n : Int) := by omega
    have HSE := Lib.hid (r5Sectors_any W1 L A D)
    obtain ⟨sx, hsx⟩ : ∃ sx, sx = secsS L A D := ⟨_, rfl⟩
    rw [← hsx] at HSE
    clear hsx
    by_cases h2 : 60 < sx
    · go_enter Try.func3, Try.ntmps3
      go_wp2_with (first
        | (go_at_call 8; rw [← HW.out.1]; refine HSE.out.mono ?_; rintro e w2 ⟨rfl, hf⟩; (have H2 := Lib.hid hf); clear hf)
        | (go_at_call 9; refine (HAW.out _).mono ?_; rintro e w3 ⟨rfl, hf⟩; (have H3 := Lib.hid hf); clear hf))
      go_ret
      exact ⟨rfl, (HX.out.1.trans H2.out (fun _ h => h.elim)).trans H3.out (fun _ h => h.elim)⟩
    · have hb0 : ∀ W : World, (Instr.buildSlice 24 0 #[]).run Try.prog W = .ok (.slice (some ⟨W.heap.size, 0, none⟩) 0 0) (W.alloc (.cells #[] 68)) := fun W => by kernel_rfl
      have hshape : ∀ W : World, Fr (fun _ => False) W1 W → W.cell? ⟨w.heap.size, 0, none⟩ = some (.int .i64 L) ∧ W.cell? ⟨w.heap.size, 1, none⟩ = some (.int .i64 A) ∧ W.cell? ⟨w.heap.size, 2, none⟩ = some (.int .i64 D) := fun W hW => row3_cells (hW.heap (by rw [← HW.out.2]; exact HX.out.2.1) id)
      have HSH := Lib.hid hshape
      have HFF : Hid (∀ k, k < w.heap.size → k < W1.heap.size) := Lib.hid (fun k hk => Nat.lt_of_lt_of_le hk HX.out.2.2.2.2)
      have HFI := Lib.hid (fun (W : World) (v : Value) (F : Nat → Prop) (hL : RnsIn F W v l) (hF : ∀ k, F k → k < W.heap.size) => bFindA W L A D many v l hL hF hm2)
      have HFR := Lib.hid (fun (W : World) (v : Value) (F : Nat → Prop) (hL : RnsIn F W v l) (hF : ∀ k, F k → k < W.heap.size) => rFindA W L A D many v l hL hF hm2)
      obtain ⟨fa, hfa⟩ : ∃ fa, fa = findA L A D many l := ⟨_, rfl⟩
      rw [← hfa] at HFI HFR
      obtain ⟨cc, lst⟩ := fa
      have HEI := Lib.hid (fun (W : World) (v : Value) (F : Nat → Prop) (hL : RnsIn F W v l) (hF : ∀ k, F k → k < W.heap.size) => bFreeA W L A D v l hL hF)
      have HER := Lib.hid (fun (W : World) (v : Value) (F : Nat → Prop) (hL : RnsIn F W v l) (hF : ∀ k, F k → k < W.heap.size) => rFreeA W L A D v l hL hF)
      obtain ⟨fr, hfr⟩ : ∃ fr, fr = freeA L A D l := ⟨_, rfl⟩
      rw [← hfr] at HEI HER
      obtain ⟨q, fc⟩ := fr
      have HLO := Lib.hid (show n ≤ 60 by omega)
      have HLB := Lib.hid (show ∀ r ∈ l, -9223372036854775808 ≤ r.1 ∧ r.1 ≤ 9223372036854775807 ∧ -9223372036854775808 ≤ r.2 ∧ r.2 ≤ 9223372036854775807 from HX.out.2.2.1.2)
      clear hfa hfr hshape
      go_enter Try.func3, Try.ntmps3
      go_wp2_with (first
        | (go_at_call 8; rw [← HW.out.1]; refine HSE.out.mono ?_; rintro e w2 ⟨rfl, hf⟩; (have H2 := Lib.hid (And.intro hf (HX.out.2.2.1.quiet hf))); clear hf)
        | (at_builtin; refine wpList_append_rns (F := fun k => k < w.heap.size) (z := w2.heap.size) _ rfl (.tmp 25) (.tmp 26) rfl (.slice (some ⟨w2.heap.size, 0, none⟩) 0 0) (.slice ah n ch) [] l rfl rfl (OwnRn.empty7 w2) (H2.out.2.quiet ((Fr.refl (fun _ => False) w2).alloc _)) (by simp) (by have := HX.out.2.2.2.1; have := HLO.out; simp; omega) ?_; intro v7 w3 ho hf; (obtain ⟨ai, ci, rfl⟩ := ho.form); rw [List.nil_append] at ho ⊢; rw [← HX.out.2.2.2.1] at ho ⊢; (have hf3 : Fr (fun _ => False) w2 w3 := (((Fr.refl (fun _ => False) w2).alloc _).trans hf (fun k hk => .inr (by have e : (Value.slice (some ⟨w2.heap.size, 0, none⟩) 0 0).ownBlock = some k := hk; simp only [Value.ownBlock, Option.some.injEq] at e; omega)))); (obtain ⟨s0, s1, s2⟩ := HSH.out w3 (H2.out.1.trans hf3 (fun _ h => h.elim))); (have H3 := Lib.hid (And.intro (H2.out.1.trans hf3 (fun _ h => h.elim)) (And.intro ((ho.rns HLB.out).mono (G := fun k => w2.heap.size ≤ k ∧ k < w3.heap.size) (fun k hk h => ⟨h.1, hk⟩)) (H2.out.2.quiet hf3)))); clear ho hf hf3)
        | (go_at_call 10; refine (HFI.out w3 (.slice ai n ci) _ H3.out.2.1 (fun k hk => hk.2)).mono ?_; rintro e w4 ⟨aa, na, ca, rfl, hr4, hf4⟩; (obtain ⟨s0, s1, s2⟩ := HSH.out w4 (H3.out.1.trans hf4 (fun _ h => h.elim))); (have H4 := Lib.hid (And.intro (H3.out.1.trans hf4 (fun _ h => h.elim)) (And.intro (H3.out.2.1.quiet hf4) (And.intro (H3.out.2.2.quiet hf4) (And.intro (hr4.mono (G := fun k => w3.heap.size ≤ k ∧ k < w4.heap.size) (fun k hk h => ⟨h, hk⟩)) hf4.size))))); clear hr4 hf4)
        | (go_at_call 11; refine (HFR.out w4 (.slice ah n ch) _ H4.out.2.2.1 (fun k hk => by have := HX.out.2.2.2.2; have := H4.out.1.size; omega)).mono ?_; rintro e w5 ⟨ab, nb, cb, rfl, hr5, hf5⟩; (obtain ⟨s0, s1, s2⟩ := HSH.out w5 (H4.out.1.trans hf5 (fun _ h => h.elim))); (have H5 := Lib.hid (And.intro (H4.out.1.trans hf5 (fun _ h => h.elim)) (And.intro (H4.out.2.1.quiet hf5) (And.intro (H4.out.2.2.1.quiet hf5) (And.intro (H4.out.2.2.2.1.quiet hf5) (And.intro hr5 (Nat.le_trans H4.out.2.2.2.2 hf5.size))))))); clear hr5 hf5)
        | (go_at_call 12; refine (HEI.out w5 (.slice ai n ci) _ H5.out.2.1 (fun k hk => by have := H5.out.2.2.2.2.2; omega)).mono ?_; rintro e w6 ⟨rfl, hf6⟩; (obtain ⟨s0, s1, s2⟩ := HSH.out w6 (H5.out.1.trans hf6 (fun _ h => h.elim))); (have H6 := Lib.hid hf6); clear hf6)
        | (go_at_call 13; refine (HER.out w6 (.slice ah n ch) _ (H5.out.2.2.1.quiet H6.out) (fun k hk => by have := HX.out.2.2.2.2; have := H5.out.1.size; have := H6.out.size; omega)).mono ?_; rintro e w7 ⟨rfl, hf7⟩; (have H7 := Lib.hid (H6.out.trans hf7 (fun _ h => h.elim))); clear hf7))
      have H8 := Lib.hid (H5.out.1.trans H7.out (fun _ h => h.elim))
      have LDS := Lib.hid (fun W (hW : Fr (fun _ => False) w7 W) => load_shape5 W b3 0 _ _ _ (range_row5 (hW.heap (H8.out.heap HX.out.2.1 id) id)))
      obtain ⟨nd, hnd⟩ : ∃ nd, nd = need7 many := ⟨_, rfl⟩
      have HN1 := Lib.hid (fun W => (bNeed_any W many hm1 hm2).mono (fun _ _ h => same_fr h))
      have HN2 := Lib.hid (fun W => (rNeed_any W many hm1 hm2).mono (fun _ _ h => same_fr h))
      rw [← hnd] at HN1 HN2
      obtain ⟨ap, hap⟩ : ∃ ap, ap = ap7 L A D l := ⟨_, rfl⟩
      have HA1 := Lib.hid (fun W (hW : Fr (fun _ => False) w7 W) => bApart_any W L A D (.slice ai n ci) l ((H5.out.2.1.quiet H7.out).quiet hW) (fun k hk => by have := H5.out.2.2.2.2.2; have := H7.out.size; have := hW.size; omega))
      have HA2 := Lib.hid (fun W (hW : Fr (fun _ => False) w7 W) => rApart_any W L A D (.slice ah n ch) l ((H5.out.2.2.1.quiet H7.out).quiet hW) (fun k hk => by have := HX.out.2.2.2.2; have := H8.out.size; have := hW.size; omega))
      rw [← hap] at HA1 HA2
      have HS1 := Lib.hid (fun W (hW : Fr (fun _ => False) w7 W) => (same7_any W _ _ lst ((H5.out.2.2.2.1.quiet H7.out).quiet hW) ((H5.out.2.2.2.2.1.quiet H7.out).quiet hW)).mono (fun _ _ h => drewN_fr h))
      have HS2 := Lib.hid (fun W (hW : Fr (fun _ => False) w7 W) => (same7_any W _ _ l ((H5.out.2.1.quiet H7.out).quiet hW) ((H5.out.2.2.1.quiet H7.out).quiet hW)).mono (fun _ _ h => drewN_fr h))
      clear hnd hap s0 s1 s2
      rw [← HW.out.2]
      refine wp_region_inv 43 (by kernel_rfl) (by kernel_rfl) (fun W => Fr (fun _ => False) w7 W) (BfR b3 n na nb ch ci ca cb L A D many nd cc q fc ap ah ai aa ab) (fun _ _ _ _ => True) (Fr (fun _ => False)) (BfR.ext b3 n na nb ch ci ca cb L A D many nd cc q fc ap ah ai aa ab) (Fr.refl _ _).drew ?_ ?_
      · intro i hi o ho
        replace hi : i < 43 := hi
        obtain rfl | rfl | rfl | rfl | rfl | rfl | rfl | rfl | rfl | rfl | rfl | rfl | rfl | rfl | rfl | rfl | rfl | rfl | rfl | rfl | rfl | rfl | rfl | rfl | rfl | rfl | rfl | rfl | rfl | rfl | rfl | rfl | rfl | rfl | rfl | rfl | rfl | rfl | rfl | rfl | rfl | rfl | rfl : i = 0 ∨ i = 1 ∨ i = 2 ∨ i = 3 ∨ i = 4 ∨ i = 5 ∨ i = 6 ∨ i = 7 ∨ i = 8 ∨ i = 9 ∨ i = 10 ∨ i = 11 ∨ i = 12 ∨ i = 13 ∨ i = 14 ∨ i = 15 ∨ i = 16 ∨ i = 17 ∨ i = 18 ∨ i = 19 ∨ i = 20 ∨ i = 21 ∨ i = 22 ∨ i = 23 ∨ i = 24 ∨ i = 25 ∨ i = 26 ∨ i = 27 ∨ i = 28 ∨ i = 29 ∨ i = 30 ∨ i = 31 ∨ i = 32 ∨ i = 33 ∨ i = 34 ∨ i = 35 ∨ i = 36 ∨ i = 37 ∨ i = 38 ∨ i = 39 ∨ i = 40 ∨ i = 41 ∨ i = 42 := by omega
        · simp only [List.getElem?_cons_zero, Option.some.injEq] at ho
          subst ho
          intro a W vs hB hS hE hU
          refine wpG_plain rfl ?_
          have v1 : a.eval (.tmp 1) = .int .i64 many := (hU 1 (by kernel_rfl)).trans rfl
          clear hE hU
          exact wp_value_inv (w' := W) (.int .i64 many) (op_move rfl v1) ⟨_, rfl, hB, Fr.refl _ _, rfl, fun _ _ _ _ _ => trivial⟩
        · simp only [List.getElem?_cons_zero, List.getElem?_cons_succ, Option.some.injEq] at ho
          subst ho
          intro a W vs hB hS hE hU
          refine wpG_plain rfl ?_
          obtain ⟨r0, e54⟩ := hE 0 54 (by kernel_rfl) (by kernel_rfl)
          have v54 : a.eval (.tmp 54) = .int .i64 many := e54.trans r0
          clear hE hU
          refine wp_call_inv 14 #[.tmp 54] #[3] rfl #[.int .i64 many] (by simp only [List.map_toArray, List.map_cons, List.map_nil, v54]) (ent_spence_blob_Need _) (Post := fun v W' => v = .int .i64 nd ∧ Fr (fun _ => False) W W') ((HN1.out W).mono fun e w' h => ⟨_, h.1, rfl, h.2⟩) ?_
          rintro v W' ⟨rfl, hf⟩
          exact ⟨_, rfl, hB.trans hf (fun _ h => h.elim), hf, rfl, fun _ _ _ _ _ => trivial⟩
        · simp only [List.getElem?_cons_zero, List.getElem?_cons_succ, Option.some.injEq] at ho
          subst ho
          intro a W vs hB hS hE hU
          refine wpG_plain rfl ?_
          have v1 : a.eval (.tmp 1) = .int .i64 many := (hU 1 (by kernel_rfl)).trans rfl
          clear hE hU
          exact wp_value_inv (w' := W) (.int .i64 many) (op_move rfl v1) ⟨_, rfl, hB, Fr.refl _ _, rfl, fun _ _ _ _ _ => trivial⟩
        · simp only [List.getElem?_cons_zero, List.getElem?_cons_succ, Option.some.injEq] at ho
          subst ho
          intro a W vs hB hS hE hU
          refine wpG_plain rfl ?_
          obtain ⟨r2, e56⟩ := hE 2 56 (by kernel_rfl) (by kernel_rfl)
          have v56 : a.eval (.tmp 56) = .int .i64 many := e56.trans r2
          clear hE hU
          refine wp_call_inv 15 #[.tmp 56] #[3] rfl #[.int .i64 many] (by simp only [List.map_toArray, List.map_cons, List.map_nil, v56]) (ent_spence_spenceref07_Need _) (Post := fun v W' => v = .int .i64 nd ∧ Fr (fun _ => False) W W') ((HN2.out W).mono fun e w' h => ⟨_, h.1, rfl, h.2⟩) ?_
          rintro v W' ⟨rfl, hf⟩
          exact ⟨_, rfl, hB.trans hf (fun _ h => h.elim), hf, rfl, fun _ _ _ _ _ => trivial⟩
        · simp only [List.getElem?_cons_zero, List.getElem?_cons_succ, Option.some.injEq] at ho
          subst ho
          intro a W vs hB hS hE hU
          refine wpG_plain rfl ?_
          obtain ⟨r1, e55⟩ := hE 1 55 (by kernel_rfl) (by kernel_rfl)
          have v55 : a.eval (.tmp 55) = .int .i64 nd := e55.trans r1
          obtain ⟨r3, e57⟩ := hE 3 57 (by kernel_rfl) (by kernel_rfl)
          have v57 : a.eval (.tmp 57) = .int .i64 nd := e57.trans r3
          clear hE hU
          exact wp_value_inv (w' := W) (.bool true) (op_bin rfl v55 v57 (guard_int W _ _ _ _ _ _ _) (eql_yes)) ⟨_, rfl, hB, Fr.refl _ _, rfl, fun _ _ _ _ _ => trivial⟩
        · simp only [List.getElem?_cons_zero, List.getElem?_cons_succ, Option.some.injEq] at ho
          subst ho
          intro a W vs hB hS hE hU
          refine wpG_plain rfl ?_
          obtain ⟨r4, e58⟩ := hE 4 58 (by kernel_rfl) (by kernel_rfl)
          have v58 : a.eval (.tmp 58) = .bool true := e58.trans r4
          clear hE hU
          exact wp_value_inv (w' := W) (.bool true) (op_move rfl v58) ⟨_, rfl, hB, Fr.refl _ _, rfl, fun _ _ _ _ _ => trivial⟩
        · simp only [List.getElem?_cons_zero, List.getElem?_cons_succ, Option.some.injEq] at ho
          subst ho
          intro a W vs hB hS hE hU
          obtain ⟨r5, e59⟩ := hE 5 59 (by kernel_rfl) (by kernel_rfl)
          have v59 : a.eval (.tmp 59) = .bool true := e59.trans r5
          refine wpG_yes 5 true 59 rfl (by kernel_rfl) (by rw [hS]; first | simp | exact Nat.le_of_ble_eq_true rfl) v59 ?_
          have v3 : a.eval (.tmp 3) = .pointer (some ⟨b3, 0, none⟩) := (hU 3 (by kernel_rfl)).trans rfl
          clear hE hU
          exact wp_value_inv (w' := W) (.agg #[.int .i64 L, .int .i64 A, .int .i64 D]) (op_loadAt rfl v3 (LDS.out W hB)) ⟨_, rfl, hB, Fr.refl _ _, rfl, fun _ _ _ _ _ => trivial⟩
        · simp only [List.getElem?_cons_zero, List.getElem?_cons_succ, Option.some.injEq] at ho
          subst ho
          intro a W vs hB hS hE hU
          obtain ⟨r5, e59⟩ := hE 5 59 (by kernel_rfl) (by kernel_rfl)
          have v59 : a.eval (.tmp 59) = .bool true := e59.trans r5
          refine wpG_yes 5 true 59 rfl (by kernel_rfl) (by rw [hS]; first | simp | exact Nat.le_of_ble_eq_true rfl) v59 ?_
          have v7 : a.eval (.tmp 7) = .slice ai n ci := (hU 7 (by kernel_rfl)).trans rfl
          clear hE hU
          exact wp_value_inv (w' := W) (.slice ai n ci) (op_move rfl v7) ⟨_, rfl, hB, Fr.refl _ _, rfl, fun _ _ _ _ _ => trivial⟩
        · simp only [List.getElem?_cons_zero, List.getElem?_cons_succ, Option.some.injEq] at ho
          subst ho
          intro a W vs hB hS hE hU
          obtain ⟨r5, e59⟩ := hE 5 59 (by kernel_rfl) (by kernel_rfl)
          have v59 : a.eval (.tmp 59) = .bool true := e59.trans r5
          refine wpG_yes 5 true 59 rfl (by kernel_rfl) (by rw [hS]; first | simp | exact Nat.le_of_ble_eq_true rfl) v59 ?_
          obtain ⟨r6, e60⟩ := hE 6 60 (by kernel_rfl) (by kernel_rfl)
          have v60 : a.eval (.tmp 60) = .agg #[.int .i64 L, .int .i64 A, .int .i64 D] := e60.trans r6
          obtain ⟨r7, e61⟩ := hE 7 61 (by kernel_rfl) (by kernel_rfl)
          have v61 : a.eval (.tmp 61) = .slice ai n ci := e61.trans r7
          clear hE hU
          refine wp_call_inv 16 #[.tmp 60, .tmp 61] #[23, 24] rfl #[.agg #[.int .i64 L, .int .i64 A, .int .i64 D], .slice ai n ci] (by simp only [List.map_toArray, List.map_cons, List.map_nil, v60, v61]) (ent_spence_blob_Apart _) (Post := fun v W' => v = .bool ap ∧ Fr (fun _ => False) W W') ((HA1.out W hB).mono fun e w' h => ⟨_, h.1, rfl, h.2⟩) ?_
          rintro v W' ⟨rfl, hf⟩
          exact ⟨_, rfl, hB.trans hf (fun _ h => h.elim), hf, rfl, fun _ _ _ _ _ => trivial⟩
        · simp only [List.getElem?_cons_zero, List.getElem?_cons_succ, Option.some.injEq] at ho
          subst ho
          intro a W vs hB hS hE hU
          obtain ⟨r5, e59⟩ := hE 5 59 (by kernel_rfl) (by kernel_rfl)
          have v59 : a.eval (.tmp 59) = .bool true := e59.trans r5
          refine wpG_yes 5 true 59 rfl (by kernel_rfl) (by rw [hS]; first | simp | exact Nat.le_of_ble_eq_true rfl) v59 ?_
          have v3 : a.eval (.tmp 3) = .pointer (some ⟨b3, 0, none⟩) := (hU 3 (by kernel_rfl)).trans rfl
          clear hE hU
          exact wp_value_inv (w' := W) (.agg #[.int .i64 L, .int .i64 A, .int .i64 D]) (op_loadAt rfl v3 (LDS.out W hB)) ⟨_, rfl, hB, Fr.refl _ _, rfl, fun _ _ _ _ _ => trivial⟩
        · simp only [List.getElem?_cons_zero, List.getElem?_cons_succ, Option.some.injEq] at ho
          subst ho
          intro a W vs hB hS hE hU
          obtain ⟨r5, e59⟩ := hE 5 59 (by kernel_rfl) (by kernel_rfl)
          have v59 : a.eval (.tmp 59) = .bool true := e59.trans r5
          refine wpG_yes 5 true 59 rfl (by kernel_rfl) (by rw [hS]; first | simp | exact Nat.le_of_ble_eq_true rfl) v59 ?_
          have v2 : a.eval (.tmp 2) = .slice ah n ch := (hU 2 (by kernel_rfl)).trans rfl
          clear hE hU
          exact wp_value_inv (w' := W) (.slice ah n ch) (op_move rfl v2) ⟨_, rfl, hB, Fr.refl _ _, rfl, fun _ _ _ _ _ => trivial⟩
        · simp only [List.getElem?_cons_zero, List.getElem?_cons_succ, Option.some.injEq] at ho
          subst ho
          intro a W vs hB hS hE hU
          obtain ⟨r5, e59⟩ := hE 5 59 (by kernel_rfl) (by kernel_rfl)
          have v59 : a.eval (.tmp 59) = .bool true := e59.trans r5
          refine wpG_yes 5 true 59 rfl (by kernel_rfl) (by rw [hS]; first | simp | exact Nat.le_of_ble_eq_true rfl) v59 ?_
          obtain ⟨r9, e63⟩ := hE 9 63 (by kernel_rfl) (by kernel_rfl)
          have v63 : a.eval (.tmp 63) = .agg #[.int .i64 L, .int .i64 A, .int .i64 D] := e63.trans r9
          obtain ⟨r10, e64⟩ := hE 10 64 (by kernel_rfl) (by kernel_rfl)
          have v64 : a.eval (.tmp 64) = .slice ah n ch := e64.trans r10
          clear hE hU
          refine wp_call_inv 17 #[.tmp 63, .tmp 64] #[23, 24] rfl #[.agg #[.int .i64 L, .int .i64 A, .int .i64 D], .slice ah n ch] (by simp only [List.map_toArray, List.map_cons, List.map_nil, v63, v64]) (ent_spence_spenceref07_Apart _) (Post := fun v W' => v = .bool ap ∧ Fr (fun _ => False) W W') ((HA2.out W hB).mono fun e w' h => ⟨_, h.1, rfl, h.2⟩) ?_
          rintro v W' ⟨rfl, hf⟩
          exact ⟨_, rfl, hB.trans hf (fun _ h => h.elim), hf, rfl, fun _ _ _ _ _ => trivial⟩
        · simp only [List.getElem?_cons_zero, List.getElem?_cons_succ, Option.some.injEq] at ho
          subst ho
          intro a W vs hB hS hE hU
          obtain ⟨r5, e59⟩ := hE 5 59 (by kernel_rfl) (by kernel_rfl)
          have v59 : a.eval (.tmp 59) = .bool true := e59.trans r5
          refine wpG_yes 5 true 59 rfl (by kernel_rfl) (by rw [hS]; first | simp | exact Nat.le_of_ble_eq_true rfl) v59 ?_
          obtain ⟨r8, e62⟩ := hE 8 62 (by kernel_rfl) (by kernel_rfl)
          have v62 : a.eval (.tmp 62) = .bool ap := e62.trans r8
          obtain ⟨r11, e65⟩ := hE 11 65 (by kernel_rfl) (by kernel_rfl)
          have v65 : a.eval (.tmp 65) = .bool ap := e65.trans r11
          clear hE hU
          exact wp_value_inv (w' := W) (.bool true) (op_bin rfl v62 v65 (guard_bool W _ _ _ _ _ _) (eql_bool7 W ap)) ⟨_, rfl, hB, Fr.refl _ _, rfl, fun _ _ _ _ _ => trivial⟩
        · simp only [List.getElem?_cons_zero, List.getElem?_cons_succ, Option.some.injEq] at ho
          subst ho
          intro a W vs hB hS hE hU
          refine wpG_plain rfl ?_
          obtain ⟨r5, e59⟩ := hE 5 59 (by kernel_rfl) (by kernel_rfl)
          have v59 : a.eval (.tmp 59) = .bool true := e59.trans r5
          obtain ⟨r12, e66⟩ := hE 12 66 (by kernel_rfl) (by kernel_rfl)
          have v66 : a.eval (.tmp 66) = .bool true := e66.trans r12
          clear hE hU
          exact wp_value_inv (w' := W) (.bool true) (op_pick rfl v59 (by simp only [if_true]; exact v66)) ⟨_, rfl, hB, Fr.refl _ _, rfl, fun _ _ _ _ _ => trivial⟩
        · simp only [List.getElem?_cons_zero, List.getElem?_cons_succ, Option.some.injEq] at ho
          subst ho
          intro a W vs hB hS hE hU
          refine wpG_plain rfl ?_
          obtain ⟨r13, e67⟩ := hE 13 67 (by kernel_rfl) (by kernel_rfl)
          have v67 : a.eval (.tmp 67) = .bool true := e67.trans r13
          clear hE hU
          exact wp_value_inv (w' := W) (.bool true) (op_move rfl v67) ⟨_, rfl, hB, Fr.refl _ _, rfl, fun _ _ _ _ _ => trivial⟩
        · simp only [List.getElem?_cons_zero, List.getElem?_cons_succ, Option.some.injEq] at ho
          subst ho
          intro a W vs hB hS hE hU
          obtain ⟨r14, e68⟩ := hE 14 68 (by kernel_rfl) (by kernel_rfl)
          have v68 : a.eval (.tmp 68) = .bool true := e68.trans r14
          refine wpG_yes 14 true 68 rfl (by kernel_rfl) (by rw [hS]; first | simp | exact Nat.le_of_ble_eq_true rfl) v68 ?_
          have v9 : a.eval (.tmp 9) = .int .i64 cc := (hU 9 (by kernel_rfl)).trans rfl
          clear hE hU
          exact wp_value_inv (w' := W) (.int .i64 cc) (op_move rfl v9) ⟨_, rfl, hB, Fr.refl _ _, rfl, fun _ _ _ _ _ => trivial⟩
        · simp only [List.getElem?_cons_zero, List.getElem?_cons_succ, Option.some.injEq] at ho
          subst ho
          intro a W vs hB hS hE hU
          obtain ⟨r14, e68⟩ := hE 14 68 (by kernel_rfl) (by kernel_rfl)
          have v68 : a.eval (.tmp 68) = .bool true := e68.trans r14
          refine wpG_yes 14 true 68 rfl (by kernel_rfl) (by rw [hS]; first | simp | exact Nat.le_of_ble_eq_true rfl) v68 ?_
          have v11 : a.eval (.tmp 11) = .int .i64 cc := (hU 11 (by kernel_rfl)).trans rfl
          clear hE hU
          exact wp_value_inv (w' := W) (.int .i64 cc) (op_move rfl v11) ⟨_, rfl, hB, Fr.refl _ _, rfl, fun _ _ _ _ _ => trivial⟩
        · simp only [List.getElem?_cons_zero, List.getElem?_cons_succ, Option.some.injEq] at ho
          subst ho
          intro a W vs hB hS hE hU
          obtain ⟨r14, e68⟩ := hE 14 68 (by kernel_rfl) (by kernel_rfl)
          have v68 : a.eval (.tmp 68) = .bool true := e68.trans r14
          refine wpG_yes 14 true 68 rfl (by kernel_rfl) (by rw [hS]; first | simp | exact Nat.le_of_ble_eq_true rfl) v68 ?_
          obtain ⟨r15, e69⟩ := hE 15 69 (by kernel_rfl) (by kernel_rfl)
          have v69 : a.eval (.tmp 69) = .int .i64 cc := e69.trans r15
          obtain ⟨r16, e70⟩ := hE 16 70 (by kernel_rfl) (by kernel_rfl)
          have v70 : a.eval (.tmp 70) = .int .i64 cc := e70.trans r16
          clear hE hU
          exact wp_value_inv (w' := W) (.bool true) (op_bin rfl v69 v70 (guard_int W _ _ _ _ _ _ _) (eql_yes)) ⟨_, rfl, hB, Fr.refl _ _, rfl, fun _ _ _ _ _ => trivial⟩
        · simp only [List.getElem?_cons_zero, List.getElem?_cons_succ, Option.some.injEq] at ho
          subst ho
          intro a W vs hB hS hE hU
          refine wpG_plain rfl ?_
          obtain ⟨r14, e68⟩ := hE 14 68 (by kernel_rfl) (by kernel_rfl)
          have v68 : a.eval (.tmp 68) = .bool true := e68.trans r14
          obtain ⟨r17, e71⟩ := hE 17 71 (by kernel_rfl) (by kernel_rfl)
          have v71 : a.eval (.tmp 71) = .bool true := e71.trans r17
          clear hE hU
          exact wp_value_inv (w' := W) (.bool true) (op_pick rfl v68 (by simp only [if_true]; exact v71)) ⟨_, rfl, hB, Fr.refl _ _, rfl, fun _ _ _ _ _ => trivial⟩
        · simp only [List.getElem?_cons_zero, List.getElem?_cons_succ, Option.some.injEq] at ho
          subst ho
          intro a W vs hB hS hE hU
          refine wpG_plain rfl ?_
          obtain ⟨r18, e72⟩ := hE 18 72 (by kernel_rfl) (by kernel_rfl)
          have v72 : a.eval (.tmp 72) = .bool true := e72.trans r18
          clear hE hU
          exact wp_value_inv (w' := W) (.bool true) (op_move rfl v72) ⟨_, rfl, hB, Fr.refl _ _, rfl, fun _ _ _ _ _ => trivial⟩
        · simp only [List.getElem?_cons_zero, List.getElem?_cons_succ, Option.some.injEq] at ho
          subst ho
          intro a W vs hB hS hE hU
          obtain ⟨r19, e73⟩ := hE 19 73 (by kernel_rfl) (by kernel_rfl)
          have v73 : a.eval (.tmp 73) = .bool true := e73.trans r19
          refine wpG_yes 19 true 73 rfl (by kernel_rfl) (by rw [hS]; first | simp | exact Nat.le_of_ble_eq_true rfl) v73 ?_
          have v8 : a.eval (.tmp 8) = .slice aa na ca := (hU 8 (by kernel_rfl)).trans rfl
          clear hE hU
          exact wp_value_inv (w' := W) (.slice aa na ca) (op_move rfl v8) ⟨_, rfl, hB, Fr.refl _ _, rfl, fun _ _ _ _ _ => trivial⟩
        · simp only [List.getElem?_cons_zero, List.getElem?_cons_succ, Option.some.injEq] at ho
          subst ho
          intro a W vs hB hS hE hU
          obtain ⟨r19, e73⟩ := hE 19 73 (by kernel_rfl) (by kernel_rfl)
          have v73 : a.eval (.tmp 73) = .bool true := e73.trans r19
          refine wpG_yes 19 true 73 rfl (by kernel_rfl) (by rw [hS]; first | simp | exact Nat.le_of_ble_eq_true rfl) v73 ?_
          have v10 : a.eval (.tmp 10) = .slice ab nb cb := (hU 10 (by kernel_rfl)).trans rfl
          clear hE hU
          exact wp_value_inv (w' := W) (.slice ab nb cb) (op_move rfl v10) ⟨_, rfl, hB, Fr.refl _ _, rfl, fun _ _ _ _ _ => trivial⟩
        · simp only [List.getElem?_cons_zero, List.getElem?_cons_succ, Option.some.injEq] at ho
          subst ho
          intro a W vs hB hS hE hU
          obtain ⟨r19, e73⟩ := hE 19 73 (by kernel_rfl) (by kernel_rfl)
          have v73 : a.eval (.tmp 73) = .bool true := e73.trans r19
          refine wpG_yes 19 true 73 rfl (by kernel_rfl) (by rw [hS]; first | simp | exact Nat.le_of_ble_eq_true rfl) v73 ?_
          obtain ⟨r20, e74⟩ := hE 20 74 (by kernel_rfl) (by kernel_rfl)
          have v74 : a.eval (.tmp 74) = .slice aa na ca := e74.trans r20
          obtain ⟨r21, e75⟩ := hE 21 75 (by kernel_rfl) (by kernel_rfl)
          have v75 : a.eval (.tmp 75) = .slice ab nb cb := e75.trans r21
          clear hE hU
          refine wp_call_inv 18 #[.tmp 74, .tmp 75] #[24, 24] rfl #[.slice aa na ca, .slice ab nb cb] (by simp only [List.map_toArray, List.map_cons, List.map_nil, v74, v75]) (ent_spence_spencelaw07_sameRuns _) (Post := fun v W' => v = .bool true ∧ Fr (fun _ => False) W W') ((HS1.out W hB).mono fun e w' h => ⟨_, h.1, rfl, h.2⟩) ?_
          rintro v W' ⟨rfl, hf⟩
          exact ⟨_, rfl, hB.trans hf (fun _ h => h.elim), hf, rfl, fun _ _ _ _ _ => trivial⟩
        · simp only [List.getElem?_cons_zero, List.getElem?_cons_succ, Option.some.injEq] at ho
          subst ho
          intro a W vs hB hS hE hU
          refine wpG_plain rfl ?_
          obtain ⟨r19, e73⟩ := hE 19 73 (by kernel_rfl) (by kernel_rfl)
          have v73 : a.eval (.tmp 73) = .bool true := e73.trans r19
          obtain ⟨r22, e76⟩ := hE 22 76 (by kernel_rfl) (by kernel_rfl)
          have v76 : a.eval (.tmp 76) = .bool true := e76.trans r22
          clear hE hU
          exact wp_value_inv (w' := W) (.bool true) (op_pick rfl v73 (by simp only [if_true]; exact v76)) ⟨_, rfl, hB, Fr.refl _ _, rfl, fun _ _ _ _ _ => trivial⟩
        · simp only [List.getElem?_cons_zero, List.getElem?_cons_succ, Option.some.injEq] at ho
          subst ho
          intro a W vs hB hS hE hU
          refine wpG_plain rfl ?_
          obtain ⟨r23, e77⟩ := hE 23 77 (by kernel_rfl) (by kernel_rfl)
          have v77 : a.eval (.tmp 77) = .bool true := e77.trans r23
          clear hE hU
          exact wp_value_inv (w' := W) (.bool true) (op_move rfl v77) ⟨_, rfl, hB, Fr.refl _ _, rfl, fun _ _ _ _ _ => trivial⟩
        · simp only [List.getElem?_cons_zero, List.getElem?_cons_succ, Option.some.injEq] at ho
          subst ho
          intro a W vs hB hS hE hU
          obtain ⟨r24, e78⟩ := hE 24 78 (by kernel_rfl) (by kernel_rfl)
          have v78 : a.eval (.tmp 78) = .bool true := e78.trans r24
          refine wpG_yes 24 true 78 rfl (by kernel_rfl) (by rw [hS]; first | simp | exact Nat.le_of_ble_eq_true rfl) v78 ?_
          have v13 : a.eval (.tmp 13) = .int .i64 fc := (hU 13 (by kernel_rfl)).trans rfl
          clear hE hU
          exact wp_value_inv (w' := W) (.int .i64 fc) (op_move rfl v13) ⟨_, rfl, hB, Fr.refl _ _, rfl, fun _ _ _ _ _ => trivial⟩
        · simp only [List.getElem?_cons_zero, List.getElem?_cons_succ, Option.some.injEq] at ho
          subst ho
          intro a W vs hB hS hE hU
          obtain ⟨r24, e78⟩ := hE 24 78 (by kernel_rfl) (by kernel_rfl)
          have v78 : a.eval (.tmp 78) = .bool true := e78.trans r24
          refine wpG_yes 24 true 78 rfl (by kernel_rfl) (by rw [hS]; first | simp | exact Nat.le_of_ble_eq_true rfl) v78 ?_
          have v15 : a.eval (.tmp 15) = .int .i64 fc := (hU 15 (by kernel_rfl)).trans rfl
          clear hE hU
          exact wp_value_inv (w' := W) (.int .i64 fc) (op_move rfl v15) ⟨_, rfl, hB, Fr.refl _ _, rfl, fun _ _ _ _ _ => trivial⟩
        · simp only [List.getElem?_cons_zero, List.getElem?_cons_succ, Option.some.injEq] at ho
          subst ho
          intro a W vs hB hS hE hU
          obtain ⟨r24, e78⟩ := hE 24 78 (by kernel_rfl) (by kernel_rfl)
          have v78 : a.eval (.tmp 78) = .bool true := e78.trans r24
          refine wpG_yes 24 true 78 rfl (by kernel_rfl) (by rw [hS]; first | simp | exact Nat.le_of_ble_eq_true rfl) v78 ?_
          obtain ⟨r25, e79⟩ := hE 25 79 (by kernel_rfl) (by kernel_rfl)
          have v79 : a.eval (.tmp 79) = .int .i64 fc := e79.trans r25
          obtain ⟨r26, e80⟩ := hE 26 80 (by kernel_rfl) (by kernel_rfl)
          have v80 : a.eval (.tmp 80) = .int .i64 fc := e80.trans r26
          clear hE hU
          exact wp_value_inv (w' := W) (.bool true) (op_bin rfl v79 v80 (guard_int W _ _ _ _ _ _ _) (eql_yes)) ⟨_, rfl, hB, Fr.refl _ _, rfl, fun _ _ _ _ _ => trivial⟩
        · simp only [List.getElem?_cons_zero, List.getElem?_cons_succ, Option.some.injEq] at ho
          subst ho
          intro a W vs hB hS hE hU
          refine wpG_plain rfl ?_
          obtain ⟨r24, e78⟩ := hE 24 78 (by kernel_rfl) (by kernel_rfl)
          have v78 : a.eval (.tmp 78) = .bool true := e78.trans r24
          obtain ⟨r27, e81⟩ := hE 27 81 (by kernel_rfl) (by kernel_rfl)
          have v81 : a.eval (.tmp 81) = .bool true := e81.trans r27
          clear hE hU
          exact wp_value_inv (w' := W) (.bool true) (op_pick rfl v78 (by simp only [if_true]; exact v81)) ⟨_, rfl, hB, Fr.refl _ _, rfl, fun _ _ _ _ _ => trivial⟩
        · simp only [List.getElem?_cons_zero, List.getElem?_cons_succ, Option.some.injEq] at ho
          subst ho
          intro a W vs hB hS hE hU
          refine wpG_plain rfl ?_
          obtain ⟨r28, e82⟩ := hE 28 82 (by kernel_rfl) (by kernel_rfl)
          have v82 : a.eval (.tmp 82) = .bool true := e82.trans r28
          clear hE hU
          exact wp_value_inv (w' := W) (.bool true) (op_move rfl v82) ⟨_, rfl, hB, Fr.refl _ _, rfl, fun _ _ _ _ _ => trivial⟩
        · simp only [List.getElem?_cons_zero, List.getElem?_cons_succ, Option.some.injEq] at ho
          subst ho
          intro a W vs hB hS hE hU
          obtain ⟨r29, e83⟩ := hE 29 83 (by kernel_rfl) (by kernel_rfl)
          have v83 : a.eval (.tmp 83) = .bool true := e83.trans r29
          refine wpG_yes 29 true 83 rfl (by kernel_rfl) (by rw [hS]; first | simp | exact Nat.le_of_ble_eq_true rfl) v83 ?_
          have v12 : a.eval (.tmp 12) = .int .i64 q := (hU 12 (by kernel_rfl)).trans rfl
          clear hE hU
          exact wp_value_inv (w' := W) (.int .i64 q) (op_move rfl v12) ⟨_, rfl, hB, Fr.refl _ _, rfl, fun _ _ _ _ _ => trivial⟩
        · simp only [List.getElem?_cons_zero, List.getElem?_cons_succ, Option.some.injEq] at ho
          subst ho
          intro a W vs hB hS hE hU
          obtain ⟨r29, e83⟩ := hE 29 83 (by kernel_rfl) (by kernel_rfl)
          have v83 : a.eval (.tmp 83) = .bool true := e83.trans r29
          refine wpG_yes 29 true 83 rfl (by kernel_rfl) (by rw [hS]; first | simp | exact Nat.le_of_ble_eq_true rfl) v83 ?_
          have v14 : a.eval (.tmp 14) = .int .i64 q := (hU 14 (by kernel_rfl)).trans rfl
          clear hE hU
          exact wp_value_inv (w' := W) (.int .i64 q) (op_move rfl v14) ⟨_, rfl, hB, Fr.refl _ _, rfl, fun _ _ _ _ _ => trivial⟩
        · simp only [List.getElem?_cons_zero, List.getElem?_cons_succ, Option.some.injEq] at ho
          subst ho
          intro a W vs hB hS hE hU
          obtain ⟨r29, e83⟩ := hE 29 83 (by kernel_rfl) (by kernel_rfl)
          have v83 : a.eval (.tmp 83) = .bool true := e83.trans r29
          refine wpG_yes 29 true 83 rfl (by kernel_rfl) (by rw [hS]; first | simp | exact Nat.le_of_ble_eq_true rfl) v83 ?_
          obtain ⟨r30, e84⟩ := hE 30 84 (by kernel_rfl) (by kernel_rfl)
          have v84 : a.eval (.tmp 84) = .int .i64 q := e84.trans r30
          obtain ⟨r31, e85⟩ := hE 31 85 (by kernel_rfl) (by kernel_rfl)
          have v85 : a.eval (.tmp 85) = .int .i64 q := e85.trans r31
          clear hE hU
          exact wp_value_inv (w' := W) (.bool true) (op_bin rfl v84 v85 (guard_int W _ _ _ _ _ _ _) (eql_yes)) ⟨_, rfl, hB, Fr.refl _ _, rfl, fun _ _ _ _ _ => trivial⟩
        · simp only [List.getElem?_cons_zero, List.getElem?_cons_succ, Option.some.injEq] at ho
          subst ho
          intro a W vs hB hS hE hU
          refine wpG_plain rfl ?_
          obtain ⟨r29, e83⟩ := hE 29 83 (by kernel_rfl) (by kernel_rfl)
          have v83 : a.eval (.tmp 83) = .bool true := e83.trans r29
          obtain ⟨r32, e86⟩ := hE 32 86 (by kernel_rfl) (by kernel_rfl)
          have v86 : a.eval (.tmp 86) = .bool true := e86.trans r32
          clear hE hU
          exact wp_value_inv (w' := W) (.bool true) (op_pick rfl v83 (by simp only [if_true]; exact v86)) ⟨_, rfl, hB, Fr.refl _ _, rfl, fun _ _ _ _ _ => trivial⟩
        · simp only [List.getElem?_cons_zero, List.getElem?_cons_succ, Option.some.injEq] at ho
          subst ho
          intro a W vs hB hS hE hU
          refine wpG_plain rfl ?_
          obtain ⟨r33, e87⟩ := hE 33 87 (by kernel_rfl) (by kernel_rfl)
          have v87 : a.eval (.tmp 87) = .bool true := e87.trans r33
          clear hE hU
          exact wp_value_inv (w' := W) (.bool true) (op_move rfl v87) ⟨_, rfl, hB, Fr.refl _ _, rfl, fun _ _ _ _ _ => trivial⟩
        · simp only [List.getElem?_cons_zero, List.getElem?_cons_succ, Option.some.injEq] at ho
          subst ho
          intro a W vs hB hS hE hU
          obtain ⟨r34, e88⟩ := hE 34 88 (by kernel_rfl) (by kernel_rfl)
          have v88 : a.eval (.tmp 88) = .bool true := e88.trans r34
          refine wpG_yes 34 true 88 rfl (by kernel_rfl) (by rw [hS]; first | simp | exact Nat.le_of_ble_eq_true rfl) v88 ?_
          have v7 : a.eval (.tmp 7) = .slice ai n ci := (hU 7 (by kernel_rfl)).trans rfl
          clear hE hU
          exact wp_value_inv (w' := W) (.slice ai n ci) (op_move rfl v7) ⟨_, rfl, hB, Fr.refl _ _, rfl, fun _ _ _ _ _ => trivial⟩
        · simp only [List.getElem?_cons_zero, List.getElem?_cons_succ, Option.some.injEq] at ho
          subst ho
          intro a W vs hB hS hE hU
          obtain ⟨r34, e88⟩ := hE 34 88 (by kernel_rfl) (by kernel_rfl)
          have v88 : a.eval (.tmp 88) = .bool true := e88.trans r34
          refine wpG_yes 34 true 88 rfl (by kernel_rfl) (by rw [hS]; first | simp | exact Nat.le_of_ble_eq_true rfl) v88 ?_
          have v2 : a.eval (.tmp 2) = .slice ah n ch := (hU 2 (by kernel_rfl)).trans rfl
          clear hE hU
          exact wp_value_inv (w' := W) (.slice ah n ch) (op_move rfl v2) ⟨_, rfl, hB, Fr.refl _ _, rfl, fun _ _ _ _ _ => trivial⟩
        · simp only [List.getElem?_cons_zero, List.getElem?_cons_succ, Option.some.injEq] at ho
          subst ho
          intro a W vs hB hS hE hU
          obtain ⟨r34, e88⟩ := hE 34 88 (by kernel_rfl) (by kernel_rfl)
          have v88 : a.eval (.tmp 88) = .bool true := e88.trans r34
          refine wpG_yes 34 true 88 rfl (by kernel_rfl) (by rw [hS]; first | simp | exact Nat.le_of_ble_eq_true rfl) v88 ?_
          obtain ⟨r35, e89⟩ := hE 35 89 (by kernel_rfl) (by kernel_rfl)
          have v89 : a.eval (.tmp 89) = .slice ai n ci := e89.trans r35
          obtain ⟨r36, e90⟩ := hE 36 90 (by kernel_rfl) (by kernel_rfl)
          have v90 : a.eval (.tmp 90) = .slice ah n ch := e90.trans r36
          clear hE hU
          refine wp_call_inv 18 #[.tmp 89, .tmp 90] #[24, 24] rfl #[.slice ai n ci, .slice ah n ch] (by simp only [List.map_toArray, List.map_cons, List.map_nil, v89, v90]) (ent_spence_spencelaw07_sameRuns _) (Post := fun v W' => v = .bool true ∧ Fr (fun _ => False) W W') ((HS2.out W hB).mono fun e w' h => ⟨_, h.1, rfl, h.2⟩) ?_
          rintro v W' ⟨rfl, hf⟩
          exact ⟨_, rfl, hB.trans hf (fun _ h => h.elim), hf, rfl, fun _ _ _ _ _ => trivial⟩
        · simp only [List.getElem?_cons_zero, List.getElem?_cons_succ, Option.some.injEq] at ho
          subst ho
          intro a W vs hB hS hE hU
          refine wpG_plain rfl ?_
          obtain ⟨r34, e88⟩ := hE 34 88 (by kernel_rfl) (by kernel_rfl)
          have v88 : a.eval (.tmp 88) = .bool true := e88.trans r34
          obtain ⟨r37, e91⟩ := hE 37 91 (by kernel_rfl) (by kernel_rfl)
          have v91 : a.eval (.tmp 91) = .bool true := e91.trans r37
          clear hE hU
          exact wp_value_inv (w' := W) (.bool true) (op_pick rfl v88 (by simp only [if_true]; exact v91)) ⟨_, rfl, hB, Fr.refl _ _, rfl, fun _ _ _ _ _ => trivial⟩
        · simp only [List.getElem?_cons_zero, List.getElem?_cons_succ, Option.some.injEq] at ho
          subst ho
          intro a W vs hB hS hE hU
          refine wpG_plain rfl ?_
          obtain ⟨r38, e92⟩ := hE 38 92 (by kernel_rfl) (by kernel_rfl)
          have v92 : a.eval (.tmp 92) = .bool true := e92.trans r38
          clear hE hU
          exact wp_value_inv (w' := W) (.bool true) (op_move rfl v92) ⟨_, rfl, hB, Fr.refl _ _, rfl, fun _ _ _ _ _ => trivial⟩
        · simp only [List.getElem?_cons_zero, List.getElem?_cons_succ, Option.some.injEq] at ho
          subst ho
          intro a W vs hB hS hE hU
          obtain ⟨r39, e93⟩ := hE 39 93 (by kernel_rfl) (by kernel_rfl)
          have v93 : a.eval (.tmp 93) = .bool true := e93.trans r39
          refine wpG_yes 39 true 93 rfl (by kernel_rfl) (by rw [hS]; first | simp | exact Nat.le_of_ble_eq_true rfl) v93 ?_
          clear hE hU
          refine wp_call_inv 9 #[] #[] rfl #[] (by simp only [List.map_toArray, List.map_nil]) (ent_spence_spencelaw07_awake _) (Post := fun v W' => v = .bool true ∧ Fr (fun _ => False) W W') ((HAW.out W).mono fun e w' h => ⟨_, h.1, rfl, h.2⟩) ?_
          rintro v W' ⟨rfl, hf⟩
          exact ⟨_, rfl, hB.trans hf (fun _ h => h.elim), hf, rfl, fun _ _ _ _ _ => trivial⟩
        · simp only [List.getElem?_cons_zero, List.getElem?_cons_succ, Option.some.injEq] at ho
          subst ho
          intro a W vs hB hS hE hU
          refine wpG_plain rfl ?_
          obtain ⟨r39, e93⟩ := hE 39 93 (by kernel_rfl) (by kernel_rfl)
          have v93 : a.eval (.tmp 93) = .bool true := e93.trans r39
          obtain ⟨r40, e94⟩ := hE 40 94 (by kernel_rfl) (by kernel_rfl)
          have v94 : a.eval (.tmp 94) = .bool true := e94.trans r40
          clear hE hU
          exact wp_value_inv (w' := W) (.bool true) (op_pick rfl v93 (by simp only [if_true]; exact v94)) ⟨_, rfl, hB, Fr.refl _ _, rfl, fun _ _ _ _ _ => trivial⟩
        · simp only [List.getElem?_cons_zero, List.getElem?_cons_succ, Option.some.injEq] at ho
          subst ho
          intro a W vs hB hS hE hU
          refine wpG_plain rfl ?_
          obtain ⟨r41, e95⟩ := hE 41 95 (by kernel_rfl) (by kernel_rfl)
          have v95 : a.eval (.tmp 95) = .bool true := e95.trans r41
          clear hE hU
          exact wp_value_inv (w' := W) (.bool true) (op_assign rfl v95) ⟨_, rfl, hB, Fr.refl _ _, rfl, fun _ _ _ _ _ => trivial⟩
      · intro vs Wa hB0 hR0 hD
        have r6 : vs 42 = .bool true := hR0 42 (by decide)
        have HB := Lib.hid hB0
        clear hR0 hD hB0
        simp only [acts, if_true, dstAt, List.getElem?_cons_zero, List.getElem?_cons_succ, Option.bind_some, Act.put, List.setIfInBounds_toArray, List.set_cons_succ, List.set_cons_zero, List.drop_succ_cons, List.drop_nil]
        simp only [r6]
        clear r6
        go_wp2
        go_ret
        exact ⟨rfl, (HX.out.1.trans H8.out (fun _ h => h.elim)).trans HB.out (fun _ h => h.elim)⟩
end Go.Proofs.Ytcbbcihfooaggaa
