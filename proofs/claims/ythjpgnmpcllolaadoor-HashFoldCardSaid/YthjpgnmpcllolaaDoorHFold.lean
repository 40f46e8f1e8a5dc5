/- HashFold's walk. -/
import Derived.Test.YthjpgnmpcllolaaDoorFold
import Derived.Test.YthjpgnmpcllolaaDoorInv
import Derived.StillTailTactics
namespace Go.Proofs.YthjpgnmpcllolaaDoor
open Go.RowKit Go.ChangeShapes
set_option linter.unusedVariables false

/-- a xor b, of the first k; noughts behind. -/
def xorK (A Bb : List UInt8) (k : Nat) : List UInt8 := (List.range 32).map fun j => if j < k then A.getD j 0 ^^^ Bb.getD j 0 else 0
theorem xorK_length (A Bb : List UInt8) (k : Nat) : (xorK A Bb k).length = 32 := by simp [xorK]
theorem xorK_zero (A Bb : List UInt8) : xorK A Bb 0 = List.replicate 32 0 := by
  apply List.ext_getElem
  · simp [xorK]
  · intro j h1 h2
    rw [List.getElem_replicate]
    simp [xorK]
theorem xorK_set (A Bb : List UInt8) (k : Nat) (hk : k < 32) : (xorK A Bb k).set k (A.getD k 0 ^^^ Bb.getD k 0) = xorK A Bb (k + 1) := by
  apply List.ext_getElem
  · simp [xorK]
  · intro j h1 h2
    rw [List.getElem_set]
    by_cases e : k = j
    · subst e
      simp [xorK]
    · rw [if_neg e]
      simp only [xorK, List.getElem_map, List.getElem_range]
      by_cases h : j < k
      · rw [if_pos h, if_pos (by omega)]
      · rw [if_neg h, if_neg (by omega)]

theorem xorK_get (A Bb : List UInt8) (j : Nat) (hj : j < 32) : (xorK A Bb 32).getD j 0 = A.getD j 0 ^^^ Bb.getD j 0 := by
  rw [List.getD_eq_getElem?_getD, List.getElem?_eq_getElem (by rw [xorK_length]; exact hj)]
  simp [xorK, hj]
theorem u8_assoc (a b c d : UInt8) : (a ^^^ b) ^^^ (c ^^^ d) = (a ^^^ c) ^^^ (b ^^^ d) := by
  rw [UInt8.xor_assoc, UInt8.xor_assoc, ← UInt8.xor_assoc b, UInt8.xor_comm b c, UInt8.xor_assoc]
theorem fold_xor (A Bb : List UInt8) (j : Nat) (hj : j < 20) : (foldL A).getD j 0 ^^^ (foldL Bb).getD j 0 = (foldL (xorK A Bb 32)).getD j 0 := by
  unfold foldL
  rw [fl_get _ _ _ hj, fl_get _ _ _ hj, fl_get _ _ _ hj]
  unfold fbyte
  have h1 : j < 32 := by omega
  by_cases h : j + 20 < 32
  · simp only [if_pos h1, if_pos h]
    rw [xorK_get _ _ _ h1, xorK_get _ _ _ h, u8_assoc]
  · simp only [if_pos h1, if_neg h]
    rw [xorK_get _ _ _ h1, u8_assoc]
    simp
theorem one_get (q j : Nat) (x : UInt8) (hq : q < 32) : ((List.replicate 32 (0 : UInt8)).set q x).getD j 0 = if j = q then x else 0 := by
  rw [List.getD_eq_getElem?_getD, List.getElem?_set]
  by_cases h : q = j
  · subst h
    rw [if_pos rfl, if_pos (by simpa using hq), if_pos rfl]
    rfl
  · rw [if_neg h, if_neg (Ne.symm h), List.getElem?_replicate]
    by_cases hj : j < 32
    · rw [if_pos hj]; rfl
    · rw [if_neg hj]; rfl
theorem fold_one (q j : Nat) (x : UInt8) (hq : q < 32) (hj : j < 20) : (foldL ((List.replicate 32 0).set q x)).getD j 0 = if j = q % 20 then x else 0 := by
  unfold foldL
  rw [fl_get _ _ _ hj]
  unfold fbyte
  have h1 : j < 32 := by omega
  rw [if_pos h1, one_get _ _ _ hq, one_get _ _ _ hq]
  by_cases h2 : j = q
  · have h3 : ¬ j + 20 = q := by omega
    have h4 : j = q % 20 := by omega
    rw [if_pos h2, if_pos h4, if_neg h3]
    split <;> simp
  · by_cases h3 : j + 20 = q
    · have h4 : j = q % 20 := by omega
      have h5 : j + 20 < 32 := by omega
      rw [if_neg h2, if_pos h3, if_pos h4, if_pos h5]
      simp
    · have h4 : ¬ j = q % 20 := by omega
      rw [if_neg h2, if_neg h3, if_neg h4]
      split <;> simp

/-- The four rows of HashFold. -/
structure HfAt (w wr : World) (p : Nat) (A Bb C O : List UInt8) : Prop where
  fr : Fr (fun _ => False) w wr
  a : BytT wr w.heap.size 26 A
  b : BytT wr (w.heap.size + 1) 26 Bb
  c : BytT wr p 26 C
  o : BytT wr (p + 1) 26 O
  lt : w.heap.size + 2 ≤ p

/-- What the operations of the drawn region come to. -/
def HfR (p : Nat) (A Bb C O : List UInt8) (i : Nat) (v : Value) (W : World) : Prop :=
  match i with
  | 0 => v = .agg (A.map bv).toArray
  | 1 => v = .agg ((foldL A).map bv).toArray
  | 2 => v = .agg (Bb.map bv).toArray
  | 3 => v = .agg ((foldL Bb).map bv).toArray
  | 4 => v = .agg (C.map bv).toArray
  | 5 => v = .agg ((foldL C).map bv).toArray
  | 6 => v = .agg (O.map bv).toArray
  | 7 => v = .agg ((foldL O).map bv).toArray
  | _ => ∃ g, v = .pointer (some ⟨g, 0, none⟩) ∧ p + 2 ≤ g ∧ BytT W g 33 (List.replicate 20 0)
def HfD (i j : Nat) (v u : Value) : Prop := 8 ≤ i → 8 ≤ j → ∀ g h, v = .pointer (some ⟨g, 0, none⟩) → u = .pointer (some ⟨h, 0, none⟩) → g ≠ h
theorem HfR.ext {p : Nat} {A Bb C O : List UInt8} (j : Nat) (u : Value) (W W' : World) (h : Fr (fun _ => False) W W') (hr : HfR p A Bb C O j u W) : HfR p A Bb C O j u W' := by
  unfold HfR at hr ⊢
  split <;> simp_all
  obtain ⟨g, h1, h2, h3⟩ := hr
  exact ⟨g, h1, h2, h3.keep h (fun h => h)⟩
theorem HfR.lt {p : Nat} {A Bb C O : List UInt8} {j : Nat} {u : Value} {W : World} {h : Nat} (h8 : 8 ≤ j) (hr : HfR p A Bb C O j u W) (hh : u = .pointer (some ⟨h, 0, none⟩)) : h < W.heap.size := by
  unfold HfR at hr
  split at hr
  all_goals first
    | omega
    | (obtain ⟨g, h1, _, h3⟩ := hr
       rw [h1] at hh
       cases hh
       exact h3.lt)
theorem HfAt.ext {w W W' : World} {p : Nat} {A Bb C O : List UInt8} (h : HfAt w W p A Bb C O) (hf : Fr (fun _ => False) W W') : HfAt w W' p A Bb C O :=
  ⟨h.fr.trans hf (fun _ h => h.elim), h.a.keep hf (fun h => h), h.b.keep hf (fun h => h), h.c.keep hf (fun h => h), h.o.keep hf (fun h => h), h.lt⟩
theorem fold_enter (args : Array Value) (w : World) : (callFunc 14 args).run Tryd.prog w = .ok (.enter 14 args) w := by rfl

set_option maxRecDepth 100000 in
set_option maxHeartbeats 2000000 in
theorem hfold_any (w : World) (hL : Laid w) (A Bb : List UInt8) (hA : A.length = 32) (hB0 : Bb.length = 32) (at_ : Int) (x : UInt8) (h1 : -9223372036854775808 ≤ at_) (h2 : at_ ≤ 9223372036854775807) :
    Calls Tryd.prog 7 #[.agg (A.map bv).toArray, .agg (Bb.map bv).toArray, .int .i64 at_, .int .u8 x.toNat] w fun e w' => e = .returned (.bool true) ∧ Fr (fun _ => False) w w' := by
  have HL := Lib.hid hL
  obtain ⟨CA, hCA⟩ : ∃ C, C = (A.map bv).toArray := ⟨_, rfl⟩
  obtain ⟨CB, hCB⟩ : ∃ C, C = (Bb.map bv).toArray := ⟨_, rfl⟩
  rw [← hCA, ← hCB]
  have HC := Lib.hid (And.intro hCA hCB)
  clear hL hCA hCB
  go_enter Tryd.func7, Tryd.ntmps7
  go_wp2_with fail
  obtain ⟨w0, hw0⟩ : ∃ w0, w0 = (w.alloc (.cells CA 26)).alloc (.cells CB 26) := ⟨_, rfl⟩
  have hfr0 : Fr (fun _ => False) w w0 := by rw [hw0]; exact ((Fr.refl _ w).alloc _).alloc _
  have ha0 : BytT w0 w.heap.size 26 A := by rw [hw0, HC.out.1]; exact heap_alloc2_old w _ _
  have hb0 : BytT w0 (w.heap.size + 1) 26 Bb := by rw [hw0, HC.out.2]; exact heap_alloc2_new w _ _
  rw [← hw0]
  clear hw0
  refine (awake_any w0 (HL.out.keep hfr0 (fun _ _ h => h))).mono ?_
  rintro e w1 ⟨rfl, hf1⟩
  have H1 := Lib.hid (And.intro (hfr0.trans hf1 (fun _ h => h.elim)) (And.intro (ha0.keep hf1 (fun h => h)) (hb0.keep hf1 (fun h => h))))
  clear hfr0 ha0 hb0 hf1
  go_wp2_with fail
  obtain ⟨p, hp⟩ : ∃ p, p = w1.heap.size := ⟨_, rfl⟩
  have hpl : w.heap.size + 2 ≤ p := by have := H1.out.2.2.lt; omega
  have hzero : ∀ (X : World), (X.alloc (.cells ((List.replicate 32 (0 : UInt8)).map bv).toArray 26)).heap[X.heap.size]? = some (.cells ((List.replicate 32 (0 : UInt8)).map bv).toArray 26 (0, 0)) := fun X => heap_alloc_new X _
  have HP := Lib.hid hp
  rw [← hp]
  clear hp hzero
  go_loopw [11] (fun iv wr => ∃ k : Nat, k ≤ 32 ∧ iv = .int .i64 k ∧ Hid (HfAt w wr p A Bb (xorK A Bb k) (List.replicate 32 0))) (fun iv _ => 32 - (intOf iv).toNat)
  case atStart =>
    rw [HP.out]
    refine ⟨0, by omega, rfl, Lib.hid ⟨(H1.out.1.alloc _).alloc _, ?_, ?_, ?_, ?_, by have := HP.out; omega⟩⟩
    · exact H1.out.2.1.keep (S := fun _ => False) (((Fr.refl _ _).alloc _).alloc _) (fun h => h)
    · exact H1.out.2.2.keep (S := fun _ => False) (((Fr.refl _ _).alloc _).alloc _) (fun h => h)
    · rw [xorK_zero]; exact heap_alloc2_old w1 _ _
    · exact heap_alloc2_new w1 _ _
  case round =>
    obtain ⟨k, hk, rfl, hR⟩ := hrel
    clear H1
    by_cases hlt : k < 32
    · have ca := hR.out.a.cell k (by omega)
      have cb := hR.out.b.cell k (by omega)
      have cc := hR.out.c.cell k (by rw [xorK_length]; exact hlt)
      have fc := hR.out.c.free k
      have ex := u8_xor_nat (A.getD k 0).toNat (Bb.getD k 0).toNat (A.getD k 0).toNat_lt (Bb.getD k 0).toNat_lt
      have HS := Lib.hid (show ∀ W : World, W.heap[p]? = wr.heap[p]? → BytT (W.setCell ⟨p, k, none⟩ (.int .u8 (((A.getD k 0).toNat ^^^ (Bb.getD k 0).toNat : Nat) : Int))) p 26 (xorK A Bb (k + 1)) from fun W hW => by
        rw [← xorK_set A Bb k hlt]
        have hc : BytT W p 26 (xorK A Bb k) := hW.trans hR.out.c
        exact hc.set_ k _ _ (by rw [UInt8.toNat_xor]))
      generalize (A.getD k 0).toNat = x1 at *
      generalize (Bb.getD k 0).toNat = y1 at *
      generalize ((xorK A Bb k).getD k 0).toNat = z1 at *
      have bk : (k : Int) < 32 := by omega
      have dk : (0 : Int) ≤ (k : Int) := by omega
      go_wp2_with fail
      go_still_tail 9, (by kernel_rfl)
      go_wp2
      go_roundw
      case rel =>
        have hne : ∀ j, j = w.heap.size ∨ j = w.heap.size + 1 ∨ j = p + 1 → ¬ j = p := fun j h => by omega
        have hfr : ∀ v, Fr (fun j => j = p) wr (wr.drew.setCell ⟨p, k, none⟩ v) := fun v => (Fr.refl (fun j => j = p) wr).drew.setCell (p := ⟨p, k, none⟩) (.inl rfl) v
        exact ⟨k + 1, by omega, by go_num, Lib.hid ⟨hR.out.fr.drew.setCell (.inr (by simp; omega)) _, hR.out.a.keep (hfr _) (hne _ (.inl rfl)), hR.out.b.keep (hfr _) (hne _ (.inr (.inl rfl))), HS.out wr.drew rfl, hR.out.o.keep (hfr _) (hne _ (.inr (.inr rfl))), hpl⟩⟩
      case measure => simp [intOf]; omega
    · obtain rfl : k = 32 := by omega
      obtain ⟨q, hq⟩ : ∃ q : Nat, at_ % 32 = (q : Int) := ⟨(at_ % 32).toNat, by omega⟩
      have hq32 : q < 32 := by omega
      have HQ := Lib.hid hq
      have HPK := Lib.hid (pick_any at_ 32 wr (by omega) (by omega) h1 h2)
      rw [hq] at HPK
      have co := hR.out.o.cell q (by simp; omega)
      have fo := hR.out.o.free q
      have hs2 : Hid (∀ v : Int, v = x.toNat → HfAt w (wr.setCell ⟨p + 1, q, none⟩ (.int .u8 v)) p A Bb (xorK A Bb 32) ((List.replicate 32 0).set q x)) := Lib.hid fun v hv => by
        have hfr : Fr (fun j => j = p + 1) wr (wr.setCell ⟨p + 1, q, none⟩ (.int .u8 v)) := (Fr.refl (fun j => j = p + 1) wr).setCell (p := ⟨p + 1, q, none⟩) (.inl rfl) _
        exact ⟨hR.out.fr.setCell (.inr (by simp; omega)) _, hR.out.a.keep hfr (by omega), hR.out.b.keep hfr (by omega), hR.out.c.keep hfr (by omega), hR.out.o.set_ q _ _ hv, hpl⟩
      generalize (((List.replicate 32 (0 : UInt8)).getD q 0).toNat) = z at co
      clear hq hR
      go_wp2_with (go_at_call 20; refine HPK.out.mono ?_; rintro e w' ⟨rfl, rfl⟩)
      have hH := hs2.out _ rfl
      generalize wr.setCell ⟨p + 1, q, none⟩ (.int .u8 x.toNat) = W2 at hH ⊢
      have HFX := Lib.hid (fun j (hj : j < 20) => fold_xor A Bb j hj)
      have HFO := Lib.hid (fun j (hj : j < 20) => fold_one q j x hq32 hj)
      clear hs2 HPK co fo
      have hCl := xorK_length A Bb 32
      generalize xorK A Bb 32 = C at hH hCl HFX
      have hOl : ((List.replicate 32 (0 : UInt8)).set q x).length = 32 := by simp
      generalize (List.replicate 32 (0 : UInt8)).set q x = O at hH hOl HFO
      have HLS := Lib.hid (And.intro hA (And.intro hB0 (And.intro hCl hOl)))
      refine wp_region_inv 12 (by kernel_rfl) (by kernel_rfl) (fun W => HfAt w W p A Bb C O) (HfR p A Bb C O) HfD (Fr (fun _ => False)) HfR.ext (hH.ext (Fr.refl _ _).drew) ?_ ?_
      · intro i hi o ho
        obtain rfl | rfl | rfl | rfl | rfl | rfl | rfl | rfl | rfl | rfl | rfl | rfl : i = 0 ∨ i = 1 ∨ i = 2 ∨ i = 3 ∨ i = 4 ∨ i = 5 ∨ i = 6 ∨ i = 7 ∨ i = 8 ∨ i = 9 ∨ i = 10 ∨ i = 11 := by omega
        · simp only [List.getElem?_cons_zero, Option.some.injEq] at ho
          subst ho
          intro a W vs hB hE hU
          have e := hU 4 (by kernel_rfl)
          clear hE hU
          exact wp_load_row 26 (.tmp 4) rfl w.heap.size (e.trans rfl) 26 (A.map bv).toArray (0, 0) _ hB.a Tryd.underlying26 rfl (by rw [List.size_toArray, List.length_map, hA]; kernel_rfl) ⟨_, rfl, hB, Fr.refl _ _, rfl, fun j u _ _ _ h8 => absurd h8 (by decide)⟩
        · simp only [List.getElem?_cons_zero, List.getElem?_cons_succ, Option.some.injEq] at ho
          subst ho
          intro a W vs hB hE hU
          obtain ⟨hr, e⟩ := hE 0 39 (by kernel_rfl) (by kernel_rfl)
          have hr' : vs 0 = .agg (A.map bv).toArray := hr
          clear hE hU hr
          refine wp_call_inv 14 #[.tmp 39] #[27] rfl #[.agg (A.map bv).toArray] (by simp only [List.map_toArray, List.map_cons, List.map_nil, e, hr']) (fold_enter _) (Post := fun v W' => v = .agg ((foldL A).map bv).toArray ∧ Fr (fun _ => False) W W') ((fold_any W A hA).mono fun e w' h => ⟨_, h.1, rfl, h.2⟩) ?_
          rintro v W' ⟨rfl, hf⟩
          exact ⟨_, rfl, hB.ext hf, hf, rfl, fun j u _ _ _ h8 => absurd h8 (by decide)⟩
        · simp only [List.getElem?_cons_zero, List.getElem?_cons_succ, Option.some.injEq] at ho
          subst ho
          intro a W vs hB hE hU
          have e := hU 5 (by kernel_rfl)
          clear hE hU
          exact wp_load_row 26 (.tmp 5) rfl (w.heap.size + 1) (e.trans rfl) 26 (Bb.map bv).toArray (0, 0) _ hB.b Tryd.underlying26 rfl (by rw [List.size_toArray, List.length_map, hB0]; kernel_rfl) ⟨_, rfl, hB, Fr.refl _ _, rfl, fun j u _ _ _ h8 => absurd h8 (by decide)⟩
        · simp only [List.getElem?_cons_zero, List.getElem?_cons_succ, Option.some.injEq] at ho
          subst ho
          intro a W vs hB hE hU
          obtain ⟨hr, e⟩ := hE 2 41 (by kernel_rfl) (by kernel_rfl)
          have hr' : vs 2 = .agg (Bb.map bv).toArray := hr
          clear hE hU hr
          refine wp_call_inv 14 #[.tmp 41] #[27] rfl #[.agg (Bb.map bv).toArray] (by simp only [List.map_toArray, List.map_cons, List.map_nil, e, hr']) (fold_enter _) (Post := fun v W' => v = .agg ((foldL Bb).map bv).toArray ∧ Fr (fun _ => False) W W') ((fold_any W Bb hB0).mono fun e w' h => ⟨_, h.1, rfl, h.2⟩) ?_
          rintro v W' ⟨rfl, hf⟩
          exact ⟨_, rfl, hB.ext hf, hf, rfl, fun j u _ _ _ h8 => absurd h8 (by decide)⟩
        · simp only [List.getElem?_cons_zero, List.getElem?_cons_succ, Option.some.injEq] at ho
          subst ho
          intro a W vs hB hE hU
          have e := hU 9 (by kernel_rfl)
          clear hE hU
          exact wp_load_row 26 (.tmp 9) rfl p (e.trans rfl) 26 (C.map bv).toArray (0, 0) _ hB.c Tryd.underlying26 rfl (by rw [List.size_toArray, List.length_map, hCl]; kernel_rfl) ⟨_, rfl, hB, Fr.refl _ _, rfl, fun j u _ _ _ h8 => absurd h8 (by decide)⟩
        · simp only [List.getElem?_cons_zero, List.getElem?_cons_succ, Option.some.injEq] at ho
          subst ho
          intro a W vs hB hE hU
          obtain ⟨hr, e⟩ := hE 4 43 (by kernel_rfl) (by kernel_rfl)
          have hr' : vs 4 = .agg (C.map bv).toArray := hr
          clear hE hU hr
          refine wp_call_inv 14 #[.tmp 43] #[27] rfl #[.agg (C.map bv).toArray] (by simp only [List.map_toArray, List.map_cons, List.map_nil, e, hr']) (fold_enter _) (Post := fun v W' => v = .agg ((foldL C).map bv).toArray ∧ Fr (fun _ => False) W W') ((fold_any W C hCl).mono fun e w' h => ⟨_, h.1, rfl, h.2⟩) ?_
          rintro v W' ⟨rfl, hf⟩
          exact ⟨_, rfl, hB.ext hf, hf, rfl, fun j u _ _ _ h8 => absurd h8 (by decide)⟩
        · simp only [List.getElem?_cons_zero, List.getElem?_cons_succ, Option.some.injEq] at ho
          subst ho
          intro a W vs hB hE hU
          have e := hU 10 (by kernel_rfl)
          clear hE hU
          exact wp_load_row 26 (.tmp 10) rfl (p + 1) (e.trans rfl) 26 (O.map bv).toArray (0, 0) _ hB.o Tryd.underlying26 rfl (by rw [List.size_toArray, List.length_map, hOl]; kernel_rfl) ⟨_, rfl, hB, Fr.refl _ _, rfl, fun j u _ _ _ h8 => absurd h8 (by decide)⟩
        · simp only [List.getElem?_cons_zero, List.getElem?_cons_succ, Option.some.injEq] at ho
          subst ho
          intro a W vs hB hE hU
          obtain ⟨hr, e⟩ := hE 6 45 (by kernel_rfl) (by kernel_rfl)
          have hr' : vs 6 = .agg (O.map bv).toArray := hr
          clear hE hU hr
          refine wp_call_inv 14 #[.tmp 45] #[27] rfl #[.agg (O.map bv).toArray] (by simp only [List.map_toArray, List.map_cons, List.map_nil, e, hr']) (fold_enter _) (Post := fun v W' => v = .agg ((foldL O).map bv).toArray ∧ Fr (fun _ => False) W W') ((fold_any W O hOl).mono fun e w' h => ⟨_, h.1, rfl, h.2⟩) ?_
          rintro v W' ⟨rfl, hf⟩
          exact ⟨_, rfl, hB.ext hf, hf, rfl, fun j u _ _ _ h8 => absurd h8 (by decide)⟩
        · simp only [List.getElem?_cons_zero, List.getElem?_cons_succ, Option.some.injEq] at ho
          subst ho
          intro a W vs hB hE hU
          clear hE hU
          refine wp_value_inv (w' := W.alloc (.cells ((List.replicate 20 (0 : UInt8)).map bv).toArray 33)) (.pointer (some ⟨W.heap.size, 0, none⟩)) (by rfl) ?_
          have hf : Fr (fun _ => False) W (W.alloc (.cells ((List.replicate 20 (0 : UInt8)).map bv).toArray 33)) := (Fr.refl _ _).alloc _
          refine ⟨_, rfl, hB.ext hf, hf, ⟨W.heap.size, rfl, by have := hB.o.lt; omega, heap_alloc_new _ _⟩, fun j u hj hji hr _ h8 g h hg hh => ?_⟩
          cases hg
          rintro rfl
          exact absurd (HfR.lt h8 hr hh) (by omega)
        · simp only [List.getElem?_cons_zero, List.getElem?_cons_succ, Option.some.injEq] at ho
          subst ho
          intro a W vs hB hE hU
          clear hE hU
          refine wp_value_inv (w' := W.alloc (.cells ((List.replicate 20 (0 : UInt8)).map bv).toArray 33)) (.pointer (some ⟨W.heap.size, 0, none⟩)) (by rfl) ?_
          have hf : Fr (fun _ => False) W (W.alloc (.cells ((List.replicate 20 (0 : UInt8)).map bv).toArray 33)) := (Fr.refl _ _).alloc _
          refine ⟨_, rfl, hB.ext hf, hf, ⟨W.heap.size, rfl, by have := hB.o.lt; omega, heap_alloc_new _ _⟩, fun j u hj hji hr _ h8 g h hg hh => ?_⟩
          cases hg
          rintro rfl
          exact absurd (HfR.lt h8 hr hh) (by omega)
        · simp only [List.getElem?_cons_zero, List.getElem?_cons_succ, Option.some.injEq] at ho
          subst ho
          intro a W vs hB hE hU
          clear hE hU
          refine wp_value_inv (w' := W.alloc (.cells ((List.replicate 20 (0 : UInt8)).map bv).toArray 33)) (.pointer (some ⟨W.heap.size, 0, none⟩)) (by rfl) ?_
          have hf : Fr (fun _ => False) W (W.alloc (.cells ((List.replicate 20 (0 : UInt8)).map bv).toArray 33)) := (Fr.refl _ _).alloc _
          refine ⟨_, rfl, hB.ext hf, hf, ⟨W.heap.size, rfl, by have := hB.o.lt; omega, heap_alloc_new _ _⟩, fun j u hj hji hr _ h8 g h hg hh => ?_⟩
          cases hg
          rintro rfl
          exact absurd (HfR.lt h8 hr hh) (by omega)
        · simp only [List.getElem?_cons_zero, List.getElem?_cons_succ, Option.some.injEq] at ho
          subst ho
          intro a W vs hB hE hU
          clear hE hU
          refine wp_value_inv (w' := W.alloc (.cells ((List.replicate 20 (0 : UInt8)).map bv).toArray 33)) (.pointer (some ⟨W.heap.size, 0, none⟩)) (by rfl) ?_
          have hf : Fr (fun _ => False) W (W.alloc (.cells ((List.replicate 20 (0 : UInt8)).map bv).toArray 33)) := (Fr.refl _ _).alloc _
          refine ⟨_, rfl, hB.ext hf, hf, ⟨W.heap.size, rfl, by have := hB.o.lt; omega, heap_alloc_new _ _⟩, fun j u hj hji hr _ h8 g h hg hh => ?_⟩
          cases hg
          rintro rfl
          exact absurd (HfR.lt h8 hr hh) (by omega)
      · intro vs W hB hR hD
        have r0 : vs 0 = .agg (A.map bv).toArray := hR 0 (by decide)
        have r1 : vs 1 = .agg ((foldL A).map bv).toArray := hR 1 (by decide)
        have r2 : vs 2 = .agg (Bb.map bv).toArray := hR 2 (by decide)
        have r3 : vs 3 = .agg ((foldL Bb).map bv).toArray := hR 3 (by decide)
        have r4 : vs 4 = .agg (C.map bv).toArray := hR 4 (by decide)
        have r5 : vs 5 = .agg ((foldL C).map bv).toArray := hR 5 (by decide)
        have r6 : vs 6 = .agg (O.map bv).toArray := hR 6 (by decide)
        have r7 : vs 7 = .agg ((foldL O).map bv).toArray := hR 7 (by decide)
        obtain ⟨g8, e8, hg8, hb8⟩ := hR 8 (by decide)
        obtain ⟨g9, e9, hg9, hb9⟩ := hR 9 (by decide)
        obtain ⟨g10, e10, hg10, hb10⟩ := hR 10 (by decide)
        obtain ⟨g11, e11, hg11, hb11⟩ := hR 11 (by decide)
        have hne : ∀ i j gi gj, 8 ≤ i → i < 12 → 8 ≤ j → j < 12 → i ≠ j → vs i = .pointer (some ⟨gi, 0, none⟩) → vs j = .pointer (some ⟨gj, 0, none⟩) → gi ≠ gj := fun i j gi gj h1 h2 h3 h4 h5 h6 h7 => by
          rcases hD i j h2 h4 h5 with h | h
          · exact h h1 h3 gi gj h6 h7
          · exact (h h3 h1 gj gi h7 h6).symm
        have n1 := hne 8 9 g8 g9 (by decide) (by decide) (by decide) (by decide) (by decide) e8 e9
        have n2 := hne 8 10 g8 g10 (by decide) (by decide) (by decide) (by decide) (by decide) e8 e10
        have n3 := hne 8 11 g8 g11 (by decide) (by decide) (by decide) (by decide) (by decide) e8 e11
        have n4 := hne 9 10 g9 g10 (by decide) (by decide) (by decide) (by decide) (by decide) e9 e10
        have n5 := hne 9 11 g9 g11 (by decide) (by decide) (by decide) (by decide) (by decide) e9 e11
        have n6 := hne 10 11 g10 g11 (by decide) (by decide) (by decide) (by decide) (by decide) e10 e11
        clear hne hD hR
        simp only [acts, if_true, dstAt, List.getElem?_cons_zero, List.getElem?_cons_succ, Option.bind_some, Act.put, r0, r1, r2, r3, r4, r5, r6, r7, e8, e9, e10, e11, List.setIfInBounds_toArray, List.set_cons_succ, List.set_cons_zero, List.drop_succ_cons, List.drop_zero]
        have hz : ((List.replicate 20 (0 : UInt8)).map bv).toArray.size = 20 := by simp
        have hsz : ∀ L : List UInt8, ((foldL L).map bv).toArray.size = 20 := fun L => by simp [foldL, fl_length]
        have hone : ∀ L : List UInt8, (L.map bv).toArray.all (·.oneCell') = true := fun L => all_oneCell_toArray (bv_one _)
        have ht : (Tryd.prog.info? 33).map (·.size) = some 20 := by kernel_rfl
        refine wpList_store_row rfl 33 (.tmp 13) (.tmp 40) rfl g8 _ _ 33 rfl rfl hb8 (by rw [hsz]; exact ht) (by rw [hsz, hz]) (hone _) ?_
        refine wpList_store_row rfl 33 (.tmp 14) (.tmp 42) rfl g9 _ _ 33 rfl rfl ((setRow_other _ _ _ _ n1.symm).trans hb9) (by rw [hsz]; exact ht) (by rw [hsz, hz]) (hone _) ?_
        refine wpList_store_row rfl 33 (.tmp 15) (.tmp 44) rfl g10 _ _ 33 rfl rfl ((setRow_other _ _ _ _ n4.symm).trans ((setRow_other _ _ _ _ n2.symm).trans hb10)) (by rw [hsz]; exact ht) (by rw [hsz, hz]) (hone _) ?_
        refine wpList_store_row rfl 33 (.tmp 16) (.tmp 46) rfl g11 _ _ 33 rfl rfl ((setRow_other _ _ _ _ n6.symm).trans ((setRow_other _ _ _ _ n5.symm).trans ((setRow_other _ _ _ _ n3.symm).trans hb11))) (by rw [hsz]; exact ht) (by rw [hsz, hz]) (hone _) ?_
        obtain ⟨W4, hW4⟩ : ∃ W4, W4 = (((W.setRow g8 ((foldL A).map bv).toArray).setRow g9 ((foldL Bb).map bv).toArray).setRow g10 ((foldL C).map bv).toArray).setRow g11 ((foldL O).map bv).toArray := ⟨_, rfl⟩
        have hF : Fr (fun _ => False) w W4 := by
          rw [hW4]
          exact (((hB.fr.setRow (.inr (by omega)) _).setRow (.inr (by omega)) _).setRow (.inr (by omega)) _).setRow (.inr (by omega)) _
        have k11 : BytT W4 g11 33 (foldL O) := by
          rw [hW4]
          exact setRow_heap _ _ _ _ _ _ ((setRow_other _ _ _ _ n6.symm).trans ((setRow_other _ _ _ _ n5.symm).trans ((setRow_other _ _ _ _ n3.symm).trans hb11)))
        have k10 : BytT W4 g10 33 (foldL C) := by
          rw [hW4]
          exact (setRow_other _ _ _ _ n6).trans (setRow_heap _ _ _ _ _ _ ((setRow_other _ _ _ _ n4.symm).trans ((setRow_other _ _ _ _ n2.symm).trans hb10)))
        have k9 : BytT W4 g9 33 (foldL Bb) := by
          rw [hW4]
          exact (setRow_other _ _ _ _ n5).trans ((setRow_other _ _ _ _ n4).trans (setRow_heap _ _ _ _ _ _ ((setRow_other _ _ _ _ n1.symm).trans hb9)))
        have k8 : BytT W4 g8 33 (foldL A) := by
          rw [hW4]
          exact (setRow_other _ _ _ _ n3).trans ((setRow_other _ _ _ _ n2).trans ((setRow_other _ _ _ _ n1).trans (setRow_heap _ _ _ _ _ _ hb8)))
        rw [← hW4]
        have HK := Lib.hid (And.intro hF (And.intro k8 (And.intro k9 (And.intro k10 k11))))
        clear hW4 hF k8 k9 k10 k11 hz hsz hone ht hb8 hb9 hb10 hb11 n1 n2 n3 n4 n5 n6 r0 r1 r2 r3 r4 r5 r6 r7 e8 e9 e10 e11 hB hA hB0 hCl hOl hH
        go_wp2_with fail
        go_loopw [17] (fun iv wr => ∃ i : Nat, i ≤ 20 ∧ iv = .int .i64 i ∧ ∃ m, wr = W4.drewN m) (fun iv _ => 20 - (intOf iv).toNat)
        case atStart => exact ⟨0, by omega, rfl, 0, rfl⟩
        case round =>
          obtain ⟨i, hi, rfl, m, rfl⟩ := hrel
          by_cases hlt20 : i < 20
          · have c8 := HK.out.2.1.cell i (by simp [foldL, fl_length]; exact hlt20)
            have c9 := HK.out.2.2.1.cell i (by simp [foldL, fl_length]; exact hlt20)
            have c10 := HK.out.2.2.2.1.cell i (by simp [foldL, fl_length]; exact hlt20)
            have c11 := HK.out.2.2.2.2.cell i (by simp [foldL, fl_length]; exact hlt20)
            have hx := congrArg UInt8.toNat (HFX.out i hlt20)
            rw [UInt8.toNat_xor] at hx
            have ex := u8_xor_nat ((foldL A).getD i 0).toNat ((foldL Bb).getD i 0).toNat ((foldL A).getD i 0).toNat_lt ((foldL Bb).getD i 0).toNat_lt
            rw [hx] at ex
            have ho := HFO.out i hlt20
            clear hx
            generalize ((foldL A).getD i 0).toNat = x8 at *
            generalize ((foldL Bb).getD i 0).toNat = x9 at *
            generalize ((foldL C).getD i 0).toNat = x10 at *
            obtain ⟨t, ht⟩ : ∃ t, t = q % 20 := ⟨_, rfl⟩
            have et : (q : Int) % 20 = (t : Int) := by omega
            rw [← ht] at ho
            have bi : (i : Int) < 20 := by omega
            have di : (0 : Int) ≤ (i : Int) := by omega
            clear ht
            by_cases hit : i = t
            · subst hit
              rw [if_pos rfl] at ho
              rw [ho] at c11
              clear ho
              go_wp2_with fail
              go_quiet (fail)
              go_wp2
              go_roundw
              case rel => exact ⟨i + 1, by omega, by go_num, _, rfl⟩
              case measure => simp [intOf]; omega
            · rw [if_neg hit] at ho
              rw [ho] at c11
              have hne : ((i : Int) == (t : Int)) = false := by rw [beq_eq_false_iff_ne]; omega
              clear ho
              go_wp2_with fail
              go_quiet (fail)
              go_wp2
              go_roundw
              case rel => exact ⟨i + 1, by omega, by go_num, _, rfl⟩
              case measure => simp [intOf]; omega
          · go_wp2
            go_ret
            exact ⟨rfl, HK.out.1.drewN m⟩
end Go.Proofs.YthjpgnmpcllolaaDoor
