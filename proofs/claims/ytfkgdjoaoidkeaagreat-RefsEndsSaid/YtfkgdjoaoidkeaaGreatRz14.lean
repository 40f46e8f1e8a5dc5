/- Laid together: LentP -/
import Derived.Test.YtfkgdjoaoidkeaaGreatRz12
import Derived.Test.YtfkgdjoaoidkeaaGreatRz13
import Derived.OwnWalk

namespace Go.Proofs.YtfkgdjoaoidkeaaGreat
open Go.RowKit Go.ChangeShapes
set_option linter.unusedVariables false
theorem geq_yes10 {w : World} {T : TypeId} {k : IntKind} {x y : Int} (h : y ≤ x) : (binOp .geq T (.int k x) (.int k y)).run Tryz.prog w = .ok (.bool true) w := by rw [binOp_geq]; simp [h]
theorem geq_no10 {w : World} {T : TypeId} {k : IntKind} {x y : Int} (h : x < y) : (binOp .geq T (.int k x) (.int k y)).run Tryz.prog w = .ok (.bool false) w := by rw [binOp_geq]; simp [h]
def marksP (m : Nat) : List PathX := (List.range m).map mP
theorem marksP_length (m : Nat) : (marksP m).length = m := by simp [marksP]
theorem marksP_succ (m : Nat) : marksP (m + 1) = marksP m ++ [mP m] := by simp [marksP, List.range_succ]
theorem marksP_get (m i : Nat) (h : i < m) : (marksP m)[i]? = some (mP i) := by simp [marksP, h]
def LentPAt (F : Nat → Prop) (w : World) (g c : Nat) (L : List PathX) : Prop :=
  L.length + 12 ≤ c ∧ c ≤ maxLen ∧ OwnP F w (.slice (some ⟨g, 0, none⟩) (L.length + 12) c) (L ++ marksP 12)
theorem LentPAt.keep {F S : Nat → Prop} {w w' : World} {g c : Nat} {L : List PathX} (h : LentPAt F w g c L) (hf : Fr S w w') (hd : ∀ k, k < w.heap.size → F k → ¬ S k) : LentPAt F w' g c L := ⟨h.1, h.2.1, h.2.2.keep hf hd⟩
theorem LentPAt.paths {F : Nat → Prop} {w : World} {g c : Nat} {L : List PathX} (h : LentPAt F w g c L) : PathsIn F w (.slice (some ⟨g, 0, none⟩) L.length c) L := by
  obtain ⟨ao, cap, hv, h1, h2, h3, h4⟩ := h.2.2.paths
  rw [List.length_append, marksP_length] at hv h1
  simp only [Value.slice.injEq, true_and] at hv
  obtain ⟨rfl, rfl⟩ := hv
  obtain ⟨b, off, he, hb, hr⟩ := h4 (by intro e; have := congrArg List.length e; rw [List.length_append, marksP_length] at this; simp at this)
  refine ⟨_, c, rfl, by omega, h2, (fun e => by cases e), fun hL => ⟨b, off, he, hb, fun i hi => ?_⟩⟩
  have := hr i (by rw [List.length_append]; omega)
  rwa [List.getElem_append_left hi] at this
set_option maxRecDepth 100000 in
set_option maxHeartbeats 4000000 in
theorem LentPaths_any {G : Nat → Prop} (x : Value) (L : List PathX) (w : World) (hx : PathsIn G w x L) (hL : L.length ≤ 900000) :
    Calls Tryz.prog 7 #[x] w fun e w' => ∃ g c, e = .returned (.slice (some ⟨g, 0, none⟩) L.length c) ∧ LentPAt (fun k => w.heap.size ≤ k) w' g c L ∧ Fr (fun _ => False) w w' := by
  obtain ⟨n, hn⟩ : ∃ n, n = L.length := ⟨_, rfl⟩
  have HX0 := Lib.hid hx
  obtain ⟨ao, cp, rfl, -⟩ := hx
  rw [← hn] at HX0 hL ⊢
  have HN := Lib.hid hn
  clear hn
  obtain ⟨i1, hi1, hz0, hz1, hz2⟩ := info_parts Tryz.infoP
  have HI1 := Lib.hid (And.intro hi1 (And.intro hz0 (And.intro hz1 hz2)))
  clear hi1 hz0 hz1 hz2
  go_enter Tryz.func7, Tryz.ntmps7
  go_wp2_with (first
    | (at_make; refine wpList_make_own w rfl (.const (.int .i64 0)) (.tmp 7) 25 rfl 0 27 i1 (.agg (pathC (List.replicate 20 0) ⟨#[]⟩)) 21 Tryz.underlying25 HI1.out.1 HI1.out.2.1 HI1.out.2.2.1 .i64 .i64 ((n : Int) + 12) (n + 12) rfl rfl (by omega) (by rw [HI1.out.2.2.2]; omega) (by unfold maxLen; omega) (Nat.zero_le _) ?_; intro w2 ho2 hg2; have HO2 := Lib.hid (show OwnP (fun k => w.heap.size ≤ k) w2 (.slice (some ⟨w.heap.size, 0, none⟩) 0 (n + 12)) [] from ⟨ho2, fun g hg => by simp only [Value.ownBlock, Option.some.injEq] at hg; omega⟩); have HF2 := Lib.hid ((Fr.refl (fun _ => False) w).grown hg2 (fun k hk => by cases hk)); clear ho2 hg2)
    | (at_builtin; refine wpList_append_paths (F := fun k => w.heap.size ≤ k) (G := G) _ rfl (.tmp 9) (.tmp 10) rfl _ _ [] L rfl rfl HO2.out (HX0.out.keep HF2.out (fun _ _ _ h => h)) (by rw [← HN.out]; simp; omega) ?_; intro v3 w3 ho3 hg3 _; have HS3 : Hid (OwnP (fun k => w.heap.size ≤ k) w3 v3 (L ++ marksP 0) ∧ Fr (fun _ => False) w w3) := Lib.hid ⟨by have h := ho3.mono (G := fun k => w.heap.size ≤ k) (fun k _ h => h.elim id (fun h => Nat.le_trans HF2.out.size h)); simpa [marksP] using h, HF2.out.grown hg3 (fun k hk => .inr (HO2.out.2 k hk))⟩; clear ho3 hg3)
    | fail)
  go_loopw [3, 4] (fun gv iv wi => ∃ i : Nat, i ≤ 12 ∧ iv = .int .i64 i ∧ Hid (OwnP (fun k => w.heap.size ≤ k) wi gv (L ++ marksP i) ∧ Fr (fun _ => False) w wi)) (fun _ iv _ => 12 - (intOf iv).toNat)
  case atStart => exact ⟨0, by omega, rfl, HS3⟩
  case round =>
    obtain ⟨i, hi, rfl, hw⟩ := hrel
    clear HS3 HO2 HF2 HX0
    by_cases hil : i < 12
    · have HMB := Lib.hid (fun W => markPath_any i hil W)
      obtain ⟨C, hC⟩ : ∃ C, C = pathC (mP i).h (mP i).n := ⟨_, rfl⟩
      rw [← hC] at HMB
      have HBO := Lib.hid (fun (W : World) => show (Instr.buildSlice 25 1 #[(0, .agg C)]).run Tryz.prog W = .ok (.slice (some ⟨W.heap.size, 0, none⟩) 1 1) (W.alloc (.cells C 27)) by rw [hC]; exact run_build_one W (mP i))
      have HPO := Lib.hid (fun (W : World) => show PathsIn (fun k => k = W.heap.size) (W.alloc (.cells C 27)) (.slice (some ⟨W.heap.size, 0, none⟩) 1 1) [mP i] by rw [hC]; exact PathsIn.one W (mP i))
      have HLN := Lib.hid (show (L ++ marksP i).length + [mP i].length ≤ 1000000 by rw [List.length_append, marksP_length, ← HN.out]; simp; omega)
      have hi64 : (i : Int) < 12 := by omega
      clear hC
      go_wp2_with (first
        | (go_at_call 25; refine (HMB.out _).mono ?_; rintro e w4 ⟨rfl, hf4⟩; (have HP := Lib.hid (And.intro (hw.out.1.keep hf4 (fun _ _ _ h => h)) (hw.out.2.trans hf4 (fun _ h => h.elim)))); clear hf4)
        | ((refine wpList_one rfl 25 (.tmp 18) rfl (.agg C) (.slice (some ⟨w4.heap.size, 0, none⟩) 1 1) (w4.alloc (.cells C 27)) rfl (HBO.out w4) ?_); refine wpList_append_paths (F := fun k => w.heap.size ≤ k) (G := fun b => b = w4.heap.size) _ rfl (.tmp 16) (.tmp 19) rfl _ _ (L ++ marksP i) [mP i] rfl rfl (HP.out.1.keep ((Fr.refl (fun _ => False) w4).alloc _) (fun _ _ _ h => h)) (HPO.out w4) HLN.out ?_; intro v5 w5 ho5 hg5 _; have HS5 : Hid (OwnP (fun k => w.heap.size ≤ k) w5 v5 (L ++ marksP (i + 1)) ∧ Fr (fun _ => False) w w5) := Lib.hid ⟨by have h := ho5.mono (G := fun k => w.heap.size ≤ k) (fun k _ h => h.elim id (fun h => Nat.le_trans (HP.out.2.alloc _).size h)); rwa [List.append_assoc, ← marksP_succ] at h, (HP.out.2.alloc _).grown hg5 (fun k hk => .inr (HP.out.1.2 k hk))⟩; clear ho5 hg5))
      go_roundw
      case rel => exact ⟨i + 1, by omega, by go_num, HS5⟩
      case measure => simp [intOf]; omega
    · obtain rfl : i = 12 := by omega
      obtain ⟨g, c, hv, hc1, hc2⟩ : ∃ g c, u3 = .slice (some ⟨g, 0, none⟩) (n + 12) c ∧ n + 12 ≤ c ∧ c ≤ maxLen := by
        have hl : (L ++ marksP 12).length = n + 12 := by rw [List.length_append, marksP_length, HN.out]
        rcases hw.out.1.row with ⟨_, h0⟩ | ⟨g, cap, cur, hv, _, _, _, h1, h2, _⟩
        · rw [h0] at hl; simp at hl
        · rw [hl] at hv h1
          exact ⟨g, cap, hv, h1, h2⟩
      subst hv
      have HS := Lib.hid hw.out
      have HC2 := Lib.hid hc2
      clear hw hc2
      go_wp2
      go_ret
      exact ⟨g, c, rfl, ⟨by rw [← HN.out]; exact hc1, HC2.out, by rw [← HN.out]; exact HS.out.1⟩, HS.out.2⟩
theorem ent_spence_spencekit_markPath (args : Array Value) (w : World) : (callFunc 25 args).run Tryz.prog w = .ok (.enter 25 args) w := by kernel_rfl
def KpR1 (g n c ix jx bl ol cl : Nat) (al : Option Addr) (CX : Array Value) (i : Nat) (v : Value) (W : World) : Prop :=
  match i with
  | 0 => v = .int .i64 (ix : Nat)
  | 1 => v = .slice (some ⟨bl, ol, none⟩) n cl
  | 2 => v = .int .i64 (n : Nat)
  | 3 => v = .bool true
  | 4 => v = .bool true
  | 5 => v = .slice (some ⟨g, 0, none⟩) (n + 12) c
  | 6 => v = .int .i64 (ix : Nat)
  | 7 => v = .pointer (some ⟨g, 0 + ix * 21, none⟩)
  | 8 => v = .agg CX
  | 9 => v = .slice (some ⟨bl, ol, none⟩) n cl
  | 10 => v = .int .i64 (ix : Nat)
  | 11 => v = .pointer (some ⟨bl, ol + ix * 21, none⟩)
  | 12 => v = .agg CX
  | 13 => v = .bool true
  | 14 => v = .bool false
  | 15 => v = .bool false
  | 16 => v = .bool false
  | 17 => v = .int .i64 (ix : Nat)
  | 18 => v = .slice (some ⟨bl, ol, none⟩) n cl
  | 19 => v = .int .i64 (n : Nat)
  | 20 => v = .bool false
  | 21 => v = .bool false
  | 22 => v = undef
  | 23 => v = undef
  | 24 => v = undef
  | 25 => v = undef
  | 26 => v = undef
  | 27 => v = undef
  | 28 => v = undef
  | 29 => v = undef
  | 30 => v = undef
  | 31 => v = undef
  | 32 => v = undef
  | 33 => v = .bool false
  | _ => True
theorem KpR1.ext (g n c ix jx bl ol cl : Nat) (al : Option Addr) (CX : Array Value) : ∀ (j : Nat) (u : Value) (W W' : World), Fr (fun _ => False) W W' → KpR1 g n c ix jx bl ol cl al CX j u W → KpR1 g n c ix jx bl ol cl al CX j u W'
  | 0, u, W, W', hf, h => h
  | 1, u, W, W', hf, h => h
  | 2, u, W, W', hf, h => h
  | 3, u, W, W', hf, h => h
  | 4, u, W, W', hf, h => h
  | 5, u, W, W', hf, h => h
  | 6, u, W, W', hf, h => h
  | 7, u, W, W', hf, h => h
  | 8, u, W, W', hf, h => h
  | 9, u, W, W', hf, h => h
  | 10, u, W, W', hf, h => h
  | 11, u, W, W', hf, h => h
  | 12, u, W, W', hf, h => h
  | 13, u, W, W', hf, h => h
  | 14, u, W, W', hf, h => h
  | 15, u, W, W', hf, h => h
  | 16, u, W, W', hf, h => h
  | 17, u, W, W', hf, h => h
  | 18, u, W, W', hf, h => h
  | 19, u, W, W', hf, h => h
  | 20, u, W, W', hf, h => h
  | 21, u, W, W', hf, h => h
  | 22, u, W, W', hf, h => h
  | 23, u, W, W', hf, h => h
  | 24, u, W, W', hf, h => h
  | 25, u, W, W', hf, h => h
  | 26, u, W, W', hf, h => h
  | 27, u, W, W', hf, h => h
  | 28, u, W, W', hf, h => h
  | 29, u, W, W', hf, h => h
  | 30, u, W, W', hf, h => h
  | 31, u, W, W', hf, h => h
  | 32, u, W, W', hf, h => h
  | 33, u, W, W', hf, h => h
  | _ + 34, u, W, W', hf, h => trivial
def KpR0 (g n c ix jx bl ol cl : Nat) (al : Option Addr) (CX : Array Value) (i : Nat) (v : Value) (W : World) : Prop :=
  match i with
  | 0 => v = .int .i64 (ix : Nat)
  | 1 => v = .slice al n cl
  | 2 => v = .int .i64 (n : Nat)
  | 3 => v = .bool false
  | 4 => v = .bool false
  | 5 => v = undef
  | 6 => v = undef
  | 7 => v = undef
  | 8 => v = undef
  | 9 => v = undef
  | 10 => v = undef
  | 11 => v = undef
  | 12 => v = undef
  | 13 => v = undef
  | 14 => v = undef
  | 15 => v = .bool false
  | 16 => v = .bool false
  | 17 => v = .int .i64 (ix : Nat)
  | 18 => v = .slice al n cl
  | 19 => v = .int .i64 (n : Nat)
  | 20 => v = .bool true
  | 21 => v = .bool true
  | 22 => v = .slice (some ⟨g, 0, none⟩) (n + 12) c
  | 23 => v = .int .i64 (ix : Nat)
  | 24 => v = .pointer (some ⟨g, 0 + ix * 21, none⟩)
  | 25 => v = .agg CX
  | 26 => v = .int .i64 (ix : Nat)
  | 27 => v = .slice al n cl
  | 28 => v = .int .i64 (n : Nat)
  | 29 => v = .int .i64 (jx : Nat)
  | 30 => v = .agg CX
  | 31 => v = .bool true
  | 32 => v = .bool false
  | 33 => v = .bool false
  | _ => True
theorem KpR0.ext (g n c ix jx bl ol cl : Nat) (al : Option Addr) (CX : Array Value) : ∀ (j : Nat) (u : Value) (W W' : World), Fr (fun _ => False) W W' → KpR0 g n c ix jx bl ol cl al CX j u W → KpR0 g n c ix jx bl ol cl al CX j u W'
  | 0, u, W, W', hf, h => h
  | 1, u, W, W', hf, h => h
  | 2, u, W, W', hf, h => h
  | 3, u, W, W', hf, h => h
  | 4, u, W, W', hf, h => h
  | 5, u, W, W', hf, h => h
  | 6, u, W, W', hf, h => h
  | 7, u, W, W', hf, h => h
  | 8, u, W, W', hf, h => h
  | 9, u, W, W', hf, h => h
  | 10, u, W, W', hf, h => h
  | 11, u, W, W', hf, h => h
  | 12, u, W, W', hf, h => h
  | 13, u, W, W', hf, h => h
  | 14, u, W, W', hf, h => h
  | 15, u, W, W', hf, h => h
  | 16, u, W, W', hf, h => h
  | 17, u, W, W', hf, h => h
  | 18, u, W, W', hf, h => h
  | 19, u, W, W', hf, h => h
  | 20, u, W, W', hf, h => h
  | 21, u, W, W', hf, h => h
  | 22, u, W, W', hf, h => h
  | 23, u, W, W', hf, h => h
  | 24, u, W, W', hf, h => h
  | 25, u, W, W', hf, h => h
  | 26, u, W, W', hf, h => h
  | 27, u, W, W', hf, h => h
  | 28, u, W, W', hf, h => h
  | 29, u, W, W', hf, h => h
  | 30, u, W, W', hf, h => h
  | 31, u, W, W', hf, h => h
  | 32, u, W, W', hf, h => h
  | 33, u, W, W', hf, h => h
  | _ + 34, u, W, W', hf, h => trivial
set_option maxRecDepth 100000 in
set_option maxHeartbeats 8000000 in
theorem KeptPaths_any {F G : Nat → Prop} (y : Value) (g c : Nat) (L : List PathX) (w : World) (hy : PathsIn G w y L) (hl : LentPAt F w g c L) (hL : L.length ≤ 900000) :
    Calls Tryz.prog 21 #[.slice (some ⟨g, 0, none⟩) L.length c, y] w fun e w' => e = .returned (.bool true) ∧ Fr (fun _ => False) w w' := by
  have hall : ∀ i (hi : i < (L ++ marksP 12).length), w.rangeAt g (0 + i * 21) (cellsX (L ++ marksP 12)[i]) := by
    obtain ⟨ao, cap, hv, h1, h2, h3, h4⟩ := hl.2.2.paths
    simp only [Value.slice.injEq] at hv
    obtain ⟨rfl, -, rfl⟩ := hv
    obtain ⟨b, off, he, hb, hr⟩ := h4 (by intro e; have := congrArg List.length e; rw [List.length_append, marksP_length] at this; simp at this)
    simp only [Option.some.injEq, Addr.mk.injEq, and_true] at he
    obtain ⟨rfl, rfl⟩ := he
    exact hr
  obtain ⟨hc0, hcm, -⟩ := hl
  obtain ⟨al, cl, rfl, hlc, hlm, -, hrow⟩ := hy
  unfold maxLen at hcm hlm
  have HROW := Lib.hid hrow
  have HALL := Lib.hid hall
  obtain ⟨n, hn⟩ : ∃ n, n = L.length := ⟨_, rfl⟩
  rw [← hn] at hc0 hL hlc ⊢
  have HN := Lib.hid hn
  clear hn hrow hall
  go_enter Tryz.func21, Tryz.ntmps21
  go_wp2
  go_loopw [6] (fun iv wr => ∃ i : Nat, i ≤ n + 12 ∧ iv = .int .i64 i ∧ Hid (Fr (fun _ => False) w wr)) (fun iv _ => n + 12 - (intOf iv).toNat)
  case atStart => exact ⟨0, by omega, rfl, Lib.hid (Fr.refl _ _)⟩
  case round =>
    obtain ⟨ix, hi, rfl, hW⟩ := hrel
    by_cases hil : ix < n + 12
    · have hia : ix < (L ++ marksP 12).length := by rw [List.length_append, marksP_length, ← HN.out]; exact hil
      obtain ⟨x, hx⟩ : ∃ x, x = (L ++ marksP 12)[ix] := ⟨_, rfl⟩
      have hr : wr.rangeAt g (0 + ix * 21) (cellsX (L ++ marksP 12)[ix]) := hW.out.range (HALL.out ix hia) (fun h => h)
      rw [← hx] at hr
      obtain ⟨CX, hCX⟩ : ∃ C, C = pathC x.h x.n := ⟨_, rfl⟩
      have LDX := Lib.hid (fun W (hW : Fr (fun _ => False) wr W) => show (Instr.loadAt 27 (.pointer (some ⟨g, 0 + ix * 21, none⟩))).run Tryz.prog W = .ok (.agg CX) W by rw [hCX]; exact load_mid_path W g _ x (hW.range hr (fun h => h)))
      have HEQ := Lib.hid (fun (W : World) => show (binOp .eql 27 (.agg CX) (.agg CX)).run Tryz.prog W = .ok (.bool true) W by
        have h := run_eql_path W x.h x.n x.h x.n x.hl x.hl
        rw [show sameP x.h x.n x.h x.n = true by unfold sameP; simp] at h
        rw [hCX]
        exact h)
      have HIXA := Lib.hid hil
      have hil64 : (ix : Int) < (n : Int) + 12 := by omega
      by_cases hin : ix < n
      · have hiL : ix < L.length := by rw [← HN.out]; exact hin
        have hxL : x = L[ix] := by rw [hx, List.getElem_append_left hiL]
        obtain ⟨bl, ol, rfl, hbG, hrg⟩ := HROW.out (by rintro rfl; simp at hiL)
        have hrl : wr.rangeAt bl (ol + ix * 21) (cellsX L[ix]) := hW.out.range (hrg ix hiL) (fun h => h)
        rw [← hxL] at hrl
        have LDY := Lib.hid (fun W (hW : Fr (fun _ => False) wr W) => show (Instr.loadAt 27 (.pointer (some ⟨bl, ol + ix * 21, none⟩))).run Tryz.prog W = .ok (.agg CX) W by rw [hCX]; exact load_mid_path W bl _ x (hW.range hrl (fun h => h)))
        have HIXL := Lib.hid hin
        have HIN := Lib.hid hin
        obtain ⟨jx, hjx⟩ : ∃ j : Nat, j = 0 := ⟨_, rfl⟩
        obtain ⟨al, hal⟩ : ∃ a : Option Addr, a = none := ⟨_, rfl⟩
        clear hx hr hCX hxL hbG hrg hrl hjx hal
        go_wp2_with fail
        refine wp_region_inv 34 (by kernel_rfl) (by kernel_rfl) (fun W => Fr (fun _ => False) wr W) (KpR1 g n c ix jx bl ol cl al CX) (fun _ _ _ _ => True) (Fr (fun _ => False)) (KpR1.ext g n c ix jx bl ol cl al CX) (Fr.refl _ _).drew ?_ ?_
        · intro i hi o ho
          replace hi : i < 34 := hi
          obtain rfl | rfl | rfl | rfl | rfl | rfl | rfl | rfl | rfl | rfl | rfl | rfl | rfl | rfl | rfl | rfl | rfl | rfl | rfl | rfl | rfl | rfl | rfl | rfl | rfl | rfl | rfl | rfl | rfl | rfl | rfl | rfl | rfl | rfl : i = 0 ∨ i = 1 ∨ i = 2 ∨ i = 3 ∨ i = 4 ∨ i = 5 ∨ i = 6 ∨ i = 7 ∨ i = 8 ∨ i = 9 ∨ i = 10 ∨ i = 11 ∨ i = 12 ∨ i = 13 ∨ i = 14 ∨ i = 15 ∨ i = 16 ∨ i = 17 ∨ i = 18 ∨ i = 19 ∨ i = 20 ∨ i = 21 ∨ i = 22 ∨ i = 23 ∨ i = 24 ∨ i = 25 ∨ i = 26 ∨ i = 27 ∨ i = 28 ∨ i = 29 ∨ i = 30 ∨ i = 31 ∨ i = 32 ∨ i = 33 := by omega
          · simp only [List.getElem?_cons_zero, Option.some.injEq] at ho
            subst ho
            intro a W vs hB hS hE hU
            refine wpG_plain rfl ?_
            have v6 : a.eval (.tmp 6) = .int .i64 (ix : Nat) := (hU 6 (by kernel_rfl)).trans rfl
            clear hE hU
            exact wp_value_inv (w' := W) (.int .i64 (ix : Nat)) (op_move rfl v6) ⟨_, rfl, hB, Fr.refl _ _, rfl, fun _ _ _ _ _ => trivial⟩
          · simp only [List.getElem?_cons_zero, List.getElem?_cons_succ, Option.some.injEq] at ho
            subst ho
            intro a W vs hB hS hE hU
            refine wpG_plain rfl ?_
            have v1 : a.eval (.tmp 1) = .slice (some ⟨bl, ol, none⟩) n cl := (hU 1 (by kernel_rfl)).trans rfl
            clear hE hU
            exact wp_value_inv (w' := W) (.slice (some ⟨bl, ol, none⟩) n cl) (op_move rfl v1) ⟨_, rfl, hB, Fr.refl _ _, rfl, fun _ _ _ _ _ => trivial⟩
          · simp only [List.getElem?_cons_zero, List.getElem?_cons_succ, Option.some.injEq] at ho
            subst ho
            intro a W vs hB hS hE hU
            refine wpG_plain rfl ?_
            obtain ⟨r1, e24⟩ := hE 1 24 (by kernel_rfl) (by kernel_rfl)
            have v24 : a.eval (.tmp 24) = .slice (some ⟨bl, ol, none⟩) n cl := e24.trans r1
            clear hE hU
            exact wp_value_inv (w' := W) (.int .i64 (n : Nat)) (op_len_paths rfl v24) ⟨_, rfl, hB, Fr.refl _ _, rfl, fun _ _ _ _ _ => trivial⟩
          · simp only [List.getElem?_cons_zero, List.getElem?_cons_succ, Option.some.injEq] at ho
            subst ho
            intro a W vs hB hS hE hU
            refine wpG_plain rfl ?_
            obtain ⟨r0, e23⟩ := hE 0 23 (by kernel_rfl) (by kernel_rfl)
            have v23 : a.eval (.tmp 23) = .int .i64 (ix : Nat) := e23.trans r0
            obtain ⟨r2, e25⟩ := hE 2 25 (by kernel_rfl) (by kernel_rfl)
            have v25 : a.eval (.tmp 25) = .int .i64 (n : Nat) := e25.trans r2
            clear hE hU
            exact wp_value_inv (w' := W) (.bool true) (op_bin rfl v23 v25 (rfl) (lss_yes (by have := HIN.out; omega))) ⟨_, rfl, hB, Fr.refl _ _, rfl, fun _ _ _ _ _ => trivial⟩
          · simp only [List.getElem?_cons_zero, List.getElem?_cons_succ, Option.some.injEq] at ho
            subst ho
            intro a W vs hB hS hE hU
            refine wpG_plain rfl ?_
            obtain ⟨r3, e26⟩ := hE 3 26 (by kernel_rfl) (by kernel_rfl)
            have v26 : a.eval (.tmp 26) = .bool true := e26.trans r3
            clear hE hU
            exact wp_value_inv (w' := W) (.bool true) (op_move rfl v26) ⟨_, rfl, hB, Fr.refl _ _, rfl, fun _ _ _ _ _ => trivial⟩
          · simp only [List.getElem?_cons_zero, List.getElem?_cons_succ, Option.some.injEq] at ho
            subst ho
            intro a W vs hB hS hE hU
            obtain ⟨r4, e27⟩ := hE 4 27 (by kernel_rfl) (by kernel_rfl)
            have v27 : a.eval (.tmp 27) = .bool true := e27.trans r4
            refine wpG_yes 4 true 27 rfl (by kernel_rfl) (by rw [hS]; first | simp | exact Nat.le_of_ble_eq_true rfl) v27 ?_
            have v5 : a.eval (.tmp 5) = .slice (some ⟨g, 0, none⟩) (n + 12) c := (hU 5 (by kernel_rfl)).trans rfl
            clear hE hU
            exact wp_value_inv (w' := W) (.slice (some ⟨g, 0, none⟩) (n + 12) c) (op_move rfl v5) ⟨_, rfl, hB, Fr.refl _ _, rfl, fun _ _ _ _ _ => trivial⟩
          · simp only [List.getElem?_cons_zero, List.getElem?_cons_succ, Option.some.injEq] at ho
            subst ho
            intro a W vs hB hS hE hU
            obtain ⟨r4, e27⟩ := hE 4 27 (by kernel_rfl) (by kernel_rfl)
            have v27 : a.eval (.tmp 27) = .bool true := e27.trans r4
            refine wpG_yes 4 true 27 rfl (by kernel_rfl) (by rw [hS]; first | simp | exact Nat.le_of_ble_eq_true rfl) v27 ?_
            have v6 : a.eval (.tmp 6) = .int .i64 (ix : Nat) := (hU 6 (by kernel_rfl)).trans rfl
            clear hE hU
            exact wp_value_inv (w' := W) (.int .i64 (ix : Nat)) (op_move rfl v6) ⟨_, rfl, hB, Fr.refl _ _, rfl, fun _ _ _ _ _ => trivial⟩
          · simp only [List.getElem?_cons_zero, List.getElem?_cons_succ, Option.some.injEq] at ho
            subst ho
            intro a W vs hB hS hE hU
            obtain ⟨r4, e27⟩ := hE 4 27 (by kernel_rfl) (by kernel_rfl)
            have v27 : a.eval (.tmp 27) = .bool true := e27.trans r4
            refine wpG_yes 4 true 27 rfl (by kernel_rfl) (by rw [hS]; first | simp | exact Nat.le_of_ble_eq_true rfl) v27 ?_
            obtain ⟨r5, e28⟩ := hE 5 28 (by kernel_rfl) (by kernel_rfl)
            have v28 : a.eval (.tmp 28) = .slice (some ⟨g, 0, none⟩) (n + 12) c := e28.trans r5
            obtain ⟨r6, e29⟩ := hE 6 29 (by kernel_rfl) (by kernel_rfl)
            have v29 : a.eval (.tmp 29) = .int .i64 (ix : Nat) := e29.trans r6
            clear hE hU
            exact wp_value_inv (w' := W) (.pointer (some ⟨g, 0 + ix * 21, none⟩)) (op_indexAddr rfl v28 v29 (run_index_paths W g 0 (n + 12) c ix HIXA.out)) ⟨_, rfl, hB, Fr.refl _ _, rfl, fun _ _ _ _ _ => trivial⟩
          · simp only [List.getElem?_cons_zero, List.getElem?_cons_succ, Option.some.injEq] at ho
            subst ho
            intro a W vs hB hS hE hU
            obtain ⟨r4, e27⟩ := hE 4 27 (by kernel_rfl) (by kernel_rfl)
            have v27 : a.eval (.tmp 27) = .bool true := e27.trans r4
            refine wpG_yes 4 true 27 rfl (by kernel_rfl) (by rw [hS]; first | simp | exact Nat.le_of_ble_eq_true rfl) v27 ?_
            obtain ⟨r7, e30⟩ := hE 7 30 (by kernel_rfl) (by kernel_rfl)
            have v30 : a.eval (.tmp 30) = .pointer (some ⟨g, 0 + ix * 21, none⟩) := e30.trans r7
            clear hE hU
            exact wp_value_inv (w' := W) (.agg CX) (op_loadAt rfl v30 (LDX.out W hB)) ⟨_, rfl, hB, Fr.refl _ _, rfl, fun _ _ _ _ _ => trivial⟩
          · simp only [List.getElem?_cons_zero, List.getElem?_cons_succ, Option.some.injEq] at ho
            subst ho
            intro a W vs hB hS hE hU
            obtain ⟨r4, e27⟩ := hE 4 27 (by kernel_rfl) (by kernel_rfl)
            have v27 : a.eval (.tmp 27) = .bool true := e27.trans r4
            refine wpG_yes 4 true 27 rfl (by kernel_rfl) (by rw [hS]; first | simp | exact Nat.le_of_ble_eq_true rfl) v27 ?_
            have v1 : a.eval (.tmp 1) = .slice (some ⟨bl, ol, none⟩) n cl := (hU 1 (by kernel_rfl)).trans rfl
            clear hE hU
            exact wp_value_inv (w' := W) (.slice (some ⟨bl, ol, none⟩) n cl) (op_move rfl v1) ⟨_, rfl, hB, Fr.refl _ _, rfl, fun _ _ _ _ _ => trivial⟩
          · simp only [List.getElem?_cons_zero, List.getElem?_cons_succ, Option.some.injEq] at ho
            subst ho
            intro a W vs hB hS hE hU
            obtain ⟨r4, e27⟩ := hE 4 27 (by kernel_rfl) (by kernel_rfl)
            have v27 : a.eval (.tmp 27) = .bool true := e27.trans r4
            refine wpG_yes 4 true 27 rfl (by kernel_rfl) (by rw [hS]; first | simp | exact Nat.le_of_ble_eq_true rfl) v27 ?_
            have v6 : a.eval (.tmp 6) = .int .i64 (ix : Nat) := (hU 6 (by kernel_rfl)).trans rfl
            clear hE hU
            exact wp_value_inv (w' := W) (.int .i64 (ix : Nat)) (op_move rfl v6) ⟨_, rfl, hB, Fr.refl _ _, rfl, fun _ _ _ _ _ => trivial⟩
          · simp only [List.getElem?_cons_zero, List.getElem?_cons_succ, Option.some.injEq] at ho
            subst ho
            intro a W vs hB hS hE hU
            obtain ⟨r4, e27⟩ := hE 4 27 (by kernel_rfl) (by kernel_rfl)
            have v27 : a.eval (.tmp 27) = .bool true := e27.trans r4
            refine wpG_yes 4 true 27 rfl (by kernel_rfl) (by rw [hS]; first | simp | exact Nat.le_of_ble_eq_true rfl) v27 ?_
            obtain ⟨r9, e32⟩ := hE 9 32 (by kernel_rfl) (by kernel_rfl)
            have v32 : a.eval (.tmp 32) = .slice (some ⟨bl, ol, none⟩) n cl := e32.trans r9
            obtain ⟨r10, e33⟩ := hE 10 33 (by kernel_rfl) (by kernel_rfl)
            have v33 : a.eval (.tmp 33) = .int .i64 (ix : Nat) := e33.trans r10
            clear hE hU
            exact wp_value_inv (w' := W) (.pointer (some ⟨bl, ol + ix * 21, none⟩)) (op_indexAddr rfl v32 v33 (run_index_paths W bl ol n cl ix HIXL.out)) ⟨_, rfl, hB, Fr.refl _ _, rfl, fun _ _ _ _ _ => trivial⟩
          · simp only [List.getElem?_cons_zero, List.getElem?_cons_succ, Option.some.injEq] at ho
            subst ho
            intro a W vs hB hS hE hU
            obtain ⟨r4, e27⟩ := hE 4 27 (by kernel_rfl) (by kernel_rfl)
            have v27 : a.eval (.tmp 27) = .bool true := e27.trans r4
            refine wpG_yes 4 true 27 rfl (by kernel_rfl) (by rw [hS]; first | simp | exact Nat.le_of_ble_eq_true rfl) v27 ?_
            obtain ⟨r11, e34⟩ := hE 11 34 (by kernel_rfl) (by kernel_rfl)
            have v34 : a.eval (.tmp 34) = .pointer (some ⟨bl, ol + ix * 21, none⟩) := e34.trans r11
            clear hE hU
            exact wp_value_inv (w' := W) (.agg CX) (op_loadAt rfl v34 (LDY.out W hB)) ⟨_, rfl, hB, Fr.refl _ _, rfl, fun _ _ _ _ _ => trivial⟩
          · simp only [List.getElem?_cons_zero, List.getElem?_cons_succ, Option.some.injEq] at ho
            subst ho
            intro a W vs hB hS hE hU
            obtain ⟨r4, e27⟩ := hE 4 27 (by kernel_rfl) (by kernel_rfl)
            have v27 : a.eval (.tmp 27) = .bool true := e27.trans r4
            refine wpG_yes 4 true 27 rfl (by kernel_rfl) (by rw [hS]; first | simp | exact Nat.le_of_ble_eq_true rfl) v27 ?_
            obtain ⟨r8, e31⟩ := hE 8 31 (by kernel_rfl) (by kernel_rfl)
            have v31 : a.eval (.tmp 31) = .agg CX := e31.trans r8
            obtain ⟨r12, e35⟩ := hE 12 35 (by kernel_rfl) (by kernel_rfl)
            have v35 : a.eval (.tmp 35) = .agg CX := e35.trans r12
            clear hE hU
            exact wp_value_inv (w' := W) (.bool true) (op_bin rfl v31 v35 (guard_path W _ _ _ _ _) (HEQ.out W)) ⟨_, rfl, hB, Fr.refl _ _, rfl, fun _ _ _ _ _ => trivial⟩
          · simp only [List.getElem?_cons_zero, List.getElem?_cons_succ, Option.some.injEq] at ho
            subst ho
            intro a W vs hB hS hE hU
            obtain ⟨r4, e27⟩ := hE 4 27 (by kernel_rfl) (by kernel_rfl)
            have v27 : a.eval (.tmp 27) = .bool true := e27.trans r4
            refine wpG_yes 4 true 27 rfl (by kernel_rfl) (by rw [hS]; first | simp | exact Nat.le_of_ble_eq_true rfl) v27 ?_
            obtain ⟨r13, e36⟩ := hE 13 36 (by kernel_rfl) (by kernel_rfl)
            have v36 : a.eval (.tmp 36) = .bool true := e36.trans r13
            clear hE hU
            exact wp_value_inv (w' := W) (.bool false) (op_unop rfl v36 (by rfl)) ⟨_, rfl, hB, Fr.refl _ _, rfl, fun _ _ _ _ _ => trivial⟩
          · simp only [List.getElem?_cons_zero, List.getElem?_cons_succ, Option.some.injEq] at ho
            subst ho
            intro a W vs hB hS hE hU
            refine wpG_plain rfl ?_
            obtain ⟨r4, e27⟩ := hE 4 27 (by kernel_rfl) (by kernel_rfl)
            have v27 : a.eval (.tmp 27) = .bool true := e27.trans r4
            obtain ⟨r14, e37⟩ := hE 14 37 (by kernel_rfl) (by kernel_rfl)
            have v37 : a.eval (.tmp 37) = .bool false := e37.trans r14
            clear hE hU
            exact wp_value_inv (w' := W) (.bool false) (op_pick rfl v27 (by simp only [if_true]; exact v37)) ⟨_, rfl, hB, Fr.refl _ _, rfl, fun _ _ _ _ _ => trivial⟩
          · simp only [List.getElem?_cons_zero, List.getElem?_cons_succ, Option.some.injEq] at ho
            subst ho
            intro a W vs hB hS hE hU
            refine wpG_plain rfl ?_
            obtain ⟨r15, e38⟩ := hE 15 38 (by kernel_rfl) (by kernel_rfl)
            have v38 : a.eval (.tmp 38) = .bool false := e38.trans r15
            clear hE hU
            exact wp_value_inv (w' := W) (.bool false) (op_move rfl v38) ⟨_, rfl, hB, Fr.refl _ _, rfl, fun _ _ _ _ _ => trivial⟩
          · simp only [List.getElem?_cons_zero, List.getElem?_cons_succ, Option.some.injEq] at ho
            subst ho
            intro a W vs hB hS hE hU
            obtain ⟨r16, e39⟩ := hE 16 39 (by kernel_rfl) (by kernel_rfl)
            have v39 : a.eval (.tmp 39) = .bool false := e39.trans r16
            refine wpG_yes 16 false 39 rfl (by kernel_rfl) (by rw [hS]; first | simp | exact Nat.le_of_ble_eq_true rfl) v39 ?_
            have v6 : a.eval (.tmp 6) = .int .i64 (ix : Nat) := (hU 6 (by kernel_rfl)).trans rfl
            clear hE hU
            exact wp_value_inv (w' := W) (.int .i64 (ix : Nat)) (op_move rfl v6) ⟨_, rfl, hB, Fr.refl _ _, rfl, fun _ _ _ _ _ => trivial⟩
          · simp only [List.getElem?_cons_zero, List.getElem?_cons_succ, Option.some.injEq] at ho
            subst ho
            intro a W vs hB hS hE hU
            obtain ⟨r16, e39⟩ := hE 16 39 (by kernel_rfl) (by kernel_rfl)
            have v39 : a.eval (.tmp 39) = .bool false := e39.trans r16
            refine wpG_yes 16 false 39 rfl (by kernel_rfl) (by rw [hS]; first | simp | exact Nat.le_of_ble_eq_true rfl) v39 ?_
            have v1 : a.eval (.tmp 1) = .slice (some ⟨bl, ol, none⟩) n cl := (hU 1 (by kernel_rfl)).trans rfl
            clear hE hU
            exact wp_value_inv (w' := W) (.slice (some ⟨bl, ol, none⟩) n cl) (op_move rfl v1) ⟨_, rfl, hB, Fr.refl _ _, rfl, fun _ _ _ _ _ => trivial⟩
          · simp only [List.getElem?_cons_zero, List.getElem?_cons_succ, Option.some.injEq] at ho
            subst ho
            intro a W vs hB hS hE hU
            obtain ⟨r16, e39⟩ := hE 16 39 (by kernel_rfl) (by kernel_rfl)
            have v39 : a.eval (.tmp 39) = .bool false := e39.trans r16
            refine wpG_yes 16 false 39 rfl (by kernel_rfl) (by rw [hS]; first | simp | exact Nat.le_of_ble_eq_true rfl) v39 ?_
            obtain ⟨r18, e41⟩ := hE 18 41 (by kernel_rfl) (by kernel_rfl)
            have v41 : a.eval (.tmp 41) = .slice (some ⟨bl, ol, none⟩) n cl := e41.trans r18
            clear hE hU
            exact wp_value_inv (w' := W) (.int .i64 (n : Nat)) (op_len_paths rfl v41) ⟨_, rfl, hB, Fr.refl _ _, rfl, fun _ _ _ _ _ => trivial⟩
          · simp only [List.getElem?_cons_zero, List.getElem?_cons_succ, Option.some.injEq] at ho
            subst ho
            intro a W vs hB hS hE hU
            obtain ⟨r16, e39⟩ := hE 16 39 (by kernel_rfl) (by kernel_rfl)
            have v39 : a.eval (.tmp 39) = .bool false := e39.trans r16
            refine wpG_yes 16 false 39 rfl (by kernel_rfl) (by rw [hS]; first | simp | exact Nat.le_of_ble_eq_true rfl) v39 ?_
            obtain ⟨r17, e40⟩ := hE 17 40 (by kernel_rfl) (by kernel_rfl)
            have v40 : a.eval (.tmp 40) = .int .i64 (ix : Nat) := e40.trans r17
            obtain ⟨r19, e42⟩ := hE 19 42 (by kernel_rfl) (by kernel_rfl)
            have v42 : a.eval (.tmp 42) = .int .i64 (n : Nat) := e42.trans r19
            clear hE hU
            exact wp_value_inv (w' := W) (.bool false) (op_bin rfl v40 v42 (rfl) (geq_no10 (by have := HIN.out; omega))) ⟨_, rfl, hB, Fr.refl _ _, rfl, fun _ _ _ _ _ => trivial⟩
          · simp only [List.getElem?_cons_zero, List.getElem?_cons_succ, Option.some.injEq] at ho
            subst ho
            intro a W vs hB hS hE hU
            obtain ⟨r16, e39⟩ := hE 16 39 (by kernel_rfl) (by kernel_rfl)
            have v39 : a.eval (.tmp 39) = .bool false := e39.trans r16
            refine wpG_yes 16 false 39 rfl (by kernel_rfl) (by rw [hS]; first | simp | exact Nat.le_of_ble_eq_true rfl) v39 ?_
            obtain ⟨r20, e43⟩ := hE 20 43 (by kernel_rfl) (by kernel_rfl)
            have v43 : a.eval (.tmp 43) = .bool false := e43.trans r20
            clear hE hU
            exact wp_value_inv (w' := W) (.bool false) (op_move rfl v43) ⟨_, rfl, hB, Fr.refl _ _, rfl, fun _ _ _ _ _ => trivial⟩
          · simp only [List.getElem?_cons_zero, List.getElem?_cons_succ, Option.some.injEq] at ho
            subst ho
            intro a W vs hB hS hE hU
            obtain ⟨r21, e44⟩ := hE 21 44 (by kernel_rfl) (by kernel_rfl)
            have v44 : a.eval (.tmp 44) = .bool false := e44.trans r21
            exact wpG_no 21 true 44 rfl (by kernel_rfl) (by rw [hS]; first | simp | exact Nat.le_of_ble_eq_true rfl) v44 ⟨_, rfl, hB, Fr.refl _ _, rfl, fun _ _ _ _ _ => trivial⟩
          · simp only [List.getElem?_cons_zero, List.getElem?_cons_succ, Option.some.injEq] at ho
            subst ho
            intro a W vs hB hS hE hU
            obtain ⟨r21, e44⟩ := hE 21 44 (by kernel_rfl) (by kernel_rfl)
            have v44 : a.eval (.tmp 44) = .bool false := e44.trans r21
            exact wpG_no 21 true 44 rfl (by kernel_rfl) (by rw [hS]; first | simp | exact Nat.le_of_ble_eq_true rfl) v44 ⟨_, rfl, hB, Fr.refl _ _, rfl, fun _ _ _ _ _ => trivial⟩
          · simp only [List.getElem?_cons_zero, List.getElem?_cons_succ, Option.some.injEq] at ho
            subst ho
            intro a W vs hB hS hE hU
            obtain ⟨r21, e44⟩ := hE 21 44 (by kernel_rfl) (by kernel_rfl)
            have v44 : a.eval (.tmp 44) = .bool false := e44.trans r21
            exact wpG_no 21 true 44 rfl (by kernel_rfl) (by rw [hS]; first | simp | exact Nat.le_of_ble_eq_true rfl) v44 ⟨_, rfl, hB, Fr.refl _ _, rfl, fun _ _ _ _ _ => trivial⟩
          · simp only [List.getElem?_cons_zero, List.getElem?_cons_succ, Option.some.injEq] at ho
            subst ho
            intro a W vs hB hS hE hU
            obtain ⟨r21, e44⟩ := hE 21 44 (by kernel_rfl) (by kernel_rfl)
            have v44 : a.eval (.tmp 44) = .bool false := e44.trans r21
            exact wpG_no 21 true 44 rfl (by kernel_rfl) (by rw [hS]; first | simp | exact Nat.le_of_ble_eq_true rfl) v44 ⟨_, rfl, hB, Fr.refl _ _, rfl, fun _ _ _ _ _ => trivial⟩
          · simp only [List.getElem?_cons_zero, List.getElem?_cons_succ, Option.some.injEq] at ho
            subst ho
            intro a W vs hB hS hE hU
            obtain ⟨r21, e44⟩ := hE 21 44 (by kernel_rfl) (by kernel_rfl)
            have v44 : a.eval (.tmp 44) = .bool false := e44.trans r21
            exact wpG_no 21 true 44 rfl (by kernel_rfl) (by rw [hS]; first | simp | exact Nat.le_of_ble_eq_true rfl) v44 ⟨_, rfl, hB, Fr.refl _ _, rfl, fun _ _ _ _ _ => trivial⟩
          · simp only [List.getElem?_cons_zero, List.getElem?_cons_succ, Option.some.injEq] at ho
            subst ho
            intro a W vs hB hS hE hU
            obtain ⟨r21, e44⟩ := hE 21 44 (by kernel_rfl) (by kernel_rfl)
            have v44 : a.eval (.tmp 44) = .bool false := e44.trans r21
            exact wpG_no 21 true 44 rfl (by kernel_rfl) (by rw [hS]; first | simp | exact Nat.le_of_ble_eq_true rfl) v44 ⟨_, rfl, hB, Fr.refl _ _, rfl, fun _ _ _ _ _ => trivial⟩
          · simp only [List.getElem?_cons_zero, List.getElem?_cons_succ, Option.some.injEq] at ho
            subst ho
            intro a W vs hB hS hE hU
            obtain ⟨r21, e44⟩ := hE 21 44 (by kernel_rfl) (by kernel_rfl)
            have v44 : a.eval (.tmp 44) = .bool false := e44.trans r21
            exact wpG_no 21 true 44 rfl (by kernel_rfl) (by rw [hS]; first | simp | exact Nat.le_of_ble_eq_true rfl) v44 ⟨_, rfl, hB, Fr.refl _ _, rfl, fun _ _ _ _ _ => trivial⟩
          · simp only [List.getElem?_cons_zero, List.getElem?_cons_succ, Option.some.injEq] at ho
            subst ho
            intro a W vs hB hS hE hU
            obtain ⟨r21, e44⟩ := hE 21 44 (by kernel_rfl) (by kernel_rfl)
            have v44 : a.eval (.tmp 44) = .bool false := e44.trans r21
            exact wpG_no 21 true 44 rfl (by kernel_rfl) (by rw [hS]; first | simp | exact Nat.le_of_ble_eq_true rfl) v44 ⟨_, rfl, hB, Fr.refl _ _, rfl, fun _ _ _ _ _ => trivial⟩
          · simp only [List.getElem?_cons_zero, List.getElem?_cons_succ, Option.some.injEq] at ho
            subst ho
            intro a W vs hB hS hE hU
            obtain ⟨r21, e44⟩ := hE 21 44 (by kernel_rfl) (by kernel_rfl)
            have v44 : a.eval (.tmp 44) = .bool false := e44.trans r21
            exact wpG_no 21 true 44 rfl (by kernel_rfl) (by rw [hS]; first | simp | exact Nat.le_of_ble_eq_true rfl) v44 ⟨_, rfl, hB, Fr.refl _ _, rfl, fun _ _ _ _ _ => trivial⟩
          · simp only [List.getElem?_cons_zero, List.getElem?_cons_succ, Option.some.injEq] at ho
            subst ho
            intro a W vs hB hS hE hU
            obtain ⟨r21, e44⟩ := hE 21 44 (by kernel_rfl) (by kernel_rfl)
            have v44 : a.eval (.tmp 44) = .bool false := e44.trans r21
            exact wpG_no 21 true 44 rfl (by kernel_rfl) (by rw [hS]; first | simp | exact Nat.le_of_ble_eq_true rfl) v44 ⟨_, rfl, hB, Fr.refl _ _, rfl, fun _ _ _ _ _ => trivial⟩
          · simp only [List.getElem?_cons_zero, List.getElem?_cons_succ, Option.some.injEq] at ho
            subst ho
            intro a W vs hB hS hE hU
            obtain ⟨r21, e44⟩ := hE 21 44 (by kernel_rfl) (by kernel_rfl)
            have v44 : a.eval (.tmp 44) = .bool false := e44.trans r21
            exact wpG_no 21 true 44 rfl (by kernel_rfl) (by rw [hS]; first | simp | exact Nat.le_of_ble_eq_true rfl) v44 ⟨_, rfl, hB, Fr.refl _ _, rfl, fun _ _ _ _ _ => trivial⟩
          · simp only [List.getElem?_cons_zero, List.getElem?_cons_succ, Option.some.injEq] at ho
            subst ho
            intro a W vs hB hS hE hU
            obtain ⟨r16, e39⟩ := hE 16 39 (by kernel_rfl) (by kernel_rfl)
            have v39 : a.eval (.tmp 39) = .bool false := e39.trans r16
            refine wpG_yes 16 false 39 rfl (by kernel_rfl) (by rw [hS]; first | simp | exact Nat.le_of_ble_eq_true rfl) v39 ?_
            obtain ⟨r21, e44⟩ := hE 21 44 (by kernel_rfl) (by kernel_rfl)
            have v44 : a.eval (.tmp 44) = .bool false := e44.trans r21
            clear hE hU
            exact wp_value_inv (w' := W) (.bool false) (op_pick rfl v44 (by simp only [Bool.false_eq_true, if_false]; rfl)) ⟨_, rfl, hB, Fr.refl _ _, rfl, fun _ _ _ _ _ => trivial⟩
        · intro vs Wa hB0 hR0 hD
          have r39 : vs 16 = .bool false := hR0 16 (by decide)
          have r56 : vs 33 = .bool false := hR0 33 (by decide)
          have HB := Lib.hid hB0
          clear hR0 hD hB0
          simp only [acts, if_true, dstAt, List.getElem?_cons_zero, List.getElem?_cons_succ, Option.bind_some, Act.put, List.setIfInBounds_toArray, List.set_cons_succ, List.set_cons_zero, List.drop_succ_cons]
          simp only [r39, r56]
          clear r39 r56
          go_wp2_with fail
          go_roundw
          case rel => exact ⟨ix + 1, by omega, by go_num, Lib.hid (hW.out.trans HB.out (fun _ h => h.elim))⟩
          case measure => simp [intOf]; omega
      · obtain ⟨jx, hjx⟩ : ∃ j, j = ix - n := ⟨_, rfl⟩
        have hj12 : jx < 12 := by omega
        have hxm : x = mP jx := by
          have h1 : (L ++ marksP 12)[ix]? = some (mP jx) := by
            rw [List.getElem?_append_right (by rw [← HN.out]; omega), ← HN.out, ← hjx]
            exact marksP_get 12 jx hj12
          rw [List.getElem?_eq_getElem hia, ← hx] at h1
          exact Option.some.inj h1
        have HMK := Lib.hid (fun W => show Calls Tryz.prog 25 #[.int .i64 1, .int .i64 jx] W fun e w' => e = .returned (.agg CX) ∧ Fr (fun _ => False) W w' by rw [hCX, hxm]; exact markPath_any jx hj12 W)
        have HIN := Lib.hid (show n ≤ ix by omega)
        have HJX := Lib.hid (show jx + n = ix ∧ ix ≤ 1000000 by omega)
        obtain ⟨bl, hbl⟩ : ∃ j : Nat, j = 0 := ⟨_, rfl⟩
        obtain ⟨ol, hol⟩ : ∃ j : Nat, j = 0 := ⟨_, rfl⟩
        clear hx hr hCX hxm hj12 hjx hbl hol
        go_wp2_with fail
        refine wp_region_inv 34 (by kernel_rfl) (by kernel_rfl) (fun W => Fr (fun _ => False) wr W) (KpR0 g n c ix jx bl ol cl al CX) (fun _ _ _ _ => True) (Fr (fun _ => False)) (KpR0.ext g n c ix jx bl ol cl al CX) (Fr.refl _ _).drew ?_ ?_
        · intro i hi o ho
          replace hi : i < 34 := hi
          obtain rfl | rfl | rfl | rfl | rfl | rfl | rfl | rfl | rfl | rfl | rfl | rfl | rfl | rfl | rfl | rfl | rfl | rfl | rfl | rfl | rfl | rfl | rfl | rfl | rfl | rfl | rfl | rfl | rfl | rfl | rfl | rfl | rfl | rfl : i = 0 ∨ i = 1 ∨ i = 2 ∨ i = 3 ∨ i = 4 ∨ i = 5 ∨ i = 6 ∨ i = 7 ∨ i = 8 ∨ i = 9 ∨ i = 10 ∨ i = 11 ∨ i = 12 ∨ i = 13 ∨ i = 14 ∨ i = 15 ∨ i = 16 ∨ i = 17 ∨ i = 18 ∨ i = 19 ∨ i = 20 ∨ i = 21 ∨ i = 22 ∨ i = 23 ∨ i = 24 ∨ i = 25 ∨ i = 26 ∨ i = 27 ∨ i = 28 ∨ i = 29 ∨ i = 30 ∨ i = 31 ∨ i = 32 ∨ i = 33 := by omega
          · simp only [List.getElem?_cons_zero, Option.some.injEq] at ho
            subst ho
            intro a W vs hB hS hE hU
            refine wpG_plain rfl ?_
            have v6 : a.eval (.tmp 6) = .int .i64 (ix : Nat) := (hU 6 (by kernel_rfl)).trans rfl
            clear hE hU
            exact wp_value_inv (w' := W) (.int .i64 (ix : Nat)) (op_move rfl v6) ⟨_, rfl, hB, Fr.refl _ _, rfl, fun _ _ _ _ _ => trivial⟩
          · simp only [List.getElem?_cons_zero, List.getElem?_cons_succ, Option.some.injEq] at ho
            subst ho
            intro a W vs hB hS hE hU
            refine wpG_plain rfl ?_
            have v1 : a.eval (.tmp 1) = .slice al n cl := (hU 1 (by kernel_rfl)).trans rfl
            clear hE hU
            exact wp_value_inv (w' := W) (.slice al n cl) (op_move rfl v1) ⟨_, rfl, hB, Fr.refl _ _, rfl, fun _ _ _ _ _ => trivial⟩
          · simp only [List.getElem?_cons_zero, List.getElem?_cons_succ, Option.some.injEq] at ho
            subst ho
            intro a W vs hB hS hE hU
            refine wpG_plain rfl ?_
            obtain ⟨r1, e24⟩ := hE 1 24 (by kernel_rfl) (by kernel_rfl)
            have v24 : a.eval (.tmp 24) = .slice al n cl := e24.trans r1
            clear hE hU
            exact wp_value_inv (w' := W) (.int .i64 (n : Nat)) (op_len_paths rfl v24) ⟨_, rfl, hB, Fr.refl _ _, rfl, fun _ _ _ _ _ => trivial⟩
          · simp only [List.getElem?_cons_zero, List.getElem?_cons_succ, Option.some.injEq] at ho
            subst ho
            intro a W vs hB hS hE hU
            refine wpG_plain rfl ?_
            obtain ⟨r0, e23⟩ := hE 0 23 (by kernel_rfl) (by kernel_rfl)
            have v23 : a.eval (.tmp 23) = .int .i64 (ix : Nat) := e23.trans r0
            obtain ⟨r2, e25⟩ := hE 2 25 (by kernel_rfl) (by kernel_rfl)
            have v25 : a.eval (.tmp 25) = .int .i64 (n : Nat) := e25.trans r2
            clear hE hU
            exact wp_value_inv (w' := W) (.bool false) (op_bin rfl v23 v25 (rfl) (lss_no (by have := HIN.out; omega))) ⟨_, rfl, hB, Fr.refl _ _, rfl, fun _ _ _ _ _ => trivial⟩
          · simp only [List.getElem?_cons_zero, List.getElem?_cons_succ, Option.some.injEq] at ho
            subst ho
            intro a W vs hB hS hE hU
            refine wpG_plain rfl ?_
            obtain ⟨r3, e26⟩ := hE 3 26 (by kernel_rfl) (by kernel_rfl)
            have v26 : a.eval (.tmp 26) = .bool false := e26.trans r3
            clear hE hU
            exact wp_value_inv (w' := W) (.bool false) (op_move rfl v26) ⟨_, rfl, hB, Fr.refl _ _, rfl, fun _ _ _ _ _ => trivial⟩
          · simp only [List.getElem?_cons_zero, List.getElem?_cons_succ, Option.some.injEq] at ho
            subst ho
            intro a W vs hB hS hE hU
            obtain ⟨r4, e27⟩ := hE 4 27 (by kernel_rfl) (by kernel_rfl)
            have v27 : a.eval (.tmp 27) = .bool false := e27.trans r4
            exact wpG_no 4 true 27 rfl (by kernel_rfl) (by rw [hS]; first | simp | exact Nat.le_of_ble_eq_true rfl) v27 ⟨_, rfl, hB, Fr.refl _ _, rfl, fun _ _ _ _ _ => trivial⟩
          · simp only [List.getElem?_cons_zero, List.getElem?_cons_succ, Option.some.injEq] at ho
            subst ho
            intro a W vs hB hS hE hU
            obtain ⟨r4, e27⟩ := hE 4 27 (by kernel_rfl) (by kernel_rfl)
            have v27 : a.eval (.tmp 27) = .bool false := e27.trans r4
            exact wpG_no 4 true 27 rfl (by kernel_rfl) (by rw [hS]; first | simp | exact Nat.le_of_ble_eq_true rfl) v27 ⟨_, rfl, hB, Fr.refl _ _, rfl, fun _ _ _ _ _ => trivial⟩
          · simp only [List.getElem?_cons_zero, List.getElem?_cons_succ, Option.some.injEq] at ho
            subst ho
            intro a W vs hB hS hE hU
            obtain ⟨r4, e27⟩ := hE 4 27 (by kernel_rfl) (by kernel_rfl)
            have v27 : a.eval (.tmp 27) = .bool false := e27.trans r4
            exact wpG_no 4 true 27 rfl (by kernel_rfl) (by rw [hS]; first | simp | exact Nat.le_of_ble_eq_true rfl) v27 ⟨_, rfl, hB, Fr.refl _ _, rfl, fun _ _ _ _ _ => trivial⟩
          · simp only [List.getElem?_cons_zero, List.getElem?_cons_succ, Option.some.injEq] at ho
            subst ho
            intro a W vs hB hS hE hU
            obtain ⟨r4, e27⟩ := hE 4 27 (by kernel_rfl) (by kernel_rfl)
            have v27 : a.eval (.tmp 27) = .bool false := e27.trans r4
            exact wpG_no 4 true 27 rfl (by kernel_rfl) (by rw [hS]; first | simp | exact Nat.le_of_ble_eq_true rfl) v27 ⟨_, rfl, hB, Fr.refl _ _, rfl, fun _ _ _ _ _ => trivial⟩
          · simp only [List.getElem?_cons_zero, List.getElem?_cons_succ, Option.some.injEq] at ho
            subst ho
            intro a W vs hB hS hE hU
            obtain ⟨r4, e27⟩ := hE 4 27 (by kernel_rfl) (by kernel_rfl)
            have v27 : a.eval (.tmp 27) = .bool false := e27.trans r4
            exact wpG_no 4 true 27 rfl (by kernel_rfl) (by rw [hS]; first | simp | exact Nat.le_of_ble_eq_true rfl) v27 ⟨_, rfl, hB, Fr.refl _ _, rfl, fun _ _ _ _ _ => trivial⟩
          · simp only [List.getElem?_cons_zero, List.getElem?_cons_succ, Option.some.injEq] at ho
            subst ho
            intro a W vs hB hS hE hU
            obtain ⟨r4, e27⟩ := hE 4 27 (by kernel_rfl) (by kernel_rfl)
            have v27 : a.eval (.tmp 27) = .bool false := e27.trans r4
            exact wpG_no 4 true 27 rfl (by kernel_rfl) (by rw [hS]; first | simp | exact Nat.le_of_ble_eq_true rfl) v27 ⟨_, rfl, hB, Fr.refl _ _, rfl, fun _ _ _ _ _ => trivial⟩
          · simp only [List.getElem?_cons_zero, List.getElem?_cons_succ, Option.some.injEq] at ho
            subst ho
            intro a W vs hB hS hE hU
            obtain ⟨r4, e27⟩ := hE 4 27 (by kernel_rfl) (by kernel_rfl)
            have v27 : a.eval (.tmp 27) = .bool false := e27.trans r4
            exact wpG_no 4 true 27 rfl (by kernel_rfl) (by rw [hS]; first | simp | exact Nat.le_of_ble_eq_true rfl) v27 ⟨_, rfl, hB, Fr.refl _ _, rfl, fun _ _ _ _ _ => trivial⟩
          · simp only [List.getElem?_cons_zero, List.getElem?_cons_succ, Option.some.injEq] at ho
            subst ho
            intro a W vs hB hS hE hU
            obtain ⟨r4, e27⟩ := hE 4 27 (by kernel_rfl) (by kernel_rfl)
            have v27 : a.eval (.tmp 27) = .bool false := e27.trans r4
            exact wpG_no 4 true 27 rfl (by kernel_rfl) (by rw [hS]; first | simp | exact Nat.le_of_ble_eq_true rfl) v27 ⟨_, rfl, hB, Fr.refl _ _, rfl, fun _ _ _ _ _ => trivial⟩
          · simp only [List.getElem?_cons_zero, List.getElem?_cons_succ, Option.some.injEq] at ho
            subst ho
            intro a W vs hB hS hE hU
            obtain ⟨r4, e27⟩ := hE 4 27 (by kernel_rfl) (by kernel_rfl)
            have v27 : a.eval (.tmp 27) = .bool false := e27.trans r4
            exact wpG_no 4 true 27 rfl (by kernel_rfl) (by rw [hS]; first | simp | exact Nat.le_of_ble_eq_true rfl) v27 ⟨_, rfl, hB, Fr.refl _ _, rfl, fun _ _ _ _ _ => trivial⟩
          · simp only [List.getElem?_cons_zero, List.getElem?_cons_succ, Option.some.injEq] at ho
            subst ho
            intro a W vs hB hS hE hU
            obtain ⟨r4, e27⟩ := hE 4 27 (by kernel_rfl) (by kernel_rfl)
            have v27 : a.eval (.tmp 27) = .bool false := e27.trans r4
            exact wpG_no 4 true 27 rfl (by kernel_rfl) (by rw [hS]; first | simp | exact Nat.le_of_ble_eq_true rfl) v27 ⟨_, rfl, hB, Fr.refl _ _, rfl, fun _ _ _ _ _ => trivial⟩
          · simp only [List.getElem?_cons_zero, List.getElem?_cons_succ, Option.some.injEq] at ho
            subst ho
            intro a W vs hB hS hE hU
            refine wpG_plain rfl ?_
            obtain ⟨r4, e27⟩ := hE 4 27 (by kernel_rfl) (by kernel_rfl)
            have v27 : a.eval (.tmp 27) = .bool false := e27.trans r4
            clear hE hU
            exact wp_value_inv (w' := W) (.bool false) (op_pick rfl v27 (by simp only [Bool.false_eq_true, if_false]; rfl)) ⟨_, rfl, hB, Fr.refl _ _, rfl, fun _ _ _ _ _ => trivial⟩
          · simp only [List.getElem?_cons_zero, List.getElem?_cons_succ, Option.some.injEq] at ho
            subst ho
            intro a W vs hB hS hE hU
            refine wpG_plain rfl ?_
            obtain ⟨r15, e38⟩ := hE 15 38 (by kernel_rfl) (by kernel_rfl)
            have v38 : a.eval (.tmp 38) = .bool false := e38.trans r15
            clear hE hU
            exact wp_value_inv (w' := W) (.bool false) (op_move rfl v38) ⟨_, rfl, hB, Fr.refl _ _, rfl, fun _ _ _ _ _ => trivial⟩
          · simp only [List.getElem?_cons_zero, List.getElem?_cons_succ, Option.some.injEq] at ho
            subst ho
            intro a W vs hB hS hE hU
            obtain ⟨r16, e39⟩ := hE 16 39 (by kernel_rfl) (by kernel_rfl)
            have v39 : a.eval (.tmp 39) = .bool false := e39.trans r16
            refine wpG_yes 16 false 39 rfl (by kernel_rfl) (by rw [hS]; first | simp | exact Nat.le_of_ble_eq_true rfl) v39 ?_
            have v6 : a.eval (.tmp 6) = .int .i64 (ix : Nat) := (hU 6 (by kernel_rfl)).trans rfl
            clear hE hU
            exact wp_value_inv (w' := W) (.int .i64 (ix : Nat)) (op_move rfl v6) ⟨_, rfl, hB, Fr.refl _ _, rfl, fun _ _ _ _ _ => trivial⟩
          · simp only [List.getElem?_cons_zero, List.getElem?_cons_succ, Option.some.injEq] at ho
            subst ho
            intro a W vs hB hS hE hU
            obtain ⟨r16, e39⟩ := hE 16 39 (by kernel_rfl) (by kernel_rfl)
            have v39 : a.eval (.tmp 39) = .bool false := e39.trans r16
            refine wpG_yes 16 false 39 rfl (by kernel_rfl) (by rw [hS]; first | simp | exact Nat.le_of_ble_eq_true rfl) v39 ?_
            have v1 : a.eval (.tmp 1) = .slice al n cl := (hU 1 (by kernel_rfl)).trans rfl
            clear hE hU
            exact wp_value_inv (w' := W) (.slice al n cl) (op_move rfl v1) ⟨_, rfl, hB, Fr.refl _ _, rfl, fun _ _ _ _ _ => trivial⟩
          · simp only [List.getElem?_cons_zero, List.getElem?_cons_succ, Option.some.injEq] at ho
            subst ho
            intro a W vs hB hS hE hU
            obtain ⟨r16, e39⟩ := hE 16 39 (by kernel_rfl) (by kernel_rfl)
            have v39 : a.eval (.tmp 39) = .bool false := e39.trans r16
            refine wpG_yes 16 false 39 rfl (by kernel_rfl) (by rw [hS]; first | simp | exact Nat.le_of_ble_eq_true rfl) v39 ?_
            obtain ⟨r18, e41⟩ := hE 18 41 (by kernel_rfl) (by kernel_rfl)
            have v41 : a.eval (.tmp 41) = .slice al n cl := e41.trans r18
            clear hE hU
            exact wp_value_inv (w' := W) (.int .i64 (n : Nat)) (op_len_paths rfl v41) ⟨_, rfl, hB, Fr.refl _ _, rfl, fun _ _ _ _ _ => trivial⟩
          · simp only [List.getElem?_cons_zero, List.getElem?_cons_succ, Option.some.injEq] at ho
            subst ho
            intro a W vs hB hS hE hU
            obtain ⟨r16, e39⟩ := hE 16 39 (by kernel_rfl) (by kernel_rfl)
            have v39 : a.eval (.tmp 39) = .bool false := e39.trans r16
            refine wpG_yes 16 false 39 rfl (by kernel_rfl) (by rw [hS]; first | simp | exact Nat.le_of_ble_eq_true rfl) v39 ?_
            obtain ⟨r17, e40⟩ := hE 17 40 (by kernel_rfl) (by kernel_rfl)
            have v40 : a.eval (.tmp 40) = .int .i64 (ix : Nat) := e40.trans r17
            obtain ⟨r19, e42⟩ := hE 19 42 (by kernel_rfl) (by kernel_rfl)
            have v42 : a.eval (.tmp 42) = .int .i64 (n : Nat) := e42.trans r19
            clear hE hU
            exact wp_value_inv (w' := W) (.bool true) (op_bin rfl v40 v42 (rfl) (geq_yes10 (by have := HIN.out; omega))) ⟨_, rfl, hB, Fr.refl _ _, rfl, fun _ _ _ _ _ => trivial⟩
          · simp only [List.getElem?_cons_zero, List.getElem?_cons_succ, Option.some.injEq] at ho
            subst ho
            intro a W vs hB hS hE hU
            obtain ⟨r16, e39⟩ := hE 16 39 (by kernel_rfl) (by kernel_rfl)
            have v39 : a.eval (.tmp 39) = .bool false := e39.trans r16
            refine wpG_yes 16 false 39 rfl (by kernel_rfl) (by rw [hS]; first | simp | exact Nat.le_of_ble_eq_true rfl) v39 ?_
            obtain ⟨r20, e43⟩ := hE 20 43 (by kernel_rfl) (by kernel_rfl)
            have v43 : a.eval (.tmp 43) = .bool true := e43.trans r20
            clear hE hU
            exact wp_value_inv (w' := W) (.bool true) (op_move rfl v43) ⟨_, rfl, hB, Fr.refl _ _, rfl, fun _ _ _ _ _ => trivial⟩
          · simp only [List.getElem?_cons_zero, List.getElem?_cons_succ, Option.some.injEq] at ho
            subst ho
            intro a W vs hB hS hE hU
            obtain ⟨r21, e44⟩ := hE 21 44 (by kernel_rfl) (by kernel_rfl)
            have v44 : a.eval (.tmp 44) = .bool true := e44.trans r21
            refine wpG_yes 21 true 44 rfl (by kernel_rfl) (by rw [hS]; first | simp | exact Nat.le_of_ble_eq_true rfl) v44 ?_
            have v5 : a.eval (.tmp 5) = .slice (some ⟨g, 0, none⟩) (n + 12) c := (hU 5 (by kernel_rfl)).trans rfl
            clear hE hU
            exact wp_value_inv (w' := W) (.slice (some ⟨g, 0, none⟩) (n + 12) c) (op_move rfl v5) ⟨_, rfl, hB, Fr.refl _ _, rfl, fun _ _ _ _ _ => trivial⟩
          · simp only [List.getElem?_cons_zero, List.getElem?_cons_succ, Option.some.injEq] at ho
            subst ho
            intro a W vs hB hS hE hU
            obtain ⟨r21, e44⟩ := hE 21 44 (by kernel_rfl) (by kernel_rfl)
            have v44 : a.eval (.tmp 44) = .bool true := e44.trans r21
            refine wpG_yes 21 true 44 rfl (by kernel_rfl) (by rw [hS]; first | simp | exact Nat.le_of_ble_eq_true rfl) v44 ?_
            have v6 : a.eval (.tmp 6) = .int .i64 (ix : Nat) := (hU 6 (by kernel_rfl)).trans rfl
            clear hE hU
            exact wp_value_inv (w' := W) (.int .i64 (ix : Nat)) (op_move rfl v6) ⟨_, rfl, hB, Fr.refl _ _, rfl, fun _ _ _ _ _ => trivial⟩
          · simp only [List.getElem?_cons_zero, List.getElem?_cons_succ, Option.some.injEq] at ho
            subst ho
            intro a W vs hB hS hE hU
            obtain ⟨r21, e44⟩ := hE 21 44 (by kernel_rfl) (by kernel_rfl)
            have v44 : a.eval (.tmp 44) = .bool true := e44.trans r21
            refine wpG_yes 21 true 44 rfl (by kernel_rfl) (by rw [hS]; first | simp | exact Nat.le_of_ble_eq_true rfl) v44 ?_
            obtain ⟨r22, e45⟩ := hE 22 45 (by kernel_rfl) (by kernel_rfl)
            have v45 : a.eval (.tmp 45) = .slice (some ⟨g, 0, none⟩) (n + 12) c := e45.trans r22
            obtain ⟨r23, e46⟩ := hE 23 46 (by kernel_rfl) (by kernel_rfl)
            have v46 : a.eval (.tmp 46) = .int .i64 (ix : Nat) := e46.trans r23
            clear hE hU
            exact wp_value_inv (w' := W) (.pointer (some ⟨g, 0 + ix * 21, none⟩)) (op_indexAddr rfl v45 v46 (run_index_paths W g 0 (n + 12) c ix HIXA.out)) ⟨_, rfl, hB, Fr.refl _ _, rfl, fun _ _ _ _ _ => trivial⟩
          · simp only [List.getElem?_cons_zero, List.getElem?_cons_succ, Option.some.injEq] at ho
            subst ho
            intro a W vs hB hS hE hU
            obtain ⟨r21, e44⟩ := hE 21 44 (by kernel_rfl) (by kernel_rfl)
            have v44 : a.eval (.tmp 44) = .bool true := e44.trans r21
            refine wpG_yes 21 true 44 rfl (by kernel_rfl) (by rw [hS]; first | simp | exact Nat.le_of_ble_eq_true rfl) v44 ?_
            obtain ⟨r24, e47⟩ := hE 24 47 (by kernel_rfl) (by kernel_rfl)
            have v47 : a.eval (.tmp 47) = .pointer (some ⟨g, 0 + ix * 21, none⟩) := e47.trans r24
            clear hE hU
            exact wp_value_inv (w' := W) (.agg CX) (op_loadAt rfl v47 (LDX.out W hB)) ⟨_, rfl, hB, Fr.refl _ _, rfl, fun _ _ _ _ _ => trivial⟩
          · simp only [List.getElem?_cons_zero, List.getElem?_cons_succ, Option.some.injEq] at ho
            subst ho
            intro a W vs hB hS hE hU
            obtain ⟨r21, e44⟩ := hE 21 44 (by kernel_rfl) (by kernel_rfl)
            have v44 : a.eval (.tmp 44) = .bool true := e44.trans r21
            refine wpG_yes 21 true 44 rfl (by kernel_rfl) (by rw [hS]; first | simp | exact Nat.le_of_ble_eq_true rfl) v44 ?_
            have v6 : a.eval (.tmp 6) = .int .i64 (ix : Nat) := (hU 6 (by kernel_rfl)).trans rfl
            clear hE hU
            exact wp_value_inv (w' := W) (.int .i64 (ix : Nat)) (op_move rfl v6) ⟨_, rfl, hB, Fr.refl _ _, rfl, fun _ _ _ _ _ => trivial⟩
          · simp only [List.getElem?_cons_zero, List.getElem?_cons_succ, Option.some.injEq] at ho
            subst ho
            intro a W vs hB hS hE hU
            obtain ⟨r21, e44⟩ := hE 21 44 (by kernel_rfl) (by kernel_rfl)
            have v44 : a.eval (.tmp 44) = .bool true := e44.trans r21
            refine wpG_yes 21 true 44 rfl (by kernel_rfl) (by rw [hS]; first | simp | exact Nat.le_of_ble_eq_true rfl) v44 ?_
            have v1 : a.eval (.tmp 1) = .slice al n cl := (hU 1 (by kernel_rfl)).trans rfl
            clear hE hU
            exact wp_value_inv (w' := W) (.slice al n cl) (op_move rfl v1) ⟨_, rfl, hB, Fr.refl _ _, rfl, fun _ _ _ _ _ => trivial⟩
          · simp only [List.getElem?_cons_zero, List.getElem?_cons_succ, Option.some.injEq] at ho
            subst ho
            intro a W vs hB hS hE hU
            obtain ⟨r21, e44⟩ := hE 21 44 (by kernel_rfl) (by kernel_rfl)
            have v44 : a.eval (.tmp 44) = .bool true := e44.trans r21
            refine wpG_yes 21 true 44 rfl (by kernel_rfl) (by rw [hS]; first | simp | exact Nat.le_of_ble_eq_true rfl) v44 ?_
            obtain ⟨r27, e50⟩ := hE 27 50 (by kernel_rfl) (by kernel_rfl)
            have v50 : a.eval (.tmp 50) = .slice al n cl := e50.trans r27
            clear hE hU
            exact wp_value_inv (w' := W) (.int .i64 (n : Nat)) (op_len_paths rfl v50) ⟨_, rfl, hB, Fr.refl _ _, rfl, fun _ _ _ _ _ => trivial⟩
          · simp only [List.getElem?_cons_zero, List.getElem?_cons_succ, Option.some.injEq] at ho
            subst ho
            intro a W vs hB hS hE hU
            obtain ⟨r21, e44⟩ := hE 21 44 (by kernel_rfl) (by kernel_rfl)
            have v44 : a.eval (.tmp 44) = .bool true := e44.trans r21
            refine wpG_yes 21 true 44 rfl (by kernel_rfl) (by rw [hS]; first | simp | exact Nat.le_of_ble_eq_true rfl) v44 ?_
            obtain ⟨r26, e49⟩ := hE 26 49 (by kernel_rfl) (by kernel_rfl)
            have v49 : a.eval (.tmp 49) = .int .i64 (ix : Nat) := e49.trans r26
            obtain ⟨r28, e51⟩ := hE 28 51 (by kernel_rfl) (by kernel_rfl)
            have v51 : a.eval (.tmp 51) = .int .i64 (n : Nat) := e51.trans r28
            clear hE hU
            exact wp_value_inv (w' := W) (.int .i64 (jx : Nat)) (op_bin rfl v49 v51 (rfl) (sub_in5 (by have := HIN.out; have := HJX.out; omega) (by omega) (by have := HJX.out; omega))) ⟨_, rfl, hB, Fr.refl _ _, rfl, fun _ _ _ _ _ => trivial⟩
          · simp only [List.getElem?_cons_zero, List.getElem?_cons_succ, Option.some.injEq] at ho
            subst ho
            intro a W vs hB hS hE hU
            obtain ⟨r21, e44⟩ := hE 21 44 (by kernel_rfl) (by kernel_rfl)
            have v44 : a.eval (.tmp 44) = .bool true := e44.trans r21
            refine wpG_yes 21 true 44 rfl (by kernel_rfl) (by rw [hS]; first | simp | exact Nat.le_of_ble_eq_true rfl) v44 ?_
            obtain ⟨r29, e52⟩ := hE 29 52 (by kernel_rfl) (by kernel_rfl)
            have v52 : a.eval (.tmp 52) = .int .i64 (jx : Nat) := e52.trans r29
            clear hE hU
            refine wp_call_inv 25 #[.const (.int .i64 1), .tmp 52] #[3, 3] rfl #[.int .i64 1, .int .i64 (jx : Nat)] (by simp only [List.map_toArray, List.map_cons, List.map_nil, eval_const5, v52]) (ent_spence_spencekit_markPath _) (Post := fun v W' => v = .agg CX ∧ Fr (fun _ => False) W W') ((HMK.out W).mono fun e w' h => ⟨_, h.1, rfl, h.2⟩) ?_
            rintro v W' ⟨rfl, hf⟩
            exact ⟨_, rfl, hB.trans hf (fun _ h => h.elim), hf, rfl, fun _ _ _ _ _ => trivial⟩
          · simp only [List.getElem?_cons_zero, List.getElem?_cons_succ, Option.some.injEq] at ho
            subst ho
            intro a W vs hB hS hE hU
            obtain ⟨r21, e44⟩ := hE 21 44 (by kernel_rfl) (by kernel_rfl)
            have v44 : a.eval (.tmp 44) = .bool true := e44.trans r21
            refine wpG_yes 21 true 44 rfl (by kernel_rfl) (by rw [hS]; first | simp | exact Nat.le_of_ble_eq_true rfl) v44 ?_
            obtain ⟨r25, e48⟩ := hE 25 48 (by kernel_rfl) (by kernel_rfl)
            have v48 : a.eval (.tmp 48) = .agg CX := e48.trans r25
            obtain ⟨r30, e53⟩ := hE 30 53 (by kernel_rfl) (by kernel_rfl)
            have v53 : a.eval (.tmp 53) = .agg CX := e53.trans r30
            clear hE hU
            exact wp_value_inv (w' := W) (.bool true) (op_bin rfl v48 v53 (guard_path W _ _ _ _ _) (HEQ.out W)) ⟨_, rfl, hB, Fr.refl _ _, rfl, fun _ _ _ _ _ => trivial⟩
          · simp only [List.getElem?_cons_zero, List.getElem?_cons_succ, Option.some.injEq] at ho
            subst ho
            intro a W vs hB hS hE hU
            obtain ⟨r21, e44⟩ := hE 21 44 (by kernel_rfl) (by kernel_rfl)
            have v44 : a.eval (.tmp 44) = .bool true := e44.trans r21
            refine wpG_yes 21 true 44 rfl (by kernel_rfl) (by rw [hS]; first | simp | exact Nat.le_of_ble_eq_true rfl) v44 ?_
            obtain ⟨r31, e54⟩ := hE 31 54 (by kernel_rfl) (by kernel_rfl)
            have v54 : a.eval (.tmp 54) = .bool true := e54.trans r31
            clear hE hU
            exact wp_value_inv (w' := W) (.bool false) (op_unop rfl v54 (by rfl)) ⟨_, rfl, hB, Fr.refl _ _, rfl, fun _ _ _ _ _ => trivial⟩
          · simp only [List.getElem?_cons_zero, List.getElem?_cons_succ, Option.some.injEq] at ho
            subst ho
            intro a W vs hB hS hE hU
            obtain ⟨r16, e39⟩ := hE 16 39 (by kernel_rfl) (by kernel_rfl)
            have v39 : a.eval (.tmp 39) = .bool false := e39.trans r16
            refine wpG_yes 16 false 39 rfl (by kernel_rfl) (by rw [hS]; first | simp | exact Nat.le_of_ble_eq_true rfl) v39 ?_
            obtain ⟨r21, e44⟩ := hE 21 44 (by kernel_rfl) (by kernel_rfl)
            have v44 : a.eval (.tmp 44) = .bool true := e44.trans r21
            obtain ⟨r32, e55⟩ := hE 32 55 (by kernel_rfl) (by kernel_rfl)
            have v55 : a.eval (.tmp 55) = .bool false := e55.trans r32
            clear hE hU
            exact wp_value_inv (w' := W) (.bool false) (op_pick rfl v44 (by simp only [if_true]; exact v55)) ⟨_, rfl, hB, Fr.refl _ _, rfl, fun _ _ _ _ _ => trivial⟩
        · intro vs Wa hB0 hR0 hD
          have r39 : vs 16 = .bool false := hR0 16 (by decide)
          have r56 : vs 33 = .bool false := hR0 33 (by decide)
          have HB := Lib.hid hB0
          clear hR0 hD hB0
          simp only [acts, if_true, dstAt, List.getElem?_cons_zero, List.getElem?_cons_succ, Option.bind_some, Act.put, List.setIfInBounds_toArray, List.set_cons_succ, List.set_cons_zero, List.drop_succ_cons]
          simp only [r39, r56]
          clear r39 r56
          go_wp2_with fail
          go_roundw
          case rel => exact ⟨ix + 1, by omega, by go_num, Lib.hid (hW.out.trans HB.out (fun _ h => h.elim))⟩
          case measure => simp [intOf]; omega
    · have hil64 : ¬ (ix : Int) < (n : Int) + 12 := by omega
      go_wp2_with fail
      go_ret
      exact ⟨rfl, hW.out⟩
end Go.Proofs.YtfkgdjoaoidkeaaGreat
