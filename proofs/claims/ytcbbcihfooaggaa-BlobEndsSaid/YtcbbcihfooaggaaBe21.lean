/- Laid together: RPlacesY RWrBad -/
import Derived.Test.YtcbbcihfooaggaaBe20

namespace Go.Proofs.Ytcbbcihfooaggaa
open Go.RowKit Go.ChangeShapes
set_option linter.unusedVariables false
def inC (x : Int) : List Value := [.int .i64 x]
theorem infoI7 : (Try.prog.info? 3).map (fun i => (i.zero, i.size, i.bytes)) = some (some (.int .i64 0), 1, 8) := by kernel_rfl
def OwnI (z : Nat) (w : World) (v : Value) (l : List Nat) : Prop := OwnE 3 1 z w v (l.map (fun (x : Nat) => inC x))
theorem OwnI.form {z : Nat} {w : World} {v : Value} {l : List Nat} (h : OwnI z w v l) : ∃ ao c, v = .slice ao l.length c := by
  obtain ⟨ao, c, hv⟩ := OwnE.form h
  rw [List.length_map] at hv
  exact ⟨ao, c, hv⟩
theorem OwnI.lower {z z' : Nat} {w : World} {v : Value} {l : List Nat} (h : OwnI z w v l) (hz : z' ≤ z) : OwnI z' w v l := by
  refine ⟨⟨(OwnE.row h).1, ?_⟩, OwnE.each h⟩
  rcases (OwnE.row h).2 with e | ⟨g, cap, cur, hv, hb, r⟩
  · exact .inl e
  · exact .inr ⟨g, cap, cur, hv, Nat.le_trans hz hb, r⟩
theorem run_index7 (w : World) (b off n cap i : Nat) (h : i < n) : (Instr.indexAt 24 (.slice (some ⟨b, off, none⟩) n cap) (.int .i64 i)).run Try.prog w = .ok (.pointer (some ⟨b, off + i * 2, none⟩)) w := by
  have hs : ∀ w, (sizeOf 68).run Try.prog w = .ok 2 w := fun w => by kernel_rfl
  simp [Instr.indexAt, h, Addr.add, asIntOf, run_underlying Try.underlying24, hs]
theorem fld7_0 (w : World) (g o : Nat) : (Instr.fieldAt 68 (.pointer (some ⟨g, o, none⟩)) 0).run Try.prog w = .ok (.pointer (some ⟨g, o, none⟩)) w := by kernel_rfl
theorem run_int1 (w : World) (x : Int) : (Instr.buildSlice 66 1 #[(0, .int .i64 x)]).run Try.prog w = .ok (.slice (some ⟨w.heap.size, 0, none⟩) 1 1) (w.alloc (.cells #[.int .i64 x] 3)) := by kernel_rfl
theorem p7_ent_spence_spenceref05_First (args : Array Value) (w : World) : (callFunc 77 args).run Try.prog w = .ok (.enter 77 args) w := by kernel_rfl
def PlD (g b5 s nh ch : Nat) (L A Dt many sx : Int) (ah : Option Addr) (i : Nat) (v : Value) (W : World) : Prop :=
  match i with
  | 0 => v = .agg #[.int .i64 L, .int .i64 A, .int .i64 Dt]
  | 1 => v = .slice ah nh ch
  | 2 => v = .bool true
  | 3 => v = .bool false
  | 4 => v = .bool false
  | 5 => v = .int .i64 many
  | 6 => v = .bool false
  | 7 => v = .bool false
  | 8 => v = .bool false
  | 9 => v = .pointer (some ⟨g, 0, none⟩)
  | 10 => v = .int .i64 (s : Nat)
  | 11 => v = .agg #[.int .i64 L, .int .i64 A, .int .i64 Dt]
  | 12 => v = .int .i64 sx
  | 13 => v = .bool false
  | 14 => v = .bool false
  | _ => True
theorem PlD.ext (g b5 s nh ch : Nat) (L A Dt many sx : Int) (ah : Option Addr) : ∀ (j : Nat) (u : Value) (W W' : World), Fr (fun _ => False) W W' → PlD g b5 s nh ch L A Dt many sx ah j u W → PlD g b5 s nh ch L A Dt many sx ah j u W'
  | 0, u, W, W', hf, h => h
  | 1, u, W, W', hf, h => h
  | 2, u, W, W', hf, h => h
  | 3, u, W, W', hf, h => h
  | 4, u, W, W', hf, h => h
  | 5, u, W, W', hf, h => h
  | 6, u, W, W', hf, h => h
  | 7, u, W, W', hf, h => h
  | 8, u, W, W', hf, h => h
  | 9, u, W, W', hf, h => h
  | 10, u, W, W', hf, h => h
  | 11, u, W, W', hf, h => h
  | 12, u, W, W', hf, h => h
  | 13, u, W, W', hf, h => h
  | 14, u, W, W', hf, h => h
  | _ + 15, u, W, W', hf, h => trivial
def PrR (b5 b off nh ch i7 k7 x7 f0 l0 la d cur cc : Nat) (ac : Option Addr) (i : Nat) (v : Value) (W : World) : Prop :=
  match i with
  | 0 => v = .slice ac cur cc
  | 1 => v = .agg #[.int .i64 (l0 : Nat), .int .i64 (la : Nat), .int .i64 (d : Nat)]
  | 2 => v = .int .i64 (f0 : Nat)
  | 3 => v = .slice (some ⟨b, off, none⟩) nh ch
  | 4 => v = .int .i64 (i7 : Nat)
  | 5 => v = .pointer (some ⟨b, off + i7 * 2, none⟩)
  | 6 => v = .pointer (some ⟨b, off + i7 * 2, none⟩)
  | 7 => v = .int .i64 (x7 : Nat)
  | 8 => v = .int .i64 ((f0 + x7 : Nat) : Int)
  | 9 => v = .int .i64 (k7 : Nat)
  | 10 => v = .int .i64 ((f0 + x7 + k7 : Nat) : Int)
  | 11 => ∃ gi, v = .slice (some ⟨gi, 0, none⟩) 1 1 ∧ W.heap[gi]? = some (.cells #[.int .i64 ((f0 + x7 + k7 : Nat) : Int)] 3 (0, 0))
  | _ => True
theorem PrR.ext (b5 b off nh ch i7 k7 x7 f0 l0 la d cur cc : Nat) (ac : Option Addr) : ∀ (j : Nat) (u : Value) (W W' : World), Fr (fun _ => False) W W' → PrR b5 b off nh ch i7 k7 x7 f0 l0 la d cur cc ac j u W → PrR b5 b off nh ch i7 k7 x7 f0 l0 la d cur cc ac j u W'
  | 0, u, W, W', hf, h => h
  | 1, u, W, W', hf, h => h
  | 2, u, W, W', hf, h => h
  | 3, u, W, W', hf, h => h
  | 4, u, W, W', hf, h => h
  | 5, u, W, W', hf, h => h
  | 6, u, W, W', hf, h => h
  | 7, u, W, W', hf, h => h
  | 8, u, W, W', hf, h => h
  | 9, u, W, W', hf, h => h
  | 10, u, W, W', hf, h => h
  | 11, u, W, W', hf, h => (let ⟨gi, h1, h2⟩ := h; ⟨gi, h1, hf.heap h2 id⟩)
  | _ + 12, u, W, W', hf, h => trivial
set_option maxRecDepth 100000 in
set_option maxHeartbeats 8000000 in
theorem rPlaces_yes {D F : Nat → Prop} (w : World) (g s : Nat) (dv : Dv) (l0 la d s0 : Nat) (many : Int) (v : Value) (l : List Rn) (h : RefAt w D g s dv) (hs2 : s ≤ 8192) (hm0 : 0 ≤ many) (hm2 : many ≤ 9223372036854775807) (hL : RnsIn F w v l) (hF : ∀ k, F k → k < w.heap.size) (hsh : ShOk l0 la d s0) (hap : apart7 d l = true) (hss : s0 ≤ s) :
    Calls Try.prog 53 #[.pointer (some ⟨g, 0, none⟩), .agg #[.int .i64 l0, .int .i64 la, .int .i64 d], .int .i64 many, v] w fun e w' => ∃ u, e = .returned (.tuple #[u, .bool (((secs7 l).length : Int) == need7 many)]) ∧ OwnI w.heap.size w' u ((secs7 l).map (1 + l0 + 2 * la + ·)) ∧ Fr (fun _ => False) w w' := by
  obtain ⟨ah, ch, rfl, hc1, hc2, b, off, hao, hcells⟩ := hL.open7
  obtain ⟨nh, hn⟩ : ∃ nh, nh = l.length := ⟨_, rfl⟩
  rw [← hn] at hL hc1 hao ⊢
  obtain ⟨b5, hb5⟩ : ∃ b5, b5 = w.heap.size := ⟨_, rfl⟩
  obtain ⟨L, hL0⟩ : ∃ L : Int, L = l0 := ⟨_, rfl⟩
  obtain ⟨A, hA0⟩ : ∃ A : Int, A = la := ⟨_, rfl⟩
  obtain ⟨Dt, hD0⟩ : ∃ Dt : Int, Dt = d := ⟨_, rfl⟩
  obtain ⟨f0, hf0⟩ : ∃ f0, f0 = 1 + l0 + 2 * la := ⟨_, rfl⟩
  have HFI := Lib.hid (fun W => rFirst_any W l0 la d s0 hsh)
  have hap7 : ap7 (l0 : Int) la d l = true := by rw [ap7_ok hsh]; exact hap
  have hsx : secsS (l0 : Int) la d = s0 := by
    unfold secsS
    rw [if_pos (by unfold ap7 at hap7; rw [Bool.and_eq_true] at hap7; exact hap7.1), hsh.sum]
    push_cast
    rfl
  have hfd : f0 + d ≤ 8192 := by have := hsh.sum; have := hsh.most; omega
  rw [← hf0] at HFI ⊢
  obtain ⟨W1, hW1⟩ : ∃ W1, W1 = w.alloc (.cells #[.int .i64 (l0 : Int), .int .i64 (la : Int), .int .i64 (d : Int)] 23) := ⟨_, rfl⟩
  have hf1 : Fr (fun _ => False) w W1 := by rw [hW1]; exact (Fr.refl _ _).alloc _
  have hrow : W1.heap[b5]? = some (.cells #[.int .i64 (l0 : Int), .int .i64 (la : Int), .int .i64 (d : Int)] 23 (0, 0)) := by rw [hW1, hb5]; exact heap_alloc_new w _
  have hL1 := (hL.mono (G := fun k => F k ∧ k < w.heap.size) (fun k hk hF => ⟨hF, hk⟩)).quiet hf1
  have hd1 := h.keep hf1 (fun _ _ _ h => h)
  have hAP := (fun W (hW : Fr (fun _ => False) W1 W) => rApart_any W l0 la d (.slice ah nh ch) l (hL1.quiet hW) (fun k hk => by have := hk.2; have := hf1.size; have := hW.size; omega))
  rw [hap7] at hAP
  have hSE := (fun W => r5Sectors_any W l0 la d)
  have HDS := Lib.hid (fun W (hW : Fr (fun _ => False) W1 W) => rDevSecs W g s dv (hd1.keep hW (fun _ _ _ h => h)))
  obtain ⟨sx, hsx2⟩ : ∃ sx, sx = secsS (l0 : Int) la d := ⟨_, rfl⟩
  rw [← hsx2] at hSE
  have HS0 := Lib.hid (show sx ≤ (s : Int) by omega)
  have HM0 := Lib.hid hm0
  have HN := Lib.hid (fun W => rNeed_any W many (by omega) hm2)
  have HF := Lib.hid hf1
  have HRW := Lib.hid hrow
  have hok := (apart7_iff.1 hap).1
  have hle := apart7_le hap
  have HX := Lib.hid (And.intro hok (And.intro hle (And.intro hfd (And.intro hn (And.intro hao (And.intro hcells hb5))))))
  have LDS := Lib.hid (fun W (hW : Fr (fun _ => False) W1 W) => load_shape5 W b5 0 _ _ _ (range_row5 (hW.heap hrow id)))
  rw [← hL0, ← hA0, ← hD0] at hAP hSE LDS
  have HAP := Lib.hid hAP
  have HSE := Lib.hid hSE
  have hW1' := hW1
  rw [← hL0, ← hA0, ← hD0] at hW1' ⊢
  have HLD := Lib.hid (And.intro hL0 (And.intro hA0 hD0))
  obtain ⟨bb, hbb⟩ : ∃ bb, bb = (((secs7 l).length : Int) == need7 many) := ⟨_, rfl⟩
  have HBB := Lib.hid hbb
  rw [← hbb]
  clear hrow hL1 hd1 hsx hsx2 hL hF h hf1 hn hAP hSE hok hle hfd hcells hao hap hap7 hsh hf0 hss hm0 hm2 hW1 hbb hL0 hA0 hD0
  go_enter Try.func53, Try.ntmps53
  go_wp2
  rw [← hW1', ← hb5]
  clear hW1' hb5
  refine wp_region_inv 15 (by kernel_rfl) (by kernel_rfl) (fun W => Fr (fun _ => False) W1 W) (PlD g b5 s nh ch L A Dt many sx ah) (fun _ _ _ _ => True) (Fr (fun _ => False)) (PlD.ext g b5 s nh ch L A Dt many sx ah) (Fr.refl _ _).drew ?_ ?_
  · intro i hi o ho
    replace hi : i < 15 := hi
    obtain rfl | rfl | rfl | rfl | rfl | rfl | rfl | rfl | rfl | rfl | rfl | rfl | rfl | rfl | rfl : i = 0 ∨ i = 1 ∨ i = 2 ∨ i = 3 ∨ i = 4 ∨ i = 5 ∨ i = 6 ∨ i = 7 ∨ i = 8 ∨ i = 9 ∨ i = 10 ∨ i = 11 ∨ i = 12 ∨ i = 13 ∨ i = 14 := by omega
    · simp only [List.getElem?_cons_zero, Option.some.injEq] at ho
      subst ho
      intro a W vs hB hS hE hU
      refine wpG_plain rfl ?_
      have v5 : a.eval (.tmp 5) = .pointer (some ⟨b5, 0, none⟩) := (hU 5 (by kernel_rfl)).trans rfl
      clear hE hU
      exact wp_value_inv (w' := W) (.agg #[.int .i64 L, .int .i64 A, .int .i64 Dt]) (op_loadAt rfl v5 (LDS.out W hB)) ⟨_, rfl, hB, Fr.refl _ _, rfl, fun _ _ _ _ _ => trivial⟩
    · simp only [List.getElem?_cons_zero, List.getElem?_cons_succ, Option.some.injEq] at ho
      subst ho
      intro a W vs hB hS hE hU
      refine wpG_plain rfl ?_
      have v3 : a.eval (.tmp 3) = .slice ah nh ch := (hU 3 (by kernel_rfl)).trans rfl
      clear hE hU
      exact wp_value_inv (w' := W) (.slice ah nh ch) (op_move rfl v3) ⟨_, rfl, hB, Fr.refl _ _, rfl, fun _ _ _ _ _ => trivial⟩
    · simp only [List.getElem?_cons_zero, List.getElem?_cons_succ, Option.some.injEq] at ho
      subst ho
      intro a W vs hB hS hE hU
      refine wpG_plain rfl ?_
      obtain ⟨r0, e13⟩ := hE 0 13 (by kernel_rfl) (by kernel_rfl)
      have v13 : a.eval (.tmp 13) = .agg #[.int .i64 L, .int .i64 A, .int .i64 Dt] := e13.trans r0
      obtain ⟨r1, e14⟩ := hE 1 14 (by kernel_rfl) (by kernel_rfl)
      have v14 : a.eval (.tmp 14) = .slice ah nh ch := e14.trans r1
      clear hE hU
      refine wp_call_inv 17 #[.tmp 13, .tmp 14] #[23, 24] rfl #[.agg #[.int .i64 L, .int .i64 A, .int .i64 Dt], .slice ah nh ch] (by simp only [List.map_toArray, List.map_cons, List.map_nil, v13, v14]) (p7_ent_spence_spenceref07_Apart _) (Post := fun v W' => v = .bool true ∧ Fr (fun _ => False) W W') ((HAP.out W hB).mono fun e w' h => ⟨_, h.1, rfl, h.2⟩) ?_
      rintro v W' ⟨rfl, hf⟩
      exact ⟨_, rfl, hB.trans hf (fun _ h => h.elim), hf, rfl, fun _ _ _ _ _ => trivial⟩
    · simp only [List.getElem?_cons_zero, List.getElem?_cons_succ, Option.some.injEq] at ho
      subst ho
      intro a W vs hB hS hE hU
      refine wpG_plain rfl ?_
      obtain ⟨r2, e15⟩ := hE 2 15 (by kernel_rfl) (by kernel_rfl)
      have v15 : a.eval (.tmp 15) = .bool true := e15.trans r2
      clear hE hU
      exact wp_value_inv (w' := W) (.bool false) (op_unop rfl v15 (by rfl)) ⟨_, rfl, hB, Fr.refl _ _, rfl, fun _ _ _ _ _ => trivial⟩
    · simp only [List.getElem?_cons_zero, List.getElem?_cons_succ, Option.some.injEq] at ho
      subst ho
      intro a W vs hB hS hE hU
      refine wpG_plain rfl ?_
      obtain ⟨r3, e16⟩ := hE 3 16 (by kernel_rfl) (by kernel_rfl)
      have v16 : a.eval (.tmp 16) = .bool false := e16.trans r3
      clear hE hU
      exact wp_value_inv (w' := W) (.bool false) (op_move rfl v16) ⟨_, rfl, hB, Fr.refl _ _, rfl, fun _ _ _ _ _ => trivial⟩
    · simp only [List.getElem?_cons_zero, List.getElem?_cons_succ, Option.some.injEq] at ho
      subst ho
      intro a W vs hB hS hE hU
      obtain ⟨r4, e17⟩ := hE 4 17 (by kernel_rfl) (by kernel_rfl)
      have v17 : a.eval (.tmp 17) = .bool false := e17.trans r4
      refine wpG_yes 4 false 17 rfl (by kernel_rfl) (by rw [hS]; first | simp | exact Nat.le_of_ble_eq_true rfl) v17 ?_
      have v2 : a.eval (.tmp 2) = .int .i64 many := (hU 2 (by kernel_rfl)).trans rfl
      clear hE hU
      exact wp_value_inv (w' := W) (.int .i64 many) (op_move rfl v2) ⟨_, rfl, hB, Fr.refl _ _, rfl, fun _ _ _ _ _ => trivial⟩
    · simp only [List.getElem?_cons_zero, List.getElem?_cons_succ, Option.some.injEq] at ho
      subst ho
      intro a W vs hB hS hE hU
      obtain ⟨r4, e17⟩ := hE 4 17 (by kernel_rfl) (by kernel_rfl)
      have v17 : a.eval (.tmp 17) = .bool false := e17.trans r4
      refine wpG_yes 4 false 17 rfl (by kernel_rfl) (by rw [hS]; first | simp | exact Nat.le_of_ble_eq_true rfl) v17 ?_
      obtain ⟨r5, e18⟩ := hE 5 18 (by kernel_rfl) (by kernel_rfl)
      have v18 : a.eval (.tmp 18) = .int .i64 many := e18.trans r5
      clear hE hU
      exact wp_value_inv (w' := W) (.bool false) (op_bin rfl v18 rfl (rfl) (lss_no HM0.out)) ⟨_, rfl, hB, Fr.refl _ _, rfl, fun _ _ _ _ _ => trivial⟩
    · simp only [List.getElem?_cons_zero, List.getElem?_cons_succ, Option.some.injEq] at ho
      subst ho
      intro a W vs hB hS hE hU
      refine wpG_plain rfl ?_
      obtain ⟨r4, e17⟩ := hE 4 17 (by kernel_rfl) (by kernel_rfl)
      have v17 : a.eval (.tmp 17) = .bool false := e17.trans r4
      obtain ⟨r6, e19⟩ := hE 6 19 (by kernel_rfl) (by kernel_rfl)
      have v19 : a.eval (.tmp 19) = .bool false := e19.trans r6
      clear hE hU
      exact wp_value_inv (w' := W) (.bool false) (op_pick rfl v17 (by simp only [Bool.false_eq_true, if_false]; exact v19)) ⟨_, rfl, hB, Fr.refl _ _, rfl, fun _ _ _ _ _ => trivial⟩
    · simp only [List.getElem?_cons_zero, List.getElem?_cons_succ, Option.some.injEq] at ho
      subst ho
      intro a W vs hB hS hE hU
      refine wpG_plain rfl ?_
      obtain ⟨r7, e20⟩ := hE 7 20 (by kernel_rfl) (by kernel_rfl)
      have v20 : a.eval (.tmp 20) = .bool false := e20.trans r7
      clear hE hU
      exact wp_value_inv (w' := W) (.bool false) (op_move rfl v20) ⟨_, rfl, hB, Fr.refl _ _, rfl, fun _ _ _ _ _ => trivial⟩
    · simp only [List.getElem?_cons_zero, List.getElem?_cons_succ, Option.some.injEq] at ho
      subst ho
      intro a W vs hB hS hE hU
      obtain ⟨r8, e21⟩ := hE 8 21 (by kernel_rfl) (by kernel_rfl)
      have v21 : a.eval (.tmp 21) = .bool false := e21.trans r8
      refine wpG_yes 8 false 21 rfl (by kernel_rfl) (by rw [hS]; first | simp | exact Nat.le_of_ble_eq_true rfl) v21 ?_
      have v0 : a.eval (.tmp 0) = .pointer (some ⟨g, 0, none⟩) := (hU 0 (by kernel_rfl)).trans rfl
      clear hE hU
      exact wp_value_inv (w' := W) (.pointer (some ⟨g, 0, none⟩)) (op_move rfl v0) ⟨_, rfl, hB, Fr.refl _ _, rfl, fun _ _ _ _ _ => trivial⟩
    · simp only [List.getElem?_cons_zero, List.getElem?_cons_succ, Option.some.injEq] at ho
      subst ho
      intro a W vs hB hS hE hU
      obtain ⟨r8, e21⟩ := hE 8 21 (by kernel_rfl) (by kernel_rfl)
      have v21 : a.eval (.tmp 21) = .bool false := e21.trans r8
      refine wpG_yes 8 false 21 rfl (by kernel_rfl) (by rw [hS]; first | simp | exact Nat.le_of_ble_eq_true rfl) v21 ?_
      obtain ⟨r9, e22⟩ := hE 9 22 (by kernel_rfl) (by kernel_rfl)
      have v22 : a.eval (.tmp 22) = .pointer (some ⟨g, 0, none⟩) := e22.trans r9
      clear hE hU
      refine wp_call_inv 76 #[.tmp 22] #[46] rfl #[.pointer (some ⟨g, 0, none⟩)] (by simp only [List.map_toArray, List.map_cons, List.map_nil, v22]) (p7_ent___spence_spenceref04_Device__Sectors _) (Post := fun v W' => v = .int .i64 (s : Nat) ∧ Fr (fun _ => False) W W') ((HDS.out W hB).mono fun e w' h => ⟨_, h.1, rfl, h.2⟩) ?_
      rintro v W' ⟨rfl, hf⟩
      exact ⟨_, rfl, hB.trans hf (fun _ h => h.elim), hf, rfl, fun _ _ _ _ _ => trivial⟩
    · simp only [List.getElem?_cons_zero, List.getElem?_cons_succ, Option.some.injEq] at ho
      subst ho
      intro a W vs hB hS hE hU
      obtain ⟨r8, e21⟩ := hE 8 21 (by kernel_rfl) (by kernel_rfl)
      have v21 : a.eval (.tmp 21) = .bool false := e21.trans r8
      refine wpG_yes 8 false 21 rfl (by kernel_rfl) (by rw [hS]; first | simp | exact Nat.le_of_ble_eq_true rfl) v21 ?_
      have v5 : a.eval (.tmp 5) = .pointer (some ⟨b5, 0, none⟩) := (hU 5 (by kernel_rfl)).trans rfl
      clear hE hU
      exact wp_value_inv (w' := W) (.agg #[.int .i64 L, .int .i64 A, .int .i64 Dt]) (op_loadAt rfl v5 (LDS.out W hB)) ⟨_, rfl, hB, Fr.refl _ _, rfl, fun _ _ _ _ _ => trivial⟩
    · simp only [List.getElem?_cons_zero, List.getElem?_cons_succ, Option.some.injEq] at ho
      subst ho
      intro a W vs hB hS hE hU
      obtain ⟨r8, e21⟩ := hE 8 21 (by kernel_rfl) (by kernel_rfl)
      have v21 : a.eval (.tmp 21) = .bool false := e21.trans r8
      refine wpG_yes 8 false 21 rfl (by kernel_rfl) (by rw [hS]; first | simp | exact Nat.le_of_ble_eq_true rfl) v21 ?_
      obtain ⟨r11, e24⟩ := hE 11 24 (by kernel_rfl) (by kernel_rfl)
      have v24 : a.eval (.tmp 24) = .agg #[.int .i64 L, .int .i64 A, .int .i64 Dt] := e24.trans r11
      clear hE hU
      refine wp_call_inv 8 #[.tmp 24] #[23] rfl #[.agg #[.int .i64 L, .int .i64 A, .int .i64 Dt]] (by simp only [List.map_toArray, List.map_cons, List.map_nil, v24]) (p7_ent_spence_spenceref05_Sectors _) (Post := fun v W' => v = .int .i64 sx ∧ Fr (fun _ => False) W W') ((HSE.out W).mono fun e w' h => ⟨_, h.1, rfl, h.2⟩) ?_
      rintro v W' ⟨rfl, hf⟩
      exact ⟨_, rfl, hB.trans hf (fun _ h => h.elim), hf, rfl, fun _ _ _ _ _ => trivial⟩
    · simp only [List.getElem?_cons_zero, List.getElem?_cons_succ, Option.some.injEq] at ho
      subst ho
      intro a W vs hB hS hE hU
      obtain ⟨r8, e21⟩ := hE 8 21 (by kernel_rfl) (by kernel_rfl)
      have v21 : a.eval (.tmp 21) = .bool false := e21.trans r8
      refine wpG_yes 8 false 21 rfl (by kernel_rfl) (by rw [hS]; first | simp | exact Nat.le_of_ble_eq_true rfl) v21 ?_
      obtain ⟨r10, e23⟩ := hE 10 23 (by kernel_rfl) (by kernel_rfl)
      have v23 : a.eval (.tmp 23) = .int .i64 (s : Nat) := e23.trans r10
      obtain ⟨r12, e25⟩ := hE 12 25 (by kernel_rfl) (by kernel_rfl)
      have v25 : a.eval (.tmp 25) = .int .i64 sx := e25.trans r12
      clear hE hU
      exact wp_value_inv (w' := W) (.bool false) (op_bin rfl v23 v25 (rfl) (lss_no HS0.out)) ⟨_, rfl, hB, Fr.refl _ _, rfl, fun _ _ _ _ _ => trivial⟩
    · simp only [List.getElem?_cons_zero, List.getElem?_cons_succ, Option.some.injEq] at ho
      subst ho
      intro a W vs hB hS hE hU
      refine wpG_plain rfl ?_
      obtain ⟨r8, e21⟩ := hE 8 21 (by kernel_rfl) (by kernel_rfl)
      have v21 : a.eval (.tmp 21) = .bool false := e21.trans r8
      obtain ⟨r13, e26⟩ := hE 13 26 (by kernel_rfl) (by kernel_rfl)
      have v26 : a.eval (.tmp 26) = .bool false := e26.trans r13
      clear hE hU
      exact wp_value_inv (w' := W) (.bool false) (op_pick rfl v21 (by simp only [Bool.false_eq_true, if_false]; exact v26)) ⟨_, rfl, hB, Fr.refl _ _, rfl, fun _ _ _ _ _ => trivial⟩
  · intro vs Wc hB0 hR0 hD
    have r27 : vs 14 = .bool false := hR0 14 (by decide)
    have HB := Lib.hid hB0
    clear hR0 hD hB0
    simp only [acts, if_true, dstAt, List.getElem?_cons_zero, List.getElem?_cons_succ, Option.bind_some, Act.put, List.setIfInBounds_toArray, List.set_cons_succ, List.set_cons_zero, List.drop_succ_cons, List.drop_nil]
    simp only [r27]
    clear r27
    have HWC := Lib.hid HB.out
    clear HB LDS HAP HSE HDS
    have HFW := Lib.hid HWC.out
    have hz0 : W1.heap.size ≤ Wc.heap.size := HFW.out.size
    go_wp2
    go_loopw [10, 11] (fun ov iv wr => ∃ i : Nat, i ≤ nh ∧ iv = .int .i64 i ∧ (∃ a9 n9 c9, ov = .slice a9 n9 c9) ∧ Hid (OwnI W1.heap.size wr ov ((secs7 (l.take i)).map (f0 + ·)) ∧ Fr (fun _ => False) W1 wr)) (fun _ iv _ => nh - (intOf iv).toNat)
    case atStart => exact ⟨0, by omega, rfl, ⟨none, 0, 0, rfl⟩, Lib.hid ⟨OwnE.nil _ _ _ _, HFW.out⟩⟩
    case round =>
      obtain ⟨i7, hi, rfl, ⟨a9, n9, c9, rfl⟩, hR⟩ := hrel
      by_cases hlt : i7 < nh
      · have hiL : i7 < l.length := by have := HX.out.2.2.2.1; omega
        obtain ⟨x7, m, hxy, hm1, ham⟩ := rnOk_nat (HX.out.1 _ (List.getElem_mem hiL))
        have hah := (HX.out.2.2.2.2.1 (by omega)).1
        obtain ⟨hc0, hc1'⟩ := HX.out.2.2.2.2.2.1 i7 hiL
        rw [hxy] at hc0 hc1'
        simp only at hc0 hc1'
        replace hc0 := HF.out.cell hc0 id
        replace hc1' := HF.out.cell hc1' id
        subst hah
        have f1 := hR.out.2.cell hc1' id
        have hlt64 : (i7 : Int) < (nh : Int) := by omega
        have hi8 : nh ≤ 8192 := by have := secs7_many HX.out.1; have := HX.out.2.1; have := HX.out.2.2.1; have := HX.out.2.2.2.1; omega
        have HC0 := Lib.hid hc0
        have HC1 := Lib.hid hc1'
        have HMA := Lib.hid (And.intro hm1 (And.intro ham HX.out.2.2.1))
        obtain ⟨S, hS⟩ : ∃ S, S = secs7 (l.take i7) := ⟨_, rfl⟩
        have hS1 : secs7 (l.take (i7 + 1)) = S ++ (List.range m).map (x7 + ·) := by rw [List.take_succ_eq_append_getElem hiL, secs7_append, secs7_one, hxy, rnSecs_nat, hS]
        have hSL : S.length + m ≤ 8192 := by
          have h1 := congrArg List.length hS1
          rw [List.length_append, List.length_map, List.length_range] at h1
          have h2 := congrArg List.length (show secs7 l = secs7 (l.take (i7 + 1)) ++ secs7 (l.drop (i7 + 1)) by rw [← secs7_append, List.take_append_drop])
          rw [List.length_append] at h2
          have := HX.out.2.1
          have := HX.out.2.2.1
          omega
        rw [← hS] at hR
        have HSS := Lib.hid (And.intro hS1 hSL)
        have HIN := Lib.hid hlt
        clear hc0 hc1' hxy hS hS1 hSL hiL
        have hmm : m ≤ 8192 := by have := HMA.out; omega
        go_wp2
        go_loopw [10, 12] (fun ov kv wr => ∃ k7 : Nat, k7 ≤ m ∧ kv = .int .i64 k7 ∧ (∃ a8 n8 c8, ov = .slice a8 n8 c8) ∧ Hid (OwnI W1.heap.size wr ov ((S ++ (List.range k7).map (x7 + ·)).map (f0 + ·)) ∧ Fr (fun _ => False) W1 wr)) (fun _ kv _ => m - (intOf kv).toNat)
        case atStart => exact ⟨0, by omega, rfl, ⟨_, _, _, rfl⟩, Lib.hid ⟨by simpa using hR.out.1, hR.out.2⟩⟩
        case round =>
          obtain ⟨k7, hk, rfl, ⟨ac, cur, cc, rfl⟩, hQ⟩ := hrel
          have f1 := hQ.out.2.cell HC1.out id
          by_cases hkm : k7 < m
          · have hkm64 : (k7 : Int) < (m : Int) := by omega
            have hrow2 : wr.heap[b5]? = some (.cells #[.int .i64 (l0 : Int), .int .i64 (la : Int), .int .i64 (d : Int)] 23 (0, 0)) := hQ.out.2.heap HRW.out id
            have LDS := Lib.hid (fun W (hW : Fr (fun _ => False) wr W) => load_shape5 W b5 0 _ _ _ (range_row5 (hW.heap hrow2 id)))
            have hca := hQ.out.2.cell HC0.out id
            have LDA := Lib.hid (fun W (hW : Fr (fun _ => False) wr W) => load_int5 W ⟨b, off + i7 * 2, none⟩ _ (hW.cell hca id))
            have HB8 := Lib.hid (show f0 + x7 + k7 ≤ 8192 by have := HMA.out; omega)
            clear hrow2 hca
            go_wp2
            refine wp_region_inv 12 (by kernel_rfl) (by kernel_rfl) (fun W => Fr (fun _ => False) wr W) (PrR b5 b off nh ch i7 k7 x7 f0 l0 la d cur cc ac) (fun _ _ _ _ => True) (Fr (fun _ => False)) (PrR.ext b5 b off nh ch i7 k7 x7 f0 l0 la d cur cc ac) (Fr.refl _ _).drew ?_ ?_
            · intro i hi o ho
              replace hi : i < 12 := hi
              obtain rfl | rfl | rfl | rfl | rfl | rfl | rfl | rfl | rfl | rfl | rfl | rfl : i = 0 ∨ i = 1 ∨ i = 2 ∨ i = 3 ∨ i = 4 ∨ i = 5 ∨ i = 6 ∨ i = 7 ∨ i = 8 ∨ i = 9 ∨ i = 10 ∨ i = 11 := by omega
              · simp only [List.getElem?_cons_zero, Option.some.injEq] at ho
                subst ho
                intro a W vs hB hS hE hU
                refine wpG_plain rfl ?_
                have v10 : a.eval (.tmp 10) = .slice ac cur cc := (hU 10 (by kernel_rfl)).trans rfl
                clear hE hU
                exact wp_value_inv (w' := W) (.slice ac cur cc) (op_move rfl v10) ⟨_, rfl, hB, Fr.refl _ _, rfl, fun _ _ _ _ _ => trivial⟩
              · simp only [List.getElem?_cons_zero, List.getElem?_cons_succ, Option.some.injEq] at ho
                subst ho
                intro a W vs hB hS hE hU
                refine wpG_plain rfl ?_
                have v5 : a.eval (.tmp 5) = .pointer (some ⟨b5, 0, none⟩) := (hU 5 (by kernel_rfl)).trans rfl
                clear hE hU
                exact wp_value_inv (w' := W) (.agg #[.int .i64 (l0 : Nat), .int .i64 (la : Nat), .int .i64 (d : Nat)]) (op_loadAt rfl v5 (LDS.out W hB)) ⟨_, rfl, hB, Fr.refl _ _, rfl, fun _ _ _ _ _ => trivial⟩
              · simp only [List.getElem?_cons_zero, List.getElem?_cons_succ, Option.some.injEq] at ho
                subst ho
                intro a W vs hB hS hE hU
                refine wpG_plain rfl ?_
                obtain ⟨r1, e44⟩ := hE 1 44 (by kernel_rfl) (by kernel_rfl)
                have v44 : a.eval (.tmp 44) = .agg #[.int .i64 (l0 : Nat), .int .i64 (la : Nat), .int .i64 (d : Nat)] := e44.trans r1
                clear hE hU
                refine wp_call_inv 77 #[.tmp 44] #[23] rfl #[.agg #[.int .i64 (l0 : Nat), .int .i64 (la : Nat), .int .i64 (d : Nat)]] (by simp only [List.map_toArray, List.map_cons, List.map_nil, v44]) (p7_ent_spence_spenceref05_First _) (Post := fun v W' => v = .int .i64 (f0 : Nat) ∧ Fr (fun _ => False) W W') ((HFI.out W).mono fun e w' h => ⟨_, h.1, rfl, h.2⟩) ?_
                rintro v W' ⟨rfl, hf⟩
                exact ⟨_, rfl, hB.trans hf (fun _ h => h.elim), hf, rfl, fun _ _ _ _ _ => trivial⟩
              · simp only [List.getElem?_cons_zero, List.getElem?_cons_succ, Option.some.injEq] at ho
                subst ho
                intro a W vs hB hS hE hU
                refine wpG_plain rfl ?_
                have v3 : a.eval (.tmp 3) = .slice (some ⟨b, off, none⟩) nh ch := (hU 3 (by kernel_rfl)).trans rfl
                clear hE hU
                exact wp_value_inv (w' := W) (.slice (some ⟨b, off, none⟩) nh ch) (op_move rfl v3) ⟨_, rfl, hB, Fr.refl _ _, rfl, fun _ _ _ _ _ => trivial⟩
              · simp only [List.getElem?_cons_zero, List.getElem?_cons_succ, Option.some.injEq] at ho
                subst ho
                intro a W vs hB hS hE hU
                refine wpG_plain rfl ?_
                have v11 : a.eval (.tmp 11) = .int .i64 (i7 : Nat) := (hU 11 (by kernel_rfl)).trans rfl
                clear hE hU
                exact wp_value_inv (w' := W) (.int .i64 (i7 : Nat)) (op_move rfl v11) ⟨_, rfl, hB, Fr.refl _ _, rfl, fun _ _ _ _ _ => trivial⟩
              · simp only [List.getElem?_cons_zero, List.getElem?_cons_succ, Option.some.injEq] at ho
                subst ho
                intro a W vs hB hS hE hU
                refine wpG_plain rfl ?_
                obtain ⟨r3, e46⟩ := hE 3 46 (by kernel_rfl) (by kernel_rfl)
                have v46 : a.eval (.tmp 46) = .slice (some ⟨b, off, none⟩) nh ch := e46.trans r3
                obtain ⟨r4, e47⟩ := hE 4 47 (by kernel_rfl) (by kernel_rfl)
                have v47 : a.eval (.tmp 47) = .int .i64 (i7 : Nat) := e47.trans r4
                clear hE hU
                exact wp_value_inv (w' := W) (.pointer (some ⟨b, off + i7 * 2, none⟩)) (op_indexAddr rfl v46 v47 (run_index7 W b off nh ch i7 HIN.out)) ⟨_, rfl, hB, Fr.refl _ _, rfl, fun _ _ _ _ _ => trivial⟩
              · simp only [List.getElem?_cons_zero, List.getElem?_cons_succ, Option.some.injEq] at ho
                subst ho
                intro a W vs hB hS hE hU
                refine wpG_plain rfl ?_
                obtain ⟨r5, e48⟩ := hE 5 48 (by kernel_rfl) (by kernel_rfl)
                have v48 : a.eval (.tmp 48) = .pointer (some ⟨b, off + i7 * 2, none⟩) := e48.trans r5
                clear hE hU
                exact wp_value_inv (w' := W) (.pointer (some ⟨b, off + i7 * 2, none⟩)) (op_fieldAddr rfl v48 (fld7_0 W b (off + i7 * 2))) ⟨_, rfl, hB, Fr.refl _ _, rfl, fun _ _ _ _ _ => trivial⟩
              · simp only [List.getElem?_cons_zero, List.getElem?_cons_succ, Option.some.injEq] at ho
                subst ho
                intro a W vs hB hS hE hU
                refine wpG_plain rfl ?_
                obtain ⟨r6, e49⟩ := hE 6 49 (by kernel_rfl) (by kernel_rfl)
                have v49 : a.eval (.tmp 49) = .pointer (some ⟨b, off + i7 * 2, none⟩) := e49.trans r6
                clear hE hU
                exact wp_value_inv (w' := W) (.int .i64 (x7 : Nat)) (op_loadAt rfl v49 (LDA.out W hB)) ⟨_, rfl, hB, Fr.refl _ _, rfl, fun _ _ _ _ _ => trivial⟩
              · simp only [List.getElem?_cons_zero, List.getElem?_cons_succ, Option.some.injEq] at ho
                subst ho
                intro a W vs hB hS hE hU
                refine wpG_plain rfl ?_
                obtain ⟨r2, e45⟩ := hE 2 45 (by kernel_rfl) (by kernel_rfl)
                have v45 : a.eval (.tmp 45) = .int .i64 (f0 : Nat) := e45.trans r2
                obtain ⟨r7, e50⟩ := hE 7 50 (by kernel_rfl) (by kernel_rfl)
                have v50 : a.eval (.tmp 50) = .int .i64 (x7 : Nat) := e50.trans r7
                clear hE hU
                exact wp_value_inv (w' := W) (.int .i64 ((f0 + x7 : Nat) : Int)) (op_bin rfl v45 v50 (rfl) (add_in5 (by push_cast; rfl) (by have := HB8.out; omega) (by have := HB8.out; omega))) ⟨_, rfl, hB, Fr.refl _ _, rfl, fun _ _ _ _ _ => trivial⟩
              · simp only [List.getElem?_cons_zero, List.getElem?_cons_succ, Option.some.injEq] at ho
                subst ho
                intro a W vs hB hS hE hU
                refine wpG_plain rfl ?_
                have v12 : a.eval (.tmp 12) = .int .i64 (k7 : Nat) := (hU 12 (by kernel_rfl)).trans rfl
                clear hE hU
                exact wp_value_inv (w' := W) (.int .i64 (k7 : Nat)) (op_move rfl v12) ⟨_, rfl, hB, Fr.refl _ _, rfl, fun _ _ _ _ _ => trivial⟩
              · simp only [List.getElem?_cons_zero, List.getElem?_cons_succ, Option.some.injEq] at ho
                subst ho
                intro a W vs hB hS hE hU
                refine wpG_plain rfl ?_
                obtain ⟨r8, e51⟩ := hE 8 51 (by kernel_rfl) (by kernel_rfl)
                have v51 : a.eval (.tmp 51) = .int .i64 ((f0 + x7 : Nat) : Int) := e51.trans r8
                obtain ⟨r9, e52⟩ := hE 9 52 (by kernel_rfl) (by kernel_rfl)
                have v52 : a.eval (.tmp 52) = .int .i64 (k7 : Nat) := e52.trans r9
                clear hE hU
                exact wp_value_inv (w' := W) (.int .i64 ((f0 + x7 + k7 : Nat) : Int)) (op_bin rfl v51 v52 (rfl) (add_in5 (by push_cast; rfl) (by have := HB8.out; omega) (by have := HB8.out; omega))) ⟨_, rfl, hB, Fr.refl _ _, rfl, fun _ _ _ _ _ => trivial⟩
              · simp only [List.getElem?_cons_zero, List.getElem?_cons_succ, Option.some.injEq] at ho
                subst ho
                intro a W vs hB hS hE hU
                refine wpG_plain rfl ?_
                obtain ⟨r10, e53⟩ := hE 10 53 (by kernel_rfl) (by kernel_rfl)
                have v53 : a.eval (.tmp 53) = .int .i64 ((f0 + x7 + k7 : Nat) : Int) := e53.trans r10
                clear hE hU
                have hfa : Fr (fun _ => False) W (W.alloc (.cells #[.int .i64 ((f0 + x7 + k7 : Nat) : Int)] 3)) := (Fr.refl _ _).alloc _
                exact wp_value_inv (w' := W.alloc (.cells #[.int .i64 ((f0 + x7 + k7 : Nat) : Int)] 3)) (.slice (some ⟨W.heap.size, 0, none⟩) 1 1) (op_rows rfl (vs := #[(0, .int .i64 ((f0 + x7 + k7 : Nat) : Int))]) (by simp only [List.map_toArray, List.map_cons, List.map_nil, v53]) (run_int1 W _)) ⟨_, rfl, hB.trans hfa (fun _ h => h.elim), hfa, ⟨W.heap.size, rfl, heap_alloc_new W _⟩, fun _ _ _ _ _ => trivial⟩
            · intro vs Wa hB0 hR0 hD
              have r43 : vs 0 = .slice ac cur cc := hR0 0 (by decide)
              obtain ⟨gi, r54, h54⟩ : ∃ gi, vs 11 = .slice (some ⟨gi, 0, none⟩) 1 1 ∧ Wa.heap[gi]? = some (.cells #[.int .i64 ((f0 + x7 + k7 : Nat) : Int)] 3 (0, 0)) := hR0 11 (by decide)
              have HB := Lib.hid hB0
              clear hR0 hD hB0
              simp only [acts, if_true, dstAt, List.getElem?_cons_zero, List.getElem?_cons_succ, Option.bind_some, Act.put, List.setIfInBounds_toArray, List.set_cons_succ, List.set_cons_zero, List.drop_succ_cons]
              simp only [r43]
              clear r43
              simp only [r54]
              clear r54
              have ho := OwnE.keep hQ.out.1 HB.out (fun _ _ h => h)
              have hz9 : W1.heap.size ≤ Wa.heap.size := Nat.le_trans hQ.out.2.size HB.out.size
              refine wpList_append_e (T := 3) Try.underlying66 infoI7 rfl (by decide) (by decide) Wa rfl (.tmp 43) (.tmp 54) rfl (.slice ac cur cc) (.slice (some ⟨gi, 0, none⟩) 1 1) _ _ rfl rfl ho (Elems.ofBlock (c := inC ((f0 + x7 + k7 : Nat) : Int)) h54 rfl) (by intro c hc u hu; rw [List.mem_singleton.1 hc] at hu; rw [List.mem_singleton.1 hu]; rfl) hz9 (by have := HSS.out.2; simp; omega) ?_
              intro v8 w8 ho8 hg8 _
              have ho8' : OwnI W1.heap.size w8 v8 ((S ++ (List.range (k7 + 1)).map (x7 + ·)).map (f0 + ·)) := by
                unfold OwnI
                rw [List.range_succ]
                simpa [List.map_append, Nat.add_assoc] using ho8
              obtain ⟨a8, c8, hv8⟩ := ho8'.form
              obtain ⟨n8, hn8⟩ : ∃ n8, n8 = ((S ++ (List.range (k7 + 1)).map (x7 + ·)).map (f0 + ·)).length := ⟨_, rfl⟩
              rw [← hn8] at hv8
              subst hv8
              have hf8 : Fr (fun _ => False) W1 w8 := (hQ.out.2.trans HB.out (fun _ h => h.elim)).trans ((Fr.refl (fun k7 => (Value.slice ac cur cc).ownBlock = some k7) Wa).grown hg8 (fun k7 hk => .inl hk)) (fun k7 hk => .inr (OwnE.own hQ.out.1 k7 hk).1)
              have H8 := Lib.hid (And.intro ho8' hf8)
              clear ho8 hg8 ho8' hf8 ho hz9 h54 HB LDS LDA hn8
              go_wp2
              go_roundw
              case rel => exact ⟨k7 + 1, by omega, by go_num, ⟨_, _, _, rfl⟩, H8⟩
              case measure => simp [intOf]; omega
          · obtain rfl : m = k7 := by omega
            have HI := Lib.hid (show OwnI W1.heap.size wr (.slice ac cur cc) ((secs7 (l.take (i7 + 1))).map (f0 + ·)) ∧ Fr (fun _ => False) W1 wr by rw [HSS.out.1]; exact hQ.out)
            go_wp2
            go_roundw
            case rel => exact ⟨i7 + 1, by omega, by go_num, ⟨_, _, _, rfl⟩, HI⟩
            case measure => simp [intOf]; omega
      · obtain rfl : nh = i7 := by omega
        have htk : l.take nh = l := List.take_of_length_le (by have := HX.out.2.2.2.1; omega)
        rw [htk] at hR
        obtain ⟨a8, c8, hv8⟩ := hR.out.1.form
        have hlen : n9 = (secs7 l).length := by
          simp only [Value.slice.injEq] at hv8
          rw [hv8.2.1, List.length_map]
        obtain ⟨nd, hnd⟩ : ∃ nd, nd = need7 many := ⟨_, rfl⟩
        have hb9 := HBB.out
        rw [← hlen, ← hnd] at hb9
        rw [← hnd] at HN
        clear hv8 hlen hnd htk
        go_wp2_with (go_at_call 15; refine (HN.out _).mono ?_; rintro e w5 ⟨rfl, hww⟩; (obtain rfl := hww.symm))
        go_ret2
        exact ⟨_, by rw [hb9]; rfl, hR.out.1.lower HF.out.size, HF.out.trans hR.out.2 (fun _ h => h.elim)⟩
end Go.Proofs.Ytcbbcihfooaggaa
namespace Go.Proofs.Ytcbbcihfooaggaa
open Go.RowKit Go.ChangeShapes
set_option linter.unusedVariables false
theorem secs7_ap {L A D : Int} {l : List Rn} {l0 la d s0 : Nat} (hap : ap7 (l0 : Int) la d l = true) (hs : ShOk l0 la d s0) : secsS (l0 : Int) la d = s0 := by
  unfold secsS
  rw [if_pos (by unfold ap7 at hap; rw [Bool.and_eq_true] at hap; exact hap.1), hs.sum]
  push_cast
  rfl
theorem rPlaces_bad {D F : Nat → Prop} (w : World) (g s : Nat) (dv : Dv) (L A Dt many : Int) (v : Value) (l : List Rn) (h : RefAt w D g s dv) (hs2 : s ≤ 8192) (hm2 : many ≤ 9223372036854775807) (hL : RnsIn F w v l) (hF : ∀ k, F k → k < w.heap.size) (hr : fit7 s L A Dt many l = 2) :
    Calls Try.prog 53 #[.pointer (some ⟨g, 0, none⟩), .agg #[.int .i64 L, .int .i64 A, .int .i64 Dt], .int .i64 many, v] w fun e w' => ∃ a n c, e = .returned (.tuple #[.slice a n c, .bool false]) ∧ Fr (fun _ => False) w w' := by
  by_cases hno : many < 0 ∨ ap7 L A Dt l = false ∨ (s : Int) < secsS L A Dt
  · exact (rPlaces_no w g s dv L A Dt many v l h hL hF hno).mono (fun e w' h => ⟨none, 0, 0, h⟩)
  · have hap : ap7 L A Dt l = true := by
      cases e : ap7 L A Dt l
      · exact absurd (.inr (.inl e)) hno
      · rfl
    obtain ⟨l0, la, d, s0, rfl, rfl, rfl, hs, hap0⟩ := ap7_open hap
    have hsec := secs7_ap (L := 0) (A := 0) (D := 0) hap hs
    have hc : ((secs7 l).length : Int) ≠ need7 many := by
      unfold fit7 at hr
      rw [if_neg (by rw [hap]; simp; omega)] at hr
      intro hc
      rw [if_neg (by rw [hc]; omega)] at hr
      cases hr
    refine (rPlaces_yes w g s dv l0 la d s0 many v l h hs2 (by omega) hm2 hL hF hs hap0 (by omega)).mono ?_
    rintro e w' ⟨u, rfl, ho, hf⟩
    obtain ⟨a, c, rfl⟩ := ho.form
    exact ⟨a, _, c, by rw [show (((secs7 l).length : Int) == need7 many) = false by rw [beq_eq_false_iff_ne]; exact hc], hf⟩
set_option maxRecDepth 100000 in
set_option maxHeartbeats 1000000 in
theorem rWrite_bad {D F G : Nat → Prop} (w : World) (g s : Nat) (dv : Dv) (L A Dt : Int) (vb v : Value) (b : List UInt8) (l : List Rn) (h : RefAt w D g s dv) (hs2 : s ≤ 8192) (hb : BytesIn G w vb b) (hbl : b.length ≤ 1000000000) (hL : RnsIn F w v l) (hF : ∀ k, F k → k < w.heap.size) (hr : fit7 s L A Dt (b.length : Int) l = 2) :
    Calls Try.prog 25 #[.pointer (some ⟨g, 0, none⟩), .agg #[.int .i64 L, .int .i64 A, .int .i64 Dt], vb, v] w fun e w' => e = .returned (.int .i64 2) ∧ Fr (fun _ => False) w w' := by
  obtain ⟨ab, cb, rfl⟩ : ∃ ao cap, vb = .slice ao b.length cap := by obtain ⟨x, y, hx, _⟩ := hb; exact ⟨x, y, hx⟩
  obtain ⟨n, hn⟩ : ∃ n, n = b.length := ⟨_, rfl⟩
  rw [← hn] at hr ⊢
  have hf1 : Fr (fun _ => False) w (w.alloc (.cells #[.int .i64 L, .int .i64 A, .int .i64 Dt] 23)) := (Fr.refl _ _).alloc _
  have HP := Lib.hid (rPlaces_bad _ g s dv L A Dt n v l (h.keep hf1 (fun _ _ _ h => h)) hs2 (by omega) ((hL.mono (G := fun k => F k ∧ k < w.heap.size) (fun k hk h => ⟨h, hk⟩)).quiet hf1) (fun k hk => by have := hk.2; simp; omega) hr)
  have HF := Lib.hid hf1
  clear hf1 h hb hL hF hr hn
  go_enter Try.func25, Try.ntmps25
  go_wp2_with (go_at_call 53; refine HP.out.mono ?_; rintro e w2 ⟨a9, n9, c9, rfl, hf⟩; (have H2 := Lib.hid hf); clear hf)
  go_ret
  exact ⟨rfl, HF.out.trans H2.out (fun _ h => h.elim)⟩
set_option maxRecDepth 100000 in
set_option maxHeartbeats 1000000 in
theorem rRead_bad {D F : Nat → Prop} (w : World) (g s : Nat) (dv : Dv) (L A Dt many : Int) (v : Value) (l : List Rn) (h : RefAt w D g s dv) (hs2 : s ≤ 8192) (hm2 : many ≤ 9223372036854775807) (hL : RnsIn F w v l) (hF : ∀ k, F k → k < w.heap.size) (hr : fit7 s L A Dt many l = 2) :
    Calls Try.prog 29 #[.pointer (some ⟨g, 0, none⟩), .agg #[.int .i64 L, .int .i64 A, .int .i64 Dt], .int .i64 many, v] w fun e w' => e = .returned (.tuple #[.slice none 0 0, .int .i64 2]) ∧ Fr (fun _ => False) w w' := by
  have hf1 : Fr (fun _ => False) w (w.alloc (.cells #[.int .i64 L, .int .i64 A, .int .i64 Dt] 23)) := (Fr.refl _ _).alloc _
  have HP := Lib.hid (rPlaces_bad _ g s dv L A Dt many v l (h.keep hf1 (fun _ _ _ h => h)) hs2 hm2 ((hL.mono (G := fun k => F k ∧ k < w.heap.size) (fun k hk h => ⟨h, hk⟩)).quiet hf1) (fun k hk => by have := hk.2; simp; omega) hr)
  have HF := Lib.hid hf1
  clear hf1 h hL hF hr
  go_enter Try.func29, Try.ntmps29
  go_wp2_with (go_at_call 53; refine HP.out.mono ?_; rintro e w2 ⟨a9, n9, c9, rfl, hf⟩; (have H2 := Lib.hid hf); clear hf)
  go_ret2
  exact ⟨rfl, HF.out.trans H2.out (fun _ h => h.elim)⟩
end Go.Proofs.Ytcbbcihfooaggaa
