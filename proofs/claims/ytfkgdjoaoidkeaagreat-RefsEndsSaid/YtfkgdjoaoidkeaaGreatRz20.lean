/- Laid together: RfEn -/
import Derived.Test.YtfkgdjoaoidkeaaGreatRz19

namespace Go.Proofs.YtfkgdjoaoidkeaaGreat
open Go.RowKit Go.ChangeShapes
set_option linter.unusedVariables false
theorem rem4 (w : World) (n : Nat) : (binOp .rem 3 (.int .i64 (n : Nat)) (.int .i64 4)).run Tryz.prog w = .ok (.int .i64 ((n % 4 : Nat) : Int)) w := by
  rw [binOp_rem]
  have h : ((n : Nat) : Int).tmod 4 = ((n % 4 : Nat) : Int) := by rw [Int.tmod_eq_emod_of_nonneg (by omega)]; omega
  simp [Op.intDiv, h, go_sem]
theorem rem6 (w : World) (n : Nat) : (binOp .rem 3 (.int .i64 (n : Nat)) (.int .i64 6)).run Tryz.prog w = .ok (.int .i64 ((n % 6 : Nat) : Int)) w := by
  rw [binOp_rem]
  have h : ((n : Nat) : Int).tmod 6 = ((n % 6 : Nat) : Int) := by rw [Int.tmod_eq_emod_of_nonneg (by omega)]; omega
  simp [Op.intDiv, h, go_sem]
theorem rem33 (w : World) (n : Nat) : (binOp .rem 3 (.int .i64 (n : Nat)) (.int .i64 33)).run Tryz.prog w = .ok (.int .i64 ((n % 33 : Nat) : Int)) w := by
  rw [binOp_rem]
  have h : ((n : Nat) : Int).tmod 33 = ((n % 33 : Nat) : Int) := by rw [Int.tmod_eq_emod_of_nonneg (by omega)]; omega
  simp [Op.intDiv, h, go_sem]
theorem quo4 (w : World) (n : Nat) (hn : n ≤ 1000000) : (binOp .quo 3 (.int .i64 (n : Nat)) (.int .i64 4)).run Tryz.prog w = .ok (.int .i64 ((n / 4 : Nat) : Int)) w := by
  rw [binOp_quo]
  have h : ((n : Nat) : Int).tdiv 4 = ((n / 4 : Nat) : Int) := by rw [Int.tdiv_eq_ediv_of_nonneg (by omega)]; omega
  have h2 : IntKind.i64.wrap ((n / 4 : Nat) : Int) = ((n / 4 : Nat) : Int) := by rw [IntKind.wrap_i64]; omega
  simp only [Op.intDiv, h, h2]
  simp
def IsH (W : World) (g : Nat) : Prop := ∃ L : List UInt8, L.length = 20 ∧ BytT W g 24 L
structure X10 (z : Nat) (W W' : World) : Prop where
  fr : Fr (fun k => z ≤ k) W W'
  hs : ∀ g, IsH W g → IsH W' g
theorem X10.of {z : Nat} {W W' : World} (hf : Fr (fun _ => False) W W') : X10 z W W' := ⟨hf.mono (fun _ _ h => h.elim), fun _ ⟨L, h1, h2⟩ => ⟨L, h1, h2.keep hf (fun h => h)⟩⟩
theorem X10.refl (z : Nat) (W : World) : X10 z W W := X10.of (Fr.refl _ _)
theorem X10.store {z g : Nat} {W : World} {L M : List UInt8} (hz : z ≤ g) (h : BytT W g 24 L) (hM : M.length = 20) : X10 z W (W.setRow g (M.map bv).toArray) := by
  refine ⟨(Fr.refl (fun k => z ≤ k) W).setRow (.inl hz) _, fun k ⟨N, h1, h2⟩ => ?_⟩
  by_cases hk : k = g
  · subst hk
    exact ⟨M, hM, setRow_heap W k _ _ _ (0, 0) h⟩
  · exact ⟨N, h1, h2.keep ((Fr.refl (· = g) W).setRow (.inl rfl) _) hk⟩
theorem all_bv (L : List UInt8) : (L.map bv).toArray.all (·.oneCell') = true := by simp [bv, Value.oneCell']
theorem wp_skip_inv {P : Program} {o : Oper} {a : Act} {w : World} {K : Act → World → Prop} {Q : Exit → Act → World → Prop} (w' : World) (h : (execOp a.eval o).run P w = .ok .skip w') (hK : K (a.put o.dst undef) w') : o.wp P a w K Q := by
  unfold Oper.wp
  rw [h]
  exact hK
theorem op_store_row {P : Program} {w : World} {o : Oper} {a : Act} {ty : TypeId} {x y : Operand} {g : Nat} {cells old : Array Value} {t : TypeId} (ho : o.op = .store ty x y) (hx : a.eval x = .pointer (some ⟨g, 0, none⟩)) (hy : a.eval y = .agg cells)
    (hg : w.heap[g]? = some (.cells old t (0, 0))) (hi : (P.info? ty).map (·.size) = some cells.size) (hs : old.size = cells.size) (h1 : cells.all (·.oneCell') = true) : (execOp a.eval o).run P w = .ok .skip (w.setRow g cells) := by
  unfold execOp
  simp only [ho, hx, hy, Instr.storeAt, Instr.sureAddr, Sem.run_bind, Sem.run_pure, Result.andThen_ok, run_storeVar_row w g t ty old cells hg hi hs h1]
theorem op_appendS {w w' : World} {o : Oper} {a : Act} {s x : Operand} {ST TT : TypeId} {v y u : Value} (ho : o.op = Op.call { callee := Callee.builtin Builtin.append, args := #[s, x], argTypes := #[ST, TT] }) (hs : a.eval s = v) (hx : a.eval x = y) (hr : (Builtin.append_ #[ST, TT] o.type #[v, y]).run Tryz.prog w = .ok u w') : (execOp a.eval o).run Tryz.prog w = .ok (.value u) w' := by
  simp [execOp, ho, resolve, invoke, builtin, hs, hx, hr, Result.andThen]
theorem load_of_block (w : World) (g i : Nat) (B : List UInt8) (h : BytT w g 24 B) (hi : i * 20 + 20 ≤ B.length) :
    (Instr.loadAt 24 (.pointer (some ⟨g, 0 + i * 20, none⟩))).run Tryz.prog w = .ok (.agg (((B.drop (i * 20)).take 20).map bv).toArray) w := by
  have hl : ((B.drop (i * 20)).take 20).length = 20 := by rw [List.length_take, List.length_drop]; omega
  refine run_loadAt_mid w g (0 + i * 20) 24 (((B.drop (i * 20)).take 20).map bv) _ (fun j v hv => ?_) Tryz.underlying24 rfl (by rw [List.length_map, hl]; kernel_rfl)
  have hj : j < 20 := by
    have := (List.getElem?_eq_some_iff.1 hv).1
    rwa [List.length_map, hl] at this
  rw [cell_of_row _ _ _ _ _ _ h, List.getElem?_toArray]
  rw [List.map_take, List.map_drop, List.getElem?_take_of_lt hj, List.getElem?_drop] at hv
  rw [show 0 + i * 20 + j = i * 20 + j by omega]
  exact hv
theorem enent_spence_spencelaw10_RefsTell (args : Array Value) (w : World) : (callFunc 3 args).run Tryz.prog w = .ok (.enter 3 args) w := by kernel_rfl
theorem enent_spence_spenceref03_Letters (args : Array Value) (w : World) : (callFunc 22 args).run Tryz.prog w = .ok (.enter 22 args) w := by kernel_rfl
def EnX (gh n r4 q4 s4 z0 : Nat) (C D : Array Value) (i : Nat) (v : Value) (W : World) : Prop :=
  match i with
  | 0 => v = .slice (some ⟨gh, 0, none⟩) 4 4
  | 1 => v = .int .i64 (n : Nat)
  | 2 => v = .int .i64 (r4 : Nat)
  | 3 => v = .pointer (some ⟨gh, 0 + r4 * 20, none⟩)
  | 4 => v = .agg C
  | 5 => v = .slice (some ⟨gh, 0, none⟩) 4 4
  | 6 => v = .int .i64 (n : Nat)
  | 7 => v = .int .i64 (q4 : Nat)
  | 8 => v = .int .i64 (s4 : Nat)
  | 9 => v = .pointer (some ⟨gh, 0 + s4 * 20, none⟩)
  | 10 => v = .agg D
  | 11 => ∃ g, v = .pointer (some ⟨g, 0, none⟩) ∧ z0 ≤ g ∧ IsH W g
  | 12 => ∃ g, v = .pointer (some ⟨g, 0, none⟩) ∧ z0 ≤ g ∧ IsH W g
  | 13 => v = undef
  | _ => True
theorem EnX.ext (gh n r4 q4 s4 z0 : Nat) (C D : Array Value) : ∀ (j : Nat) (u : Value) (W W' : World), X10 z0 W W' → EnX gh n r4 q4 s4 z0 C D j u W → EnX gh n r4 q4 s4 z0 C D j u W'
  | 0, u, W, W', hf, h => h
  | 1, u, W, W', hf, h => h
  | 2, u, W, W', hf, h => h
  | 3, u, W, W', hf, h => h
  | 4, u, W, W', hf, h => h
  | 5, u, W, W', hf, h => h
  | 6, u, W, W', hf, h => h
  | 7, u, W, W', hf, h => h
  | 8, u, W, W', hf, h => h
  | 9, u, W, W', hf, h => h
  | 10, u, W, W', hf, h => h
  | 11, u, W, W', hf, h => (let ⟨g, h1, h2, h3⟩ := h; ⟨g, h1, h2, hf.hs g h3⟩)
  | 12, u, W, W', hf, h => (let ⟨g, h1, h2, h3⟩ := h; ⟨g, h1, h2, hf.hs g h3⟩)
  | 13, u, W, W', hf, h => h
  | _ + 14, u, W, W', hf, h => trivial
def EnY (b8 c8 b9 c9 g5 g6 gp n q6 q33 z : Nat) (X8 X9 Y8 Y9 s5 : List UInt8) (C5 C6 CF : Array Value) (S5 S6 : ByteArray) (i : Nat) (v : Value) (W : World) : Prop :=
  match i with
  | 0 => v = .slice (some ⟨b8, 0, none⟩) X8.length c8
  | 1 => v = .agg C5
  | 2 => v = .agg C6
  | 3 => v = .slice (some ⟨gp, 0, none⟩) 5 5
  | 4 => v = .bool true
  | 5 => v = .bool false
  | 6 => v = .bool false
  | 7 => v = .slice (some ⟨b9, 0, none⟩) X9.length c9
  | 8 => v = .slice (some ⟨b8, 0, none⟩) X8.length c8
  | 9 => ∃ x, v = x ∧ OwnB (fun k => k = b9 ∨ z ≤ k) W x Y9
  | 10 => v = .agg C5
  | 11 => v = .agg CF
  | 12 => v = .slice (some ⟨gp, 0, none⟩) 5 5
  | 13 => v = .int .i64 (n : Nat)
  | 14 => v = .int .i64 (q6 : Nat)
  | 15 => v = .slice (some ⟨gp, 0, none⟩) q6 5
  | 16 => v = .bool true
  | 17 => v = .bool false
  | 18 => v = .bool false
  | 19 => v = .bool false
  | 20 => v = .string S5
  | 21 => ∃ g c, v = .slice (some ⟨g, 0, none⟩) 32 c ∧ BytesIn (fun k => k ≠ b8 ∧ k ≠ b9) W (.slice (some ⟨g, 0, none⟩) 32 c) s5
  | 22 => v = .int .i64 (n : Nat)
  | 23 => v = .int .i64 (q33 : Nat)
  | 24 => ∃ x, v = x ∧ BytesIn (fun k => k ≠ b8 ∧ k ≠ b9) W x (s5.take q33)
  | 25 => v = .agg C5
  | 26 => v = .agg C6
  | 27 => v = .slice (some ⟨gp, 0, none⟩) 5 5
  | 28 => v = .bool true
  | 29 => v = .bool false
  | 30 => v = .bool false
  | 31 => v = .bool false
  | 32 => v = .slice (some ⟨b8, 0, none⟩) X8.length c8
  | 33 => v = .agg C6
  | 34 => v = .string S6
  | 35 => ∃ x, v = x ∧ OwnB (fun k => k = b8 ∨ z ≤ k) W x Y8
  | 36 => v = .agg C6
  | 37 => v = .agg C5
  | 38 => v = .slice (some ⟨gp, 0, none⟩) 5 5
  | 39 => v = .bool true
  | 40 => v = .bool false
  | _ => True
theorem EnY.ext (b8 c8 b9 c9 g5 g6 gp n q6 q33 z : Nat) (X8 X9 Y8 Y9 s5 : List UInt8) (C5 C6 CF : Array Value) (S5 S6 : ByteArray) : ∀ (j : Nat) (u : Value) (W W' : World), E16 b8 b9 z Y8 Y9 W W' → EnY b8 c8 b9 c9 g5 g6 gp n q6 q33 z X8 X9 Y8 Y9 s5 C5 C6 CF S5 S6 j u W → EnY b8 c8 b9 c9 g5 g6 gp n q6 q33 z X8 X9 Y8 Y9 s5 C5 C6 CF S5 S6 j u W'
  | 0, u, W, W', hf, h => h
  | 1, u, W, W', hf, h => h
  | 2, u, W, W', hf, h => h
  | 3, u, W, W', hf, h => h
  | 4, u, W, W', hf, h => h
  | 5, u, W, W', hf, h => h
  | 6, u, W, W', hf, h => h
  | 7, u, W, W', hf, h => h
  | 8, u, W, W', hf, h => h
  | 9, u, W, W', hf, h => (let ⟨x, h1, h2⟩ := h; ⟨x, h1, hf.y9 x h2⟩)
  | 10, u, W, W', hf, h => h
  | 11, u, W, W', hf, h => h
  | 12, u, W, W', hf, h => h
  | 13, u, W, W', hf, h => h
  | 14, u, W, W', hf, h => h
  | 15, u, W, W', hf, h => h
  | 16, u, W, W', hf, h => h
  | 17, u, W, W', hf, h => h
  | 18, u, W, W', hf, h => h
  | 19, u, W, W', hf, h => h
  | 20, u, W, W', hf, h => h
  | 21, u, W, W', hf, h => (let ⟨g, c, h1, h2⟩ := h; ⟨g, c, h1, h2.keep hf.fr (fun _ _ hk e => e.elim hk.1 hk.2)⟩)
  | 22, u, W, W', hf, h => h
  | 23, u, W, W', hf, h => h
  | 24, u, W, W', hf, h => (let ⟨x, h1, h2⟩ := h; ⟨x, h1, h2.keep hf.fr (fun _ _ hk e => e.elim hk.1 hk.2)⟩)
  | 25, u, W, W', hf, h => h
  | 26, u, W, W', hf, h => h
  | 27, u, W, W', hf, h => h
  | 28, u, W, W', hf, h => h
  | 29, u, W, W', hf, h => h
  | 30, u, W, W', hf, h => h
  | 31, u, W, W', hf, h => h
  | 32, u, W, W', hf, h => h
  | 33, u, W, W', hf, h => h
  | 34, u, W, W', hf, h => h
  | 35, u, W, W', hf, h => (let ⟨x, h1, h2⟩ := h; ⟨x, h1, hf.y8 x h2⟩)
  | 36, u, W, W', hf, h => h
  | 37, u, W, W', hf, h => h
  | 38, u, W, W', hf, h => h
  | 39, u, W, W', hf, h => h
  | 40, u, W, W', hf, h => h
  | _ + 41, u, W, W', hf, h => trivial
set_option maxRecDepth 100000 in
set_option maxHeartbeats 40000000 in
theorem refsEnds_any (w : World) (hml : MlAt w) : Calls Tryz.prog 4 #[] w fun e w' => e = .returned (.bool true) ∧ Fr (fun _ => False) w w' := by
  obtain ⟨gt, hgt⟩ : ∃ g, g = w.heap.size := ⟨_, rfl⟩
  obtain ⟨W1, hW1⟩ : ∃ W1, W1 = w.alloc (.cells #[.int .u8 0, .int .u8 0, .int .u8 0, .int .u8 0, .int .u8 0, .int .u8 0, .int .u8 0, .int .u8 0, .int .u8 0, .int .u8 0, .int .u8 0, .int .u8 0, .int .u8 0, .int .u8 0, .int .u8 0, .int .u8 0, .int .u8 0, .int .u8 0, .int .u8 0, .int .u8 0] 24) := ⟨_, rfl⟩
  have hT1 : BytT W1 gt 24 (List.replicate 20 (0 : UInt8)) := by rw [hW1, hgt]; exact heap_alloc_new w _
  have hf1 : Fr (fun _ => False) w W1 := by rw [hW1]; exact (Fr.refl _ _).alloc _
  have H0 := Lib.hid (show ∃ T : List UInt8, T.length = 20 ∧ BytT W1 gt 24 T ∧ Fr (fun _ => False) w W1 from ⟨_, by simp, hT1, hf1⟩)
  have HX := Lib.hid (And.intro hml hgt)
  clear hml hT1 hf1
  go_enter Tryz.func4, Tryz.ntmps4
  go_wp2_with fail
  rw [← hW1, ← hgt]
  clear hW1 hgt
  go_loopw [2] (fun iv wr => ∃ i : Nat, i ≤ 20 ∧ iv = .int .i64 i ∧ Hid (∃ T : List UInt8, T.length = 20 ∧ BytT wr gt 24 T ∧ Fr (fun _ => False) w wr)) (fun iv _ => 20 - (intOf iv).toNat)
  case atStart => exact ⟨0, by omega, rfl, H0⟩
  case round =>
    clear H0
    obtain ⟨i, hi, rfl, hR⟩ := hrel
    by_cases hlt : i < 20
    · have hlt64 : (i : Int) < 20 := by omega
      obtain ⟨T, hT⟩ := hR.out
      have hc := hT.2.1.cell i (by omega)
      have hfz := hT.2.1.free i
      have HT := Lib.hid hT
      have hgw : w.heap.size ≤ gt := by have := HX.out.2; omega
      clear hT hR
      rcases (show i % 3 = 0 ∨ i % 3 = 1 ∨ i % 3 = 2 by omega) with h3 | h3 | h3
      · have e1 : (i : Int).tmod 3 = 0 := by rw [Int.tmod_eq_emod_of_nonneg (by omega)]; omega
        clear h3
        go_wp2
        go_roundw
        case rel => exact ⟨i + 1, by omega, by go_num, Lib.hid ⟨T.set i 33, by rw [List.length_set]; exact HT.out.1, HT.out.2.1.set_ i 33 33 rfl, HT.out.2.2.setCell (p := ⟨gt, i, none⟩) (.inr hgw) _⟩⟩
        case measure => simp [intOf]; omega
      · have e1 : (i : Int).tmod 3 = 1 := by rw [Int.tmod_eq_emod_of_nonneg (by omega)]; omega
        clear h3
        go_wp2
        go_roundw
        case rel => exact ⟨i + 1, by omega, by go_num, Lib.hid ⟨T.set i 66, by rw [List.length_set]; exact HT.out.1, HT.out.2.1.set_ i 66 66 rfl, HT.out.2.2.setCell (p := ⟨gt, i, none⟩) (.inr hgw) _⟩⟩
        case measure => simp [intOf]; omega
      · have e1 : (i : Int).tmod 3 = 2 := by rw [Int.tmod_eq_emod_of_nonneg (by omega)]; omega
        clear h3
        go_wp2
        go_roundw
        case rel => exact ⟨i + 1, by omega, by go_num, Lib.hid ⟨T.set i 132, by rw [List.length_set]; exact HT.out.1, HT.out.2.1.set_ i 132 132 rfl, HT.out.2.2.setCell (p := ⟨gt, i, none⟩) (.inr hgw) _⟩⟩
        case measure => simp [intOf]; omega
    · obtain rfl : i = 20 := by omega
      have hlt64 : ¬ ((20 : Nat) : Int) < 20 := by omega
      obtain ⟨T, hTl, hT, hfT⟩ := hR.out
      obtain ⟨TC, hTC⟩ : ∃ Z, Z = (T.map bv).toArray := ⟨_, rfl⟩
      have hbs : (Instr.buildSlice 44 4 #[(0, .agg #[.int .u8 0, .int .u8 0, .int .u8 0, .int .u8 0, .int .u8 0, .int .u8 0, .int .u8 0, .int .u8 0, .int .u8 0, .int .u8 0, .int .u8 0, .int .u8 0, .int .u8 0, .int .u8 0, .int .u8 0, .int .u8 0, .int .u8 0, .int .u8 0, .int .u8 0, .int .u8 0]), (1, .agg TC), (2, .agg #[.int .u8 1, .int .u8 0, .int .u8 0, .int .u8 0, .int .u8 0, .int .u8 0, .int .u8 0, .int .u8 0, .int .u8 0, .int .u8 0, .int .u8 0, .int .u8 0, .int .u8 0, .int .u8 0, .int .u8 0, .int .u8 0, .int .u8 0, .int .u8 0, .int .u8 0, .int .u8 0]), (3, .agg #[.int .u8 0, .int .u8 0, .int .u8 0, .int .u8 255, .int .u8 0, .int .u8 0, .int .u8 0, .int .u8 0, .int .u8 0, .int .u8 0, .int .u8 0, .int .u8 0, .int .u8 0, .int .u8 0, .int .u8 0, .int .u8 0, .int .u8 0, .int .u8 0, .int .u8 0, .int .u8 0])]).run Tryz.prog wr = .ok (.slice (some ⟨wr.heap.size, 0, none⟩) 4 4) (wr.alloc (.cells ((h0_ ++ T ++ h1_ ++ h3_).map bv).toArray 24)) := by rw [hTC]; exact build_hashes wr T hTl
      obtain ⟨B80, hB80⟩ : ∃ B, B = h0_ ++ T ++ h1_ ++ h3_ := ⟨_, rfl⟩
      have hBl : B80.length = 80 := by rw [hB80, List.length_append, List.length_append, List.length_append, hTl]; rfl
      rw [← hB80] at hbs
      have hTs : (Tryz.prog.info? 24).map (·.size) = some TC.size := by rw [hTC]; simp only [List.size_toArray, List.length_map, hTl]; kernel_rfl
      have hrT : wr.heap[gt]? = some (.cells TC 24 (0, 0)) := by rw [hTC]; exact hT
      obtain ⟨gh, hgh⟩ : ∃ g, g = wr.heap.size := ⟨_, rfl⟩
      obtain ⟨W6, hW6⟩ : ∃ W, W = wr.alloc (.cells (B80.map bv).toArray 24) := ⟨_, rfl⟩
      rw [← hW6, ← hgh] at hbs
      have HB := Lib.hid (show B80.length = 80 ∧ BytT W6 gh 24 B80 ∧ Fr (fun _ => False) w W6 from ⟨hBl, by rw [hW6, hgh]; exact heap_alloc_new wr _, by rw [hW6]; exact hfT.alloc _⟩)
      clear hR hT hTl hfT hB80 hBl hTC hgh hW6
      go_wp2_with (first
        | (with_reducible refine wpList_load_row rfl 24 (.tmp 1) rfl gt rfl 24 TC (0, 0) _ hrT Tryz.underlying24 rfl hTs ?_)
        | (refine wpList_value rfl (.slice (some ⟨gh, 0, none⟩) 4 4) W6 (op_rows rfl (vs := #[(0, .agg #[.int .u8 0, .int .u8 0, .int .u8 0, .int .u8 0, .int .u8 0, .int .u8 0, .int .u8 0, .int .u8 0, .int .u8 0, .int .u8 0, .int .u8 0, .int .u8 0, .int .u8 0, .int .u8 0, .int .u8 0, .int .u8 0, .int .u8 0, .int .u8 0, .int .u8 0, .int .u8 0]), (1, .agg TC), (2, .agg #[.int .u8 1, .int .u8 0, .int .u8 0, .int .u8 0, .int .u8 0, .int .u8 0, .int .u8 0, .int .u8 0, .int .u8 0, .int .u8 0, .int .u8 0, .int .u8 0, .int .u8 0, .int .u8 0, .int .u8 0, .int .u8 0, .int .u8 0, .int .u8 0, .int .u8 0, .int .u8 0]), (3, .agg #[.int .u8 0, .int .u8 0, .int .u8 0, .int .u8 255, .int .u8 0, .int .u8 0, .int .u8 0, .int .u8 0, .int .u8 0, .int .u8 0, .int .u8 0, .int .u8 0, .int .u8 0, .int .u8 0, .int .u8 0, .int .u8 0, .int .u8 0, .int .u8 0, .int .u8 0, .int .u8 0])]) (by simp only [List.map_toArray, List.map_cons, List.map_nil]; rfl) hbs) ?_))
      clear hbs hTs hrT hlt hlt64 hi
      generalize hwz : wr = wz at *
      clear hwz
      go_loopw [4] (fun iv wr => ∃ n : Nat, n ≤ 100 ∧ iv = .int .i64 n ∧ Hid (Fr (fun _ => False) W6 wr)) (fun iv _ => 100 - (intOf iv).toNat)
      case atStart => exact ⟨0, by omega, rfl, Lib.hid (Fr.refl _ _)⟩
      case round =>
        obtain ⟨n, hn, rfl, hR⟩ := hrel
        by_cases hlt : n < 100
        · have hlt64 : (n : Int) < 100 := by omega
          obtain ⟨r4, hr4⟩ : ∃ r, r = n % 4 := ⟨_, rfl⟩
          obtain ⟨q4, hq4⟩ : ∃ r, r = n / 4 := ⟨_, rfl⟩
          obtain ⟨s4, hs4⟩ : ∃ r, r = q4 % 4 := ⟨_, rfl⟩
          have HIR4 := Lib.hid (show r4 < 4 by omega)
          have HIS4 := Lib.hid (show s4 < 4 by omega)
          have HRM := Lib.hid (fun (W : World) => show (binOp .rem 3 (.int .i64 (n : Nat)) (.int .i64 4)).run Tryz.prog W = .ok (.int .i64 (r4 : Nat)) W by rw [hr4]; exact rem4 W n)
          have HQU := Lib.hid (fun (W : World) => show (binOp .quo 3 (.int .i64 (n : Nat)) (.int .i64 4)).run Tryz.prog W = .ok (.int .i64 (q4 : Nat)) W by rw [hq4]; exact quo4 W n (by omega))
          have HRS := Lib.hid (fun (W : World) => show (binOp .rem 3 (.int .i64 (q4 : Nat)) (.int .i64 4)).run Tryz.prog W = .ok (.int .i64 (s4 : Nat)) W by rw [hs4]; exact rem4 W q4)
          have hB80 := HB.out.2.1.keep hR.out (fun h => h)
          obtain ⟨hc, hhc, hlc⟩ : ∃ L : List UInt8, (∀ W, Fr (fun _ => False) wr W → (Instr.loadAt 24 (.pointer (some ⟨gh, 0 + r4 * 20, none⟩))).run Tryz.prog W = .ok (.agg (L.map bv).toArray) W) ∧ L.length = 20 :=
            ⟨_, fun W hW => load_of_block W gh r4 B80 (hB80.keep hW (fun h => h)) (by have := HB.out.1; omega), by rw [List.length_take, List.length_drop, HB.out.1]; omega⟩
          obtain ⟨hd, hhd, hld⟩ : ∃ L : List UInt8, (∀ W, Fr (fun _ => False) wr W → (Instr.loadAt 24 (.pointer (some ⟨gh, 0 + s4 * 20, none⟩))).run Tryz.prog W = .ok (.agg (L.map bv).toArray) W) ∧ L.length = 20 :=
            ⟨_, fun W hW => load_of_block W gh s4 B80 (hB80.keep hW (fun h => h)) (by have := HB.out.1; omega), by rw [List.length_take, List.length_drop, HB.out.1]; omega⟩
          obtain ⟨C, hC⟩ : ∃ C, C = (hc.map bv).toArray := ⟨_, rfl⟩
          obtain ⟨D, hD⟩ : ∃ C, C = (hd.map bv).toArray := ⟨_, rfl⟩
          rw [← hC] at hhc
          rw [← hD] at hhd
          have LDC := Lib.hid hhc
          have LDD := Lib.hid hhd
          obtain ⟨z0, hz0⟩ : ∃ z, z = wr.heap.size := ⟨_, rfl⟩
          have HZ0 := Lib.hid hz0
          have hcs : C.size = 20 := by rw [hC]; simp [hlc]
          have hds : D.size = 20 := by rw [hD]; simp [hld]
          have HIC := Lib.hid (show (Tryz.prog.info? 24).map (·.size) = some C.size ∧ C.all (·.oneCell') = true ∧ C.size = 20 from ⟨by rw [hcs]; kernel_rfl, by rw [hC]; exact all_bv _, hcs⟩)
          have HID := Lib.hid (show (Tryz.prog.info? 24).map (·.size) = some D.size ∧ D.all (·.oneCell') = true ∧ D.size = 20 from ⟨by rw [hds]; kernel_rfl, by rw [hD]; exact all_bv _, hds⟩)
          have HXC := Lib.hid (fun W g L (hz : z0 ≤ g) (h : BytT W g 24 L) => show X10 z0 W (W.setRow g C) by rw [hC]; exact X10.store hz h hlc)
          have HXD := Lib.hid (fun W g L (hz : z0 ≤ g) (h : BytT W g 24 L) => show X10 z0 W (W.setRow g D) by rw [hD]; exact X10.store hz h hld)
          have HCD := Lib.hid (And.intro hC (And.intro hD (And.intro hlc (And.intro hld hz0))))
          clear hr4 hq4 hs4 hhc hhd hC hD hlc hld hB80 hz0 hcs hds
          go_wp2_with fail
          refine wp_region_inv 14 (by kernel_rfl) (by kernel_rfl) (fun W => Fr (fun _ => False) wr W) (EnX gh n r4 q4 s4 z0 C D) (fun _ _ _ _ => True) (X10 z0) (EnX.ext gh n r4 q4 s4 z0 C D) (Fr.refl _ _).drew ?_ ?_
          · intro i hi o ho
            replace hi : i < 14 := hi
            obtain rfl | rfl | rfl | rfl | rfl | rfl | rfl | rfl | rfl | rfl | rfl | rfl | rfl | rfl : i = 0 ∨ i = 1 ∨ i = 2 ∨ i = 3 ∨ i = 4 ∨ i = 5 ∨ i = 6 ∨ i = 7 ∨ i = 8 ∨ i = 9 ∨ i = 10 ∨ i = 11 ∨ i = 12 ∨ i = 13 := by omega
            · simp only [List.getElem?_cons_zero, Option.some.injEq] at ho
              subst ho
              intro a W vs hB hS hE hU
              refine wpG_plain rfl ?_
              have v3 : a.eval (.tmp 3) = .slice (some ⟨gh, 0, none⟩) 4 4 := (hU 3 (by kernel_rfl)).trans rfl
              clear hE hU
              exact wp_value_inv (w' := W) (.slice (some ⟨gh, 0, none⟩) 4 4) (op_move rfl v3) ⟨_, rfl, hB, X10.refl _ _, rfl, fun _ _ _ _ _ => trivial⟩
            · simp only [List.getElem?_cons_zero, List.getElem?_cons_succ, Option.some.injEq] at ho
              subst ho
              intro a W vs hB hS hE hU
              refine wpG_plain rfl ?_
              have v4 : a.eval (.tmp 4) = .int .i64 (n : Nat) := (hU 4 (by kernel_rfl)).trans rfl
              clear hE hU
              exact wp_value_inv (w' := W) (.int .i64 (n : Nat)) (op_move rfl v4) ⟨_, rfl, hB, X10.refl _ _, rfl, fun _ _ _ _ _ => trivial⟩
            · simp only [List.getElem?_cons_zero, List.getElem?_cons_succ, Option.some.injEq] at ho
              subst ho
              intro a W vs hB hS hE hU
              refine wpG_plain rfl ?_
              obtain ⟨r1, e30⟩ := hE 1 30 (by kernel_rfl) (by kernel_rfl)
              have v30 : a.eval (.tmp 30) = .int .i64 (n : Nat) := e30.trans r1
              clear hE hU
              exact wp_value_inv (w' := W) (.int .i64 (r4 : Nat)) (op_bin rfl v30 rfl (rfl) (HRM.out W)) ⟨_, rfl, hB, X10.refl _ _, rfl, fun _ _ _ _ _ => trivial⟩
            · simp only [List.getElem?_cons_zero, List.getElem?_cons_succ, Option.some.injEq] at ho
              subst ho
              intro a W vs hB hS hE hU
              refine wpG_plain rfl ?_
              obtain ⟨r0, e29⟩ := hE 0 29 (by kernel_rfl) (by kernel_rfl)
              have v29 : a.eval (.tmp 29) = .slice (some ⟨gh, 0, none⟩) 4 4 := e29.trans r0
              obtain ⟨r2, e31⟩ := hE 2 31 (by kernel_rfl) (by kernel_rfl)
              have v31 : a.eval (.tmp 31) = .int .i64 (r4 : Nat) := e31.trans r2
              clear hE hU
              exact wp_value_inv (w' := W) (.pointer (some ⟨gh, 0 + r4 * 20, none⟩)) (op_indexAddr rfl v29 v31 (run_index_hashes W gh 0 4 4 r4 HIR4.out)) ⟨_, rfl, hB, X10.refl _ _, rfl, fun _ _ _ _ _ => trivial⟩
            · simp only [List.getElem?_cons_zero, List.getElem?_cons_succ, Option.some.injEq] at ho
              subst ho
              intro a W vs hB hS hE hU
              refine wpG_plain rfl ?_
              obtain ⟨r3, e32⟩ := hE 3 32 (by kernel_rfl) (by kernel_rfl)
              have v32 : a.eval (.tmp 32) = .pointer (some ⟨gh, 0 + r4 * 20, none⟩) := e32.trans r3
              clear hE hU
              exact wp_value_inv (w' := W) (.agg C) (op_loadAt rfl v32 (LDC.out W hB)) ⟨_, rfl, hB, X10.refl _ _, rfl, fun _ _ _ _ _ => trivial⟩
            · simp only [List.getElem?_cons_zero, List.getElem?_cons_succ, Option.some.injEq] at ho
              subst ho
              intro a W vs hB hS hE hU
              refine wpG_plain rfl ?_
              have v3 : a.eval (.tmp 3) = .slice (some ⟨gh, 0, none⟩) 4 4 := (hU 3 (by kernel_rfl)).trans rfl
              clear hE hU
              exact wp_value_inv (w' := W) (.slice (some ⟨gh, 0, none⟩) 4 4) (op_move rfl v3) ⟨_, rfl, hB, X10.refl _ _, rfl, fun _ _ _ _ _ => trivial⟩
            · simp only [List.getElem?_cons_zero, List.getElem?_cons_succ, Option.some.injEq] at ho
              subst ho
              intro a W vs hB hS hE hU
              refine wpG_plain rfl ?_
              have v4 : a.eval (.tmp 4) = .int .i64 (n : Nat) := (hU 4 (by kernel_rfl)).trans rfl
              clear hE hU
              exact wp_value_inv (w' := W) (.int .i64 (n : Nat)) (op_move rfl v4) ⟨_, rfl, hB, X10.refl _ _, rfl, fun _ _ _ _ _ => trivial⟩
            · simp only [List.getElem?_cons_zero, List.getElem?_cons_succ, Option.some.injEq] at ho
              subst ho
              intro a W vs hB hS hE hU
              refine wpG_plain rfl ?_
              obtain ⟨r6, e35⟩ := hE 6 35 (by kernel_rfl) (by kernel_rfl)
              have v35 : a.eval (.tmp 35) = .int .i64 (n : Nat) := e35.trans r6
              clear hE hU
              exact wp_value_inv (w' := W) (.int .i64 (q4 : Nat)) (op_bin rfl v35 rfl (rfl) (HQU.out W)) ⟨_, rfl, hB, X10.refl _ _, rfl, fun _ _ _ _ _ => trivial⟩
            · simp only [List.getElem?_cons_zero, List.getElem?_cons_succ, Option.some.injEq] at ho
              subst ho
              intro a W vs hB hS hE hU
              refine wpG_plain rfl ?_
              obtain ⟨r7, e36⟩ := hE 7 36 (by kernel_rfl) (by kernel_rfl)
              have v36 : a.eval (.tmp 36) = .int .i64 (q4 : Nat) := e36.trans r7
              clear hE hU
              exact wp_value_inv (w' := W) (.int .i64 (s4 : Nat)) (op_bin rfl v36 rfl (rfl) (HRS.out W)) ⟨_, rfl, hB, X10.refl _ _, rfl, fun _ _ _ _ _ => trivial⟩
            · simp only [List.getElem?_cons_zero, List.getElem?_cons_succ, Option.some.injEq] at ho
              subst ho
              intro a W vs hB hS hE hU
              refine wpG_plain rfl ?_
              obtain ⟨r5, e34⟩ := hE 5 34 (by kernel_rfl) (by kernel_rfl)
              have v34 : a.eval (.tmp 34) = .slice (some ⟨gh, 0, none⟩) 4 4 := e34.trans r5
              obtain ⟨r8, e37⟩ := hE 8 37 (by kernel_rfl) (by kernel_rfl)
              have v37 : a.eval (.tmp 37) = .int .i64 (s4 : Nat) := e37.trans r8
              clear hE hU
              exact wp_value_inv (w' := W) (.pointer (some ⟨gh, 0 + s4 * 20, none⟩)) (op_indexAddr rfl v34 v37 (run_index_hashes W gh 0 4 4 s4 HIS4.out)) ⟨_, rfl, hB, X10.refl _ _, rfl, fun _ _ _ _ _ => trivial⟩
            · simp only [List.getElem?_cons_zero, List.getElem?_cons_succ, Option.some.injEq] at ho
              subst ho
              intro a W vs hB hS hE hU
              refine wpG_plain rfl ?_
              obtain ⟨r9, e38⟩ := hE 9 38 (by kernel_rfl) (by kernel_rfl)
              have v38 : a.eval (.tmp 38) = .pointer (some ⟨gh, 0 + s4 * 20, none⟩) := e38.trans r9
              clear hE hU
              exact wp_value_inv (w' := W) (.agg D) (op_loadAt rfl v38 (LDD.out W hB)) ⟨_, rfl, hB, X10.refl _ _, rfl, fun _ _ _ _ _ => trivial⟩
            · simp only [List.getElem?_cons_zero, List.getElem?_cons_succ, Option.some.injEq] at ho
              subst ho
              intro a W vs hB hS hE hU
              refine wpG_plain rfl ?_
              clear hE hU
              exact wp_value_inv (w' := W.alloc (.cells ((List.replicate 20 (0 : UInt8)).map bv).toArray 24)) (.pointer (some ⟨W.heap.size, 0, none⟩)) (op_alloc_hash rfl) ⟨_, rfl, hB.alloc _, X10.of ((Fr.refl _ _).alloc _), ⟨W.heap.size, rfl, Nat.le_trans (Nat.le_of_eq HZ0.out) hB.size, ⟨List.replicate 20 0, by simp, heap_alloc_new W _⟩⟩, fun _ _ _ _ _ => trivial⟩
            · simp only [List.getElem?_cons_zero, List.getElem?_cons_succ, Option.some.injEq] at ho
              subst ho
              intro a W vs hB hS hE hU
              refine wpG_plain rfl ?_
              clear hE hU
              exact wp_value_inv (w' := W.alloc (.cells ((List.replicate 20 (0 : UInt8)).map bv).toArray 24)) (.pointer (some ⟨W.heap.size, 0, none⟩)) (op_alloc_hash rfl) ⟨_, rfl, hB.alloc _, X10.of ((Fr.refl _ _).alloc _), ⟨W.heap.size, rfl, Nat.le_trans (Nat.le_of_eq HZ0.out) hB.size, ⟨List.replicate 20 0, by simp, heap_alloc_new W _⟩⟩, fun _ _ _ _ _ => trivial⟩
            · simp only [List.getElem?_cons_zero, List.getElem?_cons_succ, Option.some.injEq] at ho
              subst ho
              intro a W vs hB hS hE hU
              refine wpG_plain rfl ?_
              obtain ⟨⟨g11, rg11, hz11, hh11⟩, e5⟩ := hE 11 5 (by kernel_rfl) (by kernel_rfl)
              have v5 : a.eval (.tmp 5) = .pointer (some ⟨g11, 0, none⟩) := e5.trans rg11
              obtain ⟨r4, e33⟩ := hE 4 33 (by kernel_rfl) (by kernel_rfl)
              have v33 : a.eval (.tmp 33) = .agg C := e33.trans r4
              clear hE hU
              obtain ⟨Lq, hLq, hBq⟩ := hh11
              exact wp_skip_inv (W.setRow g11 C) (op_store_row rfl v5 v33 hBq HIC.out.1 (by rw [HIC.out.2.2]; simp [hLq]) HIC.out.2.1) ⟨_, rfl, hB.setRow (.inr (by have := HZ0.out; omega)) _, HXC.out W g11 Lq hz11 hBq, rfl, fun _ _ _ _ _ => trivial⟩
          · intro vs Wa hB0 hR0 hD
            have r33 : vs 4 = .agg C := hR0 4 (by decide)
            have r39 : vs 10 = .agg D := hR0 10 (by decide)
            obtain ⟨g5, hv5, hz5, hh5⟩ := hR0 11 (by decide)
            obtain ⟨g6, hv6, hz6, hh6⟩ := hR0 12 (by decide)
            have HBa := Lib.hid hB0
            clear hR0 hD hB0
            simp only [acts, if_true, dstAt, List.getElem?_cons_zero, List.getElem?_cons_succ, Option.bind_some, Act.put, List.setIfInBounds_toArray, List.set_cons_succ, List.set_cons_zero, List.drop_succ_cons]
            simp only [r33, r39]
            clear r33 r39
            rw [hv5, hv6]
            clear hv5 hv6
            obtain ⟨L6, hL6, hB6⟩ := hh6
            have HD6 := HXD.out Wa g6 L6 hz6 hB6
            obtain ⟨H5, hl5, hb5⟩ := HD6.hs g5 hh5
            obtain ⟨H6, hl6, hb6⟩ := HD6.hs g6 ⟨L6, hL6, hB6⟩
            have hfd : Fr (fun _ => False) wr (Wa.setRow g6 D) := HBa.out.trans HD6.fr (fun k hk => .inr (by have := HZ0.out; have hk' : z0 ≤ k := hk; omega))
            obtain ⟨Wd, hWd⟩ : ∃ W, W = Wa.setRow g6 D := ⟨_, rfl⟩
            rw [← hWd] at hb5 hb6 hfd
            obtain ⟨P6, hP6⟩ : ∃ P, P = (L6.map bv).toArray := ⟨_, rfl⟩
            have hh6r : Wa.heap[g6]? = some (.cells P6 24 (0, 0)) := by rw [hP6]; exact hB6
            have hsz6 : P6.size = D.size := by rw [HID.out.2.2, hP6]; simp [hL6]
            have hiD := HID.out.1
            have hoD := HID.out.2.1
            obtain ⟨C5, hC5⟩ : ∃ C, C = (H5.map bv).toArray := ⟨_, rfl⟩
            obtain ⟨C6, hC6⟩ : ∃ C, C = (H6.map bv).toArray := ⟨_, rfl⟩
            have hc5 : C5.size = 20 := by rw [hC5]; simp [hl5]
            have hc6 : C6.size = 20 := by rw [hC6]; simp [hl6]
            have hr5 : Wd.heap[g5]? = some (.cells C5 24 (0, 0)) := by rw [hC5]; exact hb5
            have hr6 : Wd.heap[g6]? = some (.cells C6 24 (0, 0)) := by rw [hC6]; exact hb6
            have hi5 : (Tryz.prog.info? 24).map (·.size) = some C5.size := by rw [hc5]; kernel_rfl
            have hi6 : (Tryz.prog.info? 24).map (·.size) = some C6.size := by rw [hc6]; kernel_rfl
            have hls5 := letL_length H5
            have hls6 := letL_length H6
            have HLO5 := Lib.hid (fun (W : World) => rLetters_any H5 hl5 W)
            have HLO6 := Lib.hid (fun (W : World) => rLetters_any H6 hl6 W)
            obtain ⟨s5, hs5⟩ : ∃ s, s = letL H5 := ⟨_, rfl⟩
            obtain ⟨s6, hs6⟩ : ∃ s, s = letL H6 := ⟨_, rfl⟩
            rw [← hC5, ← hs5] at HLO5
            rw [← hC6, ← hs6] at HLO6
            rw [← hs5] at hls5
            rw [← hs6] at hls6
            obtain ⟨S5, hS5⟩ : ∃ S : ByteArray, S = ⟨s5.toArray⟩ := ⟨_, rfl⟩
            obtain ⟨S6, hS6⟩ : ∃ S : ByteArray, S = ⟨s6.toArray⟩ := ⟨_, rfl⟩
            rw [← hS5] at HLO5
            rw [← hS6] at HLO6
            have hz5s : S5.size = 32 := by rw [hS5]; exact hls5
            have hz6s : S6.size = 32 := by rw [hS6]; exact hls6
            have HS := Lib.hid (show S5.size = 32 ∧ S6.size = 32 ∧ S5.data.toList = s5 ∧ s5.length = 32 from ⟨hz5s, hz6s, by rw [hS5], hls5⟩)
            have HH := Lib.hid (show C5 = (H5.map bv).toArray ∧ C6 = (H6.map bv).toArray ∧ H5.length = 20 ∧ H6.length = 20 ∧ C5.size = 20 ∧ C6.size = 20 from ⟨hC5, hC6, hl5, hl6, hc5, hc6⟩)
            have HFD := Lib.hid (And.intro hfd (And.intro hr5 hr6))
            clear HXC HXD LDC LDD HIC HID HCD HRM HQU HRS HIR4 HIS4 hL6 hB6 HD6 hh5 hb5 hb6 hP6 hC5 hC6 hc5 hc6 hls5 hls6 hs5 hs6 hS5 hS6 hz5s hz6s hl5 hl6 HBa HZ0 hz5 hz6 hfd
            refine wpList_store_row rfl 24 (.tmp 6) (.tmp 39) rfl g6 D P6 24 rfl rfl hh6r hiD hsz6 hoD ?_
            rw [← hWd]
            simp only [Act.put]
            clear hWd hh6r hiD hsz6 hoD
            go_wp2_with (first
              | (with_reducible refine wpList_load_row rfl 24 (.tmp 5) rfl g5 rfl 24 C5 (0, 0) _ hr5 Tryz.underlying24 rfl hi5 ?_)
              | (go_at_call 22; refine (HLO5.out _).mono ?_; rintro e w1 ⟨rfl, hf1⟩; (have H1 := Lib.hid hf1); clear hf1)
              | (go_at_call 23; refine (text_any w1 S5 HS.out.1 n hlt).mono ?_; rintro e w2 ⟨v8, X8, rfl, ho8, hp8, hq8, hf2⟩; (obtain ⟨b8, c8, hv8, -, -, hF8, -⟩ := ho8.form hp8); subst hv8; (have H2 := Lib.hid (And.intro hf2 (And.intro ho8 (And.intro hq8 (And.intro hF8 hp8))))); clear ho8 hp8 hq8 hF8 hf2)
              | (at_builtin; refine wpList_append_str (z := w2.heap.size) _ rfl (.tmp 45) (.tmp 46) rfl (.slice (some ⟨w2.heap.size, 0, none⟩) 0 0) [] S5 rfl rfl (own_empty w2 _ rfl) ?len ?hz ?next))
            case len =>
              have := HS.out.1
              rw [HS.out.2.2.1, HS.out.2.2.2]
              simp
            case hz => simp
            case next =>
              intro v9 w3 ho9 hg9
              have hf9 : Fr (fun _ => False) w2 w3 := ((Fr.refl (fun _ => False) w2).alloc _).grown hg9 (fun k hk => .inr (by simp [Value.ownBlock] at hk; omega))
              rw [HS.out.2.2.1] at ho9
              obtain ⟨b9, c9, hv9, hlc9, hcm9, hF9, hcell9⟩ := ho9.form (by have := HS.out.2.2.2; omega)
              subst hv9
              obtain ⟨r32, hr32⟩ : ∃ r, r = n % 32 := ⟨_, rfl⟩
              have e32 : (n : Int).tmod 32 = (r32 : Int) := by rw [Int.tmod_eq_emod_of_nonneg (by omega)]; omega
              obtain ⟨X9, hX9⟩ : ∃ X, X = s5.set r32 101 := ⟨_, rfl⟩
              have hlen9 : s5.length = X9.length := by rw [hX9, List.length_set]
              have hl32 : X9.length = 32 := by rw [← hlen9]; exact HS.out.2.2.2
              have hr32l : r32 < X9.length := by omega
              obtain ⟨k9, hz9⟩ := hcell9 r32 (by omega)
              have hb9 : b9 < w3.heap.size := World.block_lt_of_cell? _ _ k9
              have ho9' := ho9.store r32 101
              rw [← hX9, hlen9] at ho9'
              rw [hlen9]
              obtain ⟨w4, hw4⟩ : ∃ W, W = w3.setCell ⟨b9, r32, none⟩ (.int .u8 101) := ⟨_, rfl⟩
              have hs12 := H1.out.size
              have hs2 := H2.out.1.size
              have hF8 : w1.heap.size ≤ b8 := H2.out.2.2.2.1
              have hb8 : b8 < w2.heap.size := (H2.out.2.1.1.lt b8 rfl).2
              have hF9' : w2.heap.size ≤ b9 := hF9
              have hf4 : Fr (fun _ => False) Wd w4 := by rw [hw4]; exact ((H1.out.trans H2.out.1 (fun _ h => h.elim)).trans hf9 (fun _ h => h.elim)).setCell (p := ⟨b9, r32, none⟩) (.inr (by show Wd.heap.size ≤ b9; omega)) _
              have ho84 : OwnB (· = b8) w4 (.slice (some ⟨b8, 0, none⟩) X8.length c8) X8 := by
                have h1 : OwnB (· = b8) w2 (.slice (some ⟨b8, 0, none⟩) X8.length c8) X8 := ⟨H2.out.2.1.1, fun k hk => by simp only [Value.ownBlock, Option.some.injEq] at hk; exact hk.symm⟩
                rw [hw4]
                exact (h1.keep hf9 (fun _ _ _ h => h)).keep (Fr.cell1 _ b9 r32 _) (fun k _ hk e => by have hk' : k = b8 := hk; have he : k = b9 := e; omega)
              have ho94 : OwnB (· = b9) w4 (.slice (some ⟨b9, 0, none⟩) X9.length c9) X9 := by
                rw [hw4]
                exact ⟨ho9'.1, fun k hk => by simp only [Value.ownBlock, Option.some.injEq] at hk; exact hk.symm⟩
              have hs34 : w4.heap.size = w3.heap.size := by rw [hw4]; simp
              have hr54 := hf4.heap HFD.out.2.1 (fun h => h)
              have hr64 := hf4.heap HFD.out.2.2 (fun h => h)
              have hpa : Tryz.prog.built 27 [(0, .agg C5), (1, .string ⟨#[97]⟩)] = some (pathC H5 ⟨#[97]⟩) := by rw [HH.out.1]; exact path_built _ (by rw [List.length_map]; exact HH.out.2.2.1) _
              have hpb : Tryz.prog.built 27 [(0, .agg C6), (1, .string ⟨#[98]⟩)] = some (pathC H6 ⟨#[98]⟩) := by rw [HH.out.2.1]; exact path_built _ (by rw [List.length_map]; exact HH.out.2.2.2.1) _
              have hpc : Tryz.prog.built 27 [(0, .agg C5), (1, .string ⟨#[98]⟩)] = some (pathC H5 ⟨#[98]⟩) := by rw [HH.out.1]; exact path_built _ (by rw [List.length_map]; exact HH.out.2.2.1) _
              have hb62 := build_five w4 H5 H6 HH.out.2.2.1 HH.out.2.2.2.1 ⟨#[97]⟩ ⟨#[98]⟩ ⟨#[98]⟩ ⟨#[97]⟩ ⟨#[99]⟩
              obtain ⟨PS, hPS⟩ : ∃ PS : List PathX, PS = [⟨H5, ⟨#[97]⟩, HH.out.2.2.1⟩, ⟨H6, ⟨#[98]⟩, HH.out.2.2.2.1⟩, ⟨H5, ⟨#[98]⟩, HH.out.2.2.1⟩, ⟨H5, ⟨#[97]⟩, HH.out.2.2.1⟩, ⟨h9_, ⟨#[99]⟩, rfl⟩] := ⟨_, rfl⟩
              have hPl : PS.length = 5 := by rw [hPS]; rfl
              have hPn : ∀ x ∈ PS, x.n.size ≤ 140737488351232 := by
                rw [hPS]
                intro x hx
                simp only [List.mem_cons, List.not_mem_nil, or_false] at hx
                rcases hx with rfl | rfl | rfl | rfl | rfl <;> (show 1 ≤ 140737488351232; omega)
              rw [← hPS] at hb62
              obtain ⟨PA, hPA⟩ : ∃ P, P = pathC H5 ⟨#[97]⟩ := ⟨_, rfl⟩
              obtain ⟨PB, hPB⟩ : ∃ P, P = pathC H6 ⟨#[98]⟩ := ⟨_, rfl⟩
              obtain ⟨PC, hPC⟩ : ∃ P, P = pathC H5 ⟨#[98]⟩ := ⟨_, rfl⟩
              rw [← hPA] at hpa
              rw [← hPB] at hpb
              rw [← hPC] at hpc
              obtain ⟨PD, hPD⟩ : ∃ P, P = pathC h9_ ⟨#[99]⟩ := ⟨_, rfl⟩
              obtain ⟨C9, hC9⟩ : ∃ P, P = (h9_.map bv).toArray := ⟨_, rfl⟩
              have hb9' := built9
              have hpd : Tryz.prog.built 27 [(0, .agg C9), (1, .string ⟨#[99]⟩)] = some PD := by rw [hC9, hPD]; exact path_built (h9_.map bv) rfl _
              rw [← hC9] at hb9'
              rw [← hPA, ← hPB, ← hPC, ← hPD] at hb62
              obtain ⟨gp, hgp⟩ : ∃ g, g = w4.heap.size := ⟨_, rfl⟩
              obtain ⟨w5, hw5⟩ : ∃ W, W = w4.alloc (.cells (flatX PS).toArray 27) := ⟨_, rfl⟩
              rw [← hw5, ← hgp] at hb62
              have hf5 : Fr (fun _ => False) w4 w5 := by rw [hw5]; exact (Fr.refl _ _).alloc _
              have HW5 := Lib.hid (show Fr (fun _ => False) wr w5 ∧ w5.heap[g5]? = some (.cells C5 24 (0, 0)) ∧ w5.heap[g6]? = some (.cells C6 24 (0, 0)) ∧ w5.heap[gp]? = some (.cells (flatX PS).toArray 27 (0, 0)) ∧ PS.length = 5 ∧ (∀ x ∈ PS, x.n.size ≤ 140737488351232) ∧ MlAt w5 ∧ g5 < Wd.heap.size ∧ g6 < Wd.heap.size ∧ Wd.heap.size ≤ b8 ∧ b8 < b9 ∧ b9 < gp ∧ gp < w5.heap.size ∧ X8.length ≤ 320 ∧ 0 < X8.length ∧ X9.length = 32 ∧ wr.heap.size ≤ b8 from
                ⟨(HFD.out.1.trans hf4 (fun _ h => h.elim)).trans hf5 (fun _ h => h.elim), hf5.heap hr54 (fun h => h), hf5.heap hr64 (fun h => h), by rw [hw5, hgp]; exact heap_alloc_new w4 _, hPl, hPn, ((HX.out.1.keep (HB.out.2.2.trans hR.out (fun _ h => h.elim)) (fun h => h)).keep ((HFD.out.1.trans hf4 (fun _ h => h.elim)).trans hf5 (fun _ h => h.elim)) (fun h => h)), lt_of_block HFD.out.2.1, lt_of_block HFD.out.2.2, by omega, by omega, by omega, by rw [hw5, hgp]; simp, H2.out.2.2.1, H2.out.2.2.2.2, hl32, by have := HFD.out.1.size; omega⟩)
              have HI5 := Lib.hid (show I16 b8 c8 b9 c9 X8 X9 w5 w5.drew from I16.quiet ⟨Fr.refl _ _, ho84.keep hf5 (fun _ _ _ h => h), ho94.keep hf5 (fun _ _ _ h => h)⟩ (Fr.refl _ _).drew)
              clear ho9 hg9 hf9 hlc9 hcm9 hF9 hcell9 hr32 hX9 hlen9 hl32 hb9 ho9' hs12 hs2 hF8 hb8 hF9' hf4 ho84 ho94 hs34 hPS hPl hPn hPA hPB hPC hPD hC9 hgp hw5 hf5 hr5 hr6
              go_wp2_with (first
                | (rw [← hw4]; clear hw4)
                | ((with_reducible refine wpList_load_row rfl 24 (.tmp 5) rfl g5 rfl 24 C5 (0, 0) _ hr54 Tryz.underlying24 rfl hi5 ?_); simp only [Act.put, List.setIfInBounds_toArray, List.set_cons_succ, List.set_cons_zero])
                | ((with_reducible refine wpList_load_row rfl 24 (.tmp 6) rfl g6 rfl 24 C6 (0, 0) _ hr64 Tryz.underlying24 rfl hi6 ?_); simp only [Act.put, List.setIfInBounds_toArray, List.set_cons_succ, List.set_cons_zero])
                | (((with_reducible refine wpList_build #[(0, .tmp 52), (1, .const (.string ⟨#[97]⟩))] [(0, .agg C5), (1, .string ⟨#[97]⟩)] rfl rfl ?_ hpa ?_); (· simp only [List.map_toArray, List.map_cons, List.map_nil]; rfl)); simp only [Act.put, List.setIfInBounds_toArray, List.set_cons_succ, List.set_cons_zero])
                | (((with_reducible refine wpList_build #[(0, .tmp 54), (1, .const (.string ⟨#[98]⟩))] [(0, .agg C6), (1, .string ⟨#[98]⟩)] rfl rfl ?_ hpb ?_); (· simp only [List.map_toArray, List.map_cons, List.map_nil]; rfl)); simp only [Act.put, List.setIfInBounds_toArray, List.set_cons_succ, List.set_cons_zero])
                | (((with_reducible refine wpList_build #[(0, .tmp 56), (1, .const (.string ⟨#[98]⟩))] [(0, .agg C5), (1, .string ⟨#[98]⟩)] rfl rfl ?_ hpc ?_); (· simp only [List.map_toArray, List.map_cons, List.map_nil]; rfl)); simp only [Act.put, List.setIfInBounds_toArray, List.set_cons_succ, List.set_cons_zero])
                | (((with_reducible refine wpList_build #[(0, .tmp 58), (1, .const (.string ⟨#[97]⟩))] [(0, .agg C5), (1, .string ⟨#[97]⟩)] rfl rfl ?_ hpa ?_); (· simp only [List.map_toArray, List.map_cons, List.map_nil]; rfl)); simp only [Act.put, List.setIfInBounds_toArray, List.set_cons_succ, List.set_cons_zero])
                | (((with_reducible refine wpList_build #[(0, .const (.int .u8 9))] [(0, .int .u8 9)] rfl rfl ?_ hb9' ?_); (· simp only [List.map_toArray, List.map_cons, List.map_nil]; rfl)); simp only [Act.put, List.setIfInBounds_toArray, List.set_cons_succ, List.set_cons_zero])
                | (((with_reducible refine wpList_build #[(0, .tmp 60), (1, .const (.string ⟨#[99]⟩))] [(0, .agg C9), (1, .string ⟨#[99]⟩)] rfl rfl ?_ hpd ?_); (· simp only [List.map_toArray, List.map_cons, List.map_nil]; rfl)); simp only [Act.put, List.setIfInBounds_toArray, List.set_cons_succ, List.set_cons_zero])
                | ((refine wpList_value rfl (.slice (some ⟨gp, 0, none⟩) 5 5) w5 (op_rows rfl (vs := #[(0, .agg PA), (1, .agg PB), (2, .agg PC), (3, .agg PA), (4, .agg PD)]) (by simp only [List.map_toArray, List.map_cons, List.map_nil]; rfl) hb62) ?_); simp only [Act.put, List.setIfInBounds_toArray, List.set_cons_succ, List.set_cons_zero]))
              clear hr54 hr64 hpa hpb hpc hpd hb9' hb62
              obtain ⟨k1, k2, k3, k4, k5, k6, k7, k8, k9, k10, k11, k12, k13, k14, k15, k16, k17⟩ := HW5.out
              obtain ⟨z, hz⟩ : ∃ z, z = w5.heap.size := ⟨_, rfl⟩
              obtain ⟨q6, hr6⟩ : ∃ r, r = n % 6 := ⟨_, rfl⟩
              obtain ⟨q33, hr33⟩ : ∃ r, r = n % 33 := ⟨_, rfl⟩
              have h6le : q6 ≤ 5 := by omega
              have h33le : q33 ≤ 32 := by omega
              have HR6 := Lib.hid (fun (W : World) => show (binOp .rem 3 (.int .i64 (n : Nat)) (.int .i64 6)).run Tryz.prog W = .ok (.int .i64 (q6 : Nat)) W by rw [hr6]; exact rem6 W n)
              have HR33 := Lib.hid (fun (W : World) => show (binOp .rem 3 (.int .i64 (n : Nat)) (.int .i64 33)).run Tryz.prog W = .ok (.int .i64 (q33 : Nat)) W by rw [hr33]; exact rem33 W n)
              obtain ⟨Y8, hY8⟩ : ∃ Y, Y = X8 ++ S6.data.toList := ⟨_, rfl⟩
              obtain ⟨Y9, hY9⟩ : ∃ Y, Y = X9 ++ X8 := ⟨_, rfl⟩
              obtain ⟨CF, hCF⟩ : ∃ C, C = (h5_.map bv).toArray := ⟨_, rfl⟩
              have h6d : S6.data.toList.length = 32 := by rw [Array.length_toList]; exact HS.out.2.1
              have hY8l : Y8.length ≤ 1000 := by rw [hY8, List.length_append]; omega
              have hY9l : Y9.length ≤ 1000 := by rw [hY9, List.length_append]; omega
              have h80 : X8 ≠ [] := by intro e; rw [e] at k15; simp at k15
              have h90 : X9 ≠ [] := by intro e; rw [e] at k16; simp at k16
              have hg0 : 0 < b8 := by
                have h1 := HX.out.1.lt
                have h2 := HB.out.2.2.size
                have h3 := hR.out.size
                omega
              have hml5 : ∀ W, I16 b8 c8 b9 c9 X8 X9 w5 W → MlAt W := fun W hI => k7.keep hI.fr (fun e => by omega)
              have hgp5 : ∀ W, I16 b8 c8 b9 c9 X8 X9 w5 W → W.heap[gp]? = some (.cells (flatX PS).toArray 27 (0, 0)) := fun W hI => hI.fr.heap k4 (fun e => by omega)
              have HBF := Lib.hid (show Tryz.prog.built 24 [(0, .int .u8 5)] = some CF by rw [hCF]; exact built5)
              have LD5 := Lib.hid (fun W (hI : I16 b8 c8 b9 c9 X8 X9 w5 W) => load_hash16 W g5 C5 (hI.fr.heap k2 (fun e => by omega)) hi5)
              have LD6 := Lib.hid (fun W (hI : I16 b8 c8 b9 c9 X8 X9 w5 W) => load_hash16 W g6 C6 (hI.fr.heap k3 (fun e => by omega)) hi6)
              have HT1 := Lib.hid (fun W (hI : I16 b8 c8 b9 c9 X8 X9 w5 W) => tell16 W (.slice (some ⟨b8, 0, none⟩) X8.length c8) X8 H5 H6 gp 5 PS C5 C6 HH.out.1 HH.out.2.1 HH.out.2.2.1 HH.out.2.2.2.1 hI.x8.bytes (hgp5 W hI) k5 (Nat.le_refl 5) k6 (by omega) (hml5 W hI))
              have HT2 := Lib.hid (fun W (hI : I16 b8 c8 b9 c9 X8 X9 w5 W) x (hx : OwnB (fun k => k = b9 ∨ z ≤ k) W x Y9) => tell16 W x Y9 H5 h5_ gp q6 PS C5 CF HH.out.1 hCF HH.out.2.2.1 rfl hx.bytes (hgp5 W hI) k5 h6le k6 hY9l (hml5 W hI))
              have HT3 := Lib.hid (fun W (hI : I16 b8 c8 b9 c9 X8 X9 w5 W) x (hx : BytesIn (fun k => k ≠ b8 ∧ k ≠ b9) W x (s5.take q33)) => tell16 W x (s5.take q33) H5 H6 gp 5 PS C5 C6 HH.out.1 HH.out.2.1 HH.out.2.2.1 HH.out.2.2.2.1 hx (hgp5 W hI) k5 (Nat.le_refl 5) k6 (by rw [List.length_take]; omega) (hml5 W hI))
              have HT4 := Lib.hid (fun W (hI : I16 b8 c8 b9 c9 X8 X9 w5 W) x (hx : OwnB (fun k => k = b8 ∨ z ≤ k) W x Y8) => tell16 W x Y8 H6 H5 gp 5 PS C6 C5 HH.out.2.1 HH.out.1 HH.out.2.2.2.1 HH.out.2.2.1 hx.bytes (hgp5 W hI) k5 (Nat.le_refl 5) k6 hY8l (hml5 W hI))
              have HA9 := Lib.hid (fun W (hI : I16 b8 c8 b9 c9 X8 X9 w5 W) => show ∃ x W', (Builtin.append_ #[22, 22] 22 #[.slice (some ⟨b9, 0, none⟩) X9.length c9, .slice (some ⟨b8, 0, none⟩) X8.length c8]).run Tryz.prog W = .ok x W' ∧ I16 b8 c8 b9 c9 X8 X9 w5 W' ∧ E16 b8 b9 z Y8 Y9 W W' ∧ OwnB (fun k => k = b9 ∨ z ≤ k) W' x Y9 by
                rw [hY9]
                exact grow9 22 k11 (by omega) hz (by omega) (by omega) h90 hI)
              have HA8 := Lib.hid (fun W (hI : I16 b8 c8 b9 c9 X8 X9 w5 W) => show ∃ x W', (Builtin.append_ #[22, 9] 22 #[.slice (some ⟨b8, 0, none⟩) X8.length c8, .string S6]).run Tryz.prog W = .ok x W' ∧ I16 b8 c8 b9 c9 X8 X9 w5 W' ∧ E16 b8 b9 z Y8 Y9 W W' ∧ OwnB (fun k => k = b8 ∨ z ≤ k) W' x Y8 by
                rw [hY8]
                exact grow8 22 S6 k11 (by omega) hz (by omega) (by have := HS.out.2.1; omega) h80 hI)
              have HS6 := Lib.hid (fun (W : World) => cut_paths W gp q6 h6le)
              have HCV := Lib.hid (fun W (hI : I16 b8 c8 b9 c9 X8 X9 w5 W) => conv16 W S5 s5 HS.out.1 HS.out.2.2.1 b8 b9 (by have := hI.fr.size; omega) (by have := hI.fr.size; omega))
              have HS33 := Lib.hid (fun W g c (h : BytesIn (fun k => k ≠ b8 ∧ k ≠ b9) W (.slice (some ⟨g, 0, none⟩) 32 c) s5) => cut_bytes16 W g c q33 s5 HS.out.2.2.2 h33le h)
              have HFW := Lib.hid (fun W (hI : I16 b8 c8 b9 c9 X8 X9 w5 W) => show Fr (fun _ => False) wr W from k1.trans hI.fr (fun k hk => .inr (by rcases hk with hk | hk <;> omega)))
              clear k1 k2 k3 k4 k5 k6 k7 k8 k9 k10 k11 k12 k13 k14 k15 k16 k17 hz hr6 hr33 h6le h33le hY8 hY9 hCF h6d hY8l hY9l h80 h90 hg0 hml5 hgp5 hi5 hi6 HW5 H1 H2 HFD HLO5
              refine wp_region_inv 41 (by kernel_rfl) (by kernel_rfl) (fun W => I16 b8 c8 b9 c9 X8 X9 w5 W) (EnY b8 c8 b9 c9 g5 g6 gp n q6 q33 z X8 X9 Y8 Y9 s5 C5 C6 CF S5 S6) (fun _ _ _ _ => True) (E16 b8 b9 z Y8 Y9) (EnY.ext b8 c8 b9 c9 g5 g6 gp n q6 q33 z X8 X9 Y8 Y9 s5 C5 C6 CF S5 S6) HI5.out ?_ ?_
              · intro i hi o ho
                replace hi : i < 41 := hi
                obtain rfl | rfl | rfl | rfl | rfl | rfl | rfl | rfl | rfl | rfl | rfl | rfl | rfl | rfl | rfl | rfl | rfl | rfl | rfl | rfl | rfl | rfl | rfl | rfl | rfl | rfl | rfl | rfl | rfl | rfl | rfl | rfl | rfl | rfl | rfl | rfl | rfl | rfl | rfl | rfl | rfl : i = 0 ∨ i = 1 ∨ i = 2 ∨ i = 3 ∨ i = 4 ∨ i = 5 ∨ i = 6 ∨ i = 7 ∨ i = 8 ∨ i = 9 ∨ i = 10 ∨ i = 11 ∨ i = 12 ∨ i = 13 ∨ i = 14 ∨ i = 15 ∨ i = 16 ∨ i = 17 ∨ i = 18 ∨ i = 19 ∨ i = 20 ∨ i = 21 ∨ i = 22 ∨ i = 23 ∨ i = 24 ∨ i = 25 ∨ i = 26 ∨ i = 27 ∨ i = 28 ∨ i = 29 ∨ i = 30 ∨ i = 31 ∨ i = 32 ∨ i = 33 ∨ i = 34 ∨ i = 35 ∨ i = 36 ∨ i = 37 ∨ i = 38 ∨ i = 39 ∨ i = 40 := by omega
                · simp only [List.getElem?_cons_zero, Option.some.injEq] at ho
                  subst ho
                  intro a W vs hB hS hE hU
                  refine wpG_plain rfl ?_
                  have v8 : a.eval (.tmp 8) = .slice (some ⟨b8, 0, none⟩) X8.length c8 := (hU 8 (by kernel_rfl)).trans rfl
                  clear hE hU
                  exact wp_value_inv (w' := W) (.slice (some ⟨b8, 0, none⟩) X8.length c8) (op_move rfl v8) ⟨_, rfl, hB, E16.refl _ _ _ _ _ _, rfl, fun _ _ _ _ _ => trivial⟩
                · simp only [List.getElem?_cons_zero, List.getElem?_cons_succ, Option.some.injEq] at ho
                  subst ho
                  intro a W vs hB hS hE hU
                  refine wpG_plain rfl ?_
                  have v5 : a.eval (.tmp 5) = .pointer (some ⟨g5, 0, none⟩) := (hU 5 (by kernel_rfl)).trans rfl
                  clear hE hU
                  exact wp_value_inv (w' := W) (.agg C5) (op_loadAt rfl v5 (LD5.out W hB)) ⟨_, rfl, hB, E16.refl _ _ _ _ _ _, rfl, fun _ _ _ _ _ => trivial⟩
                · simp only [List.getElem?_cons_zero, List.getElem?_cons_succ, Option.some.injEq] at ho
                  subst ho
                  intro a W vs hB hS hE hU
                  refine wpG_plain rfl ?_
                  have v6 : a.eval (.tmp 6) = .pointer (some ⟨g6, 0, none⟩) := (hU 6 (by kernel_rfl)).trans rfl
                  clear hE hU
                  exact wp_value_inv (w' := W) (.agg C6) (op_loadAt rfl v6 (LD6.out W hB)) ⟨_, rfl, hB, E16.refl _ _ _ _ _ _, rfl, fun _ _ _ _ _ => trivial⟩
                · simp only [List.getElem?_cons_zero, List.getElem?_cons_succ, Option.some.injEq] at ho
                  subst ho
                  intro a W vs hB hS hE hU
                  refine wpG_plain rfl ?_
                  have v10 : a.eval (.tmp 10) = .slice (some ⟨gp, 0, none⟩) 5 5 := (hU 10 (by kernel_rfl)).trans rfl
                  clear hE hU
                  exact wp_value_inv (w' := W) (.slice (some ⟨gp, 0, none⟩) 5 5) (op_move rfl v10) ⟨_, rfl, hB, E16.refl _ _ _ _ _ _, rfl, fun _ _ _ _ _ => trivial⟩
                · simp only [List.getElem?_cons_zero, List.getElem?_cons_succ, Option.some.injEq] at ho
                  subst ho
                  intro a W vs hB hS hE hU
                  refine wpG_plain rfl ?_
                  obtain ⟨r0, e63⟩ := hE 0 63 (by kernel_rfl) (by kernel_rfl)
                  have v63 : a.eval (.tmp 63) = .slice (some ⟨b8, 0, none⟩) X8.length c8 := e63.trans r0
                  obtain ⟨r1, e64⟩ := hE 1 64 (by kernel_rfl) (by kernel_rfl)
                  have v64 : a.eval (.tmp 64) = .agg C5 := e64.trans r1
                  obtain ⟨r2, e65⟩ := hE 2 65 (by kernel_rfl) (by kernel_rfl)
                  have v65 : a.eval (.tmp 65) = .agg C6 := e65.trans r2
                  obtain ⟨r3, e66⟩ := hE 3 66 (by kernel_rfl) (by kernel_rfl)
                  have v66 : a.eval (.tmp 66) = .slice (some ⟨gp, 0, none⟩) 5 5 := e66.trans r3
                  clear hE hU
                  refine wp_call_inv 3 #[.tmp 63, .tmp 64, .tmp 65, .tmp 66] #[22, 24, 24, 25] rfl #[.slice (some ⟨b8, 0, none⟩) X8.length c8, .agg C5, .agg C6, .slice (some ⟨gp, 0, none⟩) 5 5] (by simp only [List.map_toArray, List.map_cons, List.map_nil, v63, v64, v65, v66]) (enent_spence_spencelaw10_RefsTell _) (Post := fun v W' => v = .bool true ∧ Fr (fun _ => False) W W') ((HT1.out W hB).mono fun e w' h => ⟨_, h.1, rfl, h.2⟩) ?_
                  rintro v W' ⟨rfl, hf⟩
                  exact ⟨_, rfl, hB.quiet hf, E16.of hf, rfl, fun _ _ _ _ _ => trivial⟩
                · simp only [List.getElem?_cons_zero, List.getElem?_cons_succ, Option.some.injEq] at ho
                  subst ho
                  intro a W vs hB hS hE hU
                  refine wpG_plain rfl ?_
                  obtain ⟨r4, e67⟩ := hE 4 67 (by kernel_rfl) (by kernel_rfl)
                  have v67 : a.eval (.tmp 67) = .bool true := e67.trans r4
                  clear hE hU
                  exact wp_value_inv (w' := W) (.bool false) (op_unop rfl v67 (by rfl)) ⟨_, rfl, hB, E16.refl _ _ _ _ _ _, rfl, fun _ _ _ _ _ => trivial⟩
                · simp only [List.getElem?_cons_zero, List.getElem?_cons_succ, Option.some.injEq] at ho
                  subst ho
                  intro a W vs hB hS hE hU
                  refine wpG_plain rfl ?_
                  obtain ⟨r5, e68⟩ := hE 5 68 (by kernel_rfl) (by kernel_rfl)
                  have v68 : a.eval (.tmp 68) = .bool false := e68.trans r5
                  clear hE hU
                  exact wp_value_inv (w' := W) (.bool false) (op_move rfl v68) ⟨_, rfl, hB, E16.refl _ _ _ _ _ _, rfl, fun _ _ _ _ _ => trivial⟩
                · simp only [List.getElem?_cons_zero, List.getElem?_cons_succ, Option.some.injEq] at ho
                  subst ho
                  intro a W vs hB hS hE hU
                  obtain ⟨r6, e69⟩ := hE 6 69 (by kernel_rfl) (by kernel_rfl)
                  have v69 : a.eval (.tmp 69) = .bool false := e69.trans r6
                  refine wpG_yes 6 false 69 rfl (by kernel_rfl) (by rw [hS]; first | simp | exact Nat.le_of_ble_eq_true rfl) v69 ?_
                  have v9 : a.eval (.tmp 9) = .slice (some ⟨b9, 0, none⟩) X9.length c9 := (hU 9 (by kernel_rfl)).trans rfl
                  clear hE hU
                  exact wp_value_inv (w' := W) (.slice (some ⟨b9, 0, none⟩) X9.length c9) (op_move rfl v9) ⟨_, rfl, hB, E16.refl _ _ _ _ _ _, rfl, fun _ _ _ _ _ => trivial⟩
                · simp only [List.getElem?_cons_zero, List.getElem?_cons_succ, Option.some.injEq] at ho
                  subst ho
                  intro a W vs hB hS hE hU
                  obtain ⟨r6, e69⟩ := hE 6 69 (by kernel_rfl) (by kernel_rfl)
                  have v69 : a.eval (.tmp 69) = .bool false := e69.trans r6
                  refine wpG_yes 6 false 69 rfl (by kernel_rfl) (by rw [hS]; first | simp | exact Nat.le_of_ble_eq_true rfl) v69 ?_
                  have v8 : a.eval (.tmp 8) = .slice (some ⟨b8, 0, none⟩) X8.length c8 := (hU 8 (by kernel_rfl)).trans rfl
                  clear hE hU
                  exact wp_value_inv (w' := W) (.slice (some ⟨b8, 0, none⟩) X8.length c8) (op_move rfl v8) ⟨_, rfl, hB, E16.refl _ _ _ _ _ _, rfl, fun _ _ _ _ _ => trivial⟩
                · simp only [List.getElem?_cons_zero, List.getElem?_cons_succ, Option.some.injEq] at ho
                  subst ho
                  intro a W vs hB hS hE hU
                  obtain ⟨r6, e69⟩ := hE 6 69 (by kernel_rfl) (by kernel_rfl)
                  have v69 : a.eval (.tmp 69) = .bool false := e69.trans r6
                  refine wpG_yes 6 false 69 rfl (by kernel_rfl) (by rw [hS]; first | simp | exact Nat.le_of_ble_eq_true rfl) v69 ?_
                  obtain ⟨r7, e70⟩ := hE 7 70 (by kernel_rfl) (by kernel_rfl)
                  have v70 : a.eval (.tmp 70) = .slice (some ⟨b9, 0, none⟩) X9.length c9 := e70.trans r7
                  obtain ⟨r8, e71⟩ := hE 8 71 (by kernel_rfl) (by kernel_rfl)
                  have v71 : a.eval (.tmp 71) = .slice (some ⟨b8, 0, none⟩) X8.length c8 := e71.trans r8
                  clear hE hU
                  obtain ⟨x', W', hrun, hI, hE, ho⟩ := HA9.out W hB
                  exact wp_value_inv (w' := W') x' (op_append7 rfl v70 v71 hrun) ⟨_, rfl, hI, hE, ⟨x', rfl, ho⟩, fun _ _ _ _ _ => trivial⟩
                · simp only [List.getElem?_cons_zero, List.getElem?_cons_succ, Option.some.injEq] at ho
                  subst ho
                  intro a W vs hB hS hE hU
                  obtain ⟨r6, e69⟩ := hE 6 69 (by kernel_rfl) (by kernel_rfl)
                  have v69 : a.eval (.tmp 69) = .bool false := e69.trans r6
                  refine wpG_yes 6 false 69 rfl (by kernel_rfl) (by rw [hS]; first | simp | exact Nat.le_of_ble_eq_true rfl) v69 ?_
                  have v5 : a.eval (.tmp 5) = .pointer (some ⟨g5, 0, none⟩) := (hU 5 (by kernel_rfl)).trans rfl
                  clear hE hU
                  exact wp_value_inv (w' := W) (.agg C5) (op_loadAt rfl v5 (LD5.out W hB)) ⟨_, rfl, hB, E16.refl _ _ _ _ _ _, rfl, fun _ _ _ _ _ => trivial⟩
                · simp only [List.getElem?_cons_zero, List.getElem?_cons_succ, Option.some.injEq] at ho
                  subst ho
                  intro a W vs hB hS hE hU
                  obtain ⟨r6, e69⟩ := hE 6 69 (by kernel_rfl) (by kernel_rfl)
                  have v69 : a.eval (.tmp 69) = .bool false := e69.trans r6
                  refine wpG_yes 6 false 69 rfl (by kernel_rfl) (by rw [hS]; first | simp | exact Nat.le_of_ble_eq_true rfl) v69 ?_
                  clear hE hU
                  exact wp_value_inv (w' := W) (.agg CF) (op_build rfl (vs := #[(0, .int .u8 5)]) (by simp only [List.map_toArray, List.map_cons, List.map_nil]; rfl) HBF.out) ⟨_, rfl, hB, E16.refl _ _ _ _ _ _, rfl, fun _ _ _ _ _ => trivial⟩
                · simp only [List.getElem?_cons_zero, List.getElem?_cons_succ, Option.some.injEq] at ho
                  subst ho
                  intro a W vs hB hS hE hU
                  obtain ⟨r6, e69⟩ := hE 6 69 (by kernel_rfl) (by kernel_rfl)
                  have v69 : a.eval (.tmp 69) = .bool false := e69.trans r6
                  refine wpG_yes 6 false 69 rfl (by kernel_rfl) (by rw [hS]; first | simp | exact Nat.le_of_ble_eq_true rfl) v69 ?_
                  have v10 : a.eval (.tmp 10) = .slice (some ⟨gp, 0, none⟩) 5 5 := (hU 10 (by kernel_rfl)).trans rfl
                  clear hE hU
                  exact wp_value_inv (w' := W) (.slice (some ⟨gp, 0, none⟩) 5 5) (op_move rfl v10) ⟨_, rfl, hB, E16.refl _ _ _ _ _ _, rfl, fun _ _ _ _ _ => trivial⟩
                · simp only [List.getElem?_cons_zero, List.getElem?_cons_succ, Option.some.injEq] at ho
                  subst ho
                  intro a W vs hB hS hE hU
                  obtain ⟨r6, e69⟩ := hE 6 69 (by kernel_rfl) (by kernel_rfl)
                  have v69 : a.eval (.tmp 69) = .bool false := e69.trans r6
                  refine wpG_yes 6 false 69 rfl (by kernel_rfl) (by rw [hS]; first | simp | exact Nat.le_of_ble_eq_true rfl) v69 ?_
                  have v4 : a.eval (.tmp 4) = .int .i64 (n : Nat) := (hU 4 (by kernel_rfl)).trans rfl
                  clear hE hU
                  exact wp_value_inv (w' := W) (.int .i64 (n : Nat)) (op_move rfl v4) ⟨_, rfl, hB, E16.refl _ _ _ _ _ _, rfl, fun _ _ _ _ _ => trivial⟩
                · simp only [List.getElem?_cons_zero, List.getElem?_cons_succ, Option.some.injEq] at ho
                  subst ho
                  intro a W vs hB hS hE hU
                  obtain ⟨r6, e69⟩ := hE 6 69 (by kernel_rfl) (by kernel_rfl)
                  have v69 : a.eval (.tmp 69) = .bool false := e69.trans r6
                  refine wpG_yes 6 false 69 rfl (by kernel_rfl) (by rw [hS]; first | simp | exact Nat.le_of_ble_eq_true rfl) v69 ?_
                  obtain ⟨r13, e76⟩ := hE 13 76 (by kernel_rfl) (by kernel_rfl)
                  have v76 : a.eval (.tmp 76) = .int .i64 (n : Nat) := e76.trans r13
                  clear hE hU
                  exact wp_value_inv (w' := W) (.int .i64 (q6 : Nat)) (op_bin rfl v76 rfl (rfl) (HR6.out W)) ⟨_, rfl, hB, E16.refl _ _ _ _ _ _, rfl, fun _ _ _ _ _ => trivial⟩
                · simp only [List.getElem?_cons_zero, List.getElem?_cons_succ, Option.some.injEq] at ho
                  subst ho
                  intro a W vs hB hS hE hU
                  obtain ⟨r6, e69⟩ := hE 6 69 (by kernel_rfl) (by kernel_rfl)
                  have v69 : a.eval (.tmp 69) = .bool false := e69.trans r6
                  refine wpG_yes 6 false 69 rfl (by kernel_rfl) (by rw [hS]; first | simp | exact Nat.le_of_ble_eq_true rfl) v69 ?_
                  obtain ⟨r12, e75⟩ := hE 12 75 (by kernel_rfl) (by kernel_rfl)
                  have v75 : a.eval (.tmp 75) = .slice (some ⟨gp, 0, none⟩) 5 5 := e75.trans r12
                  obtain ⟨r14, e77⟩ := hE 14 77 (by kernel_rfl) (by kernel_rfl)
                  have v77 : a.eval (.tmp 77) = .int .i64 (q6 : Nat) := e77.trans r14
                  clear hE hU
                  exact wp_value_inv (w' := W) (.slice (some ⟨gp, 0, none⟩) q6 5) (op_slice_hi rfl v75 v77 (HS6.out W)) ⟨_, rfl, hB, E16.refl _ _ _ _ _ _, rfl, fun _ _ _ _ _ => trivial⟩
                · simp only [List.getElem?_cons_zero, List.getElem?_cons_succ, Option.some.injEq] at ho
                  subst ho
                  intro a W vs hB hS hE hU
                  obtain ⟨r6, e69⟩ := hE 6 69 (by kernel_rfl) (by kernel_rfl)
                  have v69 : a.eval (.tmp 69) = .bool false := e69.trans r6
                  refine wpG_yes 6 false 69 rfl (by kernel_rfl) (by rw [hS]; first | simp | exact Nat.le_of_ble_eq_true rfl) v69 ?_
                  obtain ⟨⟨x9, rg9, hg9⟩, e72⟩ := hE 9 72 (by kernel_rfl) (by kernel_rfl)
                  have v72 : a.eval (.tmp 72) = x9 := e72.trans rg9
                  obtain ⟨r10, e73⟩ := hE 10 73 (by kernel_rfl) (by kernel_rfl)
                  have v73 : a.eval (.tmp 73) = .agg C5 := e73.trans r10
                  obtain ⟨r11, e74⟩ := hE 11 74 (by kernel_rfl) (by kernel_rfl)
                  have v74 : a.eval (.tmp 74) = .agg CF := e74.trans r11
                  obtain ⟨r15, e78⟩ := hE 15 78 (by kernel_rfl) (by kernel_rfl)
                  have v78 : a.eval (.tmp 78) = .slice (some ⟨gp, 0, none⟩) q6 5 := e78.trans r15
                  clear hE hU
                  refine wp_call_inv 3 #[.tmp 72, .tmp 73, .tmp 74, .tmp 78] #[22, 24, 24, 25] rfl #[x9, .agg C5, .agg CF, .slice (some ⟨gp, 0, none⟩) q6 5] (by simp only [List.map_toArray, List.map_cons, List.map_nil, v72, v73, v74, v78]) (enent_spence_spencelaw10_RefsTell _) (Post := fun v W' => v = .bool true ∧ Fr (fun _ => False) W W') ((HT2.out W hB x9 hg9).mono fun e w' h => ⟨_, h.1, rfl, h.2⟩) ?_
                  rintro v W' ⟨rfl, hf⟩
                  exact ⟨_, rfl, hB.quiet hf, E16.of hf, rfl, fun _ _ _ _ _ => trivial⟩
                · simp only [List.getElem?_cons_zero, List.getElem?_cons_succ, Option.some.injEq] at ho
                  subst ho
                  intro a W vs hB hS hE hU
                  obtain ⟨r6, e69⟩ := hE 6 69 (by kernel_rfl) (by kernel_rfl)
                  have v69 : a.eval (.tmp 69) = .bool false := e69.trans r6
                  refine wpG_yes 6 false 69 rfl (by kernel_rfl) (by rw [hS]; first | simp | exact Nat.le_of_ble_eq_true rfl) v69 ?_
                  obtain ⟨r16, e79⟩ := hE 16 79 (by kernel_rfl) (by kernel_rfl)
                  have v79 : a.eval (.tmp 79) = .bool true := e79.trans r16
                  clear hE hU
                  exact wp_value_inv (w' := W) (.bool false) (op_unop rfl v79 (by rfl)) ⟨_, rfl, hB, E16.refl _ _ _ _ _ _, rfl, fun _ _ _ _ _ => trivial⟩
                · simp only [List.getElem?_cons_zero, List.getElem?_cons_succ, Option.some.injEq] at ho
                  subst ho
                  intro a W vs hB hS hE hU
                  refine wpG_plain rfl ?_
                  obtain ⟨r6, e69⟩ := hE 6 69 (by kernel_rfl) (by kernel_rfl)
                  have v69 : a.eval (.tmp 69) = .bool false := e69.trans r6
                  obtain ⟨r17, e80⟩ := hE 17 80 (by kernel_rfl) (by kernel_rfl)
                  have v80 : a.eval (.tmp 80) = .bool false := e80.trans r17
                  clear hE hU
                  exact wp_value_inv (w' := W) (.bool false) (op_pick rfl v69 (by simp only [Bool.false_eq_true, if_false]; exact v80)) ⟨_, rfl, hB, E16.refl _ _ _ _ _ _, rfl, fun _ _ _ _ _ => trivial⟩
                · simp only [List.getElem?_cons_zero, List.getElem?_cons_succ, Option.some.injEq] at ho
                  subst ho
                  intro a W vs hB hS hE hU
                  refine wpG_plain rfl ?_
                  obtain ⟨r18, e81⟩ := hE 18 81 (by kernel_rfl) (by kernel_rfl)
                  have v81 : a.eval (.tmp 81) = .bool false := e81.trans r18
                  clear hE hU
                  exact wp_value_inv (w' := W) (.bool false) (op_move rfl v81) ⟨_, rfl, hB, E16.refl _ _ _ _ _ _, rfl, fun _ _ _ _ _ => trivial⟩
                · simp only [List.getElem?_cons_zero, List.getElem?_cons_succ, Option.some.injEq] at ho
                  subst ho
                  intro a W vs hB hS hE hU
                  obtain ⟨r19, e82⟩ := hE 19 82 (by kernel_rfl) (by kernel_rfl)
                  have v82 : a.eval (.tmp 82) = .bool false := e82.trans r19
                  refine wpG_yes 19 false 82 rfl (by kernel_rfl) (by rw [hS]; first | simp | exact Nat.le_of_ble_eq_true rfl) v82 ?_
                  have v7 : a.eval (.tmp 7) = .string S5 := (hU 7 (by kernel_rfl)).trans rfl
                  clear hE hU
                  exact wp_value_inv (w' := W) (.string S5) (op_move rfl v7) ⟨_, rfl, hB, E16.refl _ _ _ _ _ _, rfl, fun _ _ _ _ _ => trivial⟩
                · simp only [List.getElem?_cons_zero, List.getElem?_cons_succ, Option.some.injEq] at ho
                  subst ho
                  intro a W vs hB hS hE hU
                  obtain ⟨r19, e82⟩ := hE 19 82 (by kernel_rfl) (by kernel_rfl)
                  have v82 : a.eval (.tmp 82) = .bool false := e82.trans r19
                  refine wpG_yes 19 false 82 rfl (by kernel_rfl) (by rw [hS]; first | simp | exact Nat.le_of_ble_eq_true rfl) v82 ?_
                  obtain ⟨r20, e83⟩ := hE 20 83 (by kernel_rfl) (by kernel_rfl)
                  have v83 : a.eval (.tmp 83) = .string S5 := e83.trans r20
                  clear hE hU
                  obtain ⟨g, c, W', hrun, hf, hb⟩ := HCV.out W hB
                  exact wp_value_inv (w' := W') (.slice (some ⟨g, 0, none⟩) 32 c) (op_convert_w rfl v83 hrun) ⟨_, rfl, hB.quiet hf, E16.of hf, ⟨g, c, rfl, hb⟩, fun _ _ _ _ _ => trivial⟩
                · simp only [List.getElem?_cons_zero, List.getElem?_cons_succ, Option.some.injEq] at ho
                  subst ho
                  intro a W vs hB hS hE hU
                  obtain ⟨r19, e82⟩ := hE 19 82 (by kernel_rfl) (by kernel_rfl)
                  have v82 : a.eval (.tmp 82) = .bool false := e82.trans r19
                  refine wpG_yes 19 false 82 rfl (by kernel_rfl) (by rw [hS]; first | simp | exact Nat.le_of_ble_eq_true rfl) v82 ?_
                  have v4 : a.eval (.tmp 4) = .int .i64 (n : Nat) := (hU 4 (by kernel_rfl)).trans rfl
                  clear hE hU
                  exact wp_value_inv (w' := W) (.int .i64 (n : Nat)) (op_move rfl v4) ⟨_, rfl, hB, E16.refl _ _ _ _ _ _, rfl, fun _ _ _ _ _ => trivial⟩
                · simp only [List.getElem?_cons_zero, List.getElem?_cons_succ, Option.some.injEq] at ho
                  subst ho
                  intro a W vs hB hS hE hU
                  obtain ⟨r19, e82⟩ := hE 19 82 (by kernel_rfl) (by kernel_rfl)
                  have v82 : a.eval (.tmp 82) = .bool false := e82.trans r19
                  refine wpG_yes 19 false 82 rfl (by kernel_rfl) (by rw [hS]; first | simp | exact Nat.le_of_ble_eq_true rfl) v82 ?_
                  obtain ⟨r22, e85⟩ := hE 22 85 (by kernel_rfl) (by kernel_rfl)
                  have v85 : a.eval (.tmp 85) = .int .i64 (n : Nat) := e85.trans r22
                  clear hE hU
                  exact wp_value_inv (w' := W) (.int .i64 (q33 : Nat)) (op_bin rfl v85 rfl (rfl) (HR33.out W)) ⟨_, rfl, hB, E16.refl _ _ _ _ _ _, rfl, fun _ _ _ _ _ => trivial⟩
                · simp only [List.getElem?_cons_zero, List.getElem?_cons_succ, Option.some.injEq] at ho
                  subst ho
                  intro a W vs hB hS hE hU
                  obtain ⟨r19, e82⟩ := hE 19 82 (by kernel_rfl) (by kernel_rfl)
                  have v82 : a.eval (.tmp 82) = .bool false := e82.trans r19
                  refine wpG_yes 19 false 82 rfl (by kernel_rfl) (by rw [hS]; first | simp | exact Nat.le_of_ble_eq_true rfl) v82 ?_
                  obtain ⟨⟨g21, c21, rg21, hg21⟩, e84⟩ := hE 21 84 (by kernel_rfl) (by kernel_rfl)
                  have v84 : a.eval (.tmp 84) = .slice (some ⟨g21, 0, none⟩) 32 c21 := e84.trans rg21
                  obtain ⟨r23, e86⟩ := hE 23 86 (by kernel_rfl) (by kernel_rfl)
                  have v86 : a.eval (.tmp 86) = .int .i64 (q33 : Nat) := e86.trans r23
                  clear hE hU
                  obtain ⟨hc1, hc2⟩ := HS33.out W g21 c21 hg21
                  exact wp_value_inv (w' := W) (.slice (some ⟨g21, 0, none⟩) q33 c21) (op_slice_hi rfl v84 v86 hc1) ⟨_, rfl, hB, E16.refl _ _ _ _ _ _, ⟨_, rfl, hc2⟩, fun _ _ _ _ _ => trivial⟩
                · simp only [List.getElem?_cons_zero, List.getElem?_cons_succ, Option.some.injEq] at ho
                  subst ho
                  intro a W vs hB hS hE hU
                  obtain ⟨r19, e82⟩ := hE 19 82 (by kernel_rfl) (by kernel_rfl)
                  have v82 : a.eval (.tmp 82) = .bool false := e82.trans r19
                  refine wpG_yes 19 false 82 rfl (by kernel_rfl) (by rw [hS]; first | simp | exact Nat.le_of_ble_eq_true rfl) v82 ?_
                  have v5 : a.eval (.tmp 5) = .pointer (some ⟨g5, 0, none⟩) := (hU 5 (by kernel_rfl)).trans rfl
                  clear hE hU
                  exact wp_value_inv (w' := W) (.agg C5) (op_loadAt rfl v5 (LD5.out W hB)) ⟨_, rfl, hB, E16.refl _ _ _ _ _ _, rfl, fun _ _ _ _ _ => trivial⟩
                · simp only [List.getElem?_cons_zero, List.getElem?_cons_succ, Option.some.injEq] at ho
                  subst ho
                  intro a W vs hB hS hE hU
                  obtain ⟨r19, e82⟩ := hE 19 82 (by kernel_rfl) (by kernel_rfl)
                  have v82 : a.eval (.tmp 82) = .bool false := e82.trans r19
                  refine wpG_yes 19 false 82 rfl (by kernel_rfl) (by rw [hS]; first | simp | exact Nat.le_of_ble_eq_true rfl) v82 ?_
                  have v6 : a.eval (.tmp 6) = .pointer (some ⟨g6, 0, none⟩) := (hU 6 (by kernel_rfl)).trans rfl
                  clear hE hU
                  exact wp_value_inv (w' := W) (.agg C6) (op_loadAt rfl v6 (LD6.out W hB)) ⟨_, rfl, hB, E16.refl _ _ _ _ _ _, rfl, fun _ _ _ _ _ => trivial⟩
                · simp only [List.getElem?_cons_zero, List.getElem?_cons_succ, Option.some.injEq] at ho
                  subst ho
                  intro a W vs hB hS hE hU
                  obtain ⟨r19, e82⟩ := hE 19 82 (by kernel_rfl) (by kernel_rfl)
                  have v82 : a.eval (.tmp 82) = .bool false := e82.trans r19
                  refine wpG_yes 19 false 82 rfl (by kernel_rfl) (by rw [hS]; first | simp | exact Nat.le_of_ble_eq_true rfl) v82 ?_
                  have v10 : a.eval (.tmp 10) = .slice (some ⟨gp, 0, none⟩) 5 5 := (hU 10 (by kernel_rfl)).trans rfl
                  clear hE hU
                  exact wp_value_inv (w' := W) (.slice (some ⟨gp, 0, none⟩) 5 5) (op_move rfl v10) ⟨_, rfl, hB, E16.refl _ _ _ _ _ _, rfl, fun _ _ _ _ _ => trivial⟩
                · simp only [List.getElem?_cons_zero, List.getElem?_cons_succ, Option.some.injEq] at ho
                  subst ho
                  intro a W vs hB hS hE hU
                  obtain ⟨r19, e82⟩ := hE 19 82 (by kernel_rfl) (by kernel_rfl)
                  have v82 : a.eval (.tmp 82) = .bool false := e82.trans r19
                  refine wpG_yes 19 false 82 rfl (by kernel_rfl) (by rw [hS]; first | simp | exact Nat.le_of_ble_eq_true rfl) v82 ?_
                  obtain ⟨⟨x24, rg24, hg24⟩, e87⟩ := hE 24 87 (by kernel_rfl) (by kernel_rfl)
                  have v87 : a.eval (.tmp 87) = x24 := e87.trans rg24
                  obtain ⟨r25, e88⟩ := hE 25 88 (by kernel_rfl) (by kernel_rfl)
                  have v88 : a.eval (.tmp 88) = .agg C5 := e88.trans r25
                  obtain ⟨r26, e89⟩ := hE 26 89 (by kernel_rfl) (by kernel_rfl)
                  have v89 : a.eval (.tmp 89) = .agg C6 := e89.trans r26
                  obtain ⟨r27, e90⟩ := hE 27 90 (by kernel_rfl) (by kernel_rfl)
                  have v90 : a.eval (.tmp 90) = .slice (some ⟨gp, 0, none⟩) 5 5 := e90.trans r27
                  clear hE hU
                  refine wp_call_inv 3 #[.tmp 87, .tmp 88, .tmp 89, .tmp 90] #[22, 24, 24, 25] rfl #[x24, .agg C5, .agg C6, .slice (some ⟨gp, 0, none⟩) 5 5] (by simp only [List.map_toArray, List.map_cons, List.map_nil, v87, v88, v89, v90]) (enent_spence_spencelaw10_RefsTell _) (Post := fun v W' => v = .bool true ∧ Fr (fun _ => False) W W') ((HT3.out W hB x24 hg24).mono fun e w' h => ⟨_, h.1, rfl, h.2⟩) ?_
                  rintro v W' ⟨rfl, hf⟩
                  exact ⟨_, rfl, hB.quiet hf, E16.of hf, rfl, fun _ _ _ _ _ => trivial⟩
                · simp only [List.getElem?_cons_zero, List.getElem?_cons_succ, Option.some.injEq] at ho
                  subst ho
                  intro a W vs hB hS hE hU
                  obtain ⟨r19, e82⟩ := hE 19 82 (by kernel_rfl) (by kernel_rfl)
                  have v82 : a.eval (.tmp 82) = .bool false := e82.trans r19
                  refine wpG_yes 19 false 82 rfl (by kernel_rfl) (by rw [hS]; first | simp | exact Nat.le_of_ble_eq_true rfl) v82 ?_
                  obtain ⟨r28, e91⟩ := hE 28 91 (by kernel_rfl) (by kernel_rfl)
                  have v91 : a.eval (.tmp 91) = .bool true := e91.trans r28
                  clear hE hU
                  exact wp_value_inv (w' := W) (.bool false) (op_unop rfl v91 (by rfl)) ⟨_, rfl, hB, E16.refl _ _ _ _ _ _, rfl, fun _ _ _ _ _ => trivial⟩
                · simp only [List.getElem?_cons_zero, List.getElem?_cons_succ, Option.some.injEq] at ho
                  subst ho
                  intro a W vs hB hS hE hU
                  refine wpG_plain rfl ?_
                  obtain ⟨r19, e82⟩ := hE 19 82 (by kernel_rfl) (by kernel_rfl)
                  have v82 : a.eval (.tmp 82) = .bool false := e82.trans r19
                  obtain ⟨r29, e92⟩ := hE 29 92 (by kernel_rfl) (by kernel_rfl)
                  have v92 : a.eval (.tmp 92) = .bool false := e92.trans r29
                  clear hE hU
                  exact wp_value_inv (w' := W) (.bool false) (op_pick rfl v82 (by simp only [Bool.false_eq_true, if_false]; exact v92)) ⟨_, rfl, hB, E16.refl _ _ _ _ _ _, rfl, fun _ _ _ _ _ => trivial⟩
                · simp only [List.getElem?_cons_zero, List.getElem?_cons_succ, Option.some.injEq] at ho
                  subst ho
                  intro a W vs hB hS hE hU
                  refine wpG_plain rfl ?_
                  obtain ⟨r30, e93⟩ := hE 30 93 (by kernel_rfl) (by kernel_rfl)
                  have v93 : a.eval (.tmp 93) = .bool false := e93.trans r30
                  clear hE hU
                  exact wp_value_inv (w' := W) (.bool false) (op_move rfl v93) ⟨_, rfl, hB, E16.refl _ _ _ _ _ _, rfl, fun _ _ _ _ _ => trivial⟩
                · simp only [List.getElem?_cons_zero, List.getElem?_cons_succ, Option.some.injEq] at ho
                  subst ho
                  intro a W vs hB hS hE hU
                  obtain ⟨r31, e94⟩ := hE 31 94 (by kernel_rfl) (by kernel_rfl)
                  have v94 : a.eval (.tmp 94) = .bool false := e94.trans r31
                  refine wpG_yes 31 false 94 rfl (by kernel_rfl) (by rw [hS]; first | simp | exact Nat.le_of_ble_eq_true rfl) v94 ?_
                  have v8 : a.eval (.tmp 8) = .slice (some ⟨b8, 0, none⟩) X8.length c8 := (hU 8 (by kernel_rfl)).trans rfl
                  clear hE hU
                  exact wp_value_inv (w' := W) (.slice (some ⟨b8, 0, none⟩) X8.length c8) (op_move rfl v8) ⟨_, rfl, hB, E16.refl _ _ _ _ _ _, rfl, fun _ _ _ _ _ => trivial⟩
                · simp only [List.getElem?_cons_zero, List.getElem?_cons_succ, Option.some.injEq] at ho
                  subst ho
                  intro a W vs hB hS hE hU
                  obtain ⟨r31, e94⟩ := hE 31 94 (by kernel_rfl) (by kernel_rfl)
                  have v94 : a.eval (.tmp 94) = .bool false := e94.trans r31
                  refine wpG_yes 31 false 94 rfl (by kernel_rfl) (by rw [hS]; first | simp | exact Nat.le_of_ble_eq_true rfl) v94 ?_
                  have v6 : a.eval (.tmp 6) = .pointer (some ⟨g6, 0, none⟩) := (hU 6 (by kernel_rfl)).trans rfl
                  clear hE hU
                  exact wp_value_inv (w' := W) (.agg C6) (op_loadAt rfl v6 (LD6.out W hB)) ⟨_, rfl, hB, E16.refl _ _ _ _ _ _, rfl, fun _ _ _ _ _ => trivial⟩
                · simp only [List.getElem?_cons_zero, List.getElem?_cons_succ, Option.some.injEq] at ho
                  subst ho
                  intro a W vs hB hS hE hU
                  obtain ⟨r31, e94⟩ := hE 31 94 (by kernel_rfl) (by kernel_rfl)
                  have v94 : a.eval (.tmp 94) = .bool false := e94.trans r31
                  refine wpG_yes 31 false 94 rfl (by kernel_rfl) (by rw [hS]; first | simp | exact Nat.le_of_ble_eq_true rfl) v94 ?_
                  obtain ⟨r33, e96⟩ := hE 33 96 (by kernel_rfl) (by kernel_rfl)
                  have v96 : a.eval (.tmp 96) = .agg C6 := e96.trans r33
                  clear hE hU
                  refine wp_call_inv 22 #[.tmp 96] #[24] rfl #[.agg C6] (by simp only [List.map_toArray, List.map_cons, List.map_nil, v96]) (enent_spence_spenceref03_Letters _) (Post := fun v W' => v = .string S6 ∧ Fr (fun _ => False) W W') ((HLO6.out W).mono fun e w' h => ⟨_, h.1, rfl, h.2⟩) ?_
                  rintro v W' ⟨rfl, hf⟩
                  exact ⟨_, rfl, hB.quiet hf, E16.of hf, rfl, fun _ _ _ _ _ => trivial⟩
                · simp only [List.getElem?_cons_zero, List.getElem?_cons_succ, Option.some.injEq] at ho
                  subst ho
                  intro a W vs hB hS hE hU
                  obtain ⟨r31, e94⟩ := hE 31 94 (by kernel_rfl) (by kernel_rfl)
                  have v94 : a.eval (.tmp 94) = .bool false := e94.trans r31
                  refine wpG_yes 31 false 94 rfl (by kernel_rfl) (by rw [hS]; first | simp | exact Nat.le_of_ble_eq_true rfl) v94 ?_
                  obtain ⟨r32, e95⟩ := hE 32 95 (by kernel_rfl) (by kernel_rfl)
                  have v95 : a.eval (.tmp 95) = .slice (some ⟨b8, 0, none⟩) X8.length c8 := e95.trans r32
                  obtain ⟨r34, e97⟩ := hE 34 97 (by kernel_rfl) (by kernel_rfl)
                  have v97 : a.eval (.tmp 97) = .string S6 := e97.trans r34
                  clear hE hU
                  obtain ⟨x', W', hrun, hI, hE, ho⟩ := HA8.out W hB
                  exact wp_value_inv (w' := W') x' (op_appendS rfl v95 v97 hrun) ⟨_, rfl, hI, hE, ⟨x', rfl, ho⟩, fun _ _ _ _ _ => trivial⟩
                · simp only [List.getElem?_cons_zero, List.getElem?_cons_succ, Option.some.injEq] at ho
                  subst ho
                  intro a W vs hB hS hE hU
                  obtain ⟨r31, e94⟩ := hE 31 94 (by kernel_rfl) (by kernel_rfl)
                  have v94 : a.eval (.tmp 94) = .bool false := e94.trans r31
                  refine wpG_yes 31 false 94 rfl (by kernel_rfl) (by rw [hS]; first | simp | exact Nat.le_of_ble_eq_true rfl) v94 ?_
                  have v6 : a.eval (.tmp 6) = .pointer (some ⟨g6, 0, none⟩) := (hU 6 (by kernel_rfl)).trans rfl
                  clear hE hU
                  exact wp_value_inv (w' := W) (.agg C6) (op_loadAt rfl v6 (LD6.out W hB)) ⟨_, rfl, hB, E16.refl _ _ _ _ _ _, rfl, fun _ _ _ _ _ => trivial⟩
                · simp only [List.getElem?_cons_zero, List.getElem?_cons_succ, Option.some.injEq] at ho
                  subst ho
                  intro a W vs hB hS hE hU
                  obtain ⟨r31, e94⟩ := hE 31 94 (by kernel_rfl) (by kernel_rfl)
                  have v94 : a.eval (.tmp 94) = .bool false := e94.trans r31
                  refine wpG_yes 31 false 94 rfl (by kernel_rfl) (by rw [hS]; first | simp | exact Nat.le_of_ble_eq_true rfl) v94 ?_
                  have v5 : a.eval (.tmp 5) = .pointer (some ⟨g5, 0, none⟩) := (hU 5 (by kernel_rfl)).trans rfl
                  clear hE hU
                  exact wp_value_inv (w' := W) (.agg C5) (op_loadAt rfl v5 (LD5.out W hB)) ⟨_, rfl, hB, E16.refl _ _ _ _ _ _, rfl, fun _ _ _ _ _ => trivial⟩
                · simp only [List.getElem?_cons_zero, List.getElem?_cons_succ, Option.some.injEq] at ho
                  subst ho
                  intro a W vs hB hS hE hU
                  obtain ⟨r31, e94⟩ := hE 31 94 (by kernel_rfl) (by kernel_rfl)
                  have v94 : a.eval (.tmp 94) = .bool false := e94.trans r31
                  refine wpG_yes 31 false 94 rfl (by kernel_rfl) (by rw [hS]; first | simp | exact Nat.le_of_ble_eq_true rfl) v94 ?_
                  have v10 : a.eval (.tmp 10) = .slice (some ⟨gp, 0, none⟩) 5 5 := (hU 10 (by kernel_rfl)).trans rfl
                  clear hE hU
                  exact wp_value_inv (w' := W) (.slice (some ⟨gp, 0, none⟩) 5 5) (op_move rfl v10) ⟨_, rfl, hB, E16.refl _ _ _ _ _ _, rfl, fun _ _ _ _ _ => trivial⟩
                · simp only [List.getElem?_cons_zero, List.getElem?_cons_succ, Option.some.injEq] at ho
                  subst ho
                  intro a W vs hB hS hE hU
                  obtain ⟨r31, e94⟩ := hE 31 94 (by kernel_rfl) (by kernel_rfl)
                  have v94 : a.eval (.tmp 94) = .bool false := e94.trans r31
                  refine wpG_yes 31 false 94 rfl (by kernel_rfl) (by rw [hS]; first | simp | exact Nat.le_of_ble_eq_true rfl) v94 ?_
                  obtain ⟨⟨x35, rg35, hg35⟩, e98⟩ := hE 35 98 (by kernel_rfl) (by kernel_rfl)
                  have v98 : a.eval (.tmp 98) = x35 := e98.trans rg35
                  obtain ⟨r36, e99⟩ := hE 36 99 (by kernel_rfl) (by kernel_rfl)
                  have v99 : a.eval (.tmp 99) = .agg C6 := e99.trans r36
                  obtain ⟨r37, e100⟩ := hE 37 100 (by kernel_rfl) (by kernel_rfl)
                  have v100 : a.eval (.tmp 100) = .agg C5 := e100.trans r37
                  obtain ⟨r38, e101⟩ := hE 38 101 (by kernel_rfl) (by kernel_rfl)
                  have v101 : a.eval (.tmp 101) = .slice (some ⟨gp, 0, none⟩) 5 5 := e101.trans r38
                  clear hE hU
                  refine wp_call_inv 3 #[.tmp 98, .tmp 99, .tmp 100, .tmp 101] #[22, 24, 24, 25] rfl #[x35, .agg C6, .agg C5, .slice (some ⟨gp, 0, none⟩) 5 5] (by simp only [List.map_toArray, List.map_cons, List.map_nil, v98, v99, v100, v101]) (enent_spence_spencelaw10_RefsTell _) (Post := fun v W' => v = .bool true ∧ Fr (fun _ => False) W W') ((HT4.out W hB x35 hg35).mono fun e w' h => ⟨_, h.1, rfl, h.2⟩) ?_
                  rintro v W' ⟨rfl, hf⟩
                  exact ⟨_, rfl, hB.quiet hf, E16.of hf, rfl, fun _ _ _ _ _ => trivial⟩
                · simp only [List.getElem?_cons_zero, List.getElem?_cons_succ, Option.some.injEq] at ho
                  subst ho
                  intro a W vs hB hS hE hU
                  obtain ⟨r31, e94⟩ := hE 31 94 (by kernel_rfl) (by kernel_rfl)
                  have v94 : a.eval (.tmp 94) = .bool false := e94.trans r31
                  refine wpG_yes 31 false 94 rfl (by kernel_rfl) (by rw [hS]; first | simp | exact Nat.le_of_ble_eq_true rfl) v94 ?_
                  obtain ⟨r39, e102⟩ := hE 39 102 (by kernel_rfl) (by kernel_rfl)
                  have v102 : a.eval (.tmp 102) = .bool true := e102.trans r39
                  clear hE hU
                  exact wp_value_inv (w' := W) (.bool false) (op_unop rfl v102 (by rfl)) ⟨_, rfl, hB, E16.refl _ _ _ _ _ _, rfl, fun _ _ _ _ _ => trivial⟩
              · intro vs Wb hB0 hR0 hD
                have r94 : vs 31 = .bool false := hR0 31 (by decide)
                have r103 : vs 40 = .bool false := hR0 40 (by decide)
                have HBb := Lib.hid hB0
                clear hR0 hD hB0
                simp only [acts, if_true, dstAt, List.getElem?_cons_zero, List.getElem?_cons_succ, Option.bind_some, Act.put, List.setIfInBounds_toArray, List.set_cons_succ, List.set_cons_zero, List.drop_succ_cons]
                simp only [r94, r103]
                clear r94 r103
                clear HI5 LD5 LD6 HT1 HT2 HT3 HT4 HA9 HA8 HS6 HCV HS33 HBF HR6 HR33 HLO6 HS HH
                go_wp2
                go_roundw
                case rel => exact ⟨n + 1, by omega, by go_num, Lib.hid (hR.out.trans (HFW.out _ HBb.out) (fun _ h => h.elim))⟩
                case measure => simp [intOf]; omega
        · obtain rfl : n = 100 := by omega
          have hlt64 : ¬ ((100 : Nat) : Int) < 100 := by omega
          have hfw := HB.out.2.2.trans hR.out (fun _ h => h.elim)
          have HF := Lib.hid (And.intro hfw (HX.out.1.keep hfw (fun h => h)))
          clear hfw hR HX HB hn hlt
          obtain ⟨Z0, hZ0⟩ : ∃ Z, Z = (h0_.map bv).toArray := ⟨_, rfl⟩
          have HZ0 := Lib.hid (show Tryz.prog.built 24 [] = some Z0 by rw [hZ0]; exact built0)
          have HN := Lib.hid (fun W (hm : MlAt W) => tell_none W Z0 hZ0 hm)
          have HT := Lib.hid (fun w1 w70 hw (hm : MlAt w1) => tell_zero w1 w70 _ _ lit0 lit1 hw hm)
          clear hZ0
          go_wp2_with (first
            | (refine wpList_value rfl (.agg Z0) _ (op_build rfl (vs := #[]) (by simp) HZ0.out) ?_)
            | (go_at_call 3; (with_reducible refine (HN.out _ HF.out.2).mono ?_); rintro e w1 ⟨rfl, hf1⟩; (obtain ⟨w70, hw70⟩ : ∃ W, W = w1.alloc (.cells ((List.replicate 70 (0 : UInt8)).map bv).toArray 5) := ⟨_, rfl⟩); (have hmk := run_make_bytes w1 70 70 rfl (by omega)); (rw [← hw70] at hmk); (have H1 := Lib.hid (And.intro hf1 (And.intro (HF.out.2.keep hf1 (fun h => h)) hw70))); clear hf1 hw70)
            | (go_at_call 3; (with_reducible refine (HT.out w1 w70 H1.out.2.2 H1.out.2.1).mono ?_); rintro e w2 ⟨rfl, hf2, hm2⟩; (have H2 := Lib.hid (And.intro hf2 hm2)); clear hf2 hm2 hmk)
            | (go_at_call 5; (with_reducible refine (awake10_any w2 H2.out.2).mono ?_); rintro e w3 ⟨rfl, hf3⟩; (have H3 := Lib.hid hf3); clear hf3))
          go_ret
          exact ⟨rfl, ((HF.out.1.trans H1.out.1 (fun _ h => h.elim)).trans H2.out.1 (fun _ h => h.elim)).trans H3.out (fun _ h => h.elim)⟩
end Go.Proofs.YtfkgdjoaoidkeaaGreat
