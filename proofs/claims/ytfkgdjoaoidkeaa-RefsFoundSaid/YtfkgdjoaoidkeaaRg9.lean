/- Laid together: RfFn -/
import Derived.Test.YtfkgdjoaoidkeaaRg8

namespace Go.Proofs.Ytfkgdjoaoidkeaa
open Go.RowKit Go.ChangeShapes
set_option linter.unusedVariables false
theorem len_sub : ∀ (M L : List PathX), M.Nodup → (∀ x ∈ M, x ∈ L) → M.length ≤ L.length
  | [], _, _, _ => Nat.zero_le _
  | x :: M, L, hn, hs => by
    obtain ⟨h1, h2⟩ := List.nodup_cons.1 hn
    have hx := hs x List.mem_cons_self
    have h3 := len_sub M (L.erase x) h2 (fun y hy => (List.mem_erase_of_ne (by rintro rfl; exact h1 hy)).2 (hs y (List.mem_cons_of_mem _ hy)))
    rw [List.length_erase_of_mem hx] at h3
    have := List.length_pos_of_mem hx
    rw [List.length_cons]
    omega
theorem fld_path0 (w : World) (g o : Nat) : (Instr.fieldAt 37 (.pointer (some ⟨g, o, none⟩)) 0).run Try.prog w = .ok (.pointer (some ⟨g, o, none⟩)) w := by kernel_rfl
theorem neq_bool10 (w : World) (b : Bool) : (binOp .neq 4 (.bool b) (.bool b)).run Try.prog w = .ok (.bool false) w := by
  rw [run_neq_bool w _ b b Try.underlying4]
  simp
theorem gtr_dec10 (w : World) (T : TypeId) (m : Nat) : (binOp .gtr T (.int .i64 (m : Int)) (.int .i64 0)).run Try.prog w = .ok (.bool (decide (0 < m))) w := by
  by_cases h : 0 < m
  · rw [decide_eq_true h]; exact gtr_yes (by omega)
  · rw [decide_eq_false h]; exact gtr_no (by omega)
def FndAt (W : World) (y : Value) (x : PathX) (ha : Bool) : Prop := ∃ M, PathsIn (fun _ => True) W y M ∧ M.length ≤ 1000000 ∧ decide (x ∈ M) = ha
theorem FndAt.keep {W W' : World} {y : Value} {x : PathX} {ha : Bool} (h : FndAt W y x ha) (hf : Fr (fun _ => False) W W') : FndAt W' y x ha := by
  obtain ⟨M, h1, h2, h3⟩ := h
  exact ⟨M, h1.keep hf (fun _ _ _ h => h), h2, h3⟩
theorem fndHolds {W : World} {y : Value} {x : PathX} {ha : Bool} {CX : Array Value} (h : FndAt W y x ha) (hc : CX = pathC x.h x.n) : Calls Try.prog 13 #[y, .agg CX] W fun e w' => e = .returned (.bool ha) ∧ Fr (fun _ => False) W w' := by
  obtain ⟨M, h1, h2, rfl⟩ := h
  subst hc
  exact holds_any W y M x h1 h2
theorem fnd_any {F : Nat → Prop} (w : World) (v u : Value) (b : List UInt8) (L : List PathX) (x : PathX) (hx : x ∈ L) (hv : BytesIn F w v b) (hF : ∀ k, F k → k < w.heap.size) (hu : PathsIn F w u L) (hL : L.length ≤ 1000) (hN : ∀ x ∈ L, x.n.size ≤ 140737488351232) (hb : b.length ≤ 1000000) :
    Calls Try.prog 12 #[v, u] w fun e w' => ∃ y, e = .returned y ∧ FndAt w' y x (anyR b (letL x.h)) ∧ Fr (fun _ => False) w w' :=
  (fFound_any w v u b L hv hF hu hF hL hN hb).mono fun e w' ⟨y, M, h1, h2, h3, h4, h5⟩ => ⟨y, h1, ⟨M, h2.mono (fun _ _ _ => trivial), by have := len_sub M L (h3.nodup lessX_strict) (fun x hx => ((h4 x).1 hx).1); omega, by
    cases hq : anyR b (letL x.h) with
    | true => rw [decide_eq_true_iff]; exact (h4 x).2 ⟨hx, hq⟩
    | false => rw [decide_eq_false_iff_not]; intro hm; rw [((h4 x).1 hm).2] at hq; cases hq⟩, h5⟩
theorem load_hash_mid (w : World) (b o : Nat) (x : PathX) (h : w.rangeAt b o (cellsX x)) : (Instr.loadAt 24 (.pointer (some ⟨b, o, none⟩))).run Try.prog w = .ok (.agg (x.h.map bv).toArray) w := by
  refine run_loadAt_mid w b o 24 (x.h.map bv) _ (fun j v hv => h j v ?_) Try.underlying24 rfl (by rw [List.length_map, x.hl]; kernel_rfl)
  rw [cellsX]
  have hj : j < (x.h.map bv).length := (List.getElem?_eq_some_iff.1 hv).1
  rw [List.getElem?_append_left hj]
  exact hv
theorem any_places (b s : List UInt8) : anyR b s = decide (0 < (placesR b s).length) := by
  unfold anyR
  rw [decide_eq_decide, List.length_pos_iff]
theorem ent_spence_refs_Places (args : Array Value) (w : World) : (callFunc 6 args).run Try.prog w = .ok (.enter 6 args) w := by kernel_rfl
theorem ent_spence_refs_Found (args : Array Value) (w : World) : (callFunc 12 args).run Try.prog w = .ok (.enter 12 args) w := by kernel_rfl
theorem ent_spence_spencelaw10_holds (args : Array Value) (w : World) : (callFunc 13 args).run Try.prog w = .ok (.enter 13 args) w := by kernel_rfl
theorem ent_spence_base_Less (args : Array Value) (w : World) : (callFunc 14 args).run Try.prog w = .ok (.enter 14 args) w := by kernel_rfl
def FnR00 (aa ab ac al : Option Addr) (na ca nb cb nc cc nl cl bp off m cu ix mp : Nat) (CX CH : Array Value) (x : PathX) (hh : Bool) (i : Nat) (v : Value) (W : World) : Prop :=
  match i with
  | 0 => v = .slice al nl cl
  | 1 => v = .slice (some ⟨bp, off, none⟩) m cu
  | 2 => v = .int .i64 (ix : Nat)
  | 3 => v = .pointer (some ⟨bp, off + ix * 21, none⟩)
  | 4 => v = .agg CX
  | 5 => v = .bool hh
  | 6 => v = .slice ac nc cc
  | 7 => v = .slice (some ⟨bp, off, none⟩) m cu
  | 8 => v = .int .i64 (ix : Nat)
  | 9 => v = .pointer (some ⟨bp, off + ix * 21, none⟩)
  | 10 => v = .pointer (some ⟨bp, off + ix * 21, none⟩)
  | 11 => v = .agg CH
  | 12 => ∃ a c, v = .slice a mp c
  | 13 => v = .int .i64 (mp : Nat)
  | 14 => v = .bool hh
  | 15 => v = .bool false
  | 16 => v = .bool false
  | 17 => v = .slice aa na ca
  | 18 => v = .slice (some ⟨bp, off, none⟩) m cu
  | 19 => ∃ y, v = y ∧ FndAt W y x false
  | 20 => v = .slice (some ⟨bp, off, none⟩) m cu
  | 21 => v = .int .i64 (ix : Nat)
  | 22 => v = .pointer (some ⟨bp, off + ix * 21, none⟩)
  | 23 => v = .agg CX
  | 24 => v = .bool false
  | 25 => v = .bool false
  | 26 => v = undef
  | 27 => v = undef
  | 28 => v = undef
  | 29 => v = undef
  | 30 => v = undef
  | 31 => v = undef
  | 32 => v = undef
  | 33 => v = .bool false
  | 34 => v = .bool false
  | 35 => v = .bool false
  | 36 => v = .slice ab nb cb
  | 37 => v = .slice (some ⟨bp, off, none⟩) m cu
  | 38 => ∃ y, v = y ∧ FndAt W y x false
  | 39 => v = .slice (some ⟨bp, off, none⟩) m cu
  | 40 => v = .int .i64 (ix : Nat)
  | 41 => v = .pointer (some ⟨bp, off + ix * 21, none⟩)
  | 42 => v = .agg CX
  | 43 => v = .bool false
  | 44 => v = .bool false
  | 45 => v = undef
  | 46 => v = undef
  | 47 => v = undef
  | 48 => v = undef
  | 49 => v = undef
  | 50 => v = undef
  | 51 => v = undef
  | 52 => v = .bool false
  | _ => True
theorem FnR00.ext (aa ab ac al : Option Addr) (na ca nb cb nc cc nl cl bp off m cu ix mp : Nat) (CX CH : Array Value) (x : PathX) (hh : Bool) : ∀ (j : Nat) (u : Value) (W W' : World), Fr (fun _ => False) W W' → FnR00 aa ab ac al na ca nb cb nc cc nl cl bp off m cu ix mp CX CH x hh j u W → FnR00 aa ab ac al na ca nb cb nc cc nl cl bp off m cu ix mp CX CH x hh j u W'
  | 0, u, W, W', hf, h => h
  | 1, u, W, W', hf, h => h
  | 2, u, W, W', hf, h => h
  | 3, u, W, W', hf, h => h
  | 4, u, W, W', hf, h => h
  | 5, u, W, W', hf, h => h
  | 6, u, W, W', hf, h => h
  | 7, u, W, W', hf, h => h
  | 8, u, W, W', hf, h => h
  | 9, u, W, W', hf, h => h
  | 10, u, W, W', hf, h => h
  | 11, u, W, W', hf, h => h
  | 12, u, W, W', hf, h => h
  | 13, u, W, W', hf, h => h
  | 14, u, W, W', hf, h => h
  | 15, u, W, W', hf, h => h
  | 16, u, W, W', hf, h => h
  | 17, u, W, W', hf, h => h
  | 18, u, W, W', hf, h => h
  | 19, u, W, W', hf, h => (let ⟨y, h1, h2⟩ := h; ⟨y, h1, h2.keep hf⟩)
  | 20, u, W, W', hf, h => h
  | 21, u, W, W', hf, h => h
  | 22, u, W, W', hf, h => h
  | 23, u, W, W', hf, h => h
  | 24, u, W, W', hf, h => h
  | 25, u, W, W', hf, h => h
  | 26, u, W, W', hf, h => h
  | 27, u, W, W', hf, h => h
  | 28, u, W, W', hf, h => h
  | 29, u, W, W', hf, h => h
  | 30, u, W, W', hf, h => h
  | 31, u, W, W', hf, h => h
  | 32, u, W, W', hf, h => h
  | 33, u, W, W', hf, h => h
  | 34, u, W, W', hf, h => h
  | 35, u, W, W', hf, h => h
  | 36, u, W, W', hf, h => h
  | 37, u, W, W', hf, h => h
  | 38, u, W, W', hf, h => (let ⟨y, h1, h2⟩ := h; ⟨y, h1, h2.keep hf⟩)
  | 39, u, W, W', hf, h => h
  | 40, u, W, W', hf, h => h
  | 41, u, W, W', hf, h => h
  | 42, u, W, W', hf, h => h
  | 43, u, W, W', hf, h => h
  | 44, u, W, W', hf, h => h
  | 45, u, W, W', hf, h => h
  | 46, u, W, W', hf, h => h
  | 47, u, W, W', hf, h => h
  | 48, u, W, W', hf, h => h
  | 49, u, W, W', hf, h => h
  | 50, u, W, W', hf, h => h
  | 51, u, W, W', hf, h => h
  | 52, u, W, W', hf, h => h
  | _ + 53, u, W, W', hf, h => trivial
def FnR10 (aa ab ac al : Option Addr) (na ca nb cb nc cc nl cl bp off m cu ix mp : Nat) (CX CH : Array Value) (x : PathX) (i : Nat) (v : Value) (W : World) : Prop :=
  match i with
  | 0 => v = .slice al nl cl
  | 1 => v = .slice (some ⟨bp, off, none⟩) m cu
  | 2 => v = .int .i64 (ix : Nat)
  | 3 => v = .pointer (some ⟨bp, off + ix * 21, none⟩)
  | 4 => v = .agg CX
  | 5 => v = .bool true
  | 6 => v = .slice ac nc cc
  | 7 => v = .slice (some ⟨bp, off, none⟩) m cu
  | 8 => v = .int .i64 (ix : Nat)
  | 9 => v = .pointer (some ⟨bp, off + ix * 21, none⟩)
  | 10 => v = .pointer (some ⟨bp, off + ix * 21, none⟩)
  | 11 => v = .agg CH
  | 12 => ∃ a c, v = .slice a mp c
  | 13 => v = .int .i64 (mp : Nat)
  | 14 => v = .bool true
  | 15 => v = .bool false
  | 16 => v = .bool false
  | 17 => v = .slice aa na ca
  | 18 => v = .slice (some ⟨bp, off, none⟩) m cu
  | 19 => ∃ y, v = y ∧ FndAt W y x true
  | 20 => v = .slice (some ⟨bp, off, none⟩) m cu
  | 21 => v = .int .i64 (ix : Nat)
  | 22 => v = .pointer (some ⟨bp, off + ix * 21, none⟩)
  | 23 => v = .agg CX
  | 24 => v = .bool true
  | 25 => v = .bool true
  | 26 => v = .slice al nl cl
  | 27 => v = .slice (some ⟨bp, off, none⟩) m cu
  | 28 => v = .int .i64 (ix : Nat)
  | 29 => v = .pointer (some ⟨bp, off + ix * 21, none⟩)
  | 30 => v = .agg CX
  | 31 => v = .bool true
  | 32 => v = .bool false
  | 33 => v = .bool false
  | 34 => v = .bool false
  | 35 => v = .bool false
  | 36 => v = .slice ab nb cb
  | 37 => v = .slice (some ⟨bp, off, none⟩) m cu
  | 38 => ∃ y, v = y ∧ FndAt W y x false
  | 39 => v = .slice (some ⟨bp, off, none⟩) m cu
  | 40 => v = .int .i64 (ix : Nat)
  | 41 => v = .pointer (some ⟨bp, off + ix * 21, none⟩)
  | 42 => v = .agg CX
  | 43 => v = .bool false
  | 44 => v = .bool false
  | 45 => v = undef
  | 46 => v = undef
  | 47 => v = undef
  | 48 => v = undef
  | 49 => v = undef
  | 50 => v = undef
  | 51 => v = undef
  | 52 => v = .bool false
  | _ => True
theorem FnR10.ext (aa ab ac al : Option Addr) (na ca nb cb nc cc nl cl bp off m cu ix mp : Nat) (CX CH : Array Value) (x : PathX) : ∀ (j : Nat) (u : Value) (W W' : World), Fr (fun _ => False) W W' → FnR10 aa ab ac al na ca nb cb nc cc nl cl bp off m cu ix mp CX CH x j u W → FnR10 aa ab ac al na ca nb cb nc cc nl cl bp off m cu ix mp CX CH x j u W'
  | 0, u, W, W', hf, h => h
  | 1, u, W, W', hf, h => h
  | 2, u, W, W', hf, h => h
  | 3, u, W, W', hf, h => h
  | 4, u, W, W', hf, h => h
  | 5, u, W, W', hf, h => h
  | 6, u, W, W', hf, h => h
  | 7, u, W, W', hf, h => h
  | 8, u, W, W', hf, h => h
  | 9, u, W, W', hf, h => h
  | 10, u, W, W', hf, h => h
  | 11, u, W, W', hf, h => h
  | 12, u, W, W', hf, h => h
  | 13, u, W, W', hf, h => h
  | 14, u, W, W', hf, h => h
  | 15, u, W, W', hf, h => h
  | 16, u, W, W', hf, h => h
  | 17, u, W, W', hf, h => h
  | 18, u, W, W', hf, h => h
  | 19, u, W, W', hf, h => (let ⟨y, h1, h2⟩ := h; ⟨y, h1, h2.keep hf⟩)
  | 20, u, W, W', hf, h => h
  | 21, u, W, W', hf, h => h
  | 22, u, W, W', hf, h => h
  | 23, u, W, W', hf, h => h
  | 24, u, W, W', hf, h => h
  | 25, u, W, W', hf, h => h
  | 26, u, W, W', hf, h => h
  | 27, u, W, W', hf, h => h
  | 28, u, W, W', hf, h => h
  | 29, u, W, W', hf, h => h
  | 30, u, W, W', hf, h => h
  | 31, u, W, W', hf, h => h
  | 32, u, W, W', hf, h => h
  | 33, u, W, W', hf, h => h
  | 34, u, W, W', hf, h => h
  | 35, u, W, W', hf, h => h
  | 36, u, W, W', hf, h => h
  | 37, u, W, W', hf, h => h
  | 38, u, W, W', hf, h => (let ⟨y, h1, h2⟩ := h; ⟨y, h1, h2.keep hf⟩)
  | 39, u, W, W', hf, h => h
  | 40, u, W, W', hf, h => h
  | 41, u, W, W', hf, h => h
  | 42, u, W, W', hf, h => h
  | 43, u, W, W', hf, h => h
  | 44, u, W, W', hf, h => h
  | 45, u, W, W', hf, h => h
  | 46, u, W, W', hf, h => h
  | 47, u, W, W', hf, h => h
  | 48, u, W, W', hf, h => h
  | 49, u, W, W', hf, h => h
  | 50, u, W, W', hf, h => h
  | 51, u, W, W', hf, h => h
  | 52, u, W, W', hf, h => h
  | _ + 53, u, W, W', hf, h => trivial
def FnR01 (aa ab ac al : Option Addr) (na ca nb cb nc cc nl cl bp off m cu ix mp : Nat) (CX CH : Array Value) (x : PathX) (i : Nat) (v : Value) (W : World) : Prop :=
  match i with
  | 0 => v = .slice al nl cl
  | 1 => v = .slice (some ⟨bp, off, none⟩) m cu
  | 2 => v = .int .i64 (ix : Nat)
  | 3 => v = .pointer (some ⟨bp, off + ix * 21, none⟩)
  | 4 => v = .agg CX
  | 5 => v = .bool true
  | 6 => v = .slice ac nc cc
  | 7 => v = .slice (some ⟨bp, off, none⟩) m cu
  | 8 => v = .int .i64 (ix : Nat)
  | 9 => v = .pointer (some ⟨bp, off + ix * 21, none⟩)
  | 10 => v = .pointer (some ⟨bp, off + ix * 21, none⟩)
  | 11 => v = .agg CH
  | 12 => ∃ a c, v = .slice a mp c
  | 13 => v = .int .i64 (mp : Nat)
  | 14 => v = .bool true
  | 15 => v = .bool false
  | 16 => v = .bool false
  | 17 => v = .slice aa na ca
  | 18 => v = .slice (some ⟨bp, off, none⟩) m cu
  | 19 => ∃ y, v = y ∧ FndAt W y x false
  | 20 => v = .slice (some ⟨bp, off, none⟩) m cu
  | 21 => v = .int .i64 (ix : Nat)
  | 22 => v = .pointer (some ⟨bp, off + ix * 21, none⟩)
  | 23 => v = .agg CX
  | 24 => v = .bool false
  | 25 => v = .bool false
  | 26 => v = undef
  | 27 => v = undef
  | 28 => v = undef
  | 29 => v = undef
  | 30 => v = undef
  | 31 => v = undef
  | 32 => v = undef
  | 33 => v = .bool false
  | 34 => v = .bool false
  | 35 => v = .bool false
  | 36 => v = .slice ab nb cb
  | 37 => v = .slice (some ⟨bp, off, none⟩) m cu
  | 38 => ∃ y, v = y ∧ FndAt W y x true
  | 39 => v = .slice (some ⟨bp, off, none⟩) m cu
  | 40 => v = .int .i64 (ix : Nat)
  | 41 => v = .pointer (some ⟨bp, off + ix * 21, none⟩)
  | 42 => v = .agg CX
  | 43 => v = .bool true
  | 44 => v = .bool true
  | 45 => v = .slice al nl cl
  | 46 => v = .slice (some ⟨bp, off, none⟩) m cu
  | 47 => v = .int .i64 (ix : Nat)
  | 48 => v = .pointer (some ⟨bp, off + ix * 21, none⟩)
  | 49 => v = .agg CX
  | 50 => v = .bool true
  | 51 => v = .bool false
  | 52 => v = .bool false
  | _ => True
theorem FnR01.ext (aa ab ac al : Option Addr) (na ca nb cb nc cc nl cl bp off m cu ix mp : Nat) (CX CH : Array Value) (x : PathX) : ∀ (j : Nat) (u : Value) (W W' : World), Fr (fun _ => False) W W' → FnR01 aa ab ac al na ca nb cb nc cc nl cl bp off m cu ix mp CX CH x j u W → FnR01 aa ab ac al na ca nb cb nc cc nl cl bp off m cu ix mp CX CH x j u W'
  | 0, u, W, W', hf, h => h
  | 1, u, W, W', hf, h => h
  | 2, u, W, W', hf, h => h
  | 3, u, W, W', hf, h => h
  | 4, u, W, W', hf, h => h
  | 5, u, W, W', hf, h => h
  | 6, u, W, W', hf, h => h
  | 7, u, W, W', hf, h => h
  | 8, u, W, W', hf, h => h
  | 9, u, W, W', hf, h => h
  | 10, u, W, W', hf, h => h
  | 11, u, W, W', hf, h => h
  | 12, u, W, W', hf, h => h
  | 13, u, W, W', hf, h => h
  | 14, u, W, W', hf, h => h
  | 15, u, W, W', hf, h => h
  | 16, u, W, W', hf, h => h
  | 17, u, W, W', hf, h => h
  | 18, u, W, W', hf, h => h
  | 19, u, W, W', hf, h => (let ⟨y, h1, h2⟩ := h; ⟨y, h1, h2.keep hf⟩)
  | 20, u, W, W', hf, h => h
  | 21, u, W, W', hf, h => h
  | 22, u, W, W', hf, h => h
  | 23, u, W, W', hf, h => h
  | 24, u, W, W', hf, h => h
  | 25, u, W, W', hf, h => h
  | 26, u, W, W', hf, h => h
  | 27, u, W, W', hf, h => h
  | 28, u, W, W', hf, h => h
  | 29, u, W, W', hf, h => h
  | 30, u, W, W', hf, h => h
  | 31, u, W, W', hf, h => h
  | 32, u, W, W', hf, h => h
  | 33, u, W, W', hf, h => h
  | 34, u, W, W', hf, h => h
  | 35, u, W, W', hf, h => h
  | 36, u, W, W', hf, h => h
  | 37, u, W, W', hf, h => h
  | 38, u, W, W', hf, h => (let ⟨y, h1, h2⟩ := h; ⟨y, h1, h2.keep hf⟩)
  | 39, u, W, W', hf, h => h
  | 40, u, W, W', hf, h => h
  | 41, u, W, W', hf, h => h
  | 42, u, W, W', hf, h => h
  | 43, u, W, W', hf, h => h
  | 44, u, W, W', hf, h => h
  | 45, u, W, W', hf, h => h
  | 46, u, W, W', hf, h => h
  | 47, u, W, W', hf, h => h
  | 48, u, W, W', hf, h => h
  | 49, u, W, W', hf, h => h
  | 50, u, W, W', hf, h => h
  | 51, u, W, W', hf, h => h
  | 52, u, W, W', hf, h => h
  | _ + 53, u, W, W', hf, h => trivial
def FnR11 (aa ab ac al : Option Addr) (na ca nb cb nc cc nl cl bp off m cu ix mp : Nat) (CX CH : Array Value) (x : PathX) (i : Nat) (v : Value) (W : World) : Prop :=
  match i with
  | 0 => v = .slice al nl cl
  | 1 => v = .slice (some ⟨bp, off, none⟩) m cu
  | 2 => v = .int .i64 (ix : Nat)
  | 3 => v = .pointer (some ⟨bp, off + ix * 21, none⟩)
  | 4 => v = .agg CX
  | 5 => v = .bool true
  | 6 => v = .slice ac nc cc
  | 7 => v = .slice (some ⟨bp, off, none⟩) m cu
  | 8 => v = .int .i64 (ix : Nat)
  | 9 => v = .pointer (some ⟨bp, off + ix * 21, none⟩)
  | 10 => v = .pointer (some ⟨bp, off + ix * 21, none⟩)
  | 11 => v = .agg CH
  | 12 => ∃ a c, v = .slice a mp c
  | 13 => v = .int .i64 (mp : Nat)
  | 14 => v = .bool true
  | 15 => v = .bool false
  | 16 => v = .bool false
  | 17 => v = .slice aa na ca
  | 18 => v = .slice (some ⟨bp, off, none⟩) m cu
  | 19 => ∃ y, v = y ∧ FndAt W y x true
  | 20 => v = .slice (some ⟨bp, off, none⟩) m cu
  | 21 => v = .int .i64 (ix : Nat)
  | 22 => v = .pointer (some ⟨bp, off + ix * 21, none⟩)
  | 23 => v = .agg CX
  | 24 => v = .bool true
  | 25 => v = .bool true
  | 26 => v = .slice al nl cl
  | 27 => v = .slice (some ⟨bp, off, none⟩) m cu
  | 28 => v = .int .i64 (ix : Nat)
  | 29 => v = .pointer (some ⟨bp, off + ix * 21, none⟩)
  | 30 => v = .agg CX
  | 31 => v = .bool true
  | 32 => v = .bool false
  | 33 => v = .bool false
  | 34 => v = .bool false
  | 35 => v = .bool false
  | 36 => v = .slice ab nb cb
  | 37 => v = .slice (some ⟨bp, off, none⟩) m cu
  | 38 => ∃ y, v = y ∧ FndAt W y x true
  | 39 => v = .slice (some ⟨bp, off, none⟩) m cu
  | 40 => v = .int .i64 (ix : Nat)
  | 41 => v = .pointer (some ⟨bp, off + ix * 21, none⟩)
  | 42 => v = .agg CX
  | 43 => v = .bool true
  | 44 => v = .bool true
  | 45 => v = .slice al nl cl
  | 46 => v = .slice (some ⟨bp, off, none⟩) m cu
  | 47 => v = .int .i64 (ix : Nat)
  | 48 => v = .pointer (some ⟨bp, off + ix * 21, none⟩)
  | 49 => v = .agg CX
  | 50 => v = .bool true
  | 51 => v = .bool false
  | 52 => v = .bool false
  | _ => True
theorem FnR11.ext (aa ab ac al : Option Addr) (na ca nb cb nc cc nl cl bp off m cu ix mp : Nat) (CX CH : Array Value) (x : PathX) : ∀ (j : Nat) (u : Value) (W W' : World), Fr (fun _ => False) W W' → FnR11 aa ab ac al na ca nb cb nc cc nl cl bp off m cu ix mp CX CH x j u W → FnR11 aa ab ac al na ca nb cb nc cc nl cl bp off m cu ix mp CX CH x j u W'
  | 0, u, W, W', hf, h => h
  | 1, u, W, W', hf, h => h
  | 2, u, W, W', hf, h => h
  | 3, u, W, W', hf, h => h
  | 4, u, W, W', hf, h => h
  | 5, u, W, W', hf, h => h
  | 6, u, W, W', hf, h => h
  | 7, u, W, W', hf, h => h
  | 8, u, W, W', hf, h => h
  | 9, u, W, W', hf, h => h
  | 10, u, W, W', hf, h => h
  | 11, u, W, W', hf, h => h
  | 12, u, W, W', hf, h => h
  | 13, u, W, W', hf, h => h
  | 14, u, W, W', hf, h => h
  | 15, u, W, W', hf, h => h
  | 16, u, W, W', hf, h => h
  | 17, u, W, W', hf, h => h
  | 18, u, W, W', hf, h => h
  | 19, u, W, W', hf, h => (let ⟨y, h1, h2⟩ := h; ⟨y, h1, h2.keep hf⟩)
  | 20, u, W, W', hf, h => h
  | 21, u, W, W', hf, h => h
  | 22, u, W, W', hf, h => h
  | 23, u, W, W', hf, h => h
  | 24, u, W, W', hf, h => h
  | 25, u, W, W', hf, h => h
  | 26, u, W, W', hf, h => h
  | 27, u, W, W', hf, h => h
  | 28, u, W, W', hf, h => h
  | 29, u, W, W', hf, h => h
  | 30, u, W, W', hf, h => h
  | 31, u, W, W', hf, h => h
  | 32, u, W, W', hf, h => h
  | 33, u, W, W', hf, h => h
  | 34, u, W, W', hf, h => h
  | 35, u, W, W', hf, h => h
  | 36, u, W, W', hf, h => h
  | 37, u, W, W', hf, h => h
  | 38, u, W, W', hf, h => (let ⟨y, h1, h2⟩ := h; ⟨y, h1, h2.keep hf⟩)
  | 39, u, W, W', hf, h => h
  | 40, u, W, W', hf, h => h
  | 41, u, W, W', hf, h => h
  | 42, u, W, W', hf, h => h
  | 43, u, W, W', hf, h => h
  | 44, u, W, W', hf, h => h
  | 45, u, W, W', hf, h => h
  | 46, u, W, W', hf, h => h
  | 47, u, W, W', hf, h => h
  | 48, u, W, W', hf, h => h
  | 49, u, W, W', hf, h => h
  | 50, u, W, W', hf, h => h
  | 51, u, W, W', hf, h => h
  | 52, u, W, W', hf, h => h
  | _ + 53, u, W, W', hf, h => trivial
def FmR0 (au : Option Addr) (m cu bl ol nl cl ix jx : Nat) (CY CZ : Array Value) (i : Nat) (v : Value) (W : World) : Prop :=
  match i with
  | 0 => v = .slice au m cu
  | 1 => v = .slice (some ⟨bl, ol, none⟩) nl cl
  | 2 => v = .int .i64 (ix : Nat)
  | 3 => v = .pointer (some ⟨bl, ol + ix * 21, none⟩)
  | 4 => v = .agg CY
  | 5 => v = .bool true
  | 6 => v = .bool false
  | 7 => v = .bool false
  | 8 => v = .int .i64 (ix : Nat)
  | 9 => v = .bool false
  | 10 => v = .bool false
  | 11 => v = undef
  | 12 => v = undef
  | 13 => v = undef
  | 14 => v = undef
  | 15 => v = undef
  | 16 => v = undef
  | 17 => v = undef
  | 18 => v = undef
  | 19 => v = undef
  | 20 => v = undef
  | 21 => v = undef
  | 22 => v = .bool false
  | _ => True
theorem FmR0.ext (au : Option Addr) (m cu bl ol nl cl ix jx : Nat) (CY CZ : Array Value) : ∀ (j : Nat) (u : Value) (W W' : World), Fr (fun _ => False) W W' → FmR0 au m cu bl ol nl cl ix jx CY CZ j u W → FmR0 au m cu bl ol nl cl ix jx CY CZ j u W'
  | 0, u, W, W', hf, h => h
  | 1, u, W, W', hf, h => h
  | 2, u, W, W', hf, h => h
  | 3, u, W, W', hf, h => h
  | 4, u, W, W', hf, h => h
  | 5, u, W, W', hf, h => h
  | 6, u, W, W', hf, h => h
  | 7, u, W, W', hf, h => h
  | 8, u, W, W', hf, h => h
  | 9, u, W, W', hf, h => h
  | 10, u, W, W', hf, h => h
  | 11, u, W, W', hf, h => h
  | 12, u, W, W', hf, h => h
  | 13, u, W, W', hf, h => h
  | 14, u, W, W', hf, h => h
  | 15, u, W, W', hf, h => h
  | 16, u, W, W', hf, h => h
  | 17, u, W, W', hf, h => h
  | 18, u, W, W', hf, h => h
  | 19, u, W, W', hf, h => h
  | 20, u, W, W', hf, h => h
  | 21, u, W, W', hf, h => h
  | 22, u, W, W', hf, h => h
  | _ + 23, u, W, W', hf, h => trivial
def FmR1 (au : Option Addr) (m cu bl ol nl cl ix jx : Nat) (CY CZ : Array Value) (i : Nat) (v : Value) (W : World) : Prop :=
  match i with
  | 0 => v = .slice au m cu
  | 1 => v = .slice (some ⟨bl, ol, none⟩) nl cl
  | 2 => v = .int .i64 (ix : Nat)
  | 3 => v = .pointer (some ⟨bl, ol + ix * 21, none⟩)
  | 4 => v = .agg CY
  | 5 => v = .bool true
  | 6 => v = .bool false
  | 7 => v = .bool false
  | 8 => v = .int .i64 (ix : Nat)
  | 9 => v = .bool true
  | 10 => v = .bool true
  | 11 => v = .slice (some ⟨bl, ol, none⟩) nl cl
  | 12 => v = .int .i64 (ix : Nat)
  | 13 => v = .int .i64 (jx : Nat)
  | 14 => v = .pointer (some ⟨bl, ol + jx * 21, none⟩)
  | 15 => v = .agg CZ
  | 16 => v = .slice (some ⟨bl, ol, none⟩) nl cl
  | 17 => v = .int .i64 (ix : Nat)
  | 18 => v = .pointer (some ⟨bl, ol + ix * 21, none⟩)
  | 19 => v = .agg CY
  | 20 => v = .bool true
  | 21 => v = .bool false
  | 22 => v = .bool false
  | _ => True
theorem FmR1.ext (au : Option Addr) (m cu bl ol nl cl ix jx : Nat) (CY CZ : Array Value) : ∀ (j : Nat) (u : Value) (W W' : World), Fr (fun _ => False) W W' → FmR1 au m cu bl ol nl cl ix jx CY CZ j u W → FmR1 au m cu bl ol nl cl ix jx CY CZ j u W'
  | 0, u, W, W', hf, h => h
  | 1, u, W, W', hf, h => h
  | 2, u, W, W', hf, h => h
  | 3, u, W, W', hf, h => h
  | 4, u, W, W', hf, h => h
  | 5, u, W, W', hf, h => h
  | 6, u, W, W', hf, h => h
  | 7, u, W, W', hf, h => h
  | 8, u, W, W', hf, h => h
  | 9, u, W, W', hf, h => h
  | 10, u, W, W', hf, h => h
  | 11, u, W, W', hf, h => h
  | 12, u, W, W', hf, h => h
  | 13, u, W, W', hf, h => h
  | 14, u, W, W', hf, h => h
  | 15, u, W, W', hf, h => h
  | 16, u, W, W', hf, h => h
  | 17, u, W, W', hf, h => h
  | 18, u, W, W', hf, h => h
  | 19, u, W, W', hf, h => h
  | 20, u, W, W', hf, h => h
  | 21, u, W, W', hf, h => h
  | 22, u, W, W', hf, h => h
  | _ + 23, u, W, W', hf, h => trivial
set_option maxRecDepth 100000 in
set_option maxHeartbeats 40000000 in
theorem refsFound_any (w : World) (va vb vu : Value) (a b : List UInt8) (L : List PathX) (hva : BytesIn (fun k => k < w.heap.size) w va a) (hvb : BytesIn (fun k => k < w.heap.size) w vb b) (hu : PathsIn (fun k => k < w.heap.size) w vu L)
    (hla : a.length ≤ 140737488351232) (hlb : b.length ≤ 140737488351232) (hlL : L.length ≤ 140737488351232) (hN : ∀ x ∈ L, x.n.size ≤ 140737488351232) (hml : MlAt w) :
    Calls Try.prog 4 #[va, vb, vu] w fun e w' => e = .returned (.bool true) ∧ Fr (fun _ => False) w w' := by
  obtain ⟨aa, na, ca, rfl, hna⟩ : ∃ aa na ca, va = .slice aa na ca ∧ na = a.length := by obtain ⟨ao, cap, h, _⟩ := hva; exact ⟨_, _, _, h, rfl⟩
  obtain ⟨ab, nb, cb, rfl, hnb⟩ : ∃ aa na ca, vb = .slice aa na ca ∧ na = b.length := by obtain ⟨ao, cap, h, _⟩ := hvb; exact ⟨_, _, _, h, rfl⟩
  have HU := Lib.hid hu
  obtain ⟨au, cu, rfl, hlc, hcm, hn0, hrow⟩ := hu
  have HROW := Lib.hid hrow
  unfold maxLen at hcm
  obtain ⟨m, hm⟩ : ∃ m, m = L.length := ⟨_, rfl⟩
  rw [← hm] at hlc hlL ⊢
  rw [← hna] at hla
  rw [← hnb] at hlb
  have HAW := Lib.hid (awake10_any w hml)
  have HA := Lib.hid (And.intro hva (And.intro hvb (And.intro hml (And.intro hN (And.intro hna (And.intro hnb hm))))))
  clear hn0 hrow hva hvb hml hN hna hnb hm
  have hla6 : (na : Int) ≤ 140737488351232 := by omega
  have hlb6 : (nb : Int) ≤ 140737488351232 := by omega
  obtain ⟨n0, hn0⟩ : ∃ n0, n0 = na + nb := ⟨_, rfl⟩
  have hadd : (na : Int) + (nb : Int) = (n0 : Nat) := by omega
  have hn06 : (n0 : Int) ≤ 281474976702464 := by omega
  have HN0 := Lib.hid hn0
  clear hn0
  go_enter Try.func4, Try.ntmps4
  go_wp2_with (go_at_call 5; refine HAW.out.mono ?_; rintro e w1 ⟨rfl, hf1⟩; (have H1 := Lib.hid hf1); clear hf1)
  go_loopw [7, 8] (fun nv iv wr => ∃ ix t : Nat, ix ≤ m ∧ ix ≤ 40 ∧ iv = .int .i64 ix ∧ nv = .int .i64 t ∧ n0 ≤ t ∧ t ≤ n0 + ix * 140737488351232 ∧ wr = w1) (fun _ iv _ => m - (intOf iv).toNat)
  case atStart => exact ⟨0, n0, by omega, by omega, rfl, rfl, Nat.le_refl _, by omega, rfl⟩
  case round =>
    obtain ⟨ix, t, hix, hix40, rfl, rfl, ht0, ht1, rfl⟩ := hrel
    by_cases hlt : ix < m ∧ ix < 40
    · obtain ⟨hlt, hlt40⟩ := hlt
      have hil : ix < L.length := by rw [← HA.out.2.2.2.2.2.2]; exact hlt
      obtain ⟨x, hx⟩ : ∃ x, x = L[ix] := ⟨_, rfl⟩
      have hxn : x.n.size ≤ 140737488351232 := HA.out.2.2.2.1 x (by rw [hx]; exact List.getElem_mem _)
      obtain ⟨bp, off, rfl, hbG, hrg⟩ := HROW.out (by rintro rfl; simp at hil)
      have hr : wr.rangeAt bp (off + ix * 21) (cellsX L[ix]) := H1.out.range (hrg ix hil) (fun h => h)
      rw [← hx] at hr
      have hs : wr.cell? ⟨bp, off + ix * 21 + 20, none⟩ = some (.string x.n) := hr 20 _ (by
        rw [cellsX, List.getElem?_append_right (by rw [List.length_map, x.hl]; exact Nat.le_refl _), List.length_map, x.hl]
        rfl)
      have hlt64 : (ix : Int) < (m : Int) := by omega
      have hl40 : (ix : Int) < 40 := by omega
      have htt : t ≤ 281474976702464 + 40 * 140737488351232 := by have : ix * 140737488351232 ≤ 40 * 140737488351232 := Nat.mul_le_mul_right _ hix40; omega
      obtain ⟨t2, ht2⟩ : ∃ t2, t2 = t + x.n.size := ⟨_, rfl⟩
      have htI : (t : Int) + (x.n.size : Int) = (t2 : Nat) := by omega
      have ht26 : (t2 : Int) ≤ 9007199254740992 := by omega
      have HT2 := Lib.hid (show n0 ≤ t2 ∧ t2 ≤ n0 + (ix + 1) * 140737488351232 by rw [Nat.add_mul]; omega)
      clear hx hrg hbG hr ht2 ht0 ht1 htt
      go_wp2_with fail
      go_roundw
      case rel => exact ⟨ix + 1, t2, by omega, by omega, by go_num, rfl, HT2.out.1, HT2.out.2, trivial⟩
      case measure => simp [intOf]; omega
    · by_cases hA : ix < m
      · have hlt64 : (ix : Int) < (m : Int) := by omega
        have h40 : ¬ (ix : Int) < 40 := by omega
        have hm40 : (40 : Int) < (m : Int) := by omega
        clear hlt ht0 ht1
        by_cases hb : 3000 < t
        · have hbI : (3000 : Int) < (t : Int) := by omega
          go_wp2_with fail
          go_ret
          exact ⟨rfl, H1.out⟩
        · have hbI : ¬ (3000 : Int) < (t : Int) := by omega
          go_wp2_with fail
          go_ret
          exact ⟨rfl, H1.out⟩
      · have hlt64 : ¬ (ix : Int) < (m : Int) := by omega
        have hm40 : ¬ (40 : Int) < (m : Int) := by omega
        by_cases hb : 3000 < t
        · have hbI : (3000 : Int) < (t : Int) := by omega
          clear hlt ht0 ht1
          go_wp2_with fail
          go_ret
          exact ⟨rfl, H1.out⟩
        · have hbI : ¬ (3000 : Int) < (t : Int) := by omega
          have HM4 := Lib.hid (show m ≤ 40 ∧ na + nb ≤ 3000 by have := HN0.out; omega)
          have hbd : decide ((3000 : Int) < (t : Int)) = false := by rw [decide_eq_false_iff_not]; omega
          have hbm : decide ((40 : Int) < (m : Int)) = false := by rw [decide_eq_false_iff_not]; omega
          generalize hw1 : wr = w1 at *
          clear hw1 hlt ht0 ht1 hix hix40 hA hb hla hlb hlL hadd hn06 hla6 hlb6
          have HPA := Lib.hid (show BytesIn (fun k => k < w.heap.size) w1 (.slice aa na ca) a ∧ BytesIn (fun k => k < w.heap.size) w1 (.slice ab nb cb) b ∧ PathsIn (fun k => k < w.heap.size) w1 (.slice au m cu) L ∧ MlAt w1 from
            ⟨HA.out.1.keep H1.out (fun _ _ _ h => h), HA.out.2.1.keep H1.out (fun _ _ _ h => h), by have h := HU.out; rw [← HA.out.2.2.2.2.2.2] at h; exact h.keep H1.out (fun _ _ _ h => h), HA.out.2.2.1.keep H1.out (fun h => h)⟩)
          have hsz1 := H1.out.size
          go_wp2_with (at_builtin; refine wpList_append_bytes (F := fun k => w1.heap.size ≤ k) (G := fun k => k < w.heap.size) _ rfl (.tmp 45) (.tmp 46) rfl _ _ [] a rfl rfl (own_empty w1 _ rfl) ?src ?len ?next)
          case src =>
            exact (HPA.out.1.keep ((Fr.refl (fun _ => False) w1).alloc _) (fun _ _ _ h => h))
          case len =>
            have := HM4.out.2
            have := HA.out.2.2.2.2.1
            simp
            omega
          case next =>
            intro v2 w2 ho2 hg2 _
            have hf2 : Fr (fun _ => False) w1 w2 := ((Fr.refl (fun _ => False) w1).alloc _).grown hg2 (fun k hk => .inr (by simp [Value.ownBlock] at hk; omega))
            have H2 := Lib.hid (And.intro (ho2.mono (G := fun k => w1.heap.size ≤ k) (fun k _ hk => by have h9 := ((Fr.refl (fun _ => False) w1).alloc (.cells #[] 5)).size; omega)) hf2)
            clear ho2 hg2 hf2
            go_wp2_with (at_builtin; refine wpList_append_bytes (F := fun k => w1.heap.size ≤ k) (G := fun k => k < w.heap.size) _ rfl (.tmp 47) (.tmp 48) rfl _ _ a b rfl rfl H2.out.1 (HPA.out.2.1.keep H2.out.2 (fun _ _ _ h => h)) ?len ?next)
            case len =>
              have := HM4.out.2
              have := HA.out.2.2.2.2.1
              have := HA.out.2.2.2.2.2.1
              omega
            case next =>
              intro v3 w3 ho3 hg3 _
              have hf3 : Fr (fun _ => False) w1 w3 := H2.out.2.grown hg3 (fun k hk => .inr (H2.out.1.2 k hk))
              have hal : (a ++ b).length = na + nb := by rw [List.length_append, ← HA.out.2.2.2.2.1, ← HA.out.2.2.2.2.2.1]
              obtain ⟨nc, hnc⟩ : ∃ nc, nc = (a ++ b).length := ⟨_, rfl⟩
              obtain ⟨ac, cc, rfl⟩ := ho3.len
              rw [← hnc] at ho3 ⊢
              have hs3 := hf3.size
              have hb3 : BytesIn (fun k => k < w3.heap.size) w3 (.slice ac nc cc) (a ++ b) := ho3.bytes.mono (fun k hk _ => hk)
              have hu3 : PathsIn (fun k => k < w3.heap.size) w3 (.slice au m cu) L := (HPA.out.2.2.1.keep hf3 (fun _ _ _ h => h)).mono (fun k hk _ => hk)
              have HM3 := Lib.hid (show m = L.length ∧ L.length ≤ 1000 ∧ (∀ x ∈ L, x.n.size ≤ 140737488351232) ∧ a.length ≤ 1000000 ∧ b.length ≤ 1000000 ∧ (a ++ b).length ≤ 1000000 ∧ nc = (a ++ b).length from
                ⟨HA.out.2.2.2.2.2.2, by have := HA.out.2.2.2.2.2.2; have := HM4.out.1; omega, HA.out.2.2.2.1, by have := HM4.out.2; have := HA.out.2.2.2.2.1; omega, by have := HM4.out.2; have := HA.out.2.2.2.2.2.1; omega, by have := HM4.out.2; omega, hnc⟩)
              have HFO := Lib.hid (fFound_any w3 _ _ (a ++ b) L hb3 (fun _ h => h) hu3 (fun _ h => h) HM3.out.2.1 HM3.out.2.2.1 HM3.out.2.2.2.2.2.1)
              have H3 := Lib.hid (And.intro (H1.out.trans hf3 (fun _ h => h.elim)) (And.intro hb3 (And.intro hu3 (And.intro (HPA.out.1.keep hf3 (fun _ _ _ h => h)) (And.intro (HPA.out.2.1.keep hf3 (fun _ _ _ h => h)) (HPA.out.2.2.2.keep hf3 (fun h => h)))))))
              clear ho3 hg3 hf3 hal hnc hs3 hb3 hu3
              go_wp2_with (go_at_call 12; refine HFO.out.mono ?_; rintro e w4 ⟨y4, M, rfl, hy4, hasc, hmem, hf4⟩)
              obtain ⟨nl, hnl⟩ : ∃ nl, nl = M.length := ⟨_, rfl⟩
              have hml : M.length ≤ 1000 := by
                have := len_sub M L (hasc.nodup lessX_strict) (fun x hx => ((hmem x).1 hx).1)
                have := HM3.out.2.1
                omega
              have HYL := Lib.hid hy4
              obtain ⟨al, cl, rfl, hlc4, hcm4, hn04, hrow4⟩ := hy4
              rw [← hnl] at hlc4 HYL ⊢
              unfold maxLen at hcm4
              have HROWM := Lib.hid hrow4
              have H4 := Lib.hid (And.intro (H3.out.1.trans hf4 (fun _ h => h.elim)) (And.intro hasc (And.intro hmem (And.intro hnl hml))))
              have hs4 := hf4.size
              have HKP := Lib.hid (fun W (hW : Fr (fun _ => False) w4 W) => show BytesIn (fun k => k < w4.heap.size) W (.slice ac nc cc) (a ++ b) ∧ BytesIn (fun k => k < w4.heap.size) W (.slice aa na ca) a ∧ BytesIn (fun k => k < w4.heap.size) W (.slice ab nb cb) b ∧ PathsIn (fun k => k < w4.heap.size) W (.slice au m cu) L ∧ PathsIn (fun k => k < w4.heap.size) W (.slice al nl cl) M ∧ MlAt W ∧ (∀ k, k < w4.heap.size → k < W.heap.size) from
                have hq := hf4.trans hW (fun _ h => h.elim)
                have hz := H3.out.1.size
                ⟨(H3.out.2.1.keep hq (fun _ _ _ h => h)).mono (fun k _ hk => by omega), (H3.out.2.2.2.1.keep hq (fun _ _ _ h => h)).mono (fun k _ hk => by omega), (H3.out.2.2.2.2.1.keep hq (fun _ _ _ h => h)).mono (fun k _ hk => by omega), (H3.out.2.2.1.keep hq (fun _ _ _ h => h)).mono (fun k _ hk => by omega), (HYL.out.mono (G := fun k => k < w4.heap.size) (fun k hk _ => hk)).keep hW (fun _ _ _ h => h), H3.out.2.2.2.2.2.keep hq (fun h => h), fun k hk => by have := hW.size; omega⟩)
              clear hasc hmem hnl hml hn04 hrow4 hf4 hs4 HFO
              go_loopw [11] (fun iv wr => ∃ ix : Nat, ix ≤ m ∧ iv = .int .i64 ix ∧ Hid (Fr (fun _ => False) w4 wr)) (fun iv _ => m - (intOf iv).toNat)
              case atStart => exact ⟨0, by omega, rfl, Lib.hid (Fr.refl _ _)⟩
              case round =>
                obtain ⟨ix, hix, rfl, hR⟩ := hrel
                by_cases hlt : ix < m
                · have hil : ix < L.length := by rw [← HM3.out.1]; exact hlt
                  obtain ⟨x, hx⟩ : ∃ x, x = L[ix] := ⟨_, rfl⟩
                  have hxL : x ∈ L := by rw [hx]; exact List.getElem_mem _
                  obtain ⟨bp, off, rfl, hbG, hrg⟩ := HROW.out (by rintro rfl; simp at hil)
                  have hr : wr.rangeAt bp (off + ix * 21) (cellsX L[ix]) := (H4.out.1.trans hR.out (fun _ h => h.elim)).range (hrg ix hil) (fun h => h)
                  rw [← hx] at hr
                  obtain ⟨CX, hCX⟩ : ∃ C, C = pathC x.h x.n := ⟨_, rfl⟩
                  obtain ⟨CH, hCH⟩ : ∃ C, C = (x.h.map bv).toArray := ⟨_, rfl⟩
                  have LDX := Lib.hid (fun W (hW : Fr (fun _ => False) wr W) => show (Instr.loadAt 37 (.pointer (some ⟨bp, off + ix * 21, none⟩))).run Try.prog W = .ok (.agg CX) W by rw [hCX]; exact load_mid_path W bp _ x (hW.range hr (fun h => h)))
                  have LDH := Lib.hid (fun W (hW : Fr (fun _ => False) wr W) => show (Instr.loadAt 24 (.pointer (some ⟨bp, off + ix * 21, none⟩))).run Try.prog W = .ok (.agg CH) W by rw [hCH]; exact load_hash_mid W bp _ x (hW.range hr (fun h => h)))
                  have HIXX := Lib.hid hlt
                  have HCX := Lib.hid hCX
                  obtain ⟨mp, hmp⟩ : ∃ mp, mp = (placesR (a ++ b) (letL x.h)).length := ⟨_, rfl⟩
                  obtain ⟨hh, hhh⟩ : ∃ hh, hh = anyR (a ++ b) (letL x.h) := ⟨_, rfl⟩
                  obtain ⟨ha, hha⟩ : ∃ hh, hh = anyR a (letL x.h) := ⟨_, rfl⟩
                  obtain ⟨hb, hhb⟩ : ∃ hh, hh = anyR b (letL x.h) := ⟨_, rfl⟩
                  have hxM : decide (x ∈ M) = hh := by
                    rw [hhh]
                    cases hq : anyR (a ++ b) (letL x.h) with
                    | true => rw [decide_eq_true_iff]; exact (H4.out.2.2.1 x).2 ⟨hxL, hq⟩
                    | false => rw [decide_eq_false_iff_not]; intro hm; rw [((H4.out.2.2.1 x).1 hm).2] at hq; cases hq
                  have HHL := Lib.hid (fun W (hW : Fr (fun _ => False) wr W) => show Calls Try.prog 13 #[.slice al nl cl, .agg CX] W fun e w' => e = .returned (.bool hh) ∧ Fr (fun _ => False) W w' by rw [hCX, ← hxM]; exact holds_any W _ M x (HKP.out W (hR.out.trans hW (fun _ h => h.elim))).2.2.2.2.1 (by have := H4.out.2.2.2.2; omega))
                  have HGG := Lib.hid (fun (W : World) => show (binOp .gtr 3 (.int .i64 (mp : Nat)) (.int .i64 0)).run Try.prog W = .ok (.bool hh) W by rw [gtr_dec10, hmp, hhh, any_places])
                  have HPL := Lib.hid (fun W (hW : Fr (fun _ => False) wr W) => show Calls Try.prog 6 #[.slice ac nc cc, .agg CH] W fun e w' => ∃ u, e = .returned u ∧ (∃ a c, u = .slice a mp c) ∧ Fr (fun _ => False) W w' by
                    have hk := HKP.out W (hR.out.trans hW (fun _ h => h.elim))
                    rw [hCH]
                    refine (fPlaces_any W _ (a ++ b) x.h x.hl hk.1 hk.2.2.2.2.2.2 HM3.out.2.2.2.2.2.1 hk.2.2.2.2.2.1).mono ?_
                    rintro e w' ⟨u, rfl, ho, hf⟩
                    obtain ⟨a9, c9, hu9, -⟩ := id ho.ints
                    exact ⟨u, rfl, ⟨a9, c9, by rw [hu9, hmp]⟩, hf⟩)
                  have HFA := Lib.hid (fun W (hW : Fr (fun _ => False) wr W) => show Calls Try.prog 12 #[.slice aa na ca, .slice (some ⟨bp, off, none⟩) m cu] W fun e w' => ∃ y, e = .returned y ∧ FndAt w' y x ha ∧ Fr (fun _ => False) W w' by
                    have hk := HKP.out W (hR.out.trans hW (fun _ h => h.elim))
                    rw [hha]
                    exact fnd_any W _ _ a L x hxL hk.2.1 hk.2.2.2.2.2.2 hk.2.2.2.1 HM3.out.2.1 HM3.out.2.2.1 HM3.out.2.2.2.1)
                  have HFB := Lib.hid (fun W (hW : Fr (fun _ => False) wr W) => show Calls Try.prog 12 #[.slice ab nb cb, .slice (some ⟨bp, off, none⟩) m cu] W fun e w' => ∃ y, e = .returned y ∧ FndAt w' y x hb ∧ Fr (fun _ => False) W w' by
                    have hk := HKP.out W (hR.out.trans hW (fun _ h => h.elim))
                    rw [hhb]
                    exact fnd_any W _ _ b L x hxL hk.2.2.1 hk.2.2.2.2.2.2 hk.2.2.2.1 HM3.out.2.1 HM3.out.2.2.1 HM3.out.2.2.2.2.1)
                  have hlt64 : (ix : Int) < (m : Int) := by omega
                  have hha2 : ha = true → hh = true := fun e => by rw [hhh]; exact anyR_left (letL_length _) (by rw [← hha]; exact e)
                  have hhb2 : hb = true → hh = true := fun e => by rw [hhh]; exact anyR_right (letL_length _) (by rw [← hhb]; exact e)
                  clear hx hxL hrg hbG hr hCX hCH hmp hhh hha hhb hxM
                  cases ha with
                  | true =>
                    obtain rfl : hh = true := hha2 rfl
                    clear hha2 hhb2
                    cases hb with
                    | true =>
                      go_wp2_with fail
                      refine wp_region_inv 53 (by kernel_rfl) (by kernel_rfl) (fun W => Fr (fun _ => False) wr W) (FnR11 aa ab ac al na ca nb cb nc cc nl cl bp off m cu ix mp CX CH x) (fun _ _ _ _ => True) (Fr (fun _ => False)) (FnR11.ext aa ab ac al na ca nb cb nc cc nl cl bp off m cu ix mp CX CH x) (Fr.refl _ _).drew ?_ ?_
                      · intro i hi o ho
                        replace hi : i < 53 := hi
                        obtain rfl | rfl | rfl | rfl | rfl | rfl | rfl | rfl | rfl | rfl | rfl | rfl | rfl | rfl | rfl | rfl | rfl | rfl | rfl | rfl | rfl | rfl | rfl | rfl | rfl | rfl | rfl | rfl | rfl | rfl | rfl | rfl | rfl | rfl | rfl | rfl | rfl | rfl | rfl | rfl | rfl | rfl | rfl | rfl | rfl | rfl | rfl | rfl | rfl | rfl | rfl | rfl | rfl : i = 0 ∨ i = 1 ∨ i = 2 ∨ i = 3 ∨ i = 4 ∨ i = 5 ∨ i = 6 ∨ i = 7 ∨ i = 8 ∨ i = 9 ∨ i = 10 ∨ i = 11 ∨ i = 12 ∨ i = 13 ∨ i = 14 ∨ i = 15 ∨ i = 16 ∨ i = 17 ∨ i = 18 ∨ i = 19 ∨ i = 20 ∨ i = 21 ∨ i = 22 ∨ i = 23 ∨ i = 24 ∨ i = 25 ∨ i = 26 ∨ i = 27 ∨ i = 28 ∨ i = 29 ∨ i = 30 ∨ i = 31 ∨ i = 32 ∨ i = 33 ∨ i = 34 ∨ i = 35 ∨ i = 36 ∨ i = 37 ∨ i = 38 ∨ i = 39 ∨ i = 40 ∨ i = 41 ∨ i = 42 ∨ i = 43 ∨ i = 44 ∨ i = 45 ∨ i = 46 ∨ i = 47 ∨ i = 48 ∨ i = 49 ∨ i = 50 ∨ i = 51 ∨ i = 52 := by omega
                        · simp only [List.getElem?_cons_zero, Option.some.injEq] at ho
                          subst ho
                          intro a W vs hB hS hE hU
                          refine wpG_plain rfl ?_
                          have v10 : a.eval (.tmp 10) = .slice al nl cl := (hU 10 (by kernel_rfl)).trans rfl
                          clear hE hU
                          exact wp_value_inv (w' := W) (.slice al nl cl) (op_move rfl v10) ⟨_, rfl, hB, Fr.refl _ _, rfl, fun _ _ _ _ _ => trivial⟩
                        · simp only [List.getElem?_cons_zero, List.getElem?_cons_succ, Option.some.injEq] at ho
                          subst ho
                          intro a W vs hB hS hE hU
                          refine wpG_plain rfl ?_
                          have v2 : a.eval (.tmp 2) = .slice (some ⟨bp, off, none⟩) m cu := (hU 2 (by kernel_rfl)).trans rfl
                          clear hE hU
                          exact wp_value_inv (w' := W) (.slice (some ⟨bp, off, none⟩) m cu) (op_move rfl v2) ⟨_, rfl, hB, Fr.refl _ _, rfl, fun _ _ _ _ _ => trivial⟩
                        · simp only [List.getElem?_cons_zero, List.getElem?_cons_succ, Option.some.injEq] at ho
                          subst ho
                          intro a W vs hB hS hE hU
                          refine wpG_plain rfl ?_
                          have v11 : a.eval (.tmp 11) = .int .i64 (ix : Nat) := (hU 11 (by kernel_rfl)).trans rfl
                          clear hE hU
                          exact wp_value_inv (w' := W) (.int .i64 (ix : Nat)) (op_move rfl v11) ⟨_, rfl, hB, Fr.refl _ _, rfl, fun _ _ _ _ _ => trivial⟩
                        · simp only [List.getElem?_cons_zero, List.getElem?_cons_succ, Option.some.injEq] at ho
                          subst ho
                          intro a W vs hB hS hE hU
                          refine wpG_plain rfl ?_
                          obtain ⟨r1, e60⟩ := hE 1 60 (by kernel_rfl) (by kernel_rfl)
                          have v60 : a.eval (.tmp 60) = .slice (some ⟨bp, off, none⟩) m cu := e60.trans r1
                          obtain ⟨r2, e61⟩ := hE 2 61 (by kernel_rfl) (by kernel_rfl)
                          have v61 : a.eval (.tmp 61) = .int .i64 (ix : Nat) := e61.trans r2
                          clear hE hU
                          exact wp_value_inv (w' := W) (.pointer (some ⟨bp, off + ix * 21, none⟩)) (op_indexAddr rfl v60 v61 (run_index_paths W bp off m cu ix HIXX.out)) ⟨_, rfl, hB, Fr.refl _ _, rfl, fun _ _ _ _ _ => trivial⟩
                        · simp only [List.getElem?_cons_zero, List.getElem?_cons_succ, Option.some.injEq] at ho
                          subst ho
                          intro a W vs hB hS hE hU
                          refine wpG_plain rfl ?_
                          obtain ⟨r3, e62⟩ := hE 3 62 (by kernel_rfl) (by kernel_rfl)
                          have v62 : a.eval (.tmp 62) = .pointer (some ⟨bp, off + ix * 21, none⟩) := e62.trans r3
                          clear hE hU
                          exact wp_value_inv (w' := W) (.agg CX) (op_loadAt rfl v62 (LDX.out W hB)) ⟨_, rfl, hB, Fr.refl _ _, rfl, fun _ _ _ _ _ => trivial⟩
                        · simp only [List.getElem?_cons_zero, List.getElem?_cons_succ, Option.some.injEq] at ho
                          subst ho
                          intro a W vs hB hS hE hU
                          refine wpG_plain rfl ?_
                          obtain ⟨r0, e59⟩ := hE 0 59 (by kernel_rfl) (by kernel_rfl)
                          have v59 : a.eval (.tmp 59) = .slice al nl cl := e59.trans r0
                          obtain ⟨r4, e63⟩ := hE 4 63 (by kernel_rfl) (by kernel_rfl)
                          have v63 : a.eval (.tmp 63) = .agg CX := e63.trans r4
                          clear hE hU
                          refine wp_call_inv 13 #[.tmp 59, .tmp 63] #[35, 37] rfl #[.slice al nl cl, .agg CX] (by simp only [List.map_toArray, List.map_cons, List.map_nil, v59, v63]) (ent_spence_spencelaw10_holds _) (Post := fun v W' => v = .bool true ∧ Fr (fun _ => False) W W') ((HHL.out W hB).mono fun e w' h => ⟨_, h.1, rfl, h.2⟩) ?_
                          rintro v W' ⟨rfl, hf⟩
                          exact ⟨_, rfl, hB.trans hf (fun _ h => h.elim), hf, rfl, fun _ _ _ _ _ => trivial⟩
                        · simp only [List.getElem?_cons_zero, List.getElem?_cons_succ, Option.some.injEq] at ho
                          subst ho
                          intro a W vs hB hS hE hU
                          refine wpG_plain rfl ?_
                          have v9 : a.eval (.tmp 9) = .slice ac nc cc := (hU 9 (by kernel_rfl)).trans rfl
                          clear hE hU
                          exact wp_value_inv (w' := W) (.slice ac nc cc) (op_move rfl v9) ⟨_, rfl, hB, Fr.refl _ _, rfl, fun _ _ _ _ _ => trivial⟩
                        · simp only [List.getElem?_cons_zero, List.getElem?_cons_succ, Option.some.injEq] at ho
                          subst ho
                          intro a W vs hB hS hE hU
                          refine wpG_plain rfl ?_
                          have v2 : a.eval (.tmp 2) = .slice (some ⟨bp, off, none⟩) m cu := (hU 2 (by kernel_rfl)).trans rfl
                          clear hE hU
                          exact wp_value_inv (w' := W) (.slice (some ⟨bp, off, none⟩) m cu) (op_move rfl v2) ⟨_, rfl, hB, Fr.refl _ _, rfl, fun _ _ _ _ _ => trivial⟩
                        · simp only [List.getElem?_cons_zero, List.getElem?_cons_succ, Option.some.injEq] at ho
                          subst ho
                          intro a W vs hB hS hE hU
                          refine wpG_plain rfl ?_
                          have v11 : a.eval (.tmp 11) = .int .i64 (ix : Nat) := (hU 11 (by kernel_rfl)).trans rfl
                          clear hE hU
                          exact wp_value_inv (w' := W) (.int .i64 (ix : Nat)) (op_move rfl v11) ⟨_, rfl, hB, Fr.refl _ _, rfl, fun _ _ _ _ _ => trivial⟩
                        · simp only [List.getElem?_cons_zero, List.getElem?_cons_succ, Option.some.injEq] at ho
                          subst ho
                          intro a W vs hB hS hE hU
                          refine wpG_plain rfl ?_
                          obtain ⟨r7, e66⟩ := hE 7 66 (by kernel_rfl) (by kernel_rfl)
                          have v66 : a.eval (.tmp 66) = .slice (some ⟨bp, off, none⟩) m cu := e66.trans r7
                          obtain ⟨r8, e67⟩ := hE 8 67 (by kernel_rfl) (by kernel_rfl)
                          have v67 : a.eval (.tmp 67) = .int .i64 (ix : Nat) := e67.trans r8
                          clear hE hU
                          exact wp_value_inv (w' := W) (.pointer (some ⟨bp, off + ix * 21, none⟩)) (op_indexAddr rfl v66 v67 (run_index_paths W bp off m cu ix HIXX.out)) ⟨_, rfl, hB, Fr.refl _ _, rfl, fun _ _ _ _ _ => trivial⟩
                        · simp only [List.getElem?_cons_zero, List.getElem?_cons_succ, Option.some.injEq] at ho
                          subst ho
                          intro a W vs hB hS hE hU
                          refine wpG_plain rfl ?_
                          obtain ⟨r9, e68⟩ := hE 9 68 (by kernel_rfl) (by kernel_rfl)
                          have v68 : a.eval (.tmp 68) = .pointer (some ⟨bp, off + ix * 21, none⟩) := e68.trans r9
                          clear hE hU
                          exact wp_value_inv (w' := W) (.pointer (some ⟨bp, off + ix * 21, none⟩)) (op_fieldAddr rfl v68 (fld_path0 W bp (off + ix * 21))) ⟨_, rfl, hB, Fr.refl _ _, rfl, fun _ _ _ _ _ => trivial⟩
                        · simp only [List.getElem?_cons_zero, List.getElem?_cons_succ, Option.some.injEq] at ho
                          subst ho
                          intro a W vs hB hS hE hU
                          refine wpG_plain rfl ?_
                          obtain ⟨r10, e69⟩ := hE 10 69 (by kernel_rfl) (by kernel_rfl)
                          have v69 : a.eval (.tmp 69) = .pointer (some ⟨bp, off + ix * 21, none⟩) := e69.trans r10
                          clear hE hU
                          exact wp_value_inv (w' := W) (.agg CH) (op_loadAt rfl v69 (LDH.out W hB)) ⟨_, rfl, hB, Fr.refl _ _, rfl, fun _ _ _ _ _ => trivial⟩
                        · simp only [List.getElem?_cons_zero, List.getElem?_cons_succ, Option.some.injEq] at ho
                          subst ho
                          intro a W vs hB hS hE hU
                          refine wpG_plain rfl ?_
                          obtain ⟨r6, e65⟩ := hE 6 65 (by kernel_rfl) (by kernel_rfl)
                          have v65 : a.eval (.tmp 65) = .slice ac nc cc := e65.trans r6
                          obtain ⟨r11, e70⟩ := hE 11 70 (by kernel_rfl) (by kernel_rfl)
                          have v70 : a.eval (.tmp 70) = .agg CH := e70.trans r11
                          clear hE hU
                          refine wp_call_inv 6 #[.tmp 65, .tmp 70] #[22, 24] rfl #[.slice ac nc cc, .agg CH] (by simp only [List.map_toArray, List.map_cons, List.map_nil, v65, v70]) (ent_spence_refs_Places _) (Post := fun v W' => (∃ a c, v = .slice a mp c) ∧ Fr (fun _ => False) W W') ((HPL.out W hB).mono fun e w' ⟨u, h1, h2, h3⟩ => ⟨_, h1, h2, h3⟩) ?_
                          rintro v W' ⟨hv, hf⟩
                          exact ⟨_, rfl, hB.trans hf (fun _ h => h.elim), hf, hv, fun _ _ _ _ _ => trivial⟩
                        · simp only [List.getElem?_cons_zero, List.getElem?_cons_succ, Option.some.injEq] at ho
                          subst ho
                          intro a W vs hB hS hE hU
                          refine wpG_plain rfl ?_
                          obtain ⟨⟨a12, c12, rg12⟩, e71⟩ := hE 12 71 (by kernel_rfl) (by kernel_rfl)
                          have v71 : a.eval (.tmp 71) = .slice a12 mp c12 := e71.trans rg12
                          clear hE hU
                          exact wp_value_inv (w' := W) (.int .i64 (mp : Nat)) (op_lenI rfl v71) ⟨_, rfl, hB, Fr.refl _ _, rfl, fun _ _ _ _ _ => trivial⟩
                        · simp only [List.getElem?_cons_zero, List.getElem?_cons_succ, Option.some.injEq] at ho
                          subst ho
                          intro a W vs hB hS hE hU
                          refine wpG_plain rfl ?_
                          obtain ⟨r13, e72⟩ := hE 13 72 (by kernel_rfl) (by kernel_rfl)
                          have v72 : a.eval (.tmp 72) = .int .i64 (mp : Nat) := e72.trans r13
                          clear hE hU
                          exact wp_value_inv (w' := W) (.bool true) (op_bin rfl v72 rfl (rfl) (HGG.out W)) ⟨_, rfl, hB, Fr.refl _ _, rfl, fun _ _ _ _ _ => trivial⟩
                        · simp only [List.getElem?_cons_zero, List.getElem?_cons_succ, Option.some.injEq] at ho
                          subst ho
                          intro a W vs hB hS hE hU
                          refine wpG_plain rfl ?_
                          obtain ⟨r5, e64⟩ := hE 5 64 (by kernel_rfl) (by kernel_rfl)
                          have v64 : a.eval (.tmp 64) = .bool true := e64.trans r5
                          obtain ⟨r14, e73⟩ := hE 14 73 (by kernel_rfl) (by kernel_rfl)
                          have v73 : a.eval (.tmp 73) = .bool true := e73.trans r14
                          clear hE hU
                          exact wp_value_inv (w' := W) (.bool false) (op_bin rfl v64 v73 (guard_bool W _ _ _ _ _ _) (neq_bool10 W true)) ⟨_, rfl, hB, Fr.refl _ _, rfl, fun _ _ _ _ _ => trivial⟩
                        · simp only [List.getElem?_cons_zero, List.getElem?_cons_succ, Option.some.injEq] at ho
                          subst ho
                          intro a W vs hB hS hE hU
                          refine wpG_plain rfl ?_
                          obtain ⟨r15, e74⟩ := hE 15 74 (by kernel_rfl) (by kernel_rfl)
                          have v74 : a.eval (.tmp 74) = .bool false := e74.trans r15
                          clear hE hU
                          exact wp_value_inv (w' := W) (.bool false) (op_move rfl v74) ⟨_, rfl, hB, Fr.refl _ _, rfl, fun _ _ _ _ _ => trivial⟩
                        · simp only [List.getElem?_cons_zero, List.getElem?_cons_succ, Option.some.injEq] at ho
                          subst ho
                          intro a W vs hB hS hE hU
                          obtain ⟨r16, e75⟩ := hE 16 75 (by kernel_rfl) (by kernel_rfl)
                          have v75 : a.eval (.tmp 75) = .bool false := e75.trans r16
                          refine wpG_yes 16 false 75 rfl (by kernel_rfl) (by rw [hS]; first | simp | exact Nat.le_of_ble_eq_true rfl) v75 ?_
                          have v0 : a.eval (.tmp 0) = .slice aa na ca := (hU 0 (by kernel_rfl)).trans rfl
                          clear hE hU
                          exact wp_value_inv (w' := W) (.slice aa na ca) (op_move rfl v0) ⟨_, rfl, hB, Fr.refl _ _, rfl, fun _ _ _ _ _ => trivial⟩
                        · simp only [List.getElem?_cons_zero, List.getElem?_cons_succ, Option.some.injEq] at ho
                          subst ho
                          intro a W vs hB hS hE hU
                          obtain ⟨r16, e75⟩ := hE 16 75 (by kernel_rfl) (by kernel_rfl)
                          have v75 : a.eval (.tmp 75) = .bool false := e75.trans r16
                          refine wpG_yes 16 false 75 rfl (by kernel_rfl) (by rw [hS]; first | simp | exact Nat.le_of_ble_eq_true rfl) v75 ?_
                          have v2 : a.eval (.tmp 2) = .slice (some ⟨bp, off, none⟩) m cu := (hU 2 (by kernel_rfl)).trans rfl
                          clear hE hU
                          exact wp_value_inv (w' := W) (.slice (some ⟨bp, off, none⟩) m cu) (op_move rfl v2) ⟨_, rfl, hB, Fr.refl _ _, rfl, fun _ _ _ _ _ => trivial⟩
                        · simp only [List.getElem?_cons_zero, List.getElem?_cons_succ, Option.some.injEq] at ho
                          subst ho
                          intro a W vs hB hS hE hU
                          obtain ⟨r16, e75⟩ := hE 16 75 (by kernel_rfl) (by kernel_rfl)
                          have v75 : a.eval (.tmp 75) = .bool false := e75.trans r16
                          refine wpG_yes 16 false 75 rfl (by kernel_rfl) (by rw [hS]; first | simp | exact Nat.le_of_ble_eq_true rfl) v75 ?_
                          obtain ⟨r17, e76⟩ := hE 17 76 (by kernel_rfl) (by kernel_rfl)
                          have v76 : a.eval (.tmp 76) = .slice aa na ca := e76.trans r17
                          obtain ⟨r18, e77⟩ := hE 18 77 (by kernel_rfl) (by kernel_rfl)
                          have v77 : a.eval (.tmp 77) = .slice (some ⟨bp, off, none⟩) m cu := e77.trans r18
                          clear hE hU
                          refine wp_call_inv 12 #[.tmp 76, .tmp 77] #[22, 35] rfl #[.slice aa na ca, .slice (some ⟨bp, off, none⟩) m cu] (by simp only [List.map_toArray, List.map_cons, List.map_nil, v76, v77]) (ent_spence_refs_Found _) (Post := fun v W' => FndAt W' v x true ∧ Fr (fun _ => False) W W') ((HFA.out W hB).mono fun e w' ⟨y, h1, h2, h3⟩ => ⟨_, h1, h2, h3⟩) ?_
                          rintro v W' ⟨hv, hf⟩
                          exact ⟨_, rfl, hB.trans hf (fun _ h => h.elim), hf, ⟨v, rfl, hv⟩, fun _ _ _ _ _ => trivial⟩
                        · simp only [List.getElem?_cons_zero, List.getElem?_cons_succ, Option.some.injEq] at ho
                          subst ho
                          intro a W vs hB hS hE hU
                          obtain ⟨r16, e75⟩ := hE 16 75 (by kernel_rfl) (by kernel_rfl)
                          have v75 : a.eval (.tmp 75) = .bool false := e75.trans r16
                          refine wpG_yes 16 false 75 rfl (by kernel_rfl) (by rw [hS]; first | simp | exact Nat.le_of_ble_eq_true rfl) v75 ?_
                          have v2 : a.eval (.tmp 2) = .slice (some ⟨bp, off, none⟩) m cu := (hU 2 (by kernel_rfl)).trans rfl
                          clear hE hU
                          exact wp_value_inv (w' := W) (.slice (some ⟨bp, off, none⟩) m cu) (op_move rfl v2) ⟨_, rfl, hB, Fr.refl _ _, rfl, fun _ _ _ _ _ => trivial⟩
                        · simp only [List.getElem?_cons_zero, List.getElem?_cons_succ, Option.some.injEq] at ho
                          subst ho
                          intro a W vs hB hS hE hU
                          obtain ⟨r16, e75⟩ := hE 16 75 (by kernel_rfl) (by kernel_rfl)
                          have v75 : a.eval (.tmp 75) = .bool false := e75.trans r16
                          refine wpG_yes 16 false 75 rfl (by kernel_rfl) (by rw [hS]; first | simp | exact Nat.le_of_ble_eq_true rfl) v75 ?_
                          have v11 : a.eval (.tmp 11) = .int .i64 (ix : Nat) := (hU 11 (by kernel_rfl)).trans rfl
                          clear hE hU
                          exact wp_value_inv (w' := W) (.int .i64 (ix : Nat)) (op_move rfl v11) ⟨_, rfl, hB, Fr.refl _ _, rfl, fun _ _ _ _ _ => trivial⟩
                        · simp only [List.getElem?_cons_zero, List.getElem?_cons_succ, Option.some.injEq] at ho
                          subst ho
                          intro a W vs hB hS hE hU
                          obtain ⟨r16, e75⟩ := hE 16 75 (by kernel_rfl) (by kernel_rfl)
                          have v75 : a.eval (.tmp 75) = .bool false := e75.trans r16
                          refine wpG_yes 16 false 75 rfl (by kernel_rfl) (by rw [hS]; first | simp | exact Nat.le_of_ble_eq_true rfl) v75 ?_
                          obtain ⟨r20, e79⟩ := hE 20 79 (by kernel_rfl) (by kernel_rfl)
                          have v79 : a.eval (.tmp 79) = .slice (some ⟨bp, off, none⟩) m cu := e79.trans r20
                          obtain ⟨r21, e80⟩ := hE 21 80 (by kernel_rfl) (by kernel_rfl)
                          have v80 : a.eval (.tmp 80) = .int .i64 (ix : Nat) := e80.trans r21
                          clear hE hU
                          exact wp_value_inv (w' := W) (.pointer (some ⟨bp, off + ix * 21, none⟩)) (op_indexAddr rfl v79 v80 (run_index_paths W bp off m cu ix HIXX.out)) ⟨_, rfl, hB, Fr.refl _ _, rfl, fun _ _ _ _ _ => trivial⟩
                        · simp only [List.getElem?_cons_zero, List.getElem?_cons_succ, Option.some.injEq] at ho
                          subst ho
                          intro a W vs hB hS hE hU
                          obtain ⟨r16, e75⟩ := hE 16 75 (by kernel_rfl) (by kernel_rfl)
                          have v75 : a.eval (.tmp 75) = .bool false := e75.trans r16
                          refine wpG_yes 16 false 75 rfl (by kernel_rfl) (by rw [hS]; first | simp | exact Nat.le_of_ble_eq_true rfl) v75 ?_
                          obtain ⟨r22, e81⟩ := hE 22 81 (by kernel_rfl) (by kernel_rfl)
                          have v81 : a.eval (.tmp 81) = .pointer (some ⟨bp, off + ix * 21, none⟩) := e81.trans r22
                          clear hE hU
                          exact wp_value_inv (w' := W) (.agg CX) (op_loadAt rfl v81 (LDX.out W hB)) ⟨_, rfl, hB, Fr.refl _ _, rfl, fun _ _ _ _ _ => trivial⟩
                        · simp only [List.getElem?_cons_zero, List.getElem?_cons_succ, Option.some.injEq] at ho
                          subst ho
                          intro a W vs hB hS hE hU
                          obtain ⟨r16, e75⟩ := hE 16 75 (by kernel_rfl) (by kernel_rfl)
                          have v75 : a.eval (.tmp 75) = .bool false := e75.trans r16
                          refine wpG_yes 16 false 75 rfl (by kernel_rfl) (by rw [hS]; first | simp | exact Nat.le_of_ble_eq_true rfl) v75 ?_
                          obtain ⟨⟨y19, rg19, hg19⟩, e78⟩ := hE 19 78 (by kernel_rfl) (by kernel_rfl)
                          have v78 : a.eval (.tmp 78) = y19 := e78.trans rg19
                          obtain ⟨r23, e82⟩ := hE 23 82 (by kernel_rfl) (by kernel_rfl)
                          have v82 : a.eval (.tmp 82) = .agg CX := e82.trans r23
                          clear hE hU
                          refine wp_call_inv 13 #[.tmp 78, .tmp 82] #[35, 37] rfl #[y19, .agg CX] (by simp only [List.map_toArray, List.map_cons, List.map_nil, v78, v82]) (ent_spence_spencelaw10_holds _) (Post := fun v W' => v = .bool true ∧ Fr (fun _ => False) W W') ((fndHolds hg19 HCX.out).mono fun e w' h => ⟨_, h.1, rfl, h.2⟩) ?_
                          rintro v W' ⟨rfl, hf⟩
                          exact ⟨_, rfl, hB.trans hf (fun _ h => h.elim), hf, rfl, fun _ _ _ _ _ => trivial⟩
                        · simp only [List.getElem?_cons_zero, List.getElem?_cons_succ, Option.some.injEq] at ho
                          subst ho
                          intro a W vs hB hS hE hU
                          obtain ⟨r16, e75⟩ := hE 16 75 (by kernel_rfl) (by kernel_rfl)
                          have v75 : a.eval (.tmp 75) = .bool false := e75.trans r16
                          refine wpG_yes 16 false 75 rfl (by kernel_rfl) (by rw [hS]; first | simp | exact Nat.le_of_ble_eq_true rfl) v75 ?_
                          obtain ⟨r24, e83⟩ := hE 24 83 (by kernel_rfl) (by kernel_rfl)
                          have v83 : a.eval (.tmp 83) = .bool true := e83.trans r24
                          clear hE hU
                          exact wp_value_inv (w' := W) (.bool true) (op_move rfl v83) ⟨_, rfl, hB, Fr.refl _ _, rfl, fun _ _ _ _ _ => trivial⟩
                        · simp only [List.getElem?_cons_zero, List.getElem?_cons_succ, Option.some.injEq] at ho
                          subst ho
                          intro a W vs hB hS hE hU
                          obtain ⟨r25, e84⟩ := hE 25 84 (by kernel_rfl) (by kernel_rfl)
                          have v84 : a.eval (.tmp 84) = .bool true := e84.trans r25
                          refine wpG_yes 25 true 84 rfl (by kernel_rfl) (by rw [hS]; first | simp | exact Nat.le_of_ble_eq_true rfl) v84 ?_
                          have v10 : a.eval (.tmp 10) = .slice al nl cl := (hU 10 (by kernel_rfl)).trans rfl
                          clear hE hU
                          exact wp_value_inv (w' := W) (.slice al nl cl) (op_move rfl v10) ⟨_, rfl, hB, Fr.refl _ _, rfl, fun _ _ _ _ _ => trivial⟩
                        · simp only [List.getElem?_cons_zero, List.getElem?_cons_succ, Option.some.injEq] at ho
                          subst ho
                          intro a W vs hB hS hE hU
                          obtain ⟨r25, e84⟩ := hE 25 84 (by kernel_rfl) (by kernel_rfl)
                          have v84 : a.eval (.tmp 84) = .bool true := e84.trans r25
                          refine wpG_yes 25 true 84 rfl (by kernel_rfl) (by rw [hS]; first | simp | exact Nat.le_of_ble_eq_true rfl) v84 ?_
                          have v2 : a.eval (.tmp 2) = .slice (some ⟨bp, off, none⟩) m cu := (hU 2 (by kernel_rfl)).trans rfl
                          clear hE hU
                          exact wp_value_inv (w' := W) (.slice (some ⟨bp, off, none⟩) m cu) (op_move rfl v2) ⟨_, rfl, hB, Fr.refl _ _, rfl, fun _ _ _ _ _ => trivial⟩
                        · simp only [List.getElem?_cons_zero, List.getElem?_cons_succ, Option.some.injEq] at ho
                          subst ho
                          intro a W vs hB hS hE hU
                          obtain ⟨r25, e84⟩ := hE 25 84 (by kernel_rfl) (by kernel_rfl)
                          have v84 : a.eval (.tmp 84) = .bool true := e84.trans r25
                          refine wpG_yes 25 true 84 rfl (by kernel_rfl) (by rw [hS]; first | simp | exact Nat.le_of_ble_eq_true rfl) v84 ?_
                          have v11 : a.eval (.tmp 11) = .int .i64 (ix : Nat) := (hU 11 (by kernel_rfl)).trans rfl
                          clear hE hU
                          exact wp_value_inv (w' := W) (.int .i64 (ix : Nat)) (op_move rfl v11) ⟨_, rfl, hB, Fr.refl _ _, rfl, fun _ _ _ _ _ => trivial⟩
                        · simp only [List.getElem?_cons_zero, List.getElem?_cons_succ, Option.some.injEq] at ho
                          subst ho
                          intro a W vs hB hS hE hU
                          obtain ⟨r25, e84⟩ := hE 25 84 (by kernel_rfl) (by kernel_rfl)
                          have v84 : a.eval (.tmp 84) = .bool true := e84.trans r25
                          refine wpG_yes 25 true 84 rfl (by kernel_rfl) (by rw [hS]; first | simp | exact Nat.le_of_ble_eq_true rfl) v84 ?_
                          obtain ⟨r27, e86⟩ := hE 27 86 (by kernel_rfl) (by kernel_rfl)
                          have v86 : a.eval (.tmp 86) = .slice (some ⟨bp, off, none⟩) m cu := e86.trans r27
                          obtain ⟨r28, e87⟩ := hE 28 87 (by kernel_rfl) (by kernel_rfl)
                          have v87 : a.eval (.tmp 87) = .int .i64 (ix : Nat) := e87.trans r28
                          clear hE hU
                          exact wp_value_inv (w' := W) (.pointer (some ⟨bp, off + ix * 21, none⟩)) (op_indexAddr rfl v86 v87 (run_index_paths W bp off m cu ix HIXX.out)) ⟨_, rfl, hB, Fr.refl _ _, rfl, fun _ _ _ _ _ => trivial⟩
                        · simp only [List.getElem?_cons_zero, List.getElem?_cons_succ, Option.some.injEq] at ho
                          subst ho
                          intro a W vs hB hS hE hU
                          obtain ⟨r25, e84⟩ := hE 25 84 (by kernel_rfl) (by kernel_rfl)
                          have v84 : a.eval (.tmp 84) = .bool true := e84.trans r25
                          refine wpG_yes 25 true 84 rfl (by kernel_rfl) (by rw [hS]; first | simp | exact Nat.le_of_ble_eq_true rfl) v84 ?_
                          obtain ⟨r29, e88⟩ := hE 29 88 (by kernel_rfl) (by kernel_rfl)
                          have v88 : a.eval (.tmp 88) = .pointer (some ⟨bp, off + ix * 21, none⟩) := e88.trans r29
                          clear hE hU
                          exact wp_value_inv (w' := W) (.agg CX) (op_loadAt rfl v88 (LDX.out W hB)) ⟨_, rfl, hB, Fr.refl _ _, rfl, fun _ _ _ _ _ => trivial⟩
                        · simp only [List.getElem?_cons_zero, List.getElem?_cons_succ, Option.some.injEq] at ho
                          subst ho
                          intro a W vs hB hS hE hU
                          obtain ⟨r25, e84⟩ := hE 25 84 (by kernel_rfl) (by kernel_rfl)
                          have v84 : a.eval (.tmp 84) = .bool true := e84.trans r25
                          refine wpG_yes 25 true 84 rfl (by kernel_rfl) (by rw [hS]; first | simp | exact Nat.le_of_ble_eq_true rfl) v84 ?_
                          obtain ⟨r26, e85⟩ := hE 26 85 (by kernel_rfl) (by kernel_rfl)
                          have v85 : a.eval (.tmp 85) = .slice al nl cl := e85.trans r26
                          obtain ⟨r30, e89⟩ := hE 30 89 (by kernel_rfl) (by kernel_rfl)
                          have v89 : a.eval (.tmp 89) = .agg CX := e89.trans r30
                          clear hE hU
                          refine wp_call_inv 13 #[.tmp 85, .tmp 89] #[35, 37] rfl #[.slice al nl cl, .agg CX] (by simp only [List.map_toArray, List.map_cons, List.map_nil, v85, v89]) (ent_spence_spencelaw10_holds _) (Post := fun v W' => v = .bool true ∧ Fr (fun _ => False) W W') ((HHL.out W hB).mono fun e w' h => ⟨_, h.1, rfl, h.2⟩) ?_
                          rintro v W' ⟨rfl, hf⟩
                          exact ⟨_, rfl, hB.trans hf (fun _ h => h.elim), hf, rfl, fun _ _ _ _ _ => trivial⟩
                        · simp only [List.getElem?_cons_zero, List.getElem?_cons_succ, Option.some.injEq] at ho
                          subst ho
                          intro a W vs hB hS hE hU
                          obtain ⟨r25, e84⟩ := hE 25 84 (by kernel_rfl) (by kernel_rfl)
                          have v84 : a.eval (.tmp 84) = .bool true := e84.trans r25
                          refine wpG_yes 25 true 84 rfl (by kernel_rfl) (by rw [hS]; first | simp | exact Nat.le_of_ble_eq_true rfl) v84 ?_
                          obtain ⟨r31, e90⟩ := hE 31 90 (by kernel_rfl) (by kernel_rfl)
                          have v90 : a.eval (.tmp 90) = .bool true := e90.trans r31
                          clear hE hU
                          exact wp_value_inv (w' := W) (.bool false) (op_unop rfl v90 (by rfl)) ⟨_, rfl, hB, Fr.refl _ _, rfl, fun _ _ _ _ _ => trivial⟩
                        · simp only [List.getElem?_cons_zero, List.getElem?_cons_succ, Option.some.injEq] at ho
                          subst ho
                          intro a W vs hB hS hE hU
                          obtain ⟨r16, e75⟩ := hE 16 75 (by kernel_rfl) (by kernel_rfl)
                          have v75 : a.eval (.tmp 75) = .bool false := e75.trans r16
                          refine wpG_yes 16 false 75 rfl (by kernel_rfl) (by rw [hS]; first | simp | exact Nat.le_of_ble_eq_true rfl) v75 ?_
                          obtain ⟨r25, e84⟩ := hE 25 84 (by kernel_rfl) (by kernel_rfl)
                          have v84 : a.eval (.tmp 84) = .bool true := e84.trans r25
                          obtain ⟨r32, e91⟩ := hE 32 91 (by kernel_rfl) (by kernel_rfl)
                          have v91 : a.eval (.tmp 91) = .bool false := e91.trans r32
                          clear hE hU
                          exact wp_value_inv (w' := W) (.bool false) (op_pick rfl v84 (by simp only [if_true]; exact v91)) ⟨_, rfl, hB, Fr.refl _ _, rfl, fun _ _ _ _ _ => trivial⟩
                        · simp only [List.getElem?_cons_zero, List.getElem?_cons_succ, Option.some.injEq] at ho
                          subst ho
                          intro a W vs hB hS hE hU
                          refine wpG_plain rfl ?_
                          obtain ⟨r16, e75⟩ := hE 16 75 (by kernel_rfl) (by kernel_rfl)
                          have v75 : a.eval (.tmp 75) = .bool false := e75.trans r16
                          obtain ⟨r33, e92⟩ := hE 33 92 (by kernel_rfl) (by kernel_rfl)
                          have v92 : a.eval (.tmp 92) = .bool false := e92.trans r33
                          clear hE hU
                          exact wp_value_inv (w' := W) (.bool false) (op_pick rfl v75 (by simp only [Bool.false_eq_true, if_false]; exact v92)) ⟨_, rfl, hB, Fr.refl _ _, rfl, fun _ _ _ _ _ => trivial⟩
                        · simp only [List.getElem?_cons_zero, List.getElem?_cons_succ, Option.some.injEq] at ho
                          subst ho
                          intro a W vs hB hS hE hU
                          refine wpG_plain rfl ?_
                          obtain ⟨r34, e93⟩ := hE 34 93 (by kernel_rfl) (by kernel_rfl)
                          have v93 : a.eval (.tmp 93) = .bool false := e93.trans r34
                          clear hE hU
                          exact wp_value_inv (w' := W) (.bool false) (op_move rfl v93) ⟨_, rfl, hB, Fr.refl _ _, rfl, fun _ _ _ _ _ => trivial⟩
                        · simp only [List.getElem?_cons_zero, List.getElem?_cons_succ, Option.some.injEq] at ho
                          subst ho
                          intro a W vs hB hS hE hU
                          obtain ⟨r35, e94⟩ := hE 35 94 (by kernel_rfl) (by kernel_rfl)
                          have v94 : a.eval (.tmp 94) = .bool false := e94.trans r35
                          refine wpG_yes 35 false 94 rfl (by kernel_rfl) (by rw [hS]; first | simp | exact Nat.le_of_ble_eq_true rfl) v94 ?_
                          have v1 : a.eval (.tmp 1) = .slice ab nb cb := (hU 1 (by kernel_rfl)).trans rfl
                          clear hE hU
                          exact wp_value_inv (w' := W) (.slice ab nb cb) (op_move rfl v1) ⟨_, rfl, hB, Fr.refl _ _, rfl, fun _ _ _ _ _ => trivial⟩
                        · simp only [List.getElem?_cons_zero, List.getElem?_cons_succ, Option.some.injEq] at ho
                          subst ho
                          intro a W vs hB hS hE hU
                          obtain ⟨r35, e94⟩ := hE 35 94 (by kernel_rfl) (by kernel_rfl)
                          have v94 : a.eval (.tmp 94) = .bool false := e94.trans r35
                          refine wpG_yes 35 false 94 rfl (by kernel_rfl) (by rw [hS]; first | simp | exact Nat.le_of_ble_eq_true rfl) v94 ?_
                          have v2 : a.eval (.tmp 2) = .slice (some ⟨bp, off, none⟩) m cu := (hU 2 (by kernel_rfl)).trans rfl
                          clear hE hU
                          exact wp_value_inv (w' := W) (.slice (some ⟨bp, off, none⟩) m cu) (op_move rfl v2) ⟨_, rfl, hB, Fr.refl _ _, rfl, fun _ _ _ _ _ => trivial⟩
                        · simp only [List.getElem?_cons_zero, List.getElem?_cons_succ, Option.some.injEq] at ho
                          subst ho
                          intro a W vs hB hS hE hU
                          obtain ⟨r35, e94⟩ := hE 35 94 (by kernel_rfl) (by kernel_rfl)
                          have v94 : a.eval (.tmp 94) = .bool false := e94.trans r35
                          refine wpG_yes 35 false 94 rfl (by kernel_rfl) (by rw [hS]; first | simp | exact Nat.le_of_ble_eq_true rfl) v94 ?_
                          obtain ⟨r36, e95⟩ := hE 36 95 (by kernel_rfl) (by kernel_rfl)
                          have v95 : a.eval (.tmp 95) = .slice ab nb cb := e95.trans r36
                          obtain ⟨r37, e96⟩ := hE 37 96 (by kernel_rfl) (by kernel_rfl)
                          have v96 : a.eval (.tmp 96) = .slice (some ⟨bp, off, none⟩) m cu := e96.trans r37
                          clear hE hU
                          refine wp_call_inv 12 #[.tmp 95, .tmp 96] #[22, 35] rfl #[.slice ab nb cb, .slice (some ⟨bp, off, none⟩) m cu] (by simp only [List.map_toArray, List.map_cons, List.map_nil, v95, v96]) (ent_spence_refs_Found _) (Post := fun v W' => FndAt W' v x true ∧ Fr (fun _ => False) W W') ((HFB.out W hB).mono fun e w' ⟨y, h1, h2, h3⟩ => ⟨_, h1, h2, h3⟩) ?_
                          rintro v W' ⟨hv, hf⟩
                          exact ⟨_, rfl, hB.trans hf (fun _ h => h.elim), hf, ⟨v, rfl, hv⟩, fun _ _ _ _ _ => trivial⟩
                        · simp only [List.getElem?_cons_zero, List.getElem?_cons_succ, Option.some.injEq] at ho
                          subst ho
                          intro a W vs hB hS hE hU
                          obtain ⟨r35, e94⟩ := hE 35 94 (by kernel_rfl) (by kernel_rfl)
                          have v94 : a.eval (.tmp 94) = .bool false := e94.trans r35
                          refine wpG_yes 35 false 94 rfl (by kernel_rfl) (by rw [hS]; first | simp | exact Nat.le_of_ble_eq_true rfl) v94 ?_
                          have v2 : a.eval (.tmp 2) = .slice (some ⟨bp, off, none⟩) m cu := (hU 2 (by kernel_rfl)).trans rfl
                          clear hE hU
                          exact wp_value_inv (w' := W) (.slice (some ⟨bp, off, none⟩) m cu) (op_move rfl v2) ⟨_, rfl, hB, Fr.refl _ _, rfl, fun _ _ _ _ _ => trivial⟩
                        · simp only [List.getElem?_cons_zero, List.getElem?_cons_succ, Option.some.injEq] at ho
                          subst ho
                          intro a W vs hB hS hE hU
                          obtain ⟨r35, e94⟩ := hE 35 94 (by kernel_rfl) (by kernel_rfl)
                          have v94 : a.eval (.tmp 94) = .bool false := e94.trans r35
                          refine wpG_yes 35 false 94 rfl (by kernel_rfl) (by rw [hS]; first | simp | exact Nat.le_of_ble_eq_true rfl) v94 ?_
                          have v11 : a.eval (.tmp 11) = .int .i64 (ix : Nat) := (hU 11 (by kernel_rfl)).trans rfl
                          clear hE hU
                          exact wp_value_inv (w' := W) (.int .i64 (ix : Nat)) (op_move rfl v11) ⟨_, rfl, hB, Fr.refl _ _, rfl, fun _ _ _ _ _ => trivial⟩
                        · simp only [List.getElem?_cons_zero, List.getElem?_cons_succ, Option.some.injEq] at ho
                          subst ho
                          intro a W vs hB hS hE hU
                          obtain ⟨r35, e94⟩ := hE 35 94 (by kernel_rfl) (by kernel_rfl)
                          have v94 : a.eval (.tmp 94) = .bool false := e94.trans r35
                          refine wpG_yes 35 false 94 rfl (by kernel_rfl) (by rw [hS]; first | simp | exact Nat.le_of_ble_eq_true rfl) v94 ?_
                          obtain ⟨r39, e98⟩ := hE 39 98 (by kernel_rfl) (by kernel_rfl)
                          have v98 : a.eval (.tmp 98) = .slice (some ⟨bp, off, none⟩) m cu := e98.trans r39
                          obtain ⟨r40, e99⟩ := hE 40 99 (by kernel_rfl) (by kernel_rfl)
                          have v99 : a.eval (.tmp 99) = .int .i64 (ix : Nat) := e99.trans r40
                          clear hE hU
                          exact wp_value_inv (w' := W) (.pointer (some ⟨bp, off + ix * 21, none⟩)) (op_indexAddr rfl v98 v99 (run_index_paths W bp off m cu ix HIXX.out)) ⟨_, rfl, hB, Fr.refl _ _, rfl, fun _ _ _ _ _ => trivial⟩
                        · simp only [List.getElem?_cons_zero, List.getElem?_cons_succ, Option.some.injEq] at ho
                          subst ho
                          intro a W vs hB hS hE hU
                          obtain ⟨r35, e94⟩ := hE 35 94 (by kernel_rfl) (by kernel_rfl)
                          have v94 : a.eval (.tmp 94) = .bool false := e94.trans r35
                          refine wpG_yes 35 false 94 rfl (by kernel_rfl) (by rw [hS]; first | simp | exact Nat.le_of_ble_eq_true rfl) v94 ?_
                          obtain ⟨r41, e100⟩ := hE 41 100 (by kernel_rfl) (by kernel_rfl)
                          have v100 : a.eval (.tmp 100) = .pointer (some ⟨bp, off + ix * 21, none⟩) := e100.trans r41
                          clear hE hU
                          exact wp_value_inv (w' := W) (.agg CX) (op_loadAt rfl v100 (LDX.out W hB)) ⟨_, rfl, hB, Fr.refl _ _, rfl, fun _ _ _ _ _ => trivial⟩
                        · simp only [List.getElem?_cons_zero, List.getElem?_cons_succ, Option.some.injEq] at ho
                          subst ho
                          intro a W vs hB hS hE hU
                          obtain ⟨r35, e94⟩ := hE 35 94 (by kernel_rfl) (by kernel_rfl)
                          have v94 : a.eval (.tmp 94) = .bool false := e94.trans r35
                          refine wpG_yes 35 false 94 rfl (by kernel_rfl) (by rw [hS]; first | simp | exact Nat.le_of_ble_eq_true rfl) v94 ?_
                          obtain ⟨⟨y38, rg38, hg38⟩, e97⟩ := hE 38 97 (by kernel_rfl) (by kernel_rfl)
                          have v97 : a.eval (.tmp 97) = y38 := e97.trans rg38
                          obtain ⟨r42, e101⟩ := hE 42 101 (by kernel_rfl) (by kernel_rfl)
                          have v101 : a.eval (.tmp 101) = .agg CX := e101.trans r42
                          clear hE hU
                          refine wp_call_inv 13 #[.tmp 97, .tmp 101] #[35, 37] rfl #[y38, .agg CX] (by simp only [List.map_toArray, List.map_cons, List.map_nil, v97, v101]) (ent_spence_spencelaw10_holds _) (Post := fun v W' => v = .bool true ∧ Fr (fun _ => False) W W') ((fndHolds hg38 HCX.out).mono fun e w' h => ⟨_, h.1, rfl, h.2⟩) ?_
                          rintro v W' ⟨rfl, hf⟩
                          exact ⟨_, rfl, hB.trans hf (fun _ h => h.elim), hf, rfl, fun _ _ _ _ _ => trivial⟩
                        · simp only [List.getElem?_cons_zero, List.getElem?_cons_succ, Option.some.injEq] at ho
                          subst ho
                          intro a W vs hB hS hE hU
                          obtain ⟨r35, e94⟩ := hE 35 94 (by kernel_rfl) (by kernel_rfl)
                          have v94 : a.eval (.tmp 94) = .bool false := e94.trans r35
                          refine wpG_yes 35 false 94 rfl (by kernel_rfl) (by rw [hS]; first | simp | exact Nat.le_of_ble_eq_true rfl) v94 ?_
                          obtain ⟨r43, e102⟩ := hE 43 102 (by kernel_rfl) (by kernel_rfl)
                          have v102 : a.eval (.tmp 102) = .bool true := e102.trans r43
                          clear hE hU
                          exact wp_value_inv (w' := W) (.bool true) (op_move rfl v102) ⟨_, rfl, hB, Fr.refl _ _, rfl, fun _ _ _ _ _ => trivial⟩
                        · simp only [List.getElem?_cons_zero, List.getElem?_cons_succ, Option.some.injEq] at ho
                          subst ho
                          intro a W vs hB hS hE hU
                          obtain ⟨r44, e103⟩ := hE 44 103 (by kernel_rfl) (by kernel_rfl)
                          have v103 : a.eval (.tmp 103) = .bool true := e103.trans r44
                          refine wpG_yes 44 true 103 rfl (by kernel_rfl) (by rw [hS]; first | simp | exact Nat.le_of_ble_eq_true rfl) v103 ?_
                          have v10 : a.eval (.tmp 10) = .slice al nl cl := (hU 10 (by kernel_rfl)).trans rfl
                          clear hE hU
                          exact wp_value_inv (w' := W) (.slice al nl cl) (op_move rfl v10) ⟨_, rfl, hB, Fr.refl _ _, rfl, fun _ _ _ _ _ => trivial⟩
                        · simp only [List.getElem?_cons_zero, List.getElem?_cons_succ, Option.some.injEq] at ho
                          subst ho
                          intro a W vs hB hS hE hU
                          obtain ⟨r44, e103⟩ := hE 44 103 (by kernel_rfl) (by kernel_rfl)
                          have v103 : a.eval (.tmp 103) = .bool true := e103.trans r44
                          refine wpG_yes 44 true 103 rfl (by kernel_rfl) (by rw [hS]; first | simp | exact Nat.le_of_ble_eq_true rfl) v103 ?_
                          have v2 : a.eval (.tmp 2) = .slice (some ⟨bp, off, none⟩) m cu := (hU 2 (by kernel_rfl)).trans rfl
                          clear hE hU
                          exact wp_value_inv (w' := W) (.slice (some ⟨bp, off, none⟩) m cu) (op_move rfl v2) ⟨_, rfl, hB, Fr.refl _ _, rfl, fun _ _ _ _ _ => trivial⟩
                        · simp only [List.getElem?_cons_zero, List.getElem?_cons_succ, Option.some.injEq] at ho
                          subst ho
                          intro a W vs hB hS hE hU
                          obtain ⟨r44, e103⟩ := hE 44 103 (by kernel_rfl) (by kernel_rfl)
                          have v103 : a.eval (.tmp 103) = .bool true := e103.trans r44
                          refine wpG_yes 44 true 103 rfl (by kernel_rfl) (by rw [hS]; first | simp | exact Nat.le_of_ble_eq_true rfl) v103 ?_
                          have v11 : a.eval (.tmp 11) = .int .i64 (ix : Nat) := (hU 11 (by kernel_rfl)).trans rfl
                          clear hE hU
                          exact wp_value_inv (w' := W) (.int .i64 (ix : Nat)) (op_move rfl v11) ⟨_, rfl, hB, Fr.refl _ _, rfl, fun _ _ _ _ _ => trivial⟩
                        · simp only [List.getElem?_cons_zero, List.getElem?_cons_succ, Option.some.injEq] at ho
                          subst ho
                          intro a W vs hB hS hE hU
                          obtain ⟨r44, e103⟩ := hE 44 103 (by kernel_rfl) (by kernel_rfl)
                          have v103 : a.eval (.tmp 103) = .bool true := e103.trans r44
                          refine wpG_yes 44 true 103 rfl (by kernel_rfl) (by rw [hS]; first | simp | exact Nat.le_of_ble_eq_true rfl) v103 ?_
                          obtain ⟨r46, e105⟩ := hE 46 105 (by kernel_rfl) (by kernel_rfl)
                          have v105 : a.eval (.tmp 105) = .slice (some ⟨bp, off, none⟩) m cu := e105.trans r46
                          obtain ⟨r47, e106⟩ := hE 47 106 (by kernel_rfl) (by kernel_rfl)
                          have v106 : a.eval (.tmp 106) = .int .i64 (ix : Nat) := e106.trans r47
                          clear hE hU
                          exact wp_value_inv (w' := W) (.pointer (some ⟨bp, off + ix * 21, none⟩)) (op_indexAddr rfl v105 v106 (run_index_paths W bp off m cu ix HIXX.out)) ⟨_, rfl, hB, Fr.refl _ _, rfl, fun _ _ _ _ _ => trivial⟩
                        · simp only [List.getElem?_cons_zero, List.getElem?_cons_succ, Option.some.injEq] at ho
                          subst ho
                          intro a W vs hB hS hE hU
                          obtain ⟨r44, e103⟩ := hE 44 103 (by kernel_rfl) (by kernel_rfl)
                          have v103 : a.eval (.tmp 103) = .bool true := e103.trans r44
                          refine wpG_yes 44 true 103 rfl (by kernel_rfl) (by rw [hS]; first | simp | exact Nat.le_of_ble_eq_true rfl) v103 ?_
                          obtain ⟨r48, e107⟩ := hE 48 107 (by kernel_rfl) (by kernel_rfl)
                          have v107 : a.eval (.tmp 107) = .pointer (some ⟨bp, off + ix * 21, none⟩) := e107.trans r48
                          clear hE hU
                          exact wp_value_inv (w' := W) (.agg CX) (op_loadAt rfl v107 (LDX.out W hB)) ⟨_, rfl, hB, Fr.refl _ _, rfl, fun _ _ _ _ _ => trivial⟩
                        · simp only [List.getElem?_cons_zero, List.getElem?_cons_succ, Option.some.injEq] at ho
                          subst ho
                          intro a W vs hB hS hE hU
                          obtain ⟨r44, e103⟩ := hE 44 103 (by kernel_rfl) (by kernel_rfl)
                          have v103 : a.eval (.tmp 103) = .bool true := e103.trans r44
                          refine wpG_yes 44 true 103 rfl (by kernel_rfl) (by rw [hS]; first | simp | exact Nat.le_of_ble_eq_true rfl) v103 ?_
                          obtain ⟨r45, e104⟩ := hE 45 104 (by kernel_rfl) (by kernel_rfl)
                          have v104 : a.eval (.tmp 104) = .slice al nl cl := e104.trans r45
                          obtain ⟨r49, e108⟩ := hE 49 108 (by kernel_rfl) (by kernel_rfl)
                          have v108 : a.eval (.tmp 108) = .agg CX := e108.trans r49
                          clear hE hU
                          refine wp_call_inv 13 #[.tmp 104, .tmp 108] #[35, 37] rfl #[.slice al nl cl, .agg CX] (by simp only [List.map_toArray, List.map_cons, List.map_nil, v104, v108]) (ent_spence_spencelaw10_holds _) (Post := fun v W' => v = .bool true ∧ Fr (fun _ => False) W W') ((HHL.out W hB).mono fun e w' h => ⟨_, h.1, rfl, h.2⟩) ?_
                          rintro v W' ⟨rfl, hf⟩
                          exact ⟨_, rfl, hB.trans hf (fun _ h => h.elim), hf, rfl, fun _ _ _ _ _ => trivial⟩
                        · simp only [List.getElem?_cons_zero, List.getElem?_cons_succ, Option.some.injEq] at ho
                          subst ho
                          intro a W vs hB hS hE hU
                          obtain ⟨r44, e103⟩ := hE 44 103 (by kernel_rfl) (by kernel_rfl)
                          have v103 : a.eval (.tmp 103) = .bool true := e103.trans r44
                          refine wpG_yes 44 true 103 rfl (by kernel_rfl) (by rw [hS]; first | simp | exact Nat.le_of_ble_eq_true rfl) v103 ?_
                          obtain ⟨r50, e109⟩ := hE 50 109 (by kernel_rfl) (by kernel_rfl)
                          have v109 : a.eval (.tmp 109) = .bool true := e109.trans r50
                          clear hE hU
                          exact wp_value_inv (w' := W) (.bool false) (op_unop rfl v109 (by rfl)) ⟨_, rfl, hB, Fr.refl _ _, rfl, fun _ _ _ _ _ => trivial⟩
                        · simp only [List.getElem?_cons_zero, List.getElem?_cons_succ, Option.some.injEq] at ho
                          subst ho
                          intro a W vs hB hS hE hU
                          obtain ⟨r35, e94⟩ := hE 35 94 (by kernel_rfl) (by kernel_rfl)
                          have v94 : a.eval (.tmp 94) = .bool false := e94.trans r35
                          refine wpG_yes 35 false 94 rfl (by kernel_rfl) (by rw [hS]; first | simp | exact Nat.le_of_ble_eq_true rfl) v94 ?_
                          obtain ⟨r44, e103⟩ := hE 44 103 (by kernel_rfl) (by kernel_rfl)
                          have v103 : a.eval (.tmp 103) = .bool true := e103.trans r44
                          obtain ⟨r51, e110⟩ := hE 51 110 (by kernel_rfl) (by kernel_rfl)
                          have v110 : a.eval (.tmp 110) = .bool false := e110.trans r51
                          clear hE hU
                          exact wp_value_inv (w' := W) (.bool false) (op_pick rfl v103 (by simp only [if_true]; exact v110)) ⟨_, rfl, hB, Fr.refl _ _, rfl, fun _ _ _ _ _ => trivial⟩
                      · intro vs Wa hB0 hR0 hD
                        have r94 : vs 35 = .bool false := hR0 35 (by decide)
                        have r111 : vs 52 = .bool false := hR0 52 (by decide)
                        have HB := Lib.hid hB0
                        clear hR0 hD hB0
                        simp only [acts, if_true, dstAt, List.getElem?_cons_zero, List.getElem?_cons_succ, Option.bind_some, Act.put, List.setIfInBounds_toArray, List.set_cons_succ, List.set_cons_zero, List.drop_succ_cons]
                        simp only [r94, r111]
                        clear r94 r111
                        go_wp2_with fail
                        go_roundw
                        case rel => exact ⟨ix + 1, by omega, by go_num, Lib.hid (hR.out.trans HB.out (fun _ h => h.elim))⟩
                        case measure => simp [intOf]; omega
                    | false =>
                      go_wp2_with fail
                      refine wp_region_inv 53 (by kernel_rfl) (by kernel_rfl) (fun W => Fr (fun _ => False) wr W) (FnR10 aa ab ac al na ca nb cb nc cc nl cl bp off m cu ix mp CX CH x) (fun _ _ _ _ => True) (Fr (fun _ => False)) (FnR10.ext aa ab ac al na ca nb cb nc cc nl cl bp off m cu ix mp CX CH x) (Fr.refl _ _).drew ?_ ?_
                      · intro i hi o ho
                        replace hi : i < 53 := hi
                        obtain rfl | rfl | rfl | rfl | rfl | rfl | rfl | rfl | rfl | rfl | rfl | rfl | rfl | rfl | rfl | rfl | rfl | rfl | rfl | rfl | rfl | rfl | rfl | rfl | rfl | rfl | rfl | rfl | rfl | rfl | rfl | rfl | rfl | rfl | rfl | rfl | rfl | rfl | rfl | rfl | rfl | rfl | rfl | rfl | rfl | rfl | rfl | rfl | rfl | rfl | rfl | rfl | rfl : i = 0 ∨ i = 1 ∨ i = 2 ∨ i = 3 ∨ i = 4 ∨ i = 5 ∨ i = 6 ∨ i = 7 ∨ i = 8 ∨ i = 9 ∨ i = 10 ∨ i = 11 ∨ i = 12 ∨ i = 13 ∨ i = 14 ∨ i = 15 ∨ i = 16 ∨ i = 17 ∨ i = 18 ∨ i = 19 ∨ i = 20 ∨ i = 21 ∨ i = 22 ∨ i = 23 ∨ i = 24 ∨ i = 25 ∨ i = 26 ∨ i = 27 ∨ i = 28 ∨ i = 29 ∨ i = 30 ∨ i = 31 ∨ i = 32 ∨ i = 33 ∨ i = 34 ∨ i = 35 ∨ i = 36 ∨ i = 37 ∨ i = 38 ∨ i = 39 ∨ i = 40 ∨ i = 41 ∨ i = 42 ∨ i = 43 ∨ i = 44 ∨ i = 45 ∨ i = 46 ∨ i = 47 ∨ i = 48 ∨ i = 49 ∨ i = 50 ∨ i = 51 ∨ i = 52 := by omega
                        · simp only [List.getElem?_cons_zero, Option.some.injEq] at ho
                          subst ho
                          intro a W vs hB hS hE hU
                          refine wpG_plain rfl ?_
                          have v10 : a.eval (.tmp 10) = .slice al nl cl := (hU 10 (by kernel_rfl)).trans rfl
                          clear hE hU
                          exact wp_value_inv (w' := W) (.slice al nl cl) (op_move rfl v10) ⟨_, rfl, hB, Fr.refl _ _, rfl, fun _ _ _ _ _ => trivial⟩
                        · simp only [List.getElem?_cons_zero, List.getElem?_cons_succ, Option.some.injEq] at ho
                          subst ho
                          intro a W vs hB hS hE hU
                          refine wpG_plain rfl ?_
                          have v2 : a.eval (.tmp 2) = .slice (some ⟨bp, off, none⟩) m cu := (hU 2 (by kernel_rfl)).trans rfl
                          clear hE hU
                          exact wp_value_inv (w' := W) (.slice (some ⟨bp, off, none⟩) m cu) (op_move rfl v2) ⟨_, rfl, hB, Fr.refl _ _, rfl, fun _ _ _ _ _ => trivial⟩
                        · simp only [List.getElem?_cons_zero, List.getElem?_cons_succ, Option.some.injEq] at ho
                          subst ho
                          intro a W vs hB hS hE hU
                          refine wpG_plain rfl ?_
                          have v11 : a.eval (.tmp 11) = .int .i64 (ix : Nat) := (hU 11 (by kernel_rfl)).trans rfl
                          clear hE hU
                          exact wp_value_inv (w' := W) (.int .i64 (ix : Nat)) (op_move rfl v11) ⟨_, rfl, hB, Fr.refl _ _, rfl, fun _ _ _ _ _ => trivial⟩
                        · simp only [List.getElem?_cons_zero, List.getElem?_cons_succ, Option.some.injEq] at ho
                          subst ho
                          intro a W vs hB hS hE hU
                          refine wpG_plain rfl ?_
                          obtain ⟨r1, e60⟩ := hE 1 60 (by kernel_rfl) (by kernel_rfl)
                          have v60 : a.eval (.tmp 60) = .slice (some ⟨bp, off, none⟩) m cu := e60.trans r1
                          obtain ⟨r2, e61⟩ := hE 2 61 (by kernel_rfl) (by kernel_rfl)
                          have v61 : a.eval (.tmp 61) = .int .i64 (ix : Nat) := e61.trans r2
                          clear hE hU
                          exact wp_value_inv (w' := W) (.pointer (some ⟨bp, off + ix * 21, none⟩)) (op_indexAddr rfl v60 v61 (run_index_paths W bp off m cu ix HIXX.out)) ⟨_, rfl, hB, Fr.refl _ _, rfl, fun _ _ _ _ _ => trivial⟩
                        · simp only [List.getElem?_cons_zero, List.getElem?_cons_succ, Option.some.injEq] at ho
                          subst ho
                          intro a W vs hB hS hE hU
                          refine wpG_plain rfl ?_
                          obtain ⟨r3, e62⟩ := hE 3 62 (by kernel_rfl) (by kernel_rfl)
                          have v62 : a.eval (.tmp 62) = .pointer (some ⟨bp, off + ix * 21, none⟩) := e62.trans r3
                          clear hE hU
                          exact wp_value_inv (w' := W) (.agg CX) (op_loadAt rfl v62 (LDX.out W hB)) ⟨_, rfl, hB, Fr.refl _ _, rfl, fun _ _ _ _ _ => trivial⟩
                        · simp only [List.getElem?_cons_zero, List.getElem?_cons_succ, Option.some.injEq] at ho
                          subst ho
                          intro a W vs hB hS hE hU
                          refine wpG_plain rfl ?_
                          obtain ⟨r0, e59⟩ := hE 0 59 (by kernel_rfl) (by kernel_rfl)
                          have v59 : a.eval (.tmp 59) = .slice al nl cl := e59.trans r0
                          obtain ⟨r4, e63⟩ := hE 4 63 (by kernel_rfl) (by kernel_rfl)
                          have v63 : a.eval (.tmp 63) = .agg CX := e63.trans r4
                          clear hE hU
                          refine wp_call_inv 13 #[.tmp 59, .tmp 63] #[35, 37] rfl #[.slice al nl cl, .agg CX] (by simp only [List.map_toArray, List.map_cons, List.map_nil, v59, v63]) (ent_spence_spencelaw10_holds _) (Post := fun v W' => v = .bool true ∧ Fr (fun _ => False) W W') ((HHL.out W hB).mono fun e w' h => ⟨_, h.1, rfl, h.2⟩) ?_
                          rintro v W' ⟨rfl, hf⟩
                          exact ⟨_, rfl, hB.trans hf (fun _ h => h.elim), hf, rfl, fun _ _ _ _ _ => trivial⟩
                        · simp only [List.getElem?_cons_zero, List.getElem?_cons_succ, Option.some.injEq] at ho
                          subst ho
                          intro a W vs hB hS hE hU
                          refine wpG_plain rfl ?_
                          have v9 : a.eval (.tmp 9) = .slice ac nc cc := (hU 9 (by kernel_rfl)).trans rfl
                          clear hE hU
                          exact wp_value_inv (w' := W) (.slice ac nc cc) (op_move rfl v9) ⟨_, rfl, hB, Fr.refl _ _, rfl, fun _ _ _ _ _ => trivial⟩
                        · simp only [List.getElem?_cons_zero, List.getElem?_cons_succ, Option.some.injEq] at ho
                          subst ho
                          intro a W vs hB hS hE hU
                          refine wpG_plain rfl ?_
                          have v2 : a.eval (.tmp 2) = .slice (some ⟨bp, off, none⟩) m cu := (hU 2 (by kernel_rfl)).trans rfl
                          clear hE hU
                          exact wp_value_inv (w' := W) (.slice (some ⟨bp, off, none⟩) m cu) (op_move rfl v2) ⟨_, rfl, hB, Fr.refl _ _, rfl, fun _ _ _ _ _ => trivial⟩
                        · simp only [List.getElem?_cons_zero, List.getElem?_cons_succ, Option.some.injEq] at ho
                          subst ho
                          intro a W vs hB hS hE hU
                          refine wpG_plain rfl ?_
                          have v11 : a.eval (.tmp 11) = .int .i64 (ix : Nat) := (hU 11 (by kernel_rfl)).trans rfl
                          clear hE hU
                          exact wp_value_inv (w' := W) (.int .i64 (ix : Nat)) (op_move rfl v11) ⟨_, rfl, hB, Fr.refl _ _, rfl, fun _ _ _ _ _ => trivial⟩
                        · simp only [List.getElem?_cons_zero, List.getElem?_cons_succ, Option.some.injEq] at ho
                          subst ho
                          intro a W vs hB hS hE hU
                          refine wpG_plain rfl ?_
                          obtain ⟨r7, e66⟩ := hE 7 66 (by kernel_rfl) (by kernel_rfl)
                          have v66 : a.eval (.tmp 66) = .slice (some ⟨bp, off, none⟩) m cu := e66.trans r7
                          obtain ⟨r8, e67⟩ := hE 8 67 (by kernel_rfl) (by kernel_rfl)
                          have v67 : a.eval (.tmp 67) = .int .i64 (ix : Nat) := e67.trans r8
                          clear hE hU
                          exact wp_value_inv (w' := W) (.pointer (some ⟨bp, off + ix * 21, none⟩)) (op_indexAddr rfl v66 v67 (run_index_paths W bp off m cu ix HIXX.out)) ⟨_, rfl, hB, Fr.refl _ _, rfl, fun _ _ _ _ _ => trivial⟩
                        · simp only [List.getElem?_cons_zero, List.getElem?_cons_succ, Option.some.injEq] at ho
                          subst ho
                          intro a W vs hB hS hE hU
                          refine wpG_plain rfl ?_
                          obtain ⟨r9, e68⟩ := hE 9 68 (by kernel_rfl) (by kernel_rfl)
                          have v68 : a.eval (.tmp 68) = .pointer (some ⟨bp, off + ix * 21, none⟩) := e68.trans r9
                          clear hE hU
                          exact wp_value_inv (w' := W) (.pointer (some ⟨bp, off + ix * 21, none⟩)) (op_fieldAddr rfl v68 (fld_path0 W bp (off + ix * 21))) ⟨_, rfl, hB, Fr.refl _ _, rfl, fun _ _ _ _ _ => trivial⟩
                        · simp only [List.getElem?_cons_zero, List.getElem?_cons_succ, Option.some.injEq] at ho
                          subst ho
                          intro a W vs hB hS hE hU
                          refine wpG_plain rfl ?_
                          obtain ⟨r10, e69⟩ := hE 10 69 (by kernel_rfl) (by kernel_rfl)
                          have v69 : a.eval (.tmp 69) = .pointer (some ⟨bp, off + ix * 21, none⟩) := e69.trans r10
                          clear hE hU
                          exact wp_value_inv (w' := W) (.agg CH) (op_loadAt rfl v69 (LDH.out W hB)) ⟨_, rfl, hB, Fr.refl _ _, rfl, fun _ _ _ _ _ => trivial⟩
                        · simp only [List.getElem?_cons_zero, List.getElem?_cons_succ, Option.some.injEq] at ho
                          subst ho
                          intro a W vs hB hS hE hU
                          refine wpG_plain rfl ?_
                          obtain ⟨r6, e65⟩ := hE 6 65 (by kernel_rfl) (by kernel_rfl)
                          have v65 : a.eval (.tmp 65) = .slice ac nc cc := e65.trans r6
                          obtain ⟨r11, e70⟩ := hE 11 70 (by kernel_rfl) (by kernel_rfl)
                          have v70 : a.eval (.tmp 70) = .agg CH := e70.trans r11
                          clear hE hU
                          refine wp_call_inv 6 #[.tmp 65, .tmp 70] #[22, 24] rfl #[.slice ac nc cc, .agg CH] (by simp only [List.map_toArray, List.map_cons, List.map_nil, v65, v70]) (ent_spence_refs_Places _) (Post := fun v W' => (∃ a c, v = .slice a mp c) ∧ Fr (fun _ => False) W W') ((HPL.out W hB).mono fun e w' ⟨u, h1, h2, h3⟩ => ⟨_, h1, h2, h3⟩) ?_
                          rintro v W' ⟨hv, hf⟩
                          exact ⟨_, rfl, hB.trans hf (fun _ h => h.elim), hf, hv, fun _ _ _ _ _ => trivial⟩
                        · simp only [List.getElem?_cons_zero, List.getElem?_cons_succ, Option.some.injEq] at ho
                          subst ho
                          intro a W vs hB hS hE hU
                          refine wpG_plain rfl ?_
                          obtain ⟨⟨a12, c12, rg12⟩, e71⟩ := hE 12 71 (by kernel_rfl) (by kernel_rfl)
                          have v71 : a.eval (.tmp 71) = .slice a12 mp c12 := e71.trans rg12
                          clear hE hU
                          exact wp_value_inv (w' := W) (.int .i64 (mp : Nat)) (op_lenI rfl v71) ⟨_, rfl, hB, Fr.refl _ _, rfl, fun _ _ _ _ _ => trivial⟩
                        · simp only [List.getElem?_cons_zero, List.getElem?_cons_succ, Option.some.injEq] at ho
                          subst ho
                          intro a W vs hB hS hE hU
                          refine wpG_plain rfl ?_
                          obtain ⟨r13, e72⟩ := hE 13 72 (by kernel_rfl) (by kernel_rfl)
                          have v72 : a.eval (.tmp 72) = .int .i64 (mp : Nat) := e72.trans r13
                          clear hE hU
                          exact wp_value_inv (w' := W) (.bool true) (op_bin rfl v72 rfl (rfl) (HGG.out W)) ⟨_, rfl, hB, Fr.refl _ _, rfl, fun _ _ _ _ _ => trivial⟩
                        · simp only [List.getElem?_cons_zero, List.getElem?_cons_succ, Option.some.injEq] at ho
                          subst ho
                          intro a W vs hB hS hE hU
                          refine wpG_plain rfl ?_
                          obtain ⟨r5, e64⟩ := hE 5 64 (by kernel_rfl) (by kernel_rfl)
                          have v64 : a.eval (.tmp 64) = .bool true := e64.trans r5
                          obtain ⟨r14, e73⟩ := hE 14 73 (by kernel_rfl) (by kernel_rfl)
                          have v73 : a.eval (.tmp 73) = .bool true := e73.trans r14
                          clear hE hU
                          exact wp_value_inv (w' := W) (.bool false) (op_bin rfl v64 v73 (guard_bool W _ _ _ _ _ _) (neq_bool10 W true)) ⟨_, rfl, hB, Fr.refl _ _, rfl, fun _ _ _ _ _ => trivial⟩
                        · simp only [List.getElem?_cons_zero, List.getElem?_cons_succ, Option.some.injEq] at ho
                          subst ho
                          intro a W vs hB hS hE hU
                          refine wpG_plain rfl ?_
                          obtain ⟨r15, e74⟩ := hE 15 74 (by kernel_rfl) (by kernel_rfl)
                          have v74 : a.eval (.tmp 74) = .bool false := e74.trans r15
                          clear hE hU
                          exact wp_value_inv (w' := W) (.bool false) (op_move rfl v74) ⟨_, rfl, hB, Fr.refl _ _, rfl, fun _ _ _ _ _ => trivial⟩
                        · simp only [List.getElem?_cons_zero, List.getElem?_cons_succ, Option.some.injEq] at ho
                          subst ho
                          intro a W vs hB hS hE hU
                          obtain ⟨r16, e75⟩ := hE 16 75 (by kernel_rfl) (by kernel_rfl)
                          have v75 : a.eval (.tmp 75) = .bool false := e75.trans r16
                          refine wpG_yes 16 false 75 rfl (by kernel_rfl) (by rw [hS]; first | simp | exact Nat.le_of_ble_eq_true rfl) v75 ?_
                          have v0 : a.eval (.tmp 0) = .slice aa na ca := (hU 0 (by kernel_rfl)).trans rfl
                          clear hE hU
                          exact wp_value_inv (w' := W) (.slice aa na ca) (op_move rfl v0) ⟨_, rfl, hB, Fr.refl _ _, rfl, fun _ _ _ _ _ => trivial⟩
                        · simp only [List.getElem?_cons_zero, List.getElem?_cons_succ, Option.some.injEq] at ho
                          subst ho
                          intro a W vs hB hS hE hU
                          obtain ⟨r16, e75⟩ := hE 16 75 (by kernel_rfl) (by kernel_rfl)
                          have v75 : a.eval (.tmp 75) = .bool false := e75.trans r16
                          refine wpG_yes 16 false 75 rfl (by kernel_rfl) (by rw [hS]; first | simp | exact Nat.le_of_ble_eq_true rfl) v75 ?_
                          have v2 : a.eval (.tmp 2) = .slice (some ⟨bp, off, none⟩) m cu := (hU 2 (by kernel_rfl)).trans rfl
                          clear hE hU
                          exact wp_value_inv (w' := W) (.slice (some ⟨bp, off, none⟩) m cu) (op_move rfl v2) ⟨_, rfl, hB, Fr.refl _ _, rfl, fun _ _ _ _ _ => trivial⟩
                        · simp only [List.getElem?_cons_zero, List.getElem?_cons_succ, Option.some.injEq] at ho
                          subst ho
                          intro a W vs hB hS hE hU
                          obtain ⟨r16, e75⟩ := hE 16 75 (by kernel_rfl) (by kernel_rfl)
                          have v75 : a.eval (.tmp 75) = .bool false := e75.trans r16
                          refine wpG_yes 16 false 75 rfl (by kernel_rfl) (by rw [hS]; first | simp | exact Nat.le_of_ble_eq_true rfl) v75 ?_
                          obtain ⟨r17, e76⟩ := hE 17 76 (by kernel_rfl) (by kernel_rfl)
                          have v76 : a.eval (.tmp 76) = .slice aa na ca := e76.trans r17
                          obtain ⟨r18, e77⟩ := hE 18 77 (by kernel_rfl) (by kernel_rfl)
                          have v77 : a.eval (.tmp 77) = .slice (some ⟨bp, off, none⟩) m cu := e77.trans r18
                          clear hE hU
                          refine wp_call_inv 12 #[.tmp 76, .tmp 77] #[22, 35] rfl #[.slice aa na ca, .slice (some ⟨bp, off, none⟩) m cu] (by simp only [List.map_toArray, List.map_cons, List.map_nil, v76, v77]) (ent_spence_refs_Found _) (Post := fun v W' => FndAt W' v x true ∧ Fr (fun _ => False) W W') ((HFA.out W hB).mono fun e w' ⟨y, h1, h2, h3⟩ => ⟨_, h1, h2, h3⟩) ?_
                          rintro v W' ⟨hv, hf⟩
                          exact ⟨_, rfl, hB.trans hf (fun _ h => h.elim), hf, ⟨v, rfl, hv⟩, fun _ _ _ _ _ => trivial⟩
                        · simp only [List.getElem?_cons_zero, List.getElem?_cons_succ, Option.some.injEq] at ho
                          subst ho
                          intro a W vs hB hS hE hU
                          obtain ⟨r16, e75⟩ := hE 16 75 (by kernel_rfl) (by kernel_rfl)
                          have v75 : a.eval (.tmp 75) = .bool false := e75.trans r16
                          refine wpG_yes 16 false 75 rfl (by kernel_rfl) (by rw [hS]; first | simp | exact Nat.le_of_ble_eq_true rfl) v75 ?_
                          have v2 : a.eval (.tmp 2) = .slice (some ⟨bp, off, none⟩) m cu := (hU 2 (by kernel_rfl)).trans rfl
                          clear hE hU
                          exact wp_value_inv (w' := W) (.slice (some ⟨bp, off, none⟩) m cu) (op_move rfl v2) ⟨_, rfl, hB, Fr.refl _ _, rfl, fun _ _ _ _ _ => trivial⟩
                        · simp only [List.getElem?_cons_zero, List.getElem?_cons_succ, Option.some.injEq] at ho
                          subst ho
                          intro a W vs hB hS hE hU
                          obtain ⟨r16, e75⟩ := hE 16 75 (by kernel_rfl) (by kernel_rfl)
                          have v75 : a.eval (.tmp 75) = .bool false := e75.trans r16
                          refine wpG_yes 16 false 75 rfl (by kernel_rfl) (by rw [hS]; first | simp | exact Nat.le_of_ble_eq_true rfl) v75 ?_
                          have v11 : a.eval (.tmp 11) = .int .i64 (ix : Nat) := (hU 11 (by kernel_rfl)).trans rfl
                          clear hE hU
                          exact wp_value_inv (w' := W) (.int .i64 (ix : Nat)) (op_move rfl v11) ⟨_, rfl, hB, Fr.refl _ _, rfl, fun _ _ _ _ _ => trivial⟩
                        · simp only [List.getElem?_cons_zero, List.getElem?_cons_succ, Option.some.injEq] at ho
                          subst ho
                          intro a W vs hB hS hE hU
                          obtain ⟨r16, e75⟩ := hE 16 75 (by kernel_rfl) (by kernel_rfl)
                          have v75 : a.eval (.tmp 75) = .bool false := e75.trans r16
                          refine wpG_yes 16 false 75 rfl (by kernel_rfl) (by rw [hS]; first | simp | exact Nat.le_of_ble_eq_true rfl) v75 ?_
                          obtain ⟨r20, e79⟩ := hE 20 79 (by kernel_rfl) (by kernel_rfl)
                          have v79 : a.eval (.tmp 79) = .slice (some ⟨bp, off, none⟩) m cu := e79.trans r20
                          obtain ⟨r21, e80⟩ := hE 21 80 (by kernel_rfl) (by kernel_rfl)
                          have v80 : a.eval (.tmp 80) = .int .i64 (ix : Nat) := e80.trans r21
                          clear hE hU
                          exact wp_value_inv (w' := W) (.pointer (some ⟨bp, off + ix * 21, none⟩)) (op_indexAddr rfl v79 v80 (run_index_paths W bp off m cu ix HIXX.out)) ⟨_, rfl, hB, Fr.refl _ _, rfl, fun _ _ _ _ _ => trivial⟩
                        · simp only [List.getElem?_cons_zero, List.getElem?_cons_succ, Option.some.injEq] at ho
                          subst ho
                          intro a W vs hB hS hE hU
                          obtain ⟨r16, e75⟩ := hE 16 75 (by kernel_rfl) (by kernel_rfl)
                          have v75 : a.eval (.tmp 75) = .bool false := e75.trans r16
                          refine wpG_yes 16 false 75 rfl (by kernel_rfl) (by rw [hS]; first | simp | exact Nat.le_of_ble_eq_true rfl) v75 ?_
                          obtain ⟨r22, e81⟩ := hE 22 81 (by kernel_rfl) (by kernel_rfl)
                          have v81 : a.eval (.tmp 81) = .pointer (some ⟨bp, off + ix * 21, none⟩) := e81.trans r22
                          clear hE hU
                          exact wp_value_inv (w' := W) (.agg CX) (op_loadAt rfl v81 (LDX.out W hB)) ⟨_, rfl, hB, Fr.refl _ _, rfl, fun _ _ _ _ _ => trivial⟩
                        · simp only [List.getElem?_cons_zero, List.getElem?_cons_succ, Option.some.injEq] at ho
                          subst ho
                          intro a W vs hB hS hE hU
                          obtain ⟨r16, e75⟩ := hE 16 75 (by kernel_rfl) (by kernel_rfl)
                          have v75 : a.eval (.tmp 75) = .bool false := e75.trans r16
                          refine wpG_yes 16 false 75 rfl (by kernel_rfl) (by rw [hS]; first | simp | exact Nat.le_of_ble_eq_true rfl) v75 ?_
                          obtain ⟨⟨y19, rg19, hg19⟩, e78⟩ := hE 19 78 (by kernel_rfl) (by kernel_rfl)
                          have v78 : a.eval (.tmp 78) = y19 := e78.trans rg19
                          obtain ⟨r23, e82⟩ := hE 23 82 (by kernel_rfl) (by kernel_rfl)
                          have v82 : a.eval (.tmp 82) = .agg CX := e82.trans r23
                          clear hE hU
                          refine wp_call_inv 13 #[.tmp 78, .tmp 82] #[35, 37] rfl #[y19, .agg CX] (by simp only [List.map_toArray, List.map_cons, List.map_nil, v78, v82]) (ent_spence_spencelaw10_holds _) (Post := fun v W' => v = .bool true ∧ Fr (fun _ => False) W W') ((fndHolds hg19 HCX.out).mono fun e w' h => ⟨_, h.1, rfl, h.2⟩) ?_
                          rintro v W' ⟨rfl, hf⟩
                          exact ⟨_, rfl, hB.trans hf (fun _ h => h.elim), hf, rfl, fun _ _ _ _ _ => trivial⟩
                        · simp only [List.getElem?_cons_zero, List.getElem?_cons_succ, Option.some.injEq] at ho
                          subst ho
                          intro a W vs hB hS hE hU
                          obtain ⟨r16, e75⟩ := hE 16 75 (by kernel_rfl) (by kernel_rfl)
                          have v75 : a.eval (.tmp 75) = .bool false := e75.trans r16
                          refine wpG_yes 16 false 75 rfl (by kernel_rfl) (by rw [hS]; first | simp | exact Nat.le_of_ble_eq_true rfl) v75 ?_
                          obtain ⟨r24, e83⟩ := hE 24 83 (by kernel_rfl) (by kernel_rfl)
                          have v83 : a.eval (.tmp 83) = .bool true := e83.trans r24
                          clear hE hU
                          exact wp_value_inv (w' := W) (.bool true) (op_move rfl v83) ⟨_, rfl, hB, Fr.refl _ _, rfl, fun _ _ _ _ _ => trivial⟩
                        · simp only [List.getElem?_cons_zero, List.getElem?_cons_succ, Option.some.injEq] at ho
                          subst ho
                          intro a W vs hB hS hE hU
                          obtain ⟨r25, e84⟩ := hE 25 84 (by kernel_rfl) (by kernel_rfl)
                          have v84 : a.eval (.tmp 84) = .bool true := e84.trans r25
                          refine wpG_yes 25 true 84 rfl (by kernel_rfl) (by rw [hS]; first | simp | exact Nat.le_of_ble_eq_true rfl) v84 ?_
                          have v10 : a.eval (.tmp 10) = .slice al nl cl := (hU 10 (by kernel_rfl)).trans rfl
                          clear hE hU
                          exact wp_value_inv (w' := W) (.slice al nl cl) (op_move rfl v10) ⟨_, rfl, hB, Fr.refl _ _, rfl, fun _ _ _ _ _ => trivial⟩
                        · simp only [List.getElem?_cons_zero, List.getElem?_cons_succ, Option.some.injEq] at ho
                          subst ho
                          intro a W vs hB hS hE hU
                          obtain ⟨r25, e84⟩ := hE 25 84 (by kernel_rfl) (by kernel_rfl)
                          have v84 : a.eval (.tmp 84) = .bool true := e84.trans r25
                          refine wpG_yes 25 true 84 rfl (by kernel_rfl) (by rw [hS]; first | simp | exact Nat.le_of_ble_eq_true rfl) v84 ?_
                          have v2 : a.eval (.tmp 2) = .slice (some ⟨bp, off, none⟩) m cu := (hU 2 (by kernel_rfl)).trans rfl
                          clear hE hU
                          exact wp_value_inv (w' := W) (.slice (some ⟨bp, off, none⟩) m cu) (op_move rfl v2) ⟨_, rfl, hB, Fr.refl _ _, rfl, fun _ _ _ _ _ => trivial⟩
                        · simp only [List.getElem?_cons_zero, List.getElem?_cons_succ, Option.some.injEq] at ho
                          subst ho
                          intro a W vs hB hS hE hU
                          obtain ⟨r25, e84⟩ := hE 25 84 (by kernel_rfl) (by kernel_rfl)
                          have v84 : a.eval (.tmp 84) = .bool true := e84.trans r25
                          refine wpG_yes 25 true 84 rfl (by kernel_rfl) (by rw [hS]; first | simp | exact Nat.le_of_ble_eq_true rfl) v84 ?_
                          have v11 : a.eval (.tmp 11) = .int .i64 (ix : Nat) := (hU 11 (by kernel_rfl)).trans rfl
                          clear hE hU
                          exact wp_value_inv (w' := W) (.int .i64 (ix : Nat)) (op_move rfl v11) ⟨_, rfl, hB, Fr.refl _ _, rfl, fun _ _ _ _ _ => trivial⟩
                        · simp only [List.getElem?_cons_zero, List.getElem?_cons_succ, Option.some.injEq] at ho
                          subst ho
                          intro a W vs hB hS hE hU
                          obtain ⟨r25, e84⟩ := hE 25 84 (by kernel_rfl) (by kernel_rfl)
                          have v84 : a.eval (.tmp 84) = .bool true := e84.trans r25
                          refine wpG_yes 25 true 84 rfl (by kernel_rfl) (by rw [hS]; first | simp | exact Nat.le_of_ble_eq_true rfl) v84 ?_
                          obtain ⟨r27, e86⟩ := hE 27 86 (by kernel_rfl) (by kernel_rfl)
                          have v86 : a.eval (.tmp 86) = .slice (some ⟨bp, off, none⟩) m cu := e86.trans r27
                          obtain ⟨r28, e87⟩ := hE 28 87 (by kernel_rfl) (by kernel_rfl)
                          have v87 : a.eval (.tmp 87) = .int .i64 (ix : Nat) := e87.trans r28
                          clear hE hU
                          exact wp_value_inv (w' := W) (.pointer (some ⟨bp, off + ix * 21, none⟩)) (op_indexAddr rfl v86 v87 (run_index_paths W bp off m cu ix HIXX.out)) ⟨_, rfl, hB, Fr.refl _ _, rfl, fun _ _ _ _ _ => trivial⟩
                        · simp only [List.getElem?_cons_zero, List.getElem?_cons_succ, Option.some.injEq] at ho
                          subst ho
                          intro a W vs hB hS hE hU
                          obtain ⟨r25, e84⟩ := hE 25 84 (by kernel_rfl) (by kernel_rfl)
                          have v84 : a.eval (.tmp 84) = .bool true := e84.trans r25
                          refine wpG_yes 25 true 84 rfl (by kernel_rfl) (by rw [hS]; first | simp | exact Nat.le_of_ble_eq_true rfl) v84 ?_
                          obtain ⟨r29, e88⟩ := hE 29 88 (by kernel_rfl) (by kernel_rfl)
                          have v88 : a.eval (.tmp 88) = .pointer (some ⟨bp, off + ix * 21, none⟩) := e88.trans r29
                          clear hE hU
                          exact wp_value_inv (w' := W) (.agg CX) (op_loadAt rfl v88 (LDX.out W hB)) ⟨_, rfl, hB, Fr.refl _ _, rfl, fun _ _ _ _ _ => trivial⟩
                        · simp only [List.getElem?_cons_zero, List.getElem?_cons_succ, Option.some.injEq] at ho
                          subst ho
                          intro a W vs hB hS hE hU
                          obtain ⟨r25, e84⟩ := hE 25 84 (by kernel_rfl) (by kernel_rfl)
                          have v84 : a.eval (.tmp 84) = .bool true := e84.trans r25
                          refine wpG_yes 25 true 84 rfl (by kernel_rfl) (by rw [hS]; first | simp | exact Nat.le_of_ble_eq_true rfl) v84 ?_
                          obtain ⟨r26, e85⟩ := hE 26 85 (by kernel_rfl) (by kernel_rfl)
                          have v85 : a.eval (.tmp 85) = .slice al nl cl := e85.trans r26
                          obtain ⟨r30, e89⟩ := hE 30 89 (by kernel_rfl) (by kernel_rfl)
                          have v89 : a.eval (.tmp 89) = .agg CX := e89.trans r30
                          clear hE hU
                          refine wp_call_inv 13 #[.tmp 85, .tmp 89] #[35, 37] rfl #[.slice al nl cl, .agg CX] (by simp only [List.map_toArray, List.map_cons, List.map_nil, v85, v89]) (ent_spence_spencelaw10_holds _) (Post := fun v W' => v = .bool true ∧ Fr (fun _ => False) W W') ((HHL.out W hB).mono fun e w' h => ⟨_, h.1, rfl, h.2⟩) ?_
                          rintro v W' ⟨rfl, hf⟩
                          exact ⟨_, rfl, hB.trans hf (fun _ h => h.elim), hf, rfl, fun _ _ _ _ _ => trivial⟩
                        · simp only [List.getElem?_cons_zero, List.getElem?_cons_succ, Option.some.injEq] at ho
                          subst ho
                          intro a W vs hB hS hE hU
                          obtain ⟨r25, e84⟩ := hE 25 84 (by kernel_rfl) (by kernel_rfl)
                          have v84 : a.eval (.tmp 84) = .bool true := e84.trans r25
                          refine wpG_yes 25 true 84 rfl (by kernel_rfl) (by rw [hS]; first | simp | exact Nat.le_of_ble_eq_true rfl) v84 ?_
                          obtain ⟨r31, e90⟩ := hE 31 90 (by kernel_rfl) (by kernel_rfl)
                          have v90 : a.eval (.tmp 90) = .bool true := e90.trans r31
                          clear hE hU
                          exact wp_value_inv (w' := W) (.bool false) (op_unop rfl v90 (by rfl)) ⟨_, rfl, hB, Fr.refl _ _, rfl, fun _ _ _ _ _ => trivial⟩
                        · simp only [List.getElem?_cons_zero, List.getElem?_cons_succ, Option.some.injEq] at ho
                          subst ho
                          intro a W vs hB hS hE hU
                          obtain ⟨r16, e75⟩ := hE 16 75 (by kernel_rfl) (by kernel_rfl)
                          have v75 : a.eval (.tmp 75) = .bool false := e75.trans r16
                          refine wpG_yes 16 false 75 rfl (by kernel_rfl) (by rw [hS]; first | simp | exact Nat.le_of_ble_eq_true rfl) v75 ?_
                          obtain ⟨r25, e84⟩ := hE 25 84 (by kernel_rfl) (by kernel_rfl)
                          have v84 : a.eval (.tmp 84) = .bool true := e84.trans r25
                          obtain ⟨r32, e91⟩ := hE 32 91 (by kernel_rfl) (by kernel_rfl)
                          have v91 : a.eval (.tmp 91) = .bool false := e91.trans r32
                          clear hE hU
                          exact wp_value_inv (w' := W) (.bool false) (op_pick rfl v84 (by simp only [if_true]; exact v91)) ⟨_, rfl, hB, Fr.refl _ _, rfl, fun _ _ _ _ _ => trivial⟩
                        · simp only [List.getElem?_cons_zero, List.getElem?_cons_succ, Option.some.injEq] at ho
                          subst ho
                          intro a W vs hB hS hE hU
                          refine wpG_plain rfl ?_
                          obtain ⟨r16, e75⟩ := hE 16 75 (by kernel_rfl) (by kernel_rfl)
                          have v75 : a.eval (.tmp 75) = .bool false := e75.trans r16
                          obtain ⟨r33, e92⟩ := hE 33 92 (by kernel_rfl) (by kernel_rfl)
                          have v92 : a.eval (.tmp 92) = .bool false := e92.trans r33
                          clear hE hU
                          exact wp_value_inv (w' := W) (.bool false) (op_pick rfl v75 (by simp only [Bool.false_eq_true, if_false]; exact v92)) ⟨_, rfl, hB, Fr.refl _ _, rfl, fun _ _ _ _ _ => trivial⟩
                        · simp only [List.getElem?_cons_zero, List.getElem?_cons_succ, Option.some.injEq] at ho
                          subst ho
                          intro a W vs hB hS hE hU
                          refine wpG_plain rfl ?_
                          obtain ⟨r34, e93⟩ := hE 34 93 (by kernel_rfl) (by kernel_rfl)
                          have v93 : a.eval (.tmp 93) = .bool false := e93.trans r34
                          clear hE hU
                          exact wp_value_inv (w' := W) (.bool false) (op_move rfl v93) ⟨_, rfl, hB, Fr.refl _ _, rfl, fun _ _ _ _ _ => trivial⟩
                        · simp only [List.getElem?_cons_zero, List.getElem?_cons_succ, Option.some.injEq] at ho
                          subst ho
                          intro a W vs hB hS hE hU
                          obtain ⟨r35, e94⟩ := hE 35 94 (by kernel_rfl) (by kernel_rfl)
                          have v94 : a.eval (.tmp 94) = .bool false := e94.trans r35
                          refine wpG_yes 35 false 94 rfl (by kernel_rfl) (by rw [hS]; first | simp | exact Nat.le_of_ble_eq_true rfl) v94 ?_
                          have v1 : a.eval (.tmp 1) = .slice ab nb cb := (hU 1 (by kernel_rfl)).trans rfl
                          clear hE hU
                          exact wp_value_inv (w' := W) (.slice ab nb cb) (op_move rfl v1) ⟨_, rfl, hB, Fr.refl _ _, rfl, fun _ _ _ _ _ => trivial⟩
                        · simp only [List.getElem?_cons_zero, List.getElem?_cons_succ, Option.some.injEq] at ho
                          subst ho
                          intro a W vs hB hS hE hU
                          obtain ⟨r35, e94⟩ := hE 35 94 (by kernel_rfl) (by kernel_rfl)
                          have v94 : a.eval (.tmp 94) = .bool false := e94.trans r35
                          refine wpG_yes 35 false 94 rfl (by kernel_rfl) (by rw [hS]; first | simp | exact Nat.le_of_ble_eq_true rfl) v94 ?_
                          have v2 : a.eval (.tmp 2) = .slice (some ⟨bp, off, none⟩) m cu := (hU 2 (by kernel_rfl)).trans rfl
                          clear hE hU
                          exact wp_value_inv (w' := W) (.slice (some ⟨bp, off, none⟩) m cu) (op_move rfl v2) ⟨_, rfl, hB, Fr.refl _ _, rfl, fun _ _ _ _ _ => trivial⟩
                        · simp only [List.getElem?_cons_zero, List.getElem?_cons_succ, Option.some.injEq] at ho
                          subst ho
                          intro a W vs hB hS hE hU
                          obtain ⟨r35, e94⟩ := hE 35 94 (by kernel_rfl) (by kernel_rfl)
                          have v94 : a.eval (.tmp 94) = .bool false := e94.trans r35
                          refine wpG_yes 35 false 94 rfl (by kernel_rfl) (by rw [hS]; first | simp | exact Nat.le_of_ble_eq_true rfl) v94 ?_
                          obtain ⟨r36, e95⟩ := hE 36 95 (by kernel_rfl) (by kernel_rfl)
                          have v95 : a.eval (.tmp 95) = .slice ab nb cb := e95.trans r36
                          obtain ⟨r37, e96⟩ := hE 37 96 (by kernel_rfl) (by kernel_rfl)
                          have v96 : a.eval (.tmp 96) = .slice (some ⟨bp, off, none⟩) m cu := e96.trans r37
                          clear hE hU
                          refine wp_call_inv 12 #[.tmp 95, .tmp 96] #[22, 35] rfl #[.slice ab nb cb, .slice (some ⟨bp, off, none⟩) m cu] (by simp only [List.map_toArray, List.map_cons, List.map_nil, v95, v96]) (ent_spence_refs_Found _) (Post := fun v W' => FndAt W' v x false ∧ Fr (fun _ => False) W W') ((HFB.out W hB).mono fun e w' ⟨y, h1, h2, h3⟩ => ⟨_, h1, h2, h3⟩) ?_
                          rintro v W' ⟨hv, hf⟩
                          exact ⟨_, rfl, hB.trans hf (fun _ h => h.elim), hf, ⟨v, rfl, hv⟩, fun _ _ _ _ _ => trivial⟩
                        · simp only [List.getElem?_cons_zero, List.getElem?_cons_succ, Option.some.injEq] at ho
                          subst ho
                          intro a W vs hB hS hE hU
                          obtain ⟨r35, e94⟩ := hE 35 94 (by kernel_rfl) (by kernel_rfl)
                          have v94 : a.eval (.tmp 94) = .bool false := e94.trans r35
                          refine wpG_yes 35 false 94 rfl (by kernel_rfl) (by rw [hS]; first | simp | exact Nat.le_of_ble_eq_true rfl) v94 ?_
                          have v2 : a.eval (.tmp 2) = .slice (some ⟨bp, off, none⟩) m cu := (hU 2 (by kernel_rfl)).trans rfl
                          clear hE hU
                          exact wp_value_inv (w' := W) (.slice (some ⟨bp, off, none⟩) m cu) (op_move rfl v2) ⟨_, rfl, hB, Fr.refl _ _, rfl, fun _ _ _ _ _ => trivial⟩
                        · simp only [List.getElem?_cons_zero, List.getElem?_cons_succ, Option.some.injEq] at ho
                          subst ho
                          intro a W vs hB hS hE hU
                          obtain ⟨r35, e94⟩ := hE 35 94 (by kernel_rfl) (by kernel_rfl)
                          have v94 : a.eval (.tmp 94) = .bool false := e94.trans r35
                          refine wpG_yes 35 false 94 rfl (by kernel_rfl) (by rw [hS]; first | simp | exact Nat.le_of_ble_eq_true rfl) v94 ?_
                          have v11 : a.eval (.tmp 11) = .int .i64 (ix : Nat) := (hU 11 (by kernel_rfl)).trans rfl
                          clear hE hU
                          exact wp_value_inv (w' := W) (.int .i64 (ix : Nat)) (op_move rfl v11) ⟨_, rfl, hB, Fr.refl _ _, rfl, fun _ _ _ _ _ => trivial⟩
                        · simp only [List.getElem?_cons_zero, List.getElem?_cons_succ, Option.some.injEq] at ho
                          subst ho
                          intro a W vs hB hS hE hU
                          obtain ⟨r35, e94⟩ := hE 35 94 (by kernel_rfl) (by kernel_rfl)
                          have v94 : a.eval (.tmp 94) = .bool false := e94.trans r35
                          refine wpG_yes 35 false 94 rfl (by kernel_rfl) (by rw [hS]; first | simp | exact Nat.le_of_ble_eq_true rfl) v94 ?_
                          obtain ⟨r39, e98⟩ := hE 39 98 (by kernel_rfl) (by kernel_rfl)
                          have v98 : a.eval (.tmp 98) = .slice (some ⟨bp, off, none⟩) m cu := e98.trans r39
                          obtain ⟨r40, e99⟩ := hE 40 99 (by kernel_rfl) (by kernel_rfl)
                          have v99 : a.eval (.tmp 99) = .int .i64 (ix : Nat) := e99.trans r40
                          clear hE hU
                          exact wp_value_inv (w' := W) (.pointer (some ⟨bp, off + ix * 21, none⟩)) (op_indexAddr rfl v98 v99 (run_index_paths W bp off m cu ix HIXX.out)) ⟨_, rfl, hB, Fr.refl _ _, rfl, fun _ _ _ _ _ => trivial⟩
                        · simp only [List.getElem?_cons_zero, List.getElem?_cons_succ, Option.some.injEq] at ho
                          subst ho
                          intro a W vs hB hS hE hU
                          obtain ⟨r35, e94⟩ := hE 35 94 (by kernel_rfl) (by kernel_rfl)
                          have v94 : a.eval (.tmp 94) = .bool false := e94.trans r35
                          refine wpG_yes 35 false 94 rfl (by kernel_rfl) (by rw [hS]; first | simp | exact Nat.le_of_ble_eq_true rfl) v94 ?_
                          obtain ⟨r41, e100⟩ := hE 41 100 (by kernel_rfl) (by kernel_rfl)
                          have v100 : a.eval (.tmp 100) = .pointer (some ⟨bp, off + ix * 21, none⟩) := e100.trans r41
                          clear hE hU
                          exact wp_value_inv (w' := W) (.agg CX) (op_loadAt rfl v100 (LDX.out W hB)) ⟨_, rfl, hB, Fr.refl _ _, rfl, fun _ _ _ _ _ => trivial⟩
                        · simp only [List.getElem?_cons_zero, List.getElem?_cons_succ, Option.some.injEq] at ho
                          subst ho
                          intro a W vs hB hS hE hU
                          obtain ⟨r35, e94⟩ := hE 35 94 (by kernel_rfl) (by kernel_rfl)
                          have v94 : a.eval (.tmp 94) = .bool false := e94.trans r35
                          refine wpG_yes 35 false 94 rfl (by kernel_rfl) (by rw [hS]; first | simp | exact Nat.le_of_ble_eq_true rfl) v94 ?_
                          obtain ⟨⟨y38, rg38, hg38⟩, e97⟩ := hE 38 97 (by kernel_rfl) (by kernel_rfl)
                          have v97 : a.eval (.tmp 97) = y38 := e97.trans rg38
                          obtain ⟨r42, e101⟩ := hE 42 101 (by kernel_rfl) (by kernel_rfl)
                          have v101 : a.eval (.tmp 101) = .agg CX := e101.trans r42
                          clear hE hU
                          refine wp_call_inv 13 #[.tmp 97, .tmp 101] #[35, 37] rfl #[y38, .agg CX] (by simp only [List.map_toArray, List.map_cons, List.map_nil, v97, v101]) (ent_spence_spencelaw10_holds _) (Post := fun v W' => v = .bool false ∧ Fr (fun _ => False) W W') ((fndHolds hg38 HCX.out).mono fun e w' h => ⟨_, h.1, rfl, h.2⟩) ?_
                          rintro v W' ⟨rfl, hf⟩
                          exact ⟨_, rfl, hB.trans hf (fun _ h => h.elim), hf, rfl, fun _ _ _ _ _ => trivial⟩
                        · simp only [List.getElem?_cons_zero, List.getElem?_cons_succ, Option.some.injEq] at ho
                          subst ho
                          intro a W vs hB hS hE hU
                          obtain ⟨r35, e94⟩ := hE 35 94 (by kernel_rfl) (by kernel_rfl)
                          have v94 : a.eval (.tmp 94) = .bool false := e94.trans r35
                          refine wpG_yes 35 false 94 rfl (by kernel_rfl) (by rw [hS]; first | simp | exact Nat.le_of_ble_eq_true rfl) v94 ?_
                          obtain ⟨r43, e102⟩ := hE 43 102 (by kernel_rfl) (by kernel_rfl)
                          have v102 : a.eval (.tmp 102) = .bool false := e102.trans r43
                          clear hE hU
                          exact wp_value_inv (w' := W) (.bool false) (op_move rfl v102) ⟨_, rfl, hB, Fr.refl _ _, rfl, fun _ _ _ _ _ => trivial⟩
                        · simp only [List.getElem?_cons_zero, List.getElem?_cons_succ, Option.some.injEq] at ho
                          subst ho
                          intro a W vs hB hS hE hU
                          obtain ⟨r44, e103⟩ := hE 44 103 (by kernel_rfl) (by kernel_rfl)
                          have v103 : a.eval (.tmp 103) = .bool false := e103.trans r44
                          exact wpG_no 44 true 103 rfl (by kernel_rfl) (by rw [hS]; first | simp | exact Nat.le_of_ble_eq_true rfl) v103 ⟨_, rfl, hB, Fr.refl _ _, rfl, fun _ _ _ _ _ => trivial⟩
                        · simp only [List.getElem?_cons_zero, List.getElem?_cons_succ, Option.some.injEq] at ho
                          subst ho
                          intro a W vs hB hS hE hU
                          obtain ⟨r44, e103⟩ := hE 44 103 (by kernel_rfl) (by kernel_rfl)
                          have v103 : a.eval (.tmp 103) = .bool false := e103.trans r44
                          exact wpG_no 44 true 103 rfl (by kernel_rfl) (by rw [hS]; first | simp | exact Nat.le_of_ble_eq_true rfl) v103 ⟨_, rfl, hB, Fr.refl _ _, rfl, fun _ _ _ _ _ => trivial⟩
                        · simp only [List.getElem?_cons_zero, List.getElem?_cons_succ, Option.some.injEq] at ho
                          subst ho
                          intro a W vs hB hS hE hU
                          obtain ⟨r44, e103⟩ := hE 44 103 (by kernel_rfl) (by kernel_rfl)
                          have v103 : a.eval (.tmp 103) = .bool false := e103.trans r44
                          exact wpG_no 44 true 103 rfl (by kernel_rfl) (by rw [hS]; first | simp | exact Nat.le_of_ble_eq_true rfl) v103 ⟨_, rfl, hB, Fr.refl _ _, rfl, fun _ _ _ _ _ => trivial⟩
                        · simp only [List.getElem?_cons_zero, List.getElem?_cons_succ, Option.some.injEq] at ho
                          subst ho
                          intro a W vs hB hS hE hU
                          obtain ⟨r44, e103⟩ := hE 44 103 (by kernel_rfl) (by kernel_rfl)
                          have v103 : a.eval (.tmp 103) = .bool false := e103.trans r44
                          exact wpG_no 44 true 103 rfl (by kernel_rfl) (by rw [hS]; first | simp | exact Nat.le_of_ble_eq_true rfl) v103 ⟨_, rfl, hB, Fr.refl _ _, rfl, fun _ _ _ _ _ => trivial⟩
                        · simp only [List.getElem?_cons_zero, List.getElem?_cons_succ, Option.some.injEq] at ho
                          subst ho
                          intro a W vs hB hS hE hU
                          obtain ⟨r44, e103⟩ := hE 44 103 (by kernel_rfl) (by kernel_rfl)
                          have v103 : a.eval (.tmp 103) = .bool false := e103.trans r44
                          exact wpG_no 44 true 103 rfl (by kernel_rfl) (by rw [hS]; first | simp | exact Nat.le_of_ble_eq_true rfl) v103 ⟨_, rfl, hB, Fr.refl _ _, rfl, fun _ _ _ _ _ => trivial⟩
                        · simp only [List.getElem?_cons_zero, List.getElem?_cons_succ, Option.some.injEq] at ho
                          subst ho
                          intro a W vs hB hS hE hU
                          obtain ⟨r44, e103⟩ := hE 44 103 (by kernel_rfl) (by kernel_rfl)
                          have v103 : a.eval (.tmp 103) = .bool false := e103.trans r44
                          exact wpG_no 44 true 103 rfl (by kernel_rfl) (by rw [hS]; first | simp | exact Nat.le_of_ble_eq_true rfl) v103 ⟨_, rfl, hB, Fr.refl _ _, rfl, fun _ _ _ _ _ => trivial⟩
                        · simp only [List.getElem?_cons_zero, List.getElem?_cons_succ, Option.some.injEq] at ho
                          subst ho
                          intro a W vs hB hS hE hU
                          obtain ⟨r44, e103⟩ := hE 44 103 (by kernel_rfl) (by kernel_rfl)
                          have v103 : a.eval (.tmp 103) = .bool false := e103.trans r44
                          exact wpG_no 44 true 103 rfl (by kernel_rfl) (by rw [hS]; first | simp | exact Nat.le_of_ble_eq_true rfl) v103 ⟨_, rfl, hB, Fr.refl _ _, rfl, fun _ _ _ _ _ => trivial⟩
                        · simp only [List.getElem?_cons_zero, List.getElem?_cons_succ, Option.some.injEq] at ho
                          subst ho
                          intro a W vs hB hS hE hU
                          obtain ⟨r35, e94⟩ := hE 35 94 (by kernel_rfl) (by kernel_rfl)
                          have v94 : a.eval (.tmp 94) = .bool false := e94.trans r35
                          refine wpG_yes 35 false 94 rfl (by kernel_rfl) (by rw [hS]; first | simp | exact Nat.le_of_ble_eq_true rfl) v94 ?_
                          obtain ⟨r44, e103⟩ := hE 44 103 (by kernel_rfl) (by kernel_rfl)
                          have v103 : a.eval (.tmp 103) = .bool false := e103.trans r44
                          clear hE hU
                          exact wp_value_inv (w' := W) (.bool false) (op_pick rfl v103 (by simp only [Bool.false_eq_true, if_false]; rfl)) ⟨_, rfl, hB, Fr.refl _ _, rfl, fun _ _ _ _ _ => trivial⟩
                      · intro vs Wa hB0 hR0 hD
                        have r94 : vs 35 = .bool false := hR0 35 (by decide)
                        have r111 : vs 52 = .bool false := hR0 52 (by decide)
                        have HB := Lib.hid hB0
                        clear hR0 hD hB0
                        simp only [acts, if_true, dstAt, List.getElem?_cons_zero, List.getElem?_cons_succ, Option.bind_some, Act.put, List.setIfInBounds_toArray, List.set_cons_succ, List.set_cons_zero, List.drop_succ_cons]
                        simp only [r94, r111]
                        clear r94 r111
                        go_wp2_with fail
                        go_roundw
                        case rel => exact ⟨ix + 1, by omega, by go_num, Lib.hid (hR.out.trans HB.out (fun _ h => h.elim))⟩
                        case measure => simp [intOf]; omega
                  | false =>
                    cases hb with
                    | true =>
                      obtain rfl : hh = true := hhb2 rfl
                      clear hha2 hhb2
                      go_wp2_with fail
                      refine wp_region_inv 53 (by kernel_rfl) (by kernel_rfl) (fun W => Fr (fun _ => False) wr W) (FnR01 aa ab ac al na ca nb cb nc cc nl cl bp off m cu ix mp CX CH x) (fun _ _ _ _ => True) (Fr (fun _ => False)) (FnR01.ext aa ab ac al na ca nb cb nc cc nl cl bp off m cu ix mp CX CH x) (Fr.refl _ _).drew ?_ ?_
                      · intro i hi o ho
                        replace hi : i < 53 := hi
                        obtain rfl | rfl | rfl | rfl | rfl | rfl | rfl | rfl | rfl | rfl | rfl | rfl | rfl | rfl | rfl | rfl | rfl | rfl | rfl | rfl | rfl | rfl | rfl | rfl | rfl | rfl | rfl | rfl | rfl | rfl | rfl | rfl | rfl | rfl | rfl | rfl | rfl | rfl | rfl | rfl | rfl | rfl | rfl | rfl | rfl | rfl | rfl | rfl | rfl | rfl | rfl | rfl | rfl : i = 0 ∨ i = 1 ∨ i = 2 ∨ i = 3 ∨ i = 4 ∨ i = 5 ∨ i = 6 ∨ i = 7 ∨ i = 8 ∨ i = 9 ∨ i = 10 ∨ i = 11 ∨ i = 12 ∨ i = 13 ∨ i = 14 ∨ i = 15 ∨ i = 16 ∨ i = 17 ∨ i = 18 ∨ i = 19 ∨ i = 20 ∨ i = 21 ∨ i = 22 ∨ i = 23 ∨ i = 24 ∨ i = 25 ∨ i = 26 ∨ i = 27 ∨ i = 28 ∨ i = 29 ∨ i = 30 ∨ i = 31 ∨ i = 32 ∨ i = 33 ∨ i = 34 ∨ i = 35 ∨ i = 36 ∨ i = 37 ∨ i = 38 ∨ i = 39 ∨ i = 40 ∨ i = 41 ∨ i = 42 ∨ i = 43 ∨ i = 44 ∨ i = 45 ∨ i = 46 ∨ i = 47 ∨ i = 48 ∨ i = 49 ∨ i = 50 ∨ i = 51 ∨ i = 52 := by omega
                        · simp only [List.getElem?_cons_zero, Option.some.injEq] at ho
                          subst ho
                          intro a W vs hB hS hE hU
                          refine wpG_plain rfl ?_
                          have v10 : a.eval (.tmp 10) = .slice al nl cl := (hU 10 (by kernel_rfl)).trans rfl
                          clear hE hU
                          exact wp_value_inv (w' := W) (.slice al nl cl) (op_move rfl v10) ⟨_, rfl, hB, Fr.refl _ _, rfl, fun _ _ _ _ _ => trivial⟩
                        · simp only [List.getElem?_cons_zero, List.getElem?_cons_succ, Option.some.injEq] at ho
                          subst ho
                          intro a W vs hB hS hE hU
                          refine wpG_plain rfl ?_
                          have v2 : a.eval (.tmp 2) = .slice (some ⟨bp, off, none⟩) m cu := (hU 2 (by kernel_rfl)).trans rfl
                          clear hE hU
                          exact wp_value_inv (w' := W) (.slice (some ⟨bp, off, none⟩) m cu) (op_move rfl v2) ⟨_, rfl, hB, Fr.refl _ _, rfl, fun _ _ _ _ _ => trivial⟩
                        · simp only [List.getElem?_cons_zero, List.getElem?_cons_succ, Option.some.injEq] at ho
                          subst ho
                          intro a W vs hB hS hE hU
                          refine wpG_plain rfl ?_
                          have v11 : a.eval (.tmp 11) = .int .i64 (ix : Nat) := (hU 11 (by kernel_rfl)).trans rfl
                          clear hE hU
                          exact wp_value_inv (w' := W) (.int .i64 (ix : Nat)) (op_move rfl v11) ⟨_, rfl, hB, Fr.refl _ _, rfl, fun _ _ _ _ _ => trivial⟩
                        · simp only [List.getElem?_cons_zero, List.getElem?_cons_succ, Option.some.injEq] at ho
                          subst ho
                          intro a W vs hB hS hE hU
                          refine wpG_plain rfl ?_
                          obtain ⟨r1, e60⟩ := hE 1 60 (by kernel_rfl) (by kernel_rfl)
                          have v60 : a.eval (.tmp 60) = .slice (some ⟨bp, off, none⟩) m cu := e60.trans r1
                          obtain ⟨r2, e61⟩ := hE 2 61 (by kernel_rfl) (by kernel_rfl)
                          have v61 : a.eval (.tmp 61) = .int .i64 (ix : Nat) := e61.trans r2
                          clear hE hU
                          exact wp_value_inv (w' := W) (.pointer (some ⟨bp, off + ix * 21, none⟩)) (op_indexAddr rfl v60 v61 (run_index_paths W bp off m cu ix HIXX.out)) ⟨_, rfl, hB, Fr.refl _ _, rfl, fun _ _ _ _ _ => trivial⟩
                        · simp only [List.getElem?_cons_zero, List.getElem?_cons_succ, Option.some.injEq] at ho
                          subst ho
                          intro a W vs hB hS hE hU
                          refine wpG_plain rfl ?_
                          obtain ⟨r3, e62⟩ := hE 3 62 (by kernel_rfl) (by kernel_rfl)
                          have v62 : a.eval (.tmp 62) = .pointer (some ⟨bp, off + ix * 21, none⟩) := e62.trans r3
                          clear hE hU
                          exact wp_value_inv (w' := W) (.agg CX) (op_loadAt rfl v62 (LDX.out W hB)) ⟨_, rfl, hB, Fr.refl _ _, rfl, fun _ _ _ _ _ => trivial⟩
                        · simp only [List.getElem?_cons_zero, List.getElem?_cons_succ, Option.some.injEq] at ho
                          subst ho
                          intro a W vs hB hS hE hU
                          refine wpG_plain rfl ?_
                          obtain ⟨r0, e59⟩ := hE 0 59 (by kernel_rfl) (by kernel_rfl)
                          have v59 : a.eval (.tmp 59) = .slice al nl cl := e59.trans r0
                          obtain ⟨r4, e63⟩ := hE 4 63 (by kernel_rfl) (by kernel_rfl)
                          have v63 : a.eval (.tmp 63) = .agg CX := e63.trans r4
                          clear hE hU
                          refine wp_call_inv 13 #[.tmp 59, .tmp 63] #[35, 37] rfl #[.slice al nl cl, .agg CX] (by simp only [List.map_toArray, List.map_cons, List.map_nil, v59, v63]) (ent_spence_spencelaw10_holds _) (Post := fun v W' => v = .bool true ∧ Fr (fun _ => False) W W') ((HHL.out W hB).mono fun e w' h => ⟨_, h.1, rfl, h.2⟩) ?_
                          rintro v W' ⟨rfl, hf⟩
                          exact ⟨_, rfl, hB.trans hf (fun _ h => h.elim), hf, rfl, fun _ _ _ _ _ => trivial⟩
                        · simp only [List.getElem?_cons_zero, List.getElem?_cons_succ, Option.some.injEq] at ho
                          subst ho
                          intro a W vs hB hS hE hU
                          refine wpG_plain rfl ?_
                          have v9 : a.eval (.tmp 9) = .slice ac nc cc := (hU 9 (by kernel_rfl)).trans rfl
                          clear hE hU
                          exact wp_value_inv (w' := W) (.slice ac nc cc) (op_move rfl v9) ⟨_, rfl, hB, Fr.refl _ _, rfl, fun _ _ _ _ _ => trivial⟩
                        · simp only [List.getElem?_cons_zero, List.getElem?_cons_succ, Option.some.injEq] at ho
                          subst ho
                          intro a W vs hB hS hE hU
                          refine wpG_plain rfl ?_
                          have v2 : a.eval (.tmp 2) = .slice (some ⟨bp, off, none⟩) m cu := (hU 2 (by kernel_rfl)).trans rfl
                          clear hE hU
                          exact wp_value_inv (w' := W) (.slice (some ⟨bp, off, none⟩) m cu) (op_move rfl v2) ⟨_, rfl, hB, Fr.refl _ _, rfl, fun _ _ _ _ _ => trivial⟩
                        · simp only [List.getElem?_cons_zero, List.getElem?_cons_succ, Option.some.injEq] at ho
                          subst ho
                          intro a W vs hB hS hE hU
                          refine wpG_plain rfl ?_
                          have v11 : a.eval (.tmp 11) = .int .i64 (ix : Nat) := (hU 11 (by kernel_rfl)).trans rfl
                          clear hE hU
                          exact wp_value_inv (w' := W) (.int .i64 (ix : Nat)) (op_move rfl v11) ⟨_, rfl, hB, Fr.refl _ _, rfl, fun _ _ _ _ _ => trivial⟩
                        · simp only [List.getElem?_cons_zero, List.getElem?_cons_succ, Option.some.injEq] at ho
                          subst ho
                          intro a W vs hB hS hE hU
                          refine wpG_plain rfl ?_
                          obtain ⟨r7, e66⟩ := hE 7 66 (by kernel_rfl) (by kernel_rfl)
                          have v66 : a.eval (.tmp 66) = .slice (some ⟨bp, off, none⟩) m cu := e66.trans r7
                          obtain ⟨r8, e67⟩ := hE 8 67 (by kernel_rfl) (by kernel_rfl)
                          have v67 : a.eval (.tmp 67) = .int .i64 (ix : Nat) := e67.trans r8
                          clear hE hU
                          exact wp_value_inv (w' := W) (.pointer (some ⟨bp, off + ix * 21, none⟩)) (op_indexAddr rfl v66 v67 (run_index_paths W bp off m cu ix HIXX.out)) ⟨_, rfl, hB, Fr.refl _ _, rfl, fun _ _ _ _ _ => trivial⟩
                        · simp only [List.getElem?_cons_zero, List.getElem?_cons_succ, Option.some.injEq] at ho
                          subst ho
                          intro a W vs hB hS hE hU
                          refine wpG_plain rfl ?_
                          obtain ⟨r9, e68⟩ := hE 9 68 (by kernel_rfl) (by kernel_rfl)
                          have v68 : a.eval (.tmp 68) = .pointer (some ⟨bp, off + ix * 21, none⟩) := e68.trans r9
                          clear hE hU
                          exact wp_value_inv (w' := W) (.pointer (some ⟨bp, off + ix * 21, none⟩)) (op_fieldAddr rfl v68 (fld_path0 W bp (off + ix * 21))) ⟨_, rfl, hB, Fr.refl _ _, rfl, fun _ _ _ _ _ => trivial⟩
                        · simp only [List.getElem?_cons_zero, List.getElem?_cons_succ, Option.some.injEq] at ho
                          subst ho
                          intro a W vs hB hS hE hU
                          refine wpG_plain rfl ?_
                          obtain ⟨r10, e69⟩ := hE 10 69 (by kernel_rfl) (by kernel_rfl)
                          have v69 : a.eval (.tmp 69) = .pointer (some ⟨bp, off + ix * 21, none⟩) := e69.trans r10
                          clear hE hU
                          exact wp_value_inv (w' := W) (.agg CH) (op_loadAt rfl v69 (LDH.out W hB)) ⟨_, rfl, hB, Fr.refl _ _, rfl, fun _ _ _ _ _ => trivial⟩
                        · simp only [List.getElem?_cons_zero, List.getElem?_cons_succ, Option.some.injEq] at ho
                          subst ho
                          intro a W vs hB hS hE hU
                          refine wpG_plain rfl ?_
                          obtain ⟨r6, e65⟩ := hE 6 65 (by kernel_rfl) (by kernel_rfl)
                          have v65 : a.eval (.tmp 65) = .slice ac nc cc := e65.trans r6
                          obtain ⟨r11, e70⟩ := hE 11 70 (by kernel_rfl) (by kernel_rfl)
                          have v70 : a.eval (.tmp 70) = .agg CH := e70.trans r11
                          clear hE hU
                          refine wp_call_inv 6 #[.tmp 65, .tmp 70] #[22, 24] rfl #[.slice ac nc cc, .agg CH] (by simp only [List.map_toArray, List.map_cons, List.map_nil, v65, v70]) (ent_spence_refs_Places _) (Post := fun v W' => (∃ a c, v = .slice a mp c) ∧ Fr (fun _ => False) W W') ((HPL.out W hB).mono fun e w' ⟨u, h1, h2, h3⟩ => ⟨_, h1, h2, h3⟩) ?_
                          rintro v W' ⟨hv, hf⟩
                          exact ⟨_, rfl, hB.trans hf (fun _ h => h.elim), hf, hv, fun _ _ _ _ _ => trivial⟩
                        · simp only [List.getElem?_cons_zero, List.getElem?_cons_succ, Option.some.injEq] at ho
                          subst ho
                          intro a W vs hB hS hE hU
                          refine wpG_plain rfl ?_
                          obtain ⟨⟨a12, c12, rg12⟩, e71⟩ := hE 12 71 (by kernel_rfl) (by kernel_rfl)
                          have v71 : a.eval (.tmp 71) = .slice a12 mp c12 := e71.trans rg12
                          clear hE hU
                          exact wp_value_inv (w' := W) (.int .i64 (mp : Nat)) (op_lenI rfl v71) ⟨_, rfl, hB, Fr.refl _ _, rfl, fun _ _ _ _ _ => trivial⟩
                        · simp only [List.getElem?_cons_zero, List.getElem?_cons_succ, Option.some.injEq] at ho
                          subst ho
                          intro a W vs hB hS hE hU
                          refine wpG_plain rfl ?_
                          obtain ⟨r13, e72⟩ := hE 13 72 (by kernel_rfl) (by kernel_rfl)
                          have v72 : a.eval (.tmp 72) = .int .i64 (mp : Nat) := e72.trans r13
                          clear hE hU
                          exact wp_value_inv (w' := W) (.bool true) (op_bin rfl v72 rfl (rfl) (HGG.out W)) ⟨_, rfl, hB, Fr.refl _ _, rfl, fun _ _ _ _ _ => trivial⟩
                        · simp only [List.getElem?_cons_zero, List.getElem?_cons_succ, Option.some.injEq] at ho
                          subst ho
                          intro a W vs hB hS hE hU
                          refine wpG_plain rfl ?_
                          obtain ⟨r5, e64⟩ := hE 5 64 (by kernel_rfl) (by kernel_rfl)
                          have v64 : a.eval (.tmp 64) = .bool true := e64.trans r5
                          obtain ⟨r14, e73⟩ := hE 14 73 (by kernel_rfl) (by kernel_rfl)
                          have v73 : a.eval (.tmp 73) = .bool true := e73.trans r14
                          clear hE hU
                          exact wp_value_inv (w' := W) (.bool false) (op_bin rfl v64 v73 (guard_bool W _ _ _ _ _ _) (neq_bool10 W true)) ⟨_, rfl, hB, Fr.refl _ _, rfl, fun _ _ _ _ _ => trivial⟩
                        · simp only [List.getElem?_cons_zero, List.getElem?_cons_succ, Option.some.injEq] at ho
                          subst ho
                          intro a W vs hB hS hE hU
                          refine wpG_plain rfl ?_
                          obtain ⟨r15, e74⟩ := hE 15 74 (by kernel_rfl) (by kernel_rfl)
                          have v74 : a.eval (.tmp 74) = .bool false := e74.trans r15
                          clear hE hU
                          exact wp_value_inv (w' := W) (.bool false) (op_move rfl v74) ⟨_, rfl, hB, Fr.refl _ _, rfl, fun _ _ _ _ _ => trivial⟩
                        · simp only [List.getElem?_cons_zero, List.getElem?_cons_succ, Option.some.injEq] at ho
                          subst ho
                          intro a W vs hB hS hE hU
                          obtain ⟨r16, e75⟩ := hE 16 75 (by kernel_rfl) (by kernel_rfl)
                          have v75 : a.eval (.tmp 75) = .bool false := e75.trans r16
                          refine wpG_yes 16 false 75 rfl (by kernel_rfl) (by rw [hS]; first | simp | exact Nat.le_of_ble_eq_true rfl) v75 ?_
                          have v0 : a.eval (.tmp 0) = .slice aa na ca := (hU 0 (by kernel_rfl)).trans rfl
                          clear hE hU
                          exact wp_value_inv (w' := W) (.slice aa na ca) (op_move rfl v0) ⟨_, rfl, hB, Fr.refl _ _, rfl, fun _ _ _ _ _ => trivial⟩
                        · simp only [List.getElem?_cons_zero, List.getElem?_cons_succ, Option.some.injEq] at ho
                          subst ho
                          intro a W vs hB hS hE hU
                          obtain ⟨r16, e75⟩ := hE 16 75 (by kernel_rfl) (by kernel_rfl)
                          have v75 : a.eval (.tmp 75) = .bool false := e75.trans r16
                          refine wpG_yes 16 false 75 rfl (by kernel_rfl) (by rw [hS]; first | simp | exact Nat.le_of_ble_eq_true rfl) v75 ?_
                          have v2 : a.eval (.tmp 2) = .slice (some ⟨bp, off, none⟩) m cu := (hU 2 (by kernel_rfl)).trans rfl
                          clear hE hU
                          exact wp_value_inv (w' := W) (.slice (some ⟨bp, off, none⟩) m cu) (op_move rfl v2) ⟨_, rfl, hB, Fr.refl _ _, rfl, fun _ _ _ _ _ => trivial⟩
                        · simp only [List.getElem?_cons_zero, List.getElem?_cons_succ, Option.some.injEq] at ho
                          subst ho
                          intro a W vs hB hS hE hU
                          obtain ⟨r16, e75⟩ := hE 16 75 (by kernel_rfl) (by kernel_rfl)
                          have v75 : a.eval (.tmp 75) = .bool false := e75.trans r16
                          refine wpG_yes 16 false 75 rfl (by kernel_rfl) (by rw [hS]; first | simp | exact Nat.le_of_ble_eq_true rfl) v75 ?_
                          obtain ⟨r17, e76⟩ := hE 17 76 (by kernel_rfl) (by kernel_rfl)
                          have v76 : a.eval (.tmp 76) = .slice aa na ca := e76.trans r17
                          obtain ⟨r18, e77⟩ := hE 18 77 (by kernel_rfl) (by kernel_rfl)
                          have v77 : a.eval (.tmp 77) = .slice (some ⟨bp, off, none⟩) m cu := e77.trans r18
                          clear hE hU
                          refine wp_call_inv 12 #[.tmp 76, .tmp 77] #[22, 35] rfl #[.slice aa na ca, .slice (some ⟨bp, off, none⟩) m cu] (by simp only [List.map_toArray, List.map_cons, List.map_nil, v76, v77]) (ent_spence_refs_Found _) (Post := fun v W' => FndAt W' v x false ∧ Fr (fun _ => False) W W') ((HFA.out W hB).mono fun e w' ⟨y, h1, h2, h3⟩ => ⟨_, h1, h2, h3⟩) ?_
                          rintro v W' ⟨hv, hf⟩
                          exact ⟨_, rfl, hB.trans hf (fun _ h => h.elim), hf, ⟨v, rfl, hv⟩, fun _ _ _ _ _ => trivial⟩
                        · simp only [List.getElem?_cons_zero, List.getElem?_cons_succ, Option.some.injEq] at ho
                          subst ho
                          intro a W vs hB hS hE hU
                          obtain ⟨r16, e75⟩ := hE 16 75 (by kernel_rfl) (by kernel_rfl)
                          have v75 : a.eval (.tmp 75) = .bool false := e75.trans r16
                          refine wpG_yes 16 false 75 rfl (by kernel_rfl) (by rw [hS]; first | simp | exact Nat.le_of_ble_eq_true rfl) v75 ?_
                          have v2 : a.eval (.tmp 2) = .slice (some ⟨bp, off, none⟩) m cu := (hU 2 (by kernel_rfl)).trans rfl
                          clear hE hU
                          exact wp_value_inv (w' := W) (.slice (some ⟨bp, off, none⟩) m cu) (op_move rfl v2) ⟨_, rfl, hB, Fr.refl _ _, rfl, fun _ _ _ _ _ => trivial⟩
                        · simp only [List.getElem?_cons_zero, List.getElem?_cons_succ, Option.some.injEq] at ho
                          subst ho
                          intro a W vs hB hS hE hU
                          obtain ⟨r16, e75⟩ := hE 16 75 (by kernel_rfl) (by kernel_rfl)
                          have v75 : a.eval (.tmp 75) = .bool false := e75.trans r16
                          refine wpG_yes 16 false 75 rfl (by kernel_rfl) (by rw [hS]; first | simp | exact Nat.le_of_ble_eq_true rfl) v75 ?_
                          have v11 : a.eval (.tmp 11) = .int .i64 (ix : Nat) := (hU 11 (by kernel_rfl)).trans rfl
                          clear hE hU
                          exact wp_value_inv (w' := W) (.int .i64 (ix : Nat)) (op_move rfl v11) ⟨_, rfl, hB, Fr.refl _ _, rfl, fun _ _ _ _ _ => trivial⟩
                        · simp only [List.getElem?_cons_zero, List.getElem?_cons_succ, Option.some.injEq] at ho
                          subst ho
                          intro a W vs hB hS hE hU
                          obtain ⟨r16, e75⟩ := hE 16 75 (by kernel_rfl) (by kernel_rfl)
                          have v75 : a.eval (.tmp 75) = .bool false := e75.trans r16
                          refine wpG_yes 16 false 75 rfl (by kernel_rfl) (by rw [hS]; first | simp | exact Nat.le_of_ble_eq_true rfl) v75 ?_
                          obtain ⟨r20, e79⟩ := hE 20 79 (by kernel_rfl) (by kernel_rfl)
                          have v79 : a.eval (.tmp 79) = .slice (some ⟨bp, off, none⟩) m cu := e79.trans r20
                          obtain ⟨r21, e80⟩ := hE 21 80 (by kernel_rfl) (by kernel_rfl)
                          have v80 : a.eval (.tmp 80) = .int .i64 (ix : Nat) := e80.trans r21
                          clear hE hU
                          exact wp_value_inv (w' := W) (.pointer (some ⟨bp, off + ix * 21, none⟩)) (op_indexAddr rfl v79 v80 (run_index_paths W bp off m cu ix HIXX.out)) ⟨_, rfl, hB, Fr.refl _ _, rfl, fun _ _ _ _ _ => trivial⟩
                        · simp only [List.getElem?_cons_zero, List.getElem?_cons_succ, Option.some.injEq] at ho
                          subst ho
                          intro a W vs hB hS hE hU
                          obtain ⟨r16, e75⟩ := hE 16 75 (by kernel_rfl) (by kernel_rfl)
                          have v75 : a.eval (.tmp 75) = .bool false := e75.trans r16
                          refine wpG_yes 16 false 75 rfl (by kernel_rfl) (by rw [hS]; first | simp | exact Nat.le_of_ble_eq_true rfl) v75 ?_
                          obtain ⟨r22, e81⟩ := hE 22 81 (by kernel_rfl) (by kernel_rfl)
                          have v81 : a.eval (.tmp 81) = .pointer (some ⟨bp, off + ix * 21, none⟩) := e81.trans r22
                          clear hE hU
                          exact wp_value_inv (w' := W) (.agg CX) (op_loadAt rfl v81 (LDX.out W hB)) ⟨_, rfl, hB, Fr.refl _ _, rfl, fun _ _ _ _ _ => trivial⟩
                        · simp only [List.getElem?_cons_zero, List.getElem?_cons_succ, Option.some.injEq] at ho
                          subst ho
                          intro a W vs hB hS hE hU
                          obtain ⟨r16, e75⟩ := hE 16 75 (by kernel_rfl) (by kernel_rfl)
                          have v75 : a.eval (.tmp 75) = .bool false := e75.trans r16
                          refine wpG_yes 16 false 75 rfl (by kernel_rfl) (by rw [hS]; first | simp | exact Nat.le_of_ble_eq_true rfl) v75 ?_
                          obtain ⟨⟨y19, rg19, hg19⟩, e78⟩ := hE 19 78 (by kernel_rfl) (by kernel_rfl)
                          have v78 : a.eval (.tmp 78) = y19 := e78.trans rg19
                          obtain ⟨r23, e82⟩ := hE 23 82 (by kernel_rfl) (by kernel_rfl)
                          have v82 : a.eval (.tmp 82) = .agg CX := e82.trans r23
                          clear hE hU
                          refine wp_call_inv 13 #[.tmp 78, .tmp 82] #[35, 37] rfl #[y19, .agg CX] (by simp only [List.map_toArray, List.map_cons, List.map_nil, v78, v82]) (ent_spence_spencelaw10_holds _) (Post := fun v W' => v = .bool false ∧ Fr (fun _ => False) W W') ((fndHolds hg19 HCX.out).mono fun e w' h => ⟨_, h.1, rfl, h.2⟩) ?_
                          rintro v W' ⟨rfl, hf⟩
                          exact ⟨_, rfl, hB.trans hf (fun _ h => h.elim), hf, rfl, fun _ _ _ _ _ => trivial⟩
                        · simp only [List.getElem?_cons_zero, List.getElem?_cons_succ, Option.some.injEq] at ho
                          subst ho
                          intro a W vs hB hS hE hU
                          obtain ⟨r16, e75⟩ := hE 16 75 (by kernel_rfl) (by kernel_rfl)
                          have v75 : a.eval (.tmp 75) = .bool false := e75.trans r16
                          refine wpG_yes 16 false 75 rfl (by kernel_rfl) (by rw [hS]; first | simp | exact Nat.le_of_ble_eq_true rfl) v75 ?_
                          obtain ⟨r24, e83⟩ := hE 24 83 (by kernel_rfl) (by kernel_rfl)
                          have v83 : a.eval (.tmp 83) = .bool false := e83.trans r24
                          clear hE hU
                          exact wp_value_inv (w' := W) (.bool false) (op_move rfl v83) ⟨_, rfl, hB, Fr.refl _ _, rfl, fun _ _ _ _ _ => trivial⟩
                        · simp only [List.getElem?_cons_zero, List.getElem?_cons_succ, Option.some.injEq] at ho
                          subst ho
                          intro a W vs hB hS hE hU
                          obtain ⟨r25, e84⟩ := hE 25 84 (by kernel_rfl) (by kernel_rfl)
                          have v84 : a.eval (.tmp 84) = .bool false := e84.trans r25
                          exact wpG_no 25 true 84 rfl (by kernel_rfl) (by rw [hS]; first | simp | exact Nat.le_of_ble_eq_true rfl) v84 ⟨_, rfl, hB, Fr.refl _ _, rfl, fun _ _ _ _ _ => trivial⟩
                        · simp only [List.getElem?_cons_zero, List.getElem?_cons_succ, Option.some.injEq] at ho
                          subst ho
                          intro a W vs hB hS hE hU
                          obtain ⟨r25, e84⟩ := hE 25 84 (by kernel_rfl) (by kernel_rfl)
                          have v84 : a.eval (.tmp 84) = .bool false := e84.trans r25
                          exact wpG_no 25 true 84 rfl (by kernel_rfl) (by rw [hS]; first | simp | exact Nat.le_of_ble_eq_true rfl) v84 ⟨_, rfl, hB, Fr.refl _ _, rfl, fun _ _ _ _ _ => trivial⟩
                        · simp only [List.getElem?_cons_zero, List.getElem?_cons_succ, Option.some.injEq] at ho
                          subst ho
                          intro a W vs hB hS hE hU
                          obtain ⟨r25, e84⟩ := hE 25 84 (by kernel_rfl) (by kernel_rfl)
                          have v84 : a.eval (.tmp 84) = .bool false := e84.trans r25
                          exact wpG_no 25 true 84 rfl (by kernel_rfl) (by rw [hS]; first | simp | exact Nat.le_of_ble_eq_true rfl) v84 ⟨_, rfl, hB, Fr.refl _ _, rfl, fun _ _ _ _ _ => trivial⟩
                        · simp only [List.getElem?_cons_zero, List.getElem?_cons_succ, Option.some.injEq] at ho
                          subst ho
                          intro a W vs hB hS hE hU
                          obtain ⟨r25, e84⟩ := hE 25 84 (by kernel_rfl) (by kernel_rfl)
                          have v84 : a.eval (.tmp 84) = .bool false := e84.trans r25
                          exact wpG_no 25 true 84 rfl (by kernel_rfl) (by rw [hS]; first | simp | exact Nat.le_of_ble_eq_true rfl) v84 ⟨_, rfl, hB, Fr.refl _ _, rfl, fun _ _ _ _ _ => trivial⟩
                        · simp only [List.getElem?_cons_zero, List.getElem?_cons_succ, Option.some.injEq] at ho
                          subst ho
                          intro a W vs hB hS hE hU
                          obtain ⟨r25, e84⟩ := hE 25 84 (by kernel_rfl) (by kernel_rfl)
                          have v84 : a.eval (.tmp 84) = .bool false := e84.trans r25
                          exact wpG_no 25 true 84 rfl (by kernel_rfl) (by rw [hS]; first | simp | exact Nat.le_of_ble_eq_true rfl) v84 ⟨_, rfl, hB, Fr.refl _ _, rfl, fun _ _ _ _ _ => trivial⟩
                        · simp only [List.getElem?_cons_zero, List.getElem?_cons_succ, Option.some.injEq] at ho
                          subst ho
                          intro a W vs hB hS hE hU
                          obtain ⟨r25, e84⟩ := hE 25 84 (by kernel_rfl) (by kernel_rfl)
                          have v84 : a.eval (.tmp 84) = .bool false := e84.trans r25
                          exact wpG_no 25 true 84 rfl (by kernel_rfl) (by rw [hS]; first | simp | exact Nat.le_of_ble_eq_true rfl) v84 ⟨_, rfl, hB, Fr.refl _ _, rfl, fun _ _ _ _ _ => trivial⟩
                        · simp only [List.getElem?_cons_zero, List.getElem?_cons_succ, Option.some.injEq] at ho
                          subst ho
                          intro a W vs hB hS hE hU
                          obtain ⟨r25, e84⟩ := hE 25 84 (by kernel_rfl) (by kernel_rfl)
                          have v84 : a.eval (.tmp 84) = .bool false := e84.trans r25
                          exact wpG_no 25 true 84 rfl (by kernel_rfl) (by rw [hS]; first | simp | exact Nat.le_of_ble_eq_true rfl) v84 ⟨_, rfl, hB, Fr.refl _ _, rfl, fun _ _ _ _ _ => trivial⟩
                        · simp only [List.getElem?_cons_zero, List.getElem?_cons_succ, Option.some.injEq] at ho
                          subst ho
                          intro a W vs hB hS hE hU
                          obtain ⟨r16, e75⟩ := hE 16 75 (by kernel_rfl) (by kernel_rfl)
                          have v75 : a.eval (.tmp 75) = .bool false := e75.trans r16
                          refine wpG_yes 16 false 75 rfl (by kernel_rfl) (by rw [hS]; first | simp | exact Nat.le_of_ble_eq_true rfl) v75 ?_
                          obtain ⟨r25, e84⟩ := hE 25 84 (by kernel_rfl) (by kernel_rfl)
                          have v84 : a.eval (.tmp 84) = .bool false := e84.trans r25
                          clear hE hU
                          exact wp_value_inv (w' := W) (.bool false) (op_pick rfl v84 (by simp only [Bool.false_eq_true, if_false]; rfl)) ⟨_, rfl, hB, Fr.refl _ _, rfl, fun _ _ _ _ _ => trivial⟩
                        · simp only [List.getElem?_cons_zero, List.getElem?_cons_succ, Option.some.injEq] at ho
                          subst ho
                          intro a W vs hB hS hE hU
                          refine wpG_plain rfl ?_
                          obtain ⟨r16, e75⟩ := hE 16 75 (by kernel_rfl) (by kernel_rfl)
                          have v75 : a.eval (.tmp 75) = .bool false := e75.trans r16
                          obtain ⟨r33, e92⟩ := hE 33 92 (by kernel_rfl) (by kernel_rfl)
                          have v92 : a.eval (.tmp 92) = .bool false := e92.trans r33
                          clear hE hU
                          exact wp_value_inv (w' := W) (.bool false) (op_pick rfl v75 (by simp only [Bool.false_eq_true, if_false]; exact v92)) ⟨_, rfl, hB, Fr.refl _ _, rfl, fun _ _ _ _ _ => trivial⟩
                        · simp only [List.getElem?_cons_zero, List.getElem?_cons_succ, Option.some.injEq] at ho
                          subst ho
                          intro a W vs hB hS hE hU
                          refine wpG_plain rfl ?_
                          obtain ⟨r34, e93⟩ := hE 34 93 (by kernel_rfl) (by kernel_rfl)
                          have v93 : a.eval (.tmp 93) = .bool false := e93.trans r34
                          clear hE hU
                          exact wp_value_inv (w' := W) (.bool false) (op_move rfl v93) ⟨_, rfl, hB, Fr.refl _ _, rfl, fun _ _ _ _ _ => trivial⟩
                        · simp only [List.getElem?_cons_zero, List.getElem?_cons_succ, Option.some.injEq] at ho
                          subst ho
                          intro a W vs hB hS hE hU
                          obtain ⟨r35, e94⟩ := hE 35 94 (by kernel_rfl) (by kernel_rfl)
                          have v94 : a.eval (.tmp 94) = .bool false := e94.trans r35
                          refine wpG_yes 35 false 94 rfl (by kernel_rfl) (by rw [hS]; first | simp | exact Nat.le_of_ble_eq_true rfl) v94 ?_
                          have v1 : a.eval (.tmp 1) = .slice ab nb cb := (hU 1 (by kernel_rfl)).trans rfl
                          clear hE hU
                          exact wp_value_inv (w' := W) (.slice ab nb cb) (op_move rfl v1) ⟨_, rfl, hB, Fr.refl _ _, rfl, fun _ _ _ _ _ => trivial⟩
                        · simp only [List.getElem?_cons_zero, List.getElem?_cons_succ, Option.some.injEq] at ho
                          subst ho
                          intro a W vs hB hS hE hU
                          obtain ⟨r35, e94⟩ := hE 35 94 (by kernel_rfl) (by kernel_rfl)
                          have v94 : a.eval (.tmp 94) = .bool false := e94.trans r35
                          refine wpG_yes 35 false 94 rfl (by kernel_rfl) (by rw [hS]; first | simp | exact Nat.le_of_ble_eq_true rfl) v94 ?_
                          have v2 : a.eval (.tmp 2) = .slice (some ⟨bp, off, none⟩) m cu := (hU 2 (by kernel_rfl)).trans rfl
                          clear hE hU
                          exact wp_value_inv (w' := W) (.slice (some ⟨bp, off, none⟩) m cu) (op_move rfl v2) ⟨_, rfl, hB, Fr.refl _ _, rfl, fun _ _ _ _ _ => trivial⟩
                        · simp only [List.getElem?_cons_zero, List.getElem?_cons_succ, Option.some.injEq] at ho
                          subst ho
                          intro a W vs hB hS hE hU
                          obtain ⟨r35, e94⟩ := hE 35 94 (by kernel_rfl) (by kernel_rfl)
                          have v94 : a.eval (.tmp 94) = .bool false := e94.trans r35
                          refine wpG_yes 35 false 94 rfl (by kernel_rfl) (by rw [hS]; first | simp | exact Nat.le_of_ble_eq_true rfl) v94 ?_
                          obtain ⟨r36, e95⟩ := hE 36 95 (by kernel_rfl) (by kernel_rfl)
                          have v95 : a.eval (.tmp 95) = .slice ab nb cb := e95.trans r36
                          obtain ⟨r37, e96⟩ := hE 37 96 (by kernel_rfl) (by kernel_rfl)
                          have v96 : a.eval (.tmp 96) = .slice (some ⟨bp, off, none⟩) m cu := e96.trans r37
                          clear hE hU
                          refine wp_call_inv 12 #[.tmp 95, .tmp 96] #[22, 35] rfl #[.slice ab nb cb, .slice (some ⟨bp, off, none⟩) m cu] (by simp only [List.map_toArray, List.map_cons, List.map_nil, v95, v96]) (ent_spence_refs_Found _) (Post := fun v W' => FndAt W' v x true ∧ Fr (fun _ => False) W W') ((HFB.out W hB).mono fun e w' ⟨y, h1, h2, h3⟩ => ⟨_, h1, h2, h3⟩) ?_
                          rintro v W' ⟨hv, hf⟩
                          exact ⟨_, rfl, hB.trans hf (fun _ h => h.elim), hf, ⟨v, rfl, hv⟩, fun _ _ _ _ _ => trivial⟩
                        · simp only [List.getElem?_cons_zero, List.getElem?_cons_succ, Option.some.injEq] at ho
                          subst ho
                          intro a W vs hB hS hE hU
                          obtain ⟨r35, e94⟩ := hE 35 94 (by kernel_rfl) (by kernel_rfl)
                          have v94 : a.eval (.tmp 94) = .bool false := e94.trans r35
                          refine wpG_yes 35 false 94 rfl (by kernel_rfl) (by rw [hS]; first | simp | exact Nat.le_of_ble_eq_true rfl) v94 ?_
                          have v2 : a.eval (.tmp 2) = .slice (some ⟨bp, off, none⟩) m cu := (hU 2 (by kernel_rfl)).trans rfl
                          clear hE hU
                          exact wp_value_inv (w' := W) (.slice (some ⟨bp, off, none⟩) m cu) (op_move rfl v2) ⟨_, rfl, hB, Fr.refl _ _, rfl, fun _ _ _ _ _ => trivial⟩
                        · simp only [List.getElem?_cons_zero, List.getElem?_cons_succ, Option.some.injEq] at ho
                          subst ho
                          intro a W vs hB hS hE hU
                          obtain ⟨r35, e94⟩ := hE 35 94 (by kernel_rfl) (by kernel_rfl)
                          have v94 : a.eval (.tmp 94) = .bool false := e94.trans r35
                          refine wpG_yes 35 false 94 rfl (by kernel_rfl) (by rw [hS]; first | simp | exact Nat.le_of_ble_eq_true rfl) v94 ?_
                          have v11 : a.eval (.tmp 11) = .int .i64 (ix : Nat) := (hU 11 (by kernel_rfl)).trans rfl
                          clear hE hU
                          exact wp_value_inv (w' := W) (.int .i64 (ix : Nat)) (op_move rfl v11) ⟨_, rfl, hB, Fr.refl _ _, rfl, fun _ _ _ _ _ => trivial⟩
                        · simp only [List.getElem?_cons_zero, List.getElem?_cons_succ, Option.some.injEq] at ho
                          subst ho
                          intro a W vs hB hS hE hU
                          obtain ⟨r35, e94⟩ := hE 35 94 (by kernel_rfl) (by kernel_rfl)
                          have v94 : a.eval (.tmp 94) = .bool false := e94.trans r35
                          refine wpG_yes 35 false 94 rfl (by kernel_rfl) (by rw [hS]; first | simp | exact Nat.le_of_ble_eq_true rfl) v94 ?_
                          obtain ⟨r39, e98⟩ := hE 39 98 (by kernel_rfl) (by kernel_rfl)
                          have v98 : a.eval (.tmp 98) = .slice (some ⟨bp, off, none⟩) m cu := e98.trans r39
                          obtain ⟨r40, e99⟩ := hE 40 99 (by kernel_rfl) (by kernel_rfl)
                          have v99 : a.eval (.tmp 99) = .int .i64 (ix : Nat) := e99.trans r40
                          clear hE hU
                          exact wp_value_inv (w' := W) (.pointer (some ⟨bp, off + ix * 21, none⟩)) (op_indexAddr rfl v98 v99 (run_index_paths W bp off m cu ix HIXX.out)) ⟨_, rfl, hB, Fr.refl _ _, rfl, fun _ _ _ _ _ => trivial⟩
                        · simp only [List.getElem?_cons_zero, List.getElem?_cons_succ, Option.some.injEq] at ho
                          subst ho
                          intro a W vs hB hS hE hU
                          obtain ⟨r35, e94⟩ := hE 35 94 (by kernel_rfl) (by kernel_rfl)
                          have v94 : a.eval (.tmp 94) = .bool false := e94.trans r35
                          refine wpG_yes 35 false 94 rfl (by kernel_rfl) (by rw [hS]; first | simp | exact Nat.le_of_ble_eq_true rfl) v94 ?_
                          obtain ⟨r41, e100⟩ := hE 41 100 (by kernel_rfl) (by kernel_rfl)
                          have v100 : a.eval (.tmp 100) = .pointer (some ⟨bp, off + ix * 21, none⟩) := e100.trans r41
                          clear hE hU
                          exact wp_value_inv (w' := W) (.agg CX) (op_loadAt rfl v100 (LDX.out W hB)) ⟨_, rfl, hB, Fr.refl _ _, rfl, fun _ _ _ _ _ => trivial⟩
                        · simp only [List.getElem?_cons_zero, List.getElem?_cons_succ, Option.some.injEq] at ho
                          subst ho
                          intro a W vs hB hS hE hU
                          obtain ⟨r35, e94⟩ := hE 35 94 (by kernel_rfl) (by kernel_rfl)
                          have v94 : a.eval (.tmp 94) = .bool false := e94.trans r35
                          refine wpG_yes 35 false 94 rfl (by kernel_rfl) (by rw [hS]; first | simp | exact Nat.le_of_ble_eq_true rfl) v94 ?_
                          obtain ⟨⟨y38, rg38, hg38⟩, e97⟩ := hE 38 97 (by kernel_rfl) (by kernel_rfl)
                          have v97 : a.eval (.tmp 97) = y38 := e97.trans rg38
                          obtain ⟨r42, e101⟩ := hE 42 101 (by kernel_rfl) (by kernel_rfl)
                          have v101 : a.eval (.tmp 101) = .agg CX := e101.trans r42
                          clear hE hU
                          refine wp_call_inv 13 #[.tmp 97, .tmp 101] #[35, 37] rfl #[y38, .agg CX] (by simp only [List.map_toArray, List.map_cons, List.map_nil, v97, v101]) (ent_spence_spencelaw10_holds _) (Post := fun v W' => v = .bool true ∧ Fr (fun _ => False) W W') ((fndHolds hg38 HCX.out).mono fun e w' h => ⟨_, h.1, rfl, h.2⟩) ?_
                          rintro v W' ⟨rfl, hf⟩
                          exact ⟨_, rfl, hB.trans hf (fun _ h => h.elim), hf, rfl, fun _ _ _ _ _ => trivial⟩
                        · simp only [List.getElem?_cons_zero, List.getElem?_cons_succ, Option.some.injEq] at ho
                          subst ho
                          intro a W vs hB hS hE hU
                          obtain ⟨r35, e94⟩ := hE 35 94 (by kernel_rfl) (by kernel_rfl)
                          have v94 : a.eval (.tmp 94) = .bool false := e94.trans r35
                          refine wpG_yes 35 false 94 rfl (by kernel_rfl) (by rw [hS]; first | simp | exact Nat.le_of_ble_eq_true rfl) v94 ?_
                          obtain ⟨r43, e102⟩ := hE 43 102 (by kernel_rfl) (by kernel_rfl)
                          have v102 : a.eval (.tmp 102) = .bool true := e102.trans r43
                          clear hE hU
                          exact wp_value_inv (w' := W) (.bool true) (op_move rfl v102) ⟨_, rfl, hB, Fr.refl _ _, rfl, fun _ _ _ _ _ => trivial⟩
                        · simp only [List.getElem?_cons_zero, List.getElem?_cons_succ, Option.some.injEq] at ho
                          subst ho
                          intro a W vs hB hS hE hU
                          obtain ⟨r44, e103⟩ := hE 44 103 (by kernel_rfl) (by kernel_rfl)
                          have v103 : a.eval (.tmp 103) = .bool true := e103.trans r44
                          refine wpG_yes 44 true 103 rfl (by kernel_rfl) (by rw [hS]; first | simp | exact Nat.le_of_ble_eq_true rfl) v103 ?_
                          have v10 : a.eval (.tmp 10) = .slice al nl cl := (hU 10 (by kernel_rfl)).trans rfl
                          clear hE hU
                          exact wp_value_inv (w' := W) (.slice al nl cl) (op_move rfl v10) ⟨_, rfl, hB, Fr.refl _ _, rfl, fun _ _ _ _ _ => trivial⟩
                        · simp only [List.getElem?_cons_zero, List.getElem?_cons_succ, Option.some.injEq] at ho
                          subst ho
                          intro a W vs hB hS hE hU
                          obtain ⟨r44, e103⟩ := hE 44 103 (by kernel_rfl) (by kernel_rfl)
                          have v103 : a.eval (.tmp 103) = .bool true := e103.trans r44
                          refine wpG_yes 44 true 103 rfl (by kernel_rfl) (by rw [hS]; first | simp | exact Nat.le_of_ble_eq_true rfl) v103 ?_
                          have v2 : a.eval (.tmp 2) = .slice (some ⟨bp, off, none⟩) m cu := (hU 2 (by kernel_rfl)).trans rfl
                          clear hE hU
                          exact wp_value_inv (w' := W) (.slice (some ⟨bp, off, none⟩) m cu) (op_move rfl v2) ⟨_, rfl, hB, Fr.refl _ _, rfl, fun _ _ _ _ _ => trivial⟩
                        · simp only [List.getElem?_cons_zero, List.getElem?_cons_succ, Option.some.injEq] at ho
                          subst ho
                          intro a W vs hB hS hE hU
                          obtain ⟨r44, e103⟩ := hE 44 103 (by kernel_rfl) (by kernel_rfl)
                          have v103 : a.eval (.tmp 103) = .bool true := e103.trans r44
                          refine wpG_yes 44 true 103 rfl (by kernel_rfl) (by rw [hS]; first | simp | exact Nat.le_of_ble_eq_true rfl) v103 ?_
                          have v11 : a.eval (.tmp 11) = .int .i64 (ix : Nat) := (hU 11 (by kernel_rfl)).trans rfl
                          clear hE hU
                          exact wp_value_inv (w' := W) (.int .i64 (ix : Nat)) (op_move rfl v11) ⟨_, rfl, hB, Fr.refl _ _, rfl, fun _ _ _ _ _ => trivial⟩
                        · simp only [List.getElem?_cons_zero, List.getElem?_cons_succ, Option.some.injEq] at ho
                          subst ho
                          intro a W vs hB hS hE hU
                          obtain ⟨r44, e103⟩ := hE 44 103 (by kernel_rfl) (by kernel_rfl)
                          have v103 : a.eval (.tmp 103) = .bool true := e103.trans r44
                          refine wpG_yes 44 true 103 rfl (by kernel_rfl) (by rw [hS]; first | simp | exact Nat.le_of_ble_eq_true rfl) v103 ?_
                          obtain ⟨r46, e105⟩ := hE 46 105 (by kernel_rfl) (by kernel_rfl)
                          have v105 : a.eval (.tmp 105) = .slice (some ⟨bp, off, none⟩) m cu := e105.trans r46
                          obtain ⟨r47, e106⟩ := hE 47 106 (by kernel_rfl) (by kernel_rfl)
                          have v106 : a.eval (.tmp 106) = .int .i64 (ix : Nat) := e106.trans r47
                          clear hE hU
                          exact wp_value_inv (w' := W) (.pointer (some ⟨bp, off + ix * 21, none⟩)) (op_indexAddr rfl v105 v106 (run_index_paths W bp off m cu ix HIXX.out)) ⟨_, rfl, hB, Fr.refl _ _, rfl, fun _ _ _ _ _ => trivial⟩
                        · simp only [List.getElem?_cons_zero, List.getElem?_cons_succ, Option.some.injEq] at ho
                          subst ho
                          intro a W vs hB hS hE hU
                          obtain ⟨r44, e103⟩ := hE 44 103 (by kernel_rfl) (by kernel_rfl)
                          have v103 : a.eval (.tmp 103) = .bool true := e103.trans r44
                          refine wpG_yes 44 true 103 rfl (by kernel_rfl) (by rw [hS]; first | simp | exact Nat.le_of_ble_eq_true rfl) v103 ?_
                          obtain ⟨r48, e107⟩ := hE 48 107 (by kernel_rfl) (by kernel_rfl)
                          have v107 : a.eval (.tmp 107) = .pointer (some ⟨bp, off + ix * 21, none⟩) := e107.trans r48
                          clear hE hU
                          exact wp_value_inv (w' := W) (.agg CX) (op_loadAt rfl v107 (LDX.out W hB)) ⟨_, rfl, hB, Fr.refl _ _, rfl, fun _ _ _ _ _ => trivial⟩
                        · simp only [List.getElem?_cons_zero, List.getElem?_cons_succ, Option.some.injEq] at ho
                          subst ho
                          intro a W vs hB hS hE hU
                          obtain ⟨r44, e103⟩ := hE 44 103 (by kernel_rfl) (by kernel_rfl)
                          have v103 : a.eval (.tmp 103) = .bool true := e103.trans r44
                          refine wpG_yes 44 true 103 rfl (by kernel_rfl) (by rw [hS]; first | simp | exact Nat.le_of_ble_eq_true rfl) v103 ?_
                          obtain ⟨r45, e104⟩ := hE 45 104 (by kernel_rfl) (by kernel_rfl)
                          have v104 : a.eval (.tmp 104) = .slice al nl cl := e104.trans r45
                          obtain ⟨r49, e108⟩ := hE 49 108 (by kernel_rfl) (by kernel_rfl)
                          have v108 : a.eval (.tmp 108) = .agg CX := e108.trans r49
                          clear hE hU
                          refine wp_call_inv 13 #[.tmp 104, .tmp 108] #[35, 37] rfl #[.slice al nl cl, .agg CX] (by simp only [List.map_toArray, List.map_cons, List.map_nil, v104, v108]) (ent_spence_spencelaw10_holds _) (Post := fun v W' => v = .bool true ∧ Fr (fun _ => False) W W') ((HHL.out W hB).mono fun e w' h => ⟨_, h.1, rfl, h.2⟩) ?_
                          rintro v W' ⟨rfl, hf⟩
                          exact ⟨_, rfl, hB.trans hf (fun _ h => h.elim), hf, rfl, fun _ _ _ _ _ => trivial⟩
                        · simp only [List.getElem?_cons_zero, List.getElem?_cons_succ, Option.some.injEq] at ho
                          subst ho
                          intro a W vs hB hS hE hU
                          obtain ⟨r44, e103⟩ := hE 44 103 (by kernel_rfl) (by kernel_rfl)
                          have v103 : a.eval (.tmp 103) = .bool true := e103.trans r44
                          refine wpG_yes 44 true 103 rfl (by kernel_rfl) (by rw [hS]; first | simp | exact Nat.le_of_ble_eq_true rfl) v103 ?_
                          obtain ⟨r50, e109⟩ := hE 50 109 (by kernel_rfl) (by kernel_rfl)
                          have v109 : a.eval (.tmp 109) = .bool true := e109.trans r50
                          clear hE hU
                          exact wp_value_inv (w' := W) (.bool false) (op_unop rfl v109 (by rfl)) ⟨_, rfl, hB, Fr.refl _ _, rfl, fun _ _ _ _ _ => trivial⟩
                        · simp only [List.getElem?_cons_zero, List.getElem?_cons_succ, Option.some.injEq] at ho
                          subst ho
                          intro a W vs hB hS hE hU
                          obtain ⟨r35, e94⟩ := hE 35 94 (by kernel_rfl) (by kernel_rfl)
                          have v94 : a.eval (.tmp 94) = .bool false := e94.trans r35
                          refine wpG_yes 35 false 94 rfl (by kernel_rfl) (by rw [hS]; first | simp | exact Nat.le_of_ble_eq_true rfl) v94 ?_
                          obtain ⟨r44, e103⟩ := hE 44 103 (by kernel_rfl) (by kernel_rfl)
                          have v103 : a.eval (.tmp 103) = .bool true := e103.trans r44
                          obtain ⟨r51, e110⟩ := hE 51 110 (by kernel_rfl) (by kernel_rfl)
                          have v110 : a.eval (.tmp 110) = .bool false := e110.trans r51
                          clear hE hU
                          exact wp_value_inv (w' := W) (.bool false) (op_pick rfl v103 (by simp only [if_true]; exact v110)) ⟨_, rfl, hB, Fr.refl _ _, rfl, fun _ _ _ _ _ => trivial⟩
                      · intro vs Wa hB0 hR0 hD
                        have r94 : vs 35 = .bool false := hR0 35 (by decide)
                        have r111 : vs 52 = .bool false := hR0 52 (by decide)
                        have HB := Lib.hid hB0
                        clear hR0 hD hB0
                        simp only [acts, if_true, dstAt, List.getElem?_cons_zero, List.getElem?_cons_succ, Option.bind_some, Act.put, List.setIfInBounds_toArray, List.set_cons_succ, List.set_cons_zero, List.drop_succ_cons]
                        simp only [r94, r111]
                        clear r94 r111
                        go_wp2_with fail
                        go_roundw
                        case rel => exact ⟨ix + 1, by omega, by go_num, Lib.hid (hR.out.trans HB.out (fun _ h => h.elim))⟩
                        case measure => simp [intOf]; omega
                    | false =>
                      clear hha2 hhb2
                      go_wp2_with fail
                      refine wp_region_inv 53 (by kernel_rfl) (by kernel_rfl) (fun W => Fr (fun _ => False) wr W) (FnR00 aa ab ac al na ca nb cb nc cc nl cl bp off m cu ix mp CX CH x hh) (fun _ _ _ _ => True) (Fr (fun _ => False)) (FnR00.ext aa ab ac al na ca nb cb nc cc nl cl bp off m cu ix mp CX CH x hh) (Fr.refl _ _).drew ?_ ?_
                      · intro i hi o ho
                        replace hi : i < 53 := hi
                        obtain rfl | rfl | rfl | rfl | rfl | rfl | rfl | rfl | rfl | rfl | rfl | rfl | rfl | rfl | rfl | rfl | rfl | rfl | rfl | rfl | rfl | rfl | rfl | rfl | rfl | rfl | rfl | rfl | rfl | rfl | rfl | rfl | rfl | rfl | rfl | rfl | rfl | rfl | rfl | rfl | rfl | rfl | rfl | rfl | rfl | rfl | rfl | rfl | rfl | rfl | rfl | rfl | rfl : i = 0 ∨ i = 1 ∨ i = 2 ∨ i = 3 ∨ i = 4 ∨ i = 5 ∨ i = 6 ∨ i = 7 ∨ i = 8 ∨ i = 9 ∨ i = 10 ∨ i = 11 ∨ i = 12 ∨ i = 13 ∨ i = 14 ∨ i = 15 ∨ i = 16 ∨ i = 17 ∨ i = 18 ∨ i = 19 ∨ i = 20 ∨ i = 21 ∨ i = 22 ∨ i = 23 ∨ i = 24 ∨ i = 25 ∨ i = 26 ∨ i = 27 ∨ i = 28 ∨ i = 29 ∨ i = 30 ∨ i = 31 ∨ i = 32 ∨ i = 33 ∨ i = 34 ∨ i = 35 ∨ i = 36 ∨ i = 37 ∨ i = 38 ∨ i = 39 ∨ i = 40 ∨ i = 41 ∨ i = 42 ∨ i = 43 ∨ i = 44 ∨ i = 45 ∨ i = 46 ∨ i = 47 ∨ i = 48 ∨ i = 49 ∨ i = 50 ∨ i = 51 ∨ i = 52 := by omega
                        · simp only [List.getElem?_cons_zero, Option.some.injEq] at ho
                          subst ho
                          intro a W vs hB hS hE hU
                          refine wpG_plain rfl ?_
                          have v10 : a.eval (.tmp 10) = .slice al nl cl := (hU 10 (by kernel_rfl)).trans rfl
                          clear hE hU
                          exact wp_value_inv (w' := W) (.slice al nl cl) (op_move rfl v10) ⟨_, rfl, hB, Fr.refl _ _, rfl, fun _ _ _ _ _ => trivial⟩
                        · simp only [List.getElem?_cons_zero, List.getElem?_cons_succ, Option.some.injEq] at ho
                          subst ho
                          intro a W vs hB hS hE hU
                          refine wpG_plain rfl ?_
                          have v2 : a.eval (.tmp 2) = .slice (some ⟨bp, off, none⟩) m cu := (hU 2 (by kernel_rfl)).trans rfl
                          clear hE hU
                          exact wp_value_inv (w' := W) (.slice (some ⟨bp, off, none⟩) m cu) (op_move rfl v2) ⟨_, rfl, hB, Fr.refl _ _, rfl, fun _ _ _ _ _ => trivial⟩
                        · simp only [List.getElem?_cons_zero, List.getElem?_cons_succ, Option.some.injEq] at ho
                          subst ho
                          intro a W vs hB hS hE hU
                          refine wpG_plain rfl ?_
                          have v11 : a.eval (.tmp 11) = .int .i64 (ix : Nat) := (hU 11 (by kernel_rfl)).trans rfl
                          clear hE hU
                          exact wp_value_inv (w' := W) (.int .i64 (ix : Nat)) (op_move rfl v11) ⟨_, rfl, hB, Fr.refl _ _, rfl, fun _ _ _ _ _ => trivial⟩
                        · simp only [List.getElem?_cons_zero, List.getElem?_cons_succ, Option.some.injEq] at ho
                          subst ho
                          intro a W vs hB hS hE hU
                          refine wpG_plain rfl ?_
                          obtain ⟨r1, e60⟩ := hE 1 60 (by kernel_rfl) (by kernel_rfl)
                          have v60 : a.eval (.tmp 60) = .slice (some ⟨bp, off, none⟩) m cu := e60.trans r1
                          obtain ⟨r2, e61⟩ := hE 2 61 (by kernel_rfl) (by kernel_rfl)
                          have v61 : a.eval (.tmp 61) = .int .i64 (ix : Nat) := e61.trans r2
                          clear hE hU
                          exact wp_value_inv (w' := W) (.pointer (some ⟨bp, off + ix * 21, none⟩)) (op_indexAddr rfl v60 v61 (run_index_paths W bp off m cu ix HIXX.out)) ⟨_, rfl, hB, Fr.refl _ _, rfl, fun _ _ _ _ _ => trivial⟩
                        · simp only [List.getElem?_cons_zero, List.getElem?_cons_succ, Option.some.injEq] at ho
                          subst ho
                          intro a W vs hB hS hE hU
                          refine wpG_plain rfl ?_
                          obtain ⟨r3, e62⟩ := hE 3 62 (by kernel_rfl) (by kernel_rfl)
                          have v62 : a.eval (.tmp 62) = .pointer (some ⟨bp, off + ix * 21, none⟩) := e62.trans r3
                          clear hE hU
                          exact wp_value_inv (w' := W) (.agg CX) (op_loadAt rfl v62 (LDX.out W hB)) ⟨_, rfl, hB, Fr.refl _ _, rfl, fun _ _ _ _ _ => trivial⟩
                        · simp only [List.getElem?_cons_zero, List.getElem?_cons_succ, Option.some.injEq] at ho
                          subst ho
                          intro a W vs hB hS hE hU
                          refine wpG_plain rfl ?_
                          obtain ⟨r0, e59⟩ := hE 0 59 (by kernel_rfl) (by kernel_rfl)
                          have v59 : a.eval (.tmp 59) = .slice al nl cl := e59.trans r0
                          obtain ⟨r4, e63⟩ := hE 4 63 (by kernel_rfl) (by kernel_rfl)
                          have v63 : a.eval (.tmp 63) = .agg CX := e63.trans r4
                          clear hE hU
                          refine wp_call_inv 13 #[.tmp 59, .tmp 63] #[35, 37] rfl #[.slice al nl cl, .agg CX] (by simp only [List.map_toArray, List.map_cons, List.map_nil, v59, v63]) (ent_spence_spencelaw10_holds _) (Post := fun v W' => v = .bool hh ∧ Fr (fun _ => False) W W') ((HHL.out W hB).mono fun e w' h => ⟨_, h.1, rfl, h.2⟩) ?_
                          rintro v W' ⟨rfl, hf⟩
                          exact ⟨_, rfl, hB.trans hf (fun _ h => h.elim), hf, rfl, fun _ _ _ _ _ => trivial⟩
                        · simp only [List.getElem?_cons_zero, List.getElem?_cons_succ, Option.some.injEq] at ho
                          subst ho
                          intro a W vs hB hS hE hU
                          refine wpG_plain rfl ?_
                          have v9 : a.eval (.tmp 9) = .slice ac nc cc := (hU 9 (by kernel_rfl)).trans rfl
                          clear hE hU
                          exact wp_value_inv (w' := W) (.slice ac nc cc) (op_move rfl v9) ⟨_, rfl, hB, Fr.refl _ _, rfl, fun _ _ _ _ _ => trivial⟩
                        · simp only [List.getElem?_cons_zero, List.getElem?_cons_succ, Option.some.injEq] at ho
                          subst ho
                          intro a W vs hB hS hE hU
                          refine wpG_plain rfl ?_
                          have v2 : a.eval (.tmp 2) = .slice (some ⟨bp, off, none⟩) m cu := (hU 2 (by kernel_rfl)).trans rfl
                          clear hE hU
                          exact wp_value_inv (w' := W) (.slice (some ⟨bp, off, none⟩) m cu) (op_move rfl v2) ⟨_, rfl, hB, Fr.refl _ _, rfl, fun _ _ _ _ _ => trivial⟩
                        · simp only [List.getElem?_cons_zero, List.getElem?_cons_succ, Option.some.injEq] at ho
                          subst ho
                          intro a W vs hB hS hE hU
                          refine wpG_plain rfl ?_
                          have v11 : a.eval (.tmp 11) = .int .i64 (ix : Nat) := (hU 11 (by kernel_rfl)).trans rfl
                          clear hE hU
                          exact wp_value_inv (w' := W) (.int .i64 (ix : Nat)) (op_move rfl v11) ⟨_, rfl, hB, Fr.refl _ _, rfl, fun _ _ _ _ _ => trivial⟩
                        · simp only [List.getElem?_cons_zero, List.getElem?_cons_succ, Option.some.injEq] at ho
                          subst ho
                          intro a W vs hB hS hE hU
                          refine wpG_plain rfl ?_
                          obtain ⟨r7, e66⟩ := hE 7 66 (by kernel_rfl) (by kernel_rfl)
                          have v66 : a.eval (.tmp 66) = .slice (some ⟨bp, off, none⟩) m cu := e66.trans r7
                          obtain ⟨r8, e67⟩ := hE 8 67 (by kernel_rfl) (by kernel_rfl)
                          have v67 : a.eval (.tmp 67) = .int .i64 (ix : Nat) := e67.trans r8
                          clear hE hU
                          exact wp_value_inv (w' := W) (.pointer (some ⟨bp, off + ix * 21, none⟩)) (op_indexAddr rfl v66 v67 (run_index_paths W bp off m cu ix HIXX.out)) ⟨_, rfl, hB, Fr.refl _ _, rfl, fun _ _ _ _ _ => trivial⟩
                        · simp only [List.getElem?_cons_zero, List.getElem?_cons_succ, Option.some.injEq] at ho
                          subst ho
                          intro a W vs hB hS hE hU
                          refine wpG_plain rfl ?_
                          obtain ⟨r9, e68⟩ := hE 9 68 (by kernel_rfl) (by kernel_rfl)
                          have v68 : a.eval (.tmp 68) = .pointer (some ⟨bp, off + ix * 21, none⟩) := e68.trans r9
                          clear hE hU
                          exact wp_value_inv (w' := W) (.pointer (some ⟨bp, off + ix * 21, none⟩)) (op_fieldAddr rfl v68 (fld_path0 W bp (off + ix * 21))) ⟨_, rfl, hB, Fr.refl _ _, rfl, fun _ _ _ _ _ => trivial⟩
                        · simp only [List.getElem?_cons_zero, List.getElem?_cons_succ, Option.some.injEq] at ho
                          subst ho
                          intro a W vs hB hS hE hU
                          refine wpG_plain rfl ?_
                          obtain ⟨r10, e69⟩ := hE 10 69 (by kernel_rfl) (by kernel_rfl)
                          have v69 : a.eval (.tmp 69) = .pointer (some ⟨bp, off + ix * 21, none⟩) := e69.trans r10
                          clear hE hU
                          exact wp_value_inv (w' := W) (.agg CH) (op_loadAt rfl v69 (LDH.out W hB)) ⟨_, rfl, hB, Fr.refl _ _, rfl, fun _ _ _ _ _ => trivial⟩
                        · simp only [List.getElem?_cons_zero, List.getElem?_cons_succ, Option.some.injEq] at ho
                          subst ho
                          intro a W vs hB hS hE hU
                          refine wpG_plain rfl ?_
                          obtain ⟨r6, e65⟩ := hE 6 65 (by kernel_rfl) (by kernel_rfl)
                          have v65 : a.eval (.tmp 65) = .slice ac nc cc := e65.trans r6
                          obtain ⟨r11, e70⟩ := hE 11 70 (by kernel_rfl) (by kernel_rfl)
                          have v70 : a.eval (.tmp 70) = .agg CH := e70.trans r11
                          clear hE hU
                          refine wp_call_inv 6 #[.tmp 65, .tmp 70] #[22, 24] rfl #[.slice ac nc cc, .agg CH] (by simp only [List.map_toArray, List.map_cons, List.map_nil, v65, v70]) (ent_spence_refs_Places _) (Post := fun v W' => (∃ a c, v = .slice a mp c) ∧ Fr (fun _ => False) W W') ((HPL.out W hB).mono fun e w' ⟨u, h1, h2, h3⟩ => ⟨_, h1, h2, h3⟩) ?_
                          rintro v W' ⟨hv, hf⟩
                          exact ⟨_, rfl, hB.trans hf (fun _ h => h.elim), hf, hv, fun _ _ _ _ _ => trivial⟩
                        · simp only [List.getElem?_cons_zero, List.getElem?_cons_succ, Option.some.injEq] at ho
                          subst ho
                          intro a W vs hB hS hE hU
                          refine wpG_plain rfl ?_
                          obtain ⟨⟨a12, c12, rg12⟩, e71⟩ := hE 12 71 (by kernel_rfl) (by kernel_rfl)
                          have v71 : a.eval (.tmp 71) = .slice a12 mp c12 := e71.trans rg12
                          clear hE hU
                          exact wp_value_inv (w' := W) (.int .i64 (mp : Nat)) (op_lenI rfl v71) ⟨_, rfl, hB, Fr.refl _ _, rfl, fun _ _ _ _ _ => trivial⟩
                        · simp only [List.getElem?_cons_zero, List.getElem?_cons_succ, Option.some.injEq] at ho
                          subst ho
                          intro a W vs hB hS hE hU
                          refine wpG_plain rfl ?_
                          obtain ⟨r13, e72⟩ := hE 13 72 (by kernel_rfl) (by kernel_rfl)
                          have v72 : a.eval (.tmp 72) = .int .i64 (mp : Nat) := e72.trans r13
                          clear hE hU
                          exact wp_value_inv (w' := W) (.bool hh) (op_bin rfl v72 rfl (rfl) (HGG.out W)) ⟨_, rfl, hB, Fr.refl _ _, rfl, fun _ _ _ _ _ => trivial⟩
                        · simp only [List.getElem?_cons_zero, List.getElem?_cons_succ, Option.some.injEq] at ho
                          subst ho
                          intro a W vs hB hS hE hU
                          refine wpG_plain rfl ?_
                          obtain ⟨r5, e64⟩ := hE 5 64 (by kernel_rfl) (by kernel_rfl)
                          have v64 : a.eval (.tmp 64) = .bool hh := e64.trans r5
                          obtain ⟨r14, e73⟩ := hE 14 73 (by kernel_rfl) (by kernel_rfl)
                          have v73 : a.eval (.tmp 73) = .bool hh := e73.trans r14
                          clear hE hU
                          exact wp_value_inv (w' := W) (.bool false) (op_bin rfl v64 v73 (guard_bool W _ _ _ _ _ _) (neq_bool10 W hh)) ⟨_, rfl, hB, Fr.refl _ _, rfl, fun _ _ _ _ _ => trivial⟩
                        · simp only [List.getElem?_cons_zero, List.getElem?_cons_succ, Option.some.injEq] at ho
                          subst ho
                          intro a W vs hB hS hE hU
                          refine wpG_plain rfl ?_
                          obtain ⟨r15, e74⟩ := hE 15 74 (by kernel_rfl) (by kernel_rfl)
                          have v74 : a.eval (.tmp 74) = .bool false := e74.trans r15
                          clear hE hU
                          exact wp_value_inv (w' := W) (.bool false) (op_move rfl v74) ⟨_, rfl, hB, Fr.refl _ _, rfl, fun _ _ _ _ _ => trivial⟩
                        · simp only [List.getElem?_cons_zero, List.getElem?_cons_succ, Option.some.injEq] at ho
                          subst ho
                          intro a W vs hB hS hE hU
                          obtain ⟨r16, e75⟩ := hE 16 75 (by kernel_rfl) (by kernel_rfl)
                          have v75 : a.eval (.tmp 75) = .bool false := e75.trans r16
                          refine wpG_yes 16 false 75 rfl (by kernel_rfl) (by rw [hS]; first | simp | exact Nat.le_of_ble_eq_true rfl) v75 ?_
                          have v0 : a.eval (.tmp 0) = .slice aa na ca := (hU 0 (by kernel_rfl)).trans rfl
                          clear hE hU
                          exact wp_value_inv (w' := W) (.slice aa na ca) (op_move rfl v0) ⟨_, rfl, hB, Fr.refl _ _, rfl, fun _ _ _ _ _ => trivial⟩
                        · simp only [List.getElem?_cons_zero, List.getElem?_cons_succ, Option.some.injEq] at ho
                          subst ho
                          intro a W vs hB hS hE hU
                          obtain ⟨r16, e75⟩ := hE 16 75 (by kernel_rfl) (by kernel_rfl)
                          have v75 : a.eval (.tmp 75) = .bool false := e75.trans r16
                          refine wpG_yes 16 false 75 rfl (by kernel_rfl) (by rw [hS]; first | simp | exact Nat.le_of_ble_eq_true rfl) v75 ?_
                          have v2 : a.eval (.tmp 2) = .slice (some ⟨bp, off, none⟩) m cu := (hU 2 (by kernel_rfl)).trans rfl
                          clear hE hU
                          exact wp_value_inv (w' := W) (.slice (some ⟨bp, off, none⟩) m cu) (op_move rfl v2) ⟨_, rfl, hB, Fr.refl _ _, rfl, fun _ _ _ _ _ => trivial⟩
                        · simp only [List.getElem?_cons_zero, List.getElem?_cons_succ, Option.some.injEq] at ho
                          subst ho
                          intro a W vs hB hS hE hU
                          obtain ⟨r16, e75⟩ := hE 16 75 (by kernel_rfl) (by kernel_rfl)
                          have v75 : a.eval (.tmp 75) = .bool false := e75.trans r16
                          refine wpG_yes 16 false 75 rfl (by kernel_rfl) (by rw [hS]; first | simp | exact Nat.le_of_ble_eq_true rfl) v75 ?_
                          obtain ⟨r17, e76⟩ := hE 17 76 (by kernel_rfl) (by kernel_rfl)
                          have v76 : a.eval (.tmp 76) = .slice aa na ca := e76.trans r17
                          obtain ⟨r18, e77⟩ := hE 18 77 (by kernel_rfl) (by kernel_rfl)
                          have v77 : a.eval (.tmp 77) = .slice (some ⟨bp, off, none⟩) m cu := e77.trans r18
                          clear hE hU
                          refine wp_call_inv 12 #[.tmp 76, .tmp 77] #[22, 35] rfl #[.slice aa na ca, .slice (some ⟨bp, off, none⟩) m cu] (by simp only [List.map_toArray, List.map_cons, List.map_nil, v76, v77]) (ent_spence_refs_Found _) (Post := fun v W' => FndAt W' v x false ∧ Fr (fun _ => False) W W') ((HFA.out W hB).mono fun e w' ⟨y, h1, h2, h3⟩ => ⟨_, h1, h2, h3⟩) ?_
                          rintro v W' ⟨hv, hf⟩
                          exact ⟨_, rfl, hB.trans hf (fun _ h => h.elim), hf, ⟨v, rfl, hv⟩, fun _ _ _ _ _ => trivial⟩
                        · simp only [List.getElem?_cons_zero, List.getElem?_cons_succ, Option.some.injEq] at ho
                          subst ho
                          intro a W vs hB hS hE hU
                          obtain ⟨r16, e75⟩ := hE 16 75 (by kernel_rfl) (by kernel_rfl)
                          have v75 : a.eval (.tmp 75) = .bool false := e75.trans r16
                          refine wpG_yes 16 false 75 rfl (by kernel_rfl) (by rw [hS]; first | simp | exact Nat.le_of_ble_eq_true rfl) v75 ?_
                          have v2 : a.eval (.tmp 2) = .slice (some ⟨bp, off, none⟩) m cu := (hU 2 (by kernel_rfl)).trans rfl
                          clear hE hU
                          exact wp_value_inv (w' := W) (.slice (some ⟨bp, off, none⟩) m cu) (op_move rfl v2) ⟨_, rfl, hB, Fr.refl _ _, rfl, fun _ _ _ _ _ => trivial⟩
                        · simp only [List.getElem?_cons_zero, List.getElem?_cons_succ, Option.some.injEq] at ho
                          subst ho
                          intro a W vs hB hS hE hU
                          obtain ⟨r16, e75⟩ := hE 16 75 (by kernel_rfl) (by kernel_rfl)
                          have v75 : a.eval (.tmp 75) = .bool false := e75.trans r16
                          refine wpG_yes 16 false 75 rfl (by kernel_rfl) (by rw [hS]; first | simp | exact Nat.le_of_ble_eq_true rfl) v75 ?_
                          have v11 : a.eval (.tmp 11) = .int .i64 (ix : Nat) := (hU 11 (by kernel_rfl)).trans rfl
                          clear hE hU
                          exact wp_value_inv (w' := W) (.int .i64 (ix : Nat)) (op_move rfl v11) ⟨_, rfl, hB, Fr.refl _ _, rfl, fun _ _ _ _ _ => trivial⟩
                        · simp only [List.getElem?_cons_zero, List.getElem?_cons_succ, Option.some.injEq] at ho
                          subst ho
                          intro a W vs hB hS hE hU
                          obtain ⟨r16, e75⟩ := hE 16 75 (by kernel_rfl) (by kernel_rfl)
                          have v75 : a.eval (.tmp 75) = .bool false := e75.trans r16
                          refine wpG_yes 16 false 75 rfl (by kernel_rfl) (by rw [hS]; first | simp | exact Nat.le_of_ble_eq_true rfl) v75 ?_
                          obtain ⟨r20, e79⟩ := hE 20 79 (by kernel_rfl) (by kernel_rfl)
                          have v79 : a.eval (.tmp 79) = .slice (some ⟨bp, off, none⟩) m cu := e79.trans r20
                          obtain ⟨r21, e80⟩ := hE 21 80 (by kernel_rfl) (by kernel_rfl)
                          have v80 : a.eval (.tmp 80) = .int .i64 (ix : Nat) := e80.trans r21
                          clear hE hU
                          exact wp_value_inv (w' := W) (.pointer (some ⟨bp, off + ix * 21, none⟩)) (op_indexAddr rfl v79 v80 (run_index_paths W bp off m cu ix HIXX.out)) ⟨_, rfl, hB, Fr.refl _ _, rfl, fun _ _ _ _ _ => trivial⟩
                        · simp only [List.getElem?_cons_zero, List.getElem?_cons_succ, Option.some.injEq] at ho
                          subst ho
                          intro a W vs hB hS hE hU
                          obtain ⟨r16, e75⟩ := hE 16 75 (by kernel_rfl) (by kernel_rfl)
                          have v75 : a.eval (.tmp 75) = .bool false := e75.trans r16
                          refine wpG_yes 16 false 75 rfl (by kernel_rfl) (by rw [hS]; first | simp | exact Nat.le_of_ble_eq_true rfl) v75 ?_
                          obtain ⟨r22, e81⟩ := hE 22 81 (by kernel_rfl) (by kernel_rfl)
                          have v81 : a.eval (.tmp 81) = .pointer (some ⟨bp, off + ix * 21, none⟩) := e81.trans r22
                          clear hE hU
                          exact wp_value_inv (w' := W) (.agg CX) (op_loadAt rfl v81 (LDX.out W hB)) ⟨_, rfl, hB, Fr.refl _ _, rfl, fun _ _ _ _ _ => trivial⟩
                        · simp only [List.getElem?_cons_zero, List.getElem?_cons_succ, Option.some.injEq] at ho
                          subst ho
                          intro a W vs hB hS hE hU
                          obtain ⟨r16, e75⟩ := hE 16 75 (by kernel_rfl) (by kernel_rfl)
                          have v75 : a.eval (.tmp 75) = .bool false := e75.trans r16
                          refine wpG_yes 16 false 75 rfl (by kernel_rfl) (by rw [hS]; first | simp | exact Nat.le_of_ble_eq_true rfl) v75 ?_
                          obtain ⟨⟨y19, rg19, hg19⟩, e78⟩ := hE 19 78 (by kernel_rfl) (by kernel_rfl)
                          have v78 : a.eval (.tmp 78) = y19 := e78.trans rg19
                          obtain ⟨r23, e82⟩ := hE 23 82 (by kernel_rfl) (by kernel_rfl)
                          have v82 : a.eval (.tmp 82) = .agg CX := e82.trans r23
                          clear hE hU
                          refine wp_call_inv 13 #[.tmp 78, .tmp 82] #[35, 37] rfl #[y19, .agg CX] (by simp only [List.map_toArray, List.map_cons, List.map_nil, v78, v82]) (ent_spence_spencelaw10_holds _) (Post := fun v W' => v = .bool false ∧ Fr (fun _ => False) W W') ((fndHolds hg19 HCX.out).mono fun e w' h => ⟨_, h.1, rfl, h.2⟩) ?_
                          rintro v W' ⟨rfl, hf⟩
                          exact ⟨_, rfl, hB.trans hf (fun _ h => h.elim), hf, rfl, fun _ _ _ _ _ => trivial⟩
                        · simp only [List.getElem?_cons_zero, List.getElem?_cons_succ, Option.some.injEq] at ho
                          subst ho
                          intro a W vs hB hS hE hU
                          obtain ⟨r16, e75⟩ := hE 16 75 (by kernel_rfl) (by kernel_rfl)
                          have v75 : a.eval (.tmp 75) = .bool false := e75.trans r16
                          refine wpG_yes 16 false 75 rfl (by kernel_rfl) (by rw [hS]; first | simp | exact Nat.le_of_ble_eq_true rfl) v75 ?_
                          obtain ⟨r24, e83⟩ := hE 24 83 (by kernel_rfl) (by kernel_rfl)
                          have v83 : a.eval (.tmp 83) = .bool false := e83.trans r24
                          clear hE hU
                          exact wp_value_inv (w' := W) (.bool false) (op_move rfl v83) ⟨_, rfl, hB, Fr.refl _ _, rfl, fun _ _ _ _ _ => trivial⟩
                        · simp only [List.getElem?_cons_zero, List.getElem?_cons_succ, Option.some.injEq] at ho
                          subst ho
                          intro a W vs hB hS hE hU
                          obtain ⟨r25, e84⟩ := hE 25 84 (by kernel_rfl) (by kernel_rfl)
                          have v84 : a.eval (.tmp 84) = .bool false := e84.trans r25
                          exact wpG_no 25 true 84 rfl (by kernel_rfl) (by rw [hS]; first | simp | exact Nat.le_of_ble_eq_true rfl) v84 ⟨_, rfl, hB, Fr.refl _ _, rfl, fun _ _ _ _ _ => trivial⟩
                        · simp only [List.getElem?_cons_zero, List.getElem?_cons_succ, Option.some.injEq] at ho
                          subst ho
                          intro a W vs hB hS hE hU
                          obtain ⟨r25, e84⟩ := hE 25 84 (by kernel_rfl) (by kernel_rfl)
                          have v84 : a.eval (.tmp 84) = .bool false := e84.trans r25
                          exact wpG_no 25 true 84 rfl (by kernel_rfl) (by rw [hS]; first | simp | exact Nat.le_of_ble_eq_true rfl) v84 ⟨_, rfl, hB, Fr.refl _ _, rfl, fun _ _ _ _ _ => trivial⟩
                        · simp only [List.getElem?_cons_zero, List.getElem?_cons_succ, Option.some.injEq] at ho
                          subst ho
                          intro a W vs hB hS hE hU
                          obtain ⟨r25, e84⟩ := hE 25 84 (by kernel_rfl) (by kernel_rfl)
                          have v84 : a.eval (.tmp 84) = .bool false := e84.trans r25
                          exact wpG_no 25 true 84 rfl (by kernel_rfl) (by rw [hS]; first | simp | exact Nat.le_of_ble_eq_true rfl) v84 ⟨_, rfl, hB, Fr.refl _ _, rfl, fun _ _ _ _ _ => trivial⟩
                        · simp only [List.getElem?_cons_zero, List.getElem?_cons_succ, Option.some.injEq] at ho
                          subst ho
                          intro a W vs hB hS hE hU
                          obtain ⟨r25, e84⟩ := hE 25 84 (by kernel_rfl) (by kernel_rfl)
                          have v84 : a.eval (.tmp 84) = .bool false := e84.trans r25
                          exact wpG_no 25 true 84 rfl (by kernel_rfl) (by rw [hS]; first | simp | exact Nat.le_of_ble_eq_true rfl) v84 ⟨_, rfl, hB, Fr.refl _ _, rfl, fun _ _ _ _ _ => trivial⟩
                        · simp only [List.getElem?_cons_zero, List.getElem?_cons_succ, Option.some.injEq] at ho
                          subst ho
                          intro a W vs hB hS hE hU
                          obtain ⟨r25, e84⟩ := hE 25 84 (by kernel_rfl) (by kernel_rfl)
                          have v84 : a.eval (.tmp 84) = .bool false := e84.trans r25
                          exact wpG_no 25 true 84 rfl (by kernel_rfl) (by rw [hS]; first | simp | exact Nat.le_of_ble_eq_true rfl) v84 ⟨_, rfl, hB, Fr.refl _ _, rfl, fun _ _ _ _ _ => trivial⟩
                        · simp only [List.getElem?_cons_zero, List.getElem?_cons_succ, Option.some.injEq] at ho
                          subst ho
                          intro a W vs hB hS hE hU
                          obtain ⟨r25, e84⟩ := hE 25 84 (by kernel_rfl) (by kernel_rfl)
                          have v84 : a.eval (.tmp 84) = .bool false := e84.trans r25
                          exact wpG_no 25 true 84 rfl (by kernel_rfl) (by rw [hS]; first | simp | exact Nat.le_of_ble_eq_true rfl) v84 ⟨_, rfl, hB, Fr.refl _ _, rfl, fun _ _ _ _ _ => trivial⟩
                        · simp only [List.getElem?_cons_zero, List.getElem?_cons_succ, Option.some.injEq] at ho
                          subst ho
                          intro a W vs hB hS hE hU
                          obtain ⟨r25, e84⟩ := hE 25 84 (by kernel_rfl) (by kernel_rfl)
                          have v84 : a.eval (.tmp 84) = .bool false := e84.trans r25
                          exact wpG_no 25 true 84 rfl (by kernel_rfl) (by rw [hS]; first | simp | exact Nat.le_of_ble_eq_true rfl) v84 ⟨_, rfl, hB, Fr.refl _ _, rfl, fun _ _ _ _ _ => trivial⟩
                        · simp only [List.getElem?_cons_zero, List.getElem?_cons_succ, Option.some.injEq] at ho
                          subst ho
                          intro a W vs hB hS hE hU
                          obtain ⟨r16, e75⟩ := hE 16 75 (by kernel_rfl) (by kernel_rfl)
                          have v75 : a.eval (.tmp 75) = .bool false := e75.trans r16
                          refine wpG_yes 16 false 75 rfl (by kernel_rfl) (by rw [hS]; first | simp | exact Nat.le_of_ble_eq_true rfl) v75 ?_
                          obtain ⟨r25, e84⟩ := hE 25 84 (by kernel_rfl) (by kernel_rfl)
                          have v84 : a.eval (.tmp 84) = .bool false := e84.trans r25
                          clear hE hU
                          exact wp_value_inv (w' := W) (.bool false) (op_pick rfl v84 (by simp only [Bool.false_eq_true, if_false]; rfl)) ⟨_, rfl, hB, Fr.refl _ _, rfl, fun _ _ _ _ _ => trivial⟩
                        · simp only [List.getElem?_cons_zero, List.getElem?_cons_succ, Option.some.injEq] at ho
                          subst ho
                          intro a W vs hB hS hE hU
                          refine wpG_plain rfl ?_
                          obtain ⟨r16, e75⟩ := hE 16 75 (by kernel_rfl) (by kernel_rfl)
                          have v75 : a.eval (.tmp 75) = .bool false := e75.trans r16
                          obtain ⟨r33, e92⟩ := hE 33 92 (by kernel_rfl) (by kernel_rfl)
                          have v92 : a.eval (.tmp 92) = .bool false := e92.trans r33
                          clear hE hU
                          exact wp_value_inv (w' := W) (.bool false) (op_pick rfl v75 (by simp only [Bool.false_eq_true, if_false]; exact v92)) ⟨_, rfl, hB, Fr.refl _ _, rfl, fun _ _ _ _ _ => trivial⟩
                        · simp only [List.getElem?_cons_zero, List.getElem?_cons_succ, Option.some.injEq] at ho
                          subst ho
                          intro a W vs hB hS hE hU
                          refine wpG_plain rfl ?_
                          obtain ⟨r34, e93⟩ := hE 34 93 (by kernel_rfl) (by kernel_rfl)
                          have v93 : a.eval (.tmp 93) = .bool false := e93.trans r34
                          clear hE hU
                          exact wp_value_inv (w' := W) (.bool false) (op_move rfl v93) ⟨_, rfl, hB, Fr.refl _ _, rfl, fun _ _ _ _ _ => trivial⟩
                        · simp only [List.getElem?_cons_zero, List.getElem?_cons_succ, Option.some.injEq] at ho
                          subst ho
                          intro a W vs hB hS hE hU
                          obtain ⟨r35, e94⟩ := hE 35 94 (by kernel_rfl) (by kernel_rfl)
                          have v94 : a.eval (.tmp 94) = .bool false := e94.trans r35
                          refine wpG_yes 35 false 94 rfl (by kernel_rfl) (by rw [hS]; first | simp | exact Nat.le_of_ble_eq_true rfl) v94 ?_
                          have v1 : a.eval (.tmp 1) = .slice ab nb cb := (hU 1 (by kernel_rfl)).trans rfl
                          clear hE hU
                          exact wp_value_inv (w' := W) (.slice ab nb cb) (op_move rfl v1) ⟨_, rfl, hB, Fr.refl _ _, rfl, fun _ _ _ _ _ => trivial⟩
                        · simp only [List.getElem?_cons_zero, List.getElem?_cons_succ, Option.some.injEq] at ho
                          subst ho
                          intro a W vs hB hS hE hU
                          obtain ⟨r35, e94⟩ := hE 35 94 (by kernel_rfl) (by kernel_rfl)
                          have v94 : a.eval (.tmp 94) = .bool false := e94.trans r35
                          refine wpG_yes 35 false 94 rfl (by kernel_rfl) (by rw [hS]; first | simp | exact Nat.le_of_ble_eq_true rfl) v94 ?_
                          have v2 : a.eval (.tmp 2) = .slice (some ⟨bp, off, none⟩) m cu := (hU 2 (by kernel_rfl)).trans rfl
                          clear hE hU
                          exact wp_value_inv (w' := W) (.slice (some ⟨bp, off, none⟩) m cu) (op_move rfl v2) ⟨_, rfl, hB, Fr.refl _ _, rfl, fun _ _ _ _ _ => trivial⟩
                        · simp only [List.getElem?_cons_zero, List.getElem?_cons_succ, Option.some.injEq] at ho
                          subst ho
                          intro a W vs hB hS hE hU
                          obtain ⟨r35, e94⟩ := hE 35 94 (by kernel_rfl) (by kernel_rfl)
                          have v94 : a.eval (.tmp 94) = .bool false := e94.trans r35
                          refine wpG_yes 35 false 94 rfl (by kernel_rfl) (by rw [hS]; first | simp | exact Nat.le_of_ble_eq_true rfl) v94 ?_
                          obtain ⟨r36, e95⟩ := hE 36 95 (by kernel_rfl) (by kernel_rfl)
                          have v95 : a.eval (.tmp 95) = .slice ab nb cb := e95.trans r36
                          obtain ⟨r37, e96⟩ := hE 37 96 (by kernel_rfl) (by kernel_rfl)
                          have v96 : a.eval (.tmp 96) = .slice (some ⟨bp, off, none⟩) m cu := e96.trans r37
                          clear hE hU
                          refine wp_call_inv 12 #[.tmp 95, .tmp 96] #[22, 35] rfl #[.slice ab nb cb, .slice (some ⟨bp, off, none⟩) m cu] (by simp only [List.map_toArray, List.map_cons, List.map_nil, v95, v96]) (ent_spence_refs_Found _) (Post := fun v W' => FndAt W' v x false ∧ Fr (fun _ => False) W W') ((HFB.out W hB).mono fun e w' ⟨y, h1, h2, h3⟩ => ⟨_, h1, h2, h3⟩) ?_
                          rintro v W' ⟨hv, hf⟩
                          exact ⟨_, rfl, hB.trans hf (fun _ h => h.elim), hf, ⟨v, rfl, hv⟩, fun _ _ _ _ _ => trivial⟩
                        · simp only [List.getElem?_cons_zero, List.getElem?_cons_succ, Option.some.injEq] at ho
                          subst ho
                          intro a W vs hB hS hE hU
                          obtain ⟨r35, e94⟩ := hE 35 94 (by kernel_rfl) (by kernel_rfl)
                          have v94 : a.eval (.tmp 94) = .bool false := e94.trans r35
                          refine wpG_yes 35 false 94 rfl (by kernel_rfl) (by rw [hS]; first | simp | exact Nat.le_of_ble_eq_true rfl) v94 ?_
                          have v2 : a.eval (.tmp 2) = .slice (some ⟨bp, off, none⟩) m cu := (hU 2 (by kernel_rfl)).trans rfl
                          clear hE hU
                          exact wp_value_inv (w' := W) (.slice (some ⟨bp, off, none⟩) m cu) (op_move rfl v2) ⟨_, rfl, hB, Fr.refl _ _, rfl, fun _ _ _ _ _ => trivial⟩
                        · simp only [List.getElem?_cons_zero, List.getElem?_cons_succ, Option.some.injEq] at ho
                          subst ho
                          intro a W vs hB hS hE hU
                          obtain ⟨r35, e94⟩ := hE 35 94 (by kernel_rfl) (by kernel_rfl)
                          have v94 : a.eval (.tmp 94) = .bool false := e94.trans r35
                          refine wpG_yes 35 false 94 rfl (by kernel_rfl) (by rw [hS]; first | simp | exact Nat.le_of_ble_eq_true rfl) v94 ?_
                          have v11 : a.eval (.tmp 11) = .int .i64 (ix : Nat) := (hU 11 (by kernel_rfl)).trans rfl
                          clear hE hU
                          exact wp_value_inv (w' := W) (.int .i64 (ix : Nat)) (op_move rfl v11) ⟨_, rfl, hB, Fr.refl _ _, rfl, fun _ _ _ _ _ => trivial⟩
                        · simp only [List.getElem?_cons_zero, List.getElem?_cons_succ, Option.some.injEq] at ho
                          subst ho
                          intro a W vs hB hS hE hU
                          obtain ⟨r35, e94⟩ := hE 35 94 (by kernel_rfl) (by kernel_rfl)
                          have v94 : a.eval (.tmp 94) = .bool false := e94.trans r35
                          refine wpG_yes 35 false 94 rfl (by kernel_rfl) (by rw [hS]; first | simp | exact Nat.le_of_ble_eq_true rfl) v94 ?_
                          obtain ⟨r39, e98⟩ := hE 39 98 (by kernel_rfl) (by kernel_rfl)
                          have v98 : a.eval (.tmp 98) = .slice (some ⟨bp, off, none⟩) m cu := e98.trans r39
                          obtain ⟨r40, e99⟩ := hE 40 99 (by kernel_rfl) (by kernel_rfl)
                          have v99 : a.eval (.tmp 99) = .int .i64 (ix : Nat) := e99.trans r40
                          clear hE hU
                          exact wp_value_inv (w' := W) (.pointer (some ⟨bp, off + ix * 21, none⟩)) (op_indexAddr rfl v98 v99 (run_index_paths W bp off m cu ix HIXX.out)) ⟨_, rfl, hB, Fr.refl _ _, rfl, fun _ _ _ _ _ => trivial⟩
                        · simp only [List.getElem?_cons_zero, List.getElem?_cons_succ, Option.some.injEq] at ho
                          subst ho
                          intro a W vs hB hS hE hU
                          obtain ⟨r35, e94⟩ := hE 35 94 (by kernel_rfl) (by kernel_rfl)
                          have v94 : a.eval (.tmp 94) = .bool false := e94.trans r35
                          refine wpG_yes 35 false 94 rfl (by kernel_rfl) (by rw [hS]; first | simp | exact Nat.le_of_ble_eq_true rfl) v94 ?_
                          obtain ⟨r41, e100⟩ := hE 41 100 (by kernel_rfl) (by kernel_rfl)
                          have v100 : a.eval (.tmp 100) = .pointer (some ⟨bp, off + ix * 21, none⟩) := e100.trans r41
                          clear hE hU
                          exact wp_value_inv (w' := W) (.agg CX) (op_loadAt rfl v100 (LDX.out W hB)) ⟨_, rfl, hB, Fr.refl _ _, rfl, fun _ _ _ _ _ => trivial⟩
                        · simp only [List.getElem?_cons_zero, List.getElem?_cons_succ, Option.some.injEq] at ho
                          subst ho
                          intro a W vs hB hS hE hU
                          obtain ⟨r35, e94⟩ := hE 35 94 (by kernel_rfl) (by kernel_rfl)
                          have v94 : a.eval (.tmp 94) = .bool false := e94.trans r35
                          refine wpG_yes 35 false 94 rfl (by kernel_rfl) (by rw [hS]; first | simp | exact Nat.le_of_ble_eq_true rfl) v94 ?_
                          obtain ⟨⟨y38, rg38, hg38⟩, e97⟩ := hE 38 97 (by kernel_rfl) (by kernel_rfl)
                          have v97 : a.eval (.tmp 97) = y38 := e97.trans rg38
                          obtain ⟨r42, e101⟩ := hE 42 101 (by kernel_rfl) (by kernel_rfl)
                          have v101 : a.eval (.tmp 101) = .agg CX := e101.trans r42
                          clear hE hU
                          refine wp_call_inv 13 #[.tmp 97, .tmp 101] #[35, 37] rfl #[y38, .agg CX] (by simp only [List.map_toArray, List.map_cons, List.map_nil, v97, v101]) (ent_spence_spencelaw10_holds _) (Post := fun v W' => v = .bool false ∧ Fr (fun _ => False) W W') ((fndHolds hg38 HCX.out).mono fun e w' h => ⟨_, h.1, rfl, h.2⟩) ?_
                          rintro v W' ⟨rfl, hf⟩
                          exact ⟨_, rfl, hB.trans hf (fun _ h => h.elim), hf, rfl, fun _ _ _ _ _ => trivial⟩
                        · simp only [List.getElem?_cons_zero, List.getElem?_cons_succ, Option.some.injEq] at ho
                          subst ho
                          intro a W vs hB hS hE hU
                          obtain ⟨r35, e94⟩ := hE 35 94 (by kernel_rfl) (by kernel_rfl)
                          have v94 : a.eval (.tmp 94) = .bool false := e94.trans r35
                          refine wpG_yes 35 false 94 rfl (by kernel_rfl) (by rw [hS]; first | simp | exact Nat.le_of_ble_eq_true rfl) v94 ?_
                          obtain ⟨r43, e102⟩ := hE 43 102 (by kernel_rfl) (by kernel_rfl)
                          have v102 : a.eval (.tmp 102) = .bool false := e102.trans r43
                          clear hE hU
                          exact wp_value_inv (w' := W) (.bool false) (op_move rfl v102) ⟨_, rfl, hB, Fr.refl _ _, rfl, fun _ _ _ _ _ => trivial⟩
                        · simp only [List.getElem?_cons_zero, List.getElem?_cons_succ, Option.some.injEq] at ho
                          subst ho
                          intro a W vs hB hS hE hU
                          obtain ⟨r44, e103⟩ := hE 44 103 (by kernel_rfl) (by kernel_rfl)
                          have v103 : a.eval (.tmp 103) = .bool false := e103.trans r44
                          exact wpG_no 44 true 103 rfl (by kernel_rfl) (by rw [hS]; first | simp | exact Nat.le_of_ble_eq_true rfl) v103 ⟨_, rfl, hB, Fr.refl _ _, rfl, fun _ _ _ _ _ => trivial⟩
                        · simp only [List.getElem?_cons_zero, List.getElem?_cons_succ, Option.some.injEq] at ho
                          subst ho
                          intro a W vs hB hS hE hU
                          obtain ⟨r44, e103⟩ := hE 44 103 (by kernel_rfl) (by kernel_rfl)
                          have v103 : a.eval (.tmp 103) = .bool false := e103.trans r44
                          exact wpG_no 44 true 103 rfl (by kernel_rfl) (by rw [hS]; first | simp | exact Nat.le_of_ble_eq_true rfl) v103 ⟨_, rfl, hB, Fr.refl _ _, rfl, fun _ _ _ _ _ => trivial⟩
                        · simp only [List.getElem?_cons_zero, List.getElem?_cons_succ, Option.some.injEq] at ho
                          subst ho
                          intro a W vs hB hS hE hU
                          obtain ⟨r44, e103⟩ := hE 44 103 (by kernel_rfl) (by kernel_rfl)
                          have v103 : a.eval (.tmp 103) = .bool false := e103.trans r44
                          exact wpG_no 44 true 103 rfl (by kernel_rfl) (by rw [hS]; first | simp | exact Nat.le_of_ble_eq_true rfl) v103 ⟨_, rfl, hB, Fr.refl _ _, rfl, fun _ _ _ _ _ => trivial⟩
                        · simp only [List.getElem?_cons_zero, List.getElem?_cons_succ, Option.some.injEq] at ho
                          subst ho
                          intro a W vs hB hS hE hU
                          obtain ⟨r44, e103⟩ := hE 44 103 (by kernel_rfl) (by kernel_rfl)
                          have v103 : a.eval (.tmp 103) = .bool false := e103.trans r44
                          exact wpG_no 44 true 103 rfl (by kernel_rfl) (by rw [hS]; first | simp | exact Nat.le_of_ble_eq_true rfl) v103 ⟨_, rfl, hB, Fr.refl _ _, rfl, fun _ _ _ _ _ => trivial⟩
                        · simp only [List.getElem?_cons_zero, List.getElem?_cons_succ, Option.some.injEq] at ho
                          subst ho
                          intro a W vs hB hS hE hU
                          obtain ⟨r44, e103⟩ := hE 44 103 (by kernel_rfl) (by kernel_rfl)
                          have v103 : a.eval (.tmp 103) = .bool false := e103.trans r44
                          exact wpG_no 44 true 103 rfl (by kernel_rfl) (by rw [hS]; first | simp | exact Nat.le_of_ble_eq_true rfl) v103 ⟨_, rfl, hB, Fr.refl _ _, rfl, fun _ _ _ _ _ => trivial⟩
                        · simp only [List.getElem?_cons_zero, List.getElem?_cons_succ, Option.some.injEq] at ho
                          subst ho
                          intro a W vs hB hS hE hU
                          obtain ⟨r44, e103⟩ := hE 44 103 (by kernel_rfl) (by kernel_rfl)
                          have v103 : a.eval (.tmp 103) = .bool false := e103.trans r44
                          exact wpG_no 44 true 103 rfl (by kernel_rfl) (by rw [hS]; first | simp | exact Nat.le_of_ble_eq_true rfl) v103 ⟨_, rfl, hB, Fr.refl _ _, rfl, fun _ _ _ _ _ => trivial⟩
                        · simp only [List.getElem?_cons_zero, List.getElem?_cons_succ, Option.some.injEq] at ho
                          subst ho
                          intro a W vs hB hS hE hU
                          obtain ⟨r44, e103⟩ := hE 44 103 (by kernel_rfl) (by kernel_rfl)
                          have v103 : a.eval (.tmp 103) = .bool false := e103.trans r44
                          exact wpG_no 44 true 103 rfl (by kernel_rfl) (by rw [hS]; first | simp | exact Nat.le_of_ble_eq_true rfl) v103 ⟨_, rfl, hB, Fr.refl _ _, rfl, fun _ _ _ _ _ => trivial⟩
                        · simp only [List.getElem?_cons_zero, List.getElem?_cons_succ, Option.some.injEq] at ho
                          subst ho
                          intro a W vs hB hS hE hU
                          obtain ⟨r35, e94⟩ := hE 35 94 (by kernel_rfl) (by kernel_rfl)
                          have v94 : a.eval (.tmp 94) = .bool false := e94.trans r35
                          refine wpG_yes 35 false 94 rfl (by kernel_rfl) (by rw [hS]; first | simp | exact Nat.le_of_ble_eq_true rfl) v94 ?_
                          obtain ⟨r44, e103⟩ := hE 44 103 (by kernel_rfl) (by kernel_rfl)
                          have v103 : a.eval (.tmp 103) = .bool false := e103.trans r44
                          clear hE hU
                          exact wp_value_inv (w' := W) (.bool false) (op_pick rfl v103 (by simp only [Bool.false_eq_true, if_false]; rfl)) ⟨_, rfl, hB, Fr.refl _ _, rfl, fun _ _ _ _ _ => trivial⟩
                      · intro vs Wa hB0 hR0 hD
                        have r94 : vs 35 = .bool false := hR0 35 (by decide)
                        have r111 : vs 52 = .bool false := hR0 52 (by decide)
                        have HB := Lib.hid hB0
                        clear hR0 hD hB0
                        simp only [acts, if_true, dstAt, List.getElem?_cons_zero, List.getElem?_cons_succ, Option.bind_some, Act.put, List.setIfInBounds_toArray, List.set_cons_succ, List.set_cons_zero, List.drop_succ_cons]
                        simp only [r94, r111]
                        clear r94 r111
                        go_wp2_with fail
                        go_roundw
                        case rel => exact ⟨ix + 1, by omega, by go_num, Lib.hid (hR.out.trans HB.out (fun _ h => h.elim))⟩
                        case measure => simp [intOf]; omega
                · obtain rfl : m = ix := by omega
                  have hnlt : ¬ (m : Int) < (m : Int) := by omega
                  have H5 := Lib.hid hR.out
                  clear hR hlt hix
                  go_wp2_with fail
                  generalize hw5 : wr = w5 at *
                  clear hw5 hnlt
                  go_loopw [12] (fun iv wr => ∃ ix : Nat, ix ≤ nl ∧ iv = .int .i64 ix ∧ Hid (Fr (fun _ => False) w5 wr)) (fun iv _ => nl - (intOf iv).toNat)
                  case atStart => exact ⟨0, by omega, rfl, Lib.hid (Fr.refl _ _)⟩
                  case round =>
                    obtain ⟨ix, hix, rfl, hR⟩ := hrel
                    by_cases hlt : ix < nl
                    · have hiM : ix < M.length := by rw [← H4.out.2.2.2.1]; exact hlt
                      obtain ⟨y, hy⟩ : ∃ x, x = M[ix] := ⟨_, rfl⟩
                      have hyM : y ∈ M := by rw [hy]; exact List.getElem_mem _
                      obtain ⟨bl, ol, rfl, hbG, hrg⟩ := HROWM.out (by rintro rfl; simp at hiM)
                      have hfr : Fr (fun _ => False) w4 wr := H5.out.trans hR.out (fun _ h => h.elim)
                      have hr : wr.rangeAt bl (ol + ix * 21) (cellsX M[ix]) := hfr.range (hrg ix hiM) (fun h => h)
                      rw [← hy] at hr
                      obtain ⟨jx, hj⟩ : ∃ jx, jx = ix - 1 := ⟨_, rfl⟩
                      have hjM : jx < M.length := by omega
                      obtain ⟨z, hz⟩ : ∃ x, x = M[jx] := ⟨_, rfl⟩
                      have hrz : wr.rangeAt bl (ol + jx * 21) (cellsX M[jx]) := hfr.range (hrg jx hjM) (fun h => h)
                      rw [← hz] at hrz
                      obtain ⟨CY, hCY⟩ : ∃ C, C = pathC y.h y.n := ⟨_, rfl⟩
                      obtain ⟨CZ, hCZ⟩ : ∃ C, C = pathC z.h z.n := ⟨_, rfl⟩
                      have LDY := Lib.hid (fun W (hW : Fr (fun _ => False) wr W) => show (Instr.loadAt 37 (.pointer (some ⟨bl, ol + ix * 21, none⟩))).run Try.prog W = .ok (.agg CY) W by rw [hCY]; exact load_mid_path W bl _ y (hW.range hr (fun h => h)))
                      have LDZ := Lib.hid (fun W (hW : Fr (fun _ => False) wr W) => show (Instr.loadAt 37 (.pointer (some ⟨bl, ol + jx * 21, none⟩))).run Try.prog W = .ok (.agg CZ) W by rw [hCZ]; exact load_mid_path W bl _ z (hW.range hrz (fun h => h)))
                      have hyL : decide (y ∈ L) = true := by rw [decide_eq_true_iff]; exact ((H4.out.2.2.1 y).1 hyM).1
                      have HHO := Lib.hid (fun W (hW : Fr (fun _ => False) wr W) => show Calls Try.prog 13 #[.slice au m cu, .agg CY] W fun e w' => e = .returned (.bool true) ∧ Fr (fun _ => False) W w' by rw [hCY, ← hyL]; exact holds_any W _ L y (HKP.out W (hfr.trans hW (fun _ h => h.elim))).2.2.2.1 (by have := HM3.out.2.1; omega))
                      have HIXX := Lib.hid hlt
                      have HJXX := Lib.hid (show jx < nl by omega)
                      have HNL := Lib.hid (show nl ≤ 1000 by have := H4.out.2.2.2.1; have := H4.out.2.2.2.2; omega)
                      have hlt64 : (ix : Int) < (nl : Int) := by omega
                      by_cases hi0 : ix = 0
                      · have HLS := Lib.hid True.intro
                        have HI0 := Lib.hid hi0
                        clear hy hyM hbG hrg hfr hr hjM hz hrz hCY hCZ hyL hi0 hj
                        go_wp2_with fail
                        refine wp_region_inv 23 (by kernel_rfl) (by kernel_rfl) (fun W => Fr (fun _ => False) wr W) (FmR0 au m cu bl ol nl cl ix jx CY CZ) (fun _ _ _ _ => True) (Fr (fun _ => False)) (FmR0.ext au m cu bl ol nl cl ix jx CY CZ) (Fr.refl _ _).drew ?_ ?_
                        · intro i hi o ho
                          replace hi : i < 23 := hi
                          obtain rfl | rfl | rfl | rfl | rfl | rfl | rfl | rfl | rfl | rfl | rfl | rfl | rfl | rfl | rfl | rfl | rfl | rfl | rfl | rfl | rfl | rfl | rfl : i = 0 ∨ i = 1 ∨ i = 2 ∨ i = 3 ∨ i = 4 ∨ i = 5 ∨ i = 6 ∨ i = 7 ∨ i = 8 ∨ i = 9 ∨ i = 10 ∨ i = 11 ∨ i = 12 ∨ i = 13 ∨ i = 14 ∨ i = 15 ∨ i = 16 ∨ i = 17 ∨ i = 18 ∨ i = 19 ∨ i = 20 ∨ i = 21 ∨ i = 22 := by omega
                          · simp only [List.getElem?_cons_zero, Option.some.injEq] at ho
                            subst ho
                            intro a W vs hB hS hE hU
                            refine wpG_plain rfl ?_
                            have v2 : a.eval (.tmp 2) = .slice au m cu := (hU 2 (by kernel_rfl)).trans rfl
                            clear hE hU
                            exact wp_value_inv (w' := W) (.slice au m cu) (op_move rfl v2) ⟨_, rfl, hB, Fr.refl _ _, rfl, fun _ _ _ _ _ => trivial⟩
                          · simp only [List.getElem?_cons_zero, List.getElem?_cons_succ, Option.some.injEq] at ho
                            subst ho
                            intro a W vs hB hS hE hU
                            refine wpG_plain rfl ?_
                            have v10 : a.eval (.tmp 10) = .slice (some ⟨bl, ol, none⟩) nl cl := (hU 10 (by kernel_rfl)).trans rfl
                            clear hE hU
                            exact wp_value_inv (w' := W) (.slice (some ⟨bl, ol, none⟩) nl cl) (op_move rfl v10) ⟨_, rfl, hB, Fr.refl _ _, rfl, fun _ _ _ _ _ => trivial⟩
                          · simp only [List.getElem?_cons_zero, List.getElem?_cons_succ, Option.some.injEq] at ho
                            subst ho
                            intro a W vs hB hS hE hU
                            refine wpG_plain rfl ?_
                            have v12 : a.eval (.tmp 12) = .int .i64 (ix : Nat) := (hU 12 (by kernel_rfl)).trans rfl
                            clear hE hU
                            exact wp_value_inv (w' := W) (.int .i64 (ix : Nat)) (op_move rfl v12) ⟨_, rfl, hB, Fr.refl _ _, rfl, fun _ _ _ _ _ => trivial⟩
                          · simp only [List.getElem?_cons_zero, List.getElem?_cons_succ, Option.some.injEq] at ho
                            subst ho
                            intro a W vs hB hS hE hU
                            refine wpG_plain rfl ?_
                            obtain ⟨r1, e120⟩ := hE 1 120 (by kernel_rfl) (by kernel_rfl)
                            have v120 : a.eval (.tmp 120) = .slice (some ⟨bl, ol, none⟩) nl cl := e120.trans r1
                            obtain ⟨r2, e121⟩ := hE 2 121 (by kernel_rfl) (by kernel_rfl)
                            have v121 : a.eval (.tmp 121) = .int .i64 (ix : Nat) := e121.trans r2
                            clear hE hU
                            exact wp_value_inv (w' := W) (.pointer (some ⟨bl, ol + ix * 21, none⟩)) (op_indexAddr rfl v120 v121 (run_index_paths W bl ol nl cl ix HIXX.out)) ⟨_, rfl, hB, Fr.refl _ _, rfl, fun _ _ _ _ _ => trivial⟩
                          · simp only [List.getElem?_cons_zero, List.getElem?_cons_succ, Option.some.injEq] at ho
                            subst ho
                            intro a W vs hB hS hE hU
                            refine wpG_plain rfl ?_
                            obtain ⟨r3, e122⟩ := hE 3 122 (by kernel_rfl) (by kernel_rfl)
                            have v122 : a.eval (.tmp 122) = .pointer (some ⟨bl, ol + ix * 21, none⟩) := e122.trans r3
                            clear hE hU
                            exact wp_value_inv (w' := W) (.agg CY) (op_loadAt rfl v122 (LDY.out W hB)) ⟨_, rfl, hB, Fr.refl _ _, rfl, fun _ _ _ _ _ => trivial⟩
                          · simp only [List.getElem?_cons_zero, List.getElem?_cons_succ, Option.some.injEq] at ho
                            subst ho
                            intro a W vs hB hS hE hU
                            refine wpG_plain rfl ?_
                            obtain ⟨r0, e119⟩ := hE 0 119 (by kernel_rfl) (by kernel_rfl)
                            have v119 : a.eval (.tmp 119) = .slice au m cu := e119.trans r0
                            obtain ⟨r4, e123⟩ := hE 4 123 (by kernel_rfl) (by kernel_rfl)
                            have v123 : a.eval (.tmp 123) = .agg CY := e123.trans r4
                            clear hE hU
                            refine wp_call_inv 13 #[.tmp 119, .tmp 123] #[35, 37] rfl #[.slice au m cu, .agg CY] (by simp only [List.map_toArray, List.map_cons, List.map_nil, v119, v123]) (ent_spence_spencelaw10_holds _) (Post := fun v W' => v = .bool true ∧ Fr (fun _ => False) W W') ((HHO.out W hB).mono fun e w' h => ⟨_, h.1, rfl, h.2⟩) ?_
                            rintro v W' ⟨rfl, hf⟩
                            exact ⟨_, rfl, hB.trans hf (fun _ h => h.elim), hf, rfl, fun _ _ _ _ _ => trivial⟩
                          · simp only [List.getElem?_cons_zero, List.getElem?_cons_succ, Option.some.injEq] at ho
                            subst ho
                            intro a W vs hB hS hE hU
                            refine wpG_plain rfl ?_
                            obtain ⟨r5, e124⟩ := hE 5 124 (by kernel_rfl) (by kernel_rfl)
                            have v124 : a.eval (.tmp 124) = .bool true := e124.trans r5
                            clear hE hU
                            exact wp_value_inv (w' := W) (.bool false) (op_unop rfl v124 (by rfl)) ⟨_, rfl, hB, Fr.refl _ _, rfl, fun _ _ _ _ _ => trivial⟩
                          · simp only [List.getElem?_cons_zero, List.getElem?_cons_succ, Option.some.injEq] at ho
                            subst ho
                            intro a W vs hB hS hE hU
                            refine wpG_plain rfl ?_
                            obtain ⟨r6, e125⟩ := hE 6 125 (by kernel_rfl) (by kernel_rfl)
                            have v125 : a.eval (.tmp 125) = .bool false := e125.trans r6
                            clear hE hU
                            exact wp_value_inv (w' := W) (.bool false) (op_move rfl v125) ⟨_, rfl, hB, Fr.refl _ _, rfl, fun _ _ _ _ _ => trivial⟩
                          · simp only [List.getElem?_cons_zero, List.getElem?_cons_succ, Option.some.injEq] at ho
                            subst ho
                            intro a W vs hB hS hE hU
                            obtain ⟨r7, e126⟩ := hE 7 126 (by kernel_rfl) (by kernel_rfl)
                            have v126 : a.eval (.tmp 126) = .bool false := e126.trans r7
                            refine wpG_yes 7 false 126 rfl (by kernel_rfl) (by rw [hS]; first | simp | exact Nat.le_of_ble_eq_true rfl) v126 ?_
                            have v12 : a.eval (.tmp 12) = .int .i64 (ix : Nat) := (hU 12 (by kernel_rfl)).trans rfl
                            clear hE hU
                            exact wp_value_inv (w' := W) (.int .i64 (ix : Nat)) (op_move rfl v12) ⟨_, rfl, hB, Fr.refl _ _, rfl, fun _ _ _ _ _ => trivial⟩
                          · simp only [List.getElem?_cons_zero, List.getElem?_cons_succ, Option.some.injEq] at ho
                            subst ho
                            intro a W vs hB hS hE hU
                            obtain ⟨r7, e126⟩ := hE 7 126 (by kernel_rfl) (by kernel_rfl)
                            have v126 : a.eval (.tmp 126) = .bool false := e126.trans r7
                            refine wpG_yes 7 false 126 rfl (by kernel_rfl) (by rw [hS]; first | simp | exact Nat.le_of_ble_eq_true rfl) v126 ?_
                            obtain ⟨r8, e127⟩ := hE 8 127 (by kernel_rfl) (by kernel_rfl)
                            have v127 : a.eval (.tmp 127) = .int .i64 (ix : Nat) := e127.trans r8
                            clear hE hU
                            exact wp_value_inv (w' := W) (.bool false) (op_bin rfl v127 rfl (rfl) (gtr_no (by have := HI0.out; omega))) ⟨_, rfl, hB, Fr.refl _ _, rfl, fun _ _ _ _ _ => trivial⟩
                          · simp only [List.getElem?_cons_zero, List.getElem?_cons_succ, Option.some.injEq] at ho
                            subst ho
                            intro a W vs hB hS hE hU
                            obtain ⟨r7, e126⟩ := hE 7 126 (by kernel_rfl) (by kernel_rfl)
                            have v126 : a.eval (.tmp 126) = .bool false := e126.trans r7
                            refine wpG_yes 7 false 126 rfl (by kernel_rfl) (by rw [hS]; first | simp | exact Nat.le_of_ble_eq_true rfl) v126 ?_
                            obtain ⟨r9, e128⟩ := hE 9 128 (by kernel_rfl) (by kernel_rfl)
                            have v128 : a.eval (.tmp 128) = .bool false := e128.trans r9
                            clear hE hU
                            exact wp_value_inv (w' := W) (.bool false) (op_move rfl v128) ⟨_, rfl, hB, Fr.refl _ _, rfl, fun _ _ _ _ _ => trivial⟩
                          · simp only [List.getElem?_cons_zero, List.getElem?_cons_succ, Option.some.injEq] at ho
                            subst ho
                            intro a W vs hB hS hE hU
                            obtain ⟨r10, e129⟩ := hE 10 129 (by kernel_rfl) (by kernel_rfl)
                            have v129 : a.eval (.tmp 129) = .bool false := e129.trans r10
                            exact wpG_no 10 true 129 rfl (by kernel_rfl) (by rw [hS]; first | simp | exact Nat.le_of_ble_eq_true rfl) v129 ⟨_, rfl, hB, Fr.refl _ _, rfl, fun _ _ _ _ _ => trivial⟩
                          · simp only [List.getElem?_cons_zero, List.getElem?_cons_succ, Option.some.injEq] at ho
                            subst ho
                            intro a W vs hB hS hE hU
                            obtain ⟨r10, e129⟩ := hE 10 129 (by kernel_rfl) (by kernel_rfl)
                            have v129 : a.eval (.tmp 129) = .bool false := e129.trans r10
                            exact wpG_no 10 true 129 rfl (by kernel_rfl) (by rw [hS]; first | simp | exact Nat.le_of_ble_eq_true rfl) v129 ⟨_, rfl, hB, Fr.refl _ _, rfl, fun _ _ _ _ _ => trivial⟩
                          · simp only [List.getElem?_cons_zero, List.getElem?_cons_succ, Option.some.injEq] at ho
                            subst ho
                            intro a W vs hB hS hE hU
                            obtain ⟨r10, e129⟩ := hE 10 129 (by kernel_rfl) (by kernel_rfl)
                            have v129 : a.eval (.tmp 129) = .bool false := e129.trans r10
                            exact wpG_no 10 true 129 rfl (by kernel_rfl) (by rw [hS]; first | simp | exact Nat.le_of_ble_eq_true rfl) v129 ⟨_, rfl, hB, Fr.refl _ _, rfl, fun _ _ _ _ _ => trivial⟩
                          · simp only [List.getElem?_cons_zero, List.getElem?_cons_succ, Option.some.injEq] at ho
                            subst ho
                            intro a W vs hB hS hE hU
                            obtain ⟨r10, e129⟩ := hE 10 129 (by kernel_rfl) (by kernel_rfl)
                            have v129 : a.eval (.tmp 129) = .bool false := e129.trans r10
                            exact wpG_no 10 true 129 rfl (by kernel_rfl) (by rw [hS]; first | simp | exact Nat.le_of_ble_eq_true rfl) v129 ⟨_, rfl, hB, Fr.refl _ _, rfl, fun _ _ _ _ _ => trivial⟩
                          · simp only [List.getElem?_cons_zero, List.getElem?_cons_succ, Option.some.injEq] at ho
                            subst ho
                            intro a W vs hB hS hE hU
                            obtain ⟨r10, e129⟩ := hE 10 129 (by kernel_rfl) (by kernel_rfl)
                            have v129 : a.eval (.tmp 129) = .bool false := e129.trans r10
                            exact wpG_no 10 true 129 rfl (by kernel_rfl) (by rw [hS]; first | simp | exact Nat.le_of_ble_eq_true rfl) v129 ⟨_, rfl, hB, Fr.refl _ _, rfl, fun _ _ _ _ _ => trivial⟩
                          · simp only [List.getElem?_cons_zero, List.getElem?_cons_succ, Option.some.injEq] at ho
                            subst ho
                            intro a W vs hB hS hE hU
                            obtain ⟨r10, e129⟩ := hE 10 129 (by kernel_rfl) (by kernel_rfl)
                            have v129 : a.eval (.tmp 129) = .bool false := e129.trans r10
                            exact wpG_no 10 true 129 rfl (by kernel_rfl) (by rw [hS]; first | simp | exact Nat.le_of_ble_eq_true rfl) v129 ⟨_, rfl, hB, Fr.refl _ _, rfl, fun _ _ _ _ _ => trivial⟩
                          · simp only [List.getElem?_cons_zero, List.getElem?_cons_succ, Option.some.injEq] at ho
                            subst ho
                            intro a W vs hB hS hE hU
                            obtain ⟨r10, e129⟩ := hE 10 129 (by kernel_rfl) (by kernel_rfl)
                            have v129 : a.eval (.tmp 129) = .bool false := e129.trans r10
                            exact wpG_no 10 true 129 rfl (by kernel_rfl) (by rw [hS]; first | simp | exact Nat.le_of_ble_eq_true rfl) v129 ⟨_, rfl, hB, Fr.refl _ _, rfl, fun _ _ _ _ _ => trivial⟩
                          · simp only [List.getElem?_cons_zero, List.getElem?_cons_succ, Option.some.injEq] at ho
                            subst ho
                            intro a W vs hB hS hE hU
                            obtain ⟨r10, e129⟩ := hE 10 129 (by kernel_rfl) (by kernel_rfl)
                            have v129 : a.eval (.tmp 129) = .bool false := e129.trans r10
                            exact wpG_no 10 true 129 rfl (by kernel_rfl) (by rw [hS]; first | simp | exact Nat.le_of_ble_eq_true rfl) v129 ⟨_, rfl, hB, Fr.refl _ _, rfl, fun _ _ _ _ _ => trivial⟩
                          · simp only [List.getElem?_cons_zero, List.getElem?_cons_succ, Option.some.injEq] at ho
                            subst ho
                            intro a W vs hB hS hE hU
                            obtain ⟨r10, e129⟩ := hE 10 129 (by kernel_rfl) (by kernel_rfl)
                            have v129 : a.eval (.tmp 129) = .bool false := e129.trans r10
                            exact wpG_no 10 true 129 rfl (by kernel_rfl) (by rw [hS]; first | simp | exact Nat.le_of_ble_eq_true rfl) v129 ⟨_, rfl, hB, Fr.refl _ _, rfl, fun _ _ _ _ _ => trivial⟩
                          · simp only [List.getElem?_cons_zero, List.getElem?_cons_succ, Option.some.injEq] at ho
                            subst ho
                            intro a W vs hB hS hE hU
                            obtain ⟨r10, e129⟩ := hE 10 129 (by kernel_rfl) (by kernel_rfl)
                            have v129 : a.eval (.tmp 129) = .bool false := e129.trans r10
                            exact wpG_no 10 true 129 rfl (by kernel_rfl) (by rw [hS]; first | simp | exact Nat.le_of_ble_eq_true rfl) v129 ⟨_, rfl, hB, Fr.refl _ _, rfl, fun _ _ _ _ _ => trivial⟩
                          · simp only [List.getElem?_cons_zero, List.getElem?_cons_succ, Option.some.injEq] at ho
                            subst ho
                            intro a W vs hB hS hE hU
                            obtain ⟨r10, e129⟩ := hE 10 129 (by kernel_rfl) (by kernel_rfl)
                            have v129 : a.eval (.tmp 129) = .bool false := e129.trans r10
                            exact wpG_no 10 true 129 rfl (by kernel_rfl) (by rw [hS]; first | simp | exact Nat.le_of_ble_eq_true rfl) v129 ⟨_, rfl, hB, Fr.refl _ _, rfl, fun _ _ _ _ _ => trivial⟩
                          · simp only [List.getElem?_cons_zero, List.getElem?_cons_succ, Option.some.injEq] at ho
                            subst ho
                            intro a W vs hB hS hE hU
                            obtain ⟨r7, e126⟩ := hE 7 126 (by kernel_rfl) (by kernel_rfl)
                            have v126 : a.eval (.tmp 126) = .bool false := e126.trans r7
                            refine wpG_yes 7 false 126 rfl (by kernel_rfl) (by rw [hS]; first | simp | exact Nat.le_of_ble_eq_true rfl) v126 ?_
                            obtain ⟨r10, e129⟩ := hE 10 129 (by kernel_rfl) (by kernel_rfl)
                            have v129 : a.eval (.tmp 129) = .bool false := e129.trans r10
                            clear hE hU
                            exact wp_value_inv (w' := W) (.bool false) (op_pick rfl v129 (by simp only [Bool.false_eq_true, if_false]; rfl)) ⟨_, rfl, hB, Fr.refl _ _, rfl, fun _ _ _ _ _ => trivial⟩
                        · intro vs Wa hB0 hR0 hD
                          have r126 : vs 7 = .bool false := hR0 7 (by decide)
                          have r141 : vs 22 = .bool false := hR0 22 (by decide)
                          have HB := Lib.hid hB0
                          clear hR0 hD hB0
                          simp only [acts, if_true, dstAt, List.getElem?_cons_zero, List.getElem?_cons_succ, Option.bind_some, Act.put, List.setIfInBounds_toArray, List.set_cons_succ, List.set_cons_zero, List.drop_succ_cons]
                          simp only [r126, r141]
                          clear r126 r141
                          go_wp2_with fail
                          go_roundw
                          case rel => exact ⟨ix + 1, by omega, by go_num, Lib.hid (hR.out.trans HB.out (fun _ h => h.elim))⟩
                          case measure => simp [intOf]; omega
                      · have hlz : lessX z y = true := by rw [hz, hy]; exact List.pairwise_iff_getElem.1 H4.out.2.1 jx ix hjM hiM (by omega)
                        have HLS := Lib.hid (fun (W : World) => show Calls Try.prog 14 #[.agg CZ, .agg CY] W fun e w' => e = .returned (.bool true) ∧ Fr (fun _ => False) W w' by rw [hCZ, hCY, ← hlz]; exact bLessX_any z y W)
                        have HI0 := Lib.hid (show 1 ≤ ix ∧ jx + 1 = ix by omega)
                        clear hy hyM hbG hrg hfr hr hjM hz hrz hCY hCZ hyL hi0 hj hlz
                        go_wp2_with fail
                        refine wp_region_inv 23 (by kernel_rfl) (by kernel_rfl) (fun W => Fr (fun _ => False) wr W) (FmR1 au m cu bl ol nl cl ix jx CY CZ) (fun _ _ _ _ => True) (Fr (fun _ => False)) (FmR1.ext au m cu bl ol nl cl ix jx CY CZ) (Fr.refl _ _).drew ?_ ?_
                        · intro i hi o ho
                          replace hi : i < 23 := hi
                          obtain rfl | rfl | rfl | rfl | rfl | rfl | rfl | rfl | rfl | rfl | rfl | rfl | rfl | rfl | rfl | rfl | rfl | rfl | rfl | rfl | rfl | rfl | rfl : i = 0 ∨ i = 1 ∨ i = 2 ∨ i = 3 ∨ i = 4 ∨ i = 5 ∨ i = 6 ∨ i = 7 ∨ i = 8 ∨ i = 9 ∨ i = 10 ∨ i = 11 ∨ i = 12 ∨ i = 13 ∨ i = 14 ∨ i = 15 ∨ i = 16 ∨ i = 17 ∨ i = 18 ∨ i = 19 ∨ i = 20 ∨ i = 21 ∨ i = 22 := by omega
                          · simp only [List.getElem?_cons_zero, Option.some.injEq] at ho
                            subst ho
                            intro a W vs hB hS hE hU
                            refine wpG_plain rfl ?_
                            have v2 : a.eval (.tmp 2) = .slice au m cu := (hU 2 (by kernel_rfl)).trans rfl
                            clear hE hU
                            exact wp_value_inv (w' := W) (.slice au m cu) (op_move rfl v2) ⟨_, rfl, hB, Fr.refl _ _, rfl, fun _ _ _ _ _ => trivial⟩
                          · simp only [List.getElem?_cons_zero, List.getElem?_cons_succ, Option.some.injEq] at ho
                            subst ho
                            intro a W vs hB hS hE hU
                            refine wpG_plain rfl ?_
                            have v10 : a.eval (.tmp 10) = .slice (some ⟨bl, ol, none⟩) nl cl := (hU 10 (by kernel_rfl)).trans rfl
                            clear hE hU
                            exact wp_value_inv (w' := W) (.slice (some ⟨bl, ol, none⟩) nl cl) (op_move rfl v10) ⟨_, rfl, hB, Fr.refl _ _, rfl, fun _ _ _ _ _ => trivial⟩
                          · simp only [List.getElem?_cons_zero, List.getElem?_cons_succ, Option.some.injEq] at ho
                            subst ho
                            intro a W vs hB hS hE hU
                            refine wpG_plain rfl ?_
                            have v12 : a.eval (.tmp 12) = .int .i64 (ix : Nat) := (hU 12 (by kernel_rfl)).trans rfl
                            clear hE hU
                            exact wp_value_inv (w' := W) (.int .i64 (ix : Nat)) (op_move rfl v12) ⟨_, rfl, hB, Fr.refl _ _, rfl, fun _ _ _ _ _ => trivial⟩
                          · simp only [List.getElem?_cons_zero, List.getElem?_cons_succ, Option.some.injEq] at ho
                            subst ho
                            intro a W vs hB hS hE hU
                            refine wpG_plain rfl ?_
                            obtain ⟨r1, e120⟩ := hE 1 120 (by kernel_rfl) (by kernel_rfl)
                            have v120 : a.eval (.tmp 120) = .slice (some ⟨bl, ol, none⟩) nl cl := e120.trans r1
                            obtain ⟨r2, e121⟩ := hE 2 121 (by kernel_rfl) (by kernel_rfl)
                            have v121 : a.eval (.tmp 121) = .int .i64 (ix : Nat) := e121.trans r2
                            clear hE hU
                            exact wp_value_inv (w' := W) (.pointer (some ⟨bl, ol + ix * 21, none⟩)) (op_indexAddr rfl v120 v121 (run_index_paths W bl ol nl cl ix HIXX.out)) ⟨_, rfl, hB, Fr.refl _ _, rfl, fun _ _ _ _ _ => trivial⟩
                          · simp only [List.getElem?_cons_zero, List.getElem?_cons_succ, Option.some.injEq] at ho
                            subst ho
                            intro a W vs hB hS hE hU
                            refine wpG_plain rfl ?_
                            obtain ⟨r3, e122⟩ := hE 3 122 (by kernel_rfl) (by kernel_rfl)
                            have v122 : a.eval (.tmp 122) = .pointer (some ⟨bl, ol + ix * 21, none⟩) := e122.trans r3
                            clear hE hU
                            exact wp_value_inv (w' := W) (.agg CY) (op_loadAt rfl v122 (LDY.out W hB)) ⟨_, rfl, hB, Fr.refl _ _, rfl, fun _ _ _ _ _ => trivial⟩
                          · simp only [List.getElem?_cons_zero, List.getElem?_cons_succ, Option.some.injEq] at ho
                            subst ho
                            intro a W vs hB hS hE hU
                            refine wpG_plain rfl ?_
                            obtain ⟨r0, e119⟩ := hE 0 119 (by kernel_rfl) (by kernel_rfl)
                            have v119 : a.eval (.tmp 119) = .slice au m cu := e119.trans r0
                            obtain ⟨r4, e123⟩ := hE 4 123 (by kernel_rfl) (by kernel_rfl)
                            have v123 : a.eval (.tmp 123) = .agg CY := e123.trans r4
                            clear hE hU
                            refine wp_call_inv 13 #[.tmp 119, .tmp 123] #[35, 37] rfl #[.slice au m cu, .agg CY] (by simp only [List.map_toArray, List.map_cons, List.map_nil, v119, v123]) (ent_spence_spencelaw10_holds _) (Post := fun v W' => v = .bool true ∧ Fr (fun _ => False) W W') ((HHO.out W hB).mono fun e w' h => ⟨_, h.1, rfl, h.2⟩) ?_
                            rintro v W' ⟨rfl, hf⟩
                            exact ⟨_, rfl, hB.trans hf (fun _ h => h.elim), hf, rfl, fun _ _ _ _ _ => trivial⟩
                          · simp only [List.getElem?_cons_zero, List.getElem?_cons_succ, Option.some.injEq] at ho
                            subst ho
                            intro a W vs hB hS hE hU
                            refine wpG_plain rfl ?_
                            obtain ⟨r5, e124⟩ := hE 5 124 (by kernel_rfl) (by kernel_rfl)
                            have v124 : a.eval (.tmp 124) = .bool true := e124.trans r5
                            clear hE hU
                            exact wp_value_inv (w' := W) (.bool false) (op_unop rfl v124 (by rfl)) ⟨_, rfl, hB, Fr.refl _ _, rfl, fun _ _ _ _ _ => trivial⟩
                          · simp only [List.getElem?_cons_zero, List.getElem?_cons_succ, Option.some.injEq] at ho
                            subst ho
                            intro a W vs hB hS hE hU
                            refine wpG_plain rfl ?_
                            obtain ⟨r6, e125⟩ := hE 6 125 (by kernel_rfl) (by kernel_rfl)
                            have v125 : a.eval (.tmp 125) = .bool false := e125.trans r6
                            clear hE hU
                            exact wp_value_inv (w' := W) (.bool false) (op_move rfl v125) ⟨_, rfl, hB, Fr.refl _ _, rfl, fun _ _ _ _ _ => trivial⟩
                          · simp only [List.getElem?_cons_zero, List.getElem?_cons_succ, Option.some.injEq] at ho
                            subst ho
                            intro a W vs hB hS hE hU
                            obtain ⟨r7, e126⟩ := hE 7 126 (by kernel_rfl) (by kernel_rfl)
                            have v126 : a.eval (.tmp 126) = .bool false := e126.trans r7
                            refine wpG_yes 7 false 126 rfl (by kernel_rfl) (by rw [hS]; first | simp | exact Nat.le_of_ble_eq_true rfl) v126 ?_
                            have v12 : a.eval (.tmp 12) = .int .i64 (ix : Nat) := (hU 12 (by kernel_rfl)).trans rfl
                            clear hE hU
                            exact wp_value_inv (w' := W) (.int .i64 (ix : Nat)) (op_move rfl v12) ⟨_, rfl, hB, Fr.refl _ _, rfl, fun _ _ _ _ _ => trivial⟩
                          · simp only [List.getElem?_cons_zero, List.getElem?_cons_succ, Option.some.injEq] at ho
                            subst ho
                            intro a W vs hB hS hE hU
                            obtain ⟨r7, e126⟩ := hE 7 126 (by kernel_rfl) (by kernel_rfl)
                            have v126 : a.eval (.tmp 126) = .bool false := e126.trans r7
                            refine wpG_yes 7 false 126 rfl (by kernel_rfl) (by rw [hS]; first | simp | exact Nat.le_of_ble_eq_true rfl) v126 ?_
                            obtain ⟨r8, e127⟩ := hE 8 127 (by kernel_rfl) (by kernel_rfl)
                            have v127 : a.eval (.tmp 127) = .int .i64 (ix : Nat) := e127.trans r8
                            clear hE hU
                            exact wp_value_inv (w' := W) (.bool true) (op_bin rfl v127 rfl (rfl) (gtr_yes (by have := HI0.out; omega))) ⟨_, rfl, hB, Fr.refl _ _, rfl, fun _ _ _ _ _ => trivial⟩
                          · simp only [List.getElem?_cons_zero, List.getElem?_cons_succ, Option.some.injEq] at ho
                            subst ho
                            intro a W vs hB hS hE hU
                            obtain ⟨r7, e126⟩ := hE 7 126 (by kernel_rfl) (by kernel_rfl)
                            have v126 : a.eval (.tmp 126) = .bool false := e126.trans r7
                            refine wpG_yes 7 false 126 rfl (by kernel_rfl) (by rw [hS]; first | simp | exact Nat.le_of_ble_eq_true rfl) v126 ?_
                            obtain ⟨r9, e128⟩ := hE 9 128 (by kernel_rfl) (by kernel_rfl)
                            have v128 : a.eval (.tmp 128) = .bool true := e128.trans r9
                            clear hE hU
                            exact wp_value_inv (w' := W) (.bool true) (op_move rfl v128) ⟨_, rfl, hB, Fr.refl _ _, rfl, fun _ _ _ _ _ => trivial⟩
                          · simp only [List.getElem?_cons_zero, List.getElem?_cons_succ, Option.some.injEq] at ho
                            subst ho
                            intro a W vs hB hS hE hU
                            obtain ⟨r10, e129⟩ := hE 10 129 (by kernel_rfl) (by kernel_rfl)
                            have v129 : a.eval (.tmp 129) = .bool true := e129.trans r10
                            refine wpG_yes 10 true 129 rfl (by kernel_rfl) (by rw [hS]; first | simp | exact Nat.le_of_ble_eq_true rfl) v129 ?_
                            have v10 : a.eval (.tmp 10) = .slice (some ⟨bl, ol, none⟩) nl cl := (hU 10 (by kernel_rfl)).trans rfl
                            clear hE hU
                            exact wp_value_inv (w' := W) (.slice (some ⟨bl, ol, none⟩) nl cl) (op_move rfl v10) ⟨_, rfl, hB, Fr.refl _ _, rfl, fun _ _ _ _ _ => trivial⟩
                          · simp only [List.getElem?_cons_zero, List.getElem?_cons_succ, Option.some.injEq] at ho
                            subst ho
                            intro a W vs hB hS hE hU
                            obtain ⟨r10, e129⟩ := hE 10 129 (by kernel_rfl) (by kernel_rfl)
                            have v129 : a.eval (.tmp 129) = .bool true := e129.trans r10
                            refine wpG_yes 10 true 129 rfl (by kernel_rfl) (by rw [hS]; first | simp | exact Nat.le_of_ble_eq_true rfl) v129 ?_
                            have v12 : a.eval (.tmp 12) = .int .i64 (ix : Nat) := (hU 12 (by kernel_rfl)).trans rfl
                            clear hE hU
                            exact wp_value_inv (w' := W) (.int .i64 (ix : Nat)) (op_move rfl v12) ⟨_, rfl, hB, Fr.refl _ _, rfl, fun _ _ _ _ _ => trivial⟩
                          · simp only [List.getElem?_cons_zero, List.getElem?_cons_succ, Option.some.injEq] at ho
                            subst ho
                            intro a W vs hB hS hE hU
                            obtain ⟨r10, e129⟩ := hE 10 129 (by kernel_rfl) (by kernel_rfl)
                            have v129 : a.eval (.tmp 129) = .bool true := e129.trans r10
                            refine wpG_yes 10 true 129 rfl (by kernel_rfl) (by rw [hS]; first | simp | exact Nat.le_of_ble_eq_true rfl) v129 ?_
                            obtain ⟨r12, e131⟩ := hE 12 131 (by kernel_rfl) (by kernel_rfl)
                            have v131 : a.eval (.tmp 131) = .int .i64 (ix : Nat) := e131.trans r12
                            clear hE hU
                            exact wp_value_inv (w' := W) (.int .i64 (jx : Nat)) (op_bin rfl v131 rfl (rfl) (sub_in5 (by have := HI0.out; omega) (by omega) (by have := HI0.out; have := HNL.out; omega))) ⟨_, rfl, hB, Fr.refl _ _, rfl, fun _ _ _ _ _ => trivial⟩
                          · simp only [List.getElem?_cons_zero, List.getElem?_cons_succ, Option.some.injEq] at ho
                            subst ho
                            intro a W vs hB hS hE hU
                            obtain ⟨r10, e129⟩ := hE 10 129 (by kernel_rfl) (by kernel_rfl)
                            have v129 : a.eval (.tmp 129) = .bool true := e129.trans r10
                            refine wpG_yes 10 true 129 rfl (by kernel_rfl) (by rw [hS]; first | simp | exact Nat.le_of_ble_eq_true rfl) v129 ?_
                            obtain ⟨r11, e130⟩ := hE 11 130 (by kernel_rfl) (by kernel_rfl)
                            have v130 : a.eval (.tmp 130) = .slice (some ⟨bl, ol, none⟩) nl cl := e130.trans r11
                            obtain ⟨r13, e132⟩ := hE 13 132 (by kernel_rfl) (by kernel_rfl)
                            have v132 : a.eval (.tmp 132) = .int .i64 (jx : Nat) := e132.trans r13
                            clear hE hU
                            exact wp_value_inv (w' := W) (.pointer (some ⟨bl, ol + jx * 21, none⟩)) (op_indexAddr rfl v130 v132 (run_index_paths W bl ol nl cl jx HJXX.out)) ⟨_, rfl, hB, Fr.refl _ _, rfl, fun _ _ _ _ _ => trivial⟩
                          · simp only [List.getElem?_cons_zero, List.getElem?_cons_succ, Option.some.injEq] at ho
                            subst ho
                            intro a W vs hB hS hE hU
                            obtain ⟨r10, e129⟩ := hE 10 129 (by kernel_rfl) (by kernel_rfl)
                            have v129 : a.eval (.tmp 129) = .bool true := e129.trans r10
                            refine wpG_yes 10 true 129 rfl (by kernel_rfl) (by rw [hS]; first | simp | exact Nat.le_of_ble_eq_true rfl) v129 ?_
                            obtain ⟨r14, e133⟩ := hE 14 133 (by kernel_rfl) (by kernel_rfl)
                            have v133 : a.eval (.tmp 133) = .pointer (some ⟨bl, ol + jx * 21, none⟩) := e133.trans r14
                            clear hE hU
                            exact wp_value_inv (w' := W) (.agg CZ) (op_loadAt rfl v133 (LDZ.out W hB)) ⟨_, rfl, hB, Fr.refl _ _, rfl, fun _ _ _ _ _ => trivial⟩
                          · simp only [List.getElem?_cons_zero, List.getElem?_cons_succ, Option.some.injEq] at ho
                            subst ho
                            intro a W vs hB hS hE hU
                            obtain ⟨r10, e129⟩ := hE 10 129 (by kernel_rfl) (by kernel_rfl)
                            have v129 : a.eval (.tmp 129) = .bool true := e129.trans r10
                            refine wpG_yes 10 true 129 rfl (by kernel_rfl) (by rw [hS]; first | simp | exact Nat.le_of_ble_eq_true rfl) v129 ?_
                            have v10 : a.eval (.tmp 10) = .slice (some ⟨bl, ol, none⟩) nl cl := (hU 10 (by kernel_rfl)).trans rfl
                            clear hE hU
                            exact wp_value_inv (w' := W) (.slice (some ⟨bl, ol, none⟩) nl cl) (op_move rfl v10) ⟨_, rfl, hB, Fr.refl _ _, rfl, fun _ _ _ _ _ => trivial⟩
                          · simp only [List.getElem?_cons_zero, List.getElem?_cons_succ, Option.some.injEq] at ho
                            subst ho
                            intro a W vs hB hS hE hU
                            obtain ⟨r10, e129⟩ := hE 10 129 (by kernel_rfl) (by kernel_rfl)
                            have v129 : a.eval (.tmp 129) = .bool true := e129.trans r10
                            refine wpG_yes 10 true 129 rfl (by kernel_rfl) (by rw [hS]; first | simp | exact Nat.le_of_ble_eq_true rfl) v129 ?_
                            have v12 : a.eval (.tmp 12) = .int .i64 (ix : Nat) := (hU 12 (by kernel_rfl)).trans rfl
                            clear hE hU
                            exact wp_value_inv (w' := W) (.int .i64 (ix : Nat)) (op_move rfl v12) ⟨_, rfl, hB, Fr.refl _ _, rfl, fun _ _ _ _ _ => trivial⟩
                          · simp only [List.getElem?_cons_zero, List.getElem?_cons_succ, Option.some.injEq] at ho
                            subst ho
                            intro a W vs hB hS hE hU
                            obtain ⟨r10, e129⟩ := hE 10 129 (by kernel_rfl) (by kernel_rfl)
                            have v129 : a.eval (.tmp 129) = .bool true := e129.trans r10
                            refine wpG_yes 10 true 129 rfl (by kernel_rfl) (by rw [hS]; first | simp | exact Nat.le_of_ble_eq_true rfl) v129 ?_
                            obtain ⟨r16, e135⟩ := hE 16 135 (by kernel_rfl) (by kernel_rfl)
                            have v135 : a.eval (.tmp 135) = .slice (some ⟨bl, ol, none⟩) nl cl := e135.trans r16
                            obtain ⟨r17, e136⟩ := hE 17 136 (by kernel_rfl) (by kernel_rfl)
                            have v136 : a.eval (.tmp 136) = .int .i64 (ix : Nat) := e136.trans r17
                            clear hE hU
                            exact wp_value_inv (w' := W) (.pointer (some ⟨bl, ol + ix * 21, none⟩)) (op_indexAddr rfl v135 v136 (run_index_paths W bl ol nl cl ix HIXX.out)) ⟨_, rfl, hB, Fr.refl _ _, rfl, fun _ _ _ _ _ => trivial⟩
                          · simp only [List.getElem?_cons_zero, List.getElem?_cons_succ, Option.some.injEq] at ho
                            subst ho
                            intro a W vs hB hS hE hU
                            obtain ⟨r10, e129⟩ := hE 10 129 (by kernel_rfl) (by kernel_rfl)
                            have v129 : a.eval (.tmp 129) = .bool true := e129.trans r10
                            refine wpG_yes 10 true 129 rfl (by kernel_rfl) (by rw [hS]; first | simp | exact Nat.le_of_ble_eq_true rfl) v129 ?_
                            obtain ⟨r18, e137⟩ := hE 18 137 (by kernel_rfl) (by kernel_rfl)
                            have v137 : a.eval (.tmp 137) = .pointer (some ⟨bl, ol + ix * 21, none⟩) := e137.trans r18
                            clear hE hU
                            exact wp_value_inv (w' := W) (.agg CY) (op_loadAt rfl v137 (LDY.out W hB)) ⟨_, rfl, hB, Fr.refl _ _, rfl, fun _ _ _ _ _ => trivial⟩
                          · simp only [List.getElem?_cons_zero, List.getElem?_cons_succ, Option.some.injEq] at ho
                            subst ho
                            intro a W vs hB hS hE hU
                            obtain ⟨r10, e129⟩ := hE 10 129 (by kernel_rfl) (by kernel_rfl)
                            have v129 : a.eval (.tmp 129) = .bool true := e129.trans r10
                            refine wpG_yes 10 true 129 rfl (by kernel_rfl) (by rw [hS]; first | simp | exact Nat.le_of_ble_eq_true rfl) v129 ?_
                            obtain ⟨r15, e134⟩ := hE 15 134 (by kernel_rfl) (by kernel_rfl)
                            have v134 : a.eval (.tmp 134) = .agg CZ := e134.trans r15
                            obtain ⟨r19, e138⟩ := hE 19 138 (by kernel_rfl) (by kernel_rfl)
                            have v138 : a.eval (.tmp 138) = .agg CY := e138.trans r19
                            clear hE hU
                            refine wp_call_inv 14 #[.tmp 134, .tmp 138] #[37, 37] rfl #[.agg CZ, .agg CY] (by simp only [List.map_toArray, List.map_cons, List.map_nil, v134, v138]) (ent_spence_base_Less _) (Post := fun v W' => v = .bool true ∧ Fr (fun _ => False) W W') ((HLS.out W).mono fun e w' h => ⟨_, h.1, rfl, h.2⟩) ?_
                            rintro v W' ⟨rfl, hf⟩
                            exact ⟨_, rfl, hB.trans hf (fun _ h => h.elim), hf, rfl, fun _ _ _ _ _ => trivial⟩
                          · simp only [List.getElem?_cons_zero, List.getElem?_cons_succ, Option.some.injEq] at ho
                            subst ho
                            intro a W vs hB hS hE hU
                            obtain ⟨r10, e129⟩ := hE 10 129 (by kernel_rfl) (by kernel_rfl)
                            have v129 : a.eval (.tmp 129) = .bool true := e129.trans r10
                            refine wpG_yes 10 true 129 rfl (by kernel_rfl) (by rw [hS]; first | simp | exact Nat.le_of_ble_eq_true rfl) v129 ?_
                            obtain ⟨r20, e139⟩ := hE 20 139 (by kernel_rfl) (by kernel_rfl)
                            have v139 : a.eval (.tmp 139) = .bool true := e139.trans r20
                            clear hE hU
                            exact wp_value_inv (w' := W) (.bool false) (op_unop rfl v139 (by rfl)) ⟨_, rfl, hB, Fr.refl _ _, rfl, fun _ _ _ _ _ => trivial⟩
                          · simp only [List.getElem?_cons_zero, List.getElem?_cons_succ, Option.some.injEq] at ho
                            subst ho
                            intro a W vs hB hS hE hU
                            obtain ⟨r7, e126⟩ := hE 7 126 (by kernel_rfl) (by kernel_rfl)
                            have v126 : a.eval (.tmp 126) = .bool false := e126.trans r7
                            refine wpG_yes 7 false 126 rfl (by kernel_rfl) (by rw [hS]; first | simp | exact Nat.le_of_ble_eq_true rfl) v126 ?_
                            obtain ⟨r10, e129⟩ := hE 10 129 (by kernel_rfl) (by kernel_rfl)
                            have v129 : a.eval (.tmp 129) = .bool true := e129.trans r10
                            obtain ⟨r21, e140⟩ := hE 21 140 (by kernel_rfl) (by kernel_rfl)
                            have v140 : a.eval (.tmp 140) = .bool false := e140.trans r21
                            clear hE hU
                            exact wp_value_inv (w' := W) (.bool false) (op_pick rfl v129 (by simp only [if_true]; exact v140)) ⟨_, rfl, hB, Fr.refl _ _, rfl, fun _ _ _ _ _ => trivial⟩
                        · intro vs Wa hB0 hR0 hD
                          have r126 : vs 7 = .bool false := hR0 7 (by decide)
                          have r141 : vs 22 = .bool false := hR0 22 (by decide)
                          have HB := Lib.hid hB0
                          clear hR0 hD hB0
                          simp only [acts, if_true, dstAt, List.getElem?_cons_zero, List.getElem?_cons_succ, Option.bind_some, Act.put, List.setIfInBounds_toArray, List.set_cons_succ, List.set_cons_zero, List.drop_succ_cons]
                          simp only [r126, r141]
                          clear r126 r141
                          go_wp2_with fail
                          go_roundw
                          case rel => exact ⟨ix + 1, by omega, by go_num, Lib.hid (hR.out.trans HB.out (fun _ h => h.elim))⟩
                          case measure => simp [intOf]; omega
                    · have hnlt : ¬ (ix : Int) < (nl : Int) := by omega
                      have h6 := H5.out.trans hR.out (fun _ h => h.elim)
                      have HK6 := Lib.hid (HKP.out wr h6)
                      have HFO := Lib.hid (fFound_any wr _ _ (a ++ b) M HK6.out.1 HK6.out.2.2.2.2.2.2 HK6.out.2.2.2.2.1 HK6.out.2.2.2.2.2.2 H4.out.2.2.2.2 (fun x hx => HM3.out.2.2.1 x ((H4.out.2.2.1 x).1 hx).1) HM3.out.2.2.2.2.2.1)
                      have H6 := Lib.hid h6
                      clear h6 hR
                      go_wp2_with (first
                        | (go_at_call 12; refine HFO.out.mono ?_; rintro e w7 ⟨y7, M7, rfl, hy7, hasc7, hmem7, hf7⟩; (have he7 : M7 = M := Asc.same lessX_strict hasc7 H4.out.2.1 (fun x => (hmem7 x).trans ⟨fun h => h.1, fun h => ⟨h, ((H4.out.2.2.1 x).1 h).2⟩⟩)); rw [he7] at hy7; (have HSP := Lib.hid (samePaths_any w7 _ _ M hy7 (HK6.out.2.2.2.2.1.keep hf7 (fun _ _ _ h => h)) (by have := H4.out.2.2.2.2; omega))); (have H7 := Lib.hid (H6.out.trans hf7 (fun _ h => h.elim))); clear hy7 hasc7 hmem7 hf7 he7)
                        | (go_at_call 15; refine HSP.out.mono ?_; rintro e w8 ⟨rfl, hf8⟩))
                      go_ret
                      exact ⟨rfl, (H4.out.1.trans H7.out (fun _ h => h.elim)).trans hf8 (fun _ h => h.elim)⟩
end Go.Proofs.Ytfkgdjoaoidkeaa
