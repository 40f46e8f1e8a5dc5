/- Contract of spencelaw03.BaseTells. Printed by gen_tells.py (wip/gen). -/
import Derived.Test.YtdmlalnekjihfaaAwake3
import Derived.Test.YtdmlalnekjihfaaRunB
namespace Go.Proofs.Ytdmlalnekjihfaa
open Go.RowKit Go.ChangeShapes
set_option linter.unusedVariables false

def TlR (gp g5 g7 g13 g15 : Nat) (HA CX PC : Array Value) (N s LS PS : ByteArray) (e1 e2 e3 : Int) (b1 b2 : Bool) (i : Nat) (v : Value) (W : World) : Prop :=
  match i with
  | 0 => v = .pointer (some ⟨gp, 0, none⟩)
  | 1 => v = .agg HA
  | 2 => v = .string LS
  | 3 => v = .pointer (some ⟨gp, 0, none⟩)
  | 4 => v = .agg HA
  | 5 => v = .string LS
  | 6 => v = .bool true
  | 7 => v = .bool true
  | 8 => v = .agg CX
  | 9 => v = .agg CX
  | 10 => v = .bool true
  | 11 => v = .bool true
  | 12 => v = .bool true
  | 13 => v = .int .i64 e1
  | 14 => v = .int .i64 e1
  | 15 => v = .bool true
  | 16 => v = .bool true
  | 17 => v = .bool true
  | 18 => v = .string s
  | 19 => v = .bool b1
  | 20 => v = .string s
  | 21 => v = .bool b1
  | 22 => v = .bool true
  | 23 => v = .bool true
  | 24 => v = .bool true
  | 25 => v = .pointer (some ⟨gp, 20, none⟩)
  | 26 => v = .string N
  | 27 => v = .bool b2
  | 28 => v = .pointer (some ⟨gp, 20, none⟩)
  | 29 => v = .string N
  | 30 => v = .bool b2
  | 31 => v = .bool true
  | 32 => v = .bool true
  | 33 => v = .bool true
  | 34 => v = .string PS
  | 35 => v = .string PS
  | 36 => v = .bool true
  | 37 => v = .bool true
  | 38 => v = .bool true
  | 39 => v = .int .i64 e2
  | 40 => v = .int .i64 e2
  | 41 => v = .bool true
  | 42 => v = .bool true
  | 43 => v = .bool true
  | 44 => v = .agg PC
  | 45 => v = .agg PC
  | 46 => v = .bool true
  | 47 => v = .bool true
  | 48 => v = .bool true
  | 49 => v = .int .i64 e3
  | 50 => v = .int .i64 e3
  | 51 => v = .bool true
  | 52 => v = .bool true
  | 53 => v = .bool true
  | 54 => v = .bool true
  | 55 => v = .bool true
  | _ => True
theorem TlR.ext (gp g5 g7 g13 g15 : Nat) (HA CX PC : Array Value) (N s LS PS : ByteArray) (e1 e2 e3 : Int) (b1 b2 : Bool) : ∀ (j : Nat) (u : Value) (W W' : World), Fr (fun _ => False) W W' → TlR gp g5 g7 g13 g15 HA CX PC N s LS PS e1 e2 e3 b1 b2 j u W → TlR gp g5 g7 g13 g15 HA CX PC N s LS PS e1 e2 e3 b1 b2 j u W'
  | 0, u, W, W', hf, h => h
  | 1, u, W, W', hf, h => h
  | 2, u, W, W', hf, h => h
  | 3, u, W, W', hf, h => h
  | 4, u, W, W', hf, h => h
  | 5, u, W, W', hf, h => h
  | 6, u, W, W', hf, h => h
  | 7, u, W, W', hf, h => h
  | 8, u, W, W', hf, h => h
  | 9, u, W, W', hf, h => h
  | 10, u, W, W', hf, h => h
  | 11, u, W, W', hf, h => h
  | 12, u, W, W', hf, h => h
  | 13, u, W, W', hf, h => h
  | 14, u, W, W', hf, h => h
  | 15, u, W, W', hf, h => h
  | 16, u, W, W', hf, h => h
  | 17, u, W, W', hf, h => h
  | 18, u, W, W', hf, h => h
  | 19, u, W, W', hf, h => h
  | 20, u, W, W', hf, h => h
  | 21, u, W, W', hf, h => h
  | 22, u, W, W', hf, h => h
  | 23, u, W, W', hf, h => h
  | 24, u, W, W', hf, h => h
  | 25, u, W, W', hf, h => h
  | 26, u, W, W', hf, h => h
  | 27, u, W, W', hf, h => h
  | 28, u, W, W', hf, h => h
  | 29, u, W, W', hf, h => h
  | 30, u, W, W', hf, h => h
  | 31, u, W, W', hf, h => h
  | 32, u, W, W', hf, h => h
  | 33, u, W, W', hf, h => h
  | 34, u, W, W', hf, h => h
  | 35, u, W, W', hf, h => h
  | 36, u, W, W', hf, h => h
  | 37, u, W, W', hf, h => h
  | 38, u, W, W', hf, h => h
  | 39, u, W, W', hf, h => h
  | 40, u, W, W', hf, h => h
  | 41, u, W, W', hf, h => h
  | 42, u, W, W', hf, h => h
  | 43, u, W, W', hf, h => h
  | 44, u, W, W', hf, h => h
  | 45, u, W, W', hf, h => h
  | 46, u, W, W', hf, h => h
  | 47, u, W, W', hf, h => h
  | 48, u, W, W', hf, h => h
  | 49, u, W, W', hf, h => h
  | 50, u, W, W', hf, h => h
  | 51, u, W, W', hf, h => h
  | 52, u, W, W', hf, h => h
  | 53, u, W, W', hf, h => h
  | 54, u, W, W', hf, h => h
  | 55, u, W, W', hf, h => h
  | _ + 56, u, W, W', hf, h => trivial

set_option maxRecDepth 100000 in
set_option maxHeartbeats 8000000 in
theorem tells_any (H : List UInt8) (N s : ByteArray) (hH : H.length = 20) (hN : N.size ≤ 140737488351232) (hs : s.size ≤ 140737488351232) (w : World) :
    Calls Try.prog 3 #[.agg (pathC H N), .string s] w fun e w' => e = .returned (.bool true) ∧ Fr (fun _ => False) w w' := by
  obtain ⟨X, e1, hX, hT⟩ := hashT_shape s.data.toList
  obtain ⟨PX, PN, e3, hPX, hPN, hPT⟩ := parseT_shape s
  obtain ⟨PS, e2, hPS⟩ := pathT_shape H N
  obtain ⟨C, hC⟩ : ∃ C, C = pathC H N := ⟨_, rfl⟩
  obtain ⟨CX, hCX⟩ : ∃ C, C = (X.map bv).toArray := ⟨_, rfl⟩
  obtain ⟨PC, hPC⟩ : ∃ C, C = pathC PX PN := ⟨_, rfl⟩
  obtain ⟨HA, hHA⟩ : ∃ C, C = (H.map bv).toArray := ⟨_, rfl⟩
  obtain ⟨LS, hLS⟩ : ∃ C : ByteArray, C = ⟨(letL H).toArray⟩ := ⟨_, rfl⟩
  obtain ⟨b1, hb1⟩ : ∃ b, b = nameB s.data.toList := ⟨_, rfl⟩
  obtain ⟨b2, hb2⟩ : ∃ b, b = nameB N.data.toList := ⟨_, rfl⟩
  have hc1 := fun W => bHash_any s hs W
  have hc2 := fun W => rHash_any s hs W
  have hc3 := fun W => bPath_any H hH N hN W
  have hc4 := fun W => rPath_any H hH N hN W
  have hc5 := fun W => bParse_any s hs W
  have hc6 := fun W => rParse_any s hs W
  have hl1 := fun W => bLetters_any H hH W
  have hl2 := fun W => rLetters_any H hH W
  have hn1 := fun W => bName_any s hs W
  have hn2 := fun W => (rName_any s hs W).mono (fun _ w' h => (⟨h.1, h.2 ▸ Fr.refl (fun _ => False) W⟩ : _ ∧ Fr (fun _ => False) W w'))
  have hn3 := fun W => bName_any N hN W
  have hn4 := fun W => (rName_any N hN W).mono (fun _ w' h => (⟨h.1, h.2 ▸ Fr.refl (fun _ => False) W⟩ : _ ∧ Fr (fun _ => False) W w'))
  rw [hT, ← hCX] at hc1 hc2
  rw [hPS, ← hC] at hc3 hc4
  rw [hPT, ← hPC] at hc5 hc6
  rw [← hHA, ← hLS] at hl1 hl2
  rw [← hb1] at hn1 hn2
  rw [← hb2] at hn3 hn4
  have HC1 := Lib.hid hc1
  have HC2 := Lib.hid hc2
  have HC3 := Lib.hid hc3
  have HC4 := Lib.hid hc4
  have HC5 := Lib.hid hc5
  have HC6 := Lib.hid hc6
  have HBL := Lib.hid hl1
  have HRL := Lib.hid hl2
  have HBNb1 := Lib.hid hn1
  have HRNb1 := Lib.hid hn2
  have HBNb2 := Lib.hid hn3
  have HRNb2 := Lib.hid hn4
  have HAW := Lib.hid (fun W => awake_any W)
  have EQX := Lib.hid (fun W => show (binOp .eql 23 (.agg CX) (.agg CX)).run Try.prog W = .ok (.bool true) W by rw [hCX]; exact eql_hash_one W X hX)
  have EQP := Lib.hid (fun W => show (binOp .eql 25 (.agg PC) (.agg PC)).run Try.prog W = .ok (.bool true) W by rw [hPC]; exact eql_path_one W PX PN hPX)
  have hiX : (Try.prog.info? 23).map (·.size) = some CX.size := by rw [hCX, List.size_toArray, List.length_map, hX]; kernel_rfl
  have hsX : (#[.int .u8 0, .int .u8 0, .int .u8 0, .int .u8 0, .int .u8 0, .int .u8 0, .int .u8 0, .int .u8 0, .int .u8 0, .int .u8 0, .int .u8 0, .int .u8 0, .int .u8 0, .int .u8 0, .int .u8 0, .int .u8 0, .int .u8 0, .int .u8 0, .int .u8 0, .int .u8 0] : Array Value).size = CX.size := Eq.trans (b := 20) rfl (by rw [hCX, List.size_toArray, List.length_map, hX])
  have hoX : CX.all (·.oneCell') = true := by rw [hCX]; exact row_one X
  have hiP : (Try.prog.info? 25).map (·.size) = some PC.size := by rw [hPC, pathC_size PX hPX]; kernel_rfl
  have hsP : (#[.int .u8 0, .int .u8 0, .int .u8 0, .int .u8 0, .int .u8 0, .int .u8 0, .int .u8 0, .int .u8 0, .int .u8 0, .int .u8 0, .int .u8 0, .int .u8 0, .int .u8 0, .int .u8 0, .int .u8 0, .int .u8 0, .int .u8 0, .int .u8 0, .int .u8 0, .int .u8 0, .string ⟨#[]⟩] : Array Value).size = PC.size := Eq.trans (b := 21) rfl (by rw [hPC, pathC_size PX hPX])
  have hoP : PC.all (·.oneCell') = true := by rw [hPC]; exact pathC_one PX PN
  have hiC : (Try.prog.info? 25).map (·.size) = some C.size := by rw [hC, pathC_size H hH]; kernel_rfl
  have LX := Lib.hid (fun (W : World) (g : Nat) (h : W.heap[g]? = some (.cells CX 23 (0, 0))) => show (Instr.loadAt 23 (.pointer (some ⟨g, 0, none⟩))).run Try.prog W = .ok (.agg CX) W by rw [hCX] at h ⊢; exact load_hash W g X h hX)
  have LP := Lib.hid (fun (W : World) (g : Nat) (h : W.heap[g]? = some (.cells PC 25 (0, 0))) => show (Instr.loadAt 25 (.pointer (some ⟨g, 0, none⟩))).run Try.prog W = .ok (.agg PC) W by rw [hPC] at h ⊢; exact load_path W g PX PN h hPX)
  have LH := Lib.hid (fun (W : World) (g : Nat) (h : W.heap[g]? = some (.cells C 25 (0, 0))) => show (Instr.loadAt 23 (.pointer (some ⟨g, 0, none⟩))).run Try.prog W = .ok (.agg HA) W by rw [hC] at h; rw [hHA]; exact load_path_hash W g H N h hH)
  have LN := Lib.hid (fun (W : World) (g : Nat) (h : W.heap[g]? = some (.cells C 25 (0, 0))) => show (Instr.loadAt 9 (.pointer (some ⟨g, 20, none⟩))).run Try.prog W = .ok (.string N) W by rw [hC] at h; exact load_string W g 20 N (PathT.name (H := H) h hH))
  have hcn : (w.alloc (.cells C 25)).cell? ⟨w.heap.size, 20, none⟩ = some (.string N) := by rw [hC]; exact PathT.name (H := H) (heap_alloc_new w _) hH
  have HK0 := Lib.hid (show Fr (fun _ => False) w (w.alloc (.cells C 25)) ∧ Rows (w.alloc (.cells C 25)) [(w.heap.size, C, 25)] from
    ⟨(Fr.refl _ _).alloc _, fun x hx => by obtain rfl := List.mem_singleton.1 hx; exact heap_alloc_new w _⟩)
  rw [← hC]
  clear hc1 hc2 hc3 hc4 hc5 hc6 hl1 hl2 hn1 hn2 hn3 hn4 hT hPT hPS hC hCX hPC hHA hLS hb1 hb2 hX hPX hPN hH
  by_cases hlong : 2000 < s.size + N.size
  · have hd : decide (2000 < (s.size : Int) + (N.size : Int)) = true := by rw [decide_eq_true_iff]; omega
    go_enter Try.func3, Try.ntmps3
    go_wp2_with (go_at_call 8; refine (HAW.out _).mono ?_; rintro e w1 ⟨rfl, hf⟩; have HF := Lib.hid (HK0.out.1.trans hf (fun _ h => h.elim)); clear hf)
    go_ret
    exact ⟨rfl, HF.out⟩
  · have hd : decide (2000 < (s.size : Int) + (N.size : Int)) = false := by rw [decide_eq_false_iff_not]; omega
    go_enter Try.func3, Try.ntmps3
    go_wp2_with (first
      | (go_at_call 9; (refine (HC1.out _).mono ?_); rintro e w1 ⟨rfl, hf⟩; have HK1 := Lib.hid (And.intro (HK0.out.1.trans hf (fun _ h => h.elim)) (HK0.out.2.keep hf)); clear hf)
      | (with_reducible refine wpList_store_row rfl 23 (.tmp 5) (.tmp 28) rfl w1.heap.size CX #[.int .u8 0, .int .u8 0, .int .u8 0, .int .u8 0, .int .u8 0, .int .u8 0, .int .u8 0, .int .u8 0, .int .u8 0, .int .u8 0, .int .u8 0, .int .u8 0, .int .u8 0, .int .u8 0, .int .u8 0, .int .u8 0, .int .u8 0, .int .u8 0, .int .u8 0, .int .u8 0] 23 rfl rfl (heap_alloc_new w1 _) hiX hsX hoX ?_; (have HL1 := Lib.hid (And.intro (HK1.out.1.trans (Fr.laid w1 #[.int .u8 0, .int .u8 0, .int .u8 0, .int .u8 0, .int .u8 0, .int .u8 0, .int .u8 0, .int .u8 0, .int .u8 0, .int .u8 0, .int .u8 0, .int .u8 0, .int .u8 0, .int .u8 0, .int .u8 0, .int .u8 0, .int .u8 0, .int .u8 0, .int .u8 0, .int .u8 0] CX 23) (fun _ h => h.elim)) (HK1.out.2.laid #[.int .u8 0, .int .u8 0, .int .u8 0, .int .u8 0, .int .u8 0, .int .u8 0, .int .u8 0, .int .u8 0, .int .u8 0, .int .u8 0, .int .u8 0, .int .u8 0, .int .u8 0, .int .u8 0, .int .u8 0, .int .u8 0, .int .u8 0, .int .u8 0, .int .u8 0, .int .u8 0] CX 23))); generalize (w1.alloc (.cells #[.int .u8 0, .int .u8 0, .int .u8 0, .int .u8 0, .int .u8 0, .int .u8 0, .int .u8 0, .int .u8 0, .int .u8 0, .int .u8 0, .int .u8 0, .int .u8 0, .int .u8 0, .int .u8 0, .int .u8 0, .int .u8 0, .int .u8 0, .int .u8 0, .int .u8 0, .int .u8 0] 23)).setRow w1.heap.size CX = W1 at *; generalize w1.heap.size = g5 at *)
      | (go_at_call 10; (refine (HC2.out _).mono ?_); rintro e w2 ⟨rfl, hf⟩; have HK2 := Lib.hid (And.intro (HL1.out.1.trans hf (fun _ h => h.elim)) (HL1.out.2.keep hf)); clear hf)
      | (with_reducible refine wpList_store_row rfl 23 (.tmp 7) (.tmp 33) rfl w2.heap.size CX #[.int .u8 0, .int .u8 0, .int .u8 0, .int .u8 0, .int .u8 0, .int .u8 0, .int .u8 0, .int .u8 0, .int .u8 0, .int .u8 0, .int .u8 0, .int .u8 0, .int .u8 0, .int .u8 0, .int .u8 0, .int .u8 0, .int .u8 0, .int .u8 0, .int .u8 0, .int .u8 0] 23 rfl rfl (heap_alloc_new w2 _) hiX hsX hoX ?_; (have HL2 := Lib.hid (And.intro (HK2.out.1.trans (Fr.laid w2 #[.int .u8 0, .int .u8 0, .int .u8 0, .int .u8 0, .int .u8 0, .int .u8 0, .int .u8 0, .int .u8 0, .int .u8 0, .int .u8 0, .int .u8 0, .int .u8 0, .int .u8 0, .int .u8 0, .int .u8 0, .int .u8 0, .int .u8 0, .int .u8 0, .int .u8 0, .int .u8 0] CX 23) (fun _ h => h.elim)) (HK2.out.2.laid #[.int .u8 0, .int .u8 0, .int .u8 0, .int .u8 0, .int .u8 0, .int .u8 0, .int .u8 0, .int .u8 0, .int .u8 0, .int .u8 0, .int .u8 0, .int .u8 0, .int .u8 0, .int .u8 0, .int .u8 0, .int .u8 0, .int .u8 0, .int .u8 0, .int .u8 0, .int .u8 0] CX 23))); generalize (w2.alloc (.cells #[.int .u8 0, .int .u8 0, .int .u8 0, .int .u8 0, .int .u8 0, .int .u8 0, .int .u8 0, .int .u8 0, .int .u8 0, .int .u8 0, .int .u8 0, .int .u8 0, .int .u8 0, .int .u8 0, .int .u8 0, .int .u8 0, .int .u8 0, .int .u8 0, .int .u8 0, .int .u8 0] 23)).setRow w2.heap.size CX = W2 at *; generalize w2.heap.size = g7 at *; have hrow2 := HL2.out.2.nth 2 w.heap.size C 25 rfl)
      | (with_reducible refine wpList_load_row rfl 25 (.tmp 2) rfl w.heap.size rfl 25 C (0, 0) _ hrow2 Try.underlying25 rfl hiC ?_)
      | (go_at_call 11; (refine (HC3.out _).mono ?_); rintro e w3 ⟨rfl, hf⟩; have HK3 := Lib.hid (And.intro (HL2.out.1.trans hf (fun _ h => h.elim)) (HL2.out.2.keep hf)); clear hf; have hrow3 := HK3.out.2.nth 2 w.heap.size C 25 rfl)
      | (with_reducible refine wpList_load_row rfl 25 (.tmp 2) rfl w.heap.size rfl 25 C (0, 0) _ hrow3 Try.underlying25 rfl hiC ?_)
      | (go_at_call 12; (refine (HC4.out _).mono ?_); rintro e w4 ⟨rfl, hf⟩; have HK4 := Lib.hid (And.intro (HK3.out.1.trans hf (fun _ h => h.elim)) (HK3.out.2.keep hf)); clear hf)
      | (go_at_call 13; (refine (HC5.out _).mono ?_); rintro e w5 ⟨rfl, hf⟩; have HK5 := Lib.hid (And.intro (HK4.out.1.trans hf (fun _ h => h.elim)) (HK4.out.2.keep hf)); clear hf)
      | (with_reducible refine wpList_store_row rfl 25 (.tmp 13) (.tmp 48) rfl w5.heap.size PC #[.int .u8 0, .int .u8 0, .int .u8 0, .int .u8 0, .int .u8 0, .int .u8 0, .int .u8 0, .int .u8 0, .int .u8 0, .int .u8 0, .int .u8 0, .int .u8 0, .int .u8 0, .int .u8 0, .int .u8 0, .int .u8 0, .int .u8 0, .int .u8 0, .int .u8 0, .int .u8 0, .string ⟨#[]⟩] 25 rfl rfl (heap_alloc_new w5 _) hiP hsP hoP ?_; (have HL5 := Lib.hid (And.intro (HK5.out.1.trans (Fr.laid w5 #[.int .u8 0, .int .u8 0, .int .u8 0, .int .u8 0, .int .u8 0, .int .u8 0, .int .u8 0, .int .u8 0, .int .u8 0, .int .u8 0, .int .u8 0, .int .u8 0, .int .u8 0, .int .u8 0, .int .u8 0, .int .u8 0, .int .u8 0, .int .u8 0, .int .u8 0, .int .u8 0, .string ⟨#[]⟩] PC 25) (fun _ h => h.elim)) (HK5.out.2.laid #[.int .u8 0, .int .u8 0, .int .u8 0, .int .u8 0, .int .u8 0, .int .u8 0, .int .u8 0, .int .u8 0, .int .u8 0, .int .u8 0, .int .u8 0, .int .u8 0, .int .u8 0, .int .u8 0, .int .u8 0, .int .u8 0, .int .u8 0, .int .u8 0, .int .u8 0, .int .u8 0, .string ⟨#[]⟩] PC 25))); generalize (w5.alloc (.cells #[.int .u8 0, .int .u8 0, .int .u8 0, .int .u8 0, .int .u8 0, .int .u8 0, .int .u8 0, .int .u8 0, .int .u8 0, .int .u8 0, .int .u8 0, .int .u8 0, .int .u8 0, .int .u8 0, .int .u8 0, .int .u8 0, .int .u8 0, .int .u8 0, .int .u8 0, .int .u8 0, .string ⟨#[]⟩] 25)).setRow w5.heap.size PC = W5 at *; generalize w5.heap.size = g13 at *)
      | (go_at_call 14; (refine (HC6.out _).mono ?_); rintro e w6 ⟨rfl, hf⟩; have HK6 := Lib.hid (And.intro (HL5.out.1.trans hf (fun _ h => h.elim)) (HL5.out.2.keep hf)); clear hf)
      | (with_reducible refine wpList_store_row rfl 25 (.tmp 15) (.tmp 53) rfl w6.heap.size PC #[.int .u8 0, .int .u8 0, .int .u8 0, .int .u8 0, .int .u8 0, .int .u8 0, .int .u8 0, .int .u8 0, .int .u8 0, .int .u8 0, .int .u8 0, .int .u8 0, .int .u8 0, .int .u8 0, .int .u8 0, .int .u8 0, .int .u8 0, .int .u8 0, .int .u8 0, .int .u8 0, .string ⟨#[]⟩] 25 rfl rfl (heap_alloc_new w6 _) hiP hsP hoP ?_; (have HL6 := Lib.hid (And.intro (HK6.out.1.trans (Fr.laid w6 #[.int .u8 0, .int .u8 0, .int .u8 0, .int .u8 0, .int .u8 0, .int .u8 0, .int .u8 0, .int .u8 0, .int .u8 0, .int .u8 0, .int .u8 0, .int .u8 0, .int .u8 0, .int .u8 0, .int .u8 0, .int .u8 0, .int .u8 0, .int .u8 0, .int .u8 0, .int .u8 0, .string ⟨#[]⟩] PC 25) (fun _ h => h.elim)) (HK6.out.2.laid #[.int .u8 0, .int .u8 0, .int .u8 0, .int .u8 0, .int .u8 0, .int .u8 0, .int .u8 0, .int .u8 0, .int .u8 0, .int .u8 0, .int .u8 0, .int .u8 0, .int .u8 0, .int .u8 0, .int .u8 0, .int .u8 0, .int .u8 0, .int .u8 0, .int .u8 0, .int .u8 0, .string ⟨#[]⟩] PC 25))); generalize (w6.alloc (.cells #[.int .u8 0, .int .u8 0, .int .u8 0, .int .u8 0, .int .u8 0, .int .u8 0, .int .u8 0, .int .u8 0, .int .u8 0, .int .u8 0, .int .u8 0, .int .u8 0, .int .u8 0, .int .u8 0, .int .u8 0, .int .u8 0, .int .u8 0, .int .u8 0, .int .u8 0, .int .u8 0, .string ⟨#[]⟩] 25)).setRow w6.heap.size PC = W6 at *; generalize w6.heap.size = g15 at *))
    have LD5 := Lib.hid (fun (W : World) (hB : Fr (fun _ => False) W6 W) => LX.out W g5 (hB.heap (HL6.out.2.nth 3 g5 CX 23 rfl) (fun h => h)))
    have LD7 := Lib.hid (fun (W : World) (hB : Fr (fun _ => False) W6 W) => LX.out W g7 (hB.heap (HL6.out.2.nth 2 g7 CX 23 rfl) (fun h => h)))
    have LD13 := Lib.hid (fun (W : World) (hB : Fr (fun _ => False) W6 W) => LP.out W g13 (hB.heap (HL6.out.2.nth 1 g13 PC 25 rfl) (fun h => h)))
    have LD15 := Lib.hid (fun (W : World) (hB : Fr (fun _ => False) W6 W) => LP.out W g15 (hB.heap (HL6.out.2.nth 0 g15 PC 25 rfl) (fun h => h)))
    have LDH := Lib.hid (fun (W : World) (hB : Fr (fun _ => False) W6 W) => LH.out W w.heap.size (hB.heap (HL6.out.2.nth 4 w.heap.size C 25 rfl) (fun h => h)))
    have LDN := Lib.hid (fun (W : World) (hB : Fr (fun _ => False) W6 W) => LN.out W w.heap.size (hB.heap (HL6.out.2.nth 4 w.heap.size C 25 rfl) (fun h => h)))
    have HF6 := Lib.hid HL6.out.1
    generalize w.heap.size = gp at *
    refine wp_region_inv 56 (by kernel_rfl) (by kernel_rfl) (fun W => Fr (fun _ => False) W6 W) (TlR gp g5 g7 g13 g15 HA CX PC N s LS PS e1 e2 e3 b1 b2) (fun _ _ _ _ => True) (Fr (fun _ => False)) (TlR.ext gp g5 g7 g13 g15 HA CX PC N s LS PS e1 e2 e3 b1 b2) (Fr.refl _ _).drew ?_ ?_
    · intro i hi o ho
      replace hi : i < 56 := hi
      obtain rfl | rfl | rfl | rfl | rfl | rfl | rfl | rfl | rfl | rfl | rfl | rfl | rfl | rfl | rfl | rfl | rfl | rfl | rfl | rfl | rfl | rfl | rfl | rfl | rfl | rfl | rfl | rfl | rfl | rfl | rfl | rfl | rfl | rfl | rfl | rfl | rfl | rfl | rfl | rfl | rfl | rfl | rfl | rfl | rfl | rfl | rfl | rfl | rfl | rfl | rfl | rfl | rfl | rfl | rfl | rfl : i = 0 ∨ i = 1 ∨ i = 2 ∨ i = 3 ∨ i = 4 ∨ i = 5 ∨ i = 6 ∨ i = 7 ∨ i = 8 ∨ i = 9 ∨ i = 10 ∨ i = 11 ∨ i = 12 ∨ i = 13 ∨ i = 14 ∨ i = 15 ∨ i = 16 ∨ i = 17 ∨ i = 18 ∨ i = 19 ∨ i = 20 ∨ i = 21 ∨ i = 22 ∨ i = 23 ∨ i = 24 ∨ i = 25 ∨ i = 26 ∨ i = 27 ∨ i = 28 ∨ i = 29 ∨ i = 30 ∨ i = 31 ∨ i = 32 ∨ i = 33 ∨ i = 34 ∨ i = 35 ∨ i = 36 ∨ i = 37 ∨ i = 38 ∨ i = 39 ∨ i = 40 ∨ i = 41 ∨ i = 42 ∨ i = 43 ∨ i = 44 ∨ i = 45 ∨ i = 46 ∨ i = 47 ∨ i = 48 ∨ i = 49 ∨ i = 50 ∨ i = 51 ∨ i = 52 ∨ i = 53 ∨ i = 54 ∨ i = 55 := by omega
      · simp only [List.getElem?_cons_zero, Option.some.injEq] at ho
        subst ho
        intro a W vs hB hS hE hU
        refine wpG_plain rfl ?_
        have v2 : a.eval (.tmp 2) = .pointer (some ⟨gp, 0, none⟩) := (hU 2 (by kernel_rfl)).trans rfl
        clear hE hU
        exact wp_value_inv (w' := W) (.pointer (some ⟨gp, 0, none⟩)) (op_fieldAddr rfl v2 (field_hash W gp)) ⟨_, rfl, hB, Fr.refl _ _, rfl, fun _ _ _ _ _ => trivial⟩
      · simp only [List.getElem?_cons_zero, List.getElem?_cons_succ, Option.some.injEq] at ho
        subst ho
        intro a W vs hB hS hE hU
        refine wpG_plain rfl ?_
        obtain ⟨r0, e55⟩ := hE 0 55 (by kernel_rfl) (by kernel_rfl)
        have v55 : a.eval (.tmp 55) = .pointer (some ⟨gp, 0, none⟩) := e55.trans r0
        clear hE hU
        exact wp_value_inv (w' := W) (.agg HA) (op_loadAt rfl v55 (LDH.out W hB)) ⟨_, rfl, hB, Fr.refl _ _, rfl, fun _ _ _ _ _ => trivial⟩
      · simp only [List.getElem?_cons_zero, List.getElem?_cons_succ, Option.some.injEq] at ho
        subst ho
        intro a W vs hB hS hE hU
        refine wpG_plain rfl ?_
        obtain ⟨r1, e56⟩ := hE 1 56 (by kernel_rfl) (by kernel_rfl)
        have v56 : a.eval (.tmp 56) = .agg HA := e56.trans r1
        clear hE hU
        refine wp_call_inv 15 #[.tmp 56] #[23] rfl #[.agg HA] (by simp only [List.map_toArray, List.map_cons, List.map_nil, v56]) (bLetters_enter _) (Post := fun v W' => v = .string LS ∧ Fr (fun _ => False) W W') ((HBL.out W).mono fun e w' h => ⟨_, h.1, rfl, h.2⟩) ?_
        rintro v W' ⟨rfl, hf⟩
        exact ⟨_, rfl, hB.trans hf (fun _ h => h.elim), hf, rfl, fun _ _ _ _ _ => trivial⟩
      · simp only [List.getElem?_cons_zero, List.getElem?_cons_succ, Option.some.injEq] at ho
        subst ho
        intro a W vs hB hS hE hU
        refine wpG_plain rfl ?_
        have v2 : a.eval (.tmp 2) = .pointer (some ⟨gp, 0, none⟩) := (hU 2 (by kernel_rfl)).trans rfl
        clear hE hU
        exact wp_value_inv (w' := W) (.pointer (some ⟨gp, 0, none⟩)) (op_fieldAddr rfl v2 (field_hash W gp)) ⟨_, rfl, hB, Fr.refl _ _, rfl, fun _ _ _ _ _ => trivial⟩
      · simp only [List.getElem?_cons_zero, List.getElem?_cons_succ, Option.some.injEq] at ho
        subst ho
        intro a W vs hB hS hE hU
        refine wpG_plain rfl ?_
        obtain ⟨r3, e58⟩ := hE 3 58 (by kernel_rfl) (by kernel_rfl)
        have v58 : a.eval (.tmp 58) = .pointer (some ⟨gp, 0, none⟩) := e58.trans r3
        clear hE hU
        exact wp_value_inv (w' := W) (.agg HA) (op_loadAt rfl v58 (LDH.out W hB)) ⟨_, rfl, hB, Fr.refl _ _, rfl, fun _ _ _ _ _ => trivial⟩
      · simp only [List.getElem?_cons_zero, List.getElem?_cons_succ, Option.some.injEq] at ho
        subst ho
        intro a W vs hB hS hE hU
        refine wpG_plain rfl ?_
        obtain ⟨r4, e59⟩ := hE 4 59 (by kernel_rfl) (by kernel_rfl)
        have v59 : a.eval (.tmp 59) = .agg HA := e59.trans r4
        clear hE hU
        refine wp_call_inv 16 #[.tmp 59] #[23] rfl #[.agg HA] (by simp only [List.map_toArray, List.map_cons, List.map_nil, v59]) (rLetters_enter _) (Post := fun v W' => v = .string LS ∧ Fr (fun _ => False) W W') ((HRL.out W).mono fun e w' h => ⟨_, h.1, rfl, h.2⟩) ?_
        rintro v W' ⟨rfl, hf⟩
        exact ⟨_, rfl, hB.trans hf (fun _ h => h.elim), hf, rfl, fun _ _ _ _ _ => trivial⟩
      · simp only [List.getElem?_cons_zero, List.getElem?_cons_succ, Option.some.injEq] at ho
        subst ho
        intro a W vs hB hS hE hU
        refine wpG_plain rfl ?_
        obtain ⟨r2, e57⟩ := hE 2 57 (by kernel_rfl) (by kernel_rfl)
        have v57 : a.eval (.tmp 57) = .string LS := e57.trans r2
        obtain ⟨r5, e60⟩ := hE 5 60 (by kernel_rfl) (by kernel_rfl)
        have v60 : a.eval (.tmp 60) = .string LS := e60.trans r5
        clear hE hU
        exact wp_value_inv (w' := W) (.bool true) (op_bin rfl v57 v60 (guard_str W _ _ _ _ _) (eql_str W _)) ⟨_, rfl, hB, Fr.refl _ _, rfl, fun _ _ _ _ _ => trivial⟩
      · simp only [List.getElem?_cons_zero, List.getElem?_cons_succ, Option.some.injEq] at ho
        subst ho
        intro a W vs hB hS hE hU
        refine wpG_plain rfl ?_
        obtain ⟨r6, e61⟩ := hE 6 61 (by kernel_rfl) (by kernel_rfl)
        have v61 : a.eval (.tmp 61) = .bool true := e61.trans r6
        clear hE hU
        exact wp_value_inv (w' := W) (.bool true) (op_move rfl v61) ⟨_, rfl, hB, Fr.refl _ _, rfl, fun _ _ _ _ _ => trivial⟩
      · simp only [List.getElem?_cons_zero, List.getElem?_cons_succ, Option.some.injEq] at ho
        subst ho
        intro a W vs hB hS hE hU
        obtain ⟨r7, e62⟩ := hE 7 62 (by kernel_rfl) (by kernel_rfl)
        have v62 : a.eval (.tmp 62) = .bool true := e62.trans r7
        refine wpG_yes 7 true 62 rfl (by kernel_rfl) (by rw [hS]; simp) v62 ?_
        have v5 : a.eval (.tmp 5) = .pointer (some ⟨g5, 0, none⟩) := (hU 5 (by kernel_rfl)).trans rfl
        clear hE hU
        exact wp_value_inv (w' := W) (.agg CX) (op_loadAt rfl v5 (LD5.out W hB)) ⟨_, rfl, hB, Fr.refl _ _, rfl, fun _ _ _ _ _ => trivial⟩
      · simp only [List.getElem?_cons_zero, List.getElem?_cons_succ, Option.some.injEq] at ho
        subst ho
        intro a W vs hB hS hE hU
        obtain ⟨r7, e62⟩ := hE 7 62 (by kernel_rfl) (by kernel_rfl)
        have v62 : a.eval (.tmp 62) = .bool true := e62.trans r7
        refine wpG_yes 7 true 62 rfl (by kernel_rfl) (by rw [hS]; simp) v62 ?_
        have v7 : a.eval (.tmp 7) = .pointer (some ⟨g7, 0, none⟩) := (hU 7 (by kernel_rfl)).trans rfl
        clear hE hU
        exact wp_value_inv (w' := W) (.agg CX) (op_loadAt rfl v7 (LD7.out W hB)) ⟨_, rfl, hB, Fr.refl _ _, rfl, fun _ _ _ _ _ => trivial⟩
      · simp only [List.getElem?_cons_zero, List.getElem?_cons_succ, Option.some.injEq] at ho
        subst ho
        intro a W vs hB hS hE hU
        obtain ⟨r7, e62⟩ := hE 7 62 (by kernel_rfl) (by kernel_rfl)
        have v62 : a.eval (.tmp 62) = .bool true := e62.trans r7
        refine wpG_yes 7 true 62 rfl (by kernel_rfl) (by rw [hS]; simp) v62 ?_
        obtain ⟨r8, e63⟩ := hE 8 63 (by kernel_rfl) (by kernel_rfl)
        have v63 : a.eval (.tmp 63) = .agg CX := e63.trans r8
        obtain ⟨r9, e64⟩ := hE 9 64 (by kernel_rfl) (by kernel_rfl)
        have v64 : a.eval (.tmp 64) = .agg CX := e64.trans r9
        clear hE hU
        exact wp_value_inv (w' := W) (.bool true) (op_bin rfl v63 v64 (guard_hash W _ _ _ _ _) (EQX.out W)) ⟨_, rfl, hB, Fr.refl _ _, rfl, fun _ _ _ _ _ => trivial⟩
      · simp only [List.getElem?_cons_zero, List.getElem?_cons_succ, Option.some.injEq] at ho
        subst ho
        intro a W vs hB hS hE hU
        refine wpG_plain rfl ?_
        obtain ⟨r7, e62⟩ := hE 7 62 (by kernel_rfl) (by kernel_rfl)
        have v62 : a.eval (.tmp 62) = .bool true := e62.trans r7
        obtain ⟨r10, e65⟩ := hE 10 65 (by kernel_rfl) (by kernel_rfl)
        have v65 : a.eval (.tmp 65) = .bool true := e65.trans r10
        clear hE hU
        exact wp_value_inv (w' := W) (.bool true) (op_pick rfl v62 (by simp only [if_true]; exact v65)) ⟨_, rfl, hB, Fr.refl _ _, rfl, fun _ _ _ _ _ => trivial⟩
      · simp only [List.getElem?_cons_zero, List.getElem?_cons_succ, Option.some.injEq] at ho
        subst ho
        intro a W vs hB hS hE hU
        refine wpG_plain rfl ?_
        obtain ⟨r11, e66⟩ := hE 11 66 (by kernel_rfl) (by kernel_rfl)
        have v66 : a.eval (.tmp 66) = .bool true := e66.trans r11
        clear hE hU
        exact wp_value_inv (w' := W) (.bool true) (op_move rfl v66) ⟨_, rfl, hB, Fr.refl _ _, rfl, fun _ _ _ _ _ => trivial⟩
      · simp only [List.getElem?_cons_zero, List.getElem?_cons_succ, Option.some.injEq] at ho
        subst ho
        intro a W vs hB hS hE hU
        obtain ⟨r12, e67⟩ := hE 12 67 (by kernel_rfl) (by kernel_rfl)
        have v67 : a.eval (.tmp 67) = .bool true := e67.trans r12
        refine wpG_yes 12 true 67 rfl (by kernel_rfl) (by rw [hS]; simp) v67 ?_
        have v6 : a.eval (.tmp 6) = .int .i64 e1 := (hU 6 (by kernel_rfl)).trans rfl
        clear hE hU
        exact wp_value_inv (w' := W) (.int .i64 e1) (op_move rfl v6) ⟨_, rfl, hB, Fr.refl _ _, rfl, fun _ _ _ _ _ => trivial⟩
      · simp only [List.getElem?_cons_zero, List.getElem?_cons_succ, Option.some.injEq] at ho
        subst ho
        intro a W vs hB hS hE hU
        obtain ⟨r12, e67⟩ := hE 12 67 (by kernel_rfl) (by kernel_rfl)
        have v67 : a.eval (.tmp 67) = .bool true := e67.trans r12
        refine wpG_yes 12 true 67 rfl (by kernel_rfl) (by rw [hS]; simp) v67 ?_
        have v8 : a.eval (.tmp 8) = .int .i64 e1 := (hU 8 (by kernel_rfl)).trans rfl
        clear hE hU
        exact wp_value_inv (w' := W) (.int .i64 e1) (op_move rfl v8) ⟨_, rfl, hB, Fr.refl _ _, rfl, fun _ _ _ _ _ => trivial⟩
      · simp only [List.getElem?_cons_zero, List.getElem?_cons_succ, Option.some.injEq] at ho
        subst ho
        intro a W vs hB hS hE hU
        obtain ⟨r12, e67⟩ := hE 12 67 (by kernel_rfl) (by kernel_rfl)
        have v67 : a.eval (.tmp 67) = .bool true := e67.trans r12
        refine wpG_yes 12 true 67 rfl (by kernel_rfl) (by rw [hS]; simp) v67 ?_
        obtain ⟨r13, e68⟩ := hE 13 68 (by kernel_rfl) (by kernel_rfl)
        have v68 : a.eval (.tmp 68) = .int .i64 e1 := e68.trans r13
        obtain ⟨r14, e69⟩ := hE 14 69 (by kernel_rfl) (by kernel_rfl)
        have v69 : a.eval (.tmp 69) = .int .i64 e1 := e69.trans r14
        clear hE hU
        exact wp_value_inv (w' := W) (.bool true) (op_bin rfl v68 v69 (guard_int W _ _ _ _ _ _ _) (eql_err W _)) ⟨_, rfl, hB, Fr.refl _ _, rfl, fun _ _ _ _ _ => trivial⟩
      · simp only [List.getElem?_cons_zero, List.getElem?_cons_succ, Option.some.injEq] at ho
        subst ho
        intro a W vs hB hS hE hU
        refine wpG_plain rfl ?_
        obtain ⟨r12, e67⟩ := hE 12 67 (by kernel_rfl) (by kernel_rfl)
        have v67 : a.eval (.tmp 67) = .bool true := e67.trans r12
        obtain ⟨r15, e70⟩ := hE 15 70 (by kernel_rfl) (by kernel_rfl)
        have v70 : a.eval (.tmp 70) = .bool true := e70.trans r15
        clear hE hU
        exact wp_value_inv (w' := W) (.bool true) (op_pick rfl v67 (by simp only [if_true]; exact v70)) ⟨_, rfl, hB, Fr.refl _ _, rfl, fun _ _ _ _ _ => trivial⟩
      · simp only [List.getElem?_cons_zero, List.getElem?_cons_succ, Option.some.injEq] at ho
        subst ho
        intro a W vs hB hS hE hU
        refine wpG_plain rfl ?_
        obtain ⟨r16, e71⟩ := hE 16 71 (by kernel_rfl) (by kernel_rfl)
        have v71 : a.eval (.tmp 71) = .bool true := e71.trans r16
        clear hE hU
        exact wp_value_inv (w' := W) (.bool true) (op_move rfl v71) ⟨_, rfl, hB, Fr.refl _ _, rfl, fun _ _ _ _ _ => trivial⟩
      · simp only [List.getElem?_cons_zero, List.getElem?_cons_succ, Option.some.injEq] at ho
        subst ho
        intro a W vs hB hS hE hU
        obtain ⟨r17, e72⟩ := hE 17 72 (by kernel_rfl) (by kernel_rfl)
        have v72 : a.eval (.tmp 72) = .bool true := e72.trans r17
        refine wpG_yes 17 true 72 rfl (by kernel_rfl) (by rw [hS]; simp) v72 ?_
        have v1 : a.eval (.tmp 1) = .string s := (hU 1 (by kernel_rfl)).trans rfl
        clear hE hU
        exact wp_value_inv (w' := W) (.string s) (op_move rfl v1) ⟨_, rfl, hB, Fr.refl _ _, rfl, fun _ _ _ _ _ => trivial⟩
      · simp only [List.getElem?_cons_zero, List.getElem?_cons_succ, Option.some.injEq] at ho
        subst ho
        intro a W vs hB hS hE hU
        obtain ⟨r17, e72⟩ := hE 17 72 (by kernel_rfl) (by kernel_rfl)
        have v72 : a.eval (.tmp 72) = .bool true := e72.trans r17
        refine wpG_yes 17 true 72 rfl (by kernel_rfl) (by rw [hS]; simp) v72 ?_
        obtain ⟨r18, e73⟩ := hE 18 73 (by kernel_rfl) (by kernel_rfl)
        have v73 : a.eval (.tmp 73) = .string s := e73.trans r18
        clear hE hU
        refine wp_call_inv 17 #[.tmp 73] #[9] rfl #[.string s] (by simp only [List.map_toArray, List.map_cons, List.map_nil, v73]) (bName_enter _) (Post := fun v W' => v = .bool b1 ∧ Fr (fun _ => False) W W') ((HBNb1.out W).mono fun e w' h => ⟨_, h.1, rfl, h.2⟩) ?_
        rintro v W' ⟨rfl, hf⟩
        exact ⟨_, rfl, hB.trans hf (fun _ h => h.elim), hf, rfl, fun _ _ _ _ _ => trivial⟩
      · simp only [List.getElem?_cons_zero, List.getElem?_cons_succ, Option.some.injEq] at ho
        subst ho
        intro a W vs hB hS hE hU
        obtain ⟨r17, e72⟩ := hE 17 72 (by kernel_rfl) (by kernel_rfl)
        have v72 : a.eval (.tmp 72) = .bool true := e72.trans r17
        refine wpG_yes 17 true 72 rfl (by kernel_rfl) (by rw [hS]; simp) v72 ?_
        have v1 : a.eval (.tmp 1) = .string s := (hU 1 (by kernel_rfl)).trans rfl
        clear hE hU
        exact wp_value_inv (w' := W) (.string s) (op_move rfl v1) ⟨_, rfl, hB, Fr.refl _ _, rfl, fun _ _ _ _ _ => trivial⟩
      · simp only [List.getElem?_cons_zero, List.getElem?_cons_succ, Option.some.injEq] at ho
        subst ho
        intro a W vs hB hS hE hU
        obtain ⟨r17, e72⟩ := hE 17 72 (by kernel_rfl) (by kernel_rfl)
        have v72 : a.eval (.tmp 72) = .bool true := e72.trans r17
        refine wpG_yes 17 true 72 rfl (by kernel_rfl) (by rw [hS]; simp) v72 ?_
        obtain ⟨r20, e75⟩ := hE 20 75 (by kernel_rfl) (by kernel_rfl)
        have v75 : a.eval (.tmp 75) = .string s := e75.trans r20
        clear hE hU
        refine wp_call_inv 18 #[.tmp 75] #[9] rfl #[.string s] (by simp only [List.map_toArray, List.map_cons, List.map_nil, v75]) (rName_enter _) (Post := fun v W' => v = .bool b1 ∧ Fr (fun _ => False) W W') ((HRNb1.out W).mono fun e w' h => ⟨_, h.1, rfl, h.2⟩) ?_
        rintro v W' ⟨rfl, hf⟩
        exact ⟨_, rfl, hB.trans hf (fun _ h => h.elim), hf, rfl, fun _ _ _ _ _ => trivial⟩
      · simp only [List.getElem?_cons_zero, List.getElem?_cons_succ, Option.some.injEq] at ho
        subst ho
        intro a W vs hB hS hE hU
        obtain ⟨r17, e72⟩ := hE 17 72 (by kernel_rfl) (by kernel_rfl)
        have v72 : a.eval (.tmp 72) = .bool true := e72.trans r17
        refine wpG_yes 17 true 72 rfl (by kernel_rfl) (by rw [hS]; simp) v72 ?_
        obtain ⟨r19, e74⟩ := hE 19 74 (by kernel_rfl) (by kernel_rfl)
        have v74 : a.eval (.tmp 74) = .bool b1 := e74.trans r19
        obtain ⟨r21, e76⟩ := hE 21 76 (by kernel_rfl) (by kernel_rfl)
        have v76 : a.eval (.tmp 76) = .bool b1 := e76.trans r21
        clear hE hU
        exact wp_value_inv (w' := W) (.bool true) (op_bin rfl v74 v76 (guard_bool W _ _ _ _ _ _) (eql_bool W _)) ⟨_, rfl, hB, Fr.refl _ _, rfl, fun _ _ _ _ _ => trivial⟩
      · simp only [List.getElem?_cons_zero, List.getElem?_cons_succ, Option.some.injEq] at ho
        subst ho
        intro a W vs hB hS hE hU
        refine wpG_plain rfl ?_
        obtain ⟨r17, e72⟩ := hE 17 72 (by kernel_rfl) (by kernel_rfl)
        have v72 : a.eval (.tmp 72) = .bool true := e72.trans r17
        obtain ⟨r22, e77⟩ := hE 22 77 (by kernel_rfl) (by kernel_rfl)
        have v77 : a.eval (.tmp 77) = .bool true := e77.trans r22
        clear hE hU
        exact wp_value_inv (w' := W) (.bool true) (op_pick rfl v72 (by simp only [if_true]; exact v77)) ⟨_, rfl, hB, Fr.refl _ _, rfl, fun _ _ _ _ _ => trivial⟩
      · simp only [List.getElem?_cons_zero, List.getElem?_cons_succ, Option.some.injEq] at ho
        subst ho
        intro a W vs hB hS hE hU
        refine wpG_plain rfl ?_
        obtain ⟨r23, e78⟩ := hE 23 78 (by kernel_rfl) (by kernel_rfl)
        have v78 : a.eval (.tmp 78) = .bool true := e78.trans r23
        clear hE hU
        exact wp_value_inv (w' := W) (.bool true) (op_move rfl v78) ⟨_, rfl, hB, Fr.refl _ _, rfl, fun _ _ _ _ _ => trivial⟩
      · simp only [List.getElem?_cons_zero, List.getElem?_cons_succ, Option.some.injEq] at ho
        subst ho
        intro a W vs hB hS hE hU
        obtain ⟨r24, e79⟩ := hE 24 79 (by kernel_rfl) (by kernel_rfl)
        have v79 : a.eval (.tmp 79) = .bool true := e79.trans r24
        refine wpG_yes 24 true 79 rfl (by kernel_rfl) (by rw [hS]; simp) v79 ?_
        have v2 : a.eval (.tmp 2) = .pointer (some ⟨gp, 0, none⟩) := (hU 2 (by kernel_rfl)).trans rfl
        clear hE hU
        exact wp_value_inv (w' := W) (.pointer (some ⟨gp, 20, none⟩)) (op_fieldAddr rfl v2 (field_name W gp)) ⟨_, rfl, hB, Fr.refl _ _, rfl, fun _ _ _ _ _ => trivial⟩
      · simp only [List.getElem?_cons_zero, List.getElem?_cons_succ, Option.some.injEq] at ho
        subst ho
        intro a W vs hB hS hE hU
        obtain ⟨r24, e79⟩ := hE 24 79 (by kernel_rfl) (by kernel_rfl)
        have v79 : a.eval (.tmp 79) = .bool true := e79.trans r24
        refine wpG_yes 24 true 79 rfl (by kernel_rfl) (by rw [hS]; simp) v79 ?_
        obtain ⟨r25, e80⟩ := hE 25 80 (by kernel_rfl) (by kernel_rfl)
        have v80 : a.eval (.tmp 80) = .pointer (some ⟨gp, 20, none⟩) := e80.trans r25
        clear hE hU
        exact wp_value_inv (w' := W) (.string N) (op_loadAt rfl v80 (LDN.out W hB)) ⟨_, rfl, hB, Fr.refl _ _, rfl, fun _ _ _ _ _ => trivial⟩
      · simp only [List.getElem?_cons_zero, List.getElem?_cons_succ, Option.some.injEq] at ho
        subst ho
        intro a W vs hB hS hE hU
        obtain ⟨r24, e79⟩ := hE 24 79 (by kernel_rfl) (by kernel_rfl)
        have v79 : a.eval (.tmp 79) = .bool true := e79.trans r24
        refine wpG_yes 24 true 79 rfl (by kernel_rfl) (by rw [hS]; simp) v79 ?_
        obtain ⟨r26, e81⟩ := hE 26 81 (by kernel_rfl) (by kernel_rfl)
        have v81 : a.eval (.tmp 81) = .string N := e81.trans r26
        clear hE hU
        refine wp_call_inv 17 #[.tmp 81] #[9] rfl #[.string N] (by simp only [List.map_toArray, List.map_cons, List.map_nil, v81]) (bName_enter _) (Post := fun v W' => v = .bool b2 ∧ Fr (fun _ => False) W W') ((HBNb2.out W).mono fun e w' h => ⟨_, h.1, rfl, h.2⟩) ?_
        rintro v W' ⟨rfl, hf⟩
        exact ⟨_, rfl, hB.trans hf (fun _ h => h.elim), hf, rfl, fun _ _ _ _ _ => trivial⟩
      · simp only [List.getElem?_cons_zero, List.getElem?_cons_succ, Option.some.injEq] at ho
        subst ho
        intro a W vs hB hS hE hU
        obtain ⟨r24, e79⟩ := hE 24 79 (by kernel_rfl) (by kernel_rfl)
        have v79 : a.eval (.tmp 79) = .bool true := e79.trans r24
        refine wpG_yes 24 true 79 rfl (by kernel_rfl) (by rw [hS]; simp) v79 ?_
        have v2 : a.eval (.tmp 2) = .pointer (some ⟨gp, 0, none⟩) := (hU 2 (by kernel_rfl)).trans rfl
        clear hE hU
        exact wp_value_inv (w' := W) (.pointer (some ⟨gp, 20, none⟩)) (op_fieldAddr rfl v2 (field_name W gp)) ⟨_, rfl, hB, Fr.refl _ _, rfl, fun _ _ _ _ _ => trivial⟩
      · simp only [List.getElem?_cons_zero, List.getElem?_cons_succ, Option.some.injEq] at ho
        subst ho
        intro a W vs hB hS hE hU
        obtain ⟨r24, e79⟩ := hE 24 79 (by kernel_rfl) (by kernel_rfl)
        have v79 : a.eval (.tmp 79) = .bool true := e79.trans r24
        refine wpG_yes 24 true 79 rfl (by kernel_rfl) (by rw [hS]; simp) v79 ?_
        obtain ⟨r28, e83⟩ := hE 28 83 (by kernel_rfl) (by kernel_rfl)
        have v83 : a.eval (.tmp 83) = .pointer (some ⟨gp, 20, none⟩) := e83.trans r28
        clear hE hU
        exact wp_value_inv (w' := W) (.string N) (op_loadAt rfl v83 (LDN.out W hB)) ⟨_, rfl, hB, Fr.refl _ _, rfl, fun _ _ _ _ _ => trivial⟩
      · simp only [List.getElem?_cons_zero, List.getElem?_cons_succ, Option.some.injEq] at ho
        subst ho
        intro a W vs hB hS hE hU
        obtain ⟨r24, e79⟩ := hE 24 79 (by kernel_rfl) (by kernel_rfl)
        have v79 : a.eval (.tmp 79) = .bool true := e79.trans r24
        refine wpG_yes 24 true 79 rfl (by kernel_rfl) (by rw [hS]; simp) v79 ?_
        obtain ⟨r29, e84⟩ := hE 29 84 (by kernel_rfl) (by kernel_rfl)
        have v84 : a.eval (.tmp 84) = .string N := e84.trans r29
        clear hE hU
        refine wp_call_inv 18 #[.tmp 84] #[9] rfl #[.string N] (by simp only [List.map_toArray, List.map_cons, List.map_nil, v84]) (rName_enter _) (Post := fun v W' => v = .bool b2 ∧ Fr (fun _ => False) W W') ((HRNb2.out W).mono fun e w' h => ⟨_, h.1, rfl, h.2⟩) ?_
        rintro v W' ⟨rfl, hf⟩
        exact ⟨_, rfl, hB.trans hf (fun _ h => h.elim), hf, rfl, fun _ _ _ _ _ => trivial⟩
      · simp only [List.getElem?_cons_zero, List.getElem?_cons_succ, Option.some.injEq] at ho
        subst ho
        intro a W vs hB hS hE hU
        obtain ⟨r24, e79⟩ := hE 24 79 (by kernel_rfl) (by kernel_rfl)
        have v79 : a.eval (.tmp 79) = .bool true := e79.trans r24
        refine wpG_yes 24 true 79 rfl (by kernel_rfl) (by rw [hS]; simp) v79 ?_
        obtain ⟨r27, e82⟩ := hE 27 82 (by kernel_rfl) (by kernel_rfl)
        have v82 : a.eval (.tmp 82) = .bool b2 := e82.trans r27
        obtain ⟨r30, e85⟩ := hE 30 85 (by kernel_rfl) (by kernel_rfl)
        have v85 : a.eval (.tmp 85) = .bool b2 := e85.trans r30
        clear hE hU
        exact wp_value_inv (w' := W) (.bool true) (op_bin rfl v82 v85 (guard_bool W _ _ _ _ _ _) (eql_bool W _)) ⟨_, rfl, hB, Fr.refl _ _, rfl, fun _ _ _ _ _ => trivial⟩
      · simp only [List.getElem?_cons_zero, List.getElem?_cons_succ, Option.some.injEq] at ho
        subst ho
        intro a W vs hB hS hE hU
        refine wpG_plain rfl ?_
        obtain ⟨r24, e79⟩ := hE 24 79 (by kernel_rfl) (by kernel_rfl)
        have v79 : a.eval (.tmp 79) = .bool true := e79.trans r24
        obtain ⟨r31, e86⟩ := hE 31 86 (by kernel_rfl) (by kernel_rfl)
        have v86 : a.eval (.tmp 86) = .bool true := e86.trans r31
        clear hE hU
        exact wp_value_inv (w' := W) (.bool true) (op_pick rfl v79 (by simp only [if_true]; exact v86)) ⟨_, rfl, hB, Fr.refl _ _, rfl, fun _ _ _ _ _ => trivial⟩
      · simp only [List.getElem?_cons_zero, List.getElem?_cons_succ, Option.some.injEq] at ho
        subst ho
        intro a W vs hB hS hE hU
        refine wpG_plain rfl ?_
        obtain ⟨r32, e87⟩ := hE 32 87 (by kernel_rfl) (by kernel_rfl)
        have v87 : a.eval (.tmp 87) = .bool true := e87.trans r32
        clear hE hU
        exact wp_value_inv (w' := W) (.bool true) (op_move rfl v87) ⟨_, rfl, hB, Fr.refl _ _, rfl, fun _ _ _ _ _ => trivial⟩
      · simp only [List.getElem?_cons_zero, List.getElem?_cons_succ, Option.some.injEq] at ho
        subst ho
        intro a W vs hB hS hE hU
        obtain ⟨r33, e88⟩ := hE 33 88 (by kernel_rfl) (by kernel_rfl)
        have v88 : a.eval (.tmp 88) = .bool true := e88.trans r33
        refine wpG_yes 33 true 88 rfl (by kernel_rfl) (by rw [hS]; simp) v88 ?_
        have v9 : a.eval (.tmp 9) = .string PS := (hU 9 (by kernel_rfl)).trans rfl
        clear hE hU
        exact wp_value_inv (w' := W) (.string PS) (op_move rfl v9) ⟨_, rfl, hB, Fr.refl _ _, rfl, fun _ _ _ _ _ => trivial⟩
      · simp only [List.getElem?_cons_zero, List.getElem?_cons_succ, Option.some.injEq] at ho
        subst ho
        intro a W vs hB hS hE hU
        obtain ⟨r33, e88⟩ := hE 33 88 (by kernel_rfl) (by kernel_rfl)
        have v88 : a.eval (.tmp 88) = .bool true := e88.trans r33
        refine wpG_yes 33 true 88 rfl (by kernel_rfl) (by rw [hS]; simp) v88 ?_
        have v11 : a.eval (.tmp 11) = .string PS := (hU 11 (by kernel_rfl)).trans rfl
        clear hE hU
        exact wp_value_inv (w' := W) (.string PS) (op_move rfl v11) ⟨_, rfl, hB, Fr.refl _ _, rfl, fun _ _ _ _ _ => trivial⟩
      · simp only [List.getElem?_cons_zero, List.getElem?_cons_succ, Option.some.injEq] at ho
        subst ho
        intro a W vs hB hS hE hU
        obtain ⟨r33, e88⟩ := hE 33 88 (by kernel_rfl) (by kernel_rfl)
        have v88 : a.eval (.tmp 88) = .bool true := e88.trans r33
        refine wpG_yes 33 true 88 rfl (by kernel_rfl) (by rw [hS]; simp) v88 ?_
        obtain ⟨r34, e89⟩ := hE 34 89 (by kernel_rfl) (by kernel_rfl)
        have v89 : a.eval (.tmp 89) = .string PS := e89.trans r34
        obtain ⟨r35, e90⟩ := hE 35 90 (by kernel_rfl) (by kernel_rfl)
        have v90 : a.eval (.tmp 90) = .string PS := e90.trans r35
        clear hE hU
        exact wp_value_inv (w' := W) (.bool true) (op_bin rfl v89 v90 (guard_str W _ _ _ _ _) (eql_str W _)) ⟨_, rfl, hB, Fr.refl _ _, rfl, fun _ _ _ _ _ => trivial⟩
      · simp only [List.getElem?_cons_zero, List.getElem?_cons_succ, Option.some.injEq] at ho
        subst ho
        intro a W vs hB hS hE hU
        refine wpG_plain rfl ?_
        obtain ⟨r33, e88⟩ := hE 33 88 (by kernel_rfl) (by kernel_rfl)
        have v88 : a.eval (.tmp 88) = .bool true := e88.trans r33
        obtain ⟨r36, e91⟩ := hE 36 91 (by kernel_rfl) (by kernel_rfl)
        have v91 : a.eval (.tmp 91) = .bool true := e91.trans r36
        clear hE hU
        exact wp_value_inv (w' := W) (.bool true) (op_pick rfl v88 (by simp only [if_true]; exact v91)) ⟨_, rfl, hB, Fr.refl _ _, rfl, fun _ _ _ _ _ => trivial⟩
      · simp only [List.getElem?_cons_zero, List.getElem?_cons_succ, Option.some.injEq] at ho
        subst ho
        intro a W vs hB hS hE hU
        refine wpG_plain rfl ?_
        obtain ⟨r37, e92⟩ := hE 37 92 (by kernel_rfl) (by kernel_rfl)
        have v92 : a.eval (.tmp 92) = .bool true := e92.trans r37
        clear hE hU
        exact wp_value_inv (w' := W) (.bool true) (op_move rfl v92) ⟨_, rfl, hB, Fr.refl _ _, rfl, fun _ _ _ _ _ => trivial⟩
      · simp only [List.getElem?_cons_zero, List.getElem?_cons_succ, Option.some.injEq] at ho
        subst ho
        intro a W vs hB hS hE hU
        obtain ⟨r38, e93⟩ := hE 38 93 (by kernel_rfl) (by kernel_rfl)
        have v93 : a.eval (.tmp 93) = .bool true := e93.trans r38
        refine wpG_yes 38 true 93 rfl (by kernel_rfl) (by rw [hS]; simp) v93 ?_
        have v10 : a.eval (.tmp 10) = .int .i64 e2 := (hU 10 (by kernel_rfl)).trans rfl
        clear hE hU
        exact wp_value_inv (w' := W) (.int .i64 e2) (op_move rfl v10) ⟨_, rfl, hB, Fr.refl _ _, rfl, fun _ _ _ _ _ => trivial⟩
      · simp only [List.getElem?_cons_zero, List.getElem?_cons_succ, Option.some.injEq] at ho
        subst ho
        intro a W vs hB hS hE hU
        obtain ⟨r38, e93⟩ := hE 38 93 (by kernel_rfl) (by kernel_rfl)
        have v93 : a.eval (.tmp 93) = .bool true := e93.trans r38
        refine wpG_yes 38 true 93 rfl (by kernel_rfl) (by rw [hS]; simp) v93 ?_
        have v12 : a.eval (.tmp 12) = .int .i64 e2 := (hU 12 (by kernel_rfl)).trans rfl
        clear hE hU
        exact wp_value_inv (w' := W) (.int .i64 e2) (op_move rfl v12) ⟨_, rfl, hB, Fr.refl _ _, rfl, fun _ _ _ _ _ => trivial⟩
      · simp only [List.getElem?_cons_zero, List.getElem?_cons_succ, Option.some.injEq] at ho
        subst ho
        intro a W vs hB hS hE hU
        obtain ⟨r38, e93⟩ := hE 38 93 (by kernel_rfl) (by kernel_rfl)
        have v93 : a.eval (.tmp 93) = .bool true := e93.trans r38
        refine wpG_yes 38 true 93 rfl (by kernel_rfl) (by rw [hS]; simp) v93 ?_
        obtain ⟨r39, e94⟩ := hE 39 94 (by kernel_rfl) (by kernel_rfl)
        have v94 : a.eval (.tmp 94) = .int .i64 e2 := e94.trans r39
        obtain ⟨r40, e95⟩ := hE 40 95 (by kernel_rfl) (by kernel_rfl)
        have v95 : a.eval (.tmp 95) = .int .i64 e2 := e95.trans r40
        clear hE hU
        exact wp_value_inv (w' := W) (.bool true) (op_bin rfl v94 v95 (guard_int W _ _ _ _ _ _ _) (eql_err W _)) ⟨_, rfl, hB, Fr.refl _ _, rfl, fun _ _ _ _ _ => trivial⟩
      · simp only [List.getElem?_cons_zero, List.getElem?_cons_succ, Option.some.injEq] at ho
        subst ho
        intro a W vs hB hS hE hU
        refine wpG_plain rfl ?_
        obtain ⟨r38, e93⟩ := hE 38 93 (by kernel_rfl) (by kernel_rfl)
        have v93 : a.eval (.tmp 93) = .bool true := e93.trans r38
        obtain ⟨r41, e96⟩ := hE 41 96 (by kernel_rfl) (by kernel_rfl)
        have v96 : a.eval (.tmp 96) = .bool true := e96.trans r41
        clear hE hU
        exact wp_value_inv (w' := W) (.bool true) (op_pick rfl v93 (by simp only [if_true]; exact v96)) ⟨_, rfl, hB, Fr.refl _ _, rfl, fun _ _ _ _ _ => trivial⟩
      · simp only [List.getElem?_cons_zero, List.getElem?_cons_succ, Option.some.injEq] at ho
        subst ho
        intro a W vs hB hS hE hU
        refine wpG_plain rfl ?_
        obtain ⟨r42, e97⟩ := hE 42 97 (by kernel_rfl) (by kernel_rfl)
        have v97 : a.eval (.tmp 97) = .bool true := e97.trans r42
        clear hE hU
        exact wp_value_inv (w' := W) (.bool true) (op_move rfl v97) ⟨_, rfl, hB, Fr.refl _ _, rfl, fun _ _ _ _ _ => trivial⟩
      · simp only [List.getElem?_cons_zero, List.getElem?_cons_succ, Option.some.injEq] at ho
        subst ho
        intro a W vs hB hS hE hU
        obtain ⟨r43, e98⟩ := hE 43 98 (by kernel_rfl) (by kernel_rfl)
        have v98 : a.eval (.tmp 98) = .bool true := e98.trans r43
        refine wpG_yes 43 true 98 rfl (by kernel_rfl) (by rw [hS]; simp) v98 ?_
        have v13 : a.eval (.tmp 13) = .pointer (some ⟨g13, 0, none⟩) := (hU 13 (by kernel_rfl)).trans rfl
        clear hE hU
        exact wp_value_inv (w' := W) (.agg PC) (op_loadAt rfl v13 (LD13.out W hB)) ⟨_, rfl, hB, Fr.refl _ _, rfl, fun _ _ _ _ _ => trivial⟩
      · simp only [List.getElem?_cons_zero, List.getElem?_cons_succ, Option.some.injEq] at ho
        subst ho
        intro a W vs hB hS hE hU
        obtain ⟨r43, e98⟩ := hE 43 98 (by kernel_rfl) (by kernel_rfl)
        have v98 : a.eval (.tmp 98) = .bool true := e98.trans r43
        refine wpG_yes 43 true 98 rfl (by kernel_rfl) (by rw [hS]; simp) v98 ?_
        have v15 : a.eval (.tmp 15) = .pointer (some ⟨g15, 0, none⟩) := (hU 15 (by kernel_rfl)).trans rfl
        clear hE hU
        exact wp_value_inv (w' := W) (.agg PC) (op_loadAt rfl v15 (LD15.out W hB)) ⟨_, rfl, hB, Fr.refl _ _, rfl, fun _ _ _ _ _ => trivial⟩
      · simp only [List.getElem?_cons_zero, List.getElem?_cons_succ, Option.some.injEq] at ho
        subst ho
        intro a W vs hB hS hE hU
        obtain ⟨r43, e98⟩ := hE 43 98 (by kernel_rfl) (by kernel_rfl)
        have v98 : a.eval (.tmp 98) = .bool true := e98.trans r43
        refine wpG_yes 43 true 98 rfl (by kernel_rfl) (by rw [hS]; simp) v98 ?_
        obtain ⟨r44, e99⟩ := hE 44 99 (by kernel_rfl) (by kernel_rfl)
        have v99 : a.eval (.tmp 99) = .agg PC := e99.trans r44
        obtain ⟨r45, e100⟩ := hE 45 100 (by kernel_rfl) (by kernel_rfl)
        have v100 : a.eval (.tmp 100) = .agg PC := e100.trans r45
        clear hE hU
        exact wp_value_inv (w' := W) (.bool true) (op_bin rfl v99 v100 (guard_path W _ _ _ _ _) (EQP.out W)) ⟨_, rfl, hB, Fr.refl _ _, rfl, fun _ _ _ _ _ => trivial⟩
      · simp only [List.getElem?_cons_zero, List.getElem?_cons_succ, Option.some.injEq] at ho
        subst ho
        intro a W vs hB hS hE hU
        refine wpG_plain rfl ?_
        obtain ⟨r43, e98⟩ := hE 43 98 (by kernel_rfl) (by kernel_rfl)
        have v98 : a.eval (.tmp 98) = .bool true := e98.trans r43
        obtain ⟨r46, e101⟩ := hE 46 101 (by kernel_rfl) (by kernel_rfl)
        have v101 : a.eval (.tmp 101) = .bool true := e101.trans r46
        clear hE hU
        exact wp_value_inv (w' := W) (.bool true) (op_pick rfl v98 (by simp only [if_true]; exact v101)) ⟨_, rfl, hB, Fr.refl _ _, rfl, fun _ _ _ _ _ => trivial⟩
      · simp only [List.getElem?_cons_zero, List.getElem?_cons_succ, Option.some.injEq] at ho
        subst ho
        intro a W vs hB hS hE hU
        refine wpG_plain rfl ?_
        obtain ⟨r47, e102⟩ := hE 47 102 (by kernel_rfl) (by kernel_rfl)
        have v102 : a.eval (.tmp 102) = .bool true := e102.trans r47
        clear hE hU
        exact wp_value_inv (w' := W) (.bool true) (op_move rfl v102) ⟨_, rfl, hB, Fr.refl _ _, rfl, fun _ _ _ _ _ => trivial⟩
      · simp only [List.getElem?_cons_zero, List.getElem?_cons_succ, Option.some.injEq] at ho
        subst ho
        intro a W vs hB hS hE hU
        obtain ⟨r48, e103⟩ := hE 48 103 (by kernel_rfl) (by kernel_rfl)
        have v103 : a.eval (.tmp 103) = .bool true := e103.trans r48
        refine wpG_yes 48 true 103 rfl (by kernel_rfl) (by rw [hS]; simp) v103 ?_
        have v14 : a.eval (.tmp 14) = .int .i64 e3 := (hU 14 (by kernel_rfl)).trans rfl
        clear hE hU
        exact wp_value_inv (w' := W) (.int .i64 e3) (op_move rfl v14) ⟨_, rfl, hB, Fr.refl _ _, rfl, fun _ _ _ _ _ => trivial⟩
      · simp only [List.getElem?_cons_zero, List.getElem?_cons_succ, Option.some.injEq] at ho
        subst ho
        intro a W vs hB hS hE hU
        obtain ⟨r48, e103⟩ := hE 48 103 (by kernel_rfl) (by kernel_rfl)
        have v103 : a.eval (.tmp 103) = .bool true := e103.trans r48
        refine wpG_yes 48 true 103 rfl (by kernel_rfl) (by rw [hS]; simp) v103 ?_
        have v16 : a.eval (.tmp 16) = .int .i64 e3 := (hU 16 (by kernel_rfl)).trans rfl
        clear hE hU
        exact wp_value_inv (w' := W) (.int .i64 e3) (op_move rfl v16) ⟨_, rfl, hB, Fr.refl _ _, rfl, fun _ _ _ _ _ => trivial⟩
      · simp only [List.getElem?_cons_zero, List.getElem?_cons_succ, Option.some.injEq] at ho
        subst ho
        intro a W vs hB hS hE hU
        obtain ⟨r48, e103⟩ := hE 48 103 (by kernel_rfl) (by kernel_rfl)
        have v103 : a.eval (.tmp 103) = .bool true := e103.trans r48
        refine wpG_yes 48 true 103 rfl (by kernel_rfl) (by rw [hS]; simp) v103 ?_
        obtain ⟨r49, e104⟩ := hE 49 104 (by kernel_rfl) (by kernel_rfl)
        have v104 : a.eval (.tmp 104) = .int .i64 e3 := e104.trans r49
        obtain ⟨r50, e105⟩ := hE 50 105 (by kernel_rfl) (by kernel_rfl)
        have v105 : a.eval (.tmp 105) = .int .i64 e3 := e105.trans r50
        clear hE hU
        exact wp_value_inv (w' := W) (.bool true) (op_bin rfl v104 v105 (guard_int W _ _ _ _ _ _ _) (eql_err W _)) ⟨_, rfl, hB, Fr.refl _ _, rfl, fun _ _ _ _ _ => trivial⟩
      · simp only [List.getElem?_cons_zero, List.getElem?_cons_succ, Option.some.injEq] at ho
        subst ho
        intro a W vs hB hS hE hU
        refine wpG_plain rfl ?_
        obtain ⟨r48, e103⟩ := hE 48 103 (by kernel_rfl) (by kernel_rfl)
        have v103 : a.eval (.tmp 103) = .bool true := e103.trans r48
        obtain ⟨r51, e106⟩ := hE 51 106 (by kernel_rfl) (by kernel_rfl)
        have v106 : a.eval (.tmp 106) = .bool true := e106.trans r51
        clear hE hU
        exact wp_value_inv (w' := W) (.bool true) (op_pick rfl v103 (by simp only [if_true]; exact v106)) ⟨_, rfl, hB, Fr.refl _ _, rfl, fun _ _ _ _ _ => trivial⟩
      · simp only [List.getElem?_cons_zero, List.getElem?_cons_succ, Option.some.injEq] at ho
        subst ho
        intro a W vs hB hS hE hU
        refine wpG_plain rfl ?_
        obtain ⟨r52, e107⟩ := hE 52 107 (by kernel_rfl) (by kernel_rfl)
        have v107 : a.eval (.tmp 107) = .bool true := e107.trans r52
        clear hE hU
        exact wp_value_inv (w' := W) (.bool true) (op_move rfl v107) ⟨_, rfl, hB, Fr.refl _ _, rfl, fun _ _ _ _ _ => trivial⟩
      · simp only [List.getElem?_cons_zero, List.getElem?_cons_succ, Option.some.injEq] at ho
        subst ho
        intro a W vs hB hS hE hU
        obtain ⟨r53, e108⟩ := hE 53 108 (by kernel_rfl) (by kernel_rfl)
        have v108 : a.eval (.tmp 108) = .bool true := e108.trans r53
        refine wpG_yes 53 true 108 rfl (by kernel_rfl) (by rw [hS]; simp) v108 ?_
        clear hE hU
        refine wp_call_inv 8 #[] #[] rfl #[] (by simp) (awake_enter _) (Post := fun v W' => v = .bool true ∧ Fr (fun _ => False) W W') ((HAW.out W).mono fun e w' h => ⟨_, h.1, rfl, h.2⟩) ?_
        rintro v W' ⟨rfl, hf⟩
        exact ⟨_, rfl, hB.trans hf (fun _ h => h.elim), hf, rfl, fun _ _ _ _ _ => trivial⟩
      · simp only [List.getElem?_cons_zero, List.getElem?_cons_succ, Option.some.injEq] at ho
        subst ho
        intro a W vs hB hS hE hU
        refine wpG_plain rfl ?_
        obtain ⟨r53, e108⟩ := hE 53 108 (by kernel_rfl) (by kernel_rfl)
        have v108 : a.eval (.tmp 108) = .bool true := e108.trans r53
        obtain ⟨r54, e109⟩ := hE 54 109 (by kernel_rfl) (by kernel_rfl)
        have v109 : a.eval (.tmp 109) = .bool true := e109.trans r54
        clear hE hU
        exact wp_value_inv (w' := W) (.bool true) (op_pick rfl v108 (by simp only [if_true]; exact v109)) ⟨_, rfl, hB, Fr.refl _ _, rfl, fun _ _ _ _ _ => trivial⟩
    · intro vs W hB hR hD
      have r55 : vs 55 = .bool true := hR 55 (by decide)
      have HF7 := Lib.hid (HF6.out.trans hB (fun _ h => h.elim))
      clear hR hD hB
      simp only [acts, if_true, dstAt, List.getElem?_cons_zero, List.getElem?_cons_succ, Option.bind_some, Act.put, List.setIfInBounds_toArray, List.set_cons_succ, List.set_cons_zero, List.drop_succ_cons, List.drop_zero]
      rw [r55]
      clear r55
      go_wp2
      go_ret
      exact ⟨rfl, HF7.out⟩
theorem tells_enter (args : Array Value) (w : World) : (callFunc 3 args).run Try.prog w = .ok (.enter 3 args) w := by rfl
end Go.Proofs.Ytdmlalnekjihfaa
