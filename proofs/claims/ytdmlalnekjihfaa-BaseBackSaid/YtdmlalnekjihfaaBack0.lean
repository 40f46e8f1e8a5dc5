/- What BaseBack's last statement comes to. Printed by gen_back.py (wip/gen). -/
import Derived.Test.YtdmlalnekjihfaaTells
import Derived.Test.YtdmlalnekjihfaaBackL
namespace Go.Proofs.Ytdmlalnekjihfaa
open Go.RowKit Go.ChangeShapes
set_option linter.unusedVariables false

theorem pathC_inj (H1 : List UInt8) (N1 : ByteArray) (H2 : List UInt8) (N2 : ByteArray) (h1 : H1.length = 20) (h2 : H2.length = 20) (h : pathC H1 N1 = pathC H2 N2) : H1 = H2 ∧ N1 = N2 := by
  have h := congrArg Array.toList h
  simp only [pathC] at h
  obtain ⟨a, b⟩ := List.append_inj h (by simp [h1, h2])
  refine ⟨?_, by simpa using b⟩
  refine List.map_inj_right (fun x y hxy => ?_) |>.1 a
  have : (x.toNat : Int) = y.toNat := by
    injection hxy
  exact UInt8.toNat_inj.1 (by omega)

def BkY (gp gq g15 : Nat) (HP HQ : Array Value) (s BS LP LQ : ByteArray) (bq : Bool) (i : Nat) (v : Value) (W : World) : Prop :=
  match i with
  | 0 => v = .int .i64 0
  | 1 => v = .bool false
  | 2 => v = .bool false
  | 3 => v = .int .i64 0
  | 4 => v = .bool true
  | 5 => v = .bool true
  | 6 => v = .string s
  | 7 => v = .string s
  | 8 => v = .bool true
  | 9 => v = .bool true
  | 10 => v = .bool true
  | 11 => v = .bool true
  | 12 => v = .int .i64 0
  | 13 => v = .bool true
  | 14 => v = .bool true
  | 15 => v = .bool true
  | 16 => v = .agg HQ
  | 17 => v = .pointer (some ⟨gq, 0, none⟩)
  | 18 => v = .agg HQ
  | 19 => v = .bool true
  | 20 => v = .bool true
  | 21 => v = .bool true
  | 22 => v = .pointer (some ⟨gp, 0, none⟩)
  | 23 => v = .agg HP
  | 24 => v = .string LP
  | 25 => v = .pointer (some ⟨gq, 0, none⟩)
  | 26 => v = .agg HQ
  | 27 => v = .string LQ
  | 28 => v = .bool bq
  | 29 => v = .pointer (some ⟨gp, 0, none⟩)
  | 30 => v = .agg HP
  | 31 => v = .pointer (some ⟨gq, 0, none⟩)
  | 32 => v = .agg HQ
  | 33 => v = .bool bq
  | 34 => v = .bool true
  | 35 => v = .bool true
  | _ => True
theorem BkY.ext (gp gq g15 : Nat) (HP HQ : Array Value) (s BS LP LQ : ByteArray) (bq : Bool) : ∀ (j : Nat) (u : Value) (W W' : World), Fr (fun _ => False) W W' → BkY gp gq g15 HP HQ s BS LP LQ bq j u W → BkY gp gq g15 HP HQ s BS LP LQ bq j u W'
  | 0, u, W, W', hf, h => h
  | 1, u, W, W', hf, h => h
  | 2, u, W, W', hf, h => h
  | 3, u, W, W', hf, h => h
  | 4, u, W, W', hf, h => h
  | 5, u, W, W', hf, h => h
  | 6, u, W, W', hf, h => h
  | 7, u, W, W', hf, h => h
  | 8, u, W, W', hf, h => h
  | 9, u, W, W', hf, h => h
  | 10, u, W, W', hf, h => h
  | 11, u, W, W', hf, h => h
  | 12, u, W, W', hf, h => h
  | 13, u, W, W', hf, h => h
  | 14, u, W, W', hf, h => h
  | 15, u, W, W', hf, h => h
  | 16, u, W, W', hf, h => h
  | 17, u, W, W', hf, h => h
  | 18, u, W, W', hf, h => h
  | 19, u, W, W', hf, h => h
  | 20, u, W, W', hf, h => h
  | 21, u, W, W', hf, h => h
  | 22, u, W, W', hf, h => h
  | 23, u, W, W', hf, h => h
  | 24, u, W, W', hf, h => h
  | 25, u, W, W', hf, h => h
  | 26, u, W, W', hf, h => h
  | 27, u, W, W', hf, h => h
  | 28, u, W, W', hf, h => h
  | 29, u, W, W', hf, h => h
  | 30, u, W, W', hf, h => h
  | 31, u, W, W', hf, h => h
  | 32, u, W, W', hf, h => h
  | 33, u, W, W', hf, h => h
  | 34, u, W, W', hf, h => h
  | 35, u, W, W', hf, h => h
  | _ + 36, u, W, W', hf, h => trivial

def BkN (gp gq g15 : Nat) (HP HQ : Array Value) (s BS LP LQ : ByteArray) (bq : Bool) (i : Nat) (v : Value) (W : World) : Prop :=
  match i with
  | 0 => v = .int .i64 4
  | 1 => v = .bool true
  | 2 => v = .bool true
  | 3 => v = undef
  | 4 => v = undef
  | 5 => v = undef
  | 6 => v = undef
  | 7 => v = undef
  | 8 => v = undef
  | 9 => v = undef
  | 10 => v = .bool true
  | 11 => v = .bool true
  | 12 => v = .int .i64 0
  | 13 => v = .bool true
  | 14 => v = .bool true
  | 15 => v = .bool true
  | 16 => v = .agg HQ
  | 17 => v = .pointer (some ⟨gq, 0, none⟩)
  | 18 => v = .agg HQ
  | 19 => v = .bool true
  | 20 => v = .bool true
  | 21 => v = .bool true
  | 22 => v = .pointer (some ⟨gp, 0, none⟩)
  | 23 => v = .agg HP
  | 24 => v = .string LP
  | 25 => v = .pointer (some ⟨gq, 0, none⟩)
  | 26 => v = .agg HQ
  | 27 => v = .string LQ
  | 28 => v = .bool bq
  | 29 => v = .pointer (some ⟨gp, 0, none⟩)
  | 30 => v = .agg HP
  | 31 => v = .pointer (some ⟨gq, 0, none⟩)
  | 32 => v = .agg HQ
  | 33 => v = .bool bq
  | 34 => v = .bool true
  | 35 => v = .bool true
  | _ => True
theorem BkN.ext (gp gq g15 : Nat) (HP HQ : Array Value) (s BS LP LQ : ByteArray) (bq : Bool) : ∀ (j : Nat) (u : Value) (W W' : World), Fr (fun _ => False) W W' → BkN gp gq g15 HP HQ s BS LP LQ bq j u W → BkN gp gq g15 HP HQ s BS LP LQ bq j u W'
  | 0, u, W, W', hf, h => h
  | 1, u, W, W', hf, h => h
  | 2, u, W, W', hf, h => h
  | 3, u, W, W', hf, h => h
  | 4, u, W, W', hf, h => h
  | 5, u, W, W', hf, h => h
  | 6, u, W, W', hf, h => h
  | 7, u, W, W', hf, h => h
  | 8, u, W, W', hf, h => h
  | 9, u, W, W', hf, h => h
  | 10, u, W, W', hf, h => h
  | 11, u, W, W', hf, h => h
  | 12, u, W, W', hf, h => h
  | 13, u, W, W', hf, h => h
  | 14, u, W, W', hf, h => h
  | 15, u, W, W', hf, h => h
  | 16, u, W, W', hf, h => h
  | 17, u, W, W', hf, h => h
  | 18, u, W, W', hf, h => h
  | 19, u, W, W', hf, h => h
  | 20, u, W, W', hf, h => h
  | 21, u, W, W', hf, h => h
  | 22, u, W, W', hf, h => h
  | 23, u, W, W', hf, h => h
  | 24, u, W, W', hf, h => h
  | 25, u, W, W', hf, h => h
  | 26, u, W, W', hf, h => h
  | 27, u, W, W', hf, h => h
  | 28, u, W, W', hf, h => h
  | 29, u, W, W', hf, h => h
  | 30, u, W, W', hf, h => h
  | 31, u, W, W', hf, h => h
  | 32, u, W, W', hf, h => h
  | 33, u, W, W', hf, h => h
  | 34, u, W, W', hf, h => h
  | 35, u, W, W', hf, h => h
  | _ + 36, u, W, W', hf, h => trivial
end Go.Proofs.Ytdmlalnekjihfaa
