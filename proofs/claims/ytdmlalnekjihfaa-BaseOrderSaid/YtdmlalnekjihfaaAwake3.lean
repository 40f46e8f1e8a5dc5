/- Contract of spencelaw03.awake. -/
import Derived.Test.YtdmlalnekjihfaaBParse
import Derived.Test.YtdmlalnekjihfaaBOrder
namespace Go.Proofs.Ytdmlalnekjihfaa
open Go.RowKit Go.ChangeShapes
set_option linter.unusedVariables false

theorem awake_letters : letL [33, 0, 0, 0, 0, 0, 0, 0, 0, 0, 0, 0, 0, 0, 0, 0, 0, 0, 0, 0] = #[49, 49, 48, 48, 48, 48, 48, 48, 48, 48, 48, 48, 48, 48, 48, 48, 48, 48, 48, 48, 48, 48, 48, 48, 48, 48, 48, 48, 48, 48, 48, 48].toList := by decide +kernel
theorem awake_yes : nameB [97, 45, 98, 46, 99] = true := by decide +kernel
theorem awake_no : nameB [46, 97] = false := by decide +kernel

set_option maxRecDepth 100000 in
set_option maxHeartbeats 2000000 in
theorem awake_any (w : World) : Calls Try.prog 8 #[] w fun e w' => e = .returned (.bool true) ∧ Fr (fun _ => False) w w' := by
  have HL := Lib.hid (fun W => show Calls Try.prog 15 #[.agg #[.int .u8 33, .int .u8 0, .int .u8 0, .int .u8 0, .int .u8 0, .int .u8 0, .int .u8 0, .int .u8 0, .int .u8 0, .int .u8 0, .int .u8 0, .int .u8 0, .int .u8 0, .int .u8 0, .int .u8 0, .int .u8 0, .int .u8 0, .int .u8 0, .int .u8 0, .int .u8 0]] W fun e w' => e = .returned (.string ⟨#[49, 49, 48, 48, 48, 48, 48, 48, 48, 48, 48, 48, 48, 48, 48, 48, 48, 48, 48, 48, 48, 48, 48, 48, 48, 48, 48, 48, 48, 48, 48, 48]⟩) ∧ Fr (fun _ => False) W w' from by
    have h := bLetters_any [33, 0, 0, 0, 0, 0, 0, 0, 0, 0, 0, 0, 0, 0, 0, 0, 0, 0, 0, 0] rfl W
    rw [awake_letters] at h
    exact h)
  have HY := Lib.hid (fun W => show Calls Try.prog 17 #[.string ⟨#[97, 45, 98, 46, 99]⟩] W fun e w' => e = .returned (.bool true) ∧ Fr (fun _ => False) W w' from by
    have h := bName_any ⟨#[97, 45, 98, 46, 99]⟩ (by decide) W
    rw [show nameB (⟨#[97, 45, 98, 46, 99]⟩ : ByteArray).data.toList = true from awake_yes] at h
    exact h)
  have HN := Lib.hid (fun W => show Calls Try.prog 17 #[.string ⟨#[46, 97]⟩] W fun e w' => e = .returned (.bool false) ∧ Fr (fun _ => False) W w' from by
    have h := bName_any ⟨#[46, 97]⟩ (by decide) W
    rw [show nameB (⟨#[46, 97]⟩ : ByteArray).data.toList = false from awake_no] at h
    exact h)
  have hcut : ((⟨#[49, 49, 48, 48, 48, 48, 48, 48, 48, 48, 48, 48, 48, 48, 48, 48, 48, 48, 48, 48, 48, 48, 48, 48, 48, 48, 48, 48, 48, 48, 48, 48]⟩ : ByteArray).extract 0 3).toList = [49, 49, 48] := by rw [Go.ByteArray.toList_eq]; rfl
  go_enter Try.func8, Try.ntmps8
  go_wp2_with (first
    | (go_at_call 15; (with_reducible refine (HL.out _).mono ?_); rintro e w1 ⟨rfl, hf1⟩; have HF1 := Lib.hid hf1; clear hf1)
    | (go_at_call 17; (with_reducible refine (HY.out _).mono ?_); rintro e w2 ⟨rfl, hf2⟩; have HF2 := Lib.hid (HF1.out.trans hf2 (fun _ h => h.elim)); clear hf2)
    | (go_at_call 17; (with_reducible refine (HN.out _).mono ?_); rintro e w3 ⟨rfl, hf3⟩; have HF3 := Lib.hid (HF2.out.trans hf3 (fun _ h => h.elim)); clear hf3))
  go_ret
  exact ⟨rfl, HF3.out⟩
theorem awake_enter (args : Array Value) (w : World) : (callFunc 8 args).run Try.prog w = .ok (.enter 8 args) w := by rfl
end Go.Proofs.Ytdmlalnekjihfaa
