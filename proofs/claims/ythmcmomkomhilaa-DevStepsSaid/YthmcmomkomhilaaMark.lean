/- Contracts of the kit's marks. -/
import Derived.Test.YthmcmomkomhilaaKit
namespace Go.Proofs.Ythmcmomkomhilaa
open Go.RowKit Go.ChangeShapes
set_option linter.unusedVariables false

theorem mark_any (k i : Nat) (w : World) (hk : k ≤ 1000000000) (hi : i ≤ 1000000000000000) :
    Calls Try.prog 52 #[.int .i64 k, .int .i64 i] w fun e w' => e = .returned (.int .i64 (1000003 * ((k : Int) + 7) + i)) ∧ w = w' := by
  go_enter Try.func52, Try.ntmps52
  go_wp2
  go_ret
  exact ⟨rfl, rfl⟩

/-- The mark of place i of list k, as a byte. -/
def mB (k i : Nat) : UInt8 := UInt8.ofNat (IntKind.u64.wrap ((1000003 * ((k : Int) + 7) + i) * 11400714819323198485) / 72057594037927936 % 256).toNat

theorem mB_val (k i : Nat) : IntKind.u64.wrap ((1000003 * ((k : Int) + 7) + i) * 11400714819323198485) / 72057594037927936 % 256 = (mB k i).toNat := by
  unfold mB
  generalize IntKind.u64.wrap ((1000003 * ((k : Int) + 7) + i) * 11400714819323198485) / 72057594037927936 = z
  rw [UInt8.toNat_ofNat']
  omega

theorem markByte_any (k i : Nat) (w : World) (hk : k ≤ 1000000000) (hi : i ≤ 1000000000000000) :
    Calls Try.prog 47 #[.int .i64 k, .int .i64 i] w fun e w' => e = .returned (bv (mB k i)) ∧ w = w' := by
  have HV := Lib.hid (mB_val k i)
  obtain ⟨m, hm⟩ : ∃ m : Int, m = 1000003 * ((k : Int) + 7) + i := ⟨_, rfl⟩
  have h0 : 0 ≤ m := by omega
  have h1 : m ≤ 2000000000000000000 := by omega
  have HM := mark_any k i w hk hi
  rw [← hm] at HM HV
  have HM' := Lib.hid HM
  clear hm HM
  go_enter Try.func47, Try.ntmps47
  go_wp2_with (go_at_call 52; refine HM'.out.mono ?_; rintro e w' ⟨rfl, rfl⟩)
  go_ret
  exact ⟨ret_int HV.out, rfl⟩
end Go.Proofs.Ythmcmomkomhilaa
