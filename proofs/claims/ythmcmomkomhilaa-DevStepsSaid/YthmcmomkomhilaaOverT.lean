/- OverBytes: what was told is written over, in a block of any type. -/
import Derived.Test.YthmcmomkomhilaaFlatLib
import Derived.Test.YthmcmomkomhilaaMark
import Derived.Test.YthmcmomkomhilaaCur
import Derived.Test.YthmcmomkomhilaaDOps3
namespace Go.Proofs.Ythmcmomkomhilaa
open Go.RowKit Go.ChangeShapes
set_option linter.unusedVariables false

set_option maxHeartbeats 2000000 in
set_option maxRecDepth 100000 in
theorem OverT_any {F : Nat → Prop} (v : Value) (L : List UInt8) (w : World) (h : ToldT F w v L) (hL : L.length ≤ 1000000000) :
    Calls Try.prog 26 #[v] w fun e w' => e = .returned (.tuple #[]) ∧ Fr (fun k => v.ownBlock = some k) w w' := by
  rcases h with ⟨rfl, h0⟩ | ⟨g, T, cur, cap, rfl, hb, hg, hs, hn, hm, ht⟩
  · go_enter Try.func26, Try.ntmps26
    go_wp2
    refine wp_loop_rounds 1 ?_
    rw [rounds_succ]
    go_wp2
    go_end0
    exact ⟨rfl, Fr.refl _ _⟩
  · obtain ⟨n, hn'⟩ : ∃ n, n = L.length := ⟨_, rfl⟩
    rw [← hn'] at hn hL ⊢
    unfold maxLen at hm
    have HG := Lib.hid (And.intro hg (show cur.size = cap by simpa using hs))
    have hown : ∀ k, (Value.slice (some ⟨g, 0, none⟩) n cap).ownBlock = some k ↔ k = g := fun k => by simp [Value.ownBlock, eq_comm]
    have HOW := Lib.hid hown
    suffices hh : Calls Try.prog 26 #[.slice (some ⟨g, 0, none⟩) n cap] w fun e w' => e = .returned (.tuple #[]) ∧ Fr (fun k => k = g) w w' from
      hh.mono fun e w' ⟨h1, h2⟩ => ⟨h1, h2.mono fun k _ hk => (HOW.out k).2 hk⟩
    clear hb hg hs ht hn' hown HOW
    by_cases hc : cap ≤ n + 12
    · obtain ⟨t, rfl⟩ : ∃ t, t = cap := ⟨_, rfl⟩
      have hc1 : (t : Int) ≤ (n : Int) + 12 := by omega
      go_enter Try.func26, Try.ntmps26
      go_wp2_with fail
      go_loopw [3] (fun iv wr => ∃ i : Nat, i ≤ t ∧ iv = .int .i64 i ∧ Hid (Fr (fun k => k = g) w wr ∧ ∃ C : Array Value, C.size = t ∧ wr.heap[g]? = some (.cells C T (0, 0)))) (fun iv _ => t - (intOf iv).toNat)
      case atStart => exact ⟨0, by omega, rfl, Lib.hid ⟨Fr.refl _ _, cur, HG.out.2, HG.out.1⟩⟩
      case round =>
        obtain ⟨i, hi, rfl, hR⟩ := hrel
        by_cases hlt : i < t
        · obtain ⟨hF, C, hC, hb⟩ := hR.out
          have hci : wr.cell? ⟨g, i, none⟩ = some (C[i]'(by omega)) := by rw [cell_of_row _ _ _ _ _ _ hb]; exact Array.getElem?_eq_getElem (by omega)
          have hfi := frozen_of_row wr g i C T hb
          obtain ⟨y, hy⟩ : ∃ y, y = C[i]'(by omega) := ⟨_, rfl⟩
          rw [← hy] at hci
          have HMB := Lib.hid (markByte_any 2 i wr (by omega) (by omega))
          have HBV := Lib.hid (show bv (mB 2 i) = .int .u8 (mB 2 i).toNat from rfl)
          have HS := Lib.hid (show Fr (fun k => k = g) w (wr.setCell ⟨g, i, none⟩ (.int .u8 (mB 2 i).toNat)) ∧ ∃ C : Array Value, C.size = t ∧ (wr.setCell ⟨g, i, none⟩ (.int .u8 (mB 2 i).toNat)).heap[g]? = some (.cells C T (0, 0)) from
            ⟨hF.setCell (p := ⟨g, i, none⟩) (.inl rfl) _, _, by rw [Array.size_setIfInBounds]; exact hC, heap_setCell_at _ hb⟩)
          have hit : (i : Int) < (t : Int) := by omega
          clear hR hF hC hb hy
          go_wp2_with (go_at_call 47; refine HMB.out.mono ?_; rintro e w' ⟨rfl, rfl⟩; rw [HBV.out])
          go_roundw
          case rel => exact ⟨i + 1, by omega, by go_num, HS⟩
          case measure => simp [intOf]; omega
        · have HQ := Lib.hid hR.out.1
          clear hR
          go_wp2
          go_end0
          exact ⟨rfl, HQ.out⟩
    · obtain ⟨t, hte⟩ : ∃ t, t = n + 12 := ⟨_, rfl⟩
      have hti : (n : Int) + 12 = (t : Int) := by omega
      have hc1 : ¬ (cap : Int) ≤ (t : Int) := by omega
      have hc2 : (t : Int) ≤ (cap : Int) := by omega
      have hc3 : t ≤ cap := by omega
      have htb : t ≤ 1000000012 := by omega
      clear hc hte
      go_enter Try.func26, Try.ntmps26
      go_wp2_with fail
      go_loopw [3] (fun iv wr => ∃ i : Nat, i ≤ t ∧ iv = .int .i64 i ∧ Hid (Fr (fun k => k = g) w wr ∧ ∃ C : Array Value, C.size = cap ∧ wr.heap[g]? = some (.cells C T (0, 0)))) (fun iv _ => t - (intOf iv).toNat)
      case atStart => exact ⟨0, by omega, rfl, Lib.hid ⟨Fr.refl _ _, cur, HG.out.2, HG.out.1⟩⟩
      case round =>
        obtain ⟨i, hi, rfl, hR⟩ := hrel
        by_cases hlt : i < t
        · obtain ⟨hF, C, hC, hb⟩ := hR.out
          have hci : wr.cell? ⟨g, i, none⟩ = some (C[i]'(by omega)) := by rw [cell_of_row _ _ _ _ _ _ hb]; exact Array.getElem?_eq_getElem (by omega)
          have hfi := frozen_of_row wr g i C T hb
          obtain ⟨y, hy⟩ : ∃ y, y = C[i]'(by omega) := ⟨_, rfl⟩
          rw [← hy] at hci
          have HMB := Lib.hid (markByte_any 2 i wr (by omega) (by omega))
          have HBV := Lib.hid (show bv (mB 2 i) = .int .u8 (mB 2 i).toNat from rfl)
          have HS := Lib.hid (show Fr (fun k => k = g) w (wr.setCell ⟨g, i, none⟩ (.int .u8 (mB 2 i).toNat)) ∧ ∃ C : Array Value, C.size = cap ∧ (wr.setCell ⟨g, i, none⟩ (.int .u8 (mB 2 i).toNat)).heap[g]? = some (.cells C T (0, 0)) from
            ⟨hF.setCell (p := ⟨g, i, none⟩) (.inl rfl) _, _, by rw [Array.size_setIfInBounds]; exact hC, heap_setCell_at _ hb⟩)
          have hit : (i : Int) < (t : Int) := by omega
          clear hR hF hC hb hy
          go_wp2_with (go_at_call 47; refine HMB.out.mono ?_; rintro e w' ⟨rfl, rfl⟩; rw [HBV.out])
          go_roundw
          case rel => exact ⟨i + 1, by omega, by go_num, HS⟩
          case measure => simp [intOf]; omega
        · have HQ := Lib.hid hR.out.1
          clear hR
          go_wp2
          go_end0
          exact ⟨rfl, HQ.out⟩
end Go.Proofs.Ythmcmomkomhilaa
