/- ApartBytes of lists that lie apart: true. -/
import Derived.Test.YthjpgnmpcllolaaApart
namespace Go.Proofs.Ythjpgnmpcllolaa
open Go.RowKit Go.ChangeShapes
set_option linter.unusedVariables false

set_option maxHeartbeats 1000000 in
theorem ApartBytes_any (n lb cl : Nat) (X : Nat → Value) (L : Nat → List UInt8) (w : World) (h0 : 0 < n) (hn : n ≤ 1000) (hcl : n ≤ cl)
    (hls : ∀ j, j < n → w.cell? ⟨lb, j, none⟩ = some (X j)) (hr : RowsB w n X L) (hD : DistB n X) (hL : ∀ j, j < n → (L j).length ≤ 140737488350000) :
    Calls Try.prog 21 #[.slice (some ⟨lb, 0, none⟩) n cl] w fun e w' => e = .returned (.bool true) ∧ Fr (BlksB n X) w w' := by
  have hB0 := heap_alloc_new w (.cells (bagC (.slice none 0 0)) 87)
  have hF0 : Fr (fun _ => False) w (w.alloc (.cells (bagC (.slice none 0 0)) 87)) := (Fr.refl _ _).alloc _
  have hx : ∀ j, j < n → ∃ ax m cx, X j = .slice ax m cx := fun j hj => by
    obtain ⟨ax, cx, h⟩ := (hr j hj).len
    exact ⟨ax, _, cx, h⟩
  have hblk : ∀ g, BlksB n X g → g < w.heap.size := fun g ⟨j, hj, hg⟩ => ((hr j hj).1.lt g hg).2
  have HX := Lib.hid hx
  have HLS := Lib.hid hls
  have HR := Lib.hid hr
  have HD := Lib.hid hD
  have HL := Lib.hid hL
  have HBL := Lib.hid hblk
  have HS : Hid ((w.alloc (.cells (bagC (.slice none 0 0)) 87)).heap[w.heap.size]? = some (.cells (bagC (.slice none 0 0)) 87 (0, 0)) ∧ RowV (w.alloc (.cells (bagC (.slice none 0 0)) 87)) (.slice none 0 0) 0 X ∧ (∀ g, (Value.slice none 0 0).ownBlock = some g → w.heap.size < g) ∧ Fr (fun _ => False) w (w.alloc (.cells (bagC (.slice none 0 0)) 87))) :=
    Lib.hid ⟨hB0, World.ownsRow_nil _ _ _ _, (fun g hg => by cases hg), hF0⟩
  clear hls hr hD hL hx hblk hB0 hF0
  go_enter Try.func21, Try.ntmps21
  go_wp2
  go_loopw [4] (fun kv wr => ∃ (k : Nat) (v : Value), k ≤ n ∧ kv = .int .i64 k ∧ Hid (wr.heap[w.heap.size]? = some (.cells (bagC v) 87 (0, 0)) ∧ RowV wr v k X ∧ (∀ g, v.ownBlock = some g → w.heap.size < g) ∧ Fr (fun _ => False) w wr)) (fun kv _ => n - (intOf kv).toNat)
  case atStart => exact ⟨0, .slice none 0 0, by omega, rfl, HS⟩
  case round =>
    obtain ⟨k, v, hk, rfl, hst⟩ := hrel
    clear HS
    by_cases hlt : k < n
    · obtain ⟨ao, co, hv⟩ := hst.out.2.1.form
      subst hv
      obtain ⟨ax, m, cx, hX⟩ := HX.out k hlt
      have hc := hst.out.2.2.2.cell (HLS.out k hlt) (fun h => h)
      rw [hX] at hc
      have HXk := Lib.hid hX
      have HP := Lib.hid (putBytes_any w.heap.size k m ao ax co cx 87 X wr (by omega) hst.out.1 hst.out.2.1 (fun e => Nat.lt_irrefl _ (hst.out.2.2.1 _ e)) hX)
      clear hX
      go_wp2_with (go_at_call 39; refine HP.out.mono ?_; rintro e w' ⟨rfl, v', h1, h2, h3, h4, h5⟩; have HN := Lib.hid (And.intro h1 (And.intro h2 (And.intro h4 h5))); clear h1 h2 h3 h4 h5)
      go_roundw
      case rel =>
        refine ⟨k + 1, v', by omega, by go_num, Lib.hid ⟨HN.out.1, HN.out.2.1, fun g hg => ?_, hst.out.2.2.2.trans HN.out.2.2.2 (fun i hi => .inr ?_)⟩⟩
        · rcases HN.out.2.2.1 g hg with h | h
          · exact hst.out.2.2.1 g h
          · exact Nat.lt_of_lt_of_le (lt_of_block hst.out.1) h
        · rcases hi with rfl | h
          · exact Nat.le_refl _
          · exact Nat.le_of_lt (hst.out.2.2.1 i h)
      case measure => simp [intOf]; omega
    · rw [show k = n by omega] at hst
      obtain ⟨g, c, hv, hnc, hcm, hcells⟩ := hst.out.2.1.full h0
      subst hv
      have HP := Lib.hid (apart_bytes w.heap.size n g c 87 X L wr hn hnc hcm hst.out.1 hcells (HR.out.keep hst.out.2.2.2 (fun _ _ h => h)) HD.out
        (fun h => by have h1 := HBL.out g h; have h2 := hst.out.2.2.1 g rfl; omega) (fun h => Nat.lt_irrefl _ (HBL.out _ h)) HL.out)
      have HF := Lib.hid hst.out.2.2.2
      clear hst hcells
      go_wp2_with (go_at_call 40; refine HP.out.mono ?_; rintro e w' ⟨rfl, h1⟩; have HN := Lib.hid h1; clear h1)
      go_ret
      exact ⟨rfl, HF.out.mono (fun _ _ h => h.elim) |>.trans HN.out (fun _ h => .inl h)⟩
end Go.Proofs.Ythjpgnmpcllolaa
