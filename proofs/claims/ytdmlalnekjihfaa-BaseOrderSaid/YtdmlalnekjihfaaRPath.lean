/- Contract of the document's own: spenceref03.Path. -/
import Derived.Test.YtdmlalnekjihfaaRLetters
import Derived.Test.YtdmlalnekjihfaaRName
import Derived.Deep.RegionHeld3
import Derived.Deep.MidRow
namespace Go.Proofs.Ytdmlalnekjihfaa
open Go.RowKit Go.ChangeShapes
set_option linter.unusedVariables false

/-- The cells of a path. -/
def pathC (H : List UInt8) (N : ByteArray) : Array Value := (H.map bv ++ [Value.string N]).toArray
theorem pathC_size (H : List UInt8) (hH : H.length = 20) (N : ByteArray) : (pathC H N).size = 21 := by simp [pathC, hH]
theorem pathC_name (H : List UInt8) (hH : H.length = 20) (N : ByteArray) : (pathC H N)[20]? = some (.string N) := by
  rw [pathC, List.getElem?_toArray, List.getElem?_append_right (by simp [hH])]
  simp [hH]
theorem pathC_hash (H : List UInt8) (N : ByteArray) (i : Nat) (v : Value) (h : (H.map bv)[i]? = some v) : (pathC H N)[i]? = some v := by
  rw [pathC, List.getElem?_toArray, List.getElem?_append_left (List.getElem?_eq_some_iff.1 h).1]
  exact h
theorem pathC_one (H : List UInt8) (N : ByteArray) : (pathC H N).all (·.oneCell') = true := by
  rw [pathC]
  refine all_oneCell_toArray (fun u hu => ?_)
  rcases List.mem_append.1 hu with h | h
  · exact bv_one H u h
  · obtain rfl := List.mem_singleton.1 h
    rfl
/-- A path in a block of its own. -/
def PathT (w : World) (g : Nat) (H : List UInt8) (N : ByteArray) : Prop := w.heap[g]? = some (.cells (pathC H N) 25 (0, 0))
theorem PathT.keep {S : Nat → Prop} {w w' : World} {g : Nat} {H : List UInt8} {N : ByteArray} (h : PathT w g H N) (hf : Fr S w w') (hg : ¬ S g) : PathT w' g H N := hf.heap h hg
theorem PathT.name {w : World} {g : Nat} {H : List UInt8} {N : ByteArray} (h : PathT w g H N) (hH : H.length = 20) : w.cell? ⟨g, 20, none⟩ = some (.string N) := by
  rw [cell_of_row _ _ _ _ _ _ h, pathC_name H hH N]
theorem PathT.range {w : World} {g : Nat} {H : List UInt8} {N : ByteArray} (h : PathT w g H N) : w.rangeAt g 0 (H.map bv) := fun j v hv => by
  rw [Nat.zero_add, cell_of_row _ _ _ _ _ _ h, pathC_hash H N j v hv]
theorem PathT.byte {w : World} {g : Nat} {H : List UInt8} {N : ByteArray} (h : PathT w g H N) (i : Nat) (hi : i < H.length) : w.cell? ⟨g, i, none⟩ = some (.int .u8 (H.getD i 0).toNat) := by
  rw [cell_of_row _ _ _ _ _ _ h]
  refine pathC_hash H N i _ ?_
  rw [List.getElem?_map, List.getD_eq_getElem?_getD, List.getElem?_eq_getElem hi]
  rfl

theorem run_cat (w : World) (a b : ByteArray) (h : a.size + b.size ≤ 281474976710656) : (Op.stringOp .add a b).run Try.prog w = .ok (.string (a ++ b)) w := by
  have hm : IntKind.i64.max = 9223372036854775807 := by decide
  have h' : ¬ (((a.size + b.size : Nat) : Int) > IntKind.i64.max) := by rw [hm]; omega
  unfold Op.stringOp
  simp only [if_neg h']
  rfl
theorem path_ret (LS N : ByteArray) (L : List UInt8) (h : LS = ⟨L.toArray⟩) : Ending.returned (.tuple #[.string (LS ++ ⟨#[45]⟩ ++ N), .int .i64 0]) = .returned (.tuple #[.string ⟨(L ++ 45 :: N.data.toList).toArray⟩, .int .i64 0]) := by
  have e : LS ++ ⟨#[45]⟩ ++ N = ⟨(L ++ 45 :: N.data.toList).toArray⟩ := by
    rw [h]
    apply ByteArray.ext
    apply Array.toList_inj.1
    simp
  rw [e]

set_option maxRecDepth 100000 in
set_option maxHeartbeats 2000000 in
theorem rPath_any (H : List UInt8) (hH : H.length = 20) (N : ByteArray) (hN : N.size ≤ 140737488351232) (w : World) :
    Calls Try.prog 12 #[.agg (pathC H N)] w fun e w' => e = .returned (if nameB N.data.toList = true then .tuple #[.string ⟨(letL H ++ 45 :: N.data.toList).toArray⟩, .int .i64 0] else .tuple #[.string ⟨#[]⟩, .int .i64 2]) ∧ Fr (fun _ => False) w w' := by
  obtain ⟨C, hC⟩ : ∃ C, C = pathC H N := ⟨_, rfl⟩
  have HB := Lib.hid (show PathT (w.alloc (.cells C 25)) w.heap.size H N by rw [hC]; exact heap_alloc_new w _)
  have hcn := HB.out.name hH
  have HNM := Lib.hid (rName_any N hN (w.alloc (.cells C 25)))
  obtain ⟨LS, hLS⟩ : ∃ LS : ByteArray, LS = ⟨(letL H).toArray⟩ := ⟨_, rfl⟩
  have hls : LS.size ≤ 32 := by rw [hLS]; show (letL H).toArray.size ≤ 32; simp [letL_length]
  have HLT := Lib.hid (fun W => rLetters_any H hH W)
  rw [← hLS] at HLT
  have HLS := Lib.hid hLS
  clear hLS
  rw [← hC]
  have HN := Lib.hid (And.intro hH hN)
  clear hC
  obtain ⟨RS, hRS⟩ : ∃ RS, RS = (if nameB N.data.toList = true then Value.tuple #[.string ⟨(letL H ++ 45 :: N.data.toList).toArray⟩, .int .i64 0] else .tuple #[.string ⟨#[]⟩, .int .i64 2]) := ⟨_, rfl⟩
  rw [← hRS]
  by_cases hb : nameB N.data.toList = true
  · rw [if_pos hb] at hRS
    have HRS := Lib.hid hRS
    have HBB := Lib.hid hb
    have hra := HB.out.range
    have hk1 := fun w => run_cat w LS ⟨#[45]⟩ (by show LS.size + 1 ≤ _; omega)
    have hk2 := fun w => run_cat w (LS ++ ⟨#[45]⟩) N (by rw [ByteArray.size_append]; show LS.size + 1 + N.size ≤ _; omega)
    have hui : (Try.prog.info? 23).map (·.size) = some (H.map bv).length := by rw [List.length_map, hH]; kernel_rfl
    have huu := Try.underlying23
    clear hRS hb hH
    go_enter Try.func12, Try.ntmps12
    go_wp2_with (go_at_call 18; refine HNM.out.mono ?_; rintro e w' ⟨rfl, rfl⟩; rw [HBB.out])
    go_region_held3 (fun w' => w'.rangeAt w.heap.size 0 (H.map bv) ∧ w'.cell? ⟨w.heap.size, 20, none⟩ = some (.string N)) (first | exact ⟨by assumption, by assumption⟩ | go_keep)
      (first
        | (go_at_call 16; refine (HLT.out _).mono ?_; rintro e w2 ⟨rfl, hf2⟩; have HB2 := Lib.hid (PathT.keep (S := fun _ => False) (show PathT (w.alloc (.cells C 25)).drew w.heap.size H N from HB.out) hf2 (fun h => h)); have hra2 := HB2.out.range; have hcn2 := HB2.out.name HN.out.1; have HF2 := Lib.hid (((Fr.refl (fun _ => False) w).alloc (.cells C 25)).drew.trans hf2 (fun _ h => h.elim)); clear hf2))
    go_wp2
    go_ret2
    refine ⟨?_, HF2.out⟩
    rw [HRS.out]
    exact path_ret LS N (letL H) HLS.out
  · rw [if_neg hb] at hRS
    have HRS := Lib.hid hRS
    have HBB := Lib.hid (show nameB N.data.toList = false by simpa using hb)
    clear hRS hb hH
    go_enter Try.func12, Try.ntmps12
    go_wp2_with (go_at_call 18; refine HNM.out.mono ?_; rintro e w' ⟨rfl, rfl⟩; rw [HBB.out])
    go_ret2
    exact ⟨by rw [HRS.out]; rfl, (Fr.refl _ _).alloc _⟩
end Go.Proofs.Ytdmlalnekjihfaa
