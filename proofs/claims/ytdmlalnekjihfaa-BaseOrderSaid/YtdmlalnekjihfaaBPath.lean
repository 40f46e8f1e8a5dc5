/- Contract of base.Path. -/
import Derived.Test.YtdmlalnekjihfaaRPath
import Derived.Test.YtdmlalnekjihfaaBName
namespace Go.Proofs.Ytdmlalnekjihfaa
open Go.RowKit Go.ChangeShapes
set_option linter.unusedVariables false

set_option maxRecDepth 100000 in
set_option maxHeartbeats 2000000 in
theorem bPath_any (H : List UInt8) (hH : H.length = 20) (N : ByteArray) (hN : N.size ≤ 140737488351232) (w : World) :
    Calls Try.prog 11 #[.agg (pathC H N)] w fun e w' => e = .returned (if nameB N.data.toList = true then .tuple #[.string ⟨(letL H ++ 45 :: N.data.toList).toArray⟩, .int .i64 0] else .tuple #[.string ⟨#[]⟩, .int .i64 2]) ∧ Fr (fun _ => False) w w' := by
  obtain ⟨C, hC⟩ : ∃ C, C = pathC H N := ⟨_, rfl⟩
  have HB := Lib.hid (show PathT (w.alloc (.cells C 25)) w.heap.size H N by rw [hC]; exact heap_alloc_new w _)
  have hcn := HB.out.name hH
  have HNM := Lib.hid (bName_any N hN (w.alloc (.cells C 25)))
  obtain ⟨LS, hLS⟩ : ∃ LS : ByteArray, LS = ⟨(letL H).toArray⟩ := ⟨_, rfl⟩
  have hls : LS.size ≤ 32 := by rw [hLS]; show (letL H).toArray.size ≤ 32; simp [letL_length]
  have HLT := Lib.hid (fun W => bLetters_any H hH W)
  rw [← hLS] at HLT
  have HLS := Lib.hid hLS
  clear hLS
  rw [← hC]
  have HN := Lib.hid (And.intro hH hN)
  clear hC
  obtain ⟨RS, hRS⟩ : ∃ RS, RS = (if nameB N.data.toList = true then Value.tuple #[.string ⟨(letL H ++ 45 :: N.data.toList).toArray⟩, .int .i64 0] else .tuple #[.string ⟨#[]⟩, .int .i64 2]) := ⟨_, rfl⟩
  rw [← hRS]
  by_cases hb : nameB N.data.toList = true
  · rw [if_pos hb] at hRS
    have HRS := Lib.hid hRS
    have HBB := Lib.hid hb
    have hra := HB.out.range
    have hk1 := fun w => run_cat w LS ⟨#[45]⟩ (by show LS.size + 1 ≤ _; omega)
    have hk2 := fun w => run_cat w (LS ++ ⟨#[45]⟩) N (by rw [ByteArray.size_append]; show LS.size + 1 + N.size ≤ _; omega)
    have hui : (Try.prog.info? 23).map (·.size) = some (H.map bv).length := by rw [List.length_map, hH]; kernel_rfl
    have huu := Try.underlying23
    clear hRS hb hH
    go_enter Try.func11, Try.ntmps11
    go_wp2_with (go_at_call 17; refine HNM.out.mono ?_; rintro e w1 ⟨rfl, hf1⟩; rw [HBB.out]; have HB1 := Lib.hid (HB.out.keep hf1 (fun h => h)); have hra1 := HB1.out.range; have hcn1 := HB1.out.name HN.out.1; have HF1 := Lib.hid (((Fr.refl (fun _ => False) w).alloc (.cells C 25)).trans hf1 (fun _ h => h.elim)); clear hf1)
    go_region_held3 (fun w' => w'.rangeAt w.heap.size 0 (H.map bv) ∧ w'.cell? ⟨w.heap.size, 20, none⟩ = some (.string N)) (first | exact ⟨by assumption, by assumption⟩ | go_keep)
      (first
        | (go_at_call 15; refine (HLT.out _).mono ?_; rintro e w2 ⟨rfl, hf2⟩; have HB2 := Lib.hid (PathT.keep (S := fun _ => False) (show PathT w1.drew w.heap.size H N from HB1.out) hf2 (fun h => h)); have hra2 := HB2.out.range; have hcn2 := HB2.out.name HN.out.1; have HF2 := Lib.hid (HF1.out.drew.trans hf2 (fun _ h => h.elim)); clear hf2))
    go_wp2
    go_ret2
    refine ⟨?_, HF2.out⟩
    rw [HRS.out]
    exact path_ret LS N (letL H) HLS.out
  · rw [if_neg hb] at hRS
    have HRS := Lib.hid hRS
    have HBB := Lib.hid (show nameB N.data.toList = false by simpa using hb)
    clear hRS hb hH
    go_enter Try.func11, Try.ntmps11
    go_wp2_with (go_at_call 17; refine HNM.out.mono ?_; rintro e w1 ⟨rfl, hf1⟩; rw [HBB.out]; have HF1 := Lib.hid (((Fr.refl (fun _ => False) w).alloc (.cells C 25)).trans hf1 (fun _ h => h.elim)); clear hf1)
    go_ret2
    exact ⟨by rw [HRS.out]; rfl, HF1.out⟩
end Go.Proofs.Ytdmlalnekjihfaa
