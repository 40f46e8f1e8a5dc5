/- dev's own device, whole: Kept. -/
import Derived.Test.YthmcmomkomhilaaDOps3
namespace Go.Proofs.Ythmcmomkomhilaa
open Go.RowKit Go.ChangeShapes
set_option linter.unusedVariables false

theorem OwnB.madeN (w : World) (n : Nat) (hn : n ≤ maxLen) : OwnB (fun k => k = w.heap.size) (w.alloc (.cells ((List.replicate n (0 : UInt8)).map bv).toArray 5)) (.slice (some ⟨w.heap.size, 0, none⟩) 0 n) [] := by
  refine ⟨⟨by simp, .inr ⟨w.heap.size, n, _, rfl, Nat.zero_le _, heap_alloc_new w _, Nat.zero_le _, hn, by simp, by simp⟩⟩, fun g hg => ?_⟩
  simp [Value.ownBlock] at hg
  exact hg.symm
theorem run_make0 (w : World) (m : Int) (n : Nat) (hm : m = n) (hn : n ≤ 140737488355328) :
    (Instr.makeSlice 33 (.int .i64 0) (.int .i64 m)).run Try.prog w = .ok (.slice (some ⟨w.heap.size, 0, none⟩) 0 n) (w.alloc (.cells ((List.replicate n (0 : UInt8)).map bv).toArray 5)) := by
  subst hm
  obtain ⟨i0, hi, hz0, hz1, hz2⟩ := info_parts Try.infoB
  have h := run_make (P := Try.prog) w 33 5 i0 (.int .u8 0) Try.underlying33 hi hz0 .i64 .i64 0 (n : Int) (by omega) (by omega) (by rw [hz2]; omega) (by omega)
  rw [h, hz1, Int.toNat_natCast, Nat.mul_one]
  have e : madeCells (Value.int .u8 0).cells n = ((List.replicate n (0 : UInt8)).map bv).toArray := by
    apply Array.ext'
    simp only [madeCells, Value.cells, Array.toList_map, Array.toList_range, List.map_replicate]
    apply List.ext_getElem
    · simp
    · intro k h1 h2
      simp [Nat.mod_one]
      rfl
  rw [e]
  rfl
theorem take_sec (L : List UInt8) (i : Nat) : L.take (64 * (i + 1)) = L.take (64 * i) ++ secAt L i := by
  rw [secAt, show 64 * (i + 1) = 64 * i + 64 by omega, List.take_add]

set_option maxRecDepth 100000 in
set_option maxHeartbeats 2000000 in
theorem aKept {D : Nat → Prop} (w : World) (g s : Nat) (d : Dv) (h : DevAt w D g s d) :
    Calls Try.prog 17 #[.pointer (some ⟨g, 0, none⟩)] w fun e w' => ∃ v, e = .returned v ∧ OwnB (fun k => w.heap.size ≤ k) w' v d.all ∧ Fr (fun _ => False) w w' := by
  have hR := h.right
  obtain ⟨F, kb, vw, hm, hD⟩ := h
  obtain ⟨l, h1, h2, h3, hh⟩ := hm.head
  have hc := dIs_yes _ g kb s vw d.deeds l d.down hh
  obtain ⟨_, _, _, _, c4, _⟩ := hh.cells
  have hs := hm.small
  obtain ⟨m, hmm⟩ : ∃ m, m = 64 * s := ⟨_, rfl⟩
  have e1 : 64 * (s : Int) = (m : Int) := by omega
  have hmk := fun W => run_make0 W (m : Int) m rfl (by omega)
  obtain ⟨Z, hZ⟩ : ∃ Z, Z = ((List.replicate m (0 : UInt8)).map bv).toArray := ⟨_, rfl⟩
  rw [← hZ] at hmk
  have hzv := zSec_zero
  have hown := OwnB.madeN w m (by unfold maxLen; omega)
  rw [← hZ] at hown
  have HO := Lib.hid hown
  have c5 := (hh.keep ((Fr.refl (fun _ => False) w).alloc (.cells Z 5)) id).cells.2.2.2.2.1
  have hm6 : m ≤ 524288 := by omega
  have HM := Lib.hid (And.intro hm (And.intro hR (And.intro hmm hh)))
  clear hm hh h1 hD hR hmm hZ hown
  go_enter Try.func17, Try.ntmps17
  go_wp2_with (go_at_call 42; refine hc.mono ?_; rintro e w1 ⟨rfl, rfl⟩)
  go_loopw [3, 21] (fun v iv wr => ∃ i : Nat, i ≤ s ∧ iv = .int .i64 i ∧ Hid (OwnB (fun k => w.heap.size ≤ k) wr v (d.all.take (64 * i)) ∧ Fr (fun _ => False) w wr)) (fun _ iv _ => s - (intOf iv).toNat)
  case atStart => exact ⟨0, by omega, rfl, Lib.hid ⟨HO.out.mono (fun k _ h => by rw [show k = w.heap.size from h]; exact Nat.le_refl _), (Fr.refl _ _).alloc _⟩⟩
  case round =>
    clear HO
    obtain ⟨i, hi, rfl, hRr⟩ := hrel
    by_cases hlt : i < s
    · have hd : decide ((i : Int) < (s : Int)) = true := by rw [decide_eq_true_iff]; omega
      have hkn : (i : Int) < (s : Int) := by omega
      have hi0 : (0 : Int) ≤ (i : Int) := by omega
      obtain ⟨hm, hR, hmm, hh⟩ := HM.out
      obtain ⟨hob, hf⟩ := hRr.out
      have hLW : BytT wr kb 70 d.all := hf.heap hm.kept id
      have hbl := secAt_length d.all s i hR.all hlt
      have hrg := sec_range hLW i s hR.all hlt
      have hz3 : (Try.prog.info? 70).map (·.size) = some ((secAt d.all i).map bv).length := by rw [List.length_map, hbl]; kernel_rfl
      obtain ⟨C, hC⟩ : ∃ C, C = ((secAt d.all i).map bv).toArray := ⟨_, rfl⟩
      have hCs : C.size = 64 := by rw [hC, List.size_toArray, List.length_map, hbl]
      have hz2 : (Try.prog.info? 70).map (·.size) = some C.size := by rw [hCs]; kernel_rfl
      have hC1 : C.all (·.oneCell') = true := by rw [hC]; exact all_oneCell_toArray (bv_one _)
      have hzs : zSec.size = C.size := by rw [zSec_size, hCs]
      obtain ⟨w2, hw2⟩ : ∃ w2, w2 = wr.alloc (.cells C 70) := ⟨_, rfl⟩
      have hf2 : Fr (fun _ => False) wr w2 := by rw [hw2]; exact (Fr.refl _ _).alloc _
      have hnb : BytesIn (fun k => k = wr.heap.size) w2 (.slice (some ⟨wr.heap.size, 0, none⟩) 64 64) (secAt d.all i) := by
        have hb : w2.heap[wr.heap.size]? = some (.cells ((secAt d.all i).map bv).toArray 70 (0, 0)) := by rw [hw2, ← hC]; exact heap_alloc_new wr _
        have := (ToldT.bytes (F := fun k => k = wr.heap.size) (w := w2) (v := .slice (some ⟨wr.heap.size, 0, none⟩) (secAt d.all i).length 64) (L := secAt d.all i) (.inr ⟨wr.heap.size, _, _, 64, rfl, rfl, hb, by simp [hbl], by omega, by decide, by rw [show ((secAt d.all i).map bv).toArray.toList = (secAt d.all i).map bv from rfl]; exact List.take_of_length_le (by simp)⟩))
        rwa [hbl] at this
      have HOB := Lib.hid (hob.keep hf2 (fun _ _ _ h => h))
      have HNB := Lib.hid hnb
      have HC := Lib.hid hC
      have HF := Lib.hid (hf.trans hf2 (fun _ h => h.elim))
      have HT := Lib.hid (take_sec d.all i)
      have HLE := Lib.hid (show (d.all.take (64 * i)).length + (secAt d.all i).length ≤ 140737488355328 by rw [hbl, List.length_take]; omega)
      have HW2 := Lib.hid hw2
      clear hm hR hmm hh hob hf hLW hf2 hnb hC hw2 hRr
      go_wp2_with (first
        | (with_reducible refine wpList_load_mid rfl 70 (.tmp 23) rfl kb (i * 64) rfl ((secAt d.all i).map bv) _ hrg Try.underlying70 rfl hz3 ?_; rw [← HC.out])
        | (with_reducible refine wpList_store_new rfl 70 (.tmp 5) (.tmp 24) rfl C zSec 70 wr rfl rfl rfl hz2 hzs hC1 ?_; rw [← HW2.out])
        | (refine wpList_append_bytes (F := fun k => w.heap.size ≤ k) (G := fun k => k = wr.heap.size) w2 rfl (.tmp 25) (.tmp 26) rfl _ _ (d.all.take (64 * i)) (secAt d.all i) rfl rfl HOB.out HNB.out HLE.out ?_; intro v4 w4 ho4 hg4 hn4; (have HN4 := Lib.hid (show OwnB (fun k => w.heap.size ≤ k) w4 v4 (d.all.take (64 * (i + 1))) ∧ Fr (fun _ => False) w w4 from ⟨by rw [HT.out]; exact ho4.mono (fun k _ h => h.elim id (fun h => Nat.le_trans HF.out.size h)), HF.out.trans ((Fr.refl (fun k => w.heap.size ≤ k) _).grown hg4 (fun k hk => .inl (HOB.out.2 k hk))) (fun k h => .inr h)⟩)); clear ho4 hg4 hn4))
      go_roundw
      case rel => exact ⟨i + 1, by omega, by go_num, HN4⟩
      case measure => simp [intOf]; omega
    · have hd : decide ((i : Int) < (s : Int)) = false := by rw [decide_eq_false_iff_not]; omega
      have HE := Lib.hid (show OwnB (fun k => w.heap.size ≤ k) wr u3 d.all ∧ Fr (fun _ => False) w wr by
        have h := hRr.out
        rw [List.take_of_length_le (by have := HM.out.2.1.all; omega)] at h
        exact h)
      clear hRr
      go_wp2_with fail
      go_ret
      exact ⟨_, rfl, HE.out.1, HE.out.2⟩
end Go.Proofs.Ythmcmomkomhilaa
