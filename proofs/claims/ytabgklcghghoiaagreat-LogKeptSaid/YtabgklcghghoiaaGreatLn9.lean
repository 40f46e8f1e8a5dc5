/- Laid together by merge.py: LogKp LogRedo DOps4 JShape JOps JEnt -/
import Derived.Test.YtabgklcghghoiaaGreatLn8
import Derived.Deep.RegionHeld3
import Derived.Test.YtabgklcghghoiaaGreatLn6
import Derived.Test.YtabgklcghghoiaaGreatLn7
import Derived.Deep.MidRow

/- The plain side of a journal: what is kept of it, behind an Append, a Switch, and behind a crash amid one. No program. -/
namespace Go.Proofs.YtabgklcghghoiaaGreat
set_option linter.unusedVariables false

/-- Where an area begins. -/
def areaAt (L A n : Nat) : Nat := 64 * (1 + L + n * A)
/-- K, s sectors, is a journal's, of L sectors of log, A of an area: its head, its area's bytes, its records. -/
structure Kp (K : List UInt8) (L A s : Nat) (h : Hd) (B : List UInt8) (R : List (List UInt8)) : Prop where
  len : K.length = 64 * s
  shape : 1 + L + 2 * A ≤ s ∧ s ≤ 8192
  head : secAt K 0 = h.sec
  right : h.Right L A
  area : cut4 K (areaAt L A h.area) h.size = B
  recs : cut4 K 64 h.used = recsB R
theorem area_in {L A s n z : Nat} (hs : 1 + L + 2 * A ≤ s) (hn : n ≤ 1) (hz : z ≤ 64 * A) : areaAt L A n + z ≤ 64 * s := by
  unfold areaAt
  rcases (show n = 0 ∨ n = 1 by omega) with rfl | rfl <;> omega
/-- It is kept where the head, the records, the area stand as they stood. -/
theorem Kp.keep {K M : List UInt8} {L A s : Nat} {h : Hd} {B : List UInt8} {R : List (List UInt8)} (k : Kp K L A s h B R) (hM : M.length = 64 * s)
    (he : ∀ j, j < 64 * s → (j < 64 + h.used ∨ (areaAt L A h.area ≤ j ∧ j < areaAt L A h.area + h.size)) → M[j]? = K[j]?) : Kp M L A s h B R := by
  have ha := area_in k.shape.1 k.right.area k.right.size
  have hu := k.right.used
  have hsh := k.shape.1
  refine ⟨hM, k.shape, ?_, k.right, ?_, ?_⟩
  · rw [← k.head]
    apply List.ext_getElem?
    intro r
    by_cases hr : r < 64
    · rw [secAt_get _ _ _ hr, secAt_get _ _ _ hr, he _ (by omega) (.inl (by omega))]
    · rw [List.getElem?_eq_none (by rw [secAt_length M s 0 hM (by omega)]; omega), List.getElem?_eq_none (by rw [secAt_length K s 0 k.len (by omega)]; omega)]
  · rw [← k.area]
    exact cut4_congr K M _ _ (by rw [k.len]; exact ha) (by rw [hM]; exact ha) (fun j h1 h2 => he j (by omega) (.inr ⟨h1, h2⟩))
  · rw [← k.recs]
    exact cut4_congr K M _ _ (by rw [k.len]; omega) (by rw [hM]; omega) (fun j h1 h2 => he j (by omega) (.inl (by omega)))
/-- Bytes at a place that does not count: whatever is kept of their sectors, it is the same journal. -/
theorem Kp.part {K : List UInt8} {L A s : Nat} {h : Hd} {B : List UInt8} {R : List (List UInt8)} (k : Kp K L A s h B R) (o : Nat) (X : List UInt8) (ho : o + X.length ≤ 64 * s)
    (hout : ∀ j, (j < 64 + h.used ∨ (areaAt L A h.area ≤ j ∧ j < areaAt L A h.area + h.size)) → ¬ (o ≤ j ∧ j < o + X.length)) (f : Nat → Bool) (qs : List Pend) (hq : qs <+: secsOf (over4 K o X) (firstSec o) (manySecs o X.length)) :
    Kp (wakeL f 0 qs K) L A s h B R := by
  have hl := over4_length K o X (by rw [k.len]; exact ho)
  rw [k.len] at hl
  rcases manySecs_le s o X.length ho with hm | hm
  · have hr : Pends s qs := fun p hp => secsOf_right _ s _ _ hl hm p (hq.subset hp)
    refine k.keep (wakeL_length f s qs 0 K hr k.len) fun j hj hc => part_secsOf f K _ s _ _ k.len hl hm qs hq j hj ?_
    rw [over4_get K o X (by rw [k.len]; exact ho), if_neg (hout j hc)]
  · have hq0 : qs = [] := by
      have : secsOf (over4 K o X) (firstSec o) (manySecs o X.length) = [] := by simp [secsOf, manySecs, hm]
      rw [this] at hq
      exact List.prefix_nil.1 hq
    subst hq0
    exact k
/-- All of them kept. -/
theorem Kp.put_all {K : List UInt8} {s o : Nat} {X : List UInt8} (hK : K.length = 64 * s) (ho : o + X.length ≤ 64 * s) : putAll4 (secsOf (over4 K o X) (firstSec o) (manySecs o X.length)) K = over4 K o X := by
  have hl := over4_length K o X (by rw [hK]; exact ho)
  rw [hK] at hl
  rcases manySecs_le s o X.length ho with hm | hm
  · exact put_secsOf K _ s _ _ hK hl hm (fun c hc hn => over4_sec K s o X hK ho c hc hn)
  · have : X = [] := List.eq_nil_of_length_eq_zero hm
    subst this
    simp [putAll4, secsOf, manySecs, wakeL, over4]
theorem Kp.over {K : List UInt8} {L A s : Nat} {h : Hd} {B : List UInt8} {R : List (List UInt8)} (k : Kp K L A s h B R) (o : Nat) (X : List UInt8) (ho : o + X.length ≤ 64 * s)
    (hout : ∀ j, (j < 64 + h.used ∨ (areaAt L A h.area ≤ j ∧ j < areaAt L A h.area + h.size)) → ¬ (o ≤ j ∧ j < o + X.length)) : Kp (over4 K o X) L A s h B R :=
  k.keep (by rw [over4_length K o X (by rw [k.len]; exact ho)]; exact k.len) fun j hj hc => by rw [over4_get K o X (by rw [k.len]; exact ho), if_neg (hout j hc)]
/-- A byte behind the head's sector is not turned by a head. -/
theorem putSec_behind (K : List UInt8) (s : Nat) (b : List UInt8) (hK : K.length = 64 * s) (hs : 1 ≤ s) (hb : b.length = 64) (j : Nat) (hj : 64 ≤ j) : (putSec K 0 b)[j]? = K[j]? := by
  rw [putSec_get K s 0 b hK (by omega) hb, if_neg (by omega)]
theorem cut4_behind (K : List UInt8) (s : Nat) (b : List UInt8) (hK : K.length = 64 * s) (hs : 1 ≤ s) (hb : b.length = 64) (o n : Nat) (ho : 64 ≤ o) (hn : o + n ≤ 64 * s) : cut4 (putSec K 0 b) o n = cut4 K o n :=
  cut4_congr K _ o n (by rw [hK]; exact hn) (by rw [putSec_length K s 0 b hK (by omega) hb]; exact hn) (fun j h1 h2 => putSec_behind K s b hK hs hb j (by omega))
/-- Appended. -/
theorem Kp.append {K : List UInt8} {L A s : Nat} {h : Hd} {B : List UInt8} {R : List (List UInt8)} (k : Kp K L A s h B R) (r : List UInt8) (hr : h.used + (recB r).length ≤ 64 * L) (hn : h.round < 1099511627776) :
    Kp (putSec (over4 K (64 + h.used) (recB r)) 0 (Hd.sec ⟨h.area, h.size, h.used + (recB r).length, h.round + 1⟩)) L A s ⟨h.area, h.size, h.used + (recB r).length, h.round + 1⟩ B (R ++ [r]) := by
  have hsh := k.shape.1
  have ha := area_in k.shape.1 k.right.area k.right.size
  have hu := k.right.used
  have ho : 64 + h.used + (recB r).length ≤ 64 * s := by omega
  have hl := over4_length K (64 + h.used) (recB r) (by rw [k.len]; exact ho)
  rw [k.len] at hl
  have hsl := Hd.sec_length ⟨h.area, h.size, h.used + (recB r).length, h.round + 1⟩
  have ha2 : 64 + 64 * L ≤ areaAt L A h.area := by unfold areaAt; rw [Nat.mul_add, Nat.mul_add]; omega
  refine ⟨putSec_length _ s 0 _ hl (by omega) hsl, k.shape, ?_, ⟨k.right.area, k.right.size, hr, by simp only; have := k.right.round; omega⟩, ?_, ?_⟩
  · rw [secAt_put _ s 0 _ hl (by omega) hsl 0 (by omega), if_pos rfl]
  · rw [cut4_behind _ s _ hl (by omega) hsl _ _ (by omega) ha, ← k.area]
    exact cut4_congr K _ _ _ (by rw [k.len]; exact ha) (by rw [hl]; exact ha) (fun j h1 h2 => by rw [over4_get K _ _ (by rw [k.len]; exact ho), if_neg (by omega)])
  · rw [cut4_behind _ s _ hl (by omega) hsl _ _ (Nat.le_refl _) (by simp only; omega), recsB_snoc, ← k.recs]
    exact cut4_more K 64 h.used (recB r) (by rw [k.len]; exact ho)
/-- Switched. -/
theorem Kp.switch {K : List UInt8} {L A s : Nat} {h : Hd} {B : List UInt8} {R : List (List UInt8)} (k : Kp K L A s h B R) (X : List UInt8) (hX : X.length ≤ 64 * A) (hn : h.round < 1099511627776) :
    Kp (putSec (over4 K (areaAt L A (1 - h.area)) X) 0 (Hd.sec ⟨1 - h.area, X.length, 0, h.round + 1⟩)) L A s ⟨1 - h.area, X.length, 0, h.round + 1⟩ X [] := by
  have hsh := k.shape.1
  have ho := area_in (n := 1 - h.area) k.shape.1 (by omega) hX
  have hl := over4_length K (areaAt L A (1 - h.area)) X (by rw [k.len]; exact ho)
  rw [k.len] at hl
  have hsl := Hd.sec_length ⟨1 - h.area, X.length, 0, h.round + 1⟩
  have ha2 : 64 ≤ areaAt L A (1 - h.area) := by unfold areaAt; rw [Nat.mul_add, Nat.mul_add]; omega
  refine ⟨putSec_length _ s 0 _ hl (by omega) hsl, k.shape, ?_, ⟨by simp only; omega, hX, Nat.zero_le _, by simp only; have := k.right.round; omega⟩, ?_, ?_⟩
  · rw [secAt_put _ s 0 _ hl (by omega) hsl 0 (by omega), if_pos rfl]
  · rw [cut4_behind _ s _ hl (by omega) hsl _ _ ha2 ho]
    exact cut4_over K _ X (by rw [k.len]; exact ho)
  · simp [cut4, recsB]
/-- Where a Switch writes, nothing counts; nor where an Append does. -/
theorem Kp.switch_out {K : List UInt8} {L A s : Nat} {h : Hd} {B : List UInt8} {R : List (List UInt8)} (k : Kp K L A s h B R) (n : Nat) (hn : n ≤ 64 * A) (j : Nat) (hj : j < 64 + h.used ∨ (areaAt L A h.area ≤ j ∧ j < areaAt L A h.area + h.size)) : ¬ (areaAt L A (1 - h.area) ≤ j ∧ j < areaAt L A (1 - h.area) + n) := by
  have h1 := k.right.area
  have h2 := k.right.size
  have h3 := k.right.used
  unfold areaAt at *
  rcases (show h.area = 0 ∨ h.area = 1 by omega) with e | e <;> rw [e] at hj ⊢ <;> omega
theorem Kp.append_out {K : List UInt8} {L A s : Nat} {h : Hd} {B : List UInt8} {R : List (List UInt8)} (k : Kp K L A s h B R) (n : Nat) (hn : h.used + n ≤ 64 * L) (j : Nat) (hj : j < 64 + h.used ∨ (areaAt L A h.area ≤ j ∧ j < areaAt L A h.area + h.size)) : ¬ (64 + h.used ≤ j ∧ j < 64 + h.used + n) := by
  have ha2 : 64 + 64 * L ≤ areaAt L A h.area := by unfold areaAt; rw [Nat.mul_add, Nat.mul_add]; omega
  omega
end Go.Proofs.YtabgklcghghoiaaGreat

/- The plain side of the redo journal: a commit that is done is there; one that was crashed leaves what was ahead of it, or what is behind it. No program. -/
namespace Go.Proofs.YtabgklcghghoiaaGreat
set_option linter.unusedVariables false

/-- The sectors that bytes at a place come to. -/
abbrev secsAt (K : List UInt8) (o : Nat) (X : List UInt8) : List Pend := secsOf (over4 K o X) (firstSec o) (manySecs o X.length)
theorem secsAt_right {K : List UInt8} {s o : Nat} {X : List UInt8} (hK : K.length = 64 * s) (ho : o + X.length ≤ 64 * s) : Pends s (secsAt K o X) := by
  have hl := over4_length K o X (by rw [hK]; exact ho)
  rw [hK] at hl
  rcases manySecs_le s o X.length ho with hm | hm
  · exact secsOf_right _ s _ _ hl hm
  · intro p hp
    simp [secsAt, secsOf, manySecs, hm] at hp
theorem Kp.redo {d : Dv} {L A s : Nat} {h h' : Hd} {B B' : List UInt8} {R R' : List (List UInt8)} (k : Kp d.all L A s h B R) (o : Nat) (X : List UInt8) (ho : o + X.length ≤ 64 * s)
    (hout : ∀ j, (j < 64 + h.used ∨ (areaAt L A h.area ≤ j ∧ j < areaAt L A h.area + h.size)) → ¬ (o ≤ j ∧ j < o + X.length))
    (hnew : Kp (putSec (over4 d.all o X) 0 h'.sec) L A s h' B' R') (hd : d.down = false) (hw : d.waits = []) :
    ((d.commit s (secsAt d.all o X) h'.sec).1 = 0 → Kp (d.commit s (secsAt d.all o X) h'.sec).2.all L A s h' B' R') ∧
    ((d.commit s (secsAt d.all o X) h'.sec).1 ≠ 0 → (d.commit s (secsAt d.all o X) h'.sec).1 = 10 ∧ (d.commit s (secsAt d.all o X) h'.sec).2.down = true ∧
      ∀ keep, Kp ((d.commit s (secsAt d.all o X) h'.sec).2.wake keep).2.all L A s h B R ∨ Kp ((d.commit s (secsAt d.all o X) h'.sec).2.wake keep).2.all L A s h' B' R') := by
  have hs : 1 ≤ s := by have := k.shape.1; omega
  have hp := secsAt_right k.len ho
  have hh := h'.sec_length
  have hall : putAll4 (secsAt d.all o X) d.all = over4 d.all o X := Kp.put_all k.len ho
  refine ⟨fun h0 => ?_, fun h0 => ?_⟩
  · rcases Dv.commit_cases d s hs _ h'.sec hd hw hp hh with ⟨_, a2, _⟩ | ⟨_, b1, _⟩
    · rw [a2, hall]
      exact hnew
    · rw [b1] at h0
      exact absurd h0 (by decide)
  · have hc := Dv.commit_cases d s hs _ h'.sec hd hw hp hh
    have hb : (d.commit s (secsAt d.all o X) h'.sec).1 = 10 ∧ (d.commit s (secsAt d.all o X) h'.sec).2.down = true := by
      rcases hc with ⟨a1, _⟩ | ⟨_, b1, b2, _⟩
      · exact absurd a1 h0
      · exact ⟨b1, b2⟩
    refine ⟨hb.1, hb.2, fun keep => ?_⟩
    obtain ⟨_, _, _, _, _, hk⟩ := Dv.commit_woken d s hs _ h'.sec keep hd hw hp hh h0
    rcases hk with ⟨qs, hq, e⟩ | e | e
    · rw [e]
      exact .inl (k.part o X ho hout _ qs hq)
    · rw [e, hall]
      exact .inl (k.over o X ho hout)
    · rw [e, hall]
      exact .inr hnew
/-- A new journal: a head alone, on a device that nothing was done to. -/
theorem cut4_zero (K : List UInt8) (o : Nat) : cut4 K o 0 = [] := by simp [cut4]
theorem Kp.formatted {K : List UInt8} {L A s : Nat} (hK : K.length = 64 * s) (hs : 1 + L + 2 * A ≤ s ∧ s ≤ 8192) : Kp (putSec K 0 (Hd.sec ⟨0, 0, 0, 1⟩)) L A s ⟨0, 0, 0, 1⟩ [] [] := by
  have hsl := Hd.sec_length ⟨0, 0, 0, 1⟩
  refine ⟨putSec_length _ s 0 _ hK (by omega) hsl, hs, ?_, ⟨Nat.zero_le _, Nat.zero_le _, Nat.zero_le _, ⟨Nat.le_refl _, by decide⟩⟩, cut4_zero _ _, ?_⟩
  · rw [secAt_put _ s 0 _ hK (by omega) hsl 0 (by omega), if_pos rfl]
  · rw [cut4_zero]
    rfl
end Go.Proofs.YtabgklcghghoiaaGreat

/- dev's own device, whole: Kept. -/
namespace Go.Proofs.YtabgklcghghoiaaGreat
open Go.RowKit Go.ChangeShapes
set_option linter.unusedVariables false

theorem OwnB.madeN (w : World) (n : Nat) (hn : n ≤ maxLen) : OwnB (fun k => k = w.heap.size) (w.alloc (.cells ((List.replicate n (0 : UInt8)).map bv).toArray 5)) (.slice (some ⟨w.heap.size, 0, none⟩) 0 n) [] := by
  refine ⟨⟨by simp, .inr ⟨w.heap.size, n, _, rfl, Nat.zero_le _, heap_alloc_new w _, Nat.zero_le _, hn, by simp, by simp⟩⟩, fun g hg => ?_⟩
  simp [Value.ownBlock] at hg
  exact hg.symm
theorem run_make0 (w : World) (m : Int) (n : Nat) (hm : m = n) (hn : n ≤ 140737488355328) :
    (Instr.makeSlice 37 (.int .i64 0) (.int .i64 m)).run Tryz.prog w = .ok (.slice (some ⟨w.heap.size, 0, none⟩) 0 n) (w.alloc (.cells ((List.replicate n (0 : UInt8)).map bv).toArray 5)) := by
  subst hm
  obtain ⟨i0, hi, hz0, hz1, hz2⟩ := info_parts Tryz.infoB
  have h := run_make (P := Tryz.prog) w 37 5 i0 (.int .u8 0) Tryz.underlying37 hi hz0 .i64 .i64 0 (n : Int) (by omega) (by omega) (by rw [hz2]; omega) (by omega)
  rw [h, hz1, Int.toNat_natCast, Nat.mul_one]
  have e : madeCells (Value.int .u8 0).cells n = ((List.replicate n (0 : UInt8)).map bv).toArray := by
    apply Array.ext'
    simp only [madeCells, Value.cells, Array.toList_map, Array.toList_range, List.map_replicate]
    apply List.ext_getElem
    · simp
    · intro k h1 h2
      simp [Nat.mod_one]
      rfl
  rw [e]
  rfl
theorem take_sec (L : List UInt8) (i : Nat) : L.take (64 * (i + 1)) = L.take (64 * i) ++ secAt L i := by
  rw [secAt, show 64 * (i + 1) = 64 * i + 64 by omega, List.take_add]

set_option maxRecDepth 100000 in
set_option maxHeartbeats 2000000 in
theorem aKept {D : Nat → Prop} (w : World) (g s : Nat) (d : Dv) (h : DevAt w D g s d) :
    Calls Tryz.prog 19 #[.pointer (some ⟨g, 0, none⟩)] w fun e w' => ∃ v, e = .returned v ∧ OwnB (fun k => w.heap.size ≤ k) w' v d.all ∧ Fr (fun _ => False) w w' := by
  have hR := h.right
  obtain ⟨F, kb, vw, hm, hD⟩ := h
  obtain ⟨l, h1, h2, h3, hh⟩ := hm.head
  have hc := dIs_yes _ g kb s vw d.deeds l d.down hh
  obtain ⟨_, _, _, _, c4, _⟩ := hh.cells
  have hs := hm.small
  obtain ⟨m, hmm⟩ : ∃ m, m = 64 * s := ⟨_, rfl⟩
  have e1 : 64 * (s : Int) = (m : Int) := by omega
  have hmk := fun W => run_make0 W (m : Int) m rfl (by omega)
  obtain ⟨Z, hZ⟩ : ∃ Z, Z = ((List.replicate m (0 : UInt8)).map bv).toArray := ⟨_, rfl⟩
  rw [← hZ] at hmk
  have hzv := zSec_zero
  have hown := OwnB.madeN w m (by unfold maxLen; omega)
  rw [← hZ] at hown
  have HO := Lib.hid hown
  have c5 := (hh.keep ((Fr.refl (fun _ => False) w).alloc (.cells Z 5)) id).cells.2.2.2.2.1
  have hm6 : m ≤ 524288 := by omega
  have HM := Lib.hid (And.intro hm (And.intro hR (And.intro hmm hh)))
  clear hm hh h1 hD hR hmm hZ hown
  go_enter Tryz.func19, Tryz.ntmps19
  go_wp2_with (go_at_call 43; refine hc.mono ?_; rintro e w1 ⟨rfl, rfl⟩)
  go_loopw [3, 21] (fun v iv wr => ∃ i : Nat, i ≤ s ∧ iv = .int .i64 i ∧ Hid (OwnB (fun k => w.heap.size ≤ k) wr v (d.all.take (64 * i)) ∧ Fr (fun _ => False) w wr)) (fun _ iv _ => s - (intOf iv).toNat)
  case atStart => exact ⟨0, by omega, rfl, Lib.hid ⟨HO.out.mono (fun k _ h => by rw [show k = w.heap.size from h]; exact Nat.le_refl _), (Fr.refl _ _).alloc _⟩⟩
  case round =>
    clear HO
    obtain ⟨i, hi, rfl, hRr⟩ := hrel
    by_cases hlt : i < s
    · have hd : decide ((i : Int) < (s : Int)) = true := by rw [decide_eq_true_iff]; omega
      have hkn : (i : Int) < (s : Int) := by omega
      have hi0 : (0 : Int) ≤ (i : Int) := by omega
      obtain ⟨hm, hR, hmm, hh⟩ := HM.out
      obtain ⟨hob, hf⟩ := hRr.out
      have hLW : BytT wr kb 84 d.all := hf.heap hm.kept id
      have hbl := secAt_length d.all s i hR.all hlt
      have hrg := sec_range hLW i s hR.all hlt
      have hz3 : (Tryz.prog.info? 84).map (·.size) = some ((secAt d.all i).map bv).length := by rw [List.length_map, hbl]; kernel_rfl
      obtain ⟨C, hC⟩ : ∃ C, C = ((secAt d.all i).map bv).toArray := ⟨_, rfl⟩
      have hCs : C.size = 64 := by rw [hC, List.size_toArray, List.length_map, hbl]
      have hz2 : (Tryz.prog.info? 84).map (·.size) = some C.size := by rw [hCs]; kernel_rfl
      have hC1 : C.all (·.oneCell') = true := by rw [hC]; exact all_oneCell_toArray (bv_one _)
      have hzs : zSec.size = C.size := by rw [zSec_size, hCs]
      obtain ⟨w2, hw2⟩ : ∃ w2, w2 = wr.alloc (.cells C 84) := ⟨_, rfl⟩
      have hf2 : Fr (fun _ => False) wr w2 := by rw [hw2]; exact (Fr.refl _ _).alloc _
      have hnb : BytesIn (fun k => k = wr.heap.size) w2 (.slice (some ⟨wr.heap.size, 0, none⟩) 64 64) (secAt d.all i) := by
        have hb : w2.heap[wr.heap.size]? = some (.cells ((secAt d.all i).map bv).toArray 84 (0, 0)) := by rw [hw2, ← hC]; exact heap_alloc_new wr _
        have := (ToldT.bytes (F := fun k => k = wr.heap.size) (w := w2) (v := .slice (some ⟨wr.heap.size, 0, none⟩) (secAt d.all i).length 64) (L := secAt d.all i) (.inr ⟨wr.heap.size, _, _, 64, rfl, rfl, hb, by simp [hbl], by omega, by decide, by rw [show ((secAt d.all i).map bv).toArray.toList = (secAt d.all i).map bv from rfl]; exact List.take_of_length_le (by simp)⟩))
        rwa [hbl] at this
      have HOB := Lib.hid (hob.keep hf2 (fun _ _ _ h => h))
      have HNB := Lib.hid hnb
      have HC := Lib.hid hC
      have HF := Lib.hid (hf.trans hf2 (fun _ h => h.elim))
      have HT := Lib.hid (take_sec d.all i)
      have HLE := Lib.hid (show (d.all.take (64 * i)).length + (secAt d.all i).length ≤ 140737488355328 by rw [hbl, List.length_take]; omega)
      have HW2 := Lib.hid hw2
      clear hm hR hmm hh hob hf hLW hf2 hnb hC hw2 hRr
      go_wp2_with (first
        | (with_reducible refine wpList_load_mid rfl 84 (.tmp 23) rfl kb (i * 64) rfl ((secAt d.all i).map bv) _ hrg Tryz.underlying84 rfl hz3 ?_; rw [← HC.out])
        | (with_reducible refine wpList_store_new rfl 84 (.tmp 5) (.tmp 24) rfl C zSec 84 wr rfl rfl rfl hz2 hzs hC1 ?_; rw [← HW2.out])
        | (refine wpList_append_bytes (F := fun k => w.heap.size ≤ k) (G := fun k => k = wr.heap.size) w2 rfl (.tmp 25) (.tmp 26) rfl _ _ (d.all.take (64 * i)) (secAt d.all i) rfl rfl HOB.out HNB.out HLE.out ?_; intro v4 w4 ho4 hg4 hn4; (have HN4 := Lib.hid (show OwnB (fun k => w.heap.size ≤ k) w4 v4 (d.all.take (64 * (i + 1))) ∧ Fr (fun _ => False) w w4 from ⟨by rw [HT.out]; exact ho4.mono (fun k _ h => h.elim id (fun h => Nat.le_trans HF.out.size h)), HF.out.trans ((Fr.refl (fun k => w.heap.size ≤ k) _).grown hg4 (fun k hk => .inl (HOB.out.2 k hk))) (fun k h => .inr h)⟩)); clear ho4 hg4 hn4))
      go_roundw
      case rel => exact ⟨i + 1, by omega, by go_num, HN4⟩
      case measure => simp [intOf]; omega
    · have hd : decide ((i : Int) < (s : Int)) = false := by rw [decide_eq_false_iff_not]; omega
      have HE := Lib.hid (show OwnB (fun k => w.heap.size ≤ k) wr u3 d.all ∧ Fr (fun _ => False) w wr by
        have h := hRr.out
        rw [List.take_of_length_le (by have := HM.out.2.1.all; omega)] at h
        exact h)
      clear hRr
      go_wp2_with fail
      go_ret
      exact ⟨_, rfl, HE.out.1, HE.out.2⟩
end Go.Proofs.YtabgklcghghoiaaGreat

/- log's own shapes: isMany, areaAt, dataAt, Right, Sectors, fits. -/
namespace Go.Proofs.YtabgklcghghoiaaGreat
open Go.RowKit Go.ChangeShapes
set_option linter.unusedVariables false

def manyS (n : Int) : Bool := decide (1 ≤ n ∧ n ≤ 8192)
theorem lMany_any (w : World) (n : Int) :
    Calls Tryz.prog 27 #[.int .i64 n] w fun e w' => e = .returned (.bool (manyS n)) ∧ w = w' := by
  by_cases h1 : 1 ≤ n
  · by_cases h2 : n ≤ 8192
    · have hR : manyS n = true := by rw [manyS, decide_eq_true_iff]; exact ⟨h1, h2⟩
      rw [hR]
      clear hR
      go_enter Tryz.func27, Tryz.ntmps27
      go_wp2
      go_ret
      exact ⟨rfl, rfl⟩
    · have hR : manyS n = false := by rw [manyS, decide_eq_false_iff_not]; omega
      rw [hR]
      clear hR
      go_enter Tryz.func27, Tryz.ntmps27
      go_wp2
      go_ret
      exact ⟨rfl, rfl⟩
  · have hR : manyS n = false := by rw [manyS, decide_eq_false_iff_not]; omega
    rw [hR]
    clear hR
    go_enter Tryz.func27, Tryz.ntmps27
    go_wp2
    go_ret
    exact ⟨rfl, rfl⟩
theorem manyS_yes {n : Int} (h : manyS n = true) : ∃ m : Nat, n = m ∧ 1 ≤ m ∧ m ≤ 8192 := by
  rw [manyS, decide_eq_true_iff] at h
  exact ⟨n.toNat, by omega, by omega, by omega⟩
theorem manyS_nat {m : Nat} (h1 : 1 ≤ m) (h2 : m ≤ 8192) : manyS (m : Int) = true := by
  rw [manyS, decide_eq_true_iff]; omega

theorem lArea_any (w : World) (L A D n : Nat) (hL : L ≤ 8192) (hA : A ≤ 8192) (hn : n ≤ 2) :
    Calls Tryz.prog 47 #[.agg #[.int .i64 L, .int .i64 A, .int .i64 D], .int .i64 n] w fun e w' => e = .returned (.int .i64 ((1 + L + n * A : Nat) : Int)) ∧ Fr (fun _ => False) w w' := by
  obtain ⟨m, hm⟩ : ∃ m, m = n * A := ⟨_, rfl⟩
  have hmb : m ≤ 16384 := by rw [hm]; exact Nat.le_trans (Nat.mul_le_mul hn hA) (by decide)
  have hmi : (n : Int) * (A : Int) = (m : Int) := by rw [hm]; push_cast; rfl
  rw [← hm]
  have HM := Lib.hid hm
  clear hm
  go_enter Tryz.func47, Tryz.ntmps47
  go_wp2
  go_ret
  exact ⟨by push_cast; rfl, (Fr.refl _ _).alloc _⟩
theorem lData_any (w : World) (L A D : Nat) (hL : L ≤ 8192) (hA : A ≤ 8192) :
    Calls Tryz.prog 28 #[.agg #[.int .i64 L, .int .i64 A, .int .i64 D]] w fun e w' => e = .returned (.int .i64 ((1 + L + 2 * A : Nat) : Int)) ∧ Fr (fun _ => False) w w' := by
  have hc := fun w => lArea_any w L A D 2 hL hA (by decide)
  have HC := Lib.hid hc
  clear hc
  go_enter Tryz.func28, Tryz.ntmps28
  go_wp2_with (go_at_call 47; refine (HC.out _).mono ?_; rintro e w1 ⟨rfl, hf1⟩; (have H1 := Lib.hid hf1); clear hf1)
  go_ret
  exact ⟨rfl, ((Fr.refl _ w).alloc _).trans H1.out (fun _ h => h.elim)⟩
end Go.Proofs.YtabgklcghghoiaaGreat

/- What the operations of a drawn region come to: loads, comparisons, sums, calls; the tables of gen/reg3.py. -/
namespace Go.Proofs.YtabgklcghghoiaaGreat
open Go.RowKit Go.ChangeShapes
set_option linter.unusedVariables false

section
variable {P : Program} {w : World} {o : Oper} {a : Act}
theorem op_loadAt {t : TypeId} {x : Operand} {vx v : Value} (ho : o.op = .load t x) (hx : a.eval x = vx) (hr : (Instr.loadAt t vx).run P w = .ok v w) : (execOp a.eval o).run P w = .ok (.value v) w := by
  unfold execOp
  rw [ho]
  simp only [hx, Sem.run_bind, hr, Result.andThen_ok]
  rfl
theorem op_unop {t : TypeId} {op : UnOp} {x : Operand} {vx v : Value} (ho : o.op = .unOp op t x) (hx : a.eval x = vx) (hr : (Op.unary op vx).run P w = .ok v w) : (execOp a.eval o).run P w = .ok (.value v) w := by
  unfold execOp
  rw [ho]
  simp only [hx, Sem.run_bind, hr, Result.andThen_ok]
  rfl
theorem op_indexAddr {t : TypeId} {x i : Operand} {vx vi v : Value} (ho : o.op = .indexAddr t x i) (hx : a.eval x = vx) (hi : a.eval i = vi) (hr : (Instr.indexAt t vx vi).run P w = .ok v w) : (execOp a.eval o).run P w = .ok (.value v) w := by
  unfold execOp
  rw [ho]
  simp only [hx, hi, Sem.run_bind, hr, Result.andThen_ok]
  rfl
theorem eval_const5 (a : Act) (v : Value) : a.eval (.const v) = v := rfl
end
theorem op_len5 {w : World} {o : Oper} {a : Act} {x : Operand} {ao : Option Addr} {n cap : Nat} (ho : o.op = .call { callee := .builtin .len, args := #[x], argTypes := #[37] }) (hx : a.eval x = .slice ao n cap) :
    (execOp a.eval o).run Tryz.prog w = .ok (.value (.int .i64 n)) w := by
  obtain ⟨d, op, ty, pos, aft, g⟩ := o
  simp only at ho
  subst ho
  simp [execOp, resolve, invoke, builtin, Builtin.len_, hx, Result.andThen, goInt]
theorem guard_int (w : World) (op : BinOp) (T : TypeId) (k : IntKind) (x y : Operand) (A Bb : Int) : (eqGuard op T x y (.int k A) (.int k Bb)).run Tryz.prog w = .ok () w := by cases op <;> rfl
theorem guard_bool (w : World) (op : BinOp) (T : TypeId) (x y : Operand) (A Bb : Bool) : (eqGuard op T x y (.bool A) (.bool Bb)).run Tryz.prog w = .ok () w := by cases op <;> rfl

/-- One cell. -/
theorem load_one5 (w : World) (T : TypeId) (p : Addr) (v : Value) (hT : (isAgg T).run Tryz.prog w = .ok false w) (h : w.cell? p = some v) : (Instr.loadAt T (.pointer (some p))).run Tryz.prog w = .ok v w := by
  simp [Instr.loadAt, Instr.sureAddr, loadVar, hT, h, go_sem]
theorem load_int5 (w : World) (p : Addr) (v : Value) (h : w.cell? p = some v) : (Instr.loadAt 3 (.pointer (some p))).run Tryz.prog w = .ok v w := load_one5 w _ p v (by kernel_rfl) h

section
variable {w : World} {T : TypeId} {k : IntKind} {x y : Int}
theorem leq_yes (h : x ≤ y) : (binOp .leq T (.int k x) (.int k y)).run Tryz.prog w = .ok (.bool true) w := by rw [binOp_leq]; simp [h]
theorem leq_no (h : y < x) : (binOp .leq T (.int k x) (.int k y)).run Tryz.prog w = .ok (.bool false) w := by rw [binOp_leq]; simp [h]
theorem lss_yes (h : x < y) : (binOp .lss T (.int k x) (.int k y)).run Tryz.prog w = .ok (.bool true) w := by rw [binOp_lss]; simp [h]
theorem lss_no (h : y ≤ x) : (binOp .lss T (.int k x) (.int k y)).run Tryz.prog w = .ok (.bool false) w := by rw [binOp_lss]; simp [h]
theorem gtr_yes (h : y < x) : (binOp .gtr T (.int k x) (.int k y)).run Tryz.prog w = .ok (.bool true) w := by rw [binOp_gtr]; simp [h]
theorem gtr_no (h : x ≤ y) : (binOp .gtr T (.int k x) (.int k y)).run Tryz.prog w = .ok (.bool false) w := by rw [binOp_gtr]; simp [h]
theorem geq_yes (h : y ≤ x) : (binOp .geq T (.int k x) (.int k y)).run Tryz.prog w = .ok (.bool true) w := by rw [binOp_geq]; simp [h]
theorem geq_no (h : x < y) : (binOp .geq T (.int k x) (.int k y)).run Tryz.prog w = .ok (.bool false) w := by rw [binOp_geq]; simp [h]
theorem eql_yes : (binOp .eql T (.int k x) (.int k x)).run Tryz.prog w = .ok (.bool true) w := by rw [binOp_eql]; simp
theorem eql_no (h : x ≠ y) : (binOp .eql T (.int k x) (.int k y)).run Tryz.prog w = .ok (.bool false) w := by rw [binOp_eql]; simp [h]
theorem neq_yes (h : x ≠ y) : (binOp .neq T (.int k x) (.int k y)).run Tryz.prog w = .ok (.bool true) w := by rw [binOp_neq]; simp [h]
theorem neq_no : (binOp .neq T (.int k x) (.int k x)).run Tryz.prog w = .ok (.bool false) w := by rw [binOp_neq]; simp
end
theorem wrap_in5 {x : Int} (h0 : -9223372036854775808 ≤ x) (h1 : x ≤ 9223372036854775807) : IntKind.i64.wrap x = x := IntWalk.i64_in x (by omega)
theorem add_in5 {w : World} {T : TypeId} {x y z : Int} (hz : x + y = z) (h0 : -9223372036854775808 ≤ z) (h1 : z ≤ 9223372036854775807) : (binOp .add T (.int .i64 x) (.int .i64 y)).run Tryz.prog w = .ok (.int .i64 z) w := by
  rw [binOp_add]
  subst hz
  simp [Op.intArith, wrap_in5 h0 h1, go_sem]
theorem sub_in5 {w : World} {T : TypeId} {x y z : Int} (hz : x - y = z) (h0 : -9223372036854775808 ≤ z) (h1 : z ≤ 9223372036854775807) : (binOp .sub T (.int .i64 x) (.int .i64 y)).run Tryz.prog w = .ok (.int .i64 z) w := by
  rw [binOp_sub]
  subst hz
  simp [Op.intArith, wrap_in5 h0 h1, go_sem]
theorem mul_in5 {w : World} {T : TypeId} {x y z : Int} (hz : x * y = z) (h0 : -9223372036854775808 ≤ z) (h1 : z ≤ 9223372036854775807) : (binOp .mul T (.int .i64 x) (.int .i64 y)).run Tryz.prog w = .ok (.int .i64 z) w := by
  rw [binOp_mul]
  subst hz
  simp [Op.intArith, wrap_in5 h0 h1, go_sem]
theorem range_row5 {w : World} {g : Nat} {C : Array Value} {T : TypeId} (h : w.heap[g]? = some (.cells C T (0, 0))) : w.rangeAt g 0 C.toList := fun j v hv => by
  rw [Nat.zero_add, cell_of_row _ _ _ _ _ _ h]
  simpa using hv
end Go.Proofs.YtabgklcghghoiaaGreat

/- Entering functions; places of fields. Printed by gen_jent.py (wip/gen). -/
namespace Go.Proofs.YtabgklcghghoiaaGreat
open Go.RowKit Go.ChangeShapes
set_option linter.unusedVariables false

theorem ent_spence_log_isMany (args : Array Value) (w : World) : (callFunc 27 args).run Tryz.prog w = .ok (.enter 27 args) w := by kernel_rfl
theorem ent_spence_log_dataAt (args : Array Value) (w : World) : (callFunc 28 args).run Tryz.prog w = .ok (.enter 28 args) w := by kernel_rfl
theorem ent_spence_log_areaAt (args : Array Value) (w : World) : (callFunc 47 args).run Tryz.prog w = .ok (.enter 47 args) w := by kernel_rfl
theorem ent_spence_log_Right (args : Array Value) (w : World) : (callFunc 7 args).run Tryz.prog w = .ok (.enter 7 args) w := by kernel_rfl
theorem ent_spence_log_Sectors (args : Array Value) (w : World) : (callFunc 9 args).run Tryz.prog w = .ok (.enter 9 args) w := by kernel_rfl
theorem ent_spence_log_fits (args : Array Value) (w : World) : (callFunc 29 args).run Tryz.prog w = .ok (.enter 29 args) w := by kernel_rfl
theorem ent_spence_log_tell (args : Array Value) (w : World) : (callFunc 30 args).run Tryz.prog w = .ok (.enter 30 args) w := by kernel_rfl
theorem ent__spence_log_head__bytes (args : Array Value) (w : World) : (callFunc 58 args).run Tryz.prog w = .ok (.enter 58 args) w := by kernel_rfl
theorem ent_spence_log_padded (args : Array Value) (w : World) : (callFunc 81 args).run Tryz.prog w = .ok (.enter 81 args) w := by kernel_rfl
theorem ent_spence_log_headOf (args : Array Value) (w : World) : (callFunc 32 args).run Tryz.prog w = .ok (.enter 32 args) w := by kernel_rfl
theorem ent__spence_log_head__within (args : Array Value) (w : World) : (callFunc 33 args).run Tryz.prog w = .ok (.enter 33 args) w := by kernel_rfl
theorem ent__spence_log_head__room (args : Array Value) (w : World) : (callFunc 42 args).run Tryz.prog w = .ok (.enter 42 args) w := by kernel_rfl
theorem ent__spence_log_head__last (args : Array Value) (w : World) : (callFunc 44 args).run Tryz.prog w = .ok (.enter 44 args) w := by kernel_rfl
theorem ent__spence_log_head__appended (args : Array Value) (w : World) : (callFunc 50 args).run Tryz.prog w = .ok (.enter 50 args) w := by kernel_rfl
theorem ent__spence_log_head__switched (args : Array Value) (w : World) : (callFunc 45 args).run Tryz.prog w = .ok (.enter 45 args) w := by kernel_rfl
theorem ent_spence_log_read (args : Array Value) (w : World) : (callFunc 34 args).run Tryz.prog w = .ok (.enter 34 args) w := by kernel_rfl
theorem ent_spence_log_records (args : Array Value) (w : World) : (callFunc 35 args).run Tryz.prog w = .ok (.enter 35 args) w := by kernel_rfl
theorem ent_spence_log_laid (args : Array Value) (w : World) : (callFunc 89 args).run Tryz.prog w = .ok (.enter 89 args) w := by kernel_rfl
theorem ent_spence_log_write (args : Array Value) (w : World) : (callFunc 70 args).run Tryz.prog w = .ok (.enter 70 args) w := by kernel_rfl
theorem ent_spence_log_Format (args : Array Value) (w : World) : (callFunc 10 args).run Tryz.prog w = .ok (.enter 10 args) w := by kernel_rfl
theorem ent_spence_log_Open (args : Array Value) (w : World) : (callFunc 11 args).run Tryz.prog w = .ok (.enter 11 args) w := by kernel_rfl
theorem ent___spence_log_Journal__isJournal (args : Array Value) (w : World) : (callFunc 69 args).run Tryz.prog w = .ok (.enter 69 args) w := by kernel_rfl
theorem ent___spence_log_Journal__ready (args : Array Value) (w : World) : (callFunc 41 args).run Tryz.prog w = .ok (.enter 41 args) w := by kernel_rfl
theorem ent___spence_log_Journal__Area (args : Array Value) (w : World) : (callFunc 38 args).run Tryz.prog w = .ok (.enter 38 args) w := by kernel_rfl
theorem ent___spence_log_Journal__Records (args : Array Value) (w : World) : (callFunc 25 args).run Tryz.prog w = .ok (.enter 25 args) w := by kernel_rfl
theorem ent___spence_log_Journal__Room (args : Array Value) (w : World) : (callFunc 17 args).run Tryz.prog w = .ok (.enter 17 args) w := by kernel_rfl
theorem ent___spence_log_Journal__Append (args : Array Value) (w : World) : (callFunc 21 args).run Tryz.prog w = .ok (.enter 21 args) w := by kernel_rfl
theorem ent___spence_log_Journal__Switch (args : Array Value) (w : World) : (callFunc 20 args).run Tryz.prog w = .ok (.enter 20 args) w := by kernel_rfl
theorem ent___spence_log_Journal__Round (args : Array Value) (w : World) : (callFunc 18 args).run Tryz.prog w = .ok (.enter 18 args) w := by kernel_rfl
theorem ent___spence_log_Journal__heed (args : Array Value) (w : World) : (callFunc 71 args).run Tryz.prog w = .ok (.enter 71 args) w := by kernel_rfl
theorem ent___spence_log_Journal__read (args : Array Value) (w : World) : (callFunc 54 args).run Tryz.prog w = .ok (.enter 54 args) w := by kernel_rfl
theorem ent___spence_log_Journal__step (args : Array Value) (w : World) : (callFunc 46 args).run Tryz.prog w = .ok (.enter 46 args) w := by kernel_rfl
theorem ent___spence_dev_Device__Read (args : Array Value) (w : World) : (callFunc 31 args).run Tryz.prog w = .ok (.enter 31 args) w := by kernel_rfl
theorem ent___spence_dev_Device__Write (args : Array Value) (w : World) : (callFunc 57 args).run Tryz.prog w = .ok (.enter 57 args) w := by kernel_rfl
theorem ent___spence_dev_Device__Flush (args : Array Value) (w : World) : (callFunc 59 args).run Tryz.prog w = .ok (.enter 59 args) w := by kernel_rfl
theorem ent___spence_dev_Device__Wake (args : Array Value) (w : World) : (callFunc 16 args).run Tryz.prog w = .ok (.enter 16 args) w := by kernel_rfl
theorem ent___spence_dev_Device__Fuse (args : Array Value) (w : World) : (callFunc 13 args).run Tryz.prog w = .ok (.enter 13 args) w := by kernel_rfl
theorem ent___spence_dev_Device__Kept (args : Array Value) (w : World) : (callFunc 19 args).run Tryz.prog w = .ok (.enter 19 args) w := by kernel_rfl
theorem ent_bytes_Equal (args : Array Value) (w : World) : (callFunc 64 args).run Tryz.prog w = .ok (.enter 64 args) w := by kernel_rfl
theorem ent_spence_spencelaw05_awake (args : Array Value) (w : World) : (callFunc 5 args).run Tryz.prog w = .ok (.enter 5 args) w := by kernel_rfl
theorem ent_spence_spencelaw05_begin (args : Array Value) (w : World) : (callFunc 23 args).run Tryz.prog w = .ok (.enter 23 args) w := by kernel_rfl
theorem ent_spence_spencelaw05_great (args : Array Value) (w : World) : (callFunc 6 args).run Tryz.prog w = .ok (.enter 6 args) w := by kernel_rfl
theorem ent__spence_spencelaw05_model__is (args : Array Value) (w : World) : (callFunc 15 args).run Tryz.prog w = .ok (.enter 15 args) w := by kernel_rfl
theorem ent__spence_spencelaw05_model__then (args : Array Value) (w : World) : (callFunc 14 args).run Tryz.prog w = .ok (.enter 14 args) w := by kernel_rfl
theorem ent_spence_spencekit_Pick (args : Array Value) (w : World) : (callFunc 12 args).run Tryz.prog w = .ok (.enter 12 args) w := by kernel_rfl
theorem ent_spence_spencekit_SameBytes (args : Array Value) (w : World) : (callFunc 22 args).run Tryz.prog w = .ok (.enter 22 args) w := by kernel_rfl
theorem ent_spence_spenceref05_Sectors (args : Array Value) (w : World) : (callFunc 26 args).run Tryz.prog w = .ok (.enter 26 args) w := by kernel_rfl
theorem ent_spence_spenceref05_Right (args : Array Value) (w : World) : (callFunc 55 args).run Tryz.prog w = .ok (.enter 55 args) w := by kernel_rfl
theorem ent_spence_spenceref05_Format (args : Array Value) (w : World) : (callFunc 52 args).run Tryz.prog w = .ok (.enter 52 args) w := by kernel_rfl
theorem ent_spence_spenceref05_Open (args : Array Value) (w : World) : (callFunc 77 args).run Tryz.prog w = .ok (.enter 77 args) w := by kernel_rfl
theorem ent___spence_spencelaw05_both__opened (args : Array Value) (w : World) : (callFunc 53 args).run Tryz.prog w = .ok (.enter 53 args) w := by kernel_rfl
theorem ent___spence_spencelaw05_both__reopened (args : Array Value) (w : World) : (callFunc 24 args).run Tryz.prog w = .ok (.enter 24 args) w := by kernel_rfl
theorem fld_spence_api_Shape_0_0 (w : World) (g : Nat) : (Instr.fieldAt 23 (.pointer (some ⟨g, 0, none⟩)) 0).run Tryz.prog w = .ok (.pointer (some ⟨g, 0, none⟩)) w := by kernel_rfl
theorem fld_spence_api_Shape_0_5 (w : World) (g : Nat) : (Instr.fieldAt 23 (.pointer (some ⟨g, 5, none⟩)) 0).run Tryz.prog w = .ok (.pointer (some ⟨g, 5, none⟩)) w := by kernel_rfl
theorem fld_spence_api_Shape_1_0 (w : World) (g : Nat) : (Instr.fieldAt 23 (.pointer (some ⟨g, 0, none⟩)) 1).run Tryz.prog w = .ok (.pointer (some ⟨g, 1, none⟩)) w := by kernel_rfl
theorem fld_spence_api_Shape_1_5 (w : World) (g : Nat) : (Instr.fieldAt 23 (.pointer (some ⟨g, 5, none⟩)) 1).run Tryz.prog w = .ok (.pointer (some ⟨g, 6, none⟩)) w := by kernel_rfl
theorem fld_spence_api_Shape_2_0 (w : World) (g : Nat) : (Instr.fieldAt 23 (.pointer (some ⟨g, 0, none⟩)) 2).run Tryz.prog w = .ok (.pointer (some ⟨g, 2, none⟩)) w := by kernel_rfl
theorem fld_spence_api_Shape_2_5 (w : World) (g : Nat) : (Instr.fieldAt 23 (.pointer (some ⟨g, 5, none⟩)) 2).run Tryz.prog w = .ok (.pointer (some ⟨g, 7, none⟩)) w := by kernel_rfl
theorem fld_spence_log_head_0_0 (w : World) (g : Nat) : (Instr.fieldAt 71 (.pointer (some ⟨g, 0, none⟩)) 0).run Tryz.prog w = .ok (.pointer (some ⟨g, 0, none⟩)) w := by kernel_rfl
theorem fld_spence_log_head_1_0 (w : World) (g : Nat) : (Instr.fieldAt 71 (.pointer (some ⟨g, 0, none⟩)) 1).run Tryz.prog w = .ok (.pointer (some ⟨g, 1, none⟩)) w := by kernel_rfl
theorem fld_spence_log_head_2_0 (w : World) (g : Nat) : (Instr.fieldAt 71 (.pointer (some ⟨g, 0, none⟩)) 2).run Tryz.prog w = .ok (.pointer (some ⟨g, 2, none⟩)) w := by kernel_rfl
theorem fld_spence_log_head_3_0 (w : World) (g : Nat) : (Instr.fieldAt 71 (.pointer (some ⟨g, 0, none⟩)) 3).run Tryz.prog w = .ok (.pointer (some ⟨g, 3, none⟩)) w := by kernel_rfl
theorem fld_spence_log_Journal_0_0 (w : World) (g : Nat) : (Instr.fieldAt 79 (.pointer (some ⟨g, 0, none⟩)) 0).run Tryz.prog w = .ok (.pointer (some ⟨g, 0, none⟩)) w := by kernel_rfl
theorem fld_spence_log_Journal_1_0 (w : World) (g : Nat) : (Instr.fieldAt 79 (.pointer (some ⟨g, 0, none⟩)) 1).run Tryz.prog w = .ok (.pointer (some ⟨g, 4, none⟩)) w := by kernel_rfl
theorem fld_spence_log_Journal_2_0 (w : World) (g : Nat) : (Instr.fieldAt 79 (.pointer (some ⟨g, 0, none⟩)) 2).run Tryz.prog w = .ok (.pointer (some ⟨g, 5, none⟩)) w := by kernel_rfl
theorem fld_spence_log_Journal_3_0 (w : World) (g : Nat) : (Instr.fieldAt 79 (.pointer (some ⟨g, 0, none⟩)) 3).run Tryz.prog w = .ok (.pointer (some ⟨g, 8, none⟩)) w := by kernel_rfl
theorem fld_spence_log_Journal_4_0 (w : World) (g : Nat) : (Instr.fieldAt 79 (.pointer (some ⟨g, 0, none⟩)) 4).run Tryz.prog w = .ok (.pointer (some ⟨g, 9, none⟩)) w := by kernel_rfl
end Go.Proofs.YtabgklcghghoiaaGreat

