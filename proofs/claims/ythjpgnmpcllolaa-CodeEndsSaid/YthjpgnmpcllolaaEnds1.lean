/- What CodeEnds needs: parts made in place, appends under a guard; long, none. -/
import Derived.Test.YthjpgnmpcllolaaGets
import Derived.Test.YthjpgnmpcllolaaNone
namespace Go.Proofs.Ythjpgnmpcllolaa
open Go.RowKit Go.ChangeShapes
set_option linter.unusedVariables false

/-- A number's bytes, whatever number: some. -/
theorem refNumber_some (n : Nat) (w : World) (hn : n ≤ 9223372036854775807) :
    Calls Try.prog 22 #[.int .i64 n] w fun e w' => ∃ v L, e = .returned v ∧ 1 ≤ L.length ∧ L.length ≤ 10 ∧ OwnB (fun k => w.heap.size ≤ k) w' v L ∧ Fr (fun _ => False) w w' := by
  refine (refNumber_gen 9 n w hn (by omega) (by omega)).mono ?_
  rintro e w' ⟨v, rfl, h1, h2⟩
  exact ⟨v, _, rfl, (numBytes_len 9 n).1, (numBytes_len 9 n).2, h1, h2⟩

/-- Parts that are made in place. -/
theorem parts_new {w : World} {C : Array Value} {T : TypeId} (ps : List PartD) (n : Nat) (hn : n = ps.length) (hs : n ≤ 1000)
    (hc : ∀ i (h : i < ps.length), C[i * 4]? = some (.int .i64 ps[i].what) ∧ C[i * 4 + 1]? = some (.int .i64 ps[i].n) ∧ C[i * 4 + 2]? = some (.int .i64 ps[i].most) ∧ C[i * 4 + 3]? = some ps[i].x)
    (hb : ∀ p ∈ ps, BytesIn (fun k => k < w.heap.size) w p.x p.B ∧ p.B.length ≤ 140737488351232 ∧ IntOk p.what ∧ IntOk p.n ∧ IntOk p.most) :
    PartsIn (fun k => k < (w.alloc (.cells C T)).heap.size) (w.alloc (.cells C T)) (.slice (some ⟨w.heap.size, 0, none⟩) n n) ps := by
  subst hn
  refine ⟨_, ps.length, rfl, Nat.le_refl _, by omega, fun p hp => (hb p hp).2.1, fun _ => ⟨w.heap.size, 0, rfl, fun i hi => ?_⟩⟩
  have hp := hb ps[i] (List.getElem_mem _)
  have hx := hc i hi
  have cell : ∀ j v, C[j]? = some v → (w.alloc (.cells C T)).cell? ⟨w.heap.size, j, none⟩ = some v := fun j v hv => by
    rw [cell_of_row _ _ _ _ _ _ (heap_alloc_new w _), hv]
  rw [Nat.zero_add]
  exact ⟨cell _ _ hx.1, cell _ _ hx.2.1, cell _ _ hx.2.2.1, cell _ _ hx.2.2.2, (hp.1.keep (S := fun _ => False) ((Fr.refl _ _).alloc _) (fun _ _ _ h => h)).mono (fun k hk _ => hk), by simp, hp.2.2⟩
theorem intOk_of {n : Int} (h1 : -9223372036854775808 ≤ n) (h2 : n ≤ 9223372036854775807) : IntOk n := ⟨h1, h2⟩
theorem parts_one {w : World} {T : TypeId} (a b c : Int) (x : Value) (X : List UInt8) (hx : BytesIn (fun k => k < w.heap.size) w x X) (hX : X.length ≤ 1000000) (ha : IntOk a) (hb : IntOk b) (hc : IntOk c) :
    PartsIn (fun k => k < (w.alloc (.cells #[.int .i64 a, .int .i64 b, .int .i64 c, x] T)).heap.size) (w.alloc (.cells #[.int .i64 a, .int .i64 b, .int .i64 c, x] T)) (.slice (some ⟨w.heap.size, 0, none⟩) 1 1) [⟨a, b, c, x, X⟩] := by
  refine parts_new [⟨a, b, c, x, X⟩] 1 rfl (by omega) (fun i hi => ?_) (fun p hp => ?_)
  · match i, hi with
    | 0, _ => exact ⟨rfl, rfl, rfl, rfl⟩
  · obtain rfl := List.mem_singleton.1 hp
    exact ⟨hx, by show X.length ≤ _; omega, ha, hb, hc⟩
theorem parts_two {w : World} {T : TypeId} (a b c a2 b2 c2 : Int) (x x2 : Value) (X X2 : List UInt8) (hx : BytesIn (fun k => k < w.heap.size) w x X) (hX : X.length ≤ 1000000) (ha : IntOk a) (hb : IntOk b) (hc : IntOk c)
    (hx2 : BytesIn (fun k => k < w.heap.size) w x2 X2) (hX2 : X2.length ≤ 1000000) (ha2 : IntOk a2) (hb2 : IntOk b2) (hc2 : IntOk c2) :
    PartsIn (fun k => k < (w.alloc (.cells #[.int .i64 a, .int .i64 b, .int .i64 c, x, .int .i64 a2, .int .i64 b2, .int .i64 c2, x2] T)).heap.size) (w.alloc (.cells #[.int .i64 a, .int .i64 b, .int .i64 c, x, .int .i64 a2, .int .i64 b2, .int .i64 c2, x2] T)) (.slice (some ⟨w.heap.size, 0, none⟩) 2 2) [⟨a, b, c, x, X⟩, ⟨a2, b2, c2, x2, X2⟩] := by
  refine parts_new [⟨a, b, c, x, X⟩, ⟨a2, b2, c2, x2, X2⟩] 2 rfl (by omega) (fun i hi => ?_) (fun p hp => ?_)
  · match i, hi with
    | 0, _ => exact ⟨rfl, rfl, rfl, rfl⟩
    | 1, _ => exact ⟨rfl, rfl, rfl, rfl⟩
  · simp only [List.mem_cons, List.not_mem_nil, or_false] at hp
    rcases hp with rfl | rfl
    · exact ⟨hx, by show X.length ≤ _; omega, ha, hb, hc⟩
    · exact ⟨hx2, by show X2.length ≤ _; omega, ha2, hb2, hc2⟩
theorem parts_three {w : World} {T : TypeId} (a b c a2 b2 c2 a3 b3 c3 : Int) (x x2 x3 : Value) (X X2 X3 : List UInt8) (hx : BytesIn (fun k => k < w.heap.size) w x X) (hX : X.length ≤ 1000000) (ha : IntOk a) (hb : IntOk b) (hc : IntOk c)
    (hx2 : BytesIn (fun k => k < w.heap.size) w x2 X2) (hX2 : X2.length ≤ 1000000) (ha2 : IntOk a2) (hb2 : IntOk b2) (hc2 : IntOk c2)
    (hx3 : BytesIn (fun k => k < w.heap.size) w x3 X3) (hX3 : X3.length ≤ 1000000) (ha3 : IntOk a3) (hb3 : IntOk b3) (hc3 : IntOk c3) :
    PartsIn (fun k => k < (w.alloc (.cells #[.int .i64 a, .int .i64 b, .int .i64 c, x, .int .i64 a2, .int .i64 b2, .int .i64 c2, x2, .int .i64 a3, .int .i64 b3, .int .i64 c3, x3] T)).heap.size) (w.alloc (.cells #[.int .i64 a, .int .i64 b, .int .i64 c, x, .int .i64 a2, .int .i64 b2, .int .i64 c2, x2, .int .i64 a3, .int .i64 b3, .int .i64 c3, x3] T)) (.slice (some ⟨w.heap.size, 0, none⟩) 3 3) [⟨a, b, c, x, X⟩, ⟨a2, b2, c2, x2, X2⟩, ⟨a3, b3, c3, x3, X3⟩] := by
  refine parts_new [⟨a, b, c, x, X⟩, ⟨a2, b2, c2, x2, X2⟩, ⟨a3, b3, c3, x3, X3⟩] 3 rfl (by omega) (fun i hi => ?_) (fun p hp => ?_)
  · match i, hi with
    | 0, _ => exact ⟨rfl, rfl, rfl, rfl⟩
    | 1, _ => exact ⟨rfl, rfl, rfl, rfl⟩
    | 2, _ => exact ⟨rfl, rfl, rfl, rfl⟩
  · simp only [List.mem_cons, List.not_mem_nil, or_false] at hp
    rcases hp with rfl | rfl | rfl
    · exact ⟨hx, by show X.length ≤ _; omega, ha, hb, hc⟩
    · exact ⟨hx2, by show X2.length ≤ _; omega, ha2, hb2, hc2⟩
    · exact ⟨hx3, by show X3.length ≤ _; omega, ha3, hb3, hc3⟩

/-- append at a plain region's list, where the guard wants it: both the old and the new value are owned. -/
theorem wpList_append_keep_g {F G : Nat → Prop} (w : World) {ops : Array Oper} {rest : List Oper} {o : Oper} {a : Act} {Q : Exit → Act → World → Prop} (hw : Region.wanted o (yielded ops a.tmps) = true) (s x : Operand)
    (hop : o.op = Op.call { callee := Callee.builtin Builtin.append, args := #[s, x], argTypes := #[32, 32] })
    (v y : Value) (L X : List UInt8) (hs : a.eval s = v) (hx : a.eval x = y) (hown : OwnB F w v L) (hX : BytesIn G w y X) (hb : L.length + X.length ≤ 140737488355328)
    (hK : ∀ v' w', OwnB F w' v L → OwnB (fun k => v.ownBlock = some k ∨ w.heap.size ≤ k) w' v' (L ++ X) → w.grownBy w' v.ownBlock → wpList Try.prog ops Q rest (a.put o.dst v') w') : wpList Try.prog ops Q (o :: rest) a w := by
  refine wpList_step fun K hK' => ?_
  rw [if_pos hw]
  subst hs; subst hx
  obtain ⟨v', w', hr, h1, h2, h3⟩ := run_append_keep w o.type _ _ L X hown hX hb
  unfold Oper.wp
  simp [execOp, hop, resolve, invoke, builtin, hr, Result.andThen]
  exact hK' _ _ (hK v' w' h1 h2 h3)

/-- make([]byte, n): its cells. -/
def zeros1 (n : Nat) : Array Value := ((List.replicate n (0 : UInt8)).map bv).toArray
theorem run_make1 (w : World) (n : Nat) (hn : n ≤ 140737488355328) :
    (Instr.makeSlice 32 (.int .i64 n) (.int .i64 n)).run Try.prog w = .ok (.slice (some ⟨w.heap.size, 0, none⟩) n n) (w.alloc (.cells (zeros1 n) 5)) := by
  obtain ⟨i0, hi, hz0, hz1, hz2⟩ := info_parts Try.infoB
  have h := run_make (P := Try.prog) w 32 5 i0 (.int .u8 0) Try.underlying32 hi hz0 .i64 .i64 (n : Int) (n : Int) (by omega) (Int.le_refl _) (by rw [hz2]; omega) (by omega)
  rw [h, hz1, Int.toNat_natCast, Nat.mul_one]
  have e : madeCells (Value.int .u8 0).cells n = zeros1 n := by
    apply Array.ext'
    simp only [zeros1, madeCells, Value.cells, Array.toList_map, Array.toList_range, List.map_replicate]
    apply List.ext_getElem
    · simp
    · intro k h1 h2
      simp [Nat.mod_one]
      rfl
  rw [e]
theorem zeros1_bytes (w : World) (n : Nat) (hn : n ≤ 140737488355328) : BytesIn (fun k => k = w.heap.size) (w.alloc (.cells (zeros1 n) 5)) (.slice (some ⟨w.heap.size, 0, none⟩) n n) (List.replicate n 0) := by
  refine ⟨_, n, by rw [List.length_replicate], by rw [List.length_replicate]; exact Nat.le_refl _, by unfold maxLen; omega, (fun h => by cases h), ?_⟩
  intro a ha
  cases ha
  refine ⟨fun j u hu => ?_, fun _ => rfl⟩
  rw [addr_plain, Nat.zero_add, cell_of_row _ _ _ _ _ _ (heap_alloc_new w _), zeros1, List.getElem?_toArray]
  exact hu
theorem mak_new1 (w : World) (T : TypeId) : MakAt (fun k => k = w.heap.size) (w.alloc (.cells #[.pointer none, .int .i64 0, .bool false] T)) w.heap.size (some []) :=
  ⟨rfl, T, .inl ⟨rfl, heap_alloc_new _ _⟩⟩
theorem mkText_ok : mkText (List.replicate 1048576 0) (some []) = some (numBytes 5 1048576 ++ List.replicate 1048576 0) := by
  unfold mkText
  rw [if_pos (by rw [List.length_replicate]; decide), List.length_replicate]
  rfl
theorem mkText_ok_len : (numBytes 5 1048576 ++ List.replicate 1048576 (0 : UInt8)).length = 1048579 := by
  rw [List.length_append, List.length_replicate]
  rfl
theorem mkText_bad : mkText (List.replicate 1048577 0) (some []) = none := by
  unfold mkText
  rw [if_neg (by rw [List.length_replicate]; decide)]

set_option maxRecDepth 100000 in
set_option maxHeartbeats 2000000 in
theorem none_any (w : World) : Calls Try.prog 25 #[] w fun e w' => e = .returned (.bool true) ∧ Fr (fun _ => False) w w' := by
  obtain ⟨w1, hw1⟩ : ∃ w1, w1 = w.alloc (.cells #[.int .i64 1] 3) := ⟨_, rfl⟩
  have HN1 := Lib.hid (nilNum_any w1 w.heap.size 1 (by rw [hw1]; exact cell_of_one (heap_alloc_new w _)))
  have HF1 := Lib.hid (show Fr (fun _ => False) w w1 by rw [hw1]; exact (Fr.refl _ w).alloc _)
  go_enter Try.func25, Try.ntmps25
  go_wp2_with fail
  rw [← hw1]
  clear hw1
  refine HN1.out.mono ?_
  rintro e wA ⟨rfl, hwA⟩
  subst hwA
  clear HN1
  go_wp2_with fail
  obtain ⟨w2, hw2⟩ : ∃ w2, w2 = wA.alloc (.cells #[.int .u8 1] 5) := ⟨_, rfl⟩
  have HF2 := Lib.hid (show Fr (fun _ => False) w w2 by rw [hw2]; exact HF1.out.alloc _)
  rw [← hw2]
  clear hw2
  refine (nilRaw_any w2 _ 1 1).mono ?_
  rintro e wB ⟨rfl, hwB⟩
  subst hwB
  go_wp2_with fail
  obtain ⟨w3, hw3⟩ : ∃ w3, w3 = (wB.alloc (.cells #[.int .u8 1] 5)).alloc (.cells #[.slice (some ⟨wB.heap.size, 0, none⟩) 1 1] 32) := ⟨_, rfl⟩
  have HF3 := Lib.hid (show Fr (fun _ => False) w w3 by rw [hw3]; exact (HF2.out.alloc _).alloc _)
  have hc3 : w3.cell? ⟨wB.heap.size + 1, 0, none⟩ = some (.slice (some ⟨wB.heap.size, 0, none⟩) 1 1) := by
    rw [hw3]
    have := cell_of_one (heap_alloc_new (wB.alloc (.cells #[.int .u8 1] 5)) (.cells #[.slice (some ⟨wB.heap.size, 0, none⟩) 1 1] 32))
    rwa [World.size_alloc] at this
  rw [← hw3]
  have HN3 := Lib.hid (nilText_any w3 _ _ _ _ hc3)
  clear hw3 hc3
  refine HN3.out.mono ?_
  rintro e wC ⟨rfl, hwC⟩
  subst hwC
  clear HN3
  go_wp2_with fail
  refine (nilDone_any wC).mono ?_
  rintro e wD ⟨rfl, hwD⟩
  subst hwD
  go_wp2_with (first
    | (go_at_call 30; refine (nilCNum_any _ 1).mono ?_; rintro e w' ⟨rfl, rfl⟩)
    | (go_at_call 31; refine (nilCRaw_any _ 0).mono ?_; rintro e w' ⟨rfl, rfl⟩)
    | (go_at_call 32; refine (nilCText_any _ 1).mono ?_; rintro e w' ⟨rfl, rfl⟩)
    | (go_at_call 28; refine (nilCLeft_any _).mono ?_; rintro e w' ⟨rfl, rfl⟩)
    | (go_at_call 29; refine (nilCEnd_any _).mono ?_; rintro e w' ⟨rfl, rfl⟩))
  go_ret
  exact ⟨rfl, HF3.out⟩

theorem big1 : ∃ Z R : List UInt8, Z.length = 1048576 ∧ (∀ w : World, BytesIn (fun k => k = w.heap.size) (w.alloc (.cells (zeros1 1048576) 5)) (.slice (some ⟨w.heap.size, 0, none⟩) 1048576 1048576) Z) ∧ mkText Z (some []) = some R ∧ R.length = 1048579 :=
  ⟨_, _, List.length_replicate, fun w => zeros1_bytes w 1048576 (by omega), mkText_ok, mkText_ok_len⟩
theorem big2 : ∃ Z : List UInt8, Z.length = 1048577 ∧ (∀ w : World, BytesIn (fun k => k = w.heap.size) (w.alloc (.cells (zeros1 1048577) 5)) (.slice (some ⟨w.heap.size, 0, none⟩) 1048577 1048577) Z) ∧ mkText Z (some []) = none :=
  ⟨_, List.length_replicate, fun w => zeros1_bytes w 1048577 (by omega), mkText_bad⟩

set_option maxRecDepth 100000 in
set_option maxHeartbeats 600000 in
theorem long_any (w : World) : Calls Try.prog 24 #[] w fun e w' => e = .returned (.bool true) ∧ Fr (fun _ => False) w w' := by
  have hmk1 : ∀ w : World, (Instr.makeSlice 32 (.int .i64 1048576) (.int .i64 1048576)).run Try.prog w = .ok (.slice (some ⟨w.heap.size, 0, none⟩) 1048576 1048576) (w.alloc (.cells (zeros1 1048576) 5)) := fun w => run_make1 w 1048576 (by omega)
  have hmk2 : ∀ w : World, (Instr.makeSlice 32 (.int .i64 1048577) (.int .i64 1048577)).run Try.prog w = .ok (.slice (some ⟨w.heap.size, 0, none⟩) 1048577 1048577) (w.alloc (.cells (zeros1 1048577) 5)) := fun w => run_make1 w 1048577 (by omega)
  obtain ⟨Z1, R1, hZ1, hb1, ht1, hR1⟩ := big1
  obtain ⟨Z2, hZ2, hb2, ht2⟩ := big2
  have HZ1 := Lib.hid (And.intro hZ1 hb1)
  have HZ2 := Lib.hid (And.intro hZ2 hb2)
  have HR1 := Lib.hid (And.intro ht1 hR1)
  have HT2' := Lib.hid ht2
  clear hZ1 hb1 ht1 hR1 hZ2 hb2 ht2
  obtain ⟨z, hz⟩ : ∃ z, z = w.heap.size := ⟨_, rfl⟩
  obtain ⟨wa, hwa⟩ : ∃ wa, wa = (w.alloc (.cells #[.pointer none, .int .i64 0, .bool false] 30)).alloc (.cells #[.pointer none, .int .i64 0, .bool false] 30) := ⟨_, rfl⟩
  have hza : wa.heap.size = z + 2 := by rw [hwa, hz]; simp
  have HFA := Lib.hid (show Fr (fun _ => False) w wa by rw [hwa]; exact ((Fr.refl _ w).alloc _).alloc _)
  have HM1 := Lib.hid (show MakAt (fun k => k = z) wa z (some []) by rw [hwa, hz]; exact (mak_new1 w _).keep (S := fun _ => False) ((Fr.refl _ _).alloc _) (fun _ _ _ h => h))
  have HM2 := Lib.hid (show MakAt (fun k => k = z + 1) wa (z + 1) (some []) by
    have h := mak_new1 (w.alloc (.cells #[.pointer none, .int .i64 0, .bool false] 30)) 30
    rw [World.size_alloc, ← hz, ← hwa] at h
    exact h)
  obtain ⟨w4, hw4⟩ : ∃ w4, w4 = (wa.alloc (.cells (zeros1 1048576) 5)).alloc (.cells #[.slice (some ⟨z + 2, 0, none⟩) 1048576 1048576] 32) := ⟨_, rfl⟩
  have hz4 : w4.heap.size = z + 4 := by rw [hw4]; simp [hza]
  have HF4 := Lib.hid (show Fr (fun _ => False) wa w4 by rw [hw4]; exact ((Fr.refl _ wa).alloc _).alloc _)
  have hx4 : BytesIn (fun k => k = z + 2) w4 (.slice (some ⟨z + 2, 0, none⟩) 1048576 1048576) Z1 := by
    have h := HZ1.out.2 wa
    rw [hza] at h
    rw [hw4]
    exact h.keep (S := fun _ => False) ((Fr.refl _ _).alloc _) (fun _ _ _ h => h)
  have hc4 : w4.cell? ⟨z + 3, 0, none⟩ = some (.slice (some ⟨z + 2, 0, none⟩) 1048576 1048576) := by
    have h := cell_of_one (heap_alloc_new (wa.alloc (.cells (zeros1 1048576) 5)) (.cells #[.slice (some ⟨z + 2, 0, none⟩) 1048576 1048576] 32))
    rw [World.size_alloc, hza] at h
    rw [hw4]
    exact h
  have HT1 := makerText_any (F := fun k => k = z ∨ w4.heap.size ≤ k) (G := fun k => k = z + 2) (b := z) (s := z + 3) w4 (fun k h => .inr h) (fun k hk h => by omega) ((HM1.out.keep HF4.out (fun _ _ _ h => h)).mono (fun k _ h => .inl h)) hc4 hx4 (fun L hL => by cases hL; rw [HZ1.out.1, List.length_nil]; omega)
  rw [HR1.out.1] at HT1
  have HT1 := Lib.hid HT1
  have HW4 := Lib.hid hw4
  clear hx4 hc4
  go_enter Try.func24, Try.ntmps24
  go_wp2_with fail
  rw [← hz, ← hwa, show z + 1 + 1 = z + 2 from rfl, show z + 2 + 1 = z + 3 from rfl, ← hw4]
  have HS := Lib.hid (And.intro hz hz4)
  clear hw4 hwa hz hza hz4
  refine HT1.out.mono ?_
  rintro e w5 ⟨rfl, hf5, hm5⟩
  have HM5 := Lib.hid hm5
  have HF5 := Lib.hid ((HFA.out.trans HF4.out (fun _ h => h.elim)).trans hf5 (fun k h => .inr (by have := HS.out; omega)))
  have HM25 := Lib.hid ((HM2.out.keep HF4.out (fun _ _ _ h => h)).keep hf5 (fun k hk h h2 => by have := HS.out; omega))
  have hz5 := hf5.size
  clear hf5 hm5 HT1 HM1 HM2 HF4 HFA
  go_wp2_with fail
  refine (done_yes w5 HM5.out (by rw [HR1.out.2]; omega)).mono ?_
  rintro e w6 ⟨v6, rfl, hf6, ho6⟩
  obtain ⟨a6, c6, hv6⟩ := ho6.len
  rw [HR1.out.2] at hv6
  subst hv6
  have HF6 := Lib.hid (HF5.out.trans hf6 (fun _ h => h.elim))
  have HM26 := Lib.hid (HM25.out.keep hf6 (fun _ _ _ h => h))
  have hz6 := hf6.size
  clear hf6 ho6 HM5 HF5 HM25
  obtain ⟨y, hy⟩ : ∃ y, y = w6.heap.size := ⟨_, rfl⟩
  have HY := Lib.hid hy
  have hyz : z + 4 ≤ y := by have := HS.out; omega
  obtain ⟨w8, hw8⟩ : ∃ w8, w8 = (w6.alloc (.cells (zeros1 1048577) 5)).alloc (.cells #[.slice (some ⟨y, 0, none⟩) 1048577 1048577] 32) := ⟨_, rfl⟩
  have hz8 : w8.heap.size = y + 2 := by rw [hw8, hy]; simp
  have HF8 := Lib.hid (show Fr (fun _ => False) w6 w8 by rw [hw8]; exact ((Fr.refl _ w6).alloc _).alloc _)
  have hx8 : BytesIn (fun k => k = y) w8 (.slice (some ⟨y, 0, none⟩) 1048577 1048577) Z2 := by
    have h := HZ2.out.2 w6
    rw [← hy] at h
    rw [hw8]
    exact h.keep (S := fun _ => False) ((Fr.refl _ _).alloc _) (fun _ _ _ h => h)
  have hc8 : w8.cell? ⟨y + 1, 0, none⟩ = some (.slice (some ⟨y, 0, none⟩) 1048577 1048577) := by
    have h := cell_of_one (heap_alloc_new (w6.alloc (.cells (zeros1 1048577) 5)) (.cells #[.slice (some ⟨y, 0, none⟩) 1048577 1048577] 32))
    rw [World.size_alloc, ← hy] at h
    rw [hw8]
    exact h
  have HT2 := makerText_any (F := fun k => k = z + 1 ∨ w8.heap.size ≤ k) (G := fun k => k = y) (b := z + 1) (s := y + 1) w8 (fun k h => .inr h) (fun k hk h => by omega) ((HM26.out.keep HF8.out (fun _ _ _ h => h)).mono (fun k _ h => .inl h)) hc8 hx8 (fun L hL => by cases hL; rw [HZ2.out.1, List.length_nil]; omega)
  rw [HT2'.out] at HT2
  have HT2 := Lib.hid HT2
  have HS8 := Lib.hid (And.intro hz8 hyz)
  clear hx8 hc8 hz6 hz5 hz8 hyz hy
  go_wp2_with fail
  rw [← HY.out, show y + 1 = y + 1 from rfl, ← hw8]
  clear hw8
  refine HT2.out.mono ?_
  rintro e w9 ⟨rfl, hf9, hm9⟩
  have HM9 := Lib.hid hm9
  have HF9 := Lib.hid ((HF6.out.trans HF8.out (fun _ h => h.elim)).trans hf9 (fun k h => .inr (by have := HF6.out.size; have := HS.out; have := HS8.out; omega)))
  have hz9 := hf9.size
  clear hf9 hm9 HT2 HM26 HF8 HF6
  obtain ⟨wb, hwb⟩ : ∃ wb, wb = w9.alloc (.cells #[.int .i64 1] 3) := ⟨_, rfl⟩
  have HFb := Lib.hid (show Fr (fun _ => False) w9 wb by rw [hwb]; exact (Fr.refl _ w9).alloc _)
  have HN := makerNum_any (F := fun k => k = z + 1 ∨ w8.heap.size ≤ k) (b := z + 1) (s := w9.heap.size) (m := none) 1 wb (fun k h => .inr (by have := HFb.out.size; omega)) (HM9.out.keep HFb.out (fun _ _ _ h => h)) (by rw [hwb]; exact cell_of_one (heap_alloc_new w9 _)) (fun L hL => by cases hL)
  have hmn : mkNum 1 none = none := rfl
  rw [hmn] at HN
  have HN := Lib.hid HN
  go_wp2_with fail
  rw [← hwb]
  clear hwb hmn
  refine HN.out.mono ?_
  rintro e wc ⟨rfl, hfc, hmc⟩
  have HMc := Lib.hid hmc
  have HFc := Lib.hid ((HF9.out.trans HFb.out (fun _ h => h.elim)).trans hfc (fun k h => .inr (by have := HF9.out.size; have := HS.out; have := HS8.out; omega)))
  clear hfc hmc HN
  go_wp2_with fail
  refine (done_no wc HMc.out).mono ?_
  rintro e wd ⟨rfl, hwd⟩
  subst hwd
  go_wp2_with fail
  go_ret
  exact ⟨rfl, HFc.out⟩
end Go.Proofs.Ythjpgnmpcllolaa
