/- Laid together: BEnds -/
import Derived.Test.YtcbbcihfooaggaaBe25
import Derived.Test.YtcbbcihfooaggaaBe26
import Derived.Test.YtcbbcihfooaggaaBe27

namespace Go.Proofs.Ytcbbcihfooaggaa
open Go.RowKit Go.ChangeShapes
set_option linter.unusedVariables false
def ends7c : List Int := [-9223372036854775808, -1, 0, 1, 5, 6, 7, 9223372036854775807]
theorem ends7c_ok (i : Nat) (h : i < 8) : ∃ x, ends7c[i]? = some x ∧ -9223372036854775808 ≤ x ∧ x ≤ 9223372036854775807 := by
  match i, h with
  | 0, _ => exact ⟨_, rfl, by decide, by decide⟩
  | 1, _ => exact ⟨_, rfl, by decide, by decide⟩
  | 2, _ => exact ⟨_, rfl, by decide, by decide⟩
  | 3, _ => exact ⟨_, rfl, by decide, by decide⟩
  | 4, _ => exact ⟨_, rfl, by decide, by decide⟩
  | 5, _ => exact ⟨_, rfl, by decide, by decide⟩
  | 6, _ => exact ⟨_, rfl, by decide, by decide⟩
  | 7, _ => exact ⟨_, rfl, by decide, by decide⟩
structure En7 (w W : World) (z be : Nat) : Prop where
  fr : Fr (fun _ => False) w W
  sh : W.heap[z]? = some (.cells #[.int .i64 1, .int .i64 1, .int .i64 6] 23 (0, 0))
  en : W.heap[be]? = some (.cells ((ends7c.map (fun x => Value.int .i64 x)).toArray) 3 (0, 0))
theorem En7.keep {w W W' : World} {z be : Nat} (h : En7 w W z be) (hf : Fr (fun _ => False) W W') : En7 w W' z be := ⟨h.fr.trans hf (fun _ h => h.elim), hf.heap h.sh id, hf.heap h.en id⟩
theorem En7.cell {w W : World} {z be : Nat} (h : En7 w W z be) (i : Nat) (x : Int) (hx : ends7c[i]? = some x) : W.cell? ⟨be, i, none⟩ = some (.int .i64 x) := by
  rw [cell_of_row _ _ _ _ _ _ h.en]
  simp [hx]
theorem RnsIn.one9 {w : World} {g : Nat} {T : TypeId} {a b : Int} (h : w.heap[g]? = some (.cells #[.int .i64 a, .int .i64 b] T (0, 0))) (hb : (-9223372036854775808 ≤ a ∧ a ≤ 9223372036854775807) ∧ -9223372036854775808 ≤ b ∧ b ≤ 9223372036854775807) : RnsIn (fun j => j = g) w (.slice (some ⟨g, 0, none⟩) 1 1) [(a, b)] := by
  refine ⟨⟨_, 1, rfl, Nat.le_refl _, by decide, rnC_len [(a, b)], fun _ => ⟨g, 0, rfl, rfl, fun i hi j hj => ?_⟩⟩, fun r hr => ?_⟩
  · rw [cell_of_row _ _ _ _ _ _ h]
    have hi2 : i < 1 := by simpa using hi
    match i, hi2, j, hj with
    | 0, _, 0, _ => rfl
    | 0, _, 1, _ => rfl
  · rcases List.mem_cons.1 hr with rfl | hr
    · exact ⟨hb.1.1, hb.1.2, hb.2.1, hb.2.2⟩
    · cases hr
theorem run_two7 (w : World) (a b c d : Int) : (Instr.buildSlice 24 2 #[(0, .agg #[.int .i64 a, .int .i64 b]), (1, .agg #[.int .i64 c, .int .i64 d])]).run Try.prog w = .ok (.slice (some ⟨w.heap.size, 0, none⟩) 2 2) (w.alloc (.cells #[.int .i64 a, .int .i64 b, .int .i64 c, .int .i64 d] 68)) := by kernel_rfl
theorem rem_nat7 (w : World) (n : Nat) : (binOp .rem 3 (.int .i64 (n : Nat)) (.int .i64 8)).run Try.prog w = .ok (.int .i64 ((n % 8 : Nat) : Int)) w := by
  rw [binOp_rem]
  have h : ((n : Nat) : Int).tmod 8 = ((n % 8 : Nat) : Int) := by rw [Int.tmod_eq_emod_of_nonneg (by omega)]; omega
  simp [Op.intDiv, h, go_sem]
theorem run_index_int9 (w : World) (b i : Nat) (h : i < 8) : (Instr.indexAt 66 (.slice (some ⟨b, 0, none⟩) 8 8) (.int .i64 ((i : Nat) : Int))).run Try.prog w = .ok (.pointer (some ⟨b, i, none⟩)) w := by
  rw [run_index_int8 w b 0 8 8 i h, Nat.zero_add]
theorem neq_self7 (w : World) (x : Int) : (binOp .neq 3 (.int .i64 x) (.int .i64 x)).run Try.prog w = .ok (.bool false) w := by
  have h : (binOp .neq 3 (.int .i64 x) (.int .i64 x)).run Try.prog w = .ok (.bool (!(x == x))) w := by kernel_rfl
  rw [h, beq_self_eq_true]; rfl
theorem ent_bf7 (args : Array Value) (w : World) : (callFunc 3 args).run Try.prog w = .ok (.enter 3 args) w := by kernel_rfl
theorem load_rn9 (w : World) (g : Nat) (x y : Int) (h : w.heap[g]? = some (.cells #[.int .i64 x, .int .i64 y] 68 (0, 0))) : (Instr.loadAt 68 (.pointer (some ⟨g, 0, none⟩))).run Try.prog w = .ok (.agg #[.int .i64 x, .int .i64 y]) w :=
  run_loadAt_mid w g 0 68 [.int .i64 x, .int .i64 y] _ (range_row5 h) Try.underlying68 rfl (by kernel_rfl)
def zer9 (t : Nat) : Array Value := ((List.replicate t (0 : UInt8)).map bv).toArray
theorem run_mk9 (w : World) (t : Nat) (ht : t ≤ 1000) : (Instr.makeSlice 40 (.int .i64 (t : Int)) (.int .i64 (t : Int))).run Try.prog w = .ok (.slice (some ⟨w.heap.size, 0, none⟩) t t) (w.alloc (.cells (zer9 t) 5)) := run_make_bytes w (t : Int) t rfl (by omega)
theorem puts5 {F : Nat → Prop} {W : World} {gp : Nat} (p0 p1 p2 p3 p4 : PutD) (h : W.heap[gp]? = some (.cells #[p0.vb, p0.vr, .int .i64 p0.many, .int .i64 p0.n, p1.vb, p1.vr, .int .i64 p1.many, .int .i64 p1.n, p2.vb, p2.vr, .int .i64 p2.many, .int .i64 p2.n, p3.vb, p3.vr, .int .i64 p3.many, .int .i64 p3.n, p4.vb, p4.vr, .int .i64 p4.many, .int .i64 p4.n] 42 (0, 0)))
    (hP : ∀ p ∈ [p0, p1, p2, p3, p4], (BytesIn F W p.vb p.B ∧ RnsIn F W p.vr p.R) ∧ (IntOk p.many ∧ IntOk p.n) ∧ p.B.length ≤ 140737488351232 ∧ p.R.length * 16 ≤ 140737488351232) (hF : F gp) :
    PutsIn F W (.slice (some ⟨gp, 0, none⟩) 5 5) [p0, p1, p2, p3, p4] := by
  refine ⟨_, 5, rfl, Nat.le_refl _, (show 5 * 64 ≤ 140737488351232 by decide), fun p hp => (hP p hp).2.2, fun _ => ⟨gp, 0, rfl, fun i hi => ?_⟩⟩
  have hc : ∀ j, W.cell? ⟨gp, j, none⟩ = _ := fun j => cell_of_row _ _ _ _ _ _ h
  have hq := hP _ (List.getElem_mem hi)
  have hi5 : i < 5 := hi
  match i, hi5, hi, hq with
  | 0, _, _, hq => exact ⟨(hc _).trans rfl, (hc _).trans rfl, (hc _).trans rfl, (hc _).trans rfl, hq.1.1, hq.1.2, hF, hq.2.1⟩
  | 1, _, _, hq => exact ⟨(hc _).trans rfl, (hc _).trans rfl, (hc _).trans rfl, (hc _).trans rfl, hq.1.1, hq.1.2, hF, hq.2.1⟩
  | 2, _, _, hq => exact ⟨(hc _).trans rfl, (hc _).trans rfl, (hc _).trans rfl, (hc _).trans rfl, hq.1.1, hq.1.2, hF, hq.2.1⟩
  | 3, _, _, hq => exact ⟨(hc _).trans rfl, (hc _).trans rfl, (hc _).trans rfl, (hc _).trans rfl, hq.1.1, hq.1.2, hF, hq.2.1⟩
  | 4, _, _, hq => exact ⟨(hc _).trans rfl, (hc _).trans rfl, (hc _).trans rfl, (hc _).trans rfl, hq.1.1, hq.1.2, hF, hq.2.1⟩
theorem puts1 (W : World) : PutsIn (fun k => k < (W.alloc (.cells #[.slice none 0 0, .slice none 0 0, .int .i64 0, .int .i64 0] 42)).heap.size) (W.alloc (.cells #[.slice none 0 0, .slice none 0 0, .int .i64 0, .int .i64 0] 42)) (.slice (some ⟨W.heap.size, 0, none⟩) 1 1) [⟨.slice none 0 0, [], .slice none 0 0, [], 0, 0⟩] := by
  refine ⟨_, 1, rfl, Nat.le_refl _, by decide, fun p hp => by (rw [List.mem_singleton.1 hp]; exact ⟨by simp, by simp⟩), fun _ => ⟨W.heap.size, 0, rfl, fun i hi => ?_⟩⟩
  have hc : ∀ j, (W.alloc (.cells #[.slice none 0 0, .slice none 0 0, .int .i64 0, .int .i64 0] 42)).cell? ⟨W.heap.size, j, none⟩ = _ := fun j => cell_of_row _ _ _ _ _ _ (heap_alloc_new W _)
  obtain rfl : i = 0 := by have : i < 1 := hi; omega
  exact ⟨(hc _).trans rfl, (hc _).trans rfl, (hc _).trans rfl, (hc _).trans rfl, BytesIn.nil _ _, RnsIn.nil _ _, by simp, ⟨(show IntOk 0 from ⟨by omega, by omega⟩), (show IntOk 0 from ⟨by omega, by omega⟩)⟩⟩
def five9 (W0 : World) (gb t : Nat) (x m1 m2 n2 m3 : Int) : World :=
  ((((W0.alloc (.cells #[.int .i64 5, .int .i64 1, .int .i64 1, .int .i64 2] 68)).alloc (.cells #[.int .i64 x, .int .i64 2] 68)).alloc (.cells #[.int .i64 0, .int .i64 4] 68)).alloc (.cells #[.int .i64 0, .int .i64 1, .int .i64 0, .int .i64 1] 68)).alloc
        (.cells #[.slice (some ⟨gb, 0, none⟩) t t, .slice (some ⟨W0.heap.size, 0, none⟩) 2 2, .int .i64 m1, .int .i64 0, .slice (some ⟨gb, 0, none⟩) t t, .slice (some ⟨W0.heap.size + 1, 0, none⟩) 1 1, .int .i64 m2, .int .i64 n2, .slice (some ⟨gb, 0, none⟩) t t, .slice none 0 0, .int .i64 m3, .int .i64 0, .slice (some ⟨gb, 0, none⟩) t t, .slice (some ⟨W0.heap.size + 1 + 1, 0, none⟩) 1 1, .int .i64 200, .int .i64 0, .slice (some ⟨gb, 0, none⟩) t t, .slice (some ⟨W0.heap.size + 1 + 1 + 1, 0, none⟩) 2 2, .int .i64 (-1), .int .i64 0] 42)
theorem five9_fr (W0 : World) (gb t : Nat) (x m1 m2 n2 m3 : Int) : Fr (fun _ => False) W0 (five9 W0 gb t x m1 m2 n2 m3) := (((((Fr.refl _ _).alloc _).alloc _).alloc _).alloc _).alloc _
theorem puts_made (W0 : World) (gb t : Nat) (B : List UInt8) (hB : BytesIn (fun k => k < W0.heap.size) W0 (.slice (some ⟨gb, 0, none⟩) t t) B) (ht : B.length ≤ 1000) (x m1 m2 n2 m3 : Int) (hx : 0 ≤ x ∧ x ≤ 10) (h1 : IntOk m1) (h2 : IntOk m2) (h3 : IntOk n2) (h4 : IntOk m3) (W5 : World) (hW : W5 = five9 W0 gb t x m1 m2 n2 m3) :
    PutsIn (fun k => k < W5.heap.size) W5 (.slice (some ⟨W0.heap.size + 1 + 1 + 1 + 1, 0, none⟩) 5 5)
      [⟨.slice (some ⟨gb, 0, none⟩) t t, B, .slice (some ⟨W0.heap.size, 0, none⟩) 2 2, [(5, 1), (1, 2)], m1, 0⟩, ⟨.slice (some ⟨gb, 0, none⟩) t t, B, .slice (some ⟨W0.heap.size + 1, 0, none⟩) 1 1, [(x, 2)], m2, n2⟩, ⟨.slice (some ⟨gb, 0, none⟩) t t, B, .slice none 0 0, [], m3, 0⟩, ⟨.slice (some ⟨gb, 0, none⟩) t t, B, .slice (some ⟨W0.heap.size + 1 + 1, 0, none⟩) 1 1, [(0, 4)], 200, 0⟩, ⟨.slice (some ⟨gb, 0, none⟩) t t, B, .slice (some ⟨W0.heap.size + 1 + 1 + 1, 0, none⟩) 2 2, [(0, 1), (0, 1)], -1, 0⟩] := by
  unfold five9 at hW
  obtain ⟨r1, hr1⟩ : ∃ r : Obj, r = .cells #[.int .i64 5, .int .i64 1, .int .i64 1, .int .i64 2] 68 := ⟨_, rfl⟩
  obtain ⟨r2, hr2⟩ : ∃ r : Obj, r = .cells #[.int .i64 x, .int .i64 2] 68 := ⟨_, rfl⟩
  obtain ⟨r3, hr3⟩ : ∃ r : Obj, r = .cells #[.int .i64 0, .int .i64 4] 68 := ⟨_, rfl⟩
  obtain ⟨r4, hr4⟩ : ∃ r : Obj, r = .cells #[.int .i64 0, .int .i64 1, .int .i64 0, .int .i64 1] 68 := ⟨_, rfl⟩
  rw [← hr1, ← hr2, ← hr3, ← hr4] at hW
  obtain ⟨r5, hr5⟩ : ∃ r : Obj, r = .cells #[.slice (some ⟨gb, 0, none⟩) t t, .slice (some ⟨W0.heap.size, 0, none⟩) 2 2, .int .i64 m1, .int .i64 0, .slice (some ⟨gb, 0, none⟩) t t, .slice (some ⟨W0.heap.size + 1, 0, none⟩) 1 1, .int .i64 m2, .int .i64 n2, .slice (some ⟨gb, 0, none⟩) t t, .slice none 0 0, .int .i64 m3, .int .i64 0, .slice (some ⟨gb, 0, none⟩) t t, .slice (some ⟨W0.heap.size + 1 + 1, 0, none⟩) 1 1, .int .i64 200, .int .i64 0, .slice (some ⟨gb, 0, none⟩) t t, .slice (some ⟨W0.heap.size + 1 + 1 + 1, 0, none⟩) 2 2, .int .i64 (-1), .int .i64 0] 42 := ⟨_, rfl⟩
  rw [← hr5] at hW
  obtain ⟨k1, k2, k3, k4⟩ := heap4_new W0 r1 r2 r3 r4
  have hW5 := hW
  have hf : Fr (fun _ => False) W0 W5 := by rw [hW5]; exact (((((Fr.refl _ _).alloc _).alloc _).alloc _).alloc _).alloc _
  have hf4 : Fr (fun _ => False) ((((W0.alloc r1).alloc r2).alloc r3).alloc r4) W5 := by rw [hW5]; exact (Fr.refl _ _).alloc _
  have g1 := hf4.heap k1 id
  have g2 := hf4.heap k2 id
  have g3 := hf4.heap k3 id
  have g4 := hf4.heap k4 id
  have g5 : W5.heap[W0.heap.size + 1 + 1 + 1 + 1]? = some r5 := by
    rw [hW5]
    have := heap_alloc_new ((((W0.alloc r1).alloc r2).alloc r3).alloc r4) r5
    simpa using this
  have hz : W5.heap.size = W0.heap.size + 5 := by rw [hW5]; simp
  rw [hr1] at g1
  rw [hr2] at g2
  rw [hr3] at g3
  rw [hr4] at g4
  rw [hr5] at g5
  have hB5 : BytesIn (fun k => k < W5.heap.size) W5 (.slice (some ⟨gb, 0, none⟩) t t) B := (hB.keep hf (fun _ _ _ h => h)).mono (fun k _ hk => by omega)
  have i0 : IntOk 0 := ⟨by omega, by omega⟩
  have i2 : IntOk 200 := ⟨by omega, by omega⟩
  have i3 : IntOk (-1) := ⟨by omega, by omega⟩
  have q1 : RnsIn (fun k => k < W5.heap.size) W5 (.slice (some ⟨W0.heap.size, 0, none⟩) 2 2) [(5, 1), (1, 2)] := (RnsIn.two g1 (by decide)).mono (fun k _ e => by rw [show k = W0.heap.size from e]; omega)
  have q2 : RnsIn (fun k => k < W5.heap.size) W5 (.slice (some ⟨W0.heap.size + 1, 0, none⟩) 1 1) [(x, 2)] := (RnsIn.one9 g2 ⟨⟨by omega, by omega⟩, by omega, by omega⟩).mono (fun k _ e => by rw [show k = W0.heap.size + 1 from e]; omega)
  have q3 : RnsIn (fun k => k < W5.heap.size) W5 (.slice (some ⟨W0.heap.size + 1 + 1, 0, none⟩) 1 1) [(0, 4)] := (RnsIn.one9 g3 ⟨⟨by omega, by omega⟩, by omega, by omega⟩).mono (fun k _ e => by rw [show k = W0.heap.size + 1 + 1 from e]; omega)
  have q4 : RnsIn (fun k => k < W5.heap.size) W5 (.slice (some ⟨W0.heap.size + 1 + 1 + 1, 0, none⟩) 2 2) [(0, 1), (0, 1)] := (RnsIn.two g4 (by decide)).mono (fun k _ e => by rw [show k = W0.heap.size + 1 + 1 + 1 from e]; omega)
  refine puts5 _ _ _ _ _ g5 (fun p hp => ?_) (by omega)
  simp only [List.mem_cons, List.not_mem_nil, or_false] at hp
  rcases hp with rfl | rfl | rfl | rfl | rfl
  · exact ⟨⟨hB5, q1⟩, ⟨h1, i0⟩, by simp only; omega, (show 2 * 16 ≤ 140737488351232 by decide)⟩
  · exact ⟨⟨hB5, q2⟩, ⟨h2, h3⟩, by simp only; omega, by simp⟩
  · exact ⟨⟨hB5, RnsIn.nil _ _⟩, ⟨h4, i0⟩, by simp only; omega, (show 0 * 16 ≤ 140737488351232 by decide)⟩
  · exact ⟨⟨hB5, q3⟩, ⟨i2, i0⟩, by simp only; omega, (show 1 * 16 ≤ 140737488351232 by decide)⟩
  · exact ⟨⟨hB5, q4⟩, ⟨i3, i0⟩, by simp only; omega, (show 2 * 16 ≤ 140737488351232 by decide)⟩
theorem e7_ent_spence_blob_Need (args : Array Value) (w : World) : (callFunc 14 args).run Try.prog w = .ok (.enter 14 args) w := by kernel_rfl
theorem e7_ent_spence_spenceref07_Need (args : Array Value) (w : World) : (callFunc 15 args).run Try.prog w = .ok (.enter 15 args) w := by kernel_rfl
def EnR (z be b4 n7 : Nat) (a9 b9 : Int) (i : Nat) (v : Value) (W : World) : Prop :=
  match i with
  | 0 => v = .agg #[.int .i64 1, .int .i64 1, .int .i64 6]
  | 1 => v = .int .i64 (n7 : Nat)
  | 2 => v = .int .i64 ((n7 % 8 : Nat) : Int)
  | 3 => v = .int .i64 (((n7 % 8 : Nat) : Int) - 1)
  | 4 => v = .agg #[.int .i64 a9, .int .i64 b9]
  | 5 => ∃ gi, v = .slice (some ⟨gi, 0, none⟩) 1 1 ∧ RnsIn (fun k => k < W.heap.size) W (.slice (some ⟨gi, 0, none⟩) 1 1) [(a9, b9)]
  | 6 => v = .bool true
  | 7 => v = .bool false
  | 8 => v = .bool false
  | 9 => v = .agg #[.int .i64 1, .int .i64 1, .int .i64 6]
  | 10 => v = .agg #[.int .i64 2, .int .i64 2]
  | 11 => v = .agg #[.int .i64 a9, .int .i64 b9]
  | 12 => ∃ gi, v = .slice (some ⟨gi, 0, none⟩) 2 2 ∧ RnsIn (fun k => k < W.heap.size) W (.slice (some ⟨gi, 0, none⟩) 2 2) [(2, 2), (a9, b9)]
  | 13 => v = .bool true
  | 14 => v = .bool false
  | 15 => v = .bool false
  | 16 => v = .bool false
  | 17 => v = .agg #[.int .i64 1, .int .i64 1, .int .i64 6]
  | 18 => v = .slice (some ⟨be, 0, none⟩) 8 8
  | 19 => v = .int .i64 (n7 : Nat)
  | 20 => v = .int .i64 ((n7 % 8 : Nat) : Int)
  | 21 => v = .pointer (some ⟨be, n7 % 8, none⟩)
  | 22 => v = .int .i64 a9
  | 23 => v = .bool true
  | 24 => v = .bool false
  | 25 => v = .bool false
  | 26 => v = .bool false
  | 27 => v = .int .i64 (n7 : Nat)
  | 28 => v = .int .i64 ((n7 * 9 : Nat) : Int)
  | 29 => v = .int .i64 (need7 ((n7 * 9 : Nat) : Int))
  | 30 => v = .int .i64 (n7 : Nat)
  | 31 => v = .int .i64 ((n7 * 9 : Nat) : Int)
  | 32 => v = .int .i64 (need7 ((n7 * 9 : Nat) : Int))
  | 33 => v = .bool false
  | _ => True
theorem EnR.ext (z be b4 n7 : Nat) (a9 b9 : Int) : ∀ (j : Nat) (u : Value) (W W' : World), Fr (fun _ => False) W W' → EnR z be b4 n7 a9 b9 j u W → EnR z be b4 n7 a9 b9 j u W'
  | 0, u, W, W', hf, h => h
  | 1, u, W, W', hf, h => h
  | 2, u, W, W', hf, h => h
  | 3, u, W, W', hf, h => h
  | 4, u, W, W', hf, h => h
  | 5, u, W, W', hf, h => (let ⟨gi, h1, h2⟩ := h; ⟨gi, h1, (h2.quiet hf).mono (fun k hk _ => hk)⟩)
  | 6, u, W, W', hf, h => h
  | 7, u, W, W', hf, h => h
  | 8, u, W, W', hf, h => h
  | 9, u, W, W', hf, h => h
  | 10, u, W, W', hf, h => h
  | 11, u, W, W', hf, h => h
  | 12, u, W, W', hf, h => (let ⟨gi, h1, h2⟩ := h; ⟨gi, h1, (h2.quiet hf).mono (fun k hk _ => hk)⟩)
  | 13, u, W, W', hf, h => h
  | 14, u, W, W', hf, h => h
  | 15, u, W, W', hf, h => h
  | 16, u, W, W', hf, h => h
  | 17, u, W, W', hf, h => h
  | 18, u, W, W', hf, h => h
  | 19, u, W, W', hf, h => h
  | 20, u, W, W', hf, h => h
  | 21, u, W, W', hf, h => h
  | 22, u, W, W', hf, h => h
  | 23, u, W, W', hf, h => h
  | 24, u, W, W', hf, h => h
  | 25, u, W, W', hf, h => h
  | 26, u, W, W', hf, h => h
  | 27, u, W, W', hf, h => h
  | 28, u, W, W', hf, h => h
  | 29, u, W, W', hf, h => h
  | 30, u, W, W', hf, h => h
  | 31, u, W, W', hf, h => h
  | 32, u, W, W', hf, h => h
  | 33, u, W, W', hf, h => h
  | _ + 34, u, W, W', hf, h => trivial
set_option maxRecDepth 100000 in
set_option maxHeartbeats 4000000 in
theorem blobEnds_any (w : World) :
    Calls Try.prog 5 #[] w fun e w' => e = .returned (.bool true) ∧ Fr (fun _ => False) w w' := by
  obtain ⟨z, hz⟩ : ∃ z, z = w.heap.size := ⟨_, rfl⟩
  obtain ⟨W2, hW2⟩ : ∃ W2, W2 = (w.alloc (.cells #[.int .i64 1, .int .i64 1, .int .i64 6] 23)).alloc (.cells #[.int .i64 (-9223372036854775808), .int .i64 (-1), .int .i64 0, .int .i64 1, .int .i64 5, .int .i64 6, .int .i64 7, .int .i64 9223372036854775807] 3) := ⟨_, rfl⟩
  have HE := Lib.hid (show En7 w W2 z (z + 1) by
    rw [hW2, hz]
    exact ⟨((Fr.refl _ _).alloc _).alloc _, ((Fr.refl (fun _ => False) _).alloc _).heap (heap_alloc_new w _) id, heap_alloc2_new w _ _⟩)
  have HW := Lib.hid (And.intro hW2 hz)
  have HA := Lib.hid awake7_any
  clear hW2 hz
  go_enter Try.func5, Try.ntmps5
  go_wp2_with fail
  rw [← HW.out.1, ← HW.out.2]
  go_loopw [0, 3] (fun rv iv wr => ∃ n : Nat, n ≤ 64 ∧ rv = .bool false ∧ iv = .int .i64 n ∧ Hid (En7 w wr z (z + 1))) (fun _ iv _ => 64 - (intOf iv).toNat)
  case atStart => exact ⟨0, by omega, rfl, rfl, HE⟩
  case round =>
    obtain ⟨n, hn, rfl, rfl, hR⟩ := hrel
    by_cases hlt : n < 64
    · obtain ⟨a9, ha, ha1, ha2⟩ := ends7c_ok (n % 8) (by omega)
      obtain ⟨b9, hb, hb1, hb2⟩ := ends7c_ok (n / 8) (by omega)
      have c0 := hR.out.cell _ _ ha
      have c1 := hR.out.cell _ _ hb
      have d1 : decide ((n : Int) < 64) = true := by rw [decide_eq_true_iff]; omega
      have d2 : (n : Int) < 64 := by omega
      have d3 : (0 : Int) ≤ (n : Int) := by omega
      have e1 : (n : Int).tmod 8 = ((n % 8 : Nat) : Int) := by rw [Int.tmod_eq_emod_of_nonneg (by omega)]; omega
      have e2 : (n : Int).tdiv 8 = ((n / 8 : Nat) : Int) := by rw [Int.tdiv_eq_ediv_of_nonneg (by omega)]; omega
      have q1 : n % 8 < 8 := by omega
      have q2 : n / 8 < 8 := by omega
      have k0 : ((wr.alloc (.cells #[.int .i64 0, .int .i64 0] 68)).drew).cell? ⟨z + 1, n % 8, none⟩ = some (.int .i64 a9) := (((Fr.refl (fun _ => False) wr).alloc _).drew).cell c0 id
      have k1 : ((wr.alloc (.cells #[.int .i64 0, .int .i64 0] 68)).drew).cell? ⟨z + 1, n / 8, none⟩ = some (.int .i64 b9) := (((Fr.refl (fun _ => False) wr).alloc _).drew).cell c1 id
      have m0 : (wr.alloc (.cells #[.int .i64 0, .int .i64 0] 68)).cell? ⟨z + 1, n % 8, none⟩ = some (.int .i64 a9) := (((Fr.refl (fun _ => False) wr).alloc _)).cell c0 id
      have m1 : (wr.alloc (.cells #[.int .i64 0, .int .i64 0] 68)).cell? ⟨z + 1, n / 8, none⟩ = some (.int .i64 b9) := (((Fr.refl (fun _ => False) wr).alloc _)).cell c1 id
      go_wp2_with fail
      go_region
      go_wp2_with fail
      obtain ⟨b4, hb4⟩ : ∃ b4, b4 = wr.heap.size := ⟨_, rfl⟩
      obtain ⟨be, hbe⟩ : ∃ be, be = z + 1 := ⟨_, rfl⟩
      obtain ⟨w5, hw5⟩ : ∃ w5, w5 = (wr.alloc (.cells #[.int .i64 a9, .int .i64 b9] 68)).drew := ⟨_, rfl⟩
      have hf5 : Fr (fun _ => False) wr w5 := by rw [hw5]; exact (((Fr.refl _ wr).alloc _).drew)
      have h5 := hR.out.keep hf5
      have hr5 : w5.heap[b4]? = some (.cells #[.int .i64 a9, .int .i64 b9] 68 (0, 0)) := by rw [hw5, hb4]; exact heap_alloc_new wr _
      rw [← hw5, ← hb4, ← hbe]
      rw [← hbe] at h5
      have LDS := Lib.hid (fun W (hW : Fr (fun _ => False) w5 W) => load_shape5 W z 0 _ _ _ (range_row5 (hW.heap h5.sh id)))
      have LDR := Lib.hid (fun W (hW : Fr (fun _ => False) w5 W) => load_rn9 W b4 _ _ (hW.heap hr5 id))
      have LDE := Lib.hid (fun W (hW : Fr (fun _ => False) w5 W) => load_int5 W ⟨be, n % 8, none⟩ _ (hW.cell (h5.cell _ _ ha) id))
      have HAB := Lib.hid (And.intro (And.intro ha1 ha2) (And.intro hb1 hb2))
      have HAB4 := Lib.hid (show ∀ x ∈ [2, 2, a9, b9], -9223372036854775808 ≤ x ∧ x ≤ 9223372036854775807 by
        intro x hx
        simp only [List.mem_cons, List.not_mem_nil, or_false] at hx
        rcases hx with rfl | rfl | rfl | rfl
        · omega
        · omega
        · exact ⟨ha1, ha2⟩
        · exact ⟨hb1, hb2⟩)
      have HN7 := Lib.hid q1
      have HN64 := Lib.hid hlt
      have HNB := Lib.hid (fun W => (bNeed_any W ((n * 9 : Nat) : Int) (by omega) (by omega)).mono (fun e w' h => (⟨h.1, by rw [h.2]; exact Fr.refl _ _⟩ : e = .returned (.int .i64 (need7 ((n * 9 : Nat) : Int))) ∧ Fr (fun _ => False) W w')))
      have HNR := Lib.hid (fun W => (rNeed_any W ((n * 9 : Nat) : Int) (by omega) (by omega)).mono (fun e w' h => (⟨h.1, by rw [h.2]; exact Fr.refl _ _⟩ : e = .returned (.int .i64 (need7 ((n * 9 : Nat) : Int))) ∧ Fr (fun _ => False) W w')))
      have H5 := Lib.hid (And.intro h5 hbe)
      clear hw5 hf5 h5 hr5 hb4 hbe k0 k1 m0 m1 c0 c1 ha hb ha1 ha2 hb1 hb2 e1 e2 q1 q2 d1 d2 d3 hn
      refine wp_region_inv 34 (by kernel_rfl) (by kernel_rfl) (fun W => Fr (fun _ => False) w5 W) (EnR z be b4 n a9 b9) (fun _ _ _ _ => True) (Fr (fun _ => False)) (EnR.ext z be b4 n a9 b9) (Fr.refl _ _).drew ?_ ?_
      · intro i hi o ho
        replace hi : i < 34 := hi
        obtain rfl | rfl | rfl | rfl | rfl | rfl | rfl | rfl | rfl | rfl | rfl | rfl | rfl | rfl | rfl | rfl | rfl | rfl | rfl | rfl | rfl | rfl | rfl | rfl | rfl | rfl | rfl | rfl | rfl | rfl | rfl | rfl | rfl | rfl : i = 0 ∨ i = 1 ∨ i = 2 ∨ i = 3 ∨ i = 4 ∨ i = 5 ∨ i = 6 ∨ i = 7 ∨ i = 8 ∨ i = 9 ∨ i = 10 ∨ i = 11 ∨ i = 12 ∨ i = 13 ∨ i = 14 ∨ i = 15 ∨ i = 16 ∨ i = 17 ∨ i = 18 ∨ i = 19 ∨ i = 20 ∨ i = 21 ∨ i = 22 ∨ i = 23 ∨ i = 24 ∨ i = 25 ∨ i = 26 ∨ i = 27 ∨ i = 28 ∨ i = 29 ∨ i = 30 ∨ i = 31 ∨ i = 32 ∨ i = 33 := by omega
        · simp only [List.getElem?_cons_zero, Option.some.injEq] at ho
          subst ho
          intro a W vs hB hS hE hU
          refine wpG_plain rfl ?_
          have v1 : a.eval (.tmp 1) = .pointer (some ⟨z, 0, none⟩) := (hU 1 (by kernel_rfl)).trans rfl
          clear hE hU
          exact wp_value_inv (w' := W) (.agg #[.int .i64 1, .int .i64 1, .int .i64 6]) (op_loadAt rfl v1 (LDS.out W hB)) ⟨_, rfl, hB, Fr.refl _ _, rfl, fun _ _ _ _ _ => trivial⟩
        · simp only [List.getElem?_cons_zero, List.getElem?_cons_succ, Option.some.injEq] at ho
          subst ho
          intro a W vs hB hS hE hU
          refine wpG_plain rfl ?_
          have v3 : a.eval (.tmp 3) = .int .i64 (n : Nat) := (hU 3 (by kernel_rfl)).trans rfl
          clear hE hU
          exact wp_value_inv (w' := W) (.int .i64 (n : Nat)) (op_move rfl v3) ⟨_, rfl, hB, Fr.refl _ _, rfl, fun _ _ _ _ _ => trivial⟩
        · simp only [List.getElem?_cons_zero, List.getElem?_cons_succ, Option.some.injEq] at ho
          subst ho
          intro a W vs hB hS hE hU
          refine wpG_plain rfl ?_
          obtain ⟨r1, e32⟩ := hE 1 32 (by kernel_rfl) (by kernel_rfl)
          have v32 : a.eval (.tmp 32) = .int .i64 (n : Nat) := e32.trans r1
          clear hE hU
          exact wp_value_inv (w' := W) (.int .i64 ((n % 8 : Nat) : Int)) (op_bin rfl v32 rfl rfl (rem_nat7 W n)) ⟨_, rfl, hB, Fr.refl _ _, rfl, fun _ _ _ _ _ => trivial⟩
        · simp only [List.getElem?_cons_zero, List.getElem?_cons_succ, Option.some.injEq] at ho
          subst ho
          intro a W vs hB hS hE hU
          refine wpG_plain rfl ?_
          obtain ⟨r2, e33⟩ := hE 2 33 (by kernel_rfl) (by kernel_rfl)
          have v33 : a.eval (.tmp 33) = .int .i64 ((n % 8 : Nat) : Int) := e33.trans r2
          clear hE hU
          exact wp_value_inv (w' := W) (.int .i64 (((n % 8 : Nat) : Int) - 1)) (op_bin rfl v33 rfl (rfl) (sub_in5 rfl (by have := HN7.out; omega) (by have := HN7.out; omega))) ⟨_, rfl, hB, Fr.refl _ _, rfl, fun _ _ _ _ _ => trivial⟩
        · simp only [List.getElem?_cons_zero, List.getElem?_cons_succ, Option.some.injEq] at ho
          subst ho
          intro a W vs hB hS hE hU
          refine wpG_plain rfl ?_
          have v4 : a.eval (.tmp 4) = .pointer (some ⟨b4, 0, none⟩) := (hU 4 (by kernel_rfl)).trans rfl
          clear hE hU
          exact wp_value_inv (w' := W) (.agg #[.int .i64 a9, .int .i64 b9]) (op_loadAt rfl v4 (LDR.out W hB)) ⟨_, rfl, hB, Fr.refl _ _, rfl, fun _ _ _ _ _ => trivial⟩
        · simp only [List.getElem?_cons_zero, List.getElem?_cons_succ, Option.some.injEq] at ho
          subst ho
          intro a W vs hB hS hE hU
          refine wpG_plain rfl ?_
          obtain ⟨r4, e35⟩ := hE 4 35 (by kernel_rfl) (by kernel_rfl)
          have v35 : a.eval (.tmp 35) = .agg #[.int .i64 a9, .int .i64 b9] := e35.trans r4
          clear hE hU
          have hfa : Fr (fun _ => False) W (W.alloc (.cells #[.int .i64 (a9), .int .i64 (b9)] 68)) := (Fr.refl _ _).alloc _
          exact wp_value_inv (w' := W.alloc (.cells #[.int .i64 (a9), .int .i64 (b9)] 68)) (.slice (some ⟨W.heap.size, 0, none⟩) 1 1) (op_rows rfl (vs := #[(0, .agg #[.int .i64 (a9), .int .i64 (b9)])]) (by simp only [List.map_toArray, List.map_cons, List.map_nil, v35]) (run_one7 W _ _)) ⟨_, rfl, hB.trans hfa (fun _ h => h.elim), hfa, ⟨W.heap.size, rfl, (RnsIn.one9 (heap_alloc_new W _) HAB.out).mono (fun k hk e => by rw [show k = W.heap.size from e]; simp)⟩, fun _ _ _ _ _ => trivial⟩
        · simp only [List.getElem?_cons_zero, List.getElem?_cons_succ, Option.some.injEq] at ho
          subst ho
          intro a W vs hB hS hE hU
          refine wpG_plain rfl ?_
          obtain ⟨r0, e31⟩ := hE 0 31 (by kernel_rfl) (by kernel_rfl)
          have v31 : a.eval (.tmp 31) = .agg #[.int .i64 1, .int .i64 1, .int .i64 6] := e31.trans r0
          obtain ⟨r3, e34⟩ := hE 3 34 (by kernel_rfl) (by kernel_rfl)
          have v34 : a.eval (.tmp 34) = .int .i64 (((n % 8 : Nat) : Int) - 1) := e34.trans r3
          obtain ⟨⟨gi5, rg5, rh5⟩, e36⟩ := hE 5 36 (by kernel_rfl) (by kernel_rfl)
          have v36 : a.eval (.tmp 36) = .slice (some ⟨gi5, 0, none⟩) 1 1 := e36.trans rg5
          clear hE hU
          refine wp_call_inv 3 #[.tmp 31, .tmp 34, .tmp 36] #[23, 3, 24] rfl #[.agg #[.int .i64 1, .int .i64 1, .int .i64 6], .int .i64 (((n % 8 : Nat) : Int) - 1), .slice (some ⟨gi5, 0, none⟩) 1 1] (by simp only [List.map_toArray, List.map_cons, List.map_nil, v31, v34, v36]) (ent_bf7 _) (Post := fun v W' => v = .bool true ∧ Fr (fun _ => False) W W') ((blobFinds_any W 1 1 6 _ (by have := HN7.out; omega) (by have := HN7.out; omega) _ _ rh5).mono fun e w' h => ⟨_, h.1, rfl, h.2⟩) ?_
          rintro v W' ⟨rfl, hf⟩
          exact ⟨_, rfl, hB.trans hf (fun _ h => h.elim), hf, rfl, fun _ _ _ _ _ => trivial⟩
        · simp only [List.getElem?_cons_zero, List.getElem?_cons_succ, Option.some.injEq] at ho
          subst ho
          intro a W vs hB hS hE hU
          refine wpG_plain rfl ?_
          obtain ⟨r6, e37⟩ := hE 6 37 (by kernel_rfl) (by kernel_rfl)
          have v37 : a.eval (.tmp 37) = .bool true := e37.trans r6
          clear hE hU
          exact wp_value_inv (w' := W) (.bool false) (op_unop rfl v37 (by rfl)) ⟨_, rfl, hB, Fr.refl _ _, rfl, fun _ _ _ _ _ => trivial⟩
        · simp only [List.getElem?_cons_zero, List.getElem?_cons_succ, Option.some.injEq] at ho
          subst ho
          intro a W vs hB hS hE hU
          refine wpG_plain rfl ?_
          obtain ⟨r7, e38⟩ := hE 7 38 (by kernel_rfl) (by kernel_rfl)
          have v38 : a.eval (.tmp 38) = .bool false := e38.trans r7
          clear hE hU
          exact wp_value_inv (w' := W) (.bool false) (op_move rfl v38) ⟨_, rfl, hB, Fr.refl _ _, rfl, fun _ _ _ _ _ => trivial⟩
        · simp only [List.getElem?_cons_zero, List.getElem?_cons_succ, Option.some.injEq] at ho
          subst ho
          intro a W vs hB hS hE hU
          obtain ⟨r8, e39⟩ := hE 8 39 (by kernel_rfl) (by kernel_rfl)
          have v39 : a.eval (.tmp 39) = .bool false := e39.trans r8
          refine wpG_yes 8 false 39 rfl (by kernel_rfl) (by rw [hS]; first | simp | exact Nat.le_of_ble_eq_true rfl) v39 ?_
          have v1 : a.eval (.tmp 1) = .pointer (some ⟨z, 0, none⟩) := (hU 1 (by kernel_rfl)).trans rfl
          clear hE hU
          exact wp_value_inv (w' := W) (.agg #[.int .i64 1, .int .i64 1, .int .i64 6]) (op_loadAt rfl v1 (LDS.out W hB)) ⟨_, rfl, hB, Fr.refl _ _, rfl, fun _ _ _ _ _ => trivial⟩
        · simp only [List.getElem?_cons_zero, List.getElem?_cons_succ, Option.some.injEq] at ho
          subst ho
          intro a W vs hB hS hE hU
          obtain ⟨r8, e39⟩ := hE 8 39 (by kernel_rfl) (by kernel_rfl)
          have v39 : a.eval (.tmp 39) = .bool false := e39.trans r8
          refine wpG_yes 8 false 39 rfl (by kernel_rfl) (by rw [hS]; first | simp | exact Nat.le_of_ble_eq_true rfl) v39 ?_
          clear hE hU
          exact wp_value_inv (w' := W) (.agg #[.int .i64 2, .int .i64 2]) (op_build7 rfl rfl rfl) ⟨_, rfl, hB, Fr.refl _ _, rfl, fun _ _ _ _ _ => trivial⟩
        · simp only [List.getElem?_cons_zero, List.getElem?_cons_succ, Option.some.injEq] at ho
          subst ho
          intro a W vs hB hS hE hU
          obtain ⟨r8, e39⟩ := hE 8 39 (by kernel_rfl) (by kernel_rfl)
          have v39 : a.eval (.tmp 39) = .bool false := e39.trans r8
          refine wpG_yes 8 false 39 rfl (by kernel_rfl) (by rw [hS]; first | simp | exact Nat.le_of_ble_eq_true rfl) v39 ?_
          have v4 : a.eval (.tmp 4) = .pointer (some ⟨b4, 0, none⟩) := (hU 4 (by kernel_rfl)).trans rfl
          clear hE hU
          exact wp_value_inv (w' := W) (.agg #[.int .i64 a9, .int .i64 b9]) (op_loadAt rfl v4 (LDR.out W hB)) ⟨_, rfl, hB, Fr.refl _ _, rfl, fun _ _ _ _ _ => trivial⟩
        · simp only [List.getElem?_cons_zero, List.getElem?_cons_succ, Option.some.injEq] at ho
          subst ho
          intro a W vs hB hS hE hU
          obtain ⟨r8, e39⟩ := hE 8 39 (by kernel_rfl) (by kernel_rfl)
          have v39 : a.eval (.tmp 39) = .bool false := e39.trans r8
          refine wpG_yes 8 false 39 rfl (by kernel_rfl) (by rw [hS]; first | simp | exact Nat.le_of_ble_eq_true rfl) v39 ?_
          obtain ⟨r10, e41⟩ := hE 10 41 (by kernel_rfl) (by kernel_rfl)
          have v41 : a.eval (.tmp 41) = .agg #[.int .i64 2, .int .i64 2] := e41.trans r10
          obtain ⟨r11, e42⟩ := hE 11 42 (by kernel_rfl) (by kernel_rfl)
          have v42 : a.eval (.tmp 42) = .agg #[.int .i64 a9, .int .i64 b9] := e42.trans r11
          clear hE hU
          have hfa : Fr (fun _ => False) W (W.alloc (.cells #[.int .i64 (2), .int .i64 (2), .int .i64 (a9), .int .i64 (b9)] 68)) := (Fr.refl _ _).alloc _
          exact wp_value_inv (w' := W.alloc (.cells #[.int .i64 (2), .int .i64 (2), .int .i64 (a9), .int .i64 (b9)] 68)) (.slice (some ⟨W.heap.size, 0, none⟩) 2 2) (op_rows rfl (vs := #[(0, .agg #[.int .i64 (2), .int .i64 (2)]), (1, .agg #[.int .i64 (a9), .int .i64 (b9)])]) (by simp only [List.map_toArray, List.map_cons, List.map_nil, v41, v42]) (run_two7 W _ _ _ _)) ⟨_, rfl, hB.trans hfa (fun _ h => h.elim), hfa, ⟨W.heap.size, rfl, (RnsIn.two (heap_alloc_new W _) HAB4.out).mono (fun k hk e => by rw [show k = W.heap.size from e]; simp)⟩, fun _ _ _ _ _ => trivial⟩
        · simp only [List.getElem?_cons_zero, List.getElem?_cons_succ, Option.some.injEq] at ho
          subst ho
          intro a W vs hB hS hE hU
          obtain ⟨r8, e39⟩ := hE 8 39 (by kernel_rfl) (by kernel_rfl)
          have v39 : a.eval (.tmp 39) = .bool false := e39.trans r8
          refine wpG_yes 8 false 39 rfl (by kernel_rfl) (by rw [hS]; first | simp | exact Nat.le_of_ble_eq_true rfl) v39 ?_
          obtain ⟨r9, e40⟩ := hE 9 40 (by kernel_rfl) (by kernel_rfl)
          have v40 : a.eval (.tmp 40) = .agg #[.int .i64 1, .int .i64 1, .int .i64 6] := e40.trans r9
          obtain ⟨⟨gi12, rg12, rh12⟩, e43⟩ := hE 12 43 (by kernel_rfl) (by kernel_rfl)
          have v43 : a.eval (.tmp 43) = .slice (some ⟨gi12, 0, none⟩) 2 2 := e43.trans rg12
          clear hE hU
          refine wp_call_inv 3 #[.tmp 40, .const (.int .i64 1), .tmp 43] #[23, 3, 24] rfl #[.agg #[.int .i64 1, .int .i64 1, .int .i64 6], .int .i64 1, .slice (some ⟨gi12, 0, none⟩) 2 2] (by simp only [List.map_toArray, List.map_cons, List.map_nil, eval_const5, v40, v43]) (ent_bf7 _) (Post := fun v W' => v = .bool true ∧ Fr (fun _ => False) W W') ((blobFinds_any W 1 1 6 _ (by omega) (by omega) _ _ rh12).mono fun e w' h => ⟨_, h.1, rfl, h.2⟩) ?_
          rintro v W' ⟨rfl, hf⟩
          exact ⟨_, rfl, hB.trans hf (fun _ h => h.elim), hf, rfl, fun _ _ _ _ _ => trivial⟩
        · simp only [List.getElem?_cons_zero, List.getElem?_cons_succ, Option.some.injEq] at ho
          subst ho
          intro a W vs hB hS hE hU
          obtain ⟨r8, e39⟩ := hE 8 39 (by kernel_rfl) (by kernel_rfl)
          have v39 : a.eval (.tmp 39) = .bool false := e39.trans r8
          refine wpG_yes 8 false 39 rfl (by kernel_rfl) (by rw [hS]; first | simp | exact Nat.le_of_ble_eq_true rfl) v39 ?_
          obtain ⟨r13, e44⟩ := hE 13 44 (by kernel_rfl) (by kernel_rfl)
          have v44 : a.eval (.tmp 44) = .bool true := e44.trans r13
          clear hE hU
          exact wp_value_inv (w' := W) (.bool false) (op_unop rfl v44 (by rfl)) ⟨_, rfl, hB, Fr.refl _ _, rfl, fun _ _ _ _ _ => trivial⟩
        · simp only [List.getElem?_cons_zero, List.getElem?_cons_succ, Option.some.injEq] at ho
          subst ho
          intro a W vs hB hS hE hU
          refine wpG_plain rfl ?_
          obtain ⟨r8, e39⟩ := hE 8 39 (by kernel_rfl) (by kernel_rfl)
          have v39 : a.eval (.tmp 39) = .bool false := e39.trans r8
          obtain ⟨r14, e45⟩ := hE 14 45 (by kernel_rfl) (by kernel_rfl)
          have v45 : a.eval (.tmp 45) = .bool false := e45.trans r14
          clear hE hU
          exact wp_value_inv (w' := W) (.bool false) (op_pick rfl v39 (by simp only [Bool.false_eq_true, if_false]; exact v45)) ⟨_, rfl, hB, Fr.refl _ _, rfl, fun _ _ _ _ _ => trivial⟩
        · simp only [List.getElem?_cons_zero, List.getElem?_cons_succ, Option.some.injEq] at ho
          subst ho
          intro a W vs hB hS hE hU
          refine wpG_plain rfl ?_
          obtain ⟨r15, e46⟩ := hE 15 46 (by kernel_rfl) (by kernel_rfl)
          have v46 : a.eval (.tmp 46) = .bool false := e46.trans r15
          clear hE hU
          exact wp_value_inv (w' := W) (.bool false) (op_move rfl v46) ⟨_, rfl, hB, Fr.refl _ _, rfl, fun _ _ _ _ _ => trivial⟩
        · simp only [List.getElem?_cons_zero, List.getElem?_cons_succ, Option.some.injEq] at ho
          subst ho
          intro a W vs hB hS hE hU
          obtain ⟨r16, e47⟩ := hE 16 47 (by kernel_rfl) (by kernel_rfl)
          have v47 : a.eval (.tmp 47) = .bool false := e47.trans r16
          refine wpG_yes 16 false 47 rfl (by kernel_rfl) (by rw [hS]; first | simp | exact Nat.le_of_ble_eq_true rfl) v47 ?_
          have v1 : a.eval (.tmp 1) = .pointer (some ⟨z, 0, none⟩) := (hU 1 (by kernel_rfl)).trans rfl
          clear hE hU
          exact wp_value_inv (w' := W) (.agg #[.int .i64 1, .int .i64 1, .int .i64 6]) (op_loadAt rfl v1 (LDS.out W hB)) ⟨_, rfl, hB, Fr.refl _ _, rfl, fun _ _ _ _ _ => trivial⟩
        · simp only [List.getElem?_cons_zero, List.getElem?_cons_succ, Option.some.injEq] at ho
          subst ho
          intro a W vs hB hS hE hU
          obtain ⟨r16, e47⟩ := hE 16 47 (by kernel_rfl) (by kernel_rfl)
          have v47 : a.eval (.tmp 47) = .bool false := e47.trans r16
          refine wpG_yes 16 false 47 rfl (by kernel_rfl) (by rw [hS]; first | simp | exact Nat.le_of_ble_eq_true rfl) v47 ?_
          have v2 : a.eval (.tmp 2) = .slice (some ⟨be, 0, none⟩) 8 8 := (hU 2 (by kernel_rfl)).trans rfl
          clear hE hU
          exact wp_value_inv (w' := W) (.slice (some ⟨be, 0, none⟩) 8 8) (op_move rfl v2) ⟨_, rfl, hB, Fr.refl _ _, rfl, fun _ _ _ _ _ => trivial⟩
        · simp only [List.getElem?_cons_zero, List.getElem?_cons_succ, Option.some.injEq] at ho
          subst ho
          intro a W vs hB hS hE hU
          obtain ⟨r16, e47⟩ := hE 16 47 (by kernel_rfl) (by kernel_rfl)
          have v47 : a.eval (.tmp 47) = .bool false := e47.trans r16
          refine wpG_yes 16 false 47 rfl (by kernel_rfl) (by rw [hS]; first | simp | exact Nat.le_of_ble_eq_true rfl) v47 ?_
          have v3 : a.eval (.tmp 3) = .int .i64 (n : Nat) := (hU 3 (by kernel_rfl)).trans rfl
          clear hE hU
          exact wp_value_inv (w' := W) (.int .i64 (n : Nat)) (op_move rfl v3) ⟨_, rfl, hB, Fr.refl _ _, rfl, fun _ _ _ _ _ => trivial⟩
        · simp only [List.getElem?_cons_zero, List.getElem?_cons_succ, Option.some.injEq] at ho
          subst ho
          intro a W vs hB hS hE hU
          obtain ⟨r16, e47⟩ := hE 16 47 (by kernel_rfl) (by kernel_rfl)
          have v47 : a.eval (.tmp 47) = .bool false := e47.trans r16
          refine wpG_yes 16 false 47 rfl (by kernel_rfl) (by rw [hS]; first | simp | exact Nat.le_of_ble_eq_true rfl) v47 ?_
          obtain ⟨r19, e50⟩ := hE 19 50 (by kernel_rfl) (by kernel_rfl)
          have v50 : a.eval (.tmp 50) = .int .i64 (n : Nat) := e50.trans r19
          clear hE hU
          exact wp_value_inv (w' := W) (.int .i64 ((n % 8 : Nat) : Int)) (op_bin rfl v50 rfl rfl (rem_nat7 W n)) ⟨_, rfl, hB, Fr.refl _ _, rfl, fun _ _ _ _ _ => trivial⟩
        · simp only [List.getElem?_cons_zero, List.getElem?_cons_succ, Option.some.injEq] at ho
          subst ho
          intro a W vs hB hS hE hU
          obtain ⟨r16, e47⟩ := hE 16 47 (by kernel_rfl) (by kernel_rfl)
          have v47 : a.eval (.tmp 47) = .bool false := e47.trans r16
          refine wpG_yes 16 false 47 rfl (by kernel_rfl) (by rw [hS]; first | simp | exact Nat.le_of_ble_eq_true rfl) v47 ?_
          obtain ⟨r18, e49⟩ := hE 18 49 (by kernel_rfl) (by kernel_rfl)
          have v49 : a.eval (.tmp 49) = .slice (some ⟨be, 0, none⟩) 8 8 := e49.trans r18
          obtain ⟨r20, e51⟩ := hE 20 51 (by kernel_rfl) (by kernel_rfl)
          have v51 : a.eval (.tmp 51) = .int .i64 ((n % 8 : Nat) : Int) := e51.trans r20
          clear hE hU
          exact wp_value_inv (w' := W) (.pointer (some ⟨be, n % 8, none⟩)) (op_indexAddr rfl v49 v51 (run_index_int9 W be (n % 8) HN7.out)) ⟨_, rfl, hB, Fr.refl _ _, rfl, fun _ _ _ _ _ => trivial⟩
        · simp only [List.getElem?_cons_zero, List.getElem?_cons_succ, Option.some.injEq] at ho
          subst ho
          intro a W vs hB hS hE hU
          obtain ⟨r16, e47⟩ := hE 16 47 (by kernel_rfl) (by kernel_rfl)
          have v47 : a.eval (.tmp 47) = .bool false := e47.trans r16
          refine wpG_yes 16 false 47 rfl (by kernel_rfl) (by rw [hS]; first | simp | exact Nat.le_of_ble_eq_true rfl) v47 ?_
          obtain ⟨r21, e52⟩ := hE 21 52 (by kernel_rfl) (by kernel_rfl)
          have v52 : a.eval (.tmp 52) = .pointer (some ⟨be, n % 8, none⟩) := e52.trans r21
          clear hE hU
          exact wp_value_inv (w' := W) (.int .i64 a9) (op_loadAt rfl v52 (LDE.out W hB)) ⟨_, rfl, hB, Fr.refl _ _, rfl, fun _ _ _ _ _ => trivial⟩
        · simp only [List.getElem?_cons_zero, List.getElem?_cons_succ, Option.some.injEq] at ho
          subst ho
          intro a W vs hB hS hE hU
          obtain ⟨r16, e47⟩ := hE 16 47 (by kernel_rfl) (by kernel_rfl)
          have v47 : a.eval (.tmp 47) = .bool false := e47.trans r16
          refine wpG_yes 16 false 47 rfl (by kernel_rfl) (by rw [hS]; first | simp | exact Nat.le_of_ble_eq_true rfl) v47 ?_
          obtain ⟨r17, e48⟩ := hE 17 48 (by kernel_rfl) (by kernel_rfl)
          have v48 : a.eval (.tmp 48) = .agg #[.int .i64 1, .int .i64 1, .int .i64 6] := e48.trans r17
          obtain ⟨r22, e53⟩ := hE 22 53 (by kernel_rfl) (by kernel_rfl)
          have v53 : a.eval (.tmp 53) = .int .i64 a9 := e53.trans r22
          clear hE hU
          refine wp_call_inv 3 #[.tmp 48, .tmp 53, .const (.slice none 0 0)] #[23, 3, 24] rfl #[.agg #[.int .i64 1, .int .i64 1, .int .i64 6], .int .i64 a9, .slice none 0 0] (by simp only [List.map_toArray, List.map_cons, List.map_nil, eval_const5, v48, v53]) (ent_bf7 _) (Post := fun v W' => v = .bool true ∧ Fr (fun _ => False) W W') ((blobFinds_any W 1 1 6 _ HAB.out.1.1 HAB.out.1.2 _ _ (RnsIn.nil _ _)).mono fun e w' h => ⟨_, h.1, rfl, h.2⟩) ?_
          rintro v W' ⟨rfl, hf⟩
          exact ⟨_, rfl, hB.trans hf (fun _ h => h.elim), hf, rfl, fun _ _ _ _ _ => trivial⟩
        · simp only [List.getElem?_cons_zero, List.getElem?_cons_succ, Option.some.injEq] at ho
          subst ho
          intro a W vs hB hS hE hU
          obtain ⟨r16, e47⟩ := hE 16 47 (by kernel_rfl) (by kernel_rfl)
          have v47 : a.eval (.tmp 47) = .bool false := e47.trans r16
          refine wpG_yes 16 false 47 rfl (by kernel_rfl) (by rw [hS]; first | simp | exact Nat.le_of_ble_eq_true rfl) v47 ?_
          obtain ⟨r23, e54⟩ := hE 23 54 (by kernel_rfl) (by kernel_rfl)
          have v54 : a.eval (.tmp 54) = .bool true := e54.trans r23
          clear hE hU
          exact wp_value_inv (w' := W) (.bool false) (op_unop rfl v54 (by rfl)) ⟨_, rfl, hB, Fr.refl _ _, rfl, fun _ _ _ _ _ => trivial⟩
        · simp only [List.getElem?_cons_zero, List.getElem?_cons_succ, Option.some.injEq] at ho
          subst ho
          intro a W vs hB hS hE hU
          refine wpG_plain rfl ?_
          obtain ⟨r16, e47⟩ := hE 16 47 (by kernel_rfl) (by kernel_rfl)
          have v47 : a.eval (.tmp 47) = .bool false := e47.trans r16
          obtain ⟨r24, e55⟩ := hE 24 55 (by kernel_rfl) (by kernel_rfl)
          have v55 : a.eval (.tmp 55) = .bool false := e55.trans r24
          clear hE hU
          exact wp_value_inv (w' := W) (.bool false) (op_pick rfl v47 (by simp only [Bool.false_eq_true, if_false]; exact v55)) ⟨_, rfl, hB, Fr.refl _ _, rfl, fun _ _ _ _ _ => trivial⟩
        · simp only [List.getElem?_cons_zero, List.getElem?_cons_succ, Option.some.injEq] at ho
          subst ho
          intro a W vs hB hS hE hU
          refine wpG_plain rfl ?_
          obtain ⟨r25, e56⟩ := hE 25 56 (by kernel_rfl) (by kernel_rfl)
          have v56 : a.eval (.tmp 56) = .bool false := e56.trans r25
          clear hE hU
          exact wp_value_inv (w' := W) (.bool false) (op_move rfl v56) ⟨_, rfl, hB, Fr.refl _ _, rfl, fun _ _ _ _ _ => trivial⟩
        · simp only [List.getElem?_cons_zero, List.getElem?_cons_succ, Option.some.injEq] at ho
          subst ho
          intro a W vs hB hS hE hU
          obtain ⟨r26, e57⟩ := hE 26 57 (by kernel_rfl) (by kernel_rfl)
          have v57 : a.eval (.tmp 57) = .bool false := e57.trans r26
          refine wpG_yes 26 false 57 rfl (by kernel_rfl) (by rw [hS]; first | simp | exact Nat.le_of_ble_eq_true rfl) v57 ?_
          have v3 : a.eval (.tmp 3) = .int .i64 (n : Nat) := (hU 3 (by kernel_rfl)).trans rfl
          clear hE hU
          exact wp_value_inv (w' := W) (.int .i64 (n : Nat)) (op_move rfl v3) ⟨_, rfl, hB, Fr.refl _ _, rfl, fun _ _ _ _ _ => trivial⟩
        · simp only [List.getElem?_cons_zero, List.getElem?_cons_succ, Option.some.injEq] at ho
          subst ho
          intro a W vs hB hS hE hU
          obtain ⟨r26, e57⟩ := hE 26 57 (by kernel_rfl) (by kernel_rfl)
          have v57 : a.eval (.tmp 57) = .bool false := e57.trans r26
          refine wpG_yes 26 false 57 rfl (by kernel_rfl) (by rw [hS]; first | simp | exact Nat.le_of_ble_eq_true rfl) v57 ?_
          obtain ⟨r27, e58⟩ := hE 27 58 (by kernel_rfl) (by kernel_rfl)
          have v58 : a.eval (.tmp 58) = .int .i64 (n : Nat) := e58.trans r27
          clear hE hU
          exact wp_value_inv (w' := W) (.int .i64 ((n * 9 : Nat) : Int)) (op_bin rfl v58 rfl (rfl) (mul_in5 (by push_cast; rfl) (by have := HN64.out; omega) (by have := HN64.out; omega))) ⟨_, rfl, hB, Fr.refl _ _, rfl, fun _ _ _ _ _ => trivial⟩
        · simp only [List.getElem?_cons_zero, List.getElem?_cons_succ, Option.some.injEq] at ho
          subst ho
          intro a W vs hB hS hE hU
          obtain ⟨r26, e57⟩ := hE 26 57 (by kernel_rfl) (by kernel_rfl)
          have v57 : a.eval (.tmp 57) = .bool false := e57.trans r26
          refine wpG_yes 26 false 57 rfl (by kernel_rfl) (by rw [hS]; first | simp | exact Nat.le_of_ble_eq_true rfl) v57 ?_
          obtain ⟨r28, e59⟩ := hE 28 59 (by kernel_rfl) (by kernel_rfl)
          have v59 : a.eval (.tmp 59) = .int .i64 ((n * 9 : Nat) : Int) := e59.trans r28
          clear hE hU
          refine wp_call_inv 14 #[.tmp 59] #[3] rfl #[.int .i64 ((n * 9 : Nat) : Int)] (by simp only [List.map_toArray, List.map_cons, List.map_nil, v59]) (e7_ent_spence_blob_Need _) (Post := fun v W' => v = .int .i64 (need7 ((n * 9 : Nat) : Int)) ∧ Fr (fun _ => False) W W') ((HNB.out W).mono fun e w' h => ⟨_, h.1, rfl, h.2⟩) ?_
          rintro v W' ⟨rfl, hf⟩
          exact ⟨_, rfl, hB.trans hf (fun _ h => h.elim), hf, rfl, fun _ _ _ _ _ => trivial⟩
        · simp only [List.getElem?_cons_zero, List.getElem?_cons_succ, Option.some.injEq] at ho
          subst ho
          intro a W vs hB hS hE hU
          obtain ⟨r26, e57⟩ := hE 26 57 (by kernel_rfl) (by kernel_rfl)
          have v57 : a.eval (.tmp 57) = .bool false := e57.trans r26
          refine wpG_yes 26 false 57 rfl (by kernel_rfl) (by rw [hS]; first | simp | exact Nat.le_of_ble_eq_true rfl) v57 ?_
          have v3 : a.eval (.tmp 3) = .int .i64 (n : Nat) := (hU 3 (by kernel_rfl)).trans rfl
          clear hE hU
          exact wp_value_inv (w' := W) (.int .i64 (n : Nat)) (op_move rfl v3) ⟨_, rfl, hB, Fr.refl _ _, rfl, fun _ _ _ _ _ => trivial⟩
        · simp only [List.getElem?_cons_zero, List.getElem?_cons_succ, Option.some.injEq] at ho
          subst ho
          intro a W vs hB hS hE hU
          obtain ⟨r26, e57⟩ := hE 26 57 (by kernel_rfl) (by kernel_rfl)
          have v57 : a.eval (.tmp 57) = .bool false := e57.trans r26
          refine wpG_yes 26 false 57 rfl (by kernel_rfl) (by rw [hS]; first | simp | exact Nat.le_of_ble_eq_true rfl) v57 ?_
          obtain ⟨r30, e61⟩ := hE 30 61 (by kernel_rfl) (by kernel_rfl)
          have v61 : a.eval (.tmp 61) = .int .i64 (n : Nat) := e61.trans r30
          clear hE hU
          exact wp_value_inv (w' := W) (.int .i64 ((n * 9 : Nat) : Int)) (op_bin rfl v61 rfl (rfl) (mul_in5 (by push_cast; rfl) (by have := HN64.out; omega) (by have := HN64.out; omega))) ⟨_, rfl, hB, Fr.refl _ _, rfl, fun _ _ _ _ _ => trivial⟩
        · simp only [List.getElem?_cons_zero, List.getElem?_cons_succ, Option.some.injEq] at ho
          subst ho
          intro a W vs hB hS hE hU
          obtain ⟨r26, e57⟩ := hE 26 57 (by kernel_rfl) (by kernel_rfl)
          have v57 : a.eval (.tmp 57) = .bool false := e57.trans r26
          refine wpG_yes 26 false 57 rfl (by kernel_rfl) (by rw [hS]; first | simp | exact Nat.le_of_ble_eq_true rfl) v57 ?_
          obtain ⟨r31, e62⟩ := hE 31 62 (by kernel_rfl) (by kernel_rfl)
          have v62 : a.eval (.tmp 62) = .int .i64 ((n * 9 : Nat) : Int) := e62.trans r31
          clear hE hU
          refine wp_call_inv 15 #[.tmp 62] #[3] rfl #[.int .i64 ((n * 9 : Nat) : Int)] (by simp only [List.map_toArray, List.map_cons, List.map_nil, v62]) (e7_ent_spence_spenceref07_Need _) (Post := fun v W' => v = .int .i64 (need7 ((n * 9 : Nat) : Int)) ∧ Fr (fun _ => False) W W') ((HNR.out W).mono fun e w' h => ⟨_, h.1, rfl, h.2⟩) ?_
          rintro v W' ⟨rfl, hf⟩
          exact ⟨_, rfl, hB.trans hf (fun _ h => h.elim), hf, rfl, fun _ _ _ _ _ => trivial⟩
        · simp only [List.getElem?_cons_zero, List.getElem?_cons_succ, Option.some.injEq] at ho
          subst ho
          intro a W vs hB hS hE hU
          obtain ⟨r26, e57⟩ := hE 26 57 (by kernel_rfl) (by kernel_rfl)
          have v57 : a.eval (.tmp 57) = .bool false := e57.trans r26
          refine wpG_yes 26 false 57 rfl (by kernel_rfl) (by rw [hS]; first | simp | exact Nat.le_of_ble_eq_true rfl) v57 ?_
          obtain ⟨r29, e60⟩ := hE 29 60 (by kernel_rfl) (by kernel_rfl)
          have v60 : a.eval (.tmp 60) = .int .i64 (need7 ((n * 9 : Nat) : Int)) := e60.trans r29
          obtain ⟨r32, e63⟩ := hE 32 63 (by kernel_rfl) (by kernel_rfl)
          have v63 : a.eval (.tmp 63) = .int .i64 (need7 ((n * 9 : Nat) : Int)) := e63.trans r32
          clear hE hU
          exact wp_value_inv (w' := W) (.bool false) (op_bin rfl v60 v63 (guard_int W _ _ _ _ _ _ _) (neq_self7 W _)) ⟨_, rfl, hB, Fr.refl _ _, rfl, fun _ _ _ _ _ => trivial⟩
      · intro vs Wa hB0 hR0 hD
        have r57 : vs 26 = .bool false := hR0 26 (by decide)
        have r64 : vs 33 = .bool false := hR0 33 (by decide)
        have HB := Lib.hid hB0
        clear hR0 hD hB0
        simp only [acts, if_true, dstAt, List.getElem?_cons_zero, List.getElem?_cons_succ, Option.bind_some, Act.put, List.setIfInBounds_toArray, List.set_cons_succ, List.set_cons_zero, List.drop_succ_cons]
        simp only [r57, r64]
        clear r57 r64
        have HQ := Lib.hid (And.intro (H5.out.1.keep HB.out) H5.out.2)
        clear LDS LDR LDE HAB HAB4 HNB HNR HB H5 hR
        go_wp2_with fail
        go_loopw [5, 6] (fun hv kv wq => ∃ k : Nat, k ≤ 6 ∧ kv = .int .i64 k ∧ (∃ a m c, hv = .slice a m c) ∧ Hid (∃ l, OwnRn Wa.heap.size wq hv l ∧ l.length ≤ k ∧ (∀ r ∈ l, -9223372036854775808 ≤ r.1 ∧ r.1 ≤ 9223372036854775807 ∧ -9223372036854775808 ≤ r.2 ∧ r.2 ≤ 9223372036854775807) ∧ Fr (fun _ => False) Wa wq)) (fun _ kv _ => 6 - (intOf kv).toNat)
        case atStart => exact ⟨0, by omega, rfl, ⟨none, 0, 0, rfl⟩, Lib.hid ⟨[], OwnRn.nil _ _, by simp, fun _ h => by (cases h), Fr.refl _ _⟩⟩
        case round =>
          obtain ⟨k, hk, rfl, ⟨ah, mh, ch, rfl⟩, hS⟩ := hrel
          obtain ⟨l, ho, hll, hlb, hfa⟩ := hS.out
          by_cases hlk : k < 6
          · have d6 : decide ((k : Int) < 6) = true := by rw [decide_eq_true_iff]; omega
            have d7 : (k : Int) < 6 := by omega
            have d8 : (0 : Int) ≤ (k : Int) := by omega
            have d9 : (n : Int) < 64 := by have := HN64.out; omega
            have HO := Lib.hid (And.intro ho (And.intro hll (And.intro hlb (And.intro hfa hlk))))
            clear ho hll hlb hfa hlk hS hk
            go_wp2_with (at_builtin; refine wpList_append_rn (z := Wa.heap.size) _ rfl (.tmp 75) (.tmp 80) rfl (.slice ah mh ch) l ((k : Int) * 5 % 6, 1) _ rfl rfl (heap_alloc_new _ _) (OwnE.keep HO.out.1 ((Fr.refl (fun _ => False) _).alloc _) (fun _ _ h => h)) (by have := HO.out.2.2.2.1.size; simp; omega) (by have := HO.out.2.1; have := HO.out.2.2.2.2; omega) ?_; intro v7 w7 ho7 hf7; (obtain ⟨a7, c7, rfl⟩ := ho7.form); (have H7 := Lib.hid (And.intro ho7 hf7)); clear ho7 hf7)
            · go_roundw
              case rel =>
                have hfa2 := HO.out.2.2.2.1.trans (((Fr.refl (fun _ => False) _).alloc (.cells #[.int .i64 ((k : Int) * 5 % 6), .int .i64 1] 68)).mono (T := fun g => (Value.slice ah mh ch).ownBlock = some g) (fun _ _ h => h.elim) |>.trans H7.out.2 (fun g hg => .inl hg)) (fun g hg => .inr (OwnRn.own HO.out.1 hg).1)
                exact ⟨k + 1, by have := HO.out.2.2.2.2; omega, by go_num, ⟨_, _, _, rfl⟩, Lib.hid ⟨l ++ [((k : Int) * 5 % 6, 1)], by have h := H7.out.1; rw [show (l ++ [((k : Int) * 5 % 6, (1 : Int))]).length = l.length + 1 by simp] at h; exact h, by rw [List.length_append]; have := HO.out.2.1; simp; omega, fun r hr => by
                  rcases List.mem_append.1 hr with hr | hr
                  · exact HO.out.2.2.1 r hr
                  · obtain rfl := List.mem_singleton.1 hr
                    exact ⟨by simp only; omega, by simp only; omega, by simp only; omega, by simp only; omega⟩, hfa2⟩⟩
              case measure => have := HO.out.2.2.2.2; simp [intOf]; omega
            · go_roundw
              case rel => exact ⟨k + 1, by have := HO.out.2.2.2.2; omega, by go_num, ⟨_, _, _, rfl⟩, Lib.hid ⟨l, HO.out.1, by have := HO.out.2.1; omega, HO.out.2.2.1, HO.out.2.2.2.1⟩⟩
              case measure => have := HO.out.2.2.2.2; simp [intOf]; omega
          · have d6 : decide ((k : Int) < 6) = false := by rw [decide_eq_false_iff_not]; omega
            have HO := Lib.hid (And.intro (ho.rns hlb) (HQ.out.1.keep hfa))
            clear ho hll hlb hfa hlk hS hk
            go_wp2_with fail
            go_loopw [0, 7] (fun rv mv wq => ∃ m : Int, -1 ≤ m ∧ m ≤ 8 ∧ rv = .bool false ∧ mv = .int .i64 m ∧ Hid (Fr (fun _ => False) wr wq)) (fun _ mv _ => (8 - intOf mv).toNat)
            case atStart => exact ⟨-1, by omega, by omega, rfl, rfl, Lib.hid (Fr.refl _ _)⟩
            case round =>
              obtain ⟨m, hm1, hm2, rfl, rfl, hT⟩ := hrel
              have HT := Lib.hid (HO.out.2.keep hT.out)
              by_cases hlm : m < 8
              · have d10 : decide (m < 8) = true := by rw [decide_eq_true_iff]; omega
                obtain ⟨s0, s1, s2⟩ := row3_cells HT.out.sh
                have HBF := Lib.hid (blobFinds_any wr 1 1 6 m (by omega) (by omega) (.slice ah mh ch) l ((HO.out.1.quiet hT.out).mono (fun k hk _ => hk)))
                have HR := Lib.hid hT.out
                clear hT
                go_wp2_with (go_at_call 3; refine HBF.out.mono ?_; rintro e w8 ⟨rfl, hf8⟩; (have H8 := Lib.hid (HR.out.trans hf8 (fun _ h => h.elim))); clear hf8)
                go_roundw
                case rel => exact ⟨m + 1, by omega, by omega, rfl, by go_num, H8⟩
                case measure => simp [intOf]; omega
              · have d10 : decide (m < 8) = false := by rw [decide_eq_false_iff_not]; omega
                clear hT
                go_wp2_with fail
                go_roundw
                case rel =>
                  have hbe := HQ.out.2
                  subst hbe
                  (repeat apply Exists.intro); exact ⟨⟨n + 1, by have := HN64.out; omega, rfl, by go_num, HT⟩, rfl⟩
                case measure => have := HN64.out; simp [intOf]; omega
    · have d1 : decide ((n : Int) < 64) = false := by rw [decide_eq_false_iff_not]; omega
      clear hlt hn
      go_wp2_with fail
      go_loopw [0, 8] (fun rv nv wq => ∃ t : Nat, t ≤ 260 ∧ rv = .bool false ∧ nv = .int .i64 t ∧ Hid (En7 w wq z (z + 1))) (fun _ nv _ => 300 - (intOf nv).toNat)
      case atStart => exact ⟨0, by omega, rfl, rfl, hR⟩
      case round =>
        clear hR
        obtain ⟨t, ht, rfl, rfl, hT⟩ := hrel
        by_cases hlt : t < 195
        · have d2 : decide ((t : Int) < 195) = true := by rw [decide_eq_true_iff]; omega
          have d3 : (t : Int) < 195 := by omega
          have d4 : (0 : Int) ≤ (t : Int) := by omega
          have hmk := fun w => run_mk9 w t (by omega)
          have HLT := Lib.hid hlt
          clear ht hlt
          go_wp2_with fail
          obtain ⟨gb, hgb⟩ : ∃ gb, gb = wr.heap.size := ⟨_, rfl⟩
          obtain ⟨W3, hW3⟩ : ∃ W3, W3 = wr.alloc (.cells (zer9 t) 5) := ⟨_, rfl⟩
          rw [← hW3, ← hgb]
          have HB0 := Lib.hid (show (∃ L : List UInt8, BytT W3 gb 5 L ∧ L.length = t ∧ Fr (fun _ => False) wr W3) by
            rw [hW3, hgb]
            exact ⟨List.replicate t (0 : UInt8), heap_alloc_new wr _, by simp, (Fr.refl _ _).alloc _⟩)
          have HG := Lib.hid (And.intro hgb hT.out)
          clear hgb hW3 hT hmk
          obtain ⟨wr0, hwr0⟩ : ∃ wr0, wr0 = wr := ⟨_, rfl⟩
          rw [← hwr0] at HG HB0
          go_loopw [10] (fun iv wq => ∃ i : Nat, i ≤ t ∧ iv = .int .i64 i ∧ Hid (∃ L : List UInt8, BytT wq gb 5 L ∧ L.length = t ∧ Fr (fun _ => False) wr0 wq)) (fun iv _ => t - (intOf iv).toNat)
          case atStart => exact ⟨0, by omega, rfl, HB0⟩
          case round =>
            obtain ⟨i, hi, rfl, hS⟩ := hrel
            obtain ⟨B, hB, hBl, hfB⟩ := hS.out
            by_cases hli : i < t
            · have c0 := hB.cell i (by omega)
              have f0 := hB.free i
              obtain ⟨u, hu⟩ : ∃ u : Int, u = (B.getD i 0).toNat := ⟨_, rfl⟩
              rw [← hu] at c0
              have hw8 : IntKind.u8.wrap ((i : Int) + 1) = (i : Int) + 1 := IntWalk.u8_in _ (by have := HLT.out; omega)
              have d5 : decide (i < t) = true := by rw [decide_eq_true_iff]; exact hli
              have d6 : (i : Int) < (t : Int) := by omega
              have d7 : (0 : Int) ≤ (i : Int) := by omega
              have d8 : (t : Int) < 195 := by have := HLT.out; omega
              have HS := Lib.hid (show ∃ L : List UInt8, BytT (wr.setCell ⟨gb, i, none⟩ (.int .u8 ((i : Int) + 1))) gb 5 L ∧ L.length = t ∧ Fr (fun _ => False) wr0 (wr.setCell ⟨gb, i, none⟩ (.int .u8 ((i : Int) + 1))) from
                ⟨_, hB.set_ i _ (UInt8.ofNat (i + 1)) (by have := HLT.out; simp; omega), by simpa using hBl, hfB.trans (Fr.cell1 wr gb i _) (fun k e => .inr (by rw [show k = gb from e, HG.out.1]; exact Nat.le_refl _))⟩)
              have HLI := Lib.hid hli
              clear hB hBl hfB hu hS hi hli
              go_wp2_with fail
              go_roundw
              case rel => exact ⟨i + 1, by have := HLI.out; omega, by go_num, HS⟩
              case measure => have := HLI.out; simp [intOf]; omega
            · obtain rfl : t = i := by omega
              have d5 : decide (t < t) = false := by rw [decide_eq_false_iff_not]; omega
              have d8 : (t : Int) < 195 := by have := HLT.out; omega
              have HBY := Lib.hid (show BytesIn (fun k => k < wr.heap.size) wr (.slice (some ⟨gb, 0, none⟩) t t) B ∧ B.length ≤ 1000 from
                ⟨(hB.bytes4 t hBl (by have := HLT.out; unfold maxLen; omega)).mono (fun k hk _ => hk), by have := HLT.out; omega⟩)
              have HE4 := Lib.hid (HG.out.2.keep hfB)
              obtain ⟨s0, s1, s2⟩ := row3_cells HE4.out.sh
              clear hB hBl hfB hi hli hS
              go_upto_region 29 with fail
              change Code.wp _ _ _ _ (five9 wr gb t ((t : Int) % 5) (t : Int) ((t : Int) - 1) ((t : Int) % 6) ((t : Int) % 2))
              obtain ⟨W5, hW5⟩ : ∃ W5, W5 = five9 wr gb t ((t : Int) % 5) (t : Int) ((t : Int) - 1) ((t : Int) % 6) ((t : Int) % 2) := ⟨_, rfl⟩
              have hf5 : Fr (fun _ => False) wr W5 := by rw [hW5]; exact five9_fr _ _ _ _ _ _ _ _
              have HPU := Lib.hid (puts_made wr gb t B HBY.out.1 HBY.out.2 _ _ _ _ _ (by omega) (by unfold IntOk; omega) (by unfold IntOk; omega) (by unfold IntOk; omega) (by unfold IntOk; omega) W5 hW5)
              rw [← hW5]
              clear hW5 s0 s1 s2
              obtain ⟨s0, s1, s2⟩ := row3_cells (HE4.out.keep hf5).sh
              have HF5 := Lib.hid hf5
              clear hf5
              go_wp2_with (go_at_call 4; refine (blobWrites_any _ 1 1 6 _ (by unfold IntOk; omega) _ _ HPU.out).mono ?_; rintro e w8 ⟨rfl, hf8⟩; (have H8 := Lib.hid (HF5.out.trans hf8 (fun _ h => h.elim))); clear hf8)
              go_roundw
              case rel => exact ⟨t + 1 + t % 3 * 20, by have := HLT.out; omega, rfl, by go_num, Lib.hid (HE4.out.keep H8.out)⟩
              case measure => have := HLT.out; simp [intOf]; omega
        · have d2 : decide ((t : Int) < 195) = false := by rw [decide_eq_false_iff_not]; omega
          obtain ⟨s0, s1, s2⟩ := row3_cells hT.out.sh
          have HE5 := Lib.hid hT.out
          clear hT ht hlt
          have b1 : ((1 : Int) == 1) = true := by decide
          go_wp2_with (first
            | (go_at_call 28; refine (bRead_nil _ 1 1 6 0 _).mono ?_; rintro e w2 ⟨rfl, hf2⟩; (have H2 := Lib.hid (HE5.out.keep hf2)); (obtain ⟨s0, s1, s2⟩ := row3_cells H2.out.sh); clear hf2)
            | (go_at_call 24; refine (bWrite_nil _ 1 1 6 _).mono ?_; rintro e w3 ⟨rfl, hf3⟩; (have H3 := Lib.hid (H2.out.keep hf3)); (obtain ⟨s0, s1, s2⟩ := row3_cells H3.out.sh); clear hf3)
            | (go_at_call 3; refine (blobFinds_any _ 0 0 0 0 (by omega) (by omega) _ [] (RnsIn.nil _ _)).mono ?_; rintro e w4 ⟨rfl, hf4⟩; (have H4 := Lib.hid (H3.out.keep hf4)); (obtain ⟨s0, s1, s2⟩ := row3_cells H4.out.sh); clear hf4)
            | (go_at_call 4; refine (blobWrites_any _ 1 1 6 0 (by unfold IntOk; omega) _ _ (puts1 w4)).mono ?_; rintro e w5 ⟨rfl, hf5⟩; (have H5 := Lib.hid (H4.out.keep (((Fr.refl (fun _ => False) w4).alloc _).trans hf5 (fun _ h => h.elim)))); clear hf5)
            | (go_at_call 9; refine (HA.out _).mono ?_; rintro e w6 ⟨rfl, hf6⟩; (have H6 := Lib.hid (H5.out.keep hf6)); clear hf6))
          go_ret
          exact ⟨rfl, H6.out.fr⟩
end Go.Proofs.Ytcbbcihfooaggaa
