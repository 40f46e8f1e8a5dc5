/- Laid together: VEnL -/
import Derived.Test.YtdpaobflknkbkaaVe17
import Derived.Test.YtdpaobflknkbkaaVe34
import Derived.Test.YtdpaobflknkbkaaVe2
import Derived.Test.YtdpaobflknkbkaaVe21
import Derived.Test.YtdpaobflknkbkaaVe23
import Derived.Test.YtdpaobflknkbkaaVe0

namespace Go.Proofs.Ytdpaobflknkbkaa
open Go.RowKit Go.ChangeShapes
set_option linter.unusedVariables false
def xZ : PathX := ⟨List.replicate 20 0, ⟨#[]⟩, rfl⟩
def deC (d : DeedD) : List Value := .int .i64 d.what :: .int .i64 d.who :: .string d.name :: (cellsX d.p ++ [d.xv])
theorem deC_len (d : DeedD) : (deC d).length = 25 := by simp [deC, cellsX_length]
theorem DeedsIn.mono {F G : Nat → Prop} {w : World} {v : Value} {l : List DeedD} (h : DeedsIn F w v l) (hd : ∀ k, k < w.heap.size → F k → G k) : DeedsIn G w v l := by
  obtain ⟨ao, cap, hv, h1, h2, h4⟩ := h
  refine ⟨ao, cap, hv, h1, h2, fun hl => ?_⟩
  obtain ⟨b, off, ha, hi⟩ := h4 hl
  refine ⟨b, off, ha, fun i h => ?_⟩
  have hq := hi i h
  exact ⟨hq.what, hq.who, hq.nm, hq.pa, hq.cv, hq.bytes.mono hd, hd b (World.block_lt_of_cell? _ _ hq.what) hq.in_, hq.wf, hq.fit⟩
theorem DeedsIn.quiet {F : Nat → Prop} {w w' : World} {v : Value} {l : List DeedD} (h : DeedsIn F w v l) (hf : Fr (fun _ => False) w w') : DeedsIn F w' v l := h.keep hf (fun _ _ _ h => h)
def DeedOk (F : Nat → Prop) (w : World) (d : DeedD) : Prop := BytesIn F w d.xv d.V ∧ (IntOk d.what ∧ IntOk d.who) ∧ (d.name.size ≤ 140737488351232 ∧ d.p.n.size ≤ 140737488351232 ∧ d.V.length ≤ 140737488351232)
theorem DeedOk.bare (F : Nat → Prop) (w : World) (a b : Int) (N : ByteArray) (p : PathX) (ha : IntOk a) (hb : IntOk b) (hN : N.size ≤ 140737488351232) (hp : p.n.size ≤ 140737488351232) : DeedOk F w ⟨a, b, N, p, .slice none 0 0, []⟩ := ⟨BytesIn.nil _ _, ⟨ha, hb⟩, hN, hp, Nat.zero_le _⟩
theorem deeds_made {F : Nat → Prop} {w : World} {g : Nat} {T : TypeId} (L : List DeedD) (n : Nat) (hn : n = L.length) (hL : n ≤ 1000) (h : w.heap[g]? = some (.cells (L.map deC).flatten.toArray T (0, 0))) (hg : F g) (hb : ∀ d ∈ L, DeedOk F w d) : DeedsIn F w (.slice (some ⟨g, 0, none⟩) n n) L := by
  subst hn
  refine ⟨_, _, rfl, Nat.le_refl _, by omega, fun _ => ⟨g, 0, rfl, fun i hi => ?_⟩⟩
  obtain ⟨h1, h2, h3⟩ := hb _ (List.getElem_mem hi)
  have hc : ∀ j, j < 25 → w.cell? ⟨g, 0 + i * 25 + j, none⟩ = (deC L[i])[j]? := fun j hj => by
    have hfl := flat_get (L.map deC) (fun c hc => by
      obtain ⟨d, _, rfl⟩ := List.mem_map.1 hc
      exact deC_len d) i (by simpa using hi) j hj
    rw [cell_of_row _ _ _ _ _ _ h, Nat.zero_add, List.getElem?_toArray, hfl, List.getElem_map]
  refine ⟨?_, ?_, ?_, fun j u hu => ?_, ?_, h1, hg, h2, h3⟩
  · have := hc 0 (by decide); simpa [deC] using this
  · have := hc 1 (by decide); simpa [deC] using this
  · have := hc 2 (by decide); simpa [deC] using this
  · have hj : j < 21 := by
      have := (List.getElem?_eq_some_iff.1 hu).1
      rwa [cellsX_length] at this
    have := hc (3 + j) (by omega)
    rw [Nat.add_assoc (0 + i * 25) 3 j, this, show 3 + j = j + 3 from Nat.add_comm _ _]
    show (cellsX L[i].p ++ [L[i].xv])[j]? = some u
    rw [List.getElem?_append_left (by rw [cellsX_length]; exact hj)]
    exact hu
  · have := hc 24 (by decide)
    rw [this]
    show (cellsX L[i].p ++ [L[i].xv])[21]? = some L[i].xv
    rw [List.getElem?_append_right (by rw [cellsX_length]; exact Nat.le_refl _), cellsX_length]
    rfl
theorem run_cut_str (w : World) (S : ByteArray) (n : Nat) (h : n ≤ S.size) : (Instr.sliceAt 9 (.string S) none (some (.int .i64 (n : Nat))) none).run Try.prog w = .ok (.string (S.extract 0 n)) w := by
  simp [Instr.sliceAt, Instr.slice, run_underlying Try.underlying9, Instr.sliceBounds, Instr.sliceBound, go_sem, h]
theorem cut_size (S : ByteArray) (n : Nat) (h : S.size ≤ 1000) : (S.extract 0 n).size ≤ 140737488351232 := by
  have : (S.extract 0 n).size ≤ S.size := by
    rw [ByteArray.size_extract]
    omega
  omega
def two14 : List DeedD := [⟨0, 1, ⟨#[97]⟩, xP, .slice none 0 0, []⟩, ⟨3, 2, ⟨#[107]⟩, xZ, .slice none 0 0, []⟩]
def ten14 (n m : Int) : List DeedD := [⟨0, n, ⟨#[97]⟩, xP, .slice none 0 0, []⟩, ⟨0, m, ⟨#[]⟩, xP, .slice none 0 0, []⟩, ⟨0, n, ⟨#[98]⟩, xZ, .slice none 0 0, []⟩, ⟨0, 1, ⟨#[99]⟩, xQ, .slice none 0 0, []⟩, ⟨0, 1, ⟨#[98]⟩, xQ, .slice none 0 0, []⟩, ⟨0, 1, ⟨#[97]⟩, xQ, .slice none 0 0, []⟩, ⟨0, 1, ⟨#[100]⟩, xQ, .slice none 0 0, []⟩, ⟨2, 1, ⟨#[98]⟩, xZ, .slice none 0 0, []⟩, ⟨2, 1, ⟨#[98]⟩, xZ, .slice none 0 0, []⟩, ⟨0, 1, ⟨#[100]⟩, xQ, .slice none 0 0, []⟩]
def z20 : List UInt8 := List.replicate 2048 0
def z21 : List UInt8 := List.replicate 2049 0
def eight14 (N : ByteArray) (a b c : Nat) : List DeedD := [⟨3, 1, N, xZ, .slice (some ⟨a, 0, none⟩) 2048 2048, z20⟩, ⟨3, 1, ⟨#[120]⟩, xZ, .slice (some ⟨b, 0, none⟩) 2049 2049, z21⟩, ⟨4, 1, ⟨#[120]⟩, xZ, .slice none 0 0, []⟩, ⟨4, 1, ⟨#[120]⟩, xZ, .slice (some ⟨c, 0, none⟩) 1 1, [1]⟩, ⟨3, 1, ⟨#[121]⟩, xZ, .slice none 0 0, []⟩, ⟨5, 1, ⟨#[120]⟩, xZ, .slice none 0 0, []⟩, ⟨5, 1, ⟨#[120]⟩, xZ, .slice none 0 0, []⟩, ⟨3, 1, ⟨#[121]⟩, xZ, .slice none 0 0, []⟩]
theorem z20_len : z20.length = 2048 := List.length_replicate
theorem z21_len : z21.length = 2049 := List.length_replicate
def deA (d : DeedD) : Array Value := (deC d).toArray
set_option maxRecDepth 100000 in
theorem b_12 (who : Int) (N : ByteArray) : Try.prog.built 46 [(1, Value.int .i64 who), (2, .string N)]  = some (deA ⟨0, who, N, xZ, .slice none 0 0, []⟩) := by kernel_rfl
set_option maxRecDepth 100000 in
theorem b_123p (who : Int) (N : ByteArray) : Try.prog.built 46 [(1, Value.int .i64 who), (2, .string N), (3, .agg pL)]  = some (deA ⟨0, who, N, xP, .slice none 0 0, []⟩) := by kernel_rfl
set_option maxRecDepth 100000 in
theorem b_123q (who : Int) (N : ByteArray) : Try.prog.built 46 [(1, Value.int .i64 who), (2, .string N), (3, .agg qL)]  = some (deA ⟨0, who, N, xQ, .slice none 0 0, []⟩) := by kernel_rfl
set_option maxRecDepth 100000 in
theorem b_012 (what who : Int) (N : ByteArray) : Try.prog.built 46 [(0, Value.int .i64 what), (1, .int .i64 who), (2, .string N)]  = some (deA ⟨what, who, N, xZ, .slice none 0 0, []⟩) := by kernel_rfl
set_option maxRecDepth 100000 in
theorem b_0124 (what who : Int) (N : ByteArray) (g n c : Nat) (V : List UInt8) : Try.prog.built 46 [(0, Value.int .i64 what), (1, .int .i64 who), (2, .string N), (4, .slice (some ⟨g, 0, none⟩) n c)]  = some (deA ⟨what, who, N, xZ, .slice (some ⟨g, 0, none⟩) n c, V⟩) := by kernel_rfl
set_option maxRecDepth 100000 in
theorem run_two14 (w : World) : (Instr.buildSlice 23 2 #[(0, .agg (deA ⟨0, 1, ⟨#[97]⟩, xP, .slice none 0 0, []⟩)), (1, .agg (deA ⟨3, 2, ⟨#[107]⟩, xZ, .slice none 0 0, []⟩))]).run Try.prog w = .ok (.slice (some ⟨w.heap.size, 0, none⟩) 2 2) (w.alloc (.cells (two14.map deC).flatten.toArray 46)) := by kernel_rfl
set_option maxRecDepth 100000 in
theorem run_ten14 (w : World) (n m : Int) : (Instr.buildSlice 23 10 #[(0, .agg (deA ⟨0, n, ⟨#[97]⟩, xP, .slice none 0 0, []⟩)), (1, .agg (deA ⟨0, m, ⟨#[]⟩, xP, .slice none 0 0, []⟩)), (2, .agg (deA ⟨0, n, ⟨#[98]⟩, xZ, .slice none 0 0, []⟩)), (3, .agg (deA ⟨0, 1, ⟨#[99]⟩, xQ, .slice none 0 0, []⟩)), (4, .agg (deA ⟨0, 1, ⟨#[98]⟩, xQ, .slice none 0 0, []⟩)), (5, .agg (deA ⟨0, 1, ⟨#[97]⟩, xQ, .slice none 0 0, []⟩)), (6, .agg (deA ⟨0, 1, ⟨#[100]⟩, xQ, .slice none 0 0, []⟩)), (7, .agg (deA ⟨2, 1, ⟨#[98]⟩, xZ, .slice none 0 0, []⟩)), (8, .agg (deA ⟨2, 1, ⟨#[98]⟩, xZ, .slice none 0 0, []⟩)), (9, .agg (deA ⟨0, 1, ⟨#[100]⟩, xQ, .slice none 0 0, []⟩))]).run Try.prog w = .ok (.slice (some ⟨w.heap.size, 0, none⟩) 10 10) (w.alloc (.cells ((ten14 n m).map deC).flatten.toArray 46)) := by kernel_rfl
set_option maxRecDepth 100000 in
theorem run_eight14 (w : World) (N : ByteArray) (a b c : Nat) : (Instr.buildSlice 23 8 #[(0, .agg (deA ⟨3, 1, N, xZ, .slice (some ⟨a, 0, none⟩) 2048 2048, z20⟩)), (1, .agg (deA ⟨3, 1, ⟨#[120]⟩, xZ, .slice (some ⟨b, 0, none⟩) 2049 2049, z21⟩)), (2, .agg (deA ⟨4, 1, ⟨#[120]⟩, xZ, .slice none 0 0, []⟩)), (3, .agg (deA ⟨4, 1, ⟨#[120]⟩, xZ, .slice (some ⟨c, 0, none⟩) 1 1, [1]⟩)), (4, .agg (deA ⟨3, 1, ⟨#[121]⟩, xZ, .slice none 0 0, []⟩)), (5, .agg (deA ⟨5, 1, ⟨#[120]⟩, xZ, .slice none 0 0, []⟩)), (6, .agg (deA ⟨5, 1, ⟨#[120]⟩, xZ, .slice none 0 0, []⟩)), (7, .agg (deA ⟨3, 1, ⟨#[121]⟩, xZ, .slice none 0 0, []⟩))]).run Try.prog w = .ok (.slice (some ⟨w.heap.size, 0, none⟩) 8 8) (w.alloc (.cells ((eight14 N a b c).map deC).flatten.toArray 46)) := by kernel_rfl
theorem two14_ok (F : Nat → Prop) (w : World) : ∀ d ∈ two14, DeedOk F w d := by
  intro d hd
  simp only [two14, List.mem_cons, List.not_mem_nil, or_false] at hd
  have i1 : ∀ n : Int, 0 ≤ n → n ≤ 10 → IntOk n := fun n h1 h2 => ⟨by omega, by omega⟩
  rcases hd with rfl | rfl
  · exact DeedOk.bare _ _ _ _ _ _ (i1 _ (by decide) (by decide)) (i1 _ (by decide) (by decide)) (by decide) (by decide)
  · exact DeedOk.bare _ _ _ _ _ _ (i1 _ (by decide) (by decide)) (i1 _ (by decide) (by decide)) (by decide) (by decide)
theorem ten14_ok (F : Nat → Prop) (w : World) (n m : Int) (hn : IntOk n) (hm : IntOk m) : ∀ d ∈ ten14 n m, DeedOk F w d := by
  intro d hd
  simp only [ten14, List.mem_cons, List.not_mem_nil, or_false] at hd
  have i1 : ∀ n : Int, 0 ≤ n → n ≤ 10 → IntOk n := fun n h1 h2 => ⟨by omega, by omega⟩
  have i2 := i1 0 (by decide) (by decide)
  have i3 := i1 1 (by decide) (by decide)
  have i4 := i1 2 (by decide) (by decide)
  rcases hd with rfl | rfl | rfl | rfl | rfl | rfl | rfl | rfl | rfl | rfl
  all_goals exact DeedOk.bare _ _ _ _ _ _ (by assumption) (by assumption) (by decide) (by decide)
theorem eight14_ok (F : Nat → Prop) (w : World) (N : ByteArray) (hN : N.size ≤ 140737488351232) (a b c : Nat) (ha : BytesIn F w (.slice (some ⟨a, 0, none⟩) 2048 2048) z20) (hb : BytesIn F w (.slice (some ⟨b, 0, none⟩) 2049 2049) z21) (hc : BytesIn F w (.slice (some ⟨c, 0, none⟩) 1 1) [1]) : ∀ d ∈ eight14 N a b c, DeedOk F w d := by
  intro d hd
  simp only [eight14, List.mem_cons, List.not_mem_nil, or_false] at hd
  have i1 : ∀ n : Int, 0 ≤ n → n ≤ 10 → IntOk n := fun n h1 h2 => ⟨by omega, by omega⟩
  have i3 := i1 1 (by decide) (by decide)
  have i5 := i1 3 (by decide) (by decide)
  have i6 := i1 4 (by decide) (by decide)
  have i7 := i1 5 (by decide) (by decide)
  have s0 : xZ.n.size ≤ 140737488351232 := by decide
  have s1 : (⟨#[120]⟩ : ByteArray).size ≤ 140737488351232 := by decide
  have s2 : ([1] : List UInt8).length ≤ 140737488351232 := by decide
  rcases hd with rfl | rfl | rfl | rfl | rfl | rfl | rfl | rfl
  · exact ⟨ha, ⟨i5, i3⟩, hN, s0, by rw [show (z20 : List UInt8).length = 2048 from z20_len]; omega⟩
  · exact ⟨hb, ⟨i5, i3⟩, s1, s0, by rw [show (z21 : List UInt8).length = 2049 from z21_len]; omega⟩
  · exact DeedOk.bare _ _ _ _ _ _ i6 i3 (by decide) (by decide)
  · exact ⟨hc, ⟨i6, i3⟩, s1, s0, s2⟩
  · exact DeedOk.bare _ _ _ _ _ _ i5 i3 (by decide) (by decide)
  · exact DeedOk.bare _ _ _ _ _ _ i7 i3 (by decide) (by decide)
  · exact DeedOk.bare _ _ _ _ _ _ i7 i3 (by decide) (by decide)
  · exact DeedOk.bare _ _ _ _ _ _ i5 i3 (by decide) (by decide)
theorem qs_made {w : World} {g : Nat} {T : TypeId} (L : List Qt) (n : Nat) (hn : n = L.length) (hL : n ≤ 1000) (h : w.heap[g]? = some (.cells (L.map qC).flatten.toArray T (0, 0))) : QsIn (fun k => k < w.heap.size) w (.slice (some ⟨g, 0, none⟩) n n) L := by
  subst hn
  have hl : (L.map qC).length = L.length := by simp
  refine ⟨some ⟨g, 0, none⟩, L.length, by rw [hl], by rw [hl]; exact Nat.le_refl _, by omega, (fun c hc => qC_len L c hc), fun _ => ⟨g, 0, rfl, lt_of_block h, fun i hi j hj => ?_⟩⟩
  rw [cell_of_row _ _ _ _ _ _ h, Nat.zero_add, List.getElem?_toArray]
  exact flat_get (L.map qC) (qC_len L) i hi j hj
theorem run_q1 (w : World) (a b c d : Int) : (Instr.buildSlice 22 1 #[(0, .agg #[.int .i64 a, .int .i64 b, .int .i64 c, .int .i64 d])]).run Try.prog w = .ok (.slice (some ⟨w.heap.size, 0, none⟩) 1 1) (w.alloc (.cells (([⟨a, b, c, d⟩] : List Qt).map qC).flatten.toArray 38)) := by kernel_rfl
theorem run_q2 (w : World) (a b c d e f g h : Int) : (Instr.buildSlice 22 2 #[(0, .agg #[.int .i64 a, .int .i64 b, .int .i64 c, .int .i64 d]), (1, .agg #[.int .i64 e, .int .i64 f, .int .i64 g, .int .i64 h])]).run Try.prog w = .ok (.slice (some ⟨w.heap.size, 0, none⟩) 2 2) (w.alloc (.cells (([⟨a, b, c, d⟩, ⟨e, f, g, h⟩] : List Qt).map qC).flatten.toArray 38)) := by kernel_rfl
end Go.Proofs.Ytdpaobflknkbkaa
