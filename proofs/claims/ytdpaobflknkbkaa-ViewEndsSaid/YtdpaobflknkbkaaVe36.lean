/- Laid together: VEnds -/
import Derived.Test.YtdpaobflknkbkaaVe22
import Derived.Test.YtdpaobflknkbkaaVe35
import Derived.Deep.DeepCutAuto
import Derived.Deep.CutBlock

namespace Go.Proofs.Ytdpaobflknkbkaa
open Go.RowKit Go.ChangeShapes
set_option linter.unusedVariables false
def ends14 : List Int := [-9223372036854775808, -1, 0, 1, 100, 101, 150, 151, 400, 401, 614400, 614401]
theorem ends14_ok (i : Nat) (h : i < 12) : ∃ x, ends14[i]? = some x := by
  rw [List.getElem?_eq_getElem (show i < ends14.length from h)]
  exact ⟨_, rfl⟩
structure En14 (w W : World) (be : Nat) : Prop where
  fr : Fr (fun _ => False) w W
  en : W.heap[be]? = some (.cells ((ends14.map (fun x => Value.int .i64 x)).toArray) 3 (0, 0))
theorem En14.keep {w W W' : World} {be : Nat} (h : En14 w W be) (hf : Fr (fun _ => False) W W') : En14 w W' be := ⟨h.fr.trans hf (fun _ h => h.elim), hf.heap h.en id⟩
theorem En14.cell {w W : World} {be : Nat} (h : En14 w W be) (i : Nat) (x : Int) (hx : ends14[i]? = some x) : W.cell? ⟨be, i, none⟩ = some (.int .i64 x) := by
  rw [cell_of_row _ _ _ _ _ _ h.en]
  simp [hx]
theorem run_index_int14 (w : World) (b i : Nat) (h : i < 12) : (Instr.indexAt 56 (.slice (some ⟨b, 0, none⟩) 12 12) (.int .i64 ((i : Nat) : Int))).run Try.prog w = .ok (.pointer (some ⟨b, i, none⟩)) w := by
  have hs : ∀ w, (sizeOf 3).run Try.prog w = .ok 1 w := fun w => by kernel_rfl
  simp [Instr.indexAt, h, Addr.add, asIntOf, run_underlying Try.underlying56, hs]
  omega
theorem load_int14 (w : World) (p : Addr) (v : Value) (h : w.cell? p = some v) : (Instr.loadAt 3 (.pointer (some p))).run Try.prog w = .ok v w := load_one5 w _ p v (by kernel_rfl) h
theorem BytT.bytes14 {w : World} {g : Nat} {T : TypeId} {L : List UInt8} (h : BytT w g T L) (m : Nat) (hm : L.length = m) (hl : m ≤ maxLen) : BytesIn (fun k => k = g) w (.slice (some ⟨g, 0, none⟩) m m) L := by
  subst hm
  refine ⟨_, L.length, rfl, Nat.le_refl _, hl, (fun h => by cases h), fun p hp => ?_⟩
  cases hp
  refine ⟨fun j u hu => ?_, fun _ => rfl⟩
  rw [addr_plain, Nat.zero_add, cell_of_row _ _ _ _ _ _ h]
  simpa using hu
theorem rem_nat3 (w : World) (n : Nat) : (binOp .rem 3 (.int .i64 (n : Nat)) (.int .i64 3)).run Try.prog w = .ok (.int .i64 ((n % 3 : Nat) : Int)) w := by
  rw [binOp_rem]
  have h : ((n : Nat) : Int).tmod 3 = ((n % 3 : Nat) : Int) := by rw [Int.tmod_eq_emod_of_nonneg (by omega)]; omega
  simp [Op.intDiv, h, go_sem]
theorem rem_nat12 (w : World) (n : Nat) : (binOp .rem 3 (.int .i64 (n : Nat)) (.int .i64 12)).run Try.prog w = .ok (.int .i64 ((n % 12 : Nat) : Int)) w := by
  rw [binOp_rem]
  have h : ((n : Nat) : Int).tmod 12 = ((n % 12 : Nat) : Int) := by rw [Int.tmod_eq_emod_of_nonneg (by omega)]; omega
  simp [Op.intDiv, h, go_sem]
theorem op_bSh (o : Oper) (a : Act) (w : World) (p q : Int) (h : o.op = .build 51 #[(0, .const (.int .i64 1)), (1, .const (.int .i64 p)), (2, .const (.int .i64 q))]) : (execOp a.eval o).run Try.prog w = .ok (.value (.agg #[.int .i64 1, .int .i64 p, .int .i64 q])) w := by
  unfold execOp
  rw [h]
  kernel_rfl
theorem ent_Fits14 (args : Array Value) (w : World) : (callFunc 4 args).run Try.prog w = .ok (.enter 4 args) w := by kernel_rfl
theorem ent_Does14 (args : Array Value) (w : World) : (callFunc 3 args).run Try.prog w = .ok (.enter 3 args) w := by kernel_rfl
theorem op_make14 {P : Program} {w w' : World} {o : Oper} {a : Act} {t : TypeId} {x y : Operand} {vx vy v : Value} (ho : o.op = .makeSlice t x y) (hx : a.eval x = vx) (hy : a.eval y = vy) (hr : (Instr.makeSlice t vx vy).run P w = .ok v w') : (execOp a.eval o).run P w = .ok (.value v) w' := by
  unfold execOp
  rw [ho]
  simp only [hx, hy, Sem.run_bind, hr, Result.andThen_ok]
  rfl
theorem run_one14 (w : World) : (Instr.buildSlice 44 1 #[(0, .int .u8 1)]).run Try.prog w = .ok (.slice (some ⟨w.heap.size, 0, none⟩) 1 1) (w.alloc (.cells (([1] : List UInt8).map bv).toArray 5)) := by kernel_rfl
theorem up9 {W : World} {o : Obj} {v : Value} {L : List UInt8} (h : BytesIn (fun k => k < W.heap.size) W v L) : BytesIn (fun k => k < (W.alloc o).heap.size) (W.alloc o) v L :=
  (h.keep ((Fr.refl (fun _ => False) W).alloc o) (fun _ _ _ h => h)).mono (fun k hk _ => hk)
def q640 : Qt := ⟨640, 2, 3, 1⟩
theorem q640_one (w : World) : (Instr.buildSlice 22 1 #[(0, .agg (qC q640).toArray)]).run Try.prog w = .ok (.slice (some ⟨w.heap.size, 0, none⟩) 1 1) (w.alloc (.cells (qC q640).toArray 38)) := by kernel_rfl
theorem q640_z : (Value.agg #[Value.int .i64 0, .int .i64 0, .int .i64 0, .int .i64 0]).cells.size = 4 := by kernel_rfl
theorem q640_c1 : ∀ u ∈ qC q640, u.oneCell' = true := by
  intro u hu
  simp only [qC, q640, List.mem_cons, List.not_mem_nil, or_false] at hu
  rcases hu with rfl | rfl | rfl | rfl <;> rfl
theorem q640_qs {z k : Nat} {w : World} {v : Value} (h : OwnE 38 4 z w v (List.replicate k (qC q640))) : QsIn (fun b => b < w.heap.size) w v (List.replicate k q640) := by
  have h2 := OwnE.elems h
  unfold QsIn
  rw [List.map_replicate]
  exact h2.mono (by decide) (fun b hb _ => hb)
theorem wpList_build14 {ops : Array Oper} {rest : List Oper} {o : Oper} {a : Act} {w : World} {Q : Exit → Act → World → Prop} {t : TypeId} (ps : Array (Nat × Operand)) (vs : List (Nat × Value)) {cells : Array Value} (hgd : o.guard = none) (ho : o.op = .build t ps)
    (hp : (ps.map fun x => (x.1, a.eval x.2)).toList = vs) (hc : Try.prog.built t vs = some cells) (h : wpList Try.prog ops Q rest (a.put o.dst (.agg cells)) w) : wpList Try.prog ops Q (o :: rest) a w :=
  Go.Proofs.Ytdpaobflknkbkaa.wpList_value hgd (.agg cells) w (op_build ho rfl (by rw [hp]; exact hc)) h
theorem wpList_rows14 {ops : Array Oper} {rest : List Oper} {o : Oper} {a : Act} {w w' : World} {Q : Exit → Act → World → Prop} {t : TypeId} {n : Nat} (ps : Array (Nat × Operand)) (vs : Array (Nat × Value)) {v : Value} (hgd : o.guard = none) (ho : o.op = .buildSlice t n ps)
    (hp : (ps.map fun x => (x.1, a.eval x.2)) = vs) (hr : (Instr.buildSlice t n vs).run Try.prog w = .ok v w') (h : wpList Try.prog ops Q rest (a.put o.dst v) w') : wpList Try.prog ops Q (o :: rest) a w :=
  Go.Proofs.Ytdpaobflknkbkaa.wpList_value hgd v w' (op_rows ho hp hr) h
theorem op_conv14 {P : Program} {w : World} {o : Oper} {a : Act} {s t : TypeId} {x : Operand} {vx v : Value} (ho : o.op = .convert s t x) (hx : a.eval x = vx) (hr : (convert s t vx).run P w = .ok v w) : (execOp a.eval o).run P w = .ok (.value v) w := by
  unfold execOp
  rw [ho]
  simp only [hx, Sem.run_bind, hr, Result.andThen_ok]
  rfl
def z63 : List UInt8 := List.replicate 63 0
def VeR (be g3 g4 n7 : Nat) (a9 b9 : Int) (i : Nat) (v : Value) (W : World) : Prop :=
  match i with
  | 0 => v = .agg #[.int .i64 1, .int .i64 4000, .int .i64 100]
  | 1 => v = .agg #[.int .i64 0, .int .i64 a9, .int .i64 b9, .int .i64 0]
  | 2 => ∃ gi, v = .slice (some ⟨gi, 0, none⟩) 1 1 ∧ QsIn (fun k => k < W.heap.size) W (.slice (some ⟨gi, 0, none⟩) 1 1) [⟨0, a9, b9, 0⟩]
  | 3 => v = .bool true
  | 4 => v = .bool false
  | 5 => v = .bool false
  | 6 => v = .agg #[.int .i64 1, .int .i64 10, .int .i64 8000]
  | 7 => v = .agg #[.int .i64 a9, .int .i64 0, .int .i64 0, .int .i64 b9]
  | 8 => ∃ gi, v = .slice (some ⟨gi, 0, none⟩) 1 1 ∧ QsIn (fun k => k < W.heap.size) W (.slice (some ⟨gi, 0, none⟩) 1 1) [⟨a9, 0, 0, b9⟩]
  | 9 => v = .bool true
  | 10 => v = .bool false
  | 11 => v = .bool false
  | 12 => v = .bool false
  | 13 => v = .agg #[.int .i64 0, .int .i64 a9, .int .i64 b9, .int .i64 0]
  | 14 => v = .agg #[.int .i64 a9, .int .i64 0, .int .i64 0, .int .i64 b9]
  | 15 => ∃ gi, v = .slice (some ⟨gi, 0, none⟩) 2 2 ∧ QsIn (fun k => k < W.heap.size) W (.slice (some ⟨gi, 0, none⟩) 2 2) [⟨0, a9, b9, 0⟩, ⟨a9, 0, 0, b9⟩]
  | 16 => v = .agg pL
  | 17 => v = .agg (deA ⟨0, 1, ⟨#[97]⟩, xP, .slice none 0 0, []⟩)
  | 18 => v = .agg (deA ⟨3, 2, ⟨#[107]⟩, xZ, .slice none 0 0, []⟩)
  | 19 => ∃ gi, v = .slice (some ⟨gi, 0, none⟩) 2 2 ∧ DeedsIn (fun k => k < W.heap.size) W (.slice (some ⟨gi, 0, none⟩) 2 2) two14
  | 20 => v = .int .i64 (n7 : Nat)
  | 21 => v = .int .i64 ((n7 % 3 : Nat) : Int)
  | 22 => v = .slice (some ⟨be, 0, none⟩) 12 12
  | 23 => v = .int .i64 (n7 : Nat)
  | 24 => v = .int .i64 ((n7 % 12 : Nat) : Int)
  | 25 => v = .pointer (some ⟨be, n7 % 12, none⟩)
  | 26 => v = .int .i64 a9
  | 27 => v = .bool true
  | 28 => v = .bool false
  | _ => True
theorem VeR.ext (be g3 g4 n7 : Nat) (a9 b9 : Int) : ∀ (j : Nat) (u : Value) (W W' : World), Fr (fun _ => False) W W' → VeR be g3 g4 n7 a9 b9 j u W → VeR be g3 g4 n7 a9 b9 j u W'
  | 0, u, W, W', hf, h => h
  | 1, u, W, W', hf, h => h
  | 2, u, W, W', hf, h => (let ⟨gi, h1, h2⟩ := h; ⟨gi, h1, (h2.quiet hf).mono (fun k hk _ => hk)⟩)
  | 3, u, W, W', hf, h => h
  | 4, u, W, W', hf, h => h
  | 5, u, W, W', hf, h => h
  | 6, u, W, W', hf, h => h
  | 7, u, W, W', hf, h => h
  | 8, u, W, W', hf, h => (let ⟨gi, h1, h2⟩ := h; ⟨gi, h1, (h2.quiet hf).mono (fun k hk _ => hk)⟩)
  | 9, u, W, W', hf, h => h
  | 10, u, W, W', hf, h => h
  | 11, u, W, W', hf, h => h
  | 12, u, W, W', hf, h => h
  | 13, u, W, W', hf, h => h
  | 14, u, W, W', hf, h => h
  | 15, u, W, W', hf, h => (let ⟨gi, h1, h2⟩ := h; ⟨gi, h1, (h2.quiet hf).mono (fun k hk _ => hk)⟩)
  | 16, u, W, W', hf, h => h
  | 17, u, W, W', hf, h => h
  | 18, u, W, W', hf, h => h
  | 19, u, W, W', hf, h => (let ⟨gi, h1, h2⟩ := h; ⟨gi, h1, (h2.quiet hf).mono (fun k hk _ => hk)⟩)
  | 20, u, W, W', hf, h => h
  | 21, u, W, W', hf, h => h
  | 22, u, W, W', hf, h => h
  | 23, u, W, W', hf, h => h
  | 24, u, W, W', hf, h => h
  | 25, u, W, W', hf, h => h
  | 26, u, W, W', hf, h => h
  | 27, u, W, W', hf, h => h
  | 28, u, W, W', hf, h => h
  | _ + 29, u, W, W', hf, h => trivial
def VeK (n7 : Nat) (K : ByteArray) (i : Nat) (v : Value) (W : World) : Prop :=
  match i with
  | 0 => v = .string K
  | 1 => v = .int .i64 (n7 : Nat)
  | 2 => v = .string (K.extract 0 n7)
  | 3 => ∃ gi, v = .slice (some ⟨gi, 0, none⟩) 2048 2048 ∧ BytesIn (fun k => k < W.heap.size) W (.slice (some ⟨gi, 0, none⟩) 2048 2048) z20
  | 4 => ∃ gi, v = .agg (deA ⟨3, 1, (K.extract 0 n7), xZ, .slice (some ⟨gi, 0, none⟩) 2048 2048, z20⟩) ∧ BytesIn (fun k => k < W.heap.size) W (.slice (some ⟨gi, 0, none⟩) 2048 2048) z20
  | 5 => ∃ gi, v = .slice (some ⟨gi, 0, none⟩) 2049 2049 ∧ BytesIn (fun k => k < W.heap.size) W (.slice (some ⟨gi, 0, none⟩) 2049 2049) z21
  | 6 => ∃ gi, v = .agg (deA ⟨3, 1, ⟨#[120]⟩, xZ, .slice (some ⟨gi, 0, none⟩) 2049 2049, z21⟩) ∧ BytesIn (fun k => k < W.heap.size) W (.slice (some ⟨gi, 0, none⟩) 2049 2049) z21
  | 7 => v = .agg (deA ⟨4, 1, ⟨#[120]⟩, xZ, .slice none 0 0, []⟩)
  | 8 => ∃ gi, v = .slice (some ⟨gi, 0, none⟩) 1 1 ∧ BytesIn (fun k => k < W.heap.size) W (.slice (some ⟨gi, 0, none⟩) 1 1) [1]
  | 9 => ∃ gi, v = .agg (deA ⟨4, 1, ⟨#[120]⟩, xZ, .slice (some ⟨gi, 0, none⟩) 1 1, [1]⟩) ∧ BytesIn (fun k => k < W.heap.size) W (.slice (some ⟨gi, 0, none⟩) 1 1) [1]
  | 10 => v = .agg (deA ⟨3, 1, ⟨#[121]⟩, xZ, .slice none 0 0, []⟩)
  | 11 => v = .agg (deA ⟨5, 1, ⟨#[120]⟩, xZ, .slice none 0 0, []⟩)
  | 12 => v = .agg (deA ⟨5, 1, ⟨#[120]⟩, xZ, .slice none 0 0, []⟩)
  | 13 => v = .agg (deA ⟨3, 1, ⟨#[121]⟩, xZ, .slice none 0 0, []⟩)
  | 14 => ∃ gi L, v = .slice (some ⟨gi, 0, none⟩) 8 8 ∧ DeedsIn (fun k => k < W.heap.size) W (.slice (some ⟨gi, 0, none⟩) 8 8) L
  | _ => True
theorem VeK.ext (n7 : Nat) (K : ByteArray) : ∀ (j : Nat) (u : Value) (W W' : World), Fr (fun _ => False) W W' → VeK n7 K j u W → VeK n7 K j u W'
  | 0, u, W, W', hf, h => h
  | 1, u, W, W', hf, h => h
  | 2, u, W, W', hf, h => h
  | 3, u, W, W', hf, h => (let ⟨gi, h1, h2⟩ := h; ⟨gi, h1, (h2.keep hf (fun _ _ _ h => h)).mono (fun k hk _ => hk)⟩)
  | 4, u, W, W', hf, h => (let ⟨gi, h1, h2⟩ := h; ⟨gi, h1, (h2.keep hf (fun _ _ _ h => h)).mono (fun k hk _ => hk)⟩)
  | 5, u, W, W', hf, h => (let ⟨gi, h1, h2⟩ := h; ⟨gi, h1, (h2.keep hf (fun _ _ _ h => h)).mono (fun k hk _ => hk)⟩)
  | 6, u, W, W', hf, h => (let ⟨gi, h1, h2⟩ := h; ⟨gi, h1, (h2.keep hf (fun _ _ _ h => h)).mono (fun k hk _ => hk)⟩)
  | 7, u, W, W', hf, h => h
  | 8, u, W, W', hf, h => (let ⟨gi, h1, h2⟩ := h; ⟨gi, h1, (h2.keep hf (fun _ _ _ h => h)).mono (fun k hk _ => hk)⟩)
  | 9, u, W, W', hf, h => (let ⟨gi, h1, h2⟩ := h; ⟨gi, h1, (h2.keep hf (fun _ _ _ h => h)).mono (fun k hk _ => hk)⟩)
  | 10, u, W, W', hf, h => h
  | 11, u, W, W', hf, h => h
  | 12, u, W, W', hf, h => h
  | 13, u, W, W', hf, h => h
  | 14, u, W, W', hf, h => (let ⟨gi, L, h1, h2⟩ := h; ⟨gi, L, h1, (h2.quiet hf).mono (fun k hk _ => hk)⟩)
  | _ + 15, u, W, W', hf, h => trivial
set_option maxRecDepth 100000 in
set_option maxHeartbeats 8000000 in
theorem viewEnds_any (w : World) :
    Calls Try.prog 5 #[] w fun e w' => e = .returned (.bool true) ∧ Fr (fun _ => False) w w' := by
  obtain ⟨be, hbe⟩ : ∃ be, be = w.heap.size := ⟨_, rfl⟩
  obtain ⟨W2, hW2⟩ : ∃ W2, W2 = w.alloc (.cells #[.int .i64 (-9223372036854775808), .int .i64 (-1), .int .i64 0, .int .i64 1, .int .i64 100, .int .i64 101, .int .i64 150, .int .i64 151, .int .i64 400, .int .i64 401, .int .i64 614400, .int .i64 614401] 3) := ⟨_, rfl⟩
  have HE := Lib.hid (show En14 w W2 be by
    rw [hW2, hbe]
    exact ⟨(Fr.refl _ _).alloc _, heap_alloc_new w _⟩)
  have HW := Lib.hid (And.intro hW2 hbe)
  clear hW2 hbe
  go_enter Try.func5, Try.ntmps5
  go_wp2_with fail
  rw [← HW.out.1, ← HW.out.2]
  go_loopw [0, 2] (fun rv iv wr => ∃ n : Nat, n ≤ 144 ∧ rv = .bool false ∧ iv = .int .i64 n ∧ Hid (En14 w wr be)) (fun _ iv _ => 144 - (intOf iv).toNat)
  case atStart => exact ⟨0, by omega, rfl, rfl, HE⟩
  case round =>
    obtain ⟨n, hn, rfl, rfl, hR⟩ := hrel
    by_cases hlt : n < 144
    ·
      obtain ⟨a9, ha⟩ := ends14_ok (n % 12) (by omega)
      obtain ⟨b9, hb⟩ := ends14_ok (n / 12) (by omega)
      have c0 := hR.out.cell _ _ ha
      have c1 := hR.out.cell _ _ hb
      have d1 : decide ((n : Int) < 144) = true := by rw [decide_eq_true_iff]; omega
      have d2 : (n : Int) < 144 := by omega
      have d3 : (0 : Int) ≤ (n : Int) := by omega
      have e1 : (n : Int).tmod 12 = ((n % 12 : Nat) : Int) := by rw [Int.tmod_eq_emod_of_nonneg (by omega)]; omega
      have e2 : (n : Int).tdiv 12 = ((n / 12 : Nat) : Int) := by rw [Int.tdiv_eq_ediv_of_nonneg (by omega)]; omega
      have q1 : n % 12 < 12 := by omega
      have q2 : n / 12 < 12 := by omega
      have k0 : ((wr.alloc (.cells #[.int .i64 0, .int .i64 0, .int .i64 0, .int .i64 0] 38)).drew).cell? ⟨be, n % 12, none⟩ = some (.int .i64 a9) := (((Fr.refl (fun _ => False) wr).alloc _).drew).cell c0 id
      have k1 : ((wr.alloc (.cells #[.int .i64 0, .int .i64 0, .int .i64 0, .int .i64 0] 38)).drew).cell? ⟨be, n / 12, none⟩ = some (.int .i64 b9) := (((Fr.refl (fun _ => False) wr).alloc _).drew).cell c1 id
      have m0 : (wr.alloc (.cells #[.int .i64 0, .int .i64 0, .int .i64 0, .int .i64 0] 38)).cell? ⟨be, n % 12, none⟩ = some (.int .i64 a9) := (((Fr.refl (fun _ => False) wr).alloc _)).cell c0 id
      have m1 : (wr.alloc (.cells #[.int .i64 0, .int .i64 0, .int .i64 0, .int .i64 0] 38)).cell? ⟨be, n / 12, none⟩ = some (.int .i64 b9) := (((Fr.refl (fun _ => False) wr).alloc _)).cell c1 id
      go_wp2_with fail
      go_region
      obtain ⟨w5, hw5⟩ : ∃ w5, w5 = (wr.alloc (.cells #[.int .i64 0, .int .i64 a9, .int .i64 b9, .int .i64 0] 38)).drew := ⟨_, rfl⟩
      obtain ⟨g3, hg3⟩ : ∃ g3, g3 = wr.heap.size := ⟨_, rfl⟩
      have hf5 : Fr (fun _ => False) wr w5 := by rw [hw5]; exact (((Fr.refl _ wr).alloc _).drew)
      have h5 := hR.out.keep hf5
      have hr5 : w5.heap[g3]? = some (.cells #[.int .i64 0, .int .i64 a9, .int .i64 b9, .int .i64 0] 38 (0, 0)) := by rw [hw5, hg3]; exact heap_alloc_new wr _
      rw [← hw5, ← hg3]
      clear hw5 hg3 k0 k1 m0 m1 c0 c1
      have c0 := h5.cell _ _ ha
      have c1 := h5.cell _ _ hb
      have k0 : ((w5.alloc (.cells #[.int .i64 0, .int .i64 0, .int .i64 0, .int .i64 0] 38)).drew).cell? ⟨be, n % 12, none⟩ = some (.int .i64 a9) := (((Fr.refl (fun _ => False) w5).alloc _).drew).cell c0 id
      have k1 : ((w5.alloc (.cells #[.int .i64 0, .int .i64 0, .int .i64 0, .int .i64 0] 38)).drew).cell? ⟨be, n / 12, none⟩ = some (.int .i64 b9) := (((Fr.refl (fun _ => False) w5).alloc _).drew).cell c1 id
      have m0 : (w5.alloc (.cells #[.int .i64 0, .int .i64 0, .int .i64 0, .int .i64 0] 38)).cell? ⟨be, n % 12, none⟩ = some (.int .i64 a9) := (((Fr.refl (fun _ => False) w5).alloc _)).cell c0 id
      have m1 : (w5.alloc (.cells #[.int .i64 0, .int .i64 0, .int .i64 0, .int .i64 0] 38)).cell? ⟨be, n / 12, none⟩ = some (.int .i64 b9) := (((Fr.refl (fun _ => False) w5).alloc _)).cell c1 id
      have H5 := Lib.hid (And.intro h5 hr5)
      clear h5 hr5 hf5 hR
      go_wp2_with fail
      go_region
      go_wp2_with fail
      obtain ⟨w6, hw6⟩ : ∃ w6, w6 = (w5.alloc (.cells #[.int .i64 a9, .int .i64 0, .int .i64 0, .int .i64 b9] 38)).drew := ⟨_, rfl⟩
      obtain ⟨g4, hg4⟩ : ∃ g4, g4 = w5.heap.size := ⟨_, rfl⟩
      have hf6 : Fr (fun _ => False) w5 w6 := by rw [hw6]; exact (((Fr.refl _ w5).alloc _).drew)
      have h6 := H5.out.1.keep hf6
      have hr6 : w6.heap[g4]? = some (.cells #[.int .i64 a9, .int .i64 0, .int .i64 0, .int .i64 b9] 38 (0, 0)) := by rw [hw6, hg4]; exact heap_alloc_new w5 _
      have hr5 := hf6.heap H5.out.2 id
      rw [← hw6, ← hg4]
      clear hw6 hg4 k0 k1 m0 m1 c0 c1
      have LD3 := Lib.hid (fun W (hW : Fr (fun _ => False) w6 W) => ldQ9 W g3 0 ⟨0, a9, b9, 0⟩ (range_row5 (hW.heap hr5 id)))
      have LD4 := Lib.hid (fun W (hW : Fr (fun _ => False) w6 W) => ldQ9 W g4 0 ⟨a9, 0, 0, b9⟩ (range_row5 (hW.heap hr6 id)))
      have LDE := Lib.hid (fun W (hW : Fr (fun _ => False) w6 W) => load_int14 W ⟨be, n % 12, none⟩ _ (hW.cell (h6.cell _ _ ha) id))
      have HN7 := Lib.hid q1
      have HLT := Lib.hid hlt
      have H6 := Lib.hid h6
      clear h6 hr5 hr6 hf6 ha hb e1 e2 q1 q2 d1 d2 d3 hn hlt H5
      obtain ⟨n7, hn7⟩ : ∃ n7, n7 = n := ⟨_, rfl⟩
      rw [← hn7] at LDE HN7 HLT ⊢
      have HNN := Lib.hid hn7
      clear hn7
      refine wp_region_inv 29 (by kernel_rfl) (by kernel_rfl) (fun W => Fr (fun _ => False) w6 W) (VeR be g3 g4 n7 a9 b9) (fun _ _ _ _ => True) (Fr (fun _ => False)) (VeR.ext be g3 g4 n7 a9 b9) (Fr.refl _ _).drew ?_ ?_
      · intro i hi o ho
        replace hi : i < 29 := hi
        obtain rfl | rfl | rfl | rfl | rfl | rfl | rfl | rfl | rfl | rfl | rfl | rfl | rfl | rfl | rfl | rfl | rfl | rfl | rfl | rfl | rfl | rfl | rfl | rfl | rfl | rfl | rfl | rfl | rfl : i = 0 ∨ i = 1 ∨ i = 2 ∨ i = 3 ∨ i = 4 ∨ i = 5 ∨ i = 6 ∨ i = 7 ∨ i = 8 ∨ i = 9 ∨ i = 10 ∨ i = 11 ∨ i = 12 ∨ i = 13 ∨ i = 14 ∨ i = 15 ∨ i = 16 ∨ i = 17 ∨ i = 18 ∨ i = 19 ∨ i = 20 ∨ i = 21 ∨ i = 22 ∨ i = 23 ∨ i = 24 ∨ i = 25 ∨ i = 26 ∨ i = 27 ∨ i = 28 := by omega
        · simp only [List.getElem?_cons_zero, Option.some.injEq] at ho
          subst ho
          intro a W vs hB hS hE hU
          refine wpG_plain rfl ?_
          clear hE hU
          exact wp_value_inv (w' := W) (.agg #[.int .i64 1, .int .i64 4000, .int .i64 100]) (op_bSh _ _ W _ _ rfl) ⟨_, rfl, hB, Fr.refl _ _, rfl, fun _ _ _ _ _ => trivial⟩
        · simp only [List.getElem?_cons_zero, List.getElem?_cons_succ, Option.some.injEq] at ho
          subst ho
          intro a W vs hB hS hE hU
          refine wpG_plain rfl ?_
          have v3 : a.eval (.tmp 3) = .pointer (some ⟨g3, 0, none⟩) := (hU 3 (by kernel_rfl)).trans rfl
          clear hE hU
          exact wp_value_inv (w' := W) (.agg #[.int .i64 0, .int .i64 a9, .int .i64 b9, .int .i64 0]) (op_loadAt rfl v3 (LD3.out W hB)) ⟨_, rfl, hB, Fr.refl _ _, rfl, fun _ _ _ _ _ => trivial⟩
        · simp only [List.getElem?_cons_zero, List.getElem?_cons_succ, Option.some.injEq] at ho
          subst ho
          intro a W vs hB hS hE hU
          refine wpG_plain rfl ?_
          obtain ⟨r1, e40⟩ := hE 1 40 (by kernel_rfl) (by kernel_rfl)
          have v40 : a.eval (.tmp 40) = .agg #[.int .i64 0, .int .i64 a9, .int .i64 b9, .int .i64 0] := e40.trans r1
          clear hE hU
          have hfa : Fr (fun _ => False) W (W.alloc (.cells (([⟨0, a9, b9, 0⟩] : List Qt).map qC).flatten.toArray 38)) := (Fr.refl _ _).alloc _
          exact wp_value_inv (w' := W.alloc (.cells (([⟨0, a9, b9, 0⟩] : List Qt).map qC).flatten.toArray 38)) (.slice (some ⟨W.heap.size, 0, none⟩) 1 1) (op_rows rfl (vs := #[(0, .agg #[.int .i64 0, .int .i64 a9, .int .i64 b9, .int .i64 0])]) (by simp only [List.map_toArray, List.map_cons, List.map_nil, v40]) (run_q1 W _ _ _ _)) ⟨_, rfl, hB.trans hfa (fun _ h => h.elim), hfa, ⟨W.heap.size, rfl, qs_made [⟨0, a9, b9, 0⟩] 1 rfl (by decide) (heap_alloc_new W _)⟩, fun _ _ _ _ _ => trivial⟩
        · simp only [List.getElem?_cons_zero, List.getElem?_cons_succ, Option.some.injEq] at ho
          subst ho
          intro a W vs hB hS hE hU
          refine wpG_plain rfl ?_
          obtain ⟨r0, e39⟩ := hE 0 39 (by kernel_rfl) (by kernel_rfl)
          have v39 : a.eval (.tmp 39) = .agg #[.int .i64 1, .int .i64 4000, .int .i64 100] := e39.trans r0
          obtain ⟨⟨gi2, rg2, rh2⟩, e41⟩ := hE 2 41 (by kernel_rfl) (by kernel_rfl)
          have v41 : a.eval (.tmp 41) = .slice (some ⟨gi2, 0, none⟩) 1 1 := e41.trans rg2
          clear hE hU
          refine wp_call_inv 4 #[.tmp 39, .tmp 41] #[51, 22] rfl #[.agg #[.int .i64 1, .int .i64 4000, .int .i64 100], .slice (some ⟨gi2, 0, none⟩) 1 1] (by simp only [List.map_toArray, List.map_cons, List.map_nil, v39, v41]) (ent_Fits14 _) (Post := fun v W' => v = .bool true ∧ Fr (fun _ => False) W W') ((viewFits_any W _ _ _ _ _ rh2).mono fun e w' h => ⟨_, h.1, rfl, h.2⟩) ?_
          rintro v W' ⟨rfl, hf⟩
          exact ⟨_, rfl, hB.trans hf (fun _ h => h.elim), hf, rfl, fun _ _ _ _ _ => trivial⟩
        · simp only [List.getElem?_cons_zero, List.getElem?_cons_succ, Option.some.injEq] at ho
          subst ho
          intro a W vs hB hS hE hU
          refine wpG_plain rfl ?_
          obtain ⟨r3, e42⟩ := hE 3 42 (by kernel_rfl) (by kernel_rfl)
          have v42 : a.eval (.tmp 42) = .bool true := e42.trans r3
          clear hE hU
          exact wp_value_inv (w' := W) (.bool false) (op_unop rfl v42 (by rfl)) ⟨_, rfl, hB, Fr.refl _ _, rfl, fun _ _ _ _ _ => trivial⟩
        · simp only [List.getElem?_cons_zero, List.getElem?_cons_succ, Option.some.injEq] at ho
          subst ho
          intro a W vs hB hS hE hU
          refine wpG_plain rfl ?_
          obtain ⟨r4, e43⟩ := hE 4 43 (by kernel_rfl) (by kernel_rfl)
          have v43 : a.eval (.tmp 43) = .bool false := e43.trans r4
          clear hE hU
          exact wp_value_inv (w' := W) (.bool false) (op_move rfl v43) ⟨_, rfl, hB, Fr.refl _ _, rfl, fun _ _ _ _ _ => trivial⟩
        · simp only [List.getElem?_cons_zero, List.getElem?_cons_succ, Option.some.injEq] at ho
          subst ho
          intro a W vs hB hS hE hU
          obtain ⟨r5, e44⟩ := hE 5 44 (by kernel_rfl) (by kernel_rfl)
          have v44 : a.eval (.tmp 44) = .bool false := e44.trans r5
          refine wpG_yes 5 false 44 rfl (by kernel_rfl) (by rw [hS]; first | simp | exact Nat.le_of_ble_eq_true rfl) v44 ?_
          clear hE hU
          exact wp_value_inv (w' := W) (.agg #[.int .i64 1, .int .i64 10, .int .i64 8000]) (op_bSh _ _ W _ _ rfl) ⟨_, rfl, hB, Fr.refl _ _, rfl, fun _ _ _ _ _ => trivial⟩
        · simp only [List.getElem?_cons_zero, List.getElem?_cons_succ, Option.some.injEq] at ho
          subst ho
          intro a W vs hB hS hE hU
          obtain ⟨r5, e44⟩ := hE 5 44 (by kernel_rfl) (by kernel_rfl)
          have v44 : a.eval (.tmp 44) = .bool false := e44.trans r5
          refine wpG_yes 5 false 44 rfl (by kernel_rfl) (by rw [hS]; first | simp | exact Nat.le_of_ble_eq_true rfl) v44 ?_
          have v4 : a.eval (.tmp 4) = .pointer (some ⟨g4, 0, none⟩) := (hU 4 (by kernel_rfl)).trans rfl
          clear hE hU
          exact wp_value_inv (w' := W) (.agg #[.int .i64 a9, .int .i64 0, .int .i64 0, .int .i64 b9]) (op_loadAt rfl v4 (LD4.out W hB)) ⟨_, rfl, hB, Fr.refl _ _, rfl, fun _ _ _ _ _ => trivial⟩
        · simp only [List.getElem?_cons_zero, List.getElem?_cons_succ, Option.some.injEq] at ho
          subst ho
          intro a W vs hB hS hE hU
          obtain ⟨r5, e44⟩ := hE 5 44 (by kernel_rfl) (by kernel_rfl)
          have v44 : a.eval (.tmp 44) = .bool false := e44.trans r5
          refine wpG_yes 5 false 44 rfl (by kernel_rfl) (by rw [hS]; first | simp | exact Nat.le_of_ble_eq_true rfl) v44 ?_
          obtain ⟨r7, e46⟩ := hE 7 46 (by kernel_rfl) (by kernel_rfl)
          have v46 : a.eval (.tmp 46) = .agg #[.int .i64 a9, .int .i64 0, .int .i64 0, .int .i64 b9] := e46.trans r7
          clear hE hU
          have hfa : Fr (fun _ => False) W (W.alloc (.cells (([⟨a9, 0, 0, b9⟩] : List Qt).map qC).flatten.toArray 38)) := (Fr.refl _ _).alloc _
          exact wp_value_inv (w' := W.alloc (.cells (([⟨a9, 0, 0, b9⟩] : List Qt).map qC).flatten.toArray 38)) (.slice (some ⟨W.heap.size, 0, none⟩) 1 1) (op_rows rfl (vs := #[(0, .agg #[.int .i64 a9, .int .i64 0, .int .i64 0, .int .i64 b9])]) (by simp only [List.map_toArray, List.map_cons, List.map_nil, v46]) (run_q1 W _ _ _ _)) ⟨_, rfl, hB.trans hfa (fun _ h => h.elim), hfa, ⟨W.heap.size, rfl, qs_made [⟨a9, 0, 0, b9⟩] 1 rfl (by decide) (heap_alloc_new W _)⟩, fun _ _ _ _ _ => trivial⟩
        · simp only [List.getElem?_cons_zero, List.getElem?_cons_succ, Option.some.injEq] at ho
          subst ho
          intro a W vs hB hS hE hU
          obtain ⟨r5, e44⟩ := hE 5 44 (by kernel_rfl) (by kernel_rfl)
          have v44 : a.eval (.tmp 44) = .bool false := e44.trans r5
          refine wpG_yes 5 false 44 rfl (by kernel_rfl) (by rw [hS]; first | simp | exact Nat.le_of_ble_eq_true rfl) v44 ?_
          obtain ⟨r6, e45⟩ := hE 6 45 (by kernel_rfl) (by kernel_rfl)
          have v45 : a.eval (.tmp 45) = .agg #[.int .i64 1, .int .i64 10, .int .i64 8000] := e45.trans r6
          obtain ⟨⟨gi8, rg8, rh8⟩, e47⟩ := hE 8 47 (by kernel_rfl) (by kernel_rfl)
          have v47 : a.eval (.tmp 47) = .slice (some ⟨gi8, 0, none⟩) 1 1 := e47.trans rg8
          clear hE hU
          refine wp_call_inv 4 #[.tmp 45, .tmp 47] #[51, 22] rfl #[.agg #[.int .i64 1, .int .i64 10, .int .i64 8000], .slice (some ⟨gi8, 0, none⟩) 1 1] (by simp only [List.map_toArray, List.map_cons, List.map_nil, v45, v47]) (ent_Fits14 _) (Post := fun v W' => v = .bool true ∧ Fr (fun _ => False) W W') ((viewFits_any W _ _ _ _ _ rh8).mono fun e w' h => ⟨_, h.1, rfl, h.2⟩) ?_
          rintro v W' ⟨rfl, hf⟩
          exact ⟨_, rfl, hB.trans hf (fun _ h => h.elim), hf, rfl, fun _ _ _ _ _ => trivial⟩
        · simp only [List.getElem?_cons_zero, List.getElem?_cons_succ, Option.some.injEq] at ho
          subst ho
          intro a W vs hB hS hE hU
          obtain ⟨r5, e44⟩ := hE 5 44 (by kernel_rfl) (by kernel_rfl)
          have v44 : a.eval (.tmp 44) = .bool false := e44.trans r5
          refine wpG_yes 5 false 44 rfl (by kernel_rfl) (by rw [hS]; first | simp | exact Nat.le_of_ble_eq_true rfl) v44 ?_
          obtain ⟨r9, e48⟩ := hE 9 48 (by kernel_rfl) (by kernel_rfl)
          have v48 : a.eval (.tmp 48) = .bool true := e48.trans r9
          clear hE hU
          exact wp_value_inv (w' := W) (.bool false) (op_unop rfl v48 (by rfl)) ⟨_, rfl, hB, Fr.refl _ _, rfl, fun _ _ _ _ _ => trivial⟩
        · simp only [List.getElem?_cons_zero, List.getElem?_cons_succ, Option.some.injEq] at ho
          subst ho
          intro a W vs hB hS hE hU
          refine wpG_plain rfl ?_
          obtain ⟨r5, e44⟩ := hE 5 44 (by kernel_rfl) (by kernel_rfl)
          have v44 : a.eval (.tmp 44) = .bool false := e44.trans r5
          obtain ⟨r10, e49⟩ := hE 10 49 (by kernel_rfl) (by kernel_rfl)
          have v49 : a.eval (.tmp 49) = .bool false := e49.trans r10
          clear hE hU
          exact wp_value_inv (w' := W) (.bool false) (op_pick rfl v44 (by simp only [Bool.false_eq_true, if_false]; exact v49)) ⟨_, rfl, hB, Fr.refl _ _, rfl, fun _ _ _ _ _ => trivial⟩
        · simp only [List.getElem?_cons_zero, List.getElem?_cons_succ, Option.some.injEq] at ho
          subst ho
          intro a W vs hB hS hE hU
          refine wpG_plain rfl ?_
          obtain ⟨r11, e50⟩ := hE 11 50 (by kernel_rfl) (by kernel_rfl)
          have v50 : a.eval (.tmp 50) = .bool false := e50.trans r11
          clear hE hU
          exact wp_value_inv (w' := W) (.bool false) (op_move rfl v50) ⟨_, rfl, hB, Fr.refl _ _, rfl, fun _ _ _ _ _ => trivial⟩
        · simp only [List.getElem?_cons_zero, List.getElem?_cons_succ, Option.some.injEq] at ho
          subst ho
          intro a W vs hB hS hE hU
          obtain ⟨r12, e51⟩ := hE 12 51 (by kernel_rfl) (by kernel_rfl)
          have v51 : a.eval (.tmp 51) = .bool false := e51.trans r12
          refine wpG_yes 12 false 51 rfl (by kernel_rfl) (by rw [hS]; first | simp | exact Nat.le_of_ble_eq_true rfl) v51 ?_
          have v3 : a.eval (.tmp 3) = .pointer (some ⟨g3, 0, none⟩) := (hU 3 (by kernel_rfl)).trans rfl
          clear hE hU
          exact wp_value_inv (w' := W) (.agg #[.int .i64 0, .int .i64 a9, .int .i64 b9, .int .i64 0]) (op_loadAt rfl v3 (LD3.out W hB)) ⟨_, rfl, hB, Fr.refl _ _, rfl, fun _ _ _ _ _ => trivial⟩
        · simp only [List.getElem?_cons_zero, List.getElem?_cons_succ, Option.some.injEq] at ho
          subst ho
          intro a W vs hB hS hE hU
          obtain ⟨r12, e51⟩ := hE 12 51 (by kernel_rfl) (by kernel_rfl)
          have v51 : a.eval (.tmp 51) = .bool false := e51.trans r12
          refine wpG_yes 12 false 51 rfl (by kernel_rfl) (by rw [hS]; first | simp | exact Nat.le_of_ble_eq_true rfl) v51 ?_
          have v4 : a.eval (.tmp 4) = .pointer (some ⟨g4, 0, none⟩) := (hU 4 (by kernel_rfl)).trans rfl
          clear hE hU
          exact wp_value_inv (w' := W) (.agg #[.int .i64 a9, .int .i64 0, .int .i64 0, .int .i64 b9]) (op_loadAt rfl v4 (LD4.out W hB)) ⟨_, rfl, hB, Fr.refl _ _, rfl, fun _ _ _ _ _ => trivial⟩
        · simp only [List.getElem?_cons_zero, List.getElem?_cons_succ, Option.some.injEq] at ho
          subst ho
          intro a W vs hB hS hE hU
          obtain ⟨r12, e51⟩ := hE 12 51 (by kernel_rfl) (by kernel_rfl)
          have v51 : a.eval (.tmp 51) = .bool false := e51.trans r12
          refine wpG_yes 12 false 51 rfl (by kernel_rfl) (by rw [hS]; first | simp | exact Nat.le_of_ble_eq_true rfl) v51 ?_
          obtain ⟨r13, e52⟩ := hE 13 52 (by kernel_rfl) (by kernel_rfl)
          have v52 : a.eval (.tmp 52) = .agg #[.int .i64 0, .int .i64 a9, .int .i64 b9, .int .i64 0] := e52.trans r13
          obtain ⟨r14, e53⟩ := hE 14 53 (by kernel_rfl) (by kernel_rfl)
          have v53 : a.eval (.tmp 53) = .agg #[.int .i64 a9, .int .i64 0, .int .i64 0, .int .i64 b9] := e53.trans r14
          clear hE hU
          have hfa : Fr (fun _ => False) W (W.alloc (.cells (([⟨0, a9, b9, 0⟩, ⟨a9, 0, 0, b9⟩] : List Qt).map qC).flatten.toArray 38)) := (Fr.refl _ _).alloc _
          exact wp_value_inv (w' := W.alloc (.cells (([⟨0, a9, b9, 0⟩, ⟨a9, 0, 0, b9⟩] : List Qt).map qC).flatten.toArray 38)) (.slice (some ⟨W.heap.size, 0, none⟩) 2 2) (op_rows rfl (vs := #[(0, .agg #[.int .i64 0, .int .i64 a9, .int .i64 b9, .int .i64 0]), (1, .agg #[.int .i64 a9, .int .i64 0, .int .i64 0, .int .i64 b9])]) (by simp only [List.map_toArray, List.map_cons, List.map_nil, v52, v53]) (run_q2 W _ _ _ _ _ _ _ _)) ⟨_, rfl, hB.trans hfa (fun _ h => h.elim), hfa, ⟨W.heap.size, rfl, qs_made [⟨0, a9, b9, 0⟩, ⟨a9, 0, 0, b9⟩] 2 rfl (by decide) (heap_alloc_new W _)⟩, fun _ _ _ _ _ => trivial⟩
        · simp only [List.getElem?_cons_zero, List.getElem?_cons_succ, Option.some.injEq] at ho
          subst ho
          intro a W vs hB hS hE hU
          obtain ⟨r12, e51⟩ := hE 12 51 (by kernel_rfl) (by kernel_rfl)
          have v51 : a.eval (.tmp 51) = .bool false := e51.trans r12
          refine wpG_yes 12 false 51 rfl (by kernel_rfl) (by rw [hS]; first | simp | exact Nat.le_of_ble_eq_true rfl) v51 ?_
          clear hE hU
          exact wp_value_inv (w' := W) (.agg pL) (op_bP _ _ W rfl) ⟨_, rfl, hB, Fr.refl _ _, rfl, fun _ _ _ _ _ => trivial⟩
        · simp only [List.getElem?_cons_zero, List.getElem?_cons_succ, Option.some.injEq] at ho
          subst ho
          intro a W vs hB hS hE hU
          obtain ⟨r12, e51⟩ := hE 12 51 (by kernel_rfl) (by kernel_rfl)
          have v51 : a.eval (.tmp 51) = .bool false := e51.trans r12
          refine wpG_yes 12 false 51 rfl (by kernel_rfl) (by rw [hS]; first | simp | exact Nat.le_of_ble_eq_true rfl) v51 ?_
          obtain ⟨r16, e55⟩ := hE 16 55 (by kernel_rfl) (by kernel_rfl)
          have v55 : a.eval (.tmp 55) = .agg pL := e55.trans r16
          clear hE hU
          exact wp_value_inv (w' := W) (.agg (deA ⟨0, 1, ⟨#[97]⟩, xP, .slice none 0 0, []⟩)) (op_build rfl (vs := #[(1, .int .i64 1), (2, .string ⟨#[97]⟩), (3, .agg pL)]) (by simp only [List.map_toArray, List.map_cons, List.map_nil, eval_const5, v55]) (b_123p 1 _)) ⟨_, rfl, hB, Fr.refl _ _, rfl, fun _ _ _ _ _ => trivial⟩
        · simp only [List.getElem?_cons_zero, List.getElem?_cons_succ, Option.some.injEq] at ho
          subst ho
          intro a W vs hB hS hE hU
          obtain ⟨r12, e51⟩ := hE 12 51 (by kernel_rfl) (by kernel_rfl)
          have v51 : a.eval (.tmp 51) = .bool false := e51.trans r12
          refine wpG_yes 12 false 51 rfl (by kernel_rfl) (by rw [hS]; first | simp | exact Nat.le_of_ble_eq_true rfl) v51 ?_
          clear hE hU
          exact wp_value_inv (w' := W) (.agg (deA ⟨3, 2, ⟨#[107]⟩, xZ, .slice none 0 0, []⟩)) (op_build rfl (vs := #[(0, .int .i64 3), (1, .int .i64 2), (2, .string ⟨#[107]⟩)]) (by simp only [List.map_toArray, List.map_cons, List.map_nil, eval_const5]) (b_012 3 2 _)) ⟨_, rfl, hB, Fr.refl _ _, rfl, fun _ _ _ _ _ => trivial⟩
        · simp only [List.getElem?_cons_zero, List.getElem?_cons_succ, Option.some.injEq] at ho
          subst ho
          intro a W vs hB hS hE hU
          obtain ⟨r12, e51⟩ := hE 12 51 (by kernel_rfl) (by kernel_rfl)
          have v51 : a.eval (.tmp 51) = .bool false := e51.trans r12
          refine wpG_yes 12 false 51 rfl (by kernel_rfl) (by rw [hS]; first | simp | exact Nat.le_of_ble_eq_true rfl) v51 ?_
          obtain ⟨r17, e56⟩ := hE 17 56 (by kernel_rfl) (by kernel_rfl)
          have v56 : a.eval (.tmp 56) = .agg (deA ⟨0, 1, ⟨#[97]⟩, xP, .slice none 0 0, []⟩) := e56.trans r17
          obtain ⟨r18, e57⟩ := hE 18 57 (by kernel_rfl) (by kernel_rfl)
          have v57 : a.eval (.tmp 57) = .agg (deA ⟨3, 2, ⟨#[107]⟩, xZ, .slice none 0 0, []⟩) := e57.trans r18
          clear hE hU
          have hfa : Fr (fun _ => False) W (W.alloc (.cells (two14.map deC).flatten.toArray 46)) := (Fr.refl _ _).alloc _
          exact wp_value_inv (w' := W.alloc (.cells (two14.map deC).flatten.toArray 46)) (.slice (some ⟨W.heap.size, 0, none⟩) 2 2) (op_rows rfl (vs := #[(0, .agg (deA ⟨0, 1, ⟨#[97]⟩, xP, .slice none 0 0, []⟩)), (1, .agg (deA ⟨3, 2, ⟨#[107]⟩, xZ, .slice none 0 0, []⟩))]) (by simp only [List.map_toArray, List.map_cons, List.map_nil, v56, v57]) (run_two14 W)) ⟨_, rfl, hB.trans hfa (fun _ h => h.elim), hfa, ⟨W.heap.size, rfl, deeds_made two14 2 rfl (by decide) (heap_alloc_new W _) (lt_of_block (heap_alloc_new W _)) (two14_ok _ _)⟩, fun _ _ _ _ _ => trivial⟩
        · simp only [List.getElem?_cons_zero, List.getElem?_cons_succ, Option.some.injEq] at ho
          subst ho
          intro a W vs hB hS hE hU
          obtain ⟨r12, e51⟩ := hE 12 51 (by kernel_rfl) (by kernel_rfl)
          have v51 : a.eval (.tmp 51) = .bool false := e51.trans r12
          refine wpG_yes 12 false 51 rfl (by kernel_rfl) (by rw [hS]; first | simp | exact Nat.le_of_ble_eq_true rfl) v51 ?_
          have v2 : a.eval (.tmp 2) = .int .i64 (n7 : Nat) := (hU 2 (by kernel_rfl)).trans rfl
          clear hE hU
          exact wp_value_inv (w' := W) (.int .i64 (n7 : Nat)) (op_move rfl v2) ⟨_, rfl, hB, Fr.refl _ _, rfl, fun _ _ _ _ _ => trivial⟩
        · simp only [List.getElem?_cons_zero, List.getElem?_cons_succ, Option.some.injEq] at ho
          subst ho
          intro a W vs hB hS hE hU
          obtain ⟨r12, e51⟩ := hE 12 51 (by kernel_rfl) (by kernel_rfl)
          have v51 : a.eval (.tmp 51) = .bool false := e51.trans r12
          refine wpG_yes 12 false 51 rfl (by kernel_rfl) (by rw [hS]; first | simp | exact Nat.le_of_ble_eq_true rfl) v51 ?_
          obtain ⟨r20, e59⟩ := hE 20 59 (by kernel_rfl) (by kernel_rfl)
          have v59 : a.eval (.tmp 59) = .int .i64 (n7 : Nat) := e59.trans r20
          clear hE hU
          exact wp_value_inv (w' := W) (.int .i64 ((n7 % 3 : Nat) : Int)) (op_bin rfl v59 rfl rfl (rem_nat3 W n7)) ⟨_, rfl, hB, Fr.refl _ _, rfl, fun _ _ _ _ _ => trivial⟩
        · simp only [List.getElem?_cons_zero, List.getElem?_cons_succ, Option.some.injEq] at ho
          subst ho
          intro a W vs hB hS hE hU
          obtain ⟨r12, e51⟩ := hE 12 51 (by kernel_rfl) (by kernel_rfl)
          have v51 : a.eval (.tmp 51) = .bool false := e51.trans r12
          refine wpG_yes 12 false 51 rfl (by kernel_rfl) (by rw [hS]; first | simp | exact Nat.le_of_ble_eq_true rfl) v51 ?_
          have v1 : a.eval (.tmp 1) = .slice (some ⟨be, 0, none⟩) 12 12 := (hU 1 (by kernel_rfl)).trans rfl
          clear hE hU
          exact wp_value_inv (w' := W) (.slice (some ⟨be, 0, none⟩) 12 12) (op_move rfl v1) ⟨_, rfl, hB, Fr.refl _ _, rfl, fun _ _ _ _ _ => trivial⟩
        · simp only [List.getElem?_cons_zero, List.getElem?_cons_succ, Option.some.injEq] at ho
          subst ho
          intro a W vs hB hS hE hU
          obtain ⟨r12, e51⟩ := hE 12 51 (by kernel_rfl) (by kernel_rfl)
          have v51 : a.eval (.tmp 51) = .bool false := e51.trans r12
          refine wpG_yes 12 false 51 rfl (by kernel_rfl) (by rw [hS]; first | simp | exact Nat.le_of_ble_eq_true rfl) v51 ?_
          have v2 : a.eval (.tmp 2) = .int .i64 (n7 : Nat) := (hU 2 (by kernel_rfl)).trans rfl
          clear hE hU
          exact wp_value_inv (w' := W) (.int .i64 (n7 : Nat)) (op_move rfl v2) ⟨_, rfl, hB, Fr.refl _ _, rfl, fun _ _ _ _ _ => trivial⟩
        · simp only [List.getElem?_cons_zero, List.getElem?_cons_succ, Option.some.injEq] at ho
          subst ho
          intro a W vs hB hS hE hU
          obtain ⟨r12, e51⟩ := hE 12 51 (by kernel_rfl) (by kernel_rfl)
          have v51 : a.eval (.tmp 51) = .bool false := e51.trans r12
          refine wpG_yes 12 false 51 rfl (by kernel_rfl) (by rw [hS]; first | simp | exact Nat.le_of_ble_eq_true rfl) v51 ?_
          obtain ⟨r23, e62⟩ := hE 23 62 (by kernel_rfl) (by kernel_rfl)
          have v62 : a.eval (.tmp 62) = .int .i64 (n7 : Nat) := e62.trans r23
          clear hE hU
          exact wp_value_inv (w' := W) (.int .i64 ((n7 % 12 : Nat) : Int)) (op_bin rfl v62 rfl rfl (rem_nat12 W n7)) ⟨_, rfl, hB, Fr.refl _ _, rfl, fun _ _ _ _ _ => trivial⟩
        · simp only [List.getElem?_cons_zero, List.getElem?_cons_succ, Option.some.injEq] at ho
          subst ho
          intro a W vs hB hS hE hU
          obtain ⟨r12, e51⟩ := hE 12 51 (by kernel_rfl) (by kernel_rfl)
          have v51 : a.eval (.tmp 51) = .bool false := e51.trans r12
          refine wpG_yes 12 false 51 rfl (by kernel_rfl) (by rw [hS]; first | simp | exact Nat.le_of_ble_eq_true rfl) v51 ?_
          obtain ⟨r22, e61⟩ := hE 22 61 (by kernel_rfl) (by kernel_rfl)
          have v61 : a.eval (.tmp 61) = .slice (some ⟨be, 0, none⟩) 12 12 := e61.trans r22
          obtain ⟨r24, e63⟩ := hE 24 63 (by kernel_rfl) (by kernel_rfl)
          have v63 : a.eval (.tmp 63) = .int .i64 ((n7 % 12 : Nat) : Int) := e63.trans r24
          clear hE hU
          exact wp_value_inv (w' := W) (.pointer (some ⟨be, n7 % 12, none⟩)) (op_indexAddr rfl v61 v63 (run_index_int14 W be (n7 % 12) HN7.out)) ⟨_, rfl, hB, Fr.refl _ _, rfl, fun _ _ _ _ _ => trivial⟩
        · simp only [List.getElem?_cons_zero, List.getElem?_cons_succ, Option.some.injEq] at ho
          subst ho
          intro a W vs hB hS hE hU
          obtain ⟨r12, e51⟩ := hE 12 51 (by kernel_rfl) (by kernel_rfl)
          have v51 : a.eval (.tmp 51) = .bool false := e51.trans r12
          refine wpG_yes 12 false 51 rfl (by kernel_rfl) (by rw [hS]; first | simp | exact Nat.le_of_ble_eq_true rfl) v51 ?_
          obtain ⟨r25, e64⟩ := hE 25 64 (by kernel_rfl) (by kernel_rfl)
          have v64 : a.eval (.tmp 64) = .pointer (some ⟨be, n7 % 12, none⟩) := e64.trans r25
          clear hE hU
          exact wp_value_inv (w' := W) (.int .i64 a9) (op_loadAt rfl v64 (LDE.out W hB)) ⟨_, rfl, hB, Fr.refl _ _, rfl, fun _ _ _ _ _ => trivial⟩
        · simp only [List.getElem?_cons_zero, List.getElem?_cons_succ, Option.some.injEq] at ho
          subst ho
          intro a W vs hB hS hE hU
          obtain ⟨r12, e51⟩ := hE 12 51 (by kernel_rfl) (by kernel_rfl)
          have v51 : a.eval (.tmp 51) = .bool false := e51.trans r12
          refine wpG_yes 12 false 51 rfl (by kernel_rfl) (by rw [hS]; first | simp | exact Nat.le_of_ble_eq_true rfl) v51 ?_
          obtain ⟨⟨gi15, rg15, rh15⟩, e54⟩ := hE 15 54 (by kernel_rfl) (by kernel_rfl)
          have v54 : a.eval (.tmp 54) = .slice (some ⟨gi15, 0, none⟩) 2 2 := e54.trans rg15
          obtain ⟨⟨gi19, rg19, rh19⟩, e58⟩ := hE 19 58 (by kernel_rfl) (by kernel_rfl)
          have v58 : a.eval (.tmp 58) = .slice (some ⟨gi19, 0, none⟩) 2 2 := e58.trans rg19
          obtain ⟨r21, e60⟩ := hE 21 60 (by kernel_rfl) (by kernel_rfl)
          have v60 : a.eval (.tmp 60) = .int .i64 ((n7 % 3 : Nat) : Int) := e60.trans r21
          obtain ⟨r26, e65⟩ := hE 26 65 (by kernel_rfl) (by kernel_rfl)
          have v65 : a.eval (.tmp 65) = .int .i64 a9 := e65.trans r26
          clear hE hU
          refine wp_call_inv 3 #[.tmp 54, .tmp 58, .tmp 60, .tmp 65] #[22, 23, 3, 3] rfl #[.slice (some ⟨gi15, 0, none⟩) 2 2, .slice (some ⟨gi19, 0, none⟩) 2 2, .int .i64 ((n7 % 3 : Nat) : Int), .int .i64 a9] (by simp only [List.map_toArray, List.map_cons, List.map_nil, v54, v58, v60, v65]) (ent_Does14 _) (Post := fun v W' => v = .bool true ∧ Fr (fun _ => False) W W') ((viewDoes_any W _ _ _ _ rh15 rh19 _ _).mono fun e w' h => ⟨_, h.1, rfl, h.2⟩) ?_
          rintro v W' ⟨rfl, hf⟩
          exact ⟨_, rfl, hB.trans hf (fun _ h => h.elim), hf, rfl, fun _ _ _ _ _ => trivial⟩
        · simp only [List.getElem?_cons_zero, List.getElem?_cons_succ, Option.some.injEq] at ho
          subst ho
          intro a W vs hB hS hE hU
          obtain ⟨r12, e51⟩ := hE 12 51 (by kernel_rfl) (by kernel_rfl)
          have v51 : a.eval (.tmp 51) = .bool false := e51.trans r12
          refine wpG_yes 12 false 51 rfl (by kernel_rfl) (by rw [hS]; first | simp | exact Nat.le_of_ble_eq_true rfl) v51 ?_
          obtain ⟨r27, e66⟩ := hE 27 66 (by kernel_rfl) (by kernel_rfl)
          have v66 : a.eval (.tmp 66) = .bool true := e66.trans r27
          clear hE hU
          exact wp_value_inv (w' := W) (.bool false) (op_unop rfl v66 (by rfl)) ⟨_, rfl, hB, Fr.refl _ _, rfl, fun _ _ _ _ _ => trivial⟩
      · intro vs Wa hB0 hR0 hD
        have r51 : vs 12 = .bool false := hR0 12 (by decide)
        have r67 : vs 28 = .bool false := hR0 28 (by decide)
        have HB := Lib.hid hB0
        clear hR0 hD hB0
        simp only [acts, if_true, dstAt, List.getElem?_cons_zero, List.getElem?_cons_succ, Option.bind_some, Act.put, List.setIfInBounds_toArray, List.set_cons_succ, List.set_cons_zero, List.drop_succ_cons]
        simp only [r51, r67]
        clear r51 r67
        have HQ := Lib.hid (H6.out.keep HB.out)
        clear LD3 LD4 LDE HN7 HB H6
        have d2 : (n7 : Int) < 144 := by have := HLT.out; omega
        have d3 : (0 : Int) ≤ (n7 : Int) := by omega
        go_wp2_with fail
        go_roundw
        case rel => exact ⟨n7 + 1, by have := HLT.out; omega, rfl, by go_num, HQ⟩
        case measure => have := HLT.out; have := HNN.out; simp [intOf]; omega
    · have d1 : decide ((n : Int) < 144) = false := by rw [decide_eq_false_iff_not]; omega
      have HF := Lib.hid hR.out.fr
      clear hlt hn hR
      go_wp2_with fail
      go_loopw [0, 5] (fun rv iv wq => ∃ n : Nat, n ≤ 12 ∧ rv = .bool false ∧ iv = .int .i64 n ∧ Hid (Fr (fun _ => False) w wq)) (fun _ iv _ => 12 - (intOf iv).toNat)
      case atStart => exact ⟨0, by omega, rfl, rfl, HF⟩
      case round =>
        clear HF d1
        obtain ⟨n, hn, rfl, rfl, hR⟩ := hrel
        by_cases hlt : n < 12
        ·
          have d1 : decide ((n : Int) < 12) = true := by rw [decide_eq_true_iff]; omega
          have HLT := Lib.hid hlt
          have HR := Lib.hid hR.out
          clear hlt hn hR
          go_wp2_with fail
          obtain ⟨wz, hwz⟩ : ∃ wz, wz = wr := ⟨_, rfl⟩
          rw [← hwz] at HR
          have HZ := Lib.hid hwz
          clear hwz
          go_loopw [6, 7] (fun lv kv wq => ∃ k : Nat, k ≤ n ∧ kv = .int .i64 k ∧ (∃ a c, lv = .slice a k c) ∧ Hid (OwnE 38 4 wz.heap.size wq lv (List.replicate k (qC q640)) ∧ Fr (fun _ => False) wz wq)) (fun _ kv _ => n - (intOf kv).toNat)
          case atStart => exact ⟨0, by omega, rfl, ⟨none, 0, rfl⟩, Lib.hid ⟨OwnE.nil _ _ _ _, by rw [HZ.out]; exact Fr.refl _ _⟩⟩
          case round =>
            clear HZ
            obtain ⟨k, hk, rfl, ⟨al, cl, rfl⟩, hS⟩ := hrel
            by_cases hkn : k < n
            · have d2 : decide ((k : Int) < (n : Int)) = true := by rw [decide_eq_true_iff]; omega
              have d3 : (n : Int) < 12 := by have := HLT.out; omega
              have d4 : (k : Int) < (n : Int) := by omega
              have HS := Lib.hid hS.out
              have HKN := Lib.hid hkn
              have HIQ := Lib.hid infoQ
              clear hS hk hkn
              go_wp2_with (refine wpList_snoc Try.underlying22 HIQ.out q640_z (by decide) (by decide) wz wr rfl rfl (.tmp 79) (.tmp 78) 80 rfl rfl _ (List.replicate k (qC q640)) (qC q640) rfl rfl rfl HS.out.2 HS.out.1 rfl q640_c1 (by rw [List.length_replicate]; have := HLT.out; have := HKN.out; omega) (q640_one wr) ?_; intro a7 c7 w7 ho hf; rw [List.length_replicate, ← List.replicate_succ'] at ho; rw [List.length_replicate]; (have H7 := Lib.hid (And.intro ho hf)); clear ho hf; simp only [Act.put, List.setIfInBounds_toArray, List.set_cons_succ, List.set_cons_zero])
              go_roundw
              case rel => exact ⟨k + 1, by have := HKN.out; omega, by go_num, ⟨_, _, rfl⟩, H7⟩
              case measure => have := HKN.out; simp [intOf]; omega
            · obtain rfl : n = k := by omega
              have d2 : decide ((n : Int) < (n : Int)) = false := by rw [decide_eq_false_iff_not]; omega
              have HS := Lib.hid (And.intro (q640_qs hS.out.1) (HR.out.trans hS.out.2 (fun _ h => h.elim)))
              have d3 : (n : Int) < 12 := by have := HLT.out; omega
              clear hS hk hkn HR
              go_wp2_with fail
              obtain ⟨wy, hwy⟩ : ∃ wy, wy = wr := ⟨_, rfl⟩
              rw [← hwy] at HS
              have HY := Lib.hid hwy
              clear hwy
              go_loopw [0, 8] (fun rv dv wq => ∃ d : Int, -1 ≤ d ∧ d ≤ 2 ∧ rv = .bool false ∧ dv = .int .i64 d ∧ Hid (Fr (fun _ => False) wy wq)) (fun _ dv _ => (2 - intOf dv).toNat)
              case atStart => exact ⟨-1, by omega, by omega, rfl, rfl, Lib.hid (by rw [HY.out]; exact Fr.refl _ _)⟩
              case round =>
                clear HY
                obtain ⟨d, hd1, hd2, rfl, rfl, hT⟩ := hrel
                by_cases hld : d < 2
                · have d10 : decide (d < 2) = true := by rw [decide_eq_true_iff]; omega
                  have HT := Lib.hid hT.out
                  have HQ := Lib.hid (fun W (hf : Fr (fun _ => False) wr W) => (HS.out.1.keep (HT.out.trans hf (fun _ h => h.elim)) (fun _ _ _ h => h)))
                  clear hT
                  go_wp2_with (first
                    | (go_at_call 4; with_reducible refine (viewFits_any wr _ _ _ _ _ (HQ.out wr (Fr.refl _ _))).mono ?_; rintro e w8 ⟨rfl, hf8⟩; (have H8 := Lib.hid hf8); clear hf8)
                    | (go_at_call 4; with_reducible refine (viewFits_any w8 _ _ _ _ _ (HQ.out w8 H8.out)).mono ?_; rintro e w9 ⟨rfl, hf9⟩; (have H9 := Lib.hid (HT.out.trans (H8.out.trans hf9 (fun _ h => h.elim)) (fun _ h => h.elim))); clear hf9))
                  go_roundw
                  case rel => exact ⟨d + 1, by omega, by omega, rfl, by go_num, H9⟩
                  case measure => simp [intOf]; omega
                · have d10 : decide (d < 2) = false := by rw [decide_eq_false_iff_not]; omega
                  have HT := Lib.hid hT.out
                  clear hT hd1 hd2 hld
                  have hq := HS.out.1.keep HT.out (fun _ _ _ h => h)
                  obtain ⟨gD, hgD⟩ : ∃ gD, gD = wr.heap.size := ⟨_, rfl⟩
                  obtain ⟨WD, hWD⟩ : ∃ WD, WD = wr.alloc (.cells ((ten14 (n : Int) ((n : Int) - 1)).map deC).flatten.toArray 46) := ⟨_, rfl⟩
                  have hfD : Fr (fun _ => False) wr WD := by rw [hWD]; exact (Fr.refl _ _).alloc _
                  have hrt := run_ten14 wr (n : Int) ((n : Int) - 1)
                  have hbD := heap_alloc_new wr (.cells ((ten14 (n : Int) ((n : Int) - 1)).map deC).flatten.toArray 46)
                  rw [← hWD, ← hgD] at hrt hbD
                  have HRT := Lib.hid hrt
                  have HQD := Lib.hid ((hq.quiet hfD).mono (G := fun k => k < WD.heap.size) (fun k hk _ => hk))
                  have HDD := Lib.hid (deeds_made (F := fun k => k < WD.heap.size) (ten14 (n : Int) ((n : Int) - 1)) 10 rfl (by decide) hbD (lt_of_block hbD) (ten14_ok _ _ _ _ ⟨by omega, by have := HLT.out; omega⟩ ⟨by omega, by have := HLT.out; omega⟩))
                  have HFD := Lib.hid ((HS.out.2.trans HT.out (fun _ h => h.elim)).trans hfD (fun _ h => h.elim))
                  have HB14 := Lib.hid (And.intro b_123p (And.intro b_123q (And.intro b_12 b_012)))
                  have HP := Lib.hid (And.intro op_bP op_bQ)
                  have d11 : (0 : Int) ≤ (n : Int) := by omega
                  clear hq hgD hWD hfD hrt hbD
                  go_wp2_with (first
                    | (with_reducible refine Go.Proofs.Ytdpaobflknkbkaa.wpList_value rfl (.agg pL) _ (HP.out.1 _ _ _ rfl) ?_; simp only [Act.put, List.setIfInBounds_toArray, List.set_cons_succ, List.set_cons_zero])
                    | (with_reducible refine Go.Proofs.Ytdpaobflknkbkaa.wpList_value rfl (.agg qL) _ (HP.out.2 _ _ _ rfl) ?_; simp only [Act.put, List.setIfInBounds_toArray, List.set_cons_succ, List.set_cons_zero])
                    | (((with_reducible refine wpList_build14 #[(1, .tmp 111), (2, .const (.string ⟨#[97]⟩)), (3, .tmp 112)] [(1, .int .i64 (n : Int)), (2, .string ⟨#[97]⟩), (3, .agg pL)] rfl rfl ?_ (HB14.out.1 _ _) ?_); (· simp only [List.map_toArray, List.map_cons, List.map_nil]; rfl)); simp only [Act.put, List.setIfInBounds_toArray, List.set_cons_succ, List.set_cons_zero])
                    | (((with_reducible refine wpList_build14 #[(1, .tmp 115), (2, .const (.string ⟨#[]⟩)), (3, .tmp 116)] [(1, .int .i64 ((n : Int) - 1)), (2, .string ⟨#[]⟩), (3, .agg pL)] rfl rfl ?_ (HB14.out.1 _ _) ?_); (· simp only [List.map_toArray, List.map_cons, List.map_nil]; rfl)); simp only [Act.put, List.setIfInBounds_toArray, List.set_cons_succ, List.set_cons_zero])
                    | (((with_reducible refine wpList_build14 #[(1, .tmp 118), (2, .const (.string ⟨#[98]⟩))] [(1, .int .i64 (n : Int)), (2, .string ⟨#[98]⟩)] rfl rfl ?_ (HB14.out.2.2.1 _ _) ?_); (· simp only [List.map_toArray, List.map_cons, List.map_nil]; rfl)); simp only [Act.put, List.setIfInBounds_toArray, List.set_cons_succ, List.set_cons_zero])
                    | (((with_reducible refine wpList_build14 #[(1, .const (.int .i64 1)), (2, .const (.string ⟨#[99]⟩)), (3, .tmp 120)] [(1, .int .i64 1), (2, .string ⟨#[99]⟩), (3, .agg qL)] rfl rfl ?_ (HB14.out.2.1 _ _) ?_); (· simp only [List.map_toArray, List.map_cons, List.map_nil]; rfl)); simp only [Act.put, List.setIfInBounds_toArray, List.set_cons_succ, List.set_cons_zero])
                    | (((with_reducible refine wpList_build14 #[(1, .const (.int .i64 1)), (2, .const (.string ⟨#[98]⟩)), (3, .tmp 122)] [(1, .int .i64 1), (2, .string ⟨#[98]⟩), (3, .agg qL)] rfl rfl ?_ (HB14.out.2.1 _ _) ?_); (· simp only [List.map_toArray, List.map_cons, List.map_nil]; rfl)); simp only [Act.put, List.setIfInBounds_toArray, List.set_cons_succ, List.set_cons_zero])
                    | (((with_reducible refine wpList_build14 #[(1, .const (.int .i64 1)), (2, .const (.string ⟨#[97]⟩)), (3, .tmp 124)] [(1, .int .i64 1), (2, .string ⟨#[97]⟩), (3, .agg qL)] rfl rfl ?_ (HB14.out.2.1 _ _) ?_); (· simp only [List.map_toArray, List.map_cons, List.map_nil]; rfl)); simp only [Act.put, List.setIfInBounds_toArray, List.set_cons_succ, List.set_cons_zero])
                    | (((with_reducible refine wpList_build14 #[(1, .const (.int .i64 1)), (2, .const (.string ⟨#[100]⟩)), (3, .tmp 126)] [(1, .int .i64 1), (2, .string ⟨#[100]⟩), (3, .agg qL)] rfl rfl ?_ (HB14.out.2.1 _ _) ?_); (· simp only [List.map_toArray, List.map_cons, List.map_nil]; rfl)); simp only [Act.put, List.setIfInBounds_toArray, List.set_cons_succ, List.set_cons_zero])
                    | (((with_reducible refine wpList_build14 #[(1, .const (.int .i64 1)), (2, .const (.string ⟨#[100]⟩)), (3, .tmp 130)] [(1, .int .i64 1), (2, .string ⟨#[100]⟩), (3, .agg qL)] rfl rfl ?_ (HB14.out.2.1 _ _) ?_); (· simp only [List.map_toArray, List.map_cons, List.map_nil]; rfl)); simp only [Act.put, List.setIfInBounds_toArray, List.set_cons_succ, List.set_cons_zero])
                    | (((with_reducible refine wpList_build14 #[(0, .const (.int .i64 2)), (1, .const (.int .i64 1)), (2, .const (.string ⟨#[98]⟩))] [(0, .int .i64 2), (1, .int .i64 1), (2, .string ⟨#[98]⟩)] rfl rfl ?_ (HB14.out.2.2.2 _ _ _) ?_); (· simp only [List.map_toArray, List.map_cons, List.map_nil]; rfl)); simp only [Act.put, List.setIfInBounds_toArray, List.set_cons_succ, List.set_cons_zero])
                    | (((with_reducible refine wpList_rows14 #[(0, .tmp 113), (1, .tmp 117), (2, .tmp 119), (3, .tmp 121), (4, .tmp 123), (5, .tmp 125), (6, .tmp 127), (7, .tmp 128), (8, .tmp 129), (9, .tmp 131)] #[(0, .agg (deA ⟨0, (n : Int), ⟨#[97]⟩, xP, .slice none 0 0, []⟩)), (1, .agg (deA ⟨0, ((n : Int) - 1), ⟨#[]⟩, xP, .slice none 0 0, []⟩)), (2, .agg (deA ⟨0, (n : Int), ⟨#[98]⟩, xZ, .slice none 0 0, []⟩)), (3, .agg (deA ⟨0, 1, ⟨#[99]⟩, xQ, .slice none 0 0, []⟩)), (4, .agg (deA ⟨0, 1, ⟨#[98]⟩, xQ, .slice none 0 0, []⟩)), (5, .agg (deA ⟨0, 1, ⟨#[97]⟩, xQ, .slice none 0 0, []⟩)), (6, .agg (deA ⟨0, 1, ⟨#[100]⟩, xQ, .slice none 0 0, []⟩)), (7, .agg (deA ⟨2, 1, ⟨#[98]⟩, xZ, .slice none 0 0, []⟩)), (8, .agg (deA ⟨2, 1, ⟨#[98]⟩, xZ, .slice none 0 0, []⟩)), (9, .agg (deA ⟨0, 1, ⟨#[100]⟩, xQ, .slice none 0 0, []⟩))] rfl rfl ?_ HRT.out ?_); (· simp only [List.map_toArray, List.map_cons, List.map_nil]; rfl)); simp only [Act.put, List.setIfInBounds_toArray, List.set_cons_succ, List.set_cons_zero])
                    | (go_at_call 3; refine (viewDoes_any WD _ _ _ _ HQD.out HDD.out _ _).mono ?_; rintro e w8 ⟨rfl, hf8⟩; (have H8 := Lib.hid (HFD.out.trans hf8 (fun _ h => h.elim))); clear hf8))
                  go_roundw
                  case rel => exact ⟨n + 1, by have := HLT.out; omega, rfl, by go_num, H8⟩
                  case measure => have := HLT.out; simp [intOf]; omega
        · have d1 : decide ((n : Int) < 12) = false := by rw [decide_eq_false_iff_not]; omega
          have HF := Lib.hid hR.out
          clear hlt hn hR
          obtain ⟨gz, hgz⟩ : ∃ gz, gz = wr.heap.size := ⟨_, rfl⟩
          obtain ⟨W3, hW3⟩ : ∃ W3, W3 = wr.alloc (.cells ((List.replicate 63 (0 : UInt8)).map bv).toArray 5) := ⟨_, rfl⟩
          have hf3 : Fr (fun _ => False) wr W3 := by rw [hW3]; exact (Fr.refl _ _).alloc _
          have hmk := run_make_bytes wr 63 63 rfl (by decide)
          have hb3 := heap_alloc_new wr (.cells ((List.replicate 63 (0 : UInt8)).map bv).toArray 5)
          rw [← hW3, ← hgz] at hmk hb3
          obtain ⟨K, hK⟩ : ∃ K : ByteArray, K = ⟨z63.toArray⟩ := ⟨_, rfl⟩
          have hcv := run_bytes_str W3 (.slice (some ⟨gz, 0, none⟩) 63 63) z63 (BytT.bytes14 (L := z63) hb3 63 (by unfold z63; rw [List.length_replicate]) (by decide))
          rw [← hK] at hcv
          have HKZ := Lib.hid (show K.size = 63 by rw [hK]; show z63.toArray.size = 63; rw [List.size_toArray]; unfold z63; rw [List.length_replicate])
          have HMK := Lib.hid (And.intro hmk hcv)
          have HF3 := Lib.hid (HF.out.trans hf3 (fun _ h => h.elim))
          clear hgz hW3 hf3 hmk hb3 hK hcv
          go_wp2_with (first
            | (refine Go.Proofs.Ytdpaobflknkbkaa.wpList_value rfl (.slice (some ⟨gz, 0, none⟩) 63 63) W3 (op_make14 rfl rfl rfl HMK.out.1) ?_; simp only [Act.put, List.setIfInBounds_toArray, List.set_cons_succ, List.set_cons_zero])
            | (refine Go.Proofs.Ytdpaobflknkbkaa.wpList_value rfl (.string K) W3 (op_conv14 rfl rfl HMK.out.2) ?_; simp only [Act.put, List.setIfInBounds_toArray, List.set_cons_succ, List.set_cons_zero]))
          go_loopw [0, 10] (fun rv iv wq => ∃ n : Nat, n ≤ 124 ∧ rv = .bool false ∧ iv = .int .i64 n ∧ Hid (Fr (fun _ => False) w wq)) (fun _ iv _ => 124 - (intOf iv).toNat)
          case atStart => exact ⟨0, by omega, rfl, rfl, HF3⟩
          case round =>
            obtain ⟨m, hm, rfl, rfl, hT⟩ := hrel
            by_cases hlm : m < 64
            · have d2 : decide ((m : Int) < 64) = true := by rw [decide_eq_true_iff]; omega
              have d3 : (m : Int) < 64 := by omega
              have d4 : (0 : Int) ≤ (m : Int) := by omega
              have HT := Lib.hid hT.out
              have HLM := Lib.hid hlm
              obtain ⟨n7, hn7⟩ : ∃ n7, n7 = m := ⟨_, rfl⟩
              have HKN := Lib.hid (show n7 ≤ K.size by rw [HKZ.out]; omega)
              have HKX := Lib.hid (cut_size K n7 (by rw [HKZ.out]; decide))
              rw [← hn7] at HLM ⊢
              rw [← hn7] at d2 d3 d4
              have HNN := Lib.hid hn7
              clear hT hlm hm hn7
              go_wp2_with fail
              refine wp_region_inv 15 (by kernel_rfl) (by kernel_rfl) (fun W => Fr (fun _ => False) wr W) (VeK n7 K) (fun _ _ _ _ => True) (Fr (fun _ => False)) (VeK.ext n7 K) (Fr.refl _ _).drew ?_ ?_
              · intro i hi o ho
                replace hi : i < 15 := hi
                obtain rfl | rfl | rfl | rfl | rfl | rfl | rfl | rfl | rfl | rfl | rfl | rfl | rfl | rfl | rfl : i = 0 ∨ i = 1 ∨ i = 2 ∨ i = 3 ∨ i = 4 ∨ i = 5 ∨ i = 6 ∨ i = 7 ∨ i = 8 ∨ i = 9 ∨ i = 10 ∨ i = 11 ∨ i = 12 ∨ i = 13 ∨ i = 14 := by omega
                · simp only [List.getElem?_cons_zero, Option.some.injEq] at ho
                  subst ho
                  intro a W vs hB hS hE hU
                  refine wpG_plain rfl ?_
                  have v9 : a.eval (.tmp 9) = .string K := (hU 9 (by kernel_rfl)).trans rfl
                  clear hE hU
                  exact wp_value_inv (w' := W) (.string K) (op_move rfl v9) ⟨_, rfl, hB, Fr.refl _ _, rfl, fun _ _ _ _ _ => trivial⟩
                · simp only [List.getElem?_cons_zero, List.getElem?_cons_succ, Option.some.injEq] at ho
                  subst ho
                  intro a W vs hB hS hE hU
                  refine wpG_plain rfl ?_
                  have v10 : a.eval (.tmp 10) = .int .i64 (n7 : Nat) := (hU 10 (by kernel_rfl)).trans rfl
                  clear hE hU
                  exact wp_value_inv (w' := W) (.int .i64 (n7 : Nat)) (op_move rfl v10) ⟨_, rfl, hB, Fr.refl _ _, rfl, fun _ _ _ _ _ => trivial⟩
                · simp only [List.getElem?_cons_zero, List.getElem?_cons_succ, Option.some.injEq] at ho
                  subst ho
                  intro a W vs hB hS hE hU
                  refine wpG_plain rfl ?_
                  obtain ⟨r0, e147⟩ := hE 0 147 (by kernel_rfl) (by kernel_rfl)
                  have v147 : a.eval (.tmp 147) = .string K := e147.trans r0
                  obtain ⟨r1, e148⟩ := hE 1 148 (by kernel_rfl) (by kernel_rfl)
                  have v148 : a.eval (.tmp 148) = .int .i64 (n7 : Nat) := e148.trans r1
                  clear hE hU
                  exact wp_value_inv (w' := W) (.string (K.extract 0 n7)) (op_slice_h9 rfl v147 v148 (run_cut_str W K n7 HKN.out)) ⟨_, rfl, hB, Fr.refl _ _, rfl, fun _ _ _ _ _ => trivial⟩
                · simp only [List.getElem?_cons_zero, List.getElem?_cons_succ, Option.some.injEq] at ho
                  subst ho
                  intro a W vs hB hS hE hU
                  refine wpG_plain rfl ?_
                  clear hE hU
                  have hfa : Fr (fun _ => False) W (W.alloc (.cells ((List.replicate 2048 (0 : UInt8)).map bv).toArray 5)) := (Fr.refl _ _).alloc _
                  exact wp_value_inv (w' := W.alloc (.cells ((List.replicate 2048 (0 : UInt8)).map bv).toArray 5)) (.slice (some ⟨W.heap.size, 0, none⟩) 2048 2048) (op_make14 rfl rfl rfl (run_make_bytes W 2048 2048 rfl (by decide))) ⟨_, rfl, hB.trans hfa (fun _ h => h.elim), hfa, ⟨W.heap.size, rfl, (BytT.bytes14 (L := z20) (heap_alloc_new W _) 2048 (by first | exact z20_len | exact z21_len) (by decide)).mono (fun k hk e => by rw [show k = W.heap.size from e]; exact lt_of_block (heap_alloc_new W _))⟩, fun _ _ _ _ _ => trivial⟩
                · simp only [List.getElem?_cons_zero, List.getElem?_cons_succ, Option.some.injEq] at ho
                  subst ho
                  intro a W vs hB hS hE hU
                  refine wpG_plain rfl ?_
                  obtain ⟨r2, e149⟩ := hE 2 149 (by kernel_rfl) (by kernel_rfl)
                  have v149 : a.eval (.tmp 149) = .string (K.extract 0 n7) := e149.trans r2
                  obtain ⟨⟨gi3, rg3, rh3⟩, e150⟩ := hE 3 150 (by kernel_rfl) (by kernel_rfl)
                  have v150 : a.eval (.tmp 150) = .slice (some ⟨gi3, 0, none⟩) 2048 2048 := e150.trans rg3
                  clear hE hU
                  exact wp_value_inv (w' := W) (.agg (deA ⟨3, 1, (K.extract 0 n7), xZ, .slice (some ⟨gi3, 0, none⟩) 2048 2048, z20⟩)) (op_build rfl (vs := #[(0, .int .i64 3), (1, .int .i64 1), (2, .string (K.extract 0 n7)), (4, .slice (some ⟨gi3, 0, none⟩) 2048 2048)]) (by simp only [List.map_toArray, List.map_cons, List.map_nil, eval_const5, v149, v150]) (b_0124 3 1 _ _ _ _ _)) ⟨_, rfl, hB, Fr.refl _ _, ⟨gi3, rfl, rh3⟩, fun _ _ _ _ _ => trivial⟩
                · simp only [List.getElem?_cons_zero, List.getElem?_cons_succ, Option.some.injEq] at ho
                  subst ho
                  intro a W vs hB hS hE hU
                  refine wpG_plain rfl ?_
                  clear hE hU
                  have hfa : Fr (fun _ => False) W (W.alloc (.cells ((List.replicate 2049 (0 : UInt8)).map bv).toArray 5)) := (Fr.refl _ _).alloc _
                  exact wp_value_inv (w' := W.alloc (.cells ((List.replicate 2049 (0 : UInt8)).map bv).toArray 5)) (.slice (some ⟨W.heap.size, 0, none⟩) 2049 2049) (op_make14 rfl rfl rfl (run_make_bytes W 2049 2049 rfl (by decide))) ⟨_, rfl, hB.trans hfa (fun _ h => h.elim), hfa, ⟨W.heap.size, rfl, (BytT.bytes14 (L := z21) (heap_alloc_new W _) 2049 (by first | exact z20_len | exact z21_len) (by decide)).mono (fun k hk e => by rw [show k = W.heap.size from e]; exact lt_of_block (heap_alloc_new W _))⟩, fun _ _ _ _ _ => trivial⟩
                · simp only [List.getElem?_cons_zero, List.getElem?_cons_succ, Option.some.injEq] at ho
                  subst ho
                  intro a W vs hB hS hE hU
                  refine wpG_plain rfl ?_
                  obtain ⟨⟨gi5, rg5, rh5⟩, e152⟩ := hE 5 152 (by kernel_rfl) (by kernel_rfl)
                  have v152 : a.eval (.tmp 152) = .slice (some ⟨gi5, 0, none⟩) 2049 2049 := e152.trans rg5
                  clear hE hU
                  exact wp_value_inv (w' := W) (.agg (deA ⟨3, 1, ⟨#[120]⟩, xZ, .slice (some ⟨gi5, 0, none⟩) 2049 2049, z21⟩)) (op_build rfl (vs := #[(0, .int .i64 3), (1, .int .i64 1), (2, .string ⟨#[120]⟩), (4, .slice (some ⟨gi5, 0, none⟩) 2049 2049)]) (by simp only [List.map_toArray, List.map_cons, List.map_nil, eval_const5, v152]) (b_0124 3 1 _ _ _ _ _)) ⟨_, rfl, hB, Fr.refl _ _, ⟨gi5, rfl, rh5⟩, fun _ _ _ _ _ => trivial⟩
                · simp only [List.getElem?_cons_zero, List.getElem?_cons_succ, Option.some.injEq] at ho
                  subst ho
                  intro a W vs hB hS hE hU
                  refine wpG_plain rfl ?_
                  clear hE hU
                  exact wp_value_inv (w' := W) (.agg (deA ⟨4, 1, ⟨#[120]⟩, xZ, .slice none 0 0, []⟩)) (op_build rfl (vs := #[(0, .int .i64 4), (1, .int .i64 1), (2, .string ⟨#[120]⟩)]) (by simp only [List.map_toArray, List.map_cons, List.map_nil, eval_const5]) (b_012 4 1 _)) ⟨_, rfl, hB, Fr.refl _ _, rfl, fun _ _ _ _ _ => trivial⟩
                · simp only [List.getElem?_cons_zero, List.getElem?_cons_succ, Option.some.injEq] at ho
                  subst ho
                  intro a W vs hB hS hE hU
                  refine wpG_plain rfl ?_
                  clear hE hU
                  have hfa : Fr (fun _ => False) W (W.alloc (.cells (([1] : List UInt8).map bv).toArray 5)) := (Fr.refl _ _).alloc _
                  exact wp_value_inv (w' := W.alloc (.cells (([1] : List UInt8).map bv).toArray 5)) (.slice (some ⟨W.heap.size, 0, none⟩) 1 1) (op_rows rfl (vs := #[(0, .int .u8 1)]) (by simp only [List.map_toArray, List.map_cons, List.map_nil, eval_const5]) (run_one14 W)) ⟨_, rfl, hB.trans hfa (fun _ h => h.elim), hfa, ⟨W.heap.size, rfl, (BytT.bytes14 (L := [1]) (heap_alloc_new W _) 1 rfl (by decide)).mono (fun k hk e => by rw [show k = W.heap.size from e]; exact lt_of_block (heap_alloc_new W _))⟩, fun _ _ _ _ _ => trivial⟩
                · simp only [List.getElem?_cons_zero, List.getElem?_cons_succ, Option.some.injEq] at ho
                  subst ho
                  intro a W vs hB hS hE hU
                  refine wpG_plain rfl ?_
                  obtain ⟨⟨gi8, rg8, rh8⟩, e155⟩ := hE 8 155 (by kernel_rfl) (by kernel_rfl)
                  have v155 : a.eval (.tmp 155) = .slice (some ⟨gi8, 0, none⟩) 1 1 := e155.trans rg8
                  clear hE hU
                  exact wp_value_inv (w' := W) (.agg (deA ⟨4, 1, ⟨#[120]⟩, xZ, .slice (some ⟨gi8, 0, none⟩) 1 1, [1]⟩)) (op_build rfl (vs := #[(0, .int .i64 4), (1, .int .i64 1), (2, .string ⟨#[120]⟩), (4, .slice (some ⟨gi8, 0, none⟩) 1 1)]) (by simp only [List.map_toArray, List.map_cons, List.map_nil, eval_const5, v155]) (b_0124 4 1 _ _ _ _ _)) ⟨_, rfl, hB, Fr.refl _ _, ⟨gi8, rfl, rh8⟩, fun _ _ _ _ _ => trivial⟩
                · simp only [List.getElem?_cons_zero, List.getElem?_cons_succ, Option.some.injEq] at ho
                  subst ho
                  intro a W vs hB hS hE hU
                  refine wpG_plain rfl ?_
                  clear hE hU
                  exact wp_value_inv (w' := W) (.agg (deA ⟨3, 1, ⟨#[121]⟩, xZ, .slice none 0 0, []⟩)) (op_build rfl (vs := #[(0, .int .i64 3), (1, .int .i64 1), (2, .string ⟨#[121]⟩)]) (by simp only [List.map_toArray, List.map_cons, List.map_nil, eval_const5]) (b_012 3 1 _)) ⟨_, rfl, hB, Fr.refl _ _, rfl, fun _ _ _ _ _ => trivial⟩
                · simp only [List.getElem?_cons_zero, List.getElem?_cons_succ, Option.some.injEq] at ho
                  subst ho
                  intro a W vs hB hS hE hU
                  refine wpG_plain rfl ?_
                  clear hE hU
                  exact wp_value_inv (w' := W) (.agg (deA ⟨5, 1, ⟨#[120]⟩, xZ, .slice none 0 0, []⟩)) (op_build rfl (vs := #[(0, .int .i64 5), (1, .int .i64 1), (2, .string ⟨#[120]⟩)]) (by simp only [List.map_toArray, List.map_cons, List.map_nil, eval_const5]) (b_012 5 1 _)) ⟨_, rfl, hB, Fr.refl _ _, rfl, fun _ _ _ _ _ => trivial⟩
                · simp only [List.getElem?_cons_zero, List.getElem?_cons_succ, Option.some.injEq] at ho
                  subst ho
                  intro a W vs hB hS hE hU
                  refine wpG_plain rfl ?_
                  clear hE hU
                  exact wp_value_inv (w' := W) (.agg (deA ⟨5, 1, ⟨#[120]⟩, xZ, .slice none 0 0, []⟩)) (op_build rfl (vs := #[(0, .int .i64 5), (1, .int .i64 1), (2, .string ⟨#[120]⟩)]) (by simp only [List.map_toArray, List.map_cons, List.map_nil, eval_const5]) (b_012 5 1 _)) ⟨_, rfl, hB, Fr.refl _ _, rfl, fun _ _ _ _ _ => trivial⟩
                · simp only [List.getElem?_cons_zero, List.getElem?_cons_succ, Option.some.injEq] at ho
                  subst ho
                  intro a W vs hB hS hE hU
                  refine wpG_plain rfl ?_
                  clear hE hU
                  exact wp_value_inv (w' := W) (.agg (deA ⟨3, 1, ⟨#[121]⟩, xZ, .slice none 0 0, []⟩)) (op_build rfl (vs := #[(0, .int .i64 3), (1, .int .i64 1), (2, .string ⟨#[121]⟩)]) (by simp only [List.map_toArray, List.map_cons, List.map_nil, eval_const5]) (b_012 3 1 _)) ⟨_, rfl, hB, Fr.refl _ _, rfl, fun _ _ _ _ _ => trivial⟩
                · simp only [List.getElem?_cons_zero, List.getElem?_cons_succ, Option.some.injEq] at ho
                  subst ho
                  intro a W vs hB hS hE hU
                  refine wpG_plain rfl ?_
                  obtain ⟨⟨gi4, rg4, rh4⟩, e151⟩ := hE 4 151 (by kernel_rfl) (by kernel_rfl)
                  have v151 : a.eval (.tmp 151) = .agg (deA ⟨3, 1, (K.extract 0 n7), xZ, .slice (some ⟨gi4, 0, none⟩) 2048 2048, z20⟩) := e151.trans rg4
                  obtain ⟨⟨gi6, rg6, rh6⟩, e153⟩ := hE 6 153 (by kernel_rfl) (by kernel_rfl)
                  have v153 : a.eval (.tmp 153) = .agg (deA ⟨3, 1, ⟨#[120]⟩, xZ, .slice (some ⟨gi6, 0, none⟩) 2049 2049, z21⟩) := e153.trans rg6
                  obtain ⟨r7, e154⟩ := hE 7 154 (by kernel_rfl) (by kernel_rfl)
                  have v154 : a.eval (.tmp 154) = .agg (deA ⟨4, 1, ⟨#[120]⟩, xZ, .slice none 0 0, []⟩) := e154.trans r7
                  obtain ⟨⟨gi9, rg9, rh9⟩, e156⟩ := hE 9 156 (by kernel_rfl) (by kernel_rfl)
                  have v156 : a.eval (.tmp 156) = .agg (deA ⟨4, 1, ⟨#[120]⟩, xZ, .slice (some ⟨gi9, 0, none⟩) 1 1, [1]⟩) := e156.trans rg9
                  obtain ⟨r10, e157⟩ := hE 10 157 (by kernel_rfl) (by kernel_rfl)
                  have v157 : a.eval (.tmp 157) = .agg (deA ⟨3, 1, ⟨#[121]⟩, xZ, .slice none 0 0, []⟩) := e157.trans r10
                  obtain ⟨r11, e158⟩ := hE 11 158 (by kernel_rfl) (by kernel_rfl)
                  have v158 : a.eval (.tmp 158) = .agg (deA ⟨5, 1, ⟨#[120]⟩, xZ, .slice none 0 0, []⟩) := e158.trans r11
                  obtain ⟨r12, e159⟩ := hE 12 159 (by kernel_rfl) (by kernel_rfl)
                  have v159 : a.eval (.tmp 159) = .agg (deA ⟨5, 1, ⟨#[120]⟩, xZ, .slice none 0 0, []⟩) := e159.trans r12
                  obtain ⟨r13, e160⟩ := hE 13 160 (by kernel_rfl) (by kernel_rfl)
                  have v160 : a.eval (.tmp 160) = .agg (deA ⟨3, 1, ⟨#[121]⟩, xZ, .slice none 0 0, []⟩) := e160.trans r13
                  clear hE hU
                  have hfa : Fr (fun _ => False) W (W.alloc (.cells ((eight14 (K.extract 0 n7) gi4 gi6 gi9).map deC).flatten.toArray 46)) := (Fr.refl _ _).alloc _
                  exact wp_value_inv (w' := W.alloc (.cells ((eight14 (K.extract 0 n7) gi4 gi6 gi9).map deC).flatten.toArray 46)) (.slice (some ⟨W.heap.size, 0, none⟩) 8 8) (op_rows rfl (vs := #[(0, .agg (deA ⟨3, 1, (K.extract 0 n7), xZ, .slice (some ⟨gi4, 0, none⟩) 2048 2048, z20⟩)), (1, .agg (deA ⟨3, 1, ⟨#[120]⟩, xZ, .slice (some ⟨gi6, 0, none⟩) 2049 2049, z21⟩)), (2, .agg (deA ⟨4, 1, ⟨#[120]⟩, xZ, .slice none 0 0, []⟩)), (3, .agg (deA ⟨4, 1, ⟨#[120]⟩, xZ, .slice (some ⟨gi9, 0, none⟩) 1 1, [1]⟩)), (4, .agg (deA ⟨3, 1, ⟨#[121]⟩, xZ, .slice none 0 0, []⟩)), (5, .agg (deA ⟨5, 1, ⟨#[120]⟩, xZ, .slice none 0 0, []⟩)), (6, .agg (deA ⟨5, 1, ⟨#[120]⟩, xZ, .slice none 0 0, []⟩)), (7, .agg (deA ⟨3, 1, ⟨#[121]⟩, xZ, .slice none 0 0, []⟩))]) (by simp only [List.map_toArray, List.map_cons, List.map_nil, v151, v153, v154, v156, v157, v158, v159, v160]) (run_eight14 W _ _ _ _)) ⟨_, rfl, hB.trans hfa (fun _ h => h.elim), hfa, ⟨W.heap.size, (eight14 (K.extract 0 n7) gi4 gi6 gi9), rfl, deeds_made (eight14 (K.extract 0 n7) gi4 gi6 gi9) 8 rfl (by decide) (heap_alloc_new W _) (lt_of_block (heap_alloc_new W _)) (eight14_ok _ _ _ HKX.out _ _ _ (up9 rh4) (up9 rh6) (up9 rh9))⟩, fun _ _ _ _ _ => trivial⟩
              · intro vs Wb hB0 hR0 hD
                obtain ⟨gl, XL, r161, hdl⟩ := hR0 14 (by decide)
                have HB := Lib.hid hB0
                have HD8 := Lib.hid hdl
                clear hR0 hD hB0 hdl
                simp only [acts, if_true, dstAt, List.getElem?_cons_zero, List.getElem?_cons_succ, Option.bind_some, Act.put, List.setIfInBounds_toArray, List.set_cons_succ, List.set_cons_zero, List.drop_succ_cons]
                simp only [r161]
                clear r161
                have hfD := HB.out
                obtain ⟨gq, hgq⟩ : ∃ gq, gq = Wb.heap.size := ⟨_, rfl⟩
                obtain ⟨WQ, hWQ⟩ : ∃ WQ, WQ = Wb.alloc (.cells (([⟨0, 0, 0, ((n7 % 3 : Nat) : Int)⟩] : List Qt).map qC).flatten.toArray 38) := ⟨_, rfl⟩
                have hfQ : Fr (fun _ => False) Wb WQ := by rw [hWQ]; exact (Fr.refl _ _).alloc _
                have hrq := run_q1 Wb 0 0 0 ((n7 % 3 : Nat) : Int)
                have hbQ := heap_alloc_new Wb (.cells (([⟨0, 0, 0, ((n7 % 3 : Nat) : Int)⟩] : List Qt).map qC).flatten.toArray 38)
                rw [← hWQ, ← hgq] at hrq hbQ
                have HRQ := Lib.hid hrq
                have HQQ := Lib.hid (qs_made (w := WQ) [⟨0, 0, 0, ((n7 % 3 : Nat) : Int)⟩] 1 rfl (by decide) hbQ)
                have HDQ := Lib.hid ((HD8.out.quiet hfQ).mono (G := fun k => k < WQ.heap.size) (fun k hk _ => hk))
                have HFQ := Lib.hid ((HT.out.trans hfD (fun _ h => h.elim)).trans hfQ (fun _ h => h.elim))
                have e3 : (n7 : Int).tmod 3 = ((n7 % 3 : Nat) : Int) := by rw [Int.tmod_eq_emod_of_nonneg (by omega)]; omega
                clear hgq hWQ hfQ hrq hbQ hfD HB HT HD8
                go_wp2_with (first
                  | (((with_reducible refine wpList_rows14 #[(0, .tmp 164)] #[(0, .agg #[.int .i64 0, .int .i64 0, .int .i64 0, .int .i64 ((n7 % 3 : Nat) : Int)])] rfl rfl ?_ HRQ.out ?_); (· simp only [List.map_toArray, List.map_cons, List.map_nil]; rfl)); simp only [Act.put, List.setIfInBounds_toArray, List.set_cons_succ, List.set_cons_zero])
                  | (go_at_call 3; refine (viewDoes_any WQ _ _ _ _ HQQ.out HDQ.out _ _).mono ?_; rintro e w8 ⟨rfl, hf8⟩; (have H8 := Lib.hid (HFQ.out.trans hf8 (fun _ h => h.elim))); clear hf8))
                go_roundw
                case rel => exact ⟨n7 + 1 + n7 % 2 * 60, by have := HLM.out; omega, rfl, by go_num, H8⟩
                case measure => have := HLM.out; have := HNN.out; simp [intOf]; omega
            · have d2 : decide ((m : Int) < 64) = false := by rw [decide_eq_false_iff_not]; omega
              have HT := Lib.hid hT.out
              clear hT hlm hm
              go_wp2_with (first
                | (go_at_call 21; refine (none14_any _).mono ?_; rintro e w2 ⟨rfl, hf2⟩; (have H2 := Lib.hid (HT.out.trans hf2 (fun _ h => h.elim))); clear hf2)
                | (go_at_call 9; refine (awake_any _).mono ?_; rintro e w3 ⟨rfl, hf3⟩; (have H3 := Lib.hid (H2.out.trans hf3 (fun _ h => h.elim))); clear hf3))
              go_ret
              exact ⟨rfl, H3.out⟩
end Go.Proofs.Ytdpaobflknkbkaa
