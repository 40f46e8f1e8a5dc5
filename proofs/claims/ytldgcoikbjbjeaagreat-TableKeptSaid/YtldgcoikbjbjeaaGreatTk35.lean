/- Laid together: TAwake -/
import Derived.Test.YtldgcoikbjbjeaaGreatTk30
import Derived.Test.YtldgcoikbjbjeaaGreatTk34
import Derived.Test.YtldgcoikbjbjeaaGreatTk23
import Derived.Lib.SlBytesConst

namespace Go.Proofs.YtldgcoikbjbjeaaGreat
open Go.RowKit Go.ChangeShapes
set_option linter.unusedVariables false
theorem bytes_made1 (w : World) (x : UInt8) (T : TypeId) (q : Nat × Nat) : BytesIn (fun k => k = w.heap.size) (w.alloc (.cells #[bv x] T q)) (.slice (some ⟨w.heap.size, 0, none⟩) 1 1) [x] := by
  refine ⟨_, 1, rfl, Nat.le_refl _, (by unfold maxLen; decide), (fun h => by cases h), fun a ha => ?_⟩
  obtain rfl : (⟨w.heap.size, 0, none⟩ : Addr) = a := by simpa using ha
  refine ⟨fun j u hj => ?_, fun _ => rfl⟩
  match j with
  | 0 =>
    simp at hj
    rw [← hj]
    rw [addr_plain]
    have hb := heap_alloc_new w (.cells #[bv x] T q)
    rw [World.cell?, hb]
    rfl
  | j + 1 => simp at hj
theorem hasPrefix_nil6 (s : Bs) : Lib.hasPrefix s (⟨#[]⟩ : ByteArray).data.toList = true := by simp [Lib.hasPrefix]
theorem rows2 {a b c d : Bs} {l : List RowD} (h : l.map RowD.row = [(a, b), (c, d)]) : ∃ x y, l = [⟨⟨a.toArray⟩, x, b⟩, ⟨⟨c.toArray⟩, y, d⟩] := by
  match l, h with
  | [⟨k1, x, b1⟩, ⟨k2, y, b2⟩], h =>
    simp only [List.map_cons, List.map_nil, RowD.row, List.cons.injEq, Prod.mk.injEq, and_true] at h
    obtain ⟨⟨rfl, rfl⟩, rfl, rfl⟩ := h
    exact ⟨x, y, by simp⟩
theorem chgs_made2 {G : Nat → Prop} {w : World} {b : Nat} {p1 p2 : ChgD} (h : w.heap[b]? = some (.cells #[.string p1.key, p1.x, .bool p1.gone, .string p2.key, p2.x, .bool p2.gone] 53 (0, 0))) (hb : G b) (h1 : BytesIn G w p1.x p1.B) (h2 : BytesIn G w p2.x p2.B) : ChgsIn G w (.slice (some ⟨b, 0, none⟩) 2 2) [p1, p2] := by
  refine ⟨⟨_, 2, rfl, Nat.le_refl _, by decide, fun c hc => ?_, fun _ => ⟨b, 0, rfl, hb, fun i hi j hj => ?_⟩⟩, fun p hp => ?_⟩
  · obtain ⟨p, _, rfl⟩ := List.mem_map.1 hc
    rfl
  · rw [cell_of_row _ _ _ _ _ _ h]
    have hi' : i = 0 ∨ i = 1 := by simp at hi; omega
    have hj' : j = 0 ∨ j = 1 ∨ j = 2 := by omega
    rcases hi' with rfl | rfl <;> rcases hj' with rfl | rfl | rfl <;> rfl
  · simp only [List.mem_cons, List.not_mem_nil, or_false] at hp
    rcases hp with rfl | rfl
    · exact h1
    · exact h2
def awP1 (w : World) : List ChgD := [⟨⟨#[97]⟩, .slice (some ⟨w.heap.size, 0, none⟩) 1 1, [49], false⟩, ⟨⟨#[98]⟩, .slice (some ⟨w.heap.size + 1, 0, none⟩) 1 1, [50], false⟩]
def awW1 (w : World) : World := ((w.alloc (.cells #[.int .u8 49] 5 (1, 2))).alloc (.cells #[.int .u8 50] 5 (1, 2))).alloc (.cells #[.string ⟨#[97]⟩, .slice (some ⟨w.heap.size, 0, none⟩) 1 1, .bool false, .string ⟨#[98]⟩, .slice (some ⟨w.heap.size + 1, 0, none⟩) 1 1, .bool false] 53)
theorem awW1_fr (w : World) : Fr (fun _ => False) w (awW1 w) := (((Fr.refl _ _).alloc _).alloc _).alloc _
theorem awW1_size (w : World) : (awW1 w).heap.size = w.heap.size + 3 := by unfold awW1; simp
theorem awW1_in (w : World) : ChgsIn (fun k => w.heap.size ≤ k ∧ k < w.heap.size + 3) (awW1 w) (.slice (some ⟨w.heap.size + 1 + 1, 0, none⟩) 2 2) (awP1 w) := by
  have hb := heap_alloc2_new (w.alloc (.cells #[.int .u8 49] 5 (1, 2))) (.cells #[.int .u8 50] 5 (1, 2)) (.cells #[.string ⟨#[97]⟩, .slice (some ⟨w.heap.size, 0, none⟩) 1 1, .bool false, .string ⟨#[98]⟩, .slice (some ⟨w.heap.size + 1, 0, none⟩) 1 1, .bool false] 53)
  rw [show (w.alloc (.cells #[.int .u8 49] 5 (1, 2))).heap.size = w.heap.size + 1 by simp] at hb
  have b1 := (bytes_made1 w 49 5 (1, 2)).keep (((Fr.refl (fun _ => False) _).alloc (.cells #[.int .u8 50] 5 (1, 2))).alloc (.cells #[.string ⟨#[97]⟩, .slice (some ⟨w.heap.size, 0, none⟩) 1 1, .bool false, .string ⟨#[98]⟩, .slice (some ⟨w.heap.size + 1, 0, none⟩) 1 1, .bool false] 53)) (fun _ _ _ h => h)
  have b2 := (bytes_made1 (w.alloc (.cells #[.int .u8 49] 5 (1, 2))) 50 5 (1, 2)).keep ((Fr.refl (fun _ => False) _).alloc (.cells #[.string ⟨#[97]⟩, .slice (some ⟨w.heap.size, 0, none⟩) 1 1, .bool false, .string ⟨#[98]⟩, .slice (some ⟨w.heap.size + 1, 0, none⟩) 1 1, .bool false] 53)) (fun _ _ _ h => h)
  rw [show (w.alloc (.cells #[.int .u8 49] 5 (1, 2))).heap.size = w.heap.size + 1 by simp] at b2
  exact chgs_made2 (p1 := ⟨⟨#[97]⟩, .slice (some ⟨w.heap.size, 0, none⟩) 1 1, [49], false⟩) (p2 := ⟨⟨#[98]⟩, .slice (some ⟨w.heap.size + 1, 0, none⟩) 1 1, [50], false⟩) hb (by omega) (b1.mono (fun k _ (e : k = w.heap.size) => by omega)) (b2.mono (fun k _ (e : k = w.heap.size + 1) => by omega))
def awP2 (w : World) : List ChgD := [⟨⟨#[97]⟩, .slice none 0 0, [], true⟩, ⟨⟨#[99]⟩, .slice (some ⟨w.heap.size, 0, none⟩) 1 1, [51], false⟩]
def awW2 (w : World) : World := (w.alloc (.cells #[.int .u8 51] 5 (1, 2))).alloc (.cells #[.string ⟨#[97]⟩, .slice none 0 0, .bool true, .string ⟨#[99]⟩, .slice (some ⟨w.heap.size, 0, none⟩) 1 1, .bool false] 53)
theorem awW2_fr (w : World) : Fr (fun _ => False) w (awW2 w) := ((Fr.refl _ _).alloc _).alloc _
theorem awW2_size (w : World) : (awW2 w).heap.size = w.heap.size + 2 := by unfold awW2; simp
theorem awW2_in (w : World) : ChgsIn (fun k => w.heap.size ≤ k ∧ k < w.heap.size + 2) (awW2 w) (.slice (some ⟨w.heap.size + 1, 0, none⟩) 2 2) (awP2 w) := by
  have hb := heap_alloc2_new w (.cells #[.int .u8 51] 5 (1, 2)) (.cells #[.string ⟨#[97]⟩, .slice none 0 0, .bool true, .string ⟨#[99]⟩, .slice (some ⟨w.heap.size, 0, none⟩) 1 1, .bool false] 53)
  have b1 := (bytes_made1 w 51 5 (1, 2)).keep ((Fr.refl (fun _ => False) _).alloc (.cells #[.string ⟨#[97]⟩, .slice none 0 0, .bool true, .string ⟨#[99]⟩, .slice (some ⟨w.heap.size, 0, none⟩) 1 1, .bool false] 53)) (fun _ _ _ h => h)
  exact chgs_made2 (p1 := ⟨⟨#[97]⟩, .slice none 0 0, [], true⟩) (p2 := ⟨⟨#[99]⟩, .slice (some ⟨w.heap.size, 0, none⟩) 1 1, [51], false⟩) hb (by omega) (BytesIn.nil _ _) (b1.mono (fun k _ (e : k = w.heap.size) => by omega))
theorem conv1 (w : World) (x : Int) : (convert 43 43 (.slice (some ⟨w.heap.size, 0, none⟩) 1 1)).run Tryz.prog (w.alloc (.cells #[.int .u8 x] 5)) = .ok (.slice (some ⟨w.heap.size, 0, none⟩) 1 1) (w.alloc (.cells #[.int .u8 x] 5 (1, 2))) :=
  Lib.run_convert_bytes_const (P := Tryz.prog) w 43 5 #[.int .u8 x] 1 1 Tryz.underlying43 Tryz.underlying5
theorem conv2 (w : World) (o : Obj) (x : Int) : (convert 43 43 (.slice (some ⟨w.heap.size + 1, 0, none⟩) 1 1)).run Tryz.prog ((w.alloc o).alloc (.cells #[.int .u8 x] 5)) = .ok (.slice (some ⟨w.heap.size + 1, 0, none⟩) 1 1) ((w.alloc o).alloc (.cells #[.int .u8 x] 5 (1, 2))) := by
  have h := conv1 (w.alloc o) x
  rw [show (w.alloc o).heap.size = w.heap.size + 1 by simp] at h
  exact h
theorem op_len_rows6 {w : World} {o : Oper} {a : Act} {x : Operand} {ao : Option Addr} {n cap : Nat} (ho : o.op = .call { callee := .builtin .len, args := #[x], argTypes := #[54] }) (hx : a.eval x = .slice ao n cap) :
    (execOp a.eval o).run Tryz.prog w = .ok (.value (.int .i64 n)) w := by
  have hr : (Builtin.len_ #[54] o.type #[.slice ao n cap]).run Tryz.prog w = .ok (.int .i64 n) w := by kernel_rfl
  simp [execOp, ho, resolve, invoke, builtin, hx, hr, Result.andThen]
theorem run_index_row6 (w : World) (b off n cap i : Nat) (h : i < n) : (Instr.indexAt 54 (.slice (some ⟨b, off, none⟩) n cap) (.int .i64 i)).run Tryz.prog w = .ok (.pointer (some ⟨b, off + i * 2, none⟩)) w := by
  simp [Instr.indexAt, h, Addr.add, asIntOf]
theorem run_index_str6 (w : World) (b off n cap i : Nat) (h : i < n) : (Instr.indexAt 37 (.slice (some ⟨b, off, none⟩) n cap) (.int .i64 i)).run Tryz.prog w = .ok (.pointer (some ⟨b, off + i, none⟩)) w := by
  simp [Instr.indexAt, h, Addr.add, asIntOf]
theorem fld_row0 (w : World) (b o : Nat) : (Instr.fieldAt 58 (.pointer (some ⟨b, o, none⟩)) 0).run Tryz.prog w = .ok (.pointer (some ⟨b, o, none⟩)) w := by kernel_rfl
theorem neq_str6 (w : World) (x : ByteArray) : (binOp .neq 9 (.string x) (.string x)).run Tryz.prog w = .ok (.bool false) w := by simp [binOp, Op.stringOp]
theorem made_strs6 (w : World) (x y : ByteArray) : (Instr.buildSlice 37 2 #[(0, .string x), (1, .string y)]).run Tryz.prog w = .ok (.slice (some ⟨w.heap.size, 0, none⟩) 2 2) (w.alloc (.cells #[.string x, .string y] 9)) := by kernel_rfl
def AwaR (b8 o8 cap8 n : Nat) (na nb : ByteArray) (i : Nat) (v : Value) (W : World) : Prop :=
  match i with
  | 0 => v = .int .i64 0
  | 1 => v = .bool false
  | 2 => v = .bool false
  | 3 => v = .slice (some ⟨b8, o8, none⟩) 2 cap8
  | 4 => v = .int .i64 (2 : Nat)
  | 5 => v = .bool false
  | 6 => v = .bool false
  | 7 => v = .bool false
  | 8 => v = .slice (some ⟨b8, o8, none⟩) 2 cap8
  | 9 => v = .pointer (some ⟨b8, o8, none⟩)
  | 10 => v = .pointer (some ⟨b8, o8, none⟩)
  | 11 => v = .string na
  | 12 => ∃ gz, v = .slice (some ⟨gz, 0, none⟩) 2 2 ∧ W.heap[gz]? = some (.cells #[.string ⟨#[97]⟩, .string ⟨#[98]⟩] 9 (0, 0))
  | 13 => v = .int .i64 (n : Nat)
  | 14 => ∃ gz, v = .pointer (some ⟨gz, n, none⟩) ∧ W.heap[gz]? = some (.cells #[.string ⟨#[97]⟩, .string ⟨#[98]⟩] 9 (0, 0))
  | 15 => v = .string na
  | 16 => v = .bool false
  | 17 => v = .bool false
  | 18 => v = .bool false
  | 19 => v = .slice (some ⟨b8, o8, none⟩) 2 cap8
  | 20 => v = .pointer (some ⟨b8, o8 + 2, none⟩)
  | 21 => v = .pointer (some ⟨b8, o8 + 2, none⟩)
  | 22 => v = .string nb
  | 23 => ∃ gz, v = .slice (some ⟨gz, 0, none⟩) 2 2 ∧ W.heap[gz]? = some (.cells #[.string ⟨#[98]⟩, .string ⟨#[99]⟩] 9 (0, 0))
  | 24 => v = .int .i64 (n : Nat)
  | 25 => ∃ gz, v = .pointer (some ⟨gz, n, none⟩) ∧ W.heap[gz]? = some (.cells #[.string ⟨#[98]⟩, .string ⟨#[99]⟩] 9 (0, 0))
  | 26 => v = .string nb
  | 27 => v = .bool false
  | 28 => v = .bool false
  | _ => True
theorem AwaR.ext (b8 o8 cap8 n : Nat) (na nb : ByteArray) : ∀ (j : Nat) (u : Value) (W W' : World), Fr (fun _ => False) W W' → AwaR b8 o8 cap8 n na nb j u W → AwaR b8 o8 cap8 n na nb j u W'
  | 0, u, W, W', hf, h => h
  | 1, u, W, W', hf, h => h
  | 2, u, W, W', hf, h => h
  | 3, u, W, W', hf, h => h
  | 4, u, W, W', hf, h => h
  | 5, u, W, W', hf, h => h
  | 6, u, W, W', hf, h => h
  | 7, u, W, W', hf, h => h
  | 8, u, W, W', hf, h => h
  | 9, u, W, W', hf, h => h
  | 10, u, W, W', hf, h => h
  | 11, u, W, W', hf, h => h
  | 12, u, W, W', hf, h => (let ⟨gz, h1, h2⟩ := h; ⟨gz, h1, hf.heap h2 id⟩)
  | 13, u, W, W', hf, h => h
  | 14, u, W, W', hf, h => (let ⟨gz, h1, h2⟩ := h; ⟨gz, h1, hf.heap h2 id⟩)
  | 15, u, W, W', hf, h => h
  | 16, u, W, W', hf, h => h
  | 17, u, W, W', hf, h => h
  | 18, u, W, W', hf, h => h
  | 19, u, W, W', hf, h => h
  | 20, u, W, W', hf, h => h
  | 21, u, W, W', hf, h => h
  | 22, u, W, W', hf, h => h
  | 23, u, W, W', hf, h => (let ⟨gz, h1, h2⟩ := h; ⟨gz, h1, hf.heap h2 id⟩)
  | 24, u, W, W', hf, h => h
  | 25, u, W, W', hf, h => (let ⟨gz, h1, h2⟩ := h; ⟨gz, h1, hf.heap h2 id⟩)
  | 26, u, W, W', hf, h => h
  | 27, u, W, W', hf, h => h
  | 28, u, W, W', hf, h => h
  | _ + 29, u, W, W', hf, h => trivial
set_option maxRecDepth 100000 in
set_option maxHeartbeats 4000000 in
theorem awake_any (w : World) : Calls Tryz.prog 5 #[] w fun e w' => e = .returned (.bool true) ∧ Fr (fun _ => False) w w' := by
  obtain ⟨gs, hgs⟩ : ∃ gs, gs = w.heap.size := ⟨_, rfl⟩
  obtain ⟨W1, hW⟩ : ∃ W, W = w.alloc (.cells #[.int .i64 2, .int .i64 2, .int .i64 1] 23) := ⟨_, rfl⟩
  have H1 := Lib.hid (show Fr (fun _ => False) w W1 ∧ W1.heap[gs]? = some (.cells #[.int .i64 2, .int .i64 2, .int .i64 1] 23 (0, 0)) by
    rw [hW, hgs]
    exact ⟨(Fr.refl _ _).alloc _, heap_alloc_new w _⟩)
  have HW := Lib.hid (And.intro hW hgs)
  clear hW
  go_enter Tryz.func5, Tryz.ntmps5
  go_wp2_with fail
  rw [← HW.out.1, ← HW.out.2]
  clear hgs
  go_loopw [2] (fun iv wr => ∃ n : Nat, n ≤ 2 ∧ iv = .int .i64 n ∧ Hid (Fr (fun _ => False) w wr ∧ wr.heap[gs]? = some (.cells #[.int .i64 2, .int .i64 2, .int .i64 1] 23 (0, 0)))) (fun iv _ => 2 - (intOf iv).toNat)
  case atStart => exact ⟨0, by omega, rfl, H1⟩
  case round =>
    obtain ⟨n, hn, rfl, hR⟩ := hrel
    by_cases hlt : n < 2
    · have hd : decide ((n : Int) < 2) = true := by rw [decide_eq_true_iff]; omega
      obtain ⟨s0, s1, s2⟩ := row3_cells hR.out.2
      have HBG := Lib.hid (show Calls Tryz.prog 22 #[.agg #[.int .i64 2, .int .i64 2, .int .i64 1]] wr (BegPost wr 2 2 1 8 awT1) from begin_any wr 2 2 1 8 awS_ok awT1 awT1_new awT1_k awT1_kp)
      go_wp2_with fail
      refine HBG.out.mono ?_
      rintro e w2 ⟨p, g, tb, mb, jn, gr, rn, D, F, rfl, hb, hj, htr, hd2, hD, hlow, hFk, hf⟩
      have hgsl := lt_of_block hR.out.2
      have H2 := Lib.hid (show TbAt wr w2 tb jn g 8 2 2 1 ⟨0, 0, 0, 1⟩ false awT1 [] (fun k => k = p) from
        ⟨mb, F, LgAt.made hj hd2 (fun k hk => ⟨(hD k hk).1, (hD k hk).2.1, (hD k hk).2.2.2.1, fun h => by
          obtain ⟨h1, h2, h3, h4, h5, h6, h7⟩ := hD k hk
          rcases h with h | h | h | h
          · exact h3 h
          · exact h5 h
          · exact h6 h
          · exact h7 h⟩) ⟨by omega, fun h => by
          rcases h with h | h | h | h
          · have h' : jn = p := h; omega
          · omega
          · omega
          · exact hlow.2.2.2.2.2.2 h⟩ (fun k h => by
          have hl := RwAt.lt htr
          rcases h with h | h | h | h
          · have h' : k = p := h; omega
          · omega
          · omega
          · exact (hFk k h).2) hf, htr, fun k h => by
          rcases h with h | h | h
          · exact ⟨by omega, fun e => by have e' : k = p := e; omega⟩
          · exact ⟨by omega, fun e => by have e' : k = p := e; omega⟩
          · exact ⟨by have := hFk k h; omega, fun e => by have := hFk k h; have e' : k = p := e; omega⟩⟩)
      have B2 := Lib.hid hb
      have HP := Lib.hid (And.intro hlow.1 hf.size)
      clear hj hd2 hD hlow hf hb htr hFk HBG s0 s1 s2
      obtain ⟨c0, c1, c2, c3, c4, c5, c6⟩ := B2.out.cells
      have hcv1 := conv1 w2 49
      have hcv2 := conv2 w2 (.cells #[.int .u8 49] 5 (1, 2)) 50
      go_wp2_with fail
      clear hcv1 hcv2 c0 c1 c2 c3 c4 c5 c6
      refine Calls.mono (show Calls _ _ _ (awW1 w2) _ from awC1 (X := fun k => k = p ∨ (w2.heap.size ≤ k ∧ k < w2.heap.size + 3)) (H2.out.grow (awW1_fr w2) (fun k hk => by rw [awW1_size]; exact hk) (fun k hk => .inl hk)) _ (awP1 w2) (awW1_in w2) (fun k hk => ⟨by rw [awW1_size]; exact hk.2, .inl (.inr hk)⟩) rfl (by intro p hp hg; simp only [awP1, List.mem_cons, List.not_mem_nil, or_false] at hp; rcases hp with rfl | rfl <;> cases hg)) ?_
      rintro e w3 ⟨rfl, h3, hf3, K3⟩
      have H3 := Lib.hid (And.intro h3 K3)
      have B3 := Lib.hid ((B2.out.keep (awW1_fr w2) id).keep hf3 (fun hh => hh.2 (.inl rfl)))
      clear h3 K3 hf3
      obtain ⟨c0, c1, c2, c3, c4, c5, c6⟩ := B3.out.cells
      go_wp2_with fail
      refine (tFuse H3.out.1 4 (by decide) (by decide)).mono ?_
      rintro e w4 ⟨rfl, h4, hf4⟩
      have H4 := Lib.hid (And.intro h4 (H3.out.2.fuse 4))
      have B4 := Lib.hid (B3.out.keep hf4 (fun hh => hh.2 (.inl rfl)))
      rw [show (awT2.2.fuse 4).1 = 0 from awT3_is]
      clear h4 hf4 c0 c1 c2 c3 c4 c5 c6
      obtain ⟨c0, c1, c2, c3, c4, c5, c6⟩ := B4.out.cells
      have hcv1 := conv1 w4 51
      go_wp2_with fail
      clear hcv1 c0 c1 c2 c3 c4 c5 c6
      refine Calls.mono (show Calls _ _ _ (awW2 w4) _ from awC2 (X := fun k => (k = p ∨ (w2.heap.size ≤ k ∧ k < w2.heap.size + 3)) ∨ (w4.heap.size ≤ k ∧ k < w4.heap.size + 2)) (H4.out.1.grow (awW2_fr w4) (fun k hk => by rw [awW2_size]; exact hk) (fun k hk => .inl hk)) H4.out.2 _ (awP2 w4) (awW2_in w4) (fun k hk => ⟨by rw [awW2_size]; exact hk.2, .inl (.inr hk)⟩) rfl (by intro p hp hg; simp only [awP2, List.mem_cons, List.not_mem_nil, or_false] at hp; rcases hp with rfl | rfl; rfl; cases hg)) ?_
      rintro e w5 ⟨rfl, ⟨h5', h5⟩, hf5⟩
      have H5 := Lib.hid h5
      have B5 := Lib.hid ((B4.out.keep (awW2_fr w4) id).keep hf5 (fun hh => hh.2 (.inl (.inl rfl))))
      clear h5 hf5
      obtain ⟨c0, c1, c2, c3, c4, c5, c6⟩ := B5.out.cells
      go_wp2_with fail
      refine (tWake H5.out n (by omega) (by omega) (by have := awT4_is.2; omega)).mono ?_
      rintro e w6 ⟨rfl, h6, hf6⟩
      have H6 := Lib.hid h6
      have B6 := Lib.hid (B5.out.keep hf6 (fun hh => hh.2 (.inl (.inl rfl))))
      rw [show (awT4.2.wake n).1 = 0 from (awT5_ok n hlt).1]
      obtain ⟨mb6, F6, l6, t6, x6⟩ := id h6
      obtain ⟨D6, d6, hD6⟩ := l6.dev
      have hsh6 := l6.fr.heap hR.out.2 id
      have HFR6 := Lib.hid (And.intro l6.fr hsh6)
      obtain ⟨hh6, BB6, RR6, M06, Ls6, k6, kt6, fit6⟩ := awT5_kp n hlt
      have HOP := Lib.hid (fun (W : World) (hW : Fr (fun _ => False) w6 W) => show Calls Tryz.prog 11 #[.pointer (some ⟨g, 0, none⟩), .agg #[.int .i64 2, .int .i64 2, .int .i64 1]] W (OpPost 2 2 1 g hh6 (awM n) W) from tOpen_any W g 2 2 1 8 (awT5 n).2 hh6 awS_ok (show DevAt W D6 g 8 (awT5 n).2 from d6.keep hW (fun _ _ _ h => h)) (awT5_ok n hlt).2.1 (awT5_ok n hlt).2.2 k6 kt6 fit6)
      obtain ⟨s0, s1, s2⟩ := row3_cells hsh6
      clear h6 hf6 c0 c1 c2 c3 c4 c5 c6 l6 t6 x6 d6 hD6 hsh6 k6 kt6 fit6
      obtain ⟨c0, c1, c2, c3, c4, c5, c6⟩ := B6.out.cells
      go_wp2_with fail
      go_region_held_law (fun w' => w'.cell? ⟨p, 3, none⟩ = some (.pointer (some ⟨g, 0, none⟩)) ∧ w'.cell? ⟨gs, 0, none⟩ = some (.int .i64 2) ∧ w'.cell? ⟨gs, 1, none⟩ = some (.int .i64 2) ∧ w'.cell? ⟨gs, 2, none⟩ = some (.int .i64 1)) (first | exact ⟨by assumption, by assumption, by assumption, by assumption⟩ | go_keep) (first
        | (go_at_call 11; refine (HOP.out _ (Fr.refl _ w6).drew).mono ?_; rintro e w7 ⟨tb7, mb7, jn7, F7, rfl, -, ht7, -, hF7, hf7⟩; (have H7 := Lib.hid (And.intro ht7 (And.intro hF7 ((Fr.refl (fun _ => False) w6).drew.trans hf7 (fun _ h => h.elim))))); (have c3 := hf7.cell c3 id); (have s0 := hf7.cell s0 id); (have s1 := hf7.cell s1 id); (have s2 := hf7.cell s2 id); clear ht7 hF7 hf7))
      all_goals (
        have HRO := Lib.hid (callsIn_wide.1 (tRows_in w7 H7.out.1 (fun k hk => (H7.out.2.1 k hk).2) ⟨#[]⟩))
        have HFR7 := Lib.hid (And.intro ((hR.out.1.trans HFR6.out.1 (fun _ h => h.elim)).trans H7.out.2.2 (fun _ h => h.elim)) (H7.out.2.2.heap HFR6.out.2 id))
        clear s0 s1 s2 c0 c1 c2 c4 c5 c6
        go_wp2_with fail
        refine HRO.out.mono ?_
        rintro e w8 ⟨v8, l8, rfl, ho8, hm8, hf8⟩
        obtain ⟨a8, cap8, rfl, _, _, b8, o8, hao8, hce8⟩ := (ho8.rws (fun k hk => hk)).open6
        have HFR8 := Lib.hid (And.intro (HFR7.out.1.trans hf8 (fun _ h => h.elim)) (hf8.heap HFR7.out.2 id))
        rw [List.filter_eq_self.2 (fun p _ => hasPrefix_nil6 _)] at hm8
        obtain ⟨ka, kb, ba, bb, hM, hka, hkb⟩ : ∃ ka kb ba bb, awM n = [(ka, ba), (kb, bb)] ∧ ((n = 0 ∧ ka = [97] ∧ kb = [98]) ∨ (n = 1 ∧ ka = [98] ∧ kb = [99])) ∧ True := by
          obtain rfl | rfl : n = 0 ∨ n = 1 := by omega
          · exact ⟨_, _, _, _, rfl, .inl ⟨rfl, rfl, rfl⟩, trivial⟩
          · exact ⟨_, _, _, _, rfl, .inr ⟨rfl, rfl, rfl⟩, trivial⟩
        obtain ⟨x8, y8, rfl⟩ := rows2 (hm8.trans hM)
        obtain ⟨rfl, _⟩ := hao8 (by simp)
        obtain ⟨e0, _⟩ := hce8 0 (by simp)
        obtain ⟨e1, _⟩ := hce8 1 (by simp)
        replace e0 : w8.cell? ⟨b8, o8, none⟩ = some (.string ⟨ka.toArray⟩) := e0
        replace e1 : w8.cell? ⟨b8, o8 + 2, none⟩ = some (.string ⟨kb.toArray⟩) := e1
        have hl8 : (Value.slice (some ⟨b8, o8, none⟩) ([⟨⟨ka.toArray⟩, x8, ba⟩, ⟨⟨kb.toArray⟩, y8, bb⟩] : List RowD).length cap8) = .slice (some ⟨b8, o8, none⟩) 2 cap8 := rfl
        rw [hl8]
        clear hl8 hao8 hce8 hm8 hM ho8
        have HK1 := Lib.hid (show (#[Value.string ⟨#[97]⟩, Value.string ⟨#[98]⟩] : Array Value)[n]? = some (.string ⟨ka.toArray⟩) ∧ (#[Value.string ⟨#[98]⟩, Value.string ⟨#[99]⟩] : Array Value)[n]? = some (.string ⟨kb.toArray⟩) by
          rcases hka with ⟨rfl, rfl, rfl⟩ | ⟨rfl, rfl, rfl⟩ <;> exact ⟨rfl, rfl⟩)
        obtain ⟨na, hna⟩ : ∃ na : ByteArray, na = ⟨ka.toArray⟩ := ⟨_, rfl⟩
        obtain ⟨nb, hnb⟩ : ∃ nb : ByteArray, nb = ⟨kb.toArray⟩ := ⟨_, rfl⟩
        rw [← hna] at e0 HK1
        rw [← hnb] at e1 HK1
        have LD0 := Lib.hid (fun (W : World) (hW : Fr (fun _ => False) w8 W) => load_one5 W 9 ⟨b8, o8, none⟩ _ (by kernel_rfl) (hW.cell e0 id))
        have LD1 := Lib.hid (fun (W : World) (hW : Fr (fun _ => False) w8 W) => load_one5 W 9 ⟨b8, o8 + 2, none⟩ _ (by kernel_rfl) (hW.cell e1 id))
        clear hka hkb hna hnb e0 e1 HRO H7 HFR7 HOP HFR6 B6 H6 B5 H5 B4 H4 B3 H3 B2 H2 HP
        go_wp2_with fail
        refine wp_region_inv 29 (by kernel_rfl) (by kernel_rfl) (fun W => Fr (fun _ => False) w8 W) (AwaR b8 o8 cap8 n na nb) (fun _ _ _ _ => True) (Fr (fun _ => False)) (AwaR.ext b8 o8 cap8 n na nb) (Fr.refl _ _).drew ?_ ?_
        · intro i hi o ho
          replace hi : i < 29 := hi
          obtain rfl | rfl | rfl | rfl | rfl | rfl | rfl | rfl | rfl | rfl | rfl | rfl | rfl | rfl | rfl | rfl | rfl | rfl | rfl | rfl | rfl | rfl | rfl | rfl | rfl | rfl | rfl | rfl | rfl : i = 0 ∨ i = 1 ∨ i = 2 ∨ i = 3 ∨ i = 4 ∨ i = 5 ∨ i = 6 ∨ i = 7 ∨ i = 8 ∨ i = 9 ∨ i = 10 ∨ i = 11 ∨ i = 12 ∨ i = 13 ∨ i = 14 ∨ i = 15 ∨ i = 16 ∨ i = 17 ∨ i = 18 ∨ i = 19 ∨ i = 20 ∨ i = 21 ∨ i = 22 ∨ i = 23 ∨ i = 24 ∨ i = 25 ∨ i = 26 ∨ i = 27 ∨ i = 28 := by omega
          · simp only [List.getElem?_cons_zero, Option.some.injEq] at ho
            subst ho
            intro a W vs hB hS hE hU
            refine wpG_plain rfl ?_
            have v5 : a.eval (.tmp 5) = .int .i64 0 := (hU 5 (by kernel_rfl)).trans rfl
            clear hE hU
            exact wp_value_inv (w' := W) (.int .i64 0) (op_move rfl v5) ⟨_, rfl, hB, Fr.refl _ _, rfl, fun _ _ _ _ _ => trivial⟩
          · simp only [List.getElem?_cons_zero, List.getElem?_cons_succ, Option.some.injEq] at ho
            subst ho
            intro a W vs hB hS hE hU
            refine wpG_plain rfl ?_
            obtain ⟨r0, e72⟩ := hE 0 72 (by kernel_rfl) (by kernel_rfl)
            have v72 : a.eval (.tmp 72) = .int .i64 0 := e72.trans r0
            clear hE hU
            exact wp_value_inv (w' := W) (.bool false) (op_bin rfl v72 rfl (guard_int W _ _ _ _ _ _ _) (by kernel_rfl)) ⟨_, rfl, hB, Fr.refl _ _, rfl, fun _ _ _ _ _ => trivial⟩
          · simp only [List.getElem?_cons_zero, List.getElem?_cons_succ, Option.some.injEq] at ho
            subst ho
            intro a W vs hB hS hE hU
            refine wpG_plain rfl ?_
            obtain ⟨r1, e73⟩ := hE 1 73 (by kernel_rfl) (by kernel_rfl)
            have v73 : a.eval (.tmp 73) = .bool false := e73.trans r1
            clear hE hU
            exact wp_value_inv (w' := W) (.bool false) (op_move rfl v73) ⟨_, rfl, hB, Fr.refl _ _, rfl, fun _ _ _ _ _ => trivial⟩
          · simp only [List.getElem?_cons_zero, List.getElem?_cons_succ, Option.some.injEq] at ho
            subst ho
            intro a W vs hB hS hE hU
            obtain ⟨r2, e74⟩ := hE 2 74 (by kernel_rfl) (by kernel_rfl)
            have v74 : a.eval (.tmp 74) = .bool false := e74.trans r2
            refine wpG_yes 2 false 74 rfl (by kernel_rfl) (by rw [hS]; first | simp | exact Nat.le_of_ble_eq_true rfl) v74 ?_
            have v6 : a.eval (.tmp 6) = .slice (some ⟨b8, o8, none⟩) 2 cap8 := (hU 6 (by kernel_rfl)).trans rfl
            clear hE hU
            exact wp_value_inv (w' := W) (.slice (some ⟨b8, o8, none⟩) 2 cap8) (op_move rfl v6) ⟨_, rfl, hB, Fr.refl _ _, rfl, fun _ _ _ _ _ => trivial⟩
          · simp only [List.getElem?_cons_zero, List.getElem?_cons_succ, Option.some.injEq] at ho
            subst ho
            intro a W vs hB hS hE hU
            obtain ⟨r2, e74⟩ := hE 2 74 (by kernel_rfl) (by kernel_rfl)
            have v74 : a.eval (.tmp 74) = .bool false := e74.trans r2
            refine wpG_yes 2 false 74 rfl (by kernel_rfl) (by rw [hS]; first | simp | exact Nat.le_of_ble_eq_true rfl) v74 ?_
            obtain ⟨r3, e75⟩ := hE 3 75 (by kernel_rfl) (by kernel_rfl)
            have v75 : a.eval (.tmp 75) = .slice (some ⟨b8, o8, none⟩) 2 cap8 := e75.trans r3
            clear hE hU
            exact wp_value_inv (w' := W) (.int .i64 (2 : Nat)) (op_len_rows6 rfl v75) ⟨_, rfl, hB, Fr.refl _ _, rfl, fun _ _ _ _ _ => trivial⟩
          · simp only [List.getElem?_cons_zero, List.getElem?_cons_succ, Option.some.injEq] at ho
            subst ho
            intro a W vs hB hS hE hU
            obtain ⟨r2, e74⟩ := hE 2 74 (by kernel_rfl) (by kernel_rfl)
            have v74 : a.eval (.tmp 74) = .bool false := e74.trans r2
            refine wpG_yes 2 false 74 rfl (by kernel_rfl) (by rw [hS]; first | simp | exact Nat.le_of_ble_eq_true rfl) v74 ?_
            obtain ⟨r4, e76⟩ := hE 4 76 (by kernel_rfl) (by kernel_rfl)
            have v76 : a.eval (.tmp 76) = .int .i64 (2 : Nat) := e76.trans r4
            clear hE hU
            exact wp_value_inv (w' := W) (.bool false) (op_bin rfl v76 rfl (guard_int W _ _ _ _ _ _ _) (by kernel_rfl)) ⟨_, rfl, hB, Fr.refl _ _, rfl, fun _ _ _ _ _ => trivial⟩
          · simp only [List.getElem?_cons_zero, List.getElem?_cons_succ, Option.some.injEq] at ho
            subst ho
            intro a W vs hB hS hE hU
            refine wpG_plain rfl ?_
            obtain ⟨r2, e74⟩ := hE 2 74 (by kernel_rfl) (by kernel_rfl)
            have v74 : a.eval (.tmp 74) = .bool false := e74.trans r2
            obtain ⟨r5, e77⟩ := hE 5 77 (by kernel_rfl) (by kernel_rfl)
            have v77 : a.eval (.tmp 77) = .bool false := e77.trans r5
            clear hE hU
            exact wp_value_inv (w' := W) (.bool false) (op_pick rfl v74 (by simp only [Bool.false_eq_true, if_false]; exact v77)) ⟨_, rfl, hB, Fr.refl _ _, rfl, fun _ _ _ _ _ => trivial⟩
          · simp only [List.getElem?_cons_zero, List.getElem?_cons_succ, Option.some.injEq] at ho
            subst ho
            intro a W vs hB hS hE hU
            refine wpG_plain rfl ?_
            obtain ⟨r6, e78⟩ := hE 6 78 (by kernel_rfl) (by kernel_rfl)
            have v78 : a.eval (.tmp 78) = .bool false := e78.trans r6
            clear hE hU
            exact wp_value_inv (w' := W) (.bool false) (op_move rfl v78) ⟨_, rfl, hB, Fr.refl _ _, rfl, fun _ _ _ _ _ => trivial⟩
          · simp only [List.getElem?_cons_zero, List.getElem?_cons_succ, Option.some.injEq] at ho
            subst ho
            intro a W vs hB hS hE hU
            obtain ⟨r7, e79⟩ := hE 7 79 (by kernel_rfl) (by kernel_rfl)
            have v79 : a.eval (.tmp 79) = .bool false := e79.trans r7
            refine wpG_yes 7 false 79 rfl (by kernel_rfl) (by rw [hS]; first | simp | exact Nat.le_of_ble_eq_true rfl) v79 ?_
            have v6 : a.eval (.tmp 6) = .slice (some ⟨b8, o8, none⟩) 2 cap8 := (hU 6 (by kernel_rfl)).trans rfl
            clear hE hU
            exact wp_value_inv (w' := W) (.slice (some ⟨b8, o8, none⟩) 2 cap8) (op_move rfl v6) ⟨_, rfl, hB, Fr.refl _ _, rfl, fun _ _ _ _ _ => trivial⟩
          · simp only [List.getElem?_cons_zero, List.getElem?_cons_succ, Option.some.injEq] at ho
            subst ho
            intro a W vs hB hS hE hU
            obtain ⟨r7, e79⟩ := hE 7 79 (by kernel_rfl) (by kernel_rfl)
            have v79 : a.eval (.tmp 79) = .bool false := e79.trans r7
            refine wpG_yes 7 false 79 rfl (by kernel_rfl) (by rw [hS]; first | simp | exact Nat.le_of_ble_eq_true rfl) v79 ?_
            obtain ⟨r8, e80⟩ := hE 8 80 (by kernel_rfl) (by kernel_rfl)
            have v80 : a.eval (.tmp 80) = .slice (some ⟨b8, o8, none⟩) 2 cap8 := e80.trans r8
            clear hE hU
            exact wp_value_inv (w' := W) (.pointer (some ⟨b8, o8, none⟩)) (op_indexAddr rfl v80 rfl (run_index_row6 W b8 o8 2 cap8 0 (by decide))) ⟨_, rfl, hB, Fr.refl _ _, rfl, fun _ _ _ _ _ => trivial⟩
          · simp only [List.getElem?_cons_zero, List.getElem?_cons_succ, Option.some.injEq] at ho
            subst ho
            intro a W vs hB hS hE hU
            obtain ⟨r7, e79⟩ := hE 7 79 (by kernel_rfl) (by kernel_rfl)
            have v79 : a.eval (.tmp 79) = .bool false := e79.trans r7
            refine wpG_yes 7 false 79 rfl (by kernel_rfl) (by rw [hS]; first | simp | exact Nat.le_of_ble_eq_true rfl) v79 ?_
            obtain ⟨r9, e81⟩ := hE 9 81 (by kernel_rfl) (by kernel_rfl)
            have v81 : a.eval (.tmp 81) = .pointer (some ⟨b8, o8, none⟩) := e81.trans r9
            clear hE hU
            exact wp_value_inv (w' := W) (.pointer (some ⟨b8, o8, none⟩)) (op_fieldAddr rfl v81 (fld_row0 W _ _)) ⟨_, rfl, hB, Fr.refl _ _, rfl, fun _ _ _ _ _ => trivial⟩
          · simp only [List.getElem?_cons_zero, List.getElem?_cons_succ, Option.some.injEq] at ho
            subst ho
            intro a W vs hB hS hE hU
            obtain ⟨r7, e79⟩ := hE 7 79 (by kernel_rfl) (by kernel_rfl)
            have v79 : a.eval (.tmp 79) = .bool false := e79.trans r7
            refine wpG_yes 7 false 79 rfl (by kernel_rfl) (by rw [hS]; first | simp | exact Nat.le_of_ble_eq_true rfl) v79 ?_
            obtain ⟨r10, e82⟩ := hE 10 82 (by kernel_rfl) (by kernel_rfl)
            have v82 : a.eval (.tmp 82) = .pointer (some ⟨b8, o8, none⟩) := e82.trans r10
            clear hE hU
            exact wp_value_inv (w' := W) (.string na) (op_loadAt rfl v82 (LD0.out W hB)) ⟨_, rfl, hB, Fr.refl _ _, rfl, fun _ _ _ _ _ => trivial⟩
          · simp only [List.getElem?_cons_zero, List.getElem?_cons_succ, Option.some.injEq] at ho
            subst ho
            intro a W vs hB hS hE hU
            obtain ⟨r7, e79⟩ := hE 7 79 (by kernel_rfl) (by kernel_rfl)
            have v79 : a.eval (.tmp 79) = .bool false := e79.trans r7
            refine wpG_yes 7 false 79 rfl (by kernel_rfl) (by rw [hS]; first | simp | exact Nat.le_of_ble_eq_true rfl) v79 ?_
            clear hE hU
            have hfa : Fr (fun _ => False) W (W.alloc (.cells #[.string ⟨#[97]⟩, .string ⟨#[98]⟩] 9)) := (Fr.refl _ _).alloc _
            exact wp_value_inv (w' := W.alloc (.cells #[.string ⟨#[97]⟩, .string ⟨#[98]⟩] 9)) (.slice (some ⟨W.heap.size, 0, none⟩) 2 2) (op_rows rfl (vs := #[(0, .string ⟨#[97]⟩), (1, .string ⟨#[98]⟩)]) (by simp only [List.map_toArray, List.map_cons, List.map_nil, eval_const5]) (made_strs6 W _ _)) ⟨_, rfl, hB.trans hfa (fun _ h => h.elim), hfa, ⟨W.heap.size, rfl, heap_alloc_new W _⟩, fun _ _ _ _ _ => trivial⟩
          · simp only [List.getElem?_cons_zero, List.getElem?_cons_succ, Option.some.injEq] at ho
            subst ho
            intro a W vs hB hS hE hU
            obtain ⟨r7, e79⟩ := hE 7 79 (by kernel_rfl) (by kernel_rfl)
            have v79 : a.eval (.tmp 79) = .bool false := e79.trans r7
            refine wpG_yes 7 false 79 rfl (by kernel_rfl) (by rw [hS]; first | simp | exact Nat.le_of_ble_eq_true rfl) v79 ?_
            have v2 : a.eval (.tmp 2) = .int .i64 (n : Nat) := (hU 2 (by kernel_rfl)).trans rfl
            clear hE hU
            exact wp_value_inv (w' := W) (.int .i64 (n : Nat)) (op_move rfl v2) ⟨_, rfl, hB, Fr.refl _ _, rfl, fun _ _ _ _ _ => trivial⟩
          · simp only [List.getElem?_cons_zero, List.getElem?_cons_succ, Option.some.injEq] at ho
            subst ho
            intro a W vs hB hS hE hU
            obtain ⟨r7, e79⟩ := hE 7 79 (by kernel_rfl) (by kernel_rfl)
            have v79 : a.eval (.tmp 79) = .bool false := e79.trans r7
            refine wpG_yes 7 false 79 rfl (by kernel_rfl) (by rw [hS]; first | simp | exact Nat.le_of_ble_eq_true rfl) v79 ?_
            obtain ⟨⟨gz12, rg12, rh12⟩, e84⟩ := hE 12 84 (by kernel_rfl) (by kernel_rfl)
            have v84 : a.eval (.tmp 84) = .slice (some ⟨gz12, 0, none⟩) 2 2 := e84.trans rg12
            obtain ⟨r13, e85⟩ := hE 13 85 (by kernel_rfl) (by kernel_rfl)
            have v85 : a.eval (.tmp 85) = .int .i64 (n : Nat) := e85.trans r13
            clear hE hU
            exact wp_value_inv (w' := W) (.pointer (some ⟨gz12, 0 + n, none⟩)) (op_indexAddr rfl v84 v85 (run_index_str6 W gz12 0 2 2 n hlt)) ⟨_, rfl, hB, Fr.refl _ _, ⟨gz12, by rw [Nat.zero_add], rh12⟩, fun _ _ _ _ _ => trivial⟩
          · simp only [List.getElem?_cons_zero, List.getElem?_cons_succ, Option.some.injEq] at ho
            subst ho
            intro a W vs hB hS hE hU
            obtain ⟨r7, e79⟩ := hE 7 79 (by kernel_rfl) (by kernel_rfl)
            have v79 : a.eval (.tmp 79) = .bool false := e79.trans r7
            refine wpG_yes 7 false 79 rfl (by kernel_rfl) (by rw [hS]; first | simp | exact Nat.le_of_ble_eq_true rfl) v79 ?_
            obtain ⟨⟨gz14, rg14, rh14⟩, e86⟩ := hE 14 86 (by kernel_rfl) (by kernel_rfl)
            have v86 : a.eval (.tmp 86) = .pointer (some ⟨gz14, n, none⟩) := e86.trans rg14
            clear hE hU
            exact wp_value_inv (w' := W) (.string na) (op_loadAt rfl v86 (load_one5 W 9 ⟨gz14, n, none⟩ _ (by kernel_rfl) (by rw [cell_of_row _ _ _ _ _ _ rh14]; exact HK1.out.1))) ⟨_, rfl, hB, Fr.refl _ _, rfl, fun _ _ _ _ _ => trivial⟩
          · simp only [List.getElem?_cons_zero, List.getElem?_cons_succ, Option.some.injEq] at ho
            subst ho
            intro a W vs hB hS hE hU
            obtain ⟨r7, e79⟩ := hE 7 79 (by kernel_rfl) (by kernel_rfl)
            have v79 : a.eval (.tmp 79) = .bool false := e79.trans r7
            refine wpG_yes 7 false 79 rfl (by kernel_rfl) (by rw [hS]; first | simp | exact Nat.le_of_ble_eq_true rfl) v79 ?_
            obtain ⟨r11, e83⟩ := hE 11 83 (by kernel_rfl) (by kernel_rfl)
            have v83 : a.eval (.tmp 83) = .string na := e83.trans r11
            obtain ⟨r15, e87⟩ := hE 15 87 (by kernel_rfl) (by kernel_rfl)
            have v87 : a.eval (.tmp 87) = .string na := e87.trans r15
            clear hE hU
            exact wp_value_inv (w' := W) (.bool false) (op_bin rfl v83 v87 rfl (neq_str6 W _)) ⟨_, rfl, hB, Fr.refl _ _, rfl, fun _ _ _ _ _ => trivial⟩
          · simp only [List.getElem?_cons_zero, List.getElem?_cons_succ, Option.some.injEq] at ho
            subst ho
            intro a W vs hB hS hE hU
            refine wpG_plain rfl ?_
            obtain ⟨r7, e79⟩ := hE 7 79 (by kernel_rfl) (by kernel_rfl)
            have v79 : a.eval (.tmp 79) = .bool false := e79.trans r7
            obtain ⟨r16, e88⟩ := hE 16 88 (by kernel_rfl) (by kernel_rfl)
            have v88 : a.eval (.tmp 88) = .bool false := e88.trans r16
            clear hE hU
            exact wp_value_inv (w' := W) (.bool false) (op_pick rfl v79 (by simp only [Bool.false_eq_true, if_false]; exact v88)) ⟨_, rfl, hB, Fr.refl _ _, rfl, fun _ _ _ _ _ => trivial⟩
          · simp only [List.getElem?_cons_zero, List.getElem?_cons_succ, Option.some.injEq] at ho
            subst ho
            intro a W vs hB hS hE hU
            refine wpG_plain rfl ?_
            obtain ⟨r17, e89⟩ := hE 17 89 (by kernel_rfl) (by kernel_rfl)
            have v89 : a.eval (.tmp 89) = .bool false := e89.trans r17
            clear hE hU
            exact wp_value_inv (w' := W) (.bool false) (op_move rfl v89) ⟨_, rfl, hB, Fr.refl _ _, rfl, fun _ _ _ _ _ => trivial⟩
          · simp only [List.getElem?_cons_zero, List.getElem?_cons_succ, Option.some.injEq] at ho
            subst ho
            intro a W vs hB hS hE hU
            obtain ⟨r18, e90⟩ := hE 18 90 (by kernel_rfl) (by kernel_rfl)
            have v90 : a.eval (.tmp 90) = .bool false := e90.trans r18
            refine wpG_yes 18 false 90 rfl (by kernel_rfl) (by rw [hS]; first | simp | exact Nat.le_of_ble_eq_true rfl) v90 ?_
            have v6 : a.eval (.tmp 6) = .slice (some ⟨b8, o8, none⟩) 2 cap8 := (hU 6 (by kernel_rfl)).trans rfl
            clear hE hU
            exact wp_value_inv (w' := W) (.slice (some ⟨b8, o8, none⟩) 2 cap8) (op_move rfl v6) ⟨_, rfl, hB, Fr.refl _ _, rfl, fun _ _ _ _ _ => trivial⟩
          · simp only [List.getElem?_cons_zero, List.getElem?_cons_succ, Option.some.injEq] at ho
            subst ho
            intro a W vs hB hS hE hU
            obtain ⟨r18, e90⟩ := hE 18 90 (by kernel_rfl) (by kernel_rfl)
            have v90 : a.eval (.tmp 90) = .bool false := e90.trans r18
            refine wpG_yes 18 false 90 rfl (by kernel_rfl) (by rw [hS]; first | simp | exact Nat.le_of_ble_eq_true rfl) v90 ?_
            obtain ⟨r19, e91⟩ := hE 19 91 (by kernel_rfl) (by kernel_rfl)
            have v91 : a.eval (.tmp 91) = .slice (some ⟨b8, o8, none⟩) 2 cap8 := e91.trans r19
            clear hE hU
            exact wp_value_inv (w' := W) (.pointer (some ⟨b8, o8 + 2, none⟩)) (op_indexAddr rfl v91 rfl (run_index_row6 W b8 o8 2 cap8 1 (by decide))) ⟨_, rfl, hB, Fr.refl _ _, rfl, fun _ _ _ _ _ => trivial⟩
          · simp only [List.getElem?_cons_zero, List.getElem?_cons_succ, Option.some.injEq] at ho
            subst ho
            intro a W vs hB hS hE hU
            obtain ⟨r18, e90⟩ := hE 18 90 (by kernel_rfl) (by kernel_rfl)
            have v90 : a.eval (.tmp 90) = .bool false := e90.trans r18
            refine wpG_yes 18 false 90 rfl (by kernel_rfl) (by rw [hS]; first | simp | exact Nat.le_of_ble_eq_true rfl) v90 ?_
            obtain ⟨r20, e92⟩ := hE 20 92 (by kernel_rfl) (by kernel_rfl)
            have v92 : a.eval (.tmp 92) = .pointer (some ⟨b8, o8 + 2, none⟩) := e92.trans r20
            clear hE hU
            exact wp_value_inv (w' := W) (.pointer (some ⟨b8, o8 + 2, none⟩)) (op_fieldAddr rfl v92 (fld_row0 W _ _)) ⟨_, rfl, hB, Fr.refl _ _, rfl, fun _ _ _ _ _ => trivial⟩
          · simp only [List.getElem?_cons_zero, List.getElem?_cons_succ, Option.some.injEq] at ho
            subst ho
            intro a W vs hB hS hE hU
            obtain ⟨r18, e90⟩ := hE 18 90 (by kernel_rfl) (by kernel_rfl)
            have v90 : a.eval (.tmp 90) = .bool false := e90.trans r18
            refine wpG_yes 18 false 90 rfl (by kernel_rfl) (by rw [hS]; first | simp | exact Nat.le_of_ble_eq_true rfl) v90 ?_
            obtain ⟨r21, e93⟩ := hE 21 93 (by kernel_rfl) (by kernel_rfl)
            have v93 : a.eval (.tmp 93) = .pointer (some ⟨b8, o8 + 2, none⟩) := e93.trans r21
            clear hE hU
            exact wp_value_inv (w' := W) (.string nb) (op_loadAt rfl v93 (LD1.out W hB)) ⟨_, rfl, hB, Fr.refl _ _, rfl, fun _ _ _ _ _ => trivial⟩
          · simp only [List.getElem?_cons_zero, List.getElem?_cons_succ, Option.some.injEq] at ho
            subst ho
            intro a W vs hB hS hE hU
            obtain ⟨r18, e90⟩ := hE 18 90 (by kernel_rfl) (by kernel_rfl)
            have v90 : a.eval (.tmp 90) = .bool false := e90.trans r18
            refine wpG_yes 18 false 90 rfl (by kernel_rfl) (by rw [hS]; first | simp | exact Nat.le_of_ble_eq_true rfl) v90 ?_
            clear hE hU
            have hfa : Fr (fun _ => False) W (W.alloc (.cells #[.string ⟨#[98]⟩, .string ⟨#[99]⟩] 9)) := (Fr.refl _ _).alloc _
            exact wp_value_inv (w' := W.alloc (.cells #[.string ⟨#[98]⟩, .string ⟨#[99]⟩] 9)) (.slice (some ⟨W.heap.size, 0, none⟩) 2 2) (op_rows rfl (vs := #[(0, .string ⟨#[98]⟩), (1, .string ⟨#[99]⟩)]) (by simp only [List.map_toArray, List.map_cons, List.map_nil, eval_const5]) (made_strs6 W _ _)) ⟨_, rfl, hB.trans hfa (fun _ h => h.elim), hfa, ⟨W.heap.size, rfl, heap_alloc_new W _⟩, fun _ _ _ _ _ => trivial⟩
          · simp only [List.getElem?_cons_zero, List.getElem?_cons_succ, Option.some.injEq] at ho
            subst ho
            intro a W vs hB hS hE hU
            obtain ⟨r18, e90⟩ := hE 18 90 (by kernel_rfl) (by kernel_rfl)
            have v90 : a.eval (.tmp 90) = .bool false := e90.trans r18
            refine wpG_yes 18 false 90 rfl (by kernel_rfl) (by rw [hS]; first | simp | exact Nat.le_of_ble_eq_true rfl) v90 ?_
            have v2 : a.eval (.tmp 2) = .int .i64 (n : Nat) := (hU 2 (by kernel_rfl)).trans rfl
            clear hE hU
            exact wp_value_inv (w' := W) (.int .i64 (n : Nat)) (op_move rfl v2) ⟨_, rfl, hB, Fr.refl _ _, rfl, fun _ _ _ _ _ => trivial⟩
          · simp only [List.getElem?_cons_zero, List.getElem?_cons_succ, Option.some.injEq] at ho
            subst ho
            intro a W vs hB hS hE hU
            obtain ⟨r18, e90⟩ := hE 18 90 (by kernel_rfl) (by kernel_rfl)
            have v90 : a.eval (.tmp 90) = .bool false := e90.trans r18
            refine wpG_yes 18 false 90 rfl (by kernel_rfl) (by rw [hS]; first | simp | exact Nat.le_of_ble_eq_true rfl) v90 ?_
            obtain ⟨⟨gz23, rg23, rh23⟩, e95⟩ := hE 23 95 (by kernel_rfl) (by kernel_rfl)
            have v95 : a.eval (.tmp 95) = .slice (some ⟨gz23, 0, none⟩) 2 2 := e95.trans rg23
            obtain ⟨r24, e96⟩ := hE 24 96 (by kernel_rfl) (by kernel_rfl)
            have v96 : a.eval (.tmp 96) = .int .i64 (n : Nat) := e96.trans r24
            clear hE hU
            exact wp_value_inv (w' := W) (.pointer (some ⟨gz23, 0 + n, none⟩)) (op_indexAddr rfl v95 v96 (run_index_str6 W gz23 0 2 2 n hlt)) ⟨_, rfl, hB, Fr.refl _ _, ⟨gz23, by rw [Nat.zero_add], rh23⟩, fun _ _ _ _ _ => trivial⟩
          · simp only [List.getElem?_cons_zero, List.getElem?_cons_succ, Option.some.injEq] at ho
            subst ho
            intro a W vs hB hS hE hU
            obtain ⟨r18, e90⟩ := hE 18 90 (by kernel_rfl) (by kernel_rfl)
            have v90 : a.eval (.tmp 90) = .bool false := e90.trans r18
            refine wpG_yes 18 false 90 rfl (by kernel_rfl) (by rw [hS]; first | simp | exact Nat.le_of_ble_eq_true rfl) v90 ?_
            obtain ⟨⟨gz25, rg25, rh25⟩, e97⟩ := hE 25 97 (by kernel_rfl) (by kernel_rfl)
            have v97 : a.eval (.tmp 97) = .pointer (some ⟨gz25, n, none⟩) := e97.trans rg25
            clear hE hU
            exact wp_value_inv (w' := W) (.string nb) (op_loadAt rfl v97 (load_one5 W 9 ⟨gz25, n, none⟩ _ (by kernel_rfl) (by rw [cell_of_row _ _ _ _ _ _ rh25]; exact HK1.out.2))) ⟨_, rfl, hB, Fr.refl _ _, rfl, fun _ _ _ _ _ => trivial⟩
          · simp only [List.getElem?_cons_zero, List.getElem?_cons_succ, Option.some.injEq] at ho
            subst ho
            intro a W vs hB hS hE hU
            obtain ⟨r18, e90⟩ := hE 18 90 (by kernel_rfl) (by kernel_rfl)
            have v90 : a.eval (.tmp 90) = .bool false := e90.trans r18
            refine wpG_yes 18 false 90 rfl (by kernel_rfl) (by rw [hS]; first | simp | exact Nat.le_of_ble_eq_true rfl) v90 ?_
            obtain ⟨r22, e94⟩ := hE 22 94 (by kernel_rfl) (by kernel_rfl)
            have v94 : a.eval (.tmp 94) = .string nb := e94.trans r22
            obtain ⟨r26, e98⟩ := hE 26 98 (by kernel_rfl) (by kernel_rfl)
            have v98 : a.eval (.tmp 98) = .string nb := e98.trans r26
            clear hE hU
            exact wp_value_inv (w' := W) (.bool false) (op_bin rfl v94 v98 rfl (neq_str6 W _)) ⟨_, rfl, hB, Fr.refl _ _, rfl, fun _ _ _ _ _ => trivial⟩
          · simp only [List.getElem?_cons_zero, List.getElem?_cons_succ, Option.some.injEq] at ho
            subst ho
            intro a W vs hB hS hE hU
            refine wpG_plain rfl ?_
            obtain ⟨r18, e90⟩ := hE 18 90 (by kernel_rfl) (by kernel_rfl)
            have v90 : a.eval (.tmp 90) = .bool false := e90.trans r18
            obtain ⟨r27, e99⟩ := hE 27 99 (by kernel_rfl) (by kernel_rfl)
            have v99 : a.eval (.tmp 99) = .bool false := e99.trans r27
            clear hE hU
            exact wp_value_inv (w' := W) (.bool false) (op_pick rfl v90 (by simp only [Bool.false_eq_true, if_false]; exact v99)) ⟨_, rfl, hB, Fr.refl _ _, rfl, fun _ _ _ _ _ => trivial⟩
        · intro vs Wb hB0 hR0 hD
          have r100 : vs 28 = .bool false := hR0 28 (by decide)
          have HB := Lib.hid hB0
          clear hR0 hD hB0
          simp only [acts, if_true, dstAt, List.getElem?_cons_zero, List.getElem?_cons_succ, Option.bind_some, Act.put, List.setIfInBounds_toArray, List.set_cons_succ, List.set_cons_zero, List.drop_succ_cons, List.drop_nil]
          simp only [r100]
          clear r100
          go_wp2_with fail
          go_roundw
          case rel => exact ⟨n + 1, by omega, by go_num, Lib.hid ⟨HFR8.out.1.trans HB.out (fun _ h => h.elim), HB.out.heap HFR8.out.2 id⟩⟩
          case measure => simp [intOf]; omega)
    · obtain rfl : n = 2 := by omega
      go_wp2_with fail
      go_ret
      exact ⟨rfl, hR.out.1⟩
end Go.Proofs.YtldgcoikbjbjeaaGreat
