/- Laid together: RRd7 RWr7 OverT -/
import Derived.Test.YtcbbcihfooaggaaBe21
import Derived.Test.YtcbbcihfooaggaaBe18
import Derived.Test.YtcbbcihfooaggaaBe0
import Derived.Test.YtcbbcihfooaggaaBe7

namespace Go.Proofs.Ytcbbcihfooaggaa
open Go.RowKit Go.ChangeShapes
set_option linter.unusedVariables false
theorem run_hi8 (w : World) (ao : Option Addr) (l cap n : Nat) (hn : n ≤ cap) : (Instr.slice 40 (.slice ao l cap) none (some (.int .i64 (n : Int))) none).run Try.prog w = .ok (.slice ao n cap) w := by
  have hs : ∀ w, (sizeOf 5).run Try.prog w = .ok 1 w := fun w => by kernel_rfl
  cases ao <;> simp [Instr.slice, run_underlying Try.underlying40, Instr.sliceBounds, run_sliceBound, hs, hn, Addr.add]
theorem OwnI.cells {z : Nat} {w : World} {v : Value} {l : List Nat} (h : OwnI z w v l) : ∃ ao cap, v = .slice ao l.length cap ∧ ∃ b off, (0 < l.length → ao = some ⟨b, off, none⟩) ∧ ∀ i (hi : i < l.length), w.cell? ⟨b, off + i, none⟩ = some (.int .i64 (l[i] : Nat)) := by
  obtain ⟨ao, cap, hv, h1, h2, h3, h4⟩ := OwnE.elems h
  rw [List.length_map] at hv
  refine ⟨ao, cap, hv, ?_⟩
  by_cases h0 : l = []
  · subst h0
    exact ⟨0, 0, (fun h => by simp at h), fun i hi => by simp at hi⟩
  · obtain ⟨b, off, ha, _, hc⟩ := h4 (by simpa using h0)
    refine ⟨b, off, fun _ => ha, fun i hi => ?_⟩
    have := hc i (by rw [List.length_map]; exact hi) 0 (by omega)
    rw [List.getElem_map] at this
    simpa [inC] using this
def ReadR (w : World) (r : Int × List UInt8) (e : Ending) (w' : World) : Prop := ∃ v, e = .returned (.tuple #[v, .int .i64 r.1]) ∧ BytesIn (fun k => w.heap.size ≤ k) w' v r.2 ∧ Fr (fun _ => False) w w'
set_option maxRecDepth 100000 in
set_option maxHeartbeats 4000000 in
theorem rRead_yes {D F : Nat → Prop} (w : World) (g s : Nat) (dv : Dv) (l0 la d s0 many : Nat) (v : Value) (l : List Rn) (h : RefAt w D g s dv) (hs2 : s ≤ 8192) (hn6 : dv.waits.length ≤ 1000000) (hmb : many ≤ 1000000) (hL : RnsIn F w v l) (hF : ∀ k, F k → k < w.heap.size) (hsh : ShOk l0 la d s0) (hss : s0 ≤ s) (hap : apart7 d l = true) (hc : ((secs7 l).length : Int) = need7 (many : Int)) :
    Calls Try.prog 29 #[.pointer (some ⟨g, 0, none⟩), .agg #[.int .i64 l0, .int .i64 la, .int .i64 d], .int .i64 many, v] w (ReadR w ((dv.rd7 s (1 + l0 + 2 * la) (secs7 l)).1, (dv.rd7 s (1 + l0 + 2 * la) (secs7 l)).2.take many)) := by
  have hf1 : Fr (fun _ => False) w (w.alloc (.cells #[.int .i64 (l0 : Int), .int .i64 (la : Int), .int .i64 (d : Int)] 23)) := (Fr.refl _ _).alloc _
  have hp := rPlaces_yes _ g s dv l0 la d s0 many v l (h.keep hf1 (fun _ _ _ h => h)) hs2 (by omega) (by omega) ((hL.mono (G := fun k => F k ∧ k < w.heap.size) (fun k hk h => ⟨h, hk⟩)).quiet hf1) (fun k hk => by have := hk.2; simp; omega) hsh hap hss
  rw [show (((secs7 l).length : Int) == need7 (many : Int)) = true by rw [beq_iff_eq]; exact hc] at hp
  obtain ⟨f0, hf0⟩ : ∃ f0, f0 = 1 + l0 + 2 * la := ⟨_, rfl⟩
  rw [← hf0] at hp ⊢
  have hxs : ∀ y ∈ secs7 l, f0 + y < s := fun y hy => by have := secs7_lt (apart7_iff.1 hap).1 hy; have := hsh.sum; omega
  have hle := apart7_le hap
  have hd : d ≤ 8192 := by have := hsh.sum; have := hsh.most; omega
  rw [need7_nat] at hc
  obtain ⟨xs, hx⟩ : ∃ xs, xs = secs7 l := ⟨_, rfl⟩
  rw [← hx] at hp hxs hle hc ⊢
  obtain ⟨n, hn⟩ : ∃ n, n = xs.length := ⟨_, rfl⟩
  have HP := Lib.hid hp
  have HF := Lib.hid hf1
  have hmn : many ≤ 64 * n ∧ n ≤ 8192 := by omega
  have HX := Lib.hid (And.intro hxs (And.intro hn (And.intro hmn (And.intro h (And.intro hn6 h.right)))))
  clear hp hf1 hxs hle hc hx h hL hF hsh hss hap hf0
  go_enter Try.func29, Try.ntmps29
  go_wp2_with (go_at_call 53; refine HP.out.mono ?_; rintro e w2 ⟨u, rfl, ho, hf⟩; (obtain ⟨aq, cq, rfl, bq, oq, haq, hcq⟩ := ho.cells); rw [List.length_map, ← HX.out.2.1] at haq ⊢; (have H2 := Lib.hid (And.intro (HF.out.trans hf (fun _ h => h.elim)) hcq)); (have HAQ := Lib.hid haq); clear hf hcq ho haq)
  go_loopw [12, 13] (fun ov iv wr => ∃ i : Nat, i ≤ n ∧ iv = .int .i64 i ∧ (∃ a9 n9 c9, ov = .slice a9 n9 c9) ∧ Hid (OwnB (fun k => w2.heap.size ≤ k) wr ov (dv.see7 f0 (xs.take i)) ∧ (i = 0 ∨ dv.down = false) ∧ Fr (fun _ => False) w wr ∧ Fr (fun _ => False) w2 wr)) (fun _ iv _ => n - (intOf iv).toNat)
  case atStart => exact ⟨0, by omega, rfl, ⟨none, 0, 0, rfl⟩, Lib.hid ⟨by simpa [Dv.see7] using OwnB.nil _ _, .inl rfl, H2.out.1, Fr.refl _ _⟩⟩
  case round =>
    obtain ⟨i, hi, rfl, ⟨a9, n9, c9, rfl⟩, hR⟩ := hrel
    have hn8 : n ≤ 8192 := HX.out.2.2.1.2
    by_cases hlt : i < n
    · have hiL : i < xs.length := by have := HX.out.2.1; omega
      have hci := hR.out.2.2.2.cell (H2.out.2 i (by rw [List.length_map]; exact hiL)) id
      rw [List.getElem_map] at hci
      have hai := HAQ.out (by omega)
      subst hai
      have hxi := HX.out.1 _ (List.getElem_mem hiL)
      obtain ⟨x, hx⟩ : ∃ x, x = xs[i] := ⟨_, rfl⟩
      rw [← hx] at hci hxi
      have hlt64 : (i : Int) < (n : Int) := by omega
      have hrd := fun (W : World) (hW : Fr (fun _ => False) wr W) => bRead W g s dv ((f0 + x : Nat) : Int) HX.out.2.2.2.2.1 ((HX.out.2.2.2.1.keep hR.out.2.2.1 (fun _ _ _ h => h)).keep hW (fun _ _ _ h => h))
      have hsn : dv.see7 f0 (xs.take (i + 1)) = dv.see7 f0 (xs.take i) ++ dv.seen (f0 + x) := by rw [List.take_succ_eq_append_getElem hiL, see7_snoc, hx]
      cases hdn : dv.down with
      | true =>
        rw [Dv.read_dn hdn] at hrd
        have HRD := Lib.hid hrd
        have hrr : dv.rd7 s f0 xs = (10, []) := by rw [Dv.rd7_dn hdn, if_neg (fun e => by rw [e] at hiL; simp at hiL)]
        have HRR := Lib.hid hrr
        clear hrd hrr hsn hxi hx hiL hdn
        go_wp2_with (go_at_call 57; refine (HRD.out _ (by first | exact (Fr.refl _ _) | exact (Fr.refl _ _).drewN _)).mono ?_; rintro e w8 ⟨v8, rfl, -, hf8⟩; (have H8 := Lib.hid hf8); clear hf8)
        go_ret2
        exact ⟨.slice none 0 0, by rw [HRR.out]; rfl, by rw [HRR.out]; simpa using BytesIn.nil _ _, hR.out.2.2.1.trans H8.out (fun _ h => h.elim)⟩
      | false =>
        rw [Dv.read_up hdn hxi] at hrd
        have HRD := Lib.hid hrd
        have HSN := Lib.hid (And.intro hsn hdn)
        have hsl : (dv.seen (f0 + x)).length = 64 := Dv.seen_length HX.out.2.2.2.2.2 hxi
        have HLE := Lib.hid (show (dv.see7 f0 (xs.take i)).length + (dv.seen (f0 + x)).length ≤ 140737488355328 by
          have h1 := Dv.see7_length HX.out.2.2.2.2.2 (f := f0) (xs.take i) (fun y hy => HX.out.1 y (List.mem_of_mem_take hy))
          rw [h1, hsl, List.length_take]
          omega)
        clear hrd hsn hxi hx hiL hdn hsl
        go_wp2_with (first
          | (go_at_call 57; refine (HRD.out _ (by first | exact (Fr.refl _ _) | exact (Fr.refl _ _).drewN _)).mono ?_; rintro e w8 ⟨v8, rfl, ho8, hf8⟩; (obtain ⟨a8, m8, c8, rfl⟩ : ∃ a n c, v8 = .slice a n c := by obtain ⟨y1, y2, hy⟩ := ho8.len; exact ⟨y1, _, y2, hy⟩); (have H8 := Lib.hid (And.intro ho8 hf8)); clear ho8 hf8)
          | (at_builtin; refine wpList_append_bytes w8 rfl (.tmp 44) (.tmp 45) rfl (.slice a9 n9 c9) (.slice a8 m8 c8) _ _ rfl rfl (hR.out.1.keep H8.out.2 (fun _ _ _ h => h)) H8.out.1.bytes HLE.out ?_; intro v7 w7 ho7 hg7 _; rw [← HSN.out.1] at ho7; (obtain ⟨a7, n7, c7, rfl⟩ : ∃ a n c, v7 = .slice a n c := by obtain ⟨y1, y2, hy⟩ := ho7.len; exact ⟨y1, _, y2, hy⟩); (have hf7 : Fr (fun k => (Value.slice a9 n9 c9).ownBlock = some k) wr w7 := (H8.out.2.mono (T := fun k => (Value.slice a9 n9 c9).ownBlock = some k) (fun _ _ h => h.elim)).grown hg7 (fun k hk => .inl hk)); (have H7 := Lib.hid (And.intro ho7 hf7)); clear ho7 hg7 hf7))
        go_roundw
        case rel =>
          have hzz := hR.out.2.2.2.size
          have hz8 := H8.out.2.size
          have hown : ∀ k, (Value.slice a9 n9 c9).ownBlock = some k → w2.heap.size ≤ k := fun k hk => hR.out.1.2 k hk
          exact ⟨i + 1, by omega, by go_num, ⟨_, _, _, rfl⟩, Lib.hid ⟨H7.out.1.mono (fun k _ hk => hk.elim id (fun h => by omega)), .inr (by first | trivial | exact HSN.out.2), hR.out.2.2.1.trans H7.out.2 (fun k hk => .inr (Nat.le_trans H2.out.1.size (hown k hk))), hR.out.2.2.2.trans H7.out.2 (fun k hk => .inr (hown k hk))⟩⟩
        case measure => simp [intOf]; omega
    · obtain rfl : n = i := by omega
      have htk : xs.take n = xs := List.take_of_length_le (by have := HX.out.2.1; omega)
      rw [htk] at hR
      have hrr : (dv.rd7 s f0 xs).1 = 0 ∧ (dv.rd7 s f0 xs).2 = dv.see7 f0 xs := by
        rcases hR.out.2.1 with h | h
        · have h0 : xs = [] := List.eq_nil_of_length_eq_zero (by have := HX.out.2.1; omega)
          rw [h0]; exact ⟨rfl, rfl⟩
        · rw [Dv.rd7_up h _ HX.out.1]; exact ⟨rfl, rfl⟩
      have h1 := Dv.see7_length HX.out.2.2.2.2.2 (f := f0) xs HX.out.1
      have hml : many ≤ (dv.see7 f0 xs).length := by have := HX.out.2.1; have := HX.out.2.2.1; omega
      have hcap : many ≤ c9 := by
        obtain ⟨y1, y2, hy, hle, _⟩ := hR.out.1.bytes
        simp only [Value.slice.injEq] at hy
        omega
      have hby := hR.out.1.bytes.take many hml
      have hsl := fun w => run_hi8 w a9 n9 c9 many hcap
      have HRR := Lib.hid (And.intro hrr hby)
      clear hrr hby h1 hml hcap htk
      go_wp2
      go_ret2
      exact ⟨.slice a9 many c9, by rw [HRR.out.1.1]; rfl, by rw [HRR.out.1.2]; exact HRR.out.2.mono (fun k _ hk => Nat.le_trans H2.out.1.size hk), hR.out.2.2.1⟩
end Go.Proofs.Ytcbbcihfooaggaa
namespace Go.Proofs.Ytcbbcihfooaggaa
open Go.RowKit Go.ChangeShapes
set_option linter.unusedVariables false
theorem op_slice_lh {t : TypeId} {w : World} {o : Oper} {a : Act} {x lo hi : Operand} {vx vl vh v : Value} (ho : o.op = .slice t x (some lo) (some hi) none) (hx : a.eval x = vx) (hl : a.eval lo = vl) (hh : a.eval hi = vh) (hr : (Instr.sliceAt t vx (some vl) (some vh) none).run Try.prog w = .ok v w) : (execOp a.eval o).run Try.prog w = .ok (.value v) w := by
  unfold execOp
  rw [ho]
  simp only [hx, hl, hh, Option.map_some, Option.map_none, Sem.run_bind, hr, Result.andThen_ok]
  rfl
theorem run_lh7 (w : World) (ao : Option Addr) (l cap i n : Nat) (hn : i + n ≤ cap) :
    (Instr.sliceAt 40 (.slice ao l cap) (some (.int .i64 ((i : Nat) : Int))) (some (.int .i64 ((i + n : Nat) : Int))) none).run Try.prog w = .ok (.slice (cutLow ao i cap) n (cap - i)) w := by
  obtain ⟨j, hj⟩ : ∃ j, j = i + n := ⟨_, rfl⟩
  rw [← hj] at hn ⊢
  have hs : ∀ w, (sizeOf 5).run Try.prog w = .ok 1 w := fun w => by kernel_rfl
  have e1 : ∀ w, (Instr.sliceBound (.int .i64 (j : Int)) cap .sliceAcap).run Try.prog w = .ok j w := fun w => by
    rw [run_sliceBound w .i64 (j : Int) cap .sliceAcap (by omega) (by omega), Int.toNat_natCast]
  have e2 : ∀ w, (Instr.sliceBound (.int .i64 (i : Int)) j .sliceB).run Try.prog w = .ok i w := fun w => by
    rw [run_sliceBound w .i64 (i : Int) j .sliceB (by omega) (by omega), Int.toNat_natCast]
  have h3 : j - i = n := by omega
  simp [Instr.sliceAt, Instr.slice, run_underlying Try.underlying40, Instr.sliceBounds, e1, e2, hs, cutLow, h3]
theorem run_index_int8 (w : World) (b off n cap i : Nat) (h : i < n) : (Instr.indexAt 66 (.slice (some ⟨b, off, none⟩) n cap) (.int .i64 i)).run Try.prog w = .ok (.pointer (some ⟨b, off + i, none⟩)) w := by
  have hs : ∀ w, (sizeOf 3).run Try.prog w = .ok 1 w := fun w => by kernel_rfl
  simp [Instr.indexAt, h, Addr.add, asIntOf, run_underlying Try.underlying66, hs]
theorem OwnI.cells8 {z : Nat} {w : World} {v : Value} {l : List Nat} (h : OwnI z w v l) (h0 : l ≠ []) : ∃ b off cap, v = .slice (some ⟨b, off, none⟩) l.length cap ∧ z ≤ b ∧ b < w.heap.size ∧ ∀ i (hi : i < l.length), w.cell? ⟨b, off + i, none⟩ = some (.int .i64 (l[i] : Nat)) := by
  have ho := fun g hg => OwnE.own h g hg
  obtain ⟨ao, cap, hv, h1, h2, h3, h4⟩ := OwnE.elems h
  rw [List.length_map] at hv
  obtain ⟨b, off, ha, hb, hc⟩ := h4 (by simpa using h0)
  refine ⟨b, off, cap, by rw [hv, ha], (ho b hb).1, (ho b hb).2, fun i hi => ?_⟩
  have := hc i (by rw [List.length_map]; exact hi) 0 (by omega)
  rw [List.getElem_map] at this
  simpa [inC] using this
def RwR (g bq oq n cq i7 f0 x nb cb m : Nat) (ab : Option Addr) (i : Nat) (v : Value) (W : World) : Prop :=
  match i with
  | 0 => v = .pointer (some ⟨g, 0, none⟩)
  | 1 => v = .slice (some ⟨bq, oq, none⟩) n cq
  | 2 => v = .int .i64 (i7 : Nat)
  | 3 => v = .pointer (some ⟨bq, oq + i7, none⟩)
  | 4 => v = .int .i64 ((f0 + x : Nat) : Int)
  | 5 => v = .slice ab nb cb
  | 6 => v = .int .i64 (i7 : Nat)
  | 7 => v = .int .i64 ((64 * i7 : Nat) : Int)
  | 8 => v = .int .i64 (i7 : Nat)
  | 9 => v = .int .i64 ((64 * i7 : Nat) : Int)
  | 10 => v = .int .i64 ((64 * i7 + 64 : Nat) : Int)
  | 11 => v = .slice ab nb cb
  | 12 => v = .int .i64 (nb : Nat)
  | 13 => v = .int .i64 ((64 * i7 + m : Nat) : Int)
  | 14 => v = .slice (cutLow ab (64 * i7) cb) m (cb - 64 * i7)
  | _ => True
theorem RwR.ext (g bq oq n cq i7 f0 x nb cb m : Nat) (ab : Option Addr) : ∀ (j : Nat) (u : Value) (W W' : World), Fr (fun _ => False) W W' → RwR g bq oq n cq i7 f0 x nb cb m ab j u W → RwR g bq oq n cq i7 f0 x nb cb m ab j u W'
  | 0, u, W, W', hf, h => h
  | 1, u, W, W', hf, h => h
  | 2, u, W, W', hf, h => h
  | 3, u, W, W', hf, h => h
  | 4, u, W, W', hf, h => h
  | 5, u, W, W', hf, h => h
  | 6, u, W, W', hf, h => h
  | 7, u, W, W', hf, h => h
  | 8, u, W, W', hf, h => h
  | 9, u, W, W', hf, h => h
  | 10, u, W, W', hf, h => h
  | 11, u, W, W', hf, h => h
  | 12, u, W, W', hf, h => h
  | 13, u, W, W', hf, h => h
  | 14, u, W, W', hf, h => h
  | _ + 15, u, W, W', hf, h => trivial
def WriteR (w : World) (D : Nat → Prop) (g s : Nat) (r : Int × Dv) (e : Ending) (w' : World) : Prop := e = .returned (.int .i64 r.1) ∧ RefAt w' (More D w) g s r.2 ∧ Fr D w w'
structure Wr8 (w w2 W : World) (D : Nat → Prop) (g s f0 : Nat) (dv : Dv) (xs : List Nat) (b : List UInt8) : Prop where
  ok : (dv.wp7 s f0 xs b).1 = 0
  at_ : RefAt W (fun k => (D k ∧ k < w.heap.size) ∨ w2.heap.size ≤ k) g s (dv.wp7 s f0 xs b).2
  fr : Fr (fun k => D k ∧ k < w.heap.size) w2 W
theorem wr8_step {w w2 W Wa w8 : World} {D : Nat → Prop} {g s : Nat} {d : Dv} (hfr : Fr (fun k => D k ∧ k < w.heap.size) w2 W) (ha : Fr (fun _ => False) W Wa) (hr : RefAt w8 (More (fun k => (D k ∧ k < w.heap.size) ∨ w2.heap.size ≤ k) Wa) g s d) (h8 : Fr (fun k => (D k ∧ k < w.heap.size) ∨ w2.heap.size ≤ k) Wa w8) :
    RefAt w8 (fun k => (D k ∧ k < w.heap.size) ∨ w2.heap.size ≤ k) g s d ∧ Fr (fun k => D k ∧ k < w.heap.size) w2 w8 := by
  have h1 := hfr.trans ha (fun _ h => h.elim)
  refine ⟨hr.mono (fun k _ hk => hk.elim id (fun h => .inr (Nat.le_trans h1.size h))), h1.trans h8 (fun k hk => hk)⟩
theorem wr8_end {w w2 w8 : World} {D : Nat → Prop} {g s : Nat} {d : Dv} (h2 : Fr (fun _ => False) w w2) (hr : RefAt w8 (fun k => (D k ∧ k < w.heap.size) ∨ w2.heap.size ≤ k) g s d ∧ Fr (fun k => D k ∧ k < w.heap.size) w2 w8) : RefAt w8 (More D w) g s d ∧ Fr D w w8 := by
  refine ⟨hr.1.mono (fun k _ hk => hk.elim (fun h => .inl h.1) (fun h => .inr (Nat.le_trans h2.size h))), ?_⟩
  exact (h2.mono (T := D) (fun _ _ h => h.elim)).trans hr.2 (fun k hk => .inl hk.1)
set_option maxRecDepth 100000 in
set_option maxHeartbeats 4000000 in
theorem rWrite_yes {D F G : Nat → Prop} (w : World) (g s : Nat) (dv : Dv) (l0 la d s0 : Nat) (vb v : Value) (b : List UInt8) (l : List Rn) (h : RefAt w D g s dv) (hs2 : s ≤ 8192) (hup : dv.down = false) (hk6 : dv.deeds ≤ 900000000) (hn6 : dv.waits.length ≤ 900000) (hb : BytesIn G w vb b) (hbl : b.length ≤ 1000000000) (hG : ∀ k, G k → k < w.heap.size ∧ ¬ D k) (hL : RnsIn F w v l) (hF : ∀ k, F k → k < w.heap.size) (hsh : ShOk l0 la d s0) (hss : s0 ≤ s) (hap : apart7 d l = true) (hc : ((secs7 l).length : Int) = need7 (b.length : Int)) :
    Calls Try.prog 25 #[.pointer (some ⟨g, 0, none⟩), .agg #[.int .i64 l0, .int .i64 la, .int .i64 d], vb, v] w (WriteR w D g s (dv.wr7 s (1 + l0 + 2 * la) (secs7 l) b)) := by
  obtain ⟨ab, cb, rfl⟩ : ∃ ao cap, vb = .slice ao b.length cap := by obtain ⟨x, y, hx, _⟩ := hb; exact ⟨x, y, hx⟩
  have hcb : b.length ≤ cb := by obtain ⟨x, y, hx, h9, _⟩ := id hb; simp only [Value.slice.injEq] at hx; omega
  have hf1 : Fr (fun _ => False) w (w.alloc (.cells #[.int .i64 (l0 : Int), .int .i64 (la : Int), .int .i64 (d : Int)] 23)) := (Fr.refl _ _).alloc _
  have hp := rPlaces_yes _ g s dv l0 la d s0 (b.length : Int) v l (h.keep hf1 (fun _ _ _ h => h)) hs2 (by omega) (by omega) ((hL.mono (G := fun k => F k ∧ k < w.heap.size) (fun k hk h => ⟨h, hk⟩)).quiet hf1) (fun k hk => by have := hk.2; simp; omega) hsh hap hss
  rw [show (((secs7 l).length : Int) == need7 (b.length : Int)) = true by rw [beq_iff_eq]; exact hc] at hp
  obtain ⟨f0, hf0⟩ : ∃ f0, f0 = 1 + l0 + 2 * la := ⟨_, rfl⟩
  rw [← hf0] at hp ⊢
  have hxs : ∀ y ∈ secs7 l, f0 + y < s := fun y hy => by have := secs7_lt (apart7_iff.1 hap).1 hy; have := hsh.sum; omega
  have hle := apart7_le hap
  have hd : d ≤ 8192 := by have := hsh.sum; have := hsh.most; omega
  rw [need7_nat] at hc
  obtain ⟨xs, hx⟩ : ∃ xs, xs = secs7 l := ⟨_, rfl⟩
  rw [← hx] at hp hxs hle hc ⊢
  obtain ⟨n, hn⟩ : ∃ n, n = xs.length := ⟨_, rfl⟩
  obtain ⟨nb, hnb⟩ : ∃ nb, nb = b.length := ⟨_, rfl⟩
  rw [← hnb] at hb hbl hc hp hcb ⊢
  have HP := Lib.hid hp
  have HF := Lib.hid hf1
  have hbn : nb ≤ 64 * n ∧ 64 * n ≤ nb + 63 ∧ n ≤ 8192 := by omega
  have HX := Lib.hid (And.intro hxs (And.intro hn (And.intro hbn (And.intro h (And.intro hup (And.intro hk6 (And.intro hn6 (And.intro hb (And.intro hG (And.intro hnb (And.intro hcb hs2)))))))))))
  clear hn hbn hp hf1 hxs hle hc hx h hL hF hsh hss hap hf0 hup hk6 hn6 hb hG hnb hcb hs2
  go_enter Try.func25, Try.ntmps25
  go_wp2_with (go_at_call 53; refine HP.out.mono ?_; rintro e w2 ⟨u, rfl, ho, hf⟩; (obtain ⟨aq, cq, hu⟩ := ho.form); rw [List.length_map, ← HX.out.2.1] at hu; subst hu; (have H2 := Lib.hid (And.intro (HF.out.trans hf (fun _ h => h.elim)) ho)); clear hf ho)
  have hst0 : Wr8 w w2 w2 D g s f0 dv (xs.take 0) b := ⟨rfl, ((HX.out.2.2.2.1.mono (E := fun k => D k ∧ k < w.heap.size) (fun k hk h => ⟨h, hk⟩)).keep H2.out.1 (fun _ _ _ h => h)).mono (fun k _ h => .inl h), Fr.refl _ _⟩
  go_loopw [8, 11] (fun rv iv wr => ∃ i : Nat, i ≤ n ∧ rv = .int .i64 0 ∧ iv = .int .i64 i ∧ Hid (Wr8 w w2 wr D g s f0 dv (xs.take i) b)) (fun _ iv _ => n - (intOf iv).toNat)
  case atStart => exact ⟨0, by omega, rfl, rfl, Lib.hid hst0⟩
  case round =>
    clear hst0
    obtain ⟨i7, hi, rfl, rfl, hR⟩ := hrel
    by_cases hlt : i7 < n
    · have hiL : i7 < xs.length := by have := HX.out.2.1; omega
      obtain ⟨bq, oq, cq', hu, hq1, hq2, hcq⟩ := OwnI.cells8 H2.out.2 (fun e => by rw [List.map_eq_nil_iff] at e; rw [e] at hiL; simp at hiL)
      rw [List.length_map, ← HX.out.2.1] at hu
      simp only [Value.slice.injEq] at hu
      obtain ⟨rfl, -, rfl⟩ := hu
      have hnq : ¬ (D bq ∧ bq < w.heap.size) := fun hk => by
        have h1 : w.heap.size + 1 ≤ bq := by simpa using hq1
        have h2 := hk.2
        omega
      have hci := hR.out.fr.cell (hcq i7 (by rw [List.length_map]; exact hiL)) hnq
      rw [List.getElem_map] at hci
      have hxi := HX.out.1 _ (List.getElem_mem hiL)
      obtain ⟨x, hx⟩ : ∃ x, x = xs[i7] := ⟨_, rfl⟩
      rw [← hx] at hci hxi
      have htk : (xs.take i7).length = i7 := by rw [List.length_take]; omega
      obtain ⟨m, hm⟩ : ∃ m, m = min 64 (nb - 64 * i7) := ⟨_, rfl⟩
      have hbn2 := HX.out.2.2.1
      have hmb : 64 * i7 + m ≤ nb := by omega
      have hmc : 64 * i7 + m ≤ cb := by have := HX.out.2.2.2.2.2.2.2.2.2.2.1; omega
      have hmi : (if ((nb : Nat) : Int) < ((64 * i7 + 64 : Nat) : Int) then ((nb : Nat) : Int) else ((64 * i7 + 64 : Nat) : Int)) = ((64 * i7 + m : Nat) : Int) := by split <;> omega
      have hbt0 := HX.out.2.2.2.2.2.2.2.1
      rw [HX.out.2.2.2.2.2.2.2.2.2.1] at hbt0
      have hbt := (hbt0.cutLow (64 * i7) (by have := HX.out.2.2.2.2.2.2.2.2.2.1; omega)).take m (by rw [List.length_drop]; have := HX.out.2.2.2.2.2.2.2.2.2.1; omega)
      have htm : (b.drop (64 * i7)).take m = (b.drop (64 * i7)).take 64 := by
        rw [hm]
        by_cases h64 : nb - 64 * i7 ≤ 64
        · rw [List.take_of_length_le (by rw [List.length_drop]; have := HX.out.2.2.2.2.2.2.2.2.2.1; omega), List.take_of_length_le (by rw [List.length_drop]; have := HX.out.2.2.2.2.2.2.2.2.2.1; omega)]
        · congr 1; omega
      rw [htm] at hbt
      have hsn : xs.take (i7 + 1) = xs.take i7 ++ [x] := by rw [List.take_succ_eq_append_getElem hiL, hx]
      have hws := Dv.wp7_snoc (x := x) hR.out.ok
      rw [← hsn, htk] at hws
      obtain ⟨hu1, hu2, hu3⟩ := Dv.wp7_up HX.out.2.2.2.2.1 (fun y hy => HX.out.1 y (List.mem_of_mem_take hy)) hR.out.ok
      rw [htk] at hu2 hu3
      have hfw : Fr (fun k => D k ∧ k < w.heap.size) w wr := (H2.out.1.mono (T := fun k => D k ∧ k < w.heap.size) (fun _ _ h => h.elim)).trans hR.out.fr (fun k hk => .inl hk)
      have hwr := fun (Wa : World) (hWa : Fr (fun _ => False) wr Wa) => bWrite (G := G) Wa g s _ ((f0 + x : Nat) : Int) (.slice (cutLow ab (64 * i7) cb) m (cb - 64 * i7)) _ (by have := HX.out.2.2.2.2.2.1; omega) (by have := HX.out.2.2.2.2.2.2.1; omega) ((hbt.keep hfw (fun k _ hk h => (HX.out.2.2.2.2.2.2.2.2.1 k hk).2 h.1)).keep hWa (fun _ _ _ h => h)) (fun k hk => ⟨by have := (HX.out.2.2.2.2.2.2.2.2.1 k hk).1; have := hfw.size; have := hWa.size; omega, fun h => by
        have h5 := HX.out.2.2.2.2.2.2.2.2.1 k hk
        rcases h with h | h
        · exact h5.2 h.1
        · have := H2.out.1.size; omega⟩) (hR.out.at_.keep hWa (fun _ _ _ h => h))
      rw [← hws] at hwr
      have HWR := Lib.hid hwr
      have LDI := Lib.hid (fun W (hW : Fr (fun _ => False) wr W) => load_int5 W ⟨bq, oq + i7, none⟩ _ (hW.cell hci id))
      have HIN := Lib.hid hlt
      have HMI := Lib.hid hmi
      have HMC := Lib.hid hmc
      have HB8 := Lib.hid (show i7 ≤ 8192 by omega)
      obtain ⟨R, hRR⟩ : ∃ R, R = dv.wp7 s f0 (xs.take (i7 + 1)) b := ⟨_, rfl⟩
      rw [← hRR] at HWR
      have HRR := Lib.hid (And.intro hRR (And.intro hsn hiL))
      have hlt64 : (i7 : Int) < (n : Int) := by omega
      clear hnq hu1 hu2 hu3 hws hwr hci hx hxi htk hm hmb hmc hmi hbt0 hbt htm hsn hfw hRR hq1 hq2 hcq hiL
      go_wp2
      clear hlt hlt64
      refine wp_region_inv 15 (by kernel_rfl) (by kernel_rfl) (fun W => Fr (fun _ => False) wr W) (RwR g bq oq n cq i7 f0 x nb cb m ab) (fun _ _ _ _ => True) (Fr (fun _ => False)) (RwR.ext g bq oq n cq i7 f0 x nb cb m ab) (Fr.refl _ _).drew ?_ ?_
      · intro i hi o ho
        replace hi : i < 15 := hi
        obtain rfl | rfl | rfl | rfl | rfl | rfl | rfl | rfl | rfl | rfl | rfl | rfl | rfl | rfl | rfl : i = 0 ∨ i = 1 ∨ i = 2 ∨ i = 3 ∨ i = 4 ∨ i = 5 ∨ i = 6 ∨ i = 7 ∨ i = 8 ∨ i = 9 ∨ i = 10 ∨ i = 11 ∨ i = 12 ∨ i = 13 ∨ i = 14 := by omega
        · simp only [List.getElem?_cons_zero, Option.some.injEq] at ho
          subst ho
          intro a W vs hB hS hE hU
          refine wpG_plain rfl ?_
          have v0 : a.eval (.tmp 0) = .pointer (some ⟨g, 0, none⟩) := (hU 0 (by kernel_rfl)).trans rfl
          clear hE hU
          exact wp_value_inv (w' := W) (.pointer (some ⟨g, 0, none⟩)) (op_move rfl v0) ⟨_, rfl, hB, Fr.refl _ _, rfl, fun _ _ _ _ _ => trivial⟩
        · simp only [List.getElem?_cons_zero, List.getElem?_cons_succ, Option.some.injEq] at ho
          subst ho
          intro a W vs hB hS hE hU
          refine wpG_plain rfl ?_
          have v9 : a.eval (.tmp 9) = .slice (some ⟨bq, oq, none⟩) n cq := (hU 9 (by kernel_rfl)).trans rfl
          clear hE hU
          exact wp_value_inv (w' := W) (.slice (some ⟨bq, oq, none⟩) n cq) (op_move rfl v9) ⟨_, rfl, hB, Fr.refl _ _, rfl, fun _ _ _ _ _ => trivial⟩
        · simp only [List.getElem?_cons_zero, List.getElem?_cons_succ, Option.some.injEq] at ho
          subst ho
          intro a W vs hB hS hE hU
          refine wpG_plain rfl ?_
          have v11 : a.eval (.tmp 11) = .int .i64 (i7 : Nat) := (hU 11 (by kernel_rfl)).trans rfl
          clear hE hU
          exact wp_value_inv (w' := W) (.int .i64 (i7 : Nat)) (op_move rfl v11) ⟨_, rfl, hB, Fr.refl _ _, rfl, fun _ _ _ _ _ => trivial⟩
        · simp only [List.getElem?_cons_zero, List.getElem?_cons_succ, Option.some.injEq] at ho
          subst ho
          intro a W vs hB hS hE hU
          refine wpG_plain rfl ?_
          obtain ⟨r1, e31⟩ := hE 1 31 (by kernel_rfl) (by kernel_rfl)
          have v31 : a.eval (.tmp 31) = .slice (some ⟨bq, oq, none⟩) n cq := e31.trans r1
          obtain ⟨r2, e32⟩ := hE 2 32 (by kernel_rfl) (by kernel_rfl)
          have v32 : a.eval (.tmp 32) = .int .i64 (i7 : Nat) := e32.trans r2
          clear hE hU
          exact wp_value_inv (w' := W) (.pointer (some ⟨bq, oq + i7, none⟩)) (op_indexAddr rfl v31 v32 (run_index_int8 W bq oq n cq i7 HIN.out)) ⟨_, rfl, hB, Fr.refl _ _, rfl, fun _ _ _ _ _ => trivial⟩
        · simp only [List.getElem?_cons_zero, List.getElem?_cons_succ, Option.some.injEq] at ho
          subst ho
          intro a W vs hB hS hE hU
          refine wpG_plain rfl ?_
          obtain ⟨r3, e33⟩ := hE 3 33 (by kernel_rfl) (by kernel_rfl)
          have v33 : a.eval (.tmp 33) = .pointer (some ⟨bq, oq + i7, none⟩) := e33.trans r3
          clear hE hU
          exact wp_value_inv (w' := W) (.int .i64 ((f0 + x : Nat) : Int)) (op_loadAt rfl v33 (LDI.out W hB)) ⟨_, rfl, hB, Fr.refl _ _, rfl, fun _ _ _ _ _ => trivial⟩
        · simp only [List.getElem?_cons_zero, List.getElem?_cons_succ, Option.some.injEq] at ho
          subst ho
          intro a W vs hB hS hE hU
          refine wpG_plain rfl ?_
          have v2 : a.eval (.tmp 2) = .slice ab nb cb := (hU 2 (by kernel_rfl)).trans rfl
          clear hE hU
          exact wp_value_inv (w' := W) (.slice ab nb cb) (op_move rfl v2) ⟨_, rfl, hB, Fr.refl _ _, rfl, fun _ _ _ _ _ => trivial⟩
        · simp only [List.getElem?_cons_zero, List.getElem?_cons_succ, Option.some.injEq] at ho
          subst ho
          intro a W vs hB hS hE hU
          refine wpG_plain rfl ?_
          have v11 : a.eval (.tmp 11) = .int .i64 (i7 : Nat) := (hU 11 (by kernel_rfl)).trans rfl
          clear hE hU
          exact wp_value_inv (w' := W) (.int .i64 (i7 : Nat)) (op_move rfl v11) ⟨_, rfl, hB, Fr.refl _ _, rfl, fun _ _ _ _ _ => trivial⟩
        · simp only [List.getElem?_cons_zero, List.getElem?_cons_succ, Option.some.injEq] at ho
          subst ho
          intro a W vs hB hS hE hU
          refine wpG_plain rfl ?_
          obtain ⟨r6, e36⟩ := hE 6 36 (by kernel_rfl) (by kernel_rfl)
          have v36 : a.eval (.tmp 36) = .int .i64 (i7 : Nat) := e36.trans r6
          clear hE hU
          exact wp_value_inv (w' := W) (.int .i64 ((64 * i7 : Nat) : Int)) (op_bin rfl rfl v36 (rfl) (mul_in5 (by push_cast; rfl) (by have := HB8.out; omega) (by have := HB8.out; omega))) ⟨_, rfl, hB, Fr.refl _ _, rfl, fun _ _ _ _ _ => trivial⟩
        · simp only [List.getElem?_cons_zero, List.getElem?_cons_succ, Option.some.injEq] at ho
          subst ho
          intro a W vs hB hS hE hU
          refine wpG_plain rfl ?_
          have v11 : a.eval (.tmp 11) = .int .i64 (i7 : Nat) := (hU 11 (by kernel_rfl)).trans rfl
          clear hE hU
          exact wp_value_inv (w' := W) (.int .i64 (i7 : Nat)) (op_move rfl v11) ⟨_, rfl, hB, Fr.refl _ _, rfl, fun _ _ _ _ _ => trivial⟩
        · simp only [List.getElem?_cons_zero, List.getElem?_cons_succ, Option.some.injEq] at ho
          subst ho
          intro a W vs hB hS hE hU
          refine wpG_plain rfl ?_
          obtain ⟨r8, e38⟩ := hE 8 38 (by kernel_rfl) (by kernel_rfl)
          have v38 : a.eval (.tmp 38) = .int .i64 (i7 : Nat) := e38.trans r8
          clear hE hU
          exact wp_value_inv (w' := W) (.int .i64 ((64 * i7 : Nat) : Int)) (op_bin rfl rfl v38 (rfl) (mul_in5 (by push_cast; rfl) (by have := HB8.out; omega) (by have := HB8.out; omega))) ⟨_, rfl, hB, Fr.refl _ _, rfl, fun _ _ _ _ _ => trivial⟩
        · simp only [List.getElem?_cons_zero, List.getElem?_cons_succ, Option.some.injEq] at ho
          subst ho
          intro a W vs hB hS hE hU
          refine wpG_plain rfl ?_
          obtain ⟨r9, e39⟩ := hE 9 39 (by kernel_rfl) (by kernel_rfl)
          have v39 : a.eval (.tmp 39) = .int .i64 ((64 * i7 : Nat) : Int) := e39.trans r9
          clear hE hU
          exact wp_value_inv (w' := W) (.int .i64 ((64 * i7 + 64 : Nat) : Int)) (op_bin rfl v39 rfl (rfl) (add_in5 (by push_cast; rfl) (by have := HB8.out; omega) (by have := HB8.out; omega))) ⟨_, rfl, hB, Fr.refl _ _, rfl, fun _ _ _ _ _ => trivial⟩
        · simp only [List.getElem?_cons_zero, List.getElem?_cons_succ, Option.some.injEq] at ho
          subst ho
          intro a W vs hB hS hE hU
          refine wpG_plain rfl ?_
          have v2 : a.eval (.tmp 2) = .slice ab nb cb := (hU 2 (by kernel_rfl)).trans rfl
          clear hE hU
          exact wp_value_inv (w' := W) (.slice ab nb cb) (op_move rfl v2) ⟨_, rfl, hB, Fr.refl _ _, rfl, fun _ _ _ _ _ => trivial⟩
        · simp only [List.getElem?_cons_zero, List.getElem?_cons_succ, Option.some.injEq] at ho
          subst ho
          intro a W vs hB hS hE hU
          refine wpG_plain rfl ?_
          obtain ⟨r11, e41⟩ := hE 11 41 (by kernel_rfl) (by kernel_rfl)
          have v41 : a.eval (.tmp 41) = .slice ab nb cb := e41.trans r11
          clear hE hU
          exact wp_value_inv (w' := W) (.int .i64 (nb : Nat)) (op_len5 rfl v41) ⟨_, rfl, hB, Fr.refl _ _, rfl, fun _ _ _ _ _ => trivial⟩
        · simp only [List.getElem?_cons_zero, List.getElem?_cons_succ, Option.some.injEq] at ho
          subst ho
          intro a W vs hB hS hE hU
          refine wpG_plain rfl ?_
          obtain ⟨r10, e40⟩ := hE 10 40 (by kernel_rfl) (by kernel_rfl)
          have v40 : a.eval (.tmp 40) = .int .i64 ((64 * i7 + 64 : Nat) : Int) := e40.trans r10
          obtain ⟨r12, e42⟩ := hE 12 42 (by kernel_rfl) (by kernel_rfl)
          have v42 : a.eval (.tmp 42) = .int .i64 (nb : Nat) := e42.trans r12
          clear hE hU
          exact wp_value_inv (w' := W) (.int .i64 ((64 * i7 + m : Nat) : Int)) (op_min7 rfl v40 v42 HMI.out) ⟨_, rfl, hB, Fr.refl _ _, rfl, fun _ _ _ _ _ => trivial⟩
        · simp only [List.getElem?_cons_zero, List.getElem?_cons_succ, Option.some.injEq] at ho
          subst ho
          intro a W vs hB hS hE hU
          refine wpG_plain rfl ?_
          obtain ⟨r5, e35⟩ := hE 5 35 (by kernel_rfl) (by kernel_rfl)
          have v35 : a.eval (.tmp 35) = .slice ab nb cb := e35.trans r5
          obtain ⟨r7, e37⟩ := hE 7 37 (by kernel_rfl) (by kernel_rfl)
          have v37 : a.eval (.tmp 37) = .int .i64 ((64 * i7 : Nat) : Int) := e37.trans r7
          obtain ⟨r13, e43⟩ := hE 13 43 (by kernel_rfl) (by kernel_rfl)
          have v43 : a.eval (.tmp 43) = .int .i64 ((64 * i7 + m : Nat) : Int) := e43.trans r13
          clear hE hU
          exact wp_value_inv (w' := W) (.slice (cutLow ab (64 * i7) cb) m (cb - 64 * i7)) (op_slice_lh rfl v35 v37 v43 (run_lh7 W ab nb cb (64 * i7) m HMC.out)) ⟨_, rfl, hB, Fr.refl _ _, rfl, fun _ _ _ _ _ => trivial⟩
      · intro vs Wa hB0 hR0 hD
        have r30 : vs 0 = .pointer (some ⟨g, 0, none⟩) := hR0 0 (by decide)
        have r34 : vs 4 = .int .i64 ((f0 + x : Nat) : Int) := hR0 4 (by decide)
        have r44 : vs 14 = .slice (cutLow ab (64 * i7) cb) m (cb - 64 * i7) := hR0 14 (by decide)
        have HB := Lib.hid hB0
        clear hR0 hD hB0
        simp only [acts, if_true, dstAt, List.getElem?_cons_zero, List.getElem?_cons_succ, Option.bind_some, Act.put, List.setIfInBounds_toArray, List.set_cons_succ, List.set_cons_zero, List.drop_succ_cons]
        simp only [r30, r34, r44]
        clear r30 r34 r44
        obtain ⟨r1, r2⟩ := R
        have HFA := Lib.hid HB.out
        by_cases hr0 : r1 = 0
        · subst hr0
          go_wp2_with (go_at_call 54; refine (HWR.out Wa HFA.out).mono ?_; rintro e w8 ⟨rfl, hd8, hf8⟩; (have H8 := Lib.hid (And.intro hd8 hf8)); clear hd8 hf8)
          go_roundw
          case rel =>
            have h9 := wr8_step hR.out.fr HFA.out H8.out.1 H8.out.2
            exact ⟨i7 + 1, by have := HIN.out; omega, rfl, by go_num, Lib.hid ⟨by rw [← HRR.out.1], by rw [← HRR.out.1]; exact h9.1, h9.2⟩⟩
          case measure => have := HIN.out; simp [intOf]; omega
        · have hbn0 : (r1 != 0) = true := by rw [bne_iff_ne]; exact hr0
          have hr1 := Lib.hid hr0
          clear hr0
          go_wp2_with (go_at_call 54; refine (HWR.out Wa HFA.out).mono ?_; rintro e w8 ⟨rfl, hd8, hf8⟩; (have H8 := Lib.hid (And.intro hd8 hf8)); clear hd8 hf8)
          have h9 := wr8_end H2.out.1 (wr8_step hR.out.fr HFA.out H8.out.1 H8.out.2)
          have hwe : dv.wr7 s f0 xs b = (r1, r2) := by
            have h7 : xs = xs.take (i7 + 1) ++ xs.drop (i7 + 1) := (List.take_append_drop _ _).symm
            have h6 : (dv.wp7 s f0 (xs.take (i7 + 1)) b).1 ≠ 0 := by rw [← HRR.out.1]; exact hr1.out
            have h5 := Dv.wp7_stop (ys := xs.drop (i7 + 1)) h6
            rw [← h7, ← HRR.out.1] at h5
            rw [Dv.wr7_of, h5, if_neg hr1.out]
          rw [hwe]
          go_ret
          exact ⟨rfl, h9.1, h9.2⟩
    · obtain rfl : n = i7 := by omega
      have htk : xs.take n = xs := List.take_of_length_le (by have := HX.out.2.1; omega)
      rw [htk] at hR
      obtain ⟨hu1, hu2, hu3⟩ := Dv.wp7_up HX.out.2.2.2.2.1 (fun y hy => HX.out.1 y hy) hR.out.ok
      have hfl := bFlush wr g s _ (by have := HX.out.2.2.2.2.2.1; have := HX.out.2.1; have := HX.out.2.2.1; omega) (by have := HX.out.2.2.2.2.2.2.1; have := HX.out.2.1; have := HX.out.2.2.1; omega) hR.out.at_
      have hwr := Dv.wr7_of dv s f0 xs b
      rw [if_pos hR.out.ok] at hwr
      rw [← hwr] at hfl
      have HFL := Lib.hid hfl
      have HWW := Lib.hid hwr
      clear hu1 hu2 hu3 hfl hwr htk
      go_wp2_with (go_at_call 55; refine HFL.out.mono ?_; rintro e w8 ⟨rfl, hd8, hf8⟩; (have H8 := Lib.hid (And.intro hd8 hf8)); clear hd8 hf8)
      have h9 := wr8_end H2.out.1 (wr8_step hR.out.fr (Fr.refl _ _) H8.out.1 H8.out.2)
      go_ret
      exact ⟨rfl, h9.1, h9.2⟩
end Go.Proofs.Ytcbbcihfooaggaa
namespace Go.Proofs.Ytcbbcihfooaggaa
open Go.RowKit Go.ChangeShapes
set_option linter.unusedVariables false
set_option maxHeartbeats 2000000 in
set_option maxRecDepth 100000 in
theorem OverT_any {F : Nat → Prop} (v : Value) (L : List UInt8) (w : World) (h : ToldT F w v L) (hL : L.length ≤ 1000000000) :
    Calls Try.prog 27 #[v] w fun e w' => e = .returned (.tuple #[]) ∧ Fr (fun k => v.ownBlock = some k) w w' := by
  rcases h with ⟨rfl, h0⟩ | ⟨g, T, cur, cap, rfl, hb, hg, hs, hn, hm, ht⟩
  · go_enter Try.func27, Try.ntmps27
    go_wp2
    refine wp_loop_rounds 1 ?_
    rw [rounds_succ]
    go_wp2
    go_end0
    exact ⟨rfl, Fr.refl _ _⟩
  · obtain ⟨n, hn'⟩ : ∃ n, n = L.length := ⟨_, rfl⟩
    rw [← hn'] at hn hL ⊢
    unfold maxLen at hm
    have HG := Lib.hid (And.intro hg (show cur.size = cap by simpa using hs))
    have hown : ∀ k, (Value.slice (some ⟨g, 0, none⟩) n cap).ownBlock = some k ↔ k = g := fun k => by simp [Value.ownBlock, eq_comm]
    have HOW := Lib.hid hown
    suffices hh : Calls Try.prog 27 #[.slice (some ⟨g, 0, none⟩) n cap] w fun e w' => e = .returned (.tuple #[]) ∧ Fr (fun k => k = g) w w' from
      hh.mono fun e w' ⟨h1, h2⟩ => ⟨h1, h2.mono fun k _ hk => (HOW.out k).2 hk⟩
    clear hb hg hs ht hn' hown HOW
    by_cases hc : cap ≤ n + 12
    · obtain ⟨t, rfl⟩ : ∃ t, t = cap := ⟨_, rfl⟩
      have hc1 : (t : Int) ≤ (n : Int) + 12 := by omega
      go_enter Try.func27, Try.ntmps27
      go_wp2_with fail
      go_loopw [3] (fun iv wr => ∃ i : Nat, i ≤ t ∧ iv = .int .i64 i ∧ Hid (Fr (fun k => k = g) w wr ∧ ∃ C : Array Value, C.size = t ∧ wr.heap[g]? = some (.cells C T (0, 0)))) (fun iv _ => t - (intOf iv).toNat)
      case atStart => exact ⟨0, by omega, rfl, Lib.hid ⟨Fr.refl _ _, cur, HG.out.2, HG.out.1⟩⟩
      case round =>
        obtain ⟨i, hi, rfl, hR⟩ := hrel
        by_cases hlt : i < t
        · obtain ⟨hF, C, hC, hb⟩ := hR.out
          have hci : wr.cell? ⟨g, i, none⟩ = some (C[i]'(by omega)) := by rw [cell_of_row _ _ _ _ _ _ hb]; exact Array.getElem?_eq_getElem (by omega)
          have hfi := frozen_of_row wr g i C T hb
          obtain ⟨y, hy⟩ : ∃ y, y = C[i]'(by omega) := ⟨_, rfl⟩
          rw [← hy] at hci
          have HMB := Lib.hid (markByte_any 2 i wr (by omega) (by omega))
          have HBV := Lib.hid (show bv (mB 2 i) = .int .u8 (mB 2 i).toNat from rfl)
          have HS := Lib.hid (show Fr (fun k => k = g) w (wr.setCell ⟨g, i, none⟩ (.int .u8 (mB 2 i).toNat)) ∧ ∃ C : Array Value, C.size = t ∧ (wr.setCell ⟨g, i, none⟩ (.int .u8 (mB 2 i).toNat)).heap[g]? = some (.cells C T (0, 0)) from
            ⟨hF.setCell (p := ⟨g, i, none⟩) (.inl rfl) _, _, by rw [Array.size_setIfInBounds]; exact hC, heap_setCell_at _ hb⟩)
          have hit : (i : Int) < (t : Int) := by omega
          clear hR hF hC hb hy
          go_wp2_with (go_at_call 45; refine HMB.out.mono ?_; rintro e w' ⟨rfl, rfl⟩; rw [HBV.out])
          go_roundw
          case rel => exact ⟨i + 1, by omega, by go_num, HS⟩
          case measure => simp [intOf]; omega
        · have HQ := Lib.hid hR.out.1
          clear hR
          go_wp2
          go_end0
          exact ⟨rfl, HQ.out⟩
    · obtain ⟨t, hte⟩ : ∃ t, t = n + 12 := ⟨_, rfl⟩
      have hti : (n : Int) + 12 = (t : Int) := by omega
      have hc1 : ¬ (cap : Int) ≤ (t : Int) := by omega
      have hc2 : (t : Int) ≤ (cap : Int) := by omega
      have hc3 : t ≤ cap := by omega
      have htb : t ≤ 1000000012 := by omega
      clear hc hte
      go_enter Try.func27, Try.ntmps27
      go_wp2_with fail
      go_loopw [3] (fun iv wr => ∃ i : Nat, i ≤ t ∧ iv = .int .i64 i ∧ Hid (Fr (fun k => k = g) w wr ∧ ∃ C : Array Value, C.size = cap ∧ wr.heap[g]? = some (.cells C T (0, 0)))) (fun iv _ => t - (intOf iv).toNat)
      case atStart => exact ⟨0, by omega, rfl, Lib.hid ⟨Fr.refl _ _, cur, HG.out.2, HG.out.1⟩⟩
      case round =>
        obtain ⟨i, hi, rfl, hR⟩ := hrel
        by_cases hlt : i < t
        · obtain ⟨hF, C, hC, hb⟩ := hR.out
          have hci : wr.cell? ⟨g, i, none⟩ = some (C[i]'(by omega)) := by rw [cell_of_row _ _ _ _ _ _ hb]; exact Array.getElem?_eq_getElem (by omega)
          have hfi := frozen_of_row wr g i C T hb
          obtain ⟨y, hy⟩ : ∃ y, y = C[i]'(by omega) := ⟨_, rfl⟩
          rw [← hy] at hci
          have HMB := Lib.hid (markByte_any 2 i wr (by omega) (by omega))
          have HBV := Lib.hid (show bv (mB 2 i) = .int .u8 (mB 2 i).toNat from rfl)
          have HS := Lib.hid (show Fr (fun k => k = g) w (wr.setCell ⟨g, i, none⟩ (.int .u8 (mB 2 i).toNat)) ∧ ∃ C : Array Value, C.size = cap ∧ (wr.setCell ⟨g, i, none⟩ (.int .u8 (mB 2 i).toNat)).heap[g]? = some (.cells C T (0, 0)) from
            ⟨hF.setCell (p := ⟨g, i, none⟩) (.inl rfl) _, _, by rw [Array.size_setIfInBounds]; exact hC, heap_setCell_at _ hb⟩)
          have hit : (i : Int) < (t : Int) := by omega
          clear hR hF hC hb hy
          go_wp2_with (go_at_call 45; refine HMB.out.mono ?_; rintro e w' ⟨rfl, rfl⟩; rw [HBV.out])
          go_roundw
          case rel => exact ⟨i + 1, by omega, by go_num, HS⟩
          case measure => simp [intOf]; omega
        · have HQ := Lib.hid hR.out.1
          clear hR
          go_wp2
          go_end0
          exact ⟨rfl, HQ.out⟩
end Go.Proofs.Ytcbbcihfooaggaa
