/- The document's own device: Write. -/
import Derived.Test.YthmcmomkomhilaaRDev5
import Derived.Test.YthmcmomkomhilaaOps
namespace Go.Proofs.Ythmcmomkomhilaa
open Go.RowKit Go.ChangeShapes
set_option linter.unusedVariables false

theorem run_copy_full {G : Nat → Prop} (w : World) (ty : TypeId) (gf : Nat) (vb : Value) (b : List UInt8) (hz : BytT w gf 5 (List.replicate 64 0)) (hb : BytesIn G w vb b) (hl : b.length ≤ 64) :
    ∃ v w', (Builtin.copy_ #[33, 33] ty #[.slice (some ⟨gf, 0, none⟩) 64 64, vb]).run Try.prog w = .ok v w' ∧ BytT w' gf 5 (full64 b) ∧ Fr (· = gf) w w' := by
  obtain ⟨ao, cap, rfl, h1, h2, h3, h4⟩ := hb
  cases ao with
  | none =>
    have hb0 : b = [] := List.eq_nil_of_length_eq_zero (by have := h3 rfl; omega)
    subst hb0
    obtain rfl := h3 rfl
    exact ⟨_, w, run_copy_nil (P := Try.prog) w 33 33 ty 5 ⟨gf, 0, none⟩ 64 64 Try.underlying33 (by kernel_rfl), hz, Fr.refl _ _⟩
  | some ad =>
    have hr := run_copy_row (P := Try.prog) w 33 33 ty 5 gf 0 64 64 ad b.length cap ((List.replicate 64 (0 : UInt8)).map bv).toArray 5 (b.map bv) Try.underlying33 (by kernel_rfl) hz (by rw [List.length_map]; exact (Nat.min_eq_left hl).symm)
      (h4 ad rfl).1 (by simp; exact hl) (bv_one _)
    have e : (((List.replicate 64 (0 : UInt8)).map bv).toArray.toList.take 0 ++ b.map bv ++ ((List.replicate 64 (0 : UInt8)).map bv).toArray.toList.drop (0 + (b.map bv).length)).toArray = ((full64 b).map bv).toArray := by
      rw [full64, List.map_append, List.take_zero, List.nil_append, Nat.zero_add, List.length_map]
      congr 2
      rw [← List.map_drop, List.drop_replicate]
    rw [e] at hr
    exact ⟨_, _, hr, setRow_heap w gf _ _ _ (0, 0) hz, (Fr.refl (· = gf) w).setRow (.inl rfl) _⟩
theorem wpList_copy_full {G : Nat → Prop} (w : World) {ops : Array Oper} {rest : List Oper} {o : Oper} {a : Act} {Q : Exit → Act → World → Prop} (hgd : o.guard = none) (d s : Operand)
    (hop : o.op = Op.call { callee := Callee.builtin Builtin.copy, args := #[d, s], argTypes := #[33, 33] })
    (gf : Nat) (vb : Value) (b : List UInt8) (hd : a.eval d = .slice (some ⟨gf, 0, none⟩) 64 64) (hs : a.eval s = vb) (hz : BytT w gf 5 (List.replicate 64 0)) (hb : BytesIn G w vb b) (hl : b.length ≤ 64)
    (hK : ∀ v' w', BytT w' gf 5 (full64 b) → Fr (· = gf) w w' → wpList Try.prog ops Q rest (a.put o.dst v') w') : wpList Try.prog ops Q (o :: rest) a w := by
  refine wpList_plain hgd fun K hK' => ?_
  subst hs
  obtain ⟨v', w', hr, h1, h2⟩ := run_copy_full w o.type gf _ b hz hb hl
  unfold Oper.wp
  simp [execOp, hop, resolve, invoke, builtin, hd, hr, Result.andThen]
  exact hK' _ _ (hK v' w' h1 h2)
theorem wpList_append_pend {F : Nat → Prop} (w : World) {ops : Array Oper} {rest : List Oper} {o : Oper} {a : Act} {Q : Exit → Act → World → Prop} (hgd : o.guard = none) (s x : Operand)
    (hop : o.op = Op.call { callee := Callee.builtin Builtin.append, args := #[s, x], argTypes := #[59, 59] })
    (v : Value) (W : List Pend) (p : Pend) (g b : Nat) (hs : a.eval s = v) (hx : a.eval x = .slice (some ⟨b, 0, none⟩) 1 1) (hP : PendAt F w v W) (hb : w.heap[b]? = some (.cells (pendC p g).toArray 73 (0, 0))) (hg : BytT w g 5 p.2) (hn : W.length + 1 ≤ 1000000)
    (hK : ∀ v' w', PendAt (fun k => F k ∨ w.heap.size ≤ k ∨ k = g) w' v' (W ++ [p]) → w.grownBy w' v.ownBlock → (v'.ownBlock = v.ownBlock ∨ v'.ownBlock = some w.heap.size) → wpList Try.prog ops Q rest (a.put o.dst v') w') : wpList Try.prog ops Q (o :: rest) a w := by
  refine wpList_plain hgd fun K hK' => ?_
  subst hs
  obtain ⟨v', w', hr, h1, h2, h3⟩ := run_append_pend w o.type _ W p g b hP hb hg hn
  unfold Oper.wp
  simp [execOp, hop, resolve, invoke, builtin, hx, hr, Result.andThen]
  exact hK' _ _ (hK v' w' h1 h2 h3)
theorem run_build_pend (w : World) (a : Int) (g : Nat) : (Instr.buildSlice 59 1 #[(0, .agg #[.int .i64 a, .slice (some ⟨g, 0, none⟩) 64 64])]).run Try.prog w = .ok (.slice (some ⟨w.heap.size, 0, none⟩) 1 1) (w.alloc (.cells #[.int .i64 a, .slice (some ⟨g, 0, none⟩) 64 64] 73)) := by kernel_rfl

theorem PendAt.mono {F G : Nat → Prop} {w : World} {v : Value} {W : List Pend} (h : PendAt F w v W) (hd : ∀ k, F k → G k) : PendAt G w v W := by
  obtain ⟨gs, h1, h2, h3, h4⟩ := h
  exact ⟨gs, h1, h2, fun g hg => hd g (h3 g hg), fun i hi hi2 => ⟨(h4 i hi hi2).1, hd _ (h4 i hi hi2).2⟩⟩
theorem PendAt.own {F : Nat → Prop} {w : World} {v : Value} {W : List Pend} (h : PendAt F w v W) : ∀ g, v.ownBlock = some g → F g := by
  obtain ⟨gs, h1, h2, h3, h4⟩ := h
  exact h3
/-- Of a device that is down: ErrDown. -/
theorem rWrite_down (w : World) (g : Nat) (va vw vb : Value) (k l a : Int) (h : DevH w g va vw k l true) :
    Calls Try.prog 29 #[.pointer (some ⟨g, 0, none⟩), .int .i64 a, vb] w fun e w' => e = .returned (.int .i64 10) ∧ w = w' := by
  obtain ⟨_, _, _, _, h4⟩ := h.cells
  clear h
  go_enter Try.func29, Try.ntmps29
  go_wp2
  go_ret
  exact ⟨rfl, rfl⟩

set_option maxRecDepth 100000 in
set_option maxHeartbeats 4000000 in
theorem rWrite_ok {F G : Nat → Prop} (w : World) (g ga s a : Nat) (vw vb : Value) (Wt : List Pend) (b : List UInt8) (k l : Int) (h : DevH w g (.slice (some ⟨ga, 0, none⟩) (64 * s) (64 * s)) vw k l false) (hP : PendAt F w vw Wt) (hb : BytesIn G w vb b) (hGw : ∀ i, G i → i < w.heap.size ∧ i ≠ g) (hbl : b.length ≤ 64) (ha : a < s) (hs : s ≤ 8192) (hgF : ¬ F g)
    (hk0 : 0 ≤ k) (hk : k ≤ 1000000000) (hl0 : 0 ≤ l) (hll : l ≤ 9223372036854775807) (hl1 : l ≠ 1) (hn6 : Wt.length + 1 ≤ 1000000) :
    Calls Try.prog 29 #[.pointer (some ⟨g, 0, none⟩), .int .i64 a, vb] w fun e w' => e = .returned (.int .i64 0) ∧ ∃ vw', DevH w' g (.slice (some ⟨ga, 0, none⟩) (64 * s) (64 * s)) vw' (k + 1) (if l = 0 then 0 else l - 1) false ∧ PendAt (fun i => F i ∨ w.heap.size ≤ i) w' vw' (Wt ++ [(a, full64 b)]) ∧ Fr (fun i => i = g ∨ F i) w w' := by
  obtain ⟨ab, cb, hvb, _, _⟩ : ∃ ao cap, vb = .slice ao b.length cap ∧ True ∧ True := by obtain ⟨x, y, hx, _⟩ := hb; exact ⟨x, y, hx, trivial, trivial⟩
  subst hvb
  have hsec := fun W vw k l dn h => rSectors_any W g (some ⟨ga, 0, none⟩) s (64 * s) vw k l dn h hs
  have hd0 := rdeed_any w g (.slice (some ⟨ga, 0, none⟩) (64 * s) (64 * s)) vw k l false hk0 hk hl0 hll h
  rw [decide_eq_true hl1, if_neg hl1, if_neg hl1] at hd0
  have hs0 := hsec w vw k l false h
  obtain ⟨m, hm⟩ : ∃ m : Nat, m = 64 * s := ⟨_, rfl⟩
  rw [← hm] at h hd0 ⊢
  obtain ⟨l', hl'⟩ : ∃ x : Int, x = if l = 0 then 0 else l - 1 := ⟨_, rfl⟩
  rw [← hl'] at hd0 ⊢
  obtain ⟨Z, hZ⟩ : ∃ Z, Z = ((List.replicate 64 (0 : UInt8)).map bv).toArray := ⟨_, rfl⟩
  have hmk := fun W => run_make_bytes W 64 64 rfl (by decide)
  rw [← hZ] at hmk
  obtain ⟨_, _, _, _, c4⟩ := h.cells
  obtain ⟨q, hq⟩ : ∃ q, q = b.length := ⟨_, rfl⟩
  have d1 : decide ((a : Int) < 0) = false := by rw [decide_eq_false_iff_not]; omega
  have d2 : decide ((s : Int) ≤ (a : Int)) = false := by rw [decide_eq_false_iff_not]; omega
  have d3 : decide (64 < (q : Int)) = false := by rw [decide_eq_false_iff_not]; omega
  have d4 : decide (s ≤ a) = false := by rw [decide_eq_false_iff_not]; omega
  have d5 : decide (64 < q) = false := by rw [decide_eq_false_iff_not]; omega
  have d6 : ¬ s ≤ a := by omega
  have d7 : ¬ 64 < q := by omega
  have HB := Lib.hid hb
  rw [← hq] at HB ⊢
  have HD := Lib.hid hd0
  have HS := Lib.hid hs0
  have HZ := Lib.hid hZ
  have HX := Lib.hid (And.intro hP (And.intro hGw (And.intro hbl (And.intro hgF hn6))))
  have HQ := Lib.hid hq
  have HGL := Lib.hid (lt_of_block h)
  clear hsec hd0 hs0 hm hl' hZ hP hGw hbl hgF hn6 h hq hb hk0 hk hl0 hll hl1 ha hs
  go_enter Try.func29, Try.ntmps29
  go_wp2_with (first
    | (go_at_call 36; (with_reducible refine HS.out.mono ?_); rintro e w0 ⟨rfl, rfl⟩)
    | (go_at_call 48; (with_reducible refine HD.out.mono ?_); rintro e w1 ⟨rfl, hh, hf⟩; (have HH := Lib.hid hh); (have HF := Lib.hid hf); (have HZ1 := Lib.hid (show BytT (w1.alloc (.cells Z 5)) w1.heap.size 5 (List.replicate 64 0) by rw [HZ.out]; exact heap_alloc_new w1 _)); (have HB1 := Lib.hid ((HB.out.keep hf (fun i hi hg e => (HX.out.2.1 i hg).2 e)).keep ((Fr.refl (fun _ => False) w1).alloc (.cells Z 5)) (fun _ _ _ h => h))); clear hh hf)
    | (refine wpList_copy_full (G := G) (w1.alloc (.cells Z 5)) rfl (.tmp 29) (.tmp 30) rfl w1.heap.size (.slice ab q cb) b rfl rfl HZ1.out HB1.out HX.out.2.2.1 ?_; intro v2 w2 hb2 hf2; (have HB2 := Lib.hid hb2); (have HF2 := Lib.hid (show Fr (fun _ => False) w1 w2 from ((Fr.refl (fun _ => False) w1).alloc (.cells Z 5)).trans hf2 (fun i e => .inr (by rw [show i = _ from e]; exact Nat.le_refl _)))); (have HH2 := Lib.hid (HH.out.keep HF2.out (fun h => h))); (have HP2 := Lib.hid ((HX.out.1.keep HF.out (fun i _ hi e => HX.out.2.2.2.1 (e ▸ hi))).keep HF2.out (fun _ _ _ h => h))); (have c1 := HH2.out.cells.2.1); clear hb2 hf2; (have HGF := Lib.hid (show w.heap.size ≤ w1.heap.size from HF.out.size)); (have HG2 := Lib.hid (show w1.heap.size ≤ w2.heap.size from HF2.out.size)); generalize w1.heap.size = gf at *)
    | (refine wpList_one rfl 59 (.tmp 39) rfl (.agg #[.int .i64 a, .slice (some ⟨gf, 0, none⟩) 64 64]) (.slice (some ⟨w2.heap.size, 0, none⟩) 1 1) (w2.alloc (.cells #[.int .i64 a, .slice (some ⟨gf, 0, none⟩) 64 64] 73)) rfl (run_build_pend w2 a gf) ?_)
    | (refine wpList_append_pend (F := F) (w2.alloc (.cells #[.int .i64 a, .slice (some ⟨gf, 0, none⟩) 64 64] 73)) rfl (.tmp 36) (.tmp 40) rfl vw Wt (a, full64 b) gf w2.heap.size rfl rfl (HP2.out.keep ((Fr.refl (fun _ => False) w2).alloc _) (fun _ _ _ h => h)) (heap_alloc_new w2 _) (((Fr.refl (fun _ => False) w2).alloc _).heap HB2.out (fun h => h)) HX.out.2.2.2.2 ?_; intro v4 w4 hp4 hg4 hk4; (have HP4 := Lib.hid hp4); (have HG4 := Lib.hid hg4); (have HH4 := Lib.hid (show DevH w4 g (.slice (some ⟨ga, 0, none⟩) m m) vw (k + 1) l' false from (HH2.out.keep ((Fr.refl (fun _ => False) w2).alloc _) (fun h => h)).keep ((Fr.refl (fun x => vw.ownBlock = some x) _).grown hg4 (fun x hx => .inl hx)) (fun e => HX.out.2.2.2.1 (HX.out.1.own g e)))); (have d1' := HH4.out.cells.2.1); (have d2' := HH4.out.free 1); obtain ⟨a4, q4, hv4, _, _⟩ := hp4.form; subst hv4; clear hp4 hg4 hk4 c1))
  go_ret
  refine ⟨rfl, _, HH4.out.put1 _, ?_, ?_⟩
  · have hp4 := HP4.out
    rw [show (Wt ++ [(a, full64 b)]).length = Wt.length + 1 by simp] at hp4
    refine (hp4.keep (Fr.cell1 w4 g 1 _) (fun i _ hi e => ?_)).mono (fun i hi => ?_)
    · have h1 := HGL.out
      have h2 := HGF.out
      have h3 := HG2.out
      rcases hi with hi | hi | hi
      · exact HX.out.2.2.2.1 (e ▸ hi)
      · simp at hi; omega
      · omega
    · have h2 := HGF.out
      have h3 := HG2.out
      rcases hi with hi | hi | hi
      · exact .inl hi
      · simp at hi; exact .inr (by omega)
      · exact .inr (by omega)
  · have hA : Fr (fun i => i = g ∨ F i) w w1 := HF.out.mono (fun _ _ e => .inl e)
    have hB : Fr (fun i => i = g ∨ F i) w w2 := hA.trans HF2.out (fun _ h => h.elim)
    exact ((hB.alloc _).grown HG4.out (fun x hx => .inl (.inr (HX.out.1.own x hx)))).trans (Fr.cell1 w4 g 1 _) (fun i e => .inl (.inl e))
end Go.Proofs.Ythmcmomkomhilaa
