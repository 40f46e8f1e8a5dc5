/- Laid together: VMd -/
import Derived.Test.YtdpaobflknkbkaaVe11
import Derived.Test.YtdpaobflknkbkaaVe12

namespace Go.Proofs.Ytdpaobflknkbkaa
open Go.RowKit Go.ChangeShapes Go.Maps Go.WideMaps
set_option linter.unusedVariables false
attribute [local go_sem] Oper.semAt_some
def rtC (p : Bs × PathX) : List Value := encStr p.1 :: cellsX p.2
theorem rtC_len (p : Bs × PathX) : (rtC p).length = 22 := by simp [rtC, cellsX_length]
theorem rtC_one (p : Bs × PathX) : ∀ u ∈ rtC p, u.oneCell' = true := by
  intro u hu
  rcases List.mem_cons.1 hu with rfl | hu
  · rfl
  · exact cellsX_one _ u hu
theorem infoRt : (Try.prog.info? 66).map (fun i => (i.zero, i.size, i.bytes)) = some (some (.agg (#[.string ⟨#[]⟩] ++ zC)), 22, 56) := by kernel_rfl
theorem list21 {α : Type} {l : List α} (h : l.length = 21) : ∃ c0 c1 c2 c3 c4 c5 c6 c7 c8 c9 d0 d1 d2 d3 d4 d5 d6 d7 d8 d9 e0, l = [c0, c1, c2, c3, c4, c5, c6, c7, c8, c9, d0, d1, d2, d3, d4, d5, d6, d7, d8, d9, e0] := by
  obtain ⟨c0, l, rfl⟩ := List.exists_cons_of_ne_nil (l := l) (by rintro rfl; cases h)
  obtain ⟨c1, l, rfl⟩ := List.exists_cons_of_ne_nil (l := l) (by rintro rfl; cases h)
  obtain ⟨c2, l, rfl⟩ := List.exists_cons_of_ne_nil (l := l) (by rintro rfl; cases h)
  obtain ⟨c3, l, rfl⟩ := List.exists_cons_of_ne_nil (l := l) (by rintro rfl; cases h)
  obtain ⟨c4, l, rfl⟩ := List.exists_cons_of_ne_nil (l := l) (by rintro rfl; cases h)
  obtain ⟨c5, l, rfl⟩ := List.exists_cons_of_ne_nil (l := l) (by rintro rfl; cases h)
  obtain ⟨c6, l, rfl⟩ := List.exists_cons_of_ne_nil (l := l) (by rintro rfl; cases h)
  obtain ⟨c7, l, rfl⟩ := List.exists_cons_of_ne_nil (l := l) (by rintro rfl; cases h)
  obtain ⟨c8, l, rfl⟩ := List.exists_cons_of_ne_nil (l := l) (by rintro rfl; cases h)
  obtain ⟨c9, l, rfl⟩ := List.exists_cons_of_ne_nil (l := l) (by rintro rfl; cases h)
  obtain ⟨d0, l, rfl⟩ := List.exists_cons_of_ne_nil (l := l) (by rintro rfl; cases h)
  obtain ⟨d1, l, rfl⟩ := List.exists_cons_of_ne_nil (l := l) (by rintro rfl; cases h)
  obtain ⟨d2, l, rfl⟩ := List.exists_cons_of_ne_nil (l := l) (by rintro rfl; cases h)
  obtain ⟨d3, l, rfl⟩ := List.exists_cons_of_ne_nil (l := l) (by rintro rfl; cases h)
  obtain ⟨d4, l, rfl⟩ := List.exists_cons_of_ne_nil (l := l) (by rintro rfl; cases h)
  obtain ⟨d5, l, rfl⟩ := List.exists_cons_of_ne_nil (l := l) (by rintro rfl; cases h)
  obtain ⟨d6, l, rfl⟩ := List.exists_cons_of_ne_nil (l := l) (by rintro rfl; cases h)
  obtain ⟨d7, l, rfl⟩ := List.exists_cons_of_ne_nil (l := l) (by rintro rfl; cases h)
  obtain ⟨d8, l, rfl⟩ := List.exists_cons_of_ne_nil (l := l) (by rintro rfl; cases h)
  obtain ⟨d9, l, rfl⟩ := List.exists_cons_of_ne_nil (l := l) (by rintro rfl; cases h)
  obtain ⟨e0, l, rfl⟩ := List.exists_cons_of_ne_nil (l := l) (by rintro rfl; cases h)
  obtain rfl : l = [] := List.length_eq_zero_iff.1 (by simpa using h)
  exact ⟨c0, c1, c2, c3, c4, c5, c6, c7, c8, c9, d0, d1, d2, d3, d4, d5, d6, d7, d8, d9, e0, rfl⟩
set_option maxRecDepth 100000 in
theorem root_built (N : ByteArray) (l : List Value) (h : l.length = 21) : Try.prog.built 66 #[(0, Value.string N), (1, .agg l.toArray)].toList = some (.string N :: l).toArray := by
  obtain ⟨c0, c1, c2, c3, c4, c5, c6, c7, c8, c9, d0, d1, d2, d3, d4, d5, d6, d7, d8, d9, e0, rfl⟩ := list21 h
  kernel_rfl
set_option maxRecDepth 100000 in
theorem root_one (w : World) (N : ByteArray) (l : List Value) (h : l.length = 21) : (Instr.buildSlice 58 1 #[(0, .agg (.string N :: l).toArray)]).run Try.prog w = .ok (.slice (some ⟨w.heap.size, 0, none⟩) 1 1) (w.alloc (.cells (.string N :: l).toArray 66)) := by
  obtain ⟨c0, c1, c2, c3, c4, c5, c6, c7, c8, c9, d0, d1, d2, d3, d4, d5, d6, d7, d8, d9, e0, rfl⟩ := list21 h
  kernel_rfl
theorem root_op_rows {w : World} {o : Oper} {a : Act} {N : ByteArray} {CL : List Value} {x : Operand} (h : CL.length = 21) (h1 : o.op = .buildSlice 58 1 #[(0, x)]) (h2 : a.eval x = .agg (Value.string N :: CL).toArray) : (execOp a.eval o).run Try.prog w = .ok (.value (.slice (some ⟨w.heap.size, 0, none⟩) 1 1)) (w.alloc (.cells (Value.string N :: CL).toArray 66)) := by
  unfold execOp
  rw [h1]
  simp only [List.map_toArray, List.map_cons, List.map_nil, h2, Sem.run_bind]
  rw [root_one w N CL h]
  rfl
theorem root_op_build {w : World} {o : Oper} {a : Act} {N : ByteArray} {CL : List Value} {x y : Operand} (h : CL.length = 21) (h1 : o.op = .build 66 #[(0, x), (1, y)]) (h2 : a.eval x = .string N) (h3 : a.eval y = .agg CL.toArray) : (execOp a.eval o).run Try.prog w = .ok (.value (.agg (Value.string N :: CL).toArray)) w := by
  unfold execOp
  rw [h1]
  simp only [List.map_toArray, List.map_cons, List.map_nil, h2, h3, Sem.run_bind]
  rw [run_build w 66 _ _ (root_built N CL h)]
  rfl
theorem rtZ : (Value.agg (#[Value.string ⟨#[]⟩] ++ zC)).cells.size = 22 := by kernel_rfl
theorem cell_put {w : World} {b i : Nat} {c : Array Value} {t : TypeId} {z : Nat × Nat} (u : Value) (h : w.heap[b]? = some (.cells c t z)) :
    (w.setCell ⟨b, i, none⟩ u).heap[b]? = some (.cells (c.setIfInBounds i u) t z) := by
  simp only [World.setCell, Array.getElem?_modify, h]
  simp
theorem Fr.cell1 (w : World) (b i : Nat) (u : Value) : Fr (· = b) w (w.setCell ⟨b, i, none⟩ u) := (Fr.refl (· = b) w).setCell (p := ⟨b, i, none⟩) (.inl rfl) u
theorem fr_putObj {T : Nat → Prop} (W : World) (l : Nat) (o' : Obj) (hT : T l) : Fr T W (W.putObj l o') :=
  (Fr.refl T W).grown (grownBy_putObj' W l o') (fun k e => by cases e; exact .inl hT)
theorem keepsFrom_fr {S : Nat → Prop} {n0 : Nat} {W W' : World} (h : Fr S W W') (hS : ∀ k, S k → k < n0) : KeepsFrom n0 W W' :=
  ⟨h.size, fun k o hB hk _ => h.heap hk (fun hs => by have := hS k hs; omega)⟩
structure AccT (T : Nat → Prop) (n0 Bt : Nat) (W0 : World) (pre : VT PathX) (W : World) : Prop where
  ex : ∃ v, W.heap[Bt]? = some (.cells #[v] 58 (0, 0)) ∧ OwnE 66 22 n0 W v (pre.map rtC)
  fr : Fr T W0 W
theorem notCells {n0 : Nat} {A : World} {row : Option Nat} (hr : ∀ k, row = some k → n0 ≤ k ∧ ∃ o, A.heap[k]? = some o ∧ o.isCells = false) : ∀ k, row = some k → ∀ cs T fr, A.heap[k]? ≠ some (.cells cs T fr) := fun k hk cs T' fr e => by
  obtain ⟨_, o, ho, hc⟩ := hr k hk
  rw [e] at ho
  cases ho
  cases hc
theorem OwnE.keepN {S : Nat → Prop} {T : TypeId} {k z : Nat} {w w' : World} {v : Value} {css : List (List Value)} (h : OwnE T k z w v css) (hf : Fr S w w') (hn : ∀ k, S k → ∀ cs T fr, w.heap[k]? ≠ some (.cells cs T fr)) : OwnE T k z w' v css := h.keep hf (fun g hg hs => by
  rcases h.row.2 with ⟨hv, _⟩ | ⟨g', cap, cur, hv, hb, hg', _⟩
  · rw [hv] at hg; simp [Value.ownBlock] at hg
  · rw [hv] at hg
    simp only [Value.ownBlock, Option.some.injEq] at hg
    exact hn g hs _ _ _ (hg ▸ hg'))
theorem ownFrom_accT {β : Type} {T : Nat → Prop} {n0 Bt : Nat} {W0 : World} (f : β → VT PathX) (hT : ∀ k, n0 ≤ k → T k) : OwnFrom n0 (fun (s : β) W => AccT T n0 Bt W0 (f s) W) := fun s A B row h hg hr => by
  obtain ⟨v, h1, h2⟩ := h.ex
  have hf : Fr (fun k => row = some k) A B := (Fr.refl _ A).grown hg (fun k hk => .inl hk)
  have hn := notCells hr
  exact ⟨⟨v, hf.heap h1 (fun hs => hn _ hs _ _ _ h1), h2.keepN hf hn⟩, h.fr.trans hf (fun k hk => .inl (hT k (hr k hk).1))⟩
theorem OwnE.lower {T : TypeId} {k z z' : Nat} {w : World} {v : Value} {css : List (List Value)} (h : OwnE T k z w v css) (hz : z' ≤ z) : OwnE T k z' w v css := by
  refine ⟨⟨h.row.1, ?_⟩, h.each⟩
  rcases h.row.2 with e | ⟨g, cap, cur, hv, hb, r⟩
  · exact .inl e
  · exact .inr ⟨g, cap, cur, hv, Nat.le_trans hz hb, r⟩
section
variable {F : Nat → Prop} {w : World} {A : VA} {n : Nat} {s : VS}
set_option maxRecDepth 100000 in
set_option maxHeartbeats 1000000 in
theorem vRoots_in (h : VwAt F w A n s) (hn : n ≤ 100000) (who : Int) (hu : isUser s who) :
    CallsIn Fence.wide 3 Try.prog 23 #[.pointer (some ⟨A.vb, 0, none⟩), .int .i64 who] w fun e w' => ∃ v, e = .returned v ∧ OwnE 66 22 w.heap.size w' v ((s.R who).map rtC) ∧ Fr (fun _ => False) w w' := by
  refine callsIn_of_wp_marks Try.func23 rfl trivial ?_ rfl
  simp only [Try.ntmps23, List.size_toArray, List.length_cons, List.length_nil, Nat.reduceAdd, Nat.reduceSub, Array.replicate_succ, Array.replicate_zero, List.push_toArray, List.append_toArray, List.nil_append, List.cons_append]
  have HS := Lib.hid (WideF.out.calls (n := 2) (ready_yes h who hu))
  obtain ⟨w1, hw1⟩ : ∃ w1, w1 = w.alloc (.cells #[.slice none 0 0] 58) := ⟨_, rfl⟩
  have hord := WideF.out.calls (n := 2) (ofR_any w1 A.rb who ⟨#[]⟩)
  rw [hw1] at hord
  have hf1 : Fr (fun _ => False) w w1 := by rw [hw1]; exact (Fr.refl _ _).alloc _
  have c1 := (h.quiet hf1).ptrs.1
  rw [hw1] at c1
  have HO := Lib.hid hord
  clear hord
  gi_wp2_with (first
    | (refine ⟨trivial, ?_⟩; gi_at_call 51; refine HS.out.mono ?_; rintro e w2 ⟨rfl, hw2⟩; (obtain rfl : w = w2 := hw2.symm))
    | (refine ⟨trivial, ?_⟩; gi_at_call 60; refine HO.out.mono ?_; rintro e w2 ⟨rfl, rfl⟩))
  have hlt := h.rk.lt
  obtain ⟨W0, hW0⟩ : ∃ W0, W0 = (((w.alloc (.cells #[.slice none 0 0] 58)).alloc (.cells #[.pointer (some ⟨A.rb, 0, none⟩)] 78)).alloc (.cells #[.int .i64 who] 3)).alloc (.cells #[.string ⟨#[]⟩] 9) := ⟨_, rfl⟩
  have hsz : W0.heap.size = w.heap.size + 4 := by rw [hW0]; simp
  have hf0 : Fr (fun _ => False) w W0 := by rw [hW0]; exact ((((Fr.refl _ _).alloc _).alloc _).alloc _).alloc _
  have hbt : W0.heap[w.heap.size]? = some (.cells #[.slice none 0 0] 58 (0, 0)) := by
    rw [hW0]
    exact ((((Fr.refl (fun _ => False) _).alloc _).alloc _).alloc _).heap (heap_alloc_new w _) id
  have hb1 : W0.heap[w.heap.size + 1]? = some (.cells #[.pointer (some ⟨A.rb, 0, none⟩)] 78 (0, 0)) := by
    rw [hW0]
    exact (((Fr.refl (fun _ => False) _).alloc _).alloc _).heap (heap_alloc2_new w _ _) id
  have hb2 : W0.heap[w.heap.size + 1 + 1]? = some (.cells #[.int .i64 who] 3 (0, 0)) := by
    rw [hW0]
    have := ((Fr.refl (fun _ => False) _).alloc (.cells #[.string ⟨#[]⟩] 9)).heap (heap_alloc2_new (w.alloc (.cells #[.slice none 0 0] 58)) (.cells #[.pointer (some ⟨A.rb, 0, none⟩)] 78) (.cells #[.int .i64 who] 3)) id
    simpa using this
  have hb3 : W0.heap[w.heap.size + 1 + 2]? = some (.cells #[.string ⟨#[]⟩] 9 (0, 0)) := by
    rw [hW0]
    have := heap_alloc2_new ((w.alloc (.cells #[.slice none 0 0] 58)).alloc (.cells #[.pointer (some ⟨A.rb, 0, none⟩)] 78)) (.cells #[.int .i64 who] 3) (.cells #[.string ⟨#[]⟩] 9)
    simpa using this
  rw [← hW0]
  have hw := user_wf h.ok hu
  obtain ⟨D, val, hown, hval⟩ := h.rk.th.vals who hw (h.rk.ok who).2.2
  obtain ⟨T, hT⟩ : ∃ T : Nat → Prop, T = fun b => b = w.heap.size ∨ W0.heap.size ≤ b := ⟨_, rfl⟩
  have hT0 : ∀ k, W0.heap.size ≤ k → T k := fun k hk => by rw [hT]; exact .inr hk
  have hTn : ∀ k, k ≠ w.heap.size → k < W0.heap.size → ¬ T k := fun k h1 h2 h3 => by rw [hT] at h3; rcases h3 with h3 | h3 <;> omega
  have hIt : ItR (fun _ => False) A.rb A.tr A.mr n s.R who ⟨#[]⟩ (w.heap.size + 1) (w.heap.size + 1 + 1) (w.heap.size + 1 + 2) D W0 :=
    ⟨cell_of_row _ _ _ _ _ _ hb1, cell_of_row _ _ _ _ _ _ hb2, cell_of_row _ _ _ _ _ _ hb3, h.rk.quiet hf0, ownsMap_kept9 hown hf0 id⟩
  have hKb : ∀ (W : World) (l : Nat) (o o' : Obj), W0.heap.size ≤ l → W.heap[l]? = some o → o.isCells = false → o.isWalk = false → KpV T W (W.putObj l o') := fun W l o o' hl ho hc _ =>
    KpV.of (S := (· = l)) (fr_putObj W l o' rfl) (fun k _ (e : k = l) => by rw [e]; exact hT0 l hl) (fun k hk (e : k = l) => by
      obtain ⟨cs, fr, s, h1, _⟩ := hk
      rw [e, ho] at h1
      cases h1
      cases hc)
  have hmR := (h.rk.ok who).2.1
  refine wpIn_rangeFunc_ownH rfl (by decide) (gf := 76) (lb := #[.pointer (some ⟨w.heap.size + 1, 0, none⟩), .pointer (some ⟨w.heap.size + 1 + 1, 0, none⟩), .pointer (some ⟨w.heap.size + 1 + 2, 0, none⟩)]) rfl trivial (enters_of Try.func76 (by kernel_rfl) rfl)
    (ofR_stops (T := T) (F := fun _ => False) 2 (w.heap.size + 1) (w.heap.size + 1 + 1) (w.heap.size + 1 + 2) A.rb A.tr A.mr n s.R who hw hn ⟨#[]⟩ D val (fun k b hb => (hval k b hb).1) (hTn _ (by omega) (by omega)) (hTn _ (by omega) (by omega)) (hTn _ (by omega) (by omega)) (hTn _ (by omega) (by omega)) (hTn _ (by omega) (by omega)) (hTn _ (by omega) (by omega)) (fun _ h => h.elim) W0 (fun k hk => hk.elim) hIt)
    (fun h k => h.trans k) hKb (Below.refl _ _) (fun _ => rfl)
    (fun (pre : List (KeyV (s.R who))) W => AccT T W0.heap.size w.heap.size W0 (pre.map rowV) W)
    (fun _ _ _ => False)
    (ownFrom_accT (fun (pre : List (KeyV (s.R who))) => pre.map rowV) hT0)
    (fun _ _ _ _ _ hs _ _ => hs)
    ⟨⟨_, hbt, OwnE.nil _ _ _ _⟩, Fr.refl _ _⟩
    (fun x a' W => ∃ g, W.heap[g]? = some (.cells (pathC (getV x).h (getV x).n) 43 (0, 0)) ∧ a' = { tmps := #[.pointer (some ⟨A.vb, 0, none⟩), .int .i64 who, undef, undef, .slice none 0 0, .pointer (some ⟨w.heap.size, 0, none⟩), encStr x.1, .pointer (some ⟨g, 0, none⟩), .pointer (some ⟨A.vb, 0, none⟩), .int .i64 who, .int .i64 0, .bool false, .pointer (some ⟨A.vb, 0, none⟩), .pointer (some ⟨A.vb, 0, none⟩), .pointer (some ⟨A.vb, 1, none⟩), .pointer (some ⟨A.rb, 0, none⟩), .int .i64 who, .func (.func 76) #[] #[.pointer (some ⟨w.heap.size + 1, 0, none⟩), .pointer (some ⟨w.heap.size + 1 + 1, 0, none⟩), .pointer (some ⟨w.heap.size + 1 + 2, 0, none⟩)], encStr x.1, val x.1, undef, undef, undef, undef, undef, undef, undef], defers := [] })
    (fun x a' s A B row hs hg hr => by
      obtain ⟨g, h1, h2⟩ := hs
      exact ⟨g, ((Fr.refl (fun k => row = some k) A).grown hg (fun k hk => .inl hk)).heap h1 (fun e => notCells hr _ e _ _ _ h1), h2⟩)
    ?assign ?body ?done ?stop
  case assign =>
    rintro l pre x W K hi hK
    simp only [encV]
    have hv := (hval x.1 (getV x) (getV_eq x)).2.1
    rw [hv]
    obtain ⟨C, hC⟩ : ∃ C, C = pathC (getV x).h (getV x).n := ⟨_, rfl⟩
    rw [← hC] at hv ⊢
    have hCs : C.size = 21 := by rw [hC]; exact pathC_size _ (getV x).hl _
    have hC1 : C.all (·.oneCell') = true := by rw [hC]; exact pathC_one _ _
    have hiC : (Try.prog.info? 43).map (·.size) = some C.size := by rw [hCs]; kernel_rfl
    have hzC : zL.size = C.size := by rw [hCs]; rfl
    have hg0 := heap_alloc_new W (.cells zL 43)
    have HK := Lib.hid hK
    have HI := Lib.hid hi
    have HC := Lib.hid (And.intro hC hv)
    clear hK hi hC hv
    gi_wp2_with (refine wpListIn_skip_ (.round l) rfl (by intro c h; cases h) ((W.alloc (.cells zL 43)).setRow W.heap.size C) (op_store_row rfl rfl rfl hg0 hiC hzC hC1) ?_)
    have hfa : Fr (fun _ => False) W ((W.alloc (.cells zL 43)).setRow W.heap.size C) := ((Fr.refl _ _).alloc _).setRow (.inr (Nat.le_refl _)) C
    refine HK.out _ _ (keepsFrom_fr (S := fun _ => False) hfa (fun _ h => h.elim)) (KpV.of hfa (fun _ _ h => h.elim) (fun _ _ h => h)) ?_ ⟨W.heap.size, by rw [← HC.out.1]; exact setRow_heap _ _ _ _ _ _ hg0, by rw [HC.out.2]; rfl⟩
    obtain ⟨⟨v, e1, e2⟩, e3⟩ := HI.out
    exact ⟨⟨v, hfa.heap e1 id, e2.keep hfa (fun _ _ h => h)⟩, e3.trans hfa (fun _ h => h.elim)⟩
  case body =>
    rintro l pre x a' W hll hst ⟨⟨v, hb, ho⟩, hfr⟩ ⟨g, hgb, rfl⟩ hlt2
    obtain ⟨av, cv, hvv⟩ := ho.form
    rw [List.length_map] at hvv
    subst hvv
    obtain ⟨C, hC⟩ : ∃ C, C = pathC (getV x).h (getV x).n := ⟨_, rfl⟩
    obtain ⟨CL, hCL⟩ : ∃ CL, CL = cellsX (getV x) := ⟨_, rfl⟩
    have hCC : C = CL.toArray := by rw [hC, hCL]; exact (cellsX_C _).symm
    have hCs : CL.length = 21 := by rw [hCL]; exact cellsX_length _
    rw [← hC, hCC] at hgb
    obtain ⟨N, hN⟩ : ∃ N : ByteArray, encStr x.1 = .string N := ⟨_, rfl⟩
    have hrt : rtC (rowV x) = .string N :: CL := by rw [← hN, hCL]; rfl
    have hcell : W.cell? ⟨w.heap.size, 0, none⟩ = some (.slice av (pre.map rowV).length cv) := cell_of_one hb
    have hzW := hfr.size
    have hml : (pre.map rowV).length ≤ 100000 := by
      rw [List.length_map]
      have h1 := Nat.le_trans (Nat.le_of_lt hlt2) (vKeys_le (s.R who) [])
      omega
    obtain ⟨m, hm⟩ : ∃ m, m = (pre.map rowV).length := ⟨_, rfl⟩
    rw [← hm] at hcell hml hb ho
    have hld := ldX (w := W) hgb (by simp [hCs]) W (Fr.refl _ _)
    obtain ⟨W2, hW2⟩ : ∃ W2, W2 = W.alloc (.cells (.string N :: CL).toArray 66) := ⟨_, rfl⟩
    have hf2 : Fr (fun _ => False) W W2 := by rw [hW2]; exact (Fr.refl _ _).alloc _
    have hn2 : W2.heap[W.heap.size]? = some (.cells (.string N :: CL).toArray 66 (0, 0)) := by rw [hW2]; exact heap_alloc_new W _
    obtain ⟨i0, hi0⟩ : ∃ i, Try.prog.info? 66 = some i := by
      cases hh : Try.prog.info? 66 with
      | none => have := infoRt; rw [hh] at this; cases this
      | some i => exact ⟨i, rfl⟩
    obtain ⟨v2, W3, hrun, ho2, hg2, hv2⟩ := run_append_e (i0 := i0) (T := 66) (ST := 58) Try.underlying58 infoRt rtZ (by decide) (by decide) (z := W0.heap.size) W2 58 (.slice av m cv) (.slice (some ⟨W.heap.size, 0, none⟩) 1 1) ((pre.map rowV).map rtC) [.string N :: CL] (ho.keep hf2 (fun _ _ h => h)) (Elems.ofBlock hn2 (by simp [hCs])) (fun c hc u hu => by
      rw [List.mem_singleton.1 hc, ← hrt] at hu
      exact rtC_one _ u hu) (Nat.le_trans hzW hf2.size) (by rw [List.length_map, ← hm]; simp; omega)
    obtain ⟨a3, c3, hv3⟩ := ho2.form
    have hLen : ((pre.map rowV).map rtC ++ [Value.string N :: CL]).length = m + 1 := by rw [List.length_append, List.length_map, ← hm]; rfl
    rw [hLen] at hv3
    subst hv3
    have hfo : Fr (fun k => (Value.slice av m cv).ownBlock = some k) W2 W3 := (Fr.refl _ W2).grown hg2 (fun k hk => .inl hk)
    have hog := ho.own
    have hbt3 : W3.heap[w.heap.size]? = some (.cells #[.slice av m cv] 58 (0, 0)) := hfo.heap (hf2.heap hb id) (fun e => by have := hog _ e; omega)
    have hcl3 : W3.cell? ⟨w.heap.size, 0, none⟩ = some (.slice av m cv) := cell_of_one hbt3
    have hfz3 : W3.frozen? ⟨w.heap.size, 0, none⟩ = false := frozen_of_row _ _ _ _ _ hbt3
    have HX := Lib.hid (And.intro ho2 (And.intro hf2 (And.intro hfo (And.intro hog (And.intro hbt3 (And.intro hfr (And.intro hb (And.intro hrt ho))))))))
    have HM := Lib.hid hm
    have HW2 := Lib.hid hW2
    have HR := Lib.hid (And.intro hld (And.intro True.intro (And.intro True.intro hrun)))
    have HZ := Lib.hid hzW
    clear ho2 hf2 hfo hog hbt3 hfr hb hrt ho hm hld hrun hgb hC hCL hCC hg2 hv2 hLen hn2 hW2 hml hi0 hlt2 hll hst hzW
    rw [hN]
    clear hN
    have HB1 := Lib.hid (fun (o : Oper) (a : Act) (h1 : o.op = .load 43 (.tmp 7)) (h2 : a.eval (.tmp 7) = .pointer (some ⟨g, 0, none⟩)) => op_loadAt h1 h2 HR.out.1)
    have HB2 := Lib.hid (fun (o : Oper) (a : Act) (h1 : o.op = .build 66 #[(0, .tmp 21), (1, .tmp 22)]) (h2 : a.eval (.tmp 21) = .string N) (h3 : a.eval (.tmp 22) = .agg CL.toArray) => root_op_build (w := W) hCs h1 h2 h3)
    have HB3 := fun (o : Oper) (a : Act) (h1 : o.op = .buildSlice 58 1 #[(0, .tmp 23)]) (h2 : a.eval (.tmp 23) = .agg (Value.string N :: CL).toArray) => root_op_rows (w := W) hCs h1 h2
    rw [← HW2.out] at HB3
    have HB3 := Lib.hid HB3
    have HB4 := Lib.hid (fun (o : Oper) (a : Act) (h1 : o.op = Op.call { callee := Callee.builtin Builtin.append, args := #[.tmp 20, .tmp 24], argTypes := #[58, 58] }) (ht : o.type = 58) (h2 : a.eval (.tmp 20) = .slice av m cv) (h3 : a.eval (.tmp 24) = .slice (some ⟨W.heap.size, 0, none⟩) 1 1) => op_append9 h1 h2 h3 (by rw [ht]; exact HR.out.2.2.2))
    gi_wp2_with (first
      | (refine wpListIn_value (.round l) rfl (by intro c h; cases h) (.agg CL.toArray) W (HB1.out _ _ rfl rfl) ?_)
      | (refine wpListIn_value (.round l) rfl (by intro c h; cases h) (.agg (.string N :: CL).toArray) W (HB2.out _ _ rfl rfl rfl) ?_)
      | (refine wpListIn_value (.round l) rfl (by intro c h; cases h) (.slice (some ⟨W.heap.size, 0, none⟩) 1 1) W2 (HB3.out _ _ rfl rfl) ?_; refine stopAt ?_))
    refine Stop.mk ?_
    refine wpListIn_value (.round l) rfl (by intro c h; cases h) (.slice a3 (m + 1) c3) W3 (HB4.out _ _ rfl rfl rfl rfl) ?_
    simp only [Act.put, List.setIfInBounds_toArray, List.set_cons_succ, List.set_cons_zero]
    gi_wp2
    obtain ⟨ho2, hf2, hfo, hog, hbt3, hfr, hb, hrt, ho⟩ := HX.out
    have hfp : Fr (fun k => k = w.heap.size) W3 (W3.setCell ⟨w.heap.size, 0, none⟩ (.slice a3 (m + 1) c3)) := Fr.cell1 W3 _ 0 _
    have hall : Fr (fun k => (Value.slice av m cv).ownBlock = some k ∨ k = w.heap.size) W (W3.setCell ⟨w.heap.size, 0, none⟩ (.slice a3 (m + 1) c3)) := ((hf2.mono (T := fun k => (Value.slice av m cv).ownBlock = some k ∨ k = w.heap.size) (fun _ _ h => h.elim)).trans hfo (fun k hk => .inl (.inl hk))).trans hfp (fun k hk => .inl (.inr hk))
    have hcells : ∀ k, ((Value.slice av m cv).ownBlock = some k ∨ k = w.heap.size) → ∃ cs T fr, W.heap[k]? = some (.cells cs T fr) ∧ T ≠ 9 := fun k hk => by
      rcases hk with hk | rfl
      · rcases ho.row.2 with ⟨hv, _⟩ | ⟨g', cap, cur, hv, hb, hg', _⟩
        · rw [hv] at hk; simp [Value.ownBlock] at hk
        · rw [hv] at hk
          simp only [Value.ownBlock, Option.some.injEq] at hk
          exact ⟨_, _, _, hk ▸ hg', by decide⟩
      · exact ⟨_, _, _, hb, by decide⟩
    refine ⟨⟨hall.size, fun k o _ hk hc => hall.heap hk (fun hs => ?_)⟩, KpV.of hall (fun k _ hs => ?_) (fun k hk hs => ?_), ⟨⟨_, cell_put _ hbt3, ?_⟩, hfr.trans hall (fun k hs => .inl ?_)⟩⟩
    · obtain ⟨cs, T', fr, h1, _⟩ := hcells k hs
      rw [h1] at hk
      cases hk
      cases hc
    · rcases hs with hs | hs
      · exact hT0 k (hog k hs).1
      · rw [hT]; exact .inl hs
    · obtain ⟨cs, T', fr, h1, h2⟩ := hcells k hs
      obtain ⟨cs', fr', s', h3, _⟩ := hk
      rw [h1] at h3
      simp only [Option.some.injEq, Obj.cells.injEq] at h3
      exact h2 h3.2.1
    · have h5 := ho2.keep hfp (fun g hg e => by
        have := ho2.own g hg
        have e2 : g = w.heap.size := e
        have := HZ.out
        omega)
      rw [List.map_append, List.map_append]
      rw [show (List.map rtC (List.map rowV [x])) = [Value.string N :: CL] by rw [← hrt]; rfl]
      exact h5
    · rcases hs with hs | hs
      · exact hT0 k (hog k hs).1
      · rw [hT]; exact .inl hs
  case done =>
    rintro Dl ys W hD rfl hi hK
    obtain ⟨⟨v, hb, ho⟩, hfr⟩ := hi
    have hcell : W.cell? ⟨w.heap.size, 0, none⟩ = some v := cell_of_one hb
    have HX := Lib.hid (And.intro ho hfr)
    have HHK := Lib.hid hK
    clear ho hfr hb hK
    gi_wp2
    refine ⟨by simp, .inl ⟨_, _, rfl, run_takeDeferred HHK.out, ?_⟩⟩
    have hfd := fr_putObj (T := (· = Dl)) W Dl (.deferred none) rfl
    have hn' : ∀ k, k = Dl → ∀ cs T fr, W.heap[k]? ≠ some (.cells cs T fr) := fun k hk cs T' fr e => by
      rw [hk, HHK.out] at e
      cases e
    have hO := HX.out.1.keepN (S := (· = Dl)) hfd hn'
    have hrow : (keysV (s.R who) []).map rowV = s.R who := by
      rw [rowsV_map (h.rk.ok who).1]
      exact List.filter_eq_self.2 (fun p _ => by simp [Lib.hasPrefix])
    refine ⟨_, results_tmp rfl _ _ _, v, rfl, ?_, ?_⟩
    · have h2 := hO.lower (z' := w.heap.size) (by omega)
      rw [show (keysV (s.R who) (⟨#[]⟩ : ByteArray).data.toList) = keysV (s.R who) [] from rfl, hrow] at h2
      exact h2
    · refine (hf0.trans (S := fun _ => False) HX.out.2 (fun k hk => ?_)).trans hfd (fun k (hk : k = Dl) => .inr (by omega))
      rw [hT] at hk
      rcases hk with hk | hk
      · exact .inr (by omega)
      · exact .inr (by omega)
  case stop =>
    rintro Dl c pre W _ _ h _
    exact h.elim
end
end Go.Proofs.Ytdpaobflknkbkaa
