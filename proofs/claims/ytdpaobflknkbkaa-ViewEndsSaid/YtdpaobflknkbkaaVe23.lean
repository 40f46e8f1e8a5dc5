/- Laid together: VRs VRr -/
import Derived.Test.YtdpaobflknkbkaaVe22
import Derived.Test.YtdpaobflknkbkaaVe0

namespace Go.Proofs.Ytdpaobflknkbkaa
open Go.RowKit Go.ChangeShapes
set_option linter.unusedVariables false
theorem infoR9 : (Try.prog.info? 95).map (fun i => (i.zero, i.size, i.bytes)) = some (some (.agg (#[.string ⟨#[]⟩] ++ zC)), 22, 56) := by kernel_rfl
theorem rtZ9 : (Value.agg (#[Value.string ⟨#[]⟩] ++ zC)).cells.size = 22 := by kernel_rfl
theorem rowZ9 : (Value.agg #[Value.string ⟨#[]⟩, .slice none 0 0]).cells.size = 2 := by kernel_rfl
set_option maxRecDepth 100000 in
theorem rootR_built (N : ByteArray) (l : List Value) (h : l.length = 21) : Try.prog.built 95 #[(0, Value.string N), (1, .agg l.toArray)].toList = some (.string N :: l).toArray := by
  obtain ⟨c0, c1, c2, c3, c4, c5, c6, c7, c8, c9, d0, d1, d2, d3, d4, d5, d6, d7, d8, d9, e0, rfl⟩ := list21 h
  kernel_rfl
set_option maxRecDepth 100000 in
theorem rootR_one (w : World) (l : List Value) (h : l.length = 22) : (Instr.buildSlice 85 1 #[(0, .agg l.toArray)]).run Try.prog w = .ok (.slice (some ⟨w.heap.size, 0, none⟩) 1 1) (w.alloc (.cells l.toArray 95)) := by
  obtain ⟨x, l, rfl⟩ : ∃ x m, l = x :: m := by cases l with | nil => cases h | cons a m => exact ⟨a, m, rfl⟩
  obtain ⟨c0, c1, c2, c3, c4, c5, c6, c7, c8, c9, d0, d1, d2, d3, d4, d5, d6, d7, d8, d9, e0, rfl⟩ := list21 (by simpa using h)
  kernel_rfl
theorem rowR_one (w : World) (l : List Value) (h : l.length = 2) : (Instr.buildSlice 63 1 #[(0, .agg l.toArray)]).run Try.prog w = .ok (.slice (some ⟨w.heap.size, 0, none⟩) 1 1) (w.alloc (.cells l.toArray 73)) := by
  obtain ⟨a, b, rfl⟩ : ∃ a b, l = [a, b] := by
    match l, h with
    | [a, b], _ => exact ⟨a, b, rfl⟩
  kernel_rfl
theorem rootR_build {w : World} {o : Oper} {a : Act} {N : ByteArray} {CL : List Value} {x y : Operand} (h : CL.length = 21) (h1 : o.op = .build 95 #[(0, x), (1, y)]) (h2 : a.eval x = .string N) (h3 : a.eval y = .agg CL.toArray) : (execOp a.eval o).run Try.prog w = .ok (.value (.agg (Value.string N :: CL).toArray)) w :=
  op_build h1 (by simp [h2, h3]) (rootR_built N CL h)
theorem wpList_snoc {T ST : TypeId} {k bs : Nat} {zv : Value} (hu : Try.prog.underlying ST = some (.slice T)) (hinf : (Try.prog.info? T).map (fun i => (i.zero, i.size, i.bytes)) = some (some zv, k, bs)) (hzs : zv.cells.size = k) (hk0 : 0 < k) (hbs : bs ≤ 100)
    (W0 : World) (w : World) {ops : Array Oper} {rest : List Oper} {o1 o2 : Oper} {a : Act} {Q : Exit → Act → World → Prop} (hg1 : o1.guard = none) (hg2 : o2.guard = none) (x s : Operand) (t1 : Tmp)
    (h1 : o1.op = .buildSlice ST 1 #[(0, x)]) (h2 : o2.op = Op.call { callee := Callee.builtin Builtin.append, args := #[s, .tmp t1], argTypes := #[ST, ST] })
    (v : Value) (css : List (List Value)) (c : List Value) (hx : a.eval x = .agg c.toArray) (hs : (a.put o1.dst (.slice (some ⟨w.heap.size, 0, none⟩) 1 1)).eval s = v) (ht : (a.put o1.dst (.slice (some ⟨w.heap.size, 0, none⟩) 1 1)).eval (.tmp t1) = .slice (some ⟨w.heap.size, 0, none⟩) 1 1)
    (hf : Fr (fun _ => False) W0 w) (hown : OwnE T k W0.heap.size w v css) (hc : c.length = k) (hc1 : ∀ u ∈ c, u.oneCell' = true) (hn : css.length + 1 ≤ 1000000)
    (hrun : (Instr.buildSlice ST 1 #[(0, .agg c.toArray)]).run Try.prog w = .ok (.slice (some ⟨w.heap.size, 0, none⟩) 1 1) (w.alloc (.cells c.toArray T)))
    (hK : ∀ ao' c' w', OwnE T k W0.heap.size w' (.slice ao' (css.length + 1) c') (css ++ [c]) → Fr (fun _ => False) W0 w' → wpList Try.prog ops Q rest ((a.put o1.dst (.slice (some ⟨w.heap.size, 0, none⟩) 1 1)).put o2.dst (.slice ao' (css.length + 1) c')) w') :
    wpList Try.prog ops Q (o1 :: o2 :: rest) a w := by
  refine Go.Proofs.Ytdpaobflknkbkaa.wpList_value hg1 _ _ (op_rows h1 (by simp [hx]) hrun) ?_
  have hfa : Fr (fun _ => False) w (w.alloc (.cells c.toArray T)) := (Fr.refl _ _).alloc _
  refine wpList_append_e hu hinf hzs hk0 hbs _ hg2 s (.tmp t1) h2 v _ css [c] hs ht (hown.keep hfa (fun _ _ h => h)) (Elems.ofBlock (heap_alloc_new w _) hc) (fun d hd u hu => by rw [List.mem_singleton.1 hd] at hu; exact hc1 u hu) (Nat.le_trans hf.size hfa.size) hn ?_
  intro v' w' ho hg _
  obtain ⟨ao', c', rfl⟩ := ho.form
  have hl : (css ++ [c]).length = css.length + 1 := by simp
  rw [hl] at ho ⊢
  refine hK _ _ _ ho ((hf.trans hfa (fun _ h => h.elim)).grown hg (fun j hj => .inr ?_))
  exact (hown.own j hj).1
def rowE (q : Bs × (Value × Bs)) : List Value := [.string ⟨q.1.toArray⟩, q.2.1]
def ntP (d : RowD) : Bs × (Value × Bs) := (d.key.data.toList, (d.x, d.B))
def ntV (q : Bs × (Value × Bs)) : Bs × Bs := (q.1, q.2.2)
def ntD (q : Bs × (Value × Bs)) : RowD := ⟨⟨q.1.toArray⟩, q.2.1, q.2.2⟩
theorem rowE_ntP (l : List RowD) : (l.map ntP).map rowE = l.map rowC := by
  rw [List.map_map]
  exact List.map_congr_left (fun d _ => rfl)
theorem ntV_ntP (l : List RowD) : (l.map ntP).map ntV = l.map RowD.row := by
  rw [List.map_map]
  exact List.map_congr_left (fun d _ => rfl)
theorem ntV_ntD (M : VT (Value × Bs)) : (M.map ntD).map RowD.row = M.map ntV := by
  rw [List.map_map]
  exact List.map_congr_left (fun d _ => rfl)
theorem rowE_ntD (M : VT (Value × Bs)) : (M.map ntD).map rowC = M.map rowE := by
  rw [List.map_map]
  exact List.map_congr_left (fun d _ => rfl)
theorem vPut_map {α β : Type} (f : α → β) (k : Bs) (v : α) : ∀ M : VT α, (vPut M k v).map (fun p => (p.1, f p.2)) = vPut (M.map (fun p => (p.1, f p.2))) k (f v)
  | [] => rfl
  | x :: r => by
    unfold vPut
    simp only [List.map_cons]
    split
    · simp
    · split
      · simp
      · simp [vPut_map f k v r]
theorem vDel_map {α β : Type} (f : α → β) (k : Bs) (M : VT α) : (vDel M k).map (fun p => (p.1, f p.2)) = vDel (M.map (fun p => (p.1, f p.2))) k := by
  unfold vDel
  rw [List.filter_map]
  rfl
theorem VOk.map {α β : Type} (f : α → β) {M : VT α} (h : VOk M) : VOk (M.map (fun p => (p.1, f p.2))) := by
  unfold VOk
  rw [List.pairwise_map]
  exact h
theorem VOk.unmap {α β : Type} (f : α → β) {M : VT α} (h : VOk (M.map (fun p => (p.1, f p.2)))) : VOk M := by
  unfold VOk at h
  rw [List.pairwise_map] at h
  exact h
theorem vGet_map {α β : Type} (f : α → β) (k : Bs) : ∀ M : VT α, vGet (M.map (fun p => (p.1, f p.2))) k = (vGet M k).map f
  | [] => rfl
  | x :: r => by
    rw [List.map_cons, vGet_cons, vGet_cons, vGet_map f k r]
    split <;> rfl
theorem ins_pair {α : Type} (k : Bs) (v : α) (O : VT α) (p : Bool) (x : Bs × α) : insS k v (O, p) x = if p = false ∧ ¬ x.1 < k then (if x.1 = k then (O ++ [(k, v)], true) else (O ++ [(k, v)] ++ [x], true)) else (if x.1 = k then (O, p) else (O ++ [x], p)) := rfl
def usL (q : Qt) (rv nv : Value) : List Value := [.int .i64 q.b, .int .i64 q.o, .int .i64 q.r, .int .i64 q.n, rv, nv]
theorem load_us {W : World} {b o : Nat} {q : Qt} {rv nv : Value} (h : W.rangeAt b o (usL q rv nv)) : (Instr.loadAt 87 (.pointer (some ⟨b, o, none⟩))).run Try.prog W = .ok (.agg (usL q rv nv).toArray) W :=
  run_loadAt_mid W b o 87 (usL q rv nv) _ h Try.underlying87 rfl (by kernel_rfl)
def zU : Array Value := #[.int .i64 0, .int .i64 0, .int .i64 0, .int .i64 0, .slice none 0 0, .slice none 0 0]
theorem op_aU (o : Oper) (a : Act) (w : World) (h : o.op = .alloc 87) : (execOp a.eval o).run Try.prog w = .ok (.value (.pointer (some ⟨w.heap.size, 0, none⟩))) (w.alloc (.cells zU 87)) := by
  unfold execOp
  rw [h]
  kernel_rfl
theorem szU (q : Qt) (rv nv : Value) : (Try.prog.info? 87).map (·.size) = some (usL q rv nv).toArray.size := by kernel_rfl
theorem oneU (q : Qt) (a b : Option Addr) (n m c d : Nat) : (usL q (.slice a n c) (.slice b m d)).toArray.all (·.oneCell') = true := by kernel_rfl
theorem load_rootR {W : World} {b o : Nat} {p : Bs × PathX} (h : W.rangeAt b o (rtC p)) : (Instr.loadAt 95 (.pointer (some ⟨b, o, none⟩))).run Try.prog W = .ok (.agg (rtC p).toArray) W :=
  run_loadAt_mid W b o 95 (rtC p) _ h Try.underlying95 rfl (by rw [rtC_len]; kernel_rfl)
theorem load_rowR {W : World} {b o : Nat} {l : List Value} (hl : l.length = 2) (h : W.rangeAt b o l) : (Instr.loadAt 73 (.pointer (some ⟨b, o, none⟩))).run Try.prog W = .ok (.agg l.toArray) W :=
  run_loadAt_mid W b o 73 l _ h Try.underlying73 rfl (by rw [hl]; kernel_rfl)
theorem Elems.rng {k : Nat} {F : Nat → Prop} {w : World} {a : Option Addr} {n c : Nat} {css : List (List Value)} (h : Elems k F w (.slice a n c) css) : n = css.length ∧ n ≤ c ∧ c ≤ 9223372036854775807 ∧ ∃ b f, (0 < n → a = some ⟨b, f, none⟩ ∧ F b) ∧ ∀ i (hi : i < css.length), w.rangeAt b (f + i * k) css[i] := by
  obtain ⟨ao, cap, hv, h1, h2, h3, h4⟩ := h
  injection hv with e1 e2 e3
  subst e1 e2 e3
  refine ⟨rfl, h1, h2, ?_⟩
  by_cases hn : css = []
  · subst hn
    exact ⟨0, 0, (fun h => absurd h (Nat.lt_irrefl 0)), (fun i hi => absurd hi (Nat.not_lt_zero i))⟩
  · obtain ⟨b, f, ha, hF, hi⟩ := h4 hn
    refine ⟨b, f, fun _ => ⟨ha, hF⟩, fun i hil j u hu => ?_⟩
    have hj : j < k := by
      have := (List.getElem?_eq_some_iff.1 hu).1
      rwa [h3 _ (List.getElem_mem hil)] at this
    rw [hi i hil j hj]
    exact hu
theorem bs_str (a b : Bs) : ((⟨a.toArray⟩ : ByteArray).toList == (⟨b.toArray⟩ : ByteArray).toList) = decide (a = b) := by
  rw [Go.ByteArray.toList_eq, Go.ByteArray.toList_eq, Bool.eq_iff_iff, beq_iff_eq, decide_eq_true_iff]
theorem bs_less (a b : Bs) : Op.bytesLess (⟨a.toArray⟩ : ByteArray).toList (⟨b.toArray⟩ : ByteArray).toList = decide (a < b) := by
  rw [Go.ByteArray.toList_eq, Go.ByteArray.toList_eq]
  exact bl_iff a b
end Go.Proofs.Ytdpaobflknkbkaa
namespace Go.Proofs.Ytdpaobflknkbkaa
open Go.RowKit Go.ChangeShapes
set_option linter.unusedVariables false
structure Pl (s : VS) : Prop where
  ok : okQs s.Q = true
  R : ∀ i, VOk (s.R i)
  N : ∀ i, VOk (s.N i)
  cap : ∀ i (h : i < s.Q.length), ((s.R ((i + 1 : Nat) : Int)).length : Int) ≤ s.Q[i].r ∧ ((s.N ((i + 1 : Nat) : Int)).length : Int) ≤ s.Q[i].n
theorem Pl.lens {s : VS} (h : Pl s) {i : Nat} (hi : i < s.Q.length) : (s.R ((i + 1 : Nat) : Int)).length ≤ 100 ∧ (s.N ((i + 1 : Nat) : Int)).length ≤ 400 ∧ s.Q.length ≤ 8 := by
  have h1 := h.cap i hi
  have h2 := okQ_bounds ((okQs_iff h.ok).1 _ (List.getElem_mem hi))
  have h3 := (okQs_iff h.ok).2.2
  omega
theorem RvAt.wider {F G : Nat → Prop} {w : World} {g u : Nat} {s : VS} (h : RvAt F w g u s) (hd : ∀ k, k < w.heap.size → F k → G k) (hg : ¬ G g) (hu : ¬ G u) : RvAt G w g u s :=
  ⟨h.row, h.blk, fun i hi => (h.us i hi).mono hd, h.sep.1, hg, hu⟩
theorem RvAt.newF {F : Nat → Prop} {w w' : World} {g u : Nat} {s : VS} (h : RvAt F w g u s) (hf : Fr (fun _ => False) w w') : RvAt (newF F w w') w' g u s := by
  have hl := h.lt
  refine (h.quiet hf).wider (fun k _ hk => .inl hk) (fun hg => ?_) (fun hu => ?_)
  · rcases hg with hg | hg
    · exact h.sep.2.1 hg
    · omega
  · rcases hu with hu | hu
    · exact h.sep.2.2 hu
    · omega
theorem RvAt.putR {F : Nat → Prop} {w w' : World} {g u : Nat} {s : VS} (h : RvAt F w g u s) (hf : Fr (fun _ => False) w w') {i : Nat} (hi : i < s.Q.length) {M : VT PathX} {a : Option Addr} {n c : Nat} (hM : OwnE 95 22 w.heap.size w' (.slice a n c) (M.map rtC)) :
    RvAt (Go.Proofs.Ytdpaobflknkbkaa.newF F w w') (w'.setCell ⟨u, i * 6 + 4, none⟩ (.slice a n c)) g u (s.setR ((i + 1 : Nat) : Int) M) ∧ Fr (fun k => k = u) w (w'.setCell ⟨u, i * 6 + 4, none⟩ (.slice a n c)) := by
  have hl := h.lt
  have hs := hf.size
  have hr := h.newF hf
  obtain ⟨cs, hb⟩ := hr.blk
  have hfs : Fr (fun k => k = u) w' (w'.setCell ⟨u, i * 6 + 4, none⟩ (.slice a n c)) := Fr.cell1 w' u _ _
  have hpc := cell_put (i := i * 6 + 4) (.slice a n c) hb
  have hne : ∀ k, k < w'.heap.size → Go.Proofs.Ytdpaobflknkbkaa.newF F w w' k → ¬ k = u := fun k _ hk e => by rw [e] at hk; exact hr.sep.2.2 hk
  refine ⟨⟨?_, ⟨_, hpc⟩, fun j hj => ?_, hr.sep⟩, (hf.mono (fun _ _ h => h.elim)).trans hfs (fun k hk => .inl hk)⟩
  · obtain ⟨c', h1, h2⟩ := hr.row
    exact ⟨c', hfs.heap h1 (fun e => hr.sep.1 e), h2⟩
  · obtain ⟨rv, nv, l, e1, e2, e3, e4⟩ := (hr.us j hj).ex
    have e3' := e3.keep hfs hne
    by_cases hji : j = i
    · subst hji
      have hR : (s.setR ((j + 1 : Nat) : Int) M).R ((j + 1 : Nat) : Int) = M := upd_same _ _ _
      rw [hR]
      have hown := (hM.keep hfs (fun b hb' e => by have := hM.own b hb'; omega)).elems.mono (G := Go.Proofs.Ytdpaobflknkbkaa.newF F w w') (by decide) (fun b hb0 hb' => .inr ⟨(hM.own b hb').1, (hM.own b hb').2⟩)
      refine ⟨⟨.slice a n c, nv, l, ?_, hown, e3', e4⟩⟩
      intro k v hv
      have h0 := cell_of_row w' u (j * 6 + k) _ _ _ hb
      rw [cell_of_row _ _ _ _ _ _ hpc]
      match k, hv with
      | 0, hv => rw [Array.getElem?_setIfInBounds_ne (by omega), ← h0]; exact e1 0 v hv
      | 1, hv => rw [Array.getElem?_setIfInBounds_ne (by omega), ← h0]; exact e1 1 v hv
      | 2, hv => rw [Array.getElem?_setIfInBounds_ne (by omega), ← h0]; exact e1 2 v hv
      | 3, hv => rw [Array.getElem?_setIfInBounds_ne (by omega), ← h0]; exact e1 3 v hv
      | 4, hv =>
        have h4 := e1 4 rv rfl
        rw [h0] at h4
        have hlt := (Array.getElem?_eq_some_iff.1 h4).1
        rw [Array.getElem?_setIfInBounds_self_of_lt hlt]
        exact hv
      | 5, hv => rw [Array.getElem?_setIfInBounds_ne (by omega), ← h0]; exact e1 5 v hv
    · have hR : (s.setR ((i + 1 : Nat) : Int) M).R ((j + 1 : Nat) : Int) = s.R ((j + 1 : Nat) : Int) := upd_other _ _ (by omega)
      rw [hR]
      refine ⟨⟨rv, nv, l, ?_, e2.keep hfs hne, e3', e4⟩⟩
      intro k v hv
      have hk : k < 6 := (List.getElem?_eq_some_iff.1 hv).1
      have h0 := cell_of_row w' u (j * 6 + k) _ _ _ hb
      rw [cell_of_row _ _ _ _ _ _ hpc, Array.getElem?_setIfInBounds_ne (by omega), ← h0]
      exact e1 k v hv
theorem RvAt.putN {F : Nat → Prop} {w w' : World} {g u : Nat} {s : VS} (h : RvAt F w g u s) (hf : Fr (fun _ => False) w w') {i : Nat} (hi : i < s.Q.length) {l9 : List RowD} {a : Option Addr} {n c : Nat} (hM : OwnE 73 2 w.heap.size w' (.slice a n c) (l9.map rowC)) (hB : ∀ p ∈ l9, BytesIn (Go.Proofs.Ytdpaobflknkbkaa.newF F w w') w' p.x p.B) :
    RvAt (Go.Proofs.Ytdpaobflknkbkaa.newF F w w') (w'.setCell ⟨u, i * 6 + 5, none⟩ (.slice a n c)) g u (s.setN ((i + 1 : Nat) : Int) (l9.map RowD.row)) ∧ Fr (fun k => k = u) w (w'.setCell ⟨u, i * 6 + 5, none⟩ (.slice a n c)) := by
  have hl := h.lt
  have hs := hf.size
  have hr := h.newF hf
  obtain ⟨cs, hb⟩ := hr.blk
  have hfs : Fr (fun k => k = u) w' (w'.setCell ⟨u, i * 6 + 5, none⟩ (.slice a n c)) := Fr.cell1 w' u _ _
  have hpc := cell_put (i := i * 6 + 5) (.slice a n c) hb
  have hne : ∀ k, k < w'.heap.size → Go.Proofs.Ytdpaobflknkbkaa.newF F w w' k → ¬ k = u := fun k _ hk e => by rw [e] at hk; exact hr.sep.2.2 hk
  refine ⟨⟨?_, ⟨_, hpc⟩, fun j hj => ?_, hr.sep⟩, (hf.mono (fun _ _ h => h.elim)).trans hfs (fun k hk => .inl hk)⟩
  · obtain ⟨c', h1, h2⟩ := hr.row
    exact ⟨c', hfs.heap h1 (fun e => hr.sep.1 e), h2⟩
  · obtain ⟨rv, nv, l, e1, e2, e3, e4⟩ := (hr.us j hj).ex
    by_cases hji : j = i
    · subst hji
      have hR : (s.setN ((j + 1 : Nat) : Int) (l9.map RowD.row)).N ((j + 1 : Nat) : Int) = l9.map RowD.row := upd_same _ _ _
      rw [hR]
      have hown := (hM.keep hfs (fun b hb' e => by have := hM.own b hb'; omega)).elems.mono (G := Go.Proofs.Ytdpaobflknkbkaa.newF F w w') (by decide) (fun b hb0 hb' => .inr ⟨(hM.own b hb').1, (hM.own b hb').2⟩)
      refine ⟨⟨rv, .slice a n c, l9, ?_, e2.keep hfs hne, ⟨hown, fun p hp => (hB p hp).keep hfs hne⟩, rfl⟩⟩
      intro k v hv
      have h0 := cell_of_row w' u (j * 6 + k) _ _ _ hb
      rw [cell_of_row _ _ _ _ _ _ hpc]
      match k, hv with
      | 0, hv => rw [Array.getElem?_setIfInBounds_ne (by omega), ← h0]; exact e1 0 v hv
      | 1, hv => rw [Array.getElem?_setIfInBounds_ne (by omega), ← h0]; exact e1 1 v hv
      | 2, hv => rw [Array.getElem?_setIfInBounds_ne (by omega), ← h0]; exact e1 2 v hv
      | 3, hv => rw [Array.getElem?_setIfInBounds_ne (by omega), ← h0]; exact e1 3 v hv
      | 4, hv => rw [Array.getElem?_setIfInBounds_ne (by omega), ← h0]; exact e1 4 v hv
      | 5, hv =>
        have h5 := e1 5 nv rfl
        rw [h0] at h5
        have hlt := (Array.getElem?_eq_some_iff.1 h5).1
        rw [Array.getElem?_setIfInBounds_self_of_lt hlt]
        exact hv
    · have hR : (s.setN ((i + 1 : Nat) : Int) (l9.map RowD.row)).N ((j + 1 : Nat) : Int) = s.N ((j + 1 : Nat) : Int) := upd_other _ _ (by omega)
      rw [hR]
      refine ⟨⟨rv, nv, l, ?_, e2.keep hfs hne, e3.keep hfs hne, e4⟩⟩
      intro k v hv
      have hk : k < 6 := (List.getElem?_eq_some_iff.1 hv).1
      have h0 := cell_of_row w' u (j * 6 + k) _ _ _ hb
      rw [cell_of_row _ _ _ _ _ _ hpc, Array.getElem?_setIfInBounds_ne (by omega), ← h0]
      exact e1 k v hv
end Go.Proofs.Ytdpaobflknkbkaa
