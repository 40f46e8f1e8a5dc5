/- Laid together: VNotes VFind -/
import Derived.Test.YteockhemeneioaaVl12
import Derived.Test.YteockhemeneioaaVl13

namespace Go.Proofs.Yteockhemeneioaa
open Go.RowKit Go.ChangeShapes Go.Maps Go.WideMaps
set_option linter.unusedVariables false
attribute [local go_sem] Oper.semAt_some
structure RowD where
  key : ByteArray
  x : Value
  B : List UInt8
def rowC (p : RowD) : List Value := [.string p.key, p.x]
def RowD.row (p : RowD) : Bs × Bs := (p.key.data.toList, p.B)
structure RwsIn (F : Nat → Prop) (w : World) (v : Value) (l : List RowD) : Prop where
  el : Elems 2 F w v (l.map rowC)
  bytes : ∀ p ∈ l, BytesIn F w p.x p.B
theorem RwsIn.keep {F S : Nat → Prop} {w w' : World} {v : Value} {l : List RowD} (h : RwsIn F w v l) (hf : Fr S w w') (hd : ∀ b, b < w.heap.size → F b → ¬ S b) : RwsIn F w' v l := ⟨h.el.keep hf hd, fun p hp => (h.bytes p hp).keep hf hd⟩
theorem infoRow : (Try.prog.info? 73).map (fun i => (i.zero, i.size, i.bytes)) = some (some (.agg #[.string ⟨#[]⟩, .slice none 0 0]), 2, 40) := by kernel_rfl
structure OwnR (F : Nat → Prop) (z : Nat) (w : World) (v : Value) (l : List RowD) : Prop where
  own : OwnE 73 2 z w v (l.map rowC)
  bytes : ∀ p ∈ l, BytesIn (fun k => F k ∧ v.ownBlock ≠ some k) w p.x p.B
  one : ∀ p ∈ l, p.x.oneCell' = true
theorem OwnR.nil (F : Nat → Prop) (z : Nat) (w : World) : OwnR F z w (.slice none 0 0) [] := ⟨OwnE.nil _ _ _ _, (fun _ h => by cases h), (fun _ h => by cases h)⟩
theorem OwnR.form {F : Nat → Prop} {z : Nat} {w : World} {v : Value} {l : List RowD} (h : OwnR F z w v l) : ∃ ao c, v = .slice ao l.length c := by
  obtain ⟨ao, c, hv⟩ := h.own.form
  rw [List.length_map] at hv
  exact ⟨ao, c, hv⟩
theorem OwnR.keep_ {F S : Nat → Prop} {z : Nat} {w w' : World} {v : Value} {l : List RowD} (h : OwnR F z w v l) (hf : Fr S w w') (hd : ∀ g, v.ownBlock = some g → ¬ S g) (hF : ∀ k, k < w.heap.size → F k → ¬ S k) : OwnR F z w' v l := ⟨h.own.keep hf hd, fun p hp => (h.bytes p hp).keep hf (fun k hk hh => hF k hk hh.1), h.one⟩
theorem OwnR.snoc {F : Nat → Prop} {z : Nat} {w w2 : World} {v v2 : Value} {l : List RowD} {p : RowD} (h : OwnR F z w v l) (hp : BytesIn (fun k => F k ∧ v.ownBlock ≠ some k) w p.x p.B) (h1 : p.x.oneCell' = true) (ho : OwnE 73 2 z w2 v2 (l.map rowC ++ [rowC p])) (hg : w.grownBy w2 v.ownBlock) (hv : v2.ownBlock = v.ownBlock ∨ v2.ownBlock = some w.heap.size) : OwnR F z w2 v2 (l ++ [p]) := by
  have hf : Fr (fun k => v.ownBlock = some k) w w2 := (Fr.refl _ w).grown hg (fun k hk => .inl hk)
  have hne : ∀ k, k < w.heap.size → v.ownBlock ≠ some k → v2.ownBlock ≠ some k := fun k hk hne e => by
    rcases hv with hv | hv
    · exact hne (hv ▸ e)
    · rw [hv] at e; have := Option.some.inj e; omega
  refine ⟨by rw [List.map_append]; exact ho, fun q hq => ?_, fun q hq => ?_⟩
  · have hq2 : BytesIn (fun k => (F k ∧ v.ownBlock ≠ some k) ∧ k < w.heap.size) w q.x q.B := by
      rcases List.mem_append.1 hq with hq | hq
      · exact (h.bytes q hq).mono (fun k hk hh => ⟨hh, hk⟩)
      · rw [List.mem_singleton.1 hq]
        exact hp.mono (fun k hk hh => ⟨hh, hk⟩)
    exact (hq2.keep hf (fun k _ hh e => hh.1.2 e)).mono (fun k _ hh => ⟨hh.1.1, hne k hh.2 hh.1.2⟩)
  · rcases List.mem_append.1 hq with hq | hq
    · exact h.one q hq
    · rw [List.mem_singleton.1 hq]; exact h1
theorem cells_of_cell6 {w : World} {p : Addr} {u : Value} (h : w.cell? p = some u) : ∃ cs T fr, w.heap[p.block]? = some (.cells cs T fr) := by
  unfold World.cell? at h
  split at h
  · next cs T fr e => exact ⟨cs, T, fr, e⟩
  · cases h
theorem BytesIn.keepN {F S : Nat → Prop} {w w' : World} {v : Value} {L : List UInt8} (h : BytesIn F w v L) (hf : Fr S w w') (hn : ∀ k, S k → ∀ cs T fr, w.heap[k]? ≠ some (.cells cs T fr)) : BytesIn F w' v L := by
  obtain ⟨ao, cap, rfl, h1, hm, h2, h3⟩ := h
  refine ⟨ao, cap, rfl, h1, hm, h2, fun a ha => ⟨fun j u hu => ?_, (h3 a ha).2⟩⟩
  have hc := (h3 a ha).1 j u hu
  have hns : ¬ S (a.add j).block := fun hs => by
    obtain ⟨cs, T, fr, hb⟩ := cells_of_cell6 hc
    exact hn _ hs _ _ _ hb
  exact hf.cell hc hns
theorem OwnR.keepN {F S : Nat → Prop} {z : Nat} {w w' : World} {v : Value} {l : List RowD} (h : OwnR F z w v l) (hf : Fr S w w') (hn : ∀ k, S k → ∀ cs T fr, w.heap[k]? ≠ some (.cells cs T fr)) : OwnR F z w' v l := by
  refine ⟨⟨⟨h.own.row.1, ?_⟩, h.own.each⟩, fun p hp => (h.bytes p hp).keepN hf hn, h.one⟩
  rcases h.own.row.2 with e | ⟨g, cap, cur, hv, hb, hg, r⟩
  · exact .inl e
  · exact .inr ⟨g, cap, cur, hv, hb, hf.heap hg (fun hs => hn g hs _ _ _ hg), r⟩
theorem OwnR.keep {F S : Nat → Prop} {z : Nat} {w w' : World} {v : Value} {l : List RowD} (h : OwnR F z w v l) (hf : Fr S w w') (hd : ∀ g, v.ownBlock = some g → ¬ S g) (hF : ∀ k, k < w.heap.size → F k → ¬ S k) : OwnR F z w' v l := ⟨h.own.keep hf hd, fun p hp => (h.bytes p hp).keep hf (fun k hk hh => hF k hk hh.1), h.one⟩
structure AccR (T : Nat → Prop) (n0 Bt : Nat) (W0 : World) (pre : List (Bs × Bs)) (W : World) : Prop where
  ex : ∃ v l, W.heap[Bt]? = some (.cells #[v] 63 (0, 0)) ∧ OwnR (fun k => n0 ≤ k) n0 W v l ∧ l.map RowD.row = pre
  fr : Fr T W0 W
theorem ownFrom_acc {β : Type} {T : Nat → Prop} {n0 Bt : Nat} {W0 : World} (f : β → List (Bs × Bs)) (hT : ∀ k, n0 ≤ k → T k) : OwnFrom n0 (fun (s : β) W => AccR T n0 Bt W0 (f s) W) := fun s A B row h hg hr => by
  obtain ⟨v, l, h1, h2, h3⟩ := h.ex
  have hf : Fr (fun k => row = some k) A B := (Fr.refl _ A).grown hg (fun k hk => .inl hk)
  have hn : ∀ k, row = some k → ∀ cs T fr, A.heap[k]? ≠ some (.cells cs T fr) := fun k hk cs T' fr e => by
    obtain ⟨_, o, ho, hc⟩ := hr k hk
    rw [e] at ho
    cases ho
    cases hc
  exact ⟨⟨v, l, hf.heap h1 (fun hs => hn _ hs _ _ _ h1), h2.keepN hf hn, h3⟩, h.fr.trans hf (fun k hk => .inl (hT k (hr k hk).1))⟩
def ClR (W : World) (b : Bs) (w : World) (x : Value) : Prop := (∃ a n c, x = .slice a n c) ∧ BytesIn (fun k => W.heap.size ≤ k) w x b
def RowReg (vacc : Value) (key : ByteArray) (x0 : Value) (b : Bs) (W : World) (i : Nat) (v : Value) (w : World) : Prop :=
  match i with
  | 0 => v = vacc
  | 1 => v = .string key
  | 2 => v = x0
  | 3 => ClR W b w v
  | 4 => ∃ x, v = .agg #[.string key, x] ∧ ClR W b w x
  | 5 => ∃ g x, v = .slice (some ⟨g, 0, none⟩) 1 1 ∧ w.heap[g]? = some (.cells #[.string key, x] 73 (0, 0)) ∧ ClR W b w x
  | _ => True
theorem ClR.ext {W : World} {b : Bs} {w w' : World} {x : Value} (h : ClR W b w x) (hf : Fr (fun _ => False) w w') : ClR W b w' x := ⟨h.1, h.2.keep hf (fun _ _ _ h => h)⟩
theorem RowReg.ext (vacc : Value) (key : ByteArray) (x0 : Value) (b : Bs) (W : World) : ∀ (j : Nat) (u : Value) (w w' : World), Fr (fun _ => False) w w' → RowReg vacc key x0 b W j u w → RowReg vacc key x0 b W j u w'
  | 0, u, w, w', hf, h => h
  | 1, u, w, w', hf, h => h
  | 2, u, w, w', hf, h => h
  | 3, u, w, w', hf, h => ClR.ext h hf
  | 4, u, w, w', hf, h => by obtain ⟨x, h1, h2⟩ := h; exact ⟨x, h1, h2.ext hf⟩
  | 5, u, w, w', hf, h => by obtain ⟨g, x, h1, h2, h3⟩ := h; exact ⟨g, x, h1, hf.heap h2 id, h3.ext hf⟩
  | _ + 6, u, w, w', hf, h => trivial
theorem row_built (N : ByteArray) (a : Option Addr) (n c : Nat) : Try.prog.built 73 #[(0, Value.string N), (1, .slice a n c)].toList = some #[.string N, .slice a n c] := by kernel_rfl
theorem row_one (w : World) (N : ByteArray) (a : Option Addr) (n c : Nat) : (Instr.buildSlice 63 1 #[(0, .agg #[.string N, .slice a n c])]).run Try.prog w = .ok (.slice (some ⟨w.heap.size, 0, none⟩) 1 1) (w.alloc (.cells #[.string N, .slice a n c] 73)) := by kernel_rfl
section
variable {F : Nat → Prop} {w : World} {A : VA} {n : Nat} {s : VS}
set_option maxRecDepth 100000 in
set_option maxHeartbeats 4000000 in
theorem vNotes_in (h : VwAt F w A n s) (hF : ∀ k, F k → k < w.heap.size) (hn : n ≤ 100000) (who : Int) (hu : isUser s who) (P : ByteArray) :
    CallsIn Fence.wide 3 Try.prog 26 #[.pointer (some ⟨A.vb, 0, none⟩), .int .i64 who, .string P] w fun e w' => ∃ v l, e = .returned v ∧ OwnR (fun k => w.heap.size ≤ k) w.heap.size w' v l ∧ l.map RowD.row = (s.N who).filter (fun p => Lib.hasPrefix p.1 P.data.toList) ∧ Fr (fun _ => False) w w' := by
  refine callsIn_of_wp_marks Try.func26 rfl trivial ?_ rfl
  simp only [Try.ntmps26, List.size_toArray, List.length_cons, List.length_nil, Nat.reduceAdd, Nat.reduceSub, Array.replicate_succ, Array.replicate_zero, List.push_toArray, List.append_toArray, List.nil_append, List.cons_append]
  have HS := Lib.hid (WideF.out.calls (n := 2) (ready_yes h who hu))
  obtain ⟨w1, hw1⟩ : ∃ w1, w1 = w.alloc (.cells #[.slice none 0 0] 63) := ⟨_, rfl⟩
  have hord := WideF.out.calls (n := 2) (ofN_any w1 A.nb who P)
  rw [hw1] at hord
  have hf1 : Fr (fun _ => False) w w1 := by rw [hw1]; exact (Fr.refl _ _).alloc _
  have c1 := (h.quiet hf1).ptrs.2
  rw [hw1] at c1
  have HO := Lib.hid hord
  clear hord
  gi_wp2_with (first
    | (refine ⟨trivial, ?_⟩; gi_at_call 51; refine HS.out.mono ?_; rintro e w2 ⟨rfl, hw2⟩; (obtain rfl : w = w2 := hw2.symm))
    | (refine ⟨trivial, ?_⟩; gi_at_call 62; refine HO.out.mono ?_; rintro e w2 ⟨rfl, rfl⟩))
  have hlt := h.nk.lt
  obtain ⟨W0, hW0⟩ : ∃ W0, W0 = (((w.alloc (.cells #[.slice none 0 0] 63)).alloc (.cells #[.pointer (some ⟨A.nb, 0, none⟩)] 80)).alloc (.cells #[.int .i64 who] 3)).alloc (.cells #[.string P] 9) := ⟨_, rfl⟩
  have hsz : W0.heap.size = w.heap.size + 4 := by rw [hW0]; simp
  have hf0 : Fr (fun _ => False) w W0 := by rw [hW0]; exact ((((Fr.refl _ _).alloc _).alloc _).alloc _).alloc _
  have hbt : W0.heap[w.heap.size]? = some (.cells #[.slice none 0 0] 63 (0, 0)) := by
    rw [hW0]
    exact ((((Fr.refl (fun _ => False) _).alloc _).alloc _).alloc _).heap (heap_alloc_new w _) id
  have hb1 : W0.heap[w.heap.size + 1]? = some (.cells #[.pointer (some ⟨A.nb, 0, none⟩)] 80 (0, 0)) := by
    rw [hW0]
    exact (((Fr.refl (fun _ => False) _).alloc _).alloc _).heap (heap_alloc2_new w _ _) id
  have hb2 : W0.heap[w.heap.size + 1 + 1]? = some (.cells #[.int .i64 who] 3 (0, 0)) := by
    rw [hW0]
    have := ((Fr.refl (fun _ => False) _).alloc (.cells #[.string P] 9)).heap (heap_alloc2_new (w.alloc (.cells #[.slice none 0 0] 63)) (.cells #[.pointer (some ⟨A.nb, 0, none⟩)] 80) (.cells #[.int .i64 who] 3)) id
    simpa using this
  have hb3 : W0.heap[w.heap.size + 1 + 2]? = some (.cells #[.string P] 9 (0, 0)) := by
    rw [hW0]
    have := heap_alloc2_new ((w.alloc (.cells #[.slice none 0 0] 63)).alloc (.cells #[.pointer (some ⟨A.nb, 0, none⟩)] 80)) (.cells #[.int .i64 who] 3) (.cells #[.string P] 9)
    simpa using this
  rw [← hW0]
  have hw := user_wf h.ok hu
  obtain ⟨D, val, hown, hval⟩ := h.nk.th.vals who hw (h.nk.ok who).2.2
  obtain ⟨T, hT⟩ : ∃ T : Nat → Prop, T = fun b => b = w.heap.size ∨ W0.heap.size ≤ b := ⟨_, rfl⟩
  have hT0 : ∀ k, W0.heap.size ≤ k → T k := fun k hk => by rw [hT]; exact .inr hk
  have hTn : ∀ k, k ≠ w.heap.size → k < W0.heap.size → ¬ T k := fun k h1 h2 h3 => by rw [hT] at h3; rcases h3 with h3 | h3 <;> omega
  have hIt : ItN F A.nb A.tn A.mn n s.N who P (w.heap.size + 1) (w.heap.size + 1 + 1) (w.heap.size + 1 + 2) D W0 :=
    ⟨cell_of_row _ _ _ _ _ _ hb1, cell_of_row _ _ _ _ _ _ hb2, cell_of_row _ _ _ _ _ _ hb3, h.nk.quiet hf0, ownsMap_kept9 hown hf0 id⟩
  have hFT : ∀ k, F k → ¬ T k := fun k hk => hTn k (by have := hF k hk; omega) (by have := hF k hk; omega)
  have hKb : ∀ (W : World) (l : Nat) (o o' : Obj), W0.heap.size ≤ l → W.heap[l]? = some o → o.isCells = false → o.isWalk = false → KpV T W (W.putObj l o') := fun W l o o' hl ho hc _ =>
    KpV.of (S := (· = l)) (fr_putObj W l o' rfl) (fun k _ (e : k = l) => by rw [e]; exact hT0 l hl) (fun k hk (e : k = l) => by
      obtain ⟨cs, fr, s, h1, _⟩ := hk
      rw [e, ho] at h1
      cases h1
      cases hc)
  have HV0 := fun (x : KeyV (s.N who)) (hf0 : Fr (fun _ => False) w W0) => ((hval x.1 (getV x) (getV_eq x)).2.1.keep hf0 (fun _ _ _ h => h) : BytesIn F W0 (val x.1) (getV x))
  have HV1 := fun (x : KeyV (s.N who)) => ((hval x.1 (getV x) (getV_eq x)).2.2 : (getV x).length ≤ 2048)
  have HPK : (vKeys (s.N who) P.data.toList).length ≤ 100000 := by
    have h1 := vKeys_le (s.N who) P.data.toList
    have h2 := (h.nk.ok who).2.1
    omega
  refine wpIn_rangeFunc_ownH rfl (by decide) (gf := 78) (lb := #[.pointer (some ⟨w.heap.size + 1, 0, none⟩), .pointer (some ⟨w.heap.size + 1 + 1, 0, none⟩), .pointer (some ⟨w.heap.size + 1 + 2, 0, none⟩)]) rfl trivial (enters_of Try.func78 (by kernel_rfl) rfl)
    (ofN_stops (T := T) (F := F) 2 (w.heap.size + 1) (w.heap.size + 1 + 1) (w.heap.size + 1 + 2) A.nb A.tn A.mn n s.N who hw hn P D val (fun k b hb => (hval k b hb).1) (hTn _ (by omega) (by omega)) (hTn _ (by omega) (by omega)) (hTn _ (by omega) (by omega)) (hTn _ (by omega) (by omega)) (hTn _ (by omega) (by omega)) (hTn _ (by omega) (by omega)) hFT W0 (fun k hk => by have := hF k hk; omega) hIt)
    (fun h k => h.trans k) hKb (Below.refl _ _) (fun _ => rfl)
    (fun (pre : List (KeyV (s.N who))) W => AccR T W0.heap.size w.heap.size W0 (pre.map rowV) W)
    (fun _ _ _ => False)
    (ownFrom_acc (fun (pre : List (KeyV (s.N who))) => pre.map rowV) hT0)
    (fun _ _ _ _ _ hs _ _ => hs)
    ⟨⟨_, [], hbt, OwnR.nil _ _ _, rfl⟩, Fr.refl _ _⟩
    (fun x a' W => a' = { tmps := #[.pointer (some ⟨A.vb, 0, none⟩), .int .i64 who, .string P, undef, undef, undef, .slice none 0 0, .pointer (some ⟨w.heap.size, 0, none⟩), encStr x.1, val x.1, .pointer (some ⟨A.vb, 0, none⟩), .int .i64 who, .int .i64 0, .bool false, .pointer (some ⟨A.vb, 0, none⟩), .pointer (some ⟨A.vb, 0, none⟩), .pointer (some ⟨A.vb, 2, none⟩), .pointer (some ⟨A.nb, 0, none⟩), .int .i64 who, .string P, .func (.func 78) #[] #[.pointer (some ⟨w.heap.size + 1, 0, none⟩), .pointer (some ⟨w.heap.size + 1 + 1, 0, none⟩), .pointer (some ⟨w.heap.size + 1 + 2, 0, none⟩)], encStr x.1, val x.1, undef, undef, undef, undef, undef, undef, undef, undef], defers := [] })
    (fun x a' s A B row hs hg hr => hs)
    ?assign ?body ?done ?stop
  case assign =>
    rintro l pre x W K hi hK
    simp only [encV]
    have HK := Lib.hid hK
    have HI := Lib.hid hi
    clear hK hi
    gi_wp2
    exact HK.out _ _ (keepsFrom_fr (S := fun _ => False) (Fr.refl _ W) (fun _ h => h.elim)) ⟨Fr.refl _ _, fun _ _ => rfl⟩ HI.out rfl
  case body =>
    rintro l pre x a' W hll ⟨r, hr⟩ hi rfl hlt2
    obtain ⟨⟨v, lr, hb, ho, hm⟩, hfr⟩ := hi
    obtain ⟨av, cv, rfl⟩ := ho.form
    have hbx : BytesIn F W (val x.1) (getV x) := (HV0 x hf0).keep hfr (fun k _ hk => hFT k hk)
    have hbl : (getV x).length ≤ 2048 := HV1 x
    have hzW := hfr.size
    have hcell : ∀ W', Fr (fun _ => False) W W' → W'.cell? ⟨w.heap.size, 0, none⟩ = some (.slice av lr.length cv) := fun W' hf => cell_of_one (hf.heap hb id)
    have HPL := Lib.hid (Nat.le_trans (Nat.le_of_lt hlt2) HPK)
    have HX := Lib.hid (And.intro hbx (And.intro hbl (And.intro hcell (And.intro hb (And.intro ho (And.intro hm (And.intro hfr hzW)))))))
    clear hbx hbl hcell hb ho hm hfr hzW
    gi_wp2
    refine wpIn_region_inv (.round l) 6 (by kernel_rfl) ?nodefer (by kernel_rfl) (fun W' => Fr (fun _ => False) W W') (RowReg (.slice av lr.length cv) ⟨x.1.toArray⟩ (val x.1) (getV x) W) (fun _ _ _ _ => True) (Fr (fun _ => False)) (RowReg.ext _ _ _ _ _) (Fr.refl _ _).drew ?steps ?tail
    case nodefer =>
      intro i o ho c
      rcases i with _ | _ | _ | _ | _ | _ | _ | _ | i <;> simp at ho
      all_goals (subst ho; intro h; cases h)
    case steps =>
      intro i hi o ho
      replace hi : i < 6 := hi
      obtain rfl | rfl | rfl | rfl | rfl | rfl : i = 0 ∨ i = 1 ∨ i = 2 ∨ i = 3 ∨ i = 4 ∨ i = 5 := by omega
      · simp only [List.getElem?_cons_zero, Option.some.injEq] at ho
        subst ho
        intro a W' vs hB hS hE hU
        refine wpG_plain rfl ?_
        have v7 : a.eval (.tmp 7) = .pointer (some ⟨w.heap.size, 0, none⟩) := (hU 7 (by kernel_rfl)).trans rfl
        clear hE hU
        exact wp_value_inv (w' := W') (.slice av lr.length cv) (op_loadAt rfl v7 (load_one5 W' _ _ _ (by kernel_rfl) (HX.out.2.2.1 W' hB))) ⟨_, rfl, hB, Fr.refl _ _, rfl, fun _ _ _ _ _ => trivial⟩
      · simp only [List.getElem?_cons_zero, List.getElem?_cons_succ, Option.some.injEq] at ho
        subst ho
        intro a W' vs hB hS hE hU
        refine wpG_plain rfl ?_
        have v8 : a.eval (.tmp 8) = encStr x.1 := (hU 8 (by kernel_rfl)).trans rfl
        clear hE hU
        exact wp_value_inv (w' := W') (encStr x.1) (op_move rfl v8) ⟨_, rfl, hB, Fr.refl _ _, rfl, fun _ _ _ _ _ => trivial⟩
      · simp only [List.getElem?_cons_zero, List.getElem?_cons_succ, Option.some.injEq] at ho
        subst ho
        intro a W' vs hB hS hE hU
        refine wpG_plain rfl ?_
        have v9 : a.eval (.tmp 9) = val x.1 := (hU 9 (by kernel_rfl)).trans rfl
        clear hE hU
        exact wp_value_inv (w' := W') (val x.1) (op_move rfl v9) ⟨_, rfl, hB, Fr.refl _ _, rfl, fun _ _ _ _ _ => trivial⟩
      · simp only [List.getElem?_cons_zero, List.getElem?_cons_succ, Option.some.injEq] at ho
        subst ho
        intro a W' vs hB hS hE hU
        refine wpG_plain rfl ?_
        obtain ⟨r2, e25⟩ := hE 2 25 (by kernel_rfl) (by kernel_rfl)
        have v25 : a.eval (.tmp 25) = val x.1 := e25.trans r2
        clear hE hU
        refine wp_call_inv 63 #[.tmp 25] #[44] rfl #[val x.1] (by simp only [List.map_toArray, List.map_cons, List.map_nil, v25]) (ent_copyB _) (Post := fun v W2 => OwnB (fun k => W'.heap.size ≤ k) W2 v (getV x) ∧ Fr (fun _ => False) W' W2) (copyB_any W' _ _ (HX.out.1.keep hB (fun _ _ _ h => h)) (by have := HX.out.2.1; omega)) ?_
        rintro v W2 ⟨ho2, hf2⟩
        have hz := hB.size
        exact ⟨_, rfl, hB.trans hf2 (fun _ h => h.elim), hf2, ⟨by obtain ⟨a, c, e⟩ := ho2.len; exact ⟨a, _, c, e⟩, ho2.bytes.mono (fun k _ hk => Nat.le_trans hz hk)⟩, fun _ _ _ _ _ => trivial⟩
      · simp only [List.getElem?_cons_zero, List.getElem?_cons_succ, Option.some.injEq] at ho
        subst ho
        intro a W' vs hB hS hE hU
        refine wpG_plain rfl ?_
        obtain ⟨r1, e24⟩ := hE 1 24 (by kernel_rfl) (by kernel_rfl)
        obtain ⟨⟨⟨ax, nx, cx, hx⟩, r3⟩, e26⟩ := hE 3 26 (by kernel_rfl) (by kernel_rfl)
        have v24 : a.eval (.tmp 24) = encStr x.1 := e24.trans r1
        have v26 : a.eval (.tmp 26) = .slice ax nx cx := e26.trans hx
        rw [hx] at r3
        clear hE hU
        exact wp_value_inv (w' := W') (.agg #[encStr x.1, .slice ax nx cx]) (op_build rfl (vs := #[(0, encStr x.1), (1, .slice ax nx cx)]) (by simp only [List.map_toArray, List.map_cons, List.map_nil, v24, v26]) (row_built _ _ _ _)) ⟨_, rfl, hB, Fr.refl _ _, ⟨.slice ax nx cx, rfl, ⟨ax, nx, cx, rfl⟩, r3⟩, fun _ _ _ _ _ => trivial⟩
      · simp only [List.getElem?_cons_zero, List.getElem?_cons_succ, Option.some.injEq] at ho
        subst ho
        intro a W' vs hB hS hE hU
        refine wpG_plain rfl ?_
        obtain ⟨⟨y, hy, ⟨ax, nx, cx, rfl⟩, r4⟩, e27⟩ := hE 4 27 (by kernel_rfl) (by kernel_rfl)
        have v27 : a.eval (.tmp 27) = .agg #[encStr x.1, .slice ax nx cx] := e27.trans hy
        clear hE hU
        have hfa : Fr (fun _ => False) W' (W'.alloc (.cells #[encStr x.1, .slice ax nx cx] 73)) := (Fr.refl _ _).alloc _
        exact wp_value_inv (w' := W'.alloc (.cells #[encStr x.1, .slice ax nx cx] 73)) (.slice (some ⟨W'.heap.size, 0, none⟩) 1 1) (op_rows rfl (vs := #[(0, .agg #[encStr x.1, .slice ax nx cx])]) (by simp only [List.map_toArray, List.map_cons, List.map_nil, v27]) (row_one W' _ _ _ _)) ⟨_, rfl, hB.trans hfa (fun _ h => h.elim), hfa, ⟨W'.heap.size, .slice ax nx cx, rfl, heap_alloc_new W' _, ⟨ax, nx, cx, rfl⟩, r4.keep hfa (fun _ _ _ h => h)⟩, fun _ _ _ _ _ => trivial⟩
    case tail =>
      intro vs Wa hB0 hR0 hD
      have r0 : vs 0 = .slice av lr.length cv := hR0 0 (by decide)
      obtain ⟨g, y, r5, hgr, ⟨ax, nx, cx, rfl⟩, hyb⟩ := hR0 5 (by decide)
      have HB := Lib.hid (And.intro hB0 (And.intro hgr hyb))
      have HR := Lib.hid (And.intro r0 r5)
      clear hR0 hD hB0 hgr hyb r0 r5
      simp only [acts, if_true, dstAt, List.getElem?_cons_zero, List.getElem?_cons_succ, Option.bind_some, Act.put, List.setIfInBounds_toArray, List.set_cons_succ, List.set_cons_zero, List.drop_succ_cons, List.drop_zero]
      rw [HR.out.1, HR.out.2]
      obtain ⟨i0, hi0⟩ : ∃ i, Try.prog.info? 73 = some i := by
        cases hh : Try.prog.info? 73 with
        | none => have := infoRow; rw [hh] at this; cases this
        | some i => exact ⟨i, rfl⟩
      obtain ⟨v2, W2, hrun, ho2, hg2, hv2⟩ := run_append_e (i0 := i0) (T := 73) (ST := 63) Try.underlying63 infoRow rfl (by decide) (by decide) (z := W0.heap.size) Wa 63 (.slice av lr.length cv) (.slice (some ⟨g, 0, none⟩) 1 1) (lr.map rowC) [[encStr x.1, .slice ax nx cx]] (HX.out.2.2.2.2.1.own.keep HB.out.1 (fun _ _ h => h)) (Elems.ofBlock HB.out.2.1 rfl) (fun c hc u hu => by
        rw [List.mem_singleton.1 hc] at hu
        simp only [List.mem_cons, List.not_mem_nil, or_false] at hu
        rcases hu with rfl | rfl <;> rfl) (Nat.le_trans HX.out.2.2.2.2.2.2.2 HB.out.1.size) (by have := HX.out.2.2.2.2.2.1; have h1 := congrArg List.length this; simp at h1; simp; have := HPL.out; omega)
      obtain ⟨a2, c2, rfl⟩ := ho2.form
      have hLen : (lr.map rowC ++ [[encStr x.1, .slice ax nx cx]]).length = lr.length + 1 := by simp
      rw [hLen] at ho2 hrun hv2
      have hfo : Fr (fun k => (Value.slice av lr.length cv).ownBlock = some k) Wa W2 := (Fr.refl _ Wa).grown hg2 (fun k hk => .inl hk)
      have hog := HX.out.2.2.2.2.1.own.own
      have hzW := HX.out.2.2.2.2.2.2.2
      have hzA := HB.out.1.size
      have hbt2 : W2.heap[w.heap.size]? = some (.cells #[.slice av lr.length cv] 63 (0, 0)) := hfo.heap (HB.out.1.heap HX.out.2.2.2.1 id) (fun e => by have := hog _ e; omega)
      have hcl2 : W2.cell? ⟨w.heap.size, 0, none⟩ = some (.slice av lr.length cv) := cell_of_one hbt2
      have hfz2 : W2.frozen? ⟨w.heap.size, 0, none⟩ = false := frozen_of_row _ _ _ _ _ hbt2
      have hA := HX.out.2.2.2.2.1.keep HB.out.1 (fun _ _ h => h) (fun _ _ _ h => h)
      have hR2 := hA.snoc (p := ⟨⟨x.1.toArray⟩, .slice ax nx cx, getV x⟩) (HB.out.2.2.mono (fun k _ hk => ⟨Nat.le_trans hzW hk, fun e => by have := hog k e; omega⟩)) rfl ho2 hg2 hv2
      have H2 := Lib.hid (And.intro hR2 (And.intro hfo (And.intro hbt2 hog)))
      refine wpListIn_value (.round l) rfl (fun c h => by cases h) _ W2 (op_append9 rfl rfl rfl hrun) ?_
      clear hfo hog hzW hzA hbt2 hA hR2 hrun ho2 hg2 hv2
      simp only [Act.put, List.setIfInBounds_toArray, List.set_cons_succ, List.set_cons_zero]
      gi_wp2
      obtain ⟨hR2, hfo, hbt2, hog⟩ := H2.out
      have hfp : Fr (fun k => k = w.heap.size) W2 (W2.setCell ⟨w.heap.size, 0, none⟩ (.slice a2 (lr.length + 1) c2)) := Fr.cell1 W2 _ 0 _
      have hall : Fr (fun k => (Value.slice av lr.length cv).ownBlock = some k ∨ k = w.heap.size) W (W2.setCell ⟨w.heap.size, 0, none⟩ (.slice a2 (lr.length + 1) c2)) := ((HB.out.1.mono (T := fun k => (Value.slice av lr.length cv).ownBlock = some k ∨ k = w.heap.size) (fun _ _ h => h.elim)).trans hfo (fun k hk => .inl (.inl hk))).trans hfp (fun k hk => .inl (.inr hk))
      have hcells : ∀ k, ((Value.slice av lr.length cv).ownBlock = some k ∨ k = w.heap.size) → ∃ cs T fr, W.heap[k]? = some (.cells cs T fr) ∧ T ≠ 9 := fun k hk => by
        rcases hk with hk | rfl
        · rcases HX.out.2.2.2.2.1.own.row.2 with ⟨hv, _⟩ | ⟨g', cap, cur, hv, hb, hg', _⟩
          · rw [hv] at hk; simp [Value.ownBlock] at hk
          · rw [hv] at hk
            simp only [Value.ownBlock, Option.some.injEq] at hk
            exact ⟨_, _, _, hk ▸ hg', by decide⟩
        · exact ⟨_, _, _, HX.out.2.2.2.1, by decide⟩
      have hzW := HX.out.2.2.2.2.2.2.2
      have hml := HX.out.2.2.2.2.2.1
      refine ⟨⟨hall.size, fun k o _ hk hc => hall.heap hk (fun hs => ?_)⟩, KpV.of hall (fun k _ hs => ?_) (fun k hk hs => ?_), ⟨⟨_, _, cell_put _ hbt2, hR2.keep_ hfp (fun g hg e => ?_) (fun k _ (hk : W0.heap.size ≤ k) (e : k = w.heap.size) => by omega), ?_⟩, HX.out.2.2.2.2.2.2.1.trans hall (fun k hs => .inl ?_)⟩⟩
      · obtain ⟨cs, T', fr, h1, _⟩ := hcells k hs
        rw [h1] at hk
        cases hk
        cases hc
      · rcases hs with hs | hs
        · exact hT0 k (hog k hs).1
        · rw [hT]; exact .inl hs
      · obtain ⟨cs, T', fr, h1, h2⟩ := hcells k hs
        obtain ⟨cs', fr', s', h3, _⟩ := hk
        rw [h1] at h3
        simp only [Option.some.injEq, Obj.cells.injEq] at h3
        exact h2 h3.2.1
      · have := hR2.own.own g hg
        have e2 : g = w.heap.size := e
        omega
      · rw [List.map_append, List.map_append, hml]
        simp [RowD.row, rowV]
      · rcases hs with hs | hs
        · exact hT0 k (hog k hs).1
        · rw [hT]; exact .inl hs
  case done =>
    rintro Dl ys W hD rfl hi hK
    obtain ⟨⟨v, lr, hb, ho, hm⟩, hfr⟩ := hi
    have hcell : W.cell? ⟨w.heap.size, 0, none⟩ = some v := cell_of_one hb
    have HX := Lib.hid (And.intro ho (And.intro hm hfr))
    have HHK := Lib.hid hK
    clear ho hm hfr hb hK
    gi_wp2
    refine ⟨by simp, .inl ⟨_, _, rfl, run_takeDeferred HHK.out, ?_⟩⟩
    have hfd := fr_putObj (T := (· = Dl)) W Dl (.deferred none) rfl
    have hn : ∀ k, k = Dl → ∀ cs T fr, W.heap[k]? ≠ some (.cells cs T fr) := fun k hk cs T' fr e => by
      rw [hk, HHK.out] at e
      cases e
    have hO := HX.out.1.keepN (S := (· = Dl)) hfd hn
    refine ⟨_, results_tmp rfl _ _ _, v, lr, rfl, ⟨hO.own.lower (by omega), fun p hp => (hO.bytes p hp).mono (fun k _ hk => ⟨by have h1 : W0.heap.size ≤ k := hk.1; show w.heap.size ≤ k; omega, hk.2⟩), hO.one⟩, by rw [HX.out.2.1]; exact rowsV_map (h.nk.ok who).1 _, ?_⟩
    refine (hf0.trans (S := fun _ => False) HX.out.2.2 (fun k hk => ?_)).trans hfd (fun k (hk : k = Dl) => .inr (by omega))
    rw [hT] at hk
    rcases hk with hk | hk
    · exact .inr (by omega)
    · exact .inr (by omega)
  case stop =>
    rintro Dl c pre W _ _ h _
    exact h.elim
end
end Go.Proofs.Yteockhemeneioaa
namespace Go.Proofs.Yteockhemeneioaa
open Go.RowKit Go.ChangeShapes
set_option linter.unusedVariables false
theorem str_ne {x N : ByteArray} (h : ¬ x = N) : (x.toList == N.toList) = false := by
  rw [Go.ByteArray.toList_eq, Go.ByteArray.toList_eq, beq_eq_false_iff_ne]
  intro e
  apply h
  obtain ⟨⟨a⟩⟩ := x
  obtain ⟨⟨b⟩⟩ := N
  exact congrArg (fun l => (⟨⟨l⟩⟩ : ByteArray)) e
def findB : List ByteArray → ByteArray → Int
  | [], _ => -1
  | x :: l, N => if x = N then 0 else (if findB l N < 0 then -1 else findB l N + 1)
theorem findB_stop : ∀ (l : List ByteArray) (N : ByteArray) (i : Nat) (h : i < l.length), (∀ j (hj : j < i), l[j]'(Nat.lt_trans hj h) ≠ N) → l[i] = N → findB l N = (i : Int)
  | x :: l, N, 0, h, _, e => by
    have e' : x = N := e
    simp [findB, e']
  | x :: l, N, i + 1, h, hj, e => by
    have h0 : x ≠ N := hj 0 (by omega)
    have ih := findB_stop l N i (by simpa using h) (fun j hj' => hj (j + 1) (by omega)) e
    simp only [findB, if_neg h0]
    rw [ih, if_neg (by omega)]
    rfl
theorem findB_none : ∀ (l : List ByteArray) (N : ByteArray), (∀ j (hj : j < l.length), l[j] ≠ N) → findB l N = -1
  | [], N, _ => rfl
  | x :: l, N, hj => by
    have h0 : x ≠ N := hj 0 (by simp)
    have ih := findB_none l N (fun j hj' => hj (j + 1) (by simpa using hj'))
    simp [findB, h0, ih]
structure NamesAt (z : Nat) (w : World) (v : Value) (l : List ByteArray) : Prop where
  ex : ∃ ao cap b off, v = .slice ao l.length cap ∧ (l.length ≤ cap ∧ cap ≤ 9223372036854775807) ∧ (0 < l.length → ao = some ⟨b, off, none⟩) ∧ ∀ i (h : i < l.length), w.cell? ⟨b, off + i * z, none⟩ = some (.string l[i])
theorem NamesAt.quiet {z : Nat} {w w' : World} {v : Value} {l : List ByteArray} (h : NamesAt z w v l) (hf : Fr (fun _ => False) w w') : NamesAt z w' v l := by
  obtain ⟨ao, cap, b, off, h1, hc, h2, h3⟩ := h.ex
  exact ⟨ao, cap, b, off, h1, hc, h2, fun i hi => hf.cell (h3 i hi) id⟩
theorem names_of {k : Nat} {F : Nat → Prop} {w : World} {v : Value} {css : List (List Value)} {l : List ByteArray} (h : Elems k F w v css) (hk : 0 < k) (hl : css.length = l.length) (hc : ∀ i (h1 : i < css.length) (h2 : i < l.length), css[i][0]? = some (.string l[i])) : NamesAt k w v l := by
  obtain ⟨ao, cap, hv, h1, h2, h3, h4⟩ := h
  by_cases he : css = []
  · subst he
    have hl0 : l = [] := List.length_eq_zero_iff.1 (by simpa using hl.symm)
    subst hl0
    exact ⟨ao, cap, 0, 0, hv, ⟨h1, h2⟩, fun h => by simp at h, fun i h => by simp at h⟩
  · obtain ⟨b, off, hao, hb, hi⟩ := h4 he
    refine ⟨ao, cap, b, off, by rw [← hl]; exact hv, ⟨by rw [← hl]; exact h1, h2⟩, fun _ => hao, fun i hil => ?_⟩
    have := hi i (by rw [hl]; exact hil) 0 hk
    rw [Nat.add_zero] at this
    rw [this]
    exact hc i (by rw [hl]; exact hil) hil
section
set_option maxRecDepth 100000
set_option maxHeartbeats 2000000
theorem find_any (w : World) (v : Value) (l : List ByteArray) (N : ByteArray) (h : NamesAt 22 w v l) :
    Calls Try.prog 27 #[v, .string N] w fun e w' => e = .returned (.int .i64 (findB l N)) ∧ Fr (fun _ => False) w w' := by
  obtain ⟨ao, cap, b, off, rfl, ⟨hc1, hc2⟩, hao, hi⟩ := h.ex
  obtain ⟨n, hn⟩ : ∃ n, n = l.length := ⟨_, rfl⟩
  rw [← hn] at hao hc1 ⊢
  have HI := Lib.hid hi
  have HN := Lib.hid hn
  have HAO := Lib.hid hao
  obtain ⟨R, hR⟩ : ∃ R, R = findB l N := ⟨_, rfl⟩
  rw [← hR]
  have HR := Lib.hid hR
  clear hi hn hao hR h
  go_enter Try.func27, Try.ntmps27
  go_wp2
  go_loopw [5] (fun iv wr => ∃ (i : Nat), i ≤ n ∧ iv = .int .i64 i ∧ Hid (Fr (fun _ => False) w wr ∧ ∀ j (hj : j < l.length), j < i → l[j] ≠ N)) (fun iv _ => n - (intOf iv).toNat)
  case atStart => exact ⟨0, by omega, rfl, Lib.hid ⟨Fr.refl _ _, fun j _ h => absurd h (Nat.not_lt_zero _)⟩⟩
  case round =>
    obtain ⟨i, hi, rfl, hf⟩ := hrel
    by_cases hlt : i < n
    · have hiL : i < l.length := by have := HN.out; omega
      obtain rfl := HAO.out (by omega)
      have c0 := hf.out.1.cell (HI.out i hiL) id
      obtain ⟨x, hx⟩ : ∃ x, x = l[i] := ⟨_, rfl⟩
      rw [← hx] at c0
      have hi64 : (i : Int) < (n : Int) := by omega
      have HX := Lib.hid hx
      clear hx
      by_cases he : x = N
      · subst he
        have hRe : R = (i : Int) := by
          rw [HR.out]
          exact findB_stop l _ i hiL (fun j hj => hf.out.2 j (Nat.lt_trans hj hiL) hj) HX.out.symm
        have HF := Lib.hid hf.out.1
        clear hf
        subst hRe
        go_wp2
        go_ret
        exact ⟨rfl, HF.out⟩
      · have hne := str_ne he
        go_wp2
        go_roundw
        case rel => exact ⟨i + 1, by omega, by go_num, Lib.hid ⟨hf.out.1, fun j hj hji => by
          by_cases e : j = i
          · subst e; rw [← HX.out]; exact he
          · exact hf.out.2 j hj (by omega)⟩⟩
        case measure => simp [intOf]; omega
    · obtain rfl : i = n := by omega
      have hRe : R = -1 := by
        rw [HR.out]
        exact findB_none l N (fun j hj => hf.out.2 j hj (by rw [HN.out]; exact hj))
      have HF := Lib.hid hf.out.1
      subst hRe
      go_wp2
      go_ret
      exact ⟨rfl, HF.out⟩
theorem line_any (w : World) (v : Value) (l : List ByteArray) (N : ByteArray) (h : NamesAt 2 w v l) :
    Calls Try.prog 28 #[v, .string N] w fun e w' => e = .returned (.int .i64 (findB l N)) ∧ Fr (fun _ => False) w w' := by
  obtain ⟨ao, cap, b, off, rfl, ⟨hc1, hc2⟩, hao, hi⟩ := h.ex
  obtain ⟨n, hn⟩ : ∃ n, n = l.length := ⟨_, rfl⟩
  rw [← hn] at hao hc1 ⊢
  have HI := Lib.hid hi
  have HN := Lib.hid hn
  have HAO := Lib.hid hao
  obtain ⟨R, hR⟩ : ∃ R, R = findB l N := ⟨_, rfl⟩
  rw [← hR]
  have HR := Lib.hid hR
  clear hi hn hao hR h
  go_enter Try.func28, Try.ntmps28
  go_wp2
  go_loopw [5] (fun iv wr => ∃ (i : Nat), i ≤ n ∧ iv = .int .i64 i ∧ Hid (Fr (fun _ => False) w wr ∧ ∀ j (hj : j < l.length), j < i → l[j] ≠ N)) (fun iv _ => n - (intOf iv).toNat)
  case atStart => exact ⟨0, by omega, rfl, Lib.hid ⟨Fr.refl _ _, fun j _ h => absurd h (Nat.not_lt_zero _)⟩⟩
  case round =>
    obtain ⟨i, hi, rfl, hf⟩ := hrel
    by_cases hlt : i < n
    · have hiL : i < l.length := by have := HN.out; omega
      obtain rfl := HAO.out (by omega)
      have c0 := hf.out.1.cell (HI.out i hiL) id
      obtain ⟨x, hx⟩ : ∃ x, x = l[i] := ⟨_, rfl⟩
      rw [← hx] at c0
      have hi64 : (i : Int) < (n : Int) := by omega
      have HX := Lib.hid hx
      clear hx
      by_cases he : x = N
      · subst he
        have hRe : R = (i : Int) := by
          rw [HR.out]
          exact findB_stop l _ i hiL (fun j hj => hf.out.2 j (Nat.lt_trans hj hiL) hj) HX.out.symm
        have HF := Lib.hid hf.out.1
        clear hf
        subst hRe
        go_wp2
        go_ret
        exact ⟨rfl, HF.out⟩
      · have hne := str_ne he
        go_wp2
        go_roundw
        case rel => exact ⟨i + 1, by omega, by go_num, Lib.hid ⟨hf.out.1, fun j hj hji => by
          by_cases e : j = i
          · subst e; rw [← HX.out]; exact he
          · exact hf.out.2 j hj (by omega)⟩⟩
        case measure => simp [intOf]; omega
    · obtain rfl : i = n := by omega
      have hRe : R = -1 := by
        rw [HR.out]
        exact findB_none l N (fun j hj => hf.out.2 j hj (by rw [HN.out]; exact hj))
      have HF := Lib.hid hf.out.1
      subst hRe
      go_wp2
      go_ret
      exact ⟨rfl, HF.out⟩
end
end Go.Proofs.Yteockhemeneioaa
