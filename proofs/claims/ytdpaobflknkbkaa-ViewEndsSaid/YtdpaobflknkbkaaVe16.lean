/- Laid together: VNotes VNew -/
import Derived.Test.YtdpaobflknkbkaaVe14
import Derived.Test.YtdpaobflknkbkaaVe15
import Derived.Test.YtdpaobflknkbkaaVe13

namespace Go.Proofs.Ytdpaobflknkbkaa
open Go.RowKit Go.ChangeShapes Go.Maps Go.WideMaps
set_option linter.unusedVariables false
attribute [local go_sem] Oper.semAt_some
structure RowD where
  key : ByteArray
  x : Value
  B : List UInt8
def rowC (p : RowD) : List Value := [.string p.key, p.x]
def RowD.row (p : RowD) : Bs × Bs := (p.key.data.toList, p.B)
structure RwsIn (F : Nat → Prop) (w : World) (v : Value) (l : List RowD) : Prop where
  el : Elems 2 F w v (l.map rowC)
  bytes : ∀ p ∈ l, BytesIn F w p.x p.B
theorem RwsIn.keep {F S : Nat → Prop} {w w' : World} {v : Value} {l : List RowD} (h : RwsIn F w v l) (hf : Fr S w w') (hd : ∀ b, b < w.heap.size → F b → ¬ S b) : RwsIn F w' v l := ⟨h.el.keep hf hd, fun p hp => (h.bytes p hp).keep hf hd⟩
theorem infoRow : (Try.prog.info? 73).map (fun i => (i.zero, i.size, i.bytes)) = some (some (.agg #[.string ⟨#[]⟩, .slice none 0 0]), 2, 40) := by kernel_rfl
structure OwnR (F : Nat → Prop) (z : Nat) (w : World) (v : Value) (l : List RowD) : Prop where
  own : OwnE 73 2 z w v (l.map rowC)
  ownb : ∀ p ∈ l, OwnB (fun k => F k ∧ v.ownBlock ≠ some k) w p.x p.B
  one : ∀ p ∈ l, p.x.oneCell' = true
theorem OwnR.bytes {F : Nat → Prop} {z : Nat} {w : World} {v : Value} {l : List RowD} (h : OwnR F z w v l) : ∀ p ∈ l, BytesIn (fun k => F k ∧ v.ownBlock ≠ some k) w p.x p.B := fun p hp => (h.ownb p hp).bytes
theorem OwnR.nil (F : Nat → Prop) (z : Nat) (w : World) : OwnR F z w (.slice none 0 0) [] := ⟨OwnE.nil _ _ _ _, (fun _ h => by cases h), (fun _ h => by cases h)⟩
theorem OwnR.form {F : Nat → Prop} {z : Nat} {w : World} {v : Value} {l : List RowD} (h : OwnR F z w v l) : ∃ ao c, v = .slice ao l.length c := by
  obtain ⟨ao, c, hv⟩ := h.own.form
  rw [List.length_map] at hv
  exact ⟨ao, c, hv⟩
theorem OwnR.rws {F : Nat → Prop} {z : Nat} {w : World} {v : Value} {l : List RowD} (h : OwnR F z w v l) (hF : ∀ k, z ≤ k → F k) : RwsIn F w v l :=
  ⟨h.own.elems.mono (by decide) (fun k _ e => hF k (h.own.own k e).1), fun p hp => (h.bytes p hp).mono (fun _ _ h => h.1)⟩
theorem OwnR.keep_ {F S : Nat → Prop} {z : Nat} {w w' : World} {v : Value} {l : List RowD} (h : OwnR F z w v l) (hf : Fr S w w') (hd : ∀ g, v.ownBlock = some g → ¬ S g) (hF : ∀ k, k < w.heap.size → F k → ¬ S k) : OwnR F z w' v l := ⟨h.own.keep hf hd, fun p hp => (h.ownb p hp).keep hf (fun k hk hh => hF k hk hh.1), h.one⟩
theorem OwnR.snoc {F : Nat → Prop} {z : Nat} {w w2 : World} {v v2 : Value} {l : List RowD} {p : RowD} (h : OwnR F z w v l) (hp : OwnB (fun k => F k ∧ v.ownBlock ≠ some k) w p.x p.B) (h1 : p.x.oneCell' = true) (ho : OwnE 73 2 z w2 v2 (l.map rowC ++ [rowC p])) (hg : w.grownBy w2 v.ownBlock) (hv : v2.ownBlock = v.ownBlock ∨ v2.ownBlock = some w.heap.size) : OwnR F z w2 v2 (l ++ [p]) := by
  have hf : Fr (fun k => v.ownBlock = some k) w w2 := (Fr.refl _ w).grown hg (fun k hk => .inl hk)
  have hne : ∀ k, k < w.heap.size → v.ownBlock ≠ some k → v2.ownBlock ≠ some k := fun k hk hne e => by
    rcases hv with hv | hv
    · exact hne (hv ▸ e)
    · rw [hv] at e; have := Option.some.inj e; omega
  refine ⟨by rw [List.map_append]; exact ho, fun q hq => ?_, fun q hq => ?_⟩
  · have hq2 : OwnB (fun k => (F k ∧ v.ownBlock ≠ some k) ∧ k < w.heap.size) w q.x q.B := by
      rcases List.mem_append.1 hq with hq | hq
      · exact (h.ownb q hq).mono (fun k hk hh => ⟨hh, hk⟩)
      · rw [List.mem_singleton.1 hq]
        exact hp.mono (fun k hk hh => ⟨hh, hk⟩)
    exact (hq2.keep hf (fun k _ hh e => hh.1.2 e)).mono (fun k _ hh => ⟨hh.1.1, hne k hh.2 hh.1.2⟩)
  · rcases List.mem_append.1 hq with hq | hq
    · exact h.one q hq
    · rw [List.mem_singleton.1 hq]; exact h1
theorem cells_of_cell6 {w : World} {p : Addr} {u : Value} (h : w.cell? p = some u) : ∃ cs T fr, w.heap[p.block]? = some (.cells cs T fr) := by
  unfold World.cell? at h
  split at h
  · next cs T fr e => exact ⟨cs, T, fr, e⟩
  · cases h
theorem BytesIn.keepN {F S : Nat → Prop} {w w' : World} {v : Value} {L : List UInt8} (h : BytesIn F w v L) (hf : Fr S w w') (hn : ∀ k, S k → ∀ cs T fr, w.heap[k]? ≠ some (.cells cs T fr)) : BytesIn F w' v L := by
  obtain ⟨ao, cap, rfl, h1, hm, h2, h3⟩ := h
  refine ⟨ao, cap, rfl, h1, hm, h2, fun a ha => ⟨fun j u hu => ?_, (h3 a ha).2⟩⟩
  have hc := (h3 a ha).1 j u hu
  have hns : ¬ S (a.add j).block := fun hs => by
    obtain ⟨cs, T, fr, hb⟩ := cells_of_cell6 hc
    exact hn _ hs _ _ _ hb
  exact hf.cell hc hns
theorem OwnB.keepN {F S : Nat → Prop} {w w' : World} {v : Value} {L : List UInt8} (h : OwnB F w v L) (hf : Fr S w w') (hn : ∀ k, S k → ∀ cs T fr, w.heap[k]? ≠ some (.cells cs T fr)) : OwnB F w' v L := by
  refine ⟨⟨h.1.1, ?_⟩, h.2⟩
  rcases h.1.2 with e | ⟨g, cap, cur, hv, hb, hg, r⟩
  · exact .inl e
  · exact .inr ⟨g, cap, cur, hv, hb, hf.heap hg (fun hs => hn g hs _ _ _ hg), r⟩
theorem OwnR.keepN {F S : Nat → Prop} {z : Nat} {w w' : World} {v : Value} {l : List RowD} (h : OwnR F z w v l) (hf : Fr S w w') (hn : ∀ k, S k → ∀ cs T fr, w.heap[k]? ≠ some (.cells cs T fr)) : OwnR F z w' v l := by
  refine ⟨⟨⟨h.own.row.1, ?_⟩, h.own.each⟩, fun p hp => (h.ownb p hp).keepN hf hn, h.one⟩
  rcases h.own.row.2 with e | ⟨g, cap, cur, hv, hb, hg, r⟩
  · exact .inl e
  · exact .inr ⟨g, cap, cur, hv, hb, hf.heap hg (fun hs => hn g hs _ _ _ hg), r⟩
theorem OwnR.keep {F S : Nat → Prop} {z : Nat} {w w' : World} {v : Value} {l : List RowD} (h : OwnR F z w v l) (hf : Fr S w w') (hd : ∀ g, v.ownBlock = some g → ¬ S g) (hF : ∀ k, k < w.heap.size → F k → ¬ S k) : OwnR F z w' v l := ⟨h.own.keep hf hd, fun p hp => (h.ownb p hp).keep hf (fun k hk hh => hF k hk hh.1), h.one⟩
structure AccR (T : Nat → Prop) (n0 Bt : Nat) (W0 : World) (pre : List (Bs × Bs)) (W : World) : Prop where
  ex : ∃ v l, W.heap[Bt]? = some (.cells #[v] 63 (0, 0)) ∧ OwnR (fun k => n0 ≤ k) n0 W v l ∧ l.map RowD.row = pre
  fr : Fr T W0 W
theorem ownFrom_acc {β : Type} {T : Nat → Prop} {n0 Bt : Nat} {W0 : World} (f : β → List (Bs × Bs)) (hT : ∀ k, n0 ≤ k → T k) : OwnFrom n0 (fun (s : β) W => AccR T n0 Bt W0 (f s) W) := fun s A B row h hg hr => by
  obtain ⟨v, l, h1, h2, h3⟩ := h.ex
  have hf : Fr (fun k => row = some k) A B := (Fr.refl _ A).grown hg (fun k hk => .inl hk)
  have hn : ∀ k, row = some k → ∀ cs T fr, A.heap[k]? ≠ some (.cells cs T fr) := fun k hk cs T' fr e => by
    obtain ⟨_, o, ho, hc⟩ := hr k hk
    rw [e] at ho
    cases ho
    cases hc
  exact ⟨⟨v, l, hf.heap h1 (fun hs => hn _ hs _ _ _ h1), h2.keepN hf hn, h3⟩, h.fr.trans hf (fun k hk => .inl (hT k (hr k hk).1))⟩
def ClR (W : World) (b : Bs) (w : World) (x : Value) : Prop := (∃ a n c, x = .slice a n c) ∧ OwnB (fun k => W.heap.size ≤ k) w x b
def RowReg (vacc : Value) (key : ByteArray) (x0 : Value) (b : Bs) (W : World) (i : Nat) (v : Value) (w : World) : Prop :=
  match i with
  | 0 => v = vacc
  | 1 => v = .string key
  | 2 => v = x0
  | 3 => ClR W b w v
  | 4 => ∃ x, v = .agg #[.string key, x] ∧ ClR W b w x
  | 5 => ∃ g x, v = .slice (some ⟨g, 0, none⟩) 1 1 ∧ w.heap[g]? = some (.cells #[.string key, x] 73 (0, 0)) ∧ ClR W b w x
  | _ => True
theorem ClR.ext {W : World} {b : Bs} {w w' : World} {x : Value} (h : ClR W b w x) (hf : Fr (fun _ => False) w w') : ClR W b w' x := ⟨h.1, h.2.keep hf (fun _ _ _ h => h)⟩
theorem RowReg.ext (vacc : Value) (key : ByteArray) (x0 : Value) (b : Bs) (W : World) : ∀ (j : Nat) (u : Value) (w w' : World), Fr (fun _ => False) w w' → RowReg vacc key x0 b W j u w → RowReg vacc key x0 b W j u w'
  | 0, u, w, w', hf, h => h
  | 1, u, w, w', hf, h => h
  | 2, u, w, w', hf, h => h
  | 3, u, w, w', hf, h => ClR.ext h hf
  | 4, u, w, w', hf, h => by obtain ⟨x, h1, h2⟩ := h; exact ⟨x, h1, h2.ext hf⟩
  | 5, u, w, w', hf, h => by obtain ⟨g, x, h1, h2, h3⟩ := h; exact ⟨g, x, h1, hf.heap h2 id, h3.ext hf⟩
  | _ + 6, u, w, w', hf, h => trivial
theorem row_built (N : ByteArray) (a : Option Addr) (n c : Nat) : Try.prog.built 73 #[(0, Value.string N), (1, .slice a n c)].toList = some #[.string N, .slice a n c] := by kernel_rfl
theorem row_one (w : World) (N : ByteArray) (a : Option Addr) (n c : Nat) : (Instr.buildSlice 63 1 #[(0, .agg #[.string N, .slice a n c])]).run Try.prog w = .ok (.slice (some ⟨w.heap.size, 0, none⟩) 1 1) (w.alloc (.cells #[.string N, .slice a n c] 73)) := by kernel_rfl
section
variable {F : Nat → Prop} {w : World} {A : VA} {n : Nat} {s : VS}
set_option maxRecDepth 100000 in
set_option maxHeartbeats 4000000 in
theorem vNotes_in (h : VwAt F w A n s) (hF : ∀ k, F k → k < w.heap.size) (hn : n ≤ 100000) (who : Int) (hu : isUser s who) (P : ByteArray) :
    CallsIn Fence.wide 3 Try.prog 26 #[.pointer (some ⟨A.vb, 0, none⟩), .int .i64 who, .string P] w fun e w' => ∃ v l, e = .returned v ∧ OwnR (fun k => w.heap.size ≤ k) w.heap.size w' v l ∧ l.map RowD.row = (s.N who).filter (fun p => Lib.hasPrefix p.1 P.data.toList) ∧ Fr (fun _ => False) w w' := by
  refine callsIn_of_wp_marks Try.func26 rfl trivial ?_ rfl
  simp only [Try.ntmps26, List.size_toArray, List.length_cons, List.length_nil, Nat.reduceAdd, Nat.reduceSub, Array.replicate_succ, Array.replicate_zero, List.push_toArray, List.append_toArray, List.nil_append, List.cons_append]
  have HS := Lib.hid (WideF.out.calls (n := 2) (ready_yes h who hu))
  obtain ⟨w1, hw1⟩ : ∃ w1, w1 = w.alloc (.cells #[.slice none 0 0] 63) := ⟨_, rfl⟩
  have hord := WideF.out.calls (n := 2) (ofN_any w1 A.nb who P)
  rw [hw1] at hord
  have hf1 : Fr (fun _ => False) w w1 := by rw [hw1]; exact (Fr.refl _ _).alloc _
  have c1 := (h.quiet hf1).ptrs.2
  rw [hw1] at c1
  have HO := Lib.hid hord
  clear hord
  gi_wp2_with (first
    | (refine ⟨trivial, ?_⟩; gi_at_call 51; refine HS.out.mono ?_; rintro e w2 ⟨rfl, hw2⟩; (obtain rfl : w = w2 := hw2.symm))
    | (refine ⟨trivial, ?_⟩; gi_at_call 62; refine HO.out.mono ?_; rintro e w2 ⟨rfl, rfl⟩))
  have hlt := h.nk.lt
  obtain ⟨W0, hW0⟩ : ∃ W0, W0 = (((w.alloc (.cells #[.slice none 0 0] 63)).alloc (.cells #[.pointer (some ⟨A.nb, 0, none⟩)] 80)).alloc (.cells #[.int .i64 who] 3)).alloc (.cells #[.string P] 9) := ⟨_, rfl⟩
  have hsz : W0.heap.size = w.heap.size + 4 := by rw [hW0]; simp
  have hf0 : Fr (fun _ => False) w W0 := by rw [hW0]; exact ((((Fr.refl _ _).alloc _).alloc _).alloc _).alloc _
  have hbt : W0.heap[w.heap.size]? = some (.cells #[.slice none 0 0] 63 (0, 0)) := by
    rw [hW0]
    exact ((((Fr.refl (fun _ => False) _).alloc _).alloc _).alloc _).heap (heap_alloc_new w _) id
  have hb1 : W0.heap[w.heap.size + 1]? = some (.cells #[.pointer (some ⟨A.nb, 0, none⟩)] 80 (0, 0)) := by
    rw [hW0]
    exact (((Fr.refl (fun _ => False) _).alloc _).alloc _).heap (heap_alloc2_new w _ _) id
  have hb2 : W0.heap[w.heap.size + 1 + 1]? = some (.cells #[.int .i64 who] 3 (0, 0)) := by
    rw [hW0]
    have := ((Fr.refl (fun _ => False) _).alloc (.cells #[.string P] 9)).heap (heap_alloc2_new (w.alloc (.cells #[.slice none 0 0] 63)) (.cells #[.pointer (some ⟨A.nb, 0, none⟩)] 80) (.cells #[.int .i64 who] 3)) id
    simpa using this
  have hb3 : W0.heap[w.heap.size + 1 + 2]? = some (.cells #[.string P] 9 (0, 0)) := by
    rw [hW0]
    have := heap_alloc2_new ((w.alloc (.cells #[.slice none 0 0] 63)).alloc (.cells #[.pointer (some ⟨A.nb, 0, none⟩)] 80)) (.cells #[.int .i64 who] 3) (.cells #[.string P] 9)
    simpa using this
  rw [← hW0]
  have hw := user_wf h.ok hu
  obtain ⟨D, val, hown, hval⟩ := h.nk.th.vals who hw (h.nk.ok who).2.2
  obtain ⟨T, hT⟩ : ∃ T : Nat → Prop, T = fun b => b = w.heap.size ∨ W0.heap.size ≤ b := ⟨_, rfl⟩
  have hT0 : ∀ k, W0.heap.size ≤ k → T k := fun k hk => by rw [hT]; exact .inr hk
  have hTn : ∀ k, k ≠ w.heap.size → k < W0.heap.size → ¬ T k := fun k h1 h2 h3 => by rw [hT] at h3; rcases h3 with h3 | h3 <;> omega
  have hIt : ItN F A.nb A.tn A.mn n s.N who P (w.heap.size + 1) (w.heap.size + 1 + 1) (w.heap.size + 1 + 2) D W0 :=
    ⟨cell_of_row _ _ _ _ _ _ hb1, cell_of_row _ _ _ _ _ _ hb2, cell_of_row _ _ _ _ _ _ hb3, h.nk.quiet hf0, ownsMap_kept9 hown hf0 id⟩
  have hFT : ∀ k, F k → ¬ T k := fun k hk => hTn k (by have := hF k hk; omega) (by have := hF k hk; omega)
  have hKb : ∀ (W : World) (l : Nat) (o o' : Obj), W0.heap.size ≤ l → W.heap[l]? = some o → o.isCells = false → o.isWalk = false → KpV T W (W.putObj l o') := fun W l o o' hl ho hc _ =>
    KpV.of (S := (· = l)) (fr_putObj W l o' rfl) (fun k _ (e : k = l) => by rw [e]; exact hT0 l hl) (fun k hk (e : k = l) => by
      obtain ⟨cs, fr, s, h1, _⟩ := hk
      rw [e, ho] at h1
      cases h1
      cases hc)
  have HV0 := fun (x : KeyV (s.N who)) (hf0 : Fr (fun _ => False) w W0) => ((hval x.1 (getV x) (getV_eq x)).2.1.keep hf0 (fun _ _ _ h => h) : BytesIn F W0 (val x.1) (getV x))
  have HV1 := fun (x : KeyV (s.N who)) => ((hval x.1 (getV x) (getV_eq x)).2.2 : (getV x).length ≤ 2048)
  have HPK : (vKeys (s.N who) P.data.toList).length ≤ 100000 := by
    have h1 := vKeys_le (s.N who) P.data.toList
    have h2 := (h.nk.ok who).2.1
    omega
  refine wpIn_rangeFunc_ownH rfl (by decide) (gf := 78) (lb := #[.pointer (some ⟨w.heap.size + 1, 0, none⟩), .pointer (some ⟨w.heap.size + 1 + 1, 0, none⟩), .pointer (some ⟨w.heap.size + 1 + 2, 0, none⟩)]) rfl trivial (enters_of Try.func78 (by kernel_rfl) rfl)
    (ofN_stops (T := T) (F := F) 2 (w.heap.size + 1) (w.heap.size + 1 + 1) (w.heap.size + 1 + 2) A.nb A.tn A.mn n s.N who hw hn P D val (fun k b hb => (hval k b hb).1) (hTn _ (by omega) (by omega)) (hTn _ (by omega) (by omega)) (hTn _ (by omega) (by omega)) (hTn _ (by omega) (by omega)) (hTn _ (by omega) (by omega)) (hTn _ (by omega) (by omega)) hFT W0 (fun k hk => by have := hF k hk; omega) hIt)
    (fun h k => h.trans k) hKb (Below.refl _ _) (fun _ => rfl)
    (fun (pre : List (KeyV (s.N who))) W => AccR T W0.heap.size w.heap.size W0 (pre.map rowV) W)
    (fun _ _ _ => False)
    (ownFrom_acc (fun (pre : List (KeyV (s.N who))) => pre.map rowV) hT0)
    (fun _ _ _ _ _ hs _ _ => hs)
    ⟨⟨_, [], hbt, OwnR.nil _ _ _, rfl⟩, Fr.refl _ _⟩
    (fun x a' W => a' = { tmps := #[.pointer (some ⟨A.vb, 0, none⟩), .int .i64 who, .string P, undef, undef, undef, .slice none 0 0, .pointer (some ⟨w.heap.size, 0, none⟩), encStr x.1, val x.1, .pointer (some ⟨A.vb, 0, none⟩), .int .i64 who, .int .i64 0, .bool false, .pointer (some ⟨A.vb, 0, none⟩), .pointer (some ⟨A.vb, 0, none⟩), .pointer (some ⟨A.vb, 2, none⟩), .pointer (some ⟨A.nb, 0, none⟩), .int .i64 who, .string P, .func (.func 78) #[] #[.pointer (some ⟨w.heap.size + 1, 0, none⟩), .pointer (some ⟨w.heap.size + 1 + 1, 0, none⟩), .pointer (some ⟨w.heap.size + 1 + 2, 0, none⟩)], encStr x.1, val x.1, undef, undef, undef, undef, undef, undef, undef, undef], defers := [] })
    (fun x a' s A B row hs hg hr => hs)
    ?assign ?body ?done ?stop
  case assign =>
    rintro l pre x W K hi hK
    simp only [encV]
    have HK := Lib.hid hK
    have HI := Lib.hid hi
    clear hK hi
    gi_wp2
    exact HK.out _ _ (keepsFrom_fr (S := fun _ => False) (Fr.refl _ W) (fun _ h => h.elim)) ⟨Fr.refl _ _, fun _ _ => rfl⟩ HI.out rfl
  case body =>
    rintro l pre x a' W hll ⟨r, hr⟩ hi rfl hlt2
    obtain ⟨⟨v, lr, hb, ho, hm⟩, hfr⟩ := hi
    obtain ⟨av, cv, rfl⟩ := ho.form
    have hbx : BytesIn F W (val x.1) (getV x) := (HV0 x hf0).keep hfr (fun k _ hk => hFT k hk)
    have hbl : (getV x).length ≤ 2048 := HV1 x
    have hzW := hfr.size
    have hcell : ∀ W', Fr (fun _ => False) W W' → W'.cell? ⟨w.heap.size, 0, none⟩ = some (.slice av lr.length cv) := fun W' hf => cell_of_one (hf.heap hb id)
    have HPL := Lib.hid (Nat.le_trans (Nat.le_of_lt hlt2) HPK)
    have HX := Lib.hid (And.intro hbx (And.intro hbl (And.intro hcell (And.intro hb (And.intro ho (And.intro hm (And.intro hfr hzW)))))))
    clear hbx hbl hcell hb ho hm hfr hzW
    gi_wp2
    refine wpIn_region_inv (.round l) 6 (by kernel_rfl) ?nodefer (by kernel_rfl) (fun W' => Fr (fun _ => False) W W') (RowReg (.slice av lr.length cv) ⟨x.1.toArray⟩ (val x.1) (getV x) W) (fun _ _ _ _ => True) (Fr (fun _ => False)) (RowReg.ext _ _ _ _ _) (Fr.refl _ _).drew ?steps ?tail
    case nodefer =>
      intro i o ho c
      rcases i with _ | _ | _ | _ | _ | _ | _ | _ | i <;> simp at ho
      all_goals (subst ho; intro h; cases h)
    case steps =>
      intro i hi o ho
      replace hi : i < 6 := hi
      obtain rfl | rfl | rfl | rfl | rfl | rfl : i = 0 ∨ i = 1 ∨ i = 2 ∨ i = 3 ∨ i = 4 ∨ i = 5 := by omega
      · simp only [List.getElem?_cons_zero, Option.some.injEq] at ho
        subst ho
        intro a W' vs hB hS hE hU
        refine wpG_plain rfl ?_
        have v7 : a.eval (.tmp 7) = .pointer (some ⟨w.heap.size, 0, none⟩) := (hU 7 (by kernel_rfl)).trans rfl
        clear hE hU
        exact wp_value_inv (w' := W') (.slice av lr.length cv) (op_loadAt rfl v7 (load_one5 W' _ _ _ (by kernel_rfl) (HX.out.2.2.1 W' hB))) ⟨_, rfl, hB, Fr.refl _ _, rfl, fun _ _ _ _ _ => trivial⟩
      · simp only [List.getElem?_cons_zero, List.getElem?_cons_succ, Option.some.injEq] at ho
        subst ho
        intro a W' vs hB hS hE hU
        refine wpG_plain rfl ?_
        have v8 : a.eval (.tmp 8) = encStr x.1 := (hU 8 (by kernel_rfl)).trans rfl
        clear hE hU
        exact wp_value_inv (w' := W') (encStr x.1) (op_move rfl v8) ⟨_, rfl, hB, Fr.refl _ _, rfl, fun _ _ _ _ _ => trivial⟩
      · simp only [List.getElem?_cons_zero, List.getElem?_cons_succ, Option.some.injEq] at ho
        subst ho
        intro a W' vs hB hS hE hU
        refine wpG_plain rfl ?_
        have v9 : a.eval (.tmp 9) = val x.1 := (hU 9 (by kernel_rfl)).trans rfl
        clear hE hU
        exact wp_value_inv (w' := W') (val x.1) (op_move rfl v9) ⟨_, rfl, hB, Fr.refl _ _, rfl, fun _ _ _ _ _ => trivial⟩
      · simp only [List.getElem?_cons_zero, List.getElem?_cons_succ, Option.some.injEq] at ho
        subst ho
        intro a W' vs hB hS hE hU
        refine wpG_plain rfl ?_
        obtain ⟨r2, e25⟩ := hE 2 25 (by kernel_rfl) (by kernel_rfl)
        have v25 : a.eval (.tmp 25) = val x.1 := e25.trans r2
        clear hE hU
        refine wp_call_inv 63 #[.tmp 25] #[44] rfl #[val x.1] (by simp only [List.map_toArray, List.map_cons, List.map_nil, v25]) (ent_copyB _) (Post := fun v W2 => OwnB (fun k => W'.heap.size ≤ k) W2 v (getV x) ∧ Fr (fun _ => False) W' W2) (copyB_any W' _ _ (HX.out.1.keep hB (fun _ _ _ h => h)) (by have := HX.out.2.1; omega)) ?_
        rintro v W2 ⟨ho2, hf2⟩
        have hz := hB.size
        exact ⟨_, rfl, hB.trans hf2 (fun _ h => h.elim), hf2, ⟨by obtain ⟨a, c, e⟩ := ho2.len; exact ⟨a, _, c, e⟩, ho2.mono (fun k _ hk => Nat.le_trans hz hk)⟩, fun _ _ _ _ _ => trivial⟩
      · simp only [List.getElem?_cons_zero, List.getElem?_cons_succ, Option.some.injEq] at ho
        subst ho
        intro a W' vs hB hS hE hU
        refine wpG_plain rfl ?_
        obtain ⟨r1, e24⟩ := hE 1 24 (by kernel_rfl) (by kernel_rfl)
        obtain ⟨⟨⟨ax, nx, cx, hx⟩, r3⟩, e26⟩ := hE 3 26 (by kernel_rfl) (by kernel_rfl)
        have v24 : a.eval (.tmp 24) = encStr x.1 := e24.trans r1
        have v26 : a.eval (.tmp 26) = .slice ax nx cx := e26.trans hx
        rw [hx] at r3
        clear hE hU
        exact wp_value_inv (w' := W') (.agg #[encStr x.1, .slice ax nx cx]) (op_build rfl (vs := #[(0, encStr x.1), (1, .slice ax nx cx)]) (by simp only [List.map_toArray, List.map_cons, List.map_nil, v24, v26]) (row_built _ _ _ _)) ⟨_, rfl, hB, Fr.refl _ _, ⟨.slice ax nx cx, rfl, ⟨ax, nx, cx, rfl⟩, r3⟩, fun _ _ _ _ _ => trivial⟩
      · simp only [List.getElem?_cons_zero, List.getElem?_cons_succ, Option.some.injEq] at ho
        subst ho
        intro a W' vs hB hS hE hU
        refine wpG_plain rfl ?_
        obtain ⟨⟨y, hy, ⟨ax, nx, cx, rfl⟩, r4⟩, e27⟩ := hE 4 27 (by kernel_rfl) (by kernel_rfl)
        have v27 : a.eval (.tmp 27) = .agg #[encStr x.1, .slice ax nx cx] := e27.trans hy
        clear hE hU
        have hfa : Fr (fun _ => False) W' (W'.alloc (.cells #[encStr x.1, .slice ax nx cx] 73)) := (Fr.refl _ _).alloc _
        exact wp_value_inv (w' := W'.alloc (.cells #[encStr x.1, .slice ax nx cx] 73)) (.slice (some ⟨W'.heap.size, 0, none⟩) 1 1) (op_rows rfl (vs := #[(0, .agg #[encStr x.1, .slice ax nx cx])]) (by simp only [List.map_toArray, List.map_cons, List.map_nil, v27]) (row_one W' _ _ _ _)) ⟨_, rfl, hB.trans hfa (fun _ h => h.elim), hfa, ⟨W'.heap.size, .slice ax nx cx, rfl, heap_alloc_new W' _, ⟨ax, nx, cx, rfl⟩, r4.keep hfa (fun _ _ _ h => h)⟩, fun _ _ _ _ _ => trivial⟩
    case tail =>
      intro vs Wa hB0 hR0 hD
      have r0 : vs 0 = .slice av lr.length cv := hR0 0 (by decide)
      obtain ⟨g, y, r5, hgr, ⟨ax, nx, cx, rfl⟩, hyb⟩ := hR0 5 (by decide)
      have HB := Lib.hid (And.intro hB0 (And.intro hgr hyb))
      have HR := Lib.hid (And.intro r0 r5)
      clear hR0 hD hB0 hgr hyb r0 r5
      simp only [acts, if_true, dstAt, List.getElem?_cons_zero, List.getElem?_cons_succ, Option.bind_some, Act.put, List.setIfInBounds_toArray, List.set_cons_succ, List.set_cons_zero, List.drop_succ_cons, List.drop_zero]
      rw [HR.out.1, HR.out.2]
      obtain ⟨i0, hi0⟩ : ∃ i, Try.prog.info? 73 = some i := by
        cases hh : Try.prog.info? 73 with
        | none => have := infoRow; rw [hh] at this; cases this
        | some i => exact ⟨i, rfl⟩
      obtain ⟨v2, W2, hrun, ho2, hg2, hv2⟩ := run_append_e (i0 := i0) (T := 73) (ST := 63) Try.underlying63 infoRow rfl (by decide) (by decide) (z := W0.heap.size) Wa 63 (.slice av lr.length cv) (.slice (some ⟨g, 0, none⟩) 1 1) (lr.map rowC) [[encStr x.1, .slice ax nx cx]] (HX.out.2.2.2.2.1.own.keep HB.out.1 (fun _ _ h => h)) (Elems.ofBlock HB.out.2.1 rfl) (fun c hc u hu => by
        rw [List.mem_singleton.1 hc] at hu
        simp only [List.mem_cons, List.not_mem_nil, or_false] at hu
        rcases hu with rfl | rfl <;> rfl) (Nat.le_trans HX.out.2.2.2.2.2.2.2 HB.out.1.size) (by have := HX.out.2.2.2.2.2.1; have h1 := congrArg List.length this; simp at h1; simp; have := HPL.out; omega)
      obtain ⟨a2, c2, rfl⟩ := ho2.form
      have hLen : (lr.map rowC ++ [[encStr x.1, .slice ax nx cx]]).length = lr.length + 1 := by simp
      rw [hLen] at ho2 hrun hv2
      have hfo : Fr (fun k => (Value.slice av lr.length cv).ownBlock = some k) Wa W2 := (Fr.refl _ Wa).grown hg2 (fun k hk => .inl hk)
      have hog := HX.out.2.2.2.2.1.own.own
      have hzW := HX.out.2.2.2.2.2.2.2
      have hzA := HB.out.1.size
      have hbt2 : W2.heap[w.heap.size]? = some (.cells #[.slice av lr.length cv] 63 (0, 0)) := hfo.heap (HB.out.1.heap HX.out.2.2.2.1 id) (fun e => by have := hog _ e; omega)
      have hcl2 : W2.cell? ⟨w.heap.size, 0, none⟩ = some (.slice av lr.length cv) := cell_of_one hbt2
      have hfz2 : W2.frozen? ⟨w.heap.size, 0, none⟩ = false := frozen_of_row _ _ _ _ _ hbt2
      have hA := HX.out.2.2.2.2.1.keep HB.out.1 (fun _ _ h => h) (fun _ _ _ h => h)
      have hR2 := hA.snoc (p := ⟨⟨x.1.toArray⟩, .slice ax nx cx, getV x⟩) (HB.out.2.2.mono (fun k _ hk => ⟨Nat.le_trans hzW hk, fun e => by have := hog k e; omega⟩)) rfl ho2 hg2 hv2
      have H2 := Lib.hid (And.intro hR2 (And.intro hfo (And.intro hbt2 hog)))
      refine wpListIn_value (.round l) rfl (fun c h => by cases h) _ W2 (op_append9 rfl rfl rfl hrun) ?_
      clear hfo hog hzW hzA hbt2 hA hR2 hrun ho2 hg2 hv2
      simp only [Act.put, List.setIfInBounds_toArray, List.set_cons_succ, List.set_cons_zero]
      gi_wp2
      obtain ⟨hR2, hfo, hbt2, hog⟩ := H2.out
      have hfp : Fr (fun k => k = w.heap.size) W2 (W2.setCell ⟨w.heap.size, 0, none⟩ (.slice a2 (lr.length + 1) c2)) := Fr.cell1 W2 _ 0 _
      have hall : Fr (fun k => (Value.slice av lr.length cv).ownBlock = some k ∨ k = w.heap.size) W (W2.setCell ⟨w.heap.size, 0, none⟩ (.slice a2 (lr.length + 1) c2)) := ((HB.out.1.mono (T := fun k => (Value.slice av lr.length cv).ownBlock = some k ∨ k = w.heap.size) (fun _ _ h => h.elim)).trans hfo (fun k hk => .inl (.inl hk))).trans hfp (fun k hk => .inl (.inr hk))
      have hcells : ∀ k, ((Value.slice av lr.length cv).ownBlock = some k ∨ k = w.heap.size) → ∃ cs T fr, W.heap[k]? = some (.cells cs T fr) ∧ T ≠ 9 := fun k hk => by
        rcases hk with hk | rfl
        · rcases HX.out.2.2.2.2.1.own.row.2 with ⟨hv, _⟩ | ⟨g', cap, cur, hv, hb, hg', _⟩
          · rw [hv] at hk; simp [Value.ownBlock] at hk
          · rw [hv] at hk
            simp only [Value.ownBlock, Option.some.injEq] at hk
            exact ⟨_, _, _, hk ▸ hg', by decide⟩
        · exact ⟨_, _, _, HX.out.2.2.2.1, by decide⟩
      have hzW := HX.out.2.2.2.2.2.2.2
      have hml := HX.out.2.2.2.2.2.1
      refine ⟨⟨hall.size, fun k o _ hk hc => hall.heap hk (fun hs => ?_)⟩, KpV.of hall (fun k _ hs => ?_) (fun k hk hs => ?_), ⟨⟨_, _, cell_put _ hbt2, hR2.keep_ hfp (fun g hg e => ?_) (fun k _ (hk : W0.heap.size ≤ k) (e : k = w.heap.size) => by omega), ?_⟩, HX.out.2.2.2.2.2.2.1.trans hall (fun k hs => .inl ?_)⟩⟩
      · obtain ⟨cs, T', fr, h1, _⟩ := hcells k hs
        rw [h1] at hk
        cases hk
        cases hc
      · rcases hs with hs | hs
        · exact hT0 k (hog k hs).1
        · rw [hT]; exact .inl hs
      · obtain ⟨cs, T', fr, h1, h2⟩ := hcells k hs
        obtain ⟨cs', fr', s', h3, _⟩ := hk
        rw [h1] at h3
        simp only [Option.some.injEq, Obj.cells.injEq] at h3
        exact h2 h3.2.1
      · have := hR2.own.own g hg
        have e2 : g = w.heap.size := e
        omega
      · rw [List.map_append, List.map_append, hml]
        simp [RowD.row, rowV]
      · rcases hs with hs | hs
        · exact hT0 k (hog k hs).1
        · rw [hT]; exact .inl hs
  case done =>
    rintro Dl ys W hD rfl hi hK
    obtain ⟨⟨v, lr, hb, ho, hm⟩, hfr⟩ := hi
    have hcell : W.cell? ⟨w.heap.size, 0, none⟩ = some v := cell_of_one hb
    have HX := Lib.hid (And.intro ho (And.intro hm hfr))
    have HHK := Lib.hid hK
    clear ho hm hfr hb hK
    gi_wp2
    refine ⟨by simp, .inl ⟨_, _, rfl, run_takeDeferred HHK.out, ?_⟩⟩
    have hfd := fr_putObj (T := (· = Dl)) W Dl (.deferred none) rfl
    have hn : ∀ k, k = Dl → ∀ cs T fr, W.heap[k]? ≠ some (.cells cs T fr) := fun k hk cs T' fr e => by
      rw [hk, HHK.out] at e
      cases e
    have hO := HX.out.1.keepN (S := (· = Dl)) hfd hn
    refine ⟨_, results_tmp rfl _ _ _, v, lr, rfl, ⟨hO.own.lower (by omega), fun p hp => (hO.ownb p hp).mono (fun k _ hk => ⟨by have h1 : W0.heap.size ≤ k := hk.1; show w.heap.size ≤ k; omega, hk.2⟩), hO.one⟩, by rw [HX.out.2.1]; exact rowsV_map (h.nk.ok who).1 _, ?_⟩
    refine (hf0.trans (S := fun _ => False) HX.out.2.2 (fun k hk => ?_)).trans hfd (fun k (hk : k = Dl) => .inr (by omega))
    rw [hT] at hk
    rcases hk with hk | hk
    · exact .inr (by omega)
    · exact .inr (by omega)
  case stop =>
    rintro Dl c pre W _ _ h _
    exact h.elim
end
end Go.Proofs.Ytdpaobflknkbkaa
namespace Go.Proofs.Ytdpaobflknkbkaa
open Go.RowKit Go.ChangeShapes
set_option linter.unusedVariables false
theorem OwnE.atBlock {T : TypeId} {k z : Nat} {w : World} {v : Value} {css : List (List Value)} (h : OwnE T k z w v css) (hk : 0 < k) (hne : css ≠ []) : ∃ g, z ≤ g ∧ g < w.heap.size ∧ Elems k (fun b => b = g) w v css ∧ v.ownBlock = some g := by
  rcases h.row.2 with ⟨hv, h0⟩ | ⟨g, cap, cur, hv, hb, hg, r⟩
  · exact absurd (List.eq_nil_of_length_eq_zero h0) hne
  · have hob : v.ownBlock = some g := by rw [hv]; rfl
    exact ⟨g, hb, lt_of_block hg, h.elems.mono hk (fun b _ e => by rw [hob] at e; exact (Option.some.inj e).symm), hob⟩
section
set_option maxRecDepth 100000
set_option maxHeartbeats 1000000
theorem copyQ_any {F : Nat → Prop} (w : World) (v : Value) (Q : List Qt) (hQ : QsIn F w v Q) (hl : Q.length ≤ 100000) :
    Calls Try.prog 33 #[v] w fun e w' => ∃ v', e = .returned v' ∧ OwnE 38 4 w.heap.size w' v' (Q.map qC) ∧ Fr (fun _ => False) w w' := by
  have HQ := Lib.hid hQ
  obtain ⟨ao, cap, rfl, _⟩ := id hQ.open9
  obtain ⟨n, hn⟩ : ∃ n, n = Q.length := ⟨_, rfl⟩
  rw [← hn] at HQ ⊢
  clear hQ
  go_enter Try.func33, Try.ntmps33
  go_wp2_with (at_builtin; refine wpList_append_e (T := 38) (z := w.heap.size) Try.underlying22 infoQ rfl (by decide) (by decide) w rfl (.const (.slice none 0 0)) (.tmp 3) rfl (.slice none 0 0) _ [] (Q.map qC) rfl rfl (OwnE.nil _ _ _ _) HQ.out (qC_one Q) (Nat.le_refl _) (by simp; omega) ?_; intro v5 w5 ho5 hg5 hb5; (obtain ⟨a5, c5, hv5⟩ := ho5.form); (subst hv5); (have H5 := Lib.hid (And.intro ho5 hg5)); clear ho5 hg5 hb5)
  go_ret
  refine ⟨_, rfl, ?_, (Fr.refl _ w).grown H5.out.2 (fun k hk => by simp [Value.ownBlock] at hk)⟩
  have := H5.out.1
  simpa using this
theorem newR_any (w : World) : Calls Try.prog 34 #[] w fun e w' => e = .returned (.pointer (some ⟨w.heap.size + 2, 0, none⟩)) ∧ BkAt kR 118 (fun _ => False) w' (w.heap.size + 2) w.heap.size (w.heap.size + 1) 0 (fun _ => []) ∧ Fr (fun _ => False) w w' ∧ w'.heap.size = w.heap.size + 3 := by
  have hmm := @run_makeMap Try.prog
  go_enter Try.func34, Try.ntmps34
  go_wp2
  go_ret
  refine ⟨rfl, ⟨?_, ?_, ?_, fun i => ⟨List.Pairwise.nil, Nat.le_refl _, fun p hp => by cases hp⟩, ⟨by omega, by omega, by omega, id, id, id⟩⟩, (((Fr.refl _ _).alloc _).alloc _).alloc _, by simp⟩
  · have := heap_alloc_new ((w.alloc (.map #[] 0)).alloc (.map #[] 0)) (.cells #[.map (some w.heap.size), .map (some (w.heap.size + 1))] 118)
    simpa using this
  · exact (ThAt.made (K := kR) (fun _ => False) w).keep (S := fun _ => False) (((Fr.refl _ _).alloc _).alloc _) id (fun _ _ _ h => h)
  · have := (MnAt.made (w.alloc (.map #[] 0))).keep (S := fun _ => False) ((Fr.refl _ _).alloc (.cells #[.map (some w.heap.size), .map (some (w.heap.size + 1))] 118)) id
    simpa using this
theorem newN_any (w : World) : Calls Try.prog 35 #[] w fun e w' => e = .returned (.pointer (some ⟨w.heap.size + 2, 0, none⟩)) ∧ BkAt kN 121 (fun _ => False) w' (w.heap.size + 2) w.heap.size (w.heap.size + 1) 0 (fun _ => []) ∧ Fr (fun _ => False) w w' ∧ w'.heap.size = w.heap.size + 3 := by
  have hmm := @run_makeMap Try.prog
  go_enter Try.func35, Try.ntmps35
  go_wp2
  go_ret
  refine ⟨rfl, ⟨?_, ?_, ?_, fun i => ⟨List.Pairwise.nil, Nat.le_refl _, fun p hp => by cases hp⟩, ⟨by omega, by omega, by omega, id, id, id⟩⟩, (((Fr.refl _ _).alloc _).alloc _).alloc _, by simp⟩
  · have := heap_alloc_new ((w.alloc (.map #[] 0)).alloc (.map #[] 0)) (.cells #[.map (some w.heap.size), .map (some (w.heap.size + 1))] 121)
    simpa using this
  · exact (ThAt.made (K := kN) (fun _ => False) w).keep (S := fun _ => False) (((Fr.refl _ _).alloc _).alloc _) id (fun _ _ _ h => h)
  · have := (MnAt.made (w.alloc (.map #[] 0))).keep (S := fun _ => False) ((Fr.refl _ _).alloc (.cells #[.map (some w.heap.size), .map (some (w.heap.size + 1))] 121)) id
    simpa using this
theorem new_no {F : Nat → Prop} (w : World) (v : Value) (Q : List Qt) (hQ : QsIn F w v Q) (hok : okQs Q = false) :
    Calls Try.prog 10 #[v] w fun e w' => e = .returned (.tuple #[.pointer none, .int .i64 2]) ∧ Fr (fun _ => False) w w' := by
  have ha := areRight_any w v Q hQ
  rw [hok] at ha
  have HA := Lib.hid ha
  obtain ⟨ao, cap, rfl, _⟩ := id hQ.open9
  clear ha hQ hok
  go_enter Try.func10, Try.ntmps10
  go_wp2_with (go_at_call 32; refine HA.out.mono ?_; rintro e w1 ⟨rfl, hf1⟩; (have H1 := Lib.hid hf1); clear hf1)
  go_ret2
  exact ⟨rfl, H1.out⟩
theorem new_yes {F : Nat → Prop} (w : World) (v : Value) (Q : List Qt) (hQ : QsIn F w v Q) (hok : okQs Q = true) :
    Calls Try.prog 10 #[v] w fun e w' => ∃ a : VA, e = .returned (.tuple #[.pointer (some ⟨a.vb, 0, none⟩), .int .i64 0]) ∧ VwAt (fun _ => False) w' a 0 ⟨Q, fun _ => [], fun _ => []⟩ ∧ (∀ k ∈ a.all, w.heap.size ≤ k ∧ k < w'.heap.size) ∧ Fr (fun _ => False) w w' := by
  have ha := areRight_any w v Q hQ
  rw [hok] at ha
  have HA := Lib.hid ha
  have hq := okQs_iff hok
  have HQ := Lib.hid (And.intro hQ (And.intro hq hok))
  obtain ⟨ao, cap, rfl, _⟩ := id hQ.open9
  clear ha hQ hok hq
  go_enter Try.func10, Try.ntmps10
  go_wp2_with (first
    | (go_at_call 32; refine HA.out.mono ?_; rintro e w1 ⟨rfl, hf1⟩; (have H1 := Lib.hid hf1); clear hf1)
    | (go_at_call 33; refine (copyQ_any w1 _ Q (HQ.out.1.quiet H1.out) (by have := HQ.out.2.1.2.2; omega)).mono ?_; rintro e w2 ⟨v2, rfl, ho2, hf2⟩; (obtain ⟨a2, c2, hv2⟩ := ho2.form); (subst hv2); (have H2 := Lib.hid (And.intro ho2 (And.intro hf2 (H1.out.trans hf2 (fun _ h => h.elim))))); clear ho2 hf2)
    | (go_at_call 34; refine (newR_any w2).mono ?_; rintro e w3 ⟨rfl, hb3, hf3, hz3⟩; (have H3 := Lib.hid (And.intro hb3 (And.intro hf3 hz3))); clear hb3 hf3 hz3)
    | (go_at_call 35; refine (newN_any w3).mono ?_; rintro e w4 ⟨rfl, hb4, hf4, hz4⟩; (have H4 := Lib.hid (And.intro hb4 (And.intro hf4 hz4))); clear hb4 hf4 hz4))
  go_ret2
  obtain ⟨qb, hq1, hq2, hq3, _⟩ := H2.out.1.atBlock (by decide) (by
    intro e
    have := HQ.out.2.1.2.1
    rw [List.map_eq_nil_iff] at e
    rw [e] at this
    simp at this)
  rw [List.length_map] at hq3
  have hz1 := H1.out.size
  have hz2 := H2.out.2.1.size
  have hz3 := H3.out.2.2
  have hz4 := H4.out.2.2
  have hfa : Fr (fun _ => False) w4 (w4.alloc (.cells #[.slice a2 Q.length c2, .pointer (some ⟨w2.heap.size + 2, 0, none⟩), .pointer (some ⟨w3.heap.size + 2, 0, none⟩), .pointer (some ⟨w4.heap.size, 0, none⟩)] 83)) := (Fr.refl _ _).alloc _
  have hf23 := H3.out.2.1
  have hf34 := H4.out.2.1
  refine ⟨⟨w4.heap.size, qb, w2.heap.size + 2, w2.heap.size, w2.heap.size + 1, w3.heap.size + 2, w3.heap.size, w3.heap.size + 1⟩, rfl, ⟨⟨_, heap_alloc_new w4 _, ?_⟩, H3.out.1.quiet (hf34.trans hfa (fun _ h => h.elim)), H4.out.1.quiet hfa, HQ.out.2.2, fun i hi => ?_, ?_, fun _ _ h => h⟩, ?_, ((H2.out.2.2.trans hf23 (fun _ h => h.elim)).trans hf34 (fun _ h => h.elim)).trans hfa (fun _ h => h.elim)⟩
  · exact QsIn.quiet hq3 ((hf23.trans hf34 (fun _ h => h.elim)).trans hfa (fun _ h => h.elim))
  · have hb := okQ_bounds (HQ.out.2.1.1 _ (List.getElem_mem hi))
    exact ⟨by simpa using hb.2.2.1.1, by simpa using hb.2.2.2.1⟩
  · simp only [VA.all, List.nodup_cons, List.mem_cons, List.not_mem_nil, or_false, not_or, List.nodup_nil, and_true, not_false_eq_true]
    omega
  · intro k hk
    simp only [VA.all, List.mem_cons, List.not_mem_nil, or_false] at hk
    have hs : (w4.alloc (.cells #[.slice a2 Q.length c2, .pointer (some ⟨w2.heap.size + 2, 0, none⟩), .pointer (some ⟨w3.heap.size + 2, 0, none⟩), .pointer (some ⟨w4.heap.size, 0, none⟩)] 83)).heap.size = w4.heap.size + 1 := by simp
    rw [hs]
    omega
end
end Go.Proofs.Ytdpaobflknkbkaa
