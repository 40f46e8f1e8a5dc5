/- Laid together: TVals TVp TCh TWrong -/
import Derived.Test.YtldgcoikbjbjeaaGreatTk23
import Derived.Deep.AppendSrc
import Derived.Deep.Upon
import Derived.Test.YtldgcoikbjbjeaaGreatTk11
import Derived.Test.YtldgcoikbjbjeaaGreatTk20
import Derived.Test.YtldgcoikbjbjeaaGreatTk12

namespace Go.Proofs.YtldgcoikbjbjeaaGreat
open Go.RowKit Go.ChangeShapes
set_option linter.unusedVariables false
def Row1 (z : Nat) (w : World) (v : Value) (xs : List Value) : Prop :=
  (v = .slice none 0 0 ∧ xs = []) ∨ ∃ g cap, v = .slice (some ⟨g, 0, none⟩) xs.length cap ∧ z ≤ g ∧ g < w.heap.size ∧ xs.length ≤ cap ∧ cap ≤ maxLen ∧
    (∀ j, j < xs.length → w.cell? ⟨g, j, none⟩ = xs[j]?) ∧ ∀ j, j < cap → (w.cell? ⟨g, j, none⟩).isSome = true ∧ w.frozen? ⟨g, j, none⟩ = false
theorem Row1.nil (z : Nat) (w : World) : Row1 z w (.slice none 0 0) [] := .inl ⟨rfl, rfl⟩
theorem Row1.own {z : Nat} {w : World} {v : Value} {xs : List Value} (h : Row1 z w v xs) (g : Nat) (hg : v.ownBlock = some g) : z ≤ g ∧ g < w.heap.size := by
  rcases h with ⟨rfl, _⟩ | ⟨g', cap, rfl, h1, h2, _⟩
  · simp [Value.ownBlock] at hg
  · simp only [Value.ownBlock, Option.some.injEq] at hg
    exact hg ▸ ⟨h1, h2⟩
theorem Row1.form {z : Nat} {w : World} {v : Value} {xs : List Value} (h : Row1 z w v xs) : ∃ ao c, v = .slice ao xs.length c ∧ xs.length ≤ c ∧ c ≤ maxLen ∧ (0 < xs.length → ∃ g, ao = some ⟨g, 0, none⟩) := by
  rcases h with ⟨rfl, rfl⟩ | ⟨g', cap, rfl, _, _, h3, h4, _⟩
  · exact ⟨none, 0, rfl, Nat.le_refl _, by decide, fun h => by simp at h⟩
  · exact ⟨_, _, rfl, h3, h4, fun _ => ⟨_, rfl⟩⟩
theorem Row1.keep {S : Nat → Prop} {z : Nat} {w w' : World} {v : Value} {xs : List Value} (h : Row1 z w v xs) (hf : Fr S w w') (hd : ∀ g, v.ownBlock = some g → ¬ S g) : Row1 z w' v xs := by
  rcases h with e | ⟨g, cap, rfl, h1, h2, h3, h4, h5, h6⟩
  · exact .inl e
  · have hb := hf.block g h2 (hd g rfl)
    refine .inr ⟨g, cap, rfl, h1, Nat.lt_of_lt_of_le h2 hf.size, h3, h4, fun j hj => ?_, fun j hj => ?_⟩
    · rw [World.cell?_of_block (a := ⟨g, j, none⟩) hb]; exact h5 j hj
    · rw [World.cell?_of_block (a := ⟨g, j, none⟩) hb, World.frozen?_of_block (a := ⟨g, j, none⟩) hb]; exact h6 j hj
theorem Row1.elems {z : Nat} {w : World} {v : Value} {xs : List Value} (h : Row1 z w v xs) : Elems 1 (fun b => v.ownBlock = some b) w v (xs.map fun x => [x]) := by
  rcases h with ⟨rfl, rfl⟩ | ⟨g, cap, rfl, h1, h2, h3, h4, h5, h6⟩
  · exact Elems.nil _ _ _
  · unfold maxLen at h4
    refine ⟨_, cap, by rw [List.length_map], by rw [List.length_map]; exact h3, by omega, fun c hc => by obtain ⟨_, _, rfl⟩ := List.mem_map.1 hc; rfl, fun _ => ⟨g, 0, rfl, rfl, fun i hi j hj => ?_⟩⟩
    rw [List.length_map] at hi
    obtain rfl : j = 0 := by omega
    rw [show 0 + i * 1 + 0 = i by omega, h5 i hi, List.getElem?_eq_getElem hi]
    simp
theorem Row1.cut {z : Nat} {w : World} {ao : Option Addr} {n c : Nat} {xs : List Value} (h : Row1 z w (.slice ao n c) xs) (k : Nat) (hk : k ≤ xs.length) : Row1 z w (.slice ao k k) (xs.take k) := by
  rcases h with ⟨e, rfl⟩ | ⟨g, cap, e, h1, h2, h3, h4, h5, h6⟩
  · simp only [Value.slice.injEq] at e
    obtain ⟨rfl, -, -⟩ := e
    obtain rfl : k = 0 := by simpa using hk
    exact .inl ⟨rfl, by simp⟩
  · simp only [Value.slice.injEq] at e
    obtain ⟨rfl, -, rfl⟩ := e
    have hl : (xs.take k).length = k := by rw [List.length_take]; omega
    refine .inr ⟨g, k, by rw [hl], h1, h2, by omega, by omega, fun j hj => ?_, fun j hj => h6 j (by omega)⟩
    rw [hl] at hj
    rw [h5 j (by omega), List.getElem?_take_of_lt hj]
theorem Fr.setCells {S : Nat → Prop} (g : Nat) (hg : S g) : ∀ (vs : List Value) (o : Nat) (w : World), Fr S w (w.setCells g o vs)
  | [], _, w => Fr.refl _ w
  | v :: vs, o, w => (Fr.setCell (p := ⟨g, o, none⟩) (Fr.refl S w) (.inl hg) v).trans (Fr.setCells g hg vs (o + 1) _) (fun _ h => .inl h)
theorem infoS1 : (Tryz.prog.info? 9).map (fun i => (i.zero, i.size, i.bytes)) = some (some (.string ⟨#[]⟩), 1, 16) := by kernel_rfl
theorem infoB1 : (Tryz.prog.info? 43).map (fun i => (i.zero, i.size, i.bytes)) = some (some (.slice none 0 0), 1, 24) := by kernel_rfl
theorem run_cutS (w : World) (ao : Option Addr) (l cap n : Nat) (hn : n ≤ l) :
    (Instr.slice 37 (.slice ao l cap) (some (.int .i64 (n : Int))) none none).run Tryz.prog w = .ok (.slice (cutLow ao n cap) (l - n) (cap - n)) w := by
  have hs : ∀ w, (sizeOf 9).run Tryz.prog w = .ok 1 w := fun w => by kernel_rfl
  simp [Instr.slice, run_underlying Tryz.underlying37, Instr.sliceBounds, run_sliceBound, hs, cutLow, hn]
theorem run_cutB (w : World) (ao : Option Addr) (l cap n : Nat) (hn : n ≤ l) :
    (Instr.slice 38 (.slice ao l cap) (some (.int .i64 (n : Int))) none none).run Tryz.prog w = .ok (.slice (cutLow ao n cap) (l - n) (cap - n)) w := by
  have hs : ∀ w, (sizeOf 43).run Tryz.prog w = .ok 1 w := fun w => by kernel_rfl
  simp [Instr.slice, run_underlying Tryz.underlying38, Instr.sliceBounds, run_sliceBound, hs, cutLow, hn]
theorem run_headS (w : World) (ao : Option Addr) (l cap k : Nat) (hk : k ≤ cap) :
    (Instr.slice 37 (.slice ao l cap) none (some (.int .i64 (k : Int))) (some (.int .i64 (k : Int)))).run Tryz.prog w = .ok (.slice ao k k) w := by
  have hs : ∀ w, (sizeOf 9).run Tryz.prog w = .ok 1 w := fun w => by kernel_rfl
  cases ao <;> simp [Instr.slice, run_underlying Tryz.underlying37, Instr.sliceBounds, run_sliceBound, hs, hk, Addr.add]
theorem run_headB (w : World) (ao : Option Addr) (l cap k : Nat) (hk : k ≤ cap) :
    (Instr.slice 38 (.slice ao l cap) none (some (.int .i64 (k : Int))) (some (.int .i64 (k : Int)))).run Tryz.prog w = .ok (.slice ao k k) w := by
  have hs : ∀ w, (sizeOf 43).run Tryz.prog w = .ok 1 w := fun w => by kernel_rfl
  cases ao <;> simp [Instr.slice, run_underlying Tryz.underlying38, Instr.sliceBounds, run_sliceBound, hs, hk, Addr.add]
theorem Elems.cutLow {F : Nat → Prop} {w : World} {ao : Option Addr} {l cap : Nat} {css : List (List Value)} (h : Elems 1 F w (.slice ao l cap) css) (n : Nat) (hn : n ≤ css.length) :
    Elems 1 F w (.slice (cutLow ao n cap) (l - n) (cap - n)) (css.drop n) := by
  obtain ⟨ao', cap', hv, h1, h2, h3, h4⟩ := h
  simp only [Value.slice.injEq] at hv
  obtain ⟨rfl, rfl, rfl⟩ := hv
  unfold YtldgcoikbjbjeaaGreat.cutLow
  refine ⟨_, cap - n, by rw [List.length_drop], by rw [List.length_drop]; omega, by omega, fun c hc => h3 c (List.mem_of_mem_drop hc), fun hl => ?_⟩
  have hlt : n < css.length := by
    rcases Nat.lt_or_ge n css.length with h | h
    · exact h
    · exact absurd (List.drop_eq_nil_of_le h) hl
  obtain ⟨b, off, rfl, hF, hi⟩ := h4 (fun e => by rw [e] at hlt; simp at hlt)
  rw [if_neg (by omega)]
  refine ⟨b, off + n, by simp [Addr.add], hF, fun i h j hj => ?_⟩
  rw [List.length_drop] at h
  rw [show off + n + i * 1 + j = off + (n + i) * 1 + j by omega, hi (n + i) (by omega) j hj]
  simp
def keyV (l : List RowD) : List Value := l.map fun p => .string p.key
def valV (l : List RowD) : List Value := l.map fun p => p.x
structure VsIn (F : Nat → Prop) (w : World) (kv vv : Value) (l : List RowD) : Prop where
  ke : Elems 1 F w kv ((keyV l).map fun x => [x])
  ve : Elems 1 F w vv ((valV l).map fun x => [x])
  bytes : ∀ p ∈ l, BytesIn F w p.x p.B
theorem VsIn.keep {F S : Nat → Prop} {w w' : World} {kv vv : Value} {l : List RowD} (h : VsIn F w kv vv l) (hf : Fr S w w') (hd : ∀ b, b < w.heap.size → F b → ¬ S b) : VsIn F w' kv vv l := ⟨h.ke.keep hf hd, h.ve.keep hf hd, fun p hp => (h.bytes p hp).keep hf hd⟩
theorem VsIn.mono {F G : Nat → Prop} {w : World} {kv vv : Value} {l : List RowD} (h : VsIn F w kv vv l) (hd : ∀ b, b < w.heap.size → F b → G b) : VsIn G w kv vv l := ⟨h.ke.mono (by decide) hd, h.ve.mono (by decide) hd, fun p hp => (h.bytes p hp).mono hd⟩
theorem Elems.open1 {F : Nat → Prop} {w : World} {v : Value} {xs : List Value} (h : Elems 1 F w v (xs.map fun x => [x])) : ∃ ao cap, v = .slice ao xs.length cap ∧ xs.length ≤ cap ∧ cap ≤ 9223372036854775807 ∧
    ∃ b off, (0 < xs.length → ao = some ⟨b, off, none⟩ ∧ F b) ∧ ∀ i (h : i < xs.length), w.cell? ⟨b, off + i, none⟩ = some xs[i] := by
  obtain ⟨ao, cap, hv, h1, h2, h3, h4⟩ := h
  rw [List.length_map] at hv h1
  refine ⟨ao, cap, hv, h1, h2, ?_⟩
  by_cases hl : xs = []
  · subst hl
    exact ⟨0, 0, fun h => by simp at h, fun i h => by simp at h⟩
  · obtain ⟨b, off, ha, hF, hi⟩ := h4 (by simpa using hl)
    refine ⟨b, off, fun _ => ⟨ha, hF⟩, fun i h => ?_⟩
    have g0 := hi i (by rw [List.length_map]; exact h) 0 (by decide)
    rw [List.getElem_map, show off + i * 1 + 0 = off + i by omega] at g0
    exact g0
def fnd (l : List RowD) (k : ByteArray) : Option Nat := l.findIdx? (fun p => p.key.data.toList == k.data.toList)
def fndI (l : List RowD) (k : ByteArray) : Int := match fnd l k with
  | some i => i
  | none => -1
theorem fnd_some {l : List RowD} {k : ByteArray} {i : Nat} (h : i < l.length) (hk : l[i].key = k) (hb : ∀ j (hj : j < i), l[j].key ≠ k) : fnd l k = some i := by
  unfold fnd
  rw [List.findIdx?_eq_some_iff_getElem]
  refine ⟨h, by simp [hk], fun j hj => ?_⟩
  have := hb j hj
  simp only [beq_iff_eq, ne_eq]
  intro e
  exact this (ByteArray.ext (Array.toList_inj.1 e))
theorem fnd_none {l : List RowD} {k : ByteArray} (hb : ∀ j (hj : j < l.length), l[j].key ≠ k) : fnd l k = none := by
  unfold fnd
  rw [List.findIdx?_eq_none_iff]
  intro p hp
  obtain ⟨j, hj, rfl⟩ := List.getElem_of_mem hp
  simp only [beq_eq_false_iff_ne, ne_eq]
  intro e
  exact hb j hj (ByteArray.ext (Array.toList_inj.1 e))
set_option maxRecDepth 100000 in
set_option maxHeartbeats 4000000 in
theorem find_any {F : Nat → Prop} (w : World) (kv vv : Value) (l : List RowD) (k : ByteArray) (h : VsIn F w kv vv l) (hn : l.length ≤ 1000000) :
    Calls Tryz.prog 32 #[.agg #[kv, vv], .string k] w fun e w' => e = .returned (.int .i64 (fndI l k)) ∧ Fr (fun _ => False) w w' := by
  obtain ⟨ak, ck, rfl, _, _, bk, ok, hak, hck⟩ := h.ke.open1
  obtain ⟨av, cv, rfl, _, _, bv', ov, hav, hcv⟩ := h.ve.open1
  have hl : (keyV l).length = l.length := by simp [keyV]
  obtain ⟨n, hnn⟩ : ∃ n, n = l.length := ⟨_, rfl⟩
  have HN := Lib.hid hnn
  have HK := Lib.hid (show ∀ i (hi : i < l.length), w.cell? ⟨bk, ok + i, none⟩ = some (.string l[i].key) from fun i hi => by
    have := hck i (by rw [hl]; exact hi)
    rw [this]
    simp [keyV])
  have HA := Lib.hid hak
  rw [hl, ← hnn] at HA ⊢
  rw [← hnn] at hn
  obtain ⟨gb, hgb⟩ : ∃ g, g = w.heap.size := ⟨_, rfl⟩
  obtain ⟨W1, hW1⟩ : ∃ W, W = w.alloc (.cells #[.slice ak n ck, .slice av (valV l).length cv] 40) := ⟨_, rfl⟩
  have H1 := Lib.hid (show Fr (fun _ => False) w W1 ∧ W1.heap[gb]? = some (.cells #[.slice ak n ck, .slice av (valV l).length cv] 40 (0, 0)) by
    rw [hW1, hgb]
    exact ⟨(Fr.refl _ _).alloc _, heap_alloc_new w _⟩)
  have HW := Lib.hid (And.intro hW1 hgb)
  clear h hak hck hav hcv hl hnn hW1 hgb
  go_enter Tryz.func32, Tryz.ntmps32
  go_wp2
  rw [← HW.out.1, ← HW.out.2]
  go_loopw [5] (fun iv wr => ∃ i : Nat, i ≤ n ∧ iv = .int .i64 i ∧ Hid (wr = W1 ∧ ∀ j (hj : j < l.length), j < i → l[j].key ≠ k)) (fun iv _ => n - (intOf iv).toNat)
  case atStart => exact ⟨0, by omega, rfl, Lib.hid ⟨rfl, fun j _ hj => by omega⟩⟩
  case round =>
    obtain ⟨i, hi, rfl, hR⟩ := hrel
    obtain rfl := hR.out.1
    have s0 : wr.cell? ⟨gb, 0, none⟩ = some (.slice ak n ck) := cell_of_row _ _ _ _ _ _ H1.out.2
    by_cases hlt : i < n
    · have hil : i < l.length := by have := HN.out; omega
      obtain ⟨rfl, _⟩ := HA.out (by omega)
      have e0 := H1.out.1.cell (HK.out i hil) id
      obtain ⟨key, hkey⟩ : ∃ key, key = l[i].key := ⟨_, rfl⟩
      rw [← hkey] at e0
      by_cases he : key = k
      · subst he
        have HF := Lib.hid (fnd_some hil hkey.symm (fun j hj => hR.out.2 j (by omega) hj))
        have d2 : (key.toList == key.toList) = true := by simp
        clear hkey
        go_wp2_with fail
        go_ret
        exact ⟨by unfold fndI; rw [HF.out]; rfl, H1.out.1⟩
      · have d2 : (key.toList == k.toList) = false := by
          rw [beq_eq_false_iff_ne]
          intro e
          apply he
          rw [Lib.toList_data, Lib.toList_data] at e
          exact ByteArray.ext (Array.toList_inj.1 e)
        have HF := Lib.hid (show ∀ j (hj : j < l.length), j < i + 1 → l[j].key ≠ k from fun j hj hji => by
          rcases Nat.lt_or_ge j i with h | h
          · exact hR.out.2 j hj h
          · obtain rfl : j = i := by omega
            rw [← hkey]; exact he)
        clear hkey he
        go_wp2_with fail
        go_roundw
        case rel => exact ⟨i + 1, by omega, by go_num, Lib.hid ⟨trivial, HF.out⟩⟩
        case measure => simp [intOf]; omega
    · obtain rfl : i = n := by omega
      have HF := Lib.hid (fnd_none (fun j hj => hR.out.2 j hj (by rw [HN.out]; exact hj)))
      go_wp2_with fail
      go_ret
      exact ⟨by unfold fndI; rw [HF.out]; rfl, H1.out.1⟩
end Go.Proofs.YtldgcoikbjbjeaaGreat
namespace Go.Proofs.YtldgcoikbjbjeaaGreat
set_option linter.unusedVariables false
structure TRep (L M : Tab) : Prop where
  once : L.Pairwise (fun p q => p.1 ≠ q.1)
  get : ∀ k, tGet L k = tGet M k
  len : L.length = M.length
  ok : Tab.Ok M
theorem TRep.nil : TRep [] [] := ⟨List.Pairwise.nil, fun _ => rfl, rfl, List.Pairwise.nil⟩
theorem tGet_append (a b : Tab) (k : Bs) : tGet (a ++ b) k = (tGet a k).or (tGet b k) := by
  induction a with
  | nil => rw [tGet_nil]; rfl
  | cons p a ih =>
    rw [List.cons_append, tGet_cons, tGet_cons, ih]
    split <;> rfl
theorem once_mid {a b : Tab} {p : Bs × Bs} (h : (a ++ p :: b).Pairwise (fun p q => p.1 ≠ q.1)) : tGet a p.1 = none ∧ tGet b p.1 = none ∧ (a ++ b).Pairwise (fun p q => p.1 ≠ q.1) := by
  rw [List.pairwise_append] at h
  obtain ⟨h1, h2, h3⟩ := h
  rw [List.pairwise_cons] at h2
  refine ⟨tGet_none.2 (fun q hq => h3 q hq p List.mem_cons_self), tGet_none.2 (fun q hq => (h2.1 q hq).symm), ?_⟩
  rw [List.pairwise_append]
  exact ⟨h1, h2.2, fun q hq r hr => h3 q hq r (List.mem_cons_of_mem _ hr)⟩
theorem TRep.here {a b M : Tab} {p : Bs × Bs} (h : TRep (a ++ p :: b) M) : tGet M p.1 = some p.2 := by
  rw [← h.get, tGet_append, (once_mid h.once).1, tGet_cons, if_pos rfl]
  rfl
theorem TRep.del {a b M : Tab} {p : Bs × Bs} (h : TRep (a ++ p :: b) M) : TRep (a ++ b) (tDel M p.1) := by
  obtain ⟨h1, h2, h3⟩ := once_mid h.once
  refine ⟨h3, fun k => ?_, ?_, h.ok.del _⟩
  · by_cases e : k = p.1
    · subst e
      rw [tGet_del_same, tGet_append, h1, h2]
      rfl
    · rw [tGet_del_other e, ← h.get, tGet_append, tGet_append, tGet_cons, if_neg (fun e' => e e'.symm)]
  · have := (tDel_sum h.ok h.here).2
    have hl := h.len
    rw [List.length_append] at hl ⊢
    rw [List.length_cons] at hl
    omega
theorem tPut_len {M : Tab} (h : Tab.Ok M) {k v u : Bs} (hg : tGet M k = some u) : (tPut M k v).length = M.length := by
  have h1 := (tDel_sum h hg).2
  rw [← tPut_del h, (tPut_sum (tGet_del_same M k)).2]
  exact h1
theorem TRep.set {a b M : Tab} {p : Bs × Bs} (h : TRep (a ++ p :: b) M) (v : Bs) : TRep (a ++ (p.1, v) :: b) (tPut M p.1 v) := by
  obtain ⟨h1, h2, h3⟩ := once_mid h.once
  have ho := h.once
  rw [List.pairwise_append, List.pairwise_cons] at ho
  refine ⟨?_, fun k => ?_, ?_, h.ok.put _ _⟩
  · rw [List.pairwise_append, List.pairwise_cons]
    refine ⟨ho.1, ho.2.1, fun q hq r hr => ?_⟩
    rcases List.mem_cons.1 hr with rfl | hr
    · exact ho.2.2 q hq p List.mem_cons_self
    · exact ho.2.2 q hq r (List.mem_cons_of_mem _ hr)
  · by_cases e : k = p.1
    · subst e
      rw [tGet_put_same, tGet_append, h1, tGet_cons, if_pos rfl]
      rfl
    · rw [tGet_put_other e, ← h.get, tGet_append, tGet_append, tGet_cons, tGet_cons, if_neg (fun e' => e e'.symm), if_neg (fun e' => e e'.symm)]
  · rw [tPut_len h.ok h.here, ← h.len]
    simp
theorem TRep.add {L M : Tab} (h : TRep L M) (k v : Bs) (hn : tGet L k = none) : TRep (L ++ [(k, v)]) (tPut M k v) := by
  have hn2 := hn
  rw [h.get] at hn2
  refine ⟨?_, fun j => ?_, ?_, h.ok.put _ _⟩
  · rw [List.pairwise_append]
    refine ⟨h.once, List.pairwise_singleton _ _, fun q hq r hr => ?_⟩
    rw [List.mem_singleton.1 hr]
    exact tGet_none.1 hn q hq
  · rw [tGet_append, tGet_cons, tGet_nil]
    by_cases e : j = k
    · subst e
      rw [tGet_put_same, hn, if_pos rfl]
      rfl
    · rw [tGet_put_other e, if_neg (fun e' => e e'.symm), h.get]
      cases tGet M j <;> rfl
  · rw [(tPut_sum hn2).2, List.length_append, h.len]
    rfl
def isB (L M : Tab) : Bool := decide (M.length = L.length) && M.all (fun p => tGet L p.1 == some p.2)
theorem isB_yes {L M : Tab} (h : TRep L M) : isB L M = true := by
  unfold isB
  rw [Bool.and_eq_true, decide_eq_true_eq, List.all_eq_true]
  refine ⟨h.len.symm, fun p hp => ?_⟩
  rw [h.get, tGet_of_mem h.ok hp]
  simp
theorem sub_of {M' M : Tab} (h' : Tab.Ok M') (h : Tab.Ok M) (hs : ∀ p ∈ M', p ∈ M) : M'.Sublist M := by
  induction M generalizing M' with
  | nil =>
    cases M' with
    | nil => exact List.Sublist.slnil
    | cons p M' => exact absurd (hs p List.mem_cons_self) (by simp)
  | cons q N ih =>
    cases M' with
    | nil => exact List.nil_sublist _
    | cons p N' =>
      have h1 := List.pairwise_cons.1 h
      have h2 := List.pairwise_cons.1 h'
      rcases List.mem_cons.1 (hs p List.mem_cons_self) with rfl | hp
      · refine List.Sublist.cons_cons _ (ih h2.2 h1.2 fun r hr => ?_)
        rcases List.mem_cons.1 (hs r (List.mem_cons_of_mem _ hr)) with rfl | hr2
        · exact absurd (h2.1 r hr) (List.lt_irrefl _)
        · exact hr2
      · refine List.Sublist.cons _ (ih h' h1.2 fun r hr => ?_)
        rcases List.mem_cons.1 (hs r hr) with rfl | hr2
        · rcases List.mem_cons.1 hr with rfl | hr3
          · exact hp
          · exact absurd (List.lt_trans (h1.1 p hp) (h2.1 r hr3)) (List.lt_irrefl _)
        · exact hr2
theorem isB_eq {L M M' : Tab} (h : TRep L M) (h' : Tab.Ok M') (hb : isB L M' = true) : M' = M := by
  unfold isB at hb
  rw [Bool.and_eq_true, decide_eq_true_eq, List.all_eq_true] at hb
  refine (sub_of h' h.ok fun p hp => ?_).eq_of_length (by rw [hb.1, h.len])
  have := hb.2 p hp
  rw [beq_iff_eq, h.get] at this
  exact tGet_mem this
theorem fnd_get {l : List RowD} {k : ByteArray} {i : Nat} (h : fnd l k = some i) : ∃ hi : i < l.length, l[i].key = k := by
  unfold fnd at h
  rw [List.findIdx?_eq_some_iff_getElem] at h
  obtain ⟨hi, h1, _⟩ := h
  exact ⟨hi, ByteArray.ext (Array.toList_inj.1 (by simpa using h1))⟩
theorem fnd_not {l : List RowD} {k : ByteArray} (h : fnd l k = none) : tGet (l.map RowD.row) k.data.toList = none := by
  unfold fnd at h
  rw [List.findIdx?_eq_none_iff] at h
  rw [tGet_none]
  intro p hp
  obtain ⟨q, hq, rfl⟩ := List.mem_map.1 hp
  simpa [RowD.row] using h q hq
theorem split_at {α : Type} (l : List α) (i : Nat) (h : i < l.length) : l = l.take i ++ l[i] :: l.drop (i + 1) := by
  rw [← List.drop_eq_getElem_cons h, List.take_append_drop]
theorem fnd_val {l : List RowD} {k : ByteArray} {i : Nat} (h : fnd l k = some i) (ho : (l.map RowD.row).Pairwise (fun p q => p.1 ≠ q.1)) (hi : i < l.length) : tGet (l.map RowD.row) k.data.toList = some l[i].B := by
  obtain ⟨_, hk⟩ := fnd_get h
  have e := split_at l i hi
  have e2 : l.map RowD.row = (l.take i).map RowD.row ++ l[i].row :: (l.drop (i + 1)).map RowD.row := by
    exact (congrArg (List.map RowD.row) e).trans (by rw [List.map_append, List.map_cons])
  rw [e2] at ho ⊢
  have h1 : l[i].row.1 = k.data.toList := by rw [← hk]; rfl
  rw [← h1, tGet_append, (once_mid ho).1, tGet_cons, if_pos rfl]
  rfl
end Go.Proofs.YtldgcoikbjbjeaaGreat
namespace Go.Proofs.YtldgcoikbjbjeaaGreat
open Go.RowKit Go.ChangeShapes
set_option linter.unusedVariables false
theorem curNum_num (most : Int) (n : Nat) (Y : Bs) (hm : (n : Int) ≤ most) (hn : n ≤ 1099511627776) : curNum most (numBytes 5 n ++ Y) 0 = ((n : Int), Y, 0) := by
  have e := numOf_bytes n Y hn
  have h1 : numS (numBytes 5 n ++ Y) = (numBytes 5 n).length := by unfold numS; rw [e]; rfl
  have h2 : numV (numBytes 5 n ++ Y) = n := by unfold numV; rw [e]; rfl
  have h3 := (numBytes_len 5 n).1
  rw [curNum, if_pos rfl, h1, h2, if_neg (by omega)]
  simp
theorem curText_rec6 (most : Int) (r X : List UInt8) (hm : (r.length : Int) ≤ most) (hr : r.length ≤ 1048576) : curText most (recB r ++ X) 0 = (r, X, 0) := by
  have e : numOf (recB r ++ X) = some (r.length, (numBytes 5 r.length).length) := by
    rw [recB, List.append_assoc]
    exact numOf_bytes _ _ (by omega)
  have h1 : numS (recB r ++ X) = (numBytes 5 r.length).length := by unfold numS; rw [e]; rfl
  have h2 : numV (recB r ++ X) = r.length := by unfold numV; rw [e]; rfl
  have h3 := (numBytes_len 5 r.length).1
  rw [curText, if_pos rfl, h1, h2, if_neg (by omega), if_neg (by omega), if_neg (by omega), recB, List.append_assoc, List.drop_left', curRaw, if_pos rfl, if_neg (by rw [List.length_append]; omega)]
  · simp
  · rfl
theorem CurAt.lt6 {F : Nat → Prop} {w : World} {b : Nat} {X : List UInt8} {e : Int} (h : CurAt F w b X e) : b < w.heap.size := by obtain ⟨_, h, _⟩ := h; exact lt_of_block h
theorem CurAt.quiet {F : Nat → Prop} {w w' : World} {b : Nat} {X : List UInt8} {e : Int} (h : CurAt F w b X e) (hf : Fr (fun _ => False) w w') : CurAt F w' b X e := h.keep hf id (fun _ _ _ h => h)
theorem row3_open7 {w : World} {b : Nat} {x y z : Value} {T : TypeId} (h : w.heap[b]? = some (.cells #[x, y, z] T (0, 0))) : w.cell? ⟨b, 0, none⟩ = some x ∧ w.cell? ⟨b, 1, none⟩ = some y ∧ w.cell? ⟨b, 2, none⟩ = some z ∧ (w.frozen? ⟨b, 0, none⟩ = false ∧ w.frozen? ⟨b, 1, none⟩ = false ∧ w.frozen? ⟨b, 2, none⟩ = false) :=
  ⟨cell_of_row _ _ _ _ _ _ h, cell_of_row _ _ _ _ _ _ h, cell_of_row _ _ _ _ _ _ h, by simp [World.frozen?, h]⟩
theorem row3_put7 {w : World} {b : Nat} {x0 y0 z0 x y z : Value} {T : TypeId} (r0 : w.heap[b]? = some (.cells #[x0, y0, z0] T (0, 0))) : (((w.setCell ⟨b, 0, none⟩ x).setCell ⟨b, 1, none⟩ y).setCell ⟨b, 2, none⟩ z).heap[b]? = some (.cells #[x, y, z] T (0, 0)) := cell_put _ (cell_put _ (cell_put _ r0))
theorem fr_put3_7 (w : World) (b : Nat) (x y z : Value) : Fr (fun k => k = b) w (((w.setCell ⟨b, 0, none⟩ x).setCell ⟨b, 1, none⟩ y).setCell ⟨b, 2, none⟩ z) := ((Fr.cell1 w b 0 x).trans (Fr.cell1 _ b 1 y) (fun k h => .inl h)).trans (Fr.cell1 _ b 2 z) (fun k h => .inl h)
theorem CurAt.mono6 {F G : Nat → Prop} {w : World} {b : Nat} {X : List UInt8} {e : Int} (h : CurAt F w b X e) (hd : ∀ k, k < w.heap.size → F k → G k) (hb : ¬ G b) : CurAt G w b X e := by
  obtain ⟨v, h1, h2, h3⟩ := h
  exact ⟨v, h1, h2.mono hd, hb⟩
theorem CurAt.not6 {F : Nat → Prop} {w : World} {b : Nat} {X : List UInt8} {e : Int} (h : CurAt F w b X e) : ¬ F b := h.choose_spec.2.2
def ChAtPost (F : Nat → Prop) (b : Nat) (c : Chg) (X : Bs) (w : World) (e : Ending) (w' : World) : Prop :=
  ∃ N ax nx cx B gb, e = .returned (.agg #[.string N, .slice ax nx cx, .bool gb]) ∧ (⟨N, .slice ax nx cx, B, gb⟩ : ChgD).chg = c ∧ (gb = true → B = []) ∧ BytesIn (fun k => w.heap.size ≤ k) w' (.slice ax nx cx) B ∧ Fr (fun k => k = b) w w' ∧ CurAt F w' b X 0
set_option maxRecDepth 100000 in
set_option maxHeartbeats 2000000 in
theorem changeAt_any {F : Nat → Prop} {b : Nat} (w : World) (c : Chg) (hc : chgOk c) (X : Bs) (h0 : CurAt F w b (chgB c ++ X) 0) (hX : (chgB c ++ X).length ≤ 1000000000) :
    Calls Tryz.prog 102 #[.pointer (some ⟨b, 0, none⟩)] w (ChAtPost F b c X w) := by
  have HNF := Lib.hid h0.not6
  have h : CurAt (fun k => F k ∧ k < w.heap.size) w b (chgB c ++ X) 0 := h0.mono6 (fun k hk hF => ⟨hF, hk⟩) (fun hh => h0.not6 hh.1)
  clear h0
  obtain ⟨key, vo⟩ := c
  obtain ⟨hk, hv⟩ := hc
  simp only at hk hv
  obtain ⟨W1, hW1⟩ : ∃ W1, W1 = w.alloc (.cells #[.string ⟨#[]⟩, .slice none 0 0, .bool false] 53) := ⟨_, rfl⟩
  have hf1 : Fr (fun _ => False) w W1 := by rw [hW1]; exact (Fr.refl _ _).alloc _
  have hb1 : W1.heap[w.heap.size]? = some (.cells #[.string ⟨#[]⟩, .slice none 0 0, .bool false] 53 (0, 0)) := by rw [hW1]; exact heap_alloc_new w _
  obtain ⟨rb2, hrb2⟩ : ∃ r, r = w.heap.size := ⟨_, rfl⟩
  have hlb := h.lt6
  have h1 := h.quiet hf1
  have hk2 : key.length ≤ 64 := hk.2
  have HB := Lib.hid hb1
  have HR2 := Lib.hid hrb2
  have HL := Lib.hid hlb
  have HW := Lib.hid (And.intro hW1 hf1)
  rw [← hrb2] at HB
  cases vo with
  | none =>
    have e1 : chgB (key, none) ++ X = numBytes 5 1 ++ (recB key ++ X) := by simp [chgB, List.append_assoc]
    rw [e1] at h1 hX
    have hnum := curNum_any 1 W1 h1
    rw [curNum_num 1 1 _ (by decide) (by decide)] at hnum
    have hlx : (recB key ++ X).length ≤ 140737488355328 := by rw [List.length_append] at hX; omega
    have HN := Lib.hid hnum
    have HT := Lib.hid (fun (w2 : World) (h2 : CurAt (fun k => F k ∧ k < w.heap.size) w2 b (recB key ++ X) 0) => curText_any 64 w2 h2 hlx)
    have HK := Lib.hid (curText_rec6 64 key X (by omega) (by omega))
    clear h1 hnum hlx hX h hf1 hb1 hrb2 hlb e1 hk hv hk2 hW1
    go_enter Tryz.func102, Tryz.ntmps102
    go_wp2_with (first
      | (go_at_call 94; rw [← HW.out.1]; refine HN.out.mono ?_; rintro e w2 ⟨rfl, hf2, hc2⟩; (have H2 := Lib.hid (And.intro hf2 hc2)); clear hf2 hc2)
      | (go_at_call 98; refine (HT.out _ H2.out.2).mono ?_; rw [HK.out]; rintro e w3 ⟨v3, rfl, hf3, ho3, hc3⟩; (have hcv := run_bytes_str w3 v3 key ho3.bytes); (have H3 := Lib.hid (And.intro (H2.out.1.trans hf3 (fun _ h => .inl h)) hc3)); (obtain ⟨r0, r1, r2, r3⟩ := row3_open7 (b := w.heap.size) (H3.out.1.heap (by have := HB.out; rw [HR2.out] at this; exact this) (by have := HL.out; omega))); clear hf3 ho3 hc3))
    have hrow := H3.out.1.heap HB.out (by have := HL.out; have := HR2.out; omega)
    have hp3 := row3_put7 (r0 := hrow) (x := .string ⟨key.toArray⟩) (y := .slice none 0 0) (z := .bool true)
    have hfp := fr_put3_7 w3 rb2 (.string ⟨key.toArray⟩) (.slice none 0 0) (.bool true)
    rw [HR2.out] at hp3 hfp
    obtain ⟨W4, hW4⟩ : ∃ W, W = ((w3.setCell ⟨w.heap.size, 0, none⟩ (.string ⟨key.toArray⟩)).setCell ⟨w.heap.size, 1, none⟩ (.slice none 0 0)).setCell ⟨w.heap.size, 2, none⟩ (.bool true) := ⟨_, rfl⟩
    rw [← hW4] at hp3 hfp ⊢
    obtain ⟨t0, t1, t2, _⟩ := row3_open7 hp3
    refine bodyPost_ret (v := .agg #[.string ⟨key.toArray⟩, .slice none 0 0, .bool true]) (by simp [results, Tryz.results102, go_sem, t0, t1, t2]) rfl ⟨_, none, 0, 0, [], true, rfl, rfl, fun _ => rfl, BytesIn.nil _ _, ((HW.out.2.mono (T := fun k => k = b) (fun _ _ h => h.elim)).trans H3.out.1 (fun _ h => .inl h)).trans hfp (fun k e => .inr (by have e' : k = w.heap.size := e; omega)), (H3.out.2.keep hfp (fun e => by have := HL.out; have e' : b = w.heap.size := e; omega) (fun k hk hF e => by have := hF.2; have e' : k = w.heap.size := e; omega)).mono6 (fun k _ hF => hF.1) HNF.out⟩
  | some v =>
    have hv2 : v.length ≤ 2048 := hv v rfl
    have e1 : chgB (key, some v) ++ X = numBytes 5 0 ++ (recB key ++ (recB v ++ X)) := by simp [chgB, List.append_assoc]
    rw [e1] at h1 hX
    have hnum := curNum_any 1 W1 h1
    rw [curNum_num 1 0 _ (by decide) (by decide)] at hnum
    have hlx : (recB key ++ (recB v ++ X)).length ≤ 140737488355328 := by rw [List.length_append] at hX; omega
    have hly : (recB v ++ X).length ≤ 140737488355328 := by rw [List.length_append] at hlx; omega
    have HN := Lib.hid hnum
    have HT := Lib.hid (fun (w2 : World) (h2 : CurAt (fun k => F k ∧ k < w.heap.size) w2 b (recB key ++ (recB v ++ X)) 0) => curText_any 64 w2 h2 hlx)
    have HT2 := Lib.hid (fun (w2 : World) (h2 : CurAt (fun k => F k ∧ k < w.heap.size) w2 b (recB v ++ X) 0) => curText_any 2048 w2 h2 hly)
    have HK := Lib.hid (curText_rec6 64 key (recB v ++ X) (by omega) (by omega))
    have HV := Lib.hid (curText_rec6 2048 v X (by omega) (by omega))
    clear h1 hnum hlx hly hX h hf1 hb1 hrb2 hlb e1 hk hv hk2 hv2 hW1
    go_enter Tryz.func102, Tryz.ntmps102
    go_wp2_with (first
      | (go_at_call 94; rw [← HW.out.1]; refine HN.out.mono ?_; rintro e w2 ⟨rfl, hf2, hc2⟩; (have H2 := Lib.hid (And.intro hf2 hc2)); clear hf2 hc2)
      | (go_at_call 98; (with_reducible refine (HT.out _ H2.out.2).mono ?_); rw [HK.out]; rintro e w3 ⟨v3, rfl, hf3, ho3, hc3⟩; (have hcv := run_bytes_str w3 v3 key ho3.bytes); (have H3 := Lib.hid (And.intro (H2.out.1.trans hf3 (fun _ h => .inl h)) hc3)); clear hf3 ho3 hc3)
      | (go_at_call 98; (with_reducible refine (HT2.out _ H3.out.2).mono ?_); rw [HV.out]; rintro e w4 ⟨v4, rfl, hf4, ho4, hc4⟩; (obtain ⟨a4, c4, rfl⟩ := ho4.len); (have H4 := Lib.hid (And.intro (H3.out.1.trans hf4 (fun _ h => .inl h)) (And.intro hc4 (ho4.bytes.mono (G := fun k => w.heap.size ≤ k ∧ k ≠ w.heap.size) (fun k _ hk => ⟨by have := HW.out.2.size; have := H3.out.1.size; have hk' : w3.heap.size ≤ k := hk; omega, by have := HR2.out; have := lt_of_block HB.out; have := H3.out.1.size; have hk' : w3.heap.size ≤ k := hk; omega⟩))))); (obtain ⟨r0, r1, r2, r3⟩ := row3_open7 (b := w.heap.size) (H4.out.1.heap (by have := HB.out; rw [HR2.out] at this; exact this) (by have := HL.out; omega))); clear hf4 ho4 hc4))
    have hrow := H4.out.1.heap HB.out (by have := HL.out; have := HR2.out; omega)
    have hp3 := row3_put7 (r0 := hrow) (x := .string ⟨key.toArray⟩) (y := .slice a4 v.length c4) (z := .bool false)
    have hfp := fr_put3_7 w4 rb2 (.string ⟨key.toArray⟩) (.slice a4 v.length c4) (.bool false)
    rw [HR2.out] at hp3 hfp
    obtain ⟨W4, hW4⟩ : ∃ W, W = ((w4.setCell ⟨w.heap.size, 0, none⟩ (.string ⟨key.toArray⟩)).setCell ⟨w.heap.size, 1, none⟩ (.slice a4 v.length c4)).setCell ⟨w.heap.size, 2, none⟩ (.bool false) := ⟨_, rfl⟩
    rw [← hW4] at hp3 hfp ⊢
    obtain ⟨t0, t1, t2, _⟩ := row3_open7 hp3
    refine bodyPost_ret (v := .agg #[.string ⟨key.toArray⟩, .slice a4 v.length c4, .bool false]) (by simp [results, Tryz.results102, go_sem, t0, t1, t2]) rfl ⟨_, a4, _, c4, v, false, rfl, rfl, (fun h => by cases h), (H4.out.2.2.keep hfp (fun k _ hk e => hk.2 e)).mono (fun k _ hk => hk.1), ((HW.out.2.mono (T := fun k => k = b) (fun _ _ h => h.elim)).trans H4.out.1 (fun _ h => .inl h)).trans hfp (fun k e => .inr (by have e' : k = w.heap.size := e; omega)), (H4.out.2.1.keep hfp (fun e => by have := HL.out; have e' : b = w.heap.size := e; omega) (fun k hk hF e => by have := hF.2; have e' : k = w.heap.size := e; omega)).mono6 (fun k _ hF => hF.1) HNF.out⟩
end Go.Proofs.YtldgcoikbjbjeaaGreat
namespace Go.Proofs.YtldgcoikbjbjeaaGreat
open Go.RowKit Go.ChangeShapes Go.Sort
set_option linter.unusedVariables false
def wrongB (N : ByteArray) (n : Nat) (g : Bool) : Bool := !decide (1 ≤ N.size ∧ N.size ≤ 64) || !decide (n ≤ 2048) || (g && decide (0 < n))
set_option maxRecDepth 100000 in
theorem isKey_all (w : World) (N : ByteArray) : Calls Tryz.prog 65 #[.string N] w fun e w' => e = .returned (.bool (decide (1 ≤ N.size ∧ N.size ≤ 64))) ∧ w' = w := by
  by_cases h1 : 1 ≤ N.size
  · have d1 : decide ((1 : Int) ≤ (N.size : Int)) = true := by rw [decide_eq_true_iff]; omega
    by_cases h2 : N.size ≤ 64
    · have d2 : decide ((N.size : Int) ≤ (64 : Int)) = true := by rw [decide_eq_true_iff]; omega
      go_enter Tryz.func65, Tryz.ntmps65
      go_wp2
      go_ret
      exact ⟨by simp [h1, h2], rfl⟩
    · have d2 : decide ((N.size : Int) ≤ (64 : Int)) = false := by rw [decide_eq_false_iff_not]; omega
      go_enter Tryz.func65, Tryz.ntmps65
      go_wp2
      go_ret
      exact ⟨by simp [h1, h2], rfl⟩
  · have d1 : decide ((1 : Int) ≤ (N.size : Int)) = false := by rw [decide_eq_false_iff_not]; omega
    go_enter Tryz.func65, Tryz.ntmps65
    go_wp2
    go_ret
    exact ⟨by simp [h1], rfl⟩
set_option maxRecDepth 100000 in
set_option maxHeartbeats 1000000 in
theorem isWrong_any (w : World) (N : ByteArray) (ao : Option Addr) (n cap : Nat) (g : Bool) :
    Calls Tryz.prog 35 #[.agg #[.string N, .slice ao n cap, .bool g]] w fun e w' => e = .returned (.bool (wrongB N n g)) ∧ Fr (fun _ => False) w w' := by
  obtain ⟨W1, hW1⟩ : ∃ W, W = w.alloc (.cells #[.string N, .slice ao n cap, .bool g] 53) := ⟨_, rfl⟩
  have hf1 : Fr (fun _ => False) w W1 := by rw [hW1]; exact (Fr.refl _ _).alloc _
  have HW := Lib.hid (And.intro hW1 hf1)
  have hK := fun W => isKey_all W N
  have hV := fun W => isVal_any W ao n cap
  unfold wrongB
  obtain ⟨bk, hbk⟩ : ∃ b, b = decide (1 ≤ N.size ∧ N.size ≤ 64) := ⟨_, rfl⟩
  obtain ⟨bv2, hbv⟩ : ∃ b, b = decide (n ≤ 2048) := ⟨_, rfl⟩
  obtain ⟨bn, hbn⟩ : ∃ b, b = decide ((0 : Int) < (n : Int)) := ⟨_, rfl⟩
  have hbn2 : decide (0 < n) = bn := by rw [hbn]; exact decide_eq_decide.2 (by omega)
  rw [hbn2]
  have dn : decide ((0 : Int) < (n : Int)) = bn := hbn.symm
  rw [← hbk] at hK ⊢
  rw [← hbv] at hV ⊢
  have HKV := Lib.hid (And.intro hK hV)
  clear hW1 hf1 hK hV hbk hbv hbn
  cases bk <;> cases bv2 <;> cases g <;> cases bn <;>
  · go_enter Tryz.func35, Tryz.ntmps35
    go_wp2_with (first
      | (go_at_call 65; refine (HKV.out.1 _).mono ?_; rintro e w2 ⟨rfl, rfl⟩)
      | (go_at_call 66; refine (HKV.out.2 _).mono ?_; rintro e w2 ⟨rfl, rfl⟩))
    go_ret
    exact ⟨rfl, by first | (rw [← HW.out.1]; exact HW.out.2) | exact (Fr.refl _ _).alloc _⟩
structure ChgW where
  key : ByteArray
  ao : Option Addr
  n : Nat
  cap : Nat
  gone : Bool
instance : Inhabited ChgW := ⟨⟨ByteArray.empty, none, 0, 0, false⟩⟩
def chgW (p : ChgW) : List Value := [.string p.key, .slice p.ao p.n p.cap, .bool p.gone]
def ChgD.wrong (p : ChgD) : Bool := wrongB p.key p.B.length p.gone
theorem isWrong_enters (args : Array Value) (w : World) : (callFunc 35 args).run Tryz.prog w = .ok (.enter 35 args) w := enters_of Tryz.func35 (by kernel_rfl) rfl args w
theorem chgW_of {F : Nat → Prop} {w : World} : ∀ l : List ChgD, (∀ p ∈ l, BytesIn F w p.x p.B) → ∃ O : List ChgW, O.map chgW = l.map chgC ∧ O.map (fun p => wrongB p.key p.n p.gone) = l.map ChgD.wrong
  | [], _ => ⟨[], rfl, rfl⟩
  | p :: l, h => by
    obtain ⟨O, h1, h2⟩ := chgW_of l (fun q hq => h q (List.mem_cons_of_mem _ hq))
    obtain ⟨a, c, e, _⟩ := h p List.mem_cons_self
    refine ⟨⟨p.key, a, p.B.length, c, p.gone⟩ :: O, ?_, ?_⟩
    · rw [List.map_cons, List.map_cons, h1]; simp only [chgW, chgC, e]
    · rw [List.map_cons, List.map_cons, h2]; rfl
theorem contains_any {F : Nat → Prop} (w : World) (v : Value) (l : List ChgD) (h : ChgsIn F w v l) (hl : 0 < l.length) :
    Calls Tryz.prog 34 #[v, .func (.func 35) #[] #[]] w fun e w' => e = .returned (.bool (l.any ChgD.wrong)) ∧ Fr (fun _ => False) w w' := by
  obtain ⟨O, hO1, hO2⟩ := chgW_of l h.bytes
  obtain ⟨ao, cap, rfl, h1, h2, h3, h4⟩ := h.el
  have hlO : O.length = l.length := by have := congrArg List.length hO1; simpa using this
  rw [← hO1] at h4
  rw [List.length_map] at h1 ⊢
  obtain ⟨b, off, rfl, hF, hi⟩ := h4 (by intro e; rw [List.map_eq_nil_iff] at e; rw [e] at hlO; simp at hlO; omega)
  have hblt : b < w.heap.size := by
    have h5 := hi 0 (by rw [List.length_map]; omega) 0 (by decide)
    rw [List.getElem_map] at h5
    exact World.block_lt_of_cell? _ _ (show w.cell? ⟨b, off + 0 * 3 + 0, none⟩ = some _ from h5)
  have hp : PredBelow Tryz.prog 35 #[] (fun x => .agg (chgW x).toArray) (fun p => wrongB p.key p.n p.gone) w := fun W x hb => by
    refine (isWrong_any W x.key x.ao x.n x.cap x.gone).mono ?_
    rintro e w' ⟨rfl, hf⟩
    exact ⟨rfl, hb.trans (hf.below hb.size (fun _ h => h.elim))⟩
  have hc := AnyQ.slices_ContainsFunc Tryz.containsP 3 Tryz.isAgg53 Tryz.sizeOf53 chgW (fun _ => rfl) (fun p => wrongB p.key p.n p.gone) 35 #[] isWrong_enters b off l.length cap O w hp (by omega) (by omega) hblt (fun j hj i u hu => by
    have hlt : i < 3 := by have := (List.getElem?_eq_some_iff.1 hu).1; exact this
    have h5 := hi j (by rw [List.length_map]; exact hj) i hlt
    rw [List.getElem_map] at h5
    have e : O[j]! = O[j] := by simp [hj]
    rw [e] at hu
    rw [h5, hu])
  change Calls Tryz.prog 34 _ _ _ at hc
  refine hc.mono ?_
  rintro e w' ⟨rfl, hb⟩
  refine ⟨?_, (Fr.ofBelow hb).mono (fun k hk hh => by omega)⟩
  rw [← hlO, List.take_length]
  have : O.any (fun p => wrongB p.key p.n p.gone) = l.any ChgD.wrong := by
    have e1 : O.any (fun p => wrongB p.key p.n p.gone) = (O.map (fun p => wrongB p.key p.n p.gone)).any id := by rw [List.any_map]; rfl
    have e2 : l.any ChgD.wrong = (l.map ChgD.wrong).any id := by rw [List.any_map]; rfl
    rw [e1, e2, hO2]
  rw [this]
theorem ChgD.ok {p : ChgD} (h : p.wrong = false) : chgOk p.chg := by
  unfold ChgD.wrong wrongB at h
  simp only [Bool.or_eq_false_iff, Bool.not_eq_false', decide_eq_true_eq] at h
  obtain ⟨⟨h1, h2⟩, h3⟩ := h
  refine ⟨⟨by rw [ChgD.chg, size_list]; exact h1.1, by rw [ChgD.chg, size_list]; exact h1.2⟩, fun v hv => ?_⟩
  unfold ChgD.chg at hv
  cases hg : p.gone with
  | true => rw [hg] at hv; cases hv
  | false => rw [hg] at hv; obtain rfl := Option.some.inj hv; exact h2
end Go.Proofs.YtldgcoikbjbjeaaGreat
