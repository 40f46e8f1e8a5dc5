/- Laid together: TKeys TOrd JSort -/
import Derived.Test.YtldgcoikbjbjeaaGreatTk12
import Derived.Lib.Strings
import Derived.Laws.Strings3
import Derived.Lib.Slices
import Derived.Sort.KeysCollected
import Derived.Test.YtldgcoikbjbjeaaGreatTk3
import Derived.Test.YtldgcoikbjbjeaaGreatShelf
import Derived.Test.YtldgcoikbjbjeaaGreatRows

namespace Go.Proofs.YtldgcoikbjbjeaaGreat
open Go.RowKit Go.ChangeShapes Go.Maps Go.WideMaps Go.Sort
set_option linter.unusedVariables false
set_option maxHeartbeats 1000000 in
theorem hasPrefixLite_any (s p : ByteArray) (w : World) :
    Calls Tryz.prog 141 #[.string s, .string p] w fun e w' => e = .returned (.bool (Lib.hasPrefix s.data.toList p.data.toList)) ∧ w' = w := by
  rw [← Lib.hasPrefix_of_take, ← Lib.size_eq, ← Lib.size_eq]
  go_enter Tryz.func141, Tryz.ntmps141
  go_wp2
  · rename_i h
    go_ret
    refine ⟨?_, rfl⟩
    show Ending.returned (Value.bool ((s.extract 0 p.size).toList == p.toList)) = _
    rw [Lib.extract_toList, Lib.toList_data]
    simp [h]
  · rename_i h
    go_ret
    refine ⟨?_, rfl⟩
    show Ending.returned (Value.bool false) = _
    simp [h]
set_option maxHeartbeats 1000000 in
theorem hasPrefix_any (s p : ByteArray) (w : World) :
    Calls Tryz.prog 113 #[.string s, .string p] w fun e w' => e = .returned (.bool (Lib.hasPrefix s.data.toList p.data.toList)) ∧ w' = w := by
  go_enter Tryz.func113, Tryz.ntmps113
  go_wp2_with (go_at_call 141; refine (hasPrefixLite_any _ _ _).mono ?_; rintro e w' ⟨rfl, hw⟩; rw [hw])
  go_ret
  exact ⟨rfl, rfl⟩
def keysP (M : Tab) (P : Bs) : List Bs := (M.filter (fun p => Lib.hasPrefix p.1 P)).map (·.1)
theorem keysP_mem {M : Tab} {P k : Bs} : k ∈ keysP M P ↔ (tGet M k).isSome = true ∧ Lib.hasPrefix k P = true := by
  unfold keysP
  rw [List.mem_map]
  constructor
  · rintro ⟨p, hp, rfl⟩
    obtain ⟨h1, h2⟩ := List.mem_filter.1 hp
    refine ⟨?_, h2⟩
    cases h : tGet M p.1 with
    | none => exact absurd rfl (tGet_none.1 h p h1)
    | some b => rfl
  · rintro ⟨h1, h2⟩
    obtain ⟨b, hb⟩ := Option.isSome_iff_exists.1 h1
    exact ⟨(k, b), List.mem_filter.2 ⟨tGet_mem hb, h2⟩, rfl⟩
theorem keysP_asc {M : Tab} (h : Tab.Ok M) (P : Bs) : (keysP M P).Pairwise (· < ·) := by
  unfold keysP
  rw [List.pairwise_map]
  exact h.filter _
theorem keyS_inv {v : Value} {kl : Lit} (h : keyOf Tryz.prog 9 v = some kl) : ∃ N : ByteArray, v = .string N := by
  cases v <;> simp [keyOf, Tryz.underlying9, mapKey] at h
  exact ⟨_, rfl⟩
theorem lt_range {w : World} {b r n cnt : Nat} {D : DataW Value} {left : Lit → Bool} (h : w.ranges Tryz.prog 9 heldR6 b r n D left cnt) : r < w.heap.size := by
  obtain ⟨es, clock, since, seen, c0, h1, h2, h3, h4, h5, h6⟩ := h
  exact lt_of_block h5
theorem infoStr : (Tryz.prog.info? 9).map (fun i => (i.zero, i.size, i.bytes)) = some (some (.string ⟨#[]⟩), 1, 16) := by kernel_rfl
theorem World.ranges.keep6 {S : Nat → Prop} {w w' : World} {b r n cnt : Nat} {D : DataW Value} {left : Lit → Bool} (h : w.ranges Tryz.prog 9 heldR6 b r n D left cnt) (hf : Fr S w w') (hb : ¬ S b) (hr : ¬ S r) : w'.ranges Tryz.prog 9 heldR6 b r n D left cnt := by
  obtain ⟨es, clock, since, seen, c0, h1, h2, h3, h4, h5, h6⟩ := h
  exact ⟨es, clock, since, seen, c0, hf.heap h1 hb, h2, h3, h4, hf.heap h5 hr, h6⟩
theorem sorted_keys {M : Tab} (hM : Tab.Ok M) (P : Bs) {ks : List Bs} (hn : ks.Nodup) (hk : ∀ k, k ∈ ks ↔ k ∈ keysP M P) : ks.mergeSort (fun x y => decide (x ≤ y)) = keysP M P := by
  have hasc := keysP_asc hM P
  have hnd : (keysP M P).Nodup := hasc.imp (fun h e => bs_ne h e)
  have hp : ks.Perm (keysP M P) := (List.perm_ext_iff_of_nodup hn hnd).2 hk
  have h1 : ks.mergeSort leB = (keysP M P).mergeSort leB := mergeSort_of_perm hp
  refine h1.trans (List.mergeSort_of_pairwise (hasc.imp (fun h => ?_)))
  exact decide_eq_true (List.le_of_lt h)
def encK (k : Bs) : List Value := [encStr k]
theorem encK_str (N : ByteArray) : encK N.data.toList = [.string N] := by simp [encK, encStr]
structure KeySt (M : Tab) (P : Bs) (z : Nat) (w W : World) (v : Value) (ks : List Bs) (left : Lit → Bool) : Prop where
  own : OwnE 9 1 z W v (ks.map encK)
  nodup : ks.Nodup
  mem : ∀ k, k ∈ ks ↔ k ∈ keysP M P ∧ left (kS k) = false
  left : ∀ k, left (kS k) = true → (tGet M k).isSome = true
  fr : Fr (fun _ => False) w W
def StrB (w : World) (k : Nat) : Prop := ∃ cs fr s, w.heap[k]? = some (.cells cs 9 fr) ∧ cs[0]? = some (Value.string s)
theorem sort_keys {z : Nat} {M : Tab} (hM : Tab.Ok M) (P : Bs) (w : World) (v : Value) (ks : List Bs) (h : OwnE 9 1 z w v (ks.map encK)) (hn : ks.Nodup) (hk : ∀ k, k ∈ ks ↔ k ∈ keysP M P) (hl : ks.length ≤ 1000000) :
    Calls Tryz.prog 114 #[v] w fun e w' => e = .returned (.tuple #[]) ∧ Elems 1 (fun k => z ≤ k) w' v ((keysP M P).map encK) ∧ Fr (fun k => v.ownBlock = some k) w w' ∧ (keysP M P ≠ [] → ∃ g c, v = .slice (some ⟨g, 0, none⟩) (keysP M P).length c ∧ StrB w' g) := by
  have hsk := sorted_keys hM P hn hk
  have hlk : (keysP M P).length = ks.length := by rw [← hsk]; simp
  rcases h.row.2 with ⟨hv, h0⟩ | ⟨g, cap, cur, hv, hb, hg, hnc, hcm, hcs, ht⟩
  · rw [List.length_map] at h0
    obtain rfl := List.eq_nil_of_length_eq_zero h0
    subst hv
    refine (Tryz.slices_Sort_string_none none 0 w).mono ?_
    rintro e w' ⟨rfl, rfl⟩
    have e : keysP M P = [] := List.eq_nil_of_length_eq_zero hlk
    rw [e]
    exact ⟨rfl, Elems.nil _ _ _, Fr.refl _ _, fun h => absurd rfl h⟩
  · subst hv
    rw [List.length_map] at hnc ht ⊢
    have hH : Holds encStr w g 0 ks.toArray := fun j hj => by
      rw [List.size_toArray] at hj
      refine ⟨?_, frozen_of_row _ _ _ _ _ hg⟩
      rw [cell_of_row _ _ _ _ _ _ hg, Nat.zero_add, ← Array.getElem?_toList]
      have e : ks.toArray[j]! = ks[j] := by simp [hj]
      have h1 := flat_get (k := 1) (ks.map encK) (fun c hc => by obtain ⟨p, _, rfl⟩ := List.mem_map.1 hc; rfl) j (by simpa using hj) 0 (by decide)
      rw [← ht, List.getElem?_take, if_pos (by omega), List.getElem_map, show j * 1 + 0 = j by omega] at h1
      rw [h1, e]
      rfl
    have hgl := lt_of_block hg
    refine (Tryz.slices_Sort_string g 0 cap ks w hH hgl (by omega)).mono ?_
    rintro e w' ⟨rfl, m, os, rfl⟩
    rw [hsk]
    have hgm : g < (Sort.ahead w m).heap.size := hgl
    have hHn : Holds encStr (grow (putRow encStr (Sort.ahead w m) g 0 (keysP M P).toArray) os) g 0 (keysP M P).toArray := by
      refine holds_grow encStr _ os g 0 _ (by rw [size_putRow]; exact hgl) (holds_putRow encStr _ g 0 ks.toArray _ hH (by simp [hlk]))
    refine ⟨rfl, ?_, ?_, fun hne => ?_⟩
    · refine ⟨_, cap, by rw [List.length_map, hlk], by rw [List.length_map]; omega, by unfold maxLen at hcm; omega, (fun c hc => by obtain ⟨p, _, rfl⟩ := List.mem_map.1 hc; rfl), fun _ => ⟨g, 0, rfl, hb, fun i hi j hj => ?_⟩⟩
      rw [List.length_map] at hi
      obtain rfl : j = 0 := by omega
      have h1 := (hHn i (by simpa using hi)).1
      rw [show 0 + i * 1 + 0 = 0 + i by omega, h1, List.getElem_map]
      simp [hi, encK]
    · refine ⟨rfl, rfl, rfl, by simp [grow, putRow, mapBlock, Sort.ahead], fun i hi hs => ?_⟩
      have hne : i ≠ g := fun e => hs (by rw [e]; rfl)
      have hi' : i < (putRow encStr (Sort.ahead w m) g 0 (keysP M P).toArray).heap.size := by rw [size_putRow]; exact hi
      rw [heap_grow_old _ _ hi']
      show ((Sort.ahead w m).heap.modify g _)[i]? = _
      rw [Array.getElem?_modify, if_neg (fun e => hne e.symm)]
      rfl
    · have h0 := (hHn 0 (by rw [List.size_toArray]; exact List.length_pos_iff.2 hne)).1
      have hbk : (grow (putRow encStr (Sort.ahead w m) g 0 (keysP M P).toArray) os).heap[g]? = some (.cells (putCells encStr 0 (keysP M P).toArray cur) 9 (0, 0)) := by
        rw [heap_grow_old _ _ (by rw [size_putRow]; exact hgl)]
        show ((Sort.ahead w m).heap.modify g _)[g]? = _
        rw [Array.getElem?_modify, if_pos rfl]
        show Option.map _ w.heap[g]? = _
        rw [hg]
        rfl
      rw [cell_of_row _ _ _ _ _ _ hbk] at h0
      exact ⟨g, cap, by rw [hlk], _, _, _, hbk, h0⟩
theorem sameKey_kS (a b : Bs) : (kS a).sameKey (kS b) = decide (a = b) := by
  simp only [kS, Lit.sameKey]
  by_cases h : a = b
  · simp [h]
  · simp [h]
theorem KeySt.next {M : Tab} {P : Bs} {z : Nat} {w W W' : World} {v v' : Value} {ks : List Bs} {left : Lit → Bool} (H : KeySt M P z w W v ks left) {x : Bs} (hl : left (kS x) = true) (hf : Fr (fun _ => False) w W')
    (hp : (Lib.hasPrefix x P = true ∧ OwnE 9 1 z W' v' (ks.map encK ++ [encK x])) ∨ (Lib.hasPrefix x P = false ∧ OwnE 9 1 z W' v' (ks.map encK))) :
    ∃ ks', KeySt M P z w W' v' ks' (fun y => left y && !y.sameKey (kS x)) ∧ ks'.length = ks.length + (if Lib.hasPrefix x P = true then 1 else 0) := by
  have hnx : x ∉ ks := fun h => by have := ((H.mem x).1 h).2; rw [hl] at this; cases this
  have hleft : ∀ k, (left (kS k) && !(kS k).sameKey (kS x)) = (left (kS k) && !decide (k = x)) := fun k => by rw [sameKey_kS]
  rcases hp with ⟨h1, h2⟩ | ⟨h1, h2⟩
  · refine ⟨ks ++ [x], ⟨by rw [List.map_append]; exact h2, ?_, fun k => ?_, fun k hk => H.left k ?_, hf⟩, by rw [if_pos h1]; simp⟩
    · rw [List.nodup_append]
      exact ⟨H.nodup, by simp, fun a ha b hb e => hnx (by rw [List.mem_singleton.1 hb] at e; exact e ▸ ha)⟩
    · rw [List.mem_append, H.mem k, List.mem_singleton, hleft]
      constructor
      · rintro (⟨h3, h4⟩ | rfl)
        · exact ⟨h3, by rw [h4]; rfl⟩
        · exact ⟨keysP_mem.2 ⟨H.left k hl, h1⟩, by simp⟩
      · rintro ⟨h3, h4⟩
        by_cases e : k = x
        · exact .inr e
        · rw [decide_eq_false e] at h4
          exact .inl ⟨h3, by simpa using h4⟩
    · rw [hleft] at hk
      exact (Bool.and_eq_true_iff.1 hk).1
  · refine ⟨ks, ⟨h2, H.nodup, fun k => ?_, fun k hk => H.left k ?_, hf⟩, by rw [if_neg (by rw [h1]; decide)]; rfl⟩
    · rw [H.mem k, hleft]
      constructor
      · rintro ⟨h3, h4⟩
        exact ⟨h3, by rw [h4]; rfl⟩
      · rintro ⟨h3, h4⟩
        by_cases e : k = x
        · rw [e] at h3
          rw [(keysP_mem.1 h3).2] at h1
          cases h1
        · rw [decide_eq_false e] at h4
          exact ⟨h3, by simpa using h4⟩
    · rw [hleft] at hk
      exact (Bool.and_eq_true_iff.1 hk).1
theorem keysP_le (M : Tab) (P : Bs) : (keysP M P).length ≤ M.length := by unfold keysP; rw [List.length_map]; exact List.length_filter_le _ _
theorem KeySt.le {M : Tab} {P : Bs} {z : Nat} {w W : World} {v : Value} {ks : List Bs} {left : Lit → Bool} (H : KeySt M P z w W v ks left) : ks.length ≤ M.length :=
  Nat.le_trans (H.nodup.length_le_of_subset (fun k hk => ((H.mem k).1 hk).1)) (keysP_le M P)
set_option maxRecDepth 100000 in
set_option maxHeartbeats 2000000 in
theorem keys_any {F : Nat → Prop} {rb mb : Nat} {M : Tab} {T : TypeId} {rest : List Value} (w : World) (h : RwAt F w rb mb M T rest) (P : ByteArray) :
    Calls Tryz.prog 82 #[.pointer (some ⟨rb, 0, none⟩), .string P] w fun e w' => ∃ v, e = .returned v ∧ Elems 1 (fun k => w.heap.size ≤ k) w' v ((keysP M P.data.toList).map encK) ∧ Fr (fun _ => False) w w' ∧ (keysP M P.data.toList ≠ [] → ∃ g c, v = .slice (some ⟨g, 0, none⟩) (keysP M P.data.toList).length c ∧ StrB w' g) := by
  obtain ⟨c0, c1, f1⟩ := h.cells
  obtain ⟨D, hD1, hD2, hD3, hD4⟩ := id h.tm
  have hlt := h.lt
  have HR := Lib.hid h
  have HD := Lib.hid (And.intro hD2 (And.intro hD3 hD4))
  have HLT := Lib.hid hlt
  clear h hD2 hD3 hD4
  go_enter Tryz.func82, Tryz.ntmps82
  go_wp2_with (at_range; refine wpList_range_own _ rfl _ 79 rfl 9 43 strK6 Tryz.underlying79 heldR6 mb _ D rfl hD1 ?_; intro w0 hrg0 hg0 hs0; (have H0 := Lib.hid (And.intro hrg0 (And.intro hg0 hs0))); clear hrg0 hg0 hs0)
  go_frame
  go_loopw [5] (fun lv wr => ∃ (ks : List Bs) (left : Lit → Bool) (cnt : Nat), (∃ ao c, lv = .slice ao ks.length c) ∧ Hid (wr.ranges Tryz.prog 9 heldR6 mb w.heap.size M.length D left cnt ∧ KeySt M P.data.toList (w.heap.size + 1) w wr lv ks left)) (fun _ wr => wr.rangeLeft mb w.heap.size)
  case atStart =>
    have hf0 : Fr (fun _ => False) w w0 := (Fr.refl _ w).grown H0.out.2.1 (fun k hk => by cases hk)
    refine ⟨[], _, _, ⟨none, 0, rfl⟩, Lib.hid ⟨H0.out.1, ⟨OwnE.nil _ _ _ _, List.Pairwise.nil, fun k => ⟨(fun h => by cases h), fun h => ?_⟩, fun k hk => by rw [← HD.out.2.1 k]; exact hk, hf0⟩⟩⟩
    have h1 := (keysP_mem.1 h.1).1
    rw [← HD.out.2.1 k, h.2] at h1
    cases h1
  case round =>
    obtain ⟨ks, left, cnt, ⟨ao, c, rfl⟩, hR⟩ := hrel
    go_wp2_with (at_next; refine wpList_next_ranges (α := ByteArray) (β := Value) _ rfl _ rfl 9 strK6 heldR6 Value.string id (fun key kl h => keyS_inv h) (fun v y h => ⟨v, rfl⟩) mb w.heap.size M.length D left cnt rfl hR.out.1 ?_ ?_)
    · intro hc0 hl0
      have hks : ∀ k, k ∈ ks ↔ k ∈ keysP M P.data.toList := fun k => by rw [hR.out.2.mem k]; exact ⟨fun h => h.1, fun h => ⟨h, hl0 _⟩⟩
      have hlk : ks.length ≤ 1000000 := by
        have h1 := (List.perm_ext_iff_of_nodup hR.out.2.nodup ((keysP_asc HR.out.ok.1 P.data.toList).imp (fun h e => bs_ne h e))).2 hks
        have h2 : (keysP M P.data.toList).length ≤ M.length := by unfold keysP; rw [List.length_map]; exact List.length_filter_le _ _
        have := HR.out.small
        rw [h1.length_eq]; omega
      have HS := Lib.hid (sort_keys HR.out.ok.1 P.data.toList wr _ ks hR.out.2.own hR.out.2.nodup hks hlk)
      clear hks hlk hl0 hc0
      go_wp2_with (go_at_call 114; refine HS.out.mono ?_; rintro e w3 ⟨rfl, he3, hf3⟩; (have H3 := Lib.hid (And.intro he3 hf3)); clear he3 hf3)
      go_ret
      exact ⟨_, rfl, H3.out.1.mono (by decide) (fun k _ hk => by omega), hR.out.2.fr.trans H3.out.2.1 (fun k hk => .inr (by have := hR.out.2.own.own k hk; omega)), H3.out.2.2⟩
    · intro x cv kl ya yb w1 cnt1 hkey hlk hv hat hrg1 hlt1 hg1 hs1 hen
      obtain ⟨x', hx', hkl, _⟩ := Maps.keyOf_str Tryz.underlying9 hkey
      have hxe : x.data.toList = x' := by have := Value.string.inj hx'; rw [this]
      rw [← hxe] at hkl
      have hkl2 : kl = kS x.data.toList := hkl
      subst hkl2
      have hf1 : Fr (fun k => k = w.heap.size) wr w1 := (Fr.refl _ wr).grown hg1 (fun k hk => .inl (by injection hk with hk; exact hk.symm))
      have hfw1 : Fr (fun _ => False) w w1 := hR.out.2.fr.trans hf1 (fun k hk => .inr (by rw [show k = w.heap.size from hk]; exact Nat.le_refl _))
      have hown1 := hR.out.2.own.keep hf1 (fun g hg e => by have := hR.out.2.own.own g hg; have e2 : g = w.heap.size := e; omega)
      have hle := hR.out.2.le
      have hsm := HR.out.small
      have H1 := Lib.hid (And.intro hrg1 (And.intro hfw1 (And.intro hown1 (And.intro hlk (And.intro hlt1 (And.intro hR.out.2 (And.intro hR.out.1 hs1)))))))
      have HLE := Lib.hid (Nat.le_trans hle hsm)
      have hpl := hasPrefix_any x P
      obtain ⟨q, hq⟩ : ∃ q, q = Lib.hasPrefix x.data.toList P.data.toList := ⟨_, rfl⟩
      rw [← hq] at hpl
      have HPL := Lib.hid hpl
      have HQ := Lib.hid hq
      clear hR hkey hlk hv hat hrg1 hlt1 hg1 hs1 hx' hkl hxe hf1 hfw1 hown1 hle hsm hpl hq
      cases q with
      | true =>
        go_wp2_with (first
          | (go_at_call 113; refine (HPL.out _).mono ?_; rintro e w3 ⟨rfl, rfl⟩)
          | (at_builtin; refine wpList_append_e (T := 9) (z := w.heap.size + 1) Tryz.underlying37 infoStr rfl (by decide) (by decide) (w3.alloc (.cells #[.string x] 9)) rfl (.tmp 19) (.tmp 21) rfl (.slice ao ks.length c) _ (ks.map encK) [[.string x]] rfl rfl (H1.out.2.2.1.keep ((Fr.refl (fun _ => False) w3).alloc _) (fun _ _ h => h)) (Elems.ofBlock (c := [.string x]) (heap_alloc_new w3 _) rfl) (fun c hc u hu => by rw [List.mem_singleton.1 hc] at hu; rw [List.mem_singleton.1 hu]; rfl) (by have := H1.out.2.1.size; simp; have := H1.out.2.2.2.2.2.2.2; have := lt_range H1.out.2.2.2.2.2.2.1; omega) (by rw [List.length_map]; have := HLE.out; simp; omega) ?_; intro v5 w5 ho5 hg5 hb5; (obtain ⟨a5, c5, rfl⟩ := ho5.form); (have H5 := Lib.hid (And.intro ho5 (And.intro hg5 hb5))); clear ho5 hg5 hb5))
        go_roundw
        case rel =>
          have hf5 : Fr (fun k => (Value.slice ao ks.length c).ownBlock = some k) w3 w5 := ((Fr.refl _ w3).alloc _).grown H5.out.2.1 (fun k hk => .inl hk)
          have hog := H1.out.2.2.1.own
          have hfw5 : Fr (fun _ => False) w w5 := H1.out.2.1.trans hf5 (fun k hk => .inr (by have := hog k hk; omega))
          obtain ⟨ks', hk1, hk2⟩ := H1.out.2.2.2.2.2.1.next (x := x.data.toList) H1.out.2.2.2.1 hfw5 (.inl ⟨HQ.out.symm, by rw [encK_str]; exact H5.out.1⟩)
          have hln : ks'.length = ks.length + 1 := by rw [hk2, if_pos HQ.out.symm]
          rw [show (ks.map encK ++ [[Value.string x]]).length = ks.length + 1 by simp] at hk1
          rw [← hln] at hk1 ⊢
          exact ⟨ks', _, cnt1, ⟨a5, c5, rfl⟩, Lib.hid ⟨World.ranges.keep6 H1.out.1 hf5 (fun e => by have := hog mb e; have := HLT.out.2; omega) (fun e => by have := hog _ e; omega), hk1⟩⟩
        case measure =>
          have hf5 : Fr (fun k => (Value.slice ao ks.length c).ownBlock = some k) w3 w5 := ((Fr.refl _ w3).alloc _).grown H5.out.2.1 (fun k hk => .inl hk)
          have hog := H1.out.2.2.1.own
          have h5 := World.ranges.keep6 H1.out.1 hf5 (fun e => by have := hog mb e; have := HLT.out.2; omega) (fun e => by have := hog _ e; omega)
          rw [World.ranges.left_eq h5, World.ranges.left_eq H1.out.2.2.2.2.2.2.1]
          exact H1.out.2.2.2.2.1
      | false =>
        go_wp2_with (first
          | (go_at_call 113; refine (HPL.out _).mono ?_; rintro e w3 ⟨rfl, rfl⟩))
        go_roundw
        case rel =>
          obtain ⟨ks', hk1, hk2⟩ := H1.out.2.2.2.2.2.1.next (x := x.data.toList) H1.out.2.2.2.1 H1.out.2.1 (.inr ⟨HQ.out.symm, H1.out.2.2.1⟩)
          have hln : ks'.length = ks.length := by rw [hk2, if_neg (by rw [← HQ.out]; decide)]; rfl
          rw [← hln] at hk1 ⊢
          exact ⟨ks', _, cnt1, ⟨ao, c, rfl⟩, Lib.hid ⟨H1.out.1, hk1⟩⟩
        case measure =>
          rw [World.ranges.left_eq H1.out.1, World.ranges.left_eq H1.out.2.2.2.2.2.2.1]
          exact H1.out.2.2.2.2.1
end Go.Proofs.YtldgcoikbjbjeaaGreat
namespace Go.Proofs.YtldgcoikbjbjeaaGreat
open Go.RowKit Go.ChangeShapes Go.Maps Go.WideMaps
set_option linter.unusedVariables false
attribute [local go_sem] Oper.semAt_some
def Kp6 (T : Nat → Prop) (A B : World) : Prop := Fr T A B ∧ ∀ k, StrB A k → B.heap[k]? = A.heap[k]?
theorem StrB.lt {w : World} {k : Nat} (h : StrB w k) : k < w.heap.size := by obtain ⟨cs, fr, s, h1, _⟩ := h; exact lt_of_block h1
theorem StrB.same {A B : World} {k : Nat} (h : StrB A k) (e : B.heap[k]? = A.heap[k]?) : StrB B k := by obtain ⟨cs, fr, s, h1, h2⟩ := h; exact ⟨cs, fr, s, by rw [e]; exact h1, h2⟩
theorem Kp6.trans {T : Nat → Prop} {A B C : World} (h : Kp6 T A B) (k : Kp6 T B C) : Kp6 T A C := ⟨h.1.trans k.1 (fun _ h => .inl h), fun i hi => by rw [k.2 i (hi.same (h.2 i hi)), h.2 i hi]⟩
theorem Kp6.of {S T : Nat → Prop} {A B : World} (h : Fr S A B) (h1 : ∀ k, k < A.heap.size → S k → T k) (h2 : ∀ k, StrB A k → ¬ S k) : Kp6 T A B := ⟨h.mono h1, fun k hk => h.block k hk.lt (h2 k hk)⟩
theorem StrB.keep {S : Nat → Prop} {A B : World} {k : Nat} (h : StrB A k) (hf : Fr S A B) (hs : ¬ S k) : StrB B k := h.same (hf.block k h.lt hs)
abbrev KeyO (M : Tab) := {k : Bs // (tGet M k).isSome = true}
def getO {M : Tab} (x : KeyO M) : Bs := (tGet M x.1).get x.2
theorem getO_eq {M : Tab} (x : KeyO M) : tGet M x.1 = some (getO x) := by unfold getO; simp
def keysO (M : Tab) (P : Bs) : List (KeyO M) := (keysP M P).attach.map (fun k => ⟨k.1, (keysP_mem.1 k.2).1⟩)
theorem keysO_map (M : Tab) (P : Bs) : (keysO M P).map (·.1) = keysP M P := by unfold keysO; rw [List.map_map]; exact List.attach_map_subtype_val _
theorem keysO_length (M : Tab) (P : Bs) : (keysO M P).length = (keysP M P).length := by unfold keysO; simp
def ValO (F : Nat → Prop) (w : World) (D : DataW Value) (M : Tab) (val : Bs → Value) : Prop := ∀ k b, tGet M k = some b → (∀ z, D.atKey (kS k) z = .held (val k)) ∧ BytesIn F w (val k) b
theorem TMt.vals {F : Nat → Prop} {w : World} {mb : Nat} {M : Tab} (h : TMt F w mb M) : ∃ D val, w.ownsMap Tryz.prog 9 heldR6 mb M.length D ∧ ValO F w D M val := by
  obtain ⟨D, h1, h2, h3, h4⟩ := h
  have : ∀ k, ∃ x, ∀ b, tGet M k = some b → (∀ z, D.atKey (kS k) z = .held x) ∧ BytesIn F w x b := fun k => by
    cases hg : tGet M k with
    | none => exact ⟨.nilFunc, fun b h => by cases h⟩
    | some b => obtain ⟨x, hx, hb⟩ := h4 k b hg; exact ⟨x, fun b' e => by obtain rfl := Option.some.inj e; exact ⟨hx, hb⟩⟩
  obtain ⟨f, hf⟩ := Classical.axiomOfChoice this
  exact ⟨D, f, h1, hf⟩
theorem look_val {w : World} {mb n : Nat} {D : DataW Value} (h : w.ownsMap Tryz.prog 9 heldR6 mb n D) (N : ByteArray) (hN : N.size ≤ 1000000) {x : Value} (hx : ∀ z, D.atKey (kS N.data.toList) z = .held x) : (Instr.lookup 79 (.map (some mb)) (.string N) false).run Tryz.prog w = .ok x w := by
  obtain ⟨v, ps, hr, hv⟩ := h.lookup (t := 79) (e := 43) strK6 Tryz.underlying79 (z := .slice none 0 0) (by kernel_rfl) (zd := .held (.slice none 0 0)) (zp := []) rfl (keyS N hN)
  rw [hx, heldR6] at hv
  simp only [Option.some.injEq, Prod.mk.injEq, DataW.held.injEq] at hv
  rw [hr, hv.1]
theorem Fr.grew {A B : World} (h : Fr (fun _ => False) A B) : A.grownBy B none := ⟨h.os, h.tape, h.output, h.size, fun k hk _ => h.block k hk id⟩
structure ItO (F : Nat → Prop) (rb mb : Nat) (M : Tab) (T : TypeId) (rest : List Value) (P : ByteArray) (Bp Bq n : Nat) (D : DataW Value) (W : World) : Prop where
  box : W.cell? ⟨Bp, 0, none⟩ = some (.pointer (some ⟨rb, 0, none⟩))
  bq : W.cell? ⟨Bq, 0, none⟩ = some (.string P)
  rw : RwAt F W rb mb M T rest
  own : W.ownsMap Tryz.prog 9 heldR6 mb n D
theorem ItO.keep {S F : Nat → Prop} {rb mb : Nat} {M : Tab} {T : TypeId} {rest : List Value} {P : ByteArray} {Bp Bq n : Nat} {D : DataW Value} {W W' : World} (h : ItO F rb mb M T rest P Bp Bq n D W) (hf : Fr S W W') (h1 : ¬ S Bp) (h2 : ¬ S Bq) (h3 : ¬ S rb) (h4 : ¬ S mb) (h5 : ∀ k, k < W.heap.size → F k → ¬ S k) : ItO F rb mb M T rest P Bp Bq n D W' :=
  ⟨hf.cell h.box h1, hf.cell h.bq h2, h.rw.keep hf h3 h4 h5, ownsMap_kept6 h.own hf h4⟩
def encO {M : Tab} (val : Bs → Value) (x : KeyO M) : Array Value := #[encStr x.1, val x.1]
set_option maxRecDepth 100000 in
set_option maxHeartbeats 4000000 in
theorem ordered1_in {T F : Nat → Prop} (n0 : Nat) (l Bp Bq rb mb n : Nat) (M : Tab) (Tt : TypeId) (rest : List Value) (P : ByteArray) (D : DataW Value) (val : Bs → Value) (hval : ∀ k b, tGet M k = some b → ∀ z, D.atKey (kS k) z = .held (val k))
    (hT1 : ¬ T Bp) (hT2 : ¬ T Bq) (hT3 : ¬ T rb) (hT4 : ¬ T mb) (hT5 : ∀ k, F k → ¬ T k) (B0 : Nat) (J Jx : List (KeyO M) → World → Prop) (hJ : AbidesFrom B0 J)
    (hY : ∀ pre x W, J pre W → pre.length < (keysP M P.data.toList).length → YieldAt Fence.wide (n0 - 1) Tryz.prog l (encO val x) W fun e W' =>
      (e = .returned (.bool true) ∧ J (pre ++ [x]) W' ∧ Kp6 T W W') ∨ (e = .returned (.bool false) ∧ Jx (pre ++ [x]) W'))
    (W : World) (hR : ItO F rb mb M Tt rest P Bp Bq n D W) (h0 : J [] W) :
    CallsIn Fence.wide n0 Tryz.prog 81 #[.func (.yield l) #[] #[], .pointer (some ⟨Bp, 0, none⟩), .pointer (some ⟨Bq, 0, none⟩)] W fun e W' => (∃ v, e = .returned v) ∧
      ((∃ ys, ys = keysO M P.data.toList ∧ J ys W') ∨ (∃ pre, pre <+: keysO M P.data.toList ∧ Jx pre W')) := by
  obtain ⟨hbx, hbq, hrw, hown⟩ := id hR
  have hkeys := WideF.out.calls (n := n0 - 1) (keys_any W hrw P)
  have HR := Lib.hid hR
  have HY := Lib.hid hY
  have HJ := Lib.hid hJ
  have HT := Lib.hid (And.intro hT1 (And.intro hT2 (And.intro hT3 (And.intro hT4 hT5))))
  have HKE := Lib.hid hkeys
  have HV := Lib.hid hval
  clear hR hY hJ hT1 hT2 hT3 hT4 hT5 hrw hown hkeys hval
  refine callsIn_of_wp Tryz.func81 rfl trivial ?_ rfl
  simp only [Tryz.ntmps81, List.size_toArray, List.length_cons, List.length_nil, Nat.reduceAdd, Nat.reduceSub, Array.replicate_succ, Array.replicate_zero, List.push_toArray, List.append_toArray, List.nil_append, List.cons_append]
  obtain ⟨m, hm⟩ : ∃ m, m = (keysP M P.data.toList).length := ⟨_, rfl⟩
  have HM := Lib.hid hm
  gi_wp2_with (refine ⟨trivial, fun hx => WideF.out.free hx, ?_⟩; gi_at_call 82; refine HKE.out.mono ?_; rintro e w2 ⟨v, rfl, he2, hf2, hs2⟩; (obtain ⟨ao, cap, rfl, hc1, hc2, hc3, hc4⟩ := id he2); rw [List.length_map] at he2 hc1 ⊢; rw [← hm] at he2 hc1 hs2 ⊢; (have H2 := Lib.hid (And.intro he2 (And.intro hf2 (And.intro hs2 hc4)))); clear he2 hf2 hs2 hc3 hc4)
  have hJ2 : J [] w2 := HJ.out _ _ _ none h0 (Fr.grew H2.out.2.1) (fun r e => by cases e)
  have HR2 := Lib.hid (HR.out.keep H2.out.2.1 id id id id (fun _ _ _ h => h))
  have HS2 := Lib.hid (show ∀ i (h : i < (keysP M P.data.toList).length), ∃ g off, ao = some ⟨g, off, none⟩ ∧ StrB w2 g ∧ w2.cell? ⟨g, off + i, none⟩ = some (encStr (keysP M P.data.toList)[i]) from fun i h => by
    obtain ⟨b, off, ha, hF, hi⟩ := H2.out.2.2.2 (by intro e; rw [List.map_eq_nil_iff] at e; rw [e] at h; simp at h)
    obtain ⟨g, c, hv, hst⟩ := H2.out.2.2.1 (by intro e; rw [e] at h; simp at h)
    simp only [Value.slice.injEq] at hv
    have h5 := hi i (by rw [List.length_map]; exact h) 0 (by decide)
    rw [List.getElem_map] at h5
    rw [ha] at hv
    have e2 : b = g ∧ off = 0 := by have := hv.1; simp at this; exact this
    exact ⟨b, off, ha, by rw [e2.1]; exact hst, by rw [show off + i = off + i * 1 + 0 by omega]; exact h5⟩)
  clear h0
  gi_loopw [10] (fun iv wr => ∃ i : Nat, i ≤ m ∧ iv = .int .i64 i ∧ J ((keysO M P.data.toList).take i) wr ∧ Hid (ItO F rb mb M Tt rest P Bp Bq n D wr ∧ Kp6 T w2 wr)) (fun iv _ => m - (intOf iv).toNat)
  case atStart => exact ⟨0, by omega, rfl, hJ2, Lib.hid ⟨HR2.out, Fr.refl _ _, fun _ _ => rfl⟩⟩
  case round =>
    clear hJ2
    obtain ⟨i, hi, rfl, hJs, hRr⟩ := hrel
    by_cases hlt : i < m
    · have hiL : i < (keysP M P.data.toList).length := by have := HM.out; omega
      obtain ⟨g, off, rfl, hst, hce⟩ := HS2.out i hiL
      have hce2 : wr.cell? ⟨g, off + i, none⟩ = some (encStr (keysP M P.data.toList)[i]) := by
        rw [World.cell?_of_block (hRr.out.2.2 g hst)]; exact hce
      have hiO : i < (keysO M P.data.toList).length := by rw [keysO_length]; exact hiL
      obtain ⟨x, hx⟩ : ∃ x, x = (keysO M P.data.toList)[i] := ⟨_, rfl⟩
      have hxk : (keysP M P.data.toList)[i] = x.1 := by
        have h1 : ((keysO M P.data.toList).map (·.1))[i]'(by rw [List.length_map]; exact hiO) = x.1 := by rw [List.getElem_map, hx]
        rw [← h1]
        congr 1
        rw [keysO_map]
      rw [hxk] at hce2
      obtain ⟨q, hq⟩ : ∃ q, q = encStr x.1 := ⟨_, rfl⟩
      obtain ⟨b1, b2, b3, b4⟩ := hRr.out.1
      obtain ⟨c0, c1, f1⟩ := b3.cells
      have hxs : x.1.length ≤ 64 := (b3.ok.2 _ (tGet_mem (getO_eq x))).1.2
      have hlook := look_val b4 ⟨x.1.toArray⟩ (by show x.1.toArray.size ≤ 1000000; simp; omega) (x := val x.1) (by simpa using HV.out _ _ (getO_eq x))
      obtain ⟨fn, tmps, assign, body, hy, hRd⟩ := HY.out _ x wr hJs (by simp; omega)
      have htk : (keysO M P.data.toList).take (i + 1) = (keysO M P.data.toList).take i ++ [x] := by rw [List.take_succ_eq_append_getElem hiO, hx]
      simp only [encO] at hy
      have HTK := Lib.hid (And.intro htk hJs)
      have hi64 : (i : Int) < (m : Int) := by omega
      clear hst hce hx hxk hq htk b2 b3 hJs
      gi_wp2
      refine ⟨fun hx => WideF.out.free hx, hRd.mono ?_⟩
      rintro e W3 (⟨rfl, hJ3, hk3⟩ | ⟨rfl, hJx3⟩)
      · have HR3 := Lib.hid (And.intro (hRr.out.1.keep hk3.1 HT.out.1 HT.out.2.1 HT.out.2.2.1 HT.out.2.2.2.1 (fun k _ hk => HT.out.2.2.2.2 k hk)) (hRr.out.2.trans hk3))
        gi_wp2
        go_roundw
        case rel => exact ⟨i + 1, by omega, by go_num, by rw [HTK.out.1]; exact hJ3, HR3⟩
        case measure => simp [intOf]; omega
      · gi_wp2
        refine bodyPost_ret (results_none rfl _ _ _) rfl ?_
        exact ⟨⟨_, rfl⟩, .inr ⟨_, List.take_prefix _ _, by rw [HTK.out.1]; exact hJx3⟩⟩
    · obtain rfl : i = m := by omega
      gi_wp2
      go_end0
      exact ⟨⟨_, rfl⟩, .inl ⟨_, rfl, by rwa [List.take_of_length_le (by rw [keysO_length, ← HM.out]; exact Nat.le_refl _)] at hJs⟩⟩
theorem ItO.below {F : Nat → Prop} {rb mb : Nat} {M : Tab} {T : TypeId} {rest : List Value} {P : ByteArray} {Bp Bq n : Nat} {D : DataW Value} {w W : World} (h : ItO F rb mb M T rest P Bp Bq n D w) (hF : ∀ k, F k → k < w.heap.size) (hb : Below w.heap.size w W) : ItO F rb mb M T rest P Bp Bq n D W := by
  have h1 := World.block_lt_of_cell? _ _ h.box
  have h2 := World.block_lt_of_cell? _ _ h.bq
  have h3 := h.rw.lt
  simp only at h1 h2
  exact h.keep (Fr.ofBelow hb) (fun h => by omega) (fun h => by omega) (fun h => by omega) (fun h => by omega) (fun k hk hF' h => by omega)
theorem ordered_stops {T F : Nat → Prop} (n0 : Nat) (Bp Bq rb mb n : Nat) (M : Tab) (Tt : TypeId) (rest : List Value) (P : ByteArray) (D : DataW Value) (val : Bs → Value) (hval : ∀ k b, tGet M k = some b → ∀ z, D.atKey (kS k) z = .held (val k))
    (hT1 : ¬ T Bp) (hT2 : ¬ T Bq) (hT3 : ¬ T rb) (hT4 : ¬ T mb) (hT5 : ∀ k, F k → ¬ T k) (w : World) (hF : ∀ k, F k → k < w.heap.size) (hR : ItO F rb mb M Tt rest P Bp Bq n D w) :
    SeqStopsK Fence.wide n0 Tryz.prog 81 #[.pointer (some ⟨Bp, 0, none⟩), .pointer (some ⟨Bq, 0, none⟩)] (encO val) (Kp6 T) (fun ys => ys = keysO M P.data.toList) (fun pre => pre <+: keysO M P.data.toList) (keysP M P.data.toList).length w :=
  fun l J Jx W hW hJ hJx hY h0 => ordered1_in n0 l Bp Bq rb mb n M Tt rest P D val hval hT1 hT2 hT3 hT4 hT5 _ J Jx hJ hY W (hR.below hF hW) h0
set_option maxRecDepth 100000 in
theorem ordered_any (w : World) (g : Nat) (P : ByteArray) :
    Calls Tryz.prog 44 #[.pointer (some ⟨g, 0, none⟩), .string P] w fun e w' => e = .returned (.func (.func 81) #[] #[.pointer (some ⟨w.heap.size, 0, none⟩), .pointer (some ⟨w.heap.size + 1, 0, none⟩)]) ∧ w' = (w.alloc (.cells #[.pointer (some ⟨g, 0, none⟩)] 125)).alloc (.cells #[.string P] 9) := by
  go_enter Tryz.func44, Tryz.ntmps44
  go_wp2
  go_ret
  exact ⟨rfl, rfl⟩
end Go.Proofs.YtldgcoikbjbjeaaGreat
namespace Go.Proofs.YtldgcoikbjbjeaaGreat
open Go.RowKit Go.Maps Go.Sort Go.Shelf
set_option linter.unusedVariables false
theorem sortsP (m : Nat) : AnyZI.SortsIn Tryz.prog Tryz.sortedP_ren Fence.wide m :=
  ⟨fun blk off cap ss W hH hblk hsz => callsIn_wide.2 (Tryz.slices_Sort_int blk off cap ss W hH hblk hsz),
   fun p cap W => callsIn_wide.2 (Tryz.slices_Sort_int_none p cap W)⟩
theorem keysP_any (w : World) (b : Nat) :
    Calls Tryz.prog 163 #[.map (some b)] w fun e w' => e = .returned (.func (.func 182) #[] #[.pointer (some ⟨w.heap.size, 0, none⟩)]) ∧ w' = w.alloc (.cells #[.map (some b)] 223) :=
  (callsIn_wide (n := 5)).1 (AnyZI.keys_in Tryz.keysP Fence.wide 5 trivial rfl (some b) w)
set_option maxHeartbeats 1000000 in
theorem sortedP_any {H : Type} (b nn : Nat) (D0 : DataW H) (R : Value → Option (DataW H × List MemPlace)) (w : World) (hown : w.ownsMap Tryz.prog 3 R b nn D0) (hmax : Maps.size D0 ≤ maxLen) (hbytes : Maps.size D0 * 8 ≤ 140737488355328) :
    Calls Tryz.prog 162 #[.func (.func 182) #[] #[.pointer (some ⟨w.heap.size, 0, none⟩)]] (w.alloc (.cells #[.map (some b)] 223)) fun e w' => ∃ (v : Value) (ss : List Int), e = .returned v ∧ ss.Perm (intKeys D0) ∧
      w'.ownsRow (w.alloc (.cells #[.map (some b)] 223)).heap.size 3 1 v ss.length ((ss.mergeSort (fun x y => decide (x ≤ y))).map encZ) ∧ (v = .slice none 0 0 ↔ ss = []) ∧ Below (w.alloc (.cells #[.map (some b)] 223)).heap.size (w.alloc (.cells #[.map (some b)] 223)) w' := by
  refine (callsIn_wide (n := 5)).1 ?_
  have hbl := hown.lt
  have hseq : SeqGives Fence.wide 2 Tryz.prog 182 #[.pointer (some ⟨w.heap.size, 0, none⟩)] encZ (fun ss => ss.Perm (intKeys D0)) (Maps.size D0) (w.alloc (.cells #[.map (some b)] 223)) :=
    AnyZI.keys_gives (ρ := Tryz.keysP_ren) { Tryz.keysP with } Fence.wide _ trivial rfl (by omega) w.heap.size b nn D0 _ (by simp) (by simp) (by
      obtain ⟨es, clock, hb, Ft, hs, hD⟩ := hown
      exact ⟨es, clock, (Below.heap_alloc _ _ b hbl).trans hb, Ft, hs, hD⟩)
  exact AnyZI.sorted_in Tryz.sortedP Fence.wide 5 trivial trivial trivial trivial rfl (by omega) (sortsP _) (enters_of Tryz.func181 (by kernel_rfl) rfl) 182 #[.pointer (some ⟨w.heap.size, 0, none⟩)] trivial (enters_of Tryz.func182 (by kernel_rfl) rfl) _ _ hmax hbytes _ hseq
end Go.Proofs.YtldgcoikbjbjeaaGreat
