/- Laid together by merge.py: TChs TKeys -/
import Derived.Test.YtiinmilfgclddaaGreatTr12
import Derived.Test.YtiinmilfgclddaaGreatTr13
import Derived.Test.YtiinmilfgclddaaGreatTr14
import Derived.Lib.Strings
import Derived.Laws.Strings3
import Derived.Lib.Slices
import Derived.Sort.KeysCollected

/- Changes read, as they were written. -/
namespace Go.Proofs.YtiinmilfgclddaaGreat
open Go.RowKit Go.ChangeShapes
set_option linter.unusedVariables false

theorem wrongB_ok {N : ByteArray} {a : Option Addr} {nx cx : Nat} {B : Bs} {gb : Bool} (h : chgOk (⟨N, .slice a nx cx, B, gb⟩ : ChgD).chg) (hn : nx = B.length) (hg : gb = true → B = []) : wrongB N nx gb = false := by
  obtain ⟨⟨h1, h2⟩, h3⟩ := h
  replace h1 : 1 ≤ N.size := by rw [← size_list]; exact h1
  replace h2 : N.size ≤ 64 := by rw [← size_list]; exact h2
  unfold wrongB
  have h4 : nx ≤ 2048 := by
    cases gb with
    | true => rw [hn, hg rfl]; decide
    | false => rw [hn]; exact h3 B rfl
  have h5 : (gb && decide (0 < nx)) = false := by
    cases gb with
    | true => rw [hn, hg rfl]; rfl
    | false => rfl
  rw [h5, decide_eq_true (And.intro h1 h2), decide_eq_true h4]
  rfl
set_option maxRecDepth 100000 in
set_option maxHeartbeats 4000000 in
theorem changesOf_any {G : Nat → Prop} (w : World) (v : Value) (L : List Chg) (hb : BytesIn G w v (chgsB L)) (hok : ∀ c ∈ L, chgOk c) (hn : L.length ≤ 1000) :
    Calls Tryz.prog 61 #[v] w fun e w' => ∃ x l, e = .returned (.tuple #[x, .bool true]) ∧ ChgsIn (fun k => w.heap.size ≤ k ∧ k < w'.heap.size) w' x l ∧ l.map ChgD.chg = L ∧ Fr (fun _ => False) w w' := by
  have hlen := chg_bytes_le L hok
  have hl2 : (chgsB L).length ≤ 10000000 := by have := (numBytes_len 5 L.length).2; rw [chgsB, List.length_append]; omega
  obtain ⟨ab, cb, hvb, _⟩ := id hb
  subst hvb
  have hov := over_any w hb (by omega)
  obtain ⟨lb, hlb⟩ : ∃ lb, lb = (chgsB L).length := ⟨_, rfl⟩
  rw [← hlb] at hov ⊢
  obtain ⟨n, hnn⟩ : ∃ n, n = L.length := ⟨_, rfl⟩
  rw [← hnn] at hn
  have HOV := Lib.hid hov
  have HN := Lib.hid hnn
  have HL := Lib.hid (And.intro hok (show (L.flatMap chgB).length ≤ 10000000 by rw [chgsB, List.length_append] at hl2; omega))
  clear hb hov hlb hnn hok hlen hl2
  go_enter Tryz.func61, Tryz.ntmps61
  go_wp2_with (first
    | (go_at_call 93; refine HOV.out.mono ?_; rintro e w1 ⟨b, rfl, hf1, hb1, hc1⟩; (have H1 := Lib.hid (And.intro hf1 (And.intro hb1 hc1))); clear hf1 hb1 hc1)
    | (go_at_call 94; (have hnum := curNum_any 1099511627776 w1 H1.out.2.2); rw [chgsB, curNum_num _ _ _ (by rw [← HN.out]; omega) (by rw [← HN.out]; omega), ← HN.out] at hnum; refine hnum.mono ?_; rintro e w2 ⟨rfl, hf2, hc2⟩; (have H2 := Lib.hid (And.intro hf2 hc2)); clear hf2 hc2 hnum))
  have hbz : b < w1.heap.size := by obtain ⟨_, h, _⟩ := H1.out.2.2; exact lt_of_block h
  have HZ := Lib.hid hbz
  have hz2 := H2.out.1.size
  have H0 := Lib.hid (show OwnC (fun k => w2.heap.size ≤ k) w2.heap.size w2 (.slice none 0 0) [] ∧ ([] : List ChgD).map ChgD.chg = L.take 0 ∧ CurAt (fun k => k < w2.heap.size ∧ k ≠ b) w2 b ((L.drop 0).flatMap chgB) 0 ∧ Fr (fun k => k = b) w2 w2 from ⟨OwnC.nil _ _ _, rfl, H2.out.2.mono6 (fun k hk h => ⟨hk, h.2⟩) (fun h => h.2 rfl), Fr.refl _ _⟩)
  have HB2 := Lib.hid (Nat.lt_of_lt_of_le hbz hz2)
  clear hbz hz2
  go_loopw [4, 11] (fun lv iv wr => ∃ (i : Nat), i ≤ n ∧ iv = .int .i64 i ∧ (∃ ao cap, lv = .slice ao i cap) ∧ Hid (∃ l : List ChgD, OwnC (fun k => w2.heap.size ≤ k) w2.heap.size wr lv l ∧ l.map ChgD.chg = L.take i ∧ CurAt (fun k => k < w2.heap.size ∧ k ≠ b) wr b ((L.drop i).flatMap chgB) 0 ∧ Fr (fun k => k = b) w2 wr)) (fun _ iv _ => n - (intOf iv).toNat)
  case atStart => exact ⟨0, by omega, rfl, ⟨none, 0, rfl⟩, Lib.hid ⟨[], H0.out⟩⟩
  case round =>
    clear H0
    obtain ⟨i, hi, rfl, ⟨ao, cap, rfl⟩, hR⟩ := hrel
    obtain ⟨l, hO, hm, hc, hfr⟩ := hR.out
    by_cases hlt : i < n
    · have hiL : i < L.length := by rw [← HN.out]; exact hlt
      obtain ⟨c, hcc⟩ : ∃ c, c = L[i] := ⟨_, rfl⟩
      have hdr : (L.drop i).flatMap chgB = chgB c ++ (L.drop (i + 1)).flatMap chgB := by rw [List.drop_eq_getElem_cons hiL, List.flatMap_cons, ← hcc]
      have htk : L.take (i + 1) = L.take i ++ [c] := by rw [List.take_succ_eq_append_getElem hiL, hcc]
      have hcok := HL.out.1 c (by rw [hcc]; exact List.getElem_mem _)
      have hll : (chgB c ++ (L.drop (i + 1)).flatMap chgB).length ≤ 1000000000 := by
        have h1 : L.flatMap chgB = (L.take i).flatMap chgB ++ (L.drop i).flatMap chgB := by rw [← List.flatMap_append, List.take_append_drop]
        have h2 := HL.out.2
        rw [h1, hdr, List.length_append] at h2
        omega
      have hlL : l.length = i := by have h1 := congrArg List.length hm; rw [List.length_map, List.length_take] at h1; omega
      rw [hdr] at hc
      have HCA := Lib.hid (changeAt_any wr c hcok _ hc hll)
      have HS := Lib.hid (And.intro hO (And.intro hm (And.intro hfr (And.intro htk (And.intro hcok hlL)))))
      clear hR hO hm hc hfr hcc hdr htk hcok hll hlL
      go_wp2_with (first
        | (go_at_call 102; refine HCA.out.mono ?_; rintro e w3 ⟨N, ax, nx, cx, B, gb, rfl, hchg, hgb, hbx, hf3, hc3⟩; (obtain ⟨k0, k1, k2, _⟩ := row3_open (heap_alloc_new w3 (.cells #[.string N, .slice ax nx cx, .bool gb] 53))); (have H3 := Lib.hid (And.intro hchg (And.intro hgb (And.intro hbx (And.intro hf3 (And.intro hc3 (And.intro (heap_alloc_new w3 (.cells #[.string N, .slice ax nx cx, .bool gb] 53)) ((Fr.refl (fun _ => False) w3).alloc (.cells #[.string N, .slice ax nx cx, .bool gb] 53))))))))); clear hchg hgb hbx hf3 hc3)
        | (go_at_call 35; refine (isWrong_any _ N ax nx cx gb).mono ?_; rw [wrongB_ok (a := ax) (cx := cx) (by rw [H3.out.1]; exact HS.out.2.2.2.2.1) (by obtain ⟨_, _, e, _⟩ := H3.out.2.2.1; simp only [Value.slice.injEq] at e; exact e.2.1) H3.out.2.1]; rintro e w4 ⟨rfl, hf4⟩; (have H4 := Lib.hid (H3.out.2.2.2.2.2.2.trans hf4 (fun _ h => h.elim))); (obtain ⟨k0, k1, k2, _⟩ := row3_open (hf4.heap H3.out.2.2.2.2.2.1 id)); clear hf4)
        | (at_builtin; refine wpList_append_chg (z := w2.heap.size) (F := fun k => w2.heap.size ≤ k) (G := fun k => wr.heap.size ≤ k) (w4.alloc (.cells #[.string N, .slice ax nx cx, .bool gb] 53)) rfl (.tmp 17) (.tmp 19) rfl (.slice ao i cap) l ⟨N, .slice ax nx cx, B, gb⟩ w4.heap.size rfl rfl (heap_alloc_new w4 _) (((HS.out.1.keep (S := fun k => k = b) H3.out.2.2.2.1 (fun g hg e => by have := HS.out.1.own.own g hg; have := HB2.out; have e' : g = b := e; omega) (fun k _ hk e => by have := HB2.out; have e' : k = b := e; have hk' : w2.heap.size ≤ k := hk; omega)).keep H4.out (fun _ _ h => h) (fun _ _ _ h => h)).keep ((Fr.refl (fun _ => False) w4).alloc _) (fun _ _ h => h) (fun _ _ _ h => h)) ((H3.out.2.2.1.keep H4.out (fun _ _ _ h => h)).keep ((Fr.refl (fun _ => False) w4).alloc _) (fun _ _ _ h => h)) (fun k _ (hk : wr.heap.size ≤ k) => ⟨Nat.le_trans HS.out.2.2.1.size hk, fun e => by have := HS.out.1.own.own k e; omega⟩) rfl (Nat.le_trans (Nat.le_trans HS.out.2.2.1.size (Nat.le_trans H3.out.2.2.2.1.size H4.out.size)) (by simp)) (by rw [HS.out.2.2.2.2.2]; omega) ?_; intro v5 w5 ho5 hf5 hv5; (obtain ⟨a5, c5, rfl⟩ := ho5.form); (rw [show (l ++ [(⟨N, .slice ax nx cx, B, gb⟩ : ChgD)]).length = i + 1 by rw [List.length_append, HS.out.2.2.2.2.2]; rfl] at ho5 ⊢); (have H5 := Lib.hid (And.intro ho5 (((H4.out.alloc (.cells #[.string N, .slice ax nx cx, .bool gb] 53)).mono (T := fun k => (Value.slice ao i cap).ownBlock = some k) (fun _ _ h => h.elim)).trans hf5 (fun _ h => .inl h)))); clear ho5 hf5 hv5))
      go_roundw
      case rel =>
        have hog := HS.out.1.own.own
        refine ⟨i + 1, by omega, by go_num, ⟨a5, c5, rfl⟩, Lib.hid ⟨_, H5.out.1, ?_, H3.out.2.2.2.2.1.keep H5.out.2 (fun e => ?_) (fun k _ hk e => ?_), (HS.out.2.2.1.trans H3.out.2.2.2.1 (fun _ h => .inl h)).trans H5.out.2 (fun k e => .inr (hog k e).1)⟩⟩
        · rw [List.map_append, HS.out.2.1, HS.out.2.2.2.1, ← H3.out.1]; rfl
        · have := hog b e; have := HB2.out; omega
        · have := hog k e; have := hk.1; omega
      case measure => simp [intOf]; omega
    · obtain rfl : i = n := by omega
      have h0 : L.drop i = [] := List.drop_of_length_le (by rw [← HN.out]; exact Nat.le_refl _)
      have h1 : L.take i = L := List.take_of_length_le (by rw [← HN.out]; exact Nat.le_refl _)
      rw [h0] at hc
      rw [h1] at hm
      have hen := curEnd_any wr hc
      have hen2 : curEnd (([] : List Chg).flatMap chgB) 0 = 0 := rfl
      rw [hen2] at hen
      have HEN := Lib.hid hen
      have HF := Lib.hid (And.intro hO (And.intro hm hfr))
      clear hR hO hm hc hfr h0 h1 hen hen2
      go_wp2_with (go_at_call 99; refine HEN.out.mono ?_; rintro e w3 ⟨rfl, rfl⟩)
      go_ret2
      have hz := H1.out.1.size
      have hz2 := H2.out.1.size
      refine ⟨_, _, rfl, HF.out.1.chgs.mono (fun k hk hh => ⟨?_, hk⟩), HF.out.2.1, (H1.out.1.trans H2.out.1 (fun k e => .inr ?_)).trans HF.out.2.2 (fun k e => .inr ?_)⟩
      · rcases hh with hh | hh
        · have hh' : w2.heap.size ≤ k := hh; omega
        · have := HF.out.1.own.own k hh; omega
      · have e' : k = b := e; have := H1.out.2.1; omega
      · have e' : k = b := e; have := H1.out.2.1; omega
end Go.Proofs.YtiinmilfgclddaaGreat

/- table's rows: the keys that begin so, in order. -/
namespace Go.Proofs.YtiinmilfgclddaaGreat
open Go.RowKit Go.ChangeShapes Go.Maps Go.WideMaps Go.Sort
set_option linter.unusedVariables false

set_option maxHeartbeats 1000000 in
theorem hasPrefixLite_any (s p : ByteArray) (w : World) :
    Calls Tryz.prog 141 #[.string s, .string p] w fun e w' => e = .returned (.bool (Lib.hasPrefix s.data.toList p.data.toList)) ∧ w' = w := by
  rw [← Lib.hasPrefix_of_take, ← Lib.size_eq, ← Lib.size_eq]
  go_enter Tryz.func141, Tryz.ntmps141
  go_wp2
  · rename_i h
    go_ret
    refine ⟨?_, rfl⟩
    show Ending.returned (Value.bool ((s.extract 0 p.size).toList == p.toList)) = _
    rw [Lib.extract_toList, Lib.toList_data]
    simp [h]
  · rename_i h
    go_ret
    refine ⟨?_, rfl⟩
    show Ending.returned (Value.bool false) = _
    simp [h]
set_option maxHeartbeats 1000000 in
theorem hasPrefix_any (s p : ByteArray) (w : World) :
    Calls Tryz.prog 113 #[.string s, .string p] w fun e w' => e = .returned (.bool (Lib.hasPrefix s.data.toList p.data.toList)) ∧ w' = w := by
  go_enter Tryz.func113, Tryz.ntmps113
  go_wp2_with (go_at_call 141; refine (hasPrefixLite_any _ _ _).mono ?_; rintro e w' ⟨rfl, hw⟩; rw [hw])
  go_ret
  exact ⟨rfl, rfl⟩
/-- The keys that begin so, in order. -/
def keysP (M : Tab) (P : Bs) : List Bs := (M.filter (fun p => Lib.hasPrefix p.1 P)).map (·.1)
theorem keysP_mem {M : Tab} {P k : Bs} : k ∈ keysP M P ↔ (tGet M k).isSome = true ∧ Lib.hasPrefix k P = true := by
  unfold keysP
  rw [List.mem_map]
  constructor
  · rintro ⟨p, hp, rfl⟩
    obtain ⟨h1, h2⟩ := List.mem_filter.1 hp
    refine ⟨?_, h2⟩
    cases h : tGet M p.1 with
    | none => exact absurd rfl (tGet_none.1 h p h1)
    | some b => rfl
  · rintro ⟨h1, h2⟩
    obtain ⟨b, hb⟩ := Option.isSome_iff_exists.1 h1
    exact ⟨(k, b), List.mem_filter.2 ⟨tGet_mem hb, h2⟩, rfl⟩
theorem keysP_asc {M : Tab} (h : Tab.Ok M) (P : Bs) : (keysP M P).Pairwise (· < ·) := by
  unfold keysP
  rw [List.pairwise_map]
  exact h.filter _
theorem keyS_inv {v : Value} {kl : Lit} (h : keyOf Tryz.prog 9 v = some kl) : ∃ N : ByteArray, v = .string N := by
  cases v <;> simp [keyOf, Tryz.underlying9, mapKey] at h
  exact ⟨_, rfl⟩
theorem lt_range {w : World} {b r n cnt : Nat} {D : DataW Value} {left : Lit → Bool} (h : w.ranges Tryz.prog 9 heldR6 b r n D left cnt) : r < w.heap.size := by
  obtain ⟨es, clock, since, seen, c0, h1, h2, h3, h4, h5, h6⟩ := h
  exact lt_of_block h5
theorem infoStr : (Tryz.prog.info? 9).map (fun i => (i.zero, i.size, i.bytes)) = some (some (.string ⟨#[]⟩), 1, 16) := by kernel_rfl
theorem World.ranges.keep6 {S : Nat → Prop} {w w' : World} {b r n cnt : Nat} {D : DataW Value} {left : Lit → Bool} (h : w.ranges Tryz.prog 9 heldR6 b r n D left cnt) (hf : Fr S w w') (hb : ¬ S b) (hr : ¬ S r) : w'.ranges Tryz.prog 9 heldR6 b r n D left cnt := by
  obtain ⟨es, clock, since, seen, c0, h1, h2, h3, h4, h5, h6⟩ := h
  exact ⟨es, clock, since, seen, c0, hf.heap h1 hb, h2, h3, h4, hf.heap h5 hr, h6⟩
theorem sorted_keys {M : Tab} (hM : Tab.Ok M) (P : Bs) {ks : List Bs} (hn : ks.Nodup) (hk : ∀ k, k ∈ ks ↔ k ∈ keysP M P) : ks.mergeSort (fun x y => decide (x ≤ y)) = keysP M P := by
  have hasc := keysP_asc hM P
  have hnd : (keysP M P).Nodup := hasc.imp (fun h e => bs_ne h e)
  have hp : ks.Perm (keysP M P) := (List.perm_ext_iff_of_nodup hn hnd).2 hk
  have h1 : ks.mergeSort leB = (keysP M P).mergeSort leB := mergeSort_of_perm hp
  refine h1.trans (List.mergeSort_of_pairwise (hasc.imp (fun h => ?_)))
  exact decide_eq_true (List.le_of_lt h)
/-- The strings that are gathered. -/
def encK (k : Bs) : List Value := [encStr k]
theorem encK_str (N : ByteArray) : encK N.data.toList = [.string N] := by simp [encK, encStr]
/-- Keys gathered so far: those that begin so, and have come. -/
structure KeySt (M : Tab) (P : Bs) (z : Nat) (w W : World) (v : Value) (ks : List Bs) (left : Lit → Bool) : Prop where
  own : OwnE 9 1 z W v (ks.map encK)
  nodup : ks.Nodup
  mem : ∀ k, k ∈ ks ↔ k ∈ keysP M P ∧ left (kS k) = false
  left : ∀ k, left (kS k) = true → (tGet M k).isSome = true
  fr : Fr (fun _ => False) w W
/-- Block k is a row of strings, with a first one. -/
def StrB (w : World) (k : Nat) : Prop := ∃ cs fr s, w.heap[k]? = some (.cells cs 9 fr) ∧ cs[0]? = some (Value.string s)
theorem sort_keys {z : Nat} {M : Tab} (hM : Tab.Ok M) (P : Bs) (w : World) (v : Value) (ks : List Bs) (h : OwnE 9 1 z w v (ks.map encK)) (hn : ks.Nodup) (hk : ∀ k, k ∈ ks ↔ k ∈ keysP M P) (hl : ks.length ≤ 1000000) :
    Calls Tryz.prog 114 #[v] w fun e w' => e = .returned (.tuple #[]) ∧ Elems 1 (fun k => z ≤ k) w' v ((keysP M P).map encK) ∧ Fr (fun k => v.ownBlock = some k) w w' ∧ (keysP M P ≠ [] → ∃ g c, v = .slice (some ⟨g, 0, none⟩) (keysP M P).length c ∧ StrB w' g) := by
  have hsk := sorted_keys hM P hn hk
  have hlk : (keysP M P).length = ks.length := by rw [← hsk]; simp
  rcases h.row.2 with ⟨hv, h0⟩ | ⟨g, cap, cur, hv, hb, hg, hnc, hcm, hcs, ht⟩
  · rw [List.length_map] at h0
    obtain rfl := List.eq_nil_of_length_eq_zero h0
    subst hv
    refine (Tryz.slices_Sort_string_none none 0 w).mono ?_
    rintro e w' ⟨rfl, rfl⟩
    have e : keysP M P = [] := List.eq_nil_of_length_eq_zero hlk
    rw [e]
    exact ⟨rfl, Elems.nil _ _ _, Fr.refl _ _, fun h => absurd rfl h⟩
  · subst hv
    rw [List.length_map] at hnc ht ⊢
    have hH : Holds encStr w g 0 ks.toArray := fun j hj => by
      rw [List.size_toArray] at hj
      refine ⟨?_, frozen_of_row _ _ _ _ _ hg⟩
      rw [cell_of_row _ _ _ _ _ _ hg, Nat.zero_add, ← Array.getElem?_toList]
      have e : ks.toArray[j]! = ks[j] := by simp [hj]
      have h1 := flat_get (k := 1) (ks.map encK) (fun c hc => by obtain ⟨p, _, rfl⟩ := List.mem_map.1 hc; rfl) j (by simpa using hj) 0 (by decide)
      rw [← ht, List.getElem?_take, if_pos (by omega), List.getElem_map, show j * 1 + 0 = j by omega] at h1
      rw [h1, e]
      rfl
    have hgl := lt_of_block hg
    refine (Tryz.slices_Sort_string g 0 cap ks w hH hgl (by omega)).mono ?_
    rintro e w' ⟨rfl, m, os, rfl⟩
    rw [hsk]
    have hgm : g < (Sort.ahead w m).heap.size := hgl
    have hHn : Holds encStr (grow (putRow encStr (Sort.ahead w m) g 0 (keysP M P).toArray) os) g 0 (keysP M P).toArray := by
      refine holds_grow encStr _ os g 0 _ (by rw [size_putRow]; exact hgl) (holds_putRow encStr _ g 0 ks.toArray _ hH (by simp [hlk]))
    refine ⟨rfl, ?_, ?_, fun hne => ?_⟩
    · refine ⟨_, cap, by rw [List.length_map, hlk], by rw [List.length_map]; omega, by unfold maxLen at hcm; omega, (fun c hc => by obtain ⟨p, _, rfl⟩ := List.mem_map.1 hc; rfl), fun _ => ⟨g, 0, rfl, hb, fun i hi j hj => ?_⟩⟩
      rw [List.length_map] at hi
      obtain rfl : j = 0 := by omega
      have h1 := (hHn i (by simpa using hi)).1
      rw [show 0 + i * 1 + 0 = 0 + i by omega, h1, List.getElem_map]
      simp [hi, encK]
    · refine ⟨rfl, rfl, rfl, by simp [grow, putRow, mapBlock, Sort.ahead], fun i hi hs => ?_⟩
      have hne : i ≠ g := fun e => hs (by rw [e]; rfl)
      have hi' : i < (putRow encStr (Sort.ahead w m) g 0 (keysP M P).toArray).heap.size := by rw [size_putRow]; exact hi
      rw [heap_grow_old _ _ hi']
      show ((Sort.ahead w m).heap.modify g _)[i]? = _
      rw [Array.getElem?_modify, if_neg (fun e => hne e.symm)]
      rfl
    · have h0 := (hHn 0 (by rw [List.size_toArray]; exact List.length_pos_iff.2 hne)).1
      have hbk : (grow (putRow encStr (Sort.ahead w m) g 0 (keysP M P).toArray) os).heap[g]? = some (.cells (putCells encStr 0 (keysP M P).toArray cur) 9 (0, 0)) := by
        rw [heap_grow_old _ _ (by rw [size_putRow]; exact hgl)]
        show ((Sort.ahead w m).heap.modify g _)[g]? = _
        rw [Array.getElem?_modify, if_pos rfl]
        show Option.map _ w.heap[g]? = _
        rw [hg]
        rfl
      rw [cell_of_row _ _ _ _ _ _ hbk] at h0
      exact ⟨g, cap, by rw [hlk], _, _, _, hbk, h0⟩
theorem sameKey_kS (a b : Bs) : (kS a).sameKey (kS b) = decide (a = b) := by
  simp only [kS, Lit.sameKey]
  by_cases h : a = b
  · simp [h]
  · simp [h]
theorem KeySt.next {M : Tab} {P : Bs} {z : Nat} {w W W' : World} {v v' : Value} {ks : List Bs} {left : Lit → Bool} (H : KeySt M P z w W v ks left) {x : Bs} (hl : left (kS x) = true) (hf : Fr (fun _ => False) w W')
    (hp : (Lib.hasPrefix x P = true ∧ OwnE 9 1 z W' v' (ks.map encK ++ [encK x])) ∨ (Lib.hasPrefix x P = false ∧ OwnE 9 1 z W' v' (ks.map encK))) :
    ∃ ks', KeySt M P z w W' v' ks' (fun y => left y && !y.sameKey (kS x)) ∧ ks'.length = ks.length + (if Lib.hasPrefix x P = true then 1 else 0) := by
  have hnx : x ∉ ks := fun h => by have := ((H.mem x).1 h).2; rw [hl] at this; cases this
  have hleft : ∀ k, (left (kS k) && !(kS k).sameKey (kS x)) = (left (kS k) && !decide (k = x)) := fun k => by rw [sameKey_kS]
  rcases hp with ⟨h1, h2⟩ | ⟨h1, h2⟩
  · refine ⟨ks ++ [x], ⟨by rw [List.map_append]; exact h2, ?_, fun k => ?_, fun k hk => H.left k ?_, hf⟩, by rw [if_pos h1]; simp⟩
    · rw [List.nodup_append]
      exact ⟨H.nodup, by simp, fun a ha b hb e => hnx (by rw [List.mem_singleton.1 hb] at e; exact e ▸ ha)⟩
    · rw [List.mem_append, H.mem k, List.mem_singleton, hleft]
      constructor
      · rintro (⟨h3, h4⟩ | rfl)
        · exact ⟨h3, by rw [h4]; rfl⟩
        · exact ⟨keysP_mem.2 ⟨H.left k hl, h1⟩, by simp⟩
      · rintro ⟨h3, h4⟩
        by_cases e : k = x
        · exact .inr e
        · rw [decide_eq_false e] at h4
          exact .inl ⟨h3, by simpa using h4⟩
    · rw [hleft] at hk
      exact (Bool.and_eq_true_iff.1 hk).1
  · refine ⟨ks, ⟨h2, H.nodup, fun k => ?_, fun k hk => H.left k ?_, hf⟩, by rw [if_neg (by rw [h1]; decide)]; rfl⟩
    · rw [H.mem k, hleft]
      constructor
      · rintro ⟨h3, h4⟩
        exact ⟨h3, by rw [h4]; rfl⟩
      · rintro ⟨h3, h4⟩
        by_cases e : k = x
        · rw [e] at h3
          rw [(keysP_mem.1 h3).2] at h1
          cases h1
        · rw [decide_eq_false e] at h4
          exact ⟨h3, by simpa using h4⟩
    · rw [hleft] at hk
      exact (Bool.and_eq_true_iff.1 hk).1
theorem keysP_le (M : Tab) (P : Bs) : (keysP M P).length ≤ M.length := by unfold keysP; rw [List.length_map]; exact List.length_filter_le _ _
theorem KeySt.le {M : Tab} {P : Bs} {z : Nat} {w W : World} {v : Value} {ks : List Bs} {left : Lit → Bool} (H : KeySt M P z w W v ks left) : ks.length ≤ M.length :=
  Nat.le_trans (H.nodup.length_le_of_subset (fun k hk => ((H.mem k).1 hk).1)) (keysP_le M P)
set_option maxRecDepth 100000 in
set_option maxHeartbeats 2000000 in
theorem keys_any {F : Nat → Prop} {rb mb : Nat} {M : Tab} {T : TypeId} {rest : List Value} (w : World) (h : RwAt F w rb mb M T rest) (P : ByteArray) :
    Calls Tryz.prog 82 #[.pointer (some ⟨rb, 0, none⟩), .string P] w fun e w' => ∃ v, e = .returned v ∧ Elems 1 (fun k => w.heap.size ≤ k) w' v ((keysP M P.data.toList).map encK) ∧ Fr (fun _ => False) w w' ∧ (keysP M P.data.toList ≠ [] → ∃ g c, v = .slice (some ⟨g, 0, none⟩) (keysP M P.data.toList).length c ∧ StrB w' g) := by
  obtain ⟨c0, c1, f1⟩ := h.cells
  obtain ⟨D, hD1, hD2, hD3, hD4⟩ := id h.tm
  have hlt := h.lt
  have HR := Lib.hid h
  have HD := Lib.hid (And.intro hD2 (And.intro hD3 hD4))
  have HLT := Lib.hid hlt
  clear h hD2 hD3 hD4
  go_enter Tryz.func82, Tryz.ntmps82
  go_wp2_with (at_range; refine wpList_range_own _ rfl _ 79 rfl 9 43 strK6 Tryz.underlying79 heldR6 mb _ D rfl hD1 ?_; intro w0 hrg0 hg0 hs0; (have H0 := Lib.hid (And.intro hrg0 (And.intro hg0 hs0))); clear hrg0 hg0 hs0)
  go_frame
  go_loopw [5] (fun lv wr => ∃ (ks : List Bs) (left : Lit → Bool) (cnt : Nat), (∃ ao c, lv = .slice ao ks.length c) ∧ Hid (wr.ranges Tryz.prog 9 heldR6 mb w.heap.size M.length D left cnt ∧ KeySt M P.data.toList (w.heap.size + 1) w wr lv ks left)) (fun _ wr => wr.rangeLeft mb w.heap.size)
  case atStart =>
    have hf0 : Fr (fun _ => False) w w0 := (Fr.refl _ w).grown H0.out.2.1 (fun k hk => by cases hk)
    refine ⟨[], _, _, ⟨none, 0, rfl⟩, Lib.hid ⟨H0.out.1, ⟨OwnE.nil _ _ _ _, List.Pairwise.nil, fun k => ⟨(fun h => by cases h), fun h => ?_⟩, fun k hk => by rw [← HD.out.2.1 k]; exact hk, hf0⟩⟩⟩
    have h1 := (keysP_mem.1 h.1).1
    rw [← HD.out.2.1 k, h.2] at h1
    cases h1
  case round =>
    obtain ⟨ks, left, cnt, ⟨ao, c, rfl⟩, hR⟩ := hrel
    go_wp2_with (at_next; refine wpList_next_ranges (α := ByteArray) (β := Value) _ rfl _ rfl 9 strK6 heldR6 Value.string id (fun key kl h => keyS_inv h) (fun v y h => ⟨v, rfl⟩) mb w.heap.size M.length D left cnt rfl hR.out.1 ?_ ?_)
    · intro hc0 hl0
      have hks : ∀ k, k ∈ ks ↔ k ∈ keysP M P.data.toList := fun k => by rw [hR.out.2.mem k]; exact ⟨fun h => h.1, fun h => ⟨h, hl0 _⟩⟩
      have hlk : ks.length ≤ 1000000 := by
        have h1 := (List.perm_ext_iff_of_nodup hR.out.2.nodup ((keysP_asc HR.out.ok.1 P.data.toList).imp (fun h e => bs_ne h e))).2 hks
        have h2 : (keysP M P.data.toList).length ≤ M.length := by unfold keysP; rw [List.length_map]; exact List.length_filter_le _ _
        have := HR.out.small
        rw [h1.length_eq]; omega
      have HS := Lib.hid (sort_keys HR.out.ok.1 P.data.toList wr _ ks hR.out.2.own hR.out.2.nodup hks hlk)
      clear hks hlk hl0 hc0
      go_wp2_with (go_at_call 114; refine HS.out.mono ?_; rintro e w3 ⟨rfl, he3, hf3⟩; (have H3 := Lib.hid (And.intro he3 hf3)); clear he3 hf3)
      go_ret
      exact ⟨_, rfl, H3.out.1.mono (by decide) (fun k _ hk => by omega), hR.out.2.fr.trans H3.out.2.1 (fun k hk => .inr (by have := hR.out.2.own.own k hk; omega)), H3.out.2.2⟩
    · intro x cv kl ya yb w1 cnt1 hkey hlk hv hat hrg1 hlt1 hg1 hs1 hen
      obtain ⟨x', hx', hkl, _⟩ := Maps.keyOf_str Tryz.underlying9 hkey
      have hxe : x.data.toList = x' := by have := Value.string.inj hx'; rw [this]
      rw [← hxe] at hkl
      have hkl2 : kl = kS x.data.toList := hkl
      subst hkl2
      have hf1 : Fr (fun k => k = w.heap.size) wr w1 := (Fr.refl _ wr).grown hg1 (fun k hk => .inl (by injection hk with hk; exact hk.symm))
      have hfw1 : Fr (fun _ => False) w w1 := hR.out.2.fr.trans hf1 (fun k hk => .inr (by rw [show k = w.heap.size from hk]; exact Nat.le_refl _))
      have hown1 := hR.out.2.own.keep hf1 (fun g hg e => by have := hR.out.2.own.own g hg; have e2 : g = w.heap.size := e; omega)
      have hle := hR.out.2.le
      have hsm := HR.out.small
      have H1 := Lib.hid (And.intro hrg1 (And.intro hfw1 (And.intro hown1 (And.intro hlk (And.intro hlt1 (And.intro hR.out.2 (And.intro hR.out.1 hs1)))))))
      have HLE := Lib.hid (Nat.le_trans hle hsm)
      have hpl := hasPrefix_any x P
      obtain ⟨q, hq⟩ : ∃ q, q = Lib.hasPrefix x.data.toList P.data.toList := ⟨_, rfl⟩
      rw [← hq] at hpl
      have HPL := Lib.hid hpl
      have HQ := Lib.hid hq
      clear hR hkey hlk hv hat hrg1 hlt1 hg1 hs1 hx' hkl hxe hf1 hfw1 hown1 hle hsm hpl hq
      cases q with
      | true =>
        go_wp2_with (first
          | (go_at_call 113; refine (HPL.out _).mono ?_; rintro e w3 ⟨rfl, rfl⟩)
          | (at_builtin; refine wpList_append_e (T := 9) (z := w.heap.size + 1) Tryz.underlying37 infoStr rfl (by decide) (by decide) (w3.alloc (.cells #[.string x] 9)) rfl (.tmp 19) (.tmp 21) rfl (.slice ao ks.length c) _ (ks.map encK) [[.string x]] rfl rfl (H1.out.2.2.1.keep ((Fr.refl (fun _ => False) w3).alloc _) (fun _ _ h => h)) (Elems.ofBlock (c := [.string x]) (heap_alloc_new w3 _) rfl) (fun c hc u hu => by rw [List.mem_singleton.1 hc] at hu; rw [List.mem_singleton.1 hu]; rfl) (by have := H1.out.2.1.size; simp; have := H1.out.2.2.2.2.2.2.2; have := lt_range H1.out.2.2.2.2.2.2.1; omega) (by rw [List.length_map]; have := HLE.out; simp; omega) ?_; intro v5 w5 ho5 hg5 hb5; (obtain ⟨a5, c5, rfl⟩ := ho5.form); (have H5 := Lib.hid (And.intro ho5 (And.intro hg5 hb5))); clear ho5 hg5 hb5))
        go_roundw
        case rel =>
          have hf5 : Fr (fun k => (Value.slice ao ks.length c).ownBlock = some k) w3 w5 := ((Fr.refl _ w3).alloc _).grown H5.out.2.1 (fun k hk => .inl hk)
          have hog := H1.out.2.2.1.own
          have hfw5 : Fr (fun _ => False) w w5 := H1.out.2.1.trans hf5 (fun k hk => .inr (by have := hog k hk; omega))
          obtain ⟨ks', hk1, hk2⟩ := H1.out.2.2.2.2.2.1.next (x := x.data.toList) H1.out.2.2.2.1 hfw5 (.inl ⟨HQ.out.symm, by rw [encK_str]; exact H5.out.1⟩)
          have hln : ks'.length = ks.length + 1 := by rw [hk2, if_pos HQ.out.symm]
          rw [show (ks.map encK ++ [[Value.string x]]).length = ks.length + 1 by simp] at hk1
          rw [← hln] at hk1 ⊢
          exact ⟨ks', _, cnt1, ⟨a5, c5, rfl⟩, Lib.hid ⟨World.ranges.keep6 H1.out.1 hf5 (fun e => by have := hog mb e; have := HLT.out.2; omega) (fun e => by have := hog _ e; omega), hk1⟩⟩
        case measure =>
          have hf5 : Fr (fun k => (Value.slice ao ks.length c).ownBlock = some k) w3 w5 := ((Fr.refl _ w3).alloc _).grown H5.out.2.1 (fun k hk => .inl hk)
          have hog := H1.out.2.2.1.own
          have h5 := World.ranges.keep6 H1.out.1 hf5 (fun e => by have := hog mb e; have := HLT.out.2; omega) (fun e => by have := hog _ e; omega)
          rw [World.ranges.left_eq h5, World.ranges.left_eq H1.out.2.2.2.2.2.2.1]
          exact H1.out.2.2.2.2.1
      | false =>
        go_wp2_with (first
          | (go_at_call 113; refine (HPL.out _).mono ?_; rintro e w3 ⟨rfl, rfl⟩))
        go_roundw
        case rel =>
          obtain ⟨ks', hk1, hk2⟩ := H1.out.2.2.2.2.2.1.next (x := x.data.toList) H1.out.2.2.2.1 H1.out.2.1 (.inr ⟨HQ.out.symm, H1.out.2.2.1⟩)
          have hln : ks'.length = ks.length := by rw [hk2, if_neg (by rw [← HQ.out]; decide)]; rfl
          rw [← hln] at hk1 ⊢
          exact ⟨ks', _, cnt1, ⟨ao, c, rfl⟩, Lib.hid ⟨H1.out.1, hk1⟩⟩
        case measure =>
          rw [World.ranges.left_eq H1.out.1, World.ranges.left_eq H1.out.2.2.2.2.2.2.1]
          exact H1.out.2.2.2.2.1
end Go.Proofs.YtiinmilfgclddaaGreat

