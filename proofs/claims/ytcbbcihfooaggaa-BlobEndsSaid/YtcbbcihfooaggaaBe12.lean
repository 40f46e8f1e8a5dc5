/- Laid together: RMarks BJoin BFree -/
import Derived.Test.YtcbbcihfooaggaaBe11
import Derived.Deep.OwnRows

namespace Go.Proofs.Ytcbbcihfooaggaa
open Go.RowKit Go.ChangeShapes Go.Deep
set_option linter.unusedVariables false
def bits7 (d : Nat) (S : List Nat) : Array Value := ((List.range d).map (fun k => Value.bool (decide (k ∈ S)))).toArray
theorem bits7_get {d : Nat} {S : List Nat} {k : Nat} (h : k < d) : (bits7 d S)[k]? = some (.bool (decide (k ∈ S))) := by simp [bits7, h]
theorem bits7_nil (d : Nat) : bits7 d [] = Array.replicate d (.bool false) := by
  apply Array.ext
  · simp [bits7]
  · intro i h1 h2
    simp [bits7]
theorem bits7_put {d : Nat} {S : List Nat} {x : Nat} (h : x < d) : (bits7 d S).setIfInBounds x (.bool true) = bits7 d (S ++ [x]) := by
  apply Array.ext
  · simp [bits7]
  · intro i h1 h2
    simp only [bits7, List.setIfInBounds_toArray, List.getElem_toArray, List.getElem_set, List.getElem_map, List.getElem_range]
    by_cases e : x = i
    · subst e; simp
    · have e' : ¬ i = x := fun h => e h.symm
      simp [e, e']
set_option maxRecDepth 100000 in
theorem rMarks_no (w : World) (L A D : Int) (v : Value) (h : rightS L A D = false) :
    Calls Try.prog 44 #[.agg #[.int .i64 L, .int .i64 A, .int .i64 D], v] w fun e w' => e = .returned (.tuple #[.slice none 0 0, .bool false]) ∧ Fr (fun _ => False) w w' := by
  have hr := fun W => rRight_any W L A D
  rw [h] at hr
  have HR := Lib.hid hr
  clear hr h
  go_enter Try.func44, Try.ntmps44
  go_wp2_with (go_at_call 39; refine (HR.out _).mono ?_; rintro e w1 ⟨rfl, hf⟩; (have H1 := Lib.hid hf); clear hf)
  go_ret2
  exact ⟨rfl, ((Fr.refl (fun _ => False) w).alloc _).trans H1.out (fun _ h => h.elim)⟩
theorem rRight_yes {l la d s : Nat} (hs : ShOk l la d s) (w : World) :
    Calls Try.prog 39 #[.agg #[.int .i64 l, .int .i64 la, .int .i64 d]] w fun e w' => e = .returned (.bool true) ∧ Fr (fun _ => False) w w' := by
  have h' := rRight_any w l la d
  rwa [rightS_nat hs.l1 hs.a1 hs.d1 (by have := hs.sum; have := hs.most; omega)] at h'
set_option maxRecDepth 100000 in
theorem rMarks_long (w : World) (l la d s : Nat) (ao : Option Addr) (n cap : Nat) (hs : ShOk l la d s) (hn : d < n) :
    Calls Try.prog 44 #[.agg #[.int .i64 l, .int .i64 la, .int .i64 d], .slice ao n cap] w fun e w' => e = .returned (.tuple #[.slice none 0 0, .bool false]) ∧ Fr (fun _ => False) w w' := by
  have HR := Lib.hid (rRight_yes hs)
  have hrow : (w.alloc (.cells #[.int .i64 l, .int .i64 la, .int .i64 d] 23)).heap[w.heap.size]? = some (.cells #[.int .i64 l, .int .i64 la, .int .i64 d] 23 (0, 0)) := heap_alloc_new w _
  have HRW := Lib.hid hrow
  have hgt : (d : Int) < (n : Int) := by omega
  clear hrow hs
  go_enter Try.func44, Try.ntmps44
  go_wp2_with (go_at_call 39; refine (HR.out _).mono ?_; rintro e w1 ⟨rfl, hf⟩; (have k2 : w1.cell? ⟨w.heap.size, 2, none⟩ = some (.int .i64 (d : Int)) := cell_of_row _ _ _ _ _ _ (hf.heap HRW.out id)); (have H1 := Lib.hid hf); clear hf)
  go_ret2
  exact ⟨rfl, ((Fr.refl (fun _ => False) w).alloc _).trans H1.out (fun _ h => h.elim)⟩
theorem infoBool : (Try.prog.info? 4).map (fun i => (i.zero, i.size, i.bytes)) = some (some (.bool false), 1, 1) := by kernel_rfl
theorem run_make_bools (w : World) (n : Nat) (hn : n ≤ 1000000) :
    (Instr.makeSlice 84 (.int .i64 (n : Int)) (.int .i64 (n : Int))).run Try.prog w = .ok (.slice (some ⟨w.heap.size, 0, none⟩) n n) (w.alloc (.cells (bits7 n []) 4)) := by
  have h := run_make_row' (P := Try.prog) 84 4 (.bool false) 1 Try.underlying84 infoBool rfl .i64 .i64 n (by omega) (by omega) w
  have e : madeCells #[Value.bool false] n = bits7 n [] := by
    rw [bits7_nil]
    apply Array.ext'
    simp only [madeCells, Array.toList_map, Array.toList_range]
    apply List.ext_getElem
    · simp
    · intro k h1 h2
      simp [Nat.mod_one]
  rw [h, e]
theorem not_apart_of {d : Nat} {L : List Rn} {i : Nat} (hi : i < L.length) (h : apart7 d (L.take (i + 1)) = false) : apart7 d L = false := by
  cases hap : apart7 d L with
  | false => rfl
  | true =>
    have h8 := apart7_left (l := L.take (i + 1)) (m := L.drop (i + 1)) (by rw [List.take_append_drop]; exact hap)
    rw [h8] at h
    cases h
structure MkSt (w W : World) (g d : Nat) (S : List Nat) : Prop where
  row : W.heap[g]? = some (.cells (bits7 d S) 4 (0, 0))
  fr : Fr (fun _ => False) w W
def MarksPost (w : World) (d : Nat) (L : List Rn) (e : Ending) (w' : World) : Prop :=
  ((apart7 d L = true ∧ ∃ g, w.heap.size ≤ g ∧ e = .returned (.tuple #[.slice (some ⟨g, 0, none⟩) d d, .bool true]) ∧ w'.heap[g]? = some (.cells (bits7 d (secs7 L)) 4 (0, 0))) ∨ (apart7 d L = false ∧ e = .returned (.tuple #[.slice none 0 0, .bool false]))) ∧ Fr (fun _ => False) w w'
set_option maxRecDepth 100000 in
set_option maxHeartbeats 4000000 in
theorem rMarks_ok {F : Nat → Prop} (w : World) (l la d s : Nat) (v : Value) (L : List Rn) (hs : ShOk l la d s) (hL : RnsIn F w v L) (hF : ∀ k, F k → k < w.heap.size) (hn : L.length ≤ d) :
    Calls Try.prog 44 #[.agg #[.int .i64 l, .int .i64 la, .int .i64 d], v] w (MarksPost w d L) := by
  have hd : d ≤ 8192 := by have := hs.sum; have := hs.most; omega
  have HR := Lib.hid (rRight_yes hs)
  obtain ⟨W1, hW1⟩ : ∃ W1, W1 = w.alloc (.cells #[.int .i64 l, .int .i64 la, .int .i64 d] 23) := ⟨_, rfl⟩
  have hf1 : Fr (fun _ => False) w W1 := by rw [hW1]; exact (Fr.refl _ _).alloc _
  have hrow : W1.heap[w.heap.size]? = some (.cells #[.int .i64 l, .int .i64 la, .int .i64 d] 23 (0, 0)) := by rw [hW1]; exact heap_alloc_new w _
  have HW := Lib.hid hW1
  obtain ⟨ao, cap, rfl, hc1, hc2, b, off, hao, hcells⟩ := hL.open7
  obtain ⟨n, hnn⟩ : ∃ n, n = L.length := ⟨_, rfl⟩
  rw [← hnn] at hc1 hao hL hn ⊢
  have HX := Lib.hid (And.intro hf1 (And.intro hrow (And.intro hnn (And.intro hL (And.intro hF hs)))))
  have HAO := Lib.hid hao
  have HCE := Lib.hid hcells
  have hngt : decide (d < n) = false := by rw [decide_eq_false_iff_not]; omega
  have hd0 : (0 : Int) ≤ (d : Int) := by omega
  have hmk := fun W => run_make_bools W d (by omega)
  clear hW1 hf1 hrow hnn hL hF hs hao hcells
  go_enter Try.func44, Try.ntmps44
  go_wp2_with (go_at_call 39; rw [← HW.out]; refine (HR.out _).mono ?_; rintro e w1 ⟨rfl, hf⟩; (have k2 : w1.cell? ⟨w.heap.size, 2, none⟩ = some (.int .i64 (d : Int)) := cell_of_row _ _ _ _ _ _ (hf.heap HX.out.2.1 id)); (have H1 := Lib.hid hf); clear hf)
  clear hmk
  obtain ⟨g, hg⟩ : ∃ g, g = w1.heap.size := ⟨_, rfl⟩
  obtain ⟨W2, hW2⟩ : ∃ W2, W2 = w1.alloc (.cells (bits7 d []) 4) := ⟨_, rfl⟩
  have hf2 : Fr (fun _ => False) w W2 := by rw [hW2]; exact (HX.out.1.trans H1.out (fun _ h => h.elim)).alloc _
  have hst0 : MkSt w W2 g d (secs7 (L.take 0)) := ⟨by rw [hW2, hg]; exact heap_alloc_new w1 _, hf2⟩
  have hs2 : W2.heap[w.heap.size]? = some (.cells #[.int .i64 l, .int .i64 la, .int .i64 d] 23 (0, 0)) := by rw [hW2]; exact ((Fr.refl (fun _ => False) w1).alloc _).heap (H1.out.heap HX.out.2.1 id) id
  have hgz : w.heap.size + 1 ≤ g := by have h8 := H1.out.size; have h9 := lt_of_block HX.out.2.1; rw [hg]; omega
  rw [← hg, ← hW2]
  have HG := Lib.hid (And.intro hgz (show g < W2.heap.size by rw [hW2, hg]; simp))
  clear hg hW2 hf2 hgz k2
  go_loopw [7] (fun iv wr => ∃ i : Nat, i ≤ n ∧ iv = .int .i64 i ∧ Hid (MkSt w wr g d (secs7 (L.take i)) ∧ apart7 d (L.take i) = true ∧ wr.heap[w.heap.size]? = some (.cells #[.int .i64 l, .int .i64 la, .int .i64 d] 23 (0, 0)))) (fun iv _ => n - (intOf iv).toNat)
  case atStart => exact ⟨0, by omega, rfl, Lib.hid ⟨hst0, apart7_nil d, hs2⟩⟩
  case round =>
    clear hst0 hs2
    obtain ⟨i, hi, rfl, hR⟩ := hrel
    by_cases hlt : i < n
    · have hiL : i < L.length := by have := HX.out.2.2.1; omega
      obtain ⟨rfl, hFb⟩ := HAO.out (by omega)
      have hce := HCE.out i hiL
      have f0 := hR.out.1.fr.cell hce.1 id
      have f1 := hR.out.1.fr.cell hce.2 id
      have hbd := HX.out.2.2.2.1.2 _ (List.getElem_mem hiL)
      obtain ⟨x, hx⟩ : ∃ x, x = L[i].1 := ⟨_, rfl⟩
      obtain ⟨y, hy⟩ : ∃ y, y = L[i].2 := ⟨_, rfl⟩
      rw [← hx] at f0 hbd
      rw [← hy] at f1 hbd
      have hxy : L[i] = (x, y) := by rw [hx, hy]
      obtain ⟨d1, d2, d3, d4⟩ := hbd
      obtain ⟨bo, hbo⟩ : ∃ bo, rnOk d (x, y) = bo := ⟨_, rfl⟩
      have hrun := fun W => rRun_any W d x y hd d1 d2 d3 d4
      rw [hbo] at hrun
      have HRUN := Lib.hid hrun
      have k2 : wr.cell? ⟨w.heap.size, 2, none⟩ = some (.int .i64 (d : Int)) := cell_of_row _ _ _ _ _ _ hR.out.2.2
      have hlt64 : (i : Int) < (n : Int) := by omega
      have hltn : i < n := hlt
      have hi0 : (0 : Int) ≤ (i : Int) := by omega
      have hti : (i : Int).toNat = i := by omega
      have HS1 := Lib.hid (show secs7 (L.take (i + 1)) = secs7 (L.take i) ++ rnSecs (x, y) by rw [List.take_succ_eq_append_getElem hiL, secs7_append, secs7_one, hxy])
      have HLI := Lib.hid (And.intro hiL hxy)
      clear hrun hce hx hy hxy
      go_wp2
      go_region_held3 (fun w' => w'.cell? ⟨w.heap.size, 2, none⟩ = some (.int .i64 (d : Int)) ∧ w'.cell? ⟨b, off + i * 2, none⟩ = some (.int .i64 x) ∧ w'.cell? ⟨b, off + i * 2 + 1, none⟩ = some (.int .i64 y)) (first | exact ⟨by assumption, by assumption, by assumption⟩ | go_keep)
        ((go_at_call 70; refine (HRUN.out _).mono ?_; rintro e w3 ⟨rfl, hf3⟩; (have k3 := hf3.cell k2 id); (have g0 := hf3.cell f0 id); (have g1 := hf3.cell f1 id); (have H3 := Lib.hid hf3); clear hf3))
      have hf3 : Fr (fun _ => False) wr w3 := (Fr.refl (fun _ => False) wr).drew.trans H3.out (fun _ h => h.elim)
      cases bo with
      | false =>
        have HE := Lib.hid (show apart7 d L = false ∧ Fr (fun _ => False) w w3 from ⟨not_apart_of HLI.out.1 (by
          cases h9 : apart7 d (L.take (i + 1)) with
          | false => rfl
          | true =>
            have := (apart7_iff.1 h9).1 (x, y) (by rw [List.take_succ_eq_append_getElem HLI.out.1, HLI.out.2]; simp)
            rw [hbo] at this
            cases this), hR.out.1.fr.trans hf3 (fun _ h => h.elim)⟩)
        clear hf3 hbo
        go_wp2
        go_ret2
        exact ⟨.inr ⟨HE.out.1, rfl⟩, HE.out.2⟩
      | true =>
        obtain ⟨a, m, hxy2, hm1, ham⟩ := rnOk_nat hbo
        simp only [Prod.mk.injEq] at hxy2
        obtain ⟨rfl, rfl⟩ := hxy2
        obtain ⟨S, hS⟩ : ∃ S, S = secs7 (L.take i) := ⟨_, rfl⟩
        have hmst : MkSt w w3 g d (S ++ (List.range 0).map (a + ·)) := by
          refine ⟨?_, hR.out.1.fr.trans hf3 (fun _ h => h.elim)⟩
          rw [hS, List.range_zero, List.map_nil, List.append_nil]
          exact hf3.heap hR.out.1.row id
        have hsr := hf3.heap hR.out.2.2 id
        have hnd0 : (S ++ (List.range 0).map (a + ·)).Nodup := by
          rw [hS, List.range_zero, List.map_nil, List.append_nil]
          exact (apart7_iff.1 hR.out.2.1).2
        have HI0 := Lib.hid (And.intro hmst (And.intro hnd0 hsr))
        have HS := Lib.hid (And.intro hS hbo)
        have hsz3 : W2.heap.size ≤ w3.heap.size ∨ True := .inr trivial
        clear hf3 hbo hS hmst hsr hnd0 k2 k3 f0 f1 hsz3
        go_wp2
        go_loopw [8] (fun kv wr => ∃ k : Nat, k ≤ m ∧ kv = .int .i64 k ∧ Hid (MkSt w wr g d (S ++ (List.range k).map (a + ·)) ∧ (S ++ (List.range k).map (a + ·)).Nodup ∧ wr.heap[w.heap.size]? = some (.cells #[.int .i64 l, .int .i64 la, .int .i64 d] 23 (0, 0)))) (fun kv _ => m - (intOf kv).toNat)
        case atStart => exact ⟨0, by omega, rfl, HI0⟩
        case round =>
          clear HI0 g0 g1
          obtain ⟨k, hk, rfl, hK⟩ := hrel
          have hce := HCE.out i HLI.out.1
          rw [HLI.out.2] at hce
          have g0 : wr.cell? ⟨b, off + i * 2, none⟩ = some (.int .i64 (a : Int)) := hK.out.1.fr.cell hce.1 id
          have g1 : wr.cell? ⟨b, off + i * 2 + 1, none⟩ = some (.int .i64 (m : Int)) := hK.out.1.fr.cell hce.2 id
          clear hce
          by_cases hlk : k < m
          · obtain ⟨q, hq⟩ : ∃ q, q = a + k := ⟨_, rfl⟩
            have hqi : (a : Int) + (k : Int) = (q : Nat) := by omega
            have hqd : q < d := by omega
            have hq0 : (0 : Int) ≤ (q : Int) := by omega
            have hqd2 : (q : Int) < (d : Int) := by omega
            have hqt : (q : Int).toNat = q := by omega
            have hkm : (k : Int) < (m : Int) := by omega
            have hq8 : q ≤ 8192 := by omega
            have hcell : wr.cell? ⟨g, q, none⟩ = some (.bool (decide (q ∈ S ++ (List.range k).map (a + ·)))) := by rw [cell_of_row _ _ _ _ _ _ hK.out.1.row, bits7_get hqd]
            have hfz : wr.frozen? ⟨g, q, none⟩ = false := by simp [World.frozen?, hK.out.1.row]
            by_cases hin : q ∈ S ++ (List.range k).map (a + ·)
            · rw [decide_eq_true hin] at hcell
              have HE := Lib.hid (show apart7 d L = false from not_apart_of HLI.out.1 (by
                cases h9 : apart7 d (L.take (i + 1)) with
                | false => rfl
                | true =>
                  exfalso
                  have h8 := (apart7_iff.1 h9).2
                  rw [HS1.out, ← HS.out.1, rnSecs_nat] at h8
                  have hsp : List.range m = List.range k ++ (List.range (m - k)).map (k + ·) := by rw [← List.range_add]; congr 1; omega
                  rw [hsp, List.map_append, ← List.append_assoc, List.nodup_append] at h8
                  exact h8.2.2 q hin q (by rw [hq, List.map_map, List.mem_map]; exact ⟨0, List.mem_range.2 (by omega), by simp⟩) rfl))
              have HF := Lib.hid hK.out.1.fr
              clear hin hq hK hfz
              go_wp2
              go_ret2
              exact ⟨.inr ⟨HE.out, rfl⟩, HF.out⟩
            · rw [decide_eq_false hin] at hcell
              have hf9 := Fr.cell1 wr g q (.bool true)
              have hrow9 := cell_put (i := q) (.bool true) hK.out.1.row
              rw [bits7_put hqd] at hrow9
              have hsn : S ++ (List.range (k + 1)).map (a + ·) = S ++ (List.range k).map (a + ·) ++ [q] := by rw [List.range_succ, List.map_append, ← List.append_assoc, hq]; rfl
              have HI := Lib.hid (show MkSt w (wr.setCell ⟨g, q, none⟩ (.bool true)) g d (S ++ (List.range (k + 1)).map (a + ·)) ∧ (S ++ (List.range (k + 1)).map (a + ·)).Nodup ∧ (wr.setCell ⟨g, q, none⟩ (.bool true)).heap[w.heap.size]? = some (.cells #[.int .i64 l, .int .i64 la, .int .i64 d] 23 (0, 0)) from by
                rw [hsn]
                refine ⟨⟨hrow9, hK.out.1.fr.trans hf9 (fun j e => .inr (by have := HG.out.1; have : j = g := e; omega))⟩, ?_, hf9.heap hK.out.2.2 (fun e => by have := HG.out.1; omega)⟩
                rw [List.nodup_append]
                refine ⟨hK.out.2.1, by simp, fun u hu z hz e => ?_⟩
                subst e
                rw [List.mem_singleton.1 hz] at hu
                exact hin hu)
              clear hin hq hK hf9 hrow9 hsn
              go_wp2
              go_roundw
              case rel => exact ⟨k + 1, by omega, by go_num, HI⟩
              case measure => simp [intOf]; omega
          · obtain rfl : k = m := by omega
            have HI := Lib.hid (show MkSt w wr g d (secs7 (L.take (i + 1))) ∧ apart7 d (L.take (i + 1)) = true ∧ wr.heap[w.heap.size]? = some (.cells #[.int .i64 l, .int .i64 la, .int .i64 d] 23 (0, 0)) from by
              have e : S ++ (List.range k).map (a + ·) = secs7 (L.take (i + 1)) := by rw [HS1.out, ← HS.out.1, rnSecs_nat]
              rw [← e]
              refine ⟨hK.out.1, ?_, hK.out.2.2⟩
              rw [apart7_iff]
              refine ⟨fun r hr => ?_, by rw [← e]; exact hK.out.2.1⟩
              rw [List.take_succ_eq_append_getElem HLI.out.1] at hr
              rcases List.mem_append.1 hr with hr | hr
              · exact (apart7_iff.1 hR.out.2.1).1 r hr
              · rw [List.mem_singleton.1 hr, HLI.out.2]; exact HS.out.2)
            clear hK
            go_wp2
            go_roundw
            case rel => exact ⟨i + 1, by omega, by go_num, HI⟩
            case measure => simp [intOf]; omega
    · obtain rfl : i = n := by omega
      have HI := Lib.hid (show apart7 d L = true ∧ MkSt w wr g d (secs7 L) from by
        have e : L.take i = L := List.take_of_length_le (by have := HX.out.2.2.1; omega)
        have h1 := hR.out
        rw [e] at h1
        exact ⟨h1.2.1, h1.1⟩)
      clear hR
      go_wp2
      go_ret2
      exact ⟨.inl ⟨HI.out.1, g, by have := HG.out.1; omega, rfl, HI.out.2.row⟩, HI.out.2.fr⟩
end Go.Proofs.Ytcbbcihfooaggaa
namespace Go.Proofs.Ytcbbcihfooaggaa
open Go.RowKit Go.ChangeShapes
set_option linter.unusedVariables false
attribute [local go_sem] Oper.semAt_some
theorem OwnRn.last {z : Nat} {w : World} {g cap : Nat} {l : List Rn} {r : Rn} (h : OwnRn z w (.slice (some ⟨g, 0, none⟩) (l.length + 1) cap) (l ++ [r])) :
    w.cell? ⟨g, l.length * 2, none⟩ = some (.int .i64 r.1) ∧ w.cell? ⟨g, l.length * 2 + 1, none⟩ = some (.int .i64 r.2) ∧ w.frozen? ⟨g, l.length * 2 + 1, none⟩ = false := by
  obtain ⟨ao, cap2, hv, _, _, _, h4⟩ := OwnE.elems h
  obtain ⟨b, off, ha, hF, hi⟩ := h4 (by simp)
  simp only [Value.slice.injEq] at hv
  rw [← hv.1] at ha
  simp only [Option.some.injEq, Addr.mk.injEq, and_true] at ha
  obtain ⟨rfl, rfl⟩ := ha
  have g0 := hi l.length (by simp) 0 (by decide)
  have g1 := hi l.length (by simp) 1 (by decide)
  refine ⟨by simpa [rnC] using g0, by simpa [rnC] using g1, ?_⟩
  rcases OwnRn.block h with ⟨hv, _⟩ | ⟨g', cap', cur, hv, _, hg, _⟩
  · cases hv
  · simp only [Value.slice.injEq, Option.some.injEq, Addr.mk.injEq, and_true] at hv
    rw [← hv.1] at hg
    simp [World.frozen?, hg]
theorem OwnRn.grow {z : Nat} {w : World} {g cap : Nat} {l : List Rn} {r : Rn} (h : OwnRn z w (.slice (some ⟨g, 0, none⟩) (l.length + 1) cap) (l ++ [r])) (y : Int) :
    OwnRn z (w.setCell ⟨g, l.length * 2 + 1, none⟩ (.int .i64 y)) (.slice (some ⟨g, 0, none⟩) (l.length + 1) cap) (l ++ [(r.1, y)]) := by
  rcases OwnRn.block h with ⟨hv, _⟩ | ⟨g', cap', cur, hv, hz, hg, hn, hc, hs, ht⟩
  · cases hv
  · simp only [Value.slice.injEq, Option.some.injEq, Addr.mk.injEq, and_true] at hv
    obtain ⟨rfl, hln, rfl⟩ := hv
    have hll : (l ++ [r]).length = l.length + 1 := by simp
    rw [hll] at ht hn
    refine ⟨⟨?_, .inr ⟨g, cap, _, ?_, hz, cell_put _ hg, ?_, ?_, ?_, ?_⟩⟩, rnC_len _⟩
    · rw [flat_len _ (rnC_len _)]
    · rw [List.length_map]; simp
    · rw [List.length_map]; simpa using hn
    · unfold maxLen; omega
    · rw [Array.size_setIfInBounds]; exact hs
    · rw [List.length_map]
      have h2 : (l ++ [(r.1, y)]).length = l.length + 1 := by simp
      rw [h2]
      have hcl : cur.toList.length = cap * 2 := by rw [Array.length_toList]; exact hs
      have hlen : (l.map rnC).flatten.length = l.length * 2 := by rw [flat_len _ (rnC_len _), List.length_map]
      apply List.ext_getElem?
      intro j
      rw [List.getElem?_take]
      have ht2 := congrArg (fun t => t[j]?) ht
      simp only [List.getElem?_take] at ht2
      by_cases hj : j < (l.length + 1) * 2
      · rw [if_pos hj] at ht2 ⊢
        rw [Array.toList_setIfInBounds, List.getElem?_set]
        by_cases e : l.length * 2 + 1 = j
        · rw [if_pos e, if_pos (by rw [hcl]; omega)]
          subst e
          rw [List.map_append, List.flatten_append, List.getElem?_append_right (by omega), hlen]
          simp [rnC]
        · rw [if_neg e, ht2, List.map_append, List.flatten_append, List.map_append, List.flatten_append]
          by_cases hj2 : j < l.length * 2
          · rw [List.getElem?_append_left (by omega), List.getElem?_append_left (by omega)]
          · rw [List.getElem?_append_right (by omega), List.getElem?_append_right (by omega), hlen, show j - l.length * 2 = 0 by omega]
            simp [rnC]
      · rw [if_neg hj, List.getElem?_eq_none]
        rw [flat_len _ (rnC_len _), List.length_map, h2]
        omega
theorem op_append7 {w w' : World} {o : Oper} {a : Act} {s x : Operand} {ST : TypeId} {v y u : Value} (ho : o.op = Op.call { callee := Callee.builtin Builtin.append, args := #[s, x], argTypes := #[ST, ST] }) (hs : a.eval s = v) (hx : a.eval x = y) (hr : (Builtin.append_ #[ST, ST] o.type #[v, y]).run Try.prog w = .ok u w') : (execOp a.eval o).run Try.prog w = .ok (.value u) w' := by
  simp [execOp, ho, resolve, invoke, builtin, hs, hx, hr, Result.andThen]
theorem wpList_append_rn {z : Nat} (w : World) {ops : Array Oper} {rest : List Oper} {o : Oper} {a : Act} {Q : Exit → Act → World → Prop} (hgd : o.guard = none) (s x : Operand)
    (hop : o.op = Op.call { callee := Callee.builtin Builtin.append, args := #[s, x], argTypes := #[24, 24] })
    (v : Value) (l : List Rn) (r : Rn) (b : Nat) (hs : a.eval s = v) (hx : a.eval x = .slice (some ⟨b, 0, none⟩) 1 1) (hb : w.heap[b]? = some (.cells #[.int .i64 r.1, .int .i64 r.2] 68 (0, 0)))
    (hown : OwnRn z w v l) (hz : z ≤ w.heap.size) (hn : l.length + 1 ≤ 1000000)
    (hK : ∀ v' w', OwnRn z w' v' (l ++ [r]) → Fr (fun k => v.ownBlock = some k) w w' → wpList Try.prog ops Q rest (a.put o.dst v') w') : wpList Try.prog ops Q (o :: rest) a w := by
  refine wpList_append_e (T := 68) Try.underlying24 infoRn rfl (by decide) (by decide) w hgd s x hop v _ _ _ hs hx hown (Elems.ofBlock (c := rnC r) hb rfl) (fun c hc u hu => by
    rw [List.mem_singleton.1 hc] at hu
    simp only [rnC, List.mem_cons, List.not_mem_nil, or_false] at hu
    rcases hu with rfl | rfl <;> rfl) hz (by simpa using hn) fun v' w' ho hg hv => ?_
  exact hK v' w' (by unfold OwnRn; rw [List.map_append]; exact ho) ((Fr.refl (fun k => v.ownBlock = some k) w).grown hg (fun k hk => .inl hk))
def JoinPost (z : Nat) (w : World) (v : Value) (l : List Rn) (e : Ending) (w' : World) : Prop := ∃ v', e = .returned v' ∧ OwnRn z w' v' l ∧ Fr (fun k => v.ownBlock = some k) w w'
set_option maxRecDepth 100000 in
set_option maxHeartbeats 2000000 in
theorem joined_any (z : Nat) (w : World) (v : Value) (l : List Rn) (x : Nat) (h : OwnRn z w v l) (hz : z ≤ w.heap.size) (hx : x ≤ 1000000) (hl : l.length ≤ 900000) (hb : ∀ r ∈ l, 0 ≤ r.1 ∧ r.1 ≤ 1000000 ∧ 0 ≤ r.2 ∧ r.2 ≤ 1000000) :
    Calls Try.prog 43 #[v, .int .i64 x] w (JoinPost z w v (jn7 l x)) := by
  rcases List.eq_nil_or_concat l with rfl | ⟨l, r, rfl⟩
  · rw [jn7_nil]
    obtain ⟨ao, c, rfl⟩ := h.form
    simp only [List.length_nil] at h ⊢
    have e1 : IntKind.i64.wrap ((0 : Int) - 1) = -1 := by decide
    have HO := Lib.hid h
    clear h hb
    go_enter Try.func43, Try.ntmps43
    go_wp2
    go_quiet ((fail))
    have hD := (Fr.refl (fun _ => False) w).drewN nq
    obtain ⟨W2, hW2⟩ : ∃ W2, W2 = w.drewN nq := ⟨_, rfl⟩
    rw [← hW2] at hD ⊢
    have H2 := Lib.hid hD
    clear hW2 hD
    go_wp2_with (at_builtin; refine wpList_append_rn (z := z) _ rfl (.tmp 35) (.tmp 38) rfl (.slice ao 0 c) [] ((x : Int), 1) _ rfl rfl (heap_alloc_new _ _) ((OwnE.keep HO.out H2.out (fun _ _ h => h)).keep ((Fr.refl (fun _ => False) W2).alloc _) (fun _ _ h => h)) (by have := H2.out.size; simp; omega) (by decide) ?_; intro v' w' ho hf; (have H3 := Lib.hid (And.intro ho hf)); clear ho hf)
    go_ret
    exact ⟨v', rfl, H3.out.1, (H2.out.mono (fun _ _ h => h.elim)).trans (((Fr.refl (fun k => (Value.slice ao 0 c).ownBlock = some k) W2).alloc _).trans H3.out.2 (fun _ h => .inl h)) (fun _ h => .inl h)⟩
  · rw [List.concat_eq_append] at h hl hb ⊢
    rw [jn7_snoc]
    obtain ⟨p, q⟩ := r
    have hb1 := hb (p, q) (by simp)
    rcases OwnRn.block h with ⟨_, hv⟩ | ⟨g, cap, cur, rfl, hzg, hg, hn, hc, hs, ht⟩
    · simp at hv
    · rw [List.length_append, List.length_cons, List.length_nil, Nat.zero_add] at h hl hn ⊢
      obtain ⟨m, hm⟩ : ∃ m, m = l.length := ⟨_, rfl⟩
      obtain ⟨n, hnm⟩ : ∃ n, n = m + 1 := ⟨_, rfl⟩
      have hlast := OwnRn.last h
      have hgrow := OwnRn.grow h
      rw [← hm] at h hlast hgrow hl hn ⊢
      rw [← hnm] at h hgrow hl hn ⊢
      obtain ⟨c0, c1, c2⟩ := hlast
      obtain ⟨b1, b2, b3, b4⟩ := hb1
      simp only at b1 b2 b3 b4 c0 c1
      have e1 : IntKind.i64.wrap ((n : Int) - 1) = (m : Int) := by rw [wrap_in5 (by omega) (by omega)]; omega
      have m0 : (0 : Int) ≤ (m : Int) := by omega
      have m1 : (m : Int) < (n : Int) := by omega
      have m2 : m < n := by omega
      obtain ⟨t, ht9⟩ : ∃ t, t = p + q := ⟨_, rfl⟩
      have e2 : IntKind.i64.wrap (p + q) = t := by rw [wrap_in5 (by omega) (by omega), ht9]
      have HO := Lib.hid (And.intro h (And.intro hgrow (And.intro hm (And.intro hnm hl))))
      clear h hgrow hm hnm hl hb hg hs ht hn hzg
      by_cases hpx : p + q = x
      · rw [if_pos hpx]
        have e3 : (t == (x : Int)) = true := by rw [beq_iff_eq, ht9, hpx]
        have e4 : IntKind.i64.wrap (q + 1) = q + 1 := wrap_in5 (by omega) (by omega)
        clear hpx ht9
        go_enter Try.func43, Try.ntmps43
        go_wp2
        go_quiet ((fail))
        have hD := (Fr.refl (fun _ => False) w).drewN nq
        obtain ⟨W2, hW2⟩ : ∃ W2, W2 = w.drewN nq := ⟨_, rfl⟩
        have k1 : W2.cell? ⟨g, m * 2 + 1, none⟩ = some (.int .i64 q) := by rw [hW2]; exact c1
        have k2 : W2.frozen? ⟨g, m * 2 + 1, none⟩ = false := by rw [hW2]; exact c2
        rw [← hW2] at hD ⊢
        have H2 := Lib.hid hD
        clear hW2 hD c0 c1 c2 e3
        go_wp2
        go_ret
        have h9 := OwnRn.grow (l := l) (r := (p, q)) (cap := cap) (z := z) (w := W2) (g := g) (by have h8 := OwnE.keep HO.out.1 H2.out (fun _ _ h => h); rw [← HO.out.2.2.1, ← HO.out.2.2.2.1]; exact h8) (q + 1)
        rw [← HO.out.2.2.1, ← HO.out.2.2.2.1] at h9
        exact ⟨_, rfl, h9, (H2.out.mono (T := fun k => (Value.slice (some ⟨g, 0, none⟩) n cap).ownBlock = some k) (fun _ _ h => h.elim)).setCell (p := ⟨g, m * 2 + 1, none⟩) (.inl rfl) _⟩
      · rw [if_neg hpx]
        have e3 : (t == (x : Int)) = false := by rw [beq_eq_false_iff_ne, ht9]; exact hpx
        clear hpx ht9
        go_enter Try.func43, Try.ntmps43
        go_wp2
        go_quiet ((fail))
        have hD := (Fr.refl (fun _ => False) w).drewN nq
        obtain ⟨W2, hW2⟩ : ∃ W2, W2 = w.drewN nq := ⟨_, rfl⟩
        rw [← hW2] at hD ⊢
        have H2 := Lib.hid hD
        clear hW2 hD c0 c1 c2 e3
        go_wp2_with (at_builtin; refine wpList_append_rn (z := z) _ rfl (.tmp 35) (.tmp 38) rfl (.slice (some ⟨g, 0, none⟩) n cap) (l ++ [(p, q)]) ((x : Int), 1) _ rfl rfl (heap_alloc_new _ _) ((OwnE.keep HO.out.1 H2.out (fun _ _ h => h)).keep ((Fr.refl (fun _ => False) W2).alloc _) (fun _ _ h => h)) (by have := H2.out.size; simp; omega) (by have := HO.out.2.2; simp; omega) ?_; intro v' w' ho hf; (have H3 := Lib.hid (And.intro ho hf)); clear ho hf)
        go_ret
        exact ⟨v', rfl, H3.out.1, (H2.out.mono (fun _ _ h => h.elim)).trans (((Fr.refl (fun k => (Value.slice (some ⟨g, 0, none⟩) n cap).ownBlock = some k) W2).alloc _).trans H3.out.2 (fun _ h => .inl h)) (fun _ h => .inl h)⟩
end Go.Proofs.Ytcbbcihfooaggaa
namespace Go.Proofs.Ytcbbcihfooaggaa
open Go.RowKit Go.ChangeShapes
set_option linter.unusedVariables false
attribute [local go_sem] Oper.semAt_some
def xsF (d : Nat) (L : List Rn) : List (Sc d) := (free7 d L).attachWith (· < d) (fun x hx => (mem_free7.1 hx).1)
theorem xsF_val (d : Nat) (L : List Rn) : (xsF d L).map (·.1) = free7 d L := by unfold xsF; simp
theorem xsF_length (d : Nat) (L : List Rn) : (xsF d L).length = (free7 d L).length := by unfold xsF; simp
theorem free7_succ (i : Nat) (L : List Rn) : free7 (i + 1) L = free7 i L ++ (if i ∈ secs7 L then [] else [i]) := by
  unfold free7
  rw [List.range_succ, List.filter_append]
  congr 1
  by_cases h : i ∈ secs7 L <;> simp [h]
theorem free7_prefix {i d : Nat} (h : i ≤ d) (L : List Rn) : ∃ r, free7 d L = free7 i L ++ r := by
  obtain ⟨k, rfl⟩ := Nat.exists_eq_add_of_le h
  clear h
  induction k with
  | zero => exact ⟨[], by simp⟩
  | succ k ih =>
    obtain ⟨r, hr⟩ := ih
    refine ⟨r ++ (if i + k ∈ secs7 L then [] else [i + k]), ?_⟩
    rw [← Nat.add_assoc, free7_succ, hr, List.append_assoc]
theorem xsF_at {i d : Nat} (h : i < d) (L : List Rn) (hm : i ∉ secs7 L) : ∃ hq : (free7 i L).length < (xsF d L).length, ((xsF d L)[(free7 i L).length]'hq).1 = i := by
  obtain ⟨r, hr⟩ := free7_prefix (show i + 1 ≤ d by omega) L
  rw [free7_succ, if_neg hm] at hr
  have hl := congrArg List.length hr
  simp only [List.length_append, List.length_cons, List.length_nil] at hl
  have hq : (free7 i L).length < (xsF d L).length := by rw [xsF_length]; omega
  refine ⟨hq, ?_⟩
  have h1 : ((xsF d L).map (·.1))[(free7 i L).length]? = some i := by
    rw [xsF_val, hr, List.append_assoc, List.getElem?_append_right (Nat.le_refl _), Nat.sub_self]
    rfl
  rw [List.getElem?_map, List.getElem?_eq_getElem hq] at h1
  simpa using h1
structure ItF (mb Bd Bt d : Nat) (S : List Nat) (W : World) : Prop where
  data : W.cell? ⟨Bd, 0, none⟩ = some (.int .i64 (d : Nat))
  box : W.cell? ⟨Bt, 0, none⟩ = some (.map (some mb))
  tk : TkAt W mb S
theorem ItF.keep {T : Nat → Prop} {mb Bd Bt d : Nat} {S : List Nat} {W W' : World} (h : ItF mb Bd Bt d S W) (hf : Fr T W W') (h1 : ¬ T Bd) (h2 : ¬ T Bt) (h3 : ¬ T mb) : ItF mb Bd Bt d S W' :=
  ⟨hf.cell h.data h1, hf.cell h.box h2, h.tk.keep hf h3⟩
set_option maxRecDepth 100000 in
set_option maxHeartbeats 4000000 in
theorem free1_in {T : Nat → Prop} {d : Nat} (n0 : Nat) (l Bd Bt mb : Nat) (L : List Rn) (hd : d ≤ 8192) (hT1 : ¬ T Bd) (hT2 : ¬ T Bt) (hT3 : ¬ T mb) (B0 : Nat) (J Jx : List (Sc d) → World → Prop) (hJ : AbidesFrom B0 J)
    (hY : ∀ pre x W, J pre W → pre.length < (free7 d L).length → YieldAt Fence.wide (n0 - 1) Try.prog l (enc7 x) W fun e W' =>
      (e = .returned (.bool true) ∧ J (pre ++ [x]) W' ∧ Fr T W W') ∨ (e = .returned (.bool false) ∧ Jx (pre ++ [x]) W'))
    (W : World) (hR : ItF mb Bd Bt d (secs7 L) W) (h0 : J [] W) :
    CallsIn Fence.wide n0 Try.prog 68 #[.func (.yield l) #[] #[], .pointer (some ⟨Bd, 0, none⟩), .pointer (some ⟨Bt, 0, none⟩)] W fun e W' => (∃ v, e = .returned v) ∧
      ((∃ ys, ys = xsF d L ∧ J ys W') ∨ (∃ pre, pre <+: xsF d L ∧ Jx pre W')) := by
  obtain ⟨X, hX⟩ : ∃ X, X = xsF d L := ⟨_, rfl⟩
  have hXl : X.length = (free7 d L).length := by rw [hX, xsF_length]
  rw [← hXl] at hY
  rw [← hX]
  obtain ⟨hda, hbx, _⟩ := id hR
  have HR := Lib.hid hR
  have HY := Lib.hid hY
  have HT := Lib.hid (And.intro hT1 (And.intro hT2 hT3))
  have HN := Lib.hid (And.intro hX hXl)
  clear hR hY hJ hT1 hT2 hT3 hX hXl
  refine callsIn_of_wp Try.func68 rfl trivial ?_ rfl
  simp only [Try.ntmps68, List.size_toArray, List.length_cons, List.length_nil, Nat.reduceAdd, Nat.reduceSub, Array.replicate_succ, Array.replicate_zero, List.push_toArray, List.append_toArray, List.nil_append, List.cons_append]
  gi_wp2
  gi_loopw [6] (fun iv wr => ∃ i p : Nat, i ≤ d ∧ iv = .int .i64 i ∧ J (X.take p) wr ∧ Hid (p = (free7 i L).length ∧ ItF mb Bd Bt d (secs7 L) wr)) (fun iv _ => d - (intOf iv).toNat)
  case atStart => exact ⟨0, 0, by omega, rfl, h0, Lib.hid ⟨rfl, HR.out⟩⟩
  case round =>
    clear h0 hda hbx
    obtain ⟨i, p, hi, rfl, hJs, hRr⟩ := hrel
    by_cases hlt : i < d
    · have hbx := hRr.out.2.box
      have hlt64 : (i : Int) < (d : Int) := by omega
      by_cases hm : i ∈ secs7 L
      · have hc := WideF.out.calls (n := n0 - 1) (has_any wr mb i (secs7 L) hRr.out.2.tk (by omega))
        rw [show decide (i ∈ secs7 L) = true from decide_eq_true hm] at hc
        have HC := Lib.hid hc
        have HK := Lib.hid (show p = (free7 (i + 1) L).length by rw [free7_succ, if_pos hm, List.append_nil]; exact hRr.out.1)
        clear hc hm
        gi_wp2_with (refine ⟨trivial, fun hx => WideF.out.free hx, ?_⟩; gi_at_call 69; refine HC.out.mono ?_; rintro e w2 ⟨rfl, rfl⟩)
        refine ⟨fun _ h => (by cases h), ?_⟩
        gi_wp2
        go_roundw
        case rel => exact ⟨i + 1, p, by omega, by go_num, hJs, Lib.hid ⟨HK.out, hRr.out.2⟩⟩
        case measure => simp [intOf]; omega
      · have hc := WideF.out.calls (n := n0 - 1) (has_any wr mb i (secs7 L) hRr.out.2.tk (by omega))
        rw [show decide (i ∈ secs7 L) = false from decide_eq_false hm] at hc
        have HC := Lib.hid hc
        obtain ⟨hq, hxv⟩ := xsF_at hlt L hm
        have HK := Lib.hid (show p + 1 = (free7 (i + 1) L).length by rw [free7_succ, if_neg hm, List.length_append]; rw [hRr.out.1]; rfl)
        obtain ⟨x, hx⟩ : ∃ x, x = (xsF d L)[(free7 i L).length] := ⟨_, rfl⟩
        rw [← hx] at hxv
        have htk : X.take (p + 1) = X.take p ++ [x] := by rw [hRr.out.1, HN.out.1, List.take_succ_eq_append_getElem hq, hx]
        have hpl : (X.take p).length < X.length := by rw [HN.out.1, List.length_take, hRr.out.1]; omega
        obtain ⟨fn, tmps, assign, body, hy, hRd⟩ := HY.out _ x wr hJs hpl
        simp only [enc7] at hy
        rw [hxv] at hy
        have HTK := Lib.hid htk
        clear hc hm hq hxv hx htk hpl hJs
        gi_wp2_with (refine ⟨trivial, fun hx => WideF.out.free hx, ?_⟩; gi_at_call 69; refine HC.out.mono ?_; rintro e w2 ⟨rfl, rfl⟩)
        refine ⟨fun hx => WideF.out.free hx, hRd.mono ?_⟩
        rintro e W3 (⟨rfl, hJ3, hk3⟩ | ⟨rfl, hJx3⟩)
        · have HR3 := Lib.hid (hRr.out.2.keep hk3 HT.out.1 HT.out.2.1 HT.out.2.2)
          gi_wp2
          go_roundw
          case rel => exact ⟨i + 1, p + 1, by omega, by go_num, by rw [HTK.out]; exact hJ3, Lib.hid ⟨HK.out, HR3.out⟩⟩
          case measure => simp [intOf]; omega
        · gi_wp2
          refine bodyPost_ret (results_none rfl _ _ _) rfl ?_
          exact ⟨⟨_, rfl⟩, .inr ⟨_, by rw [← HTK.out]; exact List.take_prefix _ _, hJx3⟩⟩
    · obtain rfl : i = d := by omega
      gi_wp2
      go_end0
      exact ⟨⟨_, rfl⟩, .inl ⟨_, rfl, by rwa [List.take_of_length_le (by rw [HN.out.2, hRr.out.1]; exact Nat.le_refl _)] at hJs⟩⟩
theorem ItF.below {mb Bd Bt d : Nat} {S : List Nat} {w W : World} (h : ItF mb Bd Bt d S w) (hb : Below w.heap.size w W) : ItF mb Bd Bt d S W := by
  have h1 := World.block_lt_of_cell? _ _ h.data
  have h2 := World.block_lt_of_cell? _ _ h.box
  have h3 := h.tk.lt
  simp only at h1 h2
  exact h.keep (Fr.ofBelow hb) (fun h => by omega) (fun h => by omega) (fun h => by omega)
theorem free_stops {T : Nat → Prop} {d : Nat} (n0 Bd Bt mb : Nat) (L : List Rn) (hd : d ≤ 8192) (hT1 : ¬ T Bd) (hT2 : ¬ T Bt) (hT3 : ¬ T mb) (w : World) (hR : ItF mb Bd Bt d (secs7 L) w) :
    SeqStopsK Fence.wide n0 Try.prog 68 #[.pointer (some ⟨Bd, 0, none⟩), .pointer (some ⟨Bt, 0, none⟩)] enc7 (Fr T) (fun ys => ys = xsF d L) (fun pre => pre <+: xsF d L) (free7 d L).length w :=
  fun l J Jx W hW hJ hJx hY h0 => free1_in n0 l Bd Bt mb L hd hT1 hT2 hT3 _ J Jx hJ hY W (hR.below hW) h0
theorem free_any (w : World) (mb : Nat) (d : Int) :
    Calls Try.prog 42 #[.map (some mb), .int .i64 d] w fun e w' => e = .returned (.func (.func 68) #[] #[.pointer (some ⟨w.heap.size + 1, 0, none⟩), .pointer (some ⟨w.heap.size, 0, none⟩)]) ∧ w' = (w.alloc (.cells #[.map (some mb)] 76)).alloc (.cells #[.int .i64 d] 3) := by
  go_enter Try.func42, Try.ntmps42
  go_wp2
  go_ret
  exact ⟨rfl, rfl⟩
end Go.Proofs.Ytcbbcihfooaggaa
