/- Laid together: BSorted RfKy RfN -/
import Derived.Test.YtfkgdjoaoidkeaaGreatRz5
import Derived.Test.YtfkgdjoaoidkeaaGreatRz7
import Derived.Test.YtfkgdjoaoidkeaaGreatRz4
import Derived.Deep.MidRow
import Derived.Test.YtfkgdjoaoidkeaaGreatRz2
import Derived.Deep.WholeRow

namespace Go.Proofs.YtfkgdjoaoidkeaaGreat
open Go.RowKit Go.ChangeShapes Go.WideMaps Go.Maps
set_option linter.unusedVariables false
theorem zero_unit (w : World) : (zeroValue 56).run Tryz.prog w = .ok (.agg #[]) w := by kernel_rfl
def SeenAt (w : World) (B : Nat) (O : List PathX) : Prop := w.ownsMap Tryz.prog 27 unitElem B O.length (setOf (DataW.agg [] : DataW Unit) (O.map keyX))
theorem SeenAt.keep {S : Nat → Prop} {W W' : World} {B : Nat} {O : List PathX} (h : SeenAt W B O) (hf : Fr S W W') (hB : ¬ S B) : SeenAt W' B O := by
  obtain ⟨es, clock, hb, F, hs, hD⟩ := h
  exact ⟨es, clock, hf.heap hb hB, F, hs, hD⟩
theorem SeenAt.look {W : World} {B : Nat} {O : List PathX} (h : SeenAt W B O) (x : PathX) (hO : ∀ y ∈ O, y.n.size ≤ maxLen) (hx : x.n.size ≤ maxLen) :
    (Instr.lookup 95 (.map (some B)) (.agg (pathC x.h x.n)) true).run Tryz.prog W = .ok (.tuple #[.agg #[], .bool (decide (x ∈ O))]) W := by
  obtain ⟨v, ps, hrun, hv⟩ := World.ownsMap.look_ok (w := W) h lawP Tryz.underlying95 (zero_unit W) unitElem_mk (keyX_of x hx).1
  obtain ⟨rfl, _⟩ := unitElem_inv hv
  rw [hrun, has_set O x hO hx]
structure BsAt (w wr : World) (B : Nat) (ov : Value) (O : List PathX) : Prop where
  fr : Fr (fun _ => False) w wr
  own : OwnP (fun g => B < g) wr ov O
  set : SeenAt wr B O
  lt : B < wr.heap.size
  new : w.heap.size ≤ B
theorem BsAt.keep {w wr w' : World} {B : Nat} {ov : Value} {O : List PathX} (h : BsAt w wr B ov O) (hf : Fr (fun _ => False) wr w') : BsAt w w' B ov O :=
  ⟨h.fr.trans hf (fun _ h => h.elim), h.own.keep hf (fun _ _ _ h => h), h.set.keep hf (fun h => h), Nat.lt_of_lt_of_le h.lt hf.size, h.new⟩
theorem BsAt.put {w W2 w3 : World} {B : Nat} {ov : Value} {O : List PathX} {C : Array Value} (h : BsAt w W2 B ov O) (hg : W2.grownBy w3 (some B)) : OwnP (fun g => B < g) (w3.alloc (.cells C 27)) ov O :=
  (h.own.keep (Fr.grownAs hg) (fun k _ hk e => by omega)).keep ((Fr.refl (fun _ => False) w3).alloc _) (fun _ _ _ h => h)
theorem BsAt.more {w W2 w3 w4 : World} {B : Nat} {ov v4 : Value} {O : List PathX} {x : PathX} {C : Array Value} (h : BsAt w W2 B ov O) (hown : w3.ownsMap Tryz.prog 27 unitElem B (O.length + 1) ((setOf (DataW.agg [] : DataW Unit) (O.map keyX)).put (keyX x) (.agg []))) (hg : W2.grownBy w3 (some B))
    (ho4 : OwnP (fun k => B < k ∨ (w3.alloc (.cells C 27)).heap.size ≤ k) w4 v4 (O ++ [x])) (hg4 : (w3.alloc (.cells C 27)).grownBy w4 ov.ownBlock) (hb4 : v4.ownBlock = ov.ownBlock ∨ v4.ownBlock = some (w3.alloc (.cells C 27)).heap.size) {l : Option Lit} (hk : l = some (keyX x)) : BsAt w w4 B v4 (O ++ [x]) := by
  have hlt := h.lt
  have hs3 : W2.heap.size ≤ w3.heap.size := hg.size
  have hne : ∀ g, ov.ownBlock = some g → B < g := h.own.2
  have hf4 : Fr (fun k => ov.ownBlock = some k) (w3.alloc (.cells C 27)) w4 := (Fr.refl _ _).grown hg4 (fun k hk => .inl hk)
  have hf3 : Fr (fun k => k = B) W2 (w3.alloc (.cells C 27)) := (Fr.grownAs hg).alloc _
  have hfall : Fr (fun _ => False) w w4 := by
    have h1 : Fr (fun k => w.heap.size ≤ k) W2 w4 := (hf3.mono (T := fun k => w.heap.size ≤ k) (fun i _ e => by rw [e]; exact h.new)).trans (hf4.mono (T := fun k => w.heap.size ≤ k) (fun i _ e => by have := hne i e; have := h.new; omega)) (fun i hi => .inl hi)
    exact h.fr.trans h1 (fun i hi => .inr hi)
  refine ⟨hfall, ho4.mono (fun k _ hk => by
    rcases hk with h1 | h1
    · exact h1
    · simp at h1; omega), ?_, ?_, ?_⟩
  · have hset : w3.ownsMap Tryz.prog 27 unitElem B (O ++ [x]).length (setOf (DataW.agg [] : DataW Unit) ((O ++ [x]).map keyX)) := by
      rw [List.length_append, List.length_singleton, List.map_append, List.map_singleton, setOf_snoc]
      exact hown
    have hs : SeenAt w3 B (O ++ [x]) := hset
    exact (hs.keep ((Fr.refl (fun _ => False) w3).alloc _) (fun h => h)).keep hf4 (fun e => by have := hne B e; omega)
  · have := hf4.size
    simp at this
    omega
  · exact h.new
set_option maxRecDepth 100000 in
set_option maxHeartbeats 8000000 in
theorem bSorted_any {F : Nat → Prop} (w : World) (v : Value) (L : List PathX) (hv : PathsIn F w v L) (hF : ∀ k, F k → k < w.heap.size) (hlen : L.length ≤ 1000000) (hN : ∀ x ∈ L, x.n.size ≤ 140737488351232) :
    Calls Tryz.prog 30 #[v] w fun e w' => ∃ u M, e = .returned u ∧ PathsIn (fun k => w.heap.size ≤ k) w' u M ∧ Asc lessX M ∧ (∀ x, x ∈ M ↔ x ∈ L) ∧ Fr (fun _ => False) w w' := by
  have hmm := @run_makeMap Tryz.prog
  have HV := Lib.hid hv
  have HNM := Lib.hid hN
  have HFF := Lib.hid hF
  obtain ⟨ao, cap, rfl, hlc, hcm, hn0, hrow⟩ := hv
  have HROW := Lib.hid hrow
  unfold maxLen at hcm
  have H0 := Lib.hid (show BsAt w (w.alloc (.map #[] 0)) w.heap.size (.slice none 0 0) [] from
    ⟨(Fr.refl _ _).alloc _, OwnP.nil _ _, World.ownsMap_made _ _ _ _, by simp, Nat.le_refl _⟩)
  have HSO := Lib.hid (fun (W : World) (ov : Value) (O : List PathX) (h : OwnP (fun g => w.heap.size < g) W ov O) (hn : O.Nodup) (hl : O.length ≤ 1000000) => sort_any W ov O h hn hl)
  clear hn0 hrow hN hF
  obtain ⟨n, hn⟩ : ∃ n, n = L.length := ⟨_, rfl⟩
  rw [← hn] at hlc ⊢
  have HN := Lib.hid hn
  have hn6 : n ≤ 1000000 := by omega
  clear hn hlen
  go_enter Tryz.func30, Tryz.ntmps30
  go_wp2_with fail
  go_loopw [4, 6, 7, 8, 12] (fun ov s6 s7 s8 kv wr => ∃ k : Nat, k ≤ n ∧ kv = .int .i64 k ∧ Hid (BsAt w wr w.heap.size ov (onceK L k))) (fun _ _ _ _ kv _ => n - (intOf kv).toNat)
  case atStart => exact ⟨0, by omega, rfl, H0⟩
  case round =>
    clear H0
    obtain ⟨k, hk, rfl, hR⟩ := hrel
    by_cases hlt : k < n
    · have hkL : k < L.length := by rw [← HN.out]; exact hlt
      obtain ⟨x, hx⟩ : ∃ x, x = L[k] := ⟨_, rfl⟩
      have hxL : x ∈ L := by rw [hx]; exact List.getElem_mem _
      obtain ⟨b, off, rfl, hbF, hrg⟩ := HROW.out (by rintro rfl; simp at hkL)
      have hbw := HFF.out b hbF
      have hr := hrg k hkL
      rw [← hx] at hr
      have hr := hR.out.fr.range hr (fun h => h)
      have hst := onceK_succ L k hkL
      rw [← hx] at hst
      have hxs : x.n.size ≤ maxLen := by have := HNM.out x hxL; unfold maxLen; omega
      have hOs : ∀ y ∈ onceK L k, y.n.size ≤ maxLen := fun y hy => by
        have := HNM.out y (List.mem_of_mem_take ((onceK_mem L k y).1 hy))
        unfold maxLen
        omega
      have hol := onceK_length L k
      obtain ⟨O, hO⟩ : ∃ O, O = onceK L k := ⟨_, rfl⟩
      rw [← hO] at hR hst hOs hol
      have HST := Lib.hid hst
      have HXS := Lib.hid (And.intro hxs hOs)
      obtain ⟨C, hC⟩ : ∃ C, C = pathC x.h x.n := ⟨_, rfl⟩
      obtain ⟨Cl, hCl⟩ : ∃ C, C = cellsX x := ⟨_, rfl⟩
      rw [← hCl] at hr
      have HC := Lib.hid hC
      have hCC : Cl.toArray = C := by rw [hCl, hC]; rfl
      have hll : Cl.length = 21 := by rw [hCl, cellsX_length]
      have hcs : C.size = 21 := by rw [hC, pathC_size x.h x.hl]
      have hiC : (Tryz.prog.info? 27).map (·.size) = some C.size := by rw [hcs]; kernel_rfl
      have hiL : (Tryz.prog.info? 27).map (·.size) = some Cl.length := by rw [hll]; kernel_rfl
      have hsC : (#[.int .u8 0, .int .u8 0, .int .u8 0, .int .u8 0, .int .u8 0, .int .u8 0, .int .u8 0, .int .u8 0, .int .u8 0, .int .u8 0, .int .u8 0, .int .u8 0, .int .u8 0, .int .u8 0, .int .u8 0, .int .u8 0, .int .u8 0, .int .u8 0, .int .u8 0, .int .u8 0, .string ⟨#[]⟩] : Array Value).size = C.size := Eq.trans (b := 21) rfl hcs.symm
      have hoC : C.all (·.oneCell') = true := by rw [hC]; exact pathC_one x.h x.n
      have HLL := Lib.hid hCC
      have hkn : (k : Int) < (n : Int) := by omega
      have hk0 : (0 : Int) ≤ (k : Int) := by omega
      have hd : decide ((k : Int) < (n : Int)) = true := by rw [decide_eq_true_iff]; exact hkn
      have hiU : (Tryz.prog.info? 56).map (·.size) = some (#[] : Array Value).size := by kernel_rfl
      have hoU : (#[] : Array Value).all (·.oneCell') = true := by simp
      have HKEY := Lib.hid (show keyOf Tryz.prog 27 (.agg C) = some (keyX x) by rw [hC]; exact (keyX_of x hxs).1)
      have HBO := Lib.hid (fun (W : World) => show (Instr.buildSlice 25 1 #[(0, .agg C)]).run Tryz.prog W = .ok (.slice (some ⟨W.heap.size, 0, none⟩) 1 1) (W.alloc (.cells C 27)) by rw [hC]; exact run_build_one W x)
      have HPO := Lib.hid (fun (W : World) => show PathsIn (fun k => k = W.heap.size) (W.alloc (.cells C 27)) (.slice (some ⟨W.heap.size, 0, none⟩) 1 1) [x] by rw [hC]; exact PathsIn.one W x)
      have hO6 : O.length + 1 ≤ 1000000 := by omega
      have HLK := Lib.hid (fun (W : World) (h : SeenAt W w.heap.size O) => show (Instr.lookup 95 (.map (some w.heap.size)) (.agg C) true).run Tryz.prog W = .ok (.tuple #[.agg #[], .bool (decide (x ∈ O))]) W by rw [hC]; exact h.look x hOs hxs)
      clear hx hxL hrg hbF hst hxs hOs hO hC hCl hcs hll hCC hol
      by_cases hmem : x ∈ O
      · have hb : decide (x ∈ O) = true := decide_eq_true hmem
        have HO1 := Lib.hid (HST.out.trans (if_pos hmem))
        rw [hb] at HLK
        clear hb hmem
        go_wp2_with (first
          | (with_reducible refine wpList_load_mid rfl 27 (.tmp 14) rfl b (off + k * 21) rfl Cl _ hr Tryz.underlying27 rfl hiL ?_; rw [HLL.out])
          | (with_reducible refine wpList_store_row rfl 27 (.tmp 6) (.tmp 15) rfl wr.heap.size C #[.int .u8 0, .int .u8 0, .int .u8 0, .int .u8 0, .int .u8 0, .int .u8 0, .int .u8 0, .int .u8 0, .int .u8 0, .int .u8 0, .int .u8 0, .int .u8 0, .int .u8 0, .int .u8 0, .int .u8 0, .int .u8 0, .int .u8 0, .int .u8 0, .int .u8 0, .int .u8 0, .string ⟨#[]⟩] 27 rfl rfl (heap_alloc_new wr _) hiC hsC hoC ?_; (have hbx := setRow_heap (wr.alloc (.cells #[.int .u8 0, .int .u8 0, .int .u8 0, .int .u8 0, .int .u8 0, .int .u8 0, .int .u8 0, .int .u8 0, .int .u8 0, .int .u8 0, .int .u8 0, .int .u8 0, .int .u8 0, .int .u8 0, .int .u8 0, .int .u8 0, .int .u8 0, .int .u8 0, .int .u8 0, .int .u8 0, .string ⟨#[]⟩] 27)) wr.heap.size #[.int .u8 0, .int .u8 0, .int .u8 0, .int .u8 0, .int .u8 0, .int .u8 0, .int .u8 0, .int .u8 0, .int .u8 0, .int .u8 0, .int .u8 0, .int .u8 0, .int .u8 0, .int .u8 0, .int .u8 0, .int .u8 0, .int .u8 0, .int .u8 0, .int .u8 0, .int .u8 0, .string ⟨#[]⟩] C 27 (0, 0) (heap_alloc_new wr _)); (have HGX := Lib.hid (show w.heap.size < wr.heap.size from hR.out.lt)); (have HR1 := Lib.hid (BsAt.keep hR.out (Fr.laid wr #[.int .u8 0, .int .u8 0, .int .u8 0, .int .u8 0, .int .u8 0, .int .u8 0, .int .u8 0, .int .u8 0, .int .u8 0, .int .u8 0, .int .u8 0, .int .u8 0, .int .u8 0, .int .u8 0, .int .u8 0, .int .u8 0, .int .u8 0, .int .u8 0, .int .u8 0, .int .u8 0, .string ⟨#[]⟩] C 27))); generalize (wr.alloc (.cells #[.int .u8 0, .int .u8 0, .int .u8 0, .int .u8 0, .int .u8 0, .int .u8 0, .int .u8 0, .int .u8 0, .int .u8 0, .int .u8 0, .int .u8 0, .int .u8 0, .int .u8 0, .int .u8 0, .int .u8 0, .int .u8 0, .int .u8 0, .int .u8 0, .int .u8 0, .int .u8 0, .string ⟨#[]⟩] 27)).setRow wr.heap.size C = W1 at *; generalize wr.heap.size = gx at *)
          | (with_reducible refine wpList_load_row rfl 27 (.tmp 6) rfl gx rfl 27 C (0, 0) _ hbx Tryz.underlying27 rfl hiC ?_; (have hlook := HLK.out W1 HR1.out.set))
          | (with_reducible refine wpList_store_row rfl 56 (.tmp 7) (.tmp 20) rfl W1.heap.size #[] #[] 56 rfl rfl (heap_alloc_new W1 _) hiU rfl hoU ?_; (have hbx2 := Fr.heap (Fr.laid W1 #[] #[] 56) hbx (fun h => h)); (have HR2 := Lib.hid (BsAt.keep HR1.out (Fr.laid W1 #[] #[] 56))); generalize (W1.alloc (.cells #[] 56)).setRow W1.heap.size #[] = W2 at *))
        go_roundw
        case rel => exact ⟨k + 1, by omega, by go_num, by rw [HO1.out]; exact HR2⟩
        case measure => simp [intOf]; omega
      · have hb : decide (x ∈ O) = false := decide_eq_false hmem
        have HO1 := Lib.hid (HST.out.trans (if_neg hmem))
        rw [hb] at HLK
        clear hb hmem
        go_upto_region 9 with (first
          | (with_reducible refine wpList_load_mid rfl 27 (.tmp 14) rfl b (off + k * 21) rfl Cl _ hr Tryz.underlying27 rfl hiL ?_; rw [HLL.out])
          | (with_reducible refine wpList_store_row rfl 27 (.tmp 6) (.tmp 15) rfl wr.heap.size C #[.int .u8 0, .int .u8 0, .int .u8 0, .int .u8 0, .int .u8 0, .int .u8 0, .int .u8 0, .int .u8 0, .int .u8 0, .int .u8 0, .int .u8 0, .int .u8 0, .int .u8 0, .int .u8 0, .int .u8 0, .int .u8 0, .int .u8 0, .int .u8 0, .int .u8 0, .int .u8 0, .string ⟨#[]⟩] 27 rfl rfl (heap_alloc_new wr _) hiC hsC hoC ?_; (have hbx := setRow_heap (wr.alloc (.cells #[.int .u8 0, .int .u8 0, .int .u8 0, .int .u8 0, .int .u8 0, .int .u8 0, .int .u8 0, .int .u8 0, .int .u8 0, .int .u8 0, .int .u8 0, .int .u8 0, .int .u8 0, .int .u8 0, .int .u8 0, .int .u8 0, .int .u8 0, .int .u8 0, .int .u8 0, .int .u8 0, .string ⟨#[]⟩] 27)) wr.heap.size #[.int .u8 0, .int .u8 0, .int .u8 0, .int .u8 0, .int .u8 0, .int .u8 0, .int .u8 0, .int .u8 0, .int .u8 0, .int .u8 0, .int .u8 0, .int .u8 0, .int .u8 0, .int .u8 0, .int .u8 0, .int .u8 0, .int .u8 0, .int .u8 0, .int .u8 0, .int .u8 0, .string ⟨#[]⟩] C 27 (0, 0) (heap_alloc_new wr _)); (have HGX := Lib.hid (show w.heap.size < wr.heap.size from hR.out.lt)); (have HR1 := Lib.hid (BsAt.keep hR.out (Fr.laid wr #[.int .u8 0, .int .u8 0, .int .u8 0, .int .u8 0, .int .u8 0, .int .u8 0, .int .u8 0, .int .u8 0, .int .u8 0, .int .u8 0, .int .u8 0, .int .u8 0, .int .u8 0, .int .u8 0, .int .u8 0, .int .u8 0, .int .u8 0, .int .u8 0, .int .u8 0, .int .u8 0, .string ⟨#[]⟩] C 27))); generalize (wr.alloc (.cells #[.int .u8 0, .int .u8 0, .int .u8 0, .int .u8 0, .int .u8 0, .int .u8 0, .int .u8 0, .int .u8 0, .int .u8 0, .int .u8 0, .int .u8 0, .int .u8 0, .int .u8 0, .int .u8 0, .int .u8 0, .int .u8 0, .int .u8 0, .int .u8 0, .int .u8 0, .int .u8 0, .string ⟨#[]⟩] 27)).setRow wr.heap.size C = W1 at *; generalize wr.heap.size = gx at *)
          | (with_reducible refine wpList_load_row rfl 27 (.tmp 6) rfl gx rfl 27 C (0, 0) _ hbx Tryz.underlying27 rfl hiC ?_; (have hlook := HLK.out W1 HR1.out.set))
          | (with_reducible refine wpList_store_row rfl 56 (.tmp 7) (.tmp 20) rfl W1.heap.size #[] #[] 56 rfl rfl (heap_alloc_new W1 _) hiU rfl hoU ?_; (have hbx2 := Fr.heap (Fr.laid W1 #[] #[] 56) hbx (fun h => h)); (have HR2 := Lib.hid (BsAt.keep HR1.out (Fr.laid W1 #[] #[] 56))); generalize (W1.alloc (.cells #[] 56)).setRow W1.heap.size #[] = W2 at *)
          | (with_reducible refine wpList_load_row rfl 27 (.tmp 6) rfl gx rfl 27 C (0, 0) _ hbx2 Tryz.underlying27 rfl hiC ?_)
          | (at_mapUpdate; refine wpList_mapUpdate_own _ rfl _ _ _ 95 rfl 27 56 lawP Tryz.underlying95 unitElem w.heap.size O.length _ rfl HR2.out.set (by unfold maxLen; omega) _ _ (keyX x) rfl rfl HKEY.out (.agg []) [] unitElem_mk ?_; intro w3 hown3 hgrow3; (have HR3 := Lib.hid (And.intro hown3 hgrow3)); (have hbx3 := (hgrow3.block gx (lt_of_block hbx2) (fun e => by injection e with e; have := HR2.out.lt; have := HGX.out; omega)).trans hbx2); clear hown3 hgrow3))
        go_wp2_with (first
          | ((with_reducible refine wpList_load_row rfl 27 (.tmp 6) rfl gx rfl 27 C (0, 0) _ hbx3 Tryz.underlying27 rfl hiC ?_); go_loud (refine wpList_one rfl 25 (.tmp 28) rfl (.agg C) (.slice (some ⟨w3.heap.size, 0, none⟩) 1 1) (w3.alloc (.cells C 27)) rfl (HBO.out w3) ?_); refine wpList_append_paths (F := fun g => w.heap.size < g) (G := fun k => k = w3.heap.size) _ rfl (.tmp 27) (.tmp 29) rfl u4 _ O [x] rfl rfl (HR2.out.put HR3.out.2) (HPO.out w3) (by have := hO6; simp only [List.length_singleton]; omega) ?_; intro v4 w4 hown4 hgrow4 hblk4; (have HR4 := Lib.hid (And.intro hown4 (And.intro hgrow4 hblk4))); clear hown4 hgrow4 hblk4))
        go_roundw
        case rel => exact ⟨k + 1, by omega, by go_num, by rw [HO1.out]; exact Lib.hid (BsAt.more HR2.out HR3.out.1 HR3.out.2 HR4.out.1 HR4.out.2.1 HR4.out.2.2 HKEY.out)⟩
        case measure => simp [intOf]; omega
    · have hkn : k = n := by omega
      have hd : decide ((k : Int) < (n : Int)) = false := by rw [decide_eq_false_iff_not]; omega
      obtain ⟨O, hO⟩ : ∃ O, O = onceK L k := ⟨_, rfl⟩
      have hnd : O.Nodup := by rw [hO]; exact onceK_nodup L k
      have hol : O.length ≤ k := by rw [hO]; exact onceK_length L k
      have hmm : ∀ x, x ∈ O ↔ x ∈ L := fun x => by
        rw [hO, onceK_mem, List.take_of_length_le (by rw [← HN.out]; omega)]
      rw [← hO] at hR
      have HSX := Lib.hid (HSO.out wr u4 O hR.out.own hnd (by omega))
      have HMM := Lib.hid hmm
      clear hO hnd hol hmm hkn
      go_wp2_with (go_at_call 41; refine HSX.out.mono ?_; rintro e w2 ⟨rfl, M, hp, ha, hm, hf⟩; have HRES := Lib.hid (And.intro hp (And.intro ha (And.intro hm hf))); clear hp ha hm hf)
      go_ret
      obtain ⟨hp, ha, hm, hf⟩ := HRES.out
      have hnew := hR.out.new
      refine ⟨_, M, rfl, hp.mono (fun i _ h => by omega), ha, fun x => (hm x).trans (HMM.out x), hR.out.fr.trans hf (fun i hi => .inr ?_)⟩
      have := hR.out.own.2 i hi
      omega
end Go.Proofs.YtfkgdjoaoidkeaaGreat
namespace Go.Proofs.YtfkgdjoaoidkeaaGreat
open Go.RowKit Go.ChangeShapes Go.WideMaps Go.Maps
set_option linter.unusedVariables false
set_option maxRecDepth 100000 in
theorem Tryz.cellsLt : Tryz.prog.cellsOf 51 = 32 := by kernel_rfl
def litsS (s : List UInt8) : List Lit := ((List.range 32).map fun i => [Lit.int .u8 (s.getD i 0).toNat]).flatten
set_option maxRecDepth 100000 in
theorem keyLits_let (m : Nat) (s : List UInt8) (hs : s.length = 32) : Tryz.prog.keyLits (m + 2) 51 (s.map bv) = some (litsS s) := by
  have e : (List.range 32).mapM (fun i => Tryz.prog.keyLits (m + 1) 5 (((s.map bv).drop (i * Tryz.prog.cellsOf 5)).take (Tryz.prog.cellsOf 5))) = some ((List.range 32).map fun i => [Lit.int .u8 (s.getD i 0).toNat]) := by
    refine mapM_some (fun i hi => ?_)
    have hi := List.mem_range.1 hi
    rw [Tryz.cellsB, Nat.mul_one, List.drop_eq_getElem_cons (by rw [List.length_map]; omega)]
    simp only [List.take_succ_cons, List.take_zero, List.getElem_map]
    rw [keyLits_u8, List.getD_eq_getElem?_getD, List.getElem?_eq_getElem (by omega), Option.getD_some]
  unfold Program.keyLits
  simp only [Tryz.underlying51]
  rw [if_pos (by rw [Tryz.cellsLt, List.length_map, hs]), e]
  rfl
def keyS (s : List UInt8) : Lit := .string (keyBytes (litsS s))
set_option maxRecDepth 100000 in
theorem lawL : Keyed Tryz.prog 51 := Keyed.of_law (deep_law_laid laidOutP (m := 5) (by decide) (Nat.le_of_ble_eq_true (by kernel_rfl)) (by kernel_rfl) (by kernel_rfl))
set_option maxRecDepth 100000 in
theorem keyS_of (s : List UInt8) (hs : s.length = 32) : keyOf Tryz.prog 51 (.agg (ltC s)) = some (keyS s) := by
  obtain ⟨m, hm⟩ : ∃ m, Tryz.prog.types.size + 1 = m + 2 := by
    have : 2 ≤ Tryz.prog.types.size := Nat.le_of_ble_eq_true (by kernel_rfl)
    exact ⟨Tryz.prog.types.size - 1, by omega⟩
  have hl := keyLits_let m s hs
  have hk : Tryz.prog.keyType 51 = true := by kernel_rfl
  have hfm : Value.formed Tryz.prog 51 (.agg (ltC s)) = true := by
    simp only [Value.formed, Tryz.underlying51]
    rw [Tryz.cellsLt, ltC_size, hs]
    rfl
  unfold keyOf
  rw [Tryz.underlying51]
  simp only []
  rw [hk, hfm, hm]
  simp only [Bool.and_self, if_true]
  have hc : (Value.agg (ltC s)).cells.toList = s.map bv := rfl
  rw [hc, hl]
  rfl
set_option maxRecDepth 100000 in
theorem bv_inj {u v : UInt8} (h : bv u = bv v) : u = v := by
  have : (u.toNat : Int) = v.toNat := by injection h
  exact UInt8.toNat_inj.1 (by omega)
set_option maxRecDepth 100000 in
theorem keyS_inj (s t : List UInt8) (hs : s.length = 32) (ht : t.length = 32) (h : keyS s = keyS t) : s = t := by
  have h1 := keyS_of s hs
  have h2 := keyS_of t ht
  rw [h] at h1
  have h3 := lawL.inj h1 h2
  injection h3 with h3
  have h4 := congrArg Array.toList h3
  exact List.map_inj_right (fun u v huv => bv_inj huv) |>.1 h4
def SkAt (w : World) (B N : Nat) (q : List UInt8 → Bool) : Prop :=
  ∃ D : DataW Unit, w.ownsMap Tryz.prog 51 unitElem B N D ∧ ∀ s, s.length = 32 → Maps.has D (keyS s) = q s
set_option maxRecDepth 100000 in
theorem SkAt.keep {S : Nat → Prop} {W W' : World} {B N : Nat} {q : List UInt8 → Bool} (h : SkAt W B N q) (hf : Fr S W W') (hB : ¬ S B) : SkAt W' B N q := by
  obtain ⟨D, ⟨es, clock, hb, F, hs, hD⟩, hq⟩ := h
  exact ⟨D, ⟨es, clock, hf.heap hb hB, F, hs, hD⟩, hq⟩
set_option maxRecDepth 100000 in
theorem SkAt.lt {W : World} {B N : Nat} {q : List UInt8 → Bool} (h : SkAt W B N q) : B < W.heap.size := by
  obtain ⟨D, ⟨es, clock, hb, F, hs, hD⟩, hq⟩ := h
  exact lt_of_block hb
set_option maxRecDepth 100000 in
theorem SkAt.congr {W : World} {B N : Nat} {q q' : List UInt8 → Bool} (h : SkAt W B N q) (hq : ∀ s, s.length = 32 → q s = q' s) : SkAt W B N q' := by
  obtain ⟨D, hD, h2⟩ := h
  exact ⟨D, hD, fun s hs => (h2 s hs).trans (hq s hs)⟩
set_option maxRecDepth 100000 in
theorem SkAt.made (w : World) : SkAt (w.alloc (.map #[] 0)) w.heap.size 0 (fun _ => false) := ⟨_, World.ownsMap_made _ _ _ _, fun s hs => by simp [Maps.has]⟩
set_option maxRecDepth 100000 in
theorem SkAt.put {w : World} {B N : Nat} {q : List UInt8 → Bool} (h : SkAt w B N q) (hN : N < 1000000) (s : List UInt8) (hs : s.length = 32) :
    ∃ w', (Instr.mapUpdate 54 (.map (some B)) (.agg (ltC s)) (.agg #[])).run Tryz.prog w = .ok () w' ∧ SkAt w' B (N + 1) (fun t => decide (t = s) || q t) ∧ Fr (· = B) w w' := by
  obtain ⟨D, hD, hq⟩ := h
  have him : IsMap D := by obtain ⟨es, clock, hb, F, hs2, rfl⟩ := hD; exact ⟨_, rfl⟩
  obtain ⟨w', hr, ho, hg⟩ := World.ownsMap.store (d := .agg []) (ps := []) hD lawL Tryz.underlying54 (by unfold maxLen; omega) (keyS_of s hs) unitElem_mk
  refine ⟨w', hr, ⟨_, ho, fun t ht => ?_⟩, Fr.grownAs hg.grown⟩
  by_cases e : t = s
  · subst e
    show _ = (decide (t = t) || q t)
    rw [decide_eq_true rfl, Bool.true_or]
    exact has_put_same him (by unfold keyS; trivial) _
  · show _ = (decide (t = s) || q t)
    rw [decide_eq_false e, Bool.false_or, ← hq t ht]
    exact has_put_other (fun e2 => e (keyS_inj t s ht hs e2)) _
set_option maxRecDepth 100000 in
theorem SkAt.del {w : World} {B N : Nat} {q : List UInt8 → Bool} (h : SkAt w B N q) (s : List UInt8) (hs : s.length = 32) (ty : TypeId) :
    ∃ w', (Builtin.delete_ #[54, 51] ty #[.map (some B), .agg (ltC s)]).run Tryz.prog w = .ok (.tuple #[]) w' ∧ SkAt w' B N (fun t => !decide (t = s) && q t) ∧ Fr (· = B) w w' := by
  obtain ⟨D, hD, hq⟩ := h
  obtain ⟨w', hr, ho, hg⟩ := World.ownsMap.drop hD lawL Tryz.underlying54 (keyS_of s hs) ty
  refine ⟨w', hr, ⟨_, ho, fun t ht => ?_⟩, Fr.grownAs hg.grown⟩
  by_cases e : t = s
  · subst e
    show _ = (!decide (t = t) && q t)
    rw [decide_eq_true rfl]
    exact has_del_same
  · show _ = (!decide (t = s) && q t)
    rw [decide_eq_false e, ← hq t ht]
    exact (has_del_other (fun e2 => e (keyS_inj t s ht hs e2))).trans (by simp)
set_option maxRecDepth 100000 in
theorem SkAt.look {w : World} {B N : Nat} {q : List UInt8 → Bool} (h : SkAt w B N q) (s : List UInt8) (hs : s.length = 32) :
    (Instr.lookup 54 (.map (some B)) (.agg (ltC s)) true).run Tryz.prog w = .ok (.tuple #[.agg #[], .bool (q s)]) w := by
  obtain ⟨D, hD, hq⟩ := h
  obtain ⟨v, ps, hrun, hv⟩ := World.ownsMap.look_ok (w := w) hD lawL Tryz.underlying54 (zero_unit w) unitElem_mk (keyS_of s hs)
  obtain ⟨rfl, _⟩ := unitElem_inv hv
  rw [hrun, hq s hs]
set_option maxRecDepth 100000 in
theorem SkAt.len {w : World} {B N : Nat} {q : List UInt8 → Bool} (h : SkAt w B N q) (ty : TypeId) :
    ∃ k : Nat, (Builtin.len_ #[54] ty #[.map (some B)]).run Tryz.prog w = .ok (.int .i64 (k : Nat)) w ∧ k ≤ N ∧ (k = 0 → ∀ s, s.length = 32 → q s = false) := by
  obtain ⟨D, hD, hq⟩ := h
  refine ⟨_, World.ownsMap.len hD Tryz.underlying54 ty, hD.size_le, fun h0 s hs => ?_⟩
  rw [← hq s hs]
  obtain ⟨es, clock, hb, F, hs2, rfl⟩ := hD
  rw [Maps.size_eq] at h0
  rw [List.eq_nil_of_length_eq_zero h0, has_eq]
  rfl
end Go.Proofs.YtfkgdjoaoidkeaaGreat
namespace Go.Proofs.YtfkgdjoaoidkeaaGreat
open Go.RowKit Go.ChangeShapes
set_option linter.unusedVariables false
theorem alloc_setRow (w : World) (old new : Array Value) (t : TypeId) : (w.alloc (.cells old t)).setRow w.heap.size new = w.alloc (.cells new t) := by
  show ({ w with heap := (w.heap.push (.cells old t)).modify w.heap.size _ } : World) = { w with heap := w.heap.push (.cells new t) }
  congr 1
  apply Array.ext
  · simp
  · intro i h1 h2
    rw [Array.getElem_modify]
    split
    · next h => subst h; simp
    · next h =>
      have : i < w.heap.size := by simp at h1; omega
      simp [Array.getElem_push, this]
theorem run_store_at {P : Program} (w : World) (ty : TypeId) (g o : Nat) (cells cur : Array Value) (t : TypeId) (hg : w.heap[g]? = some (.cells cur t (0, 0))) (hi : (P.info? ty).map (·.size) = some cells.size) (hfit : o + cells.size ≤ cur.size) (h1 : cells.all (·.oneCell') = true) :
    (Instr.storeAt ty (.pointer (some ⟨g, o, none⟩)) (.agg cells)).run P w = .ok () (w.setRow g (cur.toList.take o ++ cells.toList ++ cur.toList.drop (o + cells.size)).toArray) := by
  have hst := run_storeCells_at P g o t cells.toList 0 cur w hg (by simpa using hfit) (fun v hv => (Array.all_eq_true_iff_forall_mem.1 h1) v (by simpa using hv))
  cases hq : P.info? ty with
  | none => simp [hq] at hi
  | some i =>
    have hs : cells.size = i.size := by simp [hq] at hi; omega
    simp only [Nat.add_zero, Array.length_toList] at hst
    simp only [Instr.storeAt, Instr.sureAddr, Sem.run_bind, Sem.run_pure, Result.andThen_ok]
    simp [storeVar, sizeOf, typeInfo, hq, Value.cells, hs]
    rw [hs] at hst
    simpa using hst
section
variable {F : Fence} {n : Nat} {P : Program} {ops : Array Oper} {Q : Exit → Act → World → Prop} {rest : List Oper} {o : Oper} {a : Act} {w : World}
theorem wpListIn_store_at (hF : WideF F) (hgd : o.guard = none) (ty : TypeId) (x y : Operand) (ho : o.op = .store ty x y)
    (g q : Nat) (cells cur : Array Value) (t : TypeId) (hx : a.eval x = .pointer (some ⟨g, q, none⟩)) (hy : a.eval y = .agg cells)
    (hg : w.heap[g]? = some (.cells cur t (0, 0))) (hi : (P.info? ty).map (·.size) = some cells.size) (hfit : q + cells.size ≤ cur.size) (h1 : cells.all (·.oneCell') = true)
    (h : wpListIn F n P ops Q rest (a.put o.dst undef) (w.setRow g (cur.toList.take q ++ cells.toList ++ cur.toList.drop (q + cells.size)).toArray)) : wpListIn F n P ops Q (o :: rest) a w :=
  wpListIn_plain hgd fun _ hK => by
    refine ⟨fun f _ => hF.fn f, ?_⟩
    rw [Oper.semAt_plain F _ _ (by rw [ho]; intro c h; cases h)]
    unfold execOp
    simp only [ho, hx, hy, Sem.run_bind, run_store_at w ty g q cells cur t hg hi hfit h1, Result.andThen_ok]
    exact hK _ _ h
theorem wpListIn_store_new (hF : WideF F) (hgd : o.guard = none) (ty : TypeId) (x y : Operand) (ho : o.op = .store ty x y)
    (cells cur : Array Value) (t : TypeId) (w0 : World) (hw : w = w0.alloc (.cells cur t)) (hx : a.eval x = .pointer (some ⟨w0.heap.size, 0, none⟩)) (hy : a.eval y = .agg cells)
    (hi : (P.info? ty).map (·.size) = some cells.size) (hs : cur.size = cells.size) (h1 : cells.all (·.oneCell') = true)
    (h : wpListIn F n P ops Q rest (a.put o.dst undef) (w0.alloc (.cells cells t))) : wpListIn F n P ops Q (o :: rest) a w := by
  subst hw
  refine wpListIn_store_at hF hgd ty x y ho w0.heap.size 0 cells cur t hx hy (heap_alloc_new w0 _) hi (by omega) h1 ?_
  rw [alloc_setRow]
  have e : (cur.toList.take 0 ++ cells.toList ++ cur.toList.drop (0 + cells.size)).toArray = cells := by
    rw [List.take_zero, List.nil_append, List.drop_eq_nil_of_le (by simp; omega), List.append_nil]
  rw [e]
  exact h
end
theorem op_delete10 {w w' : World} {o : Oper} {a : Act} {s x : Operand} {T U : TypeId} {v y u : Value} (ho : o.op = Op.call { callee := Callee.builtin Builtin.delete, args := #[s, x], argTypes := #[T, U] }) (hs : a.eval s = v) (hx : a.eval x = y) (hr : (Builtin.delete_ #[T, U] o.type #[v, y]).run Tryz.prog w = .ok u w') : (execOp a.eval o).run Tryz.prog w = .ok (.value u) w' := by
  simp [execOp, ho, resolve, invoke, builtin, hs, hx, hr, Result.andThen]
end Go.Proofs.YtfkgdjoaoidkeaaGreat
