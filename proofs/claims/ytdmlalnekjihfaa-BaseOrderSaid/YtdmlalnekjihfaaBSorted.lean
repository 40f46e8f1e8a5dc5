/- Contract of base.Sorted. -/
import Derived.Test.YtdmlalnekjihfaaSortC
import Derived.Test.YtdmlalnekjihfaaKeysX
import Derived.Test.YtdmlalnekjihfaaBVals
import Derived.Deep.MidRow
namespace Go.Proofs.Ytdmlalnekjihfaa
open Go.RowKit Go.ChangeShapes Go.WideMaps Go.Maps
set_option linter.unusedVariables false

theorem zero_unit (w : World) : (zeroValue 57).run Try.prog w = .ok (.agg #[]) w := by kernel_rfl
/-- The set that has been seen. -/
def SeenAt (w : World) (B : Nat) (O : List PathX) : Prop := w.ownsMap Try.prog 25 unitElem B O.length (setOf (DataW.agg [] : DataW Unit) (O.map keyX))
theorem SeenAt.keep {S : Nat → Prop} {W W' : World} {B : Nat} {O : List PathX} (h : SeenAt W B O) (hf : Fr S W W') (hB : ¬ S B) : SeenAt W' B O := by
  obtain ⟨es, clock, hb, F, hs, hD⟩ := h
  exact ⟨es, clock, hf.heap hb hB, F, hs, hD⟩
theorem SeenAt.look {W : World} {B : Nat} {O : List PathX} (h : SeenAt W B O) (x : PathX) (hO : ∀ y ∈ O, y.n.size ≤ maxLen) (hx : x.n.size ≤ maxLen) :
    (Instr.lookup 56 (.map (some B)) (.agg (pathC x.h x.n)) true).run Try.prog W = .ok (.tuple #[.agg #[], .bool (decide (x ∈ O))]) W := by
  obtain ⟨v, ps, hrun, hv⟩ := World.ownsMap.look_ok (w := W) h lawP Try.underlying56 (zero_unit W) unitElem_mk (keyX_of x hx).1
  obtain ⟨rfl, _⟩ := unitElem_inv hv
  rw [hrun, has_set O x hO hx]
/-- Where Sorted stands, k paths looked at: the set in block B, the paths in a slice of its own. -/
structure BsAt (w wr : World) (B : Nat) (ov : Value) (O : List PathX) : Prop where
  fr : Fr (fun _ => False) w wr
  own : OwnP (fun g => B < g) wr ov O
  set : SeenAt wr B O
  lt : B < wr.heap.size
  new : w.heap.size ≤ B
theorem BsAt.keep {w wr w' : World} {B : Nat} {ov : Value} {O : List PathX} (h : BsAt w wr B ov O) (hf : Fr (fun _ => False) wr w') : BsAt w w' B ov O :=
  ⟨h.fr.trans hf (fun _ h => h.elim), h.own.keep hf (fun _ _ _ h => h), h.set.keep hf (fun h => h), Nat.lt_of_lt_of_le h.lt hf.size, h.new⟩
/-- One path more is in the set: the slice is as it was. -/
theorem BsAt.put {w W2 w3 : World} {B : Nat} {ov : Value} {O : List PathX} {C : Array Value} (h : BsAt w W2 B ov O) (hg : W2.grownBy w3 (some B)) : OwnP (fun g => B < g) (w3.alloc (.cells C 25)) ov O :=
  (h.own.keep (Fr.grownAs hg) (fun k _ hk e => by omega)).keep ((Fr.refl (fun _ => False) w3).alloc _) (fun _ _ _ h => h)

theorem BsAt.more {w W2 w3 w4 : World} {B : Nat} {ov v4 : Value} {O : List PathX} {x : PathX} {C : Array Value} (h : BsAt w W2 B ov O) (hown : w3.ownsMap Try.prog 25 unitElem B (O.length + 1) ((setOf (DataW.agg [] : DataW Unit) (O.map keyX)).put (keyX x) (.agg []))) (hg : W2.grownBy w3 (some B))
    (ho4 : OwnP (fun k => B < k ∨ (w3.alloc (.cells C 25)).heap.size ≤ k) w4 v4 (O ++ [x])) (hg4 : (w3.alloc (.cells C 25)).grownBy w4 ov.ownBlock) (hb4 : v4.ownBlock = ov.ownBlock ∨ v4.ownBlock = some (w3.alloc (.cells C 25)).heap.size) {l : Option Lit} (hk : l = some (keyX x)) : BsAt w w4 B v4 (O ++ [x]) := by
  have hlt := h.lt
  have hs3 : W2.heap.size ≤ w3.heap.size := hg.size
  have hne : ∀ g, ov.ownBlock = some g → B < g := h.own.2
  have hf4 : Fr (fun k => ov.ownBlock = some k) (w3.alloc (.cells C 25)) w4 := (Fr.refl _ _).grown hg4 (fun k hk => .inl hk)
  have hf3 : Fr (fun k => k = B) W2 (w3.alloc (.cells C 25)) := (Fr.grownAs hg).alloc _
  have hfall : Fr (fun _ => False) w w4 := by
    have h1 : Fr (fun k => w.heap.size ≤ k) W2 w4 := (hf3.mono (T := fun k => w.heap.size ≤ k) (fun i _ e => by rw [e]; exact h.new)).trans (hf4.mono (T := fun k => w.heap.size ≤ k) (fun i _ e => by have := hne i e; have := h.new; omega)) (fun i hi => .inl hi)
    exact h.fr.trans h1 (fun i hi => .inr hi)
  refine ⟨hfall, ho4.mono (fun k _ hk => by
    rcases hk with h1 | h1
    · exact h1
    · simp at h1; omega), ?_, ?_, ?_⟩
  · have hset : w3.ownsMap Try.prog 25 unitElem B (O ++ [x]).length (setOf (DataW.agg [] : DataW Unit) ((O ++ [x]).map keyX)) := by
      rw [List.length_append, List.length_singleton, List.map_append, List.map_singleton, setOf_snoc]
      exact hown
    have hs : SeenAt w3 B (O ++ [x]) := hset
    exact (hs.keep ((Fr.refl (fun _ => False) w3).alloc _) (fun h => h)).keep hf4 (fun e => by have := hne B e; omega)
  · have := hf4.size
    simp at this
    omega
  · exact h.new

set_option maxRecDepth 100000 in
set_option maxHeartbeats 8000000 in
theorem bSorted_any {F : Nat → Prop} (w : World) (v : Value) (L : List PathX) (hv : PathsIn F w v L) (hF : ∀ k, F k → k < w.heap.size) (hlen : L.length ≤ 1000000) (hN : ∀ x ∈ L, x.n.size ≤ 140737488351232) :
    Calls Try.prog 19 #[v] w fun e w' => ∃ u M, e = .returned u ∧ PathsIn (fun k => w.heap.size ≤ k) w' u M ∧ Asc lessX M ∧ (∀ x, x ∈ M ↔ x ∈ L) ∧ Fr (fun _ => False) w w' := by
  have hmm := @run_makeMap Try.prog
  have HV := Lib.hid hv
  have HNM := Lib.hid hN
  have HFF := Lib.hid hF
  obtain ⟨ao, cap, rfl, hlc, hcm, hn0, hrow⟩ := hv
  have HROW := Lib.hid hrow
  unfold maxLen at hcm
  have H0 := Lib.hid (show BsAt w (w.alloc (.map #[] 0)) w.heap.size (.slice none 0 0) [] from
    ⟨(Fr.refl _ _).alloc _, OwnP.nil _ _, World.ownsMap_made _ _ _ _, by simp, Nat.le_refl _⟩)
  have HSO := Lib.hid (fun (W : World) (ov : Value) (O : List PathX) (h : OwnP (fun g => w.heap.size < g) W ov O) (hn : O.Nodup) (hl : O.length ≤ 1000000) => sort_any W ov O h hn hl)
  clear hn0 hrow hN hF
  obtain ⟨n, hn⟩ : ∃ n, n = L.length := ⟨_, rfl⟩
  rw [← hn] at hlc ⊢
  have HN := Lib.hid hn
  have hn6 : n ≤ 1000000 := by omega
  clear hn hlen
  go_enter Try.func19, Try.ntmps19
  go_wp2_with fail
  go_loopw [4, 6, 7, 8, 12] (fun ov s6 s7 s8 kv wr => ∃ k : Nat, k ≤ n ∧ kv = .int .i64 k ∧ Hid (BsAt w wr w.heap.size ov (onceK L k))) (fun _ _ _ _ kv _ => n - (intOf kv).toNat)
  case atStart => exact ⟨0, by omega, rfl, H0⟩
  case round =>
    clear H0
    obtain ⟨k, hk, rfl, hR⟩ := hrel
    by_cases hlt : k < n
    · have hkL : k < L.length := by rw [← HN.out]; exact hlt
      obtain ⟨x, hx⟩ : ∃ x, x = L[k] := ⟨_, rfl⟩
      have hxL : x ∈ L := by rw [hx]; exact List.getElem_mem _
      obtain ⟨b, off, rfl, hbF, hrg⟩ := HROW.out (by rintro rfl; simp at hkL)
      have hbw := HFF.out b hbF
      have hr := hrg k hkL
      rw [← hx] at hr
      have hr := hR.out.fr.range hr (fun h => h)
      have hst := onceK_succ L k hkL
      rw [← hx] at hst
      have hxs : x.n.size ≤ maxLen := by have := HNM.out x hxL; unfold maxLen; omega
      have hOs : ∀ y ∈ onceK L k, y.n.size ≤ maxLen := fun y hy => by
        have := HNM.out y (List.mem_of_mem_take ((onceK_mem L k y).1 hy))
        unfold maxLen
        omega
      have hol := onceK_length L k
      obtain ⟨O, hO⟩ : ∃ O, O = onceK L k := ⟨_, rfl⟩
      rw [← hO] at hR hst hOs hol
      have HST := Lib.hid hst
      have HXS := Lib.hid (And.intro hxs hOs)
      obtain ⟨C, hC⟩ : ∃ C, C = pathC x.h x.n := ⟨_, rfl⟩
      obtain ⟨Cl, hCl⟩ : ∃ C, C = cellsX x := ⟨_, rfl⟩
      rw [← hCl] at hr
      have HC := Lib.hid hC
      have hCC : Cl.toArray = C := by rw [hCl, hC]; rfl
      have hll : Cl.length = 21 := by rw [hCl, cellsX_length]
      have hcs : C.size = 21 := by rw [hC, pathC_size x.h x.hl]
      have hiC : (Try.prog.info? 25).map (·.size) = some C.size := by rw [hcs]; kernel_rfl
      have hiL : (Try.prog.info? 25).map (·.size) = some Cl.length := by rw [hll]; kernel_rfl
      have hsC : (#[.int .u8 0, .int .u8 0, .int .u8 0, .int .u8 0, .int .u8 0, .int .u8 0, .int .u8 0, .int .u8 0, .int .u8 0, .int .u8 0, .int .u8 0, .int .u8 0, .int .u8 0, .int .u8 0, .int .u8 0, .int .u8 0, .int .u8 0, .int .u8 0, .int .u8 0, .int .u8 0, .string ⟨#[]⟩] : Array Value).size = C.size := Eq.trans (b := 21) rfl hcs.symm
      have hoC : C.all (·.oneCell') = true := by rw [hC]; exact pathC_one x.h x.n
      have HLL := Lib.hid hCC
      have hkn : (k : Int) < (n : Int) := by omega
      have hk0 : (0 : Int) ≤ (k : Int) := by omega
      have hd : decide ((k : Int) < (n : Int)) = true := by rw [decide_eq_true_iff]; exact hkn
      have hiU : (Try.prog.info? 57).map (·.size) = some (#[] : Array Value).size := by kernel_rfl
      have hoU : (#[] : Array Value).all (·.oneCell') = true := by simp
      have HKEY := Lib.hid (show keyOf Try.prog 25 (.agg C) = some (keyX x) by rw [hC]; exact (keyX_of x hxs).1)
      have HBO := Lib.hid (fun (W : World) => show (Instr.buildSlice 37 1 #[(0, .agg C)]).run Try.prog W = .ok (.slice (some ⟨W.heap.size, 0, none⟩) 1 1) (W.alloc (.cells C 25)) by rw [hC]; exact run_build_one W x)
      have HPO := Lib.hid (fun (W : World) => show PathsIn (fun k => k = W.heap.size) (W.alloc (.cells C 25)) (.slice (some ⟨W.heap.size, 0, none⟩) 1 1) [x] by rw [hC]; exact PathsIn.one W x)
      have hO6 : O.length + 1 ≤ 1000000 := by omega
      have HLK := Lib.hid (fun (W : World) (h : SeenAt W w.heap.size O) => show (Instr.lookup 56 (.map (some w.heap.size)) (.agg C) true).run Try.prog W = .ok (.tuple #[.agg #[], .bool (decide (x ∈ O))]) W by rw [hC]; exact h.look x hOs hxs)
      clear hx hxL hrg hbF hst hxs hOs hO hC hCl hcs hll hCC hol
      by_cases hmem : x ∈ O
      · have hb : decide (x ∈ O) = true := decide_eq_true hmem
        have HO1 := Lib.hid (HST.out.trans (if_pos hmem))
        rw [hb] at HLK
        clear hb hmem
        go_wp2_with (first
          | (with_reducible refine wpList_load_mid rfl 25 (.tmp 14) rfl b (off + k * 21) rfl Cl _ hr Try.underlying25 rfl hiL ?_; rw [HLL.out])
          | (with_reducible refine wpList_store_row rfl 25 (.tmp 6) (.tmp 15) rfl wr.heap.size C #[.int .u8 0, .int .u8 0, .int .u8 0, .int .u8 0, .int .u8 0, .int .u8 0, .int .u8 0, .int .u8 0, .int .u8 0, .int .u8 0, .int .u8 0, .int .u8 0, .int .u8 0, .int .u8 0, .int .u8 0, .int .u8 0, .int .u8 0, .int .u8 0, .int .u8 0, .int .u8 0, .string ⟨#[]⟩] 25 rfl rfl (heap_alloc_new wr _) hiC hsC hoC ?_; (have hbx := setRow_heap (wr.alloc (.cells #[.int .u8 0, .int .u8 0, .int .u8 0, .int .u8 0, .int .u8 0, .int .u8 0, .int .u8 0, .int .u8 0, .int .u8 0, .int .u8 0, .int .u8 0, .int .u8 0, .int .u8 0, .int .u8 0, .int .u8 0, .int .u8 0, .int .u8 0, .int .u8 0, .int .u8 0, .int .u8 0, .string ⟨#[]⟩] 25)) wr.heap.size #[.int .u8 0, .int .u8 0, .int .u8 0, .int .u8 0, .int .u8 0, .int .u8 0, .int .u8 0, .int .u8 0, .int .u8 0, .int .u8 0, .int .u8 0, .int .u8 0, .int .u8 0, .int .u8 0, .int .u8 0, .int .u8 0, .int .u8 0, .int .u8 0, .int .u8 0, .int .u8 0, .string ⟨#[]⟩] C 25 (0, 0) (heap_alloc_new wr _)); (have HGX := Lib.hid (show w.heap.size < wr.heap.size from hR.out.lt)); (have HR1 := Lib.hid (BsAt.keep hR.out (Fr.laid wr #[.int .u8 0, .int .u8 0, .int .u8 0, .int .u8 0, .int .u8 0, .int .u8 0, .int .u8 0, .int .u8 0, .int .u8 0, .int .u8 0, .int .u8 0, .int .u8 0, .int .u8 0, .int .u8 0, .int .u8 0, .int .u8 0, .int .u8 0, .int .u8 0, .int .u8 0, .int .u8 0, .string ⟨#[]⟩] C 25))); generalize (wr.alloc (.cells #[.int .u8 0, .int .u8 0, .int .u8 0, .int .u8 0, .int .u8 0, .int .u8 0, .int .u8 0, .int .u8 0, .int .u8 0, .int .u8 0, .int .u8 0, .int .u8 0, .int .u8 0, .int .u8 0, .int .u8 0, .int .u8 0, .int .u8 0, .int .u8 0, .int .u8 0, .int .u8 0, .string ⟨#[]⟩] 25)).setRow wr.heap.size C = W1 at *; generalize wr.heap.size = gx at *)
          | (with_reducible refine wpList_load_row rfl 25 (.tmp 6) rfl gx rfl 25 C (0, 0) _ hbx Try.underlying25 rfl hiC ?_; (have hlook := HLK.out W1 HR1.out.set))
          | (with_reducible refine wpList_store_row rfl 57 (.tmp 7) (.tmp 20) rfl W1.heap.size #[] #[] 57 rfl rfl (heap_alloc_new W1 _) hiU rfl hoU ?_; (have hbx2 := Fr.heap (Fr.laid W1 #[] #[] 57) hbx (fun h => h)); (have HR2 := Lib.hid (BsAt.keep HR1.out (Fr.laid W1 #[] #[] 57))); generalize (W1.alloc (.cells #[] 57)).setRow W1.heap.size #[] = W2 at *))
        go_roundw
        case rel => exact ⟨k + 1, by omega, by go_num, by rw [HO1.out]; exact HR2⟩
        case measure => simp [intOf]; omega
      · have hb : decide (x ∈ O) = false := decide_eq_false hmem
        have HO1 := Lib.hid (HST.out.trans (if_neg hmem))
        rw [hb] at HLK
        clear hb hmem
        go_upto_region 9 with (first
          | (with_reducible refine wpList_load_mid rfl 25 (.tmp 14) rfl b (off + k * 21) rfl Cl _ hr Try.underlying25 rfl hiL ?_; rw [HLL.out])
          | (with_reducible refine wpList_store_row rfl 25 (.tmp 6) (.tmp 15) rfl wr.heap.size C #[.int .u8 0, .int .u8 0, .int .u8 0, .int .u8 0, .int .u8 0, .int .u8 0, .int .u8 0, .int .u8 0, .int .u8 0, .int .u8 0, .int .u8 0, .int .u8 0, .int .u8 0, .int .u8 0, .int .u8 0, .int .u8 0, .int .u8 0, .int .u8 0, .int .u8 0, .int .u8 0, .string ⟨#[]⟩] 25 rfl rfl (heap_alloc_new wr _) hiC hsC hoC ?_; (have hbx := setRow_heap (wr.alloc (.cells #[.int .u8 0, .int .u8 0, .int .u8 0, .int .u8 0, .int .u8 0, .int .u8 0, .int .u8 0, .int .u8 0, .int .u8 0, .int .u8 0, .int .u8 0, .int .u8 0, .int .u8 0, .int .u8 0, .int .u8 0, .int .u8 0, .int .u8 0, .int .u8 0, .int .u8 0, .int .u8 0, .string ⟨#[]⟩] 25)) wr.heap.size #[.int .u8 0, .int .u8 0, .int .u8 0, .int .u8 0, .int .u8 0, .int .u8 0, .int .u8 0, .int .u8 0, .int .u8 0, .int .u8 0, .int .u8 0, .int .u8 0, .int .u8 0, .int .u8 0, .int .u8 0, .int .u8 0, .int .u8 0, .int .u8 0, .int .u8 0, .int .u8 0, .string ⟨#[]⟩] C 25 (0, 0) (heap_alloc_new wr _)); (have HGX := Lib.hid (show w.heap.size < wr.heap.size from hR.out.lt)); (have HR1 := Lib.hid (BsAt.keep hR.out (Fr.laid wr #[.int .u8 0, .int .u8 0, .int .u8 0, .int .u8 0, .int .u8 0, .int .u8 0, .int .u8 0, .int .u8 0, .int .u8 0, .int .u8 0, .int .u8 0, .int .u8 0, .int .u8 0, .int .u8 0, .int .u8 0, .int .u8 0, .int .u8 0, .int .u8 0, .int .u8 0, .int .u8 0, .string ⟨#[]⟩] C 25))); generalize (wr.alloc (.cells #[.int .u8 0, .int .u8 0, .int .u8 0, .int .u8 0, .int .u8 0, .int .u8 0, .int .u8 0, .int .u8 0, .int .u8 0, .int .u8 0, .int .u8 0, .int .u8 0, .int .u8 0, .int .u8 0, .int .u8 0, .int .u8 0, .int .u8 0, .int .u8 0, .int .u8 0, .int .u8 0, .string ⟨#[]⟩] 25)).setRow wr.heap.size C = W1 at *; generalize wr.heap.size = gx at *)
          | (with_reducible refine wpList_load_row rfl 25 (.tmp 6) rfl gx rfl 25 C (0, 0) _ hbx Try.underlying25 rfl hiC ?_; (have hlook := HLK.out W1 HR1.out.set))
          | (with_reducible refine wpList_store_row rfl 57 (.tmp 7) (.tmp 20) rfl W1.heap.size #[] #[] 57 rfl rfl (heap_alloc_new W1 _) hiU rfl hoU ?_; (have hbx2 := Fr.heap (Fr.laid W1 #[] #[] 57) hbx (fun h => h)); (have HR2 := Lib.hid (BsAt.keep HR1.out (Fr.laid W1 #[] #[] 57))); generalize (W1.alloc (.cells #[] 57)).setRow W1.heap.size #[] = W2 at *)
          | (with_reducible refine wpList_load_row rfl 25 (.tmp 6) rfl gx rfl 25 C (0, 0) _ hbx2 Try.underlying25 rfl hiC ?_)
          | (at_mapUpdate; refine wpList_mapUpdate_own _ rfl _ _ _ 56 rfl 25 57 lawP Try.underlying56 unitElem w.heap.size O.length _ rfl HR2.out.set (by unfold maxLen; omega) _ _ (keyX x) rfl rfl HKEY.out (.agg []) [] unitElem_mk ?_; intro w3 hown3 hgrow3; (have HR3 := Lib.hid (And.intro hown3 hgrow3)); (have hbx3 := (hgrow3.block gx (lt_of_block hbx2) (fun e => by injection e with e; have := HR2.out.lt; have := HGX.out; omega)).trans hbx2); clear hown3 hgrow3))
        go_wp2_with (first
          | ((with_reducible refine wpList_load_row rfl 25 (.tmp 6) rfl gx rfl 25 C (0, 0) _ hbx3 Try.underlying25 rfl hiC ?_); go_loud (refine wpList_one rfl 37 (.tmp 28) rfl (.agg C) (.slice (some ⟨w3.heap.size, 0, none⟩) 1 1) (w3.alloc (.cells C 25)) rfl (HBO.out w3) ?_); refine wpList_append_paths (F := fun g => w.heap.size < g) (G := fun k => k = w3.heap.size) _ rfl (.tmp 27) (.tmp 29) rfl u4 _ O [x] rfl rfl (HR2.out.put HR3.out.2) (HPO.out w3) (by have := hO6; simp only [List.length_singleton]; omega) ?_; intro v4 w4 hown4 hgrow4 hblk4; (have HR4 := Lib.hid (And.intro hown4 (And.intro hgrow4 hblk4))); clear hown4 hgrow4 hblk4))
        go_roundw
        case rel => exact ⟨k + 1, by omega, by go_num, by rw [HO1.out]; exact Lib.hid (BsAt.more HR2.out HR3.out.1 HR3.out.2 HR4.out.1 HR4.out.2.1 HR4.out.2.2 HKEY.out)⟩
        case measure => simp [intOf]; omega
    · have hkn : k = n := by omega
      have hd : decide ((k : Int) < (n : Int)) = false := by rw [decide_eq_false_iff_not]; omega
      obtain ⟨O, hO⟩ : ∃ O, O = onceK L k := ⟨_, rfl⟩
      have hnd : O.Nodup := by rw [hO]; exact onceK_nodup L k
      have hol : O.length ≤ k := by rw [hO]; exact onceK_length L k
      have hmm : ∀ x, x ∈ O ↔ x ∈ L := fun x => by
        rw [hO, onceK_mem, List.take_of_length_le (by rw [← HN.out]; omega)]
      rw [← hO] at hR
      have HSX := Lib.hid (HSO.out wr u4 O hR.out.own hnd (by omega))
      have HMM := Lib.hid hmm
      clear hO hnd hol hmm hkn
      go_wp2_with (go_at_call 32; refine HSX.out.mono ?_; rintro e w2 ⟨rfl, M, hp, ha, hm, hf⟩; have HRES := Lib.hid (And.intro hp (And.intro ha (And.intro hm hf))); clear hp ha hm hf)
      go_ret
      obtain ⟨hp, ha, hm, hf⟩ := HRES.out
      have hnew := hR.out.new
      refine ⟨_, M, rfl, hp.mono (fun i _ h => by omega), ha, fun x => (hm x).trans (HMM.out x), hR.out.fr.trans hf (fun i hi => .inr ?_)⟩
      have := hR.out.own.2 i hi
      omega
end Go.Proofs.Ytdmlalnekjihfaa
