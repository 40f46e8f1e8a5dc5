/- Contract of the document's own: spenceref02.Digest. -/
import Derived.Test.YthjpgnmpcllolaaDoorRPad
namespace Go.Proofs.YthjpgnmpcllolaaDoor
open Go.RowKit Go.ChangeShapes
set_option linter.unusedVariables false

/-- v[i:j]. -/
theorem run_mid (w : World) (ao : Option Addr) (l cap i n : Nat) (hi : Int) (hh : hi = ((i + n : Nat) : Int)) (hn : i + n ≤ cap) :
    (Instr.slice 38 (.slice ao l cap) (some (.int .i64 (i : Int))) (some (.int .i64 hi)) none).run Tryd.prog w = .ok (.slice (cutLow ao i cap) n (cap - i)) w := by
  obtain ⟨j, hj⟩ : ∃ j, j = i + n := ⟨_, rfl⟩
  rw [← hj] at hh hn
  subst hh
  have hs : ∀ w, (sizeOf 5).run Tryd.prog w = .ok 1 w := fun w => by kernel_rfl
  have e1 : ∀ w, (Instr.sliceBound (.int .i64 (j : Int)) cap .sliceAcap).run Tryd.prog w = .ok j w := fun w => by
    rw [run_sliceBound w .i64 (j : Int) cap .sliceAcap (by omega) (by omega), Int.toNat_natCast]
  have e2 : ∀ w, (Instr.sliceBound (.int .i64 (i : Int)) j .sliceB).run Tryd.prog w = .ok i w := fun w => by
    rw [run_sliceBound w .i64 (i : Int) j .sliceB (by omega) (by omega), Int.toNat_natCast]
  have h3 : j - i = n := by omega
  simp [Instr.slice, run_underlying Tryd.underlying38, Instr.sliceBounds, e1, e2, hs, cutLow, h3]
theorem BytesIn.mid {F : Nat → Prop} {w : World} {ao : Option Addr} {l cap : Nat} {X : List UInt8} (h : BytesIn F w (.slice ao l cap) X) (i n : Nat) (hn : i + n ≤ X.length) :
    BytesIn F w (.slice (Go.Proofs.YthjpgnmpcllolaaDoor.cutLow ao i cap) n (cap - i)) ((X.drop i).take n) :=
  (h.cutLow i (by omega)).take n (by rw [List.length_drop]; omega)

/-- The blocks of Digest, amid the blocks. -/
structure D1At (w wr : World) (v : Value) (M : List UInt8) (s : St) : Prop where
  fr : Fr (fun _ => False) w wr
  res : wr.heap[w.heap.size]? = some (.cells (bcells 32 (List.replicate 32 0) 0) 27 (0, 0))
  x : StAt wr (w.heap.size + 1) s [] 54
  all : OwnB (fun k => w.heap.size + 2 ≤ k) wr v M
/-- .. amid the bytes. -/
structure D2At (w wr : World) (s : St) (g k : Nat) : Prop where
  fr : Fr (fun _ => False) w wr
  res : wr.heap[w.heap.size]? = some (.cells (bcells 32 (List.replicate 32 0) 0) 27 (0, 0))
  x : StAt wr (w.heap.size + 1) s [] 54
  row : wr.heap[g]? = some (.cells (bcells 32 s.bytes k) 27 (0, 0))
theorem D2At.set_ {w wr : World} {s : St} {g k : Nat} (h : D2At w wr s g k) (hg : w.heap.size + 2 ≤ g) (hk : k < 32) (x : Int) (hx : x = (s.bytes.getD k 0).toNat) : D2At w (wr.setCell ⟨g, k, none⟩ (.int .u8 x)) s g (k + 1) := by
  have hf : Fr (fun i => i = g) wr (wr.setCell ⟨g, k, none⟩ (.int .u8 x)) := (Fr.refl (fun i => i = g) wr).setCell (p := ⟨g, k, none⟩) (.inl rfl) _
  refine ⟨h.fr.trans hf (fun i hi => .inr (by omega)), hf.heap h.res (by omega), hf.heap h.x (by omega), ?_⟩
  rw [heap_setCell_at _ h.row, hx]
  exact congrArg (fun c => some (Obj.cells c _ _)) (bcells_set 32 s.bytes k rfl hk)
theorem D2At.next {w wr : World} {s : St} {g k : Nat} (h : D2At w wr s g k) (hk : k < 32) : wr.cell? ⟨g, k, none⟩ = some (.int .u8 0) ∧ wr.frozen? ⟨g, k, none⟩ = false := by
  rw [cell_of_row _ _ _ _ _ _ h.row, bcells_next 32 s.bytes k rfl hk]
  exact ⟨rfl, frozen_of_row _ _ _ _ _ h.row⟩

set_option maxRecDepth 100000 in
set_option maxHeartbeats 4000000 in
theorem rdigest_any {G : Nat → Prop} (v : Value) (L : List UInt8) (w : World) (hv : BytesIn G w v L) (hG : ∀ k, G k → k < w.heap.size) (hL : L.length ≤ 100000000000) :
    Calls Tryd.prog 25 #[v] w fun e w' => e = .returned (.agg ((digest L).map bv).toArray) ∧ Fr (fun _ => False) w w' := by
  have HV := Lib.hid hv
  have HLL := Lib.hid hL
  clear hv hL
  go_enter Tryd.func25, Tryd.ntmps25
  go_wp2_with fail
  refine (rpad_any v L _ (HV.out.keep (S := fun _ => False) (((Fr.refl _ _).alloc _).alloc _) (fun _ _ _ h => h)) HLL.out).mono ?_
  rintro e w2 ⟨u, rfl, ho2, hf2⟩
  have HD : Hid (D1At w w2 u (L ++ padOf L.length) h0) := Lib.hid
    ⟨(((Fr.refl (fun _ => False) w).alloc _).alloc _).trans hf2 (fun _ h => h.elim), hf2.heap (heap_alloc2_old w _ _) (fun h => h), hf2.heap (heap_alloc2_new w _ _) (fun h => h), ho2.mono (fun k _ h => by simp at h; omega)⟩
  have HDG := Lib.hid (show digest L = (blocks ((L ++ padOf L.length).length / 64) h0 (L ++ padOf L.length)).bytes by
    unfold digest
    rw [show (L.length + 72) / 64 = (L ++ padOf L.length).length / 64 by rw [List.length_append, padOf_length]; omega])
  obtain ⟨m, hm, hm1, hmb⟩ : ∃ m, (L ++ padOf L.length).length = 64 * m ∧ 1 ≤ m ∧ m ≤ 10000000000 := ⟨(L ++ padOf L.length).length / 64, by
    rw [List.length_append, padOf_length]; omega, by rw [List.length_append, padOf_length]; omega, by rw [List.length_append, padOf_length]; have := HLL.out; omega⟩
  rw [show (L ++ padOf L.length).length / 64 = m by omega] at HDG
  obtain ⟨g, c, hu, hc1, hc2, _⟩ := HD.out.all.form (by omega)
  clear ho2 hf2 hG
  rw [hm] at hu hc1
  subst hu
  generalize L ++ padOf L.length = M at *
  unfold maxLen at hc2
  have HMM := Lib.hid hm
  clear hm
  obtain ⟨l, hl⟩ : ∃ l, l = 64 * m := ⟨_, rfl⟩
  rw [← hl] at hc1 HD ⊢
  have HL64 := Lib.hid hl
  clear hl
  go_wp2_with fail
  go_loopw [5] (fun iv wr => ∃ j i : Nat, j ≤ m ∧ i = 64 * j ∧ iv = .int .i64 i ∧ Hid (D1At w wr (.slice (some ⟨g, 0, none⟩) l c) M (blocks j h0 M))) (fun iv _ => l - (intOf iv).toNat)
  case atStart => exact ⟨0, 0, by omega, rfl, rfl, HD⟩
  case round =>
    obtain ⟨j, i, hj, hi, rfl, hR⟩ := hrel
    clear HD
    by_cases hlt : j < m
    · have hlt' : i + 64 ≤ l := by have := HL64.out; omega
      have hok := blocks_ok j h0 M h0_ok
      have HB1 := Lib.hid (show blocks (j + 1) h0 M = comp (blocks j h0 M) ((M.drop i).take 64) by rw [hi]; exact blocks_succ j h0 M)
      obtain ⟨s, hs⟩ : ∃ s, s = blocks j h0 M := ⟨_, rfl⟩
      rw [← hs] at hR hok HB1
      obtain ⟨S', hS'⟩ : ∃ S', S' = (stc (comp s ((M.drop i).take 64))).toArray := ⟨_, rfl⟩
      have hsS' : S'.size = 8 := by rw [hS']; rfl
      have h1S' : S'.all (·.oneCell') = true := by rw [hS']; simp [stc, uw, Value.oneCell']
      have hx3 : wr.heap[w.heap.size + 1]? = some (.cells (stc s).toArray 54 (0, 0)) := hR.out.x.trans (by simp)
      obtain ⟨c0, c1, c2, c3, c4, c5, c6, c7⟩ := hR.out.x.cells
      have hml : i + 64 ≤ M.length := by rw [HMM.out, ← HL64.out]; exact hlt'
      have hbk := (fun W (hf : Fr (fun _ => False) wr W) => rblock_any W hok ((hR.out.all.bytes.mid i 64 hml).keep hf (fun _ _ _ h => h)) (by rw [List.length_take, List.length_drop]; omega))
      rw [← hS'] at hbk
      obtain ⟨S, hS⟩ : ∃ S, S = (stc s).toArray := ⟨_, rfl⟩
      have hsS : S.size = 8 := by rw [hS]; rfl
      rw [← hS] at hx3
      clear hS
      obtain ⟨a, b', c', d, e', f, g', h'⟩ := s
      simp only [stc, uw] at hbk c0 c1 c2 c3 c4 c5 c6 c7
      have HBK := Lib.hid hbk
      have hmid := fun w => run_mid w (some ⟨g, 0, none⟩) l c i 64 ((i : Int) + 64) (by omega) (by omega)
      have HS' := Lib.hid hS'
      have HHI := Lib.hid hi
      have HX3 := Lib.hid hx3
      clear hs hS' hi hbk hx3
      have hwr : IntKind.i64.wrap ((i : Int) + 64) = (i : Int) + 64 := IntWalk.i64_in _ (by have := HL64.out; omega)
      go_wp2_with fail
      go_still_tail 6, (by kernel_rfl)
      have HFD := Lib.hid (show Fr (fun _ => False) wr wr.drew from (Fr.refl _ wr).drew)
      have HX4 := Lib.hid (show wr.drew.heap[w.heap.size + 1]? = some (.cells S 54 (0, 0)) from HX3.out)
      go_wp2_with (first
        | (go_at_call 33; refine (HBK.out _ HFD.out).mono ?_; rintro e w3 ⟨rfl, hf3⟩; have hx5 := hf3.heap HX4.out (fun h => h); have HF3 := Lib.hid (HFD.out.trans hf3 (fun _ h => h.elim)); clear hf3)
        | (with_reducible refine wpList_store_row rfl 54 (.tmp 3) (.tmp 23) rfl (w.heap.size + 1) S' S 54 rfl rfl hx5 (by rw [hsS']; kernel_rfl) (by rw [hsS, hsS']) h1S' ?_))
      go_roundw
      case rel =>
        have hf : Fr (fun k => k = w.heap.size + 1) wr (w3.setRow (w.heap.size + 1) S') := (HF3.out.mono (T := fun k => k = w.heap.size + 1) (fun _ _ h => h.elim)).setRow (.inl rfl) _
        refine ⟨j + 1, i + 64, by omega, by have := HHI.out; omega, by go_num, Lib.hid ⟨hR.out.fr.trans hf (fun k hk => .inr (by omega)), hf.heap hR.out.res (by omega), ?_, hR.out.all.keep hf (fun k _ hk => by omega)⟩⟩
        rw [HB1.out]
        refine (setRow_heap _ _ _ S' _ _ hx5).trans ?_
        rw [HS'.out, List.append_nil]
      case measure => simp [intOf]; have := HL64.out; omega
    · obtain rfl : j = m := by omega
      have hil : ¬ i < l := by have := HL64.out; omega
      obtain ⟨s, hs⟩ : ∃ s, s = blocks j h0 M := ⟨_, rfl⟩
      have hok := blocks_ok j h0 M h0_ok
      rw [← hs] at hR HDG hok
      have HD2 : Hid (∀ o, o = .cells (bcells 32 (List.replicate 32 0) 0) 27 → D2At w (wr.alloc o) s wr.heap.size 0) := Lib.hid fun o ho => by
        have hf : Fr (fun _ => False) wr (wr.alloc o) := (Fr.refl _ wr).alloc _
        refine ⟨hR.out.fr.alloc _, hf.heap hR.out.res (fun h => h), hf.heap hR.out.x (fun h => h), ?_⟩
        rw [ho]
        refine (heap_alloc_new wr _).trans ?_
        simp [bcells]
      have hsz : w.heap.size + 2 ≤ wr.heap.size := lt_of_block hR.out.x
      have HO := Lib.hid hok
      clear hs hok hR hj hi hlt
      go_wp2_with fail
      obtain ⟨p, hp⟩ : ∃ p, p = wr.heap.size := ⟨_, rfl⟩
      rw [← hp] at hsz HD2
      have HPP := Lib.hid hp
      have hp' : wr.heap.size = p := hp.symm
      rw [hp']
      clear hp hp'
      go_loopw [7] (fun iv wi => ∃ k : Nat, k ≤ 32 ∧ iv = .int .i64 k ∧ Hid (D2At w wi s p k)) (fun iv _ => 32 - (intOf iv).toNat)
      case atStart => exact ⟨0, by omega, rfl, Lib.hid (HD2.out _ rfl)⟩
      case round =>
        obtain ⟨k, hk, rfl, hR⟩ := hrel
        by_cases hlt : k < 32
        · obtain ⟨q, hq⟩ : ∃ q, q = k / 4 := ⟨_, rfl⟩
          obtain ⟨r, hr⟩ : ∃ r, r = k % 4 := ⟨_, rfl⟩
          obtain ⟨t, ht⟩ : ∃ t, t = 24 - 8 * r := ⟨_, rfl⟩
          have eq_ : (k : Int) / 4 = (q : Int) := by omega
          have er : (k : Int) % 4 = (r : Int) := by omega
          have ec : (24 : Int) - (r : Int) * 8 = (t : Int) := by omega
          have em : min t 32 = t := by omega
          have hq8 : q < 8 := by omega
          have hr4 : r < 4 := by omega
          have HB := Lib.hid (show s.bytes.getD k 0 = UInt8.ofNat (s.list.getD q 0 / 2 ^ t) by rw [bytes_get s k hlt, hq, ht, hr])
          have cq := hR.out.x.word q hq8
          obtain ⟨c0, f0⟩ := hR.out.next hlt
          have hx := list_lt HO.out q
          generalize s.list.getD q 0 = x at *
          clear hq hr ht
          go_wp2_with fail
          go_roundw
          case rel => exact ⟨k + 1, by omega, by go_num, Lib.hid (hR.out.set_ hsz hlt _ (byte_spell _ _ _ HB.out))⟩
          case measure => simp [intOf]; omega
        · obtain rfl : k = 32 := by omega
          have hr := hR.out.res
          have hg := hR.out.row
          have HF := Lib.hid hR.out.fr
          have hs0 := bcells_size 32 (List.replicate 32 0) 0 (by simp) (by omega)
          have hs := bcells_size 32 s.bytes 32 rfl (by omega)
          have h1 := bcells_one 32 s.bytes 32
          have HE := Lib.hid (bcells_all 32 s.bytes rfl)
          clear hR HD2
          generalize bcells 32 s.bytes 32 = C at *
          generalize bcells 32 (List.replicate 32 0) 0 = C0 at *
          go_wp2_with (first
            | (with_reducible refine wpList_load_row rfl 27 (.tmp 6) rfl p rfl 27 C (0, 0) _ hg Tryd.underlying27 rfl (by rw [hs]; kernel_rfl) ?_)
            | (with_reducible refine wpList_store_row rfl 27 (.tmp 2) (.tmp 40) rfl w.heap.size C C0 27 rfl rfl hr (by rw [hs]; kernel_rfl) (by rw [hs0, hs]) h1 ?_))
          refine bodyPost_ret (results_cell_row rfl _ _ w.heap.size 27 C (0, 0) _ rfl (setRow_heap _ _ _ _ _ _ hr) Tryd.underlying27 rfl (by rw [hs]; kernel_rfl)) rfl ⟨?_, HF.out.setRow (.inr (Nat.le_refl _)) _⟩
          rw [HE.out, HDG.out]
end Go.Proofs.YthjpgnmpcllolaaDoor
