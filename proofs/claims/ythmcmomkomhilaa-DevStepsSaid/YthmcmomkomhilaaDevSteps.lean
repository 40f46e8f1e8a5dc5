/- Contract: DevSteps; of no device; rows of deeds. -/
import Derived.Test.YthmcmomkomhilaaDOps3
import Derived.Test.YthmcmomkomhilaaStatEq
import Derived.Deep.LoopGhost
import Derived.Test.YthmcmomkomhilaaDevDoes
import Derived.Test.YthmcmomkomhilaaOps
import Derived.Test.YthmcmomkomhilaaDAdd
namespace Go.Proofs.Ythmcmomkomhilaa
open Go.RowKit Go.ChangeShapes
set_option linter.unusedVariables false

theorem run_eql_nil (w : World) (a : Addr) : (binOp .eql 25 (.pointer none) (.pointer (some a))).run Try.prog w = .ok (.bool false) w := by kernel_rfl
theorem dIs_no (w : World) (p : Value) (h : NoDv w p) :
    Calls Try.prog 42 #[p] w fun e w' => e = .returned (.bool false) ∧ w = w' := by
  rcases h with rfl | ⟨g, rfl, h5⟩
  · go_enter Try.func42, Try.ntmps42
    go_wp2
    go_ret
    exact ⟨rfl, rfl⟩
  · have heq := run_eql_nil
    go_enter Try.func42, Try.ntmps42
    go_wp2
    go_ret
    exact ⟨rfl, rfl⟩
theorem NoDv.keep {w w' : World} {p : Value} (h : NoDv w p) (hf : Fr (fun _ => False) w w') : NoDv w' p := by
  rcases h with rfl | ⟨g, rfl, h5⟩
  · exact .inl rfl
  · exact .inr ⟨g, rfl, hf.cell h5 (fun h => h)⟩
theorem dReady_no (w : World) (p : Value) (h : NoDv w p) :
    Calls Try.prog 37 #[p] w fun e w' => e = .returned (.int .i64 1) ∧ w = w' := by
  have hc := dIs_no w p h
  clear h
  go_enter Try.func37, Try.ntmps37
  go_wp2_with (go_at_call 42; refine hc.mono ?_; rintro e w1 ⟨rfl, rfl⟩)
  go_ret
  exact ⟨rfl, rfl⟩
theorem nFlush (w : World) (p : Value) (h : NoDv w p) :
    Calls Try.prog 16 #[p] w fun e w' => e = .returned (.int .i64 1) ∧ w = w' := by
  have hc := dReady_no w p h
  clear h
  go_enter Try.func16, Try.ntmps16
  go_wp2_with (go_at_call 37; refine hc.mono ?_; rintro e w1 ⟨rfl, rfl⟩)
  go_ret
  exact ⟨rfl, rfl⟩
theorem nCrash (w : World) (p : Value) (h : NoDv w p) :
    Calls Try.prog 19 #[p] w fun e w' => e = .returned (.int .i64 1) ∧ w = w' := by
  have hc := dReady_no w p h
  clear h
  go_enter Try.func19, Try.ntmps19
  go_wp2_with (go_at_call 37; refine hc.mono ?_; rintro e w1 ⟨rfl, rfl⟩)
  go_ret
  exact ⟨rfl, rfl⟩
theorem nFuse (w : World) (p : Value) (n : Int) (h : NoDv w p) :
    Calls Try.prog 22 #[p, .int .i64 n] w fun e w' => e = .returned (.int .i64 1) ∧ w = w' := by
  have hc := dReady_no w p h
  clear h
  go_enter Try.func22, Try.ntmps22
  go_wp2_with (go_at_call 37; refine hc.mono ?_; rintro e w1 ⟨rfl, rfl⟩)
  go_ret
  exact ⟨rfl, rfl⟩
theorem nWake (w : World) (p : Value) (n : Int) (h : NoDv w p) :
    Calls Try.prog 20 #[p, .int .i64 n] w fun e w' => e = .returned (.int .i64 1) ∧ w = w' := by
  have hc := dReady_no w p h
  clear h
  go_enter Try.func20, Try.ntmps20
  go_wp2_with (go_at_call 37; refine hc.mono ?_; rintro e w1 ⟨rfl, rfl⟩)
  go_ret
  exact ⟨rfl, rfl⟩
theorem nWrite (w : World) (p : Value) (n : Int) (x : Value) (h : NoDv w p) :
    Calls Try.prog 14 #[p, .int .i64 n, x] w fun e w' => e = .returned (.int .i64 1) ∧ w = w' := by
  have hc := dReady_no w p h
  clear h
  go_enter Try.func14, Try.ntmps14
  go_wp2_with (go_at_call 37; refine hc.mono ?_; rintro e w1 ⟨rfl, rfl⟩)
  go_ret
  exact ⟨rfl, rfl⟩
theorem nRead (w : World) (p : Value) (n : Int) (h : NoDv w p) :
    Calls Try.prog 24 #[p, .int .i64 n] w fun e w' => e = .returned (.tuple #[.slice none 0 0, .int .i64 1]) ∧ w = w' := by
  have hc := dReady_no w p h
  clear h
  go_enter Try.func24, Try.ntmps24
  go_wp2_with (go_at_call 37; refine hc.mono ?_; rintro e w1 ⟨rfl, rfl⟩)
  go_ret2
  exact ⟨rfl, rfl⟩
theorem nSpoil (w : World) (p : Value) (n m : Int) (h : NoDv w p) :
    Calls Try.prog 34 #[p, .int .i64 n, .int .i64 m] w fun e w' => e = .returned (.int .i64 1) ∧ w = w' := by
  have hc := dIs_no w p h
  clear h
  go_enter Try.func34, Try.ntmps34
  go_wp2_with (go_at_call 42; refine hc.mono ?_; rintro e w1 ⟨rfl, rfl⟩)
  go_ret
  exact ⟨rfl, rfl⟩
theorem nKept (w : World) (p : Value) (h : NoDv w p) :
    Calls Try.prog 17 #[p] w fun e w' => e = .returned (.slice none 0 0) ∧ w = w' := by
  have hc := dIs_no w p h
  clear h
  go_enter Try.func17, Try.ntmps17
  go_wp2_with (go_at_call 42; refine hc.mono ?_; rintro e w1 ⟨rfl, rfl⟩)
  go_ret
  exact ⟨rfl, rfl⟩
theorem nStat (w : World) (p : Value) (h : NoDv w p) :
    Calls Try.prog 23 #[p] w fun e w' => e = .returned (.agg #[.int .i64 0, .int .i64 0, .int .i64 0, .bool false]) ∧ Fr (fun _ => False) w w' := by
  obtain ⟨W0, hW0⟩ : ∃ W0, W0 = w.alloc (.cells #[.int .i64 0, .int .i64 0, .int .i64 0, .bool false] 46) := ⟨_, rfl⟩
  have hf0 : Fr (fun _ => False) w W0 := by rw [hW0]; exact (Fr.refl _ _).alloc _
  have hc := dIs_no _ p (h.keep hf0)
  have hnew : W0.heap[w.heap.size]? = some (.cells #[.int .i64 0, .int .i64 0, .int .i64 0, .bool false] 46 (0, 0)) := by rw [hW0]; exact heap_alloc_new _ _
  have HF0 := Lib.hid (And.intro hf0 hnew)
  have HW := Lib.hid hW0
  have HC := Lib.hid hc
  clear h hf0 hW0 hnew hc
  go_enter Try.func23, Try.ntmps23
  go_wp2_with (first
    | (go_at_call 42; rw [← HW.out]; refine HC.out.mono ?_; rintro e w1 ⟨rfl, rfl⟩; (generalize hgb : w.heap.size = gb at *); (have HGB := Lib.hid hgb); clear hgb HC)
    | (refine wpList_store_row rfl 46 (.tmp 2) (.tmp 6) rfl gb #[.int .i64 0, .int .i64 0, .int .i64 0, .bool false] #[.int .i64 0, .int .i64 0, .int .i64 0, .bool false] 46 rfl rfl HF0.out.2 (by kernel_rfl) rfl (by kernel_rfl) ?_))
  have hst := setRow_heap W0 gb _ #[.int .i64 0, .int .i64 0, .int .i64 0, .bool false] _ (0, 0) HF0.out.2
  refine bodyPost_ret (results_cell_row rfl _ _ gb 46 _ (0, 0) _ rfl hst Try.underlying46 rfl (by kernel_rfl)) rfl ⟨rfl, ?_⟩
  exact HF0.out.1.trans ((Fr.refl (· = gb) W0).setRow (.inl rfl) _) (fun k e => .inr (by rw [HGB.out, show k = gb from e]; exact Nat.le_refl _))

/-- Where none stands. -/
structure NoAt (w wr : World) : Prop where
  fr : Fr (fun _ => False) w wr
  self : wr.cell? ⟨w.heap.size, 5, none⟩ = some (.pointer none)
  c0 : wr.cell? ⟨w.heap.size + 1, 0, none⟩ = some (.pointer none)
  c1 : wr.cell? ⟨w.heap.size + 1, 1, none⟩ = some (.pointer (some ⟨w.heap.size, 0, none⟩))
theorem NoAt.next {w wr w' : World} (h : NoAt w wr) (hf : Fr (fun _ => False) wr w') : NoAt w w' :=
  ⟨h.fr.trans hf (fun _ h => h.elim), hf.cell h.self id, hf.cell h.c0 id, hf.cell h.c1 id⟩
theorem NoAt.start (w : World) : NoAt w ((w.alloc (.cells #[.int .i64 0, .int .i64 0, .bool false, .slice none 0 0, .slice none 0 0, .pointer none] 58)).alloc (.cells #[.pointer none, .pointer (some ⟨w.heap.size, 0, none⟩)] 25)) := by
  obtain ⟨W1, hW1⟩ : ∃ W1, W1 = w.alloc (.cells #[.int .i64 0, .int .i64 0, .bool false, .slice none 0 0, .slice none 0 0, .pointer none] 58) := ⟨_, rfl⟩
  have h1 : W1.heap[w.heap.size]? = some (.cells #[.int .i64 0, .int .i64 0, .bool false, .slice none 0 0, .slice none 0 0, .pointer none] 58 (0, 0)) := by rw [hW1]; exact heap_alloc_new w _
  have hf1 : Fr (fun _ => False) w W1 := by rw [hW1]; exact (Fr.refl _ _).alloc _
  have hs : W1.heap.size = w.heap.size + 1 := by rw [hW1]; simp
  rw [← hW1]
  have h2 := heap_alloc_new W1 (.cells #[.pointer none, .pointer (some ⟨w.heap.size, 0, none⟩)] 25)
  have hf2 : Fr (fun _ => False) W1 (W1.alloc (.cells #[.pointer none, .pointer (some ⟨w.heap.size, 0, none⟩)] 25)) := (Fr.refl _ _).alloc _
  rw [hs] at h2
  exact ⟨hf1.trans hf2 (fun _ h => h.elim), hf2.cell (cell_of_row _ _ _ _ _ _ h1) id, cell_of_row _ _ _ _ _ _ h2, cell_of_row _ _ _ _ _ _ h2⟩

set_option maxRecDepth 100000 in
set_option maxHeartbeats 2000000 in
theorem none_any (w : World) : Calls Try.prog 13 #[] w fun e w' => e = .returned (.bool true) ∧ Fr (fun _ => False) w w' := by
  go_enter Try.func13, Try.ntmps13
  go_wp2_with fail
  go_loopw [2] (fun iv wr => ∃ i : Nat, i ≤ 2 ∧ iv = .int .i64 i ∧ Hid (NoAt w wr)) (fun iv _ => 2 - (intOf iv).toNat)
  case atStart => exact ⟨0, by decide, rfl, Lib.hid (NoAt.start w)⟩
  case round =>
    obtain ⟨i, hi, rfl, hR⟩ := hrel
    rcases (show i = 0 ∨ i = 1 ∨ i = 2 by omega) with rfl | rfl | rfl
    · clear hi
      have HND := Lib.hid (show NoDv wr (.pointer none) from .inl rfl)
      have c0 := hR.out.c0
      have hnq := run_neq_stat
      have hgs := guard_stat
      go_wp2_with (first
        | (go_at_call 24; refine (nRead _ _ _ HND.out).mono ?_; rintro e w2 ⟨rfl, rfl⟩)
        | (go_at_call 14; refine (nWrite _ _ _ _ HND.out).mono ?_; rintro e w2 ⟨rfl, rfl⟩)
        | (go_at_call 16; refine (nFlush _ _ HND.out).mono ?_; rintro e w2 ⟨rfl, rfl⟩)
        | (go_at_call 22; refine (nFuse _ _ _ HND.out).mono ?_; rintro e w2 ⟨rfl, rfl⟩)
        | (go_at_call 19; refine (nCrash _ _ HND.out).mono ?_; rintro e w2 ⟨rfl, rfl⟩)
        | (go_at_call 20; refine (nWake _ _ _ HND.out).mono ?_; rintro e w2 ⟨rfl, rfl⟩)
        | (go_at_call 34; refine (nSpoil _ _ _ _ HND.out).mono ?_; rintro e w2 ⟨rfl, rfl⟩)
        | (go_at_call 17; refine (nKept _ _ HND.out).mono ?_; rintro e w2 ⟨rfl, rfl⟩)
        | (go_at_call 23; refine (nStat _ _ HND.out).mono ?_; rintro e w3 ⟨rfl, hf3⟩; (have HN := Lib.hid (hR.out.next hf3)); clear hf3))
      go_roundw
      case rel => exact ⟨1, by decide, rfl, HN⟩
      case measure => simp [intOf]
    · clear hi
      have HND := Lib.hid (show NoDv wr (.pointer (some ⟨w.heap.size, 0, none⟩)) from .inr ⟨_, rfl, hR.out.self⟩)
      have c1 := hR.out.c1
      have hnq := run_neq_stat
      have hgs := guard_stat
      go_wp2_with (first
        | (go_at_call 24; refine (nRead _ _ _ HND.out).mono ?_; rintro e w2 ⟨rfl, rfl⟩)
        | (go_at_call 14; refine (nWrite _ _ _ _ HND.out).mono ?_; rintro e w2 ⟨rfl, rfl⟩)
        | (go_at_call 16; refine (nFlush _ _ HND.out).mono ?_; rintro e w2 ⟨rfl, rfl⟩)
        | (go_at_call 22; refine (nFuse _ _ _ HND.out).mono ?_; rintro e w2 ⟨rfl, rfl⟩)
        | (go_at_call 19; refine (nCrash _ _ HND.out).mono ?_; rintro e w2 ⟨rfl, rfl⟩)
        | (go_at_call 20; refine (nWake _ _ _ HND.out).mono ?_; rintro e w2 ⟨rfl, rfl⟩)
        | (go_at_call 34; refine (nSpoil _ _ _ _ HND.out).mono ?_; rintro e w2 ⟨rfl, rfl⟩)
        | (go_at_call 17; refine (nKept _ _ HND.out).mono ?_; rintro e w2 ⟨rfl, rfl⟩)
        | (go_at_call 23; refine (nStat _ _ HND.out).mono ?_; rintro e w3 ⟨rfl, hf3⟩; (have HN := Lib.hid (hR.out.next hf3)); clear hf3))
      go_roundw
      case rel => exact ⟨2, by decide, rfl, HN⟩
      case measure => simp [intOf]
    · have HR := Lib.hid hR.out.fr
      clear hi hR
      go_wp2
      go_ret
      exact ⟨rfl, HR.out⟩

def deedC (p : DeedD) : List Value := [.int .i64 p.what, .int .i64 p.n, .int .i64 p.bit, p.x]
def flatE : List DeedD → List Value
  | [] => []
  | p :: L => deedC p ++ flatE L
theorem flatE_length : ∀ L : List DeedD, (flatE L).length = L.length * 4
  | [] => rfl
  | p :: L => by
    rw [flatE, List.length_append, flatE_length L, List.length_cons]
    simp [deedC]
    omega
theorem flatE_append : ∀ L M : List DeedD, flatE (L ++ M) = flatE L ++ flatE M
  | [], M => rfl
  | p :: L, M => by rw [List.cons_append, flatE, flatE, flatE_append L M, List.append_assoc]
theorem flatE_get : ∀ (L : List DeedD) (i j : Nat) (h : i < L.length) (hj : j < 4), (flatE L)[i * 4 + j]? = (deedC L[i])[j]?
  | [], i, j, h, _ => by simp at h
  | p :: L, 0, j, h, hj => by
    rw [flatE, Nat.zero_mul, Nat.zero_add, List.getElem?_append_left (by simpa [deedC] using hj)]
    rfl
  | p :: L, i + 1, j, h, hj => by
    rw [flatE, List.getElem?_append_right (by simp [deedC]; omega), show (i + 1) * 4 + j - (deedC p).length = i * 4 + j by simp [deedC]; omega, flatE_get L i j (by simpa using h) hj]
    rfl
/-- A deed of a law's own making: its bytes lie in blocks of F. -/
structure MadeD (F : Nat → Prop) (w : World) (p : DeedD) : Prop where
  bytes : BytesIn F w p.x p.B
  len : p.B.length ≤ 1000000
  wf : IntOk p.what ∧ IntOk p.n ∧ IntOk p.bit
  one : p.x.oneCell' = true
theorem MadeD.keep {F S : Nat → Prop} {w w' : World} {p : DeedD} (h : MadeD F w p) (hf : Fr S w w') (hd : ∀ k, k < w.heap.size → F k → ¬ S k) : MadeD F w' p := ⟨h.bytes.keep hf hd, h.len, h.wf, h.one⟩
theorem MadeD.mono {F G : Nat → Prop} {w : World} {p : DeedD} (h : MadeD F w p) (hd : ∀ k, k < w.heap.size → F k → G k) : MadeD G w p := ⟨h.bytes.mono hd, h.len, h.wf, h.one⟩
theorem MadeD.bare (F : Nat → Prop) (w : World) (a b c : Int) (ha : IntOk a) (hb : IntOk b) (hc : IntOk c) : MadeD F w ⟨a, b, c, .slice none 0 0, []⟩ := ⟨BytesIn.nil _ _, Nat.zero_le _, ⟨ha, hb, hc⟩, rfl⟩
theorem MadeD.row {F : Nat → Prop} {w : World} {g : Nat} {T : TypeId} {B : List UInt8} (a b c : Int) (m : Nat) (h : BytT w g T B) (hm : B.length = m) (hl : m ≤ 1000000) (hF : F g) (ha : IntOk a) (hb : IntOk b) (hc : IntOk c) : MadeD F w ⟨a, b, c, .slice (some ⟨g, 0, none⟩) m m, B⟩ :=
  ⟨(h.bytes4 m hm (by unfold maxLen; omega)).mono (fun k _ e => e ▸ hF), by rw [hm]; exact hl, ⟨ha, hb, hc⟩, rfl⟩
theorem DeedsIn.made {F : Nat → Prop} {w : World} {b cap : Nat} {C : Array Value} {T : TypeId} (L : List DeedD) (n : Nat) (hn : n = L.length) (hC : w.heap[b]? = some (.cells C T (0, 0))) (ht : C.toList.take (L.length * 4) = flatE L) (hF : F b) (hb : ∀ p ∈ L, MadeD F w p) (hl : L.length ≤ 1000000) (hc : L.length ≤ cap) :
    DeedsIn F w (.slice (some ⟨b, 0, none⟩) n cap) L := by
  subst hn
  have hcell : ∀ i (h : i < L.length) j, j < 4 → w.cell? ⟨b, 0 + i * 4 + j, none⟩ = (deedC L[i])[j]? := fun i h j hj => by
    rw [cell_of_row _ _ _ _ _ _ hC, ← flatE_get L i j h hj, ← ht, List.getElem?_take, if_pos (by omega), Nat.zero_add]
    simp
  refine ⟨_, cap, rfl, hc, by omega, fun p hp => by have := (hb p hp).len; omega, fun _ => ⟨b, 0, rfl, fun i h => ?_⟩⟩
  have hm := hb _ (List.getElem_mem h)
  exact ⟨hcell i h 0 (by decide), hcell i h 1 (by decide), hcell i h 2 (by decide), hcell i h 3 (by decide), hm.bytes, hF, hm.wf⟩
/-- A row of deeds that the call owns. -/
structure OwnD (F : Nat → Prop) (w : World) (v : Value) (L : List DeedD) : Prop where
  row : w.ownsRow 0 35 4 v L.length (flatE L)
  own : ∀ g, v.ownBlock = some g → F g
  each : ∀ p ∈ L, MadeD (fun k => F k ∧ v.ownBlock ≠ some k) w p
theorem OwnD.nil (F : Nat → Prop) (w : World) : OwnD F w (.slice none 0 0) [] := ⟨World.ownsRow_nil _ _ _ _, fun g h => by simp [Value.ownBlock] at h, fun p hp => by cases hp⟩
theorem OwnD.lt {F : Nat → Prop} {w : World} {v : Value} {L : List DeedD} (h : OwnD F w v L) (k : Nat) (hk : v.ownBlock = some k) : k < w.heap.size := by
  rcases h.row.2 with ⟨hv, _⟩ | ⟨g, cap, cur, hv, _, hg, _⟩
  · rw [hv] at hk; simp [Value.ownBlock] at hk
  · rw [hv] at hk
    simp only [Value.ownBlock, Option.some.injEq] at hk
    exact hk ▸ lt_of_block hg
theorem OwnD.keep {F S : Nat → Prop} {w w' : World} {v : Value} {L : List DeedD} (h : OwnD F w v L) (hf : Fr S w w') (hd : ∀ k, k < w.heap.size → F k → ¬ S k) : OwnD F w' v L := by
  refine ⟨⟨h.row.1, ?_⟩, h.own, fun p hp => (h.each p hp).keep hf (fun k hk hF => hd k hk hF.1)⟩
  rcases h.row.2 with e | ⟨g, cap, cur, hv, hb, hg, r⟩
  · exact .inl e
  · exact .inr ⟨g, cap, cur, hv, hb, hf.heap hg (hd g (lt_of_block hg) (h.own g (by rw [hv]; rfl))), r⟩
theorem OwnD.deeds {F : Nat → Prop} {w : World} {v : Value} {L : List DeedD} (h : OwnD F w v L) (hl : L.length ≤ 1000000) : DeedsIn F w v L := by
  rcases h.row.2 with ⟨hv, h0⟩ | ⟨g, cap, cur, hv, _, hg, c1, c2, c3, c4⟩
  · have hL : L = [] := List.eq_nil_of_length_eq_zero h0
    subst hL
    subst hv
    exact ⟨none, 0, rfl, Nat.le_refl _, by simp, by simp, fun h => absurd rfl h⟩
  · subst hv
    exact DeedsIn.made L _ rfl hg c4 (h.own g rfl) (fun p hp => (h.each p hp).mono (fun _ _ h => h.1)) hl c1
theorem infoDe4 : (Try.prog.info? 35).map (fun i => (i.zero, i.size, i.bytes)) = some (some (.agg #[.int .i64 0, .int .i64 0, .int .i64 0, .slice none 0 0]), 4, 48) := by kernel_rfl
/-- append of deeds, of a slice that was made for them. -/
theorem run_append_deeds {F G : Nat → Prop} (w : World) (ty : TypeId) (v : Value) (L M : List DeedD) (m b : Nat) (hm : m = M.length) (h : OwnD F w v L) (hb : w.heap[b]? = some (.cells (flatE M).toArray 35 (0, 0))) (hM : ∀ p ∈ M, MadeD G w p) (hG : ∀ k, G k → F k ∧ v.ownBlock ≠ some k) (hn : L.length + M.length ≤ 1000000) :
    ∃ v' w', (Builtin.append_ #[22, 22] ty #[v, .slice (some ⟨b, 0, none⟩) m m]).run Try.prog w = .ok v' w' ∧ OwnD (fun k => F k ∨ w.heap.size ≤ k) w' v' (L ++ M) ∧ w.grownBy w' v.ownBlock := by
  subst hm
  obtain ⟨i0, hi, hz0, hz1, hz2⟩ := info_parts infoDe4
  have hcells : ∀ M : List DeedD, (∀ p ∈ M, p.x.oneCell' = true) → ∀ u ∈ flatE M, u.oneCell' = true := by
    intro M
    induction M with
    | nil => intro _ u hu; cases hu
    | cons p M ih =>
      intro hp u hu
      rw [flatE] at hu
      rcases List.mem_append.1 hu with hu | hu
      · simp only [deedC, List.mem_cons, List.not_mem_nil, or_false] at hu
        rcases hu with rfl | rfl | rfl | rfl
        · rfl
        · rfl
        · rfl
        · exact hp p List.mem_cons_self
      · exact ih (fun q hq => hp q (List.mem_cons_of_mem _ hq)) u hu
  obtain ⟨v', w', hr, k2, k3, k4, k5⟩ := run_append_own_at (P := Try.prog) w 0 22 ty 35 i0 (.agg #[.int .i64 0, .int .i64 0, .int .i64 0, .slice none 0 0]) 4 48 Try.underlying22 hi hz0 hz1 hz2 rfl (by decide) v L.length _ h.row ⟨b, 0, none⟩ M.length M.length (flatE M)
    (flatE_length M) (fun j u hu => by
      rw [addr_plain, Nat.zero_add, cell_of_row _ _ _ _ _ _ hb]
      simpa using hu) (hcells M (fun p hp => (hM p hp).one)) (by unfold maxLen; omega) (by omega) (Nat.zero_le _)
  have hf : Fr (fun k => v.ownBlock = some k) w w' := (Fr.refl _ w).grown k3 (fun k hk => .inl hk)
  have hv' : ∀ k, k < w.heap.size → v.ownBlock ≠ some k → v'.ownBlock ≠ some k := fun k hk hne e => by
    rcases k5 with k5 | k5
    · exact hne (k5 ▸ e)
    · rw [k5] at e; have := Option.some.inj e; omega
  refine ⟨v', w', hr, ⟨?_, fun g hg => ?_, fun p hp => ?_⟩, k3⟩
  · rw [List.length_append, flatE_append]
    exact k2
  · rcases k5 with k5 | k5
    · exact .inl (h.own g (by rw [← k5, hg]))
    · rw [hg] at k5
      exact .inr (by have := Option.some.inj k5; omega)
  · have hp2 : MadeD (fun k => (F k ∧ v.ownBlock ≠ some k) ∧ k < w.heap.size) w p := by
      rcases List.mem_append.1 hp with hp | hp
      · exact (h.each p hp).mono (fun k hk hF => ⟨hF, hk⟩)
      · exact (hM p hp).mono (fun k hk hF => ⟨hG k hF, hk⟩)
    exact (hp2.keep hf (fun k _ hF e => hF.1.2 e)).mono (fun k _ hF => ⟨.inl hF.1.1, hv' k hF.2 hF.1.2⟩)
theorem wpList_append_deeds {F G : Nat → Prop} (w : World) {ops : Array Oper} {rest : List Oper} {o : Oper} {a : Act} {Q : Exit → Act → World → Prop} (hgd : o.guard = none) (s x : Operand)
    (hop : o.op = Op.call { callee := Callee.builtin Builtin.append, args := #[s, x], argTypes := #[22, 22] })
    (v : Value) (L M : List DeedD) (m b : Nat) (hs : a.eval s = v) (hx : a.eval x = .slice (some ⟨b, 0, none⟩) m m) (hm : m = M.length) (h : OwnD F w v L) (hb : w.heap[b]? = some (.cells (flatE M).toArray 35 (0, 0))) (hM : ∀ p ∈ M, MadeD G w p) (hG : ∀ k, G k → F k ∧ v.ownBlock ≠ some k) (hn : L.length + M.length ≤ 1000000)
    (hK : ∀ v' w', OwnD (fun k => F k ∨ w.heap.size ≤ k) w' v' (L ++ M) → w.grownBy w' v.ownBlock → wpList Try.prog ops Q rest (a.put o.dst v') w') : wpList Try.prog ops Q (o :: rest) a w := by
  refine wpList_plain hgd fun K hK' => ?_
  subst hs
  obtain ⟨v', w', hr, h1, h2⟩ := run_append_deeds w o.type _ L M m b hm h hb hM hG hn
  unfold Oper.wp
  simp [execOp, hop, hx, resolve, invoke, builtin, hr, Result.andThen]
  exact hK' _ _ (hK v' w' h1 h2)
set_option linter.unusedSimpArgs false

theorem DeedAt.mono {F G : Nat → Prop} {w : World} {b o : Nat} {p : DeedD} (h : DeedAt F w b o p) (hd : ∀ k, k < w.heap.size → F k → G k) : DeedAt G w b o p :=
  ⟨h.what, h.n, h.bit, h.cb, h.bytes.mono hd, hd b (World.block_lt_of_cell? _ _ h.what) h.in_, h.wf⟩
theorem DeedsIn.mono {F G : Nat → Prop} {w : World} {v : Value} {l : List DeedD} (h : DeedsIn F w v l) (hd : ∀ k, k < w.heap.size → F k → G k) : DeedsIn G w v l := by
  obtain ⟨ao, cap, hv, h1, h2, h3, h4⟩ := h
  refine ⟨ao, cap, hv, h1, h2, h3, fun hl => ?_⟩
  obtain ⟨b, off, ha, hi⟩ := h4 hl
  exact ⟨b, off, ha, fun i h => (hi i h).mono hd⟩
theorem OwnD.mono {F G : Nat → Prop} {w : World} {v : Value} {L : List DeedD} (h : OwnD F w v L) (hd : ∀ k, k < w.heap.size → F k → G k) : OwnD G w v L :=
  ⟨h.row, fun g hg => hd g (h.lt g hg) (h.own g hg), fun p hp => (h.each p hp).mono (fun k hk hF => ⟨hd k hk hF.1, hF.2⟩)⟩

theorem five_new (wr : World) (o0 o1 o2 o3 o4 : Obj) :
    (((((wr.alloc o0).alloc o1).alloc o2).alloc o3).alloc o4).heap[wr.heap.size]? = some o0 ∧ (((((wr.alloc o0).alloc o1).alloc o2).alloc o3).alloc o4).heap[wr.heap.size + 1]? = some o1 ∧ (((((wr.alloc o0).alloc o1).alloc o2).alloc o3).alloc o4).heap[wr.heap.size + 1 + 1]? = some o2 ∧ (((((wr.alloc o0).alloc o1).alloc o2).alloc o3).alloc o4).heap[wr.heap.size + 1 + 1 + 1]? = some o3 ∧ (((((wr.alloc o0).alloc o1).alloc o2).alloc o3).alloc o4).heap[wr.heap.size + 1 + 1 + 1 + 1]? = some o4 ∧ Fr (fun _ => False) wr (((((wr.alloc o0).alloc o1).alloc o2).alloc o3).alloc o4) := by
  have F : ∀ (W : World) (o : Obj), Fr (fun _ => False) W (W.alloc o) := fun W o => (Fr.refl _ W).alloc o
  have s1 : (wr.alloc o0).heap.size = wr.heap.size + 1 := by simp
  have s2 : ((wr.alloc o0).alloc o1).heap.size = wr.heap.size + 1 + 1 := by simp
  have s3 : (((wr.alloc o0).alloc o1).alloc o2).heap.size = wr.heap.size + 1 + 1 + 1 := by simp
  have s4 : ((((wr.alloc o0).alloc o1).alloc o2).alloc o3).heap.size = wr.heap.size + 1 + 1 + 1 + 1 := by simp
  have h0 := heap_alloc_new wr o0
  have h1 := heap_alloc_new (wr.alloc o0) o1
  have h2 := heap_alloc_new ((wr.alloc o0).alloc o1) o2
  have h3 := heap_alloc_new (((wr.alloc o0).alloc o1).alloc o2) o3
  have h4 := heap_alloc_new ((((wr.alloc o0).alloc o1).alloc o2).alloc o3) o4
  rw [s1] at h1
  rw [s2] at h2
  rw [s3] at h3
  rw [s4] at h4
  refine ⟨(F _ _).heap ((F _ _).heap ((F _ _).heap ((F _ _).heap h0 id) id) id) id, (F _ _).heap ((F _ _).heap ((F _ _).heap h1 id) id) id, (F _ _).heap ((F _ _).heap h2 id) id, (F _ _).heap h3 id, h4, ?_⟩
  exact ((((F wr o0).alloc o1).alloc o2).alloc o3).alloc o4
theorem ok_small {x : Int} (h0 : -1000000 ≤ x) (h1 : x ≤ 1000000) : IntOk x := by unfold IntOk; omega

theorem call1 (wr : World) (x y : Int) (hx : IntOk x) (hy : IntOk y) :
    Calls Try.prog 3 #[.int .i64 2, .slice (some ⟨wr.heap.size + 1 + 1 + 1 + 1, 0, none⟩) 11 11] (((((wr.alloc (.cells #[.int .u8 9] 5)).alloc (.cells #[.int .u8 1] 5)).alloc (.cells #[.int .u8 2] 5)).alloc (.cells #[.int .u8 3, .int .u8 4] 5)).alloc (.cells #[.int .i64 1, .int .i64 1, .int .i64 0, .slice (some ⟨wr.heap.size, 0, none⟩) 1 1, .int .i64 3, .int .i64 0, .int .i64 0, .slice none 0 0, .int .i64 1, .int .i64 0, .int .i64 0, .slice (some ⟨wr.heap.size + 1, 0, none⟩) 1 1, .int .i64 1, .int .i64 1, .int .i64 0, .slice (some ⟨wr.heap.size + 1 + 1, 0, none⟩) 1 1, .int .i64 2, .int .i64 0, .int .i64 0, .slice (some ⟨wr.heap.size + 1 + 1 + 1, 0, none⟩) 2 2, .int .i64 1, .int .i64 1, .int .i64 0, .slice none 0 0, .int .i64 5, .int .i64 0, .int .i64 0, .slice none 0 0, .int .i64 7, .int .i64 1, .int .i64 y, .slice none 0 0, .int .i64 6, .int .i64 x, .int .i64 0, .slice none 0 0, .int .i64 6, .int .i64 0, .int .i64 0, .slice none 0 0, .int .i64 3, .int .i64 0, .int .i64 0, .slice none 0 0] 35)) fun e w' => e = .returned (.bool true) ∧ Fr (fun _ => False) wr w' := by
  obtain ⟨h0, h1, h2, h3, h4, hf⟩ := five_new wr (.cells #[.int .u8 9] 5) (.cells #[.int .u8 1] 5) (.cells #[.int .u8 2] 5) (.cells #[.int .u8 3, .int .u8 4] 5) (.cells #[.int .i64 1, .int .i64 1, .int .i64 0, .slice (some ⟨wr.heap.size, 0, none⟩) 1 1, .int .i64 3, .int .i64 0, .int .i64 0, .slice none 0 0, .int .i64 1, .int .i64 0, .int .i64 0, .slice (some ⟨wr.heap.size + 1, 0, none⟩) 1 1, .int .i64 1, .int .i64 1, .int .i64 0, .slice (some ⟨wr.heap.size + 1 + 1, 0, none⟩) 1 1, .int .i64 2, .int .i64 0, .int .i64 0, .slice (some ⟨wr.heap.size + 1 + 1 + 1, 0, none⟩) 2 2, .int .i64 1, .int .i64 1, .int .i64 0, .slice none 0 0, .int .i64 5, .int .i64 0, .int .i64 0, .slice none 0 0, .int .i64 7, .int .i64 1, .int .i64 y, .slice none 0 0, .int .i64 6, .int .i64 x, .int .i64 0, .slice none 0 0, .int .i64 6, .int .i64 0, .int .i64 0, .slice none 0 0, .int .i64 3, .int .i64 0, .int .i64 0, .slice none 0 0] 35)
  revert h0 h1 h2 h3 h4 hf
  generalize (((((wr.alloc (.cells #[.int .u8 9] 5)).alloc (.cells #[.int .u8 1] 5)).alloc (.cells #[.int .u8 2] 5)).alloc (.cells #[.int .u8 3, .int .u8 4] 5)).alloc (.cells #[.int .i64 1, .int .i64 1, .int .i64 0, .slice (some ⟨wr.heap.size, 0, none⟩) 1 1, .int .i64 3, .int .i64 0, .int .i64 0, .slice none 0 0, .int .i64 1, .int .i64 0, .int .i64 0, .slice (some ⟨wr.heap.size + 1, 0, none⟩) 1 1, .int .i64 1, .int .i64 1, .int .i64 0, .slice (some ⟨wr.heap.size + 1 + 1, 0, none⟩) 1 1, .int .i64 2, .int .i64 0, .int .i64 0, .slice (some ⟨wr.heap.size + 1 + 1 + 1, 0, none⟩) 2 2, .int .i64 1, .int .i64 1, .int .i64 0, .slice none 0 0, .int .i64 5, .int .i64 0, .int .i64 0, .slice none 0 0, .int .i64 7, .int .i64 1, .int .i64 y, .slice none 0 0, .int .i64 6, .int .i64 x, .int .i64 0, .slice none 0 0, .int .i64 6, .int .i64 0, .int .i64 0, .slice none 0 0, .int .i64 3, .int .i64 0, .int .i64 0, .slice none 0 0] 35)) = W
  intro h0 h1 h2 h3 h4 hf
  have o0 : IntOk 0 := ok_small (by decide) (by decide)
  have o1 : IntOk 1 := ok_small (by decide) (by decide)
  have o2 : IntOk 2 := ok_small (by decide) (by decide)
  have o3 : IntOk 3 := ok_small (by decide) (by decide)
  have o5 : IntOk 5 := ok_small (by decide) (by decide)
  have o6 : IntOk 6 := ok_small (by decide) (by decide)
  have o7 : IntOk 7 := ok_small (by decide) (by decide)
  have hL : DeedsIn (fun k => k < W.heap.size) W (.slice (some ⟨wr.heap.size + 1 + 1 + 1 + 1, 0, none⟩) 11 11) [⟨1, 1, 0, .slice (some ⟨wr.heap.size, 0, none⟩) 1 1, [9]⟩, ⟨3, 0, 0, .slice none 0 0, []⟩, ⟨1, 0, 0, .slice (some ⟨wr.heap.size + 1, 0, none⟩) 1 1, [1]⟩, ⟨1, 1, 0, .slice (some ⟨wr.heap.size + 1 + 1, 0, none⟩) 1 1, [2]⟩, ⟨2, 0, 0, .slice (some ⟨wr.heap.size + 1 + 1 + 1, 0, none⟩) 2 2, [3, 4]⟩, ⟨1, 1, 0, .slice none 0 0, []⟩, ⟨5, 0, 0, .slice none 0 0, []⟩, ⟨7, 1, y, .slice none 0 0, []⟩, ⟨6, x, 0, .slice none 0 0, []⟩, ⟨6, 0, 0, .slice none 0 0, []⟩, ⟨3, 0, 0, .slice none 0 0, []⟩] := by
    refine DeedsIn.made _ 11 rfl h4 rfl (lt_of_block h4) ?_ (by simp) (by simp)
    intro p hp
    simp only [List.mem_cons, List.not_mem_nil, or_false] at hp
    rcases hp with rfl | rfl | rfl | rfl | rfl | rfl | rfl | rfl | rfl | rfl | rfl
    · exact MadeD.row 1 1 0 1 (B := [9]) h0 rfl (by decide) (lt_of_block h0) o1 o1 o0
    · exact MadeD.bare _ _ 3 0 0 o3 o0 o0
    · exact MadeD.row 1 0 0 1 (B := [1]) h1 rfl (by decide) (lt_of_block h1) o1 o0 o0
    · exact MadeD.row 1 1 0 1 (B := [2]) h2 rfl (by decide) (lt_of_block h2) o1 o1 o0
    · exact MadeD.row 2 0 0 2 (B := [3, 4]) h3 rfl (by decide) (lt_of_block h3) o2 o0 o0
    · exact MadeD.bare _ _ 1 1 0 o1 o1 o0
    · exact MadeD.bare _ _ 5 0 0 o5 o0 o0
    · exact MadeD.bare _ _ 7 1 y o7 o1 hy
    · exact MadeD.bare _ _ 6 x 0 o6 hx o0
    · exact MadeD.bare _ _ 6 0 0 o6 o0 o0
    · exact MadeD.bare _ _ 3 0 0 o3 o0 o0
  exact (devDoes_any W 2 (by decide) (by decide) _ _ hL).mono fun e w' ⟨h, h'⟩ => ⟨h, hf.trans h' (fun _ h => h.elim)⟩

/-- One more write, laid. -/
theorem mk3 (w wr : World) (mv : Value) (L : List DeedD) (b : UInt8) (r : Nat) (hr : r < 60) (h : OwnD (fun k => w.heap.size ≤ k) wr mv L) (hf : Fr (fun _ => False) w wr) :
    OwnD (fun k => w.heap.size ≤ k) ((wr.alloc (.cells #[.int .u8 (b.toNat : Nat)] 5)).alloc (.cells #[.int .i64 1, .int .i64 (r : Int), .int .i64 0, .slice (some ⟨wr.heap.size, 0, none⟩) 1 1] 35)) mv L ∧ ((wr.alloc (.cells #[.int .u8 (b.toNat : Nat)] 5)).alloc (.cells #[.int .i64 1, .int .i64 (r : Int), .int .i64 0, .slice (some ⟨wr.heap.size, 0, none⟩) 1 1] 35)).heap[wr.heap.size + 1]? = some (.cells (flatE [⟨1, r, 0, .slice (some ⟨wr.heap.size, 0, none⟩) 1 1, [b]⟩]).toArray 35 (0, 0)) ∧ (∀ p ∈ ([⟨1, r, 0, .slice (some ⟨wr.heap.size, 0, none⟩) 1 1, [b]⟩] : List DeedD), MadeD (fun k => k = wr.heap.size) ((wr.alloc (.cells #[.int .u8 (b.toNat : Nat)] 5)).alloc (.cells #[.int .i64 1, .int .i64 (r : Int), .int .i64 0, .slice (some ⟨wr.heap.size, 0, none⟩) 1 1] 35)) p) ∧ (∀ k, k = wr.heap.size → w.heap.size ≤ k ∧ mv.ownBlock ≠ some k) ∧ Fr (fun _ => False) w ((wr.alloc (.cells #[.int .u8 (b.toNat : Nat)] 5)).alloc (.cells #[.int .i64 1, .int .i64 (r : Int), .int .i64 0, .slice (some ⟨wr.heap.size, 0, none⟩) 1 1] 35)) := by
  have ha := heap_alloc_new wr (.cells #[.int .u8 (b.toNat : Nat)] 5)
  have s1 : (wr.alloc (.cells #[.int .u8 (b.toNat : Nat)] 5)).heap.size = wr.heap.size + 1 := by simp
  have f1 : Fr (fun _ => False) wr (wr.alloc (.cells #[.int .u8 (b.toNat : Nat)] 5)) := (Fr.refl _ _).alloc _
  revert ha s1 f1
  generalize wr.alloc (.cells #[.int .u8 (b.toNat : Nat)] 5) = W1
  intro ha s1 f1
  have hb := heap_alloc_new W1 (.cells #[.int .i64 1, .int .i64 (r : Int), .int .i64 0, .slice (some ⟨wr.heap.size, 0, none⟩) 1 1] 35)
  have f2 : Fr (fun _ => False) W1 (W1.alloc (.cells #[.int .i64 1, .int .i64 (r : Int), .int .i64 0, .slice (some ⟨wr.heap.size, 0, none⟩) 1 1] 35)) := (Fr.refl _ _).alloc _
  rw [s1] at hb
  have f12 := f1.trans f2 (fun _ h => h.elim)
  refine ⟨h.keep f12 (fun _ _ _ h => h), hb, fun p hp => ?_, fun k hk => ⟨by rw [hk]; exact hf.size, fun e => by have := h.lt k e; omega⟩, hf.trans f12 (fun _ h => h.elim)⟩
  obtain rfl := List.mem_singleton.1 hp
  exact MadeD.row 1 r 0 1 (B := [b]) (f2.heap ha id) rfl (by decide) rfl (ok_small (by decide) (by decide)) (ok_small (by omega) (by omega)) (ok_small (by decide) (by decide))
theorem mk4 (w W : World) (mv : Value) (L : List DeedD) (h : OwnD (fun k => w.heap.size ≤ k) W mv L) (hf : Fr (fun _ => False) w W) :
    OwnD (fun k => w.heap.size ≤ k) (W.alloc (.cells #[.int .i64 5, .int .i64 0, .int .i64 0, .slice none 0 0, .int .i64 6, .int .i64 6917529027641081861, .int .i64 0, .slice none 0 0] 35)) mv L ∧ (W.alloc (.cells #[.int .i64 5, .int .i64 0, .int .i64 0, .slice none 0 0, .int .i64 6, .int .i64 6917529027641081861, .int .i64 0, .slice none 0 0] 35)).heap[W.heap.size]? = some (.cells (flatE [⟨5, 0, 0, .slice none 0 0, []⟩, ⟨6, 6917529027641081861, 0, .slice none 0 0, []⟩]).toArray 35 (0, 0)) ∧ (∀ p ∈ ([⟨5, 0, 0, .slice none 0 0, []⟩, ⟨6, 6917529027641081861, 0, .slice none 0 0, []⟩] : List DeedD), MadeD (fun _ => False) (W.alloc (.cells #[.int .i64 5, .int .i64 0, .int .i64 0, .slice none 0 0, .int .i64 6, .int .i64 6917529027641081861, .int .i64 0, .slice none 0 0] 35)) p) ∧ Fr (fun _ => False) w (W.alloc (.cells #[.int .i64 5, .int .i64 0, .int .i64 0, .slice none 0 0, .int .i64 6, .int .i64 6917529027641081861, .int .i64 0, .slice none 0 0] 35)) := by
  have f2 : Fr (fun _ => False) W (W.alloc (.cells #[.int .i64 5, .int .i64 0, .int .i64 0, .slice none 0 0, .int .i64 6, .int .i64 6917529027641081861, .int .i64 0, .slice none 0 0] 35)) := (Fr.refl _ _).alloc _
  refine ⟨h.keep f2 (fun _ _ _ h => h), heap_alloc_new W _, fun p hp => ?_, hf.trans f2 (fun _ h => h.elim)⟩
  simp only [List.mem_cons, List.not_mem_nil, or_false] at hp
  have o0 : IntOk 0 := ok_small (by decide) (by decide)
  rcases hp with rfl | rfl
  · exact MadeD.bare _ _ 5 0 0 (ok_small (by decide) (by decide)) o0 o0
  · exact MadeD.bare _ _ 6 _ 0 (ok_small (by decide) (by decide)) (by unfold IntOk; decide) o0

theorem eval_const4 (a : Act) (v : Value) : a.eval (.const v) = v := rfl
theorem op_make4 {P : Program} {w w' : World} {o : Oper} {a : Act} {t : TypeId} {x y : Operand} {vx vy v : Value} (ho : o.op = .makeSlice t x y) (hx : a.eval x = vx) (hy : a.eval y = vy) (hr : (Instr.makeSlice t vx vy).run P w = .ok v w') : (execOp a.eval o).run P w = .ok (.value v) w' := by
  unfold execOp
  rw [ho]
  simp only [hx, hy, Sem.run_bind]
  rw [hr]
  rfl
theorem op_conv4 {P : Program} {w : World} {o : Oper} {a : Act} {s t : TypeId} {x : Operand} {vx v : Value} (ho : o.op = .convert s t x) (hx : a.eval x = vx) (hr : (convert s t vx).run P w = .ok v w) : (execOp a.eval o).run P w = .ok (.value v) w := by
  unfold execOp
  rw [ho]
  simp only [hx, Sem.run_bind, hr, Result.andThen_ok]
  rfl
def StR (x : Int) (b : UInt8) (i : Nat) (v : Value) (W : World) : Prop :=
  match i with
  | 0 => v = .int .i64 x
  | 1 => v = .agg #[.int .i64 4, .int .i64 x, .int .i64 0, .slice none 0 0]
  | 2 => ∃ g, v = .slice (some ⟨g, 0, none⟩) 1 1 ∧ BytT W g 5 [1]
  | 3 => ∃ g, v = .agg #[.int .i64 1, .int .i64 0, .int .i64 0, .slice (some ⟨g, 0, none⟩) 1 1] ∧ BytT W g 5 [1]
  | 4 => v = .agg #[.int .i64 1, .int .i64 7, .int .i64 0, .slice none 0 0]
  | 5 => v = .agg #[.int .i64 3, .int .i64 0, .int .i64 0, .slice none 0 0]
  | 6 => ∃ g, v = .slice (some ⟨g, 0, none⟩) 64 64 ∧ BytT W g 5 (List.replicate 64 0)
  | 7 => ∃ g, v = .agg #[.int .i64 1, .int .i64 1, .int .i64 0, .slice (some ⟨g, 0, none⟩) 64 64] ∧ BytT W g 5 (List.replicate 64 0)
  | 8 => ∃ g, v = .slice (some ⟨g, 0, none⟩) 65 65 ∧ BytT W g 5 (List.replicate 65 0)
  | 9 => ∃ g, v = .agg #[.int .i64 1, .int .i64 1, .int .i64 0, .slice (some ⟨g, 0, none⟩) 65 65] ∧ BytT W g 5 (List.replicate 65 0)
  | 10 => v = .int .i64 x
  | 11 => v = .int .i64 (x - 3)
  | 12 => v = .agg #[.int .i64 4, .int .i64 (x - 3), .int .i64 0, .slice none 0 0]
  | 13 => v = .agg #[.int .i64 3, .int .i64 0, .int .i64 0, .slice none 0 0]
  | 14 => v = .agg #[.int .i64 0, .int .i64 0, .int .i64 0, .slice none 0 0]
  | 15 => v = .agg #[.int .i64 6, .int .i64 1, .int .i64 0, .slice none 0 0]
  | 16 => v = .int .i64 x
  | 17 => v = .int .i64 x
  | 18 => v = .int .u8 (b.toNat : Nat)
  | 19 => ∃ g, v = .slice (some ⟨g, 0, none⟩) 1 1 ∧ BytT W g 5 [b]
  | 20 => ∃ g, v = .agg #[.int .i64 1, .int .i64 x, .int .i64 0, .slice (some ⟨g, 0, none⟩) 1 1] ∧ BytT W g 5 [b]
  | 21 => v = .int .i64 x
  | 22 => v = .int .i64 x
  | 23 => v = .int .i64 (510 + x)
  | 24 => v = .agg #[.int .i64 7, .int .i64 x, .int .i64 (510 + x), .slice none 0 0]
  | _ => True
theorem StR.ext (x : Int) (b : UInt8) : ∀ (j : Nat) (u : Value) (W W' : World), Fr (fun _ => False) W W' → StR x b j u W → StR x b j u W'
  | 0, u, W, W', hf, h => h
  | 1, u, W, W', hf, h => h
  | 2, u, W, W', hf, h => (let ⟨g, h1, h2⟩ := h; ⟨g, h1, h2.keep hf (fun h => h)⟩)
  | 3, u, W, W', hf, h => (let ⟨g, h1, h2⟩ := h; ⟨g, h1, h2.keep hf (fun h => h)⟩)
  | 4, u, W, W', hf, h => h
  | 5, u, W, W', hf, h => h
  | 6, u, W, W', hf, h => (let ⟨g, h1, h2⟩ := h; ⟨g, h1, h2.keep hf (fun h => h)⟩)
  | 7, u, W, W', hf, h => (let ⟨g, h1, h2⟩ := h; ⟨g, h1, h2.keep hf (fun h => h)⟩)
  | 8, u, W, W', hf, h => (let ⟨g, h1, h2⟩ := h; ⟨g, h1, h2.keep hf (fun h => h)⟩)
  | 9, u, W, W', hf, h => (let ⟨g, h1, h2⟩ := h; ⟨g, h1, h2.keep hf (fun h => h)⟩)
  | 10, u, W, W', hf, h => h
  | 11, u, W, W', hf, h => h
  | 12, u, W, W', hf, h => h
  | 13, u, W, W', hf, h => h
  | 14, u, W, W', hf, h => h
  | 15, u, W, W', hf, h => h
  | 16, u, W, W', hf, h => h
  | 17, u, W, W', hf, h => h
  | 18, u, W, W', hf, h => h
  | 19, u, W, W', hf, h => (let ⟨g, h1, h2⟩ := h; ⟨g, h1, h2.keep hf (fun h => h)⟩)
  | 20, u, W, W', hf, h => (let ⟨g, h1, h2⟩ := h; ⟨g, h1, h2.keep hf (fun h => h)⟩)
  | 21, u, W, W', hf, h => h
  | 22, u, W, W', hf, h => h
  | 23, u, W, W', hf, h => h
  | 24, u, W, W', hf, h => h
  | _ + 25, u, W, W', hf, h => trivial

theorem run_sub4 (W : World) (x y z : Int) (h : IntKind.i64.wrap (x - y) = z) : (binOp .sub 3 (.int .i64 x) (.int .i64 y)).run Try.prog W = .ok (.int .i64 z) W := by
  subst h
  kernel_rfl
theorem run_add4 (W : World) (x y z : Int) (h : IntKind.i64.wrap (x + y) = z) : (binOp .add 3 (.int .i64 x) (.int .i64 y)).run Try.prog W = .ok (.int .i64 z) W := by
  subst h
  kernel_rfl
theorem run_byte4 (W : World) (x z : Int) (h : IntKind.u8.wrap x = z) : (convert 3 5 (.int .i64 x)).run Try.prog W = .ok (.int .u8 z) W := by
  subst h
  kernel_rfl
theorem byte4 (x : Int) : ∃ b : UInt8, IntKind.u8.wrap x = (b.toNat : Nat) := by
  refine ⟨UInt8.ofNat (IntKind.u8.wrap x).toNat, ?_⟩
  rw [UInt8.toNat_ofNat', IntKind.wrap_u8]
  omega

theorem mk2 (W : World) (x : Int) (b : UInt8) (g1 g2 g3 g4 : Nat) (hx : -100 ≤ x ∧ x ≤ 100) (h1 : BytT W g1 5 [1]) (h2 : BytT W g2 5 (List.replicate 64 0)) (h3 : BytT W g3 5 (List.replicate 65 0)) (h4 : BytT W g4 5 [b]) :
    DeedsIn (fun k => k < (W.alloc (.cells #[.int .i64 4, .int .i64 x, .int .i64 0, .slice none 0 0, .int .i64 1, .int .i64 0, .int .i64 0, .slice (some ⟨g1, 0, none⟩) 1 1, .int .i64 1, .int .i64 7, .int .i64 0, .slice none 0 0, .int .i64 3, .int .i64 0, .int .i64 0, .slice none 0 0, .int .i64 1, .int .i64 1, .int .i64 0, .slice (some ⟨g2, 0, none⟩) 64 64, .int .i64 1, .int .i64 1, .int .i64 0, .slice (some ⟨g3, 0, none⟩) 65 65, .int .i64 4, .int .i64 (x - 3), .int .i64 0, .slice none 0 0, .int .i64 3, .int .i64 0, .int .i64 0, .slice none 0 0, .int .i64 0, .int .i64 0, .int .i64 0, .slice none 0 0, .int .i64 6, .int .i64 1, .int .i64 0, .slice none 0 0, .int .i64 1, .int .i64 x, .int .i64 0, .slice (some ⟨g4, 0, none⟩) 1 1, .int .i64 7, .int .i64 x, .int .i64 (510 + x), .slice none 0 0] 35)).heap.size) (W.alloc (.cells #[.int .i64 4, .int .i64 x, .int .i64 0, .slice none 0 0, .int .i64 1, .int .i64 0, .int .i64 0, .slice (some ⟨g1, 0, none⟩) 1 1, .int .i64 1, .int .i64 7, .int .i64 0, .slice none 0 0, .int .i64 3, .int .i64 0, .int .i64 0, .slice none 0 0, .int .i64 1, .int .i64 1, .int .i64 0, .slice (some ⟨g2, 0, none⟩) 64 64, .int .i64 1, .int .i64 1, .int .i64 0, .slice (some ⟨g3, 0, none⟩) 65 65, .int .i64 4, .int .i64 (x - 3), .int .i64 0, .slice none 0 0, .int .i64 3, .int .i64 0, .int .i64 0, .slice none 0 0, .int .i64 0, .int .i64 0, .int .i64 0, .slice none 0 0, .int .i64 6, .int .i64 1, .int .i64 0, .slice none 0 0, .int .i64 1, .int .i64 x, .int .i64 0, .slice (some ⟨g4, 0, none⟩) 1 1, .int .i64 7, .int .i64 x, .int .i64 (510 + x), .slice none 0 0] 35)) (.slice (some ⟨W.heap.size, 0, none⟩) 12 12) [⟨4, x, 0, .slice none 0 0, []⟩, ⟨1, 0, 0, .slice (some ⟨g1, 0, none⟩) 1 1, [1]⟩, ⟨1, 7, 0, .slice none 0 0, []⟩, ⟨3, 0, 0, .slice none 0 0, []⟩, ⟨1, 1, 0, .slice (some ⟨g2, 0, none⟩) 64 64, List.replicate 64 0⟩, ⟨1, 1, 0, .slice (some ⟨g3, 0, none⟩) 65 65, List.replicate 65 0⟩, ⟨4, (x - 3), 0, .slice none 0 0, []⟩, ⟨3, 0, 0, .slice none 0 0, []⟩, ⟨0, 0, 0, .slice none 0 0, []⟩, ⟨6, 1, 0, .slice none 0 0, []⟩, ⟨1, x, 0, .slice (some ⟨g4, 0, none⟩) 1 1, [b]⟩, ⟨7, x, (510 + x), .slice none 0 0, []⟩] ∧ Fr (fun _ => False) W (W.alloc (.cells #[.int .i64 4, .int .i64 x, .int .i64 0, .slice none 0 0, .int .i64 1, .int .i64 0, .int .i64 0, .slice (some ⟨g1, 0, none⟩) 1 1, .int .i64 1, .int .i64 7, .int .i64 0, .slice none 0 0, .int .i64 3, .int .i64 0, .int .i64 0, .slice none 0 0, .int .i64 1, .int .i64 1, .int .i64 0, .slice (some ⟨g2, 0, none⟩) 64 64, .int .i64 1, .int .i64 1, .int .i64 0, .slice (some ⟨g3, 0, none⟩) 65 65, .int .i64 4, .int .i64 (x - 3), .int .i64 0, .slice none 0 0, .int .i64 3, .int .i64 0, .int .i64 0, .slice none 0 0, .int .i64 0, .int .i64 0, .int .i64 0, .slice none 0 0, .int .i64 6, .int .i64 1, .int .i64 0, .slice none 0 0, .int .i64 1, .int .i64 x, .int .i64 0, .slice (some ⟨g4, 0, none⟩) 1 1, .int .i64 7, .int .i64 x, .int .i64 (510 + x), .slice none 0 0] 35)) := by
  have hb := heap_alloc_new W (.cells #[.int .i64 4, .int .i64 x, .int .i64 0, .slice none 0 0, .int .i64 1, .int .i64 0, .int .i64 0, .slice (some ⟨g1, 0, none⟩) 1 1, .int .i64 1, .int .i64 7, .int .i64 0, .slice none 0 0, .int .i64 3, .int .i64 0, .int .i64 0, .slice none 0 0, .int .i64 1, .int .i64 1, .int .i64 0, .slice (some ⟨g2, 0, none⟩) 64 64, .int .i64 1, .int .i64 1, .int .i64 0, .slice (some ⟨g3, 0, none⟩) 65 65, .int .i64 4, .int .i64 (x - 3), .int .i64 0, .slice none 0 0, .int .i64 3, .int .i64 0, .int .i64 0, .slice none 0 0, .int .i64 0, .int .i64 0, .int .i64 0, .slice none 0 0, .int .i64 6, .int .i64 1, .int .i64 0, .slice none 0 0, .int .i64 1, .int .i64 x, .int .i64 0, .slice (some ⟨g4, 0, none⟩) 1 1, .int .i64 7, .int .i64 x, .int .i64 (510 + x), .slice none 0 0] 35)
  have hf : Fr (fun _ => False) W (W.alloc (.cells #[.int .i64 4, .int .i64 x, .int .i64 0, .slice none 0 0, .int .i64 1, .int .i64 0, .int .i64 0, .slice (some ⟨g1, 0, none⟩) 1 1, .int .i64 1, .int .i64 7, .int .i64 0, .slice none 0 0, .int .i64 3, .int .i64 0, .int .i64 0, .slice none 0 0, .int .i64 1, .int .i64 1, .int .i64 0, .slice (some ⟨g2, 0, none⟩) 64 64, .int .i64 1, .int .i64 1, .int .i64 0, .slice (some ⟨g3, 0, none⟩) 65 65, .int .i64 4, .int .i64 (x - 3), .int .i64 0, .slice none 0 0, .int .i64 3, .int .i64 0, .int .i64 0, .slice none 0 0, .int .i64 0, .int .i64 0, .int .i64 0, .slice none 0 0, .int .i64 6, .int .i64 1, .int .i64 0, .slice none 0 0, .int .i64 1, .int .i64 x, .int .i64 0, .slice (some ⟨g4, 0, none⟩) 1 1, .int .i64 7, .int .i64 x, .int .i64 (510 + x), .slice none 0 0] 35)) := (Fr.refl _ _).alloc _
  revert hb hf
  generalize W.alloc (.cells #[.int .i64 4, .int .i64 x, .int .i64 0, .slice none 0 0, .int .i64 1, .int .i64 0, .int .i64 0, .slice (some ⟨g1, 0, none⟩) 1 1, .int .i64 1, .int .i64 7, .int .i64 0, .slice none 0 0, .int .i64 3, .int .i64 0, .int .i64 0, .slice none 0 0, .int .i64 1, .int .i64 1, .int .i64 0, .slice (some ⟨g2, 0, none⟩) 64 64, .int .i64 1, .int .i64 1, .int .i64 0, .slice (some ⟨g3, 0, none⟩) 65 65, .int .i64 4, .int .i64 (x - 3), .int .i64 0, .slice none 0 0, .int .i64 3, .int .i64 0, .int .i64 0, .slice none 0 0, .int .i64 0, .int .i64 0, .int .i64 0, .slice none 0 0, .int .i64 6, .int .i64 1, .int .i64 0, .slice none 0 0, .int .i64 1, .int .i64 x, .int .i64 0, .slice (some ⟨g4, 0, none⟩) 1 1, .int .i64 7, .int .i64 x, .int .i64 (510 + x), .slice none 0 0] 35) = W2
  intro hb hf
  refine ⟨?_, hf⟩
  have k1 := h1.keep hf id
  have k2 := h2.keep hf id
  have k3 := h3.keep hf id
  have k4 := h4.keep hf id
  have ok : ∀ y : Int, -1000000 ≤ y → y ≤ 1000000 → IntOk y := fun y a b => ok_small a b
  refine DeedsIn.made _ 12 rfl hb rfl (lt_of_block hb) ?_ (by simp) (by simp)
  intro p hp
  simp only [List.mem_cons, List.not_mem_nil, or_false] at hp
  rcases hp with rfl | rfl | rfl | rfl | rfl | rfl | rfl | rfl | rfl | rfl | rfl | rfl
  · exact MadeD.bare _ _ 4 x 0 (ok _ (by omega) (by omega)) (ok _ (by omega) (by omega)) (ok _ (by omega) (by omega))
  · exact MadeD.row 1 0 0 1 k1 rfl (by decide) (lt_of_block k1) (ok _ (by omega) (by omega)) (ok _ (by omega) (by omega)) (ok _ (by omega) (by omega))
  · exact MadeD.bare _ _ 1 7 0 (ok _ (by omega) (by omega)) (ok _ (by omega) (by omega)) (ok _ (by omega) (by omega))
  · exact MadeD.bare _ _ 3 0 0 (ok _ (by omega) (by omega)) (ok _ (by omega) (by omega)) (ok _ (by omega) (by omega))
  · exact MadeD.row 1 1 0 64 k2 (by simp) (by decide) (lt_of_block k2) (ok _ (by omega) (by omega)) (ok _ (by omega) (by omega)) (ok _ (by omega) (by omega))
  · exact MadeD.row 1 1 0 65 k3 (by simp) (by decide) (lt_of_block k3) (ok _ (by omega) (by omega)) (ok _ (by omega) (by omega)) (ok _ (by omega) (by omega))
  · exact MadeD.bare _ _ 4 (x - 3) 0 (ok _ (by omega) (by omega)) (ok _ (by omega) (by omega)) (ok _ (by omega) (by omega))
  · exact MadeD.bare _ _ 3 0 0 (ok _ (by omega) (by omega)) (ok _ (by omega) (by omega)) (ok _ (by omega) (by omega))
  · exact MadeD.bare _ _ 0 0 0 (ok _ (by omega) (by omega)) (ok _ (by omega) (by omega)) (ok _ (by omega) (by omega))
  · exact MadeD.bare _ _ 6 1 0 (ok _ (by omega) (by omega)) (ok _ (by omega) (by omega)) (ok _ (by omega) (by omega))
  · exact MadeD.row 1 x 0 1 k4 rfl (by decide) (lt_of_block k4) (ok _ (by omega) (by omega)) (ok _ (by omega) (by omega)) (ok _ (by omega) (by omega))
  · exact MadeD.bare _ _ 7 x (510 + x) (ok _ (by omega) (by omega)) (ok _ (by omega) (by omega)) (ok _ (by omega) (by omega))

set_option maxRecDepth 100000 in
set_option maxHeartbeats 16000000 in
theorem devSteps_any (w : World) : Calls Try.prog 4 #[] w fun e w' => e = .returned (.bool true) ∧ Fr (fun _ => False) w w' := by
  go_enter Try.func4, Try.ntmps4
  go_wp2_with fail
  go_loopw [1] (fun iv wr => ∃ x : Int, -1 ≤ x ∧ x ≤ 17 ∧ iv = .int .i64 x ∧ Hid (Fr (fun _ => False) w wr)) (fun iv _ => (17 - intOf iv).toNat)
  case atStart => exact ⟨-1, by omega, by omega, rfl, Lib.hid (Fr.refl _ _)⟩
  case round =>
    obtain ⟨x, hx0, hx1, rfl, hR⟩ := hrel
    by_cases hlt : x < 17
    · have hd : decide (x < 17) = true := by rw [decide_eq_true_iff]; exact hlt
      obtain ⟨y, hy⟩ : ∃ y, x * 31 = y := ⟨_, rfl⟩
      have wy : IntKind.i64.wrap y = y := IntWalk.i64_in _ (by omega)
      have HC := Lib.hid (call1 wr x y (ok_small (by omega) (by omega)) (ok_small (by omega) (by omega)))
      go_wp2_with (go_at_call 3; refine HC.out.mono ?_; rintro e w2 ⟨rfl, hf2⟩; (have HF := Lib.hid (hR.out.trans hf2 (fun _ h => h.elim))); clear hf2 HC)
      go_roundw
      case rel => exact ⟨x + 1, by omega, by omega, by go_num, HF⟩
      case measure => simp [intOf]; omega
    · have hd : decide (x < 17) = false := by rw [decide_eq_false_iff_not]; exact hlt
      clear hx0 hx1 hlt
      go_wp2_with fail
      go_loopw [3] (fun iv wr => ∃ x : Int, -1 ≤ x ∧ x ≤ 9 ∧ iv = .int .i64 x ∧ Hid (Fr (fun _ => False) w wr)) (fun iv _ => (9 - intOf iv).toNat)
      case atStart => exact ⟨-1, by omega, by omega, rfl, hR⟩
      case round =>
        clear hR
        obtain ⟨x, hx0, hx1, rfl, hR⟩ := hrel
        by_cases hlt : x < 9
        · have hd : decide (x < 9) = true := by rw [decide_eq_true_iff]; exact hlt
          obtain ⟨b, hb⟩ := byte4 x
          have EC := Lib.hid (fun W => run_byte4 W x _ hb)
          have ES := Lib.hid (fun W => run_sub4 W x 3 (x - 3) (IntWalk.i64_in _ (by omega)))
          have EA := Lib.hid (fun W => run_add4 W 510 x (510 + x) (IntWalk.i64_in _ (by omega)))
          clear hb
          go_wp2_with fail
          refine wp_region_inv 25 (by kernel_rfl) (by kernel_rfl) (fun W => Fr (fun _ => False) wr W) (StR x b) (fun _ _ _ _ => True) (Fr (fun _ => False)) (StR.ext x b) (Fr.refl _ _).drew ?_ ?_
          · intro i hi o ho
            replace hi : i < 25 := hi
            obtain rfl | rfl | rfl | rfl | rfl | rfl | rfl | rfl | rfl | rfl | rfl | rfl | rfl | rfl | rfl | rfl | rfl | rfl | rfl | rfl | rfl | rfl | rfl | rfl | rfl : i = 0 ∨ i = 1 ∨ i = 2 ∨ i = 3 ∨ i = 4 ∨ i = 5 ∨ i = 6 ∨ i = 7 ∨ i = 8 ∨ i = 9 ∨ i = 10 ∨ i = 11 ∨ i = 12 ∨ i = 13 ∨ i = 14 ∨ i = 15 ∨ i = 16 ∨ i = 17 ∨ i = 18 ∨ i = 19 ∨ i = 20 ∨ i = 21 ∨ i = 22 ∨ i = 23 ∨ i = 24 := by omega
            · simp only [List.getElem?_cons_zero, Option.some.injEq] at ho
              subst ho
              intro a W vs hB hS hE hU
              refine wpG_plain rfl ?_
              have v3 : a.eval (.tmp 3) = .int .i64 x := (hU 3 (by kernel_rfl)).trans rfl
              clear hE hU
              exact wp_value_inv (w' := W) (.int .i64 x) (op_move rfl v3) ⟨_, rfl, hB, Fr.refl _ _, rfl, fun _ _ _ _ _ => trivial⟩
            · simp only [List.getElem?_cons_zero, List.getElem?_cons_succ, Option.some.injEq] at ho
              subst ho
              intro a W vs hB hS hE hU
              refine wpG_plain rfl ?_
              obtain ⟨r0, e41⟩ := hE 0 41 (by kernel_rfl) (by kernel_rfl)
              have v41 : a.eval (.tmp 41) = .int .i64 x := e41.trans r0
              clear hE hU
              exact wp_value_inv (w' := W) (.agg #[.int .i64 4, .int .i64 x, .int .i64 0, .slice none 0 0]) (op_build rfl (vs := #[(0, .int .i64 4), (1, .int .i64 x)]) (by simp only [List.map_toArray, List.map_cons, List.map_nil, eval_const4, v41]) (by kernel_rfl)) ⟨_, rfl, hB, Fr.refl _ _, rfl, fun _ _ _ _ _ => trivial⟩
            · simp only [List.getElem?_cons_zero, List.getElem?_cons_succ, Option.some.injEq] at ho
              subst ho
              intro a W vs hB hS hE hU
              refine wpG_plain rfl ?_
              clear hE hU
              refine wp_value_inv (w' := W.alloc (.cells #[.int .u8 1] 5)) (.slice (some ⟨W.heap.size, 0, none⟩) 1 1) (op_rows rfl (vs := #[(0, .int .u8 1)]) (by simp only [List.map_toArray, List.map_cons, List.map_nil, eval_const4]) (by kernel_rfl)) ?_
              exact ⟨_, rfl, hB.alloc _, (Fr.refl _ W).alloc _, ⟨W.heap.size, rfl, heap_alloc_new W _⟩, fun _ _ _ _ _ => trivial⟩
            · simp only [List.getElem?_cons_zero, List.getElem?_cons_succ, Option.some.injEq] at ho
              subst ho
              intro a W vs hB hS hE hU
              refine wpG_plain rfl ?_
              obtain ⟨⟨g2, rg2, hg2⟩, e43⟩ := hE 2 43 (by kernel_rfl) (by kernel_rfl)
              have v43 : a.eval (.tmp 43) = .slice (some ⟨g2, 0, none⟩) 1 1 := e43.trans rg2
              clear hE hU
              refine wp_value_inv (w' := W) (.agg #[.int .i64 1, .int .i64 0, .int .i64 0, .slice (some ⟨g2, 0, none⟩) 1 1]) (op_build rfl (vs := #[(0, .int .i64 1), (3, .slice (some ⟨g2, 0, none⟩) 1 1)]) (by simp only [List.map_toArray, List.map_cons, List.map_nil, eval_const4, v43]) (by kernel_rfl)) ?_
              exact ⟨_, rfl, hB, Fr.refl _ _, ⟨g2, rfl, hg2⟩, fun _ _ _ _ _ => trivial⟩
            · simp only [List.getElem?_cons_zero, List.getElem?_cons_succ, Option.some.injEq] at ho
              subst ho
              intro a W vs hB hS hE hU
              refine wpG_plain rfl ?_
              clear hE hU
              exact wp_value_inv (w' := W) (.agg #[.int .i64 1, .int .i64 7, .int .i64 0, .slice none 0 0]) (op_build rfl (vs := #[(0, .int .i64 1), (1, .int .i64 7)]) (by simp only [List.map_toArray, List.map_cons, List.map_nil, eval_const4]) (by kernel_rfl)) ⟨_, rfl, hB, Fr.refl _ _, rfl, fun _ _ _ _ _ => trivial⟩
            · simp only [List.getElem?_cons_zero, List.getElem?_cons_succ, Option.some.injEq] at ho
              subst ho
              intro a W vs hB hS hE hU
              refine wpG_plain rfl ?_
              clear hE hU
              exact wp_value_inv (w' := W) (.agg #[.int .i64 3, .int .i64 0, .int .i64 0, .slice none 0 0]) (op_build rfl (vs := #[(0, .int .i64 3)]) (by simp only [List.map_toArray, List.map_cons, List.map_nil, eval_const4]) (by kernel_rfl)) ⟨_, rfl, hB, Fr.refl _ _, rfl, fun _ _ _ _ _ => trivial⟩
            · simp only [List.getElem?_cons_zero, List.getElem?_cons_succ, Option.some.injEq] at ho
              subst ho
              intro a W vs hB hS hE hU
              refine wpG_plain rfl ?_
              clear hE hU
              refine wp_value_inv (w' := W.alloc (.cells ((List.replicate 64 (0 : UInt8)).map bv).toArray 5)) (.slice (some ⟨W.heap.size, 0, none⟩) 64 64) (op_make4 rfl (eval_const4 _ _) (eval_const4 _ _) (run_make_bytes W 64 64 rfl (by decide))) ?_
              exact ⟨_, rfl, hB.alloc _, (Fr.refl _ W).alloc _, ⟨W.heap.size, rfl, heap_alloc_new W _⟩, fun _ _ _ _ _ => trivial⟩
            · simp only [List.getElem?_cons_zero, List.getElem?_cons_succ, Option.some.injEq] at ho
              subst ho
              intro a W vs hB hS hE hU
              refine wpG_plain rfl ?_
              obtain ⟨⟨g6, rg6, hg6⟩, e47⟩ := hE 6 47 (by kernel_rfl) (by kernel_rfl)
              have v47 : a.eval (.tmp 47) = .slice (some ⟨g6, 0, none⟩) 64 64 := e47.trans rg6
              clear hE hU
              refine wp_value_inv (w' := W) (.agg #[.int .i64 1, .int .i64 1, .int .i64 0, .slice (some ⟨g6, 0, none⟩) 64 64]) (op_build rfl (vs := #[(0, .int .i64 1), (1, .int .i64 1), (3, .slice (some ⟨g6, 0, none⟩) 64 64)]) (by simp only [List.map_toArray, List.map_cons, List.map_nil, eval_const4, v47]) (by kernel_rfl)) ?_
              exact ⟨_, rfl, hB, Fr.refl _ _, ⟨g6, rfl, hg6⟩, fun _ _ _ _ _ => trivial⟩
            · simp only [List.getElem?_cons_zero, List.getElem?_cons_succ, Option.some.injEq] at ho
              subst ho
              intro a W vs hB hS hE hU
              refine wpG_plain rfl ?_
              clear hE hU
              refine wp_value_inv (w' := W.alloc (.cells ((List.replicate 65 (0 : UInt8)).map bv).toArray 5)) (.slice (some ⟨W.heap.size, 0, none⟩) 65 65) (op_make4 rfl (eval_const4 _ _) (eval_const4 _ _) (run_make_bytes W 65 65 rfl (by decide))) ?_
              exact ⟨_, rfl, hB.alloc _, (Fr.refl _ W).alloc _, ⟨W.heap.size, rfl, heap_alloc_new W _⟩, fun _ _ _ _ _ => trivial⟩
            · simp only [List.getElem?_cons_zero, List.getElem?_cons_succ, Option.some.injEq] at ho
              subst ho
              intro a W vs hB hS hE hU
              refine wpG_plain rfl ?_
              obtain ⟨⟨g8, rg8, hg8⟩, e49⟩ := hE 8 49 (by kernel_rfl) (by kernel_rfl)
              have v49 : a.eval (.tmp 49) = .slice (some ⟨g8, 0, none⟩) 65 65 := e49.trans rg8
              clear hE hU
              refine wp_value_inv (w' := W) (.agg #[.int .i64 1, .int .i64 1, .int .i64 0, .slice (some ⟨g8, 0, none⟩) 65 65]) (op_build rfl (vs := #[(0, .int .i64 1), (1, .int .i64 1), (3, .slice (some ⟨g8, 0, none⟩) 65 65)]) (by simp only [List.map_toArray, List.map_cons, List.map_nil, eval_const4, v49]) (by kernel_rfl)) ?_
              exact ⟨_, rfl, hB, Fr.refl _ _, ⟨g8, rfl, hg8⟩, fun _ _ _ _ _ => trivial⟩
            · simp only [List.getElem?_cons_zero, List.getElem?_cons_succ, Option.some.injEq] at ho
              subst ho
              intro a W vs hB hS hE hU
              refine wpG_plain rfl ?_
              have v3 : a.eval (.tmp 3) = .int .i64 x := (hU 3 (by kernel_rfl)).trans rfl
              clear hE hU
              exact wp_value_inv (w' := W) (.int .i64 x) (op_move rfl v3) ⟨_, rfl, hB, Fr.refl _ _, rfl, fun _ _ _ _ _ => trivial⟩
            · simp only [List.getElem?_cons_zero, List.getElem?_cons_succ, Option.some.injEq] at ho
              subst ho
              intro a W vs hB hS hE hU
              refine wpG_plain rfl ?_
              obtain ⟨r10, e51⟩ := hE 10 51 (by kernel_rfl) (by kernel_rfl)
              have v51 : a.eval (.tmp 51) = .int .i64 x := e51.trans r10
              clear hE hU
              exact wp_value_inv (w' := W) (.int .i64 (x - 3)) (op_bin rfl v51 (eval_const4 _ _) rfl (ES.out W)) ⟨_, rfl, hB, Fr.refl _ _, rfl, fun _ _ _ _ _ => trivial⟩
            · simp only [List.getElem?_cons_zero, List.getElem?_cons_succ, Option.some.injEq] at ho
              subst ho
              intro a W vs hB hS hE hU
              refine wpG_plain rfl ?_
              obtain ⟨r11, e52⟩ := hE 11 52 (by kernel_rfl) (by kernel_rfl)
              have v52 : a.eval (.tmp 52) = .int .i64 (x - 3) := e52.trans r11
              clear hE hU
              exact wp_value_inv (w' := W) (.agg #[.int .i64 4, .int .i64 (x - 3), .int .i64 0, .slice none 0 0]) (op_build rfl (vs := #[(0, .int .i64 4), (1, .int .i64 (x - 3))]) (by simp only [List.map_toArray, List.map_cons, List.map_nil, eval_const4, v52]) (by kernel_rfl)) ⟨_, rfl, hB, Fr.refl _ _, rfl, fun _ _ _ _ _ => trivial⟩
            · simp only [List.getElem?_cons_zero, List.getElem?_cons_succ, Option.some.injEq] at ho
              subst ho
              intro a W vs hB hS hE hU
              refine wpG_plain rfl ?_
              clear hE hU
              exact wp_value_inv (w' := W) (.agg #[.int .i64 3, .int .i64 0, .int .i64 0, .slice none 0 0]) (op_build rfl (vs := #[(0, .int .i64 3)]) (by simp only [List.map_toArray, List.map_cons, List.map_nil, eval_const4]) (by kernel_rfl)) ⟨_, rfl, hB, Fr.refl _ _, rfl, fun _ _ _ _ _ => trivial⟩
            · simp only [List.getElem?_cons_zero, List.getElem?_cons_succ, Option.some.injEq] at ho
              subst ho
              intro a W vs hB hS hE hU
              refine wpG_plain rfl ?_
              clear hE hU
              exact wp_value_inv (w' := W) (.agg #[.int .i64 0, .int .i64 0, .int .i64 0, .slice none 0 0]) (op_build rfl (vs := #[]) (by simp only [List.map_toArray, List.map_cons, List.map_nil, eval_const4]) (by kernel_rfl)) ⟨_, rfl, hB, Fr.refl _ _, rfl, fun _ _ _ _ _ => trivial⟩
            · simp only [List.getElem?_cons_zero, List.getElem?_cons_succ, Option.some.injEq] at ho
              subst ho
              intro a W vs hB hS hE hU
              refine wpG_plain rfl ?_
              clear hE hU
              exact wp_value_inv (w' := W) (.agg #[.int .i64 6, .int .i64 1, .int .i64 0, .slice none 0 0]) (op_build rfl (vs := #[(0, .int .i64 6), (1, .int .i64 1)]) (by simp only [List.map_toArray, List.map_cons, List.map_nil, eval_const4]) (by kernel_rfl)) ⟨_, rfl, hB, Fr.refl _ _, rfl, fun _ _ _ _ _ => trivial⟩
            · simp only [List.getElem?_cons_zero, List.getElem?_cons_succ, Option.some.injEq] at ho
              subst ho
              intro a W vs hB hS hE hU
              refine wpG_plain rfl ?_
              have v3 : a.eval (.tmp 3) = .int .i64 x := (hU 3 (by kernel_rfl)).trans rfl
              clear hE hU
              exact wp_value_inv (w' := W) (.int .i64 x) (op_move rfl v3) ⟨_, rfl, hB, Fr.refl _ _, rfl, fun _ _ _ _ _ => trivial⟩
            · simp only [List.getElem?_cons_zero, List.getElem?_cons_succ, Option.some.injEq] at ho
              subst ho
              intro a W vs hB hS hE hU
              refine wpG_plain rfl ?_
              have v3 : a.eval (.tmp 3) = .int .i64 x := (hU 3 (by kernel_rfl)).trans rfl
              clear hE hU
              exact wp_value_inv (w' := W) (.int .i64 x) (op_move rfl v3) ⟨_, rfl, hB, Fr.refl _ _, rfl, fun _ _ _ _ _ => trivial⟩
            · simp only [List.getElem?_cons_zero, List.getElem?_cons_succ, Option.some.injEq] at ho
              subst ho
              intro a W vs hB hS hE hU
              refine wpG_plain rfl ?_
              obtain ⟨r17, e58⟩ := hE 17 58 (by kernel_rfl) (by kernel_rfl)
              have v58 : a.eval (.tmp 58) = .int .i64 x := e58.trans r17
              clear hE hU
              exact wp_value_inv (w' := W) (.int .u8 (b.toNat : Nat)) (op_conv4 rfl v58 (EC.out W)) ⟨_, rfl, hB, Fr.refl _ _, rfl, fun _ _ _ _ _ => trivial⟩
            · simp only [List.getElem?_cons_zero, List.getElem?_cons_succ, Option.some.injEq] at ho
              subst ho
              intro a W vs hB hS hE hU
              refine wpG_plain rfl ?_
              obtain ⟨r18, e59⟩ := hE 18 59 (by kernel_rfl) (by kernel_rfl)
              have v59 : a.eval (.tmp 59) = .int .u8 (b.toNat : Nat) := e59.trans r18
              clear hE hU
              refine wp_value_inv (w' := W.alloc (.cells #[.int .u8 (b.toNat : Nat)] 5)) (.slice (some ⟨W.heap.size, 0, none⟩) 1 1) (op_rows rfl (vs := #[(0, .int .u8 (b.toNat : Nat))]) (by simp only [List.map_toArray, List.map_cons, List.map_nil, eval_const4, v59]) (by kernel_rfl)) ?_
              exact ⟨_, rfl, hB.alloc _, (Fr.refl _ W).alloc _, ⟨W.heap.size, rfl, heap_alloc_new W _⟩, fun _ _ _ _ _ => trivial⟩
            · simp only [List.getElem?_cons_zero, List.getElem?_cons_succ, Option.some.injEq] at ho
              subst ho
              intro a W vs hB hS hE hU
              refine wpG_plain rfl ?_
              obtain ⟨r16, e57⟩ := hE 16 57 (by kernel_rfl) (by kernel_rfl)
              have v57 : a.eval (.tmp 57) = .int .i64 x := e57.trans r16
              obtain ⟨⟨g19, rg19, hg19⟩, e60⟩ := hE 19 60 (by kernel_rfl) (by kernel_rfl)
              have v60 : a.eval (.tmp 60) = .slice (some ⟨g19, 0, none⟩) 1 1 := e60.trans rg19
              clear hE hU
              refine wp_value_inv (w' := W) (.agg #[.int .i64 1, .int .i64 x, .int .i64 0, .slice (some ⟨g19, 0, none⟩) 1 1]) (op_build rfl (vs := #[(0, .int .i64 1), (1, .int .i64 x), (3, .slice (some ⟨g19, 0, none⟩) 1 1)]) (by simp only [List.map_toArray, List.map_cons, List.map_nil, eval_const4, v57, v60]) (by kernel_rfl)) ?_
              exact ⟨_, rfl, hB, Fr.refl _ _, ⟨g19, rfl, hg19⟩, fun _ _ _ _ _ => trivial⟩
            · simp only [List.getElem?_cons_zero, List.getElem?_cons_succ, Option.some.injEq] at ho
              subst ho
              intro a W vs hB hS hE hU
              refine wpG_plain rfl ?_
              have v3 : a.eval (.tmp 3) = .int .i64 x := (hU 3 (by kernel_rfl)).trans rfl
              clear hE hU
              exact wp_value_inv (w' := W) (.int .i64 x) (op_move rfl v3) ⟨_, rfl, hB, Fr.refl _ _, rfl, fun _ _ _ _ _ => trivial⟩
            · simp only [List.getElem?_cons_zero, List.getElem?_cons_succ, Option.some.injEq] at ho
              subst ho
              intro a W vs hB hS hE hU
              refine wpG_plain rfl ?_
              have v3 : a.eval (.tmp 3) = .int .i64 x := (hU 3 (by kernel_rfl)).trans rfl
              clear hE hU
              exact wp_value_inv (w' := W) (.int .i64 x) (op_move rfl v3) ⟨_, rfl, hB, Fr.refl _ _, rfl, fun _ _ _ _ _ => trivial⟩
            · simp only [List.getElem?_cons_zero, List.getElem?_cons_succ, Option.some.injEq] at ho
              subst ho
              intro a W vs hB hS hE hU
              refine wpG_plain rfl ?_
              obtain ⟨r22, e63⟩ := hE 22 63 (by kernel_rfl) (by kernel_rfl)
              have v63 : a.eval (.tmp 63) = .int .i64 x := e63.trans r22
              clear hE hU
              exact wp_value_inv (w' := W) (.int .i64 (510 + x)) (op_bin rfl (eval_const4 _ _) v63 rfl (EA.out W)) ⟨_, rfl, hB, Fr.refl _ _, rfl, fun _ _ _ _ _ => trivial⟩
            · simp only [List.getElem?_cons_zero, List.getElem?_cons_succ, Option.some.injEq] at ho
              subst ho
              intro a W vs hB hS hE hU
              refine wpG_plain rfl ?_
              obtain ⟨r21, e62⟩ := hE 21 62 (by kernel_rfl) (by kernel_rfl)
              have v62 : a.eval (.tmp 62) = .int .i64 x := e62.trans r21
              obtain ⟨r23, e64⟩ := hE 23 64 (by kernel_rfl) (by kernel_rfl)
              have v64 : a.eval (.tmp 64) = .int .i64 (510 + x) := e64.trans r23
              clear hE hU
              exact wp_value_inv (w' := W) (.agg #[.int .i64 7, .int .i64 x, .int .i64 (510 + x), .slice none 0 0]) (op_build rfl (vs := #[(0, .int .i64 7), (1, .int .i64 x), (2, .int .i64 (510 + x))]) (by simp only [List.map_toArray, List.map_cons, List.map_nil, eval_const4, v62, v64]) (by kernel_rfl)) ⟨_, rfl, hB, Fr.refl _ _, rfl, fun _ _ _ _ _ => trivial⟩
          · intro vs W hB hR' hD
            have r1 := hR' 1 (by decide)
            have r4 := hR' 4 (by decide)
            have r5 := hR' 5 (by decide)
            have r12 := hR' 12 (by decide)
            have r13 := hR' 13 (by decide)
            have r14 := hR' 14 (by decide)
            have r15 := hR' 15 (by decide)
            have r24 := hR' 24 (by decide)
            obtain ⟨g1, r3, h1⟩ := hR' 3 (by decide)
            obtain ⟨g2, r7, h2⟩ := hR' 7 (by decide)
            obtain ⟨g3, r9, h3⟩ := hR' 9 (by decide)
            obtain ⟨g4, r20, h4⟩ := hR' 20 (by decide)
            have HMK := Lib.hid (mk2 W x b g1 g2 g3 g4 ⟨by omega, by omega⟩ h1 h2 h3 h4)
            have HB := Lib.hid (hR.out.trans hB (fun _ h => h.elim))
            clear hR' hD hB h1 h2 h3 h4
            simp only [acts, if_true, dstAt, List.getElem?_cons_zero, List.getElem?_cons_succ, Option.bind_some, Act.put, List.setIfInBounds_toArray, List.set_cons_succ, List.set_cons_zero, List.drop_succ_cons, List.drop_zero]
            rw [show vs 1 = _ from r1, show vs 3 = _ from r3, show vs 4 = _ from r4, show vs 5 = _ from r5, show vs 7 = _ from r7, show vs 9 = _ from r9, show vs 12 = _ from r12, show vs 13 = _ from r13, show vs 14 = _ from r14, show vs 15 = _ from r15, show vs 20 = _ from r20, show vs 24 = _ from r24]
            clear r1 r3 r4 r5 r7 r9 r12 r13 r14 r15 r20 r24
            go_wp2_with (first
              | (go_at_call 3; (with_reducible refine (devDoes_any _ 3 (by decide) (by decide) _ _ HMK.out.1).mono ?_); rintro e w5 ⟨rfl, hf5⟩; (have H5 := Lib.hid (And.intro ((HMK.out.1.keep hf5 (fun _ _ _ h => h)).mono (G := fun k => k < w5.heap.size) (fun k hk _ => hk)) ((HB.out.trans HMK.out.2 (fun _ h => h.elim)).trans hf5 (fun _ h => h.elim)))); clear hf5)
              | (go_at_call 3; (with_reducible refine (devDoes_any w5 x (by omega) (by omega) _ _ H5.out.1).mono ?_); rintro e w6 ⟨rfl, hf6⟩; (have H6 := Lib.hid (H5.out.2.trans hf6 (fun _ h => h.elim))); clear hf6))
            go_roundw
            case rel => exact ⟨x + 1, by omega, by omega, by go_num, H6⟩
            case measure => simp [intOf]; omega
        · have hd : decide (x < 9) = false := by rw [decide_eq_false_iff_not]; exact hlt
          clear hx0 hx1 hlt
          go_wp2_with fail
          go_loopw [5, 6] (fun mv iv wr => ∃ i : Nat, i ≤ 130 ∧ iv = .int .i64 i ∧ ∃ L : List DeedD, L.length = i ∧ Hid (OwnD (fun k => w.heap.size ≤ k) wr mv L ∧ Fr (fun _ => False) w wr)) (fun _ iv _ => 130 - (intOf iv).toNat)
          case atStart => exact ⟨0, by decide, rfl, [], rfl, Lib.hid ⟨OwnD.nil _ _, hR.out⟩⟩
          case round =>
            clear hR
            obtain ⟨i, hi, rfl, L, hLi, hO⟩ := hrel
            by_cases hlt : i < 130
            · have hd : decide ((i : Int) < 130) = true := by rw [decide_eq_true_iff]; omega
              have hdN : decide (i < 130) = true := by rw [decide_eq_true_iff]; exact hlt
              obtain ⟨r, hr⟩ : ∃ r, r = i % 60 := ⟨_, rfl⟩
              have er1 : (i : Int) % 60 = (r : Int) := by omega
              have er2 : (i : Int).tmod 60 = (r : Int) := by rw [Int.tmod_eq_emod_of_nonneg (by omega)]; exact er1
              have wr60 : IntKind.i64.wrap (r : Int) = (r : Int) := IntWalk.i64_in _ (by omega)
              obtain ⟨b, hb⟩ := byte4 ((i : Int) + 1)
              have HM := Lib.hid (mk3 w wr _ L b r (by omega) hO.out.1 hO.out.2)
              have HL := Lib.hid hLi
              clear hLi hr er1
              go_wp2_with (at_builtin; refine wpList_append_deeds (F := fun k => w.heap.size ≤ k) (G := fun k => k = wr.heap.size) _ rfl (.tmp 80) (.tmp 88) rfl _ L _ 1 (wr.heap.size + 1) rfl rfl rfl HM.out.1 HM.out.2.1 HM.out.2.2.1 HM.out.2.2.2.1 (by have := HL.out; simp only [List.length_singleton]; omega) ?_; intro v5 w5 ho5 hg5; (have HS5 := Lib.hid (show OwnD (fun k => w.heap.size ≤ k) w5 v5 (L ++ [⟨1, r, 0, .slice (some ⟨wr.heap.size, 0, none⟩) 1 1, [b]⟩]) ∧ Fr (fun _ => False) w w5 from ⟨ho5.mono (fun k _ h => h.elim id (fun h => Nat.le_trans HM.out.2.2.2.2.size h)), HM.out.2.2.2.2.grown hg5 (fun k hk => .inr (HM.out.1.own k hk))⟩)); clear ho5 hg5)
              go_roundw
              case rel => exact ⟨i + 1, by omega, by go_num, _, by rw [List.length_append, HL.out]; rfl, HS5⟩
              case measure => simp [intOf]; omega
            · have hd : decide ((i : Int) < 130) = false := by rw [decide_eq_false_iff_not]; omega
              have hdN : decide (i < 130) = false := by rw [decide_eq_false_iff_not]; exact hlt
              have HLL := Lib.hid (show L.length ≤ 130 by omega)
              have HN1 := Lib.hid (fun W => show Calls Try.prog 9 #[.int .i64 8192] W fun e w' => ∃ g, e = .returned (.tuple #[.pointer (some ⟨g, 0, none⟩), .int .i64 0]) ∧ Fr (fun _ => False) W w' from (aNew W 8192 (by decide) (by decide)).mono fun e w' ⟨g, h1, _, h3⟩ => ⟨g, h1, h3⟩)
              have HN2 := Lib.hid (fun W => dNew_no W 8193 (by decide))
              have HNO := Lib.hid none_any
              have HAW := Lib.hid awake_any
              clear hLi hi hlt
              go_wp2_with (first
                | (go_at_call 9; (with_reducible refine (HN1.out _).mono ?_); rintro e w7 ⟨g7, rfl, hf7⟩; (have HO7 := Lib.hid (mk4 w w7 _ L (hO.out.1.keep hf7 (fun _ _ _ h => h)) (hO.out.2.trans hf7 (fun _ h => h.elim)))); clear hf7)
                | (go_at_call 9; (with_reducible refine (HN2.out _).mono ?_); rintro e w8 ⟨rfl, rfl⟩)
                | (at_builtin; refine wpList_append_deeds (F := fun k => w.heap.size ≤ k) (G := fun _ => False) _ rfl (.tmp 98) (.tmp 101) rfl _ L _ 2 w7.heap.size rfl rfl rfl HO7.out.1 HO7.out.2.1 HO7.out.2.2.1 (fun _ h => h.elim) (by have := HLL.out; simp only [List.length_cons, List.length_nil]; omega) ?_; intro v9 w9 ho9 hg9; (have HS9 := Lib.hid (And.intro ((ho9.deeds (by have := HLL.out; simp only [List.length_append, List.length_cons, List.length_nil]; omega)).mono (G := fun k => k < w9.heap.size) (fun k hk _ => hk)) (HO7.out.2.2.2.grown hg9 (fun k hk => .inr (HO7.out.1.own k hk))))); clear ho9 hg9)
                | (go_at_call 3; (with_reducible refine (devDoes_any w9 60 (by decide) (by decide) _ _ HS9.out.1).mono ?_); rintro e w10 ⟨rfl, hf10⟩; (have HF10 := Lib.hid (HS9.out.2.trans hf10 (fun _ h => h.elim))); clear hf10)
                | (go_at_call 13; (with_reducible refine (HNO.out _).mono ?_); rintro e w11 ⟨rfl, hf11⟩; (have HF11 := Lib.hid (HF10.out.trans hf11 (fun _ h => h.elim))); clear hf11)
                | (go_at_call 8; (with_reducible refine (HAW.out _).mono ?_); rintro e w12 ⟨rfl, hf12⟩; (have HF12 := Lib.hid (HF11.out.trans hf12 (fun _ h => h.elim))); clear hf12))
              go_ret
              exact ⟨rfl, HF12.out⟩
end Go.Proofs.Ythmcmomkomhilaa
