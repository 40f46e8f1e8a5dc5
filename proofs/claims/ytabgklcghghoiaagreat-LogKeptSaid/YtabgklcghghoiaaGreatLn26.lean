/- Laid together by merge.py: JDeeds JGreat JRoomP -/
import Derived.Test.YtabgklcghghoiaaGreatLn25
import Derived.Test.YtabgklcghghoiaaGreatLn0
import Derived.Deep.Fields
import Derived.Test.YtabgklcghghoiaaGreatLn11

/- Deeds of the laws of log in memory (as XDeeds); arguments that came in, opened. -/
namespace Go.Proofs.YtabgklcghghoiaaGreat
open Go.RowKit Go.ChangeShapes Go.WideShapes Go.Deep
set_option linter.unusedVariables false

/-- A deed: what, N, Bit, and the value and the bytes of B. -/
structure DeedD where
  what : Int
  n : Int
  bit : Int
  x : Value
  B : List UInt8

/-- A number that an int holds. -/
def IntOk (n : Int) : Prop := -9223372036854775808 ≤ n ∧ n ≤ 9223372036854775807

/-- The cells of one deed. -/
structure DeedAt (F : Nat → Prop) (w : World) (b o : Nat) (p : DeedD) : Prop where
  what : w.cell? ⟨b, o, none⟩ = some (.int .i64 p.what)
  n : w.cell? ⟨b, o + 1, none⟩ = some (.int .i64 p.n)
  bit : w.cell? ⟨b, o + 2, none⟩ = some (.int .i64 p.bit)
  cb : w.cell? ⟨b, o + 3, none⟩ = some p.x
  bytes : BytesIn F w p.x p.B
  in_ : F b
  wf : IntOk p.what ∧ IntOk p.n ∧ IntOk p.bit

theorem DeedAt.keep {F S : Nat → Prop} {w w' : World} {b o : Nat} {p : DeedD} (h : DeedAt F w b o p) (hf : Fr S w w') (hd : ∀ k, k < w.heap.size → F k → ¬ S k) : DeedAt F w' b o p := by
  have hb : ¬ S b := hd b (World.block_lt_of_cell? _ _ h.what) h.in_
  exact ⟨hf.cell h.what hb, hf.cell h.n hb, hf.cell h.bit hb, hf.cell h.cb hb, h.bytes.keep hf hd, h.in_, h.wf⟩

/-- A slice value that reads as a row of deeds. -/
def DeedsIn (F : Nat → Prop) (w : World) (v : Value) (l : List DeedD) : Prop :=
  ∃ ao cap, v = .slice ao l.length cap ∧ l.length ≤ cap ∧ l.length * 48 ≤ 140737488351232 ∧ (∀ p ∈ l, p.B.length ≤ 140737488351232) ∧
    (l ≠ [] → ∃ b off, ao = some ⟨b, off, none⟩ ∧ ∀ i (h : i < l.length), DeedAt F w b (off + i * 4) l[i])

theorem DeedsIn.keep {F S : Nat → Prop} {w w' : World} {v : Value} {l : List DeedD} (h : DeedsIn F w v l) (hf : Fr S w w') (hd : ∀ k, k < w.heap.size → F k → ¬ S k) : DeedsIn F w' v l := by
  obtain ⟨ao, cap, hv, h1, h2, h3, h4⟩ := h
  refine ⟨ao, cap, hv, h1, h2, h3, fun hl => ?_⟩
  obtain ⟨b, off, ha, hi⟩ := h4 hl
  exact ⟨b, off, ha, fun i h => (hi i h).keep hf hd⟩

theorem sum_take_succ (l : List DeedD) (k : Nat) (h : k < l.length) : ((l.take (k + 1)).map (·.B.length)).sum = ((l.take k).map (·.B.length)).sum + l[k].B.length := by
  rw [List.take_succ_eq_append_getElem h, List.map_append, List.sum_append]
  congr 1

theorem sum_take_le (l : List DeedD) (k : Nat) : ((l.take k).map (·.B.length)).sum ≤ (l.map (·.B.length)).sum := by
  conv => rhs; rw [← List.take_append_drop k l]
  rw [List.map_append, List.sum_append]
  omega

section
variable {H : Type} {enc : TypeId × Value → H} {w : World} {base fuel : Nat} {held : Bool} {cs : List Value} {x : DataW H × List MemPlace}

theorem list4 {α : Type} {l : List α} (h : l.length = 4) : ∃ a b c d, l = [a, b, c, d] := by
  match l, h with
  | [a, b, c, d], _ => exact ⟨a, b, c, d, rfl⟩

theorem Tryz.bytesDe : Tryz.prog.bytesOf 42 = 48 := by kernel_rfl
theorem Tryz.cellsDe : Tryz.prog.cellsOf 42 = 4 := by kernel_rfl

theorem Tryz.cellsI : Tryz.prog.cellsOf 3 = 1 := by kernel_rfl
theorem Tryz.cellsS : Tryz.prog.cellsOf 37 = 1 := by kernel_rfl

/-- One deed. -/
theorem open_deed {n : Nat} {y : DataW H × List MemPlace} {b o : Nat} (hF : b < w.heap.size) (hc : ∀ i, i < 4 → w.cell? ⟨b, o + i, none⟩ = cs[i]?) (h : DataW.trod enc Tryz.prog w base (fun _ => true) held n 42 cs = some y)
    (hz : ∀ n ∈ y.1.weights Tryz.prog 42, n ≤ reachBytes) :
    ∃ p : DeedD, DeedAt (fun k => k < w.heap.size) w b o p ∧ p.B.length ≤ 140737488351232 := by
  obtain ⟨xs, m, _, hy, hcl, hxl, hf⟩ := DataW.trod_struct Tryz.underlying42 h
  rw [Tryz.cellsDe] at hcl
  obtain ⟨c0, c1, c2, c3, rfl⟩ := list4 hcl
  obtain ⟨y0, y1, y2, y3, rfl⟩ := list4 (l := xs) hxl
  have e0 : DataW.trod enc Tryz.prog w base (fun _ => true) held m 3 [c0] = some y0 := by
    have h : DataW.trod enc Tryz.prog w base (fun _ => true) held m 3 (([c0, c1, c2, c3].drop 0).take (Tryz.prog.cellsOf 3)) = some y0 := hf 0 _ rfl
    rw [Tryz.cellsI] at h
    exact h
  have e1 : DataW.trod enc Tryz.prog w base (fun _ => true) held m 3 [c1] = some y1 := by
    have h : DataW.trod enc Tryz.prog w base (fun _ => true) held m 3 (([c0, c1, c2, c3].drop 1).take (Tryz.prog.cellsOf 3)) = some y1 := hf 1 _ rfl
    rw [Tryz.cellsI] at h
    exact h
  have e2 : DataW.trod enc Tryz.prog w base (fun _ => true) held m 3 [c2] = some y2 := by
    have h : DataW.trod enc Tryz.prog w base (fun _ => true) held m 3 (([c0, c1, c2, c3].drop 2).take (Tryz.prog.cellsOf 3)) = some y2 := hf 2 _ rfl
    rw [Tryz.cellsI] at h
    exact h
  have e3 : DataW.trod enc Tryz.prog w base (fun _ => true) held m 37 [c3] = some y3 := by
    have h : DataW.trod enc Tryz.prog w base (fun _ => true) held m 37 (([c0, c1, c2, c3].drop 3).take (Tryz.prog.cellsOf 37)) = some y3 := hf 3 _ rfl
    rw [Tryz.cellsS] at h
    exact h
  obtain ⟨n0, r0, _, w0⟩ := DataW.trod_int Tryz.underlying3 e0
  obtain ⟨n1, r1, _, w1⟩ := DataW.trod_int Tryz.underlying3 e1
  obtain ⟨n2, r2, _, w2⟩ := DataW.trod_int Tryz.underlying3 e2
  simp only [List.cons.injEq, and_true] at r0 r1 r2
  subst r0 r1 r2
  obtain ⟨v, L, r3, hB, hL⟩ := open_bytes e3 (fun k hk => hz k (by rw [hy]; simp only [DataW.weights, Tryz.underlying42]; exact DataW.weights_mem_each (j := 3) (t := 37) (d := y3.1) rfl rfl k hk))
  simp only [List.cons.injEq, and_true] at r3
  subst r3
  exact ⟨⟨n0, n1, n2, _, L⟩, ⟨hc 0 (by decide), hc 1 (by decide), hc 2 (by decide), hc 3 (by decide), hB, hF, bounds_i64 w0, bounds_i64 w1, bounds_i64 w2⟩, hL⟩

theorem open_deeds (h : DataW.trod enc Tryz.prog w base (fun _ => true) held fuel 24 cs = some x) (hz : ∀ n ∈ x.1.weights Tryz.prog 24, n ≤ reachBytes) :
    ∃ v l, cs = [v] ∧ DeedsIn (fun k => k < w.heap.size) w v l := by
  rcases open_slice Tryz.underlying24 h with ⟨rfl, _⟩ | ⟨a, len, cap, m, n, D, Pl, rfl, _, hl, hm, hmm, hx, hi⟩
  · exact ⟨_, [], rfl, none, 0, rfl, Nat.le_refl _, by simp, by simp, fun h => absurd rfl h⟩
  · simp only [if_true] at hmm
    subst hmm
    rw [Tryz.cellsDe] at hi
    have hw : ∀ k ∈ DataW.weightsAll Tryz.prog 42 ((List.range len).map D), k ≤ reachBytes := fun k hk => hz k (by
      rw [hx]; simp only [DataW.weights, Tryz.underlying24, List.mem_cons, List.mem_append]; exact .inr (.inl hk))
    have hm : m * 48 ≤ 140737488351232 := by
      have := hz ((len + (m - len)) * 48) (by rw [hx]; simp [DataW.weights, Tryz.underlying24, Tryz.bytesDe])
      simp only [reachBytes] at this
      omega
    by_cases h0 : len = 0
    · subst h0
      exact ⟨_, [], rfl, some a, m, rfl, Nat.zero_le _, by simp, by simp, fun h => absurd rfl h⟩
    · obtain ⟨b, off, spot⟩ := a
      have hs : spot = none := by
        obtain ⟨cs', hc, ht⟩ := hi 0 (by omega)
        obtain ⟨_, hcl, hat⟩ := World.cells?_some hc
        have := hat 0 (by decide)
        obtain ⟨c0, c1, c2, c3, rfl⟩ := list4 hcl
        simpa [Addr.add] using World.cell?_spot this
      subst hs
      have hone : ∀ i, ∃ p : DeedD, i < len → DeedAt (fun k => k < w.heap.size) w b (off + i * 4) p ∧ p.B.length ≤ 140737488351232 := by
        intro i
        by_cases hil : i < len
        · obtain ⟨cs', hc, ht⟩ := hi i (by omega)
          obtain ⟨_, hcl, hat⟩ := World.cells?_some hc
          have hat' : ∀ j, j < 4 → w.cell? ⟨b, off + i * 4 + j, none⟩ = cs'[j]? := fun j hj => by
            have := hat j hj
            rwa [addr_plain, addr_plain] at this
          have hb : b < w.heap.size := by
            have := hat' 0 (by decide)
            rw [List.getElem?_eq_getElem (by omega)] at this
            exact World.block_lt_of_cell? _ _ this
          obtain ⟨p, hp⟩ := open_deed hb hat' ht (fun k hk => hw k (mem_weightsAll (List.mem_map_of_mem (List.mem_range.2 hil)) k hk))
          exact ⟨p, fun _ => hp⟩
        · exact ⟨⟨0, 0, 0, .nilFunc, []⟩, fun h => absurd h hil⟩
      obtain ⟨f, hf⟩ := Classical.axiomOfChoice hone
      have hlen : ((List.range len).map f).length = len := by simp
      refine ⟨_, (List.range len).map f, rfl, some ⟨b, off, none⟩, m, by rw [hlen], by rw [hlen]; exact hl, by rw [hlen]; omega, ?_, fun _ => ⟨b, off, rfl, fun i hi => ?_⟩⟩
      · intro p hp
        obtain ⟨i, hi, rfl⟩ := List.mem_map.1 hp
        exact (hf i (List.mem_range.1 hi)).2
      · have : i < len := by omega
        simpa using (hf i this).1
end

end Go.Proofs.YtabgklcghghoiaaGreat

/- Contract: spencelaw05.great. -/
namespace Go.Proofs.YtabgklcghghoiaaGreat
open Go.RowKit Go.ChangeShapes
set_option linter.unusedVariables false

/-- How many bytes the first 60 deeds bear. -/
def bulk5 (l : List DeedD) : Nat := ((l.take 60).map (·.B.length)).sum
/-- More than is gone through. -/
def greatS (S : Int) (l : List DeedD) : Bool := decide (60 < l.length) || (decide (6000 < bulk5 l) || decide (60 < S))
theorem le_sum_mem : ∀ (L : List Nat) (x : Nat), x ∈ L → x ≤ L.sum
  | [], x, h => by cases h
  | y :: L, x, h => by
    rw [List.sum_cons]
    rcases List.mem_cons.1 h with rfl | h
    · omega
    · have := le_sum_mem L x h
      omega
theorem greatS_not {S : Int} {l : List DeedD} (h : greatS S l = false) : (l.length ≤ 60 ∧ ∀ p ∈ l, p.B.length ≤ 6000) ∧ S ≤ 60 := by
  simp only [greatS, Bool.or_eq_false_iff, decide_eq_false_iff_not] at h
  obtain ⟨h1, h2, h3⟩ := h
  have h1 : l.length ≤ 60 := by omega
  refine ⟨⟨h1, fun p hp => ?_⟩, by omega⟩
  rw [bulk5, List.take_of_length_le h1] at h2
  have hm : p.B.length ∈ l.map (·.B.length) := List.mem_map_of_mem hp
  have := le_sum_mem _ _ hm
  omega

set_option maxRecDepth 100000 in
set_option maxHeartbeats 1000000 in
theorem great_any5 {F : Nat → Prop} {v : Value} {l : List DeedD} (w : World) (L A D : Int) (h : DeedsIn F w v l) :
    Calls Tryz.prog 6 #[.agg #[.int .i64 L, .int .i64 A, .int .i64 D], v] w fun e w' => e = .returned (.bool (greatS (secsS L A D) l)) ∧ Fr (fun _ => False) w w' := by
  obtain ⟨W1, hW1⟩ : ∃ W, W = w.alloc (.cells #[.int .i64 L, .int .i64 A, .int .i64 D] 23) := ⟨_, rfl⟩
  have hf : Fr (fun _ => False) w W1 := by rw [hW1]; exact (Fr.refl _ _).alloc _
  have hrow : W1.heap[w.heap.size]? = some (.cells #[.int .i64 L, .int .i64 A, .int .i64 D] 23 (0, 0)) := by rw [hW1]; exact heap_alloc_new w _
  have h' : DeedsIn F W1 v l := h.keep hf (fun _ _ _ h => h)
  have HSE := Lib.hid (r5Sectors_any W1 L A D)
  have HW := Lib.hid (And.intro hW1 (And.intro hf hrow))
  obtain ⟨q0, q1, q2⟩ := row3_cells hrow
  obtain ⟨S, hS⟩ : ∃ S, S = secsS L A D := ⟨_, rfl⟩
  rw [← hS] at HSE ⊢
  obtain ⟨ao, cap, rfl, h1, h2, h3, h4⟩ := h'
  obtain ⟨n, hn⟩ : ∃ n, n = l.length := ⟨_, rfl⟩
  have hb : ∃ b off, (0 < n → ao = some ⟨b, off, none⟩) ∧ ∀ i (h : i < l.length), DeedAt F W1 b (off + i * 4) l[i] := by
    by_cases hl : l = []
    · subst hl
      exact ⟨0, 0, fun h => by simp at hn; omega, fun i h => by simp at h⟩
    · obtain ⟨b, off, ha, hi⟩ := h4 hl
      exact ⟨b, off, fun _ => ha, hi⟩
  obtain ⟨b, off, hao, hi⟩ := hb
  rw [← hn] at h1 h2 ⊢
  obtain ⟨T, hT⟩ : ∃ T, T = bulk5 l := ⟨_, rfl⟩
  have HG := Lib.hid (show greatS S l = (decide (60 < n) || (decide (6000 < T) || decide (60 < S))) by
    rw [hn, hT, greatS])
  rw [HG.out]
  have HI := Lib.hid hi
  have HN := Lib.hid (And.intro hn hT)
  have H3 := Lib.hid h3
  have HAO := Lib.hid hao
  clear hi hn h4 h3 hT hao h hW1 hf hrow hS
  have hns : n ≤ 2932031007317 := by omega
  go_enter Tryz.func6, Tryz.ntmps6
  go_wp2_with fail
  rw [← HW.out.1]
  go_loopw [5, 6] (fun s i wr => ∃ k t : Nat, k ≤ n ∧ k ≤ 60 ∧ i = .int .i64 k ∧ s = .int .i64 t ∧ Hid (t = ((l.take k).map (·.B.length)).sum) ∧ t ≤ k * 140737488351232 ∧ wr = W1) (fun _ i _ => n - (intOf i).toNat)
  case atStart => exact ⟨0, 0, by omega, by omega, rfl, rfl, Lib.hid (by simp), by omega, rfl⟩
  case round =>
    obtain ⟨k, t, hk, hk60, rfl, rfl, ht, htb, rfl⟩ := hrel
    by_cases hlt : k < n
    · by_cases hl60 : k < 60
      · have hil : k < l.length := by have := HN.out.1; omega
        have hp := HI.out k hil
        have hbl := H3.out l[k] (List.getElem_mem _)
        have hsum := sum_take_succ l k hil
        obtain ⟨ao', cap', hx, hl', hm', _⟩ := hp.bytes
        have hc := hp.cb
        rw [hx] at hc
        have HS := Lib.hid (show t + l[k].B.length = ((l.take (k + 1)).map (·.B.length)).sum by rw [hsum, ht.out])
        obtain ⟨q, hq⟩ : ∃ q, q = l[k].B.length := ⟨_, rfl⟩
        rw [← hq] at hc hbl HS hl'
        have hao2 := HAO.out (by omega)
        subst hao2
        have d1 : decide ((k : Int) < (n : Int)) = true := by rw [decide_eq_true_iff]; omega
        have d2 : decide ((k : Int) < 60) = true := by rw [decide_eq_true_iff]; omega
        have d3 : (k : Int) < (n : Int) := by omega
        have d4 : (0 : Int) ≤ (k : Int) := by omega
        have d5 : (k : Int) < 60 := by omega
        clear hp hsum hx hq q0 q1 q2
        go_wp2_with fail
        go_roundw
        case rel => exact ⟨k + 1, t + q, by omega, by omega, by go_num, by go_num, HS, by omega, by trivial⟩
        case measure => simp [intOf]; omega
      · have d1 : decide ((k : Int) < (n : Int)) = true := by rw [decide_eq_true_iff]; omega
        have d2 : decide ((k : Int) < 60) = false := by rw [decide_eq_false_iff_not]; omega
        have d2N : decide (k < 60) = false := by rw [decide_eq_false_iff_not]; omega
        have d3 : (k : Int) < (n : Int) := by omega
        have d4 : decide (60 < (n : Int)) = true := by rw [decide_eq_true_iff]; omega
        have d4N : decide (60 < n) = true := by rw [decide_eq_true_iff]; omega
        clear ht q0 q1 q2
        go_wp2_with fail
        go_ret
        exact ⟨by rw [d4N]; rfl, HW.out.2.1⟩
    · have d1 : decide ((k : Int) < (n : Int)) = false := by rw [decide_eq_false_iff_not]; omega
      have d1N : decide (k < n) = false := by rw [decide_eq_false_iff_not]; omega
      have htT : t = T := by
        rw [ht.out, HN.out.2]
        unfold bulk5
        have := HN.out.1
        rw [List.take_of_length_le (by omega), List.take_of_length_le (by omega)]
      subst htT
      have d4 : decide (60 < (n : Int)) = false := by rw [decide_eq_false_iff_not]; omega
      have d4N : decide (60 < n) = false := by rw [decide_eq_false_iff_not]; omega
      clear ht HG HN
      by_cases g2 : 6000 < t
      · have e1 : decide (6000 < (t : Int)) = true := by rw [decide_eq_true_iff]; omega
        have e1N : decide (6000 < t) = true := by rw [decide_eq_true_iff]; omega
        clear q0 q1 q2
        go_wp2_with fail
        go_ret
        exact ⟨by first | rfl | (rw [d4N, e1N]; rfl) | simp [d4N, e1N], HW.out.2.1⟩
      · have e1 : decide (6000 < (t : Int)) = false := by rw [decide_eq_false_iff_not]; omega
        have e1N : decide (6000 < t) = false := by rw [decide_eq_false_iff_not]; omega
        go_wp2_with (go_at_call 26; refine HSE.out.mono ?_; rintro e w3 ⟨rfl, hf3⟩)
        go_ret
        exact ⟨by first | rfl | (rw [d4N, e1N]; rfl) | simp [d4N, e1N], HW.out.2.1.trans hf3 (fun _ h => h.elim)⟩
end Go.Proofs.YtabgklcghghoiaaGreat

/- What LogRoom and LogKept need, plain; a journal that was made. -/
namespace Go.Proofs.YtabgklcghghoiaaGreat
open Go.RowKit Go.ChangeShapes
set_option linter.unusedVariables false

theorem recB_small (X : List UInt8) (h : X.length ≤ 6000) : (recB X).length = if 128 ≤ X.length then X.length + 2 else X.length + 1 := by
  unfold recB
  rw [List.length_append]
  by_cases h1 : 128 ≤ X.length
  · rw [if_pos h1]
    have : (numBytes 5 X.length).length = 2 := by
      rw [numBytes, if_neg (by omega), numBytes, if_pos (by omega)]
      rfl
    omega
  · rw [if_neg h1]
    have : (numBytes 5 X.length).length = 1 := by
      rw [numBytes, if_pos (by omega)]
      rfl
    omega
theorem secsAt_le {K : List UInt8} {s o : Nat} {X : List UInt8} (ho : o + X.length ≤ 64 * s) : (secsAt K o X).length ≤ s := by
  have hm := manySecs_le s o X.length ho
  have : (secsAt K o X).length = manySecs o X.length := by unfold secsAt; rw [secsOf_length]
  rw [this]
  rcases hm with hm | hm
  · omega
  · rw [manySecs, if_pos hm]; omega
/-- A commit on a device that is up, with no fuse, is done. -/
theorem commit_quiet {dv : Dv} {l la s : Nat} {h h' : Hd} {B B' : List UInt8} {R R' : List (List UInt8)} (k : Kp dv.all l la s h B R) (o : Nat) (X : List UInt8) (ho : o + X.length ≤ 64 * s)
    (hout : ∀ j, (j < 64 + h.used ∨ (areaAt l la h.area ≤ j ∧ j < areaAt l la h.area + h.size)) → ¬ (o ≤ j ∧ j < o + X.length))
    (hnew : Kp (putSec (over4 dv.all o X) 0 h'.sec) l la s h' B' R') (hd : dv.down = false) (hw : dv.waits = []) (hl : dv.left = 0) (hs : s ≤ 60) :
    (dv.commit s (secsAt dv.all o X) h'.sec).1 = 0 ∧ Kp (dv.commit s (secsAt dv.all o X) h'.sec).2.all l la s h' B' R' ∧ (dv.commit s (secsAt dv.all o X) h'.sec).2.down = false ∧ (dv.commit s (secsAt dv.all o X) h'.sec).2.waits = [] ∧ (dv.commit s (secsAt dv.all o X) h'.sec).2.left = 0 ∧ (dv.commit s (secsAt dv.all o X) h'.sec).2.deeds ≤ dv.deeds + 70 := by
  have hs1 : 1 ≤ s := by have := k.shape.1; omega
  have hr := k.redo o X ho hout hnew hd hw
  have hle := secsAt_le (K := dv.all) ho
  rcases dv.commit_cases s hs1 _ h'.sec hd hw (secsAt_right k.len ho) h'.sec_length with ⟨a1, _, a3, a4, a5, a6⟩ | ⟨b0, _⟩
  · exact ⟨a1, hr.1 a1, a4, a3, a6 hl, by omega⟩
  · exact absurd hl b0
/-- The state of a journal, plain, after i deeds. -/
structure LgOk (dv : Dv) (l la s : Nat) (h : Hd) (B : List UInt8) (R : List (List UInt8)) (i : Nat) : Prop where
  up : dv.down = false
  waits : dv.waits = []
  left : dv.left = 0
  kp : Kp dv.all l la s h B R
  deeds : dv.deeds ≤ 2 + 70 * i
  round : h.round ≤ 1 + i
theorem LgOk.new (l la d s : Nat) (hok : ShOk l la d s) : ∃ dv1, (Dv.new s).tell s (Hd.sec ⟨0, 0, 0, 1⟩) = (0, dv1) ∧ LgOk dv1 l la s ⟨0, 0, 0, 1⟩ [] [] 0 := by
  refine ⟨_, Dv.tell_new (Dv.new s) s _ rfl rfl rfl (by have := hok.sum; omega) (Hd.sec_length _), rfl, rfl, rfl, Kp.formatted (by simp [Dv.new]) ⟨by have := hok.sum; omega, hok.most⟩, by simp [Dv.new], by simp⟩
theorem LgOk.next {dv : Dv} {l la s : Nat} {h : Hd} {B : List UInt8} {R : List (List UInt8)} {i : Nat} (H : LgOk dv l la s h B R i) : LgOk dv l la s h B R (i + 1) :=
  ⟨H.up, H.waits, H.left, H.kp, by have := H.deeds; omega, by have := H.round; omega⟩
theorem LgOk.append {dv : Dv} {l la s : Nat} {h : Hd} {B : List UInt8} {R : List (List UInt8)} {i : Nat} (H : LgOk dv l la s h B R i) (hs : s ≤ 60) (hi : i ≤ 60) (X : List UInt8) (hX : h.used + (recB X).length ≤ 64 * l) :
    (dv.commit s (secsAt dv.all (64 + h.used) (recB X)) (Hd.sec ⟨h.area, h.size, h.used + (recB X).length, h.round + 1⟩)).1 = 0 ∧ LgOk (dv.commit s (secsAt dv.all (64 + h.used) (recB X)) (Hd.sec ⟨h.area, h.size, h.used + (recB X).length, h.round + 1⟩)).2 l la s ⟨h.area, h.size, h.used + (recB X).length, h.round + 1⟩ B (R ++ [X]) (i + 1) := by
  have hsh := H.kp.shape.1
  have hr := H.round
  obtain ⟨a1, a2, a3, a4, a5, a6⟩ := commit_quiet H.kp (64 + h.used) (recB X) (by omega) (H.kp.append_out _ hX) (H.kp.append X hX (by omega)) H.up H.waits H.left hs
  exact ⟨a1, a3, a4, a5, a2, by have := H.deeds; omega, by simp only; omega⟩
theorem LgOk.switch {dv : Dv} {l la s : Nat} {h : Hd} {B : List UInt8} {R : List (List UInt8)} {i : Nat} (H : LgOk dv l la s h B R i) (hs : s ≤ 60) (hi : i ≤ 60) (X : List UInt8) (hX : X.length ≤ 64 * la) :
    (dv.commit s (secsAt dv.all (areaAt l la (1 - h.area)) X) (Hd.sec ⟨1 - h.area, X.length, 0, h.round + 1⟩)).1 = 0 ∧ LgOk (dv.commit s (secsAt dv.all (areaAt l la (1 - h.area)) X) (Hd.sec ⟨1 - h.area, X.length, 0, h.round + 1⟩)).2 l la s ⟨1 - h.area, X.length, 0, h.round + 1⟩ X [] (i + 1) := by
  have hr := H.round
  obtain ⟨a1, a2, a3, a4, a5, a6⟩ := commit_quiet H.kp (areaAt l la (1 - h.area)) X (area_in H.kp.shape.1 (by omega) hX) (H.kp.switch_out _ hX) (H.kp.switch X hX (by omega)) H.up H.waits H.left hs
  exact ⟨a1, a3, a4, a5, a2, by have := H.deeds; omega, by simp only; omega⟩
theorem gMade {w0 w : World} {g s l la d : Nat} {dv : Dv} {h' : Hd} {B : List UInt8} {R : List (List UInt8)} (hd : DevAt w (fun k => w0.heap.size ≤ k) g s dv) (hfr : Fr (fun _ => False) w0 w) (hok : ShOk l la d s) (hup : dv.down = false) (hw : dv.waits = []) (k : Kp dv.all l la s h' B R) :
    Calls Tryz.prog 11 #[.pointer (some ⟨g, 0, none⟩), .agg #[.int .i64 l, .int .i64 la, .int .i64 d]] w fun e w' => ∃ jm, e = .returned (.tuple #[.pointer (some ⟨jm, 0, none⟩), .int .i64 0]) ∧ LgAt w0 w' jm g s l la d h' false dv (fun _ => False) ∧ Fr (fun _ => False) w w' := by
  refine (lOpen_any w g l la d s dv h' B R hok hd hup hw k).mono ?_
  rintro e w' ⟨jm, rfl, hz, hj, hf⟩
  have h1 := hfr.size
  have h2 := hf.size
  exact ⟨jm, rfl, ⟨hj, ⟨fun k => w0.heap.size ≤ k ∧ k < w.heap.size, (hd.mono (fun k hk h => ⟨h, hk⟩)).keep hf (fun _ _ _ h => h), fun k hk => ⟨hk.1, by omega, by omega, id⟩⟩, ⟨by omega, id⟩, fun k h => h.elim, hfr.trans hf (fun _ h => h.elim)⟩, hf⟩
section
variable {w0 w w' : World} {jn g s l la d : Nat} {h : Hd} {dn : Bool} {dv : Dv} {X : Nat → Prop}
theorem gRoom (H : LgAt w0 w jn g s l la d h false dv X) (hok : ShOk l la d s) (hu : h.used ≤ 64 * l) :
    Calls Tryz.prog 17 #[.pointer (some ⟨jn, 0, none⟩)] w fun e w' => e = .returned (.int .i64 ((64 * l - h.used : Nat) : Int)) ∧ Fr (fun _ => False) w w' := jRoom_any w jn g h l la d hok.l8 hu H.jrn
theorem gRound (H : LgAt w0 w jn g s l la d h false dv X) :
    Calls Tryz.prog 18 #[.pointer (some ⟨jn, 0, none⟩)] w fun e w' => e = .returned (.int .i64 h.round) ∧ Fr (fun _ => False) w w' := jRound_any w jn g h l la d H.jrn
theorem gKept (H : LgAt w0 w jn g s l la d h dn dv X) :
    Calls Tryz.prog 19 #[.pointer (some ⟨g, 0, none⟩)] w fun e w' => ∃ v, e = .returned v ∧ OwnB (fun k => w.heap.size ≤ k) w' v dv.all ∧ Fr (fun _ => False) w w' := by
  obtain ⟨D, h1, h2⟩ := H.dev
  exact aKept w g s dv h1
end
end Go.Proofs.YtabgklcghghoiaaGreat

