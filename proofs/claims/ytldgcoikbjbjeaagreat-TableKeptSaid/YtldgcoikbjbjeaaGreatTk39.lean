/- Laid together: OpenArr TDeeds TGreat TRLaw TKSt -/
import Derived.Test.YtldgcoikbjbjeaaGreatTk0
import Derived.ProofKit
import Derived.OpenShut
import Derived.SizedLaws
import Derived.Deep.Slices
import Derived.Carry
import Derived.Test.YtldgcoikbjbjeaaGreatTk11
import Derived.Deep.Fields
import Derived.Test.YtldgcoikbjbjeaaGreatTk30
import Derived.Deep.QuietTactic
import Derived.BigQuiet
import Derived.Test.YtldgcoikbjbjeaaGreatTk35
import Derived.Test.YtldgcoikbjbjeaaGreatTk16
import Derived.Test.YtldgcoikbjbjeaaGreatTk36
import Derived.Test.YtldgcoikbjbjeaaGreatTk38

namespace Go.Proofs.YtldgcoikbjbjeaaGreat
open Go.RowKit Go.ChangeShapes Go.WideShapes Go.Deep
set_option linter.unusedVariables false
theorem u8_of_wf {n : Int} (h : (Lit.int .u8 n).wf = true) : ((UInt8.ofNat n.toNat).toNat : Int) = n := by
  obtain ⟨h0, h1⟩ := bounds_u8 h
  rw [UInt8.toNat_ofNat']
  omega
theorem Tryz.cellsB : Tryz.prog.cellsOf 5 = 1 := by kernel_rfl
theorem Tryz.bytesB : Tryz.prog.bytesOf 5 = 1 := by kernel_rfl
section
variable {H : Type} {enc : TypeId × Value → H} {w : World} {base fuel : Nat} {held : Bool} {cs : List Value} {x : DataW H × List MemPlace}
theorem open_bytes (h : DataW.trod enc Tryz.prog w base (fun _ => true) held fuel 43 cs = some x) (hz : ∀ n ∈ x.1.weights Tryz.prog 43, n ≤ reachBytes) :
    ∃ v L, cs = [v] ∧ BytesIn (fun k => k < w.heap.size) w v L ∧ L.length ≤ 140737488351232 := by
  rcases open_ints Tryz.underlying43 Tryz.underlying5 Tryz.cellsB h with ⟨rfl, _⟩ | ⟨a, len, cap, zs, rfl, _, hl, hm, hzl, hx, hc, hwf⟩
  · exact ⟨_, [], rfl, BytesIn.nil _ _, by simp⟩
  · simp only [if_true] at hzl
    have hlen : ((zs.take len).map fun z => UInt8.ofNat z.toNat).length = len := by rw [List.length_map, List.length_take]; omega
    refine ⟨_, (zs.take len).map fun z => UInt8.ofNat z.toNat, rfl, ⟨some a, cap, by rw [hlen], by rw [hlen]; exact hl, hm, (fun h => by cases h), ?_⟩, ?_⟩
    · intro a' ha
      cases ha
      refine ⟨fun j u hu => ?_, fun hL => ?_⟩
      · have hj : j < len := by have := (List.getElem?_eq_some_iff.1 hu).1; rw [List.length_map, hlen] at this; exact this
        have hjz : j < zs.length := by omega
        rw [hc j hjz]
        have hmem := hwf (zs[j]) (List.getElem_mem _)
        rw [List.getElem?_map, List.getElem?_map, List.getElem?_take, if_pos hj, List.getElem?_eq_getElem hjz] at hu
        simp only [Option.map_some, Option.some.injEq] at hu
        rw [← hu, bv, u8_of_wf hmem]
        simp [List.getD, List.getElem?_eq_getElem hjz]
      · have hp : 0 < len := by have := List.length_pos_iff.2 hL; omega
        have := World.block_lt_of_cell? _ _ (hc 0 (by omega))
        rwa [add_block] at this
    · rw [hlen]
      have := hz ((zs.take len).length + (zs.drop len).length) (by rw [hx]; simp [DataW.weights, Tryz.underlying43, Tryz.bytesB, lits])
      rw [List.length_take, List.length_drop] at this
      simp only [reachBytes] at this
      omega
theorem mem_weightsAll {P : Program} {e : TypeId} : ∀ {ds : List (DataW H)} {d : DataW H}, d ∈ ds → ∀ n ∈ d.weights P e, n ∈ DataW.weightsAll P e ds
  | d0 :: ds, d, hd, n, hn => by
    simp only [DataW.weightsAll, List.mem_append]
    rcases List.mem_cons.1 hd with rfl | hd
    · exact .inl hn
    · exact .inr (mem_weightsAll hd n hn)
end
end Go.Proofs.YtldgcoikbjbjeaaGreat
namespace Go.Proofs.YtldgcoikbjbjeaaGreat
open Go.RowKit Go.ChangeShapes Go.WideShapes Go.Deep
set_option linter.unusedVariables false
def IntOk (n : Int) : Prop := -9223372036854775808 ≤ n ∧ n ≤ 9223372036854775807
def ChgsFit (l : List ChgD) : Prop := l.length ≤ 140737488351232 ∧ ∀ p ∈ l, p.key.size ≤ 140737488355328 ∧ p.B.length ≤ 140737488351232
structure DeedD where
  what : Int
  n : Int
  bit : Int
  xl : Value
  L : List ChgD
  key : ByteArray
  xr : Value
  R : List UInt8
structure DeedAt (F : Nat → Prop) (w : World) (b o : Nat) (p : DeedD) : Prop where
  what : w.cell? ⟨b, o, none⟩ = some (.int .i64 p.what)
  n : w.cell? ⟨b, o + 1, none⟩ = some (.int .i64 p.n)
  bit : w.cell? ⟨b, o + 2, none⟩ = some (.int .i64 p.bit)
  cl : w.cell? ⟨b, o + 3, none⟩ = some p.xl
  ck : w.cell? ⟨b, o + 4, none⟩ = some (.string p.key)
  cr : w.cell? ⟨b, o + 5, none⟩ = some p.xr
  chgs : ChgsIn F w p.xl p.L
  bytes : BytesIn F w p.xr p.R
  in_ : F b
  wf : IntOk p.what ∧ IntOk p.n ∧ IntOk p.bit
  fit : ChgsFit p.L ∧ p.key.size ≤ 140737488355328 ∧ p.R.length ≤ 140737488351232
theorem DeedAt.keep {F S : Nat → Prop} {w w' : World} {b o : Nat} {p : DeedD} (h : DeedAt F w b o p) (hf : Fr S w w') (hd : ∀ k, k < w.heap.size → F k → ¬ S k) : DeedAt F w' b o p := by
  have hb : ¬ S b := hd b (World.block_lt_of_cell? _ _ h.what) h.in_
  exact ⟨hf.cell h.what hb, hf.cell h.n hb, hf.cell h.bit hb, hf.cell h.cl hb, hf.cell h.ck hb, hf.cell h.cr hb, h.chgs.keep hf hd, h.bytes.keep hf hd, h.in_, h.wf, h.fit⟩
def DeedsIn (F : Nat → Prop) (w : World) (v : Value) (l : List DeedD) : Prop :=
  ∃ ao cap, v = .slice ao l.length cap ∧ l.length ≤ cap ∧ l.length ≤ 140737488351232 ∧
    (l ≠ [] → ∃ b off, ao = some ⟨b, off, none⟩ ∧ ∀ i (h : i < l.length), DeedAt F w b (off + i * 6) l[i])
theorem DeedsIn.keep {F S : Nat → Prop} {w w' : World} {v : Value} {l : List DeedD} (h : DeedsIn F w v l) (hf : Fr S w w') (hd : ∀ k, k < w.heap.size → F k → ¬ S k) : DeedsIn F w' v l := by
  obtain ⟨ao, cap, hv, h1, h2, h4⟩ := h
  refine ⟨ao, cap, hv, h1, h2, fun hl => ?_⟩
  obtain ⟨b, off, ha, hi⟩ := h4 hl
  exact ⟨b, off, ha, fun i h => (hi i h).keep hf hd⟩
section
variable {H : Type} {enc : TypeId × Value → H} {w : World} {base fuel : Nat} {held : Bool} {cs : List Value} {x : DataW H × List MemPlace}
theorem list3c {α : Type} {l : List α} (h : l.length = 3) : ∃ a b c, l = [a, b, c] := by
  match l, h with
  | [a, b, c], _ => exact ⟨a, b, c, rfl⟩
theorem list6c {α : Type} {l : List α} (h : l.length = 6) : ∃ a b c d e f, l = [a, b, c, d, e, f] := by
  match l, h with
  | [a, b, c, d, e, f], _ => exact ⟨a, b, c, d, e, f, rfl⟩
theorem Tryz.bytesCh : Tryz.prog.bytesOf 53 = 48 := by kernel_rfl
theorem Tryz.cellsCh : Tryz.prog.cellsOf 53 = 3 := by kernel_rfl
theorem Tryz.bytesDe : 1 ≤ Tryz.prog.bytesOf 45 := by decide +kernel
theorem Tryz.cellsDe : Tryz.prog.cellsOf 45 = 6 := by kernel_rfl
theorem Tryz.cellsI : Tryz.prog.cellsOf 3 = 1 := by kernel_rfl
theorem Tryz.cellsS : Tryz.prog.cellsOf 43 = 1 := by kernel_rfl
theorem Tryz.cellsStr : Tryz.prog.cellsOf 9 = 1 := by kernel_rfl
theorem Tryz.cellsBo : Tryz.prog.cellsOf 4 = 1 := by kernel_rfl
theorem Tryz.cellsCs : Tryz.prog.cellsOf 42 = 1 := by kernel_rfl
theorem open_chg {n : Nat} {y : DataW H × List MemPlace} (h : DataW.trod enc Tryz.prog w base (fun _ => true) held n 53 cs = some y)
    (hz : ∀ n ∈ y.1.weights Tryz.prog 53, n ≤ reachBytes) :
    ∃ p : ChgD, cs = chgC p ∧ BytesIn (fun k => k < w.heap.size) w p.x p.B ∧ p.key.size ≤ 140737488355328 ∧ p.B.length ≤ 140737488351232 := by
  obtain ⟨xs, m, _, hy, hcl, hxl, hf⟩ := DataW.trod_struct Tryz.underlying53 h
  rw [Tryz.cellsCh] at hcl
  obtain ⟨c0, c1, c2, rfl⟩ := list3c hcl
  obtain ⟨y0, y1, y2, rfl⟩ := list3c (l := xs) hxl
  have e0 : DataW.trod enc Tryz.prog w base (fun _ => true) held m 9 [c0] = some y0 := by
    have h : DataW.trod enc Tryz.prog w base (fun _ => true) held m 9 (([c0, c1, c2].drop 0).take (Tryz.prog.cellsOf 9)) = some y0 := hf 0 _ rfl
    rw [Tryz.cellsStr] at h
    exact h
  have e1 : DataW.trod enc Tryz.prog w base (fun _ => true) held m 43 [c1] = some y1 := by
    have h : DataW.trod enc Tryz.prog w base (fun _ => true) held m 43 (([c0, c1, c2].drop 1).take (Tryz.prog.cellsOf 43)) = some y1 := hf 1 _ rfl
    rw [Tryz.cellsS] at h
    exact h
  have e2 : DataW.trod enc Tryz.prog w base (fun _ => true) held m 4 [c2] = some y2 := by
    have h : DataW.trod enc Tryz.prog w base (fun _ => true) held m 4 (([c0, c1, c2].drop 2).take (Tryz.prog.cellsOf 4)) = some y2 := hf 2 _ rfl
    rw [Tryz.cellsBo] at h
    exact h
  obtain ⟨N, r0, v0, w0⟩ := DataW.trod_string Tryz.underlying9 e0
  have hN : N.data.toList.length ≤ reachBytes := hz _ (by rw [hy]; simp only [DataW.weights, Tryz.underlying53]; exact DataW.weights_mem_each (j := 0) (t := 9) (d := y0.1) rfl rfl _ (by rw [v0]; simp [DataW.weights]))
  rw [size_list] at hN
  obtain ⟨g, r2, _⟩ := DataW.trod_bool Tryz.underlying4 e2
  obtain ⟨v, L, r1, hB, hL⟩ := open_bytes e1 (fun k hk => hz k (by rw [hy]; simp only [DataW.weights, Tryz.underlying53]; exact DataW.weights_mem_each (j := 1) (t := 43) (d := y1.1) rfl rfl k hk))
  simp only [List.cons.injEq, and_true] at r0 r1 r2
  subst r0 r1 r2
  exact ⟨⟨N, _, L, g⟩, rfl, hB, by unfold reachBytes at hN; show N.size ≤ _; omega, hL⟩
theorem open_chgs (h : DataW.trod enc Tryz.prog w base (fun _ => true) held fuel 42 cs = some x) (hz : ∀ n ∈ x.1.weights Tryz.prog 42, n ≤ reachBytes) :
    ∃ v l, cs = [v] ∧ ChgsIn (fun k => k < w.heap.size) w v l ∧ ChgsFit l := by
  rcases open_slice Tryz.underlying42 h with ⟨rfl, _⟩ | ⟨a, len, cap, m, n, D, Pl, rfl, _, hl, hm, hmm, hx, hi⟩
  · exact ⟨_, [], rfl, ChgsIn.nil _ _, by simp, by simp⟩
  · simp only [if_true] at hmm
    subst hmm
    rw [Tryz.cellsCh] at hi
    have hw : ∀ k ∈ DataW.weightsAll Tryz.prog 53 ((List.range len).map D), k ≤ reachBytes := fun k hk => hz k (by
      rw [hx]; simp only [DataW.weights, Tryz.underlying42, List.mem_cons, List.mem_append]; exact .inr (.inl hk))
    have hm2 : m * 48 ≤ 140737488351232 := by
      have := hz ((len + (m - len)) * 48) (by rw [hx]; simp [DataW.weights, Tryz.underlying42, Tryz.bytesCh])
      simp only [reachBytes] at this
      omega
    unfold maxLen at hm
    by_cases h0 : len = 0
    · subst h0
      exact ⟨_, [], rfl, ⟨⟨some a, m, rfl, Nat.zero_le _, by omega, (fun _ h => by cases h), fun h => absurd rfl h⟩, fun _ h => by cases h⟩, by simp, by simp⟩
    · obtain ⟨b, off, spot⟩ := a
      have hs : spot = none := by
        obtain ⟨cs', hc, ht⟩ := hi 0 (by omega)
        obtain ⟨_, hcl, hat⟩ := World.cells?_some hc
        have := hat 0 (by decide)
        obtain ⟨c0, c1, c2, rfl⟩ := list3c hcl
        simpa [Addr.add] using World.cell?_spot this
      subst hs
      have hone : ∀ i, ∃ p : ChgD, i < len → (b < w.heap.size ∧ ∀ j, j < 3 → w.cell? ⟨b, off + i * 3 + j, none⟩ = (chgC p)[j]?) ∧ BytesIn (fun k => k < w.heap.size) w p.x p.B ∧ p.key.size ≤ 140737488355328 ∧ p.B.length ≤ 140737488351232 := by
        intro i
        by_cases hil : i < len
        · obtain ⟨cs', hc, ht⟩ := hi i (by omega)
          obtain ⟨_, hcl, hat⟩ := World.cells?_some hc
          have hat' : ∀ j, j < 3 → w.cell? ⟨b, off + i * 3 + j, none⟩ = cs'[j]? := fun j hj => by
            have := hat j hj
            rwa [addr_plain, addr_plain] at this
          have hb : b < w.heap.size := by
            have := hat' 0 (by decide)
            rw [List.getElem?_eq_getElem (by omega)] at this
            exact World.block_lt_of_cell? _ _ this
          obtain ⟨p, rfl, hp⟩ := open_chg ht (fun k hk => hw k (mem_weightsAll (List.mem_map_of_mem (List.mem_range.2 hil)) k hk))
          exact ⟨p, fun _ => ⟨⟨hb, hat'⟩, hp⟩⟩
        · exact ⟨⟨⟨#[]⟩, .nilFunc, [], false⟩, fun h => absurd h hil⟩
      obtain ⟨f, hf⟩ := Classical.axiomOfChoice hone
      have hlen : ((List.range len).map f).length = len := by simp
      refine ⟨_, (List.range len).map f, rfl, ⟨⟨some ⟨b, off, none⟩, m, by rw [List.length_map, hlen], by rw [List.length_map, hlen]; exact hl, by omega, ?_, fun _ => ⟨b, off, rfl, (hf 0 (by omega)).1.1, fun i hi j hj => ?_⟩⟩, ?_⟩, by rw [hlen]; omega, ?_⟩
      · intro c hc
        obtain ⟨p, _, rfl⟩ := List.mem_map.1 hc
        rfl
      · rw [List.length_map, hlen] at hi
        rw [(hf i hi).1.2 j hj]
        simp
      · intro p hp
        obtain ⟨i, hi, rfl⟩ := List.mem_map.1 hp
        exact (hf i (List.mem_range.1 hi)).2.1
      · intro p hp
        obtain ⟨i, hi, rfl⟩ := List.mem_map.1 hp
        exact (hf i (List.mem_range.1 hi)).2.2
theorem open_deed {n : Nat} {y : DataW H × List MemPlace} {b o : Nat} (hF : b < w.heap.size) (hc : ∀ i, i < 6 → w.cell? ⟨b, o + i, none⟩ = cs[i]?) (h : DataW.trod enc Tryz.prog w base (fun _ => true) held n 45 cs = some y)
    (hz : ∀ n ∈ y.1.weights Tryz.prog 45, n ≤ reachBytes) :
    ∃ p : DeedD, DeedAt (fun k => k < w.heap.size) w b o p := by
  obtain ⟨xs, m, _, hy, hcl, hxl, hf⟩ := DataW.trod_struct Tryz.underlying45 h
  rw [Tryz.cellsDe] at hcl
  obtain ⟨c0, c1, c2, c3, c4, c5, rfl⟩ := list6c hcl
  obtain ⟨y0, y1, y2, y3, y4, y5, rfl⟩ := list6c (l := xs) hxl
  have e0 : DataW.trod enc Tryz.prog w base (fun _ => true) held m 3 [c0] = some y0 := by
    have h : DataW.trod enc Tryz.prog w base (fun _ => true) held m 3 (([c0, c1, c2, c3, c4, c5].drop 0).take (Tryz.prog.cellsOf 3)) = some y0 := hf 0 _ rfl
    rw [Tryz.cellsI] at h
    exact h
  have e1 : DataW.trod enc Tryz.prog w base (fun _ => true) held m 3 [c1] = some y1 := by
    have h : DataW.trod enc Tryz.prog w base (fun _ => true) held m 3 (([c0, c1, c2, c3, c4, c5].drop 1).take (Tryz.prog.cellsOf 3)) = some y1 := hf 1 _ rfl
    rw [Tryz.cellsI] at h
    exact h
  have e2 : DataW.trod enc Tryz.prog w base (fun _ => true) held m 3 [c2] = some y2 := by
    have h : DataW.trod enc Tryz.prog w base (fun _ => true) held m 3 (([c0, c1, c2, c3, c4, c5].drop 2).take (Tryz.prog.cellsOf 3)) = some y2 := hf 2 _ rfl
    rw [Tryz.cellsI] at h
    exact h
  have e3 : DataW.trod enc Tryz.prog w base (fun _ => true) held m 42 [c3] = some y3 := by
    have h : DataW.trod enc Tryz.prog w base (fun _ => true) held m 42 (([c0, c1, c2, c3, c4, c5].drop 3).take (Tryz.prog.cellsOf 42)) = some y3 := hf 3 _ rfl
    rw [Tryz.cellsCs] at h
    exact h
  have e4 : DataW.trod enc Tryz.prog w base (fun _ => true) held m 9 [c4] = some y4 := by
    have h : DataW.trod enc Tryz.prog w base (fun _ => true) held m 9 (([c0, c1, c2, c3, c4, c5].drop 4).take (Tryz.prog.cellsOf 9)) = some y4 := hf 4 _ rfl
    rw [Tryz.cellsStr] at h
    exact h
  have e5 : DataW.trod enc Tryz.prog w base (fun _ => true) held m 43 [c5] = some y5 := by
    have h : DataW.trod enc Tryz.prog w base (fun _ => true) held m 43 (([c0, c1, c2, c3, c4, c5].drop 5).take (Tryz.prog.cellsOf 43)) = some y5 := hf 5 _ rfl
    rw [Tryz.cellsS] at h
    exact h
  have hwt : ∀ (j : Nat) (t : TypeId) (d : DataW H), (Tryz.prog.underlying 45 = Tryz.prog.underlying 45) → ([3, 3, 3, 42, 9, 43] : List TypeId)[j]? = some t → ([y0.1, y1.1, y2.1, y3.1, y4.1, y5.1] : List (DataW H))[j]? = some d → ∀ k ∈ d.weights Tryz.prog t, k ≤ reachBytes := fun j t d _ ht hd k hk => hz k (by
    rw [hy]; simp only [DataW.weights, Tryz.underlying45]; exact DataW.weights_mem_each (j := j) (t := t) (d := d) ht hd k hk)
  obtain ⟨n0, r0, _, w0⟩ := DataW.trod_int Tryz.underlying3 e0
  obtain ⟨n1, r1, _, w1⟩ := DataW.trod_int Tryz.underlying3 e1
  obtain ⟨n2, r2, _, w2⟩ := DataW.trod_int Tryz.underlying3 e2
  obtain ⟨N, r4, v4, _⟩ := DataW.trod_string Tryz.underlying9 e4
  have hN : N.data.toList.length ≤ reachBytes := hwt 4 9 y4.1 rfl rfl rfl _ (by rw [v4]; simp [DataW.weights])
  rw [size_list] at hN
  obtain ⟨vl, L, r3, hL, hLf⟩ := open_chgs e3 (hwt 3 _ y3.1 rfl rfl rfl)
  obtain ⟨vr, R, r5, hR, hRl⟩ := open_bytes e5 (hwt 5 _ y5.1 rfl rfl rfl)
  simp only [List.cons.injEq, and_true] at r0 r1 r2 r3 r4 r5
  subst r0 r1 r2 r3 r4 r5
  exact ⟨⟨n0, n1, n2, _, L, N, _, R⟩, ⟨hc 0 (by decide), hc 1 (by decide), hc 2 (by decide), hc 3 (by decide), hc 4 (by decide), hc 5 (by decide), hL, hR, hF, ⟨bounds_i64 w0, bounds_i64 w1, bounds_i64 w2⟩, hLf, by unfold reachBytes at hN; show N.size ≤ _; omega, hRl⟩⟩
theorem open_deeds (h : DataW.trod enc Tryz.prog w base (fun _ => true) held fuel 24 cs = some x) (hz : ∀ n ∈ x.1.weights Tryz.prog 24, n ≤ reachBytes) :
    ∃ v l, cs = [v] ∧ DeedsIn (fun k => k < w.heap.size) w v l := by
  rcases open_slice Tryz.underlying24 h with ⟨rfl, _⟩ | ⟨a, len, cap, m, n, D, Pl, rfl, _, hl, hm, hmm, hx, hi⟩
  · exact ⟨_, [], rfl, none, 0, rfl, Nat.le_refl _, by simp, fun h => absurd rfl h⟩
  · simp only [if_true] at hmm
    subst hmm
    rw [Tryz.cellsDe] at hi
    have hw : ∀ k ∈ DataW.weightsAll Tryz.prog 45 ((List.range len).map D), k ≤ reachBytes := fun k hk => hz k (by
      rw [hx]; simp only [DataW.weights, Tryz.underlying24, List.mem_cons, List.mem_append]; exact .inr (.inl hk))
    have hm2 : m ≤ 140737488351232 := by
      have := hz ((len + (m - len)) * Tryz.prog.bytesOf 45) (by rw [hx]; simp [DataW.weights, Tryz.underlying24])
      have h1 := Tryz.bytesDe
      have h2 : (len + (m - len)) * 1 ≤ (len + (m - len)) * Tryz.prog.bytesOf 45 := Nat.mul_le_mul_left _ h1
      simp only [reachBytes] at this
      omega
    by_cases h0 : len = 0
    · subst h0
      exact ⟨_, [], rfl, some a, m, rfl, Nat.zero_le _, by simp, fun h => absurd rfl h⟩
    · obtain ⟨b, off, spot⟩ := a
      have hs : spot = none := by
        obtain ⟨cs', hc, ht⟩ := hi 0 (by omega)
        obtain ⟨_, hcl, hat⟩ := World.cells?_some hc
        have := hat 0 (by decide)
        obtain ⟨c0, c1, c2, c3, c4, c5, rfl⟩ := list6c hcl
        simpa [Addr.add] using World.cell?_spot this
      subst hs
      have hone : ∀ i, ∃ p : DeedD, i < len → DeedAt (fun k => k < w.heap.size) w b (off + i * 6) p := by
        intro i
        by_cases hil : i < len
        · obtain ⟨cs', hc, ht⟩ := hi i (by omega)
          obtain ⟨_, hcl, hat⟩ := World.cells?_some hc
          have hat' : ∀ j, j < 6 → w.cell? ⟨b, off + i * 6 + j, none⟩ = cs'[j]? := fun j hj => by
            have := hat j hj
            rwa [addr_plain, addr_plain] at this
          have hb : b < w.heap.size := by
            have := hat' 0 (by decide)
            rw [List.getElem?_eq_getElem (by omega)] at this
            exact World.block_lt_of_cell? _ _ this
          obtain ⟨p, hp⟩ := open_deed hb hat' ht (fun k hk => hw k (mem_weightsAll (List.mem_map_of_mem (List.mem_range.2 hil)) k hk))
          exact ⟨p, fun _ => hp⟩
        · exact ⟨⟨0, 0, 0, .nilFunc, [], ⟨#[]⟩, .nilFunc, []⟩, fun h => absurd h hil⟩
      obtain ⟨f, hf⟩ := Classical.axiomOfChoice hone
      have hlen : ((List.range len).map f).length = len := by simp
      refine ⟨_, (List.range len).map f, rfl, some ⟨b, off, none⟩, m, by rw [hlen], by rw [hlen]; exact hl, by rw [hlen]; omega, fun _ => ⟨b, off, rfl, fun i hi => ?_⟩⟩
      have : i < len := by omega
      simpa using hf i this
end
end Go.Proofs.YtldgcoikbjbjeaaGreat
namespace Go.Proofs.YtldgcoikbjbjeaaGreat
open Go.RowKit Go.ChangeShapes
set_option linter.unusedVariables false
def GreatPost (S : Int) (l : List DeedD) (w : World) (e : Ending) (w' : World) : Prop :=
  ∃ b, e = .returned (.bool b) ∧ (b = false → S ≤ 80 ∧ l.length ≤ 40 ∧ ∀ p ∈ l, p.L.length ≤ 1000) ∧ Fr (fun _ => False) w w'
set_option maxRecDepth 100000 in
set_option maxHeartbeats 4000000 in
theorem great_any6 {F : Nat → Prop} {v : Value} {l : List DeedD} (w : World) (L A D : Int) (h : DeedsIn F w v l) :
    Calls Tryz.prog 6 #[.agg #[.int .i64 L, .int .i64 A, .int .i64 D], v] w (GreatPost (secsS L A D) l w) := by
  obtain ⟨W1, hW1⟩ : ∃ W, W = w.alloc (.cells #[.int .i64 L, .int .i64 A, .int .i64 D] 23) := ⟨_, rfl⟩
  have hf : Fr (fun _ => False) w W1 := by rw [hW1]; exact (Fr.refl _ _).alloc _
  have hrow : W1.heap[w.heap.size]? = some (.cells #[.int .i64 L, .int .i64 A, .int .i64 D] 23 (0, 0)) := by rw [hW1]; exact heap_alloc_new w _
  have h' : DeedsIn F W1 v l := h.keep hf (fun _ _ _ h => h)
  have HSE := Lib.hid (fun W => r5Sectors_any W L A D)
  have HW := Lib.hid (And.intro hW1 (And.intro hf hrow))
  obtain ⟨S, hS⟩ : ∃ S, S = secsS L A D := ⟨_, rfl⟩
  rw [← hS] at HSE ⊢
  obtain ⟨ao, cap, rfl, h1, h2, h4⟩ := h'
  obtain ⟨n, hn⟩ : ∃ n, n = l.length := ⟨_, rfl⟩
  have hb : ∃ b off, (0 < n → ao = some ⟨b, off, none⟩) ∧ ∀ i (h : i < l.length), DeedAt F W1 b (off + i * 6) l[i] := by
    by_cases hl : l = []
    · subst hl
      exact ⟨0, 0, fun h => by simp at hn; omega, fun i h => by simp at h⟩
    · obtain ⟨b, off, ha, hi⟩ := h4 hl
      exact ⟨b, off, fun _ => ha, hi⟩
  obtain ⟨b, off, hao, hi⟩ := hb
  rw [← hn] at h1 h2 ⊢
  have HI := Lib.hid hi
  have HN := Lib.hid hn
  have HAO := Lib.hid hao
  clear hi hn h4 hao h hW1 hf hrow hS
  go_enter Tryz.func6, Tryz.ntmps6
  go_wp2_with fail
  rw [← HW.out.1]
  go_loopw [5, 6] (fun s i wr => ∃ k t : Nat, k ≤ n ∧ k ≤ 40 ∧ i = .int .i64 k ∧ s = .int .i64 t ∧ t ≤ 2000000000000000 ∧ Hid ((∀ j (hj : j < l.length), j < k → 4 * l[j].L.length ≤ t) ∧ Fr (fun _ => False) W1 wr)) (fun _ i _ => n - (intOf i).toNat)
  case atStart => exact ⟨0, 0, by omega, by omega, rfl, rfl, by omega, Lib.hid ⟨fun j _ h => by omega, Fr.refl _ _⟩⟩
  case round =>
    obtain ⟨k, t, hk, hk40, rfl, rfl, htb, hR⟩ := hrel
    by_cases hlt : k < n
    · by_cases hl40 : k < 40
      · by_cases ht4 : t ≤ 4000
        · have hil : k < l.length := by have := HN.out; omega
          have hp := (HI.out k hil).keep hR.out.2 (fun _ _ _ h => h)
          obtain ⟨hw1, hn1, hb1, cl, ck, cr, hchg, hbyt, hin, hwf, ⟨hf1, hf2⟩, hf3, hf4⟩ := hp
          obtain ⟨ar, cpr, hxr, _⟩ := id hbyt
          obtain ⟨al, cpl, hxl, hlc, hlcm, b3, off3, hao3, hc3⟩ := hchg.open6
          rw [hxr] at cr
          rw [hxl] at cl
          obtain ⟨q, hq⟩ : ∃ q, q = l[k].L.length := ⟨_, rfl⟩
          obtain ⟨r, hr⟩ : ∃ r, r = l[k].R.length := ⟨_, rfl⟩
          obtain ⟨y, hy⟩ : ∃ y, y = l[k].key := ⟨_, rfl⟩
          rw [← hq] at cl hf1 hlc hao3
          rw [← hr] at cr hf4
          rw [← hy] at ck hf3
          have hao2 := HAO.out (by omega)
          subst hao2
          have d1 : decide ((k : Int) < (n : Int)) = true := by rw [decide_eq_true_iff]; omega
          have d2 : decide ((k : Int) < 40) = true := by rw [decide_eq_true_iff]; omega
          have d2b : decide ((t : Int) ≤ 4000) = true := by rw [decide_eq_true_iff]; omega
          have d3 : (k : Int) < (n : Int) := by omega
          have d4 : (0 : Int) ≤ (k : Int) := by omega
          have d5 : (k : Int) < 40 := by omega
          have HQ := Lib.hid (And.intro hq hf2)
          have HCL := Lib.hid (fun (W : World) (hf : Fr (fun _ => False) wr W) => (hf.cell cl id : W.cell? ⟨b, off + k * 6 + 3, none⟩ = some (.slice al q cpl)))
          have HCH := Lib.hid (show ∀ (W : World) (hf : Fr (fun _ => False) wr W) (j : Nat) (hj : j < q), ∃ (kk : ByteArray) (bb : Nat) (a : Option Addr) (c : Nat), al = some ⟨b3, off3, none⟩ ∧ W.cell? ⟨b3, off3 + j * 3, none⟩ = some (.string kk) ∧ W.cell? ⟨b3, off3 + j * 3 + 1, none⟩ = some (.slice a bb c) ∧ kk.size ≤ 140737488355328 ∧ bb ≤ 140737488351232 from fun W hf j hj => by
            obtain ⟨a, c, e, _⟩ := hchg.bytes _ (List.getElem_mem (show j < l[k].L.length by omega))
            have h1 := hf.cell (hc3 j (by omega)).2.1 id
            rw [e] at h1
            exact ⟨_, _, a, c, (hao3 (by omega)).1, hf.cell (hc3 j (by omega)).1 id, h1, hf2 _ (List.getElem_mem _)⟩)
          clear hw1 hn1 hb1 hchg hbyt hin hwf hxr hxl hq hr hy hc3 hao3 hf2
          go_wp2_with fail
          go_quiet (fail)
          go_wp2_with fail
          have HM := Lib.hid hR.out
          obtain ⟨ys, hys⟩ : ∃ ys, ys = y.size := ⟨_, rfl⟩
          rw [← hys] at hf3 ⊢
          have hys' : y.size = ys := hys.symm
          clear hR d1 d2 d2b cl ck cr hys
          go_loopw [5, 7] (fun s i wq => ∃ j u : Nat, j ≤ q ∧ i = .int .i64 j ∧ s = .int .i64 u ∧ t + 4 * q ≤ u ∧ u ≤ 2000000000000000 ∧ Hid (Fr (fun _ => False) wr wq)) (fun _ i _ => q - (intOf i).toNat)
          case atStart => exact ⟨0, t + r + 4 * q + ys, by omega, rfl, by go_num, by omega, by omega, Lib.hid ((Fr.refl _ wr).drewN _)⟩
          case round =>
            obtain ⟨j, u, hj, rfl, rfl, hu1, hu2, hR2⟩ := hrel
            have cl := HCL.out wr hR2.out
            have d1 : decide ((k : Int) < (n : Int)) = true := by rw [decide_eq_true_iff]; omega
            by_cases hlj : j < q
            · by_cases hu4 : u ≤ 4000
              · obtain ⟨kk, bb, a1, c1, rfl, k0, k1, s0, s1⟩ := HCH.out wr hR2.out j hlj
                have d6 : decide ((j : Int) < (q : Int)) = true := by rw [decide_eq_true_iff]; omega
                have d6b : decide ((u : Int) ≤ 4000) = true := by rw [decide_eq_true_iff]; omega
                have d7 : (j : Int) < (q : Int) := by omega
                have d8 : (0 : Int) ≤ (j : Int) := by omega
                go_wp2_with fail
                go_quiet (fail)
                go_wp2_with fail
                go_roundw
                case rel => exact ⟨j + 1, u + kk.size + bb, by omega, by go_num, by go_num, by omega, by omega, Lib.hid (hR2.out.trans ((Fr.refl (fun _ => False) wr).drewN _) (fun _ h => h.elim))⟩
                case measure => simp [intOf]; omega
              · have d6 : decide ((j : Int) < (q : Int)) = true := by rw [decide_eq_true_iff]; omega
                have d6b : decide ((u : Int) ≤ 4000) = false := by rw [decide_eq_false_iff_not]; omega
                go_wp2_with fail
                go_roundw
                case rel => exact ⟨k + 1, u, by omega, by omega, by go_num, rfl, by omega, Lib.hid ⟨fun j hj hjk => (by
                  by_cases e : j = k
                  · subst e; have := HQ.out.1; omega
                  · have := HM.out.1 j hj (by omega); omega), HM.out.2.trans hR2.out (fun _ h => h.elim)⟩⟩
                case measure => simp [intOf]; omega
            · have d6 : decide ((j : Int) < (q : Int)) = false := by rw [decide_eq_false_iff_not]; omega
              go_wp2_with fail
              go_roundw
              case rel => exact ⟨k + 1, u, by omega, by omega, by go_num, rfl, by omega, Lib.hid ⟨fun j hj hjk => (by
                by_cases e : j = k
                · subst e; have := HQ.out.1; omega
                · have := HM.out.1 j hj (by omega); omega), HM.out.2.trans hR2.out (fun _ h => h.elim)⟩⟩
              case measure => simp [intOf]; omega
        · have d1 : decide ((k : Int) < (n : Int)) = true := by rw [decide_eq_true_iff]; omega
          have d2 : decide ((k : Int) < 40) = true := by rw [decide_eq_true_iff]; omega
          have d2b : decide ((t : Int) ≤ 4000) = false := by rw [decide_eq_false_iff_not]; omega
          have d2c : decide (4000 < (t : Int)) = true := by rw [decide_eq_true_iff]; omega
          have HM := Lib.hid hR.out
          clear hR
          by_cases hn4 : 40 < n
          · have e1 : decide (40 < (n : Int)) = true := by rw [decide_eq_true_iff]; omega
            go_wp2_with fail
            go_ret
            exact ⟨_, rfl, (fun h => by cases h), HW.out.2.1.trans HM.out.2 (fun _ h => h.elim)⟩
          · have e1 : decide (40 < (n : Int)) = false := by rw [decide_eq_false_iff_not]; omega
            go_wp2_with fail
            go_ret
            exact ⟨_, rfl, (fun h => by cases h), HW.out.2.1.trans HM.out.2 (fun _ h => h.elim)⟩
      · have d1 : decide ((k : Int) < (n : Int)) = true := by rw [decide_eq_true_iff]; omega
        have d2 : decide ((k : Int) < 40) = false := by rw [decide_eq_false_iff_not]; omega
        have e1 : decide (40 < (n : Int)) = true := by rw [decide_eq_true_iff]; omega
        have HM := Lib.hid hR.out
        clear hR
        go_wp2_with fail
        go_ret
        exact ⟨_, rfl, (fun h => by cases h), HW.out.2.1.trans HM.out.2 (fun _ h => h.elim)⟩
    · have d1 : decide ((k : Int) < (n : Int)) = false := by rw [decide_eq_false_iff_not]; omega
      have e1 : decide (40 < (n : Int)) = false := by rw [decide_eq_false_iff_not]; omega
      have HM := Lib.hid hR.out
      have hrw : W1.heap[w.heap.size]? = _ := HW.out.2.2
      have hrr := HM.out.2.heap hrw id
      obtain ⟨q0, q1, q2⟩ := row3_cells hrr
      clear hR hrw hrr
      by_cases ht4 : t ≤ 4000
      · have e2 : decide (4000 < (t : Int)) = false := by rw [decide_eq_false_iff_not]; omega
        go_wp2_with (go_at_call 23; refine (HSE.out _).mono ?_; rintro e w3 ⟨rfl, hf3⟩; (have H3 := Lib.hid hf3); clear hf3)
        go_ret
        refine ⟨_, rfl, fun hS => ⟨?_, by have := HN.out; omega, fun p hp => ?_⟩, (HW.out.2.1.trans HM.out.2 (fun _ h => h.elim)).trans H3.out (fun _ h => h.elim)⟩
        · simp at hS; omega
        · obtain ⟨j, hj, rfl⟩ := List.getElem_of_mem hp
          have := HM.out.1 j hj (by have := HN.out; omega)
          omega
      · have e2 : decide (4000 < (t : Int)) = true := by rw [decide_eq_true_iff]; omega
        go_wp2_with fail
        go_ret
        exact ⟨_, rfl, (fun h => by cases h), HW.out.2.1.trans HM.out.2 (fun _ h => h.elim)⟩
end Go.Proofs.YtldgcoikbjbjeaaGreat
namespace Go.Proofs.YtldgcoikbjbjeaaGreat
open Go.RowKit Go.ChangeShapes
set_option linter.unusedVariables false
theorem RwsIn.mono {F G : Nat → Prop} {w : World} {v : Value} {l : List RowD} (h : RwsIn F w v l) (hd : ∀ b, b < w.heap.size → F b → G b) : RwsIn G w v l := ⟨h.el.mono (by decide) hd, fun p hp => (h.bytes p hp).mono hd⟩
end Go.Proofs.YtldgcoikbjbjeaaGreat
namespace Go.Proofs.YtldgcoikbjbjeaaGreat
open Go.RowKit Go.ChangeShapes
set_option linter.unusedVariables false
section
variable {w0 w : World} {tb jn g s l la d i : Nat} {h h2 : Hd} {dn : Bool} {dv : Dv} {Mo M : Tab} {X : Nat → Prop}
theorem reopen_any (H : TbAt w0 w tb jn g s l la d h dn dv Mo X) (K : TgK dv l la s h2 M i) (hok : ShOk l la d s) :
    Calls Tryz.prog 11 #[.pointer (some ⟨g, 0, none⟩), .agg #[.int .i64 l, .int .i64 la, .int .i64 d]] w fun e w' => ∃ tb' jn', e = .returned (.tuple #[.pointer (some ⟨tb', 0, none⟩), .int .i64 0]) ∧ TbAt w0 w' tb' jn' g s l la d h2 false dv M X ∧ Fr (fun _ => False) w w' := by
  obtain ⟨mb, F, h1, _, _⟩ := H.ex
  obtain ⟨D, d1, d2⟩ := h1.dev
  obtain ⟨B, R, M0, Ls, k, kt⟩ := K.kept
  refine (tOpen_any w g l la d s dv h2 hok d1 K.up K.waits k kt K.fit).mono ?_
  rintro e w' ⟨tb', mb', jn', F', rfl, j1, t1, o1, F1, f1⟩
  have hz := f1.size
  have lt1 := RwAt.lt t1
  have lj1 := j1.lt
  have hw0 := h1.fr.size
  refine ⟨tb', jn', rfl, ⟨mb', F', LgAt.made j1 (d1.keep f1 (fun _ _ _ h => h)) (fun k hk => ?_) ⟨by omega, fun hh => ?_⟩ (fun k hh => ?_) (h1.fr.trans f1 (fun _ h => h.elim)), t1, fun k hk => ⟨?_, fun hx => ?_⟩⟩, f1⟩
  · obtain ⟨a1, a2, a3, a4⟩ := d2 k hk
    refine ⟨a1, by omega, by omega, fun hh => ?_⟩
    rcases hh with hh | hh | hh | hh
    · exact a4 (.inl hh)
    · omega
    · omega
    · have := F1 k hh; omega
  · rcases hh with hh | hh | hh | hh
    · have := h1.xs _ (.inl hh); omega
    · exact o1.2.2.2.1 hh
    · exact o1.2.2.2.2.1 hh
    · exact o1.2.2.2.2.2 hh
  · rcases hh with hh | hh | hh | hh
    · have := h1.xs _ (.inl hh); omega
    · omega
    · omega
    · have := F1 k hh; omega
  · rcases hk with hh | hh | hh
    · omega
    · omega
    · have := F1 k hh; omega
  · have h3 := h1.xs _ (.inl hx)
    rcases hk with hh | hh | hh
    · omega
    · omega
    · have := F1 k hh; omega
theorem is_tb {G : Nat → Prop} {kv vv : Value} {lv : List RowD} {W : World} (H : TbAt w0 w tb jn g s l la d h dn dv M X) (hM : tabOk M ∧ M.length ≤ 4000) (hf : Fr (fun _ => False) w W) (hv : VsIn G W kv vv lv) (hn : lv.length ≤ 1000000) (hr : TRep (lv.map RowD.row) Mo) :
    Calls Tryz.prog 16 #[.agg #[kv, vv], .pointer (some ⟨tb, 0, none⟩)] W fun e w' => e = .returned (.bool (isB (lv.map RowD.row) M)) ∧ Fr (fun _ => False) W w' := by
  obtain ⟨mb, F, h1, h2, h3⟩ := H.ex
  exact is_any kv vv lv hv hn hr.once (RwAt.quiet h2 hf) (fun k hk => by have := h1.xs k (.inr (.inr (.inr hk))); have := hf.size; omega) hM.1 hM.2
theorem TbAt.away {S : Nat → Prop} {w2 : World} (H : TbAt w0 w tb jn g s l la d h dn dv M X) (hf : Fr S w w2) (hS : ∀ k, S k → X k ∧ w0.heap.size ≤ k) : TbAt w0 w2 tb jn g s l la d h dn dv M X := by
  obtain ⟨mb, F, h1, h2, h3⟩ := H.ex
  exact ⟨mb, F, h1.grow hf (fun k hk => ⟨.inl (hS k hk).1, (hS k hk).2⟩) (fun k hk => .inl hk) (fun k hk => hk), RwAt.keep h2 hf (fun hh => (h3 _ (.inl rfl)).2 (hS _ hh).1) (fun hh => (h3 _ (.inr (.inl rfl))).2 (hS _ hh).1) (fun k _ hk hh => (h3 _ (.inr (.inr hk))).2 (hS _ hh).1), h3⟩
structure NwAt (w0 : World) (gn : Nat) (G X : Nat → Prop) (N : Nat) (wr : World) (kv vv : Value) (lv : List RowD) (M : Tab) : Prop where
  box : wr.heap[gn]? = some (.cells #[kv, vv] 40 (0, 0))
  inX : X gn
  low : w0.heap.size ≤ gn
  own : VsOwn G w0.heap.size wr kv vv lv
  ownX : ∀ g, (kv.ownBlock = some g ∨ vv.ownBlock = some g) → X g
  rep : TRep (lv.map RowD.row) M
  len : lv.length ≤ N
theorem NwAt.keep {gn N : Nat} {G : Nat → Prop} {w' : World} {kv vv : Value} {lv : List RowD} (H : NwAt w0 gn G X N w kv vv lv M) (hf : Fr (LgT w0 X) w w') (hG : ∀ k, G k → k < w0.heap.size) : NwAt w0 gn G X N w' kv vv lv M :=
  ⟨hf.heap H.box (fun hh => hh.2 H.inX), H.inX, H.low, H.own.keep hf (fun g hg hh => hh.2 (H.ownX g (.inl hg))) (fun g hg hh => hh.2 (H.ownX g (.inr hg))) (fun k _ hk hh => by have := hG k hk; have := hh.1; omega), H.ownX, H.rep, H.len⟩
theorem NwAt.quiet {gn N : Nat} {G : Nat → Prop} {w' : World} {kv vv : Value} {lv : List RowD} (H : NwAt w0 gn G X N w kv vv lv M) (hf : Fr (fun _ => False) w w') : NwAt w0 gn G X N w' kv vv lv M :=
  ⟨hf.heap H.box id, H.inX, H.low, H.own.quiet hf, H.ownX, H.rep, H.len⟩
theorem NwAt.wide {gn N N' : Nat} {G Y : Nat → Prop} {kv vv : Value} {lv : List RowD} (H : NwAt w0 gn G X N w kv vv lv M) (hXY : ∀ k, X k → Y k) (hN : N ≤ N') : NwAt w0 gn G Y N' w kv vv lv M :=
  ⟨H.box, hXY _ H.inX, H.low, H.own, fun g hg => hXY g (H.ownX g hg), H.rep, Nat.le_trans H.len hN⟩
theorem NwAt.other {gn gc N : Nat} {G : Nat → Prop} {kv vv : Value} {lv : List RowD} {c : Array Value} (H : NwAt w0 gn G X N w kv vv lv M) (hb : w.heap[gc]? = some (.cells c 40 (0, 0))) (hne : gn ≠ gc) (hlow : w0.heap.size ≤ gc) (hG : ∀ k, G k → k < w0.heap.size) {w' : World} (hf : Fr (fun k => k = gc) w w') : NwAt w0 gn G X N w' kv vv lv M :=
  ⟨hf.heap H.box hne, H.inX, H.low, H.own.keep hf (fun g hg e => H.own.kr.not hb (by decide) (by rw [hg, show g = gc from e])) (fun g hg e => H.own.vr.not hb (by decide) (by rw [hg, show g = gc from e])) (fun k _ hk e => by have := hG k hk; have e2 : k = gc := e; omega), H.ownX, H.rep, H.len⟩
theorem NwAt.copy {gn gc N : Nat} {G : Nat → Prop} {kv vv kw vw : Value} {lv lw : List RowD} {Mw : Tab} (H : NwAt w0 gn G X N w kv vv lv M) (H2 : NwAt w0 gc G X N w kw vw lw Mw) (hne : gc ≠ gn) (hG : ∀ k, G k → k < w0.heap.size) :
    NwAt w0 gn G X N ((w.setCell ⟨gn, 0, none⟩ kw).setCell ⟨gn, 1, none⟩ vw) kw vw lw Mw ∧ Fr (fun k => k = gn) w ((w.setCell ⟨gn, 0, none⟩ kw).setCell ⟨gn, 1, none⟩ vw) := by
  have hf : Fr (fun k => k = gn) w ((w.setCell ⟨gn, 0, none⟩ kw).setCell ⟨gn, 1, none⟩ vw) := (Fr.cell1 w gn 0 kw).trans (Fr.cell1 _ gn 1 vw) (fun k h => .inl h)
  have h2 := H2.other H.box hne H.low hG hf
  exact ⟨⟨cell_put _ (cell_put _ H.box), H.inX, H.low, h2.own, h2.ownX, h2.rep, h2.len⟩, hf⟩
theorem NwAt.cells {gn N : Nat} {G : Nat → Prop} {kv vv : Value} {lv : List RowD} (H : NwAt w0 gn G X N w kv vv lv M) : w.cell? ⟨gn, 0, none⟩ = some kv ∧ w.cell? ⟨gn, 1, none⟩ = some vv ∧ w.frozen? ⟨gn, 0, none⟩ = false ∧ w.frozen? ⟨gn, 1, none⟩ = false :=
  ⟨cell_of_row _ _ _ _ _ _ H.box, cell_of_row _ _ _ _ _ _ H.box, frozen_of_row _ _ _ _ _ H.box, frozen_of_row _ _ _ _ _ H.box⟩
theorem NwAt.is {gn N : Nat} {G : Nat → Prop} {kv vv : Value} {lv : List RowD} {Mt : Tab} {W : World} (H : NwAt w0 gn G X N W kv vv lv M) (hN : N ≤ 1000000) (HT : TbAt w0 W tb jn g s l la d h dn dv Mt X) (hM : tabOk Mt ∧ Mt.length ≤ 4000) :
    Calls Tryz.prog 16 #[.agg #[kv, vv], .pointer (some ⟨tb, 0, none⟩)] W fun e w' => e = .returned (.bool (isB (lv.map RowD.row) Mt)) ∧ Fr (fun _ => False) W w' :=
  is_tb HT hM (Fr.refl _ _) H.own.vs (Nat.le_trans H.len hN) H.rep
structure KS (w0 : World) (g s l la d : Nat) (gn : Nat) (G : Nat → Prop) (i : Nat) (tb jn : Nat) (wr : World) : Prop where
  ex : ∃ (X : Nat → Prop) (h : Hd) (dv : Dv) (M : Tab) (kv vv : Value) (lv : List RowD), TbAt w0 wr tb jn g s l la d h false dv M X ∧ TgK dv l la s h M i ∧ NwAt w0 gn G X (1000 * i) wr kv vv lv M
structure DS (w0 W9 W : World) (tb jn g s l la d : Nat) (h : Hd) (dn : Bool) (dv : Dv) (Mt : Tab) (X : Nat → Prop) (gn gc gs : Nat) (G : Nat → Prop) (N : Nat) (kv vv : Value) (lv : List RowD) (M : Tab) (kw vw : Value) (lw : List RowD) (M2 : Tab) : Prop where
  tab : TbAt w0 W tb jn g s l la d h dn dv Mt X
  now : NwAt w0 gn G X N W kv vv lv M
  thn : NwAt w0 gc G X N W kw vw lw M2
  shp : W.heap[gs]? = some (.cells #[.int .i64 l, .int .i64 la, .int .i64 d] 23 (0, 0))
  fr : Fr (fun k => w0.heap.size ≤ k) W9 W
section
variable {W9 W W' : World} {Mt : Tab} {gn gc gs N tb' jn' : Nat} {G : Nat → Prop} {kv vv kw vw : Value} {lv lw : List RowD} {M2 : Tab} {h' : Hd} {dn' : Bool} {dv' : Dv}
theorem DS.quiet (H : DS w0 W9 W tb jn g s l la d h dn dv Mt X gn gc gs G N kv vv lv M kw vw lw M2) (hf : Fr (fun _ => False) W W') : DS w0 W9 W' tb jn g s l la d h dn dv Mt X gn gc gs G N kv vv lv M kw vw lw M2 :=
  ⟨H.tab.quiet hf, H.now.quiet hf, H.thn.quiet hf, hf.heap H.shp id, H.fr.trans hf (fun _ h => h.elim)⟩
theorem DS.turn (H : DS w0 W9 W tb jn g s l la d h dn dv Mt X gn gc gs G N kv vv lv M kw vw lw M2) (ht : TbAt w0 W' tb' jn' g s l la d h' dn' dv' Mo X) (hf : Fr (LgT w0 X) W W') (hG : ∀ k, G k → k < w0.heap.size) (hgs : gs < w0.heap.size) : DS w0 W9 W' tb' jn' g s l la d h' dn' dv' Mo X gn gc gs G N kv vv lv M kw vw lw M2 :=
  ⟨ht, H.now.keep hf hG, H.thn.keep hf hG, hf.heap H.shp (fun hh => by have := hh.1; omega), H.fr.trans hf (fun k hk => .inl hk.1)⟩
end
end
end Go.Proofs.YtldgcoikbjbjeaaGreat
