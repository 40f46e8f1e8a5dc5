/- Arguments that came in, opened: bytes, rows of parts. -/
import Derived.Test.YthjpgnmpcllolaaParts
import Derived.ProofKit
import Derived.OpenShut
import Derived.SizedLaws
import Derived.Deep.Slices
import Derived.Deep.Fields
import Derived.Carry
namespace Go.Proofs.Ythjpgnmpcllolaa
open Go.RowKit Go.ChangeShapes Go.WideShapes Go.Deep
set_option linter.unusedVariables false

theorem u8_of_wf {n : Int} (h : (Lit.int .u8 n).wf = true) : ((UInt8.ofNat n.toNat).toNat : Int) = n := by
  obtain ⟨h0, h1⟩ := bounds_u8 h
  rw [UInt8.toNat_ofNat']
  omega

theorem Try.cellsB : Try.prog.cellsOf 5 = 1 := by kernel_rfl
theorem Try.bytesB : Try.prog.bytesOf 5 = 1 := by kernel_rfl

section
variable {H : Type} {enc : TypeId × Value → H} {w : World} {base fuel : Nat} {held : Bool} {cs : List Value} {x : DataW H × List MemPlace}

theorem open_bytes (h : DataW.trod enc Try.prog w base (fun _ => true) held fuel 32 cs = some x) (hz : ∀ n ∈ x.1.weights Try.prog 32, n ≤ reachBytes) :
    ∃ v L, cs = [v] ∧ BytesIn (fun k => k < w.heap.size) w v L ∧ L.length ≤ 140737488351232 := by
  rcases open_ints Try.underlying32 Try.underlying5 Try.cellsB h with ⟨rfl, _⟩ | ⟨a, len, cap, zs, rfl, _, hl, hm, hzl, hx, hc, hwf⟩
  · exact ⟨_, [], rfl, BytesIn.nil _ _, by simp⟩
  · simp only [if_true] at hzl
    have hlen : ((zs.take len).map fun z => UInt8.ofNat z.toNat).length = len := by rw [List.length_map, List.length_take]; omega
    refine ⟨_, (zs.take len).map fun z => UInt8.ofNat z.toNat, rfl, ⟨some a, cap, by rw [hlen], by rw [hlen]; exact hl, hm, (fun h => by cases h), ?_⟩, ?_⟩
    · intro a' ha
      cases ha
      refine ⟨fun j u hu => ?_, fun hL => ?_⟩
      · have hj : j < len := by have := (List.getElem?_eq_some_iff.1 hu).1; rw [List.length_map, hlen] at this; exact this
        have hjz : j < zs.length := by omega
        rw [hc j hjz]
        have hmem := hwf (zs[j]) (List.getElem_mem _)
        rw [List.getElem?_map, List.getElem?_map, List.getElem?_take, if_pos hj, List.getElem?_eq_getElem hjz] at hu
        simp only [Option.map_some, Option.some.injEq] at hu
        rw [← hu, bv, u8_of_wf hmem]
        simp [List.getD, List.getElem?_eq_getElem hjz]
      · have hp : 0 < len := by have := List.length_pos_iff.2 hL; omega
        have := World.block_lt_of_cell? _ _ (hc 0 (by omega))
        rwa [add_block] at this
    · rw [hlen]
      have := hz ((zs.take len).length + (zs.drop len).length) (by rw [hx]; simp [DataW.weights, Try.underlying32, Try.bytesB, lits])
      rw [List.length_take, List.length_drop] at this
      simp only [reachBytes] at this
      omega

theorem list4 {α : Type} {l : List α} (h : l.length = 4) : ∃ a b c d, l = [a, b, c, d] := by
  match l, h with
  | [a, b, c, d], _ => exact ⟨a, b, c, d, rfl⟩

theorem Try.bytesP : Try.prog.bytesOf 37 = 48 := by kernel_rfl
theorem Try.cellsP : Try.prog.cellsOf 37 = 4 := by kernel_rfl

theorem Try.cellsI : Try.prog.cellsOf 3 = 1 := by kernel_rfl
theorem Try.cellsS : Try.prog.cellsOf 32 = 1 := by kernel_rfl

theorem mem_weightsAll {P : Program} {e : TypeId} : ∀ {ds : List (DataW H)} {d : DataW H}, d ∈ ds → ∀ n ∈ d.weights P e, n ∈ DataW.weightsAll P e ds
  | d0 :: ds, d, hd, n, hn => by
    simp only [DataW.weightsAll, List.mem_append]
    rcases List.mem_cons.1 hd with rfl | hd
    · exact .inl hn
    · exact .inr (mem_weightsAll hd n hn)

/-- One part. -/
theorem open_part {n : Nat} {y : DataW H × List MemPlace} {b o : Nat} (hF : b < w.heap.size) (hc : ∀ i, i < 4 → w.cell? ⟨b, o + i, none⟩ = cs[i]?) (h : DataW.trod enc Try.prog w base (fun _ => true) held n 37 cs = some y)
    (hz : ∀ n ∈ y.1.weights Try.prog 37, n ≤ reachBytes) :
    ∃ p : PartD, PartAt (fun k => k < w.heap.size) w b o p ∧ p.B.length ≤ 140737488351232 := by
  obtain ⟨xs, m, _, hy, hcl, hxl, hf⟩ := DataW.trod_struct Try.underlying37 h
  rw [Try.cellsP] at hcl
  obtain ⟨c0, c1, c2, c3, rfl⟩ := list4 hcl
  obtain ⟨y0, y1, y2, y3, rfl⟩ := list4 (l := xs) hxl
  have e0 : DataW.trod enc Try.prog w base (fun _ => true) held m 3 [c0] = some y0 := by
    have h : DataW.trod enc Try.prog w base (fun _ => true) held m 3 (([c0, c1, c2, c3].drop 0).take (Try.prog.cellsOf 3)) = some y0 := hf 0 _ rfl
    rw [Try.cellsI] at h
    exact h
  have e1 : DataW.trod enc Try.prog w base (fun _ => true) held m 3 [c1] = some y1 := by
    have h : DataW.trod enc Try.prog w base (fun _ => true) held m 3 (([c0, c1, c2, c3].drop 1).take (Try.prog.cellsOf 3)) = some y1 := hf 1 _ rfl
    rw [Try.cellsI] at h
    exact h
  have e2 : DataW.trod enc Try.prog w base (fun _ => true) held m 3 [c2] = some y2 := by
    have h : DataW.trod enc Try.prog w base (fun _ => true) held m 3 (([c0, c1, c2, c3].drop 2).take (Try.prog.cellsOf 3)) = some y2 := hf 2 _ rfl
    rw [Try.cellsI] at h
    exact h
  have e3 : DataW.trod enc Try.prog w base (fun _ => true) held m 32 [c3] = some y3 := by
    have h : DataW.trod enc Try.prog w base (fun _ => true) held m 32 (([c0, c1, c2, c3].drop 3).take (Try.prog.cellsOf 32)) = some y3 := hf 3 _ rfl
    rw [Try.cellsS] at h
    exact h
  obtain ⟨n0, r0, _, w0⟩ := DataW.trod_int Try.underlying3 e0
  obtain ⟨n1, r1, _, w1⟩ := DataW.trod_int Try.underlying3 e1
  obtain ⟨n2, r2, _, w2⟩ := DataW.trod_int Try.underlying3 e2
  simp only [List.cons.injEq, and_true] at r0 r1 r2
  subst r0 r1 r2
  obtain ⟨v, L, r3, hB, hL⟩ := open_bytes e3 (fun k hk => hz k (by rw [hy]; simp only [DataW.weights, Try.underlying37]; exact DataW.weights_mem_each (j := 3) (t := 32) (d := y3.1) rfl rfl k hk))
  simp only [List.cons.injEq, and_true] at r3
  subst r3
  exact ⟨⟨n0, n1, n2, _, L⟩, ⟨hc 0 (by decide), hc 1 (by decide), hc 2 (by decide), hc 3 (by decide), hB, hF, bounds_i64 w0, bounds_i64 w1, bounds_i64 w2⟩, hL⟩

theorem open_parts (h : DataW.trod enc Try.prog w base (fun _ => true) held fuel 22 cs = some x) (hz : ∀ n ∈ x.1.weights Try.prog 22, n ≤ reachBytes) :
    ∃ v l, cs = [v] ∧ PartsIn (fun k => k < w.heap.size) w v l := by
  rcases open_slice Try.underlying22 h with ⟨rfl, _⟩ | ⟨a, len, cap, m, n, D, Pl, rfl, _, hl, hm, hmm, hx, hi⟩
  · exact ⟨_, [], rfl, none, 0, rfl, Nat.le_refl _, by omega, by simp, fun h => absurd rfl h⟩
  · simp only [if_true] at hmm
    subst hmm
    rw [Try.cellsP] at hi
    have hw : ∀ k ∈ DataW.weightsAll Try.prog 37 ((List.range len).map D), k ≤ reachBytes := fun k hk => hz k (by
      rw [hx]; simp only [DataW.weights, Try.underlying22, List.mem_cons, List.mem_append]; exact .inr (.inl hk))
    have hm : m * 48 ≤ 140737488351232 := by
      have := hz ((len + (m - len)) * 48) (by rw [hx]; simp [DataW.weights, Try.underlying22, Try.bytesP])
      simp only [reachBytes] at this
      omega
    by_cases h0 : len = 0
    · subst h0
      exact ⟨_, [], rfl, some a, m, rfl, Nat.zero_le _, hm, by simp, fun h => absurd rfl h⟩
    · obtain ⟨b, off, spot⟩ := a
      have hs : spot = none := by
        obtain ⟨cs', hc, ht⟩ := hi 0 (by omega)
        obtain ⟨_, hcl, hat⟩ := World.cells?_some hc
        have := hat 0 (by decide)
        obtain ⟨c0, c1, c2, c3, rfl⟩ := list4 hcl
        simpa [Addr.add] using World.cell?_spot this
      subst hs
      have hone : ∀ i, ∃ p : PartD, i < len → PartAt (fun k => k < w.heap.size) w b (off + i * 4) p ∧ p.B.length ≤ 140737488351232 := by
        intro i
        by_cases hil : i < len
        · obtain ⟨cs', hc, ht⟩ := hi i (by omega)
          obtain ⟨_, hcl, hat⟩ := World.cells?_some hc
          have hat' : ∀ j, j < 4 → w.cell? ⟨b, off + i * 4 + j, none⟩ = cs'[j]? := fun j hj => by
            have := hat j hj
            rwa [addr_plain, addr_plain] at this
          have hb : b < w.heap.size := by
            have := hat' 0 (by decide)
            rw [List.getElem?_eq_getElem (by omega)] at this
            exact World.block_lt_of_cell? _ _ this
          obtain ⟨p, hp⟩ := open_part hb hat' ht (fun k hk => hw k (mem_weightsAll (List.mem_map_of_mem (List.mem_range.2 hil)) k hk))
          exact ⟨p, fun _ => hp⟩
        · exact ⟨⟨0, 0, 0, .nilFunc, []⟩, fun h => absurd h hil⟩
      obtain ⟨f, hf⟩ := Classical.axiomOfChoice hone
      have hlen : ((List.range len).map f).length = len := by simp
      refine ⟨_, (List.range len).map f, rfl, some ⟨b, off, none⟩, m, by rw [hlen], by rw [hlen]; exact hl, hm, ?_, fun _ => ⟨b, off, rfl, fun i hi => ?_⟩⟩
      · intro p hp
        obtain ⟨i, hi, rfl⟩ := List.mem_map.1 hp
        exact (hf i (List.mem_range.1 hi)).2
      · have : i < len := by omega
        simpa using (hf i this).1
end

end Go.Proofs.Ythjpgnmpcllolaa
