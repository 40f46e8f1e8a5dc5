/- Arguments that came in, opened: rows of rows of bytes. -/
import Derived.Test.YthjpgnmpcllolaaDoorOpenArr
import Derived.Test.YthjpgnmpcllolaaDoorTake
namespace Go.Proofs.YthjpgnmpcllolaaDoor
open Go.RowKit Go.ChangeShapes Go.WideShapes Go.Deep
set_option linter.unusedVariables false

theorem Tryd.cellsBB : Tryd.prog.cellsOf 38 = 1 := by kernel_rfl
theorem Tryd.bytesBB : Tryd.prog.bytesOf 38 = 24 := by kernel_rfl

theorem addr_add0 (a : Addr) : a.add 0 = a := by
  obtain ⟨b, o, s⟩ := a
  unfold Addr.add
  cases s <;> simp

section
variable {H : Type} {enc : TypeId × Value → H} {w : World} {base fuel : Nat} {held : Bool} {cs : List Value} {x : DataW H × List MemPlace}

theorem mem_weightsAll {P : Program} {e : TypeId} : ∀ {ds : List (DataW H)} {d : DataW H}, d ∈ ds → ∀ n ∈ d.weights P e, n ∈ DataW.weightsAll P e ds
  | d0 :: ds, d, hd, n, hn => by
    simp only [DataW.weightsAll, List.mem_append]
    rcases List.mem_cons.1 hd with rfl | hd
    · exact .inl hn
    · exact .inr (mem_weightsAll hd n hn)

theorem open_rows (h : DataW.trod enc Tryd.prog w base (fun _ => true) held fuel 22 cs = some x) (hz : ∀ n ∈ x.1.weights Tryd.prog 22, n ≤ reachBytes) :
    ∃ v P, cs = [v] ∧ RowsIn (fun k => k < w.heap.size) w v P ∧ P.length ≤ 140737488351232 := by
  rcases open_slice Tryd.underlying22 h with ⟨rfl, _⟩ | ⟨a, len, cap, m, n, D, Pl, rfl, _, hl, hm, hmm, hx, hi⟩
  · exact ⟨_, [], rfl, ⟨none, 0, rfl, Nat.le_refl _, by omega, by simp, fun h => absurd rfl h⟩, by simp⟩
  · simp only [if_true] at hmm
    subst hmm
    rw [Tryd.cellsBB] at hi
    have hw : ∀ k ∈ DataW.weightsAll Tryd.prog 38 ((List.range len).map D), k ≤ reachBytes := fun k hk => hz k (by
      rw [hx]; simp only [DataW.weights, Tryd.underlying22, List.mem_cons, List.mem_append]; exact .inr (.inl hk))
    have hm : m * 24 ≤ 140737488351232 := by
      have := hz ((len + (m - len)) * 24) (by rw [hx]; simp [DataW.weights, Tryd.underlying22, Tryd.bytesBB])
      simp only [reachBytes] at this
      omega
    by_cases h0 : len = 0
    · subst h0
      exact ⟨_, [], rfl, ⟨some a, m, rfl, Nat.zero_le _, by omega, by simp, fun h => absurd rfl h⟩, by simp⟩
    · obtain ⟨b, off, spot⟩ := a
      have hone' : ∀ i, i < len → ∃ c, w.cell? ((⟨b, off, spot⟩ : Addr).add (i * 1)) = some c ∧ DataW.trod enc Tryd.prog w base (fun _ => true) held n 38 [c] = some (D i, Pl i) := by
        intro i hil
        obtain ⟨cs', hc, ht⟩ := hi i (by omega)
        obtain ⟨_, hcl, hat⟩ := World.cells?_some hc
        obtain ⟨c, rfl⟩ : ∃ c, cs' = [c] := List.length_eq_one_iff.1 hcl
        refine ⟨c, ?_, ht⟩
        have := hat 0 (by decide)
        simpa [addr_add0] using this
      have hs : spot = none := by
        obtain ⟨c, hc, _⟩ := hone' 0 (by omega)
        simpa [Addr.add] using World.cell?_spot hc
      subst hs
      have hone : ∀ i, ∃ q : Value × List UInt8, i < len → w.cell? ⟨b, off + i, none⟩ = some q.1 ∧ BytesIn (fun k => k < w.heap.size) w q.1 q.2 ∧ q.2.length ≤ 140737488351232 := by
        intro i
        by_cases hil : i < len
        · obtain ⟨c, hc, ht⟩ := hone' i hil
          rw [addr_plain, Nat.mul_one] at hc
          obtain ⟨v, L, e, hB, hL⟩ := open_bytes ht (fun k hk => hw k (mem_weightsAll (List.mem_map_of_mem (List.mem_range.2 hil)) k hk))
          simp only [List.cons.injEq, and_true] at e
          subst e
          exact ⟨(_, L), fun _ => ⟨hc, hB, hL⟩⟩
        · exact ⟨(.nilFunc, []), fun h => absurd h hil⟩
      obtain ⟨f, hf⟩ := Classical.axiomOfChoice hone
      have hlen : ((List.range len).map fun i => (f i).2).length = len := by simp
      have hbk : b < w.heap.size := World.block_lt_of_cell? _ _ (hf 0 (by omega)).1
      refine ⟨_, (List.range len).map fun i => (f i).2, rfl, ⟨some ⟨b, off, none⟩, m, by rw [hlen], by rw [hlen]; exact hl, by omega, ?_, fun _ => ⟨b, off, rfl, hbk, fun i hi => ?_⟩⟩, by rw [hlen]; omega⟩
      · intro p hp
        obtain ⟨i, hi, rfl⟩ := List.mem_map.1 hp
        exact (hf i (List.mem_range.1 hi)).2.2
      · have : i < len := by omega
        refine ⟨(f i).1, (hf i this).1, ?_⟩
        simpa using (hf i this).2.1
end
end Go.Proofs.YthjpgnmpcllolaaDoor
