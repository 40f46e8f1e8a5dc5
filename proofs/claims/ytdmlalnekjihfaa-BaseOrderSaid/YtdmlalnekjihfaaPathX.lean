/- Paths as one thing; lists of them in memory; arguments that came in, opened: paths, lists of paths. -/
import Derived.Test.YtdmlalnekjihfaaOpenArr
import Derived.Test.YtdmlalnekjihfaaRunB
namespace Go.Proofs.Ytdmlalnekjihfaa
open Go.RowKit Go.ChangeShapes Go.WideShapes Go.Deep
set_option linter.unusedVariables false

/-- A path. -/
structure PathX where
  h : List UInt8
  n : ByteArray
  hl : h.length = 20
instance : Inhabited PathX := ⟨⟨List.replicate 20 0, ⟨#[]⟩, rfl⟩⟩
theorem PathX.ext {x y : PathX} (h1 : x.h = y.h) (h2 : x.n = y.n) : x = y := by
  obtain ⟨a, b, c⟩ := x
  obtain ⟨a', b', c'⟩ := y
  simp only at h1 h2
  subst h1
  subst h2
  rfl
instance : DecidableEq PathX := fun x y =>
  if h : x.h = y.h ∧ x.n = y.n then .isTrue (PathX.ext h.1 h.2) else .isFalse (fun e => h (by rw [e]; exact ⟨rfl, rfl⟩))
def cellsX (x : PathX) : List Value := x.h.map bv ++ [Value.string x.n]
theorem cellsX_length (x : PathX) : (cellsX x).length = 21 := by simp [cellsX, x.hl]
theorem cellsX_one (x : PathX) : ∀ v ∈ cellsX x, v.oneCell' = true := by
  intro v hv
  rcases List.mem_append.1 hv with h | h
  · exact bv_one _ v h
  · obtain rfl := List.mem_singleton.1 h
    rfl
theorem cellsX_C (x : PathX) : (cellsX x).toArray = pathC x.h x.n := rfl

/-- A slice value that reads as the paths L, in a block of F. -/
def PathsIn (F : Nat → Prop) (w : World) (v : Value) (L : List PathX) : Prop :=
  ∃ ao cap, v = .slice ao L.length cap ∧ L.length ≤ cap ∧ cap ≤ maxLen ∧ (ao = none → cap = 0) ∧
    (L ≠ [] → ∃ b off, ao = some ⟨b, off, none⟩ ∧ F b ∧ ∀ i (h : i < L.length), w.rangeAt b (off + i * 21) (cellsX L[i]))
theorem Fr.range {S : Nat → Prop} {w w' : World} {b o : Nat} {cs : List Value} (hf : Fr S w w') (h : w.rangeAt b o cs) (hb : ¬ S b) : w'.rangeAt b o cs := fun j v hv => by
  exact hf.cell (h j v hv) hb
theorem PathsIn.keep {F S : Nat → Prop} {w w' : World} {v : Value} {L : List PathX} (h : PathsIn F w v L) (hf : Fr S w w') (hd : ∀ k, k < w.heap.size → F k → ¬ S k) : PathsIn F w' v L := by
  obtain ⟨ao, cap, rfl, h1, h2, h3, h4⟩ := h
  refine ⟨ao, cap, rfl, h1, h2, h3, fun hL => ?_⟩
  obtain ⟨b, off, rfl, hb, hr⟩ := h4 hL
  refine ⟨b, off, rfl, hb, fun i hi => hf.range (hr i hi) (hd b ?_ hb)⟩
  have hp : 0 < L.length := List.length_pos_iff.2 hL
  have h0 := hr 0 hp 20 (.string L[0].n) (by simp [cellsX, L[0].hl])
  exact World.block_lt_of_cell? _ _ h0
theorem PathsIn.mono {F G : Nat → Prop} {w : World} {v : Value} {L : List PathX} (h : PathsIn F w v L) (hd : ∀ k, k < w.heap.size → F k → G k) : PathsIn G w v L := by
  obtain ⟨ao, cap, rfl, h1, h2, h3, h4⟩ := h
  refine ⟨ao, cap, rfl, h1, h2, h3, fun hL => ?_⟩
  obtain ⟨b, off, rfl, hb, hr⟩ := h4 hL
  have hp : 0 < L.length := List.length_pos_iff.2 hL
  have h0 := hr 0 hp 20 (.string L[0].n) (by simp [cellsX, L[0].hl])
  exact ⟨b, off, rfl, hd b (World.block_lt_of_cell? _ _ h0) hb, hr⟩
theorem PathsIn.nil (F : Nat → Prop) (w : World) : PathsIn F w (.slice none 0 0) [] := ⟨none, 0, rfl, Nat.le_refl _, by simp [maxLen], fun _ => rfl, fun h => absurd rfl h⟩

theorem okWide_struct {P : Program} {w : World} {r : Reach} {base : Nat} {t : TypeId} {v : Value} {fs : Array Field} (ht : P.underlying t = some (.struct fs)) (h : Value.okWide P w r base t v) : ∃ cs, v = .agg cs ∧ cs.size = P.cellsOf t := by
  simp only [Value.okWide, ht] at h
  obtain ⟨cs, h1, h2, _⟩ := h
  exact ⟨cs, h1, h2⟩
theorem Try.cellsH : Try.prog.cellsOf 23 = 20 := by kernel_rfl
theorem Try.cellsS : Try.prog.cellsOf 9 = 1 := by kernel_rfl
theorem Try.cellsP : Try.prog.cellsOf 25 = 21 := by kernel_rfl
theorem Try.bytesP : Try.prog.bytesOf 25 = 40 := by kernel_rfl

section
variable {H : Type} {enc : TypeId × Value → H} {w : World} {base fuel : Nat} {held : Bool} {cs : List Value} {x : DataW H × List MemPlace}
theorem open_path (h : DataW.trod enc Try.prog w base (fun _ => true) held fuel 25 cs = some x) (hz : ∀ n ∈ x.1.weights Try.prog 25, n ≤ reachBytes) :
    ∃ p : PathX, cs = cellsX p ∧ p.n.size ≤ 140737488351232 := by
  obtain ⟨y0, y1, n, rfl, hl, hh, hn⟩ := trod_struct2 Try.underlying25 h
  simp only [Try.cellsH, Try.cellsS, List.drop_zero] at hh hn
  rw [Try.cellsP] at hl
  obtain ⟨Hh, hH, eH⟩ := open_arr Try.underlying23 Try.cellsH hh
  obtain ⟨N, eN, rfl, _⟩ := DataW.trod_string Try.underlying9 hn
  have hN : N.size ≤ 140737488351232 := by
    have hm := hz N.data.toList.length (by
      simp only [DataW.weights, Try.underlying25, List.map_cons, List.map_nil, DataW.weightsEach, List.mem_append]
      exact .inr (by simp))
    simpa [reachBytes] using hm
  refine ⟨⟨Hh, N, hH⟩, ?_, hN⟩
  have e : cs = cs.take 20 ++ (cs.drop 20).take 1 := by
    conv => lhs; rw [← List.take_append_drop 20 cs]
    congr 1
    rw [List.take_of_length_le (by rw [List.length_drop]; omega)]
  rw [e, eH, eN]
  rfl

theorem open_paths (h : DataW.trod enc Try.prog w base (fun _ => true) held fuel 37 cs = some x) (hz : ∀ n ∈ x.1.weights Try.prog 37, n ≤ reachBytes) :
    ∃ v L, cs = [v] ∧ PathsIn (fun k => k < w.heap.size) w v L ∧ L.length ≤ 140737488351232 ∧ ∀ p ∈ L, p.n.size ≤ 140737488351232 := by
  rcases open_slice Try.underlying37 h with ⟨rfl, _⟩ | ⟨a, len, cap, m, n, D, Pl, rfl, _, hl, hm, hmm, hx, hi⟩
  · exact ⟨_, [], rfl, PathsIn.nil _ _, by simp, by simp⟩
  · simp only [if_true] at hmm
    subst hmm
    rw [Try.cellsP] at hi
    have hw : ∀ k ∈ DataW.weightsAll Try.prog 25 ((List.range len).map D), k ≤ reachBytes := fun k hk => hz k (by
      rw [hx]; simp only [DataW.weights, Try.underlying37, List.mem_cons, List.mem_append]; exact .inr (.inl hk))
    have hm2 : m * 40 ≤ 140737488351232 := by
      have := hz ((len + (m - len)) * 40) (by rw [hx]; simp [DataW.weights, Try.underlying37, Try.bytesP])
      simp only [reachBytes] at this
      omega
    by_cases h0 : len = 0
    · subst h0
      refine ⟨_, [], rfl, ⟨some a, m, rfl, Nat.zero_le _, by unfold maxLen; omega, by simp, fun h => absurd rfl h⟩, by simp, by simp⟩
    · obtain ⟨b, off, spot⟩ := a
      have hone' : ∀ i, i < len → ∃ p : PathX, p.n.size ≤ 140737488351232 ∧ ∀ j v, (cellsX p)[j]? = some v → w.cell? ((((⟨b, off, spot⟩ : Addr).add (i * 21))).add j) = some v := by
        intro i hil
        obtain ⟨cs', hc, ht⟩ := hi i (by omega)
        obtain ⟨_, hcl, hat⟩ := World.cells?_some hc
        obtain ⟨p, rfl, hp⟩ := open_path ht (fun k hk => hw k (mem_weightsAll (List.mem_map_of_mem (List.mem_range.2 hil)) k hk))
        refine ⟨p, hp, fun j v hv => ?_⟩
        have hj := (List.getElem?_eq_some_iff.1 hv).1
        have := hat j (by omega)
        rw [this, hv]
      have hs : spot = none := by
        obtain ⟨p, _, hc⟩ := hone' 0 (by omega)
        have h0 := hc 0 ((cellsX p)[0]'(by rw [cellsX_length]; omega)) (List.getElem?_eq_getElem _)
        simpa [Addr.add] using World.cell?_spot h0
      subst hs
      have hone : ∀ i, ∃ p : PathX, i < len → p.n.size ≤ 140737488351232 ∧ w.rangeAt b (off + i * 21) (cellsX p) := by
        intro i
        by_cases hil : i < len
        · obtain ⟨p, hp, hc⟩ := hone' i hil
          refine ⟨p, fun _ => ⟨hp, fun j v hv => ?_⟩⟩
          have := hc j v hv
          rwa [addr_plain, addr_plain] at this
        · exact ⟨default, fun h => absurd h hil⟩
      obtain ⟨f, hf⟩ := Classical.axiomOfChoice hone
      have hlen : ((List.range len).map f).length = len := by simp
      have hbk : b < w.heap.size := World.block_lt_of_cell? _ _ ((hf 0 (by omega)).2 20 (.string (f 0).n) (by simp [cellsX, (f 0).hl]))
      refine ⟨_, (List.range len).map f, rfl, ⟨some ⟨b, off, none⟩, m, by rw [hlen], by rw [hlen]; exact hl, by unfold maxLen; omega, (fun h => by cases h), fun _ => ⟨b, off, rfl, hbk, fun i hi => ?_⟩⟩, by rw [hlen]; omega, ?_⟩
      · have : i < len := by omega
        simpa using (hf i this).2
      · intro p hp
        obtain ⟨i, hi, rfl⟩ := List.mem_map.1 hp
        exact (hf i (List.mem_range.1 hi)).1
end
end Go.Proofs.Ytdmlalnekjihfaa
