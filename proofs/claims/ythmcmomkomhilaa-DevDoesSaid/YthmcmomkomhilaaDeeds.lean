/- Deeds of the laws in memory; arguments that came in, opened. -/
import Derived.Test.YthmcmomkomhilaaOpenArr
import Derived.Test.YthmcmomkomhilaaAwake4
import Derived.Deep.Fields
namespace Go.Proofs.Ythmcmomkomhilaa
open Go.RowKit Go.ChangeShapes Go.WideShapes Go.Deep
set_option linter.unusedVariables false

/-- A deed: what, N, Bit, and the value and the bytes of B. -/
structure DeedD where
  what : Int
  n : Int
  bit : Int
  x : Value
  B : List UInt8

/-- A number that an int holds. -/
def IntOk (n : Int) : Prop := -9223372036854775808 ≤ n ∧ n ≤ 9223372036854775807

/-- The cells of one deed. -/
structure DeedAt (F : Nat → Prop) (w : World) (b o : Nat) (p : DeedD) : Prop where
  what : w.cell? ⟨b, o, none⟩ = some (.int .i64 p.what)
  n : w.cell? ⟨b, o + 1, none⟩ = some (.int .i64 p.n)
  bit : w.cell? ⟨b, o + 2, none⟩ = some (.int .i64 p.bit)
  cb : w.cell? ⟨b, o + 3, none⟩ = some p.x
  bytes : BytesIn F w p.x p.B
  in_ : F b
  wf : IntOk p.what ∧ IntOk p.n ∧ IntOk p.bit

theorem DeedAt.keep {F S : Nat → Prop} {w w' : World} {b o : Nat} {p : DeedD} (h : DeedAt F w b o p) (hf : Fr S w w') (hd : ∀ k, k < w.heap.size → F k → ¬ S k) : DeedAt F w' b o p := by
  have hb : ¬ S b := hd b (World.block_lt_of_cell? _ _ h.what) h.in_
  exact ⟨hf.cell h.what hb, hf.cell h.n hb, hf.cell h.bit hb, hf.cell h.cb hb, h.bytes.keep hf hd, h.in_, h.wf⟩

/-- A slice value that reads as a row of deeds. -/
def DeedsIn (F : Nat → Prop) (w : World) (v : Value) (l : List DeedD) : Prop :=
  ∃ ao cap, v = .slice ao l.length cap ∧ l.length ≤ cap ∧ l.length * 48 ≤ 140737488351232 ∧ (∀ p ∈ l, p.B.length ≤ 140737488351232) ∧
    (l ≠ [] → ∃ b off, ao = some ⟨b, off, none⟩ ∧ ∀ i (h : i < l.length), DeedAt F w b (off + i * 4) l[i])

theorem DeedsIn.keep {F S : Nat → Prop} {w w' : World} {v : Value} {l : List DeedD} (h : DeedsIn F w v l) (hf : Fr S w w') (hd : ∀ k, k < w.heap.size → F k → ¬ S k) : DeedsIn F w' v l := by
  obtain ⟨ao, cap, hv, h1, h2, h3, h4⟩ := h
  refine ⟨ao, cap, hv, h1, h2, h3, fun hl => ?_⟩
  obtain ⟨b, off, ha, hi⟩ := h4 hl
  exact ⟨b, off, ha, fun i h => (hi i h).keep hf hd⟩

theorem sum_take_succ (l : List DeedD) (k : Nat) (h : k < l.length) : ((l.take (k + 1)).map (·.B.length)).sum = ((l.take k).map (·.B.length)).sum + l[k].B.length := by
  rw [List.take_succ_eq_append_getElem h, List.map_append, List.sum_append]
  congr 1

theorem sum_take_le (l : List DeedD) (k : Nat) : ((l.take k).map (·.B.length)).sum ≤ (l.map (·.B.length)).sum := by
  conv => rhs; rw [← List.take_append_drop k l]
  rw [List.map_append, List.sum_append]
  omega

section
variable {H : Type} {enc : TypeId × Value → H} {w : World} {base fuel : Nat} {held : Bool} {cs : List Value} {x : DataW H × List MemPlace}

theorem list4 {α : Type} {l : List α} (h : l.length = 4) : ∃ a b c d, l = [a, b, c, d] := by
  match l, h with
  | [a, b, c, d], _ => exact ⟨a, b, c, d, rfl⟩

theorem Try.bytesDe : Try.prog.bytesOf 35 = 48 := by kernel_rfl
theorem Try.cellsDe : Try.prog.cellsOf 35 = 4 := by kernel_rfl

theorem Try.cellsI : Try.prog.cellsOf 3 = 1 := by kernel_rfl
theorem Try.cellsS : Try.prog.cellsOf 33 = 1 := by kernel_rfl

/-- One deed. -/
theorem open_deed {n : Nat} {y : DataW H × List MemPlace} {b o : Nat} (hF : b < w.heap.size) (hc : ∀ i, i < 4 → w.cell? ⟨b, o + i, none⟩ = cs[i]?) (h : DataW.trod enc Try.prog w base (fun _ => true) held n 35 cs = some y)
    (hz : ∀ n ∈ y.1.weights Try.prog 35, n ≤ reachBytes) :
    ∃ p : DeedD, DeedAt (fun k => k < w.heap.size) w b o p ∧ p.B.length ≤ 140737488351232 := by
  obtain ⟨xs, m, _, hy, hcl, hxl, hf⟩ := DataW.trod_struct Try.underlying35 h
  rw [Try.cellsDe] at hcl
  obtain ⟨c0, c1, c2, c3, rfl⟩ := list4 hcl
  obtain ⟨y0, y1, y2, y3, rfl⟩ := list4 (l := xs) hxl
  have e0 : DataW.trod enc Try.prog w base (fun _ => true) held m 3 [c0] = some y0 := by
    have h : DataW.trod enc Try.prog w base (fun _ => true) held m 3 (([c0, c1, c2, c3].drop 0).take (Try.prog.cellsOf 3)) = some y0 := hf 0 _ rfl
    rw [Try.cellsI] at h
    exact h
  have e1 : DataW.trod enc Try.prog w base (fun _ => true) held m 3 [c1] = some y1 := by
    have h : DataW.trod enc Try.prog w base (fun _ => true) held m 3 (([c0, c1, c2, c3].drop 1).take (Try.prog.cellsOf 3)) = some y1 := hf 1 _ rfl
    rw [Try.cellsI] at h
    exact h
  have e2 : DataW.trod enc Try.prog w base (fun _ => true) held m 3 [c2] = some y2 := by
    have h : DataW.trod enc Try.prog w base (fun _ => true) held m 3 (([c0, c1, c2, c3].drop 2).take (Try.prog.cellsOf 3)) = some y2 := hf 2 _ rfl
    rw [Try.cellsI] at h
    exact h
  have e3 : DataW.trod enc Try.prog w base (fun _ => true) held m 33 [c3] = some y3 := by
    have h : DataW.trod enc Try.prog w base (fun _ => true) held m 33 (([c0, c1, c2, c3].drop 3).take (Try.prog.cellsOf 33)) = some y3 := hf 3 _ rfl
    rw [Try.cellsS] at h
    exact h
  obtain ⟨n0, r0, _, w0⟩ := DataW.trod_int Try.underlying3 e0
  obtain ⟨n1, r1, _, w1⟩ := DataW.trod_int Try.underlying3 e1
  obtain ⟨n2, r2, _, w2⟩ := DataW.trod_int Try.underlying3 e2
  simp only [List.cons.injEq, and_true] at r0 r1 r2
  subst r0 r1 r2
  obtain ⟨v, L, r3, hB, hL⟩ := open_bytes e3 (fun k hk => hz k (by rw [hy]; simp only [DataW.weights, Try.underlying35]; exact DataW.weights_mem_each (j := 3) (t := 33) (d := y3.1) rfl rfl k hk))
  simp only [List.cons.injEq, and_true] at r3
  subst r3
  exact ⟨⟨n0, n1, n2, _, L⟩, ⟨hc 0 (by decide), hc 1 (by decide), hc 2 (by decide), hc 3 (by decide), hB, hF, bounds_i64 w0, bounds_i64 w1, bounds_i64 w2⟩, hL⟩

theorem open_deeds (h : DataW.trod enc Try.prog w base (fun _ => true) held fuel 22 cs = some x) (hz : ∀ n ∈ x.1.weights Try.prog 22, n ≤ reachBytes) :
    ∃ v l, cs = [v] ∧ DeedsIn (fun k => k < w.heap.size) w v l := by
  rcases open_slice Try.underlying22 h with ⟨rfl, _⟩ | ⟨a, len, cap, m, n, D, Pl, rfl, _, hl, hm, hmm, hx, hi⟩
  · exact ⟨_, [], rfl, none, 0, rfl, Nat.le_refl _, by simp, by simp, fun h => absurd rfl h⟩
  · simp only [if_true] at hmm
    subst hmm
    rw [Try.cellsDe] at hi
    have hw : ∀ k ∈ DataW.weightsAll Try.prog 35 ((List.range len).map D), k ≤ reachBytes := fun k hk => hz k (by
      rw [hx]; simp only [DataW.weights, Try.underlying22, List.mem_cons, List.mem_append]; exact .inr (.inl hk))
    have hm : m * 48 ≤ 140737488351232 := by
      have := hz ((len + (m - len)) * 48) (by rw [hx]; simp [DataW.weights, Try.underlying22, Try.bytesDe])
      simp only [reachBytes] at this
      omega
    by_cases h0 : len = 0
    · subst h0
      exact ⟨_, [], rfl, some a, m, rfl, Nat.zero_le _, by simp, by simp, fun h => absurd rfl h⟩
    · obtain ⟨b, off, spot⟩ := a
      have hs : spot = none := by
        obtain ⟨cs', hc, ht⟩ := hi 0 (by omega)
        obtain ⟨_, hcl, hat⟩ := World.cells?_some hc
        have := hat 0 (by decide)
        obtain ⟨c0, c1, c2, c3, rfl⟩ := list4 hcl
        simpa [Addr.add] using World.cell?_spot this
      subst hs
      have hone : ∀ i, ∃ p : DeedD, i < len → DeedAt (fun k => k < w.heap.size) w b (off + i * 4) p ∧ p.B.length ≤ 140737488351232 := by
        intro i
        by_cases hil : i < len
        · obtain ⟨cs', hc, ht⟩ := hi i (by omega)
          obtain ⟨_, hcl, hat⟩ := World.cells?_some hc
          have hat' : ∀ j, j < 4 → w.cell? ⟨b, off + i * 4 + j, none⟩ = cs'[j]? := fun j hj => by
            have := hat j hj
            rwa [addr_plain, addr_plain] at this
          have hb : b < w.heap.size := by
            have := hat' 0 (by decide)
            rw [List.getElem?_eq_getElem (by omega)] at this
            exact World.block_lt_of_cell? _ _ this
          obtain ⟨p, hp⟩ := open_deed hb hat' ht (fun k hk => hw k (mem_weightsAll (List.mem_map_of_mem (List.mem_range.2 hil)) k hk))
          exact ⟨p, fun _ => hp⟩
        · exact ⟨⟨0, 0, 0, .nilFunc, []⟩, fun h => absurd h hil⟩
      obtain ⟨f, hf⟩ := Classical.axiomOfChoice hone
      have hlen : ((List.range len).map f).length = len := by simp
      refine ⟨_, (List.range len).map f, rfl, some ⟨b, off, none⟩, m, by rw [hlen], by rw [hlen]; exact hl, by rw [hlen]; omega, ?_, fun _ => ⟨b, off, rfl, fun i hi => ?_⟩⟩
      · intro p hp
        obtain ⟨i, hi, rfl⟩ := List.mem_map.1 hp
        exact (hf i (List.mem_range.1 hi)).2
      · have : i < len := by omega
        simpa using (hf i this).1
end

end Go.Proofs.Ythmcmomkomhilaa
