/- Rows of parts in memory; the law's size. -/
import Derived.Test.YthjpgnmpcllolaaAwake
namespace Go.Proofs.Ythjpgnmpcllolaa
open Go.RowKit Go.ChangeShapes
set_option linter.unusedVariables false

/-- A part: what, N, Most, and the value and the bytes of B. -/
structure PartD where
  what : Int
  n : Int
  most : Int
  x : Value
  B : List UInt8

/-- A number that an int holds. -/
def IntOk (n : Int) : Prop := -9223372036854775808 ≤ n ∧ n ≤ 9223372036854775807

/-- The cells of one part. -/
structure PartAt (F : Nat → Prop) (w : World) (b o : Nat) (p : PartD) : Prop where
  what : w.cell? ⟨b, o, none⟩ = some (.int .i64 p.what)
  n : w.cell? ⟨b, o + 1, none⟩ = some (.int .i64 p.n)
  most : w.cell? ⟨b, o + 2, none⟩ = some (.int .i64 p.most)
  cb : w.cell? ⟨b, o + 3, none⟩ = some p.x
  bytes : BytesIn F w p.x p.B
  in_ : F b
  wf : IntOk p.what ∧ IntOk p.n ∧ IntOk p.most

theorem PartAt.keep {F S : Nat → Prop} {w w' : World} {b o : Nat} {p : PartD} (h : PartAt F w b o p) (hf : Fr S w w') (hd : ∀ k, k < w.heap.size → F k → ¬ S k) : PartAt F w' b o p := by
  have hb : ¬ S b := hd b (World.block_lt_of_cell? _ _ h.what) h.in_
  exact ⟨hf.cell h.what hb, hf.cell h.n hb, hf.cell h.most hb, hf.cell h.cb hb, h.bytes.keep hf hd, h.in_, h.wf⟩

/-- A slice value that reads as a row of parts. -/
def PartsIn (F : Nat → Prop) (w : World) (v : Value) (l : List PartD) : Prop :=
  ∃ ao cap, v = .slice ao l.length cap ∧ l.length ≤ cap ∧ cap * 48 ≤ 140737488351232 ∧ (∀ p ∈ l, p.B.length ≤ 140737488351232) ∧
    (l ≠ [] → ∃ b off, ao = some ⟨b, off, none⟩ ∧ ∀ i (h : i < l.length), PartAt F w b (off + i * 4) l[i])

theorem PartsIn.keep {F S : Nat → Prop} {w w' : World} {v : Value} {l : List PartD} (h : PartsIn F w v l) (hf : Fr S w w') (hd : ∀ k, k < w.heap.size → F k → ¬ S k) : PartsIn F w' v l := by
  obtain ⟨ao, cap, hv, h1, h2, h3, h4⟩ := h
  refine ⟨ao, cap, hv, h1, h2, h3, fun hl => ?_⟩
  obtain ⟨b, off, ha, hi⟩ := h4 hl
  exact ⟨b, off, ha, fun i h => (hi i h).keep hf hd⟩

/-- How many bytes and parts there are, in all. -/
def bulkOf (l : List PartD) : Nat := l.length + (l.map (·.B.length)).sum

theorem sum_take_succ (l : List PartD) (k : Nat) (h : k < l.length) : ((l.take (k + 1)).map (·.B.length)).sum = ((l.take k).map (·.B.length)).sum + l[k].B.length := by
  rw [List.take_succ_eq_append_getElem h, List.map_append, List.sum_append]
  congr 1

theorem sum_take_le (l : List PartD) (k : Nat) : ((l.take k).map (·.B.length)).sum ≤ (l.map (·.B.length)).sum := by
  conv => rhs; rw [← List.take_append_drop k l]
  rw [List.map_append, List.sum_append]
  omega

set_option maxHeartbeats 1000000 in
/-- size: the bulk, where it is at most 4000; else something greater. -/
theorem size_any {F : Nat → Prop} {v : Value} {l : List PartD} (w : World) (h : PartsIn F w v l) :
    Calls Try.prog 7 #[v] w fun e w' => ∃ n : Nat, e = .returned (.int .i64 n) ∧ n ≤ 281474976714752 ∧ (n ≤ 4000 → n = bulkOf l) ∧ (bulkOf l ≤ 4000 → n = bulkOf l) ∧ ∃ k, w' = w.drewN k := by
  obtain ⟨ao, cap, rfl, h1, h2, h3, h4⟩ := h
  by_cases hl : l = []
  · subst hl
    go_enter Try.func7, Try.ntmps7
    go_wp2
    refine wp_loop_rounds 1 ?_
    rw [rounds_succ]
    go_wp2
    go_ret
    exact ⟨0, rfl, by omega, fun _ => rfl, fun _ => rfl, 0, rfl⟩
  · obtain ⟨b, off, rfl, hi⟩ := h4 hl
    obtain ⟨n, hn⟩ : ∃ n, n = l.length := ⟨_, rfl⟩
    rw [← hn] at h1 ⊢
    have HI := Lib.hid hi
    have HN := Lib.hid hn
    have H3 := Lib.hid h3
    clear hi hn h4 hl h3
    have hns : n ≤ 2932031007317 := by omega
    go_enter Try.func7, Try.ntmps7
    go_wp2
    go_loopw [3, 4] (fun s i wr => ∃ k t : Nat, k ≤ n ∧ i = .int .i64 k ∧ s = .int .i64 t ∧ Hid (t = n + ((l.take k).map (·.B.length)).sum) ∧ t ≤ 281474976714752 ∧ ∃ d, wr = w.drewN d) (fun _ i _ => n - (intOf i).toNat)
    case atStart => exact ⟨0, n, by omega, rfl, rfl, Lib.hid (by simp), by omega, 0, rfl⟩
    case round =>
      obtain ⟨k, t, hk, rfl, rfl, ht, htb, d, rfl⟩ := hrel
      by_cases hlt : k < n
      · by_cases ht4 : t ≤ 4000
        · have hp := HI.out k (by have := HN.out; omega)
          have hbl := H3.out l[k] (List.getElem_mem _)
          have hsum := sum_take_succ l k (by have := HN.out; omega)
          obtain ⟨ao', cap', hx, hl', hm', _⟩ := hp.bytes
          have hc := hp.cb
          rw [hx] at hc
          have HS := Lib.hid (show t + l[k].B.length = n + ((l.take (k + 1)).map (·.B.length)).sum by rw [hsum, ht.out]; omega)
          obtain ⟨q, hq⟩ : ∃ q, q = l[k].B.length := ⟨_, rfl⟩
          rw [← hq] at hc hbl HS hl'
          clear hp hsum hx hq
          go_wp2_with fail
          go_roundw
          case rel => exact ⟨k + 1, t + q, by omega, by go_num, by go_num, HS, by omega, d, rfl⟩
          case measure => simp [intOf]; omega
        · have hbig := Lib.hid (show 4000 < bulkOf l by have := sum_take_le l k; have := ht.out; have := HN.out; unfold bulkOf; omega)
          clear ht
          go_wp2_with fail
          go_ret
          exact ⟨t, rfl, htb, fun h => absurd h ht4, fun h => absurd hbig.out (by omega), d, rfl⟩
      · have hfin := Lib.hid (show t = bulkOf l by
          have := ht.out
          have hn := HN.out
          rw [List.take_of_length_le (by omega)] at this
          unfold bulkOf
          omega)
        clear ht
        go_wp2_with fail
        go_ret
        exact ⟨t, rfl, htb, fun _ => hfin.out, fun _ => hfin.out, d, rfl⟩
end Go.Proofs.Ythjpgnmpcllolaa
