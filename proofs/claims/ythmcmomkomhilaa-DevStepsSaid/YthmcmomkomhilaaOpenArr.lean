/- Arguments that came in, opened: arrays of bytes, by value. -/
import Derived.Test.YthmcmomkomhilaaBase
import Derived.ProofKit
import Derived.OpenShut
import Derived.SizedLaws
import Derived.Deep.Slices
import Derived.Carry
namespace Go.Proofs.Ythmcmomkomhilaa
open Go.RowKit Go.ChangeShapes Go.WideShapes Go.Deep
set_option linter.unusedVariables false

theorem u8_of_wf {n : Int} (h : (Lit.int .u8 n).wf = true) : ((UInt8.ofNat n.toNat).toNat : Int) = n := by
  obtain ⟨h0, h1⟩ := bounds_u8 h
  rw [UInt8.toNat_ofNat']
  omega
theorem Try.cellsB : Try.prog.cellsOf 5 = 1 := by kernel_rfl
theorem Try.bytesB : Try.prog.bytesOf 5 = 1 := by kernel_rfl

section
variable {H : Type} {enc : TypeId × Value → H} {w : World} {base fuel : Nat} {held : Bool} {cs : List Value} {x : DataW H × List MemPlace}

theorem open_arr {t : TypeId} {n : Nat} (ht : Try.prog.underlying t = some (.array n 5)) (hc : Try.prog.cellsOf t = n) (h : DataW.trod enc Try.prog w base (fun _ => true) held fuel t cs = some x) :
    ∃ L : List UInt8, L.length = n ∧ cs = L.map bv := by
  obtain ⟨xs, m, rfl, _, hl, hn, hi⟩ := DataW.trod_array ht h
  rw [hc] at hl
  refine ⟨cs.map fun v => match v with | .int _ z => UInt8.ofNat z.toNat | _ => 0, by simpa using hl, ?_⟩
  rw [List.map_map]
  apply List.ext_getElem?
  intro i
  rw [List.getElem?_map]
  by_cases hin : i < n
  · have h1 := hi i hin
    rw [Try.cellsB, Nat.mul_one] at h1
    have hx : xs[i]? = some (xs[i]'(by omega)) := List.getElem?_eq_getElem (by omega)
    rw [hx] at h1
    obtain ⟨z, e1, _, e3⟩ := DataW.trod_int Try.underlying5 h1
    have h2 : cs[i]? = some (.int .u8 z) := by
      have := congrArg (·[0]?) e1
      simpa [List.getElem?_take, List.getElem?_drop] using this
    rw [h2]
    simp only [Option.map_some, Function.comp, bv, u8_of_wf e3]
  · rw [List.getElem?_eq_none (by omega)]
    rfl

theorem open_bytes (h : DataW.trod enc Try.prog w base (fun _ => true) held fuel 33 cs = some x) (hz : ∀ n ∈ x.1.weights Try.prog 33, n ≤ reachBytes) :
    ∃ v L, cs = [v] ∧ BytesIn (fun k => k < w.heap.size) w v L ∧ L.length ≤ 140737488351232 := by
  rcases open_ints Try.underlying33 Try.underlying5 Try.cellsB h with ⟨rfl, _⟩ | ⟨a, len, cap, zs, rfl, _, hl, hm, hzl, hx, hc, hwf⟩
  · exact ⟨_, [], rfl, BytesIn.nil _ _, by simp⟩
  · simp only [if_true] at hzl
    have hlen : ((zs.take len).map fun z => UInt8.ofNat z.toNat).length = len := by rw [List.length_map, List.length_take]; omega
    refine ⟨_, (zs.take len).map fun z => UInt8.ofNat z.toNat, rfl, ⟨some a, cap, by rw [hlen], by rw [hlen]; exact hl, hm, (fun h => by cases h), ?_⟩, ?_⟩
    · intro a' ha
      cases ha
      refine ⟨fun j u hu => ?_, fun hL => ?_⟩
      · have hj : j < len := by have := (List.getElem?_eq_some_iff.1 hu).1; rw [List.length_map, hlen] at this; exact this
        have hjz : j < zs.length := by omega
        rw [hc j hjz]
        have hmem := hwf (zs[j]) (List.getElem_mem _)
        rw [List.getElem?_map, List.getElem?_map, List.getElem?_take, if_pos hj, List.getElem?_eq_getElem hjz] at hu
        simp only [Option.map_some, Option.some.injEq] at hu
        rw [← hu, bv, u8_of_wf hmem]
        simp [List.getD, List.getElem?_eq_getElem hjz]
      · have hp : 0 < len := by have := List.length_pos_iff.2 hL; omega
        have := World.block_lt_of_cell? _ _ (hc 0 (by omega))
        rwa [add_block] at this
    · rw [hlen]
      have := hz ((zs.take len).length + (zs.drop len).length) (by rw [hx]; simp [DataW.weights, Try.underlying33, Try.bytesB, lits])
      rw [List.length_take, List.length_drop] at this
      simp only [reachBytes] at this
      omega
theorem mem_weightsAll {P : Program} {e : TypeId} : ∀ {ds : List (DataW H)} {d : DataW H}, d ∈ ds → ∀ n ∈ d.weights P e, n ∈ DataW.weightsAll P e ds
  | d0 :: ds, d, hd, n, hn => by
    simp only [DataW.weightsAll, List.mem_append]
    rcases List.mem_cons.1 hd with rfl | hd
    · exact .inl hn
    · exact .inr (mem_weightsAll hd n hn)
end
end Go.Proofs.Ythmcmomkomhilaa
