/- The document's own device: a pending write is kept. -/
import Derived.Test.YthmcmomkomhilaaRDev1
import Derived.Test.YthmcmomkomhilaaInv
import Derived.Laws.CopyRow
import Derived.Deep.RegionLawGrows
namespace Go.Proofs.Ythmcmomkomhilaa
open Go.RowKit Go.ChangeShapes
set_option linter.unusedVariables false

theorem step_copy_sec {ops : Array Oper} {o : Oper} {a : Act} {w : World} {K : Act → World → Prop} {Q : Exit → Act → World → Prop} {E : Prop}
    (hgd : o.guard = none) (d s : Operand) (ho : o.op = .call { callee := .builtin .copy, args := #[d, s], argTypes := #[33, 33] })
    (ga gb q m : Nat) (L b : List UInt8) (hd : a.eval d = .slice (some ⟨ga, q, none⟩) (m - q) (m - q)) (hx : a.eval s = .slice (some ⟨gb, 0, none⟩) 64 64)
    (hL : BytT w ga 5 L) (hb : BytT w gb 5 b) (hm : L.length = m) (hq : q + 64 ≤ m) (hbl : b.length = 64) (C : Array Value) (hC : C = ((L.take q ++ b ++ L.drop (q + 64)).map bv).toArray)
    (hK : ∀ v, K (a.put o.dst v) (w.setRow ga C)) :
    if Region.wanted o (yielded ops a.tmps) = true then Oper.wp Try.prog o a w K Q else E := by
  have hw : Region.wanted o (yielded ops a.tmps) = true := by simp [Region.wanted, hgd]
  rw [if_pos hw]
  have hr := run_copy_row (P := Try.prog) w 33 33 o.type 5 ga q (m - q) (m - q) ⟨gb, 0, none⟩ 64 64 (L.map bv).toArray 5 (b.map bv) Try.underlying33 (by kernel_rfl) hL (by rw [List.length_map, hbl]; exact (Nat.min_eq_left (by omega)).symm)
    (fun j v hv => by
      rw [addr_plain, Nat.zero_add, cell_of_row _ _ _ _ _ _ hb]
      simpa using hv) (by rw [List.length_map, hbl, List.size_toArray, List.length_map, hm]; exact hq) (bv_one _)
  have e : ((L.map bv).toArray.toList.take q ++ b.map bv ++ (L.map bv).toArray.toList.drop (q + (b.map bv).length)).toArray = ((L.take q ++ b ++ L.drop (q + 64)).map bv).toArray := by
    simp [hbl]
  rw [e, ← hC] at hr
  unfold Oper.wp execOp
  simp only [ho, resolve, invoke, builtin, Sem.run_bind, Sem.run_pure, Result.andThen_ok, List.map_toArray, List.map_cons, List.map_nil, hd, hx, hr]
  exact hK _

theorem rkeep_any (w : World) (g ga gb s a : Nat) (L b : List UInt8) (vw : Value) (k l : Int) (dn : Bool) (h : DevH w g (.slice (some ⟨ga, 0, none⟩) (64 * s) (64 * s)) vw k l dn) (hL : BytT w ga 5 L) (hl : L.length = 64 * s) (hb : BytT w gb 5 b) (hbl : b.length = 64) (ha : a < s) (hs : s ≤ 8192) :
    Calls Try.prog 49 #[.pointer (some ⟨g, 0, none⟩), .agg #[.int .i64 a, .slice (some ⟨gb, 0, none⟩) 64 64]] w fun e w' => e = .returned (.tuple #[]) ∧ BytT w' ga 5 (putSec L a b) ∧ Fr (· = ga) w w' := by
  obtain ⟨m, hm⟩ : ∃ m : Nat, m = 64 * s := ⟨_, rfl⟩
  obtain ⟨q, hq⟩ : ∃ q : Nat, q = 64 * a := ⟨_, rfl⟩
  have hqm : q + 64 ≤ m := by omega
  have e1 : (a : Int) * 64 = (q : Int) := by omega
  have hput : putSec L a b = L.take q ++ b ++ L.drop (q + 64) := by rw [putSec, hq]
  rw [hput]
  rw [← hm] at h hl
  have hm6 : m ≤ 524288 := by omega
  have hcut := fun W => run_cutLow W (some ⟨ga, 0, none⟩) m m q (by omega)
  have ec : cutLow (some ⟨ga, 0, none⟩) q m = some ⟨ga, q, none⟩ := by
    rw [cutLow, if_neg (by omega)]
    simp [Addr.add]
    omega
  rw [ec] at hcut
  have hwr : IntKind.i64.wrap (q : Int) = (q : Int) := by
    simp [IntKind.wrap, IntKind.bits, IntKind.signed]
    omega
  have hq0 : (0 : Int) ≤ (q : Int) := by omega
  have hq1 : (q : Int) ≤ (m : Int) := by omega
  have hne : ¬ m = q := by omega
  obtain ⟨W, hW⟩ : ∃ W, W = w.alloc (.cells #[.int .i64 a, .slice (some ⟨gb, 0, none⟩) 64 64] 73) := ⟨_, rfl⟩
  have hF : Fr (fun _ => False) w W := by rw [hW]; exact (Fr.refl _ _).alloc _
  have hbx : W.heap[w.heap.size]? = some (.cells #[.int .i64 a, .slice (some ⟨gb, 0, none⟩) 64 64] 73 (0, 0)) := by rw [hW]; exact heap_alloc_new w _
  have c0 : W.cell? ⟨w.heap.size, 0, none⟩ = some (.int .i64 a) := cell_of_row _ _ _ _ _ _ hbx
  have c1 : W.cell? ⟨w.heap.size, 1, none⟩ = some (.slice (some ⟨gb, 0, none⟩) 64 64) := cell_of_row _ _ _ _ _ _ hbx
  obtain ⟨d0, _⟩ := (h.keep hF (fun h => h)).cells
  have HL := Lib.hid (show BytT W ga 5 L from hF.heap hL (fun h => h))
  have HB := Lib.hid (show BytT W gb 5 b from hF.heap hb (fun h => h))
  have HF := Lib.hid hF
  have HWL := Lib.hid hW
  obtain ⟨C, hC⟩ : ∃ C, C = ((L.take q ++ b ++ L.drop (q + 64)).map bv).toArray := ⟨_, rfl⟩
  have HC := Lib.hid hC
  clear h hL hb hF hbx ec hput hW hm hq hC
  go_enter Try.func49, Try.ntmps49
  go_wp2_with fail
  rw [← HWL.out]
  generalize w.heap.size = gx at *
  go_region_law (refine step_copy_sec rfl (.tmp 11) (.tmp 13) rfl ga gb q m L b (by simp [Act.eval, Act.put]) (by simp [Act.eval, Act.put]) HL.out HB.out hl hqm hbl C HC.out ?_; intro v2)
  all_goals (
    go_wp2
    refine bodyPost_end (results_none rfl _ _ _) rfl ?_
    refine ⟨rfl, ?_, ?_⟩
    · rw [BytT, ← HC.out]; exact setRow_heap _ _ _ _ _ (0, 0) (show _ from HL.out)
    · exact (HF.out.mono (T := (· = ga)) (fun _ _ h => h.elim)).drew.setRow (.inl rfl) _)
end Go.Proofs.Ythmcmomkomhilaa
