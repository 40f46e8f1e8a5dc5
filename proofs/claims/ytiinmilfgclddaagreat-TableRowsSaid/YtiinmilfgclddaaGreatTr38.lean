/- Laid together by merge.py: TSame -/
import Derived.Test.YtiinmilfgclddaaGreatTr27
import Derived.Test.YtiinmilfgclddaaGreatTr0
import Derived.Deep.QuietTactic
import Derived.BigQuiet

/- Contract: spencelaw06.sameRows, of the same rows. -/
namespace Go.Proofs.YtiinmilfgclddaaGreat
open Go.RowKit Go.ChangeShapes
set_option linter.unusedVariables false

/-- It is a slice of that length; where it has an element, the cells of each. -/
theorem RwsIn.open6 {F : Nat → Prop} {w : World} {v : Value} {l : List RowD} (h : RwsIn F w v l) : ∃ ao cap, v = .slice ao l.length cap ∧ l.length ≤ cap ∧ cap ≤ 9223372036854775807 ∧
    ∃ b off, (0 < l.length → ao = some ⟨b, off, none⟩ ∧ F b) ∧ ∀ i (h : i < l.length), w.cell? ⟨b, off + i * 2, none⟩ = some (.string l[i].key) ∧ w.cell? ⟨b, off + i * 2 + 1, none⟩ = some l[i].x := by
  obtain ⟨ao, cap, hv, h1, h2, h3, h4⟩ := h.el
  rw [List.length_map] at hv h1
  refine ⟨ao, cap, hv, h1, h2, ?_⟩
  by_cases hl : l = []
  · subst hl
    exact ⟨0, 0, fun h => by simp at h, fun i h => by simp at h⟩
  · obtain ⟨b, off, ha, hF, hi⟩ := h4 (by simpa using hl)
    refine ⟨b, off, fun _ => ⟨ha, hF⟩, fun i h => ?_⟩
    have g := fun j hj => hi i (by simpa using h) j hj
    have g0 := g 0 (by decide)
    have g1 := g 1 (by decide)
    rw [List.getElem_map] at g0 g1
    exact ⟨g0, g1⟩
set_option maxRecDepth 100000 in
set_option maxHeartbeats 4000000 in
theorem sameRows_yes {F G : Nat → Prop} (w : World) (va vb : Value) (la lb : List RowD) (ha : RwsIn F w va la) (hb : RwsIn G w vb lb) (he : la.map RowD.row = lb.map RowD.row) (hn : la.length ≤ 1000000) :
    Calls Tryz.prog 20 #[va, vb] w fun e w' => e = .returned (.bool true) ∧ Fr (fun _ => False) w w' := by
  obtain ⟨ao, ca, rfl, _, _, b1, o1, hao, hca⟩ := ha.open6
  obtain ⟨bo, cb, rfl, _, _, b2, o2, hbo, hcb⟩ := hb.open6
  have hl : lb.length = la.length := by have := congrArg List.length he; simpa using this.symm
  obtain ⟨n, hnn⟩ : ∃ n, n = la.length := ⟨_, rfl⟩
  rw [hl]
  rw [hl] at hbo
  rw [← hnn] at hn hao hbo hl ⊢
  have HN := Lib.hid (And.intro hnn hl)
  have HE := Lib.hid he
  have HA := Lib.hid (And.intro ha (And.intro hao hca))
  have HB := Lib.hid (And.intro hb (And.intro hbo hcb))
  clear ha hb hao hbo hca hcb hnn he hl
  go_enter Tryz.func20, Tryz.ntmps20
  go_wp2
  go_loopw [5] (fun iv wr => ∃ i : Nat, i ≤ n ∧ iv = .int .i64 i ∧ Hid (Fr (fun _ => False) w wr)) (fun iv _ => n - (intOf iv).toNat)
  case atStart => exact ⟨0, by omega, rfl, Lib.hid (Fr.refl _ _)⟩
  case round =>
    obtain ⟨i, hi, rfl, hR⟩ := hrel
    by_cases hlt : i < n
    · have hia : i < la.length := by have := HN.out; omega
      have hib : i < lb.length := by have := HN.out; omega
      obtain ⟨rfl, _⟩ := HA.out.2.1 (by omega)
      obtain ⟨rfl, _⟩ := HB.out.2.1 (by omega)
      obtain ⟨e0, e1⟩ := HA.out.2.2 i hia
      obtain ⟨f0, f1⟩ := HB.out.2.2 i hib
      have hrow : la[i].row = lb[i].row := by
        have h1 : (la.map RowD.row)[i]? = (lb.map RowD.row)[i]? := by rw [HE.out]
        rw [List.getElem?_map, List.getElem?_map, List.getElem?_eq_getElem hia, List.getElem?_eq_getElem hib] at h1
        exact Option.some.inj h1
      obtain ⟨key, x, B, hp⟩ : ∃ key x B, la[i] = (⟨key, x, B⟩ : RowD) := ⟨_, _, _, rfl⟩
      obtain ⟨key2, y, C, hq⟩ : ∃ key x B, lb[i] = (⟨key, x, B⟩ : RowD) := ⟨_, _, _, rfl⟩
      rw [hp, hq] at hrow
      simp only [RowD.row, Prod.mk.injEq] at hrow
      obtain ⟨hk, rfl⟩ := hrow
      have hk2 : key2 = key := ByteArray.ext (Array.toList_inj.1 hk.symm)
      subst hk2
      have hbx := HA.out.1.bytes _ (List.getElem_mem hia)
      have hby := HB.out.1.bytes _ (List.getElem_mem hib)
      rw [hp] at e0 e1 hbx
      rw [hq] at f0 f1 hby
      simp only at e0 e1 hbx f0 f1 hby
      obtain ⟨ax, cx, rfl, _⟩ := id hbx
      obtain ⟨ay, cy, rfl, _⟩ := id hby
      have g0 := hR.out.cell e0 id
      have g1 := hR.out.cell e1 id
      have h0 := hR.out.cell f0 id
      have h1 := hR.out.cell f1 id
      have HSA := Lib.hid (fun (m : Nat) => same_any _ _ B B (wr.drewN m) ((hbx.keep hR.out (fun _ _ _ h => h)).keep ((Fr.refl (fun _ => False) wr).drewN m) (fun _ _ _ h => h)) ((hby.keep hR.out (fun _ _ _ h => h)).keep ((Fr.refl (fun _ => False) wr).drewN m) (fun _ _ _ h => h)))
      rw [show sameB B B = true by simp [sameB]] at HSA
      have d1 : (i : Int) < (n : Int) := by omega
      have d2 : (key2.toList == key2.toList) = true := by simp
      clear e0 e1 f0 f1 hk hbx hby hp hq
      go_wp2_with fail
      go_quiet ((go_at_call 21; exact Calls.quiet_of (HSA.out _)))
      go_wp2_with fail
      go_roundw
      case rel => exact ⟨i + 1, by omega, by go_num, Lib.hid (hR.out.trans ((Fr.refl (fun _ => False) wr).drewN _) (fun _ h => h.elim))⟩
      case measure => simp [intOf]; omega
    · obtain rfl : i = n := by omega
      go_wp2
      go_ret
      exact ⟨rfl, hR.out⟩
end Go.Proofs.YtiinmilfgclddaaGreat

