/- Contract of base.letterValues: the letters' values, in a map; and what a look into it tells. -/
import Derived.Test.YtdmlalnekjihfaaBLetters
import Derived.Maps.OwnSet
import Derived.Lib.OthersKept
import Derived.Laws.RangeAny
import Derived.Deep.LoopGhost
namespace Go.Proofs.Ytdmlalnekjihfaa
open Go.RowKit Go.ChangeShapes Go.WideMaps Go.Maps
set_option linter.unusedVariables false

theorem lawR : Keyed Try.prog 21 := int_keyed Try.underlying21
theorem zero_int (w : World) : (zeroValue 3).run Try.prog w = .ok (.int .i64 0) w := by kernel_rfl

theorem isKey_int (q : IntKind) (n : Int) : WideAt.IsKeyLit (Lit.int q n) := trivial

/-- The values of the first k letters. -/
def valsD : Nat → DataW Unit
  | 0 => .map []
  | k + 1 => (valsD k).put (.int .i32 (abc.getD k 0).toNat) (.lit (.int .i64 k))
theorem valsD_isMap (k : Nat) : IsMap (valsD k) := by
  induction k with
  | zero => exact isMap_empty
  | succ k ih => exact ih.put _ _
theorem valsD_none (r : Int) (k : Nat) (h : ∀ j, j < k → ((abc.getD j 0).toNat : Int) ≠ r) : Maps.has (valsD k) (.int .i32 r) = false := by
  induction k with
  | zero => rfl
  | succ k ih =>
    rw [valsD, has_put_other (by intro e; injection e with _ e2; exact h k (by omega) e2.symm)]
    exact ih (fun j hj => h j (by omega))
theorem abc_ne : ∀ i j : Fin 32, i ≠ j → (abc.getD i.val 0).toNat ≠ (abc.getD j.val 0).toNat := by decide +kernel
theorem valsD_at (j k : Nat) (hk : k ≤ 32) (h : j < k) : Maps.has (valsD k) (.int .i32 (abc.getD j 0).toNat) = true ∧ ∀ z, (valsD k).atKey (.int .i32 (abc.getD j 0).toNat) z = .lit (.int .i64 j) := by
  induction k with
  | zero => omega
  | succ k ih =>
    by_cases e : j = k
    · subst e
      exact ⟨has_put_same (valsD_isMap _) (isKey_int _ _) _, fun z => atKey_put_same (valsD_isMap _) (isKey_int _ _) _ z⟩
    · have hne : Lit.int .i32 ((abc.getD j 0).toNat : Int) ≠ Lit.int .i32 ((abc.getD k 0).toNat : Int) := by
        intro e1
        injection e1 with _ e2
        have h3 := abc_ne ⟨j, by omega⟩ ⟨k, by omega⟩ (by intro h4; exact e (Fin.mk.inj h4))
        apply h3
        show (abc.getD j 0).toNat = (abc.getD k 0).toNat
        omega
      obtain ⟨h1, h2⟩ := ih (by omega) (by omega)
      exact ⟨by rw [valsD, has_put_other hne]; exact h1, fun z => by rw [valsD, atKey_put_other hne]; exact h2 z⟩

/-- The letters' values lie in block B. -/
def ValsAt (W : World) (B : Nat) : Prop := ∃ n, W.ownsMap Try.prog 21 (plainElem (H := Unit) Try.prog 3) B n (valsD 32)
theorem ValsAt.look {W : World} {B : Nat} (h : ValsAt W B) (r : Int) (hr : (Lit.int .i32 r).wf = true) :
    ∃ c : Int, (Instr.lookup 46 (.map (some B)) (.int .i32 r) true).run Try.prog W = .ok (.tuple #[.int .i64 c, .bool (Maps.has (valsD 32) (.int .i32 r))]) W ∧ (valsD 32).atKey (.int .i32 r) (.lit (.int .i64 0)) = .lit (.int .i64 c) := by
  obtain ⟨n, hown⟩ := h
  obtain ⟨v, ps, hrun, hv⟩ := hown.look_ok lawR Try.underlying46 (zero_int W) (plainElem_int Try.underlying3 (by decide)) (keyOf_int_mk Try.underlying21 hr)
  obtain ⟨c, rfl, hc, hwc⟩ := plainElem_int_inv Try.underlying3 hv
  exact ⟨c, hrun, congrArg Prod.fst hc⟩
theorem ValsAt.yes {W : World} {B : Nat} (h : ValsAt W B) (c : UInt8) (v : Nat) (hv : valI c = v) :
    (Instr.lookup 46 (.map (some B)) (.int .i32 c.toNat) true).run Try.prog W = .ok (.tuple #[.int .i64 v, .bool true]) W := by
  have hc := c.toNat_lt
  obtain ⟨x, hrun, hat⟩ := h.look (c.toNat : Int) (by simp [Lit.wf, IntKind.min, IntKind.max, IntKind.bits, IntKind.signed]; omega)
  have hcs : 0 ≤ valI c ∧ valI c < 32 ∧ abc.getD (valI c).toNat 0 = c := by
    rcases valI_cases c with h1 | h1
    · omega
    · exact h1
  rw [hv, Int.toNat_natCast] at hcs
  obtain ⟨h1, h2⟩ := valsD_at v 32 (Nat.le_refl _) (by omega)
  rw [hcs.2.2] at h1 h2
  rw [h2] at hat
  injection hat with e1
  injection e1 with _ e2
  rw [hrun, h1, ← e2]
theorem ValsAt.no {W : World} {B : Nat} (h : ValsAt W B) (r : Int) (hr : (Lit.int .i32 r).wf = true) (hn : ∀ j, j < 32 → ((abc.getD j 0).toNat : Int) ≠ r) :
    (Instr.lookup 46 (.map (some B)) (.int .i32 r) true).run Try.prog W = .ok (.tuple #[.int .i64 0, .bool false]) W := by
  obtain ⟨x, hrun, hat⟩ := h.look r hr
  have h1 := valsD_none r 32 hn
  rw [atKey_of_not_has h1] at hat
  injection hat with e1
  injection e1 with _ e2
  rw [hrun, h1, ← e2]
theorem iterAt_grown (w : World) (k : Nat) (s : ByteArray) (pos : Nat) : w.grownBy (w.iterAt k s pos) (some k) :=
  ⟨rfl, rfl, rfl, by rw [Lib.iterAt_size]; exact Nat.le_refl _, fun i _ hi => Lib.iterAt_other w k i s pos (by intro e; exact hi (by rw [e]))⟩
theorem Fr.iterAt {S : Nat → Prop} {a w : World} (h : Fr S a w) {k : Nat} (hk : S k ∨ a.heap.size ≤ k) (s : ByteArray) (pos : Nat) : Fr S a (w.iterAt k s pos) :=
  h.grown (iterAt_grown w k s pos) (fun i hi => by cases hi; exact hk)
theorem Fr.grownAs {a w : World} {g : Nat} (hg : a.grownBy w (some g)) : Fr (fun i => i = g) a w := (Fr.refl _ a).grown hg (fun k hk => by cases hk; exact .inl rfl)
theorem ValsAt.keep {S : Nat → Prop} {W W' : World} {B : Nat} (h : ValsAt W B) (hf : Fr S W W') (hB : ¬ S B) : ValsAt W' B := by
  obtain ⟨n, es, clock, hb, F, hs, hD⟩ := h
  exact ⟨n, es, clock, hf.heap hb hB, F, hs, hD⟩
theorem ValsAt.lt {W : World} {B : Nat} (h : ValsAt W B) : B < W.heap.size := by
  obtain ⟨n, h⟩ := h
  exact h.lt

set_option maxRecDepth 100000 in
set_option maxHeartbeats 2000000 in
theorem letterValues_any (w : World) :
    Calls Try.prog 24 #[] w fun e w' => e = .returned (.map (some w.heap.size)) ∧ ValsAt w' w.heap.size ∧ Fr (fun _ => False) w w' := by
  have hmm := @run_makeMap Try.prog
  go_enter Try.func24, Try.ntmps24
  go_wp2_with fail
  go_loopg [2, 3] 32 (fun gf s2 s3 wx => ∃ i : Nat, i ≤ 32 ∧ 32 = i + gf ∧ wx.heap[w.heap.size + 1]? = some (.stringIter ⟨#[48, 49, 50, 51, 52, 53, 54, 55, 56, 57, 97, 98, 99, 100, 102, 103, 104, 105, 106, 107, 108, 109, 110, 112, 113, 114, 115, 118, 119, 120, 121, 122]⟩ i) ∧ wx.ownsMap Try.prog 21 (plainElem (H := Unit) Try.prog 3) w.heap.size i (valsD i) ∧ Fr (fun _ => False) w wx)
  case atStart =>
    refine ⟨0, by omega, by omega, ?_, (World.ownsMap_made _ _ _ _).kept (World.grownBy_alloc _ _ none) (by simp), ((Fr.refl _ _).alloc _).alloc _⟩
    have h := World.iter_heap (w.alloc (.map #[] 0)) ⟨#[48, 49, 50, 51, 52, 53, 54, 55, 56, 57, 97, 98, 99, 100, 102, 103, 104, 105, 106, 107, 108, 109, 110, 112, 113, 114, 115, 118, 119, 120, 121, 122]⟩ 0
    rwa [show (w.alloc (.map #[] 0)).heap.size = w.heap.size + 1 by simp] at h
  case round =>
    obtain ⟨i, hi, hgf, hit, hown, hF⟩ := hrel
    by_cases hlt : i < 32
    · obtain ⟨g', rfl⟩ : ∃ g', gk = g' + 1 := ⟨gk - 1, by omega⟩
      have his : i < (⟨#[48, 49, 50, 51, 52, 53, 54, 55, 56, 57, 97, 98, 99, 100, 102, 103, 104, 105, 106, 107, 108, 109, 110, 112, 113, 114, 115, 118, 119, 120, 121, 122]⟩ : ByteArray).size := hlt
      obtain ⟨y, hy⟩ : ∃ y, y = abc.getD i 0 := ⟨_, rfl⟩
      have hg := abc_get i his
      rw [← hy] at hg
      have h128 : y.toNat < 128 := by
        have h : ∀ n : Fin 32, (abc.getD n.val 0).toNat < 128 := by decide
        rw [hy]
        exact h ⟨i, hlt⟩
      have hnx : ∀ ty, (Instr.next (.pointer (some ⟨w.heap.size + 1, 0, none⟩)) true ty).run Try.prog wr = .ok (.tuple #[.bool true, .int .i64 i, .int .i32 y.toNat]) (wr.iterAt (w.heap.size + 1) ⟨#[48, 49, 50, 51, 52, 53, 54, 55, 56, 57, 97, 98, 99, 100, 102, 103, 104, 105, 106, 107, 108, 109, 110, 112, 113, 114, 115, 118, 119, 120, 121, 122]⟩ (i + 1)) := fun ty => by
        have h := Lib.run_next_ascii_at (P := Try.prog) wr (w.heap.size + 1) ⟨#[48, 49, 50, 51, 52, 53, 54, 55, 56, 57, 97, 98, 99, 100, 102, 103, 104, 105, 106, 107, 108, 109, 110, 112, 113, 114, 115, 118, 119, 120, 121, 122]⟩ i ty hit his (by rw [hg]; exact h128)
        rwa [hg] at h
      have hit2 := Lib.iterAt_heap wr (w.heap.size + 1) ⟨#[48, 49, 50, 51, 52, 53, 54, 55, 56, 57, 97, 98, 99, 100, 102, 103, 104, 105, 106, 107, 108, 109, 110, 112, 113, 114, 115, 118, 119, 120, 121, 122]⟩ i (i + 1) hit
      have hown2 := hown.kept (iterAt_grown wr (w.heap.size + 1) ⟨#[48, 49, 50, 51, 52, 53, 54, 55, 56, 57, 97, 98, 99, 100, 102, 103, 104, 105, 106, 107, 108, 109, 110, 112, 113, 114, 115, 118, 119, 120, 121, 122]⟩ (i + 1)) (by intro e; injection e with e; omega)
      have hF2 := hF.iterAt (.inr (show w.heap.size ≤ w.heap.size + 1 by omega)) ⟨#[48, 49, 50, 51, 52, 53, 54, 55, 56, 57, 97, 98, 99, 100, 102, 103, 104, 105, 106, 107, 108, 109, 110, 112, 113, 114, 115, 118, 119, 120, 121, 122]⟩ (i + 1)
      obtain ⟨W, hWd⟩ : ∃ W, wr.iterAt (w.heap.size + 1) ⟨#[48, 49, 50, 51, 52, 53, 54, 55, 56, 57, 97, 98, 99, 100, 102, 103, 104, 105, 106, 107, 108, 109, 110, 112, 113, 114, 115, 118, 119, 120, 121, 122]⟩ (i + 1) = W := ⟨_, rfl⟩
      rw [hWd] at hnx hit2 hown2 hF2
      have HX := Lib.hid (And.intro hit2 (And.intro hF2 (And.intro hgf hy)))
      have hkey := keyOf_int_mk (P := Try.prog) Try.underlying21 (show (Lit.int .i32 (y.toNat : Int)).wf = true by simp [Lit.wf, IntKind.min, IntKind.max, IntKind.bits, IntKind.signed]; omega)
      have hwf : (Lit.int .i64 (i : Int)).wf = true := WalkArith.wf_i64 (by omega)
      have hel := plainElem_int (H := Unit) (P := Try.prog) Try.underlying3 hwf
      clear hit hown hF hit2 hF2 hgf hy hg his hwf hWd
      go_wp2_with (at_mapUpdate; refine wpList_mapUpdate_own _ rfl _ _ _ 46 rfl 21 3 lawR Try.underlying46 _ w.heap.size i _ rfl hown2 (by unfold maxLen; omega) _ _ _ rfl rfl hkey _ [] hel ?_)
      intro w1 hown1 hgrow1
      have HY := Lib.hid (And.intro hown1 hgrow1)
      clear hown1 hgrow1 hown2 hkey hel hnx
      go_wp2_with fail
      go_roundg g'
      case measure => omega
      case rel =>
        obtain ⟨hit2, hF2, hgf, hy⟩ := HX.out
        obtain ⟨hown1, hgrow1⟩ := HY.out
        refine ⟨i + 1, by omega, by omega, ?_, ?_, hF2.grown hgrow1 (fun k hk => by cases hk; exact .inr (Nat.le_refl _))⟩
        · exact (hgrow1.block (w.heap.size + 1) (lt_of_block hit2) (by intro e; injection e with e; omega)).trans hit2
        · rw [valsD, ← hy]
          exact hown1
    · have hnx : ∀ ty, (Instr.next (.pointer (some ⟨w.heap.size + 1, 0, none⟩)) true ty).run Try.prog wr = .ok (.tuple #[.bool false]) wr := fun ty => Lib.run_next_end_at (P := Try.prog) wr (w.heap.size + 1) ⟨#[48, 49, 50, 51, 52, 53, 54, 55, 56, 57, 97, 98, 99, 100, 102, 103, 104, 105, 106, 107, 108, 109, 110, 112, 113, 114, 115, 118, 119, 120, 121, 122]⟩ i ty hit (by show ¬ i < 32; exact hlt)
      have HE := Lib.hid (show ValsAt wr w.heap.size by
        obtain rfl : i = 32 := by omega
        exact ⟨_, hown⟩)
      have HF := Lib.hid hF
      clear hit hown hF hgf
      go_wp2_with fail
      go_ret
      exact ⟨rfl, HE.out, HF.out⟩
end Go.Proofs.Ytdmlalnekjihfaa
