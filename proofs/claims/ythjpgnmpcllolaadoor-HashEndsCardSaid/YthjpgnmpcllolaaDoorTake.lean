/- Rows of byte slices; contract: (*hash.taker).take. -/
import Derived.Test.YthjpgnmpcllolaaDoorTakeSome
namespace Go.Proofs.YthjpgnmpcllolaaDoor
open Go.RowKit Go.ChangeShapes
set_option linter.unusedVariables false

/-- A slice value that reads as a row of rows of bytes. -/
def RowsIn (F : Nat → Prop) (w : World) (v : Value) (P : List (List UInt8)) : Prop :=
  ∃ ao cap, v = .slice ao P.length cap ∧ P.length ≤ cap ∧ cap ≤ 9223372036854775807 ∧ (∀ X ∈ P, X.length ≤ 140737488351232) ∧
    (P ≠ [] → ∃ b off, ao = some ⟨b, off, none⟩ ∧ F b ∧ ∀ i (h : i < P.length), ∃ x, w.cell? ⟨b, off + i, none⟩ = some x ∧ BytesIn F w x P[i])
theorem RowsIn.keep {F S : Nat → Prop} {w w' : World} {v : Value} {P : List (List UInt8)} (h : RowsIn F w v P) (hf : Fr S w w') (hd : ∀ k, k < w.heap.size → F k → ¬ S k) : RowsIn F w' v P := by
  obtain ⟨ao, cap, hv, h1, h2, h3, h4⟩ := h
  refine ⟨ao, cap, hv, h1, h2, h3, fun hl => ?_⟩
  obtain ⟨b, off, ha, hF, hi⟩ := h4 hl
  refine ⟨b, off, ha, hF, fun i h => ?_⟩
  obtain ⟨x, hx, hb⟩ := hi i h
  exact ⟨x, hf.cell hx (hd b (World.block_lt_of_cell? _ _ hx) hF), hb.keep hf hd⟩
/-- A new row of one. -/
theorem RowsIn.one {F : Nat → Prop} {w : World} {x : Value} {X : List UInt8} (hF : F w.heap.size) (hx : BytesIn F w x X) (hX : X.length ≤ 140737488351232) :
    RowsIn F (w.alloc (.cells #[x] 38)) (.slice (some ⟨w.heap.size, 0, none⟩) 1 1) [X] := by
  refine ⟨_, 1, rfl, Nat.le_refl _, by omega, by simpa using hX, fun _ => ⟨w.heap.size, 0, rfl, hF, fun i h => ?_⟩⟩
  obtain rfl : i = 0 := by simpa using h
  exact ⟨x, cell_of_one (heap_alloc_new w _), hx.keep (S := fun _ => False) ((Fr.refl _ _).alloc _) (fun _ _ _ h => h)⟩
theorem flatten_take_succ (P : List (List UInt8)) (k : Nat) (h : k < P.length) : (P.take (k + 1)).flatten = (P.take k).flatten ++ P[k] := by
  rw [List.take_succ_eq_append_getElem h, List.flatten_append]
  simp
theorem flatten_take_le (P : List (List UInt8)) (k : Nat) : (P.take k).flatten.length ≤ P.flatten.length := by
  conv => rhs; rw [← List.take_append_drop k P]
  rw [List.flatten_append, List.length_append]
  omega
/-- How many elements a slice value has. -/
def lenOf : Value → Nat
  | .slice _ n _ => n
  | _ => 0

set_option maxRecDepth 100000 in
set_option maxHeartbeats 2000000 in
theorem take_any {F : Nat → Prop} {b : Nat} {v : Value} {M : List UInt8} {P : List (List UInt8)} (w : World) (hL : Laid w) (hb : 2 ≤ b) (hT : TakAt w b M) (hP : RowsIn F w v P) (hF : ∀ k, F k → k ≠ b)
    (hM : M.length + P.flatten.length ≤ 140737488355328) :
    Calls Tryd.prog 23 #[.pointer (some ⟨b, 0, none⟩), v] w fun e w' => e = .returned (.tuple #[]) ∧ Fr (· = b) w w' ∧ TakAt w' b (M ++ P.flatten) := by
  obtain ⟨ao, cap, rfl, h1, h2, h3, h4⟩ := hP
  by_cases hl : P = []
  · subst hl
    have HT := Lib.hid hT
    clear hT h3 h4
    go_enter Tryd.func23, Tryd.ntmps23
    go_wp2_with fail
    refine wp_loop_rounds 1 ?_
    rw [rounds_succ]
    go_wp2
    go_end0
    exact ⟨rfl, Fr.refl _ _, by simpa using HT.out⟩
  · obtain ⟨g, off, rfl, hFg, hi⟩ := h4 hl
    obtain ⟨n, hn⟩ : ∃ n, n = P.length := ⟨_, rfl⟩
    rw [← hn] at h1 ⊢
    have H := Lib.hid (And.intro hL (And.intro hT (And.intro hF hM)))
    have HI := Lib.hid hi
    have HN := Lib.hid hn
    clear h4 hL hT hF hM hi hn hl h3
    go_enter Tryd.func23, Tryd.ntmps23
    go_wp2_with fail
    go_loopw [8] (fun iv wr => ∃ k : Nat, k ≤ n ∧ iv = .int .i64 k ∧ Hid (Fr (fun j => j = b) w wr ∧ TakAt wr b (M ++ (P.take k).flatten))) (fun iv _ => n - (intOf iv).toNat)
    case atStart => exact ⟨0, by omega, rfl, Lib.hid ⟨Fr.refl _ _, by simpa using H.out.2.1⟩⟩
    case round =>
      obtain ⟨k, hk, rfl, hR⟩ := hrel
      by_cases hlt : k < n
      · obtain ⟨x, hx, hB⟩ := HI.out k (by rw [← HN.out]; exact hlt)
        have hx' := hR.out.1.cell hx (H.out.2.2.1 g hFg)
        have hB' := Lib.hid (hB.keep hR.out.1 (fun i _ hi e => H.out.2.2.1 i hi e))
        have HS := Lib.hid (flatten_take_succ P k (by rw [← HN.out]; exact hlt))
        have HLE := Lib.hid (flatten_take_le P (k + 1))
        obtain ⟨Y, hY⟩ : ∃ Y, Y = P[k]'(by rw [← HN.out]; exact hlt) := ⟨_, rfl⟩
        rw [← hY] at hB' HS
        clear hx hB hY
        obtain ⟨wo, hwo⟩ : ∃ wo : World, wo = wr := ⟨_, rfl⟩
        rw [← hwo] at hR hx' hB' ⊢
        clear hwo
        go_wp2_with fail
        go_loopw [5] (fun vv wi => ∃ R D : List UInt8, Hid (Y = D ++ R ∧ Fr (fun j => j = b) w wi ∧ BytesIn F wi vv R ∧ TakAt wi b (M ++ (P.take k).flatten ++ D))) (fun vv _ => lenOf vv)
        case atStart => exact ⟨Y, [], Lib.hid ⟨rfl, hR.out.1, hB'.out, by simpa using hR.out.2⟩⟩
        case round =>
          obtain ⟨R, D, hQ⟩ := hrel
          obtain ⟨ao', cap', hv, hl1, hl2, _⟩ := hQ.out.2.2.1
          subst hv
          unfold maxLen at hl2
          clear hx' hB'
          by_cases hR0 : R = []
          · subst hR0
            have HQ := Lib.hid (show Fr (fun j => j = b) w wr ∧ TakAt wr b (M ++ (P.take (k + 1)).flatten) by
              refine ⟨hQ.out.2.1, ?_⟩
              have h := hQ.out.2.2.2
              rw [HS.out, hQ.out.1, List.append_nil, ← List.append_assoc]
              exact h)
            clear hQ hR hl1
            simp only [List.length_nil]
            go_wp2_with fail
            go_roundw
            case rel => exact ⟨k + 1, by omega, by go_num, HQ⟩
            case measure => simp [intOf]; omega
          · have hpos := List.length_pos_iff.2 hR0
            have HM := Lib.hid (show (M ++ (P.take k).flatten ++ D).length + R.length ≤ 140737488355328 by
              have h1 := congrArg List.length HS.out
              have h2 := congrArg List.length hQ.out.1
              have h3 := HLE.out
              have h4 := H.out.2.2.2
              simp only [List.length_append] at h1 h2 ⊢
              omega)
            have HC := Lib.hid (takeSome_any wr (H.out.1.keep hQ.out.2.1 (fun i hi e => by omega)) hb hQ.out.2.2.2 hQ.out.2.2.1 H.out.2.2.1 hR0 HM.out)
            have HQ := hQ
            clear hQ hR
            obtain ⟨l, hl⟩ : ∃ l, l = R.length := ⟨_, rfl⟩
            rw [← hl] at hl1 hpos HC HQ ⊢
            have HL := Lib.hid hl
            clear hl
            go_wp2_with (go_at_call 30; refine HC.out.mono ?_; rintro e w1 ⟨m, rfl, hm0, hml, hf1, ht1⟩; have hsl := fun w => run_cutLow w ao' l cap' m hml; have H1 := Lib.hid (And.intro hf1 ht1); clear hf1 ht1)
            go_roundw
            case rel =>
              refine ⟨R.drop m, D ++ R.take m, Lib.hid ⟨?_, HQ.out.2.1.trans H1.out.1 (fun _ h => .inl h), ?_, ?_⟩⟩
              · rw [HQ.out.1, List.append_assoc, List.take_append_drop]
              · exact (HQ.out.2.2.1.cutLow m (by rw [← HL.out]; exact hml)).keep H1.out.1 (fun i _ hi e => H.out.2.2.1 i hi e)
              · rw [← List.append_assoc]
                exact H1.out.2
            case measure => simp [lenOf]; omega
      · obtain rfl : k = n := by omega
        have HQ := Lib.hid (show Fr (fun j => j = b) w wr ∧ TakAt wr b (M ++ P.flatten) by
          have h := hR.out
          rwa [List.take_of_length_le (by rw [HN.out]; exact Nat.le_refl _)] at h)
        clear hR
        go_wp2
        go_end0
        exact ⟨rfl, HQ.out⟩
end Go.Proofs.YthjpgnmpcllolaaDoor
