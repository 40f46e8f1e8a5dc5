/- Do lists of bytes lie apart? Those that do, do. -/
import Derived.Test.YthjpgnmpcllolaaApartLib
namespace Go.Proofs.Ythjpgnmpcllolaa
open Go.RowKit Go.ChangeShapes
set_option linter.unusedVariables false

/-- Amid apart: the bag, what was written. -/
def BagSt (w0 w : World) (b n : Nat) (T : TypeId) (v : Value) (X : Nat → Value) : Prop := w.heap[b]? = some (.cells (bagC v) T (0, 0)) ∧ Fr (BlksB n X) w0 w
theorem BagSt.next {w0 w w' : World} {b n : Nat} {T : TypeId} {v : Value} {X : Nat → Value} (h : BagSt w0 w b n T v X) (hf : Fr (fun _ => False) w w') : BagSt w0 w' b n T v X :=
  ⟨hf.heap h.1 (fun h => h), h.2.trans hf (fun _ h => h.elim)⟩
theorem BagSt.marked {w0 w w' : World} {b n : Nat} {T : TypeId} {v : Value} {X : Nat → Value} (h : BagSt w0 w b n T v X) (hb : ¬ BlksB n X b) (hf : Fr (BlksB n X) w w') : BagSt w0 w' b n T v X :=
  ⟨hf.heap h.1 hb, h.2.trans hf (fun _ h => .inl h)⟩

set_option maxHeartbeats 8000000 in
set_option maxRecDepth 100000 in
theorem apart_bytes (b n lb cl : Nat) (T : TypeId) (X : Nat → Value) (L : Nat → List UInt8) (w : World) (hn : n ≤ 1000) (hcl : n ≤ cl) (hcm : cl ≤ maxLen) (hb : w.heap[b]? = some (.cells (bagC (.slice (some ⟨lb, 0, none⟩) n cl)) T (0, 0)))
    (hls : ∀ j, j < n → w.cell? ⟨lb, j, none⟩ = some (X j)) (hr : RowsB w n X L) (hD : DistB n X) (hlb : ¬ BlksB n X lb) (hbb : ¬ BlksB n X b) (hL : ∀ j, j < n → (L j).length ≤ 140737488350000) :
    Calls Try.prog 40 #[.pointer (some ⟨b, 0, none⟩)] w fun e w' => e = .returned (.bool true) ∧ Fr (BlksB n X) w w' := by
  have H0 := Lib.hid (show BagSt w w b n T (.slice (some ⟨lb, 0, none⟩) n cl) X from ⟨hb, Fr.refl _ _⟩)
  have c0 := bag_cell0 hb
  -- flatBytes, wherever nothing of theirs was written
  have HFB := Lib.hid (fun (w5 : World) (hf : Fr (fun _ => False) w w5) => flatBytes_any n lb cl X L w5 hn hcl hcm (fun j hj => hf.cell (hls j hj) (fun h => h)) (hr.keep hf (fun _ _ h => h)) hD hlb hL)
  have HG0 := Lib.hid (Fr.refl (fun _ => False) w)
  have HBB := Lib.hid hbb
  clear hb hls hr hD hlb hL hbb hcm hcl
  go_enter Try.func40, Try.ntmps40
  go_wp2_with (first
    | (go_at_call 53; refine (flatLimbs_nil _).mono ?_; rintro e w1 ⟨rfl, hf⟩; have H1 := Lib.hid (H0.out.next hf); have HG1 := Lib.hid (HG0.out.trans hf (fun _ h => h.elim)); have c1 := bag_cell1 H1.out.1; clear c0 hf H0 HG0)
    | (go_at_call 54; refine (flatWords_nil _).mono ?_; rintro e w2 ⟨rfl, hf⟩; have H2 := Lib.hid (H1.out.next hf); have HG2 := Lib.hid (HG1.out.trans hf (fun _ h => h.elim)); have c2 := bag_cell2 H2.out.1; clear c1 hf H1 HG1)
    | (go_at_call 55; refine (flatInts_nil _).mono ?_; rintro e w3 ⟨rfl, hf⟩; have H3 := Lib.hid (H2.out.next hf); have HG3 := Lib.hid (HG2.out.trans hf (fun _ h => h.elim)); have c3 := bag_cell3 H3.out.1; clear c2 hf H2 HG2)
    | (go_at_call 56; refine (flatLongs_nil _).mono ?_; rintro e w4 ⟨rfl, hf⟩; have H4 := Lib.hid (H3.out.next hf); have HG4 := Lib.hid (HG3.out.trans hf (fun _ h => h.elim)); have c4 := bag_cell4 H4.out.1; clear c3 hf H3 HG3)
    | (go_at_call 57; refine (flatTexts_nil _).mono ?_; rintro e w5 ⟨rfl, hf⟩; have H5 := Lib.hid (H4.out.next hf); have HG5 := Lib.hid (HG4.out.trans hf (fun _ h => h.elim)); have c5 := bag_cell5 H5.out.1; clear c4 hf H4 HG4)
    | (go_at_call 58; refine (HFB.out _ HG5.out).mono ?_; rintro e w6 ⟨rfl, hf⟩; have H6 := Lib.hid (H5.out.marked HBB.out hf); have c6 := bag_cell6 H6.out.1; clear c5 hf H5 HG5 HFB)
    | (go_at_call 59; refine (flatTruths_nil _).mono ?_; rintro e w7 ⟨rfl, hf⟩; have H7 := Lib.hid (H6.out.next hf); have c7 := bag_cell7 H7.out.1; clear c6 hf H6)
    | (go_at_call 60; refine (flatPaths_nil _).mono ?_; rintro e w8 ⟨rfl, hf⟩; have H8 := Lib.hid (H7.out.next hf); have c8 := bag_cell8 H8.out.1; clear c7 hf H7)
    | (go_at_call 61; refine (flatKids_nil _).mono ?_; rintro e w9 ⟨rfl, hf⟩; have H9 := Lib.hid (H8.out.next hf); have c9 := bag_cell9 H9.out.1; clear c8 hf H8)
    | (go_at_call 62; refine (flatNodes_nil _).mono ?_; rintro e w10 ⟨rfl, hf⟩; have H10 := Lib.hid (H9.out.next hf); have c10 := bag_cell10 H10.out.1; clear c9 hf H9)
    | (go_at_call 63; refine (flatLines_nil _).mono ?_; rintro e w11 ⟨rfl, hf⟩; have H11 := Lib.hid (H10.out.next hf); have c11 := bag_cell11 H11.out.1; clear c10 hf H10)
    | (go_at_call 64; refine (flatChanges_nil _).mono ?_; rintro e w12 ⟨rfl, hf⟩; have H12 := Lib.hid (H11.out.next hf); have c12 := bag_cell12 H12.out.1; clear c11 hf H11)
    | (go_at_call 65; refine (flatRuns_nil _).mono ?_; rintro e w13 ⟨rfl, hf⟩; have H13 := Lib.hid (H12.out.next hf); have c13 := bag_cell13 H13.out.1; clear c12 hf H12)
    | (go_at_call 66; refine (flatObjects_nil _).mono ?_; rintro e w14 ⟨rfl, hf⟩; have H14 := Lib.hid (H13.out.next hf); have c14 := bag_cell14 H14.out.1; clear c13 hf H13)
    | (go_at_call 67; refine (flatQuotas_nil _).mono ?_; rintro e w15 ⟨rfl, hf⟩; have H15 := Lib.hid (H14.out.next hf); have c15 := bag_cell15 H15.out.1; clear c14 hf H14)
    | (go_at_call 68; refine (flatNameds_nil _).mono ?_; rintro e w16 ⟨rfl, hf⟩; have H16 := Lib.hid (H15.out.next hf); have c16 := bag_cell16 H16.out.1; clear c15 hf H15)
    | (go_at_call 69; refine (flatDrvs_nil _).mono ?_; rintro e w17 ⟨rfl, hf⟩; have H17 := Lib.hid (H16.out.next hf); have c17 := bag_cell17 H17.out.1; clear c16 hf H16)
    | (go_at_call 70; refine (flatMades_nil _).mono ?_; rintro e w18 ⟨rfl, hf⟩; have H18 := Lib.hid (H17.out.next hf); have c18 := bag_cell18 H18.out.1; clear c17 hf H17)
    | (go_at_call 71; refine (flatBuilts_nil _).mono ?_; rintro e w19 ⟨rfl, hf⟩; have H19 := Lib.hid (H18.out.next hf); have c19 := bag_cell19 H19.out.1; clear c18 hf H18)
    | (go_at_call 72; refine (flatRequests_nil _).mono ?_; rintro e w20 ⟨rfl, hf⟩; have H20 := Lib.hid (H19.out.next hf); have c20 := bag_cell20 H20.out.1; clear c19 hf H19)
    | (go_at_call 73; refine (flatReplies_nil _).mono ?_; rintro e w21 ⟨rfl, hf⟩; have H21 := Lib.hid (H20.out.next hf); clear c20 hf H20)
    | fail)
  go_ret
  exact ⟨rfl, H21.out.2⟩

end Go.Proofs.Ythjpgnmpcllolaa
