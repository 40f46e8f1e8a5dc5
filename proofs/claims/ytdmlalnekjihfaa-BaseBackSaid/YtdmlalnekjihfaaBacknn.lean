/- Contract of spencelaw03.BaseBack, the path has not a name, the text tells not one. Printed by gen_back.py (wip/gen). -/
import Derived.Test.YtdmlalnekjihfaaBack0
namespace Go.Proofs.Ytdmlalnekjihfaa
open Go.RowKit Go.ChangeShapes
set_option linter.unusedVariables false

set_option maxRecDepth 100000 in
set_option maxHeartbeats 8000000 in
theorem back_nn (Hp Hq : List UInt8) (Np Nq s : ByteArray) (hp : Hp.length = 20) (hq : Hq.length = 20) (hNp : Np.size ≤ 140737488351232) (hNq : Nq.size ≤ 140737488351232) (hs : s.size ≤ 140737488351232) (w : World)
    (hnp : nameB Np.data.toList = false) (hps : parseOk s.data.toList = false) (hlong : s.size + Np.size + Nq.size ≤ 2000) :
    Calls Try.prog 6 #[.agg (pathC Hp Np), .agg (pathC Hq Nq), .string s] w fun e w' => e = .returned (.bool true) ∧ Fr (fun _ => False) w w' := by
  have hd : decide (2000 < (s.size : Int) + (Np.size : Int) + (Nq.size : Int)) = false := by rw [decide_eq_false_iff_not]; omega
  obtain ⟨PX, PN, f, hPX, hPN, hPT⟩ := parseT_shape s
  obtain ⟨BS, g, hBS⟩ := pathT_shape PX PN
  obtain ⟨PS, ep, hPS⟩ := pathT_shape Hp Np
  have hf0 : f = 4 ∧ g = 2 := by
    have h := hPT
    rw [parseT, if_neg (by rw [hps]; decide)] at h
    injection h with h
    injection h with h
    injection h with h1 h2
    injection h2 with h2 _
    injection h2 with _ h2
    injection h1 with h1
    have e := pathC_inj _ _ _ _ (by simp) hPX h1
    rw [← e.1, ← e.2, if_neg (by decide)] at hBS
    injection hBS with h
    injection h with h
    injection h with h3 h4
    injection h4 with h4 _
    injection h4 with _ h4
    exact ⟨h2.symm, h4.symm⟩
  obtain ⟨rfl, rfl⟩ := hf0
  have hep : ep = 2 := by
    have h := hPS
    rw [if_neg (by rw [hnp]; decide)] at h
    injection h with h
    injection h with h
    injection h with h3 h4
    injection h4 with h4 _
    injection h4 with _ h4
    exact h4.symm
  obtain rfl := hep
  obtain ⟨Cp, hCp⟩ : ∃ C, C = pathC Hp Np := ⟨_, rfl⟩
  obtain ⟨Cq, hCq⟩ : ∃ C, C = pathC Hq Nq := ⟨_, rfl⟩
  obtain ⟨PC, hPC⟩ : ∃ C, C = pathC PX PN := ⟨_, rfl⟩
  obtain ⟨HP, hHP⟩ : ∃ C, C = (Hp.map bv).toArray := ⟨_, rfl⟩
  obtain ⟨HQl, hHQ⟩ : ∃ C, C = Hq.map bv := ⟨_, rfl⟩
  obtain ⟨LP, hLP⟩ : ∃ C : ByteArray, C = ⟨(letL Hp).toArray⟩ := ⟨_, rfl⟩
  obtain ⟨LQ, hLQ⟩ : ∃ C : ByteArray, C = ⟨(letL Hq).toArray⟩ := ⟨_, rfl⟩
  obtain ⟨bq, hbq⟩ : ∃ b, b = decide (Hp = Hq) := ⟨_, rfl⟩
  have hLQz : LQ.size ≤ 140737488351232 := by
    rw [hLQ]
    show (letL Hq).toArray.size ≤ _
    simp [letL_length]
  have hpp := fun W => bPath_any Hp hp Np hNp W
  have hpr := fun W => bPath_any PX hPX PN (Nat.le_trans hPN hs) W
  have hps2 := fun W => bParse_any s hs W
  have hlp := fun W => bLetters_any Hp hp W
  have hlq := fun W => bLetters_any Hq hq W
  have hhq := fun W => bHash_any LQ hLQz W
  have hnm := fun W => bName_any Np hNp W
  have hht : hashT LQ.data.toList = .tuple #[.agg HQl.toArray, .int .i64 0] := by
    rw [hLQ]
    show hashT (letL Hq) = _
    rw [hashT, if_pos (hashOk_letL Hq), hashL_letL Hq hq, hHQ]
  rw [hht] at hhq
  rw [hPS, ← hCp] at hpp
  rw [hBS, ← hPC] at hpr
  rw [hPT, ← hPC] at hps2
  rw [← hHP, ← hLP] at hlp
  rw [← hHQ, ← hLQ] at hlq
  rw [hnp] at hnm
  have HPP := Lib.hid hpp
  have HPR := Lib.hid hpr
  have HPS := Lib.hid hps2
  have HBLP := Lib.hid hlp
  have HBLQ := Lib.hid hlq
  have HHQ := Lib.hid hhq
  have HNP := Lib.hid hnm
  have HAW := Lib.hid (fun W => awake_any W)
  have EQH := Lib.hid (fun W => show (binOp .eql 23 (.agg HP) (.agg HQl.toArray)).run Try.prog W = .ok (.bool bq) W by
    rw [hHP, hHQ, hbq, run_eql_hash W Hp Hq hp hq]
    have e : (Hp == Hq) = decide (Hp = Hq) := by rw [Bool.eq_iff_iff, beq_iff_eq, decide_eq_true_iff]
    rw [e])
  have EQL := Lib.hid (fun W => show (binOp .eql 9 (.string LP) (.string LQ)).run Try.prog W = .ok (.bool bq) W by
    rw [binOp_string_eql]
    have e : (LP.toList == LQ.toList) = bq := by
      rw [Go.ByteArray.toList_eq, Go.ByteArray.toList_eq, hLP, hLQ, hbq, Bool.eq_iff_iff, beq_iff_eq, decide_eq_true_iff]
      exact ⟨fun h => letL_inj Hp Hq hp hq h, fun h => by rw [h]⟩
    rw [e]
    rfl)
  have EQQ := Lib.hid (fun W => show (binOp .eql 23 (.agg HQl.toArray) (.agg HQl.toArray)).run Try.prog W = .ok (.bool true) W by rw [hHQ]; exact eql_hash_one W Hq hq)
  have nep := fun W => show (binOp .neq 25 (.agg Cp) (.agg Cp)).run Try.prog W = .ok (.bool false) W by rw [hCp, run_neq_path W Hp Np Hp Np hp hp, sameP_refl]; rfl
  have hiQ : (Try.prog.info? 23).map (·.size) = some HQl.toArray.size := by rw [hHQ, List.size_toArray, List.length_map, hq]; kernel_rfl
  have hiQl : (Try.prog.info? 23).map (·.size) = some HQl.length := by rw [hHQ, List.length_map, hq]; kernel_rfl
  have hsQ : (#[.int .u8 0, .int .u8 0, .int .u8 0, .int .u8 0, .int .u8 0, .int .u8 0, .int .u8 0, .int .u8 0, .int .u8 0, .int .u8 0, .int .u8 0, .int .u8 0, .int .u8 0, .int .u8 0, .int .u8 0, .int .u8 0, .int .u8 0, .int .u8 0, .int .u8 0, .int .u8 0] : Array Value).size = HQl.toArray.size := Eq.trans (b := 20) rfl (by rw [hHQ, List.size_toArray, List.length_map, hq])
  have hoQ : HQl.toArray.all (·.oneCell') = true := by rw [hHQ]; exact row_one Hq
  have hiP : (Try.prog.info? 25).map (·.size) = some PC.size := by rw [hPC, pathC_size PX hPX]; kernel_rfl
  have hsP : (#[.int .u8 0, .int .u8 0, .int .u8 0, .int .u8 0, .int .u8 0, .int .u8 0, .int .u8 0, .int .u8 0, .int .u8 0, .int .u8 0, .int .u8 0, .int .u8 0, .int .u8 0, .int .u8 0, .int .u8 0, .int .u8 0, .int .u8 0, .int .u8 0, .int .u8 0, .int .u8 0, .string ⟨#[]⟩] : Array Value).size = PC.size := Eq.trans (b := 21) rfl (by rw [hPC, pathC_size PX hPX])
  have hoP : PC.all (·.oneCell') = true := by rw [hPC]; exact pathC_one PX PN
  have hip : (Try.prog.info? 25).map (·.size) = some Cp.size := by rw [hCp, pathC_size Hp hp]; kernel_rfl
  have hsp : (#[.int .u8 0, .int .u8 0, .int .u8 0, .int .u8 0, .int .u8 0, .int .u8 0, .int .u8 0, .int .u8 0, .int .u8 0, .int .u8 0, .int .u8 0, .int .u8 0, .int .u8 0, .int .u8 0, .int .u8 0, .int .u8 0, .int .u8 0, .int .u8 0, .int .u8 0, .int .u8 0, .string ⟨#[]⟩] : Array Value).size = Cp.size := Eq.trans (b := 21) rfl (by rw [hCp, pathC_size Hp hp])
  have hop : Cp.all (·.oneCell') = true := by rw [hCp]; exact pathC_one Hp Np
  have LX := Lib.hid (fun (W : World) (g : Nat) (h : W.heap[g]? = some (.cells HQl.toArray 23 (0, 0))) => show (Instr.loadAt 23 (.pointer (some ⟨g, 0, none⟩))).run Try.prog W = .ok (.agg HQl.toArray) W by rw [hHQ] at h ⊢; exact load_hash W g Hq h hq)
  have LHP := Lib.hid (fun (W : World) (g : Nat) (h : W.heap[g]? = some (.cells Cp 25 (0, 0))) => show (Instr.loadAt 23 (.pointer (some ⟨g, 0, none⟩))).run Try.prog W = .ok (.agg HP) W by rw [hCp] at h; rw [hHP]; exact load_path_hash W g Hp Np h hp)
  have LHQ := Lib.hid (fun (W : World) (g : Nat) (h : W.heap[g]? = some (.cells Cq 25 (0, 0))) => show (Instr.loadAt 23 (.pointer (some ⟨g, 0, none⟩))).run Try.prog W = .ok (.agg HQl.toArray) W by rw [hCq] at h; rw [hHQ]; exact load_path_hash W g Hq Nq h hq)
  have NP := Lib.hid (fun (W : World) (h : W.heap[w.heap.size]? = some (.cells Cp 25 (0, 0))) => show W.cell? ⟨w.heap.size, 20, none⟩ = some (.string Np) by rw [hCp] at h; exact PathT.name (H := Hp) h hp)
  have NQ := Lib.hid (fun (W : World) (h : W.heap[w.heap.size + 1]? = some (.cells Cq 25 (0, 0))) => show W.cell? ⟨w.heap.size + 1, 20, none⟩ = some (.string Nq) by rw [hCq] at h; exact PathT.name (H := Hq) h hq)
  have RQ := Lib.hid (fun (W : World) (h : W.heap[w.heap.size + 1]? = some (.cells Cq 25 (0, 0))) => show W.rangeAt (w.heap.size + 1) 0 HQl by rw [hCq] at h; rw [hHQ]; exact PathT.range (N := Nq) h)
  have HK0 := Lib.hid (show Fr (fun _ => False) w ((w.alloc (.cells Cp 25)).alloc (.cells Cq 25)) ∧ Rows ((w.alloc (.cells Cp 25)).alloc (.cells Cq 25)) [(w.heap.size, Cp, 25), (w.heap.size + 1, Cq, 25)] from
    ⟨((Fr.refl _ _).alloc _).alloc _, fun x hx => by
      rcases List.mem_cons.1 hx with rfl | hx
      · exact heap_alloc2_old w _ _
      · obtain rfl := List.mem_singleton.1 hx
        exact heap_alloc2_new w _ _⟩)
  rw [← hCp, ← hCq]
  clear hpp hpr hps2 hlp hlq hhq hnm hht hPT hPS hBS hCp hCq hPC hHP hHQ hLP hLQ hbq hPX hPN hp hq hnp hps
  go_enter Try.func6, Try.ntmps6
  go_wp2_with (first
    | (go_at_call 8; (refine (HAW.out _).mono ?_); rintro e w1 ⟨rfl, hf⟩; have HK1 := Lib.hid (And.intro (HK0.out.1.trans hf (fun _ h => h.elim)) (HK0.out.2.keep hf)); clear hf; have hrp1 := HK1.out.2.nth 0 w.heap.size Cp 25 rfl; have hnp1 := NP.out w1 hrp1; have hnq1 := NQ.out w1 (HK1.out.2.nth 1 (w.heap.size + 1) Cq 25 rfl))
    | (with_reducible refine wpList_load_row rfl 25 (.tmp 3) rfl w.heap.size rfl 25 Cp (0, 0) _ hrp1 Try.underlying25 rfl hip ?_)
    | (go_at_call 11; (with_reducible refine (HPP.out _).mono ?_); rintro e w2 ⟨rfl, hf⟩; have HK2 := Lib.hid (And.intro (HK1.out.1.trans hf (fun _ h => h.elim)) (HK1.out.2.keep hf)); clear hf; have hrp2 := HK2.out.2.nth 0 w.heap.size Cp 25 rfl; have hnp2 := NP.out w2 hrp2)
    | (go_at_call 17; (refine (HNP.out _).mono ?_); rintro e w3 ⟨rfl, hf⟩; have HK3 := Lib.hid (And.intro (HK2.out.1.trans hf (fun _ h => h.elim)) (HK2.out.2.keep hf)); clear hf)
    | (go_at_call 13; (with_reducible refine (HPS.out _).mono ?_); rintro e w5 ⟨rfl, hf⟩; have HK5 := Lib.hid (And.intro (HK3.out.1.trans hf (fun _ h => h.elim)) (HK3.out.2.keep hf)); clear hf)
    | (with_reducible refine wpList_store_row rfl 25 (.tmp 11) (.tmp 58) rfl w5.heap.size PC #[.int .u8 0, .int .u8 0, .int .u8 0, .int .u8 0, .int .u8 0, .int .u8 0, .int .u8 0, .int .u8 0, .int .u8 0, .int .u8 0, .int .u8 0, .int .u8 0, .int .u8 0, .int .u8 0, .int .u8 0, .int .u8 0, .int .u8 0, .int .u8 0, .int .u8 0, .int .u8 0, .string ⟨#[]⟩] 25 rfl rfl (heap_alloc_new w5 _) hiP hsP hoP ?_; (have HL5 := Lib.hid (And.intro (HK5.out.1.trans (Fr.laid w5 #[.int .u8 0, .int .u8 0, .int .u8 0, .int .u8 0, .int .u8 0, .int .u8 0, .int .u8 0, .int .u8 0, .int .u8 0, .int .u8 0, .int .u8 0, .int .u8 0, .int .u8 0, .int .u8 0, .int .u8 0, .int .u8 0, .int .u8 0, .int .u8 0, .int .u8 0, .int .u8 0, .string ⟨#[]⟩] PC 25) (fun _ h => h.elim)) (HK5.out.2.laid #[.int .u8 0, .int .u8 0, .int .u8 0, .int .u8 0, .int .u8 0, .int .u8 0, .int .u8 0, .int .u8 0, .int .u8 0, .int .u8 0, .int .u8 0, .int .u8 0, .int .u8 0, .int .u8 0, .int .u8 0, .int .u8 0, .int .u8 0, .int .u8 0, .int .u8 0, .int .u8 0, .string ⟨#[]⟩] PC 25))); generalize (w5.alloc (.cells #[.int .u8 0, .int .u8 0, .int .u8 0, .int .u8 0, .int .u8 0, .int .u8 0, .int .u8 0, .int .u8 0, .int .u8 0, .int .u8 0, .int .u8 0, .int .u8 0, .int .u8 0, .int .u8 0, .int .u8 0, .int .u8 0, .int .u8 0, .int .u8 0, .int .u8 0, .int .u8 0, .string ⟨#[]⟩] 25)).setRow w5.heap.size PC = W5 at *; generalize w5.heap.size = g11 at *; have hr11 := HL5.out.2.nth 0 g11 PC 25 rfl)
    | (with_reducible refine wpList_load_row rfl 25 (.tmp 11) rfl g11 rfl 25 PC (0, 0) _ hr11 Try.underlying25 rfl hiP ?_)
    | (go_at_call 11; (with_reducible refine (HPR.out _).mono ?_); rintro e w6 ⟨rfl, hf⟩; have HK6 := Lib.hid (And.intro (HL5.out.1.trans hf (fun _ h => h.elim)) (HL5.out.2.keep hf)); clear hf; have hq6 := RQ.out w6 (HK6.out.2.nth 2 (w.heap.size + 1) Cq 25 rfl))
    | (with_reducible refine wpList_load_mid rfl 23 (.tmp 66) rfl (w.heap.size + 1) 0 rfl HQl _ hq6 Try.underlying23 rfl hiQl ?_)
    | (go_at_call 15; (refine (HBLQ.out _).mono ?_); rintro e w7 ⟨rfl, hf⟩; have HK7 := Lib.hid (And.intro (HK6.out.1.trans hf (fun _ h => h.elim)) (HK6.out.2.keep hf)); clear hf)
    | (go_at_call 9; (refine (HHQ.out _).mono ?_); rintro e w8 ⟨rfl, hf⟩; have HK8 := Lib.hid (And.intro (HK7.out.1.trans hf (fun _ h => h.elim)) (HK7.out.2.keep hf)); clear hf)
    | (with_reducible refine wpList_store_row rfl 23 (.tmp 15) (.tmp 70) rfl w8.heap.size HQl.toArray #[.int .u8 0, .int .u8 0, .int .u8 0, .int .u8 0, .int .u8 0, .int .u8 0, .int .u8 0, .int .u8 0, .int .u8 0, .int .u8 0, .int .u8 0, .int .u8 0, .int .u8 0, .int .u8 0, .int .u8 0, .int .u8 0, .int .u8 0, .int .u8 0, .int .u8 0, .int .u8 0] 23 rfl rfl (heap_alloc_new w8 _) hiQ hsQ hoQ ?_; (have HL8 := Lib.hid (And.intro (HK8.out.1.trans (Fr.laid w8 #[.int .u8 0, .int .u8 0, .int .u8 0, .int .u8 0, .int .u8 0, .int .u8 0, .int .u8 0, .int .u8 0, .int .u8 0, .int .u8 0, .int .u8 0, .int .u8 0, .int .u8 0, .int .u8 0, .int .u8 0, .int .u8 0, .int .u8 0, .int .u8 0, .int .u8 0, .int .u8 0] HQl.toArray 23) (fun _ h => h.elim)) (HK8.out.2.laid #[.int .u8 0, .int .u8 0, .int .u8 0, .int .u8 0, .int .u8 0, .int .u8 0, .int .u8 0, .int .u8 0, .int .u8 0, .int .u8 0, .int .u8 0, .int .u8 0, .int .u8 0, .int .u8 0, .int .u8 0, .int .u8 0, .int .u8 0, .int .u8 0, .int .u8 0, .int .u8 0] HQl.toArray 23))); generalize (w8.alloc (.cells #[.int .u8 0, .int .u8 0, .int .u8 0, .int .u8 0, .int .u8 0, .int .u8 0, .int .u8 0, .int .u8 0, .int .u8 0, .int .u8 0, .int .u8 0, .int .u8 0, .int .u8 0, .int .u8 0, .int .u8 0, .int .u8 0, .int .u8 0, .int .u8 0, .int .u8 0, .int .u8 0] 23)).setRow w8.heap.size HQl.toArray = W8 at *; generalize w8.heap.size = g15 at *))
  have LD15 := Lib.hid (fun (W : World) (hB : Fr (fun _ => False) W8 W) => LX.out W g15 (hB.heap (HL8.out.2.nth 0 g15 HQl.toArray 23 rfl) (fun h => h)))
  have LDP := Lib.hid (fun (W : World) (hB : Fr (fun _ => False) W8 W) => LHP.out W w.heap.size (hB.heap (HL8.out.2.nth 2 w.heap.size Cp 25 rfl) (fun h => h)))
  have LDQ := Lib.hid (fun (W : World) (hB : Fr (fun _ => False) W8 W) => LHQ.out W (w.heap.size + 1) (hB.heap (HL8.out.2.nth 3 (w.heap.size + 1) Cq 25 rfl) (fun h => h)))
  have HF8 := Lib.hid HL8.out.1
  generalize HQl.toArray = HQ at *
  generalize w.heap.size + 1 = gq at *
  generalize w.heap.size = gp at *
  refine wp_region_inv 36 (by kernel_rfl) (by kernel_rfl) (fun W => Fr (fun _ => False) W8 W) (BkN gp gq g15 HP HQ s BS LP LQ bq) (fun _ _ _ _ => True) (Fr (fun _ => False)) (BkN.ext gp gq g15 HP HQ s BS LP LQ bq) (Fr.refl _ _).drew ?_ ?_
  · intro i hi o ho
    replace hi : i < 36 := hi
    obtain rfl | rfl | rfl | rfl | rfl | rfl | rfl | rfl | rfl | rfl | rfl | rfl | rfl | rfl | rfl | rfl | rfl | rfl | rfl | rfl | rfl | rfl | rfl | rfl | rfl | rfl | rfl | rfl | rfl | rfl | rfl | rfl | rfl | rfl | rfl | rfl : i = 0 ∨ i = 1 ∨ i = 2 ∨ i = 3 ∨ i = 4 ∨ i = 5 ∨ i = 6 ∨ i = 7 ∨ i = 8 ∨ i = 9 ∨ i = 10 ∨ i = 11 ∨ i = 12 ∨ i = 13 ∨ i = 14 ∨ i = 15 ∨ i = 16 ∨ i = 17 ∨ i = 18 ∨ i = 19 ∨ i = 20 ∨ i = 21 ∨ i = 22 ∨ i = 23 ∨ i = 24 ∨ i = 25 ∨ i = 26 ∨ i = 27 ∨ i = 28 ∨ i = 29 ∨ i = 30 ∨ i = 31 ∨ i = 32 ∨ i = 33 ∨ i = 34 ∨ i = 35 := by omega
    · simp only [List.getElem?_cons_zero, Option.some.injEq] at ho
      subst ho
      intro a W vs hB hS hE hU
      refine wpG_plain rfl ?_
      have v12 : a.eval (.tmp 12) = .int .i64 4 := (hU 12 (by kernel_rfl)).trans rfl
      clear hE hU
      exact wp_value_inv (w' := W) (.int .i64 4) (op_move rfl v12) ⟨_, rfl, hB, Fr.refl _ _, rfl, fun _ _ _ _ _ => trivial⟩
    · simp only [List.getElem?_cons_zero, List.getElem?_cons_succ, Option.some.injEq] at ho
      subst ho
      intro a W vs hB hS hE hU
      refine wpG_plain rfl ?_
      obtain ⟨r0, e72⟩ := hE 0 72 (by kernel_rfl) (by kernel_rfl)
      have v72 : a.eval (.tmp 72) = .int .i64 4 := e72.trans r0
      clear hE hU
      exact wp_value_inv (w' := W) (.bool true) (op_bin rfl v72 (rfl : a.eval (.const (.int .i64 0)) = _) (guard_int W _ _ _ _ _ _ _) (by kernel_rfl)) ⟨_, rfl, hB, Fr.refl _ _, rfl, fun _ _ _ _ _ => trivial⟩
    · simp only [List.getElem?_cons_zero, List.getElem?_cons_succ, Option.some.injEq] at ho
      subst ho
      intro a W vs hB hS hE hU
      refine wpG_plain rfl ?_
      obtain ⟨r1, e73⟩ := hE 1 73 (by kernel_rfl) (by kernel_rfl)
      have v73 : a.eval (.tmp 73) = .bool true := e73.trans r1
      clear hE hU
      exact wp_value_inv (w' := W) (.bool true) (op_move rfl v73) ⟨_, rfl, hB, Fr.refl _ _, rfl, fun _ _ _ _ _ => trivial⟩
    · simp only [List.getElem?_cons_zero, List.getElem?_cons_succ, Option.some.injEq] at ho
      subst ho
      intro a W vs hB hS hE hU
      obtain ⟨r2, e74⟩ := hE 2 74 (by kernel_rfl) (by kernel_rfl)
      have v74 : a.eval (.tmp 74) = .bool true := e74.trans r2
      exact wpG_no 2 false 74 rfl (by kernel_rfl) (by rw [hS]; simp) v74 ⟨_, rfl, hB, Fr.refl _ _, rfl, fun _ _ _ _ _ => trivial⟩
    · simp only [List.getElem?_cons_zero, List.getElem?_cons_succ, Option.some.injEq] at ho
      subst ho
      intro a W vs hB hS hE hU
      obtain ⟨r2, e74⟩ := hE 2 74 (by kernel_rfl) (by kernel_rfl)
      have v74 : a.eval (.tmp 74) = .bool true := e74.trans r2
      exact wpG_no 2 false 74 rfl (by kernel_rfl) (by rw [hS]; simp) v74 ⟨_, rfl, hB, Fr.refl _ _, rfl, fun _ _ _ _ _ => trivial⟩
    · simp only [List.getElem?_cons_zero, List.getElem?_cons_succ, Option.some.injEq] at ho
      subst ho
      intro a W vs hB hS hE hU
      obtain ⟨r2, e74⟩ := hE 2 74 (by kernel_rfl) (by kernel_rfl)
      have v74 : a.eval (.tmp 74) = .bool true := e74.trans r2
      exact wpG_no 2 false 74 rfl (by kernel_rfl) (by rw [hS]; simp) v74 ⟨_, rfl, hB, Fr.refl _ _, rfl, fun _ _ _ _ _ => trivial⟩
    · simp only [List.getElem?_cons_zero, List.getElem?_cons_succ, Option.some.injEq] at ho
      subst ho
      intro a W vs hB hS hE hU
      obtain ⟨r5, e77⟩ := hE 5 77 (by kernel_rfl) (by kernel_rfl)
      have v77 : a.eval (.tmp 77) = undef := e77.trans r5
      exact wpG_undef 5 true 77 rfl (by kernel_rfl) (by rw [hS]; simp) v77 ⟨_, rfl, hB, Fr.refl _ _, rfl, fun _ _ _ _ _ => trivial⟩
    · simp only [List.getElem?_cons_zero, List.getElem?_cons_succ, Option.some.injEq] at ho
      subst ho
      intro a W vs hB hS hE hU
      obtain ⟨r5, e77⟩ := hE 5 77 (by kernel_rfl) (by kernel_rfl)
      have v77 : a.eval (.tmp 77) = undef := e77.trans r5
      exact wpG_undef 5 true 77 rfl (by kernel_rfl) (by rw [hS]; simp) v77 ⟨_, rfl, hB, Fr.refl _ _, rfl, fun _ _ _ _ _ => trivial⟩
    · simp only [List.getElem?_cons_zero, List.getElem?_cons_succ, Option.some.injEq] at ho
      subst ho
      intro a W vs hB hS hE hU
      obtain ⟨r5, e77⟩ := hE 5 77 (by kernel_rfl) (by kernel_rfl)
      have v77 : a.eval (.tmp 77) = undef := e77.trans r5
      exact wpG_undef 5 true 77 rfl (by kernel_rfl) (by rw [hS]; simp) v77 ⟨_, rfl, hB, Fr.refl _ _, rfl, fun _ _ _ _ _ => trivial⟩
    · simp only [List.getElem?_cons_zero, List.getElem?_cons_succ, Option.some.injEq] at ho
      subst ho
      intro a W vs hB hS hE hU
      obtain ⟨r2, e74⟩ := hE 2 74 (by kernel_rfl) (by kernel_rfl)
      have v74 : a.eval (.tmp 74) = .bool true := e74.trans r2
      exact wpG_no 2 false 74 rfl (by kernel_rfl) (by rw [hS]; simp) v74 ⟨_, rfl, hB, Fr.refl _ _, rfl, fun _ _ _ _ _ => trivial⟩
    · simp only [List.getElem?_cons_zero, List.getElem?_cons_succ, Option.some.injEq] at ho
      subst ho
      intro a W vs hB hS hE hU
      refine wpG_plain rfl ?_
      obtain ⟨r2, e74⟩ := hE 2 74 (by kernel_rfl) (by kernel_rfl)
      have v74 : a.eval (.tmp 74) = .bool true := e74.trans r2
      clear hE hU
      exact wp_value_inv (w' := W) (.bool true) (op_pick rfl v74 (by simp only [if_true]; rfl)) ⟨_, rfl, hB, Fr.refl _ _, rfl, fun _ _ _ _ _ => trivial⟩
    · simp only [List.getElem?_cons_zero, List.getElem?_cons_succ, Option.some.injEq] at ho
      subst ho
      intro a W vs hB hS hE hU
      refine wpG_plain rfl ?_
      obtain ⟨r10, e82⟩ := hE 10 82 (by kernel_rfl) (by kernel_rfl)
      have v82 : a.eval (.tmp 82) = .bool true := e82.trans r10
      clear hE hU
      exact wp_value_inv (w' := W) (.bool true) (op_move rfl v82) ⟨_, rfl, hB, Fr.refl _ _, rfl, fun _ _ _ _ _ => trivial⟩
    · simp only [List.getElem?_cons_zero, List.getElem?_cons_succ, Option.some.injEq] at ho
      subst ho
      intro a W vs hB hS hE hU
      obtain ⟨r11, e83⟩ := hE 11 83 (by kernel_rfl) (by kernel_rfl)
      have v83 : a.eval (.tmp 83) = .bool true := e83.trans r11
      refine wpG_yes 11 true 83 rfl (by kernel_rfl) (by rw [hS]; simp) v83 ?_
      have v16 : a.eval (.tmp 16) = .int .i64 0 := (hU 16 (by kernel_rfl)).trans rfl
      clear hE hU
      exact wp_value_inv (w' := W) (.int .i64 0) (op_move rfl v16) ⟨_, rfl, hB, Fr.refl _ _, rfl, fun _ _ _ _ _ => trivial⟩
    · simp only [List.getElem?_cons_zero, List.getElem?_cons_succ, Option.some.injEq] at ho
      subst ho
      intro a W vs hB hS hE hU
      obtain ⟨r11, e83⟩ := hE 11 83 (by kernel_rfl) (by kernel_rfl)
      have v83 : a.eval (.tmp 83) = .bool true := e83.trans r11
      refine wpG_yes 11 true 83 rfl (by kernel_rfl) (by rw [hS]; simp) v83 ?_
      obtain ⟨r12, e84⟩ := hE 12 84 (by kernel_rfl) (by kernel_rfl)
      have v84 : a.eval (.tmp 84) = .int .i64 0 := e84.trans r12
      clear hE hU
      exact wp_value_inv (w' := W) (.bool true) (op_bin rfl v84 (rfl : a.eval (.const (.int .i64 0)) = _) (guard_int W _ _ _ _ _ _ _) (by kernel_rfl)) ⟨_, rfl, hB, Fr.refl _ _, rfl, fun _ _ _ _ _ => trivial⟩
    · simp only [List.getElem?_cons_zero, List.getElem?_cons_succ, Option.some.injEq] at ho
      subst ho
      intro a W vs hB hS hE hU
      refine wpG_plain rfl ?_
      obtain ⟨r11, e83⟩ := hE 11 83 (by kernel_rfl) (by kernel_rfl)
      have v83 : a.eval (.tmp 83) = .bool true := e83.trans r11
      obtain ⟨r13, e85⟩ := hE 13 85 (by kernel_rfl) (by kernel_rfl)
      have v85 : a.eval (.tmp 85) = .bool true := e85.trans r13
      clear hE hU
      exact wp_value_inv (w' := W) (.bool true) (op_pick rfl v83 (by simp only [if_true]; exact v85)) ⟨_, rfl, hB, Fr.refl _ _, rfl, fun _ _ _ _ _ => trivial⟩
    · simp only [List.getElem?_cons_zero, List.getElem?_cons_succ, Option.some.injEq] at ho
      subst ho
      intro a W vs hB hS hE hU
      refine wpG_plain rfl ?_
      obtain ⟨r14, e86⟩ := hE 14 86 (by kernel_rfl) (by kernel_rfl)
      have v86 : a.eval (.tmp 86) = .bool true := e86.trans r14
      clear hE hU
      exact wp_value_inv (w' := W) (.bool true) (op_move rfl v86) ⟨_, rfl, hB, Fr.refl _ _, rfl, fun _ _ _ _ _ => trivial⟩
    · simp only [List.getElem?_cons_zero, List.getElem?_cons_succ, Option.some.injEq] at ho
      subst ho
      intro a W vs hB hS hE hU
      obtain ⟨r15, e87⟩ := hE 15 87 (by kernel_rfl) (by kernel_rfl)
      have v87 : a.eval (.tmp 87) = .bool true := e87.trans r15
      refine wpG_yes 15 true 87 rfl (by kernel_rfl) (by rw [hS]; simp) v87 ?_
      have v15 : a.eval (.tmp 15) = .pointer (some ⟨g15, 0, none⟩) := (hU 15 (by kernel_rfl)).trans rfl
      clear hE hU
      exact wp_value_inv (w' := W) (.agg HQ) (op_loadAt rfl v15 (LD15.out W hB)) ⟨_, rfl, hB, Fr.refl _ _, rfl, fun _ _ _ _ _ => trivial⟩
    · simp only [List.getElem?_cons_zero, List.getElem?_cons_succ, Option.some.injEq] at ho
      subst ho
      intro a W vs hB hS hE hU
      obtain ⟨r15, e87⟩ := hE 15 87 (by kernel_rfl) (by kernel_rfl)
      have v87 : a.eval (.tmp 87) = .bool true := e87.trans r15
      refine wpG_yes 15 true 87 rfl (by kernel_rfl) (by rw [hS]; simp) v87 ?_
      have v4 : a.eval (.tmp 4) = .pointer (some ⟨gq, 0, none⟩) := (hU 4 (by kernel_rfl)).trans rfl
      clear hE hU
      exact wp_value_inv (w' := W) (.pointer (some ⟨gq, 0, none⟩)) (op_fieldAddr rfl v4 (field_hash W gq)) ⟨_, rfl, hB, Fr.refl _ _, rfl, fun _ _ _ _ _ => trivial⟩
    · simp only [List.getElem?_cons_zero, List.getElem?_cons_succ, Option.some.injEq] at ho
      subst ho
      intro a W vs hB hS hE hU
      obtain ⟨r15, e87⟩ := hE 15 87 (by kernel_rfl) (by kernel_rfl)
      have v87 : a.eval (.tmp 87) = .bool true := e87.trans r15
      refine wpG_yes 15 true 87 rfl (by kernel_rfl) (by rw [hS]; simp) v87 ?_
      obtain ⟨r17, e89⟩ := hE 17 89 (by kernel_rfl) (by kernel_rfl)
      have v89 : a.eval (.tmp 89) = .pointer (some ⟨gq, 0, none⟩) := e89.trans r17
      clear hE hU
      exact wp_value_inv (w' := W) (.agg HQ) (op_loadAt rfl v89 (LDQ.out W hB)) ⟨_, rfl, hB, Fr.refl _ _, rfl, fun _ _ _ _ _ => trivial⟩
    · simp only [List.getElem?_cons_zero, List.getElem?_cons_succ, Option.some.injEq] at ho
      subst ho
      intro a W vs hB hS hE hU
      obtain ⟨r15, e87⟩ := hE 15 87 (by kernel_rfl) (by kernel_rfl)
      have v87 : a.eval (.tmp 87) = .bool true := e87.trans r15
      refine wpG_yes 15 true 87 rfl (by kernel_rfl) (by rw [hS]; simp) v87 ?_
      obtain ⟨r16, e88⟩ := hE 16 88 (by kernel_rfl) (by kernel_rfl)
      have v88 : a.eval (.tmp 88) = .agg HQ := e88.trans r16
      obtain ⟨r18, e90⟩ := hE 18 90 (by kernel_rfl) (by kernel_rfl)
      have v90 : a.eval (.tmp 90) = .agg HQ := e90.trans r18
      clear hE hU
      exact wp_value_inv (w' := W) (.bool true) (op_bin rfl v88 v90 (guard_hash W _ _ _ _ _) (EQQ.out W)) ⟨_, rfl, hB, Fr.refl _ _, rfl, fun _ _ _ _ _ => trivial⟩
    · simp only [List.getElem?_cons_zero, List.getElem?_cons_succ, Option.some.injEq] at ho
      subst ho
      intro a W vs hB hS hE hU
      refine wpG_plain rfl ?_
      obtain ⟨r15, e87⟩ := hE 15 87 (by kernel_rfl) (by kernel_rfl)
      have v87 : a.eval (.tmp 87) = .bool true := e87.trans r15
      obtain ⟨r19, e91⟩ := hE 19 91 (by kernel_rfl) (by kernel_rfl)
      have v91 : a.eval (.tmp 91) = .bool true := e91.trans r19
      clear hE hU
      exact wp_value_inv (w' := W) (.bool true) (op_pick rfl v87 (by simp only [if_true]; exact v91)) ⟨_, rfl, hB, Fr.refl _ _, rfl, fun _ _ _ _ _ => trivial⟩
    · simp only [List.getElem?_cons_zero, List.getElem?_cons_succ, Option.some.injEq] at ho
      subst ho
      intro a W vs hB hS hE hU
      refine wpG_plain rfl ?_
      obtain ⟨r20, e92⟩ := hE 20 92 (by kernel_rfl) (by kernel_rfl)
      have v92 : a.eval (.tmp 92) = .bool true := e92.trans r20
      clear hE hU
      exact wp_value_inv (w' := W) (.bool true) (op_move rfl v92) ⟨_, rfl, hB, Fr.refl _ _, rfl, fun _ _ _ _ _ => trivial⟩
    · simp only [List.getElem?_cons_zero, List.getElem?_cons_succ, Option.some.injEq] at ho
      subst ho
      intro a W vs hB hS hE hU
      obtain ⟨r21, e93⟩ := hE 21 93 (by kernel_rfl) (by kernel_rfl)
      have v93 : a.eval (.tmp 93) = .bool true := e93.trans r21
      refine wpG_yes 21 true 93 rfl (by kernel_rfl) (by rw [hS]; simp) v93 ?_
      have v3 : a.eval (.tmp 3) = .pointer (some ⟨gp, 0, none⟩) := (hU 3 (by kernel_rfl)).trans rfl
      clear hE hU
      exact wp_value_inv (w' := W) (.pointer (some ⟨gp, 0, none⟩)) (op_fieldAddr rfl v3 (field_hash W gp)) ⟨_, rfl, hB, Fr.refl _ _, rfl, fun _ _ _ _ _ => trivial⟩
    · simp only [List.getElem?_cons_zero, List.getElem?_cons_succ, Option.some.injEq] at ho
      subst ho
      intro a W vs hB hS hE hU
      obtain ⟨r21, e93⟩ := hE 21 93 (by kernel_rfl) (by kernel_rfl)
      have v93 : a.eval (.tmp 93) = .bool true := e93.trans r21
      refine wpG_yes 21 true 93 rfl (by kernel_rfl) (by rw [hS]; simp) v93 ?_
      obtain ⟨r22, e94⟩ := hE 22 94 (by kernel_rfl) (by kernel_rfl)
      have v94 : a.eval (.tmp 94) = .pointer (some ⟨gp, 0, none⟩) := e94.trans r22
      clear hE hU
      exact wp_value_inv (w' := W) (.agg HP) (op_loadAt rfl v94 (LDP.out W hB)) ⟨_, rfl, hB, Fr.refl _ _, rfl, fun _ _ _ _ _ => trivial⟩
    · simp only [List.getElem?_cons_zero, List.getElem?_cons_succ, Option.some.injEq] at ho
      subst ho
      intro a W vs hB hS hE hU
      obtain ⟨r21, e93⟩ := hE 21 93 (by kernel_rfl) (by kernel_rfl)
      have v93 : a.eval (.tmp 93) = .bool true := e93.trans r21
      refine wpG_yes 21 true 93 rfl (by kernel_rfl) (by rw [hS]; simp) v93 ?_
      obtain ⟨r23, e95⟩ := hE 23 95 (by kernel_rfl) (by kernel_rfl)
      have v95 : a.eval (.tmp 95) = .agg HP := e95.trans r23
      clear hE hU
      refine wp_call_inv 15 #[.tmp 95] #[23] rfl #[.agg HP] (by simp only [List.map_toArray, List.map_cons, List.map_nil, v95]) (bLetters_enter _) (Post := fun v W' => v = .string LP ∧ Fr (fun _ => False) W W') ((HBLP.out W).mono fun e w' h => ⟨_, h.1, rfl, h.2⟩) ?_
      rintro v W' ⟨rfl, hf⟩
      exact ⟨_, rfl, hB.trans hf (fun _ h => h.elim), hf, rfl, fun _ _ _ _ _ => trivial⟩
    · simp only [List.getElem?_cons_zero, List.getElem?_cons_succ, Option.some.injEq] at ho
      subst ho
      intro a W vs hB hS hE hU
      obtain ⟨r21, e93⟩ := hE 21 93 (by kernel_rfl) (by kernel_rfl)
      have v93 : a.eval (.tmp 93) = .bool true := e93.trans r21
      refine wpG_yes 21 true 93 rfl (by kernel_rfl) (by rw [hS]; simp) v93 ?_
      have v4 : a.eval (.tmp 4) = .pointer (some ⟨gq, 0, none⟩) := (hU 4 (by kernel_rfl)).trans rfl
      clear hE hU
      exact wp_value_inv (w' := W) (.pointer (some ⟨gq, 0, none⟩)) (op_fieldAddr rfl v4 (field_hash W gq)) ⟨_, rfl, hB, Fr.refl _ _, rfl, fun _ _ _ _ _ => trivial⟩
    · simp only [List.getElem?_cons_zero, List.getElem?_cons_succ, Option.some.injEq] at ho
      subst ho
      intro a W vs hB hS hE hU
      obtain ⟨r21, e93⟩ := hE 21 93 (by kernel_rfl) (by kernel_rfl)
      have v93 : a.eval (.tmp 93) = .bool true := e93.trans r21
      refine wpG_yes 21 true 93 rfl (by kernel_rfl) (by rw [hS]; simp) v93 ?_
      obtain ⟨r25, e97⟩ := hE 25 97 (by kernel_rfl) (by kernel_rfl)
      have v97 : a.eval (.tmp 97) = .pointer (some ⟨gq, 0, none⟩) := e97.trans r25
      clear hE hU
      exact wp_value_inv (w' := W) (.agg HQ) (op_loadAt rfl v97 (LDQ.out W hB)) ⟨_, rfl, hB, Fr.refl _ _, rfl, fun _ _ _ _ _ => trivial⟩
    · simp only [List.getElem?_cons_zero, List.getElem?_cons_succ, Option.some.injEq] at ho
      subst ho
      intro a W vs hB hS hE hU
      obtain ⟨r21, e93⟩ := hE 21 93 (by kernel_rfl) (by kernel_rfl)
      have v93 : a.eval (.tmp 93) = .bool true := e93.trans r21
      refine wpG_yes 21 true 93 rfl (by kernel_rfl) (by rw [hS]; simp) v93 ?_
      obtain ⟨r26, e98⟩ := hE 26 98 (by kernel_rfl) (by kernel_rfl)
      have v98 : a.eval (.tmp 98) = .agg HQ := e98.trans r26
      clear hE hU
      refine wp_call_inv 15 #[.tmp 98] #[23] rfl #[.agg HQ] (by simp only [List.map_toArray, List.map_cons, List.map_nil, v98]) (bLetters_enter _) (Post := fun v W' => v = .string LQ ∧ Fr (fun _ => False) W W') ((HBLQ.out W).mono fun e w' h => ⟨_, h.1, rfl, h.2⟩) ?_
      rintro v W' ⟨rfl, hf⟩
      exact ⟨_, rfl, hB.trans hf (fun _ h => h.elim), hf, rfl, fun _ _ _ _ _ => trivial⟩
    · simp only [List.getElem?_cons_zero, List.getElem?_cons_succ, Option.some.injEq] at ho
      subst ho
      intro a W vs hB hS hE hU
      obtain ⟨r21, e93⟩ := hE 21 93 (by kernel_rfl) (by kernel_rfl)
      have v93 : a.eval (.tmp 93) = .bool true := e93.trans r21
      refine wpG_yes 21 true 93 rfl (by kernel_rfl) (by rw [hS]; simp) v93 ?_
      obtain ⟨r24, e96⟩ := hE 24 96 (by kernel_rfl) (by kernel_rfl)
      have v96 : a.eval (.tmp 96) = .string LP := e96.trans r24
      obtain ⟨r27, e99⟩ := hE 27 99 (by kernel_rfl) (by kernel_rfl)
      have v99 : a.eval (.tmp 99) = .string LQ := e99.trans r27
      clear hE hU
      exact wp_value_inv (w' := W) (.bool bq) (op_bin rfl v96 v99 (guard_str W _ _ _ _ _) (EQL.out W)) ⟨_, rfl, hB, Fr.refl _ _, rfl, fun _ _ _ _ _ => trivial⟩
    · simp only [List.getElem?_cons_zero, List.getElem?_cons_succ, Option.some.injEq] at ho
      subst ho
      intro a W vs hB hS hE hU
      obtain ⟨r21, e93⟩ := hE 21 93 (by kernel_rfl) (by kernel_rfl)
      have v93 : a.eval (.tmp 93) = .bool true := e93.trans r21
      refine wpG_yes 21 true 93 rfl (by kernel_rfl) (by rw [hS]; simp) v93 ?_
      have v3 : a.eval (.tmp 3) = .pointer (some ⟨gp, 0, none⟩) := (hU 3 (by kernel_rfl)).trans rfl
      clear hE hU
      exact wp_value_inv (w' := W) (.pointer (some ⟨gp, 0, none⟩)) (op_fieldAddr rfl v3 (field_hash W gp)) ⟨_, rfl, hB, Fr.refl _ _, rfl, fun _ _ _ _ _ => trivial⟩
    · simp only [List.getElem?_cons_zero, List.getElem?_cons_succ, Option.some.injEq] at ho
      subst ho
      intro a W vs hB hS hE hU
      obtain ⟨r21, e93⟩ := hE 21 93 (by kernel_rfl) (by kernel_rfl)
      have v93 : a.eval (.tmp 93) = .bool true := e93.trans r21
      refine wpG_yes 21 true 93 rfl (by kernel_rfl) (by rw [hS]; simp) v93 ?_
      obtain ⟨r29, e101⟩ := hE 29 101 (by kernel_rfl) (by kernel_rfl)
      have v101 : a.eval (.tmp 101) = .pointer (some ⟨gp, 0, none⟩) := e101.trans r29
      clear hE hU
      exact wp_value_inv (w' := W) (.agg HP) (op_loadAt rfl v101 (LDP.out W hB)) ⟨_, rfl, hB, Fr.refl _ _, rfl, fun _ _ _ _ _ => trivial⟩
    · simp only [List.getElem?_cons_zero, List.getElem?_cons_succ, Option.some.injEq] at ho
      subst ho
      intro a W vs hB hS hE hU
      obtain ⟨r21, e93⟩ := hE 21 93 (by kernel_rfl) (by kernel_rfl)
      have v93 : a.eval (.tmp 93) = .bool true := e93.trans r21
      refine wpG_yes 21 true 93 rfl (by kernel_rfl) (by rw [hS]; simp) v93 ?_
      have v4 : a.eval (.tmp 4) = .pointer (some ⟨gq, 0, none⟩) := (hU 4 (by kernel_rfl)).trans rfl
      clear hE hU
      exact wp_value_inv (w' := W) (.pointer (some ⟨gq, 0, none⟩)) (op_fieldAddr rfl v4 (field_hash W gq)) ⟨_, rfl, hB, Fr.refl _ _, rfl, fun _ _ _ _ _ => trivial⟩
    · simp only [List.getElem?_cons_zero, List.getElem?_cons_succ, Option.some.injEq] at ho
      subst ho
      intro a W vs hB hS hE hU
      obtain ⟨r21, e93⟩ := hE 21 93 (by kernel_rfl) (by kernel_rfl)
      have v93 : a.eval (.tmp 93) = .bool true := e93.trans r21
      refine wpG_yes 21 true 93 rfl (by kernel_rfl) (by rw [hS]; simp) v93 ?_
      obtain ⟨r31, e103⟩ := hE 31 103 (by kernel_rfl) (by kernel_rfl)
      have v103 : a.eval (.tmp 103) = .pointer (some ⟨gq, 0, none⟩) := e103.trans r31
      clear hE hU
      exact wp_value_inv (w' := W) (.agg HQ) (op_loadAt rfl v103 (LDQ.out W hB)) ⟨_, rfl, hB, Fr.refl _ _, rfl, fun _ _ _ _ _ => trivial⟩
    · simp only [List.getElem?_cons_zero, List.getElem?_cons_succ, Option.some.injEq] at ho
      subst ho
      intro a W vs hB hS hE hU
      obtain ⟨r21, e93⟩ := hE 21 93 (by kernel_rfl) (by kernel_rfl)
      have v93 : a.eval (.tmp 93) = .bool true := e93.trans r21
      refine wpG_yes 21 true 93 rfl (by kernel_rfl) (by rw [hS]; simp) v93 ?_
      obtain ⟨r30, e102⟩ := hE 30 102 (by kernel_rfl) (by kernel_rfl)
      have v102 : a.eval (.tmp 102) = .agg HP := e102.trans r30
      obtain ⟨r32, e104⟩ := hE 32 104 (by kernel_rfl) (by kernel_rfl)
      have v104 : a.eval (.tmp 104) = .agg HQ := e104.trans r32
      clear hE hU
      exact wp_value_inv (w' := W) (.bool bq) (op_bin rfl v102 v104 (guard_hash W _ _ _ _ _) (EQH.out W)) ⟨_, rfl, hB, Fr.refl _ _, rfl, fun _ _ _ _ _ => trivial⟩
    · simp only [List.getElem?_cons_zero, List.getElem?_cons_succ, Option.some.injEq] at ho
      subst ho
      intro a W vs hB hS hE hU
      obtain ⟨r21, e93⟩ := hE 21 93 (by kernel_rfl) (by kernel_rfl)
      have v93 : a.eval (.tmp 93) = .bool true := e93.trans r21
      refine wpG_yes 21 true 93 rfl (by kernel_rfl) (by rw [hS]; simp) v93 ?_
      obtain ⟨r28, e100⟩ := hE 28 100 (by kernel_rfl) (by kernel_rfl)
      have v100 : a.eval (.tmp 100) = .bool bq := e100.trans r28
      obtain ⟨r33, e105⟩ := hE 33 105 (by kernel_rfl) (by kernel_rfl)
      have v105 : a.eval (.tmp 105) = .bool bq := e105.trans r33
      clear hE hU
      exact wp_value_inv (w' := W) (.bool true) (op_bin rfl v100 v105 (guard_bool W _ _ _ _ _ _) (eql_bool W _)) ⟨_, rfl, hB, Fr.refl _ _, rfl, fun _ _ _ _ _ => trivial⟩
    · simp only [List.getElem?_cons_zero, List.getElem?_cons_succ, Option.some.injEq] at ho
      subst ho
      intro a W vs hB hS hE hU
      refine wpG_plain rfl ?_
      obtain ⟨r21, e93⟩ := hE 21 93 (by kernel_rfl) (by kernel_rfl)
      have v93 : a.eval (.tmp 93) = .bool true := e93.trans r21
      obtain ⟨r34, e106⟩ := hE 34 106 (by kernel_rfl) (by kernel_rfl)
      have v106 : a.eval (.tmp 106) = .bool true := e106.trans r34
      clear hE hU
      exact wp_value_inv (w' := W) (.bool true) (op_pick rfl v93 (by simp only [if_true]; exact v106)) ⟨_, rfl, hB, Fr.refl _ _, rfl, fun _ _ _ _ _ => trivial⟩
  · intro vs W hB hR hD
    have r35 : vs 35 = .bool true := hR 35 (by decide)
    have HF9 := Lib.hid (HF8.out.trans hB (fun _ h => h.elim))
    clear hR hD hB
    simp only [acts, if_true, dstAt, List.getElem?_cons_zero, List.getElem?_cons_succ, Option.bind_some, Act.put, List.setIfInBounds_toArray, List.set_cons_succ, List.set_cons_zero, List.drop_succ_cons, List.drop_zero]
    rw [r35]
    clear r35
    go_wp2
    go_ret
    exact ⟨rfl, HF9.out⟩
end Go.Proofs.Ytdmlalnekjihfaa
