/- Contracts of strings.Clone, base.Parse. Printed by gen_bparse.py (wip/gen). -/
import Derived.Test.YtdmlalnekjihfaaBHash
import Derived.Test.YtdmlalnekjihfaaBPath
import Derived.Test.YtdmlalnekjihfaaRParse
import Derived.Test.YtdmlalnekjihfaaOps
import Derived.Test.YtdmlalnekjihfaaShelf
namespace Go.Proofs.Ytdmlalnekjihfaa
open Go.RowKit Go.ChangeShapes
set_option linter.unusedVariables false

theorem Fr.new {w w' : World} (h : Below w.heap.size w w') : Fr (fun _ => False) w w' := (Fr.ofBelow h).mono (fun i hi h => absurd hi (by omega))
theorem clone_any (s : ByteArray) (hs : s.size ≤ 140737488351232) (w : World) :
    Calls Try.prog 27 #[.string s] w fun e w' => e = .returned (.string s) ∧ Fr (fun _ => False) w w' := by
  have HC := Lib.hid (fun W => Try.stringslite_Clone s W (by omega))
  go_enter Try.func27, Try.ntmps27
  go_wp2_with (go_at_call 35; refine (HC.out _).mono ?_; rintro e w' ⟨rfl, hb⟩; have HB := Lib.hid (Fr.new hb); clear hb)
  go_ret
  exact ⟨rfl, HB.out⟩
theorem clone_enter (args : Array Value) (w : World) : (callFunc 27 args).run Try.prog w = .ok (.enter 27 args) w := by rfl

theorem parse_short (L : List UInt8) (h : L.length ≤ 32) : parseOk L = false := by
  simp only [parseOk]
  rw [decide_eq_false (by omega)]
  rfl
theorem parse_sign (L : List UInt8) (h : ¬ L.getD 32 0 = 45) : parseOk L = false := by
  simp only [parseOk]
  rw [show (L.getD 32 0 == 45) = false by rw [beq_eq_false_iff_ne]; exact h]
  simp
theorem parse_hash (L : List UInt8) (h : hashOk (L.take 32) = false) : parseOk L = false := by
  simp only [parseOk]
  rw [h]
  simp
theorem parse_name (L : List UInt8) (h : nameB (L.drop 33) = false) : parseOk L = false := by
  simp only [parseOk]
  rw [h]
  simp
theorem parse_yes (L : List UInt8) (h1 : L.getD 32 0 = 45) (h2 : nameB (L.drop 33) = true) (h3 : hashOk (L.take 32) = true) : parseOk L = true := by
  have hl : 34 ≤ L.length := by
    have h := h2
    simp only [nameB, Bool.and_eq_true, decide_eq_true_eq, List.length_drop] at h
    omega
  simp only [parseOk]
  rw [decide_eq_true hl, h1, h2, h3]
  rfl

/-- What the last statement's operations come to. -/
def PrR (A : List Value) (N : ByteArray) (i : Nat) (v : Value) (W : World) : Prop :=
  match i with
  | 0 => v = .agg A.toArray
  | 1 => v = .string N
  | 2 => v = .string N
  | 3 => v = .agg (A ++ [Value.string N]).toArray
  | _ => True
theorem PrR.ext (A : List Value) (N : ByteArray) : ∀ (j : Nat) (u : Value) (W W' : World), Fr (fun _ => False) W W' → PrR A N j u W → PrR A N j u W'
  | 0, _, _, _, _, h => h
  | 1, _, _, _, _, h => h
  | 2, _, _, _, _, h => h
  | 3, _, _, _, _, h => h
  | _ + 4, _, _, _, _, _ => trivial

set_option maxRecDepth 100000 in
set_option maxHeartbeats 4000000 in
theorem bParse_any (s : ByteArray) (hs : s.size ≤ 140737488351232) (w : World) :
    Calls Try.prog 13 #[.string s] w fun e w' => e = .returned (parseT s) ∧ Fr (fun _ => False) w w' := by
  have hsl : s.size = s.data.toList.length := by simp
  obtain ⟨S, hS⟩ : ∃ S, S = s.data.toList := ⟨_, rfl⟩
  have hgs : ∀ i (h : i < s.size), s[i] = S.getD i 0 := fun i h => by
    rw [hS, List.getD_eq_getElem?_getD, List.getElem?_eq_getElem (by rw [← hsl]; exact h)]
    rfl
  have HGS := Lib.hid hgs
  have HT := Lib.hid (show (s.extract 0 32).data.toList = S.take 32 by rw [hS]; exact cut_take s)
  have HD := Lib.hid (show (s.extract 33 s.size).data.toList = S.drop 33 by rw [hS]; exact cut_drop s)
  have hn0 := bName_any (s.extract 33 s.size) (Nat.le_trans (cut_size _ _ _) hs)
  have hh0 := bHash_any (s.extract 0 32) (Nat.le_trans (cut_size _ _ _) hs)
  rw [HT.out] at hh0
  rw [HD.out] at hn0
  have HN := Lib.hid hn0
  have HH := Lib.hid hh0
  have HCL := Lib.hid (clone_any (s.extract 33 s.size) (Nat.le_trans (cut_size _ _ _) hs))
  obtain ⟨RS, hRS⟩ : ∃ RS, RS = parseT s := ⟨_, rfl⟩
  rw [← hRS]
  rw [parseT, ← hS] at hRS
  have HRS := Lib.hid hRS
  have HSL := Lib.hid (show s.size = S.length by rw [hS]; exact hsl)
  have hi1 : (Try.prog.info? 25).map (·.size) = some (#[.int .u8 0, .int .u8 0, .int .u8 0, .int .u8 0, .int .u8 0, .int .u8 0, .int .u8 0, .int .u8 0, .int .u8 0, .int .u8 0, .int .u8 0, .int .u8 0, .int .u8 0, .int .u8 0, .int .u8 0, .int .u8 0, .int .u8 0, .int .u8 0, .int .u8 0, .int .u8 0, .string ⟨#[]⟩] : Array Value).size := by kernel_rfl
  have ho1 : ((#[.int .u8 0, .int .u8 0, .int .u8 0, .int .u8 0, .int .u8 0, .int .u8 0, .int .u8 0, .int .u8 0, .int .u8 0, .int .u8 0, .int .u8 0, .int .u8 0, .int .u8 0, .int .u8 0, .int .u8 0, .int .u8 0, .int .u8 0, .int .u8 0, .int .u8 0, .int .u8 0, .string ⟨#[]⟩] : Array Value).all (·.oneCell')) = true := pathC_one (List.replicate 20 0) ⟨#[]⟩
  have hr : (w.alloc (.cells #[.int .u8 0, .int .u8 0, .int .u8 0, .int .u8 0, .int .u8 0, .int .u8 0, .int .u8 0, .int .u8 0, .int .u8 0, .int .u8 0, .int .u8 0, .int .u8 0, .int .u8 0, .int .u8 0, .int .u8 0, .int .u8 0, .int .u8 0, .int .u8 0, .int .u8 0, .int .u8 0, .string ⟨#[]⟩] 25)).heap[w.heap.size]? = some (.cells #[.int .u8 0, .int .u8 0, .int .u8 0, .int .u8 0, .int .u8 0, .int .u8 0, .int .u8 0, .int .u8 0, .int .u8 0, .int .u8 0, .int .u8 0, .int .u8 0, .int .u8 0, .int .u8 0, .int .u8 0, .int .u8 0, .int .u8 0, .int .u8 0, .int .u8 0, .int .u8 0, .string ⟨#[]⟩] 25 (0, 0)) := heap_alloc_new w _
  have HB := Lib.hid (fun (h : parseOk S = false) => show RS = .tuple #[.agg #[.int .u8 0, .int .u8 0, .int .u8 0, .int .u8 0, .int .u8 0, .int .u8 0, .int .u8 0, .int .u8 0, .int .u8 0, .int .u8 0, .int .u8 0, .int .u8 0, .int .u8 0, .int .u8 0, .int .u8 0, .int .u8 0, .int .u8 0, .int .u8 0, .int .u8 0, .int .u8 0, .string ⟨#[]⟩], .int .i64 4] by
    rw [HRS.out, if_neg (by rw [h]; decide)]
    rfl)
  clear hn0 hh0 hRS hgs hS hsl
  by_cases h32 : s.size ≤ 32
  · have HBAD := Lib.hid (HB.out (parse_short S (by rw [← HSL.out]; exact h32)))
    have hd : decide ((s.size : Int) ≤ 32) = true := by rw [decide_eq_true_iff]; omega
    go_enter Try.func13, Try.ntmps13
    go_wp2_with (with_reducible refine wpList_store_row rfl 25 (.tmp 2) (.tmp 15) rfl w.heap.size #[.int .u8 0, .int .u8 0, .int .u8 0, .int .u8 0, .int .u8 0, .int .u8 0, .int .u8 0, .int .u8 0, .int .u8 0, .int .u8 0, .int .u8 0, .int .u8 0, .int .u8 0, .int .u8 0, .int .u8 0, .int .u8 0, .int .u8 0, .int .u8 0, .int .u8 0, .int .u8 0, .string ⟨#[]⟩] #[.int .u8 0, .int .u8 0, .int .u8 0, .int .u8 0, .int .u8 0, .int .u8 0, .int .u8 0, .int .u8 0, .int .u8 0, .int .u8 0, .int .u8 0, .int .u8 0, .int .u8 0, .int .u8 0, .int .u8 0, .int .u8 0, .int .u8 0, .int .u8 0, .int .u8 0, .int .u8 0, .string ⟨#[]⟩] 25 rfl rfl hr hi1 rfl ho1 ?_)
    refine bodyPost_ret (results_cell_row_tmp rfl _ _ w.heap.size 25 #[.int .u8 0, .int .u8 0, .int .u8 0, .int .u8 0, .int .u8 0, .int .u8 0, .int .u8 0, .int .u8 0, .int .u8 0, .int .u8 0, .int .u8 0, .int .u8 0, .int .u8 0, .int .u8 0, .int .u8 0, .int .u8 0, .int .u8 0, .int .u8 0, .int .u8 0, .int .u8 0, .string ⟨#[]⟩] (0, 0) _ rfl (setRow_heap _ _ _ _ _ _ hr) Try.underlying25 rfl hi1) rfl ⟨?_, ((Fr.refl _ _).alloc _).setRow (.inr (Nat.le_refl _)) _⟩
    rw [HBAD.out]
    rfl
  · have hd : decide ((s.size : Int) ≤ 32) = false := by rw [decide_eq_false_iff_not]; omega
    obtain ⟨c, hc⟩ : ∃ c, c = S.getD 32 0 := ⟨_, rfl⟩
    have hg : ∀ h, s[32]'h = c := fun h => by rw [hc]; exact HGS.out 32 h
    have b32 : (32 : Int) < (s.size : Int) := by omega
    have b33 : (33 : Int) ≤ (s.size : Int) := by omega
    have HC := Lib.hid hc
    clear hc
    by_cases h45 : c = 45
    · have hcd : ((c.toNat : Int) != 45) = false := by rw [bne_eq_false_iff_eq, h45]; rfl
      have HC45 := Lib.hid h45
      clear h45
      by_cases hk : hashOk (S.take 32) = true
      · obtain ⟨Al, hA⟩ : ∃ A, A = (hashL (S.take 32) 160).map bv := ⟨_, rfl⟩
        have HA := Lib.hid hA
        have hAl : Al.length = 20 := by rw [hA]; rw [List.length_map, hashL_length]
        have HI := Lib.hid (show (Try.prog.info? 23).map (·.size) = some Al.toArray.size by rw [List.size_toArray, hAl]; kernel_rfl)
        have HL := Lib.hid (show (#[.int .u8 0, .int .u8 0, .int .u8 0, .int .u8 0, .int .u8 0, .int .u8 0, .int .u8 0, .int .u8 0, .int .u8 0, .int .u8 0, .int .u8 0, .int .u8 0, .int .u8 0, .int .u8 0, .int .u8 0, .int .u8 0, .int .u8 0, .int .u8 0, .int .u8 0, .int .u8 0] : Array Value).size = Al.toArray.size from Eq.trans (b := 20) rfl (by rw [List.size_toArray, hAl]))
        have HO := Lib.hid (show Al.toArray.all (·.oneCell') = true by rw [hA]; exact row_one _)
        have HHV := Lib.hid (show hashT (S.take 32) = .tuple #[.agg Al.toArray, .int .i64 0] by rw [hashT, if_pos hk, hA])
        by_cases hn : nameB (S.drop 33) = true
        · have HNV := Lib.hid hn
          have HOK := Lib.hid (show RS = .tuple #[.agg (pathC (hashL (S.take 32) 160) (s.extract 33 s.size)), .int .i64 0] by
            rw [HRS.out, if_pos (parse_yes S (by rw [← HC.out]; exact HC45.out) hn hk)])
          have HAL := Lib.hid hAl
          obtain ⟨N, hN⟩ : ∃ N, N = s.extract 33 s.size := ⟨_, rfl⟩
          rw [← hN] at HOK HCL HN
          have HP := Lib.hid (show (Try.prog.info? 25).map (·.size) = some (Al ++ [Value.string N]).toArray.size by rw [List.size_toArray, List.length_append, hAl]; kernel_rfl)
          have HPL := Lib.hid (show (#[.int .u8 0, .int .u8 0, .int .u8 0, .int .u8 0, .int .u8 0, .int .u8 0, .int .u8 0, .int .u8 0, .int .u8 0, .int .u8 0, .int .u8 0, .int .u8 0, .int .u8 0, .int .u8 0, .int .u8 0, .int .u8 0, .int .u8 0, .int .u8 0, .int .u8 0, .int .u8 0, .string ⟨#[]⟩] : Array Value).size = (Al ++ [Value.string N]).toArray.size from Eq.trans (b := 21) rfl (by rw [List.size_toArray, List.length_append, hAl]; rfl))
          have HPO := Lib.hid (show (Al ++ [Value.string N]).toArray.all (·.oneCell') = true by rw [hA]; exact pathC_one _ _)
          have HNN := Lib.hid hN.symm
          clear hA hk hAl hn hN
          go_enter Try.func13, Try.ntmps13
          go_wp2_with (first
            | (go_at_call 17; rw [HNN.out]; refine (HN.out _).mono ?_; rintro e w3 ⟨rfl, hf3⟩; rw [HNV.out]; have hr3 := Fr.heap hf3 hr2 (fun h => h); have hg3 := Fr.heap hf3 hg2 (fun h => h); have HF3 := Lib.hid (HF2.out.trans hf3 (fun _ h => h.elim)); clear hf3 hr2 hg2)
            | (go_at_call 9; refine (HH.out _).mono ?_; rintro e w1 ⟨rfl, hf1⟩; rw [HHV.out]; have hr1 := Fr.heap hf1 hr (fun h => h); have HF := Lib.hid (((Fr.refl (fun _ => False) w).alloc (.cells #[.int .u8 0, .int .u8 0, .int .u8 0, .int .u8 0, .int .u8 0, .int .u8 0, .int .u8 0, .int .u8 0, .int .u8 0, .int .u8 0, .int .u8 0, .int .u8 0, .int .u8 0, .int .u8 0, .int .u8 0, .int .u8 0, .int .u8 0, .int .u8 0, .int .u8 0, .int .u8 0, .string ⟨#[]⟩] 25)).trans hf1 (fun _ h => h.elim)); clear hf1)
            | (with_reducible refine wpList_store_row rfl 23 (.tmp 4) (.tmp 20) rfl w1.heap.size Al.toArray #[.int .u8 0, .int .u8 0, .int .u8 0, .int .u8 0, .int .u8 0, .int .u8 0, .int .u8 0, .int .u8 0, .int .u8 0, .int .u8 0, .int .u8 0, .int .u8 0, .int .u8 0, .int .u8 0, .int .u8 0, .int .u8 0, .int .u8 0, .int .u8 0, .int .u8 0, .int .u8 0] 23 rfl rfl (heap_alloc_new w1 _) HI.out HL.out HO.out ?_; (have hg2 := setRow_heap (w1.alloc (.cells #[.int .u8 0, .int .u8 0, .int .u8 0, .int .u8 0, .int .u8 0, .int .u8 0, .int .u8 0, .int .u8 0, .int .u8 0, .int .u8 0, .int .u8 0, .int .u8 0, .int .u8 0, .int .u8 0, .int .u8 0, .int .u8 0, .int .u8 0, .int .u8 0, .int .u8 0, .int .u8 0] 23)) w1.heap.size #[.int .u8 0, .int .u8 0, .int .u8 0, .int .u8 0, .int .u8 0, .int .u8 0, .int .u8 0, .int .u8 0, .int .u8 0, .int .u8 0, .int .u8 0, .int .u8 0, .int .u8 0, .int .u8 0, .int .u8 0, .int .u8 0, .int .u8 0, .int .u8 0, .int .u8 0, .int .u8 0] Al.toArray 23 (0, 0) (heap_alloc_new w1 _)); (have hf2 := ((Fr.refl (fun _ => False) w1).alloc (.cells #[.int .u8 0, .int .u8 0, .int .u8 0, .int .u8 0, .int .u8 0, .int .u8 0, .int .u8 0, .int .u8 0, .int .u8 0, .int .u8 0, .int .u8 0, .int .u8 0, .int .u8 0, .int .u8 0, .int .u8 0, .int .u8 0, .int .u8 0, .int .u8 0, .int .u8 0, .int .u8 0] 23)).setRow (.inr (Nat.le_refl w1.heap.size)) Al.toArray); (have hr2 := Fr.heap hf2 hr1 (fun h => h)); (have HF2 := Lib.hid (HF.out.trans hf2 (fun _ h => h.elim))); clear hf2 HF hr hr1; generalize (w1.alloc (.cells #[.int .u8 0, .int .u8 0, .int .u8 0, .int .u8 0, .int .u8 0, .int .u8 0, .int .u8 0, .int .u8 0, .int .u8 0, .int .u8 0, .int .u8 0, .int .u8 0, .int .u8 0, .int .u8 0, .int .u8 0, .int .u8 0, .int .u8 0, .int .u8 0, .int .u8 0, .int .u8 0] 23)).setRow w1.heap.size Al.toArray = W2 at *))
          generalize w1.heap.size = gg at *
          refine wp_region_inv 4 (by kernel_rfl) (by kernel_rfl) (fun W => Fr (fun _ => False) w3 W) (PrR Al N) (fun _ _ _ _ => True) (Fr (fun _ => False)) (PrR.ext Al N) (Fr.refl _ _).drew ?_ ?_
          · intro i hi o ho
            replace hi : i < 4 := hi
            obtain rfl | rfl | rfl | rfl : i = 0 ∨ i = 1 ∨ i = 2 ∨ i = 3 := by omega
            · simp only [List.getElem?_cons_zero, Option.some.injEq] at ho
              subst ho
              intro a W vs hB hS hE hU
              refine wpG_plain rfl ?_
              have v4 : a.eval (.tmp 4) = .pointer (some ⟨gg, 0, none⟩) := (hU 4 (by kernel_rfl)).trans rfl
              clear hE hU
              exact wp_load_row 23 (.tmp 4) rfl gg v4 23 Al.toArray (0, 0) _ (Fr.heap hB hg3 (fun h => h)) Try.underlying23 rfl HI.out ⟨_, rfl, hB, Fr.refl _ _, rfl, fun _ _ _ _ _ => trivial⟩
            · simp only [List.getElem?_cons_zero, List.getElem?_cons_succ, Option.some.injEq] at ho
              subst ho
              intro a W vs hB hS hE hU
              refine wpG_plain rfl ?_
              have v6 : a.eval (.tmp 6) = .string N := (hU 6 (by kernel_rfl)).trans rfl
              clear hE hU
              exact wp_value_inv (w' := W) (.string N) (op_move rfl v6) ⟨_, rfl, hB, Fr.refl _ _, rfl, fun _ _ _ _ _ => trivial⟩
            · simp only [List.getElem?_cons_zero, List.getElem?_cons_succ, Option.some.injEq] at ho
              subst ho
              intro a W vs hB hS hE hU
              refine wpG_plain rfl ?_
              obtain ⟨r1, e33⟩ := hE 1 33 (by kernel_rfl) (by kernel_rfl)
              have v33 : a.eval (.tmp 33) = .string N := e33.trans r1
              clear hE hU
              refine wp_call_inv 27 #[.tmp 33] #[9] rfl #[.string N] (by simp only [List.map_toArray, List.map_cons, List.map_nil, v33]) (clone_enter _) (Post := fun v W' => v = .string N ∧ Fr (fun _ => False) W W') ((HCL.out W).mono fun e w' h => ⟨_, h.1, rfl, h.2⟩) ?_
              rintro v W' ⟨rfl, hf⟩
              exact ⟨_, rfl, hB.trans hf (fun _ h => h.elim), hf, rfl, fun _ _ _ _ _ => trivial⟩
            · simp only [List.getElem?_cons_zero, List.getElem?_cons_succ, Option.some.injEq] at ho
              subst ho
              intro a W vs hB hS hE hU
              refine wpG_plain rfl ?_
              obtain ⟨r0, e32⟩ := hE 0 32 (by kernel_rfl) (by kernel_rfl)
              have v32 : a.eval (.tmp 32) = .agg Al.toArray := e32.trans r0
              obtain ⟨r2, e34⟩ := hE 2 34 (by kernel_rfl) (by kernel_rfl)
              have v34 : a.eval (.tmp 34) = .string N := e34.trans r2
              clear hE hU
              exact wp_value_inv (w' := W) (.agg (Al ++ [Value.string N]).toArray) (op_build rfl (vs := #[(0, .agg Al.toArray), (1, .string N)]) (by simp only [List.map_toArray, List.map_cons, List.map_nil, v32, v34]) (path_built Al HAL.out N)) ⟨_, rfl, hB, Fr.refl _ _, rfl, fun _ _ _ _ _ => trivial⟩
          · intro vs W hB hR hD
            have r3 : vs 3 = .agg (Al ++ [Value.string N]).toArray := hR 3 (by decide)
            have hr4 := Fr.heap hB hr3 (fun h => h)
            have HF4 := Lib.hid (HF3.out.trans hB (fun _ h => h.elim))
            clear hR hD hB
            simp only [acts, if_true, dstAt, List.getElem?_cons_zero, List.getElem?_cons_succ, Option.bind_some, Act.put, List.setIfInBounds_toArray, List.set_cons_succ, List.set_cons_zero, List.drop_succ_cons, List.drop_zero]
            rw [r3]
            clear r3
            go_wp2_with (with_reducible refine wpList_store_row rfl 25 (.tmp 2) (.tmp 35) rfl w.heap.size (Al ++ [Value.string N]).toArray #[.int .u8 0, .int .u8 0, .int .u8 0, .int .u8 0, .int .u8 0, .int .u8 0, .int .u8 0, .int .u8 0, .int .u8 0, .int .u8 0, .int .u8 0, .int .u8 0, .int .u8 0, .int .u8 0, .int .u8 0, .int .u8 0, .int .u8 0, .int .u8 0, .int .u8 0, .int .u8 0, .string ⟨#[]⟩] 25 rfl rfl hr4 HP.out HPL.out HPO.out ?_)
            refine bodyPost_ret (results_cell_row_tmp rfl _ _ w.heap.size 25 (Al ++ [Value.string N]).toArray (0, 0) _ rfl (setRow_heap _ _ _ _ _ _ hr4) Try.underlying25 rfl HP.out) rfl ⟨?_, HF4.out.setRow (.inr (Nat.le_refl _)) _⟩
            rw [HOK.out, pathC, ← HA.out]
            rfl
        · have HNV := Lib.hid (show nameB (S.drop 33) = false by simpa using hn)
          have HBAD := Lib.hid (HB.out (parse_name S HNV.out))
          clear hA hk hAl hn
          go_enter Try.func13, Try.ntmps13
          go_wp2_with (first
            | (go_at_call 17; refine (HN.out _).mono ?_; rintro e w3 ⟨rfl, hf3⟩; rw [HNV.out]; have hr3 := Fr.heap hf3 hr2 (fun h => h); have hg3 := Fr.heap hf3 hg2 (fun h => h); have HF3 := Lib.hid (HF2.out.trans hf3 (fun _ h => h.elim)); clear hf3 hr2 hg2)
            | (go_at_call 9; refine (HH.out _).mono ?_; rintro e w1 ⟨rfl, hf1⟩; rw [HHV.out]; have hr1 := Fr.heap hf1 hr (fun h => h); have HF := Lib.hid (((Fr.refl (fun _ => False) w).alloc (.cells #[.int .u8 0, .int .u8 0, .int .u8 0, .int .u8 0, .int .u8 0, .int .u8 0, .int .u8 0, .int .u8 0, .int .u8 0, .int .u8 0, .int .u8 0, .int .u8 0, .int .u8 0, .int .u8 0, .int .u8 0, .int .u8 0, .int .u8 0, .int .u8 0, .int .u8 0, .int .u8 0, .string ⟨#[]⟩] 25)).trans hf1 (fun _ h => h.elim)); clear hf1)
            | (with_reducible refine wpList_store_row rfl 23 (.tmp 4) (.tmp 20) rfl w1.heap.size Al.toArray #[.int .u8 0, .int .u8 0, .int .u8 0, .int .u8 0, .int .u8 0, .int .u8 0, .int .u8 0, .int .u8 0, .int .u8 0, .int .u8 0, .int .u8 0, .int .u8 0, .int .u8 0, .int .u8 0, .int .u8 0, .int .u8 0, .int .u8 0, .int .u8 0, .int .u8 0, .int .u8 0] 23 rfl rfl (heap_alloc_new w1 _) HI.out HL.out HO.out ?_; (have hg2 := setRow_heap (w1.alloc (.cells #[.int .u8 0, .int .u8 0, .int .u8 0, .int .u8 0, .int .u8 0, .int .u8 0, .int .u8 0, .int .u8 0, .int .u8 0, .int .u8 0, .int .u8 0, .int .u8 0, .int .u8 0, .int .u8 0, .int .u8 0, .int .u8 0, .int .u8 0, .int .u8 0, .int .u8 0, .int .u8 0] 23)) w1.heap.size #[.int .u8 0, .int .u8 0, .int .u8 0, .int .u8 0, .int .u8 0, .int .u8 0, .int .u8 0, .int .u8 0, .int .u8 0, .int .u8 0, .int .u8 0, .int .u8 0, .int .u8 0, .int .u8 0, .int .u8 0, .int .u8 0, .int .u8 0, .int .u8 0, .int .u8 0, .int .u8 0] Al.toArray 23 (0, 0) (heap_alloc_new w1 _)); (have hf2 := ((Fr.refl (fun _ => False) w1).alloc (.cells #[.int .u8 0, .int .u8 0, .int .u8 0, .int .u8 0, .int .u8 0, .int .u8 0, .int .u8 0, .int .u8 0, .int .u8 0, .int .u8 0, .int .u8 0, .int .u8 0, .int .u8 0, .int .u8 0, .int .u8 0, .int .u8 0, .int .u8 0, .int .u8 0, .int .u8 0, .int .u8 0] 23)).setRow (.inr (Nat.le_refl w1.heap.size)) Al.toArray); (have hr2 := Fr.heap hf2 hr1 (fun h => h)); (have HF2 := Lib.hid (HF.out.trans hf2 (fun _ h => h.elim))); clear hf2 HF hr hr1; generalize (w1.alloc (.cells #[.int .u8 0, .int .u8 0, .int .u8 0, .int .u8 0, .int .u8 0, .int .u8 0, .int .u8 0, .int .u8 0, .int .u8 0, .int .u8 0, .int .u8 0, .int .u8 0, .int .u8 0, .int .u8 0, .int .u8 0, .int .u8 0, .int .u8 0, .int .u8 0, .int .u8 0, .int .u8 0] 23)).setRow w1.heap.size Al.toArray = W2 at *)
            | (with_reducible refine wpList_store_row rfl 25 (.tmp 2) (.tmp 31) rfl w.heap.size #[.int .u8 0, .int .u8 0, .int .u8 0, .int .u8 0, .int .u8 0, .int .u8 0, .int .u8 0, .int .u8 0, .int .u8 0, .int .u8 0, .int .u8 0, .int .u8 0, .int .u8 0, .int .u8 0, .int .u8 0, .int .u8 0, .int .u8 0, .int .u8 0, .int .u8 0, .int .u8 0, .string ⟨#[]⟩] #[.int .u8 0, .int .u8 0, .int .u8 0, .int .u8 0, .int .u8 0, .int .u8 0, .int .u8 0, .int .u8 0, .int .u8 0, .int .u8 0, .int .u8 0, .int .u8 0, .int .u8 0, .int .u8 0, .int .u8 0, .int .u8 0, .int .u8 0, .int .u8 0, .int .u8 0, .int .u8 0, .string ⟨#[]⟩] 25 rfl rfl hr3 hi1 rfl ho1 ?_))
          refine bodyPost_ret (results_cell_row_tmp rfl _ _ w.heap.size 25 #[.int .u8 0, .int .u8 0, .int .u8 0, .int .u8 0, .int .u8 0, .int .u8 0, .int .u8 0, .int .u8 0, .int .u8 0, .int .u8 0, .int .u8 0, .int .u8 0, .int .u8 0, .int .u8 0, .int .u8 0, .int .u8 0, .int .u8 0, .int .u8 0, .int .u8 0, .int .u8 0, .string ⟨#[]⟩] (0, 0) _ rfl (setRow_heap _ _ _ _ _ _ hr3) Try.underlying25 rfl hi1) rfl ⟨?_, (HF3.out).setRow (.inr (Nat.le_refl _)) _⟩
          rw [HBAD.out]
          rfl
      · obtain ⟨Al, hA⟩ : ∃ A, A = (List.replicate 20 (0 : UInt8)).map bv := ⟨_, rfl⟩
        have hAl : Al.length = 20 := by rw [hA]; rfl
        have HI := Lib.hid (show (Try.prog.info? 23).map (·.size) = some Al.toArray.size by rw [List.size_toArray, hAl]; kernel_rfl)
        have HL := Lib.hid (show (#[.int .u8 0, .int .u8 0, .int .u8 0, .int .u8 0, .int .u8 0, .int .u8 0, .int .u8 0, .int .u8 0, .int .u8 0, .int .u8 0, .int .u8 0, .int .u8 0, .int .u8 0, .int .u8 0, .int .u8 0, .int .u8 0, .int .u8 0, .int .u8 0, .int .u8 0, .int .u8 0] : Array Value).size = Al.toArray.size from Eq.trans (b := 20) rfl (by rw [List.size_toArray, hAl]))
        have HO := Lib.hid (show Al.toArray.all (·.oneCell') = true by rw [hA]; exact row_one _)
        have HHV := Lib.hid (show hashT (S.take 32) = .tuple #[.agg Al.toArray, .int .i64 4] by rw [hashT, if_neg hk, hA])
        have HBAD := Lib.hid (HB.out (parse_hash S (by simpa using hk)))
        clear hA hk hAl
        go_enter Try.func13, Try.ntmps13
        go_wp2_with (first
          | (go_at_call 9; refine (HH.out _).mono ?_; rintro e w1 ⟨rfl, hf1⟩; rw [HHV.out]; have hr1 := Fr.heap hf1 hr (fun h => h); have HF := Lib.hid (((Fr.refl (fun _ => False) w).alloc (.cells #[.int .u8 0, .int .u8 0, .int .u8 0, .int .u8 0, .int .u8 0, .int .u8 0, .int .u8 0, .int .u8 0, .int .u8 0, .int .u8 0, .int .u8 0, .int .u8 0, .int .u8 0, .int .u8 0, .int .u8 0, .int .u8 0, .int .u8 0, .int .u8 0, .int .u8 0, .int .u8 0, .string ⟨#[]⟩] 25)).trans hf1 (fun _ h => h.elim)); clear hf1)
          | (with_reducible refine wpList_store_row rfl 23 (.tmp 4) (.tmp 20) rfl w1.heap.size Al.toArray #[.int .u8 0, .int .u8 0, .int .u8 0, .int .u8 0, .int .u8 0, .int .u8 0, .int .u8 0, .int .u8 0, .int .u8 0, .int .u8 0, .int .u8 0, .int .u8 0, .int .u8 0, .int .u8 0, .int .u8 0, .int .u8 0, .int .u8 0, .int .u8 0, .int .u8 0, .int .u8 0] 23 rfl rfl (heap_alloc_new w1 _) HI.out HL.out HO.out ?_; (have hg2 := setRow_heap (w1.alloc (.cells #[.int .u8 0, .int .u8 0, .int .u8 0, .int .u8 0, .int .u8 0, .int .u8 0, .int .u8 0, .int .u8 0, .int .u8 0, .int .u8 0, .int .u8 0, .int .u8 0, .int .u8 0, .int .u8 0, .int .u8 0, .int .u8 0, .int .u8 0, .int .u8 0, .int .u8 0, .int .u8 0] 23)) w1.heap.size #[.int .u8 0, .int .u8 0, .int .u8 0, .int .u8 0, .int .u8 0, .int .u8 0, .int .u8 0, .int .u8 0, .int .u8 0, .int .u8 0, .int .u8 0, .int .u8 0, .int .u8 0, .int .u8 0, .int .u8 0, .int .u8 0, .int .u8 0, .int .u8 0, .int .u8 0, .int .u8 0] Al.toArray 23 (0, 0) (heap_alloc_new w1 _)); (have hf2 := ((Fr.refl (fun _ => False) w1).alloc (.cells #[.int .u8 0, .int .u8 0, .int .u8 0, .int .u8 0, .int .u8 0, .int .u8 0, .int .u8 0, .int .u8 0, .int .u8 0, .int .u8 0, .int .u8 0, .int .u8 0, .int .u8 0, .int .u8 0, .int .u8 0, .int .u8 0, .int .u8 0, .int .u8 0, .int .u8 0, .int .u8 0] 23)).setRow (.inr (Nat.le_refl w1.heap.size)) Al.toArray); (have hr2 := Fr.heap hf2 hr1 (fun h => h)); (have HF2 := Lib.hid (HF.out.trans hf2 (fun _ h => h.elim))); clear hf2 HF hr hr1; generalize (w1.alloc (.cells #[.int .u8 0, .int .u8 0, .int .u8 0, .int .u8 0, .int .u8 0, .int .u8 0, .int .u8 0, .int .u8 0, .int .u8 0, .int .u8 0, .int .u8 0, .int .u8 0, .int .u8 0, .int .u8 0, .int .u8 0, .int .u8 0, .int .u8 0, .int .u8 0, .int .u8 0, .int .u8 0] 23)).setRow w1.heap.size Al.toArray = W2 at *)
          | (with_reducible refine wpList_store_row rfl 25 (.tmp 2) (.tmp 31) rfl w.heap.size #[.int .u8 0, .int .u8 0, .int .u8 0, .int .u8 0, .int .u8 0, .int .u8 0, .int .u8 0, .int .u8 0, .int .u8 0, .int .u8 0, .int .u8 0, .int .u8 0, .int .u8 0, .int .u8 0, .int .u8 0, .int .u8 0, .int .u8 0, .int .u8 0, .int .u8 0, .int .u8 0, .string ⟨#[]⟩] #[.int .u8 0, .int .u8 0, .int .u8 0, .int .u8 0, .int .u8 0, .int .u8 0, .int .u8 0, .int .u8 0, .int .u8 0, .int .u8 0, .int .u8 0, .int .u8 0, .int .u8 0, .int .u8 0, .int .u8 0, .int .u8 0, .int .u8 0, .int .u8 0, .int .u8 0, .int .u8 0, .string ⟨#[]⟩] 25 rfl rfl hr2 hi1 rfl ho1 ?_))
        refine bodyPost_ret (results_cell_row_tmp rfl _ _ w.heap.size 25 #[.int .u8 0, .int .u8 0, .int .u8 0, .int .u8 0, .int .u8 0, .int .u8 0, .int .u8 0, .int .u8 0, .int .u8 0, .int .u8 0, .int .u8 0, .int .u8 0, .int .u8 0, .int .u8 0, .int .u8 0, .int .u8 0, .int .u8 0, .int .u8 0, .int .u8 0, .int .u8 0, .string ⟨#[]⟩] (0, 0) _ rfl (setRow_heap _ _ _ _ _ _ hr2) Try.underlying25 rfl hi1) rfl ⟨?_, (HF2.out).setRow (.inr (Nat.le_refl _)) _⟩
        rw [HBAD.out]
        rfl
    · have hcd : ((c.toNat : Int) != 45) = true := by
        rw [bne_iff_ne]
        intro h
        exact h45 (UInt8.toNat_inj.1 (by have : (45 : UInt8).toNat = 45 := rfl; omega))
      have HBAD := Lib.hid (HB.out (parse_sign S (by rw [← HC.out]; exact h45)))
      clear h45
      go_enter Try.func13, Try.ntmps13
      go_wp2_with (with_reducible refine wpList_store_row rfl 25 (.tmp 2) (.tmp 15) rfl w.heap.size #[.int .u8 0, .int .u8 0, .int .u8 0, .int .u8 0, .int .u8 0, .int .u8 0, .int .u8 0, .int .u8 0, .int .u8 0, .int .u8 0, .int .u8 0, .int .u8 0, .int .u8 0, .int .u8 0, .int .u8 0, .int .u8 0, .int .u8 0, .int .u8 0, .int .u8 0, .int .u8 0, .string ⟨#[]⟩] #[.int .u8 0, .int .u8 0, .int .u8 0, .int .u8 0, .int .u8 0, .int .u8 0, .int .u8 0, .int .u8 0, .int .u8 0, .int .u8 0, .int .u8 0, .int .u8 0, .int .u8 0, .int .u8 0, .int .u8 0, .int .u8 0, .int .u8 0, .int .u8 0, .int .u8 0, .int .u8 0, .string ⟨#[]⟩] 25 rfl rfl hr hi1 rfl ho1 ?_)
      refine bodyPost_ret (results_cell_row_tmp rfl _ _ w.heap.size 25 #[.int .u8 0, .int .u8 0, .int .u8 0, .int .u8 0, .int .u8 0, .int .u8 0, .int .u8 0, .int .u8 0, .int .u8 0, .int .u8 0, .int .u8 0, .int .u8 0, .int .u8 0, .int .u8 0, .int .u8 0, .int .u8 0, .int .u8 0, .int .u8 0, .int .u8 0, .int .u8 0, .string ⟨#[]⟩] (0, 0) _ rfl (setRow_heap _ _ _ _ _ _ hr) Try.underlying25 rfl hi1) rfl ⟨?_, ((Fr.refl _ _).alloc _).setRow (.inr (Nat.le_refl _)) _⟩
      rw [HBAD.out]
      rfl
end Go.Proofs.Ytdmlalnekjihfaa
