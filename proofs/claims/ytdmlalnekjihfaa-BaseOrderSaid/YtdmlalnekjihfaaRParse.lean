/- Contract of the document's own: spenceref03.Parse. -/
import Derived.Test.YtdmlalnekjihfaaRHash
import Derived.Test.YtdmlalnekjihfaaRPath
namespace Go.Proofs.Ytdmlalnekjihfaa
open Go.RowKit Go.ChangeShapes
set_option linter.unusedVariables false

/-- Does Parse take it? -/
def parseOk (L : List UInt8) : Bool := decide (34 ≤ L.length) && (L.getD 32 0 == 45 && (nameB (L.drop 33) && hashOk (L.take 32)))
/-- What Parse tells. -/
def parseT (s : ByteArray) : Value := if parseOk s.data.toList = true then .tuple #[.agg (pathC (hashL (s.data.toList.take 32) 160) (s.extract 33 s.size)), .int .i64 0] else .tuple #[.agg (pathC (List.replicate 20 0) ⟨#[]⟩), .int .i64 4]
theorem cut_take (s : ByteArray) : (s.extract 0 32).data.toList = s.data.toList.take 32 := by simp [ByteArray.data_extract]
theorem cut_drop (s : ByteArray) : (s.extract 33 s.size).data.toList = s.data.toList.drop 33 := by
  rw [ByteArray.data_extract, Array.toList_extract, List.extract_eq_take_drop, List.take_of_length_le (by simp)]
theorem cut_size (s : ByteArray) (i j : Nat) : (s.extract i j).size ≤ s.size := by rw [ByteArray.size_extract]; omega

theorem wpStill_load_row {P : Program} {ops : Array Oper} {w : World} {Q : Act → Prop} {rest : List Oper} {op : Oper} {a : Act} (hgd : op.guard = none) (ty : TypeId) (x : Operand) (ho : op.op = .load ty x)
    (g : Nat) (hx : a.eval x = .pointer (some ⟨g, 0, none⟩)) (t : TypeId) (cs : Array Value) (fr : Nat × Nat) (d : TypeDesc) (hg : w.heap[g]? = some (.cells cs t fr))
    (hu : P.underlying ty = some d) (hd : (match d with | .struct _ | .array _ _ => true | _ => false) = true) (hi : (P.info? ty).map (·.size) = some cs.size)
    (h : wpStill P ops w Q rest (a.put op.dst (.agg cs))) : wpStill P ops w Q (op :: rest) a :=
  wpStill_step fun K hK => by
    rw [if_pos (by simp [Region.wanted, hgd])]
    unfold Oper.still execOp
    simp only [ho, hx, Instr.loadAt, Instr.sureAddr, Sem.run_bind, Sem.run_pure, Result.andThen_ok, run_loadVar_row w g t ty cs fr d hg hu hd hi]
    rw [Oper.stillUpon_value]
    exact hK _ h

theorem wpStill_build {P : Program} {ops : Array Oper} {w : World} {Q : Act → Prop} {rest : List Oper} {op : Oper} {a : Act} (hgd : op.guard = none) (t : TypeId) (parts : Array (Nat × Operand)) (ho : op.op = .build t parts)
    (vs : Array (Nat × Value)) (hx : (parts.map fun x => (x.1, a.eval x.2)) = vs) (cells : Array Value) (hc : P.built t vs.toList = some cells)
    (h : wpStill P ops w Q rest (a.put op.dst (.agg cells))) : wpStill P ops w Q (op :: rest) a :=
  wpStill_step fun K hK => by
    rw [if_pos (by simp [Region.wanted, hgd])]
    unfold Oper.still execOp
    subst hx
    simp only [ho, Sem.run_bind, run_build w t _ cells hc, Result.andThen_ok, Sem.run_pure]
    rw [Oper.stillUpon_value]
    exact hK _ h
theorem path_built20 (a0 a1 a2 a3 a4 a5 a6 a7 a8 a9 a10 a11 a12 a13 a14 a15 a16 a17 a18 a19 : Value) (N : ByteArray) : Try.prog.built 25 [(0, .agg #[a0, a1, a2, a3, a4, a5, a6, a7, a8, a9, a10, a11, a12, a13, a14, a15, a16, a17, a18, a19]), (1, .string N)] = some #[a0, a1, a2, a3, a4, a5, a6, a7, a8, a9, a10, a11, a12, a13, a14, a15, a16, a17, a18, a19, Value.string N] := by kernel_rfl
theorem path_built (A : List Value) (h : A.length = 20) (N : ByteArray) : Try.prog.built 25 [(0, .agg A.toArray), (1, .string N)] = some (A ++ [Value.string N]).toArray := by
  match A, h with
  | [a0, a1, a2, a3, a4, a5, a6, a7, a8, a9, a10, a11, a12, a13, a14, a15, a16, a17, a18, a19], _ => exact path_built20 a0 a1 a2 a3 a4 a5 a6 a7 a8 a9 a10 a11 a12 a13 a14 a15 a16 a17 a18 a19 N

set_option maxRecDepth 100000 in
set_option maxHeartbeats 4000000 in
theorem rParse_any (s : ByteArray) (hs : s.size ≤ 140737488351232) (w : World) :
    Calls Try.prog 14 #[.string s] w fun e w' => e = .returned (parseT s) ∧ Fr (fun _ => False) w w' := by
  have hsl : s.size = s.data.toList.length := by simp
  obtain ⟨S, hS⟩ : ∃ S, S = s.data.toList := ⟨_, rfl⟩
  have hgs : ∀ i (h : i < s.size), s[i] = S.getD i 0 := fun i h => by
    rw [hS, List.getD_eq_getElem?_getD, List.getElem?_eq_getElem (by rw [← hsl]; exact h)]
    rfl
  have HGS := Lib.hid hgs
  have HT := Lib.hid (show (s.extract 0 32).data.toList = S.take 32 by rw [hS]; exact cut_take s)
  have HD := Lib.hid (show (s.extract 33 s.size).data.toList = S.drop 33 by rw [hS]; exact cut_drop s)
  have hn0 := rName_any (s.extract 33 s.size) (Nat.le_trans (cut_size _ _ _) hs)
  have hh0 := rHash_any (s.extract 0 32) (Nat.le_trans (cut_size _ _ _) hs)
  rw [HT.out] at hh0
  rw [HD.out] at hn0
  have HN := Lib.hid hn0
  have HH := Lib.hid hh0
  obtain ⟨RS, hRS⟩ : ∃ RS, RS = parseT s := ⟨_, rfl⟩
  rw [← hRS]
  rw [parseT, ← hS] at hRS
  have HRS := Lib.hid hRS
  have HSL := Lib.hid (show s.size = S.length by rw [hS]; exact hsl)
  have hi1 : (Try.prog.info? 25).map (·.size) = some (#[.int .u8 0, .int .u8 0, .int .u8 0, .int .u8 0, .int .u8 0, .int .u8 0, .int .u8 0, .int .u8 0, .int .u8 0, .int .u8 0, .int .u8 0, .int .u8 0, .int .u8 0, .int .u8 0, .int .u8 0, .int .u8 0, .int .u8 0, .int .u8 0, .int .u8 0, .int .u8 0, .string ⟨#[]⟩] : Array Value).size := by kernel_rfl
  have ho1 : ((#[.int .u8 0, .int .u8 0, .int .u8 0, .int .u8 0, .int .u8 0, .int .u8 0, .int .u8 0, .int .u8 0, .int .u8 0, .int .u8 0, .int .u8 0, .int .u8 0, .int .u8 0, .int .u8 0, .int .u8 0, .int .u8 0, .int .u8 0, .int .u8 0, .int .u8 0, .int .u8 0, .string ⟨#[]⟩] : Array Value).all (·.oneCell')) = true := pathC_one (List.replicate 20 0) ⟨#[]⟩
  have hr : (w.alloc (.cells #[.int .u8 0, .int .u8 0, .int .u8 0, .int .u8 0, .int .u8 0, .int .u8 0, .int .u8 0, .int .u8 0, .int .u8 0, .int .u8 0, .int .u8 0, .int .u8 0, .int .u8 0, .int .u8 0, .int .u8 0, .int .u8 0, .int .u8 0, .int .u8 0, .int .u8 0, .int .u8 0, .string ⟨#[]⟩] 25)).heap[w.heap.size]? = some (.cells #[.int .u8 0, .int .u8 0, .int .u8 0, .int .u8 0, .int .u8 0, .int .u8 0, .int .u8 0, .int .u8 0, .int .u8 0, .int .u8 0, .int .u8 0, .int .u8 0, .int .u8 0, .int .u8 0, .int .u8 0, .int .u8 0, .int .u8 0, .int .u8 0, .int .u8 0, .int .u8 0, .string ⟨#[]⟩] 25 (0, 0)) := heap_alloc_new w _
  have HB := Lib.hid (fun (h : parseOk S = false) => show RS = .tuple #[.agg #[.int .u8 0, .int .u8 0, .int .u8 0, .int .u8 0, .int .u8 0, .int .u8 0, .int .u8 0, .int .u8 0, .int .u8 0, .int .u8 0, .int .u8 0, .int .u8 0, .int .u8 0, .int .u8 0, .int .u8 0, .int .u8 0, .int .u8 0, .int .u8 0, .int .u8 0, .int .u8 0, .string ⟨#[]⟩], .int .i64 4] by
    rw [HRS.out, if_neg (by rw [h]; decide)]
    rfl)
  clear hn0 hh0 hRS hgs hS hsl
  by_cases h34 : s.size < 34
  · have HBAD := Lib.hid (HB.out (by simp only [parseOk]; rw [decide_eq_false (by rw [← HSL.out]; omega)]; rfl))
    have hd : decide ((s.size : Int) < 34) = true := by rw [decide_eq_true_iff]; omega
    go_enter Try.func14, Try.ntmps14
    go_wp2_with (with_reducible refine wpList_store_row rfl 25 (.tmp 2) (.tmp 20) rfl w.heap.size #[.int .u8 0, .int .u8 0, .int .u8 0, .int .u8 0, .int .u8 0, .int .u8 0, .int .u8 0, .int .u8 0, .int .u8 0, .int .u8 0, .int .u8 0, .int .u8 0, .int .u8 0, .int .u8 0, .int .u8 0, .int .u8 0, .int .u8 0, .int .u8 0, .int .u8 0, .int .u8 0, .string ⟨#[]⟩] #[.int .u8 0, .int .u8 0, .int .u8 0, .int .u8 0, .int .u8 0, .int .u8 0, .int .u8 0, .int .u8 0, .int .u8 0, .int .u8 0, .int .u8 0, .int .u8 0, .int .u8 0, .int .u8 0, .int .u8 0, .int .u8 0, .int .u8 0, .int .u8 0, .int .u8 0, .int .u8 0, .string ⟨#[]⟩] 25 rfl rfl hr hi1 rfl ho1 ?_)
    refine bodyPost_ret (results_cell_row_tmp rfl _ _ w.heap.size 25 #[.int .u8 0, .int .u8 0, .int .u8 0, .int .u8 0, .int .u8 0, .int .u8 0, .int .u8 0, .int .u8 0, .int .u8 0, .int .u8 0, .int .u8 0, .int .u8 0, .int .u8 0, .int .u8 0, .int .u8 0, .int .u8 0, .int .u8 0, .int .u8 0, .int .u8 0, .int .u8 0, .string ⟨#[]⟩] (0, 0) _ rfl (setRow_heap _ _ _ _ _ _ hr) Try.underlying25 rfl hi1) rfl ⟨?_, ((Fr.refl _ _).alloc _).setRow (.inr (Nat.le_refl _)) _⟩
    rw [HBAD.out]
    rfl
  · have hd : decide ((s.size : Int) < 34) = false := by rw [decide_eq_false_iff_not]; omega
    obtain ⟨c, hc⟩ : ∃ c, c = S.getD 32 0 := ⟨_, rfl⟩
    have hg : ∀ h, s[32]'h = c := fun h => by rw [hc]; exact HGS.out 32 h
    have h32 : (32 : Int) < (s.size : Int) := by omega
    have h33 : (33 : Int) ≤ (s.size : Int) := by omega
    have HC := Lib.hid hc
    clear hc
    by_cases h45 : c = 45
    · have hcd : ((c.toNat : Int) != 45) = false := by rw [bne_eq_false_iff_eq, h45]; rfl
      have HC45 := Lib.hid h45
      clear h45
      by_cases hn : nameB (S.drop 33) = true
      · have HNV := Lib.hid hn
        clear hn
        by_cases hk : hashOk (S.take 32) = true
        · obtain ⟨Al, hA⟩ : ∃ A, A = (hashL (S.take 32) 160).map bv := ⟨_, rfl⟩
          have HA := Lib.hid hA
          have hAl : Al.length = 20 := by rw [hA, List.length_map, hashL_length]
          have HI := Lib.hid (show (Try.prog.info? 23).map (·.size) = some Al.toArray.size by rw [List.size_toArray, hAl]; kernel_rfl)
          have HL := Lib.hid (show (#[.int .u8 0, .int .u8 0, .int .u8 0, .int .u8 0, .int .u8 0, .int .u8 0, .int .u8 0, .int .u8 0, .int .u8 0, .int .u8 0, .int .u8 0, .int .u8 0, .int .u8 0, .int .u8 0, .int .u8 0, .int .u8 0, .int .u8 0, .int .u8 0, .int .u8 0, .int .u8 0] : Array Value).size = Al.toArray.size from Eq.trans (b := 20) rfl (by rw [List.size_toArray, hAl]))
          have HO := Lib.hid (show Al.toArray.all (·.oneCell') = true by rw [hA]; exact row_one _)
          have HHV := Lib.hid (show hashT (S.take 32) = .tuple #[.agg Al.toArray, .int .i64 0] by rw [hashT, if_pos hk, hA])
          have HOK := Lib.hid (show RS = .tuple #[.agg (pathC (hashL (S.take 32) 160) (s.extract 33 s.size)), .int .i64 0] by
            rw [HRS.out, if_pos (by
              simp only [parseOk]
              rw [decide_eq_true (show 34 ≤ S.length by rw [← HSL.out]; omega), ← HC.out, HC45.out, HNV.out, hk]
              rfl)])
          have HAL := Lib.hid hAl
          have HP := Lib.hid (show (Try.prog.info? 25).map (·.size) = some (Al ++ [Value.string (s.extract 33 s.size)]).toArray.size by rw [List.size_toArray, List.length_append, hAl]; kernel_rfl)
          have HPL := Lib.hid (show (#[.int .u8 0, .int .u8 0, .int .u8 0, .int .u8 0, .int .u8 0, .int .u8 0, .int .u8 0, .int .u8 0, .int .u8 0, .int .u8 0, .int .u8 0, .int .u8 0, .int .u8 0, .int .u8 0, .int .u8 0, .int .u8 0, .int .u8 0, .int .u8 0, .int .u8 0, .int .u8 0, .string ⟨#[]⟩] : Array Value).size = (Al ++ [Value.string (s.extract 33 s.size)]).toArray.size from Eq.trans (b := 21) rfl (by rw [List.size_toArray, List.length_append, hAl]; rfl))
          have HPO := Lib.hid (show (Al ++ [Value.string (s.extract 33 s.size)]).toArray.all (·.oneCell') = true by rw [hA]; exact pathC_one _ _)
          have hui : (Try.prog.info? 23).map (·.size) = some Al.length := by rw [hAl]; kernel_rfl
          have huu := Try.underlying23
          clear hA hk
          go_enter Try.func14, Try.ntmps14
          go_wp2_with (first
            | (go_at_call 18; refine (HN.out _).mono ?_; rintro e w' ⟨rfl, rfl⟩; rw [HNV.out])
            | (go_at_call 10; refine (HH.out _).mono ?_; rintro e w1 ⟨rfl, hf1⟩; rw [HHV.out]; have hr1 := Fr.heap hf1 hr (fun h => h); have HF := Lib.hid (((Fr.refl (fun _ => False) w).alloc (.cells #[.int .u8 0, .int .u8 0, .int .u8 0, .int .u8 0, .int .u8 0, .int .u8 0, .int .u8 0, .int .u8 0, .int .u8 0, .int .u8 0, .int .u8 0, .int .u8 0, .int .u8 0, .int .u8 0, .int .u8 0, .int .u8 0, .int .u8 0, .int .u8 0, .int .u8 0, .int .u8 0, .string ⟨#[]⟩] 25)).trans hf1 (fun _ h => h.elim)); clear hf1)
            | (with_reducible refine wpList_store_row rfl 23 (.tmp 4) (.tmp 25) rfl w1.heap.size Al.toArray #[.int .u8 0, .int .u8 0, .int .u8 0, .int .u8 0, .int .u8 0, .int .u8 0, .int .u8 0, .int .u8 0, .int .u8 0, .int .u8 0, .int .u8 0, .int .u8 0, .int .u8 0, .int .u8 0, .int .u8 0, .int .u8 0, .int .u8 0, .int .u8 0, .int .u8 0, .int .u8 0] 23 rfl rfl (heap_alloc_new w1 _) HI.out HL.out HO.out ?_))
          have hg2 := setRow_heap (w1.alloc (.cells #[.int .u8 0, .int .u8 0, .int .u8 0, .int .u8 0, .int .u8 0, .int .u8 0, .int .u8 0, .int .u8 0, .int .u8 0, .int .u8 0, .int .u8 0, .int .u8 0, .int .u8 0, .int .u8 0, .int .u8 0, .int .u8 0, .int .u8 0, .int .u8 0, .int .u8 0, .int .u8 0] 23)) w1.heap.size #[.int .u8 0, .int .u8 0, .int .u8 0, .int .u8 0, .int .u8 0, .int .u8 0, .int .u8 0, .int .u8 0, .int .u8 0, .int .u8 0, .int .u8 0, .int .u8 0, .int .u8 0, .int .u8 0, .int .u8 0, .int .u8 0, .int .u8 0, .int .u8 0, .int .u8 0, .int .u8 0] Al.toArray 23 (0, 0) (heap_alloc_new w1 _)
          have hf2 := ((Fr.refl (fun _ => False) w1).alloc (.cells #[.int .u8 0, .int .u8 0, .int .u8 0, .int .u8 0, .int .u8 0, .int .u8 0, .int .u8 0, .int .u8 0, .int .u8 0, .int .u8 0, .int .u8 0, .int .u8 0, .int .u8 0, .int .u8 0, .int .u8 0, .int .u8 0, .int .u8 0, .int .u8 0, .int .u8 0, .int .u8 0] 23)).setRow (.inr (Nat.le_refl w1.heap.size)) Al.toArray
          have hr2 := Fr.heap hf2 hr1 (fun h => h)
          have HF2 := Lib.hid (HF.out.trans hf2 (fun _ h => h.elim))
          clear hf2 HF hr hr1
          generalize (w1.alloc (.cells #[.int .u8 0, .int .u8 0, .int .u8 0, .int .u8 0, .int .u8 0, .int .u8 0, .int .u8 0, .int .u8 0, .int .u8 0, .int .u8 0, .int .u8 0, .int .u8 0, .int .u8 0, .int .u8 0, .int .u8 0, .int .u8 0, .int .u8 0, .int .u8 0, .int .u8 0, .int .u8 0] 23)).setRow w1.heap.size Al.toArray = W2 at *
          have hra : W2.rangeAt w1.heap.size 0 Al := fun j v hv => by
            rw [Nat.zero_add, cell_of_row _ _ _ _ _ _ hg2]
            simpa using hv
          go_wp2
          go_still_tail 4, (by kernel_rfl)
          refine wpStill_load_row rfl 23 (.tmp 4) rfl w1.heap.size rfl 23 Al.toArray (0, 0) _ hg2 huu rfl HI.out ?_
          repeat still_step
          refine wpStill_build rfl 25 _ rfl #[(0, .agg Al.toArray), (1, .string (s.extract 33 s.size))] (by simp only [List.map_toArray, List.map_cons, List.map_nil]; rfl) (Al ++ [Value.string (s.extract 33 s.size)]).toArray (path_built Al HAL.out _) ?_
          refine wpStill_nil ?_
          go_wp2_with (with_reducible refine wpList_store_row rfl 25 (.tmp 2) (.tmp 34) rfl w.heap.size (Al ++ [Value.string (s.extract 33 s.size)]).toArray #[.int .u8 0, .int .u8 0, .int .u8 0, .int .u8 0, .int .u8 0, .int .u8 0, .int .u8 0, .int .u8 0, .int .u8 0, .int .u8 0, .int .u8 0, .int .u8 0, .int .u8 0, .int .u8 0, .int .u8 0, .int .u8 0, .int .u8 0, .int .u8 0, .int .u8 0, .int .u8 0, .string ⟨#[]⟩] 25 rfl rfl hr2 HP.out HPL.out HPO.out ?_)
          refine bodyPost_ret (results_cell_row_tmp rfl _ _ w.heap.size 25 (Al ++ [Value.string (s.extract 33 s.size)]).toArray (0, 0) _ rfl (setRow_heap _ _ _ _ _ _ hr2) Try.underlying25 rfl HP.out) rfl ⟨?_, HF2.out.drew.setRow (.inr (Nat.le_refl _)) _⟩
          rw [HOK.out, pathC, ← HA.out]
          rfl
        · obtain ⟨Al, hA⟩ : ∃ A, A = (List.replicate 20 (0 : UInt8)).map bv := ⟨_, rfl⟩
          have hAl : Al.length = 20 := by rw [hA]; rfl
          have HI := Lib.hid (show (Try.prog.info? 23).map (·.size) = some Al.toArray.size by rw [List.size_toArray, hAl]; kernel_rfl)
          have HL := Lib.hid (show (#[.int .u8 0, .int .u8 0, .int .u8 0, .int .u8 0, .int .u8 0, .int .u8 0, .int .u8 0, .int .u8 0, .int .u8 0, .int .u8 0, .int .u8 0, .int .u8 0, .int .u8 0, .int .u8 0, .int .u8 0, .int .u8 0, .int .u8 0, .int .u8 0, .int .u8 0, .int .u8 0] : Array Value).size = Al.toArray.size from Eq.trans (b := 20) rfl (by rw [List.size_toArray, hAl]))
          have HO := Lib.hid (show Al.toArray.all (·.oneCell') = true by rw [hA]; exact row_one _)
          have HHV := Lib.hid (show hashT (S.take 32) = .tuple #[.agg Al.toArray, .int .i64 4] by rw [hashT, if_neg hk, hA])
          have HBAD := Lib.hid (HB.out (by simp only [parseOk]; rw [show hashOk (S.take 32) = false by simpa using hk]; simp))
          clear hA hk
          go_enter Try.func14, Try.ntmps14
          go_wp2_with (first
            | (go_at_call 18; refine (HN.out _).mono ?_; rintro e w' ⟨rfl, rfl⟩; rw [HNV.out])
            | (go_at_call 10; refine (HH.out _).mono ?_; rintro e w1 ⟨rfl, hf1⟩; rw [HHV.out]; have hr1 := Fr.heap hf1 hr (fun h => h); have HF := Lib.hid (((Fr.refl (fun _ => False) w).alloc (.cells #[.int .u8 0, .int .u8 0, .int .u8 0, .int .u8 0, .int .u8 0, .int .u8 0, .int .u8 0, .int .u8 0, .int .u8 0, .int .u8 0, .int .u8 0, .int .u8 0, .int .u8 0, .int .u8 0, .int .u8 0, .int .u8 0, .int .u8 0, .int .u8 0, .int .u8 0, .int .u8 0, .string ⟨#[]⟩] 25)).trans hf1 (fun _ h => h.elim)); clear hf1)
            | (with_reducible refine wpList_store_row rfl 23 (.tmp 4) (.tmp 25) rfl w1.heap.size Al.toArray #[.int .u8 0, .int .u8 0, .int .u8 0, .int .u8 0, .int .u8 0, .int .u8 0, .int .u8 0, .int .u8 0, .int .u8 0, .int .u8 0, .int .u8 0, .int .u8 0, .int .u8 0, .int .u8 0, .int .u8 0, .int .u8 0, .int .u8 0, .int .u8 0, .int .u8 0, .int .u8 0] 23 rfl rfl (heap_alloc_new w1 _) HI.out HL.out HO.out ?_)
            | (have hr3 := Fr.heap (((Fr.refl (fun _ => False) w1).alloc (.cells #[.int .u8 0, .int .u8 0, .int .u8 0, .int .u8 0, .int .u8 0, .int .u8 0, .int .u8 0, .int .u8 0, .int .u8 0, .int .u8 0, .int .u8 0, .int .u8 0, .int .u8 0, .int .u8 0, .int .u8 0, .int .u8 0, .int .u8 0, .int .u8 0, .int .u8 0, .int .u8 0] 23)).setRow (.inr (Nat.le_refl w1.heap.size)) Al.toArray) hr1 (fun h => h); with_reducible refine wpList_store_row rfl 25 (.tmp 2) (.tmp 29) rfl w.heap.size #[.int .u8 0, .int .u8 0, .int .u8 0, .int .u8 0, .int .u8 0, .int .u8 0, .int .u8 0, .int .u8 0, .int .u8 0, .int .u8 0, .int .u8 0, .int .u8 0, .int .u8 0, .int .u8 0, .int .u8 0, .int .u8 0, .int .u8 0, .int .u8 0, .int .u8 0, .int .u8 0, .string ⟨#[]⟩] #[.int .u8 0, .int .u8 0, .int .u8 0, .int .u8 0, .int .u8 0, .int .u8 0, .int .u8 0, .int .u8 0, .int .u8 0, .int .u8 0, .int .u8 0, .int .u8 0, .int .u8 0, .int .u8 0, .int .u8 0, .int .u8 0, .int .u8 0, .int .u8 0, .int .u8 0, .int .u8 0, .string ⟨#[]⟩] 25 rfl rfl hr3 hi1 rfl ho1 ?_))
          refine bodyPost_ret (results_cell_row_tmp rfl _ _ w.heap.size 25 #[.int .u8 0, .int .u8 0, .int .u8 0, .int .u8 0, .int .u8 0, .int .u8 0, .int .u8 0, .int .u8 0, .int .u8 0, .int .u8 0, .int .u8 0, .int .u8 0, .int .u8 0, .int .u8 0, .int .u8 0, .int .u8 0, .int .u8 0, .int .u8 0, .int .u8 0, .int .u8 0, .string ⟨#[]⟩] (0, 0) _ rfl (setRow_heap _ _ _ _ _ _ hr3) Try.underlying25 rfl hi1) rfl ⟨?_, (HF.out.trans (((Fr.refl (fun _ => False) w1).alloc (.cells #[.int .u8 0, .int .u8 0, .int .u8 0, .int .u8 0, .int .u8 0, .int .u8 0, .int .u8 0, .int .u8 0, .int .u8 0, .int .u8 0, .int .u8 0, .int .u8 0, .int .u8 0, .int .u8 0, .int .u8 0, .int .u8 0, .int .u8 0, .int .u8 0, .int .u8 0, .int .u8 0] 23)).setRow (.inr (Nat.le_refl w1.heap.size)) Al.toArray) (fun _ h => h.elim)).setRow (.inr (Nat.le_refl _)) _⟩
          rw [HBAD.out]
          rfl
      · have HNV := Lib.hid (show nameB (S.drop 33) = false by simpa using hn)
        have HBAD := Lib.hid (HB.out (by simp only [parseOk]; rw [HNV.out]; simp))
        clear hn
        go_enter Try.func14, Try.ntmps14
        go_wp2_with (first
          | (go_at_call 18; refine (HN.out _).mono ?_; rintro e w' ⟨rfl, rfl⟩; rw [HNV.out])
          | (with_reducible refine wpList_store_row rfl 25 (.tmp 2) (.tmp 20) rfl w.heap.size #[.int .u8 0, .int .u8 0, .int .u8 0, .int .u8 0, .int .u8 0, .int .u8 0, .int .u8 0, .int .u8 0, .int .u8 0, .int .u8 0, .int .u8 0, .int .u8 0, .int .u8 0, .int .u8 0, .int .u8 0, .int .u8 0, .int .u8 0, .int .u8 0, .int .u8 0, .int .u8 0, .string ⟨#[]⟩] #[.int .u8 0, .int .u8 0, .int .u8 0, .int .u8 0, .int .u8 0, .int .u8 0, .int .u8 0, .int .u8 0, .int .u8 0, .int .u8 0, .int .u8 0, .int .u8 0, .int .u8 0, .int .u8 0, .int .u8 0, .int .u8 0, .int .u8 0, .int .u8 0, .int .u8 0, .int .u8 0, .string ⟨#[]⟩] 25 rfl rfl hr hi1 rfl ho1 ?_))
        refine bodyPost_ret (results_cell_row_tmp rfl _ _ w.heap.size 25 #[.int .u8 0, .int .u8 0, .int .u8 0, .int .u8 0, .int .u8 0, .int .u8 0, .int .u8 0, .int .u8 0, .int .u8 0, .int .u8 0, .int .u8 0, .int .u8 0, .int .u8 0, .int .u8 0, .int .u8 0, .int .u8 0, .int .u8 0, .int .u8 0, .int .u8 0, .int .u8 0, .string ⟨#[]⟩] (0, 0) _ rfl (setRow_heap _ _ _ _ _ _ hr) Try.underlying25 rfl hi1) rfl ⟨?_, ((Fr.refl _ _).alloc _).setRow (.inr (Nat.le_refl _)) _⟩
        rw [HBAD.out]
        rfl
    · have hcd : ((c.toNat : Int) != 45) = true := by
        rw [bne_iff_ne]
        intro h
        exact h45 (UInt8.toNat_inj.1 (by have : (45 : UInt8).toNat = 45 := rfl; omega))
      have HBAD := Lib.hid (HB.out (by simp only [parseOk]; rw [← HC.out, show (c == 45) = false by simpa using h45]; simp))
      clear h45
      go_enter Try.func14, Try.ntmps14
      go_wp2_with (with_reducible refine wpList_store_row rfl 25 (.tmp 2) (.tmp 20) rfl w.heap.size #[.int .u8 0, .int .u8 0, .int .u8 0, .int .u8 0, .int .u8 0, .int .u8 0, .int .u8 0, .int .u8 0, .int .u8 0, .int .u8 0, .int .u8 0, .int .u8 0, .int .u8 0, .int .u8 0, .int .u8 0, .int .u8 0, .int .u8 0, .int .u8 0, .int .u8 0, .int .u8 0, .string ⟨#[]⟩] #[.int .u8 0, .int .u8 0, .int .u8 0, .int .u8 0, .int .u8 0, .int .u8 0, .int .u8 0, .int .u8 0, .int .u8 0, .int .u8 0, .int .u8 0, .int .u8 0, .int .u8 0, .int .u8 0, .int .u8 0, .int .u8 0, .int .u8 0, .int .u8 0, .int .u8 0, .int .u8 0, .string ⟨#[]⟩] 25 rfl rfl hr hi1 rfl ho1 ?_)
      refine bodyPost_ret (results_cell_row_tmp rfl _ _ w.heap.size 25 #[.int .u8 0, .int .u8 0, .int .u8 0, .int .u8 0, .int .u8 0, .int .u8 0, .int .u8 0, .int .u8 0, .int .u8 0, .int .u8 0, .int .u8 0, .int .u8 0, .int .u8 0, .int .u8 0, .int .u8 0, .int .u8 0, .int .u8 0, .int .u8 0, .int .u8 0, .int .u8 0, .string ⟨#[]⟩] (0, 0) _ rfl (setRow_heap _ _ _ _ _ _ hr) Try.underlying25 rfl hi1) rfl ⟨?_, ((Fr.refl _ _).alloc _).setRow (.inr (Nat.le_refl _)) _⟩
      rw [HBAD.out]
      rfl
end Go.Proofs.Ytdmlalnekjihfaa
