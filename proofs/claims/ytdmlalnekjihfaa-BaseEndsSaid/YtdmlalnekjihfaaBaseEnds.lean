/- Contract of spencelaw03.BaseEnds. Printed by gen_ends3.py (wip/gen). -/
import Derived.Test.YtdmlalnekjihfaaTells
import Derived.Test.YtdmlalnekjihfaaRunS
namespace Go.Proofs.Ytdmlalnekjihfaa
open Go.RowKit Go.ChangeShapes
set_option linter.unusedVariables false

theorem sz_cat {a b : ByteArray} {m n : Nat} (h1 : a.size ≤ m) (h2 : b.size ≤ n) : (a ++ b).size ≤ m + n := by rw [ByteArray.size_append]; omega
theorem sz_cut {s : ByteArray} {m : Nat} (i j : Nat) (h : s.size ≤ m) : (s.extract i j).size ≤ m := Nat.le_trans (cut_size s i j) h
theorem sz_add {a b : ByteArray} {m n k : Nat} (h1 : a.size ≤ m) (h2 : b.size ≤ n) (h : m + n ≤ k) : a.size + b.size ≤ k := by omega

def E7R (g : Nat) (Hn : List UInt8) (LS : ByteArray) (i : Nat) (v : Value) (W : World) : Prop :=
  match i with
  | 0 => v = .agg (Hn.map bv).toArray
  | 1 => v = .agg (pathC Hn ⟨#[110]⟩)
  | 2 => v = .string LS
  | 3 => v = .bool true
  | 4 => v = .bool false
  | 5 => v = .bool false
  | 6 => v = .agg (Hn.map bv).toArray
  | 7 => v = .agg (pathC Hn ⟨#[]⟩)
  | 8 => v = .string LS
  | 9 => v = .string (LS ++ (⟨#[45, 120]⟩ : ByteArray))
  | 10 => v = .bool true
  | 11 => v = .bool false
  | 12 => v = .bool false
  | 13 => v = .bool false
  | 14 => v = .agg (Hn.map bv).toArray
  | 15 => v = .agg (pathC Hn ⟨#[45]⟩)
  | 16 => v = .string LS
  | 17 => v = .string (LS.extract 1 LS.size)
  | 18 => v = .string ((LS.extract 1 LS.size) ++ (⟨#[45, 120]⟩ : ByteArray))
  | 19 => v = .bool true
  | 20 => v = .bool false
  | 21 => v = .bool false
  | _ => True
theorem E7R.ext (g : Nat) (Hn : List UInt8) (LS : ByteArray) : ∀ (j : Nat) (u : Value) (W W' : World), Fr (fun _ => False) W W' → E7R g Hn LS j u W → E7R g Hn LS j u W'
  | 0, u, W, W', hf, h => h
  | 1, u, W, W', hf, h => h
  | 2, u, W, W', hf, h => h
  | 3, u, W, W', hf, h => h
  | 4, u, W, W', hf, h => h
  | 5, u, W, W', hf, h => h
  | 6, u, W, W', hf, h => h
  | 7, u, W, W', hf, h => h
  | 8, u, W, W', hf, h => h
  | 9, u, W, W', hf, h => h
  | 10, u, W, W', hf, h => h
  | 11, u, W, W', hf, h => h
  | 12, u, W, W', hf, h => h
  | 13, u, W, W', hf, h => h
  | 14, u, W, W', hf, h => h
  | 15, u, W, W', hf, h => h
  | 16, u, W, W', hf, h => h
  | 17, u, W, W', hf, h => h
  | 18, u, W, W', hf, h => h
  | 19, u, W, W', hf, h => h
  | 20, u, W, W', hf, h => h
  | 21, u, W, W', hf, h => h
  | _ + 22, u, W, W', hf, h => trivial

def E20R (LZ : ByteArray) (n : Nat) (i : Nat) (v : Value) (W : World) : Prop :=
  match i with
  | 0 => v = .string ⟨#[97, 98, 99, 100, 101, 102, 103, 104, 105, 106, 107, 108, 109, 110, 111, 112, 113, 114, 115, 116, 117, 118, 119, 120, 121]⟩
  | 1 => v = .int .i64 n
  | 2 => v = .string ((⟨#[97, 98, 99, 100, 101, 102, 103, 104, 105, 106, 107, 108, 109, 110, 111, 112, 113, 114, 115, 116, 117, 118, 119, 120, 121]⟩ : ByteArray).extract 0 n)
  | 3 => v = .agg (pathC (List.replicate 20 0) ((⟨#[97, 98, 99, 100, 101, 102, 103, 104, 105, 106, 107, 108, 109, 110, 111, 112, 113, 114, 115, 116, 117, 118, 119, 120, 121]⟩ : ByteArray).extract 0 n))
  | 4 => v = .string LZ
  | 5 => v = .string (LZ ++ (⟨#[45]⟩ : ByteArray))
  | 6 => v = .string ⟨#[97, 98, 99, 100, 101, 102, 103, 104, 105, 106, 107, 108, 109, 110, 111, 112, 113, 114, 115, 116, 117, 118, 119, 120, 121]⟩
  | 7 => v = .int .i64 n
  | 8 => v = .string ((⟨#[97, 98, 99, 100, 101, 102, 103, 104, 105, 106, 107, 108, 109, 110, 111, 112, 113, 114, 115, 116, 117, 118, 119, 120, 121]⟩ : ByteArray).extract 0 n)
  | 9 => v = .string ((LZ ++ (⟨#[45]⟩ : ByteArray)) ++ ((⟨#[97, 98, 99, 100, 101, 102, 103, 104, 105, 106, 107, 108, 109, 110, 111, 112, 113, 114, 115, 116, 117, 118, 119, 120, 121]⟩ : ByteArray).extract 0 n))
  | 10 => v = .bool true
  | 11 => v = .bool false
  | 12 => v = .bool false
  | 13 => v = .agg (pathC (List.replicate 20 0) ⟨#[]⟩)
  | 14 => v = .string LZ
  | 15 => v = .int .i64 n
  | 16 => v = .string (LZ.extract 0 n)
  | 17 => v = .bool true
  | 18 => v = .bool false
  | 19 => v = .bool false
  | 20 => v = .bool false
  | 21 => v = .agg (pathC (List.replicate 20 0) ⟨#[]⟩)
  | 22 => v = .string LZ
  | 23 => v = .string LZ
  | 24 => v = .int .i64 n
  | 25 => v = .string (LZ.extract 0 n)
  | 26 => v = .string (LZ ++ (LZ.extract 0 n))
  | 27 => v = .bool true
  | 28 => v = .bool false
  | 29 => v = .bool false
  | _ => True
theorem E20R.ext (LZ : ByteArray) (n : Nat) : ∀ (j : Nat) (u : Value) (W W' : World), Fr (fun _ => False) W W' → E20R LZ n j u W → E20R LZ n j u W'
  | 0, u, W, W', hf, h => h
  | 1, u, W, W', hf, h => h
  | 2, u, W, W', hf, h => h
  | 3, u, W, W', hf, h => h
  | 4, u, W, W', hf, h => h
  | 5, u, W, W', hf, h => h
  | 6, u, W, W', hf, h => h
  | 7, u, W, W', hf, h => h
  | 8, u, W, W', hf, h => h
  | 9, u, W, W', hf, h => h
  | 10, u, W, W', hf, h => h
  | 11, u, W, W', hf, h => h
  | 12, u, W, W', hf, h => h
  | 13, u, W, W', hf, h => h
  | 14, u, W, W', hf, h => h
  | 15, u, W, W', hf, h => h
  | 16, u, W, W', hf, h => h
  | 17, u, W, W', hf, h => h
  | 18, u, W, W', hf, h => h
  | 19, u, W, W', hf, h => h
  | 20, u, W, W', hf, h => h
  | 21, u, W, W', hf, h => h
  | 22, u, W, W', hf, h => h
  | 23, u, W, W', hf, h => h
  | 24, u, W, W', hf, h => h
  | 25, u, W, W', hf, h => h
  | 26, u, W, W', hf, h => h
  | 27, u, W, W', hf, h => h
  | 28, u, W, W', hf, h => h
  | 29, u, W, W', hf, h => h
  | _ + 30, u, W, W', hf, h => trivial

/-- A hash of one bit. -/
def oneBit (n : Nat) : List UInt8 := (List.replicate 20 0).set (n / 8) (UInt8.ofNat (2 ^ (n % 8)))
theorem oneBit_length (n : Nat) : (oneBit n).length = 20 := by simp [oneBit]
theorem zero_letters : letL (List.replicate 20 0) = List.replicate 32 48 := by decide +kernel

set_option maxRecDepth 100000 in
set_option maxHeartbeats 8000000 in
theorem baseEnds_any (w : World) : Calls Try.prog 5 #[] w fun e w' => e = .returned (.bool true) ∧ Fr (fun _ => False) w w' := by
  have HRL := Lib.hid (fun H (hH : H.length = 20) W => rLetters_any H hH W)
  have HAW := Lib.hid (fun W => awake_any W)
  go_enter Try.func5, Try.ntmps5
  go_wp2_with fail
  go_loopw [1] (fun nv wr => ∃ n : Nat, n ≤ 160 ∧ nv = .int .i64 n ∧ Hid (Fr (fun _ => False) w wr)) (fun nv _ => 160 - (intOf nv).toNat)
  case atStart => exact ⟨0, by omega, rfl, Lib.hid (Fr.refl _ _)⟩
  case round =>
    obtain ⟨n, hn, rfl, hF⟩ := hrel
    by_cases hlt : n < 160
    · obtain ⟨q, hq⟩ : ∃ q, q = n / 8 := ⟨_, rfl⟩
      obtain ⟨r, hr⟩ : ∃ r, r = n % 8 := ⟨_, rfl⟩
      have hq20 : q < 20 := by omega
      have hr8 : r < 8 := by omega
      have eq1 : (n : Int) / 8 = (q : Int) := by omega
      have eq2 : (n : Int).tdiv 8 = (q : Int) := by rw [Int.tdiv_eq_ediv_of_nonneg (by omega)]; exact eq1
      have er1 : (n : Int) % 8 = (r : Int) := by omega
      have er2 : (n : Int).tmod 8 = (r : Int) := by rw [Int.tmod_eq_emod_of_nonneg (by omega)]; exact er1
      obtain ⟨p, hp⟩ : ∃ p : Nat, p = 2 ^ r := ⟨_, rfl⟩
      have hp128 : p ≤ 128 := by rw [hp]; exact Nat.pow_le_pow_right (show 0 < 2 by decide) (show r ≤ 7 by omega)
      have hpi : (2 : Int) ^ r = (p : Int) := by rw [hp]; push_cast; rfl
      have wp8 : IntKind.u8.wrap (p : Int) = (p : Int) := by rw [IntKind.wrap_u8]; omega
      have bq : (q : Int) < 20 := by omega
      have bq0 : (0 : Int) ≤ (q : Int) := by omega
      have sr8 : (r : Int) < 8 := by omega
      have sr0 : (0 : Int) ≤ (r : Int) := by omega
      obtain ⟨Hn, hHn⟩ : ∃ H, H = oneBit n := ⟨_, rfl⟩
      have HLN2 := Lib.hid (show Hn.length = 20 by rw [hHn]; exact oneBit_length n)
      have HLN := Lib.hid (show (Hn.map bv).length = 20 by rw [List.length_map, HLN2.out])
      have HE := Lib.hid (show (([.int .u8 0, .int .u8 0, .int .u8 0, .int .u8 0, .int .u8 0, .int .u8 0, .int .u8 0, .int .u8 0, .int .u8 0, .int .u8 0, .int .u8 0, .int .u8 0, .int .u8 0, .int .u8 0, .int .u8 0, .int .u8 0, .int .u8 0, .int .u8 0, .int .u8 0, .int .u8 0] : List Value).set q (.int .u8 (p : Int))) = Hn.map bv by
        rw [hHn, oneBit, ← hq, ← hr, ← hp, List.map_set]
        have e : bv (UInt8.ofNat p) = .int .u8 (p : Int) := by
          have e : (UInt8.ofNat p).toNat = p := by rw [UInt8.toNat_ofNat']; omega
          rw [bv, e]
        rw [e]
        rfl)
      obtain ⟨LS, hLS⟩ : ∃ C : ByteArray, C = ⟨(letL Hn).toArray⟩ := ⟨_, rfl⟩
      have hsl : LS.size = 32 := by rw [hLS]; show (letL Hn).toArray.size = 32; simp [letL_length]
      have HLS := Lib.hid (Nat.le_of_eq hsl)
      have HL1 := Lib.hid (show 1 ≤ LS.size by omega)
      have hlt1 := fun W => HRL.out Hn HLN2.out W
      rw [← hLS] at hlt1
      obtain ⟨C, hC⟩ : ∃ C, C = (Hn.map bv).toArray := ⟨_, rfl⟩
      rw [← hC] at hlt1
      have HLT := Lib.hid hlt1
      have hcs : C.size = 20 := by rw [hC]; simp [HLN2.out]
      have hiC : (Try.prog.info? 23).map (·.size) = some C.size := by rw [hcs]; kernel_rfl
      have HC := Lib.hid hC
      have hd : decide ((n : Int) < 160) = true := by rw [decide_eq_true_iff]; omega
      clear hp hq hr hHn hLS hsl hlt1 hC hcs
      go_upto_region 6 with (fail)
      rw [HE.out]
      have HF1 := Lib.hid (hF.out.trans ((Fr.refl (fun _ => False) wr).alloc (.cells (Hn.map bv).toArray 23)) (fun _ h => h.elim))
      have hrow : (wr.alloc (.cells (Hn.map bv).toArray 23)).heap[wr.heap.size]? = some (.cells (Hn.map bv).toArray 23 (0, 0)) := heap_alloc_new wr _
      rw [← HC.out] at HF1 hrow
      rw [← HC.out]
      generalize wr.alloc (.cells C 23) = W1 at *
      generalize wr.heap.size = g at *
      go_wp2_with (first
        | (with_reducible refine wpList_load_row rfl 23 (.tmp 2) rfl g rfl 23 C (0, 0) _ hrow Try.underlying23 rfl hiC ?_)
        | (go_at_call 16; refine (HLT.out _).mono ?_; rintro e w2 ⟨rfl, hf2⟩; have hrow2 := Fr.heap hf2 hrow (fun h => h); have HF2 := Lib.hid (HF1.out.trans hf2 (fun _ h => h.elim)); clear hf2))
      have LD2 := Lib.hid (fun (W : World) (hB : Fr (fun _ => False) w2 W) => show (Instr.loadAt 23 (.pointer (some ⟨g, 0, none⟩))).run Try.prog W = .ok (.agg (Hn.map bv).toArray) W by
        have h := Fr.heap hB hrow2 (fun h => h)
        rw [HC.out] at h
        exact load_hash W g Hn h HLN2.out)
      refine wp_region_inv 22 (by kernel_rfl) (by kernel_rfl) (fun W => Fr (fun _ => False) w2 W) (E7R g Hn LS) (fun _ _ _ _ => True) (Fr (fun _ => False)) (E7R.ext g Hn LS) (Fr.refl _ _).drew ?_ ?_
      · intro i hi o ho
        replace hi : i < 22 := hi
        obtain rfl | rfl | rfl | rfl | rfl | rfl | rfl | rfl | rfl | rfl | rfl | rfl | rfl | rfl | rfl | rfl | rfl | rfl | rfl | rfl | rfl | rfl : i = 0 ∨ i = 1 ∨ i = 2 ∨ i = 3 ∨ i = 4 ∨ i = 5 ∨ i = 6 ∨ i = 7 ∨ i = 8 ∨ i = 9 ∨ i = 10 ∨ i = 11 ∨ i = 12 ∨ i = 13 ∨ i = 14 ∨ i = 15 ∨ i = 16 ∨ i = 17 ∨ i = 18 ∨ i = 19 ∨ i = 20 ∨ i = 21 := by omega
        · simp only [List.getElem?_cons_zero, Option.some.injEq] at ho
          subst ho
          intro a W vs hB hS hE hU
          refine wpG_plain rfl ?_
          have v2 : a.eval (.tmp 2) = .pointer (some ⟨g, 0, none⟩) := (hU 2 (by kernel_rfl)).trans rfl
          clear hE hU
          exact wp_value_inv (w' := W) (.agg (Hn.map bv).toArray) (op_loadAt rfl v2 (LD2.out W hB)) ⟨_, rfl, hB, Fr.refl _ _, rfl, fun _ _ _ _ _ => trivial⟩
        · simp only [List.getElem?_cons_zero, List.getElem?_cons_succ, Option.some.injEq] at ho
          subst ho
          intro a W vs hB hS hE hU
          refine wpG_plain rfl ?_
          obtain ⟨r0, e21⟩ := hE 0 21 (by kernel_rfl) (by kernel_rfl)
          have v21 : a.eval (.tmp 21) = .agg (Hn.map bv).toArray := e21.trans r0
          clear hE hU
          exact wp_value_inv (w' := W) (.agg (pathC Hn ⟨#[110]⟩)) (op_build rfl (vs := #[(0, .agg (Hn.map bv).toArray), (1, .string ⟨#[110]⟩)]) (by simp only [List.map_toArray, List.map_cons, List.map_nil, v21]; rfl) (path_built (Hn.map bv) HLN.out _)) ⟨_, rfl, hB, Fr.refl _ _, rfl, fun _ _ _ _ _ => trivial⟩
        · simp only [List.getElem?_cons_zero, List.getElem?_cons_succ, Option.some.injEq] at ho
          subst ho
          intro a W vs hB hS hE hU
          refine wpG_plain rfl ?_
          have v3 : a.eval (.tmp 3) = .string LS := (hU 3 (by kernel_rfl)).trans rfl
          clear hE hU
          exact wp_value_inv (w' := W) (.string LS) (op_move rfl v3) ⟨_, rfl, hB, Fr.refl _ _, rfl, fun _ _ _ _ _ => trivial⟩
        · simp only [List.getElem?_cons_zero, List.getElem?_cons_succ, Option.some.injEq] at ho
          subst ho
          intro a W vs hB hS hE hU
          refine wpG_plain rfl ?_
          obtain ⟨r1, e22⟩ := hE 1 22 (by kernel_rfl) (by kernel_rfl)
          have v22 : a.eval (.tmp 22) = .agg (pathC Hn ⟨#[110]⟩) := e22.trans r1
          obtain ⟨r2, e23⟩ := hE 2 23 (by kernel_rfl) (by kernel_rfl)
          have v23 : a.eval (.tmp 23) = .string LS := e23.trans r2
          clear hE hU
          refine wp_call_inv 3 #[.tmp 22, .tmp 23] #[25, 9] rfl #[.agg (pathC Hn ⟨#[110]⟩), .string LS] (by simp only [List.map_toArray, List.map_cons, List.map_nil, v22, v23]) (tells_enter _) (Post := fun v W' => v = .bool true ∧ Fr (fun _ => False) W W') ((tells_any Hn ⟨#[110]⟩ LS HLN2.out (Nat.le_trans (show (⟨#[110]⟩ : ByteArray).size ≤ 1 from Nat.le_refl _) (by decide)) (Nat.le_trans HLS.out (by decide)) W).mono fun e w' h => ⟨_, h.1, rfl, h.2⟩) ?_
          rintro v W' ⟨rfl, hf⟩
          exact ⟨_, rfl, hB.trans hf (fun _ h => h.elim), hf, rfl, fun _ _ _ _ _ => trivial⟩
        · simp only [List.getElem?_cons_zero, List.getElem?_cons_succ, Option.some.injEq] at ho
          subst ho
          intro a W vs hB hS hE hU
          refine wpG_plain rfl ?_
          obtain ⟨r3, e24⟩ := hE 3 24 (by kernel_rfl) (by kernel_rfl)
          have v24 : a.eval (.tmp 24) = .bool true := e24.trans r3
          clear hE hU
          exact wp_value_inv (w' := W) (.bool false) (op_unop rfl v24 (by rfl)) ⟨_, rfl, hB, Fr.refl _ _, rfl, fun _ _ _ _ _ => trivial⟩
        · simp only [List.getElem?_cons_zero, List.getElem?_cons_succ, Option.some.injEq] at ho
          subst ho
          intro a W vs hB hS hE hU
          refine wpG_plain rfl ?_
          obtain ⟨r4, e25⟩ := hE 4 25 (by kernel_rfl) (by kernel_rfl)
          have v25 : a.eval (.tmp 25) = .bool false := e25.trans r4
          clear hE hU
          exact wp_value_inv (w' := W) (.bool false) (op_move rfl v25) ⟨_, rfl, hB, Fr.refl _ _, rfl, fun _ _ _ _ _ => trivial⟩
        · simp only [List.getElem?_cons_zero, List.getElem?_cons_succ, Option.some.injEq] at ho
          subst ho
          intro a W vs hB hS hE hU
          obtain ⟨r5, e26⟩ := hE 5 26 (by kernel_rfl) (by kernel_rfl)
          have v26 : a.eval (.tmp 26) = .bool false := e26.trans r5
          refine wpG_yes 5 false 26 rfl (by kernel_rfl) (by rw [hS]; simp) v26 ?_
          have v2 : a.eval (.tmp 2) = .pointer (some ⟨g, 0, none⟩) := (hU 2 (by kernel_rfl)).trans rfl
          clear hE hU
          exact wp_value_inv (w' := W) (.agg (Hn.map bv).toArray) (op_loadAt rfl v2 (LD2.out W hB)) ⟨_, rfl, hB, Fr.refl _ _, rfl, fun _ _ _ _ _ => trivial⟩
        · simp only [List.getElem?_cons_zero, List.getElem?_cons_succ, Option.some.injEq] at ho
          subst ho
          intro a W vs hB hS hE hU
          obtain ⟨r5, e26⟩ := hE 5 26 (by kernel_rfl) (by kernel_rfl)
          have v26 : a.eval (.tmp 26) = .bool false := e26.trans r5
          refine wpG_yes 5 false 26 rfl (by kernel_rfl) (by rw [hS]; simp) v26 ?_
          obtain ⟨r6, e27⟩ := hE 6 27 (by kernel_rfl) (by kernel_rfl)
          have v27 : a.eval (.tmp 27) = .agg (Hn.map bv).toArray := e27.trans r6
          clear hE hU
          exact wp_value_inv (w' := W) (.agg (pathC Hn ⟨#[]⟩)) (op_build rfl (vs := #[(0, .agg (Hn.map bv).toArray)]) (by simp only [List.map_toArray, List.map_cons, List.map_nil, v27]) (path_built_h (Hn.map bv) HLN.out)) ⟨_, rfl, hB, Fr.refl _ _, rfl, fun _ _ _ _ _ => trivial⟩
        · simp only [List.getElem?_cons_zero, List.getElem?_cons_succ, Option.some.injEq] at ho
          subst ho
          intro a W vs hB hS hE hU
          obtain ⟨r5, e26⟩ := hE 5 26 (by kernel_rfl) (by kernel_rfl)
          have v26 : a.eval (.tmp 26) = .bool false := e26.trans r5
          refine wpG_yes 5 false 26 rfl (by kernel_rfl) (by rw [hS]; simp) v26 ?_
          have v3 : a.eval (.tmp 3) = .string LS := (hU 3 (by kernel_rfl)).trans rfl
          clear hE hU
          exact wp_value_inv (w' := W) (.string LS) (op_move rfl v3) ⟨_, rfl, hB, Fr.refl _ _, rfl, fun _ _ _ _ _ => trivial⟩
        · simp only [List.getElem?_cons_zero, List.getElem?_cons_succ, Option.some.injEq] at ho
          subst ho
          intro a W vs hB hS hE hU
          obtain ⟨r5, e26⟩ := hE 5 26 (by kernel_rfl) (by kernel_rfl)
          have v26 : a.eval (.tmp 26) = .bool false := e26.trans r5
          refine wpG_yes 5 false 26 rfl (by kernel_rfl) (by rw [hS]; simp) v26 ?_
          obtain ⟨r8, e29⟩ := hE 8 29 (by kernel_rfl) (by kernel_rfl)
          have v29 : a.eval (.tmp 29) = .string LS := e29.trans r8
          clear hE hU
          exact wp_value_inv (w' := W) (.string (LS ++ (⟨#[45, 120]⟩ : ByteArray))) (op_bin rfl v29 (rfl : a.eval (.const (Value.string ⟨#[45, 120]⟩)) = _) (guard_add W _ _ _ _) (run_add W _ _ (sz_add HLS.out (show (⟨#[45, 120]⟩ : ByteArray).size ≤ 2 from Nat.le_refl _) (by decide)))) ⟨_, rfl, hB, Fr.refl _ _, rfl, fun _ _ _ _ _ => trivial⟩
        · simp only [List.getElem?_cons_zero, List.getElem?_cons_succ, Option.some.injEq] at ho
          subst ho
          intro a W vs hB hS hE hU
          obtain ⟨r5, e26⟩ := hE 5 26 (by kernel_rfl) (by kernel_rfl)
          have v26 : a.eval (.tmp 26) = .bool false := e26.trans r5
          refine wpG_yes 5 false 26 rfl (by kernel_rfl) (by rw [hS]; simp) v26 ?_
          obtain ⟨r7, e28⟩ := hE 7 28 (by kernel_rfl) (by kernel_rfl)
          have v28 : a.eval (.tmp 28) = .agg (pathC Hn ⟨#[]⟩) := e28.trans r7
          obtain ⟨r9, e30⟩ := hE 9 30 (by kernel_rfl) (by kernel_rfl)
          have v30 : a.eval (.tmp 30) = .string (LS ++ (⟨#[45, 120]⟩ : ByteArray)) := e30.trans r9
          clear hE hU
          refine wp_call_inv 3 #[.tmp 28, .tmp 30] #[25, 9] rfl #[.agg (pathC Hn ⟨#[]⟩), .string (LS ++ (⟨#[45, 120]⟩ : ByteArray))] (by simp only [List.map_toArray, List.map_cons, List.map_nil, v28, v30]) (tells_enter _) (Post := fun v W' => v = .bool true ∧ Fr (fun _ => False) W W') ((tells_any Hn ⟨#[]⟩ (LS ++ (⟨#[45, 120]⟩ : ByteArray)) HLN2.out (Nat.le_trans (show (⟨#[]⟩ : ByteArray).size ≤ 0 from Nat.le_refl _) (by decide)) (Nat.le_trans (sz_cat HLS.out (show (⟨#[45, 120]⟩ : ByteArray).size ≤ 2 from Nat.le_refl _)) (by decide)) W).mono fun e w' h => ⟨_, h.1, rfl, h.2⟩) ?_
          rintro v W' ⟨rfl, hf⟩
          exact ⟨_, rfl, hB.trans hf (fun _ h => h.elim), hf, rfl, fun _ _ _ _ _ => trivial⟩
        · simp only [List.getElem?_cons_zero, List.getElem?_cons_succ, Option.some.injEq] at ho
          subst ho
          intro a W vs hB hS hE hU
          obtain ⟨r5, e26⟩ := hE 5 26 (by kernel_rfl) (by kernel_rfl)
          have v26 : a.eval (.tmp 26) = .bool false := e26.trans r5
          refine wpG_yes 5 false 26 rfl (by kernel_rfl) (by rw [hS]; simp) v26 ?_
          obtain ⟨r10, e31⟩ := hE 10 31 (by kernel_rfl) (by kernel_rfl)
          have v31 : a.eval (.tmp 31) = .bool true := e31.trans r10
          clear hE hU
          exact wp_value_inv (w' := W) (.bool false) (op_unop rfl v31 (by rfl)) ⟨_, rfl, hB, Fr.refl _ _, rfl, fun _ _ _ _ _ => trivial⟩
        · simp only [List.getElem?_cons_zero, List.getElem?_cons_succ, Option.some.injEq] at ho
          subst ho
          intro a W vs hB hS hE hU
          refine wpG_plain rfl ?_
          obtain ⟨r5, e26⟩ := hE 5 26 (by kernel_rfl) (by kernel_rfl)
          have v26 : a.eval (.tmp 26) = .bool false := e26.trans r5
          obtain ⟨r11, e32⟩ := hE 11 32 (by kernel_rfl) (by kernel_rfl)
          have v32 : a.eval (.tmp 32) = .bool false := e32.trans r11
          clear hE hU
          exact wp_value_inv (w' := W) (.bool false) (op_pick rfl v26 (by simp only [Bool.false_eq_true, if_false]; exact v32)) ⟨_, rfl, hB, Fr.refl _ _, rfl, fun _ _ _ _ _ => trivial⟩
        · simp only [List.getElem?_cons_zero, List.getElem?_cons_succ, Option.some.injEq] at ho
          subst ho
          intro a W vs hB hS hE hU
          refine wpG_plain rfl ?_
          obtain ⟨r12, e33⟩ := hE 12 33 (by kernel_rfl) (by kernel_rfl)
          have v33 : a.eval (.tmp 33) = .bool false := e33.trans r12
          clear hE hU
          exact wp_value_inv (w' := W) (.bool false) (op_move rfl v33) ⟨_, rfl, hB, Fr.refl _ _, rfl, fun _ _ _ _ _ => trivial⟩
        · simp only [List.getElem?_cons_zero, List.getElem?_cons_succ, Option.some.injEq] at ho
          subst ho
          intro a W vs hB hS hE hU
          obtain ⟨r13, e34⟩ := hE 13 34 (by kernel_rfl) (by kernel_rfl)
          have v34 : a.eval (.tmp 34) = .bool false := e34.trans r13
          refine wpG_yes 13 false 34 rfl (by kernel_rfl) (by rw [hS]; simp) v34 ?_
          have v2 : a.eval (.tmp 2) = .pointer (some ⟨g, 0, none⟩) := (hU 2 (by kernel_rfl)).trans rfl
          clear hE hU
          exact wp_value_inv (w' := W) (.agg (Hn.map bv).toArray) (op_loadAt rfl v2 (LD2.out W hB)) ⟨_, rfl, hB, Fr.refl _ _, rfl, fun _ _ _ _ _ => trivial⟩
        · simp only [List.getElem?_cons_zero, List.getElem?_cons_succ, Option.some.injEq] at ho
          subst ho
          intro a W vs hB hS hE hU
          obtain ⟨r13, e34⟩ := hE 13 34 (by kernel_rfl) (by kernel_rfl)
          have v34 : a.eval (.tmp 34) = .bool false := e34.trans r13
          refine wpG_yes 13 false 34 rfl (by kernel_rfl) (by rw [hS]; simp) v34 ?_
          obtain ⟨r14, e35⟩ := hE 14 35 (by kernel_rfl) (by kernel_rfl)
          have v35 : a.eval (.tmp 35) = .agg (Hn.map bv).toArray := e35.trans r14
          clear hE hU
          exact wp_value_inv (w' := W) (.agg (pathC Hn ⟨#[45]⟩)) (op_build rfl (vs := #[(0, .agg (Hn.map bv).toArray), (1, .string ⟨#[45]⟩)]) (by simp only [List.map_toArray, List.map_cons, List.map_nil, v35]; rfl) (path_built (Hn.map bv) HLN.out _)) ⟨_, rfl, hB, Fr.refl _ _, rfl, fun _ _ _ _ _ => trivial⟩
        · simp only [List.getElem?_cons_zero, List.getElem?_cons_succ, Option.some.injEq] at ho
          subst ho
          intro a W vs hB hS hE hU
          obtain ⟨r13, e34⟩ := hE 13 34 (by kernel_rfl) (by kernel_rfl)
          have v34 : a.eval (.tmp 34) = .bool false := e34.trans r13
          refine wpG_yes 13 false 34 rfl (by kernel_rfl) (by rw [hS]; simp) v34 ?_
          have v3 : a.eval (.tmp 3) = .string LS := (hU 3 (by kernel_rfl)).trans rfl
          clear hE hU
          exact wp_value_inv (w' := W) (.string LS) (op_move rfl v3) ⟨_, rfl, hB, Fr.refl _ _, rfl, fun _ _ _ _ _ => trivial⟩
        · simp only [List.getElem?_cons_zero, List.getElem?_cons_succ, Option.some.injEq] at ho
          subst ho
          intro a W vs hB hS hE hU
          obtain ⟨r13, e34⟩ := hE 13 34 (by kernel_rfl) (by kernel_rfl)
          have v34 : a.eval (.tmp 34) = .bool false := e34.trans r13
          refine wpG_yes 13 false 34 rfl (by kernel_rfl) (by rw [hS]; simp) v34 ?_
          obtain ⟨r16, e37⟩ := hE 16 37 (by kernel_rfl) (by kernel_rfl)
          have v37 : a.eval (.tmp 37) = .string LS := e37.trans r16
          clear hE hU
          exact wp_value_inv (w' := W) (.string (LS.extract 1 LS.size)) (op_slice_lo rfl v37 (rfl : a.eval (.const (.int .i64 1)) = _) (run_str_lo W _ 1 _ rfl HL1.out)) ⟨_, rfl, hB, Fr.refl _ _, rfl, fun _ _ _ _ _ => trivial⟩
        · simp only [List.getElem?_cons_zero, List.getElem?_cons_succ, Option.some.injEq] at ho
          subst ho
          intro a W vs hB hS hE hU
          obtain ⟨r13, e34⟩ := hE 13 34 (by kernel_rfl) (by kernel_rfl)
          have v34 : a.eval (.tmp 34) = .bool false := e34.trans r13
          refine wpG_yes 13 false 34 rfl (by kernel_rfl) (by rw [hS]; simp) v34 ?_
          obtain ⟨r17, e38⟩ := hE 17 38 (by kernel_rfl) (by kernel_rfl)
          have v38 : a.eval (.tmp 38) = .string (LS.extract 1 LS.size) := e38.trans r17
          clear hE hU
          exact wp_value_inv (w' := W) (.string ((LS.extract 1 LS.size) ++ (⟨#[45, 120]⟩ : ByteArray))) (op_bin rfl v38 (rfl : a.eval (.const (Value.string ⟨#[45, 120]⟩)) = _) (guard_add W _ _ _ _) (run_add W _ _ (sz_add (sz_cut 1 LS.size HLS.out) (show (⟨#[45, 120]⟩ : ByteArray).size ≤ 2 from Nat.le_refl _) (by decide)))) ⟨_, rfl, hB, Fr.refl _ _, rfl, fun _ _ _ _ _ => trivial⟩
        · simp only [List.getElem?_cons_zero, List.getElem?_cons_succ, Option.some.injEq] at ho
          subst ho
          intro a W vs hB hS hE hU
          obtain ⟨r13, e34⟩ := hE 13 34 (by kernel_rfl) (by kernel_rfl)
          have v34 : a.eval (.tmp 34) = .bool false := e34.trans r13
          refine wpG_yes 13 false 34 rfl (by kernel_rfl) (by rw [hS]; simp) v34 ?_
          obtain ⟨r15, e36⟩ := hE 15 36 (by kernel_rfl) (by kernel_rfl)
          have v36 : a.eval (.tmp 36) = .agg (pathC Hn ⟨#[45]⟩) := e36.trans r15
          obtain ⟨r18, e39⟩ := hE 18 39 (by kernel_rfl) (by kernel_rfl)
          have v39 : a.eval (.tmp 39) = .string ((LS.extract 1 LS.size) ++ (⟨#[45, 120]⟩ : ByteArray)) := e39.trans r18
          clear hE hU
          refine wp_call_inv 3 #[.tmp 36, .tmp 39] #[25, 9] rfl #[.agg (pathC Hn ⟨#[45]⟩), .string ((LS.extract 1 LS.size) ++ (⟨#[45, 120]⟩ : ByteArray))] (by simp only [List.map_toArray, List.map_cons, List.map_nil, v36, v39]) (tells_enter _) (Post := fun v W' => v = .bool true ∧ Fr (fun _ => False) W W') ((tells_any Hn ⟨#[45]⟩ ((LS.extract 1 LS.size) ++ (⟨#[45, 120]⟩ : ByteArray)) HLN2.out (Nat.le_trans (show (⟨#[45]⟩ : ByteArray).size ≤ 1 from Nat.le_refl _) (by decide)) (Nat.le_trans (sz_cat (sz_cut 1 LS.size HLS.out) (show (⟨#[45, 120]⟩ : ByteArray).size ≤ 2 from Nat.le_refl _)) (by decide)) W).mono fun e w' h => ⟨_, h.1, rfl, h.2⟩) ?_
          rintro v W' ⟨rfl, hf⟩
          exact ⟨_, rfl, hB.trans hf (fun _ h => h.elim), hf, rfl, fun _ _ _ _ _ => trivial⟩
        · simp only [List.getElem?_cons_zero, List.getElem?_cons_succ, Option.some.injEq] at ho
          subst ho
          intro a W vs hB hS hE hU
          obtain ⟨r13, e34⟩ := hE 13 34 (by kernel_rfl) (by kernel_rfl)
          have v34 : a.eval (.tmp 34) = .bool false := e34.trans r13
          refine wpG_yes 13 false 34 rfl (by kernel_rfl) (by rw [hS]; simp) v34 ?_
          obtain ⟨r19, e40⟩ := hE 19 40 (by kernel_rfl) (by kernel_rfl)
          have v40 : a.eval (.tmp 40) = .bool true := e40.trans r19
          clear hE hU
          exact wp_value_inv (w' := W) (.bool false) (op_unop rfl v40 (by rfl)) ⟨_, rfl, hB, Fr.refl _ _, rfl, fun _ _ _ _ _ => trivial⟩
        · simp only [List.getElem?_cons_zero, List.getElem?_cons_succ, Option.some.injEq] at ho
          subst ho
          intro a W vs hB hS hE hU
          refine wpG_plain rfl ?_
          obtain ⟨r13, e34⟩ := hE 13 34 (by kernel_rfl) (by kernel_rfl)
          have v34 : a.eval (.tmp 34) = .bool false := e34.trans r13
          obtain ⟨r20, e41⟩ := hE 20 41 (by kernel_rfl) (by kernel_rfl)
          have v41 : a.eval (.tmp 41) = .bool false := e41.trans r20
          clear hE hU
          exact wp_value_inv (w' := W) (.bool false) (op_pick rfl v34 (by simp only [Bool.false_eq_true, if_false]; exact v41)) ⟨_, rfl, hB, Fr.refl _ _, rfl, fun _ _ _ _ _ => trivial⟩
      · intro vs W hB hR hD
        have rL : vs 21 = .bool false := hR 21 (by decide)
        have HF3 := Lib.hid (HF2.out.trans hB (fun _ h => h.elim))
        clear hR hD hB
        simp only [acts, if_true, dstAt, List.getElem?_cons_zero, List.getElem?_cons_succ, Option.bind_some, Act.put, List.setIfInBounds_toArray, List.set_cons_succ, List.set_cons_zero, List.drop_succ_cons, List.drop_nil]
        rw [rL]
        clear rL
        go_wp2
        go_roundw
        case rel => exact ⟨n + 1, by omega, by go_num, HF3⟩
        case measure => simp [intOf]; omega
    · have hd : decide ((n : Int) < 160) = false := by rw [decide_eq_false_iff_not]; omega
      obtain ⟨LZ, hLZ⟩ : ∃ C : ByteArray, C = ⟨(letL (List.replicate 20 0)).toArray⟩ := ⟨_, rfl⟩
      have hsz : LZ.size = 32 := by rw [hLZ]; rfl
      have hlz := fun W => show Calls Try.prog 16 #[.agg #[.int .u8 0, .int .u8 0, .int .u8 0, .int .u8 0, .int .u8 0, .int .u8 0, .int .u8 0, .int .u8 0, .int .u8 0, .int .u8 0, .int .u8 0, .int .u8 0, .int .u8 0, .int .u8 0, .int .u8 0, .int .u8 0, .int .u8 0, .int .u8 0, .int .u8 0, .int .u8 0]] W fun e w' => e = .returned (.string LZ) ∧ Fr (fun _ => False) W w' from by
        have h := HRL.out (List.replicate 20 0) rfl W
        rw [← hLZ] at h
        exact h
      have HLT := Lib.hid hlz
      have HLZ := Lib.hid (Nat.le_of_eq hsz)
      have HZ32 := Lib.hid hsz
      have HTL := Lib.hid (fun (N s : ByteArray) (hN : N.size ≤ 140737488351232) (hs : s.size ≤ 140737488351232) W => show Calls Try.prog 3 #[.agg #[.int .u8 0, .int .u8 0, .int .u8 0, .int .u8 0, .int .u8 0, .int .u8 0, .int .u8 0, .int .u8 0, .int .u8 0, .int .u8 0, .int .u8 0, .int .u8 0, .int .u8 0, .int .u8 0, .int .u8 0, .int .u8 0, .int .u8 0, .int .u8 0, .int .u8 0, .int .u8 0, .string N], .string s] W fun e w' => e = .returned (.bool true) ∧ Fr (fun _ => False) W w' from
        tells_any (List.replicate 20 0) N s rfl hN hs W)
      clear hLZ hsz hlz
      go_wp2_with (go_at_call 16; refine (HLT.out _).mono ?_; rintro e w2 ⟨rfl, hf2⟩; have HF := Lib.hid (hF.out.trans hf2 (fun _ h => h.elim)); clear hf2)
      go_loopw [5] (fun nv wr => ∃ m : Nat, m ≤ 256 ∧ nv = .int .i64 m ∧ Hid (Fr (fun _ => False) w wr)) (fun nv _ => 256 - (intOf nv).toNat)
      case atStart => exact ⟨0, by omega, rfl, HF⟩
      case round =>
        clear HF hF
        obtain ⟨m, hm, rfl, hF⟩ := hrel
        by_cases hlm : m < 256
        · have hdm : decide ((m : Int) < 256) = true := by rw [decide_eq_true_iff]; omega
          have hwm : IntKind.u8.wrap (m : Int) = (m : Int) := by rw [IntKind.wrap_u8]; omega
          have hmm : (m : Int) % 256 = (m : Int) := by omega
          obtain ⟨c, hc⟩ : ∃ c : ByteArray, c = ⟨#[UInt8.ofNat m]⟩ := ⟨_, rfl⟩
          have hcs : c.size ≤ 1 := by rw [hc]; exact Nat.le_refl _
          have hcv : (convert 42 9 (.slice (some ⟨wr.heap.size, 0, none⟩) 1 1)).run Try.prog (wr.alloc (.cells #[.int .u8 (m : Int)] 5)) = .ok (.string c) (wr.alloc (.cells #[.int .u8 (m : Int)] 5)) := by
            have e : bv (UInt8.ofNat m) = .int .u8 (m : Int) := by
              have e : (UInt8.ofNat m).toNat = m := by rw [UInt8.toNat_ofNat']; omega
              rw [bv, e]
            have hb : BytT (wr.alloc (.cells #[.int .u8 (m : Int)] 5)) wr.heap.size 5 [UInt8.ofNat m] := by
              have h := heap_alloc_new wr (.cells #[.int .u8 (m : Int)] 5)
              show _ = some (Obj.cells #[bv (UInt8.ofNat m)] 5 (0, 0))
              rw [e]
              exact h
            rw [hc]
            exact run_bytes_str _ _ _ (hb.bytes (by show 1 ≤ maxLen; unfold maxLen; omega))
          have HF := Lib.hid (hF.out.trans ((Fr.refl (fun _ => False) wr).alloc (.cells #[.int .u8 (m : Int)] 5)) (fun _ h => h.elim))
          have HZ := HLZ.out
          have z0 : (⟨#[]⟩ : ByteArray).size ≤ 140737488351232 := by decide
          have z1 : c.size ≤ 140737488351232 := by omega
          have z2 : ((⟨#[97]⟩ : ByteArray) ++ c).size ≤ 140737488351232 := Nat.le_trans (sz_cat (show (⟨#[97]⟩ : ByteArray).size ≤ 1 from Nat.le_refl _) hcs) (by decide)
          have z3 : (LZ ++ (⟨#[45]⟩ : ByteArray) ++ c).size ≤ 140737488351232 := Nat.le_trans (sz_cat (sz_cat HZ (show (⟨#[45]⟩ : ByteArray).size ≤ 1 from Nat.le_refl _)) hcs) (by decide)
          have z4 : (LZ.extract 0 31 ++ c).size ≤ 140737488351232 := Nat.le_trans (sz_cat (sz_cut 0 31 HZ) hcs) (by decide)
          have z5 : (LZ ++ c ++ (⟨#[97]⟩ : ByteArray)).size ≤ 140737488351232 := Nat.le_trans (sz_cat (sz_cat HZ hcs) (show (⟨#[97]⟩ : ByteArray).size ≤ 1 from Nat.le_refl _)) (by decide)
          have hk1 := fun w => run_cat w LZ ⟨#[45]⟩ (sz_add HZ (show (⟨#[45]⟩ : ByteArray).size ≤ 1 from Nat.le_refl _) (by decide))
          have hk2 := fun w => run_cat w (LZ ++ ⟨#[45]⟩) c (sz_add (sz_cat HZ (show (⟨#[45]⟩ : ByteArray).size ≤ 1 from Nat.le_refl _)) hcs (by decide))
          have hk3 := fun w => run_cat w (LZ.extract 0 31) c (sz_add (sz_cut 0 31 HZ) hcs (by decide))
          have hk4 := fun w => run_cat w LZ c (sz_add HZ hcs (by decide))
          have hk5 := fun w => run_cat w (LZ ++ c) ⟨#[97]⟩ (sz_add (sz_cat HZ hcs) (show (⟨#[97]⟩ : ByteArray).size ≤ 1 from Nat.le_refl _) (by decide))
          have hk6 := fun w => run_cat w ⟨#[97]⟩ c (sz_add (show (⟨#[97]⟩ : ByteArray).size ≤ 1 from Nat.le_refl _) hcs (by decide))
          have h31 : (31 : Int) ≤ (LZ.size : Int) := by have := HZ32.out; omega
          clear hc hcs
          go_wp2_with (go_at_call 3; refine (HTL.out _ _ ?_ ?_ _).mono ?_; (assumption); (assumption); rintro e w3 ⟨rfl, hf3⟩; have HF := Lib.hid (HF.out.trans hf3 (fun _ h => h.elim)); clear hf3)
          go_roundw
          case rel => exact ⟨m + 1, by omega, by go_num, HF⟩
          case measure => simp [intOf]; omega
        · have hdm : decide ((m : Int) < 256) = false := by rw [decide_eq_false_iff_not]; omega
          go_wp2_with fail
          go_loopw [8] (fun nv wr => ∃ n : Nat, n ≤ 26 ∧ nv = .int .i64 n ∧ Hid (Fr (fun _ => False) w wr)) (fun nv _ => 26 - (intOf nv).toNat)
          case atStart => exact ⟨0, by omega, rfl, hF⟩
          case round =>
            clear hF
            obtain ⟨n, hn2, rfl, hF⟩ := hrel
            by_cases hln : n < 26
            · have hdn : decide ((n : Int) < 26) = true := by rw [decide_eq_true_iff]; omega
              have HN25 := Lib.hid (show n ≤ 25 by omega)
              have HN32 := Lib.hid (show n ≤ LZ.size by have := HZ32.out; omega)
              go_wp2_with fail
              refine wp_region_inv 30 (by kernel_rfl) (by kernel_rfl) (fun W => Fr (fun _ => False) wr W) (E20R LZ n) (fun _ _ _ _ => True) (Fr (fun _ => False)) (E20R.ext LZ n) (Fr.refl _ _).drew ?_ ?_
              · intro i hi o ho
                replace hi : i < 30 := hi
                obtain rfl | rfl | rfl | rfl | rfl | rfl | rfl | rfl | rfl | rfl | rfl | rfl | rfl | rfl | rfl | rfl | rfl | rfl | rfl | rfl | rfl | rfl | rfl | rfl | rfl | rfl | rfl | rfl | rfl | rfl : i = 0 ∨ i = 1 ∨ i = 2 ∨ i = 3 ∨ i = 4 ∨ i = 5 ∨ i = 6 ∨ i = 7 ∨ i = 8 ∨ i = 9 ∨ i = 10 ∨ i = 11 ∨ i = 12 ∨ i = 13 ∨ i = 14 ∨ i = 15 ∨ i = 16 ∨ i = 17 ∨ i = 18 ∨ i = 19 ∨ i = 20 ∨ i = 21 ∨ i = 22 ∨ i = 23 ∨ i = 24 ∨ i = 25 ∨ i = 26 ∨ i = 27 ∨ i = 28 ∨ i = 29 := by omega
                · simp only [List.getElem?_cons_zero, Option.some.injEq] at ho
                  subst ho
                  intro a W vs hB hS hE hU
                  refine wpG_plain rfl ?_
                  have v7 : a.eval (.tmp 7) = .string ⟨#[97, 98, 99, 100, 101, 102, 103, 104, 105, 106, 107, 108, 109, 110, 111, 112, 113, 114, 115, 116, 117, 118, 119, 120, 121]⟩ := (hU 7 (by kernel_rfl)).trans rfl
                  clear hE hU
                  exact wp_value_inv (w' := W) (.string ⟨#[97, 98, 99, 100, 101, 102, 103, 104, 105, 106, 107, 108, 109, 110, 111, 112, 113, 114, 115, 116, 117, 118, 119, 120, 121]⟩) (op_move rfl v7) ⟨_, rfl, hB, Fr.refl _ _, rfl, fun _ _ _ _ _ => trivial⟩
                · simp only [List.getElem?_cons_zero, List.getElem?_cons_succ, Option.some.injEq] at ho
                  subst ho
                  intro a W vs hB hS hE hU
                  refine wpG_plain rfl ?_
                  have v8 : a.eval (.tmp 8) = .int .i64 n := (hU 8 (by kernel_rfl)).trans rfl
                  clear hE hU
                  exact wp_value_inv (w' := W) (.int .i64 n) (op_move rfl v8) ⟨_, rfl, hB, Fr.refl _ _, rfl, fun _ _ _ _ _ => trivial⟩
                · simp only [List.getElem?_cons_zero, List.getElem?_cons_succ, Option.some.injEq] at ho
                  subst ho
                  intro a W vs hB hS hE hU
                  refine wpG_plain rfl ?_
                  obtain ⟨r0, e91⟩ := hE 0 91 (by kernel_rfl) (by kernel_rfl)
                  have v91 : a.eval (.tmp 91) = .string ⟨#[97, 98, 99, 100, 101, 102, 103, 104, 105, 106, 107, 108, 109, 110, 111, 112, 113, 114, 115, 116, 117, 118, 119, 120, 121]⟩ := e91.trans r0
                  obtain ⟨r1, e92⟩ := hE 1 92 (by kernel_rfl) (by kernel_rfl)
                  have v92 : a.eval (.tmp 92) = .int .i64 n := e92.trans r1
                  clear hE hU
                  exact wp_value_inv (w' := W) (.string ((⟨#[97, 98, 99, 100, 101, 102, 103, 104, 105, 106, 107, 108, 109, 110, 111, 112, 113, 114, 115, 116, 117, 118, 119, 120, 121]⟩ : ByteArray).extract 0 n)) (op_slice_hi rfl v91 v92 (run_str_hi W _ n _ rfl (show n ≤ (⟨#[97, 98, 99, 100, 101, 102, 103, 104, 105, 106, 107, 108, 109, 110, 111, 112, 113, 114, 115, 116, 117, 118, 119, 120, 121]⟩ : ByteArray).size from (by show n ≤ 25; exact HN25.out)))) ⟨_, rfl, hB, Fr.refl _ _, rfl, fun _ _ _ _ _ => trivial⟩
                · simp only [List.getElem?_cons_zero, List.getElem?_cons_succ, Option.some.injEq] at ho
                  subst ho
                  intro a W vs hB hS hE hU
                  refine wpG_plain rfl ?_
                  obtain ⟨r2, e93⟩ := hE 2 93 (by kernel_rfl) (by kernel_rfl)
                  have v93 : a.eval (.tmp 93) = .string ((⟨#[97, 98, 99, 100, 101, 102, 103, 104, 105, 106, 107, 108, 109, 110, 111, 112, 113, 114, 115, 116, 117, 118, 119, 120, 121]⟩ : ByteArray).extract 0 n) := e93.trans r2
                  clear hE hU
                  exact wp_value_inv (w' := W) (.agg (pathC (List.replicate 20 0) ((⟨#[97, 98, 99, 100, 101, 102, 103, 104, 105, 106, 107, 108, 109, 110, 111, 112, 113, 114, 115, 116, 117, 118, 119, 120, 121]⟩ : ByteArray).extract 0 n))) (op_build rfl (vs := #[(1, .string ((⟨#[97, 98, 99, 100, 101, 102, 103, 104, 105, 106, 107, 108, 109, 110, 111, 112, 113, 114, 115, 116, 117, 118, 119, 120, 121]⟩ : ByteArray).extract 0 n))]) (by simp only [List.map_toArray, List.map_cons, List.map_nil, v93]) (path_built_n _)) ⟨_, rfl, hB, Fr.refl _ _, rfl, fun _ _ _ _ _ => trivial⟩
                · simp only [List.getElem?_cons_zero, List.getElem?_cons_succ, Option.some.injEq] at ho
                  subst ho
                  intro a W vs hB hS hE hU
                  refine wpG_plain rfl ?_
                  have v4 : a.eval (.tmp 4) = .string LZ := (hU 4 (by kernel_rfl)).trans rfl
                  clear hE hU
                  exact wp_value_inv (w' := W) (.string LZ) (op_move rfl v4) ⟨_, rfl, hB, Fr.refl _ _, rfl, fun _ _ _ _ _ => trivial⟩
                · simp only [List.getElem?_cons_zero, List.getElem?_cons_succ, Option.some.injEq] at ho
                  subst ho
                  intro a W vs hB hS hE hU
                  refine wpG_plain rfl ?_
                  obtain ⟨r4, e95⟩ := hE 4 95 (by kernel_rfl) (by kernel_rfl)
                  have v95 : a.eval (.tmp 95) = .string LZ := e95.trans r4
                  clear hE hU
                  exact wp_value_inv (w' := W) (.string (LZ ++ (⟨#[45]⟩ : ByteArray))) (op_bin rfl v95 (rfl : a.eval (.const (Value.string ⟨#[45]⟩)) = _) (guard_add W _ _ _ _) (run_add W _ _ (sz_add HLZ.out (show (⟨#[45]⟩ : ByteArray).size ≤ 1 from Nat.le_refl _) (by decide)))) ⟨_, rfl, hB, Fr.refl _ _, rfl, fun _ _ _ _ _ => trivial⟩
                · simp only [List.getElem?_cons_zero, List.getElem?_cons_succ, Option.some.injEq] at ho
                  subst ho
                  intro a W vs hB hS hE hU
                  refine wpG_plain rfl ?_
                  have v7 : a.eval (.tmp 7) = .string ⟨#[97, 98, 99, 100, 101, 102, 103, 104, 105, 106, 107, 108, 109, 110, 111, 112, 113, 114, 115, 116, 117, 118, 119, 120, 121]⟩ := (hU 7 (by kernel_rfl)).trans rfl
                  clear hE hU
                  exact wp_value_inv (w' := W) (.string ⟨#[97, 98, 99, 100, 101, 102, 103, 104, 105, 106, 107, 108, 109, 110, 111, 112, 113, 114, 115, 116, 117, 118, 119, 120, 121]⟩) (op_move rfl v7) ⟨_, rfl, hB, Fr.refl _ _, rfl, fun _ _ _ _ _ => trivial⟩
                · simp only [List.getElem?_cons_zero, List.getElem?_cons_succ, Option.some.injEq] at ho
                  subst ho
                  intro a W vs hB hS hE hU
                  refine wpG_plain rfl ?_
                  have v8 : a.eval (.tmp 8) = .int .i64 n := (hU 8 (by kernel_rfl)).trans rfl
                  clear hE hU
                  exact wp_value_inv (w' := W) (.int .i64 n) (op_move rfl v8) ⟨_, rfl, hB, Fr.refl _ _, rfl, fun _ _ _ _ _ => trivial⟩
                · simp only [List.getElem?_cons_zero, List.getElem?_cons_succ, Option.some.injEq] at ho
                  subst ho
                  intro a W vs hB hS hE hU
                  refine wpG_plain rfl ?_
                  obtain ⟨r6, e97⟩ := hE 6 97 (by kernel_rfl) (by kernel_rfl)
                  have v97 : a.eval (.tmp 97) = .string ⟨#[97, 98, 99, 100, 101, 102, 103, 104, 105, 106, 107, 108, 109, 110, 111, 112, 113, 114, 115, 116, 117, 118, 119, 120, 121]⟩ := e97.trans r6
                  obtain ⟨r7, e98⟩ := hE 7 98 (by kernel_rfl) (by kernel_rfl)
                  have v98 : a.eval (.tmp 98) = .int .i64 n := e98.trans r7
                  clear hE hU
                  exact wp_value_inv (w' := W) (.string ((⟨#[97, 98, 99, 100, 101, 102, 103, 104, 105, 106, 107, 108, 109, 110, 111, 112, 113, 114, 115, 116, 117, 118, 119, 120, 121]⟩ : ByteArray).extract 0 n)) (op_slice_hi rfl v97 v98 (run_str_hi W _ n _ rfl (show n ≤ (⟨#[97, 98, 99, 100, 101, 102, 103, 104, 105, 106, 107, 108, 109, 110, 111, 112, 113, 114, 115, 116, 117, 118, 119, 120, 121]⟩ : ByteArray).size from (by show n ≤ 25; exact HN25.out)))) ⟨_, rfl, hB, Fr.refl _ _, rfl, fun _ _ _ _ _ => trivial⟩
                · simp only [List.getElem?_cons_zero, List.getElem?_cons_succ, Option.some.injEq] at ho
                  subst ho
                  intro a W vs hB hS hE hU
                  refine wpG_plain rfl ?_
                  obtain ⟨r5, e96⟩ := hE 5 96 (by kernel_rfl) (by kernel_rfl)
                  have v96 : a.eval (.tmp 96) = .string (LZ ++ (⟨#[45]⟩ : ByteArray)) := e96.trans r5
                  obtain ⟨r8, e99⟩ := hE 8 99 (by kernel_rfl) (by kernel_rfl)
                  have v99 : a.eval (.tmp 99) = .string ((⟨#[97, 98, 99, 100, 101, 102, 103, 104, 105, 106, 107, 108, 109, 110, 111, 112, 113, 114, 115, 116, 117, 118, 119, 120, 121]⟩ : ByteArray).extract 0 n) := e99.trans r8
                  clear hE hU
                  exact wp_value_inv (w' := W) (.string ((LZ ++ (⟨#[45]⟩ : ByteArray)) ++ ((⟨#[97, 98, 99, 100, 101, 102, 103, 104, 105, 106, 107, 108, 109, 110, 111, 112, 113, 114, 115, 116, 117, 118, 119, 120, 121]⟩ : ByteArray).extract 0 n))) (op_bin rfl v96 v99 (guard_add W _ _ _ _) (run_add W _ _ (sz_add (sz_cat HLZ.out (show (⟨#[45]⟩ : ByteArray).size ≤ 1 from Nat.le_refl _)) (sz_cut 0 n (show (⟨#[97, 98, 99, 100, 101, 102, 103, 104, 105, 106, 107, 108, 109, 110, 111, 112, 113, 114, 115, 116, 117, 118, 119, 120, 121]⟩ : ByteArray).size ≤ 25 from Nat.le_refl _)) (by decide)))) ⟨_, rfl, hB, Fr.refl _ _, rfl, fun _ _ _ _ _ => trivial⟩
                · simp only [List.getElem?_cons_zero, List.getElem?_cons_succ, Option.some.injEq] at ho
                  subst ho
                  intro a W vs hB hS hE hU
                  refine wpG_plain rfl ?_
                  obtain ⟨r3, e94⟩ := hE 3 94 (by kernel_rfl) (by kernel_rfl)
                  have v94 : a.eval (.tmp 94) = .agg (pathC (List.replicate 20 0) ((⟨#[97, 98, 99, 100, 101, 102, 103, 104, 105, 106, 107, 108, 109, 110, 111, 112, 113, 114, 115, 116, 117, 118, 119, 120, 121]⟩ : ByteArray).extract 0 n)) := e94.trans r3
                  obtain ⟨r9, e100⟩ := hE 9 100 (by kernel_rfl) (by kernel_rfl)
                  have v100 : a.eval (.tmp 100) = .string ((LZ ++ (⟨#[45]⟩ : ByteArray)) ++ ((⟨#[97, 98, 99, 100, 101, 102, 103, 104, 105, 106, 107, 108, 109, 110, 111, 112, 113, 114, 115, 116, 117, 118, 119, 120, 121]⟩ : ByteArray).extract 0 n)) := e100.trans r9
                  clear hE hU
                  refine wp_call_inv 3 #[.tmp 94, .tmp 100] #[25, 9] rfl #[.agg (pathC (List.replicate 20 0) ((⟨#[97, 98, 99, 100, 101, 102, 103, 104, 105, 106, 107, 108, 109, 110, 111, 112, 113, 114, 115, 116, 117, 118, 119, 120, 121]⟩ : ByteArray).extract 0 n)), .string ((LZ ++ (⟨#[45]⟩ : ByteArray)) ++ ((⟨#[97, 98, 99, 100, 101, 102, 103, 104, 105, 106, 107, 108, 109, 110, 111, 112, 113, 114, 115, 116, 117, 118, 119, 120, 121]⟩ : ByteArray).extract 0 n))] (by simp only [List.map_toArray, List.map_cons, List.map_nil, v94, v100]) (tells_enter _) (Post := fun v W' => v = .bool true ∧ Fr (fun _ => False) W W') ((tells_any (List.replicate 20 0) ((⟨#[97, 98, 99, 100, 101, 102, 103, 104, 105, 106, 107, 108, 109, 110, 111, 112, 113, 114, 115, 116, 117, 118, 119, 120, 121]⟩ : ByteArray).extract 0 n) ((LZ ++ (⟨#[45]⟩ : ByteArray)) ++ ((⟨#[97, 98, 99, 100, 101, 102, 103, 104, 105, 106, 107, 108, 109, 110, 111, 112, 113, 114, 115, 116, 117, 118, 119, 120, 121]⟩ : ByteArray).extract 0 n)) (by simp) (Nat.le_trans (sz_cut 0 n (show (⟨#[97, 98, 99, 100, 101, 102, 103, 104, 105, 106, 107, 108, 109, 110, 111, 112, 113, 114, 115, 116, 117, 118, 119, 120, 121]⟩ : ByteArray).size ≤ 25 from Nat.le_refl _)) (by decide)) (Nat.le_trans (sz_cat (sz_cat HLZ.out (show (⟨#[45]⟩ : ByteArray).size ≤ 1 from Nat.le_refl _)) (sz_cut 0 n (show (⟨#[97, 98, 99, 100, 101, 102, 103, 104, 105, 106, 107, 108, 109, 110, 111, 112, 113, 114, 115, 116, 117, 118, 119, 120, 121]⟩ : ByteArray).size ≤ 25 from Nat.le_refl _))) (by decide)) W).mono fun e w' h => ⟨_, h.1, rfl, h.2⟩) ?_
                  rintro v W' ⟨rfl, hf⟩
                  exact ⟨_, rfl, hB.trans hf (fun _ h => h.elim), hf, rfl, fun _ _ _ _ _ => trivial⟩
                · simp only [List.getElem?_cons_zero, List.getElem?_cons_succ, Option.some.injEq] at ho
                  subst ho
                  intro a W vs hB hS hE hU
                  refine wpG_plain rfl ?_
                  obtain ⟨r10, e101⟩ := hE 10 101 (by kernel_rfl) (by kernel_rfl)
                  have v101 : a.eval (.tmp 101) = .bool true := e101.trans r10
                  clear hE hU
                  exact wp_value_inv (w' := W) (.bool false) (op_unop rfl v101 (by rfl)) ⟨_, rfl, hB, Fr.refl _ _, rfl, fun _ _ _ _ _ => trivial⟩
                · simp only [List.getElem?_cons_zero, List.getElem?_cons_succ, Option.some.injEq] at ho
                  subst ho
                  intro a W vs hB hS hE hU
                  refine wpG_plain rfl ?_
                  obtain ⟨r11, e102⟩ := hE 11 102 (by kernel_rfl) (by kernel_rfl)
                  have v102 : a.eval (.tmp 102) = .bool false := e102.trans r11
                  clear hE hU
                  exact wp_value_inv (w' := W) (.bool false) (op_move rfl v102) ⟨_, rfl, hB, Fr.refl _ _, rfl, fun _ _ _ _ _ => trivial⟩
                · simp only [List.getElem?_cons_zero, List.getElem?_cons_succ, Option.some.injEq] at ho
                  subst ho
                  intro a W vs hB hS hE hU
                  obtain ⟨r12, e103⟩ := hE 12 103 (by kernel_rfl) (by kernel_rfl)
                  have v103 : a.eval (.tmp 103) = .bool false := e103.trans r12
                  refine wpG_yes 12 false 103 rfl (by kernel_rfl) (by rw [hS]; simp) v103 ?_
                  clear hE hU
                  exact wp_value_inv (w' := W) (.agg (pathC (List.replicate 20 0) ⟨#[]⟩)) (op_build rfl (vs := #[]) (by simp) (path_built_0)) ⟨_, rfl, hB, Fr.refl _ _, rfl, fun _ _ _ _ _ => trivial⟩
                · simp only [List.getElem?_cons_zero, List.getElem?_cons_succ, Option.some.injEq] at ho
                  subst ho
                  intro a W vs hB hS hE hU
                  obtain ⟨r12, e103⟩ := hE 12 103 (by kernel_rfl) (by kernel_rfl)
                  have v103 : a.eval (.tmp 103) = .bool false := e103.trans r12
                  refine wpG_yes 12 false 103 rfl (by kernel_rfl) (by rw [hS]; simp) v103 ?_
                  have v4 : a.eval (.tmp 4) = .string LZ := (hU 4 (by kernel_rfl)).trans rfl
                  clear hE hU
                  exact wp_value_inv (w' := W) (.string LZ) (op_move rfl v4) ⟨_, rfl, hB, Fr.refl _ _, rfl, fun _ _ _ _ _ => trivial⟩
                · simp only [List.getElem?_cons_zero, List.getElem?_cons_succ, Option.some.injEq] at ho
                  subst ho
                  intro a W vs hB hS hE hU
                  obtain ⟨r12, e103⟩ := hE 12 103 (by kernel_rfl) (by kernel_rfl)
                  have v103 : a.eval (.tmp 103) = .bool false := e103.trans r12
                  refine wpG_yes 12 false 103 rfl (by kernel_rfl) (by rw [hS]; simp) v103 ?_
                  have v8 : a.eval (.tmp 8) = .int .i64 n := (hU 8 (by kernel_rfl)).trans rfl
                  clear hE hU
                  exact wp_value_inv (w' := W) (.int .i64 n) (op_move rfl v8) ⟨_, rfl, hB, Fr.refl _ _, rfl, fun _ _ _ _ _ => trivial⟩
                · simp only [List.getElem?_cons_zero, List.getElem?_cons_succ, Option.some.injEq] at ho
                  subst ho
                  intro a W vs hB hS hE hU
                  obtain ⟨r12, e103⟩ := hE 12 103 (by kernel_rfl) (by kernel_rfl)
                  have v103 : a.eval (.tmp 103) = .bool false := e103.trans r12
                  refine wpG_yes 12 false 103 rfl (by kernel_rfl) (by rw [hS]; simp) v103 ?_
                  obtain ⟨r14, e105⟩ := hE 14 105 (by kernel_rfl) (by kernel_rfl)
                  have v105 : a.eval (.tmp 105) = .string LZ := e105.trans r14
                  obtain ⟨r15, e106⟩ := hE 15 106 (by kernel_rfl) (by kernel_rfl)
                  have v106 : a.eval (.tmp 106) = .int .i64 n := e106.trans r15
                  clear hE hU
                  exact wp_value_inv (w' := W) (.string (LZ.extract 0 n)) (op_slice_hi rfl v105 v106 (run_str_hi W _ n _ rfl HN32.out)) ⟨_, rfl, hB, Fr.refl _ _, rfl, fun _ _ _ _ _ => trivial⟩
                · simp only [List.getElem?_cons_zero, List.getElem?_cons_succ, Option.some.injEq] at ho
                  subst ho
                  intro a W vs hB hS hE hU
                  obtain ⟨r12, e103⟩ := hE 12 103 (by kernel_rfl) (by kernel_rfl)
                  have v103 : a.eval (.tmp 103) = .bool false := e103.trans r12
                  refine wpG_yes 12 false 103 rfl (by kernel_rfl) (by rw [hS]; simp) v103 ?_
                  obtain ⟨r13, e104⟩ := hE 13 104 (by kernel_rfl) (by kernel_rfl)
                  have v104 : a.eval (.tmp 104) = .agg (pathC (List.replicate 20 0) ⟨#[]⟩) := e104.trans r13
                  obtain ⟨r16, e107⟩ := hE 16 107 (by kernel_rfl) (by kernel_rfl)
                  have v107 : a.eval (.tmp 107) = .string (LZ.extract 0 n) := e107.trans r16
                  clear hE hU
                  refine wp_call_inv 3 #[.tmp 104, .tmp 107] #[25, 9] rfl #[.agg (pathC (List.replicate 20 0) ⟨#[]⟩), .string (LZ.extract 0 n)] (by simp only [List.map_toArray, List.map_cons, List.map_nil, v104, v107]) (tells_enter _) (Post := fun v W' => v = .bool true ∧ Fr (fun _ => False) W W') ((tells_any (List.replicate 20 0) ⟨#[]⟩ (LZ.extract 0 n) (by simp) (Nat.le_trans (show (⟨#[]⟩ : ByteArray).size ≤ 0 from Nat.le_refl _) (by decide)) (Nat.le_trans (sz_cut 0 n HLZ.out) (by decide)) W).mono fun e w' h => ⟨_, h.1, rfl, h.2⟩) ?_
                  rintro v W' ⟨rfl, hf⟩
                  exact ⟨_, rfl, hB.trans hf (fun _ h => h.elim), hf, rfl, fun _ _ _ _ _ => trivial⟩
                · simp only [List.getElem?_cons_zero, List.getElem?_cons_succ, Option.some.injEq] at ho
                  subst ho
                  intro a W vs hB hS hE hU
                  obtain ⟨r12, e103⟩ := hE 12 103 (by kernel_rfl) (by kernel_rfl)
                  have v103 : a.eval (.tmp 103) = .bool false := e103.trans r12
                  refine wpG_yes 12 false 103 rfl (by kernel_rfl) (by rw [hS]; simp) v103 ?_
                  obtain ⟨r17, e108⟩ := hE 17 108 (by kernel_rfl) (by kernel_rfl)
                  have v108 : a.eval (.tmp 108) = .bool true := e108.trans r17
                  clear hE hU
                  exact wp_value_inv (w' := W) (.bool false) (op_unop rfl v108 (by rfl)) ⟨_, rfl, hB, Fr.refl _ _, rfl, fun _ _ _ _ _ => trivial⟩
                · simp only [List.getElem?_cons_zero, List.getElem?_cons_succ, Option.some.injEq] at ho
                  subst ho
                  intro a W vs hB hS hE hU
                  refine wpG_plain rfl ?_
                  obtain ⟨r12, e103⟩ := hE 12 103 (by kernel_rfl) (by kernel_rfl)
                  have v103 : a.eval (.tmp 103) = .bool false := e103.trans r12
                  obtain ⟨r18, e109⟩ := hE 18 109 (by kernel_rfl) (by kernel_rfl)
                  have v109 : a.eval (.tmp 109) = .bool false := e109.trans r18
                  clear hE hU
                  exact wp_value_inv (w' := W) (.bool false) (op_pick rfl v103 (by simp only [Bool.false_eq_true, if_false]; exact v109)) ⟨_, rfl, hB, Fr.refl _ _, rfl, fun _ _ _ _ _ => trivial⟩
                · simp only [List.getElem?_cons_zero, List.getElem?_cons_succ, Option.some.injEq] at ho
                  subst ho
                  intro a W vs hB hS hE hU
                  refine wpG_plain rfl ?_
                  obtain ⟨r19, e110⟩ := hE 19 110 (by kernel_rfl) (by kernel_rfl)
                  have v110 : a.eval (.tmp 110) = .bool false := e110.trans r19
                  clear hE hU
                  exact wp_value_inv (w' := W) (.bool false) (op_move rfl v110) ⟨_, rfl, hB, Fr.refl _ _, rfl, fun _ _ _ _ _ => trivial⟩
                · simp only [List.getElem?_cons_zero, List.getElem?_cons_succ, Option.some.injEq] at ho
                  subst ho
                  intro a W vs hB hS hE hU
                  obtain ⟨r20, e111⟩ := hE 20 111 (by kernel_rfl) (by kernel_rfl)
                  have v111 : a.eval (.tmp 111) = .bool false := e111.trans r20
                  refine wpG_yes 20 false 111 rfl (by kernel_rfl) (by rw [hS]; simp) v111 ?_
                  clear hE hU
                  exact wp_value_inv (w' := W) (.agg (pathC (List.replicate 20 0) ⟨#[]⟩)) (op_build rfl (vs := #[]) (by simp) (path_built_0)) ⟨_, rfl, hB, Fr.refl _ _, rfl, fun _ _ _ _ _ => trivial⟩
                · simp only [List.getElem?_cons_zero, List.getElem?_cons_succ, Option.some.injEq] at ho
                  subst ho
                  intro a W vs hB hS hE hU
                  obtain ⟨r20, e111⟩ := hE 20 111 (by kernel_rfl) (by kernel_rfl)
                  have v111 : a.eval (.tmp 111) = .bool false := e111.trans r20
                  refine wpG_yes 20 false 111 rfl (by kernel_rfl) (by rw [hS]; simp) v111 ?_
                  have v4 : a.eval (.tmp 4) = .string LZ := (hU 4 (by kernel_rfl)).trans rfl
                  clear hE hU
                  exact wp_value_inv (w' := W) (.string LZ) (op_move rfl v4) ⟨_, rfl, hB, Fr.refl _ _, rfl, fun _ _ _ _ _ => trivial⟩
                · simp only [List.getElem?_cons_zero, List.getElem?_cons_succ, Option.some.injEq] at ho
                  subst ho
                  intro a W vs hB hS hE hU
                  obtain ⟨r20, e111⟩ := hE 20 111 (by kernel_rfl) (by kernel_rfl)
                  have v111 : a.eval (.tmp 111) = .bool false := e111.trans r20
                  refine wpG_yes 20 false 111 rfl (by kernel_rfl) (by rw [hS]; simp) v111 ?_
                  have v4 : a.eval (.tmp 4) = .string LZ := (hU 4 (by kernel_rfl)).trans rfl
                  clear hE hU
                  exact wp_value_inv (w' := W) (.string LZ) (op_move rfl v4) ⟨_, rfl, hB, Fr.refl _ _, rfl, fun _ _ _ _ _ => trivial⟩
                · simp only [List.getElem?_cons_zero, List.getElem?_cons_succ, Option.some.injEq] at ho
                  subst ho
                  intro a W vs hB hS hE hU
                  obtain ⟨r20, e111⟩ := hE 20 111 (by kernel_rfl) (by kernel_rfl)
                  have v111 : a.eval (.tmp 111) = .bool false := e111.trans r20
                  refine wpG_yes 20 false 111 rfl (by kernel_rfl) (by rw [hS]; simp) v111 ?_
                  have v8 : a.eval (.tmp 8) = .int .i64 n := (hU 8 (by kernel_rfl)).trans rfl
                  clear hE hU
                  exact wp_value_inv (w' := W) (.int .i64 n) (op_move rfl v8) ⟨_, rfl, hB, Fr.refl _ _, rfl, fun _ _ _ _ _ => trivial⟩
                · simp only [List.getElem?_cons_zero, List.getElem?_cons_succ, Option.some.injEq] at ho
                  subst ho
                  intro a W vs hB hS hE hU
                  obtain ⟨r20, e111⟩ := hE 20 111 (by kernel_rfl) (by kernel_rfl)
                  have v111 : a.eval (.tmp 111) = .bool false := e111.trans r20
                  refine wpG_yes 20 false 111 rfl (by kernel_rfl) (by rw [hS]; simp) v111 ?_
                  obtain ⟨r23, e114⟩ := hE 23 114 (by kernel_rfl) (by kernel_rfl)
                  have v114 : a.eval (.tmp 114) = .string LZ := e114.trans r23
                  obtain ⟨r24, e115⟩ := hE 24 115 (by kernel_rfl) (by kernel_rfl)
                  have v115 : a.eval (.tmp 115) = .int .i64 n := e115.trans r24
                  clear hE hU
                  exact wp_value_inv (w' := W) (.string (LZ.extract 0 n)) (op_slice_hi rfl v114 v115 (run_str_hi W _ n _ rfl HN32.out)) ⟨_, rfl, hB, Fr.refl _ _, rfl, fun _ _ _ _ _ => trivial⟩
                · simp only [List.getElem?_cons_zero, List.getElem?_cons_succ, Option.some.injEq] at ho
                  subst ho
                  intro a W vs hB hS hE hU
                  obtain ⟨r20, e111⟩ := hE 20 111 (by kernel_rfl) (by kernel_rfl)
                  have v111 : a.eval (.tmp 111) = .bool false := e111.trans r20
                  refine wpG_yes 20 false 111 rfl (by kernel_rfl) (by rw [hS]; simp) v111 ?_
                  obtain ⟨r22, e113⟩ := hE 22 113 (by kernel_rfl) (by kernel_rfl)
                  have v113 : a.eval (.tmp 113) = .string LZ := e113.trans r22
                  obtain ⟨r25, e116⟩ := hE 25 116 (by kernel_rfl) (by kernel_rfl)
                  have v116 : a.eval (.tmp 116) = .string (LZ.extract 0 n) := e116.trans r25
                  clear hE hU
                  exact wp_value_inv (w' := W) (.string (LZ ++ (LZ.extract 0 n))) (op_bin rfl v113 v116 (guard_add W _ _ _ _) (run_add W _ _ (sz_add HLZ.out (sz_cut 0 n HLZ.out) (by decide)))) ⟨_, rfl, hB, Fr.refl _ _, rfl, fun _ _ _ _ _ => trivial⟩
                · simp only [List.getElem?_cons_zero, List.getElem?_cons_succ, Option.some.injEq] at ho
                  subst ho
                  intro a W vs hB hS hE hU
                  obtain ⟨r20, e111⟩ := hE 20 111 (by kernel_rfl) (by kernel_rfl)
                  have v111 : a.eval (.tmp 111) = .bool false := e111.trans r20
                  refine wpG_yes 20 false 111 rfl (by kernel_rfl) (by rw [hS]; simp) v111 ?_
                  obtain ⟨r21, e112⟩ := hE 21 112 (by kernel_rfl) (by kernel_rfl)
                  have v112 : a.eval (.tmp 112) = .agg (pathC (List.replicate 20 0) ⟨#[]⟩) := e112.trans r21
                  obtain ⟨r26, e117⟩ := hE 26 117 (by kernel_rfl) (by kernel_rfl)
                  have v117 : a.eval (.tmp 117) = .string (LZ ++ (LZ.extract 0 n)) := e117.trans r26
                  clear hE hU
                  refine wp_call_inv 3 #[.tmp 112, .tmp 117] #[25, 9] rfl #[.agg (pathC (List.replicate 20 0) ⟨#[]⟩), .string (LZ ++ (LZ.extract 0 n))] (by simp only [List.map_toArray, List.map_cons, List.map_nil, v112, v117]) (tells_enter _) (Post := fun v W' => v = .bool true ∧ Fr (fun _ => False) W W') ((tells_any (List.replicate 20 0) ⟨#[]⟩ (LZ ++ (LZ.extract 0 n)) (by simp) (Nat.le_trans (show (⟨#[]⟩ : ByteArray).size ≤ 0 from Nat.le_refl _) (by decide)) (Nat.le_trans (sz_cat HLZ.out (sz_cut 0 n HLZ.out)) (by decide)) W).mono fun e w' h => ⟨_, h.1, rfl, h.2⟩) ?_
                  rintro v W' ⟨rfl, hf⟩
                  exact ⟨_, rfl, hB.trans hf (fun _ h => h.elim), hf, rfl, fun _ _ _ _ _ => trivial⟩
                · simp only [List.getElem?_cons_zero, List.getElem?_cons_succ, Option.some.injEq] at ho
                  subst ho
                  intro a W vs hB hS hE hU
                  obtain ⟨r20, e111⟩ := hE 20 111 (by kernel_rfl) (by kernel_rfl)
                  have v111 : a.eval (.tmp 111) = .bool false := e111.trans r20
                  refine wpG_yes 20 false 111 rfl (by kernel_rfl) (by rw [hS]; simp) v111 ?_
                  obtain ⟨r27, e118⟩ := hE 27 118 (by kernel_rfl) (by kernel_rfl)
                  have v118 : a.eval (.tmp 118) = .bool true := e118.trans r27
                  clear hE hU
                  exact wp_value_inv (w' := W) (.bool false) (op_unop rfl v118 (by rfl)) ⟨_, rfl, hB, Fr.refl _ _, rfl, fun _ _ _ _ _ => trivial⟩
                · simp only [List.getElem?_cons_zero, List.getElem?_cons_succ, Option.some.injEq] at ho
                  subst ho
                  intro a W vs hB hS hE hU
                  refine wpG_plain rfl ?_
                  obtain ⟨r20, e111⟩ := hE 20 111 (by kernel_rfl) (by kernel_rfl)
                  have v111 : a.eval (.tmp 111) = .bool false := e111.trans r20
                  obtain ⟨r28, e119⟩ := hE 28 119 (by kernel_rfl) (by kernel_rfl)
                  have v119 : a.eval (.tmp 119) = .bool false := e119.trans r28
                  clear hE hU
                  exact wp_value_inv (w' := W) (.bool false) (op_pick rfl v111 (by simp only [Bool.false_eq_true, if_false]; exact v119)) ⟨_, rfl, hB, Fr.refl _ _, rfl, fun _ _ _ _ _ => trivial⟩
              · intro vs W hB hR hD
                have rL : vs 29 = .bool false := hR 29 (by decide)
                have HF3 := Lib.hid (hF.out.trans hB (fun _ h => h.elim))
                clear hR hD hB
                simp only [acts, if_true, dstAt, List.getElem?_cons_zero, List.getElem?_cons_succ, Option.bind_some, Act.put, List.setIfInBounds_toArray, List.set_cons_succ, List.set_cons_zero, List.drop_succ_cons, List.drop_nil]
                rw [rL]
                clear rL
                go_wp2
                go_roundw
                case rel => exact ⟨n + 1, by omega, by go_num, HF3⟩
                case measure => simp [intOf]; omega
            · have hdn : decide ((n : Int) < 26) = false := by rw [decide_eq_false_iff_not]; omega
              go_wp2_with (go_at_call 8; refine (HAW.out _).mono ?_; rintro e w4 ⟨rfl, hf4⟩; have HF4 := Lib.hid (hF.out.trans hf4 (fun _ h => h.elim)); clear hf4)
              go_ret
              exact ⟨rfl, HF4.out⟩
end Go.Proofs.Ytdmlalnekjihfaa
