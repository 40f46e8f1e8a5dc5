/- Laid together: RSorted -/
import Derived.Test.YtfkgdjoaoidkeaaGreatRz5

namespace Go.Proofs.YtfkgdjoaoidkeaaGreat
open Go.RowKit Go.ChangeShapes
set_option linter.unusedVariables false
section
variable {α : Type} {lt : α → α → Bool} {out : List α} {x bb : α} {B : Option α}
theorem next_not (h : aboveL lt out x = false) : nextS lt out B x = B := by simp [nextS, h]
theorem next_first (h : aboveL lt out x = true) : nextS lt out none x = some x := by simp [nextS, h]
theorem next_less (h : aboveL lt out x = true) (h2 : lt x bb = true) : nextS lt out (some bb) x = some x := by simp [nextS, h, h2]
theorem next_more (h2 : lt x bb = false) : nextS lt out (some bb) x = some bb := by simp [nextS, h2]
end
def lenV : Value → Nat
  | .slice _ n _ => n
  | _ => 0
def bestC : Option PathX → Array Value
  | none => pathC (List.replicate 20 0) ⟨#[]⟩
  | some b => pathC b.h b.n
theorem bestC_size (B : Option PathX) : (bestC B).size = 21 := by
  cases B with
  | none => rfl
  | some b => exact pathC_size b.h b.hl b.n
structure InAt (wo wr : World) (gb : Nat) (B : Option PathX) : Prop where
  fr : Fr (fun _ => False) wo wr
  best : wr.heap[gb]? = some (.cells (bestC B) 27 (0, 0))
  new : wo.heap.size ≤ gb
theorem InAt.keep {wo wr w' : World} {gb : Nat} {B : Option PathX} (h : InAt wo wr gb B) (hf : Fr (fun _ => False) wr w') : InAt wo w' gb B := ⟨h.fr.trans hf (fun _ h => h.elim), hf.heap h.best (fun h => h), h.new⟩
theorem InAt.put {wo wr : World} {gb : Nat} {B : Option PathX} (h : InAt wo wr gb B) (x : PathX) : InAt wo (wr.setRow gb (pathC x.h x.n)) gb (some x) :=
  ⟨h.fr.setRow (.inr h.new) _, setRow_heap wr gb _ _ _ (0, 0) h.best, h.new⟩
structure RsAt (w wr : World) (v : Value) (O L : List PathX) : Prop where
  fr : Fr (fun _ => False) w wr
  own : OwnP (fun g => w.heap.size ≤ g) wr v O
  up : Upto lessX L O
theorem RsAt.more {w wo wr w4 : World} {gb : Nat} {v v4 : Value} {O L : List PathX} {b : PathX} {C : Array Value} (h : RsAt w wo v O L) (hi : InAt wo wr gb (some b)) (hnx : some b = nextL lessX L O L.length)
    (ho4 : OwnP (fun k => w.heap.size ≤ k ∨ (wr.alloc (.cells C 27)).heap.size ≤ k) w4 v4 (O ++ [b])) (hg4 : (wr.alloc (.cells C 27)).grownBy w4 v.ownBlock) : RsAt w w4 v4 (O ++ [b]) L := by
  have hf4 : Fr (fun k => v.ownBlock = some k) (wr.alloc (.cells C 27)) w4 := (Fr.refl _ _).grown hg4 (fun k hk => .inl hk)
  have h0 : Fr (fun _ => False) w wr := h.fr.trans hi.fr (fun _ h => h.elim)
  have h1 := h0.size
  refine ⟨(h0.alloc _).trans hf4 (fun i hk => .inr (h.own.2 i hk)), ho4.mono (fun k _ hk => ?_), h.up.next lessX_strict hnx.symm⟩
  rcases hk with hk | hk
  · exact hk
  · simp at hk; omega
def RS8 (b off n cap kx go oo m c2 : Nat) (CX CY : Array Value) (bl : Bool) (i : Nat) (v : Value) (W : World) : Prop :=
  match i with
  | 0 => v = .slice (some ⟨go, oo, none⟩) m c2
  | 1 => v = .int .i64 (m : Int)
  | 2 => v = .bool false
  | 3 => v = .bool false
  | 4 => v = .slice (some ⟨go, oo, none⟩) m c2
  | 5 => v = .slice (some ⟨go, oo, none⟩) m c2
  | 6 => v = .int .i64 (m : Int)
  | 7 => v = .int .i64 ((m - 1 : Nat) : Int)
  | 8 => v = .pointer (some ⟨go, oo + (m - 1) * 21, none⟩)
  | 9 => v = .agg CY
  | 10 => v = .slice (some ⟨b, off, none⟩) n cap
  | 11 => v = .int .i64 (kx : Int)
  | 12 => v = .pointer (some ⟨b, off + kx * 21, none⟩)
  | 13 => v = .agg CX
  | 14 => v = .bool bl
  | 15 => v = .bool bl
  | 16 => v = .bool bl
  | _ => True
theorem RS8.ext (b off n cap kx go oo m c2 : Nat) (CX CY : Array Value) (bl : Bool) : ∀ (j : Nat) (u : Value) (W W' : World), Fr (fun _ => False) W W' → RS8 b off n cap kx go oo m c2 CX CY bl j u W → RS8 b off n cap kx go oo m c2 CX CY bl j u W'
  | 0, u, W, W', hf, h => h
  | 1, u, W, W', hf, h => h
  | 2, u, W, W', hf, h => h
  | 3, u, W, W', hf, h => h
  | 4, u, W, W', hf, h => h
  | 5, u, W, W', hf, h => h
  | 6, u, W, W', hf, h => h
  | 7, u, W, W', hf, h => h
  | 8, u, W, W', hf, h => h
  | 9, u, W, W', hf, h => h
  | 10, u, W, W', hf, h => h
  | 11, u, W, W', hf, h => h
  | 12, u, W, W', hf, h => h
  | 13, u, W, W', hf, h => h
  | 14, u, W, W', hf, h => h
  | 15, u, W, W', hf, h => h
  | 16, u, W, W', hf, h => h
  | _ + 17, u, W, W', hf, h => trivial
def RS9 (b off n cap kx gb : Nat) (CX CB : Array Value) (bl : Bool) (i : Nat) (v : Value) (W : World) : Prop :=
  match i with
  | 0 => v = .bool true
  | 1 => v = .bool true
  | 2 => v = .bool true
  | 3 => v = .bool false
  | 4 => v = .bool false
  | 5 => v = .slice (some ⟨b, off, none⟩) n cap
  | 6 => v = .int .i64 (kx : Int)
  | 7 => v = .pointer (some ⟨b, off + kx * 21, none⟩)
  | 8 => v = .agg CX
  | 9 => v = .agg CB
  | 10 => v = .bool bl
  | 11 => v = .bool bl
  | 12 => v = .bool bl
  | _ => True
theorem RS9.ext (b off n cap kx gb : Nat) (CX CB : Array Value) (bl : Bool) : ∀ (j : Nat) (u : Value) (W W' : World), Fr (fun _ => False) W W' → RS9 b off n cap kx gb CX CB bl j u W → RS9 b off n cap kx gb CX CB bl j u W'
  | 0, u, W, W', hf, h => h
  | 1, u, W, W', hf, h => h
  | 2, u, W, W', hf, h => h
  | 3, u, W, W', hf, h => h
  | 4, u, W, W', hf, h => h
  | 5, u, W, W', hf, h => h
  | 6, u, W, W', hf, h => h
  | 7, u, W, W', hf, h => h
  | 8, u, W, W', hf, h => h
  | 9, u, W, W', hf, h => h
  | 10, u, W, W', hf, h => h
  | 11, u, W, W', hf, h => h
  | 12, u, W, W', hf, h => h
  | _ + 13, u, W, W', hf, h => trivial
set_option maxRecDepth 100000 in
set_option maxHeartbeats 16000000 in
theorem rSorted_any {F : Nat → Prop} (w : World) (v : Value) (L : List PathX) (hv : PathsIn F w v L) (hF : ∀ k, F k → k < w.heap.size) (hlen : L.length ≤ 100000) :
    Calls Tryz.prog 33 #[v] w fun e w' => ∃ u M, e = .returned u ∧ PathsIn (fun k => w.heap.size ≤ k) w' u M ∧ Asc lessX M ∧ (∀ x, x ∈ M ↔ x ∈ L) ∧ Fr (fun _ => False) w w' := by
  obtain ⟨ao, cap, rfl, hlc, hcm, hn0, hrow⟩ := hv
  have HROW := Lib.hid hrow
  unfold maxLen at hcm
  have H0 := Lib.hid (show RsAt w w (.slice none 0 0) [] L from ⟨Fr.refl _ _, OwnP.nil _ _, Upto.nil L⟩)
  clear hn0 hrow hF
  obtain ⟨n, hn⟩ : ∃ n, n = L.length := ⟨_, rfl⟩
  rw [← hn] at hlc ⊢
  have HN := Lib.hid hn
  have hn6 : n ≤ 100000 := by omega
  clear hn hlen
  go_enter Tryz.func33, Tryz.ntmps33
  go_wp2_with fail
  go_loopw [3, 4, 5, 6, 7] (fun ov fv gv iv av wr => ∃ (O : List PathX) (v : Value), ov = v ∧ Hid (RsAt w wr v O L)) (fun ov _ _ _ _ _ => n + 1 - lenV ov)
  case atStart => exact ⟨[], _, rfl, H0⟩
  case round =>
    clear H0
    obtain ⟨O, v, rfl, hR⟩ := hrel
    obtain ⟨a2, c2, hv2, hl2, hc2, _, hrow2⟩ := hR.out.own.paths
    subst hv2
    have HROW2 := Lib.hid hrow2
    have hsh := hR.out.up.short lessX_strict
    obtain ⟨m, hm⟩ : ∃ m, m = O.length := ⟨_, rfl⟩
    rw [← hm] at hl2 hsh hR ⊢
    rw [← HN.out] at hsh
    have HM := Lib.hid hm
    have hm6 : m ≤ 1000000 := by omega
    have hd : decide ((m : Int) ≤ (n : Int)) = true := by rw [decide_eq_true_iff]; omega
    clear hm hrow2 hl2 hc2
    have HI0 := Lib.hid (show InAt wr (wr.alloc (.cells (bestC none) 27)) wr.heap.size none from ⟨(Fr.refl _ _).alloc _, heap_alloc_new wr _, Nat.le_refl _⟩)
    go_wp2_with fail
    rw [show (#[.int .u8 0, .int .u8 0, .int .u8 0, .int .u8 0, .int .u8 0, .int .u8 0, .int .u8 0, .int .u8 0, .int .u8 0, .int .u8 0, .int .u8 0, .int .u8 0, .int .u8 0, .int .u8 0, .int .u8 0, .int .u8 0, .int .u8 0, .int .u8 0, .int .u8 0, .int .u8 0, .string ⟨#[]⟩] : Array Value) = bestC none from rfl]
    generalize wr.alloc (.cells (bestC none) 27) = wb at *
    generalize wr.heap.size = gb at *
    generalize wr = wo at *
    go_loopw [4, 6, 7] (fun fv iv av wi => ∃ (i : Nat) (B : Option PathX) (f : Bool), i ≤ n ∧ fv = .bool f ∧ iv = .int .i64 i ∧ f = B.isSome ∧ Hid (B = nextL lessX L O i) ∧ Hid (InAt wo wi gb B)) (fun _ iv _ _ => n - (intOf iv).toNat)
    case atStart => exact ⟨0, none, false, by omega, rfl, rfl, rfl, Lib.hid (nextL_zero _ _ _).symm, HI0⟩
    case round =>
      clear HI0
      obtain ⟨kx, B, f, hi, rfl, rfl, hf, hB, HI⟩ := hrel
      by_cases hlt : kx < n
      · have hil : kx < L.length := by rw [← HN.out]; exact hlt
        obtain ⟨x, hx⟩ : ∃ x, x = L[kx] := ⟨_, rfl⟩
        obtain ⟨b, off, rfl, hbF, hrg⟩ := HROW.out (by rintro rfl; simp at hil)
        have hr0 := hrg kx hil
        rw [← hx] at hr0
        have hr0 := (hR.out.fr.trans HI.out.fr (fun _ h => h.elim)).range hr0 (fun h => h)
        have hst := nextL_succ lessX L O kx hil
        rw [← hx, ← hB.out] at hst
        have HST := Lib.hid hst
        obtain ⟨CX, hCX⟩ : ∃ C, C = pathC x.h x.n := ⟨_, rfl⟩
        have hrx := hr0
        obtain ⟨Cl, hCl⟩ : ∃ C, C = cellsX x := ⟨_, rfl⟩
        rw [← hCl] at hr0
        have HRX := Lib.hid hrx
        have HCX := Lib.hid hCX
        have HCC := Lib.hid (show Cl.toArray = CX by rw [hCl, hCX]; rfl)
        have hll : Cl.length = 21 := by rw [hCl, cellsX_length]
        have hcs : CX.size = 21 := by rw [hCX, pathC_size x.h x.hl]
        have HCS := Lib.hid hcs
        have hiC : (Tryz.prog.info? 27).map (·.size) = some CX.size := by rw [hcs]; kernel_rfl
        have hiL : (Tryz.prog.info? 27).map (·.size) = some Cl.length := by rw [hll]; kernel_rfl
        have hoC : CX.all (·.oneCell') = true := by rw [hCX]; exact pathC_one x.h x.n
        have hkn : (kx : Int) < (n : Int) := by omega
        have hk0 : (0 : Int) ≤ (kx : Int) := by omega
        have hd : decide ((kx : Int) < (n : Int)) = true := by rw [decide_eq_true_iff]; exact hkn
        have HIN := Lib.hid hlt
        clear hx hil hbF hrg hst hCX hll hcs hB hrx
        by_cases hm0 : m = 0
        · subst hm0
          have hO0 : O = [] := List.eq_nil_of_length_eq_zero HM.out.symm
          have ABOVE := Lib.hid (show aboveL lessX O x = true by rw [hO0]; rfl)
          have HFW := Lib.hid (Fr.refl (fun _ => False) wr)
          clear hO0
          go_wp2_with fail
          go_quiet (fail)
          generalize hWq : World.drewN wr nq = Wa at *
          have HFW := Lib.hid (show Fr (fun _ => False) wr Wa by rw [← hWq]; exact HFW.out.drewN nq)
          clear hWq
          cases B with
          | none =>
            obtain rfl : f = false := hf
            have hsC : (bestC none : Array Value).size = CX.size := Eq.trans (b := 21) (bestC_size _) HCS.out.symm
            go_wp2_with fail
            go_quiet (fail)
            generalize hWq : World.drewN Wa nq = W2 at *
            have HFW := Lib.hid (show Fr (fun _ => False) wr W2 by rw [← hWq]; exact HFW.out.drewN nq)
            clear hWq
            have HN := Lib.hid (HI.out.keep HFW.out)
            have HNX := Lib.hid (HST.out.trans (next_first ABOVE.out))
            have hbest := HN.out.best
            have hr := HFW.out.range hr0 (fun h => h)
            go_wp2_with (first
              | (with_reducible refine wpList_load_mid rfl 27 (.tmp 50) rfl b (off + kx * 21) rfl Cl _ hr Tryz.underlying27 rfl hiL ?_; rw [HCC.out])
              | (with_reducible refine wpList_store_row rfl 27 (.tmp 5) (.tmp 51) rfl gb CX (bestC none) 27 rfl rfl hbest hiC hsC hoC ?_; (have HP := Lib.hid (HN.out.put x)); (rw [← HCX.out] at HP); generalize World.setRow _ gb CX = W1 at *))
            refine ⟨?_, ?measure⟩
            repeat apply Exists.intro
            refine ⟨?rel, rfl⟩
            case rel => exact ⟨kx + 1, some x, true, by omega, rfl, by go_num, rfl, Lib.hid HNX.out.symm, HP⟩
            case measure => simp [intOf]; omega
          | some bb =>
            obtain rfl : f = true := hf
            obtain ⟨CB, hCB⟩ : ∃ C, C = pathC bb.h bb.n := ⟨_, rfl⟩
            have hsC : (bestC (some bb) : Array Value).size = CX.size := Eq.trans (b := 21) (bestC_size _) HCS.out.symm
            have LDB := Lib.hid (fun W (hW : Fr (fun _ => False) Wa W) => show (Instr.loadAt 27 (.pointer (some ⟨gb, 0, none⟩))).run Tryz.prog W = .ok (.agg CB) W by rw [hCB]; exact load_path W gb bb.h bb.n ((HI.out.keep (HFW.out.trans hW (fun _ (h : False) => h.elim))).best) bb.hl)
            have LDX := Lib.hid (fun W (hW : Fr (fun _ => False) Wa W) => show (Instr.loadAt 27 (.pointer (some ⟨b, off + kx * 21, none⟩))).run Tryz.prog W = .ok (.agg CX) W by rw [HCX.out]; exact load_mid_path W b _ x (hW.range (HFW.out.range HRX.out (fun h => h)) (fun h => h)))
            cases hbl2 : lessX x bb with
            | true =>
              have HLS := Lib.hid (fun W => show Calls Tryz.prog 45 #[.agg CX, .agg CB] W fun e w' => e = .returned (.bool true) ∧ Fr (fun _ => False) W w' from by
                have h := rLessX_any x bb W
                rw [hbl2, ← HCX.out, ← hCB] at h
                exact h)
              have HBL2 := Lib.hid hbl2
              clear hbl2 hCB
              go_wp2_with fail
              refine wp_region_inv 13 (by kernel_rfl) (by kernel_rfl) (fun W => Fr (fun _ => False) Wa W) (RS9 b off n cap kx gb CX CB true) (fun _ _ _ _ => True) (Fr (fun _ => False)) (RS9.ext b off n cap kx gb CX CB true) (Fr.refl _ _).drew ?_ ?_
              · intro i hi o ho
                replace hi : i < 13 := hi
                obtain rfl | rfl | rfl | rfl | rfl | rfl | rfl | rfl | rfl | rfl | rfl | rfl | rfl : i = 0 ∨ i = 1 ∨ i = 2 ∨ i = 3 ∨ i = 4 ∨ i = 5 ∨ i = 6 ∨ i = 7 ∨ i = 8 ∨ i = 9 ∨ i = 10 ∨ i = 11 ∨ i = 12 := by omega
                · simp only [List.getElem?_cons_zero, Option.some.injEq] at ho
                  subst ho
                  intro a W vs hB hS hE hU
                  refine wpG_plain rfl ?_
                  have v7 : a.eval (.tmp 7) = .bool true := (hU 7 (by kernel_rfl)).trans rfl
                  clear hE hU
                  exact wp_value_inv (w' := W) (.bool true) (op_move rfl v7) ⟨_, rfl, hB, Fr.refl _ _, rfl, fun _ _ _ _ _ => trivial⟩
                · simp only [List.getElem?_cons_zero, List.getElem?_cons_succ, Option.some.injEq] at ho
                  subst ho
                  intro a W vs hB hS hE hU
                  refine wpG_plain rfl ?_
                  obtain ⟨r0, e35⟩ := hE 0 35 (by kernel_rfl) (by kernel_rfl)
                  have v35 : a.eval (.tmp 35) = .bool true := e35.trans r0
                  clear hE hU
                  exact wp_value_inv (w' := W) (.bool true) (op_move rfl v35) ⟨_, rfl, hB, Fr.refl _ _, rfl, fun _ _ _ _ _ => trivial⟩
                · simp only [List.getElem?_cons_zero, List.getElem?_cons_succ, Option.some.injEq] at ho
                  subst ho
                  intro a W vs hB hS hE hU
                  obtain ⟨r1, e36⟩ := hE 1 36 (by kernel_rfl) (by kernel_rfl)
                  have v36 : a.eval (.tmp 36) = .bool true := e36.trans r1
                  refine wpG_yes 1 true 36 rfl (by kernel_rfl) (by rw [hS]; simp) v36 ?_
                  have v4 : a.eval (.tmp 4) = .bool true := (hU 4 (by kernel_rfl)).trans rfl
                  clear hE hU
                  exact wp_value_inv (w' := W) (.bool true) (op_move rfl v4) ⟨_, rfl, hB, Fr.refl _ _, rfl, fun _ _ _ _ _ => trivial⟩
                · simp only [List.getElem?_cons_zero, List.getElem?_cons_succ, Option.some.injEq] at ho
                  subst ho
                  intro a W vs hB hS hE hU
                  obtain ⟨r1, e36⟩ := hE 1 36 (by kernel_rfl) (by kernel_rfl)
                  have v36 : a.eval (.tmp 36) = .bool true := e36.trans r1
                  refine wpG_yes 1 true 36 rfl (by kernel_rfl) (by rw [hS]; simp) v36 ?_
                  obtain ⟨r2, e37⟩ := hE 2 37 (by kernel_rfl) (by kernel_rfl)
                  have v37 : a.eval (.tmp 37) = .bool true := e37.trans r2
                  clear hE hU
                  exact wp_value_inv (w' := W) (.bool false) (op_unop rfl v37 (by rfl)) ⟨_, rfl, hB, Fr.refl _ _, rfl, fun _ _ _ _ _ => trivial⟩
                · simp only [List.getElem?_cons_zero, List.getElem?_cons_succ, Option.some.injEq] at ho
                  subst ho
                  intro a W vs hB hS hE hU
                  obtain ⟨r1, e36⟩ := hE 1 36 (by kernel_rfl) (by kernel_rfl)
                  have v36 : a.eval (.tmp 36) = .bool true := e36.trans r1
                  refine wpG_yes 1 true 36 rfl (by kernel_rfl) (by rw [hS]; simp) v36 ?_
                  obtain ⟨r3, e38⟩ := hE 3 38 (by kernel_rfl) (by kernel_rfl)
                  have v38 : a.eval (.tmp 38) = .bool false := e38.trans r3
                  clear hE hU
                  exact wp_value_inv (w' := W) (.bool false) (op_move rfl v38) ⟨_, rfl, hB, Fr.refl _ _, rfl, fun _ _ _ _ _ => trivial⟩
                · simp only [List.getElem?_cons_zero, List.getElem?_cons_succ, Option.some.injEq] at ho
                  subst ho
                  intro a W vs hB hS hE hU
                  obtain ⟨r4, e39⟩ := hE 4 39 (by kernel_rfl) (by kernel_rfl)
                  have v39 : a.eval (.tmp 39) = .bool false := e39.trans r4
                  refine wpG_yes 4 false 39 rfl (by kernel_rfl) (by rw [hS]; simp) v39 ?_
                  have v0 : a.eval (.tmp 0) = .slice (some ⟨b, off, none⟩) n cap := (hU 0 (by kernel_rfl)).trans rfl
                  clear hE hU
                  exact wp_value_inv (w' := W) (.slice (some ⟨b, off, none⟩) n cap) (op_move rfl v0) ⟨_, rfl, hB, Fr.refl _ _, rfl, fun _ _ _ _ _ => trivial⟩
                · simp only [List.getElem?_cons_zero, List.getElem?_cons_succ, Option.some.injEq] at ho
                  subst ho
                  intro a W vs hB hS hE hU
                  obtain ⟨r4, e39⟩ := hE 4 39 (by kernel_rfl) (by kernel_rfl)
                  have v39 : a.eval (.tmp 39) = .bool false := e39.trans r4
                  refine wpG_yes 4 false 39 rfl (by kernel_rfl) (by rw [hS]; simp) v39 ?_
                  have v6 : a.eval (.tmp 6) = .int .i64 (kx : Int) := (hU 6 (by kernel_rfl)).trans rfl
                  clear hE hU
                  exact wp_value_inv (w' := W) (.int .i64 (kx : Int)) (op_move rfl v6) ⟨_, rfl, hB, Fr.refl _ _, rfl, fun _ _ _ _ _ => trivial⟩
                · simp only [List.getElem?_cons_zero, List.getElem?_cons_succ, Option.some.injEq] at ho
                  subst ho
                  intro a W vs hB hS hE hU
                  obtain ⟨r4, e39⟩ := hE 4 39 (by kernel_rfl) (by kernel_rfl)
                  have v39 : a.eval (.tmp 39) = .bool false := e39.trans r4
                  refine wpG_yes 4 false 39 rfl (by kernel_rfl) (by rw [hS]; simp) v39 ?_
                  obtain ⟨r5, e40⟩ := hE 5 40 (by kernel_rfl) (by kernel_rfl)
                  have v40 : a.eval (.tmp 40) = .slice (some ⟨b, off, none⟩) n cap := e40.trans r5
                  obtain ⟨r6, e41⟩ := hE 6 41 (by kernel_rfl) (by kernel_rfl)
                  have v41 : a.eval (.tmp 41) = .int .i64 (kx : Int) := e41.trans r6
                  clear hE hU
                  exact wp_value_inv (w' := W) (.pointer (some ⟨b, off + kx * 21, none⟩)) (op_indexAddr rfl v40 v41 (run_index_paths W b off n cap kx HIN.out)) ⟨_, rfl, hB, Fr.refl _ _, rfl, fun _ _ _ _ _ => trivial⟩
                · simp only [List.getElem?_cons_zero, List.getElem?_cons_succ, Option.some.injEq] at ho
                  subst ho
                  intro a W vs hB hS hE hU
                  obtain ⟨r4, e39⟩ := hE 4 39 (by kernel_rfl) (by kernel_rfl)
                  have v39 : a.eval (.tmp 39) = .bool false := e39.trans r4
                  refine wpG_yes 4 false 39 rfl (by kernel_rfl) (by rw [hS]; simp) v39 ?_
                  obtain ⟨r7, e42⟩ := hE 7 42 (by kernel_rfl) (by kernel_rfl)
                  have v42 : a.eval (.tmp 42) = .pointer (some ⟨b, off + kx * 21, none⟩) := e42.trans r7
                  clear hE hU
                  exact wp_value_inv (w' := W) (.agg CX) (op_loadAt rfl v42 (LDX.out W hB)) ⟨_, rfl, hB, Fr.refl _ _, rfl, fun _ _ _ _ _ => trivial⟩
                · simp only [List.getElem?_cons_zero, List.getElem?_cons_succ, Option.some.injEq] at ho
                  subst ho
                  intro a W vs hB hS hE hU
                  obtain ⟨r4, e39⟩ := hE 4 39 (by kernel_rfl) (by kernel_rfl)
                  have v39 : a.eval (.tmp 39) = .bool false := e39.trans r4
                  refine wpG_yes 4 false 39 rfl (by kernel_rfl) (by rw [hS]; simp) v39 ?_
                  have v5 : a.eval (.tmp 5) = .pointer (some ⟨gb, 0, none⟩) := (hU 5 (by kernel_rfl)).trans rfl
                  clear hE hU
                  exact wp_value_inv (w' := W) (.agg CB) (op_loadAt rfl v5 (LDB.out W hB)) ⟨_, rfl, hB, Fr.refl _ _, rfl, fun _ _ _ _ _ => trivial⟩
                · simp only [List.getElem?_cons_zero, List.getElem?_cons_succ, Option.some.injEq] at ho
                  subst ho
                  intro a W vs hB hS hE hU
                  obtain ⟨r4, e39⟩ := hE 4 39 (by kernel_rfl) (by kernel_rfl)
                  have v39 : a.eval (.tmp 39) = .bool false := e39.trans r4
                  refine wpG_yes 4 false 39 rfl (by kernel_rfl) (by rw [hS]; simp) v39 ?_
                  obtain ⟨r8, e43⟩ := hE 8 43 (by kernel_rfl) (by kernel_rfl)
                  have v43 : a.eval (.tmp 43) = .agg CX := e43.trans r8
                  obtain ⟨r9, e44⟩ := hE 9 44 (by kernel_rfl) (by kernel_rfl)
                  have v44 : a.eval (.tmp 44) = .agg CB := e44.trans r9
                  clear hE hU
                  refine wp_call_inv 45 #[.tmp 43, .tmp 44] #[27, 27] rfl #[.agg CX, .agg CB] (by simp only [List.map_toArray, List.map_cons, List.map_nil, v43, v44]) (rLess_enter _) (Post := fun v W' => v = .bool true ∧ Fr (fun _ => False) W W') ((HLS.out W).mono fun e w' h => ⟨_, h.1, rfl, h.2⟩) ?_
                  rintro v W' ⟨rfl, hf⟩
                  exact ⟨_, rfl, hB.trans hf (fun _ h => h.elim), hf, rfl, fun _ _ _ _ _ => trivial⟩
                · simp only [List.getElem?_cons_zero, List.getElem?_cons_succ, Option.some.injEq] at ho
                  subst ho
                  intro a W vs hB hS hE hU
                  obtain ⟨r1, e36⟩ := hE 1 36 (by kernel_rfl) (by kernel_rfl)
                  have v36 : a.eval (.tmp 36) = .bool true := e36.trans r1
                  refine wpG_yes 1 true 36 rfl (by kernel_rfl) (by rw [hS]; simp) v36 ?_
                  obtain ⟨r4, e39⟩ := hE 4 39 (by kernel_rfl) (by kernel_rfl)
                  have v39 : a.eval (.tmp 39) = .bool false := e39.trans r4
                  obtain ⟨r10, e45⟩ := hE 10 45 (by kernel_rfl) (by kernel_rfl)
                  have v45 : a.eval (.tmp 45) = .bool true := e45.trans r10
                  clear hE hU
                  exact wp_value_inv (w' := W) (.bool true) (op_pick rfl v39 (by simp only [Bool.false_eq_true, if_false]; exact v45)) ⟨_, rfl, hB, Fr.refl _ _, rfl, fun _ _ _ _ _ => trivial⟩
                · simp only [List.getElem?_cons_zero, List.getElem?_cons_succ, Option.some.injEq] at ho
                  subst ho
                  intro a W vs hB hS hE hU
                  refine wpG_plain rfl ?_
                  obtain ⟨r1, e36⟩ := hE 1 36 (by kernel_rfl) (by kernel_rfl)
                  have v36 : a.eval (.tmp 36) = .bool true := e36.trans r1
                  obtain ⟨r11, e46⟩ := hE 11 46 (by kernel_rfl) (by kernel_rfl)
                  have v46 : a.eval (.tmp 46) = .bool true := e46.trans r11
                  clear hE hU
                  exact wp_value_inv (w' := W) (.bool true) (op_pick rfl v36 (by simp only [if_true]; exact v46)) ⟨_, rfl, hB, Fr.refl _ _, rfl, fun _ _ _ _ _ => trivial⟩
              · intro vs Wb hB hR0 hD
                have rL : vs 12 = .bool true := hR0 12 (by decide)
                have HB := Lib.hid hB
                clear hR0 hD hB
                simp only [acts, if_true, dstAt, List.getElem?_cons_zero, List.getElem?_cons_succ, Option.bind_some, Act.put, List.setIfInBounds_toArray, List.set_cons_succ, List.set_cons_zero, List.drop_succ_cons, List.drop_nil]
                simp only [rL]
                clear rL
                have HFW := Lib.hid (HFW.out.trans HB.out (fun _ h => h.elim))
                have HN := Lib.hid (HI.out.keep HFW.out)
                have HNX := Lib.hid (HST.out.trans (next_less ABOVE.out HBL2.out))
                have hbest := HN.out.best
                have hr := HFW.out.range hr0 (fun h => h)
                go_wp2_with (first
                  | (with_reducible refine wpList_load_mid rfl 27 (.tmp 50) rfl b (off + kx * 21) rfl Cl _ hr Tryz.underlying27 rfl hiL ?_; rw [HCC.out])
                  | (with_reducible refine wpList_store_row rfl 27 (.tmp 5) (.tmp 51) rfl gb CX (bestC (some bb)) 27 rfl rfl hbest hiC hsC hoC ?_; (have HP := Lib.hid (HN.out.put x)); (rw [← HCX.out] at HP); generalize World.setRow _ gb CX = W1 at *))
                refine ⟨?_, ?measure⟩
                repeat apply Exists.intro
                refine ⟨?rel, rfl⟩
                case rel => exact ⟨kx + 1, some x, true, by omega, rfl, by go_num, rfl, Lib.hid HNX.out.symm, HP⟩
                case measure => simp [intOf]; omega
            | false =>
              have HLS := Lib.hid (fun W => show Calls Tryz.prog 45 #[.agg CX, .agg CB] W fun e w' => e = .returned (.bool false) ∧ Fr (fun _ => False) W w' from by
                have h := rLessX_any x bb W
                rw [hbl2, ← HCX.out, ← hCB] at h
                exact h)
              have HBL2 := Lib.hid hbl2
              clear hbl2 hCB
              go_wp2_with fail
              refine wp_region_inv 13 (by kernel_rfl) (by kernel_rfl) (fun W => Fr (fun _ => False) Wa W) (RS9 b off n cap kx gb CX CB false) (fun _ _ _ _ => True) (Fr (fun _ => False)) (RS9.ext b off n cap kx gb CX CB false) (Fr.refl _ _).drew ?_ ?_
              · intro i hi o ho
                replace hi : i < 13 := hi
                obtain rfl | rfl | rfl | rfl | rfl | rfl | rfl | rfl | rfl | rfl | rfl | rfl | rfl : i = 0 ∨ i = 1 ∨ i = 2 ∨ i = 3 ∨ i = 4 ∨ i = 5 ∨ i = 6 ∨ i = 7 ∨ i = 8 ∨ i = 9 ∨ i = 10 ∨ i = 11 ∨ i = 12 := by omega
                · simp only [List.getElem?_cons_zero, Option.some.injEq] at ho
                  subst ho
                  intro a W vs hB hS hE hU
                  refine wpG_plain rfl ?_
                  have v7 : a.eval (.tmp 7) = .bool true := (hU 7 (by kernel_rfl)).trans rfl
                  clear hE hU
                  exact wp_value_inv (w' := W) (.bool true) (op_move rfl v7) ⟨_, rfl, hB, Fr.refl _ _, rfl, fun _ _ _ _ _ => trivial⟩
                · simp only [List.getElem?_cons_zero, List.getElem?_cons_succ, Option.some.injEq] at ho
                  subst ho
                  intro a W vs hB hS hE hU
                  refine wpG_plain rfl ?_
                  obtain ⟨r0, e35⟩ := hE 0 35 (by kernel_rfl) (by kernel_rfl)
                  have v35 : a.eval (.tmp 35) = .bool true := e35.trans r0
                  clear hE hU
                  exact wp_value_inv (w' := W) (.bool true) (op_move rfl v35) ⟨_, rfl, hB, Fr.refl _ _, rfl, fun _ _ _ _ _ => trivial⟩
                · simp only [List.getElem?_cons_zero, List.getElem?_cons_succ, Option.some.injEq] at ho
                  subst ho
                  intro a W vs hB hS hE hU
                  obtain ⟨r1, e36⟩ := hE 1 36 (by kernel_rfl) (by kernel_rfl)
                  have v36 : a.eval (.tmp 36) = .bool true := e36.trans r1
                  refine wpG_yes 1 true 36 rfl (by kernel_rfl) (by rw [hS]; simp) v36 ?_
                  have v4 : a.eval (.tmp 4) = .bool true := (hU 4 (by kernel_rfl)).trans rfl
                  clear hE hU
                  exact wp_value_inv (w' := W) (.bool true) (op_move rfl v4) ⟨_, rfl, hB, Fr.refl _ _, rfl, fun _ _ _ _ _ => trivial⟩
                · simp only [List.getElem?_cons_zero, List.getElem?_cons_succ, Option.some.injEq] at ho
                  subst ho
                  intro a W vs hB hS hE hU
                  obtain ⟨r1, e36⟩ := hE 1 36 (by kernel_rfl) (by kernel_rfl)
                  have v36 : a.eval (.tmp 36) = .bool true := e36.trans r1
                  refine wpG_yes 1 true 36 rfl (by kernel_rfl) (by rw [hS]; simp) v36 ?_
                  obtain ⟨r2, e37⟩ := hE 2 37 (by kernel_rfl) (by kernel_rfl)
                  have v37 : a.eval (.tmp 37) = .bool true := e37.trans r2
                  clear hE hU
                  exact wp_value_inv (w' := W) (.bool false) (op_unop rfl v37 (by rfl)) ⟨_, rfl, hB, Fr.refl _ _, rfl, fun _ _ _ _ _ => trivial⟩
                · simp only [List.getElem?_cons_zero, List.getElem?_cons_succ, Option.some.injEq] at ho
                  subst ho
                  intro a W vs hB hS hE hU
                  obtain ⟨r1, e36⟩ := hE 1 36 (by kernel_rfl) (by kernel_rfl)
                  have v36 : a.eval (.tmp 36) = .bool true := e36.trans r1
                  refine wpG_yes 1 true 36 rfl (by kernel_rfl) (by rw [hS]; simp) v36 ?_
                  obtain ⟨r3, e38⟩ := hE 3 38 (by kernel_rfl) (by kernel_rfl)
                  have v38 : a.eval (.tmp 38) = .bool false := e38.trans r3
                  clear hE hU
                  exact wp_value_inv (w' := W) (.bool false) (op_move rfl v38) ⟨_, rfl, hB, Fr.refl _ _, rfl, fun _ _ _ _ _ => trivial⟩
                · simp only [List.getElem?_cons_zero, List.getElem?_cons_succ, Option.some.injEq] at ho
                  subst ho
                  intro a W vs hB hS hE hU
                  obtain ⟨r4, e39⟩ := hE 4 39 (by kernel_rfl) (by kernel_rfl)
                  have v39 : a.eval (.tmp 39) = .bool false := e39.trans r4
                  refine wpG_yes 4 false 39 rfl (by kernel_rfl) (by rw [hS]; simp) v39 ?_
                  have v0 : a.eval (.tmp 0) = .slice (some ⟨b, off, none⟩) n cap := (hU 0 (by kernel_rfl)).trans rfl
                  clear hE hU
                  exact wp_value_inv (w' := W) (.slice (some ⟨b, off, none⟩) n cap) (op_move rfl v0) ⟨_, rfl, hB, Fr.refl _ _, rfl, fun _ _ _ _ _ => trivial⟩
                · simp only [List.getElem?_cons_zero, List.getElem?_cons_succ, Option.some.injEq] at ho
                  subst ho
                  intro a W vs hB hS hE hU
                  obtain ⟨r4, e39⟩ := hE 4 39 (by kernel_rfl) (by kernel_rfl)
                  have v39 : a.eval (.tmp 39) = .bool false := e39.trans r4
                  refine wpG_yes 4 false 39 rfl (by kernel_rfl) (by rw [hS]; simp) v39 ?_
                  have v6 : a.eval (.tmp 6) = .int .i64 (kx : Int) := (hU 6 (by kernel_rfl)).trans rfl
                  clear hE hU
                  exact wp_value_inv (w' := W) (.int .i64 (kx : Int)) (op_move rfl v6) ⟨_, rfl, hB, Fr.refl _ _, rfl, fun _ _ _ _ _ => trivial⟩
                · simp only [List.getElem?_cons_zero, List.getElem?_cons_succ, Option.some.injEq] at ho
                  subst ho
                  intro a W vs hB hS hE hU
                  obtain ⟨r4, e39⟩ := hE 4 39 (by kernel_rfl) (by kernel_rfl)
                  have v39 : a.eval (.tmp 39) = .bool false := e39.trans r4
                  refine wpG_yes 4 false 39 rfl (by kernel_rfl) (by rw [hS]; simp) v39 ?_
                  obtain ⟨r5, e40⟩ := hE 5 40 (by kernel_rfl) (by kernel_rfl)
                  have v40 : a.eval (.tmp 40) = .slice (some ⟨b, off, none⟩) n cap := e40.trans r5
                  obtain ⟨r6, e41⟩ := hE 6 41 (by kernel_rfl) (by kernel_rfl)
                  have v41 : a.eval (.tmp 41) = .int .i64 (kx : Int) := e41.trans r6
                  clear hE hU
                  exact wp_value_inv (w' := W) (.pointer (some ⟨b, off + kx * 21, none⟩)) (op_indexAddr rfl v40 v41 (run_index_paths W b off n cap kx HIN.out)) ⟨_, rfl, hB, Fr.refl _ _, rfl, fun _ _ _ _ _ => trivial⟩
                · simp only [List.getElem?_cons_zero, List.getElem?_cons_succ, Option.some.injEq] at ho
                  subst ho
                  intro a W vs hB hS hE hU
                  obtain ⟨r4, e39⟩ := hE 4 39 (by kernel_rfl) (by kernel_rfl)
                  have v39 : a.eval (.tmp 39) = .bool false := e39.trans r4
                  refine wpG_yes 4 false 39 rfl (by kernel_rfl) (by rw [hS]; simp) v39 ?_
                  obtain ⟨r7, e42⟩ := hE 7 42 (by kernel_rfl) (by kernel_rfl)
                  have v42 : a.eval (.tmp 42) = .pointer (some ⟨b, off + kx * 21, none⟩) := e42.trans r7
                  clear hE hU
                  exact wp_value_inv (w' := W) (.agg CX) (op_loadAt rfl v42 (LDX.out W hB)) ⟨_, rfl, hB, Fr.refl _ _, rfl, fun _ _ _ _ _ => trivial⟩
                · simp only [List.getElem?_cons_zero, List.getElem?_cons_succ, Option.some.injEq] at ho
                  subst ho
                  intro a W vs hB hS hE hU
                  obtain ⟨r4, e39⟩ := hE 4 39 (by kernel_rfl) (by kernel_rfl)
                  have v39 : a.eval (.tmp 39) = .bool false := e39.trans r4
                  refine wpG_yes 4 false 39 rfl (by kernel_rfl) (by rw [hS]; simp) v39 ?_
                  have v5 : a.eval (.tmp 5) = .pointer (some ⟨gb, 0, none⟩) := (hU 5 (by kernel_rfl)).trans rfl
                  clear hE hU
                  exact wp_value_inv (w' := W) (.agg CB) (op_loadAt rfl v5 (LDB.out W hB)) ⟨_, rfl, hB, Fr.refl _ _, rfl, fun _ _ _ _ _ => trivial⟩
                · simp only [List.getElem?_cons_zero, List.getElem?_cons_succ, Option.some.injEq] at ho
                  subst ho
                  intro a W vs hB hS hE hU
                  obtain ⟨r4, e39⟩ := hE 4 39 (by kernel_rfl) (by kernel_rfl)
                  have v39 : a.eval (.tmp 39) = .bool false := e39.trans r4
                  refine wpG_yes 4 false 39 rfl (by kernel_rfl) (by rw [hS]; simp) v39 ?_
                  obtain ⟨r8, e43⟩ := hE 8 43 (by kernel_rfl) (by kernel_rfl)
                  have v43 : a.eval (.tmp 43) = .agg CX := e43.trans r8
                  obtain ⟨r9, e44⟩ := hE 9 44 (by kernel_rfl) (by kernel_rfl)
                  have v44 : a.eval (.tmp 44) = .agg CB := e44.trans r9
                  clear hE hU
                  refine wp_call_inv 45 #[.tmp 43, .tmp 44] #[27, 27] rfl #[.agg CX, .agg CB] (by simp only [List.map_toArray, List.map_cons, List.map_nil, v43, v44]) (rLess_enter _) (Post := fun v W' => v = .bool false ∧ Fr (fun _ => False) W W') ((HLS.out W).mono fun e w' h => ⟨_, h.1, rfl, h.2⟩) ?_
                  rintro v W' ⟨rfl, hf⟩
                  exact ⟨_, rfl, hB.trans hf (fun _ h => h.elim), hf, rfl, fun _ _ _ _ _ => trivial⟩
                · simp only [List.getElem?_cons_zero, List.getElem?_cons_succ, Option.some.injEq] at ho
                  subst ho
                  intro a W vs hB hS hE hU
                  obtain ⟨r1, e36⟩ := hE 1 36 (by kernel_rfl) (by kernel_rfl)
                  have v36 : a.eval (.tmp 36) = .bool true := e36.trans r1
                  refine wpG_yes 1 true 36 rfl (by kernel_rfl) (by rw [hS]; simp) v36 ?_
                  obtain ⟨r4, e39⟩ := hE 4 39 (by kernel_rfl) (by kernel_rfl)
                  have v39 : a.eval (.tmp 39) = .bool false := e39.trans r4
                  obtain ⟨r10, e45⟩ := hE 10 45 (by kernel_rfl) (by kernel_rfl)
                  have v45 : a.eval (.tmp 45) = .bool false := e45.trans r10
                  clear hE hU
                  exact wp_value_inv (w' := W) (.bool false) (op_pick rfl v39 (by simp only [Bool.false_eq_true, if_false]; exact v45)) ⟨_, rfl, hB, Fr.refl _ _, rfl, fun _ _ _ _ _ => trivial⟩
                · simp only [List.getElem?_cons_zero, List.getElem?_cons_succ, Option.some.injEq] at ho
                  subst ho
                  intro a W vs hB hS hE hU
                  refine wpG_plain rfl ?_
                  obtain ⟨r1, e36⟩ := hE 1 36 (by kernel_rfl) (by kernel_rfl)
                  have v36 : a.eval (.tmp 36) = .bool true := e36.trans r1
                  obtain ⟨r11, e46⟩ := hE 11 46 (by kernel_rfl) (by kernel_rfl)
                  have v46 : a.eval (.tmp 46) = .bool false := e46.trans r11
                  clear hE hU
                  exact wp_value_inv (w' := W) (.bool false) (op_pick rfl v36 (by simp only [if_true]; exact v46)) ⟨_, rfl, hB, Fr.refl _ _, rfl, fun _ _ _ _ _ => trivial⟩
              · intro vs Wb hB hR0 hD
                have rL : vs 12 = .bool false := hR0 12 (by decide)
                have HB := Lib.hid hB
                clear hR0 hD hB
                simp only [acts, if_true, dstAt, List.getElem?_cons_zero, List.getElem?_cons_succ, Option.bind_some, Act.put, List.setIfInBounds_toArray, List.set_cons_succ, List.set_cons_zero, List.drop_succ_cons, List.drop_nil]
                simp only [rL]
                clear rL
                have HFW := Lib.hid (HFW.out.trans HB.out (fun _ h => h.elim))
                have HN := Lib.hid (HI.out.keep HFW.out)
                have HNX := Lib.hid (HST.out.trans (next_more HBL2.out))
                go_wp2
                go_roundw
                case rel => exact ⟨kx + 1, some bb, true, by omega, rfl, by go_num, rfl, Lib.hid HNX.out.symm, HN⟩
                case measure => simp [intOf]; omega
        · have hmp : 0 < m := by omega
          have hO0 : O ≠ [] := by rintro rfl; have := HM.out; simp at this; omega
          obtain ⟨go, oo, rfl, hgoF, hrgo⟩ := HROW2.out hO0
          obtain ⟨y, hy⟩ : ∃ y, y = O[m - 1]'(by rw [← HM.out]; omega) := ⟨_, rfl⟩
          have hyl : O.getLast? = some y := by rw [List.getLast?_eq_getElem?, ← HM.out, hy]; exact List.getElem?_eq_getElem _
          have hry := hrgo (m - 1) (by rw [← HM.out]; omega)
          rw [← hy] at hry
          obtain ⟨CY, hCY⟩ : ∃ C, C = pathC y.h y.n := ⟨_, rfl⟩
          have LDY := Lib.hid (fun W (hW : Fr (fun _ => False) wr W) => show (Instr.loadAt 27 (.pointer (some ⟨go, oo + (m - 1) * 21, none⟩))).run Tryz.prog W = .ok (.agg CY) W by rw [hCY]; exact load_mid_path W go _ y (hW.range (HI.out.fr.range hry (fun h => h)) (fun h => h)))
          have LDX := Lib.hid (fun W (hW : Fr (fun _ => False) wr W) => show (Instr.loadAt 27 (.pointer (some ⟨b, off + kx * 21, none⟩))).run Tryz.prog W = .ok (.agg CX) W by rw [HCX.out]; exact load_mid_path W b _ x (hW.range HRX.out (fun h => h)))
          have HM1 := Lib.hid (show m - 1 < m by omega)
          have EZ := Lib.hid (fun W => show (binOp .eql 3 (.int .i64 (m : Int)) (.int .i64 0)).run Tryz.prog W = .ok (.bool false) W by rw [run_eq_zero, decide_eq_false (by omega)])
          have ES := Lib.hid (fun W => run_one_less W m hmp hm6)
          clear hO0 hgoF hrgo hy hry
          cases hbl : lessX y x with
          | true =>
            have ABOVE := Lib.hid (show aboveL lessX O x = true by rw [aboveL, hyl]; exact hbl)
            have HLS := Lib.hid (fun W => show Calls Tryz.prog 45 #[.agg CY, .agg CX] W fun e w' => e = .returned (.bool true) ∧ Fr (fun _ => False) W w' from by
              have h := rLessX_any y x W
              rw [hbl, ← HCX.out, ← hCY] at h
              exact h)
            clear hbl hyl hCY
            go_wp2_with fail
            refine wp_region_inv 17 (by kernel_rfl) (by kernel_rfl) (fun W => Fr (fun _ => False) wr W) (RS8 b off n cap kx go oo m c2 CX CY true) (fun _ _ _ _ => True) (Fr (fun _ => False)) (RS8.ext b off n cap kx go oo m c2 CX CY true) (Fr.refl _ _).drew ?_ ?_
            · intro i hi o ho
              replace hi : i < 17 := hi
              obtain rfl | rfl | rfl | rfl | rfl | rfl | rfl | rfl | rfl | rfl | rfl | rfl | rfl | rfl | rfl | rfl | rfl : i = 0 ∨ i = 1 ∨ i = 2 ∨ i = 3 ∨ i = 4 ∨ i = 5 ∨ i = 6 ∨ i = 7 ∨ i = 8 ∨ i = 9 ∨ i = 10 ∨ i = 11 ∨ i = 12 ∨ i = 13 ∨ i = 14 ∨ i = 15 ∨ i = 16 := by omega
              · simp only [List.getElem?_cons_zero, Option.some.injEq] at ho
                subst ho
                intro a W vs hB hS hE hU
                refine wpG_plain rfl ?_
                have v3 : a.eval (.tmp 3) = .slice (some ⟨go, oo, none⟩) m c2 := (hU 3 (by kernel_rfl)).trans rfl
                clear hE hU
                exact wp_value_inv (w' := W) (.slice (some ⟨go, oo, none⟩) m c2) (op_move rfl v3) ⟨_, rfl, hB, Fr.refl _ _, rfl, fun _ _ _ _ _ => trivial⟩
              · simp only [List.getElem?_cons_zero, List.getElem?_cons_succ, Option.some.injEq] at ho
                subst ho
                intro a W vs hB hS hE hU
                refine wpG_plain rfl ?_
                obtain ⟨r0, e19⟩ := hE 0 19 (by kernel_rfl) (by kernel_rfl)
                have v19 : a.eval (.tmp 19) = .slice (some ⟨go, oo, none⟩) m c2 := e19.trans r0
                clear hE hU
                exact wp_value_inv (w' := W) (.int .i64 (m : Int)) (op_len_paths rfl v19) ⟨_, rfl, hB, Fr.refl _ _, rfl, fun _ _ _ _ _ => trivial⟩
              · simp only [List.getElem?_cons_zero, List.getElem?_cons_succ, Option.some.injEq] at ho
                subst ho
                intro a W vs hB hS hE hU
                refine wpG_plain rfl ?_
                obtain ⟨r1, e20⟩ := hE 1 20 (by kernel_rfl) (by kernel_rfl)
                have v20 : a.eval (.tmp 20) = .int .i64 (m : Int) := e20.trans r1
                clear hE hU
                exact wp_value_inv (w' := W) (.bool false) (op_bin rfl v20 (rfl : a.eval (.const (.int .i64 0)) = _) (guard_int W _ _ _ _ _ _ _) (EZ.out W)) ⟨_, rfl, hB, Fr.refl _ _, rfl, fun _ _ _ _ _ => trivial⟩
              · simp only [List.getElem?_cons_zero, List.getElem?_cons_succ, Option.some.injEq] at ho
                subst ho
                intro a W vs hB hS hE hU
                refine wpG_plain rfl ?_
                obtain ⟨r2, e21⟩ := hE 2 21 (by kernel_rfl) (by kernel_rfl)
                have v21 : a.eval (.tmp 21) = .bool false := e21.trans r2
                clear hE hU
                exact wp_value_inv (w' := W) (.bool false) (op_move rfl v21) ⟨_, rfl, hB, Fr.refl _ _, rfl, fun _ _ _ _ _ => trivial⟩
              · simp only [List.getElem?_cons_zero, List.getElem?_cons_succ, Option.some.injEq] at ho
                subst ho
                intro a W vs hB hS hE hU
                obtain ⟨r3, e22⟩ := hE 3 22 (by kernel_rfl) (by kernel_rfl)
                have v22 : a.eval (.tmp 22) = .bool false := e22.trans r3
                refine wpG_yes 3 false 22 rfl (by kernel_rfl) (by rw [hS]; simp) v22 ?_
                have v3 : a.eval (.tmp 3) = .slice (some ⟨go, oo, none⟩) m c2 := (hU 3 (by kernel_rfl)).trans rfl
                clear hE hU
                exact wp_value_inv (w' := W) (.slice (some ⟨go, oo, none⟩) m c2) (op_move rfl v3) ⟨_, rfl, hB, Fr.refl _ _, rfl, fun _ _ _ _ _ => trivial⟩
              · simp only [List.getElem?_cons_zero, List.getElem?_cons_succ, Option.some.injEq] at ho
                subst ho
                intro a W vs hB hS hE hU
                obtain ⟨r3, e22⟩ := hE 3 22 (by kernel_rfl) (by kernel_rfl)
                have v22 : a.eval (.tmp 22) = .bool false := e22.trans r3
                refine wpG_yes 3 false 22 rfl (by kernel_rfl) (by rw [hS]; simp) v22 ?_
                have v3 : a.eval (.tmp 3) = .slice (some ⟨go, oo, none⟩) m c2 := (hU 3 (by kernel_rfl)).trans rfl
                clear hE hU
                exact wp_value_inv (w' := W) (.slice (some ⟨go, oo, none⟩) m c2) (op_move rfl v3) ⟨_, rfl, hB, Fr.refl _ _, rfl, fun _ _ _ _ _ => trivial⟩
              · simp only [List.getElem?_cons_zero, List.getElem?_cons_succ, Option.some.injEq] at ho
                subst ho
                intro a W vs hB hS hE hU
                obtain ⟨r3, e22⟩ := hE 3 22 (by kernel_rfl) (by kernel_rfl)
                have v22 : a.eval (.tmp 22) = .bool false := e22.trans r3
                refine wpG_yes 3 false 22 rfl (by kernel_rfl) (by rw [hS]; simp) v22 ?_
                obtain ⟨r5, e24⟩ := hE 5 24 (by kernel_rfl) (by kernel_rfl)
                have v24 : a.eval (.tmp 24) = .slice (some ⟨go, oo, none⟩) m c2 := e24.trans r5
                clear hE hU
                exact wp_value_inv (w' := W) (.int .i64 (m : Int)) (op_len_paths rfl v24) ⟨_, rfl, hB, Fr.refl _ _, rfl, fun _ _ _ _ _ => trivial⟩
              · simp only [List.getElem?_cons_zero, List.getElem?_cons_succ, Option.some.injEq] at ho
                subst ho
                intro a W vs hB hS hE hU
                obtain ⟨r3, e22⟩ := hE 3 22 (by kernel_rfl) (by kernel_rfl)
                have v22 : a.eval (.tmp 22) = .bool false := e22.trans r3
                refine wpG_yes 3 false 22 rfl (by kernel_rfl) (by rw [hS]; simp) v22 ?_
                obtain ⟨r6, e25⟩ := hE 6 25 (by kernel_rfl) (by kernel_rfl)
                have v25 : a.eval (.tmp 25) = .int .i64 (m : Int) := e25.trans r6
                clear hE hU
                exact wp_value_inv (w' := W) (.int .i64 ((m - 1 : Nat) : Int)) (op_bin rfl v25 (rfl : a.eval (.const (.int .i64 1)) = _) (guard_int W _ _ _ _ _ _ _) (ES.out W)) ⟨_, rfl, hB, Fr.refl _ _, rfl, fun _ _ _ _ _ => trivial⟩
              · simp only [List.getElem?_cons_zero, List.getElem?_cons_succ, Option.some.injEq] at ho
                subst ho
                intro a W vs hB hS hE hU
                obtain ⟨r3, e22⟩ := hE 3 22 (by kernel_rfl) (by kernel_rfl)
                have v22 : a.eval (.tmp 22) = .bool false := e22.trans r3
                refine wpG_yes 3 false 22 rfl (by kernel_rfl) (by rw [hS]; simp) v22 ?_
                obtain ⟨r4, e23⟩ := hE 4 23 (by kernel_rfl) (by kernel_rfl)
                have v23 : a.eval (.tmp 23) = .slice (some ⟨go, oo, none⟩) m c2 := e23.trans r4
                obtain ⟨r7, e26⟩ := hE 7 26 (by kernel_rfl) (by kernel_rfl)
                have v26 : a.eval (.tmp 26) = .int .i64 ((m - 1 : Nat) : Int) := e26.trans r7
                clear hE hU
                exact wp_value_inv (w' := W) (.pointer (some ⟨go, oo + (m - 1) * 21, none⟩)) (op_indexAddr rfl v23 v26 (run_index_paths W go oo m c2 (m - 1) HM1.out)) ⟨_, rfl, hB, Fr.refl _ _, rfl, fun _ _ _ _ _ => trivial⟩
              · simp only [List.getElem?_cons_zero, List.getElem?_cons_succ, Option.some.injEq] at ho
                subst ho
                intro a W vs hB hS hE hU
                obtain ⟨r3, e22⟩ := hE 3 22 (by kernel_rfl) (by kernel_rfl)
                have v22 : a.eval (.tmp 22) = .bool false := e22.trans r3
                refine wpG_yes 3 false 22 rfl (by kernel_rfl) (by rw [hS]; simp) v22 ?_
                obtain ⟨r8, e27⟩ := hE 8 27 (by kernel_rfl) (by kernel_rfl)
                have v27 : a.eval (.tmp 27) = .pointer (some ⟨go, oo + (m - 1) * 21, none⟩) := e27.trans r8
                clear hE hU
                exact wp_value_inv (w' := W) (.agg CY) (op_loadAt rfl v27 (LDY.out W hB)) ⟨_, rfl, hB, Fr.refl _ _, rfl, fun _ _ _ _ _ => trivial⟩
              · simp only [List.getElem?_cons_zero, List.getElem?_cons_succ, Option.some.injEq] at ho
                subst ho
                intro a W vs hB hS hE hU
                obtain ⟨r3, e22⟩ := hE 3 22 (by kernel_rfl) (by kernel_rfl)
                have v22 : a.eval (.tmp 22) = .bool false := e22.trans r3
                refine wpG_yes 3 false 22 rfl (by kernel_rfl) (by rw [hS]; simp) v22 ?_
                have v0 : a.eval (.tmp 0) = .slice (some ⟨b, off, none⟩) n cap := (hU 0 (by kernel_rfl)).trans rfl
                clear hE hU
                exact wp_value_inv (w' := W) (.slice (some ⟨b, off, none⟩) n cap) (op_move rfl v0) ⟨_, rfl, hB, Fr.refl _ _, rfl, fun _ _ _ _ _ => trivial⟩
              · simp only [List.getElem?_cons_zero, List.getElem?_cons_succ, Option.some.injEq] at ho
                subst ho
                intro a W vs hB hS hE hU
                obtain ⟨r3, e22⟩ := hE 3 22 (by kernel_rfl) (by kernel_rfl)
                have v22 : a.eval (.tmp 22) = .bool false := e22.trans r3
                refine wpG_yes 3 false 22 rfl (by kernel_rfl) (by rw [hS]; simp) v22 ?_
                have v6 : a.eval (.tmp 6) = .int .i64 (kx : Int) := (hU 6 (by kernel_rfl)).trans rfl
                clear hE hU
                exact wp_value_inv (w' := W) (.int .i64 (kx : Int)) (op_move rfl v6) ⟨_, rfl, hB, Fr.refl _ _, rfl, fun _ _ _ _ _ => trivial⟩
              · simp only [List.getElem?_cons_zero, List.getElem?_cons_succ, Option.some.injEq] at ho
                subst ho
                intro a W vs hB hS hE hU
                obtain ⟨r3, e22⟩ := hE 3 22 (by kernel_rfl) (by kernel_rfl)
                have v22 : a.eval (.tmp 22) = .bool false := e22.trans r3
                refine wpG_yes 3 false 22 rfl (by kernel_rfl) (by rw [hS]; simp) v22 ?_
                obtain ⟨r10, e29⟩ := hE 10 29 (by kernel_rfl) (by kernel_rfl)
                have v29 : a.eval (.tmp 29) = .slice (some ⟨b, off, none⟩) n cap := e29.trans r10
                obtain ⟨r11, e30⟩ := hE 11 30 (by kernel_rfl) (by kernel_rfl)
                have v30 : a.eval (.tmp 30) = .int .i64 (kx : Int) := e30.trans r11
                clear hE hU
                exact wp_value_inv (w' := W) (.pointer (some ⟨b, off + kx * 21, none⟩)) (op_indexAddr rfl v29 v30 (run_index_paths W b off n cap kx HIN.out)) ⟨_, rfl, hB, Fr.refl _ _, rfl, fun _ _ _ _ _ => trivial⟩
              · simp only [List.getElem?_cons_zero, List.getElem?_cons_succ, Option.some.injEq] at ho
                subst ho
                intro a W vs hB hS hE hU
                obtain ⟨r3, e22⟩ := hE 3 22 (by kernel_rfl) (by kernel_rfl)
                have v22 : a.eval (.tmp 22) = .bool false := e22.trans r3
                refine wpG_yes 3 false 22 rfl (by kernel_rfl) (by rw [hS]; simp) v22 ?_
                obtain ⟨r12, e31⟩ := hE 12 31 (by kernel_rfl) (by kernel_rfl)
                have v31 : a.eval (.tmp 31) = .pointer (some ⟨b, off + kx * 21, none⟩) := e31.trans r12
                clear hE hU
                exact wp_value_inv (w' := W) (.agg CX) (op_loadAt rfl v31 (LDX.out W hB)) ⟨_, rfl, hB, Fr.refl _ _, rfl, fun _ _ _ _ _ => trivial⟩
              · simp only [List.getElem?_cons_zero, List.getElem?_cons_succ, Option.some.injEq] at ho
                subst ho
                intro a W vs hB hS hE hU
                obtain ⟨r3, e22⟩ := hE 3 22 (by kernel_rfl) (by kernel_rfl)
                have v22 : a.eval (.tmp 22) = .bool false := e22.trans r3
                refine wpG_yes 3 false 22 rfl (by kernel_rfl) (by rw [hS]; simp) v22 ?_
                obtain ⟨r9, e28⟩ := hE 9 28 (by kernel_rfl) (by kernel_rfl)
                have v28 : a.eval (.tmp 28) = .agg CY := e28.trans r9
                obtain ⟨r13, e32⟩ := hE 13 32 (by kernel_rfl) (by kernel_rfl)
                have v32 : a.eval (.tmp 32) = .agg CX := e32.trans r13
                clear hE hU
                refine wp_call_inv 45 #[.tmp 28, .tmp 32] #[27, 27] rfl #[.agg CY, .agg CX] (by simp only [List.map_toArray, List.map_cons, List.map_nil, v28, v32]) (rLess_enter _) (Post := fun v W' => v = .bool true ∧ Fr (fun _ => False) W W') ((HLS.out W).mono fun e w' h => ⟨_, h.1, rfl, h.2⟩) ?_
                rintro v W' ⟨rfl, hf⟩
                exact ⟨_, rfl, hB.trans hf (fun _ h => h.elim), hf, rfl, fun _ _ _ _ _ => trivial⟩
              · simp only [List.getElem?_cons_zero, List.getElem?_cons_succ, Option.some.injEq] at ho
                subst ho
                intro a W vs hB hS hE hU
                refine wpG_plain rfl ?_
                obtain ⟨r3, e22⟩ := hE 3 22 (by kernel_rfl) (by kernel_rfl)
                have v22 : a.eval (.tmp 22) = .bool false := e22.trans r3
                obtain ⟨r14, e33⟩ := hE 14 33 (by kernel_rfl) (by kernel_rfl)
                have v33 : a.eval (.tmp 33) = .bool true := e33.trans r14
                clear hE hU
                exact wp_value_inv (w' := W) (.bool true) (op_pick rfl v22 (by simp only [Bool.false_eq_true, if_false]; exact v33)) ⟨_, rfl, hB, Fr.refl _ _, rfl, fun _ _ _ _ _ => trivial⟩
              · simp only [List.getElem?_cons_zero, List.getElem?_cons_succ, Option.some.injEq] at ho
                subst ho
                intro a W vs hB hS hE hU
                refine wpG_plain rfl ?_
                obtain ⟨r15, e34⟩ := hE 15 34 (by kernel_rfl) (by kernel_rfl)
                have v34 : a.eval (.tmp 34) = .bool true := e34.trans r15
                clear hE hU
                exact wp_value_inv (w' := W) (.bool true) (op_assign rfl v34) ⟨_, rfl, hB, Fr.refl _ _, rfl, fun _ _ _ _ _ => trivial⟩
            · intro vs Wa hB hR0 hD
              have rL : vs 16 = .bool true := hR0 16 (by decide)
              have HB := Lib.hid hB
              clear hR0 hD hB
              simp only [acts, if_true, dstAt, List.getElem?_cons_zero, List.getElem?_cons_succ, Option.bind_some, Act.put, List.setIfInBounds_toArray, List.set_cons_succ, List.set_cons_zero, List.drop_succ_cons, List.drop_nil]
              simp only [rL]
              clear rL
              have HFW := HB
              cases B with
              | none =>
                obtain rfl : f = false := hf
                have hsC : (bestC none : Array Value).size = CX.size := Eq.trans (b := 21) (bestC_size _) HCS.out.symm
                go_wp2_with fail
                go_quiet (fail)
                generalize hWq : World.drewN Wa nq = W2 at *
                have HFW := Lib.hid (show Fr (fun _ => False) wr W2 by rw [← hWq]; exact HFW.out.drewN nq)
                clear hWq
                have HN := Lib.hid (HI.out.keep HFW.out)
                have HNX := Lib.hid (HST.out.trans (next_first ABOVE.out))
                have hbest := HN.out.best
                have hr := HFW.out.range hr0 (fun h => h)
                go_wp2_with (first
                  | (with_reducible refine wpList_load_mid rfl 27 (.tmp 50) rfl b (off + kx * 21) rfl Cl _ hr Tryz.underlying27 rfl hiL ?_; rw [HCC.out])
                  | (with_reducible refine wpList_store_row rfl 27 (.tmp 5) (.tmp 51) rfl gb CX (bestC none) 27 rfl rfl hbest hiC hsC hoC ?_; (have HP := Lib.hid (HN.out.put x)); (rw [← HCX.out] at HP); generalize World.setRow _ gb CX = W1 at *))
                go_roundw
                case rel => exact ⟨kx + 1, some x, true, by omega, rfl, by go_num, rfl, Lib.hid HNX.out.symm, HP⟩
                case measure => simp [intOf]; omega
              | some bb =>
                obtain rfl : f = true := hf
                obtain ⟨CB, hCB⟩ : ∃ C, C = pathC bb.h bb.n := ⟨_, rfl⟩
                have hsC : (bestC (some bb) : Array Value).size = CX.size := Eq.trans (b := 21) (bestC_size _) HCS.out.symm
                have LDB := Lib.hid (fun W (hW : Fr (fun _ => False) Wa W) => show (Instr.loadAt 27 (.pointer (some ⟨gb, 0, none⟩))).run Tryz.prog W = .ok (.agg CB) W by rw [hCB]; exact load_path W gb bb.h bb.n ((HI.out.keep (HFW.out.trans hW (fun _ (h : False) => h.elim))).best) bb.hl)
                have LDX := Lib.hid (fun W (hW : Fr (fun _ => False) Wa W) => show (Instr.loadAt 27 (.pointer (some ⟨b, off + kx * 21, none⟩))).run Tryz.prog W = .ok (.agg CX) W by rw [HCX.out]; exact load_mid_path W b _ x (hW.range (HFW.out.range HRX.out (fun h => h)) (fun h => h)))
                cases hbl2 : lessX x bb with
                | true =>
                  have HLS := Lib.hid (fun W => show Calls Tryz.prog 45 #[.agg CX, .agg CB] W fun e w' => e = .returned (.bool true) ∧ Fr (fun _ => False) W w' from by
                    have h := rLessX_any x bb W
                    rw [hbl2, ← HCX.out, ← hCB] at h
                    exact h)
                  have HBL2 := Lib.hid hbl2
                  clear hbl2 hCB
                  go_wp2_with fail
                  refine wp_region_inv 13 (by kernel_rfl) (by kernel_rfl) (fun W => Fr (fun _ => False) Wa W) (RS9 b off n cap kx gb CX CB true) (fun _ _ _ _ => True) (Fr (fun _ => False)) (RS9.ext b off n cap kx gb CX CB true) (Fr.refl _ _).drew ?_ ?_
                  · intro i hi o ho
                    replace hi : i < 13 := hi
                    obtain rfl | rfl | rfl | rfl | rfl | rfl | rfl | rfl | rfl | rfl | rfl | rfl | rfl : i = 0 ∨ i = 1 ∨ i = 2 ∨ i = 3 ∨ i = 4 ∨ i = 5 ∨ i = 6 ∨ i = 7 ∨ i = 8 ∨ i = 9 ∨ i = 10 ∨ i = 11 ∨ i = 12 := by omega
                    · simp only [List.getElem?_cons_zero, Option.some.injEq] at ho
                      subst ho
                      intro a W vs hB hS hE hU
                      refine wpG_plain rfl ?_
                      have v7 : a.eval (.tmp 7) = .bool true := (hU 7 (by kernel_rfl)).trans rfl
                      clear hE hU
                      exact wp_value_inv (w' := W) (.bool true) (op_move rfl v7) ⟨_, rfl, hB, Fr.refl _ _, rfl, fun _ _ _ _ _ => trivial⟩
                    · simp only [List.getElem?_cons_zero, List.getElem?_cons_succ, Option.some.injEq] at ho
                      subst ho
                      intro a W vs hB hS hE hU
                      refine wpG_plain rfl ?_
                      obtain ⟨r0, e35⟩ := hE 0 35 (by kernel_rfl) (by kernel_rfl)
                      have v35 : a.eval (.tmp 35) = .bool true := e35.trans r0
                      clear hE hU
                      exact wp_value_inv (w' := W) (.bool true) (op_move rfl v35) ⟨_, rfl, hB, Fr.refl _ _, rfl, fun _ _ _ _ _ => trivial⟩
                    · simp only [List.getElem?_cons_zero, List.getElem?_cons_succ, Option.some.injEq] at ho
                      subst ho
                      intro a W vs hB hS hE hU
                      obtain ⟨r1, e36⟩ := hE 1 36 (by kernel_rfl) (by kernel_rfl)
                      have v36 : a.eval (.tmp 36) = .bool true := e36.trans r1
                      refine wpG_yes 1 true 36 rfl (by kernel_rfl) (by rw [hS]; simp) v36 ?_
                      have v4 : a.eval (.tmp 4) = .bool true := (hU 4 (by kernel_rfl)).trans rfl
                      clear hE hU
                      exact wp_value_inv (w' := W) (.bool true) (op_move rfl v4) ⟨_, rfl, hB, Fr.refl _ _, rfl, fun _ _ _ _ _ => trivial⟩
                    · simp only [List.getElem?_cons_zero, List.getElem?_cons_succ, Option.some.injEq] at ho
                      subst ho
                      intro a W vs hB hS hE hU
                      obtain ⟨r1, e36⟩ := hE 1 36 (by kernel_rfl) (by kernel_rfl)
                      have v36 : a.eval (.tmp 36) = .bool true := e36.trans r1
                      refine wpG_yes 1 true 36 rfl (by kernel_rfl) (by rw [hS]; simp) v36 ?_
                      obtain ⟨r2, e37⟩ := hE 2 37 (by kernel_rfl) (by kernel_rfl)
                      have v37 : a.eval (.tmp 37) = .bool true := e37.trans r2
                      clear hE hU
                      exact wp_value_inv (w' := W) (.bool false) (op_unop rfl v37 (by rfl)) ⟨_, rfl, hB, Fr.refl _ _, rfl, fun _ _ _ _ _ => trivial⟩
                    · simp only [List.getElem?_cons_zero, List.getElem?_cons_succ, Option.some.injEq] at ho
                      subst ho
                      intro a W vs hB hS hE hU
                      obtain ⟨r1, e36⟩ := hE 1 36 (by kernel_rfl) (by kernel_rfl)
                      have v36 : a.eval (.tmp 36) = .bool true := e36.trans r1
                      refine wpG_yes 1 true 36 rfl (by kernel_rfl) (by rw [hS]; simp) v36 ?_
                      obtain ⟨r3, e38⟩ := hE 3 38 (by kernel_rfl) (by kernel_rfl)
                      have v38 : a.eval (.tmp 38) = .bool false := e38.trans r3
                      clear hE hU
                      exact wp_value_inv (w' := W) (.bool false) (op_move rfl v38) ⟨_, rfl, hB, Fr.refl _ _, rfl, fun _ _ _ _ _ => trivial⟩
                    · simp only [List.getElem?_cons_zero, List.getElem?_cons_succ, Option.some.injEq] at ho
                      subst ho
                      intro a W vs hB hS hE hU
                      obtain ⟨r4, e39⟩ := hE 4 39 (by kernel_rfl) (by kernel_rfl)
                      have v39 : a.eval (.tmp 39) = .bool false := e39.trans r4
                      refine wpG_yes 4 false 39 rfl (by kernel_rfl) (by rw [hS]; simp) v39 ?_
                      have v0 : a.eval (.tmp 0) = .slice (some ⟨b, off, none⟩) n cap := (hU 0 (by kernel_rfl)).trans rfl
                      clear hE hU
                      exact wp_value_inv (w' := W) (.slice (some ⟨b, off, none⟩) n cap) (op_move rfl v0) ⟨_, rfl, hB, Fr.refl _ _, rfl, fun _ _ _ _ _ => trivial⟩
                    · simp only [List.getElem?_cons_zero, List.getElem?_cons_succ, Option.some.injEq] at ho
                      subst ho
                      intro a W vs hB hS hE hU
                      obtain ⟨r4, e39⟩ := hE 4 39 (by kernel_rfl) (by kernel_rfl)
                      have v39 : a.eval (.tmp 39) = .bool false := e39.trans r4
                      refine wpG_yes 4 false 39 rfl (by kernel_rfl) (by rw [hS]; simp) v39 ?_
                      have v6 : a.eval (.tmp 6) = .int .i64 (kx : Int) := (hU 6 (by kernel_rfl)).trans rfl
                      clear hE hU
                      exact wp_value_inv (w' := W) (.int .i64 (kx : Int)) (op_move rfl v6) ⟨_, rfl, hB, Fr.refl _ _, rfl, fun _ _ _ _ _ => trivial⟩
                    · simp only [List.getElem?_cons_zero, List.getElem?_cons_succ, Option.some.injEq] at ho
                      subst ho
                      intro a W vs hB hS hE hU
                      obtain ⟨r4, e39⟩ := hE 4 39 (by kernel_rfl) (by kernel_rfl)
                      have v39 : a.eval (.tmp 39) = .bool false := e39.trans r4
                      refine wpG_yes 4 false 39 rfl (by kernel_rfl) (by rw [hS]; simp) v39 ?_
                      obtain ⟨r5, e40⟩ := hE 5 40 (by kernel_rfl) (by kernel_rfl)
                      have v40 : a.eval (.tmp 40) = .slice (some ⟨b, off, none⟩) n cap := e40.trans r5
                      obtain ⟨r6, e41⟩ := hE 6 41 (by kernel_rfl) (by kernel_rfl)
                      have v41 : a.eval (.tmp 41) = .int .i64 (kx : Int) := e41.trans r6
                      clear hE hU
                      exact wp_value_inv (w' := W) (.pointer (some ⟨b, off + kx * 21, none⟩)) (op_indexAddr rfl v40 v41 (run_index_paths W b off n cap kx HIN.out)) ⟨_, rfl, hB, Fr.refl _ _, rfl, fun _ _ _ _ _ => trivial⟩
                    · simp only [List.getElem?_cons_zero, List.getElem?_cons_succ, Option.some.injEq] at ho
                      subst ho
                      intro a W vs hB hS hE hU
                      obtain ⟨r4, e39⟩ := hE 4 39 (by kernel_rfl) (by kernel_rfl)
                      have v39 : a.eval (.tmp 39) = .bool false := e39.trans r4
                      refine wpG_yes 4 false 39 rfl (by kernel_rfl) (by rw [hS]; simp) v39 ?_
                      obtain ⟨r7, e42⟩ := hE 7 42 (by kernel_rfl) (by kernel_rfl)
                      have v42 : a.eval (.tmp 42) = .pointer (some ⟨b, off + kx * 21, none⟩) := e42.trans r7
                      clear hE hU
                      exact wp_value_inv (w' := W) (.agg CX) (op_loadAt rfl v42 (LDX.out W hB)) ⟨_, rfl, hB, Fr.refl _ _, rfl, fun _ _ _ _ _ => trivial⟩
                    · simp only [List.getElem?_cons_zero, List.getElem?_cons_succ, Option.some.injEq] at ho
                      subst ho
                      intro a W vs hB hS hE hU
                      obtain ⟨r4, e39⟩ := hE 4 39 (by kernel_rfl) (by kernel_rfl)
                      have v39 : a.eval (.tmp 39) = .bool false := e39.trans r4
                      refine wpG_yes 4 false 39 rfl (by kernel_rfl) (by rw [hS]; simp) v39 ?_
                      have v5 : a.eval (.tmp 5) = .pointer (some ⟨gb, 0, none⟩) := (hU 5 (by kernel_rfl)).trans rfl
                      clear hE hU
                      exact wp_value_inv (w' := W) (.agg CB) (op_loadAt rfl v5 (LDB.out W hB)) ⟨_, rfl, hB, Fr.refl _ _, rfl, fun _ _ _ _ _ => trivial⟩
                    · simp only [List.getElem?_cons_zero, List.getElem?_cons_succ, Option.some.injEq] at ho
                      subst ho
                      intro a W vs hB hS hE hU
                      obtain ⟨r4, e39⟩ := hE 4 39 (by kernel_rfl) (by kernel_rfl)
                      have v39 : a.eval (.tmp 39) = .bool false := e39.trans r4
                      refine wpG_yes 4 false 39 rfl (by kernel_rfl) (by rw [hS]; simp) v39 ?_
                      obtain ⟨r8, e43⟩ := hE 8 43 (by kernel_rfl) (by kernel_rfl)
                      have v43 : a.eval (.tmp 43) = .agg CX := e43.trans r8
                      obtain ⟨r9, e44⟩ := hE 9 44 (by kernel_rfl) (by kernel_rfl)
                      have v44 : a.eval (.tmp 44) = .agg CB := e44.trans r9
                      clear hE hU
                      refine wp_call_inv 45 #[.tmp 43, .tmp 44] #[27, 27] rfl #[.agg CX, .agg CB] (by simp only [List.map_toArray, List.map_cons, List.map_nil, v43, v44]) (rLess_enter _) (Post := fun v W' => v = .bool true ∧ Fr (fun _ => False) W W') ((HLS.out W).mono fun e w' h => ⟨_, h.1, rfl, h.2⟩) ?_
                      rintro v W' ⟨rfl, hf⟩
                      exact ⟨_, rfl, hB.trans hf (fun _ h => h.elim), hf, rfl, fun _ _ _ _ _ => trivial⟩
                    · simp only [List.getElem?_cons_zero, List.getElem?_cons_succ, Option.some.injEq] at ho
                      subst ho
                      intro a W vs hB hS hE hU
                      obtain ⟨r1, e36⟩ := hE 1 36 (by kernel_rfl) (by kernel_rfl)
                      have v36 : a.eval (.tmp 36) = .bool true := e36.trans r1
                      refine wpG_yes 1 true 36 rfl (by kernel_rfl) (by rw [hS]; simp) v36 ?_
                      obtain ⟨r4, e39⟩ := hE 4 39 (by kernel_rfl) (by kernel_rfl)
                      have v39 : a.eval (.tmp 39) = .bool false := e39.trans r4
                      obtain ⟨r10, e45⟩ := hE 10 45 (by kernel_rfl) (by kernel_rfl)
                      have v45 : a.eval (.tmp 45) = .bool true := e45.trans r10
                      clear hE hU
                      exact wp_value_inv (w' := W) (.bool true) (op_pick rfl v39 (by simp only [Bool.false_eq_true, if_false]; exact v45)) ⟨_, rfl, hB, Fr.refl _ _, rfl, fun _ _ _ _ _ => trivial⟩
                    · simp only [List.getElem?_cons_zero, List.getElem?_cons_succ, Option.some.injEq] at ho
                      subst ho
                      intro a W vs hB hS hE hU
                      refine wpG_plain rfl ?_
                      obtain ⟨r1, e36⟩ := hE 1 36 (by kernel_rfl) (by kernel_rfl)
                      have v36 : a.eval (.tmp 36) = .bool true := e36.trans r1
                      obtain ⟨r11, e46⟩ := hE 11 46 (by kernel_rfl) (by kernel_rfl)
                      have v46 : a.eval (.tmp 46) = .bool true := e46.trans r11
                      clear hE hU
                      exact wp_value_inv (w' := W) (.bool true) (op_pick rfl v36 (by simp only [if_true]; exact v46)) ⟨_, rfl, hB, Fr.refl _ _, rfl, fun _ _ _ _ _ => trivial⟩
                  · intro vs Wb hB hR0 hD
                    have rL : vs 12 = .bool true := hR0 12 (by decide)
                    have HB := Lib.hid hB
                    clear hR0 hD hB
                    simp only [acts, if_true, dstAt, List.getElem?_cons_zero, List.getElem?_cons_succ, Option.bind_some, Act.put, List.setIfInBounds_toArray, List.set_cons_succ, List.set_cons_zero, List.drop_succ_cons, List.drop_nil]
                    simp only [rL]
                    clear rL
                    have HFW := Lib.hid (HFW.out.trans HB.out (fun _ h => h.elim))
                    have HN := Lib.hid (HI.out.keep HFW.out)
                    have HNX := Lib.hid (HST.out.trans (next_less ABOVE.out HBL2.out))
                    have hbest := HN.out.best
                    have hr := HFW.out.range hr0 (fun h => h)
                    go_wp2_with (first
                      | (with_reducible refine wpList_load_mid rfl 27 (.tmp 50) rfl b (off + kx * 21) rfl Cl _ hr Tryz.underlying27 rfl hiL ?_; rw [HCC.out])
                      | (with_reducible refine wpList_store_row rfl 27 (.tmp 5) (.tmp 51) rfl gb CX (bestC (some bb)) 27 rfl rfl hbest hiC hsC hoC ?_; (have HP := Lib.hid (HN.out.put x)); (rw [← HCX.out] at HP); generalize World.setRow _ gb CX = W1 at *))
                    go_roundw
                    case rel => exact ⟨kx + 1, some x, true, by omega, rfl, by go_num, rfl, Lib.hid HNX.out.symm, HP⟩
                    case measure => simp [intOf]; omega
                | false =>
                  have HLS := Lib.hid (fun W => show Calls Tryz.prog 45 #[.agg CX, .agg CB] W fun e w' => e = .returned (.bool false) ∧ Fr (fun _ => False) W w' from by
                    have h := rLessX_any x bb W
                    rw [hbl2, ← HCX.out, ← hCB] at h
                    exact h)
                  have HBL2 := Lib.hid hbl2
                  clear hbl2 hCB
                  go_wp2_with fail
                  refine wp_region_inv 13 (by kernel_rfl) (by kernel_rfl) (fun W => Fr (fun _ => False) Wa W) (RS9 b off n cap kx gb CX CB false) (fun _ _ _ _ => True) (Fr (fun _ => False)) (RS9.ext b off n cap kx gb CX CB false) (Fr.refl _ _).drew ?_ ?_
                  · intro i hi o ho
                    replace hi : i < 13 := hi
                    obtain rfl | rfl | rfl | rfl | rfl | rfl | rfl | rfl | rfl | rfl | rfl | rfl | rfl : i = 0 ∨ i = 1 ∨ i = 2 ∨ i = 3 ∨ i = 4 ∨ i = 5 ∨ i = 6 ∨ i = 7 ∨ i = 8 ∨ i = 9 ∨ i = 10 ∨ i = 11 ∨ i = 12 := by omega
                    · simp only [List.getElem?_cons_zero, Option.some.injEq] at ho
                      subst ho
                      intro a W vs hB hS hE hU
                      refine wpG_plain rfl ?_
                      have v7 : a.eval (.tmp 7) = .bool true := (hU 7 (by kernel_rfl)).trans rfl
                      clear hE hU
                      exact wp_value_inv (w' := W) (.bool true) (op_move rfl v7) ⟨_, rfl, hB, Fr.refl _ _, rfl, fun _ _ _ _ _ => trivial⟩
                    · simp only [List.getElem?_cons_zero, List.getElem?_cons_succ, Option.some.injEq] at ho
                      subst ho
                      intro a W vs hB hS hE hU
                      refine wpG_plain rfl ?_
                      obtain ⟨r0, e35⟩ := hE 0 35 (by kernel_rfl) (by kernel_rfl)
                      have v35 : a.eval (.tmp 35) = .bool true := e35.trans r0
                      clear hE hU
                      exact wp_value_inv (w' := W) (.bool true) (op_move rfl v35) ⟨_, rfl, hB, Fr.refl _ _, rfl, fun _ _ _ _ _ => trivial⟩
                    · simp only [List.getElem?_cons_zero, List.getElem?_cons_succ, Option.some.injEq] at ho
                      subst ho
                      intro a W vs hB hS hE hU
                      obtain ⟨r1, e36⟩ := hE 1 36 (by kernel_rfl) (by kernel_rfl)
                      have v36 : a.eval (.tmp 36) = .bool true := e36.trans r1
                      refine wpG_yes 1 true 36 rfl (by kernel_rfl) (by rw [hS]; simp) v36 ?_
                      have v4 : a.eval (.tmp 4) = .bool true := (hU 4 (by kernel_rfl)).trans rfl
                      clear hE hU
                      exact wp_value_inv (w' := W) (.bool true) (op_move rfl v4) ⟨_, rfl, hB, Fr.refl _ _, rfl, fun _ _ _ _ _ => trivial⟩
                    · simp only [List.getElem?_cons_zero, List.getElem?_cons_succ, Option.some.injEq] at ho
                      subst ho
                      intro a W vs hB hS hE hU
                      obtain ⟨r1, e36⟩ := hE 1 36 (by kernel_rfl) (by kernel_rfl)
                      have v36 : a.eval (.tmp 36) = .bool true := e36.trans r1
                      refine wpG_yes 1 true 36 rfl (by kernel_rfl) (by rw [hS]; simp) v36 ?_
                      obtain ⟨r2, e37⟩ := hE 2 37 (by kernel_rfl) (by kernel_rfl)
                      have v37 : a.eval (.tmp 37) = .bool true := e37.trans r2
                      clear hE hU
                      exact wp_value_inv (w' := W) (.bool false) (op_unop rfl v37 (by rfl)) ⟨_, rfl, hB, Fr.refl _ _, rfl, fun _ _ _ _ _ => trivial⟩
                    · simp only [List.getElem?_cons_zero, List.getElem?_cons_succ, Option.some.injEq] at ho
                      subst ho
                      intro a W vs hB hS hE hU
                      obtain ⟨r1, e36⟩ := hE 1 36 (by kernel_rfl) (by kernel_rfl)
                      have v36 : a.eval (.tmp 36) = .bool true := e36.trans r1
                      refine wpG_yes 1 true 36 rfl (by kernel_rfl) (by rw [hS]; simp) v36 ?_
                      obtain ⟨r3, e38⟩ := hE 3 38 (by kernel_rfl) (by kernel_rfl)
                      have v38 : a.eval (.tmp 38) = .bool false := e38.trans r3
                      clear hE hU
                      exact wp_value_inv (w' := W) (.bool false) (op_move rfl v38) ⟨_, rfl, hB, Fr.refl _ _, rfl, fun _ _ _ _ _ => trivial⟩
                    · simp only [List.getElem?_cons_zero, List.getElem?_cons_succ, Option.some.injEq] at ho
                      subst ho
                      intro a W vs hB hS hE hU
                      obtain ⟨r4, e39⟩ := hE 4 39 (by kernel_rfl) (by kernel_rfl)
                      have v39 : a.eval (.tmp 39) = .bool false := e39.trans r4
                      refine wpG_yes 4 false 39 rfl (by kernel_rfl) (by rw [hS]; simp) v39 ?_
                      have v0 : a.eval (.tmp 0) = .slice (some ⟨b, off, none⟩) n cap := (hU 0 (by kernel_rfl)).trans rfl
                      clear hE hU
                      exact wp_value_inv (w' := W) (.slice (some ⟨b, off, none⟩) n cap) (op_move rfl v0) ⟨_, rfl, hB, Fr.refl _ _, rfl, fun _ _ _ _ _ => trivial⟩
                    · simp only [List.getElem?_cons_zero, List.getElem?_cons_succ, Option.some.injEq] at ho
                      subst ho
                      intro a W vs hB hS hE hU
                      obtain ⟨r4, e39⟩ := hE 4 39 (by kernel_rfl) (by kernel_rfl)
                      have v39 : a.eval (.tmp 39) = .bool false := e39.trans r4
                      refine wpG_yes 4 false 39 rfl (by kernel_rfl) (by rw [hS]; simp) v39 ?_
                      have v6 : a.eval (.tmp 6) = .int .i64 (kx : Int) := (hU 6 (by kernel_rfl)).trans rfl
                      clear hE hU
                      exact wp_value_inv (w' := W) (.int .i64 (kx : Int)) (op_move rfl v6) ⟨_, rfl, hB, Fr.refl _ _, rfl, fun _ _ _ _ _ => trivial⟩
                    · simp only [List.getElem?_cons_zero, List.getElem?_cons_succ, Option.some.injEq] at ho
                      subst ho
                      intro a W vs hB hS hE hU
                      obtain ⟨r4, e39⟩ := hE 4 39 (by kernel_rfl) (by kernel_rfl)
                      have v39 : a.eval (.tmp 39) = .bool false := e39.trans r4
                      refine wpG_yes 4 false 39 rfl (by kernel_rfl) (by rw [hS]; simp) v39 ?_
                      obtain ⟨r5, e40⟩ := hE 5 40 (by kernel_rfl) (by kernel_rfl)
                      have v40 : a.eval (.tmp 40) = .slice (some ⟨b, off, none⟩) n cap := e40.trans r5
                      obtain ⟨r6, e41⟩ := hE 6 41 (by kernel_rfl) (by kernel_rfl)
                      have v41 : a.eval (.tmp 41) = .int .i64 (kx : Int) := e41.trans r6
                      clear hE hU
                      exact wp_value_inv (w' := W) (.pointer (some ⟨b, off + kx * 21, none⟩)) (op_indexAddr rfl v40 v41 (run_index_paths W b off n cap kx HIN.out)) ⟨_, rfl, hB, Fr.refl _ _, rfl, fun _ _ _ _ _ => trivial⟩
                    · simp only [List.getElem?_cons_zero, List.getElem?_cons_succ, Option.some.injEq] at ho
                      subst ho
                      intro a W vs hB hS hE hU
                      obtain ⟨r4, e39⟩ := hE 4 39 (by kernel_rfl) (by kernel_rfl)
                      have v39 : a.eval (.tmp 39) = .bool false := e39.trans r4
                      refine wpG_yes 4 false 39 rfl (by kernel_rfl) (by rw [hS]; simp) v39 ?_
                      obtain ⟨r7, e42⟩ := hE 7 42 (by kernel_rfl) (by kernel_rfl)
                      have v42 : a.eval (.tmp 42) = .pointer (some ⟨b, off + kx * 21, none⟩) := e42.trans r7
                      clear hE hU
                      exact wp_value_inv (w' := W) (.agg CX) (op_loadAt rfl v42 (LDX.out W hB)) ⟨_, rfl, hB, Fr.refl _ _, rfl, fun _ _ _ _ _ => trivial⟩
                    · simp only [List.getElem?_cons_zero, List.getElem?_cons_succ, Option.some.injEq] at ho
                      subst ho
                      intro a W vs hB hS hE hU
                      obtain ⟨r4, e39⟩ := hE 4 39 (by kernel_rfl) (by kernel_rfl)
                      have v39 : a.eval (.tmp 39) = .bool false := e39.trans r4
                      refine wpG_yes 4 false 39 rfl (by kernel_rfl) (by rw [hS]; simp) v39 ?_
                      have v5 : a.eval (.tmp 5) = .pointer (some ⟨gb, 0, none⟩) := (hU 5 (by kernel_rfl)).trans rfl
                      clear hE hU
                      exact wp_value_inv (w' := W) (.agg CB) (op_loadAt rfl v5 (LDB.out W hB)) ⟨_, rfl, hB, Fr.refl _ _, rfl, fun _ _ _ _ _ => trivial⟩
                    · simp only [List.getElem?_cons_zero, List.getElem?_cons_succ, Option.some.injEq] at ho
                      subst ho
                      intro a W vs hB hS hE hU
                      obtain ⟨r4, e39⟩ := hE 4 39 (by kernel_rfl) (by kernel_rfl)
                      have v39 : a.eval (.tmp 39) = .bool false := e39.trans r4
                      refine wpG_yes 4 false 39 rfl (by kernel_rfl) (by rw [hS]; simp) v39 ?_
                      obtain ⟨r8, e43⟩ := hE 8 43 (by kernel_rfl) (by kernel_rfl)
                      have v43 : a.eval (.tmp 43) = .agg CX := e43.trans r8
                      obtain ⟨r9, e44⟩ := hE 9 44 (by kernel_rfl) (by kernel_rfl)
                      have v44 : a.eval (.tmp 44) = .agg CB := e44.trans r9
                      clear hE hU
                      refine wp_call_inv 45 #[.tmp 43, .tmp 44] #[27, 27] rfl #[.agg CX, .agg CB] (by simp only [List.map_toArray, List.map_cons, List.map_nil, v43, v44]) (rLess_enter _) (Post := fun v W' => v = .bool false ∧ Fr (fun _ => False) W W') ((HLS.out W).mono fun e w' h => ⟨_, h.1, rfl, h.2⟩) ?_
                      rintro v W' ⟨rfl, hf⟩
                      exact ⟨_, rfl, hB.trans hf (fun _ h => h.elim), hf, rfl, fun _ _ _ _ _ => trivial⟩
                    · simp only [List.getElem?_cons_zero, List.getElem?_cons_succ, Option.some.injEq] at ho
                      subst ho
                      intro a W vs hB hS hE hU
                      obtain ⟨r1, e36⟩ := hE 1 36 (by kernel_rfl) (by kernel_rfl)
                      have v36 : a.eval (.tmp 36) = .bool true := e36.trans r1
                      refine wpG_yes 1 true 36 rfl (by kernel_rfl) (by rw [hS]; simp) v36 ?_
                      obtain ⟨r4, e39⟩ := hE 4 39 (by kernel_rfl) (by kernel_rfl)
                      have v39 : a.eval (.tmp 39) = .bool false := e39.trans r4
                      obtain ⟨r10, e45⟩ := hE 10 45 (by kernel_rfl) (by kernel_rfl)
                      have v45 : a.eval (.tmp 45) = .bool false := e45.trans r10
                      clear hE hU
                      exact wp_value_inv (w' := W) (.bool false) (op_pick rfl v39 (by simp only [Bool.false_eq_true, if_false]; exact v45)) ⟨_, rfl, hB, Fr.refl _ _, rfl, fun _ _ _ _ _ => trivial⟩
                    · simp only [List.getElem?_cons_zero, List.getElem?_cons_succ, Option.some.injEq] at ho
                      subst ho
                      intro a W vs hB hS hE hU
                      refine wpG_plain rfl ?_
                      obtain ⟨r1, e36⟩ := hE 1 36 (by kernel_rfl) (by kernel_rfl)
                      have v36 : a.eval (.tmp 36) = .bool true := e36.trans r1
                      obtain ⟨r11, e46⟩ := hE 11 46 (by kernel_rfl) (by kernel_rfl)
                      have v46 : a.eval (.tmp 46) = .bool false := e46.trans r11
                      clear hE hU
                      exact wp_value_inv (w' := W) (.bool false) (op_pick rfl v36 (by simp only [if_true]; exact v46)) ⟨_, rfl, hB, Fr.refl _ _, rfl, fun _ _ _ _ _ => trivial⟩
                  · intro vs Wb hB hR0 hD
                    have rL : vs 12 = .bool false := hR0 12 (by decide)
                    have HB := Lib.hid hB
                    clear hR0 hD hB
                    simp only [acts, if_true, dstAt, List.getElem?_cons_zero, List.getElem?_cons_succ, Option.bind_some, Act.put, List.setIfInBounds_toArray, List.set_cons_succ, List.set_cons_zero, List.drop_succ_cons, List.drop_nil]
                    simp only [rL]
                    clear rL
                    have HFW := Lib.hid (HFW.out.trans HB.out (fun _ h => h.elim))
                    have HN := Lib.hid (HI.out.keep HFW.out)
                    have HNX := Lib.hid (HST.out.trans (next_more HBL2.out))
                    go_wp2
                    go_roundw
                    case rel => exact ⟨kx + 1, some bb, true, by omega, rfl, by go_num, rfl, Lib.hid HNX.out.symm, HN⟩
                    case measure => simp [intOf]; omega
          | false =>
            have ABOVE := Lib.hid (show aboveL lessX O x = false by rw [aboveL, hyl]; exact hbl)
            have HLS := Lib.hid (fun W => show Calls Tryz.prog 45 #[.agg CY, .agg CX] W fun e w' => e = .returned (.bool false) ∧ Fr (fun _ => False) W w' from by
              have h := rLessX_any y x W
              rw [hbl, ← HCX.out, ← hCY] at h
              exact h)
            clear hbl hyl hCY
            go_wp2_with fail
            refine wp_region_inv 17 (by kernel_rfl) (by kernel_rfl) (fun W => Fr (fun _ => False) wr W) (RS8 b off n cap kx go oo m c2 CX CY false) (fun _ _ _ _ => True) (Fr (fun _ => False)) (RS8.ext b off n cap kx go oo m c2 CX CY false) (Fr.refl _ _).drew ?_ ?_
            · intro i hi o ho
              replace hi : i < 17 := hi
              obtain rfl | rfl | rfl | rfl | rfl | rfl | rfl | rfl | rfl | rfl | rfl | rfl | rfl | rfl | rfl | rfl | rfl : i = 0 ∨ i = 1 ∨ i = 2 ∨ i = 3 ∨ i = 4 ∨ i = 5 ∨ i = 6 ∨ i = 7 ∨ i = 8 ∨ i = 9 ∨ i = 10 ∨ i = 11 ∨ i = 12 ∨ i = 13 ∨ i = 14 ∨ i = 15 ∨ i = 16 := by omega
              · simp only [List.getElem?_cons_zero, Option.some.injEq] at ho
                subst ho
                intro a W vs hB hS hE hU
                refine wpG_plain rfl ?_
                have v3 : a.eval (.tmp 3) = .slice (some ⟨go, oo, none⟩) m c2 := (hU 3 (by kernel_rfl)).trans rfl
                clear hE hU
                exact wp_value_inv (w' := W) (.slice (some ⟨go, oo, none⟩) m c2) (op_move rfl v3) ⟨_, rfl, hB, Fr.refl _ _, rfl, fun _ _ _ _ _ => trivial⟩
              · simp only [List.getElem?_cons_zero, List.getElem?_cons_succ, Option.some.injEq] at ho
                subst ho
                intro a W vs hB hS hE hU
                refine wpG_plain rfl ?_
                obtain ⟨r0, e19⟩ := hE 0 19 (by kernel_rfl) (by kernel_rfl)
                have v19 : a.eval (.tmp 19) = .slice (some ⟨go, oo, none⟩) m c2 := e19.trans r0
                clear hE hU
                exact wp_value_inv (w' := W) (.int .i64 (m : Int)) (op_len_paths rfl v19) ⟨_, rfl, hB, Fr.refl _ _, rfl, fun _ _ _ _ _ => trivial⟩
              · simp only [List.getElem?_cons_zero, List.getElem?_cons_succ, Option.some.injEq] at ho
                subst ho
                intro a W vs hB hS hE hU
                refine wpG_plain rfl ?_
                obtain ⟨r1, e20⟩ := hE 1 20 (by kernel_rfl) (by kernel_rfl)
                have v20 : a.eval (.tmp 20) = .int .i64 (m : Int) := e20.trans r1
                clear hE hU
                exact wp_value_inv (w' := W) (.bool false) (op_bin rfl v20 (rfl : a.eval (.const (.int .i64 0)) = _) (guard_int W _ _ _ _ _ _ _) (EZ.out W)) ⟨_, rfl, hB, Fr.refl _ _, rfl, fun _ _ _ _ _ => trivial⟩
              · simp only [List.getElem?_cons_zero, List.getElem?_cons_succ, Option.some.injEq] at ho
                subst ho
                intro a W vs hB hS hE hU
                refine wpG_plain rfl ?_
                obtain ⟨r2, e21⟩ := hE 2 21 (by kernel_rfl) (by kernel_rfl)
                have v21 : a.eval (.tmp 21) = .bool false := e21.trans r2
                clear hE hU
                exact wp_value_inv (w' := W) (.bool false) (op_move rfl v21) ⟨_, rfl, hB, Fr.refl _ _, rfl, fun _ _ _ _ _ => trivial⟩
              · simp only [List.getElem?_cons_zero, List.getElem?_cons_succ, Option.some.injEq] at ho
                subst ho
                intro a W vs hB hS hE hU
                obtain ⟨r3, e22⟩ := hE 3 22 (by kernel_rfl) (by kernel_rfl)
                have v22 : a.eval (.tmp 22) = .bool false := e22.trans r3
                refine wpG_yes 3 false 22 rfl (by kernel_rfl) (by rw [hS]; simp) v22 ?_
                have v3 : a.eval (.tmp 3) = .slice (some ⟨go, oo, none⟩) m c2 := (hU 3 (by kernel_rfl)).trans rfl
                clear hE hU
                exact wp_value_inv (w' := W) (.slice (some ⟨go, oo, none⟩) m c2) (op_move rfl v3) ⟨_, rfl, hB, Fr.refl _ _, rfl, fun _ _ _ _ _ => trivial⟩
              · simp only [List.getElem?_cons_zero, List.getElem?_cons_succ, Option.some.injEq] at ho
                subst ho
                intro a W vs hB hS hE hU
                obtain ⟨r3, e22⟩ := hE 3 22 (by kernel_rfl) (by kernel_rfl)
                have v22 : a.eval (.tmp 22) = .bool false := e22.trans r3
                refine wpG_yes 3 false 22 rfl (by kernel_rfl) (by rw [hS]; simp) v22 ?_
                have v3 : a.eval (.tmp 3) = .slice (some ⟨go, oo, none⟩) m c2 := (hU 3 (by kernel_rfl)).trans rfl
                clear hE hU
                exact wp_value_inv (w' := W) (.slice (some ⟨go, oo, none⟩) m c2) (op_move rfl v3) ⟨_, rfl, hB, Fr.refl _ _, rfl, fun _ _ _ _ _ => trivial⟩
              · simp only [List.getElem?_cons_zero, List.getElem?_cons_succ, Option.some.injEq] at ho
                subst ho
                intro a W vs hB hS hE hU
                obtain ⟨r3, e22⟩ := hE 3 22 (by kernel_rfl) (by kernel_rfl)
                have v22 : a.eval (.tmp 22) = .bool false := e22.trans r3
                refine wpG_yes 3 false 22 rfl (by kernel_rfl) (by rw [hS]; simp) v22 ?_
                obtain ⟨r5, e24⟩ := hE 5 24 (by kernel_rfl) (by kernel_rfl)
                have v24 : a.eval (.tmp 24) = .slice (some ⟨go, oo, none⟩) m c2 := e24.trans r5
                clear hE hU
                exact wp_value_inv (w' := W) (.int .i64 (m : Int)) (op_len_paths rfl v24) ⟨_, rfl, hB, Fr.refl _ _, rfl, fun _ _ _ _ _ => trivial⟩
              · simp only [List.getElem?_cons_zero, List.getElem?_cons_succ, Option.some.injEq] at ho
                subst ho
                intro a W vs hB hS hE hU
                obtain ⟨r3, e22⟩ := hE 3 22 (by kernel_rfl) (by kernel_rfl)
                have v22 : a.eval (.tmp 22) = .bool false := e22.trans r3
                refine wpG_yes 3 false 22 rfl (by kernel_rfl) (by rw [hS]; simp) v22 ?_
                obtain ⟨r6, e25⟩ := hE 6 25 (by kernel_rfl) (by kernel_rfl)
                have v25 : a.eval (.tmp 25) = .int .i64 (m : Int) := e25.trans r6
                clear hE hU
                exact wp_value_inv (w' := W) (.int .i64 ((m - 1 : Nat) : Int)) (op_bin rfl v25 (rfl : a.eval (.const (.int .i64 1)) = _) (guard_int W _ _ _ _ _ _ _) (ES.out W)) ⟨_, rfl, hB, Fr.refl _ _, rfl, fun _ _ _ _ _ => trivial⟩
              · simp only [List.getElem?_cons_zero, List.getElem?_cons_succ, Option.some.injEq] at ho
                subst ho
                intro a W vs hB hS hE hU
                obtain ⟨r3, e22⟩ := hE 3 22 (by kernel_rfl) (by kernel_rfl)
                have v22 : a.eval (.tmp 22) = .bool false := e22.trans r3
                refine wpG_yes 3 false 22 rfl (by kernel_rfl) (by rw [hS]; simp) v22 ?_
                obtain ⟨r4, e23⟩ := hE 4 23 (by kernel_rfl) (by kernel_rfl)
                have v23 : a.eval (.tmp 23) = .slice (some ⟨go, oo, none⟩) m c2 := e23.trans r4
                obtain ⟨r7, e26⟩ := hE 7 26 (by kernel_rfl) (by kernel_rfl)
                have v26 : a.eval (.tmp 26) = .int .i64 ((m - 1 : Nat) : Int) := e26.trans r7
                clear hE hU
                exact wp_value_inv (w' := W) (.pointer (some ⟨go, oo + (m - 1) * 21, none⟩)) (op_indexAddr rfl v23 v26 (run_index_paths W go oo m c2 (m - 1) HM1.out)) ⟨_, rfl, hB, Fr.refl _ _, rfl, fun _ _ _ _ _ => trivial⟩
              · simp only [List.getElem?_cons_zero, List.getElem?_cons_succ, Option.some.injEq] at ho
                subst ho
                intro a W vs hB hS hE hU
                obtain ⟨r3, e22⟩ := hE 3 22 (by kernel_rfl) (by kernel_rfl)
                have v22 : a.eval (.tmp 22) = .bool false := e22.trans r3
                refine wpG_yes 3 false 22 rfl (by kernel_rfl) (by rw [hS]; simp) v22 ?_
                obtain ⟨r8, e27⟩ := hE 8 27 (by kernel_rfl) (by kernel_rfl)
                have v27 : a.eval (.tmp 27) = .pointer (some ⟨go, oo + (m - 1) * 21, none⟩) := e27.trans r8
                clear hE hU
                exact wp_value_inv (w' := W) (.agg CY) (op_loadAt rfl v27 (LDY.out W hB)) ⟨_, rfl, hB, Fr.refl _ _, rfl, fun _ _ _ _ _ => trivial⟩
              · simp only [List.getElem?_cons_zero, List.getElem?_cons_succ, Option.some.injEq] at ho
                subst ho
                intro a W vs hB hS hE hU
                obtain ⟨r3, e22⟩ := hE 3 22 (by kernel_rfl) (by kernel_rfl)
                have v22 : a.eval (.tmp 22) = .bool false := e22.trans r3
                refine wpG_yes 3 false 22 rfl (by kernel_rfl) (by rw [hS]; simp) v22 ?_
                have v0 : a.eval (.tmp 0) = .slice (some ⟨b, off, none⟩) n cap := (hU 0 (by kernel_rfl)).trans rfl
                clear hE hU
                exact wp_value_inv (w' := W) (.slice (some ⟨b, off, none⟩) n cap) (op_move rfl v0) ⟨_, rfl, hB, Fr.refl _ _, rfl, fun _ _ _ _ _ => trivial⟩
              · simp only [List.getElem?_cons_zero, List.getElem?_cons_succ, Option.some.injEq] at ho
                subst ho
                intro a W vs hB hS hE hU
                obtain ⟨r3, e22⟩ := hE 3 22 (by kernel_rfl) (by kernel_rfl)
                have v22 : a.eval (.tmp 22) = .bool false := e22.trans r3
                refine wpG_yes 3 false 22 rfl (by kernel_rfl) (by rw [hS]; simp) v22 ?_
                have v6 : a.eval (.tmp 6) = .int .i64 (kx : Int) := (hU 6 (by kernel_rfl)).trans rfl
                clear hE hU
                exact wp_value_inv (w' := W) (.int .i64 (kx : Int)) (op_move rfl v6) ⟨_, rfl, hB, Fr.refl _ _, rfl, fun _ _ _ _ _ => trivial⟩
              · simp only [List.getElem?_cons_zero, List.getElem?_cons_succ, Option.some.injEq] at ho
                subst ho
                intro a W vs hB hS hE hU
                obtain ⟨r3, e22⟩ := hE 3 22 (by kernel_rfl) (by kernel_rfl)
                have v22 : a.eval (.tmp 22) = .bool false := e22.trans r3
                refine wpG_yes 3 false 22 rfl (by kernel_rfl) (by rw [hS]; simp) v22 ?_
                obtain ⟨r10, e29⟩ := hE 10 29 (by kernel_rfl) (by kernel_rfl)
                have v29 : a.eval (.tmp 29) = .slice (some ⟨b, off, none⟩) n cap := e29.trans r10
                obtain ⟨r11, e30⟩ := hE 11 30 (by kernel_rfl) (by kernel_rfl)
                have v30 : a.eval (.tmp 30) = .int .i64 (kx : Int) := e30.trans r11
                clear hE hU
                exact wp_value_inv (w' := W) (.pointer (some ⟨b, off + kx * 21, none⟩)) (op_indexAddr rfl v29 v30 (run_index_paths W b off n cap kx HIN.out)) ⟨_, rfl, hB, Fr.refl _ _, rfl, fun _ _ _ _ _ => trivial⟩
              · simp only [List.getElem?_cons_zero, List.getElem?_cons_succ, Option.some.injEq] at ho
                subst ho
                intro a W vs hB hS hE hU
                obtain ⟨r3, e22⟩ := hE 3 22 (by kernel_rfl) (by kernel_rfl)
                have v22 : a.eval (.tmp 22) = .bool false := e22.trans r3
                refine wpG_yes 3 false 22 rfl (by kernel_rfl) (by rw [hS]; simp) v22 ?_
                obtain ⟨r12, e31⟩ := hE 12 31 (by kernel_rfl) (by kernel_rfl)
                have v31 : a.eval (.tmp 31) = .pointer (some ⟨b, off + kx * 21, none⟩) := e31.trans r12
                clear hE hU
                exact wp_value_inv (w' := W) (.agg CX) (op_loadAt rfl v31 (LDX.out W hB)) ⟨_, rfl, hB, Fr.refl _ _, rfl, fun _ _ _ _ _ => trivial⟩
              · simp only [List.getElem?_cons_zero, List.getElem?_cons_succ, Option.some.injEq] at ho
                subst ho
                intro a W vs hB hS hE hU
                obtain ⟨r3, e22⟩ := hE 3 22 (by kernel_rfl) (by kernel_rfl)
                have v22 : a.eval (.tmp 22) = .bool false := e22.trans r3
                refine wpG_yes 3 false 22 rfl (by kernel_rfl) (by rw [hS]; simp) v22 ?_
                obtain ⟨r9, e28⟩ := hE 9 28 (by kernel_rfl) (by kernel_rfl)
                have v28 : a.eval (.tmp 28) = .agg CY := e28.trans r9
                obtain ⟨r13, e32⟩ := hE 13 32 (by kernel_rfl) (by kernel_rfl)
                have v32 : a.eval (.tmp 32) = .agg CX := e32.trans r13
                clear hE hU
                refine wp_call_inv 45 #[.tmp 28, .tmp 32] #[27, 27] rfl #[.agg CY, .agg CX] (by simp only [List.map_toArray, List.map_cons, List.map_nil, v28, v32]) (rLess_enter _) (Post := fun v W' => v = .bool false ∧ Fr (fun _ => False) W W') ((HLS.out W).mono fun e w' h => ⟨_, h.1, rfl, h.2⟩) ?_
                rintro v W' ⟨rfl, hf⟩
                exact ⟨_, rfl, hB.trans hf (fun _ h => h.elim), hf, rfl, fun _ _ _ _ _ => trivial⟩
              · simp only [List.getElem?_cons_zero, List.getElem?_cons_succ, Option.some.injEq] at ho
                subst ho
                intro a W vs hB hS hE hU
                refine wpG_plain rfl ?_
                obtain ⟨r3, e22⟩ := hE 3 22 (by kernel_rfl) (by kernel_rfl)
                have v22 : a.eval (.tmp 22) = .bool false := e22.trans r3
                obtain ⟨r14, e33⟩ := hE 14 33 (by kernel_rfl) (by kernel_rfl)
                have v33 : a.eval (.tmp 33) = .bool false := e33.trans r14
                clear hE hU
                exact wp_value_inv (w' := W) (.bool false) (op_pick rfl v22 (by simp only [Bool.false_eq_true, if_false]; exact v33)) ⟨_, rfl, hB, Fr.refl _ _, rfl, fun _ _ _ _ _ => trivial⟩
              · simp only [List.getElem?_cons_zero, List.getElem?_cons_succ, Option.some.injEq] at ho
                subst ho
                intro a W vs hB hS hE hU
                refine wpG_plain rfl ?_
                obtain ⟨r15, e34⟩ := hE 15 34 (by kernel_rfl) (by kernel_rfl)
                have v34 : a.eval (.tmp 34) = .bool false := e34.trans r15
                clear hE hU
                exact wp_value_inv (w' := W) (.bool false) (op_assign rfl v34) ⟨_, rfl, hB, Fr.refl _ _, rfl, fun _ _ _ _ _ => trivial⟩
            · intro vs Wa hB hR0 hD
              have rL : vs 16 = .bool false := hR0 16 (by decide)
              have HB := Lib.hid hB
              clear hR0 hD hB
              simp only [acts, if_true, dstAt, List.getElem?_cons_zero, List.getElem?_cons_succ, Option.bind_some, Act.put, List.setIfInBounds_toArray, List.set_cons_succ, List.set_cons_zero, List.drop_succ_cons, List.drop_nil]
              simp only [rL]
              clear rL
              have HFW := HB
              cases B with
              | none =>
                obtain rfl : f = false := hf
                go_wp2_with fail
                go_quiet (fail)
                generalize hWq : World.drewN Wa nq = W2 at *
                have HFW := Lib.hid (show Fr (fun _ => False) wr W2 by rw [← hWq]; exact HFW.out.drewN nq)
                clear hWq
                have HN := Lib.hid (HI.out.keep HFW.out)
                have HNX := Lib.hid (HST.out.trans (next_not ABOVE.out))
                go_wp2
                go_roundw
                case rel => exact ⟨kx + 1, none, false, by omega, rfl, by go_num, rfl, Lib.hid HNX.out.symm, HN⟩
                case measure => simp [intOf]; omega
              | some bb =>
                obtain rfl : f = true := hf
                go_wp2_with fail
                go_quiet (fail)
                generalize hWq : World.drewN Wa nq = W2 at *
                have HFW := Lib.hid (show Fr (fun _ => False) wr W2 by rw [← hWq]; exact HFW.out.drewN nq)
                clear hWq
                have HN := Lib.hid (HI.out.keep HFW.out)
                have HNX := Lib.hid (HST.out.trans (next_not ABOVE.out))
                go_wp2
                go_roundw
                case rel => exact ⟨kx + 1, some bb, true, by omega, rfl, by go_num, rfl, Lib.hid HNX.out.symm, HN⟩
                case measure => simp [intOf]; omega
      · have hkn : kx = n := by omega
        have hd : decide ((kx : Int) < (n : Int)) = false := by rw [decide_eq_false_iff_not]; omega
        cases B with
        | none =>
          obtain rfl : f = false := hf
          have HD := Lib.hid (show nextL lessX L O L.length = none by rw [← HN.out, ← hkn]; exact hB.out.symm)
          clear hkn hB
          go_wp2_with fail
          go_ret
          exact ⟨_, O, rfl, (hR.out.own.paths.keep HI.out.fr (fun _ _ _ h => h)), hR.out.up.asc, hR.out.up.done lessX_strict HD.out, hR.out.fr.trans HI.out.fr (fun _ h => h.elim)⟩
        | some bb =>
          obtain rfl : f = true := hf
          have HD := Lib.hid (show some bb = nextL lessX L O L.length by rw [← HN.out, ← hkn]; exact hB.out)
          obtain ⟨C, hC⟩ : ∃ C, C = pathC bb.h bb.n := ⟨_, rfl⟩
          have hbest : wr.heap[gb]? = some (.cells C 27 (0, 0)) := by rw [hC]; exact HI.out.best
          have hcs : C.size = 21 := by rw [hC, pathC_size bb.h bb.hl]
          have hiC : (Tryz.prog.info? 27).map (·.size) = some C.size := by rw [hcs]; kernel_rfl
          have HBO := Lib.hid (fun (W : World) => show (Instr.buildSlice 25 1 #[(0, .agg C)]).run Tryz.prog W = .ok (.slice (some ⟨W.heap.size, 0, none⟩) 1 1) (W.alloc (.cells C 27)) by rw [hC]; exact run_build_one W bb)
          have HPO := Lib.hid (fun (W : World) => show PathsIn (fun k => k = W.heap.size) (W.alloc (.cells C 27)) (.slice (some ⟨W.heap.size, 0, none⟩) 1 1) [bb] by rw [hC]; exact PathsIn.one W bb)
          have HOW := Lib.hid ((hR.out.own.keep HI.out.fr (fun _ _ _ h => h)).keep ((Fr.refl (fun _ => False) wr).alloc (.cells C 27)) (fun _ _ _ h => h))
          have hO6 : O.length + 1 ≤ 1000000 := by rw [← HM.out]; omega
          clear hkn hB hC hcs
          go_wp2_with (first
            | ((with_reducible refine wpList_load_row rfl 27 (.tmp 5) rfl gb rfl 27 C (0, 0) _ hbest Tryz.underlying27 rfl hiC ?_); go_loud (refine wpList_one rfl 25 (.tmp 56) rfl (.agg C) (.slice (some ⟨wr.heap.size, 0, none⟩) 1 1) (wr.alloc (.cells C 27)) rfl (HBO.out wr) ?_); refine wpList_append_paths (F := fun g => w.heap.size ≤ g) (G := fun k => k = wr.heap.size) _ rfl (.tmp 55) (.tmp 57) rfl (.slice a2 m c2) _ O [bb] rfl rfl HOW.out (HPO.out wr) (by have := hO6; simp only [List.length_singleton]; omega) ?_; intro v4 w4 hown4 hgrow4 hblk4; (have HR4 := Lib.hid (And.intro hown4 (And.intro hgrow4 hblk4))); clear hown4 hgrow4 hblk4))
          go_roundw
          case rel => exact ⟨O ++ [bb], v4, rfl, Lib.hid (RsAt.more hR.out HI.out HD.out HR4.out.1 HR4.out.2.1)⟩
          case measure =>
            obtain ⟨a4, c4, hv4, _⟩ := HR4.out.1.paths
            rw [hv4]
            simp only [lenV, List.length_append, List.length_singleton, ← HM.out]
            omega
end Go.Proofs.YtfkgdjoaoidkeaaGreat
