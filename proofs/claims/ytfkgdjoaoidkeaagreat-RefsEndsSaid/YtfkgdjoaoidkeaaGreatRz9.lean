/- Laid together: RfMi -/
import Derived.Test.YtfkgdjoaoidkeaaGreatRz7
import Derived.Test.YtfkgdjoaoidkeaaGreatRz8
import Derived.Test.YtfkgdjoaoidkeaaGreatRz5

namespace Go.Proofs.YtfkgdjoaoidkeaaGreat
open Go.RowKit Go.ChangeShapes Go.WideMaps Go.Maps
set_option linter.unusedVariables false
attribute [local go_sem] Oper.semAt_some
def qL (L : List PathX) (t : List UInt8) : Bool := decide (t ∈ L.map (fun x => letL x.h))
theorem qL_nil (t : List UInt8) : qL [] t = false := by simp [qL]
theorem qL_succ {L : List PathX} {k : Nat} (h : k < L.length) (t : List UInt8) : qL (L.take (k + 1)) t = (decide (t = letL L[k].h) || qL (L.take k) t) := by
  unfold qL
  rw [List.take_succ_eq_append_getElem h, List.map_append, Bool.eq_iff_iff]
  simp only [decide_eq_true_iff, Bool.or_eq_true, List.mem_append, List.map_cons, List.map_nil, List.mem_singleton]
  exact ⟨fun h => h.symm, fun h => h.symm⟩
theorem load_hash_of (w : World) (g : Nat) (x : PathX) (h : w.heap[g]? = some (.cells (pathC x.h x.n) 27 (0, 0))) : (Instr.loadAt 24 (.pointer (some ⟨g, 0, none⟩))).run Tryz.prog w = .ok (.agg (x.h.map bv).toArray) w := by
  have h1 := run_loadVar_mid (P := Tryz.prog) w g 0 24 (x.h.map bv) _ (fun j v hv => by
    rw [Nat.zero_add, cell_of_row _ _ _ _ _ _ h, ← cellsX_C, List.getElem?_toArray, cellsX]
    have hj : j < (x.h.map bv).length := (List.getElem?_eq_some_iff.1 hv).1
    rw [List.getElem?_append_left hj]
    exact hv) Tryz.underlying24 rfl (by rw [List.length_map, x.hl]; kernel_rfl)
  simp only [Instr.loadAt, Instr.sureAddr, Sem.run_bind, Sem.run_pure, Result.andThen_ok, h1]
theorem fld_spence_api_Path_0_0 (w : World) (g : Nat) : (Instr.fieldAt 27 (.pointer (some ⟨g, 0, none⟩)) 0).run Tryz.prog w = .ok (.pointer (some ⟨g, 0, none⟩)) w := by kernel_rfl
theorem keepsFrom10 {S : Nat → Prop} {n0 : Nat} {W W' : World} (h : Fr S W W') (hS : ∀ k, S k → k < n0) : KeepsFrom n0 W W' :=
  ⟨h.size, fun k o hB hk _ => h.heap hk (fun hs => by have := hS k hs; omega)⟩
theorem all_any (w : World) (ao : Option Addr) (n cap : Nat) :
    Calls Tryz.prog 40 #[.slice ao n cap] w fun e w' => e = .returned (.func (.func 68) #[] #[.pointer (some ⟨w.heap.size, 0, none⟩)]) ∧ w' = w.alloc (.cells #[.slice ao n cap] 22) := by
  go_enter Tryz.func40, Tryz.ntmps40
  go_wp2
  go_ret
  exact ⟨rfl, rfl⟩
def MsAt (L : List PathX) (mb b5 N : Nat) (T : Nat → Prop) (W0 : World) (pre : List Ls) (W : World) : Prop :=
  SkAt W mb N (fun t => qL L t && !pre.any (fun y => decide (y.1 = t))) ∧ W.heap[b5]? = some (.cells #[.map (some mb)] 54 (0, 0)) ∧ Fr T W0 W
theorem MsAt.keep {L : List PathX} {mb b5 N : Nat} {T S : Nat → Prop} {W0 W W' : World} {pre : List Ls} (h : MsAt L mb b5 N T W0 pre W) (hf : Fr S W W') (h1 : ¬ S mb) (h2 : ¬ S b5) (h3 : ∀ k, S k → T k) : MsAt L mb b5 N T W0 pre W' :=
  ⟨h.1.keep hf h1, hf.heap h.2.1 h2, h.2.2.trans hf (fun k hk => .inl (h3 k hk))⟩
theorem MsAt.grown {L : List PathX} {mb b5 N z : Nat} {T : Nat → Prop} {W0 W W' : World} {pre : List Ls} {row : Option Nat} (h : MsAt L mb b5 N T W0 pre W) (hz : mb < z ∧ b5 < z) (hT : ∀ k, z ≤ k → T k) (hg : W.grownBy W' row) (hr : ∀ r, row = some r → z ≤ r ∧ ∃ o : Obj, W.heap[r]? = some o ∧ o.isCells = false) : MsAt L mb b5 N T W0 pre W' :=
  h.keep (S := fun k => row = some k) ((Fr.refl _ W).grown hg (fun k hk => .inl hk)) (fun e => by have := (hr _ e).1; omega) (fun e => by have := (hr _ e).1; omega) (fun k e => hT k (hr k e).1)
theorem qs_snoc (L : List PathX) (pre : List Ls) (x : Ls) (t : List UInt8) : (!decide (t = x.1) && (qL L t && !pre.any (fun y => decide (y.1 = t)))) = (qL L t && !(pre ++ [x]).any (fun y => decide (y.1 = t))) := by
  rw [List.any_append, List.any_cons, List.any_nil, Bool.or_false]
  by_cases h : t = x.1
  · rw [decide_eq_true h, decide_eq_true h.symm]; simp
  · rw [decide_eq_false h, decide_eq_false (fun e => h e.symm)]; simp
theorem any_win (b : List UInt8) (t : List UInt8) (ht : t.length = 32) : (winX b).any (fun y => decide (y.1 = t)) = anyR b t := by
  rw [Bool.eq_iff_iff, List.any_eq_true, anyR_iff ht]
  constructor
  · rintro ⟨y, hy, he⟩
    have := of_decide_eq_true he
    subst this
    exact winX_mem.1 hy
  · intro h
    exact ⟨⟨t, ht⟩, winX_mem.2 h, decide_eq_true rfl⟩
def MiR (b5 g7 mb : Nat) (CH S : Array Value) (i : Nat) (v : Value) (W : World) : Prop :=
  match i with
  | 0 => v = .map (some mb)
  | 1 => v = .pointer (some ⟨g7, 0, none⟩)
  | 2 => v = .agg CH
  | 3 => v = .agg S
  | 4 => v = .agg #[]
  | _ => True
theorem MiR.ext (b5 g7 mb : Nat) (CH S : Array Value) : ∀ (j : Nat) (u : Value) (W W' : World), Fr (fun _ => False) W W' → MiR b5 g7 mb CH S j u W → MiR b5 g7 mb CH S j u W'
  | 0, u, W, W', hf, h => h
  | 1, u, W, W', hf, h => h
  | 2, u, W, W', hf, h => h
  | 3, u, W, W', hf, h => h
  | 4, u, W, W', hf, h => h
  | _ + 5, u, W, W', hf, h => trivial
set_option maxRecDepth 100000 in
set_option maxHeartbeats 8000000 in
theorem fMissing_in {F G : Nat → Prop} (w : World) (v u : Value) (b : List UInt8) (L : List PathX) (hv : BytesIn F w v b) (hF : ∀ k, F k → k < w.heap.size) (hu : PathsIn G w u L) (hG : ∀ k, G k → k < w.heap.size) (hL : L.length ≤ 1000) (hb : b.length ≤ 1000000) :
    CallsIn Fence.wide 3 Tryz.prog 29 #[v, u] w fun e w' => ∃ mb N, e = .returned (.map (some mb)) ∧ SkAt w' mb N (fun t => qL L t && !anyR b t) ∧ Fr (fun _ => False) w w' ∧ w.heap.size ≤ mb := by
  have hmm := @run_makeMap Tryz.prog
  obtain ⟨ao, n, cap, rfl⟩ : ∃ ao n cap, v = .slice ao n cap := by obtain ⟨ao, cap, h, _⟩ := hv; exact ⟨_, _, _, h⟩
  obtain ⟨au, cu, rfl, hlc, hcm, hn0, hrow⟩ := hu
  have HROW := Lib.hid hrow
  have HV := Lib.hid (And.intro hv (And.intro hF (And.intro hG hb)))
  unfold maxLen at hcm
  clear hn0 hrow hv hF hG hb
  obtain ⟨m, hm⟩ : ∃ m, m = L.length := ⟨_, rfl⟩
  rw [← hm] at hlc hL ⊢
  have HM := Lib.hid hm
  clear hm
  refine callsIn_of_wp_marks Tryz.func29 rfl trivial ?_ rfl
  simp only [Tryz.ntmps29, List.size_toArray, List.length_cons, List.length_nil, Nat.reduceAdd, Nat.reduceSub, Array.replicate_succ, Array.replicate_zero, List.push_toArray, List.append_toArray, List.nil_append, List.cons_append]
  refine wpIn_wide.2 ?_
  go_wp2_with fail
  obtain ⟨mb, hmb⟩ : ∃ mb, mb = w.heap.size := ⟨_, rfl⟩
  obtain ⟨b5, hb5⟩ : ∃ b5, b5 = w.heap.size + 1 := ⟨_, rfl⟩
  obtain ⟨W1, hW1⟩ : ∃ W1, W1 = (w.alloc (.map #[] 0)).alloc (.cells #[.map (some w.heap.size)] 54) := ⟨_, rfl⟩
  have hf1 : Fr (fun _ => False) w W1 := by rw [hW1]; exact ((Fr.refl _ _).alloc _).alloc _
  have hc5 : W1.heap[b5]? = some (.cells #[.map (some mb)] 54 (0, 0)) := by rw [hW1, hb5, hmb]; exact heap_alloc2_new w _ _
  have hsk1 : SkAt W1 mb 0 (qL (L.take 0)) := by
    rw [hW1, hmb]
    exact ((SkAt.made w).keep ((Fr.refl (fun _ => False) _).alloc _) (fun h => h)).congr (fun s _ => by rw [List.take_zero, qL_nil])
  rw [← hW1, ← hb5, ← hmb]
  have H1 := Lib.hid (And.intro hf1 (And.intro hc5 (And.intro hmb (And.intro hb5 (show W1.heap.size = w.heap.size + 2 by rw [hW1]; simp)))))
  have H0 := Lib.hid (show SkAt W1 mb 0 (qL (L.take 0)) ∧ Fr (· = mb) W1 W1 from ⟨hsk1, Fr.refl _ _⟩)
  clear hW1 hf1 hc5 hsk1 hmb hb5
  go_loopw [7, 12] (fun pv kv wr => ∃ k : Nat, k ≤ m ∧ kv = .int .i64 k ∧ Hid (SkAt wr mb k (qL (L.take k)) ∧ Fr (· = mb) W1 wr)) (fun _ kv _ => m - (intOf kv).toNat)
  case atStart => exact ⟨0, by omega, rfl, H0⟩
  case round =>
    clear H0
    obtain ⟨kx, hk, rfl, hR⟩ := hrel
    by_cases hlt : kx < m
    · have hkL : kx < L.length := by rw [← HM.out]; exact hlt
      obtain ⟨x, hx⟩ : ∃ x, x = L[kx] := ⟨_, rfl⟩
      obtain ⟨bp, off, rfl, hbG, hrg⟩ := HROW.out (by rintro rfl; simp at hkL)
      have hr : wr.rangeAt bp (off + kx * 21) (cellsX L[kx]) := hR.out.2.range (H1.out.1.range (hrg kx hkL) (fun h => h)) (fun e => by have e' : bp = mb := e; have := HV.out.2.2.1 bp hbG; have := H1.out.2.2.1; omega)
      rw [← hx] at hr
      have hss := qL_succ hkL
      rw [← hx] at hss
      have HSS := Lib.hid hss
      obtain ⟨C, hC⟩ : ∃ C, C = pathC x.h x.n := ⟨_, rfl⟩
      obtain ⟨Cl, hCl⟩ : ∃ C, C = cellsX x := ⟨_, rfl⟩
      rw [← hCl] at hr
      have hCC : Cl.toArray = C := by rw [hCl, hC]; rfl
      have hll : Cl.length = 21 := by rw [hCl, cellsX_length]
      have hcs : C.size = 21 := by rw [hC, pathC_size x.h x.hl]
      have hiC : (Tryz.prog.info? 27).map (·.size) = some C.size := by rw [hcs]; kernel_rfl
      have hiL : (Tryz.prog.info? 27).map (·.size) = some Cl.length := by rw [hll]; kernel_rfl
      have hsC : (#[.int .u8 0, .int .u8 0, .int .u8 0, .int .u8 0, .int .u8 0, .int .u8 0, .int .u8 0, .int .u8 0, .int .u8 0, .int .u8 0, .int .u8 0, .int .u8 0, .int .u8 0, .int .u8 0, .int .u8 0, .int .u8 0, .int .u8 0, .int .u8 0, .int .u8 0, .int .u8 0, .string ⟨#[]⟩] : Array Value).size = C.size := Eq.trans (b := 21) rfl hcs.symm
      have hoC : C.all (·.oneCell') = true := by rw [hC]; exact pathC_one x.h x.n
      have HLL := Lib.hid hCC
      have hlt64 : (kx : Int) < (m : Int) := by omega
      have HLO := Lib.hid (fun (W : World) => lettersOf_any x.h x.hl W)
      obtain ⟨CH, hCH⟩ : ∃ C, C = (x.h.map bv).toArray := ⟨_, rfl⟩
      obtain ⟨S, hS⟩ : ∃ S, S = ltC (letL x.h) := ⟨_, rfl⟩
      rw [← hCH, ← hS] at HLO
      have HCH := Lib.hid (And.intro hCH (And.intro hS hC))
      clear hx hrg hbG hss hC hCl hcs hll hCC hCH hS
      go_wp2_with (first
        | (with_reducible refine wpList_load_mid rfl 27 (.tmp 14) rfl bp (off + kx * 21) rfl Cl _ hr Tryz.underlying27 rfl hiL ?_; rw [HLL.out])
        | (with_reducible refine wpList_store_row rfl 27 (.tmp 7) (.tmp 15) rfl wr.heap.size C #[.int .u8 0, .int .u8 0, .int .u8 0, .int .u8 0, .int .u8 0, .int .u8 0, .int .u8 0, .int .u8 0, .int .u8 0, .int .u8 0, .int .u8 0, .int .u8 0, .int .u8 0, .int .u8 0, .int .u8 0, .int .u8 0, .int .u8 0, .int .u8 0, .int .u8 0, .int .u8 0, .string ⟨#[]⟩] 27 rfl rfl (heap_alloc_new wr _) hiC hsC hoC ?_; (have hbx := setRow_heap (wr.alloc (.cells #[.int .u8 0, .int .u8 0, .int .u8 0, .int .u8 0, .int .u8 0, .int .u8 0, .int .u8 0, .int .u8 0, .int .u8 0, .int .u8 0, .int .u8 0, .int .u8 0, .int .u8 0, .int .u8 0, .int .u8 0, .int .u8 0, .int .u8 0, .int .u8 0, .int .u8 0, .int .u8 0, .string ⟨#[]⟩] 27)) wr.heap.size #[.int .u8 0, .int .u8 0, .int .u8 0, .int .u8 0, .int .u8 0, .int .u8 0, .int .u8 0, .int .u8 0, .int .u8 0, .int .u8 0, .int .u8 0, .int .u8 0, .int .u8 0, .int .u8 0, .int .u8 0, .int .u8 0, .int .u8 0, .int .u8 0, .int .u8 0, .int .u8 0, .string ⟨#[]⟩] C 27 (0, 0) (heap_alloc_new wr _)); (have hfq := Fr.laid wr #[.int .u8 0, .int .u8 0, .int .u8 0, .int .u8 0, .int .u8 0, .int .u8 0, .int .u8 0, .int .u8 0, .int .u8 0, .int .u8 0, .int .u8 0, .int .u8 0, .int .u8 0, .int .u8 0, .int .u8 0, .int .u8 0, .int .u8 0, .int .u8 0, .int .u8 0, .int .u8 0, .string ⟨#[]⟩] C 27); (obtain ⟨wq, hwq⟩ : ∃ wq, wq = (wr.alloc (.cells #[.int .u8 0, .int .u8 0, .int .u8 0, .int .u8 0, .int .u8 0, .int .u8 0, .int .u8 0, .int .u8 0, .int .u8 0, .int .u8 0, .int .u8 0, .int .u8 0, .int .u8 0, .int .u8 0, .int .u8 0, .int .u8 0, .int .u8 0, .int .u8 0, .int .u8 0, .int .u8 0, .string ⟨#[]⟩] 27)).setRow wr.heap.size C := ⟨_, rfl⟩); rw [← hwq] at hbx hfq; rw [← hwq]; (obtain ⟨g7, hg7⟩ : ∃ g7, g7 = wr.heap.size := ⟨_, rfl⟩); rw [← hg7] at hbx; rw [← hg7]; (have HQ := Lib.hid (And.intro hfq (And.intro hbx hg7))); clear hwq hbx hfq hg7))
      simp only [Act.put]
      have k5 : wq.cell? ⟨b5, 0, none⟩ = some (.map (some mb)) := cell_of_one (HQ.out.1.heap (hR.out.2.heap H1.out.2.1 (fun e => by have e' : b5 = mb := e; have := H1.out.2.2.1; have := H1.out.2.2.2.1; omega)) (fun h => h))
      have LD5 := Lib.hid (fun W (hW : Fr (fun _ => False) wq W) => load_one5 W 54 ⟨b5, 0, none⟩ (.map (some mb)) (by kernel_rfl) (hW.cell k5 (fun h => h)))
      have LDH := Lib.hid (fun W (hW : Fr (fun _ => False) wq W) => show (Instr.loadAt 24 (.pointer (some ⟨g7, 0, none⟩))).run Tryz.prog W = .ok (.agg CH) W by rw [HCH.out.1]; exact load_hash_of W g7 x (by rw [← HCH.out.2.2]; exact hW.heap HQ.out.2.1 (fun h => h)))
      clear k5
      refine wp_region_inv 5 (by kernel_rfl) (by kernel_rfl) (fun W => Fr (fun _ => False) wq W) (MiR b5 g7 mb CH S) (fun _ _ _ _ => True) (Fr (fun _ => False)) (MiR.ext b5 g7 mb CH S) (Fr.refl _ _).drew ?_ ?_
      · intro i hi o ho
        replace hi : i < 5 := hi
        obtain rfl | rfl | rfl | rfl | rfl : i = 0 ∨ i = 1 ∨ i = 2 ∨ i = 3 ∨ i = 4 := by omega
        · simp only [List.getElem?_cons_zero, Option.some.injEq] at ho
          subst ho
          intro a W vs hB hS hE hU
          refine wpG_plain rfl ?_
          have v5 : a.eval (.tmp 5) = .pointer (some ⟨b5, 0, none⟩) := (hU 5 (by kernel_rfl)).trans rfl
          clear hE hU
          exact wp_value_inv (w' := W) (.map (some mb)) (op_loadAt rfl v5 (LD5.out W hB)) ⟨_, rfl, hB, Fr.refl _ _, rfl, fun _ _ _ _ _ => trivial⟩
        · simp only [List.getElem?_cons_zero, List.getElem?_cons_succ, Option.some.injEq] at ho
          subst ho
          intro a W vs hB hS hE hU
          refine wpG_plain rfl ?_
          have v7 : a.eval (.tmp 7) = .pointer (some ⟨g7, 0, none⟩) := (hU 7 (by kernel_rfl)).trans rfl
          clear hE hU
          exact wp_value_inv (w' := W) (.pointer (some ⟨g7, 0, none⟩)) (op_fieldAddr rfl v7 (fld_spence_api_Path_0_0 W g7)) ⟨_, rfl, hB, Fr.refl _ _, rfl, fun _ _ _ _ _ => trivial⟩
        · simp only [List.getElem?_cons_zero, List.getElem?_cons_succ, Option.some.injEq] at ho
          subst ho
          intro a W vs hB hS hE hU
          refine wpG_plain rfl ?_
          obtain ⟨r1, e17⟩ := hE 1 17 (by kernel_rfl) (by kernel_rfl)
          have v17 : a.eval (.tmp 17) = .pointer (some ⟨g7, 0, none⟩) := e17.trans r1
          clear hE hU
          exact wp_value_inv (w' := W) (.agg CH) (op_loadAt rfl v17 (LDH.out W hB)) ⟨_, rfl, hB, Fr.refl _ _, rfl, fun _ _ _ _ _ => trivial⟩
        · simp only [List.getElem?_cons_zero, List.getElem?_cons_succ, Option.some.injEq] at ho
          subst ho
          intro a W vs hB hS hE hU
          refine wpG_plain rfl ?_
          obtain ⟨r2, e18⟩ := hE 2 18 (by kernel_rfl) (by kernel_rfl)
          have v18 : a.eval (.tmp 18) = .agg CH := e18.trans r2
          clear hE hU
          refine wp_call_inv 28 #[.tmp 18] #[24] rfl #[.agg CH] (by simp only [List.map_toArray, List.map_cons, List.map_nil, v18]) (ent_spence_refs_lettersOf _) (Post := fun v W' => v = .agg S ∧ Fr (fun _ => False) W W') ((HLO.out W).mono fun e w' h => ⟨_, h.1, rfl, h.2⟩) ?_
          rintro v W' ⟨rfl, hf⟩
          exact ⟨_, rfl, hB.trans hf (fun _ h => h.elim), hf, rfl, fun _ _ _ _ _ => trivial⟩
        · simp only [List.getElem?_cons_zero, List.getElem?_cons_succ, Option.some.injEq] at ho
          subst ho
          intro a W vs hB hS hE hU
          refine wpG_plain rfl ?_
          clear hE hU
          exact wp_value_inv (w' := W) (.agg #[]) (op_build rfl rfl (by kernel_rfl)) ⟨_, rfl, hB, Fr.refl _ _, rfl, fun _ _ _ _ _ => trivial⟩
      · intro vs Wa hB0 hR0 hD
        have r16 : vs 0 = .map (some mb) := hR0 0 (by decide)
        have r19 : vs 3 = .agg S := hR0 3 (by decide)
        have r20 : vs 4 = .agg #[] := hR0 4 (by decide)
        have HB := Lib.hid hB0
        clear hR0 hD hB0
        simp only [acts, if_true, dstAt, List.getElem?_cons_zero, List.getElem?_cons_succ, Option.bind_some, Act.put, List.setIfInBounds_toArray, List.set_cons_succ, List.set_cons_zero, List.drop_succ_cons]
        simp only [r16, r19, r20]
        clear r16 r19 r20
        have hsk : SkAt Wa mb kx (qL (L.take kx)) := (hR.out.1.keep HQ.out.1 (fun h => h)).keep HB.out (fun h => h)
        obtain ⟨w9, hup, hs9, hf9⟩ := hsk.put (by omega) (letL x.h) (letL_length x.h)
        rw [← HCH.out.2.1] at hup
        have H9 := Lib.hid (And.intro hs9 hf9)
        clear hsk hs9 hf9
        go_wp2_with fail
        go_roundw
        case rel => exact ⟨kx + 1, by omega, by go_num, Lib.hid ⟨H9.out.1.congr (fun t _ => (HSS.out t).symm), ((hR.out.2.trans HQ.out.1 (fun _ h => h.elim)).trans HB.out (fun _ h => h.elim)).trans H9.out.2 (fun k e => .inl e)⟩⟩
        case measure => simp [intOf]; omega
    · obtain rfl : m = kx := by omega
      have hnlt : ¬ (m : Int) < (m : Int) := by omega
      have HS := Lib.hid (show SkAt wr mb m (qL L) ∧ Fr (· = mb) W1 wr by have h := hR.out; rw [List.take_of_length_le (by rw [HM.out]; exact Nat.le_refl _)] at h; exact h)
      clear hR hlt hk
      go_wp2_with (go_at_call 40; refine (all_any _ _ _ _).mono ?_; rintro e w3 ⟨rfl, rfl⟩)
      obtain ⟨bb, hbb⟩ : ∃ bb, bb = wr.heap.size := ⟨_, rfl⟩
      obtain ⟨W0, hW0⟩ : ∃ W0, W0 = wr.alloc (.cells #[.slice ao n cap] 22) := ⟨_, rfl⟩
      have hf0 : Fr (fun _ => False) wr W0 := by rw [hW0]; exact (Fr.refl _ _).alloc _
      have hz0 : W0.heap.size = bb + 1 := by rw [hW0, hbb]; simp
      have j1 : W0.heap[bb]? = some (.cells #[.slice ao n cap] 22 (0, 0)) := by rw [hW0, hbb]; exact heap_alloc_new wr _
      rw [← hbb, ← hW0]
      have hmw := H1.out.2.2.1
      have h5w := H1.out.2.2.2.1
      have hz1 := H1.out.2.2.2.2
      have hsz := HS.out.2.size
      have hFw := HV.out.2.1
      have hmbF : ∀ k, F k → ¬ k = mb := fun k hk e => by have := hFw k hk; omega
      have hbyt : BytesIn F W0 (.slice ao n cap) b := ((HV.out.1.keep H1.out.1 (fun _ _ _ h => h)).keep HS.out.2 (fun k _ hk e => hmbF k hk e)).keep hf0 (fun _ _ _ h => h)
      have hc5 : W0.heap[b5]? = some (.cells #[.map (some mb)] 54 (0, 0)) := hf0.heap (HS.out.2.heap H1.out.2.1 (fun e => by have e' : b5 = mb := e; omega)) (fun h => h)
      obtain ⟨T, hT⟩ : ∃ T : Nat → Prop, T = fun k => k = mb ∨ W0.heap.size ≤ k := ⟨_, rfl⟩
      obtain ⟨TI, hTI⟩ : ∃ TI : Nat → Prop, TI = fun k => k = mb ∨ k = bb ∨ W0.heap.size ≤ k := ⟨_, rfl⟩
      have hT0 : ∀ k, W0.heap.size ≤ k → T k := fun k hk => by rw [hT]; exact .inr hk
      have hTI0 : ∀ k, W0.heap.size ≤ k → TI k := fun k hk => by rw [hTI]; exact .inr (.inr hk)
      have hTn : ∀ k, k ≠ mb → k < W0.heap.size → ¬ T k := fun k h1 h2 h3 => by rw [hT] at h3; rcases h3 with h3 | h3 <;> omega
      have hIt : ItA F bb (.slice ao n cap) b W0 := ⟨j1, hbyt⟩
      have hst0 : MsAt L mb b5 m TI W0 [] W0 := ⟨(HS.out.1.keep hf0 (fun h => h)).congr (fun t _ => by simp), hc5, Fr.refl _ _⟩
      have hblz : mb < W0.heap.size ∧ b5 < W0.heap.size := by omega
      have hbbz : bb < W0.heap.size := by omega
      have g1 := hTn bb (by omega) (by omega)
      have g3 : ∀ k, F k → ¬ T k := fun k hk => hTn k (hmbF k hk) (by have := hFw k hk; omega)
      have g4 : ¬ F bb := fun hk => by have := hFw bb hk; omega
      have g5 : ∀ k, F k → k < W0.heap.size := fun k hk => by have := hFw k hk; omega
      have gb6 := HV.out.2.2.2
      have hne : bb ≠ mb ∧ bb ≠ b5 := by omega
      have hfw0 : Fr (fun _ => False) w W0 := (H1.out.1.trans HS.out.2 (fun k e => .inr (by have e' : k = mb := e; omega))).trans hf0 (fun _ h => h.elim)
      have HB7 := Lib.hid (show w.heap.size ≤ bb by omega)
      have HW := Lib.hid (And.intro hT (And.intro hTI (And.intro hfw0 (And.intro hmw (And.intro hblz (And.intro hne hbbz))))))
      clear hf0 hz0 j1 hmw h5w hz1 hsz hFw hmbF hbyt hc5 hT hTI hfw0 hW0 hbb hnlt
      refine (wpIn_wide (n := 3)).1 ?_
      refine wpIn_rangeBox (T := T) (by decide) (gf := 68) (Bb := bb) (lb := #[.pointer (some ⟨bb, 0, none⟩)]) rfl (enters_of Tryz.func68 (by kernel_rfl) rfl) hbbz
        (all_box (T := T) 2 bb _ b (by omega) g1 g3 g4 W0 g5 hIt) hT0 (fun _ => rfl)
        (fun (pre : List Ls) W => MsAt L mb b5 m TI W0 pre W)
        (fun c (pre : List Ls) W => c = .exit 2 ∧ ∃ (ini : List Ls) (x : Ls), pre = ini ++ [x] ∧ MsAt L mb b5 m TI W0 ini W ∧ ∀ t : List UInt8, t.length = 32 → (qL L t && !ini.any (fun y => decide (y.1 = t))) = false)
        (fun pre A B row hs hg hr => hs.grown hblz hTI0 hg hr)
        (fun c pre A B row hs hg hr => by
          obtain ⟨e0, ini, x, e1, e2, e3⟩ := hs
          exact ⟨e0, ini, x, e1, e2.grown hblz hTI0 hg hr, e3⟩)
        (fun pre V u h => h.keep (Fr.cell1 V bb 0 u) (fun e => hne.1 e.symm) (fun e => hne.2 e.symm) (fun k e => by rw [HW.out.2.1]; exact .inr (.inl e)))
        hst0
        (fun x a' W => ∃ Bx, W0.heap.size ≤ Bx ∧ W.heap[Bx]? = some (.cells (ltC x.1) 51 (0, 0)) ∧ a' = ⟨#[.slice ao n cap, .slice au m cu, undef, undef, .map none, .pointer (some ⟨b5, 0, none⟩), undef, u7, .pointer (some ⟨Bx, 0, none⟩), .map (some mb), .slice au m cu, .int .i64 (m : Nat), .int .i64 (m : Nat), .bool false, u14, u15, u16, u17, u18, u19, u20, u21, .slice ao n cap, .func (.func 68) #[] #[.pointer (some ⟨bb, 0, none⟩)], .agg (ltC x.1), undef, undef, undef, undef, undef, undef], []⟩)
        (fun x a' s A B row hs hg hr => by
          obtain ⟨Bx, h1, h2, h3⟩ := hs
          refine ⟨Bx, h1, ((Fr.refl (fun k => row = some k) A).grown hg (fun k hk => .inl hk)).heap h2 (fun e => ?_), h3⟩
          obtain ⟨o, ho, hc⟩ := (hr _ e).2
          rw [h2] at ho
          cases ho
          cases hc) ?assign ?body ?done ?stop
      case assign =>
        rintro l pre x W K hi hK
        have hzi : (Tryz.prog.info? 51).map (·.size) = some (ltC x.1).size := by rw [ltC_size, x.2]; kernel_rfl
        have hzz : (#[.int .u8 0, .int .u8 0, .int .u8 0, .int .u8 0, .int .u8 0, .int .u8 0, .int .u8 0, .int .u8 0, .int .u8 0, .int .u8 0, .int .u8 0, .int .u8 0, .int .u8 0, .int .u8 0, .int .u8 0, .int .u8 0, .int .u8 0, .int .u8 0, .int .u8 0, .int .u8 0, .int .u8 0, .int .u8 0, .int .u8 0, .int .u8 0, .int .u8 0, .int .u8 0, .int .u8 0, .int .u8 0, .int .u8 0, .int .u8 0, .int .u8 0, .int .u8 0] : Array Value).size = (ltC x.1).size := Eq.trans (b := 32) rfl (by rw [ltC_size, x.2])
        have hl1 := ltC_one x.1
        simp only [encL]
        have HK := Lib.hid hK
        have HI := Lib.hid hi
        have hsw : W0.heap.size ≤ W.heap.size := hi.2.2.size
        clear hK hi
        gi_wp2_with (with_reducible refine wpListIn_store_new (.round l) rfl 51 (.tmp 8) (.tmp 24) rfl (ltC x.1) #[.int .u8 0, .int .u8 0, .int .u8 0, .int .u8 0, .int .u8 0, .int .u8 0, .int .u8 0, .int .u8 0, .int .u8 0, .int .u8 0, .int .u8 0, .int .u8 0, .int .u8 0, .int .u8 0, .int .u8 0, .int .u8 0, .int .u8 0, .int .u8 0, .int .u8 0, .int .u8 0, .int .u8 0, .int .u8 0, .int .u8 0, .int .u8 0, .int .u8 0, .int .u8 0, .int .u8 0, .int .u8 0, .int .u8 0, .int .u8 0, .int .u8 0, .int .u8 0] 51 W rfl rfl rfl hzi hzz hl1 ?_)
        refine HK.out _ _ (keepsFrom10 (S := fun _ => False) ((Fr.refl _ _).alloc _) (fun _ h => h.elim)) ((Fr.refl _ _).alloc _) (HI.out.keep (S := fun _ => False) ((Fr.refl _ _).alloc _) (fun h => h) (fun h => h) (fun _ h => h.elim)) ⟨W.heap.size, hsw, heap_alloc_new W _, rfl⟩
      case body =>
        rintro l9 pre x a' W hll hst ⟨Bx, hBx, hbx, rfl⟩ hlt9
        have k5 := cell_of_one hst.2.1
        obtain ⟨kz, hln, hkN, hk0⟩ := hst.1.len 3
        have HI := Lib.hid hst
        by_cases hkz : kz = 0
        · have hb0 : ((kz : Int) == 0) = true := by rw [beq_iff_eq]; omega
          have hno := hk0 hkz
          have HNO := Lib.hid hno
          clear hst hk0 hno hkz
          gi_wp2
          exact ⟨KeepsFrom.refl _ _, rfl, pre, x, rfl, HI.out, HNO.out⟩
        · have hb0 : ((kz : Int) == 0) = false := by rw [beq_eq_false_iff_ne]; omega
          obtain ⟨w9, hdl, hs9, hf9⟩ := hst.1.del x.1 x.2 0
          have hld := load_let W Bx 0 (x.1.map bv) (fun j v hv => by rw [Nat.zero_add, cell_of_row _ _ _ _ _ _ hbx]; unfold ltC; rw [List.getElem?_toArray]; exact hv) (by rw [List.length_map]; exact x.2)
          have H9 := Lib.hid (And.intro hs9 hf9)
          clear hst hk0 hkz hs9 hf9
          gi_wp2_with (first
            | (refine wpListIn_value (.round l9) rfl (by intro c h; cases h) (.agg (ltC x.1)) W (op_load10 rfl rfl hld) ?_)
            | (refine wpListIn_value (.round l9) rfl (by intro c h; cases h) (.tuple #[]) w9 (op_delete10 rfl rfl rfl hdl) ?_))
          exact ⟨keepsFrom10 H9.out.2 (fun k e => by have e' : k = mb := e; omega), H9.out.2.mono (fun k _ e => by rw [HW.out.1]; exact .inl e), H9.out.1.congr (fun t _ => qs_snoc L pre x t), H9.out.2.heap HI.out.2.1 (fun e => by have e' : b5 = mb := e; have := HW.out.2.2.2.1; have := H1.out.2.2.2.1; omega), HI.out.2.2.trans H9.out.2 (fun k e => .inl (by rw [HW.out.2.1]; exact .inl e))⟩
      case done =>
        rintro D ys W hD rfl hst hK
        have k5 := cell_of_one hst.2.1
        have HI := Lib.hid hst
        have HK := Lib.hid hK
        clear hst hK
        go_wp2
        refine ⟨by simp, .inl ⟨_, _, rfl, run_takeDeferred HK.out, ?_⟩⟩
        have hfd := fr_putObj (T := (· = D)) W D (.deferred none) rfl
        have hDm : mb ≠ D := by have := HW.out.2.2.2.2.1; omega
        refine ⟨_, results_tmp rfl _ _ _, mb, m, rfl, (HI.out.1.keep hfd hDm).congr (fun t ht => by rw [any_win b t ht]), (HW.out.2.2.1.trans (S := fun _ => False) HI.out.2.2 (fun k hk => ?_)).trans hfd (fun k e => .inr (by have : k = D := e; have := HW.out.2.2.1.size; omega)), by rw [HW.out.2.2.2.1]; exact Nat.le_refl _⟩
        rw [HW.out.2.1] at hk
        have := HW.out.2.2.1.size
        have := HW.out.2.2.2.1
        have := HB7.out
        rcases hk with hk | hk | hk <;> exact .inr (by omega)
      case stop =>
        rintro D c pre W hD hpre ⟨rfl, ini, x, e1, hst, hno⟩ hK
        have hno2 : ∀ t : List UInt8, t.length = 32 → (qL L t && !ini.any (fun y => decide (y.1 = t))) = (qL L t && !anyR b t) := fun t ht => by
          have h1 := hno t ht
          rw [h1]
          rw [← any_win b t ht]
          obtain ⟨rest, hr⟩ := hpre
          rw [← hr, e1, List.any_append, List.any_append]
          cases hq : qL L t with
          | false => rfl
          | true =>
            rw [hq, Bool.true_and] at h1
            have h2 : ini.any (fun y => decide (y.1 = t)) = true := by simpa using h1
            rw [h2]
            rfl
        have k5 := cell_of_one hst.2.1
        have HI := Lib.hid hst
        have HK := Lib.hid hK
        have HNO := Lib.hid hno2
        clear hst hK hno hno2 e1 hpre
        gi_wp2
        go_wp2
        refine ⟨by simp, .inl ⟨_, _, rfl, run_takeDeferred HK.out, ?_⟩⟩
        have hfd := fr_putObj (T := (· = D)) W D (.deferred none) rfl
        have hDm : mb ≠ D := by have := HW.out.2.2.2.2.1; omega
        refine ⟨_, results_tmp rfl _ _ _, mb, m, rfl, (HI.out.1.keep hfd hDm).congr (fun t ht => HNO.out t ht), (HW.out.2.2.1.trans (S := fun _ => False) HI.out.2.2 (fun k hk => ?_)).trans hfd (fun k e => .inr (by have : k = D := e; have := HW.out.2.2.1.size; omega)), by rw [HW.out.2.2.2.1]; exact Nat.le_refl _⟩
        rw [HW.out.2.1] at hk
        have := HW.out.2.2.1.size
        have := HW.out.2.2.2.1
        have := HB7.out
        rcases hk with hk | hk | hk <;> exact .inr (by omega)
theorem fMissing_any {F G : Nat → Prop} (w : World) (v u : Value) (b : List UInt8) (L : List PathX) (hv : BytesIn F w v b) (hF : ∀ k, F k → k < w.heap.size) (hu : PathsIn G w u L) (hG : ∀ k, G k → k < w.heap.size) (hL : L.length ≤ 1000) (hb : b.length ≤ 1000000) :
    Calls Tryz.prog 29 #[v, u] w fun e w' => ∃ mb N, e = .returned (.map (some mb)) ∧ SkAt w' mb N (fun t => qL L t && !anyR b t) ∧ Fr (fun _ => False) w w' ∧ w.heap.size ≤ mb := callsIn_wide.1 (fMissing_in w v u b L hv hF hu hG hL hb)
end Go.Proofs.YtfkgdjoaoidkeaaGreat
