/- Laid together: BFirst -/
import Derived.Test.YthghkognpgndhaaBf5
import Derived.Test.YthghkognpgndhaaBf6

namespace Go.Proofs.Ythghkognpgndhaa
open Go.RowKit Go.ChangeShapes
set_option linter.unusedVariables false
theorem op_extract7 {P : Program} {w : World} {o : Oper} {a : Act} {x : Operand} {i : Nat} {vs : Array Value} {v : Value} (ho : o.op = .extract x i) (hx : a.eval x = .tuple vs) (hv : vs[i]? = some v) : (execOp a.eval o).run P w = .ok (.value v) w := by
  unfold execOp
  rw [ho]
  simp only [hx, Instr.extract, hv]
  rfl
theorem ent_spence_blob_Free (args : Array Value) (w : World) : (callFunc 12 args).run Try.prog w = .ok (.enter 12 args) w := by kernel_rfl
def BgR (b3 n na ch ca l0 la d z : Nat) (l m : List Rn) (rr : Rn) (ah aa : Option Addr) (nx q : Nat) (i : Nat) (v : Value) (W : World) : Prop :=
  match i with
  | 0 => v = .agg #[.int .i64 (l0 : Nat), .int .i64 (la : Nat), .int .i64 (d : Nat)]
  | 1 => ∃ gz, v = .slice (some ⟨gz, 0, none⟩) 0 0 ∧ OwnRn z W (.slice (some ⟨gz, 0, none⟩) 0 0) []
  | 2 => v = .slice ah n ch
  | 3 => ∃ ag cg, v = .slice ag n cg ∧ OwnRn z W (.slice ag n cg) l
  | 4 => v = .slice aa na ca
  | 5 => ∃ ag cg, v = .slice ag nx cg ∧ OwnRn z W (.slice ag nx cg) (l ++ m)
  | 6 => v = .tuple #[.int .i64 (q : Nat), .int .i64 0]
  | 7 => v = .tuple #[.int .i64 (q : Nat), .int .i64 0]
  | 8 => v = .int .i64 (q : Nat)
  | 9 => v = .int .i64 0
  | 10 => v = .int .i64 (q : Nat)
  | _ => True
theorem BgR.ext (b3 n na ch ca l0 la d z : Nat) (l m : List Rn) (rr : Rn) (ah aa : Option Addr) (nx q : Nat) : ∀ (j : Nat) (u : Value) (W W' : World), ExtB z (l ++ m) rr false W W' → BgR b3 n na ch ca l0 la d z l m rr ah aa nx q j u W → BgR b3 n na ch ca l0 la d z l m rr ah aa nx q j u W'
  | 0, u, W, W', hf, h => h
  | 1, u, W, W', hf, h => (let ⟨gz, h1, h2⟩ := h; ⟨gz, h1, hf.own _ _ List.nil_prefix h2⟩)
  | 2, u, W, W', hf, h => h
  | 3, u, W, W', hf, h => (let ⟨x, y, h1, h2⟩ := h; ⟨x, y, h1, hf.own _ _ (List.prefix_append _ _) h2⟩)
  | 4, u, W, W', hf, h => h
  | 5, u, W, W', hf, h => (let ⟨x, y, h1, h2⟩ := h; ⟨x, y, h1, hf.own _ _ (List.prefix_refl _) h2⟩)
  | 6, u, W, W', hf, h => h
  | 7, u, W, W', hf, h => h
  | 8, u, W, W', hf, h => h
  | 9, u, W, W', hf, h => h
  | 10, u, W, W', hf, h => h
  | _ + 11, u, W, W', hf, h => trivial
def BhR (b3 n na ch ca l0 la d z2 : Nat) (l m1 : List Rn) (rq : Rn) (ah aa : Option Addr) (n1 t7 : Nat) (bb : Bool) (i : Nat) (v : Value) (W : World) : Prop :=
  match i with
  | 0 => v = .agg #[.int .i64 (l0 : Nat), .int .i64 (la : Nat), .int .i64 (d : Nat)]
  | 1 => ∃ gz, v = .slice (some ⟨gz, 0, none⟩) 0 0 ∧ OwnRn z2 W (.slice (some ⟨gz, 0, none⟩) 0 0) []
  | 2 => v = .slice ah n ch
  | 3 => ∃ ag cg, v = .slice ag n cg ∧ OwnRn z2 W (.slice ag n cg) l
  | 4 => v = .int .i64 (t7 : Nat)
  | 5 => v = .agg #[.int .i64 (t7 : Nat), .int .i64 1]
  | 6 => ∃ g, v = .slice (some ⟨g, 0, none⟩) 1 1 ∧ W.heap[g]? = some (.cells #[.int .i64 rq.1, .int .i64 rq.2] 68 (0, 0))
  | 7 => ∃ ag cg, v = .slice ag n1 cg ∧ OwnRn z2 W (.slice ag n1 cg) (l ++ m1)
  | 8 => v = .bool bb
  | _ => True
theorem BhR.ext (b3 n na ch ca l0 la d z2 : Nat) (l m1 : List Rn) (rq : Rn) (ah aa : Option Addr) (n1 t7 : Nat) (bb : Bool) : ∀ (j : Nat) (u : Value) (W W' : World), ExtB z2 (l ++ m1) rq true W W' → BhR b3 n na ch ca l0 la d z2 l m1 rq ah aa n1 t7 bb j u W → BhR b3 n na ch ca l0 la d z2 l m1 rq ah aa n1 t7 bb j u W'
  | 0, u, W, W', hf, h => h
  | 1, u, W, W', hf, h => (let ⟨gz, h1, h2⟩ := h; ⟨gz, h1, hf.own _ _ List.nil_prefix h2⟩)
  | 2, u, W, W', hf, h => h
  | 3, u, W, W', hf, h => (let ⟨x, y, h1, h2⟩ := h; ⟨x, y, h1, hf.own _ _ (List.prefix_append _ _) h2⟩)
  | 4, u, W, W', hf, h => h
  | 5, u, W, W', hf, h => h
  | 6, u, W, W', hf, h => (let ⟨g, h1, h2⟩ := h; ⟨g, h1, hf.one rfl _ h2⟩)
  | 7, u, W, W', hf, h => (let ⟨x, y, h1, h2⟩ := h; ⟨x, y, h1, hf.own _ _ (List.prefix_refl _) h2⟩)
  | 8, u, W, W', hf, h => h
  | _ + 9, u, W, W', hf, h => trivial
def BiR (b3 n na ch ca l0 la d z3 : Nat) (l m : List Rn) (rr : Rn) (ah aa : Option Addr) (nx k q : Nat) (i : Nat) (v : Value) (W : World) : Prop :=
  match i with
  | 0 => v = .int .i64 (k : Nat)
  | 1 => v = .int .i64 (k : Nat)
  | 2 => v = .bool true
  | 3 => v = .bool true
  | 4 => v = .agg #[.int .i64 (l0 : Nat), .int .i64 (la : Nat), .int .i64 (d : Nat)]
  | 5 => ∃ gz, v = .slice (some ⟨gz, 0, none⟩) 0 0 ∧ OwnRn z3 W (.slice (some ⟨gz, 0, none⟩) 0 0) []
  | 6 => v = .slice ah n ch
  | 7 => ∃ ag cg, v = .slice ag n cg ∧ OwnRn z3 W (.slice ag n cg) l
  | 8 => v = .slice aa na ca
  | 9 => ∃ ag cg, v = .slice ag nx cg ∧ OwnRn z3 W (.slice ag nx cg) (l ++ m)
  | 10 => v = .bool true
  | 11 => v = .bool true
  | 12 => v = .bool true
  | 13 => v = .int .i64 (q : Nat)
  | 14 => v = .int .i64 (q : Nat)
  | 15 => v = .bool true
  | 16 => v = .bool true
  | 17 => v = .bool true
  | _ => True
theorem BiR.ext (b3 n na ch ca l0 la d z3 : Nat) (l m : List Rn) (rr : Rn) (ah aa : Option Addr) (nx k q : Nat) : ∀ (j : Nat) (u : Value) (W W' : World), ExtB z3 (l ++ m) rr false W W' → BiR b3 n na ch ca l0 la d z3 l m rr ah aa nx k q j u W → BiR b3 n na ch ca l0 la d z3 l m rr ah aa nx k q j u W'
  | 0, u, W, W', hf, h => h
  | 1, u, W, W', hf, h => h
  | 2, u, W, W', hf, h => h
  | 3, u, W, W', hf, h => h
  | 4, u, W, W', hf, h => h
  | 5, u, W, W', hf, h => (let ⟨gz, h1, h2⟩ := h; ⟨gz, h1, hf.own _ _ List.nil_prefix h2⟩)
  | 6, u, W, W', hf, h => h
  | 7, u, W, W', hf, h => (let ⟨x, y, h1, h2⟩ := h; ⟨x, y, h1, hf.own _ _ (List.prefix_append _ _) h2⟩)
  | 8, u, W, W', hf, h => h
  | 9, u, W, W', hf, h => (let ⟨x, y, h1, h2⟩ := h; ⟨x, y, h1, hf.own _ _ (List.prefix_refl _) h2⟩)
  | 10, u, W, W', hf, h => h
  | 11, u, W, W', hf, h => h
  | 12, u, W, W', hf, h => h
  | 13, u, W, W', hf, h => h
  | 14, u, W, W', hf, h => h
  | 15, u, W, W', hf, h => h
  | 16, u, W, W', hf, h => h
  | 17, u, W, W', hf, h => h
  | _ + 18, u, W, W', hf, h => trivial
set_option maxRecDepth 100000 in
theorem lSectA (w : World) (L A D : Int) :
    Calls Try.prog 36 #[.agg #[.int .i64 L, .int .i64 A, .int .i64 D]] w fun e w' => e = .returned (.int .i64 (secsS L A D)) ∧ Fr (fun _ => False) w w' := by
  cases hr : rightS L A D with
  | true =>
    obtain ⟨l0, a0, d0, s0, rfl, rfl, rfl, hs⟩ := rightS_ok hr
    have e : secsS (l0 : Int) a0 d0 = (s0 : Int) := by unfold secsS; rw [if_pos hr, hs.sum]; push_cast; rfl
    rw [e]
    exact lSectors_any w l0 a0 d0 s0 hs
  | false =>
    have e : secsS L A D = 0 := by unfold secsS; rw [if_neg (by rw [hr]; decide)]
    rw [e]
    have hc := lRight_any (w.alloc (.cells #[.int .i64 L, .int .i64 A, .int .i64 D] 23)) L A D
    rw [hr] at hc
    have HC := Lib.hid hc
    clear hc hr e
    go_enter Try.func36, Try.ntmps36
    go_wp2_with (go_at_call 35; refine HC.out.mono ?_; rintro e w1 ⟨rfl, hf⟩; (have H1 := Lib.hid hf); clear hf)
    go_ret
    exact ⟨rfl, ((Fr.refl (fun _ => False) w).alloc _).trans H1.out (fun _ h => h.elim)⟩
theorem FindP.len {w w' : World} {ao : Option Addr} {n c : Nat} {m : List Rn} (h : RnsIn (fun k => w.heap.size ≤ k) w' (.slice ao n c) m) : n = m.length := by
  obtain ⟨_, _, hv, _⟩ := h.open7
  simp only [Value.slice.injEq] at hv
  exact hv.2.1
theorem end7_take {l : List Rn} {i : Nat} (h : i < l.length) : end7 (l.take (i + 1)) = l[i].1 + l[i].2 := by rw [List.take_succ_eq_append_getElem h, end7_snoc]
set_option maxRecDepth 100000 in
set_option maxHeartbeats 4000000 in
theorem blobFirst_any (w : World) (L A D many : Int) (hm1 : -9223372036854775808 ≤ many) (hm2 : many ≤ 9223372036854775807) (v : Value) (l : List Rn) (hl : RnsIn (fun k => k < w.heap.size) w v l) :
    Calls Try.prog 7 #[.agg #[.int .i64 L, .int .i64 A, .int .i64 D], .int .i64 many, v] w fun e w' => e = .returned (.bool true) ∧ Fr (fun _ => False) w w' := by
  obtain ⟨ah, ch, rfl, hc1, hc2, -⟩ := hl.open7
  obtain ⟨n, hn⟩ : ∃ n, n = l.length := ⟨_, rfl⟩
  rw [← hn] at hc1 hl ⊢
  obtain ⟨W1, hW1⟩ : ∃ W1, W1 = w.alloc (.cells #[.int .i64 L, .int .i64 A, .int .i64 D] 23) := ⟨_, rfl⟩
  have hf1 : Fr (fun _ => False) w W1 := by rw [hW1]; exact (Fr.refl _ _).alloc _
  have hrow : W1.heap[w.heap.size]? = some (.cells #[.int .i64 L, .int .i64 A, .int .i64 D] 23 (0, 0)) := by rw [hW1]; exact heap_alloc_new w _
  have hl1 := (hl.quiet hf1)
  have HAW := Lib.hid awake7_any
  have HW := Lib.hid hW1
  have HX := Lib.hid (And.intro hf1 (And.intro hrow (And.intro hl1 (And.intro hn (show w.heap.size + 1 ≤ W1.heap.size by rw [hW1]; simp)))))
  have hshape : ∀ W : World, Fr (fun _ => False) W1 W → W.cell? ⟨w.heap.size, 0, none⟩ = some (.int .i64 L) ∧ W.cell? ⟨w.heap.size, 1, none⟩ = some (.int .i64 A) ∧ W.cell? ⟨w.heap.size, 2, none⟩ = some (.int .i64 D) := fun W hW => row3_cells (hW.heap HX.out.2.1 id)
  have HSH := Lib.hid hshape
  have HSE := Lib.hid (fun W => lSectA W L A D)
  have HAP := Lib.hid (fun (W : World) (F : Nat → Prop) (v : Value) (hL : RnsIn F W v l) (hF : ∀ k, F k → k < W.heap.size) => bApart_any W L A D v l hL hF)
  clear hW1 hf1 hrow hl1 hn hl hshape
  by_cases h1 : 60 < n
  · have hg : (60 : Int) < (n : Int) := by omega
    go_enter Try.func7, Try.ntmps7
    go_wp2_with (go_at_call 9; rw [← HW.out]; refine (HAW.out _).mono ?_; rintro e w2 ⟨rfl, hf⟩; (have H2 := Lib.hid hf); clear hf)
    go_ret
    exact ⟨rfl, HX.out.1.trans H2.out (fun _ h => h.elim)⟩
  · have hg : ¬ (60 : Int) < (n : Int) := by omega
    obtain ⟨sx, hsx⟩ : ∃ sx, sx = secsS L A D := ⟨_, rfl⟩
    rw [← hsx] at HSE
    clear hsx
    by_cases h2 : 60 < sx
    · go_enter Try.func7, Try.ntmps7
      go_wp2_with (first
        | (go_at_call 9; rw [← HW.out]; refine (HAW.out _).mono ?_; rintro e w2 ⟨rfl, hf⟩; (obtain ⟨s0, s1, s2⟩ := HSH.out w2 hf); (have H2 := Lib.hid hf); clear hf)
        | (go_at_call 36; refine (HSE.out _).mono ?_; rintro e w3 ⟨rfl, hf⟩; (have H3 := Lib.hid hf); clear hf))
      go_ret
      exact ⟨rfl, (HX.out.1.trans H2.out (fun _ h => h.elim)).trans H3.out (fun _ h => h.elim)⟩
    · cases hap : ap7 L A D l with
      | false =>
        rw [hap] at HAP
        clear hap
        go_enter Try.func7, Try.ntmps7
        go_wp2_with (first
          | (go_at_call 9; rw [← HW.out]; refine (HAW.out _).mono ?_; rintro e w2 ⟨rfl, hf⟩; (obtain ⟨s0, s1, s2⟩ := HSH.out w2 hf); (have H2 := Lib.hid hf); clear hf)
          | (go_at_call 36; refine (HSE.out _).mono ?_; rintro e w3 ⟨rfl, hf⟩; (obtain ⟨s0, s1, s2⟩ := HSH.out w3 (H2.out.trans hf (fun _ h => h.elim))); (have H3 := Lib.hid (H2.out.trans hf (fun _ h => h.elim))); clear hf)
          | (go_at_call 16; refine (HAP.out w3 _ _ (HX.out.2.2.1.quiet H3.out) (fun k hk => by have := HX.out.2.2.2.2; have := H3.out.size; omega)).mono ?_; rintro e w4 ⟨rfl, hf⟩; (have H4 := Lib.hid (H3.out.trans hf (fun _ h => h.elim))); clear hf))
        go_ret
        exact ⟨rfl, HX.out.1.trans H4.out (fun _ h => h.elim)⟩
      | true =>
        obtain ⟨l0, la, d, s0', rfl, rfl, rfl, hs, hap0⟩ := ap7_open hap
        rw [hap] at HAP
        by_cases h3 : many < 1
        · clear hap
          go_enter Try.func7, Try.ntmps7
          go_wp2_with (first
            | (go_at_call 9; rw [← HW.out]; refine (HAW.out _).mono ?_; rintro e w2 ⟨rfl, hf⟩; (obtain ⟨s0, s1, s2⟩ := HSH.out w2 hf); (have H2 := Lib.hid hf); clear hf)
            | (go_at_call 36; refine (HSE.out _).mono ?_; rintro e w3 ⟨rfl, hf⟩; (obtain ⟨s0, s1, s2⟩ := HSH.out w3 (H2.out.trans hf (fun _ h => h.elim))); (have H3 := Lib.hid (H2.out.trans hf (fun _ h => h.elim))); clear hf)
            | (go_at_call 16; refine (HAP.out w3 _ _ (HX.out.2.2.1.quiet H3.out) (fun k hk => by have := HX.out.2.2.2.2; have := H3.out.size; omega)).mono ?_; rintro e w4 ⟨rfl, hf⟩; (have H4 := Lib.hid (H3.out.trans hf (fun _ h => h.elim))); clear hf))
          go_ret
          exact ⟨rfl, HX.out.1.trans H4.out (fun _ h => h.elim)⟩
        · obtain ⟨k, rfl⟩ : ∃ k : Nat, many = k := ⟨many.toNat, by omega⟩
          have hk1 : 1 ≤ k := by omega
          have hd : d ≤ 8192 := by have := hs.sum; have := hs.most; omega
          have hfa : findA (l0 : Int) la d k l = if (free7 d l).length < k then (7, []) else (0, find7 d l k) := by
            unfold findA
            rw [if_neg (by unfold bad7; rw [hap]; simp)]
            simp
          have HFI := Lib.hid (fun (W : World) (F : Nat → Prop) (hL : RnsIn F W (.slice ah n ch) l) (hF : ∀ k, F k → k < W.heap.size) => bFindA W l0 la d k _ l hL hF hm2)
          rw [hfa] at HFI
          clear hfa hap
          by_cases h4 : (free7 d l).length < k
          · rw [if_pos h4] at HFI
            go_enter Try.func7, Try.ntmps7
            go_wp2_with (first
              | (go_at_call 9; rw [← HW.out]; refine (HAW.out _).mono ?_; rintro e w2 ⟨rfl, hf⟩; (obtain ⟨s0, s1, s2⟩ := HSH.out w2 hf); (have H2 := Lib.hid hf); clear hf)
              | (go_at_call 36; refine (HSE.out _).mono ?_; rintro e w3 ⟨rfl, hf⟩; (obtain ⟨s0, s1, s2⟩ := HSH.out w3 (H2.out.trans hf (fun _ h => h.elim))); (have H3 := Lib.hid (H2.out.trans hf (fun _ h => h.elim))); clear hf)
              | (go_at_call 16; refine (HAP.out w3 _ _ (HX.out.2.2.1.quiet H3.out) (fun k hk => by have := HX.out.2.2.2.2; have := H3.out.size; omega)).mono ?_; rintro e w4 ⟨rfl, hf⟩; (obtain ⟨s0, s1, s2⟩ := HSH.out w4 (H3.out.trans hf (fun _ h => h.elim))); (have H4 := Lib.hid (H3.out.trans hf (fun _ h => h.elim))); clear hf)
              | (go_at_call 10; refine (HFI.out w4 _ (HX.out.2.2.1.quiet H4.out) (fun k hk => by have := HX.out.2.2.2.2; have := H4.out.size; omega)).mono ?_; rintro e w5 ⟨aa, na, ca, rfl, hr, hf⟩; (obtain rfl : na = 0 := FindP.len hr); (have H5 := Lib.hid (H4.out.trans hf (fun _ h => h.elim))); clear hf hr))
            go_ret
            exact ⟨rfl, HX.out.1.trans H5.out (fun _ h => h.elim)⟩
          · rw [if_neg h4] at HFI
            obtain ⟨m, hm⟩ : ∃ m, m = find7 d l k := ⟨_, rfl⟩
            rw [← hm] at HFI
            have hkf : k ≤ (free7 d l).length := by omega
            obtain ⟨ee, hend, heed, hcnt⟩ := find7_count hk1 hkf
            have hapx : apart7 d (l ++ m) = true := by rw [hm]; exact find7_apart k hap0
            have hms : (secs7 m).length = k := by rw [hm, find7_secs, List.length_take]; omega
            have hrise : Rise m := by rw [hm]; exact (joins7_rise _ ((free7_sorted d l).sublist (List.take_sublist _ _))).1
            rw [← hm] at hend hcnt
            have hok : ∀ r ∈ m, rnOk d r = true := fun r hr => (apart7_iff.1 hapx).1 r (List.mem_append_right _ hr)
            have hkd : k ≤ 8192 := by have := free7_length hap0; omega
            have hsecm : (secs7 m).length ≤ 8192 := by omega
            have hmn : many7 m = k := by rw [many7_eq hok, hms]
            obtain ⟨q, hq⟩ : ∃ q, q = (free7 d (l ++ m)).length := ⟨_, rfl⟩
            have hqd : q ≤ 8192 := by have := free7_length hapx; omega
            have HM := Lib.hid (And.intro hend (And.intro hcnt (And.intro hapx (And.intro hrise (And.intro hok (And.intro hsecm (And.intro hmn (And.intro hq (And.intro hs hap0)))))))))
            have HKD := Lib.hid (And.intro hk1 (And.intro hkd (And.intro heed hqd)))
            have hnb : n ≤ 60 := by omega
            have d1 : decide ((60 : Int) < (n : Int)) = false := by rw [decide_eq_false_iff_not]; omega
            have d2 : decide ((60 : Int) < sx) = false := by rw [decide_eq_false_iff_not]; omega
            have d3 : decide ((k : Int) < 1) = false := by rw [decide_eq_false_iff_not]; omega
            have d1b : decide (60 < n) = false := by rw [decide_eq_false_iff_not]; omega
            have HNB := Lib.hid hnb
            clear hm hend hcnt hapx hms hrise hok hsecm hmn hq hap0 hs hkf h4 hqd h1 h2 h3 hg hnb
            go_enter Try.func7, Try.ntmps7
            go_wp2_with (first
              | (go_at_call 9; rw [← HW.out]; refine (HAW.out _).mono ?_; rintro e w2 ⟨rfl, hf⟩; (obtain ⟨s0, s1, s2⟩ := HSH.out w2 hf); (have H2 := Lib.hid hf); clear hf)
              | (go_at_call 36; refine (HSE.out _).mono ?_; rintro e w3 ⟨rfl, hf⟩; (obtain ⟨s0, s1, s2⟩ := HSH.out w3 (H2.out.trans hf (fun _ h => h.elim))); (have H3 := Lib.hid (H2.out.trans hf (fun _ h => h.elim))); clear hf)
              | (go_at_call 16; refine (HAP.out w3 _ _ (HX.out.2.2.1.quiet H3.out) (fun k hk => by have := HX.out.2.2.2.2; have := H3.out.size; omega)).mono ?_; rintro e w4 ⟨rfl, hf⟩; (obtain ⟨s0, s1, s2⟩ := HSH.out w4 (H3.out.trans hf (fun _ h => h.elim))); (have H4 := Lib.hid (H3.out.trans hf (fun _ h => h.elim))); clear hf)
              | (go_at_call 10; refine (HFI.out w4 _ (HX.out.2.2.1.quiet H4.out) (fun k hk => by have := HX.out.2.2.2.2; have := H4.out.size; omega)).mono ?_; rintro e w5 ⟨aa, na, ca, rfl, hr, hf⟩; (have hna := FindP.len hr); (have H5 := Lib.hid (And.intro (H4.out.trans hf (fun _ h => h.elim)) (And.intro (hr.mono (G := fun j => j < w5.heap.size) (fun j hj _ => hj)) hna))); clear hf hr hna s0 s1 s2))
            clear d1 d2 d3 d1b
            obtain ⟨_, _, hsl, hna1, hna2, b2, off2, hao2, hcells2⟩ := H5.out.2.1.open7
            simp only [Value.slice.injEq] at hsl
            have HCE := Lib.hid (show ∀ i (h : i < m.length), aa = some ⟨b2, off2, none⟩ ∧ w5.cell? ⟨b2, off2 + i * 2, none⟩ = some (.int .i64 m[i].1) ∧ w5.cell? ⟨b2, off2 + i * 2 + 1, none⟩ = some (.int .i64 m[i].2) from fun i h => ⟨by rw [hsl.1]; exact (hao2 (by omega)).1, hcells2 i h⟩)
            have HNA := Lib.hid H5.out.2.2
            clear hsl hna1 hna2 hao2 hcells2
            have hna8 : na ≤ 8192 := by have := secs7_many HM.out.2.2.2.2.1; have := HM.out.2.2.2.2.2.1; have := HNA.out; omega
            go_loopw [9, 10, 11] (fun nv ev iv wr => ∃ (i : Nat) (t e : Int), i ≤ na ∧ iv = .int .i64 i ∧ nv = .int .i64 t ∧ ev = .int .i64 e ∧ Hid (t = many7 (m.take i) ∧ e = end7 (m.take i) ∧ Fr (fun _ => False) w5 wr)) (fun _ _ iv _ => na - (intOf iv).toNat)
            case atStart => exact ⟨0, 0, 0, by omega, rfl, rfl, rfl, Lib.hid ⟨rfl, rfl, Fr.refl _ _⟩⟩
            case round =>
              obtain ⟨i, t, e, hi, rfl, rfl, rfl, hR⟩ := hrel
              by_cases hlt : i < na
              · have hiL : i < m.length := by have := HNA.out; omega
                obtain ⟨haa, hc0, hc1'⟩ := HCE.out i hiL
                have f0 := hR.out.2.2.cell hc0 id
                have f1 := hR.out.2.2.cell hc1' id
                have hrk := rnOk_iff.1 (HM.out.2.2.2.2.1 _ (List.getElem_mem hiL))
                obtain ⟨x, hx⟩ : ∃ x, x = m[i].1 := ⟨_, rfl⟩
                obtain ⟨y, hy⟩ : ∃ y, y = m[i].2 := ⟨_, rfl⟩
                rw [← hx, ← hy] at hrk
                rw [← hx] at f0
                rw [← hy] at f1
                have hb1 := many7_take_le HM.out.2.2.2.2.1 HM.out.2.2.2.2.2.1 i
                have hb2 := many7_take_le HM.out.2.2.2.2.1 HM.out.2.2.2.2.2.1 (i + 1)
                have hsn : many7 (m.take (i + 1)) = t + y := by rw [List.take_succ_eq_append_getElem hiL, many7_snoc, ← hR.out.1, hy]
                have hen : end7 (m.take (i + 1)) = x + y := by rw [end7_take hiL, ← hx, ← hy]
                rw [← hR.out.1] at hb1
                rw [hsn] at hb2
                have hw1 : IntKind.i64.wrap (t + y) = t + y := wrap_in5 (by omega) (by omega)
                have hw2 : IntKind.i64.wrap (x + y) = x + y := wrap_in5 (by omega) (by omega)
                have hlt64 : (i : Int) < (na : Int) := by omega
                have hltn : i < na := hlt
                have hi0 : (0 : Int) ≤ (i : Int) := by omega
                have hti : (i : Int).toNat = i := by omega
                have HS := Lib.hid (And.intro hsn hen)
                have hbb : 0 ≤ t ∧ t ≤ 8192 ∧ 0 ≤ x ∧ x ≤ 8192 ∧ 1 ≤ y ∧ y ≤ 8192 := by omega
                obtain ⟨q1, q2, q3, q4, q5, q6⟩ := hbb
                by_cases hz : i = 0
                · subst hz
                  subst haa
                  clear hc0 hc1' hrk hx hy hb1 hb2 hsn hen hiL
                  simp only [Nat.zero_mul, Nat.add_zero] at f0 f1
                  go_wp2
                  go_quiet ((fail))
                  go_wp2
                  go_roundw
                  case rel => exact ⟨1, t + y, x + y, by omega, by go_num, rfl, rfl, Lib.hid ⟨HS.out.1.symm, HS.out.2.symm, hR.out.2.2.drewN _⟩⟩
                  case measure => simp [intOf]; omega
                · have hip : 0 < i := by omega
                  have hip64 : (0 : Int) < (i : Int) := by omega
                  have hle : decide (x ≤ e) = false := by
                    rw [decide_eq_false_iff_not]
                    obtain ⟨j, rfl⟩ : ∃ j, i = j + 1 := ⟨i - 1, by omega⟩
                    have h7 := HM.out.2.2.2.1 j hiL
                    have h8 := end7_take (l := m) (i := j) (by omega)
                    rw [hR.out.2.1, h8, hx]
                    omega
                  have hle2 : ¬ x ≤ e := by simpa using hle
                  subst haa
                  clear hc0 hc1' hrk hx hy hb1 hb2 hsn hen hiL hz
                  go_wp2
                  go_quiet ((fail))
                  go_wp2
                  go_roundw
                  case rel => exact ⟨i + 1, t + y, x + y, by omega, by go_num, rfl, rfl, Lib.hid ⟨HS.out.1.symm, HS.out.2.symm, hR.out.2.2.drewN _⟩⟩
                  case measure => simp [intOf]; omega
              · obtain rfl : na = i := by omega
                have HW5 := Lib.hid (H5.out.1.trans hR.out.2.2 (fun _ h => h.elim))
                have HFR := Lib.hid hR.out.2.2
                have htk : t = k := by rw [hR.out.1, List.take_of_length_le (by have := HNA.out; omega)]; exact HM.out.2.2.2.2.2.2.1
                have hek : e = ee := by rw [hR.out.2.1, List.take_of_length_le (by have := HNA.out; omega)]; exact HM.out.1
                subst htk
                subst hek
                obtain ⟨s0, s1, s2⟩ := HSH.out wr HW5.out
                obtain ⟨b3, hb3⟩ : ∃ b3, b3 = w.heap.size := ⟨_, rfl⟩
                rw [← hb3] at s0 s1 s2
                simp only [← hb3]
                have HB3 := Lib.hid hb3
                obtain ⟨z, hz⟩ : ∃ z, z = wr.heap.size := ⟨_, rfl⟩
                obtain ⟨nx, hnx⟩ : ∃ nx, nx = (l ++ m).length := ⟨_, rfl⟩
                obtain ⟨rr, _⟩ : ∃ rr : Rn, rr = (0, 0) := ⟨_, rfl⟩
                have hml := secs7_many HM.out.2.2.2.2.1
                have hrt : wr.heap[b3]? = some (.cells #[.int .i64 (l0 : Nat), .int .i64 (la : Nat), .int .i64 (d : Nat)] 23 (0, 0)) := by rw [HB3.out]; exact HW5.out.heap HX.out.2.1 id
                have LDS := Lib.hid (fun W (hW : Fr (fun _ => False) wr W) => load_shape5 W b3 0 _ _ _ (range_row5 (hW.heap hrt id)))
                have HZ := Lib.hid hz.symm
                have hVH := HX.out.2.2.1.quiet HW5.out
                have hVA := H5.out.2.1.quiet hR.out.2.2
                have HHE := Lib.hid (fun W (hW : Fr (fun _ => False) wr W) => hVH.quiet hW)
                have HLE := Lib.hid (fun W (hW : Fr (fun _ => False) wr W) => hVA.quiet hW)
                have HLN := Lib.hid (show ([] : List Rn).length + l.length ≤ 1000000 by have := HX.out.2.2.2.1; have := HNB.out; simp; omega)
                have HLL := Lib.hid HX.out.2.2.2.1.symm
                have HLN2 := Lib.hid (show l.length + m.length ≤ 1000000 by have := HX.out.2.2.2.1; have := HNB.out; have := HM.out.2.2.2.2.2.1; omega)
                have HLX := Lib.hid hnx.symm
                have hbnd : ∀ r ∈ l ++ m, -9223372036854775808 ≤ r.1 ∧ r.1 ≤ 9223372036854775807 ∧ -9223372036854775808 ≤ r.2 ∧ r.2 ≤ 9223372036854775807 := fun r hr => by
                  have := rnOk_iff.1 ((apart7_iff.1 HM.out.2.2.1).1 r hr)
                  omega
                have HFE := Lib.hid (fun W v (h : OwnRn z W v (l ++ m)) => (HM.out.2.2.2.2.2.2.2.1.symm ▸ bFree_yes W l0 la d s0' v (l ++ m) HM.out.2.2.2.2.2.2.2.2.1 (h.rns hbnd) (fun k hk => (h.own hk.2).2.elim fun cs e => lt_of_block e) HM.out.2.2.1 : Calls Try.prog 12 #[.agg #[.int .i64 (l0 : Nat), .int .i64 (la : Nat), .int .i64 (d : Nat)], v] W fun e w' => e = .returned (.tuple #[.int .i64 (q : Nat), .int .i64 0]) ∧ Fr (fun _ => False) W w'))
                clear hnx hz hrt hml hb3
                clear s0 s1 s2 hVH hVA hbnd hR hi hlt
                go_wp2
                refine wp_region_inv 11 (by kernel_rfl) (by kernel_rfl) (fun W => Fr (fun _ => False) wr W) (BgR b3 n na ch ca l0 la d z l m rr ah aa nx q) (fun _ _ _ _ => True) (ExtB z (l ++ m) rr false) (BgR.ext b3 n na ch ca l0 la d z l m rr ah aa nx q) (Fr.refl _ _).drew ?_ ?_
                · intro i hi o ho
                  replace hi : i < 11 := hi
                  obtain rfl | rfl | rfl | rfl | rfl | rfl | rfl | rfl | rfl | rfl | rfl : i = 0 ∨ i = 1 ∨ i = 2 ∨ i = 3 ∨ i = 4 ∨ i = 5 ∨ i = 6 ∨ i = 7 ∨ i = 8 ∨ i = 9 ∨ i = 10 := by omega
                  · simp only [List.getElem?_cons_zero, Option.some.injEq] at ho
                    subst ho
                    intro a W vs hB hS hE hU
                    refine wpG_plain rfl ?_
                    have v3 : a.eval (.tmp 3) = .pointer (some ⟨b3, 0, none⟩) := (hU 3 (by kernel_rfl)).trans rfl
                    clear hE hU
                    exact wp_value_inv (w' := W) (.agg #[.int .i64 (l0 : Nat), .int .i64 (la : Nat), .int .i64 (d : Nat)]) (op_loadAt rfl v3 (LDS.out W hB)) ⟨_, rfl, hB, ExtB.refl _ _ _ _ _, rfl, fun _ _ _ _ _ => trivial⟩
                  · simp only [List.getElem?_cons_zero, List.getElem?_cons_succ, Option.some.injEq] at ho
                    subst ho
                    intro a W vs hB hS hE hU
                    refine wpG_plain rfl ?_
                    clear hE hU
                    have hfa : Fr (fun _ => False) W (W.alloc (.cells #[] 68)) := (Fr.refl _ _).alloc _
                    exact wp_value_inv (w' := W.alloc (.cells #[] 68)) (.slice (some ⟨W.heap.size, 0, none⟩) 0 0) (op_rows rfl (vs := #[]) (by simp) (run_none7 W)) ⟨_, rfl, hB.trans hfa (fun _ h => h.elim), ExtB.quiet hfa, ⟨W.heap.size, rfl, OwnRn.empty8 _ _ (by have := hB.size; have := HZ.out; omega)⟩, fun _ _ _ _ _ => trivial⟩
                  · simp only [List.getElem?_cons_zero, List.getElem?_cons_succ, Option.some.injEq] at ho
                    subst ho
                    intro a W vs hB hS hE hU
                    refine wpG_plain rfl ?_
                    have v2 : a.eval (.tmp 2) = .slice ah n ch := (hU 2 (by kernel_rfl)).trans rfl
                    clear hE hU
                    exact wp_value_inv (w' := W) (.slice ah n ch) (op_move rfl v2) ⟨_, rfl, hB, ExtB.refl _ _ _ _ _, rfl, fun _ _ _ _ _ => trivial⟩
                  · simp only [List.getElem?_cons_zero, List.getElem?_cons_succ, Option.some.injEq] at ho
                    subst ho
                    intro a W vs hB hS hE hU
                    refine wpG_plain rfl ?_
                    obtain ⟨⟨gz1, rg1, rh1⟩, e89⟩ := hE 1 89 (by kernel_rfl) (by kernel_rfl)
                    have v89 : a.eval (.tmp 89) = .slice (some ⟨gz1, 0, none⟩) 0 0 := e89.trans rg1
                    obtain ⟨r2, e90⟩ := hE 2 90 (by kernel_rfl) (by kernel_rfl)
                    have v90 : a.eval (.tmp 90) = .slice ah n ch := e90.trans r2
                    clear hE hU
                    refine wp_append_rk (.tmp 89) (.tmp 90) rfl v89 v90 rh1 (HHE.out W hB) (by have := hB.size; have := HZ.out; omega) HLN.out ?_
                    intro v' w' r1 r2 r3 r4 r5
                    rw [List.nil_append] at r1
                    obtain ⟨ag, cg, hv⟩ := r1.form
                    rw [HLL.out] at hv
                    subst hv
                    have hf := r3 ⟨_, _, rfl⟩
                    exact ⟨_, rfl, hB.trans hf (fun _ h => h.elim), ExtB.quiet hf, ⟨ag, cg, rfl, r1⟩, fun _ _ _ _ _ => trivial⟩
                  · simp only [List.getElem?_cons_zero, List.getElem?_cons_succ, Option.some.injEq] at ho
                    subst ho
                    intro a W vs hB hS hE hU
                    refine wpG_plain rfl ?_
                    have v7 : a.eval (.tmp 7) = .slice aa na ca := (hU 7 (by kernel_rfl)).trans rfl
                    clear hE hU
                    exact wp_value_inv (w' := W) (.slice aa na ca) (op_move rfl v7) ⟨_, rfl, hB, ExtB.refl _ _ _ _ _, rfl, fun _ _ _ _ _ => trivial⟩
                  · simp only [List.getElem?_cons_zero, List.getElem?_cons_succ, Option.some.injEq] at ho
                    subst ho
                    intro a W vs hB hS hE hU
                    refine wpG_plain rfl ?_
                    obtain ⟨⟨ag3, cg3, rg3, rh3⟩, e91⟩ := hE 3 91 (by kernel_rfl) (by kernel_rfl)
                    have v91 : a.eval (.tmp 91) = .slice ag3 n cg3 := e91.trans rg3
                    obtain ⟨r4, e92⟩ := hE 4 92 (by kernel_rfl) (by kernel_rfl)
                    have v92 : a.eval (.tmp 92) = .slice aa na ca := e92.trans r4
                    clear hE hU
                    refine wp_append_rk (.tmp 91) (.tmp 92) rfl v91 v92 rh3 (HLE.out W hB) (by have := hB.size; have := HZ.out; omega) HLN2.out ?_
                    intro v' w' r1 r2 r3 r4 r5
                    obtain ⟨ag, cg, hv⟩ := r1.form
                    rw [HLX.out] at hv
                    subst hv
                    have hB2 := hB.trans r2 (fun k hk => .inr (by have := (rh3.own hk).1; have := HZ.out; omega))
                    exact ⟨_, rfl, hB2, ⟨r4, fun h => by cases h⟩, ⟨ag, cg, rfl, r1⟩, fun _ _ _ _ _ => trivial⟩
                  · simp only [List.getElem?_cons_zero, List.getElem?_cons_succ, Option.some.injEq] at ho
                    subst ho
                    intro a W vs hB hS hE hU
                    refine wpG_plain rfl ?_
                    obtain ⟨r0, e88⟩ := hE 0 88 (by kernel_rfl) (by kernel_rfl)
                    have v88 : a.eval (.tmp 88) = .agg #[.int .i64 (l0 : Nat), .int .i64 (la : Nat), .int .i64 (d : Nat)] := e88.trans r0
                    obtain ⟨⟨ag5, cg5, rg5, rh5⟩, e93⟩ := hE 5 93 (by kernel_rfl) (by kernel_rfl)
                    have v93 : a.eval (.tmp 93) = .slice ag5 nx cg5 := e93.trans rg5
                    clear hE hU
                    refine wp_call_inv 12 #[.tmp 88, .tmp 93] #[23, 24] rfl #[.agg #[.int .i64 (l0 : Nat), .int .i64 (la : Nat), .int .i64 (d : Nat)], .slice ag5 nx cg5] (by simp only [List.map_toArray, List.map_cons, List.map_nil, v88, v93]) (ent_spence_blob_Free _) (Post := fun v W' => v = .tuple #[.int .i64 (q : Nat), .int .i64 0] ∧ Fr (fun _ => False) W W') ((HFE.out W _ rh5).mono fun e w' h => ⟨_, h.1, rfl, h.2⟩) ?_
                    rintro v W' ⟨rfl, hf⟩
                    exact ⟨_, rfl, hB.trans hf (fun _ h => h.elim), ExtB.quiet hf, rfl, fun _ _ _ _ _ => trivial⟩
                  · simp only [List.getElem?_cons_zero, List.getElem?_cons_succ, Option.some.injEq] at ho
                    subst ho
                    intro a W vs hB hS hE hU
                    refine wpG_plain rfl ?_
                    obtain ⟨r6, e94⟩ := hE 6 94 (by kernel_rfl) (by kernel_rfl)
                    have v94 : a.eval (.tmp 94) = .tuple #[.int .i64 (q : Nat), .int .i64 0] := e94.trans r6
                    clear hE hU
                    exact wp_value_inv (w' := W) (.tuple #[.int .i64 (q : Nat), .int .i64 0]) (op_move rfl v94) ⟨_, rfl, hB, ExtB.refl _ _ _ _ _, rfl, fun _ _ _ _ _ => trivial⟩
                  · simp only [List.getElem?_cons_zero, List.getElem?_cons_succ, Option.some.injEq] at ho
                    subst ho
                    intro a W vs hB hS hE hU
                    refine wpG_plain rfl ?_
                    obtain ⟨r7, e87⟩ := hE 7 87 (by kernel_rfl) (by kernel_rfl)
                    have v87 : a.eval (.tmp 87) = .tuple #[.int .i64 (q : Nat), .int .i64 0] := e87.trans r7
                    clear hE hU
                    exact wp_value_inv (w' := W) (.int .i64 (q : Nat)) (op_extract7 rfl v87 rfl) ⟨_, rfl, hB, ExtB.refl _ _ _ _ _, rfl, fun _ _ _ _ _ => trivial⟩
                  · simp only [List.getElem?_cons_zero, List.getElem?_cons_succ, Option.some.injEq] at ho
                    subst ho
                    intro a W vs hB hS hE hU
                    refine wpG_plain rfl ?_
                    obtain ⟨r7, e87⟩ := hE 7 87 (by kernel_rfl) (by kernel_rfl)
                    have v87 : a.eval (.tmp 87) = .tuple #[.int .i64 (q : Nat), .int .i64 0] := e87.trans r7
                    clear hE hU
                    exact wp_value_inv (w' := W) (.int .i64 0) (op_extract7 rfl v87 rfl) ⟨_, rfl, hB, ExtB.refl _ _ _ _ _, rfl, fun _ _ _ _ _ => trivial⟩
                  · simp only [List.getElem?_cons_zero, List.getElem?_cons_succ, Option.some.injEq] at ho
                    subst ho
                    intro a W vs hB hS hE hU
                    refine wpG_plain rfl ?_
                    obtain ⟨r8, e95⟩ := hE 8 95 (by kernel_rfl) (by kernel_rfl)
                    have v95 : a.eval (.tmp 95) = .int .i64 (q : Nat) := e95.trans r8
                    clear hE hU
                    exact wp_value_inv (w' := W) (.int .i64 (q : Nat)) (op_assign rfl v95) ⟨_, rfl, hB, ExtB.refl _ _ _ _ _, rfl, fun _ _ _ _ _ => trivial⟩
                · intro vs Wa hB0 hR0 hD
                  have r12 : vs 10 = .int .i64 (q : Nat) := hR0 10 (by decide)
                  have r96 : vs 9 = .int .i64 0 := hR0 9 (by decide)
                  have HB := Lib.hid hB0
                  clear hR0 hD hB0
                  simp only [acts, if_true, dstAt, List.getElem?_cons_zero, List.getElem?_cons_succ, Option.bind_some, Act.put, List.setIfInBounds_toArray, List.set_cons_succ, List.set_cons_zero, List.drop_succ_cons]
                  simp only [r12, r96]
                  clear r12 r96
                  have HWA := Lib.hid (HW5.out.trans HB.out (fun _ h => h.elim))
                  have hrta : Wa.heap[b3]? = some (.cells #[.int .i64 (l0 : Nat), .int .i64 (la : Nat), .int .i64 (d : Nat)] 23 (0, 0)) := by rw [HB3.out]; exact HWA.out.heap HX.out.2.1 id
                  have HRT := Lib.hid hrta
                  have HFA := Lib.hid (HFR.out.trans HB.out (fun _ h => h.elim))
                  have hqd := HKD.out.2.2.2
                  clear hrta LDS HZ HHE HLE HFE HB
                  go_wp2
                  go_loopw [14, 15] (fun cv av wr => ∃ (c t7 : Nat), ee ≤ t7 ∧ t7 ≤ d ∧ c ≤ 8192 ∧ av = .int .i64 t7 ∧ cv = .int .i64 c ∧ Hid (c = cnt7 ee t7 l ∧ Fr (fun _ => False) Wa wr)) (fun _ av _ => d - (intOf av).toNat)
                  case atStart => exact ⟨0, ee, Nat.le_refl _, heed, by omega, rfl, rfl, Lib.hid ⟨(cnt7_start _ _).symm, Fr.refl _ _⟩⟩
                  case round =>
                    obtain ⟨c, t7, het, htd, hc8, rfl, rfl, hR⟩ := hrel
                    have HWX := Lib.hid (HWA.out.trans hR.out.2 (fun _ h => h.elim))
                    have hrtx := hR.out.2.heap HRT.out id
                    obtain ⟨s0, s1, s2⟩ := row3_cells hrtx
                    have LDS := Lib.hid (fun W (hW : Fr (fun _ => False) wr W) => load_shape5 W b3 0 _ _ _ (range_row5 (hW.heap hrtx id)))
                    have hVH := HX.out.2.2.1.quiet HWX.out
                    have HHE := Lib.hid (fun W (hW : Fr (fun _ => False) wr W) => hVH.quiet hW)
                    by_cases hlt : t7 < d
                    · have hlt64 : (t7 : Int) < (d : Int) := by omega
                      obtain ⟨z2, hz⟩ : ∃ z2, z2 = wr.heap.size := ⟨_, rfl⟩
                      obtain ⟨rq, hrq⟩ : ∃ rq : Rn, rq = ((t7 : Int), (1 : Int)) := ⟨_, rfl⟩
                      obtain ⟨m1, hm1'⟩ : ∃ m1, m1 = [rq] := ⟨_, rfl⟩
                      obtain ⟨n1, hn1⟩ : ∃ n1, n1 = (l ++ m1).length := ⟨_, rfl⟩
                      have HZ := Lib.hid hz.symm
                      have HRR := Lib.hid (show rq.1 = (t7 : Int) ∧ rq.2 = 1 by rw [hrq]; exact ⟨rfl, rfl⟩)
                      have HMM := Lib.hid hm1'
                      have HLX := Lib.hid hn1.symm
                      have HLN2 := Lib.hid (show l.length + m1.length ≤ 1000000 by have := HX.out.2.2.2.1; have := HNB.out; rw [hm1']; simp; omega)
                      have hrb : -9223372036854775808 ≤ rq.1 ∧ rq.1 ≤ 9223372036854775807 ∧ -9223372036854775808 ≤ rq.2 ∧ rq.2 ≤ 9223372036854775807 := by rw [HRR.out.1, HRR.out.2]; omega
                      have HON := Lib.hid (fun (W : World) (g : Nat) (hg : W.heap[g]? = some (.cells #[.int .i64 rq.1, .int .i64 rq.2] 68 (0, 0))) => (HMM.out ▸ RnsIn.ofBlock hg ⟨hrb.1, hrb.2.1⟩ ⟨hrb.2.2.1, hrb.2.2.2⟩ : RnsIn (fun j => j = g) W (.slice (some ⟨g, 0, none⟩) 1 1) m1))
                      have hbnd : ∀ r ∈ l ++ m1, -9223372036854775808 ≤ r.1 ∧ r.1 ≤ 9223372036854775807 ∧ -9223372036854775808 ≤ r.2 ∧ r.2 ≤ 9223372036854775807 := fun r hr => by
                        rcases List.mem_append.1 hr with hr | hr
                        · exact HX.out.2.2.1.2 r hr
                        · rw [HMM.out, List.mem_singleton] at hr
                          rw [hr]
                          exact hrb
                      obtain ⟨bb, hbb⟩ : ∃ bb, bb = ap7 (l0 : Int) la d (l ++ m1) := ⟨_, rfl⟩
                      have HAP2 := Lib.hid (fun W v (h : OwnRn z2 W v (l ++ m1)) => (hbb.symm ▸ bApart_any W l0 la d v (l ++ m1) (h.rns hbnd) (fun k hk => (h.own hk.2).2.elim fun cs e => lt_of_block e) : Calls Try.prog 16 #[.agg #[.int .i64 (l0 : Nat), .int .i64 (la : Nat), .int .i64 (d : Nat)], v] W fun e w' => e = .returned (.bool bb) ∧ Fr (fun _ => False) W w'))
                      have hbd : bb = !decide (t7 ∈ secs7 l) := by
                        rw [hbb, ap7_ok HM.out.2.2.2.2.2.2.2.2.1, HMM.out, Bool.eq_iff_iff, apart7_snoc]
                        have hk : rnOk d rq = true := by rw [rnOk_iff, HRR.out.1, HRR.out.2]; omega
                        have hsec : ∀ x, x ∈ rnSecs rq ↔ x = t7 := fun x => by
                          rw [hrq, show ((t7 : Int), (1 : Int)) = ((t7 : Int), ((1 : Nat) : Int)) from rfl, mem_rnSecs]
                          omega
                        simp [HM.out.2.2.2.2.2.2.2.2.2, hk, hsec]
                      have HCS := Lib.hid (show cnt7 ee (t7 + 1) l = c + (if bb then 1 else 0) by
                        rw [cnt7_succ het, ← hR.out.1, hbd]
                        by_cases hmem : t7 ∈ secs7 l <;> simp [hmem])
                      have hcb : c + (if bb then 1 else 0) ≤ 8192 := by rw [← HCS.out]; have := cnt7_le ee (t7 + 1) l; omega
                      clear hz hrq hm1' hn1 hrb hbnd hbb hbd hrtx hVH
                      go_wp2
                      refine wp_region_inv 9 (by kernel_rfl) (by kernel_rfl) (fun W => Fr (fun _ => False) wr W) (BhR b3 n na ch ca l0 la d z2 l m1 rq ah aa n1 t7 bb) (fun _ _ _ _ => True) (ExtB z2 (l ++ m1) rq true) (BhR.ext b3 n na ch ca l0 la d z2 l m1 rq ah aa n1 t7 bb) (Fr.refl _ _).drew ?_ ?_
                      · intro i hi o ho
                        replace hi : i < 9 := hi
                        obtain rfl | rfl | rfl | rfl | rfl | rfl | rfl | rfl | rfl : i = 0 ∨ i = 1 ∨ i = 2 ∨ i = 3 ∨ i = 4 ∨ i = 5 ∨ i = 6 ∨ i = 7 ∨ i = 8 := by omega
                        · simp only [List.getElem?_cons_zero, Option.some.injEq] at ho
                          subst ho
                          intro a W vs hB hS hE hU
                          refine wpG_plain rfl ?_
                          have v3 : a.eval (.tmp 3) = .pointer (some ⟨b3, 0, none⟩) := (hU 3 (by kernel_rfl)).trans rfl
                          clear hE hU
                          exact wp_value_inv (w' := W) (.agg #[.int .i64 (l0 : Nat), .int .i64 (la : Nat), .int .i64 (d : Nat)]) (op_loadAt rfl v3 (LDS.out W hB)) ⟨_, rfl, hB, ExtB.refl _ _ _ _ _, rfl, fun _ _ _ _ _ => trivial⟩
                        · simp only [List.getElem?_cons_zero, List.getElem?_cons_succ, Option.some.injEq] at ho
                          subst ho
                          intro a W vs hB hS hE hU
                          refine wpG_plain rfl ?_
                          clear hE hU
                          have hfa : Fr (fun _ => False) W (W.alloc (.cells #[] 68)) := (Fr.refl _ _).alloc _
                          exact wp_value_inv (w' := W.alloc (.cells #[] 68)) (.slice (some ⟨W.heap.size, 0, none⟩) 0 0) (op_rows rfl (vs := #[]) (by simp) (run_none7 W)) ⟨_, rfl, hB.trans hfa (fun _ h => h.elim), ExtB.quiet hfa, ⟨W.heap.size, rfl, OwnRn.empty8 _ _ (by have := hB.size; have := HZ.out; omega)⟩, fun _ _ _ _ _ => trivial⟩
                        · simp only [List.getElem?_cons_zero, List.getElem?_cons_succ, Option.some.injEq] at ho
                          subst ho
                          intro a W vs hB hS hE hU
                          refine wpG_plain rfl ?_
                          have v2 : a.eval (.tmp 2) = .slice ah n ch := (hU 2 (by kernel_rfl)).trans rfl
                          clear hE hU
                          exact wp_value_inv (w' := W) (.slice ah n ch) (op_move rfl v2) ⟨_, rfl, hB, ExtB.refl _ _ _ _ _, rfl, fun _ _ _ _ _ => trivial⟩
                        · simp only [List.getElem?_cons_zero, List.getElem?_cons_succ, Option.some.injEq] at ho
                          subst ho
                          intro a W vs hB hS hE hU
                          refine wpG_plain rfl ?_
                          obtain ⟨⟨gz1, rg1, rh1⟩, e105⟩ := hE 1 105 (by kernel_rfl) (by kernel_rfl)
                          have v105 : a.eval (.tmp 105) = .slice (some ⟨gz1, 0, none⟩) 0 0 := e105.trans rg1
                          obtain ⟨r2, e106⟩ := hE 2 106 (by kernel_rfl) (by kernel_rfl)
                          have v106 : a.eval (.tmp 106) = .slice ah n ch := e106.trans r2
                          clear hE hU
                          refine wp_append_rk (.tmp 105) (.tmp 106) rfl v105 v106 rh1 (HHE.out W hB) (by have := hB.size; have := HZ.out; omega) HLN.out ?_
                          intro v' w' r1 r2 r3 r4 r5
                          rw [List.nil_append] at r1
                          obtain ⟨ag, cg, hv⟩ := r1.form
                          rw [HLL.out] at hv
                          subst hv
                          have hf := r3 ⟨_, _, rfl⟩
                          exact ⟨_, rfl, hB.trans hf (fun _ h => h.elim), ExtB.quiet hf, ⟨ag, cg, rfl, r1⟩, fun _ _ _ _ _ => trivial⟩
                        · simp only [List.getElem?_cons_zero, List.getElem?_cons_succ, Option.some.injEq] at ho
                          subst ho
                          intro a W vs hB hS hE hU
                          refine wpG_plain rfl ?_
                          have v15 : a.eval (.tmp 15) = .int .i64 (t7 : Nat) := (hU 15 (by kernel_rfl)).trans rfl
                          clear hE hU
                          exact wp_value_inv (w' := W) (.int .i64 (t7 : Nat)) (op_move rfl v15) ⟨_, rfl, hB, ExtB.refl _ _ _ _ _, rfl, fun _ _ _ _ _ => trivial⟩
                        · simp only [List.getElem?_cons_zero, List.getElem?_cons_succ, Option.some.injEq] at ho
                          subst ho
                          intro a W vs hB hS hE hU
                          refine wpG_plain rfl ?_
                          obtain ⟨r4, e108⟩ := hE 4 108 (by kernel_rfl) (by kernel_rfl)
                          have v108 : a.eval (.tmp 108) = .int .i64 (t7 : Nat) := e108.trans r4
                          clear hE hU
                          exact wp_value_inv (w' := W) (.agg #[.int .i64 (t7 : Nat), .int .i64 1]) (op_build7 rfl v108 rfl) ⟨_, rfl, hB, ExtB.refl _ _ _ _ _, rfl, fun _ _ _ _ _ => trivial⟩
                        · simp only [List.getElem?_cons_zero, List.getElem?_cons_succ, Option.some.injEq] at ho
                          subst ho
                          intro a W vs hB hS hE hU
                          refine wpG_plain rfl ?_
                          obtain ⟨r5, e109⟩ := hE 5 109 (by kernel_rfl) (by kernel_rfl)
                          have v109 : a.eval (.tmp 109) = .agg #[.int .i64 (t7 : Nat), .int .i64 1] := e109.trans r5
                          clear hE hU
                          have hfa : Fr (fun _ => False) W (W.alloc (.cells #[.int .i64 (t7 : Nat), .int .i64 1] 68)) := (Fr.refl _ _).alloc _
                          exact wp_value_inv (w' := W.alloc (.cells #[.int .i64 (t7 : Nat), .int .i64 1] 68)) (.slice (some ⟨W.heap.size, 0, none⟩) 1 1) (op_rows rfl (vs := #[(0, .agg #[.int .i64 (t7 : Nat), .int .i64 1])]) (by simp only [List.map_toArray, List.map_cons, List.map_nil, v109]) (run_one7 W _ _)) ⟨_, rfl, hB.trans hfa (fun _ h => h.elim), ExtB.quiet hfa, ⟨W.heap.size, rfl, by rw [HRR.out.1, HRR.out.2]; exact heap_alloc_new W _⟩, fun _ _ _ _ _ => trivial⟩
                        · simp only [List.getElem?_cons_zero, List.getElem?_cons_succ, Option.some.injEq] at ho
                          subst ho
                          intro a W vs hB hS hE hU
                          refine wpG_plain rfl ?_
                          obtain ⟨⟨ag3, cg3, rg3, rh3⟩, e107⟩ := hE 3 107 (by kernel_rfl) (by kernel_rfl)
                          have v107 : a.eval (.tmp 107) = .slice ag3 n cg3 := e107.trans rg3
                          obtain ⟨⟨gy6, rg6, rh6⟩, e110⟩ := hE 6 110 (by kernel_rfl) (by kernel_rfl)
                          have v110 : a.eval (.tmp 110) = .slice (some ⟨gy6, 0, none⟩) 1 1 := e110.trans rg6
                          clear hE hU
                          refine wp_append_rk (.tmp 107) (.tmp 110) rfl v107 v110 rh3 (HON.out W _ rh6) (by have := hB.size; have := HZ.out; omega) HLN2.out ?_
                          intro v' w' r1 r2 r3 r4 r5
                          obtain ⟨ag, cg, hv⟩ := r1.form
                          rw [HLX.out] at hv
                          subst hv
                          have hB2 := hB.trans r2 (fun k hk => .inr (by have := (rh3.own hk).1; have := HZ.out; omega))
                          exact ⟨_, rfl, hB2, ⟨r4, fun _ g hg => r5 g rq HMM.out hg⟩, ⟨ag, cg, rfl, r1⟩, fun _ _ _ _ _ => trivial⟩
                        · simp only [List.getElem?_cons_zero, List.getElem?_cons_succ, Option.some.injEq] at ho
                          subst ho
                          intro a W vs hB hS hE hU
                          refine wpG_plain rfl ?_
                          obtain ⟨r0, e104⟩ := hE 0 104 (by kernel_rfl) (by kernel_rfl)
                          have v104 : a.eval (.tmp 104) = .agg #[.int .i64 (l0 : Nat), .int .i64 (la : Nat), .int .i64 (d : Nat)] := e104.trans r0
                          obtain ⟨⟨ag7, cg7, rg7, rh7⟩, e111⟩ := hE 7 111 (by kernel_rfl) (by kernel_rfl)
                          have v111 : a.eval (.tmp 111) = .slice ag7 n1 cg7 := e111.trans rg7
                          clear hE hU
                          refine wp_call_inv 16 #[.tmp 104, .tmp 111] #[23, 24] rfl #[.agg #[.int .i64 (l0 : Nat), .int .i64 (la : Nat), .int .i64 (d : Nat)], .slice ag7 n1 cg7] (by simp only [List.map_toArray, List.map_cons, List.map_nil, v104, v111]) (ent_spence_blob_Apart _) (Post := fun v W' => v = .bool bb ∧ Fr (fun _ => False) W W') ((HAP2.out W _ rh7).mono fun e w' h => ⟨_, h.1, rfl, h.2⟩) ?_
                          rintro v W' ⟨rfl, hf⟩
                          exact ⟨_, rfl, hB.trans hf (fun _ h => h.elim), ExtB.quiet hf, rfl, fun _ _ _ _ _ => trivial⟩
                      · intro vs Wb hB0 hR0 hD
                        have r112 : vs 8 = .bool bb := hR0 8 (by decide)
                        have HB := Lib.hid hB0
                        clear hR0 hD hB0
                        simp only [acts, if_true, dstAt, List.getElem?_cons_zero, List.getElem?_cons_succ, Option.bind_some, Act.put, List.setIfInBounds_toArray, List.set_cons_succ, List.set_cons_zero, List.drop_succ_cons, List.drop_nil]
                        simp only [r112]
                        clear r112
                        have HWB := Lib.hid (hR.out.2.trans HB.out (fun _ h => h.elim))
                        clear HB LDS HZ HHE HAP2 HON s0 s1 s2
                        cases bb
                        · go_wp2
                          go_roundw
                          case rel => exact ⟨c, t7 + 1, by omega, by omega, by omega, by go_num, rfl, Lib.hid ⟨HCS.out.symm, HWB.out⟩⟩
                          case measure => simp [intOf]; omega
                        · go_wp2
                          go_roundw
                          case rel => exact ⟨c + 1, t7 + 1, by omega, by omega, hcb, by go_num, by go_num, Lib.hid ⟨HCS.out.symm, HWB.out⟩⟩
                          case measure => simp [intOf]; omega
                    · obtain rfl : d = t7 := by omega
                      have hcq : q = c := by rw [hR.out.1, HM.out.2.2.2.2.2.2.2.1]; exact HM.out.2.1
                      subst hcq
                      obtain ⟨z3, hz⟩ : ∃ z3, z3 = wr.heap.size := ⟨_, rfl⟩
                      have HZ := Lib.hid hz.symm
                      have hVA := H5.out.2.1.quiet (HFA.out.trans hR.out.2 (fun _ h => h.elim))
                      have HLE := Lib.hid (fun W (hW : Fr (fun _ => False) wr W) => hVA.quiet hW)
                      have hbnd : ∀ r ∈ l ++ m, -9223372036854775808 ≤ r.1 ∧ r.1 ≤ 9223372036854775807 ∧ -9223372036854775808 ≤ r.2 ∧ r.2 ≤ 9223372036854775807 := fun r hr => by
                        have := rnOk_iff.1 ((apart7_iff.1 HM.out.2.2.1).1 r hr)
                        omega
                      have hapt : ap7 (l0 : Int) la d (l ++ m) = true := by rw [ap7_ok HM.out.2.2.2.2.2.2.2.2.1]; exact HM.out.2.2.1
                      have HAP3 := Lib.hid (fun W v (h : OwnRn z3 W v (l ++ m)) => (hapt ▸ bApart_any W l0 la d v (l ++ m) (h.rns hbnd) (fun k hk => (h.own hk.2).2.elim fun cs e => lt_of_block e) : Calls Try.prog 16 #[.agg #[.int .i64 (l0 : Nat), .int .i64 (la : Nat), .int .i64 (d : Nat)], v] W fun e w' => e = .returned (.bool true) ∧ Fr (fun _ => False) W w'))
                      clear hz hVA hbnd hapt hrtx hVH
                      go_wp2
                      refine wp_region_inv 18 (by kernel_rfl) (by kernel_rfl) (fun W => Fr (fun _ => False) wr W) (BiR b3 n na ch ca l0 la d z3 l m rr ah aa nx k q) (fun _ _ _ _ => True) (ExtB z3 (l ++ m) rr false) (BiR.ext b3 n na ch ca l0 la d z3 l m rr ah aa nx k q) (Fr.refl _ _).drew ?_ ?_
                      · intro i hi o ho
                        replace hi : i < 18 := hi
                        obtain rfl | rfl | rfl | rfl | rfl | rfl | rfl | rfl | rfl | rfl | rfl | rfl | rfl | rfl | rfl | rfl | rfl | rfl : i = 0 ∨ i = 1 ∨ i = 2 ∨ i = 3 ∨ i = 4 ∨ i = 5 ∨ i = 6 ∨ i = 7 ∨ i = 8 ∨ i = 9 ∨ i = 10 ∨ i = 11 ∨ i = 12 ∨ i = 13 ∨ i = 14 ∨ i = 15 ∨ i = 16 ∨ i = 17 := by omega
                        · simp only [List.getElem?_cons_zero, Option.some.injEq] at ho
                          subst ho
                          intro a W vs hB hS hE hU
                          refine wpG_plain rfl ?_
                          have v9 : a.eval (.tmp 9) = .int .i64 (k : Nat) := (hU 9 (by kernel_rfl)).trans rfl
                          clear hE hU
                          exact wp_value_inv (w' := W) (.int .i64 (k : Nat)) (op_move rfl v9) ⟨_, rfl, hB, ExtB.refl _ _ _ _ _, rfl, fun _ _ _ _ _ => trivial⟩
                        · simp only [List.getElem?_cons_zero, List.getElem?_cons_succ, Option.some.injEq] at ho
                          subst ho
                          intro a W vs hB hS hE hU
                          refine wpG_plain rfl ?_
                          have v1 : a.eval (.tmp 1) = .int .i64 (k : Nat) := (hU 1 (by kernel_rfl)).trans rfl
                          clear hE hU
                          exact wp_value_inv (w' := W) (.int .i64 (k : Nat)) (op_move rfl v1) ⟨_, rfl, hB, ExtB.refl _ _ _ _ _, rfl, fun _ _ _ _ _ => trivial⟩
                        · simp only [List.getElem?_cons_zero, List.getElem?_cons_succ, Option.some.injEq] at ho
                          subst ho
                          intro a W vs hB hS hE hU
                          refine wpG_plain rfl ?_
                          obtain ⟨r0, e115⟩ := hE 0 115 (by kernel_rfl) (by kernel_rfl)
                          have v115 : a.eval (.tmp 115) = .int .i64 (k : Nat) := e115.trans r0
                          obtain ⟨r1, e116⟩ := hE 1 116 (by kernel_rfl) (by kernel_rfl)
                          have v116 : a.eval (.tmp 116) = .int .i64 (k : Nat) := e116.trans r1
                          clear hE hU
                          exact wp_value_inv (w' := W) (.bool true) (op_bin rfl v115 v116 (guard_int W _ _ _ _ _ _ _) (eql_yes)) ⟨_, rfl, hB, ExtB.refl _ _ _ _ _, rfl, fun _ _ _ _ _ => trivial⟩
                        · simp only [List.getElem?_cons_zero, List.getElem?_cons_succ, Option.some.injEq] at ho
                          subst ho
                          intro a W vs hB hS hE hU
                          refine wpG_plain rfl ?_
                          obtain ⟨r2, e117⟩ := hE 2 117 (by kernel_rfl) (by kernel_rfl)
                          have v117 : a.eval (.tmp 117) = .bool true := e117.trans r2
                          clear hE hU
                          exact wp_value_inv (w' := W) (.bool true) (op_move rfl v117) ⟨_, rfl, hB, ExtB.refl _ _ _ _ _, rfl, fun _ _ _ _ _ => trivial⟩
                        · simp only [List.getElem?_cons_zero, List.getElem?_cons_succ, Option.some.injEq] at ho
                          subst ho
                          intro a W vs hB hS hE hU
                          obtain ⟨r3, e118⟩ := hE 3 118 (by kernel_rfl) (by kernel_rfl)
                          have v118 : a.eval (.tmp 118) = .bool true := e118.trans r3
                          refine wpG_yes 3 true 118 rfl (by kernel_rfl) (by rw [hS]; first | simp | exact Nat.le_of_ble_eq_true rfl) v118 ?_
                          have v3 : a.eval (.tmp 3) = .pointer (some ⟨b3, 0, none⟩) := (hU 3 (by kernel_rfl)).trans rfl
                          clear hE hU
                          exact wp_value_inv (w' := W) (.agg #[.int .i64 (l0 : Nat), .int .i64 (la : Nat), .int .i64 (d : Nat)]) (op_loadAt rfl v3 (LDS.out W hB)) ⟨_, rfl, hB, ExtB.refl _ _ _ _ _, rfl, fun _ _ _ _ _ => trivial⟩
                        · simp only [List.getElem?_cons_zero, List.getElem?_cons_succ, Option.some.injEq] at ho
                          subst ho
                          intro a W vs hB hS hE hU
                          obtain ⟨r3, e118⟩ := hE 3 118 (by kernel_rfl) (by kernel_rfl)
                          have v118 : a.eval (.tmp 118) = .bool true := e118.trans r3
                          refine wpG_yes 3 true 118 rfl (by kernel_rfl) (by rw [hS]; first | simp | exact Nat.le_of_ble_eq_true rfl) v118 ?_
                          clear hE hU
                          have hfa : Fr (fun _ => False) W (W.alloc (.cells #[] 68)) := (Fr.refl _ _).alloc _
                          exact wp_value_inv (w' := W.alloc (.cells #[] 68)) (.slice (some ⟨W.heap.size, 0, none⟩) 0 0) (op_rows rfl (vs := #[]) (by simp) (run_none7 W)) ⟨_, rfl, hB.trans hfa (fun _ h => h.elim), ExtB.quiet hfa, ⟨W.heap.size, rfl, OwnRn.empty8 _ _ (by have := hB.size; have := HZ.out; omega)⟩, fun _ _ _ _ _ => trivial⟩
                        · simp only [List.getElem?_cons_zero, List.getElem?_cons_succ, Option.some.injEq] at ho
                          subst ho
                          intro a W vs hB hS hE hU
                          obtain ⟨r3, e118⟩ := hE 3 118 (by kernel_rfl) (by kernel_rfl)
                          have v118 : a.eval (.tmp 118) = .bool true := e118.trans r3
                          refine wpG_yes 3 true 118 rfl (by kernel_rfl) (by rw [hS]; first | simp | exact Nat.le_of_ble_eq_true rfl) v118 ?_
                          have v2 : a.eval (.tmp 2) = .slice ah n ch := (hU 2 (by kernel_rfl)).trans rfl
                          clear hE hU
                          exact wp_value_inv (w' := W) (.slice ah n ch) (op_move rfl v2) ⟨_, rfl, hB, ExtB.refl _ _ _ _ _, rfl, fun _ _ _ _ _ => trivial⟩
                        · simp only [List.getElem?_cons_zero, List.getElem?_cons_succ, Option.some.injEq] at ho
                          subst ho
                          intro a W vs hB hS hE hU
                          obtain ⟨r3, e118⟩ := hE 3 118 (by kernel_rfl) (by kernel_rfl)
                          have v118 : a.eval (.tmp 118) = .bool true := e118.trans r3
                          refine wpG_yes 3 true 118 rfl (by kernel_rfl) (by rw [hS]; first | simp | exact Nat.le_of_ble_eq_true rfl) v118 ?_
                          obtain ⟨⟨gz5, rg5, rh5⟩, e120⟩ := hE 5 120 (by kernel_rfl) (by kernel_rfl)
                          have v120 : a.eval (.tmp 120) = .slice (some ⟨gz5, 0, none⟩) 0 0 := e120.trans rg5
                          obtain ⟨r6, e121⟩ := hE 6 121 (by kernel_rfl) (by kernel_rfl)
                          have v121 : a.eval (.tmp 121) = .slice ah n ch := e121.trans r6
                          clear hE hU
                          refine wp_append_rk (.tmp 120) (.tmp 121) rfl v120 v121 rh5 (HHE.out W hB) (by have := hB.size; have := HZ.out; omega) HLN.out ?_
                          intro v' w' r1 r2 r3 r4 r5
                          rw [List.nil_append] at r1
                          obtain ⟨ag, cg, hv⟩ := r1.form
                          rw [HLL.out] at hv
                          subst hv
                          have hf := r3 ⟨_, _, rfl⟩
                          exact ⟨_, rfl, hB.trans hf (fun _ h => h.elim), ExtB.quiet hf, ⟨ag, cg, rfl, r1⟩, fun _ _ _ _ _ => trivial⟩
                        · simp only [List.getElem?_cons_zero, List.getElem?_cons_succ, Option.some.injEq] at ho
                          subst ho
                          intro a W vs hB hS hE hU
                          obtain ⟨r3, e118⟩ := hE 3 118 (by kernel_rfl) (by kernel_rfl)
                          have v118 : a.eval (.tmp 118) = .bool true := e118.trans r3
                          refine wpG_yes 3 true 118 rfl (by kernel_rfl) (by rw [hS]; first | simp | exact Nat.le_of_ble_eq_true rfl) v118 ?_
                          have v7 : a.eval (.tmp 7) = .slice aa na ca := (hU 7 (by kernel_rfl)).trans rfl
                          clear hE hU
                          exact wp_value_inv (w' := W) (.slice aa na ca) (op_move rfl v7) ⟨_, rfl, hB, ExtB.refl _ _ _ _ _, rfl, fun _ _ _ _ _ => trivial⟩
                        · simp only [List.getElem?_cons_zero, List.getElem?_cons_succ, Option.some.injEq] at ho
                          subst ho
                          intro a W vs hB hS hE hU
                          obtain ⟨r3, e118⟩ := hE 3 118 (by kernel_rfl) (by kernel_rfl)
                          have v118 : a.eval (.tmp 118) = .bool true := e118.trans r3
                          refine wpG_yes 3 true 118 rfl (by kernel_rfl) (by rw [hS]; first | simp | exact Nat.le_of_ble_eq_true rfl) v118 ?_
                          obtain ⟨⟨ag7, cg7, rg7, rh7⟩, e122⟩ := hE 7 122 (by kernel_rfl) (by kernel_rfl)
                          have v122 : a.eval (.tmp 122) = .slice ag7 n cg7 := e122.trans rg7
                          obtain ⟨r8, e123⟩ := hE 8 123 (by kernel_rfl) (by kernel_rfl)
                          have v123 : a.eval (.tmp 123) = .slice aa na ca := e123.trans r8
                          clear hE hU
                          refine wp_append_rk (.tmp 122) (.tmp 123) rfl v122 v123 rh7 (HLE.out W hB) (by have := hB.size; have := HZ.out; omega) HLN2.out ?_
                          intro v' w' r1 r2 r3 r4 r5
                          obtain ⟨ag, cg, hv⟩ := r1.form
                          rw [HLX.out] at hv
                          subst hv
                          have hB2 := hB.trans r2 (fun k hk => .inr (by have := (rh7.own hk).1; have := HZ.out; omega))
                          exact ⟨_, rfl, hB2, ⟨r4, fun h => by cases h⟩, ⟨ag, cg, rfl, r1⟩, fun _ _ _ _ _ => trivial⟩
                        · simp only [List.getElem?_cons_zero, List.getElem?_cons_succ, Option.some.injEq] at ho
                          subst ho
                          intro a W vs hB hS hE hU
                          obtain ⟨r3, e118⟩ := hE 3 118 (by kernel_rfl) (by kernel_rfl)
                          have v118 : a.eval (.tmp 118) = .bool true := e118.trans r3
                          refine wpG_yes 3 true 118 rfl (by kernel_rfl) (by rw [hS]; first | simp | exact Nat.le_of_ble_eq_true rfl) v118 ?_
                          obtain ⟨r4, e119⟩ := hE 4 119 (by kernel_rfl) (by kernel_rfl)
                          have v119 : a.eval (.tmp 119) = .agg #[.int .i64 (l0 : Nat), .int .i64 (la : Nat), .int .i64 (d : Nat)] := e119.trans r4
                          obtain ⟨⟨ag9, cg9, rg9, rh9⟩, e124⟩ := hE 9 124 (by kernel_rfl) (by kernel_rfl)
                          have v124 : a.eval (.tmp 124) = .slice ag9 nx cg9 := e124.trans rg9
                          clear hE hU
                          refine wp_call_inv 16 #[.tmp 119, .tmp 124] #[23, 24] rfl #[.agg #[.int .i64 (l0 : Nat), .int .i64 (la : Nat), .int .i64 (d : Nat)], .slice ag9 nx cg9] (by simp only [List.map_toArray, List.map_cons, List.map_nil, v119, v124]) (ent_spence_blob_Apart _) (Post := fun v W' => v = .bool true ∧ Fr (fun _ => False) W W') ((HAP3.out W _ rh9).mono fun e w' h => ⟨_, h.1, rfl, h.2⟩) ?_
                          rintro v W' ⟨rfl, hf⟩
                          exact ⟨_, rfl, hB.trans hf (fun _ h => h.elim), ExtB.quiet hf, rfl, fun _ _ _ _ _ => trivial⟩
                        · simp only [List.getElem?_cons_zero, List.getElem?_cons_succ, Option.some.injEq] at ho
                          subst ho
                          intro a W vs hB hS hE hU
                          refine wpG_plain rfl ?_
                          obtain ⟨r3, e118⟩ := hE 3 118 (by kernel_rfl) (by kernel_rfl)
                          have v118 : a.eval (.tmp 118) = .bool true := e118.trans r3
                          obtain ⟨r10, e125⟩ := hE 10 125 (by kernel_rfl) (by kernel_rfl)
                          have v125 : a.eval (.tmp 125) = .bool true := e125.trans r10
                          clear hE hU
                          exact wp_value_inv (w' := W) (.bool true) (op_pick rfl v118 (by simp only [if_true]; exact v125)) ⟨_, rfl, hB, ExtB.refl _ _ _ _ _, rfl, fun _ _ _ _ _ => trivial⟩
                        · simp only [List.getElem?_cons_zero, List.getElem?_cons_succ, Option.some.injEq] at ho
                          subst ho
                          intro a W vs hB hS hE hU
                          refine wpG_plain rfl ?_
                          obtain ⟨r11, e126⟩ := hE 11 126 (by kernel_rfl) (by kernel_rfl)
                          have v126 : a.eval (.tmp 126) = .bool true := e126.trans r11
                          clear hE hU
                          exact wp_value_inv (w' := W) (.bool true) (op_move rfl v126) ⟨_, rfl, hB, ExtB.refl _ _ _ _ _, rfl, fun _ _ _ _ _ => trivial⟩
                        · simp only [List.getElem?_cons_zero, List.getElem?_cons_succ, Option.some.injEq] at ho
                          subst ho
                          intro a W vs hB hS hE hU
                          obtain ⟨r12, e127⟩ := hE 12 127 (by kernel_rfl) (by kernel_rfl)
                          have v127 : a.eval (.tmp 127) = .bool true := e127.trans r12
                          refine wpG_yes 12 true 127 rfl (by kernel_rfl) (by rw [hS]; first | simp | exact Nat.le_of_ble_eq_true rfl) v127 ?_
                          have v12 : a.eval (.tmp 12) = .int .i64 (q : Nat) := (hU 12 (by kernel_rfl)).trans rfl
                          clear hE hU
                          exact wp_value_inv (w' := W) (.int .i64 (q : Nat)) (op_move rfl v12) ⟨_, rfl, hB, ExtB.refl _ _ _ _ _, rfl, fun _ _ _ _ _ => trivial⟩
                        · simp only [List.getElem?_cons_zero, List.getElem?_cons_succ, Option.some.injEq] at ho
                          subst ho
                          intro a W vs hB hS hE hU
                          obtain ⟨r12, e127⟩ := hE 12 127 (by kernel_rfl) (by kernel_rfl)
                          have v127 : a.eval (.tmp 127) = .bool true := e127.trans r12
                          refine wpG_yes 12 true 127 rfl (by kernel_rfl) (by rw [hS]; first | simp | exact Nat.le_of_ble_eq_true rfl) v127 ?_
                          have v14 : a.eval (.tmp 14) = .int .i64 (q : Nat) := (hU 14 (by kernel_rfl)).trans rfl
                          clear hE hU
                          exact wp_value_inv (w' := W) (.int .i64 (q : Nat)) (op_move rfl v14) ⟨_, rfl, hB, ExtB.refl _ _ _ _ _, rfl, fun _ _ _ _ _ => trivial⟩
                        · simp only [List.getElem?_cons_zero, List.getElem?_cons_succ, Option.some.injEq] at ho
                          subst ho
                          intro a W vs hB hS hE hU
                          obtain ⟨r12, e127⟩ := hE 12 127 (by kernel_rfl) (by kernel_rfl)
                          have v127 : a.eval (.tmp 127) = .bool true := e127.trans r12
                          refine wpG_yes 12 true 127 rfl (by kernel_rfl) (by rw [hS]; first | simp | exact Nat.le_of_ble_eq_true rfl) v127 ?_
                          obtain ⟨r13, e128⟩ := hE 13 128 (by kernel_rfl) (by kernel_rfl)
                          have v128 : a.eval (.tmp 128) = .int .i64 (q : Nat) := e128.trans r13
                          obtain ⟨r14, e129⟩ := hE 14 129 (by kernel_rfl) (by kernel_rfl)
                          have v129 : a.eval (.tmp 129) = .int .i64 (q : Nat) := e129.trans r14
                          clear hE hU
                          exact wp_value_inv (w' := W) (.bool true) (op_bin rfl v128 v129 (guard_int W _ _ _ _ _ _ _) (eql_yes)) ⟨_, rfl, hB, ExtB.refl _ _ _ _ _, rfl, fun _ _ _ _ _ => trivial⟩
                        · simp only [List.getElem?_cons_zero, List.getElem?_cons_succ, Option.some.injEq] at ho
                          subst ho
                          intro a W vs hB hS hE hU
                          refine wpG_plain rfl ?_
                          obtain ⟨r12, e127⟩ := hE 12 127 (by kernel_rfl) (by kernel_rfl)
                          have v127 : a.eval (.tmp 127) = .bool true := e127.trans r12
                          obtain ⟨r15, e130⟩ := hE 15 130 (by kernel_rfl) (by kernel_rfl)
                          have v130 : a.eval (.tmp 130) = .bool true := e130.trans r15
                          clear hE hU
                          exact wp_value_inv (w' := W) (.bool true) (op_pick rfl v127 (by simp only [if_true]; exact v130)) ⟨_, rfl, hB, ExtB.refl _ _ _ _ _, rfl, fun _ _ _ _ _ => trivial⟩
                        · simp only [List.getElem?_cons_zero, List.getElem?_cons_succ, Option.some.injEq] at ho
                          subst ho
                          intro a W vs hB hS hE hU
                          refine wpG_plain rfl ?_
                          obtain ⟨r16, e131⟩ := hE 16 131 (by kernel_rfl) (by kernel_rfl)
                          have v131 : a.eval (.tmp 131) = .bool true := e131.trans r16
                          clear hE hU
                          exact wp_value_inv (w' := W) (.bool true) (op_assign rfl v131) ⟨_, rfl, hB, ExtB.refl _ _ _ _ _, rfl, fun _ _ _ _ _ => trivial⟩
                      · intro vs Wc hB0 hR0 hD
                        have r6 : vs 17 = .bool true := hR0 17 (by decide)
                        have HB := Lib.hid hB0
                        clear hR0 hD hB0
                        simp only [acts, if_true, dstAt, List.getElem?_cons_zero, List.getElem?_cons_succ, Option.bind_some, Act.put, List.setIfInBounds_toArray, List.set_cons_succ, List.set_cons_zero, List.drop_succ_cons, List.drop_nil]
                        simp only [r6]
                        clear r6
                        go_wp2
                        go_ret
                        exact ⟨rfl, (HX.out.1.trans HWX.out (fun _ h => h.elim)).trans HB.out (fun _ h => h.elim)⟩
end Go.Proofs.Ythghkognpgndhaa
