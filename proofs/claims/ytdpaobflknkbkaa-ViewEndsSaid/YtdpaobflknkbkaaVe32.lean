/- Laid together: VDs -/
import Derived.Test.YtdpaobflknkbkaaVe30
import Derived.Test.YtdpaobflknkbkaaVe3

namespace Go.Proofs.Ytdpaobflknkbkaa
open Go.RowKit Go.ChangeShapes
set_option linter.unusedVariables false
def VdU (A : VA) (g b0 : Nat) (who : Int) (N : ByteArray) (KE : Int) (i : Nat) (v : Value) (W : World) : Prop :=
  match i with
  | 0 => v = .pointer (some ⟨A.vb, 0, none⟩)
  | 1 => v = .pointer (some ⟨b0, 1, none⟩)
  | 2 => v = .int .i64 who
  | 3 => v = .pointer (some ⟨b0, 2, none⟩)
  | 4 => v = .string N
  | 5 => v = .int .i64 KE
  | 6 => v = .pointer (some ⟨g, 0, none⟩)
  | 7 => v = .pointer (some ⟨b0, 1, none⟩)
  | 8 => v = .int .i64 who
  | 9 => v = .pointer (some ⟨b0, 2, none⟩)
  | 10 => v = .string N
  | 11 => v = .int .i64 KE
  | 12 => v = .bool true
  | 13 => v = .bool true
  | _ => True
theorem VdU.ext (A : VA) (g b0 : Nat) (who : Int) (N : ByteArray) (KE : Int) : ∀ (j : Nat) (u : Value) (W W' : World), Fr (fun _ => False) W W' → VdU A g b0 who N KE j u W → VdU A g b0 who N KE j u W'
  | 0, u, W, W', hf, h => h
  | 1, u, W, W', hf, h => h
  | 2, u, W, W', hf, h => h
  | 3, u, W, W', hf, h => h
  | 4, u, W, W', hf, h => h
  | 5, u, W, W', hf, h => h
  | 6, u, W, W', hf, h => h
  | 7, u, W, W', hf, h => h
  | 8, u, W, W', hf, h => h
  | 9, u, W, W', hf, h => h
  | 10, u, W, W', hf, h => h
  | 11, u, W, W', hf, h => h
  | 12, u, W, W', hf, h => h
  | 13, u, W, W', hf, h => h
  | _ + 14, u, W, W', hf, h => trivial
theorem VdU.ext9 (A : VA) (g b0 : Nat) (who : Int) (N : ByteArray) (KE : Int) : ∀ (j : Nat) (u : Value) (W W' : World), True → VdU A g b0 who N KE j u W → VdU A g b0 who N KE j u W'
  | 0, u, W, W', hf, h => h
  | 1, u, W, W', hf, h => h
  | 2, u, W, W', hf, h => h
  | 3, u, W, W', hf, h => h
  | 4, u, W, W', hf, h => h
  | 5, u, W, W', hf, h => h
  | 6, u, W, W', hf, h => h
  | 7, u, W, W', hf, h => h
  | 8, u, W, W', hf, h => h
  | 9, u, W, W', hf, h => h
  | 10, u, W, W', hf, h => h
  | 11, u, W, W', hf, h => h
  | 12, u, W, W', hf, h => h
  | 13, u, W, W', hf, h => h
  | _ + 14, u, W, W', hf, h => trivial
def VdR (A : VA) (g b0 : Nat) (who : Int) (N : ByteArray) (KE : Int) (CP : Array Value) (i : Nat) (v : Value) (W : World) : Prop :=
  match i with
  | 0 => v = .pointer (some ⟨A.vb, 0, none⟩)
  | 1 => v = .pointer (some ⟨b0, 1, none⟩)
  | 2 => v = .int .i64 who
  | 3 => v = .pointer (some ⟨b0, 2, none⟩)
  | 4 => v = .string N
  | 5 => v = .pointer (some ⟨b0, 3, none⟩)
  | 6 => v = .agg CP
  | 7 => v = .int .i64 KE
  | 8 => v = .pointer (some ⟨g, 0, none⟩)
  | 9 => v = .pointer (some ⟨b0, 1, none⟩)
  | 10 => v = .int .i64 who
  | 11 => v = .pointer (some ⟨b0, 2, none⟩)
  | 12 => v = .string N
  | 13 => v = .pointer (some ⟨b0, 3, none⟩)
  | 14 => v = .agg CP
  | 15 => v = .int .i64 KE
  | 16 => v = .bool true
  | 17 => v = .bool true
  | _ => True
theorem VdR.ext (A : VA) (g b0 : Nat) (who : Int) (N : ByteArray) (KE : Int) (CP : Array Value) : ∀ (j : Nat) (u : Value) (W W' : World), Fr (fun _ => False) W W' → VdR A g b0 who N KE CP j u W → VdR A g b0 who N KE CP j u W'
  | 0, u, W, W', hf, h => h
  | 1, u, W, W', hf, h => h
  | 2, u, W, W', hf, h => h
  | 3, u, W, W', hf, h => h
  | 4, u, W, W', hf, h => h
  | 5, u, W, W', hf, h => h
  | 6, u, W, W', hf, h => h
  | 7, u, W, W', hf, h => h
  | 8, u, W, W', hf, h => h
  | 9, u, W, W', hf, h => h
  | 10, u, W, W', hf, h => h
  | 11, u, W, W', hf, h => h
  | 12, u, W, W', hf, h => h
  | 13, u, W, W', hf, h => h
  | 14, u, W, W', hf, h => h
  | 15, u, W, W', hf, h => h
  | 16, u, W, W', hf, h => h
  | 17, u, W, W', hf, h => h
  | _ + 18, u, W, W', hf, h => trivial
theorem VdR.ext9 (A : VA) (g b0 : Nat) (who : Int) (N : ByteArray) (KE : Int) (CP : Array Value) : ∀ (j : Nat) (u : Value) (W W' : World), True → VdR A g b0 who N KE CP j u W → VdR A g b0 who N KE CP j u W'
  | 0, u, W, W', hf, h => h
  | 1, u, W, W', hf, h => h
  | 2, u, W, W', hf, h => h
  | 3, u, W, W', hf, h => h
  | 4, u, W, W', hf, h => h
  | 5, u, W, W', hf, h => h
  | 6, u, W, W', hf, h => h
  | 7, u, W, W', hf, h => h
  | 8, u, W, W', hf, h => h
  | 9, u, W, W', hf, h => h
  | 10, u, W, W', hf, h => h
  | 11, u, W, W', hf, h => h
  | 12, u, W, W', hf, h => h
  | 13, u, W, W', hf, h => h
  | 14, u, W, W', hf, h => h
  | 15, u, W, W', hf, h => h
  | 16, u, W, W', hf, h => h
  | 17, u, W, W', hf, h => h
  | _ + 18, u, W, W', hf, h => trivial
theorem VDs_fld_spence_spencelaw14_Deed_1_0 (w : World) (g : Nat) : (Instr.fieldAt 46 (.pointer (some ⟨g, 0, none⟩)) 1).run Try.prog w = .ok (.pointer (some ⟨g, 1, none⟩)) w := by kernel_rfl
theorem VDs_fld_spence_spencelaw14_Deed_2_0 (w : World) (g : Nat) : (Instr.fieldAt 46 (.pointer (some ⟨g, 0, none⟩)) 2).run Try.prog w = .ok (.pointer (some ⟨g, 2, none⟩)) w := by kernel_rfl
theorem VDs_fld_spence_spencelaw14_Deed_3_0 (w : World) (g : Nat) : (Instr.fieldAt 46 (.pointer (some ⟨g, 0, none⟩)) 3).run Try.prog w = .ok (.pointer (some ⟨g, 3, none⟩)) w := by kernel_rfl
theorem ent_vUnnote9 (args : Array Value) (w : World) : (callFunc 45 args).run Try.prog w = .ok (.enter 45 args) w := by kernel_rfl
theorem ent_dUnnote9 (args : Array Value) (w : World) : (callFunc 46 args).run Try.prog w = .ok (.enter 46 args) w := by kernel_rfl
theorem ent_vRoot9 (args : Array Value) (w : World) : (callFunc 31 args).run Try.prog w = .ok (.enter 31 args) w := by kernel_rfl
theorem ent_dRoot9 (args : Array Value) (w : World) : (callFunc 47 args).run Try.prog w = .ok (.enter 47 args) w := by kernel_rfl
section
variable {X Y : Nat → Prop} {z : Nat} {A : VA} {g u n m : Nat} {s s9 t : VS} {w w0 w' W : World} {S G : Nat → Prop} {iv ir : Nat} {f : Nat → Bool}
structure DsB (iv ir : Nat) (X : Nat → Prop) (z : Nat) (A : VA) (g u n : Nat) (s s9 : VS) (w0 : World) (f : Nat → Bool) (W : World) : Prop where
  wv : Wv X z A g u (if f iv = true then n + 1 else n) (if f iv = true then s9 else s) (if f ir = true then s9 else s) W
  fr : Fr (fun k => A.own k ∨ k = u) w0 W
theorem DsB.start (h : Wv X z A g u n s s w) : DsB iv ir X z A g u n s s9 w (fun _ => false) w.drew := ⟨by simpa using h.quiet (Fr.refl _ _).drew, (Fr.refl _ _).drew⟩
theorem DsB.pure {i : Nat} (h : DsB iv ir X z A g u n s s9 w0 f W) (h1 : iv ≠ i) (h2 : ir ≠ i) : DsB iv ir X z A g u n s s9 w0 (fun k => if k = i then true else f k) W :=
  ⟨by simp only [if_neg h1, if_neg h2]; exact h.wv, h.fr⟩
theorem DsB.done (h : DsB iv ir X z A g u n s s9 w0 f W) (h1 : f iv = true) (h2 : f ir = true) : Wv X z A g u (n + 1) s9 s9 W ∧ Fr (fun k => A.own k ∨ k = u) w0 W := by
  have := h.wv
  rw [if_pos h1, if_pos h1, if_pos h2] at this
  exact ⟨this, h.fr⟩
theorem DsB.view {fid : FuncId} {args : Array Value} {E : Value} (h : DsB iv ir X z A g u n s s9 w0 f W) (hfi : f iv = false) (hne : ir ≠ iv)
    (hc : ∀ t w, Wv X z A g u n s t w → Calls Try.prog fid args w fun e w' => e = .returned E ∧ Wv X z A g u (n + 1) s9 t w' ∧ Fr A.own w w') :
    Calls Try.prog fid args W fun e W' => ∃ v, e = .returned v ∧ (v = E ∧ DsB iv ir X z A g u n s s9 w0 (fun k => if k = iv then true else f k) W') := by
  have hw := h.wv
  rw [hfi] at hw
  simp only [Bool.false_eq_true, if_false] at hw
  refine (hc _ _ hw).mono fun e W' ⟨h1, h2, h3⟩ => ⟨E, h1, rfl, ⟨?_, h.fr.trans h3 (fun k hk => .inl (.inl hk))⟩⟩
  simp only [if_true, if_neg hne]
  exact h2
theorem DsB.doc {fid : FuncId} {args : Array Value} {E : Value} (h : DsB iv ir X z A g u n s s9 w0 f W) (hfi : f ir = false) (hne : iv ≠ ir)
    (hc : ∀ m t w, Wv X z A g u m t s w → Calls Try.prog fid args w fun e w' => e = .returned E ∧ Wv X z A g u m t s9 w' ∧ Fr (fun k => k = u) w w') :
    Calls Try.prog fid args W fun e W' => ∃ v, e = .returned v ∧ (v = E ∧ DsB iv ir X z A g u n s s9 w0 (fun k => if k = ir then true else f k) W') := by
  have hw := h.wv
  rw [hfi] at hw
  simp only [Bool.false_eq_true, if_false] at hw
  refine (hc _ _ _ hw).mono fun e W' ⟨h1, h2, h3⟩ => ⟨E, h1, rfl, ⟨?_, h.fr.trans h3 (fun k hk => .inl (.inr hk))⟩⟩
  simp only [if_true, if_neg hne]
  exact h2
theorem DeedC.cells {X : Array Value} {d : DeedD} (hX : DeedC X d) {W : World} {b : Nat} (hb : W.heap[b]? = some (.cells X 46 (0, 0))) : W.cell? ⟨b, 0, none⟩ = some (.int .i64 d.what) ∧ W.cell? ⟨b, 1, none⟩ = some (.int .i64 d.who) ∧ W.cell? ⟨b, 2, none⟩ = some (.string d.name) ∧ W.cell? ⟨b, 24, none⟩ = some d.xv :=
  ⟨by rw [cell_of_row _ _ _ _ _ _ hb]; exact hX.c0, by rw [cell_of_row _ _ _ _ _ _ hb]; exact hX.c1, by rw [cell_of_row _ _ _ _ _ _ hb]; exact hX.c2, by rw [cell_of_row _ _ _ _ _ _ hb]; exact hX.cv⟩
structure Ds2 (z : Nat) (A : VA) (g u n : Nat) (s : VS) (XD : Array Value) (d : DeedD) (G : Nat → Prop) (b0 gl c : Nat) (w W2 : World) : Prop where
  wv : Wv (fun k => k = gl) z A g u n s s W2
  lent : LentAt (fun k => k = gl) W2 gl c d.V
  box : W2.heap[b0]? = some (.cells XD 46 (0, 0))
  byt : BytesIn G W2 d.xv d.V
  fr : Fr (fun _ => False) w W2
  lg : w.heap.size ≤ gl ∧ b0 ≠ gl
theorem Ds2.made {XD : Array Value} {d : DeedD} {gl c : Nat} {W1 W2 : World} (h : Wv (fun _ => False) z A g u n s s w) (hB : BytesIn G w d.xv d.V) (hf1 : Fr (fun _ => False) w W1) (hb1 : W1.heap[w.heap.size]? = some (.cells XD 46 (0, 0))) (hl : LentAt (fun k => W1.heap.size ≤ k) W2 gl c d.V) (hf2 : Fr (fun _ => False) W1 W2) : Ds2 z A g u n s XD d G w.heap.size gl c w W2 := by
  have h0 := lt_of_block hb1
  have hg1 : W1.heap.size ≤ gl := hl.2.2.2 gl rfl
  have hg2 : gl < W2.heap.size := by
    rcases hl.2.2.1.2 with ⟨hv, _⟩ | ⟨g', cap, cur, hv, _, hg, _⟩
    · cases hv
    · injection hv with e1
      injection e1 with e1
      injection e1 with e1
      rw [e1]
      exact lt_of_block hg
  exact ⟨(h.quiet hf1).add hf2 (fun k hk => by rw [hk]; exact ⟨hg1, hg2⟩), ⟨hl.1, hl.2.1, hl.2.2.1, fun k hk => by simpa [Value.ownBlock, eq_comm] using hk⟩, hf2.heap hb1 id, (hB.keep hf1 (fun _ _ _ h => h)).keep hf2 (fun _ _ _ h => h), hf1.trans hf2 (fun _ h => h.elim), ⟨by have := hf1.size; omega, by omega⟩⟩
theorem lent9 {F : Nat → Prop} {W : World} {gl c : Nat} {L : List UInt8} (h : LentAt F W gl c L) : OwnB F W (.slice (some ⟨gl, 0, none⟩) L.length c) L := by
  have h1 := h.2.2.head L.length (by simp) (by simp)
  rwa [List.take_left'] at h1
  rfl
structure DsX (XD : Array Value) (d : DeedD) (G : Nat → Prop) (b0 gl c : Nat) (W : World) : Prop where
  box : W.heap[b0]? = some (.cells XD 46 (0, 0))
  byt : BytesIn G W d.xv d.V
  lent : LentAt (fun k => k = gl) W gl c d.V
  lg : b0 ≤ gl ∧ b0 ≠ gl
theorem DsX.keep {XD : Array Value} {d : DeedD} {b0 gl c : Nat} (h : DsX XD d G b0 gl c w) (hf : Fr S w w') (h1 : ¬ S b0) (h2 : ¬ S gl) (h3 : ∀ k, G k → ¬ S k) : DsX XD d G b0 gl c w' :=
  ⟨hf.heap h.box h1, h.byt.keep hf (fun k _ hk => h3 k hk), ⟨h.lent.1, h.lent.2.1, h.lent.2.2.keep hf (fun k _ hk => by rw [hk]; exact h2)⟩, h.lg⟩
set_option maxRecDepth 100000 in
set_option maxHeartbeats 4000000 in
theorem does_any (h : Wv (fun _ => False) z A g u n s s w) (hn : n ≤ 100000) (XD : Array Value) (d : DeedD) (hX : DeedC XD d) (hB : BytesIn G w d.xv d.V) (hG : ∀ k, G k → k < z) (hVl : d.V.length ≤ 1000000) :
    Calls Try.prog 13 #[.pointer (some ⟨A.vb, 0, none⟩), .pointer (some ⟨g, 0, none⟩), .agg XD] w fun e w' => e = .returned (.bool true) ∧ Wv (fun _ => False) z A g u (n + 1) (doS s d) (doS s d) w' ∧ Fr (fun k => z ≤ k) w w' := by
  obtain ⟨b0, hb0⟩ : ∃ b, b = w.heap.size := ⟨_, rfl⟩
  obtain ⟨W1, hW1⟩ : ∃ W1, W1 = w.alloc (.cells XD 46) := ⟨_, rfl⟩
  have hf1 : Fr (fun _ => False) w W1 := by rw [hW1]; exact (Fr.refl _ _).alloc _
  have hb1 : W1.heap[w.heap.size]? = some (.cells XD 46 (0, 0)) := by rw [hW1]; exact heap_alloc_new w _
  have cv0 := (hX.cells hb1).2.2.2
  rw [hW1] at cv0
  have hB1 := hB.keep hf1 (fun _ _ _ h => h)
  have HL0 := LentBytes_any d.xv d.V W1 hB1 (by omega)
  have HL : Calls Try.prog 38 #[d.xv] W1 fun e W2 => ∃ gl c, e = .returned (.slice (some ⟨gl, 0, none⟩) d.V.length c) ∧ Ds2 z A g u n s XD d G w.heap.size gl c w W2 :=
    HL0.mono fun e W2 ⟨gl, c, h1, h2, h3⟩ => ⟨gl, c, h1, Ds2.made h hB hf1 hb1 h2 h3⟩
  rw [hW1] at HL
  have hbA : (¬ A.own b0 ∧ b0 ≠ u) ∧ b0 ≠ g := by
    have hl := h.lts
    refine ⟨⟨fun ho => ?_, by omega⟩, by omega⟩
    have := hl.1 _ (VA.own_all ho)
    omega
  have hzz : z ≤ b0 := by rw [hb0]; exact h.zle
  obtain ⟨m, hm⟩ : ∃ m, m = d.what % 6 := ⟨_, rfl⟩
  have HPK := Lib.hid (fun W => pick_any d.what 6 W (by decide) (by decide) hX.wf.1.1 hX.wf.1.2)
  rw [← hm] at HPK
  have HDS := Lib.hid (show doS s d = (if m = 2 then unrootS s d.who d.name.data.toList else if m = 3 ∨ m = 4 then noteS s d.who d.name.data.toList d.V else if m = 5 then unnoteS s d.who d.name.data.toList else rootS s d.who d.name.data.toList d.p) by rw [hm]; rfl)
  obtain ⟨s9, hs9⟩ : ∃ t, t = doS s d := ⟨_, rfl⟩
  rw [← hs9] at HDS ⊢
  have hpl := h.pl
  have HQ := Lib.hid (And.intro hn (And.intro hX (And.intro hG (And.intro hVl (And.intro hbA (And.intro hzz hpl))))))
  have HLL := Lib.hid HL
  have HBW := Lib.hid hb0
  obtain ⟨ax, cx, hxv, _⟩ := id hB1
  rw [hxv] at cv0 HLL
  have HXV := Lib.hid hxv
  have hvv : (fun k => A.own k ∨ k = u) = (fun k => A.own k ∨ k = u) := rfl
  clear hn hX hB hG hVl h hW1 hf1 hb1 hB1 HL0 HL hbA hzz hm hs9 hpl hb0 hxv hvv
  by_cases m2 : m = 2
  · have e2 : decide (m = 2) = true := decide_eq_true m2
    have hT := HDS.out
    rw [if_pos m2] at hT
    have HT := Lib.hid hT
    obtain ⟨KE, hKE⟩ : ∃ i, i = unrootE s d.who d.name.data.toList := ⟨_, rfl⟩
    obtain ⟨C, hC, hCs, hC1, hCe⟩ : ∃ C, unrootP s d.who d.name.data.toList = .agg C ∧ C.size = 21 ∧ C.all (·.oneCell') = true ∧ ∀ W, (binOp .eql 43 (.agg C) (.agg C)).run Try.prog W = .ok (.bool true) W := by
      have hz : ∀ W, (binOp .eql 43 (.agg (pathC (List.replicate 20 0) ⟨#[]⟩)) (.agg (pathC (List.replicate 20 0) ⟨#[]⟩))).run Try.prog W = .ok (.bool true) W := fun W => by rw [run_eql_path W _ _ _ _ (by simp) (by simp), sameP_refl]
      unfold unrootP
      split
      · split
        · next x _ => exact ⟨_, rfl, pathC_size _ x.hl _, pathC_one _ _, fun W => by rw [run_eql_path W _ _ _ _ x.hl x.hl, sameP_refl]⟩
        · exact ⟨_, rfl, by kernel_rfl, by kernel_rfl, hz⟩
      · exact ⟨_, rfl, by kernel_rfl, by kernel_rfl, hz⟩
    have hA0 : ¬ A.own w.heap.size ∧ w.heap.size ≠ u := HBW.out ▸ HQ.out.2.2.2.2.1.1
    have HN1 := Lib.hid (fun (gl c : Nat) (W3 : World) (h : Ds2 z A g u n s XD d G w.heap.size gl c w W3) => show Calls Try.prog 39 #[.pointer (some ⟨A.vb, 0, none⟩), .int .i64 d.who, .string d.name] W3 fun e W4 => e = .returned (.tuple #[.agg C, .int .i64 KE]) ∧ W4.heap[w.heap.size]? = some (.cells XD 46 (0, 0)) ∧ Wv (fun k => k = gl) z A g u (n + 1) s9 s W4 ∧ Fr (fun k => z ≤ k) w W4 from by
      rw [hKE, HT.out, ← hC]
      exact (h.wv.vUnroot HQ.out.1 d.who d.name HQ.out.2.1.fit.1).mono fun e W4 ⟨h1, h2, h3⟩ => ⟨h1, h3.heap h.box hA0.1, h2, (h.fr.mono (T := fun k => z ≤ k) (fun _ _ h => h.elim)).trans h3 (fun k ho => .inl (h.wv.newA k (VA.own_all ho)).1)⟩)
    have HN2 := Lib.hid (fun (gl : Nat) (W4 W5 : World) (h : Wv (fun k => k = gl) z A g u (n + 1) s9 s W4 ∧ Fr (fun k => z ≤ k) w W4) (hf : Fr (fun _ => False) W4 W5) => show Calls Try.prog 40 #[.pointer (some ⟨g, 0, none⟩), .int .i64 d.who, .string d.name] W5 fun e W6 => e = .returned (.tuple #[.agg C, .int .i64 KE]) ∧ Wv (fun _ => False) z A g u (n + 1) s9 s9 W6 ∧ Fr (fun k => z ≤ k) w W6 ∧ Fr (fun k => k = u) W5 W6 ∧ u < W4.heap.size from by
      rw [hKE, ← hC]
      exact ((h.1.quiet hf).dUnroot HQ.out.2.2.2.2.2.2 d.who d.name HQ.out.2.1.fit.1).mono fun e W6 ⟨h1, h2, h3⟩ => ⟨h1, HT.out ▸ (HT.out ▸ h2).less (fun _ h => h.elim), (h.2.trans hf (fun _ h => h.elim)).trans h3 (fun k hk => .inl (by rw [hk]; exact h.1.newR.2.1)), h3, h.1.lts.2.2⟩)
    have hiC : (Try.prog.info? 43).map (·.size) = some C.size := by rw [hCs]; kernel_rfl
    have hzC : zC.size = C.size := by rw [hCs]; kernel_rfl
    have HAL := Lib.hid op_aP
    have HC := Lib.hid (And.intro hiC (And.intro hzC (And.intro hC1 hCe)))
    have HA0 := Lib.hid hA0
    clear hC hiC hzC hC1 hCs hCe hT hKE hA0 HT HDS HBW
    go_enter Try.func13, Try.ntmps13
    go_wp2_with (first
      | (go_at_call 38; refine HLL.out.mono ?_; rintro e W3 ⟨gl, c, rfl, h2⟩; (obtain ⟨c0, c1, c2, cv⟩ := HQ.out.2.1.cells h2.box); (have HU := Lib.hid (HN1.out gl c W3 h2)); clear h2)
      | (go_at_call 29; refine (HPK.out _).mono ?_; rintro e w1 ⟨rfl, hw1⟩; (obtain rfl : W3 = w1 := hw1))
      | (go_at_call 39; refine HU.out.mono ?_; rintro e W4 ⟨rfl, h4⟩; (have H4 := Lib.hid h4); clear h4)
      | (with_reducible refine Go.Proofs.Ytdpaobflknkbkaa.wpList_value rfl _ _ (HAL.out _ _ _ rfl) ?_; refine stopAt ?_))
    refine Stop.mk ?_
    try simp only [Act.put, List.setIfInBounds_toArray, List.set_cons_succ, List.set_cons_zero]
    refine Go.Proofs.Ytdpaobflknkbkaa.wpList_store_row rfl 43 (.tmp 8) (.tmp 29) rfl W4.heap.size C zC 43 rfl rfl (heap_alloc_new W4 _) HC.out.1 HC.out.2.1 HC.out.2.2.1 ?_
    obtain ⟨W5, hW5⟩ : ∃ W5, W5 = (W4.alloc (.cells zC 43)).setRow W4.heap.size C := ⟨_, rfl⟩
    have hf5 : Fr (fun _ => False) W4 W5 := by rw [hW5]; exact ((Fr.refl _ _).alloc _).setRow (.inr (Nat.le_refl _)) _
    have hb8 : W5.heap[W4.heap.size]? = some (.cells C 43 (0, 0)) := by rw [hW5]; exact setRow_heap _ _ _ _ _ _ (heap_alloc_new W4 _)
    rw [← hW5]
    have hbx := hf5.heap H4.out.1 id
    obtain ⟨c0, c1, c2, cv⟩ := HQ.out.2.1.cells hbx
    have HU5 := Lib.hid (HN2.out gl W4 W5 H4.out.2 hf5)
    have H5 := Lib.hid (And.intro hb8 (And.intro (lt_of_block hb8) hf5))
    clear hW5 hf5 hb8 hbx
    obtain ⟨g8, hg8⟩ : ∃ k, k = W4.heap.size := ⟨_, rfl⟩
    rw [← hg8] at H5 HU5 ⊢
    clear hg8
    try simp only [Act.put]
    go_wp2_with (first
      | (go_at_call 40; refine HU5.out.mono ?_; rintro e W6 ⟨rfl, h6⟩; (have H6 := Lib.hid h6); clear h6)
      | (with_reducible refine Go.Proofs.Ytdpaobflknkbkaa.wpList_value rfl _ _ (HAL.out _ _ _ rfl) ?_; refine stopAt ?_))
    refine Stop.mk ?_
    try simp only [Act.put, List.setIfInBounds_toArray, List.set_cons_succ, List.set_cons_zero]
    refine Go.Proofs.Ytdpaobflknkbkaa.wpList_store_row rfl 43 (.tmp 10) (.tmp 38) rfl W6.heap.size C zC 43 rfl rfl (heap_alloc_new W6 _) HC.out.1 HC.out.2.1 HC.out.2.2.1 ?_
    obtain ⟨W7, hW7⟩ : ∃ W7, W7 = (W6.alloc (.cells zC 43)).setRow W6.heap.size C := ⟨_, rfl⟩
    have hf7 : Fr (fun _ => False) W6 W7 := by rw [hW7]; exact ((Fr.refl _ _).alloc _).setRow (.inr (Nat.le_refl _)) _
    have hb10 : W7.heap[W6.heap.size]? = some (.cells C 43 (0, 0)) := by rw [hW7]; exact setRow_heap _ _ _ _ _ _ (heap_alloc_new W6 _)
    have hb8 : W7.heap[g8]? = some (.cells C 43 (0, 0)) := hf7.heap (H6.out.2.2.1.heap H5.out.1 (fun e => by have := H6.out.2.2.2; omega)) id
    rw [← hW7]
    have HFE := Lib.hid (show Wv (fun _ => False) z A g u (n + 1) s9 s9 W7 ∧ Fr (fun k => z ≤ k) w W7 from ⟨H6.out.1.quiet hf7, H6.out.2.1.trans hf7 (fun _ h => h.elim)⟩)
    have H7 := Lib.hid (And.intro hb8 hb10)
    clear hW7 hf7 hb10 hb8
    try simp only [Act.put]
    go_wp2_with (first
      | (with_reducible refine wpList_load_row rfl 43 (.tmp 8) rfl g8 rfl 43 C (0, 0) _ H7.out.1 Try.underlying43 rfl HC.out.1 ?_)
      | (with_reducible refine wpList_load_row rfl 43 (.tmp 10) rfl W6.heap.size rfl 43 C (0, 0) _ H7.out.2 Try.underlying43 rfl HC.out.1 ?_)
      | (refine Go.Proofs.Ytdpaobflknkbkaa.wpList_value rfl (.bool true) W7 (op_bin rfl rfl rfl (guard_path _ _ _ _ _ _) (HC.out.2.2.2 W7)) ?_))
    go_ret
    exact ⟨rfl, HFE.out⟩
  · have e2 : decide (m = 2) = false := decide_eq_false m2
    have hT := HDS.out
    rw [if_neg m2] at hT
    clear HDS
    by_cases m34 : m = 3 ∨ m = 4
    · rw [if_pos m34] at hT
      have HT := Lib.hid hT
      obtain ⟨KE, hKE⟩ : ∃ i, i = noteE s d.who d.name.data.toList d.V := ⟨_, rfl⟩
      have hA0 : ¬ A.own w.heap.size ∧ w.heap.size ≠ u := HBW.out ▸ HQ.out.2.2.2.2.1.1
      have hz0 : z ≤ w.heap.size := HBW.out ▸ HQ.out.2.2.2.2.2.1
      have hVl := HQ.out.2.2.2.1
      have HN1 := Lib.hid (fun (gl c : Nat) (W3 : World) (h : Ds2 z A g u n s XD d G w.heap.size gl c w W3) => show Calls Try.prog 41 #[.pointer (some ⟨A.vb, 0, none⟩), .int .i64 d.who, .string d.name, .slice (some ⟨gl, 0, none⟩) d.V.length c] W3 fun e W4 => e = .returned (.int .i64 KE) ∧ DsX XD d G w.heap.size gl c W4 ∧ Wv (fun k => k = gl) z A g u (n + 1) s9 s W4 ∧ Fr (fun k => z ≤ k) w W4 from by
        rw [hKE, HT.out]
        exact (h.wv.vNote HQ.out.1 d.who d.name HQ.out.2.1.fit.1 _ d.V (lent9 h.lent).bytes (by omega)).mono fun e W4 ⟨h1, h2, h3⟩ => ⟨h1, (DsX.mk h.box h.byt h.lent ⟨h.lg.1, h.lg.2⟩).keep h3 hA0.1 (fun ho => (h.wv.newA _ (VA.own_all ho)).2 rfl) (fun k hk ho => by have h4 := HQ.out.2.2.1 k hk; have h5 := (h.wv.newA _ (VA.own_all ho)).1; omega), h2, (h.fr.mono (T := fun k => z ≤ k) (fun _ _ h => h.elim)).trans h3 (fun k ho => .inl (h.wv.newA k (VA.own_all ho)).1)⟩)
      have HN2 := Lib.hid (fun (gl c : Nat) (W4 : World) (h : DsX XD d G w.heap.size gl c W4 ∧ Wv (fun k => k = gl) z A g u (n + 1) s9 s W4 ∧ Fr (fun k => z ≤ k) w W4) => show Calls Try.prog 42 #[.slice (some ⟨gl, 0, none⟩) d.V.length c, .slice ax d.V.length cx] W4 fun e W5 => e = .returned (.bool true) ∧ DsX XD d G w.heap.size gl c W5 ∧ Wv (fun k => k = gl) z A g u (n + 1) s9 s W5 ∧ Fr (fun k => z ≤ k) w W5 from by
        have hk := KeptBytes_any d.xv gl c d.V W4 h.1.byt h.1.lent (by omega)
        rw [HXV.out] at hk
        exact hk.mono fun e W5 ⟨h1, m9, h2⟩ => by
          subst h2
          have hf : Fr (fun _ => False) W4 (W4.drewN m9) := (Fr.refl _ _).drewN _
          exact ⟨h1, h.1.keep hf id id (fun _ _ h => h), h.2.1.quiet hf, h.2.2.trans hf (fun _ h => h.elim)⟩)
      have HN3 := Lib.hid (fun (gl c : Nat) (W5 : World) (h : DsX XD d G w.heap.size gl c W5 ∧ Wv (fun k => k = gl) z A g u (n + 1) s9 s W5 ∧ Fr (fun k => z ≤ k) w W5) => show Calls Try.prog 43 #[.slice (some ⟨gl, 0, none⟩) d.V.length c] W5 fun e W6 => e = .returned (.tuple #[]) ∧ W6.heap[w.heap.size]? = some (.cells XD 46 (0, 0)) ∧ BytesIn G W6 d.xv d.V ∧ Wv (fun k => k = gl) z A g u (n + 1) s9 s W6 ∧ Fr (fun k => z ≤ k) w W6 from by
        exact (overB_any W5 _ (CapB.ofOwn (lent9 h.1.lent) (by omega))).mono fun e W6 ⟨h1, h2, _⟩ => ⟨h1, h2.heap h.1.box h.1.lg.2, h.1.byt.keep h2 (fun k _ hk e => by have h4 := HQ.out.2.2.1 k hk; have h5 := h.1.lg.1; rw [e] at h4; omega), h.2.1.keep h2 (fun k hk => .inl hk), h.2.2.trans h2 (fun k hk => .inl (by rw [hk]; exact Nat.le_trans hz0 h.1.lg.1))⟩)
      have HN4 := Lib.hid (fun (gl : Nat) (W6 : World) (h : W6.heap[w.heap.size]? = some (.cells XD 46 (0, 0)) ∧ BytesIn G W6 d.xv d.V ∧ Wv (fun k => k = gl) z A g u (n + 1) s9 s W6 ∧ Fr (fun k => z ≤ k) w W6) => show Calls Try.prog 44 #[.pointer (some ⟨g, 0, none⟩), .int .i64 d.who, .string d.name, .slice ax d.V.length cx] W6 fun e W7 => e = .returned (.int .i64 KE) ∧ Wv (fun _ => False) z A g u (n + 1) s9 s9 W7 ∧ Fr (fun k => z ≤ k) w W7 from by
        have hk := h.2.2.1.dNote HQ.out.2.2.2.2.2.2 d.who d.name HQ.out.2.1.fit.1 d.xv d.V h.2.1 (by omega)
        rw [HXV.out] at hk
        rw [hKE]
        exact hk.mono fun e W7 ⟨h1, h2, h3⟩ => ⟨h1, HT.out ▸ (HT.out ▸ h2).less (fun _ h => h.elim), h.2.2.2.trans h3 (fun k hk => .inl (by rw [hk]; exact h.2.2.1.newR.2.1))⟩)
      clear hT hKE hA0 hz0 hVl HT HBW
      rcases m34 with m3 | m4
      · have e3 : decide (m = 3) = true := decide_eq_true m3
        go_enter Try.func13, Try.ntmps13
        go_wp2_with (first
          | (go_at_call 38; refine HLL.out.mono ?_; rintro e W3 ⟨gl, c, rfl, h2⟩; (obtain ⟨c0, c1, c2, cv⟩ := HQ.out.2.1.cells h2.box); (have HNV := Lib.hid (HN1.out gl c W3 h2)); (have H2 := Lib.hid h2); clear h2)
          | (go_at_call 29; refine (HPK.out _).mono ?_; rintro e w1 ⟨rfl, hw1⟩; (obtain rfl : W3 = w1 := hw1))
          | (go_at_call 41; refine HNV.out.mono ?_; rintro e W4 ⟨rfl, h4⟩; (obtain ⟨c0, c1, c2, cv⟩ := HQ.out.2.1.cells h4.1.box); rw [HXV.out] at cv; (have HKB := Lib.hid (HN2.out gl c W4 h4)); clear h4)
          | (go_at_call 42; refine HKB.out.mono ?_; rintro e W5 ⟨rfl, h5⟩; (obtain ⟨c0, c1, c2, cv⟩ := HQ.out.2.1.cells h5.1.box); rw [HXV.out] at cv; (have HOV := Lib.hid (HN3.out gl c W5 h5)); clear h5)
          | (go_at_call 43; refine HOV.out.mono ?_; rintro e W6 ⟨rfl, h6⟩; (obtain ⟨c0, c1, c2, cv⟩ := HQ.out.2.1.cells h6.1); rw [HXV.out] at cv; (have HND := Lib.hid (HN4.out gl W6 h6)); clear h6)
          | (go_at_call 44; refine HND.out.mono ?_; rintro e W7 ⟨rfl, h7⟩; (have H7 := Lib.hid h7); clear h7))
        go_ret
        exact ⟨rfl, H7.out⟩
      · have e3 : decide (m = 3) = false := decide_eq_false (by omega)
        have e4 : decide (m = 4) = true := decide_eq_true m4
        go_enter Try.func13, Try.ntmps13
        go_wp2_with (first
          | (go_at_call 38; refine HLL.out.mono ?_; rintro e W3 ⟨gl, c, rfl, h2⟩; (obtain ⟨c0, c1, c2, cv⟩ := HQ.out.2.1.cells h2.box); (have HNV := Lib.hid (HN1.out gl c W3 h2)); (have H2 := Lib.hid h2); clear h2)
          | (go_at_call 29; refine (HPK.out _).mono ?_; rintro e w1 ⟨rfl, hw1⟩; (obtain rfl : W3 = w1 := hw1))
          | (go_at_call 41; refine HNV.out.mono ?_; rintro e W4 ⟨rfl, h4⟩; (obtain ⟨c0, c1, c2, cv⟩ := HQ.out.2.1.cells h4.1.box); rw [HXV.out] at cv; (have HKB := Lib.hid (HN2.out gl c W4 h4)); clear h4)
          | (go_at_call 42; refine HKB.out.mono ?_; rintro e W5 ⟨rfl, h5⟩; (obtain ⟨c0, c1, c2, cv⟩ := HQ.out.2.1.cells h5.1.box); rw [HXV.out] at cv; (have HOV := Lib.hid (HN3.out gl c W5 h5)); clear h5)
          | (go_at_call 43; refine HOV.out.mono ?_; rintro e W6 ⟨rfl, h6⟩; (obtain ⟨c0, c1, c2, cv⟩ := HQ.out.2.1.cells h6.1); rw [HXV.out] at cv; (have HND := Lib.hid (HN4.out gl W6 h6)); clear h6)
          | (go_at_call 44; refine HND.out.mono ?_; rintro e W7 ⟨rfl, h7⟩; (have H7 := Lib.hid h7); clear h7))
        go_ret
        exact ⟨rfl, H7.out⟩
    · rw [if_neg m34] at hT
      have e3 : decide (m = 3) = false := decide_eq_false (fun h => m34 (.inl h))
      have e4 : decide (m = 4) = false := decide_eq_false (fun h => m34 (.inr h))
      by_cases m5 : m = 5
      · have e5 : decide (m = 5) = true := decide_eq_true m5
        rw [if_pos m5] at hT
        have HT := Lib.hid hT
        clear hT
        go_enter Try.func13, Try.ntmps13
        go_wp2_with (first
          | (go_at_call 38; refine HLL.out.mono ?_; rintro e W3 ⟨gl, c, rfl, h2⟩; (obtain ⟨c0, c1, c2, cv⟩ := HQ.out.2.1.cells h2.box); (have H2 := Lib.hid h2); clear h2)
          | (go_at_call 29; refine (HPK.out _).mono ?_; rintro e w1 ⟨rfl, hw1⟩; (obtain rfl : W3 = w1 := hw1)))
        obtain ⟨b9, hb9⟩ : ∃ b, b = w.heap.size := ⟨_, rfl⟩
        rw [← hb9]
        obtain rfl : b0 = b9 := HBW.out.trans hb9.symm
        have H9 := H2.out
        rw [← hb9] at H9
        obtain ⟨N, hN⟩ : ∃ N, N = d.name := ⟨_, rfl⟩
        obtain ⟨who, hwho⟩ : ∃ i, i = d.who := ⟨_, rfl⟩
        obtain ⟨KE, hKE⟩ : ∃ i, i = unnoteE s d.who d.name.data.toList := ⟨_, rfl⟩
        obtain ⟨X9, hX9⟩ : ∃ X9 : Nat → Prop, X9 = (fun k => k = gl) := ⟨_, rfl⟩
        obtain ⟨u9, hu9⟩ : ∃ k, k = u := ⟨_, rfl⟩
        have hwv := H9.wv
        rw [← hX9, ← hu9] at hwv
        have hkb : ∀ W, Fr (fun k => A.own k ∨ k = u9) W3 W → W.heap[b0]? = some (.cells XD 46 (0, 0)) := fun W hf => hf.heap H9.box (fun hh => hh.elim HQ.out.2.2.2.2.1.1.1 (fun e => HQ.out.2.2.2.2.1.1.2 (e.trans hu9)))
        have HL1 := Lib.hid (fun W (hf : Fr (fun k => A.own k ∨ k = u9) W3 W) => show (Instr.loadAt 3 (.pointer (some ⟨b0, 1, none⟩))).run Try.prog W = .ok (.int .i64 who) W by rw [hwho]; exact load_int5 W _ _ (HQ.out.2.1.cells (hkb W hf)).2.1)
        have HL2 := Lib.hid (fun W (hf : Fr (fun k => A.own k ∨ k = u9) W3 W) => show (Instr.loadAt 9 (.pointer (some ⟨b0, 2, none⟩))).run Try.prog W = .ok (.string N) W by rw [hN]; exact load_one5 W _ _ _ (by kernel_rfl) (HQ.out.2.1.cells (hkb W hf)).2.2.1)
        have HV := Lib.hid (fun (t : VS) (w8 : World) (h8 : Wv X9 z A g u9 n s t w8) => show Calls Try.prog 45 #[.pointer (some ⟨A.vb, 0, none⟩), .int .i64 who, .string N] w8 fun e w' => e = .returned (.int .i64 KE) ∧ Wv X9 z A g u9 (n + 1) s9 t w' ∧ Fr A.own w8 w' by rw [hKE, HT.out, hwho, hN]; exact h8.vUnnote HQ.out.1 _ _ HQ.out.2.1.fit.1)
        have HD := Lib.hid (fun (k9 : Nat) (t : VS) (w8 : World) (h8 : Wv X9 z A g u9 k9 t s w8) => show Calls Try.prog 46 #[.pointer (some ⟨g, 0, none⟩), .int .i64 who, .string N] w8 fun e w' => e = .returned (.int .i64 KE) ∧ Wv X9 z A g u9 k9 t s9 w' ∧ Fr (fun k => k = u9) w8 w' by rw [hKE, HT.out, hwho, hN]; exact h8.dUnnote HQ.out.2.2.2.2.2.2 _ _ HQ.out.2.1.fit.1)
        have HWV := Lib.hid hwv
        have HFE := Lib.hid (show ∀ W, Wv X9 z A g u9 (n + 1) s9 s9 W ∧ Fr (fun k => A.own k ∨ k = u9) W3 W → Wv (fun _ => False) z A g u (n + 1) s9 s9 W ∧ Fr (fun k => z ≤ k) w W from fun W hh => ⟨(hu9 ▸ hh.1).less (fun _ h => h.elim), (H9.fr.mono (T := fun k => z ≤ k) (fun _ _ h => h.elim)).trans hh.2 (fun k hk => .inl (hk.elim (fun ho => (hwv.newA k (VA.own_all ho)).1) (fun e => e ▸ hwv.newR.2.1)))⟩)
        clear hkb hwv H9 hN hwho hKE hX9 hu9 hb9 H2 HT HBW HQ c0 c1 c2 cv cv0 HLL HPK HXV
        refine wp_region_inv9 14 (by kernel_rfl) (by kernel_rfl) (DsB 5 11 X9 z A g u9 n s s9 W3) (VdU A g b0 who N KE) (fun _ _ _ _ => True) (fun _ _ => True) (VdU.ext9 A g b0 who N KE) (DsB.start HWV.out) ?_ ?_
        · intro i hi o ho
          replace hi : i < 14 := hi
          obtain rfl | rfl | rfl | rfl | rfl | rfl | rfl | rfl | rfl | rfl | rfl | rfl | rfl | rfl : i = 0 ∨ i = 1 ∨ i = 2 ∨ i = 3 ∨ i = 4 ∨ i = 5 ∨ i = 6 ∨ i = 7 ∨ i = 8 ∨ i = 9 ∨ i = 10 ∨ i = 11 ∨ i = 12 ∨ i = 13 := by omega
          · simp only [List.getElem?_cons_zero, Option.some.injEq] at ho
            subst ho
            intro a W vs f hfi hB hS hE hU
            refine wpG_plain rfl ?_
            have v0 : a.eval (.tmp 0) = .pointer (some ⟨A.vb, 0, none⟩) := (hU 0 (by kernel_rfl)).trans rfl
            clear hE hU
            exact wp_value_inv (w' := W) (.pointer (some ⟨A.vb, 0, none⟩)) (op_move rfl v0) ⟨_, rfl, hB.pure (by decide) (by decide), trivial, rfl, fun _ _ _ _ _ => trivial⟩
          · simp only [List.getElem?_cons_zero, List.getElem?_cons_succ, Option.some.injEq] at ho
            subst ho
            intro a W vs f hfi hB hS hE hU
            refine wpG_plain rfl ?_
            have v5 : a.eval (.tmp 5) = .pointer (some ⟨b0, 0, none⟩) := (hU 5 (by kernel_rfl)).trans rfl
            clear hE hU
            exact wp_value_inv (w' := W) (.pointer (some ⟨b0, 1, none⟩)) (op_fieldAddr rfl v5 (VDs_fld_spence_spencelaw14_Deed_1_0 W b0)) ⟨_, rfl, hB.pure (by decide) (by decide), trivial, rfl, fun _ _ _ _ _ => trivial⟩
          · simp only [List.getElem?_cons_zero, List.getElem?_cons_succ, Option.some.injEq] at ho
            subst ho
            intro a W vs f hfi hB hS hE hU
            refine wpG_plain rfl ?_
            obtain ⟨f1, r1, e80⟩ := hE 1 80 (by kernel_rfl) (by kernel_rfl)
            have v80 : a.eval (.tmp 80) = .pointer (some ⟨b0, 1, none⟩) := e80.trans r1
            clear hE hU
            exact wp_value_inv (w' := W) (.int .i64 who) (op_loadAt rfl v80 (HL1.out W hB.fr)) ⟨_, rfl, hB.pure (by decide) (by decide), trivial, rfl, fun _ _ _ _ _ => trivial⟩
          · simp only [List.getElem?_cons_zero, List.getElem?_cons_succ, Option.some.injEq] at ho
            subst ho
            intro a W vs f hfi hB hS hE hU
            refine wpG_plain rfl ?_
            have v5 : a.eval (.tmp 5) = .pointer (some ⟨b0, 0, none⟩) := (hU 5 (by kernel_rfl)).trans rfl
            clear hE hU
            exact wp_value_inv (w' := W) (.pointer (some ⟨b0, 2, none⟩)) (op_fieldAddr rfl v5 (VDs_fld_spence_spencelaw14_Deed_2_0 W b0)) ⟨_, rfl, hB.pure (by decide) (by decide), trivial, rfl, fun _ _ _ _ _ => trivial⟩
          · simp only [List.getElem?_cons_zero, List.getElem?_cons_succ, Option.some.injEq] at ho
            subst ho
            intro a W vs f hfi hB hS hE hU
            refine wpG_plain rfl ?_
            obtain ⟨f3, r3, e82⟩ := hE 3 82 (by kernel_rfl) (by kernel_rfl)
            have v82 : a.eval (.tmp 82) = .pointer (some ⟨b0, 2, none⟩) := e82.trans r3
            clear hE hU
            exact wp_value_inv (w' := W) (.string N) (op_loadAt rfl v82 (HL2.out W hB.fr)) ⟨_, rfl, hB.pure (by decide) (by decide), trivial, rfl, fun _ _ _ _ _ => trivial⟩
          · simp only [List.getElem?_cons_zero, List.getElem?_cons_succ, Option.some.injEq] at ho
            subst ho
            intro a W vs f hfi hB hS hE hU
            refine wpG_plain rfl ?_
            obtain ⟨f0, r0, e79⟩ := hE 0 79 (by kernel_rfl) (by kernel_rfl)
            have v79 : a.eval (.tmp 79) = .pointer (some ⟨A.vb, 0, none⟩) := e79.trans r0
            obtain ⟨f2, r2, e81⟩ := hE 2 81 (by kernel_rfl) (by kernel_rfl)
            have v81 : a.eval (.tmp 81) = .int .i64 who := e81.trans r2
            obtain ⟨f4, r4, e83⟩ := hE 4 83 (by kernel_rfl) (by kernel_rfl)
            have v83 : a.eval (.tmp 83) = .string N := e83.trans r4
            clear hE hU
            refine wp_call_inv 45 #[.tmp 79, .tmp 81, .tmp 83] #[26, 3, 9] rfl #[.pointer (some ⟨A.vb, 0, none⟩), .int .i64 who, .string N] (by simp only [List.map_toArray, List.map_cons, List.map_nil, v79, v81, v83]) (ent_vUnnote9 _) (Post := fun v W' => v = .int .i64 KE ∧ DsB 5 11 X9 z A g u9 n s s9 W3 (fun k => if k = 5 then true else f k) W') (hB.view hfi (by decide) HV.out) ?_
            rintro v W' ⟨rfl, hB2⟩
            exact ⟨_, rfl, hB2, trivial, rfl, fun _ _ _ _ _ => trivial⟩
          · simp only [List.getElem?_cons_zero, List.getElem?_cons_succ, Option.some.injEq] at ho
            subst ho
            intro a W vs f hfi hB hS hE hU
            refine wpG_plain rfl ?_
            have v1 : a.eval (.tmp 1) = .pointer (some ⟨g, 0, none⟩) := (hU 1 (by kernel_rfl)).trans rfl
            clear hE hU
            exact wp_value_inv (w' := W) (.pointer (some ⟨g, 0, none⟩)) (op_move rfl v1) ⟨_, rfl, hB.pure (by decide) (by decide), trivial, rfl, fun _ _ _ _ _ => trivial⟩
          · simp only [List.getElem?_cons_zero, List.getElem?_cons_succ, Option.some.injEq] at ho
            subst ho
            intro a W vs f hfi hB hS hE hU
            refine wpG_plain rfl ?_
            have v5 : a.eval (.tmp 5) = .pointer (some ⟨b0, 0, none⟩) := (hU 5 (by kernel_rfl)).trans rfl
            clear hE hU
            exact wp_value_inv (w' := W) (.pointer (some ⟨b0, 1, none⟩)) (op_fieldAddr rfl v5 (VDs_fld_spence_spencelaw14_Deed_1_0 W b0)) ⟨_, rfl, hB.pure (by decide) (by decide), trivial, rfl, fun _ _ _ _ _ => trivial⟩
          · simp only [List.getElem?_cons_zero, List.getElem?_cons_succ, Option.some.injEq] at ho
            subst ho
            intro a W vs f hfi hB hS hE hU
            refine wpG_plain rfl ?_
            obtain ⟨f7, r7, e86⟩ := hE 7 86 (by kernel_rfl) (by kernel_rfl)
            have v86 : a.eval (.tmp 86) = .pointer (some ⟨b0, 1, none⟩) := e86.trans r7
            clear hE hU
            exact wp_value_inv (w' := W) (.int .i64 who) (op_loadAt rfl v86 (HL1.out W hB.fr)) ⟨_, rfl, hB.pure (by decide) (by decide), trivial, rfl, fun _ _ _ _ _ => trivial⟩
          · simp only [List.getElem?_cons_zero, List.getElem?_cons_succ, Option.some.injEq] at ho
            subst ho
            intro a W vs f hfi hB hS hE hU
            refine wpG_plain rfl ?_
            have v5 : a.eval (.tmp 5) = .pointer (some ⟨b0, 0, none⟩) := (hU 5 (by kernel_rfl)).trans rfl
            clear hE hU
            exact wp_value_inv (w' := W) (.pointer (some ⟨b0, 2, none⟩)) (op_fieldAddr rfl v5 (VDs_fld_spence_spencelaw14_Deed_2_0 W b0)) ⟨_, rfl, hB.pure (by decide) (by decide), trivial, rfl, fun _ _ _ _ _ => trivial⟩
          · simp only [List.getElem?_cons_zero, List.getElem?_cons_succ, Option.some.injEq] at ho
            subst ho
            intro a W vs f hfi hB hS hE hU
            refine wpG_plain rfl ?_
            obtain ⟨f9, r9, e88⟩ := hE 9 88 (by kernel_rfl) (by kernel_rfl)
            have v88 : a.eval (.tmp 88) = .pointer (some ⟨b0, 2, none⟩) := e88.trans r9
            clear hE hU
            exact wp_value_inv (w' := W) (.string N) (op_loadAt rfl v88 (HL2.out W hB.fr)) ⟨_, rfl, hB.pure (by decide) (by decide), trivial, rfl, fun _ _ _ _ _ => trivial⟩
          · simp only [List.getElem?_cons_zero, List.getElem?_cons_succ, Option.some.injEq] at ho
            subst ho
            intro a W vs f hfi hB hS hE hU
            refine wpG_plain rfl ?_
            obtain ⟨f6, r6, e85⟩ := hE 6 85 (by kernel_rfl) (by kernel_rfl)
            have v85 : a.eval (.tmp 85) = .pointer (some ⟨g, 0, none⟩) := e85.trans r6
            obtain ⟨f8, r8, e87⟩ := hE 8 87 (by kernel_rfl) (by kernel_rfl)
            have v87 : a.eval (.tmp 87) = .int .i64 who := e87.trans r8
            obtain ⟨f10, r10, e89⟩ := hE 10 89 (by kernel_rfl) (by kernel_rfl)
            have v89 : a.eval (.tmp 89) = .string N := e89.trans r10
            clear hE hU
            refine wp_call_inv 46 #[.tmp 85, .tmp 87, .tmp 89] #[30, 3, 9] rfl #[.pointer (some ⟨g, 0, none⟩), .int .i64 who, .string N] (by simp only [List.map_toArray, List.map_cons, List.map_nil, v85, v87, v89]) (ent_dUnnote9 _) (Post := fun v W' => v = .int .i64 KE ∧ DsB 5 11 X9 z A g u9 n s s9 W3 (fun k => if k = 11 then true else f k) W') (hB.doc hfi (by decide) HD.out) ?_
            rintro v W' ⟨rfl, hB2⟩
            exact ⟨_, rfl, hB2, trivial, rfl, fun _ _ _ _ _ => trivial⟩
          · simp only [List.getElem?_cons_zero, List.getElem?_cons_succ, Option.some.injEq] at ho
            subst ho
            intro a W vs f hfi hB hS hE hU
            refine wpG_plain rfl ?_
            obtain ⟨f5, r5, e84⟩ := hE 5 84 (by kernel_rfl) (by kernel_rfl)
            have v84 : a.eval (.tmp 84) = .int .i64 KE := e84.trans r5
            obtain ⟨f11, r11, e90⟩ := hE 11 90 (by kernel_rfl) (by kernel_rfl)
            have v90 : a.eval (.tmp 90) = .int .i64 KE := e90.trans r11
            clear hE hU
            exact wp_value_inv (w' := W) (.bool true) (op_bin rfl v84 v90 (guard_int9 W _ _ _ _ _ _ _) eql_yes) ⟨_, rfl, hB.pure (by decide) (by decide), trivial, rfl, fun _ _ _ _ _ => trivial⟩
          · simp only [List.getElem?_cons_zero, List.getElem?_cons_succ, Option.some.injEq] at ho
            subst ho
            intro a W vs f hfi hB hS hE hU
            refine wpG_plain rfl ?_
            obtain ⟨f12, r12, e91⟩ := hE 12 91 (by kernel_rfl) (by kernel_rfl)
            have v91 : a.eval (.tmp 91) = .bool true := e91.trans r12
            clear hE hU
            exact wp_value_inv (w' := W) (.bool true) (op_assign rfl v91) ⟨_, rfl, hB.pure (by decide) (by decide), trivial, rfl, fun _ _ _ _ _ => trivial⟩
        · intro f0 vs Wa hf0 hB0 hR0 hD
          have r91 : vs 12 = .bool true := hR0 12 (by decide)
          have r6 : vs 13 = .bool true := hR0 13 (by decide)
          have HA := Lib.hid (hB0.done (hf0 5 (by decide)) (hf0 11 (by decide)))
          clear hR0 hD hB0 hf0
          simp only [acts, if_true, dstAt, List.getElem?_cons_zero, List.getElem?_cons_succ, Option.bind_some, Act.put, List.setIfInBounds_toArray, List.set_cons_succ, List.set_cons_zero, List.drop_succ_cons, List.drop_nil]
          simp only [r91, r6]
          clear r91 r6
          go_wp2_with fail
          go_ret
          exact ⟨rfl, HFE.out _ HA.out⟩
      · have e5 : decide (m = 5) = false := decide_eq_false m5
        rw [if_neg m5] at hT
        have HT := Lib.hid hT
        clear hT
        go_enter Try.func13, Try.ntmps13
        go_wp2_with (first
          | (go_at_call 38; refine HLL.out.mono ?_; rintro e W3 ⟨gl, c, rfl, h2⟩; (obtain ⟨c0, c1, c2, cv⟩ := HQ.out.2.1.cells h2.box); (have H2 := Lib.hid h2); clear h2)
          | (go_at_call 29; refine (HPK.out _).mono ?_; rintro e w1 ⟨rfl, hw1⟩; (obtain rfl : W3 = w1 := hw1)))
        obtain ⟨b9, hb9⟩ : ∃ b, b = w.heap.size := ⟨_, rfl⟩
        rw [← hb9]
        obtain rfl : b0 = b9 := HBW.out.trans hb9.symm
        have H9 := H2.out
        rw [← hb9] at H9
        obtain ⟨N, hN⟩ : ∃ N, N = d.name := ⟨_, rfl⟩
        obtain ⟨CP, hCP⟩ : ∃ C, C = pathC d.p.h d.p.n := ⟨_, rfl⟩
        obtain ⟨who, hwho⟩ : ∃ i, i = d.who := ⟨_, rfl⟩
        obtain ⟨KE, hKE⟩ : ∃ i, i = rootE s d.who d.name.data.toList d.p := ⟨_, rfl⟩
        obtain ⟨X9, hX9⟩ : ∃ X9 : Nat → Prop, X9 = (fun k => k = gl) := ⟨_, rfl⟩
        obtain ⟨u9, hu9⟩ : ∃ k, k = u := ⟨_, rfl⟩
        have hwv := H9.wv
        rw [← hX9, ← hu9] at hwv
        have hkb : ∀ W, Fr (fun k => A.own k ∨ k = u9) W3 W → W.heap[b0]? = some (.cells XD 46 (0, 0)) := fun W hf => hf.heap H9.box (fun hh => hh.elim HQ.out.2.2.2.2.1.1.1 (fun e => HQ.out.2.2.2.2.1.1.2 (e.trans hu9)))
        have HL1 := Lib.hid (fun W (hf : Fr (fun k => A.own k ∨ k = u9) W3 W) => show (Instr.loadAt 3 (.pointer (some ⟨b0, 1, none⟩))).run Try.prog W = .ok (.int .i64 who) W by rw [hwho]; exact load_int5 W _ _ (HQ.out.2.1.cells (hkb W hf)).2.1)
        have HL2 := Lib.hid (fun W (hf : Fr (fun k => A.own k ∨ k = u9) W3 W) => show (Instr.loadAt 9 (.pointer (some ⟨b0, 2, none⟩))).run Try.prog W = .ok (.string N) W by rw [hN]; exact load_one5 W _ _ _ (by kernel_rfl) (HQ.out.2.1.cells (hkb W hf)).2.2.1)
        have HL3 := Lib.hid (fun W (hf : Fr (fun k => A.own k ∨ k = u9) W3 W) => show (Instr.loadAt 43 (.pointer (some ⟨b0, 3, none⟩))).run Try.prog W = .ok (.agg CP) W by rw [hCP]; exact load_deed_path HQ.out.2.1 (hkb W hf))
        have HV := Lib.hid (fun (t : VS) (w8 : World) (h8 : Wv X9 z A g u9 n s t w8) => show Calls Try.prog 31 #[.pointer (some ⟨A.vb, 0, none⟩), .int .i64 who, .string N, .agg CP] w8 fun e w' => e = .returned (.int .i64 KE) ∧ Wv X9 z A g u9 (n + 1) s9 t w' ∧ Fr A.own w8 w' by rw [hKE, HT.out, hwho, hN, hCP]; exact h8.vRoot HQ.out.1 _ _ HQ.out.2.1.fit.1 _ HQ.out.2.1.fit.2.1)
        have HD := Lib.hid (fun (k9 : Nat) (t : VS) (w8 : World) (h8 : Wv X9 z A g u9 k9 t s w8) => show Calls Try.prog 47 #[.pointer (some ⟨g, 0, none⟩), .int .i64 who, .string N, .agg CP] w8 fun e w' => e = .returned (.int .i64 KE) ∧ Wv X9 z A g u9 k9 t s9 w' ∧ Fr (fun k => k = u9) w8 w' by rw [hKE, HT.out, hwho, hN, hCP]; exact h8.dRoot HQ.out.2.2.2.2.2.2 _ _ HQ.out.2.1.fit.1 _ HQ.out.2.1.fit.2.1)
        have HWV := Lib.hid hwv
        have HFE := Lib.hid (show ∀ W, Wv X9 z A g u9 (n + 1) s9 s9 W ∧ Fr (fun k => A.own k ∨ k = u9) W3 W → Wv (fun _ => False) z A g u (n + 1) s9 s9 W ∧ Fr (fun k => z ≤ k) w W from fun W hh => ⟨(hu9 ▸ hh.1).less (fun _ h => h.elim), (H9.fr.mono (T := fun k => z ≤ k) (fun _ _ h => h.elim)).trans hh.2 (fun k hk => .inl (hk.elim (fun ho => (hwv.newA k (VA.own_all ho)).1) (fun e => e ▸ hwv.newR.2.1)))⟩)
        clear hCP hkb hwv H9 hN hwho hKE hX9 hu9 hb9 H2 HT HBW HQ c0 c1 c2 cv cv0 HLL HPK HXV
        refine wp_region_inv9 18 (by kernel_rfl) (by kernel_rfl) (DsB 7 15 X9 z A g u9 n s s9 W3) (VdR A g b0 who N KE CP) (fun _ _ _ _ => True) (fun _ _ => True) (VdR.ext9 A g b0 who N KE CP) (DsB.start HWV.out) ?_ ?_
        · intro i hi o ho
          replace hi : i < 18 := hi
          obtain rfl | rfl | rfl | rfl | rfl | rfl | rfl | rfl | rfl | rfl | rfl | rfl | rfl | rfl | rfl | rfl | rfl | rfl : i = 0 ∨ i = 1 ∨ i = 2 ∨ i = 3 ∨ i = 4 ∨ i = 5 ∨ i = 6 ∨ i = 7 ∨ i = 8 ∨ i = 9 ∨ i = 10 ∨ i = 11 ∨ i = 12 ∨ i = 13 ∨ i = 14 ∨ i = 15 ∨ i = 16 ∨ i = 17 := by omega
          · simp only [List.getElem?_cons_zero, Option.some.injEq] at ho
            subst ho
            intro a W vs f hfi hB hS hE hU
            refine wpG_plain rfl ?_
            have v0 : a.eval (.tmp 0) = .pointer (some ⟨A.vb, 0, none⟩) := (hU 0 (by kernel_rfl)).trans rfl
            clear hE hU
            exact wp_value_inv (w' := W) (.pointer (some ⟨A.vb, 0, none⟩)) (op_move rfl v0) ⟨_, rfl, hB.pure (by decide) (by decide), trivial, rfl, fun _ _ _ _ _ => trivial⟩
          · simp only [List.getElem?_cons_zero, List.getElem?_cons_succ, Option.some.injEq] at ho
            subst ho
            intro a W vs f hfi hB hS hE hU
            refine wpG_plain rfl ?_
            have v5 : a.eval (.tmp 5) = .pointer (some ⟨b0, 0, none⟩) := (hU 5 (by kernel_rfl)).trans rfl
            clear hE hU
            exact wp_value_inv (w' := W) (.pointer (some ⟨b0, 1, none⟩)) (op_fieldAddr rfl v5 (VDs_fld_spence_spencelaw14_Deed_1_0 W b0)) ⟨_, rfl, hB.pure (by decide) (by decide), trivial, rfl, fun _ _ _ _ _ => trivial⟩
          · simp only [List.getElem?_cons_zero, List.getElem?_cons_succ, Option.some.injEq] at ho
            subst ho
            intro a W vs f hfi hB hS hE hU
            refine wpG_plain rfl ?_
            obtain ⟨f1, r1, e93⟩ := hE 1 93 (by kernel_rfl) (by kernel_rfl)
            have v93 : a.eval (.tmp 93) = .pointer (some ⟨b0, 1, none⟩) := e93.trans r1
            clear hE hU
            exact wp_value_inv (w' := W) (.int .i64 who) (op_loadAt rfl v93 (HL1.out W hB.fr)) ⟨_, rfl, hB.pure (by decide) (by decide), trivial, rfl, fun _ _ _ _ _ => trivial⟩
          · simp only [List.getElem?_cons_zero, List.getElem?_cons_succ, Option.some.injEq] at ho
            subst ho
            intro a W vs f hfi hB hS hE hU
            refine wpG_plain rfl ?_
            have v5 : a.eval (.tmp 5) = .pointer (some ⟨b0, 0, none⟩) := (hU 5 (by kernel_rfl)).trans rfl
            clear hE hU
            exact wp_value_inv (w' := W) (.pointer (some ⟨b0, 2, none⟩)) (op_fieldAddr rfl v5 (VDs_fld_spence_spencelaw14_Deed_2_0 W b0)) ⟨_, rfl, hB.pure (by decide) (by decide), trivial, rfl, fun _ _ _ _ _ => trivial⟩
          · simp only [List.getElem?_cons_zero, List.getElem?_cons_succ, Option.some.injEq] at ho
            subst ho
            intro a W vs f hfi hB hS hE hU
            refine wpG_plain rfl ?_
            obtain ⟨f3, r3, e95⟩ := hE 3 95 (by kernel_rfl) (by kernel_rfl)
            have v95 : a.eval (.tmp 95) = .pointer (some ⟨b0, 2, none⟩) := e95.trans r3
            clear hE hU
            exact wp_value_inv (w' := W) (.string N) (op_loadAt rfl v95 (HL2.out W hB.fr)) ⟨_, rfl, hB.pure (by decide) (by decide), trivial, rfl, fun _ _ _ _ _ => trivial⟩
          · simp only [List.getElem?_cons_zero, List.getElem?_cons_succ, Option.some.injEq] at ho
            subst ho
            intro a W vs f hfi hB hS hE hU
            refine wpG_plain rfl ?_
            have v5 : a.eval (.tmp 5) = .pointer (some ⟨b0, 0, none⟩) := (hU 5 (by kernel_rfl)).trans rfl
            clear hE hU
            exact wp_value_inv (w' := W) (.pointer (some ⟨b0, 3, none⟩)) (op_fieldAddr rfl v5 (VDs_fld_spence_spencelaw14_Deed_3_0 W b0)) ⟨_, rfl, hB.pure (by decide) (by decide), trivial, rfl, fun _ _ _ _ _ => trivial⟩
          · simp only [List.getElem?_cons_zero, List.getElem?_cons_succ, Option.some.injEq] at ho
            subst ho
            intro a W vs f hfi hB hS hE hU
            refine wpG_plain rfl ?_
            obtain ⟨f5, r5, e97⟩ := hE 5 97 (by kernel_rfl) (by kernel_rfl)
            have v97 : a.eval (.tmp 97) = .pointer (some ⟨b0, 3, none⟩) := e97.trans r5
            clear hE hU
            exact wp_value_inv (w' := W) (.agg CP) (op_loadAt rfl v97 (HL3.out W hB.fr)) ⟨_, rfl, hB.pure (by decide) (by decide), trivial, rfl, fun _ _ _ _ _ => trivial⟩
          · simp only [List.getElem?_cons_zero, List.getElem?_cons_succ, Option.some.injEq] at ho
            subst ho
            intro a W vs f hfi hB hS hE hU
            refine wpG_plain rfl ?_
            obtain ⟨f0, r0, e92⟩ := hE 0 92 (by kernel_rfl) (by kernel_rfl)
            have v92 : a.eval (.tmp 92) = .pointer (some ⟨A.vb, 0, none⟩) := e92.trans r0
            obtain ⟨f2, r2, e94⟩ := hE 2 94 (by kernel_rfl) (by kernel_rfl)
            have v94 : a.eval (.tmp 94) = .int .i64 who := e94.trans r2
            obtain ⟨f4, r4, e96⟩ := hE 4 96 (by kernel_rfl) (by kernel_rfl)
            have v96 : a.eval (.tmp 96) = .string N := e96.trans r4
            obtain ⟨f6, r6, e98⟩ := hE 6 98 (by kernel_rfl) (by kernel_rfl)
            have v98 : a.eval (.tmp 98) = .agg CP := e98.trans r6
            clear hE hU
            refine wp_call_inv 31 #[.tmp 92, .tmp 94, .tmp 96, .tmp 98] #[26, 3, 9, 43] rfl #[.pointer (some ⟨A.vb, 0, none⟩), .int .i64 who, .string N, .agg CP] (by simp only [List.map_toArray, List.map_cons, List.map_nil, v92, v94, v96, v98]) (ent_vRoot9 _) (Post := fun v W' => v = .int .i64 KE ∧ DsB 7 15 X9 z A g u9 n s s9 W3 (fun k => if k = 7 then true else f k) W') (hB.view hfi (by decide) HV.out) ?_
            rintro v W' ⟨rfl, hB2⟩
            exact ⟨_, rfl, hB2, trivial, rfl, fun _ _ _ _ _ => trivial⟩
          · simp only [List.getElem?_cons_zero, List.getElem?_cons_succ, Option.some.injEq] at ho
            subst ho
            intro a W vs f hfi hB hS hE hU
            refine wpG_plain rfl ?_
            have v1 : a.eval (.tmp 1) = .pointer (some ⟨g, 0, none⟩) := (hU 1 (by kernel_rfl)).trans rfl
            clear hE hU
            exact wp_value_inv (w' := W) (.pointer (some ⟨g, 0, none⟩)) (op_move rfl v1) ⟨_, rfl, hB.pure (by decide) (by decide), trivial, rfl, fun _ _ _ _ _ => trivial⟩
          · simp only [List.getElem?_cons_zero, List.getElem?_cons_succ, Option.some.injEq] at ho
            subst ho
            intro a W vs f hfi hB hS hE hU
            refine wpG_plain rfl ?_
            have v5 : a.eval (.tmp 5) = .pointer (some ⟨b0, 0, none⟩) := (hU 5 (by kernel_rfl)).trans rfl
            clear hE hU
            exact wp_value_inv (w' := W) (.pointer (some ⟨b0, 1, none⟩)) (op_fieldAddr rfl v5 (VDs_fld_spence_spencelaw14_Deed_1_0 W b0)) ⟨_, rfl, hB.pure (by decide) (by decide), trivial, rfl, fun _ _ _ _ _ => trivial⟩
          · simp only [List.getElem?_cons_zero, List.getElem?_cons_succ, Option.some.injEq] at ho
            subst ho
            intro a W vs f hfi hB hS hE hU
            refine wpG_plain rfl ?_
            obtain ⟨f9, r9, e101⟩ := hE 9 101 (by kernel_rfl) (by kernel_rfl)
            have v101 : a.eval (.tmp 101) = .pointer (some ⟨b0, 1, none⟩) := e101.trans r9
            clear hE hU
            exact wp_value_inv (w' := W) (.int .i64 who) (op_loadAt rfl v101 (HL1.out W hB.fr)) ⟨_, rfl, hB.pure (by decide) (by decide), trivial, rfl, fun _ _ _ _ _ => trivial⟩
          · simp only [List.getElem?_cons_zero, List.getElem?_cons_succ, Option.some.injEq] at ho
            subst ho
            intro a W vs f hfi hB hS hE hU
            refine wpG_plain rfl ?_
            have v5 : a.eval (.tmp 5) = .pointer (some ⟨b0, 0, none⟩) := (hU 5 (by kernel_rfl)).trans rfl
            clear hE hU
            exact wp_value_inv (w' := W) (.pointer (some ⟨b0, 2, none⟩)) (op_fieldAddr rfl v5 (VDs_fld_spence_spencelaw14_Deed_2_0 W b0)) ⟨_, rfl, hB.pure (by decide) (by decide), trivial, rfl, fun _ _ _ _ _ => trivial⟩
          · simp only [List.getElem?_cons_zero, List.getElem?_cons_succ, Option.some.injEq] at ho
            subst ho
            intro a W vs f hfi hB hS hE hU
            refine wpG_plain rfl ?_
            obtain ⟨f11, r11, e103⟩ := hE 11 103 (by kernel_rfl) (by kernel_rfl)
            have v103 : a.eval (.tmp 103) = .pointer (some ⟨b0, 2, none⟩) := e103.trans r11
            clear hE hU
            exact wp_value_inv (w' := W) (.string N) (op_loadAt rfl v103 (HL2.out W hB.fr)) ⟨_, rfl, hB.pure (by decide) (by decide), trivial, rfl, fun _ _ _ _ _ => trivial⟩
          · simp only [List.getElem?_cons_zero, List.getElem?_cons_succ, Option.some.injEq] at ho
            subst ho
            intro a W vs f hfi hB hS hE hU
            refine wpG_plain rfl ?_
            have v5 : a.eval (.tmp 5) = .pointer (some ⟨b0, 0, none⟩) := (hU 5 (by kernel_rfl)).trans rfl
            clear hE hU
            exact wp_value_inv (w' := W) (.pointer (some ⟨b0, 3, none⟩)) (op_fieldAddr rfl v5 (VDs_fld_spence_spencelaw14_Deed_3_0 W b0)) ⟨_, rfl, hB.pure (by decide) (by decide), trivial, rfl, fun _ _ _ _ _ => trivial⟩
          · simp only [List.getElem?_cons_zero, List.getElem?_cons_succ, Option.some.injEq] at ho
            subst ho
            intro a W vs f hfi hB hS hE hU
            refine wpG_plain rfl ?_
            obtain ⟨f13, r13, e105⟩ := hE 13 105 (by kernel_rfl) (by kernel_rfl)
            have v105 : a.eval (.tmp 105) = .pointer (some ⟨b0, 3, none⟩) := e105.trans r13
            clear hE hU
            exact wp_value_inv (w' := W) (.agg CP) (op_loadAt rfl v105 (HL3.out W hB.fr)) ⟨_, rfl, hB.pure (by decide) (by decide), trivial, rfl, fun _ _ _ _ _ => trivial⟩
          · simp only [List.getElem?_cons_zero, List.getElem?_cons_succ, Option.some.injEq] at ho
            subst ho
            intro a W vs f hfi hB hS hE hU
            refine wpG_plain rfl ?_
            obtain ⟨f8, r8, e100⟩ := hE 8 100 (by kernel_rfl) (by kernel_rfl)
            have v100 : a.eval (.tmp 100) = .pointer (some ⟨g, 0, none⟩) := e100.trans r8
            obtain ⟨f10, r10, e102⟩ := hE 10 102 (by kernel_rfl) (by kernel_rfl)
            have v102 : a.eval (.tmp 102) = .int .i64 who := e102.trans r10
            obtain ⟨f12, r12, e104⟩ := hE 12 104 (by kernel_rfl) (by kernel_rfl)
            have v104 : a.eval (.tmp 104) = .string N := e104.trans r12
            obtain ⟨f14, r14, e106⟩ := hE 14 106 (by kernel_rfl) (by kernel_rfl)
            have v106 : a.eval (.tmp 106) = .agg CP := e106.trans r14
            clear hE hU
            refine wp_call_inv 47 #[.tmp 100, .tmp 102, .tmp 104, .tmp 106] #[30, 3, 9, 43] rfl #[.pointer (some ⟨g, 0, none⟩), .int .i64 who, .string N, .agg CP] (by simp only [List.map_toArray, List.map_cons, List.map_nil, v100, v102, v104, v106]) (ent_dRoot9 _) (Post := fun v W' => v = .int .i64 KE ∧ DsB 7 15 X9 z A g u9 n s s9 W3 (fun k => if k = 15 then true else f k) W') (hB.doc hfi (by decide) HD.out) ?_
            rintro v W' ⟨rfl, hB2⟩
            exact ⟨_, rfl, hB2, trivial, rfl, fun _ _ _ _ _ => trivial⟩
          · simp only [List.getElem?_cons_zero, List.getElem?_cons_succ, Option.some.injEq] at ho
            subst ho
            intro a W vs f hfi hB hS hE hU
            refine wpG_plain rfl ?_
            obtain ⟨f7, r7, e99⟩ := hE 7 99 (by kernel_rfl) (by kernel_rfl)
            have v99 : a.eval (.tmp 99) = .int .i64 KE := e99.trans r7
            obtain ⟨f15, r15, e107⟩ := hE 15 107 (by kernel_rfl) (by kernel_rfl)
            have v107 : a.eval (.tmp 107) = .int .i64 KE := e107.trans r15
            clear hE hU
            exact wp_value_inv (w' := W) (.bool true) (op_bin rfl v99 v107 (guard_int9 W _ _ _ _ _ _ _) eql_yes) ⟨_, rfl, hB.pure (by decide) (by decide), trivial, rfl, fun _ _ _ _ _ => trivial⟩
          · simp only [List.getElem?_cons_zero, List.getElem?_cons_succ, Option.some.injEq] at ho
            subst ho
            intro a W vs f hfi hB hS hE hU
            refine wpG_plain rfl ?_
            obtain ⟨f16, r16, e108⟩ := hE 16 108 (by kernel_rfl) (by kernel_rfl)
            have v108 : a.eval (.tmp 108) = .bool true := e108.trans r16
            clear hE hU
            exact wp_value_inv (w' := W) (.bool true) (op_assign rfl v108) ⟨_, rfl, hB.pure (by decide) (by decide), trivial, rfl, fun _ _ _ _ _ => trivial⟩
        · intro f0 vs Wa hf0 hB0 hR0 hD
          have r108 : vs 16 = .bool true := hR0 16 (by decide)
          have r6 : vs 17 = .bool true := hR0 17 (by decide)
          have HA := Lib.hid (hB0.done (hf0 7 (by decide)) (hf0 15 (by decide)))
          clear hR0 hD hB0 hf0
          simp only [acts, if_true, dstAt, List.getElem?_cons_zero, List.getElem?_cons_succ, Option.bind_some, Act.put, List.setIfInBounds_toArray, List.set_cons_succ, List.set_cons_zero, List.drop_succ_cons, List.drop_nil]
          simp only [r108, r6]
          clear r108 r6
          go_wp2_with fail
          go_ret
          exact ⟨rfl, HFE.out _ HA.out⟩
end
end Go.Proofs.Ytdpaobflknkbkaa
