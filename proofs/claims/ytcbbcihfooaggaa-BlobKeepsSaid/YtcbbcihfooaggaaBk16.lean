/- Laid together: BRead BWriteA -/
import Derived.Test.YtcbbcihfooaggaaBk14
import Derived.Test.YtcbbcihfooaggaaBk15
import Derived.Test.YtcbbcihfooaggaaBk11

namespace Go.Proofs.Ytcbbcihfooaggaa
open Go.RowKit Go.ChangeShapes
set_option linter.unusedVariables false
attribute [local go_sem] Oper.semAt_some
theorem op_min7 {w : World} {o : Oper} {a : Act} {x y : Operand} {p q r : Int} (ho : o.op = .call { callee := .builtin .min, args := #[x, y], argTypes := #[3, 3] }) (hx : a.eval x = .int .i64 p) (hy : a.eval y = .int .i64 q) (hr : (if q < p then q else p) = r) :
    (execOp a.eval o).run Try.prog w = .ok (.value (.int .i64 r)) w := by
  obtain ⟨d, op, ty, pos, aft, g⟩ := o
  simp only at ho
  subst ho
  subst hr
  simp [execOp, resolve, invoke, builtin, hx, hy, Result.andThen, run_min_int2]
def BrR (b6 b12 many cur cc m cs : Nat) (ac ax : Option Addr) (i : Nat) (v : Value) (W : World) : Prop :=
  match i with
  | 0 => v = .slice ac cur cc
  | 1 => v = .slice ax 64 cs
  | 2 => v = .slice ax 64 cs
  | 3 => v = .int .i64 (64 : Nat)
  | 4 => v = .int .i64 (many : Nat)
  | 5 => v = .slice ac cur cc
  | 6 => v = .int .i64 (cur : Nat)
  | 7 => v = .int .i64 ((many - cur : Nat) : Int)
  | 8 => v = .int .i64 (m : Nat)
  | 9 => v = .slice ax m cs
  | _ => True
theorem BrR.ext (b6 b12 many cur cc m cs : Nat) (ac ax : Option Addr) : ∀ (j : Nat) (u : Value) (W W' : World), Fr (fun _ => False) W W' → BrR b6 b12 many cur cc m cs ac ax j u W → BrR b6 b12 many cur cc m cs ac ax j u W'
  | 0, u, W, W', hf, h => h
  | 1, u, W, W', hf, h => h
  | 2, u, W, W', hf, h => h
  | 3, u, W, W', hf, h => h
  | 4, u, W, W', hf, h => h
  | 5, u, W, W', hf, h => h
  | 6, u, W, W', hf, h => h
  | 7, u, W, W', hf, h => h
  | 8, u, W, W', hf, h => h
  | 9, u, W, W', hf, h => h
  | _ + 10, u, W, W', hf, h => trivial
theorem heap5_new (w : World) (A B C E F : Obj) : (((((w.alloc A).alloc B).alloc C).alloc E).alloc F).heap[w.heap.size]? = some A ∧ (((((w.alloc A).alloc B).alloc C).alloc E).alloc F).heap[w.heap.size + 1]? = some B ∧ (((((w.alloc A).alloc B).alloc C).alloc E).alloc F).heap[w.heap.size + 1 + 1]? = some C ∧ (((((w.alloc A).alloc B).alloc C).alloc E).alloc F).heap[w.heap.size + 1 + 1 + 1]? = some E ∧ (((((w.alloc A).alloc B).alloc C).alloc E).alloc F).heap[w.heap.size + 1 + 1 + 1 + 1]? = some F := by
  obtain ⟨h1, h2, h3, h4⟩ := heap4_new w A B C E
  refine ⟨((Fr.refl (fun _ => False) _).alloc _).heap h1 id, ((Fr.refl (fun _ => False) _).alloc _).heap h2 id, ((Fr.refl (fun _ => False) _).alloc _).heap h3 id, ((Fr.refl (fun _ => False) _).alloc _).heap h4 id, ?_⟩
  have := heap_alloc_new (((w.alloc A).alloc B |>.alloc C).alloc E) F
  simpa using this
def ReadP (w : World) (r : Int × List UInt8) (e : Ending) (w' : World) : Prop := ∃ v, e = .returned (.tuple #[v, .int .i64 r.1]) ∧ OwnB (fun k => w.heap.size ≤ k) w' v r.2 ∧ Fr (fun _ => False) w w'
set_option maxRecDepth 100000 in
set_option maxHeartbeats 8000000 in
theorem bRead_yes {D F : Nat → Prop} (w : World) (g s : Nat) (dv : Dv) (l0 la d s0 many : Nat) (v : Value) (l : List Rn) (h : DevAt w D g s dv) (hs1 : 1 ≤ s) (hs2 : s ≤ 8192) (hn6 : dv.waits.length ≤ 1000000) (hmb : many ≤ 1000000) (hL : RnsIn F w v l) (hF : ∀ k, F k → k < w.heap.size) (hsh : ShOk l0 la d s0) (hss : s0 ≤ s) (hap : apart7 d l = true) (hr : fit7 s l0 la d (many : Int) l = 0) :
    CallsIn Fence.wide 3 Try.prog 28 #[.pointer (some ⟨g, 0, none⟩), .agg #[.int .i64 l0, .int .i64 la, .int .i64 d], .int .i64 many, v] w (ReadP w ((dv.rd7 s (1 + l0 + 2 * la) (secs7 l)).1, (dv.rd7 s (1 + l0 + 2 * la) (secs7 l)).2.take many)) := by
  refine callsIn_of_wp_marks Try.func28 rfl trivial ?_ rfl
  simp only [Try.ntmps28, List.size_toArray, List.length_cons, List.length_nil, Nat.reduceAdd, Nat.reduceSub, Array.replicate_succ, Array.replicate_zero, List.push_toArray, List.append_toArray, List.nil_append, List.cons_append]
  obtain ⟨ao, cap, rfl, hc1, hc2, -⟩ := hL.open7
  obtain ⟨nl, hnl⟩ : ∃ nl, nl = l.length := ⟨_, rfl⟩
  rw [← hnl] at hL hc1 ⊢
  have hft := fun (W : World) (hW : Fr (fun _ => False) w W) => WideF.out.calls (n := 2) (fits_any (F := fun k => F k ∧ k < w.heap.size) W g s dv l0 la d (many : Int) _ l (h.keep hW (fun _ _ _ h => h)) hs1 hs2 (by omega) (by omega) ((hL.mono (fun k hk h => ⟨h, hk⟩)).quiet hW) (fun k hk => by have := hk.2; have := hW.size; omega))
  rw [hr] at hft
  have HFT := Lib.hid hft
  have HFI := Lib.hid (fun W => WideF.out.calls (n := 2) (lFirst_any W l0 la d s0 hsh))
  obtain ⟨f0, hf0⟩ : ∃ f0, f0 = 1 + l0 + 2 * la := ⟨_, rfl⟩
  rw [← hf0] at HFI ⊢
  have hmk := fun w => run_mk7 w many hmb
  obtain ⟨k4, k5, k6, k8, k9⟩ := heap5_new w (.cells #[.pointer (some ⟨g, 0, none⟩)] 43) (.cells #[.int .i64 l0, .int .i64 la, .int .i64 d] 23) (.cells #[.int .i64 many] 3) (.cells #[.slice none 0 0] 40) (.cells #[.int .i64 0] 27)
  have HK := Lib.hid (And.intro k4 (And.intro k5 (And.intro k6 (And.intro k8 k9))))
  have hd : d ≤ 8192 := by have := hsh.sum; have := hsh.most; omega
  have hfd : f0 + d ≤ s := by have := hsh.sum; omega
  have HDV := Lib.hid (And.intro (h.mono (E := fun k => D k ∧ k < w.heap.size) (fun k hk h => ⟨h, hk⟩)) (And.intro hn6 hs2))
  have HRN := Lib.hid (And.intro hL (And.intro hF hap))
  clear k4 k5 k6 k8 k9 hft hr hL hF h hs1 hs2 hn6 hsh hf0 hnl hss hap
  gi_wp2_with (first
    | (refine ⟨trivial, ?_⟩; gi_at_call 48; refine (HFT.out _ ((((((Fr.refl (fun _ => False) w).alloc _).alloc _).alloc _).alloc _).alloc _)).mono ?_; rintro e w2 ⟨rfl, hf2⟩; (obtain ⟨s0', s1, s2⟩ := row3_cells (hf2.heap HK.out.2.1 id)); (have e6 := cell_of_one (hf2.heap HK.out.2.2.1 id)); (have H2 := Lib.hid hf2); clear hf2)
    | (refine ⟨trivial, ?_⟩; gi_at_call 49; refine (HFI.out _).mono ?_; rintro e w3 ⟨rfl, hf3⟩; (have e6 := fun o => cell_of_one (((Fr.refl (fun _ => False) w3).alloc o).heap ((H2.out.trans hf3 (fun _ h => h.elim)).heap HK.out.2.2.1 id) id)); (have H3 := Lib.hid (H2.out.trans hf3 (fun _ h => h.elim))); clear hf3)
    | (refine ⟨trivial, ?_⟩; gi_at_call 50; refine (WideF.out.calls (n := 2) (sectors_any _ _ _ _)).mono ?_; rintro e w6 ⟨rfl, rfl⟩))
  obtain ⟨W5, hW5⟩ : ∃ W5, W5 = ((((w.alloc (.cells #[.pointer (some ⟨g, 0, none⟩)] 43)).alloc (.cells #[.int .i64 l0, .int .i64 la, .int .i64 d] 23)).alloc (.cells #[.int .i64 many] 3)).alloc (.cells #[.slice none 0 0] 40)).alloc (.cells #[.int .i64 0] 27) := ⟨_, rfl⟩
  have hf05 : Fr (fun _ => False) w W5 := by rw [hW5]; exact (((((Fr.refl (fun _ => False) w).alloc _).alloc _).alloc _).alloc _).alloc _
  have hz5 : W5.heap.size = w.heap.size + 5 := by rw [hW5]; simp
  have hf53 : Fr (fun _ => False) W5 w3 := by rw [hW5]; exact H3.out
  obtain ⟨k4, k5, k6, k8, k9⟩ := HK.out
  rw [← hW5] at k4 k6 k8 k9
  obtain ⟨b4, hb4⟩ : ∃ b4, b4 = w.heap.size := ⟨_, rfl⟩
  obtain ⟨b6, hb6⟩ : ∃ b6, b6 = w.heap.size + 1 + 1 := ⟨_, rfl⟩
  obtain ⟨b8, hb8⟩ : ∃ b8, b8 = w.heap.size + 1 + 1 + 1 := ⟨_, rfl⟩
  obtain ⟨b9, hb9⟩ : ∃ b9, b9 = w.heap.size + 1 + 1 + 1 + 1 := ⟨_, rfl⟩
  obtain ⟨b11, hb11⟩ : ∃ b11, b11 = w3.heap.size := ⟨_, rfl⟩
  obtain ⟨bm, hbm⟩ : ∃ bm, bm = w3.heap.size + 1 := ⟨_, rfl⟩
  obtain ⟨b12, hb12⟩ : ∃ b12, b12 = w3.heap.size + 1 + 1 := ⟨_, rfl⟩
  obtain ⟨bp, hbp⟩ : ∃ bp, bp = w3.heap.size + 1 + 1 + 1 := ⟨_, rfl⟩
  obtain ⟨W7, hW7⟩ : ∃ W7, W7 = (((w3.alloc (.cells #[.int .i64 (f0 : Int)] 3)).alloc (.cells (madeCells #[.int .u8 0] many) 5)).alloc (.cells #[.slice (some ⟨w3.heap.size + 1, 0, none⟩) 0 many] 40)).alloc (.cells #[.slice ao nl cap] 24) := ⟨_, rfl⟩
  have hf37 : Fr (fun _ => False) w3 W7 := by rw [hW7]; exact ((((Fr.refl _ _).alloc _).alloc _).alloc _).alloc _
  have hz7 : W7.heap.size = b11 + 4 := by rw [hW7, hb11]; simp
  obtain ⟨q1, q2, q3, q4⟩ := heap4_new w3 (.cells #[.int .i64 (f0 : Int)] 3) (.cells (madeCells #[.int .u8 0] many) 5) (.cells #[.slice (some ⟨w3.heap.size + 1, 0, none⟩) 0 many] 40) (.cells #[.slice ao nl cap] 24)
  have hown : OwnB (fun k => k = bm) W7 (.slice (some ⟨bm, 0, none⟩) 0 many) [] := by
    have h1 := own_mk7 (w3.alloc (.cells #[.int .i64 (f0 : Int)] 3)) many hmb
    have e1 : (w3.alloc (.cells #[.int .i64 (f0 : Int)] 3)).heap.size = bm := by rw [hbm]; simp
    rw [e1] at h1
    rw [hW7]
    exact h1.keep (((Fr.refl (fun _ => False) _).alloc _).alloc _) (fun _ _ _ h => h)
  rw [← hW7, ← hb11] at q1
  rw [← hW7, ← hb12, ← hbm] at q3
  rw [← hW7, ← hbp] at q4
  have hf57 := hf53.trans hf37 (fun _ h => h.elim)
  have hf7 := hf05.trans hf57 (fun _ h => h.elim)
  have p4 := hf57.heap k4 id
  have p6 := hf57.heap k6 id
  have p8 := hf57.heap k8 id
  have p9 := hf57.heap k9 id
  have hz3 : w.heap.size + 5 ≤ b11 := by have := hf53.size; omega
  rw [← hb4] at p4
  rw [← hb6] at p6
  rw [← hb8] at p8
  rw [← hb9] at p9
  rw [← hW7, ← hbp, ← hb12, ← hbm, ← hb11, ← hb9, ← hb8, ← hb6, ← hb4]
  have hz0 : w.heap.size = b4 := hb4.symm
  have hord : b4 < bm ∧ b6 < bm ∧ b8 < bm ∧ b9 < bm ∧ b11 < bm ∧ bm < b12 ∧ b12 < W7.heap.size := by omega
  have hord2 : b4 ≠ b12 ∧ b6 ≠ b12 ∧ b8 ≠ b12 ∧ b9 ≠ b12 ∧ b11 ≠ b12 := by omega
  have hord3 : b4 ≤ b6 ∧ b4 ≤ b8 ∧ b4 ≤ b9 ∧ b4 ≤ b11 ∧ b8 ≠ b9 ∧ b4 ≤ W7.heap.size ∧ bp < W7.heap.size ∧ bp ≠ b12 ∧ bp ≠ bm ∧ bp ≠ b8 ∧ bp ≠ b9 := by omega
  have hok : ∀ r ∈ l, rnOk d r = true := (apart7_iff.1 HRN.out.2.2).1
  have hst0 : RdSt (fun k => D k ∧ k < w.heap.size) W7 W7 g s f0 b4 b6 b8 b9 b11 b12 bm many dv (List.map (fun (y : Sc d) => y.1) []) :=
    ⟨p4, p6, ⟨_, p8⟩, ⟨_, p9⟩, q1, ⟨_, q3, by simpa [Dv.see7] using hown.mono (fun k _ hk => .inl hk)⟩, .inl rfl, HDV.out.1.keep hf7 (fun _ _ _ h => h), Fr.refl _ _⟩
  obtain ⟨T, hT⟩ : ∃ T : Nat → Prop, T = fun k => k = b8 ∨ k = b9 ∨ k = b12 ∨ k = bm ∨ W7.heap.size ≤ k := ⟨_, rfl⟩
  have hT0 : ∀ k, W7.heap.size ≤ k → T k := fun k hk => by rw [hT]; exact .inr (.inr (.inr (.inr hk)))
  have hTn : ∀ k, k ≠ b8 → k ≠ b9 → k ≠ b12 → k ≠ bm → k < W7.heap.size → ¬ T k := fun k h1 h2 h3 h4 h5 h6 => by
    rw [hT] at h6
    rcases h6 with h6 | h6 | h6 | h6 | h6
    · exact h1 h6
    · exact h2 h6
    · exact h3 h6
    · exact h4 h6
    · omega
  have hIt : ItS F bp (.slice ao nl cap) l W7 := ⟨cell_of_one q4, HRN.out.1.quiet hf7⟩
  have hKb : ∀ (W : World) (l : Nat) (o o' : Obj), W7.heap.size ≤ l → W.heap[l]? = some o → o.isCells = false → o.isWalk = false → Kp7 T W (W.putObj l o') := fun W l o o' hl ho hc _ =>
    Kp7.of (S := (· = l)) (fr_putObj W l o' rfl) (fun k _ (e : k = l) => by rw [e]; exact hT0 l hl) (fun k hk (e : k = l) => by
      obtain ⟨cs, fr, h1⟩ := hk
      rw [e, ho] at h1
      cases h1
      cases hc)
  have HV := Lib.hid (And.intro hT (And.intro hT0 (And.intro hord (And.intro hord2 (And.intro hord3 (And.intro hf7 (And.intro hz0 hfd)))))))
  have hS1 : ¬ T bp := hTn _ (by omega) (by omega) (by omega) (by omega) (by omega)
  have hS2 : ∀ k, F k → ¬ T k := fun k hk => by have := HRN.out.2.1 k hk; exact hTn k (by omega) (by omega) (by omega) (by omega) (by omega)
  have hbp7 : bp < W7.heap.size := by omega
  clear hW5 hf05 hz5 hf53 k4 k5 k6 k8 k9 hb4 hb6 hb8 hb9 hb11 hbm hb12 hbp hW7 hf37 hz7 q1 q2 q3 q4 hown hf57 p4 p6 p8 p9 hz3 hT hTn hord hord2 hord3 hfd hf7 hz0 s0' s1 s2 e6 hmk
  refine wpIn_rangeFunc_ownH rfl (by decide) (gf := 72) (lb := #[.pointer (some ⟨bp, 0, none⟩)]) rfl trivial (enters_of Try.func72 (by kernel_rfl) rfl)
    (sectors_stops (T := T) (F := F) (d := d) 2 bp (.slice ao nl cap) l hok hd hS1 hS2 W7 (fun k hk => by have := HRN.out.2.1 k hk; have := HV.out.2.2.2.2.2.1.size; omega) hIt)
    (fun h k => h.trans k) hKb (Below.refl _ _) (fun _ => rfl)
    (fun (pre : List (Sc d)) W => RdSt (fun k => D k ∧ k < w.heap.size) W7 W g s f0 b4 b6 b8 b9 b11 b12 bm many dv (pre.map (fun (y : Sc d) => y.1)))
    (fun c (pre : List (Sc d)) W => c = .ret ∧ dv.down = true ∧ pre ≠ [] ∧ RdOut W7 W b8 b9 b12 bm (.slice none 0 0) (10, []))
    (fun pre A B row hs hg hr => hs.grown (B := W7.heap.size) (by have := HV.out.2.2.1; omega) (fun k hk => by have := hk.2; have := HV.out.2.2.2.2.2.1.size; omega) hg hr)
    (fun c pre A B row hs hg hr => ⟨hs.1, hs.2.1, hs.2.2.1, hs.2.2.2.grown (B := W7.heap.size) (by have := HV.out.2.2.1; omega) hg hr⟩)
    hst0
    (fun x a' W => a' = ⟨#[.pointer (some ⟨g, 0, none⟩), .agg #[.int .i64 l0, .int .i64 la, .int .i64 d], .int .i64 many, .slice ao nl cap, .pointer (some ⟨b4, 0, none⟩), .pointer (some ⟨b4 + 1, 0, none⟩), .pointer (some ⟨b6, 0, none⟩), undef, .pointer (some ⟨b8, 0, none⟩), .pointer (some ⟨b9, 0, none⟩), .int .i64 0, .pointer (some ⟨b11, 0, none⟩), .pointer (some ⟨b12, 0, none⟩), .int .i64 (x.1 : Nat), undef, undef,
      .pointer (some ⟨g, 0, none⟩), .agg #[.int .i64 l0, .int .i64 la, .int .i64 d], .int .i64 many, .slice ao nl cap, .int .i64 0, .int .i64 0, .bool false, undef, .agg #[.int .i64 l0, .int .i64 la, .int .i64 d], .int .i64 f0, .int .i64 many, .slice (some ⟨bm, 0, none⟩) 0 many, .slice ao nl cap, .func (.func 72) #[] #[.pointer (some ⟨bp, 0, none⟩)], .int .i64 (x.1 : Nat),
      undef, undef, undef, undef, undef, undef, undef, undef, undef, undef, undef, undef, undef, undef, undef, undef, undef, undef, undef, undef, undef, undef, undef], []⟩)
    (fun x a' s A B row hs hg hr => hs) ?assign ?body ?done ?stop
  case assign =>
    rintro l9 pre x W' K hI hK
    simp only [enc7]
    gi_wp2
    exact hK _ _ (KeepsFrom.refl _ _) (Kp7.refl _ _) hI rfl
  case body =>
    rintro l9 pre ⟨x, hxd⟩ a' Wb hll hr9 hst rfl hlt9
    dsimp only
    obtain ⟨P, hP⟩ : ∃ P, P = pre.map (fun (y : Sc d) => y.1) := ⟨_, rfl⟩
    have hPd : ∀ y ∈ P, f0 + y < s := fun y hy => by
      rw [hP] at hy
      obtain ⟨z, _, rfl⟩ := List.mem_map.1 hy
      have := z.2
      have := HV.out.2.2.2.2.2.2.2
      omega
    rw [← hP] at hst
    have hxs : f0 + x < s := by have := HV.out.2.2.2.2.2.2.2; omega
    have hW7z : W7.heap.size ≤ Wb.heap.size := hst.fr.size
    obtain ⟨x8, h8⟩ := hst.p8
    obtain ⟨x9, h9⟩ := hst.p9
    have e4 := cell_of_one hst.p4
    have e11 := cell_of_one hst.p11
    have hrd := aRead Wb g s dv ((f0 + x : Nat) : Int) HDV.out.2.1 hst.dev
    have hw1 : IntKind.i64.wrap ((f0 : Int) + (x : Int)) = ((f0 + x : Nat) : Int) := by rw [wrap_in5 (by omega) (by have := HDV.out.2.2; omega)]; push_cast; rfl
    cases hdn : dv.down with
    | true =>
      rw [Dv.read_dn hdn] at hrd
      have HRD := Lib.hid ((WideF.round l9).calls (n := 0) hrd)
      have HNE := Lib.hid HV.out.2.2.2.2.1.2.2.2.2.1
      have HI := Lib.hid (And.intro hst (And.intro h8 (And.intro h9 (And.intro hP hdn))))
      clear hP hPd hst hxs hW7z h8 h9 hrd hdn
      gi_wp2_with (refine ⟨trivial, ?_⟩; gi_at_call 56; refine HRD.out.mono ?_; rintro e w8 ⟨v8, rfl, ht8, hf8⟩; (obtain ⟨e8w, q8w⟩ := one_cell (hf8.heap HI.out.2.1 id)); (obtain ⟨e9w, q9w⟩ := one_cell (one_put2 (hf8.heap HI.out.2.1 id) (hf8.heap HI.out.2.2.1 id) HNE.out (.slice none 0 0))); (have H8 := Lib.hid hf8); clear hf8 ht8)
      have ho := HI.out.1.out (W8 := w8) (v := .slice none 0 0) (r := (10, [])) H8.out (OwnB.nil _ _) ⟨HV.out.2.2.1.2.2.1, HV.out.2.2.1.2.2.2.1, HNE.out, by have := HV.out.2.2.1; omega⟩
      have hf9 : Fr (fun k => k = b8 ∨ k = b9) Wb ((w8.setCell ⟨b8, 0, none⟩ (.slice none 0 0)).setCell ⟨b9, 0, none⟩ (.int .i64 10)) :=
        ((H8.out.mono (T := fun k => k = b8 ∨ k = b9) (fun _ _ h => h.elim)).trans (Fr.cell1 w8 b8 0 (.slice none 0 0)) (fun k e => .inl (.inl e))).trans (Fr.cell1 _ b9 0 _) (fun k e => .inl (.inr e))
      have hb8 : DevB Wb b8 := ⟨_, _, _, HI.out.2.1, by decide⟩
      have hb9 : DevB Wb b9 := ⟨_, _, _, HI.out.2.2.1, by decide⟩
      exact ⟨keepsFrom_dev hf9 (fun k hk => hk.elim (fun e => e ▸ hb8) (fun e => e ▸ hb9)), rfl, by simp, ho⟩
    | false =>
      rw [Dv.read_up hdn hxs] at hrd
      have HRD := Lib.hid ((WideF.round l9).calls (n := 0) hrd)
      obtain ⟨vc, h12, hoc⟩ := hst.p12
      obtain ⟨cur, hcur⟩ : ∃ cur, cur = ((dv.see7 f0 P).take many).length := ⟨_, rfl⟩
      obtain ⟨m, hm⟩ : ∃ m, m = min 64 (many - cur) := ⟨_, rfl⟩
      have hcm : cur ≤ many := by rw [hcur, List.length_take]; omega
      have htk := take_see7 hst.dev.right hPd hxs hcur hm
      have hsl := Dv.seen_length hst.dev.right hxs
      obtain ⟨ac, cc, rfl⟩ : ∃ ac cc, vc = .slice ac cur cc := by rw [hcur]; exact hoc.len
      have HMB := Lib.hid (And.intro hcm hmb)
      have HMI := Lib.hid (show (if ((many - cur : Nat) : Int) < 64 then ((many - cur : Nat) : Int) else 64) = (m : Int) by split <;> omega)
      have HI := Lib.hid (And.intro hst (And.intro h12 (And.intro hoc (And.intro hP (And.intro hdn (And.intro htk (And.intro hsl (And.intro hcur hm))))))))
      clear hP hPd hst hxs hW7z h8 h9 hrd hdn h12 hoc hcur hcm htk hsl hm
      gi_wp2_with (refine ⟨trivial, ?_⟩; gi_at_call 56; refine HRD.out.mono ?_; rintro e w8 ⟨v8, rfl, ht8, hf8⟩; (have hb8' := ht8.bytes); (obtain ⟨ax, cs, hv8⟩ : ∃ ax cs, v8 = .slice ax 64 cs := by obtain ⟨y1, y2, hy, _⟩ := id hb8'; rw [HI.out.2.2.2.2.2.2.1] at hy; exact ⟨y1, y2, hy⟩); subst hv8; (have H8 := Lib.hid (And.intro hf8 hb8')); clear hf8 ht8 hb8')
      have LD12 := Lib.hid (fun Wa (hWa : Fr (fun _ => False) w8 Wa) => load_one5 Wa 40 ⟨b12, 0, none⟩ _ (by kernel_rfl) (cell_of_one (hWa.heap (H8.out.1.heap HI.out.2.1 id) id)))
      have LD6 := Lib.hid (fun Wa (hWa : Fr (fun _ => False) w8 Wa) => load_int5 Wa ⟨b6, 0, none⟩ _ (cell_of_one (hWa.heap (H8.out.1.heap HI.out.1.p6 id) id)))
      have HMC := Lib.hid (show m ≤ cs by
        obtain ⟨x1, x2, hx1, hx2, _⟩ := H8.out.2
        rw [HI.out.2.2.2.2.2.2.1] at hx1 hx2
        simp only [Value.slice.injEq] at hx1
        have := HI.out.2.2.2.2.2.2.2.2
        omega)
      refine wpIn_region_inv (.round l9) 10 (by kernel_rfl) (by intro i o ho c; rcases i with _ | _ | _ | _ | _ | _ | _ | _ | _ | _ | _ | _ | i <;> simp at ho; all_goals (subst ho; intro h; cases h)) (by kernel_rfl) (fun W => Fr (fun _ => False) w8 W) (BrR b6 b12 many cur cc m cs ac ax) (fun _ _ _ _ => True) (Fr (fun _ => False)) (BrR.ext b6 b12 many cur cc m cs ac ax) (Fr.refl _ _).drew ?_ ?_
      · intro i hi o ho
        replace hi : i < 10 := hi
        obtain rfl | rfl | rfl | rfl | rfl | rfl | rfl | rfl | rfl | rfl : i = 0 ∨ i = 1 ∨ i = 2 ∨ i = 3 ∨ i = 4 ∨ i = 5 ∨ i = 6 ∨ i = 7 ∨ i = 8 ∨ i = 9 := by omega
        · simp only [List.getElem?_cons_zero, Option.some.injEq] at ho
          subst ho
          intro a W vs hB hS hE hU
          refine wpG_plain rfl ?_
          have v12 : a.eval (.tmp 12) = .pointer (some ⟨b12, 0, none⟩) := (hU 12 (by kernel_rfl)).trans rfl
          clear hE hU
          exact wp_value_inv (w' := W) (.slice ac cur cc) (op_loadAt rfl v12 (LD12.out W hB)) ⟨_, rfl, hB, Fr.refl _ _, rfl, fun _ _ _ _ _ => trivial⟩
        · simp only [List.getElem?_cons_zero, List.getElem?_cons_succ, Option.some.injEq] at ho
          subst ho
          intro a W vs hB hS hE hU
          refine wpG_plain rfl ?_
          have v14 : a.eval (.tmp 14) = .slice ax 64 cs := (hU 14 (by kernel_rfl)).trans rfl
          clear hE hU
          exact wp_value_inv (w' := W) (.slice ax 64 cs) (op_move rfl v14) ⟨_, rfl, hB, Fr.refl _ _, rfl, fun _ _ _ _ _ => trivial⟩
        · simp only [List.getElem?_cons_zero, List.getElem?_cons_succ, Option.some.injEq] at ho
          subst ho
          intro a W vs hB hS hE hU
          refine wpG_plain rfl ?_
          have v14 : a.eval (.tmp 14) = .slice ax 64 cs := (hU 14 (by kernel_rfl)).trans rfl
          clear hE hU
          exact wp_value_inv (w' := W) (.slice ax 64 cs) (op_move rfl v14) ⟨_, rfl, hB, Fr.refl _ _, rfl, fun _ _ _ _ _ => trivial⟩
        · simp only [List.getElem?_cons_zero, List.getElem?_cons_succ, Option.some.injEq] at ho
          subst ho
          intro a W vs hB hS hE hU
          refine wpG_plain rfl ?_
          obtain ⟨r2, e44⟩ := hE 2 44 (by kernel_rfl) (by kernel_rfl)
          have v44 : a.eval (.tmp 44) = .slice ax 64 cs := e44.trans r2
          clear hE hU
          exact wp_value_inv (w' := W) (.int .i64 (64 : Nat)) (op_len5 rfl v44) ⟨_, rfl, hB, Fr.refl _ _, rfl, fun _ _ _ _ _ => trivial⟩
        · simp only [List.getElem?_cons_zero, List.getElem?_cons_succ, Option.some.injEq] at ho
          subst ho
          intro a W vs hB hS hE hU
          refine wpG_plain rfl ?_
          have v6 : a.eval (.tmp 6) = .pointer (some ⟨b6, 0, none⟩) := (hU 6 (by kernel_rfl)).trans rfl
          clear hE hU
          exact wp_value_inv (w' := W) (.int .i64 (many : Nat)) (op_loadAt rfl v6 (LD6.out W hB)) ⟨_, rfl, hB, Fr.refl _ _, rfl, fun _ _ _ _ _ => trivial⟩
        · simp only [List.getElem?_cons_zero, List.getElem?_cons_succ, Option.some.injEq] at ho
          subst ho
          intro a W vs hB hS hE hU
          refine wpG_plain rfl ?_
          have v12 : a.eval (.tmp 12) = .pointer (some ⟨b12, 0, none⟩) := (hU 12 (by kernel_rfl)).trans rfl
          clear hE hU
          exact wp_value_inv (w' := W) (.slice ac cur cc) (op_loadAt rfl v12 (LD12.out W hB)) ⟨_, rfl, hB, Fr.refl _ _, rfl, fun _ _ _ _ _ => trivial⟩
        · simp only [List.getElem?_cons_zero, List.getElem?_cons_succ, Option.some.injEq] at ho
          subst ho
          intro a W vs hB hS hE hU
          refine wpG_plain rfl ?_
          obtain ⟨r5, e47⟩ := hE 5 47 (by kernel_rfl) (by kernel_rfl)
          have v47 : a.eval (.tmp 47) = .slice ac cur cc := e47.trans r5
          clear hE hU
          exact wp_value_inv (w' := W) (.int .i64 (cur : Nat)) (op_len5 rfl v47) ⟨_, rfl, hB, Fr.refl _ _, rfl, fun _ _ _ _ _ => trivial⟩
        · simp only [List.getElem?_cons_zero, List.getElem?_cons_succ, Option.some.injEq] at ho
          subst ho
          intro a W vs hB hS hE hU
          refine wpG_plain rfl ?_
          obtain ⟨r4, e46⟩ := hE 4 46 (by kernel_rfl) (by kernel_rfl)
          have v46 : a.eval (.tmp 46) = .int .i64 (many : Nat) := e46.trans r4
          obtain ⟨r6, e48⟩ := hE 6 48 (by kernel_rfl) (by kernel_rfl)
          have v48 : a.eval (.tmp 48) = .int .i64 (cur : Nat) := e48.trans r6
          clear hE hU
          exact wp_value_inv (w' := W) (.int .i64 ((many - cur : Nat) : Int)) (op_bin rfl v46 v48 (rfl) (sub_in5 (by have := HMB.out; omega) (by have := HMB.out; omega) (by have := HMB.out; omega))) ⟨_, rfl, hB, Fr.refl _ _, rfl, fun _ _ _ _ _ => trivial⟩
        · simp only [List.getElem?_cons_zero, List.getElem?_cons_succ, Option.some.injEq] at ho
          subst ho
          intro a W vs hB hS hE hU
          refine wpG_plain rfl ?_
          obtain ⟨r3, e45⟩ := hE 3 45 (by kernel_rfl) (by kernel_rfl)
          have v45 : a.eval (.tmp 45) = .int .i64 (64 : Nat) := e45.trans r3
          obtain ⟨r7, e49⟩ := hE 7 49 (by kernel_rfl) (by kernel_rfl)
          have v49 : a.eval (.tmp 49) = .int .i64 ((many - cur : Nat) : Int) := e49.trans r7
          clear hE hU
          exact wp_value_inv (w' := W) (.int .i64 (m : Nat)) (op_min7 rfl v45 v49 HMI.out) ⟨_, rfl, hB, Fr.refl _ _, rfl, fun _ _ _ _ _ => trivial⟩
        · simp only [List.getElem?_cons_zero, List.getElem?_cons_succ, Option.some.injEq] at ho
          subst ho
          intro a W vs hB hS hE hU
          refine wpG_plain rfl ?_
          obtain ⟨r1, e43⟩ := hE 1 43 (by kernel_rfl) (by kernel_rfl)
          have v43 : a.eval (.tmp 43) = .slice ax 64 cs := e43.trans r1
          obtain ⟨r8, e50⟩ := hE 8 50 (by kernel_rfl) (by kernel_rfl)
          have v50 : a.eval (.tmp 50) = .int .i64 (m : Nat) := e50.trans r8
          clear hE hU
          exact wp_value_inv (w' := W) (.slice ax m cs) (op_slice_hi rfl v43 v50 (run_hi7 W ax 64 cs m HMC.out)) ⟨_, rfl, hB, Fr.refl _ _, rfl, fun _ _ _ _ _ => trivial⟩
      · intro vs Wa hB0 hR0 hD
        have r42 : vs 0 = .slice ac cur cc := hR0 0 (by decide)
        have r51 : vs 9 = .slice ax m cs := hR0 9 (by decide)
        have HB := Lib.hid hB0
        clear hR0 hD hB0
        simp only [acts, if_true, dstAt, List.getElem?_cons_zero, List.getElem?_cons_succ, Option.bind_some, Act.put, List.setIfInBounds_toArray, List.set_cons_succ, List.set_cons_zero, List.drop_succ_cons]
        simp only [r42, r51]
        clear r42 r51
        have HFA := Lib.hid (H8.out.1.trans HB.out (fun _ h => h.elim))
        have hbt := (H8.out.2.keep HB.out (fun _ _ _ h => h)).take m (by rw [HI.out.2.2.2.2.2.2.1, HI.out.2.2.2.2.2.2.2.2]; omega)
        obtain ⟨v9, W9, hrun, ho9, hg9, -⟩ := run_append_bytes Wa 40 (.slice ac cur cc) (.slice ax m cs) _ _ (HI.out.2.2.1.keep HFA.out (fun _ _ _ h => h)) hbt (by rw [List.length_take, List.length_take, HI.out.2.2.2.2.2.2.1]; omega)
        rw [← HI.out.2.2.2.2.2.1] at ho9
        obtain ⟨a9, n9, c9, rfl⟩ : ∃ a n c, v9 = .slice a n c := by obtain ⟨y1, y2, hy⟩ := ho9.len; exact ⟨y1, _, y2, hy⟩
        have hs := HI.out.1.step (x := x) (ty := fun _ => True) HI.out.2.1 HI.out.2.2.1 HFA.out hg9 ho9 HI.out.2.2.2.2.1 HV.out.2.2.1 HV.out.2.2.2.1 (fun k hk => by have := hk.2; have := HV.out.2.2.1; have := HV.out.2.2.2.2.2.2.1; omega)
        have hn12 : ¬ (Value.slice ac cur cc).ownBlock = some b12 := fun e => by
          have h3 := HI.out.2.2.1.2 b12 e
          have := HV.out.2.2.1
          rcases h3 with h3 | h3 <;> omega
        have hf9 : Fr (fun k => (Value.slice ac cur cc).ownBlock = some k) Wa W9 := (Fr.refl _ Wa).grown hg9 (fun k hk => .inl hk)
        obtain ⟨e12w, q12w⟩ := one_cell (hf9.heap (HFA.out.heap HI.out.2.1 id) hn12)
        have HS := Lib.hid hs
        simp only [List.drop_zero]
        clear LD12 LD6 HB hbt ho9 hg9 hs hn12 hf9
        refine wpListIn_value (.round l9) rfl (by intro c h; cases h) (.slice a9 n9 c9) W9 (op_append7 rfl rfl rfl hrun) ?_
        clear hrun
        simp only [Act.put, List.setIfInBounds_toArray, List.set_cons_succ, List.set_cons_zero]
        gi_wp2
        have hb12 : DevB Wb b12 := ⟨_, _, _, HI.out.2.1, by decide⟩
        refine ⟨keepsFrom_dev HS.out.2 (fun k hk => hk.elim (fun h => (HI.out.2.2.1.devB h).1) (fun e => e ▸ hb12)), Kp7.of HS.out.2 (fun k _ hk => by
          rw [HV.out.1]
          rcases hk with hk | hk
          · rcases HI.out.2.2.1.2 k hk with hk | hk
            · exact .inr (.inr (.inr (.inl hk)))
            · exact .inr (.inr (.inr (.inr hk)))
          · exact .inr (.inr (.inl hk))) (fun k hk h => (h.elim (fun h => (HI.out.2.2.1.devB h).1) (fun e => (show k = b12 from e) ▸ hb12)).noRun hk), ?_⟩
        show RdSt (fun k => D k ∧ k < w.heap.size) W7 _ g s f0 b4 b6 b8 b9 b11 b12 bm many dv (List.map (fun (y : Sc d) => y.1) (pre ++ [⟨x, hxd⟩]))
        rw [List.map_append, ← HI.out.2.2.2.1]
        exact HS.out.1
  case done =>
    rintro Dm ys W hDm rfl hst hK
    rw [xs7_val] at hst
    obtain ⟨x8, h8⟩ := hst.p8
    obtain ⟨x9, h9⟩ := hst.p9
    obtain ⟨v9, h12, hoc⟩ := hst.p12
    have hrr : (dv.rd7 s f0 (secs7 l)).1 = 0 ∧ (dv.rd7 s f0 (secs7 l)).2 = dv.see7 f0 (secs7 l) := by
      rcases hst.up with h | h
      · rw [h]; exact ⟨rfl, rfl⟩
      · rw [Dv.rd7_up h _ (fun y hy => by have := secs7_lt hok hy; have := HV.out.2.2.2.2.2.2.2; omega)]; exact ⟨rfl, rfl⟩
    obtain ⟨a9, n9, c9, rfl⟩ : ∃ a n c, v9 = .slice a n c := by obtain ⟨y1, y2, hy⟩ := hoc.len; exact ⟨y1, _, y2, hy⟩
    have e12 := cell_of_one h12
    obtain ⟨e8w, q8w⟩ := one_cell h8
    have hne := HV.out.2.2.2.2.1.2.2.2.2.1
    obtain ⟨e9w, q9w⟩ := one_cell (one_put2 h8 h9 hne (.slice a9 n9 c9))
    have HI := Lib.hid (And.intro hst (And.intro hoc (And.intro hrr hK)))
    have HNE := Lib.hid hne
    clear hst h8 h9 h12 hoc hrr hK hne
    gi_wp2
    have ho := HI.out.1.out (W8 := W) (v := .slice a9 n9 c9) (r := (0, (dv.see7 f0 (secs7 l)).take many)) (Fr.refl _ _) HI.out.2.1 ⟨HV.out.2.2.1.2.2.1, HV.out.2.2.1.2.2.2.1, HNE.out, by have := HV.out.2.2.1; omega⟩
    have hDk : ((W.setCell ⟨b8, 0, none⟩ (.slice a9 n9 c9)).setCell ⟨b9, 0, none⟩ (.int .i64 0)).heap[Dm]? = some (.deferred (some [])) := (Fr.cell1 _ b9 0 _).heap ((Fr.cell1 W b8 0 _).heap HI.out.2.2.2 (fun e => by have : Dm = b8 := e; have := HV.out.2.2.1; omega)) (fun e => by have : Dm = b9 := e; have := HV.out.2.2.1; omega)
    exact ho.leave ((MarksOk.nil _ _).cons hDm hDk (by simp)) rfl rfl HV.out.2.2.2.2.2.1 (by have := HV.out.2.2.1; have := HV.out.2.2.2.2.1; have := HV.out.2.2.2.2.2.2.1; omega) (fun W' hd hf => ⟨_, by rw [HI.out.2.2.1.1], by rw [HI.out.2.2.1.2]; exact hd, hf⟩)
  case stop =>
    rintro Dm c pre W hDm hpre ⟨rfl, h1, h2, h3⟩ hK
    have hne : secs7 l ≠ [] := fun e => by
      obtain ⟨rest, hrest⟩ := hpre
      have h7 := congrArg (List.map (fun (y : Sc d) => y.1)) hrest
      rw [xs7_val, e, List.map_append] at h7
      cases pre with
      | nil => exact h2 rfl
      | cons a b => simp at h7
    have hrr : dv.rd7 s f0 (secs7 l) = (10, []) := by rw [Dv.rd7_dn h1, if_neg hne]
    have HI := Lib.hid (And.intro h3 (And.intro hrr hK))
    clear h1 h2 h3 hK hne hrr
    gi_wp2
    exact HI.out.1.leave ((MarksOk.nil _ _).cons hDm HI.out.2.2 (by simp)) rfl rfl HV.out.2.2.2.2.2.1 (by have := HV.out.2.2.1; have := HV.out.2.2.2.2.1; have := HV.out.2.2.2.2.2.2.1; omega) (fun W' hd hf => ⟨_, by rw [HI.out.2.1], by rw [HI.out.2.1]; simpa using hd, hf⟩)
end Go.Proofs.Ytcbbcihfooaggaa
namespace Go.Proofs.Ytcbbcihfooaggaa
open Go.RowKit Go.ChangeShapes
set_option linter.unusedVariables false
def wrA (s : Nat) (dv : Dv) (L A D : Int) (b : List UInt8) (l : List Rn) : Int × Dv := if fit7 s L A D (b.length : Int) l = 0 then dv.wr7 s (1 + L + 2 * A).toNat (secs7 l) b else (fit7 s L A D (b.length : Int) l, dv)
set_option maxRecDepth 100000 in
set_option maxHeartbeats 4000000 in
theorem bWrite_no {D F G : Nat → Prop} (w : World) (g s : Nat) (dv : Dv) (L A Dt : Int) (vb v : Value) (b : List UInt8) (l : List Rn) (h : DevAt w D g s dv) (hs1 : 1 ≤ s) (hs2 : s ≤ 8192) (hb : BytesIn G w vb b) (hbl : b.length ≤ 1000000000) (hL : RnsIn F w v l) (hF : ∀ k, F k → k < w.heap.size) (hr : fit7 s L A Dt (b.length : Int) l = 2) :
    CallsIn Fence.wide 3 Try.prog 24 #[.pointer (some ⟨g, 0, none⟩), .agg #[.int .i64 L, .int .i64 A, .int .i64 Dt], vb, v] w (WriteP w D g s (2, dv)) := by
  refine callsIn_of_wp_marks Try.func24 rfl trivial ?_ rfl
  simp only [Try.ntmps24, List.size_toArray, List.length_cons, List.length_nil, Nat.reduceAdd, Nat.reduceSub, Array.replicate_succ, Array.replicate_zero, List.push_toArray, List.append_toArray, List.nil_append, List.cons_append]
  obtain ⟨ab, cb, rfl⟩ : ∃ ao cap, vb = .slice ao b.length cap := by obtain ⟨x, y, hx, _⟩ := hb; exact ⟨x, y, hx⟩
  obtain ⟨ao, cap, rfl, hc1, hc2, -⟩ := hL.open7
  obtain ⟨n, hn⟩ : ∃ n, n = b.length := ⟨_, rfl⟩
  obtain ⟨nl, hnl⟩ : ∃ nl, nl = l.length := ⟨_, rfl⟩
  rw [← hnl] at hL hc1 ⊢
  rw [← hn] at hr hb hbl ⊢
  have hft := fun (W : World) (hW : Fr (fun _ => False) w W) => WideF.out.calls (n := 2) (fits_any (F := fun k => F k ∧ k < w.heap.size) W g s dv L A Dt (n : Int) _ l (h.keep hW (fun _ _ _ h => h)) hs1 hs2 (by omega) (by omega) ((hL.mono (fun k hk h => ⟨h, hk⟩)).quiet hW) (fun k hk => by have := hk.2; have := hW.size; omega))
  rw [hr] at hft
  have HFT := Lib.hid hft
  obtain ⟨k4, k5, k6, k8⟩ := heap4_new w (.cells #[.pointer (some ⟨g, 0, none⟩)] 43) (.cells #[.int .i64 L, .int .i64 A, .int .i64 Dt] 23) (.cells #[.slice ab n cb] 40) (.cells #[.int .i64 0] 27)
  have HK := Lib.hid k8
  have HD := Lib.hid h
  clear k4 k5 k6 k8 hft hr hL hF h hb hbl hs1 hs2 hn hnl
  gi_wp2_with (refine ⟨trivial, ?_⟩; gi_at_call 48; refine (HFT.out _ (((((Fr.refl (fun _ => False) w).alloc _).alloc _).alloc _).alloc _)).mono ?_; rintro e w2 ⟨rfl, hf2⟩; (have h8 := hf2.heap HK.out id); (obtain ⟨e8, q8⟩ := one_cell h8); (have H2 := Lib.hid (And.intro h8 hf2)); clear h8 hf2)
  have hf2 : Fr (fun _ => False) w w2 := (((((Fr.refl (fun _ => False) w).alloc _).alloc _).alloc _).alloc _).trans H2.out.2 (fun _ h => h.elim)
  have hfc := Fr.cell1 w2 (w.heap.size + 1 + 1 + 1) 0 (.int .i64 2)
  have hf9 : Fr (fun _ => False) w (w2.setCell ⟨w.heap.size + 1 + 1 + 1, 0, none⟩ (.int .i64 2)) := hf2.trans hfc (fun k e => .inr (by have : k = w.heap.size + 1 + 1 + 1 := e; omega))
  have ho : WtOut D (w2.setCell ⟨w.heap.size + 1 + 1 + 1, 0, none⟩ (.int .i64 2)) (w2.setCell ⟨w.heap.size + 1 + 1 + 1, 0, none⟩ (.int .i64 2)) w.heap.size g s (w.heap.size + 1 + 1) (w.heap.size + 1 + 1 + 1) (2, dv) :=
    ⟨one_put H2.out.1 _, ((HD.out.mono (E := fun k => D k ∧ k < w.heap.size) (fun k hk h => ⟨h, hk⟩)).keep hf9 (fun _ _ _ h => h)).cut (fun k hk => .inl hk), Fr.refl _ _⟩
  exact ho.leave (MarksOk.nil _ _) rfl hf9 rfl (by omega) (fun W' hd hf => ⟨rfl, hd, hf⟩)
theorem fit7_cases (s : Nat) (L A Dt many : Int) (l : List Rn) : fit7 s L A Dt many l = 2 ∨ (fit7 s L A Dt many l = 0 ∧ ap7 L A Dt l = true ∧ 0 ≤ many ∧ ((secs7 l).length : Int) = need7 many ∧ secsS L A Dt ≤ (s : Int)) := by
  unfold fit7
  by_cases h1 : many < 0 ∨ ap7 L A Dt l = false
  · rw [if_pos h1]; exact .inl rfl
  · rw [if_neg h1]
    by_cases h2 : ((secs7 l).length : Int) ≠ need7 many ∨ (s : Int) < secsS L A Dt
    · rw [if_pos h2]; exact .inl rfl
    · rw [if_neg h2]
      refine .inr ⟨rfl, ?_, by omega, by omega, by omega⟩
      cases h : ap7 L A Dt l
      · exact absurd (.inr h) h1
      · rfl
theorem bWrite_any {D F G : Nat → Prop} (w : World) (g s : Nat) (dv : Dv) (L A Dt : Int) (vb v : Value) (b : List UInt8) (l : List Rn) (h : DevAt w D g s dv) (hs1 : 1 ≤ s) (hs2 : s ≤ 8192) (hup : dv.down = false) (hk6 : dv.deeds ≤ 900000000) (hn6 : dv.waits.length ≤ 900000) (hb : BytesIn G w vb b) (hbl : b.length ≤ 1000000000) (hL : RnsIn F w v l) (hF : ∀ k, F k → k < w.heap.size) (hFD : ∀ k, F k → ¬ D k) (hG : ∀ k, G k → k < w.heap.size ∧ ¬ D k) :
    Calls Try.prog 24 #[.pointer (some ⟨g, 0, none⟩), .agg #[.int .i64 L, .int .i64 A, .int .i64 Dt], vb, v] w (WriteP w D g s (wrA s dv L A Dt b l)) := by
  rcases fit7_cases s L A Dt (b.length : Int) l with hr | ⟨hr, hap, hm, hc, hS⟩
  · have e : wrA s dv L A Dt b l = (2, dv) := by unfold wrA; rw [hr, if_neg (by decide)]
    rw [e]
    exact callsIn_wide.1 (bWrite_no w g s dv L A Dt vb v b l h hs1 hs2 hb hbl hL hF hr)
  · obtain ⟨l0, la, d, s0, rfl, rfl, rfl, hs, hap0⟩ := ap7_open hap
    have hsec : secsS (l0 : Int) la d = s0 := by
      unfold secsS
      rw [if_pos (by unfold ap7 at hap; rw [Bool.and_eq_true] at hap; exact hap.1), hs.sum]
      push_cast
      rfl
    have e : wrA s dv l0 la d b l = dv.wr7 s (1 + l0 + 2 * la) (secs7 l) b := by
      unfold wrA
      rw [if_pos hr]
      congr 1
    rw [e]
    exact callsIn_wide.1 (bWrite_yes w g s dv l0 la d s0 vb v b l h hs1 hs2 hup hk6 hn6 hb hbl hL hF hFD hG hs (by omega) hap0 hr)
end Go.Proofs.Ytcbbcihfooaggaa
