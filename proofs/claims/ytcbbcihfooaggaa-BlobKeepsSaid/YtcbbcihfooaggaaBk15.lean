/- Laid together: BWrite -/
import Derived.Test.YtcbbcihfooaggaaBk14
import Derived.Test.YtcbbcihfooaggaaBk9
import Derived.Test.YtcbbcihfooaggaaBk5

namespace Go.Proofs.Ytcbbcihfooaggaa
open Go.RowKit Go.ChangeShapes
set_option linter.unusedVariables false
attribute [local go_sem] Oper.semAt_some
def BwR (b4 b6 b10 g f0 x nn m c6 : Nat) (a6 : Option Addr) (i : Nat) (v : Value) (W : World) : Prop :=
  match i with
  | 0 => v = .pointer (some ⟨g, 0, none⟩)
  | 1 => v = .int .i64 (f0 : Nat)
  | 2 => v = .int .i64 (x : Nat)
  | 3 => v = .int .i64 ((f0 + x : Nat) : Int)
  | 4 => v = .slice a6 nn c6
  | 5 => v = .int .i64 (m : Nat)
  | 6 => v = .slice a6 m c6
  | _ => True
theorem BwR.ext (b4 b6 b10 g f0 x nn m c6 : Nat) (a6 : Option Addr) : ∀ (j : Nat) (u : Value) (W W' : World), Fr (fun _ => False) W W' → BwR b4 b6 b10 g f0 x nn m c6 a6 j u W → BwR b4 b6 b10 g f0 x nn m c6 a6 j u W'
  | 0, u, W, W', hf, h => h
  | 1, u, W, W', hf, h => h
  | 2, u, W, W', hf, h => h
  | 3, u, W, W', hf, h => h
  | 4, u, W, W', hf, h => h
  | 5, u, W, W', hf, h => h
  | 6, u, W, W', hf, h => h
  | _ + 7, u, W, W', hf, h => trivial
theorem heap4_new (w : World) (A B C E : Obj) : ((((w.alloc A).alloc B).alloc C).alloc E).heap[w.heap.size]? = some A ∧ ((((w.alloc A).alloc B).alloc C).alloc E).heap[w.heap.size + 1]? = some B ∧ ((((w.alloc A).alloc B).alloc C).alloc E).heap[w.heap.size + 1 + 1]? = some C ∧ ((((w.alloc A).alloc B).alloc C).alloc E).heap[w.heap.size + 1 + 1 + 1]? = some E := by
  obtain ⟨h1, h2, h3⟩ := heap3_new w A B C
  refine ⟨((Fr.refl (fun _ => False) _).alloc _).heap h1 id, ((Fr.refl (fun _ => False) _).alloc _).heap h2 id, ((Fr.refl (fun _ => False) _).alloc _).heap h3 id, ?_⟩
  have := heap_alloc_new ((w.alloc A).alloc B |>.alloc C) E
  simpa using this
def WriteP (w : World) (D : Nat → Prop) (g s : Nat) (r : Int × Dv) (e : Ending) (w' : World) : Prop := e = .returned (.int .i64 r.1) ∧ DevAt w' (More D w) g s r.2 ∧ Fr D w w'
set_option maxRecDepth 100000 in
set_option maxHeartbeats 8000000 in
theorem bWrite_yes {D F G : Nat → Prop} (w : World) (g s : Nat) (dv : Dv) (l0 la d s0 : Nat) (vb v : Value) (b : List UInt8) (l : List Rn) (h : DevAt w D g s dv) (hs1 : 1 ≤ s) (hs2 : s ≤ 8192) (hup : dv.down = false) (hk6 : dv.deeds ≤ 900000000) (hn6 : dv.waits.length ≤ 900000) (hb : BytesIn G w vb b) (hbl : b.length ≤ 1000000000) (hL : RnsIn F w v l) (hF : ∀ k, F k → k < w.heap.size) (hFD : ∀ k, F k → ¬ D k) (hG : ∀ k, G k → k < w.heap.size ∧ ¬ D k) (hsh : ShOk l0 la d s0) (hss : s0 ≤ s) (hap : apart7 d l = true) (hr : fit7 s l0 la d (b.length : Int) l = 0) :
    CallsIn Fence.wide 3 Try.prog 24 #[.pointer (some ⟨g, 0, none⟩), .agg #[.int .i64 l0, .int .i64 la, .int .i64 d], vb, v] w (WriteP w D g s (dv.wr7 s (1 + l0 + 2 * la) (secs7 l) b)) := by
  refine callsIn_of_wp_marks Try.func24 rfl trivial ?_ rfl
  simp only [Try.ntmps24, List.size_toArray, List.length_cons, List.length_nil, Nat.reduceAdd, Nat.reduceSub, Array.replicate_succ, Array.replicate_zero, List.push_toArray, List.append_toArray, List.nil_append, List.cons_append]
  obtain ⟨ab, cb, rfl⟩ : ∃ ao cap, vb = .slice ao b.length cap := by obtain ⟨x, y, hx, _⟩ := hb; exact ⟨x, y, hx⟩
  obtain ⟨ao, cap, rfl, hc1, hc2, -⟩ := hL.open7
  obtain ⟨n, hn⟩ : ∃ n, n = b.length := ⟨_, rfl⟩
  obtain ⟨nl, hnl⟩ : ∃ nl, nl = l.length := ⟨_, rfl⟩
  rw [← hnl] at hL hc1 ⊢
  rw [← hn] at hr hb hbl ⊢
  have hft := fun (W : World) (hW : Fr (fun _ => False) w W) => WideF.out.calls (n := 2) (fits_any (F := fun k => F k ∧ k < w.heap.size) W g s dv l0 la d (n : Int) _ l (h.keep hW (fun _ _ _ h => h)) hs1 hs2 (by omega) (by omega) ((hL.mono (fun k hk h => ⟨h, hk⟩)).quiet hW) (fun k hk => by have := hk.2; have := hW.size; omega))
  rw [hr] at hft
  have HFT := Lib.hid hft
  have HFI := Lib.hid (fun W => WideF.out.calls (n := 2) (lFirst_any W l0 la d s0 hsh))
  obtain ⟨f0, hf0⟩ : ∃ f0, f0 = 1 + l0 + 2 * la := ⟨_, rfl⟩
  rw [← hf0] at HFI ⊢
  obtain ⟨k4, k5, k6, k8⟩ := heap4_new w (.cells #[.pointer (some ⟨g, 0, none⟩)] 43) (.cells #[.int .i64 l0, .int .i64 la, .int .i64 d] 23) (.cells #[.slice ab n cb] 40) (.cells #[.int .i64 0] 27)
  have HK := Lib.hid (And.intro k4 (And.intro k5 (And.intro k6 k8)))
  have hd : d ≤ 8192 := by have := hsh.sum; have := hsh.most; omega
  have hfd : f0 + d ≤ s := by have := hsh.sum; omega
  have hsec : (secs7 l).length ≤ 8192 := by have := apart7_le hap; omega
  have HDV := Lib.hid (And.intro h (And.intro hup (And.intro hk6 (And.intro hn6 hs2))))
  have HBY := Lib.hid (And.intro hb (And.intro hn (And.intro hG hbl)))
  have HRN := Lib.hid (And.intro hL (And.intro hF (And.intro hFD (And.intro hap hsec))))
  clear k4 k5 k6 k8 hft hr hL hF h hb hbl hs1 hs2 hup hk6 hn6 hFD hG hsh hf0 hn hnl hss hap hsec
  gi_wp2_with (first
    | (refine ⟨trivial, ?_⟩; gi_at_call 48; refine (HFT.out _ (((((Fr.refl (fun _ => False) w).alloc _).alloc _).alloc _).alloc _)).mono ?_; rintro e w2 ⟨rfl, hf2⟩; (obtain ⟨s0', s1, s2⟩ := row3_cells (hf2.heap HK.out.2.1 id)); (have H2 := Lib.hid hf2); clear hf2)
    | (refine ⟨trivial, ?_⟩; gi_at_call 49; refine (HFI.out _).mono ?_; rintro e w3 ⟨rfl, hf3⟩; (have H3 := Lib.hid (H2.out.trans hf3 (fun _ h => h.elim))); clear hf3)
    | (refine ⟨trivial, ?_⟩; gi_at_call 50; refine (WideF.out.calls (n := 2) (sectors_any _ _ _ _)).mono ?_; rintro e w6 ⟨rfl, rfl⟩))
  obtain ⟨W4, hW4⟩ : ∃ W4, W4 = (((w.alloc (.cells #[.pointer (some ⟨g, 0, none⟩)] 43)).alloc (.cells #[.int .i64 l0, .int .i64 la, .int .i64 d] 23)).alloc (.cells #[.slice ab n cb] 40)).alloc (.cells #[.int .i64 0] 27) := ⟨_, rfl⟩
  have hf04 : Fr (fun _ => False) w W4 := by rw [hW4]; exact ((((Fr.refl (fun _ => False) w).alloc _).alloc _).alloc _).alloc _
  have hz4 : W4.heap.size = w.heap.size + 4 := by rw [hW4]; simp
  have hf43 : Fr (fun _ => False) W4 w3 := by rw [hW4]; exact H3.out
  obtain ⟨k4, k5, k6, k8⟩ := HK.out
  rw [← hW4] at k4 k6 k8
  obtain ⟨b4, hb4⟩ : ∃ b4, b4 = w.heap.size := ⟨_, rfl⟩
  obtain ⟨b6, hb6⟩ : ∃ b6, b6 = w.heap.size + 1 + 1 := ⟨_, rfl⟩
  obtain ⟨b8, hb8⟩ : ∃ b8, b8 = w.heap.size + 1 + 1 + 1 := ⟨_, rfl⟩
  obtain ⟨b10, hb10⟩ : ∃ b10, b10 = w3.heap.size := ⟨_, rfl⟩
  obtain ⟨W7, hW7⟩ : ∃ W7, W7 = (w3.alloc (.cells #[.int .i64 (f0 : Int)] 3)).alloc (.cells #[.slice ao nl cap] 24) := ⟨_, rfl⟩
  have hf37 : Fr (fun _ => False) w3 W7 := by rw [hW7]; exact ((Fr.refl _ _).alloc _).alloc _
  have hz7 : W7.heap.size = b10 + 2 := by rw [hW7, hb10]; simp
  have p10 : W7.heap[b10]? = some (.cells #[.int .i64 (f0 : Nat)] 3 (0, 0)) := by rw [hW7, hb10]; exact ((Fr.refl (fun _ => False) _).alloc _).heap (heap_alloc_new w3 _) id
  have px : W7.heap[b10 + 1]? = some (.cells #[.slice ao nl cap] 24 (0, 0)) := by rw [hW7, hb10]; exact heap_alloc2_new w3 _ _
  have hf47 := hf43.trans hf37 (fun _ h => h.elim)
  have hf7 := hf04.trans hf47 (fun _ h => h.elim)
  have p4 := hf47.heap k4 id
  have p6 := hf47.heap k6 id
  have p8 := hf47.heap k8 id
  have hz3 : w.heap.size + 4 ≤ b10 := by have := hf43.size; omega
  rw [← hb4] at p4
  rw [← hb6] at p6
  rw [← hb8] at p8
  rw [← hb8, ← hb6, ← hb10, ← hW7, ← hb4]
  have hz0 : w.heap.size = b4 := hb4.symm
  have hord : b4 ≤ b4 ∧ b4 ≤ b6 ∧ b4 ≤ b8 ∧ b4 ≤ b10 ∧ b4 < W7.heap.size ∧ b6 < W7.heap.size ∧ b8 < W7.heap.size ∧ b10 < W7.heap.size ∧ b4 ≠ b6 ∧ b8 ≠ b6 ∧ b10 ≠ b6 := by omega
  have hb1 : b10 + 1 < W7.heap.size ∧ b6 < b10 ∧ b8 < b10 ∧ b4 ≤ W7.heap.size := by omega
  have hok : ∀ r ∈ l, rnOk d r = true := (apart7_iff.1 HRN.out.2.2.2.1).1
  have hst0 : WtSt D G W7 W7 w.heap.size g s f0 b4 b6 b8 b10 n dv b (List.map (fun (y : Sc d) => y.1) []) := by
    refine ⟨p4, ⟨ab, cb, by simpa using p6, ?_⟩, ⟨_, p8⟩, p10, rfl, ?_, Fr.refl _ _⟩
    · simpa using HBY.out.1.keep hf7 (fun _ _ _ h => h)
    · exact (((HDV.out.1.mono (E := fun k => D k ∧ k < w.heap.size) (fun k hk h => ⟨h, hk⟩)).keep hf7 (fun _ _ _ h => h)).cut (E := Dn D w.heap.size W7.heap.size) (fun k hk => .inl hk))
  obtain ⟨T, hT⟩ : ∃ T : Nat → Prop, T = fun k => Dn D w.heap.size W7.heap.size k ∨ k = b6 ∨ k = b8 := ⟨_, rfl⟩
  have hT0 : ∀ k, W7.heap.size ≤ k → T k := fun k hk => by rw [hT]; exact .inl (.inr hk)
  have hTn : ∀ k, ¬ (D k ∧ k < w.heap.size) → k ≠ b6 → k ≠ b8 → k < W7.heap.size → ¬ T k := fun k h1 h2 h3 h4 h5 => by
    rw [hT] at h5
    rcases h5 with (h5 | h5) | h5 | h5
    · exact h1 h5
    · omega
    · exact h2 h5
    · exact h3 h5
  have hIt : ItS F (b10 + 1) (.slice ao nl cap) l W7 := ⟨cell_of_one px, HRN.out.1.quiet hf7⟩
  have hKb : ∀ (W : World) (l : Nat) (o o' : Obj), W7.heap.size ≤ l → W.heap[l]? = some o → o.isCells = false → o.isWalk = false → Kp7 T W (W.putObj l o') := fun W l o o' hl ho hc _ =>
    Kp7.of (S := (· = l)) (fr_putObj W l o' rfl) (fun k _ (e : k = l) => by rw [e]; exact hT0 l hl) (fun k hk (e : k = l) => by
      obtain ⟨cs, fr, h1⟩ := hk
      rw [e, ho] at h1
      cases h1
      cases hc)
  have hGz : ∀ k, G k → k < W7.heap.size := fun k hk => by have := (HBY.out.2.2.1 k hk).1; omega
  have HV := Lib.hid (And.intro hT (And.intro hT0 (And.intro hord (And.intro hb1 (And.intro hf7 (And.intro hGz (And.intro hz0 hfd)))))))
  have hS1 : ¬ T (b10 + 1) := hTn _ (by omega) (by omega) (by omega) (by omega)
  have hS2 : ∀ k, F k → ¬ T k := fun k hk => hTn k (fun h => HRN.out.2.2.1 k hk h.1) (by have := HRN.out.2.1 k hk; omega) (by have := HRN.out.2.1 k hk; omega) (by have := HRN.out.2.1 k hk; omega)
  clear hW4 hf04 hz4 hf43 k4 k5 k6 k8 hb4 hb6 hb8 hb10 hW7 hf37 p10 px hf47 p4 p6 p8 hz3 hT hTn hord hb1 hfd hf7 hz0 s0' s1 s2
  refine wpIn_rangeFunc_ownH rfl (by decide) (gf := 72) (lb := #[.pointer (some ⟨b10 + 1, 0, none⟩)]) rfl trivial (enters_of Try.func72 (by kernel_rfl) rfl)
    (sectors_stops (T := T) (F := F) (d := d) 2 (b10 + 1) (.slice ao nl cap) l hok hd hS1 hS2 W7 (fun k hk => by have := HRN.out.2.1 k hk; have := HV.out.2.2.2.2.1.size; omega) hIt)
    (fun h k => h.trans k) hKb (Below.refl _ _) (fun _ => rfl)
    (fun (pre : List (Sc d)) W => WtSt D G W7 W w.heap.size g s f0 b4 b6 b8 b10 n dv b (pre.map (fun (y : Sc d) => y.1)))
    (fun c (pre : List (Sc d)) W => c = .ret ∧ (dv.wp7 s f0 (pre.map (fun (y : Sc d) => y.1)) b).1 ≠ 0 ∧ WtOut D W7 W w.heap.size g s b6 b8 (dv.wp7 s f0 (pre.map (fun (y : Sc d) => y.1)) b))
    (fun pre A B row hs hg hr => hs.grown (B := W7.heap.size) (by have := HV.out.2.2.1; omega) HV.out.2.2.2.2.2.1 hg hr)
    (fun c pre A B row hs hg hr => ⟨hs.1, hs.2.1, hs.2.2.grown (B := W7.heap.size) (by have := HV.out.2.2.1; omega) hg hr⟩)
    hst0
    (fun x a' W => a' = ⟨#[.pointer (some ⟨g, 0, none⟩), .agg #[.int .i64 l0, .int .i64 la, .int .i64 d], .slice ab n cb, .slice ao nl cap, .pointer (some ⟨b4, 0, none⟩), .pointer (some ⟨b4 + 1, 0, none⟩), .pointer (some ⟨b6, 0, none⟩), undef, .pointer (some ⟨b8, 0, none⟩), .int .i64 0, .pointer (some ⟨b10, 0, none⟩), .int .i64 (x.1 : Nat), undef, undef,
      .pointer (some ⟨g, 0, none⟩), .agg #[.int .i64 l0, .int .i64 la, .int .i64 d], .slice ab n cb, .int .i64 n, .slice ao nl cap, .int .i64 0, .int .i64 0, .bool false, undef, .agg #[.int .i64 l0, .int .i64 la, .int .i64 d], .int .i64 f0, .slice ao nl cap, .func (.func 72) #[] #[.pointer (some ⟨b10 + 1, 0, none⟩)], .int .i64 (x.1 : Nat),
      undef, undef, undef, undef, undef, undef, undef, undef, undef, undef, undef, undef, undef, undef, undef, undef, undef, undef, undef], []⟩)
    (fun x a' s A B row hs hg hr => hs) ?assign ?body ?done ?stop
  case assign =>
    rintro l9 pre x W' K hI hK
    simp only [enc7]
    gi_wp2
    exact hK _ _ (KeepsFrom.refl _ _) (Kp7.refl _ _) hI rfl
  case body =>
    rintro l9 pre ⟨x, hxd⟩ a' Wb hll hr9 hst rfl hlt9
    dsimp only
    obtain ⟨P, hP⟩ : ∃ P, P = pre.map (fun (y : Sc d) => y.1) := ⟨_, rfl⟩
    have hPl : P.length = pre.length := by rw [hP, List.length_map]
    have hPd : ∀ y ∈ P, f0 + y < s := fun y hy => by
      rw [hP] at hy
      obtain ⟨z, _, rfl⟩ := List.mem_map.1 hy
      have := z.2
      have := HV.out.2.2.2.2.2.2.2
      omega
    rw [← hP] at hst
    have hsec := HRN.out.2.2.2.2
    have hW7z : W7.heap.size ≤ Wb.heap.size := hst.fr.size
    obtain ⟨hu1, hu2, hu3⟩ := Dv.wp7_up HDV.out.2.1 hPd hst.ok
    obtain ⟨a6, c6, h6, h7⟩ := hst.p6
    obtain ⟨y8, h8⟩ := hst.p8
    obtain ⟨nn, hnn⟩ : ∃ nn, nn = n - 64 * P.length := ⟨_, rfl⟩
    obtain ⟨m, hm⟩ : ∃ m, m = min nn 64 := ⟨_, rfl⟩
    have hlen : (b.drop (64 * P.length)).length = nn := by rw [List.length_drop, ← HBY.out.2.1, hnn]
    rw [← hnn] at h6 h7
    have hmc : m ≤ c6 := by
      obtain ⟨x1, x2, hx1, hx2, _⟩ := id h7
      simp only [Value.slice.injEq] at hx1
      omega
    have hmin : (if (64 : Int) < (nn : Int) then (64 : Int) else (nn : Int)) = (m : Int) := by split <;> omega
    have hmin2 : (if 64 < nn then (64 : Int) else (nn : Int)) = (m : Int) := by split <;> omega
    have e6 := cell_of_one h6
    have htk : (b.drop (64 * P.length)).take m = (b.drop (64 * P.length)).take 64 := by
      rw [hm]
      by_cases h64 : nn ≤ 64
      · rw [List.take_of_length_le (by omega), List.take_of_length_le (by omega)]
      · congr 1; omega
    have hbt := h7.take m (by omega)
    rw [htk] at hbt
    obtain ⟨R, hR⟩ : ∃ R, R = dv.wp7 s f0 (P ++ [x]) b := ⟨_, rfl⟩
    have hRw := Dv.wp7_snoc (x := x) hst.ok
    rw [← hR] at hRw
    have hwr := fun (Wa : World) (hWa : Fr (fun _ => False) Wb Wa) => aWrite (G := G) Wa g s _ ((f0 + x : Nat) : Int) (.slice a6 m c6) _ (by omega) (by have := HV.out.2.2.2.2.2.2.2; have := HDV.out.2.2.2.2; omega) (by have := HDV.out.2.2.1; omega) (by have := HDV.out.2.2.2.1; omega) (hbt.keep hWa (fun _ _ _ h => h)) (fun k _ hk h9 => by
      have h5 := HBY.out.2.2.1 k hk
      rcases h9.1 with h9 | h9
      · exact h5.2 h9.1
      · have := HV.out.2.2.2.2.1.size; omega) (hst.dev.keep hWa (fun _ _ _ h => h))
    rw [← hRw] at hwr
    have HWR := Lib.hid (fun (Wa : World) (hWa : Fr (fun _ => False) Wb Wa) => (WideF.round l9).calls (n := 0) (hwr Wa hWa))
    have LD4 := Lib.hid (fun Wa (hWa : Fr (fun _ => False) Wb Wa) => load_one5 Wa 43 ⟨b4, 0, none⟩ _ (by kernel_rfl) (cell_of_one (hWa.heap hst.p4 id)))
    have LD10 := Lib.hid (fun Wa (hWa : Fr (fun _ => False) Wb Wa) => load_int5 Wa ⟨b10, 0, none⟩ _ (cell_of_one (hWa.heap hst.p10 id)))
    have LD6 := Lib.hid (fun Wa (hWa : Fr (fun _ => False) Wb Wa) => load_one5 Wa 40 ⟨b6, 0, none⟩ _ (by kernel_rfl) (cell_of_one (hWa.heap h6 id)))
    have HB8 := Lib.hid (show f0 + x ≤ 8192 by have := HV.out.2.2.2.2.2.2.2; have := HDV.out.2.2.2.2; omega)
    have HMC := Lib.hid hmc
    have hno : ∀ k, b4 ≤ k → k < W7.heap.size → ¬ (Dn D w.heap.size W7.heap.size k ∧ DevB Wb k) := fun k h1 h2 h3 => by
      have := HV.out.2.2.2.2.2.2.1
      rcases h3.1 with h3 | h3
      · have := h3.2; omega
      · omega
    have HNO := Lib.hid hno
    have hml : m ≤ nn := by omega
    have hsl := fun w => run_cutLow w a6 nn c6 m hml
    have HI := Lib.hid (And.intro hst (And.intro h6 (And.intro h7 (And.intro h8 (And.intro hnn (And.intro hm (And.intro hR (And.intro hP hW7z))))))))
    have hnm : m ≤ 64 ∧ nn ≤ 1000000000 := by have := HBY.out.2.2.2; omega
    clear hP hPl hPd hst hsec hW7z hu1 hu2 hu3 h6 h7 h8 hnn hm hlen hmc htk hbt hR hRw hwr hno
    gi_wp2
    refine wpIn_region_inv (.round l9) 7 (by kernel_rfl) (by intro i o ho c; rcases i with _ | _ | _ | _ | _ | _ | _ | _ | _ | i <;> simp at ho; all_goals (subst ho; intro h; cases h)) (by kernel_rfl) (fun W => Fr (fun _ => False) Wb W) (BwR b4 b6 b10 g f0 x nn m c6 a6) (fun _ _ _ _ => True) (Fr (fun _ => False)) (BwR.ext b4 b6 b10 g f0 x nn m c6 a6) (Fr.refl _ _).drew ?_ ?_
    · intro i hi o ho
      replace hi : i < 7 := hi
      obtain rfl | rfl | rfl | rfl | rfl | rfl | rfl : i = 0 ∨ i = 1 ∨ i = 2 ∨ i = 3 ∨ i = 4 ∨ i = 5 ∨ i = 6 := by omega
      · simp only [List.getElem?_cons_zero, Option.some.injEq] at ho
        subst ho
        intro a W vs hB hS hE hU
        refine wpG_plain rfl ?_
        have v4 : a.eval (.tmp 4) = .pointer (some ⟨b4, 0, none⟩) := (hU 4 (by kernel_rfl)).trans rfl
        clear hE hU
        exact wp_value_inv (w' := W) (.pointer (some ⟨g, 0, none⟩)) (op_loadAt rfl v4 (LD4.out W hB)) ⟨_, rfl, hB, Fr.refl _ _, rfl, fun _ _ _ _ _ => trivial⟩
      · simp only [List.getElem?_cons_zero, List.getElem?_cons_succ, Option.some.injEq] at ho
        subst ho
        intro a W vs hB hS hE hU
        refine wpG_plain rfl ?_
        have v10 : a.eval (.tmp 10) = .pointer (some ⟨b10, 0, none⟩) := (hU 10 (by kernel_rfl)).trans rfl
        clear hE hU
        exact wp_value_inv (w' := W) (.int .i64 (f0 : Nat)) (op_loadAt rfl v10 (LD10.out W hB)) ⟨_, rfl, hB, Fr.refl _ _, rfl, fun _ _ _ _ _ => trivial⟩
      · simp only [List.getElem?_cons_zero, List.getElem?_cons_succ, Option.some.injEq] at ho
        subst ho
        intro a W vs hB hS hE hU
        refine wpG_plain rfl ?_
        have v11 : a.eval (.tmp 11) = .int .i64 (x : Nat) := (hU 11 (by kernel_rfl)).trans rfl
        clear hE hU
        exact wp_value_inv (w' := W) (.int .i64 (x : Nat)) (op_move rfl v11) ⟨_, rfl, hB, Fr.refl _ _, rfl, fun _ _ _ _ _ => trivial⟩
      · simp only [List.getElem?_cons_zero, List.getElem?_cons_succ, Option.some.injEq] at ho
        subst ho
        intro a W vs hB hS hE hU
        refine wpG_plain rfl ?_
        obtain ⟨r1, e32⟩ := hE 1 32 (by kernel_rfl) (by kernel_rfl)
        have v32 : a.eval (.tmp 32) = .int .i64 (f0 : Nat) := e32.trans r1
        obtain ⟨r2, e33⟩ := hE 2 33 (by kernel_rfl) (by kernel_rfl)
        have v33 : a.eval (.tmp 33) = .int .i64 (x : Nat) := e33.trans r2
        clear hE hU
        exact wp_value_inv (w' := W) (.int .i64 ((f0 + x : Nat) : Int)) (op_bin rfl v32 v33 (rfl) (add_in5 (by push_cast; rfl) (by have := HB8.out; omega) (by have := HB8.out; omega))) ⟨_, rfl, hB, Fr.refl _ _, rfl, fun _ _ _ _ _ => trivial⟩
      · simp only [List.getElem?_cons_zero, List.getElem?_cons_succ, Option.some.injEq] at ho
        subst ho
        intro a W vs hB hS hE hU
        refine wpG_plain rfl ?_
        have v6 : a.eval (.tmp 6) = .pointer (some ⟨b6, 0, none⟩) := (hU 6 (by kernel_rfl)).trans rfl
        clear hE hU
        exact wp_value_inv (w' := W) (.slice a6 nn c6) (op_loadAt rfl v6 (LD6.out W hB)) ⟨_, rfl, hB, Fr.refl _ _, rfl, fun _ _ _ _ _ => trivial⟩
      · simp only [List.getElem?_cons_zero, List.getElem?_cons_succ, Option.some.injEq] at ho
        subst ho
        intro a W vs hB hS hE hU
        refine wpG_plain rfl ?_
        have v12 : a.eval (.tmp 12) = .int .i64 (m : Nat) := (hU 12 (by kernel_rfl)).trans rfl
        clear hE hU
        exact wp_value_inv (w' := W) (.int .i64 (m : Nat)) (op_move rfl v12) ⟨_, rfl, hB, Fr.refl _ _, rfl, fun _ _ _ _ _ => trivial⟩
      · simp only [List.getElem?_cons_zero, List.getElem?_cons_succ, Option.some.injEq] at ho
        subst ho
        intro a W vs hB hS hE hU
        refine wpG_plain rfl ?_
        obtain ⟨r4, e35⟩ := hE 4 35 (by kernel_rfl) (by kernel_rfl)
        have v35 : a.eval (.tmp 35) = .slice a6 nn c6 := e35.trans r4
        obtain ⟨r5, e36⟩ := hE 5 36 (by kernel_rfl) (by kernel_rfl)
        have v36 : a.eval (.tmp 36) = .int .i64 (m : Nat) := e36.trans r5
        clear hE hU
        exact wp_value_inv (w' := W) (.slice a6 m c6) (op_slice_hi rfl v35 v36 (run_hi7 W a6 nn c6 m HMC.out)) ⟨_, rfl, hB, Fr.refl _ _, rfl, fun _ _ _ _ _ => trivial⟩
    · intro vs Wa hB0 hR0 hD
      have r31 : vs 0 = .pointer (some ⟨g, 0, none⟩) := hR0 0 (by decide)
      have r34 : vs 3 = .int .i64 ((f0 + x : Nat) : Int) := hR0 3 (by decide)
      have r37 : vs 6 = .slice a6 m c6 := hR0 6 (by decide)
      have HB := Lib.hid hB0
      clear hR0 hD hB0
      simp only [acts, if_true, dstAt, List.getElem?_cons_zero, List.getElem?_cons_succ, Option.bind_some, Act.put, List.setIfInBounds_toArray, List.set_cons_succ, List.set_cons_zero, List.drop_succ_cons]
      simp only [r31, r34, r37]
      clear r31 r34 r37
      have HFA := Lib.hid HB.out
      clear LD4 LD10 LD6 HB
      simp only [List.drop_zero]
      obtain ⟨r1, r2⟩ := R
      have hkeep : ∀ w8, Fr (fun k => Dn D w.heap.size W7.heap.size k ∧ DevB Wb k) Wa w8 → Fr (fun k => Dn D w.heap.size W7.heap.size k ∧ DevB Wb k) Wb w8 := fun w8 hf8 => (HFA.out.mono (T := fun k => Dn D w.heap.size W7.heap.size k ∧ DevB Wb k) (fun _ _ h => h.elim)).trans hf8 (fun k h => .inl h)
      have HKE := Lib.hid hkeep
      have hord := HV.out.2.2.1
      have HOR := Lib.hid (show w.heap.size ≤ b4 ∧ w.heap.size ≤ b6 ∧ w.heap.size ≤ b8 ∧ w.heap.size ≤ b10 ∧ b4 < W7.heap.size ∧ b6 < W7.heap.size ∧ b8 < W7.heap.size ∧ b10 < W7.heap.size ∧ b4 ≠ b6 ∧ b8 ≠ b6 ∧ b10 ≠ b6 by have := HV.out.2.2.2.2.2.2.1; omega)
      clear hkeep hord
      by_cases hr0 : r1 = 0
      · subst hr0
        gi_wp2_with (refine ⟨trivial, ?_⟩; gi_at_call 51; refine (HWR.out Wa HFA.out).mono ?_; rintro e w8 ⟨rfl, hd8, hf8⟩; (have h6w := (HKE.out w8 hf8).heap HI.out.2.1 (HNO.out b6 (by have := HOR.out; have := HV.out.2.2.2.2.2.2.1; omega) HOR.out.2.2.2.2.2.1)); (obtain ⟨e6w, q6w⟩ := one_cell h6w); (have H8 := Lib.hid (And.intro hd8 hf8)); clear hd8 hf8 h6w)
        have hf8 := HKE.out w8 H8.out.2
        have hd8 := H8.out.1.mono (E := More (fun k => Dn D w.heap.size W7.heap.size k ∧ DevB Wb k) Wb) (fun k _ hk => hk.imp id (fun h => Nat.le_trans HFA.out.size h))
        have hf9 : Fr (fun k => (Dn D w.heap.size W7.heap.size k ∧ DevB Wb k) ∨ k = b6) Wb (w8.setCell ⟨b6, 0, none⟩ (.slice (cutLow a6 m c6) (nn - m) (c6 - m))) := (hf8.mono (T := fun k => (Dn D w.heap.size W7.heap.size k ∧ DevB Wb k) ∨ k = b6) (fun _ _ h => .inl h)).trans (Fr.cell1 w8 b6 0 _) (fun k e => .inl (.inr e))
        have hb6 : DevB Wb b6 := ⟨_, _, _, HI.out.2.1, by decide⟩
        have hRR := HI.out.2.2.2.2.2.2.1
        refine ⟨keepsFrom_dev hf9 (fun k hk => hk.elim (fun h => h.2) (fun e => e ▸ hb6)), Kp7.of hf9 (fun k _ hk => by rw [HV.out.1]; exact hk.elim (fun h => .inl h.1) (fun h => .inr (.inl h))) (fun k hk h => (h.elim (fun h => h.2) (fun e => (show k = b6 from e) ▸ hb6)).noRun hk), ?_⟩
        show WtSt D G W7 _ w.heap.size g s f0 b4 b6 b8 b10 n dv b (List.map (fun (y : Sc d) => y.1) (pre ++ [⟨x, hxd⟩]))
        rw [List.map_append, ← HI.out.2.2.2.2.2.2.2.1]
        have h9 := HI.out.1.step (x := x) (m := m) (a := a6) (c := c6) (W8 := w8) (by rw [← HI.out.2.2.2.2.1]; exact HI.out.2.1) (by rw [← HI.out.2.2.2.2.1]; exact HI.out.2.2.1) HBY.out.2.1 (by rw [← HI.out.2.2.2.2.1]; exact HI.out.2.2.2.2.2.1) HOR.out HBY.out.2.2.1 (by have := HOR.out; omega) HI.out.2.2.2.2.2.2.2.2 (by rw [← hRR]; exact hd8) (by rw [← hRR]) hf8
        rw [← HI.out.2.2.2.2.1] at h9
        exact h9
      · have hbn : (r1 != 0) = true := by rw [bne_iff_ne]; exact hr0
        have HR0 := Lib.hid hr0
        clear hr0
        gi_wp2_with (refine ⟨trivial, ?_⟩; gi_at_call 51; refine (HWR.out Wa HFA.out).mono ?_; rintro e w8 ⟨rfl, hd8, hf8⟩; (have h8w := (HKE.out w8 hf8).heap HI.out.2.2.2.1 (HNO.out b8 (by have := HOR.out; have := HV.out.2.2.2.2.2.2.1; omega) HOR.out.2.2.2.2.2.2.1)); (obtain ⟨e8w, q8w⟩ := one_cell h8w); (have H8 := Lib.hid (And.intro hd8 hf8)); clear hd8 hf8 h8w)
        have hf8 := HKE.out w8 H8.out.2
        have hd8 := H8.out.1.mono (E := More (fun k => Dn D w.heap.size W7.heap.size k ∧ DevB Wb k) Wb) (fun k _ hk => hk.imp id (fun h => Nat.le_trans HFA.out.size h))
        have hf9 : Fr (fun k => (Dn D w.heap.size W7.heap.size k ∧ DevB Wb k) ∨ k = b8) Wb (w8.setCell ⟨b8, 0, none⟩ (.int .i64 r1)) := (hf8.mono (T := fun k => (Dn D w.heap.size W7.heap.size k ∧ DevB Wb k) ∨ k = b8) (fun _ _ h => .inl h)).trans (Fr.cell1 w8 b8 0 _) (fun k e => .inl (.inr e))
        have hb8 : DevB Wb b8 := ⟨_, _, _, HI.out.2.2.2.1, by decide⟩
        have hRR := HI.out.2.2.2.2.2.2.1
        have h9 := HI.out.1.out (W8 := w8) (r := (r1, r2)) ⟨HOR.out.2.2.1, HOR.out.2.2.2.2.2.2.1⟩ HI.out.2.2.2.2.2.2.2.2 hd8 hf8
        refine ⟨keepsFrom_dev hf9 (fun k hk => hk.elim (fun h => h.2) (fun e => e ▸ hb8)), rfl, ?_⟩
        rw [List.map_append, ← HI.out.2.2.2.2.2.2.2.1]
        show (dv.wp7 s f0 (P ++ [x]) b).1 ≠ 0 ∧ WtOut D W7 _ w.heap.size g s b6 b8 (dv.wp7 s f0 (P ++ [x]) b)
        rw [← hRR]
        exact ⟨HR0.out, h9⟩
  case done =>
    rintro Dm ys W hDm rfl hst hK
    rw [xs7_val] at hst
    obtain ⟨y8, h8⟩ := hst.p8
    have e4 := cell_of_one hst.p4
    have hW7z : W7.heap.size ≤ W.heap.size := hst.fr.size
    obtain ⟨hu1, hu2, hu3⟩ := Dv.wp7_up HDV.out.2.1 (fun y hy => by have := secs7_lt hok hy; have := HV.out.2.2.2.2.2.2.2; omega) hst.ok
    have hsec := HRN.out.2.2.2.2
    have hfl := aFlush W g s _ (by have := HDV.out.2.2.1; omega) (by have := HDV.out.2.2.2.1; omega) hst.dev
    have hwr := Dv.wr7_of dv s f0 (secs7 l) b
    rw [if_pos hst.ok] at hwr
    rw [← hwr] at hfl
    have HFL := Lib.hid (WideF.out.calls (n := 2) hfl)
    obtain ⟨r, hr⟩ : ∃ r, r = dv.wr7 s f0 (secs7 l) b := ⟨_, rfl⟩
    rw [← hr] at HFL
    have HRW := Lib.hid hr
    have HOR := Lib.hid (show w.heap.size ≤ b4 ∧ w.heap.size ≤ b6 ∧ w.heap.size ≤ b8 ∧ b8 < W7.heap.size by have := HV.out.2.2.1; have := HV.out.2.2.2.2.2.2.1; omega)
    have hn8 : ¬ (Dn D w.heap.size W7.heap.size b8 ∧ DevB W b8) := fun h3 => by
      have := HOR.out
      rcases h3.1 with h3 | h3
      · have := h3.2; omega
      · omega
    have HN8 := Lib.hid (And.intro h8 hn8)
    have HK := Lib.hid hK
    have HI := Lib.hid (And.intro hst hW7z)
    clear hst h8 hu1 hu2 hu3 hfl hwr hn8 hK hW7z hr
    gi_wp2_with (refine ⟨trivial, ?_⟩; gi_at_call 52; refine HFL.out.mono ?_; rintro e w8 ⟨rfl, hd8, hf8⟩; (obtain ⟨e8w, q8w⟩ := one_cell (hf8.heap HN8.out.1 HN8.out.2)); (have H8 := Lib.hid (And.intro hd8 hf8)); clear hd8 hf8)
    have h9 := HI.out.1.out (W8 := w8) (r := r) ⟨HOR.out.2.2.1, HOR.out.2.2.2⟩ HI.out.2 H8.out.1 H8.out.2
    have hDk : (w8.setCell ⟨b8, 0, none⟩ (.int .i64 r.1)).heap[Dm]? = some (.deferred (some [])) := (Fr.cell1 w8 b8 0 _).heap (H8.out.2.heap HK.out (fun h => h.2.noWalk HK.out rfl)) (fun e => by have : Dm = b8 := e; have := HOR.out; omega)
    exact h9.leave ((MarksOk.nil _ _).cons hDm hDk (by simp)) rfl HV.out.2.2.2.2.1 rfl ⟨HOR.out.2.1, HOR.out.2.2.1⟩ (fun W' hd hf => by rw [← HRW.out]; exact ⟨rfl, hd, hf⟩)
  case stop =>
    rintro Dm c pre W hDm hpre ⟨rfl, h1, h2⟩ hK
    have hwr := Dv.wr7_of dv s f0 (secs7 l) b
    obtain ⟨rest, hrest⟩ := hpre
    have h7 := congrArg (List.map (fun (y : Sc d) => y.1)) hrest
    rw [xs7_val, List.map_append] at h7
    rw [← h7, Dv.wp7_stop h1, if_neg h1, h7] at hwr
    rw [← hwr] at h2
    obtain ⟨r, hr⟩ : ∃ r, r = dv.wr7 s f0 (secs7 l) b := ⟨_, rfl⟩
    rw [← hr] at h2 ⊢
    have HI := Lib.hid (And.intro h2 hK)
    have HOR := Lib.hid (show w.heap.size ≤ b6 ∧ w.heap.size ≤ b8 by have := HV.out.2.2.1; have := HV.out.2.2.2.2.2.2.1; omega)
    clear h1 h2 hK hwr h7 hrest hr
    gi_wp2
    exact HI.out.1.leave ((MarksOk.nil _ _).cons hDm HI.out.2 (by simp)) rfl HV.out.2.2.2.2.1 rfl HOR.out (fun W' hd hf => ⟨rfl, hd, hf⟩)
end Go.Proofs.Ytcbbcihfooaggaa
