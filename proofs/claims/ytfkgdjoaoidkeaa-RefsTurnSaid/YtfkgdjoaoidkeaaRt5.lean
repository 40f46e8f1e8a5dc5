/- Laid together: RfTn -/
import Derived.Test.YtfkgdjoaoidkeaaRt4

namespace Go.Proofs.Ytfkgdjoaoidkeaa
open Go.RowKit Go.ChangeShapes
set_option linter.unusedVariables false
theorem ent_spence_base_Letters (args : Array Value) (w : World) : (callFunc 9 args).run Try.prog w = .ok (.enter 9 args) w := by kernel_rfl
def TuR0 (ao : Option Addr) (n cap b4 bq oq m cu ix p jx q : Nat) (C : Array Value) (S S2 : ByteArray) (i : Nat) (v : Value) (W : World) : Prop :=
  match i with
  | 0 => v = .slice (some ⟨bq, oq, none⟩) m cu
  | 1 => v = .int .i64 (ix : Nat)
  | 2 => v = .pointer (some ⟨bq, oq + ix, none⟩)
  | 3 => v = .int .i64 (p : Nat)
  | 4 => v = .bool false
  | 5 => v = .bool false
  | 6 => v = .slice (some ⟨bq, oq, none⟩) m cu
  | 7 => v = .int .i64 (ix : Nat)
  | 8 => v = .pointer (some ⟨bq, oq + ix, none⟩)
  | 9 => v = .int .i64 (p : Nat)
  | 10 => v = .int .i64 ((p + 32 : Nat) : Int)
  | 11 => v = .slice ao n cap
  | 12 => v = .int .i64 (n : Nat)
  | 13 => v = .bool false
  | 14 => v = .bool false
  | 15 => v = .bool false
  | 16 => v = .slice ao n cap
  | 17 => v = .slice (some ⟨bq, oq, none⟩) m cu
  | 18 => v = .int .i64 (ix : Nat)
  | 19 => v = .pointer (some ⟨bq, oq + ix, none⟩)
  | 20 => v = .int .i64 (p : Nat)
  | 21 => v = .slice (some ⟨bq, oq, none⟩) m cu
  | 22 => v = .int .i64 (ix : Nat)
  | 23 => v = .pointer (some ⟨bq, oq + ix, none⟩)
  | 24 => v = .int .i64 (p : Nat)
  | 25 => v = .int .i64 ((p + 32 : Nat) : Int)
  | 26 => v = .slice (cutLow ao p cap) 32 (cap - p)
  | 27 => v = .string S2
  | 28 => v = .agg C
  | 29 => v = .string S
  | 30 => v = .bool false
  | 31 => v = .bool false
  | 32 => v = .bool false
  | 33 => v = .int .i64 (ix : Nat)
  | 34 => v = .bool false
  | 35 => v = .bool false
  | 36 => v = undef
  | 37 => v = undef
  | 38 => v = undef
  | 39 => v = undef
  | 40 => v = undef
  | 41 => v = undef
  | 42 => v = undef
  | 43 => v = undef
  | 44 => v = undef
  | 45 => v = undef
  | 46 => v = undef
  | 47 => v = .bool false
  | _ => True
theorem TuR0.ext (ao : Option Addr) (n cap b4 bq oq m cu ix p jx q : Nat) (C : Array Value) (S S2 : ByteArray) : ∀ (j : Nat) (u : Value) (W W' : World), Fr (fun _ => False) W W' → TuR0 ao n cap b4 bq oq m cu ix p jx q C S S2 j u W → TuR0 ao n cap b4 bq oq m cu ix p jx q C S S2 j u W'
  | 0, u, W, W', hf, h => h
  | 1, u, W, W', hf, h => h
  | 2, u, W, W', hf, h => h
  | 3, u, W, W', hf, h => h
  | 4, u, W, W', hf, h => h
  | 5, u, W, W', hf, h => h
  | 6, u, W, W', hf, h => h
  | 7, u, W, W', hf, h => h
  | 8, u, W, W', hf, h => h
  | 9, u, W, W', hf, h => h
  | 10, u, W, W', hf, h => h
  | 11, u, W, W', hf, h => h
  | 12, u, W, W', hf, h => h
  | 13, u, W, W', hf, h => h
  | 14, u, W, W', hf, h => h
  | 15, u, W, W', hf, h => h
  | 16, u, W, W', hf, h => h
  | 17, u, W, W', hf, h => h
  | 18, u, W, W', hf, h => h
  | 19, u, W, W', hf, h => h
  | 20, u, W, W', hf, h => h
  | 21, u, W, W', hf, h => h
  | 22, u, W, W', hf, h => h
  | 23, u, W, W', hf, h => h
  | 24, u, W, W', hf, h => h
  | 25, u, W, W', hf, h => h
  | 26, u, W, W', hf, h => h
  | 27, u, W, W', hf, h => h
  | 28, u, W, W', hf, h => h
  | 29, u, W, W', hf, h => h
  | 30, u, W, W', hf, h => h
  | 31, u, W, W', hf, h => h
  | 32, u, W, W', hf, h => h
  | 33, u, W, W', hf, h => h
  | 34, u, W, W', hf, h => h
  | 35, u, W, W', hf, h => h
  | 36, u, W, W', hf, h => h
  | 37, u, W, W', hf, h => h
  | 38, u, W, W', hf, h => h
  | 39, u, W, W', hf, h => h
  | 40, u, W, W', hf, h => h
  | 41, u, W, W', hf, h => h
  | 42, u, W, W', hf, h => h
  | 43, u, W, W', hf, h => h
  | 44, u, W, W', hf, h => h
  | 45, u, W, W', hf, h => h
  | 46, u, W, W', hf, h => h
  | 47, u, W, W', hf, h => h
  | _ + 48, u, W, W', hf, h => trivial
def TuR1 (ao : Option Addr) (n cap b4 bq oq m cu ix p jx q : Nat) (C : Array Value) (S S2 : ByteArray) (i : Nat) (v : Value) (W : World) : Prop :=
  match i with
  | 0 => v = .slice (some ⟨bq, oq, none⟩) m cu
  | 1 => v = .int .i64 (ix : Nat)
  | 2 => v = .pointer (some ⟨bq, oq + ix, none⟩)
  | 3 => v = .int .i64 (p : Nat)
  | 4 => v = .bool false
  | 5 => v = .bool false
  | 6 => v = .slice (some ⟨bq, oq, none⟩) m cu
  | 7 => v = .int .i64 (ix : Nat)
  | 8 => v = .pointer (some ⟨bq, oq + ix, none⟩)
  | 9 => v = .int .i64 (p : Nat)
  | 10 => v = .int .i64 ((p + 32 : Nat) : Int)
  | 11 => v = .slice ao n cap
  | 12 => v = .int .i64 (n : Nat)
  | 13 => v = .bool false
  | 14 => v = .bool false
  | 15 => v = .bool false
  | 16 => v = .slice ao n cap
  | 17 => v = .slice (some ⟨bq, oq, none⟩) m cu
  | 18 => v = .int .i64 (ix : Nat)
  | 19 => v = .pointer (some ⟨bq, oq + ix, none⟩)
  | 20 => v = .int .i64 (p : Nat)
  | 21 => v = .slice (some ⟨bq, oq, none⟩) m cu
  | 22 => v = .int .i64 (ix : Nat)
  | 23 => v = .pointer (some ⟨bq, oq + ix, none⟩)
  | 24 => v = .int .i64 (p : Nat)
  | 25 => v = .int .i64 ((p + 32 : Nat) : Int)
  | 26 => v = .slice (cutLow ao p cap) 32 (cap - p)
  | 27 => v = .string S2
  | 28 => v = .agg C
  | 29 => v = .string S
  | 30 => v = .bool false
  | 31 => v = .bool false
  | 32 => v = .bool false
  | 33 => v = .int .i64 (ix : Nat)
  | 34 => v = .bool true
  | 35 => v = .bool true
  | 36 => v = .slice (some ⟨bq, oq, none⟩) m cu
  | 37 => v = .int .i64 (ix : Nat)
  | 38 => v = .pointer (some ⟨bq, oq + ix, none⟩)
  | 39 => v = .int .i64 (p : Nat)
  | 40 => v = .slice (some ⟨bq, oq, none⟩) m cu
  | 41 => v = .int .i64 (ix : Nat)
  | 42 => v = .int .i64 (jx : Nat)
  | 43 => v = .pointer (some ⟨bq, oq + jx, none⟩)
  | 44 => v = .int .i64 (q : Nat)
  | 45 => v = .int .i64 ((q + 32 : Nat) : Int)
  | 46 => v = .bool false
  | 47 => v = .bool false
  | _ => True
theorem TuR1.ext (ao : Option Addr) (n cap b4 bq oq m cu ix p jx q : Nat) (C : Array Value) (S S2 : ByteArray) : ∀ (j : Nat) (u : Value) (W W' : World), Fr (fun _ => False) W W' → TuR1 ao n cap b4 bq oq m cu ix p jx q C S S2 j u W → TuR1 ao n cap b4 bq oq m cu ix p jx q C S S2 j u W'
  | 0, u, W, W', hf, h => h
  | 1, u, W, W', hf, h => h
  | 2, u, W, W', hf, h => h
  | 3, u, W, W', hf, h => h
  | 4, u, W, W', hf, h => h
  | 5, u, W, W', hf, h => h
  | 6, u, W, W', hf, h => h
  | 7, u, W, W', hf, h => h
  | 8, u, W, W', hf, h => h
  | 9, u, W, W', hf, h => h
  | 10, u, W, W', hf, h => h
  | 11, u, W, W', hf, h => h
  | 12, u, W, W', hf, h => h
  | 13, u, W, W', hf, h => h
  | 14, u, W, W', hf, h => h
  | 15, u, W, W', hf, h => h
  | 16, u, W, W', hf, h => h
  | 17, u, W, W', hf, h => h
  | 18, u, W, W', hf, h => h
  | 19, u, W, W', hf, h => h
  | 20, u, W, W', hf, h => h
  | 21, u, W, W', hf, h => h
  | 22, u, W, W', hf, h => h
  | 23, u, W, W', hf, h => h
  | 24, u, W, W', hf, h => h
  | 25, u, W, W', hf, h => h
  | 26, u, W, W', hf, h => h
  | 27, u, W, W', hf, h => h
  | 28, u, W, W', hf, h => h
  | 29, u, W, W', hf, h => h
  | 30, u, W, W', hf, h => h
  | 31, u, W, W', hf, h => h
  | 32, u, W, W', hf, h => h
  | 33, u, W, W', hf, h => h
  | 34, u, W, W', hf, h => h
  | 35, u, W, W', hf, h => h
  | 36, u, W, W', hf, h => h
  | 37, u, W, W', hf, h => h
  | 38, u, W, W', hf, h => h
  | 39, u, W, W', hf, h => h
  | 40, u, W, W', hf, h => h
  | 41, u, W, W', hf, h => h
  | 42, u, W, W', hf, h => h
  | 43, u, W, W', hf, h => h
  | 44, u, W, W', hf, h => h
  | 45, u, W, W', hf, h => h
  | 46, u, W, W', hf, h => h
  | 47, u, W, W', hf, h => h
  | _ + 48, u, W, W', hf, h => trivial
def TvR (ao au : Option Addr) (n cap b4 m cu kx : Nat) (C : Array Value) (S S2 : ByteArray) (i : Nat) (v : Value) (W : World) : Prop :=
  match i with
  | 0 => v = .slice au m cu
  | 1 => v = .int .i64 (m : Nat)
  | 2 => v = .bool true
  | 3 => v = .bool true
  | 4 => v = .slice ao n cap
  | 5 => v = .int .i64 (kx : Nat)
  | 6 => v = .int .i64 (kx : Nat)
  | 7 => v = .int .i64 ((kx + 32 : Nat) : Int)
  | 8 => v = .slice (cutLow ao kx cap) 32 (cap - kx)
  | 9 => v = .string S2
  | 10 => v = .agg C
  | 11 => v = .string S
  | 12 => v = .bool false
  | _ => True
theorem TvR.ext (ao au : Option Addr) (n cap b4 m cu kx : Nat) (C : Array Value) (S S2 : ByteArray) : ∀ (j : Nat) (u : Value) (W W' : World), Fr (fun _ => False) W W' → TvR ao au n cap b4 m cu kx C S S2 j u W → TvR ao au n cap b4 m cu kx C S S2 j u W'
  | 0, u, W, W', hf, h => h
  | 1, u, W, W', hf, h => h
  | 2, u, W, W', hf, h => h
  | 3, u, W, W', hf, h => h
  | 4, u, W, W', hf, h => h
  | 5, u, W, W', hf, h => h
  | 6, u, W, W', hf, h => h
  | 7, u, W, W', hf, h => h
  | 8, u, W, W', hf, h => h
  | 9, u, W, W', hf, h => h
  | 10, u, W, W', hf, h => h
  | 11, u, W, W', hf, h => h
  | 12, u, W, W', hf, h => h
  | _ + 13, u, W, W', hf, h => trivial
set_option maxRecDepth 100000 in
set_option maxHeartbeats 8000000 in
theorem refsTurn_any {F : Nat → Prop} (w : World) (v : Value) (b H K : List UInt8) (hH : H.length = 20) (hK : K.length = 20) (hv : BytesIn F w v b) (hF : ∀ k, F k → k < w.heap.size) (hm : MlAt w) :
    Calls Try.prog 3 #[v, .agg (H.map bv).toArray, .agg (K.map bv).toArray] w fun e w' => e = .returned (.bool true) ∧ Fr (fun _ => False) w w' := by
  obtain ⟨ao, cap, hvs, hvc, hvm, -⟩ := id hv
  subst hvs
  obtain ⟨n, hn⟩ : ∃ n, n = b.length := ⟨_, rfl⟩
  rw [← hn] at hv hvc ⊢
  have HN9 := Lib.hid hvc
  obtain ⟨C, hC⟩ : ∃ C, C = (H.map bv).toArray := ⟨_, rfl⟩
  have hcs : C.size = 20 := by rw [hC]; simp [hH]
  obtain ⟨D, hD⟩ : ∃ D, D = (K.map bv).toArray := ⟨_, rfl⟩
  have hds : D.size = 20 := by rw [hD]; simp [hK]
  have HCD := Lib.hid (And.intro hC (And.intro hD (And.intro hH hK)))
  rw [← hC, ← hD]
  obtain ⟨b4, hb4⟩ : ∃ b4, b4 = w.heap.size := ⟨_, rfl⟩
  obtain ⟨b5, hb5⟩ : ∃ b5, b5 = w.heap.size + 1 := ⟨_, rfl⟩
  obtain ⟨Wb, hW1⟩ : ∃ W1, W1 = (w.alloc (.cells C 24)).alloc (.cells D 24) := ⟨_, rfl⟩
  have hf1 : Fr (fun _ => False) w Wb := by rw [hW1]; exact ((Fr.refl _ _).alloc _).alloc _
  have hr4 : Wb.heap[b4]? = some (.cells C 24 (0, 0)) := by rw [hW1, hb4]; exact heap_alloc2_old w _ _
  have hr5 : Wb.heap[b5]? = some (.cells D 24 (0, 0)) := by rw [hW1, hb5]; exact heap_alloc2_new w _ _
  have HKP := Lib.hid (fun W (hW : Fr (fun _ => False) Wb W) => show W.heap[b4]? = some (.cells C 24 (0, 0)) ∧ W.heap[b5]? = some (.cells D 24 (0, 0)) ∧ BytesIn F W (.slice ao n cap) b ∧ MlAt W ∧ (∀ k, F k → k < W.heap.size) from
    ⟨hW.heap hr4 (fun h => h), hW.heap hr5 (fun h => h), (hv.keep hf1 (fun _ _ _ h => h)).keep hW (fun _ _ _ h => h), (hm.keep hf1 (fun h => h)).keep hW (fun h => h), fun k hk => by have := hF k hk; have := hf1.size; have := hW.size; omega⟩)
  have hz1 : Wb.heap.size = w.heap.size + 2 := by rw [hW1]; simp
  have HAW := Lib.hid (awake10_any Wb (hm.keep hf1 (fun h => h)))
  have HW := Lib.hid (And.intro hW1 (And.intro hf1 (And.intro hb4 (And.intro hb5 hz1))))
  have HN := Lib.hid hn
  have hii : (Try.prog.info? 24).map (·.size) = some C.size := by rw [hcs]; kernel_rfl
  have hij : (Try.prog.info? 24).map (·.size) = some D.size := by rw [hds]; kernel_rfl
  clear hC hD hH hK hW1 hf1 hr4 hr5 hv hm hF hcs hds hz1 hn hb4 hb5
  by_cases hbig : 3000 < n
  · have hbi : (3000 : Int) < (n : Int) := by omega
    go_enter Try.func3, Try.ntmps3
    go_wp2_with (first
      | (go_at_call 5; rw [← HW.out.1]; refine HAW.out.mono ?_; rintro e w1 ⟨rfl, hf1⟩; skip))
    go_ret
    exact ⟨rfl, HW.out.2.1.trans hf1 (fun _ h => h.elim)⟩
  · have hbi : ¬ (3000 : Int) < (n : Int) := by omega
    have hroom := fun p hp => placesR_room (b := b) (letL_length H) (p := p) hp
    have hocc := fun p hp => placesR_occ (b := b) (letL_length H) (p := p) hp
    have hpn := placesR_length b (letL H)
    have hap := placesR_apart (b := b) (letL_length H)
    have hself := withR_self (b := b) (letL_length H) (placesR b (letL H)) hocc
    obtain ⟨L, hL⟩ : ∃ L, L = placesR b (letL H) := ⟨_, rfl⟩
    rw [← hL] at hroom hocc hpn hap hself
    have hxl := withR_length (letL_length K) L b hroom
    have hyl := withR_length (s := List.replicate 32 0) (by simp) L b hroom
    rw [← HN.out] at hxl hyl
    obtain ⟨m, hmm⟩ : ∃ m, m = L.length := ⟨_, rfl⟩
    have hm6 : m ≤ 3000 := by rw [← hmm, ← HN.out] at hpn; omega
    have HL := Lib.hid (And.intro hL (And.intro hroom (And.intro hocc (And.intro hap (And.intro hself (And.intro hxl (And.intro hyl hmm)))))))
    have hnn : n ≤ 3000 := by omega
    clear hL hroom hocc hpn hap hself hxl hyl hmm hbig
    have hbd : decide ((3000 : Int) < (n : Int)) = false := by rw [decide_eq_false_iff_not]; omega
    have hnd : ((n : Int) != (n : Int)) = false := by simp
    go_enter Try.func3, Try.ntmps3
    go_wp2_with (first
      | (go_at_call 5; rw [← HW.out.1]; refine HAW.out.mono ?_; rintro e w1 ⟨rfl, hf1⟩; rw [← HW.out.2.2.1]; rw [show b4 + 1 = b5 by rw [HW.out.2.2.1, HW.out.2.2.2.1]]; (obtain ⟨hr4, hr5, -⟩ := HKP.out w1 hf1); (have H1 := Lib.hid hf1); clear hf1)
      | (with_reducible refine wpList_load_row rfl 24 (.tmp 4) rfl b4 rfl 24 C (0, 0) _ hr4 Try.underlying24 rfl hii ?_)
      | (with_reducible refine wpList_load_row_g (by simp [Region.wanted, yielded, Act.put]) 24 (.tmp 4) rfl b4 rfl 24 C (0, 0) _ hr4 Try.underlying24 rfl hii ?_)
      | (with_reducible refine wpList_load_row rfl 24 (.tmp 5) rfl b5 rfl 24 D (0, 0) _ hr5 Try.underlying24 rfl hij ?_)
      | (go_at_call 6; (have hc := fPlaces_any (F := F) w1 (.slice ao n cap) b H HCD.out.2.2.1 (HKP.out w1 H1.out).2.2.1 (HKP.out w1 H1.out).2.2.2.2 (by have := HN.out; omega) (HKP.out w1 H1.out).2.2.2.1); rw [← HCD.out.1] at hc; (with_reducible refine hc.mono ?_); clear hc; rintro e w2 ⟨u, rfl, ho2, hf2⟩; rw [← HL.out.1] at ho2; (obtain ⟨au, cu, hu, -⟩ := id ho2.ints); rw [← HL.out.2.2.2.2.2.2.2] at hu; subst hu; (have H2 := Lib.hid (And.intro (H1.out.trans hf2 (fun _ h => h.elim)) ho2.ints)); clear ho2 hf2 hr4 hr5; (obtain ⟨hr4, hr5, -⟩ := HKP.out w2 H2.out.1))
      | (go_at_call 7; (have hc := fRewrite_any (F := F) w2 (.slice ao n cap) b H K HCD.out.2.2.1 HCD.out.2.2.2 (HKP.out w2 H2.out.1).2.2.1 (HKP.out w2 H2.out.1).2.2.2.2 (by have := HN.out; omega) (HKP.out w2 H2.out.1).2.2.2.1); rw [← HCD.out.1, ← HCD.out.2.1, ← HL.out.1] at hc; (with_reducible refine hc.mono ?_); clear hc; rintro e w3 ⟨x, rfl, ho3, hf3⟩; (obtain ⟨ax, cx, hx, hxc, -⟩ := id ho3.bytes); rw [HL.out.2.2.2.2.2.1] at hx; subst hx; (have H3 := Lib.hid (And.intro (H2.out.1.trans hf3 (fun _ h => h.elim)) (And.intro (H2.out.2.quiet hf3) ho3.bytes))); clear ho3 hf3 hr4 hr5 hxc; (obtain ⟨hr4, hr5, -⟩ := HKP.out w3 H3.out.1))
      | (go_at_call 8; (have hc := fBlank_any (F := F) w3 (.slice ao n cap) b H HCD.out.2.2.1 (HKP.out w3 H3.out.1).2.2.1 (HKP.out w3 H3.out.1).2.2.2.2 (by have := HN.out; omega) (HKP.out w3 H3.out.1).2.2.2.1); rw [← HCD.out.1, ← HL.out.1] at hc; (with_reducible refine hc.mono ?_); clear hc; rintro e w4 ⟨y, u4, rfl, ho4, hi4, hf4⟩; (obtain ⟨ay, cy, hy, hyc, -⟩ := id ho4.bytes); rw [HL.out.2.2.2.2.2.2.1] at hy; subst hy; (obtain ⟨a4, c4, hu4, -⟩ := id hi4); rw [← HL.out.2.2.2.2.2.2.2] at hu4; subst hu4; (have H4 := Lib.hid (And.intro (H3.out.1.trans hf4 (fun _ h => h.elim)) (And.intro (H3.out.2.1.quiet hf4) (And.intro (H3.out.2.2.keep hf4 (fun _ _ _ h => h)) (And.intro ho4.bytes hi4))))); clear ho4 hi4 hf4 hr4 hr5 hyc; (obtain ⟨hr4, hr5, -⟩ := HKP.out w4 H4.out.1))
      | (go_at_call 9; (have hc := bLetters_any K HCD.out.2.2.2 w4); rw [← HCD.out.2.1] at hc; (with_reducible refine hc.mono ?_); clear hc; rintro e w5 ⟨rfl, hf5⟩; (have H5 := Lib.hid (And.intro (H4.out.1.trans hf5 (fun _ h => h.elim)) (And.intro (H4.out.2.1.quiet hf5) (And.intro (H4.out.2.2.1.keep hf5 (fun _ _ _ h => h)) (And.intro (H4.out.2.2.2.1.keep hf5 (fun _ _ _ h => h)) (H4.out.2.2.2.2.quiet hf5)))))); clear hf5 hr4 hr5; (obtain ⟨hr4, hr5, -⟩ := HKP.out w5 H5.out.1))
      | (go_at_call 10; with_reducible refine (sameInts_any w5 _ _ L H5.out.2.1 H5.out.2.2.2.2 (by have := HL.out.2.2.2.2.2.2.2; omega)).mono ?_; rintro e w6 ⟨rfl, q6, rfl⟩; (have hf6 : Fr (fun _ => False) w5 (w5.drewN q6) := (Fr.refl _ _).drewN q6); generalize w5.drewN q6 = w6 at *; (have H6 := Lib.hid (And.intro (H5.out.1.trans hf6 (fun _ h => h.elim)) (And.intro (H5.out.2.1.quiet hf6) (And.intro (H5.out.2.2.1.keep hf6 (fun _ _ _ h => h)) (H5.out.2.2.2.1.keep hf6 (fun _ _ _ h => h)))))); clear hf6 hr4 hr5; (obtain ⟨hr4, hr5, -⟩ := HKP.out w6 H6.out.1))
      | (go_at_call 7; (have hc := fRewrite_any (F := F) w6 (.slice ao n cap) b H H HCD.out.2.2.1 HCD.out.2.2.1 (HKP.out w6 H6.out.1).2.2.1 (HKP.out w6 H6.out.1).2.2.2.2 (by have := HN.out; omega) (HKP.out w6 H6.out.1).2.2.2.1); rw [← HCD.out.1, ← HL.out.1, HL.out.2.2.2.2.1] at hc; (with_reducible refine hc.mono ?_); clear hc; rintro e w7 ⟨z, rfl, ho7, hf7⟩; (have H7 := Lib.hid (And.intro (H6.out.1.trans hf7 (fun _ h => h.elim)) (And.intro (H6.out.2.1.quiet hf7) (And.intro (H6.out.2.2.1.keep hf7 (fun _ _ _ h => h)) (And.intro (H6.out.2.2.2.keep hf7 (fun _ _ _ h => h)) ho7.bytes))))); clear ho7 hf7 hr4 hr5; (obtain ⟨hr4, hr5, -⟩ := HKP.out w7 H7.out.1))
      | (go_at_call 11; with_reducible refine (same_any _ _ b b w7 H7.out.2.2.2.2 (HKP.out w7 H7.out.1).2.2.1).mono ?_; rw [sameB_eq rfl]; rintro e w8 ⟨rfl, q8, rfl⟩; (have hf8 : Fr (fun _ => False) w7 (w7.drewN q8) := (Fr.refl _ _).drewN q8); generalize w7.drewN q8 = w8 at *; (have H8 := Lib.hid (And.intro (H7.out.1.trans hf8 (fun _ h => h.elim)) (And.intro (H7.out.2.1.quiet hf8) (And.intro (H7.out.2.2.1.keep hf8 (fun _ _ _ h => h)) (H7.out.2.2.2.1.keep hf8 (fun _ _ _ h => h)))))); clear hf8 hr4 hr5; (obtain ⟨hr4, hr5, -⟩ := HKP.out w8 H8.out.1); (have hmk := run_make_ints w8 n (by omega))))
    obtain ⟨g9, hg9⟩ : ∃ g9, g9 = w8.heap.size := ⟨_, rfl⟩
    obtain ⟨W9, hW9⟩ : ∃ W9, W9 = w8.alloc (.cells (List.map (fun x => Value.int IntKind.i64 0) (List.range n)).toArray 3) := ⟨_, rfl⟩
    have hT9 : IntT W9 g9 n (fun _ => 0) := by rw [hW9, hg9]; exact heap_alloc_new w8 _
    have hf9 : Fr (fun _ => False) w8 W9 := by rw [hW9]; exact (Fr.refl _ _).alloc _
    rw [← hW9, ← hg9]
    have hFg : ∀ k, F k → k < g9 := fun k hk => by rw [hg9]; exact (HKP.out w8 H8.out.1).2.2.2.2 k hk
    have hbw : b4 < g9 ∧ b5 < g9 := ⟨by rw [hg9]; exact lt_of_block hr4, by rw [hg9]; exact lt_of_block hr5⟩
    have HB9 := Lib.hid (And.intro (((HKP.out w8 H8.out.1).2.2.1.mono (G := fun k => k < g9) (fun k _ hk => hFg k hk)).quiet9 hf9) (And.intro ((H8.out.2.1.mono (G := fun k => k < g9) (fun k hk _ => by rw [hg9]; exact hk)).quiet hf9) (And.intro ((H8.out.2.2.1.mono (G := fun k => k < g9) (fun k hk _ => by rw [hg9]; exact hk)).quiet9 hf9) ((H8.out.2.2.2.mono (G := fun k => k < g9) (fun k hk _ => by rw [hg9]; exact hk)).quiet9 hf9))))
    have H9 := Lib.hid (And.intro (H8.out.1.trans hf9 (fun _ h => h.elim)) (And.intro (hf9.heap hr4 (fun h => h)) (And.intro hbw hT9)))
    clear hg9 hW9 hT9 hf9 hFg hbw hr4 hr5 hmk H1 H2 H3 H4 H5 H6 H7 H8
    have H0 := Lib.hid (show Fr (· = g9) W9 W9 ∧ IntT W9 g9 n (covR (L.take 0)) from ⟨Fr.refl _ _, H9.out.2.2.2⟩)
    go_loopw [13, 14] (fun iv kv wr => ∃ i : Nat, i ≤ m ∧ iv = .int .i64 i ∧ Hid (Fr (· = g9) W9 wr ∧ IntT wr g9 n (covR (L.take i)))) (fun iv _ _ => m - (intOf iv).toNat)
    case atStart => exact ⟨0, by omega, rfl, H0⟩
    case round =>
      clear H0
      obtain ⟨ix, hi, rfl, hR⟩ := hrel
      by_cases hlt : ix < m
      · have hiL : ix < L.length := by have := HL.out.2.2.2.2.2.2.2; omega
        obtain ⟨p, hp⟩ : ∃ p, p = L[ix] := ⟨_, rfl⟩
        have hpr : p + 32 ≤ b.length := HL.out.2.1 p (by rw [hp]; exact List.getElem_mem _)
        have hpo : occR b (letL H) p = true := HL.out.2.2.1 p (by rw [hp]; exact List.getElem_mem _)
        obtain ⟨au', cu', hu', hcu1, hcu2, bq, oq, hau, hcq⟩ := HB9.out.2.1
        simp only [Value.slice.injEq] at hu'
        obtain ⟨rfl, hmL, rfl⟩ := hu'
        obtain ⟨rfl, hbq⟩ := hau (by omega)
        have hlt64 : (ix : Int) < (m : Int) := by omega
        obtain ⟨S, hS⟩ : ∃ S : ByteArray, S = ⟨(letL H).toArray⟩ := ⟨_, rfl⟩
        obtain ⟨S2, hS2⟩ : ∃ S2 : ByteArray, S2 = ⟨((b.drop p).take 32).toArray⟩ := ⟨_, rfl⟩
        have HSS := Lib.hid (show S2 = S by rw [hS2, hS]; rw [show (b.drop p).take 32 = letL H from of_decide_eq_true hpo])
        have hbq9 : bq < g9 := hbq
        have kp : wr.cell? ⟨bq, oq + ix, none⟩ = some (.int .i64 (p : Nat)) := hR.out.1.cell (by rw [hp]; exact hcq ix hiL) (fun e => by have e' : bq = g9 := e; omega)
        have k4 := hR.out.1.heap H9.out.2.1 (fun e => by have e' : b4 = g9 := e; have := H9.out.2.2.1.1; omega)
        have kb := HB9.out.1.keep hR.out.1 (fun k _ hk e => by have e' : k = g9 := e; omega)
        have hcs : C.size = 20 := by rw [HCD.out.1]; simp [HCD.out.2.2.1]
        have LDP := Lib.hid (fun W (hW : Fr (fun _ => False) wr W) => load_int5 W ⟨bq, oq + ix, none⟩ (.int .i64 (p : Nat)) (hW.cell kp (fun h => h)))
        have LD4 := Lib.hid (fun W (hW : Fr (fun _ => False) wr W) => load_hash10 W b4 C (hW.heap k4 (fun h => h)) hcs)
        have HLE := Lib.hid (fun (W : World) => show Calls Try.prog 9 #[.agg C] W fun e w' => e = .returned (.string S) ∧ Fr (fun _ => False) W w' by rw [HCD.out.1, hS]; exact bLetters_any H HCD.out.2.2.1 W)
        have HCV := Lib.hid (fun W (hW : Fr (fun _ => False) wr W) => show (convert 22 9 (.slice (cutLow ao p cap) 32 (cap - p))).run Try.prog W = .ok (.string S2) W by rw [hS2]; exact run_str32 W ao n cap p b (kb.quiet9 hW) hpr)
        have HPB := Lib.hid (show p + 32 ≤ n ∧ n ≤ 3000 from ⟨by rw [HN.out]; exact hpr, hnn⟩)
        have HCP := Lib.hid (show p + 32 ≤ cap by have := HPB.out.1; have := HN9.out; omega)
        have HIXX := Lib.hid hlt
        have HM6 := Lib.hid hm6
        obtain ⟨jx, hj⟩ : ∃ jx, jx = ix - 1 := ⟨_, rfl⟩
        have HJXX := Lib.hid (show jx < m by omega)
        have HP := Lib.hid hp
        have HPT := Lib.hid kp
        have HBQ := Lib.hid hbq9
        have HCQ := Lib.hid hcq
        clear hp hpr hpo hcq hcu1 hcu2 hbq hbq9 kp k4 kb hcs hS hS2 hau hmL
        by_cases hi0 : ix = 0
        · obtain ⟨q, hq⟩ : ∃ q : Nat, q = 0 := ⟨_, rfl⟩
          have HI0 := Lib.hid hi0
          clear hi0 hj hq
          go_wp2_with fail
          refine wp_region_inv 48 (by kernel_rfl) (by kernel_rfl) (fun W => Fr (fun _ => False) wr W) (TuR0 ao n cap b4 bq oq m cu ix p jx q C S S2) (fun _ _ _ _ => True) (Fr (fun _ => False)) (TuR0.ext ao n cap b4 bq oq m cu ix p jx q C S S2) (Fr.refl _ _).drew ?_ ?_
          · intro i hi o ho
            replace hi : i < 48 := hi
            obtain rfl | rfl | rfl | rfl | rfl | rfl | rfl | rfl | rfl | rfl | rfl | rfl | rfl | rfl | rfl | rfl | rfl | rfl | rfl | rfl | rfl | rfl | rfl | rfl | rfl | rfl | rfl | rfl | rfl | rfl | rfl | rfl | rfl | rfl | rfl | rfl | rfl | rfl | rfl | rfl | rfl | rfl | rfl | rfl | rfl | rfl | rfl | rfl : i = 0 ∨ i = 1 ∨ i = 2 ∨ i = 3 ∨ i = 4 ∨ i = 5 ∨ i = 6 ∨ i = 7 ∨ i = 8 ∨ i = 9 ∨ i = 10 ∨ i = 11 ∨ i = 12 ∨ i = 13 ∨ i = 14 ∨ i = 15 ∨ i = 16 ∨ i = 17 ∨ i = 18 ∨ i = 19 ∨ i = 20 ∨ i = 21 ∨ i = 22 ∨ i = 23 ∨ i = 24 ∨ i = 25 ∨ i = 26 ∨ i = 27 ∨ i = 28 ∨ i = 29 ∨ i = 30 ∨ i = 31 ∨ i = 32 ∨ i = 33 ∨ i = 34 ∨ i = 35 ∨ i = 36 ∨ i = 37 ∨ i = 38 ∨ i = 39 ∨ i = 40 ∨ i = 41 ∨ i = 42 ∨ i = 43 ∨ i = 44 ∨ i = 45 ∨ i = 46 ∨ i = 47 := by omega
            · simp only [List.getElem?_cons_zero, Option.some.injEq] at ho
              subst ho
              intro a W vs hB hS hE hU
              refine wpG_plain rfl ?_
              have v7 : a.eval (.tmp 7) = .slice (some ⟨bq, oq, none⟩) m cu := (hU 7 (by kernel_rfl)).trans rfl
              clear hE hU
              exact wp_value_inv (w' := W) (.slice (some ⟨bq, oq, none⟩) m cu) (op_move rfl v7) ⟨_, rfl, hB, Fr.refl _ _, rfl, fun _ _ _ _ _ => trivial⟩
            · simp only [List.getElem?_cons_zero, List.getElem?_cons_succ, Option.some.injEq] at ho
              subst ho
              intro a W vs hB hS hE hU
              refine wpG_plain rfl ?_
              have v13 : a.eval (.tmp 13) = .int .i64 (ix : Nat) := (hU 13 (by kernel_rfl)).trans rfl
              clear hE hU
              exact wp_value_inv (w' := W) (.int .i64 (ix : Nat)) (op_move rfl v13) ⟨_, rfl, hB, Fr.refl _ _, rfl, fun _ _ _ _ _ => trivial⟩
            · simp only [List.getElem?_cons_zero, List.getElem?_cons_succ, Option.some.injEq] at ho
              subst ho
              intro a W vs hB hS hE hU
              refine wpG_plain rfl ?_
              obtain ⟨r0, e75⟩ := hE 0 75 (by kernel_rfl) (by kernel_rfl)
              have v75 : a.eval (.tmp 75) = .slice (some ⟨bq, oq, none⟩) m cu := e75.trans r0
              obtain ⟨r1, e76⟩ := hE 1 76 (by kernel_rfl) (by kernel_rfl)
              have v76 : a.eval (.tmp 76) = .int .i64 (ix : Nat) := e76.trans r1
              clear hE hU
              exact wp_value_inv (w' := W) (.pointer (some ⟨bq, oq + ix, none⟩)) (op_indexAddr rfl v75 v76 (run_index_ints W bq oq m cu ix HIXX.out)) ⟨_, rfl, hB, Fr.refl _ _, rfl, fun _ _ _ _ _ => trivial⟩
            · simp only [List.getElem?_cons_zero, List.getElem?_cons_succ, Option.some.injEq] at ho
              subst ho
              intro a W vs hB hS hE hU
              refine wpG_plain rfl ?_
              obtain ⟨r2, e77⟩ := hE 2 77 (by kernel_rfl) (by kernel_rfl)
              have v77 : a.eval (.tmp 77) = .pointer (some ⟨bq, oq + ix, none⟩) := e77.trans r2
              clear hE hU
              exact wp_value_inv (w' := W) (.int .i64 (p : Nat)) (op_loadAt rfl v77 (LDP.out W hB)) ⟨_, rfl, hB, Fr.refl _ _, rfl, fun _ _ _ _ _ => trivial⟩
            · simp only [List.getElem?_cons_zero, List.getElem?_cons_succ, Option.some.injEq] at ho
              subst ho
              intro a W vs hB hS hE hU
              refine wpG_plain rfl ?_
              obtain ⟨r3, e78⟩ := hE 3 78 (by kernel_rfl) (by kernel_rfl)
              have v78 : a.eval (.tmp 78) = .int .i64 (p : Nat) := e78.trans r3
              clear hE hU
              exact wp_value_inv (w' := W) (.bool false) (op_bin rfl v78 rfl (rfl) (lss_no (by omega))) ⟨_, rfl, hB, Fr.refl _ _, rfl, fun _ _ _ _ _ => trivial⟩
            · simp only [List.getElem?_cons_zero, List.getElem?_cons_succ, Option.some.injEq] at ho
              subst ho
              intro a W vs hB hS hE hU
              refine wpG_plain rfl ?_
              obtain ⟨r4, e79⟩ := hE 4 79 (by kernel_rfl) (by kernel_rfl)
              have v79 : a.eval (.tmp 79) = .bool false := e79.trans r4
              clear hE hU
              exact wp_value_inv (w' := W) (.bool false) (op_move rfl v79) ⟨_, rfl, hB, Fr.refl _ _, rfl, fun _ _ _ _ _ => trivial⟩
            · simp only [List.getElem?_cons_zero, List.getElem?_cons_succ, Option.some.injEq] at ho
              subst ho
              intro a W vs hB hS hE hU
              obtain ⟨r5, e80⟩ := hE 5 80 (by kernel_rfl) (by kernel_rfl)
              have v80 : a.eval (.tmp 80) = .bool false := e80.trans r5
              refine wpG_yes 5 false 80 rfl (by kernel_rfl) (by rw [hS]; first | simp | exact Nat.le_of_ble_eq_true rfl) v80 ?_
              have v7 : a.eval (.tmp 7) = .slice (some ⟨bq, oq, none⟩) m cu := (hU 7 (by kernel_rfl)).trans rfl
              clear hE hU
              exact wp_value_inv (w' := W) (.slice (some ⟨bq, oq, none⟩) m cu) (op_move rfl v7) ⟨_, rfl, hB, Fr.refl _ _, rfl, fun _ _ _ _ _ => trivial⟩
            · simp only [List.getElem?_cons_zero, List.getElem?_cons_succ, Option.some.injEq] at ho
              subst ho
              intro a W vs hB hS hE hU
              obtain ⟨r5, e80⟩ := hE 5 80 (by kernel_rfl) (by kernel_rfl)
              have v80 : a.eval (.tmp 80) = .bool false := e80.trans r5
              refine wpG_yes 5 false 80 rfl (by kernel_rfl) (by rw [hS]; first | simp | exact Nat.le_of_ble_eq_true rfl) v80 ?_
              have v13 : a.eval (.tmp 13) = .int .i64 (ix : Nat) := (hU 13 (by kernel_rfl)).trans rfl
              clear hE hU
              exact wp_value_inv (w' := W) (.int .i64 (ix : Nat)) (op_move rfl v13) ⟨_, rfl, hB, Fr.refl _ _, rfl, fun _ _ _ _ _ => trivial⟩
            · simp only [List.getElem?_cons_zero, List.getElem?_cons_succ, Option.some.injEq] at ho
              subst ho
              intro a W vs hB hS hE hU
              obtain ⟨r5, e80⟩ := hE 5 80 (by kernel_rfl) (by kernel_rfl)
              have v80 : a.eval (.tmp 80) = .bool false := e80.trans r5
              refine wpG_yes 5 false 80 rfl (by kernel_rfl) (by rw [hS]; first | simp | exact Nat.le_of_ble_eq_true rfl) v80 ?_
              obtain ⟨r6, e81⟩ := hE 6 81 (by kernel_rfl) (by kernel_rfl)
              have v81 : a.eval (.tmp 81) = .slice (some ⟨bq, oq, none⟩) m cu := e81.trans r6
              obtain ⟨r7, e82⟩ := hE 7 82 (by kernel_rfl) (by kernel_rfl)
              have v82 : a.eval (.tmp 82) = .int .i64 (ix : Nat) := e82.trans r7
              clear hE hU
              exact wp_value_inv (w' := W) (.pointer (some ⟨bq, oq + ix, none⟩)) (op_indexAddr rfl v81 v82 (run_index_ints W bq oq m cu ix HIXX.out)) ⟨_, rfl, hB, Fr.refl _ _, rfl, fun _ _ _ _ _ => trivial⟩
            · simp only [List.getElem?_cons_zero, List.getElem?_cons_succ, Option.some.injEq] at ho
              subst ho
              intro a W vs hB hS hE hU
              obtain ⟨r5, e80⟩ := hE 5 80 (by kernel_rfl) (by kernel_rfl)
              have v80 : a.eval (.tmp 80) = .bool false := e80.trans r5
              refine wpG_yes 5 false 80 rfl (by kernel_rfl) (by rw [hS]; first | simp | exact Nat.le_of_ble_eq_true rfl) v80 ?_
              obtain ⟨r8, e83⟩ := hE 8 83 (by kernel_rfl) (by kernel_rfl)
              have v83 : a.eval (.tmp 83) = .pointer (some ⟨bq, oq + ix, none⟩) := e83.trans r8
              clear hE hU
              exact wp_value_inv (w' := W) (.int .i64 (p : Nat)) (op_loadAt rfl v83 (LDP.out W hB)) ⟨_, rfl, hB, Fr.refl _ _, rfl, fun _ _ _ _ _ => trivial⟩
            · simp only [List.getElem?_cons_zero, List.getElem?_cons_succ, Option.some.injEq] at ho
              subst ho
              intro a W vs hB hS hE hU
              obtain ⟨r5, e80⟩ := hE 5 80 (by kernel_rfl) (by kernel_rfl)
              have v80 : a.eval (.tmp 80) = .bool false := e80.trans r5
              refine wpG_yes 5 false 80 rfl (by kernel_rfl) (by rw [hS]; first | simp | exact Nat.le_of_ble_eq_true rfl) v80 ?_
              obtain ⟨r9, e84⟩ := hE 9 84 (by kernel_rfl) (by kernel_rfl)
              have v84 : a.eval (.tmp 84) = .int .i64 (p : Nat) := e84.trans r9
              clear hE hU
              exact wp_value_inv (w' := W) (.int .i64 ((p + 32 : Nat) : Int)) (op_bin rfl v84 rfl (rfl) (add_in5 (by push_cast; rfl) (by omega) (by have := HPB.out; omega))) ⟨_, rfl, hB, Fr.refl _ _, rfl, fun _ _ _ _ _ => trivial⟩
            · simp only [List.getElem?_cons_zero, List.getElem?_cons_succ, Option.some.injEq] at ho
              subst ho
              intro a W vs hB hS hE hU
              obtain ⟨r5, e80⟩ := hE 5 80 (by kernel_rfl) (by kernel_rfl)
              have v80 : a.eval (.tmp 80) = .bool false := e80.trans r5
              refine wpG_yes 5 false 80 rfl (by kernel_rfl) (by rw [hS]; first | simp | exact Nat.le_of_ble_eq_true rfl) v80 ?_
              have v0 : a.eval (.tmp 0) = .slice ao n cap := (hU 0 (by kernel_rfl)).trans rfl
              clear hE hU
              exact wp_value_inv (w' := W) (.slice ao n cap) (op_move rfl v0) ⟨_, rfl, hB, Fr.refl _ _, rfl, fun _ _ _ _ _ => trivial⟩
            · simp only [List.getElem?_cons_zero, List.getElem?_cons_succ, Option.some.injEq] at ho
              subst ho
              intro a W vs hB hS hE hU
              obtain ⟨r5, e80⟩ := hE 5 80 (by kernel_rfl) (by kernel_rfl)
              have v80 : a.eval (.tmp 80) = .bool false := e80.trans r5
              refine wpG_yes 5 false 80 rfl (by kernel_rfl) (by rw [hS]; first | simp | exact Nat.le_of_ble_eq_true rfl) v80 ?_
              obtain ⟨r11, e86⟩ := hE 11 86 (by kernel_rfl) (by kernel_rfl)
              have v86 : a.eval (.tmp 86) = .slice ao n cap := e86.trans r11
              clear hE hU
              exact wp_value_inv (w' := W) (.int .i64 (n : Nat)) (op_len5 rfl v86) ⟨_, rfl, hB, Fr.refl _ _, rfl, fun _ _ _ _ _ => trivial⟩
            · simp only [List.getElem?_cons_zero, List.getElem?_cons_succ, Option.some.injEq] at ho
              subst ho
              intro a W vs hB hS hE hU
              obtain ⟨r5, e80⟩ := hE 5 80 (by kernel_rfl) (by kernel_rfl)
              have v80 : a.eval (.tmp 80) = .bool false := e80.trans r5
              refine wpG_yes 5 false 80 rfl (by kernel_rfl) (by rw [hS]; first | simp | exact Nat.le_of_ble_eq_true rfl) v80 ?_
              obtain ⟨r10, e85⟩ := hE 10 85 (by kernel_rfl) (by kernel_rfl)
              have v85 : a.eval (.tmp 85) = .int .i64 ((p + 32 : Nat) : Int) := e85.trans r10
              obtain ⟨r12, e87⟩ := hE 12 87 (by kernel_rfl) (by kernel_rfl)
              have v87 : a.eval (.tmp 87) = .int .i64 (n : Nat) := e87.trans r12
              clear hE hU
              exact wp_value_inv (w' := W) (.bool false) (op_bin rfl v85 v87 (rfl) (gtr_no (by have := HPB.out; omega))) ⟨_, rfl, hB, Fr.refl _ _, rfl, fun _ _ _ _ _ => trivial⟩
            · simp only [List.getElem?_cons_zero, List.getElem?_cons_succ, Option.some.injEq] at ho
              subst ho
              intro a W vs hB hS hE hU
              refine wpG_plain rfl ?_
              obtain ⟨r5, e80⟩ := hE 5 80 (by kernel_rfl) (by kernel_rfl)
              have v80 : a.eval (.tmp 80) = .bool false := e80.trans r5
              obtain ⟨r13, e88⟩ := hE 13 88 (by kernel_rfl) (by kernel_rfl)
              have v88 : a.eval (.tmp 88) = .bool false := e88.trans r13
              clear hE hU
              exact wp_value_inv (w' := W) (.bool false) (op_pick rfl v80 (by simp only [Bool.false_eq_true, if_false]; exact v88)) ⟨_, rfl, hB, Fr.refl _ _, rfl, fun _ _ _ _ _ => trivial⟩
            · simp only [List.getElem?_cons_zero, List.getElem?_cons_succ, Option.some.injEq] at ho
              subst ho
              intro a W vs hB hS hE hU
              refine wpG_plain rfl ?_
              obtain ⟨r14, e89⟩ := hE 14 89 (by kernel_rfl) (by kernel_rfl)
              have v89 : a.eval (.tmp 89) = .bool false := e89.trans r14
              clear hE hU
              exact wp_value_inv (w' := W) (.bool false) (op_move rfl v89) ⟨_, rfl, hB, Fr.refl _ _, rfl, fun _ _ _ _ _ => trivial⟩
            · simp only [List.getElem?_cons_zero, List.getElem?_cons_succ, Option.some.injEq] at ho
              subst ho
              intro a W vs hB hS hE hU
              obtain ⟨r15, e90⟩ := hE 15 90 (by kernel_rfl) (by kernel_rfl)
              have v90 : a.eval (.tmp 90) = .bool false := e90.trans r15
              refine wpG_yes 15 false 90 rfl (by kernel_rfl) (by rw [hS]; first | simp | exact Nat.le_of_ble_eq_true rfl) v90 ?_
              have v0 : a.eval (.tmp 0) = .slice ao n cap := (hU 0 (by kernel_rfl)).trans rfl
              clear hE hU
              exact wp_value_inv (w' := W) (.slice ao n cap) (op_move rfl v0) ⟨_, rfl, hB, Fr.refl _ _, rfl, fun _ _ _ _ _ => trivial⟩
            · simp only [List.getElem?_cons_zero, List.getElem?_cons_succ, Option.some.injEq] at ho
              subst ho
              intro a W vs hB hS hE hU
              obtain ⟨r15, e90⟩ := hE 15 90 (by kernel_rfl) (by kernel_rfl)
              have v90 : a.eval (.tmp 90) = .bool false := e90.trans r15
              refine wpG_yes 15 false 90 rfl (by kernel_rfl) (by rw [hS]; first | simp | exact Nat.le_of_ble_eq_true rfl) v90 ?_
              have v7 : a.eval (.tmp 7) = .slice (some ⟨bq, oq, none⟩) m cu := (hU 7 (by kernel_rfl)).trans rfl
              clear hE hU
              exact wp_value_inv (w' := W) (.slice (some ⟨bq, oq, none⟩) m cu) (op_move rfl v7) ⟨_, rfl, hB, Fr.refl _ _, rfl, fun _ _ _ _ _ => trivial⟩
            · simp only [List.getElem?_cons_zero, List.getElem?_cons_succ, Option.some.injEq] at ho
              subst ho
              intro a W vs hB hS hE hU
              obtain ⟨r15, e90⟩ := hE 15 90 (by kernel_rfl) (by kernel_rfl)
              have v90 : a.eval (.tmp 90) = .bool false := e90.trans r15
              refine wpG_yes 15 false 90 rfl (by kernel_rfl) (by rw [hS]; first | simp | exact Nat.le_of_ble_eq_true rfl) v90 ?_
              have v13 : a.eval (.tmp 13) = .int .i64 (ix : Nat) := (hU 13 (by kernel_rfl)).trans rfl
              clear hE hU
              exact wp_value_inv (w' := W) (.int .i64 (ix : Nat)) (op_move rfl v13) ⟨_, rfl, hB, Fr.refl _ _, rfl, fun _ _ _ _ _ => trivial⟩
            · simp only [List.getElem?_cons_zero, List.getElem?_cons_succ, Option.some.injEq] at ho
              subst ho
              intro a W vs hB hS hE hU
              obtain ⟨r15, e90⟩ := hE 15 90 (by kernel_rfl) (by kernel_rfl)
              have v90 : a.eval (.tmp 90) = .bool false := e90.trans r15
              refine wpG_yes 15 false 90 rfl (by kernel_rfl) (by rw [hS]; first | simp | exact Nat.le_of_ble_eq_true rfl) v90 ?_
              obtain ⟨r17, e92⟩ := hE 17 92 (by kernel_rfl) (by kernel_rfl)
              have v92 : a.eval (.tmp 92) = .slice (some ⟨bq, oq, none⟩) m cu := e92.trans r17
              obtain ⟨r18, e93⟩ := hE 18 93 (by kernel_rfl) (by kernel_rfl)
              have v93 : a.eval (.tmp 93) = .int .i64 (ix : Nat) := e93.trans r18
              clear hE hU
              exact wp_value_inv (w' := W) (.pointer (some ⟨bq, oq + ix, none⟩)) (op_indexAddr rfl v92 v93 (run_index_ints W bq oq m cu ix HIXX.out)) ⟨_, rfl, hB, Fr.refl _ _, rfl, fun _ _ _ _ _ => trivial⟩
            · simp only [List.getElem?_cons_zero, List.getElem?_cons_succ, Option.some.injEq] at ho
              subst ho
              intro a W vs hB hS hE hU
              obtain ⟨r15, e90⟩ := hE 15 90 (by kernel_rfl) (by kernel_rfl)
              have v90 : a.eval (.tmp 90) = .bool false := e90.trans r15
              refine wpG_yes 15 false 90 rfl (by kernel_rfl) (by rw [hS]; first | simp | exact Nat.le_of_ble_eq_true rfl) v90 ?_
              obtain ⟨r19, e94⟩ := hE 19 94 (by kernel_rfl) (by kernel_rfl)
              have v94 : a.eval (.tmp 94) = .pointer (some ⟨bq, oq + ix, none⟩) := e94.trans r19
              clear hE hU
              exact wp_value_inv (w' := W) (.int .i64 (p : Nat)) (op_loadAt rfl v94 (LDP.out W hB)) ⟨_, rfl, hB, Fr.refl _ _, rfl, fun _ _ _ _ _ => trivial⟩
            · simp only [List.getElem?_cons_zero, List.getElem?_cons_succ, Option.some.injEq] at ho
              subst ho
              intro a W vs hB hS hE hU
              obtain ⟨r15, e90⟩ := hE 15 90 (by kernel_rfl) (by kernel_rfl)
              have v90 : a.eval (.tmp 90) = .bool false := e90.trans r15
              refine wpG_yes 15 false 90 rfl (by kernel_rfl) (by rw [hS]; first | simp | exact Nat.le_of_ble_eq_true rfl) v90 ?_
              have v7 : a.eval (.tmp 7) = .slice (some ⟨bq, oq, none⟩) m cu := (hU 7 (by kernel_rfl)).trans rfl
              clear hE hU
              exact wp_value_inv (w' := W) (.slice (some ⟨bq, oq, none⟩) m cu) (op_move rfl v7) ⟨_, rfl, hB, Fr.refl _ _, rfl, fun _ _ _ _ _ => trivial⟩
            · simp only [List.getElem?_cons_zero, List.getElem?_cons_succ, Option.some.injEq] at ho
              subst ho
              intro a W vs hB hS hE hU
              obtain ⟨r15, e90⟩ := hE 15 90 (by kernel_rfl) (by kernel_rfl)
              have v90 : a.eval (.tmp 90) = .bool false := e90.trans r15
              refine wpG_yes 15 false 90 rfl (by kernel_rfl) (by rw [hS]; first | simp | exact Nat.le_of_ble_eq_true rfl) v90 ?_
              have v13 : a.eval (.tmp 13) = .int .i64 (ix : Nat) := (hU 13 (by kernel_rfl)).trans rfl
              clear hE hU
              exact wp_value_inv (w' := W) (.int .i64 (ix : Nat)) (op_move rfl v13) ⟨_, rfl, hB, Fr.refl _ _, rfl, fun _ _ _ _ _ => trivial⟩
            · simp only [List.getElem?_cons_zero, List.getElem?_cons_succ, Option.some.injEq] at ho
              subst ho
              intro a W vs hB hS hE hU
              obtain ⟨r15, e90⟩ := hE 15 90 (by kernel_rfl) (by kernel_rfl)
              have v90 : a.eval (.tmp 90) = .bool false := e90.trans r15
              refine wpG_yes 15 false 90 rfl (by kernel_rfl) (by rw [hS]; first | simp | exact Nat.le_of_ble_eq_true rfl) v90 ?_
              obtain ⟨r21, e96⟩ := hE 21 96 (by kernel_rfl) (by kernel_rfl)
              have v96 : a.eval (.tmp 96) = .slice (some ⟨bq, oq, none⟩) m cu := e96.trans r21
              obtain ⟨r22, e97⟩ := hE 22 97 (by kernel_rfl) (by kernel_rfl)
              have v97 : a.eval (.tmp 97) = .int .i64 (ix : Nat) := e97.trans r22
              clear hE hU
              exact wp_value_inv (w' := W) (.pointer (some ⟨bq, oq + ix, none⟩)) (op_indexAddr rfl v96 v97 (run_index_ints W bq oq m cu ix HIXX.out)) ⟨_, rfl, hB, Fr.refl _ _, rfl, fun _ _ _ _ _ => trivial⟩
            · simp only [List.getElem?_cons_zero, List.getElem?_cons_succ, Option.some.injEq] at ho
              subst ho
              intro a W vs hB hS hE hU
              obtain ⟨r15, e90⟩ := hE 15 90 (by kernel_rfl) (by kernel_rfl)
              have v90 : a.eval (.tmp 90) = .bool false := e90.trans r15
              refine wpG_yes 15 false 90 rfl (by kernel_rfl) (by rw [hS]; first | simp | exact Nat.le_of_ble_eq_true rfl) v90 ?_
              obtain ⟨r23, e98⟩ := hE 23 98 (by kernel_rfl) (by kernel_rfl)
              have v98 : a.eval (.tmp 98) = .pointer (some ⟨bq, oq + ix, none⟩) := e98.trans r23
              clear hE hU
              exact wp_value_inv (w' := W) (.int .i64 (p : Nat)) (op_loadAt rfl v98 (LDP.out W hB)) ⟨_, rfl, hB, Fr.refl _ _, rfl, fun _ _ _ _ _ => trivial⟩
            · simp only [List.getElem?_cons_zero, List.getElem?_cons_succ, Option.some.injEq] at ho
              subst ho
              intro a W vs hB hS hE hU
              obtain ⟨r15, e90⟩ := hE 15 90 (by kernel_rfl) (by kernel_rfl)
              have v90 : a.eval (.tmp 90) = .bool false := e90.trans r15
              refine wpG_yes 15 false 90 rfl (by kernel_rfl) (by rw [hS]; first | simp | exact Nat.le_of_ble_eq_true rfl) v90 ?_
              obtain ⟨r24, e99⟩ := hE 24 99 (by kernel_rfl) (by kernel_rfl)
              have v99 : a.eval (.tmp 99) = .int .i64 (p : Nat) := e99.trans r24
              clear hE hU
              exact wp_value_inv (w' := W) (.int .i64 ((p + 32 : Nat) : Int)) (op_bin rfl v99 rfl (rfl) (add_in5 (by push_cast; rfl) (by omega) (by have := HPB.out; omega))) ⟨_, rfl, hB, Fr.refl _ _, rfl, fun _ _ _ _ _ => trivial⟩
            · simp only [List.getElem?_cons_zero, List.getElem?_cons_succ, Option.some.injEq] at ho
              subst ho
              intro a W vs hB hS hE hU
              obtain ⟨r15, e90⟩ := hE 15 90 (by kernel_rfl) (by kernel_rfl)
              have v90 : a.eval (.tmp 90) = .bool false := e90.trans r15
              refine wpG_yes 15 false 90 rfl (by kernel_rfl) (by rw [hS]; first | simp | exact Nat.le_of_ble_eq_true rfl) v90 ?_
              obtain ⟨r16, e91⟩ := hE 16 91 (by kernel_rfl) (by kernel_rfl)
              have v91 : a.eval (.tmp 91) = .slice ao n cap := e91.trans r16
              obtain ⟨r20, e95⟩ := hE 20 95 (by kernel_rfl) (by kernel_rfl)
              have v95 : a.eval (.tmp 95) = .int .i64 (p : Nat) := e95.trans r20
              obtain ⟨r25, e100⟩ := hE 25 100 (by kernel_rfl) (by kernel_rfl)
              have v100 : a.eval (.tmp 100) = .int .i64 ((p + 32 : Nat) : Int) := e100.trans r25
              clear hE hU
              exact wp_value_inv (w' := W) (.slice (cutLow ao p cap) 32 (cap - p)) (op_slice_mid rfl v91 v95 v100 (run_cut32 W ao n cap p HCP.out)) ⟨_, rfl, hB, Fr.refl _ _, rfl, fun _ _ _ _ _ => trivial⟩
            · simp only [List.getElem?_cons_zero, List.getElem?_cons_succ, Option.some.injEq] at ho
              subst ho
              intro a W vs hB hS hE hU
              obtain ⟨r15, e90⟩ := hE 15 90 (by kernel_rfl) (by kernel_rfl)
              have v90 : a.eval (.tmp 90) = .bool false := e90.trans r15
              refine wpG_yes 15 false 90 rfl (by kernel_rfl) (by rw [hS]; first | simp | exact Nat.le_of_ble_eq_true rfl) v90 ?_
              obtain ⟨r26, e101⟩ := hE 26 101 (by kernel_rfl) (by kernel_rfl)
              have v101 : a.eval (.tmp 101) = .slice (cutLow ao p cap) 32 (cap - p) := e101.trans r26
              clear hE hU
              exact wp_value_inv (w' := W) (.string S2) (op_convert10 rfl v101 (HCV.out W hB)) ⟨_, rfl, hB, Fr.refl _ _, rfl, fun _ _ _ _ _ => trivial⟩
            · simp only [List.getElem?_cons_zero, List.getElem?_cons_succ, Option.some.injEq] at ho
              subst ho
              intro a W vs hB hS hE hU
              obtain ⟨r15, e90⟩ := hE 15 90 (by kernel_rfl) (by kernel_rfl)
              have v90 : a.eval (.tmp 90) = .bool false := e90.trans r15
              refine wpG_yes 15 false 90 rfl (by kernel_rfl) (by rw [hS]; first | simp | exact Nat.le_of_ble_eq_true rfl) v90 ?_
              have v4 : a.eval (.tmp 4) = .pointer (some ⟨b4, 0, none⟩) := (hU 4 (by kernel_rfl)).trans rfl
              clear hE hU
              exact wp_value_inv (w' := W) (.agg C) (op_loadAt rfl v4 (LD4.out W hB)) ⟨_, rfl, hB, Fr.refl _ _, rfl, fun _ _ _ _ _ => trivial⟩
            · simp only [List.getElem?_cons_zero, List.getElem?_cons_succ, Option.some.injEq] at ho
              subst ho
              intro a W vs hB hS hE hU
              obtain ⟨r15, e90⟩ := hE 15 90 (by kernel_rfl) (by kernel_rfl)
              have v90 : a.eval (.tmp 90) = .bool false := e90.trans r15
              refine wpG_yes 15 false 90 rfl (by kernel_rfl) (by rw [hS]; first | simp | exact Nat.le_of_ble_eq_true rfl) v90 ?_
              obtain ⟨r28, e103⟩ := hE 28 103 (by kernel_rfl) (by kernel_rfl)
              have v103 : a.eval (.tmp 103) = .agg C := e103.trans r28
              clear hE hU
              refine wp_call_inv 9 #[.tmp 103] #[24] rfl #[.agg C] (by simp only [List.map_toArray, List.map_cons, List.map_nil, v103]) (ent_spence_base_Letters _) (Post := fun v W' => v = .string S ∧ Fr (fun _ => False) W W') ((HLE.out W).mono fun e w' h => ⟨_, h.1, rfl, h.2⟩) ?_
              rintro v W' ⟨rfl, hf⟩
              exact ⟨_, rfl, hB.trans hf (fun _ h => h.elim), hf, rfl, fun _ _ _ _ _ => trivial⟩
            · simp only [List.getElem?_cons_zero, List.getElem?_cons_succ, Option.some.injEq] at ho
              subst ho
              intro a W vs hB hS hE hU
              obtain ⟨r15, e90⟩ := hE 15 90 (by kernel_rfl) (by kernel_rfl)
              have v90 : a.eval (.tmp 90) = .bool false := e90.trans r15
              refine wpG_yes 15 false 90 rfl (by kernel_rfl) (by rw [hS]; first | simp | exact Nat.le_of_ble_eq_true rfl) v90 ?_
              obtain ⟨r27, e102⟩ := hE 27 102 (by kernel_rfl) (by kernel_rfl)
              have v102 : a.eval (.tmp 102) = .string S2 := e102.trans r27
              obtain ⟨r29, e104⟩ := hE 29 104 (by kernel_rfl) (by kernel_rfl)
              have v104 : a.eval (.tmp 104) = .string S := e104.trans r29
              clear hE hU
              exact wp_value_inv (w' := W) (.bool false) (op_bin rfl v102 v104 (guard_str W _ _ _ _ _) (by rw [HSS.out]; exact neq_str_no W _ _)) ⟨_, rfl, hB, Fr.refl _ _, rfl, fun _ _ _ _ _ => trivial⟩
            · simp only [List.getElem?_cons_zero, List.getElem?_cons_succ, Option.some.injEq] at ho
              subst ho
              intro a W vs hB hS hE hU
              refine wpG_plain rfl ?_
              obtain ⟨r15, e90⟩ := hE 15 90 (by kernel_rfl) (by kernel_rfl)
              have v90 : a.eval (.tmp 90) = .bool false := e90.trans r15
              obtain ⟨r30, e105⟩ := hE 30 105 (by kernel_rfl) (by kernel_rfl)
              have v105 : a.eval (.tmp 105) = .bool false := e105.trans r30
              clear hE hU
              exact wp_value_inv (w' := W) (.bool false) (op_pick rfl v90 (by simp only [Bool.false_eq_true, if_false]; exact v105)) ⟨_, rfl, hB, Fr.refl _ _, rfl, fun _ _ _ _ _ => trivial⟩
            · simp only [List.getElem?_cons_zero, List.getElem?_cons_succ, Option.some.injEq] at ho
              subst ho
              intro a W vs hB hS hE hU
              refine wpG_plain rfl ?_
              obtain ⟨r31, e106⟩ := hE 31 106 (by kernel_rfl) (by kernel_rfl)
              have v106 : a.eval (.tmp 106) = .bool false := e106.trans r31
              clear hE hU
              exact wp_value_inv (w' := W) (.bool false) (op_move rfl v106) ⟨_, rfl, hB, Fr.refl _ _, rfl, fun _ _ _ _ _ => trivial⟩
            · simp only [List.getElem?_cons_zero, List.getElem?_cons_succ, Option.some.injEq] at ho
              subst ho
              intro a W vs hB hS hE hU
              obtain ⟨r32, e107⟩ := hE 32 107 (by kernel_rfl) (by kernel_rfl)
              have v107 : a.eval (.tmp 107) = .bool false := e107.trans r32
              refine wpG_yes 32 false 107 rfl (by kernel_rfl) (by rw [hS]; first | simp | exact Nat.le_of_ble_eq_true rfl) v107 ?_
              have v13 : a.eval (.tmp 13) = .int .i64 (ix : Nat) := (hU 13 (by kernel_rfl)).trans rfl
              clear hE hU
              exact wp_value_inv (w' := W) (.int .i64 (ix : Nat)) (op_move rfl v13) ⟨_, rfl, hB, Fr.refl _ _, rfl, fun _ _ _ _ _ => trivial⟩
            · simp only [List.getElem?_cons_zero, List.getElem?_cons_succ, Option.some.injEq] at ho
              subst ho
              intro a W vs hB hS hE hU
              obtain ⟨r32, e107⟩ := hE 32 107 (by kernel_rfl) (by kernel_rfl)
              have v107 : a.eval (.tmp 107) = .bool false := e107.trans r32
              refine wpG_yes 32 false 107 rfl (by kernel_rfl) (by rw [hS]; first | simp | exact Nat.le_of_ble_eq_true rfl) v107 ?_
              obtain ⟨r33, e108⟩ := hE 33 108 (by kernel_rfl) (by kernel_rfl)
              have v108 : a.eval (.tmp 108) = .int .i64 (ix : Nat) := e108.trans r33
              clear hE hU
              exact wp_value_inv (w' := W) (.bool false) (op_bin rfl v108 rfl (rfl) (gtr_no (by have := HI0.out; omega))) ⟨_, rfl, hB, Fr.refl _ _, rfl, fun _ _ _ _ _ => trivial⟩
            · simp only [List.getElem?_cons_zero, List.getElem?_cons_succ, Option.some.injEq] at ho
              subst ho
              intro a W vs hB hS hE hU
              obtain ⟨r32, e107⟩ := hE 32 107 (by kernel_rfl) (by kernel_rfl)
              have v107 : a.eval (.tmp 107) = .bool false := e107.trans r32
              refine wpG_yes 32 false 107 rfl (by kernel_rfl) (by rw [hS]; first | simp | exact Nat.le_of_ble_eq_true rfl) v107 ?_
              obtain ⟨r34, e109⟩ := hE 34 109 (by kernel_rfl) (by kernel_rfl)
              have v109 : a.eval (.tmp 109) = .bool false := e109.trans r34
              clear hE hU
              exact wp_value_inv (w' := W) (.bool false) (op_move rfl v109) ⟨_, rfl, hB, Fr.refl _ _, rfl, fun _ _ _ _ _ => trivial⟩
            · simp only [List.getElem?_cons_zero, List.getElem?_cons_succ, Option.some.injEq] at ho
              subst ho
              intro a W vs hB hS hE hU
              obtain ⟨r35, e110⟩ := hE 35 110 (by kernel_rfl) (by kernel_rfl)
              have v110 : a.eval (.tmp 110) = .bool false := e110.trans r35
              exact wpG_no 35 true 110 rfl (by kernel_rfl) (by rw [hS]; first | simp | exact Nat.le_of_ble_eq_true rfl) v110 ⟨_, rfl, hB, Fr.refl _ _, rfl, fun _ _ _ _ _ => trivial⟩
            · simp only [List.getElem?_cons_zero, List.getElem?_cons_succ, Option.some.injEq] at ho
              subst ho
              intro a W vs hB hS hE hU
              obtain ⟨r35, e110⟩ := hE 35 110 (by kernel_rfl) (by kernel_rfl)
              have v110 : a.eval (.tmp 110) = .bool false := e110.trans r35
              exact wpG_no 35 true 110 rfl (by kernel_rfl) (by rw [hS]; first | simp | exact Nat.le_of_ble_eq_true rfl) v110 ⟨_, rfl, hB, Fr.refl _ _, rfl, fun _ _ _ _ _ => trivial⟩
            · simp only [List.getElem?_cons_zero, List.getElem?_cons_succ, Option.some.injEq] at ho
              subst ho
              intro a W vs hB hS hE hU
              obtain ⟨r35, e110⟩ := hE 35 110 (by kernel_rfl) (by kernel_rfl)
              have v110 : a.eval (.tmp 110) = .bool false := e110.trans r35
              exact wpG_no 35 true 110 rfl (by kernel_rfl) (by rw [hS]; first | simp | exact Nat.le_of_ble_eq_true rfl) v110 ⟨_, rfl, hB, Fr.refl _ _, rfl, fun _ _ _ _ _ => trivial⟩
            · simp only [List.getElem?_cons_zero, List.getElem?_cons_succ, Option.some.injEq] at ho
              subst ho
              intro a W vs hB hS hE hU
              obtain ⟨r35, e110⟩ := hE 35 110 (by kernel_rfl) (by kernel_rfl)
              have v110 : a.eval (.tmp 110) = .bool false := e110.trans r35
              exact wpG_no 35 true 110 rfl (by kernel_rfl) (by rw [hS]; first | simp | exact Nat.le_of_ble_eq_true rfl) v110 ⟨_, rfl, hB, Fr.refl _ _, rfl, fun _ _ _ _ _ => trivial⟩
            · simp only [List.getElem?_cons_zero, List.getElem?_cons_succ, Option.some.injEq] at ho
              subst ho
              intro a W vs hB hS hE hU
              obtain ⟨r35, e110⟩ := hE 35 110 (by kernel_rfl) (by kernel_rfl)
              have v110 : a.eval (.tmp 110) = .bool false := e110.trans r35
              exact wpG_no 35 true 110 rfl (by kernel_rfl) (by rw [hS]; first | simp | exact Nat.le_of_ble_eq_true rfl) v110 ⟨_, rfl, hB, Fr.refl _ _, rfl, fun _ _ _ _ _ => trivial⟩
            · simp only [List.getElem?_cons_zero, List.getElem?_cons_succ, Option.some.injEq] at ho
              subst ho
              intro a W vs hB hS hE hU
              obtain ⟨r35, e110⟩ := hE 35 110 (by kernel_rfl) (by kernel_rfl)
              have v110 : a.eval (.tmp 110) = .bool false := e110.trans r35
              exact wpG_no 35 true 110 rfl (by kernel_rfl) (by rw [hS]; first | simp | exact Nat.le_of_ble_eq_true rfl) v110 ⟨_, rfl, hB, Fr.refl _ _, rfl, fun _ _ _ _ _ => trivial⟩
            · simp only [List.getElem?_cons_zero, List.getElem?_cons_succ, Option.some.injEq] at ho
              subst ho
              intro a W vs hB hS hE hU
              obtain ⟨r35, e110⟩ := hE 35 110 (by kernel_rfl) (by kernel_rfl)
              have v110 : a.eval (.tmp 110) = .bool false := e110.trans r35
              exact wpG_no 35 true 110 rfl (by kernel_rfl) (by rw [hS]; first | simp | exact Nat.le_of_ble_eq_true rfl) v110 ⟨_, rfl, hB, Fr.refl _ _, rfl, fun _ _ _ _ _ => trivial⟩
            · simp only [List.getElem?_cons_zero, List.getElem?_cons_succ, Option.some.injEq] at ho
              subst ho
              intro a W vs hB hS hE hU
              obtain ⟨r35, e110⟩ := hE 35 110 (by kernel_rfl) (by kernel_rfl)
              have v110 : a.eval (.tmp 110) = .bool false := e110.trans r35
              exact wpG_no 35 true 110 rfl (by kernel_rfl) (by rw [hS]; first | simp | exact Nat.le_of_ble_eq_true rfl) v110 ⟨_, rfl, hB, Fr.refl _ _, rfl, fun _ _ _ _ _ => trivial⟩
            · simp only [List.getElem?_cons_zero, List.getElem?_cons_succ, Option.some.injEq] at ho
              subst ho
              intro a W vs hB hS hE hU
              obtain ⟨r35, e110⟩ := hE 35 110 (by kernel_rfl) (by kernel_rfl)
              have v110 : a.eval (.tmp 110) = .bool false := e110.trans r35
              exact wpG_no 35 true 110 rfl (by kernel_rfl) (by rw [hS]; first | simp | exact Nat.le_of_ble_eq_true rfl) v110 ⟨_, rfl, hB, Fr.refl _ _, rfl, fun _ _ _ _ _ => trivial⟩
            · simp only [List.getElem?_cons_zero, List.getElem?_cons_succ, Option.some.injEq] at ho
              subst ho
              intro a W vs hB hS hE hU
              obtain ⟨r35, e110⟩ := hE 35 110 (by kernel_rfl) (by kernel_rfl)
              have v110 : a.eval (.tmp 110) = .bool false := e110.trans r35
              exact wpG_no 35 true 110 rfl (by kernel_rfl) (by rw [hS]; first | simp | exact Nat.le_of_ble_eq_true rfl) v110 ⟨_, rfl, hB, Fr.refl _ _, rfl, fun _ _ _ _ _ => trivial⟩
            · simp only [List.getElem?_cons_zero, List.getElem?_cons_succ, Option.some.injEq] at ho
              subst ho
              intro a W vs hB hS hE hU
              obtain ⟨r35, e110⟩ := hE 35 110 (by kernel_rfl) (by kernel_rfl)
              have v110 : a.eval (.tmp 110) = .bool false := e110.trans r35
              exact wpG_no 35 true 110 rfl (by kernel_rfl) (by rw [hS]; first | simp | exact Nat.le_of_ble_eq_true rfl) v110 ⟨_, rfl, hB, Fr.refl _ _, rfl, fun _ _ _ _ _ => trivial⟩
            · simp only [List.getElem?_cons_zero, List.getElem?_cons_succ, Option.some.injEq] at ho
              subst ho
              intro a W vs hB hS hE hU
              obtain ⟨r32, e107⟩ := hE 32 107 (by kernel_rfl) (by kernel_rfl)
              have v107 : a.eval (.tmp 107) = .bool false := e107.trans r32
              refine wpG_yes 32 false 107 rfl (by kernel_rfl) (by rw [hS]; first | simp | exact Nat.le_of_ble_eq_true rfl) v107 ?_
              obtain ⟨r35, e110⟩ := hE 35 110 (by kernel_rfl) (by kernel_rfl)
              have v110 : a.eval (.tmp 110) = .bool false := e110.trans r35
              clear hE hU
              exact wp_value_inv (w' := W) (.bool false) (op_pick rfl v110 (by simp only [Bool.false_eq_true, if_false]; rfl)) ⟨_, rfl, hB, Fr.refl _ _, rfl, fun _ _ _ _ _ => trivial⟩
          · intro vs Wa hB0 hR0 hD
            have r107 : vs 32 = .bool false := hR0 32 (by decide)
            have r122 : vs 47 = .bool false := hR0 47 (by decide)
            have HB := Lib.hid hB0
            clear hR0 hD hB0
            simp only [acts, if_true, dstAt, List.getElem?_cons_zero, List.getElem?_cons_succ, Option.bind_some, Act.put, List.setIfInBounds_toArray, List.set_cons_succ, List.set_cons_zero, List.drop_succ_cons]
            simp only [r107, r122]
            clear r107 r122
            go_wp2_with fail
            go_loopw [14] (fun kv wk => ∃ k : Nat, k ≤ 32 ∧ kv = .int .i64 k ∧ Hid (Fr (· = g9) W9 wk ∧ IntT wk g9 n (covP (covR (L.take ix)) p k))) (fun kv _ => 32 - (intOf kv).toNat)
            case atStart => exact ⟨0, by omega, rfl, Lib.hid ⟨(hR.out.1.trans HB.out (fun _ h => h.elim)), ((hR.out.2.keep HB.out (fun h => h)).congr (fun x => (covP_zero _ _ _).symm))⟩⟩
            case round =>
              obtain ⟨k, hk, rfl, hQ⟩ := hrel
              by_cases hltk : k < 32
              · have kp2 : wr.cell? ⟨bq, oq + ix, none⟩ = some (.int .i64 (p : Nat)) := hQ.out.1.cell (by rw [HP.out]; exact HCQ.out ix hiL) (fun e => by have e' : bq = g9 := e; have := HBQ.out; omega)
                obtain ⟨y, hy⟩ : ∃ y, y = p + k := ⟨_, rfl⟩
                have hyn : y < n := by have := HPB.out; omega
                have hyk : (p : Int) + (k : Int) = (y : Nat) := by omega
                have kc := hQ.out.2.cell y hyn
                have kf := hQ.out.2.free y
                have hpn2 : p + 32 ≤ n := HPB.out.1
                have hy6 : y ≤ 3000 := by omega
                have hlk : (k : Int) < 32 := by omega
                have HY := Lib.hid hy
                have hixm : ix < m := HIXX.out
                clear hy
                go_wp2_with fail
                go_roundw
                case rel =>
                  refine ⟨k + 1, by omega, by go_num, Lib.hid ⟨hQ.out.1.trans (Fr.cell1 _ g9 y _) (fun k e => .inl e), ?_⟩⟩
                  exact hQ.out.2.set_ y (k + 1) hyn (by rw [HY.out]; exact covP_here _ _ _) (fun x hx => covP_else _ _ _ _ (by rw [← HY.out]; exact hx))
                case measure => simp [intOf]; omega
              · obtain rfl : k = 32 := by omega
                have hlk : ¬ ((32 : Nat) : Int) < 32 := by omega
                have hixm : ix < m := HIXX.out
                go_wp2_with fail
                go_roundw
                case rel => exact ⟨ix + 1, by omega, by go_num, Lib.hid ⟨hQ.out.1, hQ.out.2.congr (fun x => covP_all hiL HP.out x)⟩⟩
                case measure => simp [intOf]; omega
        · have hjL : jx < L.length := by omega
          obtain ⟨q, hq⟩ : ∃ q : Nat, q = L[jx] := ⟨_, rfl⟩
          have HQP := Lib.hid (show q + 32 ≤ p by rw [hq, HP.out]; exact List.pairwise_iff_getElem.1 HL.out.2.2.2.1 jx ix hjL hiL (by omega))
          have kq : wr.cell? ⟨bq, oq + jx, none⟩ = some (.int .i64 (q : Nat)) := hR.out.1.cell (by rw [hq]; exact HCQ.out jx hjL) (fun e => by have e' : bq = g9 := e; have := HBQ.out; omega)
          have LDQ := Lib.hid (fun W (hW : Fr (fun _ => False) wr W) => load_int5 W ⟨bq, oq + jx, none⟩ (.int .i64 (q : Nat)) (hW.cell kq (fun h => h)))
          have HI0 := Lib.hid (show 1 ≤ ix ∧ jx + 1 = ix by omega)
          clear hi0 hj hq kq hjL
          go_wp2_with fail
          refine wp_region_inv 48 (by kernel_rfl) (by kernel_rfl) (fun W => Fr (fun _ => False) wr W) (TuR1 ao n cap b4 bq oq m cu ix p jx q C S S2) (fun _ _ _ _ => True) (Fr (fun _ => False)) (TuR1.ext ao n cap b4 bq oq m cu ix p jx q C S S2) (Fr.refl _ _).drew ?_ ?_
          · intro i hi o ho
            replace hi : i < 48 := hi
            obtain rfl | rfl | rfl | rfl | rfl | rfl | rfl | rfl | rfl | rfl | rfl | rfl | rfl | rfl | rfl | rfl | rfl | rfl | rfl | rfl | rfl | rfl | rfl | rfl | rfl | rfl | rfl | rfl | rfl | rfl | rfl | rfl | rfl | rfl | rfl | rfl | rfl | rfl | rfl | rfl | rfl | rfl | rfl | rfl | rfl | rfl | rfl | rfl : i = 0 ∨ i = 1 ∨ i = 2 ∨ i = 3 ∨ i = 4 ∨ i = 5 ∨ i = 6 ∨ i = 7 ∨ i = 8 ∨ i = 9 ∨ i = 10 ∨ i = 11 ∨ i = 12 ∨ i = 13 ∨ i = 14 ∨ i = 15 ∨ i = 16 ∨ i = 17 ∨ i = 18 ∨ i = 19 ∨ i = 20 ∨ i = 21 ∨ i = 22 ∨ i = 23 ∨ i = 24 ∨ i = 25 ∨ i = 26 ∨ i = 27 ∨ i = 28 ∨ i = 29 ∨ i = 30 ∨ i = 31 ∨ i = 32 ∨ i = 33 ∨ i = 34 ∨ i = 35 ∨ i = 36 ∨ i = 37 ∨ i = 38 ∨ i = 39 ∨ i = 40 ∨ i = 41 ∨ i = 42 ∨ i = 43 ∨ i = 44 ∨ i = 45 ∨ i = 46 ∨ i = 47 := by omega
            · simp only [List.getElem?_cons_zero, Option.some.injEq] at ho
              subst ho
              intro a W vs hB hS hE hU
              refine wpG_plain rfl ?_
              have v7 : a.eval (.tmp 7) = .slice (some ⟨bq, oq, none⟩) m cu := (hU 7 (by kernel_rfl)).trans rfl
              clear hE hU
              exact wp_value_inv (w' := W) (.slice (some ⟨bq, oq, none⟩) m cu) (op_move rfl v7) ⟨_, rfl, hB, Fr.refl _ _, rfl, fun _ _ _ _ _ => trivial⟩
            · simp only [List.getElem?_cons_zero, List.getElem?_cons_succ, Option.some.injEq] at ho
              subst ho
              intro a W vs hB hS hE hU
              refine wpG_plain rfl ?_
              have v13 : a.eval (.tmp 13) = .int .i64 (ix : Nat) := (hU 13 (by kernel_rfl)).trans rfl
              clear hE hU
              exact wp_value_inv (w' := W) (.int .i64 (ix : Nat)) (op_move rfl v13) ⟨_, rfl, hB, Fr.refl _ _, rfl, fun _ _ _ _ _ => trivial⟩
            · simp only [List.getElem?_cons_zero, List.getElem?_cons_succ, Option.some.injEq] at ho
              subst ho
              intro a W vs hB hS hE hU
              refine wpG_plain rfl ?_
              obtain ⟨r0, e75⟩ := hE 0 75 (by kernel_rfl) (by kernel_rfl)
              have v75 : a.eval (.tmp 75) = .slice (some ⟨bq, oq, none⟩) m cu := e75.trans r0
              obtain ⟨r1, e76⟩ := hE 1 76 (by kernel_rfl) (by kernel_rfl)
              have v76 : a.eval (.tmp 76) = .int .i64 (ix : Nat) := e76.trans r1
              clear hE hU
              exact wp_value_inv (w' := W) (.pointer (some ⟨bq, oq + ix, none⟩)) (op_indexAddr rfl v75 v76 (run_index_ints W bq oq m cu ix HIXX.out)) ⟨_, rfl, hB, Fr.refl _ _, rfl, fun _ _ _ _ _ => trivial⟩
            · simp only [List.getElem?_cons_zero, List.getElem?_cons_succ, Option.some.injEq] at ho
              subst ho
              intro a W vs hB hS hE hU
              refine wpG_plain rfl ?_
              obtain ⟨r2, e77⟩ := hE 2 77 (by kernel_rfl) (by kernel_rfl)
              have v77 : a.eval (.tmp 77) = .pointer (some ⟨bq, oq + ix, none⟩) := e77.trans r2
              clear hE hU
              exact wp_value_inv (w' := W) (.int .i64 (p : Nat)) (op_loadAt rfl v77 (LDP.out W hB)) ⟨_, rfl, hB, Fr.refl _ _, rfl, fun _ _ _ _ _ => trivial⟩
            · simp only [List.getElem?_cons_zero, List.getElem?_cons_succ, Option.some.injEq] at ho
              subst ho
              intro a W vs hB hS hE hU
              refine wpG_plain rfl ?_
              obtain ⟨r3, e78⟩ := hE 3 78 (by kernel_rfl) (by kernel_rfl)
              have v78 : a.eval (.tmp 78) = .int .i64 (p : Nat) := e78.trans r3
              clear hE hU
              exact wp_value_inv (w' := W) (.bool false) (op_bin rfl v78 rfl (rfl) (lss_no (by omega))) ⟨_, rfl, hB, Fr.refl _ _, rfl, fun _ _ _ _ _ => trivial⟩
            · simp only [List.getElem?_cons_zero, List.getElem?_cons_succ, Option.some.injEq] at ho
              subst ho
              intro a W vs hB hS hE hU
              refine wpG_plain rfl ?_
              obtain ⟨r4, e79⟩ := hE 4 79 (by kernel_rfl) (by kernel_rfl)
              have v79 : a.eval (.tmp 79) = .bool false := e79.trans r4
              clear hE hU
              exact wp_value_inv (w' := W) (.bool false) (op_move rfl v79) ⟨_, rfl, hB, Fr.refl _ _, rfl, fun _ _ _ _ _ => trivial⟩
            · simp only [List.getElem?_cons_zero, List.getElem?_cons_succ, Option.some.injEq] at ho
              subst ho
              intro a W vs hB hS hE hU
              obtain ⟨r5, e80⟩ := hE 5 80 (by kernel_rfl) (by kernel_rfl)
              have v80 : a.eval (.tmp 80) = .bool false := e80.trans r5
              refine wpG_yes 5 false 80 rfl (by kernel_rfl) (by rw [hS]; first | simp | exact Nat.le_of_ble_eq_true rfl) v80 ?_
              have v7 : a.eval (.tmp 7) = .slice (some ⟨bq, oq, none⟩) m cu := (hU 7 (by kernel_rfl)).trans rfl
              clear hE hU
              exact wp_value_inv (w' := W) (.slice (some ⟨bq, oq, none⟩) m cu) (op_move rfl v7) ⟨_, rfl, hB, Fr.refl _ _, rfl, fun _ _ _ _ _ => trivial⟩
            · simp only [List.getElem?_cons_zero, List.getElem?_cons_succ, Option.some.injEq] at ho
              subst ho
              intro a W vs hB hS hE hU
              obtain ⟨r5, e80⟩ := hE 5 80 (by kernel_rfl) (by kernel_rfl)
              have v80 : a.eval (.tmp 80) = .bool false := e80.trans r5
              refine wpG_yes 5 false 80 rfl (by kernel_rfl) (by rw [hS]; first | simp | exact Nat.le_of_ble_eq_true rfl) v80 ?_
              have v13 : a.eval (.tmp 13) = .int .i64 (ix : Nat) := (hU 13 (by kernel_rfl)).trans rfl
              clear hE hU
              exact wp_value_inv (w' := W) (.int .i64 (ix : Nat)) (op_move rfl v13) ⟨_, rfl, hB, Fr.refl _ _, rfl, fun _ _ _ _ _ => trivial⟩
            · simp only [List.getElem?_cons_zero, List.getElem?_cons_succ, Option.some.injEq] at ho
              subst ho
              intro a W vs hB hS hE hU
              obtain ⟨r5, e80⟩ := hE 5 80 (by kernel_rfl) (by kernel_rfl)
              have v80 : a.eval (.tmp 80) = .bool false := e80.trans r5
              refine wpG_yes 5 false 80 rfl (by kernel_rfl) (by rw [hS]; first | simp | exact Nat.le_of_ble_eq_true rfl) v80 ?_
              obtain ⟨r6, e81⟩ := hE 6 81 (by kernel_rfl) (by kernel_rfl)
              have v81 : a.eval (.tmp 81) = .slice (some ⟨bq, oq, none⟩) m cu := e81.trans r6
              obtain ⟨r7, e82⟩ := hE 7 82 (by kernel_rfl) (by kernel_rfl)
              have v82 : a.eval (.tmp 82) = .int .i64 (ix : Nat) := e82.trans r7
              clear hE hU
              exact wp_value_inv (w' := W) (.pointer (some ⟨bq, oq + ix, none⟩)) (op_indexAddr rfl v81 v82 (run_index_ints W bq oq m cu ix HIXX.out)) ⟨_, rfl, hB, Fr.refl _ _, rfl, fun _ _ _ _ _ => trivial⟩
            · simp only [List.getElem?_cons_zero, List.getElem?_cons_succ, Option.some.injEq] at ho
              subst ho
              intro a W vs hB hS hE hU
              obtain ⟨r5, e80⟩ := hE 5 80 (by kernel_rfl) (by kernel_rfl)
              have v80 : a.eval (.tmp 80) = .bool false := e80.trans r5
              refine wpG_yes 5 false 80 rfl (by kernel_rfl) (by rw [hS]; first | simp | exact Nat.le_of_ble_eq_true rfl) v80 ?_
              obtain ⟨r8, e83⟩ := hE 8 83 (by kernel_rfl) (by kernel_rfl)
              have v83 : a.eval (.tmp 83) = .pointer (some ⟨bq, oq + ix, none⟩) := e83.trans r8
              clear hE hU
              exact wp_value_inv (w' := W) (.int .i64 (p : Nat)) (op_loadAt rfl v83 (LDP.out W hB)) ⟨_, rfl, hB, Fr.refl _ _, rfl, fun _ _ _ _ _ => trivial⟩
            · simp only [List.getElem?_cons_zero, List.getElem?_cons_succ, Option.some.injEq] at ho
              subst ho
              intro a W vs hB hS hE hU
              obtain ⟨r5, e80⟩ := hE 5 80 (by kernel_rfl) (by kernel_rfl)
              have v80 : a.eval (.tmp 80) = .bool false := e80.trans r5
              refine wpG_yes 5 false 80 rfl (by kernel_rfl) (by rw [hS]; first | simp | exact Nat.le_of_ble_eq_true rfl) v80 ?_
              obtain ⟨r9, e84⟩ := hE 9 84 (by kernel_rfl) (by kernel_rfl)
              have v84 : a.eval (.tmp 84) = .int .i64 (p : Nat) := e84.trans r9
              clear hE hU
              exact wp_value_inv (w' := W) (.int .i64 ((p + 32 : Nat) : Int)) (op_bin rfl v84 rfl (rfl) (add_in5 (by push_cast; rfl) (by omega) (by have := HPB.out; omega))) ⟨_, rfl, hB, Fr.refl _ _, rfl, fun _ _ _ _ _ => trivial⟩
            · simp only [List.getElem?_cons_zero, List.getElem?_cons_succ, Option.some.injEq] at ho
              subst ho
              intro a W vs hB hS hE hU
              obtain ⟨r5, e80⟩ := hE 5 80 (by kernel_rfl) (by kernel_rfl)
              have v80 : a.eval (.tmp 80) = .bool false := e80.trans r5
              refine wpG_yes 5 false 80 rfl (by kernel_rfl) (by rw [hS]; first | simp | exact Nat.le_of_ble_eq_true rfl) v80 ?_
              have v0 : a.eval (.tmp 0) = .slice ao n cap := (hU 0 (by kernel_rfl)).trans rfl
              clear hE hU
              exact wp_value_inv (w' := W) (.slice ao n cap) (op_move rfl v0) ⟨_, rfl, hB, Fr.refl _ _, rfl, fun _ _ _ _ _ => trivial⟩
            · simp only [List.getElem?_cons_zero, List.getElem?_cons_succ, Option.some.injEq] at ho
              subst ho
              intro a W vs hB hS hE hU
              obtain ⟨r5, e80⟩ := hE 5 80 (by kernel_rfl) (by kernel_rfl)
              have v80 : a.eval (.tmp 80) = .bool false := e80.trans r5
              refine wpG_yes 5 false 80 rfl (by kernel_rfl) (by rw [hS]; first | simp | exact Nat.le_of_ble_eq_true rfl) v80 ?_
              obtain ⟨r11, e86⟩ := hE 11 86 (by kernel_rfl) (by kernel_rfl)
              have v86 : a.eval (.tmp 86) = .slice ao n cap := e86.trans r11
              clear hE hU
              exact wp_value_inv (w' := W) (.int .i64 (n : Nat)) (op_len5 rfl v86) ⟨_, rfl, hB, Fr.refl _ _, rfl, fun _ _ _ _ _ => trivial⟩
            · simp only [List.getElem?_cons_zero, List.getElem?_cons_succ, Option.some.injEq] at ho
              subst ho
              intro a W vs hB hS hE hU
              obtain ⟨r5, e80⟩ := hE 5 80 (by kernel_rfl) (by kernel_rfl)
              have v80 : a.eval (.tmp 80) = .bool false := e80.trans r5
              refine wpG_yes 5 false 80 rfl (by kernel_rfl) (by rw [hS]; first | simp | exact Nat.le_of_ble_eq_true rfl) v80 ?_
              obtain ⟨r10, e85⟩ := hE 10 85 (by kernel_rfl) (by kernel_rfl)
              have v85 : a.eval (.tmp 85) = .int .i64 ((p + 32 : Nat) : Int) := e85.trans r10
              obtain ⟨r12, e87⟩ := hE 12 87 (by kernel_rfl) (by kernel_rfl)
              have v87 : a.eval (.tmp 87) = .int .i64 (n : Nat) := e87.trans r12
              clear hE hU
              exact wp_value_inv (w' := W) (.bool false) (op_bin rfl v85 v87 (rfl) (gtr_no (by have := HPB.out; omega))) ⟨_, rfl, hB, Fr.refl _ _, rfl, fun _ _ _ _ _ => trivial⟩
            · simp only [List.getElem?_cons_zero, List.getElem?_cons_succ, Option.some.injEq] at ho
              subst ho
              intro a W vs hB hS hE hU
              refine wpG_plain rfl ?_
              obtain ⟨r5, e80⟩ := hE 5 80 (by kernel_rfl) (by kernel_rfl)
              have v80 : a.eval (.tmp 80) = .bool false := e80.trans r5
              obtain ⟨r13, e88⟩ := hE 13 88 (by kernel_rfl) (by kernel_rfl)
              have v88 : a.eval (.tmp 88) = .bool false := e88.trans r13
              clear hE hU
              exact wp_value_inv (w' := W) (.bool false) (op_pick rfl v80 (by simp only [Bool.false_eq_true, if_false]; exact v88)) ⟨_, rfl, hB, Fr.refl _ _, rfl, fun _ _ _ _ _ => trivial⟩
            · simp only [List.getElem?_cons_zero, List.getElem?_cons_succ, Option.some.injEq] at ho
              subst ho
              intro a W vs hB hS hE hU
              refine wpG_plain rfl ?_
              obtain ⟨r14, e89⟩ := hE 14 89 (by kernel_rfl) (by kernel_rfl)
              have v89 : a.eval (.tmp 89) = .bool false := e89.trans r14
              clear hE hU
              exact wp_value_inv (w' := W) (.bool false) (op_move rfl v89) ⟨_, rfl, hB, Fr.refl _ _, rfl, fun _ _ _ _ _ => trivial⟩
            · simp only [List.getElem?_cons_zero, List.getElem?_cons_succ, Option.some.injEq] at ho
              subst ho
              intro a W vs hB hS hE hU
              obtain ⟨r15, e90⟩ := hE 15 90 (by kernel_rfl) (by kernel_rfl)
              have v90 : a.eval (.tmp 90) = .bool false := e90.trans r15
              refine wpG_yes 15 false 90 rfl (by kernel_rfl) (by rw [hS]; first | simp | exact Nat.le_of_ble_eq_true rfl) v90 ?_
              have v0 : a.eval (.tmp 0) = .slice ao n cap := (hU 0 (by kernel_rfl)).trans rfl
              clear hE hU
              exact wp_value_inv (w' := W) (.slice ao n cap) (op_move rfl v0) ⟨_, rfl, hB, Fr.refl _ _, rfl, fun _ _ _ _ _ => trivial⟩
            · simp only [List.getElem?_cons_zero, List.getElem?_cons_succ, Option.some.injEq] at ho
              subst ho
              intro a W vs hB hS hE hU
              obtain ⟨r15, e90⟩ := hE 15 90 (by kernel_rfl) (by kernel_rfl)
              have v90 : a.eval (.tmp 90) = .bool false := e90.trans r15
              refine wpG_yes 15 false 90 rfl (by kernel_rfl) (by rw [hS]; first | simp | exact Nat.le_of_ble_eq_true rfl) v90 ?_
              have v7 : a.eval (.tmp 7) = .slice (some ⟨bq, oq, none⟩) m cu := (hU 7 (by kernel_rfl)).trans rfl
              clear hE hU
              exact wp_value_inv (w' := W) (.slice (some ⟨bq, oq, none⟩) m cu) (op_move rfl v7) ⟨_, rfl, hB, Fr.refl _ _, rfl, fun _ _ _ _ _ => trivial⟩
            · simp only [List.getElem?_cons_zero, List.getElem?_cons_succ, Option.some.injEq] at ho
              subst ho
              intro a W vs hB hS hE hU
              obtain ⟨r15, e90⟩ := hE 15 90 (by kernel_rfl) (by kernel_rfl)
              have v90 : a.eval (.tmp 90) = .bool false := e90.trans r15
              refine wpG_yes 15 false 90 rfl (by kernel_rfl) (by rw [hS]; first | simp | exact Nat.le_of_ble_eq_true rfl) v90 ?_
              have v13 : a.eval (.tmp 13) = .int .i64 (ix : Nat) := (hU 13 (by kernel_rfl)).trans rfl
              clear hE hU
              exact wp_value_inv (w' := W) (.int .i64 (ix : Nat)) (op_move rfl v13) ⟨_, rfl, hB, Fr.refl _ _, rfl, fun _ _ _ _ _ => trivial⟩
            · simp only [List.getElem?_cons_zero, List.getElem?_cons_succ, Option.some.injEq] at ho
              subst ho
              intro a W vs hB hS hE hU
              obtain ⟨r15, e90⟩ := hE 15 90 (by kernel_rfl) (by kernel_rfl)
              have v90 : a.eval (.tmp 90) = .bool false := e90.trans r15
              refine wpG_yes 15 false 90 rfl (by kernel_rfl) (by rw [hS]; first | simp | exact Nat.le_of_ble_eq_true rfl) v90 ?_
              obtain ⟨r17, e92⟩ := hE 17 92 (by kernel_rfl) (by kernel_rfl)
              have v92 : a.eval (.tmp 92) = .slice (some ⟨bq, oq, none⟩) m cu := e92.trans r17
              obtain ⟨r18, e93⟩ := hE 18 93 (by kernel_rfl) (by kernel_rfl)
              have v93 : a.eval (.tmp 93) = .int .i64 (ix : Nat) := e93.trans r18
              clear hE hU
              exact wp_value_inv (w' := W) (.pointer (some ⟨bq, oq + ix, none⟩)) (op_indexAddr rfl v92 v93 (run_index_ints W bq oq m cu ix HIXX.out)) ⟨_, rfl, hB, Fr.refl _ _, rfl, fun _ _ _ _ _ => trivial⟩
            · simp only [List.getElem?_cons_zero, List.getElem?_cons_succ, Option.some.injEq] at ho
              subst ho
              intro a W vs hB hS hE hU
              obtain ⟨r15, e90⟩ := hE 15 90 (by kernel_rfl) (by kernel_rfl)
              have v90 : a.eval (.tmp 90) = .bool false := e90.trans r15
              refine wpG_yes 15 false 90 rfl (by kernel_rfl) (by rw [hS]; first | simp | exact Nat.le_of_ble_eq_true rfl) v90 ?_
              obtain ⟨r19, e94⟩ := hE 19 94 (by kernel_rfl) (by kernel_rfl)
              have v94 : a.eval (.tmp 94) = .pointer (some ⟨bq, oq + ix, none⟩) := e94.trans r19
              clear hE hU
              exact wp_value_inv (w' := W) (.int .i64 (p : Nat)) (op_loadAt rfl v94 (LDP.out W hB)) ⟨_, rfl, hB, Fr.refl _ _, rfl, fun _ _ _ _ _ => trivial⟩
            · simp only [List.getElem?_cons_zero, List.getElem?_cons_succ, Option.some.injEq] at ho
              subst ho
              intro a W vs hB hS hE hU
              obtain ⟨r15, e90⟩ := hE 15 90 (by kernel_rfl) (by kernel_rfl)
              have v90 : a.eval (.tmp 90) = .bool false := e90.trans r15
              refine wpG_yes 15 false 90 rfl (by kernel_rfl) (by rw [hS]; first | simp | exact Nat.le_of_ble_eq_true rfl) v90 ?_
              have v7 : a.eval (.tmp 7) = .slice (some ⟨bq, oq, none⟩) m cu := (hU 7 (by kernel_rfl)).trans rfl
              clear hE hU
              exact wp_value_inv (w' := W) (.slice (some ⟨bq, oq, none⟩) m cu) (op_move rfl v7) ⟨_, rfl, hB, Fr.refl _ _, rfl, fun _ _ _ _ _ => trivial⟩
            · simp only [List.getElem?_cons_zero, List.getElem?_cons_succ, Option.some.injEq] at ho
              subst ho
              intro a W vs hB hS hE hU
              obtain ⟨r15, e90⟩ := hE 15 90 (by kernel_rfl) (by kernel_rfl)
              have v90 : a.eval (.tmp 90) = .bool false := e90.trans r15
              refine wpG_yes 15 false 90 rfl (by kernel_rfl) (by rw [hS]; first | simp | exact Nat.le_of_ble_eq_true rfl) v90 ?_
              have v13 : a.eval (.tmp 13) = .int .i64 (ix : Nat) := (hU 13 (by kernel_rfl)).trans rfl
              clear hE hU
              exact wp_value_inv (w' := W) (.int .i64 (ix : Nat)) (op_move rfl v13) ⟨_, rfl, hB, Fr.refl _ _, rfl, fun _ _ _ _ _ => trivial⟩
            · simp only [List.getElem?_cons_zero, List.getElem?_cons_succ, Option.some.injEq] at ho
              subst ho
              intro a W vs hB hS hE hU
              obtain ⟨r15, e90⟩ := hE 15 90 (by kernel_rfl) (by kernel_rfl)
              have v90 : a.eval (.tmp 90) = .bool false := e90.trans r15
              refine wpG_yes 15 false 90 rfl (by kernel_rfl) (by rw [hS]; first | simp | exact Nat.le_of_ble_eq_true rfl) v90 ?_
              obtain ⟨r21, e96⟩ := hE 21 96 (by kernel_rfl) (by kernel_rfl)
              have v96 : a.eval (.tmp 96) = .slice (some ⟨bq, oq, none⟩) m cu := e96.trans r21
              obtain ⟨r22, e97⟩ := hE 22 97 (by kernel_rfl) (by kernel_rfl)
              have v97 : a.eval (.tmp 97) = .int .i64 (ix : Nat) := e97.trans r22
              clear hE hU
              exact wp_value_inv (w' := W) (.pointer (some ⟨bq, oq + ix, none⟩)) (op_indexAddr rfl v96 v97 (run_index_ints W bq oq m cu ix HIXX.out)) ⟨_, rfl, hB, Fr.refl _ _, rfl, fun _ _ _ _ _ => trivial⟩
            · simp only [List.getElem?_cons_zero, List.getElem?_cons_succ, Option.some.injEq] at ho
              subst ho
              intro a W vs hB hS hE hU
              obtain ⟨r15, e90⟩ := hE 15 90 (by kernel_rfl) (by kernel_rfl)
              have v90 : a.eval (.tmp 90) = .bool false := e90.trans r15
              refine wpG_yes 15 false 90 rfl (by kernel_rfl) (by rw [hS]; first | simp | exact Nat.le_of_ble_eq_true rfl) v90 ?_
              obtain ⟨r23, e98⟩ := hE 23 98 (by kernel_rfl) (by kernel_rfl)
              have v98 : a.eval (.tmp 98) = .pointer (some ⟨bq, oq + ix, none⟩) := e98.trans r23
              clear hE hU
              exact wp_value_inv (w' := W) (.int .i64 (p : Nat)) (op_loadAt rfl v98 (LDP.out W hB)) ⟨_, rfl, hB, Fr.refl _ _, rfl, fun _ _ _ _ _ => trivial⟩
            · simp only [List.getElem?_cons_zero, List.getElem?_cons_succ, Option.some.injEq] at ho
              subst ho
              intro a W vs hB hS hE hU
              obtain ⟨r15, e90⟩ := hE 15 90 (by kernel_rfl) (by kernel_rfl)
              have v90 : a.eval (.tmp 90) = .bool false := e90.trans r15
              refine wpG_yes 15 false 90 rfl (by kernel_rfl) (by rw [hS]; first | simp | exact Nat.le_of_ble_eq_true rfl) v90 ?_
              obtain ⟨r24, e99⟩ := hE 24 99 (by kernel_rfl) (by kernel_rfl)
              have v99 : a.eval (.tmp 99) = .int .i64 (p : Nat) := e99.trans r24
              clear hE hU
              exact wp_value_inv (w' := W) (.int .i64 ((p + 32 : Nat) : Int)) (op_bin rfl v99 rfl (rfl) (add_in5 (by push_cast; rfl) (by omega) (by have := HPB.out; omega))) ⟨_, rfl, hB, Fr.refl _ _, rfl, fun _ _ _ _ _ => trivial⟩
            · simp only [List.getElem?_cons_zero, List.getElem?_cons_succ, Option.some.injEq] at ho
              subst ho
              intro a W vs hB hS hE hU
              obtain ⟨r15, e90⟩ := hE 15 90 (by kernel_rfl) (by kernel_rfl)
              have v90 : a.eval (.tmp 90) = .bool false := e90.trans r15
              refine wpG_yes 15 false 90 rfl (by kernel_rfl) (by rw [hS]; first | simp | exact Nat.le_of_ble_eq_true rfl) v90 ?_
              obtain ⟨r16, e91⟩ := hE 16 91 (by kernel_rfl) (by kernel_rfl)
              have v91 : a.eval (.tmp 91) = .slice ao n cap := e91.trans r16
              obtain ⟨r20, e95⟩ := hE 20 95 (by kernel_rfl) (by kernel_rfl)
              have v95 : a.eval (.tmp 95) = .int .i64 (p : Nat) := e95.trans r20
              obtain ⟨r25, e100⟩ := hE 25 100 (by kernel_rfl) (by kernel_rfl)
              have v100 : a.eval (.tmp 100) = .int .i64 ((p + 32 : Nat) : Int) := e100.trans r25
              clear hE hU
              exact wp_value_inv (w' := W) (.slice (cutLow ao p cap) 32 (cap - p)) (op_slice_mid rfl v91 v95 v100 (run_cut32 W ao n cap p HCP.out)) ⟨_, rfl, hB, Fr.refl _ _, rfl, fun _ _ _ _ _ => trivial⟩
            · simp only [List.getElem?_cons_zero, List.getElem?_cons_succ, Option.some.injEq] at ho
              subst ho
              intro a W vs hB hS hE hU
              obtain ⟨r15, e90⟩ := hE 15 90 (by kernel_rfl) (by kernel_rfl)
              have v90 : a.eval (.tmp 90) = .bool false := e90.trans r15
              refine wpG_yes 15 false 90 rfl (by kernel_rfl) (by rw [hS]; first | simp | exact Nat.le_of_ble_eq_true rfl) v90 ?_
              obtain ⟨r26, e101⟩ := hE 26 101 (by kernel_rfl) (by kernel_rfl)
              have v101 : a.eval (.tmp 101) = .slice (cutLow ao p cap) 32 (cap - p) := e101.trans r26
              clear hE hU
              exact wp_value_inv (w' := W) (.string S2) (op_convert10 rfl v101 (HCV.out W hB)) ⟨_, rfl, hB, Fr.refl _ _, rfl, fun _ _ _ _ _ => trivial⟩
            · simp only [List.getElem?_cons_zero, List.getElem?_cons_succ, Option.some.injEq] at ho
              subst ho
              intro a W vs hB hS hE hU
              obtain ⟨r15, e90⟩ := hE 15 90 (by kernel_rfl) (by kernel_rfl)
              have v90 : a.eval (.tmp 90) = .bool false := e90.trans r15
              refine wpG_yes 15 false 90 rfl (by kernel_rfl) (by rw [hS]; first | simp | exact Nat.le_of_ble_eq_true rfl) v90 ?_
              have v4 : a.eval (.tmp 4) = .pointer (some ⟨b4, 0, none⟩) := (hU 4 (by kernel_rfl)).trans rfl
              clear hE hU
              exact wp_value_inv (w' := W) (.agg C) (op_loadAt rfl v4 (LD4.out W hB)) ⟨_, rfl, hB, Fr.refl _ _, rfl, fun _ _ _ _ _ => trivial⟩
            · simp only [List.getElem?_cons_zero, List.getElem?_cons_succ, Option.some.injEq] at ho
              subst ho
              intro a W vs hB hS hE hU
              obtain ⟨r15, e90⟩ := hE 15 90 (by kernel_rfl) (by kernel_rfl)
              have v90 : a.eval (.tmp 90) = .bool false := e90.trans r15
              refine wpG_yes 15 false 90 rfl (by kernel_rfl) (by rw [hS]; first | simp | exact Nat.le_of_ble_eq_true rfl) v90 ?_
              obtain ⟨r28, e103⟩ := hE 28 103 (by kernel_rfl) (by kernel_rfl)
              have v103 : a.eval (.tmp 103) = .agg C := e103.trans r28
              clear hE hU
              refine wp_call_inv 9 #[.tmp 103] #[24] rfl #[.agg C] (by simp only [List.map_toArray, List.map_cons, List.map_nil, v103]) (ent_spence_base_Letters _) (Post := fun v W' => v = .string S ∧ Fr (fun _ => False) W W') ((HLE.out W).mono fun e w' h => ⟨_, h.1, rfl, h.2⟩) ?_
              rintro v W' ⟨rfl, hf⟩
              exact ⟨_, rfl, hB.trans hf (fun _ h => h.elim), hf, rfl, fun _ _ _ _ _ => trivial⟩
            · simp only [List.getElem?_cons_zero, List.getElem?_cons_succ, Option.some.injEq] at ho
              subst ho
              intro a W vs hB hS hE hU
              obtain ⟨r15, e90⟩ := hE 15 90 (by kernel_rfl) (by kernel_rfl)
              have v90 : a.eval (.tmp 90) = .bool false := e90.trans r15
              refine wpG_yes 15 false 90 rfl (by kernel_rfl) (by rw [hS]; first | simp | exact Nat.le_of_ble_eq_true rfl) v90 ?_
              obtain ⟨r27, e102⟩ := hE 27 102 (by kernel_rfl) (by kernel_rfl)
              have v102 : a.eval (.tmp 102) = .string S2 := e102.trans r27
              obtain ⟨r29, e104⟩ := hE 29 104 (by kernel_rfl) (by kernel_rfl)
              have v104 : a.eval (.tmp 104) = .string S := e104.trans r29
              clear hE hU
              exact wp_value_inv (w' := W) (.bool false) (op_bin rfl v102 v104 (guard_str W _ _ _ _ _) (by rw [HSS.out]; exact neq_str_no W _ _)) ⟨_, rfl, hB, Fr.refl _ _, rfl, fun _ _ _ _ _ => trivial⟩
            · simp only [List.getElem?_cons_zero, List.getElem?_cons_succ, Option.some.injEq] at ho
              subst ho
              intro a W vs hB hS hE hU
              refine wpG_plain rfl ?_
              obtain ⟨r15, e90⟩ := hE 15 90 (by kernel_rfl) (by kernel_rfl)
              have v90 : a.eval (.tmp 90) = .bool false := e90.trans r15
              obtain ⟨r30, e105⟩ := hE 30 105 (by kernel_rfl) (by kernel_rfl)
              have v105 : a.eval (.tmp 105) = .bool false := e105.trans r30
              clear hE hU
              exact wp_value_inv (w' := W) (.bool false) (op_pick rfl v90 (by simp only [Bool.false_eq_true, if_false]; exact v105)) ⟨_, rfl, hB, Fr.refl _ _, rfl, fun _ _ _ _ _ => trivial⟩
            · simp only [List.getElem?_cons_zero, List.getElem?_cons_succ, Option.some.injEq] at ho
              subst ho
              intro a W vs hB hS hE hU
              refine wpG_plain rfl ?_
              obtain ⟨r31, e106⟩ := hE 31 106 (by kernel_rfl) (by kernel_rfl)
              have v106 : a.eval (.tmp 106) = .bool false := e106.trans r31
              clear hE hU
              exact wp_value_inv (w' := W) (.bool false) (op_move rfl v106) ⟨_, rfl, hB, Fr.refl _ _, rfl, fun _ _ _ _ _ => trivial⟩
            · simp only [List.getElem?_cons_zero, List.getElem?_cons_succ, Option.some.injEq] at ho
              subst ho
              intro a W vs hB hS hE hU
              obtain ⟨r32, e107⟩ := hE 32 107 (by kernel_rfl) (by kernel_rfl)
              have v107 : a.eval (.tmp 107) = .bool false := e107.trans r32
              refine wpG_yes 32 false 107 rfl (by kernel_rfl) (by rw [hS]; first | simp | exact Nat.le_of_ble_eq_true rfl) v107 ?_
              have v13 : a.eval (.tmp 13) = .int .i64 (ix : Nat) := (hU 13 (by kernel_rfl)).trans rfl
              clear hE hU
              exact wp_value_inv (w' := W) (.int .i64 (ix : Nat)) (op_move rfl v13) ⟨_, rfl, hB, Fr.refl _ _, rfl, fun _ _ _ _ _ => trivial⟩
            · simp only [List.getElem?_cons_zero, List.getElem?_cons_succ, Option.some.injEq] at ho
              subst ho
              intro a W vs hB hS hE hU
              obtain ⟨r32, e107⟩ := hE 32 107 (by kernel_rfl) (by kernel_rfl)
              have v107 : a.eval (.tmp 107) = .bool false := e107.trans r32
              refine wpG_yes 32 false 107 rfl (by kernel_rfl) (by rw [hS]; first | simp | exact Nat.le_of_ble_eq_true rfl) v107 ?_
              obtain ⟨r33, e108⟩ := hE 33 108 (by kernel_rfl) (by kernel_rfl)
              have v108 : a.eval (.tmp 108) = .int .i64 (ix : Nat) := e108.trans r33
              clear hE hU
              exact wp_value_inv (w' := W) (.bool true) (op_bin rfl v108 rfl (rfl) (gtr_yes (by have := HI0.out; omega))) ⟨_, rfl, hB, Fr.refl _ _, rfl, fun _ _ _ _ _ => trivial⟩
            · simp only [List.getElem?_cons_zero, List.getElem?_cons_succ, Option.some.injEq] at ho
              subst ho
              intro a W vs hB hS hE hU
              obtain ⟨r32, e107⟩ := hE 32 107 (by kernel_rfl) (by kernel_rfl)
              have v107 : a.eval (.tmp 107) = .bool false := e107.trans r32
              refine wpG_yes 32 false 107 rfl (by kernel_rfl) (by rw [hS]; first | simp | exact Nat.le_of_ble_eq_true rfl) v107 ?_
              obtain ⟨r34, e109⟩ := hE 34 109 (by kernel_rfl) (by kernel_rfl)
              have v109 : a.eval (.tmp 109) = .bool true := e109.trans r34
              clear hE hU
              exact wp_value_inv (w' := W) (.bool true) (op_move rfl v109) ⟨_, rfl, hB, Fr.refl _ _, rfl, fun _ _ _ _ _ => trivial⟩
            · simp only [List.getElem?_cons_zero, List.getElem?_cons_succ, Option.some.injEq] at ho
              subst ho
              intro a W vs hB hS hE hU
              obtain ⟨r35, e110⟩ := hE 35 110 (by kernel_rfl) (by kernel_rfl)
              have v110 : a.eval (.tmp 110) = .bool true := e110.trans r35
              refine wpG_yes 35 true 110 rfl (by kernel_rfl) (by rw [hS]; first | simp | exact Nat.le_of_ble_eq_true rfl) v110 ?_
              have v7 : a.eval (.tmp 7) = .slice (some ⟨bq, oq, none⟩) m cu := (hU 7 (by kernel_rfl)).trans rfl
              clear hE hU
              exact wp_value_inv (w' := W) (.slice (some ⟨bq, oq, none⟩) m cu) (op_move rfl v7) ⟨_, rfl, hB, Fr.refl _ _, rfl, fun _ _ _ _ _ => trivial⟩
            · simp only [List.getElem?_cons_zero, List.getElem?_cons_succ, Option.some.injEq] at ho
              subst ho
              intro a W vs hB hS hE hU
              obtain ⟨r35, e110⟩ := hE 35 110 (by kernel_rfl) (by kernel_rfl)
              have v110 : a.eval (.tmp 110) = .bool true := e110.trans r35
              refine wpG_yes 35 true 110 rfl (by kernel_rfl) (by rw [hS]; first | simp | exact Nat.le_of_ble_eq_true rfl) v110 ?_
              have v13 : a.eval (.tmp 13) = .int .i64 (ix : Nat) := (hU 13 (by kernel_rfl)).trans rfl
              clear hE hU
              exact wp_value_inv (w' := W) (.int .i64 (ix : Nat)) (op_move rfl v13) ⟨_, rfl, hB, Fr.refl _ _, rfl, fun _ _ _ _ _ => trivial⟩
            · simp only [List.getElem?_cons_zero, List.getElem?_cons_succ, Option.some.injEq] at ho
              subst ho
              intro a W vs hB hS hE hU
              obtain ⟨r35, e110⟩ := hE 35 110 (by kernel_rfl) (by kernel_rfl)
              have v110 : a.eval (.tmp 110) = .bool true := e110.trans r35
              refine wpG_yes 35 true 110 rfl (by kernel_rfl) (by rw [hS]; first | simp | exact Nat.le_of_ble_eq_true rfl) v110 ?_
              obtain ⟨r36, e111⟩ := hE 36 111 (by kernel_rfl) (by kernel_rfl)
              have v111 : a.eval (.tmp 111) = .slice (some ⟨bq, oq, none⟩) m cu := e111.trans r36
              obtain ⟨r37, e112⟩ := hE 37 112 (by kernel_rfl) (by kernel_rfl)
              have v112 : a.eval (.tmp 112) = .int .i64 (ix : Nat) := e112.trans r37
              clear hE hU
              exact wp_value_inv (w' := W) (.pointer (some ⟨bq, oq + ix, none⟩)) (op_indexAddr rfl v111 v112 (run_index_ints W bq oq m cu ix HIXX.out)) ⟨_, rfl, hB, Fr.refl _ _, rfl, fun _ _ _ _ _ => trivial⟩
            · simp only [List.getElem?_cons_zero, List.getElem?_cons_succ, Option.some.injEq] at ho
              subst ho
              intro a W vs hB hS hE hU
              obtain ⟨r35, e110⟩ := hE 35 110 (by kernel_rfl) (by kernel_rfl)
              have v110 : a.eval (.tmp 110) = .bool true := e110.trans r35
              refine wpG_yes 35 true 110 rfl (by kernel_rfl) (by rw [hS]; first | simp | exact Nat.le_of_ble_eq_true rfl) v110 ?_
              obtain ⟨r38, e113⟩ := hE 38 113 (by kernel_rfl) (by kernel_rfl)
              have v113 : a.eval (.tmp 113) = .pointer (some ⟨bq, oq + ix, none⟩) := e113.trans r38
              clear hE hU
              exact wp_value_inv (w' := W) (.int .i64 (p : Nat)) (op_loadAt rfl v113 (LDP.out W hB)) ⟨_, rfl, hB, Fr.refl _ _, rfl, fun _ _ _ _ _ => trivial⟩
            · simp only [List.getElem?_cons_zero, List.getElem?_cons_succ, Option.some.injEq] at ho
              subst ho
              intro a W vs hB hS hE hU
              obtain ⟨r35, e110⟩ := hE 35 110 (by kernel_rfl) (by kernel_rfl)
              have v110 : a.eval (.tmp 110) = .bool true := e110.trans r35
              refine wpG_yes 35 true 110 rfl (by kernel_rfl) (by rw [hS]; first | simp | exact Nat.le_of_ble_eq_true rfl) v110 ?_
              have v7 : a.eval (.tmp 7) = .slice (some ⟨bq, oq, none⟩) m cu := (hU 7 (by kernel_rfl)).trans rfl
              clear hE hU
              exact wp_value_inv (w' := W) (.slice (some ⟨bq, oq, none⟩) m cu) (op_move rfl v7) ⟨_, rfl, hB, Fr.refl _ _, rfl, fun _ _ _ _ _ => trivial⟩
            · simp only [List.getElem?_cons_zero, List.getElem?_cons_succ, Option.some.injEq] at ho
              subst ho
              intro a W vs hB hS hE hU
              obtain ⟨r35, e110⟩ := hE 35 110 (by kernel_rfl) (by kernel_rfl)
              have v110 : a.eval (.tmp 110) = .bool true := e110.trans r35
              refine wpG_yes 35 true 110 rfl (by kernel_rfl) (by rw [hS]; first | simp | exact Nat.le_of_ble_eq_true rfl) v110 ?_
              have v13 : a.eval (.tmp 13) = .int .i64 (ix : Nat) := (hU 13 (by kernel_rfl)).trans rfl
              clear hE hU
              exact wp_value_inv (w' := W) (.int .i64 (ix : Nat)) (op_move rfl v13) ⟨_, rfl, hB, Fr.refl _ _, rfl, fun _ _ _ _ _ => trivial⟩
            · simp only [List.getElem?_cons_zero, List.getElem?_cons_succ, Option.some.injEq] at ho
              subst ho
              intro a W vs hB hS hE hU
              obtain ⟨r35, e110⟩ := hE 35 110 (by kernel_rfl) (by kernel_rfl)
              have v110 : a.eval (.tmp 110) = .bool true := e110.trans r35
              refine wpG_yes 35 true 110 rfl (by kernel_rfl) (by rw [hS]; first | simp | exact Nat.le_of_ble_eq_true rfl) v110 ?_
              obtain ⟨r41, e116⟩ := hE 41 116 (by kernel_rfl) (by kernel_rfl)
              have v116 : a.eval (.tmp 116) = .int .i64 (ix : Nat) := e116.trans r41
              clear hE hU
              exact wp_value_inv (w' := W) (.int .i64 (jx : Nat)) (op_bin rfl v116 rfl (rfl) (sub_in5 (by have := HI0.out; omega) (by omega) (by have := HJXX.out; have := HM6.out; omega))) ⟨_, rfl, hB, Fr.refl _ _, rfl, fun _ _ _ _ _ => trivial⟩
            · simp only [List.getElem?_cons_zero, List.getElem?_cons_succ, Option.some.injEq] at ho
              subst ho
              intro a W vs hB hS hE hU
              obtain ⟨r35, e110⟩ := hE 35 110 (by kernel_rfl) (by kernel_rfl)
              have v110 : a.eval (.tmp 110) = .bool true := e110.trans r35
              refine wpG_yes 35 true 110 rfl (by kernel_rfl) (by rw [hS]; first | simp | exact Nat.le_of_ble_eq_true rfl) v110 ?_
              obtain ⟨r40, e115⟩ := hE 40 115 (by kernel_rfl) (by kernel_rfl)
              have v115 : a.eval (.tmp 115) = .slice (some ⟨bq, oq, none⟩) m cu := e115.trans r40
              obtain ⟨r42, e117⟩ := hE 42 117 (by kernel_rfl) (by kernel_rfl)
              have v117 : a.eval (.tmp 117) = .int .i64 (jx : Nat) := e117.trans r42
              clear hE hU
              exact wp_value_inv (w' := W) (.pointer (some ⟨bq, oq + jx, none⟩)) (op_indexAddr rfl v115 v117 (run_index_ints W bq oq m cu jx HJXX.out)) ⟨_, rfl, hB, Fr.refl _ _, rfl, fun _ _ _ _ _ => trivial⟩
            · simp only [List.getElem?_cons_zero, List.getElem?_cons_succ, Option.some.injEq] at ho
              subst ho
              intro a W vs hB hS hE hU
              obtain ⟨r35, e110⟩ := hE 35 110 (by kernel_rfl) (by kernel_rfl)
              have v110 : a.eval (.tmp 110) = .bool true := e110.trans r35
              refine wpG_yes 35 true 110 rfl (by kernel_rfl) (by rw [hS]; first | simp | exact Nat.le_of_ble_eq_true rfl) v110 ?_
              obtain ⟨r43, e118⟩ := hE 43 118 (by kernel_rfl) (by kernel_rfl)
              have v118 : a.eval (.tmp 118) = .pointer (some ⟨bq, oq + jx, none⟩) := e118.trans r43
              clear hE hU
              exact wp_value_inv (w' := W) (.int .i64 (q : Nat)) (op_loadAt rfl v118 (LDQ.out W hB)) ⟨_, rfl, hB, Fr.refl _ _, rfl, fun _ _ _ _ _ => trivial⟩
            · simp only [List.getElem?_cons_zero, List.getElem?_cons_succ, Option.some.injEq] at ho
              subst ho
              intro a W vs hB hS hE hU
              obtain ⟨r35, e110⟩ := hE 35 110 (by kernel_rfl) (by kernel_rfl)
              have v110 : a.eval (.tmp 110) = .bool true := e110.trans r35
              refine wpG_yes 35 true 110 rfl (by kernel_rfl) (by rw [hS]; first | simp | exact Nat.le_of_ble_eq_true rfl) v110 ?_
              obtain ⟨r44, e119⟩ := hE 44 119 (by kernel_rfl) (by kernel_rfl)
              have v119 : a.eval (.tmp 119) = .int .i64 (q : Nat) := e119.trans r44
              clear hE hU
              exact wp_value_inv (w' := W) (.int .i64 ((q + 32 : Nat) : Int)) (op_bin rfl v119 rfl (rfl) (add_in5 (by push_cast; rfl) (by omega) (by have := HPB.out; have := HQP.out; omega))) ⟨_, rfl, hB, Fr.refl _ _, rfl, fun _ _ _ _ _ => trivial⟩
            · simp only [List.getElem?_cons_zero, List.getElem?_cons_succ, Option.some.injEq] at ho
              subst ho
              intro a W vs hB hS hE hU
              obtain ⟨r35, e110⟩ := hE 35 110 (by kernel_rfl) (by kernel_rfl)
              have v110 : a.eval (.tmp 110) = .bool true := e110.trans r35
              refine wpG_yes 35 true 110 rfl (by kernel_rfl) (by rw [hS]; first | simp | exact Nat.le_of_ble_eq_true rfl) v110 ?_
              obtain ⟨r39, e114⟩ := hE 39 114 (by kernel_rfl) (by kernel_rfl)
              have v114 : a.eval (.tmp 114) = .int .i64 (p : Nat) := e114.trans r39
              obtain ⟨r45, e120⟩ := hE 45 120 (by kernel_rfl) (by kernel_rfl)
              have v120 : a.eval (.tmp 120) = .int .i64 ((q + 32 : Nat) : Int) := e120.trans r45
              clear hE hU
              exact wp_value_inv (w' := W) (.bool false) (op_bin rfl v114 v120 (rfl) (lss_no (by have := HQP.out; omega))) ⟨_, rfl, hB, Fr.refl _ _, rfl, fun _ _ _ _ _ => trivial⟩
            · simp only [List.getElem?_cons_zero, List.getElem?_cons_succ, Option.some.injEq] at ho
              subst ho
              intro a W vs hB hS hE hU
              obtain ⟨r32, e107⟩ := hE 32 107 (by kernel_rfl) (by kernel_rfl)
              have v107 : a.eval (.tmp 107) = .bool false := e107.trans r32
              refine wpG_yes 32 false 107 rfl (by kernel_rfl) (by rw [hS]; first | simp | exact Nat.le_of_ble_eq_true rfl) v107 ?_
              obtain ⟨r35, e110⟩ := hE 35 110 (by kernel_rfl) (by kernel_rfl)
              have v110 : a.eval (.tmp 110) = .bool true := e110.trans r35
              obtain ⟨r46, e121⟩ := hE 46 121 (by kernel_rfl) (by kernel_rfl)
              have v121 : a.eval (.tmp 121) = .bool false := e121.trans r46
              clear hE hU
              exact wp_value_inv (w' := W) (.bool false) (op_pick rfl v110 (by simp only [if_true]; exact v121)) ⟨_, rfl, hB, Fr.refl _ _, rfl, fun _ _ _ _ _ => trivial⟩
          · intro vs Wa hB0 hR0 hD
            have r107 : vs 32 = .bool false := hR0 32 (by decide)
            have r122 : vs 47 = .bool false := hR0 47 (by decide)
            have HB := Lib.hid hB0
            clear hR0 hD hB0
            simp only [acts, if_true, dstAt, List.getElem?_cons_zero, List.getElem?_cons_succ, Option.bind_some, Act.put, List.setIfInBounds_toArray, List.set_cons_succ, List.set_cons_zero, List.drop_succ_cons]
            simp only [r107, r122]
            clear r107 r122
            go_wp2_with fail
            go_loopw [14] (fun kv wk => ∃ k : Nat, k ≤ 32 ∧ kv = .int .i64 k ∧ Hid (Fr (· = g9) W9 wk ∧ IntT wk g9 n (covP (covR (L.take ix)) p k))) (fun kv _ => 32 - (intOf kv).toNat)
            case atStart => exact ⟨0, by omega, rfl, Lib.hid ⟨(hR.out.1.trans HB.out (fun _ h => h.elim)), ((hR.out.2.keep HB.out (fun h => h)).congr (fun x => (covP_zero _ _ _).symm))⟩⟩
            case round =>
              obtain ⟨k, hk, rfl, hQ⟩ := hrel
              by_cases hltk : k < 32
              · have kp2 : wr.cell? ⟨bq, oq + ix, none⟩ = some (.int .i64 (p : Nat)) := hQ.out.1.cell (by rw [HP.out]; exact HCQ.out ix hiL) (fun e => by have e' : bq = g9 := e; have := HBQ.out; omega)
                obtain ⟨y, hy⟩ : ∃ y, y = p + k := ⟨_, rfl⟩
                have hyn : y < n := by have := HPB.out; omega
                have hyk : (p : Int) + (k : Int) = (y : Nat) := by omega
                have kc := hQ.out.2.cell y hyn
                have kf := hQ.out.2.free y
                have hpn2 : p + 32 ≤ n := HPB.out.1
                have hy6 : y ≤ 3000 := by omega
                have hlk : (k : Int) < 32 := by omega
                have HY := Lib.hid hy
                have hixm : ix < m := HIXX.out
                clear hy
                go_wp2_with fail
                go_roundw
                case rel =>
                  refine ⟨k + 1, by omega, by go_num, Lib.hid ⟨hQ.out.1.trans (Fr.cell1 _ g9 y _) (fun k e => .inl e), ?_⟩⟩
                  exact hQ.out.2.set_ y (k + 1) hyn (by rw [HY.out]; exact covP_here _ _ _) (fun x hx => covP_else _ _ _ _ (by rw [← HY.out]; exact hx))
                case measure => simp [intOf]; omega
              · obtain rfl : k = 32 := by omega
                have hlk : ¬ ((32 : Nat) : Int) < 32 := by omega
                have hixm : ix < m := HIXX.out
                go_wp2_with fail
                go_roundw
                case rel => exact ⟨ix + 1, by omega, by go_num, Lib.hid ⟨hQ.out.1, hQ.out.2.congr (fun x => covP_all hiL HP.out x)⟩⟩
                case measure => simp [intOf]; omega
      · obtain rfl : m = ix := by omega
        have hnlt : ¬ (m : Int) < (m : Int) := by omega
        have hLl : L.length = m := HL.out.2.2.2.2.2.2.2.symm
        have HE := Lib.hid (show Fr (· = g9) W9 wr ∧ IntT wr g9 n (covR L) from ⟨hR.out.1, by have h := hR.out.2; rw [List.take_of_length_le (by omega)] at h; exact h⟩)
        clear hR hLl hlt
        go_wp2_with fail
        generalize hwe : wr = WE at *
        clear hwe
        go_loopw [15, 16, 17] (fun iv av cv wk => ∃ k : Nat, k ≤ n ∧ iv = .int .i64 k ∧ Hid (Fr (fun _ => False) WE wk)) (fun iv _ _ _ => n - (intOf iv).toNat)
        case atStart => exact ⟨0, by omega, rfl, Lib.hid (Fr.refl _ _)⟩
        case round =>
          obtain ⟨kx, hk, rfl, hQ⟩ := hrel
          by_cases hltk : kx < n
          · have hfk : Fr (· = g9) W9 wr := HE.out.1.trans hQ.out (fun _ h => h.elim)
            have hkb : kx < b.length := by rw [← HN.out]; exact hltk
            obtain ⟨bb, ob, cb, hvb, -, -, hgb, hcb⟩ := HB9.out.1.plain (fun e => by rw [e] at hkb; simp at hkb)
            obtain ⟨bx, ox, cbx, hvx, -, -, hgx, hcx⟩ := HB9.out.2.2.1.plain (fun e => by have := HL.out.2.2.2.2.2.1; rw [e] at this; simp at this; omega)
            obtain ⟨by', oy, cby, hvy, -, -, hgy, hcy⟩ := HB9.out.2.2.2.plain (fun e => by have := HL.out.2.2.2.2.2.2.1; rw [e] at this; simp at this; omega)
            simp only [Value.slice.injEq] at hvb hvx hvy
            obtain ⟨rfl, -, rfl⟩ := hvb
            obtain ⟨rfl, -, rfl⟩ := hvx
            obtain ⟨rfl, -, rfl⟩ := hvy
            have hgt : ∀ k, k < g9 → ¬ k = g9 := fun k h e => by omega
            have kb := hfk.cell (hcb kx hkb) (hgt _ hgb)
            have kx1 := hfk.cell (hcx kx (by rw [HL.out.2.2.2.2.2.1]; exact hltk)) (hgt _ hgx)
            have ky1 := hfk.cell (hcy kx (by rw [HL.out.2.2.2.2.2.2.1]; exact hltk)) (hgt _ hgy)
            have ki := (HE.out.2.keep hQ.out (fun h => h)).cell kx hltk
            rw [withR_at (letL_length K) HL.out.2.1 kx hkb] at kx1
            rw [withR_at (by simp) HL.out.2.1 kx hkb] at ky1
            obtain ⟨c, hc⟩ : ∃ c, c = covR L kx := ⟨_, rfl⟩
            have hc32 : c ≤ 32 := by rw [hc]; exact covR_le L kx
            rw [← hc] at ki kx1 ky1
            have hltk64 : (kx : Int) < (n : Int) := by omega
            have hkn : kx < n := hltk
            obtain ⟨tb, htb⟩ : ∃ tb : Int, tb = (b[kx].toNat : Nat) := ⟨_, rfl⟩
            have kb' : wr.cell? ⟨bb, ob + kx, none⟩ = some (.int .u8 tb) := by rw [htb]; exact kb
            by_cases hc0 : c = 0
            · rw [if_pos hc0] at kx1 ky1
              have kx' : wr.cell? ⟨bx, ox + kx, none⟩ = some (.int .u8 tb) := by rw [htb]; exact kx1
              have ky' : wr.cell? ⟨by', oy + kx, none⟩ = some (.int .u8 tb) := by rw [htb]; exact ky1
              have ki' : wr.cell? ⟨g9, kx, none⟩ = some (.int .i64 0) := by rw [ki, hc0]; rfl
              clear kb kx1 ky1 ki hc hc0 hgt hgb hgx hgy hcb hcx hcy hfk htb hc32
              go_wp2_with fail
              go_quiet (fail)
              go_wp2_with fail
              go_roundw
              case rel => exact ⟨kx + 1, by omega, by go_num, Lib.hid (hQ.out.drewN nq)⟩
              case measure => simp [intOf]; omega
            · rw [if_neg hc0] at kx1 ky1
              rw [nought_get] at ky1
              obtain ⟨d, hd⟩ : ∃ d, d = c - 1 := ⟨_, rfl⟩
              have hd32 : d < 32 := by omega
              have hdI : (c : Int) - 1 = (d : Nat) := by omega
              have hc1 : (0 : Int) < (c : Int) := by omega
              rw [← hd] at kx1
              have ky' : wr.cell? ⟨by', oy + kx, none⟩ = some (.int .u8 0) := ky1
              have hss : (⟨(letL K).toArray⟩ : ByteArray).size = 32 := by rw [str_size, letL_length]
              have kx' : wr.cell? ⟨bx, ox + kx, none⟩ = some (.int .u8 (((⟨(letL K).toArray⟩ : ByteArray)[d]'(by rw [hss]; exact hd32)).toNat : Nat)) := by rw [str_at10]; exact kx1
              clear kb kx1 ky1 hc hc0 hgt hgb hgx hgy hcb hcx hcy hfk htb hc32 hd
              go_wp2_with fail
              go_quiet (fail)
              go_wp2_with fail
              go_roundw
              case rel => exact ⟨kx + 1, by omega, by go_num, Lib.hid (hQ.out.drewN nq)⟩
              case measure => simp [intOf]; omega
          · obtain rfl : n = kx := by omega
            have hnk : ¬ (n : Int) < (n : Int) := by omega
            have HWE := Lib.hid hQ.out
            clear hQ hltk hk
            go_wp2_with fail
            generalize hwf : wr = WF at *
            clear hwf hnlt hnk
            go_loopw [18] (fun iv wk => ∃ k : Nat, k ≤ n ∧ iv = .int .i64 k ∧ Hid (Fr (fun _ => False) WF wk)) (fun iv _ => n - (intOf iv).toNat)
            case atStart => exact ⟨0, by omega, rfl, Lib.hid (Fr.refl _ _)⟩
            case round =>
              obtain ⟨kx, hk, rfl, hQ⟩ := hrel
              by_cases hltk : kx + 32 ≤ n
              · have hlt64 : (kx : Int) + 32 ≤ (n : Int) := by omega
                by_cases hm0 : m = 0
                · have hL0 : L = [] := List.eq_nil_of_length_eq_zero (by have := HL.out.2.2.2.2.2.2.2; omega)
                  have hno : occR b (letL H) kx = false := by
                    cases hq : occR b (letL H) kx with
                    | false => rfl
                    | true =>
                      have h1 := placesR_none (letL_length H) hq
                      rw [← HL.out.1] at h1
                      exact absurd hL0 h1
                  obtain ⟨S, hS⟩ : ∃ S : ByteArray, S = ⟨(letL H).toArray⟩ := ⟨_, rfl⟩
                  obtain ⟨S2, hS2⟩ : ∃ S2 : ByteArray, S2 = ⟨((b.drop kx).take 32).toArray⟩ := ⟨_, rfl⟩
                  have HSS := Lib.hid (show S2 ≠ S by
                    rw [hS2, hS]
                    intro e
                    have e2 : (b.drop kx).take 32 = letL H := by
                      have := congrArg (fun s : ByteArray => s.data.toList) e
                      simpa using this
                    unfold occR at hno
                    rw [decide_eq_true e2] at hno
                    cases hno)
                  have hfk : Fr (· = g9) W9 wr := (HE.out.1.trans HWE.out (fun _ h => h.elim)).trans hQ.out (fun _ h => h.elim)
                  have k4 := hfk.heap H9.out.2.1 (fun e => by have e' : b4 = g9 := e; have := H9.out.2.2.1.1; omega)
                  have kb := HB9.out.1.keep hfk (fun k _ hk e => by have e' : k = g9 := e; omega)
                  have hcs : C.size = 20 := by rw [HCD.out.1]; simp [HCD.out.2.2.1]
                  have LD4 := Lib.hid (fun W (hW : Fr (fun _ => False) wr W) => load_hash10 W b4 C (hW.heap k4 (fun h => h)) hcs)
                  have HLE := Lib.hid (fun (W : World) => show Calls Try.prog 9 #[.agg C] W fun e w' => e = .returned (.string S) ∧ Fr (fun _ => False) W w' by rw [HCD.out.1, hS]; exact bLetters_any H HCD.out.2.2.1 W)
                  have HCV := Lib.hid (fun W (hW : Fr (fun _ => False) wr W) => show (convert 22 9 (.slice (cutLow ao kx cap) 32 (cap - kx))).run Try.prog W = .ok (.string S2) W by rw [hS2]; exact run_str32 W ao n cap kx b (kb.quiet9 hW) (by rw [← HN.out]; exact hltk))
                  have HPB := Lib.hid (show kx + 32 ≤ n ∧ n ≤ 3000 from ⟨hltk, hnn⟩)
                  have HCP := Lib.hid (show kx + 32 ≤ cap by have := HN9.out; omega)
                  have HM0 := Lib.hid (show ((m : Nat) : Int) = 0 by omega)
                  clear hL0 hno hfk k4 kb hcs hS hS2 hm0
                  go_wp2_with fail
                  refine wp_region_inv 13 (by kernel_rfl) (by kernel_rfl) (fun W => Fr (fun _ => False) wr W) (TvR ao au n cap b4 m cu kx C S S2) (fun _ _ _ _ => True) (Fr (fun _ => False)) (TvR.ext ao au n cap b4 m cu kx C S S2) (Fr.refl _ _).drew ?_ ?_
                  · intro i hi o ho
                    replace hi : i < 13 := hi
                    obtain rfl | rfl | rfl | rfl | rfl | rfl | rfl | rfl | rfl | rfl | rfl | rfl | rfl : i = 0 ∨ i = 1 ∨ i = 2 ∨ i = 3 ∨ i = 4 ∨ i = 5 ∨ i = 6 ∨ i = 7 ∨ i = 8 ∨ i = 9 ∨ i = 10 ∨ i = 11 ∨ i = 12 := by omega
                    · simp only [List.getElem?_cons_zero, Option.some.injEq] at ho
                      subst ho
                      intro a W vs hB hS hE hU
                      refine wpG_plain rfl ?_
                      have v7 : a.eval (.tmp 7) = .slice au m cu := (hU 7 (by kernel_rfl)).trans rfl
                      clear hE hU
                      exact wp_value_inv (w' := W) (.slice au m cu) (op_move rfl v7) ⟨_, rfl, hB, Fr.refl _ _, rfl, fun _ _ _ _ _ => trivial⟩
                    · simp only [List.getElem?_cons_zero, List.getElem?_cons_succ, Option.some.injEq] at ho
                      subst ho
                      intro a W vs hB hS hE hU
                      refine wpG_plain rfl ?_
                      obtain ⟨r0, e185⟩ := hE 0 185 (by kernel_rfl) (by kernel_rfl)
                      have v185 : a.eval (.tmp 185) = .slice au m cu := e185.trans r0
                      clear hE hU
                      exact wp_value_inv (w' := W) (.int .i64 (m : Nat)) (op_lenI rfl v185) ⟨_, rfl, hB, Fr.refl _ _, rfl, fun _ _ _ _ _ => trivial⟩
                    · simp only [List.getElem?_cons_zero, List.getElem?_cons_succ, Option.some.injEq] at ho
                      subst ho
                      intro a W vs hB hS hE hU
                      refine wpG_plain rfl ?_
                      obtain ⟨r1, e186⟩ := hE 1 186 (by kernel_rfl) (by kernel_rfl)
                      have v186 : a.eval (.tmp 186) = .int .i64 (m : Nat) := e186.trans r1
                      clear hE hU
                      exact wp_value_inv (w' := W) (.bool true) (op_bin rfl v186 rfl (guard_int W _ _ _ _ _ _ _) (by rw [HM0.out]; exact eql_yes)) ⟨_, rfl, hB, Fr.refl _ _, rfl, fun _ _ _ _ _ => trivial⟩
                    · simp only [List.getElem?_cons_zero, List.getElem?_cons_succ, Option.some.injEq] at ho
                      subst ho
                      intro a W vs hB hS hE hU
                      refine wpG_plain rfl ?_
                      obtain ⟨r2, e187⟩ := hE 2 187 (by kernel_rfl) (by kernel_rfl)
                      have v187 : a.eval (.tmp 187) = .bool true := e187.trans r2
                      clear hE hU
                      exact wp_value_inv (w' := W) (.bool true) (op_move rfl v187) ⟨_, rfl, hB, Fr.refl _ _, rfl, fun _ _ _ _ _ => trivial⟩
                    · simp only [List.getElem?_cons_zero, List.getElem?_cons_succ, Option.some.injEq] at ho
                      subst ho
                      intro a W vs hB hS hE hU
                      obtain ⟨r3, e188⟩ := hE 3 188 (by kernel_rfl) (by kernel_rfl)
                      have v188 : a.eval (.tmp 188) = .bool true := e188.trans r3
                      refine wpG_yes 3 true 188 rfl (by kernel_rfl) (by rw [hS]; first | simp | exact Nat.le_of_ble_eq_true rfl) v188 ?_
                      have v0 : a.eval (.tmp 0) = .slice ao n cap := (hU 0 (by kernel_rfl)).trans rfl
                      clear hE hU
                      exact wp_value_inv (w' := W) (.slice ao n cap) (op_move rfl v0) ⟨_, rfl, hB, Fr.refl _ _, rfl, fun _ _ _ _ _ => trivial⟩
                    · simp only [List.getElem?_cons_zero, List.getElem?_cons_succ, Option.some.injEq] at ho
                      subst ho
                      intro a W vs hB hS hE hU
                      obtain ⟨r3, e188⟩ := hE 3 188 (by kernel_rfl) (by kernel_rfl)
                      have v188 : a.eval (.tmp 188) = .bool true := e188.trans r3
                      refine wpG_yes 3 true 188 rfl (by kernel_rfl) (by rw [hS]; first | simp | exact Nat.le_of_ble_eq_true rfl) v188 ?_
                      have v18 : a.eval (.tmp 18) = .int .i64 (kx : Nat) := (hU 18 (by kernel_rfl)).trans rfl
                      clear hE hU
                      exact wp_value_inv (w' := W) (.int .i64 (kx : Nat)) (op_move rfl v18) ⟨_, rfl, hB, Fr.refl _ _, rfl, fun _ _ _ _ _ => trivial⟩
                    · simp only [List.getElem?_cons_zero, List.getElem?_cons_succ, Option.some.injEq] at ho
                      subst ho
                      intro a W vs hB hS hE hU
                      obtain ⟨r3, e188⟩ := hE 3 188 (by kernel_rfl) (by kernel_rfl)
                      have v188 : a.eval (.tmp 188) = .bool true := e188.trans r3
                      refine wpG_yes 3 true 188 rfl (by kernel_rfl) (by rw [hS]; first | simp | exact Nat.le_of_ble_eq_true rfl) v188 ?_
                      have v18 : a.eval (.tmp 18) = .int .i64 (kx : Nat) := (hU 18 (by kernel_rfl)).trans rfl
                      clear hE hU
                      exact wp_value_inv (w' := W) (.int .i64 (kx : Nat)) (op_move rfl v18) ⟨_, rfl, hB, Fr.refl _ _, rfl, fun _ _ _ _ _ => trivial⟩
                    · simp only [List.getElem?_cons_zero, List.getElem?_cons_succ, Option.some.injEq] at ho
                      subst ho
                      intro a W vs hB hS hE hU
                      obtain ⟨r3, e188⟩ := hE 3 188 (by kernel_rfl) (by kernel_rfl)
                      have v188 : a.eval (.tmp 188) = .bool true := e188.trans r3
                      refine wpG_yes 3 true 188 rfl (by kernel_rfl) (by rw [hS]; first | simp | exact Nat.le_of_ble_eq_true rfl) v188 ?_
                      obtain ⟨r6, e191⟩ := hE 6 191 (by kernel_rfl) (by kernel_rfl)
                      have v191 : a.eval (.tmp 191) = .int .i64 (kx : Nat) := e191.trans r6
                      clear hE hU
                      exact wp_value_inv (w' := W) (.int .i64 ((kx + 32 : Nat) : Int)) (op_bin rfl v191 rfl (rfl) (add_in5 (by push_cast; rfl) (by omega) (by have := HPB.out; omega))) ⟨_, rfl, hB, Fr.refl _ _, rfl, fun _ _ _ _ _ => trivial⟩
                    · simp only [List.getElem?_cons_zero, List.getElem?_cons_succ, Option.some.injEq] at ho
                      subst ho
                      intro a W vs hB hS hE hU
                      obtain ⟨r3, e188⟩ := hE 3 188 (by kernel_rfl) (by kernel_rfl)
                      have v188 : a.eval (.tmp 188) = .bool true := e188.trans r3
                      refine wpG_yes 3 true 188 rfl (by kernel_rfl) (by rw [hS]; first | simp | exact Nat.le_of_ble_eq_true rfl) v188 ?_
                      obtain ⟨r4, e189⟩ := hE 4 189 (by kernel_rfl) (by kernel_rfl)
                      have v189 : a.eval (.tmp 189) = .slice ao n cap := e189.trans r4
                      obtain ⟨r5, e190⟩ := hE 5 190 (by kernel_rfl) (by kernel_rfl)
                      have v190 : a.eval (.tmp 190) = .int .i64 (kx : Nat) := e190.trans r5
                      obtain ⟨r7, e192⟩ := hE 7 192 (by kernel_rfl) (by kernel_rfl)
                      have v192 : a.eval (.tmp 192) = .int .i64 ((kx + 32 : Nat) : Int) := e192.trans r7
                      clear hE hU
                      exact wp_value_inv (w' := W) (.slice (cutLow ao kx cap) 32 (cap - kx)) (op_slice_mid rfl v189 v190 v192 (run_cut32 W ao n cap kx HCP.out)) ⟨_, rfl, hB, Fr.refl _ _, rfl, fun _ _ _ _ _ => trivial⟩
                    · simp only [List.getElem?_cons_zero, List.getElem?_cons_succ, Option.some.injEq] at ho
                      subst ho
                      intro a W vs hB hS hE hU
                      obtain ⟨r3, e188⟩ := hE 3 188 (by kernel_rfl) (by kernel_rfl)
                      have v188 : a.eval (.tmp 188) = .bool true := e188.trans r3
                      refine wpG_yes 3 true 188 rfl (by kernel_rfl) (by rw [hS]; first | simp | exact Nat.le_of_ble_eq_true rfl) v188 ?_
                      obtain ⟨r8, e193⟩ := hE 8 193 (by kernel_rfl) (by kernel_rfl)
                      have v193 : a.eval (.tmp 193) = .slice (cutLow ao kx cap) 32 (cap - kx) := e193.trans r8
                      clear hE hU
                      exact wp_value_inv (w' := W) (.string S2) (op_convert10 rfl v193 (HCV.out W hB)) ⟨_, rfl, hB, Fr.refl _ _, rfl, fun _ _ _ _ _ => trivial⟩
                    · simp only [List.getElem?_cons_zero, List.getElem?_cons_succ, Option.some.injEq] at ho
                      subst ho
                      intro a W vs hB hS hE hU
                      obtain ⟨r3, e188⟩ := hE 3 188 (by kernel_rfl) (by kernel_rfl)
                      have v188 : a.eval (.tmp 188) = .bool true := e188.trans r3
                      refine wpG_yes 3 true 188 rfl (by kernel_rfl) (by rw [hS]; first | simp | exact Nat.le_of_ble_eq_true rfl) v188 ?_
                      have v4 : a.eval (.tmp 4) = .pointer (some ⟨b4, 0, none⟩) := (hU 4 (by kernel_rfl)).trans rfl
                      clear hE hU
                      exact wp_value_inv (w' := W) (.agg C) (op_loadAt rfl v4 (LD4.out W hB)) ⟨_, rfl, hB, Fr.refl _ _, rfl, fun _ _ _ _ _ => trivial⟩
                    · simp only [List.getElem?_cons_zero, List.getElem?_cons_succ, Option.some.injEq] at ho
                      subst ho
                      intro a W vs hB hS hE hU
                      obtain ⟨r3, e188⟩ := hE 3 188 (by kernel_rfl) (by kernel_rfl)
                      have v188 : a.eval (.tmp 188) = .bool true := e188.trans r3
                      refine wpG_yes 3 true 188 rfl (by kernel_rfl) (by rw [hS]; first | simp | exact Nat.le_of_ble_eq_true rfl) v188 ?_
                      obtain ⟨r10, e195⟩ := hE 10 195 (by kernel_rfl) (by kernel_rfl)
                      have v195 : a.eval (.tmp 195) = .agg C := e195.trans r10
                      clear hE hU
                      refine wp_call_inv 9 #[.tmp 195] #[24] rfl #[.agg C] (by simp only [List.map_toArray, List.map_cons, List.map_nil, v195]) (ent_spence_base_Letters _) (Post := fun v W' => v = .string S ∧ Fr (fun _ => False) W W') ((HLE.out W).mono fun e w' h => ⟨_, h.1, rfl, h.2⟩) ?_
                      rintro v W' ⟨rfl, hf⟩
                      exact ⟨_, rfl, hB.trans hf (fun _ h => h.elim), hf, rfl, fun _ _ _ _ _ => trivial⟩
                    · simp only [List.getElem?_cons_zero, List.getElem?_cons_succ, Option.some.injEq] at ho
                      subst ho
                      intro a W vs hB hS hE hU
                      obtain ⟨r3, e188⟩ := hE 3 188 (by kernel_rfl) (by kernel_rfl)
                      have v188 : a.eval (.tmp 188) = .bool true := e188.trans r3
                      refine wpG_yes 3 true 188 rfl (by kernel_rfl) (by rw [hS]; first | simp | exact Nat.le_of_ble_eq_true rfl) v188 ?_
                      obtain ⟨r9, e194⟩ := hE 9 194 (by kernel_rfl) (by kernel_rfl)
                      have v194 : a.eval (.tmp 194) = .string S2 := e194.trans r9
                      obtain ⟨r11, e196⟩ := hE 11 196 (by kernel_rfl) (by kernel_rfl)
                      have v196 : a.eval (.tmp 196) = .string S := e196.trans r11
                      clear hE hU
                      exact wp_value_inv (w' := W) (.bool false) (op_bin rfl v194 v196 (guard_str W _ _ _ _ _) (eql_str_no W _ _ _ HSS.out)) ⟨_, rfl, hB, Fr.refl _ _, rfl, fun _ _ _ _ _ => trivial⟩
                  · intro vs Wa hB0 hR0 hD
                    have r188 : vs 3 = .bool true := hR0 3 (by decide)
                    have r197 : vs 12 = .bool false := hR0 12 (by decide)
                    have HB := Lib.hid hB0
                    clear hR0 hD hB0
                    simp only [acts, if_true, dstAt, List.getElem?_cons_zero, List.getElem?_cons_succ, Option.bind_some, Act.put, List.setIfInBounds_toArray, List.set_cons_succ, List.set_cons_zero, List.drop_succ_cons]
                    simp only [r188, r197]
                    clear r188 r197
                    go_wp2_with fail
                    go_roundw
                    case rel => exact ⟨kx + 1, by omega, by go_num, Lib.hid (hQ.out.trans HB.out (fun _ h => h.elim))⟩
                    case measure => simp [intOf]; omega
                · have hmb : ((m : Int) == 0) = false := by rw [beq_eq_false_iff_ne]; omega
                  have hmb2 : ¬ (m : Int) = 0 := by omega
                  go_wp2_with fail
                  go_quiet (fail)
                  go_wp2_with fail
                  go_roundw
                  case rel => exact ⟨kx + 1, by omega, by go_num, Lib.hid (hQ.out.drewN _)⟩
                  case measure => simp [intOf]; omega
              · have hlt64 : ¬ (kx : Int) + 32 ≤ (n : Int) := by omega
                go_wp2_with fail
                go_ret
                exact ⟨rfl, (((HW.out.2.1.trans H9.out.1 (fun _ h => h.elim)).trans HE.out.1 (fun k e => .inr (by have e' : k = g9 := e; have := H9.out.2.2.1.1; have := HW.out.2.2.1; omega))).trans HWE.out (fun _ h => h.elim)).trans hQ.out (fun _ h => h.elim)⟩
end Go.Proofs.Ytfkgdjoaoidkeaa
