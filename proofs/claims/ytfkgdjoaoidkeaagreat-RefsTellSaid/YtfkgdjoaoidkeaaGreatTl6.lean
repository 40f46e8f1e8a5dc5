/- Laid together: RfRw RfAw RfTl RfRn RfRp -/
import Derived.Test.YtfkgdjoaoidkeaaGreatTl3
import Derived.Test.YtfkgdjoaoidkeaaGreatTl5
import Derived.Test.YtfkgdjoaoidkeaaGreatTl4
import Derived.Test.YtfkgdjoaoidkeaaGreatTl0

namespace Go.Proofs.YtfkgdjoaoidkeaaGreat
open Go.RowKit Go.ChangeShapes
set_option linter.unusedVariables false
theorem load_hash10 (w : World) (g : Nat) (C : Array Value) (h : w.heap[g]? = some (.cells C 24 (0, 0))) (hc : C.size = 20) : (Instr.loadAt 24 (.pointer (some ⟨g, 0, none⟩))).run Tryz.prog w = .ok (.agg C) w := by
  have h1 := run_loadVar_mid (P := Tryz.prog) w g 0 24 C.toList _ (fun j v hv => by rw [Nat.zero_add, cell_of_row _ _ _ _ _ _ h]; simpa using hv) Tryz.underlying24 rfl (by rw [Array.length_toList, hc]; kernel_rfl)
  simp only [Instr.loadAt, Instr.sureAddr, Sem.run_bind, Sem.run_pure, Result.andThen_ok, h1]
abbrev tup10 (x y : Value) : Value := .tuple #[x, y]
theorem ent10_with (args : Array Value) (w : World) : (callFunc 26 args).run Tryz.prog w = .ok (.enter 26 args) w := by kernel_rfl
theorem ent_spence_refs_lettersOf (args : Array Value) (w : World) : (callFunc 28 args).run Tryz.prog w = .ok (.enter 28 args) w := by kernel_rfl
def RwrR (ao : Option Addr) (n cap b4 b5 z0 : Nat) (C D S : Array Value) (X : List UInt8) (i : Nat) (v : Value) (W : World) : Prop :=
  match i with
  | 0 => v = .slice ao n cap
  | 1 => v = .agg C
  | 2 => v = .agg D
  | 3 => v = .agg S
  | 4 => ∃ x y, v = tup10 x y ∧ OwnB (fun k => z0 ≤ k) W x X
  | 5 => ∃ x y, v = tup10 x y ∧ OwnB (fun k => z0 ≤ k) W x X
  | 6 => ∃ x, v = x ∧ OwnB (fun k => z0 ≤ k) W x X
  | 7 => ∃ x : Value, v = x ∧ True
  | 8 => ∃ x, v = x ∧ OwnB (fun k => z0 ≤ k) W x X
  | 9 => ∃ x : Value, v = x ∧ True
  | _ => True
theorem RwrR.ext (ao : Option Addr) (n cap b4 b5 z0 : Nat) (C D S : Array Value) (X : List UInt8) : ∀ (j : Nat) (u : Value) (W W' : World), Fr (fun _ => False) W W' → RwrR ao n cap b4 b5 z0 C D S X j u W → RwrR ao n cap b4 b5 z0 C D S X j u W'
  | 0, u, W, W', hf, h => h
  | 1, u, W, W', hf, h => h
  | 2, u, W, W', hf, h => h
  | 3, u, W, W', hf, h => h
  | 4, u, W, W', hf, h => (let ⟨x, y, h1, h2⟩ := h; ⟨x, y, h1, h2.keep hf (fun _ _ _ h => h)⟩)
  | 5, u, W, W', hf, h => (let ⟨x, y, h1, h2⟩ := h; ⟨x, y, h1, h2.keep hf (fun _ _ _ h => h)⟩)
  | 6, u, W, W', hf, h => (let ⟨x, h1, h2⟩ := h; ⟨x, h1, h2.keep hf (fun _ _ _ h => h)⟩)
  | 7, u, W, W', hf, h => h
  | 8, u, W, W', hf, h => (let ⟨x, h1, h2⟩ := h; ⟨x, h1, h2.keep hf (fun _ _ _ h => h)⟩)
  | 9, u, W, W', hf, h => h
  | _ + 10, u, W, W', hf, h => trivial
set_option maxRecDepth 100000 in
set_option maxHeartbeats 4000000 in
theorem fRewrite_any {F : Nat → Prop} (w : World) (v : Value) (b H K : List UInt8) (hH : H.length = 20) (hK : K.length = 20) (hv : BytesIn F w v b) (hF : ∀ k, F k → k < w.heap.size) (hb : b.length ≤ 1000000) (hm : MlAt w) :
    Calls Tryz.prog 10 #[v, .agg (H.map bv).toArray, .agg (K.map bv).toArray] w fun e w' => ∃ x, e = .returned x ∧ OwnB (fun k => w.heap.size ≤ k) w' x (withR (letL K) b (placesR b (letL H))) ∧ Fr (fun _ => False) w w' := by
  obtain ⟨va, hva⟩ : ∃ va, va = v := ⟨_, rfl⟩
  obtain ⟨ao, n, cap, hvs⟩ : ∃ ao n cap, v = .slice ao n cap := by obtain ⟨ao, cap, h, _⟩ := hv; exact ⟨_, _, _, h⟩
  have HLO := Lib.hid (fun (W : World) => lettersOf_any K hK W)
  have hsl := letL_length K
  obtain ⟨s, hs⟩ : ∃ s, s = letL K := ⟨_, rfl⟩
  rw [← hs] at HLO hsl ⊢
  have HWJ := Lib.hid (fun W (hv : BytesIn F W v b) (hF : ∀ k, F k → k < W.heap.size) (hm : MlAt W) => fWith_any W v b H s hH hsl hv hF hb hm)
  obtain ⟨S, hS⟩ : ∃ S, S = ltC s := ⟨_, rfl⟩
  rw [← hS] at HWJ HLO
  obtain ⟨C, hC⟩ : ∃ C, C = (H.map bv).toArray := ⟨_, rfl⟩
  have hcs : C.size = 20 := by rw [hC]; simp [hH]
  obtain ⟨D, hD⟩ : ∃ D, D = (K.map bv).toArray := ⟨_, rfl⟩
  have hds : D.size = 20 := by rw [hD]; simp [hK]
  obtain ⟨X, hX⟩ : ∃ X, X = withR s b (placesR b (letL H)) := ⟨_, rfl⟩
  rw [← hX] at HWJ ⊢
  rw [← hC] at HWJ ⊢
  rw [← hD] at HLO ⊢
  clear hC hD hH hK hs hsl hS hX
  obtain ⟨z0, hz0⟩ : ∃ z0, z0 = w.heap.size := ⟨_, rfl⟩
  obtain ⟨b4, hb4⟩ : ∃ b4, b4 = w.heap.size := ⟨_, rfl⟩
  obtain ⟨b5, hb5⟩ : ∃ b5, b5 = w.heap.size + 1 := ⟨_, rfl⟩
  obtain ⟨Wb, hW1⟩ : ∃ W1, W1 = (w.alloc (.cells C 24)).alloc (.cells D 24) := ⟨_, rfl⟩
  have hf1 : Fr (fun _ => False) w Wb := by rw [hW1]; exact ((Fr.refl _ _).alloc _).alloc _
  have hr1 : Wb.heap[b4]? = some (.cells C 24 (0, 0)) := by rw [hW1, hb4]; exact heap_alloc2_old w _ _
  have hr2 : Wb.heap[b5]? = some (.cells D 24 (0, 0)) := by rw [hW1, hb5]; exact heap_alloc2_new w _ _
  have LD4 := Lib.hid (fun W (hW : Fr (fun _ => False) Wb W) => load_hash10 W b4 C (hW.heap hr1 (fun h => h)) hcs)
  have LD5 := Lib.hid (fun W (hW : Fr (fun _ => False) Wb W) => load_hash10 W b5 D (hW.heap hr2 (fun h => h)) hds)
  have HWI := Lib.hid (fun W (hW : Fr (fun _ => False) Wb W) => HWJ.out W ((hv.keep hf1 (fun _ _ _ h => h)).keep hW (fun _ _ _ h => h)) (fun k hk => by have := hF k hk; have := hf1.size; have := hW.size; omega) ((hm.keep hf1 (fun h => h)).keep hW (fun h => h)))
  have HZ0 := Lib.hid (show z0 ≤ Wb.heap.size by have := hf1.size; omega)
  have HF1 := Lib.hid (And.intro hf1 hz0)
  rw [← hva] at HWI ⊢
  clear hf1 hv hm hF hr1 hr2 hcs hds HWJ
  rw [hvs] at hva
  subst hva
  go_enter Tryz.func10, Tryz.ntmps10
  go_wp2_with fail
  rw [← hW1, ← hb5, ← hb4]
  clear hW1 hz0 hb4 hb5
  refine wp_region_inv 10 (by kernel_rfl) (by kernel_rfl) (fun W => Fr (fun _ => False) Wb W) (RwrR ao n cap b4 b5 z0 C D S X) (fun _ _ _ _ => True) (Fr (fun _ => False)) (RwrR.ext ao n cap b4 b5 z0 C D S X) (Fr.refl _ _).drew ?_ ?_
  · intro i hi o ho
    replace hi : i < 10 := hi
    obtain rfl | rfl | rfl | rfl | rfl | rfl | rfl | rfl | rfl | rfl : i = 0 ∨ i = 1 ∨ i = 2 ∨ i = 3 ∨ i = 4 ∨ i = 5 ∨ i = 6 ∨ i = 7 ∨ i = 8 ∨ i = 9 := by omega
    · simp only [List.getElem?_cons_zero, Option.some.injEq] at ho
      subst ho
      intro a W vs hB hS hE hU
      refine wpG_plain rfl ?_
      have v0 : a.eval (.tmp 0) = .slice ao n cap := (hU 0 (by kernel_rfl)).trans rfl
      clear hE hU
      exact wp_value_inv (w' := W) (.slice ao n cap) (op_move rfl v0) ⟨_, rfl, hB, Fr.refl _ _, rfl, fun _ _ _ _ _ => trivial⟩
    · simp only [List.getElem?_cons_zero, List.getElem?_cons_succ, Option.some.injEq] at ho
      subst ho
      intro a W vs hB hS hE hU
      refine wpG_plain rfl ?_
      have v4 : a.eval (.tmp 4) = .pointer (some ⟨b4, 0, none⟩) := (hU 4 (by kernel_rfl)).trans rfl
      clear hE hU
      exact wp_value_inv (w' := W) (.agg C) (op_loadAt rfl v4 (LD4.out W hB)) ⟨_, rfl, hB, Fr.refl _ _, rfl, fun _ _ _ _ _ => trivial⟩
    · simp only [List.getElem?_cons_zero, List.getElem?_cons_succ, Option.some.injEq] at ho
      subst ho
      intro a W vs hB hS hE hU
      refine wpG_plain rfl ?_
      have v5 : a.eval (.tmp 5) = .pointer (some ⟨b5, 0, none⟩) := (hU 5 (by kernel_rfl)).trans rfl
      clear hE hU
      exact wp_value_inv (w' := W) (.agg D) (op_loadAt rfl v5 (LD5.out W hB)) ⟨_, rfl, hB, Fr.refl _ _, rfl, fun _ _ _ _ _ => trivial⟩
    · simp only [List.getElem?_cons_zero, List.getElem?_cons_succ, Option.some.injEq] at ho
      subst ho
      intro a W vs hB hS hE hU
      refine wpG_plain rfl ?_
      obtain ⟨r2, e12⟩ := hE 2 12 (by kernel_rfl) (by kernel_rfl)
      have v12 : a.eval (.tmp 12) = .agg D := e12.trans r2
      clear hE hU
      refine wp_call_inv 28 #[.tmp 12] #[24] rfl #[.agg D] (by simp only [List.map_toArray, List.map_cons, List.map_nil, v12]) (ent_spence_refs_lettersOf _) (Post := fun v W' => v = .agg S ∧ Fr (fun _ => False) W W') ((HLO.out W).mono fun e w' h => ⟨_, h.1, rfl, h.2⟩) ?_
      rintro v W' ⟨rfl, hf⟩
      exact ⟨_, rfl, hB.trans hf (fun _ h => h.elim), hf, rfl, fun _ _ _ _ _ => trivial⟩
    · simp only [List.getElem?_cons_zero, List.getElem?_cons_succ, Option.some.injEq] at ho
      subst ho
      intro a W vs hB hS hE hU
      refine wpG_plain rfl ?_
      obtain ⟨r0, e10⟩ := hE 0 10 (by kernel_rfl) (by kernel_rfl)
      have v10 : a.eval (.tmp 10) = .slice ao n cap := e10.trans r0
      obtain ⟨r1, e11⟩ := hE 1 11 (by kernel_rfl) (by kernel_rfl)
      have v11 : a.eval (.tmp 11) = .agg C := e11.trans r1
      obtain ⟨r3, e13⟩ := hE 3 13 (by kernel_rfl) (by kernel_rfl)
      have v13 : a.eval (.tmp 13) = .agg S := e13.trans r3
      clear hE hU
      refine wp_call_inv 26 #[.tmp 10, .tmp 11, .tmp 13] #[22, 24, 51] rfl #[.slice ao n cap, .agg C, .agg S] (by simp only [List.map_toArray, List.map_cons, List.map_nil, v10, v11, v13]) (ent10_with _) (Post := fun v W' => ∃ x y, v = .tuple #[x, y] ∧ OwnB (fun k => W.heap.size ≤ k) W' x X ∧ Fr (fun _ => False) W W') ((HWI.out W hB).mono fun e w' ⟨x, y, h1, h2, _, h3⟩ => ⟨_, h1, x, y, rfl, h2, h3⟩) ?_
      rintro v W' ⟨x, y, rfl, ho, hf⟩
      exact ⟨_, rfl, hB.trans hf (fun _ h => h.elim), hf, ⟨x, y, rfl, ho.mono (fun k _ h => Nat.le_trans (Nat.le_trans HZ0.out hB.size) h)⟩, fun _ _ _ _ _ => trivial⟩
    · simp only [List.getElem?_cons_zero, List.getElem?_cons_succ, Option.some.injEq] at ho
      subst ho
      intro a W vs hB hS hE hU
      refine wpG_plain rfl ?_
      obtain ⟨⟨x4, y4, rg4, hg4⟩, e14⟩ := hE 4 14 (by kernel_rfl) (by kernel_rfl)
      have v14 : a.eval (.tmp 14) = tup10 x4 y4 := e14.trans rg4
      clear hE hU
      exact wp_value_inv (w' := W) (tup10 x4 y4) (op_move rfl v14) ⟨_, rfl, hB, Fr.refl _ _, ⟨x4, y4, rfl, hg4⟩, fun _ _ _ _ _ => trivial⟩
    · simp only [List.getElem?_cons_zero, List.getElem?_cons_succ, Option.some.injEq] at ho
      subst ho
      intro a W vs hB hS hE hU
      refine wpG_plain rfl ?_
      obtain ⟨⟨x5, y5, rg5, hg5⟩, e9⟩ := hE 5 9 (by kernel_rfl) (by kernel_rfl)
      have v9 : a.eval (.tmp 9) = tup10 x5 y5 := e9.trans rg5
      clear hE hU
      exact wp_value_inv (w' := W) x5 (op_extract5 rfl v9 rfl) ⟨_, rfl, hB, Fr.refl _ _, ⟨x5, rfl, hg5⟩, fun _ _ _ _ _ => trivial⟩
    · simp only [List.getElem?_cons_zero, List.getElem?_cons_succ, Option.some.injEq] at ho
      subst ho
      intro a W vs hB hS hE hU
      refine wpG_plain rfl ?_
      obtain ⟨⟨x5, y5, rg5, hg5⟩, e9⟩ := hE 5 9 (by kernel_rfl) (by kernel_rfl)
      have v9 : a.eval (.tmp 9) = tup10 x5 y5 := e9.trans rg5
      clear hE hU
      exact wp_value_inv (w' := W) y5 (op_extract5 rfl v9 rfl) ⟨_, rfl, hB, Fr.refl _ _, ⟨y5, rfl, trivial⟩, fun _ _ _ _ _ => trivial⟩
    · simp only [List.getElem?_cons_zero, List.getElem?_cons_succ, Option.some.injEq] at ho
      subst ho
      intro a W vs hB hS hE hU
      refine wpG_plain rfl ?_
      obtain ⟨⟨x6, rg6, hg6⟩, e15⟩ := hE 6 15 (by kernel_rfl) (by kernel_rfl)
      have v15 : a.eval (.tmp 15) = x6 := e15.trans rg6
      clear hE hU
      exact wp_value_inv (w' := W) x6 (op_assign rfl v15) ⟨_, rfl, hB, Fr.refl _ _, ⟨x6, rfl, hg6⟩, fun _ _ _ _ _ => trivial⟩
    · simp only [List.getElem?_cons_zero, List.getElem?_cons_succ, Option.some.injEq] at ho
      subst ho
      intro a W vs hB hS hE hU
      refine wpG_plain rfl ?_
      obtain ⟨⟨x7, rg7, hg7⟩, e16⟩ := hE 7 16 (by kernel_rfl) (by kernel_rfl)
      have v16 : a.eval (.tmp 16) = x7 := e16.trans rg7
      clear hE hU
      exact wp_value_inv (w' := W) x7 (op_assign rfl v16) ⟨_, rfl, hB, Fr.refl _ _, ⟨x7, rfl, trivial⟩, fun _ _ _ _ _ => trivial⟩
  · intro vs Wa hB0 hR0 hD
    obtain ⟨x, hx, hox⟩ := hR0 8 (by decide)
    have HO := Lib.hid hox
    have HB := Lib.hid hB0
    clear hR0 hD hB0 hox
    simp only [acts, if_true, dstAt, List.getElem?_cons_zero, List.getElem?_cons_succ, Option.bind_some, Act.put, List.setIfInBounds_toArray, List.set_cons_succ, List.set_cons_zero, List.drop_succ_cons, List.drop_nil]
    rw [hx]
    clear hx
    go_wp2
    go_ret
    exact ⟨x, rfl, HO.out.mono (fun k _ hk => by have := HF1.out.2; omega), HF1.out.1.trans HB.out (fun _ h => h.elim)⟩
set_option maxRecDepth 100000 in
set_option maxHeartbeats 4000000 in
theorem fBlank_any {F : Nat → Prop} (w : World) (v : Value) (b H : List UInt8) (hH : H.length = 20) (hv : BytesIn F w v b) (hF : ∀ k, F k → k < w.heap.size) (hb : b.length ≤ 1000000) (hm : MlAt w) :
    Calls Tryz.prog 8 #[v, .agg (H.map bv).toArray] w fun e w' => ∃ x y, e = .returned (.tuple #[x, y]) ∧ OwnB (fun k => w.heap.size ≤ k) w' x (withR (List.replicate 32 0) b (placesR b (letL H))) ∧ IntsR (fun k => w.heap.size ≤ k) w' y (placesR b (letL H)) ∧ Fr (fun _ => False) w w' := by
  obtain ⟨C, hC⟩ : ∃ C, C = (H.map bv).toArray := ⟨_, rfl⟩
  have hcs : C.size = 20 := by rw [hC]; simp [hH]
  have hf1 : Fr (fun _ => False) w (w.alloc (.cells C 24)) := (Fr.refl _ _).alloc _
  have hwi := fWith_any (w.alloc (.cells C 24)) v b H (List.replicate 32 0) hH (by simp) (hv.keep hf1 (fun _ _ _ h => h)) (fun k hk => by have := hF k hk; have := hf1.size; omega) hb (hm.keep hf1 (fun h => h))
  rw [show ltC (List.replicate 32 0) = #[.int .u8 0, .int .u8 0, .int .u8 0, .int .u8 0, .int .u8 0, .int .u8 0, .int .u8 0, .int .u8 0, .int .u8 0, .int .u8 0, .int .u8 0, .int .u8 0, .int .u8 0, .int .u8 0, .int .u8 0, .int .u8 0, .int .u8 0, .int .u8 0, .int .u8 0, .int .u8 0, .int .u8 0, .int .u8 0, .int .u8 0, .int .u8 0, .int .u8 0, .int .u8 0, .int .u8 0, .int .u8 0, .int .u8 0, .int .u8 0, .int .u8 0, .int .u8 0] from rfl] at hwi
  obtain ⟨X, hX⟩ : ∃ X, X = withR (List.replicate 32 0) b (placesR b (letL H)) := ⟨_, rfl⟩
  rw [← hX] at hwi ⊢
  rw [← hC] at hwi ⊢
  obtain ⟨W1, hW1⟩ : ∃ W1, W1 = w.alloc (.cells C 24) := ⟨_, rfl⟩
  have hr1 : W1.heap[w.heap.size]? = some (.cells C 24 (0, 0)) := by rw [hW1]; exact heap_alloc_new w _
  rw [← hW1] at hwi hf1
  have HWI := Lib.hid hwi
  have HX := Lib.hid (And.intro hf1 hW1)
  clear hC hX hwi hf1 hW1 hv hm hF
  go_enter Tryz.func8, Tryz.ntmps8
  go_wp2_with (first
    | (rw [← HX.out.2]; (with_reducible refine wpList_load_row rfl 24 (.tmp 3) rfl w.heap.size rfl 24 C (0, 0) _ hr1 Tryz.underlying24 rfl (by rw [hcs]; kernel_rfl) ?_))
    | (go_at_call 26; refine HWI.out.mono ?_; rintro e w3 ⟨x, y, rfl, hox, hoy, hf3⟩))
  go_ret2
  have hz := HX.out.1.size
  exact ⟨x, y, rfl, hox.mono (fun k _ hk => by omega), hoy.mono (fun k _ hk => by omega), HX.out.1.trans hf3 (fun _ h => h.elim)⟩
end Go.Proofs.YtfkgdjoaoidkeaaGreat
namespace Go.Proofs.YtfkgdjoaoidkeaaGreat
open Go.RowKit Go.ChangeShapes
set_option linter.unusedVariables false
set_option maxHeartbeats 2000000 in
theorem sameInts_any {F G : Nat → Prop} (w : World) (u v : Value) (A : List Nat) (hu : IntsR F w u A) (hv : IntsR G w v A) (hA : A.length ≤ 1000000) :
    Calls Tryz.prog 12 #[u, v] w fun e w' => e = .returned (.bool true) ∧ ∃ q, w' = w.drewN q := by
  obtain ⟨au, cu, rfl, hu1, hu2, b1, o1, hu3, hu4⟩ := hu
  obtain ⟨av, cv, rfl, hv1, hv2, b2, o2, hv3, hv4⟩ := hv
  have HU := Lib.hid (And.intro hu3 hu4)
  have HV := Lib.hid (And.intro hv3 hv4)
  clear hu3 hu4 hv3 hv4
  obtain ⟨n, hn⟩ : ∃ n, n = A.length := ⟨_, rfl⟩
  rw [← hn] at hu1 hv1 hA ⊢
  have HN := Lib.hid hn
  clear hn
  go_enter Tryz.func12, Tryz.ntmps12
  go_wp2_with fail
  go_loopw [5] (fun iv wr => ∃ k : Nat, k ≤ n ∧ iv = .int .i64 k ∧ ∃ q, wr = w.drewN q) (fun iv _ => n - (intOf iv).toNat)
  case atStart => exact ⟨0, by omega, rfl, 0, rfl⟩
  case round =>
    obtain ⟨k, hk, rfl, q, rfl⟩ := hrel
    by_cases hlt : k < n
    · have hkA : k < A.length := by rw [← HN.out]; exact hlt
      obtain ⟨x, hx⟩ : ∃ x : Nat, x = A[k] := ⟨_, rfl⟩
      have h1 := HU.out.2 k hkA
      have h2 := HV.out.2 k hkA
      rw [← hx] at h1 h2
      obtain ⟨rfl, -⟩ := HU.out.1 (by omega)
      obtain ⟨rfl, -⟩ := HV.out.1 (by omega)
      clear hx hkA
      have hlt64 : (k : Int) < (n : Int) := by omega
      go_wp2
      go_quiet (fail)
      go_wp2
      go_roundw
      case rel => exact ⟨k + 1, by omega, by go_num, _, rfl⟩
      case measure => simp [intOf]; omega
    · obtain rfl : k = n := by omega
      go_wp2
      go_ret
      exact ⟨rfl, _, rfl⟩
def h7 : List UInt8 := [7, 0, 0, 0, 0, 0, 0, 0, 0, 0, 0, 0, 0, 0, 0, 0, 0, 0, 0, 0]
def b7 : List UInt8 := letL h7 ++ [45] ++ letL h7
theorem places7 : placesR b7 (letL h7) = [0, 33] := by decide +kernel
theorem b7_length : b7.length = 65 := by decide +kernel
theorem h7_cells : (h7.map bv).toArray = #[.int .u8 7, .int .u8 0, .int .u8 0, .int .u8 0, .int .u8 0, .int .u8 0, .int .u8 0, .int .u8 0, .int .u8 0, .int .u8 0, .int .u8 0, .int .u8 0, .int .u8 0, .int .u8 0, .int .u8 0, .int .u8 0, .int .u8 0, .int .u8 0, .int .u8 0, .int .u8 0] := rfl
theorem str_cat (A Bb : List UInt8) : (⟨A.toArray⟩ : ByteArray) ++ (⟨Bb.toArray⟩ : ByteArray) = ⟨(A ++ Bb).toArray⟩ := by
  apply ByteArray.ext
  simp
theorem tag7 (w : World) (S : ByteArray) (hs : S.size = 32) (hc : S ++ ⟨#[45]⟩ ++ S = ⟨b7.toArray⟩) :
    ∃ cap W, (convert 9 22 (.string (S ++ ⟨#[45]⟩ ++ S))).run Tryz.prog w = .ok (.slice (some ⟨w.heap.size, 0, none⟩) 65 cap) W ∧ Hid (Fr (fun _ => False) w W ∧ BytesIn (fun k => k = w.heap.size) W (.slice (some ⟨w.heap.size, 0, none⟩) 65 cap) b7 ∧ W.heap.size = w.heap.size + 1) := by
  obtain ⟨cap, W, h1, h2, h3, h4⟩ := run_tag w ⟨b7.toArray⟩ (by rw [str_size, b7_length]; decide)
  rw [str_size, b7_length] at h1 h3
  rw [hc]
  exact ⟨cap, W, h1, Lib.hid ⟨h2, h3, h4⟩⟩
set_option maxRecDepth 100000 in
set_option maxHeartbeats 4000000 in
theorem awake10_any (w : World) (hm : MlAt w) : Calls Tryz.prog 5 #[] w fun e w' => e = .returned (.bool true) ∧ Fr (fun _ => False) w w' := by
  have HRL := Lib.hid (fun W => rLetters_any h7 rfl W)
  have HPL := Lib.hid (fun (W : World) (v : Value) (F : Nat → Prop) (hv : BytesIn F W v b7) (hF : ∀ k, F k → k < W.heap.size) (hm : MlAt W) => fPlaces_any W v b7 h7 rfl hv hF (by rw [b7_length]; decide) hm)
  rw [places7] at HPL
  rw [h7_cells] at HRL HPL
  obtain ⟨S, hS⟩ : ∃ S : ByteArray, S = ⟨(letL h7).toArray⟩ := ⟨_, rfl⟩
  rw [← hS] at HRL
  have hcat : S ++ ⟨#[45]⟩ ++ S = ⟨b7.toArray⟩ := by
    rw [hS]
    have h1 := str_cat (letL h7) [45]
    have h2 := str_cat (letL h7 ++ [45]) (letL h7)
    rw [← h1] at h2
    exact h2
  have hsz : S.size = 32 := by rw [hS, str_size, letL_length]
  have HC := Lib.hid hcat
  clear hS hcat
  go_enter Tryz.func5, Tryz.ntmps5
  go_wp2_with (first
    | (go_at_call 22; refine (HRL.out _).mono ?_; rintro e w2 ⟨rfl, hf2⟩; (obtain ⟨cap, W3, hcv, H3⟩ := tag7 w2 S hsz HC.out); (have HF2 := Lib.hid hf2); clear hf2)
    | (go_at_call 13; refine (HPL.out _ _ _ H3.out.2.1 (fun k hk => by have := H3.out.2.2; omega) ((hm.keep HF2.out (fun h => h)).keep H3.out.1 (fun h => h))).mono ?_; rintro e w4 ⟨u, rfl, ho4, hf4⟩; (obtain ⟨au, cu, hu, hcu1, hcu2, bq, oq, hau, hcq⟩ := ho4.ints); subst hu; (obtain ⟨rfl, -⟩ := hau (by decide)); (have c0 := hcq 0 (by decide)); (have c1 := hcq 1 (by decide)); simp only [List.length_cons, List.length_nil, List.getElem_cons_zero, List.getElem_cons_succ, Nat.reduceAdd, Nat.add_zero] at *; (have HF4 := Lib.hid ((HF2.out.trans H3.out.1 (fun _ h => h.elim)).trans hf4 (fun _ h => h.elim))); clear ho4 hf4 hcq hau))
  go_ret
  exact ⟨rfl, HF4.out⟩
end Go.Proofs.YtfkgdjoaoidkeaaGreat
namespace Go.Proofs.YtfkgdjoaoidkeaaGreat
open Go.RowKit Go.ChangeShapes
set_option linter.unusedVariables false
theorem run_cutMid (w : World) (ao : Option Addr) (l cap p q : Nat) (hp : p ≤ q) (hq : q ≤ cap) :
    (Instr.slice 22 (.slice ao l cap) (some (.int .i64 (p : Int))) (some (.int .i64 (q : Int))) none).run Tryz.prog w = .ok (.slice (cutLow ao p cap) (q - p) (cap - p)) w := by
  have hs : ∀ w, (sizeOf 5).run Tryz.prog w = .ok 1 w := fun w => by kernel_rfl
  simp [Instr.slice, run_underlying Tryz.underlying22, Instr.sliceBounds, run_sliceBound, hs, cutLow, hp, hq]
theorem BytesIn.mid {F : Nat → Prop} {w : World} {ao : Option Addr} {l cap : Nat} {X : List UInt8} (h : BytesIn F w (.slice ao l cap) X) (p q : Nat) (hp : p ≤ q) (hq : q ≤ X.length) :
    BytesIn F w (.slice (YtfkgdjoaoidkeaaGreat.cutLow ao p cap) (q - p) (cap - p)) ((X.drop p).take (q - p)) :=
  (h.cutLow p (by omega)).take (q - p) (by rw [List.length_drop]; omega)
section
variable {P : Program} {w : World} {o : Oper} {a : Act}
theorem op_slice_mid {t : TypeId} {x lo hi : Operand} {vx vl vh v : Value} (ho : o.op = .slice t x (some lo) (some hi) none) (hx : a.eval x = vx) (hl : a.eval lo = vl) (hh : a.eval hi = vh) (hr : (Instr.sliceAt t vx (some vl) (some vh) none).run P w = .ok v w) : (execOp a.eval o).run P w = .ok (.value v) w := by
  unfold execOp
  rw [ho]
  simp only [hx, hl, hh, Option.map_some, Option.map_none, Sem.run_bind, hr, Result.andThen_ok]
  rfl
theorem op_convert10 {t t' : TypeId} {x : Operand} {vx v : Value} (ho : o.op = .convert t t' x) (hx : a.eval x = vx) (hr : (convert t t' vx).run P w = .ok v w) : (execOp a.eval o).run P w = .ok (.value v) w := by
  unfold execOp
  rw [ho]
  simp only [hx, Sem.run_bind, hr, Result.andThen_ok]
  rfl
end
theorem eql_str_no (w : World) (T : TypeId) (A Bb : ByteArray) (h : A ≠ Bb) : (binOp .eql T (.string A) (.string Bb)).run Tryz.prog w = .ok (.bool false) w := by
  rw [binOp_string_eql]
  have : (A.toList == Bb.toList) = false := by
    rw [beq_eq_false_iff_ne]
    intro e
    apply h
    apply ByteArray.ext
    apply Array.ext'
    rw [← Go.Lib.toList_data, ← Go.Lib.toList_data]
    exact e
  rw [this]
  rfl
theorem run_cut32 (w : World) (ao : Option Addr) (l cap p : Nat) (h : p + 32 ≤ cap) :
    (Instr.sliceAt 22 (.slice ao l cap) (some (.int .i64 (p : Int))) (some (.int .i64 ((p + 32 : Nat) : Int))) none).run Tryz.prog w = .ok (.slice (cutLow ao p cap) 32 (cap - p)) w := by
  have h1 := run_cutMid w ao l cap p (p + 32) (by omega) h
  rw [show p + 32 - p = 32 by omega] at h1
  simpa [Instr.sliceAt, run_underlying Tryz.underlying22] using h1
theorem run_str32 {F : Nat → Prop} (w : World) (ao : Option Addr) (l cap p : Nat) (b : List UInt8) (h : BytesIn F w (.slice ao l cap) b) (hp : p + 32 ≤ b.length) :
    (convert 22 9 (.slice (cutLow ao p cap) 32 (cap - p))).run Tryz.prog w = .ok (.string ⟨((b.drop p).take 32).toArray⟩) w := by
  have h1 := h.mid p (p + 32) (by omega) hp
  rw [show p + 32 - p = 32 by omega] at h1
  exact run_bytes_str w _ _ h1
end Go.Proofs.YtfkgdjoaoidkeaaGreat
namespace Go.Proofs.YtfkgdjoaoidkeaaGreat
open Go.RowKit Go.ChangeShapes
set_option linter.unusedVariables false
theorem wpList_g_value {P : Program} {ops : Array Oper} {rest : List Oper} {o : Oper} {a : Act} {w : World} {Q : Exit → Act → World → Prop} (hw : Region.wanted o (yielded ops a.tmps) = true) (v : Value) (w' : World) (h : (execOp a.eval o).run P w = .ok (.value v) w')
    (hK : wpList P ops Q rest (a.put o.dst v) w') : wpList P ops Q (o :: rest) a w :=
  wpList_step fun _ hK' => by
    rw [if_pos hw]
    exact wp_value_inv v h (hK' _ _ hK)
theorem eql_str_is (w : World) (T : TypeId) (b s : List UInt8) (i : Nat) : (binOp .eql T (.string ⟨((b.drop i).take 32).toArray⟩) (.string ⟨s.toArray⟩)).run Tryz.prog w = .ok (.bool (occR b s i)) w := by
  unfold occR
  by_cases h : (b.drop i).take 32 = s
  · rw [h, binOp_string_eql]
    simp
  · rw [eql_str_no w T _ _ (fun e => h (by
      have := congrArg (fun s : ByteArray => s.data.toList) e
      simpa using this)), decide_eq_false h]
theorem occR_no {b s : List UInt8} {i : Nat} (hs : s.length = 32) (h : ¬ i + 32 ≤ b.length) : occR b s i = false := by
  cases hq : occR b s i with
  | false => rfl
  | true => exact absurd (occR_room hs hq) h
set_option maxRecDepth 100000 in
set_option maxHeartbeats 2000000 in
theorem stands_any {F : Nat → Prop} (w : World) (ao : Option Addr) (n cap i : Nat) (b s : List UInt8) (hv : BytesIn F w (.slice ao n cap) b) (hs : s.length = 32) (hi : i ≤ 1000000) (hn : n ≤ 1000000) :
    Calls Tryz.prog 32 #[.slice ao n cap, .int .i64 i, .string ⟨s.toArray⟩] w fun e w' => e = .returned (.bool (occR b s i)) ∧ w' = w := by
  have hnb : n = b.length ∧ n ≤ cap := by
    obtain ⟨a, c, h, h1, -⟩ := id hv
    simp only [Value.slice.injEq] at h
    omega
  obtain ⟨k, hk⟩ : ∃ k, k = i + 32 := ⟨_, rfl⟩
  have hki : (i : Int) + 32 = (k : Nat) := by omega
  have hk6 : (k : Int) ≤ 1000032 := by omega
  obtain ⟨S, hS⟩ : ∃ S : ByteArray, S = ⟨s.toArray⟩ := ⟨_, rfl⟩
  by_cases hp : i + 32 ≤ n
  · have hpk : (k : Int) ≤ (n : Int) := by omega
    have hcut := run_cut32 w ao n cap i (by omega)
    rw [← hk] at hcut
    have hcv := run_str32 w ao n cap i b hv (by omega)
    have hq := fun T => eql_str_is w T b s i
    obtain ⟨S2, hS2⟩ : ∃ S2 : ByteArray, S2 = ⟨((b.drop i).take 32).toArray⟩ := ⟨_, rfl⟩
    rw [← hS2] at hcv hq
    rw [← hS] at hq ⊢
    obtain ⟨r, hr⟩ : ∃ r, r = occR b s i := ⟨_, rfl⟩
    rw [← hr] at hq ⊢
    clear hr hS hS2 hv hs hnb hp hk
    go_enter Tryz.func32, Tryz.ntmps32
    go_wp2_with (first
      | (refine wpList_g_value (by first | (simp [Region.wanted, yielded]; done) | (simp [Region.wanted, yielded, Act.put]; done)) (.slice (cutLow ao i cap) 32 (cap - i)) w (op_slice_mid rfl rfl rfl rfl hcut) ?_)
      | (refine wpList_g_value (by first | (simp [Region.wanted, yielded]; done) | (simp [Region.wanted, yielded, Act.put]; done)) (.string S2) w (op_convert10 rfl rfl hcv) ?_)
      | (refine wpList_g_value (by simp [Region.wanted, yielded]) (.bool r) w (op_bin rfl rfl rfl (guard_str w _ _ _ _ _) (hq _)) ?_))
    go_ret
    exact ⟨rfl, rfl⟩
  · have hpk : ¬ (k : Int) ≤ (n : Int) := by omega
    rw [occR_no hs (by omega), ← hS]
    clear hS hv hs hnb hp hk
    go_enter Tryz.func32, Tryz.ntmps32
    go_wp2_with fail
    go_ret
    exact ⟨rfl, rfl⟩
end Go.Proofs.YtfkgdjoaoidkeaaGreat
namespace Go.Proofs.YtfkgdjoaoidkeaaGreat
open Go.RowKit Go.ChangeShapes
set_option linter.unusedVariables false
set_option maxRecDepth 100000 in
set_option maxHeartbeats 4000000 in
theorem rPlaces_any {F : Nat → Prop} (w : World) (v : Value) (b H : List UInt8) (hH : H.length = 20) (hv : BytesIn F w v b) (hb : b.length ≤ 900000) :
    Calls Tryz.prog 14 #[v, .agg (H.map bv).toArray] w fun e w' => ∃ u, e = .returned u ∧ OwnI w.heap.size w' u (placesR b (letL H)) ∧ Fr (fun _ => False) w w' := by
  obtain ⟨C, hC⟩ : ∃ C, C = (H.map bv).toArray := ⟨_, rfl⟩
  have hcs : C.size = 20 := by rw [hC]; simp [hH]
  obtain ⟨ao, n, cap, rfl, hnb⟩ : ∃ ao n cap, v = .slice ao n cap ∧ n = b.length := by obtain ⟨ao, cap, h, _⟩ := hv; exact ⟨_, _, _, h, rfl⟩
  obtain ⟨W1, hW1⟩ : ∃ W1, W1 = w.alloc (.cells C 24) := ⟨_, rfl⟩
  have hf1 : Fr (fun _ => False) w W1 := by rw [hW1]; exact (Fr.refl _ _).alloc _
  have hr1 : W1.heap[w.heap.size]? = some (.cells C 24 (0, 0)) := by rw [hW1]; exact heap_alloc_new w _
  have HLO := Lib.hid (fun W => show Calls Tryz.prog 22 #[.agg C] W fun e w' => e = .returned (.string ⟨(letL H).toArray⟩) ∧ Fr (fun _ => False) W w' by rw [hC]; exact rLetters_any H hH W)
  obtain ⟨s, hs⟩ : ∃ s, s = letL H := ⟨_, rfl⟩
  have hsl : s.length = 32 := by rw [hs]; exact letL_length H
  rw [← hC]
  rw [← hs] at HLO ⊢
  have HST := Lib.hid (fun W (hW : Fr (fun _ => False) w W) (i : Nat) (hi : i ≤ 1000000) => stands_any W ao n cap i b s (hv.keep hW (fun _ _ _ h => h)) hsl hi (by omega))
  obtain ⟨S, hS⟩ : ∃ S : ByteArray, S = ⟨s.toArray⟩ := ⟨_, rfl⟩
  rw [← hS] at HLO HST
  have HW := Lib.hid hW1
  have HX := Lib.hid (And.intro hf1 (And.intro hnb hb))
  have hn6 : n ≤ 900000 := by omega
  clear hC hs hsl hv hS hW1 hf1 hnb hb hH
  go_enter Tryz.func14, Tryz.ntmps14
  go_wp2_with (first
    | (rw [← HW.out]; (with_reducible refine wpList_load_row rfl 24 (.tmp 3) rfl w.heap.size rfl 24 C (0, 0) _ hr1 Tryz.underlying24 rfl (by rw [hcs]; kernel_rfl) ?_))
    | (go_at_call 22; refine (HLO.out _).mono ?_; rintro e w2 ⟨rfl, hf2⟩; (have H2 := Lib.hid (HX.out.1.trans hf2 (fun _ h => h.elim))); clear hf2 hr1))
  go_loopw [6, 7, 8] (fun ov nv iv wr => ∃ i q : Nat, i ≤ n ∧ iv = .int .i64 i ∧ nv = .int .i64 q ∧ Hid (q = (goR b s i).2 ∧ OwnI w.heap.size wr ov (goR b s i).1 ∧ Fr (fun _ => False) w wr)) (fun _ _ iv _ => n - (intOf iv).toNat)
  case atStart => exact ⟨0, 0, by omega, rfl, rfl, Lib.hid ⟨rfl, OwnI.nil _ _, H2.out⟩⟩
  case round =>
    obtain ⟨i, q, hi, rfl, rfl, hR⟩ := hrel
    obtain ⟨a0, c0, rfl⟩ := hR.out.2.1.form
    by_cases hlt : i < n
    · have hlt64 : (i : Int) < (n : Int) := by omega
      by_cases hge : q ≤ i
      · have hge64 : (q : Int) ≤ (i : Int) := by omega
        have HS := Lib.hid (HST.out wr hR.out.2.2 i (by omega))
        obtain ⟨r, hr⟩ : ∃ r, r = occR b s i := ⟨_, rfl⟩
        rw [← hr] at HS
        cases r with
        | true =>
          have hbi := run_int1 wr (i : Int)
          obtain ⟨l, hl⟩ : ∃ l, l = (goR b s i).1 := ⟨_, rfl⟩
          have hll := goR_length b s i
          rw [← hl] at hll
          obtain ⟨a9, n9, c9, w9, hrun, ho9, hf9⟩ := run_append_i wr 31 _ l i (by rw [hl]; exact hR.out.2.1) hR.out.2.2.size (by omega)
          have H9 := Lib.hid (show i + 32 = (goR b s (i + 1)).2 ∧ OwnI w.heap.size w9 (.slice a9 n9 c9) (goR b s (i + 1)).1 ∧ Fr (fun _ => False) w w9 by
            rw [goR_hit (by rw [← hR.out.1]; exact hge) hr.symm, ← hl]
            exact ⟨rfl, ho9, hR.out.2.2.trans hf9 (fun k e => .inr (OwnE.own hR.out.2.1 k e).1)⟩)
          obtain ⟨l0, hl0⟩ : ∃ k, k = (goR b s i).1.length := ⟨_, rfl⟩
          rw [← hl0] at hrun ⊢
          obtain ⟨q2, hq2⟩ : ∃ k, k = i + 32 := ⟨_, rfl⟩
          have hqi : (i : Int) + 32 = (q2 : Nat) := by omega
          have hq6 : (q2 : Int) ≤ 1000032 := by omega
          rw [← hq2] at H9
          clear ho9 hf9 hr hl hll hl0 hq2
          go_wp2_with (first
            | (go_at_call 32; refine HS.out.mono ?_; rintro e w3 ⟨rfl, rfl⟩)
            | (refine wpList_value rfl (.slice a9 n9 c9) w9 (op_append7 rfl rfl rfl hrun) ?_))
          go_roundw
          case rel => exact ⟨i + 1, q2, by omega, by go_num, rfl, H9⟩
          case measure => simp [intOf]; omega
        | false =>
          have H9 := Lib.hid (show q = (goR b s (i + 1)).2 ∧ OwnI w.heap.size wr (.slice a0 (goR b s i).1.length c0) (goR b s (i + 1)).1 ∧ Fr (fun _ => False) w wr by
            rw [goR_pass (.inr hr.symm)]
            exact hR.out)
          obtain ⟨l0, hl0⟩ : ∃ k, k = (goR b s i).1.length := ⟨_, rfl⟩
          rw [← hl0] at H9 ⊢
          clear hr hl0
          go_wp2_with (go_at_call 32; refine HS.out.mono ?_; rintro e w3 ⟨rfl, rfl⟩)
          go_roundw
          case rel => exact ⟨i + 1, q, by omega, by go_num, rfl, H9⟩
          case measure => simp [intOf]; omega
      · have hge64 : ¬ (q : Int) ≤ (i : Int) := by omega
        have H9 := Lib.hid (show q = (goR b s (i + 1)).2 ∧ OwnI w.heap.size wr (.slice a0 (goR b s i).1.length c0) (goR b s (i + 1)).1 ∧ Fr (fun _ => False) w wr by
          rw [goR_pass (.inl (by rw [← hR.out.1]; omega))]
          exact hR.out)
        obtain ⟨l0, hl0⟩ : ∃ k, k = (goR b s i).1.length := ⟨_, rfl⟩
        rw [← hl0] at H9 ⊢
        clear hl0
        go_wp2_with fail
        go_roundw
        case rel => exact ⟨i + 1, q, by omega, by go_num, rfl, H9⟩
        case measure => simp [intOf]; omega
    · obtain rfl : i = n := by omega
      have hlt64 : ¬ (i : Int) < (i : Int) := by omega
      go_wp2_with fail
      go_ret
      exact ⟨_, rfl, by unfold placesR; rw [← HX.out.2.1]; exact hR.out.2.1, hR.out.2.2⟩
end Go.Proofs.YtfkgdjoaoidkeaaGreat
