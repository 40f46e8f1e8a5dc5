/- Laid together: TTurn -/
import Derived.Test.YtldgcoikbjbjeaaGreatTk37
import Derived.Test.YtldgcoikbjbjeaaGreatTk30

namespace Go.Proofs.YtldgcoikbjbjeaaGreat
open Go.RowKit Go.ChangeShapes
set_option linter.unusedVariables false
theorem run_cutS' (w : World) (ao : Option Addr) (l cap n : Nat) (m : Int) (hm : m = n) (hn : n ≤ l) :
    (Instr.slice 37 (.slice ao l cap) (some (.int .i64 m)) none none).run Tryz.prog w = .ok (.slice (cutLow ao n cap) (l - n) (cap - n)) w := by
  subst hm
  exact run_cutS w ao l cap n hn
theorem run_cutB' (w : World) (ao : Option Addr) (l cap n : Nat) (m : Int) (hm : m = n) (hn : n ≤ l) :
    (Instr.slice 38 (.slice ao l cap) (some (.int .i64 m)) none none).run Tryz.prog w = .ok (.slice (cutLow ao n cap) (l - n) (cap - n)) w := by
  subst hm
  exact run_cutB w ao l cap n hn
theorem fld_spence_spencelaw06_vals_0_0 (w : World) (g : Nat) : (Instr.fieldAt 40 (.pointer (some ⟨g, 0, none⟩)) 0).run Tryz.prog w = .ok (.pointer (some ⟨g, 0, none⟩)) w := by kernel_rfl
theorem fld_spence_spencelaw06_vals_1_0 (w : World) (g : Nat) : (Instr.fieldAt 40 (.pointer (some ⟨g, 0, none⟩)) 1).run Tryz.prog w = .ok (.pointer (some ⟨g, 1, none⟩)) w := by kernel_rfl
def TuR (gb : Nat) (ak av : Option Addr) (n ck cv z : Nat) (l : List RowD) (i : Nat) (v : Value) (W : World) : Prop :=
  match i with
  | 0 => ∃ gz, v = .slice (some ⟨gz, 0, none⟩) 0 0 ∧ RowT 9 z W (.slice (some ⟨gz, 0, none⟩) 0 0) []
  | 1 => v = .pointer (some ⟨gb, 0, none⟩)
  | 2 => v = .slice ak n ck
  | 3 => ∃ ag cg, v = .slice ag n cg ∧ RowT 9 z W (.slice ag n cg) (keyV l)
  | 4 => ∃ gz, v = .slice (some ⟨gz, 0, none⟩) 0 0 ∧ RowT 43 z W (.slice (some ⟨gz, 0, none⟩) 0 0) []
  | 5 => v = .pointer (some ⟨gb, 1, none⟩)
  | 6 => v = .slice av n cv
  | 7 => ∃ ag cg, v = .slice ag n cg ∧ RowT 43 z W (.slice ag n cg) (valV l)
  | 8 => ∃ a1 c1 a2 c2, v = .agg #[.slice a1 n c1, .slice a2 n c2] ∧ RowT 9 z W (.slice a1 n c1) (keyV l) ∧ RowT 43 z W (.slice a2 n c2) (valV l)
  | 9 => ∃ gc, v = .pointer (some ⟨gc, 0, none⟩) ∧ z ≤ gc ∧ W.heap[gc]? = some (.cells #[.slice none 0 0, .slice none 0 0] 40 (0, 0))
  | _ => True
theorem TuR.ext (gb : Nat) (ak av : Option Addr) (n ck cv z : Nat) (l : List RowD) : ∀ (j : Nat) (u : Value) (W W' : World), Fr (fun _ => False) W W' → TuR gb ak av n ck cv z l j u W → TuR gb ak av n ck cv z l j u W'
  | 0, u, W, W', hf, h => (let ⟨gz, h1, h2⟩ := h; ⟨gz, h1, h2.keep hf (fun _ _ h => h)⟩)
  | 1, u, W, W', hf, h => h
  | 2, u, W, W', hf, h => h
  | 3, u, W, W', hf, h => (let ⟨x, y, h1, h2⟩ := h; ⟨x, y, h1, h2.keep hf (fun _ _ h => h)⟩)
  | 4, u, W, W', hf, h => (let ⟨gz, h1, h2⟩ := h; ⟨gz, h1, h2.keep hf (fun _ _ h => h)⟩)
  | 5, u, W, W', hf, h => h
  | 6, u, W, W', hf, h => h
  | 7, u, W, W', hf, h => (let ⟨x, y, h1, h2⟩ := h; ⟨x, y, h1, h2.keep hf (fun _ _ h => h)⟩)
  | 8, u, W, W', hf, h => (let ⟨x, y, x2, y2, h1, h2, h3⟩ := h; ⟨x, y, x2, y2, h1, h2.keep hf (fun _ _ h => h), h3.keep hf (fun _ _ h => h)⟩)
  | 9, u, W, W', hf, h => (let ⟨g, h1, h2, h3⟩ := h; ⟨g, h1, h2, hf.heap h3 id⟩)
  | _ + 10, u, W, W', hf, h => trivial
def TuR7 (gc : Nat) (ak : Option Addr) (n ck k n2 z : Nat) (l2 : List RowD) (i : Nat) (v : Value) (W : World) : Prop :=
  match i with
  | 0 => v = .pointer (some ⟨gc, 0, none⟩)
  | 1 => v = .slice ak n ck
  | 2 => v = .int .i64 (k : Nat)
  | 3 => v = .int .i64 (k : Nat)
  | 4 => v = .slice ak k k
  | 5 => v = .pointer (some ⟨gc, 0, none⟩)
  | 6 => v = .slice ak n ck
  | 7 => v = .int .i64 (k : Nat)
  | 8 => v = .int .i64 ((k : Int) + 1)
  | 9 => v = .slice (cutLow ak (k + 1) ck) (n - (k + 1)) (ck - (k + 1))
  | 10 => ∃ ag cg, v = .slice ag n2 cg ∧ RowT 9 z W (.slice ag n2 cg) (keyV l2)
  | 11 => v = .pointer (some ⟨gc, 0, none⟩)
  | _ => True
theorem TuR7.ext (gc : Nat) (ak : Option Addr) (n ck k n2 z : Nat) (l2 : List RowD) : ∀ (j : Nat) (u : Value) (W W' : World), Fr (fun _ => False) W W' → TuR7 gc ak n ck k n2 z l2 j u W → TuR7 gc ak n ck k n2 z l2 j u W'
  | 0, u, W, W', hf, h => h
  | 1, u, W, W', hf, h => h
  | 2, u, W, W', hf, h => h
  | 3, u, W, W', hf, h => h
  | 4, u, W, W', hf, h => h
  | 5, u, W, W', hf, h => h
  | 6, u, W, W', hf, h => h
  | 7, u, W, W', hf, h => h
  | 8, u, W, W', hf, h => h
  | 9, u, W, W', hf, h => h
  | 10, u, W, W', hf, h => (let ⟨x, y, h1, h2⟩ := h; ⟨x, y, h1, h2.keep hf (fun _ _ h => h)⟩)
  | 11, u, W, W', hf, h => h
  | _ + 12, u, W, W', hf, h => trivial
def TuR8 (gc : Nat) (av : Option Addr) (n cv k n2 z : Nat) (l2 : List RowD) (i : Nat) (v : Value) (W : World) : Prop :=
  match i with
  | 0 => v = .pointer (some ⟨gc, 1, none⟩)
  | 1 => v = .slice av n cv
  | 2 => v = .int .i64 (k : Nat)
  | 3 => v = .int .i64 (k : Nat)
  | 4 => v = .slice av k k
  | 5 => v = .pointer (some ⟨gc, 1, none⟩)
  | 6 => v = .slice av n cv
  | 7 => v = .int .i64 (k : Nat)
  | 8 => v = .int .i64 ((k : Int) + 1)
  | 9 => v = .slice (cutLow av (k + 1) cv) (n - (k + 1)) (cv - (k + 1))
  | 10 => ∃ ag cg, v = .slice ag n2 cg ∧ RowT 43 z W (.slice ag n2 cg) (valV l2)
  | 11 => v = .pointer (some ⟨gc, 1, none⟩)
  | _ => True
theorem TuR8.ext (gc : Nat) (av : Option Addr) (n cv k n2 z : Nat) (l2 : List RowD) : ∀ (j : Nat) (u : Value) (W W' : World), Fr (fun _ => False) W W' → TuR8 gc av n cv k n2 z l2 j u W → TuR8 gc av n cv k n2 z l2 j u W'
  | 0, u, W, W', hf, h => h
  | 1, u, W, W', hf, h => h
  | 2, u, W, W', hf, h => h
  | 3, u, W, W', hf, h => h
  | 4, u, W, W', hf, h => h
  | 5, u, W, W', hf, h => h
  | 6, u, W, W', hf, h => h
  | 7, u, W, W', hf, h => h
  | 8, u, W, W', hf, h => h
  | 9, u, W, W', hf, h => h
  | 10, u, W, W', hf, h => (let ⟨x, y, h1, h2⟩ := h; ⟨x, y, h1, h2.keep hf (fun _ _ h => h)⟩)
  | 11, u, W, W', hf, h => h
  | _ + 12, u, W, W', hf, h => trivial
def TuR12 (gc b oo m cl ii : Nat) (ak : Option Addr) (n ck z : Nat) (zs : List Value) (key : ByteArray) (ax : Option Addr) (nx cx : Nat) (i : Nat) (v : Value) (W : World) : Prop :=
  match i with
  | 0 => v = .pointer (some ⟨gc, 0, none⟩)
  | 1 => v = .slice ak n ck
  | 2 => v = .slice (some ⟨b, oo, none⟩) m cl
  | 3 => v = .int .i64 (ii : Nat)
  | 4 => v = .pointer (some ⟨b, oo + ii * 3, none⟩)
  | 5 => v = .pointer (some ⟨b, oo + ii * 3, none⟩)
  | 6 => v = .string key
  | 7 => ∃ gz, v = .slice (some ⟨gz, 0, none⟩) 1 1 ∧ (Value.slice ak n ck).ownBlock ≠ some gz ∧ W.heap[gz]? = some (.cells #[.string key] 9 (0, 0))
  | 8 => ∃ ag cg, v = .slice ag (n + 1) cg ∧ RowT 9 z W (.slice ag (n + 1) cg) zs
  | 9 => v = .pointer (some ⟨gc, 0, none⟩)
  | _ => True
theorem TuR12.ext (gc b oo m cl ii : Nat) (ak : Option Addr) (n ck z : Nat) (zs : List Value) (key : ByteArray) (ax : Option Addr) (nx cx : Nat) : ∀ (j : Nat) (u : Value) (W W' : World), ExtO 9 z (.slice ak n ck) zs W W' → TuR12 gc b oo m cl ii ak n ck z zs key ax nx cx j u W → TuR12 gc b oo m cl ii ak n ck z zs key ax nx cx j u W'
  | 0, u, W, W', hf, h => h
  | 1, u, W, W', hf, h => h
  | 2, u, W, W', hf, h => h
  | 3, u, W, W', hf, h => h
  | 4, u, W, W', hf, h => h
  | 5, u, W, W', hf, h => h
  | 6, u, W, W', hf, h => h
  | 7, u, W, W', hf, h => (let ⟨g, h1, h2, h3⟩ := h; ⟨g, h1, h2, hf.fr.heap h3 h2⟩)
  | 8, u, W, W', hf, h => (let ⟨x, y, h1, h2⟩ := h; ⟨x, y, h1, hf.row _ h2⟩)
  | 9, u, W, W', hf, h => h
  | _ + 10, u, W, W', hf, h => trivial
def TuR13 (gc b oo m cl ii : Nat) (av : Option Addr) (n cv z : Nat) (zs : List Value) (key : ByteArray) (ax : Option Addr) (nx cx : Nat) (i : Nat) (v : Value) (W : World) : Prop :=
  match i with
  | 0 => v = .pointer (some ⟨gc, 1, none⟩)
  | 1 => v = .slice av n cv
  | 2 => v = .slice (some ⟨b, oo, none⟩) m cl
  | 3 => v = .int .i64 (ii : Nat)
  | 4 => v = .pointer (some ⟨b, oo + ii * 3, none⟩)
  | 5 => v = .pointer (some ⟨b, oo + ii * 3 + 1, none⟩)
  | 6 => v = .slice ax nx cx
  | 7 => ∃ gz, v = .slice (some ⟨gz, 0, none⟩) 1 1 ∧ (Value.slice av n cv).ownBlock ≠ some gz ∧ W.heap[gz]? = some (.cells #[.slice ax nx cx] 43 (0, 0))
  | 8 => ∃ ag cg, v = .slice ag (n + 1) cg ∧ RowT 43 z W (.slice ag (n + 1) cg) zs
  | 9 => v = .pointer (some ⟨gc, 1, none⟩)
  | _ => True
theorem TuR13.ext (gc b oo m cl ii : Nat) (av : Option Addr) (n cv z : Nat) (zs : List Value) (key : ByteArray) (ax : Option Addr) (nx cx : Nat) : ∀ (j : Nat) (u : Value) (W W' : World), ExtO 43 z (.slice av n cv) zs W W' → TuR13 gc b oo m cl ii av n cv z zs key ax nx cx j u W → TuR13 gc b oo m cl ii av n cv z zs key ax nx cx j u W'
  | 0, u, W, W', hf, h => h
  | 1, u, W, W', hf, h => h
  | 2, u, W, W', hf, h => h
  | 3, u, W, W', hf, h => h
  | 4, u, W, W', hf, h => h
  | 5, u, W, W', hf, h => h
  | 6, u, W, W', hf, h => h
  | 7, u, W, W', hf, h => (let ⟨g, h1, h2, h3⟩ := h; ⟨g, h1, h2, hf.fr.heap h3 h2⟩)
  | 8, u, W, W', hf, h => (let ⟨x, y, h1, h2⟩ := h; ⟨x, y, h1, hf.row _ h2⟩)
  | 9, u, W, W', hf, h => h
  | _ + 10, u, W, W', hf, h => trivial
theorem VsOut.made {D : Nat → Prop} {z gc : Nat} {w : World} {kv vv : Value} {l : List RowD} (hb : w.heap[gc]? = some (.cells #[.slice none 0 0, .slice none 0 0] 40 (0, 0))) (hlow : z ≤ gc) (hk : RowT 9 z w kv (keyV l)) (hv : RowT 43 z w vv (valV l)) (hby : ∀ p ∈ l, BytesIn D w p.x p.B) (hD : ∀ k, D k → k < z) :
    VsOut D z ((w.setCell ⟨gc, 0, none⟩ kv).setCell ⟨gc, 1, none⟩ vv) gc kv vv l ∧ Fr (fun k => k = gc) w ((w.setCell ⟨gc, 0, none⟩ kv).setCell ⟨gc, 1, none⟩ vv) := by
  have hty : ∀ (T : TypeId) (v : Value) (zs : List Value), RowT T z w v zs → T ≠ 40 → v.ownBlock ≠ some gc := fun T v zs hr hT e => by
    obtain ⟨c, hc⟩ := hr.ty gc e
    rw [hb] at hc
    simp only [Option.some.injEq, Obj.cells.injEq] at hc
    exact hT hc.2.1.symm
  have hg : Fr (fun k => k = gc) w ((w.setCell ⟨gc, 0, none⟩ kv).setCell ⟨gc, 1, none⟩ vv) := (Fr.cell1 w gc 0 kv).trans (Fr.cell1 _ gc 1 vv) (fun k h => .inl h)
  exact ⟨⟨cell_put _ (cell_put _ hb), hlow, hk.keep hg (fun g hg e => hty _ _ _ hk (by decide) (e ▸ hg)), hv.keep hg (fun g hg e => hty _ _ _ hv (by decide) (e ▸ hg)), fun p hp => (hby p hp).keep hg (fun k _ hk e => by have := hD k hk; have e2 : k = gc := e; omega)⟩, hg⟩
theorem VsOut.cells {D : Nat → Prop} {z gc : Nat} {w : World} {kv vv : Value} {l : List RowD} (h : VsOut D z w gc kv vv l) : w.cell? ⟨gc, 0, none⟩ = some kv ∧ w.cell? ⟨gc, 1, none⟩ = some vv ∧ w.frozen? ⟨gc, 0, none⟩ = false ∧ w.frozen? ⟨gc, 1, none⟩ = false :=
  ⟨cell_of_row _ _ _ _ _ _ h.box, cell_of_row _ _ _ _ _ _ h.box, frozen_of_row _ _ _ _ _ h.box, frozen_of_row _ _ _ _ _ h.box⟩
set_option maxRecDepth 100000 in
set_option maxHeartbeats 8000000 in
theorem turned_any {G E : Nat → Prop} {w : World} {kv vv v : Value} {l : List RowD} {L : List ChgD} {M : Tab} (h : VsIn E w kv vv l) (hEb : ∀ p ∈ l, BytesIn G w p.x p.B) (hL : ChgsIn G w v L) (hG : ∀ k, G k → k < w.heap.size) (hn : l.length + L.length ≤ 1000000) (hM : TRep (l.map RowD.row) M) :
    Calls Tryz.prog 14 #[.agg #[kv, vv], v] w fun e w' => ∃ kv' vv' l', e = .returned (.agg #[kv', vv']) ∧ VsOwn G w.heap.size w' kv' vv' l' ∧ l'.length ≤ l.length + L.length ∧ TRep (l'.map RowD.row) (tDoAll M (L.map ChgD.chg)) ∧ Fr (fun _ => False) w w' := by
  obtain ⟨ak, ck, rfl, hk1, hk2, _⟩ := h.ke.open1
  obtain ⟨av, cv, rfl, hv1, hv2, _⟩ := h.ve.open1
  obtain ⟨al, cl, rfl, hl1, hl2, _⟩ := hL.open6
  have hlk : (keyV l).length = l.length := by simp [keyV]
  have hlv : (valV l).length = l.length := by simp [valV]
  obtain ⟨n, hnn⟩ : ∃ n, n = l.length := ⟨_, rfl⟩
  obtain ⟨m, hmm⟩ : ∃ m, m = L.length := ⟨_, rfl⟩
  have HKL := Lib.hid (hlk.trans hnn.symm)
  have HVL := Lib.hid (hlv.trans hnn.symm)
  have HNM := Lib.hid (And.intro hnn (And.intro hmm hn))
  have HN1 := Lib.hid (show n ≤ 1000000 by omega)
  rw [hlk, hlv, ← hnn] at h
  rw [hlk, hlv, ← hnn, ← hmm]
  rw [← hmm] at hL
  obtain ⟨gb, hgb⟩ : ∃ g, g = w.heap.size := ⟨_, rfl⟩
  obtain ⟨gr, hgr⟩ : ∃ g, g = w.heap.size + 1 := ⟨_, rfl⟩
  obtain ⟨W1, hW1⟩ : ∃ W, W = w.alloc (.cells #[.slice ak n ck, .slice av n cv] 40) := ⟨_, rfl⟩
  obtain ⟨W2, hW2⟩ : ∃ W, W = W1.alloc (.cells #[.slice none 0 0, .slice none 0 0] 40) := ⟨_, rfl⟩
  have hf1 : Fr (fun _ => False) w W1 := by rw [hW1]; exact (Fr.refl _ _).alloc _
  have hf12 : Fr (fun _ => False) W1 W2 := by rw [hW2]; exact (Fr.refl _ _).alloc _
  have hf2 : Fr (fun _ => False) w W2 := hf1.trans hf12 (fun _ h => h.elim)
  have hz1 : W1.heap.size = w.heap.size + 1 := by rw [hW1]; simp
  have hz2 : W2.heap.size = w.heap.size + 2 := by rw [hW2]; simp [hz1]
  obtain ⟨z, hz⟩ : ∃ z, z = W2.heap.size := ⟨_, rfl⟩
  have HZ := Lib.hid hz
  have hb1 : W2.heap[gb]? = some (.cells #[.slice ak n ck, .slice av n cv] 40 (0, 0)) := hf12.heap (by rw [hW1, hgb]; exact heap_alloc_new w _) id
  have hb2 : W2.heap[gr]? = some (.cells #[.slice none 0 0, .slice none 0 0] 40 (0, 0)) := by rw [hW2, hgr, ← hz1]; exact heap_alloc_new W1 _
  have HBX := Lib.hid (And.intro hb1 (And.intro hb2 (And.intro hf2 (And.intro hz2 (And.intro hgb hgr)))))
  have HW := Lib.hid (And.intro hW1 hW2)
  have HG := Lib.hid hG
  have HV := Lib.hid (h.keep hf2 (fun _ _ _ h => h))
  have HVB := Lib.hid (show ∀ p ∈ l, BytesIn G W2 p.x p.B from fun p hp => (hEb p hp).keep hf2 (fun _ _ _ h => h))
  have HL := Lib.hid (hL.keep hf2 (fun _ _ _ h => h))
  have HM := Lib.hid hM
  have s0 : W2.cell? ⟨gb, 0, none⟩ = some (.slice ak n ck) := cell_of_row _ _ _ _ _ _ hb1
  have s1 : W2.cell? ⟨gb, 1, none⟩ = some (.slice av n cv) := cell_of_row _ _ _ _ _ _ hb1
  have LDK := Lib.hid (fun (W : World) (hW : Fr (fun _ => False) W2 W) => load_one5 W 37 ⟨gb, 0, none⟩ _ (by kernel_rfl) (hW.cell s0 id))
  have LDV := Lib.hid (fun (W : World) (hW : Fr (fun _ => False) W2 W) => load_one5 W 38 ⟨gb, 1, none⟩ _ (by kernel_rfl) (hW.cell s1 id))
  have HEK := Lib.hid (fun (W : World) (hW : Fr (fun _ => False) W2 W) => HV.out.ke.keep hW (fun _ _ _ h => h))
  have HEV := Lib.hid (fun (W : World) (hW : Fr (fun _ => False) W2 W) => HV.out.ve.keep hW (fun _ _ _ h => h))
  have HVO := Lib.hid (valV_one HV.out.bytes)
  clear h hEb hL hG hn hM hk1 hk2 hv1 hv2 hl1 hl2 hlk hlv hnn hmm hgb hgr hW1 hW2 hf1 hf12 hf2 hz1 hz2 hz hb1 hb2 s0 s1
  go_enter Tryz.func14, Tryz.ntmps14
  go_wp2_with fail
  rw [← HW.out.1, ← HW.out.2, ← HBX.out.2.2.2.2.2, ← HBX.out.2.2.2.2.1]
  refine wp_region_inv 10 (by kernel_rfl) (by kernel_rfl) (fun W => Fr (fun _ => False) W2 W) (TuR gb ak av n ck cv z l) (fun _ _ _ _ => True) (Fr (fun _ => False)) (TuR.ext gb ak av n ck cv z l) (Fr.refl _ _).drew ?_ ?_
  · intro i hi o ho
    replace hi : i < 10 := hi
    obtain rfl | rfl | rfl | rfl | rfl | rfl | rfl | rfl | rfl | rfl : i = 0 ∨ i = 1 ∨ i = 2 ∨ i = 3 ∨ i = 4 ∨ i = 5 ∨ i = 6 ∨ i = 7 ∨ i = 8 ∨ i = 9 := by omega
    · simp only [List.getElem?_cons_zero, Option.some.injEq] at ho
      subst ho
      intro a W vs hB hS hE hU
      refine wpG_plain rfl ?_
      clear hE hU
      have hfa : Fr (fun _ => False) W (W.alloc (.cells #[] 9)) := (Fr.refl _ _).alloc _
      exact wp_value_inv (w' := W.alloc (.cells #[] 9)) (.slice (some ⟨W.heap.size, 0, none⟩) 0 0) (op_rows rfl (vs := #[]) (by simp) (run_noneS W)) ⟨_, rfl, hB.trans hfa (fun _ h => h.elim), hfa, ⟨W.heap.size, rfl, RowT.empty _ _ _ (by have := hB.size; have := HZ.out; omega)⟩, fun _ _ _ _ _ => trivial⟩
    · simp only [List.getElem?_cons_zero, List.getElem?_cons_succ, Option.some.injEq] at ho
      subst ho
      intro a W vs hB hS hE hU
      refine wpG_plain rfl ?_
      have v2 : a.eval (.tmp 2) = .pointer (some ⟨gb, 0, none⟩) := (hU 2 (by kernel_rfl)).trans rfl
      clear hE hU
      exact wp_value_inv (w' := W) (.pointer (some ⟨gb, 0, none⟩)) (op_fieldAddr rfl v2 (fld_spence_spencelaw06_vals_0_0 W gb)) ⟨_, rfl, hB, Fr.refl _ _, rfl, fun _ _ _ _ _ => trivial⟩
    · simp only [List.getElem?_cons_zero, List.getElem?_cons_succ, Option.some.injEq] at ho
      subst ho
      intro a W vs hB hS hE hU
      refine wpG_plain rfl ?_
      obtain ⟨r1, e9⟩ := hE 1 9 (by kernel_rfl) (by kernel_rfl)
      have v9 : a.eval (.tmp 9) = .pointer (some ⟨gb, 0, none⟩) := e9.trans r1
      clear hE hU
      exact wp_value_inv (w' := W) (.slice ak n ck) (op_loadAt rfl v9 (LDK.out W hB)) ⟨_, rfl, hB, Fr.refl _ _, rfl, fun _ _ _ _ _ => trivial⟩
    · simp only [List.getElem?_cons_zero, List.getElem?_cons_succ, Option.some.injEq] at ho
      subst ho
      intro a W vs hB hS hE hU
      refine wpG_plain rfl ?_
      obtain ⟨⟨gz0, rg0, rh0⟩, e8⟩ := hE 0 8 (by kernel_rfl) (by kernel_rfl)
      have v8 : a.eval (.tmp 8) = .slice (some ⟨gz0, 0, none⟩) 0 0 := e8.trans rg0
      obtain ⟨r2, e10⟩ := hE 2 10 (by kernel_rfl) (by kernel_rfl)
      have v10 : a.eval (.tmp 10) = .slice ak n ck := e10.trans r2
      clear hE hU
      refine wp_append_t Tryz.underlying37 infoS1 rfl (by decide) (.tmp 8) (.tmp 10) rfl v8 v10 rh0 (HEK.out W hB) (keyV_one l) (by have := hB.size; have := HZ.out; omega) (by have := HKL.out; have := HN1.out; simp only [List.length_nil]; omega) ?_
      intro v' w' r1 r2 r3
      rw [List.nil_append] at r1
      obtain ⟨ag, cg, hv, _⟩ := r1.row.form
      rw [HKL.out] at hv
      subst hv
      have hf := r3 ⟨_, _, rfl⟩
      exact ⟨_, rfl, hB.trans hf (fun _ h => h.elim), hf, ⟨ag, cg, rfl, r1⟩, fun _ _ _ _ _ => trivial⟩
    · simp only [List.getElem?_cons_zero, List.getElem?_cons_succ, Option.some.injEq] at ho
      subst ho
      intro a W vs hB hS hE hU
      refine wpG_plain rfl ?_
      clear hE hU
      have hfa : Fr (fun _ => False) W (W.alloc (.cells #[] 43)) := (Fr.refl _ _).alloc _
      exact wp_value_inv (w' := W.alloc (.cells #[] 43)) (.slice (some ⟨W.heap.size, 0, none⟩) 0 0) (op_rows rfl (vs := #[]) (by simp) (run_noneB W)) ⟨_, rfl, hB.trans hfa (fun _ h => h.elim), hfa, ⟨W.heap.size, rfl, RowT.empty _ _ _ (by have := hB.size; have := HZ.out; omega)⟩, fun _ _ _ _ _ => trivial⟩
    · simp only [List.getElem?_cons_zero, List.getElem?_cons_succ, Option.some.injEq] at ho
      subst ho
      intro a W vs hB hS hE hU
      refine wpG_plain rfl ?_
      have v2 : a.eval (.tmp 2) = .pointer (some ⟨gb, 0, none⟩) := (hU 2 (by kernel_rfl)).trans rfl
      clear hE hU
      exact wp_value_inv (w' := W) (.pointer (some ⟨gb, 1, none⟩)) (op_fieldAddr rfl v2 (fld_spence_spencelaw06_vals_1_0 W gb)) ⟨_, rfl, hB, Fr.refl _ _, rfl, fun _ _ _ _ _ => trivial⟩
    · simp only [List.getElem?_cons_zero, List.getElem?_cons_succ, Option.some.injEq] at ho
      subst ho
      intro a W vs hB hS hE hU
      refine wpG_plain rfl ?_
      obtain ⟨r5, e13⟩ := hE 5 13 (by kernel_rfl) (by kernel_rfl)
      have v13 : a.eval (.tmp 13) = .pointer (some ⟨gb, 1, none⟩) := e13.trans r5
      clear hE hU
      exact wp_value_inv (w' := W) (.slice av n cv) (op_loadAt rfl v13 (LDV.out W hB)) ⟨_, rfl, hB, Fr.refl _ _, rfl, fun _ _ _ _ _ => trivial⟩
    · simp only [List.getElem?_cons_zero, List.getElem?_cons_succ, Option.some.injEq] at ho
      subst ho
      intro a W vs hB hS hE hU
      refine wpG_plain rfl ?_
      obtain ⟨⟨gz4, rg4, rh4⟩, e12⟩ := hE 4 12 (by kernel_rfl) (by kernel_rfl)
      have v12 : a.eval (.tmp 12) = .slice (some ⟨gz4, 0, none⟩) 0 0 := e12.trans rg4
      obtain ⟨r6, e14⟩ := hE 6 14 (by kernel_rfl) (by kernel_rfl)
      have v14 : a.eval (.tmp 14) = .slice av n cv := e14.trans r6
      clear hE hU
      refine wp_append_t Tryz.underlying38 infoB1 rfl (by decide) (.tmp 12) (.tmp 14) rfl v12 v14 rh4 (HEV.out W hB) HVO.out (by have := hB.size; have := HZ.out; omega) (by have := HVL.out; have := HN1.out; simp only [List.length_nil]; omega) ?_
      intro v' w' r1 r2 r3
      rw [List.nil_append] at r1
      obtain ⟨ag, cg, hv, _⟩ := r1.row.form
      rw [HVL.out] at hv
      subst hv
      have hf := r3 ⟨_, _, rfl⟩
      exact ⟨_, rfl, hB.trans hf (fun _ h => h.elim), hf, ⟨ag, cg, rfl, r1⟩, fun _ _ _ _ _ => trivial⟩
    · simp only [List.getElem?_cons_zero, List.getElem?_cons_succ, Option.some.injEq] at ho
      subst ho
      intro a W vs hB hS hE hU
      refine wpG_plain rfl ?_
      obtain ⟨⟨ag3, cg3, rg3, rh3⟩, e11⟩ := hE 3 11 (by kernel_rfl) (by kernel_rfl)
      have v11 : a.eval (.tmp 11) = .slice ag3 n cg3 := e11.trans rg3
      obtain ⟨⟨ag7, cg7, rg7, rh7⟩, e15⟩ := hE 7 15 (by kernel_rfl) (by kernel_rfl)
      have v15 : a.eval (.tmp 15) = .slice ag7 n cg7 := e15.trans rg7
      clear hE hU
      exact wp_value_inv (w' := W) (.agg #[.slice ag3 n cg3, .slice ag7 n cg7]) (op_buildV rfl v11 v15) ⟨_, rfl, hB, Fr.refl _ _, ⟨_, _, _, _, rfl, rh3, rh7⟩, fun _ _ _ _ _ => trivial⟩
    · simp only [List.getElem?_cons_zero, List.getElem?_cons_succ, Option.some.injEq] at ho
      subst ho
      intro a W vs hB hS hE hU
      refine wpG_plain rfl ?_
      clear hE hU
      have hfa : Fr (fun _ => False) W (W.alloc (.cells #[.slice none 0 0, .slice none 0 0] 40)) := (Fr.refl _ _).alloc _
      exact wp_value_inv (w' := W.alloc (.cells #[.slice none 0 0, .slice none 0 0] 40)) (.pointer (some ⟨W.heap.size, 0, none⟩)) (op_allocV rfl) ⟨_, rfl, hB.trans hfa (fun _ h => h.elim), hfa, ⟨W.heap.size, rfl, by have := hB.size; have := HZ.out; omega, heap_alloc_new W _⟩, fun _ _ _ _ _ => trivial⟩
  · intro vs Wb hB0 hR0 hD
    obtain ⟨gc, r5, b5, c5⟩ := hR0 9 (by decide)
    obtain ⟨a1, c1, a2, c2, r16, k1, k2⟩ := hR0 8 (by decide)
    have HB := Lib.hid hB0
    clear hR0 hD hB0
    simp only [acts, if_true, dstAt, List.getElem?_cons_zero, List.getElem?_cons_succ, Option.bind_some, Act.put, List.setIfInBounds_toArray, List.set_cons_succ, List.set_cons_zero, List.drop_succ_cons]
    simp only [r5, r16]
    clear r5 r16
    have HMK := Lib.hid (VsOut.made (D := G) c5 b5 k1 k2 (fun p hp => (HVB.out p hp).keep HB.out (fun _ _ _ h => h)) (fun k hk => by have := HG.out k hk; have := HZ.out; have := HBX.out.2.2.2.1; omega))
    have hx0 : Wb.cell? ⟨gc, 0, none⟩ = some (.slice none 0 0) := cell_of_row _ _ _ _ _ _ c5
    have hx1 : Wb.cell? ⟨gc, 1, none⟩ = some (.slice none 0 0) := cell_of_row _ _ _ _ _ _ c5
    have f0 := frozen_of_row _ _ 0 _ _ c5
    have f1 := frozen_of_row _ _ 1 _ _ c5
    have HLO := Lib.hid b5
    clear c5 b5 k1 k2
    go_wp2_with fail
    obtain ⟨Wm, hWm⟩ : ∃ W, W = (Wb.setCell ⟨gc, 0, none⟩ (.slice a1 n c1)).setCell ⟨gc, 1, none⟩ (.slice a2 n c2) := ⟨_, rfl⟩
    rw [← hWm]
    have HMM := Lib.hid (show VsOut G z Wm gc (.slice a1 n c1) (.slice a2 n c2) l ∧ Fr (fun _ => False) W2 Wm by
      rw [hWm]
      refine ⟨HMK.out.1, HB.out.trans HMK.out.2 (fun k e => .inr ?_)⟩
      have := HLO.out
      have := HZ.out
      have e2 : k = gc := e
      omega)
    clear hWm HMK hx0 hx1 f0 f1 HB LDK LDV HEK HEV HVO HV HVB
    have HDZ := Lib.hid (show ∀ k, G k → k < z from fun k hk => by have := HG.out k hk; have := HZ.out; have := HBX.out.2.2.2.1; omega)
    have hm6 : m ≤ 1000000 := by have := HNM.out.2.1; have := HNM.out.2.2; omega
    go_loopw [6] (fun iv wr => ∃ i : Nat, i ≤ m ∧ iv = .int .i64 i ∧ Hid (∃ kv vv l', VsOut G z wr gc kv vv l' ∧ TRep (l'.map RowD.row) (tDoAll M ((L.take i).map ChgD.chg)) ∧ l'.length ≤ n + i ∧ Fr (fun _ => False) W2 wr)) (fun iv _ => m - (intOf iv).toNat)
    case atStart => exact ⟨0, by omega, rfl, Lib.hid ⟨_, _, l, HMM.out.1, HM.out, by have := HNM.out.1; omega, HMM.out.2⟩⟩
    case round =>
      clear HMM
      obtain ⟨i, hi, rfl, hR⟩ := hrel
      by_cases hlt : i < m
      case neg =>
        obtain rfl : i = m := by omega
        obtain ⟨kv, vv, l', v1, v2, v3, v4⟩ := hR.out
        obtain ⟨ak', ck', rfl, _⟩ := v1.kr.row.form
        obtain ⟨av', cv', rfl, _⟩ := v1.vr.row.form
        obtain ⟨s0, s1, _, _⟩ := v1.cells
        have hr2 := v4.heap HBX.out.2.1 id
        have q0 : wr.cell? ⟨gr, 0, none⟩ = some (.slice none 0 0) := cell_of_row _ _ _ _ _ _ hr2
        have q1 : wr.cell? ⟨gr, 1, none⟩ = some (.slice none 0 0) := cell_of_row _ _ _ _ _ _ hr2
        have y0 := frozen_of_row _ _ 0 _ _ hr2
        have y1 := frozen_of_row _ _ 1 _ _ hr2
        have HFI := Lib.hid (And.intro v1 (And.intro v2 (And.intro v3 (And.intro v4 hr2))))
        clear v1 v2 v3 v4 hr2
        have HQL := Lib.hid (show (L.take i).map ChgD.chg = L.map ChgD.chg by rw [List.take_of_length_le (Nat.le_of_eq HNM.out.2.1.symm)])
        go_wp2_with fail
        have q2 : ((wr.setCell ⟨gr, 0, none⟩ (.slice ak' (keyV l').length ck')).setCell ⟨gr, 1, none⟩ (.slice av' (valV l').length cv')).heap[gr]? = some (.cells #[.slice ak' (keyV l').length ck', .slice av' (valV l').length cv'] 40 (0, 0)) := cell_put _ (cell_put _ HFI.out.2.2.2.2)
        have hp := (Fr.cell1 wr gr 0 (.slice ak' (keyV l').length ck')).trans (Fr.cell1 _ gr 1 (.slice av' (valV l').length cv')) (fun k h => .inl h)
        have z0 : ((wr.setCell ⟨gr, 0, none⟩ (.slice ak' (keyV l').length ck')).setCell ⟨gr, 1, none⟩ (.slice av' (valV l').length cv')).cell? ⟨gr, 0, none⟩ = some (.slice ak' (keyV l').length ck') := cell_of_row _ _ _ _ _ _ q2
        have z1 : ((wr.setCell ⟨gr, 0, none⟩ (.slice ak' (keyV l').length ck')).setCell ⟨gr, 1, none⟩ (.slice av' (valV l').length cv')).cell? ⟨gr, 1, none⟩ = some (.slice av' (valV l').length cv') := cell_of_row _ _ _ _ _ _ q2
        refine bodyPost_ret (v := .agg #[.slice ak' (keyV l').length ck', .slice av' (valV l').length cv']) (by simp [results, Tryz.results14, z0, z1, go_sem]) rfl ?_
        have hzz := HZ.out
        have hz2 := HBX.out.2.2.2.1
        have hgr := HBX.out.2.2.2.2.2
        have hsz := hp.size
        refine ⟨_, _, l', rfl, ⟨(HFI.out.1.kr.keep hp (fun g hg e => HFI.out.1.kr.not HFI.out.2.2.2.2 (by decide) (by rw [hg, show g = gr from e]))).mono (by omega), (HFI.out.1.vr.keep hp (fun g hg e => HFI.out.1.vr.not HFI.out.2.2.2.2 (by decide) (by rw [hg, show g = gr from e]))).mono (by omega), fun p hp' => (HFI.out.1.bytes p hp').keep hp (fun k _ hk e => ?_)⟩, by have := HFI.out.2.2.1; have := HNM.out.1; omega, by rw [← HQL.out]; exact HFI.out.2.1, (HBX.out.2.2.1.trans HFI.out.2.2.2.1 (fun _ h => h.elim)).trans hp (fun k e => .inr ?_)⟩
        · have e2 : k = gr := e
          have := HG.out k hk
          omega
        · have e2 : k = gr := e
          omega
      case pos =>
        have hiL : i < L.length := by have := HNM.out.2.1; omega
        have HLT := Lib.hid hlt
        obtain ⟨kv, vv, l', v1, v2, v3, v4⟩ := hR.out
        obtain ⟨aa, ca, hva, _, _, b, o, hao, hce⟩ := (HL.out.keep v4 (fun _ _ _ h => h)).open6
        simp only [Value.slice.injEq] at hva
        obtain ⟨rfl, -, rfl⟩ := hva
        obtain ⟨rfl, hGb⟩ := hao (by omega)
        have HGB := Lib.hid hGb
        obtain ⟨e0, e1, e2⟩ := hce i hiL
        have hbx := (HL.out.keep v4 (fun _ _ _ h => h)).bytes _ (List.getElem_mem hiL)
        have hch : L[i].chg = (L[i].key.data.toList, if L[i].gone then none else some L[i].B) := rfl
        obtain ⟨key, hkey⟩ : ∃ x, x = L[i].key := ⟨_, rfl⟩
        obtain ⟨x, hx⟩ : ∃ x, x = L[i].x := ⟨_, rfl⟩
        obtain ⟨B, hB⟩ : ∃ x, x = L[i].B := ⟨_, rfl⟩
        obtain ⟨gone, hgo⟩ : ∃ x, x = L[i].gone := ⟨_, rfl⟩
        rw [← hkey] at e0
        rw [← hx] at e1 hbx
        rw [← hB] at hbx
        rw [← hgo] at e2
        rw [← hkey, ← hB, ← hgo] at hch
        obtain ⟨ax, cx, rfl, _⟩ := id hbx
        have hstep : tDoAll M ((L.take (i + 1)).map ChgD.chg) = tDo (tDoAll M ((L.take i).map ChgD.chg)) (key.data.toList, if gone then none else some B) := by
          rw [List.take_succ_eq_append_getElem hiL, List.map_append, List.map_singleton, hch]
          unfold tDoAll
          rw [List.foldl_append]
          rfl
        obtain ⟨Mi, hMi⟩ : ∃ Mi, Mi = tDoAll M ((L.take i).map ChgD.chg) := ⟨_, rfl⟩
        rw [← hMi] at hstep v2
        have HST := Lib.hid hstep
        have HV1 := Lib.hid (And.intro v1 (And.intro v2 (And.intro v3 v4)))
        have HBX2 := Lib.hid hbx
        have hln : l'.length ≤ 1000000 := by have := HNM.out.2.2; have := HNM.out.1; have := HNM.out.2.1; omega
        obtain ⟨ak', ck', rfl, hk1, hk2, _⟩ := v1.kr.row.form
        obtain ⟨av', cv', rfl, hv1, hv2, _⟩ := v1.vr.row.form
        rw [show (keyV l').length = l'.length by simp [keyV]] at HV1 v1 hk1
        rw [show (valV l').length = l'.length by simp [valV]] at HV1 v1 hv1
        obtain ⟨n', hn'⟩ : ∃ n', n' = l'.length := ⟨_, rfl⟩
        have HN' := Lib.hid (And.intro hn' hln)
        rw [← hn'] at HV1 v1 hk1 hv1 hln
        have HFI := Lib.hid (fun (W : World) (hf : Fr (fun _ => False) wr W) => find_any W (.slice ak' n' ck') (.slice av' n' cv') l' key (HV1.out.1.vs.keep hf (fun _ _ _ h => h)) HN'.out.2)
        obtain ⟨s0, s1, _, _⟩ := v1.cells
        clear hR hiL hao hce hkey hx hB hgo hch hstep hMi v1 v2 v3 v4 hbx hn' hGb
        cases hfd : fnd l' key with
        | none =>
          have hfi : fndI l' key = -1 := by unfold fndI; rw [hfd]
          rw [hfi] at HFI
          have HNK := Lib.hid hfd
          clear hfd hfi
          go_wp2_with fail
          go_region_held_law (fun w' => w'.cell? ⟨gc, 0, none⟩ = some (.slice ak' n' ck') ∧ w'.cell? ⟨gc, 1, none⟩ = some (.slice av' n' cv') ∧ w'.cell? ⟨b, o + i * 3, none⟩ = some (.string key)) (first | exact ⟨by assumption, by assumption, by assumption⟩ | go_keep) (first | (go_at_call 32; (refine (HFI.out _ (Fr.refl _ wr).drew).mono ?_); rintro e w4 ⟨rfl, hf4⟩; (have H4 := Lib.hid ((Fr.refl (fun _ => False) wr).drew.trans hf4 (fun _ h => h.elim))); (have s0 := H4.out.cell s0 id); (have s1 := H4.out.cell s1 id); (have e0 := H4.out.cell e0 id); (have e1 := H4.out.cell e1 id); (have e2 := H4.out.cell e2 id); clear hf4))
          all_goals (
            have HV4 := Lib.hid (HV1.out.1.keep H4.out (fun _ _ _ h => h) (fun _ _ _ h => h))
            cases gone with
            | true =>
              have HTR := Lib.hid (show TRep (l'.map RowD.row) (tDoAll M ((L.take (i + 1)).map ChgD.chg)) by rw [HST.out]; exact rep_not HV1.out.2.1 HNK.out)
              go_wp2_with fail
              go_roundw
              case rel => exact ⟨i + 1, by have := HLT.out; omega, by go_num, Lib.hid ⟨_, _, l', HV4.out, HTR.out, by have := HV1.out.2.2.1; have := HN'.out.1; omega, HV1.out.2.2.2.trans H4.out (fun _ h => h.elim)⟩⟩
              case measure => (have := HLT.out; simp [intOf]; omega)
            | false =>
              obtain ⟨l2, hl2⟩ : ∃ l2, l2 = l' ++ [(⟨key, .slice ax B.length cx, B⟩ : RowD)] := ⟨_, rfl⟩
              have HLN := Lib.hid (show (keyV l').length = n' ∧ (valV l').length = n' from ⟨by rw [HN'.out.1]; simp [keyV], by rw [HN'.out.1]; simp [valV]⟩)
              have LD12Z := Lib.hid (show keyV l' ++ [.string key] = keyV l2 ∧ (keyV l2).length = n' + 1 by rw [hl2]; exact ⟨by simp [keyV], by rw [HN'.out.1]; simp [keyV]⟩)
              have LD13Z := Lib.hid (show valV l' ++ [.slice ax B.length cx] = valV l2 ∧ (valV l2).length = n' + 1 by rw [hl2]; exact ⟨by simp [valV], by rw [HN'.out.1]; simp [valV]⟩)
              have HTR := Lib.hid (show TRep (l2.map RowD.row) (tDoAll M ((L.take (i + 1)).map ChgD.chg)) by rw [HST.out, hl2]; exact rep_add HV1.out.2.1 HNK.out _ B)
              have HX4 := Lib.hid (HBX2.out.keep H4.out (fun _ _ _ h => h))
              have HNE := Lib.hid (And.intro HV4.out.key_ne HV4.out.box)
              have HZ4 := Lib.hid (show z ≤ w4.heap.size by have := HV4.out.low; have := lt_of_block HV4.out.box; omega)
              have hbn : ∀ (v : Value) (T : TypeId) (zs : List Value), RowT T z w4 v zs → v.ownBlock ≠ some b := fun v T zs hr e => by have h1 := HDZ.out b HGB.out; have h2 := (hr.row.own b e).1; omega
              have HBN := Lib.hid (And.intro (hbn _ _ _ HV4.out.kr) (hbn _ _ _ HV4.out.vr))
              have LD12 := Lib.hid (fun (W : World) (hW : BO 9 z w4 (.slice ak' n' ck') (keyV l') W) => load_one5 W 37 ⟨gc, 0, none⟩ _ (by kernel_rfl) (hW.fr.cell s0 HNE.out.1.1))
              have LD12E := Lib.hid (fun (W : World) (hW : BO 9 z w4 (.slice ak' n' ck') (keyV l') W) => load_one5 W 9 ⟨b, o + i * 3, none⟩ _ (by kernel_rfl) (hW.fr.cell e0 HBN.out.1))
              have LD12O := Lib.hid (show ∀ u ∈ [Value.string key], u.oneCell' = true from fun u hu => by rw [List.mem_singleton.1 hu]; rfl)
              have LD13O := Lib.hid (show ∀ u ∈ [Value.slice ax B.length cx], u.oneCell' = true from fun u hu => by rw [List.mem_singleton.1 hu]; rfl)
              have LD12N := Lib.hid (show (keyV l').length + [Value.string key].length ≤ 1000000 by have := HLN.out.1; have := HN'.out.1; have := HV1.out.2.2.1; have := HNM.out; have := HLT.out; simp only [List.length_singleton]; omega)
              have LD13N := Lib.hid (show (valV l').length + [Value.slice ax B.length cx].length ≤ 1000000 by have := HLN.out.2; have := HN'.out.1; have := HV1.out.2.2.1; have := HNM.out; have := HLT.out; simp only [List.length_singleton]; omega)
              have HR12 := Lib.hid (show RowT 9 z w4.drew (.slice ak' n' ck') (keyV l') from HV4.out.kr.keep (Fr.refl (fun _ => False) _).drew (fun _ _ h => h))
              go_wp2_with fail
              refine wp_region_inv 10 (by kernel_rfl) (by kernel_rfl) (fun W => BO 9 z w4 (.slice ak' n' ck') (keyV l') W) (TuR12 gc b o m cl i ak' n' ck' z (keyV l2) key ax B.length cx) (fun _ _ _ _ => True) (ExtO 9 z (.slice ak' n' ck') (keyV l2)) (TuR12.ext gc b o m cl i ak' n' ck' z (keyV l2) key ax B.length cx) ⟨(Fr.refl _ _).drew, HR12.out⟩ ?_ ?_
              · intro i hi o ho
                replace hi : i < 10 := hi
                obtain rfl | rfl | rfl | rfl | rfl | rfl | rfl | rfl | rfl | rfl : i = 0 ∨ i = 1 ∨ i = 2 ∨ i = 3 ∨ i = 4 ∨ i = 5 ∨ i = 6 ∨ i = 7 ∨ i = 8 ∨ i = 9 := by omega
                · simp only [List.getElem?_cons_zero, Option.some.injEq] at ho
                  subst ho
                  intro a W vs hB hS hE hU
                  refine wpG_plain rfl ?_
                  have v5 : a.eval (.tmp 5) = .pointer (some ⟨gc, 0, none⟩) := (hU 5 (by kernel_rfl)).trans rfl
                  clear hE hU
                  exact wp_value_inv (w' := W) (.pointer (some ⟨gc, 0, none⟩)) (op_fieldAddr rfl v5 (fld_spence_spencelaw06_vals_0_0 W gc)) ⟨_, rfl, hB, ExtO.refl _ _ _ _ _, rfl, fun _ _ _ _ _ => trivial⟩
                · simp only [List.getElem?_cons_zero, List.getElem?_cons_succ, Option.some.injEq] at ho
                  subst ho
                  intro a W vs hB hS hE hU
                  refine wpG_plain rfl ?_
                  obtain ⟨r0, e91⟩ := hE 0 91 (by kernel_rfl) (by kernel_rfl)
                  have v91 : a.eval (.tmp 91) = .pointer (some ⟨gc, 0, none⟩) := e91.trans r0
                  clear hE hU
                  exact wp_value_inv (w' := W) (.slice ak' n' ck') (op_loadAt rfl v91 (LD12.out W hB)) ⟨_, rfl, hB, ExtO.refl _ _ _ _ _, rfl, fun _ _ _ _ _ => trivial⟩
                · simp only [List.getElem?_cons_zero, List.getElem?_cons_succ, Option.some.injEq] at ho
                  subst ho
                  intro a W vs hB hS hE hU
                  refine wpG_plain rfl ?_
                  have v1 : a.eval (.tmp 1) = .slice (some ⟨b, o, none⟩) m cl := (hU 1 (by kernel_rfl)).trans rfl
                  clear hE hU
                  exact wp_value_inv (w' := W) (.slice (some ⟨b, o, none⟩) m cl) (op_move rfl v1) ⟨_, rfl, hB, ExtO.refl _ _ _ _ _, rfl, fun _ _ _ _ _ => trivial⟩
                · simp only [List.getElem?_cons_zero, List.getElem?_cons_succ, Option.some.injEq] at ho
                  subst ho
                  intro a W vs hB hS hE hU
                  refine wpG_plain rfl ?_
                  have v6 : a.eval (.tmp 6) = .int .i64 (i : Nat) := (hU 6 (by kernel_rfl)).trans rfl
                  clear hE hU
                  exact wp_value_inv (w' := W) (.int .i64 (i : Nat)) (op_move rfl v6) ⟨_, rfl, hB, ExtO.refl _ _ _ _ _, rfl, fun _ _ _ _ _ => trivial⟩
                · simp only [List.getElem?_cons_zero, List.getElem?_cons_succ, Option.some.injEq] at ho
                  subst ho
                  intro a W vs hB hS hE hU
                  refine wpG_plain rfl ?_
                  obtain ⟨r2, e93⟩ := hE 2 93 (by kernel_rfl) (by kernel_rfl)
                  have v93 : a.eval (.tmp 93) = .slice (some ⟨b, o, none⟩) m cl := e93.trans r2
                  obtain ⟨r3, e94⟩ := hE 3 94 (by kernel_rfl) (by kernel_rfl)
                  have v94 : a.eval (.tmp 94) = .int .i64 (i : Nat) := e94.trans r3
                  clear hE hU
                  exact wp_value_inv (w' := W) (.pointer (some ⟨b, o + i * 3, none⟩)) (op_indexAddr rfl v93 v94 (run_index_ch6 W b o m cl i HLT.out)) ⟨_, rfl, hB, ExtO.refl _ _ _ _ _, rfl, fun _ _ _ _ _ => trivial⟩
                · simp only [List.getElem?_cons_zero, List.getElem?_cons_succ, Option.some.injEq] at ho
                  subst ho
                  intro a W vs hB hS hE hU
                  refine wpG_plain rfl ?_
                  obtain ⟨r4, e95⟩ := hE 4 95 (by kernel_rfl) (by kernel_rfl)
                  have v95 : a.eval (.tmp 95) = .pointer (some ⟨b, o + i * 3, none⟩) := e95.trans r4
                  clear hE hU
                  exact wp_value_inv (w' := W) (.pointer (some ⟨b, o + i * 3, none⟩)) (op_fieldAddr rfl v95 (fld_ch0 W _ _)) ⟨_, rfl, hB, ExtO.refl _ _ _ _ _, rfl, fun _ _ _ _ _ => trivial⟩
                · simp only [List.getElem?_cons_zero, List.getElem?_cons_succ, Option.some.injEq] at ho
                  subst ho
                  intro a W vs hB hS hE hU
                  refine wpG_plain rfl ?_
                  obtain ⟨r5, e96⟩ := hE 5 96 (by kernel_rfl) (by kernel_rfl)
                  have v96 : a.eval (.tmp 96) = .pointer (some ⟨b, o + i * 3, none⟩) := e96.trans r5
                  clear hE hU
                  exact wp_value_inv (w' := W) (.string key) (op_loadAt rfl v96 (LD12E.out W hB)) ⟨_, rfl, hB, ExtO.refl _ _ _ _ _, rfl, fun _ _ _ _ _ => trivial⟩
                · simp only [List.getElem?_cons_zero, List.getElem?_cons_succ, Option.some.injEq] at ho
                  subst ho
                  intro a W vs hB hS hE hU
                  refine wpG_plain rfl ?_
                  obtain ⟨r6, e97⟩ := hE 6 97 (by kernel_rfl) (by kernel_rfl)
                  have v97 : a.eval (.tmp 97) = .string key := e97.trans r6
                  clear hE hU
                  have hfa : Fr (fun _ => False) W (W.alloc (.cells #[.string key] 9)) := (Fr.refl _ _).alloc _
                  exact wp_value_inv (w' := W.alloc (.cells #[.string key] 9)) (.slice (some ⟨W.heap.size, 0, none⟩) 1 1) (op_rows rfl (vs := #[(0, .string key)]) (by simp only [List.map_toArray, List.map_cons, List.map_nil, v97]) (made_str1 W _)) ⟨_, rfl, hB.ext hfa, ExtO.of hfa, ⟨W.heap.size, rfl, fun e => by have := (hB.row.row.own _ e).2; omega, heap_alloc_new W _⟩, fun _ _ _ _ _ => trivial⟩
                · simp only [List.getElem?_cons_zero, List.getElem?_cons_succ, Option.some.injEq] at ho
                  subst ho
                  intro a W vs hB hS hE hU
                  refine wpG_plain rfl ?_
                  obtain ⟨r1, e92⟩ := hE 1 92 (by kernel_rfl) (by kernel_rfl)
                  have v92 : a.eval (.tmp 92) = .slice ak' n' ck' := e92.trans r1
                  obtain ⟨⟨gz7, rg7, rn7, rh7⟩, e98⟩ := hE 7 98 (by kernel_rfl) (by kernel_rfl)
                  have v98 : a.eval (.tmp 98) = .slice (some ⟨gz7, 0, none⟩) 1 1 := e98.trans rg7
                  clear hE hU
                  refine wp_append_o Tryz.underlying37 infoS1 rfl (by decide) (.tmp 92) (.tmp 98) rfl v92 v98 hB.row (Elems.ofBlock (c := [.string key]) rh7 rfl) LD12O.out (by have := hB.fr.size; have := HZ4.out; omega) LD12N.out ?_
                  intro v' w' r1 r2 r3
                  have hB' : BO 9 z _ _ _ w' := ⟨hB.fr.trans r2 (fun _ h => .inl h), r3 _ _ (.inl rfl) hB.row⟩
                  rw [LD12Z.out.1] at r1 r3
                  obtain ⟨ag, cg, hv, _⟩ := r1.row.form
                  rw [LD12Z.out.2] at hv
                  subst hv
                  exact ⟨_, rfl, hB', ⟨r2, fun u hu => r3 u _ (.inr rfl) hu⟩, ⟨ag, cg, rfl, r1⟩, fun _ _ _ _ _ => trivial⟩
                · simp only [List.getElem?_cons_zero, List.getElem?_cons_succ, Option.some.injEq] at ho
                  subst ho
                  intro a W vs hB hS hE hU
                  refine wpG_plain rfl ?_
                  have v5 : a.eval (.tmp 5) = .pointer (some ⟨gc, 0, none⟩) := (hU 5 (by kernel_rfl)).trans rfl
                  clear hE hU
                  exact wp_value_inv (w' := W) (.pointer (some ⟨gc, 0, none⟩)) (op_fieldAddr rfl v5 (fld_spence_spencelaw06_vals_0_0 W gc)) ⟨_, rfl, hB, ExtO.refl _ _ _ _ _, rfl, fun _ _ _ _ _ => trivial⟩
              · intro vs w7 hB0 hR0 hD
                obtain ⟨a7, c7, r99, k99⟩ := hR0 8 (by decide)
                have r100 : vs 9 = .pointer (some ⟨gc, 0, none⟩) := hR0 9 (by decide)
                have f99 := hB0.fr
                clear hR0 hD hB0
                simp only [acts, if_true, dstAt, List.getElem?_cons_zero, List.getElem?_cons_succ, Option.bind_some, Act.put, List.setIfInBounds_toArray, List.set_cons_succ, List.set_cons_zero, List.drop_succ_cons]
                simp only [r99, r100]
                clear r99 r100
                have hb7 := f99.heap HNE.out.2 HNE.out.1.1
                have x7 : w7.cell? ⟨gc, 0, none⟩ = some (.slice ak' n' ck') := cell_of_row _ _ _ _ _ _ hb7
                have g7 := frozen_of_row _ _ 0 _ _ hb7
                obtain ⟨W7, hW7⟩ : ∃ W, W = w7.setCell ⟨gc, 0, none⟩ (.slice a7 (n' + 1) c7) := ⟨_, rfl⟩
                have HP7 := Lib.hid (HV4.out.putK f99 HDZ.out k99)
                have HQ7 := Lib.hid (show BytesIn G w7 (.slice ax B.length cx) B ∧ w7.cell? ⟨b, o + i * 3 + 1, none⟩ = some (.slice ax B.length cx) from ⟨HX4.out.keep f99 (fun k _ hk e => by have h1 := HDZ.out k hk; have h2 := (HV4.out.kr.row.own k e).1; omega), f99.cell e1 HBN.out.1⟩)
                have HR7 := Lib.hid (show BytesIn G W7 (.slice ax B.length cx) B ∧ W7.cell? ⟨b, o + i * 3 + 1, none⟩ = some (.slice ax B.length cx) by
                  rw [hW7]
                  exact ⟨HQ7.out.1.keep (Fr.cell1 w7 gc 0 _) (fun k _ hk e => by have h1 := HDZ.out k hk; have h2 := HV4.out.low; have e2 : k = gc := e; omega), (Fr.cell1 w7 gc 0 _).cell HQ7.out.2 (fun e => by have h1 := HDZ.out b HGB.out; have h2 := HV4.out.low; have e2 : b = gc := e; omega)⟩)
                rw [← hW7] at HP7
                clear hb7 f99 k99 HQ7
                go_wp2_with fail
                rw [← hW7]
                clear hW7 x7 g7
                have s1 : W7.cell? ⟨gc, 1, none⟩ = some (.slice av' n' cv') := cell_of_row _ _ _ _ _ _ HP7.out.1
                have hnv7 : (Value.slice av' n' cv').ownBlock ≠ some gc := HNE.out.1.2.1
                have HNV := Lib.hid hnv7
                have LD13 := Lib.hid (fun (W : World) (hW : BO 43 z W7 (.slice av' n' cv') (valV l') W) => load_one5 W 38 ⟨gc, 1, none⟩ _ (by kernel_rfl) (hW.fr.cell s1 HNV.out))
                have LD13E := Lib.hid (fun (W : World) (hW : BO 43 z W7 (.slice av' n' cv') (valV l') W) => load_one5 W 43 ⟨b, o + i * 3 + 1, none⟩ _ (by kernel_rfl) (hW.fr.cell HR7.out.2 HBN.out.2))
                have HR13 := Lib.hid (show RowT 43 z W7.drew (.slice av' n' cv') (valV l') from HP7.out.2.2.1.keep (Fr.refl (fun _ => False) _).drew (fun _ _ h => h))
                clear HZ4 hnv7
                have HZ4 := Lib.hid (show z ≤ W7.heap.size by have := HV4.out.low; have := lt_of_block HP7.out.1; omega)
                refine wp_region_inv 10 (by kernel_rfl) (by kernel_rfl) (fun W => BO 43 z W7 (.slice av' n' cv') (valV l') W) (TuR13 gc b o m cl i av' n' cv' z (valV l2) key ax B.length cx) (fun _ _ _ _ => True) (ExtO 43 z (.slice av' n' cv') (valV l2)) (TuR13.ext gc b o m cl i av' n' cv' z (valV l2) key ax B.length cx) ⟨(Fr.refl _ _).drew, HR13.out⟩ ?_ ?_
                · intro i hi o ho
                  replace hi : i < 10 := hi
                  obtain rfl | rfl | rfl | rfl | rfl | rfl | rfl | rfl | rfl | rfl : i = 0 ∨ i = 1 ∨ i = 2 ∨ i = 3 ∨ i = 4 ∨ i = 5 ∨ i = 6 ∨ i = 7 ∨ i = 8 ∨ i = 9 := by omega
                  · simp only [List.getElem?_cons_zero, Option.some.injEq] at ho
                    subst ho
                    intro a W vs hB hS hE hU
                    refine wpG_plain rfl ?_
                    have v5 : a.eval (.tmp 5) = .pointer (some ⟨gc, 0, none⟩) := (hU 5 (by kernel_rfl)).trans rfl
                    clear hE hU
                    exact wp_value_inv (w' := W) (.pointer (some ⟨gc, 1, none⟩)) (op_fieldAddr rfl v5 (fld_spence_spencelaw06_vals_1_0 W gc)) ⟨_, rfl, hB, ExtO.refl _ _ _ _ _, rfl, fun _ _ _ _ _ => trivial⟩
                  · simp only [List.getElem?_cons_zero, List.getElem?_cons_succ, Option.some.injEq] at ho
                    subst ho
                    intro a W vs hB hS hE hU
                    refine wpG_plain rfl ?_
                    obtain ⟨r0, e101⟩ := hE 0 101 (by kernel_rfl) (by kernel_rfl)
                    have v101 : a.eval (.tmp 101) = .pointer (some ⟨gc, 1, none⟩) := e101.trans r0
                    clear hE hU
                    exact wp_value_inv (w' := W) (.slice av' n' cv') (op_loadAt rfl v101 (LD13.out W hB)) ⟨_, rfl, hB, ExtO.refl _ _ _ _ _, rfl, fun _ _ _ _ _ => trivial⟩
                  · simp only [List.getElem?_cons_zero, List.getElem?_cons_succ, Option.some.injEq] at ho
                    subst ho
                    intro a W vs hB hS hE hU
                    refine wpG_plain rfl ?_
                    have v1 : a.eval (.tmp 1) = .slice (some ⟨b, o, none⟩) m cl := (hU 1 (by kernel_rfl)).trans rfl
                    clear hE hU
                    exact wp_value_inv (w' := W) (.slice (some ⟨b, o, none⟩) m cl) (op_move rfl v1) ⟨_, rfl, hB, ExtO.refl _ _ _ _ _, rfl, fun _ _ _ _ _ => trivial⟩
                  · simp only [List.getElem?_cons_zero, List.getElem?_cons_succ, Option.some.injEq] at ho
                    subst ho
                    intro a W vs hB hS hE hU
                    refine wpG_plain rfl ?_
                    have v6 : a.eval (.tmp 6) = .int .i64 (i : Nat) := (hU 6 (by kernel_rfl)).trans rfl
                    clear hE hU
                    exact wp_value_inv (w' := W) (.int .i64 (i : Nat)) (op_move rfl v6) ⟨_, rfl, hB, ExtO.refl _ _ _ _ _, rfl, fun _ _ _ _ _ => trivial⟩
                  · simp only [List.getElem?_cons_zero, List.getElem?_cons_succ, Option.some.injEq] at ho
                    subst ho
                    intro a W vs hB hS hE hU
                    refine wpG_plain rfl ?_
                    obtain ⟨r2, e103⟩ := hE 2 103 (by kernel_rfl) (by kernel_rfl)
                    have v103 : a.eval (.tmp 103) = .slice (some ⟨b, o, none⟩) m cl := e103.trans r2
                    obtain ⟨r3, e104⟩ := hE 3 104 (by kernel_rfl) (by kernel_rfl)
                    have v104 : a.eval (.tmp 104) = .int .i64 (i : Nat) := e104.trans r3
                    clear hE hU
                    exact wp_value_inv (w' := W) (.pointer (some ⟨b, o + i * 3, none⟩)) (op_indexAddr rfl v103 v104 (run_index_ch6 W b o m cl i HLT.out)) ⟨_, rfl, hB, ExtO.refl _ _ _ _ _, rfl, fun _ _ _ _ _ => trivial⟩
                  · simp only [List.getElem?_cons_zero, List.getElem?_cons_succ, Option.some.injEq] at ho
                    subst ho
                    intro a W vs hB hS hE hU
                    refine wpG_plain rfl ?_
                    obtain ⟨r4, e105⟩ := hE 4 105 (by kernel_rfl) (by kernel_rfl)
                    have v105 : a.eval (.tmp 105) = .pointer (some ⟨b, o + i * 3, none⟩) := e105.trans r4
                    clear hE hU
                    exact wp_value_inv (w' := W) (.pointer (some ⟨b, o + i * 3 + 1, none⟩)) (op_fieldAddr rfl v105 (fld_ch1 W _ _)) ⟨_, rfl, hB, ExtO.refl _ _ _ _ _, rfl, fun _ _ _ _ _ => trivial⟩
                  · simp only [List.getElem?_cons_zero, List.getElem?_cons_succ, Option.some.injEq] at ho
                    subst ho
                    intro a W vs hB hS hE hU
                    refine wpG_plain rfl ?_
                    obtain ⟨r5, e106⟩ := hE 5 106 (by kernel_rfl) (by kernel_rfl)
                    have v106 : a.eval (.tmp 106) = .pointer (some ⟨b, o + i * 3 + 1, none⟩) := e106.trans r5
                    clear hE hU
                    exact wp_value_inv (w' := W) (.slice ax B.length cx) (op_loadAt rfl v106 (LD13E.out W hB)) ⟨_, rfl, hB, ExtO.refl _ _ _ _ _, rfl, fun _ _ _ _ _ => trivial⟩
                  · simp only [List.getElem?_cons_zero, List.getElem?_cons_succ, Option.some.injEq] at ho
                    subst ho
                    intro a W vs hB hS hE hU
                    refine wpG_plain rfl ?_
                    obtain ⟨r6, e107⟩ := hE 6 107 (by kernel_rfl) (by kernel_rfl)
                    have v107 : a.eval (.tmp 107) = .slice ax B.length cx := e107.trans r6
                    clear hE hU
                    have hfa : Fr (fun _ => False) W (W.alloc (.cells #[.slice ax B.length cx] 43)) := (Fr.refl _ _).alloc _
                    exact wp_value_inv (w' := W.alloc (.cells #[.slice ax B.length cx] 43)) (.slice (some ⟨W.heap.size, 0, none⟩) 1 1) (op_rows rfl (vs := #[(0, .slice ax B.length cx)]) (by simp only [List.map_toArray, List.map_cons, List.map_nil, v107]) (made_bs1 W _ _ _)) ⟨_, rfl, hB.ext hfa, ExtO.of hfa, ⟨W.heap.size, rfl, fun e => by have := (hB.row.row.own _ e).2; omega, heap_alloc_new W _⟩, fun _ _ _ _ _ => trivial⟩
                  · simp only [List.getElem?_cons_zero, List.getElem?_cons_succ, Option.some.injEq] at ho
                    subst ho
                    intro a W vs hB hS hE hU
                    refine wpG_plain rfl ?_
                    obtain ⟨r1, e102⟩ := hE 1 102 (by kernel_rfl) (by kernel_rfl)
                    have v102 : a.eval (.tmp 102) = .slice av' n' cv' := e102.trans r1
                    obtain ⟨⟨gz7, rg7, rn7, rh7⟩, e108⟩ := hE 7 108 (by kernel_rfl) (by kernel_rfl)
                    have v108 : a.eval (.tmp 108) = .slice (some ⟨gz7, 0, none⟩) 1 1 := e108.trans rg7
                    clear hE hU
                    refine wp_append_o Tryz.underlying38 infoB1 rfl (by decide) (.tmp 102) (.tmp 108) rfl v102 v108 hB.row (Elems.ofBlock (c := [.slice ax B.length cx]) rh7 rfl) LD13O.out (by have := hB.fr.size; have := HZ4.out; omega) LD13N.out ?_
                    intro v' w' r1 r2 r3
                    have hB' : BO 43 z _ _ _ w' := ⟨hB.fr.trans r2 (fun _ h => .inl h), r3 _ _ (.inl rfl) hB.row⟩
                    rw [LD13Z.out.1] at r1 r3
                    obtain ⟨ag, cg, hv, _⟩ := r1.row.form
                    rw [LD13Z.out.2] at hv
                    subst hv
                    exact ⟨_, rfl, hB', ⟨r2, fun u hu => r3 u _ (.inr rfl) hu⟩, ⟨ag, cg, rfl, r1⟩, fun _ _ _ _ _ => trivial⟩
                  · simp only [List.getElem?_cons_zero, List.getElem?_cons_succ, Option.some.injEq] at ho
                    subst ho
                    intro a W vs hB hS hE hU
                    refine wpG_plain rfl ?_
                    have v5 : a.eval (.tmp 5) = .pointer (some ⟨gc, 0, none⟩) := (hU 5 (by kernel_rfl)).trans rfl
                    clear hE hU
                    exact wp_value_inv (w' := W) (.pointer (some ⟨gc, 1, none⟩)) (op_fieldAddr rfl v5 (fld_spence_spencelaw06_vals_1_0 W gc)) ⟨_, rfl, hB, ExtO.refl _ _ _ _ _, rfl, fun _ _ _ _ _ => trivial⟩
                · intro vs w8 hB0 hR0 hD
                  obtain ⟨a8, c8, r109, k109⟩ := hR0 8 (by decide)
                  have r110 : vs 9 = .pointer (some ⟨gc, 1, none⟩) := hR0 9 (by decide)
                  have f109 := hB0.fr
                  clear hR0 hD hB0
                  simp only [acts, if_true, dstAt, List.getElem?_cons_zero, List.getElem?_cons_succ, Option.bind_some, Act.put, List.setIfInBounds_toArray, List.set_cons_succ, List.set_cons_zero, List.drop_succ_cons]
                  simp only [r109, r110]
                  clear r109 r110
                  have hb8 := f109.heap HP7.out.1 HNV.out
                  have x8 : w8.cell? ⟨gc, 1, none⟩ = some (.slice av' n' cv') := cell_of_row _ _ _ _ _ _ hb8
                  have g8 := frozen_of_row _ _ 1 _ _ hb8
                  obtain ⟨W8, hW8⟩ : ∃ W, W = w8.setCell ⟨gc, 1, none⟩ (.slice a8 (n' + 1) c8) := ⟨_, rfl⟩
                  have HP8 := Lib.hid (VsOut.putV (l := l2) HP7.out.1 HV4.out.low HP7.out.2.1 HP7.out.2.2.1 (fun p hp => by
                    rw [hl2] at hp
                    rcases List.mem_append.1 hp with hp | hp
                    · exact HP7.out.2.2.2.1 p hp
                    · rw [List.mem_singleton.1 hp]; exact HR7.out.1) f109 HDZ.out k109 rfl)
                  rw [← hW8] at HP8
                  clear hb8 f109 k109
                  go_wp2_with fail
                  rw [← hW8]
                  go_roundw
                  case rel => exact ⟨i + 1, by have := HLT.out; omega, by go_num, Lib.hid ⟨_, _, l2, HP8.out.1, HTR.out, by have := HV1.out.2.2.1; have := HN'.out.1; rw [hl2, List.length_append, List.length_singleton]; omega, HP8.out.2 _ _ (HP7.out.2.2.2.2 _ _ (HV1.out.2.2.2.trans H4.out (fun _ h => h.elim)) (Nat.le_of_eq HZ.out.symm)) (Nat.le_of_eq HZ.out.symm)⟩⟩
                  case measure => (have := HLT.out; simp [intOf]; omega))
        | some k =>
          have hfi : fndI l' key = (k : Int) := by unfold fndI; rw [hfd]
          rw [hfi] at HFI
          obtain ⟨hkl, hkk⟩ := fnd_get hfd
          have hkn : k < n' := by rw [HN'.out.1]; exact hkl
          have hk0 : (0 : Int) ≤ (k : Int) := by omega
          have hk01 : decide ((0 : Int) ≤ (k : Int)) = true := decide_eq_true hk0
          have hk3 : (k : Int) < (n' : Int) := by omega
          have HK := Lib.hid (And.intro hkl hkk)
          clear hfd hfi
          go_wp2_with fail
          go_region_held_law (fun w' => w'.cell? ⟨gc, 0, none⟩ = some (.slice ak' n' ck') ∧ w'.cell? ⟨gc, 1, none⟩ = some (.slice av' n' cv') ∧ w'.cell? ⟨b, o + i * 3, none⟩ = some (.string key)) (first | exact ⟨by assumption, by assumption, by assumption⟩ | go_keep) (first | (go_at_call 32; (refine (HFI.out _ (Fr.refl _ wr).drew).mono ?_); rintro e w4 ⟨rfl, hf4⟩; (have H4 := Lib.hid ((Fr.refl (fun _ => False) wr).drew.trans hf4 (fun _ h => h.elim))); (have s0 := H4.out.cell s0 id); (have s1 := H4.out.cell s1 id); (have e0 := H4.out.cell e0 id); (have e1 := H4.out.cell e1 id); (have e2 := H4.out.cell e2 id); clear hf4))
          all_goals (
            cases gone with
            | true =>
              have hkn2 := HK.out.1
              have hw1 : IntKind.i64.wrap ((k : Int) + 1) = (k : Int) + 1 := wraps_i64 _ (by omega) (by omega)
              obtain ⟨l2, hl2⟩ : ∃ l2, l2 = l'.take k ++ l'.drop (k + 1) := ⟨_, rfl⟩
              obtain ⟨n2, hn2⟩ : ∃ n2, n2 = l2.length := ⟨_, rfl⟩
              have HL2 := Lib.hid (show ((keyV l').take k ++ (keyV l').drop (k + 1) = keyV l2 ∧ (valV l').take k ++ (valV l').drop (k + 1) = valV l2) ∧ ((keyV l2).length = n2 ∧ (valV l2).length = n2) ∧ n2 + 1 = n' ∧ ∀ p ∈ l2, p ∈ l' from ⟨⟨by rw [hl2]; simp [keyV, List.map_take, List.map_drop], by rw [hl2]; simp [valV, List.map_take, List.map_drop]⟩, ⟨by rw [hn2]; simp [keyV], by rw [hn2]; simp [valV]⟩, by rw [hn2, hl2, List.length_append, List.length_take, List.length_drop]; have := HN'.out.1; omega, fun p hp => by
                rw [hl2] at hp
                rcases List.mem_append.1 hp with hp | hp
                · exact List.mem_of_mem_take hp
                · exact List.mem_of_mem_drop hp⟩)
              have HTR := Lib.hid (show TRep (l2.map RowD.row) (tDoAll M ((L.take (i + 1)).map ChgD.chg)) by rw [HST.out, hl2]; exact rep_del HV1.out.2.1 k HK.out.1 HK.out.2)
              have HV4 := Lib.hid (HV1.out.1.keep H4.out (fun _ _ _ h => h) (fun _ _ _ h => h))
              have HLN := Lib.hid (show (keyV l').length = n' ∧ (valV l').length = n' from ⟨by rw [HN'.out.1]; simp [keyV], by rw [HN'.out.1]; simp [valV]⟩)
              have HA7 := Lib.hid (fun (W : World) (hf : Fr (fun _ => False) w4 W) => (show RowT 9 z W (.slice ak' k k) ((keyV l').take k) ∧ Elems 1 (fun b => (Value.slice ak' n' ck').ownBlock = some b) W (.slice (cutLow ak' (k + 1) ck') (n' - (k + 1)) (ck' - (k + 1))) (((keyV l').drop (k + 1)).map fun y => [y]) from ⟨(HV4.out.kr.keep hf (fun _ _ h => h)).cut k (by rw [HLN.out.1]; omega), by rw [List.map_drop]; exact (HV4.out.kr.keep hf (fun _ _ h => h)).row.elems.cutLow (k + 1) (by rw [List.length_map, HLN.out.1]; omega)⟩))
              have HZ4 := Lib.hid (show z ≤ w4.heap.size by have := HV4.out.low; have := lt_of_block HV4.out.box; omega)
              have HNE := Lib.hid (And.intro HV4.out.key_ne HV4.out.box)
              clear hl2 hn2 hkn2
              go_wp2_with fail
              have HKC := Lib.hid (show k ≤ ck' ∧ k ≤ cv' ∧ k + 1 ≤ n' by omega)
              have HW1 := Lib.hid hw1
              have LD7 := Lib.hid (fun (W : World) (hW : Fr (fun _ => False) w4 W) => load_one5 W 37 ⟨gc, 0, none⟩ _ (by kernel_rfl) (hW.cell s0 id))
              have HA7O := Lib.hid (show ∀ u ∈ (keyV l').drop (k + 1), u.oneCell' = true from fun u hu => keyV_one l' u (List.mem_of_mem_drop hu))
              have HA8O := Lib.hid (show ∀ u ∈ (valV l').drop (k + 1), u.oneCell' = true from fun u hu => valV_one HV4.out.bytes u (List.mem_of_mem_drop hu))
              have HA7N := Lib.hid (show ((keyV l').take k).length + ((keyV l').drop (k + 1)).length ≤ 1000000 by have := HLN.out.1; rw [List.length_take, List.length_drop]; omega)
              have HA8N := Lib.hid (show ((valV l').take k).length + ((valV l').drop (k + 1)).length ≤ 1000000 by have := HLN.out.2; rw [List.length_take, List.length_drop]; omega)
              have HA7E := Lib.hid (And.intro HL2.out.1.1 HL2.out.2.1.1)
              have HA8E := Lib.hid (And.intro HL2.out.1.2 HL2.out.2.1.2)
              refine wp_region_inv 12 (by kernel_rfl) (by kernel_rfl) (fun W => Fr (fun _ => False) w4 W) (TuR7 gc ak' n' ck' k n2 z l2) (fun _ _ _ _ => True) (Fr (fun _ => False)) (TuR7.ext gc ak' n' ck' k n2 z l2) (Fr.refl _ _).drew ?_ ?_
              · intro i hi o ho
                replace hi : i < 12 := hi
                obtain rfl | rfl | rfl | rfl | rfl | rfl | rfl | rfl | rfl | rfl | rfl | rfl : i = 0 ∨ i = 1 ∨ i = 2 ∨ i = 3 ∨ i = 4 ∨ i = 5 ∨ i = 6 ∨ i = 7 ∨ i = 8 ∨ i = 9 ∨ i = 10 ∨ i = 11 := by omega
                · simp only [List.getElem?_cons_zero, Option.some.injEq] at ho
                  subst ho
                  intro a W vs hB hS hE hU
                  refine wpG_plain rfl ?_
                  have v5 : a.eval (.tmp 5) = .pointer (some ⟨gc, 0, none⟩) := (hU 5 (by kernel_rfl)).trans rfl
                  clear hE hU
                  exact wp_value_inv (w' := W) (.pointer (some ⟨gc, 0, none⟩)) (op_fieldAddr rfl v5 (fld_spence_spencelaw06_vals_0_0 W gc)) ⟨_, rfl, hB, Fr.refl _ _, rfl, fun _ _ _ _ _ => trivial⟩
                · simp only [List.getElem?_cons_zero, List.getElem?_cons_succ, Option.some.injEq] at ho
                  subst ho
                  intro a W vs hB hS hE hU
                  refine wpG_plain rfl ?_
                  obtain ⟨r0, e40⟩ := hE 0 40 (by kernel_rfl) (by kernel_rfl)
                  have v40 : a.eval (.tmp 40) = .pointer (some ⟨gc, 0, none⟩) := e40.trans r0
                  clear hE hU
                  exact wp_value_inv (w' := W) (.slice ak' n' ck') (op_loadAt rfl v40 (LD7.out W hB)) ⟨_, rfl, hB, Fr.refl _ _, rfl, fun _ _ _ _ _ => trivial⟩
                · simp only [List.getElem?_cons_zero, List.getElem?_cons_succ, Option.some.injEq] at ho
                  subst ho
                  intro a W vs hB hS hE hU
                  refine wpG_plain rfl ?_
                  have v7 : a.eval (.tmp 7) = .int .i64 (k : Nat) := (hU 7 (by kernel_rfl)).trans rfl
                  clear hE hU
                  exact wp_value_inv (w' := W) (.int .i64 (k : Nat)) (op_move rfl v7) ⟨_, rfl, hB, Fr.refl _ _, rfl, fun _ _ _ _ _ => trivial⟩
                · simp only [List.getElem?_cons_zero, List.getElem?_cons_succ, Option.some.injEq] at ho
                  subst ho
                  intro a W vs hB hS hE hU
                  refine wpG_plain rfl ?_
                  have v7 : a.eval (.tmp 7) = .int .i64 (k : Nat) := (hU 7 (by kernel_rfl)).trans rfl
                  clear hE hU
                  exact wp_value_inv (w' := W) (.int .i64 (k : Nat)) (op_move rfl v7) ⟨_, rfl, hB, Fr.refl _ _, rfl, fun _ _ _ _ _ => trivial⟩
                · simp only [List.getElem?_cons_zero, List.getElem?_cons_succ, Option.some.injEq] at ho
                  subst ho
                  intro a W vs hB hS hE hU
                  refine wpG_plain rfl ?_
                  obtain ⟨r1, e41⟩ := hE 1 41 (by kernel_rfl) (by kernel_rfl)
                  have v41 : a.eval (.tmp 41) = .slice ak' n' ck' := e41.trans r1
                  obtain ⟨r2, e42⟩ := hE 2 42 (by kernel_rfl) (by kernel_rfl)
                  have v42 : a.eval (.tmp 42) = .int .i64 (k : Nat) := e42.trans r2
                  obtain ⟨r3, e43⟩ := hE 3 43 (by kernel_rfl) (by kernel_rfl)
                  have v43 : a.eval (.tmp 43) = .int .i64 (k : Nat) := e43.trans r3
                  clear hE hU
                  exact wp_value_inv (w' := W) (.slice ak' k k) (op_slice_hm rfl v41 v42 v43 ((at_S W _ _ _ _).trans (run_headS W ak' n' ck' k (by have := HKC.out; omega)))) ⟨_, rfl, hB, Fr.refl _ _, rfl, fun _ _ _ _ _ => trivial⟩
                · simp only [List.getElem?_cons_zero, List.getElem?_cons_succ, Option.some.injEq] at ho
                  subst ho
                  intro a W vs hB hS hE hU
                  refine wpG_plain rfl ?_
                  have v5 : a.eval (.tmp 5) = .pointer (some ⟨gc, 0, none⟩) := (hU 5 (by kernel_rfl)).trans rfl
                  clear hE hU
                  exact wp_value_inv (w' := W) (.pointer (some ⟨gc, 0, none⟩)) (op_fieldAddr rfl v5 (fld_spence_spencelaw06_vals_0_0 W gc)) ⟨_, rfl, hB, Fr.refl _ _, rfl, fun _ _ _ _ _ => trivial⟩
                · simp only [List.getElem?_cons_zero, List.getElem?_cons_succ, Option.some.injEq] at ho
                  subst ho
                  intro a W vs hB hS hE hU
                  refine wpG_plain rfl ?_
                  obtain ⟨r5, e45⟩ := hE 5 45 (by kernel_rfl) (by kernel_rfl)
                  have v45 : a.eval (.tmp 45) = .pointer (some ⟨gc, 0, none⟩) := e45.trans r5
                  clear hE hU
                  exact wp_value_inv (w' := W) (.slice ak' n' ck') (op_loadAt rfl v45 (LD7.out W hB)) ⟨_, rfl, hB, Fr.refl _ _, rfl, fun _ _ _ _ _ => trivial⟩
                · simp only [List.getElem?_cons_zero, List.getElem?_cons_succ, Option.some.injEq] at ho
                  subst ho
                  intro a W vs hB hS hE hU
                  refine wpG_plain rfl ?_
                  have v7 : a.eval (.tmp 7) = .int .i64 (k : Nat) := (hU 7 (by kernel_rfl)).trans rfl
                  clear hE hU
                  exact wp_value_inv (w' := W) (.int .i64 (k : Nat)) (op_move rfl v7) ⟨_, rfl, hB, Fr.refl _ _, rfl, fun _ _ _ _ _ => trivial⟩
                · simp only [List.getElem?_cons_zero, List.getElem?_cons_succ, Option.some.injEq] at ho
                  subst ho
                  intro a W vs hB hS hE hU
                  refine wpG_plain rfl ?_
                  obtain ⟨r7, e47⟩ := hE 7 47 (by kernel_rfl) (by kernel_rfl)
                  have v47 : a.eval (.tmp 47) = .int .i64 (k : Nat) := e47.trans r7
                  clear hE hU
                  exact wp_value_inv (w' := W) (.int .i64 ((k : Int) + 1)) (op_bin rfl v47 rfl rfl (add1_i64 W k HW1.out)) ⟨_, rfl, hB, Fr.refl _ _, rfl, fun _ _ _ _ _ => trivial⟩
                · simp only [List.getElem?_cons_zero, List.getElem?_cons_succ, Option.some.injEq] at ho
                  subst ho
                  intro a W vs hB hS hE hU
                  refine wpG_plain rfl ?_
                  obtain ⟨r6, e46⟩ := hE 6 46 (by kernel_rfl) (by kernel_rfl)
                  have v46 : a.eval (.tmp 46) = .slice ak' n' ck' := e46.trans r6
                  obtain ⟨r8, e48⟩ := hE 8 48 (by kernel_rfl) (by kernel_rfl)
                  have v48 : a.eval (.tmp 48) = .int .i64 ((k : Int) + 1) := e48.trans r8
                  clear hE hU
                  exact wp_value_inv (w' := W) (.slice (cutLow ak' (k + 1) ck') (n' - (k + 1)) (ck' - (k + 1))) (op_slice_lo rfl v46 v48 ((at_S W _ _ _ _).trans (run_cutS' W ak' n' ck' (k + 1) ((k : Int) + 1) (by push_cast; rfl) (by have := HKC.out; omega)))) ⟨_, rfl, hB, Fr.refl _ _, rfl, fun _ _ _ _ _ => trivial⟩
                · simp only [List.getElem?_cons_zero, List.getElem?_cons_succ, Option.some.injEq] at ho
                  subst ho
                  intro a W vs hB hS hE hU
                  refine wpG_plain rfl ?_
                  obtain ⟨r4, e44⟩ := hE 4 44 (by kernel_rfl) (by kernel_rfl)
                  have v44 : a.eval (.tmp 44) = .slice ak' k k := e44.trans r4
                  obtain ⟨r9, e49⟩ := hE 9 49 (by kernel_rfl) (by kernel_rfl)
                  have v49 : a.eval (.tmp 49) = .slice (cutLow ak' (k + 1) ck') (n' - (k + 1)) (ck' - (k + 1)) := e49.trans r9
                  clear hE hU
                  refine wp_append_t Tryz.underlying37 infoS1 rfl (by decide) (.tmp 44) (.tmp 49) rfl v44 v49 (HA7.out W hB).1 (HA7.out W hB).2 HA7O.out (by have := hB.size; have := HZ4.out; omega) HA7N.out ?_
                  intro v' w' r1 r2 r3
                  rw [HA7E.out.1] at r1
                  obtain ⟨ag, cg, hv, _⟩ := r1.row.form
                  rw [HA7E.out.2] at hv
                  subst hv
                  have hf := r3 ⟨_, _, rfl⟩
                  exact ⟨_, rfl, hB.trans hf (fun _ h => h.elim), hf, ⟨ag, cg, rfl, r1⟩, fun _ _ _ _ _ => trivial⟩
                · simp only [List.getElem?_cons_zero, List.getElem?_cons_succ, Option.some.injEq] at ho
                  subst ho
                  intro a W vs hB hS hE hU
                  refine wpG_plain rfl ?_
                  have v5 : a.eval (.tmp 5) = .pointer (some ⟨gc, 0, none⟩) := (hU 5 (by kernel_rfl)).trans rfl
                  clear hE hU
                  exact wp_value_inv (w' := W) (.pointer (some ⟨gc, 0, none⟩)) (op_fieldAddr rfl v5 (fld_spence_spencelaw06_vals_0_0 W gc)) ⟨_, rfl, hB, Fr.refl _ _, rfl, fun _ _ _ _ _ => trivial⟩
              · intro vs w7 hB0 hR0 hD
                obtain ⟨a7, c7, r50, k50⟩ := hR0 10 (by decide)
                have r51 : vs 11 = .pointer (some ⟨gc, 0, none⟩) := hR0 11 (by decide)
                have f50 := hB0
                clear hR0 hD hB0
                simp only [acts, if_true, dstAt, List.getElem?_cons_zero, List.getElem?_cons_succ, Option.bind_some, Act.put, List.setIfInBounds_toArray, List.set_cons_succ, List.set_cons_zero, List.drop_succ_cons]
                simp only [r50, r51]
                clear r50 r51
                have hb7 := f50.heap HNE.out.2 id
                have x7 : w7.cell? ⟨gc, 0, none⟩ = some (.slice ak' n' ck') := cell_of_row _ _ _ _ _ _ hb7
                have g7 := frozen_of_row _ _ 0 _ _ hb7
                obtain ⟨W7, hW7⟩ : ∃ W, W = w7.setCell ⟨gc, 0, none⟩ (.slice a7 n2 c7) := ⟨_, rfl⟩
                have HP7 := Lib.hid (HV4.out.putK (f50.mono (fun _ _ h => h.elim)) HDZ.out k50)
                rw [← hW7] at HP7
                clear hb7 f50 k50
                go_wp2_with fail
                rw [← hW7]
                clear hW7 x7 g7
                have s1 : W7.cell? ⟨gc, 1, none⟩ = some (.slice av' n' cv') := cell_of_row _ _ _ _ _ _ HP7.out.1
                have LD8 := Lib.hid (fun (W : World) (hW : Fr (fun _ => False) W7 W) => load_one5 W 38 ⟨gc, 1, none⟩ _ (by kernel_rfl) (hW.cell s1 id))
                have HA8 := Lib.hid (fun (W : World) (hf : Fr (fun _ => False) W7 W) => (show RowT 43 z W (.slice av' k k) ((valV l').take k) ∧ Elems 1 (fun b => (Value.slice av' n' cv').ownBlock = some b) W (.slice (cutLow av' (k + 1) cv') (n' - (k + 1)) (cv' - (k + 1))) (((valV l').drop (k + 1)).map fun y => [y]) from ⟨(HP7.out.2.2.1.keep hf (fun _ _ h => h)).cut k (by rw [HLN.out.2]; omega), by rw [List.map_drop]; exact (HP7.out.2.2.1.keep hf (fun _ _ h => h)).row.elems.cutLow (k + 1) (by rw [List.length_map, HLN.out.2]; omega)⟩))
                clear HZ4
                have HZ4 := Lib.hid (show z ≤ W7.heap.size by have := HV4.out.low; have := lt_of_block HP7.out.1; omega)
                refine wp_region_inv 12 (by kernel_rfl) (by kernel_rfl) (fun W => Fr (fun _ => False) W7 W) (TuR8 gc av' n' cv' k n2 z l2) (fun _ _ _ _ => True) (Fr (fun _ => False)) (TuR8.ext gc av' n' cv' k n2 z l2) (Fr.refl _ _).drew ?_ ?_
                · intro i hi o ho
                  replace hi : i < 12 := hi
                  obtain rfl | rfl | rfl | rfl | rfl | rfl | rfl | rfl | rfl | rfl | rfl | rfl : i = 0 ∨ i = 1 ∨ i = 2 ∨ i = 3 ∨ i = 4 ∨ i = 5 ∨ i = 6 ∨ i = 7 ∨ i = 8 ∨ i = 9 ∨ i = 10 ∨ i = 11 := by omega
                  · simp only [List.getElem?_cons_zero, Option.some.injEq] at ho
                    subst ho
                    intro a W vs hB hS hE hU
                    refine wpG_plain rfl ?_
                    have v5 : a.eval (.tmp 5) = .pointer (some ⟨gc, 0, none⟩) := (hU 5 (by kernel_rfl)).trans rfl
                    clear hE hU
                    exact wp_value_inv (w' := W) (.pointer (some ⟨gc, 1, none⟩)) (op_fieldAddr rfl v5 (fld_spence_spencelaw06_vals_1_0 W gc)) ⟨_, rfl, hB, Fr.refl _ _, rfl, fun _ _ _ _ _ => trivial⟩
                  · simp only [List.getElem?_cons_zero, List.getElem?_cons_succ, Option.some.injEq] at ho
                    subst ho
                    intro a W vs hB hS hE hU
                    refine wpG_plain rfl ?_
                    obtain ⟨r0, e52⟩ := hE 0 52 (by kernel_rfl) (by kernel_rfl)
                    have v52 : a.eval (.tmp 52) = .pointer (some ⟨gc, 1, none⟩) := e52.trans r0
                    clear hE hU
                    exact wp_value_inv (w' := W) (.slice av' n' cv') (op_loadAt rfl v52 (LD8.out W hB)) ⟨_, rfl, hB, Fr.refl _ _, rfl, fun _ _ _ _ _ => trivial⟩
                  · simp only [List.getElem?_cons_zero, List.getElem?_cons_succ, Option.some.injEq] at ho
                    subst ho
                    intro a W vs hB hS hE hU
                    refine wpG_plain rfl ?_
                    have v7 : a.eval (.tmp 7) = .int .i64 (k : Nat) := (hU 7 (by kernel_rfl)).trans rfl
                    clear hE hU
                    exact wp_value_inv (w' := W) (.int .i64 (k : Nat)) (op_move rfl v7) ⟨_, rfl, hB, Fr.refl _ _, rfl, fun _ _ _ _ _ => trivial⟩
                  · simp only [List.getElem?_cons_zero, List.getElem?_cons_succ, Option.some.injEq] at ho
                    subst ho
                    intro a W vs hB hS hE hU
                    refine wpG_plain rfl ?_
                    have v7 : a.eval (.tmp 7) = .int .i64 (k : Nat) := (hU 7 (by kernel_rfl)).trans rfl
                    clear hE hU
                    exact wp_value_inv (w' := W) (.int .i64 (k : Nat)) (op_move rfl v7) ⟨_, rfl, hB, Fr.refl _ _, rfl, fun _ _ _ _ _ => trivial⟩
                  · simp only [List.getElem?_cons_zero, List.getElem?_cons_succ, Option.some.injEq] at ho
                    subst ho
                    intro a W vs hB hS hE hU
                    refine wpG_plain rfl ?_
                    obtain ⟨r1, e53⟩ := hE 1 53 (by kernel_rfl) (by kernel_rfl)
                    have v53 : a.eval (.tmp 53) = .slice av' n' cv' := e53.trans r1
                    obtain ⟨r2, e54⟩ := hE 2 54 (by kernel_rfl) (by kernel_rfl)
                    have v54 : a.eval (.tmp 54) = .int .i64 (k : Nat) := e54.trans r2
                    obtain ⟨r3, e55⟩ := hE 3 55 (by kernel_rfl) (by kernel_rfl)
                    have v55 : a.eval (.tmp 55) = .int .i64 (k : Nat) := e55.trans r3
                    clear hE hU
                    exact wp_value_inv (w' := W) (.slice av' k k) (op_slice_hm rfl v53 v54 v55 ((at_B W _ _ _ _).trans (run_headB W av' n' cv' k (by have := HKC.out; omega)))) ⟨_, rfl, hB, Fr.refl _ _, rfl, fun _ _ _ _ _ => trivial⟩
                  · simp only [List.getElem?_cons_zero, List.getElem?_cons_succ, Option.some.injEq] at ho
                    subst ho
                    intro a W vs hB hS hE hU
                    refine wpG_plain rfl ?_
                    have v5 : a.eval (.tmp 5) = .pointer (some ⟨gc, 0, none⟩) := (hU 5 (by kernel_rfl)).trans rfl
                    clear hE hU
                    exact wp_value_inv (w' := W) (.pointer (some ⟨gc, 1, none⟩)) (op_fieldAddr rfl v5 (fld_spence_spencelaw06_vals_1_0 W gc)) ⟨_, rfl, hB, Fr.refl _ _, rfl, fun _ _ _ _ _ => trivial⟩
                  · simp only [List.getElem?_cons_zero, List.getElem?_cons_succ, Option.some.injEq] at ho
                    subst ho
                    intro a W vs hB hS hE hU
                    refine wpG_plain rfl ?_
                    obtain ⟨r5, e57⟩ := hE 5 57 (by kernel_rfl) (by kernel_rfl)
                    have v57 : a.eval (.tmp 57) = .pointer (some ⟨gc, 1, none⟩) := e57.trans r5
                    clear hE hU
                    exact wp_value_inv (w' := W) (.slice av' n' cv') (op_loadAt rfl v57 (LD8.out W hB)) ⟨_, rfl, hB, Fr.refl _ _, rfl, fun _ _ _ _ _ => trivial⟩
                  · simp only [List.getElem?_cons_zero, List.getElem?_cons_succ, Option.some.injEq] at ho
                    subst ho
                    intro a W vs hB hS hE hU
                    refine wpG_plain rfl ?_
                    have v7 : a.eval (.tmp 7) = .int .i64 (k : Nat) := (hU 7 (by kernel_rfl)).trans rfl
                    clear hE hU
                    exact wp_value_inv (w' := W) (.int .i64 (k : Nat)) (op_move rfl v7) ⟨_, rfl, hB, Fr.refl _ _, rfl, fun _ _ _ _ _ => trivial⟩
                  · simp only [List.getElem?_cons_zero, List.getElem?_cons_succ, Option.some.injEq] at ho
                    subst ho
                    intro a W vs hB hS hE hU
                    refine wpG_plain rfl ?_
                    obtain ⟨r7, e59⟩ := hE 7 59 (by kernel_rfl) (by kernel_rfl)
                    have v59 : a.eval (.tmp 59) = .int .i64 (k : Nat) := e59.trans r7
                    clear hE hU
                    exact wp_value_inv (w' := W) (.int .i64 ((k : Int) + 1)) (op_bin rfl v59 rfl rfl (add1_i64 W k HW1.out)) ⟨_, rfl, hB, Fr.refl _ _, rfl, fun _ _ _ _ _ => trivial⟩
                  · simp only [List.getElem?_cons_zero, List.getElem?_cons_succ, Option.some.injEq] at ho
                    subst ho
                    intro a W vs hB hS hE hU
                    refine wpG_plain rfl ?_
                    obtain ⟨r6, e58⟩ := hE 6 58 (by kernel_rfl) (by kernel_rfl)
                    have v58 : a.eval (.tmp 58) = .slice av' n' cv' := e58.trans r6
                    obtain ⟨r8, e60⟩ := hE 8 60 (by kernel_rfl) (by kernel_rfl)
                    have v60 : a.eval (.tmp 60) = .int .i64 ((k : Int) + 1) := e60.trans r8
                    clear hE hU
                    exact wp_value_inv (w' := W) (.slice (cutLow av' (k + 1) cv') (n' - (k + 1)) (cv' - (k + 1))) (op_slice_lo rfl v58 v60 ((at_B W _ _ _ _).trans (run_cutB' W av' n' cv' (k + 1) ((k : Int) + 1) (by push_cast; rfl) (by have := HKC.out; omega)))) ⟨_, rfl, hB, Fr.refl _ _, rfl, fun _ _ _ _ _ => trivial⟩
                  · simp only [List.getElem?_cons_zero, List.getElem?_cons_succ, Option.some.injEq] at ho
                    subst ho
                    intro a W vs hB hS hE hU
                    refine wpG_plain rfl ?_
                    obtain ⟨r4, e56⟩ := hE 4 56 (by kernel_rfl) (by kernel_rfl)
                    have v56 : a.eval (.tmp 56) = .slice av' k k := e56.trans r4
                    obtain ⟨r9, e61⟩ := hE 9 61 (by kernel_rfl) (by kernel_rfl)
                    have v61 : a.eval (.tmp 61) = .slice (cutLow av' (k + 1) cv') (n' - (k + 1)) (cv' - (k + 1)) := e61.trans r9
                    clear hE hU
                    refine wp_append_t Tryz.underlying38 infoB1 rfl (by decide) (.tmp 56) (.tmp 61) rfl v56 v61 (HA8.out W hB).1 (HA8.out W hB).2 HA8O.out (by have := hB.size; have := HZ4.out; omega) HA8N.out ?_
                    intro v' w' r1 r2 r3
                    rw [HA8E.out.1] at r1
                    obtain ⟨ag, cg, hv, _⟩ := r1.row.form
                    rw [HA8E.out.2] at hv
                    subst hv
                    have hf := r3 ⟨_, _, rfl⟩
                    exact ⟨_, rfl, hB.trans hf (fun _ h => h.elim), hf, ⟨ag, cg, rfl, r1⟩, fun _ _ _ _ _ => trivial⟩
                  · simp only [List.getElem?_cons_zero, List.getElem?_cons_succ, Option.some.injEq] at ho
                    subst ho
                    intro a W vs hB hS hE hU
                    refine wpG_plain rfl ?_
                    have v5 : a.eval (.tmp 5) = .pointer (some ⟨gc, 0, none⟩) := (hU 5 (by kernel_rfl)).trans rfl
                    clear hE hU
                    exact wp_value_inv (w' := W) (.pointer (some ⟨gc, 1, none⟩)) (op_fieldAddr rfl v5 (fld_spence_spencelaw06_vals_1_0 W gc)) ⟨_, rfl, hB, Fr.refl _ _, rfl, fun _ _ _ _ _ => trivial⟩
                · intro vs w8 hB0 hR0 hD
                  obtain ⟨a8, c8, r62, k62⟩ := hR0 10 (by decide)
                  have r63 : vs 11 = .pointer (some ⟨gc, 1, none⟩) := hR0 11 (by decide)
                  have f62 := hB0
                  clear hR0 hD hB0
                  simp only [acts, if_true, dstAt, List.getElem?_cons_zero, List.getElem?_cons_succ, Option.bind_some, Act.put, List.setIfInBounds_toArray, List.set_cons_succ, List.set_cons_zero, List.drop_succ_cons]
                  simp only [r62, r63]
                  clear r62 r63
                  have hb8 := f62.heap HP7.out.1 id
                  have x8 : w8.cell? ⟨gc, 1, none⟩ = some (.slice av' n' cv') := cell_of_row _ _ _ _ _ _ hb8
                  have g8 := frozen_of_row _ _ 1 _ _ hb8
                  obtain ⟨W8, hW8⟩ : ∃ W, W = w8.setCell ⟨gc, 1, none⟩ (.slice a8 n2 c8) := ⟨_, rfl⟩
                  have HP8 := Lib.hid (VsOut.putV (l := l2) HP7.out.1 HV4.out.low HP7.out.2.1 HP7.out.2.2.1 (fun p hp => HP7.out.2.2.2.1 p (HL2.out.2.2.2 p hp)) (f62.mono (fun _ _ h => h.elim)) HDZ.out k62 rfl)
                  rw [← hW8] at HP8
                  clear hb8 f62 k62
                  go_wp2_with fail
                  rw [← hW8]
                  go_roundw
                  case rel => exact ⟨i + 1, by have := HLT.out; omega, by go_num, Lib.hid ⟨_, _, l2, HP8.out.1, HTR.out, by have := HV1.out.2.2.1; have := HL2.out.2.2.1; have := HN'.out.1; have e : (keyV l2).length = l2.length := (by simp [keyV]); have := HL2.out.2.1.1; omega, HP8.out.2 _ _ (HP7.out.2.2.2.2 _ _ (HV1.out.2.2.2.trans H4.out (fun _ h => h.elim)) (Nat.le_of_eq HZ.out.symm)) (Nat.le_of_eq HZ.out.symm)⟩⟩
                  case measure => (have := HLT.out; simp [intOf]; omega)
            | false =>
              have HTR := Lib.hid (show TRep ((l'.set k (⟨key, .slice ax B.length cx, B⟩ : RowD)).map RowD.row) (tDoAll M ((L.take (i + 1)).map ChgD.chg)) by rw [HST.out]; exact rep_set HV1.out.2.1 k HK.out.1 HK.out.2 _ B)
              have HV4 := Lib.hid (HV1.out.1.keep H4.out (fun _ _ _ h => h) (fun _ _ _ h => h))
              have HX4 := Lib.hid (HBX2.out.keep H4.out (fun _ _ _ h => h))
              obtain ⟨gv, hgv⟩ : ∃ gv, av' = some ⟨gv, 0, none⟩ := by
                obtain ⟨ao, c, e, _, _, e4⟩ := HV4.out.vr.row.form
                simp only [Value.slice.injEq] at e
                obtain ⟨rfl, e2, -⟩ := e
                exact e4 (by omega)
              subst hgv
              have hvk : (w4.cell? ⟨gv, k, none⟩).isSome = true ∧ w4.frozen? ⟨gv, k, none⟩ = false := by
                rcases HV4.out.vr.row with ⟨e, _⟩ | ⟨g', cap, e, _, _, h3, _, _, h6⟩
                · cases e
                · simp only [Value.slice.injEq, Option.some.injEq, Addr.mk.injEq, and_true] at e
                  obtain ⟨rfl, e2, rfl⟩ := e
                  exact h6 k (by omega)
              obtain ⟨hvk1, hvk2⟩ := hvk
              obtain ⟨u0, hvk1⟩ := Option.isSome_iff_exists.1 hvk1
              have HPE := Lib.hid (HV4.out.putE k HK.out.1 key HK.out.2 (.slice ax B.length cx) B HX4.out HDZ.out)
              have hS1 : (w4.setCell ⟨gv, k, none⟩ (.slice ax B.length cx)).cell? ⟨gc, 1, none⟩ = some (.slice (some ⟨gv, 0, none⟩) n' cv') := HPE.out.1.cells.2.1
              have hS2 : (w4.setCell ⟨gv, k, none⟩ (.slice ax B.length cx)).cell? ⟨b, o + i * 3 + 1, none⟩ = some (.slice ax B.length cx) := (Fr.cell1 w4 gv k _).cell e1 (fun e => by have h1 := HDZ.out b HGB.out; have h2 := (HV4.out.vr.row.own gv rfl).1; have e2 : b = gv := e; omega)
              go_wp2_with fail
              go_region_held3 (fun w' => w'.cell? ⟨gc, 1, none⟩ = some (.slice (some ⟨gv, 0, none⟩) n' cv') ∧ w'.cell? ⟨b, o + i * 3 + 1, none⟩ = some (.slice ax B.length cx)) (first | exact ⟨by assumption, by assumption⟩ | exact ⟨hS1, hS2⟩ | go_keep) (fail)
              all_goals (
                have HFIN := Lib.hid (fun (W : World) (hW : Fr (fun _ => False) (w4.setCell ⟨gv, k, none⟩ (.slice ax B.length cx)) W) => (show VsOut G z W gc (.slice ak' n' ck') (.slice (some ⟨gv, 0, none⟩) n' cv') (l'.set k (⟨key, .slice ax B.length cx, B⟩ : RowD)) ∧ TRep ((l'.set k (⟨key, .slice ax B.length cx, B⟩ : RowD)).map RowD.row) (tDoAll M ((L.take (i + 1)).map ChgD.chg)) ∧ (l'.set k (⟨key, .slice ax B.length cx, B⟩ : RowD)).length ≤ n + (i + 1) ∧ Fr (fun _ => False) W2 W from ⟨HPE.out.1.keep hW (fun _ _ _ h => h) (fun _ _ _ h => h), HTR.out, by rw [List.length_set]; have := HV1.out.2.2.1; have := HN'.out.1; omega, (HPE.out.2 _ _ (HV1.out.2.2.2.trans H4.out (fun _ h => h.elim)) (Nat.le_of_eq HZ.out.symm)).trans hW (fun _ h => h.elim)⟩))
                clear hS1 hS2 hvk1 hvk2
                go_wp2_with fail
                go_roundw
                case rel => exact ⟨i + 1, by have := HLT.out; omega, by go_num, Lib.hid ⟨_, _, _, HFIN.out _ (by first | exact Fr.refl _ _ | exact (Fr.refl _ _).drew)⟩⟩
                case measure => (have := HLT.out; simp [intOf]; omega)))
end Go.Proofs.YtldgcoikbjbjeaaGreat
