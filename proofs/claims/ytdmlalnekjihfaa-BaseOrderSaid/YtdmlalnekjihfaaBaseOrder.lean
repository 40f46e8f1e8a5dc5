/- Contract of spencelaw03.BaseOrder. Printed by gen_border.py (wip/gen). -/
import Derived.Test.YtdmlalnekjihfaaSortS
namespace Go.Proofs.Ytdmlalnekjihfaa
open Go.RowKit Go.ChangeShapes
set_option linter.unusedVariables false

theorem eql_tf (w : World) : (binOp .eql 4 (.bool true) (.bool false)).run Try.prog w = .ok (.bool false) w := rfl
theorem eql_ft (w : World) : (binOp .eql 4 (.bool false) (.bool true)).run Try.prog w = .ok (.bool false) w := rfl
def O10a (gp gq gr : Nat) (Cp Cq Cr : Array Value) (i : Nat) (v : Value) (W : World) : Prop :=
  match i with
  | 0 => v = .agg Cp
  | 1 => v = .agg Cp
  | 2 => v = .bool false
  | 3 => v = .bool false
  | 4 => v = .agg Cp
  | 5 => v = .agg Cq
  | 6 => v = .bool true
  | 7 => v = .bool true
  | 8 => v = .agg Cq
  | 9 => v = .agg Cp
  | 10 => v = .bool false
  | 11 => v = .bool false
  | 12 => v = .bool false
  | 13 => v = .bool false
  | 14 => v = .agg Cp
  | 15 => v = .agg Cq
  | 16 => v = .bool false
  | 17 => v = .agg Cp
  | 18 => v = .agg Cq
  | 19 => v = .bool true
  | 20 => v = .bool true
  | 21 => v = undef
  | 22 => v = undef
  | 23 => v = undef
  | 24 => v = .bool true
  | 25 => v = .bool false
  | 26 => v = .bool false
  | 27 => v = .bool false
  | 28 => v = .agg Cp
  | 29 => v = .agg Cq
  | 30 => v = .bool true
  | 31 => v = .bool true
  | 32 => v = .agg Cq
  | 33 => v = .agg Cr
  | 34 => v = .bool true
  | 35 => v = .bool true
  | 36 => v = .bool true
  | 37 => v = .agg Cp
  | 38 => v = .agg Cr
  | 39 => v = .bool true
  | 40 => v = .bool false
  | 41 => v = .bool false
  | 42 => v = .bool false
  | _ => True
theorem O10a.ext (gp gq gr : Nat) (Cp Cq Cr : Array Value) : ∀ (j : Nat) (u : Value) (W W' : World), Fr (fun _ => False) W W' → O10a gp gq gr Cp Cq Cr j u W → O10a gp gq gr Cp Cq Cr j u W'
  | 0, u, W, W', hf, h => h
  | 1, u, W, W', hf, h => h
  | 2, u, W, W', hf, h => h
  | 3, u, W, W', hf, h => h
  | 4, u, W, W', hf, h => h
  | 5, u, W, W', hf, h => h
  | 6, u, W, W', hf, h => h
  | 7, u, W, W', hf, h => h
  | 8, u, W, W', hf, h => h
  | 9, u, W, W', hf, h => h
  | 10, u, W, W', hf, h => h
  | 11, u, W, W', hf, h => h
  | 12, u, W, W', hf, h => h
  | 13, u, W, W', hf, h => h
  | 14, u, W, W', hf, h => h
  | 15, u, W, W', hf, h => h
  | 16, u, W, W', hf, h => h
  | 17, u, W, W', hf, h => h
  | 18, u, W, W', hf, h => h
  | 19, u, W, W', hf, h => h
  | 20, u, W, W', hf, h => h
  | 21, u, W, W', hf, h => h
  | 22, u, W, W', hf, h => h
  | 23, u, W, W', hf, h => h
  | 24, u, W, W', hf, h => h
  | 25, u, W, W', hf, h => h
  | 26, u, W, W', hf, h => h
  | 27, u, W, W', hf, h => h
  | 28, u, W, W', hf, h => h
  | 29, u, W, W', hf, h => h
  | 30, u, W, W', hf, h => h
  | 31, u, W, W', hf, h => h
  | 32, u, W, W', hf, h => h
  | 33, u, W, W', hf, h => h
  | 34, u, W, W', hf, h => h
  | 35, u, W, W', hf, h => h
  | 36, u, W, W', hf, h => h
  | 37, u, W, W', hf, h => h
  | 38, u, W, W', hf, h => h
  | 39, u, W, W', hf, h => h
  | 40, u, W, W', hf, h => h
  | 41, u, W, W', hf, h => h
  | 42, u, W, W', hf, h => h
  | _ + 43, u, W, W', hf, h => trivial

def O10b (gp gq gr : Nat) (Cp Cq Cr : Array Value) (i : Nat) (v : Value) (W : World) : Prop :=
  match i with
  | 0 => v = .agg Cp
  | 1 => v = .agg Cp
  | 2 => v = .bool false
  | 3 => v = .bool false
  | 4 => v = .agg Cp
  | 5 => v = .agg Cq
  | 6 => v = .bool true
  | 7 => v = .bool true
  | 8 => v = .agg Cq
  | 9 => v = .agg Cp
  | 10 => v = .bool false
  | 11 => v = .bool false
  | 12 => v = .bool false
  | 13 => v = .bool false
  | 14 => v = .agg Cp
  | 15 => v = .agg Cq
  | 16 => v = .bool false
  | 17 => v = .agg Cp
  | 18 => v = .agg Cq
  | 19 => v = .bool true
  | 20 => v = .bool true
  | 21 => v = undef
  | 22 => v = undef
  | 23 => v = undef
  | 24 => v = .bool true
  | 25 => v = .bool false
  | 26 => v = .bool false
  | 27 => v = .bool false
  | 28 => v = .agg Cp
  | 29 => v = .agg Cq
  | 30 => v = .bool true
  | 31 => v = .bool true
  | 32 => v = .agg Cq
  | 33 => v = .agg Cr
  | 34 => v = .bool false
  | 35 => v = .bool false
  | 36 => v = .bool false
  | 37 => v = undef
  | 38 => v = undef
  | 39 => v = undef
  | 40 => v = undef
  | 41 => v = .bool false
  | 42 => v = .bool false
  | _ => True
theorem O10b.ext (gp gq gr : Nat) (Cp Cq Cr : Array Value) : ∀ (j : Nat) (u : Value) (W W' : World), Fr (fun _ => False) W W' → O10b gp gq gr Cp Cq Cr j u W → O10b gp gq gr Cp Cq Cr j u W'
  | 0, u, W, W', hf, h => h
  | 1, u, W, W', hf, h => h
  | 2, u, W, W', hf, h => h
  | 3, u, W, W', hf, h => h
  | 4, u, W, W', hf, h => h
  | 5, u, W, W', hf, h => h
  | 6, u, W, W', hf, h => h
  | 7, u, W, W', hf, h => h
  | 8, u, W, W', hf, h => h
  | 9, u, W, W', hf, h => h
  | 10, u, W, W', hf, h => h
  | 11, u, W, W', hf, h => h
  | 12, u, W, W', hf, h => h
  | 13, u, W, W', hf, h => h
  | 14, u, W, W', hf, h => h
  | 15, u, W, W', hf, h => h
  | 16, u, W, W', hf, h => h
  | 17, u, W, W', hf, h => h
  | 18, u, W, W', hf, h => h
  | 19, u, W, W', hf, h => h
  | 20, u, W, W', hf, h => h
  | 21, u, W, W', hf, h => h
  | 22, u, W, W', hf, h => h
  | 23, u, W, W', hf, h => h
  | 24, u, W, W', hf, h => h
  | 25, u, W, W', hf, h => h
  | 26, u, W, W', hf, h => h
  | 27, u, W, W', hf, h => h
  | 28, u, W, W', hf, h => h
  | 29, u, W, W', hf, h => h
  | 30, u, W, W', hf, h => h
  | 31, u, W, W', hf, h => h
  | 32, u, W, W', hf, h => h
  | 33, u, W, W', hf, h => h
  | 34, u, W, W', hf, h => h
  | 35, u, W, W', hf, h => h
  | 36, u, W, W', hf, h => h
  | 37, u, W, W', hf, h => h
  | 38, u, W, W', hf, h => h
  | 39, u, W, W', hf, h => h
  | 40, u, W, W', hf, h => h
  | 41, u, W, W', hf, h => h
  | 42, u, W, W', hf, h => h
  | _ + 43, u, W, W', hf, h => trivial

def O10c (gp gq gr : Nat) (Cp Cq Cr : Array Value) (i : Nat) (v : Value) (W : World) : Prop :=
  match i with
  | 0 => v = .agg Cp
  | 1 => v = .agg Cp
  | 2 => v = .bool false
  | 3 => v = .bool false
  | 4 => v = .agg Cp
  | 5 => v = .agg Cq
  | 6 => v = .bool false
  | 7 => v = .bool false
  | 8 => v = undef
  | 9 => v = undef
  | 10 => v = undef
  | 11 => v = .bool false
  | 12 => v = .bool false
  | 13 => v = .bool false
  | 14 => v = .agg Cp
  | 15 => v = .agg Cq
  | 16 => v = .bool false
  | 17 => v = .agg Cp
  | 18 => v = .agg Cq
  | 19 => v = .bool false
  | 20 => v = .bool false
  | 21 => v = .agg Cq
  | 22 => v = .agg Cp
  | 23 => v = .bool true
  | 24 => v = .bool true
  | 25 => v = .bool false
  | 26 => v = .bool false
  | 27 => v = .bool false
  | 28 => v = .agg Cp
  | 29 => v = .agg Cq
  | 30 => v = .bool false
  | 31 => v = .bool false
  | 32 => v = undef
  | 33 => v = undef
  | 34 => v = undef
  | 35 => v = .bool false
  | 36 => v = .bool false
  | 37 => v = undef
  | 38 => v = undef
  | 39 => v = undef
  | 40 => v = undef
  | 41 => v = .bool false
  | 42 => v = .bool false
  | _ => True
theorem O10c.ext (gp gq gr : Nat) (Cp Cq Cr : Array Value) : ∀ (j : Nat) (u : Value) (W W' : World), Fr (fun _ => False) W W' → O10c gp gq gr Cp Cq Cr j u W → O10c gp gq gr Cp Cq Cr j u W'
  | 0, u, W, W', hf, h => h
  | 1, u, W, W', hf, h => h
  | 2, u, W, W', hf, h => h
  | 3, u, W, W', hf, h => h
  | 4, u, W, W', hf, h => h
  | 5, u, W, W', hf, h => h
  | 6, u, W, W', hf, h => h
  | 7, u, W, W', hf, h => h
  | 8, u, W, W', hf, h => h
  | 9, u, W, W', hf, h => h
  | 10, u, W, W', hf, h => h
  | 11, u, W, W', hf, h => h
  | 12, u, W, W', hf, h => h
  | 13, u, W, W', hf, h => h
  | 14, u, W, W', hf, h => h
  | 15, u, W, W', hf, h => h
  | 16, u, W, W', hf, h => h
  | 17, u, W, W', hf, h => h
  | 18, u, W, W', hf, h => h
  | 19, u, W, W', hf, h => h
  | 20, u, W, W', hf, h => h
  | 21, u, W, W', hf, h => h
  | 22, u, W, W', hf, h => h
  | 23, u, W, W', hf, h => h
  | 24, u, W, W', hf, h => h
  | 25, u, W, W', hf, h => h
  | 26, u, W, W', hf, h => h
  | 27, u, W, W', hf, h => h
  | 28, u, W, W', hf, h => h
  | 29, u, W, W', hf, h => h
  | 30, u, W, W', hf, h => h
  | 31, u, W, W', hf, h => h
  | 32, u, W, W', hf, h => h
  | 33, u, W, W', hf, h => h
  | 34, u, W, W', hf, h => h
  | 35, u, W, W', hf, h => h
  | 36, u, W, W', hf, h => h
  | 37, u, W, W', hf, h => h
  | 38, u, W, W', hf, h => h
  | 39, u, W, W', hf, h => h
  | 40, u, W, W', hf, h => h
  | 41, u, W, W', hf, h => h
  | 42, u, W, W', hf, h => h
  | _ + 43, u, W, W', hf, h => trivial

def O10d (gp gq gr : Nat) (Cp Cq Cr : Array Value) (i : Nat) (v : Value) (W : World) : Prop :=
  match i with
  | 0 => v = .agg Cp
  | 1 => v = .agg Cp
  | 2 => v = .bool false
  | 3 => v = .bool false
  | 4 => v = .agg Cp
  | 5 => v = .agg Cq
  | 6 => v = .bool false
  | 7 => v = .bool false
  | 8 => v = undef
  | 9 => v = undef
  | 10 => v = undef
  | 11 => v = .bool false
  | 12 => v = .bool false
  | 13 => v = .bool false
  | 14 => v = .agg Cp
  | 15 => v = .agg Cq
  | 16 => v = .bool true
  | 17 => v = .agg Cp
  | 18 => v = .agg Cq
  | 19 => v = .bool false
  | 20 => v = .bool false
  | 21 => v = .agg Cq
  | 22 => v = .agg Cp
  | 23 => v = .bool false
  | 24 => v = .bool false
  | 25 => v = .bool false
  | 26 => v = .bool false
  | 27 => v = .bool false
  | 28 => v = .agg Cp
  | 29 => v = .agg Cq
  | 30 => v = .bool false
  | 31 => v = .bool false
  | 32 => v = undef
  | 33 => v = undef
  | 34 => v = undef
  | 35 => v = .bool false
  | 36 => v = .bool false
  | 37 => v = undef
  | 38 => v = undef
  | 39 => v = undef
  | 40 => v = undef
  | 41 => v = .bool false
  | 42 => v = .bool false
  | _ => True
theorem O10d.ext (gp gq gr : Nat) (Cp Cq Cr : Array Value) : ∀ (j : Nat) (u : Value) (W W' : World), Fr (fun _ => False) W W' → O10d gp gq gr Cp Cq Cr j u W → O10d gp gq gr Cp Cq Cr j u W'
  | 0, u, W, W', hf, h => h
  | 1, u, W, W', hf, h => h
  | 2, u, W, W', hf, h => h
  | 3, u, W, W', hf, h => h
  | 4, u, W, W', hf, h => h
  | 5, u, W, W', hf, h => h
  | 6, u, W, W', hf, h => h
  | 7, u, W, W', hf, h => h
  | 8, u, W, W', hf, h => h
  | 9, u, W, W', hf, h => h
  | 10, u, W, W', hf, h => h
  | 11, u, W, W', hf, h => h
  | 12, u, W, W', hf, h => h
  | 13, u, W, W', hf, h => h
  | 14, u, W, W', hf, h => h
  | 15, u, W, W', hf, h => h
  | 16, u, W, W', hf, h => h
  | 17, u, W, W', hf, h => h
  | 18, u, W, W', hf, h => h
  | 19, u, W, W', hf, h => h
  | 20, u, W, W', hf, h => h
  | 21, u, W, W', hf, h => h
  | 22, u, W, W', hf, h => h
  | 23, u, W, W', hf, h => h
  | 24, u, W, W', hf, h => h
  | 25, u, W, W', hf, h => h
  | 26, u, W, W', hf, h => h
  | 27, u, W, W', hf, h => h
  | 28, u, W, W', hf, h => h
  | 29, u, W, W', hf, h => h
  | 30, u, W, W', hf, h => h
  | 31, u, W, W', hf, h => h
  | 32, u, W, W', hf, h => h
  | 33, u, W, W', hf, h => h
  | 34, u, W, W', hf, h => h
  | 35, u, W, W', hf, h => h
  | 36, u, W, W', hf, h => h
  | 37, u, W, W', hf, h => h
  | 38, u, W, W', hf, h => h
  | 39, u, W, W', hf, h => h
  | 40, u, W, W', hf, h => h
  | 41, u, W, W', hf, h => h
  | 42, u, W, W', hf, h => h
  | _ + 43, u, W, W', hf, h => trivial

def O16 (b6 o6 c6 m kx : Nat) (CX CY : Array Value) (i : Nat) (v : Value) (W : World) : Prop :=
  match i with
  | 0 => v = .slice (some ⟨b6, o6, none⟩) m c6
  | 1 => v = .int .i64 (kx : Int)
  | 2 => v = .int .i64 ((kx - 1 : Nat) : Int)
  | 3 => v = .pointer (some ⟨b6, o6 + (kx - 1) * 21, none⟩)
  | 4 => v = .agg CY
  | 5 => v = .slice (some ⟨b6, o6, none⟩) m c6
  | 6 => v = .int .i64 (kx : Int)
  | 7 => v = .pointer (some ⟨b6, o6 + kx * 21, none⟩)
  | 8 => v = .agg CX
  | 9 => v = .bool true
  | 10 => v = .bool false
  | _ => True
theorem O16.ext (b6 o6 c6 m kx : Nat) (CX CY : Array Value) : ∀ (j : Nat) (u : Value) (W W' : World), Fr (fun _ => False) W W' → O16 b6 o6 c6 m kx CX CY j u W → O16 b6 o6 c6 m kx CX CY j u W'
  | 0, u, W, W', hf, h => h
  | 1, u, W, W', hf, h => h
  | 2, u, W, W', hf, h => h
  | 3, u, W, W', hf, h => h
  | 4, u, W, W', hf, h => h
  | 5, u, W, W', hf, h => h
  | 6, u, W, W', hf, h => h
  | 7, u, W, W', hf, h => h
  | 8, u, W, W', hf, h => h
  | 9, u, W, W', hf, h => h
  | 10, u, W, W', hf, h => h
  | _ + 11, u, W, W', hf, h => trivial

set_option maxRecDepth 100000 in
set_option maxHeartbeats 32000000 in
theorem baseOrder_any (w : World) (p q r : PathX) (v : Value) (L : List PathX) (hpn : p.n.size ≤ 140737488351232) (hqn : q.n.size ≤ 140737488351232) (hrn : r.n.size ≤ 140737488351232) (hv : PathsIn (fun k => k < w.heap.size) w v L) (hlen : L.length ≤ 140737488351232) (hNs : ∀ p ∈ L, p.n.size ≤ 140737488351232) :
    Calls Try.prog 7 #[.agg (pathC p.h p.n), .agg (pathC q.h q.n), .agg (pathC r.h r.n), v] w fun e w' => e = .returned (.bool true) ∧ Fr (fun _ => False) w w' := by
  have HV := Lib.hid hv
  obtain ⟨ao, cap, rfl, hlc, hcm, hn0, hrow⟩ := hv
  have HROW := Lib.hid hrow
  have HNS := Lib.hid hNs
  have HAW := Lib.hid (fun W => awake_any W)
  unfold maxLen at hcm
  clear hn0 hrow hNs
  obtain ⟨n, hn⟩ : ∃ n, n = L.length := ⟨_, rfl⟩
  rw [← hn] at hlc hlen HV ⊢
  have HN := Lib.hid hn
  obtain ⟨Cp, hCp⟩ : ∃ C, C = pathC p.h p.n := ⟨_, rfl⟩
  obtain ⟨Cq, hCq⟩ : ∃ C, C = pathC q.h q.n := ⟨_, rfl⟩
  obtain ⟨Cr, hCr⟩ : ∃ C, C = pathC r.h r.n := ⟨_, rfl⟩
  rw [← hCp, ← hCq, ← hCr]
  obtain ⟨Np, hNp⟩ : ∃ C, C = p.n := ⟨_, rfl⟩
  obtain ⟨Nq, hNq⟩ : ∃ C, C = q.n := ⟨_, rfl⟩
  obtain ⟨Nr, hNr⟩ : ∃ C, C = r.n := ⟨_, rfl⟩
  rw [← hNp] at hpn
  rw [← hNq] at hqn
  rw [← hNr] at hrn
  have HCp := Lib.hid hCp
  have HCq := Lib.hid hCq
  have HCr := Lib.hid hCr
  have NMp := Lib.hid (fun (W : World) (g : Nat) (h : W.heap[g]? = some (.cells Cp 25 (0, 0))) => show W.cell? ⟨g, 20, none⟩ = some (.string Np) by rw [hCp] at h; rw [hNp]; exact PathT.name (H := p.h) h p.hl)
  have NMq := Lib.hid (fun (W : World) (g : Nat) (h : W.heap[g]? = some (.cells Cq 25 (0, 0))) => show W.cell? ⟨g, 20, none⟩ = some (.string Nq) by rw [hCq] at h; rw [hNq]; exact PathT.name (H := q.h) h q.hl)
  have NMr := Lib.hid (fun (W : World) (g : Nat) (h : W.heap[g]? = some (.cells Cr 25 (0, 0))) => show W.cell? ⟨g, 20, none⟩ = some (.string Nr) by rw [hCr] at h; rw [hNr]; exact PathT.name (H := r.h) h r.hl)
  have HK0 := Lib.hid (show Fr (fun _ => False) w (((w.alloc (.cells Cp 25)).alloc (.cells Cq 25)).alloc (.cells Cr 25)) ∧ Rows (((w.alloc (.cells Cp 25)).alloc (.cells Cq 25)).alloc (.cells Cr 25)) [(w.heap.size, Cp, 25), (w.heap.size + 1, Cq, 25), (w.heap.size + 1 + 1, Cr, 25)] from
    ⟨(((Fr.refl _ _).alloc _).alloc _).alloc _, fun x hx => by
      rcases List.mem_cons.1 hx with rfl | hx
      · exact ((Fr.refl (fun _ => False) _).alloc _).heap (heap_alloc2_old w _ _) (fun h => h)
      · rcases List.mem_cons.1 hx with rfl | hx
        · exact ((Fr.refl (fun _ => False) _).alloc _).heap (heap_alloc2_new w _ _) (fun h => h)
        · obtain rfl := List.mem_singleton.1 hx
          exact heap_alloc2_new (w.alloc (.cells Cp 25)) _ _ |> fun h => by simpa using h⟩)
  clear hn hCp hCq hCr hNp hNq hNr
  go_enter Try.func7, Try.ntmps7
  go_wp2_with (go_at_call 8; refine (HAW.out _).mono ?_; rintro e w1 ⟨rfl, hf1⟩; (have HK1 := Lib.hid (And.intro (HK0.out.1.trans hf1 (fun _ h => h.elim)) (HK0.out.2.keep hf1))); clear hf1; (have hcp := NMp.out w1 w.heap.size (HK1.out.2.nth 0 w.heap.size Cp 25 rfl)); (have hcq := NMq.out w1 (w.heap.size + 1) (HK1.out.2.nth 1 (w.heap.size + 1) Cq 25 rfl)); (have hcr := NMr.out w1 (w.heap.size + 1 + 1) (HK1.out.2.nth 2 (w.heap.size + 1 + 1) Cr 25 rfl)))
  have H1 := Lib.hid (Fr.refl (fun _ => False) w1)
  have HK := HK1
  clear hcp hcq hcr
  generalize w.heap.size + 1 + 1 = gr at *
  generalize w.heap.size + 1 = gq at *
  obtain ⟨gp, hgp⟩ : ∃ g, g = w.heap.size := ⟨_, rfl⟩
  rw [← hgp] at HK ⊢
  obtain ⟨s0, hs0⟩ : ∃ s : Nat, s = Np.size + Nq.size + Nr.size := ⟨_, rfl⟩
  have hsi : (Np.size : Int) + (Nq.size : Int) + (Nr.size : Int) = (s0 : Int) := by omega
  rw [hsi]
  have hs1 : s0 ≤ 3 * 140737488351232 := by omega
  clear hsi hs0 hpn hqn hrn
  go_loopw [9, 10] (fun sv iv wr => ∃ kx s : Nat, kx ≤ n ∧ kx ≤ 120 ∧ s ≤ (kx + 3) * 140737488351232 ∧ sv = .int .i64 s ∧ iv = .int .i64 kx ∧ Hid (Fr (fun _ => False) w1 wr)) (fun _ iv _ => n - (intOf iv).toNat)
  case atStart => exact ⟨0, s0, by omega, by omega, by omega, rfl, rfl, H1⟩
  case round =>
    clear H1
    obtain ⟨kx, s, hk, hk2, hs, rfl, rfl, HF1⟩ := hrel
    have HF := Lib.hid (HK.out.1.trans HF1.out (fun _ h => h.elim))
    by_cases hlt : kx < n
    · have hd : decide ((kx : Int) < (n : Int)) = true := by rw [decide_eq_true_iff]; omega
      by_cases h120 : kx < 120
      · have hd2 : decide ((kx : Int) < 120) = true := by rw [decide_eq_true_iff]; omega
        by_cases h2000 : s ≤ 2000
        · have hd3 : decide ((s : Int) ≤ 2000) = true := by rw [decide_eq_true_iff]; omega
          have hil : kx < L.length := by rw [← HN.out]; exact hlt
          obtain ⟨x, hx⟩ : ∃ x, x = L[kx] := ⟨_, rfl⟩
          obtain ⟨b, off, rfl, _, hrg⟩ := HROW.out (by rintro rfl; simp at hil)
          have hr0 := HF.out.range (hrg kx hil) (fun h => h)
          rw [← hx] at hr0
          have hxn : x.n.size ≤ 140737488351232 := HNS.out x (by rw [hx]; exact List.getElem_mem _)
          have hc := name_cell hr0
          obtain ⟨N, hN⟩ : ∃ N, N = x.n := ⟨_, rfl⟩
          rw [← hN] at hc hxn
          have hkn : (kx : Int) < (n : Int) := by omega
          have hk0 : (0 : Int) ≤ (kx : Int) := by omega
          clear hx hil hrg hr0 hN
          go_wp2_with fail
          go_roundw
          case rel => exact ⟨kx + 1, s + N.size, by omega, by omega, by omega, by go_num, by go_num, HF1⟩
          case measure => simp [intOf]; omega
        · have hd3 : decide ((s : Int) ≤ 2000) = false := by rw [decide_eq_false_iff_not]; omega
          have hd4 : decide (2000 < (s : Int)) = true := by rw [decide_eq_true_iff]; omega
          go_wp2_with fail
          go_ret
          exact ⟨rfl, HF.out⟩
      · have hd2 : decide ((kx : Int) < 120) = false := by rw [decide_eq_false_iff_not]; omega
        have hd5 : decide (120 < (n : Int)) = true := by rw [decide_eq_true_iff]; omega
        by_cases h2000 : 2000 < s
        · have hd4 : decide (2000 < (s : Int)) = true := by rw [decide_eq_true_iff]; omega
          go_wp2_with fail
          go_ret
          exact ⟨rfl, HF.out⟩
        · have hd4 : decide (2000 < (s : Int)) = false := by rw [decide_eq_false_iff_not]; omega
          go_wp2_with fail
          go_ret
          exact ⟨rfl, HF.out⟩
    · have hkn : kx = n := by omega
      have hn120 : n ≤ 120 := by omega
      have hd : decide ((kx : Int) < (n : Int)) = false := by rw [decide_eq_false_iff_not]; omega
      have hd5 : decide (120 < (n : Int)) = false := by rw [decide_eq_false_iff_not]; omega
      by_cases h2000 : 2000 < s
      · have hd4 : decide (2000 < (s : Int)) = true := by rw [decide_eq_true_iff]; omega
        go_wp2_with fail
        go_ret
        exact ⟨rfl, HF.out⟩
      · have hd4 : decide (2000 < (s : Int)) = false := by rw [decide_eq_false_iff_not]; omega
        have HL6 := Lib.hid (show L.length ≤ 100000 by rw [← HN.out]; omega)
        have HSO := Lib.hid (fun (W : World) (u : Value) (h : PathsIn (fun k => k < W.heap.size) W u L) => bSorted_any W u L h (fun k h => h) (by have := HL6.out; omega) HNS.out)
        have LDp := Lib.hid (fun W (hW : Fr (fun _ => False) wr W) => show (Instr.loadAt 25 (.pointer (some ⟨gp, 0, none⟩))).run Try.prog W = .ok (.agg Cp) W by
          have h := hW.heap (HF1.out.heap (HK.out.2.nth 0 gp Cp 25 rfl) (fun h => h)) (fun h => h)
          rw [HCp.out] at h ⊢
          exact load_path W gp p.h p.n h p.hl)
        have LDq := Lib.hid (fun W (hW : Fr (fun _ => False) wr W) => show (Instr.loadAt 25 (.pointer (some ⟨gq, 0, none⟩))).run Try.prog W = .ok (.agg Cq) W by
          have h := hW.heap (HF1.out.heap (HK.out.2.nth 1 gq Cq 25 rfl) (fun h => h)) (fun h => h)
          rw [HCq.out] at h ⊢
          exact load_path W gq q.h q.n h q.hl)
        have LDr := Lib.hid (fun W (hW : Fr (fun _ => False) wr W) => show (Instr.loadAt 25 (.pointer (some ⟨gr, 0, none⟩))).run Try.prog W = .ok (.agg Cr) W by
          have h := hW.heap (HF1.out.heap (HK.out.2.nth 2 gr Cr 25 rfl) (fun h => h)) (fun h => h)
          rw [HCr.out] at h ⊢
          exact load_path W gr r.h r.n h r.hl)
        clear hs h2000
        cases ha : lessX p q with
        | true =>
          have heq : sameX p q = false := by
            rw [sameX_eq, decide_eq_false_iff_not]
            rintro rfl
            rw [lessX_strict.irr] at ha
            cases ha
          have hb : lessX q p = false := by
            cases h : lessX q p with
            | false => rfl
            | true =>
              have := lessX_strict.trans p q p ha h
              rw [lessX_strict.irr] at this
              cases this
          cases hc : lessX q r with
          | true =>
            have hdd : lessX p r = true := lessX_strict.trans p q r ha hc
            have HLpp := Lib.hid (fun W => show Calls Try.prog 21 #[.agg Cp, .agg Cp] W fun e w' => e = .returned (.bool false) ∧ Fr (fun _ => False) W w' from by
              have h := bLessX_any p p W
              rw [lessX_strict.irr] at h
              rw [HCp.out]
              exact h)
            have HLpq := Lib.hid (fun W => show Calls Try.prog 21 #[.agg Cp, .agg Cq] W fun e w' => e = .returned (.bool true) ∧ Fr (fun _ => False) W w' from by
              have h := bLessX_any p q W
              rw [ha] at h
              rw [HCp.out, HCq.out]
              exact h)
            have HLqp := Lib.hid (fun W => show Calls Try.prog 21 #[.agg Cq, .agg Cp] W fun e w' => e = .returned (.bool false) ∧ Fr (fun _ => False) W w' from by
              have h := bLessX_any q p W
              rw [hb] at h
              rw [HCq.out, HCp.out]
              exact h)
            have HLqr := Lib.hid (fun W => show Calls Try.prog 21 #[.agg Cq, .agg Cr] W fun e w' => e = .returned (.bool true) ∧ Fr (fun _ => False) W w' from by
              have h := bLessX_any q r W
              rw [hc] at h
              rw [HCq.out, HCr.out]
              exact h)
            have HLpr := Lib.hid (fun W => show Calls Try.prog 21 #[.agg Cp, .agg Cr] W fun e w' => e = .returned (.bool true) ∧ Fr (fun _ => False) W w' from by
              have h := bLessX_any p r W
              rw [hdd] at h
              rw [HCp.out, HCr.out]
              exact h)
            have EQX := Lib.hid (fun W => show (binOp .eql 25 (.agg Cp) (.agg Cq)).run Try.prog W = .ok (.bool false) W by
              rw [HCp.out, HCq.out, run_eql_path W p.h p.n q.h q.n p.hl q.hl, show sameP p.h p.n q.h q.n = false from heq])
            go_wp2_with fail
            refine wp_region_inv 43 (by kernel_rfl) (by kernel_rfl) (fun W => Fr (fun _ => False) wr W) (O10a gp gq gr Cp Cq Cr) (fun _ _ _ _ => True) (Fr (fun _ => False)) (O10a.ext gp gq gr Cp Cq Cr) (Fr.refl _ _).drew ?_ ?_
            · intro i hi o ho
              replace hi : i < 43 := hi
              obtain rfl | rfl | rfl | rfl | rfl | rfl | rfl | rfl | rfl | rfl | rfl | rfl | rfl | rfl | rfl | rfl | rfl | rfl | rfl | rfl | rfl | rfl | rfl | rfl | rfl | rfl | rfl | rfl | rfl | rfl | rfl | rfl | rfl | rfl | rfl | rfl | rfl | rfl | rfl | rfl | rfl | rfl | rfl : i = 0 ∨ i = 1 ∨ i = 2 ∨ i = 3 ∨ i = 4 ∨ i = 5 ∨ i = 6 ∨ i = 7 ∨ i = 8 ∨ i = 9 ∨ i = 10 ∨ i = 11 ∨ i = 12 ∨ i = 13 ∨ i = 14 ∨ i = 15 ∨ i = 16 ∨ i = 17 ∨ i = 18 ∨ i = 19 ∨ i = 20 ∨ i = 21 ∨ i = 22 ∨ i = 23 ∨ i = 24 ∨ i = 25 ∨ i = 26 ∨ i = 27 ∨ i = 28 ∨ i = 29 ∨ i = 30 ∨ i = 31 ∨ i = 32 ∨ i = 33 ∨ i = 34 ∨ i = 35 ∨ i = 36 ∨ i = 37 ∨ i = 38 ∨ i = 39 ∨ i = 40 ∨ i = 41 ∨ i = 42 := by omega
              · simp only [List.getElem?_cons_zero, Option.some.injEq] at ho
                subst ho
                intro a W vs hB hS hE hU
                refine wpG_plain rfl ?_
                have v4 : a.eval (.tmp 4) = .pointer (some ⟨gp, 0, none⟩) := (hU 4 (by kernel_rfl)).trans rfl
                clear hE hU
                exact wp_value_inv (w' := W) (.agg Cp) (op_loadAt rfl v4 (LDp.out W hB)) ⟨_, rfl, hB, Fr.refl _ _, rfl, fun _ _ _ _ _ => trivial⟩
              · simp only [List.getElem?_cons_zero, List.getElem?_cons_succ, Option.some.injEq] at ho
                subst ho
                intro a W vs hB hS hE hU
                refine wpG_plain rfl ?_
                have v4 : a.eval (.tmp 4) = .pointer (some ⟨gp, 0, none⟩) := (hU 4 (by kernel_rfl)).trans rfl
                clear hE hU
                exact wp_value_inv (w' := W) (.agg Cp) (op_loadAt rfl v4 (LDp.out W hB)) ⟨_, rfl, hB, Fr.refl _ _, rfl, fun _ _ _ _ _ => trivial⟩
              · simp only [List.getElem?_cons_zero, List.getElem?_cons_succ, Option.some.injEq] at ho
                subst ho
                intro a W vs hB hS hE hU
                refine wpG_plain rfl ?_
                obtain ⟨r0, e55⟩ := hE 0 55 (by kernel_rfl) (by kernel_rfl)
                have v55 : a.eval (.tmp 55) = .agg Cp := e55.trans r0
                obtain ⟨r1, e56⟩ := hE 1 56 (by kernel_rfl) (by kernel_rfl)
                have v56 : a.eval (.tmp 56) = .agg Cp := e56.trans r1
                clear hE hU
                refine wp_call_inv 21 #[.tmp 55, .tmp 56] #[25, 25] rfl #[.agg Cp, .agg Cp] (by simp only [List.map_toArray, List.map_cons, List.map_nil, v55, v56]) (bLess_enter _) (Post := fun v W' => v = .bool false ∧ Fr (fun _ => False) W W') ((HLpp.out W).mono fun e w' h => ⟨_, h.1, rfl, h.2⟩) ?_
                rintro v W' ⟨rfl, hf⟩
                exact ⟨_, rfl, hB.trans hf (fun _ h => h.elim), hf, rfl, fun _ _ _ _ _ => trivial⟩
              · simp only [List.getElem?_cons_zero, List.getElem?_cons_succ, Option.some.injEq] at ho
                subst ho
                intro a W vs hB hS hE hU
                refine wpG_plain rfl ?_
                obtain ⟨r2, e57⟩ := hE 2 57 (by kernel_rfl) (by kernel_rfl)
                have v57 : a.eval (.tmp 57) = .bool false := e57.trans r2
                clear hE hU
                exact wp_value_inv (w' := W) (.bool false) (op_move rfl v57) ⟨_, rfl, hB, Fr.refl _ _, rfl, fun _ _ _ _ _ => trivial⟩
              · simp only [List.getElem?_cons_zero, List.getElem?_cons_succ, Option.some.injEq] at ho
                subst ho
                intro a W vs hB hS hE hU
                obtain ⟨r3, e58⟩ := hE 3 58 (by kernel_rfl) (by kernel_rfl)
                have v58 : a.eval (.tmp 58) = .bool false := e58.trans r3
                refine wpG_yes 3 false 58 rfl (by kernel_rfl) (by rw [hS]; first | simp | exact Nat.le_of_ble_eq_true rfl) v58 ?_
                have v4 : a.eval (.tmp 4) = .pointer (some ⟨gp, 0, none⟩) := (hU 4 (by kernel_rfl)).trans rfl
                clear hE hU
                exact wp_value_inv (w' := W) (.agg Cp) (op_loadAt rfl v4 (LDp.out W hB)) ⟨_, rfl, hB, Fr.refl _ _, rfl, fun _ _ _ _ _ => trivial⟩
              · simp only [List.getElem?_cons_zero, List.getElem?_cons_succ, Option.some.injEq] at ho
                subst ho
                intro a W vs hB hS hE hU
                obtain ⟨r3, e58⟩ := hE 3 58 (by kernel_rfl) (by kernel_rfl)
                have v58 : a.eval (.tmp 58) = .bool false := e58.trans r3
                refine wpG_yes 3 false 58 rfl (by kernel_rfl) (by rw [hS]; first | simp | exact Nat.le_of_ble_eq_true rfl) v58 ?_
                have v5 : a.eval (.tmp 5) = .pointer (some ⟨gq, 0, none⟩) := (hU 5 (by kernel_rfl)).trans rfl
                clear hE hU
                exact wp_value_inv (w' := W) (.agg Cq) (op_loadAt rfl v5 (LDq.out W hB)) ⟨_, rfl, hB, Fr.refl _ _, rfl, fun _ _ _ _ _ => trivial⟩
              · simp only [List.getElem?_cons_zero, List.getElem?_cons_succ, Option.some.injEq] at ho
                subst ho
                intro a W vs hB hS hE hU
                obtain ⟨r3, e58⟩ := hE 3 58 (by kernel_rfl) (by kernel_rfl)
                have v58 : a.eval (.tmp 58) = .bool false := e58.trans r3
                refine wpG_yes 3 false 58 rfl (by kernel_rfl) (by rw [hS]; first | simp | exact Nat.le_of_ble_eq_true rfl) v58 ?_
                obtain ⟨r4, e59⟩ := hE 4 59 (by kernel_rfl) (by kernel_rfl)
                have v59 : a.eval (.tmp 59) = .agg Cp := e59.trans r4
                obtain ⟨r5, e60⟩ := hE 5 60 (by kernel_rfl) (by kernel_rfl)
                have v60 : a.eval (.tmp 60) = .agg Cq := e60.trans r5
                clear hE hU
                refine wp_call_inv 21 #[.tmp 59, .tmp 60] #[25, 25] rfl #[.agg Cp, .agg Cq] (by simp only [List.map_toArray, List.map_cons, List.map_nil, v59, v60]) (bLess_enter _) (Post := fun v W' => v = .bool true ∧ Fr (fun _ => False) W W') ((HLpq.out W).mono fun e w' h => ⟨_, h.1, rfl, h.2⟩) ?_
                rintro v W' ⟨rfl, hf⟩
                exact ⟨_, rfl, hB.trans hf (fun _ h => h.elim), hf, rfl, fun _ _ _ _ _ => trivial⟩
              · simp only [List.getElem?_cons_zero, List.getElem?_cons_succ, Option.some.injEq] at ho
                subst ho
                intro a W vs hB hS hE hU
                obtain ⟨r3, e58⟩ := hE 3 58 (by kernel_rfl) (by kernel_rfl)
                have v58 : a.eval (.tmp 58) = .bool false := e58.trans r3
                refine wpG_yes 3 false 58 rfl (by kernel_rfl) (by rw [hS]; first | simp | exact Nat.le_of_ble_eq_true rfl) v58 ?_
                obtain ⟨r6, e61⟩ := hE 6 61 (by kernel_rfl) (by kernel_rfl)
                have v61 : a.eval (.tmp 61) = .bool true := e61.trans r6
                clear hE hU
                exact wp_value_inv (w' := W) (.bool true) (op_move rfl v61) ⟨_, rfl, hB, Fr.refl _ _, rfl, fun _ _ _ _ _ => trivial⟩
              · simp only [List.getElem?_cons_zero, List.getElem?_cons_succ, Option.some.injEq] at ho
                subst ho
                intro a W vs hB hS hE hU
                obtain ⟨r7, e62⟩ := hE 7 62 (by kernel_rfl) (by kernel_rfl)
                have v62 : a.eval (.tmp 62) = .bool true := e62.trans r7
                refine wpG_yes 7 true 62 rfl (by kernel_rfl) (by rw [hS]; first | simp | exact Nat.le_of_ble_eq_true rfl) v62 ?_
                have v5 : a.eval (.tmp 5) = .pointer (some ⟨gq, 0, none⟩) := (hU 5 (by kernel_rfl)).trans rfl
                clear hE hU
                exact wp_value_inv (w' := W) (.agg Cq) (op_loadAt rfl v5 (LDq.out W hB)) ⟨_, rfl, hB, Fr.refl _ _, rfl, fun _ _ _ _ _ => trivial⟩
              · simp only [List.getElem?_cons_zero, List.getElem?_cons_succ, Option.some.injEq] at ho
                subst ho
                intro a W vs hB hS hE hU
                obtain ⟨r7, e62⟩ := hE 7 62 (by kernel_rfl) (by kernel_rfl)
                have v62 : a.eval (.tmp 62) = .bool true := e62.trans r7
                refine wpG_yes 7 true 62 rfl (by kernel_rfl) (by rw [hS]; first | simp | exact Nat.le_of_ble_eq_true rfl) v62 ?_
                have v4 : a.eval (.tmp 4) = .pointer (some ⟨gp, 0, none⟩) := (hU 4 (by kernel_rfl)).trans rfl
                clear hE hU
                exact wp_value_inv (w' := W) (.agg Cp) (op_loadAt rfl v4 (LDp.out W hB)) ⟨_, rfl, hB, Fr.refl _ _, rfl, fun _ _ _ _ _ => trivial⟩
              · simp only [List.getElem?_cons_zero, List.getElem?_cons_succ, Option.some.injEq] at ho
                subst ho
                intro a W vs hB hS hE hU
                obtain ⟨r7, e62⟩ := hE 7 62 (by kernel_rfl) (by kernel_rfl)
                have v62 : a.eval (.tmp 62) = .bool true := e62.trans r7
                refine wpG_yes 7 true 62 rfl (by kernel_rfl) (by rw [hS]; first | simp | exact Nat.le_of_ble_eq_true rfl) v62 ?_
                obtain ⟨r8, e63⟩ := hE 8 63 (by kernel_rfl) (by kernel_rfl)
                have v63 : a.eval (.tmp 63) = .agg Cq := e63.trans r8
                obtain ⟨r9, e64⟩ := hE 9 64 (by kernel_rfl) (by kernel_rfl)
                have v64 : a.eval (.tmp 64) = .agg Cp := e64.trans r9
                clear hE hU
                refine wp_call_inv 21 #[.tmp 63, .tmp 64] #[25, 25] rfl #[.agg Cq, .agg Cp] (by simp only [List.map_toArray, List.map_cons, List.map_nil, v63, v64]) (bLess_enter _) (Post := fun v W' => v = .bool false ∧ Fr (fun _ => False) W W') ((HLqp.out W).mono fun e w' h => ⟨_, h.1, rfl, h.2⟩) ?_
                rintro v W' ⟨rfl, hf⟩
                exact ⟨_, rfl, hB.trans hf (fun _ h => h.elim), hf, rfl, fun _ _ _ _ _ => trivial⟩
              · simp only [List.getElem?_cons_zero, List.getElem?_cons_succ, Option.some.injEq] at ho
                subst ho
                intro a W vs hB hS hE hU
                obtain ⟨r3, e58⟩ := hE 3 58 (by kernel_rfl) (by kernel_rfl)
                have v58 : a.eval (.tmp 58) = .bool false := e58.trans r3
                refine wpG_yes 3 false 58 rfl (by kernel_rfl) (by rw [hS]; first | simp | exact Nat.le_of_ble_eq_true rfl) v58 ?_
                obtain ⟨r7, e62⟩ := hE 7 62 (by kernel_rfl) (by kernel_rfl)
                have v62 : a.eval (.tmp 62) = .bool true := e62.trans r7
                obtain ⟨r10, e65⟩ := hE 10 65 (by kernel_rfl) (by kernel_rfl)
                have v65 : a.eval (.tmp 65) = .bool false := e65.trans r10
                clear hE hU
                exact wp_value_inv (w' := W) (.bool false) (op_pick rfl v62 (by simp only [if_true]; exact v65)) ⟨_, rfl, hB, Fr.refl _ _, rfl, fun _ _ _ _ _ => trivial⟩
              · simp only [List.getElem?_cons_zero, List.getElem?_cons_succ, Option.some.injEq] at ho
                subst ho
                intro a W vs hB hS hE hU
                refine wpG_plain rfl ?_
                obtain ⟨r3, e58⟩ := hE 3 58 (by kernel_rfl) (by kernel_rfl)
                have v58 : a.eval (.tmp 58) = .bool false := e58.trans r3
                obtain ⟨r11, e66⟩ := hE 11 66 (by kernel_rfl) (by kernel_rfl)
                have v66 : a.eval (.tmp 66) = .bool false := e66.trans r11
                clear hE hU
                exact wp_value_inv (w' := W) (.bool false) (op_pick rfl v58 (by simp only [Bool.false_eq_true, if_false]; exact v66)) ⟨_, rfl, hB, Fr.refl _ _, rfl, fun _ _ _ _ _ => trivial⟩
              · simp only [List.getElem?_cons_zero, List.getElem?_cons_succ, Option.some.injEq] at ho
                subst ho
                intro a W vs hB hS hE hU
                refine wpG_plain rfl ?_
                obtain ⟨r12, e67⟩ := hE 12 67 (by kernel_rfl) (by kernel_rfl)
                have v67 : a.eval (.tmp 67) = .bool false := e67.trans r12
                clear hE hU
                exact wp_value_inv (w' := W) (.bool false) (op_move rfl v67) ⟨_, rfl, hB, Fr.refl _ _, rfl, fun _ _ _ _ _ => trivial⟩
              · simp only [List.getElem?_cons_zero, List.getElem?_cons_succ, Option.some.injEq] at ho
                subst ho
                intro a W vs hB hS hE hU
                obtain ⟨r13, e68⟩ := hE 13 68 (by kernel_rfl) (by kernel_rfl)
                have v68 : a.eval (.tmp 68) = .bool false := e68.trans r13
                refine wpG_yes 13 false 68 rfl (by kernel_rfl) (by rw [hS]; first | simp | exact Nat.le_of_ble_eq_true rfl) v68 ?_
                have v4 : a.eval (.tmp 4) = .pointer (some ⟨gp, 0, none⟩) := (hU 4 (by kernel_rfl)).trans rfl
                clear hE hU
                exact wp_value_inv (w' := W) (.agg Cp) (op_loadAt rfl v4 (LDp.out W hB)) ⟨_, rfl, hB, Fr.refl _ _, rfl, fun _ _ _ _ _ => trivial⟩
              · simp only [List.getElem?_cons_zero, List.getElem?_cons_succ, Option.some.injEq] at ho
                subst ho
                intro a W vs hB hS hE hU
                obtain ⟨r13, e68⟩ := hE 13 68 (by kernel_rfl) (by kernel_rfl)
                have v68 : a.eval (.tmp 68) = .bool false := e68.trans r13
                refine wpG_yes 13 false 68 rfl (by kernel_rfl) (by rw [hS]; first | simp | exact Nat.le_of_ble_eq_true rfl) v68 ?_
                have v5 : a.eval (.tmp 5) = .pointer (some ⟨gq, 0, none⟩) := (hU 5 (by kernel_rfl)).trans rfl
                clear hE hU
                exact wp_value_inv (w' := W) (.agg Cq) (op_loadAt rfl v5 (LDq.out W hB)) ⟨_, rfl, hB, Fr.refl _ _, rfl, fun _ _ _ _ _ => trivial⟩
              · simp only [List.getElem?_cons_zero, List.getElem?_cons_succ, Option.some.injEq] at ho
                subst ho
                intro a W vs hB hS hE hU
                obtain ⟨r13, e68⟩ := hE 13 68 (by kernel_rfl) (by kernel_rfl)
                have v68 : a.eval (.tmp 68) = .bool false := e68.trans r13
                refine wpG_yes 13 false 68 rfl (by kernel_rfl) (by rw [hS]; first | simp | exact Nat.le_of_ble_eq_true rfl) v68 ?_
                obtain ⟨r14, e69⟩ := hE 14 69 (by kernel_rfl) (by kernel_rfl)
                have v69 : a.eval (.tmp 69) = .agg Cp := e69.trans r14
                obtain ⟨r15, e70⟩ := hE 15 70 (by kernel_rfl) (by kernel_rfl)
                have v70 : a.eval (.tmp 70) = .agg Cq := e70.trans r15
                clear hE hU
                exact wp_value_inv (w' := W) (.bool false) (op_bin rfl v69 v70 (guard_path W _ _ _ _ _) (EQX.out W)) ⟨_, rfl, hB, Fr.refl _ _, rfl, fun _ _ _ _ _ => trivial⟩
              · simp only [List.getElem?_cons_zero, List.getElem?_cons_succ, Option.some.injEq] at ho
                subst ho
                intro a W vs hB hS hE hU
                obtain ⟨r13, e68⟩ := hE 13 68 (by kernel_rfl) (by kernel_rfl)
                have v68 : a.eval (.tmp 68) = .bool false := e68.trans r13
                refine wpG_yes 13 false 68 rfl (by kernel_rfl) (by rw [hS]; first | simp | exact Nat.le_of_ble_eq_true rfl) v68 ?_
                have v4 : a.eval (.tmp 4) = .pointer (some ⟨gp, 0, none⟩) := (hU 4 (by kernel_rfl)).trans rfl
                clear hE hU
                exact wp_value_inv (w' := W) (.agg Cp) (op_loadAt rfl v4 (LDp.out W hB)) ⟨_, rfl, hB, Fr.refl _ _, rfl, fun _ _ _ _ _ => trivial⟩
              · simp only [List.getElem?_cons_zero, List.getElem?_cons_succ, Option.some.injEq] at ho
                subst ho
                intro a W vs hB hS hE hU
                obtain ⟨r13, e68⟩ := hE 13 68 (by kernel_rfl) (by kernel_rfl)
                have v68 : a.eval (.tmp 68) = .bool false := e68.trans r13
                refine wpG_yes 13 false 68 rfl (by kernel_rfl) (by rw [hS]; first | simp | exact Nat.le_of_ble_eq_true rfl) v68 ?_
                have v5 : a.eval (.tmp 5) = .pointer (some ⟨gq, 0, none⟩) := (hU 5 (by kernel_rfl)).trans rfl
                clear hE hU
                exact wp_value_inv (w' := W) (.agg Cq) (op_loadAt rfl v5 (LDq.out W hB)) ⟨_, rfl, hB, Fr.refl _ _, rfl, fun _ _ _ _ _ => trivial⟩
              · simp only [List.getElem?_cons_zero, List.getElem?_cons_succ, Option.some.injEq] at ho
                subst ho
                intro a W vs hB hS hE hU
                obtain ⟨r13, e68⟩ := hE 13 68 (by kernel_rfl) (by kernel_rfl)
                have v68 : a.eval (.tmp 68) = .bool false := e68.trans r13
                refine wpG_yes 13 false 68 rfl (by kernel_rfl) (by rw [hS]; first | simp | exact Nat.le_of_ble_eq_true rfl) v68 ?_
                obtain ⟨r17, e72⟩ := hE 17 72 (by kernel_rfl) (by kernel_rfl)
                have v72 : a.eval (.tmp 72) = .agg Cp := e72.trans r17
                obtain ⟨r18, e73⟩ := hE 18 73 (by kernel_rfl) (by kernel_rfl)
                have v73 : a.eval (.tmp 73) = .agg Cq := e73.trans r18
                clear hE hU
                refine wp_call_inv 21 #[.tmp 72, .tmp 73] #[25, 25] rfl #[.agg Cp, .agg Cq] (by simp only [List.map_toArray, List.map_cons, List.map_nil, v72, v73]) (bLess_enter _) (Post := fun v W' => v = .bool true ∧ Fr (fun _ => False) W W') ((HLpq.out W).mono fun e w' h => ⟨_, h.1, rfl, h.2⟩) ?_
                rintro v W' ⟨rfl, hf⟩
                exact ⟨_, rfl, hB.trans hf (fun _ h => h.elim), hf, rfl, fun _ _ _ _ _ => trivial⟩
              · simp only [List.getElem?_cons_zero, List.getElem?_cons_succ, Option.some.injEq] at ho
                subst ho
                intro a W vs hB hS hE hU
                obtain ⟨r13, e68⟩ := hE 13 68 (by kernel_rfl) (by kernel_rfl)
                have v68 : a.eval (.tmp 68) = .bool false := e68.trans r13
                refine wpG_yes 13 false 68 rfl (by kernel_rfl) (by rw [hS]; first | simp | exact Nat.le_of_ble_eq_true rfl) v68 ?_
                obtain ⟨r19, e74⟩ := hE 19 74 (by kernel_rfl) (by kernel_rfl)
                have v74 : a.eval (.tmp 74) = .bool true := e74.trans r19
                clear hE hU
                exact wp_value_inv (w' := W) (.bool true) (op_move rfl v74) ⟨_, rfl, hB, Fr.refl _ _, rfl, fun _ _ _ _ _ => trivial⟩
              · simp only [List.getElem?_cons_zero, List.getElem?_cons_succ, Option.some.injEq] at ho
                subst ho
                intro a W vs hB hS hE hU
                obtain ⟨r20, e75⟩ := hE 20 75 (by kernel_rfl) (by kernel_rfl)
                have v75 : a.eval (.tmp 75) = .bool true := e75.trans r20
                exact wpG_no 20 false 75 rfl (by kernel_rfl) (by rw [hS]; first | simp | exact Nat.le_of_ble_eq_true rfl) v75 ⟨_, rfl, hB, Fr.refl _ _, rfl, fun _ _ _ _ _ => trivial⟩
              · simp only [List.getElem?_cons_zero, List.getElem?_cons_succ, Option.some.injEq] at ho
                subst ho
                intro a W vs hB hS hE hU
                obtain ⟨r20, e75⟩ := hE 20 75 (by kernel_rfl) (by kernel_rfl)
                have v75 : a.eval (.tmp 75) = .bool true := e75.trans r20
                exact wpG_no 20 false 75 rfl (by kernel_rfl) (by rw [hS]; first | simp | exact Nat.le_of_ble_eq_true rfl) v75 ⟨_, rfl, hB, Fr.refl _ _, rfl, fun _ _ _ _ _ => trivial⟩
              · simp only [List.getElem?_cons_zero, List.getElem?_cons_succ, Option.some.injEq] at ho
                subst ho
                intro a W vs hB hS hE hU
                obtain ⟨r20, e75⟩ := hE 20 75 (by kernel_rfl) (by kernel_rfl)
                have v75 : a.eval (.tmp 75) = .bool true := e75.trans r20
                exact wpG_no 20 false 75 rfl (by kernel_rfl) (by rw [hS]; first | simp | exact Nat.le_of_ble_eq_true rfl) v75 ⟨_, rfl, hB, Fr.refl _ _, rfl, fun _ _ _ _ _ => trivial⟩
              · simp only [List.getElem?_cons_zero, List.getElem?_cons_succ, Option.some.injEq] at ho
                subst ho
                intro a W vs hB hS hE hU
                obtain ⟨r13, e68⟩ := hE 13 68 (by kernel_rfl) (by kernel_rfl)
                have v68 : a.eval (.tmp 68) = .bool false := e68.trans r13
                refine wpG_yes 13 false 68 rfl (by kernel_rfl) (by rw [hS]; first | simp | exact Nat.le_of_ble_eq_true rfl) v68 ?_
                obtain ⟨r20, e75⟩ := hE 20 75 (by kernel_rfl) (by kernel_rfl)
                have v75 : a.eval (.tmp 75) = .bool true := e75.trans r20
                clear hE hU
                exact wp_value_inv (w' := W) (.bool true) (op_pick rfl v75 (by simp only [if_true]; rfl)) ⟨_, rfl, hB, Fr.refl _ _, rfl, fun _ _ _ _ _ => trivial⟩
              · simp only [List.getElem?_cons_zero, List.getElem?_cons_succ, Option.some.injEq] at ho
                subst ho
                intro a W vs hB hS hE hU
                obtain ⟨r13, e68⟩ := hE 13 68 (by kernel_rfl) (by kernel_rfl)
                have v68 : a.eval (.tmp 68) = .bool false := e68.trans r13
                refine wpG_yes 13 false 68 rfl (by kernel_rfl) (by rw [hS]; first | simp | exact Nat.le_of_ble_eq_true rfl) v68 ?_
                obtain ⟨r16, e71⟩ := hE 16 71 (by kernel_rfl) (by kernel_rfl)
                have v71 : a.eval (.tmp 71) = .bool false := e71.trans r16
                obtain ⟨r24, e79⟩ := hE 24 79 (by kernel_rfl) (by kernel_rfl)
                have v79 : a.eval (.tmp 79) = .bool true := e79.trans r24
                clear hE hU
                exact wp_value_inv (w' := W) (.bool false) (op_bin rfl v71 v79 (guard_bool W _ _ _ _ _ _) (eql_ft W)) ⟨_, rfl, hB, Fr.refl _ _, rfl, fun _ _ _ _ _ => trivial⟩
              · simp only [List.getElem?_cons_zero, List.getElem?_cons_succ, Option.some.injEq] at ho
                subst ho
                intro a W vs hB hS hE hU
                refine wpG_plain rfl ?_
                obtain ⟨r13, e68⟩ := hE 13 68 (by kernel_rfl) (by kernel_rfl)
                have v68 : a.eval (.tmp 68) = .bool false := e68.trans r13
                obtain ⟨r25, e80⟩ := hE 25 80 (by kernel_rfl) (by kernel_rfl)
                have v80 : a.eval (.tmp 80) = .bool false := e80.trans r25
                clear hE hU
                exact wp_value_inv (w' := W) (.bool false) (op_pick rfl v68 (by simp only [Bool.false_eq_true, if_false]; exact v80)) ⟨_, rfl, hB, Fr.refl _ _, rfl, fun _ _ _ _ _ => trivial⟩
              · simp only [List.getElem?_cons_zero, List.getElem?_cons_succ, Option.some.injEq] at ho
                subst ho
                intro a W vs hB hS hE hU
                refine wpG_plain rfl ?_
                obtain ⟨r26, e81⟩ := hE 26 81 (by kernel_rfl) (by kernel_rfl)
                have v81 : a.eval (.tmp 81) = .bool false := e81.trans r26
                clear hE hU
                exact wp_value_inv (w' := W) (.bool false) (op_move rfl v81) ⟨_, rfl, hB, Fr.refl _ _, rfl, fun _ _ _ _ _ => trivial⟩
              · simp only [List.getElem?_cons_zero, List.getElem?_cons_succ, Option.some.injEq] at ho
                subst ho
                intro a W vs hB hS hE hU
                obtain ⟨r27, e82⟩ := hE 27 82 (by kernel_rfl) (by kernel_rfl)
                have v82 : a.eval (.tmp 82) = .bool false := e82.trans r27
                refine wpG_yes 27 false 82 rfl (by kernel_rfl) (by rw [hS]; first | simp | exact Nat.le_of_ble_eq_true rfl) v82 ?_
                have v4 : a.eval (.tmp 4) = .pointer (some ⟨gp, 0, none⟩) := (hU 4 (by kernel_rfl)).trans rfl
                clear hE hU
                exact wp_value_inv (w' := W) (.agg Cp) (op_loadAt rfl v4 (LDp.out W hB)) ⟨_, rfl, hB, Fr.refl _ _, rfl, fun _ _ _ _ _ => trivial⟩
              · simp only [List.getElem?_cons_zero, List.getElem?_cons_succ, Option.some.injEq] at ho
                subst ho
                intro a W vs hB hS hE hU
                obtain ⟨r27, e82⟩ := hE 27 82 (by kernel_rfl) (by kernel_rfl)
                have v82 : a.eval (.tmp 82) = .bool false := e82.trans r27
                refine wpG_yes 27 false 82 rfl (by kernel_rfl) (by rw [hS]; first | simp | exact Nat.le_of_ble_eq_true rfl) v82 ?_
                have v5 : a.eval (.tmp 5) = .pointer (some ⟨gq, 0, none⟩) := (hU 5 (by kernel_rfl)).trans rfl
                clear hE hU
                exact wp_value_inv (w' := W) (.agg Cq) (op_loadAt rfl v5 (LDq.out W hB)) ⟨_, rfl, hB, Fr.refl _ _, rfl, fun _ _ _ _ _ => trivial⟩
              · simp only [List.getElem?_cons_zero, List.getElem?_cons_succ, Option.some.injEq] at ho
                subst ho
                intro a W vs hB hS hE hU
                obtain ⟨r27, e82⟩ := hE 27 82 (by kernel_rfl) (by kernel_rfl)
                have v82 : a.eval (.tmp 82) = .bool false := e82.trans r27
                refine wpG_yes 27 false 82 rfl (by kernel_rfl) (by rw [hS]; first | simp | exact Nat.le_of_ble_eq_true rfl) v82 ?_
                obtain ⟨r28, e83⟩ := hE 28 83 (by kernel_rfl) (by kernel_rfl)
                have v83 : a.eval (.tmp 83) = .agg Cp := e83.trans r28
                obtain ⟨r29, e84⟩ := hE 29 84 (by kernel_rfl) (by kernel_rfl)
                have v84 : a.eval (.tmp 84) = .agg Cq := e84.trans r29
                clear hE hU
                refine wp_call_inv 21 #[.tmp 83, .tmp 84] #[25, 25] rfl #[.agg Cp, .agg Cq] (by simp only [List.map_toArray, List.map_cons, List.map_nil, v83, v84]) (bLess_enter _) (Post := fun v W' => v = .bool true ∧ Fr (fun _ => False) W W') ((HLpq.out W).mono fun e w' h => ⟨_, h.1, rfl, h.2⟩) ?_
                rintro v W' ⟨rfl, hf⟩
                exact ⟨_, rfl, hB.trans hf (fun _ h => h.elim), hf, rfl, fun _ _ _ _ _ => trivial⟩
              · simp only [List.getElem?_cons_zero, List.getElem?_cons_succ, Option.some.injEq] at ho
                subst ho
                intro a W vs hB hS hE hU
                obtain ⟨r27, e82⟩ := hE 27 82 (by kernel_rfl) (by kernel_rfl)
                have v82 : a.eval (.tmp 82) = .bool false := e82.trans r27
                refine wpG_yes 27 false 82 rfl (by kernel_rfl) (by rw [hS]; first | simp | exact Nat.le_of_ble_eq_true rfl) v82 ?_
                obtain ⟨r30, e85⟩ := hE 30 85 (by kernel_rfl) (by kernel_rfl)
                have v85 : a.eval (.tmp 85) = .bool true := e85.trans r30
                clear hE hU
                exact wp_value_inv (w' := W) (.bool true) (op_move rfl v85) ⟨_, rfl, hB, Fr.refl _ _, rfl, fun _ _ _ _ _ => trivial⟩
              · simp only [List.getElem?_cons_zero, List.getElem?_cons_succ, Option.some.injEq] at ho
                subst ho
                intro a W vs hB hS hE hU
                obtain ⟨r31, e86⟩ := hE 31 86 (by kernel_rfl) (by kernel_rfl)
                have v86 : a.eval (.tmp 86) = .bool true := e86.trans r31
                refine wpG_yes 31 true 86 rfl (by kernel_rfl) (by rw [hS]; first | simp | exact Nat.le_of_ble_eq_true rfl) v86 ?_
                have v5 : a.eval (.tmp 5) = .pointer (some ⟨gq, 0, none⟩) := (hU 5 (by kernel_rfl)).trans rfl
                clear hE hU
                exact wp_value_inv (w' := W) (.agg Cq) (op_loadAt rfl v5 (LDq.out W hB)) ⟨_, rfl, hB, Fr.refl _ _, rfl, fun _ _ _ _ _ => trivial⟩
              · simp only [List.getElem?_cons_zero, List.getElem?_cons_succ, Option.some.injEq] at ho
                subst ho
                intro a W vs hB hS hE hU
                obtain ⟨r31, e86⟩ := hE 31 86 (by kernel_rfl) (by kernel_rfl)
                have v86 : a.eval (.tmp 86) = .bool true := e86.trans r31
                refine wpG_yes 31 true 86 rfl (by kernel_rfl) (by rw [hS]; first | simp | exact Nat.le_of_ble_eq_true rfl) v86 ?_
                have v6 : a.eval (.tmp 6) = .pointer (some ⟨gr, 0, none⟩) := (hU 6 (by kernel_rfl)).trans rfl
                clear hE hU
                exact wp_value_inv (w' := W) (.agg Cr) (op_loadAt rfl v6 (LDr.out W hB)) ⟨_, rfl, hB, Fr.refl _ _, rfl, fun _ _ _ _ _ => trivial⟩
              · simp only [List.getElem?_cons_zero, List.getElem?_cons_succ, Option.some.injEq] at ho
                subst ho
                intro a W vs hB hS hE hU
                obtain ⟨r31, e86⟩ := hE 31 86 (by kernel_rfl) (by kernel_rfl)
                have v86 : a.eval (.tmp 86) = .bool true := e86.trans r31
                refine wpG_yes 31 true 86 rfl (by kernel_rfl) (by rw [hS]; first | simp | exact Nat.le_of_ble_eq_true rfl) v86 ?_
                obtain ⟨r32, e87⟩ := hE 32 87 (by kernel_rfl) (by kernel_rfl)
                have v87 : a.eval (.tmp 87) = .agg Cq := e87.trans r32
                obtain ⟨r33, e88⟩ := hE 33 88 (by kernel_rfl) (by kernel_rfl)
                have v88 : a.eval (.tmp 88) = .agg Cr := e88.trans r33
                clear hE hU
                refine wp_call_inv 21 #[.tmp 87, .tmp 88] #[25, 25] rfl #[.agg Cq, .agg Cr] (by simp only [List.map_toArray, List.map_cons, List.map_nil, v87, v88]) (bLess_enter _) (Post := fun v W' => v = .bool true ∧ Fr (fun _ => False) W W') ((HLqr.out W).mono fun e w' h => ⟨_, h.1, rfl, h.2⟩) ?_
                rintro v W' ⟨rfl, hf⟩
                exact ⟨_, rfl, hB.trans hf (fun _ h => h.elim), hf, rfl, fun _ _ _ _ _ => trivial⟩
              · simp only [List.getElem?_cons_zero, List.getElem?_cons_succ, Option.some.injEq] at ho
                subst ho
                intro a W vs hB hS hE hU
                obtain ⟨r27, e82⟩ := hE 27 82 (by kernel_rfl) (by kernel_rfl)
                have v82 : a.eval (.tmp 82) = .bool false := e82.trans r27
                refine wpG_yes 27 false 82 rfl (by kernel_rfl) (by rw [hS]; first | simp | exact Nat.le_of_ble_eq_true rfl) v82 ?_
                obtain ⟨r31, e86⟩ := hE 31 86 (by kernel_rfl) (by kernel_rfl)
                have v86 : a.eval (.tmp 86) = .bool true := e86.trans r31
                obtain ⟨r34, e89⟩ := hE 34 89 (by kernel_rfl) (by kernel_rfl)
                have v89 : a.eval (.tmp 89) = .bool true := e89.trans r34
                clear hE hU
                exact wp_value_inv (w' := W) (.bool true) (op_pick rfl v86 (by simp only [if_true]; exact v89)) ⟨_, rfl, hB, Fr.refl _ _, rfl, fun _ _ _ _ _ => trivial⟩
              · simp only [List.getElem?_cons_zero, List.getElem?_cons_succ, Option.some.injEq] at ho
                subst ho
                intro a W vs hB hS hE hU
                obtain ⟨r27, e82⟩ := hE 27 82 (by kernel_rfl) (by kernel_rfl)
                have v82 : a.eval (.tmp 82) = .bool false := e82.trans r27
                refine wpG_yes 27 false 82 rfl (by kernel_rfl) (by rw [hS]; first | simp | exact Nat.le_of_ble_eq_true rfl) v82 ?_
                obtain ⟨r35, e90⟩ := hE 35 90 (by kernel_rfl) (by kernel_rfl)
                have v90 : a.eval (.tmp 90) = .bool true := e90.trans r35
                clear hE hU
                exact wp_value_inv (w' := W) (.bool true) (op_move rfl v90) ⟨_, rfl, hB, Fr.refl _ _, rfl, fun _ _ _ _ _ => trivial⟩
              · simp only [List.getElem?_cons_zero, List.getElem?_cons_succ, Option.some.injEq] at ho
                subst ho
                intro a W vs hB hS hE hU
                obtain ⟨r36, e91⟩ := hE 36 91 (by kernel_rfl) (by kernel_rfl)
                have v91 : a.eval (.tmp 91) = .bool true := e91.trans r36
                refine wpG_yes 36 true 91 rfl (by kernel_rfl) (by rw [hS]; first | simp | exact Nat.le_of_ble_eq_true rfl) v91 ?_
                have v4 : a.eval (.tmp 4) = .pointer (some ⟨gp, 0, none⟩) := (hU 4 (by kernel_rfl)).trans rfl
                clear hE hU
                exact wp_value_inv (w' := W) (.agg Cp) (op_loadAt rfl v4 (LDp.out W hB)) ⟨_, rfl, hB, Fr.refl _ _, rfl, fun _ _ _ _ _ => trivial⟩
              · simp only [List.getElem?_cons_zero, List.getElem?_cons_succ, Option.some.injEq] at ho
                subst ho
                intro a W vs hB hS hE hU
                obtain ⟨r36, e91⟩ := hE 36 91 (by kernel_rfl) (by kernel_rfl)
                have v91 : a.eval (.tmp 91) = .bool true := e91.trans r36
                refine wpG_yes 36 true 91 rfl (by kernel_rfl) (by rw [hS]; first | simp | exact Nat.le_of_ble_eq_true rfl) v91 ?_
                have v6 : a.eval (.tmp 6) = .pointer (some ⟨gr, 0, none⟩) := (hU 6 (by kernel_rfl)).trans rfl
                clear hE hU
                exact wp_value_inv (w' := W) (.agg Cr) (op_loadAt rfl v6 (LDr.out W hB)) ⟨_, rfl, hB, Fr.refl _ _, rfl, fun _ _ _ _ _ => trivial⟩
              · simp only [List.getElem?_cons_zero, List.getElem?_cons_succ, Option.some.injEq] at ho
                subst ho
                intro a W vs hB hS hE hU
                obtain ⟨r36, e91⟩ := hE 36 91 (by kernel_rfl) (by kernel_rfl)
                have v91 : a.eval (.tmp 91) = .bool true := e91.trans r36
                refine wpG_yes 36 true 91 rfl (by kernel_rfl) (by rw [hS]; first | simp | exact Nat.le_of_ble_eq_true rfl) v91 ?_
                obtain ⟨r37, e92⟩ := hE 37 92 (by kernel_rfl) (by kernel_rfl)
                have v92 : a.eval (.tmp 92) = .agg Cp := e92.trans r37
                obtain ⟨r38, e93⟩ := hE 38 93 (by kernel_rfl) (by kernel_rfl)
                have v93 : a.eval (.tmp 93) = .agg Cr := e93.trans r38
                clear hE hU
                refine wp_call_inv 21 #[.tmp 92, .tmp 93] #[25, 25] rfl #[.agg Cp, .agg Cr] (by simp only [List.map_toArray, List.map_cons, List.map_nil, v92, v93]) (bLess_enter _) (Post := fun v W' => v = .bool true ∧ Fr (fun _ => False) W W') ((HLpr.out W).mono fun e w' h => ⟨_, h.1, rfl, h.2⟩) ?_
                rintro v W' ⟨rfl, hf⟩
                exact ⟨_, rfl, hB.trans hf (fun _ h => h.elim), hf, rfl, fun _ _ _ _ _ => trivial⟩
              · simp only [List.getElem?_cons_zero, List.getElem?_cons_succ, Option.some.injEq] at ho
                subst ho
                intro a W vs hB hS hE hU
                obtain ⟨r36, e91⟩ := hE 36 91 (by kernel_rfl) (by kernel_rfl)
                have v91 : a.eval (.tmp 91) = .bool true := e91.trans r36
                refine wpG_yes 36 true 91 rfl (by kernel_rfl) (by rw [hS]; first | simp | exact Nat.le_of_ble_eq_true rfl) v91 ?_
                obtain ⟨r39, e94⟩ := hE 39 94 (by kernel_rfl) (by kernel_rfl)
                have v94 : a.eval (.tmp 94) = .bool true := e94.trans r39
                clear hE hU
                exact wp_value_inv (w' := W) (.bool false) (op_unop rfl v94 (by rfl)) ⟨_, rfl, hB, Fr.refl _ _, rfl, fun _ _ _ _ _ => trivial⟩
              · simp only [List.getElem?_cons_zero, List.getElem?_cons_succ, Option.some.injEq] at ho
                subst ho
                intro a W vs hB hS hE hU
                obtain ⟨r27, e82⟩ := hE 27 82 (by kernel_rfl) (by kernel_rfl)
                have v82 : a.eval (.tmp 82) = .bool false := e82.trans r27
                refine wpG_yes 27 false 82 rfl (by kernel_rfl) (by rw [hS]; first | simp | exact Nat.le_of_ble_eq_true rfl) v82 ?_
                obtain ⟨r36, e91⟩ := hE 36 91 (by kernel_rfl) (by kernel_rfl)
                have v91 : a.eval (.tmp 91) = .bool true := e91.trans r36
                obtain ⟨r40, e95⟩ := hE 40 95 (by kernel_rfl) (by kernel_rfl)
                have v95 : a.eval (.tmp 95) = .bool false := e95.trans r40
                clear hE hU
                exact wp_value_inv (w' := W) (.bool false) (op_pick rfl v91 (by simp only [if_true]; exact v95)) ⟨_, rfl, hB, Fr.refl _ _, rfl, fun _ _ _ _ _ => trivial⟩
              · simp only [List.getElem?_cons_zero, List.getElem?_cons_succ, Option.some.injEq] at ho
                subst ho
                intro a W vs hB hS hE hU
                refine wpG_plain rfl ?_
                obtain ⟨r27, e82⟩ := hE 27 82 (by kernel_rfl) (by kernel_rfl)
                have v82 : a.eval (.tmp 82) = .bool false := e82.trans r27
                obtain ⟨r41, e96⟩ := hE 41 96 (by kernel_rfl) (by kernel_rfl)
                have v96 : a.eval (.tmp 96) = .bool false := e96.trans r41
                clear hE hU
                exact wp_value_inv (w' := W) (.bool false) (op_pick rfl v82 (by simp only [Bool.false_eq_true, if_false]; exact v96)) ⟨_, rfl, hB, Fr.refl _ _, rfl, fun _ _ _ _ _ => trivial⟩
            · intro vs Wa hB0 hR0 hD
              have rL : vs 42 = .bool false := hR0 42 (by decide)
              have HB := Lib.hid hB0
              clear hR0 hD hB0
              simp only [acts, if_true, dstAt, List.getElem?_cons_zero, List.getElem?_cons_succ, Option.bind_some, Act.put, List.setIfInBounds_toArray, List.set_cons_succ, List.set_cons_zero, List.drop_succ_cons, List.drop_nil]
              simp only [rL]
              clear rL
              have HF2 := Lib.hid (HF.out.trans HB.out (fun _ h => h.elim))
              have HP2 := Lib.hid (show PathsIn (fun k => k < Wa.heap.size) Wa (.slice ao n cap) L from (HV.out.keep HF2.out (fun _ _ _ h => h)).mono (fun k h _ => h))
              go_wp2_with (go_at_call 19; refine (HSO.out _ _ HP2.out).mono ?_; rintro e w6 ⟨u6, M, rfl, hp6, ha6, hm6, hf6⟩; (have HP6 := Lib.hid hp6); obtain ⟨a6, c6, rfl, hl6, hcm6, _, hr6⟩ := hp6; (have HR6 := Lib.hid hr6); (have HA6 := Lib.hid ha6); (have HM6 := Lib.hid hm6); (have HF6 := Lib.hid (HF2.out.trans hf6 (fun _ h => h.elim))); clear hr6 ha6 hm6 hf6)
              have hml : M.length ≤ 1000000 := by
                have h := nodup_le (HA6.out.nodup lessX_strict) (fun x hx => (HM6.out x).1 hx)
                have := HL6.out
                omega
              unfold maxLen at hcm6
              have H06 := Lib.hid (Fr.refl (fun _ => False) w6)
              go_loopw [12] (fun iv wr => ∃ kx : Nat, 1 ≤ kx ∧ kx ≤ M.length + 1 ∧ iv = .int .i64 kx ∧ Hid (Fr (fun _ => False) w6 wr)) (fun iv _ => M.length + 1 - (intOf iv).toNat)
              case atStart => exact ⟨1, by omega, by omega, rfl, H06⟩
              case round =>
                clear H06
                obtain ⟨kx, hk1, hk2, rfl, HG⟩ := hrel
                by_cases hlt : kx < M.length
                · have hd : decide ((kx : Int) < (M.length : Int)) = true := by rw [decide_eq_true_iff]; omega
                  have hM : M ≠ [] := by rintro rfl; simp at hlt
                  obtain ⟨b6, o6, rfl, _, hg6⟩ := HR6.out hM
                  obtain ⟨y, hy⟩ : ∃ y, y = M[kx - 1]'(by omega) := ⟨_, rfl⟩
                  obtain ⟨x, hx⟩ : ∃ x, x = M[kx] := ⟨_, rfl⟩
                  have hry := HG.out.range (hg6 (kx - 1) (by omega)) (fun h => h)
                  have hrx := HG.out.range (hg6 kx hlt) (fun h => h)
                  have hyx : lessX y x = true := by rw [hy, hx]; exact List.pairwise_iff_getElem.1 HA6.out (kx - 1) kx (by omega) hlt (by omega)
                  rw [← hy] at hry
                  rw [← hx] at hrx
                  obtain ⟨CX, hCX⟩ : ∃ C, C = pathC x.h x.n := ⟨_, rfl⟩
                  obtain ⟨CY, hCY⟩ : ∃ C, C = pathC y.h y.n := ⟨_, rfl⟩
                  have LDX := Lib.hid (fun W (hW : Fr (fun _ => False) wr W) => show (Instr.loadAt 25 (.pointer (some ⟨b6, o6 + kx * 21, none⟩))).run Try.prog W = .ok (.agg CX) W by rw [hCX]; exact load_mid_path W b6 _ x (hW.range hrx (fun h => h)))
                  have LDY := Lib.hid (fun W (hW : Fr (fun _ => False) wr W) => show (Instr.loadAt 25 (.pointer (some ⟨b6, o6 + (kx - 1) * 21, none⟩))).run Try.prog W = .ok (.agg CY) W by rw [hCY]; exact load_mid_path W b6 _ y (hW.range hry (fun h => h)))
                  have HLS := Lib.hid (fun W => show Calls Try.prog 21 #[.agg CY, .agg CX] W fun e w' => e = .returned (.bool true) ∧ Fr (fun _ => False) W w' from by
                    have h := bLessX_any y x W
                    rw [hyx, ← hCX, ← hCY] at h
                    exact h)
                  have ES := Lib.hid (fun W => run_one_less W kx (by omega) (by omega))
                  have HK1 := Lib.hid (show kx - 1 < M.length by omega)
                  have HIN := Lib.hid hlt
                  clear hM hg6 hy hx hry hrx hyx hCX hCY
                  go_wp2_with fail
                  refine wp_region_inv 11 (by kernel_rfl) (by kernel_rfl) (fun W => Fr (fun _ => False) wr W) (O16 b6 o6 c6 M.length kx CX CY) (fun _ _ _ _ => True) (Fr (fun _ => False)) (O16.ext b6 o6 c6 M.length kx CX CY) (Fr.refl _ _).drew ?_ ?_
                  · intro i hi o ho
                    replace hi : i < 11 := hi
                    obtain rfl | rfl | rfl | rfl | rfl | rfl | rfl | rfl | rfl | rfl | rfl : i = 0 ∨ i = 1 ∨ i = 2 ∨ i = 3 ∨ i = 4 ∨ i = 5 ∨ i = 6 ∨ i = 7 ∨ i = 8 ∨ i = 9 ∨ i = 10 := by omega
                    · simp only [List.getElem?_cons_zero, Option.some.injEq] at ho
                      subst ho
                      intro a W vs hB hS hE hU
                      refine wpG_plain rfl ?_
                      have v11 : a.eval (.tmp 11) = .slice (some ⟨b6, o6, none⟩) M.length c6 := (hU 11 (by kernel_rfl)).trans rfl
                      clear hE hU
                      exact wp_value_inv (w' := W) (.slice (some ⟨b6, o6, none⟩) M.length c6) (op_move rfl v11) ⟨_, rfl, hB, Fr.refl _ _, rfl, fun _ _ _ _ _ => trivial⟩
                    · simp only [List.getElem?_cons_zero, List.getElem?_cons_succ, Option.some.injEq] at ho
                      subst ho
                      intro a W vs hB hS hE hU
                      refine wpG_plain rfl ?_
                      have v12 : a.eval (.tmp 12) = .int .i64 (kx : Int) := (hU 12 (by kernel_rfl)).trans rfl
                      clear hE hU
                      exact wp_value_inv (w' := W) (.int .i64 (kx : Int)) (op_move rfl v12) ⟨_, rfl, hB, Fr.refl _ _, rfl, fun _ _ _ _ _ => trivial⟩
                    · simp only [List.getElem?_cons_zero, List.getElem?_cons_succ, Option.some.injEq] at ho
                      subst ho
                      intro a W vs hB hS hE hU
                      refine wpG_plain rfl ?_
                      obtain ⟨r1, e107⟩ := hE 1 107 (by kernel_rfl) (by kernel_rfl)
                      have v107 : a.eval (.tmp 107) = .int .i64 (kx : Int) := e107.trans r1
                      clear hE hU
                      exact wp_value_inv (w' := W) (.int .i64 ((kx - 1 : Nat) : Int)) (op_bin rfl v107 (rfl : a.eval (.const (.int .i64 1)) = _) (guard_int W _ _ _ _ _ _ _) (ES.out W)) ⟨_, rfl, hB, Fr.refl _ _, rfl, fun _ _ _ _ _ => trivial⟩
                    · simp only [List.getElem?_cons_zero, List.getElem?_cons_succ, Option.some.injEq] at ho
                      subst ho
                      intro a W vs hB hS hE hU
                      refine wpG_plain rfl ?_
                      obtain ⟨r0, e106⟩ := hE 0 106 (by kernel_rfl) (by kernel_rfl)
                      have v106 : a.eval (.tmp 106) = .slice (some ⟨b6, o6, none⟩) M.length c6 := e106.trans r0
                      obtain ⟨r2, e108⟩ := hE 2 108 (by kernel_rfl) (by kernel_rfl)
                      have v108 : a.eval (.tmp 108) = .int .i64 ((kx - 1 : Nat) : Int) := e108.trans r2
                      clear hE hU
                      exact wp_value_inv (w' := W) (.pointer (some ⟨b6, o6 + (kx - 1) * 21, none⟩)) (op_indexAddr rfl v106 v108 (run_index_paths W b6 o6 M.length c6 (kx - 1) HK1.out)) ⟨_, rfl, hB, Fr.refl _ _, rfl, fun _ _ _ _ _ => trivial⟩
                    · simp only [List.getElem?_cons_zero, List.getElem?_cons_succ, Option.some.injEq] at ho
                      subst ho
                      intro a W vs hB hS hE hU
                      refine wpG_plain rfl ?_
                      obtain ⟨r3, e109⟩ := hE 3 109 (by kernel_rfl) (by kernel_rfl)
                      have v109 : a.eval (.tmp 109) = .pointer (some ⟨b6, o6 + (kx - 1) * 21, none⟩) := e109.trans r3
                      clear hE hU
                      exact wp_value_inv (w' := W) (.agg CY) (op_loadAt rfl v109 (LDY.out W hB)) ⟨_, rfl, hB, Fr.refl _ _, rfl, fun _ _ _ _ _ => trivial⟩
                    · simp only [List.getElem?_cons_zero, List.getElem?_cons_succ, Option.some.injEq] at ho
                      subst ho
                      intro a W vs hB hS hE hU
                      refine wpG_plain rfl ?_
                      have v11 : a.eval (.tmp 11) = .slice (some ⟨b6, o6, none⟩) M.length c6 := (hU 11 (by kernel_rfl)).trans rfl
                      clear hE hU
                      exact wp_value_inv (w' := W) (.slice (some ⟨b6, o6, none⟩) M.length c6) (op_move rfl v11) ⟨_, rfl, hB, Fr.refl _ _, rfl, fun _ _ _ _ _ => trivial⟩
                    · simp only [List.getElem?_cons_zero, List.getElem?_cons_succ, Option.some.injEq] at ho
                      subst ho
                      intro a W vs hB hS hE hU
                      refine wpG_plain rfl ?_
                      have v12 : a.eval (.tmp 12) = .int .i64 (kx : Int) := (hU 12 (by kernel_rfl)).trans rfl
                      clear hE hU
                      exact wp_value_inv (w' := W) (.int .i64 (kx : Int)) (op_move rfl v12) ⟨_, rfl, hB, Fr.refl _ _, rfl, fun _ _ _ _ _ => trivial⟩
                    · simp only [List.getElem?_cons_zero, List.getElem?_cons_succ, Option.some.injEq] at ho
                      subst ho
                      intro a W vs hB hS hE hU
                      refine wpG_plain rfl ?_
                      obtain ⟨r5, e111⟩ := hE 5 111 (by kernel_rfl) (by kernel_rfl)
                      have v111 : a.eval (.tmp 111) = .slice (some ⟨b6, o6, none⟩) M.length c6 := e111.trans r5
                      obtain ⟨r6, e112⟩ := hE 6 112 (by kernel_rfl) (by kernel_rfl)
                      have v112 : a.eval (.tmp 112) = .int .i64 (kx : Int) := e112.trans r6
                      clear hE hU
                      exact wp_value_inv (w' := W) (.pointer (some ⟨b6, o6 + kx * 21, none⟩)) (op_indexAddr rfl v111 v112 (run_index_paths W b6 o6 M.length c6 kx HIN.out)) ⟨_, rfl, hB, Fr.refl _ _, rfl, fun _ _ _ _ _ => trivial⟩
                    · simp only [List.getElem?_cons_zero, List.getElem?_cons_succ, Option.some.injEq] at ho
                      subst ho
                      intro a W vs hB hS hE hU
                      refine wpG_plain rfl ?_
                      obtain ⟨r7, e113⟩ := hE 7 113 (by kernel_rfl) (by kernel_rfl)
                      have v113 : a.eval (.tmp 113) = .pointer (some ⟨b6, o6 + kx * 21, none⟩) := e113.trans r7
                      clear hE hU
                      exact wp_value_inv (w' := W) (.agg CX) (op_loadAt rfl v113 (LDX.out W hB)) ⟨_, rfl, hB, Fr.refl _ _, rfl, fun _ _ _ _ _ => trivial⟩
                    · simp only [List.getElem?_cons_zero, List.getElem?_cons_succ, Option.some.injEq] at ho
                      subst ho
                      intro a W vs hB hS hE hU
                      refine wpG_plain rfl ?_
                      obtain ⟨r4, e110⟩ := hE 4 110 (by kernel_rfl) (by kernel_rfl)
                      have v110 : a.eval (.tmp 110) = .agg CY := e110.trans r4
                      obtain ⟨r8, e114⟩ := hE 8 114 (by kernel_rfl) (by kernel_rfl)
                      have v114 : a.eval (.tmp 114) = .agg CX := e114.trans r8
                      clear hE hU
                      refine wp_call_inv 21 #[.tmp 110, .tmp 114] #[25, 25] rfl #[.agg CY, .agg CX] (by simp only [List.map_toArray, List.map_cons, List.map_nil, v110, v114]) (bLess_enter _) (Post := fun v W' => v = .bool true ∧ Fr (fun _ => False) W W') ((HLS.out W).mono fun e w' h => ⟨_, h.1, rfl, h.2⟩) ?_
                      rintro v W' ⟨rfl, hf⟩
                      exact ⟨_, rfl, hB.trans hf (fun _ h => h.elim), hf, rfl, fun _ _ _ _ _ => trivial⟩
                    · simp only [List.getElem?_cons_zero, List.getElem?_cons_succ, Option.some.injEq] at ho
                      subst ho
                      intro a W vs hB hS hE hU
                      refine wpG_plain rfl ?_
                      obtain ⟨r9, e115⟩ := hE 9 115 (by kernel_rfl) (by kernel_rfl)
                      have v115 : a.eval (.tmp 115) = .bool true := e115.trans r9
                      clear hE hU
                      exact wp_value_inv (w' := W) (.bool false) (op_unop rfl v115 (by rfl)) ⟨_, rfl, hB, Fr.refl _ _, rfl, fun _ _ _ _ _ => trivial⟩
                  · intro vs Wb hB0 hR0 hD
                    have rL : vs 10 = .bool false := hR0 10 (by decide)
                    have HB := Lib.hid hB0
                    clear hR0 hD hB0
                    simp only [acts, if_true, dstAt, List.getElem?_cons_zero, List.getElem?_cons_succ, Option.bind_some, Act.put, List.setIfInBounds_toArray, List.set_cons_succ, List.set_cons_zero, List.drop_succ_cons, List.drop_nil]
                    simp only [rL]
                    clear rL
                    have HG2 := Lib.hid (HG.out.trans HB.out (fun _ h => h.elim))
                    go_wp2
                    go_roundw
                    case rel => exact ⟨kx + 1, by omega, by omega, by go_num, HG2⟩
                    case measure => simp [intOf]; omega
                · have hd : decide ((kx : Int) < (M.length : Int)) = false := by rw [decide_eq_false_iff_not]; omega
                  have HF7 := Lib.hid (HF6.out.trans HG.out (fun _ h => h.elim))
                  have HPL := Lib.hid (HV.out.keep HF7.out (fun _ _ _ h => h))
                  have HPM := Lib.hid (HP6.out.keep HG.out (fun _ _ _ h => h))
                  have HW1 := Lib.hid (fun (W : World) (hf : Fr (fun _ => False) wr W) => within_any W _ _ L M (HPL.out.keep hf (fun _ _ _ h => h)) (HPM.out.keep hf (fun _ _ _ h => h)) (by have := HL6.out; omega) hml (fun x hx => (HM6.out x).2 hx))
                  have HW2 := Lib.hid (fun (W : World) (hf : Fr (fun _ => False) wr W) => within_any W _ _ M L (HPM.out.keep hf (fun _ _ _ h => h)) (HPL.out.keep hf (fun _ _ _ h => h)) hml (by have := HL6.out; omega) (fun x hx => (HM6.out x).1 hx))
                  go_wp2_with (first
                    | (go_at_call 23; (with_reducible refine (HW1.out _ (Fr.refl _ _)).mono ?_); rintro e w8 ⟨rfl, hf8⟩; (have HF8 := Lib.hid hf8); clear hf8)
                    | (go_at_call 23; (with_reducible refine (HW2.out _ HF8.out).mono ?_); rintro e w9 ⟨rfl, hf9⟩; (have HF9 := Lib.hid ((HF7.out.trans HF8.out (fun _ h => h.elim)).trans hf9 (fun _ h => h.elim))); clear hf9))
                  go_ret
                  exact ⟨rfl, HF9.out⟩
          | false =>
            have HLpp := Lib.hid (fun W => show Calls Try.prog 21 #[.agg Cp, .agg Cp] W fun e w' => e = .returned (.bool false) ∧ Fr (fun _ => False) W w' from by
              have h := bLessX_any p p W
              rw [lessX_strict.irr] at h
              rw [HCp.out]
              exact h)
            have HLpq := Lib.hid (fun W => show Calls Try.prog 21 #[.agg Cp, .agg Cq] W fun e w' => e = .returned (.bool true) ∧ Fr (fun _ => False) W w' from by
              have h := bLessX_any p q W
              rw [ha] at h
              rw [HCp.out, HCq.out]
              exact h)
            have HLqp := Lib.hid (fun W => show Calls Try.prog 21 #[.agg Cq, .agg Cp] W fun e w' => e = .returned (.bool false) ∧ Fr (fun _ => False) W w' from by
              have h := bLessX_any q p W
              rw [hb] at h
              rw [HCq.out, HCp.out]
              exact h)
            have HLqr := Lib.hid (fun W => show Calls Try.prog 21 #[.agg Cq, .agg Cr] W fun e w' => e = .returned (.bool false) ∧ Fr (fun _ => False) W w' from by
              have h := bLessX_any q r W
              rw [hc] at h
              rw [HCq.out, HCr.out]
              exact h)
            have EQX := Lib.hid (fun W => show (binOp .eql 25 (.agg Cp) (.agg Cq)).run Try.prog W = .ok (.bool false) W by
              rw [HCp.out, HCq.out, run_eql_path W p.h p.n q.h q.n p.hl q.hl, show sameP p.h p.n q.h q.n = false from heq])
            go_wp2_with fail
            refine wp_region_inv 43 (by kernel_rfl) (by kernel_rfl) (fun W => Fr (fun _ => False) wr W) (O10b gp gq gr Cp Cq Cr) (fun _ _ _ _ => True) (Fr (fun _ => False)) (O10b.ext gp gq gr Cp Cq Cr) (Fr.refl _ _).drew ?_ ?_
            · intro i hi o ho
              replace hi : i < 43 := hi
              obtain rfl | rfl | rfl | rfl | rfl | rfl | rfl | rfl | rfl | rfl | rfl | rfl | rfl | rfl | rfl | rfl | rfl | rfl | rfl | rfl | rfl | rfl | rfl | rfl | rfl | rfl | rfl | rfl | rfl | rfl | rfl | rfl | rfl | rfl | rfl | rfl | rfl | rfl | rfl | rfl | rfl | rfl | rfl : i = 0 ∨ i = 1 ∨ i = 2 ∨ i = 3 ∨ i = 4 ∨ i = 5 ∨ i = 6 ∨ i = 7 ∨ i = 8 ∨ i = 9 ∨ i = 10 ∨ i = 11 ∨ i = 12 ∨ i = 13 ∨ i = 14 ∨ i = 15 ∨ i = 16 ∨ i = 17 ∨ i = 18 ∨ i = 19 ∨ i = 20 ∨ i = 21 ∨ i = 22 ∨ i = 23 ∨ i = 24 ∨ i = 25 ∨ i = 26 ∨ i = 27 ∨ i = 28 ∨ i = 29 ∨ i = 30 ∨ i = 31 ∨ i = 32 ∨ i = 33 ∨ i = 34 ∨ i = 35 ∨ i = 36 ∨ i = 37 ∨ i = 38 ∨ i = 39 ∨ i = 40 ∨ i = 41 ∨ i = 42 := by omega
              · simp only [List.getElem?_cons_zero, Option.some.injEq] at ho
                subst ho
                intro a W vs hB hS hE hU
                refine wpG_plain rfl ?_
                have v4 : a.eval (.tmp 4) = .pointer (some ⟨gp, 0, none⟩) := (hU 4 (by kernel_rfl)).trans rfl
                clear hE hU
                exact wp_value_inv (w' := W) (.agg Cp) (op_loadAt rfl v4 (LDp.out W hB)) ⟨_, rfl, hB, Fr.refl _ _, rfl, fun _ _ _ _ _ => trivial⟩
              · simp only [List.getElem?_cons_zero, List.getElem?_cons_succ, Option.some.injEq] at ho
                subst ho
                intro a W vs hB hS hE hU
                refine wpG_plain rfl ?_
                have v4 : a.eval (.tmp 4) = .pointer (some ⟨gp, 0, none⟩) := (hU 4 (by kernel_rfl)).trans rfl
                clear hE hU
                exact wp_value_inv (w' := W) (.agg Cp) (op_loadAt rfl v4 (LDp.out W hB)) ⟨_, rfl, hB, Fr.refl _ _, rfl, fun _ _ _ _ _ => trivial⟩
              · simp only [List.getElem?_cons_zero, List.getElem?_cons_succ, Option.some.injEq] at ho
                subst ho
                intro a W vs hB hS hE hU
                refine wpG_plain rfl ?_
                obtain ⟨r0, e55⟩ := hE 0 55 (by kernel_rfl) (by kernel_rfl)
                have v55 : a.eval (.tmp 55) = .agg Cp := e55.trans r0
                obtain ⟨r1, e56⟩ := hE 1 56 (by kernel_rfl) (by kernel_rfl)
                have v56 : a.eval (.tmp 56) = .agg Cp := e56.trans r1
                clear hE hU
                refine wp_call_inv 21 #[.tmp 55, .tmp 56] #[25, 25] rfl #[.agg Cp, .agg Cp] (by simp only [List.map_toArray, List.map_cons, List.map_nil, v55, v56]) (bLess_enter _) (Post := fun v W' => v = .bool false ∧ Fr (fun _ => False) W W') ((HLpp.out W).mono fun e w' h => ⟨_, h.1, rfl, h.2⟩) ?_
                rintro v W' ⟨rfl, hf⟩
                exact ⟨_, rfl, hB.trans hf (fun _ h => h.elim), hf, rfl, fun _ _ _ _ _ => trivial⟩
              · simp only [List.getElem?_cons_zero, List.getElem?_cons_succ, Option.some.injEq] at ho
                subst ho
                intro a W vs hB hS hE hU
                refine wpG_plain rfl ?_
                obtain ⟨r2, e57⟩ := hE 2 57 (by kernel_rfl) (by kernel_rfl)
                have v57 : a.eval (.tmp 57) = .bool false := e57.trans r2
                clear hE hU
                exact wp_value_inv (w' := W) (.bool false) (op_move rfl v57) ⟨_, rfl, hB, Fr.refl _ _, rfl, fun _ _ _ _ _ => trivial⟩
              · simp only [List.getElem?_cons_zero, List.getElem?_cons_succ, Option.some.injEq] at ho
                subst ho
                intro a W vs hB hS hE hU
                obtain ⟨r3, e58⟩ := hE 3 58 (by kernel_rfl) (by kernel_rfl)
                have v58 : a.eval (.tmp 58) = .bool false := e58.trans r3
                refine wpG_yes 3 false 58 rfl (by kernel_rfl) (by rw [hS]; first | simp | exact Nat.le_of_ble_eq_true rfl) v58 ?_
                have v4 : a.eval (.tmp 4) = .pointer (some ⟨gp, 0, none⟩) := (hU 4 (by kernel_rfl)).trans rfl
                clear hE hU
                exact wp_value_inv (w' := W) (.agg Cp) (op_loadAt rfl v4 (LDp.out W hB)) ⟨_, rfl, hB, Fr.refl _ _, rfl, fun _ _ _ _ _ => trivial⟩
              · simp only [List.getElem?_cons_zero, List.getElem?_cons_succ, Option.some.injEq] at ho
                subst ho
                intro a W vs hB hS hE hU
                obtain ⟨r3, e58⟩ := hE 3 58 (by kernel_rfl) (by kernel_rfl)
                have v58 : a.eval (.tmp 58) = .bool false := e58.trans r3
                refine wpG_yes 3 false 58 rfl (by kernel_rfl) (by rw [hS]; first | simp | exact Nat.le_of_ble_eq_true rfl) v58 ?_
                have v5 : a.eval (.tmp 5) = .pointer (some ⟨gq, 0, none⟩) := (hU 5 (by kernel_rfl)).trans rfl
                clear hE hU
                exact wp_value_inv (w' := W) (.agg Cq) (op_loadAt rfl v5 (LDq.out W hB)) ⟨_, rfl, hB, Fr.refl _ _, rfl, fun _ _ _ _ _ => trivial⟩
              · simp only [List.getElem?_cons_zero, List.getElem?_cons_succ, Option.some.injEq] at ho
                subst ho
                intro a W vs hB hS hE hU
                obtain ⟨r3, e58⟩ := hE 3 58 (by kernel_rfl) (by kernel_rfl)
                have v58 : a.eval (.tmp 58) = .bool false := e58.trans r3
                refine wpG_yes 3 false 58 rfl (by kernel_rfl) (by rw [hS]; first | simp | exact Nat.le_of_ble_eq_true rfl) v58 ?_
                obtain ⟨r4, e59⟩ := hE 4 59 (by kernel_rfl) (by kernel_rfl)
                have v59 : a.eval (.tmp 59) = .agg Cp := e59.trans r4
                obtain ⟨r5, e60⟩ := hE 5 60 (by kernel_rfl) (by kernel_rfl)
                have v60 : a.eval (.tmp 60) = .agg Cq := e60.trans r5
                clear hE hU
                refine wp_call_inv 21 #[.tmp 59, .tmp 60] #[25, 25] rfl #[.agg Cp, .agg Cq] (by simp only [List.map_toArray, List.map_cons, List.map_nil, v59, v60]) (bLess_enter _) (Post := fun v W' => v = .bool true ∧ Fr (fun _ => False) W W') ((HLpq.out W).mono fun e w' h => ⟨_, h.1, rfl, h.2⟩) ?_
                rintro v W' ⟨rfl, hf⟩
                exact ⟨_, rfl, hB.trans hf (fun _ h => h.elim), hf, rfl, fun _ _ _ _ _ => trivial⟩
              · simp only [List.getElem?_cons_zero, List.getElem?_cons_succ, Option.some.injEq] at ho
                subst ho
                intro a W vs hB hS hE hU
                obtain ⟨r3, e58⟩ := hE 3 58 (by kernel_rfl) (by kernel_rfl)
                have v58 : a.eval (.tmp 58) = .bool false := e58.trans r3
                refine wpG_yes 3 false 58 rfl (by kernel_rfl) (by rw [hS]; first | simp | exact Nat.le_of_ble_eq_true rfl) v58 ?_
                obtain ⟨r6, e61⟩ := hE 6 61 (by kernel_rfl) (by kernel_rfl)
                have v61 : a.eval (.tmp 61) = .bool true := e61.trans r6
                clear hE hU
                exact wp_value_inv (w' := W) (.bool true) (op_move rfl v61) ⟨_, rfl, hB, Fr.refl _ _, rfl, fun _ _ _ _ _ => trivial⟩
              · simp only [List.getElem?_cons_zero, List.getElem?_cons_succ, Option.some.injEq] at ho
                subst ho
                intro a W vs hB hS hE hU
                obtain ⟨r7, e62⟩ := hE 7 62 (by kernel_rfl) (by kernel_rfl)
                have v62 : a.eval (.tmp 62) = .bool true := e62.trans r7
                refine wpG_yes 7 true 62 rfl (by kernel_rfl) (by rw [hS]; first | simp | exact Nat.le_of_ble_eq_true rfl) v62 ?_
                have v5 : a.eval (.tmp 5) = .pointer (some ⟨gq, 0, none⟩) := (hU 5 (by kernel_rfl)).trans rfl
                clear hE hU
                exact wp_value_inv (w' := W) (.agg Cq) (op_loadAt rfl v5 (LDq.out W hB)) ⟨_, rfl, hB, Fr.refl _ _, rfl, fun _ _ _ _ _ => trivial⟩
              · simp only [List.getElem?_cons_zero, List.getElem?_cons_succ, Option.some.injEq] at ho
                subst ho
                intro a W vs hB hS hE hU
                obtain ⟨r7, e62⟩ := hE 7 62 (by kernel_rfl) (by kernel_rfl)
                have v62 : a.eval (.tmp 62) = .bool true := e62.trans r7
                refine wpG_yes 7 true 62 rfl (by kernel_rfl) (by rw [hS]; first | simp | exact Nat.le_of_ble_eq_true rfl) v62 ?_
                have v4 : a.eval (.tmp 4) = .pointer (some ⟨gp, 0, none⟩) := (hU 4 (by kernel_rfl)).trans rfl
                clear hE hU
                exact wp_value_inv (w' := W) (.agg Cp) (op_loadAt rfl v4 (LDp.out W hB)) ⟨_, rfl, hB, Fr.refl _ _, rfl, fun _ _ _ _ _ => trivial⟩
              · simp only [List.getElem?_cons_zero, List.getElem?_cons_succ, Option.some.injEq] at ho
                subst ho
                intro a W vs hB hS hE hU
                obtain ⟨r7, e62⟩ := hE 7 62 (by kernel_rfl) (by kernel_rfl)
                have v62 : a.eval (.tmp 62) = .bool true := e62.trans r7
                refine wpG_yes 7 true 62 rfl (by kernel_rfl) (by rw [hS]; first | simp | exact Nat.le_of_ble_eq_true rfl) v62 ?_
                obtain ⟨r8, e63⟩ := hE 8 63 (by kernel_rfl) (by kernel_rfl)
                have v63 : a.eval (.tmp 63) = .agg Cq := e63.trans r8
                obtain ⟨r9, e64⟩ := hE 9 64 (by kernel_rfl) (by kernel_rfl)
                have v64 : a.eval (.tmp 64) = .agg Cp := e64.trans r9
                clear hE hU
                refine wp_call_inv 21 #[.tmp 63, .tmp 64] #[25, 25] rfl #[.agg Cq, .agg Cp] (by simp only [List.map_toArray, List.map_cons, List.map_nil, v63, v64]) (bLess_enter _) (Post := fun v W' => v = .bool false ∧ Fr (fun _ => False) W W') ((HLqp.out W).mono fun e w' h => ⟨_, h.1, rfl, h.2⟩) ?_
                rintro v W' ⟨rfl, hf⟩
                exact ⟨_, rfl, hB.trans hf (fun _ h => h.elim), hf, rfl, fun _ _ _ _ _ => trivial⟩
              · simp only [List.getElem?_cons_zero, List.getElem?_cons_succ, Option.some.injEq] at ho
                subst ho
                intro a W vs hB hS hE hU
                obtain ⟨r3, e58⟩ := hE 3 58 (by kernel_rfl) (by kernel_rfl)
                have v58 : a.eval (.tmp 58) = .bool false := e58.trans r3
                refine wpG_yes 3 false 58 rfl (by kernel_rfl) (by rw [hS]; first | simp | exact Nat.le_of_ble_eq_true rfl) v58 ?_
                obtain ⟨r7, e62⟩ := hE 7 62 (by kernel_rfl) (by kernel_rfl)
                have v62 : a.eval (.tmp 62) = .bool true := e62.trans r7
                obtain ⟨r10, e65⟩ := hE 10 65 (by kernel_rfl) (by kernel_rfl)
                have v65 : a.eval (.tmp 65) = .bool false := e65.trans r10
                clear hE hU
                exact wp_value_inv (w' := W) (.bool false) (op_pick rfl v62 (by simp only [if_true]; exact v65)) ⟨_, rfl, hB, Fr.refl _ _, rfl, fun _ _ _ _ _ => trivial⟩
              · simp only [List.getElem?_cons_zero, List.getElem?_cons_succ, Option.some.injEq] at ho
                subst ho
                intro a W vs hB hS hE hU
                refine wpG_plain rfl ?_
                obtain ⟨r3, e58⟩ := hE 3 58 (by kernel_rfl) (by kernel_rfl)
                have v58 : a.eval (.tmp 58) = .bool false := e58.trans r3
                obtain ⟨r11, e66⟩ := hE 11 66 (by kernel_rfl) (by kernel_rfl)
                have v66 : a.eval (.tmp 66) = .bool false := e66.trans r11
                clear hE hU
                exact wp_value_inv (w' := W) (.bool false) (op_pick rfl v58 (by simp only [Bool.false_eq_true, if_false]; exact v66)) ⟨_, rfl, hB, Fr.refl _ _, rfl, fun _ _ _ _ _ => trivial⟩
              · simp only [List.getElem?_cons_zero, List.getElem?_cons_succ, Option.some.injEq] at ho
                subst ho
                intro a W vs hB hS hE hU
                refine wpG_plain rfl ?_
                obtain ⟨r12, e67⟩ := hE 12 67 (by kernel_rfl) (by kernel_rfl)
                have v67 : a.eval (.tmp 67) = .bool false := e67.trans r12
                clear hE hU
                exact wp_value_inv (w' := W) (.bool false) (op_move rfl v67) ⟨_, rfl, hB, Fr.refl _ _, rfl, fun _ _ _ _ _ => trivial⟩
              · simp only [List.getElem?_cons_zero, List.getElem?_cons_succ, Option.some.injEq] at ho
                subst ho
                intro a W vs hB hS hE hU
                obtain ⟨r13, e68⟩ := hE 13 68 (by kernel_rfl) (by kernel_rfl)
                have v68 : a.eval (.tmp 68) = .bool false := e68.trans r13
                refine wpG_yes 13 false 68 rfl (by kernel_rfl) (by rw [hS]; first | simp | exact Nat.le_of_ble_eq_true rfl) v68 ?_
                have v4 : a.eval (.tmp 4) = .pointer (some ⟨gp, 0, none⟩) := (hU 4 (by kernel_rfl)).trans rfl
                clear hE hU
                exact wp_value_inv (w' := W) (.agg Cp) (op_loadAt rfl v4 (LDp.out W hB)) ⟨_, rfl, hB, Fr.refl _ _, rfl, fun _ _ _ _ _ => trivial⟩
              · simp only [List.getElem?_cons_zero, List.getElem?_cons_succ, Option.some.injEq] at ho
                subst ho
                intro a W vs hB hS hE hU
                obtain ⟨r13, e68⟩ := hE 13 68 (by kernel_rfl) (by kernel_rfl)
                have v68 : a.eval (.tmp 68) = .bool false := e68.trans r13
                refine wpG_yes 13 false 68 rfl (by kernel_rfl) (by rw [hS]; first | simp | exact Nat.le_of_ble_eq_true rfl) v68 ?_
                have v5 : a.eval (.tmp 5) = .pointer (some ⟨gq, 0, none⟩) := (hU 5 (by kernel_rfl)).trans rfl
                clear hE hU
                exact wp_value_inv (w' := W) (.agg Cq) (op_loadAt rfl v5 (LDq.out W hB)) ⟨_, rfl, hB, Fr.refl _ _, rfl, fun _ _ _ _ _ => trivial⟩
              · simp only [List.getElem?_cons_zero, List.getElem?_cons_succ, Option.some.injEq] at ho
                subst ho
                intro a W vs hB hS hE hU
                obtain ⟨r13, e68⟩ := hE 13 68 (by kernel_rfl) (by kernel_rfl)
                have v68 : a.eval (.tmp 68) = .bool false := e68.trans r13
                refine wpG_yes 13 false 68 rfl (by kernel_rfl) (by rw [hS]; first | simp | exact Nat.le_of_ble_eq_true rfl) v68 ?_
                obtain ⟨r14, e69⟩ := hE 14 69 (by kernel_rfl) (by kernel_rfl)
                have v69 : a.eval (.tmp 69) = .agg Cp := e69.trans r14
                obtain ⟨r15, e70⟩ := hE 15 70 (by kernel_rfl) (by kernel_rfl)
                have v70 : a.eval (.tmp 70) = .agg Cq := e70.trans r15
                clear hE hU
                exact wp_value_inv (w' := W) (.bool false) (op_bin rfl v69 v70 (guard_path W _ _ _ _ _) (EQX.out W)) ⟨_, rfl, hB, Fr.refl _ _, rfl, fun _ _ _ _ _ => trivial⟩
              · simp only [List.getElem?_cons_zero, List.getElem?_cons_succ, Option.some.injEq] at ho
                subst ho
                intro a W vs hB hS hE hU
                obtain ⟨r13, e68⟩ := hE 13 68 (by kernel_rfl) (by kernel_rfl)
                have v68 : a.eval (.tmp 68) = .bool false := e68.trans r13
                refine wpG_yes 13 false 68 rfl (by kernel_rfl) (by rw [hS]; first | simp | exact Nat.le_of_ble_eq_true rfl) v68 ?_
                have v4 : a.eval (.tmp 4) = .pointer (some ⟨gp, 0, none⟩) := (hU 4 (by kernel_rfl)).trans rfl
                clear hE hU
                exact wp_value_inv (w' := W) (.agg Cp) (op_loadAt rfl v4 (LDp.out W hB)) ⟨_, rfl, hB, Fr.refl _ _, rfl, fun _ _ _ _ _ => trivial⟩
              · simp only [List.getElem?_cons_zero, List.getElem?_cons_succ, Option.some.injEq] at ho
                subst ho
                intro a W vs hB hS hE hU
                obtain ⟨r13, e68⟩ := hE 13 68 (by kernel_rfl) (by kernel_rfl)
                have v68 : a.eval (.tmp 68) = .bool false := e68.trans r13
                refine wpG_yes 13 false 68 rfl (by kernel_rfl) (by rw [hS]; first | simp | exact Nat.le_of_ble_eq_true rfl) v68 ?_
                have v5 : a.eval (.tmp 5) = .pointer (some ⟨gq, 0, none⟩) := (hU 5 (by kernel_rfl)).trans rfl
                clear hE hU
                exact wp_value_inv (w' := W) (.agg Cq) (op_loadAt rfl v5 (LDq.out W hB)) ⟨_, rfl, hB, Fr.refl _ _, rfl, fun _ _ _ _ _ => trivial⟩
              · simp only [List.getElem?_cons_zero, List.getElem?_cons_succ, Option.some.injEq] at ho
                subst ho
                intro a W vs hB hS hE hU
                obtain ⟨r13, e68⟩ := hE 13 68 (by kernel_rfl) (by kernel_rfl)
                have v68 : a.eval (.tmp 68) = .bool false := e68.trans r13
                refine wpG_yes 13 false 68 rfl (by kernel_rfl) (by rw [hS]; first | simp | exact Nat.le_of_ble_eq_true rfl) v68 ?_
                obtain ⟨r17, e72⟩ := hE 17 72 (by kernel_rfl) (by kernel_rfl)
                have v72 : a.eval (.tmp 72) = .agg Cp := e72.trans r17
                obtain ⟨r18, e73⟩ := hE 18 73 (by kernel_rfl) (by kernel_rfl)
                have v73 : a.eval (.tmp 73) = .agg Cq := e73.trans r18
                clear hE hU
                refine wp_call_inv 21 #[.tmp 72, .tmp 73] #[25, 25] rfl #[.agg Cp, .agg Cq] (by simp only [List.map_toArray, List.map_cons, List.map_nil, v72, v73]) (bLess_enter _) (Post := fun v W' => v = .bool true ∧ Fr (fun _ => False) W W') ((HLpq.out W).mono fun e w' h => ⟨_, h.1, rfl, h.2⟩) ?_
                rintro v W' ⟨rfl, hf⟩
                exact ⟨_, rfl, hB.trans hf (fun _ h => h.elim), hf, rfl, fun _ _ _ _ _ => trivial⟩
              · simp only [List.getElem?_cons_zero, List.getElem?_cons_succ, Option.some.injEq] at ho
                subst ho
                intro a W vs hB hS hE hU
                obtain ⟨r13, e68⟩ := hE 13 68 (by kernel_rfl) (by kernel_rfl)
                have v68 : a.eval (.tmp 68) = .bool false := e68.trans r13
                refine wpG_yes 13 false 68 rfl (by kernel_rfl) (by rw [hS]; first | simp | exact Nat.le_of_ble_eq_true rfl) v68 ?_
                obtain ⟨r19, e74⟩ := hE 19 74 (by kernel_rfl) (by kernel_rfl)
                have v74 : a.eval (.tmp 74) = .bool true := e74.trans r19
                clear hE hU
                exact wp_value_inv (w' := W) (.bool true) (op_move rfl v74) ⟨_, rfl, hB, Fr.refl _ _, rfl, fun _ _ _ _ _ => trivial⟩
              · simp only [List.getElem?_cons_zero, List.getElem?_cons_succ, Option.some.injEq] at ho
                subst ho
                intro a W vs hB hS hE hU
                obtain ⟨r20, e75⟩ := hE 20 75 (by kernel_rfl) (by kernel_rfl)
                have v75 : a.eval (.tmp 75) = .bool true := e75.trans r20
                exact wpG_no 20 false 75 rfl (by kernel_rfl) (by rw [hS]; first | simp | exact Nat.le_of_ble_eq_true rfl) v75 ⟨_, rfl, hB, Fr.refl _ _, rfl, fun _ _ _ _ _ => trivial⟩
              · simp only [List.getElem?_cons_zero, List.getElem?_cons_succ, Option.some.injEq] at ho
                subst ho
                intro a W vs hB hS hE hU
                obtain ⟨r20, e75⟩ := hE 20 75 (by kernel_rfl) (by kernel_rfl)
                have v75 : a.eval (.tmp 75) = .bool true := e75.trans r20
                exact wpG_no 20 false 75 rfl (by kernel_rfl) (by rw [hS]; first | simp | exact Nat.le_of_ble_eq_true rfl) v75 ⟨_, rfl, hB, Fr.refl _ _, rfl, fun _ _ _ _ _ => trivial⟩
              · simp only [List.getElem?_cons_zero, List.getElem?_cons_succ, Option.some.injEq] at ho
                subst ho
                intro a W vs hB hS hE hU
                obtain ⟨r20, e75⟩ := hE 20 75 (by kernel_rfl) (by kernel_rfl)
                have v75 : a.eval (.tmp 75) = .bool true := e75.trans r20
                exact wpG_no 20 false 75 rfl (by kernel_rfl) (by rw [hS]; first | simp | exact Nat.le_of_ble_eq_true rfl) v75 ⟨_, rfl, hB, Fr.refl _ _, rfl, fun _ _ _ _ _ => trivial⟩
              · simp only [List.getElem?_cons_zero, List.getElem?_cons_succ, Option.some.injEq] at ho
                subst ho
                intro a W vs hB hS hE hU
                obtain ⟨r13, e68⟩ := hE 13 68 (by kernel_rfl) (by kernel_rfl)
                have v68 : a.eval (.tmp 68) = .bool false := e68.trans r13
                refine wpG_yes 13 false 68 rfl (by kernel_rfl) (by rw [hS]; first | simp | exact Nat.le_of_ble_eq_true rfl) v68 ?_
                obtain ⟨r20, e75⟩ := hE 20 75 (by kernel_rfl) (by kernel_rfl)
                have v75 : a.eval (.tmp 75) = .bool true := e75.trans r20
                clear hE hU
                exact wp_value_inv (w' := W) (.bool true) (op_pick rfl v75 (by simp only [if_true]; rfl)) ⟨_, rfl, hB, Fr.refl _ _, rfl, fun _ _ _ _ _ => trivial⟩
              · simp only [List.getElem?_cons_zero, List.getElem?_cons_succ, Option.some.injEq] at ho
                subst ho
                intro a W vs hB hS hE hU
                obtain ⟨r13, e68⟩ := hE 13 68 (by kernel_rfl) (by kernel_rfl)
                have v68 : a.eval (.tmp 68) = .bool false := e68.trans r13
                refine wpG_yes 13 false 68 rfl (by kernel_rfl) (by rw [hS]; first | simp | exact Nat.le_of_ble_eq_true rfl) v68 ?_
                obtain ⟨r16, e71⟩ := hE 16 71 (by kernel_rfl) (by kernel_rfl)
                have v71 : a.eval (.tmp 71) = .bool false := e71.trans r16
                obtain ⟨r24, e79⟩ := hE 24 79 (by kernel_rfl) (by kernel_rfl)
                have v79 : a.eval (.tmp 79) = .bool true := e79.trans r24
                clear hE hU
                exact wp_value_inv (w' := W) (.bool false) (op_bin rfl v71 v79 (guard_bool W _ _ _ _ _ _) (eql_ft W)) ⟨_, rfl, hB, Fr.refl _ _, rfl, fun _ _ _ _ _ => trivial⟩
              · simp only [List.getElem?_cons_zero, List.getElem?_cons_succ, Option.some.injEq] at ho
                subst ho
                intro a W vs hB hS hE hU
                refine wpG_plain rfl ?_
                obtain ⟨r13, e68⟩ := hE 13 68 (by kernel_rfl) (by kernel_rfl)
                have v68 : a.eval (.tmp 68) = .bool false := e68.trans r13
                obtain ⟨r25, e80⟩ := hE 25 80 (by kernel_rfl) (by kernel_rfl)
                have v80 : a.eval (.tmp 80) = .bool false := e80.trans r25
                clear hE hU
                exact wp_value_inv (w' := W) (.bool false) (op_pick rfl v68 (by simp only [Bool.false_eq_true, if_false]; exact v80)) ⟨_, rfl, hB, Fr.refl _ _, rfl, fun _ _ _ _ _ => trivial⟩
              · simp only [List.getElem?_cons_zero, List.getElem?_cons_succ, Option.some.injEq] at ho
                subst ho
                intro a W vs hB hS hE hU
                refine wpG_plain rfl ?_
                obtain ⟨r26, e81⟩ := hE 26 81 (by kernel_rfl) (by kernel_rfl)
                have v81 : a.eval (.tmp 81) = .bool false := e81.trans r26
                clear hE hU
                exact wp_value_inv (w' := W) (.bool false) (op_move rfl v81) ⟨_, rfl, hB, Fr.refl _ _, rfl, fun _ _ _ _ _ => trivial⟩
              · simp only [List.getElem?_cons_zero, List.getElem?_cons_succ, Option.some.injEq] at ho
                subst ho
                intro a W vs hB hS hE hU
                obtain ⟨r27, e82⟩ := hE 27 82 (by kernel_rfl) (by kernel_rfl)
                have v82 : a.eval (.tmp 82) = .bool false := e82.trans r27
                refine wpG_yes 27 false 82 rfl (by kernel_rfl) (by rw [hS]; first | simp | exact Nat.le_of_ble_eq_true rfl) v82 ?_
                have v4 : a.eval (.tmp 4) = .pointer (some ⟨gp, 0, none⟩) := (hU 4 (by kernel_rfl)).trans rfl
                clear hE hU
                exact wp_value_inv (w' := W) (.agg Cp) (op_loadAt rfl v4 (LDp.out W hB)) ⟨_, rfl, hB, Fr.refl _ _, rfl, fun _ _ _ _ _ => trivial⟩
              · simp only [List.getElem?_cons_zero, List.getElem?_cons_succ, Option.some.injEq] at ho
                subst ho
                intro a W vs hB hS hE hU
                obtain ⟨r27, e82⟩ := hE 27 82 (by kernel_rfl) (by kernel_rfl)
                have v82 : a.eval (.tmp 82) = .bool false := e82.trans r27
                refine wpG_yes 27 false 82 rfl (by kernel_rfl) (by rw [hS]; first | simp | exact Nat.le_of_ble_eq_true rfl) v82 ?_
                have v5 : a.eval (.tmp 5) = .pointer (some ⟨gq, 0, none⟩) := (hU 5 (by kernel_rfl)).trans rfl
                clear hE hU
                exact wp_value_inv (w' := W) (.agg Cq) (op_loadAt rfl v5 (LDq.out W hB)) ⟨_, rfl, hB, Fr.refl _ _, rfl, fun _ _ _ _ _ => trivial⟩
              · simp only [List.getElem?_cons_zero, List.getElem?_cons_succ, Option.some.injEq] at ho
                subst ho
                intro a W vs hB hS hE hU
                obtain ⟨r27, e82⟩ := hE 27 82 (by kernel_rfl) (by kernel_rfl)
                have v82 : a.eval (.tmp 82) = .bool false := e82.trans r27
                refine wpG_yes 27 false 82 rfl (by kernel_rfl) (by rw [hS]; first | simp | exact Nat.le_of_ble_eq_true rfl) v82 ?_
                obtain ⟨r28, e83⟩ := hE 28 83 (by kernel_rfl) (by kernel_rfl)
                have v83 : a.eval (.tmp 83) = .agg Cp := e83.trans r28
                obtain ⟨r29, e84⟩ := hE 29 84 (by kernel_rfl) (by kernel_rfl)
                have v84 : a.eval (.tmp 84) = .agg Cq := e84.trans r29
                clear hE hU
                refine wp_call_inv 21 #[.tmp 83, .tmp 84] #[25, 25] rfl #[.agg Cp, .agg Cq] (by simp only [List.map_toArray, List.map_cons, List.map_nil, v83, v84]) (bLess_enter _) (Post := fun v W' => v = .bool true ∧ Fr (fun _ => False) W W') ((HLpq.out W).mono fun e w' h => ⟨_, h.1, rfl, h.2⟩) ?_
                rintro v W' ⟨rfl, hf⟩
                exact ⟨_, rfl, hB.trans hf (fun _ h => h.elim), hf, rfl, fun _ _ _ _ _ => trivial⟩
              · simp only [List.getElem?_cons_zero, List.getElem?_cons_succ, Option.some.injEq] at ho
                subst ho
                intro a W vs hB hS hE hU
                obtain ⟨r27, e82⟩ := hE 27 82 (by kernel_rfl) (by kernel_rfl)
                have v82 : a.eval (.tmp 82) = .bool false := e82.trans r27
                refine wpG_yes 27 false 82 rfl (by kernel_rfl) (by rw [hS]; first | simp | exact Nat.le_of_ble_eq_true rfl) v82 ?_
                obtain ⟨r30, e85⟩ := hE 30 85 (by kernel_rfl) (by kernel_rfl)
                have v85 : a.eval (.tmp 85) = .bool true := e85.trans r30
                clear hE hU
                exact wp_value_inv (w' := W) (.bool true) (op_move rfl v85) ⟨_, rfl, hB, Fr.refl _ _, rfl, fun _ _ _ _ _ => trivial⟩
              · simp only [List.getElem?_cons_zero, List.getElem?_cons_succ, Option.some.injEq] at ho
                subst ho
                intro a W vs hB hS hE hU
                obtain ⟨r31, e86⟩ := hE 31 86 (by kernel_rfl) (by kernel_rfl)
                have v86 : a.eval (.tmp 86) = .bool true := e86.trans r31
                refine wpG_yes 31 true 86 rfl (by kernel_rfl) (by rw [hS]; first | simp | exact Nat.le_of_ble_eq_true rfl) v86 ?_
                have v5 : a.eval (.tmp 5) = .pointer (some ⟨gq, 0, none⟩) := (hU 5 (by kernel_rfl)).trans rfl
                clear hE hU
                exact wp_value_inv (w' := W) (.agg Cq) (op_loadAt rfl v5 (LDq.out W hB)) ⟨_, rfl, hB, Fr.refl _ _, rfl, fun _ _ _ _ _ => trivial⟩
              · simp only [List.getElem?_cons_zero, List.getElem?_cons_succ, Option.some.injEq] at ho
                subst ho
                intro a W vs hB hS hE hU
                obtain ⟨r31, e86⟩ := hE 31 86 (by kernel_rfl) (by kernel_rfl)
                have v86 : a.eval (.tmp 86) = .bool true := e86.trans r31
                refine wpG_yes 31 true 86 rfl (by kernel_rfl) (by rw [hS]; first | simp | exact Nat.le_of_ble_eq_true rfl) v86 ?_
                have v6 : a.eval (.tmp 6) = .pointer (some ⟨gr, 0, none⟩) := (hU 6 (by kernel_rfl)).trans rfl
                clear hE hU
                exact wp_value_inv (w' := W) (.agg Cr) (op_loadAt rfl v6 (LDr.out W hB)) ⟨_, rfl, hB, Fr.refl _ _, rfl, fun _ _ _ _ _ => trivial⟩
              · simp only [List.getElem?_cons_zero, List.getElem?_cons_succ, Option.some.injEq] at ho
                subst ho
                intro a W vs hB hS hE hU
                obtain ⟨r31, e86⟩ := hE 31 86 (by kernel_rfl) (by kernel_rfl)
                have v86 : a.eval (.tmp 86) = .bool true := e86.trans r31
                refine wpG_yes 31 true 86 rfl (by kernel_rfl) (by rw [hS]; first | simp | exact Nat.le_of_ble_eq_true rfl) v86 ?_
                obtain ⟨r32, e87⟩ := hE 32 87 (by kernel_rfl) (by kernel_rfl)
                have v87 : a.eval (.tmp 87) = .agg Cq := e87.trans r32
                obtain ⟨r33, e88⟩ := hE 33 88 (by kernel_rfl) (by kernel_rfl)
                have v88 : a.eval (.tmp 88) = .agg Cr := e88.trans r33
                clear hE hU
                refine wp_call_inv 21 #[.tmp 87, .tmp 88] #[25, 25] rfl #[.agg Cq, .agg Cr] (by simp only [List.map_toArray, List.map_cons, List.map_nil, v87, v88]) (bLess_enter _) (Post := fun v W' => v = .bool false ∧ Fr (fun _ => False) W W') ((HLqr.out W).mono fun e w' h => ⟨_, h.1, rfl, h.2⟩) ?_
                rintro v W' ⟨rfl, hf⟩
                exact ⟨_, rfl, hB.trans hf (fun _ h => h.elim), hf, rfl, fun _ _ _ _ _ => trivial⟩
              · simp only [List.getElem?_cons_zero, List.getElem?_cons_succ, Option.some.injEq] at ho
                subst ho
                intro a W vs hB hS hE hU
                obtain ⟨r27, e82⟩ := hE 27 82 (by kernel_rfl) (by kernel_rfl)
                have v82 : a.eval (.tmp 82) = .bool false := e82.trans r27
                refine wpG_yes 27 false 82 rfl (by kernel_rfl) (by rw [hS]; first | simp | exact Nat.le_of_ble_eq_true rfl) v82 ?_
                obtain ⟨r31, e86⟩ := hE 31 86 (by kernel_rfl) (by kernel_rfl)
                have v86 : a.eval (.tmp 86) = .bool true := e86.trans r31
                obtain ⟨r34, e89⟩ := hE 34 89 (by kernel_rfl) (by kernel_rfl)
                have v89 : a.eval (.tmp 89) = .bool false := e89.trans r34
                clear hE hU
                exact wp_value_inv (w' := W) (.bool false) (op_pick rfl v86 (by simp only [if_true]; exact v89)) ⟨_, rfl, hB, Fr.refl _ _, rfl, fun _ _ _ _ _ => trivial⟩
              · simp only [List.getElem?_cons_zero, List.getElem?_cons_succ, Option.some.injEq] at ho
                subst ho
                intro a W vs hB hS hE hU
                obtain ⟨r27, e82⟩ := hE 27 82 (by kernel_rfl) (by kernel_rfl)
                have v82 : a.eval (.tmp 82) = .bool false := e82.trans r27
                refine wpG_yes 27 false 82 rfl (by kernel_rfl) (by rw [hS]; first | simp | exact Nat.le_of_ble_eq_true rfl) v82 ?_
                obtain ⟨r35, e90⟩ := hE 35 90 (by kernel_rfl) (by kernel_rfl)
                have v90 : a.eval (.tmp 90) = .bool false := e90.trans r35
                clear hE hU
                exact wp_value_inv (w' := W) (.bool false) (op_move rfl v90) ⟨_, rfl, hB, Fr.refl _ _, rfl, fun _ _ _ _ _ => trivial⟩
              · simp only [List.getElem?_cons_zero, List.getElem?_cons_succ, Option.some.injEq] at ho
                subst ho
                intro a W vs hB hS hE hU
                obtain ⟨r36, e91⟩ := hE 36 91 (by kernel_rfl) (by kernel_rfl)
                have v91 : a.eval (.tmp 91) = .bool false := e91.trans r36
                exact wpG_no 36 true 91 rfl (by kernel_rfl) (by rw [hS]; first | simp | exact Nat.le_of_ble_eq_true rfl) v91 ⟨_, rfl, hB, Fr.refl _ _, rfl, fun _ _ _ _ _ => trivial⟩
              · simp only [List.getElem?_cons_zero, List.getElem?_cons_succ, Option.some.injEq] at ho
                subst ho
                intro a W vs hB hS hE hU
                obtain ⟨r36, e91⟩ := hE 36 91 (by kernel_rfl) (by kernel_rfl)
                have v91 : a.eval (.tmp 91) = .bool false := e91.trans r36
                exact wpG_no 36 true 91 rfl (by kernel_rfl) (by rw [hS]; first | simp | exact Nat.le_of_ble_eq_true rfl) v91 ⟨_, rfl, hB, Fr.refl _ _, rfl, fun _ _ _ _ _ => trivial⟩
              · simp only [List.getElem?_cons_zero, List.getElem?_cons_succ, Option.some.injEq] at ho
                subst ho
                intro a W vs hB hS hE hU
                obtain ⟨r36, e91⟩ := hE 36 91 (by kernel_rfl) (by kernel_rfl)
                have v91 : a.eval (.tmp 91) = .bool false := e91.trans r36
                exact wpG_no 36 true 91 rfl (by kernel_rfl) (by rw [hS]; first | simp | exact Nat.le_of_ble_eq_true rfl) v91 ⟨_, rfl, hB, Fr.refl _ _, rfl, fun _ _ _ _ _ => trivial⟩
              · simp only [List.getElem?_cons_zero, List.getElem?_cons_succ, Option.some.injEq] at ho
                subst ho
                intro a W vs hB hS hE hU
                obtain ⟨r36, e91⟩ := hE 36 91 (by kernel_rfl) (by kernel_rfl)
                have v91 : a.eval (.tmp 91) = .bool false := e91.trans r36
                exact wpG_no 36 true 91 rfl (by kernel_rfl) (by rw [hS]; first | simp | exact Nat.le_of_ble_eq_true rfl) v91 ⟨_, rfl, hB, Fr.refl _ _, rfl, fun _ _ _ _ _ => trivial⟩
              · simp only [List.getElem?_cons_zero, List.getElem?_cons_succ, Option.some.injEq] at ho
                subst ho
                intro a W vs hB hS hE hU
                obtain ⟨r27, e82⟩ := hE 27 82 (by kernel_rfl) (by kernel_rfl)
                have v82 : a.eval (.tmp 82) = .bool false := e82.trans r27
                refine wpG_yes 27 false 82 rfl (by kernel_rfl) (by rw [hS]; first | simp | exact Nat.le_of_ble_eq_true rfl) v82 ?_
                obtain ⟨r36, e91⟩ := hE 36 91 (by kernel_rfl) (by kernel_rfl)
                have v91 : a.eval (.tmp 91) = .bool false := e91.trans r36
                clear hE hU
                exact wp_value_inv (w' := W) (.bool false) (op_pick rfl v91 (by simp only [Bool.false_eq_true, if_false]; rfl)) ⟨_, rfl, hB, Fr.refl _ _, rfl, fun _ _ _ _ _ => trivial⟩
              · simp only [List.getElem?_cons_zero, List.getElem?_cons_succ, Option.some.injEq] at ho
                subst ho
                intro a W vs hB hS hE hU
                refine wpG_plain rfl ?_
                obtain ⟨r27, e82⟩ := hE 27 82 (by kernel_rfl) (by kernel_rfl)
                have v82 : a.eval (.tmp 82) = .bool false := e82.trans r27
                obtain ⟨r41, e96⟩ := hE 41 96 (by kernel_rfl) (by kernel_rfl)
                have v96 : a.eval (.tmp 96) = .bool false := e96.trans r41
                clear hE hU
                exact wp_value_inv (w' := W) (.bool false) (op_pick rfl v82 (by simp only [Bool.false_eq_true, if_false]; exact v96)) ⟨_, rfl, hB, Fr.refl _ _, rfl, fun _ _ _ _ _ => trivial⟩
            · intro vs Wa hB0 hR0 hD
              have rL : vs 42 = .bool false := hR0 42 (by decide)
              have HB := Lib.hid hB0
              clear hR0 hD hB0
              simp only [acts, if_true, dstAt, List.getElem?_cons_zero, List.getElem?_cons_succ, Option.bind_some, Act.put, List.setIfInBounds_toArray, List.set_cons_succ, List.set_cons_zero, List.drop_succ_cons, List.drop_nil]
              simp only [rL]
              clear rL
              have HF2 := Lib.hid (HF.out.trans HB.out (fun _ h => h.elim))
              have HP2 := Lib.hid (show PathsIn (fun k => k < Wa.heap.size) Wa (.slice ao n cap) L from (HV.out.keep HF2.out (fun _ _ _ h => h)).mono (fun k h _ => h))
              go_wp2_with (go_at_call 19; refine (HSO.out _ _ HP2.out).mono ?_; rintro e w6 ⟨u6, M, rfl, hp6, ha6, hm6, hf6⟩; (have HP6 := Lib.hid hp6); obtain ⟨a6, c6, rfl, hl6, hcm6, _, hr6⟩ := hp6; (have HR6 := Lib.hid hr6); (have HA6 := Lib.hid ha6); (have HM6 := Lib.hid hm6); (have HF6 := Lib.hid (HF2.out.trans hf6 (fun _ h => h.elim))); clear hr6 ha6 hm6 hf6)
              have hml : M.length ≤ 1000000 := by
                have h := nodup_le (HA6.out.nodup lessX_strict) (fun x hx => (HM6.out x).1 hx)
                have := HL6.out
                omega
              unfold maxLen at hcm6
              have H06 := Lib.hid (Fr.refl (fun _ => False) w6)
              go_loopw [12] (fun iv wr => ∃ kx : Nat, 1 ≤ kx ∧ kx ≤ M.length + 1 ∧ iv = .int .i64 kx ∧ Hid (Fr (fun _ => False) w6 wr)) (fun iv _ => M.length + 1 - (intOf iv).toNat)
              case atStart => exact ⟨1, by omega, by omega, rfl, H06⟩
              case round =>
                clear H06
                obtain ⟨kx, hk1, hk2, rfl, HG⟩ := hrel
                by_cases hlt : kx < M.length
                · have hd : decide ((kx : Int) < (M.length : Int)) = true := by rw [decide_eq_true_iff]; omega
                  have hM : M ≠ [] := by rintro rfl; simp at hlt
                  obtain ⟨b6, o6, rfl, _, hg6⟩ := HR6.out hM
                  obtain ⟨y, hy⟩ : ∃ y, y = M[kx - 1]'(by omega) := ⟨_, rfl⟩
                  obtain ⟨x, hx⟩ : ∃ x, x = M[kx] := ⟨_, rfl⟩
                  have hry := HG.out.range (hg6 (kx - 1) (by omega)) (fun h => h)
                  have hrx := HG.out.range (hg6 kx hlt) (fun h => h)
                  have hyx : lessX y x = true := by rw [hy, hx]; exact List.pairwise_iff_getElem.1 HA6.out (kx - 1) kx (by omega) hlt (by omega)
                  rw [← hy] at hry
                  rw [← hx] at hrx
                  obtain ⟨CX, hCX⟩ : ∃ C, C = pathC x.h x.n := ⟨_, rfl⟩
                  obtain ⟨CY, hCY⟩ : ∃ C, C = pathC y.h y.n := ⟨_, rfl⟩
                  have LDX := Lib.hid (fun W (hW : Fr (fun _ => False) wr W) => show (Instr.loadAt 25 (.pointer (some ⟨b6, o6 + kx * 21, none⟩))).run Try.prog W = .ok (.agg CX) W by rw [hCX]; exact load_mid_path W b6 _ x (hW.range hrx (fun h => h)))
                  have LDY := Lib.hid (fun W (hW : Fr (fun _ => False) wr W) => show (Instr.loadAt 25 (.pointer (some ⟨b6, o6 + (kx - 1) * 21, none⟩))).run Try.prog W = .ok (.agg CY) W by rw [hCY]; exact load_mid_path W b6 _ y (hW.range hry (fun h => h)))
                  have HLS := Lib.hid (fun W => show Calls Try.prog 21 #[.agg CY, .agg CX] W fun e w' => e = .returned (.bool true) ∧ Fr (fun _ => False) W w' from by
                    have h := bLessX_any y x W
                    rw [hyx, ← hCX, ← hCY] at h
                    exact h)
                  have ES := Lib.hid (fun W => run_one_less W kx (by omega) (by omega))
                  have HK1 := Lib.hid (show kx - 1 < M.length by omega)
                  have HIN := Lib.hid hlt
                  clear hM hg6 hy hx hry hrx hyx hCX hCY
                  go_wp2_with fail
                  refine wp_region_inv 11 (by kernel_rfl) (by kernel_rfl) (fun W => Fr (fun _ => False) wr W) (O16 b6 o6 c6 M.length kx CX CY) (fun _ _ _ _ => True) (Fr (fun _ => False)) (O16.ext b6 o6 c6 M.length kx CX CY) (Fr.refl _ _).drew ?_ ?_
                  · intro i hi o ho
                    replace hi : i < 11 := hi
                    obtain rfl | rfl | rfl | rfl | rfl | rfl | rfl | rfl | rfl | rfl | rfl : i = 0 ∨ i = 1 ∨ i = 2 ∨ i = 3 ∨ i = 4 ∨ i = 5 ∨ i = 6 ∨ i = 7 ∨ i = 8 ∨ i = 9 ∨ i = 10 := by omega
                    · simp only [List.getElem?_cons_zero, Option.some.injEq] at ho
                      subst ho
                      intro a W vs hB hS hE hU
                      refine wpG_plain rfl ?_
                      have v11 : a.eval (.tmp 11) = .slice (some ⟨b6, o6, none⟩) M.length c6 := (hU 11 (by kernel_rfl)).trans rfl
                      clear hE hU
                      exact wp_value_inv (w' := W) (.slice (some ⟨b6, o6, none⟩) M.length c6) (op_move rfl v11) ⟨_, rfl, hB, Fr.refl _ _, rfl, fun _ _ _ _ _ => trivial⟩
                    · simp only [List.getElem?_cons_zero, List.getElem?_cons_succ, Option.some.injEq] at ho
                      subst ho
                      intro a W vs hB hS hE hU
                      refine wpG_plain rfl ?_
                      have v12 : a.eval (.tmp 12) = .int .i64 (kx : Int) := (hU 12 (by kernel_rfl)).trans rfl
                      clear hE hU
                      exact wp_value_inv (w' := W) (.int .i64 (kx : Int)) (op_move rfl v12) ⟨_, rfl, hB, Fr.refl _ _, rfl, fun _ _ _ _ _ => trivial⟩
                    · simp only [List.getElem?_cons_zero, List.getElem?_cons_succ, Option.some.injEq] at ho
                      subst ho
                      intro a W vs hB hS hE hU
                      refine wpG_plain rfl ?_
                      obtain ⟨r1, e107⟩ := hE 1 107 (by kernel_rfl) (by kernel_rfl)
                      have v107 : a.eval (.tmp 107) = .int .i64 (kx : Int) := e107.trans r1
                      clear hE hU
                      exact wp_value_inv (w' := W) (.int .i64 ((kx - 1 : Nat) : Int)) (op_bin rfl v107 (rfl : a.eval (.const (.int .i64 1)) = _) (guard_int W _ _ _ _ _ _ _) (ES.out W)) ⟨_, rfl, hB, Fr.refl _ _, rfl, fun _ _ _ _ _ => trivial⟩
                    · simp only [List.getElem?_cons_zero, List.getElem?_cons_succ, Option.some.injEq] at ho
                      subst ho
                      intro a W vs hB hS hE hU
                      refine wpG_plain rfl ?_
                      obtain ⟨r0, e106⟩ := hE 0 106 (by kernel_rfl) (by kernel_rfl)
                      have v106 : a.eval (.tmp 106) = .slice (some ⟨b6, o6, none⟩) M.length c6 := e106.trans r0
                      obtain ⟨r2, e108⟩ := hE 2 108 (by kernel_rfl) (by kernel_rfl)
                      have v108 : a.eval (.tmp 108) = .int .i64 ((kx - 1 : Nat) : Int) := e108.trans r2
                      clear hE hU
                      exact wp_value_inv (w' := W) (.pointer (some ⟨b6, o6 + (kx - 1) * 21, none⟩)) (op_indexAddr rfl v106 v108 (run_index_paths W b6 o6 M.length c6 (kx - 1) HK1.out)) ⟨_, rfl, hB, Fr.refl _ _, rfl, fun _ _ _ _ _ => trivial⟩
                    · simp only [List.getElem?_cons_zero, List.getElem?_cons_succ, Option.some.injEq] at ho
                      subst ho
                      intro a W vs hB hS hE hU
                      refine wpG_plain rfl ?_
                      obtain ⟨r3, e109⟩ := hE 3 109 (by kernel_rfl) (by kernel_rfl)
                      have v109 : a.eval (.tmp 109) = .pointer (some ⟨b6, o6 + (kx - 1) * 21, none⟩) := e109.trans r3
                      clear hE hU
                      exact wp_value_inv (w' := W) (.agg CY) (op_loadAt rfl v109 (LDY.out W hB)) ⟨_, rfl, hB, Fr.refl _ _, rfl, fun _ _ _ _ _ => trivial⟩
                    · simp only [List.getElem?_cons_zero, List.getElem?_cons_succ, Option.some.injEq] at ho
                      subst ho
                      intro a W vs hB hS hE hU
                      refine wpG_plain rfl ?_
                      have v11 : a.eval (.tmp 11) = .slice (some ⟨b6, o6, none⟩) M.length c6 := (hU 11 (by kernel_rfl)).trans rfl
                      clear hE hU
                      exact wp_value_inv (w' := W) (.slice (some ⟨b6, o6, none⟩) M.length c6) (op_move rfl v11) ⟨_, rfl, hB, Fr.refl _ _, rfl, fun _ _ _ _ _ => trivial⟩
                    · simp only [List.getElem?_cons_zero, List.getElem?_cons_succ, Option.some.injEq] at ho
                      subst ho
                      intro a W vs hB hS hE hU
                      refine wpG_plain rfl ?_
                      have v12 : a.eval (.tmp 12) = .int .i64 (kx : Int) := (hU 12 (by kernel_rfl)).trans rfl
                      clear hE hU
                      exact wp_value_inv (w' := W) (.int .i64 (kx : Int)) (op_move rfl v12) ⟨_, rfl, hB, Fr.refl _ _, rfl, fun _ _ _ _ _ => trivial⟩
                    · simp only [List.getElem?_cons_zero, List.getElem?_cons_succ, Option.some.injEq] at ho
                      subst ho
                      intro a W vs hB hS hE hU
                      refine wpG_plain rfl ?_
                      obtain ⟨r5, e111⟩ := hE 5 111 (by kernel_rfl) (by kernel_rfl)
                      have v111 : a.eval (.tmp 111) = .slice (some ⟨b6, o6, none⟩) M.length c6 := e111.trans r5
                      obtain ⟨r6, e112⟩ := hE 6 112 (by kernel_rfl) (by kernel_rfl)
                      have v112 : a.eval (.tmp 112) = .int .i64 (kx : Int) := e112.trans r6
                      clear hE hU
                      exact wp_value_inv (w' := W) (.pointer (some ⟨b6, o6 + kx * 21, none⟩)) (op_indexAddr rfl v111 v112 (run_index_paths W b6 o6 M.length c6 kx HIN.out)) ⟨_, rfl, hB, Fr.refl _ _, rfl, fun _ _ _ _ _ => trivial⟩
                    · simp only [List.getElem?_cons_zero, List.getElem?_cons_succ, Option.some.injEq] at ho
                      subst ho
                      intro a W vs hB hS hE hU
                      refine wpG_plain rfl ?_
                      obtain ⟨r7, e113⟩ := hE 7 113 (by kernel_rfl) (by kernel_rfl)
                      have v113 : a.eval (.tmp 113) = .pointer (some ⟨b6, o6 + kx * 21, none⟩) := e113.trans r7
                      clear hE hU
                      exact wp_value_inv (w' := W) (.agg CX) (op_loadAt rfl v113 (LDX.out W hB)) ⟨_, rfl, hB, Fr.refl _ _, rfl, fun _ _ _ _ _ => trivial⟩
                    · simp only [List.getElem?_cons_zero, List.getElem?_cons_succ, Option.some.injEq] at ho
                      subst ho
                      intro a W vs hB hS hE hU
                      refine wpG_plain rfl ?_
                      obtain ⟨r4, e110⟩ := hE 4 110 (by kernel_rfl) (by kernel_rfl)
                      have v110 : a.eval (.tmp 110) = .agg CY := e110.trans r4
                      obtain ⟨r8, e114⟩ := hE 8 114 (by kernel_rfl) (by kernel_rfl)
                      have v114 : a.eval (.tmp 114) = .agg CX := e114.trans r8
                      clear hE hU
                      refine wp_call_inv 21 #[.tmp 110, .tmp 114] #[25, 25] rfl #[.agg CY, .agg CX] (by simp only [List.map_toArray, List.map_cons, List.map_nil, v110, v114]) (bLess_enter _) (Post := fun v W' => v = .bool true ∧ Fr (fun _ => False) W W') ((HLS.out W).mono fun e w' h => ⟨_, h.1, rfl, h.2⟩) ?_
                      rintro v W' ⟨rfl, hf⟩
                      exact ⟨_, rfl, hB.trans hf (fun _ h => h.elim), hf, rfl, fun _ _ _ _ _ => trivial⟩
                    · simp only [List.getElem?_cons_zero, List.getElem?_cons_succ, Option.some.injEq] at ho
                      subst ho
                      intro a W vs hB hS hE hU
                      refine wpG_plain rfl ?_
                      obtain ⟨r9, e115⟩ := hE 9 115 (by kernel_rfl) (by kernel_rfl)
                      have v115 : a.eval (.tmp 115) = .bool true := e115.trans r9
                      clear hE hU
                      exact wp_value_inv (w' := W) (.bool false) (op_unop rfl v115 (by rfl)) ⟨_, rfl, hB, Fr.refl _ _, rfl, fun _ _ _ _ _ => trivial⟩
                  · intro vs Wb hB0 hR0 hD
                    have rL : vs 10 = .bool false := hR0 10 (by decide)
                    have HB := Lib.hid hB0
                    clear hR0 hD hB0
                    simp only [acts, if_true, dstAt, List.getElem?_cons_zero, List.getElem?_cons_succ, Option.bind_some, Act.put, List.setIfInBounds_toArray, List.set_cons_succ, List.set_cons_zero, List.drop_succ_cons, List.drop_nil]
                    simp only [rL]
                    clear rL
                    have HG2 := Lib.hid (HG.out.trans HB.out (fun _ h => h.elim))
                    go_wp2
                    go_roundw
                    case rel => exact ⟨kx + 1, by omega, by omega, by go_num, HG2⟩
                    case measure => simp [intOf]; omega
                · have hd : decide ((kx : Int) < (M.length : Int)) = false := by rw [decide_eq_false_iff_not]; omega
                  have HF7 := Lib.hid (HF6.out.trans HG.out (fun _ h => h.elim))
                  have HPL := Lib.hid (HV.out.keep HF7.out (fun _ _ _ h => h))
                  have HPM := Lib.hid (HP6.out.keep HG.out (fun _ _ _ h => h))
                  have HW1 := Lib.hid (fun (W : World) (hf : Fr (fun _ => False) wr W) => within_any W _ _ L M (HPL.out.keep hf (fun _ _ _ h => h)) (HPM.out.keep hf (fun _ _ _ h => h)) (by have := HL6.out; omega) hml (fun x hx => (HM6.out x).2 hx))
                  have HW2 := Lib.hid (fun (W : World) (hf : Fr (fun _ => False) wr W) => within_any W _ _ M L (HPM.out.keep hf (fun _ _ _ h => h)) (HPL.out.keep hf (fun _ _ _ h => h)) hml (by have := HL6.out; omega) (fun x hx => (HM6.out x).1 hx))
                  go_wp2_with (first
                    | (go_at_call 23; (with_reducible refine (HW1.out _ (Fr.refl _ _)).mono ?_); rintro e w8 ⟨rfl, hf8⟩; (have HF8 := Lib.hid hf8); clear hf8)
                    | (go_at_call 23; (with_reducible refine (HW2.out _ HF8.out).mono ?_); rintro e w9 ⟨rfl, hf9⟩; (have HF9 := Lib.hid ((HF7.out.trans HF8.out (fun _ h => h.elim)).trans hf9 (fun _ h => h.elim))); clear hf9))
                  go_ret
                  exact ⟨rfl, HF9.out⟩
        | false =>
          cases hb : lessX q p with
          | true =>
            have heq : sameX p q = false := by
              rw [sameX_eq, decide_eq_false_iff_not]
              rintro rfl
              rw [lessX_strict.irr] at hb
              cases hb
            have HLpp := Lib.hid (fun W => show Calls Try.prog 21 #[.agg Cp, .agg Cp] W fun e w' => e = .returned (.bool false) ∧ Fr (fun _ => False) W w' from by
              have h := bLessX_any p p W
              rw [lessX_strict.irr] at h
              rw [HCp.out]
              exact h)
            have HLpq := Lib.hid (fun W => show Calls Try.prog 21 #[.agg Cp, .agg Cq] W fun e w' => e = .returned (.bool false) ∧ Fr (fun _ => False) W w' from by
              have h := bLessX_any p q W
              rw [ha] at h
              rw [HCp.out, HCq.out]
              exact h)
            have HLqp := Lib.hid (fun W => show Calls Try.prog 21 #[.agg Cq, .agg Cp] W fun e w' => e = .returned (.bool true) ∧ Fr (fun _ => False) W w' from by
              have h := bLessX_any q p W
              rw [hb] at h
              rw [HCq.out, HCp.out]
              exact h)
            have EQX := Lib.hid (fun W => show (binOp .eql 25 (.agg Cp) (.agg Cq)).run Try.prog W = .ok (.bool false) W by
              rw [HCp.out, HCq.out, run_eql_path W p.h p.n q.h q.n p.hl q.hl, show sameP p.h p.n q.h q.n = false from heq])
            go_wp2_with fail
            refine wp_region_inv 43 (by kernel_rfl) (by kernel_rfl) (fun W => Fr (fun _ => False) wr W) (O10c gp gq gr Cp Cq Cr) (fun _ _ _ _ => True) (Fr (fun _ => False)) (O10c.ext gp gq gr Cp Cq Cr) (Fr.refl _ _).drew ?_ ?_
            · intro i hi o ho
              replace hi : i < 43 := hi
              obtain rfl | rfl | rfl | rfl | rfl | rfl | rfl | rfl | rfl | rfl | rfl | rfl | rfl | rfl | rfl | rfl | rfl | rfl | rfl | rfl | rfl | rfl | rfl | rfl | rfl | rfl | rfl | rfl | rfl | rfl | rfl | rfl | rfl | rfl | rfl | rfl | rfl | rfl | rfl | rfl | rfl | rfl | rfl : i = 0 ∨ i = 1 ∨ i = 2 ∨ i = 3 ∨ i = 4 ∨ i = 5 ∨ i = 6 ∨ i = 7 ∨ i = 8 ∨ i = 9 ∨ i = 10 ∨ i = 11 ∨ i = 12 ∨ i = 13 ∨ i = 14 ∨ i = 15 ∨ i = 16 ∨ i = 17 ∨ i = 18 ∨ i = 19 ∨ i = 20 ∨ i = 21 ∨ i = 22 ∨ i = 23 ∨ i = 24 ∨ i = 25 ∨ i = 26 ∨ i = 27 ∨ i = 28 ∨ i = 29 ∨ i = 30 ∨ i = 31 ∨ i = 32 ∨ i = 33 ∨ i = 34 ∨ i = 35 ∨ i = 36 ∨ i = 37 ∨ i = 38 ∨ i = 39 ∨ i = 40 ∨ i = 41 ∨ i = 42 := by omega
              · simp only [List.getElem?_cons_zero, Option.some.injEq] at ho
                subst ho
                intro a W vs hB hS hE hU
                refine wpG_plain rfl ?_
                have v4 : a.eval (.tmp 4) = .pointer (some ⟨gp, 0, none⟩) := (hU 4 (by kernel_rfl)).trans rfl
                clear hE hU
                exact wp_value_inv (w' := W) (.agg Cp) (op_loadAt rfl v4 (LDp.out W hB)) ⟨_, rfl, hB, Fr.refl _ _, rfl, fun _ _ _ _ _ => trivial⟩
              · simp only [List.getElem?_cons_zero, List.getElem?_cons_succ, Option.some.injEq] at ho
                subst ho
                intro a W vs hB hS hE hU
                refine wpG_plain rfl ?_
                have v4 : a.eval (.tmp 4) = .pointer (some ⟨gp, 0, none⟩) := (hU 4 (by kernel_rfl)).trans rfl
                clear hE hU
                exact wp_value_inv (w' := W) (.agg Cp) (op_loadAt rfl v4 (LDp.out W hB)) ⟨_, rfl, hB, Fr.refl _ _, rfl, fun _ _ _ _ _ => trivial⟩
              · simp only [List.getElem?_cons_zero, List.getElem?_cons_succ, Option.some.injEq] at ho
                subst ho
                intro a W vs hB hS hE hU
                refine wpG_plain rfl ?_
                obtain ⟨r0, e55⟩ := hE 0 55 (by kernel_rfl) (by kernel_rfl)
                have v55 : a.eval (.tmp 55) = .agg Cp := e55.trans r0
                obtain ⟨r1, e56⟩ := hE 1 56 (by kernel_rfl) (by kernel_rfl)
                have v56 : a.eval (.tmp 56) = .agg Cp := e56.trans r1
                clear hE hU
                refine wp_call_inv 21 #[.tmp 55, .tmp 56] #[25, 25] rfl #[.agg Cp, .agg Cp] (by simp only [List.map_toArray, List.map_cons, List.map_nil, v55, v56]) (bLess_enter _) (Post := fun v W' => v = .bool false ∧ Fr (fun _ => False) W W') ((HLpp.out W).mono fun e w' h => ⟨_, h.1, rfl, h.2⟩) ?_
                rintro v W' ⟨rfl, hf⟩
                exact ⟨_, rfl, hB.trans hf (fun _ h => h.elim), hf, rfl, fun _ _ _ _ _ => trivial⟩
              · simp only [List.getElem?_cons_zero, List.getElem?_cons_succ, Option.some.injEq] at ho
                subst ho
                intro a W vs hB hS hE hU
                refine wpG_plain rfl ?_
                obtain ⟨r2, e57⟩ := hE 2 57 (by kernel_rfl) (by kernel_rfl)
                have v57 : a.eval (.tmp 57) = .bool false := e57.trans r2
                clear hE hU
                exact wp_value_inv (w' := W) (.bool false) (op_move rfl v57) ⟨_, rfl, hB, Fr.refl _ _, rfl, fun _ _ _ _ _ => trivial⟩
              · simp only [List.getElem?_cons_zero, List.getElem?_cons_succ, Option.some.injEq] at ho
                subst ho
                intro a W vs hB hS hE hU
                obtain ⟨r3, e58⟩ := hE 3 58 (by kernel_rfl) (by kernel_rfl)
                have v58 : a.eval (.tmp 58) = .bool false := e58.trans r3
                refine wpG_yes 3 false 58 rfl (by kernel_rfl) (by rw [hS]; first | simp | exact Nat.le_of_ble_eq_true rfl) v58 ?_
                have v4 : a.eval (.tmp 4) = .pointer (some ⟨gp, 0, none⟩) := (hU 4 (by kernel_rfl)).trans rfl
                clear hE hU
                exact wp_value_inv (w' := W) (.agg Cp) (op_loadAt rfl v4 (LDp.out W hB)) ⟨_, rfl, hB, Fr.refl _ _, rfl, fun _ _ _ _ _ => trivial⟩
              · simp only [List.getElem?_cons_zero, List.getElem?_cons_succ, Option.some.injEq] at ho
                subst ho
                intro a W vs hB hS hE hU
                obtain ⟨r3, e58⟩ := hE 3 58 (by kernel_rfl) (by kernel_rfl)
                have v58 : a.eval (.tmp 58) = .bool false := e58.trans r3
                refine wpG_yes 3 false 58 rfl (by kernel_rfl) (by rw [hS]; first | simp | exact Nat.le_of_ble_eq_true rfl) v58 ?_
                have v5 : a.eval (.tmp 5) = .pointer (some ⟨gq, 0, none⟩) := (hU 5 (by kernel_rfl)).trans rfl
                clear hE hU
                exact wp_value_inv (w' := W) (.agg Cq) (op_loadAt rfl v5 (LDq.out W hB)) ⟨_, rfl, hB, Fr.refl _ _, rfl, fun _ _ _ _ _ => trivial⟩
              · simp only [List.getElem?_cons_zero, List.getElem?_cons_succ, Option.some.injEq] at ho
                subst ho
                intro a W vs hB hS hE hU
                obtain ⟨r3, e58⟩ := hE 3 58 (by kernel_rfl) (by kernel_rfl)
                have v58 : a.eval (.tmp 58) = .bool false := e58.trans r3
                refine wpG_yes 3 false 58 rfl (by kernel_rfl) (by rw [hS]; first | simp | exact Nat.le_of_ble_eq_true rfl) v58 ?_
                obtain ⟨r4, e59⟩ := hE 4 59 (by kernel_rfl) (by kernel_rfl)
                have v59 : a.eval (.tmp 59) = .agg Cp := e59.trans r4
                obtain ⟨r5, e60⟩ := hE 5 60 (by kernel_rfl) (by kernel_rfl)
                have v60 : a.eval (.tmp 60) = .agg Cq := e60.trans r5
                clear hE hU
                refine wp_call_inv 21 #[.tmp 59, .tmp 60] #[25, 25] rfl #[.agg Cp, .agg Cq] (by simp only [List.map_toArray, List.map_cons, List.map_nil, v59, v60]) (bLess_enter _) (Post := fun v W' => v = .bool false ∧ Fr (fun _ => False) W W') ((HLpq.out W).mono fun e w' h => ⟨_, h.1, rfl, h.2⟩) ?_
                rintro v W' ⟨rfl, hf⟩
                exact ⟨_, rfl, hB.trans hf (fun _ h => h.elim), hf, rfl, fun _ _ _ _ _ => trivial⟩
              · simp only [List.getElem?_cons_zero, List.getElem?_cons_succ, Option.some.injEq] at ho
                subst ho
                intro a W vs hB hS hE hU
                obtain ⟨r3, e58⟩ := hE 3 58 (by kernel_rfl) (by kernel_rfl)
                have v58 : a.eval (.tmp 58) = .bool false := e58.trans r3
                refine wpG_yes 3 false 58 rfl (by kernel_rfl) (by rw [hS]; first | simp | exact Nat.le_of_ble_eq_true rfl) v58 ?_
                obtain ⟨r6, e61⟩ := hE 6 61 (by kernel_rfl) (by kernel_rfl)
                have v61 : a.eval (.tmp 61) = .bool false := e61.trans r6
                clear hE hU
                exact wp_value_inv (w' := W) (.bool false) (op_move rfl v61) ⟨_, rfl, hB, Fr.refl _ _, rfl, fun _ _ _ _ _ => trivial⟩
              · simp only [List.getElem?_cons_zero, List.getElem?_cons_succ, Option.some.injEq] at ho
                subst ho
                intro a W vs hB hS hE hU
                obtain ⟨r7, e62⟩ := hE 7 62 (by kernel_rfl) (by kernel_rfl)
                have v62 : a.eval (.tmp 62) = .bool false := e62.trans r7
                exact wpG_no 7 true 62 rfl (by kernel_rfl) (by rw [hS]; first | simp | exact Nat.le_of_ble_eq_true rfl) v62 ⟨_, rfl, hB, Fr.refl _ _, rfl, fun _ _ _ _ _ => trivial⟩
              · simp only [List.getElem?_cons_zero, List.getElem?_cons_succ, Option.some.injEq] at ho
                subst ho
                intro a W vs hB hS hE hU
                obtain ⟨r7, e62⟩ := hE 7 62 (by kernel_rfl) (by kernel_rfl)
                have v62 : a.eval (.tmp 62) = .bool false := e62.trans r7
                exact wpG_no 7 true 62 rfl (by kernel_rfl) (by rw [hS]; first | simp | exact Nat.le_of_ble_eq_true rfl) v62 ⟨_, rfl, hB, Fr.refl _ _, rfl, fun _ _ _ _ _ => trivial⟩
              · simp only [List.getElem?_cons_zero, List.getElem?_cons_succ, Option.some.injEq] at ho
                subst ho
                intro a W vs hB hS hE hU
                obtain ⟨r7, e62⟩ := hE 7 62 (by kernel_rfl) (by kernel_rfl)
                have v62 : a.eval (.tmp 62) = .bool false := e62.trans r7
                exact wpG_no 7 true 62 rfl (by kernel_rfl) (by rw [hS]; first | simp | exact Nat.le_of_ble_eq_true rfl) v62 ⟨_, rfl, hB, Fr.refl _ _, rfl, fun _ _ _ _ _ => trivial⟩
              · simp only [List.getElem?_cons_zero, List.getElem?_cons_succ, Option.some.injEq] at ho
                subst ho
                intro a W vs hB hS hE hU
                obtain ⟨r3, e58⟩ := hE 3 58 (by kernel_rfl) (by kernel_rfl)
                have v58 : a.eval (.tmp 58) = .bool false := e58.trans r3
                refine wpG_yes 3 false 58 rfl (by kernel_rfl) (by rw [hS]; first | simp | exact Nat.le_of_ble_eq_true rfl) v58 ?_
                obtain ⟨r7, e62⟩ := hE 7 62 (by kernel_rfl) (by kernel_rfl)
                have v62 : a.eval (.tmp 62) = .bool false := e62.trans r7
                clear hE hU
                exact wp_value_inv (w' := W) (.bool false) (op_pick rfl v62 (by simp only [Bool.false_eq_true, if_false]; rfl)) ⟨_, rfl, hB, Fr.refl _ _, rfl, fun _ _ _ _ _ => trivial⟩
              · simp only [List.getElem?_cons_zero, List.getElem?_cons_succ, Option.some.injEq] at ho
                subst ho
                intro a W vs hB hS hE hU
                refine wpG_plain rfl ?_
                obtain ⟨r3, e58⟩ := hE 3 58 (by kernel_rfl) (by kernel_rfl)
                have v58 : a.eval (.tmp 58) = .bool false := e58.trans r3
                obtain ⟨r11, e66⟩ := hE 11 66 (by kernel_rfl) (by kernel_rfl)
                have v66 : a.eval (.tmp 66) = .bool false := e66.trans r11
                clear hE hU
                exact wp_value_inv (w' := W) (.bool false) (op_pick rfl v58 (by simp only [Bool.false_eq_true, if_false]; exact v66)) ⟨_, rfl, hB, Fr.refl _ _, rfl, fun _ _ _ _ _ => trivial⟩
              · simp only [List.getElem?_cons_zero, List.getElem?_cons_succ, Option.some.injEq] at ho
                subst ho
                intro a W vs hB hS hE hU
                refine wpG_plain rfl ?_
                obtain ⟨r12, e67⟩ := hE 12 67 (by kernel_rfl) (by kernel_rfl)
                have v67 : a.eval (.tmp 67) = .bool false := e67.trans r12
                clear hE hU
                exact wp_value_inv (w' := W) (.bool false) (op_move rfl v67) ⟨_, rfl, hB, Fr.refl _ _, rfl, fun _ _ _ _ _ => trivial⟩
              · simp only [List.getElem?_cons_zero, List.getElem?_cons_succ, Option.some.injEq] at ho
                subst ho
                intro a W vs hB hS hE hU
                obtain ⟨r13, e68⟩ := hE 13 68 (by kernel_rfl) (by kernel_rfl)
                have v68 : a.eval (.tmp 68) = .bool false := e68.trans r13
                refine wpG_yes 13 false 68 rfl (by kernel_rfl) (by rw [hS]; first | simp | exact Nat.le_of_ble_eq_true rfl) v68 ?_
                have v4 : a.eval (.tmp 4) = .pointer (some ⟨gp, 0, none⟩) := (hU 4 (by kernel_rfl)).trans rfl
                clear hE hU
                exact wp_value_inv (w' := W) (.agg Cp) (op_loadAt rfl v4 (LDp.out W hB)) ⟨_, rfl, hB, Fr.refl _ _, rfl, fun _ _ _ _ _ => trivial⟩
              · simp only [List.getElem?_cons_zero, List.getElem?_cons_succ, Option.some.injEq] at ho
                subst ho
                intro a W vs hB hS hE hU
                obtain ⟨r13, e68⟩ := hE 13 68 (by kernel_rfl) (by kernel_rfl)
                have v68 : a.eval (.tmp 68) = .bool false := e68.trans r13
                refine wpG_yes 13 false 68 rfl (by kernel_rfl) (by rw [hS]; first | simp | exact Nat.le_of_ble_eq_true rfl) v68 ?_
                have v5 : a.eval (.tmp 5) = .pointer (some ⟨gq, 0, none⟩) := (hU 5 (by kernel_rfl)).trans rfl
                clear hE hU
                exact wp_value_inv (w' := W) (.agg Cq) (op_loadAt rfl v5 (LDq.out W hB)) ⟨_, rfl, hB, Fr.refl _ _, rfl, fun _ _ _ _ _ => trivial⟩
              · simp only [List.getElem?_cons_zero, List.getElem?_cons_succ, Option.some.injEq] at ho
                subst ho
                intro a W vs hB hS hE hU
                obtain ⟨r13, e68⟩ := hE 13 68 (by kernel_rfl) (by kernel_rfl)
                have v68 : a.eval (.tmp 68) = .bool false := e68.trans r13
                refine wpG_yes 13 false 68 rfl (by kernel_rfl) (by rw [hS]; first | simp | exact Nat.le_of_ble_eq_true rfl) v68 ?_
                obtain ⟨r14, e69⟩ := hE 14 69 (by kernel_rfl) (by kernel_rfl)
                have v69 : a.eval (.tmp 69) = .agg Cp := e69.trans r14
                obtain ⟨r15, e70⟩ := hE 15 70 (by kernel_rfl) (by kernel_rfl)
                have v70 : a.eval (.tmp 70) = .agg Cq := e70.trans r15
                clear hE hU
                exact wp_value_inv (w' := W) (.bool false) (op_bin rfl v69 v70 (guard_path W _ _ _ _ _) (EQX.out W)) ⟨_, rfl, hB, Fr.refl _ _, rfl, fun _ _ _ _ _ => trivial⟩
              · simp only [List.getElem?_cons_zero, List.getElem?_cons_succ, Option.some.injEq] at ho
                subst ho
                intro a W vs hB hS hE hU
                obtain ⟨r13, e68⟩ := hE 13 68 (by kernel_rfl) (by kernel_rfl)
                have v68 : a.eval (.tmp 68) = .bool false := e68.trans r13
                refine wpG_yes 13 false 68 rfl (by kernel_rfl) (by rw [hS]; first | simp | exact Nat.le_of_ble_eq_true rfl) v68 ?_
                have v4 : a.eval (.tmp 4) = .pointer (some ⟨gp, 0, none⟩) := (hU 4 (by kernel_rfl)).trans rfl
                clear hE hU
                exact wp_value_inv (w' := W) (.agg Cp) (op_loadAt rfl v4 (LDp.out W hB)) ⟨_, rfl, hB, Fr.refl _ _, rfl, fun _ _ _ _ _ => trivial⟩
              · simp only [List.getElem?_cons_zero, List.getElem?_cons_succ, Option.some.injEq] at ho
                subst ho
                intro a W vs hB hS hE hU
                obtain ⟨r13, e68⟩ := hE 13 68 (by kernel_rfl) (by kernel_rfl)
                have v68 : a.eval (.tmp 68) = .bool false := e68.trans r13
                refine wpG_yes 13 false 68 rfl (by kernel_rfl) (by rw [hS]; first | simp | exact Nat.le_of_ble_eq_true rfl) v68 ?_
                have v5 : a.eval (.tmp 5) = .pointer (some ⟨gq, 0, none⟩) := (hU 5 (by kernel_rfl)).trans rfl
                clear hE hU
                exact wp_value_inv (w' := W) (.agg Cq) (op_loadAt rfl v5 (LDq.out W hB)) ⟨_, rfl, hB, Fr.refl _ _, rfl, fun _ _ _ _ _ => trivial⟩
              · simp only [List.getElem?_cons_zero, List.getElem?_cons_succ, Option.some.injEq] at ho
                subst ho
                intro a W vs hB hS hE hU
                obtain ⟨r13, e68⟩ := hE 13 68 (by kernel_rfl) (by kernel_rfl)
                have v68 : a.eval (.tmp 68) = .bool false := e68.trans r13
                refine wpG_yes 13 false 68 rfl (by kernel_rfl) (by rw [hS]; first | simp | exact Nat.le_of_ble_eq_true rfl) v68 ?_
                obtain ⟨r17, e72⟩ := hE 17 72 (by kernel_rfl) (by kernel_rfl)
                have v72 : a.eval (.tmp 72) = .agg Cp := e72.trans r17
                obtain ⟨r18, e73⟩ := hE 18 73 (by kernel_rfl) (by kernel_rfl)
                have v73 : a.eval (.tmp 73) = .agg Cq := e73.trans r18
                clear hE hU
                refine wp_call_inv 21 #[.tmp 72, .tmp 73] #[25, 25] rfl #[.agg Cp, .agg Cq] (by simp only [List.map_toArray, List.map_cons, List.map_nil, v72, v73]) (bLess_enter _) (Post := fun v W' => v = .bool false ∧ Fr (fun _ => False) W W') ((HLpq.out W).mono fun e w' h => ⟨_, h.1, rfl, h.2⟩) ?_
                rintro v W' ⟨rfl, hf⟩
                exact ⟨_, rfl, hB.trans hf (fun _ h => h.elim), hf, rfl, fun _ _ _ _ _ => trivial⟩
              · simp only [List.getElem?_cons_zero, List.getElem?_cons_succ, Option.some.injEq] at ho
                subst ho
                intro a W vs hB hS hE hU
                obtain ⟨r13, e68⟩ := hE 13 68 (by kernel_rfl) (by kernel_rfl)
                have v68 : a.eval (.tmp 68) = .bool false := e68.trans r13
                refine wpG_yes 13 false 68 rfl (by kernel_rfl) (by rw [hS]; first | simp | exact Nat.le_of_ble_eq_true rfl) v68 ?_
                obtain ⟨r19, e74⟩ := hE 19 74 (by kernel_rfl) (by kernel_rfl)
                have v74 : a.eval (.tmp 74) = .bool false := e74.trans r19
                clear hE hU
                exact wp_value_inv (w' := W) (.bool false) (op_move rfl v74) ⟨_, rfl, hB, Fr.refl _ _, rfl, fun _ _ _ _ _ => trivial⟩
              · simp only [List.getElem?_cons_zero, List.getElem?_cons_succ, Option.some.injEq] at ho
                subst ho
                intro a W vs hB hS hE hU
                obtain ⟨r20, e75⟩ := hE 20 75 (by kernel_rfl) (by kernel_rfl)
                have v75 : a.eval (.tmp 75) = .bool false := e75.trans r20
                refine wpG_yes 20 false 75 rfl (by kernel_rfl) (by rw [hS]; first | simp | exact Nat.le_of_ble_eq_true rfl) v75 ?_
                have v5 : a.eval (.tmp 5) = .pointer (some ⟨gq, 0, none⟩) := (hU 5 (by kernel_rfl)).trans rfl
                clear hE hU
                exact wp_value_inv (w' := W) (.agg Cq) (op_loadAt rfl v5 (LDq.out W hB)) ⟨_, rfl, hB, Fr.refl _ _, rfl, fun _ _ _ _ _ => trivial⟩
              · simp only [List.getElem?_cons_zero, List.getElem?_cons_succ, Option.some.injEq] at ho
                subst ho
                intro a W vs hB hS hE hU
                obtain ⟨r20, e75⟩ := hE 20 75 (by kernel_rfl) (by kernel_rfl)
                have v75 : a.eval (.tmp 75) = .bool false := e75.trans r20
                refine wpG_yes 20 false 75 rfl (by kernel_rfl) (by rw [hS]; first | simp | exact Nat.le_of_ble_eq_true rfl) v75 ?_
                have v4 : a.eval (.tmp 4) = .pointer (some ⟨gp, 0, none⟩) := (hU 4 (by kernel_rfl)).trans rfl
                clear hE hU
                exact wp_value_inv (w' := W) (.agg Cp) (op_loadAt rfl v4 (LDp.out W hB)) ⟨_, rfl, hB, Fr.refl _ _, rfl, fun _ _ _ _ _ => trivial⟩
              · simp only [List.getElem?_cons_zero, List.getElem?_cons_succ, Option.some.injEq] at ho
                subst ho
                intro a W vs hB hS hE hU
                obtain ⟨r20, e75⟩ := hE 20 75 (by kernel_rfl) (by kernel_rfl)
                have v75 : a.eval (.tmp 75) = .bool false := e75.trans r20
                refine wpG_yes 20 false 75 rfl (by kernel_rfl) (by rw [hS]; first | simp | exact Nat.le_of_ble_eq_true rfl) v75 ?_
                obtain ⟨r21, e76⟩ := hE 21 76 (by kernel_rfl) (by kernel_rfl)
                have v76 : a.eval (.tmp 76) = .agg Cq := e76.trans r21
                obtain ⟨r22, e77⟩ := hE 22 77 (by kernel_rfl) (by kernel_rfl)
                have v77 : a.eval (.tmp 77) = .agg Cp := e77.trans r22
                clear hE hU
                refine wp_call_inv 21 #[.tmp 76, .tmp 77] #[25, 25] rfl #[.agg Cq, .agg Cp] (by simp only [List.map_toArray, List.map_cons, List.map_nil, v76, v77]) (bLess_enter _) (Post := fun v W' => v = .bool true ∧ Fr (fun _ => False) W W') ((HLqp.out W).mono fun e w' h => ⟨_, h.1, rfl, h.2⟩) ?_
                rintro v W' ⟨rfl, hf⟩
                exact ⟨_, rfl, hB.trans hf (fun _ h => h.elim), hf, rfl, fun _ _ _ _ _ => trivial⟩
              · simp only [List.getElem?_cons_zero, List.getElem?_cons_succ, Option.some.injEq] at ho
                subst ho
                intro a W vs hB hS hE hU
                obtain ⟨r13, e68⟩ := hE 13 68 (by kernel_rfl) (by kernel_rfl)
                have v68 : a.eval (.tmp 68) = .bool false := e68.trans r13
                refine wpG_yes 13 false 68 rfl (by kernel_rfl) (by rw [hS]; first | simp | exact Nat.le_of_ble_eq_true rfl) v68 ?_
                obtain ⟨r20, e75⟩ := hE 20 75 (by kernel_rfl) (by kernel_rfl)
                have v75 : a.eval (.tmp 75) = .bool false := e75.trans r20
                obtain ⟨r23, e78⟩ := hE 23 78 (by kernel_rfl) (by kernel_rfl)
                have v78 : a.eval (.tmp 78) = .bool true := e78.trans r23
                clear hE hU
                exact wp_value_inv (w' := W) (.bool true) (op_pick rfl v75 (by simp only [Bool.false_eq_true, if_false]; exact v78)) ⟨_, rfl, hB, Fr.refl _ _, rfl, fun _ _ _ _ _ => trivial⟩
              · simp only [List.getElem?_cons_zero, List.getElem?_cons_succ, Option.some.injEq] at ho
                subst ho
                intro a W vs hB hS hE hU
                obtain ⟨r13, e68⟩ := hE 13 68 (by kernel_rfl) (by kernel_rfl)
                have v68 : a.eval (.tmp 68) = .bool false := e68.trans r13
                refine wpG_yes 13 false 68 rfl (by kernel_rfl) (by rw [hS]; first | simp | exact Nat.le_of_ble_eq_true rfl) v68 ?_
                obtain ⟨r16, e71⟩ := hE 16 71 (by kernel_rfl) (by kernel_rfl)
                have v71 : a.eval (.tmp 71) = .bool false := e71.trans r16
                obtain ⟨r24, e79⟩ := hE 24 79 (by kernel_rfl) (by kernel_rfl)
                have v79 : a.eval (.tmp 79) = .bool true := e79.trans r24
                clear hE hU
                exact wp_value_inv (w' := W) (.bool false) (op_bin rfl v71 v79 (guard_bool W _ _ _ _ _ _) (eql_ft W)) ⟨_, rfl, hB, Fr.refl _ _, rfl, fun _ _ _ _ _ => trivial⟩
              · simp only [List.getElem?_cons_zero, List.getElem?_cons_succ, Option.some.injEq] at ho
                subst ho
                intro a W vs hB hS hE hU
                refine wpG_plain rfl ?_
                obtain ⟨r13, e68⟩ := hE 13 68 (by kernel_rfl) (by kernel_rfl)
                have v68 : a.eval (.tmp 68) = .bool false := e68.trans r13
                obtain ⟨r25, e80⟩ := hE 25 80 (by kernel_rfl) (by kernel_rfl)
                have v80 : a.eval (.tmp 80) = .bool false := e80.trans r25
                clear hE hU
                exact wp_value_inv (w' := W) (.bool false) (op_pick rfl v68 (by simp only [Bool.false_eq_true, if_false]; exact v80)) ⟨_, rfl, hB, Fr.refl _ _, rfl, fun _ _ _ _ _ => trivial⟩
              · simp only [List.getElem?_cons_zero, List.getElem?_cons_succ, Option.some.injEq] at ho
                subst ho
                intro a W vs hB hS hE hU
                refine wpG_plain rfl ?_
                obtain ⟨r26, e81⟩ := hE 26 81 (by kernel_rfl) (by kernel_rfl)
                have v81 : a.eval (.tmp 81) = .bool false := e81.trans r26
                clear hE hU
                exact wp_value_inv (w' := W) (.bool false) (op_move rfl v81) ⟨_, rfl, hB, Fr.refl _ _, rfl, fun _ _ _ _ _ => trivial⟩
              · simp only [List.getElem?_cons_zero, List.getElem?_cons_succ, Option.some.injEq] at ho
                subst ho
                intro a W vs hB hS hE hU
                obtain ⟨r27, e82⟩ := hE 27 82 (by kernel_rfl) (by kernel_rfl)
                have v82 : a.eval (.tmp 82) = .bool false := e82.trans r27
                refine wpG_yes 27 false 82 rfl (by kernel_rfl) (by rw [hS]; first | simp | exact Nat.le_of_ble_eq_true rfl) v82 ?_
                have v4 : a.eval (.tmp 4) = .pointer (some ⟨gp, 0, none⟩) := (hU 4 (by kernel_rfl)).trans rfl
                clear hE hU
                exact wp_value_inv (w' := W) (.agg Cp) (op_loadAt rfl v4 (LDp.out W hB)) ⟨_, rfl, hB, Fr.refl _ _, rfl, fun _ _ _ _ _ => trivial⟩
              · simp only [List.getElem?_cons_zero, List.getElem?_cons_succ, Option.some.injEq] at ho
                subst ho
                intro a W vs hB hS hE hU
                obtain ⟨r27, e82⟩ := hE 27 82 (by kernel_rfl) (by kernel_rfl)
                have v82 : a.eval (.tmp 82) = .bool false := e82.trans r27
                refine wpG_yes 27 false 82 rfl (by kernel_rfl) (by rw [hS]; first | simp | exact Nat.le_of_ble_eq_true rfl) v82 ?_
                have v5 : a.eval (.tmp 5) = .pointer (some ⟨gq, 0, none⟩) := (hU 5 (by kernel_rfl)).trans rfl
                clear hE hU
                exact wp_value_inv (w' := W) (.agg Cq) (op_loadAt rfl v5 (LDq.out W hB)) ⟨_, rfl, hB, Fr.refl _ _, rfl, fun _ _ _ _ _ => trivial⟩
              · simp only [List.getElem?_cons_zero, List.getElem?_cons_succ, Option.some.injEq] at ho
                subst ho
                intro a W vs hB hS hE hU
                obtain ⟨r27, e82⟩ := hE 27 82 (by kernel_rfl) (by kernel_rfl)
                have v82 : a.eval (.tmp 82) = .bool false := e82.trans r27
                refine wpG_yes 27 false 82 rfl (by kernel_rfl) (by rw [hS]; first | simp | exact Nat.le_of_ble_eq_true rfl) v82 ?_
                obtain ⟨r28, e83⟩ := hE 28 83 (by kernel_rfl) (by kernel_rfl)
                have v83 : a.eval (.tmp 83) = .agg Cp := e83.trans r28
                obtain ⟨r29, e84⟩ := hE 29 84 (by kernel_rfl) (by kernel_rfl)
                have v84 : a.eval (.tmp 84) = .agg Cq := e84.trans r29
                clear hE hU
                refine wp_call_inv 21 #[.tmp 83, .tmp 84] #[25, 25] rfl #[.agg Cp, .agg Cq] (by simp only [List.map_toArray, List.map_cons, List.map_nil, v83, v84]) (bLess_enter _) (Post := fun v W' => v = .bool false ∧ Fr (fun _ => False) W W') ((HLpq.out W).mono fun e w' h => ⟨_, h.1, rfl, h.2⟩) ?_
                rintro v W' ⟨rfl, hf⟩
                exact ⟨_, rfl, hB.trans hf (fun _ h => h.elim), hf, rfl, fun _ _ _ _ _ => trivial⟩
              · simp only [List.getElem?_cons_zero, List.getElem?_cons_succ, Option.some.injEq] at ho
                subst ho
                intro a W vs hB hS hE hU
                obtain ⟨r27, e82⟩ := hE 27 82 (by kernel_rfl) (by kernel_rfl)
                have v82 : a.eval (.tmp 82) = .bool false := e82.trans r27
                refine wpG_yes 27 false 82 rfl (by kernel_rfl) (by rw [hS]; first | simp | exact Nat.le_of_ble_eq_true rfl) v82 ?_
                obtain ⟨r30, e85⟩ := hE 30 85 (by kernel_rfl) (by kernel_rfl)
                have v85 : a.eval (.tmp 85) = .bool false := e85.trans r30
                clear hE hU
                exact wp_value_inv (w' := W) (.bool false) (op_move rfl v85) ⟨_, rfl, hB, Fr.refl _ _, rfl, fun _ _ _ _ _ => trivial⟩
              · simp only [List.getElem?_cons_zero, List.getElem?_cons_succ, Option.some.injEq] at ho
                subst ho
                intro a W vs hB hS hE hU
                obtain ⟨r31, e86⟩ := hE 31 86 (by kernel_rfl) (by kernel_rfl)
                have v86 : a.eval (.tmp 86) = .bool false := e86.trans r31
                exact wpG_no 31 true 86 rfl (by kernel_rfl) (by rw [hS]; first | simp | exact Nat.le_of_ble_eq_true rfl) v86 ⟨_, rfl, hB, Fr.refl _ _, rfl, fun _ _ _ _ _ => trivial⟩
              · simp only [List.getElem?_cons_zero, List.getElem?_cons_succ, Option.some.injEq] at ho
                subst ho
                intro a W vs hB hS hE hU
                obtain ⟨r31, e86⟩ := hE 31 86 (by kernel_rfl) (by kernel_rfl)
                have v86 : a.eval (.tmp 86) = .bool false := e86.trans r31
                exact wpG_no 31 true 86 rfl (by kernel_rfl) (by rw [hS]; first | simp | exact Nat.le_of_ble_eq_true rfl) v86 ⟨_, rfl, hB, Fr.refl _ _, rfl, fun _ _ _ _ _ => trivial⟩
              · simp only [List.getElem?_cons_zero, List.getElem?_cons_succ, Option.some.injEq] at ho
                subst ho
                intro a W vs hB hS hE hU
                obtain ⟨r31, e86⟩ := hE 31 86 (by kernel_rfl) (by kernel_rfl)
                have v86 : a.eval (.tmp 86) = .bool false := e86.trans r31
                exact wpG_no 31 true 86 rfl (by kernel_rfl) (by rw [hS]; first | simp | exact Nat.le_of_ble_eq_true rfl) v86 ⟨_, rfl, hB, Fr.refl _ _, rfl, fun _ _ _ _ _ => trivial⟩
              · simp only [List.getElem?_cons_zero, List.getElem?_cons_succ, Option.some.injEq] at ho
                subst ho
                intro a W vs hB hS hE hU
                obtain ⟨r27, e82⟩ := hE 27 82 (by kernel_rfl) (by kernel_rfl)
                have v82 : a.eval (.tmp 82) = .bool false := e82.trans r27
                refine wpG_yes 27 false 82 rfl (by kernel_rfl) (by rw [hS]; first | simp | exact Nat.le_of_ble_eq_true rfl) v82 ?_
                obtain ⟨r31, e86⟩ := hE 31 86 (by kernel_rfl) (by kernel_rfl)
                have v86 : a.eval (.tmp 86) = .bool false := e86.trans r31
                clear hE hU
                exact wp_value_inv (w' := W) (.bool false) (op_pick rfl v86 (by simp only [Bool.false_eq_true, if_false]; rfl)) ⟨_, rfl, hB, Fr.refl _ _, rfl, fun _ _ _ _ _ => trivial⟩
              · simp only [List.getElem?_cons_zero, List.getElem?_cons_succ, Option.some.injEq] at ho
                subst ho
                intro a W vs hB hS hE hU
                obtain ⟨r27, e82⟩ := hE 27 82 (by kernel_rfl) (by kernel_rfl)
                have v82 : a.eval (.tmp 82) = .bool false := e82.trans r27
                refine wpG_yes 27 false 82 rfl (by kernel_rfl) (by rw [hS]; first | simp | exact Nat.le_of_ble_eq_true rfl) v82 ?_
                obtain ⟨r35, e90⟩ := hE 35 90 (by kernel_rfl) (by kernel_rfl)
                have v90 : a.eval (.tmp 90) = .bool false := e90.trans r35
                clear hE hU
                exact wp_value_inv (w' := W) (.bool false) (op_move rfl v90) ⟨_, rfl, hB, Fr.refl _ _, rfl, fun _ _ _ _ _ => trivial⟩
              · simp only [List.getElem?_cons_zero, List.getElem?_cons_succ, Option.some.injEq] at ho
                subst ho
                intro a W vs hB hS hE hU
                obtain ⟨r36, e91⟩ := hE 36 91 (by kernel_rfl) (by kernel_rfl)
                have v91 : a.eval (.tmp 91) = .bool false := e91.trans r36
                exact wpG_no 36 true 91 rfl (by kernel_rfl) (by rw [hS]; first | simp | exact Nat.le_of_ble_eq_true rfl) v91 ⟨_, rfl, hB, Fr.refl _ _, rfl, fun _ _ _ _ _ => trivial⟩
              · simp only [List.getElem?_cons_zero, List.getElem?_cons_succ, Option.some.injEq] at ho
                subst ho
                intro a W vs hB hS hE hU
                obtain ⟨r36, e91⟩ := hE 36 91 (by kernel_rfl) (by kernel_rfl)
                have v91 : a.eval (.tmp 91) = .bool false := e91.trans r36
                exact wpG_no 36 true 91 rfl (by kernel_rfl) (by rw [hS]; first | simp | exact Nat.le_of_ble_eq_true rfl) v91 ⟨_, rfl, hB, Fr.refl _ _, rfl, fun _ _ _ _ _ => trivial⟩
              · simp only [List.getElem?_cons_zero, List.getElem?_cons_succ, Option.some.injEq] at ho
                subst ho
                intro a W vs hB hS hE hU
                obtain ⟨r36, e91⟩ := hE 36 91 (by kernel_rfl) (by kernel_rfl)
                have v91 : a.eval (.tmp 91) = .bool false := e91.trans r36
                exact wpG_no 36 true 91 rfl (by kernel_rfl) (by rw [hS]; first | simp | exact Nat.le_of_ble_eq_true rfl) v91 ⟨_, rfl, hB, Fr.refl _ _, rfl, fun _ _ _ _ _ => trivial⟩
              · simp only [List.getElem?_cons_zero, List.getElem?_cons_succ, Option.some.injEq] at ho
                subst ho
                intro a W vs hB hS hE hU
                obtain ⟨r36, e91⟩ := hE 36 91 (by kernel_rfl) (by kernel_rfl)
                have v91 : a.eval (.tmp 91) = .bool false := e91.trans r36
                exact wpG_no 36 true 91 rfl (by kernel_rfl) (by rw [hS]; first | simp | exact Nat.le_of_ble_eq_true rfl) v91 ⟨_, rfl, hB, Fr.refl _ _, rfl, fun _ _ _ _ _ => trivial⟩
              · simp only [List.getElem?_cons_zero, List.getElem?_cons_succ, Option.some.injEq] at ho
                subst ho
                intro a W vs hB hS hE hU
                obtain ⟨r27, e82⟩ := hE 27 82 (by kernel_rfl) (by kernel_rfl)
                have v82 : a.eval (.tmp 82) = .bool false := e82.trans r27
                refine wpG_yes 27 false 82 rfl (by kernel_rfl) (by rw [hS]; first | simp | exact Nat.le_of_ble_eq_true rfl) v82 ?_
                obtain ⟨r36, e91⟩ := hE 36 91 (by kernel_rfl) (by kernel_rfl)
                have v91 : a.eval (.tmp 91) = .bool false := e91.trans r36
                clear hE hU
                exact wp_value_inv (w' := W) (.bool false) (op_pick rfl v91 (by simp only [Bool.false_eq_true, if_false]; rfl)) ⟨_, rfl, hB, Fr.refl _ _, rfl, fun _ _ _ _ _ => trivial⟩
              · simp only [List.getElem?_cons_zero, List.getElem?_cons_succ, Option.some.injEq] at ho
                subst ho
                intro a W vs hB hS hE hU
                refine wpG_plain rfl ?_
                obtain ⟨r27, e82⟩ := hE 27 82 (by kernel_rfl) (by kernel_rfl)
                have v82 : a.eval (.tmp 82) = .bool false := e82.trans r27
                obtain ⟨r41, e96⟩ := hE 41 96 (by kernel_rfl) (by kernel_rfl)
                have v96 : a.eval (.tmp 96) = .bool false := e96.trans r41
                clear hE hU
                exact wp_value_inv (w' := W) (.bool false) (op_pick rfl v82 (by simp only [Bool.false_eq_true, if_false]; exact v96)) ⟨_, rfl, hB, Fr.refl _ _, rfl, fun _ _ _ _ _ => trivial⟩
            · intro vs Wa hB0 hR0 hD
              have rL : vs 42 = .bool false := hR0 42 (by decide)
              have HB := Lib.hid hB0
              clear hR0 hD hB0
              simp only [acts, if_true, dstAt, List.getElem?_cons_zero, List.getElem?_cons_succ, Option.bind_some, Act.put, List.setIfInBounds_toArray, List.set_cons_succ, List.set_cons_zero, List.drop_succ_cons, List.drop_nil]
              simp only [rL]
              clear rL
              have HF2 := Lib.hid (HF.out.trans HB.out (fun _ h => h.elim))
              have HP2 := Lib.hid (show PathsIn (fun k => k < Wa.heap.size) Wa (.slice ao n cap) L from (HV.out.keep HF2.out (fun _ _ _ h => h)).mono (fun k h _ => h))
              go_wp2_with (go_at_call 19; refine (HSO.out _ _ HP2.out).mono ?_; rintro e w6 ⟨u6, M, rfl, hp6, ha6, hm6, hf6⟩; (have HP6 := Lib.hid hp6); obtain ⟨a6, c6, rfl, hl6, hcm6, _, hr6⟩ := hp6; (have HR6 := Lib.hid hr6); (have HA6 := Lib.hid ha6); (have HM6 := Lib.hid hm6); (have HF6 := Lib.hid (HF2.out.trans hf6 (fun _ h => h.elim))); clear hr6 ha6 hm6 hf6)
              have hml : M.length ≤ 1000000 := by
                have h := nodup_le (HA6.out.nodup lessX_strict) (fun x hx => (HM6.out x).1 hx)
                have := HL6.out
                omega
              unfold maxLen at hcm6
              have H06 := Lib.hid (Fr.refl (fun _ => False) w6)
              go_loopw [12] (fun iv wr => ∃ kx : Nat, 1 ≤ kx ∧ kx ≤ M.length + 1 ∧ iv = .int .i64 kx ∧ Hid (Fr (fun _ => False) w6 wr)) (fun iv _ => M.length + 1 - (intOf iv).toNat)
              case atStart => exact ⟨1, by omega, by omega, rfl, H06⟩
              case round =>
                clear H06
                obtain ⟨kx, hk1, hk2, rfl, HG⟩ := hrel
                by_cases hlt : kx < M.length
                · have hd : decide ((kx : Int) < (M.length : Int)) = true := by rw [decide_eq_true_iff]; omega
                  have hM : M ≠ [] := by rintro rfl; simp at hlt
                  obtain ⟨b6, o6, rfl, _, hg6⟩ := HR6.out hM
                  obtain ⟨y, hy⟩ : ∃ y, y = M[kx - 1]'(by omega) := ⟨_, rfl⟩
                  obtain ⟨x, hx⟩ : ∃ x, x = M[kx] := ⟨_, rfl⟩
                  have hry := HG.out.range (hg6 (kx - 1) (by omega)) (fun h => h)
                  have hrx := HG.out.range (hg6 kx hlt) (fun h => h)
                  have hyx : lessX y x = true := by rw [hy, hx]; exact List.pairwise_iff_getElem.1 HA6.out (kx - 1) kx (by omega) hlt (by omega)
                  rw [← hy] at hry
                  rw [← hx] at hrx
                  obtain ⟨CX, hCX⟩ : ∃ C, C = pathC x.h x.n := ⟨_, rfl⟩
                  obtain ⟨CY, hCY⟩ : ∃ C, C = pathC y.h y.n := ⟨_, rfl⟩
                  have LDX := Lib.hid (fun W (hW : Fr (fun _ => False) wr W) => show (Instr.loadAt 25 (.pointer (some ⟨b6, o6 + kx * 21, none⟩))).run Try.prog W = .ok (.agg CX) W by rw [hCX]; exact load_mid_path W b6 _ x (hW.range hrx (fun h => h)))
                  have LDY := Lib.hid (fun W (hW : Fr (fun _ => False) wr W) => show (Instr.loadAt 25 (.pointer (some ⟨b6, o6 + (kx - 1) * 21, none⟩))).run Try.prog W = .ok (.agg CY) W by rw [hCY]; exact load_mid_path W b6 _ y (hW.range hry (fun h => h)))
                  have HLS := Lib.hid (fun W => show Calls Try.prog 21 #[.agg CY, .agg CX] W fun e w' => e = .returned (.bool true) ∧ Fr (fun _ => False) W w' from by
                    have h := bLessX_any y x W
                    rw [hyx, ← hCX, ← hCY] at h
                    exact h)
                  have ES := Lib.hid (fun W => run_one_less W kx (by omega) (by omega))
                  have HK1 := Lib.hid (show kx - 1 < M.length by omega)
                  have HIN := Lib.hid hlt
                  clear hM hg6 hy hx hry hrx hyx hCX hCY
                  go_wp2_with fail
                  refine wp_region_inv 11 (by kernel_rfl) (by kernel_rfl) (fun W => Fr (fun _ => False) wr W) (O16 b6 o6 c6 M.length kx CX CY) (fun _ _ _ _ => True) (Fr (fun _ => False)) (O16.ext b6 o6 c6 M.length kx CX CY) (Fr.refl _ _).drew ?_ ?_
                  · intro i hi o ho
                    replace hi : i < 11 := hi
                    obtain rfl | rfl | rfl | rfl | rfl | rfl | rfl | rfl | rfl | rfl | rfl : i = 0 ∨ i = 1 ∨ i = 2 ∨ i = 3 ∨ i = 4 ∨ i = 5 ∨ i = 6 ∨ i = 7 ∨ i = 8 ∨ i = 9 ∨ i = 10 := by omega
                    · simp only [List.getElem?_cons_zero, Option.some.injEq] at ho
                      subst ho
                      intro a W vs hB hS hE hU
                      refine wpG_plain rfl ?_
                      have v11 : a.eval (.tmp 11) = .slice (some ⟨b6, o6, none⟩) M.length c6 := (hU 11 (by kernel_rfl)).trans rfl
                      clear hE hU
                      exact wp_value_inv (w' := W) (.slice (some ⟨b6, o6, none⟩) M.length c6) (op_move rfl v11) ⟨_, rfl, hB, Fr.refl _ _, rfl, fun _ _ _ _ _ => trivial⟩
                    · simp only [List.getElem?_cons_zero, List.getElem?_cons_succ, Option.some.injEq] at ho
                      subst ho
                      intro a W vs hB hS hE hU
                      refine wpG_plain rfl ?_
                      have v12 : a.eval (.tmp 12) = .int .i64 (kx : Int) := (hU 12 (by kernel_rfl)).trans rfl
                      clear hE hU
                      exact wp_value_inv (w' := W) (.int .i64 (kx : Int)) (op_move rfl v12) ⟨_, rfl, hB, Fr.refl _ _, rfl, fun _ _ _ _ _ => trivial⟩
                    · simp only [List.getElem?_cons_zero, List.getElem?_cons_succ, Option.some.injEq] at ho
                      subst ho
                      intro a W vs hB hS hE hU
                      refine wpG_plain rfl ?_
                      obtain ⟨r1, e107⟩ := hE 1 107 (by kernel_rfl) (by kernel_rfl)
                      have v107 : a.eval (.tmp 107) = .int .i64 (kx : Int) := e107.trans r1
                      clear hE hU
                      exact wp_value_inv (w' := W) (.int .i64 ((kx - 1 : Nat) : Int)) (op_bin rfl v107 (rfl : a.eval (.const (.int .i64 1)) = _) (guard_int W _ _ _ _ _ _ _) (ES.out W)) ⟨_, rfl, hB, Fr.refl _ _, rfl, fun _ _ _ _ _ => trivial⟩
                    · simp only [List.getElem?_cons_zero, List.getElem?_cons_succ, Option.some.injEq] at ho
                      subst ho
                      intro a W vs hB hS hE hU
                      refine wpG_plain rfl ?_
                      obtain ⟨r0, e106⟩ := hE 0 106 (by kernel_rfl) (by kernel_rfl)
                      have v106 : a.eval (.tmp 106) = .slice (some ⟨b6, o6, none⟩) M.length c6 := e106.trans r0
                      obtain ⟨r2, e108⟩ := hE 2 108 (by kernel_rfl) (by kernel_rfl)
                      have v108 : a.eval (.tmp 108) = .int .i64 ((kx - 1 : Nat) : Int) := e108.trans r2
                      clear hE hU
                      exact wp_value_inv (w' := W) (.pointer (some ⟨b6, o6 + (kx - 1) * 21, none⟩)) (op_indexAddr rfl v106 v108 (run_index_paths W b6 o6 M.length c6 (kx - 1) HK1.out)) ⟨_, rfl, hB, Fr.refl _ _, rfl, fun _ _ _ _ _ => trivial⟩
                    · simp only [List.getElem?_cons_zero, List.getElem?_cons_succ, Option.some.injEq] at ho
                      subst ho
                      intro a W vs hB hS hE hU
                      refine wpG_plain rfl ?_
                      obtain ⟨r3, e109⟩ := hE 3 109 (by kernel_rfl) (by kernel_rfl)
                      have v109 : a.eval (.tmp 109) = .pointer (some ⟨b6, o6 + (kx - 1) * 21, none⟩) := e109.trans r3
                      clear hE hU
                      exact wp_value_inv (w' := W) (.agg CY) (op_loadAt rfl v109 (LDY.out W hB)) ⟨_, rfl, hB, Fr.refl _ _, rfl, fun _ _ _ _ _ => trivial⟩
                    · simp only [List.getElem?_cons_zero, List.getElem?_cons_succ, Option.some.injEq] at ho
                      subst ho
                      intro a W vs hB hS hE hU
                      refine wpG_plain rfl ?_
                      have v11 : a.eval (.tmp 11) = .slice (some ⟨b6, o6, none⟩) M.length c6 := (hU 11 (by kernel_rfl)).trans rfl
                      clear hE hU
                      exact wp_value_inv (w' := W) (.slice (some ⟨b6, o6, none⟩) M.length c6) (op_move rfl v11) ⟨_, rfl, hB, Fr.refl _ _, rfl, fun _ _ _ _ _ => trivial⟩
                    · simp only [List.getElem?_cons_zero, List.getElem?_cons_succ, Option.some.injEq] at ho
                      subst ho
                      intro a W vs hB hS hE hU
                      refine wpG_plain rfl ?_
                      have v12 : a.eval (.tmp 12) = .int .i64 (kx : Int) := (hU 12 (by kernel_rfl)).trans rfl
                      clear hE hU
                      exact wp_value_inv (w' := W) (.int .i64 (kx : Int)) (op_move rfl v12) ⟨_, rfl, hB, Fr.refl _ _, rfl, fun _ _ _ _ _ => trivial⟩
                    · simp only [List.getElem?_cons_zero, List.getElem?_cons_succ, Option.some.injEq] at ho
                      subst ho
                      intro a W vs hB hS hE hU
                      refine wpG_plain rfl ?_
                      obtain ⟨r5, e111⟩ := hE 5 111 (by kernel_rfl) (by kernel_rfl)
                      have v111 : a.eval (.tmp 111) = .slice (some ⟨b6, o6, none⟩) M.length c6 := e111.trans r5
                      obtain ⟨r6, e112⟩ := hE 6 112 (by kernel_rfl) (by kernel_rfl)
                      have v112 : a.eval (.tmp 112) = .int .i64 (kx : Int) := e112.trans r6
                      clear hE hU
                      exact wp_value_inv (w' := W) (.pointer (some ⟨b6, o6 + kx * 21, none⟩)) (op_indexAddr rfl v111 v112 (run_index_paths W b6 o6 M.length c6 kx HIN.out)) ⟨_, rfl, hB, Fr.refl _ _, rfl, fun _ _ _ _ _ => trivial⟩
                    · simp only [List.getElem?_cons_zero, List.getElem?_cons_succ, Option.some.injEq] at ho
                      subst ho
                      intro a W vs hB hS hE hU
                      refine wpG_plain rfl ?_
                      obtain ⟨r7, e113⟩ := hE 7 113 (by kernel_rfl) (by kernel_rfl)
                      have v113 : a.eval (.tmp 113) = .pointer (some ⟨b6, o6 + kx * 21, none⟩) := e113.trans r7
                      clear hE hU
                      exact wp_value_inv (w' := W) (.agg CX) (op_loadAt rfl v113 (LDX.out W hB)) ⟨_, rfl, hB, Fr.refl _ _, rfl, fun _ _ _ _ _ => trivial⟩
                    · simp only [List.getElem?_cons_zero, List.getElem?_cons_succ, Option.some.injEq] at ho
                      subst ho
                      intro a W vs hB hS hE hU
                      refine wpG_plain rfl ?_
                      obtain ⟨r4, e110⟩ := hE 4 110 (by kernel_rfl) (by kernel_rfl)
                      have v110 : a.eval (.tmp 110) = .agg CY := e110.trans r4
                      obtain ⟨r8, e114⟩ := hE 8 114 (by kernel_rfl) (by kernel_rfl)
                      have v114 : a.eval (.tmp 114) = .agg CX := e114.trans r8
                      clear hE hU
                      refine wp_call_inv 21 #[.tmp 110, .tmp 114] #[25, 25] rfl #[.agg CY, .agg CX] (by simp only [List.map_toArray, List.map_cons, List.map_nil, v110, v114]) (bLess_enter _) (Post := fun v W' => v = .bool true ∧ Fr (fun _ => False) W W') ((HLS.out W).mono fun e w' h => ⟨_, h.1, rfl, h.2⟩) ?_
                      rintro v W' ⟨rfl, hf⟩
                      exact ⟨_, rfl, hB.trans hf (fun _ h => h.elim), hf, rfl, fun _ _ _ _ _ => trivial⟩
                    · simp only [List.getElem?_cons_zero, List.getElem?_cons_succ, Option.some.injEq] at ho
                      subst ho
                      intro a W vs hB hS hE hU
                      refine wpG_plain rfl ?_
                      obtain ⟨r9, e115⟩ := hE 9 115 (by kernel_rfl) (by kernel_rfl)
                      have v115 : a.eval (.tmp 115) = .bool true := e115.trans r9
                      clear hE hU
                      exact wp_value_inv (w' := W) (.bool false) (op_unop rfl v115 (by rfl)) ⟨_, rfl, hB, Fr.refl _ _, rfl, fun _ _ _ _ _ => trivial⟩
                  · intro vs Wb hB0 hR0 hD
                    have rL : vs 10 = .bool false := hR0 10 (by decide)
                    have HB := Lib.hid hB0
                    clear hR0 hD hB0
                    simp only [acts, if_true, dstAt, List.getElem?_cons_zero, List.getElem?_cons_succ, Option.bind_some, Act.put, List.setIfInBounds_toArray, List.set_cons_succ, List.set_cons_zero, List.drop_succ_cons, List.drop_nil]
                    simp only [rL]
                    clear rL
                    have HG2 := Lib.hid (HG.out.trans HB.out (fun _ h => h.elim))
                    go_wp2
                    go_roundw
                    case rel => exact ⟨kx + 1, by omega, by omega, by go_num, HG2⟩
                    case measure => simp [intOf]; omega
                · have hd : decide ((kx : Int) < (M.length : Int)) = false := by rw [decide_eq_false_iff_not]; omega
                  have HF7 := Lib.hid (HF6.out.trans HG.out (fun _ h => h.elim))
                  have HPL := Lib.hid (HV.out.keep HF7.out (fun _ _ _ h => h))
                  have HPM := Lib.hid (HP6.out.keep HG.out (fun _ _ _ h => h))
                  have HW1 := Lib.hid (fun (W : World) (hf : Fr (fun _ => False) wr W) => within_any W _ _ L M (HPL.out.keep hf (fun _ _ _ h => h)) (HPM.out.keep hf (fun _ _ _ h => h)) (by have := HL6.out; omega) hml (fun x hx => (HM6.out x).2 hx))
                  have HW2 := Lib.hid (fun (W : World) (hf : Fr (fun _ => False) wr W) => within_any W _ _ M L (HPM.out.keep hf (fun _ _ _ h => h)) (HPL.out.keep hf (fun _ _ _ h => h)) hml (by have := HL6.out; omega) (fun x hx => (HM6.out x).1 hx))
                  go_wp2_with (first
                    | (go_at_call 23; (with_reducible refine (HW1.out _ (Fr.refl _ _)).mono ?_); rintro e w8 ⟨rfl, hf8⟩; (have HF8 := Lib.hid hf8); clear hf8)
                    | (go_at_call 23; (with_reducible refine (HW2.out _ HF8.out).mono ?_); rintro e w9 ⟨rfl, hf9⟩; (have HF9 := Lib.hid ((HF7.out.trans HF8.out (fun _ h => h.elim)).trans hf9 (fun _ h => h.elim))); clear hf9))
                  go_ret
                  exact ⟨rfl, HF9.out⟩
          | false =>
            have heq : sameX p q = true := by
              rw [sameX_eq, decide_eq_true_iff]
              exact lessX_strict.tri p q ha hb
            have HLpp := Lib.hid (fun W => show Calls Try.prog 21 #[.agg Cp, .agg Cp] W fun e w' => e = .returned (.bool false) ∧ Fr (fun _ => False) W w' from by
              have h := bLessX_any p p W
              rw [lessX_strict.irr] at h
              rw [HCp.out]
              exact h)
            have HLpq := Lib.hid (fun W => show Calls Try.prog 21 #[.agg Cp, .agg Cq] W fun e w' => e = .returned (.bool false) ∧ Fr (fun _ => False) W w' from by
              have h := bLessX_any p q W
              rw [ha] at h
              rw [HCp.out, HCq.out]
              exact h)
            have HLqp := Lib.hid (fun W => show Calls Try.prog 21 #[.agg Cq, .agg Cp] W fun e w' => e = .returned (.bool false) ∧ Fr (fun _ => False) W w' from by
              have h := bLessX_any q p W
              rw [hb] at h
              rw [HCq.out, HCp.out]
              exact h)
            have EQX := Lib.hid (fun W => show (binOp .eql 25 (.agg Cp) (.agg Cq)).run Try.prog W = .ok (.bool true) W by
              rw [HCp.out, HCq.out, run_eql_path W p.h p.n q.h q.n p.hl q.hl, show sameP p.h p.n q.h q.n = true from heq])
            go_wp2_with fail
            refine wp_region_inv 43 (by kernel_rfl) (by kernel_rfl) (fun W => Fr (fun _ => False) wr W) (O10d gp gq gr Cp Cq Cr) (fun _ _ _ _ => True) (Fr (fun _ => False)) (O10d.ext gp gq gr Cp Cq Cr) (Fr.refl _ _).drew ?_ ?_
            · intro i hi o ho
              replace hi : i < 43 := hi
              obtain rfl | rfl | rfl | rfl | rfl | rfl | rfl | rfl | rfl | rfl | rfl | rfl | rfl | rfl | rfl | rfl | rfl | rfl | rfl | rfl | rfl | rfl | rfl | rfl | rfl | rfl | rfl | rfl | rfl | rfl | rfl | rfl | rfl | rfl | rfl | rfl | rfl | rfl | rfl | rfl | rfl | rfl | rfl : i = 0 ∨ i = 1 ∨ i = 2 ∨ i = 3 ∨ i = 4 ∨ i = 5 ∨ i = 6 ∨ i = 7 ∨ i = 8 ∨ i = 9 ∨ i = 10 ∨ i = 11 ∨ i = 12 ∨ i = 13 ∨ i = 14 ∨ i = 15 ∨ i = 16 ∨ i = 17 ∨ i = 18 ∨ i = 19 ∨ i = 20 ∨ i = 21 ∨ i = 22 ∨ i = 23 ∨ i = 24 ∨ i = 25 ∨ i = 26 ∨ i = 27 ∨ i = 28 ∨ i = 29 ∨ i = 30 ∨ i = 31 ∨ i = 32 ∨ i = 33 ∨ i = 34 ∨ i = 35 ∨ i = 36 ∨ i = 37 ∨ i = 38 ∨ i = 39 ∨ i = 40 ∨ i = 41 ∨ i = 42 := by omega
              · simp only [List.getElem?_cons_zero, Option.some.injEq] at ho
                subst ho
                intro a W vs hB hS hE hU
                refine wpG_plain rfl ?_
                have v4 : a.eval (.tmp 4) = .pointer (some ⟨gp, 0, none⟩) := (hU 4 (by kernel_rfl)).trans rfl
                clear hE hU
                exact wp_value_inv (w' := W) (.agg Cp) (op_loadAt rfl v4 (LDp.out W hB)) ⟨_, rfl, hB, Fr.refl _ _, rfl, fun _ _ _ _ _ => trivial⟩
              · simp only [List.getElem?_cons_zero, List.getElem?_cons_succ, Option.some.injEq] at ho
                subst ho
                intro a W vs hB hS hE hU
                refine wpG_plain rfl ?_
                have v4 : a.eval (.tmp 4) = .pointer (some ⟨gp, 0, none⟩) := (hU 4 (by kernel_rfl)).trans rfl
                clear hE hU
                exact wp_value_inv (w' := W) (.agg Cp) (op_loadAt rfl v4 (LDp.out W hB)) ⟨_, rfl, hB, Fr.refl _ _, rfl, fun _ _ _ _ _ => trivial⟩
              · simp only [List.getElem?_cons_zero, List.getElem?_cons_succ, Option.some.injEq] at ho
                subst ho
                intro a W vs hB hS hE hU
                refine wpG_plain rfl ?_
                obtain ⟨r0, e55⟩ := hE 0 55 (by kernel_rfl) (by kernel_rfl)
                have v55 : a.eval (.tmp 55) = .agg Cp := e55.trans r0
                obtain ⟨r1, e56⟩ := hE 1 56 (by kernel_rfl) (by kernel_rfl)
                have v56 : a.eval (.tmp 56) = .agg Cp := e56.trans r1
                clear hE hU
                refine wp_call_inv 21 #[.tmp 55, .tmp 56] #[25, 25] rfl #[.agg Cp, .agg Cp] (by simp only [List.map_toArray, List.map_cons, List.map_nil, v55, v56]) (bLess_enter _) (Post := fun v W' => v = .bool false ∧ Fr (fun _ => False) W W') ((HLpp.out W).mono fun e w' h => ⟨_, h.1, rfl, h.2⟩) ?_
                rintro v W' ⟨rfl, hf⟩
                exact ⟨_, rfl, hB.trans hf (fun _ h => h.elim), hf, rfl, fun _ _ _ _ _ => trivial⟩
              · simp only [List.getElem?_cons_zero, List.getElem?_cons_succ, Option.some.injEq] at ho
                subst ho
                intro a W vs hB hS hE hU
                refine wpG_plain rfl ?_
                obtain ⟨r2, e57⟩ := hE 2 57 (by kernel_rfl) (by kernel_rfl)
                have v57 : a.eval (.tmp 57) = .bool false := e57.trans r2
                clear hE hU
                exact wp_value_inv (w' := W) (.bool false) (op_move rfl v57) ⟨_, rfl, hB, Fr.refl _ _, rfl, fun _ _ _ _ _ => trivial⟩
              · simp only [List.getElem?_cons_zero, List.getElem?_cons_succ, Option.some.injEq] at ho
                subst ho
                intro a W vs hB hS hE hU
                obtain ⟨r3, e58⟩ := hE 3 58 (by kernel_rfl) (by kernel_rfl)
                have v58 : a.eval (.tmp 58) = .bool false := e58.trans r3
                refine wpG_yes 3 false 58 rfl (by kernel_rfl) (by rw [hS]; first | simp | exact Nat.le_of_ble_eq_true rfl) v58 ?_
                have v4 : a.eval (.tmp 4) = .pointer (some ⟨gp, 0, none⟩) := (hU 4 (by kernel_rfl)).trans rfl
                clear hE hU
                exact wp_value_inv (w' := W) (.agg Cp) (op_loadAt rfl v4 (LDp.out W hB)) ⟨_, rfl, hB, Fr.refl _ _, rfl, fun _ _ _ _ _ => trivial⟩
              · simp only [List.getElem?_cons_zero, List.getElem?_cons_succ, Option.some.injEq] at ho
                subst ho
                intro a W vs hB hS hE hU
                obtain ⟨r3, e58⟩ := hE 3 58 (by kernel_rfl) (by kernel_rfl)
                have v58 : a.eval (.tmp 58) = .bool false := e58.trans r3
                refine wpG_yes 3 false 58 rfl (by kernel_rfl) (by rw [hS]; first | simp | exact Nat.le_of_ble_eq_true rfl) v58 ?_
                have v5 : a.eval (.tmp 5) = .pointer (some ⟨gq, 0, none⟩) := (hU 5 (by kernel_rfl)).trans rfl
                clear hE hU
                exact wp_value_inv (w' := W) (.agg Cq) (op_loadAt rfl v5 (LDq.out W hB)) ⟨_, rfl, hB, Fr.refl _ _, rfl, fun _ _ _ _ _ => trivial⟩
              · simp only [List.getElem?_cons_zero, List.getElem?_cons_succ, Option.some.injEq] at ho
                subst ho
                intro a W vs hB hS hE hU
                obtain ⟨r3, e58⟩ := hE 3 58 (by kernel_rfl) (by kernel_rfl)
                have v58 : a.eval (.tmp 58) = .bool false := e58.trans r3
                refine wpG_yes 3 false 58 rfl (by kernel_rfl) (by rw [hS]; first | simp | exact Nat.le_of_ble_eq_true rfl) v58 ?_
                obtain ⟨r4, e59⟩ := hE 4 59 (by kernel_rfl) (by kernel_rfl)
                have v59 : a.eval (.tmp 59) = .agg Cp := e59.trans r4
                obtain ⟨r5, e60⟩ := hE 5 60 (by kernel_rfl) (by kernel_rfl)
                have v60 : a.eval (.tmp 60) = .agg Cq := e60.trans r5
                clear hE hU
                refine wp_call_inv 21 #[.tmp 59, .tmp 60] #[25, 25] rfl #[.agg Cp, .agg Cq] (by simp only [List.map_toArray, List.map_cons, List.map_nil, v59, v60]) (bLess_enter _) (Post := fun v W' => v = .bool false ∧ Fr (fun _ => False) W W') ((HLpq.out W).mono fun e w' h => ⟨_, h.1, rfl, h.2⟩) ?_
                rintro v W' ⟨rfl, hf⟩
                exact ⟨_, rfl, hB.trans hf (fun _ h => h.elim), hf, rfl, fun _ _ _ _ _ => trivial⟩
              · simp only [List.getElem?_cons_zero, List.getElem?_cons_succ, Option.some.injEq] at ho
                subst ho
                intro a W vs hB hS hE hU
                obtain ⟨r3, e58⟩ := hE 3 58 (by kernel_rfl) (by kernel_rfl)
                have v58 : a.eval (.tmp 58) = .bool false := e58.trans r3
                refine wpG_yes 3 false 58 rfl (by kernel_rfl) (by rw [hS]; first | simp | exact Nat.le_of_ble_eq_true rfl) v58 ?_
                obtain ⟨r6, e61⟩ := hE 6 61 (by kernel_rfl) (by kernel_rfl)
                have v61 : a.eval (.tmp 61) = .bool false := e61.trans r6
                clear hE hU
                exact wp_value_inv (w' := W) (.bool false) (op_move rfl v61) ⟨_, rfl, hB, Fr.refl _ _, rfl, fun _ _ _ _ _ => trivial⟩
              · simp only [List.getElem?_cons_zero, List.getElem?_cons_succ, Option.some.injEq] at ho
                subst ho
                intro a W vs hB hS hE hU
                obtain ⟨r7, e62⟩ := hE 7 62 (by kernel_rfl) (by kernel_rfl)
                have v62 : a.eval (.tmp 62) = .bool false := e62.trans r7
                exact wpG_no 7 true 62 rfl (by kernel_rfl) (by rw [hS]; first | simp | exact Nat.le_of_ble_eq_true rfl) v62 ⟨_, rfl, hB, Fr.refl _ _, rfl, fun _ _ _ _ _ => trivial⟩
              · simp only [List.getElem?_cons_zero, List.getElem?_cons_succ, Option.some.injEq] at ho
                subst ho
                intro a W vs hB hS hE hU
                obtain ⟨r7, e62⟩ := hE 7 62 (by kernel_rfl) (by kernel_rfl)
                have v62 : a.eval (.tmp 62) = .bool false := e62.trans r7
                exact wpG_no 7 true 62 rfl (by kernel_rfl) (by rw [hS]; first | simp | exact Nat.le_of_ble_eq_true rfl) v62 ⟨_, rfl, hB, Fr.refl _ _, rfl, fun _ _ _ _ _ => trivial⟩
              · simp only [List.getElem?_cons_zero, List.getElem?_cons_succ, Option.some.injEq] at ho
                subst ho
                intro a W vs hB hS hE hU
                obtain ⟨r7, e62⟩ := hE 7 62 (by kernel_rfl) (by kernel_rfl)
                have v62 : a.eval (.tmp 62) = .bool false := e62.trans r7
                exact wpG_no 7 true 62 rfl (by kernel_rfl) (by rw [hS]; first | simp | exact Nat.le_of_ble_eq_true rfl) v62 ⟨_, rfl, hB, Fr.refl _ _, rfl, fun _ _ _ _ _ => trivial⟩
              · simp only [List.getElem?_cons_zero, List.getElem?_cons_succ, Option.some.injEq] at ho
                subst ho
                intro a W vs hB hS hE hU
                obtain ⟨r3, e58⟩ := hE 3 58 (by kernel_rfl) (by kernel_rfl)
                have v58 : a.eval (.tmp 58) = .bool false := e58.trans r3
                refine wpG_yes 3 false 58 rfl (by kernel_rfl) (by rw [hS]; first | simp | exact Nat.le_of_ble_eq_true rfl) v58 ?_
                obtain ⟨r7, e62⟩ := hE 7 62 (by kernel_rfl) (by kernel_rfl)
                have v62 : a.eval (.tmp 62) = .bool false := e62.trans r7
                clear hE hU
                exact wp_value_inv (w' := W) (.bool false) (op_pick rfl v62 (by simp only [Bool.false_eq_true, if_false]; rfl)) ⟨_, rfl, hB, Fr.refl _ _, rfl, fun _ _ _ _ _ => trivial⟩
              · simp only [List.getElem?_cons_zero, List.getElem?_cons_succ, Option.some.injEq] at ho
                subst ho
                intro a W vs hB hS hE hU
                refine wpG_plain rfl ?_
                obtain ⟨r3, e58⟩ := hE 3 58 (by kernel_rfl) (by kernel_rfl)
                have v58 : a.eval (.tmp 58) = .bool false := e58.trans r3
                obtain ⟨r11, e66⟩ := hE 11 66 (by kernel_rfl) (by kernel_rfl)
                have v66 : a.eval (.tmp 66) = .bool false := e66.trans r11
                clear hE hU
                exact wp_value_inv (w' := W) (.bool false) (op_pick rfl v58 (by simp only [Bool.false_eq_true, if_false]; exact v66)) ⟨_, rfl, hB, Fr.refl _ _, rfl, fun _ _ _ _ _ => trivial⟩
              · simp only [List.getElem?_cons_zero, List.getElem?_cons_succ, Option.some.injEq] at ho
                subst ho
                intro a W vs hB hS hE hU
                refine wpG_plain rfl ?_
                obtain ⟨r12, e67⟩ := hE 12 67 (by kernel_rfl) (by kernel_rfl)
                have v67 : a.eval (.tmp 67) = .bool false := e67.trans r12
                clear hE hU
                exact wp_value_inv (w' := W) (.bool false) (op_move rfl v67) ⟨_, rfl, hB, Fr.refl _ _, rfl, fun _ _ _ _ _ => trivial⟩
              · simp only [List.getElem?_cons_zero, List.getElem?_cons_succ, Option.some.injEq] at ho
                subst ho
                intro a W vs hB hS hE hU
                obtain ⟨r13, e68⟩ := hE 13 68 (by kernel_rfl) (by kernel_rfl)
                have v68 : a.eval (.tmp 68) = .bool false := e68.trans r13
                refine wpG_yes 13 false 68 rfl (by kernel_rfl) (by rw [hS]; first | simp | exact Nat.le_of_ble_eq_true rfl) v68 ?_
                have v4 : a.eval (.tmp 4) = .pointer (some ⟨gp, 0, none⟩) := (hU 4 (by kernel_rfl)).trans rfl
                clear hE hU
                exact wp_value_inv (w' := W) (.agg Cp) (op_loadAt rfl v4 (LDp.out W hB)) ⟨_, rfl, hB, Fr.refl _ _, rfl, fun _ _ _ _ _ => trivial⟩
              · simp only [List.getElem?_cons_zero, List.getElem?_cons_succ, Option.some.injEq] at ho
                subst ho
                intro a W vs hB hS hE hU
                obtain ⟨r13, e68⟩ := hE 13 68 (by kernel_rfl) (by kernel_rfl)
                have v68 : a.eval (.tmp 68) = .bool false := e68.trans r13
                refine wpG_yes 13 false 68 rfl (by kernel_rfl) (by rw [hS]; first | simp | exact Nat.le_of_ble_eq_true rfl) v68 ?_
                have v5 : a.eval (.tmp 5) = .pointer (some ⟨gq, 0, none⟩) := (hU 5 (by kernel_rfl)).trans rfl
                clear hE hU
                exact wp_value_inv (w' := W) (.agg Cq) (op_loadAt rfl v5 (LDq.out W hB)) ⟨_, rfl, hB, Fr.refl _ _, rfl, fun _ _ _ _ _ => trivial⟩
              · simp only [List.getElem?_cons_zero, List.getElem?_cons_succ, Option.some.injEq] at ho
                subst ho
                intro a W vs hB hS hE hU
                obtain ⟨r13, e68⟩ := hE 13 68 (by kernel_rfl) (by kernel_rfl)
                have v68 : a.eval (.tmp 68) = .bool false := e68.trans r13
                refine wpG_yes 13 false 68 rfl (by kernel_rfl) (by rw [hS]; first | simp | exact Nat.le_of_ble_eq_true rfl) v68 ?_
                obtain ⟨r14, e69⟩ := hE 14 69 (by kernel_rfl) (by kernel_rfl)
                have v69 : a.eval (.tmp 69) = .agg Cp := e69.trans r14
                obtain ⟨r15, e70⟩ := hE 15 70 (by kernel_rfl) (by kernel_rfl)
                have v70 : a.eval (.tmp 70) = .agg Cq := e70.trans r15
                clear hE hU
                exact wp_value_inv (w' := W) (.bool true) (op_bin rfl v69 v70 (guard_path W _ _ _ _ _) (EQX.out W)) ⟨_, rfl, hB, Fr.refl _ _, rfl, fun _ _ _ _ _ => trivial⟩
              · simp only [List.getElem?_cons_zero, List.getElem?_cons_succ, Option.some.injEq] at ho
                subst ho
                intro a W vs hB hS hE hU
                obtain ⟨r13, e68⟩ := hE 13 68 (by kernel_rfl) (by kernel_rfl)
                have v68 : a.eval (.tmp 68) = .bool false := e68.trans r13
                refine wpG_yes 13 false 68 rfl (by kernel_rfl) (by rw [hS]; first | simp | exact Nat.le_of_ble_eq_true rfl) v68 ?_
                have v4 : a.eval (.tmp 4) = .pointer (some ⟨gp, 0, none⟩) := (hU 4 (by kernel_rfl)).trans rfl
                clear hE hU
                exact wp_value_inv (w' := W) (.agg Cp) (op_loadAt rfl v4 (LDp.out W hB)) ⟨_, rfl, hB, Fr.refl _ _, rfl, fun _ _ _ _ _ => trivial⟩
              · simp only [List.getElem?_cons_zero, List.getElem?_cons_succ, Option.some.injEq] at ho
                subst ho
                intro a W vs hB hS hE hU
                obtain ⟨r13, e68⟩ := hE 13 68 (by kernel_rfl) (by kernel_rfl)
                have v68 : a.eval (.tmp 68) = .bool false := e68.trans r13
                refine wpG_yes 13 false 68 rfl (by kernel_rfl) (by rw [hS]; first | simp | exact Nat.le_of_ble_eq_true rfl) v68 ?_
                have v5 : a.eval (.tmp 5) = .pointer (some ⟨gq, 0, none⟩) := (hU 5 (by kernel_rfl)).trans rfl
                clear hE hU
                exact wp_value_inv (w' := W) (.agg Cq) (op_loadAt rfl v5 (LDq.out W hB)) ⟨_, rfl, hB, Fr.refl _ _, rfl, fun _ _ _ _ _ => trivial⟩
              · simp only [List.getElem?_cons_zero, List.getElem?_cons_succ, Option.some.injEq] at ho
                subst ho
                intro a W vs hB hS hE hU
                obtain ⟨r13, e68⟩ := hE 13 68 (by kernel_rfl) (by kernel_rfl)
                have v68 : a.eval (.tmp 68) = .bool false := e68.trans r13
                refine wpG_yes 13 false 68 rfl (by kernel_rfl) (by rw [hS]; first | simp | exact Nat.le_of_ble_eq_true rfl) v68 ?_
                obtain ⟨r17, e72⟩ := hE 17 72 (by kernel_rfl) (by kernel_rfl)
                have v72 : a.eval (.tmp 72) = .agg Cp := e72.trans r17
                obtain ⟨r18, e73⟩ := hE 18 73 (by kernel_rfl) (by kernel_rfl)
                have v73 : a.eval (.tmp 73) = .agg Cq := e73.trans r18
                clear hE hU
                refine wp_call_inv 21 #[.tmp 72, .tmp 73] #[25, 25] rfl #[.agg Cp, .agg Cq] (by simp only [List.map_toArray, List.map_cons, List.map_nil, v72, v73]) (bLess_enter _) (Post := fun v W' => v = .bool false ∧ Fr (fun _ => False) W W') ((HLpq.out W).mono fun e w' h => ⟨_, h.1, rfl, h.2⟩) ?_
                rintro v W' ⟨rfl, hf⟩
                exact ⟨_, rfl, hB.trans hf (fun _ h => h.elim), hf, rfl, fun _ _ _ _ _ => trivial⟩
              · simp only [List.getElem?_cons_zero, List.getElem?_cons_succ, Option.some.injEq] at ho
                subst ho
                intro a W vs hB hS hE hU
                obtain ⟨r13, e68⟩ := hE 13 68 (by kernel_rfl) (by kernel_rfl)
                have v68 : a.eval (.tmp 68) = .bool false := e68.trans r13
                refine wpG_yes 13 false 68 rfl (by kernel_rfl) (by rw [hS]; first | simp | exact Nat.le_of_ble_eq_true rfl) v68 ?_
                obtain ⟨r19, e74⟩ := hE 19 74 (by kernel_rfl) (by kernel_rfl)
                have v74 : a.eval (.tmp 74) = .bool false := e74.trans r19
                clear hE hU
                exact wp_value_inv (w' := W) (.bool false) (op_move rfl v74) ⟨_, rfl, hB, Fr.refl _ _, rfl, fun _ _ _ _ _ => trivial⟩
              · simp only [List.getElem?_cons_zero, List.getElem?_cons_succ, Option.some.injEq] at ho
                subst ho
                intro a W vs hB hS hE hU
                obtain ⟨r20, e75⟩ := hE 20 75 (by kernel_rfl) (by kernel_rfl)
                have v75 : a.eval (.tmp 75) = .bool false := e75.trans r20
                refine wpG_yes 20 false 75 rfl (by kernel_rfl) (by rw [hS]; first | simp | exact Nat.le_of_ble_eq_true rfl) v75 ?_
                have v5 : a.eval (.tmp 5) = .pointer (some ⟨gq, 0, none⟩) := (hU 5 (by kernel_rfl)).trans rfl
                clear hE hU
                exact wp_value_inv (w' := W) (.agg Cq) (op_loadAt rfl v5 (LDq.out W hB)) ⟨_, rfl, hB, Fr.refl _ _, rfl, fun _ _ _ _ _ => trivial⟩
              · simp only [List.getElem?_cons_zero, List.getElem?_cons_succ, Option.some.injEq] at ho
                subst ho
                intro a W vs hB hS hE hU
                obtain ⟨r20, e75⟩ := hE 20 75 (by kernel_rfl) (by kernel_rfl)
                have v75 : a.eval (.tmp 75) = .bool false := e75.trans r20
                refine wpG_yes 20 false 75 rfl (by kernel_rfl) (by rw [hS]; first | simp | exact Nat.le_of_ble_eq_true rfl) v75 ?_
                have v4 : a.eval (.tmp 4) = .pointer (some ⟨gp, 0, none⟩) := (hU 4 (by kernel_rfl)).trans rfl
                clear hE hU
                exact wp_value_inv (w' := W) (.agg Cp) (op_loadAt rfl v4 (LDp.out W hB)) ⟨_, rfl, hB, Fr.refl _ _, rfl, fun _ _ _ _ _ => trivial⟩
              · simp only [List.getElem?_cons_zero, List.getElem?_cons_succ, Option.some.injEq] at ho
                subst ho
                intro a W vs hB hS hE hU
                obtain ⟨r20, e75⟩ := hE 20 75 (by kernel_rfl) (by kernel_rfl)
                have v75 : a.eval (.tmp 75) = .bool false := e75.trans r20
                refine wpG_yes 20 false 75 rfl (by kernel_rfl) (by rw [hS]; first | simp | exact Nat.le_of_ble_eq_true rfl) v75 ?_
                obtain ⟨r21, e76⟩ := hE 21 76 (by kernel_rfl) (by kernel_rfl)
                have v76 : a.eval (.tmp 76) = .agg Cq := e76.trans r21
                obtain ⟨r22, e77⟩ := hE 22 77 (by kernel_rfl) (by kernel_rfl)
                have v77 : a.eval (.tmp 77) = .agg Cp := e77.trans r22
                clear hE hU
                refine wp_call_inv 21 #[.tmp 76, .tmp 77] #[25, 25] rfl #[.agg Cq, .agg Cp] (by simp only [List.map_toArray, List.map_cons, List.map_nil, v76, v77]) (bLess_enter _) (Post := fun v W' => v = .bool false ∧ Fr (fun _ => False) W W') ((HLqp.out W).mono fun e w' h => ⟨_, h.1, rfl, h.2⟩) ?_
                rintro v W' ⟨rfl, hf⟩
                exact ⟨_, rfl, hB.trans hf (fun _ h => h.elim), hf, rfl, fun _ _ _ _ _ => trivial⟩
              · simp only [List.getElem?_cons_zero, List.getElem?_cons_succ, Option.some.injEq] at ho
                subst ho
                intro a W vs hB hS hE hU
                obtain ⟨r13, e68⟩ := hE 13 68 (by kernel_rfl) (by kernel_rfl)
                have v68 : a.eval (.tmp 68) = .bool false := e68.trans r13
                refine wpG_yes 13 false 68 rfl (by kernel_rfl) (by rw [hS]; first | simp | exact Nat.le_of_ble_eq_true rfl) v68 ?_
                obtain ⟨r20, e75⟩ := hE 20 75 (by kernel_rfl) (by kernel_rfl)
                have v75 : a.eval (.tmp 75) = .bool false := e75.trans r20
                obtain ⟨r23, e78⟩ := hE 23 78 (by kernel_rfl) (by kernel_rfl)
                have v78 : a.eval (.tmp 78) = .bool false := e78.trans r23
                clear hE hU
                exact wp_value_inv (w' := W) (.bool false) (op_pick rfl v75 (by simp only [Bool.false_eq_true, if_false]; exact v78)) ⟨_, rfl, hB, Fr.refl _ _, rfl, fun _ _ _ _ _ => trivial⟩
              · simp only [List.getElem?_cons_zero, List.getElem?_cons_succ, Option.some.injEq] at ho
                subst ho
                intro a W vs hB hS hE hU
                obtain ⟨r13, e68⟩ := hE 13 68 (by kernel_rfl) (by kernel_rfl)
                have v68 : a.eval (.tmp 68) = .bool false := e68.trans r13
                refine wpG_yes 13 false 68 rfl (by kernel_rfl) (by rw [hS]; first | simp | exact Nat.le_of_ble_eq_true rfl) v68 ?_
                obtain ⟨r16, e71⟩ := hE 16 71 (by kernel_rfl) (by kernel_rfl)
                have v71 : a.eval (.tmp 71) = .bool true := e71.trans r16
                obtain ⟨r24, e79⟩ := hE 24 79 (by kernel_rfl) (by kernel_rfl)
                have v79 : a.eval (.tmp 79) = .bool false := e79.trans r24
                clear hE hU
                exact wp_value_inv (w' := W) (.bool false) (op_bin rfl v71 v79 (guard_bool W _ _ _ _ _ _) (eql_tf W)) ⟨_, rfl, hB, Fr.refl _ _, rfl, fun _ _ _ _ _ => trivial⟩
              · simp only [List.getElem?_cons_zero, List.getElem?_cons_succ, Option.some.injEq] at ho
                subst ho
                intro a W vs hB hS hE hU
                refine wpG_plain rfl ?_
                obtain ⟨r13, e68⟩ := hE 13 68 (by kernel_rfl) (by kernel_rfl)
                have v68 : a.eval (.tmp 68) = .bool false := e68.trans r13
                obtain ⟨r25, e80⟩ := hE 25 80 (by kernel_rfl) (by kernel_rfl)
                have v80 : a.eval (.tmp 80) = .bool false := e80.trans r25
                clear hE hU
                exact wp_value_inv (w' := W) (.bool false) (op_pick rfl v68 (by simp only [Bool.false_eq_true, if_false]; exact v80)) ⟨_, rfl, hB, Fr.refl _ _, rfl, fun _ _ _ _ _ => trivial⟩
              · simp only [List.getElem?_cons_zero, List.getElem?_cons_succ, Option.some.injEq] at ho
                subst ho
                intro a W vs hB hS hE hU
                refine wpG_plain rfl ?_
                obtain ⟨r26, e81⟩ := hE 26 81 (by kernel_rfl) (by kernel_rfl)
                have v81 : a.eval (.tmp 81) = .bool false := e81.trans r26
                clear hE hU
                exact wp_value_inv (w' := W) (.bool false) (op_move rfl v81) ⟨_, rfl, hB, Fr.refl _ _, rfl, fun _ _ _ _ _ => trivial⟩
              · simp only [List.getElem?_cons_zero, List.getElem?_cons_succ, Option.some.injEq] at ho
                subst ho
                intro a W vs hB hS hE hU
                obtain ⟨r27, e82⟩ := hE 27 82 (by kernel_rfl) (by kernel_rfl)
                have v82 : a.eval (.tmp 82) = .bool false := e82.trans r27
                refine wpG_yes 27 false 82 rfl (by kernel_rfl) (by rw [hS]; first | simp | exact Nat.le_of_ble_eq_true rfl) v82 ?_
                have v4 : a.eval (.tmp 4) = .pointer (some ⟨gp, 0, none⟩) := (hU 4 (by kernel_rfl)).trans rfl
                clear hE hU
                exact wp_value_inv (w' := W) (.agg Cp) (op_loadAt rfl v4 (LDp.out W hB)) ⟨_, rfl, hB, Fr.refl _ _, rfl, fun _ _ _ _ _ => trivial⟩
              · simp only [List.getElem?_cons_zero, List.getElem?_cons_succ, Option.some.injEq] at ho
                subst ho
                intro a W vs hB hS hE hU
                obtain ⟨r27, e82⟩ := hE 27 82 (by kernel_rfl) (by kernel_rfl)
                have v82 : a.eval (.tmp 82) = .bool false := e82.trans r27
                refine wpG_yes 27 false 82 rfl (by kernel_rfl) (by rw [hS]; first | simp | exact Nat.le_of_ble_eq_true rfl) v82 ?_
                have v5 : a.eval (.tmp 5) = .pointer (some ⟨gq, 0, none⟩) := (hU 5 (by kernel_rfl)).trans rfl
                clear hE hU
                exact wp_value_inv (w' := W) (.agg Cq) (op_loadAt rfl v5 (LDq.out W hB)) ⟨_, rfl, hB, Fr.refl _ _, rfl, fun _ _ _ _ _ => trivial⟩
              · simp only [List.getElem?_cons_zero, List.getElem?_cons_succ, Option.some.injEq] at ho
                subst ho
                intro a W vs hB hS hE hU
                obtain ⟨r27, e82⟩ := hE 27 82 (by kernel_rfl) (by kernel_rfl)
                have v82 : a.eval (.tmp 82) = .bool false := e82.trans r27
                refine wpG_yes 27 false 82 rfl (by kernel_rfl) (by rw [hS]; first | simp | exact Nat.le_of_ble_eq_true rfl) v82 ?_
                obtain ⟨r28, e83⟩ := hE 28 83 (by kernel_rfl) (by kernel_rfl)
                have v83 : a.eval (.tmp 83) = .agg Cp := e83.trans r28
                obtain ⟨r29, e84⟩ := hE 29 84 (by kernel_rfl) (by kernel_rfl)
                have v84 : a.eval (.tmp 84) = .agg Cq := e84.trans r29
                clear hE hU
                refine wp_call_inv 21 #[.tmp 83, .tmp 84] #[25, 25] rfl #[.agg Cp, .agg Cq] (by simp only [List.map_toArray, List.map_cons, List.map_nil, v83, v84]) (bLess_enter _) (Post := fun v W' => v = .bool false ∧ Fr (fun _ => False) W W') ((HLpq.out W).mono fun e w' h => ⟨_, h.1, rfl, h.2⟩) ?_
                rintro v W' ⟨rfl, hf⟩
                exact ⟨_, rfl, hB.trans hf (fun _ h => h.elim), hf, rfl, fun _ _ _ _ _ => trivial⟩
              · simp only [List.getElem?_cons_zero, List.getElem?_cons_succ, Option.some.injEq] at ho
                subst ho
                intro a W vs hB hS hE hU
                obtain ⟨r27, e82⟩ := hE 27 82 (by kernel_rfl) (by kernel_rfl)
                have v82 : a.eval (.tmp 82) = .bool false := e82.trans r27
                refine wpG_yes 27 false 82 rfl (by kernel_rfl) (by rw [hS]; first | simp | exact Nat.le_of_ble_eq_true rfl) v82 ?_
                obtain ⟨r30, e85⟩ := hE 30 85 (by kernel_rfl) (by kernel_rfl)
                have v85 : a.eval (.tmp 85) = .bool false := e85.trans r30
                clear hE hU
                exact wp_value_inv (w' := W) (.bool false) (op_move rfl v85) ⟨_, rfl, hB, Fr.refl _ _, rfl, fun _ _ _ _ _ => trivial⟩
              · simp only [List.getElem?_cons_zero, List.getElem?_cons_succ, Option.some.injEq] at ho
                subst ho
                intro a W vs hB hS hE hU
                obtain ⟨r31, e86⟩ := hE 31 86 (by kernel_rfl) (by kernel_rfl)
                have v86 : a.eval (.tmp 86) = .bool false := e86.trans r31
                exact wpG_no 31 true 86 rfl (by kernel_rfl) (by rw [hS]; first | simp | exact Nat.le_of_ble_eq_true rfl) v86 ⟨_, rfl, hB, Fr.refl _ _, rfl, fun _ _ _ _ _ => trivial⟩
              · simp only [List.getElem?_cons_zero, List.getElem?_cons_succ, Option.some.injEq] at ho
                subst ho
                intro a W vs hB hS hE hU
                obtain ⟨r31, e86⟩ := hE 31 86 (by kernel_rfl) (by kernel_rfl)
                have v86 : a.eval (.tmp 86) = .bool false := e86.trans r31
                exact wpG_no 31 true 86 rfl (by kernel_rfl) (by rw [hS]; first | simp | exact Nat.le_of_ble_eq_true rfl) v86 ⟨_, rfl, hB, Fr.refl _ _, rfl, fun _ _ _ _ _ => trivial⟩
              · simp only [List.getElem?_cons_zero, List.getElem?_cons_succ, Option.some.injEq] at ho
                subst ho
                intro a W vs hB hS hE hU
                obtain ⟨r31, e86⟩ := hE 31 86 (by kernel_rfl) (by kernel_rfl)
                have v86 : a.eval (.tmp 86) = .bool false := e86.trans r31
                exact wpG_no 31 true 86 rfl (by kernel_rfl) (by rw [hS]; first | simp | exact Nat.le_of_ble_eq_true rfl) v86 ⟨_, rfl, hB, Fr.refl _ _, rfl, fun _ _ _ _ _ => trivial⟩
              · simp only [List.getElem?_cons_zero, List.getElem?_cons_succ, Option.some.injEq] at ho
                subst ho
                intro a W vs hB hS hE hU
                obtain ⟨r27, e82⟩ := hE 27 82 (by kernel_rfl) (by kernel_rfl)
                have v82 : a.eval (.tmp 82) = .bool false := e82.trans r27
                refine wpG_yes 27 false 82 rfl (by kernel_rfl) (by rw [hS]; first | simp | exact Nat.le_of_ble_eq_true rfl) v82 ?_
                obtain ⟨r31, e86⟩ := hE 31 86 (by kernel_rfl) (by kernel_rfl)
                have v86 : a.eval (.tmp 86) = .bool false := e86.trans r31
                clear hE hU
                exact wp_value_inv (w' := W) (.bool false) (op_pick rfl v86 (by simp only [Bool.false_eq_true, if_false]; rfl)) ⟨_, rfl, hB, Fr.refl _ _, rfl, fun _ _ _ _ _ => trivial⟩
              · simp only [List.getElem?_cons_zero, List.getElem?_cons_succ, Option.some.injEq] at ho
                subst ho
                intro a W vs hB hS hE hU
                obtain ⟨r27, e82⟩ := hE 27 82 (by kernel_rfl) (by kernel_rfl)
                have v82 : a.eval (.tmp 82) = .bool false := e82.trans r27
                refine wpG_yes 27 false 82 rfl (by kernel_rfl) (by rw [hS]; first | simp | exact Nat.le_of_ble_eq_true rfl) v82 ?_
                obtain ⟨r35, e90⟩ := hE 35 90 (by kernel_rfl) (by kernel_rfl)
                have v90 : a.eval (.tmp 90) = .bool false := e90.trans r35
                clear hE hU
                exact wp_value_inv (w' := W) (.bool false) (op_move rfl v90) ⟨_, rfl, hB, Fr.refl _ _, rfl, fun _ _ _ _ _ => trivial⟩
              · simp only [List.getElem?_cons_zero, List.getElem?_cons_succ, Option.some.injEq] at ho
                subst ho
                intro a W vs hB hS hE hU
                obtain ⟨r36, e91⟩ := hE 36 91 (by kernel_rfl) (by kernel_rfl)
                have v91 : a.eval (.tmp 91) = .bool false := e91.trans r36
                exact wpG_no 36 true 91 rfl (by kernel_rfl) (by rw [hS]; first | simp | exact Nat.le_of_ble_eq_true rfl) v91 ⟨_, rfl, hB, Fr.refl _ _, rfl, fun _ _ _ _ _ => trivial⟩
              · simp only [List.getElem?_cons_zero, List.getElem?_cons_succ, Option.some.injEq] at ho
                subst ho
                intro a W vs hB hS hE hU
                obtain ⟨r36, e91⟩ := hE 36 91 (by kernel_rfl) (by kernel_rfl)
                have v91 : a.eval (.tmp 91) = .bool false := e91.trans r36
                exact wpG_no 36 true 91 rfl (by kernel_rfl) (by rw [hS]; first | simp | exact Nat.le_of_ble_eq_true rfl) v91 ⟨_, rfl, hB, Fr.refl _ _, rfl, fun _ _ _ _ _ => trivial⟩
              · simp only [List.getElem?_cons_zero, List.getElem?_cons_succ, Option.some.injEq] at ho
                subst ho
                intro a W vs hB hS hE hU
                obtain ⟨r36, e91⟩ := hE 36 91 (by kernel_rfl) (by kernel_rfl)
                have v91 : a.eval (.tmp 91) = .bool false := e91.trans r36
                exact wpG_no 36 true 91 rfl (by kernel_rfl) (by rw [hS]; first | simp | exact Nat.le_of_ble_eq_true rfl) v91 ⟨_, rfl, hB, Fr.refl _ _, rfl, fun _ _ _ _ _ => trivial⟩
              · simp only [List.getElem?_cons_zero, List.getElem?_cons_succ, Option.some.injEq] at ho
                subst ho
                intro a W vs hB hS hE hU
                obtain ⟨r36, e91⟩ := hE 36 91 (by kernel_rfl) (by kernel_rfl)
                have v91 : a.eval (.tmp 91) = .bool false := e91.trans r36
                exact wpG_no 36 true 91 rfl (by kernel_rfl) (by rw [hS]; first | simp | exact Nat.le_of_ble_eq_true rfl) v91 ⟨_, rfl, hB, Fr.refl _ _, rfl, fun _ _ _ _ _ => trivial⟩
              · simp only [List.getElem?_cons_zero, List.getElem?_cons_succ, Option.some.injEq] at ho
                subst ho
                intro a W vs hB hS hE hU
                obtain ⟨r27, e82⟩ := hE 27 82 (by kernel_rfl) (by kernel_rfl)
                have v82 : a.eval (.tmp 82) = .bool false := e82.trans r27
                refine wpG_yes 27 false 82 rfl (by kernel_rfl) (by rw [hS]; first | simp | exact Nat.le_of_ble_eq_true rfl) v82 ?_
                obtain ⟨r36, e91⟩ := hE 36 91 (by kernel_rfl) (by kernel_rfl)
                have v91 : a.eval (.tmp 91) = .bool false := e91.trans r36
                clear hE hU
                exact wp_value_inv (w' := W) (.bool false) (op_pick rfl v91 (by simp only [Bool.false_eq_true, if_false]; rfl)) ⟨_, rfl, hB, Fr.refl _ _, rfl, fun _ _ _ _ _ => trivial⟩
              · simp only [List.getElem?_cons_zero, List.getElem?_cons_succ, Option.some.injEq] at ho
                subst ho
                intro a W vs hB hS hE hU
                refine wpG_plain rfl ?_
                obtain ⟨r27, e82⟩ := hE 27 82 (by kernel_rfl) (by kernel_rfl)
                have v82 : a.eval (.tmp 82) = .bool false := e82.trans r27
                obtain ⟨r41, e96⟩ := hE 41 96 (by kernel_rfl) (by kernel_rfl)
                have v96 : a.eval (.tmp 96) = .bool false := e96.trans r41
                clear hE hU
                exact wp_value_inv (w' := W) (.bool false) (op_pick rfl v82 (by simp only [Bool.false_eq_true, if_false]; exact v96)) ⟨_, rfl, hB, Fr.refl _ _, rfl, fun _ _ _ _ _ => trivial⟩
            · intro vs Wa hB0 hR0 hD
              have rL : vs 42 = .bool false := hR0 42 (by decide)
              have HB := Lib.hid hB0
              clear hR0 hD hB0
              simp only [acts, if_true, dstAt, List.getElem?_cons_zero, List.getElem?_cons_succ, Option.bind_some, Act.put, List.setIfInBounds_toArray, List.set_cons_succ, List.set_cons_zero, List.drop_succ_cons, List.drop_nil]
              simp only [rL]
              clear rL
              have HF2 := Lib.hid (HF.out.trans HB.out (fun _ h => h.elim))
              have HP2 := Lib.hid (show PathsIn (fun k => k < Wa.heap.size) Wa (.slice ao n cap) L from (HV.out.keep HF2.out (fun _ _ _ h => h)).mono (fun k h _ => h))
              go_wp2_with (go_at_call 19; refine (HSO.out _ _ HP2.out).mono ?_; rintro e w6 ⟨u6, M, rfl, hp6, ha6, hm6, hf6⟩; (have HP6 := Lib.hid hp6); obtain ⟨a6, c6, rfl, hl6, hcm6, _, hr6⟩ := hp6; (have HR6 := Lib.hid hr6); (have HA6 := Lib.hid ha6); (have HM6 := Lib.hid hm6); (have HF6 := Lib.hid (HF2.out.trans hf6 (fun _ h => h.elim))); clear hr6 ha6 hm6 hf6)
              have hml : M.length ≤ 1000000 := by
                have h := nodup_le (HA6.out.nodup lessX_strict) (fun x hx => (HM6.out x).1 hx)
                have := HL6.out
                omega
              unfold maxLen at hcm6
              have H06 := Lib.hid (Fr.refl (fun _ => False) w6)
              go_loopw [12] (fun iv wr => ∃ kx : Nat, 1 ≤ kx ∧ kx ≤ M.length + 1 ∧ iv = .int .i64 kx ∧ Hid (Fr (fun _ => False) w6 wr)) (fun iv _ => M.length + 1 - (intOf iv).toNat)
              case atStart => exact ⟨1, by omega, by omega, rfl, H06⟩
              case round =>
                clear H06
                obtain ⟨kx, hk1, hk2, rfl, HG⟩ := hrel
                by_cases hlt : kx < M.length
                · have hd : decide ((kx : Int) < (M.length : Int)) = true := by rw [decide_eq_true_iff]; omega
                  have hM : M ≠ [] := by rintro rfl; simp at hlt
                  obtain ⟨b6, o6, rfl, _, hg6⟩ := HR6.out hM
                  obtain ⟨y, hy⟩ : ∃ y, y = M[kx - 1]'(by omega) := ⟨_, rfl⟩
                  obtain ⟨x, hx⟩ : ∃ x, x = M[kx] := ⟨_, rfl⟩
                  have hry := HG.out.range (hg6 (kx - 1) (by omega)) (fun h => h)
                  have hrx := HG.out.range (hg6 kx hlt) (fun h => h)
                  have hyx : lessX y x = true := by rw [hy, hx]; exact List.pairwise_iff_getElem.1 HA6.out (kx - 1) kx (by omega) hlt (by omega)
                  rw [← hy] at hry
                  rw [← hx] at hrx
                  obtain ⟨CX, hCX⟩ : ∃ C, C = pathC x.h x.n := ⟨_, rfl⟩
                  obtain ⟨CY, hCY⟩ : ∃ C, C = pathC y.h y.n := ⟨_, rfl⟩
                  have LDX := Lib.hid (fun W (hW : Fr (fun _ => False) wr W) => show (Instr.loadAt 25 (.pointer (some ⟨b6, o6 + kx * 21, none⟩))).run Try.prog W = .ok (.agg CX) W by rw [hCX]; exact load_mid_path W b6 _ x (hW.range hrx (fun h => h)))
                  have LDY := Lib.hid (fun W (hW : Fr (fun _ => False) wr W) => show (Instr.loadAt 25 (.pointer (some ⟨b6, o6 + (kx - 1) * 21, none⟩))).run Try.prog W = .ok (.agg CY) W by rw [hCY]; exact load_mid_path W b6 _ y (hW.range hry (fun h => h)))
                  have HLS := Lib.hid (fun W => show Calls Try.prog 21 #[.agg CY, .agg CX] W fun e w' => e = .returned (.bool true) ∧ Fr (fun _ => False) W w' from by
                    have h := bLessX_any y x W
                    rw [hyx, ← hCX, ← hCY] at h
                    exact h)
                  have ES := Lib.hid (fun W => run_one_less W kx (by omega) (by omega))
                  have HK1 := Lib.hid (show kx - 1 < M.length by omega)
                  have HIN := Lib.hid hlt
                  clear hM hg6 hy hx hry hrx hyx hCX hCY
                  go_wp2_with fail
                  refine wp_region_inv 11 (by kernel_rfl) (by kernel_rfl) (fun W => Fr (fun _ => False) wr W) (O16 b6 o6 c6 M.length kx CX CY) (fun _ _ _ _ => True) (Fr (fun _ => False)) (O16.ext b6 o6 c6 M.length kx CX CY) (Fr.refl _ _).drew ?_ ?_
                  · intro i hi o ho
                    replace hi : i < 11 := hi
                    obtain rfl | rfl | rfl | rfl | rfl | rfl | rfl | rfl | rfl | rfl | rfl : i = 0 ∨ i = 1 ∨ i = 2 ∨ i = 3 ∨ i = 4 ∨ i = 5 ∨ i = 6 ∨ i = 7 ∨ i = 8 ∨ i = 9 ∨ i = 10 := by omega
                    · simp only [List.getElem?_cons_zero, Option.some.injEq] at ho
                      subst ho
                      intro a W vs hB hS hE hU
                      refine wpG_plain rfl ?_
                      have v11 : a.eval (.tmp 11) = .slice (some ⟨b6, o6, none⟩) M.length c6 := (hU 11 (by kernel_rfl)).trans rfl
                      clear hE hU
                      exact wp_value_inv (w' := W) (.slice (some ⟨b6, o6, none⟩) M.length c6) (op_move rfl v11) ⟨_, rfl, hB, Fr.refl _ _, rfl, fun _ _ _ _ _ => trivial⟩
                    · simp only [List.getElem?_cons_zero, List.getElem?_cons_succ, Option.some.injEq] at ho
                      subst ho
                      intro a W vs hB hS hE hU
                      refine wpG_plain rfl ?_
                      have v12 : a.eval (.tmp 12) = .int .i64 (kx : Int) := (hU 12 (by kernel_rfl)).trans rfl
                      clear hE hU
                      exact wp_value_inv (w' := W) (.int .i64 (kx : Int)) (op_move rfl v12) ⟨_, rfl, hB, Fr.refl _ _, rfl, fun _ _ _ _ _ => trivial⟩
                    · simp only [List.getElem?_cons_zero, List.getElem?_cons_succ, Option.some.injEq] at ho
                      subst ho
                      intro a W vs hB hS hE hU
                      refine wpG_plain rfl ?_
                      obtain ⟨r1, e107⟩ := hE 1 107 (by kernel_rfl) (by kernel_rfl)
                      have v107 : a.eval (.tmp 107) = .int .i64 (kx : Int) := e107.trans r1
                      clear hE hU
                      exact wp_value_inv (w' := W) (.int .i64 ((kx - 1 : Nat) : Int)) (op_bin rfl v107 (rfl : a.eval (.const (.int .i64 1)) = _) (guard_int W _ _ _ _ _ _ _) (ES.out W)) ⟨_, rfl, hB, Fr.refl _ _, rfl, fun _ _ _ _ _ => trivial⟩
                    · simp only [List.getElem?_cons_zero, List.getElem?_cons_succ, Option.some.injEq] at ho
                      subst ho
                      intro a W vs hB hS hE hU
                      refine wpG_plain rfl ?_
                      obtain ⟨r0, e106⟩ := hE 0 106 (by kernel_rfl) (by kernel_rfl)
                      have v106 : a.eval (.tmp 106) = .slice (some ⟨b6, o6, none⟩) M.length c6 := e106.trans r0
                      obtain ⟨r2, e108⟩ := hE 2 108 (by kernel_rfl) (by kernel_rfl)
                      have v108 : a.eval (.tmp 108) = .int .i64 ((kx - 1 : Nat) : Int) := e108.trans r2
                      clear hE hU
                      exact wp_value_inv (w' := W) (.pointer (some ⟨b6, o6 + (kx - 1) * 21, none⟩)) (op_indexAddr rfl v106 v108 (run_index_paths W b6 o6 M.length c6 (kx - 1) HK1.out)) ⟨_, rfl, hB, Fr.refl _ _, rfl, fun _ _ _ _ _ => trivial⟩
                    · simp only [List.getElem?_cons_zero, List.getElem?_cons_succ, Option.some.injEq] at ho
                      subst ho
                      intro a W vs hB hS hE hU
                      refine wpG_plain rfl ?_
                      obtain ⟨r3, e109⟩ := hE 3 109 (by kernel_rfl) (by kernel_rfl)
                      have v109 : a.eval (.tmp 109) = .pointer (some ⟨b6, o6 + (kx - 1) * 21, none⟩) := e109.trans r3
                      clear hE hU
                      exact wp_value_inv (w' := W) (.agg CY) (op_loadAt rfl v109 (LDY.out W hB)) ⟨_, rfl, hB, Fr.refl _ _, rfl, fun _ _ _ _ _ => trivial⟩
                    · simp only [List.getElem?_cons_zero, List.getElem?_cons_succ, Option.some.injEq] at ho
                      subst ho
                      intro a W vs hB hS hE hU
                      refine wpG_plain rfl ?_
                      have v11 : a.eval (.tmp 11) = .slice (some ⟨b6, o6, none⟩) M.length c6 := (hU 11 (by kernel_rfl)).trans rfl
                      clear hE hU
                      exact wp_value_inv (w' := W) (.slice (some ⟨b6, o6, none⟩) M.length c6) (op_move rfl v11) ⟨_, rfl, hB, Fr.refl _ _, rfl, fun _ _ _ _ _ => trivial⟩
                    · simp only [List.getElem?_cons_zero, List.getElem?_cons_succ, Option.some.injEq] at ho
                      subst ho
                      intro a W vs hB hS hE hU
                      refine wpG_plain rfl ?_
                      have v12 : a.eval (.tmp 12) = .int .i64 (kx : Int) := (hU 12 (by kernel_rfl)).trans rfl
                      clear hE hU
                      exact wp_value_inv (w' := W) (.int .i64 (kx : Int)) (op_move rfl v12) ⟨_, rfl, hB, Fr.refl _ _, rfl, fun _ _ _ _ _ => trivial⟩
                    · simp only [List.getElem?_cons_zero, List.getElem?_cons_succ, Option.some.injEq] at ho
                      subst ho
                      intro a W vs hB hS hE hU
                      refine wpG_plain rfl ?_
                      obtain ⟨r5, e111⟩ := hE 5 111 (by kernel_rfl) (by kernel_rfl)
                      have v111 : a.eval (.tmp 111) = .slice (some ⟨b6, o6, none⟩) M.length c6 := e111.trans r5
                      obtain ⟨r6, e112⟩ := hE 6 112 (by kernel_rfl) (by kernel_rfl)
                      have v112 : a.eval (.tmp 112) = .int .i64 (kx : Int) := e112.trans r6
                      clear hE hU
                      exact wp_value_inv (w' := W) (.pointer (some ⟨b6, o6 + kx * 21, none⟩)) (op_indexAddr rfl v111 v112 (run_index_paths W b6 o6 M.length c6 kx HIN.out)) ⟨_, rfl, hB, Fr.refl _ _, rfl, fun _ _ _ _ _ => trivial⟩
                    · simp only [List.getElem?_cons_zero, List.getElem?_cons_succ, Option.some.injEq] at ho
                      subst ho
                      intro a W vs hB hS hE hU
                      refine wpG_plain rfl ?_
                      obtain ⟨r7, e113⟩ := hE 7 113 (by kernel_rfl) (by kernel_rfl)
                      have v113 : a.eval (.tmp 113) = .pointer (some ⟨b6, o6 + kx * 21, none⟩) := e113.trans r7
                      clear hE hU
                      exact wp_value_inv (w' := W) (.agg CX) (op_loadAt rfl v113 (LDX.out W hB)) ⟨_, rfl, hB, Fr.refl _ _, rfl, fun _ _ _ _ _ => trivial⟩
                    · simp only [List.getElem?_cons_zero, List.getElem?_cons_succ, Option.some.injEq] at ho
                      subst ho
                      intro a W vs hB hS hE hU
                      refine wpG_plain rfl ?_
                      obtain ⟨r4, e110⟩ := hE 4 110 (by kernel_rfl) (by kernel_rfl)
                      have v110 : a.eval (.tmp 110) = .agg CY := e110.trans r4
                      obtain ⟨r8, e114⟩ := hE 8 114 (by kernel_rfl) (by kernel_rfl)
                      have v114 : a.eval (.tmp 114) = .agg CX := e114.trans r8
                      clear hE hU
                      refine wp_call_inv 21 #[.tmp 110, .tmp 114] #[25, 25] rfl #[.agg CY, .agg CX] (by simp only [List.map_toArray, List.map_cons, List.map_nil, v110, v114]) (bLess_enter _) (Post := fun v W' => v = .bool true ∧ Fr (fun _ => False) W W') ((HLS.out W).mono fun e w' h => ⟨_, h.1, rfl, h.2⟩) ?_
                      rintro v W' ⟨rfl, hf⟩
                      exact ⟨_, rfl, hB.trans hf (fun _ h => h.elim), hf, rfl, fun _ _ _ _ _ => trivial⟩
                    · simp only [List.getElem?_cons_zero, List.getElem?_cons_succ, Option.some.injEq] at ho
                      subst ho
                      intro a W vs hB hS hE hU
                      refine wpG_plain rfl ?_
                      obtain ⟨r9, e115⟩ := hE 9 115 (by kernel_rfl) (by kernel_rfl)
                      have v115 : a.eval (.tmp 115) = .bool true := e115.trans r9
                      clear hE hU
                      exact wp_value_inv (w' := W) (.bool false) (op_unop rfl v115 (by rfl)) ⟨_, rfl, hB, Fr.refl _ _, rfl, fun _ _ _ _ _ => trivial⟩
                  · intro vs Wb hB0 hR0 hD
                    have rL : vs 10 = .bool false := hR0 10 (by decide)
                    have HB := Lib.hid hB0
                    clear hR0 hD hB0
                    simp only [acts, if_true, dstAt, List.getElem?_cons_zero, List.getElem?_cons_succ, Option.bind_some, Act.put, List.setIfInBounds_toArray, List.set_cons_succ, List.set_cons_zero, List.drop_succ_cons, List.drop_nil]
                    simp only [rL]
                    clear rL
                    have HG2 := Lib.hid (HG.out.trans HB.out (fun _ h => h.elim))
                    go_wp2
                    go_roundw
                    case rel => exact ⟨kx + 1, by omega, by omega, by go_num, HG2⟩
                    case measure => simp [intOf]; omega
                · have hd : decide ((kx : Int) < (M.length : Int)) = false := by rw [decide_eq_false_iff_not]; omega
                  have HF7 := Lib.hid (HF6.out.trans HG.out (fun _ h => h.elim))
                  have HPL := Lib.hid (HV.out.keep HF7.out (fun _ _ _ h => h))
                  have HPM := Lib.hid (HP6.out.keep HG.out (fun _ _ _ h => h))
                  have HW1 := Lib.hid (fun (W : World) (hf : Fr (fun _ => False) wr W) => within_any W _ _ L M (HPL.out.keep hf (fun _ _ _ h => h)) (HPM.out.keep hf (fun _ _ _ h => h)) (by have := HL6.out; omega) hml (fun x hx => (HM6.out x).2 hx))
                  have HW2 := Lib.hid (fun (W : World) (hf : Fr (fun _ => False) wr W) => within_any W _ _ M L (HPM.out.keep hf (fun _ _ _ h => h)) (HPL.out.keep hf (fun _ _ _ h => h)) hml (by have := HL6.out; omega) (fun x hx => (HM6.out x).1 hx))
                  go_wp2_with (first
                    | (go_at_call 23; (with_reducible refine (HW1.out _ (Fr.refl _ _)).mono ?_); rintro e w8 ⟨rfl, hf8⟩; (have HF8 := Lib.hid hf8); clear hf8)
                    | (go_at_call 23; (with_reducible refine (HW2.out _ HF8.out).mono ?_); rintro e w9 ⟨rfl, hf9⟩; (have HF9 := Lib.hid ((HF7.out.trans HF8.out (fun _ h => h.elim)).trans hf9 (fun _ h => h.elim))); clear hf9))
                  go_ret
                  exact ⟨rfl, HF9.out⟩
end Go.Proofs.Ytdmlalnekjihfaa
