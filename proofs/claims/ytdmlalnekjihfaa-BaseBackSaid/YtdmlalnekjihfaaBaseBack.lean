/- Contract of spencelaw03.BaseBack. -/
import Derived.Test.YtdmlalnekjihfaaBackyy
import Derived.Test.YtdmlalnekjihfaaBackyn
import Derived.Test.YtdmlalnekjihfaaBackny
import Derived.Test.YtdmlalnekjihfaaBacknn
namespace Go.Proofs.Ytdmlalnekjihfaa
open Go.RowKit Go.ChangeShapes
set_option linter.unusedVariables false

set_option maxRecDepth 100000 in
set_option maxHeartbeats 2000000 in
theorem baseBack_any (Hp Hq : List UInt8) (Np Nq s : ByteArray) (hp : Hp.length = 20) (hq : Hq.length = 20) (hNp : Np.size ≤ 140737488351232) (hNq : Nq.size ≤ 140737488351232) (hs : s.size ≤ 140737488351232) (w : World) :
    Calls Try.prog 6 #[.agg (pathC Hp Np), .agg (pathC Hq Nq), .string s] w fun e w' => e = .returned (.bool true) ∧ Fr (fun _ => False) w w' := by
  by_cases hlong : s.size + Np.size + Nq.size ≤ 2000
  · cases hnp : nameB Np.data.toList with
    | true =>
      cases hps : parseOk s.data.toList with
      | true => exact back_yy Hp Hq Np Nq s hp hq hNp hNq hs w hnp hps hlong
      | false => exact back_yn Hp Hq Np Nq s hp hq hNp hNq hs w hnp hps hlong
    | false =>
      cases hps : parseOk s.data.toList with
      | true => exact back_ny Hp Hq Np Nq s hp hq hNp hNq hs w hnp hps hlong
      | false => exact back_nn Hp Hq Np Nq s hp hq hNp hNq hs w hnp hps hlong
  · have hd : decide (2000 < (s.size : Int) + (Np.size : Int) + (Nq.size : Int)) = true := by rw [decide_eq_true_iff]; omega
    obtain ⟨Cp, hCp⟩ : ∃ C, C = pathC Hp Np := ⟨_, rfl⟩
    obtain ⟨Cq, hCq⟩ : ∃ C, C = pathC Hq Nq := ⟨_, rfl⟩
    have HAW := Lib.hid (fun W => awake_any W)
    have NP := Lib.hid (fun (W : World) (h : W.heap[w.heap.size]? = some (.cells Cp 25 (0, 0))) => show W.cell? ⟨w.heap.size, 20, none⟩ = some (.string Np) by rw [hCp] at h; exact PathT.name (H := Hp) h hp)
    have NQ := Lib.hid (fun (W : World) (h : W.heap[w.heap.size + 1]? = some (.cells Cq 25 (0, 0))) => show W.cell? ⟨w.heap.size + 1, 20, none⟩ = some (.string Nq) by rw [hCq] at h; exact PathT.name (H := Hq) h hq)
    have HK0 := Lib.hid (show Fr (fun _ => False) w ((w.alloc (.cells Cp 25)).alloc (.cells Cq 25)) ∧ Rows ((w.alloc (.cells Cp 25)).alloc (.cells Cq 25)) [(w.heap.size, Cp, 25), (w.heap.size + 1, Cq, 25)] from
      ⟨((Fr.refl _ _).alloc _).alloc _, fun x hx => by
        rcases List.mem_cons.1 hx with rfl | hx
        · exact heap_alloc2_old w _ _
        · obtain rfl := List.mem_singleton.1 hx
          exact heap_alloc2_new w _ _⟩)
    rw [← hCp, ← hCq]
    clear hCp hCq hp hq hlong
    go_enter Try.func6, Try.ntmps6
    go_wp2_with (go_at_call 8; refine (HAW.out _).mono ?_; rintro e w1 ⟨rfl, hf⟩; have HK1 := Lib.hid (And.intro (HK0.out.1.trans hf (fun _ h => h.elim)) (HK0.out.2.keep hf)); clear hf; have hnp1 := NP.out w1 (HK1.out.2.nth 0 w.heap.size Cp 25 rfl); have hnq1 := NQ.out w1 (HK1.out.2.nth 1 (w.heap.size + 1) Cq 25 rfl))
    go_ret
    exact ⟨rfl, HK1.out.1⟩
end Go.Proofs.Ytdmlalnekjihfaa
