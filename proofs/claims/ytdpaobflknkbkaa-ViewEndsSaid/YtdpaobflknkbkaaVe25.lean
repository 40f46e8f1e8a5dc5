/- Laid together: VRn -/
import Derived.Test.YtdpaobflknkbkaaVe24

namespace Go.Proofs.Ytdpaobflknkbkaa
open Go.RowKit Go.ChangeShapes
set_option linter.unusedVariables false
theorem rowE_len (q : Bs × (Value × Bs)) : (rowE q).length = 2 := rfl
theorem OwnB.empty9 (w : World) : OwnB (fun k => w.heap.size ≤ k) (w.alloc (.cells #[] 5)) (.slice (some ⟨w.heap.size, 0, none⟩) 0 0) [] :=
  ⟨⟨rfl, .inr ⟨w.heap.size, 0, #[], rfl, Nat.zero_le _, heap_alloc_new w _, Nat.le_refl _, by simp [maxLen], rfl, rfl⟩⟩, fun g h => by simp [Value.ownBlock] at h; omega⟩
theorem op_aRow (o : Oper) (a : Act) (w : World) (h : o.op = .alloc 73) : (execOp a.eval o).run Try.prog w = .ok (.value (.pointer (some ⟨w.heap.size, 0, none⟩))) (w.alloc (.cells #[.string ⟨#[]⟩, .slice none 0 0] 73)) := by
  unfold execOp
  rw [h]
  kernel_rfl
theorem rowK_build {w : World} {o : Oper} {a : Act} {N : ByteArray} {aa : Option Addr} {n c : Nat} {x y : Operand} (h1 : o.op = .build 73 #[(0, x), (1, y)]) (h2 : a.eval x = .string N) (h3 : a.eval y = .slice aa n c) : (execOp a.eval o).run Try.prog w = .ok (.value (.agg #[.string N, .slice aa n c])) w :=
  op_build h1 (by simp [h2, h3]) (row_built N aa n c)
theorem BytesIn.oneC {F : Nat → Prop} {w : World} {v : Value} {L : List UInt8} (h : BytesIn F w v L) : v.oneCell' = true := by
  obtain ⟨a, c, rfl, _⟩ := h
  rfl
section
variable {F G : Nat → Prop} {w : World} {g u : Nat} {s : VS}
set_option maxRecDepth 100000
set_option maxHeartbeats 4000000
theorem rnote_any (h : RvAt F w g u s) (hp0 : Pl s) (who : Int) (N : ByteArray) (hN : N.size ≤ 140737488351232) (yv : Value) (B : Bs) (hB : BytesIn G w yv B) (hBl : B.length ≤ 140737488355328) : Calls Try.prog 44 #[.pointer (some ⟨g, 0, none⟩), .int .i64 who, .string N, yv] w fun e w' => e = .returned (.int .i64 (noteE s who N.data.toList B)) ∧ RvAt (newF F w w') w' g u (noteS s who N.data.toList B) ∧ Fr (fun k => k = u) w w' := by
  obtain ⟨ya, yc, rfl, hy⟩ := id hB
  obtain ⟨y, hyl⟩ : ∃ y, y = B.length := ⟨_, rfl⟩
  rw [← hyl] at hB ⊢
  obtain ⟨W1, hW1⟩ : ∃ W1, W1 = w := ⟨_, rfl⟩
  have hf1 : Fr (fun _ => False) w W1 := by rw [hW1]; exact Fr.refl _ _
  have HW := Lib.hid (And.intro hW1 (And.intro hf1 (And.intro True.intro h)))
  have hNs : N.size = N.data.toList.length := by simp
  obtain ⟨ns, hns⟩ : ∃ ns, ns = N.size := ⟨_, rfl⟩
  have hn0 : ns ≤ 140737488351232 := by rw [hns]; exact hN
  by_cases hu : isUser s who
  · have HI := Lib.hid (is_yes h who hu)
    by_cases hk : 1 ≤ N.data.toList.length ∧ N.data.toList.length ≤ 62
    · by_cases hv : B.length ≤ 2048
      · obtain ⟨i, hwi, hi⟩ := user_at hu
        have hE : noteE s who N.data.toList B = (if vGet (s.N who) N.data.toList = none ∧ s.Q[i].n ≤ ((s.N who).length : Int) then 8 else 0) := by
          unfold noteE
          rw [if_pos hu, if_pos hk, if_pos hv, hwi, quota_at hi]
        have h1 : RvAt F W1 g u s := h.quiet hf1
        obtain ⟨c, r1, r2, r3⟩ := h1.row
        have c0 := cell_of_one r1
        obtain ⟨rv, nv, l, hr, hel, hnt, hnl⟩ := (h1.us i hi).ex
        rw [← hwi] at hnl
        obtain ⟨M, hM⟩ : ∃ M, M = l.map ntP := ⟨_, rfl⟩
        have hMV : M.map ntV = s.N who := by rw [hM, ntV_ntP, hnl]
        have hMO : VOk M := by
          have h9 := hp0.N who
          rw [← hMV] at h9
          exact VOk.unmap Prod.snd h9
        have hrc' := hnt.el
        rw [← rowE_ntP, ← hM] at hrc'
        obtain ⟨ra, rc, rfl⟩ : ∃ ra rc, nv = .slice ra M.length rc := by
          obtain ⟨ao, cap, hv, _⟩ := hrc'
          exact ⟨ao, cap, by rw [hv, List.length_map]⟩
        obtain ⟨na, nn, nc, rfl⟩ : ∃ na nn nc, rv = .slice na nn nc := by
          obtain ⟨ao, cap, hv, _⟩ := hel
          exact ⟨ao, _, cap, hv⟩
        obtain ⟨_, _, hrc, b3, f3, hra, hrg⟩ := hrc'.rng
        obtain ⟨n, hn⟩ : ∃ n, n = s.Q.length := ⟨_, rfl⟩
        obtain ⟨m, hm⟩ : ∃ m, m = M.length := ⟨_, rfl⟩
        obtain ⟨q, hq⟩ : ∃ q, q = s.Q[i] := ⟨_, rfl⟩
        rw [← hn] at c0 r1
        rw [← hm] at hra hr
        rw [← hq] at hr hE
        have hlens := hp0.lens hi
        rw [← hwi, ← hMV, List.length_map, ← hm] at hlens
        have hm100 : m ≤ 400 := hlens.2.1
        have hi2 : (i : Int) < (n : Int) := by omega
        have hw1 : IntKind.i64.wrap (who - 1) = (i : Int) := by rw [show (who - 1) = (i : Int) by omega]; exact wrap_in5 (by omega) (by omega)
        have hi0 : (0 : Int) ≤ (i : Int) := by omega
        obtain ⟨UL, hUL⟩ : ∃ UL, UL = usL q (.slice na nn nc) (.slice ra m rc) := ⟨_, rfl⟩
        have HLU := Lib.hid (fun (oo : Oper) (a : Act) (e1 : oo.op = .load 87 (.tmp 35)) (e2 : a.eval (.tmp 35) = .pointer (some ⟨u, i * 6, none⟩)) => op_loadAt e1 e2 (load_us hr))
        have hsz := szU q (.slice na nn nc) (.slice ra m rc)
        have hone := oneU q na ra nn m nc rc
        rw [← hUL] at HLU hsz hone
        have hzs : zU.size = UL.toArray.size := by rw [hUL]; rfl
        have hul2 : UL.toArray[5]? = some (.slice ra m rc) ∧ UL.toArray[3]? = some (.int .i64 q.n) := by rw [hUL]; exact ⟨rfl, rfl⟩
        have HIx := Lib.hid (And.intro hwi (And.intro hi (And.intro hu (And.intro hMV (And.intro hq hm)))))
        have HP0 := Lib.hid (And.intro hp0 hMO)
        have HEL := Lib.hid (And.intro (show ∀ j (hj : j < M.length), w.heap.size ≤ w.heap.size ∧ W1.rangeAt b3 (f3 + j * 2) (rowE M[j]) from fun j hj => ⟨Nat.le_refl _, by have := hrg j (by rw [List.length_map]; exact hj); rwa [List.getElem_map] at this⟩) hra)
        have HMB := Lib.hid (show ∀ x ∈ M, BytesIn F W1 x.2.1 x.2.2 from fun x hx => by
          rw [hM] at hx
          obtain ⟨d, hd, rfl⟩ := List.mem_map.1 hx
          exact hnt.bytes d hd)
        have HUU := Lib.hid (And.intro hsz (And.intro hzs (And.intro hone hul2)))
        have HB := Lib.hid (And.intro (show BytesIn G W1 (.slice ya y yc) B from by rw [hW1]; exact hB) (And.intro hyl (show B.length ≤ 2048 from hv)))
        have hy2 : ¬ (2048 : Int) < (y : Int) := by omega
        have hk1 : ¬ (N.size : Int) < 1 := by omega
        have hk2 : ¬ (62 : Int) < (N.size : Int) := by omega
        have hE : noteE s who N.data.toList B = (if vGet M N.data.toList = none ∧ q.n ≤ (M.length : Int) then 8 else 0) := by
          have h9 : vGet (s.N who) N.data.toList = (vGet M N.data.toList).map Prod.snd := by rw [← hMV]; exact vGet_map Prod.snd _ M
          rw [hE, h9, ← hMV, List.length_map]
          simp only [Option.map_eq_none_iff]
        have HE := Lib.hid hE
        obtain ⟨k, hkk⟩ : ∃ k : Bs, k = N.data.toList := ⟨_, rfl⟩
        have hkN : (⟨k.toArray⟩ : ByteArray) = N := by rw [hkk]
        have HKN := Lib.hid (And.intro hkk hkN)
        have HON := Lib.hid (show ∀ x ∈ M, ∀ y ∈ rowE x, y.oneCell' = true from fun x hx y hy => by
          rcases List.mem_cons.1 hy with rfl | hy
          · rfl
          · rcases List.mem_cons.1 hy with rfl | hy
            · exact (HMB.out x hx).oneC
            · cases hy)
        have HNS := Lib.hid hns
        have hrc2 : rc ≤ 9223372036854775807 := hrc
        clear h h1 hu hE hf1 hW1 hp0 hr hel hnt hnl hq hM hMV hMO hn hUL hsz hzs hone hul2 hlens hwi hrg hra r1 r2 r3 hm hk hv hB hBl hrc hrc' hy hyl hNs hn0 hN hns hkk hkN
        rw [← HKN.out.1] at HE ⊢
        go_enter Try.func44, Try.ntmps44
        obtain rfl : w = W1 := HW.out.1.symm
        go_wp2_with (first
          | (go_at_call 48; refine HI.out.mono ?_; rintro e w1 ⟨rfl, hw9⟩; (obtain rfl : w = w1 := hw9.symm))
          | (with_reducible refine Go.Proofs.Ytdpaobflknkbkaa.wpList_value rfl (.agg UL.toArray) _ (HLU.out _ _ rfl rfl) ?_; refine stopAt ?_))
        refine Stop.mk ?_
        try simp only [Act.put, List.setIfInBounds_toArray, List.set_cons_succ, List.set_cons_zero]
        refine Go.Proofs.Ytdpaobflknkbkaa.wpList_value rfl _ _ (op_aU _ _ _ rfl) ?_
        try simp only [Act.put, List.setIfInBounds_toArray, List.set_cons_succ, List.set_cons_zero]
        refine Go.Proofs.Ytdpaobflknkbkaa.wpList_store_row rfl 87 (.tmp 9) (.tmp 36) rfl _ UL.toArray zU 87 rfl rfl (heap_alloc_new _ _) HUU.out.1 HUU.out.2.1 HUU.out.2.2.1 ?_
        try simp only [Act.put]
        obtain ⟨Wu, hWu⟩ : ∃ Wu, Wu = (w.alloc (.cells zU 87)).setRow w.heap.size UL.toArray := ⟨_, rfl⟩
        obtain ⟨ub, hub⟩ : ∃ ub, ub = w.heap.size := ⟨_, rfl⟩
        have hfu : Fr (fun _ => False) w Wu := by rw [hWu]; exact ((Fr.refl _ _).alloc _).setRow (.inr (Nat.le_refl _)) _
        have hbu : Wu.heap[ub]? = some (.cells UL.toArray 87 (0, 0)) := by rw [hWu, hub]; exact setRow_heap _ _ _ _ _ _ (heap_alloc_new w _)
        rw [← hWu, ← hub]
        have HWU := Lib.hid (And.intro hfu hbu)
        clear hWu hub hfu hbu
        go_wp2_with (at_builtin; refine wpList_append_bytes (F := fun k => Wu.heap.size ≤ k) (G := G) _ rfl (.tmp 38) (.tmp 39) rfl _ _ [] B rfl rfl (OwnB.empty9 Wu) (HB.out.1.keep (HWU.out.1.alloc _) (fun _ _ _ h => h)) (by have := HB.out.2.2; simp; omega) ?_; intro v5 w5 ho5 hg5 hb5; (have H5 := Lib.hid (And.intro ho5 hg5)); clear ho5 hg5 hb5; refine stopAt ?_)
        refine Stop.mk ?_
        obtain ⟨va, vc, hv5⟩ := H5.out.1.len
        rw [List.nil_append, ← HB.out.2.1] at hv5
        subst hv5
        go_wp2_with (first
          | (with_reducible refine Go.Proofs.Ytdpaobflknkbkaa.wpList_value rfl (.agg #[.string N, .slice va y vc]) w5 (rowK_build rfl rfl rfl) ?_; simp only [Act.put, List.setIfInBounds_toArray, List.set_cons_succ, List.set_cons_zero])
          | (with_reducible refine Go.Proofs.Ytdpaobflknkbkaa.wpList_value rfl _ _ (op_aRow _ _ _ rfl) ?_; refine stopAt ?_))
        refine Stop.mk ?_
        try simp only [Act.put, List.setIfInBounds_toArray, List.set_cons_succ, List.set_cons_zero]
        refine Go.Proofs.Ytdpaobflknkbkaa.wpList_store_row rfl 73 (.tmp 10) (.tmp 41) rfl w5.heap.size #[.string N, .slice va y vc] #[.string ⟨#[]⟩, .slice none 0 0] 73 rfl rfl (heap_alloc_new _ _) (by kernel_rfl) rfl (by kernel_rfl) ?_
        try simp only [Act.put]
        obtain ⟨W2, hW2⟩ : ∃ W2, W2 = (w5.alloc (.cells #[.string ⟨#[]⟩, .slice none 0 0] 73)).setRow w5.heap.size #[.string N, .slice va y vc] := ⟨_, rfl⟩
        obtain ⟨xb, hxb⟩ : ∃ xb, xb = w5.heap.size := ⟨_, rfl⟩
        have hf5 : Fr (fun _ => False) w w5 := (HWU.out.1.alloc _).grown H5.out.2 (fun j hj => .inr (by have e : Wu.heap.size = j := Option.some.inj hj; have := HWU.out.1.size; omega))
        have hf52 : Fr (fun _ => False) w5 W2 := by rw [hW2]; exact ((Fr.refl _ _).alloc _).setRow (.inr (Nat.le_refl _)) _
        have hb2 : W2.heap[xb]? = some (.cells #[.string N, .slice va y vc] 73 (0, 0)) := by rw [hW2, hxb]; exact setRow_heap _ _ _ _ _ _ (heap_alloc_new w5 _)
        have hfu2 : Fr (fun _ => False) Wu w5 := (((Fr.refl (fun _ => False) Wu).alloc _).grown H5.out.2 (fun j hj => .inr (by have e : Wu.heap.size = j := Option.some.inj hj; omega)))
        have hub2 : W2.heap[ub]? = some (.cells UL.toArray 87 (0, 0)) := hf52.heap (hfu2.heap HWU.out.2 id) id
        rw [← hW2, ← hxb]
        have cu5 : W2.cell? ⟨ub, 5, none⟩ = some (.slice ra m rc) := by rw [cell_of_row _ _ _ _ _ _ hub2]; exact HUU.out.2.2.2.1
        have cu3 : W2.cell? ⟨ub, 3, none⟩ = some (.int .i64 q.n) := by rw [cell_of_row _ _ _ _ _ _ hub2]; exact HUU.out.2.2.2.2
        have HCU := Lib.hid (And.intro cu5 cu3)
        have HU := Lib.hid (And.intro True.intro (And.intro (hf5.trans hf52 (fun _ h => h.elim)) True.intro))
        obtain ⟨V, hV⟩ : ∃ V : Value × Bs, V = (.slice va y vc, B) := ⟨_, rfl⟩
        obtain ⟨cK, hcK⟩ : ∃ cK, cK = rowE (k, V) := ⟨_, rfl⟩
        have hcK2 : cK = [.string N, .slice va y vc] := by rw [hcK, hV, rowE, HKN.out.2]
        have HK := Lib.hid (And.intro HKN.out.1 (And.intro HKN.out.2 (And.intro hcK (And.intro (show cK.length = 2 by rw [hcK]; rfl) (show ∀ x ∈ cK, x.oneCell' = true by rw [hcK2]; intro x hx; simp only [List.mem_cons, List.not_mem_nil, or_false] at hx; rcases hx with rfl | rfl <;> rfl)))))
        have HLK := Lib.hid (fun W (hW : Fr (fun _ => False) W2 W) (oo : Oper) (a : Act) (e1 : oo.op = .load 73 (.tmp 10)) (e2 : a.eval (.tmp 10) = .pointer (some ⟨xb, 0, none⟩)) => op_loadAt e1 e2 (load_rowR (l := cK) (by rw [hcK]; rfl) (fun j v hv => by rw [Nat.zero_add, cell_of_row _ _ _ _ _ _ (hW.heap hb2 id), List.getElem?_toArray, ← hcK2]; exact hv)))
        have hvb : ∀ w', Fr (fun _ => False) W2 w' → BytesIn (newF F w w') w' V.1 V.2 := fun w' hf => by
          rw [hV]
          have h9 := ((H5.out.1.bytes.keep hf52 (fun _ _ _ h => h)).keep hf (fun _ _ _ h => h))
          rw [List.nil_append] at h9
          have hs1 := HW.out.2.1.size
          have hs2 := HWU.out.1.size
          refine h9.mono (fun k hk h => .inr ⟨?_, hk⟩)
          rcases h with h | h
          · omega
          · simp at h; omega
        have HBY := Lib.hid (show ∀ w', Fr (fun _ => False) w w' → Fr (fun _ => False) W2 w' → ∀ p ∈ (vPut M k V).map ntD, BytesIn (newF F w w') w' p.x p.B from fun w' hf0 hf p hp => by
          obtain ⟨x, hx, rfl⟩ := List.mem_map.1 hp
          rcases vPut_keys hx with rfl | hx
          · exact hvb w' hf
          · have h9 := HMB.out x hx
            exact (h9.keep hf0 (fun _ _ _ h => h)).mono (fun _ _ h => .inl h))
        have HVB := Lib.hid (show ((vPut M k V).map ntD).map RowD.row = vPut (M.map ntV) k B by
          rw [ntV_ntD]
          have := vPut_map Prod.snd k V M
          rw [hV] at this ⊢
          exact this)
        clear hW2 hxb hf5 hf52 hb2 hfu2 hub2 cu3 hV hcK hcK2 hvb
        go_wp2_with fail
        go_loopw [11, 12, 13] (fun ov pv iv wr => ∃ (j : Nat) (a : Option Addr) (c mc : Nat) (cs : List (List Value)) (b : Bool), j ≤ m ∧ iv = .int .i64 j ∧ pv = .bool b ∧ ov = .slice a mc c ∧ Hid (mc = cs.length ∧ InsAt 73 2 W2 wr cs a c ∧ cs = (insI k V M j).1.map rowE ∧ b = (insI k V M j).2)) (fun _ _ iv _ => m - (intOf iv).toNat)
        case atStart => exact ⟨0, none, 0, 0, [], false, by omega, rfl, rfl, rfl, Lib.hid ⟨rfl, ⟨OwnE.nil _ _ _ _, Fr.refl _ _⟩, rfl, rfl⟩⟩
        case round =>
          obtain ⟨j, a, c, mc, cs, b, hj, rfl, rfl, rfl, HS⟩ := hrel
          have cu5 := HS.out.2.1.fr.cell HCU.out.1 id
          obtain ⟨O, hO⟩ : ∃ O, O = (insI k V M j).1 := ⟨_, rfl⟩
          have hpr : insI k V M j = (O, b) := Prod.ext hO.symm HS.out.2.2.2.symm
          have hcs : cs = O.map rowE := by rw [hO]; exact HS.out.2.2.1
          have hol : cs.length ≤ 2 * j := by
            rw [hcs, List.length_map, hO]
            exact insI_len k V M j (by have := HIx.out.2.2.2.2.2; omega)
          have HO := Lib.hid (And.intro hpr (And.intro hcs (show cs.length + 1 + 1 ≤ 1000000 by omega)))
          clear hO hpr hcs hol
          obtain rfl := HS.out.1
          by_cases hlt : j < m
          · have hjM : j < M.length := by have := HIx.out.2.2.2.2.2; omega
            obtain ⟨rfl, _⟩ := HEL.out.2 (by omega)
            have HCX := Lib.hid (fun W (hW : Fr (fun _ => False) W2 W) => Fr.range9 (HU.out.2.1.trans hW (fun _ h => h.elim)) (HEL.out.1 j hjM).2 id)
            obtain ⟨x, hx⟩ : ∃ x, x = M[j] := ⟨_, rfl⟩
            rw [← hx] at HCX
            obtain ⟨X, hX⟩ : ∃ X : ByteArray, X = ⟨x.1.toArray⟩ := ⟨_, rfl⟩
            have HXC := Lib.hid (fun W (hW : Fr (fun _ => False) W2 W) => (show W.cell? ⟨b3, f3 + j * 2, none⟩ = some (.string X) by rw [hX]; exact HCX.out W hW 0 _ rfl))
            have cx := HXC.out wr HS.out.2.1.fr
            obtain ⟨cX, hcX⟩ : ∃ cX, cX = rowE x := ⟨_, rfl⟩
            have hcXl : cX.length = 2 := by rw [hcX]; exact rowE_len x
            have hcX1 : ∀ y ∈ cX, y.oneCell' = true := by rw [hcX]; exact HON.out x (by rw [hx]; exact List.getElem_mem hjM)
            have hj64 : (j : Int) < (m : Int) := by omega
            have HX := Lib.hid (And.intro hcX (And.intro hcXl (And.intro hcX1 (show insI k V M (j + 1) = insS k V (O, b) x by rw [insI_succ k V M j hjM, HO.out.1, hx]))))
            have HLX := Lib.hid (fun W (hW : Fr (fun _ => False) W2 W) (oo : Oper) (a : Act) (e1 : oo.op = .load 73 (.tmp 77)) (e2 : a.eval (.tmp 77) = .pointer (some ⟨b3, f3 + j * 2, none⟩)) => op_loadAt e1 e2 (show (Instr.loadAt 73 (.pointer (some ⟨b3, f3 + j * 2, none⟩))).run Try.prog W = .ok (.agg cX.toArray) W by rw [hcX]; exact load_rowR (rowE_len x) (HCX.out W hW)))
            have hNX : (N.toList == X.toList) = decide (k = x.1) := by rw [hX, ← HK.out.2.1]; exact bs_str _ _
            have hXN : (X.toList == N.toList) = decide (x.1 = k) := by rw [hX, ← HK.out.2.1]; exact bs_str _ _
            have hNL : Op.bytesLess N.toList X.toList = decide (k < x.1) := by rw [hX, ← HK.out.2.1]; exact bs_less _ _
            clear hjM hx hX hcX hcXl hcX1
            by_cases he : x.1 = k
            · rw [decide_eq_true he] at hXN
              rw [decide_eq_true he.symm] at hNX
              rw [decide_eq_false (fun h : k < x.1 => by rw [he] at h; exact List.lt_irrefl _ h)] at hNL
              have HE9 := Lib.hid (And.intro he (show ¬ x.1 < k from fun h => by rw [he] at h; exact List.lt_irrefl _ h))
              clear he
              cases b with
              | true =>
                as_aux_lemma =>
                  go_wp2_with fail
                  go_roundw
                  case rel => exact ⟨j + 1, a, c, _, cs, true, by omega, by go_num, rfl, rfl, Lib.hid ⟨rfl, HS.out.2.1, by rw [HX.out.2.2.2, ins_pair, if_neg (by simp), if_pos HE9.out.1]; exact HO.out.2.1, by rw [HX.out.2.2.2, ins_pair, if_neg (by simp), if_pos HE9.out.1]⟩⟩
                  case measure => simp [intOf]; omega
              | false =>
                as_aux_lemma =>
                  go_wp2_with (first
                    | (with_reducible refine Go.Proofs.Ytdpaobflknkbkaa.wpList_value rfl (.agg cK.toArray) wr (HLK.out wr HS.out.2.1.fr _ _ rfl rfl) ?_; simp only [Act.put, List.setIfInBounds_toArray, List.set_cons_succ, List.set_cons_zero])
                    | (refine wpList_snoc Try.underlying63 infoRow rowZ9 (by decide) (by decide) W2 wr rfl rfl (.tmp 62) (.tmp 61) 63 rfl rfl _ cs cK rfl rfl rfl HS.out.2.1.fr HS.out.2.1.own HK.out.2.2.2.1 HK.out.2.2.2.2 (Nat.le_of_succ_le HO.out.2.2) (rowR_one wr cK HK.out.2.2.2.1) ?_; intro a7 c7 w7 ho hf; (have H7 := Lib.hid (InsAt.of ho hf)); clear ho hf; simp only [Act.put, List.setIfInBounds_toArray, List.set_cons_succ, List.set_cons_zero]; refine stopAt ?_))
                  refine Stop.mk ?_
                  have cu5 := H7.out.fr.cell HCU.out.1 id
                  have cx := HXC.out w7 H7.out.fr
                  go_wp2_with fail
                  go_roundw
                  case rel => exact ⟨j + 1, a7, c7, _, cs ++ [cK], true, by omega, by go_num, rfl, rfl, Lib.hid ⟨by simp, H7.out, by rw [HX.out.2.2.2, ins_pair, if_pos ⟨rfl, HE9.out.2⟩, if_pos HE9.out.1, List.map_append, ← HO.out.2.1, HK.out.2.2.1]; rfl, by rw [HX.out.2.2.2, ins_pair, if_pos ⟨rfl, HE9.out.2⟩, if_pos HE9.out.1]⟩⟩
                  case measure => simp [intOf]; omega
            · rw [decide_eq_false he] at hXN
              rw [decide_eq_false (fun h => he h.symm)] at hNX
              have HE9 := Lib.hid he
              cases b with
              | true =>
                clear hNL he
                as_aux_lemma =>
                  go_wp2_with (first
                    | (with_reducible refine Go.Proofs.Ytdpaobflknkbkaa.wpList_value rfl (.agg cX.toArray) wr (HLX.out wr HS.out.2.1.fr _ _ rfl rfl) ?_; simp only [Act.put, List.setIfInBounds_toArray, List.set_cons_succ, List.set_cons_zero])
                    | (refine wpList_snoc Try.underlying63 infoRow rowZ9 (by decide) (by decide) W2 wr rfl rfl (.tmp 78) (.tmp 73) 79 rfl rfl _ cs cX rfl rfl rfl HS.out.2.1.fr HS.out.2.1.own HX.out.2.1 HX.out.2.2.1 (Nat.le_of_succ_le HO.out.2.2) (rowR_one wr cX HX.out.2.1) ?_; intro a7 c7 w7 ho hf; (have H7 := Lib.hid (InsAt.of ho hf)); clear ho hf; simp only [Act.put, List.setIfInBounds_toArray, List.set_cons_succ, List.set_cons_zero]; refine stopAt ?_))
                  refine Stop.mk ?_
                  go_wp2_with fail
                  go_roundw
                  case rel => exact ⟨j + 1, a7, c7, _, cs ++ [cX], true, by omega, by go_num, rfl, rfl, Lib.hid ⟨by simp, H7.out, by rw [HX.out.2.2.2, ins_pair, if_neg (by simp), if_neg HE9.out, List.map_append, ← HO.out.2.1, HX.out.1]; rfl, by rw [HX.out.2.2.2, ins_pair, if_neg (by simp), if_neg HE9.out]⟩⟩
                  case measure => simp [intOf]; omega
              | false =>
                by_cases hl : x.1 < k
                · rw [decide_eq_false (fun h : k < x.1 => List.lt_irrefl _ (List.lt_trans h hl))] at hNL
                  have HL9 := Lib.hid hl
                  clear hl he
                  as_aux_lemma =>
                    go_wp2_with (first
                      | (with_reducible refine Go.Proofs.Ytdpaobflknkbkaa.wpList_value rfl (.agg cX.toArray) wr (HLX.out wr HS.out.2.1.fr _ _ rfl rfl) ?_; simp only [Act.put, List.setIfInBounds_toArray, List.set_cons_succ, List.set_cons_zero])
                      | (refine wpList_snoc Try.underlying63 infoRow rowZ9 (by decide) (by decide) W2 wr rfl rfl (.tmp 78) (.tmp 73) 79 rfl rfl _ cs cX rfl rfl rfl HS.out.2.1.fr HS.out.2.1.own HX.out.2.1 HX.out.2.2.1 (Nat.le_of_succ_le HO.out.2.2) (rowR_one wr cX HX.out.2.1) ?_; intro a7 c7 w7 ho hf; (have H7 := Lib.hid (InsAt.of ho hf)); clear ho hf; simp only [Act.put, List.setIfInBounds_toArray, List.set_cons_succ, List.set_cons_zero]; refine stopAt ?_))
                    refine Stop.mk ?_
                    go_wp2_with fail
                    go_roundw
                    case rel => exact ⟨j + 1, a7, c7, _, cs ++ [cX], false, by omega, by go_num, rfl, rfl, Lib.hid ⟨by simp, H7.out, by rw [HX.out.2.2.2, ins_pair, if_neg (fun h => h.2 HL9.out), if_neg HE9.out, List.map_append, ← HO.out.2.1, HX.out.1]; rfl, by rw [HX.out.2.2.2, ins_pair, if_neg (fun h => h.2 HL9.out), if_neg HE9.out]⟩⟩
                    case measure => simp [intOf]; omega
                · rw [decide_eq_true (bs_lt_or hl (fun h => he h.symm))] at hNL
                  have HL9 := Lib.hid hl
                  clear hl he
                  as_aux_lemma =>
                    go_wp2_with (first
                      | (with_reducible refine Go.Proofs.Ytdpaobflknkbkaa.wpList_value rfl (.agg cK.toArray) wr (HLK.out wr HS.out.2.1.fr _ _ rfl rfl) ?_; simp only [Act.put, List.setIfInBounds_toArray, List.set_cons_succ, List.set_cons_zero])
                      | (refine wpList_snoc Try.underlying63 infoRow rowZ9 (by decide) (by decide) W2 wr rfl rfl (.tmp 62) (.tmp 61) 63 rfl rfl _ cs cK rfl rfl rfl HS.out.2.1.fr HS.out.2.1.own HK.out.2.2.2.1 HK.out.2.2.2.2 (Nat.le_of_succ_le HO.out.2.2) (rowR_one wr cK HK.out.2.2.2.1) ?_; intro a7 c7 w7 ho hf; (have H7 := Lib.hid (InsAt.of ho hf)); clear ho hf; simp only [Act.put, List.setIfInBounds_toArray, List.set_cons_succ, List.set_cons_zero]; refine stopAt ?_))
                    refine Stop.mk ?_
                    have cu5 := H7.out.fr.cell HCU.out.1 id
                    have cx := HXC.out w7 H7.out.fr
                    have HLN := Lib.hid (show (cs ++ [cK]).length = cs.length + 1 by simp)
                    have HOW := Lib.hid (show OwnE 73 2 W2.heap.size w7 (.slice a7 (cs.length + 1) c7) (cs ++ [cK]) by have := H7.out.own; rwa [HLN.out] at this)
                    go_wp2_with (first
                      | (with_reducible refine Go.Proofs.Ytdpaobflknkbkaa.wpList_value rfl (.agg cX.toArray) w7 (HLX.out w7 H7.out.fr _ _ rfl rfl) ?_; simp only [Act.put, List.setIfInBounds_toArray, List.set_cons_succ, List.set_cons_zero])
                      | (refine wpList_snoc Try.underlying63 infoRow rowZ9 (by decide) (by decide) W2 w7 rfl rfl (.tmp 78) (.tmp 73) 79 rfl rfl _ (cs ++ [cK]) cX rfl rfl rfl H7.out.fr HOW.out HX.out.2.1 HX.out.2.2.1 (by rw [HLN.out]; exact HO.out.2.2) (rowR_one w7 cX HX.out.2.1) ?_; intro a8 c8 w8 ho hf; (have H8 := Lib.hid (InsAt.of ho hf)); clear ho hf; simp only [Act.put, List.setIfInBounds_toArray, List.set_cons_succ, List.set_cons_zero]; refine stopAt ?_))
                    refine Stop.mk ?_
                    go_wp2_with fail
                    go_roundw
                    case rel => exact ⟨j + 1, a8, c8, _, cs ++ [cK] ++ [cX], true, by omega, by go_num, rfl, rfl, Lib.hid ⟨by simp, H8.out, by rw [HX.out.2.2.2, ins_pair, if_pos ⟨rfl, HL9.out⟩, if_neg HE9.out, List.map_append, List.map_append, ← HO.out.2.1, HK.out.2.2.1, HX.out.1]; rfl, by rw [HX.out.2.2.2, ins_pair, if_pos ⟨rfl, HL9.out⟩, if_neg HE9.out]⟩⟩
                    case measure => simp [intOf]; omega
          · have hjm : j = m := by omega
            subst hjm
            cases b with
            | true =>
              as_aux_lemma =>
                have hvp : (vPut M k V).map rowE = cs := by
                  rw [← ins_put k V M HP0.out.2, ← HIx.out.2.2.2.2.2, HO.out.1, insE, if_pos rfl]
                  exact HO.out.2.1.symm
                have hlen : (vPut M k V).length = cs.length := by
                  have h9 := congrArg List.length hvp
                  rw [List.length_map] at h9
                  rw [h9]
                have hcap : (M.length : Int) ≤ q.n := by
                  have hiQ := HIx.out.2.1
                  have h9 := (HP0.out.1.cap i hiQ).2
                  rw [← HIx.out.1, ← HIx.out.2.2.2.1, List.length_map, ← HIx.out.2.2.2.2.1] at h9
                  exact h9
                have hmost := put_most (v := V) HP0.out.2 hcap (k := k)
                rw [hlen] at hmost
                have HV := Lib.hid (And.intro hvp (And.intro hlen hmost))
                clear hvp hlen hcap hmost
                have cu3 := HS.out.2.1.fr.cell HCU.out.2 id
                have hfw : Fr (fun _ => False) w wr := HU.out.2.1.trans HS.out.2.1.fr (fun _ h => h.elim)
                have c0 := hfw.cell c0 id
                have hfz : Fr (fun _ => False) w wr := HW.out.2.1.trans hfw (fun _ h => h.elim)
                obtain ⟨rv9, nv9, l9, e9, _⟩ := (HW.out.2.2.2.us i HIx.out.2.1).ex
                obtain ⟨cs9, hb9⟩ := HW.out.2.2.2.blk
                have hcl9 := hfz.cell (e9 5 nv9 rfl) id
                have hfz9 : wr.frozen? ⟨u, i * 6 + 5, none⟩ = false := frozen_of_row _ _ _ _ _ (hfz.heap hb9 id)
                have HFZ := Lib.hid hfz
                clear e9 hb9 hfw hfz
                by_cases hg : q.n < ((cs.length : Nat) : Int)
                · as_aux_lemma =>
                    have hE8 : noteE s who k B = 8 := by rw [HE.out, if_pos (HV.out.2.2.1 hg)]
                    have hS8 : noteS s who k B = s := by unfold noteS; rw [hE8, if_neg (by decide)]
                    have HES := Lib.hid (And.intro hE8 hS8)
                    clear hE8 hS8
                    go_wp2_with fail
                    go_ret
                    rw [HES.out.1, HES.out.2]
                    exact ⟨rfl, HW.out.2.2.2.newF HFZ.out, HFZ.out.mono (fun _ _ h => h.elim)⟩
                · as_aux_lemma =>
                    have hE0 : noteE s who k B = 0 := by rw [HE.out, if_neg (fun h => hg (HV.out.2.2.2 h))]
                    have hS0 : noteS s who k B = s.setN who (((vPut M k V).map ntD).map RowD.row) := by unfold noteS; rw [hE0, if_pos rfl, ← HIx.out.2.2.2.1, HVB.out]
                    have hfin := HW.out.2.2.2.putN HFZ.out HIx.out.2.1 (l9 := (vPut M k V).map ntD) (a := a) (n := cs.length) (c := c) (by rw [rowE_ntD, HV.out.1]; exact OwnE.lower (show OwnE 73 2 W2.heap.size wr (.slice a cs.length c) cs from by have := HS.out.2.1.own; exact this) (Nat.le_trans HW.out.2.1.size HU.out.2.1.size)) (HBY.out _ HFZ.out (HS.out.2.1.fr))
                    rw [← HIx.out.1] at hfin
                    have HFIN := Lib.hid hfin
                    have HES := Lib.hid (And.intro hE0 hS0)
                    clear hE0 hS0 hfin
                    go_wp2_with fail
                    go_ret
                    rw [HES.out.1, HES.out.2, newF_set]
                    exact ⟨rfl, HFIN.out.1, HFIN.out.2⟩
            | false =>
              as_aux_lemma =>
                have hvp : (vPut M k V).map rowE = (cs ++ [cK]) := by
                  rw [← ins_put k V M HP0.out.2, ← HIx.out.2.2.2.2.2, HO.out.1, insE, if_neg (by simp), List.map_append, ← HO.out.2.1, HK.out.2.2.1]
                  rfl
                have hlen : (vPut M k V).length = (cs.length + 1) := by
                  have h9 := congrArg List.length hvp
                  rw [List.length_map] at h9
                  rw [h9]
                  simp
                have hcap : (M.length : Int) ≤ q.n := by
                  have hiQ := HIx.out.2.1
                  have h9 := (HP0.out.1.cap i hiQ).2
                  rw [← HIx.out.1, ← HIx.out.2.2.2.1, List.length_map, ← HIx.out.2.2.2.2.1] at h9
                  exact h9
                have hmost := put_most (v := V) HP0.out.2 hcap (k := k)
                rw [hlen] at hmost
                have HV := Lib.hid (And.intro hvp (And.intro hlen hmost))
                clear hvp hlen hcap hmost
                go_wp2_with (first
                  | (with_reducible refine Go.Proofs.Ytdpaobflknkbkaa.wpList_value rfl (.agg cK.toArray) wr (HLK.out wr HS.out.2.1.fr _ _ rfl rfl) ?_; simp only [Act.put, List.setIfInBounds_toArray, List.set_cons_succ, List.set_cons_zero])
                  | (refine wpList_snoc Try.underlying63 infoRow rowZ9 (by decide) (by decide) W2 wr rfl rfl (.tmp 84) (.tmp 83) 85 rfl rfl _ cs cK rfl rfl rfl HS.out.2.1.fr HS.out.2.1.own HK.out.2.2.2.1 HK.out.2.2.2.2 (Nat.le_of_succ_le HO.out.2.2) (rowR_one wr cK HK.out.2.2.2.1) ?_; intro a7 c7 w7 ho hf; (have H7 := Lib.hid (InsAt.of ho hf)); clear ho hf; simp only [Act.put, List.setIfInBounds_toArray, List.set_cons_succ, List.set_cons_zero]; refine stopAt ?_))
                refine Stop.mk ?_
                have cu3 := H7.out.fr.cell HCU.out.2 id
                have hfw : Fr (fun _ => False) w w7 := HU.out.2.1.trans H7.out.fr (fun _ h => h.elim)
                have c0 := hfw.cell c0 id
                have hfz : Fr (fun _ => False) w w7 := HW.out.2.1.trans hfw (fun _ h => h.elim)
                obtain ⟨rv9, nv9, l9, e9, _⟩ := (HW.out.2.2.2.us i HIx.out.2.1).ex
                obtain ⟨cs9, hb9⟩ := HW.out.2.2.2.blk
                have hcl9 := hfz.cell (e9 5 nv9 rfl) id
                have hfz9 : w7.frozen? ⟨u, i * 6 + 5, none⟩ = false := frozen_of_row _ _ _ _ _ (hfz.heap hb9 id)
                have HFZ := Lib.hid hfz
                clear e9 hb9 hfw hfz
                by_cases hg : q.n < (((cs.length + 1) : Nat) : Int)
                · as_aux_lemma =>
                    have hE8 : noteE s who k B = 8 := by rw [HE.out, if_pos (HV.out.2.2.1 hg)]
                    have hS8 : noteS s who k B = s := by unfold noteS; rw [hE8, if_neg (by decide)]
                    have HES := Lib.hid (And.intro hE8 hS8)
                    clear hE8 hS8
                    go_wp2_with fail
                    go_ret
                    rw [HES.out.1, HES.out.2]
                    exact ⟨rfl, HW.out.2.2.2.newF HFZ.out, HFZ.out.mono (fun _ _ h => h.elim)⟩
                · as_aux_lemma =>
                    have hE0 : noteE s who k B = 0 := by rw [HE.out, if_neg (fun h => hg (HV.out.2.2.2 h))]
                    have hS0 : noteS s who k B = s.setN who (((vPut M k V).map ntD).map RowD.row) := by unfold noteS; rw [hE0, if_pos rfl, ← HIx.out.2.2.2.1, HVB.out]
                    have hfin := HW.out.2.2.2.putN HFZ.out HIx.out.2.1 (l9 := (vPut M k V).map ntD) (a := a7) (n := (cs.length + 1)) (c := c7) (by rw [rowE_ntD, HV.out.1]; exact OwnE.lower (show OwnE 73 2 W2.heap.size w7 (.slice a7 (cs.length + 1) c7) (cs ++ [cK]) from by have := H7.out.own; rwa [List.length_append] at this) (Nat.le_trans HW.out.2.1.size HU.out.2.1.size)) (HBY.out _ HFZ.out (H7.out.fr))
                    rw [← HIx.out.1] at hfin
                    have HFIN := Lib.hid hfin
                    have HES := Lib.hid (And.intro hE0 hS0)
                    clear hE0 hS0 hfin
                    go_wp2_with fail
                    go_ret
                    rw [HES.out.1, HES.out.2, newF_set]
                    exact ⟨rfl, HFIN.out.1, HFIN.out.2⟩
      · have hE : noteE s who N.data.toList B = 3 := by unfold noteE; rw [if_pos hu, if_pos hk, if_neg hv]
        have hS : noteS s who N.data.toList B = s := by unfold noteS; rw [hE, if_neg (by decide)]
        rw [hS, hE]
        have hy2 : (2048 : Int) < (y : Int) := by omega
        have hk1 : ¬ (N.size : Int) < 1 := by omega
        have hk2 : ¬ (62 : Int) < (N.size : Int) := by omega
        clear h hu hE hf1 hW1 hp0 hS hv hk hB hBl hy hyl hNs hns hn0 hN
        go_enter Try.func44, Try.ntmps44
        go_wp2_with (go_at_call 48; refine HI.out.mono ?_; rintro e w1 ⟨rfl, hw9⟩; (obtain rfl : w = w1 := hw9.symm))
        go_ret
        exact ⟨rfl, HW.out.2.2.2.newF (Fr.refl _ _), Fr.refl _ _⟩
    · have hE : noteE s who N.data.toList B = 2 := by unfold noteE; rw [if_pos hu, if_neg hk]
      have hS : noteS s who N.data.toList B = s := by unfold noteS; rw [hE, if_neg (by decide)]
      rw [hS, hE]
      by_cases hk1 : (N.size : Int) < 1
      · clear h hu hE hf1 hW1 hp0 hS hk hB hBl hy hyl hNs hns hn0 hN
        go_enter Try.func44, Try.ntmps44
        go_wp2_with (go_at_call 48; refine HI.out.mono ?_; rintro e w1 ⟨rfl, hw9⟩; (obtain rfl : w = w1 := hw9.symm))
        go_ret
        exact ⟨rfl, HW.out.2.2.2.newF (Fr.refl _ _), Fr.refl _ _⟩
      · have hk2 : (62 : Int) < (N.size : Int) := by omega
        clear h hu hE hf1 hW1 hp0 hS hk hB hBl hy hyl hNs hns hn0 hN
        go_enter Try.func44, Try.ntmps44
        go_wp2_with (go_at_call 48; refine HI.out.mono ?_; rintro e w1 ⟨rfl, hw9⟩; (obtain rfl : w = w1 := hw9.symm))
        go_ret
        exact ⟨rfl, HW.out.2.2.2.newF (Fr.refl _ _), Fr.refl _ _⟩
  · have HI := Lib.hid (is_no h who hu)
    have hE : noteE s who N.data.toList B = 18 := by unfold noteE; rw [if_neg hu]
    have hS : noteS s who N.data.toList B = s := by unfold noteS; rw [hE, if_neg (by decide)]
    rw [hS, hE]
    clear h hu hE hf1 hW1 hp0 hS hB hBl hy hyl hNs hns hn0 hN
    go_enter Try.func44, Try.ntmps44
    go_wp2_with (go_at_call 48; refine HI.out.mono ?_; rintro e w1 ⟨rfl, hw9⟩; (obtain rfl : w = w1 := hw9.symm))
    go_ret
    exact ⟨rfl, HW.out.2.2.2.newF (Fr.refl _ _), Fr.refl _ _⟩
end
end Go.Proofs.Ytdpaobflknkbkaa
