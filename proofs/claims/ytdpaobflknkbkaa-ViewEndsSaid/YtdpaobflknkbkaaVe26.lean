/- Laid together: VRq VEk -/
import Derived.Test.YtdpaobflknkbkaaVe25
import Derived.Test.YtdpaobflknkbkaaVe22
import Derived.Test.YtdpaobflknkbkaaVe1
import Derived.Deep.AppendSrc
import Derived.Deep.Upon

namespace Go.Proofs.Ytdpaobflknkbkaa
open Go.RowKit Go.ChangeShapes
set_option linter.unusedVariables false
section
variable {F G : Nat → Prop} {w : World} {g u : Nat} {s : VS}
set_option maxRecDepth 100000
set_option maxHeartbeats 4000000
theorem rnotes_any (h : RvAt F w g u s) (hp0 : Pl s) (who : Int) (N : ByteArray) (hN : N.size ≤ 140737488351232) : Calls Try.prog 49 #[.pointer (some ⟨g, 0, none⟩), .int .i64 who, .string N] w fun e w' => ∃ v, e = .returned v ∧ NtOk (rowsN s who N.data.toList) v w' ∧ Fr (fun _ => False) w w' := by
  by_cases hu : isUser s who
  · have HI := Lib.hid (is_yes h who hu)
    obtain ⟨i, hwi, hi⟩ := user_at hu
    obtain ⟨c, r1, r2, r3⟩ := h.row
    have c0 := cell_of_one r1
    obtain ⟨rv, nv, l, hr, hel, hnt, hnl⟩ := (h.us i hi).ex
    rw [← hwi] at hnl
    obtain ⟨M, hM⟩ : ∃ M, M = l.map ntP := ⟨_, rfl⟩
    have hMV : M.map ntV = s.N who := by rw [hM, ntV_ntP, hnl]
    have hrc' := hnt.el
    rw [← rowE_ntP, ← hM] at hrc'
    obtain ⟨ra, rc, rfl⟩ : ∃ ra rc, nv = .slice ra M.length rc := by
      obtain ⟨ao, cap, hv, _⟩ := hrc'
      exact ⟨ao, cap, by rw [hv, List.length_map]⟩
    obtain ⟨_, _, hrc, b3, f3, hra, hrg⟩ := hrc'.rng
    obtain ⟨n, hn⟩ : ∃ n, n = s.Q.length := ⟨_, rfl⟩
    obtain ⟨m, hm⟩ : ∃ m, m = M.length := ⟨_, rfl⟩
    rw [← hn] at c0 r1
    rw [← hm] at hra hr
    have hlens := hp0.lens hi
    rw [← hwi, ← hMV, List.length_map, ← hm] at hlens
    have hm100 : m ≤ 400 := hlens.2.1
    have hi2 : (i : Int) < (n : Int) := by omega
    have hw1 : IntKind.i64.wrap (who - 1) = (i : Int) := by rw [show (who - 1) = (i : Int) by omega]; exact wrap_in5 (by omega) (by omega)
    have hi0 : (0 : Int) ≤ (i : Int) := by omega
    have hc5 : w.cell? ⟨u, i * 6 + 5, none⟩ = some (.slice ra m rc) := hr 5 _ rfl
    have HIx := Lib.hid (And.intro (show rowsN s who N.data.toList = (M.map ntV).filter (fun p => Lib.hasPrefix p.1 N.data.toList) by rw [rowsN, if_pos hu, hMV]) hm)
    have HEL := Lib.hid (And.intro (show ∀ j (hj : j < M.length), w.rangeAt b3 (f3 + j * 2) (rowE M[j]) from fun j hj => by have := hrg j (by rw [List.length_map]; exact hj); rwa [List.getElem_map] at this) hra)
    have HMB := Lib.hid (show ∀ x ∈ M, BytesIn F w x.2.1 x.2.2 from fun x hx => by
      rw [hM] at hx
      obtain ⟨d, hd, rfl⟩ := List.mem_map.1 hx
      exact hnt.bytes d hd)
    have HON := Lib.hid (show ∀ x ∈ M, ∀ y ∈ rowE x, y.oneCell' = true from fun x hx y hy => by
      rcases List.mem_cons.1 hy with rfl | hy
      · rfl
      · rcases List.mem_cons.1 hy with rfl | hy
        · exact (HMB.out x hx).oneC
        · cases hy)
    obtain ⟨k, hkk⟩ : ∃ k : Bs, k = N.data.toList := ⟨_, rfl⟩
    have hkN : (⟨k.toArray⟩ : ByteArray) = N := by rw [hkk]
    have HK := Lib.hid (And.intro hkk hkN)
    have hrc2 : rc ≤ 9223372036854775807 := hrc
    clear h hu hp0 hr hel hnt hnl hM hMV hn hlens hwi hrg hra r1 r2 r3 hm hrc hrc' hkk hkN
    go_enter Try.func49, Try.ntmps49
    go_wp2_with (go_at_call 48; refine HI.out.mono ?_; rintro e w1 ⟨rfl, hw9⟩; (obtain rfl : w = w1 := hw9.symm))
    go_loopw [7, 9] (fun ov iv wr => ∃ (j : Nat) (a : Option Addr) (c mc : Nat) (cs : List (List Value)), j ≤ m ∧ iv = .int .i64 j ∧ ov = .slice a mc c ∧ Hid (mc = cs.length ∧ InsAt 73 2 w wr cs a c ∧ cs = ((M.take j).filter (fun p => Lib.hasPrefix p.1 k)).map rowE)) (fun _ iv _ => m - (intOf iv).toNat)
    case atStart => exact ⟨0, none, 0, 0, [], by omega, rfl, rfl, Lib.hid ⟨rfl, ⟨OwnE.nil _ _ _ _, Fr.refl _ _⟩, rfl⟩⟩
    case round =>
      obtain ⟨j, a, c, mc, cs, hj, rfl, rfl, HS⟩ := hrel
      obtain rfl := HS.out.1
      by_cases hlt : j < m
      · have hjM : j < M.length := by have := HIx.out.2; omega
        obtain ⟨rfl, _⟩ := HEL.out.2 (by omega)
        obtain ⟨x, hx⟩ : ∃ x, x = M[j] := ⟨_, rfl⟩
        have hrx := Fr.range9 HS.out.2.1.fr (HEL.out.1 j hjM) id
        rw [← hx] at hrx
        obtain ⟨X, hX⟩ : ∃ X : ByteArray, X = ⟨x.1.toArray⟩ := ⟨_, rfl⟩
        have cx : wr.cell? ⟨b3, f3 + j * 2, none⟩ = some (.string X) := by rw [hX]; exact hrx 0 _ rfl
        obtain ⟨cX, hcX⟩ : ∃ cX, cX = rowE x := ⟨_, rfl⟩
        have hcXl : cX.length = 2 := by rw [hcX]; rfl
        have hcX1 : ∀ y ∈ cX, y.oneCell' = true := by rw [hcX]; exact HON.out x (by rw [hx]; exact List.getElem_mem hjM)
        have hj64 : (j : Int) < (m : Int) := by omega
        have htk : M.take (j + 1) = M.take j ++ [x] := by rw [List.take_succ_eq_append_getElem hjM, hx]
        have hcl : cs.length + 1 ≤ 1000000 := by
          have h9 := List.length_filter_le (fun p : Bs × (Value × Bs) => Lib.hasPrefix p.1 k) (M.take j)
          rw [HS.out.2.2, List.length_map]
          rw [List.length_take] at h9
          omega
        have HX := Lib.hid (And.intro hcX (And.intro hcXl (And.intro hcX1 (And.intro htk hcl))))
        have HLX := Lib.hid (fun (oo : Oper) (a : Act) (e1 : oo.op = .load 73 (.tmp 54)) (e2 : a.eval (.tmp 54) = .pointer (some ⟨b3, f3 + j * 2, none⟩)) => op_loadAt e1 e2 (show (Instr.loadAt 73 (.pointer (some ⟨b3, f3 + j * 2, none⟩))).run Try.prog wr = .ok (.agg cX.toArray) wr by rw [hcX]; exact load_rowR (rowE_len x) hrx))
        have HXX := Lib.hid hX
        clear hjM hx hcX hcXl hcX1 htk hcl hrx hX
        have HPX := Lib.hid (show (decide (N.size ≤ X.size) && ((X.extract 0 N.size).toList == N.toList)) = Lib.hasPrefix x.1 k by rw [Lib.hasPrefix_raw, HXX.out, HK.out.1])
        by_cases hle : N.size ≤ X.size
        · have hle64 : (N.size : Int) ≤ (X.size : Int) := by omega
          obtain ⟨pb, hpb⟩ : ∃ pb, pb = Lib.hasPrefix x.1 k := ⟨_, rfl⟩
          have hpx := HPX.out
          rw [← hpb, decide_eq_true hle, Bool.true_and] at hpx
          have HPB := Lib.hid hpb
          clear hpb
          cases pb with
          | true =>
            as_aux_lemma =>
              go_wp2_with (first
                | (with_reducible refine Go.Proofs.Ytdpaobflknkbkaa.wpList_value rfl (.agg cX.toArray) wr (HLX.out _ _ rfl rfl) ?_; simp only [Act.put, List.setIfInBounds_toArray, List.set_cons_succ, List.set_cons_zero])
                | (refine wpList_snoc Try.underlying63 infoRow rowZ9 (by decide) (by decide) w wr rfl rfl (.tmp 55) (.tmp 51) 56 rfl rfl _ cs cX rfl rfl rfl HS.out.2.1.fr HS.out.2.1.own HX.out.2.1 HX.out.2.2.1 HX.out.2.2.2.2 (rowR_one wr cX HX.out.2.1) ?_; intro a7 c7 w7 ho hf; (have H7 := Lib.hid (InsAt.of ho hf)); clear ho hf; simp only [Act.put, List.setIfInBounds_toArray, List.set_cons_succ, List.set_cons_zero]; refine stopAt ?_))
              refine Stop.mk ?_
              go_wp2_with fail
              go_roundw
              case rel => exact ⟨j + 1, a7, c7, _, cs ++ [cX], by omega, by go_num, rfl, Lib.hid ⟨by simp, H7.out, by rw [HX.out.2.2.2.1, List.filter_append, List.map_append, ← HS.out.2.2, List.filter_cons, if_pos HPB.out.symm, HX.out.1]; rfl⟩⟩
              case measure => simp [intOf]; omega
          | false =>
            as_aux_lemma =>
              go_wp2_with fail
              go_roundw
              case rel => exact ⟨j + 1, a, c, _, cs, by omega, by go_num, rfl, Lib.hid ⟨rfl, HS.out.2.1, by rw [HX.out.2.2.2.1, List.filter_append, List.map_append, ← HS.out.2.2, List.filter_cons, if_neg (by rw [← HPB.out]; simp)]; simp⟩⟩
              case measure => simp [intOf]; omega
        · have hle64 : ¬ (N.size : Int) ≤ (X.size : Int) := by omega
          have hpb : Lib.hasPrefix x.1 k = false := by rw [← HPX.out, decide_eq_false hle]; rfl
          have HPB := Lib.hid hpb
          clear hpb
          as_aux_lemma =>
            go_wp2_with fail
            go_roundw
            case rel => exact ⟨j + 1, a, c, _, cs, by omega, by go_num, rfl, Lib.hid ⟨rfl, HS.out.2.1, by rw [HX.out.2.2.2.1, List.filter_append, List.map_append, ← HS.out.2.2, List.filter_cons, if_neg (by rw [HPB.out]; simp)]; simp⟩⟩
            case measure => simp [intOf]; omega
      · have hjm : j = m := by omega
        subst hjm
        have hfin : NtOk (rowsN s who N.data.toList) (.slice a cs.length c) wr := by
          refine ⟨(M.filter (fun p => Lib.hasPrefix p.1 k)).map ntD, ⟨?_, ?_⟩, ?_⟩
          · have h9 := HS.out.2.2
            rw [HIx.out.2, List.take_length] at h9
            rw [rowE_ntD, ← h9]
            exact HS.out.2.1.own.elems.mono (by decide) (fun _ _ _ => trivial)
          · intro p hp
            obtain ⟨x, hx, rfl⟩ := List.mem_map.1 hp
            exact ((HMB.out x (List.mem_filter.1 hx).1).keep HS.out.2.1.fr (fun _ _ _ h => h)).mono (fun _ _ _ => trivial)
          · rw [ntV_ntD, HIx.out.1, List.filter_map, ← HK.out.1]
            rfl
        have HFI := Lib.hid hfin
        clear hfin
        go_wp2_with fail
        go_ret
        exact ⟨_, rfl, HFI.out, HS.out.2.1.fr⟩
  · have HI := Lib.hid (is_no h who hu)
    have hE : rowsN s who N.data.toList = [] := by rw [rowsN, if_neg hu]
    rw [hE]
    clear h hu hE hp0
    go_enter Try.func49, Try.ntmps49
    go_wp2_with (go_at_call 48; refine HI.out.mono ?_; rintro e w1 ⟨rfl, hw9⟩; (obtain rfl : w = w1 := hw9.symm))
    go_ret
    exact ⟨_, rfl, ⟨[], ⟨Elems.nil _ _ _, fun _ h => by cases h⟩, rfl⟩, Fr.refl _ _⟩
end
end Go.Proofs.Ytdpaobflknkbkaa
namespace Go.Proofs.Ytdpaobflknkbkaa
open Go.RowKit Go.ChangeShapes
set_option linter.unusedVariables false
section
variable {T ST : TypeId} {k bs : Nat} {zv : Value}
theorem flat_prefix {c m : List (List Value)} (hm : ∀ x ∈ m, x.length = k) (h : c <+: m) {j : Nat} (hj : j < c.length * k) : c.flatten[j]? = m.flatten[j]? := by
  obtain ⟨r, rfl⟩ := h
  rw [List.flatten_append, List.getElem?_append_left]
  rw [flat_len _ (fun x hx => hm x (List.mem_append.2 (.inl hx)))]
  exact hj
theorem OwnE.over {z : Nat} {w : World} {g cap : Nat} {cur : Array Value} {l m : List (List Value)} (hk0 : 0 < k) (hlk : ∀ x ∈ l, x.length = k) (hmk : ∀ x ∈ m, x.length = k) (hcm9 : cap ≤ 9223372036854775807) (hg : w.heap[g]? = some (.cells cur T (0, 0))) (hcs : cur.size = cap * k) (hfit : l.length + m.length ≤ cap) (ht : cur.toList.take (l.length * k) = l.flatten) {u : Value} {c : List (List Value)} (hk : c <+: l ++ m) (h : OwnE T k z w u c) :
    OwnE T k z (w.setRow g (cur.toList.take (l.length * k) ++ m.flatten ++ cur.toList.drop (l.length * k + m.flatten.length)).toArray) u c := by
  have hf : Fr (fun b => b = g) w (w.setRow g (cur.toList.take (l.length * k) ++ m.flatten ++ cur.toList.drop (l.length * k + m.flatten.length)).toArray) := (Fr.refl (fun b => b = g) w).setRow (.inl rfl) _
  by_cases hu : u.ownBlock = some g
  · rcases h.row.2 with ⟨rfl, _⟩ | ⟨g', cap', cur', rfl, h1, h2, h3, h4, h5, h6⟩
    · simp [Value.ownBlock] at hu
    · simp only [Value.ownBlock, Option.some.injEq] at hu
      subst hu
      rw [hg] at h2
      simp only [Option.some.injEq, Obj.cells.injEq, and_true] at h2
      subst h2
      have hml : m.flatten.length = m.length * k := flat_len _ hmk
      have hll : l.flatten.length = l.length * k := flat_len _ hlk
      have hkl : c.flatten.length = c.length * k := flat_len _ h.each
      have hcl : cur.toList.length = cap * k := by rw [Array.length_toList]; exact hcs
      have hkm : c.length ≤ l.length + m.length := by have := hk.length_le; simpa using this
      have hsum : l.length * k + m.length * k ≤ cap * k := by rw [← Nat.add_mul]; exact Nat.mul_le_mul_right k hfit
      have hcc : cap' * k = cap * k := by rw [← h5, hcs]
      have hck : c.length * k ≤ l.length * k + m.length * k := by rw [← Nat.add_mul]; exact Nat.mul_le_mul_right k hkm
      refine ⟨⟨h.row.1, .inr ⟨g', cap', _, rfl, h1, setRow_heap w g' _ _ _ (0, 0) hg, h3, h4, ?_, ?_⟩⟩, h.each⟩
      · simp only [List.size_toArray, List.length_append, List.length_take, List.length_drop, hcl, hml]
        omega
      · apply List.ext_getElem?
        intro j
        rw [List.getElem?_take]
        by_cases hj : j < c.length * k
        · rw [if_pos hj, flat_prefix (fun x hx => (List.mem_append.1 hx).elim (hlk x) (hmk x)) hk hj, List.flatten_append, ht]
          have hA : ∀ Y : List Value, (l.flatten ++ Y)[j]? = if j < l.length * k then l.flatten[j]? else Y[j - l.length * k]? := fun Y => by rw [List.getElem?_append, hll]
          rw [List.append_assoc, hA, hA]
          split
          · rfl
          · rw [List.getElem?_append_left (by rw [hml]; omega)]
        · rw [if_neg hj, List.getElem?_eq_none (by omega)]
  · exact OwnE.keep h hf (fun g' hg' e => hu (by rw [hg', show g' = g from e]))
theorem run_append_ek (hut : Try.prog.underlying ST = some (.slice T)) (hinf : (Try.prog.info? T).map (fun i => (i.zero, i.size, i.bytes)) = some (some zv, k, bs)) (hzs : zv.cells.size = k) (hk0 : 0 < k) (hbs : bs ≤ 100)
    {F : Nat → Prop} {z : Nat} (w : World) (ty : TypeId) (v x : Value) (l m : List (List Value)) (hown : OwnE T k z w v l) (hx : Elems k F w x m) (h1c : ∀ c ∈ m, ∀ u ∈ c, u.oneCell' = true) (hz : z ≤ w.heap.size) (hn : l.length + m.length ≤ 1000000) :
    ∃ v' w', (Builtin.append_ #[ST, ST] ty #[v, x]).run Try.prog w = .ok v' w' ∧ OwnE T k z w' v' (l ++ m) ∧ Fr (fun b => v.ownBlock = some b) w w' ∧ ((∃ ao n, v = .slice ao n n) → Fr (fun _ => False) w w') ∧ (∀ u c, c <+: l ++ m → OwnE T k z w u c → OwnE T k z w' u c) := by
  obtain ⟨i0, hi, hz0, hz1, hz2⟩ := info_parts hinf
  have hlk := hown.each
  have hmk : ∀ c ∈ m, c.length = k := by obtain ⟨_, _, _, _, _, h3, _⟩ := hx; exact h3
  have hlmk : ∀ c ∈ l ++ m, c.length = k := fun c hc => (List.mem_append.1 hc).elim (hlk c) (hmk c)
  have hml : m.flatten.length = m.length * k := flat_len _ hmk
  have hll : l.flatten.length = l.length * k := flat_len _ hlk
  have hnewsOf : ∀ (b off : Nat), (∀ i (h : i < m.length) j, j < k → w.cell? ⟨b, off + i * k + j, none⟩ = m[i][j]?) → ∀ j u, m.flatten[j]? = some u → w.cell? ((⟨b, off, none⟩ : Addr).add j) = some u := fun b off hcell j u hu => by
    have hj : j < m.flatten.length := (List.getElem?_eq_some_iff.1 hu).1
    rw [hml] at hj
    have hq : j / k < m.length := Nat.div_lt_of_lt_mul (by rw [Nat.mul_comm]; exact hj)
    have hmm := Nat.div_add_mod j k
    have hml2 := Nat.mod_lt j hk0
    have e : off + (j / k) * k + j % k = off + j := by rw [Nat.mul_comm (j / k) k]; omega
    have h5 := hcell (j / k) hq (j % k) hml2
    rw [e, ← flat_get m hmk (j / k) hq (j % k) hml2, show (j / k) * k + j % k = j by rw [Nat.mul_comm]; omega, hu] at h5
    rw [addr_plain]
    exact h5
  by_cases hroom : ∃ g cap, v = .slice (some ⟨g, 0, none⟩) l.length cap ∧ l.length + m.length ≤ cap ∧ m ≠ []
  · obtain ⟨g, cap, rfl, hfit, hm⟩ := hroom
    rcases hown.row.2 with ⟨hv, _⟩ | ⟨g', cap', cur, hv, h1, h2, h3, h4, h5, h6⟩
    · cases hv
    · simp only [Value.slice.injEq, Option.some.injEq, Addr.mk.injEq, and_true, true_and] at hv
      obtain ⟨rfl, rfl⟩ := hv
      obtain ⟨ao, capx, rfl, hc1, hc2, _, h9⟩ := hx
      obtain ⟨b, off, rfl, hFb, hcell⟩ := h9 hm
      have hnews := hnewsOf b off hcell
      have hsum : l.length * k + m.length * k ≤ cap * k := by rw [← Nat.add_mul]; exact Nat.mul_le_mul_right k hfit
      have hr := run_append_room (P := Try.prog) w ST ty T i0 hut hi g l.length cap cur h2 ⟨b, off, none⟩ m.length capx m.flatten (by rw [hz1]; exact hml) hnews (fun u hu => by
        obtain ⟨c, hc, huc⟩ := List.mem_flatten.1 hu
        exact h1c c hc u huc) hfit (by rw [hz1, hml, h5]; omega)
      rw [hz1] at hr
      have hcm9 : cap ≤ 9223372036854775807 := by unfold maxLen at h4; omega
      have hpre : ∀ u c, c <+: l ++ m → OwnE T k z w u c → OwnE T k z (w.setRow g (cur.toList.take (l.length * k) ++ m.flatten ++ cur.toList.drop (l.length * k + m.flatten.length)).toArray) u c := fun u c hk h => h.over hk0 hlk hmk hcm9 h2 h5 hfit h6 hk
      have hf : Fr (fun b => (Value.slice (some ⟨g, 0, none⟩) l.length cap).ownBlock = some b) w (w.setRow g (cur.toList.take (l.length * k) ++ m.flatten ++ cur.toList.drop (l.length * k + m.flatten.length)).toArray) := (Fr.refl (fun b => (Value.slice (some ⟨g, 0, none⟩) l.length cap).ownBlock = some b) w).setRow (.inl rfl) _
      have hcl : cur.toList.length = cap * k := by rw [Array.length_toList]; exact h5
      refine ⟨_, _, hr, ⟨⟨by rw [flat_len _ hlmk], .inr ⟨g, cap, _, by rw [List.length_append], h1, setRow_heap w g _ _ _ (0, 0) h2, by rw [List.length_append]; exact hfit, h4, ?_, ?_⟩⟩, hlmk⟩, hf, fun ⟨ao, n, e⟩ => ?_, hpre⟩
      · simp only [List.size_toArray, List.length_append, List.length_take, List.length_drop, hcl, hml]
        omega
      · rw [List.length_append, h6, List.flatten_append]
        have e : (l.flatten ++ m.flatten).length = (l.length + m.length) * k := by rw [List.length_append, hll, hml, Nat.add_mul]
        rw [← e]
        exact List.take_left
      · simp only [Value.slice.injEq] at e
        exact absurd (List.eq_nil_of_length_eq_zero (by omega)) hm
  · have hgrown : ∀ w' : World, Fr (fun _ => False) w w' → (∀ u c, c <+: l ++ m → OwnE T k z w u c → OwnE T k z w' u c) := fun w' hf u c _ h => OwnE.keep h hf (fun _ _ h => h)
    obtain ⟨ao, capx, rfl, hc1, hc2, _, h9⟩ := hx
    by_cases hm : m = []
    · subst hm
      obtain ⟨a0, c0, hv, hl0⟩ : ∃ a0 c0, v = .slice a0 l.length c0 ∧ l.length ≤ c0 := by
        rcases hown.row.2 with ⟨hv, hl⟩ | ⟨g, cap, cur, hv, _, _, h3, _⟩
        · exact ⟨none, 0, by rw [hv, hl], by omega⟩
        · exact ⟨_, cap, hv, h3⟩
      have hsrc : Src Try.prog i0.size ST (.slice ao 0 capx) 0 [] w := by
        cases ao with
        | none => exact Src.ofNil w hut capx
        | some a => exact Src.ofSlice w hut a 0 capx [] (by simp) (fun j u hu => by simp at hu) (fun _ h => by cases h)
      have hr := run_append_nothing (P := Try.prog) w ST ST ty T i0 hut hi a0 l.length c0 hl0 (.slice ao 0 capx) hsrc
      refine ⟨_, _, by rw [hv]; exact hr, ?_, Fr.refl _ _, fun _ => Fr.refl _ _, hgrown w (Fr.refl _ _)⟩
      rw [List.append_nil, ← hv]
      exact hown
    · obtain ⟨b, off, rfl, hFb, hcell⟩ := h9 hm
      have hmp := List.length_pos_iff.2 hm
      have hnews := hnewsOf b off hcell
      have key : ∀ (cs : Array Value) (cp : Nat), l.length + m.length ≤ cp → cp ≤ 9223372036854775807 → cs.size = cp * k → cs.toList.take ((l.length + m.length) * k) = (l ++ m).flatten →
          OwnE T k z (w.drew.alloc (.cells cs T)) (.slice (some ⟨w.heap.size, 0, none⟩) (l.length + m.length) cp) (l ++ m) := fun cs cp h1 h2 h3 h4 =>
        ⟨⟨by rw [flat_len _ hlmk], .inr ⟨w.heap.size, cp, cs, by rw [List.length_append], hz, heap_alloc_new w.drew _, by rw [List.length_append]; exact h1, by unfold maxLen; omega, h3, by rw [List.length_append]; exact h4⟩⟩, hlmk⟩
      have hfa : ∀ o : Obj, Fr (fun _ => False) w (w.drew.alloc o) := fun o => (Fr.refl _ w).drew.alloc o
      have hbsn : ∀ n, n ≤ 1000000 → n * bs ≤ 100000000 := fun n hn => Nat.le_trans (Nat.mul_le_mul hn hbs) (by decide)
      rcases hown.row.2 with ⟨rfl, hl⟩ | ⟨g, cap, cur, rfl, _, h2, h3, h4, h5, h6⟩
      · obtain rfl := List.eq_nil_of_length_eq_zero hl
        have hge := grownCap_ge w m.length 0 T
        have hcm := grownCap_le_maxLen w m.length 0 T (by unfold maxLen; simp at hn; omega)
        unfold maxLen at hcm
        have hbn := hbsn m.length (by simp at hn; omega)
        have hr := run_append_nil (P := Try.prog) w ST ty T i0 _ hut hi hz0 ⟨b, off, none⟩ m.length capx m.flatten (by rw [hz1]; exact hml) hnews hmp (by omega) (by rw [hz2]; omega)
        have hcp : (grownCap w m.length 0 T - m.length) * k + m.length * k = grownCap w m.length 0 T * k := by rw [← Nat.add_mul, Nat.sub_add_cancel (by simpa using hge)]
        have hk := key (m.flatten.toArray ++ Builtin.zeroCells zv.cells (grownCap w m.length 0 T - m.length)) (grownCap w m.length 0 T) (by simpa using hge) (by omega) (by
          rw [Array.size_append, List.size_toArray, hml, size_zeroCells, hzs]
          omega) (by
          simp only [List.length_nil, Nat.zero_add, List.nil_append, Array.toList_append]
          rw [← hml]
          exact List.take_left)
        simp only [List.length_nil, Nat.zero_add] at hk
        exact ⟨_, _, hr, hk, (hfa _).mono (fun _ _ h => h.elim), fun _ => hfa _, hgrown _ (hfa _)⟩
      · have hnf : ¬ l.length + m.length ≤ cap := fun h => hroom ⟨g, cap, rfl, h, hm⟩
        have hge := grownCap_ge w (l.length + m.length) cap T
        have hcm := grownCap_le_maxLen w (l.length + m.length) cap T (by unfold maxLen; omega)
        unfold maxLen at hcm
        have hbn := hbsn (l.length + m.length) hn
        have holds : ∀ j u, l.flatten[j]? = some u → w.cell? ((⟨g, 0, none⟩ : Addr).add j) = some u := (OwnE.row hown).cells (g := g) rfl
        have hr := run_append_grow (P := Try.prog) w ST ty T i0 _ hut hi hz0 ⟨g, 0, none⟩ l.length cap l.flatten (by rw [hz1]; exact hll) holds ⟨b, off, none⟩ m.length capx m.flatten (by rw [hz1]; exact hml) hnews (by omega) (by omega) (growslice_fits (by omega) (by rw [hz2]; omega))
        have hcp : (grownCap w (l.length + m.length) cap T - (l.length + m.length)) * k + (l.length + m.length) * k = grownCap w (l.length + m.length) cap T * k := by rw [← Nat.add_mul, Nat.sub_add_cancel hge]
        have hsm : (l.length + m.length) * k = l.length * k + m.length * k := Nat.add_mul _ _ _
        have hk := key (l.flatten.toArray ++ m.flatten.toArray ++ Builtin.zeroCells zv.cells (grownCap w (l.length + m.length) cap T - (l.length + m.length))) (grownCap w (l.length + m.length) cap T) hge (by omega) (by
          rw [Array.size_append, Array.size_append, List.size_toArray, List.size_toArray, hml, hll, size_zeroCells, hzs]
          omega) (by
          simp only [Array.toList_append, List.flatten_append]
          have e : (l.flatten ++ m.flatten).length = (l.length + m.length) * k := by rw [List.length_append, hll, hml, Nat.add_mul]
          rw [← e]
          exact List.take_left)
        exact ⟨_, _, hr, hk, (hfa _).mono (fun _ _ h => h.elim), fun _ => hfa _, hgrown _ (hfa _)⟩
def ExtE (T : TypeId) (k z : Nat) (X : List (List Value)) (w w' : World) : Prop := ∀ u c, c <+: X → OwnE T k z w u c → OwnE T k z w' u c
theorem ExtE.refl (T : TypeId) (k z : Nat) (X : List (List Value)) (w : World) : ExtE T k z X w w := fun _ _ _ h => h
theorem ExtE.quiet {z : Nat} {X : List (List Value)} {w w' : World} (h : Fr (fun _ => False) w w') : ExtE T k z X w w' := fun _ _ _ ho => OwnE.keep ho h (fun _ _ h => h)
theorem Elems.take {F : Nat → Prop} {w : World} {a : Option Addr} {n c : Nat} {css : List (List Value)} (h : Elems k F w (.slice a n c) css) {i : Nat} (hi : i ≤ n) : Elems k F w (.slice a i c) (css.take i) := by
  obtain ⟨ao, cap, hv, h1, h2, h3, h4⟩ := h
  injection hv with e1 e2 e3
  subst e1 e2 e3
  have hl : (css.take i).length = i := by rw [List.length_take]; omega
  refine ⟨a, c, by rw [hl], by omega, h2, fun x hx => h3 x (List.mem_of_mem_take hx), fun hne => ?_⟩
  have hcn : css ≠ [] := fun e => by rw [e] at hne; simp at hne
  obtain ⟨b, off, ha, hF, hc⟩ := h4 hcn
  refine ⟨b, off, ha, hF, fun j hj q hq => ?_⟩
  rw [List.getElem_take]
  exact hc j (by omega) q hq
def lowE (ao : Option Addr) (n cap k : Nat) : Option Addr := if cap = n then ao else ao.map (·.add (n * k))
theorem Elems.drop {F : Nat → Prop} {w : World} {a : Option Addr} {n c : Nat} {css : List (List Value)} (h : Elems k F w (.slice a n c) css) {i : Nat} (hi : i ≤ n) : Elems k F w (.slice (lowE a i c k) (n - i) (c - i)) (css.drop i) := by
  obtain ⟨ao, cap, hv, h1, h2, h3, h4⟩ := h
  injection hv with e1 e2 e3
  subst e1 e2 e3
  refine ⟨_, _, by rw [List.length_drop], by rw [List.length_drop]; omega, by omega, fun x hx => h3 x (List.mem_of_mem_drop hx), fun hne => ?_⟩
  have hlt : i < css.length := by
    by_cases h : i < css.length
    · exact h
    · exact absurd (List.drop_eq_nil_of_le (by omega)) hne
  obtain ⟨b, off, ha, hF, hc⟩ := h4 (fun e => by rw [e] at hlt; cases hlt)
  refine ⟨b, off + i * k, ?_, hF, fun j hj q hq => ?_⟩
  · rw [lowE, if_neg (by omega), ha, Option.map_some, addr_plain]
  · rw [List.length_drop] at hj
    rw [List.getElem_drop, show off + i * k + j * k + q = off + (i + j) * k + q by rw [Nat.add_mul]; omega]
    exact hc (i + j) (by omega) q hq
theorem op_slice_h9 {t : TypeId} {w : World} {o : Oper} {a : Act} {x hi : Operand} {vx vh v : Value} (ho : o.op = .slice t x none (some hi) none) (hx : a.eval x = vx) (hh : a.eval hi = vh) (hr : (Instr.sliceAt t vx none (some vh) none).run Try.prog w = .ok v w) : (execOp a.eval o).run Try.prog w = .ok (.value v) w := by
  unfold execOp
  rw [ho]
  simp only [hx, hh, Option.map_some, Option.map_none, Sem.run_bind, hr, Result.andThen_ok]
  rfl
theorem op_slice_l9 {t : TypeId} {w : World} {o : Oper} {a : Act} {x lo : Operand} {vx vl v : Value} (ho : o.op = .slice t x (some lo) none none) (hx : a.eval x = vx) (hl : a.eval lo = vl) (hr : (Instr.sliceAt t vx (some vl) none none).run Try.prog w = .ok v w) : (execOp a.eval o).run Try.prog w = .ok (.value v) w := by
  unfold execOp
  rw [ho]
  simp only [hx, hl, Option.map_some, Option.map_none, Sem.run_bind, hr, Result.andThen_ok]
  rfl
theorem headR9 (w : World) (ao : Option Addr) (l cap n : Nat) (hn : n ≤ cap) :
    (Instr.sliceAt 85 (.slice ao l cap) none (some (.int .i64 (n : Int))) none).run Try.prog w = .ok (.slice ao n cap) w := by
  have hs : ∀ w, (sizeOf 95).run Try.prog w = .ok 22 w := fun w => by kernel_rfl
  cases ao <;> simp [Instr.sliceAt, Instr.slice, run_underlying Try.underlying85, Instr.sliceBounds, run_sliceBound, hs, hn, Addr.add]
theorem tailR9 (w : World) (ao : Option Addr) (l cap n : Nat) (hn : n ≤ l) :
    (Instr.sliceAt 85 (.slice ao l cap) (some (.int .i64 (n : Int))) none none).run Try.prog w = .ok (.slice (lowE ao n cap 22) (l - n) (cap - n)) w := by
  have hs : ∀ w, (sizeOf 95).run Try.prog w = .ok 22 w := fun w => by kernel_rfl
  simp [Instr.sliceAt, Instr.slice, run_underlying Try.underlying85, Instr.sliceBounds, run_sliceBound, hs, lowE, hn]
theorem headW9 (w : World) (ao : Option Addr) (l cap n : Nat) (hn : n ≤ cap) :
    (Instr.sliceAt 63 (.slice ao l cap) none (some (.int .i64 (n : Int))) none).run Try.prog w = .ok (.slice ao n cap) w := by
  have hs : ∀ w, (sizeOf 73).run Try.prog w = .ok 2 w := fun w => by kernel_rfl
  cases ao <;> simp [Instr.sliceAt, Instr.slice, run_underlying Try.underlying63, Instr.sliceBounds, run_sliceBound, hs, hn, Addr.add]
theorem tailW9 (w : World) (ao : Option Addr) (l cap n : Nat) (hn : n ≤ l) :
    (Instr.sliceAt 63 (.slice ao l cap) (some (.int .i64 (n : Int))) none none).run Try.prog w = .ok (.slice (lowE ao n cap 2) (l - n) (cap - n)) w := by
  have hs : ∀ w, (sizeOf 73).run Try.prog w = .ok 2 w := fun w => by kernel_rfl
  simp [Instr.sliceAt, Instr.slice, run_underlying Try.underlying63, Instr.sliceBounds, run_sliceBound, hs, lowE, hn]
theorem noneR9 (w : World) : (Instr.buildSlice 85 0 #[]).run Try.prog w = .ok (.slice (some ⟨w.heap.size, 0, none⟩) 0 0) (w.alloc (.cells #[] 95)) := by kernel_rfl
theorem noneW9 (w : World) : (Instr.buildSlice 63 0 #[]).run Try.prog w = .ok (.slice (some ⟨w.heap.size, 0, none⟩) 0 0) (w.alloc (.cells #[] 73)) := by kernel_rfl
theorem OwnE.none9 (T : TypeId) (k z : Nat) (w : World) (hz : z ≤ w.heap.size) : OwnE T k z (w.alloc (.cells #[] T)) (.slice (some ⟨w.heap.size, 0, none⟩) 0 0) [] :=
  ⟨⟨by simp, .inr ⟨w.heap.size, 0, #[], rfl, hz, heap_alloc_new w _, Nat.le_refl _, by simp [maxLen], by simp, by simp⟩⟩, fun _ h => by cases h⟩
end
end Go.Proofs.Ytdpaobflknkbkaa
