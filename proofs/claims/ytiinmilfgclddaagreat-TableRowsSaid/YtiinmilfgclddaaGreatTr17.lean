/- Laid together by merge.py: JOps JLaid2 JEnt JWrite -/
import Derived.Test.YtiinmilfgclddaaGreatTr6
import Derived.Test.YtiinmilfgclddaaGreatTr7
import Derived.Deep.MidRow
import Derived.Test.YtiinmilfgclddaaGreatTr16

/- What the operations of a drawn region come to: loads, comparisons, sums, calls; the tables of gen/reg3.py. -/
namespace Go.Proofs.YtiinmilfgclddaaGreat
open Go.RowKit Go.ChangeShapes
set_option linter.unusedVariables false

section
variable {P : Program} {w : World} {o : Oper} {a : Act}
theorem op_loadAt {t : TypeId} {x : Operand} {vx v : Value} (ho : o.op = .load t x) (hx : a.eval x = vx) (hr : (Instr.loadAt t vx).run P w = .ok v w) : (execOp a.eval o).run P w = .ok (.value v) w := by
  unfold execOp
  rw [ho]
  simp only [hx, Sem.run_bind, hr, Result.andThen_ok]
  rfl
theorem op_unop {t : TypeId} {op : UnOp} {x : Operand} {vx v : Value} (ho : o.op = .unOp op t x) (hx : a.eval x = vx) (hr : (Op.unary op vx).run P w = .ok v w) : (execOp a.eval o).run P w = .ok (.value v) w := by
  unfold execOp
  rw [ho]
  simp only [hx, Sem.run_bind, hr, Result.andThen_ok]
  rfl
theorem op_indexAddr {t : TypeId} {x i : Operand} {vx vi v : Value} (ho : o.op = .indexAddr t x i) (hx : a.eval x = vx) (hi : a.eval i = vi) (hr : (Instr.indexAt t vx vi).run P w = .ok v w) : (execOp a.eval o).run P w = .ok (.value v) w := by
  unfold execOp
  rw [ho]
  simp only [hx, hi, Sem.run_bind, hr, Result.andThen_ok]
  rfl
theorem eval_const5 (a : Act) (v : Value) : a.eval (.const v) = v := rfl
end
theorem op_len5 {w : World} {o : Oper} {a : Act} {x : Operand} {ao : Option Addr} {n cap : Nat} (ho : o.op = .call { callee := .builtin .len, args := #[x], argTypes := #[43] }) (hx : a.eval x = .slice ao n cap) :
    (execOp a.eval o).run Tryz.prog w = .ok (.value (.int .i64 n)) w := by
  obtain ⟨d, op, ty, pos, aft, g⟩ := o
  simp only at ho
  subst ho
  simp [execOp, resolve, invoke, builtin, Builtin.len_, hx, Result.andThen, goInt]
theorem guard_int (w : World) (op : BinOp) (T : TypeId) (k : IntKind) (x y : Operand) (A Bb : Int) : (eqGuard op T x y (.int k A) (.int k Bb)).run Tryz.prog w = .ok () w := by cases op <;> rfl
theorem guard_bool (w : World) (op : BinOp) (T : TypeId) (x y : Operand) (A Bb : Bool) : (eqGuard op T x y (.bool A) (.bool Bb)).run Tryz.prog w = .ok () w := by cases op <;> rfl

/-- One cell. -/
theorem load_one5 (w : World) (T : TypeId) (p : Addr) (v : Value) (hT : (isAgg T).run Tryz.prog w = .ok false w) (h : w.cell? p = some v) : (Instr.loadAt T (.pointer (some p))).run Tryz.prog w = .ok v w := by
  simp [Instr.loadAt, Instr.sureAddr, loadVar, hT, h, go_sem]
theorem load_int5 (w : World) (p : Addr) (v : Value) (h : w.cell? p = some v) : (Instr.loadAt 3 (.pointer (some p))).run Tryz.prog w = .ok v w := load_one5 w _ p v (by kernel_rfl) h

section
variable {w : World} {T : TypeId} {k : IntKind} {x y : Int}
theorem leq_yes (h : x ≤ y) : (binOp .leq T (.int k x) (.int k y)).run Tryz.prog w = .ok (.bool true) w := by rw [binOp_leq]; simp [h]
theorem leq_no (h : y < x) : (binOp .leq T (.int k x) (.int k y)).run Tryz.prog w = .ok (.bool false) w := by rw [binOp_leq]; simp [h]
theorem lss_yes (h : x < y) : (binOp .lss T (.int k x) (.int k y)).run Tryz.prog w = .ok (.bool true) w := by rw [binOp_lss]; simp [h]
theorem lss_no (h : y ≤ x) : (binOp .lss T (.int k x) (.int k y)).run Tryz.prog w = .ok (.bool false) w := by rw [binOp_lss]; simp [h]
theorem gtr_yes (h : y < x) : (binOp .gtr T (.int k x) (.int k y)).run Tryz.prog w = .ok (.bool true) w := by rw [binOp_gtr]; simp [h]
theorem gtr_no (h : x ≤ y) : (binOp .gtr T (.int k x) (.int k y)).run Tryz.prog w = .ok (.bool false) w := by rw [binOp_gtr]; simp [h]
theorem geq_yes (h : y ≤ x) : (binOp .geq T (.int k x) (.int k y)).run Tryz.prog w = .ok (.bool true) w := by rw [binOp_geq]; simp [h]
theorem geq_no (h : x < y) : (binOp .geq T (.int k x) (.int k y)).run Tryz.prog w = .ok (.bool false) w := by rw [binOp_geq]; simp [h]
theorem eql_yes : (binOp .eql T (.int k x) (.int k x)).run Tryz.prog w = .ok (.bool true) w := by rw [binOp_eql]; simp
theorem eql_no (h : x ≠ y) : (binOp .eql T (.int k x) (.int k y)).run Tryz.prog w = .ok (.bool false) w := by rw [binOp_eql]; simp [h]
theorem neq_yes (h : x ≠ y) : (binOp .neq T (.int k x) (.int k y)).run Tryz.prog w = .ok (.bool true) w := by rw [binOp_neq]; simp [h]
theorem neq_no : (binOp .neq T (.int k x) (.int k x)).run Tryz.prog w = .ok (.bool false) w := by rw [binOp_neq]; simp
end
theorem wrap_in5 {x : Int} (h0 : -9223372036854775808 ≤ x) (h1 : x ≤ 9223372036854775807) : IntKind.i64.wrap x = x := IntWalk.i64_in x (by omega)
theorem add_in5 {w : World} {T : TypeId} {x y z : Int} (hz : x + y = z) (h0 : -9223372036854775808 ≤ z) (h1 : z ≤ 9223372036854775807) : (binOp .add T (.int .i64 x) (.int .i64 y)).run Tryz.prog w = .ok (.int .i64 z) w := by
  rw [binOp_add]
  subst hz
  simp [Op.intArith, wrap_in5 h0 h1, go_sem]
theorem sub_in5 {w : World} {T : TypeId} {x y z : Int} (hz : x - y = z) (h0 : -9223372036854775808 ≤ z) (h1 : z ≤ 9223372036854775807) : (binOp .sub T (.int .i64 x) (.int .i64 y)).run Tryz.prog w = .ok (.int .i64 z) w := by
  rw [binOp_sub]
  subst hz
  simp [Op.intArith, wrap_in5 h0 h1, go_sem]
theorem mul_in5 {w : World} {T : TypeId} {x y z : Int} (hz : x * y = z) (h0 : -9223372036854775808 ≤ z) (h1 : z ≤ 9223372036854775807) : (binOp .mul T (.int .i64 x) (.int .i64 y)).run Tryz.prog w = .ok (.int .i64 z) w := by
  rw [binOp_mul]
  subst hz
  simp [Op.intArith, wrap_in5 h0 h1, go_sem]
theorem range_row5 {w : World} {g : Nat} {C : Array Value} {T : TypeId} (h : w.heap[g]? = some (.cells C T (0, 0))) : w.rangeAt g 0 C.toList := fun j v hv => by
  rw [Nat.zero_add, cell_of_row _ _ _ _ _ _ h]
  simpa using hv
end Go.Proofs.YtiinmilfgclddaaGreat

/- Contract: log.laid. -/
namespace Go.Proofs.YtiinmilfgclddaaGreat
open Go.RowKit Go.ChangeShapes Go.Maps
set_option linter.unusedVariables false

theorem Dv.read_yes {dv : Dv} {s q : Nat} (h1 : dv.down = false) (h2 : dv.waits = []) (hq : q < s) : dv.read s (q : Int) = (0, secAt dv.all q) := by
  unfold Dv.read
  rw [if_neg (by rw [h1]; decide), if_neg (by omega)]
  simp only [Dv.seen, h2, lastL, Int.toNat_natCast]
/-- What stands of the map behind k sectors. -/
structure LaidAt (w0 w : World) (mb o k : Nat) (X : List UInt8) (K : List UInt8) (vs : Nat → Value) : Prop where
  map : w.ownsMap Tryz.prog 3 heldR mb k (mD (o / 64) vs k)
  secs : ∀ i, i < k → ToldT (fun j => w0.heap.size ≤ j ∧ j ≠ mb) w (vs i) (secAt (over4 K o X) (o / 64 + i))
  fr : Fr (fun _ => False) w0 w

theorem ownsMap_fr {w w' : World} {b n : Nat} {D : DataW Value} (h : w.ownsMap Tryz.prog 3 heldR b n D) (hf : Fr (fun _ => False) w w') : w'.ownsMap Tryz.prog 3 heldR b n D := by
  obtain ⟨es, clock, hb, rest⟩ := h
  exact ⟨es, clock, hf.heap hb id, rest⟩
theorem ToldT.block {F : Nat → Prop} {w : World} {v : Value} {L : List UInt8} (h : ToldT F w v L) (hL : L.length = 64) :
    ∃ g T C cap, v = .slice (some ⟨g, 0, none⟩) 64 cap ∧ F g ∧ w.heap[g]? = some (.cells C T (0, 0)) ∧ C.size = cap ∧ 64 ≤ cap ∧ cap ≤ maxLen ∧ C.toList.take 64 = L.map bv := by
  rcases h with ⟨_, rfl⟩ | ⟨g, T, C, cap, rfl, h1, h2, h3, h4, h5, h6⟩
  · cases hL
  · rw [hL] at h4 h6 ⊢
    exact ⟨g, T, C, cap, rfl, h1, h2, h3, h4, h5, h6⟩
/-- One sector more. -/
theorem LaidAt.step {w0 wr w2 w3 : World} {mb o k g cap : Nat} {X K : List UInt8} {vs : Nat → Value} {T : TypeId} {C : Array Value} (h : LaidAt w0 wr mb o k X K vs) (hf : Fr (fun _ => False) wr w2) (hmb : w0.heap.size ≤ mb) (hlt : mb < wr.heap.size)
    (hg : wr.heap.size ≤ g) (hl : (secAt (over4 K o X) (o / 64 + k)).length = 64) (hC : w2.heap[g]? = some (.cells C T (0, 0))) (hCs : C.size = cap) (hc : 64 ≤ cap) (hcm : cap ≤ maxLen) (hCL : C.toList.take 64 = (secAt (over4 K o X) (o / 64 + k)).map bv)
    (hm : w3.ownsMap Tryz.prog 3 heldR mb (k + 1) ((mD (o / 64) vs k).put (keyN (o / 64) k) (.held (.slice (some ⟨g, 0, none⟩) 64 cap)))) (hgr : w2.grownBy w3 (some mb)) :
    LaidAt w0 w3 mb o (k + 1) X K (fun i => if i = k then .slice (some ⟨g, 0, none⟩) 64 cap else vs i) := by
  have hs := h.fr.size
  have hf3 : Fr (fun j => j = mb) w2 w3 := (Fr.refl _ w2).grown hgr (fun j hj => .inl (Option.some.inj hj).symm)
  refine ⟨?_, fun i hi => ?_, (h.fr.trans hf (fun _ h => h.elim)).trans hf3 (fun j e => .inr (by rw [show j = mb from e]; exact hmb))⟩
  · rw [mD, mD_congr _ _ vs k (fun i hi => if_neg (by omega)), if_pos rfl]
    exact hm
  · by_cases e : i = k
    · subst e
      rw [if_pos rfl]
      have ht : ToldT (fun j => w0.heap.size ≤ j ∧ j ≠ mb) w2 (.slice (some ⟨g, 0, none⟩) 64 cap) (secAt (over4 K o X) (o / 64 + i)) := .inr ⟨g, T, C, cap, by rw [hl], ⟨by omega, by omega⟩, hC, hCs, by omega, hcm, by rw [hl]; exact hCL⟩
      exact ht.keep hf3 (fun j _ h1 h2 => h1.2 h2)
    · rw [if_neg e]
      exact ((h.secs i (by omega)).keep hf (fun _ _ _ h => h)).keep hf3 (fun j _ h1 h2 => h1.2 h2)

def LaidPost (w : World) (o k : Nat) (X K : List UInt8) (e : Ending) (w' : World) : Prop := ∃ mb vs, e = .returned (.tuple #[.map (some mb), .int .i64 0]) ∧ w.heap.size ≤ mb ∧ LaidAt w w' mb o k X K vs
set_option maxRecDepth 100000 in
set_option maxHeartbeats 4000000 in
theorem lLaid_any {D G : Nat → Prop} (w : World) (g s o : Nat) (dv : Dv) (vb : Value) (X : List UInt8) (hd : DevAt w D g s dv) (hup : dv.down = false) (hw : dv.waits = []) (hs : s ≤ 8192) (ho : o + X.length ≤ 64 * s) (hb : BytesIn G w vb X) :
    Calls Tryz.prog 161 #[.pointer (some ⟨g, 0, none⟩), .int .i64 o, vb] w (LaidPost w o (manySecs o X.length) X dv.all) := by
  have hK := hd.right.all
  obtain ⟨ao, cap, rfl, h1, h2, _⟩ := id hb
  unfold maxLen at h2
  obtain ⟨n, hn⟩ : ∃ n, n = X.length := ⟨_, rfl⟩
  obtain ⟨mb, hmb⟩ : ∃ mb, mb = w.heap.size := ⟨_, rfl⟩
  have hmbl : n ≤ 524288 := by omega
  have hol : o ≤ 524288 := by omega
  have hmk := run_makeMap (P := Tryz.prog)
  have hf0 : Fr (fun _ => False) w (w.alloc (.map #[] 0)) := (Fr.refl _ _).alloc _
  have HB := Lib.hid ((hb.mono (G := fun k => G k ∧ k < w.heap.size) (fun k hk h => ⟨h, hk⟩)).keep hf0 (fun _ _ _ h => h))
  have H0 := Lib.hid (show LaidAt w (w.alloc (.map #[] 0)) mb o 0 X dv.all (fun _ => undef) from ⟨by rw [hmb]; exact World.ownsMap_made w _ _ _, fun i hi => absurd hi (by omega), hf0⟩)
  have HD := Lib.hid (And.intro hd (And.intro hK (And.intro hup hw)))
  have HN := Lib.hid (And.intro hn (And.intro hmb ho))
  rw [← hn]
  rw [← hn] at h1
  rw [← hn] at HB
  clear hd hK hup hw hb hf0 ho hn hmb
  go_enter Tryz.func161, Tryz.ntmps161
  go_wp2_with fail
  go_loopw [1, 2] (fun fv xv wr => ∃ (p c k : Nat) (vs : Nat → Value), c ≤ n ∧ p ≤ 1048576 ∧ fv = .int .i64 (p : Nat) ∧ Hid (p = o + c ∧ c = cAt o n k ∧ k ≤ manySecs o n ∧ LaidAt w wr mb o k X dv.all vs ∧ mb < wr.heap.size) ∧ Hid (BytesIn (fun j => G j ∧ j < w.heap.size) wr xv (X.drop c))) (fun fv _ _ => 2097152 - (intOf fv).toNat)
  case atStart => exact ⟨o, 0, 0, _, by omega, by omega, rfl, Lib.hid ⟨rfl, (cAt_zero o n).symm, Nat.zero_le _, H0.out, by rw [HN.out.2.1]; simp⟩, HB⟩
  case round =>
    obtain ⟨p, c, k, vs, hcn, hp, rfl, hR, hXB⟩ := hrel
    clear HB H0
    have hxl : (X.drop c).length = n - c := by rw [List.length_drop, ← HN.out.1]
    obtain ⟨ao2, cap2, rfl, l1, l2, _⟩ := id hXB.out
    unfold maxLen at l2
    obtain ⟨q, hq⟩ : ∃ q, q = (X.drop c).length := ⟨_, rfl⟩
    rw [← hq] at l1
    have hqb : q = n - c := by rw [hq]; exact hxl
    rw [← hq] at hXB ⊢
    by_cases hlt : c < n
    · have hq0 : 0 < q := by omega
      have hq1 : q ≤ 524288 := by omega
      have hcl : cAt o n k < n := by rw [← hR.out.2.1]; exact hlt
      obtain ⟨a, ha⟩ : ∃ a, a = o / 64 + k := ⟨_, rfl⟩
      obtain ⟨r, hr⟩ : ∃ r, r = (o + c) % 64 := ⟨_, rfl⟩
      have hpa : p / 64 = a := by rw [hR.out.1, ha, hR.out.2.1]; exact cAt_sec o n k hcl
      have hqi : (p : Int) / 64 = (a : Nat) := by omega
      have hpr : p % 64 = r := by rw [hR.out.1, hr]
      have hri : (p : Int) % 64 = (r : Nat) := by omega
      have hr64 : r < 64 := by omega
      have has : a < s := by have := HN.out.2.2; have := HN.out.1; have := hR.out.1; omega
      obtain ⟨m, hm⟩ : ∃ m, m = min (64 - r) q := ⟨_, rfl⟩
      have hmb1 : m ≤ q ∧ 0 < m ∧ m ≤ 64 := by omega
      have hdr := HD.out.1.keep hR.out.2.2.2.1.fr (fun _ _ _ h => h)
      have hrd := aRead wr g s dv (a : Int) (by rw [HD.out.2.2.2]; decide) hdr
      rw [Dv.read_yes HD.out.2.2.1 HD.out.2.2.2 has] at hrd
      have hsl := secAt_length dv.all s a HD.out.2.1 has
      obtain ⟨S, hS⟩ : ∃ S, S = secAt dv.all a := ⟨_, rfl⟩
      rw [← hS] at hrd hsl
      have HRD := Lib.hid hrd
      have HSL := Lib.hid (And.intro hsl hS)
      have HM := Lib.hid (And.intro hm (And.intro hq (And.intro ha hr)))
      have hcut := fun W : World => run_cutLow W ao2 q cap2 m hmb1.1
      have HCL := Lib.hid hcl
      have HLAID := Lib.hid (laid_sec dv.all s o k X HD.out.2.1 HN.out.2.2 (by rw [← HN.out.1]; exact hcl) c r m (by rw [← HN.out.1]; exact hR.out.2.1) hr (by rw [hm, hqb, HN.out.1]))
      have HTL := Lib.hid (show (X.drop c) ≠ [] from fun h => by rw [h] at hq; simp at hq; omega)
      have HKEY := Lib.hid (keyOf_int_mk (P := Tryz.prog) Tryz.underlying3 (a := ((a : Nat) : Int)) (WalkArith.wf_i64 (by omega)))
      have HQB := Lib.hid (And.intro hqb (And.intro hmb1 (And.intro hp (And.intro hcn hlt))))
      have hmp : (p : Int) + (m : Int) ≤ 2000000 := by omega
      have hm0 : 0 < m := hmb1.2.1
      have hmq : m ≤ q := hmb1.1
      clear hdr hrd hsl hS hq hqb ha hr hpa hpr hm hcl hxl hmb1 hcn hlt
      go_wp2_with (first
        | (go_at_call 53; refine HRD.out.mono ?_; rintro e w1 ⟨v, rfl, ht, hf1⟩; obtain ⟨g1, T, C, capr, rfl, hg1, hC, hCs, hc64, hcm, hCL⟩ := ht.block HSL.out.1; (have hsl5 := fun W : World => op_slice_lo5 W g1 capr r hr64 hc64); obtain ⟨w2, C2, hcp, hC2, hC2s, hC2L, hf2⟩ := copy_told w1 g1 T C S (X.drop c) (.slice ao2 q cap2) capr r m hC hCs HSL.out.1 hc64 hCL hr64 (hXB.out.keep hf1 (fun _ _ _ h => h)) HTL.out (by rw [HM.out.1, HM.out.2.1]); (have HCP := Lib.hid hcp); (have H2 := Lib.hid (And.intro (hf1.trans hf2 (fun j e => .inr (by rw [show j = g1 from e]; exact hg1))) (And.intro hg1 (And.intro hC2 (And.intro hC2s (And.intro hc64 (And.intro hcm hC2L))))))); clear ht hf1 hC hCs hcm hCL hcp hC2 hC2s hC2L hf2 hg1)
        | (refine wpList_value rfl (.int .i64 m) w2 (op_copy rfl rfl rfl HCP.out) ?_)
        | (at_mapUpdate; refine wpList_mapUpdate_own w2 rfl (.tmp 36) (.tmp 37) (.tmp 38) 223 rfl 3 43 (int_keyed Tryz.underlying3) Tryz.underlying223 heldR mb k (mD (o / 64) vs k) (by rw [HN.out.2.1]; rfl) (ownsMap_fr hR.out.2.2.2.1.map H2.out.1) (by have := hR.out.2.2.1; unfold manySecs at this; unfold maxLen; split at this <;> omega) (.int .i64 a) (.slice (some ⟨g1, 0, none⟩) 64 capr) _ rfl rfl HKEY.out (.held (.slice (some ⟨g1, 0, none⟩) 64 capr)) [] rfl ?_; intro w3 hm3 hgr3; (have H3 := Lib.hid (And.intro hm3 hgr3)); clear hm3 hgr3))
      go_roundw
      case rel =>
        have hcs : c + m = cAt o n (k + 1) := by
          rw [← cAt_succ o n k HCL.out, ← hR.out.2.1, HM.out.1, HM.out.2.2.2, HQB.out.1]
        have hsec : (secAt (over4 dv.all o X) (o / 64 + k)).length = 64 := secAt_length _ s _ (by rw [over4_length _ _ _ (by rw [HD.out.2.1]; exact HN.out.2.2)]; exact HD.out.2.1) (by rw [← HM.out.2.2.1]; exact has)
        have hf3 : Fr (fun j => j = mb) w2 w3 := (Fr.refl _ w2).grown H3.out.2 (fun j hj => .inl (Option.some.inj hj).symm)
        refine ⟨p + m, c + m, k + 1, _, by have := HQB.out.2.1; have := HQB.out.1; omega, by omega, by go_num, Lib.hid ⟨by rw [hR.out.1, Nat.add_assoc], hcs, cAt_many o n k HCL.out, hR.out.2.2.2.1.step H2.out.1 (by rw [HN.out.2.1]; exact Nat.le_refl _) hR.out.2.2.2.2 H2.out.2.1 hsec H2.out.2.2.1 H2.out.2.2.2.1 H2.out.2.2.2.2.1 H2.out.2.2.2.2.2.1 (by rw [← HLAID.out, ← HM.out.2.2.1, ← HSL.out.2]; exact H2.out.2.2.2.2.2.2) (by have h := H3.out.1; rw [HM.out.2.2.1] at h; exact h) H3.out.2, ?_⟩, ?_⟩
        · exact Nat.lt_of_lt_of_le (Nat.lt_of_lt_of_le hR.out.2.2.2.2 H2.out.1.size) hf3.size
        · have h := ((hXB.out.keep H2.out.1 (fun _ _ _ h => h)).keep hf3 (fun j _ h e => by have := HN.out.2.1; have e' : j = mb := e; have := h.2; omega)).cutLow m (by rw [← HM.out.2.1]; exact HQB.out.2.1.1)
          rw [List.drop_drop] at h
          exact Lib.hid h
      case measure => simp [intOf]; omega
    · have hq0 : q = 0 := by omega
      subst hq0
      have HP := Lib.hid (show w.heap.size ≤ mb ∧ LaidAt w wr mb o (manySecs o n) X dv.all vs by
        have hcn2 : cAt o n k = n := by rw [← hR.out.2.1]; omega
        refine ⟨by rw [HN.out.2.1]; exact Nat.le_refl _, ?_⟩
        rw [← cAt_done o n k hR.out.2.2.1 hcn2]
        exact hR.out.2.2.2.1)
      have HMB := Lib.hid (HN.out.2.1)
      clear hR hXB hq hqb hcn hlt hxl
      go_wp2
      go_ret2
      exact ⟨mb, vs, by rw [HMB.out]; rfl, HP.out⟩
end Go.Proofs.YtiinmilfgclddaaGreat

/- Entering functions; places of fields. Printed by gen_jent.py (wip/gen). -/
namespace Go.Proofs.YtiinmilfgclddaaGreat
open Go.RowKit Go.ChangeShapes
set_option linter.unusedVariables false

theorem ent_spence_log_isMany (args : Array Value) (w : World) : (callFunc 24 args).run Tryz.prog w = .ok (.enter 24 args) w := by kernel_rfl
theorem ent_spence_log_dataAt (args : Array Value) (w : World) : (callFunc 25 args).run Tryz.prog w = .ok (.enter 25 args) w := by kernel_rfl
theorem ent_spence_log_areaAt (args : Array Value) (w : World) : (callFunc 50 args).run Tryz.prog w = .ok (.enter 50 args) w := by kernel_rfl
theorem ent_spence_log_Right (args : Array Value) (w : World) : (callFunc 7 args).run Tryz.prog w = .ok (.enter 7 args) w := by kernel_rfl
theorem ent_spence_log_Sectors (args : Array Value) (w : World) : (callFunc 9 args).run Tryz.prog w = .ok (.enter 9 args) w := by kernel_rfl
theorem ent_spence_log_fits (args : Array Value) (w : World) : (callFunc 51 args).run Tryz.prog w = .ok (.enter 51 args) w := by kernel_rfl
theorem ent_spence_log_tell (args : Array Value) (w : World) : (callFunc 52 args).run Tryz.prog w = .ok (.enter 52 args) w := by kernel_rfl
theorem ent__spence_log_head__bytes (args : Array Value) (w : World) : (callFunc 89 args).run Tryz.prog w = .ok (.enter 89 args) w := by kernel_rfl
theorem ent_spence_log_padded (args : Array Value) (w : World) : (callFunc 127 args).run Tryz.prog w = .ok (.enter 127 args) w := by kernel_rfl
theorem ent_spence_log_headOf (args : Array Value) (w : World) : (callFunc 54 args).run Tryz.prog w = .ok (.enter 54 args) w := by kernel_rfl
theorem ent__spence_log_head__within (args : Array Value) (w : World) : (callFunc 55 args).run Tryz.prog w = .ok (.enter 55 args) w := by kernel_rfl
theorem ent__spence_log_head__room (args : Array Value) (w : World) : (callFunc 96 args).run Tryz.prog w = .ok (.enter 96 args) w := by kernel_rfl
theorem ent__spence_log_head__last (args : Array Value) (w : World) : (callFunc 106 args).run Tryz.prog w = .ok (.enter 106 args) w := by kernel_rfl
theorem ent__spence_log_head__appended (args : Array Value) (w : World) : (callFunc 108 args).run Tryz.prog w = .ok (.enter 108 args) w := by kernel_rfl
theorem ent__spence_log_head__switched (args : Array Value) (w : World) : (callFunc 109 args).run Tryz.prog w = .ok (.enter 109 args) w := by kernel_rfl
theorem ent_spence_log_read (args : Array Value) (w : World) : (callFunc 56 args).run Tryz.prog w = .ok (.enter 56 args) w := by kernel_rfl
theorem ent_spence_log_records (args : Array Value) (w : World) : (callFunc 57 args).run Tryz.prog w = .ok (.enter 57 args) w := by kernel_rfl
theorem ent_spence_log_laid (args : Array Value) (w : World) : (callFunc 161 args).run Tryz.prog w = .ok (.enter 161 args) w := by kernel_rfl
theorem ent_spence_log_write (args : Array Value) (w : World) : (callFunc 137 args).run Tryz.prog w = .ok (.enter 137 args) w := by kernel_rfl
theorem ent_spence_log_Format (args : Array Value) (w : World) : (callFunc 26 args).run Tryz.prog w = .ok (.enter 26 args) w := by kernel_rfl
theorem ent_spence_log_Open (args : Array Value) (w : World) : (callFunc 27 args).run Tryz.prog w = .ok (.enter 27 args) w := by kernel_rfl
theorem ent___spence_log_Journal__isJournal (args : Array Value) (w : World) : (callFunc 134 args).run Tryz.prog w = .ok (.enter 134 args) w := by kernel_rfl
theorem ent___spence_log_Journal__ready (args : Array Value) (w : World) : (callFunc 100 args).run Tryz.prog w = .ok (.enter 100 args) w := by kernel_rfl
theorem ent___spence_log_Journal__Area (args : Array Value) (w : World) : (callFunc 58 args).run Tryz.prog w = .ok (.enter 58 args) w := by kernel_rfl
theorem ent___spence_log_Journal__Records (args : Array Value) (w : World) : (callFunc 59 args).run Tryz.prog w = .ok (.enter 59 args) w := by kernel_rfl
theorem ent___spence_log_Journal__Room (args : Array Value) (w : World) : (callFunc 73 args).run Tryz.prog w = .ok (.enter 73 args) w := by kernel_rfl
theorem ent___spence_log_Journal__Append (args : Array Value) (w : World) : (callFunc 74 args).run Tryz.prog w = .ok (.enter 74 args) w := by kernel_rfl
theorem ent___spence_log_Journal__Switch (args : Array Value) (w : World) : (callFunc 75 args).run Tryz.prog w = .ok (.enter 75 args) w := by kernel_rfl
theorem ent___spence_log_Journal__Round (args : Array Value) (w : World) : (callFunc 103 args).run Tryz.prog w = .ok (.enter 103 args) w := by kernel_rfl
theorem ent___spence_log_Journal__heed (args : Array Value) (w : World) : (callFunc 135 args).run Tryz.prog w = .ok (.enter 135 args) w := by kernel_rfl
theorem ent___spence_log_Journal__read (args : Array Value) (w : World) : (callFunc 101 args).run Tryz.prog w = .ok (.enter 101 args) w := by kernel_rfl
theorem ent___spence_log_Journal__step (args : Array Value) (w : World) : (callFunc 107 args).run Tryz.prog w = .ok (.enter 107 args) w := by kernel_rfl
theorem ent___spence_dev_Device__Read (args : Array Value) (w : World) : (callFunc 53 args).run Tryz.prog w = .ok (.enter 53 args) w := by kernel_rfl
theorem ent___spence_dev_Device__Write (args : Array Value) (w : World) : (callFunc 88 args).run Tryz.prog w = .ok (.enter 88 args) w := by kernel_rfl
theorem ent___spence_dev_Device__Flush (args : Array Value) (w : World) : (callFunc 90 args).run Tryz.prog w = .ok (.enter 90 args) w := by kernel_rfl
theorem ent___spence_dev_Device__Wake (args : Array Value) (w : World) : (callFunc 17 args).run Tryz.prog w = .ok (.enter 17 args) w := by kernel_rfl
theorem ent___spence_dev_Device__Fuse (args : Array Value) (w : World) : (callFunc 13 args).run Tryz.prog w = .ok (.enter 13 args) w := by kernel_rfl
theorem ent_bytes_Equal (args : Array Value) (w : World) : (callFunc 95 args).run Tryz.prog w = .ok (.enter 95 args) w := by kernel_rfl
theorem ent_spence_spencekit_Pick (args : Array Value) (w : World) : (callFunc 12 args).run Tryz.prog w = .ok (.enter 12 args) w := by kernel_rfl
theorem ent_spence_spencekit_SameBytes (args : Array Value) (w : World) : (callFunc 21 args).run Tryz.prog w = .ok (.enter 21 args) w := by kernel_rfl
theorem ent_spence_spenceref05_Sectors (args : Array Value) (w : World) : (callFunc 23 args).run Tryz.prog w = .ok (.enter 23 args) w := by kernel_rfl
theorem ent_spence_spenceref05_Right (args : Array Value) (w : World) : (callFunc 49 args).run Tryz.prog w = .ok (.enter 49 args) w := by kernel_rfl
theorem ent_spence_spenceref05_Format (args : Array Value) (w : World) : (callFunc 47 args).run Tryz.prog w = .ok (.enter 47 args) w := by kernel_rfl
theorem ent_spence_spenceref05_Open (args : Array Value) (w : World) : (callFunc 118 args).run Tryz.prog w = .ok (.enter 118 args) w := by kernel_rfl
theorem fld_spence_api_Shape_0_0 (w : World) (g : Nat) : (Instr.fieldAt 23 (.pointer (some ⟨g, 0, none⟩)) 0).run Tryz.prog w = .ok (.pointer (some ⟨g, 0, none⟩)) w := by kernel_rfl
theorem fld_spence_api_Shape_0_5 (w : World) (g : Nat) : (Instr.fieldAt 23 (.pointer (some ⟨g, 5, none⟩)) 0).run Tryz.prog w = .ok (.pointer (some ⟨g, 5, none⟩)) w := by kernel_rfl
theorem fld_spence_api_Shape_1_0 (w : World) (g : Nat) : (Instr.fieldAt 23 (.pointer (some ⟨g, 0, none⟩)) 1).run Tryz.prog w = .ok (.pointer (some ⟨g, 1, none⟩)) w := by kernel_rfl
theorem fld_spence_api_Shape_1_5 (w : World) (g : Nat) : (Instr.fieldAt 23 (.pointer (some ⟨g, 5, none⟩)) 1).run Tryz.prog w = .ok (.pointer (some ⟨g, 6, none⟩)) w := by kernel_rfl
theorem fld_spence_api_Shape_2_0 (w : World) (g : Nat) : (Instr.fieldAt 23 (.pointer (some ⟨g, 0, none⟩)) 2).run Tryz.prog w = .ok (.pointer (some ⟨g, 2, none⟩)) w := by kernel_rfl
theorem fld_spence_api_Shape_2_5 (w : World) (g : Nat) : (Instr.fieldAt 23 (.pointer (some ⟨g, 5, none⟩)) 2).run Tryz.prog w = .ok (.pointer (some ⟨g, 7, none⟩)) w := by kernel_rfl
theorem fld_spence_log_head_0_0 (w : World) (g : Nat) : (Instr.fieldAt 106 (.pointer (some ⟨g, 0, none⟩)) 0).run Tryz.prog w = .ok (.pointer (some ⟨g, 0, none⟩)) w := by kernel_rfl
theorem fld_spence_log_head_1_0 (w : World) (g : Nat) : (Instr.fieldAt 106 (.pointer (some ⟨g, 0, none⟩)) 1).run Tryz.prog w = .ok (.pointer (some ⟨g, 1, none⟩)) w := by kernel_rfl
theorem fld_spence_log_head_2_0 (w : World) (g : Nat) : (Instr.fieldAt 106 (.pointer (some ⟨g, 0, none⟩)) 2).run Tryz.prog w = .ok (.pointer (some ⟨g, 2, none⟩)) w := by kernel_rfl
theorem fld_spence_log_head_3_0 (w : World) (g : Nat) : (Instr.fieldAt 106 (.pointer (some ⟨g, 0, none⟩)) 3).run Tryz.prog w = .ok (.pointer (some ⟨g, 3, none⟩)) w := by kernel_rfl
theorem fld_spence_log_Journal_0_0 (w : World) (g : Nat) : (Instr.fieldAt 114 (.pointer (some ⟨g, 0, none⟩)) 0).run Tryz.prog w = .ok (.pointer (some ⟨g, 0, none⟩)) w := by kernel_rfl
theorem fld_spence_log_Journal_1_0 (w : World) (g : Nat) : (Instr.fieldAt 114 (.pointer (some ⟨g, 0, none⟩)) 1).run Tryz.prog w = .ok (.pointer (some ⟨g, 4, none⟩)) w := by kernel_rfl
theorem fld_spence_log_Journal_2_0 (w : World) (g : Nat) : (Instr.fieldAt 114 (.pointer (some ⟨g, 0, none⟩)) 2).run Tryz.prog w = .ok (.pointer (some ⟨g, 5, none⟩)) w := by kernel_rfl
theorem fld_spence_log_Journal_3_0 (w : World) (g : Nat) : (Instr.fieldAt 114 (.pointer (some ⟨g, 0, none⟩)) 3).run Tryz.prog w = .ok (.pointer (some ⟨g, 8, none⟩)) w := by kernel_rfl
theorem fld_spence_log_Journal_4_0 (w : World) (g : Nat) : (Instr.fieldAt 114 (.pointer (some ⟨g, 0, none⟩)) 4).run Tryz.prog w = .ok (.pointer (some ⟨g, 9, none⟩)) w := by kernel_rfl
end Go.Proofs.YtiinmilfgclddaaGreat

/- Contract: log.write. -/
namespace Go.Proofs.YtiinmilfgclddaaGreat
open Go.RowKit Go.ChangeShapes Go.Maps Go.Sort
set_option linter.unusedVariables false

theorem Dv.puts_append (s : Nat) : ∀ (A B : List Pend) (d : Dv), d.puts s (A ++ B) = if (d.puts s A).1 = 0 then (d.puts s A).2.puts s B else d.puts s A
  | [], B, d => by simp [Dv.puts]
  | p :: A, B, d => by
    rw [List.cons_append, Dv.puts, Dv.puts]
    by_cases h : (d.write s p.1 p.2).1 = 0
    · rw [if_pos h, if_pos h]
      exact Dv.puts_append s A B _
    · rw [if_neg h, if_neg h, if_neg h]
theorem Dv.puts_one (s : Nat) (p : Pend) (d : Dv) : d.puts s [p] = d.write s p.1 p.2 := by
  rw [Dv.puts]
  split
  · rename_i h
    rw [Dv.puts, ← h]
  · rfl
theorem Dv.puts_step (s : Nat) (ps : List Pend) (d : Dv) (i : Nat) (hi : i < ps.length) (h : (d.puts s (ps.take i)).1 = 0) : d.puts s (ps.take (i + 1)) = (d.puts s (ps.take i)).2.write s ps[i].1 ps[i].2 := by
  rw [List.take_succ_eq_append_getElem hi, Dv.puts_append, if_pos h, Dv.puts_one]
theorem Dv.puts_stop (s : Nat) (ps : List Pend) (d : Dv) (i : Nat) (h : (d.puts s (ps.take i)).1 ≠ 0) : d.puts s ps = d.puts s (ps.take i) := by
  conv => lhs; rw [← List.take_append_drop i ps]
  rw [Dv.puts_append, if_neg h]
theorem secsOf_get (K : List UInt8) (a n i : Nat) (hi : i < (secsOf K a n).length) : (secsOf K a n)[i] = (a + i, secAt K (a + i)) := by
  simp [secsOf]
theorem ownsRow_form5 {w : World} {z n : Nat} {e : TypeId} {v : Value} {vs : List Value} (h : w.ownsRow z e 1 v n vs) : ∃ ao c, v = .slice ao n c ∧ n ≤ c ∧ c ≤ 9223372036854775807 ∧ (0 < n → ∃ g, ao = some ⟨g, 0, none⟩ ∧ z ≤ g ∧ g < w.heap.size ∧ ∀ j (hj : j < vs.length), w.cell? ⟨g, j, none⟩ = some vs[j]) := by
  have hl : vs.length = n := by simpa using h.1
  rcases h.2 with ⟨rfl, h0⟩ | ⟨g, cap, cur, rfl, hb, hg, hnc, hcm, hcs, ht⟩
  · exact ⟨none, 0, by rw [h0], by omega, by omega, fun hn => by omega⟩
  · unfold maxLen at hcm
    exact ⟨_, cap, rfl, hnc, by omega, fun _ => ⟨g, rfl, hb, lt_of_block hg, fun j hj => by
      rw [World.ownsRow.cellAt h j (by omega), List.getElem?_eq_getElem hj]⟩⟩

/-- What write leaves of the device, behind k sectors. -/
structure WroteAt (D : Nat → Prop) (w w2 wr : World) (g s k : Nat) (dv : Dv) (ps : List Pend) : Prop where
  ok : (dv.puts s (ps.take k)).1 = 0
  dev : DevAt wr (fun j => (D j ∧ j < w.heap.size) ∨ w2.heap.size ≤ j) g s (dv.puts s (ps.take k)).2
  fr : Fr (fun j => (D j ∧ j < w.heap.size) ∨ w2.heap.size ≤ j) w2 wr
def WritePost (D : Nat → Prop) (w : World) (g s : Nat) (r : Int × Dv) (e : Ending) (w' : World) : Prop := e = .returned (.int .i64 r.1) ∧ DevAt w' (More D w) g s r.2 ∧ Fr D w w'
theorem WroteAt.post {D : Nat → Prop} {w w2 wr : World} {g s : Nat} {d2 : Dv} (hf : Fr (fun _ => False) w w2) (hd : DevAt wr (fun j => (D j ∧ j < w.heap.size) ∨ w2.heap.size ≤ j) g s d2) (hr : Fr (fun j => (D j ∧ j < w.heap.size) ∨ w2.heap.size ≤ j) w2 wr) : DevAt wr (More D w) g s d2 ∧ Fr D w wr :=
  ⟨hd.mono fun j _ h => h.elim (fun h => .inl h.1) (fun h => .inr (Nat.le_trans hf.size h)), (hf.mono (T := D) (fun _ _ h => h.elim)).trans hr fun j h => h.elim (fun h => .inl h.1) (fun h => .inr (Nat.le_trans hf.size h))⟩
/-- One sector written. -/
theorem lWrite_one {D G : Nat → Prop} (w w2 wr : World) (g s k : Nat) (dv : Dv) (ps : List Pend) (y : Value) (hs : s ≤ 8192) (hp : Pends s ps) (hk : k < ps.length) (hup : dv.down = false) (hw : dv.waits = []) (hk6 : dv.deeds ≤ 900000000) (hpl : ps.length ≤ 100000)
    (h : WroteAt D w w2 wr g s k dv ps) (hy : BytesIn G w2 y ps[k].2) (hG : ∀ j, G j → w.heap.size ≤ j ∧ j < w2.heap.size) :
    Calls Tryz.prog 88 #[.pointer (some ⟨g, 0, none⟩), .int .i64 (ps[k].1 : Nat), y] wr fun e w' => e = .returned (.int .i64 (dv.puts s (ps.take (k + 1))).1) ∧ DevAt w' (fun j => (D j ∧ j < w.heap.size) ∨ w2.heap.size ≤ j) g s (dv.puts s (ps.take (k + 1))).2 ∧ Fr (fun j => (D j ∧ j < w.heap.size) ∨ w2.heap.size ≤ j) w2 w' := by
  rw [Dv.puts_step s ps dv k hk h.ok]
  have hpk : Pends s (ps.take k) := fun p hm => hp p (List.mem_of_mem_take hm)
  have hl : (ps.take k).length = k := by rw [List.length_take]; omega
  have hq : (dv.puts s (ps.take k)).2.waits.length = k ∧ (dv.puts s (ps.take k)).2.deeds = dv.deeds + k := by
    rcases Dv.puts_cases s (ps.take k) dv hup hpk with ⟨_, _, a3, _, a5, _⟩ | ⟨_, b1, _⟩
    · rw [a3, a5, hw, List.nil_append, hl]
      exact ⟨rfl, rfl⟩
    · rw [h.ok] at b1
      cases b1
  have hps := hp ps[k] (List.getElem_mem hk)
  have hsz := h.fr.size
  refine (aWrite wr g s _ (ps[k].1 : Nat) y ps[k].2 (by omega) (by omega) (by omega) (by omega) (hy.keep h.fr (fun j hj hg hh => by have := hG j hg; omega)) (fun j hj hg hh => by have := hG j hg; omega) h.dev).mono ?_
  rintro e w' ⟨rfl, hd, hf⟩
  refine ⟨rfl, hd.mono fun j _ hh => hh.elim id (fun h2 => .inr (by omega)), h.fr.trans hf fun j hh => .inl hh⟩
theorem ownsMap_frS {S : Nat → Prop} {w w' : World} {b n : Nat} {D : DataW Value} (h : w.ownsMap Tryz.prog 3 heldR b n D) (hf : Fr S w w') (hS : ¬ S b) : w'.ownsMap Tryz.prog 3 heldR b n D := by
  obtain ⟨es, clock, hb, rest⟩ := h
  exact ⟨es, clock, hf.heap hb hS, rest⟩

set_option maxRecDepth 100000 in
set_option maxHeartbeats 4000000 in
theorem lWrite_any {D G : Nat → Prop} (w : World) (g s o : Nat) (dv : Dv) (vb : Value) (X : List UInt8) (hd : DevAt w D g s dv) (hup : dv.down = false) (hw : dv.waits = []) (hs : s ≤ 8192) (ho : o + X.length ≤ 64 * s) (hb : BytesIn G w vb X) (hk6 : dv.deeds ≤ 900000000) :
    Calls Tryz.prog 137 #[.pointer (some ⟨g, 0, none⟩), .int .i64 o, vb] w (WritePost D w g s (dv.puts s (secsAt dv.all o X))) := by
  have HLD := Lib.hid (lLaid_any w g s o dv vb X hd hup hw hs ho hb)
  obtain ⟨ps, hps⟩ : ∃ ps, ps = secsAt dv.all o X := ⟨_, rfl⟩
  have hpl : ps.length = manySecs o X.length := by rw [hps]; exact secsOf_length _ _ _
  have hpr : Pends s ps := by rw [hps]; exact secsAt_right hd.right.all ho
  have hget : ∀ i (h : i < ps.length), ps[i] = (o / 64 + i, secAt (over4 dv.all o X) (o / 64 + i)) := by
    intro i h
    subst hps
    exact secsOf_get _ _ _ i h
  have hm := manySecs_le s o X.length ho
  obtain ⟨n, hn⟩ : ∃ n, n = manySecs o X.length := ⟨_, rfl⟩
  have hnb : o / 64 + n ≤ 1000000 := by
    rcases hm with h | h
    · unfold firstSec at h; omega
    · rw [hn, manySecs, if_pos h]; omega
  have hnb2 : n ≤ 8192 := by
    rcases hm with h | h
    · omega
    · rw [hn, manySecs, if_pos h]; omega
  rw [← hps]
  rw [← hn] at HLD hpl
  have HD := Lib.hid (And.intro hd (And.intro hup (And.intro hw hk6)))
  have HP := Lib.hid (And.intro hpl (And.intro hpr (And.intro hget (And.intro hnb hnb2))))
  obtain ⟨ab, cb, hvb, _⟩ := hb
  subst hvb
  obtain ⟨lb, hlb⟩ : ∃ lb, lb = X.length := ⟨_, rfl⟩
  rw [← hlb] at HLD ⊢
  clear hd hup hw hk6 hpl hpr hget hnb hnb2 hm hn hps ho hlb
  go_enter Tryz.func137, Tryz.ntmps137
  go_wp2_with (first
    | (go_at_call 161; refine HLD.out.mono ?_; rintro e w1 ⟨mb, vs, rfl, hmb, hL⟩; (have HL := Lib.hid (And.intro hmb hL)); clear hmb hL)
    | (go_at_call 163; refine (keysP_any w1 mb).mono ?_; rintro e w1b ⟨rfl, rfl⟩)
    | (go_at_call 162; refine (sortedP_any mb n (mD (o / 64) vs n) heldR w1 HL.out.2.map (by rw [mD_size]; have := HP.out.2.2.2.2; unfold maxLen; omega) (by rw [mD_size]; have := HP.out.2.2.2.2; omega)).mono ?_; rintro e w2 ⟨v, ss, rfl, hp, hrow, hnil, hbel⟩; obtain ⟨ao3, c3, rfl, l3a, l3b, l3c⟩ := ownsRow_form5 hrow; obtain ⟨n2, hn2⟩ : ∃ n2, n2 = ss.length := ⟨_, rfl⟩; rw [← hn2]; rw [← hn2] at l3a; (have H3 := Lib.hid (And.intro hp (And.intro hn2 (And.intro hbel l3c)))); clear hp hrow hnil hbel l3c hn2))
  have hfw : Fr (fun _ => False) w1 w2 := ((Fr.refl (fun _ => False) w1).alloc _).trans (T := fun k => (w1.alloc (.cells #[.map (some mb)] 223)).heap.size ≤ k) (Fr.ofBelow H3.out.2.2.1) (fun k h => .inr (Nat.le_trans (by simp) h))
  have hfw2 : Fr (fun _ => False) w w2 := HL.out.2.fr.trans hfw (fun _ h => h.elim)
  have hnn : n2 = n := by rw [H3.out.2.1]; exact mD_count _ _ _ _ H3.out.1
  have hsort := mD_sorted _ _ _ _ H3.out.1
  have hmbl : mb < w1.heap.size := HL.out.2.map.lt
  have hrow : 0 < n2 → ∃ gr, ao3 = some ⟨gr, 0, none⟩ ∧ w.heap.size ≤ gr ∧ gr < w2.heap.size ∧ ∀ i, i < n2 → w2.cell? ⟨gr, i, none⟩ = some (.int .i64 ((o / 64 + i : Nat) : Int)) := by
    intro h0
    obtain ⟨gr, e1, e2, e3, e4⟩ := H3.out.2.2.2 (by rw [← H3.out.2.1]; exact h0)
    refine ⟨gr, e1, ?_, e3, fun i hi => ?_⟩
    · have := HL.out.2.fr.size
      simp at e2
      omega
    · have h1 := e4 i (by rw [List.length_map, List.length_mergeSort, ← H3.out.2.1]; exact hi)
      rw [h1]
      simp only [hsort, List.getElem_map, List.getElem_range]
  have HF2 := Lib.hid (And.intro hfw hfw2)
  have HR := Lib.hid (And.intro hrow (And.intro hmbl hnn))
  have h0 : WroteAt D w w2 w2 g s 0 dv ps := ⟨rfl, (HD.out.1.mono (E := fun j => D j ∧ j < w.heap.size) (fun j hj h => ⟨h, hj⟩)).keep hfw2 (fun _ _ _ h => h) |>.mono (fun j _ h => .inl h), Fr.refl _ _⟩
  have H0 := Lib.hid h0
  have hn2b : n2 ≤ 8192 := by rw [hnn]; exact HP.out.2.2.2.2
  clear h0 hrow hmbl hnn hsort hfw hfw2
  go_loopw [26] (fun iv wr => ∃ k : Nat, k ≤ n2 ∧ iv = .int .i64 k ∧ Hid (WroteAt D w w2 wr g s k dv ps)) (fun iv _ => n2 - (intOf iv).toNat)
  case atStart => exact ⟨0, by omega, rfl, H0⟩
  case round =>
    obtain ⟨k, hk, rfl, hR⟩ := hrel
    clear H0
    by_cases hlt : k < n2
    · obtain ⟨gr, rfl, hg1, hg2, hcell⟩ := HR.out.1 (by omega)
      have hkp : k < ps.length := by rw [HP.out.1, ← HR.out.2.2]; exact hlt
      obtain ⟨x, hx⟩ : ∃ x, x = o / 64 + k := ⟨_, rfl⟩
      obtain ⟨y, hy⟩ : ∃ y, y = vs k := ⟨_, rfl⟩
      have hc := hR.out.fr.cell (hcell k hlt) (by simp only; omega)
      have hmr := ownsMap_frS (ownsMap_fr HL.out.2.map HF2.out.1) hR.out.fr (by have := HL.out.1; have := HR.out.2.1; have := HF2.out.1.size; omega)
      have hlk := mD_lookup hmr k (by rw [← HR.out.2.2]; exact hlt) HP.out.2.2.2.1
      have hyb : BytesIn (fun j => w.heap.size ≤ j ∧ j < w2.heap.size) w2 (vs k) ps[k].2 := by
        rw [HP.out.2.2.1 k hkp]
        have h := (HL.out.2.secs k (by rw [← HR.out.2.2]; exact hlt)).bytes
        exact (h.mono (G := fun j => w.heap.size ≤ j ∧ j < w2.heap.size) (fun j hj h => ⟨h.1, Nat.lt_of_lt_of_le hj HF2.out.1.size⟩)).keep HF2.out.1 (fun _ _ _ h => h)
      have hwo := lWrite_one w w2 wr g s k dv ps (vs k) hs HP.out.2.1 hkp HD.out.2.1 HD.out.2.2.1 HD.out.2.2.2 (by rw [HP.out.1]; have := HP.out.2.2.2.2; omega) hR.out hyb (fun _ h => h)
      have e1 : ps[k].1 = x := by rw [HP.out.2.2.1 k hkp, hx]
      rw [e1, ← hy] at hwo
      rw [← hx, ← hy] at hlk
      rw [← hx] at hc
      obtain ⟨e, he⟩ : ∃ e, e = (dv.puts s (ps.take (k + 1))).1 := ⟨_, rfl⟩
      rw [← he] at hwo
      have HE := Lib.hid he
      have HWO := Lib.hid hwo
      have hk0 : (0 : Int) ≤ (k : Int) := by omega
      have hk1 : (k : Int) < (n2 : Int) := by omega
      clear hcell hmr hyb hwo e1 he hkp hx hy
      by_cases h0 : e = 0
      · subst h0
        go_wp2_with (go_at_call 88; refine HWO.out.mono ?_; rintro e w5 ⟨rfl, hd5, hf5⟩; (have H5 := Lib.hid (And.intro hd5 hf5)); clear hd5 hf5)
        go_roundw
        case rel => exact ⟨k + 1, by omega, by go_num, Lib.hid ⟨HE.out.symm, H5.out.1, H5.out.2⟩⟩
        case measure => simp [intOf]; omega
      · have hb : (e != 0) = true := by rw [bne_iff_ne]; exact h0
        have HST := Lib.hid (Dv.puts_stop s ps dv (k + 1) (by rw [← HE.out]; exact h0))
        clear h0
        go_wp2_with (go_at_call 88; refine HWO.out.mono ?_; rintro e w5 ⟨rfl, hd5, hf5⟩; (have H5 := Lib.hid (And.intro hd5 hf5)); clear hd5 hf5)
        go_ret
        have hp := WroteAt.post HF2.out.2 H5.out.1 H5.out.2
        unfold WritePost
        rw [HST.out, ← HE.out]
        exact ⟨rfl, hp⟩
    · obtain rfl : k = n2 := by omega
      have HQ := Lib.hid (show DevAt wr (More D w) g s (dv.puts s ps).2 ∧ Fr D w wr ∧ (dv.puts s ps).1 = 0 by
        have h1 := WroteAt.post HF2.out.2 hR.out.dev hR.out.fr
        have h2 := hR.out.ok
        rw [List.take_of_length_le (by rw [HP.out.1, ← HR.out.2.2]; exact Nat.le_refl _)] at h1 h2
        exact ⟨h1.1, h1.2, h2⟩)
      clear hR
      go_wp2
      go_ret
      unfold WritePost
      rw [HQ.out.2.2]
      exact ⟨rfl, HQ.out.1, HQ.out.2.1⟩
end Go.Proofs.YtiinmilfgclddaaGreat

