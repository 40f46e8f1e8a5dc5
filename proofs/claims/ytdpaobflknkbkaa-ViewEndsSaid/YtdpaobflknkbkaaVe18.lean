/- Laid together: VDo VSame VLd VLp VAc -/
import Derived.Test.YtdpaobflknkbkaaVe2
import Derived.Test.YtdpaobflknkbkaaVe3
import Derived.Deep.QuietTactic
import Derived.BigQuiet
import Derived.Test.YtdpaobflknkbkaaVe16
import Derived.Test.YtdpaobflknkbkaaVe17

namespace Go.Proofs.Ytdpaobflknkbkaa
open Go.RowKit Go.ChangeShapes
set_option linter.unusedVariables false
def doS (s : VS) (d : DeedD) : VS := if d.what % 6 = 2 then unrootS s d.who d.name.data.toList else if d.what % 6 = 3 ∨ d.what % 6 = 4 then noteS s d.who d.name.data.toList d.V else if d.what % 6 = 5 then unnoteS s d.who d.name.data.toList else rootS s d.who d.name.data.toList d.p
structure DeedC (X : Array Value) (d : DeedD) : Prop where
  size : X.size = 25
  c0 : X[0]? = some (.int .i64 d.what)
  c1 : X[1]? = some (.int .i64 d.who)
  c2 : X[2]? = some (.string d.name)
  pa : ∀ j u, (cellsX d.p)[j]? = some u → X[3 + j]? = some u
  cv : X[24]? = some d.xv
  wf : IntOk d.what ∧ IntOk d.who
  fit : d.name.size ≤ 140737488351232 ∧ d.p.n.size ≤ 140737488351232 ∧ d.V.length ≤ 140737488351232
section
variable {F F' G S : Nat → Prop} {w w' : World} {A : VA} {n m : Nat} {s t : VS}
def VA.own (A : VA) : Nat → Prop := fun k => k = A.tr ∨ k = A.mr ∨ k = A.tn ∨ k = A.mn
theorem load_deed_path {W : World} {b : Nat} {X : Array Value} {d : DeedD} (hX : DeedC X d) (hb : W.heap[b]? = some (.cells X 46 (0, 0))) : (Instr.loadAt 43 (.pointer (some ⟨b, 3, none⟩))).run Try.prog W = .ok (.agg (pathC d.p.h d.p.n)) W := by
  have h1 : W.rangeAt b 3 (cellsX d.p) := fun j v hv => by
    rw [cell_of_row _ _ _ _ _ _ hb]
    exact hX.pa j v hv
  exact run_loadAt_mid W b 3 43 (cellsX d.p) _ h1 Try.underlying43 rfl (by rw [cellsX_length]; kernel_rfl)
end
end Go.Proofs.Ytdpaobflknkbkaa
namespace Go.Proofs.Ytdpaobflknkbkaa
open Go.RowKit Go.ChangeShapes
set_option linter.unusedVariables false
theorem RwsIn.open6 {F : Nat → Prop} {w : World} {v : Value} {l : List RowD} (h : RwsIn F w v l) : ∃ ao cap, v = .slice ao l.length cap ∧ l.length ≤ cap ∧ cap ≤ 9223372036854775807 ∧
    ∃ b off, (0 < l.length → ao = some ⟨b, off, none⟩ ∧ F b) ∧ ∀ i (h : i < l.length), w.cell? ⟨b, off + i * 2, none⟩ = some (.string l[i].key) ∧ w.cell? ⟨b, off + i * 2 + 1, none⟩ = some l[i].x := by
  obtain ⟨ao, cap, hv, h1, h2, h3, h4⟩ := h.el
  rw [List.length_map] at hv h1
  refine ⟨ao, cap, hv, h1, h2, ?_⟩
  by_cases hl : l = []
  · subst hl
    exact ⟨0, 0, fun h => by simp at h, fun i h => by simp at h⟩
  · obtain ⟨b, off, ha, hF, hi⟩ := h4 (by simpa using hl)
    refine ⟨b, off, fun _ => ⟨ha, hF⟩, fun i h => ?_⟩
    have g := fun j hj => hi i (by simpa using h) j hj
    have g0 := g 0 (by decide)
    have g1 := g 1 (by decide)
    rw [List.getElem_map] at g0 g1
    exact ⟨g0, g1⟩
theorem idxRw (W : World) (b f n c i : Nat) (h : i < n) : (Instr.indexAt 63 (.slice (some ⟨b, f, none⟩) n c) (.int .i64 i)).run Try.prog W = .ok (.pointer (some ⟨b, f + i * 2, none⟩)) W := by
  simp [Instr.indexAt, h, Addr.add, asIntOf]
theorem ldRw (W : World) (b o : Nat) (u x : Value) (h1 : W.cell? ⟨b, o, none⟩ = some u) (h2 : W.cell? ⟨b, o + 1, none⟩ = some x) (h0 : True = True) : (Instr.loadAt 73 (.pointer (some ⟨b, o, none⟩))).run Try.prog W = .ok (.agg #[u, x]) W := by
  refine run_loadAt_mid W b o 73 [u, x] _ (fun j v hv => ?_) Try.underlying73 rfl (by kernel_rfl)
  match j, hv with
  | 0, hv => simp only [List.getElem?_cons_zero, Option.some.injEq] at hv; subst hv; exact h1
  | 1, hv => simp only [List.getElem?_cons_succ, List.getElem?_cons_zero, Option.some.injEq] at hv; subst hv; exact h2
set_option maxRecDepth 100000 in
theorem sameRow_yes {F G : Nat → Prop} (w : World) (N : ByteArray) (x y : Value) (B : List UInt8) (hx : BytesIn F w x B) (hy : BytesIn G w y B) :
    Calls Try.prog 61 #[.agg #[.string N, x], .agg #[.string N, y]] w fun e w' => e = .returned (.bool true) ∧ Fr (fun _ => False) w w' := by
  obtain ⟨ax, cx, rfl, _⟩ := id hx
  obtain ⟨ay, cy, rfl, _⟩ := id hy
  have HS := Lib.hid (fun W (hW : Fr (fun _ => False) w W) => same_any _ _ B B W (hx.keep hW (fun _ _ _ h => h)) (hy.keep hW (fun _ _ _ h => h)))
  rw [show sameB B B = true by simp [sameB]] at HS
  have d2 : (N.toList == N.toList) = true := by simp
  clear hx hy
  go_enter Try.func61, Try.ntmps61
  go_wp2_with (go_at_call 30; refine (HS.out _ ?_).mono ?_; (exact ((Fr.refl _ _).alloc _).alloc _); rintro e w4 ⟨rfl, nq, rfl⟩)
  go_ret
  exact ⟨rfl, (((Fr.refl _ _).alloc _).alloc _).drewN _⟩
theorem op_not9 {P : Program} {w : World} {o : Oper} {a : Act} {t : TypeId} {x : Operand} (ho : o.op = .unOp .not t x) (hx : a.eval x = .bool true) : (execOp a.eval o).run P w = .ok (.value (.bool false)) w := by
  unfold execOp
  rw [ho]
  simp only [hx, Sem.run_bind]
  rfl
theorem ent_spence_spencekit_SameRow (args : Array Value) (w : World) : (callFunc 61 args).run Try.prog w = .ok (.enter 61 args) w := by kernel_rfl
def SlS (b1 o1 p1 ca b2 o2 p2 cb n k9 : Nat) (N : ByteArray) (xv yv : Value) (i : Nat) (v : Value) (W : World) : Prop :=
  match i with
  | 0 => v = .slice (some ⟨b1, o1, none⟩) n ca
  | 1 => v = .int .i64 (k9 : Nat)
  | 2 => v = .pointer (some ⟨b1, p1, none⟩)
  | 3 => v = .agg #[.string N, xv]
  | 4 => v = .slice (some ⟨b2, o2, none⟩) n cb
  | 5 => v = .int .i64 (k9 : Nat)
  | 6 => v = .pointer (some ⟨b2, p2, none⟩)
  | 7 => v = .agg #[.string N, yv]
  | 8 => v = .bool true
  | 9 => v = .bool false
  | _ => True
theorem SlS.ext (b1 o1 p1 ca b2 o2 p2 cb n k9 : Nat) (N : ByteArray) (xv yv : Value) : ∀ (j : Nat) (u : Value) (W W' : World), Fr (fun _ => False) W W' → SlS b1 o1 p1 ca b2 o2 p2 cb n k9 N xv yv j u W → SlS b1 o1 p1 ca b2 o2 p2 cb n k9 N xv yv j u W'
  | 0, u, W, W', hf, h => h
  | 1, u, W, W', hf, h => h
  | 2, u, W, W', hf, h => h
  | 3, u, W, W', hf, h => h
  | 4, u, W, W', hf, h => h
  | 5, u, W, W', hf, h => h
  | 6, u, W, W', hf, h => h
  | 7, u, W, W', hf, h => h
  | 8, u, W, W', hf, h => h
  | 9, u, W, W', hf, h => h
  | _ + 10, u, W, W', hf, h => trivial
set_option maxRecDepth 100000 in
set_option maxHeartbeats 4000000 in
theorem sameLines_yes {F G : Nat → Prop} (w : World) (va vb : Value) (la lb : List RowD) (ha : RwsIn F w va la) (hb : RwsIn G w vb lb) (he : la.map RowD.row = lb.map RowD.row) (hn : la.length ≤ 1000000) :
    Calls Try.prog 25 #[va, vb] w fun e w' => e = .returned (.bool true) ∧ Fr (fun _ => False) w w' := by
  obtain ⟨ao, ca, rfl, _, _, b1, o1, hao, hca⟩ := ha.open6
  obtain ⟨bo, cb, rfl, _, _, b2, o2, hbo, hcb⟩ := hb.open6
  have hl : lb.length = la.length := by have := congrArg List.length he; simpa using this.symm
  obtain ⟨n, hnn⟩ : ∃ n, n = la.length := ⟨_, rfl⟩
  rw [hl]
  rw [hl] at hbo
  rw [← hnn] at hn hao hbo hl ⊢
  have HN := Lib.hid (And.intro hnn hl)
  have HE := Lib.hid he
  have HA := Lib.hid (And.intro ha (And.intro hao hca))
  have HB := Lib.hid (And.intro hb (And.intro hbo hcb))
  clear ha hb hao hbo hca hcb hnn he hl
  go_enter Try.func25, Try.ntmps25
  go_wp2
  go_loopw [5] (fun iv wr => ∃ k9 : Nat, k9 ≤ n ∧ iv = .int .i64 k9 ∧ Hid (Fr (fun _ => False) w wr)) (fun iv _ => n - (intOf iv).toNat)
  case atStart => exact ⟨0, by omega, rfl, Lib.hid (Fr.refl _ _)⟩
  case round =>
    obtain ⟨k9, hi, rfl, hR⟩ := hrel
    by_cases hlt : k9 < n
    · have hia : k9 < la.length := by have := HN.out; omega
      have hib : k9 < lb.length := by have := HN.out; omega
      obtain ⟨rfl, _⟩ := HA.out.2.1 (by omega)
      obtain ⟨rfl, _⟩ := HB.out.2.1 (by omega)
      obtain ⟨e0, e1⟩ := HA.out.2.2 k9 hia
      obtain ⟨f0, f1⟩ := HB.out.2.2 k9 hib
      have hrow : la[k9].row = lb[k9].row := by
        have h1 : (la.map RowD.row)[k9]? = (lb.map RowD.row)[k9]? := by rw [HE.out]
        rw [List.getElem?_map, List.getElem?_map, List.getElem?_eq_getElem hia, List.getElem?_eq_getElem hib] at h1
        exact Option.some.inj h1
      obtain ⟨key, x, B, hp⟩ : ∃ key x B, la[k9] = (⟨key, x, B⟩ : RowD) := ⟨_, _, _, rfl⟩
      obtain ⟨key2, y, C, hq⟩ : ∃ key x B, lb[k9] = (⟨key, x, B⟩ : RowD) := ⟨_, _, _, rfl⟩
      rw [hp, hq] at hrow
      simp only [RowD.row, Prod.mk.injEq] at hrow
      obtain ⟨hk, rfl⟩ := hrow
      have hk2 : key2 = key := ByteArray.ext (Array.toList_inj.1 hk.symm)
      subst hk2
      have hbx := HA.out.1.bytes _ (List.getElem_mem hia)
      have hby := HB.out.1.bytes _ (List.getElem_mem hib)
      rw [hp] at e0 e1 hbx
      rw [hq] at f0 f1 hby
      simp only at e0 e1 hbx f0 f1 hby
      obtain ⟨ax, cx, rfl, _⟩ := id hbx
      obtain ⟨ay, cy, rfl, _⟩ := id hby
      have g0 := hR.out.cell e0 id
      have g1 := hR.out.cell e1 id
      have h0 := hR.out.cell f0 id
      have h1 := hR.out.cell f1 id
      obtain ⟨p1, ho1⟩ : ∃ o, o = o1 + k9 * 2 := ⟨_, rfl⟩
      obtain ⟨p2, ho2⟩ : ∃ o, o = o2 + k9 * 2 := ⟨_, rfl⟩
      have HIA := Lib.hid (fun W => idxRw W b1 o1 n ca k9 hlt)
      have HIB := Lib.hid (fun W => idxRw W b2 o2 n cb k9 hlt)
      rw [← ho1] at HIA g0 g1
      rw [← ho2] at HIB h0 h1
      have LDA := Lib.hid (fun W (hW : Fr (fun _ => False) wr W) => ldRw W b1 p1 _ _ (hW.cell g0 id) (hW.cell g1 id) rfl)
      have LDB := Lib.hid (fun W (hW : Fr (fun _ => False) wr W) => ldRw W b2 p2 _ _ (hW.cell h0 id) (hW.cell h1 id) rfl)
      have HSR := Lib.hid (fun W (hW : Fr (fun _ => False) wr W) => sameRow_yes W key2 _ _ B ((hbx.keep hR.out (fun _ _ _ h => h)).keep hW (fun _ _ _ h => h)) ((hby.keep hR.out (fun _ _ _ h => h)).keep hW (fun _ _ _ h => h)))
      have d1 : (k9 : Int) < (n : Int) := by omega
      clear e0 e1 f0 f1 hk hbx hby hp hq g0 g1 h0 h1
      go_wp2
      refine wp_region_inv 10 (by kernel_rfl) (by kernel_rfl) (fun W => Fr (fun _ => False) wr W) (SlS b1 o1 p1 ca b2 o2 p2 cb n k9 key2 (.slice ax B.length cx) (.slice ay B.length cy)) (fun _ _ _ _ => True) (Fr (fun _ => False)) (SlS.ext b1 o1 p1 ca b2 o2 p2 cb n k9 key2 (.slice ax B.length cx) (.slice ay B.length cy)) (Fr.refl _ _).drew ?_ ?_
      · intro i hi o ho
        replace hi : i < 10 := hi
        obtain rfl | rfl | rfl | rfl | rfl | rfl | rfl | rfl | rfl | rfl : i = 0 ∨ i = 1 ∨ i = 2 ∨ i = 3 ∨ i = 4 ∨ i = 5 ∨ i = 6 ∨ i = 7 ∨ i = 8 ∨ i = 9 := by omega
        · simp only [List.getElem?_cons_zero, Option.some.injEq] at ho
          subst ho
          intro a W vs hB hS hE hU
          refine wpG_plain rfl ?_
          have v0 : a.eval (.tmp 0) = .slice (some ⟨b1, o1, none⟩) n ca := (hU 0 (by kernel_rfl)).trans rfl
          clear hE hU
          exact wp_value_inv (w' := W) (.slice (some ⟨b1, o1, none⟩) n ca) (op_move rfl v0) ⟨_, rfl, hB, Fr.refl _ _, rfl, fun _ _ _ _ _ => trivial⟩
        · simp only [List.getElem?_cons_zero, List.getElem?_cons_succ, Option.some.injEq] at ho
          subst ho
          intro a W vs hB hS hE hU
          refine wpG_plain rfl ?_
          have v5 : a.eval (.tmp 5) = .int .i64 (k9 : Nat) := (hU 5 (by kernel_rfl)).trans rfl
          clear hE hU
          exact wp_value_inv (w' := W) (.int .i64 (k9 : Nat)) (op_move rfl v5) ⟨_, rfl, hB, Fr.refl _ _, rfl, fun _ _ _ _ _ => trivial⟩
        · simp only [List.getElem?_cons_zero, List.getElem?_cons_succ, Option.some.injEq] at ho
          subst ho
          intro a W vs hB hS hE hU
          refine wpG_plain rfl ?_
          obtain ⟨r0, e17⟩ := hE 0 17 (by kernel_rfl) (by kernel_rfl)
          have v17 : a.eval (.tmp 17) = .slice (some ⟨b1, o1, none⟩) n ca := e17.trans r0
          obtain ⟨r1, e18⟩ := hE 1 18 (by kernel_rfl) (by kernel_rfl)
          have v18 : a.eval (.tmp 18) = .int .i64 (k9 : Nat) := e18.trans r1
          clear hE hU
          exact wp_value_inv (w' := W) (.pointer (some ⟨b1, p1, none⟩)) (op_indexAddr rfl v17 v18 (HIA.out W)) ⟨_, rfl, hB, Fr.refl _ _, rfl, fun _ _ _ _ _ => trivial⟩
        · simp only [List.getElem?_cons_zero, List.getElem?_cons_succ, Option.some.injEq] at ho
          subst ho
          intro a W vs hB hS hE hU
          refine wpG_plain rfl ?_
          obtain ⟨r2, e19⟩ := hE 2 19 (by kernel_rfl) (by kernel_rfl)
          have v19 : a.eval (.tmp 19) = .pointer (some ⟨b1, p1, none⟩) := e19.trans r2
          clear hE hU
          exact wp_value_inv (w' := W) (.agg #[.string key2, (.slice ax B.length cx)]) (op_loadAt rfl v19 (LDA.out W hB)) ⟨_, rfl, hB, Fr.refl _ _, rfl, fun _ _ _ _ _ => trivial⟩
        · simp only [List.getElem?_cons_zero, List.getElem?_cons_succ, Option.some.injEq] at ho
          subst ho
          intro a W vs hB hS hE hU
          refine wpG_plain rfl ?_
          have v1 : a.eval (.tmp 1) = .slice (some ⟨b2, o2, none⟩) n cb := (hU 1 (by kernel_rfl)).trans rfl
          clear hE hU
          exact wp_value_inv (w' := W) (.slice (some ⟨b2, o2, none⟩) n cb) (op_move rfl v1) ⟨_, rfl, hB, Fr.refl _ _, rfl, fun _ _ _ _ _ => trivial⟩
        · simp only [List.getElem?_cons_zero, List.getElem?_cons_succ, Option.some.injEq] at ho
          subst ho
          intro a W vs hB hS hE hU
          refine wpG_plain rfl ?_
          have v5 : a.eval (.tmp 5) = .int .i64 (k9 : Nat) := (hU 5 (by kernel_rfl)).trans rfl
          clear hE hU
          exact wp_value_inv (w' := W) (.int .i64 (k9 : Nat)) (op_move rfl v5) ⟨_, rfl, hB, Fr.refl _ _, rfl, fun _ _ _ _ _ => trivial⟩
        · simp only [List.getElem?_cons_zero, List.getElem?_cons_succ, Option.some.injEq] at ho
          subst ho
          intro a W vs hB hS hE hU
          refine wpG_plain rfl ?_
          obtain ⟨r4, e21⟩ := hE 4 21 (by kernel_rfl) (by kernel_rfl)
          have v21 : a.eval (.tmp 21) = .slice (some ⟨b2, o2, none⟩) n cb := e21.trans r4
          obtain ⟨r5, e22⟩ := hE 5 22 (by kernel_rfl) (by kernel_rfl)
          have v22 : a.eval (.tmp 22) = .int .i64 (k9 : Nat) := e22.trans r5
          clear hE hU
          exact wp_value_inv (w' := W) (.pointer (some ⟨b2, p2, none⟩)) (op_indexAddr rfl v21 v22 (HIB.out W)) ⟨_, rfl, hB, Fr.refl _ _, rfl, fun _ _ _ _ _ => trivial⟩
        · simp only [List.getElem?_cons_zero, List.getElem?_cons_succ, Option.some.injEq] at ho
          subst ho
          intro a W vs hB hS hE hU
          refine wpG_plain rfl ?_
          obtain ⟨r6, e23⟩ := hE 6 23 (by kernel_rfl) (by kernel_rfl)
          have v23 : a.eval (.tmp 23) = .pointer (some ⟨b2, p2, none⟩) := e23.trans r6
          clear hE hU
          exact wp_value_inv (w' := W) (.agg #[.string key2, (.slice ay B.length cy)]) (op_loadAt rfl v23 (LDB.out W hB)) ⟨_, rfl, hB, Fr.refl _ _, rfl, fun _ _ _ _ _ => trivial⟩
        · simp only [List.getElem?_cons_zero, List.getElem?_cons_succ, Option.some.injEq] at ho
          subst ho
          intro a W vs hB hS hE hU
          refine wpG_plain rfl ?_
          obtain ⟨r3, e20⟩ := hE 3 20 (by kernel_rfl) (by kernel_rfl)
          have v20 : a.eval (.tmp 20) = .agg #[.string key2, (.slice ax B.length cx)] := e20.trans r3
          obtain ⟨r7, e24⟩ := hE 7 24 (by kernel_rfl) (by kernel_rfl)
          have v24 : a.eval (.tmp 24) = .agg #[.string key2, (.slice ay B.length cy)] := e24.trans r7
          clear hE hU
          refine wp_call_inv 61 #[.tmp 20, .tmp 24] #[73, 73] rfl #[.agg #[.string key2, (.slice ax B.length cx)], .agg #[.string key2, (.slice ay B.length cy)]] (by simp only [List.map_toArray, List.map_cons, List.map_nil, v20, v24]) (ent_spence_spencekit_SameRow _) (Post := fun v W' => v = .bool true ∧ Fr (fun _ => False) W W') ((HSR.out W hB).mono fun e w' h => ⟨_, h.1, rfl, h.2⟩) ?_
          rintro v W' ⟨rfl, hf⟩
          exact ⟨_, rfl, hB.trans hf (fun _ h => h.elim), hf, rfl, fun _ _ _ _ _ => trivial⟩
        · simp only [List.getElem?_cons_zero, List.getElem?_cons_succ, Option.some.injEq] at ho
          subst ho
          intro a W vs hB hS hE hU
          refine wpG_plain rfl ?_
          obtain ⟨r8, e25⟩ := hE 8 25 (by kernel_rfl) (by kernel_rfl)
          have v25 : a.eval (.tmp 25) = .bool true := e25.trans r8
          clear hE hU
          exact wp_value_inv (w' := W) (.bool false) (op_not9 rfl v25) ⟨_, rfl, hB, Fr.refl _ _, rfl, fun _ _ _ _ _ => trivial⟩
      · intro vs Wb hB0 hR0 hD
        have r26 : vs 9 = .bool false := hR0 9 (by decide)
        have HC := Lib.hid hB0
        clear hR0 hD hB0
        simp only [acts, if_true, dstAt, List.getElem?_cons_zero, List.getElem?_cons_succ, Option.bind_some, Act.put, List.setIfInBounds_toArray, List.set_cons_succ, List.set_cons_zero, List.drop_succ_cons, List.drop_nil]
        simp only [r26]
        clear r26
        go_wp2
        go_roundw
        case rel => exact ⟨k9 + 1, by omega, by go_num, Lib.hid (hR.out.trans HC.out (fun _ h => h.elim))⟩
        case measure => simp [intOf]; omega
    · obtain rfl : k9 = n := by omega
      go_wp2
      go_ret
      exact ⟨rfl, hR.out⟩
end Go.Proofs.Ytdpaobflknkbkaa
namespace Go.Proofs.Ytdpaobflknkbkaa
open Go.RowKit Go.ChangeShapes
set_option linter.unusedVariables false
def deedC (d : DeedD) : List Value := [.int .i64 d.what, .int .i64 d.who, .string d.name] ++ cellsX d.p ++ [d.xv]
theorem deedC_len (d : DeedD) : (deedC d).length = 25 := by simp [deedC, cellsX_length]
theorem deedC_get (d : DeedD) (j : Nat) (hj : j < 21) : (deedC d)[3 + j]? = (cellsX d.p)[j]? := by
  unfold deedC
  rw [List.getElem?_append_left (by simp [cellsX_length]; omega), List.getElem?_append_right (by simp), show 3 + j - [Value.int .i64 d.what, .int .i64 d.who, .string d.name].length = j by simp]
theorem deedC_last (d : DeedD) : (deedC d)[24]? = some d.xv := by
  unfold deedC
  rw [List.getElem?_append_right (by simp [cellsX_length])]
  simp [cellsX_length]
theorem deedC_ok (d : DeedD) (hwf : IntOk d.what ∧ IntOk d.who) (hfit : d.name.size ≤ 140737488351232 ∧ d.p.n.size ≤ 140737488351232 ∧ d.V.length ≤ 140737488351232) : DeedC (deedC d).toArray d :=
  ⟨by simp [deedC_len], rfl, rfl, rfl, fun j u hu => by
    have hj : j < 21 := by
      have := (List.getElem?_eq_some_iff.1 hu).1
      rwa [cellsX_length] at this
    rw [List.getElem?_toArray, deedC_get d j hj]
    exact hu, by rw [List.getElem?_toArray]; exact deedC_last d, hwf, hfit⟩
theorem DeedAt.range {F : Nat → Prop} {w : World} {b o : Nat} {d : DeedD} (h : DeedAt F w b o d) : w.rangeAt b o (deedC d) := fun j v hv => by
  have hj : j < 25 := by
    have := (List.getElem?_eq_some_iff.1 hv).1
    rwa [deedC_len] at this
  by_cases h0 : j = 0
  · subst h0; simp [deedC] at hv; subst hv; exact h.what
  by_cases h1 : j = 1
  · subst h1; simp [deedC] at hv; subst hv; exact h.who
  by_cases h2 : j = 2
  · subst h2; simp [deedC] at hv; subst hv; exact h.nm
  by_cases h24 : j = 24
  · subst h24; rw [deedC_last] at hv; cases hv; exact h.cv
  obtain ⟨k, rfl⟩ : ∃ k, j = 3 + k := ⟨j - 3, by omega⟩
  rw [deedC_get d k (by omega)] at hv
  rw [show o + (3 + k) = o + 3 + k by omega]
  exact h.pa k v hv
theorem load_deed {F : Nat → Prop} {w : World} {b o : Nat} {d : DeedD} (h : DeedAt F w b o d) : (Instr.loadAt 46 (.pointer (some ⟨b, o, none⟩))).run Try.prog w = .ok (.agg (deedC d).toArray) w :=
  run_loadAt_mid w b o 46 (deedC d) _ h.range Try.underlying46 rfl (by rw [deedC_len]; kernel_rfl)
end Go.Proofs.Ytdpaobflknkbkaa
namespace Go.Proofs.Ytdpaobflknkbkaa
open Go.RowKit Go.ChangeShapes
set_option linter.unusedVariables false
theorem bl_lt : ∀ {a b : List UInt8}, a < b → Op.bytesLess a b = true
  | _, [], h => absurd h (List.not_lt_nil _)
  | [], _ :: _, _ => by simp [Op.bytesLess]
  | a :: x, b :: y, h => by
    rcases List.cons_lt_cons_iff.1 h with h1 | ⟨rfl, h2⟩
    · simp [Op.bytesLess, h1]
    · simp [Op.bytesLess, bl_lt h2]
theorem idxRt8 (W : World) (b f n c i : Nat) (h : i < n) : (Instr.indexAt 58 (.slice (some ⟨b, f, none⟩) n c) (.int .i64 i)).run Try.prog W = .ok (.pointer (some ⟨b, f + i * 22, none⟩)) W := by
  simp [Instr.indexAt, h, Addr.add, asIntOf]
theorem root_path {W : World} {b o : Nat} {x : PathX} (h : W.rangeAt b o (cellsX x)) : (Instr.loadAt 43 (.pointer (some ⟨b, o, none⟩))).run Try.prog W = .ok (.agg (pathC x.h x.n)) W :=
  run_loadAt_mid W b o 43 (cellsX x) _ h Try.underlying43 rfl (by rw [cellsX_length]; kernel_rfl)
end Go.Proofs.Ytdpaobflknkbkaa
namespace Go.Proofs.Ytdpaobflknkbkaa
open Go.RowKit Go.ChangeShapes
set_option linter.unusedVariables false
def rowsR (s : VS) (u : Int) : VT PathX := if isUser s u then s.R u else []
def rowsN (s : VS) (u : Int) (P : Bs) : VT Bs := if isUser s u then (s.N u).filter (fun p => Lib.hasPrefix p.1 P) else []
def quotaU (s : VS) (u : Int) : Qt := if isUser s u then s.quota u else ⟨0, 0, 0, 0⟩
def quotaE (s : VS) (u : Int) : Int := if isUser s u then 0 else 18
section
variable {F G S : Nat → Prop} {w w' : World} {A B : VA} {n m : Nat} {s t : VS} {z : Nat}
set_option maxRecDepth 100000 in
theorem roots_of (h : VwAt F w A n s) (hn : n ≤ 100000) (who : Int) : Calls Try.prog 23 #[.pointer (some ⟨A.vb, 0, none⟩), .int .i64 who] w fun e w' => ∃ v, e = .returned v ∧ OwnE 66 22 w.heap.size w' v ((rowsR s who).map rtC) ∧ Fr (fun _ => False) w w' := by
  by_cases hu : isUser s who
  · rw [rowsR, if_pos hu]; exact callsIn_wide.1 (vRoots_in h hn who hu)
  · rw [rowsR, if_neg hu]
    have HR := Lib.hid (ready_no h who hu)
    clear h hu hn
    go_enter Try.func23, Try.ntmps23
    go_wp2_with (go_at_call 51; refine HR.out.mono ?_; rintro e w1 ⟨rfl, rfl⟩)
    go_ret
    exact ⟨_, rfl, OwnE.nil _ _ _ _, Fr.refl _ _⟩
set_option maxRecDepth 100000 in
theorem notes_of (h : VwAt F w A n s) (hF : ∀ k, F k → k < w.heap.size) (hn : n ≤ 100000) (who : Int) (P : ByteArray) : Calls Try.prog 26 #[.pointer (some ⟨A.vb, 0, none⟩), .int .i64 who, .string P] w fun e w' => ∃ v l, e = .returned v ∧ OwnR (fun k => w.heap.size ≤ k) w.heap.size w' v l ∧ l.map RowD.row = rowsN s who P.data.toList ∧ Fr (fun _ => False) w w' := by
  by_cases hu : isUser s who
  · rw [rowsN, if_pos hu]; exact callsIn_wide.1 (vNotes_in h hF hn who hu P)
  · rw [rowsN, if_neg hu]
    have HR := Lib.hid (ready_no h who hu)
    clear h hu hn hF
    go_enter Try.func26, Try.ntmps26
    go_wp2_with (go_at_call 51; refine HR.out.mono ?_; rintro e w1 ⟨rfl, rfl⟩)
    go_ret
    exact ⟨_, [], rfl, OwnR.nil _ _ _, rfl, Fr.refl _ _⟩
set_option maxRecDepth 100000 in
set_option maxHeartbeats 1000000 in
theorem quota_of (h : VwAt F w A n s) (who : Int) : Calls Try.prog 24 #[.pointer (some ⟨A.vb, 0, none⟩), .int .i64 who] w fun e w' => e = .returned (.tuple #[.agg (qA (quotaU s who)), .int .i64 (quotaE s who)]) ∧ Fr (fun _ => False) w w' := by
  obtain ⟨W1, hW1⟩ : ∃ W1, W1 = w.alloc (.cells #[.int .i64 0, .int .i64 0, .int .i64 0, .int .i64 0] 38) := ⟨_, rfl⟩
  have hf1 : Fr (fun _ => False) w W1 := by rw [hW1]; exact (Fr.refl _ _).alloc _
  have hb1 : W1.heap[w.heap.size]? = some (.cells #[.int .i64 0, .int .i64 0, .int .i64 0, .int .i64 0] 38 (0, 0)) := by rw [hW1]; exact heap_alloc_new w _
  have h1 := h.quiet hf1
  obtain ⟨⟨qb, qo, qr, qn⟩, hqq⟩ : ∃ q, q = quotaU s who := ⟨_, rfl⟩
  have hi4 : ∀ a b c d : Int, (Try.prog.info? 38).map (·.size) = some (#[Value.int .i64 a, .int .i64 b, .int .i64 c, .int .i64 d] : Array Value).size := fun a b c d => by kernel_rfl
  have hz4 : ∀ a b c d : Int, (#[Value.int .i64 0, .int .i64 0, .int .i64 0, .int .i64 0] : Array Value).size = (#[Value.int .i64 a, .int .i64 b, .int .i64 c, .int .i64 d] : Array Value).size := fun _ _ _ _ => rfl
  have h14 : ∀ a b c d : Int, (#[Value.int .i64 a, .int .i64 b, .int .i64 c, .int .i64 d] : Array Value).all (·.oneCell') = true := fun a b c d => by kernel_rfl
  have HW := Lib.hid (And.intro hW1 (And.intro hf1 hb1))
  by_cases hu : isUser s who
  · have HR := Lib.hid (ready_yes h1 who hu)
    have hq := quota_any h1 who hu
    have e1 : quotaU s who = s.quota who := if_pos hu
    have e2 : quotaE s who = 0 := if_pos hu
    rw [e1] at hqq
    rw [e1, e2]
    rw [← hqq] at hq ⊢
    simp only [qA] at hq ⊢
    have HQ := Lib.hid hq
    clear hq h h1 hu hqq e1 e2 hW1 hf1 hb1
    go_enter Try.func24, Try.ntmps24
    go_wp2_with fail
    rw [← HW.out.1]
    go_wp2_with (first
      | (go_at_call 51; refine HR.out.mono ?_; rintro e w1 ⟨rfl, rfl⟩)
      | (go_at_call 52; refine HQ.out.mono ?_; rintro e w2 ⟨rfl, hf2⟩; (have H2 := Lib.hid (And.intro hf2 (hf2.heap HW.out.2.2 id))); clear hf2)
      | (with_reducible refine Go.Proofs.Ytdpaobflknkbkaa.wpList_store_row rfl 38 (.tmp 4) (.tmp 16) rfl w.heap.size #[.int .i64 qb, .int .i64 qo, .int .i64 qr, .int .i64 qn] #[.int .i64 0, .int .i64 0, .int .i64 0, .int .i64 0] 38 rfl rfl H2.out.2 (hi4 _ _ _ _) (hz4 _ _ _ _) (h14 _ _ _ _) ?_))
    refine bodyPost_ret (results_cell_row_tmp rfl _ _ w.heap.size 38 #[.int .i64 qb, .int .i64 qo, .int .i64 qr, .int .i64 qn] (0, 0) _ rfl (setRow_heap _ _ _ _ _ _ H2.out.2) Try.underlying38 rfl (hi4 _ _ _ _)) rfl ⟨rfl, ?_⟩
    exact (HW.out.2.1.trans H2.out.1 (fun _ h => h.elim)).setRow (.inr (Nat.le_refl _)) _
  · have HR := Lib.hid (ready_no h1 who hu)
    have e1 : quotaU s who = ⟨0, 0, 0, 0⟩ := if_neg hu
    have e2 : quotaE s who = 18 := if_neg hu
    rw [e1, e2]
    simp only [qA]
    clear h h1 hu hqq e1 e2 hW1 hf1 hb1
    go_enter Try.func24, Try.ntmps24
    go_wp2_with fail
    rw [← HW.out.1]
    go_wp2_with (first
      | (go_at_call 51; refine HR.out.mono ?_; rintro e w1 ⟨rfl, rfl⟩)
      | (with_reducible refine Go.Proofs.Ytdpaobflknkbkaa.wpList_store_row rfl 38 (.tmp 4) (.tmp 12) rfl w.heap.size #[.int .i64 0, .int .i64 0, .int .i64 0, .int .i64 0] #[.int .i64 0, .int .i64 0, .int .i64 0, .int .i64 0] 38 rfl rfl HW.out.2.2 (hi4 _ _ _ _) (hz4 _ _ _ _) (h14 _ _ _ _) ?_))
    refine bodyPost_ret (results_cell_row_tmp rfl _ _ w.heap.size 38 #[.int .i64 0, .int .i64 0, .int .i64 0, .int .i64 0] (0, 0) _ rfl (setRow_heap _ _ _ _ _ _ HW.out.2.2) Try.underlying38 rfl (hi4 _ _ _ _)) rfl ⟨rfl, ?_⟩
    exact HW.out.2.1.setRow (.inr (Nat.le_refl _)) _
theorem VA.own_all {A : VA} {k : Nat} (h : A.own k) : k ∈ A.all := by
  rcases h with rfl | rfl | rfl | rfl <;> simp [VA.all]
end
end Go.Proofs.Ytdpaobflknkbkaa
