/- Laid together: VAc VOp -/
import Derived.Test.YteockhemeneioaaVa16
import Derived.Test.YteockhemeneioaaVa0
import Derived.Test.YteockhemeneioaaVa7
import Derived.Deep.Fields

namespace Go.Proofs.Yteockhemeneioaa
open Go.RowKit Go.ChangeShapes
set_option linter.unusedVariables false
def rowsR (s : VS) (u : Int) : VT PathX := if isUser s u then s.R u else []
def rowsN (s : VS) (u : Int) (P : Bs) : VT Bs := if isUser s u then (s.N u).filter (fun p => Lib.hasPrefix p.1 P) else []
def quotaU (s : VS) (u : Int) : Qt := if isUser s u then s.quota u else ⟨0, 0, 0, 0⟩
def quotaE (s : VS) (u : Int) : Int := if isUser s u then 0 else 18
section
variable {F G S : Nat → Prop} {w w' : World} {A B : VA} {n m : Nat} {s t : VS} {z : Nat}
set_option maxRecDepth 100000 in
theorem roots_of (h : VwAt F w A n s) (hn : n ≤ 100000) (who : Int) : Calls Try.prog 23 #[.pointer (some ⟨A.vb, 0, none⟩), .int .i64 who] w fun e w' => ∃ v, e = .returned v ∧ OwnE 66 22 w.heap.size w' v ((rowsR s who).map rtC) ∧ Fr (fun _ => False) w w' := by
  by_cases hu : isUser s who
  · rw [rowsR, if_pos hu]; exact callsIn_wide.1 (vRoots_in h hn who hu)
  · rw [rowsR, if_neg hu]
    have HR := Lib.hid (ready_no h who hu)
    clear h hu hn
    go_enter Try.func23, Try.ntmps23
    go_wp2_with (go_at_call 51; refine HR.out.mono ?_; rintro e w1 ⟨rfl, rfl⟩)
    go_ret
    exact ⟨_, rfl, OwnE.nil _ _ _ _, Fr.refl _ _⟩
set_option maxRecDepth 100000 in
theorem notes_of (h : VwAt F w A n s) (hF : ∀ k, F k → k < w.heap.size) (hn : n ≤ 100000) (who : Int) (P : ByteArray) : Calls Try.prog 26 #[.pointer (some ⟨A.vb, 0, none⟩), .int .i64 who, .string P] w fun e w' => ∃ v l, e = .returned v ∧ OwnR (fun k => w.heap.size ≤ k) w.heap.size w' v l ∧ l.map RowD.row = rowsN s who P.data.toList ∧ Fr (fun _ => False) w w' := by
  by_cases hu : isUser s who
  · rw [rowsN, if_pos hu]; exact callsIn_wide.1 (vNotes_in h hF hn who hu P)
  · rw [rowsN, if_neg hu]
    have HR := Lib.hid (ready_no h who hu)
    clear h hu hn hF
    go_enter Try.func26, Try.ntmps26
    go_wp2_with (go_at_call 51; refine HR.out.mono ?_; rintro e w1 ⟨rfl, rfl⟩)
    go_ret
    exact ⟨_, [], rfl, OwnR.nil _ _ _, rfl, Fr.refl _ _⟩
set_option maxRecDepth 100000 in
set_option maxHeartbeats 1000000 in
theorem quota_of (h : VwAt F w A n s) (who : Int) : Calls Try.prog 24 #[.pointer (some ⟨A.vb, 0, none⟩), .int .i64 who] w fun e w' => e = .returned (.tuple #[.agg (qA (quotaU s who)), .int .i64 (quotaE s who)]) ∧ Fr (fun _ => False) w w' := by
  obtain ⟨W1, hW1⟩ : ∃ W1, W1 = w.alloc (.cells #[.int .i64 0, .int .i64 0, .int .i64 0, .int .i64 0] 38) := ⟨_, rfl⟩
  have hf1 : Fr (fun _ => False) w W1 := by rw [hW1]; exact (Fr.refl _ _).alloc _
  have hb1 : W1.heap[w.heap.size]? = some (.cells #[.int .i64 0, .int .i64 0, .int .i64 0, .int .i64 0] 38 (0, 0)) := by rw [hW1]; exact heap_alloc_new w _
  have h1 := h.quiet hf1
  obtain ⟨⟨qb, qo, qr, qn⟩, hqq⟩ : ∃ q, q = quotaU s who := ⟨_, rfl⟩
  have hi4 : ∀ a b c d : Int, (Try.prog.info? 38).map (·.size) = some (#[Value.int .i64 a, .int .i64 b, .int .i64 c, .int .i64 d] : Array Value).size := fun a b c d => by kernel_rfl
  have hz4 : ∀ a b c d : Int, (#[Value.int .i64 0, .int .i64 0, .int .i64 0, .int .i64 0] : Array Value).size = (#[Value.int .i64 a, .int .i64 b, .int .i64 c, .int .i64 d] : Array Value).size := fun _ _ _ _ => rfl
  have h14 : ∀ a b c d : Int, (#[Value.int .i64 a, .int .i64 b, .int .i64 c, .int .i64 d] : Array Value).all (·.oneCell') = true := fun a b c d => by kernel_rfl
  have HW := Lib.hid (And.intro hW1 (And.intro hf1 hb1))
  by_cases hu : isUser s who
  · have HR := Lib.hid (ready_yes h1 who hu)
    have hq := quota_any h1 who hu
    have e1 : quotaU s who = s.quota who := if_pos hu
    have e2 : quotaE s who = 0 := if_pos hu
    rw [e1] at hqq
    rw [e1, e2]
    rw [← hqq] at hq ⊢
    simp only [qA] at hq ⊢
    have HQ := Lib.hid hq
    clear hq h h1 hu hqq e1 e2 hW1 hf1 hb1
    go_enter Try.func24, Try.ntmps24
    go_wp2_with fail
    rw [← HW.out.1]
    go_wp2_with (first
      | (go_at_call 51; refine HR.out.mono ?_; rintro e w1 ⟨rfl, rfl⟩)
      | (go_at_call 52; refine HQ.out.mono ?_; rintro e w2 ⟨rfl, hf2⟩; (have H2 := Lib.hid (And.intro hf2 (hf2.heap HW.out.2.2 id))); clear hf2)
      | (with_reducible refine Go.Proofs.Yteockhemeneioaa.wpList_store_row rfl 38 (.tmp 4) (.tmp 16) rfl w.heap.size #[.int .i64 qb, .int .i64 qo, .int .i64 qr, .int .i64 qn] #[.int .i64 0, .int .i64 0, .int .i64 0, .int .i64 0] 38 rfl rfl H2.out.2 (hi4 _ _ _ _) (hz4 _ _ _ _) (h14 _ _ _ _) ?_))
    refine bodyPost_ret (results_cell_row_tmp rfl _ _ w.heap.size 38 #[.int .i64 qb, .int .i64 qo, .int .i64 qr, .int .i64 qn] (0, 0) _ rfl (setRow_heap _ _ _ _ _ _ H2.out.2) Try.underlying38 rfl (hi4 _ _ _ _)) rfl ⟨rfl, ?_⟩
    exact (HW.out.2.1.trans H2.out.1 (fun _ h => h.elim)).setRow (.inr (Nat.le_refl _)) _
  · have HR := Lib.hid (ready_no h1 who hu)
    have e1 : quotaU s who = ⟨0, 0, 0, 0⟩ := if_neg hu
    have e2 : quotaE s who = 18 := if_neg hu
    rw [e1, e2]
    simp only [qA]
    clear h h1 hu hqq e1 e2 hW1 hf1 hb1
    go_enter Try.func24, Try.ntmps24
    go_wp2_with fail
    rw [← HW.out.1]
    go_wp2_with (first
      | (go_at_call 51; refine HR.out.mono ?_; rintro e w1 ⟨rfl, rfl⟩)
      | (with_reducible refine Go.Proofs.Yteockhemeneioaa.wpList_store_row rfl 38 (.tmp 4) (.tmp 12) rfl w.heap.size #[.int .i64 0, .int .i64 0, .int .i64 0, .int .i64 0] #[.int .i64 0, .int .i64 0, .int .i64 0, .int .i64 0] 38 rfl rfl HW.out.2.2 (hi4 _ _ _ _) (hz4 _ _ _ _) (h14 _ _ _ _) ?_))
    refine bodyPost_ret (results_cell_row_tmp rfl _ _ w.heap.size 38 #[.int .i64 0, .int .i64 0, .int .i64 0, .int .i64 0] (0, 0) _ rfl (setRow_heap _ _ _ _ _ _ HW.out.2.2) Try.underlying38 rfl (hi4 _ _ _ _)) rfl ⟨rfl, ?_⟩
    exact HW.out.2.1.setRow (.inr (Nat.le_refl _)) _
structure Tw (z : Nat) (A B : VA) (n : Nat) (s t : VS) (w : World) : Prop where
  ex : ∃ F G, VwAt F w A n s ∧ VwAt G w B n t ∧ (∀ k, F k → z ≤ k ∧ k < w.heap.size) ∧ (∀ k, G k → z ≤ k ∧ k < w.heap.size) ∧ (∀ k ∈ B.all, ¬ F k) ∧ (∀ k ∈ A.all, ¬ G k)
  newA : ∀ k ∈ A.all, z ≤ k
  newB : ∀ k ∈ B.all, z ≤ k
  sep : ∀ k ∈ A.all, k ∉ B.all
theorem Tw.symm (h : Tw z A B n s t w) : Tw z B A n t s w := by
  obtain ⟨F, G, a, b, c, d, e, f⟩ := h.ex
  exact ⟨⟨G, F, b, a, d, c, f, e⟩, h.newB, h.newA, fun k hB hA => h.sep k hA hB⟩
theorem Tw.quiet (h : Tw z A B n s t w) (hf : Fr (fun _ => False) w w') : Tw z A B n s t w' := by
  obtain ⟨F, G, a, b, c, d, e, f⟩ := h.ex
  exact ⟨⟨F, G, a.quiet hf, b.quiet hf, fun k hk => ⟨(c k hk).1, Nat.lt_of_lt_of_le (c k hk).2 hf.size⟩, fun k hk => ⟨(d k hk).1, Nat.lt_of_lt_of_le (d k hk).2 hf.size⟩, e, f⟩, h.newA, h.newB, h.sep⟩
theorem Tw.more (h : Tw z A B n s t w) (hm : n ≤ m) : Tw z A B m s t w := by
  obtain ⟨F, G, a, b, c⟩ := h.ex
  exact ⟨⟨F, G, a.more hm, b.more hm, c⟩, h.newA, h.newB, h.sep⟩
theorem VA.own_all {A : VA} {k : Nat} (h : A.own k) : k ∈ A.all := by
  rcases h with rfl | rfl | rfl | rfl <;> simp [VA.all]
theorem Tw.zle (h : Tw z A B n s t w) : z ≤ w.heap.size := by
  obtain ⟨F, G, a, _⟩ := h.ex
  have h1 := h.newA A.vb (by simp [VA.all])
  have h2 := a.lts A.vb (by simp [VA.all])
  omega
theorem Tw.doA (h : Tw z A B n s t w) (hn : n ≤ 100000) (X : Array Value) (d : DeedD) (hX : DeedC X d) (hB : BytesIn S w d.xv d.V) :
    Calls Try.prog 22 #[.pointer (some ⟨A.vb, 0, none⟩), .agg X] w fun e w' => e = .returned (.int .i64 (doE s d)) ∧ Tw z A B (n + 1) (doS s d) t w' ∧ Fr A.own w w' := by
  obtain ⟨F, G, a, b, c, d', e, f⟩ := h.ex
  refine (do_any a (fun k hk => (c k hk).2) hn X d hX hB).mono ?_
  rintro en w1 ⟨rfl, h1, hf⟩
  refine ⟨rfl, ⟨⟨newF F w w1, G, h1, (b.keep hf (fun k hk ho => h.sep k (VA.own_all ho) hk) (fun k _ hk ho => f k (VA.own_all ho) hk)).more (Nat.le_succ n), fun k hk => ?_, fun k hk => ⟨(d' k hk).1, Nat.lt_of_lt_of_le (d' k hk).2 hf.size⟩, fun k hk hF => ?_, f⟩, h.newA, h.newB, h.sep⟩, hf⟩
  · have hz := h.zle
    have hs := hf.size
    rcases hk with hk | hk
    · have := c k hk; omega
    · omega
  · rcases hF with hF | hF
    · exact e k hk hF
    · have := b.lts k hk; omega
theorem Tw.doB (h : Tw z A B n s t w) (hn : n ≤ 100000) (X : Array Value) (d : DeedD) (hX : DeedC X d) (hB : BytesIn S w d.xv d.V) :
    Calls Try.prog 22 #[.pointer (some ⟨B.vb, 0, none⟩), .agg X] w fun e w' => e = .returned (.int .i64 (doE t d)) ∧ Tw z A B (n + 1) s (doS t d) w' ∧ Fr B.own w w' :=
  (h.symm.doA hn X d hX hB).mono fun e w1 h => ⟨h.1, h.2.1.symm, h.2.2⟩
theorem Tw.rootsA (h : Tw z A B n s t w) (hn : n ≤ 100000) (who : Int) : Calls Try.prog 23 #[.pointer (some ⟨A.vb, 0, none⟩), .int .i64 who] w fun e w' => ∃ v, e = .returned v ∧ OwnE 66 22 w.heap.size w' v ((rowsR s who).map rtC) ∧ Fr (fun _ => False) w w' := by
  obtain ⟨F, G, a, _⟩ := h.ex
  exact roots_of a hn who
theorem Tw.notesA (h : Tw z A B n s t w) (hn : n ≤ 100000) (who : Int) (P : ByteArray) : Calls Try.prog 26 #[.pointer (some ⟨A.vb, 0, none⟩), .int .i64 who, .string P] w fun e w' => ∃ v l, e = .returned v ∧ OwnR (fun k => w.heap.size ≤ k) w.heap.size w' v l ∧ l.map RowD.row = rowsN s who P.data.toList ∧ Fr (fun _ => False) w w' := by
  obtain ⟨F, G, a, b, c, _⟩ := h.ex
  exact notes_of a (fun k hk => (c k hk).2) hn who P
theorem Tw.quotaA (h : Tw z A B n s t w) (who : Int) : Calls Try.prog 24 #[.pointer (some ⟨A.vb, 0, none⟩), .int .i64 who] w fun e w' => e = .returned (.tuple #[.agg (qA (quotaU s who)), .int .i64 (quotaE s who)]) ∧ Fr (fun _ => False) w w' := by
  obtain ⟨F, G, a, _⟩ := h.ex
  exact quota_of a who
theorem Tw.cap (h : Tw z A B n s t w) {u : Int} (hu : isUser s u) : ((rowsR s u).length : Int) ≤ (quotaU s u).r ∧ ((rowsN s u []).length : Int) ≤ (quotaU s u).n := by
  obtain ⟨F, G, a, _⟩ := h.ex
  have := a.capU hu
  rw [rowsR, rowsN, quotaU, if_pos hu, if_pos hu, if_pos hu]
  have hl := List.length_filter_le (fun p : Bs × Bs => Lib.hasPrefix p.1 []) (s.N u)
  omega
end
structure SameU (s t : VS) (u : Int) : Prop where
  Q : s.Q = t.Q
  R : s.R u = t.R u
  N : s.N u = t.N u
theorem SameU.user {s t : VS} {u : Int} (h : SameU s t u) : isUser s u = isUser t u := by unfold isUser; rw [h.Q]
theorem SameU.quota {s t : VS} {u : Int} (h : SameU s t u) : s.quota u = t.quota u := by unfold VS.quota; rw [h.Q]
theorem SameU.rowsR {s t : VS} {u : Int} (h : SameU s t u) : Go.Proofs.Yteockhemeneioaa.rowsR s u = Go.Proofs.Yteockhemeneioaa.rowsR t u := by
  unfold Go.Proofs.Yteockhemeneioaa.rowsR
  simp only [h.user, h.R]
theorem SameU.rowsN {s t : VS} {u : Int} (h : SameU s t u) (P : Bs) : Go.Proofs.Yteockhemeneioaa.rowsN s u P = Go.Proofs.Yteockhemeneioaa.rowsN t u P := by
  unfold Go.Proofs.Yteockhemeneioaa.rowsN
  simp only [h.user, h.N]
theorem SameU.doE {s t : VS} {u : Int} (h : SameU s t u) {d : DeedD} (hd : d.who = u) : Go.Proofs.Yteockhemeneioaa.doE s d = Go.Proofs.Yteockhemeneioaa.doE t d := by
  subst hd
  unfold Go.Proofs.Yteockhemeneioaa.doE unrootE noteE unnoteE rootE
  simp only [h.user, h.quota, h.R, h.N]
theorem SameU.doS {s t : VS} {u : Int} (h : SameU s t u) {d : DeedD} (hd : d.who = u) : SameU (Go.Proofs.Yteockhemeneioaa.doS s d) (Go.Proofs.Yteockhemeneioaa.doS t d) u := by
  refine ⟨by rw [doS_Q, doS_Q, h.Q], ?_, ?_⟩
  all_goals
    subst hd
    have e1 : unrootE s d.who d.name.data.toList = unrootE t d.who d.name.data.toList := by unfold unrootE; simp only [h.user, h.R]
    have e2 : noteE s d.who d.name.data.toList d.V = noteE t d.who d.name.data.toList d.V := by unfold noteE; simp only [h.user, h.quota, h.N]
    have e3 : unnoteE s d.who d.name.data.toList = unnoteE t d.who d.name.data.toList := by unfold unnoteE; simp only [h.user, h.N]
    have e4 : rootE s d.who d.name.data.toList d.p = rootE t d.who d.name.data.toList d.p := by unfold rootE; simp only [h.user, h.quota, h.R]
    unfold Go.Proofs.Yteockhemeneioaa.doS unrootS noteS unnoteS rootS
    rw [e1, e2, e3, e4]
    split
    · split
      · simp only [VS.setR, upd_same, h.R, h.N]
      · first | exact h.R | exact h.N
    · split
      · split
        · simp only [VS.setN, upd_same, h.R, h.N]
        · first | exact h.R | exact h.N
      · split
        · split
          · simp only [VS.setN, upd_same, h.R, h.N]
          · first | exact h.R | exact h.N
        · split
          · simp only [VS.setR, upd_same, h.R, h.N]
          · first | exact h.R | exact h.N
theorem SameU.other {s t : VS} {u : Int} (h : SameU s t u) {d : DeedD} (hd : d.who ≠ u) : SameU (Go.Proofs.Yteockhemeneioaa.doS s d) t u := by
  have hu : u ≠ d.who := fun e => hd e.symm
  refine ⟨by rw [doS_Q, h.Q], ?_, ?_⟩
  all_goals
    unfold Go.Proofs.Yteockhemeneioaa.doS unrootS noteS unnoteS rootS
    repeat' split
    all_goals first | exact h.R | exact h.N | (simp only [VS.setR, VS.setN, upd_other _ _ hu]; first | exact h.R | exact h.N)
theorem root_fields : (Try.prog.fieldsOf 66).toList.map (fun f => (f.name, f.type, f.offset)) = [("Name", 9, 0), ("Path", 43, 1)] := by kernel_rfl
theorem root_part_path (w : World) (p : Bs × PathX) : (part 43 (rtC p).toArray 1).run Try.prog w = .ok (.agg (pathC p.2.h p.2.n)) w := by
  simp only [part, Sem.run_bind, Try.isAgg43, Try.sizeOf43, Result.andThen_ok, if_true, Sem.run_pure]
  congr 2
  apply Array.ext'
  simp only [rtC, Array.toList_extract, List.extract_eq_take_drop, List.drop_succ_cons, List.drop_zero]
  rw [List.take_of_length_le (by rw [cellsX_length]; decide)]
  rfl
theorem neq_root (w : World) (p : Bs × PathX) : (binOp .neq 66 (.agg (rtC p).toArray) (.agg (rtC p).toArray)).run Try.prog w = .ok (.bool false) w := by
  rw [run_neq_struct, show Op.equalIn 10000 = Op.equalIn (9996 + 4) from rfl]
  have h : (Op.equalIn (9996 + 4) 66 (.agg (rtC p).toArray) (.agg (rtC p).toArray)).run Try.prog w = .ok true w := by
    rw [run_equalIn_struct w (9996 + 3) 66 _ _ (by kernel_rfl) (by kernel_rfl)]
    obtain ⟨f1, f2, hf, a, b⟩ := two_of_map root_fields
    simp only [Prod.mk.injEq] at a b
    obtain ⟨n1, t1, o1⟩ := a
    obtain ⟨n2, t2, o2⟩ := b
    have n1 : f1.name ≠ "_" := by rw [n1]; decide
    have n2 : f2.name ≠ "_" := by rw [n2]; decide
    rw [hf]
    have e2 := run_equalIn_string (P := Try.prog) w (9996 + 2) 9 ⟨p.1.toArray⟩ ⟨p.1.toArray⟩ Try.underlying9
    rw [beq_self_eq_true] at e2
    have e1 := run_equalIn_pathD 9996 w p.2.h p.2.n p.2.h p.2.n p.2.hl p.2.hl
    rw [sameP_refl] at e1
    have hs : (part 9 (rtC p).toArray 0).run Try.prog w = .ok (.string ⟨p.1.toArray⟩) w := by
      simp [part, Try.isAgg9, rtC, encStr]
    rw [eqFields_cons w _ _ _ f1 _ n1 (.string ⟨p.1.toArray⟩) (.string ⟨p.1.toArray⟩) true (by rw [t1, o1]; exact hs) (by rw [t1, o1]; exact hs) (by rw [t1]; exact e2), if_pos rfl,
      eqFields_cons w _ _ _ f2 _ n2 (.agg (pathC p.2.h p.2.n)) (.agg (pathC p.2.h p.2.n)) true (by rw [t2, o2]; exact root_part_path w p) (by rw [t2, o2]; exact root_part_path w p) (by rw [t2]; exact e1), if_pos rfl]
    rfl
  rw [h]
  rfl
end Go.Proofs.Yteockhemeneioaa
namespace Go.Proofs.Yteockhemeneioaa
open Go.RowKit Go.ChangeShapes Go.WideShapes Go.Deep
set_option linter.unusedVariables false
section
variable {H : Type} {enc : TypeId × Value → H} {w : World} {base fuel : Nat} {held : Bool} {cs : List Value} {x : DataW H × List MemPlace}
theorem list4c {α : Type} {l : List α} (h : l.length = 4) : ∃ a b c d, l = [a, b, c, d] := by
  match l, h with
  | [a, b, c, d], _ => exact ⟨a, b, c, d, rfl⟩
theorem Try.bytesQt : Try.prog.bytesOf 38 = 32 := by kernel_rfl
theorem Try.cellsQt : Try.prog.cellsOf 38 = 4 := by kernel_rfl
theorem Try.cellsI : Try.prog.cellsOf 3 = 1 := by kernel_rfl
theorem open_quota {n : Nat} {y : DataW H × List MemPlace} (h : DataW.trod enc Try.prog w base (fun _ => true) held n 38 cs = some y) :
    ∃ q : Qt, cs = qC q := by
  obtain ⟨xs, m, _, hy, hcl, hxl, hf⟩ := DataW.trod_struct Try.underlying38 h
  rw [Try.cellsQt] at hcl
  obtain ⟨c0, c1, c2, c3, rfl⟩ := list4c hcl
  obtain ⟨y0, y1, y2, y3, rfl⟩ := list4c (l := xs) hxl
  have e0 : DataW.trod enc Try.prog w base (fun _ => true) held m 3 [c0] = some y0 := by
    have h : DataW.trod enc Try.prog w base (fun _ => true) held m 3 (([c0, c1, c2, c3].drop 0).take (Try.prog.cellsOf 3)) = some y0 := hf 0 _ rfl
    rw [Try.cellsI] at h
    exact h
  have e1 : DataW.trod enc Try.prog w base (fun _ => true) held m 3 [c1] = some y1 := by
    have h : DataW.trod enc Try.prog w base (fun _ => true) held m 3 (([c0, c1, c2, c3].drop 1).take (Try.prog.cellsOf 3)) = some y1 := hf 1 _ rfl
    rw [Try.cellsI] at h
    exact h
  have e2 : DataW.trod enc Try.prog w base (fun _ => true) held m 3 [c2] = some y2 := by
    have h : DataW.trod enc Try.prog w base (fun _ => true) held m 3 (([c0, c1, c2, c3].drop 2).take (Try.prog.cellsOf 3)) = some y2 := hf 2 _ rfl
    rw [Try.cellsI] at h
    exact h
  have e3 : DataW.trod enc Try.prog w base (fun _ => true) held m 3 [c3] = some y3 := by
    have h : DataW.trod enc Try.prog w base (fun _ => true) held m 3 (([c0, c1, c2, c3].drop 3).take (Try.prog.cellsOf 3)) = some y3 := hf 3 _ rfl
    rw [Try.cellsI] at h
    exact h
  obtain ⟨n0, r0, _, w0⟩ := DataW.trod_int Try.underlying3 e0
  obtain ⟨n1, r1, _, w1⟩ := DataW.trod_int Try.underlying3 e1
  obtain ⟨n2, r2, _, w2⟩ := DataW.trod_int Try.underlying3 e2
  obtain ⟨n3, r3, _, w3⟩ := DataW.trod_int Try.underlying3 e3
  simp only [List.cons.injEq, and_true] at r0 r1 r2 r3
  subst r0 r1 r2 r3
  exact ⟨⟨n0, n1, n2, n3⟩, rfl⟩
theorem open_quotas (h : DataW.trod enc Try.prog w base (fun _ => true) held fuel 22 cs = some x) (hz : ∀ n ∈ x.1.weights Try.prog 22, n ≤ reachBytes) :
    ∃ v l, cs = [v] ∧ QsIn (fun k => k < w.heap.size) w v l := by
  rcases open_slice Try.underlying22 h with ⟨rfl, _⟩ | ⟨a, len, cap, m, n, D, Pl, rfl, _, hl, hm, hmm, hx, hi⟩
  · exact ⟨_, [], rfl, Elems.nil _ _ _⟩
  · simp only [if_true] at hmm
    subst hmm
    rw [Try.cellsQt] at hi
    have hm2 : m * 32 ≤ 140737488351232 := by
      have := hz ((len + (m - len)) * 32) (by rw [hx]; simp [DataW.weights, Try.underlying22, Try.bytesQt])
      simp only [reachBytes] at this
      omega
    unfold maxLen at hm
    by_cases h0 : len = 0
    · subst h0
      exact ⟨_, [], rfl, ⟨some a, m, rfl, Nat.zero_le _, by omega, (fun _ h => by cases h), fun h => absurd rfl h⟩⟩
    · obtain ⟨b, off, spot⟩ := a
      have hs : spot = none := by
        obtain ⟨cs', hc, ht⟩ := hi 0 (by omega)
        obtain ⟨_, hcl, hat⟩ := World.cells?_some hc
        have := hat 0 (by decide)
        obtain ⟨c0, c1, c2, c3, rfl⟩ := list4c hcl
        simpa [Addr.add] using World.cell?_spot this
      subst hs
      have hone : ∀ i, ∃ p : Qt, i < len → (b < w.heap.size ∧ ∀ j, j < 4 → w.cell? ⟨b, off + i * 4 + j, none⟩ = (qC p)[j]?) := by
        intro i
        by_cases hil : i < len
        · obtain ⟨cs', hc, ht⟩ := hi i (by omega)
          obtain ⟨_, hcl, hat⟩ := World.cells?_some hc
          have hat' : ∀ j, j < 4 → w.cell? ⟨b, off + i * 4 + j, none⟩ = cs'[j]? := fun j hj => by
            have := hat j hj
            rwa [addr_plain, addr_plain] at this
          have hb : b < w.heap.size := by
            have := hat' 0 (by decide)
            rw [List.getElem?_eq_getElem (by omega)] at this
            exact World.block_lt_of_cell? _ _ this
          obtain ⟨p, rfl⟩ := open_quota ht
          exact ⟨p, fun _ => ⟨hb, hat'⟩⟩
        · exact ⟨default, fun h => absurd h hil⟩
      obtain ⟨f, hf⟩ := Classical.axiomOfChoice hone
      have hlen : ((List.range len).map f).length = len := by simp
      refine ⟨_, (List.range len).map f, rfl, ⟨some ⟨b, off, none⟩, m, by rw [List.length_map, hlen], by rw [List.length_map, hlen]; exact hl, by omega, qC_len _, fun _ => ⟨b, off, rfl, (hf 0 (by omega)).1, fun i hi j hj => ?_⟩⟩⟩
      rw [List.length_map, hlen] at hi
      rw [(hf i hi).2 j hj]
      simp
end
end Go.Proofs.Yteockhemeneioaa
