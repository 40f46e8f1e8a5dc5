/- Laid together: VNm0 VOps VOf0 VInv -/
import Derived.Test.YtdpaobflknkbkaaVe2
import Derived.Test.YtdpaobflknkbkaaShelf
import Derived.Lib.Strings
import Derived.Laws.Strings3
import Derived.Lib.Slices
import Derived.Sort.KeysCollected
import Derived.Test.YtdpaobflknkbkaaVe1
import Derived.Deep.MidRow

namespace Go.Proofs.Ytdpaobflknkbkaa
open Go.RowKit Go.ChangeShapes Go.Maps Go.WideMaps Go.Sort
set_option linter.unusedVariables false
set_option maxHeartbeats 1000000 in
theorem hasPrefixLite_any (s p : ByteArray) (w : World) :
    Calls Try.prog 87 #[.string s, .string p] w fun e w' => e = .returned (.bool (Lib.hasPrefix s.data.toList p.data.toList)) ∧ w' = w := by
  rw [← Lib.hasPrefix_of_take, ← Lib.size_eq, ← Lib.size_eq]
  go_enter Try.func87, Try.ntmps87
  go_wp2
  · rename_i h
    go_ret
    refine ⟨?_, rfl⟩
    show Ending.returned (Value.bool ((s.extract 0 p.size).toList == p.toList)) = _
    rw [Lib.extract_toList, Lib.toList_data]
    simp [h]
  · rename_i h
    go_ret
    refine ⟨?_, rfl⟩
    show Ending.returned (Value.bool false) = _
    simp [h]
set_option maxHeartbeats 1000000 in
theorem hasPrefix_any (s p : ByteArray) (w : World) :
    Calls Try.prog 85 #[.string s, .string p] w fun e w' => e = .returned (.bool (Lib.hasPrefix s.data.toList p.data.toList)) ∧ w' = w := by
  go_enter Try.func85, Try.ntmps85
  go_wp2_with (go_at_call 87; refine (hasPrefixLite_any _ _ _).mono ?_; rintro e w' ⟨rfl, hw⟩; rw [hw])
  go_ret
  exact ⟨rfl, rfl⟩
theorem lt_range9 {w : World} {b r n cnt : Nat} {D : DataW Value} {left : Lit → Bool} (h : w.ranges Try.prog 114 heldR9 b r n D left cnt) : r < w.heap.size := by
  obtain ⟨es, clock, since, seen, c0, h1, h2, h3, h4, h5, h6⟩ := h
  exact lt_of_block h5
theorem infoStr : (Try.prog.info? 9).map (fun i => (i.zero, i.size, i.bytes)) = some (some (.string ⟨#[]⟩), 1, 16) := by kernel_rfl
theorem World.ranges.keep9 {S : Nat → Prop} {w w' : World} {b r n cnt : Nat} {D : DataW Value} {left : Lit → Bool} (h : w.ranges Try.prog 114 heldR9 b r n D left cnt) (hf : Fr S w w') (hb : ¬ S b) (hr : ¬ S r) : w'.ranges Try.prog 114 heldR9 b r n D left cnt := by
  obtain ⟨es, clock, since, seen, c0, h1, h2, h3, h4, h5, h6⟩ := h
  exact ⟨es, clock, since, seen, c0, hf.heap h1 hb, h2, h3, h4, hf.heap h5 hr, h6⟩
def encK (k : Bs) : List Value := [encStr k]
theorem encK_str (N : ByteArray) : encK N.data.toList = [.string N] := by simp [encK, encStr]
def StrB (w : World) (k : Nat) : Prop := ∃ cs fr s, w.heap[k]? = some (.cells cs 9 fr) ∧ cs[0]? = some (Value.string s)
section
variable {α : Type}
theorem sorted_vkeys {M : VT α} (hM : VOk M) (P : Bs) {ks : List Bs} (hn : ks.Nodup) (hk : ∀ k, k ∈ ks ↔ k ∈ vKeys M P) : ks.mergeSort (fun x y => decide (x ≤ y)) = vKeys M P := by
  have hasc := vKeys_asc hM P
  have hnd : (vKeys M P).Nodup := hasc.imp (fun h e => bs_ne h e)
  have hp : ks.Perm (vKeys M P) := (List.perm_ext_iff_of_nodup hn hnd).2 hk
  have h1 : ks.mergeSort leB = (vKeys M P).mergeSort leB := mergeSort_of_perm hp
  refine h1.trans (List.mergeSort_of_pairwise (hasc.imp (fun h => ?_)))
  exact decide_eq_true (List.le_of_lt h)
structure NmSt (B : Int → VT α) (who : Int) (P : Bs) (z : Nat) (w W : World) (v : Value) (ks : List Bs) (left : Lit → Bool) : Prop where
  own : OwnE 9 1 z W v (ks.map encK)
  nodup : ks.Nodup
  mem : ∀ k, k ∈ ks ↔ k ∈ vKeys (B who) P ∧ left (keyP who k) = false
  left : ∀ i k, Wf i → k.length ≤ maxLen → left (keyP i k) = true → (vGet (B i) k).isSome = true
  fr : Fr (fun _ => False) w W
theorem sort_vkeys {z : Nat} {M : VT α} (hM : VOk M) (P : Bs) (w : World) (v : Value) (ks : List Bs) (h : OwnE 9 1 z w v (ks.map encK)) (hn : ks.Nodup) (hk : ∀ k, k ∈ ks ↔ k ∈ vKeys M P) (hl : ks.length ≤ 1000000) :
    Calls Try.prog 86 #[v] w fun e w' => e = .returned (.tuple #[]) ∧ Elems 1 (fun k => z ≤ k) w' v ((vKeys M P).map encK) ∧ Fr (fun k => v.ownBlock = some k) w w' ∧ (vKeys M P ≠ [] → ∃ g c, v = .slice (some ⟨g, 0, none⟩) (vKeys M P).length c ∧ StrB w' g) := by
  have hsk := sorted_vkeys hM P hn hk
  have hlk : (vKeys M P).length = ks.length := by rw [← hsk]; simp
  rcases h.row.2 with ⟨hv, h0⟩ | ⟨g, cap, cur, hv, hb, hg, hnc, hcm, hcs, ht⟩
  · rw [List.length_map] at h0
    obtain rfl := List.eq_nil_of_length_eq_zero h0
    subst hv
    refine (Try.slices_Sort_string_none none 0 w).mono ?_
    rintro e w' ⟨rfl, rfl⟩
    have e : vKeys M P = [] := List.eq_nil_of_length_eq_zero hlk
    rw [e]
    exact ⟨rfl, Elems.nil _ _ _, Fr.refl _ _, fun h => absurd rfl h⟩
  · subst hv
    rw [List.length_map] at hnc ht ⊢
    have hH : Holds encStr w g 0 ks.toArray := fun j hj => by
      rw [List.size_toArray] at hj
      refine ⟨?_, frozen_of_row _ _ _ _ _ hg⟩
      rw [cell_of_row _ _ _ _ _ _ hg, Nat.zero_add, ← Array.getElem?_toList]
      have e : ks.toArray[j]! = ks[j] := by simp [hj]
      have h1 := flat_get (k := 1) (ks.map encK) (fun c hc => by obtain ⟨p, _, rfl⟩ := List.mem_map.1 hc; rfl) j (by simpa using hj) 0 (by decide)
      rw [← ht, List.getElem?_take, if_pos (by omega), List.getElem_map, show j * 1 + 0 = j by omega] at h1
      rw [h1, e]
      rfl
    have hgl := lt_of_block hg
    refine (Try.slices_Sort_string g 0 cap ks w hH hgl (by omega)).mono ?_
    rintro e w' ⟨rfl, m, os, rfl⟩
    rw [hsk]
    have hgm : g < (Sort.ahead w m).heap.size := hgl
    have hHn : Holds encStr (grow (putRow encStr (Sort.ahead w m) g 0 (vKeys M P).toArray) os) g 0 (vKeys M P).toArray := by
      refine holds_grow encStr _ os g 0 _ (by rw [size_putRow]; exact hgl) (holds_putRow encStr _ g 0 ks.toArray _ hH (by simp [hlk]))
    refine ⟨rfl, ?_, ?_, fun hne => ?_⟩
    · refine ⟨_, cap, by rw [List.length_map, hlk], by rw [List.length_map]; omega, by unfold maxLen at hcm; omega, (fun c hc => by obtain ⟨p, _, rfl⟩ := List.mem_map.1 hc; rfl), fun _ => ⟨g, 0, rfl, hb, fun i hi j hj => ?_⟩⟩
      rw [List.length_map] at hi
      obtain rfl : j = 0 := by omega
      have h1 := (hHn i (by simpa using hi)).1
      rw [show 0 + i * 1 + 0 = 0 + i by omega, h1, List.getElem_map]
      simp [hi, encK]
    · refine ⟨rfl, rfl, rfl, by simp [grow, putRow, mapBlock, Sort.ahead], fun i hi hs => ?_⟩
      have hne : i ≠ g := fun e => hs (by rw [e]; rfl)
      have hi' : i < (putRow encStr (Sort.ahead w m) g 0 (vKeys M P).toArray).heap.size := by rw [size_putRow]; exact hi
      rw [heap_grow_old _ _ hi']
      show ((Sort.ahead w m).heap.modify g _)[i]? = _
      rw [Array.getElem?_modify, if_neg (fun e => hne e.symm)]
      rfl
    · have h0 := (hHn 0 (by rw [List.size_toArray]; exact List.length_pos_iff.2 hne)).1
      have hbk : (grow (putRow encStr (Sort.ahead w m) g 0 (vKeys M P).toArray) os).heap[g]? = some (.cells (putCells encStr 0 (vKeys M P).toArray cur) 9 (0, 0)) := by
        rw [heap_grow_old _ _ (by rw [size_putRow]; exact hgl)]
        show ((Sort.ahead w m).heap.modify g _)[g]? = _
        rw [Array.getElem?_modify, if_pos rfl]
        show Option.map _ w.heap[g]? = _
        rw [hg]
        rfl
      rw [cell_of_row _ _ _ _ _ _ hbk] at h0
      exact ⟨g, cap, by rw [hlk], _, _, _, hbk, h0⟩
theorem NmSt.next {B : Int → VT α} {who : Int} {P : Bs} {z : Nat} {w W W' : World} {v v' : Value} {ks : List Bs} {left : Lit → Bool} (hlen : ∀ p ∈ B who, p.1.length ≤ 64) (hw : Wf who) (H : NmSt B who P z w W v ks left) {i : Int} {s : Bs} (hi : Wf i) (hs : s.length ≤ maxLen) (hl : left (keyP i s) = true) (hf : Fr (fun _ => False) w W')
    (hp : ((i = who ∧ Lib.hasPrefix s P = true) ∧ OwnE 9 1 z W' v' (ks.map encK ++ [encK s])) ∨ (¬ (i = who ∧ Lib.hasPrefix s P = true) ∧ OwnE 9 1 z W' v' (ks.map encK))) :
    ∃ ks', NmSt B who P z w W' v' ks' (fun y => left y && !y.sameKey (keyP i s)) ∧ ks'.length = ks.length + (if i = who ∧ Lib.hasPrefix s P = true then 1 else 0) := by
  have hkl : ∀ k, k ∈ vKeys (B who) P → k.length ≤ maxLen := fun k hk => by
    obtain ⟨h1, _⟩ := vKeys_mem.1 hk
    obtain ⟨x, hx⟩ := Option.isSome_iff_exists.1 h1
    have := hlen _ (vGet_mem hx)
    unfold maxLen
    simp only at this
    omega
  have hleft : ∀ k, k.length ≤ maxLen → (left (keyP who k) && !(keyP who k).sameKey (keyP i s)) = (left (keyP who k) && !decide (who = i ∧ k = s)) := fun k hk => by rw [sameKey_keyP hw hi hk hs]
  have hL : ∀ j k, Wf j → k.length ≤ maxLen → (left (keyP j k) && !(keyP j k).sameKey (keyP i s)) = true → (vGet (B j) k).isSome = true := fun j k hj hk h => H.left j k hj hk (Bool.and_eq_true_iff.1 h).1
  rcases hp with ⟨⟨rfl, h1⟩, h2⟩ | ⟨h1, h2⟩
  · have hnx : s ∉ ks := fun h => by have := ((H.mem s).1 h).2; rw [hl] at this; cases this
    have hsm : s ∈ vKeys (B i) P := vKeys_mem.2 ⟨H.left i s hi hs hl, h1⟩
    refine ⟨ks ++ [s], ⟨by rw [List.map_append]; exact h2, ?_, fun k => ?_, hL, hf⟩, by rw [if_pos ⟨rfl, h1⟩]; simp⟩
    · rw [List.nodup_append]
      exact ⟨H.nodup, by simp, fun a ha b hb e => hnx (by rw [List.mem_singleton.1 hb] at e; exact e ▸ ha)⟩
    · rw [List.mem_append, H.mem k, List.mem_singleton]
      constructor
      · rintro (⟨h3, h4⟩ | rfl)
        · exact ⟨h3, by rw [hleft k (hkl k h3), h4]; rfl⟩
        · exact ⟨hsm, by rw [hleft k (hkl k hsm)]; simp⟩
      · rintro ⟨h3, h4⟩
        rw [hleft k (hkl k h3)] at h4
        by_cases e : k = s
        · exact .inr e
        · rw [decide_eq_false (fun h => e h.2)] at h4
          exact .inl ⟨h3, by simpa using h4⟩
  · refine ⟨ks, ⟨h2, H.nodup, fun k => ?_, hL, hf⟩, by rw [if_neg h1]; rfl⟩
    rw [H.mem k]
    constructor
    · rintro ⟨h3, h4⟩
      exact ⟨h3, by rw [hleft k (hkl k h3), h4]; rfl⟩
    · rintro ⟨h3, h4⟩
      rw [hleft k (hkl k h3)] at h4
      have hne : ¬ (who = i ∧ k = s) := by
        rintro ⟨rfl, rfl⟩
        exact h1 ⟨rfl, (vKeys_mem.1 h3).2⟩
      rw [decide_eq_false hne] at h4
      exact ⟨h3, by simpa using h4⟩
theorem NmSt.le {B : Int → VT α} {who : Int} {P : Bs} {z : Nat} {w W : World} {v : Value} {ks : List Bs} {left : Lit → Bool} (H : NmSt B who P z w W v ks left) : ks.length ≤ (B who).length :=
  Nat.le_trans (H.nodup.length_le_of_subset (fun k hk => ((H.mem k).1 hk).1)) (vKeys_le (B who) P)
end
end Go.Proofs.Ytdpaobflknkbkaa
namespace Go.Proofs.Ytdpaobflknkbkaa
open Go.RowKit Go.ChangeShapes
set_option linter.unusedVariables false
section
variable {P : Program} {w : World} {o : Oper} {a : Act}
set_option maxRecDepth 100000 in
theorem op_fieldAddr {s : TypeId} {x : Operand} {f : Nat} {vx v : Value} (ho : o.op = .fieldAddr s x f) (hx : a.eval x = vx) (hr : (Instr.fieldAt s vx f).run P w = .ok v w) : (execOp a.eval o).run P w = .ok (.value v) w := by
  unfold execOp
  rw [ho]
  simp only [hx, Sem.run_bind, hr, Result.andThen_ok]
  rfl
set_option maxRecDepth 100000 in
theorem op_loadAt {t : TypeId} {x : Operand} {vx v : Value} (ho : o.op = .load t x) (hx : a.eval x = vx) (hr : (Instr.loadAt t vx).run P w = .ok v w) : (execOp a.eval o).run P w = .ok (.value v) w := by
  unfold execOp
  rw [ho]
  simp only [hx, Sem.run_bind, hr, Result.andThen_ok]
  rfl
set_option maxRecDepth 100000 in
theorem op_unop {t : TypeId} {op : UnOp} {x : Operand} {vx v : Value} (ho : o.op = .unOp op t x) (hx : a.eval x = vx) (hr : (Op.unary op vx).run P w = .ok v w) : (execOp a.eval o).run P w = .ok (.value v) w := by
  unfold execOp
  rw [ho]
  simp only [hx, Sem.run_bind, hr, Result.andThen_ok]
  rfl
set_option maxRecDepth 100000 in
theorem op_indexAddr {t : TypeId} {x i : Operand} {vx vi v : Value} (ho : o.op = .indexAddr t x i) (hx : a.eval x = vx) (hi : a.eval i = vi) (hr : (Instr.indexAt t vx vi).run P w = .ok v w) : (execOp a.eval o).run P w = .ok (.value v) w := by
  unfold execOp
  rw [ho]
  simp only [hx, hi, Sem.run_bind, hr, Result.andThen_ok]
  rfl
end
section
variable {P : Program} {w : World} {o : Oper} {a : Act}
theorem eval_const5 (a : Act) (v : Value) : a.eval (.const v) = v := rfl
end
theorem load_one5 (w : World) (T : TypeId) (p : Addr) (v : Value) (hT : (isAgg T).run Try.prog w = .ok false w) (h : w.cell? p = some v) : (Instr.loadAt T (.pointer (some p))).run Try.prog w = .ok v w := by
  simp [Instr.loadAt, Instr.sureAddr, loadVar, hT, h, go_sem]
theorem load_int5 (w : World) (p : Addr) (v : Value) (h : w.cell? p = some v) : (Instr.loadAt 3 (.pointer (some p))).run Try.prog w = .ok v w := load_one5 w _ p v (by kernel_rfl) h
section
variable {w : World} {T : TypeId} {k : IntKind} {x y : Int}
theorem leq_yes (h : x ≤ y) : (binOp .leq T (.int k x) (.int k y)).run Try.prog w = .ok (.bool true) w := by rw [binOp_leq]; simp [h]
theorem leq_no (h : y < x) : (binOp .leq T (.int k x) (.int k y)).run Try.prog w = .ok (.bool false) w := by rw [binOp_leq]; simp [h]
theorem lss_yes (h : x < y) : (binOp .lss T (.int k x) (.int k y)).run Try.prog w = .ok (.bool true) w := by rw [binOp_lss]; simp [h]
theorem lss_no (h : y ≤ x) : (binOp .lss T (.int k x) (.int k y)).run Try.prog w = .ok (.bool false) w := by rw [binOp_lss]; simp [h]
theorem geq_yes (h : y ≤ x) : (binOp .geq T (.int k x) (.int k y)).run Try.prog w = .ok (.bool true) w := by rw [binOp_geq]; simp [h]
theorem geq_no (h : x < y) : (binOp .geq T (.int k x) (.int k y)).run Try.prog w = .ok (.bool false) w := by rw [binOp_geq]; simp [h]
theorem eql_yes : (binOp .eql T (.int k x) (.int k x)).run Try.prog w = .ok (.bool true) w := by rw [binOp_eql]; simp
theorem neq_no : (binOp .neq T (.int k x) (.int k x)).run Try.prog w = .ok (.bool false) w := by rw [binOp_neq]; simp
end
theorem wrap_in5 {x : Int} (h0 : -9223372036854775808 ≤ x) (h1 : x ≤ 9223372036854775807) : IntKind.i64.wrap x = x := IntWalk.i64_in x (by omega)
theorem add_in5 {w : World} {T : TypeId} {x y z : Int} (hz : x + y = z) (h0 : -9223372036854775808 ≤ z) (h1 : z ≤ 9223372036854775807) : (binOp .add T (.int .i64 x) (.int .i64 y)).run Try.prog w = .ok (.int .i64 z) w := by
  rw [binOp_add]
  subst hz
  simp [Op.intArith, wrap_in5 h0 h1, go_sem]
theorem sub_in5 {w : World} {T : TypeId} {x y z : Int} (hz : x - y = z) (h0 : -9223372036854775808 ≤ z) (h1 : z ≤ 9223372036854775807) : (binOp .sub T (.int .i64 x) (.int .i64 y)).run Try.prog w = .ok (.int .i64 z) w := by
  rw [binOp_sub]
  subst hz
  simp [Op.intArith, wrap_in5 h0 h1, go_sem]
theorem range_row5 {w : World} {g : Nat} {C : Array Value} {T : TypeId} (h : w.heap[g]? = some (.cells C T (0, 0))) : w.rangeAt g 0 C.toList := fun j v hv => by
  rw [Nat.zero_add, cell_of_row _ _ _ _ _ _ h]
  simpa using hv
theorem op_extract5 {P : Program} {w : World} {o : Oper} {a : Act} {x : Operand} {i : Nat} {vs : Array Value} {v : Value} (ho : o.op = .extract x i) (hx : a.eval x = .tuple vs) (hv : vs[i]? = some v) : (execOp a.eval o).run P w = .ok (.value v) w := by
  unfold execOp
  rw [ho]
  simp only [hx, Instr.extract, hv]
  rfl
theorem op_nilCheck {P : Program} {w : World} {o : Oper} {a : Act} {x : Operand} {p : Addr} (ho : o.op = .nilCheck x) (hx : a.eval x = .pointer (some p)) : (execOp a.eval o).run P w = .ok (.value (.pointer (some p))) w := by
  unfold execOp
  rw [ho]
  simp only [hx]
  rfl
theorem op_lookup {P : Program} {w : World} {o : Oper} {a : Act} {t : TypeId} {m x : Operand} {c : Bool} {vm vx v : Value} (ho : o.op = .lookup t m x c) (hm : a.eval m = vm) (hx : a.eval x = vx) (hr : (Instr.lookup t vm vx c).run P w = .ok v w) : (execOp a.eval o).run P w = .ok (.value v) w := by
  unfold execOp
  rw [ho]
  simp only [hm, hx, Sem.run_bind, hr, Result.andThen_ok]
  rfl
theorem op_append9 {w w' : World} {o : Oper} {a : Act} {s x : Operand} {ST : TypeId} {v y u : Value} (ho : o.op = Op.call { callee := Callee.builtin Builtin.append, args := #[s, x], argTypes := #[ST, ST] }) (hs : a.eval s = v) (hx : a.eval x = y) (hr : (Builtin.append_ #[ST, ST] o.type #[v, y]).run Try.prog w = .ok u w') : (execOp a.eval o).run Try.prog w = .ok (.value u) w' := by
  simp [execOp, ho, resolve, invoke, builtin, hs, hx, hr, Result.andThen]
theorem op_store_row {P : Program} {w : World} {o : Oper} {a : Act} {ty : TypeId} {x y : Operand} {g : Nat} {cells old : Array Value} {t : TypeId} (ho : o.op = .store ty x y) (hx : a.eval x = .pointer (some ⟨g, 0, none⟩)) (hy : a.eval y = .agg cells)
    (hg : w.heap[g]? = some (.cells old t (0, 0))) (hi : (P.info? ty).map (·.size) = some cells.size) (hs : old.size = cells.size) (h1 : cells.all (·.oneCell') = true) : (execOp a.eval o).run P w = .ok .skip (w.setRow g cells) := by
  unfold execOp
  simp only [ho, hx, hy, Instr.storeAt, Instr.sureAddr, Sem.run_bind, Sem.run_pure, Result.andThen_ok, run_storeVar_row w g t ty old cells hg hi hs h1]
theorem op_alloc9 {P : Program} {w w' : World} {o : Oper} {a : Act} {t : TypeId} {v : Value} (ho : o.op = .alloc t) (hr : (Instr.alloc t true (.tuple #[])).run P w = .ok v w') : (execOp a.eval o).run P w = .ok (.value v) w' := by
  unfold execOp
  rw [ho]
  simp only [Sem.run_bind, hr, Result.andThen_ok]
  rfl
theorem place_built (i : Int) (N : ByteArray) : Try.prog.built 114 #[(0, Value.int .i64 i), (1, Value.string N)].toList = some #[.int .i64 i, .string N] := by kernel_rfl
end Go.Proofs.Ytdpaobflknkbkaa
namespace Go.Proofs.Ytdpaobflknkbkaa
open Go.RowKit Go.ChangeShapes Go.Maps Go.WideMaps
set_option linter.unusedVariables false
def zR : Value := .agg (pathC (List.replicate 20 0) ⟨#[]⟩)
theorem zeroR {w : World} : (zeroValue 43).run Try.prog w = .ok zR w := by kernel_rfl
def KpV (T : Nat → Prop) (A B : World) : Prop := Fr T A B ∧ ∀ k, StrB A k → B.heap[k]? = A.heap[k]?
theorem StrB.lt {w : World} {k : Nat} (h : StrB w k) : k < w.heap.size := by obtain ⟨cs, fr, s, h1, _⟩ := h; exact lt_of_block h1
theorem StrB.same {A B : World} {k : Nat} (h : StrB A k) (e : B.heap[k]? = A.heap[k]?) : StrB B k := by obtain ⟨cs, fr, s, h1, h2⟩ := h; exact ⟨cs, fr, s, by rw [e]; exact h1, h2⟩
theorem KpV.trans {T : Nat → Prop} {A B C : World} (h : KpV T A B) (k : KpV T B C) : KpV T A C := ⟨h.1.trans k.1 (fun _ h => .inl h), fun i hi => by rw [k.2 i (hi.same (h.2 i hi)), h.2 i hi]⟩
theorem KpV.of {S T : Nat → Prop} {A B : World} (h : Fr S A B) (h1 : ∀ k, k < A.heap.size → S k → T k) (h2 : ∀ k, StrB A k → ¬ S k) : KpV T A B := ⟨h.mono h1, fun k hk => h.block k hk.lt (h2 k hk)⟩
theorem StrB.keep {S : Nat → Prop} {A B : World} {k : Nat} (h : StrB A k) (hf : Fr S A B) (hs : ¬ S k) : StrB B k := h.same (hf.block k h.lt hs)
theorem FrV.grew {A B : World} (h : Fr (fun _ => False) A B) : A.grownBy B none := ⟨h.os, h.tape, h.output, h.size, fun k hk _ => h.block k hk id⟩
section
variable {α : Type}
abbrev KeyV (M : VT α) := {k : Bs // (vGet M k).isSome = true}
def getV {M : VT α} (x : KeyV M) : α := (vGet M x.1).get x.2
theorem getV_eq {M : VT α} (x : KeyV M) : vGet M x.1 = some (getV x) := by unfold getV; simp
def keysV (M : VT α) (P : Bs) : List (KeyV M) := (vKeys M P).attach.map (fun k => ⟨k.1, (vKeys_mem.1 k.2).1⟩)
theorem keysV_map (M : VT α) (P : Bs) : (keysV M P).map (·.1) = vKeys M P := by unfold keysV; rw [List.map_map]; exact List.attach_map_subtype_val _
theorem keysV_length (M : VT α) (P : Bs) : (keysV M P).length = (vKeys M P).length := by unfold keysV; simp
def rowV {M : VT α} (x : KeyV M) : Bs × α := (x.1, getV x)
theorem rowsV_map {M : VT α} (hM : VOk M) (P : Bs) : (keysV M P).map rowV = M.filter (fun p => Lib.hasPrefix p.1 P) := by
  have h2 : (M.filter (fun p => Lib.hasPrefix p.1 P)).map (·.1) = vKeys M P := rfl
  have h3 : ((keysV M P).map rowV).map (·.1) = vKeys M P := by rw [List.map_map]; exact keysV_map M P
  refine List.ext_getElem (by rw [List.length_map, keysV_length, ← h2, List.length_map]) fun i hi hj => ?_
  have hi2 : i < (keysV M P).length := by simpa using hi
  have e1 : ((keysV M P).map rowV)[i].1 = (M.filter (fun p => Lib.hasPrefix p.1 P))[i].1 := by
    have a : (((keysV M P).map rowV).map (·.1))[i]'(by simpa using hi2) = ((M.filter (fun p => Lib.hasPrefix p.1 P)).map (·.1))[i]'(by simpa using hj) := List.getElem_of_eq (h3.trans h2.symm) _
    simpa only [List.getElem_map] using a
  have hm := (List.mem_filter.1 (List.getElem_mem hj)).1
  have hg := vGet_of_mem hM hm
  rw [← e1] at hg
  have hx := getV_eq ((keysV M P)[i])
  have e2 : ((keysV M P).map rowV)[i] = rowV (keysV M P)[i] := List.getElem_map ..
  rw [e2] at e1 hg ⊢
  have e3 : vGet M (rowV (keysV M P)[i]).1 = some (getV (keysV M P)[i]) := hx
  rw [e3] at hg
  exact Prod.ext e1 (Option.some.inj hg)
def encV {M : VT α} (val : Bs → Value) (x : KeyV M) : Array Value := #[encStr x.1, val x.1]
theorem ThAt.vals {K : VKind α} {F : Nat → Prop} {w : World} {tm n : Nat} {B : Int → VT α} (h : ThAt K F w tm n B) (who : Int) (hw : Wf who) (hl : ∀ p ∈ B who, p.1.length ≤ 64) : ∃ (D : DataW Value) (val : Bs → Value), w.ownsMap Try.prog 114 heldR9 tm n D ∧ ∀ k x, vGet (B who) k = some x → (∀ z, D.atKey (keyP who k) z = .held (val k)) ∧ K.vi F w (val k) x := by
  obtain ⟨D, h1, h2, h3⟩ := h
  have : ∀ k, ∃ v, ∀ x, vGet (B who) k = some x → (∀ z, D.atKey (keyP who k) z = .held v) ∧ K.vi F w v x := fun k => by
    cases hg : vGet (B who) k with
    | none => exact ⟨.nilFunc, fun b h => by cases h⟩
    | some x =>
      have hk := hl _ (vGet_mem hg)
      obtain ⟨v, hv⟩ := h3 who k x hw (by unfold maxLen; simp only at hk; omega) hg
      exact ⟨v, fun x' e => by obtain rfl := Option.some.inj e; exact hv⟩
  obtain ⟨f, hf⟩ := Classical.axiomOfChoice this
  exact ⟨D, f, h1, hf⟩
end
end Go.Proofs.Ytdpaobflknkbkaa
namespace Go.Proofs.Ytdpaobflknkbkaa
open Go.RowKit
set_option linter.unusedVariables false
section
variable {P : Program}
def InvStep9 (P : Program) (l : List Oper) (n : Nat) (Q : Exit → Act → World → Prop) (B : (Nat → Bool) → World → Prop) (R : Nat → Value → World → Prop) (D : Nat → Nat → Value → Value → Prop) (Ext : World → World → Prop) (a0 : Act) (i : Nat) (o : Oper) : Prop :=
  ∀ (a : Act) (w : World) (vs : Nat → Value) (f : Nat → Bool), f i = false → B f w → a.tmps.size = a0.tmps.size →
    (∀ j t, waitsOn o j = true → dstAt l j = some t → f j = true ∧ R j (vs j) w ∧ a.eval (.tmp t) = vs j) →
    (∀ t, untouched l n t = true → a.eval (.tmp t) = a0.eval (.tmp t)) →
    WpG P l o a w (fun a' w' => ∃ v, a' = a.put o.dst v ∧ B (fun k => if k = i then true else f k) w' ∧ Ext w w' ∧ R i v w' ∧ ∀ j u, j < n → j ≠ i → R j u w → D i j v u) Q
theorem wp_region_inv9 {id : Nat} {Q : Exit → Act → World → Prop} {a : Act} {w : World} {l : List Oper} (n : Nat) (hm : P.follows .mixedOrders = true) (hB : invB l n a.tmps.size = true)
    (B : (Nat → Bool) → World → Prop) (R : Nat → Value → World → Prop) (D : Nat → Nat → Value → Value → Prop) (Ext : World → World → Prop) (hext : ∀ j u w w', Ext w w' → R j u w → R j u w') (hB0 : B (fun _ => false) w.drew)
    (hstep : ∀ i, i < n → ∀ o, l[i]? = some o → InvStep9 P l n Q B R D Ext a i o)
    (htail : ∀ f vs w', (∀ i, i < n → f i = true) → B f w' → (∀ i, i < n → R i (vs i) w') → (∀ i j, i < n → j < n → i ≠ j → D i j (vs i) (vs j) ∨ D j i (vs j) (vs i)) → wpList P l.toArray Q (l.drop n) (acts l (fun _ => true) vs a n) w') : (Code.region id l.toArray true).wp P Q a w := by
  simp only [invB, Bool.and_eq_true, decide_eq_true_eq, Bool.or_eq_true] at hB
  obtain ⟨⟨⟨⟨hn, hops⟩, hdst⟩, hwait⟩, hseq⟩ := hB
  have hop : ∀ i, i < n → ∃ o, l[i]? = some o ∧ (∀ e ∈ o.after, Region.binds .any e = true → e.on < i) ∧ (∀ d, o.dst = some d → d < a.tmps.size) := by
    intro i hi
    have h := List.all_eq_true.1 hops i (List.mem_range.2 hi)
    cases ho : l[i]? with
    | none => rw [ho] at h; cases h
    | some o =>
      rw [ho] at h
      simp only [Bool.and_eq_true] at h
      obtain ⟨h2, h3⟩ := h
      refine ⟨o, rfl, fun e he hb => ?_, fun d hd => ?_⟩
      · have := Array.all_eq_true_iff_forall_mem.1 h2 e he
        rw [hb] at this
        simpa using this
      · rw [hd] at h3
        simpa using h3
  have hdis : ∀ i j, i < n → j < n → j ≠ i → ∀ d, dstAt l i = some d → dstAt l j ≠ some d := by
    intro i j hi hj hji d hd hd2
    have h := List.all_eq_true.1 (List.all_eq_true.1 hdst i (List.mem_range.2 hi)) j (List.mem_range.2 hj)
    rw [hd, hd2] at h
    simp at h
    omega
  refine wp_region_any hm ?_
  have main : ∀ (m : Nat) (listed : Array Bool) (vs : Nat → Value) (w' : World), left n listed = m → HeadInv .any l.toArray n listed → B (fun i => listed.getD i false) w' → (∀ i, i < n → listed.getD i false = true → R i (vs i) w') →
      (∀ i j, i < n → j < n → listed.getD i false = true → listed.getD j false = true → i ≠ j → D i j (vs i) (vs j) ∨ D j i (vs j) (vs i)) →
      wpAny P .any l.toArray Q (m + (l.length - n)) listed (acts l (fun i => listed.getD i false) vs a n) w' := by
    intro m
    induction m with
    | zero =>
      intro listed vs w' hl inv hBw hR hD
      have hall : ∀ i, i < n → listed.getD i false = true := fun i hi => by simpa using countP_zero n hl i hi
      have hlisted : listed = (List.replicate n true ++ List.replicate (l.length - n) false).toArray := by
        apply Array.ext
        · rw [inv.size]; simp; omega
        · intro i h1 h2
          have hi : i < l.length := by rw [inv.size] at h1; simpa using h1
          have e1 : listed[i] = listed.getD i false := by simp [h1]
          rw [e1]
          by_cases h : i < n
          · rw [hall i h]
            simp [h]
          · rw [getD_both (inv.tail i (by omega) (by simpa using hi))]
            simp [List.getElem_append, h]
      have hact : acts l (fun i => listed.getD i false) vs a n = acts l (fun _ => true) vs a n := acts_congr n fun j hj => ⟨hall j hj, fun _ => rfl⟩
      rw [hact, Nat.zero_add]
      have hdl : (l.drop n).length = l.length - n := by simp
      rw [← hdl]
      refine wpAny_of_seq (l.drop n) n listed _ w' (fun j => by simp [List.getElem?_drop]) ?_ (htail _ vs w' hall hBw (fun i hi => hR i hi (hall i hi)) (fun i j hi hj hij => hD i j hi hj (hall i hi) (hall j hj) hij))
      rw [hdl, hlisted]
      exact hseq
    | succ m ih =>
      intro listed vs w' hl inv hBw hR hD
      have hex : ∃ i, i < n ∧ listed.getD i false = false := by
        by_cases h : ∃ i, i < n ∧ listed.getD i false = false
        · exact h
        · exfalso
          have : left n listed = 0 := by
            unfold left
            rw [List.countP_eq_zero]
            intro i hi
            have hi' := List.mem_range.1 hi
            cases hg : listed.getD i false with
            | true => simp
            | false => exact absurd ⟨i, hi', hg⟩ h
          omega
      obtain ⟨i0, hi0, hun0⟩ := hex
      have hne : Region.ready .any l.toArray listed ≠ [] := by
        obtain ⟨i1, ⟨hi1, hun1⟩, hmin⟩ := least (p := fun i => i < n ∧ listed.getD i false = false) i0 ⟨hi0, hun0⟩
        obtain ⟨o, ho, hback, _⟩ := hop i1 hi1
        have : i1 ∈ Region.ready .any l.toArray listed := by
          refine mem_ready.2 ⟨getD_in (by rw [inv.size]; simp; omega) hun1, o, by simpa using ho, fun e he hb => ?_⟩
          have h1 := hback e he hb
          cases hg : listed.getD e.on false with
          | true => rfl
          | false => exact absurd ⟨by omega, hg⟩ (hmin e.on h1)
        intro h
        rw [h] at this
        cases this
      rw [show m + 1 + (l.length - n) = (m + (l.length - n)) + 1 by omega]
      refine ⟨fun h => absurd h hne, fun i hi => ?_⟩
      have hin : i < n := by
        rcases Nat.lt_or_ge i n with h | h
        · exact h
        · exfalso
          rcases hwait with hw | ⟨⟨hs, hc⟩, hlt⟩
          · obtain ⟨_, o, ho, _⟩ := mem_ready.1 hi
            have := (Array.getElem?_eq_some_iff.1 ho).1
            simp at this
            omega
          · exact tail_waits hs hc (by simpa using hlt) inv _ i0 rfl hi0 (getD_in (by rw [inv.size]; simp; omega) hun0) i h hi
      obtain ⟨hun, o', ho', hall⟩ := mem_ready.1 hi
      obtain ⟨o, ho, hback, hds⟩ := hop i hin
      have : o' = o := by simpa [ho] using ho'.symm
      subst this
      have hdo : dstAt l i = o'.dst := by simp [dstAt, ho]
      have hunf := getD_both hun
      have hst := hstep i hin o' ho (acts l (fun i => listed.getD i false) vs a n) w' vs (fun i => listed.getD i false) hunf hBw (acts_size n)
        (fun j t hj ht => by
          obtain ⟨e, he, hb⟩ := Array.any_eq_true'.1 hj
          simp only [Bool.and_eq_true, beq_iff_eq] at hb
          obtain ⟨hb, rfl⟩ := hb
          have h1 := hall e he hb
          have h2 := hback e he hb
          refine ⟨h1, hR e.on (by omega) h1, ?_⟩
          obtain ⟨oe, hoe, _, hde⟩ := hop e.on (by omega)
          exact acts_eval_eq h1 ht (hde t (by simpa [dstAt, hoe] using ht)) n (by omega) (fun j hj hji => hdis e.on j (by omega) hj hji t ht))
        (fun t ht => acts_eval_ne n (fun j hj => by simpa using List.all_eq_true.1 ht j (List.mem_range.2 hj)))
      have hgo : ∀ a' w2, (∃ v, a' = (acts l (fun i => listed.getD i false) vs a n).put o'.dst v ∧ B (fun k => if k = i then true else listed.getD k false) w2 ∧ Ext w' w2 ∧ R i v w2 ∧ ∀ j u, j < n → j ≠ i → R j u w' → D i j v u) →
          wpAny P .any l.toArray Q (m + (l.length - n)) (listed.setIfInBounds i true) a' w2 := by
        rintro a' w2 ⟨v, rfl, hB2, hE, hRv, hDv⟩
        have hput := acts_put (l := l) (f := fun i => listed.getD i false) (vs := vs) (a0 := a) (i := i) (v := v) hunf n hin (fun j hj hji d hd => hdis i j hin hj hji d hd)
        rw [← hdo, ← hput]
        have hcong : acts l (fun j => if j = i then true else listed.getD j false) (fun j => if j = i then v else vs j) a n = acts l (fun j => (listed.setIfInBounds i true).getD j false) (fun j => if j = i then v else vs j) a n := by
          refine acts_congr n fun j hj => ⟨?_, fun _ => rfl⟩
          by_cases hji : j = i
          · subst hji
            rw [if_pos rfl]
            have : j < listed.size := by rw [inv.size]; simp; omega
            simp [this]
          · rw [if_neg hji, getD_set_ne false (Ne.symm hji)]
        rw [hcong]
        have hBs : (fun k => if k = i then true else listed.getD k false) = (fun k => (listed.setIfInBounds i true).getD k false) := by
          funext k
          by_cases hki : k = i
          · subst hki
            rw [if_pos rfl]
            have : k < listed.size := by rw [inv.size]; simp; omega
            simp [this]
          · rw [if_neg hki, getD_set_ne false (Ne.symm hki)]
        rw [hBs] at hB2
        refine ih _ _ w2 ?_ (inv.set hi hin) hB2 (fun j hj hlj => ?_) (fun j k hj hk hlj hlk hjk => ?_)
        · have hsz : i < listed.size := by rw [inv.size]; simp; omega
          have := countP_one (f := fun j => !listed.getD j false) (g := fun j => !(listed.setIfInBounds i true).getD j false) (i := i) (by simp only [hunf]; rfl) (by simp [hsz]) (fun j hj => by simp only [getD_set_ne false (Ne.symm hj)]) n
          rw [if_pos hin] at this
          unfold left at hl ⊢
          omega
        · by_cases hji : j = i
          · subst hji
            rw [if_pos rfl]
            exact hRv
          · rw [if_neg hji]
            rw [getD_set_ne false (Ne.symm hji)] at hlj
            exact hext _ _ _ _ hE (hR j hj hlj)
        · by_cases hji : j = i
          · subst hji
            rw [if_pos rfl, if_neg (Ne.symm hjk)]
            rw [getD_set_ne false hjk] at hlk
            exact .inl (hDv k _ hk (Ne.symm hjk) (hR k hk hlk))
          · rw [if_neg hji]
            rw [getD_set_ne false (Ne.symm hji)] at hlj
            by_cases hki : k = i
            · subst hki
              rw [if_pos rfl]
              exact .inr (hDv j _ hj hji (hR j hj hlj))
            · rw [if_neg hki]
              rw [getD_set_ne false (Ne.symm hki)] at hlk
              exact hD j k hj hk hlj hlk hjk
      unfold wpOp
      rw [ho']
      unfold WpG at hst
      simp only
      split
      · rename_i hw
        rw [if_pos hw] at hst
        exact .inl (Oper.wp_mono (fun a' w2 h => hgo a' w2 h) hst)
      · rename_i hw
        rw [if_neg hw] at hst
        exact hgo _ _ hst
  have h0 : left n (Array.replicate l.length false) = n := by
    unfold left
    have : ((List.range n).countP fun i => !(Array.replicate l.length false).getD i false) = (List.range n).length := by
      rw [List.countP_eq_length]
      intro i _
      rw [getD_replicate_false]
      rfl
    rw [this, List.length_range]
  have hmain := main n (Array.replicate l.length false) (fun _ => undef) w.drew h0
    ⟨by simp, fun j oj _ hl => (by rw [getD_replicate_false] at hl; cases hl), fun t _ ht => getD_in (by simpa using ht) (getD_replicate_false _ _)⟩ (by have e : (fun i => (Array.replicate l.length false).getD i false) = (fun _ => false) := funext fun i => getD_replicate_false _ _; rw [e]; exact hB0) (fun i _ hl => by rw [getD_replicate_false] at hl; cases hl) (fun i j _ _ hl => by rw [getD_replicate_false] at hl; cases hl)
  have e1 : acts l (fun i => (Array.replicate l.length false).getD i false) (fun _ => undef) a n = a := by
    have : ∀ k, acts l (fun i => (Array.replicate l.length false).getD i false) (fun _ => undef) a k = a := by
      intro k
      induction k with
      | zero => rfl
      | succ k ih => unfold acts; rw [if_neg (by rw [getD_replicate_false]; decide), ih]
    exact this n
  rw [e1, show n + (l.length - n) = l.length by omega] at hmain
  exact hmain
theorem wp_skip_inv {o : Oper} {a : Act} {w w' : World} {K : Act → World → Prop} {Q : Exit → Act → World → Prop} (h : (execOp a.eval o).run P w = .ok .skip w') (hK : K (a.put o.dst undef) w') : o.wp P a w K Q := by
  unfold Oper.wp
  rw [h]
  exact hK
end
end Go.Proofs.Ytdpaobflknkbkaa
