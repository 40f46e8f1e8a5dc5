/- Laid together: TabL TabM Maker -/
import Derived.Test.YtldgcoikbjbjeaaGreatTk8
import Derived.Test.YtldgcoikbjbjeaaGreatTk2
import Derived.Maps.OwnSet
import Derived.Maps.RangeWalk
import Derived.Deep.RegionLaw

namespace Go.Proofs.YtldgcoikbjbjeaaGreat
set_option linter.unusedVariables false
abbrev Bs := List UInt8
abbrev Tab := List (Bs × Bs)
abbrev Tab.Ok (M : Tab) : Prop := M.Pairwise (fun p q => p.1 < q.1)
def tGet (M : Tab) (k : Bs) : Option Bs := (M.find? (fun p => p.1 == k)).map (·.2)
def tDel (M : Tab) (k : Bs) : Tab := M.filter (fun p => p.1 != k)
def tPut : Tab → Bs → Bs → Tab
  | [], k, v => [(k, v)]
  | p :: r, k, v => if k < p.1 then (k, v) :: p :: r else if p.1 = k then (k, v) :: r else p :: tPut r k v
theorem bs_lt_or {a b : Bs} (h : ¬ a < b) (hn : b ≠ a) : b < a := by
  by_cases hb : b < a
  · exact hb
  · exact absurd (List.le_antisymm (List.not_lt.1 h) (List.not_lt.1 hb)) hn
theorem bs_ne {a b : Bs} (h : a < b) : a ≠ b := fun e => by subst e; exact List.lt_irrefl a h
theorem tGet_nil (k : Bs) : tGet [] k = none := rfl
theorem tGet_cons (p : Bs × Bs) (M : Tab) (k : Bs) : tGet (p :: M) k = if p.1 = k then some p.2 else tGet M k := by
  unfold tGet
  rw [List.find?_cons]
  by_cases h : p.1 = k
  · simp [h]
  · have : (p.1 == k) = false := by simpa using h
    simp [h, this]
theorem tGet_mem {M : Tab} {k v : Bs} (h : tGet M k = some v) : (k, v) ∈ M := by
  unfold tGet at h
  cases hf : M.find? (fun p => p.1 == k) with
  | none => rw [hf] at h; cases h
  | some p =>
    rw [hf] at h
    simp only [Option.map_some, Option.some.injEq] at h
    have h1 := List.find?_some hf
    have h2 := List.mem_of_find?_eq_some hf
    simp only [beq_iff_eq] at h1
    subst h1; subst h
    exact h2
theorem tGet_none {M : Tab} {k : Bs} : tGet M k = none ↔ ∀ p ∈ M, p.1 ≠ k := by
  unfold tGet
  rw [Option.map_eq_none_iff, List.find?_eq_none]
  simp
theorem tGet_of_mem {M : Tab} (hM : Tab.Ok M) {p : Bs × Bs} (h : p ∈ M) : tGet M p.1 = some p.2 := by
  induction M with
  | nil => cases h
  | cons q M ih =>
    rw [tGet_cons]
    rcases List.mem_cons.1 h with rfl | h
    · rw [if_pos rfl]
    · have h1 := List.pairwise_cons.1 hM
      rw [if_neg (bs_ne (h1.1 p h))]
      exact ih h1.2 h
theorem tDel_none {M : Tab} {k : Bs} (h : tGet M k = none) : tDel M k = M := by
  rw [tDel, List.filter_eq_self]
  intro p hp
  simpa using tGet_none.1 h p hp
theorem tGet_del_same (M : Tab) (k : Bs) : tGet (tDel M k) k = none := by
  rw [tGet_none]
  intro p hp
  have := (List.mem_filter.1 hp).2
  simpa using this
theorem tGet_del_other {M : Tab} {k j : Bs} (h : j ≠ k) : tGet (tDel M k) j = tGet M j := by
  induction M with
  | nil => rfl
  | cons p M ih =>
    by_cases hp : p.1 = k
    · have e : tDel (p :: M) k = tDel M k := by simp [tDel, hp]
      rw [e, ih, tGet_cons, if_neg (fun e => h (by rw [← e, hp]))]
    · have e : tDel (p :: M) k = p :: tDel M k := by simp [tDel, hp]
      rw [e, tGet_cons, tGet_cons, ih]
theorem Tab.Ok.del {M : Tab} (h : Tab.Ok M) (k : Bs) : Tab.Ok (tDel M k) := h.filter _
theorem tPut_keys {M : Tab} {k v : Bs} {p : Bs × Bs} (h : p ∈ tPut M k v) : p = (k, v) ∨ p ∈ M := by
  induction M with
  | nil => simp [tPut] at h; exact .inl h
  | cons q M ih =>
    unfold tPut at h
    split at h
    · rcases List.mem_cons.1 h with h | h
      · exact .inl h
      · exact .inr h
    · split at h
      · rcases List.mem_cons.1 h with h | h
        · exact .inl h
        · exact .inr (List.mem_cons_of_mem _ h)
      · rcases List.mem_cons.1 h with h | h
        · exact .inr (h ▸ List.mem_cons_self)
        · exact (ih h).imp id (List.mem_cons_of_mem _)
theorem Tab.Ok.put {M : Tab} (h : Tab.Ok M) (k v : Bs) : Tab.Ok (tPut M k v) := by
  induction M with
  | nil => simp [tPut, Tab.Ok]
  | cons q M ih =>
    have h1 := List.pairwise_cons.1 h
    unfold tPut
    split
    · next hlt =>
      refine List.pairwise_cons.2 ⟨fun p hp => ?_, h⟩
      rcases List.mem_cons.1 hp with rfl | hp
      · exact hlt
      · exact List.lt_trans hlt (h1.1 p hp)
    · next hnl =>
      split
      · next he => exact List.pairwise_cons.2 ⟨fun p hp => by rw [← he]; exact h1.1 p hp, h1.2⟩
      · next hne =>
        refine List.pairwise_cons.2 ⟨fun p hp => ?_, ih h1.2⟩
        rcases tPut_keys hp with rfl | hp
        · exact bs_lt_or hnl hne
        · exact h1.1 p hp
theorem tGet_put_same (M : Tab) (k v : Bs) : tGet (tPut M k v) k = some v := by
  induction M with
  | nil => simp [tPut, tGet_cons]
  | cons q M ih =>
    unfold tPut
    split
    · rw [tGet_cons, if_pos rfl]
    · split
      · rw [tGet_cons, if_pos rfl]
      · next hne => rw [tGet_cons, if_neg hne, ih]
theorem tGet_put_other {M : Tab} {k j v : Bs} (h : j ≠ k) : tGet (tPut M k v) j = tGet M j := by
  induction M with
  | nil => rw [tPut, tGet_cons, if_neg (fun e => h e.symm)]
  | cons q M ih =>
    unfold tPut
    split
    · rw [tGet_cons, if_neg (fun e => h e.symm)]
    · split
      · next he => rw [tGet_cons, tGet_cons, if_neg (fun e => h e.symm), if_neg (fun e => h (by rw [← e, he]))]
      · rw [tGet_cons, tGet_cons, ih]
theorem Tab.ext5 {M N : Tab} (hM : Tab.Ok M) (hN : Tab.Ok N) (h : ∀ k, tGet M k = tGet N k) : M = N := by
  have key : ∀ {M N : Tab}, Tab.Ok M → Tab.Ok N → (∀ k, tGet M k = tGet N k) → ∀ p ∈ M, p ∈ N := fun hM hN h p hp => by
    have h1 := tGet_of_mem hM hp
    rw [h] at h1
    exact tGet_mem h1
  induction M generalizing N with
  | nil =>
    cases N with
    | nil => rfl
    | cons q N => exact absurd (key hN hM (fun k => (h k).symm) q List.mem_cons_self) (by simp)
  | cons p M ih =>
    cases N with
    | nil => exact absurd (key hM hN h p List.mem_cons_self) (by simp)
    | cons q N =>
      have h1 := List.pairwise_cons.1 hM
      have h2 := List.pairwise_cons.1 hN
      have e : p = q := by
        rcases List.mem_cons.1 (key hM hN h p List.mem_cons_self) with e | hp
        · exact e
        · rcases List.mem_cons.1 (key hN hM (fun k => (h k).symm) q List.mem_cons_self) with e | hq
          · exact e.symm
          · exact absurd (List.lt_trans (h1.1 q hq) (h2.1 p hp)) (List.lt_irrefl _)
      subst e
      congr 1
      refine ih h1.2 h2.2 fun k => ?_
      have hk := h k
      rw [tGet_cons, tGet_cons] at hk
      by_cases e : p.1 = k
      · subst e
        rw [tGet_none.2 (fun r hr => (bs_ne (h1.1 r hr)).symm), tGet_none.2 (fun r hr => (bs_ne (h2.1 r hr)).symm)]
      · rwa [if_neg e, if_neg e] at hk
theorem tPut_del {M : Tab} (h : Tab.Ok M) (k v : Bs) : tPut (tDel M k) k v = tPut M k v := by
  refine Tab.ext5 ((h.del k).put k v) (h.put k v) fun j => ?_
  by_cases e : j = k
  · subst e
    rw [tGet_put_same, tGet_put_same]
  · rw [tGet_put_other e, tGet_put_other e, tGet_del_other e]
abbrev Chg := Bs × Option Bs
def tDo (M : Tab) (c : Chg) : Tab := match c.2 with
  | none => tDel M c.1
  | some v => tPut M c.1 v
def tDoAll (M : Tab) (L : List Chg) : Tab := L.foldl tDo M
theorem Tab.Ok.do {M : Tab} (h : Tab.Ok M) (c : Chg) : Tab.Ok (tDo M c) := by
  unfold tDo
  split
  · exact h.del _
  · exact h.put _ _
theorem Tab.Ok.doAll {M : Tab} (h : Tab.Ok M) (L : List Chg) : Tab.Ok (tDoAll M L) := by
  induction L generalizing M with
  | nil => exact h
  | cons c L ih => exact ih (h.do c)
theorem tGet_do_same (M : Tab) (c : Chg) : tGet (tDo M c) c.1 = c.2 := by
  unfold tDo
  split
  · next e => rw [tGet_del_same, e]
  · next e => rw [tGet_put_same, e]
theorem tGet_do_other {M : Tab} {c : Chg} {j : Bs} (h : j ≠ c.1) : tGet (tDo M c) j = tGet M j := by
  unfold tDo
  split
  · exact tGet_del_other h
  · exact tGet_put_other h
def tNow (M : Tab) (k : Bs) : Chg := (k, tGet M k)
theorem tDo_now {M : Tab} (h : Tab.Ok M) (c : Chg) : tDo (tDo M c) (tNow M c.1) = M := by
  refine Tab.ext5 ((h.do c).do _) h fun j => ?_
  by_cases e : j = c.1
  · subst e
    exact tGet_do_same _ (tNow M c.1)
  · rw [tGet_do_other (c := tNow M c.1) e, tGet_do_other e]
def tBack : Tab → List Chg → List Chg
  | _, [] => []
  | M, c :: L => tNow M c.1 :: tBack (tDo M c) L
theorem tBack_undo {M : Tab} (h : Tab.Ok M) (L : List Chg) : tDoAll (tDoAll M L) (tBack M L).reverse = M := by
  induction L generalizing M with
  | nil => rfl
  | cons c L ih =>
    rw [tBack, List.reverse_cons]
    have := ih (h.do c)
    unfold tDoAll at this ⊢
    rw [List.foldl_append, List.foldl_cons, List.foldl_cons, List.foldl_nil, this]
    exact tDo_now h c
def rowLen (p : Bs × Bs) : Nat := (recB p.1).length + (recB p.2).length
def tSum (M : Tab) : Nat := (M.map rowLen).sum
def tLen (M : Tab) : Nat := (numBytes 5 M.length).length + tSum M
def rowB (p : Bs × Bs) : Bs := recB p.1 ++ recB p.2
def rowsB (M : Tab) : Bs := numBytes 5 M.length ++ M.flatMap rowB
theorem rowsB_length (M : Tab) : (rowsB M).length = tLen M := by
  unfold rowsB tLen
  rw [List.length_append]
  congr 1
  induction M with
  | nil => rfl
  | cons p M ih =>
    rw [List.flatMap_cons, List.length_append, ih, tSum, tSum, List.map_cons, List.sum_cons]
    simp [rowB, rowLen]
theorem tSum_cons (p : Bs × Bs) (M : Tab) : tSum (p :: M) = rowLen p + tSum M := by simp [tSum]
theorem tDel_sum {M : Tab} (h : Tab.Ok M) {k v : Bs} (hg : tGet M k = some v) : tSum (tDel M k) + rowLen (k, v) = tSum M ∧ (tDel M k).length + 1 = M.length := by
  induction M with
  | nil => cases hg
  | cons p M ih =>
    have h1 := List.pairwise_cons.1 h
    rw [tGet_cons] at hg
    by_cases e : p.1 = k
    · rw [if_pos e] at hg
      have e2 : tDel (p :: M) k = M := by
        have : tDel (p :: M) k = tDel M k := by simp [tDel, e]
        rw [this]
        exact tDel_none (tGet_none.2 fun r hr => by rw [← e]; exact (bs_ne (h1.1 r hr)).symm)
      have e3 : p = (k, v) := by
        cases p
        simp only [Option.some.injEq] at hg e
        rw [e, hg]
      rw [e2, tSum_cons, e3]
      exact ⟨by omega, by simp⟩
    · rw [if_neg e] at hg
      have e2 : tDel (p :: M) k = p :: tDel M k := by simp [tDel, e]
      obtain ⟨i1, i2⟩ := ih h1.2 hg
      rw [e2, tSum_cons, tSum_cons]
      exact ⟨by omega, by simp only [List.length_cons]; omega⟩
theorem tPut_sum {M : Tab} {k v : Bs} (hg : tGet M k = none) : tSum (tPut M k v) = tSum M + rowLen (k, v) ∧ (tPut M k v).length = M.length + 1 := by
  induction M with
  | nil => simp [tPut, tSum]
  | cons p M ih =>
    rw [tGet_cons] at hg
    by_cases e : p.1 = k
    · rw [if_pos e] at hg; cases hg
    · rw [if_neg e] at hg
      obtain ⟨i1, i2⟩ := ih hg
      unfold tPut
      split
      · rw [tSum_cons]; exact ⟨by omega, by simp⟩
      · rw [tSum_cons, tSum_cons]
        exact ⟨by omega, by simp only [List.length_cons]; omega⟩
def chgB (c : Chg) : Bs := match c.2 with
  | none => numBytes 5 1 ++ recB c.1
  | some v => numBytes 5 0 ++ recB c.1 ++ recB v
def chgsB (L : List Chg) : Bs := numBytes 5 L.length ++ L.flatMap chgB
def keyOk (k : Bs) : Prop := 1 ≤ k.length ∧ k.length ≤ 64
def chgOk (c : Chg) : Prop := keyOk c.1 ∧ ∀ v, c.2 = some v → v.length ≤ 2048
def tabOk (M : Tab) : Prop := Tab.Ok M ∧ ∀ p ∈ M, keyOk p.1 ∧ p.2.length ≤ 2048
theorem tabOk.nil : tabOk [] := ⟨List.Pairwise.nil, fun p h => by cases h⟩
theorem tabOk.do {M : Tab} (h : tabOk M) {c : Chg} (hc : chgOk c) : tabOk (tDo M c) := by
  refine ⟨h.1.do c, fun p hp => ?_⟩
  unfold tDo at hp
  split at hp
  · exact h.2 p (List.mem_filter.1 hp).1
  · next v e =>
    rcases tPut_keys hp with rfl | hp
    · exact ⟨hc.1, hc.2 v e⟩
    · exact h.2 p hp
theorem tabOk.doAll {M : Tab} (h : tabOk M) {L : List Chg} (hc : ∀ c ∈ L, chgOk c) : tabOk (tDoAll M L) := by
  induction L generalizing M with
  | nil => exact h
  | cons c L ih => exact ih (h.do (hc c List.mem_cons_self)) (fun x hx => hc x (List.mem_cons_of_mem _ hx))
end Go.Proofs.YtldgcoikbjbjeaaGreat
namespace Go.Proofs.YtldgcoikbjbjeaaGreat
open Go.RowKit Go.ChangeShapes Go.Maps Go.WideMaps
set_option linter.unusedVariables false
def heldR6 : Value → Option (DataW Value × List MemPlace) := fun v => some (.held v, [])
def kS (k : Bs) : Lit := .string k
theorem kS_lit (k : Bs) : WideAt.IsKeyLit (kS k) := by simp [kS, WideAt.IsKeyLit]
theorem kS_inj {a b : Bs} (h : kS a = kS b) : a = b := by simpa [kS] using h
theorem strK6 : Keyed Tryz.prog 9 := string_keyed Tryz.underlying9
theorem keyS (N : ByteArray) (h : N.size ≤ 1000000) : keyOf Tryz.prog 9 (.string N) = some (kS N.data.toList) := keyOf_string_mk Tryz.underlying9 (by unfold maxLen; omega)
theorem size_list (N : ByteArray) : N.data.toList.length = N.size := Array.length_toList
def TMn (F : Nat → Prop) (w : World) (mb n : Nat) (M : Tab) : Prop :=
  ∃ (D : DataW Value), w.ownsMap Tryz.prog 9 heldR6 mb n D ∧ Maps.size D = M.length ∧ (∀ k, Maps.has D (kS k) = (tGet M k).isSome) ∧ (∀ k v, tGet M k = some v → ∃ x, (∀ z, D.atKey (kS k) z = .held x) ∧ BytesIn F w x v)
theorem ownsMap_kept6 {S : Nat → Prop} {w w' : World} {b n : Nat} {D : DataW Value} (h : w.ownsMap Tryz.prog 9 heldR6 b n D) (hf : Fr S w w') (hb : ¬ S b) : w'.ownsMap Tryz.prog 9 heldR6 b n D := by
  obtain ⟨es, clock, h1, h2⟩ := h
  exact ⟨es, clock, hf.heap h1 hb, h2⟩
theorem ownsMap_tight {w : World} {b n : Nat} {D : DataW Value} (h : w.ownsMap Tryz.prog 9 heldR6 b n D) : w.ownsMap Tryz.prog 9 heldR6 b (Maps.size D) D := by
  obtain ⟨es, clock, h1, h2, h3, rfl⟩ := h
  refine ⟨es, clock, h1, h2, ?_, rfl⟩
  rw [size_eq, length_read]
  exact Nat.le_refl _
def TMt (F : Nat → Prop) (w : World) (mb : Nat) (M : Tab) : Prop := TMn F w mb M.length M
theorem TMt.mk6 {F : Nat → Prop} {w : World} {mb n : Nat} {M : Tab} (h : TMn F w mb n M) : TMt F w mb M := by
  obtain ⟨D, h1, h2, h3⟩ := h
  exact ⟨D, h2 ▸ ownsMap_tight h1, h2, h3⟩
section
variable {F G S : Nat → Prop} {w w' : World} {mb : Nat} {M : Tab}
theorem TMt.lt (h : TMt F w mb M) : mb < w.heap.size := by
  obtain ⟨D, h1, _⟩ := h
  exact h1.lt
theorem TMt.keep (h : TMt F w mb M) (hf : Fr S w w') (hb : ¬ S mb) (hd : ∀ k, k < w.heap.size → F k → ¬ S k) : TMt F w' mb M := by
  obtain ⟨D, h1, h2, h3, h4⟩ := h
  refine ⟨D, ownsMap_kept6 h1 hf hb, h2, h3, fun k v hv => ?_⟩
  obtain ⟨x, hx, hb⟩ := h4 k v hv
  exact ⟨x, hx, hb.keep hf hd⟩
theorem TMt.mono (h : TMt F w mb M) (hd : ∀ k, k < w.heap.size → F k → G k) : TMt G w mb M := by
  obtain ⟨D, h1, h2, h3, h4⟩ := h
  refine ⟨D, h1, h2, h3, fun k v hv => ?_⟩
  obtain ⟨x, hx, hb⟩ := h4 k v hv
  exact ⟨x, hx, hb.mono hd⟩
theorem mapTurned_fr {w w' : World} {b : Nat} (h : w.mapTurned w' b) : Fr (fun k => k = b) w w' :=
  (Fr.refl _ w).grown h.grown (fun k hk => .inl (by injection hk with hk; exact hk.symm))
theorem TMt.made (F : Nat → Prop) (w : World) : TMt F (w.alloc (.map #[] 0)) w.heap.size [] :=
  ⟨.map [], World.ownsMap_made _ _ _ _, rfl, fun k => rfl, fun k v h => by cases h⟩
theorem TMt.look (h : TMt F w mb M) (N : ByteArray) (hN : N.size ≤ 1000000) : ∃ v, (Instr.lookup 79 (.map (some mb)) (.string N) true).run Tryz.prog w = .ok (.tuple #[v, .bool (tGet M N.data.toList).isSome]) w ∧ (∀ b, tGet M N.data.toList = some b → BytesIn F w v b) ∧ (tGet M N.data.toList = none → v = .slice none 0 0) := by
  obtain ⟨D, h1, h2, h3, h4⟩ := h
  obtain ⟨v, ps, hr, hv⟩ := h1.look_ok (t := 79) (e := 43) strK6 Tryz.underlying79 (z := .slice none 0 0) (by kernel_rfl) (zd := .held (.slice none 0 0)) (zp := []) rfl (keyS N hN)
  rw [h3] at hr
  refine ⟨v, hr, fun b hb => ?_, fun hn => ?_⟩
  · obtain ⟨x, hx, hbx⟩ := h4 _ b hb
    rw [hx, heldR6] at hv
    simp only [Option.some.injEq, Prod.mk.injEq, DataW.held.injEq] at hv
    rw [hv.1]
    exact hbx
  · rw [atKey_of_not_has (by rw [h3, hn]; rfl), heldR6] at hv
    simp only [Option.some.injEq, Prod.mk.injEq, DataW.held.injEq] at hv
    exact hv.1
theorem TMt.len (h : TMt F w mb M) (ty : TypeId) : (Builtin.len_ #[79] ty #[.map (some mb)]).run Tryz.prog w = .ok (.int .i64 M.length) w := by
  obtain ⟨D, h1, h2, h3⟩ := h
  have := h1.len (t := 79) (e := 43) Tryz.underlying79 ty
  rwa [h2] at this
theorem tidy6 {w : World} {b n : Nat} {D : DataW Value} (h : w.ownsMap Tryz.prog 9 heldR6 b n D) : Tidy D := h.tidy strK6
theorem TMt.put (h : TMt F w mb M) (hM : M.length ≤ 1000000000) (N : ByteArray) (hN : N.size ≤ 1000000) (hg : tGet M N.data.toList = none) (v : Value) (b : Bs) (hv : BytesIn F w v b) (hF : ¬ F mb) :
    ∃ w', (Instr.mapUpdate 79 (.map (some mb)) (.string N) v).run Tryz.prog w = .ok () w' ∧ TMt F w' mb (tPut M N.data.toList b) ∧ Fr (fun k => k = mb) w w' := by
  obtain ⟨D, h1, h2, h3, h4⟩ := h
  have hti := tidy6 h1
  obtain ⟨w', hr, ho, ht⟩ := h1.store (t := 79) (e := 43) strK6 Tryz.underlying79 (by unfold maxLen; omega) (keyS N hN) (val := v) (d := .held v) (ps := []) rfl
  have hf := mapTurned_fr ht
  refine ⟨w', hr, TMt.mk6 (n := M.length + 1) ⟨_, ho, ?_, fun k => ?_, fun k x hx => ?_⟩, hf⟩
  · rw [size_put hti, h3, hg, h2, (tPut_sum hg).2]
    rfl
  · by_cases e : k = N.data.toList
    · subst e
      rw [has_put_same hti.isMap (kS_lit _), tGet_put_same]
      rfl
    · rw [has_put_other (fun h => e (kS_inj h)), tGet_put_other e, h3]
  · have hFm : ∀ k, k < w.heap.size → F k → ¬ k = mb := fun k _ hk e => hF (e ▸ hk)
    by_cases e : k = N.data.toList
    · subst e
      rw [tGet_put_same] at hx
      obtain rfl := Option.some.inj hx
      exact ⟨v, fun z => atKey_put_same hti.isMap (kS_lit _) _ z, hv.keep hf hFm⟩
    · rw [tGet_put_other e] at hx
      obtain ⟨y, hy, hby⟩ := h4 k x hx
      exact ⟨y, fun z => by rw [atKey_put_other (fun h => e (kS_inj h))]; exact hy z, hby.keep hf hFm⟩
theorem TMt.del (h : TMt F w mb M) (hM : Tab.Ok M) (N : ByteArray) (hN : N.size ≤ 1000000) (hF : ¬ F mb) (ty : TypeId) :
    ∃ w', (Builtin.delete_ #[79, 9] ty #[.map (some mb), .string N]).run Tryz.prog w = .ok (.tuple #[]) w' ∧ TMt F w' mb (tDel M N.data.toList) ∧ Fr (fun k => k = mb) w w' := by
  obtain ⟨D, h1, h2, h3, h4⟩ := h
  have hti := tidy6 h1
  obtain ⟨w', hr, ho, ht⟩ := h1.drop (t := 79) (e := 43) strK6 Tryz.underlying79 (keyS N hN) ty
  have hf := mapTurned_fr ht
  refine ⟨w', hr, TMt.mk6 (n := M.length) ⟨_, ho, ?_, fun k => ?_, fun k x hx => ?_⟩, hf⟩
  · have hs := size_del hti (k := kS N.data.toList)
    rw [h3, h2] at hs
    cases hg : tGet M N.data.toList with
    | none =>
      rw [hg] at hs
      rw [tDel_none hg]
      simpa using hs
    | some b =>
      rw [hg] at hs
      have := (tDel_sum hM hg).2
      simp only [Option.isSome_some, if_true] at hs
      omega
  · by_cases e : k = N.data.toList
    · subst e
      rw [has_del_same, tGet_del_same]
      rfl
    · rw [has_del_other (fun h => e (kS_inj h)), tGet_del_other e, h3]
  · have hFm : ∀ k, k < w.heap.size → F k → ¬ k = mb := fun k _ hk e => hF (e ▸ hk)
    by_cases e : k = N.data.toList
    · subst e
      rw [tGet_del_same] at hx
      cases hx
    · rw [tGet_del_other e] at hx
      obtain ⟨y, hy, hby⟩ := h4 k x hx
      exact ⟨y, fun z => by rw [atKey_del_other (fun h => e (kS_inj h))]; exact hy z, hby.keep hf hFm⟩
end
end Go.Proofs.YtldgcoikbjbjeaaGreat
namespace Go.Proofs.YtldgcoikbjbjeaaGreat
open Go.RowKit Go.ChangeShapes
set_option linter.unusedVariables false
def MakAt (F : Nat → Prop) (w : World) (b : Nat) (m : Option (List UInt8)) : Prop :=
  F b ∧ ∃ T : TypeId, match m with
    | none => ∃ hv o, w.heap[b]? = some (.cells #[hv, .int .i64 o, .bool true] T (0, 0))
    | some L => (L = [] ∧ w.heap[b]? = some (.cells #[.pointer none, .int .i64 0, .bool false] T (0, 0))) ∨
        ∃ h sv, h ≠ b ∧ F h ∧ w.heap[b]? = some (.cells #[.pointer (some ⟨h, 0, none⟩), .int .i64 L.length, .bool false] T (0, 0)) ∧
          w.heap[h]? = some (.cells #[sv] 43 (0, 0)) ∧ OwnB (fun k => F k ∧ k ≠ b ∧ k ≠ h) w sv L
theorem MakAt.keep {F S : Nat → Prop} {w w' : World} {b : Nat} {m : Option (List UInt8)} (h : MakAt F w b m) (hf : Fr S w w') (hd : ∀ k, k < w.heap.size → F k → ¬ S k) : MakAt F w' b m := by
  obtain ⟨h1, T, h2⟩ := h
  refine ⟨h1, T, ?_⟩
  cases m with
  | none =>
    obtain ⟨hv, o, h3⟩ := h2
    exact ⟨hv, o, hf.heap h3 (hd _ (lt_of_block h3) h1)⟩
  | some L =>
    rcases h2 with ⟨h3, h4⟩ | ⟨hb, sv, h3, h4, h5, h6, h7⟩
    · exact .inl ⟨h3, hf.heap h4 (hd _ (lt_of_block h4) h1)⟩
    · exact .inr ⟨hb, sv, h3, h4, hf.heap h5 (hd _ (lt_of_block h5) h1), hf.heap h6 (hd _ (lt_of_block h6) h4), h7.keep hf (fun k hk hF => hd k hk hF.1)⟩
theorem MakAt.mono {F G : Nat → Prop} {w : World} {b : Nat} {m : Option (List UInt8)} (h : MakAt F w b m) (hd : ∀ k, k < w.heap.size → F k → G k) : MakAt G w b m := by
  obtain ⟨h1, T, h2⟩ := h
  have hb : b < w.heap.size := by
    cases m with
    | none => obtain ⟨hv, o, h3⟩ := h2; exact lt_of_block h3
    | some L => rcases h2 with ⟨h3, h4⟩ | ⟨hb, sv, h3, h4, h5, h6, h7⟩; exact lt_of_block h4; exact lt_of_block h5
  refine ⟨hd _ hb h1, T, ?_⟩
  cases m with
  | none => exact h2
  | some L =>
    rcases h2 with ⟨h3, h4⟩ | ⟨hb, sv, h3, h4, h5, h6, h7⟩
    · exact .inl ⟨h3, h4⟩
    · exact .inr ⟨hb, sv, h3, hd _ (lt_of_block h6) h4, h5, h6, h7.mono fun k hk h => ⟨hd k hk h.1, h.2⟩⟩
theorem mak_cells {w : World} {b : Nat} {x y z : Value} {T : TypeId} (h1 : w.heap[b]? = some (.cells #[x, y, z] T (0, 0))) :
    w.cell? ⟨b, 0, none⟩ = some x ∧ w.cell? ⟨b, 1, none⟩ = some y ∧ w.cell? ⟨b, 2, none⟩ = some z ∧ w.frozen? ⟨b, 0, none⟩ = false ∧ w.frozen? ⟨b, 1, none⟩ = false ∧ w.frozen? ⟨b, 2, none⟩ = false :=
  ⟨by simp [World.cell?, h1], by simp [World.cell?, h1], by simp [World.cell?, h1], by simp [World.frozen?, h1], by simp [World.frozen?, h1], by simp [World.frozen?, h1]⟩
theorem grown_heap {w w1 : World} {row : Option Nat} {k : Nat} {o : Obj} (hg : w.grownBy w1 row) (h : w.heap[k]? = some o) (hk : row ≠ some k) : w1.heap[k]? = some o := by
  rw [hg.block k (lt_of_block h) (fun e => hk e.symm), h]
theorem MakAt.put {F : Nat → Prop} {w w1 : World} {b h : Nat} {sv v' : Value} {L M : List UInt8} {T : TypeId} (hF : ∀ k, w.heap.size ≤ k → F k) (hlt : b < w.heap.size) (hlth : h < w.heap.size)
    (hb : w1.heap[b]? = some (.cells #[.pointer (some ⟨h, 0, none⟩), .int .i64 L.length, .bool false] T (0, 0))) (hh : w1.heap[h]? = some (.cells #[sv] 43 (0, 0)))
    (hne : h ≠ b) (hFb : F b) (hFh : F h) (hown : OwnB (fun k => (F k ∧ k ≠ b ∧ k ≠ h) ∨ w.heap.size ≤ k) w1 v' M) (n : Int) (hn : n = M.length) :
    MakAt F ((w1.setCell ⟨h, 0, none⟩ v').setCell ⟨b, 1, none⟩ (.int .i64 n)) b (some M) := by
  refine ⟨hFb, T, .inr ⟨h, v', hne, hFh, ?_, ?_, ?_⟩⟩
  · have h1 : (w1.setCell ⟨h, 0, none⟩ v').heap[b]? = w1.heap[b]? := Below.heap_setCell _ _ _ _ (by simpa using Ne.symm hne)
    have := heap_setCell_at (i := 1) (.int .i64 n) (h1.trans hb)
    rw [this, hn]
    simp
  · rw [Below.heap_setCell _ _ _ _ (by simpa using hne)]
    have := heap_setCell_at (i := 0) v' hh
    rw [this]
    simp
  · have h2 : OwnB (fun k => F k ∧ k ≠ b ∧ k ≠ h) w1 v' M := hown.mono fun k hk hh => by
      rcases hh with hh | hh
      · exact hh
      · exact ⟨hF k hh, by omega, by omega⟩
    refine h2.keep (S := fun k => k = b ∨ k = h) (((Fr.refl _ _).setCell (p := ⟨h, 0, none⟩) (.inl (.inr rfl)) _).setCell (p := ⟨b, 1, none⟩) (.inl (.inl rfl)) _) (fun k _ hk hs => ?_)
    rcases hs with hs | hs
    · exact hk.2.1 hs
    · exact hk.2.2 hs
theorem put_frame {F : Nat → Prop} {w w1 : World} {b h : Nat} {sv v' u : Value} {L : List UInt8} (hFb : F b) (hFh : F h) (hown : OwnB (fun k => F k ∧ k ≠ b ∧ k ≠ h) w sv L) {n : Nat} (hgr : (w.drewN n).grownBy w1 sv.ownBlock) :
    Fr F w ((w1.setCell ⟨h, 0, none⟩ v').setCell ⟨b, 1, none⟩ u) :=
  (((((Fr.refl F w).drewN n).grown hgr (fun k hk => .inl (hown.2 k hk).1)).setCell (p := ⟨h, 0, none⟩) (.inl hFh) _).setCell (p := ⟨b, 1, none⟩) (.inl hFb) _)
set_option maxHeartbeats 1000000 in
theorem put_held {F G : Nat → Prop} {b h : Nat} {sv x : Value} {L X : List UInt8} {T : TypeId} (w : World) (hF : ∀ k, w.heap.size ≤ k → F k)
    (hb : w.heap[b]? = some (.cells #[.pointer (some ⟨h, 0, none⟩), .int .i64 L.length, .bool false] T (0, 0))) (hh : w.heap[h]? = some (.cells #[sv] 43 (0, 0)))
    (hne : h ≠ b) (hFb : F b) (hFh : F h) (hown : OwnB (fun k => F k ∧ k ≠ b ∧ k ≠ h) w sv L) (hx : BytesIn G w x X) (hlen : L.length + X.length ≤ 140737488355328) :
    Calls Tryz.prog 140 #[.pointer (some ⟨b, 0, none⟩), x] w fun r w' => r = .returned (.tuple #[]) ∧ Fr F w w' ∧ MakAt F w' b (some (L ++ X)) := by
  obtain ⟨c0, c1, c2, f0, f1, f2⟩ := mak_cells hb
  have d0 := cell_of_one hh
  have e0 := free_of_one hh
  obtain ⟨ao, cap, rfl⟩ := hown.len
  have hlb : ((L.length : Int) != (L.length : Int)) = false := by simp
  have hltb := lt_of_block hb
  have hlth := lt_of_block hh
  have hnb : (Value.slice ao L.length cap).ownBlock ≠ some b := fun e => (hown.2 b e).2.1 rfl
  have hnh : (Value.slice ao L.length cap).ownBlock ≠ some h := fun e => (hown.2 h e).2.2 rfl
  have HF := Lib.hid hF
  have hne' : ¬ b = h := Ne.symm hne
  clear hF
  go_enter Tryz.func140, Tryz.ntmps140
  go_wp2_with fail
  go_quiet (fail)
  go_wp2_with fail
  go_region_law (refine step_append_bytes (F := fun k => F k ∧ k ≠ b ∧ k ≠ h) (G := G) rfl (.tmp 43) (.tmp 44) rfl (.slice ao L.length cap) x L X (by simp [Act.eval]) (by simp [Act.eval]) hown hx hlen ?_; intro v' w1 hown' hgr hnil; have hb1 := grown_heap hgr hb hnb; have hh1 := grown_heap hgr hh hnh; obtain ⟨g0, g1, g2, k0, k1, k2⟩ := mak_cells hb1; have g4 := cell_of_one hh1; have k4 := free_of_one hh1; obtain ⟨ao', cap', rfl⟩ := hown'.len; rw [List.length_append] at hown'; have HO := Lib.hid hown'; have HG := Lib.hid hgr; clear hnil hown' hgr)
  all_goals
    go_wp2
    go_end0
    exact ⟨rfl, put_frame hFb hFh hown HG.out, MakAt.put HF.out hltb hlth hb1 hh1 hne hFb hFh HO.out _ (by simp)⟩
theorem gathered_nil {b : Nat} {T : TypeId} {y z : Value} (w : World) (hb : w.heap[b]? = some (.cells #[.pointer none, y, z] T (0, 0))) :
    Calls Tryz.prog 112 #[.pointer (some ⟨b, 0, none⟩)] w fun r w' => r = .returned (.slice none 0 0) ∧ w = w' := by
  obtain ⟨c0, c1, c2, f0, f1, f2⟩ := mak_cells hb
  clear hb
  go_enter Tryz.func112, Tryz.ntmps112
  go_wp2
  go_ret
  exact ⟨rfl, rfl⟩
theorem gathered_held {F : Nat → Prop} {b h : Nat} {T : TypeId} {sv z : Value} {L : List UInt8} (w : World) (hb : w.heap[b]? = some (.cells #[.pointer (some ⟨h, 0, none⟩), .int .i64 L.length, z] T (0, 0)))
    (hh : w.heap[h]? = some (.cells #[sv] 43 (0, 0))) (hown : OwnB F w sv L) :
    Calls Tryz.prog 112 #[.pointer (some ⟨b, 0, none⟩)] w fun r w' => ∃ v, r = .returned v ∧ (∃ n, w' = w.drewN n) ∧ BytesIn F w v L := by
  obtain ⟨c0, c1, c2, f0, f1, f2⟩ := mak_cells hb
  have d0 := cell_of_one hh
  obtain ⟨ao, cap, rfl, hl, hm, h2⟩ := hown.bytes
  have HB := Lib.hid hown.bytes
  clear hown h2 hb hh
  unfold maxLen at hm
  go_enter Tryz.func112, Tryz.ntmps112
  go_wp2_with fail
  go_quiet (fail)
  go_wp2
  go_ret
  exact ⟨_, rfl, ⟨_, rfl⟩, HB.out⟩
theorem clone_nil (w : World) :
    Calls Tryz.prog 45 #[.slice none 0 0] w fun e w' => e = .returned (.slice none 0 0) ∧ w = w' := by
  have qn := fun (w : World) a n c => Lib.run_eql_slice_nil (P := Tryz.prog) w 43 5 a n c 0 0 Tryz.underlying43
  go_enter Tryz.func45, Tryz.ntmps45
  go_wp2
  go_ret
  exact ⟨rfl, rfl⟩
set_option maxHeartbeats 1000000 in
theorem put_fresh {F G : Nat → Prop} {b : Nat} {x : Value} {X : List UInt8} {T : TypeId} (w : World) (hF : ∀ k, w.heap.size ≤ k → F k) (hG : ∀ k, G k → ¬ F k)
    (hb : w.heap[b]? = some (.cells #[.pointer none, .int .i64 0, .bool false] T (0, 0))) (hFb : F b) (hx : BytesIn G w x X) (hlen : X.length ≤ 140737488355328) :
    Calls Tryz.prog 140 #[.pointer (some ⟨b, 0, none⟩), x] w fun r w' => r = .returned (.tuple #[]) ∧ Fr F w w' ∧ MakAt F w' b (some X) := by
  obtain ⟨c0, c1, c2, f0, f1, f2⟩ := mak_cells hb
  have hltb := lt_of_block hb
  have HF := Lib.hid hF
  clear hF
  go_enter Tryz.func140, Tryz.ntmps140
  go_wp2_with fail
  go_quiet (fail)
  have hfr0 := (Fr.refl F w).drewN nq
  have hb' : (w.drewN nq).heap[b]? = _ := hb
  have hx' : BytesIn G (w.drewN nq) x X := hx
  have HF' : Hid (∀ k, (w.drewN nq).heap.size ≤ k → F k) := HF
  have hltb' : b < (w.drewN nq).heap.size := hltb
  clear hb hx HF hltb c0 c1 c2 f0 f1 f2
  generalize w.drewN nq = W at hfr0 hb' hx' HF' hltb' ⊢
  obtain ⟨c0, c1, c2, f0, f1, f2⟩ := mak_cells hb'
  have H0 := Lib.hid hfr0
  clear hfr0
  go_wp2_with (first
    | (go_at_call 112; refine (gathered_nil _ (by exact hb')).mono ?_; rintro e w' ⟨rfl, rfl⟩)
    | (go_at_call 45; refine (clone_nil _).mono ?_; rintro e w' ⟨rfl, rfl⟩))
  obtain ⟨W2, hW2⟩ : ∃ W2, W2 = (W.setCell ⟨b, 0, none⟩ (.pointer (some ⟨W.heap.size, 0, none⟩))).alloc (.cells #[.slice none 0 0] 43) := ⟨_, rfl⟩
  obtain ⟨h, hh⟩ : ∃ h, h = W.heap.size := ⟨_, rfl⟩
  have hne : h ≠ b := by omega
  have hFh : F h := HF'.out h (by omega)
  have hfr2 : Fr F w W2 := by rw [hW2]; exact (H0.out.setCell (p := ⟨b, 0, none⟩) (.inl hFb) _).alloc _
  have hsz : W2.heap.size = W.heap.size + 1 := by rw [hW2]; simp [World.setCell]
  have hb2 : W2.heap[b]? = some (.cells #[.pointer (some ⟨h, 0, none⟩), .int .i64 0, .bool false] T (0, 0)) := by
    rw [hW2, Below.heap_alloc _ _ _ (by simpa [World.setCell] using hltb'), heap_setCell_at _ hb', hh]
    simp
  have hh2 : W2.heap[h]? = some (.cells #[.slice none 0 0] 43 (0, 0)) := by
    rw [hW2, hh]
    have := heap_alloc_new (W.setCell ⟨b, 0, none⟩ (.pointer (some ⟨W.heap.size, 0, none⟩))) (.cells #[.slice none 0 0] 43)
    simpa [World.setCell] using this
  have hx2 : BytesIn G W2 x X := hx'.keep (S := F) (by rw [hW2]; exact ((Fr.refl F W).setCell (p := ⟨b, 0, none⟩) (.inl hFb) _).alloc _) (fun k _ => hG k)
  have HF2 := Lib.hid (show ∀ k, W2.heap.size ≤ k → F k from fun k hk => HF'.out k (by omega))
  have hlt2 := lt_of_block hb2
  have hlth2 := lt_of_block hh2
  rw [← hW2, ← hh]
  clear hW2 hh hb' hx' HF' hltb' c0 c1 c2 f0 f1 f2 H0 hsz
  have H0 := Lib.hid hfr2
  clear hfr2
  obtain ⟨c0, c1, c2, f0, f1, f2⟩ := mak_cells hb2
  have d0 := cell_of_one hh2
  have e0 := free_of_one hh2
  have hne' : ¬ b = h := Ne.symm hne
  have hnb : (Value.slice none 0 0).ownBlock ≠ some b := fun e => by cases e
  have hnh : (Value.slice none 0 0).ownBlock ≠ some h := fun e => by cases e
  have hown : OwnB (fun k => F k ∧ k ≠ b ∧ k ≠ h) W2 (.slice none 0 0) [] := OwnB.nil _ _
  go_region_law (refine step_append_bytes (F := fun k => F k ∧ k ≠ b ∧ k ≠ h) (G := G) rfl (.tmp 43) (.tmp 44) rfl (.slice none 0 0) x [] X (by simp [Act.eval]) (by simp [Act.eval]) hown hx2 (by simpa using hlen) ?_; intro v' w1 hown' hgr hnil; have hb1 := grown_heap hgr hb2 hnb; have hh1 := grown_heap hgr hh2 hnh; obtain ⟨g0, g1, g2, k0, k1, k2⟩ := mak_cells hb1; have g4 := cell_of_one hh1; have k4 := free_of_one hh1; obtain ⟨ao', cap', rfl⟩ := hown'.len; rw [List.nil_append] at hown'; have HO := Lib.hid hown'; have HG := Lib.hid hgr; clear hnil hown' hgr)
  all_goals
    go_wp2
    go_end0
    exact ⟨rfl, H0.out.trans (put_frame hFb hFh hown HG.out) (fun i hi => .inl hi), MakAt.put (L := []) HF2.out hlt2 hlth2 hb1 hh1 hne hFb hFh HO.out _ rfl⟩
end Go.Proofs.YtldgcoikbjbjeaaGreat
