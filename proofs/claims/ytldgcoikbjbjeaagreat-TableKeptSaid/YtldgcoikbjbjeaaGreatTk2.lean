/- Laid together: Cur Clone Arr DNew -/
import Derived.Test.YtldgcoikbjbjeaaGreatTk1
import Derived.Lib.SliceRun
import Derived.Deep.Slices
import Derived.Laws.Rows
import Derived.Deep.WholeRow
import Derived.Laws.MakeOwn
import Derived.Laws.IdiomStrings

namespace Go.Proofs.YtldgcoikbjbjeaaGreat
open Go.RowKit Go.ChangeShapes
set_option linter.unusedVariables false
theorem heap_setCell_at {w : World} {b i : Nat} {c : Array Value} {t : TypeId} {z : Nat × Nat} (u : Value) (h : w.heap[b]? = some (.cells c t z)) :
    (w.setCell ⟨b, i, none⟩ u).heap[b]? = some (.cells (c.setIfInBounds i u) t z) := by
  simp only [World.setCell, Array.getElem?_modify, h]
  simp
theorem Fr.one (w : World) (b i : Nat) (u : Value) : Fr (· = b) w (w.setCell ⟨b, i, none⟩ u) := (Fr.refl (· = b) w).setCell (p := ⟨b, i, none⟩) (.inl rfl) u
theorem Fr.two (w : World) (b i j : Nat) (u v : Value) : Fr (· = b) w ((w.setCell ⟨b, i, none⟩ u).setCell ⟨b, j, none⟩ v) := (Fr.one w b i u).setCell (p := ⟨b, j, none⟩) (.inl rfl) _
def CurAt (F : Nat → Prop) (w : World) (b : Nat) (X : List UInt8) (e : Int) : Prop :=
  ∃ v, w.heap[b]? = some (.cells #[v, .int .i64 e, .bool true] 194 (0, 0)) ∧ BytesIn F w v X ∧ ¬ F b
theorem CurAt.keep {F S : Nat → Prop} {w w' : World} {b : Nat} {X : List UInt8} {e : Int} (h : CurAt F w b X e) (hf : Fr S w w') (hb : ¬ S b) (hd : ∀ k, k < w.heap.size → F k → ¬ S k) : CurAt F w' b X e := by
  obtain ⟨v, h1, h2, h3⟩ := h
  exact ⟨v, hf.heap h1 hb, h2.keep hf hd, h3⟩
theorem CurAt.facts {F : Nat → Prop} {w : World} {b : Nat} {X : List UInt8} {e : Int} (h : CurAt F w b X e) :
    ∃ v, w.cell? ⟨b, 0, none⟩ = some v ∧ w.cell? ⟨b, 1, none⟩ = some (.int .i64 e) ∧ w.cell? ⟨b, 2, none⟩ = some (.bool true) ∧ w.frozen? ⟨b, 0, none⟩ = false ∧ w.frozen? ⟨b, 1, none⟩ = false ∧ BytesIn F w v X := by
  obtain ⟨v, h1, h2, h3⟩ := h
  exact ⟨v, by simp [World.cell?, h1], by simp [World.cell?, h1], by simp [World.cell?, h1], by simp [World.frozen?, h1], by simp [World.frozen?, h1], h2⟩
theorem CurAt.store {F : Nat → Prop} {w : World} {b : Nat} {X : List UInt8} {e : Int} (h : CurAt F w b X e) (e' : Int) (v' : Value) (X' : List UInt8) (hv : BytesIn F w v' X') :
    CurAt F ((w.setCell ⟨b, 1, none⟩ (.int .i64 e')).setCell ⟨b, 0, none⟩ v') b X' e' := by
  obtain ⟨v, h1, h2, h3⟩ := h
  refine ⟨v', ?_, ?_, h3⟩
  · have := heap_setCell_at (i := 0) v' (heap_setCell_at (i := 1) (.int .i64 e') h1)
    simpa using this
  · exact hv.keep (S := (· = b)) (Fr.two _ _ _ _ _ _) (fun k _ hk hb => h3 (hb ▸ hk))
theorem CurAt.store0 {F : Nat → Prop} {w : World} {b : Nat} {X : List UInt8} {e : Int} (h : CurAt F w b X e) (v' : Value) (X' : List UInt8) (hv : BytesIn F w v' X') :
    CurAt F (w.setCell ⟨b, 0, none⟩ v') b X' e := by
  obtain ⟨v, h1, h2, h3⟩ := h
  refine ⟨v', ?_, ?_, h3⟩
  · have := heap_setCell_at (i := 0) v' h1
    simpa using this
  · exact hv.keep (S := (· = b)) (Fr.one _ _ _ _) (fun k _ hk hb => h3 (hb ▸ hk))
theorem CurAt.drewN {F : Nat → Prop} {w : World} {b : Nat} {X : List UInt8} {e : Int} (h : CurAt F w b X e) (n : Nat) : CurAt F (w.drewN n) b X e := h
theorem isCursor_any {F : Nat → Prop} {b : Nat} {X : List UInt8} {e : Int} (w : World) (h : CurAt F w b X e) :
    Calls Tryz.prog 133 #[.pointer (some ⟨b, 0, none⟩)] w fun e w' => e = .returned (.bool true) ∧ w = w' := by
  obtain ⟨v, c0, c1, c2, f0, f1, hb⟩ := h.facts
  clear h hb
  go_enter Tryz.func133, Tryz.ntmps133
  go_wp2
  go_ret
  exact ⟨rfl, rfl⟩
theorem whole_yes {F : Nat → Prop} {b : Nat} {X : List UInt8} (w : World) (h : CurAt F w b X 0) :
    Calls Tryz.prog 129 #[.pointer (some ⟨b, 0, none⟩)] w fun e w' => e = .returned (.bool true) ∧ w = w' := by
  obtain ⟨v, c0, c1, c2, f0, f1, hb⟩ := h.facts
  clear hb
  go_enter Tryz.func129, Tryz.ntmps129
  go_wp2_with (go_at_call 133; refine (isCursor_any _ h).mono ?_; rintro e w' ⟨rfl, rfl⟩)
  go_ret
  exact ⟨rfl, rfl⟩
theorem whole_no {F : Nat → Prop} {b : Nat} {X : List UInt8} {e : Int} (w : World) (h : CurAt F w b X e) (he : e ≠ 0) :
    Calls Tryz.prog 129 #[.pointer (some ⟨b, 0, none⟩)] w fun e w' => e = .returned (.bool false) ∧ w = w' := by
  obtain ⟨v, c0, c1, c2, f0, f1, hb⟩ := h.facts
  clear hb
  have he' : (e == 0) = false := by simpa using he
  clear he
  go_enter Tryz.func129, Tryz.ntmps129
  go_wp2_with (go_at_call 133; refine (isCursor_any _ h).mono ?_; rintro e w' ⟨rfl, rfl⟩)
  go_ret
  exact ⟨rfl, rfl⟩
theorem curfail_any {F : Nat → Prop} {b : Nat} {X : List UInt8} {e : Int} (e' : Int) (w : World) (h : CurAt F w b X e) :
    Calls Tryz.prog 131 #[.pointer (some ⟨b, 0, none⟩), .int .i64 e'] w fun r w' => r = .returned (.tuple #[]) ∧ Fr (· = b) w w' ∧ CurAt F w' b [] e' := by
  have hfin := Lib.hid (h.store e' (.slice none 0 0) [] (BytesIn.nil _ _))
  obtain ⟨v, c0, c1, c2, f0, f1, hb⟩ := h.facts
  clear h hb
  go_enter Tryz.func131, Tryz.ntmps131
  go_wp2
  go_end0
  exact ⟨rfl, Fr.two _ _ _ _ _ _, hfin.out⟩
def curNum (most : Int) (X : List UInt8) (e : Int) : Int × List UInt8 × Int :=
  if e = 0 then
    if numS X = 0 ∨ most < numV X then (0, [], 4) else (numV X, X.drop (numS X), 0)
  else (0, X, e)
theorem BytesIn.drop {F : Nat → Prop} {w : World} {ao : Option Addr} {cap : Nat} {X : List UInt8} (h : BytesIn F w (.slice ao X.length cap) X) (n : Nat) (hn : n ≤ X.length) (b off : Nat) (ha : ao = some ⟨b, off, none⟩) :
    BytesIn F w (.slice (some ⟨b, off + n, none⟩) (X.length - n) (cap - n)) (X.drop n) := by
  obtain ⟨ao', cap', hv, h1, hm, h2, h3⟩ := h
  simp only [Value.slice.injEq] at hv
  obtain ⟨rfl, _, rfl⟩ := hv
  refine ⟨some ⟨b, off + n, none⟩, cap - n, by rw [List.length_drop], by rw [List.length_drop]; omega, by omega, (fun h => by cases h), ?_⟩
  intro a hab
  cases hab
  refine ⟨fun j u hu => ?_, fun hX => (h3 _ ha).2 (fun h => by subst h; simp at hX)⟩
  have := (h3 _ ha).1 (n + j) u (by rw [← hu, List.getElem?_map, List.getElem?_map, List.getElem?_drop])
  rw [addr_plain] at this ⊢
  rwa [Nat.add_assoc]
set_option maxHeartbeats 1000000 in
theorem curNum_any {F : Nat → Prop} {b : Nat} {X : List UInt8} {e : Int} (most : Int) (w : World) (h : CurAt F w b X e) :
    Calls Tryz.prog 94 #[.pointer (some ⟨b, 0, none⟩), .int .i64 most] w fun r w' => r = .returned (.int .i64 (curNum most X e).1) ∧ Fr (· = b) w w' ∧ CurAt F w' b (curNum most X e).2.1 (curNum most X e).2.2 := by
  by_cases he : e = 0
  · subst he
    by_cases hbad : numS X = 0 ∨ most < numV X
    · have hR : curNum most X 0 = (0, [], 4) := by simp [curNum, hbad]
      rw [hR]
      obtain ⟨v, c0, c1, c2, f0, f1, hb⟩ := h.facts
      by_cases hs : numS X = 0
      · have hs' : ((numS X : Int) == 0) = true := by simp [hs]
        clear hbad hs
        go_enter Tryz.func94, Tryz.ntmps94
        go_wp2_with (first
          | (go_at_call 129; refine (whole_yes _ h).mono ?_; rintro e w' ⟨rfl, rfl⟩)
          | (go_at_call 130; refine (numAt_any v X _ hb).mono ?_; rintro e w' ⟨rfl, n, rfl⟩)
          | (go_at_call 131; refine (curfail_any 4 _ (h.drewN _)).mono ?_; rintro e w' ⟨rfl, hfr, hcur⟩))
        go_ret
        exact ⟨rfl, hfr.ofDrewN, hcur⟩
      · have hm : most < numV X := by omega
        have hs' : ((numS X : Int) == 0) = false := by simp [hs]
        clear hbad hs
        go_enter Tryz.func94, Tryz.ntmps94
        go_wp2_with (first
          | (go_at_call 129; refine (whole_yes _ h).mono ?_; rintro e w' ⟨rfl, rfl⟩)
          | (go_at_call 130; refine (numAt_any v X _ hb).mono ?_; rintro e w' ⟨rfl, n, rfl⟩)
          | (go_at_call 131; refine (curfail_any 4 _ (h.drewN _)).mono ?_; rintro e w' ⟨rfl, hfr, hcur⟩))
        go_ret
        exact ⟨rfl, hfr.ofDrewN, hcur⟩
    · have hR : curNum most X 0 = ((numV X : Int), X.drop (numS X), 0) := by simp [curNum, hbad]
      rw [hR]
      obtain ⟨v, c0, c1, c2, f0, f1, hb⟩ := h.facts
      have hX : X ≠ [] := by rintro rfl; simp [numS, numOf, numFrom] at hbad
      obtain ⟨b', off, cap, rfl, h1, hm, hF, hc⟩ := hb.plain hX
      have hs1 := (numS_le X).1
      have hs0 : 0 < numS X := by omega
      have hmn : ¬ most < numV X := by omega
      have hsb : ((numS X : Int) == 0) = false := by simp; omega
      have hd := hb.drop (numS X) hs1 b' off rfl
      unfold maxLen at hm
      clear hbad hX hc
      obtain ⟨s, hs⟩ : ∃ s, s = numS X := ⟨_, rfl⟩
      obtain ⟨n, hn⟩ : ∃ n, n = numV X := ⟨_, rfl⟩
      obtain ⟨l, hl⟩ : ∃ l, l = X.length := ⟨_, rfl⟩
      have hcon : Calls Tryz.prog 130 #[.slice (some ⟨b', off, none⟩) l cap] w fun e w' => e = .returned (.tuple #[.int .i64 n, .int .i64 s]) ∧ ∃ n, w' = w.drewN n := by
        rw [hs, hn, hl]; exact numAt_any _ X w hb
      rw [← hl] at hd h1 c0 hs1
      rw [← hs] at hd hsb hs0 hs1 ⊢
      rw [← hn] at hmn ⊢
      clear hs hn hl hb
      have H := Lib.hid hcon
      clear hcon
      by_cases hcap : cap = s
      · have hX0 : X.drop s = [] := by
          obtain ⟨_, _, hv, h1, _⟩ := hd
          simp only [Value.slice.injEq] at hv
          exact List.eq_nil_of_length_eq_zero (by omega)
        rw [hX0]
        have hnil : BytesIn F w (.slice (some ⟨b', off, none⟩) 0 0) [] := ⟨_, 0, rfl, Nat.le_refl _, by simp [maxLen], (fun h => by cases h), fun a _ => ⟨fun j u hu => by simp at hu, fun h => absurd rfl h⟩⟩
        subst hcap
        obtain rfl : l = cap := by omega
        have hfin := Lib.hid fun k => (h.drewN k).store0 _ _ (hnil.drewN k)
        clear hd hX0 hnil
        go_enter Tryz.func94, Tryz.ntmps94
        go_wp2_with (first
          | (go_at_call 129; refine (whole_yes _ h).mono ?_; rintro e w' ⟨rfl, rfl⟩)
          | (go_at_call 130; refine H.out.mono ?_; rintro e w' ⟨rfl, d, rfl⟩))
        go_ret
        exact ⟨rfl, ((Fr.refl _ _).drewN _).trans (Fr.one _ _ _ _) (fun i hi => .inl hi), hfin.out _⟩
      · have hfin := Lib.hid fun k => (h.drewN k).store0 _ _ (hd.drewN k)
        clear hd
        go_enter Tryz.func94, Tryz.ntmps94
        go_wp2_with (first
          | (go_at_call 129; refine (whole_yes _ h).mono ?_; rintro e w' ⟨rfl, rfl⟩)
          | (go_at_call 130; refine H.out.mono ?_; rintro e w' ⟨rfl, d, rfl⟩))
        go_ret
        exact ⟨rfl, ((Fr.refl _ _).drewN _).trans (Fr.one _ _ _ _) (fun i hi => .inl hi), hfin.out _⟩
  · have hR : curNum most X e = (0, X, e) := by simp [curNum, he]
    rw [hR]
    go_enter Tryz.func94, Tryz.ntmps94
    go_wp2_with (go_at_call 129; refine (whole_no _ h he).mono ?_; rintro e w' ⟨rfl, rfl⟩)
    go_ret
    exact ⟨rfl, Fr.refl _ _, h⟩
end Go.Proofs.YtldgcoikbjbjeaaGreat
namespace Go.Proofs.YtldgcoikbjbjeaaGreat
open Go.RowKit Go.ChangeShapes
set_option linter.unusedVariables false
theorem own_empty (w : World) (o : Obj) (ho : o = .cells #[] 5) : OwnB (fun k => w.heap.size ≤ k) (w.alloc o) (.slice (some ⟨w.heap.size, 0, none⟩) 0 0) [] := by
  subst ho
  refine ⟨World.ownsRow_made (base := 0) (e := 5) (size := 1) w #[] 0 (Nat.zero_le _) (by simp [maxLen]) (by simp), fun g hg => ?_⟩
  simp [Value.ownBlock] at hg
  omega
set_option maxHeartbeats 400000 in
theorem clone_any {F : Nat → Prop} {v : Value} {X : List UInt8} (w : World) (h : BytesIn F w v X) (hX : X.length ≤ 140737488355328) :
    Calls Tryz.prog 45 #[v] w fun e w' => ∃ v', e = .returned v' ∧ Fr (fun _ => False) w w' ∧ OwnB (fun k => w.heap.size ≤ k) w' v' X := by
  have qn := fun (w : World) a n c => Lib.run_eql_slice_nil (P := Tryz.prog) w 43 5 a n c 0 0 Tryz.underlying43
  obtain ⟨ao, cap, hv, h1, hm, h2, h3⟩ := id h
  cases ao with
  | none =>
    obtain rfl := h2 rfl
    obtain rfl : X = [] := List.eq_nil_of_length_eq_zero (by omega)
    subst hv
    clear h h1 h2 h3 hX hm
    go_enter Tryz.func45, Tryz.ntmps45
    go_wp2
    go_ret
    exact ⟨_, rfl, Fr.refl _ _, OwnB.nil _ _⟩
  | some a =>
    subst hv
    have HB := Lib.hid h
    clear h h1 h2 h3 hm
    go_enter Tryz.func45, Tryz.ntmps45
    go_wp2_with (at_builtin; refine wpList_append_bytes (F := fun k => w.heap.size ≤ k) (G := F) _ rfl (.tmp 5) (.tmp 6) rfl _ _ [] X rfl rfl (own_empty w _ rfl) ?src ?len ?next)
    case src => exact HB.out.keep (S := fun _ => False) ((Fr.refl _ _).alloc _) (fun _ _ _ h => h)
    case len => simpa using hX
    case next =>
      intro v' w' hown hgr _
      go_wp2
      go_ret
      refine ⟨_, rfl, ((Fr.refl _ _).alloc _).grown hgr (fun k hk => ?_), hown.mono fun k _ h => ?_⟩
      · simp [Value.ownBlock] at hk; exact .inr (by omega)
      · rcases h with h | h
        · exact h
        · omega
theorem over_any {F : Nat → Prop} {v : Value} {X : List UInt8} (w : World) (h : BytesIn F w v X) (hX : X.length ≤ 140737488355328) :
    Calls Tryz.prog 93 #[v] w fun e w' => ∃ b, e = .returned (.pointer (some ⟨b, 0, none⟩)) ∧ Fr (fun _ => False) w w' ∧ w.heap.size ≤ b ∧ CurAt (fun k => w.heap.size ≤ k ∧ k ≠ b) w' b X 0 := by
  obtain ⟨ao, cap, hv, _⟩ := id h
  subst hv
  have H := Lib.hid (clone_any w h hX)
  clear h hX
  go_enter Tryz.func93, Tryz.ntmps93
  go_wp2_with fail
  refine H.out.mono ?_
  rintro e w1 ⟨v', rfl, hfr, hown⟩
  obtain ⟨ao', cap', rfl⟩ := hown.len
  have HO := Lib.hid hown
  have HF := Lib.hid hfr
  clear hown hfr H
  go_wp2
  go_ret
  refine ⟨w1.heap.size, rfl, HF.out.alloc _, HF.out.size, _, heap_alloc_new _ _, ?_, fun h => h.2 rfl⟩
  exact (HO.out.bytes.mono fun k hk h => ⟨h, by omega⟩).keep (S := fun _ => False) ((Fr.refl _ _).alloc _) (fun _ _ _ h => h)
theorem cur_cells {w : World} {b : Nat} {v : Value} {e : Int} (h1 : w.heap[b]? = some (.cells #[v, .int .i64 e, .bool true] 194 (0, 0))) :
    w.cell? ⟨b, 0, none⟩ = some v ∧ w.cell? ⟨b, 1, none⟩ = some (.int .i64 e) ∧ w.cell? ⟨b, 2, none⟩ = some (.bool true) ∧ w.frozen? ⟨b, 0, none⟩ = false ∧ w.frozen? ⟨b, 1, none⟩ = false :=
  ⟨by simp [World.cell?, h1], by simp [World.cell?, h1], by simp [World.cell?, h1], by simp [World.frozen?, h1], by simp [World.frozen?, h1]⟩
def cutLow (ao : Option Addr) (n cap : Nat) : Option Addr := if cap = n then ao else ao.map (·.add n)
theorem run_cutLow (w : World) (ao : Option Addr) (l cap n : Nat) (hn : n ≤ l) :
    (Instr.slice 43 (.slice ao l cap) (some (.int .i64 (n : Int))) none none).run Tryz.prog w = .ok (.slice (cutLow ao n cap) (l - n) (cap - n)) w := by
  have hs : ∀ w, (sizeOf 5).run Tryz.prog w = .ok 1 w := fun w => by kernel_rfl
  simp [Instr.slice, run_underlying Tryz.underlying43, Instr.sliceBounds, run_sliceBound, hs, cutLow, hn]
theorem BytesIn.cutLow {F : Nat → Prop} {w : World} {ao : Option Addr} {l cap : Nat} {X : List UInt8} (h : BytesIn F w (.slice ao l cap) X) (n : Nat) (hn : n ≤ X.length) :
    BytesIn F w (.slice (cutLow ao n cap) (l - n) (cap - n)) (X.drop n) := by
  obtain ⟨ao', cap', hv, h1, hm, h2, h3⟩ := h
  simp only [Value.slice.injEq] at hv
  obtain ⟨rfl, rfl, rfl⟩ := hv
  unfold YtldgcoikbjbjeaaGreat.cutLow
  refine ⟨_, cap - n, by rw [List.length_drop], by rw [List.length_drop]; omega, by omega, ?_, ?_⟩
  · intro h
    split at h
    · omega
    · have := h2 (by simpa using h); omega
  · intro a ha
    split at ha
    · rename_i hc
      obtain hX : X.drop n = [] := List.drop_eq_nil_of_le (by omega)
      rw [hX]
      exact ⟨fun j u hu => by simp at hu, fun h => absurd rfl h⟩
    · cases ao with
      | none => cases ha
      | some a0 =>
        simp only [Option.map_some, Option.some.injEq] at ha
        subst ha
        refine ⟨fun j u hu => ?_, fun hX => by rw [add_block]; exact (h3 _ rfl).2 (fun h => by subst h; simp at hX)⟩
        have := (h3 _ rfl).1 (n + j) u (by rw [← hu, List.getElem?_map, List.getElem?_map, List.getElem?_drop])
        rwa [Go.Deep.add_add]
def curRaw (many : Int) (X : List UInt8) (e : Int) : List UInt8 × List UInt8 × Int :=
  if e = 0 then
    if many < 0 ∨ (X.length : Int) < many then ([], [], 4) else (X.take many.toNat, X.drop many.toNat, 0)
  else ([], X, e)
theorem BytesIn.take {F : Nat → Prop} {w : World} {ao : Option Addr} {l cap : Nat} {X : List UInt8} (h : BytesIn F w (.slice ao l cap) X) (n : Nat) (hn : n ≤ X.length) :
    BytesIn F w (.slice ao n cap) (X.take n) := by
  obtain ⟨ao', cap', hv, h1, hm, h2, h3⟩ := h
  simp only [Value.slice.injEq] at hv
  obtain ⟨rfl, _, rfl⟩ := hv
  have hl : (X.take n).length = n := by rw [List.length_take]; omega
  refine ⟨ao, cap, by rw [hl], by omega, hm, h2, fun a ha => ⟨fun j u hu => (h3 a ha).1 j u ?_, fun hX => (h3 a ha).2 (fun h => by subst h; simp at hX)⟩⟩
  rw [← hu, List.map_take, List.getElem?_take]
  have hj : j < n := by have := (List.getElem?_eq_some_iff.1 hu).1; simp at this; omega
  rw [if_pos hj]
set_option maxHeartbeats 1000000 in
theorem curRaw_any {F : Nat → Prop} {b : Nat} {X : List UInt8} {e : Int} (many : Int) (w : World) (h : CurAt F w b X e) (hX : X.length ≤ 140737488355328) (hlow : -9223372036854775808 ≤ many) (hup : many ≤ 9223372036854775807) :
    Calls Tryz.prog 132 #[.pointer (some ⟨b, 0, none⟩), .int .i64 many] w fun r w' => ∃ v, r = .returned v ∧ Fr (· = b) w w' ∧ OwnB (fun k => w.heap.size ≤ k) w' v (curRaw many X e).1 ∧ CurAt F w' b (curRaw many X e).2.1 (curRaw many X e).2.2 := by
  by_cases he : e = 0
  · subst he
    by_cases hbad : many < 0 ∨ (X.length : Int) < many
    · have hR : curRaw many X 0 = ([], [], 4) := by simp [curRaw, hbad]
      rw [hR]
      obtain ⟨v, c0, c1, c2, f0, f1, hb⟩ := h.facts
      obtain ⟨ao, cap, rfl, hl, hm, _⟩ := hb
      unfold maxLen at hm
      by_cases hs : many < 0
      · clear hbad
        go_enter Tryz.func132, Tryz.ntmps132
        go_wp2_with (first
          | (go_at_call 129; refine (whole_yes _ h).mono ?_; rintro e w' ⟨rfl, rfl⟩)
          | (go_at_call 131; refine (curfail_any 4 _ h).mono ?_; rintro e w' ⟨rfl, hfr, hcur⟩))
        go_ret
        exact ⟨_, rfl, hfr, OwnB.nil _ _, hcur⟩
      · have hs2 : (X.length : Int) < many := by omega
        clear hbad
        go_enter Tryz.func132, Tryz.ntmps132
        go_wp2_with (first
          | (go_at_call 129; refine (whole_yes _ h).mono ?_; rintro e w' ⟨rfl, rfl⟩)
          | (go_at_call 131; refine (curfail_any 4 _ h).mono ?_; rintro e w' ⟨rfl, hfr, hcur⟩))
        go_ret
        exact ⟨_, rfl, hfr, OwnB.nil _ _, hcur⟩
    · have hR : curRaw many X 0 = (X.take many.toNat, X.drop many.toNat, 0) := by simp [curRaw, hbad]
      rw [hR]
      obtain ⟨n, rfl⟩ := Int.eq_ofNat_of_zero_le (show 0 ≤ many by omega)
      have hn : n ≤ X.length := by omega
      simp only [Int.toNat_natCast]
      clear hbad hR
      obtain ⟨v, hblk, hb, hFb⟩ := id h
      obtain ⟨c0, c1, c2, f0, f1⟩ := cur_cells hblk
      obtain ⟨ao, cap, rfl, hl, hm, _⟩ := id hb
      unfold maxLen at hm
      have hcl := Lib.hid (clone_any w (hb.take n hn) (by rw [List.length_take]; omega))
      have hlow := hb.cutLow n hn
      have hsl := fun w => run_cutLow w ao X.length cap n hn
      obtain ⟨l, hlX⟩ : ∃ l, l = X.length := ⟨_, rfl⟩
      rw [← hlX] at c0 hn hl hsl hblk hlow hb
      rw [← hlX] at hX
      have HB := Lib.hid hb
      clear hb hlX
      have HW := Lib.hid (whole_yes w h)
      clear h
      go_enter Tryz.func132, Tryz.ntmps132
      go_wp2_with (first
        | (go_at_call 129; refine HW.out.mono ?_; rintro e w' ⟨rfl, rfl⟩)
        | (go_at_call 45; refine hcl.out.mono ?_; rintro e w1 ⟨v', rfl, hfr, hown⟩; have hblk1 := hfr.heap hblk (fun h => h); obtain ⟨d0, d1, d2, g0, g1⟩ := cur_cells hblk1))
      go_ret
      refine ⟨_, rfl, (hfr.mono fun _ _ h => h.elim).trans (Fr.one _ _ _ _) (fun i hi => .inl hi), ?_, ?_⟩
      · exact hown.keep (S := (· = b)) (Fr.one _ _ _ _) (fun k _ h1 h2 => by have := lt_of_block hblk; omega)
      · exact CurAt.store0 (X := X) ⟨_, hblk1, HB.out.keep hfr (fun _ _ _ h => h), hFb⟩ _ _ (hlow.keep hfr (fun _ _ _ h => h))
  · have hR : curRaw many X e = ([], X, e) := by simp [curRaw, he]
    rw [hR]
    go_enter Tryz.func132, Tryz.ntmps132
    go_wp2_with (go_at_call 129; refine (whole_no _ h he).mono ?_; rintro e w' ⟨rfl, rfl⟩)
    go_ret
    exact ⟨_, rfl, Fr.refl _ _, OwnB.nil _ _, h⟩
end Go.Proofs.YtldgcoikbjbjeaaGreat
namespace Go.Proofs.YtldgcoikbjbjeaaGreat
open Go.RowKit Go.ChangeShapes
set_option linter.unusedVariables false
theorem Fr.setRow {S : Nat → Prop} {a w : World} {g : Nat} (h : Fr S a w) (hg : S g ∨ a.heap.size ≤ g) (cs : Array Value) : Fr S a (w.setRow g cs) :=
  ⟨h.os, h.tape, h.output, by simpa using h.size, fun i hi hs => by
    rw [setRow_other _ _ _ _ (by rintro rfl; rcases hg with h1 | h1; exact hs h1; omega), h.block i hi hs]⟩
theorem wpList_store_row {P : Program} {ops : Array Oper} {rest : List Oper} {op : Oper} {a : Act} {w : World} {Q : Exit → Act → World → Prop} (hgd : op.guard = none) (ty : TypeId) (x y : Operand) (ho : op.op = .store ty x y)
    (g : Nat) (cells old : Array Value) (t : TypeId) (hx : a.eval x = .pointer (some ⟨g, 0, none⟩)) (hy : a.eval y = .agg cells)
    (hg : w.heap[g]? = some (.cells old t (0, 0))) (hi : (P.info? ty).map (·.size) = some cells.size) (hs : old.size = cells.size) (h1 : cells.all (·.oneCell') = true)
    (h : wpList P ops Q rest (a.put op.dst undef) (w.setRow g cells)) : wpList P ops Q (op :: rest) a w :=
  wpList_plain hgd fun _ hK => by
    unfold Oper.wp execOp
    simp only [ho, hx, hy, Instr.storeAt, Instr.sureAddr, Sem.run_bind, Sem.run_pure, Result.andThen_ok, run_storeVar_row w g t ty old cells hg hi hs h1]
    exact hK _ _ h
theorem run_make_bytes (w : World) (m : Int) (n : Nat) (hm : m = n) (hn : n ≤ 140737488355328) :
    (Instr.makeSlice 43 (.int .i64 m) (.int .i64 m)).run Tryz.prog w = .ok (.slice (some ⟨w.heap.size, 0, none⟩) n n) (w.alloc (.cells ((List.replicate n (0 : UInt8)).map bv).toArray 5)) := by
  subst hm
  obtain ⟨i0, hi, hz0, hz1, hz2⟩ := info_parts Tryz.infoB
  have h := run_make (P := Tryz.prog) w 43 5 i0 (.int .u8 0) Tryz.underlying43 hi hz0 .i64 .i64 (n : Int) (n : Int) (by omega) (Int.le_refl _) (by rw [hz2]; omega) (by omega)
  rw [h, hz1, Int.toNat_natCast, Nat.mul_one]
  have e : madeCells (Value.int .u8 0).cells n = ((List.replicate n (0 : UInt8)).map bv).toArray := by
    apply Array.ext'
    simp only [madeCells, Value.cells, Array.toList_map, Array.toList_range, List.map_replicate]
    apply List.ext_getElem
    · simp
    · intro k h1 h2
      simp [Nat.mod_one]
      rfl
  rw [e]
def BytT (w : World) (g : Nat) (T : TypeId) (L : List UInt8) : Prop := w.heap[g]? = some (.cells (L.map bv).toArray T (0, 0))
theorem BytT.cell {w : World} {g : Nat} {T : TypeId} {L : List UInt8} (h : BytT w g T L) (i : Nat) (hi : i < L.length) : w.cell? ⟨g, i, none⟩ = some (.int .u8 (L.getD i 0).toNat) := by
  rw [cell_of_row _ _ _ _ _ _ h, List.getElem?_toArray, List.getElem?_map, List.getD_eq_getElem?_getD, List.getElem?_eq_getElem hi]
  rfl
theorem BytT.free {w : World} {g : Nat} {T : TypeId} {L : List UInt8} (h : BytT w g T L) (i : Nat) : w.frozen? ⟨g, i, none⟩ = false := frozen_of_row _ _ _ _ _ h
theorem BytT.keep {S : Nat → Prop} {w w' : World} {g : Nat} {T : TypeId} {L : List UInt8} (h : BytT w g T L) (hf : Fr S w w') (hg : ¬ S g) : BytT w' g T L := hf.heap h hg
theorem BytT.lt {w : World} {g : Nat} {T : TypeId} {L : List UInt8} (h : BytT w g T L) : g < w.heap.size := lt_of_block h
theorem run_tag (w : World) (s : ByteArray) (hs : s.size ≤ maxLen) :
    ∃ cap W, (convert 9 43 (.string s)).run Tryz.prog w = .ok (.slice (some ⟨w.heap.size, 0, none⟩) s.size cap) W ∧ Fr (fun _ => False) w W ∧ BytesIn (fun k => k = w.heap.size) W (.slice (some ⟨w.heap.size, 0, none⟩) s.size cap) s.data.toList ∧ W.heap.size = w.heap.size + 1 := by
  refine ⟨_, _, run_bytes_of_string w 9 43 5 s Tryz.underlying9 Tryz.underlying43 Tryz.underlying5, (Fr.refl _ w).drew.alloc _, ?_, by simp⟩
  have hge := grownCap_ge w s.size 0 5
  have hle := grownCap_le_maxLen w s.size 0 5 hs
  generalize grownCap w s.size 0 5 = cap at *
  have hl : s.data.toList.length = s.size := by simp
  refine ⟨_, cap, by rw [hl], by rw [hl]; exact hge, hle, (fun h => by cases h), ?_⟩
  intro a ha
  cases ha
  refine ⟨fun j u hu => ?_, fun _ => rfl⟩
  have hj : j < s.data.size := by have := (List.getElem?_eq_some_iff.1 hu).1; simpa using this
  rw [addr_plain, Nat.zero_add]
  refine (cell_of_row _ w.heap.size j _ _ _ (heap_alloc_new w.drew _)).trans ?_
  rw [bytesRow_at s cap j hj, ← hu, List.getElem?_map, Array.getElem?_toList, Array.getElem?_eq_getElem hj]
  rfl
end Go.Proofs.YtldgcoikbjbjeaaGreat
namespace Go.Proofs.YtldgcoikbjbjeaaGreat
open Go.RowKit Go.ChangeShapes
set_option linter.unusedVariables false
theorem Tryz.infoSec : (Tryz.prog.info? 140).map (fun i => (i.zero, i.size, i.bytes)) = some (some (.agg (Array.replicate 64 (.int .u8 0))), 64, 64) := by kernel_rfl
theorem run_make_secs (w : World) (m : Int) (s : Nat) (hm : m = s) (hs : s ≤ 8192) :
    (Instr.makeSlice 68 (.int .i64 m) (.int .i64 m)).run Tryz.prog w = .ok (.slice (some ⟨w.heap.size, 0, none⟩) s s) (w.alloc (.cells ((List.replicate (64 * s) (0 : UInt8)).map bv).toArray 140)) := by
  subst hm
  obtain ⟨i0, hi, hz0, hz1, hz2⟩ := info_parts Tryz.infoSec
  have h := run_make (P := Tryz.prog) w 68 140 i0 (.agg (Array.replicate 64 (.int .u8 0))) Tryz.underlying68 hi hz0 .i64 .i64 (s : Int) (s : Int) (by omega) (Int.le_refl _) (by rw [hz2]; omega) (by omega)
  rw [h, hz1, Int.toNat_natCast]
  have e : madeCells (Value.agg (Array.replicate 64 (.int .u8 0))).cells (s * 64) = ((List.replicate (64 * s) (0 : UInt8)).map bv).toArray := by
    apply Array.ext
    · simp [madeCells]
      omega
    · intro k h1 h2
      have hk : k % 64 < 64 := Nat.mod_lt _ (by decide)
      simp [madeCells, Value.cells, hk, bv]
  rw [e]
theorem dNew_yes (w : World) (s : Nat) (h1 : 1 ≤ s) (h2 : s ≤ 8192) :
    Calls Tryz.prog 8 #[.int .i64 s] w fun e w' => ∃ g kb, e = .returned (.tuple #[.pointer (some ⟨g, 0, none⟩), .int .i64 0]) ∧ w.heap.size ≤ g ∧ w.heap.size ≤ kb ∧ g ≠ kb ∧ DvH w' g kb s (.slice none 0 0) 0 0 false ∧ BytT w' kb 140 (List.replicate (64 * s) 0) ∧ Fr (fun _ => False) w w' := by
  have hmk := fun W => run_make_secs W (s : Int) s rfl h2
  have h3 : decide ((s : Int) < 1) = false := by rw [decide_eq_false_iff_not]; omega
  have h4 : decide (8192 < (s : Int)) = false := by rw [decide_eq_false_iff_not]; omega
  obtain ⟨Z, hZ⟩ : ∃ Z, Z = ((List.replicate (64 * s) (0 : UInt8)).map bv).toArray := ⟨_, rfl⟩
  rw [← hZ] at hmk
  have HZ := Lib.hid hZ
  clear hZ
  go_enter Tryz.func8, Tryz.ntmps8
  go_wp2
  go_ret2
  refine ⟨w.heap.size + 1, w.heap.size, rfl, by omega, Nat.le_refl _, by omega, ?_, ?_, ((Fr.refl _ _).alloc _).alloc _⟩
  · exact heap_alloc2_new w _ _
  · rw [HZ.out]; exact heap_alloc2_old w _ _
end Go.Proofs.YtldgcoikbjbjeaaGreat
