/- Contracts of code.Cursor's calls. -/
import Derived.Test.YthjpgnmpcllolaaCursor
namespace Go.Proofs.Ythjpgnmpcllolaa
open Go.RowKit Go.ChangeShapes
set_option linter.unusedVariables false

theorem heap_setCell_at {w : World} {b i : Nat} {c : Array Value} {t : TypeId} {z : Nat × Nat} (u : Value) (h : w.heap[b]? = some (.cells c t z)) :
    (w.setCell ⟨b, i, none⟩ u).heap[b]? = some (.cells (c.setIfInBounds i u) t z) := by
  simp only [World.setCell, Array.getElem?_modify, h]
  simp

theorem Fr.one (w : World) (b i : Nat) (u : Value) : Fr (· = b) w (w.setCell ⟨b, i, none⟩ u) := (Fr.refl (· = b) w).setCell (p := ⟨b, i, none⟩) (.inl rfl) u
theorem Fr.two (w : World) (b i j : Nat) (u v : Value) : Fr (· = b) w ((w.setCell ⟨b, i, none⟩ u).setCell ⟨b, j, none⟩ v) := (Fr.one w b i u).setCell (p := ⟨b, j, none⟩) (.inl rfl) _

/-- At block b lies a cursor: its bytes X (in blocks of F, which b is none of), its error e. -/
def CurAt (F : Nat → Prop) (w : World) (b : Nat) (X : List UInt8) (e : Int) : Prop :=
  ∃ v, w.heap[b]? = some (.cells #[v, .int .i64 e, .bool true] 92 (0, 0)) ∧ BytesIn F w v X ∧ ¬ F b

theorem CurAt.keep {F S : Nat → Prop} {w w' : World} {b : Nat} {X : List UInt8} {e : Int} (h : CurAt F w b X e) (hf : Fr S w w') (hb : ¬ S b) (hd : ∀ k, k < w.heap.size → F k → ¬ S k) : CurAt F w' b X e := by
  obtain ⟨v, h1, h2, h3⟩ := h
  exact ⟨v, hf.heap h1 hb, h2.keep hf hd, h3⟩

theorem CurAt.facts {F : Nat → Prop} {w : World} {b : Nat} {X : List UInt8} {e : Int} (h : CurAt F w b X e) :
    ∃ v, w.cell? ⟨b, 0, none⟩ = some v ∧ w.cell? ⟨b, 1, none⟩ = some (.int .i64 e) ∧ w.cell? ⟨b, 2, none⟩ = some (.bool true) ∧ w.frozen? ⟨b, 0, none⟩ = false ∧ w.frozen? ⟨b, 1, none⟩ = false ∧ BytesIn F w v X := by
  obtain ⟨v, h1, h2, h3⟩ := h
  exact ⟨v, by simp [World.cell?, h1], by simp [World.cell?, h1], by simp [World.cell?, h1], by simp [World.frozen?, h1], by simp [World.frozen?, h1], h2⟩

/-- Two stores into the cursor. -/
theorem CurAt.store {F : Nat → Prop} {w : World} {b : Nat} {X : List UInt8} {e : Int} (h : CurAt F w b X e) (e' : Int) (v' : Value) (X' : List UInt8) (hv : BytesIn F w v' X') :
    CurAt F ((w.setCell ⟨b, 1, none⟩ (.int .i64 e')).setCell ⟨b, 0, none⟩ v') b X' e' := by
  obtain ⟨v, h1, h2, h3⟩ := h
  refine ⟨v', ?_, ?_, h3⟩
  · have := heap_setCell_at (i := 0) v' (heap_setCell_at (i := 1) (.int .i64 e') h1)
    simpa using this
  · exact hv.keep (S := (· = b)) (Fr.two _ _ _ _ _ _) (fun k _ hk hb => h3 (hb ▸ hk))
theorem CurAt.store0 {F : Nat → Prop} {w : World} {b : Nat} {X : List UInt8} {e : Int} (h : CurAt F w b X e) (v' : Value) (X' : List UInt8) (hv : BytesIn F w v' X') :
    CurAt F (w.setCell ⟨b, 0, none⟩ v') b X' e := by
  obtain ⟨v, h1, h2, h3⟩ := h
  refine ⟨v', ?_, ?_, h3⟩
  · have := heap_setCell_at (i := 0) v' h1
    simpa using this
  · exact hv.keep (S := (· = b)) (Fr.one _ _ _ _) (fun k _ hk hb => h3 (hb ▸ hk))
theorem CurAt.drewN {F : Nat → Prop} {w : World} {b : Nat} {X : List UInt8} {e : Int} (h : CurAt F w b X e) (n : Nat) : CurAt F (w.drewN n) b X e := h

theorem isCursor_any {F : Nat → Prop} {b : Nat} {X : List UInt8} {e : Int} (w : World) (h : CurAt F w b X e) :
    Calls Try.prog 47 #[.pointer (some ⟨b, 0, none⟩)] w fun e w' => e = .returned (.bool true) ∧ w = w' := by
  obtain ⟨v, c0, c1, c2, f0, f1, hb⟩ := h.facts
  clear h hb
  go_enter Try.func47, Try.ntmps47
  go_wp2
  go_ret
  exact ⟨rfl, rfl⟩

theorem whole_yes {F : Nat → Prop} {b : Nat} {X : List UInt8} (w : World) (h : CurAt F w b X 0) :
    Calls Try.prog 46 #[.pointer (some ⟨b, 0, none⟩)] w fun e w' => e = .returned (.bool true) ∧ w = w' := by
  obtain ⟨v, c0, c1, c2, f0, f1, hb⟩ := h.facts
  clear hb
  go_enter Try.func46, Try.ntmps46
  go_wp2_with (go_at_call 47; refine (isCursor_any _ h).mono ?_; rintro e w' ⟨rfl, rfl⟩)
  go_ret
  exact ⟨rfl, rfl⟩
theorem whole_no {F : Nat → Prop} {b : Nat} {X : List UInt8} {e : Int} (w : World) (h : CurAt F w b X e) (he : e ≠ 0) :
    Calls Try.prog 46 #[.pointer (some ⟨b, 0, none⟩)] w fun e w' => e = .returned (.bool false) ∧ w = w' := by
  obtain ⟨v, c0, c1, c2, f0, f1, hb⟩ := h.facts
  clear hb
  have he' : (e == 0) = false := by simpa using he
  clear he
  go_enter Try.func46, Try.ntmps46
  go_wp2_with (go_at_call 47; refine (isCursor_any _ h).mono ?_; rintro e w' ⟨rfl, rfl⟩)
  go_ret
  exact ⟨rfl, rfl⟩

theorem curfail_any {F : Nat → Prop} {b : Nat} {X : List UInt8} {e : Int} (e' : Int) (w : World) (h : CurAt F w b X e) :
    Calls Try.prog 49 #[.pointer (some ⟨b, 0, none⟩), .int .i64 e'] w fun r w' => r = .returned (.tuple #[]) ∧ Fr (· = b) w w' ∧ CurAt F w' b [] e' := by
  have hfin := Lib.hid (h.store e' (.slice none 0 0) [] (BytesIn.nil _ _))
  obtain ⟨v, c0, c1, c2, f0, f1, hb⟩ := h.facts
  clear h hb
  go_enter Try.func49, Try.ntmps49
  go_wp2
  go_end0
  exact ⟨rfl, Fr.two _ _ _ _ _ _, hfin.out⟩

/-- What Num tells, and what it leaves: bytes, an error. -/
def curNum (most : Int) (X : List UInt8) (e : Int) : Int × List UInt8 × Int :=
  if e = 0 then
    if numS X = 0 ∨ most < numV X then (0, [], 4) else (numV X, X.drop (numS X), 0)
  else (0, X, e)

theorem BytesIn.drop {F : Nat → Prop} {w : World} {ao : Option Addr} {cap : Nat} {X : List UInt8} (h : BytesIn F w (.slice ao X.length cap) X) (n : Nat) (hn : n ≤ X.length) (b off : Nat) (ha : ao = some ⟨b, off, none⟩) :
    BytesIn F w (.slice (some ⟨b, off + n, none⟩) (X.length - n) (cap - n)) (X.drop n) := by
  obtain ⟨ao', cap', hv, h1, hm, h2, h3⟩ := h
  simp only [Value.slice.injEq] at hv
  obtain ⟨rfl, _, rfl⟩ := hv
  refine ⟨some ⟨b, off + n, none⟩, cap - n, by rw [List.length_drop], by rw [List.length_drop]; omega, by omega, (fun h => by cases h), ?_⟩
  intro a hab
  cases hab
  refine ⟨fun j u hu => ?_, fun hX => (h3 _ ha).2 (fun h => by subst h; simp at hX)⟩
  have := (h3 _ ha).1 (n + j) u (by rw [← hu, List.getElem?_map, List.getElem?_map, List.getElem?_drop])
  rw [addr_plain] at this ⊢
  rwa [Nat.add_assoc]

set_option maxHeartbeats 1000000 in
theorem curNum_any {F : Nat → Prop} {b : Nat} {X : List UInt8} {e : Int} (most : Int) (w : World) (h : CurAt F w b X e) :
    Calls Try.prog 30 #[.pointer (some ⟨b, 0, none⟩), .int .i64 most] w fun r w' => r = .returned (.int .i64 (curNum most X e).1) ∧ Fr (· = b) w w' ∧ CurAt F w' b (curNum most X e).2.1 (curNum most X e).2.2 := by
  by_cases he : e = 0
  · subst he
    by_cases hbad : numS X = 0 ∨ most < numV X
    · have hR : curNum most X 0 = (0, [], 4) := by simp [curNum, hbad]
      rw [hR]
      obtain ⟨v, c0, c1, c2, f0, f1, hb⟩ := h.facts
      by_cases hs : numS X = 0
      · have hs' : ((numS X : Int) == 0) = true := by simp [hs]
        clear hbad hs
        go_enter Try.func30, Try.ntmps30
        go_wp2_with (first
          | (go_at_call 46; refine (whole_yes _ h).mono ?_; rintro e w' ⟨rfl, rfl⟩)
          | (go_at_call 48; refine (numAt_any v X _ hb).mono ?_; rintro e w' ⟨rfl, n, rfl⟩)
          | (go_at_call 49; refine (curfail_any 4 _ (h.drewN _)).mono ?_; rintro e w' ⟨rfl, hfr, hcur⟩))
        go_ret
        exact ⟨rfl, hfr.ofDrewN, hcur⟩
      · have hm : most < numV X := by omega
        have hs' : ((numS X : Int) == 0) = false := by simp [hs]
        clear hbad hs
        go_enter Try.func30, Try.ntmps30
        go_wp2_with (first
          | (go_at_call 46; refine (whole_yes _ h).mono ?_; rintro e w' ⟨rfl, rfl⟩)
          | (go_at_call 48; refine (numAt_any v X _ hb).mono ?_; rintro e w' ⟨rfl, n, rfl⟩)
          | (go_at_call 49; refine (curfail_any 4 _ (h.drewN _)).mono ?_; rintro e w' ⟨rfl, hfr, hcur⟩))
        go_ret
        exact ⟨rfl, hfr.ofDrewN, hcur⟩
    · have hR : curNum most X 0 = ((numV X : Int), X.drop (numS X), 0) := by simp [curNum, hbad]
      rw [hR]
      obtain ⟨v, c0, c1, c2, f0, f1, hb⟩ := h.facts
      have hX : X ≠ [] := by rintro rfl; simp [numS, numOf, numFrom] at hbad
      obtain ⟨b', off, cap, rfl, h1, hm, hF, hc⟩ := hb.plain hX
      have hs1 := (numS_le X).1
      have hs0 : 0 < numS X := by omega
      have hmn : ¬ most < numV X := by omega
      have hsb : ((numS X : Int) == 0) = false := by simp; omega
      have hd := hb.drop (numS X) hs1 b' off rfl
      unfold maxLen at hm
      clear hbad hX hc
      obtain ⟨s, hs⟩ : ∃ s, s = numS X := ⟨_, rfl⟩
      obtain ⟨n, hn⟩ : ∃ n, n = numV X := ⟨_, rfl⟩
      obtain ⟨l, hl⟩ : ∃ l, l = X.length := ⟨_, rfl⟩
      have hcon : Calls Try.prog 48 #[.slice (some ⟨b', off, none⟩) l cap] w fun e w' => e = .returned (.tuple #[.int .i64 n, .int .i64 s]) ∧ ∃ n, w' = w.drewN n := by
        rw [hs, hn, hl]; exact numAt_any _ X w hb
      rw [← hl] at hd h1 c0 hs1
      rw [← hs] at hd hsb hs0 hs1 ⊢
      rw [← hn] at hmn ⊢
      clear hs hn hl hb
      have H := Lib.hid hcon
      clear hcon
      by_cases hcap : cap = s
      · have hX0 : X.drop s = [] := by
          obtain ⟨_, _, hv, h1, _⟩ := hd
          simp only [Value.slice.injEq] at hv
          exact List.eq_nil_of_length_eq_zero (by omega)
        rw [hX0]
        have hnil : BytesIn F w (.slice (some ⟨b', off, none⟩) 0 0) [] := ⟨_, 0, rfl, Nat.le_refl _, by simp [maxLen], (fun h => by cases h), fun a _ => ⟨fun j u hu => by simp at hu, fun h => absurd rfl h⟩⟩
        subst hcap
        obtain rfl : l = cap := by omega
        have hfin := Lib.hid fun k => (h.drewN k).store0 _ _ (hnil.drewN k)
        clear hd hX0 hnil
        go_enter Try.func30, Try.ntmps30
        go_wp2_with (first
          | (go_at_call 46; refine (whole_yes _ h).mono ?_; rintro e w' ⟨rfl, rfl⟩)
          | (go_at_call 48; refine H.out.mono ?_; rintro e w' ⟨rfl, d, rfl⟩))
        go_ret
        exact ⟨rfl, ((Fr.refl _ _).drewN _).trans (Fr.one _ _ _ _) (fun i hi => .inl hi), hfin.out _⟩
      · have hfin := Lib.hid fun k => (h.drewN k).store0 _ _ (hd.drewN k)
        clear hd
        go_enter Try.func30, Try.ntmps30
        go_wp2_with (first
          | (go_at_call 46; refine (whole_yes _ h).mono ?_; rintro e w' ⟨rfl, rfl⟩)
          | (go_at_call 48; refine H.out.mono ?_; rintro e w' ⟨rfl, d, rfl⟩))
        go_ret
        exact ⟨rfl, ((Fr.refl _ _).drewN _).trans (Fr.one _ _ _ _) (fun i hi => .inl hi), hfin.out _⟩
  · have hR : curNum most X e = (0, X, e) := by simp [curNum, he]
    rw [hR]
    go_enter Try.func30, Try.ntmps30
    go_wp2_with (go_at_call 46; refine (whole_no _ h he).mono ?_; rintro e w' ⟨rfl, rfl⟩)
    go_ret
    exact ⟨rfl, Fr.refl _ _, h⟩

end Go.Proofs.Ythjpgnmpcllolaa
