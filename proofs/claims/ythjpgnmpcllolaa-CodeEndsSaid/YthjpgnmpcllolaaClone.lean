/- Contracts: bytes.Clone, code.Over, and the rest of code.Cursor's calls. -/
import Derived.Test.YthjpgnmpcllolaaCur
import Derived.Lib.SliceRun
import Derived.Deep.Slices
namespace Go.Proofs.Ythjpgnmpcllolaa
open Go.RowKit Go.ChangeShapes
set_option linter.unusedVariables false

theorem own_empty (w : World) (o : Obj) (ho : o = .cells #[] 5) : OwnB (fun k => w.heap.size ≤ k) (w.alloc o) (.slice (some ⟨w.heap.size, 0, none⟩) 0 0) [] := by
  subst ho
  refine ⟨World.ownsRow_made (base := 0) (e := 5) (size := 1) w #[] 0 (Nat.zero_le _) (by simp [maxLen]) (by simp), fun g hg => ?_⟩
  simp [Value.ownBlock] at hg
  omega

set_option maxHeartbeats 400000 in
theorem clone_any {F : Nat → Prop} {v : Value} {X : List UInt8} (w : World) (h : BytesIn F w v X) (hX : X.length ≤ 140737488355328) :
    Calls Try.prog 37 #[v] w fun e w' => ∃ v', e = .returned v' ∧ Fr (fun _ => False) w w' ∧ OwnB (fun k => w.heap.size ≤ k) w' v' X := by
  have qn := fun (w : World) a n c => Lib.run_eql_slice_nil (P := Try.prog) w 32 5 a n c 0 0 Try.underlying32
  obtain ⟨ao, cap, hv, h1, hm, h2, h3⟩ := id h
  cases ao with
  | none =>
    obtain rfl := h2 rfl
    obtain rfl : X = [] := List.eq_nil_of_length_eq_zero (by omega)
    subst hv
    clear h h1 h2 h3 hX hm
    go_enter Try.func37, Try.ntmps37
    go_wp2
    go_ret
    exact ⟨_, rfl, Fr.refl _ _, OwnB.nil _ _⟩
  | some a =>
    subst hv
    have HB := Lib.hid h
    clear h h1 h2 h3 hm
    go_enter Try.func37, Try.ntmps37
    go_wp2_with (at_builtin; refine wpList_append_bytes (F := fun k => w.heap.size ≤ k) (G := F) _ rfl (.tmp 5) (.tmp 6) rfl _ _ [] X rfl rfl (own_empty w _ rfl) ?src ?len ?next)
    case src => exact HB.out.keep (S := fun _ => False) ((Fr.refl _ _).alloc _) (fun _ _ _ h => h)
    case len => simpa using hX
    case next =>
      intro v' w' hown hgr _
      go_wp2
      go_ret
      refine ⟨_, rfl, ((Fr.refl _ _).alloc _).grown hgr (fun k hk => ?_), hown.mono fun k _ h => ?_⟩
      · simp [Value.ownBlock] at hk; exact .inr (by omega)
      · rcases h with h | h
        · exact h
        · omega

/-- Over(b): a new cursor over a copy. -/
theorem over_any {F : Nat → Prop} {v : Value} {X : List UInt8} (w : World) (h : BytesIn F w v X) (hX : X.length ≤ 140737488355328) :
    Calls Try.prog 26 #[v] w fun e w' => ∃ b, e = .returned (.pointer (some ⟨b, 0, none⟩)) ∧ Fr (fun _ => False) w w' ∧ w.heap.size ≤ b ∧ CurAt (fun k => w.heap.size ≤ k ∧ k ≠ b) w' b X 0 := by
  obtain ⟨ao, cap, hv, _⟩ := id h
  subst hv
  have H := Lib.hid (clone_any w h hX)
  clear h hX
  go_enter Try.func26, Try.ntmps26
  go_wp2_with fail
  refine H.out.mono ?_
  rintro e w1 ⟨v', rfl, hfr, hown⟩
  obtain ⟨ao', cap', rfl⟩ := hown.len
  have HO := Lib.hid hown
  have HF := Lib.hid hfr
  clear hown hfr H
  go_wp2
  go_ret
  refine ⟨w1.heap.size, rfl, HF.out.alloc _, HF.out.size, _, heap_alloc_new _ _, ?_, fun h => h.2 rfl⟩
  exact (HO.out.bytes.mono fun k hk h => ⟨h, by omega⟩).keep (S := fun _ => False) ((Fr.refl _ _).alloc _) (fun _ _ _ h => h)

theorem cur_cells {w : World} {b : Nat} {v : Value} {e : Int} (h1 : w.heap[b]? = some (.cells #[v, .int .i64 e, .bool true] 92 (0, 0))) :
    w.cell? ⟨b, 0, none⟩ = some v ∧ w.cell? ⟨b, 1, none⟩ = some (.int .i64 e) ∧ w.cell? ⟨b, 2, none⟩ = some (.bool true) ∧ w.frozen? ⟨b, 0, none⟩ = false ∧ w.frozen? ⟨b, 1, none⟩ = false :=
  ⟨by simp [World.cell?, h1], by simp [World.cell?, h1], by simp [World.cell?, h1], by simp [World.frozen?, h1], by simp [World.frozen?, h1]⟩

/-- Where 'x[n:]' begins: not unfolded by a walk. -/
def cutLow (ao : Option Addr) (n cap : Nat) : Option Addr := if cap = n then ao else ao.map (·.add n)
theorem run_cutLow (w : World) (ao : Option Addr) (l cap n : Nat) (hn : n ≤ l) :
    (Instr.slice 32 (.slice ao l cap) (some (.int .i64 (n : Int))) none none).run Try.prog w = .ok (.slice (cutLow ao n cap) (l - n) (cap - n)) w := by
  have hs : ∀ w, (sizeOf 5).run Try.prog w = .ok 1 w := fun w => by kernel_rfl
  simp [Instr.slice, run_underlying Try.underlying32, Instr.sliceBounds, run_sliceBound, hs, cutLow, hn]
theorem BytesIn.cutLow {F : Nat → Prop} {w : World} {ao : Option Addr} {l cap : Nat} {X : List UInt8} (h : BytesIn F w (.slice ao l cap) X) (n : Nat) (hn : n ≤ X.length) :
    BytesIn F w (.slice (cutLow ao n cap) (l - n) (cap - n)) (X.drop n) := by
  obtain ⟨ao', cap', hv, h1, hm, h2, h3⟩ := h
  simp only [Value.slice.injEq] at hv
  obtain ⟨rfl, rfl, rfl⟩ := hv
  unfold Ythjpgnmpcllolaa.cutLow
  refine ⟨_, cap - n, by rw [List.length_drop], by rw [List.length_drop]; omega, by omega, ?_, ?_⟩
  · intro h
    split at h
    · omega
    · have := h2 (by simpa using h); omega
  · intro a ha
    split at ha
    · rename_i hc
      obtain hX : X.drop n = [] := List.drop_eq_nil_of_le (by omega)
      rw [hX]
      exact ⟨fun j u hu => by simp at hu, fun h => absurd rfl h⟩
    · cases ao with
      | none => cases ha
      | some a0 =>
        simp only [Option.map_some, Option.some.injEq] at ha
        subst ha
        refine ⟨fun j u hu => ?_, fun hX => by rw [add_block]; exact (h3 _ rfl).2 (fun h => by subst h; simp at hX)⟩
        have := (h3 _ rfl).1 (n + j) u (by rw [← hu, List.getElem?_map, List.getElem?_map, List.getElem?_drop])
        rwa [Go.Deep.add_add]

/-- What Raw tells, and what it leaves. -/
def curRaw (many : Int) (X : List UInt8) (e : Int) : List UInt8 × List UInt8 × Int :=
  if e = 0 then
    if many < 0 ∨ (X.length : Int) < many then ([], [], 4) else (X.take many.toNat, X.drop many.toNat, 0)
  else ([], X, e)

theorem BytesIn.take {F : Nat → Prop} {w : World} {ao : Option Addr} {l cap : Nat} {X : List UInt8} (h : BytesIn F w (.slice ao l cap) X) (n : Nat) (hn : n ≤ X.length) :
    BytesIn F w (.slice ao n cap) (X.take n) := by
  obtain ⟨ao', cap', hv, h1, hm, h2, h3⟩ := h
  simp only [Value.slice.injEq] at hv
  obtain ⟨rfl, _, rfl⟩ := hv
  have hl : (X.take n).length = n := by rw [List.length_take]; omega
  refine ⟨ao, cap, by rw [hl], by omega, hm, h2, fun a ha => ⟨fun j u hu => (h3 a ha).1 j u ?_, fun hX => (h3 a ha).2 (fun h => by subst h; simp at hX)⟩⟩
  rw [← hu, List.map_take, List.getElem?_take]
  have hj : j < n := by have := (List.getElem?_eq_some_iff.1 hu).1; simp at this; omega
  rw [if_pos hj]

set_option maxHeartbeats 1000000 in
theorem curRaw_any {F : Nat → Prop} {b : Nat} {X : List UInt8} {e : Int} (many : Int) (w : World) (h : CurAt F w b X e) (hX : X.length ≤ 140737488355328) (hlow : -9223372036854775808 ≤ many) (hup : many ≤ 9223372036854775807) :
    Calls Try.prog 31 #[.pointer (some ⟨b, 0, none⟩), .int .i64 many] w fun r w' => ∃ v, r = .returned v ∧ Fr (· = b) w w' ∧ OwnB (fun k => w.heap.size ≤ k) w' v (curRaw many X e).1 ∧ CurAt F w' b (curRaw many X e).2.1 (curRaw many X e).2.2 := by
  by_cases he : e = 0
  · subst he
    by_cases hbad : many < 0 ∨ (X.length : Int) < many
    · have hR : curRaw many X 0 = ([], [], 4) := by simp [curRaw, hbad]
      rw [hR]
      obtain ⟨v, c0, c1, c2, f0, f1, hb⟩ := h.facts
      obtain ⟨ao, cap, rfl, hl, hm, _⟩ := hb
      unfold maxLen at hm
      by_cases hs : many < 0
      · clear hbad
        go_enter Try.func31, Try.ntmps31
        go_wp2_with (first
          | (go_at_call 46; refine (whole_yes _ h).mono ?_; rintro e w' ⟨rfl, rfl⟩)
          | (go_at_call 49; refine (curfail_any 4 _ h).mono ?_; rintro e w' ⟨rfl, hfr, hcur⟩))
        go_ret
        exact ⟨_, rfl, hfr, OwnB.nil _ _, hcur⟩
      · have hs2 : (X.length : Int) < many := by omega
        clear hbad
        go_enter Try.func31, Try.ntmps31
        go_wp2_with (first
          | (go_at_call 46; refine (whole_yes _ h).mono ?_; rintro e w' ⟨rfl, rfl⟩)
          | (go_at_call 49; refine (curfail_any 4 _ h).mono ?_; rintro e w' ⟨rfl, hfr, hcur⟩))
        go_ret
        exact ⟨_, rfl, hfr, OwnB.nil _ _, hcur⟩
    · have hR : curRaw many X 0 = (X.take many.toNat, X.drop many.toNat, 0) := by simp [curRaw, hbad]
      rw [hR]
      obtain ⟨n, rfl⟩ := Int.eq_ofNat_of_zero_le (show 0 ≤ many by omega)
      have hn : n ≤ X.length := by omega
      simp only [Int.toNat_natCast]
      clear hbad hR
      obtain ⟨v, hblk, hb, hFb⟩ := id h
      obtain ⟨c0, c1, c2, f0, f1⟩ := cur_cells hblk
      obtain ⟨ao, cap, rfl, hl, hm, _⟩ := id hb
      unfold maxLen at hm
      have hcl := Lib.hid (clone_any w (hb.take n hn) (by rw [List.length_take]; omega))
      have hlow := hb.cutLow n hn
      have hsl := fun w => run_cutLow w ao X.length cap n hn
      obtain ⟨l, hlX⟩ : ∃ l, l = X.length := ⟨_, rfl⟩
      rw [← hlX] at c0 hn hl hsl hblk hlow hb
      rw [← hlX] at hX
      have HB := Lib.hid hb
      clear hb hlX
      have HW := Lib.hid (whole_yes w h)
      clear h
      go_enter Try.func31, Try.ntmps31
      go_wp2_with (first
        | (go_at_call 46; refine HW.out.mono ?_; rintro e w' ⟨rfl, rfl⟩)
        | (go_at_call 37; refine hcl.out.mono ?_; rintro e w1 ⟨v', rfl, hfr, hown⟩; have hblk1 := hfr.heap hblk (fun h => h); obtain ⟨d0, d1, d2, g0, g1⟩ := cur_cells hblk1))
      go_ret
      refine ⟨_, rfl, (hfr.mono fun _ _ h => h.elim).trans (Fr.one _ _ _ _) (fun i hi => .inl hi), ?_, ?_⟩
      · exact hown.keep (S := (· = b)) (Fr.one _ _ _ _) (fun k _ h1 h2 => by have := lt_of_block hblk; omega)
      · exact CurAt.store0 (X := X) ⟨_, hblk1, HB.out.keep hfr (fun _ _ _ h => h), hFb⟩ _ _ (hlow.keep hfr (fun _ _ _ h => h))
  · have hR : curRaw many X e = ([], X, e) := by simp [curRaw, he]
    rw [hR]
    go_enter Try.func31, Try.ntmps31
    go_wp2_with (go_at_call 46; refine (whole_no _ h he).mono ?_; rintro e w' ⟨rfl, rfl⟩)
    go_ret
    exact ⟨_, rfl, Fr.refl _ _, OwnB.nil _ _, h⟩

end Go.Proofs.Ythjpgnmpcllolaa
