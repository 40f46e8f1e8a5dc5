/- Laid together by merge.py: TOrd JSort LogKp LogRedo JMap JLaid -/
import Derived.Test.YtiinmilfgclddaaGreatTr15
import Derived.Test.YtiinmilfgclddaaGreatTr3
import Derived.Test.YtiinmilfgclddaaGreatShelf
import Derived.Test.YtiinmilfgclddaaGreatRows
import Derived.Test.YtiinmilfgclddaaGreatTr8
import Derived.Maps.OwnSet
import Derived.WalkArith
import Derived.Test.YtiinmilfgclddaaGreatTr2

/- table's rows gone through in order by a function: what it yields. -/
namespace Go.Proofs.YtiinmilfgclddaaGreat
open Go.RowKit Go.ChangeShapes Go.Maps Go.WideMaps
set_option linter.unusedVariables false
attribute [local go_sem] Oper.semAt_some

/-- Nothing of T's outside, and no row of strings, has turned. -/
def Kp6 (T : Nat → Prop) (A B : World) : Prop := Fr T A B ∧ ∀ k, StrB A k → B.heap[k]? = A.heap[k]?
theorem StrB.lt {w : World} {k : Nat} (h : StrB w k) : k < w.heap.size := by obtain ⟨cs, fr, s, h1, _⟩ := h; exact lt_of_block h1
theorem StrB.same {A B : World} {k : Nat} (h : StrB A k) (e : B.heap[k]? = A.heap[k]?) : StrB B k := by obtain ⟨cs, fr, s, h1, h2⟩ := h; exact ⟨cs, fr, s, by rw [e]; exact h1, h2⟩
theorem Kp6.trans {T : Nat → Prop} {A B C : World} (h : Kp6 T A B) (k : Kp6 T B C) : Kp6 T A C := ⟨h.1.trans k.1 (fun _ h => .inl h), fun i hi => by rw [k.2 i (hi.same (h.2 i hi)), h.2 i hi]⟩
theorem Kp6.of {S T : Nat → Prop} {A B : World} (h : Fr S A B) (h1 : ∀ k, k < A.heap.size → S k → T k) (h2 : ∀ k, StrB A k → ¬ S k) : Kp6 T A B := ⟨h.mono h1, fun k hk => h.block k hk.lt (h2 k hk)⟩
theorem StrB.keep {S : Nat → Prop} {A B : World} {k : Nat} (h : StrB A k) (hf : Fr S A B) (hs : ¬ S k) : StrB B k := h.same (hf.block k h.lt hs)
/-- A key of a table. -/
abbrev KeyO (M : Tab) := {k : Bs // (tGet M k).isSome = true}
def getO {M : Tab} (x : KeyO M) : Bs := (tGet M x.1).get x.2
theorem getO_eq {M : Tab} (x : KeyO M) : tGet M x.1 = some (getO x) := by unfold getO; simp
def keysO (M : Tab) (P : Bs) : List (KeyO M) := (keysP M P).attach.map (fun k => ⟨k.1, (keysP_mem.1 k.2).1⟩)
theorem keysO_map (M : Tab) (P : Bs) : (keysO M P).map (·.1) = keysP M P := by unfold keysO; rw [List.map_map]; exact List.attach_map_subtype_val _
theorem keysO_length (M : Tab) (P : Bs) : (keysO M P).length = (keysP M P).length := by unfold keysO; simp
/-- The values that the map has. -/
def ValO (F : Nat → Prop) (w : World) (D : DataW Value) (M : Tab) (val : Bs → Value) : Prop := ∀ k b, tGet M k = some b → (∀ z, D.atKey (kS k) z = .held (val k)) ∧ BytesIn F w (val k) b
theorem TMt.vals {F : Nat → Prop} {w : World} {mb : Nat} {M : Tab} (h : TMt F w mb M) : ∃ D val, w.ownsMap Tryz.prog 9 heldR6 mb M.length D ∧ ValO F w D M val := by
  obtain ⟨D, h1, h2, h3, h4⟩ := h
  have : ∀ k, ∃ x, ∀ b, tGet M k = some b → (∀ z, D.atKey (kS k) z = .held x) ∧ BytesIn F w x b := fun k => by
    cases hg : tGet M k with
    | none => exact ⟨.nilFunc, fun b h => by cases h⟩
    | some b => obtain ⟨x, hx, hb⟩ := h4 k b hg; exact ⟨x, fun b' e => by obtain rfl := Option.some.inj e; exact ⟨hx, hb⟩⟩
  obtain ⟨f, hf⟩ := Classical.axiomOfChoice this
  exact ⟨D, f, h1, hf⟩
theorem look_val {w : World} {mb n : Nat} {D : DataW Value} (h : w.ownsMap Tryz.prog 9 heldR6 mb n D) (N : ByteArray) (hN : N.size ≤ 1000000) {x : Value} (hx : ∀ z, D.atKey (kS N.data.toList) z = .held x) : (Instr.lookup 79 (.map (some mb)) (.string N) false).run Tryz.prog w = .ok x w := by
  obtain ⟨v, ps, hr, hv⟩ := h.lookup (t := 79) (e := 43) strK6 Tryz.underlying79 (z := .slice none 0 0) (by kernel_rfl) (zd := .held (.slice none 0 0)) (zp := []) rfl (keyS N hN)
  rw [hx, heldR6] at hv
  simp only [Option.some.injEq, Prod.mk.injEq, DataW.held.injEq] at hv
  rw [hr, hv.1]
theorem Fr.grew {A B : World} (h : Fr (fun _ => False) A B) : A.grownBy B none := ⟨h.os, h.tape, h.output, h.size, fun k hk _ => h.block k hk id⟩
/-- What going through reads. -/
structure ItO (F : Nat → Prop) (rb mb : Nat) (M : Tab) (T : TypeId) (rest : List Value) (P : ByteArray) (Bp Bq n : Nat) (D : DataW Value) (W : World) : Prop where
  box : W.cell? ⟨Bp, 0, none⟩ = some (.pointer (some ⟨rb, 0, none⟩))
  bq : W.cell? ⟨Bq, 0, none⟩ = some (.string P)
  rw : RwAt F W rb mb M T rest
  own : W.ownsMap Tryz.prog 9 heldR6 mb n D
theorem ItO.keep {S F : Nat → Prop} {rb mb : Nat} {M : Tab} {T : TypeId} {rest : List Value} {P : ByteArray} {Bp Bq n : Nat} {D : DataW Value} {W W' : World} (h : ItO F rb mb M T rest P Bp Bq n D W) (hf : Fr S W W') (h1 : ¬ S Bp) (h2 : ¬ S Bq) (h3 : ¬ S rb) (h4 : ¬ S mb) (h5 : ∀ k, k < W.heap.size → F k → ¬ S k) : ItO F rb mb M T rest P Bp Bq n D W' :=
  ⟨hf.cell h.box h1, hf.cell h.bq h2, h.rw.keep hf h3 h4 h5, ownsMap_kept6 h.own hf h4⟩
def encO {M : Tab} (val : Bs → Value) (x : KeyO M) : Array Value := #[encStr x.1, val x.1]
set_option maxRecDepth 100000 in
set_option maxHeartbeats 4000000 in
theorem ordered1_in {T F : Nat → Prop} (n0 : Nat) (l Bp Bq rb mb n : Nat) (M : Tab) (Tt : TypeId) (rest : List Value) (P : ByteArray) (D : DataW Value) (val : Bs → Value) (hval : ∀ k b, tGet M k = some b → ∀ z, D.atKey (kS k) z = .held (val k))
    (hT1 : ¬ T Bp) (hT2 : ¬ T Bq) (hT3 : ¬ T rb) (hT4 : ¬ T mb) (hT5 : ∀ k, F k → ¬ T k) (B0 : Nat) (J Jx : List (KeyO M) → World → Prop) (hJ : AbidesFrom B0 J)
    (hY : ∀ pre x W, J pre W → pre.length < (keysP M P.data.toList).length → YieldAt Fence.wide (n0 - 1) Tryz.prog l (encO val x) W fun e W' =>
      (e = .returned (.bool true) ∧ J (pre ++ [x]) W' ∧ Kp6 T W W') ∨ (e = .returned (.bool false) ∧ Jx (pre ++ [x]) W'))
    (W : World) (hR : ItO F rb mb M Tt rest P Bp Bq n D W) (h0 : J [] W) :
    CallsIn Fence.wide n0 Tryz.prog 81 #[.func (.yield l) #[] #[], .pointer (some ⟨Bp, 0, none⟩), .pointer (some ⟨Bq, 0, none⟩)] W fun e W' => (∃ v, e = .returned v) ∧
      ((∃ ys, ys = keysO M P.data.toList ∧ J ys W') ∨ (∃ pre, pre <+: keysO M P.data.toList ∧ Jx pre W')) := by
  obtain ⟨hbx, hbq, hrw, hown⟩ := id hR
  have hkeys := WideF.out.calls (n := n0 - 1) (keys_any W hrw P)
  have HR := Lib.hid hR
  have HY := Lib.hid hY
  have HJ := Lib.hid hJ
  have HT := Lib.hid (And.intro hT1 (And.intro hT2 (And.intro hT3 (And.intro hT4 hT5))))
  have HKE := Lib.hid hkeys
  have HV := Lib.hid hval
  clear hR hY hJ hT1 hT2 hT3 hT4 hT5 hrw hown hkeys hval
  refine callsIn_of_wp Tryz.func81 rfl trivial ?_ rfl
  simp only [Tryz.ntmps81, List.size_toArray, List.length_cons, List.length_nil, Nat.reduceAdd, Nat.reduceSub, Array.replicate_succ, Array.replicate_zero, List.push_toArray, List.append_toArray, List.nil_append, List.cons_append]
  obtain ⟨m, hm⟩ : ∃ m, m = (keysP M P.data.toList).length := ⟨_, rfl⟩
  have HM := Lib.hid hm
  gi_wp2_with (refine ⟨trivial, fun hx => WideF.out.free hx, ?_⟩; gi_at_call 82; refine HKE.out.mono ?_; rintro e w2 ⟨v, rfl, he2, hf2, hs2⟩; (obtain ⟨ao, cap, rfl, hc1, hc2, hc3, hc4⟩ := id he2); rw [List.length_map] at he2 hc1 ⊢; rw [← hm] at he2 hc1 hs2 ⊢; (have H2 := Lib.hid (And.intro he2 (And.intro hf2 (And.intro hs2 hc4)))); clear he2 hf2 hs2 hc3 hc4)
  have hJ2 : J [] w2 := HJ.out _ _ _ none h0 (Fr.grew H2.out.2.1) (fun r e => by cases e)
  have HR2 := Lib.hid (HR.out.keep H2.out.2.1 id id id id (fun _ _ _ h => h))
  have HS2 := Lib.hid (show ∀ i (h : i < (keysP M P.data.toList).length), ∃ g off, ao = some ⟨g, off, none⟩ ∧ StrB w2 g ∧ w2.cell? ⟨g, off + i, none⟩ = some (encStr (keysP M P.data.toList)[i]) from fun i h => by
    obtain ⟨b, off, ha, hF, hi⟩ := H2.out.2.2.2 (by intro e; rw [List.map_eq_nil_iff] at e; rw [e] at h; simp at h)
    obtain ⟨g, c, hv, hst⟩ := H2.out.2.2.1 (by intro e; rw [e] at h; simp at h)
    simp only [Value.slice.injEq] at hv
    have h5 := hi i (by rw [List.length_map]; exact h) 0 (by decide)
    rw [List.getElem_map] at h5
    rw [ha] at hv
    have e2 : b = g ∧ off = 0 := by have := hv.1; simp at this; exact this
    exact ⟨b, off, ha, by rw [e2.1]; exact hst, by rw [show off + i = off + i * 1 + 0 by omega]; exact h5⟩)
  clear h0
  gi_loopw [10] (fun iv wr => ∃ i : Nat, i ≤ m ∧ iv = .int .i64 i ∧ J ((keysO M P.data.toList).take i) wr ∧ Hid (ItO F rb mb M Tt rest P Bp Bq n D wr ∧ Kp6 T w2 wr)) (fun iv _ => m - (intOf iv).toNat)
  case atStart => exact ⟨0, by omega, rfl, hJ2, Lib.hid ⟨HR2.out, Fr.refl _ _, fun _ _ => rfl⟩⟩
  case round =>
    clear hJ2
    obtain ⟨i, hi, rfl, hJs, hRr⟩ := hrel
    by_cases hlt : i < m
    · have hiL : i < (keysP M P.data.toList).length := by have := HM.out; omega
      obtain ⟨g, off, rfl, hst, hce⟩ := HS2.out i hiL
      have hce2 : wr.cell? ⟨g, off + i, none⟩ = some (encStr (keysP M P.data.toList)[i]) := by
        rw [World.cell?_of_block (hRr.out.2.2 g hst)]; exact hce
      have hiO : i < (keysO M P.data.toList).length := by rw [keysO_length]; exact hiL
      obtain ⟨x, hx⟩ : ∃ x, x = (keysO M P.data.toList)[i] := ⟨_, rfl⟩
      have hxk : (keysP M P.data.toList)[i] = x.1 := by
        have h1 : ((keysO M P.data.toList).map (·.1))[i]'(by rw [List.length_map]; exact hiO) = x.1 := by rw [List.getElem_map, hx]
        rw [← h1]
        congr 1
        rw [keysO_map]
      rw [hxk] at hce2
      obtain ⟨q, hq⟩ : ∃ q, q = encStr x.1 := ⟨_, rfl⟩
      obtain ⟨b1, b2, b3, b4⟩ := hRr.out.1
      obtain ⟨c0, c1, f1⟩ := b3.cells
      have hxs : x.1.length ≤ 64 := (b3.ok.2 _ (tGet_mem (getO_eq x))).1.2
      have hlook := look_val b4 ⟨x.1.toArray⟩ (by show x.1.toArray.size ≤ 1000000; simp; omega) (x := val x.1) (by simpa using HV.out _ _ (getO_eq x))
      obtain ⟨fn, tmps, assign, body, hy, hRd⟩ := HY.out _ x wr hJs (by simp; omega)
      have htk : (keysO M P.data.toList).take (i + 1) = (keysO M P.data.toList).take i ++ [x] := by rw [List.take_succ_eq_append_getElem hiO, hx]
      simp only [encO] at hy
      have HTK := Lib.hid (And.intro htk hJs)
      have hi64 : (i : Int) < (m : Int) := by omega
      clear hst hce hx hxk hq htk b2 b3 hJs
      gi_wp2
      refine ⟨fun hx => WideF.out.free hx, hRd.mono ?_⟩
      rintro e W3 (⟨rfl, hJ3, hk3⟩ | ⟨rfl, hJx3⟩)
      · have HR3 := Lib.hid (And.intro (hRr.out.1.keep hk3.1 HT.out.1 HT.out.2.1 HT.out.2.2.1 HT.out.2.2.2.1 (fun k _ hk => HT.out.2.2.2.2 k hk)) (hRr.out.2.trans hk3))
        gi_wp2
        go_roundw
        case rel => exact ⟨i + 1, by omega, by go_num, by rw [HTK.out.1]; exact hJ3, HR3⟩
        case measure => simp [intOf]; omega
      · gi_wp2
        refine bodyPost_ret (results_none rfl _ _ _) rfl ?_
        exact ⟨⟨_, rfl⟩, .inr ⟨_, List.take_prefix _ _, by rw [HTK.out.1]; exact hJx3⟩⟩
    · obtain rfl : i = m := by omega
      gi_wp2
      go_end0
      exact ⟨⟨_, rfl⟩, .inl ⟨_, rfl, by rwa [List.take_of_length_le (by rw [keysO_length, ← HM.out]; exact Nat.le_refl _)] at hJs⟩⟩
theorem ItO.below {F : Nat → Prop} {rb mb : Nat} {M : Tab} {T : TypeId} {rest : List Value} {P : ByteArray} {Bp Bq n : Nat} {D : DataW Value} {w W : World} (h : ItO F rb mb M T rest P Bp Bq n D w) (hF : ∀ k, F k → k < w.heap.size) (hb : Below w.heap.size w W) : ItO F rb mb M T rest P Bp Bq n D W := by
  have h1 := World.block_lt_of_cell? _ _ h.box
  have h2 := World.block_lt_of_cell? _ _ h.bq
  have h3 := h.rw.lt
  simp only at h1 h2
  exact h.keep (Fr.ofBelow hb) (fun h => by omega) (fun h => by omega) (fun h => by omega) (fun h => by omega) (fun k hk hF' h => by omega)
theorem ordered_stops {T F : Nat → Prop} (n0 : Nat) (Bp Bq rb mb n : Nat) (M : Tab) (Tt : TypeId) (rest : List Value) (P : ByteArray) (D : DataW Value) (val : Bs → Value) (hval : ∀ k b, tGet M k = some b → ∀ z, D.atKey (kS k) z = .held (val k))
    (hT1 : ¬ T Bp) (hT2 : ¬ T Bq) (hT3 : ¬ T rb) (hT4 : ¬ T mb) (hT5 : ∀ k, F k → ¬ T k) (w : World) (hF : ∀ k, F k → k < w.heap.size) (hR : ItO F rb mb M Tt rest P Bp Bq n D w) :
    SeqStopsK Fence.wide n0 Tryz.prog 81 #[.pointer (some ⟨Bp, 0, none⟩), .pointer (some ⟨Bq, 0, none⟩)] (encO val) (Kp6 T) (fun ys => ys = keysO M P.data.toList) (fun pre => pre <+: keysO M P.data.toList) (keysP M P.data.toList).length w :=
  fun l J Jx W hW hJ hJx hY h0 => ordered1_in n0 l Bp Bq rb mb n M Tt rest P D val hval hT1 hT2 hT3 hT4 hT5 _ J Jx hJ hY W (hR.below hF hW) h0
set_option maxRecDepth 100000 in
theorem ordered_any (w : World) (g : Nat) (P : ByteArray) :
    Calls Tryz.prog 44 #[.pointer (some ⟨g, 0, none⟩), .string P] w fun e w' => e = .returned (.func (.func 81) #[] #[.pointer (some ⟨w.heap.size, 0, none⟩), .pointer (some ⟨w.heap.size + 1, 0, none⟩)]) ∧ w' = (w.alloc (.cells #[.pointer (some ⟨g, 0, none⟩)] 125)).alloc (.cells #[.string P] 9) := by
  go_enter Tryz.func44, Tryz.ntmps44
  go_wp2
  go_ret
  exact ⟨rfl, rfl⟩
end Go.Proofs.YtiinmilfgclddaaGreat

/- maps.Keys and slices.Sorted, of a map whose keys are ints: the shelf's contracts, in plain calls. -/
namespace Go.Proofs.YtiinmilfgclddaaGreat
open Go.RowKit Go.Maps Go.Sort Go.Shelf
set_option linter.unusedVariables false

theorem sortsP (m : Nat) : AnyZI.SortsIn Tryz.prog Tryz.sortedP_ren Fence.wide m :=
  ⟨fun blk off cap ss W hH hblk hsz => callsIn_wide.2 (Tryz.slices_Sort_int blk off cap ss W hH hblk hsz),
   fun p cap W => callsIn_wide.2 (Tryz.slices_Sort_int_none p cap W)⟩
theorem keysP_any (w : World) (b : Nat) :
    Calls Tryz.prog 163 #[.map (some b)] w fun e w' => e = .returned (.func (.func 182) #[] #[.pointer (some ⟨w.heap.size, 0, none⟩)]) ∧ w' = w.alloc (.cells #[.map (some b)] 223) :=
  (callsIn_wide (n := 5)).1 (AnyZI.keys_in Tryz.keysP Fence.wide 5 trivial rfl (some b) w)
set_option maxHeartbeats 1000000 in
theorem sortedP_any {H : Type} (b nn : Nat) (D0 : DataW H) (R : Value → Option (DataW H × List MemPlace)) (w : World) (hown : w.ownsMap Tryz.prog 3 R b nn D0) (hmax : Maps.size D0 ≤ maxLen) (hbytes : Maps.size D0 * 8 ≤ 140737488355328) :
    Calls Tryz.prog 162 #[.func (.func 182) #[] #[.pointer (some ⟨w.heap.size, 0, none⟩)]] (w.alloc (.cells #[.map (some b)] 223)) fun e w' => ∃ (v : Value) (ss : List Int), e = .returned v ∧ ss.Perm (intKeys D0) ∧
      w'.ownsRow (w.alloc (.cells #[.map (some b)] 223)).heap.size 3 1 v ss.length ((ss.mergeSort (fun x y => decide (x ≤ y))).map encZ) ∧ (v = .slice none 0 0 ↔ ss = []) ∧ Below (w.alloc (.cells #[.map (some b)] 223)).heap.size (w.alloc (.cells #[.map (some b)] 223)) w' := by
  refine (callsIn_wide (n := 5)).1 ?_
  have hbl := hown.lt
  have hseq : SeqGives Fence.wide 2 Tryz.prog 182 #[.pointer (some ⟨w.heap.size, 0, none⟩)] encZ (fun ss => ss.Perm (intKeys D0)) (Maps.size D0) (w.alloc (.cells #[.map (some b)] 223)) :=
    AnyZI.keys_gives (ρ := Tryz.keysP_ren) { Tryz.keysP with } Fence.wide _ trivial rfl (by omega) w.heap.size b nn D0 _ (by simp) (by simp) (by
      obtain ⟨es, clock, hb, Ft, hs, hD⟩ := hown
      exact ⟨es, clock, (Below.heap_alloc _ _ b hbl).trans hb, Ft, hs, hD⟩)
  exact AnyZI.sorted_in Tryz.sortedP Fence.wide 5 trivial trivial trivial trivial rfl (by omega) (sortsP _) (enters_of Tryz.func181 (by kernel_rfl) rfl) 182 #[.pointer (some ⟨w.heap.size, 0, none⟩)] trivial (enters_of Tryz.func182 (by kernel_rfl) rfl) _ _ hmax hbytes _ hseq
end Go.Proofs.YtiinmilfgclddaaGreat

/- The plain side of a journal: what is kept of it, behind an Append, a Switch, and behind a crash amid one. No program. -/
namespace Go.Proofs.YtiinmilfgclddaaGreat
set_option linter.unusedVariables false

/-- Where an area begins. -/
def areaAt (L A n : Nat) : Nat := 64 * (1 + L + n * A)
/-- K, s sectors, is a journal's, of L sectors of log, A of an area: its head, its area's bytes, its records. -/
structure Kp (K : List UInt8) (L A s : Nat) (h : Hd) (B : List UInt8) (R : List (List UInt8)) : Prop where
  len : K.length = 64 * s
  shape : 1 + L + 2 * A ≤ s ∧ s ≤ 8192
  head : secAt K 0 = h.sec
  right : h.Right L A
  area : cut4 K (areaAt L A h.area) h.size = B
  recs : cut4 K 64 h.used = recsB R
theorem area_in {L A s n z : Nat} (hs : 1 + L + 2 * A ≤ s) (hn : n ≤ 1) (hz : z ≤ 64 * A) : areaAt L A n + z ≤ 64 * s := by
  unfold areaAt
  rcases (show n = 0 ∨ n = 1 by omega) with rfl | rfl <;> omega
/-- It is kept where the head, the records, the area stand as they stood. -/
theorem Kp.keep {K M : List UInt8} {L A s : Nat} {h : Hd} {B : List UInt8} {R : List (List UInt8)} (k : Kp K L A s h B R) (hM : M.length = 64 * s)
    (he : ∀ j, j < 64 * s → (j < 64 + h.used ∨ (areaAt L A h.area ≤ j ∧ j < areaAt L A h.area + h.size)) → M[j]? = K[j]?) : Kp M L A s h B R := by
  have ha := area_in k.shape.1 k.right.area k.right.size
  have hu := k.right.used
  have hsh := k.shape.1
  refine ⟨hM, k.shape, ?_, k.right, ?_, ?_⟩
  · rw [← k.head]
    apply List.ext_getElem?
    intro r
    by_cases hr : r < 64
    · rw [secAt_get _ _ _ hr, secAt_get _ _ _ hr, he _ (by omega) (.inl (by omega))]
    · rw [List.getElem?_eq_none (by rw [secAt_length M s 0 hM (by omega)]; omega), List.getElem?_eq_none (by rw [secAt_length K s 0 k.len (by omega)]; omega)]
  · rw [← k.area]
    exact cut4_congr K M _ _ (by rw [k.len]; exact ha) (by rw [hM]; exact ha) (fun j h1 h2 => he j (by omega) (.inr ⟨h1, h2⟩))
  · rw [← k.recs]
    exact cut4_congr K M _ _ (by rw [k.len]; omega) (by rw [hM]; omega) (fun j h1 h2 => he j (by omega) (.inl (by omega)))
/-- Bytes at a place that does not count: whatever is kept of their sectors, it is the same journal. -/
theorem Kp.part {K : List UInt8} {L A s : Nat} {h : Hd} {B : List UInt8} {R : List (List UInt8)} (k : Kp K L A s h B R) (o : Nat) (X : List UInt8) (ho : o + X.length ≤ 64 * s)
    (hout : ∀ j, (j < 64 + h.used ∨ (areaAt L A h.area ≤ j ∧ j < areaAt L A h.area + h.size)) → ¬ (o ≤ j ∧ j < o + X.length)) (f : Nat → Bool) (qs : List Pend) (hq : qs <+: secsOf (over4 K o X) (firstSec o) (manySecs o X.length)) :
    Kp (wakeL f 0 qs K) L A s h B R := by
  have hl := over4_length K o X (by rw [k.len]; exact ho)
  rw [k.len] at hl
  rcases manySecs_le s o X.length ho with hm | hm
  · have hr : Pends s qs := fun p hp => secsOf_right _ s _ _ hl hm p (hq.subset hp)
    refine k.keep (wakeL_length f s qs 0 K hr k.len) fun j hj hc => part_secsOf f K _ s _ _ k.len hl hm qs hq j hj ?_
    rw [over4_get K o X (by rw [k.len]; exact ho), if_neg (hout j hc)]
  · have hq0 : qs = [] := by
      have : secsOf (over4 K o X) (firstSec o) (manySecs o X.length) = [] := by simp [secsOf, manySecs, hm]
      rw [this] at hq
      exact List.prefix_nil.1 hq
    subst hq0
    exact k
/-- All of them kept. -/
theorem Kp.put_all {K : List UInt8} {s o : Nat} {X : List UInt8} (hK : K.length = 64 * s) (ho : o + X.length ≤ 64 * s) : putAll4 (secsOf (over4 K o X) (firstSec o) (manySecs o X.length)) K = over4 K o X := by
  have hl := over4_length K o X (by rw [hK]; exact ho)
  rw [hK] at hl
  rcases manySecs_le s o X.length ho with hm | hm
  · exact put_secsOf K _ s _ _ hK hl hm (fun c hc hn => over4_sec K s o X hK ho c hc hn)
  · have : X = [] := List.eq_nil_of_length_eq_zero hm
    subst this
    simp [putAll4, secsOf, manySecs, wakeL, over4]
theorem Kp.over {K : List UInt8} {L A s : Nat} {h : Hd} {B : List UInt8} {R : List (List UInt8)} (k : Kp K L A s h B R) (o : Nat) (X : List UInt8) (ho : o + X.length ≤ 64 * s)
    (hout : ∀ j, (j < 64 + h.used ∨ (areaAt L A h.area ≤ j ∧ j < areaAt L A h.area + h.size)) → ¬ (o ≤ j ∧ j < o + X.length)) : Kp (over4 K o X) L A s h B R :=
  k.keep (by rw [over4_length K o X (by rw [k.len]; exact ho)]; exact k.len) fun j hj hc => by rw [over4_get K o X (by rw [k.len]; exact ho), if_neg (hout j hc)]
/-- A byte behind the head's sector is not turned by a head. -/
theorem putSec_behind (K : List UInt8) (s : Nat) (b : List UInt8) (hK : K.length = 64 * s) (hs : 1 ≤ s) (hb : b.length = 64) (j : Nat) (hj : 64 ≤ j) : (putSec K 0 b)[j]? = K[j]? := by
  rw [putSec_get K s 0 b hK (by omega) hb, if_neg (by omega)]
theorem cut4_behind (K : List UInt8) (s : Nat) (b : List UInt8) (hK : K.length = 64 * s) (hs : 1 ≤ s) (hb : b.length = 64) (o n : Nat) (ho : 64 ≤ o) (hn : o + n ≤ 64 * s) : cut4 (putSec K 0 b) o n = cut4 K o n :=
  cut4_congr K _ o n (by rw [hK]; exact hn) (by rw [putSec_length K s 0 b hK (by omega) hb]; exact hn) (fun j h1 h2 => putSec_behind K s b hK hs hb j (by omega))
/-- Appended. -/
theorem Kp.append {K : List UInt8} {L A s : Nat} {h : Hd} {B : List UInt8} {R : List (List UInt8)} (k : Kp K L A s h B R) (r : List UInt8) (hr : h.used + (recB r).length ≤ 64 * L) (hn : h.round < 1099511627776) :
    Kp (putSec (over4 K (64 + h.used) (recB r)) 0 (Hd.sec ⟨h.area, h.size, h.used + (recB r).length, h.round + 1⟩)) L A s ⟨h.area, h.size, h.used + (recB r).length, h.round + 1⟩ B (R ++ [r]) := by
  have hsh := k.shape.1
  have ha := area_in k.shape.1 k.right.area k.right.size
  have hu := k.right.used
  have ho : 64 + h.used + (recB r).length ≤ 64 * s := by omega
  have hl := over4_length K (64 + h.used) (recB r) (by rw [k.len]; exact ho)
  rw [k.len] at hl
  have hsl := Hd.sec_length ⟨h.area, h.size, h.used + (recB r).length, h.round + 1⟩
  have ha2 : 64 + 64 * L ≤ areaAt L A h.area := by unfold areaAt; rw [Nat.mul_add, Nat.mul_add]; omega
  refine ⟨putSec_length _ s 0 _ hl (by omega) hsl, k.shape, ?_, ⟨k.right.area, k.right.size, hr, by simp only; have := k.right.round; omega⟩, ?_, ?_⟩
  · rw [secAt_put _ s 0 _ hl (by omega) hsl 0 (by omega), if_pos rfl]
  · rw [cut4_behind _ s _ hl (by omega) hsl _ _ (by omega) ha, ← k.area]
    exact cut4_congr K _ _ _ (by rw [k.len]; exact ha) (by rw [hl]; exact ha) (fun j h1 h2 => by rw [over4_get K _ _ (by rw [k.len]; exact ho), if_neg (by omega)])
  · rw [cut4_behind _ s _ hl (by omega) hsl _ _ (Nat.le_refl _) (by simp only; omega), recsB_snoc, ← k.recs]
    exact cut4_more K 64 h.used (recB r) (by rw [k.len]; exact ho)
/-- Switched. -/
theorem Kp.switch {K : List UInt8} {L A s : Nat} {h : Hd} {B : List UInt8} {R : List (List UInt8)} (k : Kp K L A s h B R) (X : List UInt8) (hX : X.length ≤ 64 * A) (hn : h.round < 1099511627776) :
    Kp (putSec (over4 K (areaAt L A (1 - h.area)) X) 0 (Hd.sec ⟨1 - h.area, X.length, 0, h.round + 1⟩)) L A s ⟨1 - h.area, X.length, 0, h.round + 1⟩ X [] := by
  have hsh := k.shape.1
  have ho := area_in (n := 1 - h.area) k.shape.1 (by omega) hX
  have hl := over4_length K (areaAt L A (1 - h.area)) X (by rw [k.len]; exact ho)
  rw [k.len] at hl
  have hsl := Hd.sec_length ⟨1 - h.area, X.length, 0, h.round + 1⟩
  have ha2 : 64 ≤ areaAt L A (1 - h.area) := by unfold areaAt; rw [Nat.mul_add, Nat.mul_add]; omega
  refine ⟨putSec_length _ s 0 _ hl (by omega) hsl, k.shape, ?_, ⟨by simp only; omega, hX, Nat.zero_le _, by simp only; have := k.right.round; omega⟩, ?_, ?_⟩
  · rw [secAt_put _ s 0 _ hl (by omega) hsl 0 (by omega), if_pos rfl]
  · rw [cut4_behind _ s _ hl (by omega) hsl _ _ ha2 ho]
    exact cut4_over K _ X (by rw [k.len]; exact ho)
  · simp [cut4, recsB]
/-- Where a Switch writes, nothing counts; nor where an Append does. -/
theorem Kp.switch_out {K : List UInt8} {L A s : Nat} {h : Hd} {B : List UInt8} {R : List (List UInt8)} (k : Kp K L A s h B R) (n : Nat) (hn : n ≤ 64 * A) (j : Nat) (hj : j < 64 + h.used ∨ (areaAt L A h.area ≤ j ∧ j < areaAt L A h.area + h.size)) : ¬ (areaAt L A (1 - h.area) ≤ j ∧ j < areaAt L A (1 - h.area) + n) := by
  have h1 := k.right.area
  have h2 := k.right.size
  have h3 := k.right.used
  unfold areaAt at *
  rcases (show h.area = 0 ∨ h.area = 1 by omega) with e | e <;> rw [e] at hj ⊢ <;> omega
theorem Kp.append_out {K : List UInt8} {L A s : Nat} {h : Hd} {B : List UInt8} {R : List (List UInt8)} (k : Kp K L A s h B R) (n : Nat) (hn : h.used + n ≤ 64 * L) (j : Nat) (hj : j < 64 + h.used ∨ (areaAt L A h.area ≤ j ∧ j < areaAt L A h.area + h.size)) : ¬ (64 + h.used ≤ j ∧ j < 64 + h.used + n) := by
  have ha2 : 64 + 64 * L ≤ areaAt L A h.area := by unfold areaAt; rw [Nat.mul_add, Nat.mul_add]; omega
  omega
end Go.Proofs.YtiinmilfgclddaaGreat

/- The plain side of the redo journal: a commit that is done is there; one that was crashed leaves what was ahead of it, or what is behind it. No program. -/
namespace Go.Proofs.YtiinmilfgclddaaGreat
set_option linter.unusedVariables false

/-- The sectors that bytes at a place come to. -/
abbrev secsAt (K : List UInt8) (o : Nat) (X : List UInt8) : List Pend := secsOf (over4 K o X) (firstSec o) (manySecs o X.length)
theorem secsAt_right {K : List UInt8} {s o : Nat} {X : List UInt8} (hK : K.length = 64 * s) (ho : o + X.length ≤ 64 * s) : Pends s (secsAt K o X) := by
  have hl := over4_length K o X (by rw [hK]; exact ho)
  rw [hK] at hl
  rcases manySecs_le s o X.length ho with hm | hm
  · exact secsOf_right _ s _ _ hl hm
  · intro p hp
    simp [secsAt, secsOf, manySecs, hm] at hp
theorem Kp.redo {d : Dv} {L A s : Nat} {h h' : Hd} {B B' : List UInt8} {R R' : List (List UInt8)} (k : Kp d.all L A s h B R) (o : Nat) (X : List UInt8) (ho : o + X.length ≤ 64 * s)
    (hout : ∀ j, (j < 64 + h.used ∨ (areaAt L A h.area ≤ j ∧ j < areaAt L A h.area + h.size)) → ¬ (o ≤ j ∧ j < o + X.length))
    (hnew : Kp (putSec (over4 d.all o X) 0 h'.sec) L A s h' B' R') (hd : d.down = false) (hw : d.waits = []) :
    ((d.commit s (secsAt d.all o X) h'.sec).1 = 0 → Kp (d.commit s (secsAt d.all o X) h'.sec).2.all L A s h' B' R') ∧
    ((d.commit s (secsAt d.all o X) h'.sec).1 ≠ 0 → (d.commit s (secsAt d.all o X) h'.sec).1 = 10 ∧ (d.commit s (secsAt d.all o X) h'.sec).2.down = true ∧
      ∀ keep, Kp ((d.commit s (secsAt d.all o X) h'.sec).2.wake keep).2.all L A s h B R ∨ Kp ((d.commit s (secsAt d.all o X) h'.sec).2.wake keep).2.all L A s h' B' R') := by
  have hs : 1 ≤ s := by have := k.shape.1; omega
  have hp := secsAt_right k.len ho
  have hh := h'.sec_length
  have hall : putAll4 (secsAt d.all o X) d.all = over4 d.all o X := Kp.put_all k.len ho
  refine ⟨fun h0 => ?_, fun h0 => ?_⟩
  · rcases Dv.commit_cases d s hs _ h'.sec hd hw hp hh with ⟨_, a2, _⟩ | ⟨_, b1, _⟩
    · rw [a2, hall]
      exact hnew
    · rw [b1] at h0
      exact absurd h0 (by decide)
  · have hc := Dv.commit_cases d s hs _ h'.sec hd hw hp hh
    have hb : (d.commit s (secsAt d.all o X) h'.sec).1 = 10 ∧ (d.commit s (secsAt d.all o X) h'.sec).2.down = true := by
      rcases hc with ⟨a1, _⟩ | ⟨_, b1, b2, _⟩
      · exact absurd a1 h0
      · exact ⟨b1, b2⟩
    refine ⟨hb.1, hb.2, fun keep => ?_⟩
    obtain ⟨_, _, _, _, _, hk⟩ := Dv.commit_woken d s hs _ h'.sec keep hd hw hp hh h0
    rcases hk with ⟨qs, hq, e⟩ | e | e
    · rw [e]
      exact .inl (k.part o X ho hout _ qs hq)
    · rw [e, hall]
      exact .inl (k.over o X ho hout)
    · rw [e, hall]
      exact .inr hnew
/-- A new journal: a head alone, on a device that nothing was done to. -/
theorem cut4_zero (K : List UInt8) (o : Nat) : cut4 K o 0 = [] := by simp [cut4]
theorem Kp.formatted {K : List UInt8} {L A s : Nat} (hK : K.length = 64 * s) (hs : 1 + L + 2 * A ≤ s ∧ s ≤ 8192) : Kp (putSec K 0 (Hd.sec ⟨0, 0, 0, 1⟩)) L A s ⟨0, 0, 0, 1⟩ [] [] := by
  have hsl := Hd.sec_length ⟨0, 0, 0, 1⟩
  refine ⟨putSec_length _ s 0 _ hK (by omega) hsl, hs, ?_, ⟨Nat.zero_le _, Nat.zero_le _, Nat.zero_le _, ⟨Nat.le_refl _, by decide⟩⟩, cut4_zero _ _, ?_⟩
  · rw [secAt_put _ s 0 _ hK (by omega) hsl 0 (by omega), if_pos rfl]
  · rw [cut4_zero]
    rfl
end Go.Proofs.YtiinmilfgclddaaGreat

/- A map of ints to slices of bytes, written key by key: what it reads as. No program but its types. -/
namespace Go.Proofs.YtiinmilfgclddaaGreat
open Go.RowKit Go.Maps Go.Sort Go.Shelf
set_option linter.unusedVariables false

def heldR : Value → Option (DataW Value × List MemPlace) := fun v => some (.held v, [])
def keyN (a i : Nat) : Lit := .int .i64 ((a + i : Nat) : Int)
theorem keyN_inj {a i j : Nat} (h : keyN a i = keyN a j) : i = j := by
  simp only [keyN, Lit.int.injEq, true_and] at h
  omega
theorem keyN_lit (a i : Nat) : WideAt.IsKeyLit (keyN a i) := by simp [keyN, WideAt.IsKeyLit]
/-- The keys a, a + 1 .. with these values. -/
def mD (a : Nat) (vs : Nat → Value) : Nat → DataW Value
  | 0 => .map []
  | n + 1 => (mD a vs n).put (keyN a n) (.held (vs n))
theorem mD_congr (a : Nat) (vs us : Nat → Value) : ∀ n, (∀ i, i < n → vs i = us i) → mD a vs n = mD a us n
  | 0, _ => rfl
  | n + 1, h => by rw [mD, mD, mD_congr a vs us n (fun i hi => h i (by omega)), h n (by omega)]
theorem mD_isMap (a : Nat) (vs : Nat → Value) : ∀ n, IsMap (mD a vs n)
  | 0 => ⟨_, rfl⟩
  | n + 1 => (mD_isMap a vs n).put _ _
theorem mD_at (a : Nat) (vs : Nat → Value) (z : DataW Value) : ∀ n i, i < n → (mD a vs n).atKey (keyN a i) z = .held (vs i)
  | n + 1, i, h => by
    rw [mD]
    by_cases e : i = n
    · subst e
      exact atKey_put_same (mD_isMap a vs i) (keyN_lit a i) _ _
    · rw [atKey_put_other (fun h => e (keyN_inj h))]
      exact mD_at a vs z n i (by omega)
theorem insert_perm5 {H : Type} (x : Lit × DataW H) : ∀ l : List (Lit × DataW H), (DataW.insert x l).Perm (x :: l)
  | [] => .refl _
  | y :: r => by
    unfold DataW.insert
    split
    · exact .refl _
    · exact ((insert_perm5 x r).cons y).trans (.swap x y r)
theorem mD_keys (a : Nat) (vs : Nat → Value) : ∀ n, ∃ es, mD a vs n = .map es ∧ (es.map (·.1)).Perm ((List.range n).map (keyN a))
  | 0 => ⟨[], rfl, by simp⟩
  | n + 1 => by
    obtain ⟨es, he, hp⟩ := mD_keys a vs n
    have hf : es.filter (fun p => !p.1.sameKey (keyN a n)) = es := by
      rw [List.filter_eq_self]
      intro p hm
      have h1 : p.1 ∈ (List.range n).map (keyN a) := hp.subset (List.mem_map_of_mem hm)
      obtain ⟨i, hi, e⟩ := List.mem_map.1 h1
      rw [← e, sameKey_ne (fun h => by have := keyN_inj h; have := List.mem_range.1 hi; omega)]
      rfl
    refine ⟨DataW.insert (keyN a n, .held (vs n)) es, ?_, ?_⟩
    · rw [mD, he, DataW.put, hf]
    · refine ((insert_perm5 _ es).map _).trans ?_
      rw [List.map_cons, List.range_succ, List.map_append]
      exact (hp.cons _).trans (List.perm_append_singleton _ _).symm
theorem mD_size (a : Nat) (vs : Nat → Value) (n : Nat) : Maps.size (mD a vs n) = n := by
  obtain ⟨es, he, hp⟩ := mD_keys a vs n
  rw [he, size_eq]
  have := hp.length_eq
  simpa using this
/-- Its keys, sorted. -/
theorem mD_sorted (a : Nat) (vs : Nat → Value) (n : Nat) (ss : List Int) (h : ss.Perm (intKeys (mD a vs n))) : ss.mergeSort (fun x y => decide (x ≤ y)) = (List.range n).map (fun i => ((a + i : Nat) : Int)) := by
  obtain ⟨es, he, hp⟩ := mD_keys a vs n
  rw [he] at h
  have h1 : (intKeys (.map es)).Perm ((List.range n).map (fun i => ((a + i : Nat) : Int))) := by
    have h2 := hp.map Go.intOf
    rw [List.map_map, List.map_map] at h2
    exact h2
  rw [mergeSort_of_perm_i (h.trans h1)]
  refine List.mergeSort_of_pairwise ?_
  rw [List.pairwise_map]
  refine List.Pairwise.imp_of_mem ?_ List.pairwise_lt_range
  intro i j _ _ hij
  simp only [decide_eq_true_eq]
  omega
theorem mD_count (a : Nat) (vs : Nat → Value) (n : Nat) (ss : List Int) (h : ss.Perm (intKeys (mD a vs n))) : ss.length = n := by
  have := congrArg List.length (mD_sorted a vs n ss h)
  simpa using this
/-- What is looked up. -/
theorem mD_lookup {w : World} {b nn a n : Nat} {vs : Nat → Value} (h : w.ownsMap Tryz.prog 3 heldR b nn (mD a vs n)) (i : Nat) (hi : i < n) (hb : a + n ≤ 1000000) :
    (Instr.lookup 223 (.map (some b)) (.int .i64 ((a + i : Nat) : Int)) false).run Tryz.prog w = .ok (vs i) w := by
  obtain ⟨v, ps, hr, hv⟩ := h.lookup (t := 223) (e := 43) (int_keyed Tryz.underlying3) Tryz.underlying223 (z := .slice none 0 0) (by kernel_rfl) (zd := .held (.slice none 0 0)) (zp := []) rfl (key := .int .i64 ((a + i : Nat) : Int)) (kl := keyN a i) (keyOf_int_mk Tryz.underlying3 (WalkArith.wf_i64 (by omega)))
  rw [mD_at a vs _ n i hi, heldR] at hv
  simp only [Option.some.injEq, Prod.mk.injEq, DataW.held.injEq] at hv
  rw [← hv.1]
  exact hr
end Go.Proofs.YtiinmilfgclddaaGreat

/- Contract: log.laid: the sectors in which bytes come to lie. -/
namespace Go.Proofs.YtiinmilfgclddaaGreat
open Go.RowKit Go.ChangeShapes
set_option linter.unusedVariables false

/-- How many bytes are through behind k sectors. -/
def cAt (o n k : Nat) : Nat := min n (64 * (o / 64 + k) - o)
theorem cAt_zero (o n : Nat) : cAt o n 0 = 0 := by unfold cAt; omega
theorem cAt_le (o n k : Nat) : cAt o n k ≤ n := by unfold cAt; omega
theorem cAt_many (o n k : Nat) (h : cAt o n k < n) : k + 1 ≤ manySecs o n := by
  unfold cAt at h
  unfold manySecs
  rw [if_neg (by omega)]
  omega
theorem cAt_done (o n k : Nat) (hk : k ≤ manySecs o n) (h : cAt o n k = n) : k = manySecs o n := by
  unfold cAt at h
  unfold manySecs at hk ⊢
  split
  · rename_i h0
    rw [if_pos h0] at hk
    omega
  · rename_i h0
    rw [if_neg h0] at hk
    omega
theorem cAt_sec (o n k : Nat) (h : cAt o n k < n) : (o + cAt o n k) / 64 = o / 64 + k := by unfold cAt at *; omega
theorem cAt_succ (o n k : Nat) (h : cAt o n k < n) : cAt o n k + min (64 - (o + cAt o n k) % 64) (n - cAt o n k) = cAt o n (k + 1) := by unfold cAt at *; omega
/-- A sector behind the copy. -/
theorem laid_sec (K : List UInt8) (s o k : Nat) (X : List UInt8) (hK : K.length = 64 * s) (ho : o + X.length ≤ 64 * s) (h : cAt o X.length k < X.length) (c r m : Nat) (hc : c = cAt o X.length k) (hr : r = (o + c) % 64) (hm : m = min (64 - r) (X.length - c)) :
    (secAt K (o / 64 + k)).take r ++ (X.drop c).take m ++ (secAt K (o / 64 + k)).drop (r + m) = secAt (over4 K o X) (o / 64 + k) := by
  have hs := cAt_sec o X.length k h
  rw [← hc] at hs h
  have hq : o / 64 + k < s := by omega
  have l1 := secAt_length K s _ hK hq
  have hlo := over4_length K o X (by omega)
  have l2 := secAt_length (over4 K o X) s _ (by rw [hlo]; exact hK) hq
  have h0 : r = 0 ∨ c = 0 := by unfold cAt at hc; omega
  obtain ⟨q, hqe⟩ : ∃ q, q = o / 64 + k := ⟨_, rfl⟩
  rw [← hqe] at hs hq l1 l2 ⊢
  have hoc : o + c = 64 * q + r := by omega
  have hr64 : r < 64 := by omega
  have e1 : ((secAt K q).take r).length = r := by rw [List.length_take]; omega
  have e2 : ((X.drop c).take m).length = m := by rw [List.length_take, List.length_drop]; omega
  apply List.ext_getElem?
  intro j
  by_cases hj : j < 64
  · rw [secAt_get _ _ _ hj, over4_get K o X (by omega)]
    by_cases hj1 : j < r
    · rw [List.append_assoc, List.getElem?_append_left (by omega), List.getElem?_take, if_pos hj1, secAt_get _ _ _ hj, if_neg (by omega)]
    · by_cases hj2 : j < r + m
      · rw [List.append_assoc, List.getElem?_append_right (by omega), e1, List.getElem?_append_left (by omega), List.getElem?_take, if_pos (by omega), List.getElem?_drop, if_pos (by omega)]
        congr 1
        omega
      · rw [List.getElem?_append_right (by rw [List.length_append]; omega), List.length_append, e1, e2, List.getElem?_drop, secAt_get _ _ _ (by omega), if_neg (by omega)]
        congr 1
        omega
  · rw [List.getElem?_eq_none (by simp only [List.length_append, List.length_drop, e1, e2]; omega), List.getElem?_eq_none (by omega)]
theorem op_slice_lo5 (w : World) (g cap r : Nat) (hr : r < 64) (hc : 64 ≤ cap) : (Instr.slice 43 (.slice (some ⟨g, 0, none⟩) 64 cap) (some (.int .i64 (r : Int))) none none).run Tryz.prog w = .ok (.slice (some ⟨g, r, none⟩) (64 - r) (cap - r)) w := by
  rw [run_cutLow w (some ⟨g, 0, none⟩) 64 cap r (by omega), cutLow]
  split
  · omega
  · rw [Option.map_some, addr_plain, Nat.zero_add]
theorem take_map_get {X : List UInt8} {m j : Nat} {u : Value} (h : ((X.take m).map bv)[j]? = some u) : (X.map bv)[j]? = some u := by
  rw [List.map_take, List.getElem?_take] at h
  split at h
  · exact h
  · cases h
/-- copy into the rest of a sector that was told. -/
theorem copy_told {G : Nat → Prop} (w : World) (g : Nat) (T : TypeId) (C : Array Value) (L X : List UInt8) (vb : Value) (cap r m : Nat) (hC : w.heap[g]? = some (.cells C T (0, 0))) (hCs : C.size = cap) (hL : L.length = 64) (hc : 64 ≤ cap) (hCL : C.toList.take 64 = L.map bv) (hr : r < 64) (hb : BytesIn G w vb X) (hX : X ≠ []) (hm : m = min (64 - r) X.length) :
    ∃ w' C', (∀ ty, (Builtin.copy_ #[43, 43] ty #[.slice (some ⟨g, r, none⟩) (64 - r) (cap - r), vb]).run Tryz.prog w = .ok (.int .i64 m) w') ∧ w'.heap[g]? = some (.cells C' T (0, 0)) ∧ C'.size = cap ∧ C'.toList.take 64 = ((L.take r ++ X.take m ++ L.drop (r + m)).map bv) ∧ Fr (· = g) w w' := by
  obtain ⟨ao, capx, rfl, h1, h2, h3, h4⟩ := hb
  cases ao with
  | none =>
    exfalso
    have := h3 rfl
    exact hX (List.eq_nil_of_length_eq_zero (by omega))
  | some ad =>
    have hcl : ((X.take m).map bv).length = m := by rw [List.length_map, List.length_take]; omega
    have hrun := fun ty => run_copy_row (P := Tryz.prog) w 43 43 ty 5 g r (64 - r) (cap - r) ad X.length capx C T ((X.take m).map bv) Tryz.underlying43 (by kernel_rfl) hC (by rw [hcl, hm]; exact Nat.min_comm _ _)
      (fun j u hu => (h4 ad rfl).1 j u (take_map_get hu)) (by rw [hcl]; omega) (bv_one _)
    have hCl : C.toList.length = cap := by rw [Array.length_toList]; exact hCs
    refine ⟨_, _, fun ty => by rw [hrun ty, hcl]; rfl, setRow_heap w g _ _ _ (0, 0) hC, ?_, ?_, (Fr.refl (· = g) w).setRow (.inl rfl) _⟩
    · simp only [List.size_toArray, List.length_append, List.length_take, List.length_drop, hcl, hCl]
      omega
    · have d1 : C.toList.take r = (L.take r).map bv := by
        rw [List.map_take, ← hCL, List.take_take, Nat.min_eq_left (by omega)]
      have d2 : (C.toList.drop (r + m)).take (64 - (r + m)) = (L.drop (r + m)).map bv := by
        rw [List.map_drop, ← hCL, List.drop_take]
      rw [List.map_append, List.map_append, ← d1, ← d2]
      have hl1 : (C.toList.take r).length = r := by rw [List.length_take]; omega
      rw [List.take_append, List.take_of_length_le (by rw [List.length_append, hl1, hcl]; omega), List.length_append, hl1, hcl]
end Go.Proofs.YtiinmilfgclddaaGreat

