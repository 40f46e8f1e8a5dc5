/- Laid together: BPuts BWMid -/
import Derived.Test.YtcbbcihfooaggaaBw22

namespace Go.Proofs.Ytcbbcihfooaggaa
open Go.RowKit Go.ChangeShapes Go.WideShapes Go.Deep
set_option linter.unusedVariables false
structure PutD where
  vb : Value
  B : List UInt8
  vr : Value
  R : List Rn
  many : Int
  n : Int
def IntOk (n : Int) : Prop := -9223372036854775808 ≤ n ∧ n ≤ 9223372036854775807
structure PutAt (F : Nat → Prop) (w : World) (b o : Nat) (p : PutD) : Prop where
  cb : w.cell? ⟨b, o, none⟩ = some p.vb
  cr : w.cell? ⟨b, o + 1, none⟩ = some p.vr
  cm : w.cell? ⟨b, o + 2, none⟩ = some (.int .i64 p.many)
  cn : w.cell? ⟨b, o + 3, none⟩ = some (.int .i64 p.n)
  bytes : BytesIn F w p.vb p.B
  runs : RnsIn F w p.vr p.R
  in_ : F b
  wf : IntOk p.many ∧ IntOk p.n
theorem PutAt.keep {F S : Nat → Prop} {w w' : World} {b o : Nat} {p : PutD} (h : PutAt F w b o p) (hf : Fr S w w') (hd : ∀ k, k < w.heap.size → F k → ¬ S k) : PutAt F w' b o p := by
  have hb : ¬ S b := hd b (World.block_lt_of_cell? _ _ h.cb) h.in_
  exact ⟨hf.cell h.cb hb, hf.cell h.cr hb, hf.cell h.cm hb, hf.cell h.cn hb, h.bytes.keep hf hd, h.runs.keep hf hd, h.in_, h.wf⟩
def PutsIn (F : Nat → Prop) (w : World) (v : Value) (l : List PutD) : Prop :=
  ∃ ao cap, v = .slice ao l.length cap ∧ l.length ≤ cap ∧ l.length * 64 ≤ 140737488351232 ∧ (∀ p ∈ l, p.B.length ≤ 140737488351232 ∧ p.R.length * 16 ≤ 140737488351232) ∧
    (l ≠ [] → ∃ b off, ao = some ⟨b, off, none⟩ ∧ ∀ i (h : i < l.length), PutAt F w b (off + i * 4) l[i])
theorem PutsIn.keep {F S : Nat → Prop} {w w' : World} {v : Value} {l : List PutD} (h : PutsIn F w v l) (hf : Fr S w w') (hd : ∀ k, k < w.heap.size → F k → ¬ S k) : PutsIn F w' v l := by
  obtain ⟨ao, cap, hv, h1, h2, h3, h4⟩ := h
  refine ⟨ao, cap, hv, h1, h2, h3, fun hl => ?_⟩
  obtain ⟨b, off, ha, hi⟩ := h4 hl
  exact ⟨b, off, ha, fun i h => (hi i h).keep hf hd⟩
theorem PutsIn.mono {F G : Nat → Prop} {w : World} {v : Value} {l : List PutD} (h : PutsIn F w v l) (hd : ∀ k, k < w.heap.size → F k → G k) : PutsIn G w v l := by
  obtain ⟨ao, cap, hv, h1, h2, h3, h4⟩ := h
  refine ⟨ao, cap, hv, h1, h2, h3, fun hl => ?_⟩
  obtain ⟨b, off, ha, hi⟩ := h4 hl
  exact ⟨b, off, ha, fun i h => let p := hi i h; ⟨p.cb, p.cr, p.cm, p.cn, p.bytes.mono hd, p.runs.mono hd, hd b (World.block_lt_of_cell? _ _ p.cb) p.in_, p.wf⟩⟩
def PutD.len (p : PutD) : Nat := p.B.length + 10 * p.R.length
def putsLen (l : List PutD) : Nat := (l.map PutD.len).sum
theorem putsLen_succ (l : List PutD) (k : Nat) (h : k < l.length) : putsLen (l.take (k + 1)) = putsLen (l.take k) + l[k].len := by
  unfold putsLen
  rw [List.take_succ_eq_append_getElem h, List.map_append, List.sum_append]
  congr 1
theorem putsLen_mem : ∀ (l : List PutD) (p : PutD), p ∈ l → p.len ≤ putsLen l
  | [], p, h => by cases h
  | q :: l, p, h => by
    unfold putsLen
    rw [List.map_cons, List.sum_cons]
    rcases List.mem_cons.1 h with rfl | h
    · omega
    · have := putsLen_mem l p h
      unfold putsLen at this
      omega
section
variable {H : Type} {enc : TypeId × Value → H} {w : World} {base fuel : Nat} {held : Bool} {cs : List Value} {x : DataW H × List MemPlace}
theorem list4 {α : Type} {l : List α} (h : l.length = 4) : ∃ a b c d, l = [a, b, c, d] := by
  match l, h with
  | [a, b, c, d], _ => exact ⟨a, b, c, d, rfl⟩
theorem Try.bytesPu : Try.prog.bytesOf 42 = 64 := by kernel_rfl
theorem Try.cellsPu : Try.prog.cellsOf 42 = 4 := by kernel_rfl
theorem Try.cellsBy : Try.prog.cellsOf 40 = 1 := by kernel_rfl
theorem Try.cellsRs : Try.prog.cellsOf 24 = 1 := by kernel_rfl
theorem open_runs_le (h : DataW.trod enc Try.prog w base (fun _ => true) held fuel 24 cs = some x) (hz : ∀ n ∈ x.1.weights Try.prog 24, n ≤ reachBytes) :
    ∃ v l, cs = [v] ∧ RnsIn (fun k => k < w.heap.size) w v l ∧ l.length * 16 ≤ 140737488351232 := by
  obtain ⟨v, l, hcs, hv⟩ := open_runs h hz
  refine ⟨v, l, hcs, hv, ?_⟩
  obtain ⟨ao, cap, hs, h1, h2, -⟩ := hv.open7
  rcases open_slice Try.underlying24 h with ⟨rfl, _⟩ | ⟨a, len, cap', m, n, D, Pl, rfl, _, hl, hm, hmm, hx, hi⟩
  · simp only [List.cons.injEq, and_true] at hcs
    rw [← hcs] at hs
    simp only [Value.slice.injEq] at hs
    omega
  · simp only [if_true] at hmm
    subst hmm
    have hm2 : m * 16 ≤ 140737488351232 := by
      have := hz ((len + (m - len)) * 16) (by rw [hx]; simp [DataW.weights, Try.underlying24, Try.bytesRn])
      simp only [reachBytes] at this
      omega
    simp only [List.cons.injEq, and_true] at hcs
    rw [← hcs] at hs
    simp only [Value.slice.injEq] at hs
    omega
theorem open_put {n : Nat} {y : DataW H × List MemPlace} {b o : Nat} (hF : b < w.heap.size) (hc : ∀ i, i < 4 → w.cell? ⟨b, o + i, none⟩ = cs[i]?) (h : DataW.trod enc Try.prog w base (fun _ => true) held n 42 cs = some y)
    (hz : ∀ n ∈ y.1.weights Try.prog 42, n ≤ reachBytes) :
    ∃ p : PutD, PutAt (fun k => k < w.heap.size) w b o p ∧ p.B.length ≤ 140737488351232 ∧ p.R.length * 16 ≤ 140737488351232 := by
  obtain ⟨xs, m, _, hy, hcl, hxl, hf⟩ := DataW.trod_struct Try.underlying42 h
  rw [Try.cellsPu] at hcl
  obtain ⟨c0, c1, c2, c3, rfl⟩ := list4 hcl
  obtain ⟨y0, y1, y2, y3, rfl⟩ := list4 (l := xs) hxl
  have e0 : DataW.trod enc Try.prog w base (fun _ => true) held m 40 [c0] = some y0 := by
    have h : DataW.trod enc Try.prog w base (fun _ => true) held m 40 (([c0, c1, c2, c3].drop 0).take (Try.prog.cellsOf 40)) = some y0 := hf 0 _ rfl
    rw [Try.cellsBy] at h
    exact h
  have e1 : DataW.trod enc Try.prog w base (fun _ => true) held m 24 [c1] = some y1 := by
    have h : DataW.trod enc Try.prog w base (fun _ => true) held m 24 (([c0, c1, c2, c3].drop 1).take (Try.prog.cellsOf 24)) = some y1 := hf 1 _ rfl
    rw [Try.cellsRs] at h
    exact h
  have e2 : DataW.trod enc Try.prog w base (fun _ => true) held m 3 [c2] = some y2 := by
    have h : DataW.trod enc Try.prog w base (fun _ => true) held m 3 (([c0, c1, c2, c3].drop 2).take (Try.prog.cellsOf 3)) = some y2 := hf 2 _ rfl
    rw [Try.cellsI] at h
    exact h
  have e3 : DataW.trod enc Try.prog w base (fun _ => true) held m 3 [c3] = some y3 := by
    have h : DataW.trod enc Try.prog w base (fun _ => true) held m 3 (([c0, c1, c2, c3].drop 3).take (Try.prog.cellsOf 3)) = some y3 := hf 3 _ rfl
    rw [Try.cellsI] at h
    exact h
  obtain ⟨n2, r2, _, w2⟩ := DataW.trod_int Try.underlying3 e2
  obtain ⟨n3, r3, _, w3⟩ := DataW.trod_int Try.underlying3 e3
  simp only [List.cons.injEq, and_true] at r2 r3
  subst r2 r3
  obtain ⟨v, L, r0, hB, hL⟩ := open_bytes e0 (fun k hk => hz k (by rw [hy]; simp only [DataW.weights, Try.underlying42]; exact DataW.weights_mem_each (j := 0) (t := 40) (d := y0.1) rfl rfl k hk))
  obtain ⟨u, R, r1, hR, hRl⟩ := open_runs_le e1 (fun k hk => hz k (by rw [hy]; simp only [DataW.weights, Try.underlying42]; exact DataW.weights_mem_each (j := 1) (t := 24) (d := y1.1) rfl rfl k hk))
  simp only [List.cons.injEq, and_true] at r0 r1
  subst r0 r1
  exact ⟨⟨_, L, _, R, n2, n3⟩, ⟨hc 0 (by decide), hc 1 (by decide), hc 2 (by decide), hc 3 (by decide), hB, hR, hF, bounds_i64 w2, bounds_i64 w3⟩, hL, hRl⟩
theorem open_puts (h : DataW.trod enc Try.prog w base (fun _ => true) held fuel 39 cs = some x) (hz : ∀ n ∈ x.1.weights Try.prog 39, n ≤ reachBytes) :
    ∃ v l, cs = [v] ∧ PutsIn (fun k => k < w.heap.size) w v l := by
  rcases open_slice Try.underlying39 h with ⟨rfl, _⟩ | ⟨a, len, cap, m, n, D, Pl, rfl, _, hl, hm, hmm, hx, hi⟩
  · exact ⟨_, [], rfl, none, 0, rfl, Nat.le_refl _, by simp, by simp, fun h => absurd rfl h⟩
  · simp only [if_true] at hmm
    subst hmm
    rw [Try.cellsPu] at hi
    have hw : ∀ k ∈ DataW.weightsAll Try.prog 42 ((List.range len).map D), k ≤ reachBytes := fun k hk => hz k (by
      rw [hx]; simp only [DataW.weights, Try.underlying39, List.mem_cons, List.mem_append]; exact .inr (.inl hk))
    have hm : m * 64 ≤ 140737488351232 := by
      have := hz ((len + (m - len)) * 64) (by rw [hx]; simp [DataW.weights, Try.underlying39, Try.bytesPu])
      simp only [reachBytes] at this
      omega
    by_cases h0 : len = 0
    · subst h0
      exact ⟨_, [], rfl, some a, m, rfl, Nat.zero_le _, by simp, by simp, fun h => absurd rfl h⟩
    · obtain ⟨b, off, spot⟩ := a
      have hs : spot = none := by
        obtain ⟨cs', hc, ht⟩ := hi 0 (by omega)
        obtain ⟨_, hcl, hat⟩ := World.cells?_some hc
        have := hat 0 (by decide)
        obtain ⟨c0, c1, c2, c3, rfl⟩ := list4 hcl
        simpa [Addr.add] using World.cell?_spot this
      subst hs
      have hone : ∀ i, ∃ p : PutD, i < len → PutAt (fun k => k < w.heap.size) w b (off + i * 4) p ∧ p.B.length ≤ 140737488351232 ∧ p.R.length * 16 ≤ 140737488351232 := by
        intro i
        by_cases hil : i < len
        · obtain ⟨cs', hc, ht⟩ := hi i (by omega)
          obtain ⟨_, hcl, hat⟩ := World.cells?_some hc
          have hat' : ∀ j, j < 4 → w.cell? ⟨b, off + i * 4 + j, none⟩ = cs'[j]? := fun j hj => by
            have := hat j hj
            rwa [addr_plain, addr_plain] at this
          have hb : b < w.heap.size := by
            have := hat' 0 (by decide)
            rw [List.getElem?_eq_getElem (by omega)] at this
            exact World.block_lt_of_cell? _ _ this
          obtain ⟨p, hp⟩ := open_put hb hat' ht (fun k hk => hw k (mem_weightsAll (List.mem_map_of_mem (List.mem_range.2 hil)) k hk))
          exact ⟨p, fun _ => hp⟩
        · exact ⟨⟨.nilFunc, [], .nilFunc, [], 0, 0⟩, fun h => absurd h hil⟩
      obtain ⟨f, hf⟩ := Classical.axiomOfChoice hone
      have hlen : ((List.range len).map f).length = len := by simp
      refine ⟨_, (List.range len).map f, rfl, some ⟨b, off, none⟩, m, by rw [hlen], by rw [hlen]; exact hl, by rw [hlen]; omega, ?_, fun _ => ⟨b, off, rfl, fun i hi => ?_⟩⟩
      · intro p hp
        obtain ⟨i, hi, rfl⟩ := List.mem_map.1 hp
        exact (hf i (List.mem_range.1 hi)).2
      · have : i < len := by omega
        simpa using (hf i this).1
end
end Go.Proofs.Ytcbbcihfooaggaa
namespace Go.Proofs.Ytcbbcihfooaggaa
open Go.RowKit Go.ChangeShapes
set_option linter.unusedVariables false
theorem two_new {w0 W w3 w4 : World} {gd gr s : Nat} (hW : Fr (fun _ => False) w0 W) (h3 : DevAt w3 (fun k => W.heap.size ≤ k) gd s (Dv.new s)) (hf3 : Fr (fun _ => False) W w3) (h4 : RefAt w4 (fun k => w3.heap.size ≤ k) gr s (Dv.new s)) (hf4 : Fr (fun _ => False) w3 w4) : Two (fun _ => False) w0 w4 gd gr s (Dv.new s) (Dv.new s) := by
  refine ⟨⟨fun k => W.heap.size ≤ k ∧ k < w3.heap.size, fun k => w3.heap.size ≤ k ∧ k < w4.heap.size, (h3.mono (E := fun k => W.heap.size ≤ k ∧ k < w3.heap.size) (fun k hk h => ⟨h, hk⟩)).keep hf4 (fun _ _ _ h => h), h4.mono (fun k hk h => ⟨h, hk⟩), fun k hk hE => by have := hk.2; have := hE.1; omega, fun k hk => ⟨⟨Nat.le_trans hW.size hk.1, id⟩, Nat.lt_of_lt_of_le hk.2 hf4.size⟩, fun k hk => ⟨⟨Nat.le_trans hW.size (Nat.le_trans hf3.size hk.1), id⟩, hk.2⟩⟩, fun _ h => h.elim, (hW.trans hf3 (fun _ h => h.elim)).trans hf4 (fun _ h => h.elim)⟩
structure St7 (w0 W : World) (gd gr s i : Nat) : Prop where
  ex : ∃ d, Two (fun _ => False) w0 W gd gr s d d ∧ d.down = false ∧ d.deeds ≤ 8193 * i ∧ d.waits.length ≤ 8193 * i
theorem St7.fr {w0 W : World} {gd gr s i : Nat} (h : St7 w0 W gd gr s i) : Fr (fun _ => False) w0 W := by
  obtain ⟨d, h1, _⟩ := h.ex
  exact h1.fr
theorem PutAt.open_ {F : Nat → Prop} {w : World} {b o : Nat} {p : PutD} (h : PutAt F w b o p) : ∃ ab cb ar cr, p.vb = .slice ab p.B.length cb ∧ p.vr = .slice ar p.R.length cr := by
  obtain ⟨ab, cb, hb, _⟩ := h.bytes
  obtain ⟨ar, cr, hr, _⟩ := h.runs.open7
  exact ⟨ab, cb, ar, cr, hb, hr⟩
structure Mid7 (w0 W : World) (gd gr s za zb g3 c3 : Nat) (B : List UInt8) (d : Dv) : Prop where
  two : Two (fun k => za ≤ k ∧ k < zb) w0 W gd gr s d d
  lent : LentAt (fun k => za ≤ k ∧ k < zb) W g3 c3 B
  z0 : w0.heap.size ≤ za
theorem Mid7.turned {w0 W W' : World} {gd gr s za zb g3 c3 : Nat} {B : List UInt8} {d d' : Dv} (h : Mid7 w0 W gd gr s za zb g3 c3 B d) (ht : Two (fun k => za ≤ k ∧ k < zb) w0 W' gd gr s d' d') (hf : Fr (Bare (fun k => za ≤ k ∧ k < zb) w0) W W') : Mid7 w0 W' gd gr s za zb g3 c3 B d' :=
  ⟨ht, ⟨h.lent.1, h.lent.2.1, h.lent.2.2.keep hf (fun k _ hk hb => hb.2 hk)⟩, h.z0⟩
structure Up7 (d : Dv) (i : Nat) : Prop where
  up : d.down = false
  deeds : d.deeds ≤ 8193 * i
  waits : d.waits.length ≤ 8193 * i
def Cut7 (w0 W : World) (gd gr s i za zb g3 c3 : Nat) (B : List UInt8) : Prop := ∃ d, Mid7 w0 W gd gr s za zb g3 c3 B d ∧ Up7 d i
theorem secsS_nn (L A D : Int) : 0 ≤ secsS L A D := by
  unfold secsS
  split
  · rename_i h
    obtain ⟨l, la, d, rfl, rfl, rfl, h1, h2, h3, h4⟩ := rightS_yes h
    omega
  · exact Int.le_refl _
theorem lent_own {F : Nat → Prop} {w : World} {g c : Nat} {L : List UInt8} (h : LentAt F w g c L) : OwnB F w (.slice (some ⟨g, 0, none⟩) L.length c) L := by
  have h1 := h.2.2.head L.length (by simp) (by simp)
  rwa [List.take_left'] at h1
  rfl
section
variable {w0 W : World} {gd gr s i za zb g3 c3 : Nat} {B : List UInt8} {d : Dv}
theorem mid_tWr (hm : Mid7 w0 W gd gr s za zb g3 c3 B d) (hu : Up7 d i) (hi : i ≤ 60) (hs : 1 ≤ s ∧ s ≤ 63) (hB : B.length ≤ 4000) (L A Dt : Int) (vr : Value) (R : List Rn) (hR : RnsIn (fun k => k < w0.heap.size) W vr R) (q : Nat) (hq : q = B.length) :
    Calls Try.prog 24 #[.pointer (some ⟨gd, 0, none⟩), .agg #[.int .i64 L, .int .i64 A, .int .i64 Dt], .slice (some ⟨g3, 0, none⟩) q c3, vr] W.drew fun r w' => r = .returned (.int .i64 (wrA s d L A Dt B R).1) ∧ Two (fun k => za ≤ k ∧ k < zb) w0 w' gd gr s (wrA s d L A Dt B R).2 d ∧ Fr (Bare (fun k => za ≤ k ∧ k < zb) w0) W w' := by
  subst hq
  have h1 := hu.deeds
  have h2 := hu.waits
  refine (tWr7 w0 W.drew gd gr s d d L A Dt _ vr B R hs.1 (by omega) hu.up (by omega) (by omega) ((lent_own hm.lent).keep (Fr.refl (fun _ => False) W).drew (fun _ _ _ h => h)).bytes (by omega) (fun k hk => .inr hk) (hR.quiet (Fr.refl _ _).drew) (fun k hk => hk) (hm.two.quiet (Fr.refl _ _).drew)).mono ?_
  rintro r w' ⟨he, ht, hf⟩
  exact ⟨he, ht, hf.ofDrew⟩
theorem mid_uWr (hm : Mid7 w0 W gd gr s za zb g3 c3 B d) (hu : Up7 d i) (hi : i ≤ 60) (hs : 1 ≤ s ∧ s ≤ 63) (hB : B.length ≤ 4000) (L A Dt : Int) (vb vr : Value) (R : List Rn) (hb : BytesIn (fun k => k < w0.heap.size) W vb B) (hR : RnsIn (fun k => k < w0.heap.size) W vr R) (d2 : Dv) (w4 : World) (ht : Two (fun k => za ≤ k ∧ k < zb) w0 w4 gd gr s d2 d) (hf : Fr (Bare (fun k => za ≤ k ∧ k < zb) w0) W w4) :
    Calls Try.prog 25 #[.pointer (some ⟨gr, 0, none⟩), .agg #[.int .i64 L, .int .i64 A, .int .i64 Dt], vb, vr] w4 fun r w' => r = .returned (.int .i64 (wrA s d L A Dt B R).1) ∧ Two (fun k => za ≤ k ∧ k < zb) w0 w' gd gr s d2 (wrA s d L A Dt B R).2 ∧ Fr (Bare (fun k => za ≤ k ∧ k < zb) w0) w4 w' := by
  have h1 := hu.deeds
  have h2 := hu.waits
  exact uWr7 w0 w4 gd gr s d2 d L A Dt vb vr B R (by omega) hu.up (by omega) (by omega) (hb.keep hf (fun k _ hk h => by have := h.1; omega)) (by omega) (fun k hk => .inl hk) (hR.keep hf (fun k _ hk h => by have := h.1; omega)) (fun k hk => hk) ht
theorem mid_kept (hm : Mid7 w0 W gd gr s za zb g3 c3 B d) (hB : B.length ≤ 4000) (vb : Value) (hb : BytesIn (fun k => k < w0.heap.size) W vb B) (w5 : World) (hf : Fr (Bare (fun k => za ≤ k ∧ k < zb) w0) W w5) (q : Nat) (hq : q = B.length) :
    Calls Try.prog 26 #[.slice (some ⟨g3, 0, none⟩) q c3, vb] w5 fun e w' => e = .returned (.bool true) ∧ ∃ m, w' = w5.drewN m := by
  subst hq
  exact KeptBytes_any vb g3 c3 B w5 (hb.keep hf (fun k _ hk h => by have := h.1; omega)) ⟨hm.lent.1, hm.lent.2.1, hm.lent.2.2.keep hf (fun k _ hk hb => hb.2 hk)⟩ (by omega)
end
def Aft7 (w0 W : World) (gd gr s i za zb g3 c3 : Nat) (B : List UInt8) : Prop := Fr (fun k => w0.heap.size ≤ k) w0 W ∧ ∃ d, Mid7 w0 W gd gr s za zb g3 c3 B d ∧ d.deeds ≤ 8193 * (i + 1) ∧ d.waits.length ≤ 8193 * (i + 1)
def Fl7 (w0 W : World) (gd gr s i : Nat) : Prop := ∃ d, Two (fun _ => False) w0 W gd gr s d d ∧ d.deeds ≤ 8193 * (i + 1) ∧ d.waits.length ≤ 8193 * (i + 1)
theorem Mid7.fl {w0 W : World} {gd gr s i za zb g3 c3 : Nat} {B : List UInt8} {d : Dv} (h : Aft7 w0 W gd gr s i za zb g3 c3 B) : Fl7 w0 W gd gr s i := by
  obtain ⟨_, d, hm, h1, h2⟩ := h
  exact ⟨d, hm.two.less (fun _ h => h.elim), h1, h2⟩
section
variable {w0 W : World} {gd gr s i za zb g3 c3 : Nat} {B : List UInt8} {d : Dv}
theorem mid_over (h : Aft7 w0 W gd gr s i za zb g3 c3 B) (hB : B.length ≤ 4000) (q : Nat) (hq : q = B.length) :
    Calls Try.prog 27 #[.slice (some ⟨g3, 0, none⟩) q c3] W fun e w' => e = .returned (.tuple #[]) ∧ Fl7 w0 w' gd gr s i := by
  subst hq
  obtain ⟨_, d, hm, h1, h2⟩ := h
  refine (OverT_any _ B W (ToldT.ofOwn (lent_own hm.lent)) (by omega)).mono ?_
  rintro e w' ⟨he, hf⟩
  refine ⟨he, d, (hm.two.away hf (fun k hk => .inl ?_)).less (fun _ h => h.elim), h1, h2⟩
  have h3 := (lent_own hm.lent).2 k hk
  exact ⟨h3, Nat.le_trans hm.z0 h3.1⟩
theorem fl_tRd (ht : Two (fun _ => False) w0 W gd gr s d d) (hw : d.waits.length ≤ 8193 * (i + 1)) (hi : i ≤ 60) (hs : 1 ≤ s ∧ s ≤ 63) (L A Dt many : Int) (hm : IntOk many) (vr : Value) (R : List Rn) (hR : RnsIn (fun k => k < w0.heap.size) W vr R) :
    Calls Try.prog 28 #[.pointer (some ⟨gd, 0, none⟩), .agg #[.int .i64 L, .int .i64 A, .int .i64 Dt], .int .i64 many, vr] W.drew fun r w' => ∃ a n c, r = .returned (.tuple #[.slice a n c, .int .i64 (rdA s d L A Dt many R).1]) ∧ OwnB (fun k => W.heap.size ≤ k) w' (.slice a n c) (rdA s d L A Dt many R).2 ∧ Two (fun _ => False) w0 w' gd gr s d d ∧ Fr (fun _ => False) W w' := by
  refine (tRd7 w0 W.drew gd gr s d d L A Dt many vr R hs.1 (by omega) (by omega) hm.1 hm.2 (hR.quiet (Fr.refl _ _).drew) (fun k hk => hk) (ht.quiet (Fr.refl _ _).drew)).mono ?_
  rintro r w' ⟨u, he, ho, ht', hf⟩
  obtain ⟨a, c, hu⟩ := ho.len
  subst hu
  exact ⟨a, _, c, he, ho, ht', hf.ofDrew⟩
theorem fl_uRd (ht : Two (fun _ => False) w0 W gd gr s d d) (hw : d.waits.length ≤ 8193 * (i + 1)) (hi : i ≤ 60) (hs : 1 ≤ s ∧ s ≤ 63) (L A Dt many : Int) (hm : IntOk many) (vr : Value) (R : List Rn) (hR : RnsIn (fun k => k < w0.heap.size) W vr R) :
    Calls Try.prog 29 #[.pointer (some ⟨gr, 0, none⟩), .agg #[.int .i64 L, .int .i64 A, .int .i64 Dt], .int .i64 many, vr] W.drew fun r w' => ∃ a n c, r = .returned (.tuple #[.slice a n c, .int .i64 (rdA s d L A Dt many R).1]) ∧ BytesIn (fun k => W.heap.size ≤ k) w' (.slice a n c) (rdA s d L A Dt many R).2 ∧ Two (fun _ => False) w0 w' gd gr s d d ∧ Fr (fun _ => False) W w' := by
  refine (uRd7 w0 W.drew gd gr s d d L A Dt many vr R (by omega) (by omega) hm.2 (hR.quiet (Fr.refl _ _).drew) (fun k hk => hk) (ht.quiet (Fr.refl _ _).drew)).mono ?_
  rintro r w' ⟨u, he, ho, ht', hf⟩
  obtain ⟨a, c, hu, _⟩ := id ho
  subst hu
  exact ⟨a, _, c, he, ho, ht', hf.ofDrew⟩
theorem fl_over {za : Nat} {a : Option Addr} {n c : Nat} {B : List UInt8} (ho : OwnB (fun k => za ≤ k) W (.slice a n c) B) (hB : B.length ≤ 1000000) (hz : Two (fun _ => False) w0 W gd gr s d d) {W0 : World} (h0 : Two (fun _ => False) w0 W0 gd gr s d d) (hza : za = W0.heap.size) (hf0 : Fr (fun _ => False) W0 W) :
    Calls Try.prog 27 #[.slice a n c] W fun e w' => e = .returned (.tuple #[]) ∧ Two (fun _ => False) w0 w' gd gr s d d := by
  refine (OverT_any _ B W (ToldT.ofOwn ho) (by omega)).mono ?_
  rintro e w' ⟨he, hf⟩
  exact ⟨he, h0.away (S := fun k => za ≤ k) ((hf0.mono (fun _ _ h => h.elim)).trans hf (fun k hk => .inl (ho.2 k hk))) (fun k hk => .inr (by omega))⟩
theorem rdA_le (hd : d.Right s) (L A Dt many : Int) (R : List Rn) : (rdA s d L A Dt many R).2.length ≤ 1000000 := by
  rcases fit7_cases s L A Dt many R with hr | ⟨hr, hap, hm, hc, hS⟩
  · unfold rdA
    rw [hr, if_neg (by decide)]
    simp
  · obtain ⟨l0, la, dd, s0, rfl, rfl, rfl, hs, hap0⟩ := ap7_open hap
    have hcn := apart7_le hap0
    have hd8 : dd ≤ 8192 := by have := hs.sum; have := hs.most; omega
    obtain ⟨mn, rfl⟩ : ∃ mn : Nat, many = mn := ⟨many.toNat, by omega⟩
    rw [need7_nat] at hc
    unfold rdA
    rw [if_pos hr]
    simp only [List.length_take]
    omega
theorem stat_f2 (w : World) (a b c : Int) (dn : Bool) : (Instr.field 63 (.agg #[.int .i64 a, .int .i64 b, .int .i64 c, .bool dn]) 2).run Try.prog w = .ok (.int .i64 c) w := by kernel_rfl
theorem stat_f3 (w : World) (a b c : Int) (dn : Bool) : (Instr.field 63 (.agg #[.int .i64 a, .int .i64 b, .int .i64 c, .bool dn]) 3).run Try.prog w = .ok (.bool dn) w := by kernel_rfl
structure Ref7 (W : World) (gr ga m kd : Nat) (dn : Bool) (all : List UInt8) : Prop where
  c0 : W.cell? ⟨gr, 0, none⟩ = some (.slice (some ⟨ga, 0, none⟩) m m)
  c2 : W.cell? ⟨gr, 2, none⟩ = some (.int .i64 kd)
  c4 : W.cell? ⟨gr, 4, none⟩ = some (.bool dn)
  bytes : BytesIn (fun _ => True) W (.slice (some ⟨ga, 0, none⟩) m m) all
theorem Ref7.keep {W' : World} {gr ga m kd : Nat} {dn : Bool} {all : List UInt8} (h : Ref7 W gr ga m kd dn all) (hf : Fr (fun _ => False) W W') : Ref7 W' gr ga m kd dn all := ⟨hf.cell h.c0 id, hf.cell h.c2 id, hf.cell h.c4 id, h.bytes.keep hf (fun _ _ _ h => h)⟩
theorem Two.ref7 {X : Nat → Prop} {e : Dv} (h : Two X w0 W gd gr s d e) : ∃ ga, Ref7 W gr ga (64 * s) e.deeds e.down e.all := by
  obtain ⟨D, E, _, hr, _⟩ := h.ex
  obtain ⟨F, ga, vw, hm, hD⟩ := hr
  obtain ⟨c0, c1, c2, c3, c4⟩ := hm.head.cells
  have hal : e.all.length = 64 * s := hm.right.all
  exact ⟨ga, c0, c2, c4, (hm.kept.bytes4 (64 * s) hal (by have := hm.small; unfold maxLen; omega)).mono (fun _ _ _ => trivial)⟩
end
end Go.Proofs.Ytcbbcihfooaggaa
