/- Laid together by merge.py: JRecs Str JHeadOf -/
import Derived.Test.YtabgklcghghoiaaGreatLn17
import Derived.Test.YtabgklcghghoiaaGreatLn8
import Derived.Test.YtabgklcghghoiaaGreatLn15
import Derived.Test.YtabgklcghghoiaaGreatLn2
import Derived.Laws.IdiomStrings
import Derived.Lib.BufferRead
import Derived.Test.YtabgklcghghoiaaGreatLn16

/- Contract: log.records: bytes as records. -/
namespace Go.Proofs.YtabgklcghghoiaaGreat
open Go.RowKit Go.ChangeShapes
set_option linter.unusedVariables false

theorem curText_rec (most : Int) (r X : List UInt8) (hm : (r.length : Int) ≤ most) (hr : r.length ≤ 1048576) : curText most (recB r ++ X) 0 = (r, X, 0) := by
  have e : numOf (recB r ++ X) = some (r.length, (numBytes 5 r.length).length) := by
    rw [recB, List.append_assoc]
    exact numOf_bytes _ _ (by omega)
  have h1 : numS (recB r ++ X) = (numBytes 5 r.length).length := by unfold numS; rw [e]; rfl
  have h2 : numV (recB r ++ X) = r.length := by unfold numV; rw [e]; rfl
  have h3 := (numBytes_len 5 r.length).1
  rw [curText, if_pos rfl, h1, h2, if_neg (by omega), if_neg (by omega), if_neg (by omega), recB, List.append_assoc, List.drop_left', curRaw, if_pos rfl, if_neg (by rw [List.length_append]; omega)]
  · simp
  · rfl
theorem MadeAt.keepS {S : Nat → Prop} {z : Nat} {w w' : World} {v : Value} {P : List (List UInt8)} (h : MadeAt z w v P) (hf : Fr S w w') (hS : ∀ k, z ≤ k → ¬ S k) : MadeAt z w' v P := by
  obtain ⟨vs, hl, ho, hi⟩ := h
  refine ⟨vs, hl, ownsRow_keep ho hf (fun g hg => hS g ?_), fun i h1 h2 => (hi i h1 h2).keep hf (fun k _ hk => hS k hk.1)⟩
  rcases ho.2 with ⟨rfl, _⟩ | ⟨g', cap, cur, rfl, hb, _⟩
  · simp [Value.ownBlock] at hg
  · simp only [Value.ownBlock, Option.some.injEq] at hg
    omega
theorem MadeAt.own {z : Nat} {w : World} {v : Value} {P : List (List UInt8)} (h : MadeAt z w v P) : ∀ k, v.ownBlock = some k → z ≤ k ∧ k < w.heap.size := by
  obtain ⟨vs, hl, ho, hi⟩ := h
  exact fun k hk => ho.lt k hk
theorem CurAt.mono {F G : Nat → Prop} {w : World} {b : Nat} {X : List UInt8} {e : Int} (h : CurAt F w b X e) (hd : ∀ k, k < w.heap.size → F k → G k) (hb : ¬ G b) : CurAt G w b X e := by
  obtain ⟨v, h1, h2, h3⟩ := h
  exact ⟨v, h1, h2.mono hd, hb⟩
theorem recsB_length_le (R : List (List UInt8)) (r : List UInt8) (h : r ∈ R) : r.length + 1 ≤ (recsB R).length := by
  induction R with
  | nil => cases h
  | cons a R ih =>
    have h1 := recB_pos a
    rw [recsB_cons, List.length_append]
    rcases List.mem_cons.1 h with rfl | h
    · have := (numBytes_len 5 r.length).1
      rw [recB, List.length_append]
      omega
    · have := ih h
      omega
theorem recsB_count (R : List (List UInt8)) : R.length ≤ (recsB R).length := by
  induction R with
  | nil => simp
  | cons a R ih =>
    have h1 := recB_pos a
    rw [recsB_cons, List.length_append, List.length_cons]
    omega
/-- What records tells. -/
def RecsPost (w : World) (R : List (List UInt8)) (e : Ending) (w' : World) : Prop := ∃ v, e = .returned (.tuple #[v, .int .i64 0]) ∧ RowsIn (fun k => k < w'.heap.size) w' v R ∧ Fr (fun _ => False) w w'
set_option maxRecDepth 100000 in
set_option maxHeartbeats 4000000 in
theorem lRecords_any {G : Nat → Prop} (w : World) (vb : Value) (R : List (List UInt8)) (hb : BytesIn G w vb (recsB R)) (hl : (recsB R).length ≤ 1000000) :
    Calls Tryz.prog 35 #[vb] w (RecsPost w R) := by
  obtain ⟨ab, cb, hvb, _⟩ := id hb
  subst hvb
  have hov := over_any w hb (by omega)
  obtain ⟨lb, hlb⟩ : ∃ lb, lb = (recsB R).length := ⟨_, rfl⟩
  have hcn := recsB_count R
  rw [← hlb] at hov hl hcn ⊢
  have HOV := Lib.hid hov
  have HL := Lib.hid hlb
  obtain ⟨n, hn⟩ : ∃ n, n = R.length := ⟨_, rfl⟩
  rw [← hn] at hcn
  have HN := Lib.hid hn
  clear hb hov hlb hn
  go_enter Tryz.func35, Tryz.ntmps35
  go_wp2_with (go_at_call 62; refine HOV.out.mono ?_; rintro e w1 ⟨b, rfl, hf1, hb1, hc1⟩; (have H1 := Lib.hid (And.intro hf1 (And.intro hb1 hc1))); clear hf1 hb1 hc1)
  have hbz : b < w1.heap.size := by obtain ⟨_, h, _⟩ := H1.out.2.2; exact lt_of_block h
  have HZ := Lib.hid hbz
  have H0 := Lib.hid (show MadeAt w1.heap.size w1 (.slice none 0 0) (R.take 0) ∧ CurAt (fun k => k < w1.heap.size ∧ k ≠ b) w1 b (recsB (R.drop 0)) 0 ∧ Fr (fun _ => False) w w1 ∧ w1.heap.size ≤ w1.heap.size from ⟨MadeAt.nil _ _, H1.out.2.2.mono (fun k hk h => ⟨hk, h.2⟩) (fun h => h.2 rfl), H1.out.1, Nat.le_refl _⟩)
  clear hbz
  go_loopw [4] (fun lv wr => ∃ (k : Nat), k ≤ n ∧ (∃ ao cap, lv = .slice ao k cap) ∧ Hid (MadeAt w1.heap.size wr lv (R.take k) ∧ CurAt (fun k => k < w1.heap.size ∧ k ≠ b) wr b (recsB (R.drop k)) 0 ∧ Fr (fun _ => False) w wr ∧ w1.heap.size ≤ wr.heap.size)) (fun lv _ => n - lenOf5 lv)
  case atStart => exact ⟨0, by omega, ⟨none, 0, rfl⟩, H0⟩
  case round =>
    obtain ⟨k, hk, ⟨ao, cap, rfl⟩, hR⟩ := hrel
    clear H0
    have hle := curLeft_any wr hR.out.2.1
    have hen := curEnd_any wr hR.out.2.1
    by_cases hlt : k < n
    · have hkR : k < R.length := by rw [← HN.out]; exact hlt
      obtain ⟨r, hr⟩ : ∃ r, r = R[k] := ⟨_, rfl⟩
      have hdr : recsB (R.drop k) = recB r ++ recsB (R.drop (k + 1)) := by rw [List.drop_eq_getElem_cons hkR, recsB_cons, ← hr]
      have hrl : r.length + 1 ≤ lb := by rw [HL.out]; exact recsB_length_le R r (by rw [hr]; exact List.getElem_mem _)
      have htx := curText_any (lb : Int) wr hR.out.2.1 (by
        rw [hdr, List.length_append]
        have h1 : (recsB R).length = (recsB (R.take k)).length + (recsB (R.drop k)).length := by
          conv => lhs; rw [← List.take_append_drop k R]
          simp only [recsB, List.map_append, List.flatten_append, List.length_append]
        rw [hdr, List.length_append, ← HL.out] at h1
        omega)
      rw [hdr, curText_rec _ _ _ (by omega) (by omega)] at htx
      rw [hdr, curLeft, if_pos rfl] at hle
      obtain ⟨m, hm⟩ : ∃ m, m = (recB r ++ recsB (R.drop (k + 1))).length := ⟨_, rfl⟩
      rw [← hm] at hle
      have hm0 : 0 < m := by have := recB_pos r; rw [hm, List.length_append]; omega
      have HTX := Lib.hid htx
      have HLE := Lib.hid hle
      have HR := Lib.hid (show R.take (k + 1) = R.take k ++ [r] by rw [List.take_succ_eq_append_getElem hkR, hr])
      have HKL := Lib.hid (show (R.take k).length = k by rw [List.length_take]; omega)
      clear htx hle hen hm hr hdr hkR hrl
      go_wp2_with (first
        | (go_at_call 65; refine HLE.out.mono ?_; rintro e w2 ⟨rfl, rfl⟩)
        | (go_at_call 66; refine HTX.out.mono ?_; rintro e w3 ⟨y, rfl, hf3, ho3, hc3⟩; obtain ⟨ay, cy, rfl⟩ := ho3.len; obtain ⟨vs, hvl, hvo, hvi⟩ := hR.out.1.keepS hf3 (fun j hj e => by have := HZ.out; have e' : j = b := e; omega); (have hv3 := hR.out.1.own); (have H3 := Lib.hid (And.intro hf3 (And.intro ho3 (And.intro hc3 (And.intro hvl (And.intro hvo (And.intro hvi hv3))))))); clear hf3 ho3 hc3 hvl hvo hvi hv3)
        | (at_builtin; refine wpList_append_val w1.heap.size (w3.alloc (.cells #[.slice ay r.length cy] 37)) rfl (.tmp 11) (.tmp 16) rfl (.slice ao k cap) (.slice ay r.length cy) vs w3.heap.size rfl rfl (ownsRow_keep (by have h := H3.out.2.2.2.2.1; rw [← H3.out.2.2.2.1] at h; exact h) ((Fr.refl (fun _ => False) w3).alloc _) (fun _ _ h => h)) (cell_of_one (heap_alloc_new w3 _)) rfl (by rw [H3.out.2.2.2.1, HKL.out]; omega) (by have := hR.out.2.2.2; have := H3.out.1.size; simp; omega) ?_; intro v5 w5 ho5 hg5 hb5; (have H5 := Lib.hid (MadeAt.snoc H3.out.2.2.2.1 H3.out.2.2.2.2.2.1 ((Fr.refl (fun _ => False) w3).alloc _) (((H3.out.2.1.bytes.mono (G := fun j => w1.heap.size ≤ j ∧ (Value.slice ao k cap).ownBlock ≠ some j) (fun j hj h => ⟨by have := hR.out.2.2.2; omega, fun e => by have := H3.out.2.2.2.2.2.2 j e; omega⟩))).keep (S := fun _ => False) ((Fr.refl _ w3).alloc _) (fun _ _ _ h => h)) ho5 hg5 hb5)); (have HG5 := Lib.hid hg5); (have hn5 : vs.length + 1 = k + 1 := by rw [H3.out.2.2.2.1, HKL.out]); (obtain ⟨a5, c5, rfl, _⟩ := ownsRow_form5 ho5); rw [hn5] at H5 ⊢; clear ho5 hg5 hb5 hn5))
      go_roundw
      case rel =>
        have hfb : Fr (fun j => (Value.slice ao k cap).ownBlock = some j) w3 w5 := (((Fr.refl _ w3).alloc _)).grown HG5.out (fun j hj => .inl hj)
        refine ⟨k + 1, by omega, ⟨a5, c5, rfl⟩, Lib.hid ⟨by rw [HR.out]; exact H5.out, H3.out.2.2.1.keep hfb (fun e => ?_) (fun j _ h1 e => ?_), (hR.out.2.2.1.trans (T := fun j => j = b) H3.out.1 (fun j e => .inr ?_)).trans hfb (fun j e => .inr ?_), ?_⟩⟩
        · have := (H3.out.2.2.2.2.2.2 b e).1
          have := HZ.out
          omega
        · have := (H3.out.2.2.2.2.2.2 j e).1
          omega
        · have e' : j = b := e
          have := H1.out.2.1
          omega
        · have := (H3.out.2.2.2.2.2.2 j e).1
          have := H1.out.1.size
          omega
        · have := hR.out.2.2.2
          have := H3.out.1.size
          have := hfb.size
          omega
      case measure => simp only [lenOf5]; omega
    · obtain rfl : k = n := by omega
      have h0 : R.drop k = [] := List.drop_of_length_le (by rw [← HN.out]; exact Nat.le_refl _)
      have h1 : R.take k = R := List.take_of_length_le (by rw [← HN.out]; exact Nat.le_refl _)
      rw [h0] at hle hen
      have HQ := Lib.hid (show RowsIn (fun j => j < wr.heap.size) wr (.slice ao k cap) R ∧ Fr (fun _ => False) w wr by
        have h := hR.out.1
        rw [h1] at h
        refine ⟨h.rows (fun X hX => ?_), hR.out.2.2.1⟩
        have := recsB_length_le R X hX
        have := HL.out
        omega)
      have hle2 : curLeft (recsB []) 0 = 0 := rfl
      have hen2 : curEnd (recsB []) 0 = 0 := rfl
      rw [hle2] at hle
      rw [hen2] at hen
      have HLE := Lib.hid hle
      have HEN := Lib.hid hen
      clear hR h0 h1 hle hen hle2 hen2
      go_wp2_with (first
        | (go_at_call 65; refine HLE.out.mono ?_; rintro e w2 ⟨rfl, rfl⟩)
        | (go_at_call 67; refine HEN.out.mono ?_; rintro e w2 ⟨rfl, rfl⟩))
      go_ret2
      unfold RecsPost
      exact ⟨_, rfl, HQ.out⟩
end Go.Proofs.YtabgklcghghoiaaGreat

/- string(b): bytes to a string. -/
namespace Go.Proofs.YtabgklcghghoiaaGreat
open Go.RowKit Go.ChangeShapes
set_option linter.unusedVariables false

/-- string(b). -/
theorem run_bytes_str {F : Nat → Prop} (w : World) (v : Value) (L : List UInt8) (h : BytesIn F w v L) : (convert 37 9 v).run Tryz.prog w = .ok (.string ⟨L.toArray⟩) w := by
  obtain ⟨ao, cap, rfl, h1, h2, h3, h4⟩ := h
  cases ao with
  | none =>
    obtain rfl := h3 rfl
    obtain rfl : L = [] := List.eq_nil_of_length_eq_zero (by omega)
    exact Lib.run_convert_nil_bytes w 37 9 5 0 Tryz.underlying37 Tryz.underlying5 Tryz.underlying9
  | some a =>
    refine run_convert_bytes_back w 37 9 5 a cap L Tryz.underlying37 Tryz.underlying5 Tryz.underlying9 (fun j hj => ?_)
    exact (h4 a rfl).1 j _ (by rw [List.getElem?_map, List.getElem?_eq_getElem hj]; rfl)

end Go.Proofs.YtabgklcghghoiaaGreat

/- Contract: log.headOf, of a sector that has a head. -/
namespace Go.Proofs.YtabgklcghghoiaaGreat
open Go.RowKit Go.ChangeShapes
set_option linter.unusedVariables false

theorem curNum_bytes (most : Int) (n : Nat) (X : List UInt8) (hm : (n : Int) ≤ most) (hn : n ≤ 1099511627776) : curNum most (numBytes 5 n ++ X) 0 = ((n : Int), X, 0) := by
  have e := numOf_bytes n X hn
  have h1 : numS (numBytes 5 n ++ X) = (numBytes 5 n).length := by unfold numS; rw [e]; rfl
  have h2 : numV (numBytes 5 n ++ X) = n := by unfold numV; rw [e]; rfl
  have h3 := (numBytes_len 5 n).1
  rw [curNum, if_pos rfl, h1, h2, if_neg (by omega), List.drop_left']
  rfl
/-- Amid headOf: the head that is told (at gr), the one that is got (at gh), the cursor. -/
structure HoAt (w0 w : World) (gr gh b : Nat) (x1 x2 x3 x4 : Int) (X : List UInt8) : Prop where
  res : w.heap[gr]? = some (.cells #[.int .i64 0, .int .i64 0, .int .i64 0, .int .i64 0] 71 (0, 0))
  got : w.heap[gh]? = some (.cells #[.int .i64 x1, .int .i64 x2, .int .i64 x3, .int .i64 x4] 71 (0, 0))
  cur : CurAt (fun k => w0.heap.size ≤ k ∧ k ≠ b ∧ k ≠ gr ∧ k ≠ gh) w b X 0
  sep : gr ≠ gh ∧ gr ≠ b ∧ gh ≠ b ∧ w0.heap.size ≤ gr ∧ w0.heap.size ≤ gh ∧ w0.heap.size ≤ b
  fr : Fr (fun _ => False) w0 w
theorem HoAt.go {w0 w w' : World} {gr gh b : Nat} {x1 x2 x3 x4 : Int} {X Y : List UInt8} (h : HoAt w0 w gr gh b x1 x2 x3 x4 X) (hf : Fr (· = b) w w') (hc : CurAt (fun k => w0.heap.size ≤ k ∧ k ≠ b ∧ k ≠ gr ∧ k ≠ gh) w' b Y 0) : HoAt w0 w' gr gh b x1 x2 x3 x4 Y :=
  ⟨hf.heap h.res h.sep.2.1, hf.heap h.got h.sep.2.2.1, hc, h.sep, h.fr.trans hf fun k e => .inr (by rw [show k = b from e]; exact h.sep.2.2.2.2.2)⟩
theorem HoAt.quiet {w0 w w' : World} {gr gh b : Nat} {x1 x2 x3 x4 : Int} {X : List UInt8} (h : HoAt w0 w gr gh b x1 x2 x3 x4 X) (hf : Fr (fun _ => False) w w') : HoAt w0 w' gr gh b x1 x2 x3 x4 X :=
  ⟨hf.heap h.res id, hf.heap h.got id, h.cur.keep hf id (fun _ _ _ h => h), h.sep, h.fr.trans hf fun _ h => h.elim⟩
theorem HoAt.frs {w0 w w' : World} {gr gh b : Nat} {x1 x2 x3 x4 y1 y2 y3 y4 : Int} {X : List UInt8} (h : HoAt w0 w gr gh b x1 x2 x3 x4 X) (hf : Fr (· = gh) w w') (hg : w'.heap[gh]? = some (.cells #[.int .i64 y1, .int .i64 y2, .int .i64 y3, .int .i64 y4] 71 (0, 0))) : HoAt w0 w' gr gh b y1 y2 y3 y4 X :=
  ⟨hf.heap h.res h.sep.1, hg, h.cur.keep hf (fun e => h.sep.2.2.1 e.symm) (fun k _ h1 e => h1.2.2.2 e), h.sep, h.fr.trans hf fun k e => .inr (by rw [show k = gh from e]; exact h.sep.2.2.2.2.1)⟩
theorem HoAt.set0 {w0 w : World} {gr gh b : Nat} {x1 x2 x3 x4 : Int} {X : List UInt8} (h : HoAt w0 w gr gh b x1 x2 x3 x4 X) (y : Int) : HoAt w0 (w.setCell ⟨gh, 0, none⟩ (.int .i64 y)) gr gh b y x2 x3 x4 X := h.frs (Fr.cell1 _ _ _ _) (cell_put _ h.got)
theorem HoAt.set1 {w0 w : World} {gr gh b : Nat} {x1 x2 x3 x4 : Int} {X : List UInt8} (h : HoAt w0 w gr gh b x1 x2 x3 x4 X) (y : Int) : HoAt w0 (w.setCell ⟨gh, 1, none⟩ (.int .i64 y)) gr gh b x1 y x3 x4 X := h.frs (Fr.cell1 _ _ _ _) (cell_put _ h.got)
theorem HoAt.set2 {w0 w : World} {gr gh b : Nat} {x1 x2 x3 x4 : Int} {X : List UInt8} (h : HoAt w0 w gr gh b x1 x2 x3 x4 X) (y : Int) : HoAt w0 (w.setCell ⟨gh, 2, none⟩ (.int .i64 y)) gr gh b x1 x2 y x4 X := h.frs (Fr.cell1 _ _ _ _) (cell_put _ h.got)
theorem HoAt.set3 {w0 w : World} {gr gh b : Nat} {x1 x2 x3 x4 : Int} {X : List UInt8} (h : HoAt w0 w gr gh b x1 x2 x3 x4 X) (y : Int) : HoAt w0 (w.setCell ⟨gh, 3, none⟩ (.int .i64 y)) gr gh b x1 x2 x3 y X := h.frs (Fr.cell1 _ _ _ _) (cell_put _ h.got)
/-- What headOf tells. -/
def HeadPost (w : World) (h : Hd) (e : Ending) (w' : World) : Prop := e = .returned (.tuple #[.agg #[.int .i64 h.area, .int .i64 h.size, .int .i64 h.used, .int .i64 h.round], .bool true]) ∧ Fr (fun _ => False) w w'
set_option maxRecDepth 100000 in
set_option maxHeartbeats 4000000 in
theorem lHeadOf_any {G : Nat → Prop} (w : World) (vb : Value) (h : Hd) (hn : h.Num) (ha : h.area ≤ 1) (hr : 1 ≤ h.round) (hb : BytesIn G w vb h.sec) :
    Calls Tryz.prog 32 #[vb] w (HeadPost w h) := by
  have hsl := h.sec_length
  obtain ⟨ab, cb, hvb, _⟩ := id hb
  subst hvb
  obtain ⟨W1, hW1⟩ : ∃ W1, W1 = w.alloc (.cells #[.int .i64 0, .int .i64 0, .int .i64 0, .int .i64 0] 71) := ⟨_, rfl⟩
  have hf1 : Fr (fun _ => False) w W1 := by rw [hW1]; exact (Fr.refl _ _).alloc _
  have hz1 : W1.heap.size = w.heap.size + 1 := by rw [hW1]; simp
  have hres : W1.heap[w.heap.size]? = some (.cells #[.int .i64 0, .int .i64 0, .int .i64 0, .int .i64 0] 71 (0, 0)) := by rw [hW1]; exact heap_alloc_new w _
  have hb1 := (hb.mono (G := fun k => G k ∧ k < w.heap.size) (fun k hk h => ⟨h, hk⟩)).keep hf1 (fun _ _ _ h => h)
  have hov := over_any W1 hb1 (by rw [hsl]; decide)
  obtain ⟨Z, hZ⟩ : ∃ Z : List UInt8, Z = List.replicate (64 - h.bytes.length) 0 := ⟨_, rfl⟩
  have hsec : h.sec = numBytes 5 h.area ++ (numBytes 5 h.size ++ (numBytes 5 h.used ++ (numBytes 5 h.round ++ Z))) := by
    rw [Hd.sec, full64, Hd.bytes, hZ, Hd.bytes]
    simp only [List.append_assoc]
  have HBY := Lib.hid (fun W => lBytes_any W h hn)
  have HB := Lib.hid hb
  have HNM := Lib.hid (And.intro hn (And.intro ha hr))
  have HW := Lib.hid (And.intro hW1 (And.intro hf1 (And.intro hz1 hres)))
  have HS := Lib.hid hsec
  rw [hsl] at HB hov ⊢
  have HOV := Lib.hid hov
  have e1 := fun X => curNum_bytes 1 h.area X (by have := HNM.out.2.1; omega) HNM.out.1.area
  have e2 := fun X => curNum_bytes 1099511627776 h.size X (by have := HNM.out.1.size; omega) HNM.out.1.size
  have e3 := fun X => curNum_bytes 1099511627776 h.used X (by have := HNM.out.1.used; omega) HNM.out.1.used
  have e4 := fun X => curNum_bytes 1099511627776 h.round X (by have := HNM.out.1.round; omega) HNM.out.1.round
  have HEQ := Lib.hid (And.intro e1 (And.intro e2 (And.intro e3 e4)))
  have hgd : ¬ ((h.round : Int) < 1) := by omega
  obtain ⟨x1, hx1⟩ : ∃ x, x = h.area := ⟨_, rfl⟩
  obtain ⟨x2, hx2⟩ : ∃ x, x = h.size := ⟨_, rfl⟩
  obtain ⟨x3, hx3⟩ : ∃ x, x = h.used := ⟨_, rfl⟩
  obtain ⟨x4, hx4⟩ : ∃ x, x = h.round := ⟨_, rfl⟩
  have HX := Lib.hid (And.intro hx1 (And.intro hx2 (And.intro hx3 hx4)))
  rw [← hx1, ← hx2, ← hx3, ← hx4] at HBY HEQ HS
  rw [← hx4] at hgd
  clear hb hn ha hr hsl hW1 hf1 hz1 hres hb1 hov hsec e1 e2 e3 e4 hZ hx1 hx2 hx3 hx4
  go_enter Tryz.func32, Tryz.ntmps32
  go_wp2_with (first
    | (go_at_call 62; rw [← HW.out.1]; refine HOV.out.mono ?_; rintro e w1 ⟨b, rfl, hf1, hb1, hc1⟩; (have H1 := Lib.hid (show HoAt w (w1.alloc (.cells #[.int .i64 0, .int .i64 0, .int .i64 0, .int .i64 0] 71)) w.heap.size w1.heap.size b 0 0 0 0 h.sec by
        have hlb : b < w1.heap.size := by obtain ⟨_, hh, _⟩ := hc1; exact lt_of_block hh
        have hsz := HW.out.2.2.1
        have hsz2 := hf1.size
        refine ⟨((Fr.refl (fun _ => False) w1).alloc _).heap (hf1.heap HW.out.2.2.2 id) id, heap_alloc_new w1 _, ?_, ⟨by omega, by omega, by omega, Nat.le_refl _, by omega, by omega⟩, (HW.out.2.1.trans hf1 (fun _ h => h.elim)).alloc _⟩
        exact (hc1.mono (G := fun k => w.heap.size ≤ k ∧ k ≠ b ∧ k ≠ w.heap.size ∧ k ≠ w1.heap.size) (fun k hk hh => ⟨by omega, hh.2, by omega, by omega⟩) (fun hh => hh.2.1 rfl)).keep ((Fr.refl (fun _ => False) w1).alloc _) id (fun _ _ _ h => h))); clear hf1 hb1 hc1)
    | fail)
  obtain ⟨W2, hW2⟩ : ∃ W2, W2 = w1.alloc (.cells #[.int .i64 0, .int .i64 0, .int .i64 0, .int .i64 0] 71) := ⟨_, rfl⟩
  obtain ⟨gh, hgh⟩ : ∃ gh, gh = w1.heap.size := ⟨_, rfl⟩
  rw [← hW2, ← hgh, HS.out] at H1
  rw [← hW2, ← hgh]
  clear hW2 hgh
  have hc1 := curNum_any 1 W2 H1.out.cur
  rw [HEQ.out.1] at hc1
  refine hc1.mono ?_
  rintro e w2 ⟨rfl, hf, hcu⟩
  have G1 := Lib.hid (H1.out.go hf hcu)
  clear hc1 hf hcu
  have q0 := cell_of_row _ _ 0 _ _ _ G1.out.got
  have q1 := cell_of_row _ _ 1 _ _ _ G1.out.got
  have q2 := cell_of_row _ _ 2 _ _ _ G1.out.got
  have q3 := cell_of_row _ _ 3 _ _ _ G1.out.got
  simp only [List.getElem?_toArray, List.getElem?_cons_zero, List.getElem?_cons_succ] at q0 q1 q2 q3
  have r0 := frozen_of_row _ _ 0 _ _ G1.out.got
  have r1 := frozen_of_row _ _ 1 _ _ G1.out.got
  have r2 := frozen_of_row _ _ 2 _ _ G1.out.got
  have r3 := frozen_of_row _ _ 3 _ _ G1.out.got
  have H2 := Lib.hid (G1.out.set0 (x1 : Nat))
  go_wp2_with fail
  clear q0 q1 q2 q3 r0 r1 r2 r3
  have hc2 := curNum_any 1099511627776 (w2.setCell ⟨gh, 0, none⟩ (.int .i64 x1)) H2.out.cur
  rw [HEQ.out.2.1] at hc2
  refine hc2.mono ?_
  rintro e w3 ⟨rfl, hf, hcu⟩
  have G2 := Lib.hid (H2.out.go hf hcu)
  clear hc2 hf hcu
  have q0 := cell_of_row _ _ 0 _ _ _ G2.out.got
  have q1 := cell_of_row _ _ 1 _ _ _ G2.out.got
  have q2 := cell_of_row _ _ 2 _ _ _ G2.out.got
  have q3 := cell_of_row _ _ 3 _ _ _ G2.out.got
  simp only [List.getElem?_toArray, List.getElem?_cons_zero, List.getElem?_cons_succ] at q0 q1 q2 q3
  have r0 := frozen_of_row _ _ 0 _ _ G2.out.got
  have r1 := frozen_of_row _ _ 1 _ _ G2.out.got
  have r2 := frozen_of_row _ _ 2 _ _ G2.out.got
  have r3 := frozen_of_row _ _ 3 _ _ G2.out.got
  have H3 := Lib.hid (G2.out.set1 (x2 : Nat))
  go_wp2_with fail
  clear q0 q1 q2 q3 r0 r1 r2 r3
  have hc3 := curNum_any 1099511627776 (w3.setCell ⟨gh, 1, none⟩ (.int .i64 x2)) H3.out.cur
  rw [HEQ.out.2.2.1] at hc3
  refine hc3.mono ?_
  rintro e w4 ⟨rfl, hf, hcu⟩
  have G3 := Lib.hid (H3.out.go hf hcu)
  clear hc3 hf hcu
  have q0 := cell_of_row _ _ 0 _ _ _ G3.out.got
  have q1 := cell_of_row _ _ 1 _ _ _ G3.out.got
  have q2 := cell_of_row _ _ 2 _ _ _ G3.out.got
  have q3 := cell_of_row _ _ 3 _ _ _ G3.out.got
  simp only [List.getElem?_toArray, List.getElem?_cons_zero, List.getElem?_cons_succ] at q0 q1 q2 q3
  have r0 := frozen_of_row _ _ 0 _ _ G3.out.got
  have r1 := frozen_of_row _ _ 1 _ _ G3.out.got
  have r2 := frozen_of_row _ _ 2 _ _ G3.out.got
  have r3 := frozen_of_row _ _ 3 _ _ G3.out.got
  have H4 := Lib.hid (G3.out.set2 (x3 : Nat))
  go_wp2_with fail
  clear q0 q1 q2 q3 r0 r1 r2 r3
  have hc4 := curNum_any 1099511627776 (w4.setCell ⟨gh, 2, none⟩ (.int .i64 x3)) H4.out.cur
  rw [HEQ.out.2.2.2] at hc4
  refine hc4.mono ?_
  rintro e w5 ⟨rfl, hf, hcu⟩
  have G4 := Lib.hid (H4.out.go hf hcu)
  clear hc4 hf hcu
  have q0 := cell_of_row _ _ 0 _ _ _ G4.out.got
  have q1 := cell_of_row _ _ 1 _ _ _ G4.out.got
  have q2 := cell_of_row _ _ 2 _ _ _ G4.out.got
  have q3 := cell_of_row _ _ 3 _ _ _ G4.out.got
  simp only [List.getElem?_toArray, List.getElem?_cons_zero, List.getElem?_cons_succ] at q0 q1 q2 q3
  have r0 := frozen_of_row _ _ 0 _ _ G4.out.got
  have r1 := frozen_of_row _ _ 1 _ _ G4.out.got
  have r2 := frozen_of_row _ _ 2 _ _ G4.out.got
  have r3 := frozen_of_row _ _ 3 _ _ G4.out.got
  have H5 := Lib.hid (G4.out.set3 (x4 : Nat))
  have q5 := cell_of_row _ _ 0 _ _ _ G4.out.res
  have q6 := cell_of_row _ _ 1 _ _ _ G4.out.res
  have q7 := cell_of_row _ _ 2 _ _ _ G4.out.res
  have q8 := cell_of_row _ _ 3 _ _ _ G4.out.res
  go_wp2_with fail
  refine (HBY.out _).mono ?_
  rintro e w6 ⟨v6, rfl, ho6, hf6⟩
  have H6 := Lib.hid (H5.out.quiet hf6)
  have HO6 := Lib.hid ho6
  clear ho6 hf6 q0 q1 q2 q3 r0 r1 r2 r3 q5 q6 q7 q8
  go_wp2_with fail
  refine (Tryz.bytes_Equal_strs v6 _ ⟨h.sec.toArray⟩ ⟨h.sec.toArray⟩ w6 (run_bytes_str w6 v6 h.sec HO6.out.bytes) (run_bytes_str w6 _ h.sec (HB.out.keep H6.out.fr (fun _ _ _ h => h)))).mono ?_
  rintro e w7 ⟨rfl, hw7⟩
  subst hw7
  have heq : ((⟨h.sec.toArray⟩ : ByteArray).toList == (⟨h.sec.toArray⟩ : ByteArray).toList) = true := by simp
  rw [heq]
  clear heq
  obtain ⟨q0, q1, q2, q3⟩ := row4_cells H6.out.got
  obtain ⟨q5, q6, q7, q8⟩ := row4_cells H6.out.res
  have r0 := frozen_of_row _ _ 0 _ _ H6.out.res
  have r1 := frozen_of_row _ _ 1 _ _ H6.out.res
  have r2 := frozen_of_row _ _ 2 _ _ H6.out.res
  have r3 := frozen_of_row _ _ 3 _ _ H6.out.res
  go_wp2
  refine bodyPost_ret (v := .tuple #[.agg #[.int .i64 x1, .int .i64 x2, .int .i64 x3, .int .i64 x4], .bool true]) (by simp [results, Tryz.results32, q5, q6, q7, q8, go_sem]) rfl ?_
  unfold HeadPost
  rw [← HX.out.1, ← HX.out.2.1, ← HX.out.2.2.1, ← HX.out.2.2.2]
  exact ⟨rfl, (((H6.out.fr.setCell (p := ⟨w.heap.size, 0, none⟩) (.inr (Nat.le_refl _)) _).setCell (p := ⟨w.heap.size, 1, none⟩) (.inr (Nat.le_refl _)) _).setCell (p := ⟨w.heap.size, 2, none⟩) (.inr (Nat.le_refl _)) _).setCell (p := ⟨w.heap.size, 3, none⟩) (.inr (Nat.le_refl _)) _⟩
end Go.Proofs.YtabgklcghghoiaaGreat

