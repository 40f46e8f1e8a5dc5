/- SHA-256, plainly: words are numbers below 2^32. No program. -/
import Derived.Test.YthjpgnmpcllolaaDoorRows
import Derived.KernelRfl
namespace Go.Proofs.YthjpgnmpcllolaaDoor

/-- x, turned right by k. -/
def rotr (x k : Nat) : Nat := (x <<< (32 - k)) % 4294967296 ||| x >>> k
theorem shr_lt {x k : Nat} (hx : x < 4294967296) : x >>> k < 4294967296 := by
  rw [Nat.shiftRight_eq_div_pow]
  exact Nat.lt_of_le_of_lt (Nat.div_le_self _ _) hx
theorem or_lt {x y : Nat} (hx : x < 4294967296) (hy : y < 4294967296) : x ||| y < 4294967296 := Nat.or_lt_two_pow (n := 32) hx hy
theorem xor_lt {x y : Nat} (hx : x < 4294967296) (hy : y < 4294967296) : x ^^^ y < 4294967296 := Nat.xor_lt_two_pow (n := 32) hx hy
theorem and_lt {x y : Nat} (hy : y < 4294967296) : x &&& y < 4294967296 := Nat.and_lt_two_pow (n := 32) _ hy
theorem rotr_lt {x k : Nat} (hx : x < 4294967296) : rotr x k < 4294967296 := or_lt (Nat.mod_lt _ (by decide)) (shr_lt hx)

def sg0 (x : Nat) : Nat := rotr x 7 ^^^ rotr x 18 ^^^ x >>> 3
def sg1 (x : Nat) : Nat := rotr x 17 ^^^ rotr x 19 ^^^ x >>> 10
def Sg0 (x : Nat) : Nat := rotr x 2 ^^^ rotr x 13 ^^^ rotr x 22
def Sg1 (x : Nat) : Nat := rotr x 6 ^^^ rotr x 11 ^^^ rotr x 25
def chs (e f g : Nat) : Nat := (e &&& f) ||| ((4294967295 - e) &&& g)
def maj (a b c : Nat) : Nat := (a &&& b) ||| (a &&& c) ||| (b &&& c)
theorem sg0_lt {x : Nat} (h : x < 4294967296) : sg0 x < 4294967296 := xor_lt (xor_lt (rotr_lt h) (rotr_lt h)) (shr_lt h)
theorem sg1_lt {x : Nat} (h : x < 4294967296) : sg1 x < 4294967296 := xor_lt (xor_lt (rotr_lt h) (rotr_lt h)) (shr_lt h)
theorem Sg0_lt {x : Nat} (h : x < 4294967296) : Sg0 x < 4294967296 := xor_lt (xor_lt (rotr_lt h) (rotr_lt h)) (rotr_lt h)
theorem Sg1_lt {x : Nat} (h : x < 4294967296) : Sg1 x < 4294967296 := xor_lt (xor_lt (rotr_lt h) (rotr_lt h)) (rotr_lt h)
theorem chs_lt {e f g : Nat} (hf : f < 4294967296) (hg : g < 4294967296) : chs e f g < 4294967296 := or_lt (and_lt hf) (and_lt hg)
theorem maj_lt {a b c : Nat} (hb : b < 4294967296) (hc : c < 4294967296) : maj a b c < 4294967296 := or_lt (or_lt (and_lt hb) (and_lt hc)) (and_lt hc)

/-- Four bytes, the highest first. -/
def wordOf : List UInt8 → Nat
  | x0 :: x1 :: x2 :: x3 :: _ => ((x0.toNat * 256 + x1.toNat) * 256 + x2.toNat) * 256 + x3.toNat
  | _ => 0
theorem wordOf_lt (L : List UInt8) : wordOf L < 4294967296 := by
  unfold wordOf
  split
  · rename_i x0 x1 x2 x3 _
    have := x0.toNat_lt; have := x1.toNat_lt; have := x2.toNat_lt; have := x3.toNat_lt
    omega
  · omega
theorem wordOf_take {L : List UInt8} {x0 x1 x2 x3 : UInt8} (h : L.take 4 = [x0, x1, x2, x3]) : wordOf L = ((x0.toNat * 256 + x1.toNat) * 256 + x2.toNat) * 256 + x3.toNat := by
  match L, h with
  | a :: b :: c :: d :: r, h => simp at h; obtain ⟨rfl, rfl, rfl, rfl⟩ := h; rfl
  | [], h => simp at h
  | [_], h => simp at h
  | [_, _], h => simp at h
  | [_, _, _], h => simp at h

/-- The word of step t, of a block L, behind those of the steps before. -/
def wnext (L : List UInt8) (t : Nat) (l : List Nat) : Nat :=
  if t < 16 then wordOf (L.drop (4 * t)) else (sg1 (l.getD (t - 2) 0) + l.getD (t - 7) 0 + sg0 (l.getD (t - 15) 0) + l.getD (t - 16) 0) % 4294967296
/-- The first t words of a block. -/
def wl (L : List UInt8) : Nat → List Nat
  | 0 => []
  | t + 1 => wl L t ++ [wnext L t (wl L t)]
theorem wl_length (L : List UInt8) (t : Nat) : (wl L t).length = t := by
  induction t with
  | zero => rfl
  | succ t ih => simp [wl, ih]
theorem wnext_lt (L : List UInt8) (t : Nat) (l : List Nat) : wnext L t l < 4294967296 := by
  unfold wnext
  split
  · exact wordOf_lt _
  · exact Nat.mod_lt _ (by decide)
theorem wl_lt (L : List UInt8) (t : Nat) : ∀ x ∈ wl L t, x < 4294967296 := by
  induction t with
  | zero => simp [wl]
  | succ t ih =>
    intro x hx
    rcases List.mem_append.1 hx with h | h
    · exact ih x h
    · simp at h; subst h; exact wnext_lt _ _ _
theorem getD_lt {l : List Nat} (h : ∀ x ∈ l, x < 4294967296) (i : Nat) : l.getD i 0 < 4294967296 := by
  by_cases hi : i < l.length
  · rw [List.getD_eq_getElem?_getD, List.getElem?_eq_getElem hi]
    exact h _ (List.getElem_mem hi)
  · rw [List.getD_eq_getElem?_getD, List.getElem?_eq_none (by omega)]
    simp

/-- The added words. -/
def ks : List Nat := [
  1116352408, 1899447441, 3049323471, 3921009573, 961987163, 1508970993, 2453635748, 2870763221, 3624381080, 310598401, 607225278, 1426881987, 1925078388, 2162078206, 2614888103, 3248222580,
  3835390401, 4022224774, 264347078, 604807628, 770255983, 1249150122, 1555081692, 1996064986, 2554220882, 2821834349, 2952996808, 3210313671, 3336571891, 3584528711, 113926993, 338241895,
  666307205, 773529912, 1294757372, 1396182291, 1695183700, 1986661051, 2177026350, 2456956037, 2730485921, 2820302411, 3259730800, 3345764771, 3516065817, 3600352804, 4094571909, 275423344,
  430227734, 506948616, 659060556, 883997877, 958139571, 1322822218, 1537002063, 1747873779, 1955562222, 2024104815, 2227730452, 2361852424, 2428436474, 2756734187, 3204031479, 3329325298]
theorem ks_lt : ∀ x ∈ ks, x < 4294967296 := by decide
theorem ks_length : ks.length = 64 := rfl

/-- The eight words. -/
structure St where
  a : Nat
  b : Nat
  c : Nat
  d : Nat
  e : Nat
  f : Nat
  g : Nat
  h : Nat
/-- Words indeed. -/
structure St.Ok (s : St) : Prop where
  a : s.a < 4294967296
  b : s.b < 4294967296
  c : s.c < 4294967296
  d : s.d < 4294967296
  e : s.e < 4294967296
  f : s.f < 4294967296
  g : s.g < 4294967296
  h : s.h < 4294967296
def St.p (s : St) (k w : Nat) : Nat := (s.h + Sg1 s.e + chs s.e s.f s.g + k + w) % 4294967296
def St.q (s : St) : Nat := (Sg0 s.a + maj s.a s.b s.c) % 4294967296
def St.step (s : St) (k w : Nat) : St := ⟨(s.p k w + s.q) % 4294967296, s.a, s.b, s.c, (s.d + s.p k w) % 4294967296, s.e, s.f, s.g⟩
def runT (s : St) (W : List Nat) : Nat → St
  | 0 => s
  | t + 1 => (runT s W t).step (ks.getD t 0) (W.getD t 0)
def St.add (s t : St) : St :=
  ⟨(s.a + t.a) % 4294967296, (s.b + t.b) % 4294967296, (s.c + t.c) % 4294967296, (s.d + t.d) % 4294967296, (s.e + t.e) % 4294967296, (s.f + t.f) % 4294967296, (s.g + t.g) % 4294967296, (s.h + t.h) % 4294967296⟩
/-- What a block L makes of the words. -/
def comp (s : St) (L : List UInt8) : St := s.add (runT s (wl L 64) 64)
theorem mod_lt32 (x : Nat) : x % 4294967296 < 4294967296 := Nat.mod_lt _ (by decide)
theorem St.Ok.step {s : St} (h : s.Ok) (k w : Nat) : (s.step k w).Ok := ⟨mod_lt32 _, h.a, h.b, h.c, mod_lt32 _, h.e, h.f, h.g⟩
theorem St.Ok.run {s : St} (h : s.Ok) (W : List Nat) : ∀ t, (runT s W t).Ok
  | 0 => h
  | t + 1 => (h.run W t).step _ _
theorem add_ok (s t : St) : (s.add t).Ok := ⟨mod_lt32 _, mod_lt32 _, mod_lt32 _, mod_lt32 _, mod_lt32 _, mod_lt32 _, mod_lt32 _, mod_lt32 _⟩
theorem comp_ok (s : St) (L : List UInt8) : (comp s L).Ok := add_ok _ _

def h0 : St := ⟨1779033703, 3144134277, 1013904242, 2773480762, 1359893119, 2600822924, 528734635, 1541459225⟩
theorem h0_ok : h0.Ok := ⟨by decide, by decide, by decide, by decide, by decide, by decide, by decide, by decide⟩

/-- n blocks, that stand at the head of L. -/
def blocks : Nat → St → List UInt8 → St
  | 0, s, _ => s
  | n + 1, s, L => blocks n (comp s (L.take 64)) (L.drop 64)
theorem blocks_ok (n : Nat) : ∀ (s : St) (L : List UInt8), s.Ok → (blocks n s L).Ok := by
  induction n with
  | zero => intro s L h; exact h
  | succ n ih => intro s L _; exact ih _ _ (comp_ok _ _)
theorem blocks_append (n : Nat) : ∀ (s : St) (L R : List UInt8), 64 * n ≤ L.length → blocks n s (L ++ R) = blocks n s L := by
  induction n with
  | zero => intro s L R _; rfl
  | succ n ih =>
    intro s L R h
    unfold blocks
    rw [List.take_append_of_le_length (by omega), List.drop_append_of_le_length (by omega), ih _ _ _ (by rw [List.length_drop]; omega)]
theorem blocks_add (n m : Nat) : ∀ (s : St) (L : List UInt8), blocks (n + m) s L = blocks m (blocks n s L) (L.drop (64 * n)) := by
  induction n with
  | zero => intro s L; simp [blocks]
  | succ n ih =>
    intro s L
    rw [show n + 1 + m = (n + m) + 1 by omega]
    show blocks (n + m) (comp s (L.take 64)) (L.drop 64) = blocks m (blocks n (comp s (L.take 64)) (L.drop 64)) (L.drop (64 * (n + 1)))
    rw [ih, List.drop_drop, show 64 * (n + 1) = 64 + 64 * n by omega]
/-- One block more. -/
theorem blocks_succ (n : Nat) (s : St) (L : List UInt8) : blocks (n + 1) s L = comp (blocks n s L) ((L.drop (64 * n)).take 64) := by
  rw [blocks_add]
  rfl

/-- Eight bytes of a number, the highest first. -/
def be8 (n : Nat) : List UInt8 := (List.range 8).map fun i => UInt8.ofNat (n / 2 ^ (8 * (7 - i)))
/-- What stands behind n bytes. -/
def padOf (n : Nat) : List UInt8 := 128 :: List.replicate (63 - (n + 8) % 64) 0 ++ be8 (8 * n)
theorem padOf_length (n : Nat) : (padOf n).length = 72 - (n + 8) % 64 := by
  simp [padOf, be8]
  omega
def wbytes (x : Nat) : List UInt8 := [UInt8.ofNat (x / 16777216), UInt8.ofNat (x / 65536), UInt8.ofNat (x / 256), UInt8.ofNat (x / 1)]
def St.bytes (s : St) : List UInt8 := wbytes s.a ++ wbytes s.b ++ wbytes s.c ++ wbytes s.d ++ wbytes s.e ++ wbytes s.f ++ wbytes s.g ++ wbytes s.h
/-- The digest of bytes. -/
def digest (M : List UInt8) : List UInt8 := (blocks ((M.length + 72) / 64) h0 (M ++ padOf M.length)).bytes
theorem digest_length (M : List UInt8) : (digest M).length = 32 := rfl

/-! Worked out by the kernel: each number is settled before it is used. -/
def force {α : Type} (n : Nat) (f : Nat → α) : α := Nat.rec (f 0) (fun m _ => f (m + 1)) n
theorem force_eq {α : Type} (n : Nat) (f : Nat → α) : force n f = f n := by cases n <;> rfl
/-- The words of a block, the last one first. -/
def wr (L : List UInt8) : Nat → List Nat
  | 0 => []
  | t + 1 => let l := wr L t; (if t < 16 then wordOf (L.drop (4 * t)) else (sg1 (l.getD 1 0) + l.getD 6 0 + sg0 (l.getD 14 0) + l.getD 15 0) % 4294967296) :: l
theorem getD_rev (l : List Nat) (i : Nat) (h : i < l.length) : l.getD i 0 = l.reverse.getD (l.length - 1 - i) 0 := by
  rw [List.getD_eq_getElem?_getD, List.getD_eq_getElem?_getD, List.getElem?_reverse (by omega)]
  congr 2
  omega
theorem wr_eq (L : List UInt8) (t : Nat) : wr L t = (wl L t).reverse := by
  induction t with
  | zero => rfl
  | succ t ih =>
    have hl := wl_length L t
    rw [wr, wl, List.reverse_append, ih]
    simp only [List.reverse_cons, List.reverse_nil, List.nil_append, List.singleton_append, wnext]
    split
    · rfl
    · rw [getD_rev _ (t - 2) (by omega), getD_rev _ (t - 7) (by omega), getD_rev _ (t - 15) (by omega), getD_rev _ (t - 16) (by omega), hl]
      rw [show t - 1 - (t - 2) = 1 by omega, show t - 1 - (t - 7) = 6 by omega, show t - 1 - (t - 15) = 14 by omega, show t - 1 - (t - 16) = 15 by omega]
/-- .. with what goes on behind them. -/
def wk {α : Type} (L : List UInt8) : Nat → (List Nat → α) → α
  | 0, f => f []
  | t + 1, f => wk L t fun l => force (if t < 16 then wordOf (L.drop (4 * t)) else (sg1 (l.getD 1 0) + l.getD 6 0 + sg0 (l.getD 14 0) + l.getD 15 0) % 4294967296) fun x => f (x :: l)
theorem wk_eq {α : Type} (L : List UInt8) (t : Nat) : ∀ f : List Nat → α, wk L t f = f (wr L t) := by
  induction t with
  | zero => intro f; rfl
  | succ t ih => intro f; rw [wk, ih, force_eq]; rfl
/-- The steps over rows of added words and of a block's words. -/
def rk {α : Type} : List Nat → List Nat → St → (St → α) → α
  | k :: K, w :: W, s, f => force (s.p k w) fun p => force ((p + s.q) % 4294967296) fun a => force ((s.d + p) % 4294967296) fun e => rk K W ⟨a, s.a, s.b, s.c, e, s.e, s.f, s.g⟩ f
  | _, _, s, f => f s
def rr : List Nat → List Nat → St → St
  | k :: K, w :: W, s => rr K W (s.step k w)
  | _, _, s => s
theorem rk_eq {α : Type} (f : St → α) : ∀ (K W : List Nat) (s : St), rk K W s f = f (rr K W s) := by
  intro K
  induction K with
  | nil => intro W s; rfl
  | cons k K ih =>
    intro W s
    cases W with
    | nil => rfl
    | cons w W => simp only [rk, force_eq, ih, rr]; rfl
theorem rr_snoc : ∀ (K W : List Nat) (k w : Nat) (s : St), K.length = W.length → rr (K ++ [k]) (W ++ [w]) s = (rr K W s).step k w := by
  intro K
  induction K with
  | nil => intro W k w s h; obtain rfl := List.eq_nil_of_length_eq_zero h.symm; rfl
  | cons x K ih =>
    intro W k w s h
    cases W with
    | nil => simp at h
    | cons y W => simp only [List.cons_append, rr]; exact ih W k w _ (by simpa using h)
theorem runT_rr (s : St) (W : List Nat) (hW : W.length = 64) : ∀ t, t ≤ 64 → runT s W t = rr (ks.take t) (W.take t) s
  | 0, _ => by simp [runT, rr]
  | t + 1, h => by
    rw [runT, runT_rr s W hW t (by omega), List.take_succ_eq_append_getElem (by rw [ks_length]; omega), List.take_succ_eq_append_getElem (show t < W.length by omega), rr_snoc _ _ _ _ _ (by rw [List.length_take, List.length_take, ks_length, hW])]
    rw [List.getD_eq_getElem?_getD, List.getD_eq_getElem?_getD, List.getElem?_eq_getElem (show t < ks.length by rw [ks_length]; omega), List.getElem?_eq_getElem (show t < W.length by omega)]
    rfl
def compK {α : Type} (s : St) (L : List UInt8) (f : St → α) : α :=
  wk L 64 fun l => rk ks l.reverse s fun t =>
    force ((s.a + t.a) % 4294967296) fun a => force ((s.b + t.b) % 4294967296) fun b => force ((s.c + t.c) % 4294967296) fun c => force ((s.d + t.d) % 4294967296) fun d =>
    force ((s.e + t.e) % 4294967296) fun e => force ((s.f + t.f) % 4294967296) fun g => force ((s.g + t.g) % 4294967296) fun h => force ((s.h + t.h) % 4294967296) fun i => f ⟨a, b, c, d, e, g, h, i⟩
theorem compK_eq {α : Type} (s : St) (L : List UInt8) (f : St → α) : compK s L f = f (comp s L) := by
  unfold compK
  rw [wk_eq, rk_eq, wr_eq, List.reverse_reverse]
  simp only [force_eq]
  have h := runT_rr s (wl L 64) (wl_length L 64) 64 (Nat.le_refl _)
  rw [List.take_of_length_le (by rw [ks_length]; omega), List.take_of_length_le (by rw [wl_length]; omega)] at h
  rw [← h]
  rfl
def blocksK {α : Type} : Nat → St → List UInt8 → (St → α) → α
  | 0, s, _, f => f s
  | n + 1, s, L, f => compK s (L.take 64) fun s' => blocksK n s' (L.drop 64) f
theorem blocksK_eq {α : Type} (f : St → α) : ∀ (n : Nat) (s : St) (L : List UInt8), blocksK n s L f = f (blocks n s L) := by
  intro n
  induction n with
  | zero => intro s L; rfl
  | succ n ih => intro s L; rw [blocksK, compK_eq, ih]; rfl
theorem digest_of (M : List UInt8) (n : Nat) (hn : (M.length + 72) / 64 = n) (r : Nat × Nat) (h : blocksK n h0 (M ++ padOf M.length) (fun s => force s.a fun a => force s.b fun b => (a, b)) = r) :
    ∃ s : St, digest M = s.bytes ∧ (s.a, s.b) = r := by
  rw [blocksK_eq] at h
  simp only [force_eq] at h
  exact ⟨_, by rw [digest, hn], h⟩
theorem digest_abc : ∃ s : St, digest [97, 98, 99] = s.bytes ∧ (s.a, s.b) = (3128432319, 2399260650) := digest_of _ 1 (by decide) _ (by kernel_rfl)
theorem digest_nil : ∃ s : St, digest [] = s.bytes ∧ (s.a, s.b) = (3820012610, 2566659092) := digest_of _ 1 (by decide) _ (by kernel_rfl)
end Go.Proofs.YthjpgnmpcllolaaDoor
