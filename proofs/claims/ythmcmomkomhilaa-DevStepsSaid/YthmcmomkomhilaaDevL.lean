/- The plain side of devices: sectors in a row of bytes, pending writes, what of them is kept. No program. -/
import Derived.Test.YthmcmomkomhilaaBase
namespace Go.Proofs.Ythmcmomkomhilaa
set_option linter.unusedVariables false

/-- Sector a of the bytes. -/
def secAt (K : List UInt8) (a : Nat) : List UInt8 := (K.drop (64 * a)).take 64
/-- Sector a written. -/
def putSec (K : List UInt8) (a : Nat) (b : List UInt8) : List UInt8 := K.take (64 * a) ++ b ++ K.drop (64 * a + 64)
/-- 64 bytes: b, and noughts behind it. -/
def full64 (b : List UInt8) : List UInt8 := b ++ List.replicate (64 - b.length) 0
theorem full64_length (b : List UInt8) (h : b.length ≤ 64) : (full64 b).length = 64 := by simp [full64]; omega
theorem secAt_length (K : List UInt8) (s a : Nat) (hK : K.length = 64 * s) (ha : a < s) : (secAt K a).length = 64 := by simp [secAt, hK]; omega
theorem putSec_length (K : List UInt8) (s a : Nat) (b : List UInt8) (hK : K.length = 64 * s) (ha : a < s) (hb : b.length = 64) : (putSec K a b).length = 64 * s := by
  simp [putSec, hK, hb]
  omega
theorem putSec_get (K : List UInt8) (s a : Nat) (b : List UInt8) (hK : K.length = 64 * s) (ha : a < s) (hb : b.length = 64) (j : Nat) :
    (putSec K a b)[j]? = if j / 64 = a then b[j % 64]? else K[j]? := by
  have h1 : (K.take (64 * a)).length = 64 * a := by simp [hK]; omega
  rw [putSec, List.append_assoc]
  by_cases h : j < 64 * a
  · rw [List.getElem?_append_left (by rw [h1]; exact h), if_neg (by omega), List.getElem?_take, if_pos h]
  · rw [List.getElem?_append_right (by rw [h1]; omega), h1]
    by_cases h2 : j < 64 * a + 64
    · rw [List.getElem?_append_left (by omega), if_pos (by omega), show j % 64 = j - 64 * a by omega]
    · rw [List.getElem?_append_right (by omega), if_neg (by omega), List.getElem?_drop, hb]
      congr 1
      omega
theorem secAt_get (K : List UInt8) (a j : Nat) (hj : j < 64) : (secAt K a)[j]? = K[64 * a + j]? := by
  rw [secAt, List.getElem?_take, if_pos hj, List.getElem?_drop]
theorem secAt_put (K : List UInt8) (s a : Nat) (b : List UInt8) (hK : K.length = 64 * s) (ha : a < s) (hb : b.length = 64) (c : Nat) (hc : c < s) :
    secAt (putSec K a b) c = if c = a then b else secAt K c := by
  apply List.ext_getElem?
  intro j
  by_cases hj : j < 64
  · rw [secAt_get _ _ _ hj, putSec_get K s a b hK ha hb]
    have e1 : (64 * c + j) / 64 = c := by omega
    have e2 : (64 * c + j) % 64 = j := by omega
    rw [e1, e2]
    by_cases h : c = a
    · rw [if_pos h, if_pos h]
    · rw [if_neg h, if_neg h, secAt_get _ _ _ hj]
  · have l1 := secAt_length (putSec K a b) s c (putSec_length K s a b hK ha hb) hc
    rw [List.getElem?_eq_none (by omega)]
    split
    · rw [List.getElem?_eq_none (by omega)]
    · rw [List.getElem?_eq_none (by rw [secAt_length K s c hK hc]; omega)]
/-- Two rows of s sectors that are one sector by sector are one. -/
theorem secs_ext (K J : List UInt8) (s : Nat) (hK : K.length = 64 * s) (hJ : J.length = 64 * s) (h : ∀ a, a < s → secAt K a = secAt J a) : K = J := by
  apply List.ext_getElem (by omega)
  intro j h1 h2
  have hs := congrArg (fun l => l[j % 64]?) (h (j / 64) (by omega))
  simp only [secAt_get _ _ _ (Nat.mod_lt j (by decide))] at hs
  rw [show 64 * (j / 64) + j % 64 = j by omega, List.getElem?_eq_getElem h1, List.getElem?_eq_getElem h2] at hs
  exact Option.some.inj hs

/-- A pending write. -/
abbrev Pend := Nat × List UInt8
/-- Pending writes of a device of s sectors. -/
def Pends (s : Nat) (W : List Pend) : Prop := ∀ p ∈ W, p.1 < s ∧ p.2.length = 64
/-- Of the pending writes, the first of them the i-th one, those that f tells are kept. -/
def wakeL (f : Nat → Bool) : Nat → List Pend → List UInt8 → List UInt8
  | _, [], K => K
  | i, p :: W, K => wakeL f (i + 1) W (if f i = true then putSec K p.1 p.2 else K)
/-- What stands at sector a behind those that f tells: the last one of them, else as it was. -/
def lastL (f : Nat → Bool) (a : Nat) : Nat → List Pend → List UInt8 → List UInt8
  | _, [], x => x
  | i, p :: W, x => lastL f a (i + 1) W (if f i = true ∧ a = p.1 then p.2 else x)
theorem wakeL_length (f : Nat → Bool) (s : Nat) : ∀ (W : List Pend) (i : Nat) (K : List UInt8), Pends s W → K.length = 64 * s → (wakeL f i W K).length = 64 * s
  | [], _, K, _, hK => hK
  | p :: W, i, K, hW, hK => by
    have hp := hW p (by simp)
    refine wakeL_length f s W (i + 1) _ (fun q hq => hW q (by simp [hq])) ?_
    split
    · exact putSec_length K s p.1 p.2 hK hp.1 hp.2
    · exact hK
theorem wakeL_sec (f : Nat → Bool) (s a : Nat) (ha : a < s) : ∀ (W : List Pend) (i : Nat) (K : List UInt8), Pends s W → K.length = 64 * s → secAt (wakeL f i W K) a = lastL f a i W (secAt K a)
  | [], _, K, _, _ => rfl
  | p :: W, i, K, hW, hK => by
    have hp := hW p (by simp)
    rw [wakeL, lastL]
    by_cases h : f i = true
    · rw [if_pos h, wakeL_sec f s a ha W (i + 1) _ (fun q hq => hW q (by simp [hq])) (putSec_length K s p.1 p.2 hK hp.1 hp.2), secAt_put K s p.1 p.2 hK hp.1 hp.2 a ha]
      by_cases h2 : a = p.1
      · rw [if_pos h2, if_pos ⟨h, h2⟩]
      · rw [if_neg h2, if_neg (fun hh => h2 hh.2)]
    · rw [if_neg h, if_neg (fun hh => h hh.1)]
      exact wakeL_sec f s a ha W (i + 1) K (fun q hq => hW q (by simp [hq])) hK
/-- It is as it was, or whole as one of its pending writes. -/
theorem lastL_one (f : Nat → Bool) (a : Nat) : ∀ (W : List Pend) (i : Nat) (x : List UInt8), lastL f a i W x = x ∨ ∃ p ∈ W, p.1 = a ∧ lastL f a i W x = p.2
  | [], _, x => .inl rfl
  | p :: W, i, x => by
    rw [lastL]
    rcases lastL_one f a W (i + 1) (if f i = true ∧ a = p.1 then p.2 else x) with h | ⟨q, hq, h1, h2⟩
    · rw [h]
      split
      · next hh => exact .inr ⟨p, by simp, hh.2.symm, rfl⟩
      · exact .inl rfl
    · exact .inr ⟨q, by simp [hq], h1, h2⟩
/-- By no bits it is as it was. -/
theorem lastL_none (f : Nat → Bool) (hf : ∀ i, f i = false) (a : Nat) : ∀ (W : List Pend) (i : Nat) (x : List UInt8), lastL f a i W x = x
  | [], _, x => rfl
  | p :: W, i, x => by
    rw [lastL, if_neg (by rw [hf]; simp)]
    exact lastL_none f hf a W (i + 1) x
theorem wakeL_none (f : Nat → Bool) (hf : ∀ i, f i = false) : ∀ (W : List Pend) (i : Nat) (K : List UInt8), wakeL f i W K = K
  | [], _, K => rfl
  | p :: W, i, K => by
    rw [wakeL, if_neg (by rw [hf]; simp)]
    exact wakeL_none f hf W (i + 1) K
/-- One pending write more. -/
theorem wakeL_snoc (f : Nat → Bool) (p : Pend) : ∀ (W : List Pend) (i : Nat) (K : List UInt8), wakeL f i (W ++ [p]) K = if f (i + W.length) = true then putSec (wakeL f i W K) p.1 p.2 else wakeL f i W K
  | [], i, K => by simp [wakeL]
  | q :: W, i, K => by
    rw [List.cons_append, wakeL, wakeL, wakeL_snoc f p W (i + 1), List.length_cons, show i + 1 + W.length = i + (W.length + 1) by omega]
theorem lastL_snoc (f : Nat → Bool) (a : Nat) (p : Pend) : ∀ (W : List Pend) (i : Nat) (x : List UInt8), lastL f a i (W ++ [p]) x = if f (i + W.length) = true ∧ a = p.1 then p.2 else lastL f a i W x
  | [], i, x => by simp [lastL]
  | q :: W, i, x => by
    rw [List.cons_append, lastL, lastL, lastL_snoc f a p W (i + 1), List.length_cons, show i + 1 + W.length = i + (W.length + 1) by omega]

/-- Bit i of keep. -/
def bitOf (keep : Int) (i : Nat) : Bool := decide (keep / 2 ^ (i % 62) % 2 = 1)
theorem bitOf_zero (i : Nat) : bitOf 0 i = false := by simp [bitOf]
theorem bits_all : ∀ k : Fin 62, (-1 : Int) / 2 ^ k.val % 2 = 1 := by decide +kernel
theorem bitOf_all (i : Nat) : bitOf (-1) i = true := by
  rw [bitOf, decide_eq_true_iff]
  exact bits_all ⟨i % 62, Nat.mod_lt _ (by decide)⟩

/-- A device, as the document tells of it. -/
structure Dv where
  all : List UInt8
  waits : List Pend
  deeds : Nat
  left : Nat
  down : Bool
/-- A device of s sectors that is right. -/
structure Dv.Right (d : Dv) (s : Nat) : Prop where
  all : d.all.length = 64 * s
  waits : Pends s d.waits
/-- What is seen of a sector. -/
def Dv.seen (d : Dv) (a : Nat) : List UInt8 := lastL (fun _ => true) a 0 d.waits (secAt d.all a)
/-- A deed begins: none where the fuse is out. -/
def Dv.deed (d : Dv) : Bool × Dv := if d.left = 1 then (false, { d with left := 0, down := true }) else (true, { d with left := d.left - 1, deeds := d.deeds + 1 })
def Dv.write (d : Dv) (s : Nat) (a : Int) (b : List UInt8) : Int × Dv :=
  if d.down = true then (10, d) else if a < 0 ∨ (s : Int) ≤ a ∨ 64 < b.length then (2, d) else
    match d.deed with
    | (false, d) => (10, d)
    | (true, d) => (0, { d with waits := d.waits ++ [(a.toNat, full64 b)] })
def Dv.flush (d : Dv) : Int × Dv :=
  if d.down = true then (10, d) else
    match d.deed with
    | (false, d) => (10, d)
    | (true, d) => (0, { d with all := wakeL (fun _ => true) 0 d.waits d.all, waits := [] })
def Dv.fuse (d : Dv) (n : Int) : Int × Dv := if d.down = true then (10, d) else (0, { d with left := n.toNat })
def Dv.crash (d : Dv) : Int × Dv := if d.down = true then (10, d) else (0, { d with down := true })
def Dv.wake (d : Dv) (keep : Int) : Int × Dv := if d.down = true then (0, { d with all := wakeL (bitOf keep) 0 d.waits d.all, waits := [], left := 0, down := false }) else (15, d)

/-- Flushed, each sector is what was seen of it. -/
theorem Dv.flushed (d : Dv) (s a : Nat) (h : d.Right s) (ha : a < s) : secAt (wakeL (fun _ => true) 0 d.waits d.all) a = d.seen a := wakeL_sec _ s a ha d.waits 0 d.all h.waits h.all
theorem Dv.Right.write {d : Dv} {s : Nat} (h : d.Right s) (a : Int) (b : List UInt8) : (d.write s a b).2.Right s := by
  unfold Dv.write
  split
  · exact h
  · split
    · exact h
    · next hn =>
      unfold Dv.deed
      by_cases hl : d.left = 1
      · simp only [if_pos hl]
        exact ⟨h.all, h.waits⟩
      · simp only [if_neg hl]
        refine ⟨h.all, fun p hp => ?_⟩
        rcases List.mem_append.1 hp with hp | hp
        · exact h.waits p hp
        · obtain rfl := List.mem_singleton.1 hp
          exact ⟨by simp only; omega, full64_length b (by omega)⟩
theorem Dv.Right.flush {d : Dv} {s : Nat} (h : d.Right s) : d.flush.2.Right s := by
  unfold Dv.flush
  split
  · exact h
  · unfold Dv.deed
    by_cases hl : d.left = 1
    · simp only [if_pos hl]
      exact ⟨h.all, h.waits⟩
    · simp only [if_neg hl]
      exact ⟨wakeL_length _ s d.waits 0 d.all h.waits h.all, fun p hp => by cases hp⟩
theorem Dv.Right.wake {d : Dv} {s : Nat} (h : d.Right s) (keep : Int) : (d.wake keep).2.Right s := by
  unfold Dv.wake
  split
  · exact ⟨wakeL_length _ s d.waits 0 d.all h.waits h.all, fun p hp => by cases hp⟩
  · exact h
theorem Dv.Right.fuse {d : Dv} {s : Nat} (h : d.Right s) (n : Int) : (d.fuse n).2.Right s := by
  unfold Dv.fuse
  split
  · exact h
  · exact ⟨h.all, h.waits⟩
theorem Dv.Right.crash {d : Dv} {s : Nat} (h : d.Right s) : d.crash.2.Right s := by
  unfold Dv.crash
  split
  · exact h
  · exact ⟨h.all, h.waits⟩
end Go.Proofs.Ythmcmomkomhilaa
