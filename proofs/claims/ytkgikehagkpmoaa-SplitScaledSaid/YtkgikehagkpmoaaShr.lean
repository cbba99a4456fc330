import Derived.Test.YtkgikehagkpmoaaRowI
import Derived.Test.YtkgikehagkpmoaaT2
namespace Go.Proofs.Ytkgikehagkpmoaa

/-- The least of S 0 .. S n. -/
def lowT (S : Nat → Int) : Nat → Int
  | 0 => S 0
  | n + 1 => min (lowT S n) (S (n + 1))
theorem lowT_le (S : Nat → Int) (n : Nat) : ∀ p, p ≤ n → lowT S n ≤ S p := by
  induction n with
  | zero => intro p hp; obtain rfl : p = 0 := by omega
            exact Int.le_refl _
  | succ n ih =>
    intro p hp
    simp only [lowT]
    rcases Nat.lt_or_ge n p with h | h
    · obtain rfl : p = n + 1 := by omega
      omega
    · have := ih p h
      omega
theorem lowT_ge {S : Nat → Int} {x : Int} (n : Nat) (h : ∀ p, p ≤ n → x ≤ S p) : x ≤ lowT S n := by
  induction n with
  | zero => exact h 0 (by omega)
  | succ n ih =>
    have h1 := ih (fun p hp => h p (by omega))
    have h2 := h (n + 1) (by omega)
    simp only [lowT]
    omega
theorem lowT_congr {S S' : Nat → Int} {n : Nat} (h : ∀ p, p ≤ n → S p = S' p) : lowT S n = lowT S' n := by
  induction n with
  | zero => exact h 0 (by omega)
  | succ n ih => simp only [lowT]; rw [ih (fun p hp => h p (by omega)), h (n + 1) (by omega)]
theorem lowT_some (S : Nat → Int) (n : Nat) : ∃ p, p ≤ n ∧ lowT S n = S p := by
  induction n with
  | zero => exact ⟨0, Nat.le_refl _, rfl⟩
  | succ n ih =>
    obtain ⟨p, hp, e⟩ := ih
    simp only [lowT]
    rcases Int.lt_or_le (S (n + 1)) (lowT S n) with h | h
    · exact ⟨n + 1, Nat.le_refl _, by omega⟩
    · exact ⟨p, by omega, by omega⟩

/-- The greatest of s and f 0 .. f (c - 1). -/
def mxf (s : Int) (f : Nat → Int) : Nat → Int
  | 0 => s
  | c + 1 => max (mxf s f c) (f c)
theorem mxf_ge0 (s : Int) (f : Nat → Int) (c : Nat) : s ≤ mxf s f c := by
  induction c with
  | zero => exact Int.le_refl _
  | succ c ih => simp only [mxf]; omega
theorem mxf_ge (s : Int) (f : Nat → Int) (c : Nat) : ∀ p, p < c → f p ≤ mxf s f c := by
  induction c with
  | zero => intro p hp; omega
  | succ c ih =>
    intro p hp
    simp only [mxf]
    rcases Nat.lt_or_ge p c with h | h
    · have := ih p h
      omega
    · obtain rfl : p = c := by omega
      omega
theorem mxf_le {s x : Int} {f : Nat → Int} (c : Nat) (hs : s ≤ x) (h : ∀ p, p < c → f p ≤ x) : mxf s f c ≤ x := by
  induction c with
  | zero => exact hs
  | succ c ih =>
    have h1 := ih (fun p hp => h p (by omega))
    have h2 := h c (by omega)
    simp only [mxf]
    omega
/-- Begun from s in the place of 0. -/
theorem mxf_from {s : Int} {f : Nat → Int} {c : Nat} (hc : 0 < c) (h : ∀ p, p < c → 0 ≤ f p) : mxf s f c = max s (mxf 0 f c) := by
  have h1 := mxf_ge0 s f c
  have h2 := mxf_ge s f c
  have h3 := mxf_ge0 0 f c
  have h4 := mxf_ge 0 f c
  have h0 := h 0 hc
  have h5 := h2 0 hc
  have h6 : mxf 0 f c ≤ mxf s f c := mxf_le c (by omega) h2
  have h7 : mxf s f c ≤ max s (mxf 0 f c) := mxf_le c (by omega) (fun p hp => by have := h4 p hp; omega)
  omega
theorem mxf_congr {s : Int} {f g : Nat → Int} {c : Nat} (h : ∀ p, p < c → f p = g p) : mxf s f c = mxf s g c := by
  induction c with
  | zero => rfl
  | succ c ih => simp only [mxf]; rw [ih (fun p hp => h p (by omega)), h c (by omega)]

/-- Part p gets x more. -/
def addAt (S : Nat → Int) (p : Nat) (x : Int) : Nat → Int := fun q => if q = p then S q + x else S q
theorem addAt_at (S : Nat → Int) (p : Nat) (x : Int) : addAt S p x p = S p + x := by simp [addAt]
theorem addAt_ne (S : Nat → Int) {p q : Nat} (x : Int) (h : q ≠ p) : addAt S p x q = S q := by simp [addAt, h]

/-- The share: k goods, worth f 0 .. f (k - 1), are still to be put into the n + 1 parts, which are worth S; 'used' of these have something. -/
def shR (n : Nat) : Nat → (Nat → Int) → (Nat → Int) → Nat → Int
  | 0, _, S, _ => lowT S n
  | k + 1, f, S, used => mxf 0 (fun p => shR n k (fun j => f (j + 1)) (addAt S p (f 0)) (max used (p + 1))) (min (used + 1) (n + 1))

theorem shR_congr (n : Nat) : ∀ (k : Nat) (f g S S' : Nat → Int) (used : Nat), (∀ j, j < k → f j = g j) → (∀ p, p ≤ n → S p = S' p) → shR n k f S used = shR n k g S' used := by
  intro k
  induction k with
  | zero => intro f g S S' used hf hS; exact lowT_congr hS
  | succ k ih =>
    intro f g S S' used hf hS
    simp only [shR]
    refine mxf_congr fun p hp => ih _ _ _ _ _ (fun j hj => hf (j + 1) (by omega)) (fun q hq => ?_)
    simp only [addAt, hf 0 (by omega), hS q hq]
theorem shR_nn (n : Nat) : ∀ (k : Nat) (f S : Nat → Int) (used : Nat), (∀ j, j < k → 0 ≤ f j) → (∀ p, p ≤ n → 0 ≤ S p) → 0 ≤ shR n k f S used := by
  intro k
  induction k with
  | zero => intro f S used hf hS; exact lowT_ge n hS
  | succ k ih => intro f S used hf hS; exact mxf_ge0 _ _ _
/-- More in the parts, and as many that have something, make no smaller share; the last part's goods may go to the first one. -/
theorem shR_mono : ∀ (k : Nat) (n n' : Nat) (f S S' : Nat → Int) (used used' : Nat), (∀ j, j < k → 0 ≤ f j) → (∀ p, p ≤ n' → 0 ≤ S' p) → n' ≤ n → n ≤ n' + 1 → (∀ p, p ≤ n' → S p ≤ S' p) → used ≤ n + 1 → min used (n' + 1) ≤ used' → used' ≤ n' + 1 → shR n k f S used ≤ shR n' k f S' used' := by
  intro k
  induction k with
  | zero => intro n n' f S S' used used' hf hS' h1 h2 hS hu hu' hu2; exact lowT_ge n' fun p hp => Int.le_trans (lowT_le S n p (by omega)) (hS p hp)
  | succ k ih =>
    intro n n' f S S' used used' hf hS' h1 h2 hS hu hu' hu2
    simp only [shR]
    have h0 := hf 0 (by omega)
    refine mxf_le _ (mxf_ge0 _ _ _) fun p hp => ?_
    have hn : ∀ q, ∀ r, r ≤ n' → 0 ≤ addAt S' q (f 0) r := fun q r hr => by
      have := hS' r hr
      simp only [addAt]
      split <;> omega
    rcases Nat.lt_or_ge n' p with h | h
    · refine Int.le_trans (ih n n' _ _ (addAt S' 0 (f 0)) _ (max used' (0 + 1)) (fun j hj => hf (j + 1) (by omega)) (hn 0) h1 h2 (fun q hq => ?_) (by omega) (by omega) (by omega)) (mxf_ge 0 (fun p => shR n' k (fun j => f (j + 1)) (addAt S' p (f 0)) (max used' (p + 1))) _ 0 (by omega))
      have := hS q hq
      rw [addAt_ne S (f 0) (show q ≠ p by omega)]
      simp only [addAt]
      split <;> omega
    · refine Int.le_trans (ih n n' _ _ (addAt S' p (f 0)) _ (max used' (p + 1)) (fun j hj => hf (j + 1) (by omega)) (hn p) h1 h2 (fun q hq => ?_) (by omega) (by omega) (by omega)) (mxf_ge 0 (fun p => shR n' k (fun j => f (j + 1)) (addAt S' p (f 0)) (max used' (p + 1))) _ p (by omega))
      have := hS q hq
      simp only [addAt]
      split <;> omega
/-- A good more makes no share smaller. -/
theorem shR_more (k n : Nat) (f S : Nat → Int) (used : Nat) (hf : ∀ j, j < k + 1 → 0 ≤ f j) (hS : ∀ p, p ≤ n → 0 ≤ S p) (hu : used ≤ n + 1) : shR n k (fun j => f (j + 1)) S used ≤ shR n (k + 1) f S used := by
  have h0 := hf 0 (by omega)
  have hn : ∀ p, p ≤ n → S p ≤ addAt S 0 (f 0) p := fun p hp => by
    simp only [addAt]
    split <;> omega
  refine Int.le_trans (shR_mono k n n _ S (addAt S 0 (f 0)) used (max used (0 + 1)) (fun j hj => hf (j + 1) (by omega)) (fun p hp => Int.le_trans (hS p hp) (hn p hp)) (Nat.le_refl _) (by omega) hn hu (by omega) (by omega)) ?_
  simp only [shR]
  exact mxf_ge 0 (fun p => shR n k (fun j => f (j + 1)) (addAt S p (f 0)) (max used (p + 1))) _ 0 (by omega)
end Go.Proofs.Ytkgikehagkpmoaa
