import Derived.Test.YtoeimngbpagegaaDoorBase
namespace Go.Proofs.YtoeimngbpagegaaDoor

/-- None, or all, of p 0 .. p (k-1). -/
def NoneLt (p : Nat → Bool) (k : Nat) : Prop := ∀ g, g < k → p g = false
def AllLt (p : Nat → Bool) (k : Nat) : Prop := ∀ g, g < k → p g = true
def anyB (p : Nat → Bool) : Nat → Bool
  | 0 => false
  | k + 1 => anyB p k || p k
def allB (p : Nat → Bool) : Nat → Bool
  | 0 => true
  | k + 1 => allB p k && p k
theorem NoneLt.zero {p : Nat → Bool} : NoneLt p 0 := fun _ h => absurd h (by omega)
theorem AllLt.zero {p : Nat → Bool} : AllLt p 0 := fun _ h => absurd h (by omega)
theorem NoneLt.succ {p : Nat → Bool} {k : Nat} (h : NoneLt p k) (h1 : p k = false) : NoneLt p (k + 1) := fun j hj => by
  rcases Nat.lt_or_ge j k with hl | hl
  · exact h j hl
  · obtain rfl : j = k := by omega
    exact h1
theorem AllLt.succ {p : Nat → Bool} {k : Nat} (h : AllLt p k) (h1 : p k = true) : AllLt p (k + 1) := fun j hj => by
  rcases Nat.lt_or_ge j k with hl | hl
  · exact h j hl
  · obtain rfl : j = k := by omega
    exact h1
theorem anyB_f {p : Nat → Bool} {n : Nat} (h : NoneLt p n) : anyB p n = false := by
  induction n with
  | zero => rfl
  | succ k ih => simp [anyB, ih (fun g hg => h g (by omega)), h k (by omega)]
theorem allB_t {p : Nat → Bool} {n : Nat} (h : AllLt p n) : allB p n = true := by
  induction n with
  | zero => rfl
  | succ k ih => simp [allB, ih (fun g hg => h g (by omega)), h k (by omega)]
theorem anyB_t {p : Nat → Bool} {n g : Nat} (hg : g < n) (h : p g = true) : anyB p n = true := by
  induction n with
  | zero => omega
  | succ k ih =>
    rcases Nat.lt_or_ge g k with hl | hl
    · simp [anyB, ih hl]
    · obtain rfl : g = k := by omega
      simp [anyB, h]
theorem allB_f {p : Nat → Bool} {n g : Nat} (hg : g < n) (h : p g = false) : allB p n = false := by
  induction n with
  | zero => omega
  | succ k ih =>
    rcases Nat.lt_or_ge g k with hl | hl
    · simp [allB, ih hl]
    · obtain rfl : g = k := by omega
      simp [allB, h]
theorem anyB_iff {p : Nat → Bool} {n : Nat} : anyB p n = true ↔ ∃ g, g < n ∧ p g = true := by
  constructor
  · intro h
    induction n with
    | zero => simp [anyB] at h
    | succ k ih =>
      simp only [anyB, Bool.or_eq_true] at h
      rcases h with h | h
      · obtain ⟨g, h1, h2⟩ := ih h
        exact ⟨g, by omega, h2⟩
      · exact ⟨k, by omega, h⟩
  · rintro ⟨g, h1, h2⟩
    exact anyB_t h1 h2
theorem allB_iff {p : Nat → Bool} {n : Nat} : allB p n = true ↔ ∀ g, g < n → p g = true := by
  constructor
  · intro h g hg
    cases e : p g with
    | true => rfl
    | false => rw [allB_f hg e] at h; cases h
  · exact fun h => allB_t h
theorem allB_congr {p q : Nat → Bool} {n : Nat} (h : ∀ g, g < n → p g = q g) : allB p n = allB q n := by
  induction n with
  | zero => rfl
  | succ k ih => simp [allB, ih (fun g hg => h g (by omega)), h k (by omega)]
theorem anyB_congr {p q : Nat → Bool} {n : Nat} (h : ∀ g, g < n → p g = q g) : anyB p n = anyB q n := by
  induction n with
  | zero => rfl
  | succ k ih => simp [anyB, ih (fun g hg => h g (by omega)), h k (by omega)]
end Go.Proofs.YtoeimngbpagegaaDoor
