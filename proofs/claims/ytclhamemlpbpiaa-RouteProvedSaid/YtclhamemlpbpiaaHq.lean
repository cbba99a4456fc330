/- The program's steps and the reference's step agree. -/
import Derived.Test.YtclhamemlpbpiaaHl
import Derived.Test.YtclhamemlpbpiaaHh
namespace Go.Proofs.Ytclhamemlpbpiaa

theorem stR_sym (F : Nat → Nat → Int) (k : Nat) (x y : Int) : stR F x y k = stR F y x k := by
  induction k with
  | zero => rfl
  | succ k ih =>
    have e : jnP F x y k ↔ jnP F y x k := by
      unfold jnP
      omega
    rw [stR, stR, ih]
    by_cases h : jnP F y x k ∧ (stR F y x k < 0 ∨ F k 2 < stR F y x k)
    · rw [if_pos h, if_pos ⟨e.2 h.1, h.2⟩]
    · rw [if_neg h, if_neg (fun h2 => h ⟨e.1 h2.1, h2.2⟩)]
/-- The table after k roads, off the diagonal. -/
theorem rS_stR {n m : Nat} {F : Nat → Nat → Int} (hok : okM n m F = true) : ∀ k, k ≤ m → ∀ x y, x < n → y < n → x ≠ y → rS F (iA n (fun _ => 0) n) k (8 * x + y) = if stR F x y k < 0 then 400 else stR F x y k := by
  obtain ⟨⟨-, hn8⟩, -, hrd⟩ := okM_iff.1 hok
  have hn8 : n ≤ 8 := by omega
  intro k
  induction k with
  | zero =>
    intro _ x y hx hy hxy
    rw [rS, iA_at hn8 n (Nat.le_refl _) x y (by omega) (by omega), if_pos ⟨hx, hy, hxy⟩]
    simp [stR]
  | succ k ih =>
    intro hk x y hx hy hxy
    obtain ⟨⟨a0, a1⟩, ⟨b0, b1⟩, hab, c1, c50⟩ := hrd k (by omega)
    obtain ⟨a, ha⟩ : ∃ a : Nat, F k 0 = a := ⟨(F k 0).toNat, by omega⟩
    obtain ⟨b, hb⟩ : ∃ b : Nat, F k 1 = b := ⟨(F k 1).toNat, by omega⟩
    have ih := ih (by omega)
    have hs := stR_sym F k x y
    have hj : jnP F x y k ↔ (x = a ∧ y = b) ∨ (x = b ∧ y = a) := by
      unfold jnP
      omega
    have iab := ih a b (by omega) (by omega) (by omega)
    have ixy := ih x y hx hy hxy
    rw [rS, stR, show (F k 0).toNat = a by omega, show (F k 1).toNat = b by omega, upd_cell _ (by omega) (by omega), upd_cell _ (by omega) (by omega), iab]
    by_cases h1 : x = b ∧ y = a
    · obtain ⟨rfl, rfl⟩ := h1
      rw [if_pos ⟨rfl, rfl⟩]
      have hjj := hj.2 (.inr ⟨rfl, rfl⟩)
      rw [← hs]
      generalize stR F x y k = s at *
      by_cases h2 : s < 0
      · rw [if_pos h2, show (if jnP F x y k ∧ (s < 0 ∨ F k 2 < s) then F k 2 else s) = F k 2 from if_pos ⟨hjj, .inl h2⟩, if_neg (by omega)]
        omega
      · rw [if_neg h2]
        by_cases h3 : F k 2 < s
        · rw [show (if jnP F x y k ∧ (s < 0 ∨ F k 2 < s) then F k 2 else s) = F k 2 from if_pos ⟨hjj, .inr h3⟩, if_neg (by omega)]
          omega
        · rw [show (if jnP F x y k ∧ (s < 0 ∨ F k 2 < s) then F k 2 else s) = s from if_neg (fun h => by rcases h.2 with h | h <;> omega), if_neg h2]
          omega
    · rw [if_neg h1]
      by_cases h2 : x = a ∧ y = b
      · obtain ⟨rfl, rfl⟩ := h2
        rw [if_pos ⟨rfl, rfl⟩]
        have hjj := hj.2 (.inl ⟨rfl, rfl⟩)
        generalize stR F x y k = s at *
        by_cases h2 : s < 0
        · rw [if_pos h2, show (if jnP F x y k ∧ (s < 0 ∨ F k 2 < s) then F k 2 else s) = F k 2 from if_pos ⟨hjj, .inl h2⟩, if_neg (by omega)]
          omega
        · rw [if_neg h2]
          by_cases h3 : F k 2 < s
          · rw [show (if jnP F x y k ∧ (s < 0 ∨ F k 2 < s) then F k 2 else s) = F k 2 from if_pos ⟨hjj, .inr h3⟩, if_neg (by omega)]
            omega
          · rw [show (if jnP F x y k ∧ (s < 0 ∨ F k 2 < s) then F k 2 else s) = s from if_neg (fun h => by rcases h.2 with h | h <;> omega), if_neg h2]
            omega
      · rw [if_neg h2, ixy, show (if jnP F x y k ∧ (stR F x y k < 0 ∨ F k 2 < stR F x y k) then F k 2 else stR F x y k) = stR F x y k from if_neg (fun h => by
          rcases hj.1 h.1 with h | h
          · exact h2 h
          · exact h1 h)]
theorem stT_stR {n m : Nat} {F : Nat → Nat → Int} (hok : okM n m F = true) {x y : Nat} (hx : x < n) (hy : y < n) (hxy : x ≠ y) : stT n m F (8 * x + y) = if stR F x y m < 0 then 400 else stR F x y m :=
  rS_stR hok m (Nat.le_refl _) x y hx hy hxy
/-- A road's cost is at least the step's. -/
theorem stR_none {n m : Nat} {F : Nat → Nat → Int} (hok : okM n m F = true) (x : Nat) : ∀ k, k ≤ m → stR F x x k = -1 := by
  obtain ⟨-, -, hrd⟩ := okM_iff.1 hok
  intro k
  induction k with
  | zero => intro _; rfl
  | succ k ih =>
    intro hk
    have h1 := (hrd k (by omega)).2.2.1
    rw [stR, ih (by omega), if_neg]
    unfold jnP
    omega
theorem stR_rng {n m : Nat} {F : Nat → Nat → Int} (hok : okM n m F = true) (x y : Int) : ∀ k, k ≤ m → -1 ≤ stR F x y k ∧ stR F x y k ≤ 50 ∧ stR F x y k ≠ 0 := by
  obtain ⟨-, -, hrd⟩ := okM_iff.1 hok
  intro k
  induction k with
  | zero => intro _; exact ⟨by simp [stR], by simp [stR], by simp [stR]⟩
  | succ k ih =>
    intro hk
    have h1 := (hrd k (by omega)).2.2.2
    have h2 := ih (by omega)
    rw [stR]
    by_cases h3 : jnP F x y k ∧ (stR F x y k < 0 ∨ F k 2 < stR F x y k)
    · rw [if_pos h3]
      omega
    · rw [if_neg h3]
      exact h2
end Go.Proofs.Ytclhamemlpbpiaa
