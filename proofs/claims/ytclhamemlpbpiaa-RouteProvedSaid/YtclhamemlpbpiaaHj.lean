/- The steps' table, and the distances are a metric. -/
import Derived.Test.YtclhamemlpbpiaaHi
import Derived.Test.YtclhamemlpbpiaaHg
namespace Go.Proofs.Ytclhamemlpbpiaa

theorem iB_at {a : Nat} {T : Nat → Int} : ∀ b, b ≤ 8 → ∀ x y, x < 8 → y < 8 → iB a T b (8 * x + y) = if x = a ∧ y < b ∧ a ≠ y then 400 else T (8 * x + y) := by
  intro b
  induction b with
  | zero =>
    intro _ x y _ _
    rw [if_neg (by omega)]
    rfl
  | succ b ih =>
    intro hb x y hx hy
    have ih := ih (by omega) x y hx hy
    rw [iB]
    by_cases hab : a = b
    · rw [if_pos hab, ih]
      by_cases h : x = a ∧ y < b ∧ a ≠ y
      · rw [if_pos h, if_pos ⟨h.1, by omega, h.2.2⟩]
      · rw [if_neg h, if_neg (by omega)]
    · rw [if_neg hab, upd_cell _ (by omega) hy]
      by_cases e : x = a ∧ y = b
      · rw [if_pos e, if_pos (by omega)]
      · rw [if_neg e, ih]
        by_cases h : x = a ∧ y < b ∧ a ≠ y
        · rw [if_pos h, if_pos ⟨h.1, by omega, h.2.2⟩]
        · rw [if_neg h, if_neg (by omega)]
theorem iA_at {n : Nat} (hn : n ≤ 8) {T : Nat → Int} : ∀ a, a ≤ n → ∀ x y, x < 8 → y < 8 → iA n T a (8 * x + y) = if x < a ∧ y < n ∧ x ≠ y then 400 else T (8 * x + y) := by
  intro a
  induction a with
  | zero =>
    intro _ x y _ _
    rw [if_neg (by omega)]
    rfl
  | succ a ih =>
    intro ha x y hx hy
    rw [iA, iB_at n hn x y hx hy, ih (by omega) x y hx hy]
    by_cases h : x = a ∧ y < n ∧ a ≠ y
    · rw [if_pos h, if_pos (by omega)]
    · rw [if_neg h]
      by_cases h2 : x < a ∧ y < n ∧ x ≠ y
      · rw [if_pos h2, if_pos (by omega)]
      · rw [if_neg h2, if_neg (by omega)]
theorem met_road {n a b : Nat} {T : Nat → Int} {c : Int} (hn8 : n ≤ 8) (ha : a < n) (hb : b < n) (hab : a ≠ b) (hc : 1 ≤ c) (h : Met n T 0) : Met n (upd (upd T (8 * a + b) (min (T (8 * a + b)) c)) (8 * b + a) (min (T (8 * a + b)) c)) 0 := by
  have hp := h.off a b ha hb hab
  have hat : ∀ x y, x < n → y < n → upd (upd T (8 * a + b) (min (T (8 * a + b)) c)) (8 * b + a) (min (T (8 * a + b)) c) (8 * x + y) = if (x = a ∧ y = b) ∨ (x = b ∧ y = a) then min (T (8 * a + b)) c else T (8 * x + y) := fun x y hx hy => by
    rw [upd_cell _ (by omega) (by omega)]
    by_cases e : x = b ∧ y = a
    · rw [if_pos e, if_pos (.inr e)]
    · rw [if_neg e, upd_cell _ (by omega) (by omega)]
      by_cases e2 : x = a ∧ y = b
      · rw [if_pos e2, if_pos (.inl e2)]
      · rw [if_neg e2, if_neg (fun h => by rcases h with h | h; exact e2 h; exact e h)]
  refine ⟨fun i => ?_, fun x hx => ?_, fun x y hx hy hxy => ?_, fun x y hx hy => ?_, fun u hu => absurd hu (Nat.not_lt_zero _)⟩
  · have := h.nn i
    unfold upd
    split
    · omega
    · split <;> omega
  · rw [hat x x hx hx, if_neg (by omega)]
    exact h.diag x hx
  · rw [hat x y hx hy]
    have := h.off x y hx hy hxy
    split <;> omega
  · rw [hat x y hx hy, hat y x hy hx, h.sym x y hx hy]
    by_cases e : (x = a ∧ y = b) ∨ (x = b ∧ y = a)
    · rw [if_pos e, if_pos (by omega)]
    · rw [if_neg e, if_neg (by omega)]
theorem stT_met {n m : Nat} {F : Nat → Nat → Int} (hok : okM n m F = true) : Met n (stT n m F) 0 := by
  obtain ⟨⟨-, hn8⟩, -, hrd⟩ := okM_iff.1 hok
  have hn8 : n ≤ 8 := by omega
  have hat := iA_at hn8 (T := fun _ => 0) n (Nat.le_refl _)
  have key : ∀ k, k ≤ m → Met n (rS F (iA n (fun _ => 0) n) k) 0 := by
    intro k
    induction k with
    | zero =>
      intro _
      refine ⟨fun i => (iA_bd (fun _ => ⟨Int.le_refl _, by omega⟩) n i).1, fun x hx => ?_, fun x y hx hy hxy => ?_, fun x y hx hy => ?_, fun u hu => absurd hu (Nat.not_lt_zero _)⟩
      · rw [rS, hat x x (by omega) (by omega), if_neg (by omega)]
      · rw [rS, hat x y (by omega) (by omega), if_pos ⟨hx, hy, hxy⟩]
        omega
      · rw [rS, hat x y (by omega) (by omega), hat y x (by omega) (by omega)]
        by_cases e : x = y
        · rw [if_neg (by omega), if_neg (by omega)]
        · rw [if_pos (by omega), if_pos (by omega)]
    | succ k ih =>
      intro hk
      obtain ⟨h1, h2, h3, h4, h5⟩ := hrd k (by omega)
      rw [rS]
      exact met_road hn8 (by omega) (by omega) (by omega) h4 (ih (by omega))
  exact key m (Nat.le_refl _)
theorem dsT_met {n m : Nat} {F : Nat → Nat → Int} (hok : okM n m F = true) : Met n (dsT n m F) n :=
  dS_met (by have := (okM_iff.1 hok).1; omega) (stT_met hok) n (Nat.le_refl _)
theorem dsT_bd {n m : Nat} {F : Nat → Nat → Int} (hok : okM n m F = true) : BT (dsT n m F) :=
  dS_bd (stT_bd (fun k hk => by have := (okM_iff.1 hok).2.2 k hk; omega)) n
end Go.Proofs.Ytclhamemlpbpiaa
