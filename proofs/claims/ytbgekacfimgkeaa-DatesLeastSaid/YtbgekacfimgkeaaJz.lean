/- Orders that keep befores, and the table of the least greatest delays: plain words. -/
import Derived.Test.YtbgekacfimgkeaaJy
import Derived.Test.YtbgekacfimgkeaaJk
namespace Go.Proofs.Ytbgekacfimgkeaa

theorem andNot_key : ∀ a, a < 256 → ∀ b, b < 256 → decide (bits .andNot .i64 ((a : Nat) : Int) ((b : Nat) : Int) = 0) = decide (a &&& b = a) := by decide +kernel
theorem andNot_sub : ∀ a, a < 256 → ∀ b, b < 256 → bits .andNot .i64 ((a : Nat) : Int) ((b : Nat) : Int) = 0 → ∀ i, i < 8 → btN a i = true → btN b i = true := by
  intro a ha b hb h i hi hbit
  have h1 := andNot_key a ha b hb
  rw [decide_eq_true h] at h1
  have h2 : a &&& b = a := of_decide_eq_true h1.symm
  have h3 : ∀ x j, btN x j = x.testBit j := fun x j => by
    unfold btN
    rw [Nat.testBit_eq_decide_div_mod_eq]
  rw [h3] at hbit ⊢
  rw [← h2, Nat.testBit_and] at hbit
  exact (Bool.and_eq_true_iff.1 hbit).2
theorem sub_andNot : ∀ a, a < 256 → ∀ b, b < 256 → (∀ i, i < 8 → btN a i = true → btN b i = true) → bits .andNot .i64 ((a : Nat) : Int) ((b : Nat) : Int) = 0 := by
  intro a ha b hb h
  have h3 : ∀ x j, btN x j = x.testBit j := fun x j => by
    unfold btN
    rw [Nat.testBit_eq_decide_div_mod_eq]
  have h2 : a &&& b = a := by
    refine Nat.eq_of_testBit_eq (fun i => ?_)
    rw [Nat.testBit_and]
    cases hx : a.testBit i with
    | false => rfl
    | true =>
      have hi : i < 8 := by
        rcases Nat.lt_or_ge i 8 with h4 | h4
        · exact h4
        · exfalso
          have := Nat.pow_le_pow_right (n := 2) (by omega) h4
          rw [Nat.testBit_lt_two_pow (by omega)] at hx
          cases hx
      have := h i hi (by rw [h3]; exact hx)
      rw [h3] at this
      rw [this]
      rfl
  exact of_decide_eq_true ((andNot_key a ha b hb).trans (decide_eq_true h2))
theorem cf_iff {N : Nat → Nat} {s j : Nat} (hN : N j < 256) (hs : s < 256) : cfB N s j = true ↔ btN s j = false ∧ ∀ i, i < 8 → btN (N j) i = true → btN s i = true := by
  unfold cfB
  rw [Bool.and_eq_true_iff]
  constructor
  · rintro ⟨h1, h2⟩
    exact ⟨by simpa using h1, andNot_sub _ hN _ hs (of_decide_eq_true h2)⟩
  · rintro ⟨h1, h2⟩
    exact ⟨by rw [h1]; rfl, decide_eq_true (sub_andNot _ hN _ hs h2)⟩

section
variable {n : Nat} {J : Nat → Nat → Int} {N : Nat → Nat}
theorem mnR_congr' (hn : n ≤ 8) {d e : Nat → Int} {s : Nat} (hs : s < 2 ^ n - 1) (hde : ∀ u, s < u → u < 2 ^ n → d u = e u) : ∀ k, k ≤ n → mnR n J N d s k = mnR n J N e s k := by
  have hp := Nat.pow_le_pow_right (n := 2) (by omega) hn
  intro k
  induction k with
  | zero => intro _; rfl
  | succ k ih =>
    intro hk
    rw [mnR, mnR, ih (by omega)]
    cases hc : cfB N s k with
    | false => rfl
    | true =>
      simp only [if_true]
      unfold dlV
      rw [hde _ (orX_gt k (by omega) s (by omega) (cf_no hc)) (orX_lt (by omega) (by omega))]
theorem mnR_att {d : Nat → Int} {s : Nat} : ∀ m, mnR n J N d s m < 161 → ∃ k, k < m ∧ cfB N s k = true ∧ dlV n J d s k = mnR n J N d s m := by
  intro m
  induction m with
  | zero => intro h; exact absurd h (by show ¬ (161 : Int) < 161; omega)
  | succ m ih =>
    intro h
    rw [mnR] at h ⊢
    cases hc : cfB N s m with
    | false =>
      rw [hc] at h
      simp only [Bool.false_eq_true, if_false] at h ⊢
      obtain ⟨k, h1, h2, h3⟩ := ih h
      exact ⟨k, by omega, h2, h3⟩
    | true =>
      rw [hc] at h
      simp only [if_true] at h ⊢
      rcases Int.lt_or_le (dlV n J d s m) (mnR n J N d s m) with h1 | h1
      · exact ⟨m, by omega, hc, by omega⟩
      · obtain ⟨k, h2, h3, h4⟩ := ih (by omega)
        exact ⟨k, by omega, h3, by omega⟩
/-- The table. -/
def dT (n : Nat) (J : Nat → Nat → Int) (N : Nat → Nat) : Nat → Int := dpA n J N (2 ^ n - 1)
theorem dp_same : ∀ e m s, 2 ^ n - 1 - m ≤ s → s < 2 ^ n → m + e ≤ 2 ^ n - 1 → dpA n J N (m + e) s = dpA n J N m s := by
  intro e
  induction e with
  | zero => intro m s _ _ _; rfl
  | succ e ih =>
    intro m s h1 h2 h3
    rw [← Nat.add_assoc, dpA, upd_ne _ _ (by omega)]
    exact ih m s h1 h2 (by omega)
theorem dT_all : dT n J N (2 ^ n - 1) = -200 := by
  have hp : 0 < 2 ^ n := Nat.pow_pos (by omega)
  have h := dp_same (n := n) (J := J) (N := N) (2 ^ n - 1) 0 (2 ^ n - 1) (by omega) (by omega) (by omega)
  rw [Nat.zero_add] at h
  unfold dT
  rw [h, dpA, upd_at]
theorem dT_fix (hn : n ≤ 8) {s : Nat} (hs : s < 2 ^ n - 1) : dT n J N s = mnR n J N (dT n J N) s n := by
  have hp := Nat.pow_le_pow_right (n := 2) (by omega) hn
  obtain ⟨m, hm⟩ : ∃ m, m = 2 ^ n - 2 - s := ⟨_, rfl⟩
  have h := dp_same (n := n) (J := J) (N := N) (2 ^ n - 1 - (m + 1)) (m + 1) s (by omega) (by omega) (by omega)
  rw [show m + 1 + (2 ^ n - 1 - (m + 1)) = 2 ^ n - 1 by omega] at h
  unfold dT
  rw [h, dpA, show 2 ^ n - 2 - m = s by omega, upd_at]
  refine mnR_congr' hn hs (fun u hu1 hu2 => ?_) n (Nat.le_refl _)
  have h2 := dp_same (n := n) (J := J) (N := N) (2 ^ n - 1 - m) m u (by omega) hu2 (by omega)
  rw [show m + (2 ^ n - 1 - m) = 2 ^ n - 1 by omega] at h2
  exact h2.symm
end
end Go.Proofs.Ytbgekacfimgkeaa
