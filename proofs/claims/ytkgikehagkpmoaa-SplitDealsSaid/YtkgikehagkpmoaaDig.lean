import Derived.Below
namespace Go.Proofs.Ytkgikehagkpmoaa

/-- Owner of good g in the i-th of all divisions of m goods to n people. -/
def dgN (n m i g : Nat) : Nat := (i / n ^ (m - 1 - g)) % n
def dg (n m i : Nat) (g : Nat) : Int := (dgN n m i g : Nat)

theorem low_full {n i : Nat} (hn : 0 < n) (k : Nat) (h : ∀ e, e < k → (i / n ^ e) % n = n - 1) : i + 1 = n ^ k * (i / n ^ k + 1) := by
  induction k with
  | zero => simp
  | succ k ih =>
    have h1 := ih (fun e he => h e (by omega))
    have h2 := h k (by omega)
    have e1 : i / n ^ (k + 1) = i / n ^ k / n := by rw [Nat.pow_succ, Nat.div_div_eq_div_mul]
    rw [e1]
    generalize hq : i / n ^ k = q at *
    have h3 : q + 1 = n * (q / n + 1) := by
      have := Nat.div_add_mod q n
      rw [Nat.mul_add, Nat.mul_one]
      omega
    rw [h1, h3, Nat.pow_succ, Nat.mul_assoc]

/-- The next division: the last good that has a further owner gets it; those behind go back to person 0. -/
theorem dg_next {n m i g : Nat} (hn : 0 < n) (hg : g < m) (h : ∀ j, g < j → j < m → dgN n m i j = n - 1) (hlt : dgN n m i g + 1 < n) (j : Nat) (hj : j < m) :
    dgN n m (i + 1) j = if j < g then dgN n m i j else if j = g then dgN n m i g + 1 else 0 := by
  have hk : ∀ e, e < m - 1 - g → (i / n ^ e) % n = n - 1 := fun e he => by
    have := h (m - 1 - e) (by omega) (by omega)
    unfold dgN at this
    rw [show m - 1 - (m - 1 - e) = e by omega] at this
    exact this
  have h1 := low_full hn _ hk
  obtain ⟨k, hkg⟩ : ∃ k, k = m - 1 - g := ⟨_, rfl⟩
  unfold dgN at hlt ⊢
  rw [← hkg] at hlt h1 ⊢
  obtain ⟨q, hq⟩ : ∃ q, q = i / n ^ k := ⟨_, rfl⟩
  rw [← hq] at hlt h1 ⊢
  have hp : 0 < n ^ k := Nat.pow_pos hn
  have hmod : (q + 1) % n = q % n + 1 := by
    rw [Nat.add_mod]
    rcases Nat.lt_or_ge 1 n with h2 | h2
    · rw [Nat.mod_eq_of_lt h2, Nat.mod_eq_of_lt hlt]
    · omega
  have hdiv : (q + 1) / n = q / n := by
    have e1 := Nat.div_add_mod q n
    have e2 := Nat.div_add_mod (q + 1) n
    rw [hmod] at e2
    have : n * ((q + 1) / n) = n * (q / n) := by omega
    exact Nat.eq_of_mul_eq_mul_left hn this
  have hdk : (i + 1) / n ^ k = q + 1 := by rw [h1, Nat.mul_div_cancel_left _ hp]
  by_cases c1 : j < g
  · rw [if_pos c1]
    obtain ⟨t, ht⟩ : ∃ t, m - 1 - j = k + 1 + t := ⟨m - 1 - j - k - 1, by omega⟩
    rw [ht]
    have e : ∀ x : Nat, x / n ^ (k + 1 + t) = x / n ^ k / n / n ^ t := fun x => by rw [Nat.pow_add, Nat.pow_succ, ← Nat.div_div_eq_div_mul, ← Nat.div_div_eq_div_mul]
    rw [e, e, hdk, hdiv, ← hq]
  · rw [if_neg c1]
    by_cases c2 : j = g
    · rw [if_pos c2]
      subst c2
      rw [← hkg, hdk, hmod]
    · rw [if_neg c2]
      obtain ⟨t, ht⟩ : ∃ t, k = (m - 1 - j) + (t + 1) := ⟨k - (m - 1 - j) - 1, by omega⟩
      rw [h1, ht, Nat.pow_add, Nat.mul_assoc, Nat.mul_div_cancel_left _ (Nat.pow_pos hn), Nat.pow_succ, Nat.mul_comm (n ^ t) n, Nat.mul_assoc]
      exact Nat.mul_mod_right _ _

theorem dg_last {n m i : Nat} (hn : 0 < n) (h : ∀ j, j < m → dgN n m i j = n - 1) (hi : i < n ^ m) : i + 1 = n ^ m := by
  have hk : ∀ e, e < m → (i / n ^ e) % n = n - 1 := fun e he => by
    have := h (m - 1 - e) (by omega)
    unfold dgN at this
    rw [show m - 1 - (m - 1 - e) = e by omega] at this
    exact this
  have h1 := low_full hn _ hk
  rw [Nat.div_eq_of_lt hi] at h1
  simpa using h1

theorem dg_more {n m i g : Nat} (hn : 0 < n) (hg : g < m) (hlt : dgN n m i g + 1 < n) (hi : i < n ^ m) : i + 1 < n ^ m := by
  rcases Nat.lt_or_ge (i + 1) (n ^ m) with h | h
  · exact h
  · exfalso
    have e : i + 1 = n ^ m := by omega
    obtain ⟨k, hkg⟩ : ∃ k, k = m - 1 - g := ⟨_, rfl⟩
    unfold dgN at hlt
    rw [← hkg] at hlt
    have hp : 0 < n ^ k := Nat.pow_pos hn
    obtain ⟨t, ht⟩ : ∃ t, m = k + (t + 1) := ⟨m - k - 1, by omega⟩
    have e1 : i + 1 = n ^ k * (n * n ^ t) := by rw [e, ht, Nat.pow_add, Nat.pow_succ, Nat.mul_comm (n ^ t)]
    have h2 : 0 < n * n ^ t := Nat.mul_pos hn (Nat.pow_pos hn)
    have e2 : i / n ^ k = n * n ^ t - 1 := by
      have h3 := Nat.div_add_mod i (n ^ k)
      have h4 := Nat.mod_lt i hp
      generalize i % n ^ k = r at h3 h4
      have h5 : i / n ^ k < n * n ^ t := by
        refine Nat.lt_of_mul_lt_mul_left (a := n ^ k) ?_
        omega
      have h6 : n * n ^ t ≤ i / n ^ k + 1 := by
        refine Nat.le_of_mul_le_mul_left (c := n ^ k) ?_ hp
        rw [Nat.mul_add]
        omega
      omega
    rw [e2] at hlt
    have h7 : (n * n ^ t - 1) % n = n - 1 := by
      obtain ⟨u, hu⟩ : ∃ u, n ^ t = u + 1 := ⟨n ^ t - 1, by have := Nat.pow_pos (n := t) hn; omega⟩
      rw [hu, Nat.mul_add, Nat.mul_one, show n * u + n - 1 = n * u + (n - 1) by omega, Nat.mul_add_mod]
      exact Nat.mod_eq_of_lt (by omega)
    omega

theorem dg_zero (n m g : Nat) : dgN n m 0 g = 0 := by simp [dgN]
theorem dg_end {n m g : Nat} (hn : 0 < n) (hg : g < m) : dgN n m (n ^ m) g = 0 := by
  unfold dgN
  obtain ⟨t, ht⟩ : ∃ t, m = (m - 1 - g) + (t + 1) := ⟨g, by omega⟩
  have : n ^ m / n ^ (m - 1 - g) = n ^ t * n := by
    conv => lhs; lhs; rw [ht]
    rw [Nat.pow_add, Nat.mul_div_cancel_left _ (Nat.pow_pos hn), Nat.pow_succ]
  rw [this]
  exact Nat.mul_mod_left _ _
theorem dg_lt {n m i g : Nat} (hn : 0 < n) : dgN n m i g < n := Nat.mod_lt _ hn

end Go.Proofs.Ytkgikehagkpmoaa
