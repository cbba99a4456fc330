import Derived.Test.YtkgikehagkpmoaaDig
import Derived.Test.YtkgikehagkpmoaaT6
namespace Go.Proofs.Ytkgikehagkpmoaa

theorem dg_head {n m q r : Nat} (hq : q < n) (hr : r < n ^ m) : dgN n (m + 1) (q * n ^ m + r) 0 = q := by
  unfold dgN
  rw [show m + 1 - 1 - 0 = m by omega, Nat.mul_comm q, Nat.mul_add_div (by omega), Nat.div_eq_of_lt hr, Nat.add_zero]
  exact Nat.mod_eq_of_lt hq
theorem dg_tail {n m q r g : Nat} (hn : 0 < n) (hg : g < m) : dgN n (m + 1) (q * n ^ m + r) (g + 1) = dgN n m r g := by
  unfold dgN
  obtain ⟨t, ht⟩ : ∃ t, m = (m - 1 - g) + (t + 1) := ⟨g, by omega⟩
  rw [show m + 1 - 1 - (g + 1) = m - 1 - g by omega]
  generalize m - 1 - g = k at *
  have hp : 0 < n ^ k := Nat.pow_pos hn
  have e : q * n ^ m + r = n ^ k * (q * n ^ t * n) + r := by
    rw [ht, Nat.pow_add, Nat.pow_succ]
    congr 1
    rw [Nat.mul_comm q, Nat.mul_assoc, Nat.mul_comm _ q, Nat.mul_assoc]
  rw [e, Nat.mul_add_div hp, Nat.add_comm, Nat.add_mul_mod_self_right]


/-- Every division is one of the numbered ones. -/
theorem dg_code {n : Nat} (hn : 0 < n) (m : Nat) (d : Nat → Int) (h : Own n m d) : ∃ i, i < n ^ m ∧ ∀ g, g < m → dg n m i g = d g := by
  induction m generalizing d with
  | zero => exact ⟨0, by simp, fun g hg => absurd hg (by omega)⟩
  | succ m ih =>
    obtain ⟨r, hr, hg⟩ := ih (fun g => d (g + 1)) (fun g hg => h (g + 1) (by omega))
    obtain ⟨h0, h1⟩ := h 0 (by omega)
    obtain ⟨q, hq⟩ : ∃ q : Nat, d 0 = q := ⟨(d 0).toNat, by omega⟩
    have hqn : q < n := by omega
    refine ⟨q * n ^ m + r, ?_, fun g hgm => ?_⟩
    · rw [Nat.pow_succ, Nat.mul_comm (n ^ m)]
      have : (q + 1) * n ^ m ≤ n * n ^ m := Nat.mul_le_mul_right _ hqn
      rw [Nat.add_mul, Nat.one_mul] at this
      omega
    · rcases g with _ | g
      · unfold dg
        rw [dg_head hqn hr, hq]
      · unfold dg
        rw [dg_tail hn (by omega)]
        exact hg g (by omega)
end Go.Proofs.Ytkgikehagkpmoaa
