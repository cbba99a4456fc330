/- A fraction that counts twelfths: what the reference's Serial adds. -/
import Derived.Test.YtoeimngbpagegaaDoorGth
namespace Go.Proofs.YtoeimngbpagegaaDoor
open Go.RowKit

/-- The fraction a/b, in lowest terms, is v twelfths. -/
def Twf (a b v : Int) : Prop := Low a b ∧ a * 12 = v * b
theorem Twf.zero : Twf 0 1 0 := ⟨by unfold Low; decide, by decide⟩
theorem Twf.bd {a b v : Int} (h : Twf a b v) (h0 : 0 ≤ v) (hv : v ≤ 48000) : 0 < b ∧ b ≤ 12 ∧ 0 ≤ a ∧ a ≤ 48000 := by
  obtain ⟨⟨h1, h2⟩, h3⟩ := h
  have hd : b ∣ 12 * a := ⟨v, by rw [Int.mul_comm 12 a, h3, Int.mul_comm]⟩
  have hd2 : b ∣ 12 := dvd_cop hd (by rw [Int.gcd_comm]; exact h2)
  have hb : b ≤ 12 := Int.le_of_dvd (by decide) hd2
  have hb2 : b = 1 ∨ b = 2 ∨ b = 3 ∨ b = 4 ∨ b = 5 ∨ b = 6 ∨ b = 7 ∨ b = 8 ∨ b = 9 ∨ b = 10 ∨ b = 11 ∨ b = 12 := by omega
  refine ⟨h1, hb, ?_, ?_⟩ <;> rcases hb2 with rfl | rfl | rfl | rfl | rfl | rfl | rfl | rfl | rfl | rfl | rfl | rfl <;> omega
theorem Twf.step {a b v m u q : Int} (h : Twf a b v) (hu : u ≠ 0) (hq : q * u = 12) : Twf (rN (a * rD m u + rN m u * b) (b * rD m u)) (rD (a * rD m u + rN m u * b) (b * rD m u)) (v + m * q) := by
  obtain ⟨⟨h1, h2⟩, h3⟩ := h
  have c1 := rN_cross (a := m) hu
  have d1 := rD_pos (a := m) hu
  generalize rN m u = c at *
  generalize rD m u = d at *
  have hbd : b * d ≠ 0 := by
    have := Int.mul_pos h1 d1
    omega
  have c2 := rN_cross (a := a * d + c * b) hbd
  refine ⟨r_low hbd, ?_⟩
  generalize rN (a * d + c * b) (b * d) = x at *
  generalize rD (a * d + c * b) (b * d) = y at *
  have key : (x * 12) * (b * d) = ((v + m * q) * y) * (b * d) := by grind
  exact Int.eq_of_mul_eq_mul_right hbd key
theorem Twf.out {a b v : Int} (h : Twf a b v) : a = rN v 12 ∧ b = rD v 12 := by
  refine low_ext h.1 (r_low (by decide)) ?_
  have c := rN_cross (a := v) (b := 12) (by decide)
  have hl := h.2
  generalize rN v 12 = x at *
  generalize rD v 12 = y at *
  have key : (a * y) * 12 = (x * b) * 12 := by grind
  exact Int.eq_of_mul_eq_mul_right (by decide) key
/-- From N to the least length beyond: the users share it. -/
theorem svN_next {F : Nat → Int} {n p N M : Nat} (hp : p < n) (hNM : N ≤ M) (h : ∀ q, q < n → (N : Int) < F q → (M : Int) ≤ F q) :
    svN F n p M = svN F n p N + if (N : Int) < F p then ((M : Int) - N) * (12 / ((cnB (fun q => decide ((N : Int) < F q)) n : Nat) : Int)) else 0 := by
  obtain ⟨m, rfl⟩ : ∃ m, M = N + m := ⟨M - N, by omega⟩
  have key := svN_add F n p (if (N : Int) < F p then 12 / ((cnB (fun q => decide ((N : Int) < F q)) n : Nat) : Int) else 0) N m (fun t h1 h2 => by
    have e : cnB (fun q => decide ((t : Int) < F q)) n = cnB (fun q => decide ((N : Int) < F q)) n := (mkB_congr n (fun q hq => decide_eq_decide.2 (by
      have := h q hq
      omega))).2.1
    rw [e]
    have := h p hp
    by_cases h3 : (N : Int) < F p
    · rw [if_pos h3, if_pos (by omega)]
    · rw [if_neg h3, if_neg (by omega)])
  rw [key]
  have e2 : ((N + m : Nat) : Int) - N = m := by push_cast; omega
  rw [e2]
  split <;> simp
/-- The least length beyond N, -1 if there is none, among the first j. -/
def nxG (F : Nat → Int) (N : Int) : Nat → Int
  | 0 => -1
  | j + 1 => if N < F j then (if nxG F N j < 0 ∨ F j < nxG F N j then F j else nxG F N j) else nxG F N j
theorem nxG_is {F : Nat → Int} {n : Nat} (hF : ∀ k, k < n → 0 ≤ F k ∧ F k ≤ 1000) {N : Int} (hN : 0 ≤ N) : ∀ j, j ≤ n →
    (nxG F N j = -1 ∧ cnB (fun q => decide (N < F q)) j = 0 ∧ ∀ q, q < j → ¬ N < F q) ∨ (N < nxG F N j ∧ nxG F N j ≤ 1000 ∧ 1 ≤ cnB (fun q => decide (N < F q)) j ∧ cnB (fun q => decide (N < F q)) j ≤ j ∧ ∀ q, q < j → N < F q → nxG F N j ≤ F q) := by
  intro j
  induction j with
  | zero => intro _; exact .inl ⟨rfl, rfl, fun q hq => by omega⟩
  | succ j ih =>
    intro hj
    have hj2 := hF j (by omega)
    simp only [nxG, cnB, decide_eq_true_iff]
    rcases ih (by omega) with ⟨h1, h2, h3⟩ | ⟨h1, h2, h3, h3b, h4⟩
    · by_cases h : N < F j
      · rw [if_pos h, if_pos h, if_pos (by omega)]
        refine .inr ⟨h, hj2.2, by omega, by omega, fun q hq hq2 => ?_⟩
        rcases Nat.lt_or_ge q j with h5 | h5
        · exact absurd hq2 (h3 q h5)
        · obtain rfl : q = j := by omega
          exact Int.le_refl _
      · rw [if_neg h, if_neg h]
        refine .inl ⟨h1, h2, fun q hq => ?_⟩
        rcases Nat.lt_or_ge q j with h5 | h5
        · exact h3 q h5
        · obtain rfl : q = j := by omega
          exact h
    · by_cases h : N < F j
      · rw [if_pos h, if_pos h]
        by_cases h6 : nxG F N j < 0 ∨ F j < nxG F N j
        · rw [if_pos h6]
          refine .inr ⟨h, hj2.2, by omega, by omega, fun q hq hq2 => ?_⟩
          rcases Nat.lt_or_ge q j with h5 | h5
          · have := h4 q h5 hq2
            omega
          · obtain rfl : q = j := by omega
            exact Int.le_refl _
        · rw [if_neg h6]
          refine .inr ⟨h1, h2, by omega, by omega, fun q hq hq2 => ?_⟩
          rcases Nat.lt_or_ge q j with h5 | h5
          · exact h4 q h5 hq2
          · obtain rfl : q = j := by omega
            omega
      · rw [if_neg h, if_neg h]
        refine .inr ⟨h1, h2, h3, by omega, fun q hq hq2 => ?_⟩
        rcases Nat.lt_or_ge q j with h5 | h5
        · exact h4 q h5 hq2
        · obtain rfl : q = j := by omega
          exact absurd hq2 h
end Go.Proofs.YtoeimngbpagegaaDoor
