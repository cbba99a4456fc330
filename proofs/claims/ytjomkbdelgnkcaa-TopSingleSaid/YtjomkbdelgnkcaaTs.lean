/- A committee of one is the winner by first places (theory). -/
import Derived.Test.YtjomkbdelgnkcaaWf
import Derived.Test.YtjomkbdelgnkcaaCq
namespace Go.Proofs.Ytjomkbdelgnkcaa
open Go.RowKit

theorem one_set : ∀ t, t < 32 → pcN t = 1 → ∃ a, a < 5 ∧ t = 2 ^ a := by
  have key : ∀ t, t < 32 → (pcN t == 1) = (t == 1 || t == 2 || t == 4 || t == 8 || t == 16) := by decide +kernel
  intro t ht h
  have := key t ht
  rw [h] at this
  simp at this
  rcases this with (((rfl | rfl) | rfl) | rfl) | rfl
  · exact ⟨0, by omega, rfl⟩
  · exact ⟨1, by omega, rfl⟩
  · exact ⟨2, by omega, rfl⟩
  · exact ⟨3, by omega, rfl⟩
  · exact ⟨4, by omega, rfl⟩
theorem set_one : ∀ a, a < 5 → pcN (2 ^ a) = 1 ∧ 2 ^ a < 32 := by decide +kernel
theorem and_two : ∀ a, a < 5 → ∀ b, b < 5 → pcN (2 ^ a &&& 2 ^ b) = if a = b then 1 else 0 := by decide +kernel
/-- What each approves of: the first one alone. -/
def fsG (v : Nat → Nat → Int) : Nat → Nat := fun i => 2 ^ (v i 0).toNat
theorem sc_first {v : Nat → Nat → Int} {a : Nat} (ha : a < 5) : ∀ {n : Nat}, (∀ i, i < n → 0 ≤ v i 0 ∧ v i 0 < 5) → scN (fsG v) (2 ^ a) n = 840 * fpN v a n := by
  intro n
  induction n with
  | zero => intro _; rfl
  | succ n ih =>
    intro h
    have h1 := ih (fun i hi => h i (by omega))
    have h2 := h n (by omega)
    have h3 := and_two (v n 0).toNat (by omega) a ha
    simp only [scN, fpN]
    rw [h1]
    unfold fsG
    rw [h3]
    by_cases e : (v n 0).toNat = a
    · rw [if_pos e, if_pos (show v n 0 = (a : Int) by omega)]
      have : hsN 1 = 840 := rfl
      omega
    · rw [if_neg e, if_neg (show ¬ v n 0 = (a : Int) by omega)]
      have : hsN 0 = 0 := rfl
      omega
theorem pow_lt5 {a b : Nat} (h : 2 ^ a < 2 ^ b) : a < b := by
  rcases Nat.lt_or_ge a b with h1 | h1
  · exact h1
  · have : 2 ^ b ≤ 2 ^ a := Nat.pow_le_pow_right (by omega) h1
    omega
theorem cm_first {n c k0 : Nat} {v : Nat → Nat → Int} (hc : c ≤ 5) (hv : ∀ i, i < n → 0 ≤ v i 0 ∧ v i 0 < 5) (hk : IsTop (fun x => (fpN v x n : Int)) c k0) : cmF (fsG v) n 1 (2 ^ c) = some (2 ^ k0) := by
  obtain ⟨h1, h2, h3⟩ := hk
  have hc32 : 2 ^ c ≤ 32 := by
    have : 2 ^ c ≤ 2 ^ 5 := Nat.pow_le_pow_right (by omega) hc
    omega
  have hk32 : 2 ^ k0 < 2 ^ c := Nat.pow_lt_pow_right (by omega) h1
  have key : ∀ t, t ≤ 2 ^ c → (t ≤ 2 ^ k0 → ∀ b, cmF (fsG v) n 1 t = some b → ∃ a, a < k0 ∧ b = 2 ^ a) ∧ (2 ^ k0 < t → cmF (fsG v) n 1 t = some (2 ^ k0)) := by
    intro t
    induction t with
    | zero =>
      intro _
      refine ⟨fun _ b h => ?_, fun h => absurd h (Nat.not_lt_zero _)⟩
      cases h
    | succ t ih =>
      intro ht
      obtain ⟨i1, i2⟩ := ih (by omega)
      have hp := set_one k0 (by omega)
      refine ⟨fun hle b hb => ?_, fun hlt => ?_⟩
      · simp only [cmF] at hb
        cases hcm : cmF (fsG v) n 1 t with
        | none =>
          rw [hcm] at hb
          simp only at hb
          split at hb
          · rename_i hpc
            injection hb with hb
            obtain ⟨a, ha, e⟩ := one_set t (by omega) hpc
            exact ⟨a, pow_lt5 (by omega), by omega⟩
          · cases hb
        | some b' =>
          rw [hcm] at hb
          simp only at hb
          split at hb
          · rename_i hpc
            injection hb with hb
            obtain ⟨a, ha, e⟩ := one_set t (by omega) hpc.1
            exact ⟨a, pow_lt5 (by omega), by omega⟩
          · injection hb with hb
            subst hb
            exact i1 (by omega) b' hcm
      · simp only [cmF]
        rcases Nat.lt_or_ge (2 ^ k0) t with hl | hl
        · rw [i2 hl]
          simp only
          rw [if_neg]
          rintro ⟨hpc, hs⟩
          obtain ⟨a, ha, e⟩ := one_set t (by omega) hpc
          have hac : a < c := pow_lt5 (by omega)
          rw [e, sc_first (by omega) hv, sc_first ha hv] at hs
          have := h2 a hac
          simp only at this
          omega
        · have e : t = 2 ^ k0 := by omega
          cases hcm : cmF (fsG v) n 1 t with
          | none =>
            simp only
            rw [if_pos (by rw [e]; exact hp.1), e]
          | some b =>
            obtain ⟨a, ha, eb⟩ := i1 (by omega) b hcm
            simp only
            have := h3 a ha
            simp only at this
            rw [if_pos ⟨by rw [e]; exact hp.1, by rw [e, eb, sc_first (by omega) hv, sc_first (by omega) hv]; omega⟩, e]
  exact (key (2 ^ c) (Nat.le_refl _)).2 hk32
theorem wrap_pow (a : Nat) (h : a < 62) : wrap64 (2 ^ a) = ((2 ^ a : Nat) : Int) := by
  have h1 : (2 : Nat) ^ a ≤ 2 ^ 61 := Nat.pow_le_pow_right (by omega) (by omega)
  have e : ((2 : Int) ^ a) = ((2 ^ a : Nat) : Int) := by simp
  rw [e]
  generalize 2 ^ a = q at *
  unfold wrap64
  omega
theorem okAp_first {n c : Nat} {v : Nat → Nat → Int} (hn1 : 1 ≤ n) (hn9 : n ≤ 9) (hc1 : 1 ≤ c) (hc5 : c ≤ 5) (hv : ∀ i, i < n → 0 ≤ v i 0 ∧ v i 0 < c) : okAp c 1 n (fun i => ((fsG v i : Nat) : Int)) = true := by
  unfold okAp
  rw [decide_eq_true (show (1 : Int) ≤ c ∧ (c : Int) ≤ 8 by omega), decide_eq_true (show (1 : Int) ≤ 1 ∧ (1 : Int) ≤ c by omega), decide_eq_true (show 1 ≤ n ∧ n ≤ 9 from ⟨hn1, hn9⟩), Bool.true_and, Bool.true_and, Bool.true_and]
  refine allB_iff.2 (fun i hi => ?_)
  have h := hv i hi
  have h1 : 2 ^ (v i 0).toNat < 2 ^ c := Nat.pow_lt_pow_right (by omega) (by omega)
  simp only [fsG]
  unfold isS
  rw [Int.toNat_natCast, decide_eq_true (Int.natCast_nonneg _), decide_eq_true (by exact_mod_cast h1)]
  rfl
end Go.Proofs.Ytjomkbdelgnkcaa
