/- The best set: sets that are ahead lie one in the other; sums over pairs of places. -/
import Derived.Test.YtocfbafcplhmiaaOd
namespace Go.Proofs.Ytocfbafcplhmiaa
open Go.RowKit

/-- Bit a of a set. -/
def bitN (s a : Nat) : Bool := decide (s / 2 ^ a % 2 = 1)
/-- How many bits of a set below 2 ^ 9. -/
def pcN (s : Nat) : Nat := s % 2 + s / 2 % 2 + s / 4 % 2 + s / 8 % 2 + s / 16 % 2 + s / 32 % 2 + s / 64 % 2 + s / 128 % 2 + s / 256 % 2
theorem sub_le : ∀ s, s < 32 → ∀ t, t < 32 → (bitN s 0 = true → bitN t 0 = true) ∧ (bitN s 1 = true → bitN t 1 = true) ∧ (bitN s 2 = true → bitN t 2 = true) ∧ (bitN s 3 = true → bitN t 3 = true) ∧ (bitN s 4 = true → bitN t 4 = true) → s ≤ t ∧ pcN s ≤ pcN t ∧ (pcN t ≤ pcN s → s = t) := by
  have key : ∀ s, s < 32 → ∀ t, t < 32 → ((!bitN s 0 || bitN t 0) && ((!bitN s 1 || bitN t 1) && ((!bitN s 2 || bitN t 2) && ((!bitN s 3 || bitN t 3) && (!bitN s 4 || bitN t 4))))) = true → s ≤ t ∧ pcN s ≤ pcN t ∧ (pcN t ≤ pcN s → s = t) := by
    decide +kernel
  intro s hs t ht ⟨h0, h1, h2, h3, h4⟩
  refine key s hs t ht ?_
  have im : ∀ x y : Bool, (x = true → y = true) → (!x || y) = true := by decide
  rw [im _ _ h0, im _ _ h1, im _ _ h2, im _ _ h3, im _ _ h4]
  rfl
theorem bit_out : ∀ c, c < 6 → ∀ s, s < 2 ^ c → ∀ a, a < 5 → c ≤ a → bitN s a = false := by decide +kernel
theorem bit_full : ∀ c, c < 6 → ∀ a, a < c → bitN (2 ^ c - 1) a = true := by decide +kernel
theorem bits_sub {c s t : Nat} (hc : c ≤ 5) (hs : s < 2 ^ c) (ht : t < 2 ^ c) (h : ∀ a, a < c → bitN s a = true → bitN t a = true) : s ≤ t ∧ pcN s ≤ pcN t ∧ (pcN t ≤ pcN s → s = t) := by
  have hp : 2 ^ c ≤ 2 ^ 5 := Nat.pow_le_pow_right (by omega) hc
  have h' : ∀ a, a < 5 → bitN s a = true → bitN t a = true := fun a ha hb => by
    rcases Nat.lt_or_ge a c with hl | hl
    · exact h a hl hb
    · rw [bit_out c (by omega) s hs a ha hl] at hb
      cases hb
  exact sub_le s (by omega) t (by omega) ⟨h' 0 (by omega), h' 1 (by omega), h' 2 (by omega), h' 3 (by omega), h' 4 (by omega)⟩
/-- Each of a set beats all that are outside. -/
def ahdP (T : Nat → Int) (s a b : Nat) : Bool := !(bitN s a && (!bitN s b && decide (T (5 * a + b) ≤ 0)))
def ahdB (T : Nat → Int) (c s : Nat) : Bool := allB (fun a => allB (ahdP T s a) c) c
theorem ahdB_iff {T : Nat → Int} {c s : Nat} : ahdB T c s = true ↔ ∀ a b, a < c → b < c → bitN s a = true → bitN s b = false → 0 < T (5 * a + b) := by
  unfold ahdB
  rw [allB_iff]
  constructor
  · intro h a b ha hb h1 h2
    have := (allB_iff.1 (h a ha)) b hb
    unfold ahdP at this
    rw [h1, h2] at this
    simp at this
    omega
  · intro h a ha
    refine allB_iff.2 (fun b hb => ?_)
    unfold ahdP
    cases h1 : bitN s a with
    | false => rfl
    | true => cases h2 : bitN s b with
      | true => rfl
      | false =>
        have := h a b ha hb h1 h2
        simp
        omega
def Anti (T : Nat → Int) (c : Nat) : Prop := ∀ a b, a < c → b < c → T (5 * a + b) = - T (5 * b + a)
theorem ahd_nest {T : Nat → Int} {c s t : Nat} (hA : Anti T c) (h1 : ahdB T c s = true) (h2 : ahdB T c t = true) : (∀ a, a < c → bitN s a = true → bitN t a = true) ∨ ∀ a, a < c → bitN t a = true → bitN s a = true := by
  rw [ahdB_iff] at h1 h2
  apply Classical.byContradiction
  intro hn
  obtain ⟨k1, k2⟩ := not_or.1 hn
  have e1 : ∃ x, x < c ∧ bitN s x = true ∧ bitN t x = false := by
    apply Classical.byContradiction
    intro h
    refine k1 (fun a ha hb => ?_)
    cases hz : bitN t a with
    | true => rfl
    | false => exact absurd ⟨a, ha, hb, hz⟩ h
  have e2 : ∃ x, x < c ∧ bitN t x = true ∧ bitN s x = false := by
    apply Classical.byContradiction
    intro h
    refine k2 (fun a ha hb => ?_)
    cases hz : bitN s a with
    | true => rfl
    | false => exact absurd ⟨a, ha, hb, hz⟩ h
  obtain ⟨x, hx, x1, x2⟩ := e1
  obtain ⟨y, hy, y1, y2⟩ := e2
  have a1 := h1 x y hx hy x1 y2
  have a2 := h2 y x hy hx y1 x2
  have a3 := hA x y hx hy
  omega
theorem ahd_full {T : Nat → Int} {c : Nat} (hc : c ≤ 5) : ahdB T c (2 ^ c - 1) = true := by
  rw [ahdB_iff]
  intro a b ha hb _ h2
  rw [bit_full c (by omega) b hb] at h2
  cases h2
/-- s is the least set that is ahead. -/
structure IsBst (T : Nat → Int) (c s : Nat) : Prop where
  pos : 1 ≤ s
  le : s ≤ 2 ^ c - 1
  hd : ahdB T c s = true
  no : ∀ t, 1 ≤ t → t < s → ahdB T c t = false
theorem bst_size {T : Nat → Int} {c s t : Nat} (hc : c ≤ 5) (hA : Anti T c) (h : IsBst T c s) (ht : ahdB T c t = true) (hs : s < t) (ht2 : t < 2 ^ c) : pcN s ≤ pcN t := by
  have := h.le
  rcases ahd_nest hA h.hd ht with k | k
  · exact (bits_sub hc (by omega) ht2 k).2.1
  · have := (bits_sub hc ht2 (by omega) k).1
    omega
theorem bst_lt {T : Nat → Int} {c s : Nat} (hc : c ≤ 5) (h : IsBst T c s) (hs : s ≠ 2 ^ c - 1) : pcN s < pcN (2 ^ c - 1) := by
  have hp : 0 < 2 ^ c := Nat.pow_pos (by omega)
  have hle := h.le
  have := bits_sub (s := s) (t := 2 ^ c - 1) hc (by omega) (by omega) (fun a ha _ => bit_full c (by omega) a ha)
  rcases Nat.lt_or_ge (pcN s) (pcN (2 ^ c - 1)) with hl | hl
  · exact hl
  · exact absurd (this.2.2 hl) hs
theorem bst_exists {T : Nat → Int} {c : Nat} (hc1 : 1 ≤ c) (hc : c ≤ 5) : ∃ s, IsBst T c s := by
  have hp : 2 ^ 1 ≤ 2 ^ c := Nat.pow_le_pow_right (by omega) hc1
  have key : ∀ n, (∃ s, 1 ≤ s ∧ s < n ∧ ahdB T c s = true ∧ ∀ t, 1 ≤ t → t < s → ahdB T c t = false) ∨ ∀ t, 1 ≤ t → t < n → ahdB T c t = false := by
    intro n
    induction n with
    | zero => exact .inr (fun t _ h => absurd h (by omega))
    | succ n ih =>
      rcases ih with ⟨s, h1, h2, h3, h4⟩ | h
      · exact .inl ⟨s, h1, by omega, h3, h4⟩
      · by_cases hn : 1 ≤ n ∧ ahdB T c n = true
        · exact .inl ⟨n, hn.1, by omega, hn.2, h⟩
        · refine .inr (fun t h1 h2 => ?_)
          rcases Nat.lt_or_ge t n with hl | hl
          · exact h t h1 hl
          · obtain rfl : t = n := by omega
            cases hz : ahdB T c t with
            | false => rfl
            | true => exact absurd ⟨h1, hz⟩ hn
  rcases key (2 ^ c) with ⟨s, h1, h2, h3, h4⟩ | h
  · exact ⟨s, h1, by omega, h3, h4⟩
  · have := h (2 ^ c - 1) (by omega) (by omega)
    rw [ahd_full hc] at this
    cases this
theorem pc_step : ∀ s, s < 512 → 0 < s → pcN (s &&& (s - 1)) + 1 = pcN s ∧ (s &&& (s - 1)) < s := by decide +kernel
theorem pc_zero : pcN 0 = 0 := by decide

/-- The sum over pairs of places. -/
def rowS (g : Nat → Nat → Int) (k : Nat) : Nat → Int
  | 0 => 0
  | j + 1 => rowS g k j + g k (k + 1 + j)
def triS (g : Nat → Nat → Int) (c : Nat) : Nat → Int
  | 0 => 0
  | k + 1 => triS g c k + rowS g k (c - (k + 1))
theorem rowS_congr {g g' : Nat → Nat → Int} {k : Nat} : ∀ {j : Nat}, (∀ i, i < j → g k (k + 1 + i) = g' k (k + 1 + i)) → rowS g k j = rowS g' k j := by
  intro j
  induction j with
  | zero => intro _; rfl
  | succ j ih =>
    intro h
    simp only [rowS]
    rw [ih (fun i hi => h i (by omega)), h j (by omega)]
theorem triS_congr {g g' : Nat → Nat → Int} {c : Nat} (h : ∀ i j, i < j → j < c → g i j = g' i j) : ∀ {k : Nat}, k ≤ c → triS g c k = triS g' c k := by
  intro k
  induction k with
  | zero => intro _; rfl
  | succ k ih =>
    intro hk
    simp only [triS]
    rw [ih (by omega), rowS_congr (fun i hi => h k (k + 1 + i) (by omega) (by omega))]
theorem triS_flip (g : Nat → Nat → Int) {c : Nat} (hc : c ≤ 5) : triS g c c = triS (fun i j => g (c - 1 - j) (c - 1 - i)) c c := by
  have : c = 0 ∨ c = 1 ∨ c = 2 ∨ c = 3 ∨ c = 4 ∨ c = 5 := by omega
  rcases this with rfl | rfl | rfl | rfl | rfl | rfl <;> simp [triS, rowS] <;> omega
theorem rowS_bd {g : Nat → Nat → Int} {k : Nat} {B : Int} : ∀ {j : Nat}, (∀ i, i < j → 0 ≤ g k (k + 1 + i) ∧ g k (k + 1 + i) ≤ B) → 0 ≤ rowS g k j ∧ rowS g k j ≤ j * B := by
  intro j
  induction j with
  | zero => intro _; simp [rowS]
  | succ j ih =>
    intro h
    have h1 := ih (fun i hi => h i (by omega))
    have h2 := h j (by omega)
    have e : ((j + 1 : Nat) : Int) * B = j * B + B := by rw [Int.natCast_add, Int.add_mul]; simp
    simp only [rowS, e]
    omega
end Go.Proofs.Ytocfbafcplhmiaa
