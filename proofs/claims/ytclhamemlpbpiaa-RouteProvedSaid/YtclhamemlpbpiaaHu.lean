/- What a way costs, for the program and for the reference. -/
import Derived.Test.YtclhamemlpbpiaaHq
import Derived.Test.YtclhamemlpbpiaaIdx
namespace Go.Proofs.Ytclhamemlpbpiaa

theorem pigW : ∀ (n : Nat) (f : Nat → Nat), (∀ k, k < n + 1 → f k < n) → ∃ i j, i < j ∧ j < n + 1 ∧ f i = f j := by
  intro n
  induction n with
  | zero => intro f h; exact absurd (h 0 (by omega)) (by omega)
  | succ n ih =>
    intro f h
    by_cases hx : ∃ i, i < n + 1 ∧ f i = f (n + 1)
    · obtain ⟨i, hi, e⟩ := hx
      exact ⟨i, n + 1, hi, by omega, e⟩
    · have hx' : ∀ i, i < n + 1 → f i ≠ f (n + 1) := fun i hi e => hx ⟨i, hi, e⟩
      obtain ⟨i, j, h1, h2, e⟩ := ih (fun k => if f k < f (n + 1) then f k else f k - 1) (fun k hk => by
        have a1 := h k (by omega)
        have a2 := h (n + 1) (by omega)
        have a3 := hx' k hk
        show (if f k < f (n + 1) then f k else f k - 1) < n
        split <;> omega)
      have a3 := hx' i (by omega)
      have a4 := hx' j (by omega)
      refine ⟨i, j, h1, by omega, ?_⟩
      have e' : (if f i < f (n + 1) then f i else f i - 1) = (if f j < f (n + 1) then f j else f j - 1) := e
      split at e' <;> split at e' <;> omega

theorem hasW_iff {f : Nat → Int} {x : Int} {n : Nat} : hasB f x n = true ↔ ∃ j, j < n ∧ f j = x := by
  unfold hasB
  rw [decide_eq_true_iff]
  rcases idxI_cases f x n with ⟨e, h⟩ | ⟨k, hk, e, h, -⟩
  · constructor
    · intro h2
      omega
    · rintro ⟨j, hj, e2⟩
      exact absurd e2 (h j hj)
  · exact ⟨fun _ => ⟨k, hk, h⟩, fun _ => by omega⟩

/-- Stops of the map, none twice. -/
def wkB (n : Nat) (f : Nat → Int) (k : Nat) : Bool := allB (fun i => inB n (f i) && !hasB f (f i) i) k
theorem wkB_iff {n : Nat} {f : Nat → Int} {k : Nat} : wkB n f k = true ↔ ∀ i, i < k → (0 ≤ f i ∧ f i < n) ∧ ∀ j, j < i → f j ≠ f i := by
  unfold wkB
  rw [allB_iff]
  constructor
  · intro h i hi
    have h1 := h i hi
    rw [Bool.and_eq_true_iff, inB_t, Bool.not_eq_true'] at h1
    refine ⟨h1.1, fun j hj e => ?_⟩
    rw [hasW_iff.2 ⟨j, hj, e⟩] at h1
    cases h1.2
  · intro h i hi
    obtain ⟨h1, h2⟩ := h i hi
    rw [Bool.and_eq_true_iff, inB_t, Bool.not_eq_true']
    refine ⟨h1, ?_⟩
    cases e : hasB f (f i) i with
    | false => rfl
    | true =>
      obtain ⟨j, hj, e2⟩ := hasW_iff.1 e
      exact absurd e2 (h2 j hj)
theorem wkB_le {n : Nat} {f : Nat → Int} {k : Nat} (h : wkB n f k = true) : k ≤ n := by
  have h := wkB_iff.1 h
  rcases Nat.lt_or_ge n k with h1 | h1
  · obtain ⟨i, j, hij, hj, e⟩ := pigW n (fun i => (f i).toNat) (fun i hi => by
      have := (h i (by omega)).1
      show (f i).toNat < n
      omega)
    have h2 := h j (by omega)
    have h3 := h i (by omega)
    exact absurd (show f i = f j by
      have e : (f i).toNat = (f j).toNat := e
      omega) (h2.2 i hij)
  · exact h1

/-- The sum of the steps in a table, and of the reference's steps. -/
def wkS (T : Nat → Int) (f : Nat → Int) : Nat → Int
  | 0 => 0
  | k + 1 => if k = 0 then 0 else wkS T f k + T (8 * (f (k - 1)).toNat + (f k).toNat)
def coS (m : Nat) (F : Nat → Nat → Int) (f : Nat → Int) : Nat → Int
  | 0 => 0
  | k + 1 => if k = 0 then 0 else coS m F f k + stR F (f (k - 1)) (f k) m
def roB (m : Nat) (F : Nat → Nat → Int) (f : Nat → Int) (k : Nat) : Bool := allB (fun i => decide (i = 0) || decide (0 ≤ stR F (f (i - 1)) (f i) m)) k
theorem roB_succ {m : Nat} {F : Nat → Nat → Int} {f : Nat → Int} {k : Nat} : roB m F f (k + 1) = (roB m F f k && (decide (k = 0) || decide (0 ≤ stR F (f (k - 1)) (f k) m))) := rfl
/-- What the reference's Cost is. -/
def coR (n m : Nat) (F : Nat → Nat → Int) (f : Nat → Int) (k : Nat) : Int := if k = 0 then -1 else if wkB n f k && roB m F f k then coS m F f k else -1

theorem wk_cost {n m : Nat} {F : Nat → Nat → Int} (hok : okM n m F = true) {f : Nat → Int} : ∀ k, wkB n f k = true →
    (roB m F f k = true ∧ wkS (stT n m F) f k = coS m F f k ∧ 0 ≤ coS m F f k ∧ coS m F f k ≤ 50 * (k - 1 : Nat)) ∨ (roB m F f k = false ∧ 400 ≤ wkS (stT n m F) f k) := by
  intro k
  induction k with
  | zero => intro _; exact .inl ⟨rfl, rfl, Int.le_refl _, by simp [coS]⟩
  | succ k ih =>
    intro h
    have hw := wkB_iff.1 h
    have ih := ih (wkB_iff.2 (fun i hi => hw i (by omega)))
    rw [roB_succ, wkS, coS]
    by_cases h0 : k = 0
    · subst h0
      left
      simp [roB, allB]
    · rw [if_neg h0, if_neg h0, decide_eq_false h0, Bool.false_or]
      obtain ⟨hk1, hk2⟩ := hw k (by omega)
      obtain ⟨hj1, -⟩ := hw (k - 1) (by omega)
      have hne := hk2 (k - 1) (by omega)
      obtain ⟨x, hx⟩ : ∃ x : Nat, f (k - 1) = x := ⟨(f (k - 1)).toNat, by omega⟩
      obtain ⟨y, hy⟩ : ∃ y : Nat, f k = y := ⟨(f k).toNat, by omega⟩
      rw [hx] at hj1 hne ⊢
      rw [hy] at hk1 hne ⊢
      have hs := stT_stR hok (x := x) (y := y) (by omega) (by omega) (by omega)
      have hr := stR_rng hok x y m (Nat.le_refl _)
      have hnn := (stT_met hok).nn (8 * x + y)
      simp only [Int.toNat_natCast]
      rcases ih with ⟨e1, e2, e3, e4⟩ | ⟨e1, e2⟩
      · rw [e1, Bool.true_and]
        by_cases h4 : 0 ≤ stR F x y m
        · rw [if_neg (by omega)] at hs
          exact .inl ⟨decide_eq_true h4, by omega, by omega, by omega⟩
        · rw [if_pos (by omega)] at hs
          exact .inr ⟨decide_eq_false h4, by omega⟩
      · rw [e1, Bool.false_and]
        exact .inr ⟨rfl, by omega⟩
/-- The program's answer: is it a way, and its cost. -/
theorem wk_way {n m : Nat} {F : Nat → Nat → Int} (hok : okM n m F = true) {f : Nat → Int} {k : Nat} (h : wkB n f k = true) (h0 : 0 < k) :
    (wkS (stT n m F) f k < 400 ∧ coR n m F f k = wkS (stT n m F) f k ∧ 0 ≤ coR n m F f k) ∨ (¬ wkS (stT n m F) f k < 400 ∧ coR n m F f k = -1) := by
  have hk := wkB_le h
  have hn8 : n ≤ 8 := by have := (okM_iff.1 hok).1; omega
  unfold coR
  rw [if_neg (by omega), h, Bool.true_and]
  rcases wk_cost hok k h with ⟨e1, e2, e3, e4⟩ | ⟨e1, e2⟩
  · rw [e1]
    exact .inl ⟨by omega, by rw [e2]; rfl, by simpa using e3⟩
  · rw [e1]
    exact .inr ⟨by omega, rfl⟩
theorem wkS_nn {n m : Nat} {F : Nat → Nat → Int} (hok : okM n m F = true) {f : Nat → Int} (k : Nat) : 0 ≤ wkS (stT n m F) f k ∧ wkS (stT n m F) f k ≤ 400 * k := by
  have hnn := (stT_met hok).nn
  have hb := stT_bd (n := n) (m := m) (F := F) (fun k hk => by have := (okM_iff.1 hok).2.2 k hk; omega)
  induction k with
  | zero => exact ⟨Int.le_refl _, by simp [wkS]⟩
  | succ k ih =>
    rw [wkS]
    by_cases h : k = 0
    · rw [if_pos h]
      omega
    · rw [if_neg h]
      have h1 := hnn (8 * (f (k - 1)).toNat + (f k).toNat)
      have h2 := hb (8 * (f (k - 1)).toNat + (f k).toNat)
      omega
end Go.Proofs.Ytclhamemlpbpiaa
