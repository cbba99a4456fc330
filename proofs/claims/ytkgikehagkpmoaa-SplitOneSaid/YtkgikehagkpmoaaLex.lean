import Derived.Test.YtkgikehagkpmoaaGr2
namespace Go.Proofs.Ytkgikehagkpmoaa

def LexLt (f g : Nat → Int) (n : Nat) : Prop := ∃ k, k < n ∧ (∀ j, j < k → f j = g j) ∧ f k < g k
theorem LexLt.trans {f g h : Nat → Int} {n : Nat} (h1 : LexLt f g n) (h2 : LexLt g h n) : LexLt f h n := by
  obtain ⟨k, hk, e, l⟩ := h1
  obtain ⟨k', hk', e', l'⟩ := h2
  rcases Nat.lt_trichotomy k k' with c | c | c
  · exact ⟨k, hk, fun j hj => (e j hj).trans (e' j (by omega)), by rw [← e' k c]; exact l⟩
  · subst c
    exact ⟨k, hk, fun j hj => (e j hj).trans (e' j hj), by omega⟩
  · exact ⟨k', hk', fun j hj => (e j (by omega)).trans (e' j hj), by rw [e k' c]; exact l'⟩
theorem LexLt.irrefl {f : Nat → Int} {n : Nat} : ¬ LexLt f f n := fun ⟨k, _, _, l⟩ => by omega
theorem cmpF_cases (f g : Nat → Int) (n : Nat) : (cmpF f g n = 0 ∧ ∀ j, j < n → f j = g j) ∨ (0 < cmpF f g n ∧ LexLt g f n) ∨ (cmpF f g n < 0 ∧ LexLt f g n) := by
  induction n with
  | zero => exact .inl ⟨rfl, fun j hj => absurd hj (by omega)⟩
  | succ n ih =>
    rcases ih with ⟨h1, h2⟩ | ⟨h1, k, hk, e, l⟩ | ⟨h1, k, hk, e, l⟩
    · simp only [cmpF, h1, if_true]
      rcases Int.lt_trichotomy (f n) (g n) with c | c | c
      · rw [cmpI_lt c]
        exact .inr (.inr ⟨by decide, n, by omega, h2, c⟩)
      · rw [cmpI_eq c]
        refine .inl ⟨rfl, fun j hj => ?_⟩
        rcases Nat.lt_or_ge j n with hl | hl
        · exact h2 j hl
        · obtain rfl : j = n := by omega
          exact c
      · rw [cmpI_gt c]
        exact .inr (.inl ⟨by decide, n, by omega, fun j hj => (h2 j hj).symm, c⟩)
    · have : ¬ cmpF f g n = 0 := by omega
      simp only [cmpF, this, if_false]
      exact .inr (.inl ⟨h1, k, by omega, e, l⟩)
    · have : ¬ cmpF f g n = 0 := by omega
      simp only [cmpF, this, if_false]
      exact .inr (.inr ⟨h1, k, by omega, e, l⟩)
theorem LexLt.asymm {f g : Nat → Int} {n : Nat} (h : LexLt f g n) : ¬ LexLt g f n := fun h' => LexLt.irrefl (h.trans h')
theorem cmpF_pos {f g : Nat → Int} {n : Nat} : 0 < cmpF f g n ↔ LexLt g f n := by
  rcases cmpF_cases f g n with ⟨h1, h2⟩ | ⟨h1, h2⟩ | ⟨h1, h2⟩
  · constructor
    · intro h; omega
    · rintro ⟨k, hk, _, l⟩
      have := h2 k hk
      omega
  · exact ⟨fun _ => h2, fun _ => h1⟩
  · exact ⟨fun h => by omega, fun h => absurd h h2.asymm⟩

/-- No score is greater than that of the first best. -/
theorem bst_max (s : Nat → Nat → Int) (len N i : Nat) (hi : i < N) : ¬ LexLt (s (bst s len N)) (s i) len := by
  induction N with
  | zero => omega
  | succ N ih =>
    simp only [bst]
    by_cases c : N = 0 ∨ 0 < cmpF (s N) (s (bst s len N)) len
    · rw [if_pos c]
      rcases Nat.lt_or_ge i N with hl | hl
      · intro h
        have hp := cmpF_pos.1 (c.resolve_left (by omega))
        exact ih hl (hp.trans h)
      · obtain rfl : i = N := by omega
        exact LexLt.irrefl
    · rw [if_neg c]
      rcases Nat.lt_or_ge i N with hl | hl
      · exact ih hl
      · obtain rfl : i = N := by omega
        exact fun h => c (.inr (cmpF_pos.2 h))
theorem bst_lt (s : Nat → Nat → Int) (len N : Nat) (hN : 0 < N) : bst s len N < N := by
  induction N with
  | zero => omega
  | succ N ih =>
    simp only [bst]
    split
    · omega
    · rename_i c
      have := ih (by omega)
      omega
end Go.Proofs.Ytkgikehagkpmoaa
