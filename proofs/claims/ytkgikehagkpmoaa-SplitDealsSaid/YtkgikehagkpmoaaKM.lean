import Derived.Test.YtkgikehagkpmoaaFair
import Derived.Test.YtkgikehagkpmoaaEnvy
namespace Go.Proofs.Ytkgikehagkpmoaa

/-- What everybody has, by one person's values, is what all goods are worth. -/
theorem sum_upd (a : Nat → Int) (x : Int) (n : Nat) (t : Int) : sumTo (fun j => if t = (j : Int) then a j + x else a j) n = sumTo a n + if 0 ≤ t ∧ t < n then x else 0 := by
  induction n with
  | zero => simp [sumTo]; omega
  | succ n ih =>
    simp only [sumTo, ih]
    by_cases h : t = (n : Int)
    · rw [if_pos h, if_neg (by omega), if_pos (by omega)]
      omega
    · rw [if_neg h]
      by_cases h2 : 0 ≤ t ∧ t < n
      · rw [if_pos h2, if_pos (by omega)]; omega
      · rw [if_neg h2, if_neg (by omega)]; omega
theorem sum_parts {n m : Nat} {f d : Nat → Int} (h : Own n m d) (k : Nat) (hk : k ≤ m) : sumTo (fun j => wTo f d j k) n = sumTo f k := by
  induction k with
  | zero =>
    have : ∀ n, sumTo (fun j => wTo f d j 0) n = 0 := fun n => by
      induction n with
      | zero => rfl
      | succ n ih => rw [sumTo, ih]; rfl
    rw [this]; rfl
  | succ k ih =>
    have h1 := sum_upd (fun j => wTo f d j k) (f k) n (d k)
    rw [if_pos (h k (by omega)), ih (by omega)] at h1
    simpa only [wTo, sumTo] using h1
theorem sumTo_le {a b : Nat → Int} {n : Nat} (h : ∀ j, j < n → a j ≤ b j) : sumTo a n ≤ sumTo b n := by
  induction n with
  | zero => simp [sumTo]
  | succ n ih =>
    have h1 := h n (by omega)
    have h2 := ih (fun j hj => h j (by omega))
    simp only [sumTo]; omega
theorem sumTo_const (x : Int) (n : Nat) : sumTo (fun _ => x) n = n * x := by
  induction n with
  | zero => simp [sumTo]
  | succ n ih => simp only [sumTo, ih, Int.natCast_add, Int.add_mul]; omega
theorem wTo_zero_or {f d : Nat → Int} {j : Int} {m : Nat} (h : wTo f d j m ≠ 0) : ∃ g, g < m ∧ d g = j := by
  induction m with
  | zero => simp [wTo] at h
  | succ k ih =>
    by_cases e : d k = j
    · exact ⟨k, by omega, e⟩
    · rw [wTo_no e] at h
      obtain ⟨g, h1, h2⟩ := ih h
      exact ⟨g, by omega, h2⟩

section
variable {n m : Nat} {v : Nat → Nat → Int} {d : Nat → Int}
def fairAll (n m : Nat) (v : Nat → Nat → Int) (d : Nat → Int) (kind : Int) : Bool := allB (fairToB n m v d kind) n

theorem fair_lt3 {kind : Int} (hk : kind ≠ 3) (hk4 : kind ≠ 4) : fairAll n m v d kind = true ↔ ∀ i, i < n → ∀ j, j < n → badP m v d i kind j = false := by
  unfold fairAll
  rw [allB_iff]
  constructor
  · intro h i hi j hj
    have := h i hi
    simp only [fairToB, hk, hk4, if_false] at this
    cases e : badP m v d i kind j with
    | false => rfl
    | true =>
      rw [anyB_t hj e] at this
      cases this
  · intro h i hi
    simp only [fairToB, hk, hk4, if_false]
    rw [anyB_f (fun j hj => h i hi j hj)]
    rfl
theorem bad0 (i j : Nat) : badP m v d i 0 j = envB m v d i j := by simp [badP, excB]

theorem envRow_nil (i k : Nat) : envRow m v d i k = [] ↔ ∀ j, j < k → envB m v d i j = false := by
  induction k with
  | zero => simp [envRow]
  | succ k ih =>
    simp only [envRow]
    constructor
    · intro h j hj
      split at h
      · simp at h
      · rename_i hk
        rcases Nat.lt_or_ge j k with hl | hl
        · exact ih.1 h j hl
        · obtain rfl : j = k := by omega
          simpa using hk
    · intro h
      rw [if_neg (by rw [h k (by omega)]; simp)]
      exact ih.2 (fun j hj => h j (by omega))
theorem envAll_nil (i : Nat) : envAll n m v d i = [] ↔ ∀ a, a < i → ∀ j, j < n → envB m v d a j = false := by
  induction i with
  | zero => simp [envAll]
  | succ i ih =>
    simp only [envAll, List.append_eq_nil_iff, ih, envRow_nil]
    constructor
    · rintro ⟨h1, h2⟩ a ha j hj
      rcases Nat.lt_or_ge a i with hl | hl
      · exact h1 a hl j hj
      · obtain rfl : a = i := by omega
        exact h2 j hj
    · intro h
      exact ⟨fun a ha j hj => h a (by omega) j hj, fun j hj => h i (by omega) j hj⟩

/-- Kind 0 is that Envy is empty. -/
theorem kind0 : fairAll n m v d 0 = true ↔ envAll n m v d n = [] := by
  rw [fair_lt3 (by decide) (by decide), envAll_nil]
  simp only [bad0]
theorem kind0_2 (h : fairAll n m v d 0 = true) : fairAll n m v d 2 = true := by
  rw [fair_lt3 (by decide) (by decide)] at h ⊢
  intro i hi j hj
  have := h i hi j hj
  rw [bad0] at this
  simp [badP, this]
theorem kind0_3 (hO : Own n m d) (h : fairAll n m v d 0 = true) : fairAll n m v d 3 = true := by
  rw [fair_lt3 (by decide) (by decide)] at h
  unfold fairAll
  rw [allB_iff]
  intro i hi
  simp only [fairToB, if_true, enoughB, decide_eq_true_eq]
  rw [← sum_parts (f := v i) hO m (Nat.le_refl _), ← sumTo_const]
  refine sumTo_le fun j hj => ?_
  have := h i hi j hj
  rw [bad0] at this
  simp only [envB, decide_eq_false_iff_not] at this
  omega
theorem kind2_1 {u : Int} (hb : BdM n m v u) (h : fairAll n m v d 2 = true) : fairAll n m v d 1 = true := by
  rw [fair_lt3 (by decide) (by decide)] at h ⊢
  intro i hi j hj
  have h1 := h i hi j hj
  simp only [badP, Bool.and_eq_false_iff, Bool.not_eq_false'] at h1 ⊢
  cases he : envB m v d i j with
  | false => exact .inl rfl
  | true =>
    refine .inr ?_
    rcases h1 with h1 | h1
    · rw [he] at h1; cases h1
    · simp only [excB] at h1 ⊢
      rw [if_neg (by decide), if_pos trivial] at h1
      rw [if_pos trivial]
      simp only [envB, decide_eq_true_eq] at he
      have h0 := (wTo_bd (hb i hi) d i m (Nat.le_refl _)).1
      obtain ⟨g, hg, hd⟩ := wTo_zero_or (f := v i) (d := d) (j := j) (m := m) (by omega)
      have h2 := allB_iff.1 h1 g hg
      simp only [eachP, hd, decide_true, Bool.not_true, Bool.false_or] at h2
      exact anyB_t hg (by simp [someP, hd, h2])
theorem max_other {m : Nat} {f d : Nat → Int} {i : Int} {u : Int} (hb : Bd m f u) (hex : ∃ g, g < m ∧ ¬ d g = i) : ∃ g, g < m ∧ ¬ d g = i ∧ ∀ g', g' < m → ¬ d g' = i → f g' ≤ f g := by
  induction m with
  | zero => obtain ⟨g, h, _⟩ := hex; omega
  | succ k ih =>
    by_cases hk : ∃ g, g < k ∧ ¬ d g = i
    · obtain ⟨g, h1, h2, h3⟩ := ih (fun j hj => hb j (by omega)) hk
      by_cases c : ¬ d k = i ∧ f g < f k
      · refine ⟨k, by omega, c.1, fun g' h4 h5 => ?_⟩
        rcases Nat.lt_or_ge g' k with hl | hl
        · have := h3 g' hl h5; omega
        · obtain rfl : g' = k := by omega
          omega
      · refine ⟨g, by omega, h2, fun g' h4 h5 => ?_⟩
        rcases Nat.lt_or_ge g' k with hl | hl
        · exact h3 g' hl h5
        · obtain rfl : g' = k := by omega
          have : ¬ f g < f g' := fun hh => c ⟨h5, hh⟩
          omega
    · obtain ⟨g, h1, h2⟩ := hex
      have : g = k := by
        rcases Nat.lt_or_ge g k with hl | hl
        · exact absurd ⟨g, hl, h2⟩ hk
        · omega
      subst this
      refine ⟨g, h1, h2, fun g' h4 h5 => ?_⟩
      rcases Nat.lt_or_ge g' g with hl | hl
      · exact absurd ⟨g', hl, h5⟩ hk
      · obtain rfl : g' = g := by omega
        omega
theorem kind1_4 {u : Int} (hn : 1 ≤ n) (hO : Own n m d) (hb : BdM n m v u) (h : fairAll n m v d 1 = true) : fairAll n m v d 4 = true := by
  rw [fair_lt3 (by decide) (by decide)] at h
  unfold fairAll
  rw [allB_iff]
  intro i hi
  simp only [fairToB]
  rw [if_neg (by decide), if_pos trivial]
  cases he : enoughB n m (v i) d i with
  | true => rfl
  | false =>
    rw [Bool.false_or]
    simp only [enoughB, decide_eq_false_iff_not] at he
    have hs := sum_parts (f := v i) hO m (Nat.le_refl _)
    have h0 := (wTo_bd (hb i hi) d i m (Nat.le_refl _)).1
    have hex : ∃ g, g < m ∧ ¬ d g = (i : Int) := by
      by_cases c : ∃ g, g < m ∧ ¬ d g = (i : Int)
      · exact c
      · exfalso
        have h1 : ∀ k, k ≤ m → wTo (v i) d i k = sumTo (v i) k := fun k hk => by
          induction k with
          | zero => rfl
          | succ k ih =>
            have : d k = (i : Int) := by
              by_cases e : d k = (i : Int)
              · exact e
              · exact absurd ⟨k, by omega, e⟩ c
            rw [wTo_yes this, ih (by omega)]; rfl
        have h2 := h1 m (Nat.le_refl _)
        rw [h2] at he h0
        have : 1 * sumTo (v i) m ≤ n * sumTo (v i) m := Int.mul_le_mul_of_nonneg_right (by omega) h0
        omega
    obtain ⟨g, hg, hgi, hmax⟩ := max_other (hb i hi) hex
    have hg0 := (hb i hi g hg).1
    refine anyB_t hg ?_
    simp only [oneP, decide_eq_true_eq]
    refine ⟨hgi, ?_⟩
    rw [← hs, ← sumTo_const]
    refine sumTo_le fun j hj => ?_
    by_cases hji : j = i
    · subst hji; omega
    · have h1 := h i hi j hj
      simp only [badP, Bool.and_eq_false_iff, Bool.not_eq_false', envB, decide_eq_false_iff_not] at h1
      rcases h1 with h1 | h1
      · omega
      · simp only [excB, if_true] at h1
        obtain ⟨g', hg', h2⟩ := anyB_iff.1 h1
        simp only [someP, goneB, Bool.and_eq_true, decide_eq_true_eq] at h2
        have := hmax g' hg' (by omega)
        omega
theorem kind3_4 (h : fairAll n m v d 3 = true) : fairAll n m v d 4 = true := by
  unfold fairAll at h ⊢
  rw [allB_iff] at h ⊢
  intro i hi
  have := h i hi
  simp only [fairToB, if_true] at this
  simp only [fairToB]
  rw [if_neg (by decide), if_pos trivial, this]
  rfl
end
end Go.Proofs.Ytkgikehagkpmoaa
