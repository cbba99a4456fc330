import Derived.Test.YtkgikehagkpmoaaLeast
import Derived.Test.YtkgikehagkpmoaaImp
namespace Go.Proofs.Ytkgikehagkpmoaa

/-- f is nowhere less than g, and somewhere more. -/
theorem impB_iff {n : Nat} {f g : Nat → Int} : impB n f g = true ↔ (∀ i, i < n → g i ≤ f i) ∧ ∃ i, i < n ∧ g i < f i := by
  simp only [impB, Bool.and_eq_true, allB_iff, anyB_iff, leP, gtP, decide_eq_true_eq]

/-- A better division gives at least as many people something, and if as many, a greater product. -/
theorem prod_le {f g : Nat → Int} (n : Nat) (h0 : ∀ i, i < n → 0 ≤ g i) (h : ∀ i, i < n → g i ≤ f i) :
    cntTo g n ≤ cntTo f n ∧ 1 ≤ prodTo g n ∧ 1 ≤ prodTo f n ∧ (cntTo g n = cntTo f n → prodTo g n ≤ prodTo f n ∧ ((∃ i, i < n ∧ g i < f i) → prodTo g n < prodTo f n)) := by
  induction n with
  | zero => exact ⟨by simp [cntTo], by simp [prodTo], by simp [prodTo], fun _ => ⟨by simp [prodTo], fun ⟨i, hi, _⟩ => absurd hi (by omega)⟩⟩
  | succ n ih =>
    obtain ⟨h1, h2, h3, h4⟩ := ih (fun i hi => h0 i (by omega)) (fun i hi => h i (by omega))
    have a := h0 n (by omega)
    have b := h n (by omega)
    simp only [cntTo, prodTo]
    have up : ∀ p x : Int, 1 ≤ p → 0 < x → 1 ≤ p * x := fun p x hp hx => by
      have : 1 * 1 ≤ p * x := Int.mul_le_mul hp hx (by omega) (by omega)
      omega
    by_cases c : 0 < g n
    · have c' : 0 < f n := by omega
      simp only [c, c', if_true]
      refine ⟨by omega, up _ _ h2 c, up _ _ h3 c', fun e => ?_⟩
      obtain ⟨h5, h6⟩ := h4 (by omega)
      refine ⟨Int.mul_le_mul h5 b (by omega) (by omega), ?_⟩
      rintro ⟨i, hi, l⟩
      rcases Nat.lt_or_ge i n with hl | hl
      · have h7 := h6 ⟨i, hl, l⟩
        have e1 : prodTo g n * g n < prodTo f n * g n := Int.mul_lt_mul_of_pos_right h7 c
        have e2 : prodTo f n * g n ≤ prodTo f n * f n := Int.mul_le_mul_of_nonneg_left b (by omega)
        omega
      · obtain rfl : i = n := by omega
        have e1 : prodTo g i * g i ≤ prodTo f i * g i := Int.mul_le_mul_of_nonneg_right h5 (by omega)
        have e2 : prodTo f i * g i < prodTo f i * f i := Int.mul_lt_mul_of_pos_left l (by omega)
        omega
    · by_cases c' : 0 < f n
      · simp only [c, c', if_true, if_false]
        exact ⟨by omega, h2, up _ _ h3 c', fun e => by omega⟩
      · simp only [c, c', if_false]
        refine ⟨h1, h2, h3, fun e => ?_⟩
        obtain ⟨h5, h6⟩ := h4 e
        refine ⟨h5, ?_⟩
        rintro ⟨i, hi, l⟩
        rcases Nat.lt_or_ge i n with hl | hl
        · exact h6 ⟨i, hl, l⟩
        · obtain rfl : i = n := by omega
          omega

theorem lex_nash {n : Nat} {f g : Nat → Int} (h0 : ∀ i, i < n → 0 ≤ g i) (h : impB n f g = true) : LexLt (scoreN n g) (scoreN n f) 2 := by
  obtain ⟨h1, h2⟩ := impB_iff.1 h
  obtain ⟨h3, -, -, h4⟩ := prod_le n h0 h1
  have a0 : ∀ f, scoreN n f 0 = cntTo f n := fun f => rfl
  have a1 : ∀ f, scoreN n f 1 = prodTo f n := fun f => rfl
  rcases Int.lt_or_le (cntTo g n) (cntTo f n) with l | l
  · exact ⟨0, by omega, fun j hj => absurd hj (by omega), by rw [a0, a0]; exact l⟩
  · have e : cntTo g n = cntTo f n := by omega
    exact ⟨1, by omega, fun j hj => (by obtain rfl : j = 0 := (by omega); rw [a0, a0]; exact e), by rw [a1, a1]; exact (h4 e).2 h2⟩

/-- How many of the first n are at most t. -/
def cle (f : Nat → Int) (n : Nat) (t : Int) : Nat := (lst n f).countP fun x => decide (x ≤ t)
theorem cle_succ (f : Nat → Int) (n : Nat) (t : Int) : cle f (n + 1) t = cle f n t + (if f n ≤ t then 1 else 0) := by
  unfold cle
  rw [lst_succ, List.countP_append]
  by_cases c : f n ≤ t <;> simp [c]
theorem cle_le {f g : Nat → Int} {n : Nat} (h : ∀ i, i < n → g i ≤ f i) (t : Int) : cle f n t ≤ cle g n t := by
  induction n with
  | zero => simp [cle, lst_zero]
  | succ n ih =>
    have h1 := ih (fun i hi => h i (by omega))
    have h2 := h n (by omega)
    rw [cle_succ, cle_succ]
    by_cases c : f n ≤ t
    · rw [if_pos c, if_pos (by omega)]; omega
    · rw [if_neg c]; omega
theorem cle_lt {f g : Nat → Int} {n i : Nat} (h : ∀ i, i < n → g i ≤ f i) (hi : i < n) (l : g i < f i) : cle f n (g i) < cle g n (g i) := by
  induction n with
  | zero => omega
  | succ n ih =>
    rw [cle_succ, cle_succ]
    rcases Nat.lt_or_ge i n with hl | hl
    · have h1 := ih (fun i hi => h i (by omega)) hl
      have h2 := h n (by omega)
      by_cases c : f n ≤ g i
      · rw [if_pos c, if_pos (by omega)]; omega
      · rw [if_neg c]; omega
    · obtain rfl : i = n := by omega
      have h1 := cle_le (f := f) (g := g) (n := i) (fun j hj => h j (by omega)) (g i)
      rw [if_neg (by omega), if_pos (by omega)]
      omega
/-- A rising list has more than k entries of at most t exactly if its k-th one is. -/
theorem rising_count {l : List Int} (hp : l.Pairwise (fun x y => decide (x ≤ y) = true)) (t : Int) : ∀ k, k < l.length → (l.getD k 0 ≤ t ↔ k < l.countP fun x => decide (x ≤ t)) := by
  induction l with
  | nil => intro k hk; simp at hk
  | cons a l ih =>
    obtain ⟨h1, h2⟩ := List.pairwise_cons.1 hp
    intro k hk
    by_cases c : a ≤ t
    · rw [List.countP_cons_of_pos (by simpa using c)]
      rcases k with _ | k
      · simp [c]
      · have := ih h2 k (by simpa using hk)
        simp only [List.getD_cons_succ]
        omega
    · have h3 : (a :: l).countP (fun x => decide (x ≤ t)) = 0 := by
        rw [List.countP_eq_zero]
        intro x hx
        rcases List.mem_cons.1 hx with e | e
        · simp; omega
        · have := h1 x e
          simp at this ⊢
          omega
      rw [h3]
      refine ⟨fun h => ?_, fun h => absurd h (by omega)⟩
      have hm : (a :: l).getD k 0 ∈ a :: l := by
        rw [List.getD_eq_getElem?_getD, List.getElem?_eq_getElem hk]
        exact List.getElem_mem hk
      rcases List.mem_cons.1 hm with e | e
      · omega
      · have := h1 _ e
        simp only [decide_eq_true_eq] at this
        omega
theorem sort_count (n : Nat) (f : Nat → Int) (t : Int) (k : Nat) (hk : k < n) : scoreL n f k ≤ t ↔ k < cle f n t := by
  have hp : (sortL n f).Pairwise (fun x y => decide (x ≤ y) = true) := List.pairwise_mergeSort (by intro a b c h1 h2; simp at *; omega) (by intro a b; simp; omega) _
  have h := rising_count hp t k (by rw [sortL_len]; exact hk)
  have e : (sortL n f).countP (fun x => decide (x ≤ t)) = cle f n t := List.Perm.countP_eq _ (List.mergeSort_perm _ _)
  rw [e] at h
  exact h
theorem lex_least {n : Nat} {f g : Nat → Int} (h : impB n f g = true) : LexLt (scoreL n g) (scoreL n f) n := by
  obtain ⟨h1, i, hi, l⟩ := impB_iff.1 h
  have dom : ∀ k, k < n → scoreL n g k ≤ scoreL n f k := fun k hk => by
    rw [sort_count n g _ k hk]
    have a := (sort_count n f (scoreL n f k) k hk).1 (Int.le_refl _)
    have b := cle_le h1 (scoreL n f k)
    omega
  -- at the last place of the count they differ
  have hc := cle_lt h1 hi l
  have hcn : cle g n (g i) ≤ n := by
    unfold cle
    have := List.countP_le_length (p := fun x => decide (x ≤ g i)) (l := lst n g)
    rw [lst_len] at this
    exact this
  have hd : ∃ k, k < n ∧ scoreL n g k < scoreL n f k := by
    refine ⟨cle f n (g i), by omega, ?_⟩
    have a := (sort_count n g (g i) (cle f n (g i)) (by omega)).2 hc
    have b : ¬ scoreL n f (cle f n (g i)) ≤ g i := fun h => by
      have := (sort_count n f (g i) (cle f n (g i)) (by omega)).1 h
      omega
    omega
  rcases cmpF_cases (scoreL n g) (scoreL n f) n with ⟨-, e⟩ | ⟨-, k, hk, e, l'⟩ | ⟨-, h⟩
  · obtain ⟨k, hk, l'⟩ := hd
    have := e k hk
    omega
  · have := dom k hk
    omega
  · exact h

theorem wrt_nn {n m : Nat} {v : Nat → Nat → Int} (hb : BdM n m v 100) (d : Nat → Int) : ∀ i, i < n → 0 ≤ wrt v m d i := fun i hi => (wTo_bd (hb i hi) d i m (Nat.le_refl _)).1

end Go.Proofs.Ytkgikehagkpmoaa
