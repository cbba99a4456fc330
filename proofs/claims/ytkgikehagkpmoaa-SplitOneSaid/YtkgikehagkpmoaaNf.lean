import Derived.Test.YtkgikehagkpmoaaRd3
import Derived.Test.YtkgikehagkpmoaaDv1
import Derived.Test.YtkgikehagkpmoaaDig2
import Derived.Test.YtkgikehagkpmoaaLex
import Derived.Test.YtkgikehagkpmoaaFair
namespace Go.Proofs.Ytkgikehagkpmoaa

theorem wrt_code2 {n m : Nat} {d : Nat → Int} (hn : 0 < n) (ho : Own n m d) (v : Nat → Nat → Int) : ∃ i, i < n ^ m ∧ wrt v m d = wrt v m (dg n m i) := by
  obtain ⟨i, hi, h⟩ := dg_code hn m d ho
  exact ⟨i, hi, funext fun p => (wTo_congr m (fun g hg => h g hg)).symm⟩
theorem nash_max {n m : Nat} {v : Nat → Nat → Int} {d : Nat → Int} (hn : 0 < n) (ho : Own n m d) :
    cntTo (wrt v m d) n < cntTo (wrt v m (dg n m (nashI v n m))) n ∨ (cntTo (wrt v m d) n = cntTo (wrt v m (dg n m (nashI v n m))) n ∧ prodTo (wrt v m d) n ≤ prodTo (wrt v m (dg n m (nashI v n m))) n) := by
  obtain ⟨i, hi, e⟩ := wrt_code2 hn ho v
  rw [e]
  have h := bst_max (nashS v n m) 2 (n ^ m) i hi
  have a0 : ∀ i, nashS v n m i 0 = cntTo (wrt v m (dg n m i)) n := fun i => rfl
  have a1 : ∀ i, nashS v n m i 1 = prodTo (wrt v m (dg n m i)) n := fun i => rfl
  change ¬ LexLt (nashS v n m (nashI v n m)) _ 2 at h
  rw [← a0, ← a0, ← a1, ← a1]
  rcases Int.lt_trichotomy (nashS v n m i 0) (nashS v n m (nashI v n m) 0) with c | c | c
  · exact .inl c
  · refine .inr ⟨c, ?_⟩
    rcases Int.lt_or_le (nashS v n m (nashI v n m) 1) (nashS v n m i 1) with l | l
    · exact absurd (show LexLt (nashS v n m (nashI v n m)) (nashS v n m i) 2 from ⟨1, by omega, fun j hj => (by obtain rfl : j = 0 := (by omega); exact c.symm), l⟩) h
    · exact l
  · exact absurd ⟨0, by omega, fun j hj => absurd hj (by omega), c⟩ h

theorem prodTo_pos (f : Nat → Int) (n : Nat) : 1 ≤ prodTo f n := by
  induction n with
  | zero => exact Int.le_refl _
  | succ n ih =>
    simp only [prodTo]
    split
    · have : 1 * 1 ≤ prodTo f n * f n := Int.mul_le_mul ih (by omega) (by omega) (by omega)
      omega
    · exact ih
theorem cnt_eq {f g : Nat → Int} {n : Nat} (h : ∀ k, k < n → f k = g k) : cntTo f n = cntTo g n ∧ prodTo f n = prodTo g n := by
  induction n with
  | zero => exact ⟨rfl, rfl⟩
  | succ n ih =>
    obtain ⟨h1, h2⟩ := ih (fun k hk => h k (by omega))
    simp only [cntTo, prodTo, h1, h2, h n (by omega)]
    exact ⟨trivial, trivial⟩
/-- One factor taken out. -/
theorem one_out {f : Nat → Int} {i : Nat} : ∀ n, i < n → (0 < f i → cntTo f n = cntTo (upd f i 1) n ∧ prodTo f n = prodTo (upd f i 1) n * f i) ∧ (f i ≤ 0 → cntTo (upd f i 1) n = cntTo f n + 1) := by
  intro n
  induction n with
  | zero => intro h; omega
  | succ n ih =>
    intro hi
    by_cases e : i = n
    · subst e
      have hc := cnt_eq (f := upd f i 1) (g := f) (n := i) (fun k hk => upd_ne _ _ (by omega))
      simp only [cntTo, prodTo, upd_at, hc.1, hc.2]
      refine ⟨fun h => ?_, fun h => ?_⟩
      · rw [if_pos h, if_pos h, if_pos (by omega), if_pos (by omega), Int.mul_one]
        exact ⟨rfl, rfl⟩
      · rw [if_pos (by omega), if_neg (by omega)]
    · obtain ⟨h1, h2⟩ := ih (by omega)
      have hne : upd f i 1 n = f n := upd_ne _ _ (fun e2 => e e2.symm)
      simp only [cntTo, prodTo, hne]
      refine ⟨fun h => ?_, fun h => ?_⟩
      · obtain ⟨a, b⟩ := h1 h
        rw [a, b]
        refine ⟨rfl, ?_⟩
        split
        · rw [Int.mul_right_comm]
        · rfl
      · rw [h2 h]
        split <;> omega
/-- Neither fewer people with something, nor as many and no greater product. -/
def Beats (f' f : Nat → Int) (n : Nat) : Prop := cntTo f n < cntTo f' n ∨ (cntTo f' n = cntTo f n ∧ prodTo f n < prodTo f' n)
theorem beats_one {f f' : Nat → Int} {n i : Nat} (hi : i < n) (h0 : 0 ≤ f i) (hup : f i < f' i) (he : ∀ k, k ≠ i → f' k = f k) : Beats f' f n := by
  have hG : upd f' i 1 = upd f i 1 := funext fun k => by
    by_cases e : k = i
    · rw [e, upd_at, upd_at]
    · rw [upd_ne _ _ e, upd_ne _ _ e, he k e]
  obtain ⟨a1, a2⟩ := (one_out (f := f') n hi).1 (by omega)
  rw [hG] at a1 a2
  rcases Int.lt_or_le 0 (f i) with h | h
  · obtain ⟨b1, b2⟩ := (one_out (f := f) n hi).1 h
    refine .inr ⟨by rw [a1, b1], ?_⟩
    rw [a2, b2]
    exact Int.mul_lt_mul_of_pos_left hup (by have := prodTo_pos (upd f i 1) n; omega)
  · have b1 := (one_out (f := f) n hi).2 h
    exact .inl (by omega)
theorem beats_two {f f' : Nat → Int} {n i j : Nat} (hi : i < n) (hj : j < n) (hij : i ≠ j) (h0 : 0 ≤ f i) (hup : f i < f' i) (hj0 : 0 < f j) (hj1 : 0 < f' j) (hp : f i * f j < f' i * f' j) (he : ∀ k, k ≠ i → k ≠ j → f' k = f k) : Beats f' f n := by
  have hG : upd (upd f' j 1) i 1 = upd (upd f j 1) i 1 := funext fun k => by
    by_cases e : k = i
    · rw [e, upd_at, upd_at]
    · rw [upd_ne _ _ e, upd_ne _ _ e]
      by_cases e2 : k = j
      · rw [e2, upd_at, upd_at]
      · rw [upd_ne _ _ e2, upd_ne _ _ e2, he k e e2]
  have f1 : upd f' j 1 i = f' i := upd_ne _ _ hij
  have f2 : upd f j 1 i = f i := upd_ne _ _ hij
  obtain ⟨a1, a2⟩ := (one_out (f := f') n hj).1 hj1
  obtain ⟨c1, c2⟩ := (one_out (f := upd f' j 1) n hi).1 (by rw [f1]; omega)
  obtain ⟨b1, b2⟩ := (one_out (f := f) n hj).1 hj0
  rw [hG] at c1 c2
  rw [f1] at c2
  rcases Int.lt_or_le 0 (f i) with h | h
  · obtain ⟨d1, d2⟩ := (one_out (f := upd f j 1) n hi).1 (by rw [f2]; exact h)
    rw [f2] at d2
    refine .inr ⟨by rw [a1, c1, b1, d1], ?_⟩
    rw [a2, c2, b2, d2, Int.mul_assoc, Int.mul_assoc]
    exact Int.mul_lt_mul_of_pos_left hp (by have := prodTo_pos (upd (upd f j 1) i 1) n; omega)
  · have d1 := (one_out (f := upd f j 1) n hi).2 (by rw [f2]; exact h)
    exact .inl (by omega)

theorem wTo_move {f D : Nat → Int} {g : Nat} {i : Int} (q : Int) : ∀ K, wTo f (upd D g i) q K = wTo f D q K - (if g < K ∧ D g = q then f g else 0) + (if g < K ∧ i = q then f g else 0) := by
  intro K
  induction K with
  | zero => simp [wTo]
  | succ K ih =>
    by_cases c1 : K = g
    · subst c1
      simp only [wTo, ih, upd_at]
      have h1 : ¬ (K < K ∧ D K = q) := fun h => by omega
      have h2 : ¬ (K < K ∧ i = q) := fun h => by omega
      have h3 : (K < K + 1 ∧ D K = q) = (D K = q) := propext ⟨fun h => h.2, fun h => ⟨by omega, h⟩⟩
      have h4 : (K < K + 1 ∧ i = q) = (i = q) := propext ⟨fun h => h.2, fun h => ⟨by omega, h⟩⟩
      simp only [if_neg h1, if_neg h2, h3, h4]
      split <;> split <;> omega
    · simp only [wTo, ih, upd_ne D i c1]
      have h3 : (g < K + 1 ∧ D g = q) = (g < K ∧ D g = q) := propext ⟨fun h => ⟨by omega, h.2⟩, fun h => ⟨by omega, h.2⟩⟩
      have h4 : (g < K + 1 ∧ i = q) = (g < K ∧ i = q) := propext ⟨fun h => ⟨by omega, h.2⟩, fun h => ⟨by omega, h.2⟩⟩
      simp only [h3, h4]
      generalize (if g < K ∧ D g = q then f g else 0) = z1
      generalize (if g < K ∧ i = q then f g else 0) = z2
      split <;> omega
theorem wTo_neg {f D : Nat → Int} {q : Int} {K g0 : Nat} (h : ∀ g, g < K → D g = q → f g ≤ 0) (hg : g0 < K) (hq : D g0 = q) (hl : f g0 < 0) : wTo f D q K < 0 := by
  have key : ∀ K, (∀ g, g < K → D g = q → f g ≤ 0) → wTo f D q K ≤ 0 := fun K => by
    induction K with
    | zero => intro _; exact Int.le_refl _
    | succ K ih =>
      intro h
      have h1 := ih (fun g hg => h g (by omega))
      have h2 := h K (by omega)
      simp only [wTo]
      split
      · have := h2 (by assumption)
        omega
      · exact h1
  induction K with
  | zero => omega
  | succ K ih =>
    simp only [wTo]
    by_cases e : g0 = K
    · subst e
      rw [if_pos hq]
      have := key g0 (fun g hg => h g (by omega))
      omega
    · have h1 := ih (fun g hg => h g (by omega)) (by omega)
      have h2 := h K (by omega)
      split
      · have := h2 (by assumption)
        omega
      · exact h1
theorem wTo_ex {f D : Nat → Int} {q : Int} {K : Nat} (h : 0 < wTo f D q K) : ∃ g, g < K ∧ D g = q ∧ 0 < f g := by
  induction K with
  | zero => simp [wTo] at h
  | succ K ih =>
    simp only [wTo] at h
    by_cases e : D K = q
    · rw [if_pos e] at h
      rcases Int.lt_or_le 0 (f K) with h1 | h1
      · exact ⟨K, by omega, e, h1⟩
      · obtain ⟨g, hg, h2⟩ := ih (by omega)
        exact ⟨g, by omega, h2⟩
    · rw [if_neg e] at h
      obtain ⟨g, hg, h2⟩ := ih h
      exact ⟨g, by omega, h2⟩
theorem wTo_lin (a b : Int) (f g D : Nat → Int) (q : Int) (K : Nat) : wTo (fun x => a * f x - g x * b) D q K = a * wTo f D q K - wTo g D q K * b := by
  induction K with
  | zero => simp [wTo]
  | succ K ih =>
    simp only [wTo, ih]
    split
    · rw [Int.mul_add, Int.add_mul]; omega
    · rfl

/-- The greatest product is fair up to one. -/
theorem nash_ef1 {n m : Nat} {v : Nat → Nat → Int} (hn : 0 < n) (hb : BdM n m v 100) : Ef1 n m v (dg n m (nashI v n m)) := by
  intro i j hi hj
  obtain ⟨D, hD⟩ : ∃ D, D = dg n m (nashI v n m) := ⟨_, rfl⟩
  have hO : Own n m D := by rw [hD]; exact dg_own hn
  rw [← hD]
  rcases Int.lt_or_le (wTo (v i) D (i : Int) m) (wTo (v i) D (j : Int) m) with hlt | hle
  · right
    apply Classical.byContradiction
    intro hno
    have hbad : ∀ h, h < m → D h = (j : Int) → wTo (v i) D (i : Int) m < wTo (v i) D (j : Int) m - v i h := fun h hh hd => by
      rcases Int.lt_or_le (wTo (v i) D (i : Int) m) (wTo (v i) D (j : Int) m - v i h) with h1 | h1
      · exact h1
      · exact absurd ⟨h, hh, hd, h1⟩ hno
    have hij : i ≠ j := fun e => by subst e; omega
    have ha0 : 0 ≤ wTo (v i) D (i : Int) m := (wTo_bd (hb i hi) D (i : Int) m (Nat.le_refl _)).1
    have hb0 : 0 ≤ wTo (v j) D (j : Int) m := (wTo_bd (hb j hj) D (j : Int) m (Nat.le_refl _)).1
    -- a good of j's that i likes, and whose loss costs j least
    have hg : ∃ g, g < m ∧ D g = (j : Int) ∧ 0 < v i g ∧ v j g * wTo (v i) D (j : Int) m ≤ wTo (v j) D (j : Int) m * v i g := by
      apply Classical.byContradiction
      intro hx
      obtain ⟨g0, hg0, hd0, hv0⟩ := wTo_ex (show 0 < wTo (v i) D (j : Int) m by omega)
      have hall : ∀ g, g < m → D g = (j : Int) → 0 < v i g → wTo (v j) D (j : Int) m * v i g - v j g * wTo (v i) D (j : Int) m < 0 := fun g hg hd hv => by
        rcases Int.lt_or_le (wTo (v j) D (j : Int) m * v i g) (v j g * wTo (v i) D (j : Int) m) with h1 | h1
        · omega
        · exact absurd ⟨g, hg, hd, hv, h1⟩ hx
      have hs := wTo_neg (f := fun x => wTo (v j) D (j : Int) m * v i x - v j x * wTo (v i) D (j : Int) m) (D := D) (q := (j : Int)) (K := m) (fun g hg hd => by
        rcases Int.lt_or_le 0 (v i g) with h1 | h1
        · have := hall g hg hd h1
          show wTo (v j) D (j : Int) m * v i g - v j g * wTo (v i) D (j : Int) m ≤ 0
          omega
        · have e0 : v i g = 0 := by have := (hb i hi g hg).1; omega
          have e1 : 0 ≤ v j g * wTo (v i) D (j : Int) m := Int.mul_nonneg (hb j hj g hg).1 (by omega)
          show wTo (v j) D (j : Int) m * v i g - v j g * wTo (v i) D (j : Int) m ≤ 0
          rw [e0, Int.mul_zero]
          omega) hg0 hd0 (hall g0 hg0 hd0 hv0)
      rw [wTo_lin] at hs
      omega
    obtain ⟨g, hgm, hdg, hx0, hyV⟩ := hg
    have hVx := hbad g hgm hdg
    have hy0 := (hb j hj g hgm).1
    -- i gets it
    have hO' : Own n m (upd D g (i : Int)) := fun x hx => by
      by_cases e : x = g
      · rw [e, upd_at]; omega
      · rw [upd_ne _ _ e]; exact hO x hx
    have hmax := nash_max (v := v) hn hO'
    rw [← hD] at hmax
    have hFi : wrt v m (upd D g (i : Int)) i = wTo (v i) D (i : Int) m + v i g := by
      show wTo (v i) (upd D g (i : Int)) (i : Int) m = _
      rw [wTo_move, if_neg (by omega), if_pos ⟨hgm, rfl⟩]; omega
    have hFj : wrt v m (upd D g (i : Int)) j = wTo (v j) D (j : Int) m - v j g := by
      show wTo (v j) (upd D g (i : Int)) (j : Int) m = _
      rw [wTo_move, if_pos ⟨hgm, hdg⟩, if_neg (by omega)]; omega
    have hFk : ∀ k, k ≠ i → k ≠ j → wrt v m (upd D g (i : Int)) k = wrt v m D k := fun k h1 h2 => by
      show wTo (v k) (upd D g (i : Int)) (k : Int) m = wTo (v k) D (k : Int) m
      rw [wTo_move, if_neg (by omega), if_neg (by omega)]; omega
    have hbeat : Beats (wrt v m (upd D g (i : Int))) (wrt v m D) n := by
      have wi : wrt v m D i = wTo (v i) D (i : Int) m := rfl
      have wj : wrt v m D j = wTo (v j) D (j : Int) m := rfl
      generalize wTo (v i) D (i : Int) m = a at *
      generalize wTo (v i) D (j : Int) m = V at *
      generalize wTo (v j) D (j : Int) m = bb at *
      generalize v i g = x at *
      generalize v j g = y at *
      rcases Int.lt_or_le 0 bb with hbp | hbz
      · have hybb : y < bb := by
          rcases Int.lt_or_le y bb with h1 | h1
          · exact h1
          · have k1 : bb * V ≤ y * V := Int.mul_le_mul_of_nonneg_right h1 (by omega)
            have k2 : bb * x < bb * V := Int.mul_lt_mul_of_pos_left (by omega) hbp
            omega
        refine beats_two hi hj hij (by rw [wi]; exact ha0) (by rw [wi, hFi]; omega) (by rw [wj]; exact hbp) (by rw [hFj]; omega) ?_ hFk
        rw [wi, wj, hFi, hFj]
        have e1 : (a + x) * (bb - y) = a * bb - y * (a + x) + bb * x := by
          rw [Int.add_mul, Int.mul_sub, Int.mul_sub, Int.mul_add, Int.mul_comm y a, Int.mul_comm y x, Int.mul_comm bb x]
          omega
        rw [e1]
        rcases Int.lt_or_le 0 y with h1 | h1
        · have k1 : y * (a + x) < y * V := Int.mul_lt_mul_of_pos_left (by omega) h1
          omega
        · have e0 : y = 0 := by omega
          have k1 : 0 < bb * x := Int.mul_pos hbp hx0
          rw [e0, Int.zero_mul]
          omega
      · have eb : bb = 0 := by omega
        have ey : y = 0 := by
          rcases Int.lt_or_le 0 y with h1 | h1
          · have k1 : 0 < y * V := Int.mul_pos h1 (by omega)
            rw [eb, Int.zero_mul] at hyV
            omega
          · omega
        refine beats_one hi (by rw [wi]; exact ha0) (by rw [wi, hFi]; omega) (fun k hk => ?_)
        by_cases e : k = j
        · rw [e, hFj, wj, ey]; omega
        · exact hFk k hk e
    rcases hbeat with h1 | ⟨h1, h2⟩
    · rcases hmax with h3 | ⟨h3, -⟩ <;> omega
    · rcases hmax with h3 | ⟨-, h3⟩ <;> omega
  · exact .inl hle

/-- Fair of kind 1. -/
theorem ef1_fair {n m : Nat} {v : Nat → Nat → Int} {D : Nat → Int} (h : Ef1 n m v D) : allB (fairToB n m v D 1) n = true := by
  rw [allB_iff]
  intro i hi
  have hf : anyB (badP m v D i 1) n = false := anyB_f fun j hj => by
    simp only [badP]
    cases he : envB m v D i (j : Int) with
    | false => rfl
    | true =>
      have hl := of_decide_eq_true he
      rcases h i j hi hj with h1 | ⟨g, hg, hd, h1⟩
      · omega
      · have hs : anyB (someP m (v i) D (i : Int) (j : Int)) m = true := anyB_t hg (by
          simp only [someP, goneB, Bool.and_eq_true, decide_eq_true_eq]
          exact ⟨hd, h1⟩)
        simp [excB, hs]
  simp [fairToB, hf]
end Go.Proofs.Ytkgikehagkpmoaa
