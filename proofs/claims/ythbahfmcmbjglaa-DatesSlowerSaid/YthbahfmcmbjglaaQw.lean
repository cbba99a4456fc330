/- If somebody is late in the plan by Due, a stretch is overloaded; and no whole plan has all in time if one is. -/
import Derived.Test.YthbahfmcmbjglaaQq
import Derived.Test.YthbahfmcmbjglaaQu
namespace Go.Proofs.Ythbahfmcmbjglaa

section
variable {n : Nat} {J : Nat → Nat → Int}
/-- At step t the plan works on job j. -/
def Wk (n : Nat) (J : Nat → Nat → Int) (t j : Nat) : Prop := j < n ∧ avl (stF 0 n J t).left (fun k => J k 1) t j = true ∧ (∀ k, k < n → avl (stF 0 n J t).left (fun k => J k 1) t k = true → J j 2 ≤ J k 2) ∧ (stF 0 n J (t + 1)).left = upd (stF 0 n J t).left j ((stF 0 n J t).left j - 1) ∧ eS (stF 0 n J (t + 1)) = upd (eS (stF 0 n J t)) j (t + 1)
theorem wk_or (h : okJ n J = true) (t : Nat) : (stF 0 n J (t + 1) = stF 0 n J t ∧ ∀ k, k < n → avl (stF 0 n J t).left (fun k => J k 1) t k = false) ∨ ∃ j, Wk n J t j := by
  rcases stF_cases (ru := 0) h t with h1 | ⟨j, h1, h2, h3, -, h4, h5⟩
  · exact .inl h1
  · exact .inr ⟨j, h1, h2, fun k hk ha => h3 k hk ha, h4, h5⟩
theorem left_dec (h : okJ n J = true) {k : Nat} (hk : k < n) (t : Nat) : ∀ m, (stF 0 n J (t + m)).left k ≤ (stF 0 n J t).left k := by
  intro m
  induction m with
  | zero => exact Int.le_refl _
  | succ m ih =>
    rw [← Nat.add_assoc]
    rcases wk_or h (t + m) with ⟨e, -⟩ | ⟨j, -, -, -, e, -⟩
    · rw [e]; exact ih
    · rw [e]
      unfold upd
      split
      · rename_i e2
        rw [← e2]
        omega
      · exact ih
/-- A job that ends at e was worked on just before. -/
theorem end_wk (h : okJ n J = true) {k : Nat} : ∀ t, eS (stF 0 n J t) k = 0 ∨ ∃ u, u < t ∧ eS (stF 0 n J t) k = (u : Int) + 1 ∧ Wk n J u k := by
  intro t
  induction t with
  | zero => exact .inl rfl
  | succ t ih =>
    rcases wk_or h t with ⟨e, -⟩ | ⟨j, hw⟩
    · rw [e]
      rcases ih with h1 | ⟨u, h1, h2, h3⟩
      · exact .inl h1
      · exact .inr ⟨u, by omega, h2, h3⟩
    · rw [hw.2.2.2.2]
      unfold upd
      by_cases e : k = j
      · rw [if_pos e]
        subst e
        exact .inr ⟨t, by omega, rfl, hw⟩
      · rw [if_neg e]
        rcases ih with h1 | ⟨u, h1, h2, h3⟩
        · exact .inl h1
        · exact .inr ⟨u, by omega, h2, h3⟩
/-- The step works on something due by D. -/
def Gd (n : Nat) (J : Nat → Nat → Int) (D : Int) (t : Nat) : Prop := ∃ j, Wk n J t j ∧ J j 2 ≤ D
theorem back (n : Nat) (J : Nat → Nat → Int) (D : Int) : ∀ E : Nat, ∃ a, a ≤ E ∧ (∀ t, a ≤ t → t < E → Gd n J D t) ∧ (a = 0 ∨ ¬ Gd n J D (a - 1)) := by
  intro E
  induction E with
  | zero => exact ⟨0, Nat.le_refl _, fun t _ h => absurd h (Nat.not_lt_zero _), .inl rfl⟩
  | succ E ih =>
    by_cases hg : Gd n J D E
    · obtain ⟨a, h1, h2, h3⟩ := ih
      refine ⟨a, by omega, fun t h4 h5 => ?_, h3⟩
      rcases Nat.lt_or_ge t E with h6 | h6
      · exact h2 t h4 h6
      · obtain rfl : t = E := by omega
        exact hg
    · exact ⟨E + 1, Nat.le_refl _, fun t h4 h5 => by omega, .inr (by simpa using hg)⟩
theorem avl_iff {left r : Nat → Int} {now : Int} {k : Nat} : avl left r now k = true ↔ left k ≠ 0 ∧ r k ≤ now := by
  simp [avl]
/-- Going back from a late job as far as nothing less urgent was worked on. -/
theorem over_of_late (h : okJ n J = true) {j0 : Nat} (hj0 : j0 < n) (hl : J j0 2 < eS (plS 0 n J) j0) : ∃ a b : Nat, a ≤ b ∧ OvB n J (a : Int) (b : Int) := by
  have hok := (okJ_iff.1 h).2
  have hJ0 := hok j0 hj0
  rcases end_wk h (k := j0) 260 with h0 | ⟨u, hu, he, hw⟩
  · exfalso
    have hl' : J j0 2 < eS (stF 0 n J 260) j0 := hl
    rw [h0] at hl'
    omega
  have hl : J j0 2 < (u : Int) + 1 := by
    have hl' : J j0 2 < eS (stF 0 n J 260) j0 := hl
    rw [he] at hl'
    exact hl'
  obtain ⟨a, ha, hg, hb⟩ := back n J (J j0 2) (u + 1)
  have hrel : ∀ t, a ≤ t → t < u + 1 → ∀ k, Wk n J t k → J k 2 ≤ J j0 2 → (a : Int) ≤ J k 1 := by
    intro t h1 h2 k hk hd
    rcases hb with rfl | hb
    · have := hok k hk.1
      omega
    · rcases Nat.eq_zero_or_pos a with rfl | hap
      · have := hok k hk.1
        omega
      · rcases Int.lt_or_le (J k 1) (a : Int) with h3 | h3
        · exfalso
          have hkl : (stF 0 n J t).left k ≠ 0 := (avl_iff.1 hk.2.1).1
          have hk0 := ((stF_left (ru := 0) h t).1 k hk.1).1
          have hdec := left_dec h hk.1 (a - 1) (t - (a - 1))
          rw [show a - 1 + (t - (a - 1)) = t by omega] at hdec
          have hav : avl (stF 0 n J (a - 1)).left (fun k => J k 1) ((a - 1 : Nat) : Int) k = true := avl_iff.2 ⟨by omega, by show J k 1 ≤ _; omega⟩
          rcases wk_or h (a - 1) with ⟨-, hno⟩ | ⟨j, hj⟩
          · rw [hno k hk.1] at hav
            cases hav
          · have := hj.2.2.1 k hk.1 hav
            exact hb ⟨j, hj, by omega⟩
        · exact h3
  by_cases haD : (a : Int) ≤ J j0 2
  · refine ⟨a, (J j0 2).toNat, by omega, ?_⟩
    have hDn : ((J j0 2).toNat : Int) = J j0 2 := by omega
    unfold OvB
    rw [hDn]
    have key : ∀ m, a + m ≤ u + 1 → (m : Int) ≤ smT (dnW J (stF 0 n J (a + m)).left (a : Int) (J j0 2)) n := by
      intro m
      induction m with
      | zero =>
        intro _
        refine smT_nonneg (fun k hk => ?_)
        have := (stF_left (ru := 0) h (a + 0)).1 k hk
        unfold dnW
        split <;> omega
      | succ m ih =>
        intro hm
        have ih := ih (by omega)
        obtain ⟨j, hj, hjd⟩ := hg (a + m) (by omega) (by omega)
        have hr := hrel (a + m) (by omega) (by omega) j hj hjd
        rw [← Nat.add_assoc, hj.2.2.2.1]
        have hd : dnW J (upd (stF 0 n J (a + m)).left j ((stF 0 n J (a + m)).left j - 1)) (a : Int) (J j0 2) = upd (dnW J (stF 0 n J (a + m)).left (a : Int) (J j0 2)) j (dnW J (stF 0 n J (a + m)).left (a : Int) (J j0 2) j + 1) := by
          funext k
          unfold upd
          by_cases e : k = j
          · subst e
            rw [if_pos rfl]
            unfold dnW
            rw [if_pos ⟨hr, hjd⟩, if_pos ⟨hr, hjd⟩]
            simp only [if_true]
            omega
          · rw [if_neg e]
            unfold dnW
            simp only [if_neg e]
        rw [hd, smT_upd, if_pos hj.1]
        push_cast
        omega
    have h1 := key (u + 1 - a) (by omega)
    rw [show a + (u + 1 - a) = u + 1 by omega] at h1
    have h2 : smT (dnW J (stF 0 n J (u + 1)).left (a : Int) (J j0 2)) n ≤ ldF J (a : Int) (J j0 2) n := by
      have h3 : ldF J (a : Int) (J j0 2) n = smT (dnW J (fun _ => 0) (a : Int) (J j0 2)) n := (dnW_all (fun _ _ => rfl)).symm
      rw [h3]
      refine smT_le (fun k hk => ?_)
      have := (stF_left (ru := 0) h (u + 1)).1 k hk
      unfold dnW
      simp only [Int.sub_zero]
      split <;> omega
    omega
  · have hr0 := (avl_iff.1 hw.2.1).2
    have hr1 := hrel u (by
      rcases Nat.lt_or_ge u a with h3 | h3
      · exfalso
        obtain rfl : a = u + 1 := by omega
        rcases hb with hb | hb
        · omega
        · exact hb ⟨j0, by simpa using hw, Int.le_refl _⟩
      · exact h3) (by omega) j0 hw (Int.le_refl _)
    refine ⟨(J j0 1).toNat, (J j0 1).toNat, Nat.le_refl _, ?_⟩
    have hRn : ((J j0 1).toNat : Int) = J j0 1 := by omega
    unfold OvB
    rw [hRn]
    have h3 : ∀ m, m ≤ n → j0 < m → J j0 0 ≤ ldF J (J j0 1) (J j0 1) m := by
      intro m
      induction m with
      | zero => intro _ h; omega
      | succ m ih =>
        intro hm hjm
        rw [ldF_succ]
        rcases Nat.lt_or_ge j0 m with h4 | h4
        · have := ih (by omega) h4
          have := hok m (by omega)
          split <;> omega
        · obtain rfl : j0 = m := by omega
          rw [if_pos ⟨Int.le_refl _, by omega⟩]
          have := (ldF_rng h (J j0 1) (J j0 1) j0 (by omega)).1
          omega
    have := h3 n (Nat.le_refl _) hj0
    omega
/-- What has been done of the jobs of a stretch by k pieces. -/
def dnV (J p : Nat → Nat → Int) (k : Nat) (a b : Int) (j : Nat) : Int := if a ≤ J j 1 ∧ J j 2 ≤ b then dnF p k j else 0
theorem enF_mono {p : Nat → Nat → Int} {m : Nat} (hp : AllLt (plP n p) m) : ∀ k, k ≤ m → (∀ j, enF p k j ≤ pvF p k 2) ∧ ∀ a, a < k → p a 2 ≤ enF p k (p a 0).toNat := by
  intro k
  induction k with
  | zero => intro _; exact ⟨fun j => by simp [enF, pvF], fun a ha => absurd ha (Nat.not_lt_zero _)⟩
  | succ k ih =>
    intro hk
    have ih := ih (by omega)
    have h1 := plP_iff.1 (hp k (by omega))
    have hpv : pvF p (k + 1) = p k := rfl
    have h2 : ∀ a, a < k → p a 2 ≤ pvF p k 2 := fun a ha => Int.le_trans (ih.2 a ha) (ih.1 _)
    rw [hpv, enF]
    refine ⟨fun j => ?_, fun a ha => ?_⟩
    · unfold upd
      split
      · exact Int.le_refl _
      · have := ih.1 j
        omega
    · unfold upd
      rcases Nat.lt_or_ge a k with h3 | h3
      · split
        · have := h2 a h3
          omega
        · exact ih.2 a h3
      · obtain rfl : a = k := by omega
        rw [if_pos rfl]
        exact Int.le_refl _
/-- No whole plan has all in time if a stretch is overloaded. -/
theorem no_over_whole {m : Nat} {p : Nat → Nat → Int} (hw : whB m n J p = true) (hl : ∀ j, j < n → enF p m j ≤ J j 2) {a b : Int} (hab : a ≤ b) : ldF J a b n ≤ b - a := by
  rw [whB_eq, Bool.and_eq_true_iff, Bool.and_eq_true_iff] at hw
  obtain ⟨hp, hr, hd⟩ := hw
  have hp := allB_iff.1 hp
  have hr := allB_iff.1 hr
  have hd : ∀ j, j < n → dnF p m j = J j 0 := fun j hj => of_decide_eq_true (allB_iff.1 (Bool.and_eq_true_iff.1 hd).2 j hj)
  have hmono := (enF_mono (n := n) (fun a ha => hp a ha) m (Nat.le_refl _)).2
  have key : ∀ k, k ≤ m → smT (dnV J p k a b) n ≤ 0 ∨ (smT (dnV J p k a b) n ≤ pvF p k 2 - a ∧ smT (dnV J p k a b) n ≤ b - a) := by
    intro k
    induction k with
    | zero =>
      intro _
      left
      have : ∀ j, j < n → dnV J p 0 a b j = 0 := fun j _ => by
        unfold dnV
        show (if _ then (0 : Int) else 0) = 0
        split <;> rfl
      rw [smT_congr this]
      have h0 : ∀ m, smT (fun _ => 0) m = 0 := fun m => by induction m with | zero => rfl | succ m ih => simp [smT, ih]
      rw [h0]
      exact Int.le_refl _
    | succ k ih =>
      intro hk
      have ih := ih (by omega)
      have h1 := plP_iff.1 (hp k (by omega))
      have h2 : J (p k 0).toNat 1 ≤ p k 1 := of_decide_eq_true (hr k (by omega))
      have hj : (p k 0).toNat < n := by omega
      have h3 := hmono k (by omega)
      have h4 := hl _ hj
      have hpv : pvF p (k + 1) = p k := rfl
      rw [hpv]
      generalize hjj : (p k 0).toNat = j at *
      have hdv : dnV J p (k + 1) a b = upd (dnV J p k a b) j (if a ≤ J j 1 ∧ J j 2 ≤ b then dnF p k j + (p k 2 - p k 1) else 0) := by
        funext i
        unfold upd
        by_cases e : i = j
        · subst e
          rw [if_pos rfl]
          unfold dnV
          rw [dnF, hjj, upd_at]
        · rw [if_neg e]
          unfold dnV
          rw [dnF, hjj, upd_ne _ _ e]
      rw [hdv, smT_upd, if_pos hj]
      by_cases hst : a ≤ J j 1 ∧ J j 2 ≤ b
      · have hv : (if a ≤ J j 1 ∧ J j 2 ≤ b then dnF p k j + (p k 2 - p k 1) else 0) - dnV J p k a b j = p k 2 - p k 1 := by
          unfold dnV
          rw [if_pos hst, if_pos hst]
          omega
        rw [hv]
        omega
      · have hv : (if a ≤ J j 1 ∧ J j 2 ≤ b then dnF p k j + (p k 2 - p k 1) else 0) - dnV J p k a b j = 0 := by
          unfold dnV
          rw [if_neg hst, if_neg hst]
          omega
        rw [hv]
        omega
  have hk := key m (Nat.le_refl _)
  have he : smT (dnV J p m a b) n = ldF J a b n := by
    have h3 : ldF J a b n = smT (dnW J (fun _ => 0) a b) n := (dnW_all (fun _ _ => rfl)).symm
    rw [h3]
    refine smT_congr (fun j hj => ?_)
    unfold dnV dnW
    rw [hd j hj, Int.sub_zero]
  rw [he] at hk
  omega
end
end Go.Proofs.Ythbahfmcmbjglaa
