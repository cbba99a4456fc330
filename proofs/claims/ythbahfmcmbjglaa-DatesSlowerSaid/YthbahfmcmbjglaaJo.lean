/- The plans are whole; whole plans, unit by unit; none is better. -/
import Derived.Test.YthbahfmcmbjglaaJn
import Derived.Test.YthbahfmcmbjglaaQw
namespace Go.Proofs.Ythbahfmcmbjglaa

section
variable {n : Nat} {J : Nat → Nat → Int}
theorem srpt_sch (h : okJ n J = true) : Sch n J (fun t => (stF 1 n J t).left) := by
  refine ⟨fun _ _ => rfl, fun t k hk => ((stF_left (ru := 1) h t).1 k hk).1, fun t => ?_⟩
  rcases stF_cases (ru := 1) h t with ⟨e, -⟩ | ⟨j, hj, ha, -, -, e, -⟩
  · exact .inl (fun k _ => by show (stF 1 n J (t + 1)).left k = _; rw [e])
  · refine .inr ⟨j, hj, (avl_iff.1 ha).2, ?_, fun k _ hne => ?_⟩
    · show (stF 1 n J (t + 1)).left j = _
      rw [e, upd_at]
    · show (stF 1 n J (t + 1)).left k = _
      rw [e, upd_ne _ _ hne]
theorem srpt_sst (h : okJ n J = true) : Sst n J (fun t => (stF 1 n J t).left) := by
  intro t
  have hL := (stF_left (ru := 1) h t).1
  rcases stF_cases (ru := 1) h t with ⟨-, hno⟩ | ⟨j, hj, ha, hmin, -, e, -⟩
  · refine .inl (fun k hk hr => ?_)
    have h1 := hno k hk
    by_cases h0 : (stF 1 n J t).left k = 0
    · exact h0
    · rw [avl_iff.2 ⟨h0, hr⟩] at h1
      cases h1
  · obtain ⟨a1, a2⟩ := avl_iff.1 ha
    have := hL j hj
    refine .inr ⟨j, hj, a2, (by show 0 < (stF 1 n J t).left j; omega), fun k hk hr hp => hmin k hk (avl_iff.2 ⟨by have hp : 0 < (stF 1 n J t).left k := hp; omega, hr⟩), ?_, fun k _ hne => ?_⟩
    · show (stF 1 n J (t + 1)).left j = _
      rw [e, upd_at]
    · show (stF 1 n J (t + 1)).left k = _
      rw [e, upd_ne _ _ hne]
/-- A job that ends at e was worked on just before, by any rule. -/
theorem end_wkA {ru : Nat} (h : okJ n J = true) {k : Nat} : ∀ t, eS (stF ru n J t) k = 0 ∨ ∃ u, u < t ∧ eS (stF ru n J t) k = (u : Int) + 1 ∧ (stF ru n J u).left k ≠ 0 := by
  intro t
  induction t with
  | zero => exact .inl rfl
  | succ t ih =>
    rcases stF_cases (ru := ru) h t with ⟨e, -⟩ | ⟨j, hj, ha, -, -, -, e⟩
    · rw [e]
      rcases ih with h1 | ⟨u, h1, h2, h3⟩
      · exact .inl h1
      · exact .inr ⟨u, by omega, h2, h3⟩
    · rw [e]
      unfold upd
      by_cases e : k = j
      · rw [if_pos e]
        subst e
        exact .inr ⟨t, by omega, rfl, (avl_iff.1 ha).1⟩
      · rw [if_neg e]
        rcases ih with h1 | ⟨u, h1, h2, h3⟩
        · exact .inl h1
        · exact .inr ⟨u, by omega, h2, h3⟩
theorem srpt_end (h : okJ n J = true) {k : Nat} (hk : k < n) : 0 ≤ enF (plS 1 n J).p (plS 1 n J).m k ∧ enF (plS 1 n J).p (plS 1 n J).m k ≤ 1000 ∧ ∀ t : Nat, (t : Int) < enF (plS 1 n J).p (plS 1 n J).m k → 0 < (stF 1 n J t).left k := by
  have h1 : enF (plS 1 n J).p (plS 1 n J).m k = eS (stF 1 n J 260) k := rfl
  rw [h1]
  rcases end_wkA (ru := 1) h (k := k) 260 with e | ⟨u, hu, e, hl⟩
  · rw [e]
    exact ⟨Int.le_refl _, by omega, fun t ht => by omega⟩
  · rw [e]
    refine ⟨by omega, by omega, fun t ht => ?_⟩
    have h2 := (srpt_sch h).mono hk t (u - t)
    have h3 := ((stF_left (ru := 1) h u).1 k hk).1
    have h2 : (stF 1 n J (t + (u - t))).left k ≤ (stF 1 n J t).left k := h2
    rw [show t + (u - t) = u by omega] at h2
    omega

/-- How much of a piece is before t; what is done by then. -/
def ovF (f g t : Int) : Int := if t ≤ f then 0 else if t ≤ g then t - f else g - f
def dtF (p : Nat → Nat → Int) (t : Int) : Nat → Nat → Int
  | 0 => fun _ => 0
  | a + 1 => upd (dtF p t a) (p a 0).toNat (dtF p t a (p a 0).toNat + ovF (p a 1) (p a 2) t)
theorem dtF_zero {p : Nat → Nat → Int} : ∀ m, AllLt (plP n p) m → ∀ k, dtF p 0 m k = 0 := by
  intro m
  induction m with
  | zero => intro _ k; rfl
  | succ m ih =>
    intro h k
    have ih := ih (fun a ha => h a (by omega))
    have h1 := plP_iff.1 (h m (by omega))
    have h2 := (dnF_rng m (fun a ha => h a (by omega))).1
    rw [dtF]
    unfold upd
    rw [ih, ih]
    unfold ovF
    rw [if_pos (show (0 : Int) ≤ p m 1 by omega)]
    simp
theorem dtF_le {p : Nat → Nat → Int} (t : Int) : ∀ m, AllLt (plP n p) m → ∀ k, dtF p t m k ≤ dnF p m k := by
  intro m
  induction m with
  | zero => intro _ k; exact Int.le_refl _
  | succ m ih =>
    intro h k
    have ih := ih (fun a ha => h a (by omega))
    have h1 := plP_iff.1 (h m (by omega))
    rw [dtF, dnF]
    unfold upd
    split
    · have := ih (p m 0).toNat
      unfold ovF
      split
      · omega
      · split <;> omega
    · exact ih k
theorem dtF_full {p : Nat → Nat → Int} (t : Int) {k : Nat} : ∀ m, AllLt (plP n p) m → (∀ a, a < m → (p a 0).toNat = k → p a 2 ≤ t) → dtF p t m k = dnF p m k := by
  intro m
  induction m with
  | zero => intro _ _; rfl
  | succ m ih =>
    intro h he
    have ih := ih (fun a ha => h a (by omega)) (fun a ha => he a (by omega))
    have h1 := plP_iff.1 (h m (by omega))
    rw [dtF, dnF]
    unfold upd
    by_cases e : k = (p m 0).toNat
    · rw [if_pos e, if_pos e, ← e, ih]
      have := he m (by omega) e.symm
      unfold ovF
      split
      · omega
      · split <;> omega
    · rw [if_neg e, if_neg e, ih]
theorem dtF_step {p : Nat → Nat → Int} (t : Nat) : ∀ m, AllLt (plP n p) m → (∀ a, a < m → J (p a 0).toNat 1 ≤ p a 1) → (∀ k, dtF p ((t + 1 : Nat) : Int) m k = dtF p (t : Int) m k) ∨ ((t : Int) < pvF p m 2 ∧ ∃ j, j < n ∧ J j 1 ≤ t ∧ dtF p ((t + 1 : Nat) : Int) m j = dtF p (t : Int) m j + 1 ∧ ∀ k, k ≠ j → dtF p ((t + 1 : Nat) : Int) m k = dtF p (t : Int) m k) := by
  intro m
  induction m with
  | zero => intro _ _; exact .inl (fun k => rfl)
  | succ m ih =>
    intro h hr
    have ih := ih (fun a ha => h a (by omega)) (fun a ha => hr a (by omega))
    have h1 := plP_iff.1 (h m (by omega))
    have h2 := hr m (by omega)
    have hpv : pvF p (m + 1) = p m := rfl
    rw [hpv]
    have hov : ovF (p m 1) (p m 2) ((t + 1 : Nat) : Int) = ovF (p m 1) (p m 2) (t : Int) + if p m 1 ≤ t ∧ (t : Int) < p m 2 then 1 else 0 := by
      unfold ovF
      push_cast
      split <;> split <;> (try split) <;> (try split) <;> (try split) <;> omega
    rcases ih with ih | ⟨ht, j, hj, hjr, e1, e2⟩
    · by_cases hc : p m 1 ≤ t ∧ (t : Int) < p m 2
      · refine .inr ⟨hc.2, (p m 0).toNat, by omega, by omega, ?_, fun k hk => ?_⟩
        · rw [dtF, dtF, upd_at, upd_at, ih, hov, if_pos hc]
          omega
        · rw [dtF, dtF, upd_ne _ _ hk, upd_ne _ _ hk, ih]
      · refine .inl (fun k => ?_)
        rw [dtF, dtF, hov, if_neg hc]
        unfold upd
        split
        · rw [ih]; omega
        · exact ih k
    · have hc : ¬ (p m 1 ≤ t ∧ (t : Int) < p m 2) := by omega
      refine .inr ⟨by omega, j, hj, hjr, ?_, fun k hk => ?_⟩
      · rw [dtF, dtF, hov, if_neg hc]
        unfold upd
        split
        · rename_i e
          rw [← e, e1]
          omega
        · exact e1
      · rw [dtF, dtF, hov, if_neg hc]
        unfold upd
        split
        · rename_i e
          rw [← e, e2 k hk]
          omega
        · exact e2 k hk
theorem whole_parts {m : Nat} {p : Nat → Nat → Int} (hw : whB m n J p = true) : AllLt (plP n p) m ∧ (∀ a, a < m → J (p a 0).toNat 1 ≤ p a 1) ∧ ∀ j, j < n → dnF p m j = J j 0 := by
  rw [whB_eq, Bool.and_eq_true_iff, Bool.and_eq_true_iff] at hw
  obtain ⟨hp, hr, hd⟩ := hw
  exact ⟨fun a ha => allB_iff.1 hp a ha, fun a ha => of_decide_eq_true (allB_iff.1 hr a ha), fun j hj => of_decide_eq_true (allB_iff.1 (Bool.and_eq_true_iff.1 hd).2 j hj)⟩
theorem whole_sch {m : Nat} {p : Nat → Nat → Int} (hw : whB m n J p = true) : Sch n J (fun t k => J k 0 - dtF p (t : Int) m k) := by
  obtain ⟨hp, hr, hd⟩ := whole_parts hw
  refine ⟨fun k hk => ?_, fun t k hk => ?_, fun t => ?_⟩
  · have := dtF_zero m hp k
    show J k 0 - dtF p ((0 : Nat) : Int) m k = _
    have e : ((0 : Nat) : Int) = 0 := rfl
    rw [e, this, Int.sub_zero]
  · have h1 := dtF_le (t : Int) m hp k
    have h2 := hd k hk
    show 0 ≤ J k 0 - dtF p (t : Int) m k
    omega
  · rcases dtF_step (J := J) t m hp hr with h1 | ⟨-, j, hj, hjr, e1, e2⟩
    · exact .inl (fun k _ => by show J k 0 - dtF p ((t + 1 : Nat) : Int) m k = J k 0 - dtF p (t : Int) m k; rw [h1])
    · refine .inr ⟨j, hj, hjr, ?_, fun k _ hne => ?_⟩
      · show J j 0 - dtF p ((t + 1 : Nat) : Int) m j = J j 0 - dtF p (t : Int) m j - 1
        rw [e1]
        omega
      · show J k 0 - dtF p ((t + 1 : Nat) : Int) m k = J k 0 - dtF p (t : Int) m k
        rw [e2 k hne]
theorem whole_end {m : Nat} {p : Nat → Nat → Int} (hw : whB m n J p = true) {k : Nat} (hk : k < n) : 0 ≤ enF p m k ∧ ∀ t : Nat, 0 < J k 0 - dtF p (t : Int) m k → (t : Int) < enF p m k := by
  obtain ⟨hp, hr, hd⟩ := whole_parts hw
  refine ⟨?_, fun t ht => ?_⟩
  · have : ∀ a, a ≤ m → 0 ≤ enF p a k := by
      intro a
      induction a with
      | zero => intro _; exact Int.le_refl _
      | succ a ih =>
        intro ha
        have h1 := plP_iff.1 (hp a (by omega))
        have h2 := (dnF_rng a (fun b hb => hp b (by omega))).1
        rw [enF]
        unfold upd
        split
        · omega
        · exact ih (by omega)
    exact this m (Nat.le_refl _)
  · rcases Int.lt_or_le (t : Int) (enF p m k) with h1 | h1
    · exact h1
    · exfalso
      have h2 := (enF_mono (n := n) hp m (Nat.le_refl _)).2
      have h3 := dtF_full (n := n) (t : Int) (k := k) m hp (fun a ha e => by
        have := h2 a ha
        rw [e] at this
        omega)
      have h4 := hd k hk
      omega
/-- No whole plan has a lesser sum of ends. -/
theorem short_least (h : okJ n J = true) {m : Nat} {p : Nat → Nat → Int} (hw : whB m n J p = true) : smT (enF (plS 1 n J).p (plS 1 n J).m) n ≤ smT (enF p m) n :=
  ends_le (srpt_sch h) (srpt_sst h) (whole_sch hw) (fun k hk => ((okJ_iff.1 h).2 k hk).1.1) (fun k hk => srpt_end h hk) (fun k hk => whole_end hw hk)

/-- No two pieces in a row are on one job. -/
theorem stF_alt {ru : Nat} : ∀ t, ∀ a, a < (stF ru n J t).m → (stF ru n J t).p a 0 ≠ pvF (stF ru n J t).p a 0 := by
  intro t
  induction t with
  | zero => intro a ha; exact absurd ha (Nat.not_lt_zero _)
  | succ t ih =>
    rw [stF_succ]
    generalize stF ru n J t = s at *
    unfold stp
    rcases chF_spec (left := s.left) (r := fun k => J k 1) (rk := rkF ru J s.left) (now := (t : Int)) n with ⟨e, -⟩ | ⟨j, hj, e, -, -, -⟩
    · rw [e, if_pos (by omega)]
      exact ih
    · rw [e, if_neg (by omega)]
      unfold pushS
      by_cases hc : 0 < s.m ∧ s.p (s.m - 1) 0 = (j : Int)
      · rw [if_pos hc]
        intro a ha
        have ha : a < s.m := ha
        have h1 := ih a ha
        show updK s.p (s.m - 1) 2 _ a 0 ≠ pvF (updK s.p (s.m - 1) 2 _) a 0
        rw [updK_ne _ _ (.inr (by omega))]
        have h2 : pvF (updK s.p (s.m - 1) 2 (s.p (s.m - 1) 2 + 1)) a 0 = pvF s.p a 0 := by
          rcases a with _ | a
          · rfl
          · show updK s.p (s.m - 1) 2 _ a 0 = s.p a 0
            rw [updK_ne _ _ (.inr (by omega))]
        rw [h2]
        exact h1
      · rw [if_neg hc]
        intro a ha
        have ha : a < s.m + 1 := ha
        show pcK s.p s.m j t (t + 1) a 0 ≠ pvF (pcK s.p s.m j t (t + 1)) a 0
        rw [pvF_congr (q := s.p) (fun b hb i => by
          unfold pcK
          rw [if_neg (by omega)])]
        by_cases e2 : a = s.m
        · have e3 : pcK s.p s.m j t (t + 1) a 0 = (j : Int) := by simp [pcK, e2]
          rw [e3]
          rcases a with _ | a
          · show (j : Int) ≠ if (0 : Nat) = 0 then -1 else 0
            rw [if_pos rfl]
            omega
          · show (j : Int) ≠ s.p a 0
            intro h4
            refine hc ⟨by omega, ?_⟩
            rw [← e2]
            exact h4.symm
        · have e3 : pcK s.p s.m j t (t + 1) a 0 = s.p a 0 := by simp [pcK, e2]
          rw [e3]
          exact ih a (by omega)
/-- The plans are whole. -/
theorem pl_whole {ru : Nat} (h : okJ n J = true) : whB (plS ru n J).m n J (plS ru n J).p = true := by
  have hI := stF_inv (ru := ru) h 260
  have hG := stF_gap (ru := ru) h 260
  have hA := stF_alt (ru := ru) (n := n) (J := J) 260
  have hl := plS_left (ru := ru) h
  rw [whB_eq, Bool.and_eq_true_iff, Bool.and_eq_true_iff]
  refine ⟨allB_t (fun a ha => ?_), allB_t (fun a ha => decide_eq_true (hI.rel a ha)), ?_⟩
  · have h1 := hI.rng a ha
    have h2 := hG.ord a ha
    have h3 := hA a ha
    refine plP_iff.2 ⟨h1.1, h1.2.1, h2, h1.2.2.2.1, ?_, fun h4 => h3 h4.1⟩
    have h5 : (plS ru n J).p a 2 ≤ (260 : Nat) := h1.2.2.2.2
    omega
  · unfold eqB
    rw [decide_eq_true rfl, Bool.true_and]
    refine allB_t (fun k hk => decide_eq_true ?_)
    have h1 := hG.done k hk
    have h2 := hl k hk
    have h1 : dnF (plS ru n J).p (plS ru n J).m k = J k 0 - (plS ru n J).left k := h1
    show dnF (plS ru n J).p (plS ru n J).m k = J k 0
    omega

/-- All Dues later by x. -/
def shJ (J : Nat → Nat → Int) (x : Int) : Nat → Nat → Int := fun k i => if i = 2 then J k 2 + x else J k i
theorem ldF_sh (x a D : Int) : ∀ m, ldF (shJ J x) a (D + x) m = ldF J a D m := by
  intro m
  induction m with
  | zero => rfl
  | succ m ih =>
    rw [ldF_succ, ldF_succ, ih]
    have e1 : shJ J x m 1 = J m 1 := rfl
    have e2 : shJ J x m 2 = J m 2 + x := rfl
    have e0 : shJ J x m 0 = J m 0 := rfl
    rw [e0, e1, e2]
    by_cases hc : a ≤ J m 1 ∧ J m 2 ≤ D
    · rw [if_pos hc, if_pos ⟨hc.1, by omega⟩]
    · rw [if_neg hc, if_neg (fun h => hc ⟨h.1, by omega⟩)]
theorem whB_sh (x : Int) (m : Nat) (p : Nat → Nat → Int) : whB m n (shJ J x) p = whB m n J p := by
  rw [whB_eq, whB_eq]
  rfl
theorem pos_end {p : Nat → Nat → Int} {k : Nat} : ∀ m, AllLt (plP n p) m → dnF p m k = 0 ∨ 0 < enF p m k := by
  intro m
  induction m with
  | zero => intro _; exact .inl rfl
  | succ m ih =>
    intro h
    have ih := ih (fun a ha => h a (by omega))
    have h1 := plP_iff.1 (h m (by omega))
    have h2 := (dnF_rng m (fun b hb => h b (by omega))).1
    rw [dnF, enF]
    unfold upd
    by_cases e : k = (p m 0).toNat
    · rw [if_pos e, if_pos e]
      right
      omega
    · rw [if_neg e, if_neg e]
      exact ih
/-- Going back from a job that is late by more than x. -/
theorem over_late (h : okJ n J = true) {j0 : Nat} (hj0 : j0 < n) {x : Int} (hl : J j0 2 + x < eS (plS 0 n J) j0) : ∃ a D : Int, a ≤ D + x ∧ D + x - a < ldF J a D n := by
  have hok := (okJ_iff.1 h).2
  rcases end_wk h (k := j0) 260 with h0 | ⟨u, hu, he, hw⟩
  · exfalso
    obtain ⟨hp, -, hd⟩ := whole_parts (pl_whole (ru := 0) h)
    rcases pos_end (k := j0) _ hp with h1 | h1
    · have := hd j0 hj0
      have := hok j0 hj0
      omega
    · have h2 : eS (stF 0 n J 260) j0 = enF (plS 0 n J).p (plS 0 n J).m j0 := rfl
      omega
  have hl : J j0 2 + x < (u : Int) + 1 := by
    have hl' : J j0 2 + x < eS (stF 0 n J 260) j0 := hl
    rw [he] at hl'
    exact hl'
  obtain ⟨a, ha, hg, hb⟩ := back n J (J j0 2) (u + 1)
  have hrel : ∀ t, a ≤ t → t < u + 1 → ∀ k, Wk n J t k → J k 2 ≤ J j0 2 → (a : Int) ≤ J k 1 := by
    intro t h1 h2 k hk hd
    rcases hb with rfl | hb
    · have := hok k hk.1
      omega
    · rcases Nat.eq_zero_or_pos a with rfl | hap
      · have := hok k hk.1
        omega
      · rcases Int.lt_or_le (J k 1) (a : Int) with h3 | h3
        · exfalso
          have hkl : (stF 0 n J t).left k ≠ 0 := (avl_iff.1 hk.2.1).1
          have hk0 := ((stF_left (ru := 0) h t).1 k hk.1).1
          have hdec := left_dec h hk.1 (a - 1) (t - (a - 1))
          rw [show a - 1 + (t - (a - 1)) = t by omega] at hdec
          have hav : avl (stF 0 n J (a - 1)).left (fun k => J k 1) ((a - 1 : Nat) : Int) k = true := avl_iff.2 ⟨by omega, by show J k 1 ≤ _; omega⟩
          rcases wk_or h (a - 1) with ⟨-, hno⟩ | ⟨j, hj⟩
          · rw [hno k hk.1] at hav
            cases hav
          · have := hj.2.2.1 k hk.1 hav
            exact hb ⟨j, hj, by omega⟩
        · exact h3
  by_cases haD : (a : Int) ≤ J j0 2 + x
  · refine ⟨a, J j0 2, haD, ?_⟩
    have key : ∀ m, a + m ≤ u + 1 → (m : Int) ≤ smT (dnW J (stF 0 n J (a + m)).left (a : Int) (J j0 2)) n := by
      intro m
      induction m with
      | zero =>
        intro _
        refine smT_nonneg (fun k hk => ?_)
        have := (stF_left (ru := 0) h (a + 0)).1 k hk
        unfold dnW
        split <;> omega
      | succ m ih =>
        intro hm
        have ih := ih (by omega)
        obtain ⟨j, hj, hjd⟩ := hg (a + m) (by omega) (by omega)
        have hr := hrel (a + m) (by omega) (by omega) j hj hjd
        rw [← Nat.add_assoc, hj.2.2.2.1]
        have hd : dnW J (upd (stF 0 n J (a + m)).left j ((stF 0 n J (a + m)).left j - 1)) (a : Int) (J j0 2) = upd (dnW J (stF 0 n J (a + m)).left (a : Int) (J j0 2)) j (dnW J (stF 0 n J (a + m)).left (a : Int) (J j0 2) j + 1) := by
          funext k
          unfold upd
          by_cases e : k = j
          · subst e
            rw [if_pos rfl]
            unfold dnW
            rw [if_pos ⟨hr, hjd⟩, if_pos ⟨hr, hjd⟩]
            simp only [if_true]
            omega
          · rw [if_neg e]
            unfold dnW
            simp only [if_neg e]
        rw [hd, smT_upd, if_pos hj.1]
        push_cast
        omega
    have h1 := key (u + 1 - a) (by omega)
    rw [show a + (u + 1 - a) = u + 1 by omega] at h1
    have h2 : smT (dnW J (stF 0 n J (u + 1)).left (a : Int) (J j0 2)) n ≤ ldF J (a : Int) (J j0 2) n := by
      have h3 : ldF J (a : Int) (J j0 2) n = smT (dnW J (fun _ => 0) (a : Int) (J j0 2)) n := (dnW_all (fun _ _ => rfl)).symm
      rw [h3]
      refine smT_le (fun k hk => ?_)
      have := (stF_left (ru := 0) h (u + 1)).1 k hk
      unfold dnW
      simp only [Int.sub_zero]
      split <;> omega
    omega
  · have hr1 := hrel u (by
      rcases Nat.lt_or_ge u a with h3 | h3
      · exfalso
        obtain rfl : a = u + 1 := by omega
        rcases hb with hb | hb
        · omega
        · exact hb ⟨j0, by simpa using hw, Int.le_refl _⟩
      · exact h3) (by omega) j0 hw (Int.le_refl _)
    refine ⟨J j0 1, J j0 1 - x, by omega, ?_⟩
    have h3 : ∀ m, m ≤ n → j0 < m → J j0 0 ≤ ldF J (J j0 1) (J j0 1 - x) m := by
      intro m
      induction m with
      | zero => intro _ h; omega
      | succ m ih =>
        intro hm hjm
        rw [ldF_succ]
        rcases Nat.lt_or_ge j0 m with h4 | h4
        · have := ih (by omega) h4
          have := hok m (by omega)
          split <;> omega
        · obtain rfl : j0 = m := by omega
          rw [if_pos ⟨Int.le_refl _, by omega⟩]
          have := (ldF_rng h (J j0 1) (J j0 1 - x) j0 (by omega)).1
          omega
    have := h3 n (Nat.le_refl _) hj0
    have := hok j0 hj0
    omega
/-- No whole plan has a lesser greatest delay. -/
theorem plan_least (h : okJ n J = true) {m : Nat} {p : Nat → Nat → Int} (hw : whB m n J p = true) {d : Int} (hd : IsDl n J (enF (plS 0 n J).p (plS 0 n J).m) d) : ∃ j, j < n ∧ d ≤ enF p m j - J j 2 := by
  apply Classical.byContradiction
  intro hno
  have hall : ∀ j, j < n → enF p m j ≤ shJ J (d - 1) j 2 := fun j hj => by
    have h1 : ¬ d ≤ enF p m j - J j 2 := fun h1 => hno ⟨j, hj, h1⟩
    show _ ≤ J j 2 + (d - 1)
    omega
  obtain ⟨-, j0, hj0, e0⟩ := hd
  have e0 : eS (plS 0 n J) j0 - J j0 2 = d := e0
  obtain ⟨a, D, h1, h2⟩ := over_late h hj0 (x := d - 1) (by omega)
  have h3 := no_over_whole (n := n) (J := shJ J (d - 1)) (m := m) (p := p) (by rw [whB_sh]; exact hw) hall h1
  rw [ldF_sh] at h3
  omega
end
end Go.Proofs.Ythbahfmcmbjglaa
