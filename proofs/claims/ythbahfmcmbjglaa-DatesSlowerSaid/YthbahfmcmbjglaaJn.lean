/- The plan by what is left has the least sum of ends: plain words. -/
import Derived.Test.YthbahfmcmbjglaaQv
namespace Go.Proofs.Ythbahfmcmbjglaa

theorem smT_zero_fn (n : Nat) : smT (fun _ => 0) n = 0 := by
  induction n with
  | zero => rfl
  | succ n ih => simp [smT, ih]
theorem smT_add (f g : Nat → Int) (n : Nat) : smT (fun k => f k + g k) n = smT f n + smT g n := by
  induction n with
  | zero => rfl
  | succ n ih =>
    simp only [smT, ih]
    omega
theorem smT_swap (F : Nat → Nat → Int) (n : Nat) : ∀ m, smT (fun k => smT (fun t => F t k) m) n = smT (fun t => smT (fun k => F t k) n) m := by
  intro m
  induction m with
  | zero => exact smT_zero_fn n
  | succ m ih => rw [smT, ← ih, ← smT_add]; rfl
/-- The members of a set weighed; how many there are. -/
def swF (r : Nat → Int) (P : Nat → Bool) : Nat → Int := fun k => if P k = true then r k else 0
def cnF (P : Nat → Bool) : Nat → Int := fun k => if P k = true then 1 else 0
/-- A way to do the jobs, unit by unit: what is left at t. -/
structure Sch (n : Nat) (J r : Nat → Nat → Int) : Prop where
  init : ∀ k, k < n → r 0 k = J k 0
  nn : ∀ t k, k < n → 0 ≤ r t k
  step : ∀ t, (∀ k, k < n → r (t + 1) k = r t k) ∨ ∃ j, j < n ∧ J j 1 ≤ t ∧ r (t + 1) j = r t j - 1 ∧ ∀ k, k < n → k ≠ j → r (t + 1) k = r t k
theorem Sch.le {n : Nat} {J r : Nat → Nat → Int} (h : Sch n J r) (t : Nat) {k : Nat} (hk : k < n) : r (t + 1) k ≤ r t k := by
  rcases h.step t with e | ⟨j, -, -, e1, e2⟩
  · rw [e k hk]; exact Int.le_refl _
  · by_cases e : k = j
    · subst e; omega
    · rw [e2 k hk e]; exact Int.le_refl _
theorem Sch.mono {n : Nat} {J r : Nat → Nat → Int} (h : Sch n J r) {k : Nat} (hk : k < n) (t : Nat) : ∀ m, r (t + m) k ≤ r t k := by
  intro m
  induction m with
  | zero => exact Int.le_refl _
  | succ m ih =>
    have := h.le (t + m) hk
    rw [← Nat.add_assoc]
    omega
/-- What is not released is not begun. -/
theorem Sch.wait {n : Nat} {J r : Nat → Nat → Int} (h : Sch n J r) {k : Nat} (hk : k < n) : ∀ t : Nat, (t : Int) ≤ J k 1 → r t k = J k 0 := by
  intro t
  induction t with
  | zero => intro _; exact h.init k hk
  | succ t ih =>
    intro ht
    have h1 := ih (by omega)
    rcases h.step t with e | ⟨j, -, hj, -, e2⟩
    · rw [e k hk, h1]
    · by_cases e : k = j
      · subst e; omega
      · rw [e2 k hk e, h1]
theorem Sch.sum {n : Nat} {J r : Nat → Nat → Int} (h : Sch n J r) (t : Nat) (P : Nat → Bool) : smT (swF (r t) P) n ≤ smT (swF (r (t + 1)) P) n + 1 := by
  rcases h.step t with e | ⟨j, hj, -, e1, e2⟩
  · rw [smT_congr (f := swF (r t) P) (g := swF (r (t + 1)) P) (fun k hk => by unfold swF; rw [e k hk])]
    omega
  · have h1 : smT (swF (r (t + 1)) P) n = smT (upd (swF (r t) P) j (if P j = true then r t j - 1 else 0)) n := smT_congr (fun k hk => by
      by_cases e : k = j
      · subst e
        rw [upd_at]
        unfold swF
        rw [e1]
      · rw [upd_ne _ _ e]
        unfold swF
        rw [e2 k hk e])
    rw [h1, smT_upd, if_pos hj]
    unfold swF
    split <;> omega
/-- It works on the one that has the least left. -/
def Sst (n : Nat) (J r : Nat → Nat → Int) : Prop := ∀ t : Nat, (∀ k, k < n → J k 1 ≤ t → r t k = 0) ∨ ∃ j, j < n ∧ J j 1 ≤ t ∧ 0 < r t j ∧ (∀ k, k < n → J k 1 ≤ t → 0 < r t k → r t j ≤ r t k) ∧ r (t + 1) j = r t j - 1 ∧ ∀ k, k < n → k ≠ j → r (t + 1) k = r t k
/-- Of each set that is released, as many have no more left. -/
def Dom (n : Nat) (J a b : Nat → Nat → Int) (t u : Nat) : Prop := ∀ P : Nat → Bool, (∀ k, k < n → P k = true → J k 1 ≤ u) → ∃ Q : Nat → Bool, (∀ k, k < n → Q k = true → J k 1 ≤ u) ∧ smT (cnF Q) n = smT (cnF P) n ∧ smT (swF (a t) Q) n ≤ smT (swF (b t) P) n
theorem sw_nn {n : Nat} {r : Nat → Int} {P : Nat → Bool} (h : ∀ k, k < n → 0 ≤ r k) : 0 ≤ smT (swF r P) n := smT_nonneg (fun k hk => by
  unfold swF
  have := h k hk
  split <;> omega)
theorem sw_zero {n : Nat} {r : Nat → Int} {P : Nat → Bool} (h : ∀ k, k < n → P k = true → r k = 0) : smT (swF r P) n = 0 := by
  rw [← smT_zero_fn n]
  exact smT_congr (fun k hk => by
    unfold swF
    split
    · exact h k hk (by assumption)
    · rfl)
theorem sw_put {n j : Nat} (hj : j < n) (r : Nat → Int) (P : Nat → Bool) (b : Bool) : smT (swF r (fun k => if k = j then b else P k)) n = smT (swF r P) n + ((if b = true then r j else 0) - (if P j = true then r j else 0)) := by
  have h1 : smT (swF r (fun k => if k = j then b else P k)) n = smT (upd (swF r P) j (if b = true then r j else 0)) n := smT_congr (fun k _ => by
    by_cases e : k = j
    · subst e
      rw [upd_at]
      unfold swF
      simp only [if_true]
    · rw [upd_ne _ _ e]
      unfold swF
      simp only [if_neg e])
  rw [h1, smT_upd, if_pos hj]
  rfl
theorem cn_sw (P : Nat → Bool) : cnF P = swF (fun _ => 1) P := rfl
theorem dom_work {n : Nat} {J a b : Nat → Nat → Int} (ha : Sch n J a) (hs : Sst n J a) (hb : Sch n J b) {t : Nat} (h : Dom n J a b t t) : Dom n J a b (t + 1) t := by
  intro P hP
  obtain ⟨Q, hQ1, hQ2, hQ3⟩ := h P hP
  have hsum := hb.sum t P
  have hnb := sw_nn (P := P) (fun k hk => hb.nn (t + 1) k hk)
  rcases hs t with h0 | ⟨j, hj, hjr, hjp, hmin, e1, e2⟩
  · refine ⟨Q, hQ1, hQ2, ?_⟩
    rw [sw_zero (fun k hk hq => by
      have h1 := h0 k hk (hQ1 k hk hq)
      have h2 := ha.le t hk
      have h3 := ha.nn (t + 1) k hk
      omega)]
    exact hnb
  · have hdec : ∀ Q' : Nat → Bool, Q' j = true → smT (swF (a (t + 1)) Q') n = smT (swF (a t) Q') n - 1 := fun Q' hq => by
      have h1 : smT (swF (a (t + 1)) Q') n = smT (upd (swF (a t) Q') j (a t j - 1)) n := smT_congr (fun k hk => by
        by_cases e : k = j
        · subst e
          rw [upd_at]
          unfold swF
          rw [if_pos hq, e1]
        · rw [upd_ne _ _ e]
          unfold swF
          rw [e2 k hk e])
      rw [h1, smT_upd, if_pos hj]
      unfold swF
      rw [if_pos hq]
      omega
    cases hqj : Q j with
    | true =>
      refine ⟨Q, hQ1, hQ2, ?_⟩
      rw [hdec Q hqj]
      omega
    | false =>
      by_cases hz : ∃ i, i < n ∧ Q i = true ∧ 0 < a t i
      · obtain ⟨i, hi, hqi, hip⟩ := hz
        have hij : i ≠ j := fun e => by rw [e, hqj] at hqi; cases hqi
        have hle := hmin i hi (hQ1 i hi hqi) hip
        have hQ' : (fun k => if k = j then true else (fun k => if k = i then false else Q k) k) j = true := by simp
        refine ⟨fun k => if k = j then true else (fun k => if k = i then false else Q k) k, fun k hk hq => ?_, ?_, ?_⟩
        · by_cases e : k = j
          · subst e; exact hjr
          · simp only [if_neg e] at hq
            by_cases e3 : k = i
            · simp [e3] at hq
            · simp only [if_neg e3] at hq
              exact hQ1 k hk hq
        · rw [cn_sw, sw_put hj, sw_put hi]
          rw [cn_sw] at hQ2
          have hji : ¬ j = i := fun e => hij e.symm
          simp only [if_neg hji, hqj, hqi]
          simp
          omega
        · rw [hdec _ hQ', sw_put hj, sw_put hi]
          have hji : ¬ j = i := fun e => hij e.symm
          simp only [if_neg hji, hqj, hqi]
          simp
          omega
      · refine ⟨Q, hQ1, hQ2, ?_⟩
        rw [sw_zero (fun k hk hq => by
          have h2 := ha.le t hk
          have h3 := ha.nn (t + 1) k hk
          have h4 : ¬ 0 < a t k := fun h5 => hz ⟨k, hk, hq, h5⟩
          omega)]
        exact hnb
theorem dom_rel {n : Nat} {J a b : Nat → Nat → Int} (ha : Sch n J a) (hb : Sch n J b) {t : Nat} (h : Dom n J a b (t + 1) t) : Dom n J a b (t + 1) (t + 1) := by
  intro P hP
  obtain ⟨Q, hQ1, hQ2, hQ3⟩ := h (fun k => P k && decide (J k 1 ≤ (t : Int))) (fun k _ hq => of_decide_eq_true (Bool.and_eq_true_iff.1 hq).2)
  refine ⟨fun k => if J k 1 ≤ (t : Int) then Q k else P k, fun k hk hq => ?_, ?_, ?_⟩
  · by_cases e : J k 1 ≤ (t : Int)
    · push_cast
      omega
    · simp only [if_neg e] at hq
      exact hP k hk hq
  · have h1 : smT (cnF (fun k => if J k 1 ≤ (t : Int) then Q k else P k)) n = smT (cnF Q) n + smT (fun k => if J k 1 ≤ (t : Int) then 0 else cnF P k) n := by
      rw [← smT_add]
      refine smT_congr (fun k hk => ?_)
      unfold cnF
      by_cases e : J k 1 ≤ (t : Int)
      · simp only [if_pos e]
        omega
      · simp only [if_neg e]
        have : Q k = false := by
          cases hq : Q k with
          | false => rfl
          | true => exact absurd (hQ1 k hk hq) e
        rw [this]
        simp
    have h2 : smT (cnF P) n = smT (cnF (fun k => P k && decide (J k 1 ≤ (t : Int)))) n + smT (fun k => if J k 1 ≤ (t : Int) then 0 else cnF P k) n := by
      rw [← smT_add]
      refine smT_congr (fun k hk => ?_)
      unfold cnF
      by_cases e : J k 1 ≤ (t : Int)
      · simp [e]
      · simp [e]
    rw [h1, h2, hQ2]
  · have h1 : smT (swF (a (t + 1)) (fun k => if J k 1 ≤ (t : Int) then Q k else P k)) n = smT (swF (a (t + 1)) Q) n + smT (fun k => if J k 1 ≤ (t : Int) then 0 else swF (b (t + 1)) P k) n := by
      rw [← smT_add]
      refine smT_congr (fun k hk => ?_)
      unfold swF
      by_cases e : J k 1 ≤ (t : Int)
      · simp only [if_pos e]
        omega
      · simp only [if_neg e]
        have : Q k = false := by
          cases hq : Q k with
          | false => rfl
          | true => exact absurd (hQ1 k hk hq) e
        rw [this]
        have h3 : ((t + 1 : Nat) : Int) ≤ J k 1 := by push_cast; omega
        rw [ha.wait hk (t + 1) h3, hb.wait hk (t + 1) h3]
        simp
    have h2 : smT (swF (b (t + 1)) P) n = smT (swF (b (t + 1)) (fun k => P k && decide (J k 1 ≤ (t : Int)))) n + smT (fun k => if J k 1 ≤ (t : Int) then 0 else swF (b (t + 1)) P k) n := by
      rw [← smT_add]
      refine smT_congr (fun k hk => ?_)
      unfold swF
      by_cases e : J k 1 ≤ (t : Int)
      · simp [e]
      · simp [e]
    rw [h1, h2]
    omega
theorem dom_all {n : Nat} {J a b : Nat → Nat → Int} (ha : Sch n J a) (hs : Sst n J a) (hb : Sch n J b) : ∀ t, Dom n J a b t t := by
  intro t
  induction t with
  | zero =>
    intro P hP
    refine ⟨P, hP, rfl, ?_⟩
    rw [smT_congr (f := swF (a 0) P) (g := swF (b 0) P) (fun k hk => by unfold swF; rw [ha.init k hk, hb.init k hk])]
    exact Int.le_refl _
  | succ t ih => exact dom_rel ha hb (dom_work ha hs hb ih)
/-- Unfinished jobs. -/
def opF (r : Nat → Int) : Nat → Int := fun k => if 0 < r k then 1 else 0
theorem op_le {n : Nat} {J a b : Nat → Nat → Int} (ha : Sch n J a) (hs : Sst n J a) (hb : Sch n J b) (h1 : ∀ k, k < n → 1 ≤ J k 0) (t : Nat) : smT (opF (a t)) n ≤ smT (opF (b t)) n := by
  obtain ⟨Q, -, hQ2, hQ3⟩ := dom_all ha hs hb t (fun k => decide (b t k = 0)) (fun k hk hp => by
    have h0 : b t k = 0 := of_decide_eq_true hp
    rcases Int.lt_or_le (t : Int) (J k 1) with h | h
    · have := hb.wait hk t (by omega)
      have := h1 k hk
      omega
    · exact h)
  rw [sw_zero (r := b t) (P := fun k => decide (b t k = 0)) (fun k _ hp => of_decide_eq_true hp)] at hQ3
  have hz := smT_zero (f := swF (a t) Q) (n := n) (fun k hk => by
    unfold swF
    have := ha.nn t k hk
    split <;> omega) (by
      have := sw_nn (n := n) (P := Q) (fun k hk => ha.nn t k hk)
      omega)
  have h2 : smT (opF (a t)) n + smT (cnF Q) n ≤ n := by
    rw [← smT_add]
    have h3 : ∀ m, m ≤ n → smT (fun k => opF (a t) k + cnF Q k) m ≤ m := by
      intro m
      induction m with
      | zero => intro _; exact Int.le_refl _
      | succ m ih =>
        intro hm
        have h4 := ih (by omega)
        have h5 := hz m (by omega)
        rw [smT]
        unfold opF cnF
        unfold swF at h5
        cases hq : Q m with
        | true =>
          rw [hq] at h5
          simp only [if_true] at h5
          rw [h5]
          simp
          unfold opF cnF at h4
          omega
        | false =>
          unfold opF cnF at h4
          simp
          split <;> omega
    exact h3 n (Nat.le_refl _)
  have h3 : (n : Int) = smT (opF (b t)) n + smT (cnF (fun k => decide (b t k = 0))) n := by
    rw [← smT_add]
    have h4 : ∀ m, m ≤ n → smT (fun k => opF (b t) k + cnF (fun k => decide (b t k = 0)) k) m = m := by
      intro m
      induction m with
      | zero => intro _; rfl
      | succ m ih =>
        intro hm
        have h5 := hb.nn t m (by omega)
        rw [smT, ih (by omega)]
        unfold opF cnF
        by_cases e : b t m = 0
        · simp [e]
        · rw [if_pos (by omega), if_neg (by simpa using e)]
          push_cast
          omega
    exact (h4 n (Nat.le_refl _)).symm
  omega
/-- How long a job is open. -/
theorem open_le {r : Nat → Int} {e : Int} (he : 0 ≤ e) (h : ∀ t : Nat, 0 < r t → (t : Int) < e) : ∀ T, smT (opF r) T ≤ e ∧ smT (opF r) T ≤ T := by
  intro T
  induction T with
  | zero => exact ⟨he, Int.le_refl _⟩
  | succ T ih =>
    rw [smT]
    by_cases hr : 0 < r T
    · have := h T hr
      have e1 : opF r T = 1 := if_pos hr
      rw [e1]
      push_cast
      omega
    · have e1 : opF r T = 0 := if_neg hr
      rw [e1]
      push_cast
      omega
theorem open_ge {r : Nat → Int} {e : Nat} (h : ∀ t : Nat, t < e → 0 < r t) : ∀ T, e ≤ T → (e : Int) ≤ smT (opF r) T := by
  have h0 : smT (opF r) e = e := by
    have : ∀ m, m ≤ e → smT (opF r) m = m := by
      intro m
      induction m with
      | zero => intro _; rfl
      | succ m ih =>
        intro hm
        rw [smT, ih (by omega)]
        have e1 : opF r m = 1 := if_pos (h m (by omega))
        rw [e1]
        push_cast
        rfl
    exact this e (Nat.le_refl _)
  intro T
  induction T with
  | zero =>
    intro hT
    obtain rfl : e = 0 := by omega
    exact Int.le_refl _
  | succ T ih =>
    intro hT
    by_cases e1 : e = T + 1
    · rw [← e1, h0]
      exact Int.le_refl _
    · have := ih (by omega)
      rw [smT]
      unfold opF at this ⊢
      split <;> omega
/-- The sum of the ends. -/
theorem ends_le {n : Nat} {J a b : Nat → Nat → Int} {ea eb : Nat → Int} (ha : Sch n J a) (hs : Sst n J a) (hb : Sch n J b) (h1 : ∀ k, k < n → 1 ≤ J k 0) (hea : ∀ k, k < n → 0 ≤ ea k ∧ ea k ≤ 1000 ∧ ∀ t : Nat, (t : Int) < ea k → 0 < a t k) (heb : ∀ k, k < n → 0 ≤ eb k ∧ ∀ t : Nat, 0 < b t k → (t : Int) < eb k) : smT ea n ≤ smT eb n := by
  have h2 : smT ea n ≤ smT (fun k => smT (fun t => opF (a t) k) 1000) n := smT_le (fun k hk => by
    obtain ⟨e0, e1, e2⟩ := hea k hk
    have := open_ge (r := fun t => a t k) (e := (ea k).toNat) (fun t ht => e2 t (by omega)) 1000 (by omega)
    have e : smT (fun t => opF (a t) k) 1000 = smT (opF (fun t => a t k)) 1000 := rfl
    rw [e]
    omega)
  have h3 : smT (fun k => smT (fun t => opF (b t) k) 1000) n ≤ smT eb n := smT_le (fun k hk => by
    obtain ⟨e0, e2⟩ := heb k hk
    exact (open_le (r := fun t => b t k) e0 e2 1000).1)
  rw [smT_swap (fun t k => opF (a t) k) n 1000] at h2
  rw [smT_swap (fun t k => opF (b t) k) n 1000] at h3
  have h4 : smT (fun t => smT (fun k => opF (a t) k) n) 1000 ≤ smT (fun t => smT (fun k => opF (b t) k) n) 1000 := smT_le (fun t _ => op_le ha hs hb h1 t)
  omega
end Go.Proofs.Ythbahfmcmbjglaa
