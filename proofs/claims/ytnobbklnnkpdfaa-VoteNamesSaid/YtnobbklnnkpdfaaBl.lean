/- One peak: the middle of the first places beats all others, and nobody gains by another first place (theory). -/
import Derived.Test.YtnobbklnnkpdfaaPk
import Derived.Test.YtnobbklnnkpdfaaOd
namespace Go.Proofs.Ytnobbklnnkpdfaa
open Go.RowKit

/-- How many of the first n. -/
def cB (P : Nat → Bool) : Nat → Nat
  | 0 => 0
  | n + 1 => cB P n + (if P n then 1 else 0)
theorem cB_mono {P Q : Nat → Bool} : ∀ {n : Nat}, (∀ i, i < n → P i = true → Q i = true) → cB P n ≤ cB Q n := by
  intro n
  induction n with
  | zero => intro _; exact Nat.le_refl _
  | succ n ih =>
    intro h
    have h1 := ih (fun i hi => h i (by omega))
    have h2 := h n (by omega)
    simp only [cB]
    cases hp : P n with
    | false => simp only [Bool.false_eq_true, if_false]; omega
    | true => rw [h2 hp]; simp only [if_true]; omega
theorem cB_not (P : Nat → Bool) : ∀ n : Nat, cB P n + cB (fun i => !P i) n = n := by
  intro n
  induction n with
  | zero => rfl
  | succ n ih =>
    simp only [cB]
    have e : ∀ b : Bool, (if b then 1 else 0) + (if (!b) then 1 else 0) = 1 := fun b => by cases b <;> rfl
    have := e (P n)
    omega
theorem cB_all {P : Nat → Bool} : ∀ {n : Nat}, (∀ i, i < n → P i = true) → cB P n = n := by
  intro n
  induction n with
  | zero => intro _; rfl
  | succ n ih =>
    intro h
    simp only [cB, ih (fun i hi => h i (by omega)), h n (by omega), if_true]
theorem cB_none {P : Nat → Bool} : ∀ {n : Nat}, (∀ i, i < n → P i = false) → cB P n = 0 := by
  intro n
  induction n with
  | zero => intro _; rfl
  | succ n ih =>
    intro h
    simp [cB, ih (fun i hi => h i (by omega)), h n (by omega)]
theorem cB_congr {P Q : Nat → Bool} {n : Nat} (h : ∀ i, i < n → P i = Q i) : cB P n = cB Q n :=
  Nat.le_antisymm (cB_mono (fun i hi e => by rw [← h i hi]; exact e)) (cB_mono (fun i hi e => by rw [h i hi]; exact e))

theorem idx_at {c p : Nat} {f : Nat → Int} (h : Ord c f) (hp : p < c) : idxI f (f p) c = p :=
  idxI_some (fun j hj e => h.inj j p hj hp e) rfl c hp
/-- Where on the axis the ballot's first one stands. -/
def pkP (o : Nat → Int) (v : Nat → Nat → Int) (c i : Nat) : Int := idxI o (v i 0) c
theorem pkP_lt {c i : Nat} {o : Nat → Int} {v : Nat → Nat → Int} (hc : 0 < c) (ho : Ord c o) (hv : Ord c (v i)) : ∃ p : Nat, p < c ∧ pkP o v c i = (p : Int) ∧ o p = v i 0 := by
  have h1 := hv.rng 0 hc
  obtain ⟨p, hp, e⟩ := ho.surj (x := (v i 0).toNat) (by omega)
  have e2 : o p = v i 0 := by omega
  exact ⟨p, hp, by unfold pkP; rw [← e2]; exact idx_at ho hp, e2⟩
theorem pk_get {n : Nat} {L : Nat → Nat} {v : Nat → Nat → Int} {o : Nat → Int} {c : Nat} (h : pkB n L v o c = true) {x k z i : Nat} (hx : x < k) (hz : k < z) (hzc : z < c) (hi : i < n) : ¬(idxI (v i) (o x) (L i) < idxI (v i) (o k) (L i) ∧ idxI (v i) (o z) (L i) < idxI (v i) (o k) (L i)) := by
  have h1 := allB_iff.1 (allB_iff.1 (allB_iff.1 (allB_iff.1 h k (by omega)) x hx) (z - (k + 1)) (by omega)) i hi
  rw [show k + 1 + (z - (k + 1)) = z by omega] at h1
  rintro ⟨h2, h3⟩
  have e1 : befB (v i) (L i) (o x) (o k) = true := decide_eq_true h2
  have e2 : befB (v i) (L i) (o z) (o k) = true := decide_eq_true h3
  simp only [e1, e2] at h1
  cases h1
theorem pk_mk {n : Nat} {L : Nat → Nat} {v : Nat → Nat → Int} {o : Nat → Int} {c : Nat} (h : ∀ x k z i, x < k → k < z → z < c → i < n → ¬(idxI (v i) (o x) (L i) < idxI (v i) (o k) (L i) ∧ idxI (v i) (o z) (L i) < idxI (v i) (o k) (L i))) : pkB n L v o c = true := by
  refine allB_iff.2 (fun k hk => allB_iff.2 (fun x hx => allB_iff.2 (fun q hq => allB_iff.2 (fun i hi => ?_))))
  have h1 := h x k (k + 1 + q) i hx (by omega) (by omega) hi
  unfold befB
  by_cases e1 : idxI (v i) (o x) (L i) < idxI (v i) (o k) (L i)
  · by_cases e2 : idxI (v i) (o (k + 1 + q)) (L i) < idxI (v i) (o k) (L i)
    · exact absurd ⟨e1, e2⟩ h1
    · rw [decide_eq_false e2, Bool.and_false]; rfl
  · rw [decide_eq_false e1, Bool.false_and]; rfl
/-- Between the first one and z, all are liked more than z. -/
theorem pk_like {n c i m z : Nat} {L : Nat → Nat} {v : Nat → Nat → Int} {o : Nat → Int} (hc : 0 < c) (ho : Ord c o) (hv : Ord c (v i)) (hL : L i = c) (hi : i < n) (h : pkB n L v o c = true) (hm : m < c) (hz : z < c)
    (hs : (pkP o v c i ≤ m ∧ m < z) ∨ (m ≤ pkP o v c i ∧ z < m)) : idxI (v i) (o m) c < idxI (v i) (o z) c := by
  obtain ⟨p, hp, ep, e0⟩ := pkP_lt hc ho hv
  rw [ep] at hs
  have hne : idxI (v i) (o m) c ≠ idxI (v i) (o z) c := by
    intro e
    have r1 := ho.rng m hm
    have r2 := ho.rng z hz
    obtain ⟨a, ha, ea⟩ := hv.surj (x := (o m).toNat) (by omega)
    obtain ⟨b, hb, eb⟩ := hv.surj (x := (o z).toNat) (by omega)
    have ea' : v i a = o m := by omega
    have eb' : v i b = o z := by omega
    rw [← ea', ← eb', idx_at hv ha, idx_at hv hb] at e
    have : a = b := by omega
    subst this
    have := ho.uniq hm hz (by rw [← ea', ← eb'])
    omega
  have hz0 : 0 ≤ idxI (v i) (o z) c := by
    have r2 := ho.rng z hz
    obtain ⟨b, hb, eb⟩ := hv.surj (x := (o z).toNat) (by omega)
    have eb' : v i b = o z := by omega
    rw [← eb', idx_at hv hb]
    omega
  have hp0 : idxI (v i) (o p) c = 0 := by rw [e0]; exact idx_at hv hc
  by_cases e : p = m
  · subst e
    omega
  · have hm0 : 0 < idxI (v i) (o m) c := by
      have r1 := ho.rng m hm
      obtain ⟨a, ha, ea⟩ := hv.surj (x := (o m).toNat) (by omega)
      have ea' : v i a = o m := by omega
      rw [← ea', idx_at hv ha]
      rcases Nat.eq_zero_or_pos a with h0 | h0
      · subst h0
        exact absurd (ho.uniq hp hm (by rw [e0, ea'])) e
      · omega
    rcases hs with ⟨h1, h2⟩ | ⟨h1, h2⟩
    · have := pk_get h (x := p) (k := m) (z := z) (by omega) h2 hz hi
      rw [hL] at this
      omega
    · have := pk_get h (x := z) (k := m) (z := p) h2 (by omega) hp hi
      rw [hL] at this
      omega
theorem mrg_low {v : Nat → Nat → Int} {c a b : Nat} {P : Nat → Bool} : ∀ {n : Nat}, (∀ i, i < n → P i = true → idxI (v i) (a : Int) c < idxI (v i) (b : Int) c) → 2 * (cB P n : Int) - n ≤ mrg v c a b n := by
  intro n
  induction n with
  | zero => intro _; simp [cB, mrg]
  | succ n ih =>
    intro h
    have h1 := ih (fun i hi => h i (by omega))
    have h2 := h n (by omega)
    simp only [cB, mrg, sg]
    cases hp : P n with
    | false =>
      simp only [Bool.false_eq_true, if_false]
      split
      · push_cast; omega
      · split <;> (push_cast; omega)
    | true =>
      rw [if_pos (h2 hp)]
      simp only [if_true]
      push_cast
      omega
/-- m is the middle of the first places. -/
def IsMid (n c : Nat) (v : Nat → Nat → Int) (o : Nat → Int) (m : Nat) : Prop := m < c ∧ n < 2 * cB (fun i => decide (pkP o v c i ≤ m)) n ∧ 2 * cB (fun i => decide (pkP o v c i < m)) n < n
theorem mid_exists {n c : Nat} {v : Nat → Nat → Int} {o : Nat → Int} (hc : 0 < c) (hn : n % 2 = 1) (ho : Ord c o) (hv : ∀ i, i < n → Ord c (v i)) : ∃ m, IsMid n c v o m := by
  have hall : cB (fun i => decide (pkP o v c i ≤ ((c - 1 : Nat) : Int))) n = n := cB_all (fun i hi => by
    obtain ⟨p, hp, ep, -⟩ := pkP_lt hc ho (hv i hi)
    rw [ep]
    exact decide_eq_true (by omega))
  have key : ∀ k, k < c → (∃ m, IsMid n c v o m) ∨ 2 * cB (fun i => decide (pkP o v c i ≤ (k : Int))) n ≤ n := by
    intro k
    induction k with
    | zero =>
      intro _
      by_cases h : 2 * cB (fun i => decide (pkP o v c i ≤ ((0 : Nat) : Int))) n ≤ n
      · exact .inr h
      · refine .inl ⟨0, hc, by omega, ?_⟩
        rw [cB_none (fun i hi => decide_eq_false (by
          obtain ⟨p, hp, ep, -⟩ := pkP_lt hc ho (hv i hi)
          omega))]
        omega
    | succ k ih =>
      intro hk
      rcases ih (by omega) with h | h
      · exact .inl h
      · by_cases h2 : 2 * cB (fun i => decide (pkP o v c i ≤ ((k + 1 : Nat) : Int))) n ≤ n
        · exact .inr h2
        · refine .inl ⟨k + 1, hk, by omega, ?_⟩
          have e : cB (fun i => decide (pkP o v c i < ((k + 1 : Nat) : Int))) n = cB (fun i => decide (pkP o v c i ≤ (k : Int))) n := cB_congr (fun i hi => by
            by_cases hh : pkP o v c i ≤ (k : Int)
            · rw [decide_eq_true hh, decide_eq_true (by omega)]
            · rw [decide_eq_false hh, decide_eq_false (by omega)])
          rw [e]
          omega
  rcases key (c - 1) (by omega) with h | h
  · exact h
  · rw [hall] at h
    omega
theorem mid_beats {n c m b : Nat} {L : Nat → Nat} {v : Nat → Nat → Int} {o : Nat → Int} (hc : 0 < c) (ho : Ord c o) (hv : ∀ i, i < n → L i = c ∧ Ord c (v i)) (h : pkB n L v o c = true) (hm : IsMid n c v o m) (hb : b < c) (hne : b ≠ (o m).toNat) : 0 < mrg v c (o m).toNat b n := by
  obtain ⟨h1, h2, h3⟩ := hm
  have r1 := ho.rng m h1
  obtain ⟨z, hz, ez⟩ := ho.surj hb
  have em : (((o m).toNat : Nat) : Int) = o m := by omega
  have hzm : z ≠ m := fun e => hne (by rw [← e, ez]; rfl)
  rcases Nat.lt_or_ge m z with hl | hl
  · have := mrg_low (v := v) (c := c) (a := (o m).toNat) (b := b) (P := fun i => decide (pkP o v c i ≤ m)) (n := n) (fun i hi hp => by
      rw [em, ← ez]
      exact pk_like hc ho (hv i hi).2 (hv i hi).1 hi h h1 hz (.inl ⟨of_decide_eq_true hp, hl⟩))
    omega
  · have hcn := cB_not (fun i => decide (pkP o v c i < m)) n
    have := mrg_low (v := v) (c := c) (a := (o m).toNat) (b := b) (P := fun i => !decide (pkP o v c i < m)) (n := n) (fun i hi hp => by
      rw [em, ← ez]
      have hp' : ¬ pkP o v c i < m := by
        intro hh
        rw [decide_eq_true hh] at hp
        cases hp
      exact pk_like hc ho (hv i hi).2 (hv i hi).1 hi h h1 hz (.inr ⟨by omega, by omega⟩))
    omega
/-- Whoever changes their ballot doesn't like the new middle more. -/
theorem mid_honest {n c m m' u : Nat} {L : Nat → Nat} {v v' : Nat → Nat → Int} {o : Nat → Int} (hc : 0 < c) (ho : Ord c o) (hv : ∀ i, i < n → L i = c ∧ Ord c (v i)) (h : pkB n L v o c = true) (hu : u < n) (hsame : ∀ i, i < n → i ≠ u → v' i = v i)
    (hm : IsMid n c v o m) (hm' : IsMid n c v' o m') : idxI (v u) (o m) c ≤ idxI (v u) (o m') c := by
  obtain ⟨h1, h2, h3⟩ := hm
  obtain ⟨k1, k2, k3⟩ := hm'
  have hs : ∀ i, i < n → i ≠ u → pkP o v' c i = pkP o v c i := fun i hi e => by unfold pkP; rw [hsame i hi e]
  by_cases e : m = m'
  · rw [e]; exact Int.le_refl _
  rcases Int.lt_or_le (pkP o v c u) m with hl | hl
  · have hmm : m < m' := by
      rcases Nat.lt_or_ge m m' with h4 | h4
      · exact h4
      · have := cB_mono (P := fun i => decide (pkP o v' c i ≤ m')) (Q := fun i => decide (pkP o v c i < m)) (n := n) (fun i hi hp => by
          by_cases ei : i = u
          · rw [ei]; exact decide_eq_true hl
          · have := of_decide_eq_true hp
            rw [hs i hi ei] at this
            exact decide_eq_true (by omega))
        omega
    exact Int.le_of_lt (pk_like hc ho (hv u hu).2 (hv u hu).1 hu h h1 k1 (.inl ⟨by omega, hmm⟩))
  · rcases Nat.lt_or_ge m' m with hmm | hmm
    · exact Int.le_of_lt (pk_like hc ho (hv u hu).2 (hv u hu).1 hu h h1 k1 (.inr ⟨hl, hmm⟩))
    · by_cases el : pkP o v c u = m
      · exact Int.le_of_lt (pk_like hc ho (hv u hu).2 (hv u hu).1 hu h h1 k1 (.inl ⟨by omega, by omega⟩))
      · have := cB_mono (P := fun i => decide (pkP o v c i ≤ m)) (Q := fun i => decide (pkP o v' c i < m')) (n := n) (fun i hi hp => by
          have hp' := of_decide_eq_true hp
          by_cases ei : i = u
          · rw [ei] at hp'; omega
          · rw [← hs i hi ei] at hp'
            exact decide_eq_true (by omega))
        omega
end Go.Proofs.Ytnobbklnnkpdfaa
