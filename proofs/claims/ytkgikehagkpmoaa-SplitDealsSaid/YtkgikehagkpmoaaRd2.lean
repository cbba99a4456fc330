import Derived.Test.YtkgikehagkpmoaaRd1
import Derived.Test.YtkgikehagkpmoaaNm
namespace Go.Proofs.Ytkgikehagkpmoaa

theorem wTo_took {D : Nat → Int} {f : Nat → Int} {g : Nat} {j : Int} (hg : D g = -1) (hj : 0 ≤ j) : ∀ K, wTo f (upd D g j) (-1) K = wTo f D (-1) K - (if g < K then f g else 0) := by
  intro K
  induction K with
  | zero => simp [wTo]
  | succ K ih =>
    by_cases c1 : K = g
    · subst c1
      simp only [wTo, ih, upd_at, hg]
      rw [if_neg (show ¬ j = -1 by omega), if_neg (show ¬ K < K by omega), if_pos (show K < K + 1 by omega)]
      simp only [if_true]
      omega
    · simp only [wTo, ih, upd_ne D j c1]
      (repeat' split) <;> omega
theorem wTo_none {D : Nat → Int} {f : Nat → Int} {j : Int} {K : Nat} (h : ∀ x, x < K → D x ≠ j) : wTo f D j K = 0 := by
  induction K with
  | zero => rfl
  | succ K ih =>
    simp only [wTo]
    rw [if_neg (h K (by omega))]
    exact ih (fun x hx => h x (by omega))
theorem wTo_one {D : Nat → Int} {j : Int} {K : Nat} (h : wTo (fun _ => 1) D j K = 0) : ∀ x, x < K → D x ≠ j := by
  have key : ∀ K, 0 ≤ wTo (fun _ => 1) D j K := fun K => by
    induction K with
    | zero => exact Int.le_refl _
    | succ K ih => simp only [wTo]; split <;> omega
  induction K with
  | zero => intro x hx; omega
  | succ K ih =>
    simp only [wTo] at h
    have h1 := key K
    by_cases e : D K = j
    · rw [if_pos e] at h; omega
    · rw [if_neg e] at h
      intro x hx
      rcases Nat.lt_or_ge x K with hl | hl
      · exact ih h x hl
      · obtain rfl : x = K := by omega
        exact e
theorem wTo_all {K : Nat} (j : Int) : wTo (fun _ => 1) (fun _ => j) j K = (K : Int) := by
  induction K with
  | zero => rfl
  | succ K ih => simp only [wTo, ih, if_true]; omega

/-- What j has picked in the first t turns. -/
def tw (f : Nat → Int) (p : Nat → Nat) (n j : Nat) : Nat → Int
  | 0 => 0
  | t + 1 => tw f p n j t + if t % n = j then f (p t) else 0
theorem tw_congr {f : Nat → Int} {p q : Nat → Nat} {n j t : Nat} (h : ∀ s, s < t → p s = q s) : tw f p n j t = tw f q n j t := by
  induction t with
  | zero => rfl
  | succ t ih => simp only [tw]; rw [ih (fun s hs => h s (by omega)), h t (by omega)]

/-- The state when t turns are over; p: what was picked at each. -/
structure RdI (n m t : Nat) (v : Nat → Nat → Int) (D : Nat → Int) (p : Nat → Nat) : Prop where
  pick : ∀ s, s < t → p s < m ∧ D (p s) = ((s % n : Nat) : Int)
  rng : ∀ h, h < m → D h = -1 ∨ (0 ≤ D h ∧ D h < n)
  greedy : ∀ s, s < t → ∀ h, h < m → (D h = -1 ∨ ∃ s', s < s' ∧ s' < t ∧ h = p s') → v (s % n) h ≤ v (s % n) (p s)
  sums : ∀ (f : Nat → Int) (j : Nat), wTo f D (j : Int) m = tw f p n j t
  left : wTo (fun _ => 1) D (-1) m = (m : Int) - t
theorem RdI.start {n m : Nat} (v : Nat → Nat → Int) : RdI n m 0 v (fun _ => -1) (fun _ => 0) :=
  ⟨fun s hs => absurd hs (by omega), fun _ _ => .inl rfl, fun s hs => absurd hs (by omega), fun f j => wTo_none (fun x _ => by omega), by rw [wTo_all]; omega⟩
theorem RdI.fav {n m t : Nat} {v : Nat → Nat → Int} {D : Nat → Int} {p : Nat → Nat} (h : RdI n m t v D p) (ht : t < m) {f : Nat → Int} {x : Int} (hx : FavI f D m x) : ∃ b : Nat, b < m ∧ x = (b : Int) ∧ D b = -1 ∧ ∀ h, h < m → D h = -1 → f h ≤ f b := by
  rcases hx with ⟨-, hno⟩ | hb
  · have h1 := h.left
    rw [wTo_none hno] at h1
    omega
  · exact hb
theorem RdI.next {n m t : Nat} {v : Nat → Nat → Int} {D : Nat → Int} {p : Nat → Nat} (h : RdI n m t v D p) (hn : 0 < n) {b : Nat} (hb : b < m) (hD : D b = -1) (hbest : ∀ x, x < m → D x = -1 → v (t % n) x ≤ v (t % n) b) :
    RdI n m (t + 1) v (upd D b ((t % n : Nat) : Int)) (fun s => if s = t then b else p s) := by
  have hlt := Nat.mod_lt t hn
  have hp : ∀ s, s < t → p s ≠ b := fun s hs e => by
    have := (h.pick s hs).2
    rw [e, hD] at this
    omega
  refine ⟨fun s hs => ?_, fun x hx => ?_, fun s hs x hx hh => ?_, fun f j => ?_, ?_⟩
  · by_cases e : s = t
    · subst e
      simp only [if_true]
      exact ⟨hb, upd_at _ _ _⟩
    · rw [if_neg e, upd_ne _ _ (hp s (by omega))]
      exact h.pick s (by omega)
  · by_cases e : x = b
    · subst e
      rw [upd_at]
      exact .inr ⟨by omega, by omega⟩
    · rw [upd_ne _ _ e]
      exact h.rng x hx
  · by_cases e : s = t
    · subst e
      simp only [if_true]
      rcases hh with h1 | ⟨s', h1, h2, -⟩
      · by_cases e2 : x = b
        · rw [e2]; exact Int.le_refl _
        · rw [upd_ne _ _ e2] at h1
          exact hbest x hx h1
      · omega
    · simp only [if_neg e]
      refine h.greedy s (by omega) x hx ?_
      rcases hh with h1 | ⟨s', h1, h2, h3⟩
      · by_cases e2 : x = b
        · rw [e2]; exact .inl hD
        · rw [upd_ne _ _ e2] at h1
          exact .inl h1
      · by_cases e2 : s' = t
        · subst e2
          simp only [if_true] at h3
          rw [h3]
          exact .inl hD
        · rw [if_neg e2] at h3
          exact .inr ⟨s', h1, by omega, h3⟩
  · rw [wTo_put hD (by omega), h.sums]
    simp only [tw, if_true]
    rw [tw_congr (q := p) (fun s hs => if_neg (by omega))]
    congr 1
    by_cases e : t % n = j
    · rw [if_pos ⟨hb, by omega⟩, if_pos e]
    · rw [if_neg (by omega), if_neg e]
  · rw [wTo_took hD (by omega), h.left, if_pos hb]
    omega

def cn (n x : Nat) : Nat → Nat
  | 0 => 0
  | t + 1 => cn n x t + if t % n = x then 1 else 0
theorem cn_pos {n x : Nat} (h0 : 0 < n) (h4 : n ≤ 4) (hx : x < n) (t : Nat) : t ≤ x + cn n x t * n ∧ (cn n x t = 0 ∨ x + (cn n x t - 1) * n < t) ∧ (t % n = x → t = x + cn n x t * n) := by
  have key : t ≤ x + cn n x t * n ∧ (cn n x t = 0 ∨ x + (cn n x t - 1) * n < t) := by
    induction t with
    | zero => exact ⟨by omega, .inl rfl⟩
    | succ t ih =>
      simp only [cn]
      have h : n = 1 ∨ n = 2 ∨ n = 3 ∨ n = 4 := by omega
      rcases h with rfl | rfl | rfl | rfl <;> split <;> omega
  refine ⟨key.1, key.2, fun e => ?_⟩
  have h : n = 1 ∨ n = 2 ∨ n = 3 ∨ n = 4 := by omega
  rcases h with rfl | rfl | rfl | rfl <;> omega
theorem tw_sum {n x : Nat} (h0 : 0 < n) (h4 : n ≤ 4) (hx : x < n) (f : Nat → Int) (p : Nat → Nat) (t : Nat) : tw f p n x t = sumTo (fun k => f (p (x + k * n))) (cn n x t) := by
  induction t with
  | zero => rfl
  | succ t ih =>
    simp only [tw, cn]
    by_cases e : t % n = x
    · rw [if_pos e, if_pos e, ih, sumTo, ← (cn_pos h0 h4 hx t).2.2 e]
    · rw [if_neg e, if_neg e, ih, Nat.add_zero]; omega
theorem sumTo_nn' {f : Nat → Int} {n : Nat} (h : ∀ j, j < n → 0 ≤ f j) : 0 ≤ sumTo f n := by
  induction n with
  | zero => exact Int.le_refl _
  | succ n ih =>
    have h1 := ih (fun j hj => h j (by omega))
    have h2 := h n (by omega)
    simp only [sumTo]
    omega
theorem sumTo_more {f : Nat → Int} {a b : Nat} (h : ∀ k, k < b → 0 ≤ f k) (hab : a ≤ b) : sumTo f a ≤ sumTo f b := by
  induction b with
  | zero =>
    obtain rfl : a = 0 := by omega
    exact Int.le_refl _
  | succ b ih =>
    have h1 := h b (by omega)
    simp only [sumTo]
    rcases Nat.lt_or_ge b a with hl | hl
    · obtain rfl : a = b + 1 := by omega
      simp only [sumTo]; omega
    · have := ih (fun k hk => h k (by omega)) hl
      omega
/-- Taking turns is fair up to one. -/
theorem RdI.ef1 {n m : Nat} {v : Nat → Nat → Int} {D : Nat → Int} {p : Nat → Nat} (h : RdI n m m v D p) (h0 : 0 < n) (h4 : n ≤ 4) (hb : BdM n m v 100) : Own n m D ∧ Ef1 n m v D := by
  have hall := wTo_one (show wTo (fun _ => 1) D (-1) m = 0 by rw [h.left]; omega)
  refine ⟨fun g hg => ?_, fun i j hi hj => ?_⟩
  · rcases h.rng g hg with e | e
    · exact absurd e (hall g hg)
    · exact e
  · rw [h.sums, h.sums, tw_sum h0 h4 hj, tw_sum h0 h4 hi]
    obtain ⟨a1, a2, -⟩ := cn_pos h0 h4 hi m
    obtain ⟨b1, b2, -⟩ := cn_pos h0 h4 hj m
    have hsi : ∀ k, k < cn n i m → i + k * n < m := fun k hk => by
      have hh : n = 1 ∨ n = 2 ∨ n = 3 ∨ n = 4 := by omega
      rcases hh with rfl | rfl | rfl | rfl <;> omega
    have hsj : ∀ k, k < cn n j m → j + k * n < m := fun k hk => by
      have hh : n = 1 ∨ n = 2 ∨ n = 3 ∨ n = 4 := by omega
      rcases hh with rfl | rfl | rfl | rfl <;> omega
    have hmod : ∀ x k, x < n → (x + k * n) % n = x := fun x k hx => by rw [Nat.add_mul_mod_self_right]; exact Nat.mod_eq_of_lt hx
    have hcc : cn n j m ≤ cn n i m + 1 := by
      have hh : n = 1 ∨ n = 2 ∨ n = 3 ∨ n = 4 := by omega
      rcases hh with rfl | rfl | rfl | rfl <;> omega
    have hnn : ∀ k, k < cn n i m → 0 ≤ v i (p (i + k * n)) := fun k hk => (hb i hi _ (h.pick _ (hsi k hk)).1).1
    rcases Nat.eq_zero_or_pos (cn n j m) with hz | hz
    · refine .inl ?_
      rw [hz]
      exact sumTo_nn' hnn
    · refine .inr ⟨p j, ?_, ?_, ?_⟩
      · have := (h.pick (j + 0 * n) (hsj 0 hz)).1
        simpa using this
      · have := (h.pick (j + 0 * n) (hsj 0 hz)).2
        rw [hmod j 0 hj] at this
        simpa using this
      · obtain ⟨c, hc⟩ : ∃ c, cn n j m = 1 + c := ⟨cn n j m - 1, by omega⟩
        have hsp := sumTo_split (fun k => v i (p (j + k * n))) 1 c
        rw [hc, hsp]
        have e1 : sumTo (fun k => v i (p (j + k * n))) 1 = v i (p j) := by simp [sumTo]
        rw [e1]
        have h1 : sumTo (fun k => v i (p (j + (1 + k) * n))) c ≤ sumTo (fun k => v i (p (i + k * n))) c := sumTo_le fun k hk => by
          have s1 := hsi k (by omega)
          have s2 := hsj (1 + k) (by omega)
          have hg := h.greedy (i + k * n) s1 (p (j + (1 + k) * n)) (h.pick _ s2).1 (.inr ⟨j + (1 + k) * n, by
            rw [Nat.add_mul]; omega, s2, rfl⟩)
          rw [hmod i k hi] at hg
          exact hg
        have h2 : sumTo (fun k => v i (p (i + k * n))) c ≤ sumTo (fun k => v i (p (i + k * n))) (cn n i m) := sumTo_more hnn (by omega)
        omega
end Go.Proofs.Ytkgikehagkpmoaa
