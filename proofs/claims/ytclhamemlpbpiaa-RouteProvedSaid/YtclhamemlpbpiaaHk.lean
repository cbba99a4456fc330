/- A distance below 400 is at most 350: each has a last road. -/
import Derived.Test.YtclhamemlpbpiaaHj
namespace Go.Proofs.Ytclhamemlpbpiaa

/-- How many of the first n. -/
def cnB (p : Nat → Bool) : Nat → Nat
  | 0 => 0
  | n + 1 => cnB p n + (if p n = true then 1 else 0)
theorem cnB_le {p q : Nat → Bool} : ∀ {n}, (∀ v, v < n → p v = true → q v = true) → cnB p n ≤ cnB q n := by
  intro n
  induction n with
  | zero => intro _; exact Nat.le_refl _
  | succ n ih =>
    intro h
    have h1 := ih (fun v hv => h v (by omega))
    rw [cnB, cnB]
    cases hp : p n with
    | false => rw [if_neg (by simp)]; omega
    | true => rw [if_pos rfl, if_pos (h n (by omega) hp)]; omega
theorem cnB_lt {p q : Nat → Bool} : ∀ {n z}, (∀ v, v < n → p v = true → q v = true) → z < n → p z = false → q z = true → cnB p n + 1 ≤ cnB q n := by
  intro n
  induction n with
  | zero => intro z _ hz; omega
  | succ n ih =>
    intro z h hz hp hq
    rw [cnB, cnB]
    by_cases e : z = n
    · subst e
      have h1 := cnB_le (p := p) (q := q) (n := z) (fun v hv => h v (by omega))
      rw [hp, if_neg (by simp), if_pos hq]
      omega
    · have h1 := ih (z := z) (fun v hv => h v (by omega)) (by omega) hp hq
      cases hpn : p n with
      | false => rw [if_neg (by simp)]; omega
      | true => rw [if_pos rfl, if_pos (h n (by omega) hpn)]; omega
theorem cnB_top {p : Nat → Bool} : ∀ n, cnB p n ≤ n := by
  intro n
  induction n with
  | zero => exact Nat.le_refl _
  | succ n ih =>
    rw [cnB]
    split <;> omega
/-- Each distance has a last road. -/
def Lst (n : Nat) (E T : Nat → Int) : Prop := ∀ x y, x < n → y < n → x ≠ y → T (8 * x + y) < 400 → ∃ z, z < n ∧ z ≠ y ∧ E (8 * z + y) ≤ 50 ∧ T (8 * x + z) + E (8 * z + y) ≤ T (8 * x + y)
theorem lst_round {n t : Nat} {E T : Nat → Int} (hn8 : n ≤ 8) (ht : t < n) (h : Met n T t) (hl : Lst n E T) : Lst n E (dA t n T n) := by
  have hat : ∀ x y, x < n → y < n → dA t n T n (8 * x + y) = min (T (8 * x + y)) (T (8 * x + t) + T (8 * t + y)) := fun x y hx hy => by
    rw [dA_at hn8 ht (h.diag t ht) h.nn n (Nat.le_refl _) x y (by omega) (by omega), if_pos ⟨hx, hy⟩]
  intro x y hx hy hxy hlt
  rw [hat x y hx hy] at hlt ⊢
  rcases Int.lt_or_le (T (8 * x + t) + T (8 * t + y)) (T (8 * x + y)) with h1 | h1
  · have hty : t ≠ y := by
      intro e
      subst e
      have := h.diag t ht
      omega
    have hx0 := h.nn (8 * x + t)
    obtain ⟨z, hz, hzy, he, h2⟩ := hl t y ht hy hty (by omega)
    refine ⟨z, hz, hzy, he, ?_⟩
    rw [hat x z hx hz]
    omega
  · obtain ⟨z, hz, hzy, he, h2⟩ := hl x y hx hy hxy (by omega)
    refine ⟨z, hz, hzy, he, ?_⟩
    rw [hat x z hx hz]
    omega
theorem dS_lst {n : Nat} {E T : Nat → Int} (hn8 : n ≤ 8) (h : Met n T 0) (hl : Lst n E T) : ∀ t, t ≤ n → Lst n E (dS n T t) := by
  intro t
  induction t with
  | zero => intro _; exact hl
  | succ t ih => intro ht; exact lst_round hn8 (by omega) (dS_met hn8 h t (by omega)) (ih (by omega))
theorem dB_le {t a : Nat} {T : Nat → Int} : ∀ b i, dB t a T b i ≤ T i := by
  intro b
  induction b with
  | zero => intro i; exact Int.le_refl _
  | succ b ih =>
    intro i
    rw [dB]
    unfold upd
    split
    · rename_i e
      have h1 := ih (8 * a + b)
      rw [e]
      omega
    · exact ih i
theorem dA_le {t n : Nat} {T : Nat → Int} : ∀ a i, dA t n T a i ≤ T i := by
  intro a
  induction a with
  | zero => intro i; exact Int.le_refl _
  | succ a ih => intro i; exact Int.le_trans (dB_le n i) (ih i)
theorem dS_le {n : Nat} {T : Nat → Int} : ∀ t i, dS n T t i ≤ T i := by
  intro t
  induction t with
  | zero => intro i; exact Int.le_refl _
  | succ t ih => intro i; exact Int.le_trans (dA_le n i) (ih i)
/-- A step below 400 is a road. -/
theorem stT_small {n m : Nat} {F : Nat → Nat → Int} (hok : okM n m F = true) : ∀ x y, x < n → y < n → x ≠ y → stT n m F (8 * x + y) < 400 → stT n m F (8 * x + y) ≤ 50 := by
  obtain ⟨⟨-, hn8⟩, -, hrd⟩ := okM_iff.1 hok
  have hn8 : n ≤ 8 := by omega
  have hat := iA_at hn8 (T := fun _ => 0) n (Nat.le_refl _)
  have key : ∀ k, k ≤ m → ∀ x y, x < n → y < n → x ≠ y → rS F (iA n (fun _ => 0) n) k (8 * x + y) < 400 → rS F (iA n (fun _ => 0) n) k (8 * x + y) ≤ 50 := by
    intro k
    induction k with
    | zero =>
      intro _ x y hx hy hxy
      rw [rS, hat x y (by omega) (by omega), if_pos ⟨hx, hy, hxy⟩]
      omega
    | succ k ih =>
      intro hk x y hx hy hxy
      obtain ⟨h1, h2, h3, h4, h5⟩ := hrd k (by omega)
      rw [rS, upd_cell _ (by omega) (by omega)]
      split
      · omega
      · rw [upd_cell _ (by omega) (by omega)]
        split
        · omega
        · exact ih (by omega) x y hx hy hxy
  exact key m (Nat.le_refl _)
/-- So no distance lies between. -/
theorem dsT_small {n m : Nat} {F : Nat → Nat → Int} (hok : okM n m F = true) {x y : Nat} (hx : x < n) (hy : y < n) (hlt : dsT n m F (8 * x + y) < 400) : dsT n m F (8 * x + y) ≤ 50 * (n - 1) := by
  have hM := dsT_met hok
  have hn8 : n ≤ 8 := by have := (okM_iff.1 hok).1; omega
  have hS := stT_met hok
  have hL : Lst n (stT n m F) (dsT n m F) := dS_lst hn8 hS (fun x y hx hy hxy h => ⟨x, hx, hxy, stT_small hok x y hx hy hxy h, by rw [hS.diag x hx]; omega⟩) n (Nat.le_refl _)
  have hle : ∀ i, dsT n m F i ≤ stT n m F i := dS_le n
  generalize dsT n m F = T at *
  have key : ∀ (q : Nat) y, y < n → T (8 * x + y) < 400 → T (8 * x + y) ≤ q → T (8 * x + y) ≤ 50 * (cnB (fun v => decide (T (8 * x + v) < T (8 * x + y))) n : Nat) := by
    intro q
    induction q with
    | zero =>
      intro y hy _ h0
      omega
    | succ q ih =>
      intro y hy hlt hq
      by_cases e : x = y
      · subst e
        rw [hM.diag x hx]
        omega
      · obtain ⟨z, hz, hzy, he, h2⟩ := hL x y hx hy e hlt
        have h3 := hS.off z y hz hy hzy
        have h4 := hle (8 * z + y)
        have h5 := hM.tri z hz x y hx hy
        have h6 := ih z hz (by omega) (by omega)
        have h7 := cnB_lt (p := fun v => decide (T (8 * x + v) < T (8 * x + z))) (q := fun v => decide (T (8 * x + v) < T (8 * x + y))) (n := n) (z := z) (fun v _ hp => decide_eq_true (by have := of_decide_eq_true hp; omega)) hz (decide_eq_false (by omega)) (decide_eq_true (by omega))
        omega
  have h1 := key (T (8 * x + y)).toNat y hy hlt (by have := hM.nn (8 * x + y); omega)
  have h2 := cnB_lt (p := fun v => decide (T (8 * x + v) < T (8 * x + y))) (q := fun _ => true) (n := n) (z := y) (fun _ _ _ => rfl) hy (decide_eq_false (by omega)) rfl
  have h3 := cnB_top (p := fun _ => true) n
  omega
end Go.Proofs.Ytclhamemlpbpiaa
