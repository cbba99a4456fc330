/- Distances: a stop let in is one round; symmetric, nothing on the diagonal alone, never longer over a third stop. -/
import Derived.Test.YtclhamemlpbpiaaHd
namespace Go.Proofs.Ytclhamemlpbpiaa

theorem upd_cell (T : Nat → Int) {a b x y : Nat} (hb : b < 8) (hy : y < 8) (z : Int) : upd T (8 * a + b) z (8 * x + y) = if x = a ∧ y = b then z else T (8 * x + y) := by
  unfold upd
  by_cases e : x = a ∧ y = b
  · rw [if_pos e, if_pos (by obtain ⟨rfl, rfl⟩ := e; rfl)]
  · rw [if_neg e, if_neg (fun h => e (by omega))]
theorem dB_at {t a : Nat} {T : Nat → Int} (ht : t < 8) (h0 : T (8 * t + t) = 0) (hn : ∀ i, 0 ≤ T i) : ∀ b, b ≤ 8 → ∀ x y, x < 8 → y < 8 → dB t a T b (8 * x + y) = if x = a ∧ y < b then min (T (8 * a + y)) (T (8 * a + t) + T (8 * t + y)) else T (8 * x + y) := by
  intro b
  induction b with
  | zero =>
    intro _ x y _ _
    rw [if_neg (by omega)]
    rfl
  | succ b ih =>
    intro hb x y hx hy
    have ih := ih (by omega)
    rw [dB, upd_cell _ (by omega) hy]
    by_cases hxa : x = a
    · subst hxa
      have e1 := ih x b hx (by omega)
      rw [if_neg (by omega)] at e1
      have e2 : dB t x T b (8 * x + t) = T (8 * x + t) := by
        rw [ih x t hx ht]
        split
        · have := hn (8 * x + t)
          omega
        · rfl
      have e3 : dB t x T b (8 * t + b) = T (8 * t + b) := by
        rw [ih t b ht (by omega), if_neg (by omega)]
      by_cases hyb : y = b
      · subst hyb
        rw [if_pos ⟨rfl, rfl⟩, if_pos ⟨rfl, by omega⟩, e1, e2, e3]
      · rw [if_neg (fun h => hyb h.2), ih x y hx hy]
        by_cases hlt : y < b
        · rw [if_pos ⟨rfl, hlt⟩, if_pos ⟨rfl, by omega⟩]
        · rw [if_neg (fun h => hlt h.2), if_neg (fun h => by omega)]
    · rw [if_neg (fun h => hxa h.1), ih x y hx hy, if_neg (fun h => hxa h.1), if_neg (fun h => hxa h.1)]
theorem dB_nn {t a : Nat} {T : Nat → Int} (hn : ∀ i, 0 ≤ T i) : ∀ b i, 0 ≤ dB t a T b i := by
  intro b
  induction b with
  | zero => exact hn
  | succ b ih =>
    intro i
    have h1 := ih (8 * a + b)
    have h2 := ih (8 * a + t)
    have h3 := ih (8 * t + b)
    rw [dB]
    unfold upd
    split
    · omega
    · exact ih i
theorem dA_nn {t n : Nat} {T : Nat → Int} (hn : ∀ i, 0 ≤ T i) : ∀ a i, 0 ≤ dA t n T a i := by
  intro a
  induction a with
  | zero => exact hn
  | succ a ih => exact dB_nn ih n
/-- What a round leaves. -/
theorem dA_at {t n : Nat} {T : Nat → Int} (hn8 : n ≤ 8) (ht : t < n) (h0 : T (8 * t + t) = 0) (hn : ∀ i, 0 ≤ T i) : ∀ a, a ≤ n → ∀ x y, x < 8 → y < 8 → dA t n T a (8 * x + y) = if x < a ∧ y < n then min (T (8 * x + y)) (T (8 * x + t) + T (8 * t + y)) else T (8 * x + y) := by
  intro a
  induction a with
  | zero =>
    intro _ x y _ _
    rw [if_neg (by omega)]
    rfl
  | succ a ih =>
    intro ha x y hx hy
    have ih := ih (by omega)
    have ht8 : t < 8 := by omega
    have hrow : ∀ z, z < 8 → dA t n T a (8 * t + z) = T (8 * t + z) := fun z hz => by
      rw [ih t z ht8 hz]
      split
      · have := hn (8 * t + z)
        omega
      · rfl
    have h1 : dA t n T a (8 * t + t) = 0 := by rw [hrow t ht8, h0]
    rw [dA, dB_at ht8 h1 (dA_nn hn a) n hn8 x y hx hy]
    by_cases hxa : x = a
    · subst hxa
      by_cases hyn : y < n
      · rw [if_pos ⟨rfl, hyn⟩, if_pos ⟨by omega, hyn⟩, hrow y hy, ih x y hx hy, ih x t hx ht8, if_neg (by omega), if_neg (by omega)]
      · rw [if_neg (fun h => hyn h.2), if_neg (fun h => hyn h.2), ih x y hx hy, if_neg (fun h => hyn h.2)]
    · rw [if_neg (fun h => hxa h.1), ih x y hx hy]
      by_cases hlt : x < a ∧ y < n
      · rw [if_pos hlt, if_pos ⟨by omega, hlt.2⟩]
      · rw [if_neg hlt, if_neg (by omega)]
/-- A table is a metric but for what is beyond the first t stops. -/
structure Met (n : Nat) (T : Nat → Int) (t : Nat) : Prop where
  nn : ∀ i, 0 ≤ T i
  diag : ∀ x, x < n → T (8 * x + x) = 0
  off : ∀ x y, x < n → y < n → x ≠ y → 0 < T (8 * x + y)
  sym : ∀ x y, x < n → y < n → T (8 * x + y) = T (8 * y + x)
  tri : ∀ u, u < t → ∀ x y, x < n → y < n → T (8 * x + y) ≤ T (8 * x + u) + T (8 * u + y)
theorem Met.round {n t : Nat} {T : Nat → Int} (hn8 : n ≤ 8) (ht : t < n) (h : Met n T t) : Met n (dA t n T n) (t + 1) := by
  have hat : ∀ x y, x < n → y < n → dA t n T n (8 * x + y) = min (T (8 * x + y)) (T (8 * x + t) + T (8 * t + y)) := fun x y hx hy => by
    rw [dA_at hn8 ht (h.diag t ht) h.nn n (Nat.le_refl _) x y (by omega) (by omega), if_pos ⟨hx, hy⟩]
  refine ⟨dA_nn h.nn n, fun x hx => ?_, fun x y hx hy hxy => ?_, fun x y hx hy => ?_, fun u hu x y hx hy => ?_⟩
  · have h1 := h.diag x hx
    have h2 := h.nn (8 * x + t)
    have h3 := h.nn (8 * t + x)
    rw [hat x x hx hx]
    omega
  · have h1 := h.off x y hx hy hxy
    have h2 := h.nn (8 * x + t)
    have h3 := h.nn (8 * t + y)
    rw [hat x y hx hy]
    by_cases e : x = t
    · subst e
      have := h.off x y hx hy hxy
      omega
    · have := h.off x t hx ht e
      omega
  · rw [hat x y hx hy, hat y x hy hx, h.sym x y hx hy, h.sym x t hx ht, h.sym t y ht hy]
    omega
  · have hun : u < n := by omega
    have h0 := h.diag t ht
    rw [hat x y hx hy, hat x u hx hun, hat u y hun hy]
    rcases Nat.lt_or_ge u t with hut | hut
    · have h1 := h.tri u hut x y hx hy
      have h2 := h.tri u hut x t hx ht
      have h3 := h.tri u hut t y ht hy
      have h4 := h.nn (8 * t + u)
      have h5 := h.nn (8 * u + t)
      omega
    · obtain rfl : u = t := by omega
      rw [h0]
      have h4 := h.nn (8 * x + u)
      have h5 := h.nn (8 * u + y)
      omega
theorem dS_met {n : Nat} {T : Nat → Int} (hn8 : n ≤ 8) (h : Met n T 0) : ∀ t, t ≤ n → Met n (dS n T t) t := by
  intro t
  induction t with
  | zero => intro _; exact h
  | succ t ih => intro ht; exact (ih (by omega)).round hn8 (by omega)
end Go.Proofs.Ytclhamemlpbpiaa
