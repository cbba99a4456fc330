/- Orders backward; the disagreement. -/
import Derived.Test.YtnobbklnnkpdfaaBs
namespace Go.Proofs.Ytnobbklnnkpdfaa
open Go.RowKit

theorem Ord.rev {c : Nat} {f : Nat → Int} (h : Ord c f) : Ord c (fun k => f (c - 1 - k)) := by
  refine ⟨fun k hk => h.rng (c - 1 - k) (by omega), fun i j hij hj e => ?_⟩
  exact h.inj (c - 1 - j) (c - 1 - i) (by omega) (by omega) e.symm
theorem Ord.of_rev {c : Nat} {f : Nat → Int} (h : Ord c (fun k => f (c - 1 - k))) : Ord c f := by
  have h2 := h.rev
  refine ⟨fun k hk => ?_, fun i j hij hj e => ?_⟩
  · have := h2.rng k hk
    have e : c - 1 - (c - 1 - k) = k := by omega
    simpa only [e] using this
  · refine h2.inj i j hij hj ?_
    have e1 : c - 1 - (c - 1 - i) = i := by omega
    have e2 : c - 1 - (c - 1 - j) = j := by omega
    simpa only [e1, e2] using e
theorem idx_rev {c : Nat} {f : Nat → Int} (h : Ord c f) {x : Nat} (hx : x < c) : idxI (fun k => f (c - 1 - k)) (x : Int) c = (c : Int) - 1 - idxI f (x : Int) c := by
  obtain ⟨k, hk, e, ei, hu⟩ := h.place hx
  obtain ⟨k', hk', e', ei', hu'⟩ := h.rev.place hx
  have : c - 1 - k' = k := (hu (c - 1 - k') (by omega)).1 e'
  rw [ei, ei']
  omega
theorem sg_rev (c i j : Int) : sg (c - 1 - i) (c - 1 - j) = - sg i j := by
  unfold sg
  by_cases h1 : i < j
  · rw [if_neg (by omega), if_pos (by omega), if_pos h1]
  · by_cases h2 : j < i
    · rw [if_pos (by omega), if_neg h1, if_pos h2]
      rfl
    · rw [if_neg (by omega), if_neg (by omega), if_neg h1, if_neg h2]
      rfl
theorem mrg_rev {c : Nat} {v : Nat → Nat → Int} {a b : Nat} (ha : a < c) (hb : b < c) : ∀ n : Nat, (∀ i, i < n → Ord c (v i)) → mrg (fun i k => v i (c - 1 - k)) c a b n = - mrg v c a b n := by
  intro n
  induction n with
  | zero => intro _; rfl
  | succ n ih =>
    intro h
    simp only [mrg]
    rw [ih (fun i hi => h i (by omega)), idx_rev (h n (by omega)) ha, idx_rev (h n (by omega)) hb, sg_rev]
    omega
theorem mrg_congr {c a b : Nat} {v v' : Nat → Nat → Int} : ∀ n : Nat, (∀ i, i < n → ∀ x : Int, idxI (v i) x c = idxI (v' i) x c) → mrg v c a b n = mrg v' c a b n := by
  intro n
  induction n with
  | zero => intro _; rfl
  | succ n ih =>
    intro h
    simp only [mrg]
    rw [ih (fun i hi => h i (by omega)), h n (by omega), h n (by omega)]
theorem ordB_rev (c m : Nat) (f : Nat → Int) : ordB c m (fun k => f (m - 1 - k)) = ordB c m f := by
  rw [Bool.eq_iff_iff, ordB_iff, ordB_iff]
  constructor
  · rintro ⟨rfl, h⟩
    exact ⟨rfl, h.of_rev⟩
  · rintro ⟨rfl, h⟩
    exact ⟨rfl, h.rev⟩
/-- What two places of an order add to its disagreement. -/
def dG (n : Nat) (T : Nat → Int) (o : Nat → Int) : Nat → Nat → Int := fun k j => Int.tdiv ((n : Int) - T (5 * (o k).toNat + (o j).toNat)) 2
def disS (n : Nat) (T : Nat → Int) (o : Nat → Int) (c : Nat) : Int := triS (dG n T o) c c
theorem dis_rev {n c : Nat} {T T1 : Nat → Int} {o : Nat → Int} (hc : c ≤ 5) (ho : Ord c o) (hT : ∀ a b, a < c → b < c → T1 (5 * a + b) = T (5 * b + a)) : disS n T1 o c = disS n T (fun k => o (c - 1 - k)) c := by
  unfold disS
  rw [triS_flip (dG n T (fun k => o (c - 1 - k))) hc]
  refine triS_congr (fun i j hij hj => ?_) (Nat.le_refl _)
  unfold dG
  have e1 : c - 1 - (c - 1 - j) = j := by omega
  have e2 : c - 1 - (c - 1 - i) = i := by omega
  simp only [e1, e2]
  have h1 := ho.rng i (by omega)
  have h2 := ho.rng j hj
  rw [hT _ _ (by omega) (by omega)]
theorem dG_bd {n c : Nat} {T : Nat → Int} {o : Nat → Int} (hn : n ≤ 9) (hT : ∀ a b, a < c → b < c → -(n : Int) ≤ T (5 * a + b) ∧ T (5 * a + b) ≤ n) (ho : Ord c o) {k j : Nat} (hk : k < c) (hj : j < c) : 0 ≤ dG n T o k j ∧ dG n T o k j ≤ 9 := by
  unfold dG
  have h1 := ho.rng k hk
  have h2 := ho.rng j hj
  have h3 := hT (o k).toNat (o j).toNat (by omega) (by omega)
  rw [Int.tdiv_eq_ediv_of_nonneg (by omega)]
  omega
end Go.Proofs.Ytnobbklnnkpdfaa
