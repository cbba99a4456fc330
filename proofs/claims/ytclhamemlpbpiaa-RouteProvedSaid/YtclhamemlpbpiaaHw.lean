/- Potentials bound distances; no way costs less than the distance. -/
import Derived.Test.YtclhamemlpbpiaaHv
namespace Go.Proofs.Ytclhamemlpbpiaa

theorem stR_some {F : Nat → Nat → Int} {x y : Int} : ∀ k, 0 ≤ stR F x y k → ∃ i, i < k ∧ jnP F x y i ∧ F i 2 = stR F x y k := by
  intro k
  induction k with
  | zero => intro h; simp [stR] at h
  | succ k ih =>
    intro h
    rw [stR] at h ⊢
    by_cases hc : jnP F x y k ∧ (stR F x y k < 0 ∨ F k 2 < stR F x y k)
    · rw [if_pos hc]
      exact ⟨k, by omega, hc.1, rfl⟩
    · rw [if_neg hc] at h ⊢
      obtain ⟨i, hi, h1, h2⟩ := ih h
      exact ⟨i, by omega, h1, h2⟩
/-- No road's ends differ by more than its cost. -/
def ptB (m : Nat) (F : Nat → Nat → Int) (p : Nat → Int) : Bool := allB (fun k => decide (p (F k 0).toNat - p (F k 1).toNat ≤ F k 2) && decide (-(p (F k 0).toNat - p (F k 1).toNat) ≤ F k 2)) m
theorem ptB_iff {m : Nat} {F : Nat → Nat → Int} {p : Nat → Int} : ptB m F p = true ↔ ∀ k, k < m → p (F k 0).toNat - p (F k 1).toNat ≤ F k 2 ∧ -(p (F k 0).toNat - p (F k 1).toNat) ≤ F k 2 := by
  unfold ptB
  rw [allB_iff]
  simp only [Bool.and_eq_true_iff, decide_eq_true_iff]
theorem pt_le {n m : Nat} {F : Nat → Nat → Int} {p : Nat → Int} (hok : okM n m F = true) (hp : ptB m F p = true) {x : Nat} (hx : x < n) : ∀ (q : Nat) y, y < n → dsT n m F (8 * x + y) < 400 → dsT n m F (8 * x + y) ≤ q → p y - p x ≤ dsT n m F (8 * x + y) := by
  have hM := dsT_met hok
  have hn8 : n ≤ 8 := by have := (okM_iff.1 hok).1; omega
  have hS := stT_met hok
  have hL : Lst n (stT n m F) (dsT n m F) := dS_lst hn8 hS (fun x y hx hy hxy h => ⟨x, hx, hxy, stT_small hok x y hx hy hxy h, by rw [hS.diag x hx]; omega⟩) n (Nat.le_refl _)
  have hp := ptB_iff.1 hp
  intro q
  induction q with
  | zero =>
    intro y hy _ h0
    by_cases e : x = y
    · subst e
      have := hM.nn (8 * x + x)
      omega
    · have := hM.off x y hx hy e
      omega
  | succ q ih =>
    intro y hy hlt hq
    by_cases e : x = y
    · subst e
      have := hM.nn (8 * x + x)
      omega
    · obtain ⟨z, hz, hzy, h1, h2⟩ := hL x y hx hy e hlt
      have h3 := hS.off z y hz hy hzy
      have h4 := stT_stR hok hz hy hzy
      have h5 : ¬ stR F z y m < 0 := fun h => by
        rw [if_pos h] at h4
        omega
      rw [if_neg h5] at h4
      obtain ⟨i, hi, hj, hc⟩ := stR_some (F := F) (x := z) (y := y) m (by omega)
      have h6 := hp i hi
      have h7 := ih z hz (by omega) (by omega)
      rcases hj with ⟨e1, e2⟩ | ⟨e1, e2⟩
      · rw [e1, e2, Int.toNat_natCast, Int.toNat_natCast] at h6
        omega
      · rw [e1, e2, Int.toNat_natCast, Int.toNat_natCast] at h6
        omega
/-- A way costs at least the distance. -/
theorem way_ge {n m : Nat} {F : Nat → Nat → Int} {f : Nat → Int} (hok : okM n m F = true) : ∀ k, wkB n f (k + 1) = true → roB m F f (k + 1) = true → dsT n m F (8 * (f 0).toNat + (f k).toNat) ≤ coS m F f (k + 1) := by
  have hM := dsT_met hok
  have hle : ∀ i, dsT n m F i ≤ stT n m F i := dS_le n
  intro k
  induction k with
  | zero =>
    intro hw _
    have := (wkB_iff.1 hw 0 (by omega)).1
    rw [hM.diag (f 0).toNat (by omega)]
    simp [coS]
  | succ k ih =>
    intro hw hr
    have hw' := wkB_iff.1 hw
    have hr' := roB_iff.1 hr
    have h1 := ih (wkB_iff.2 (fun i hi => hw' i (by omega))) (roB_iff.2 (fun i hi h0 => hr' i (by omega) h0))
    rw [coS, if_neg (by omega)]
    have h2 := hr' (k + 1) (by omega) (by omega)
    rw [show k + 1 - 1 = k by omega] at h2 ⊢
    obtain ⟨ha1, -⟩ := hw' k (by omega)
    obtain ⟨hb1, hb2⟩ := hw' (k + 1) (by omega)
    have h3 := (hw' 0 (by omega)).1
    have hne := hb2 k (by omega)
    have h4 := hM.tri (f k).toNat (by omega) (f 0).toNat (f (k + 1)).toNat (by omega) (by omega)
    have h5 := hle (8 * (f k).toNat + (f (k + 1)).toNat)
    have h6 := stT_stR hok (x := (f k).toNat) (y := (f (k + 1)).toNat) (by omega) (by omega) (by omega)
    rw [Int.toNat_of_nonneg ha1.1, Int.toNat_of_nonneg hb1.1, if_neg (by omega)] at h6
    omega
end Go.Proofs.Ytclhamemlpbpiaa
