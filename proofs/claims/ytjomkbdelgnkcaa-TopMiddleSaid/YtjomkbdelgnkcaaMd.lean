/- The middle one of the sorted first places (theory). -/
import Derived.Test.YtjomkbdelgnkcaaBl
import Derived.Test.YtjomkbdelgnkcaaOwn
namespace Go.Proofs.Ytjomkbdelgnkcaa
open Go.RowKit

theorem cB_count (p : Int → Bool) (f : Nat → Int) : ∀ n : Nat, cB (fun i => p (f i)) n = (lst n f).countP p := by
  intro n
  induction n with
  | zero => rw [lst_zero]; rfl
  | succ n ih =>
    rw [lst_succ, List.countP_append, ← ih]
    simp only [cB, List.countP_singleton]
theorem mid_sorted {n c m : Nat} {v : Nat → Nat → Int} {o : Nat → Int} (hn : n % 2 = 1) {s : List Int} (hp : s.Perm (lst n (pkP o v c))) (hs : s.Pairwise (fun x y => x ≤ y)) (hm : s.getD (n / 2) 0 = (m : Int)) (hmc : m < c) : IsMid n c v o m := by
  have hl : s.length = n := by rw [hp.length_eq, lst_len]
  have hlt : n / 2 < s.length := by omega
  have hget : s[n / 2] = (m : Int) := by
    rw [← hm]
    simp [List.getD, hlt]
  have hpw := List.pairwise_iff_getElem.1 hs
  refine ⟨hmc, ?_, ?_⟩
  · have e : cB (fun i => decide (pkP o v c i ≤ (m : Int))) n = s.countP (fun y => decide (y ≤ (m : Int))) := by
      rw [cB_count (fun y => decide (y ≤ (m : Int))) (pkP o v c) n, hp.countP_eq]
    have h1 : (s.take (n / 2 + 1)).countP (fun y => decide (y ≤ (m : Int))) = n / 2 + 1 := by
      have : (s.take (n / 2 + 1)).countP (fun y => decide (y ≤ (m : Int))) = (s.take (n / 2 + 1)).length := by
        rw [List.countP_eq_length]
        intro y hy
        obtain ⟨j, hj, ey⟩ := List.getElem_of_mem hy
        rw [List.length_take] at hj
        rw [List.getElem_take] at ey
        refine decide_eq_true ?_
        rw [← ey, ← hget]
        rcases Nat.lt_or_ge j (n / 2) with h | h
        · exact hpw j (n / 2) (by omega) hlt h
        · have : j = n / 2 := by omega
          subst this
          exact Int.le_refl _
      rw [this, List.length_take]
      omega
    have h2 : (s.take (n / 2 + 1)).countP (fun y => decide (y ≤ (m : Int))) ≤ s.countP (fun y => decide (y ≤ (m : Int))) := (List.take_sublist _ _).countP_le
    rw [e]
    omega
  · have e : cB (fun i => decide (pkP o v c i < (m : Int))) n = s.countP (fun y => decide (y < (m : Int))) := by
      rw [cB_count (fun y => decide (y < (m : Int))) (pkP o v c) n, hp.countP_eq]
    have h1 : (s.drop (n / 2)).countP (fun y => decide (y < (m : Int))) = 0 := by
      rw [List.countP_eq_zero]
      intro y hy
      obtain ⟨j, hj, ey⟩ := List.getElem_of_mem hy
      rw [List.length_drop] at hj
      rw [List.getElem_drop] at ey
      simp only [decide_eq_true_eq]
      rw [← ey, ← hget]
      rcases Nat.eq_zero_or_pos j with h | h
      · subst h
        simp
      · have := hpw (n / 2) (n / 2 + j) hlt (by omega) (by omega)
        omega
    have h2 : s.countP (fun y => decide (y < (m : Int))) = (s.take (n / 2)).countP (fun y => decide (y < (m : Int))) + (s.drop (n / 2)).countP (fun y => decide (y < (m : Int))) := by
      rw [← List.countP_append, List.take_append_drop]
    have h3 : (s.take (n / 2)).countP (fun y => decide (y < (m : Int))) ≤ (s.take (n / 2)).length := List.countP_le_length
    rw [List.length_take] at h3
    rw [e]
    omega
def sortZ (n : Nat) (f : Nat → Int) : List Int := (lst n f).mergeSort fun x y => decide (x ≤ y)
theorem sortZ_perm (n : Nat) (f : Nat → Int) : (sortZ n f).Perm (lst n f) := List.mergeSort_perm _ _
theorem sortZ_up (n : Nat) (f : Nat → Int) : (sortZ n f).Pairwise (fun x y => x ≤ y) := by
  have h := List.pairwise_mergeSort (le := fun x y : Int => decide (x ≤ y)) (fun a b c h1 h2 => by
    simp only [decide_eq_true_eq] at *
    omega) (fun a b => by
    simp only [Bool.or_eq_true, decide_eq_true_eq]
    omega) (lst n f)
  exact h.imp (fun h => of_decide_eq_true h)
theorem sortZ_len (n : Nat) (f : Nat → Int) : (sortZ n f).length = n := by rw [(sortZ_perm n f).length_eq, lst_len]
end Go.Proofs.Ytjomkbdelgnkcaa
