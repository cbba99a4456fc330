import Derived.Test.YtkgikehagkpmoaaNash
namespace Go.Proofs.Ytkgikehagkpmoaa
open Go.RowKit

/-- The limits of the copies change nothing about what is valid. -/
theorem okVals_few {n : Nat} {L : Nat → Nat} {v : Nat → Nat → Int} : okVals (min n 6) (fun i => min (L i) 9) v = okVals n L v := by
  rw [Bool.eq_iff_iff]
  simp only [okVals, decide_eq_true_eq]
  constructor
  · rintro ⟨h1, h2, h3⟩
    have en : min n 6 = n := by omega
    rw [en] at h1 h2 h3
    refine ⟨h1, h2, fun i hi => ?_⟩
    have h4 := h3 i hi
    have h5 := h3 0 (by omega)
    simp only [okRow, decide_eq_true_eq] at h4 h5 ⊢
    have e1 : min (L i) 9 = L i := by omega
    have e2 : min (L 0) 9 = L 0 := by omega
    rw [e1, e2] at h4
    exact h4
  · rintro ⟨h1, h2, h3⟩
    have en : min n 6 = n := by omega
    rw [en]
    refine ⟨h1, h2, fun i hi => ?_⟩
    have h4 := h3 i hi
    have h5 := h3 0 (by omega)
    simp only [okRow, decide_eq_true_eq] at h4 h5 ⊢
    have e1 : min (L i) 9 = L i := by omega
    have e2 : min (L 0) 9 = L 0 := by omega
    rw [e1, e2]
    exact h4
theorem okDiv_few {n nd : Nat} {L : Nat → Nat} {v : Nat → Nat → Int} {d : Nat → Int} : okDiv (min n 6) (fun i => min (L i) 9) v (min nd 9) d = okDiv n L v nd d := by
  simp only [okDiv, okVals_few]
  cases ho : okVals n L v with
  | false => rfl
  | true =>
    obtain ⟨h1, h2, h3, h4, -, -⟩ := okVals_of ho
    have e1 : min n 6 = n := by omega
    have e2 : min (L 0) 9 = L 0 := by omega
    rw [e1, Bool.true_and, Bool.true_and, Bool.eq_iff_iff]
    simp only [decide_eq_true_eq, e2]
    constructor
    · rintro ⟨h5, h6⟩
      have e3 : min nd 9 = nd := by omega
      rw [e3] at h5 h6
      exact ⟨h5, h6⟩
    · rintro ⟨h5, h6⟩
      have e3 : min nd 9 = nd := by omega
      rw [e3]
      exact ⟨h5, h6⟩

end Go.Proofs.Ytkgikehagkpmoaa
