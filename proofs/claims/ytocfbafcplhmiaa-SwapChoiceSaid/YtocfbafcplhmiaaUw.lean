/- Trading again: nothing is better than trading; who has traded keeps what they got. -/
import Derived.Test.YtocfbafcplhmiaaUt
import Derived.Test.YtocfbafcplhmiaaUl
namespace Go.Proofs.Ytocfbafcplhmiaa
open Go.RowKit

section
variable {t : Nat → Nat → Nat} {n : Nat}
theorem pareto0 (hn : n ≤ 5) (ht : ∀ i, i < n → Pm n (t i)) {p : Nat → Nat} (hp : Pm n p) (h : ∀ i, i < n → owF (t i) n (p i) ≤ owF (t i) n (tr0 t n i)) : ∀ i, i < n → p i = tr0 t n i := by
  intro i hi
  apply Classical.byContradiction
  intro hne
  have hlt : owF (t i) n (p i) < owF (t i) n (tr0 t n i) := by
    rcases Nat.lt_or_eq_of_le (h i hi) with hl | he
    · exact hl
    · exact absurd (rank_inj ht hi (hp.lt i hi) ((tr0_pm ht).lt i hi) he) hne
  have hc := core_none ht (seB (fun _ => true) n)
  rw [← Bool.not_eq_true, obB_iff ht] at hc
  exact hc ⟨p, hp, fun j hj _ => seB_in hn (hp.lt j hj), fun j hj _ => h j hj, i, hi, seB_in hn hi, hlt⟩
/-- A thing is named by who has it now. -/
def agT (t : Nat → Nat → Nat) (n : Nat) : Nat → Nat → Nat := fun i k => owF (tr0 t n) n (t i k)
theorem agT_pm (ht : ∀ i, i < n → Pm n (t i)) : ∀ i, i < n → Pm n (agT t n i) := fun i hi =>
  ⟨fun k hk => (owF_at (tr0_pm ht) ((ht i hi).lt k hk)).1, fun a b ha hb e => (ht i hi).inj a b ha hb ((owF_pm (tr0_pm ht)).inj _ _ ((ht i hi).lt a ha) ((ht i hi).lt b hb) e)⟩
theorem agT_rank (ht : ∀ i, i < n → Pm n (t i)) {i x : Nat} (hi : i < n) (hx : x < n) : owF (agT t n i) n x = owF (t i) n (tr0 t n x) := by
  unfold owF
  refine fsN_congr (fun k hk => ?_)
  rw [decide_eq_decide]
  have htk := (ht i hi).lt k hk
  constructor
  · intro e
    rw [← e]
    exact (owF_at (tr0_pm ht) htk).2.symm
  · intro e
    show owF (tr0 t n) n (t i k) = x
    rw [e]
    exact owF_of (tr0_pm ht) hx
theorem again_none (hn : n ≤ 5) (ht : ∀ i, i < n → Pm n (t i)) (S : Nat) : obB (agT t n) n S (fun i => i) = false := by
  rw [← Bool.not_eq_true, obB_iff (agT_pm ht)]
  rintro ⟨p, hp, h1, h2, i0, hi0, h3, h4⟩
  have hsel : ∀ k, k < n → (if inS S k = true then p k else k) < n := fun k hk => by
    split
    · exact hp.lt k hk
    · exact hk
  have hq : Pm n (fun i => tr0 t n (if inS S i = true then p i else i)) := by
    refine ⟨fun k hk => (tr0_pm ht).lt _ (hsel k hk), fun a b ha hb e => ?_⟩
    have e2 := (tr0_pm ht).inj _ _ (hsel a ha) (hsel b hb) e
    cases hsa : inS S a with
    | true =>
      cases hsb : inS S b with
      | true =>
        rw [hsa, hsb, if_pos rfl, if_pos rfl] at e2
        exact hp.inj a b ha hb e2
      | false =>
        rw [hsa, hsb, if_pos rfl, if_neg (by decide)] at e2
        have := h1 a ha hsa
        rw [e2, hsb] at this
        cases this
    | false =>
      cases hsb : inS S b with
      | true =>
        rw [hsa, hsb, if_pos rfl, if_neg (by decide)] at e2
        have := h1 b hb hsb
        rw [← e2, hsa] at this
        cases this
      | false =>
        rw [hsa, hsb, if_neg (by decide)] at e2
        simpa using e2
  have key := pareto0 hn ht hq (fun i hi => by
    show owF (t i) n (tr0 t n (if inS S i = true then p i else i)) ≤ _
    cases hs : inS S i with
    | true =>
      rw [if_pos rfl]
      have := h2 i hi hs
      rw [agT_rank ht hi (hp.lt i hi), agT_rank ht hi hi] at this
      exact this
    | false =>
      rw [if_neg (by decide)]
      exact Nat.le_refl _) i0 hi0
  rw [agT_rank ht hi0 (hp.lt i0 hi0), agT_rank ht hi0 hi0] at h4
  have key' : tr0 t n (if inS S i0 = true then p i0 else i0) = tr0 t n i0 := key
  rw [h3, if_pos rfl] at key'
  rw [key'] at h4
  omega
theorem again_tr (hn : n ≤ 5) (ht : ∀ i, i < n → Pm n (t i)) {i : Nat} (hi : i < n) : tr0 (agT t n) n i = i := by
  apply Classical.byContradiction
  intro hne
  obtain ⟨S, -, hS⟩ := core_some hn (agT_pm ht) (pm_id n) ⟨i, hi, fun e => hne e.symm⟩
  rw [again_none hn ht S] at hS
  cases hS
end
theorem ownVals_wis {w : World} {base n : Nat} {x : Value} {t : Nat → Nat → Nat} (h : OwnR w base x n (fun _ => n) (fun i k => (t i k : Int))) : ∃ A c, x = .slice A n c ∧ Wis w A n t ∧ n ≤ c := h.rowsKs
end Go.Proofs.Ytocfbafcplhmiaa
