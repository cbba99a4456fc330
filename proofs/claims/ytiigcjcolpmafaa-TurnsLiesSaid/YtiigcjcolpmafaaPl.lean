import Derived.Test.YtiigcjcolpmafaaIdx
import Derived.Test.YtiigcjcolpmafaaBool
import Derived.Test.YtiigcjcolpmafaaOwn
namespace Go.Proofs.Ytiigcjcolpmafaa
open Go.RowKit

/-- The place of x in a list of L numbers; L: it is not there. -/
def rkI (f : Nat → Int) (L : Nat) (x : Int) : Int := if idxI f x L = -1 then (L : Int) else idxI f x L
/-- A plan's numbers. -/
structure PlanD where
  nH : Nat
  LH : Nat → Nat
  vH : Nat → Nat → Int
  nS : Nat
  LS : Nat → Nat
  vS : Nat → Nat → Int
  nP : Nat
  pl : Nat → Int
/-- L numbers below k, each once. -/
def RowOk (f : Nat → Int) (L k : Nat) : Prop := L ≤ k ∧ ∀ a, a < L → 0 ≤ f a ∧ f a < (k : Int) ∧ idxI f (f a) a = -1
instance (f : Nat → Int) (L k : Nat) : Decidable (RowOk f L k) := by unfold RowOk; infer_instance
def PlOk (nP : Nat) (pl : Nat → Int) : Prop := ∀ j, j < nP → 1 ≤ pl j ∧ pl j ≤ 3
instance (nP : Nat) (pl : Nat → Int) : Decidable (PlOk nP pl) := by unfold PlOk; infer_instance
def ListsOk (n : Nat) (L : Nat → Nat) (v : Nat → Nat → Int) (k : Nat) : Prop := ∀ i, i < n → RowOk (v i) (L i) k
instance (n : Nat) (L : Nat → Nat) (v : Nat → Nat → Int) (k : Nat) : Decidable (ListsOk n L v k) := by unfold ListsOk; infer_instance
def okPlan (p : PlanD) : Bool := decide ((1 ≤ p.nH ∧ p.nH ≤ 6 ∧ 1 ≤ p.nS ∧ p.nS ≤ 4 ∧ p.nP = p.nS) ∧ PlOk p.nP p.pl ∧ ListsOk p.nH p.LH p.vH p.nS ∧ ListsOk p.nS p.LS p.vS p.nH)
theorem okPlan_of {p : PlanD} (h : okPlan p = true) : (1 ≤ p.nH ∧ p.nH ≤ 6 ∧ 1 ≤ p.nS ∧ p.nS ≤ 4 ∧ p.nP = p.nS) ∧ PlOk p.nP p.pl ∧ ListsOk p.nH p.LH p.vH p.nS ∧ ListsOk p.nS p.LS p.vS p.nH := of_decide_eq_true h
/-- The copy of a plan: the beginning of each list. -/
def fewP (p : PlanD) : PlanD := ⟨min p.nH 8, fun i => min (p.LH i) 9, p.vH, min p.nS 8, fun i => min (p.LS i) 9, p.vS, min p.nP 9, p.pl⟩
theorem RowOk_few {f : Nat → Int} {L k : Nat} (hk : k ≤ 8) : RowOk f (min L 9) k ↔ RowOk f L k := by
  unfold RowOk
  constructor
  · rintro ⟨h1, h2⟩
    have e : min L 9 = L := by omega
    rw [e] at h1 h2
    exact ⟨h1, h2⟩
  · rintro ⟨h1, h2⟩
    have e : min L 9 = L := by omega
    rw [e]
    exact ⟨h1, h2⟩
theorem okPlan_few {p : PlanD} : okPlan (fewP p) = okPlan p := by
  rw [Bool.eq_iff_iff]
  unfold okPlan fewP
  simp only [decide_eq_true_eq]
  constructor
  · rintro ⟨⟨h1, h2, h3, h4, h5⟩, h6, h7, h8⟩
    have e1 : min p.nH 8 = p.nH := by omega
    have e2 : min p.nS 8 = p.nS := by omega
    have e3 : min p.nP 9 = p.nP := by omega
    rw [e1, e2] at h7 h8
    rw [e3] at h6
    exact ⟨⟨by omega, by omega, by omega, by omega, by omega⟩, h6, fun i hi => (RowOk_few (by omega)).1 (h7 i hi), fun i hi => (RowOk_few (by omega)).1 (h8 i hi)⟩
  · rintro ⟨⟨h1, h2, h3, h4, h5⟩, h6, h7, h8⟩
    have e1 : min p.nH 8 = p.nH := by omega
    have e2 : min p.nS 8 = p.nS := by omega
    have e3 : min p.nP 9 = p.nP := by omega
    rw [e1, e2, e3]
    exact ⟨⟨by omega, by omega, by omega, by omega, by omega⟩, h6, fun i hi => (RowOk_few (by omega)).2 (h7 i hi), fun i hi => (RowOk_few (by omega)).2 (h8 i hi)⟩
/-- How many of the first n have s. -/
def cnt (m : Nat → Int) (s : Int) : Nat → Nat
  | 0 => 0
  | n + 1 => if m n = s then cnt m s n + 1 else cnt m s n
theorem cnt_le (m : Nat → Int) (s : Int) (n : Nat) : cnt m s n ≤ n := by
  induction n with
  | zero => exact Nat.le_refl _
  | succ n ih => simp only [cnt]; split <;> omega
/-- Hand h and shift s list each other. -/
def possB (p : PlanD) (h : Nat) (s : Int) : Bool := decide (0 ≤ idxI (p.vH h) s (p.LH h)) && decide (0 ≤ idxI (p.vS s.toNat) (h : Int) (p.LS s.toNat))
/-- One hand's part of what a matching is. -/
def matP (p : PlanD) (m : Nat → Int) (h : Nat) : Bool := decide (m h = -1) || (possB p h (m h) && decide ((cnt m (m h) p.nH : Int) ≤ p.pl (m h).toNat))
def okMat (p : PlanD) (n : Nat) (m : Nat → Int) : Bool := okPlan p && decide (n = p.nH) && allB (matP p m) p.nH
/-- x has s, and s likes h more. -/
def lessP (p : PlanD) (m : Nat → Int) (h s x : Nat) : Bool := decide (m x = (s : Int)) && decide (rkI (p.vS s) (p.LS s) (h : Int) < rkI (p.vS s) (p.LS s) (x : Int))
/-- Hand h and shift s block m. -/
def blkB (p : PlanD) (m : Nat → Int) (h s : Nat) : Bool := possB p h (s : Int) && decide (rkI (p.vH h) (p.LH h) (s : Int) < rkI (p.vH h) (p.LH h) (m h)) && (decide ((cnt m (s : Int) p.nH : Int) < p.pl s) || anyB (lessP p m h s) p.nH)
def stabB (p : PlanD) (m : Nat → Int) : Bool := allB (fun h => allB (fun s => !blkB p m h s) p.nS) p.nH
theorem idxI_bd (f : Nat → Int) (x : Int) (n : Nat) : -1 ≤ idxI f x n ∧ idxI f x n < n := by
  rcases idxI_cases f x n with ⟨e, -⟩ | ⟨k, hk, e, -⟩
  · rw [e]; omega
  · rw [e]; omega
theorem rkI_bd (f : Nat → Int) (L : Nat) (x : Int) : 0 ≤ rkI f L x ∧ rkI f L x ≤ L := by
  have := idxI_bd f x L
  unfold rkI
  split <;> omega
/-- What is listed is one of the numbers. -/
theorem RowOk.rng {f : Nat → Int} {L k : Nat} (h : RowOk f L k) {x : Int} (hx : 0 ≤ idxI f x L) : 0 ≤ x ∧ x < (k : Int) := by
  rcases idxI_cases f x L with ⟨e, -⟩ | ⟨a, ha, e, h1, -⟩
  · omega
  · have := h.2 a ha
    rw [h1] at this
    exact ⟨this.1, this.2.1⟩
end Go.Proofs.Ytiigcjcolpmafaa
