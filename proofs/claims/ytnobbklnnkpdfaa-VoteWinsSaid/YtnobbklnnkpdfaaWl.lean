/- The winner by each rule. -/
import Derived.Test.YtnobbklnnkpdfaaBd
import Derived.Test.YtnobbklnnkpdfaaBo
namespace Go.Proofs.Ytnobbklnnkpdfaa
open Go.RowKit

/-- The least place of a greatest one. -/
def topF (f : Nat → Int) : Nat → Nat
  | 0 => 0
  | c + 1 => if f (topF f c) < f c then c else topF f c
theorem topF_top (f : Nat → Int) : ∀ c, 1 ≤ c → IsTop f c (topF f c) := by
  intro c
  induction c with
  | zero => intro h; omega
  | succ c ih =>
    intro _
    rcases Nat.eq_zero_or_pos c with h0 | h0
    · subst h0
      have e : topF f 1 = 0 := by
        show (if f 0 < f 0 then 0 else 0) = 0
        split <;> rfl
      rw [e]
      exact ⟨by omega, fun j hj => by rw [show j = 0 by omega]; exact Int.le_refl _, fun j hj => absurd hj (by omega)⟩
    · obtain ⟨h1, h2, h3⟩ := ih h0
      show IsTop f (c + 1) (if f (topF f c) < f c then c else topF f c)
      by_cases h : f (topF f c) < f c
      · rw [if_pos h]
        exact ⟨by omega, fun j hj => by
          by_cases e : j = c
          · rw [e]; exact Int.le_refl _
          · have := h2 j (by omega); omega, fun j hj => by have := h2 j hj; omega⟩
      · rw [if_neg h]
        exact ⟨by omega, fun j hj => by
          by_cases e : j = c
          · rw [e]; omega
          · exact h2 j (by omega), h3⟩
/-- The first below c. -/
def fstF (p : Nat → Bool) : Nat → Nat → Nat
  | 0, k => k
  | s + 1, k => if p k then k else fstF p s (k + 1)
theorem fstF_spec (p : Nat → Bool) : ∀ s k, (∃ j, k ≤ j ∧ j < k + s ∧ p j = true) → fstF p s k < k + s ∧ k ≤ fstF p s k ∧ p (fstF p s k) = true ∧ ∀ j, k ≤ j → j < fstF p s k → p j = false := by
  intro s
  induction s with
  | zero => rintro k ⟨j, h1, h2, -⟩; omega
  | succ s ih =>
    rintro k ⟨j, h1, h2, h3⟩
    show (if p k then k else fstF p s (k + 1)) < _ ∧ _ ≤ (if p k then k else fstF p s (k + 1)) ∧ p (if p k then k else fstF p s (k + 1)) = true ∧ ∀ j, k ≤ j → j < (if p k then k else fstF p s (k + 1)) → p j = false
    cases hp : p k with
    | true => simp only [if_true]; exact ⟨by omega, Nat.le_refl _, hp, fun j a b => by omega⟩
    | false =>
      simp only [Bool.false_eq_true, if_false]
      have hjk : j ≠ k := fun e => by rw [e, hp] at h3; cases h3
      obtain ⟨i1, i2, i3, i4⟩ := ih (k + 1) ⟨j, by omega, by omega, h3⟩
      refine ⟨by omega, by omega, i3, fun i a b => ?_⟩
      by_cases e : i = k
      · rw [e]; exact hp
      · exact i4 i (by omega) b
/-- The winner. -/
def winF (r n c : Nat) (v : Nat → Nat → Int) : Nat :=
  if r = 0 then topF (fun x => (fpN v x n : Int)) c else if r = 1 then topF (fun x => bdN v c x n) c else if r = 2 then fstF (strB (wT c (mAll v c n) c) c) c 0 else (rowF (kemL n (mAll v c n) c) 0).toNat
def ruleN (r : Nat) : Nat := if r = 0 then 63 else if r = 1 then 64 else if r = 2 then 65 else 66
theorem kem0 {n c : Nat} {T : Nat → Int} (hc : 1 ≤ c) : 0 ≤ rowF (kemL n T c) 0 ∧ rowF (kemL n T c) 0 < c := (ord_of_mem (kem_mem n T c)).2.rng 0 hc
theorem winF_lt {r n c : Nat} {L : Nat → Nat} {v : Nat → Nat → Int} (hok : okBal n L v = true) (hc : c = L 0) : winF r n c v < c := by
  subst hc
  obtain ⟨⟨hn1, hn9⟩, ⟨hc1, hc5⟩, hO⟩ := okBal_iff.1 hok
  unfold winF
  split
  · exact (topF_top _ _ hc1).1
  · split
    · exact (topF_top _ _ hc1).1
    · split
      · obtain ⟨k0, hk0, hst, -⟩ := str_exists hc1 (wT_cls (T := mAll v (L 0) n) hc5 (mAll_dia hok) (L 0) (Nat.le_refl _))
        have := (fstF_spec (strB (wT (L 0) (mAll v (L 0) n) (L 0)) (L 0)) (L 0) 0 ⟨k0, by omega, by omega, hst⟩).1
        omega
      · have := kem0 (n := n) (T := mAll v (L 0) n) hc1
        omega
theorem rule_any (r : Nat) (hr : r < 4) (A : Option Addr) (n cA c : Nat) (L : Nat → Nat) (v : Nat → Nat → Int) (w : World) (h : RowsK w A n L v) (hok : okBal n L v = true) (hc : c = L 0) :
    Lr (ruleN r) #[.agg (pollL A n cA c (mAll v c n)).toArray] w (.int .i64 (winF r n c v)) := by
  subst hc
  obtain ⟨⟨hn1, hn9⟩, ⟨hc1, hc5⟩, hO⟩ := okBal_iff.1 hok
  obtain rfl | rfl | rfl | rfl : r = 0 ∨ r = 1 ∨ r = 2 ∨ r = 3 := by omega
  · exact byFirst_top A n cA (L 0) _ (mAll v (L 0) n) L v w h hok rfl (topF_top _ _ hc1)
  · exact byBorda_top A n cA (L 0) _ (mAll v (L 0) n) L v w h hok rfl (topF_top _ _ hc1)
  · obtain ⟨k0, hk0, hst, -⟩ := str_exists hc1 (wT_cls (T := mAll v (L 0) n) hc5 (mAll_dia hok) (L 0) (Nat.le_refl _))
    obtain ⟨h1, h2, h3, h4⟩ := fstF_spec (strB (wT (L 0) (mAll v (L 0) n) (L 0)) (L 0)) (L 0) 0 ⟨k0, by omega, by omega, hst⟩
    exact byPaths_any A n cA (L 0) _ (mAll v (L 0) n) hc5 (by omega) h3 (fun a ha => h4 a (by omega) ha) w
  · have h := byOrder_any A n cA (L 0) (mAll v (L 0) n) hc1 hc5 hn9 (bal_bd hok) w
    have h0 := kem0 (n := n) (T := mAll v (L 0) n) hc1
    have e : (((rowF (kemL n (mAll v (L 0) n) (L 0)) 0).toNat : Nat) : Int) = rowF (kemL n (mAll v (L 0) n) (L 0)) 0 := by omega
    show Lr _ _ _ (.int .i64 (((rowF (kemL n (mAll v (L 0) n) (L 0)) 0).toNat : Nat) : Int))
    rw [e]
    exact h
end Go.Proofs.Ytnobbklnnkpdfaa
