/- The law's stop; -1 for what is out of reach. -/
import Derived.Test.YtclhamemlpbpiaaWf
import Derived.Test.YtclhamemlpbpiaaHb
import Derived.Test.YtclhamemlpbpiaaHu
import Derived.Test.YtclhamemlpbpiaaEq
namespace Go.Proofs.Ytclhamemlpbpiaa
open Go.RowKit

set_option maxRecDepth 1000000 in
theorem stop_any (A : Option Addr) (m c : Nat) (N x : Int) (w : World) : Lr 16 #[.agg #[.int .i64 N, .slice A m c], .int .i64 x] w (.bool (inB N x)) := by
  unfold Lr
  have e : inB N x = (decide (0 ≤ x) && decide (x < N)) := rfl
  by_cases h1 : 0 ≤ x
  · have E := Lib.hid (show inB N x = decide (x < N) by rw [e, decide_eq_true h1]; rfl)
    clear e
    go_enter Try.func16, Try.ntmps16
    go_wp2
    go_ret
    exact ⟨ret_bool E.out.symm, (Below.refl _ _).alloc (Nat.le_refl _) _⟩
  · have E := Lib.hid (show inB N x = false by rw [e, decide_eq_false h1]; rfl)
    clear e
    go_enter Try.func16, Try.ntmps16
    go_wp2
    go_ret
    exact ⟨ret_bool E.out.symm, (Below.refl _ _).alloc (Nat.le_refl _) _⟩
theorem eqB_self (n : Nat) (f : Nat → Int) : eqB n n f f = true := by
  simp only [eqB, decide_true, Bool.true_and]
  exact allB_t (fun g _ => by simp [eqP])
theorem has_dOf {n m : Nat} {F : Nat → Nat → Int} (hok : okM n m F = true) (a : Nat) : hasB (fun b => dOf (dsT n m F (8 * a + b))) (-1) n = hasB (fun b => dsT n m F (8 * a + b)) 400 n := by
  have hB := dsT_bd hok
  rw [Bool.eq_iff_iff, hasW_iff, hasW_iff]
  constructor
  · rintro ⟨j, hj, e⟩
    refine ⟨j, hj, ?_⟩
    have h1 := hB (8 * a + j)
    have e : dOf (dsT n m F (8 * a + j)) = -1 := e
    unfold dOf at e
    by_cases h : dsT n m F (8 * a + j) = 400
    · exact h
    · rw [if_neg h] at e
      omega
  · rintro ⟨j, hj, e⟩
    refine ⟨j, hj, ?_⟩
    have e : dsT n m F (8 * a + j) = 400 := e
    show dOf (dsT n m F (8 * a + j)) = -1
    unfold dOf
    rw [if_pos e]
theorem dOf_all {n m : Nat} {F : Nat → Nat → Int} {a : Nat} (h : hasB (fun b => dsT n m F (8 * a + b)) 400 n = false) : ∀ b, b < n → dsT n m F (8 * a + b) = dOf (dsT n m F (8 * a + b)) := fun b hb => by
  unfold dOf
  rw [if_neg]
  intro e
  have : hasB (fun b => dsT n m F (8 * a + b)) 400 n = true := hasW_iff.2 ⟨b, hb, e⟩
  rw [h] at this
  cases this
end Go.Proofs.Ytclhamemlpbpiaa
