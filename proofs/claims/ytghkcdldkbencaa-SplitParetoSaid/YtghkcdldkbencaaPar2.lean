import Derived.Test.YtghkcdldkbencaaPar1
import Derived.Test.YtghkcdldkbencaaBet
import Derived.Test.YtghkcdldkbencaaOkFew
namespace Go.Proofs.Ytghkcdldkbencaa
open Go.RowKit

theorem Better_few (A D : Option Addr) (k n m c c' : Nat) (L : Nat → Nat) (v : Nat → Nat → Int) (d : Nat → Int) (w : World) (h : Rows2 w A k L v) (hd : Ints w D m d) (hn : k ≤ 9) (hL : Short k L) (hm : m ≤ 9) (hok : okDiv k L v m d = true) (hk : k = n) :
    Calls Try.prog 39 #[.slice A k c, .slice D m c'] w fun e w' => Below w.heap.size w w' ∧ ((∃ i A' c2, e = .returned (.tuple #[.slice A' m c2, .int .i64 0]) ∧ betP' n m v d i = true ∧ Ints w' A' m (dg n m i)) ∨
      (e = .returned (.tuple #[.slice none 0 0, .int .i64 4]))) := by
  subst hk
  refine (Better_ok A D k c m c' L v d w h hd hn hL hm hok).mono ?_
  rintro e w' ⟨x, fe, rfl, hb, ⟨i, -, h1, -, h2, rfl⟩ | ⟨-, rfl, rfl⟩⟩
  · obtain ⟨A', c2, rfl, hI⟩ := h2.sl0
    exact ⟨hb, .inl ⟨i, A', c2, rfl, h1, hI⟩⟩
  · exact ⟨hb, .inr rfl⟩
theorem Better_none (A D : Option Addr) (k n m c c' : Nat) (L : Nat → Nat) (v : Nat → Nat → Int) (d : Nat → Int) (w : World) (h : Rows2 w A k L v) (hd : Ints w D m d) (hn : k ≤ 9) (hL : Short k L) (hm : m ≤ 9) (hok : okDiv k L v m d = true) (hk : k = n)
    (hno : NoneLt (betP' n m v d) (n ^ m)) :
    Calls Try.prog 39 #[.slice A k c, .slice D m c'] w fun e w' => e = .returned (.tuple #[.slice none 0 0, .int .i64 4]) ∧ Below w.heap.size w w' := by
  subst hk
  refine (Better_ok A D k c m c' L v d w h hd hn hL hm hok).mono ?_
  rintro e w' ⟨x, fe, rfl, hb, ⟨i, hi, h1, -, h2, rfl⟩ | ⟨-, rfl, rfl⟩⟩
  · have := hno i hi
    rw [h1] at this
    cases this
  · exact ⟨rfl, hb⟩
theorem Nash_few (A : Option Addr) (k n m c : Nat) (L : Nat → Nat) (v : Nat → Nat → Int) (w : World) (h : Rows2 w A k L v) (hn : k ≤ 9) (hL : Short k L) (hok : okVals k L v = true) (hk : k = n) (hm : L 0 = m) :
    Calls Try.prog 35 #[.slice A k c] w fun e w' => ∃ A' c', e = .returned (.tuple #[.slice A' m c', .int .i64 (prodTo (wrt v m (dg n m (nashI v n m))) n), .int .i64 0]) ∧ Ints w' A' m (dg n m (nashI v n m)) ∧ Below w.heap.size w w' := by
  subst hk hm
  refine (Nash_ok A k c L v w h hn hL hok).mono ?_
  rintro e w' ⟨vb, rfl, h1, h2⟩
  obtain ⟨A', c', rfl, hI⟩ := h1.sl0
  exact ⟨A', c', rfl, hI, h2⟩
theorem Least_few (A : Option Addr) (k n m c : Nat) (L : Nat → Nat) (v : Nat → Nat → Int) (w : World) (h : Rows2 w A k L v) (hn : k ≤ 9) (hL : Short k L) (hok : okVals k L v = true) (hk : k = n) (hm : L 0 = m) :
    Calls Try.prog 36 #[.slice A k c] w fun e w' => ∃ A' c', e = .returned (.tuple #[.slice A' m c', .int .i64 0]) ∧ Ints w' A' m (dg n m (leastI v n m)) ∧ Below w.heap.size w w' := by
  subst hk hm
  refine (Least_ok A k c L v w h hn hL hok).mono ?_
  rintro e w' ⟨vb, rfl, h1, h2⟩
  obtain ⟨A', c', rfl, hI⟩ := h1.sl0
  exact ⟨A', c', rfl, hI, h2⟩

theorem wrt_700 {v : Nat → Nat → Int} {n m : Nat} (hb : BdM n m v 100) (hm : m ≤ 7) (d : Nat → Int) : Bd n (wrt v m d) 700 := fun p hp => by
  obtain ⟨h1, h2⟩ := wTo_bd (hb p hp) d p m (Nat.le_refl _)
  obtain ⟨h3, h4⟩ := sumTo_bd (hb p hp) m (Nat.le_refl _)
  unfold wrt
  exact ⟨h1, by omega⟩
/-- What all have together. -/
def tot (v : Nat → Nat → Int) (n m : Nat) (d : Nat → Int) : Int := sumTo (wrt v m d) n
theorem tot_bd {v : Nat → Nat → Int} {n m : Nat} (hb : BdM n m v 100) (hm : m ≤ 7) (hn : n ≤ 4) (d : Nat → Int) : 0 ≤ tot v n m d ∧ tot v n m d ≤ 2800 := by
  have := sumTo_bd (wrt_700 hb hm d) n (Nat.le_refl _)
  unfold tot
  omega
theorem sumTo_le {f g : Nat → Int} {n : Nat} (h : ∀ i, i < n → g i ≤ f i) : sumTo g n ≤ sumTo f n ∧ ((∃ i, i < n ∧ g i < f i) → sumTo g n < sumTo f n) := by
  induction n with
  | zero => exact ⟨by simp [sumTo], fun ⟨i, hi, _⟩ => absurd hi (by omega)⟩
  | succ n ih =>
    obtain ⟨h1, h2⟩ := ih (fun i hi => h i (by omega))
    have := h n (by omega)
    simp only [sumTo]
    refine ⟨by omega, ?_⟩
    rintro ⟨i, hi, l⟩
    rcases Nat.lt_or_ge i n with hl | hl
    · have := h2 ⟨i, hl, l⟩
      omega
    · obtain rfl : i = n := by omega
      omega
theorem betP_tot {v : Nat → Nat → Int} {n m i : Nat} {d : Nat → Int} (h : betP' n m v d i = true) : (∀ j, j < n → wrt v m d j ≤ wrt v m (dg n m i) j) ∧ tot v n m d + 1 ≤ tot v n m (dg n m i) := by
  obtain ⟨h1, h2⟩ := impB_iff.1 h
  have := (sumTo_le h1).2 h2
  exact ⟨h1, by unfold tot; omega⟩
end Go.Proofs.Ytghkcdldkbencaa
