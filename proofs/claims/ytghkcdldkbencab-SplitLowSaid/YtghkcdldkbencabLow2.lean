import Derived.Test.YtghkcdldkbencabLow1
import Derived.Test.YtghkcdldkbencabLeast
import Derived.Test.YtghkcdldkbencabDig2
import Derived.Test.YtghkcdldkbencabTwoM
namespace Go.Proofs.Ytghkcdldkbencab
open Go.RowKit

theorem minTo_le (f : Nat → Int) {n k : Nat} (hk : k < n) : minTo f n ≤ f k := by
  induction n with
  | zero => omega
  | succ n ih =>
    simp only [minTo]
    rcases Nat.lt_or_ge k n with h | h
    · have := ih h
      omega
    · obtain rfl : k = n := by omega
      omega
theorem minTo_mem {f : Nat → Int} {n : Nat} (hn : 0 < n) (hb : Bd n f 1000) : ∃ k, k < n ∧ minTo f n = f k := by
  induction n with
  | zero => omega
  | succ n ih =>
    have h1 := (hb n (by omega)).2
    simp only [minTo]
    by_cases c : minTo f n ≤ f n
    · rcases Nat.eq_zero_or_pos n with e | e
      · subst e
        simp only [minTo] at c
        omega
      · obtain ⟨k, hk, h2⟩ := ih e (fun i hi => hb i (by omega))
        exact ⟨k, by omega, by omega⟩
    · exact ⟨n, by omega, by omega⟩
theorem head_min {f : Nat → Int} {n : Nat} (hn : 0 < n) : (∃ k, k < n ∧ scoreL n f 0 = f k) ∧ ∀ k, k < n → scoreL n f 0 ≤ f k := by
  have hlen := sortL_len n f
  have hp : (sortL n f).Pairwise (fun x y => decide (x ≤ y) = true) := List.pairwise_mergeSort (by intro a b c h1 h2; simp at *; omega) (by intro a b; simp; omega) _
  have hmem : ∀ x, x ∈ sortL n f ↔ x ∈ lst n f := fun x => List.mem_mergeSort
  have hsc : scoreL n f 0 = (sortL n f).getD 0 0 := rfl
  rw [hsc]
  generalize sortL n f = l at *
  cases l with
  | nil => simp at hlen; omega
  | cons a t =>
    simp only [List.getD_cons_zero]
    have h1 : a ∈ lst n f := (hmem a).1 (by simp)
    simp only [lst, List.mem_map, List.mem_range] at h1 hmem
    obtain ⟨k, hk, e⟩ := h1
    refine ⟨⟨k, hk, e.symm⟩, fun j hj => ?_⟩
    have h2 := (hmem (f j)).2 ⟨j, hj, rfl⟩
    rcases List.mem_cons.1 h2 with e | e
    · omega
    · have := (List.pairwise_cons.1 hp).1 _ e
      simpa using this
theorem min_head {f : Nat → Int} {n : Nat} (hn : 0 < n) (hb : Bd n f 1000) : minTo f n = scoreL n f 0 := by
  obtain ⟨⟨k, hk, e⟩, h1⟩ := head_min (f := f) hn
  obtain ⟨j, hj, e'⟩ := minTo_mem hn hb
  have := h1 j hj
  have := minTo_le f hk
  omega

theorem wrt_code {n m : Nat} {d : Nat → Int} (hn : 0 < n) (ho : Own n m d) (v : Nat → Nat → Int) : ∃ i, i < n ^ m ∧ wrt v m d = wrt v m (dg n m i) := by
  obtain ⟨i, hi, h⟩ := dg_code hn m d ho
  exact ⟨i, hi, funext fun p => (wTo_congr (fun g hg => h g hg) p).symm⟩

theorem low_nash {n m : Nat} {v : Nat → Nat → Int} {d : Nat → Int} (hn : 0 < n) (ho : Own n m d) :
    cntTo (wrt v m d) n < cntTo (wrt v m (dg n m (nashI v n m))) n ∨ (cntTo (wrt v m d) n = cntTo (wrt v m (dg n m (nashI v n m))) n ∧ prodTo (wrt v m d) n ≤ prodTo (wrt v m (dg n m (nashI v n m))) n) := by
  obtain ⟨i, hi, e⟩ := wrt_code hn ho v
  rw [e]
  have h := bst_max (nashS v n m) 2 (n ^ m) i hi
  have a0 : ∀ i, nashS v n m i 0 = cntTo (wrt v m (dg n m i)) n := fun i => rfl
  have a1 : ∀ i, nashS v n m i 1 = prodTo (wrt v m (dg n m i)) n := fun i => rfl
  change ¬ LexLt (nashS v n m (nashI v n m)) _ 2 at h
  rw [← a0, ← a0, ← a1, ← a1]
  rcases Int.lt_trichotomy (nashS v n m i 0) (nashS v n m (nashI v n m) 0) with c | c | c
  · exact .inl c
  · refine .inr ⟨c, ?_⟩
    rcases Int.lt_or_le (nashS v n m (nashI v n m) 1) (nashS v n m i 1) with l | l
    · exact absurd (show LexLt (nashS v n m (nashI v n m)) (nashS v n m i) 2 from ⟨1, by omega, fun j hj => (by obtain rfl : j = 0 := (by omega); exact c.symm), l⟩) h
    · exact l
  · exact absurd ⟨0, by omega, fun j hj => absurd hj (by omega), c⟩ h
theorem low_least {n m : Nat} {v : Nat → Nat → Int} {d : Nat → Int} (hn : 0 < n) (hm : m ≤ 9) (hb : BdM n m v 100) (ho : Own n m d) :
    minTo (wrt v m d) n ≤ minTo (wrt v m (dg n m (leastI v n m))) n := by
  obtain ⟨i, hi, e⟩ := wrt_code hn ho v
  rw [e, min_head hn (wrt_bd hb hm _), min_head hn (wrt_bd hb hm _)]
  have h := bst_max (leastS v n m) n (n ^ m) i hi
  change ¬ LexLt (leastS v n m (leastI v n m)) _ n at h
  have a0 : ∀ i, leastS v n m i 0 = scoreL n (wrt v m (dg n m i)) 0 := fun i => rfl
  rw [← a0, ← a0]
  rcases Int.lt_or_le (leastS v n m (leastI v n m) 0) (leastS v n m i 0) with l | l
  · exact absurd ⟨0, hn, fun j hj => absurd hj (by omega), l⟩ h
  · exact l

theorem Nash_few (A : Option Addr) (k n m c : Nat) (L : Nat → Nat) (v : Nat → Nat → Int) (w : World) (h : Rows2 w A k L v) (hn : k ≤ 9) (hL : Short k L) (hok : okVals k L v = true) (hk : k = n) (hm : L 0 = m) :
    Calls Try.prog 18 #[.slice A k c] w fun e w' => ∃ A' c', e = .returned (.tuple #[.slice A' m c', .int .i64 (prodTo (wrt v m (dg n m (nashI v n m))) n), .int .i64 0]) ∧ Ints w' A' m (dg n m (nashI v n m)) ∧ Below w.heap.size w w' := by
  subst hk hm
  refine (Nash_ok A k c L v w h hn hL hok).mono ?_
  rintro e w' ⟨vb, rfl, h1, h2⟩
  obtain ⟨A', c', rfl, hI⟩ := h1.sl0
  exact ⟨A', c', rfl, hI, h2⟩
theorem Least_few (A : Option Addr) (k n m c : Nat) (L : Nat → Nat) (v : Nat → Nat → Int) (w : World) (h : Rows2 w A k L v) (hn : k ≤ 9) (hL : Short k L) (hok : okVals k L v = true) (hk : k = n) (hm : L 0 = m) :
    Calls Try.prog 19 #[.slice A k c] w fun e w' => ∃ A' c', e = .returned (.tuple #[.slice A' m c', .int .i64 0]) ∧ Ints w' A' m (dg n m (leastI v n m)) ∧ Below w.heap.size w w' := by
  subst hk hm
  refine (Least_ok A k c L v w h hn hL hok).mono ?_
  rintro e w' ⟨vb, rfl, h1, h2⟩
  obtain ⟨A', c', rfl, hI⟩ := h1.sl0
  exact ⟨A', c', rfl, hI, h2⟩
end Go.Proofs.Ytghkcdldkbencab
