/- Axis of what Few leaves. -/
import Derived.Test.YtnobbklnnkpdfaaAz2
import Derived.Test.YtnobbklnnkpdfaaWi
namespace Go.Proofs.Ytnobbklnnkpdfaa
open Go.RowKit

theorem pkB_few {n : Nat} {L : Nat → Nat} {v : Nat → Nat → Int} (hok : okBal n L v = true) (o : Nat → Int) (c : Nat) : pkB (min n 11) (fun i => min (L i) 11) v o c = pkB n L v o c := by
  obtain ⟨e1, e2, e3⟩ := bal_few hok
  rw [e1]
  exact allB_congr (fun k _ => allB_congr (fun x _ => allB_congr (fun q _ => allB_congr (fun i hi => by simp only [e3 i hi]))))
theorem axF_few {n : Nat} {L : Nat → Nat} {v : Nat → Nat → Int} (hok : okBal n L v = true) (T : List Nat) : axF (min n 11) (fun i => min (L i) 11) v T = axF n L v T := by
  unfold axF
  congr 1
  funext x
  exact pkB_few hok _ _
theorem axF_some {n : Nat} {L : Nat → Nat} {v : Nat → Nat → Int} {c : Nat} {x : List Nat} (h : axF n L v (List.range c) = some x) : Ord c (rowF x) ∧ pkB n L v (rowF x) c = true := by
  unfold axF at h
  rw [List.length_range] at h
  have h1 := List.find?_some h
  have h2 := List.mem_of_find?_eq_some h
  exact ⟨(ord_of_mem h2).2, h1⟩
theorem AxisF {n : Nat} {L : Nat → Nat} {v : Nat → Nat → Int} {A : Option Addr} {k cA : Nat} {w : World} (h : RowsK w A k (fun i => min (L i) 11) v) (hk : k = min n 11) (hA : k ≤ cA) (hok : okBal n L v = true) :
    Calls Try.prog 27 #[.slice A k cA] w fun e w' => (∃ g x, axF n L v (List.range (L 0)) = some x ∧ e = .returned (.tuple #[.slice (some ⟨g, 0, none⟩) (L 0) (L 0), .int .i64 0]) ∧ w.heap.size ≤ g ∧ RowI w' g (L 0) (rowF x) ∧ Below w.heap.size w w') ∨
      (axF n L v (List.range (L 0)) = none ∧ e = .returned (.tuple #[.slice none 0 0, .int .i64 4]) ∧ Below w.heap.size w w') := by
  subst hk
  obtain ⟨e1, e2, e3⟩ := bal_few hok
  have := Axis_ok A (min n 11) cA (fun i => min (L i) 11) v w h (by rw [okBal_few]; exact hok) hA
  simp only [axF_few hok, e2] at this
  exact this
theorem AxisFbad {n : Nat} {L : Nat → Nat} {v : Nat → Nat → Int} {A : Option Addr} {k cA : Nat} {w : World} (h : RowsK w A k (fun i => min (L i) 11) v) (hk : k = min n 11) (hok : okBal n L v = false) :
    Lr 27 #[.slice A k cA] w (.tuple #[.slice none 0 0, .int .i64 2]) := by
  subst hk
  exact Axis_bad A (min n 11) cA (fun i => min (L i) 11) v w h (by rw [okBal_few]; exact hok) (by omega) (fun i hi => by show min (L i) 11 ≤ 1000; omega)
end Go.Proofs.Ytnobbklnnkpdfaa
