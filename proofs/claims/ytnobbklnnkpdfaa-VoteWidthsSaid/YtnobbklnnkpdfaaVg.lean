/- Margins and Best of what Few leaves. -/
import Derived.Test.YtnobbklnnkpdfaaVf1
import Derived.Test.YtnobbklnnkpdfaaAk
namespace Go.Proofs.Ytnobbklnnkpdfaa
open Go.RowKit

theorem OwnR.rowsKc {w : World} {base n : Nat} {x : Value} {L : Nat → Nat} {v : Nat → Nat → Int} (h : OwnR w base x n L v) : ∃ A c, x = .slice A n c ∧ RowsK w A n L v ∧ n ≤ c := by
  obtain ⟨A, c, e, h1⟩ := h.rowsK
  obtain ⟨A', c', e', -, h2⟩ := h.rows
  rw [e] at e'
  injection e' with e1 e2 e3
  subst e1 e3
  exact ⟨A, c, e, h1, h2⟩
theorem Rows2.congrV {w : World} {A : Option Addr} {n : Nat} {L : Nat → Nat} {v v' : Nat → Nat → Int} (h : Rows2 w A n L v) (e : ∀ i k, i < n → k < L i → v i k = v' i k) : Rows2 w A n L v' := fun hn => by
  obtain ⟨b, o, hA, hc⟩ := h hn
  refine ⟨b, o, hA, fun i hi => ?_⟩
  obtain ⟨A', c', h1, h2⟩ := hc i hi
  exact ⟨A', c', h1, h2.congr (fun k hk => e i k hi hk)⟩
theorem bal_few {n : Nat} {L : Nat → Nat} {v : Nat → Nat → Int} (hok : okBal n L v = true) : min n 11 = n ∧ min (L 0) 11 = L 0 ∧ ∀ i, i < n → min (L i) 11 = L i := by
  obtain ⟨h1, h2, h3⟩ := okBal_iff.1 hok
  exact ⟨by omega, by omega, fun i hi => by have := (h3 i hi).1; omega⟩
theorem mAll_anti {n : Nat} {L : Nat → Nat} {v : Nat → Nat → Int} (hok : okBal n L v = true) : Anti (mAll v (L 0) n) (L 0) := by
  obtain ⟨h1, h2, h3⟩ := okBal_iff.1 hok
  intro a b ha hb
  rw [mAll_at (by omega) ha hb n (fun i hi => (h3 i hi).2), mAll_at (by omega) hb ha n (fun i hi => (h3 i hi).2), mrg_anti]
theorem MarginsF {n : Nat} {L : Nat → Nat} {v : Nat → Nat → Int} {A : Option Addr} {k cA : Nat} {w : World} (h : RowsK w A k (fun i => min (L i) 11) v) (hk : k = min n 11) (hA : k ≤ cA) (hok : okBal n L v = true) :
    Calls Try.prog 20 #[.slice A k cA] w fun e w' => ∃ A' c', e = .returned (.tuple #[.slice A' (L 0) c', .int .i64 0]) ∧ Rows2 w' A' (L 0) (fun _ => L 0) (fun a b => mrg v (L 0) a b n) ∧ Below w.heap.size w w' := by
  subst hk
  obtain ⟨h1, h2, h3⟩ := okBal_iff.1 hok
  obtain ⟨e1, e2, e3⟩ := bal_few hok
  refine (Margins_ok A (min n 11) cA (fun i => min (L i) 11) v w h (by rw [okBal_few]; exact hok) hA).mono ?_
  rintro e w' ⟨x, rfl, hx, hb⟩
  obtain ⟨A', c', rfl, hr, -⟩ := hx.rows
  refine ⟨A', c', by simp only [e2], ?_, hb⟩
  have hr' : Rows2 w' A' (L 0) (fun _ => L 0) (fun a b => mAll v (L 0) n (5 * a + b)) := by
    have := hr
    simp only [e1, e2] at this
    exact this
  exact hr'.congrV (fun a b ha hb => mAll_at (by omega) ha hb n (fun i hi => (h3 i hi).2))
theorem MarginsFbad {n : Nat} {L : Nat → Nat} {v : Nat → Nat → Int} {A : Option Addr} {k cA : Nat} {w : World} (h : RowsK w A k (fun i => min (L i) 11) v) (hk : k = min n 11) (hok : okBal n L v = false) :
    Lr 20 #[.slice A k cA] w (.tuple #[.slice none 0 0, .int .i64 2]) := by
  subst hk
  exact Margins_bad A (min n 11) cA (fun i => min (L i) 11) v w h (by rw [okBal_few]; exact hok) (by omega) (fun i hi => by show min (L i) 11 ≤ 1000; omega)
theorem BestF {n s0 : Nat} {L : Nat → Nat} {v : Nat → Nat → Int} {A : Option Addr} {k cA : Nat} {w : World} (h : RowsK w A k (fun i => min (L i) 11) v) (hk : k = min n 11) (hA : k ≤ cA) (hok : okBal n L v = true) (hs : IsBst (mAll v (L 0) n) (L 0) s0) :
    Lr 31 #[.slice A k cA] w (.tuple #[.int .i64 s0, .int .i64 0]) := by
  subst hk
  obtain ⟨e1, e2, e3⟩ := bal_few hok
  exact Best_ok A (min n 11) cA s0 (fun i => min (L i) 11) v w h (by rw [okBal_few]; exact hok) hA (by simp only [e1, e2]; exact hs)
theorem BestFbad {n : Nat} {L : Nat → Nat} {v : Nat → Nat → Int} {A : Option Addr} {k cA : Nat} {w : World} (h : RowsK w A k (fun i => min (L i) 11) v) (hk : k = min n 11) (hok : okBal n L v = false) :
    Lr 31 #[.slice A k cA] w (.tuple #[.int .i64 0, .int .i64 2]) := by
  subst hk
  exact Best_bad A (min n 11) cA (fun i => min (L i) 11) v w h (by rw [okBal_few]; exact hok) (by omega) (fun i hi => by show min (L i) 11 ≤ 1000; omega)
theorem FewF (A : Option Addr) (n c : Nat) (L : Nat → Nat) (v : Nat → Nat → Int) (w : World) (h : ArgR w A n c L v) :
    Calls Try.prog 11 #[.slice A n c] w fun e w' => ∃ A' k c', e = .returned (.slice A' k c') ∧ k = min n 11 ∧ RowsK w' A' k (fun i => min (L i) 11) v ∧ k ≤ c' ∧ Below w.heap.size w w' := by
  refine (fewS_any A n c L v w h).mono ?_
  rintro e w' ⟨x, rfl, hx, hb⟩
  obtain ⟨A', c', rfl, h1, h2⟩ := hx.own.rowsKc
  exact ⟨A', _, c', rfl, rfl, h1, h2, hb⟩
end Go.Proofs.Ytnobbklnnkpdfaa
