/- Better and Order, the program's and the reference's, as one answer. -/
import Derived.Test.YtocfbafcplhmiaaUzs
import Derived.Test.YtocfbafcplhmiaaUzd
namespace Go.Proofs.Ytocfbafcplhmiaa
open Go.RowKit

def lnU (r : Option (List Nat)) (n : Nat) : Nat := if r.isSome then n else 0
def erU (r : Option (List Nat)) : Int := if r.isSome then 0 else 4
def rwU (r : Option (List Nat)) : Nat → Int := rowF (r.getD [])
/-- An order, or none. -/
def AnsU (r : Option (List Nat)) (n : Nat) (w : World) (e : Ending) (w' : World) : Prop := ∃ A' c', e = .returned (.tuple #[.slice A' (lnU r n) c', .int .i64 (erU r)]) ∧ Ints w' A' (lnU r n) (rwU r) ∧ Below w.heap.size w w'
section
variable {n k cA : Nat} {L : Nat → Nat} {v : Nat → Nat → Int} {A : Option Addr} {w : World} {G : Option Addr} {q cG : Nat} {g : Nat → Nat}
theorem BetterU (h : RowsK w A k (fun i => min (L i) 7) v) (hk : k = min n 7) (hok : okS n L v = true) (hG : Ints w G q (fun p => (g p : Int))) (hq : q = n) (hcG : q ≤ cG) (hp : Pm n g) :
    Calls Try.prog 31 #[.slice A k cA, .slice G q cG] w (AnsU ((ordL (List.range n) n []).find? (btP (tO v) n g)) n w) := by
  refine (BetterF h hk hok hG hq hcG hp).mono ?_
  rintro e w' (⟨x, v', hx, rfl, hv, hb'⟩ | ⟨hx, rfl, hb'⟩)
  · obtain ⟨Aa, ca, rfl, hI, -⟩ := hv.sl1
    rw [hx]
    exact ⟨Aa, ca, rfl, hI, hb'⟩
  · rw [hx]
    exact ⟨none, 0, rfl, Ints.zero, hb'⟩
theorem OrderU (h : RowsK w A k (fun i => min (L i) 7) v) (hk : k = min n 7) (hok : okS n L v = true) (hG : Ints w G q (fun p => (g p : Int))) (hq : q = n) (hcG : q ≤ cG) (hp : Pm n g) :
    Calls Try.prog 33 #[.slice A k cA, .slice G q cG] w (AnsU ((ordL (List.range n) n []).find? (odP (tO v) n g)) n w) := by
  refine (OrderF h hk hok hG hq hcG hp).mono ?_
  rintro e w' (⟨x, v', hx, rfl, hv, hb'⟩ | ⟨hx, rfl, hb'⟩)
  · obtain ⟨Aa, ca, rfl, hI, -⟩ := hv.sl1
    rw [hx]
    exact ⟨Aa, ca, rfl, hI, hb'⟩
  · rw [hx]
    exact ⟨none, 0, rfl, Ints.zero, hb'⟩
theorem refBetterU {t : Nat → Nat → Nat} (c : Nat) (hw : Wis w A n t) (hG : Ints w G n (fun p => (g p : Int))) (hn : n ≤ 5) (ht : ∀ i, i < n → Pm n (t i)) (hp : Pm n g) :
    Calls Try.prog 43 #[.slice A n c, .slice G n cG] w (AnsU ((ordL (List.range n) n []).find? (btP t n g)) n w) := by
  refine (refBetter_any A n c t G cG g w hw hG hn ht hp.lt).mono ?_
  rintro e w' (⟨x, Aa, ca, hx, rfl, hI, hb'⟩ | ⟨hx, rfl, hb'⟩)
  · rw [hx]
    exact ⟨Aa, ca, rfl, hI, hb'⟩
  · rw [hx]
    exact ⟨none, 0, rfl, Ints.zero, hb'⟩
theorem refOrderU {t : Nat → Nat → Nat} (c : Nat) (hw : Wis w A n t) (hG : Ints w G n (fun p => (g p : Int))) (hn : n ≤ 5) (ht : ∀ i, i < n → Pm n (t i)) :
    Calls Try.prog 44 #[.slice A n c, .slice G n cG] w (AnsU ((ordL (List.range n) n []).find? (odP t n g)) n w) := by
  refine (refOrder_any A n c t G cG g w hw hG hn ht).mono ?_
  rintro e w' (⟨x, Aa, ca, hx, rfl, hI, hb'⟩ | ⟨hx, rfl, hb'⟩)
  · rw [hx]
    exact ⟨Aa, ca, rfl, hI, hb'⟩
  · rw [hx]
    exact ⟨none, 0, rfl, Ints.zero, hb'⟩
theorem lnU_le (r : Option (List Nat)) {n : Nat} (hn : n ≤ 5) : lnU r n ≤ 5 := by unfold lnU; split <;> omega
end
end Go.Proofs.Ytocfbafcplhmiaa
