/- Ballots that are valid, as the program finds them. -/
import Derived.Test.YtocfbafcplhmiaaFw
import Derived.Test.YtocfbafcplhmiaaBs
import Derived.Deep.DeepCutAuto
namespace Go.Proofs.Ytocfbafcplhmiaa
open Go.RowKit

theorem okAt_f1 {c : Nat} {f : Nat → Int} {k : Nat} (h : f k < 0) : okAt c f k = false := by
  unfold okAt
  rw [decide_eq_false (by omega)]
  rfl
theorem okAt_f2 {c : Nat} {f : Nat → Int} {k : Nat} (h : (c : Int) ≤ f k) : okAt c f k = false := by
  unfold okAt
  rw [decide_eq_false (p := f k < (c : Int)) (by omega), Bool.false_and, Bool.and_false]
theorem okAt_b {c : Nat} {f : Nat → Int} {k : Nat} (h0 : 0 ≤ f k) (h1 : f k < (c : Int)) : okAt c f k = !hasB f (f k) k := by
  unfold okAt
  rw [decide_eq_true h0, decide_eq_true h1, Bool.true_and, Bool.true_and]


/-- n ballots of L i places each. -/
def okBal (n : Nat) (L : Nat → Nat) (v : Nat → Nat → Int) : Bool := decide (1 ≤ n ∧ n ≤ 9) && (decide (1 ≤ L 0 ∧ L 0 ≤ 5) && allB (fun i => ordB (L 0) (L i) (v i)) n)
theorem okBal_iff {n : Nat} {L : Nat → Nat} {v : Nat → Nat → Int} : okBal n L v = true ↔ (1 ≤ n ∧ n ≤ 9) ∧ (1 ≤ L 0 ∧ L 0 ≤ 5) ∧ ∀ i, i < n → L i = L 0 ∧ Ord (L 0) (v i) := by
  unfold okBal
  rw [Bool.and_eq_true, Bool.and_eq_true, decide_eq_true_iff, decide_eq_true_iff, allB_iff]
  constructor
  · rintro ⟨h1, h2, h3⟩
    exact ⟨h1, h2, fun i hi => ordB_iff.1 (h3 i hi)⟩
  · rintro ⟨h1, h2, h3⟩
    exact ⟨h1, h2, fun i hi => ordB_iff.2 (h3 i hi)⟩
/-- Rows that are read, each of no more than its capacity. -/
def RowsK (w : World) (A : Option Addr) (n : Nat) (L : Nat → Nat) (v : Nat → Nat → Int) : Prop :=
  0 < n → ∃ b o, A = some ⟨b, o, none⟩ ∧ ∀ i, i < n → ∃ A' c', w.cell? ⟨b, o + i, none⟩ = some (.slice A' (L i) c') ∧ L i ≤ c' ∧ Ints w A' (L i) (v i)
theorem RowsK.keep {w w' : World} {A : Option Addr} {n : Nat} {L : Nat → Nat} {v : Nat → Nat → Int} (h : RowsK w A n L v) (hb : Below w.heap.size w w') : RowsK w' A n L v := fun hn => by
  obtain ⟨b, o, hA, hc⟩ := h hn
  refine ⟨b, o, hA, fun k hk => ?_⟩
  obtain ⟨A', c', h1, h2, h3⟩ := hc k hk
  exact ⟨A', c', (hb.cell (World.block_lt_of_cell? _ _ h1)).trans h1, h2, h3.keep hb⟩
theorem RowsK.dn {w w' : World} {A : Option Addr} {n : Nat} {L : Nat → Nat} {v : Nat → Nat → Int} (h : RowsK w A n L v) (hd : Dn w w') : RowsK w' A n L v := by
  obtain ⟨m, rfl⟩ := hd
  exact h
theorem RowsK.at {w : World} {A : Option Addr} {n : Nat} {L : Nat → Nat} {v : Nat → Nat → Int} (h : RowsK w A n L v) {i : Nat} (hi : i < n) :
    ∃ b o A' c', A = some ⟨b, o, none⟩ ∧ w.cell? ⟨b, o + i, none⟩ = some (.slice A' (L i) c') ∧ L i ≤ c' ∧ Ints w A' (L i) (v i) := by
  obtain ⟨b, o, hA, hc⟩ := h (by omega)
  obtain ⟨A', c', h1, h2, h3⟩ := hc i hi
  exact ⟨b, o, A', c', hA, h1, h2, h3⟩
theorem RowsK.cell0 {w : World} {b o : Nat} {n : Nat} {L : Nat → Nat} {v : Nat → Nat → Int} (h : RowsK w (some ⟨b, o, none⟩) n L v) (hi : 0 < n) : ∃ A' c', w.cell? ⟨b, o, none⟩ = some (.slice A' (L 0) c') := by
  obtain ⟨b', o', A', c', e, h1, h2, h3⟩ := h.at hi
  injection e with e
  injection e with e1 e2
  subst e1 e2
  exact ⟨A', c', h1⟩
theorem OwnR.rowsK {w : World} {base n : Nat} {x : Value} {L : Nat → Nat} {v : Nat → Nat → Int} (h : OwnR w base x n L v) : ∃ A c, x = .slice A n c ∧ RowsK w A n L v := by
  obtain ⟨vals, hl, ho, hv⟩ := h
  have h0 := ho
  rcases h0.2 with ⟨rfl, hn⟩ | ⟨g, cap, cur, rfl, hg, hh, hnc, hcm, hcs, ht⟩
  · exact ⟨none, 0, by rw [hn], fun h => absurd h (by omega)⟩
  · refine ⟨some ⟨g, 0, none⟩, cap, rfl, fun hp => ⟨g, 0, rfl, fun k hk => ?_⟩⟩
    have hx : vals[k]? = some vals[k] := List.getElem?_eq_getElem (by omega)
    obtain ⟨A', c', e, -, hI, -, hcap⟩ := (hv k _ hx).form
    rw [lst_len] at e hI hcap
    refine ⟨A', c', ?_, hcap, hI.congr fun j hj => lst_getD _ _ _ hj⟩
    rw [Nat.zero_add, World.ownsRow.cellAt ho k (by omega), hx, e]

end Go.Proofs.Ytocfbafcplhmiaa
