/- A row of owned rows is replaced. -/
import Derived.Test.YtnobbklnnkpdfaaFw
import Derived.Test.YtnobbklnnkpdfaaLv
namespace Go.Proofs.Ytnobbklnnkpdfaa
open Go.RowKit

theorem OwnS.put {w : World} {base n : Nat} {x : Value} {L : Nat → Nat} {v : Nat → Nat → Int} (h : OwnS w base x n L v) {p : Nat} (hp : p < n) {y : Value} {m : Nat} {f : Nat → Int} (hy : OwnL w base y (lst m f)) :
    ∃ (G c : Nat) (z : Value), x = .slice (some ⟨G, 0, none⟩) n c ∧ w.cell? ⟨G, p, none⟩ = some z ∧ w.frozen? ⟨G, p, none⟩ = false ∧ base ≤ G ∧ n ≤ c ∧ OwnR (w.setCell ⟨G, p, none⟩ y) base x n (fun i => if i = p then m else L i) (fun i => if i = p then f else v i) := by
  obtain ⟨vals, hl, hown, hv, -⟩ := h
  have hown0 := hown
  rcases hown0.2 with ⟨-, h0⟩ | ⟨G, c, cur, rfl, hb, -, hnc, -⟩
  · omega
  have hc := World.ownsRow.cellAt hown p (by omega)
  obtain ⟨hst, hg⟩ := World.ownsRow.stored hown p y
  refine ⟨G, c, _, rfl, by rw [hc]; exact List.getElem?_eq_getElem (by omega), World.ownsRow.frozenAt hown p, hb, hnc, vals.set p y, by simp [hl], hst, fun i z hz => ?_⟩
  by_cases e : i = p
  · subst e
    rw [List.getElem?_set_self (by omega)] at hz
    injection hz with hz
    subst hz
    simp only [if_true]
    exact World.ownsRow.kept hy hg (own_other hy hown (by decide))
  · rw [List.getElem?_set_ne (fun h => e h.symm)] at hz
    simp only [if_neg e]
    exact World.ownsRow.kept (hv i z hz) hg (own_other (hv i z hz) hown (by decide))
theorem OwnR.argn {w : World} {base n c : Nat} {A : Option Addr} {L : Nat → Nat} {v : Nat → Nat → Int} (h : OwnR w base (.slice A n c) n L v) (hn : n ≤ 17592186044416) : ArgR w A n n L v := by
  obtain ⟨vals, hl, hown, hv⟩ := h
  have hown0 := hown
  rcases hown0.2 with ⟨e, h0⟩ | ⟨G, c', cur, e, hb, -, hnc, -⟩
  · exact ⟨Nat.le_refl _, hn, fun _ => h0, fun h => absurd h (by omega)⟩
  · injection e with e1 e2 e3
    subst e1
    refine ⟨Nat.le_refl _, hn, (fun e => by cases e), fun _ => ⟨G, 0, rfl, fun i hi => ?_⟩⟩
    obtain ⟨r, hr⟩ : ∃ r, vals[i]? = some r := ⟨_, List.getElem?_eq_getElem (by omega)⟩
    have hc := World.ownsRow.cellAt hown i (by omega)
    rw [hr] at hc
    have hrow := hv i r hr
    rcases hrow.2 with ⟨rfl, h0⟩ | ⟨blk, cap, cur2, rfl, hbb, hh, hnc2, hcm2, -⟩
    · rw [lst_len] at h0
      refine ⟨none, 0, by rw [Nat.zero_add, hc, h0], by omega, by unfold maxLen; omega, fun _ => rfl, by rw [h0]; exact Ints.zero⟩
    · obtain ⟨A', cA, e4, hI⟩ := OwnL.sl0 hrow
      injection e4 with e4 e5 e6
      rw [lst_len] at hc hnc2
      exact ⟨_, cap, by rw [Nat.zero_add]; exact hc, hnc2, hcm2, (fun e => by cases e), by rw [e4]; exact hI⟩
end Go.Proofs.Ytnobbklnnkpdfaa
