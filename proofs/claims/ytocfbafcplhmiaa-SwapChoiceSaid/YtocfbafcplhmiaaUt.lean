/- Objects of what few leaves. -/
import Derived.Test.YtocfbafcplhmiaaUs
namespace Go.Proofs.Ytocfbafcplhmiaa
open Go.RowKit

theorem OwnL.sl1 {w : World} {base : Nat} {v : Value} {n : Nat} {f : Nat → Int} (h : OwnL w base v (lst n f)) : ∃ A c, v = .slice A n c ∧ Ints w A n f ∧ n ≤ c := by
  obtain ⟨A, c, e, hA, hI, -, hc⟩ := h.form
  rw [lst_len] at e hI hc
  exact ⟨A, c, e, hI.congr fun k hk => lst_getD _ _ _ hk, hc⟩
theorem ordB_few {n m : Nat} {f : Nat → Int} (hn : n ≤ 5) : ordB n (min m 7) f = ordB n m f := by
  rw [Bool.eq_iff_iff, ordB_iff, ordB_iff]
  constructor <;> (rintro ⟨h1, h2⟩; exact ⟨by omega, h2⟩)
/-- An order as numbers. -/
def fO (f : Nat → Int) : Nat → Nat := fun i => (f i).toNat
theorem ordB_pm {n m : Nat} {f : Nat → Int} (h : ordB n m f = true) : m = n ∧ Pm n (fO f) ∧ ∀ i, i < n → f i = (fO f i : Int) := by
  obtain ⟨h1, h2⟩ := ordB_iff.1 h
  have h3 : ∀ i, i < n → f i = (fO f i : Int) := fun i hi => by
    have := h2.rng i hi
    unfold fO
    omega
  refine ⟨h1, ⟨fun k hk => ?_, fun a b ha hb e => h2.uniq ha hb (by rw [h3 a ha, h3 b hb, e])⟩, h3⟩
  have := h2.rng k hk
  unfold fO
  omega
section
variable {n k cA : Nat} {L : Nat → Nat} {v : Nat → Nat → Int} {A : Option Addr} {w : World}
theorem ObjectsF {G : Option Addr} {q cG : Nat} {g : Nat → Nat} (h : RowsK w A k (fun i => min (L i) 7) v) (hk : k = min n 7) (hok : okS n L v = true) (hG : Ints w G q (fun p => (g p : Int))) (hq : q = n) (hcG : q ≤ cG) (hp : Pm n g) :
    Lr 30 #[.slice A k cA, .slice G q cG] w (obV (tO v) n g) := by
  obtain ⟨rfl, hw⟩ := h.wis hk hok
  obtain ⟨h1, h2, h3, h4⟩ := okS_pm hok
  subst hq
  exact Objects_ok A q cA (tO v) G cG g w hw hG hcG h1.1 h1.2 h3 hp
theorem ObjectsFbad {G : Option Addr} {q cG : Nat} (h : RowsK w A k (fun i => min (L i) 7) v) (hk : k = min n 7) (hok : okS n L v = false) :
    Lr 30 #[.slice A k cA, .slice G q cG] w (.tuple #[.int .i64 0, .int .i64 2]) := by
  subst hk
  exact Objects_bad A (min n 7) cA (fun i => min (L i) 7) v G q cG w h (by omega) (fun i hi => by show min (L i) 7 ≤ 1000; omega) (by rw [okS_few]; exact hok)
theorem ObjectsFbad2 {G : Option Addr} {m q cG : Nat} {f : Nat → Int} (h : RowsK w A k (fun i => min (L i) 7) v) (hk : k = min n 7) (hok : okS n L v = true) (hG : Ints w G q f) (hq : q = min m 7) (hqc : q ≤ cG) (hof : ordB n m f = false) :
    Lr 30 #[.slice A k cA, .slice G q cG] w (.tuple #[.int .i64 0, .int .i64 2]) := by
  have hn := (okS_pm hok).1
  have e : min n 7 = n := by omega
  subst hk hq
  refine Objects_bad2 A (min n 7) cA (fun i => min (L i) 7) v G (min m 7) cG f w h (by omega) (fun i hi => by show min (L i) 7 ≤ 1000; omega) (by rw [okS_few]; exact hok) hG (by omega) hqc ?_
  rw [e, ordB_few hn.2]
  exact hof
end
theorem obV_congr {t : Nat → Nat → Nat} {n : Nat} {g h : Nat → Nat} (_ : ∀ i, i < n → Pm n (t i)) (e : ∀ i, i < n → g i = h i) (s : Nat) : obB t n s g = obB t n s h := by
  unfold obB
  congr 1
  funext x
  unfold obP gnB gnP gnQ
  congr 1
  rw [allB_congr (q := fun p => !(inS s p && lkB t n p (h p) (rN x p))) (fun p hp => by rw [e p hp]), anyB_congr (q := fun p => inS s p && lkB t n p (rN x p) (h p)) (fun p hp => by rw [e p hp])]
theorem trV_pm {n : Nat} {L : Nat → Nat} {v : Nat → Nat → Int} (hok : okS n L v = true) : Pm n (trV v n) := trF_pm (wsh_of hok)
theorem core_law1 {n : Nat} {L : Nat → Nat} {v : Nat → Nat → Int} (hok : okS n L v = true) : obV (tO v) n (trV v n) = .tuple #[.int .i64 0, .int .i64 4] :=
  obV_none (okS_pm hok).1.2 (fun s _ => core_none (okS_pm hok).2.2.1 s)
theorem core_law2 {n : Nat} {L : Nat → Nat} {v : Nat → Nat → Int} (hok : okS n L v = true) {g : Nat → Nat} (hg : Pm n g) : ((∀ i, i < n → g i = trV v n i) ∧ obV (tO v) n g = .tuple #[.int .i64 0, .int .i64 4]) ∨ ((∃ i, i < n ∧ g i ≠ trV v n i) ∧ ∃ b : Nat, 0 < b ∧ obV (tO v) n g = .tuple #[.int .i64 b, .int .i64 0]) := by
  obtain ⟨h1, h2, h3, h4⟩ := okS_pm hok
  by_cases hx : ∃ i, i < n ∧ g i ≠ trV v n i
  · exact .inr ⟨hx, obV_some h1.2 (core_some h1.2 h3 hg hx)⟩
  · have he : ∀ i, i < n → g i = trV v n i := fun i hi => by
      apply Classical.byContradiction
      intro h
      exact hx ⟨i, hi, h⟩
    exact .inl ⟨he, obV_none h1.2 (fun s _ => by rw [obV_congr h3 he]; exact core_none h3 s)⟩
end Go.Proofs.Ytocfbafcplhmiaa
