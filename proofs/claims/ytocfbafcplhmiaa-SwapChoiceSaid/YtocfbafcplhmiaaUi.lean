/- Trading: what the laws ask of it. -/
import Derived.Test.YtocfbafcplhmiaaUh
namespace Go.Proofs.Ytocfbafcplhmiaa
open Go.RowKit

theorem wsh_of {n : Nat} {L : Nat → Nat} {v : Nat → Nat → Int} (hok : okS n L v = true) : Wsh n (tO v) (owF (fun k => k) n) := ⟨(okS_pm hok).2.2.1, owF_pm (pm_id n)⟩
theorem trV_lt {n : Nat} {L : Nat → Nat} {v : Nat → Nat → Int} (hok : okS n L v = true) {i : Nat} (hi : i < n) : trV v n i < n := (trF_pm (wsh_of hok)).lt i hi
/-- What someone gets: its place in their list, and who leaves when. -/
theorem trV_at {n : Nat} {L : Nat → Nat} {v : Nat → Nat → Int} (hok : okS n L v = true) {i : Nat} (hi : i < n) :
    ∃ k, k < n ∧ v i k = (trV v n i : Int) ∧ idxI (v i) (trV v n i : Int) n = (k : Int) ∧ rnV v n (trV v n i) = rnV v n i ∧ ∀ q, q < k → tO v i q < n ∧ v i q = (tO v i q : Int) ∧ rnV v n (tO v i q) < rnV v n i := by
  obtain ⟨h1, h2, h3, h4⟩ := okS_pm hok
  obtain ⟨k, hk, e, hlt, hr, hb⟩ := gets_at (wsh_of hok) hi
  have hO : Ord n (v i) := ((okS_iff.1 hok).2 i hi).2
  have htk := (h3 i hi).lt k hk
  rw [owF_id htk] at hr hlt
  have e1 : v i k = (trV v n i : Int) := by rw [h4 i k hi hk]; exact congrArg (fun x : Nat => (x : Int)) e.symm
  refine ⟨k, hk, e1, ?_, ?_, fun q hq => ?_⟩
  · exact idxI_some (fun j hj e2 => hO.inj j k hj hk (e2.trans e1.symm)) e1 n hk
  · show rnF (tO v) n (owF (fun k => k) n) (trF (tO v) n (owF (fun k => k) n) i) = _
    rw [e]
    exact hr
  · have htq := (h3 i hi).lt q (by omega)
    have := hb q hq
    rw [owF_id htq] at this
    exact ⟨htq, h4 i q hi (by omega), this⟩
theorem trV_own {n : Nat} {L : Nat → Nat} {v : Nat → Nat → Int} (hok : okS n L v = true) {i : Nat} (hi : i < n) :
    ∃ k1 k2 : Nat, idxI (v i) (trV v n i : Int) n = (k1 : Int) ∧ idxI (v i) (i : Int) n = (k2 : Int) ∧ k1 ≤ k2 := by
  obtain ⟨k, hk, e1, e2, hr, hb⟩ := trV_at hok hi
  have hO : Ord n (v i) := ((okS_iff.1 hok).2 i hi).2
  obtain ⟨k2, hk2, e3, e4, -⟩ := hO.place hi
  refine ⟨k, k2, e2, e4, ?_⟩
  rcases Nat.lt_or_ge k2 k with hl | hl
  · obtain ⟨q1, q2, q3⟩ := hb k2 hl
    rw [e3] at q2
    have : i = tO v i k2 := Int.ofNat.inj q2
    rw [← this] at q3
    omega
  · exact hl
theorem rnV_ex {n : Nat} {L : Nat → Nat} {v : Nat → Nat → Int} (hok : okS n L v = true) {p q : Nat} (hp : p < n) (hq : q ≤ rnV v n p) : ∃ j, j < n ∧ rnV v n j = q := round_ex (wsh_of hok) hp hq
theorem rnV_lt {n : Nat} {L : Nat → Nat} {v : Nat → Nat → Int} (hok : okS n L v = true) {p : Nat} (hp : p < n) : rnV v n p < n := (goes_at (wsh_of hok) hp).2.2
end Go.Proofs.Ytocfbafcplhmiaa
