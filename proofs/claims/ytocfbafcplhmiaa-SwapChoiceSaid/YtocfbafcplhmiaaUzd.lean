/- Better and Order by whether something is better; the law's fine. -/
import Derived.Test.YtocfbafcplhmiaaUzc
namespace Go.Proofs.Ytocfbafcplhmiaa
open Go.RowKit

section
variable {n k cA : Nat} {L : Nat → Nat} {v : Nat → Nat → Int} {A : Option Addr} {w : World} {G : Option Addr} {q cG : Nat} {g : Nat → Nat}
theorem BetterN (h : RowsK w A k (fun i => min (L i) 7) v) (hk : k = min n 7) (hok : okS n L v = true) (hG : Ints w G q (fun p => (g p : Int))) (hq : q = n) (hcG : q ≤ cG) (hp : Pm n g) (hb : NoB (tO v) n g) :
    Lr 31 #[.slice A k cA, .slice G q cG] w (.tuple #[.slice none 0 0, .int .i64 4]) := by
  obtain ⟨h1, h2, h3, h4⟩ := okS_pm hok
  refine (BetterF h hk hok hG hq hcG hp).mono ?_
  rintro e w' (⟨x, v', hx, rfl, hv, hb'⟩ | ⟨hx, rfl, hb'⟩)
  · rw [(better_none h1.2 h3 hp).2 hb] at hx
    cases hx
  · exact ⟨rfl, hb'⟩
theorem BetterS (h : RowsK w A k (fun i => min (L i) 7) v) (hk : k = min n 7) (hok : okS n L v = true) (hG : Ints w G q (fun p => (g p : Int))) (hq : q = n) (hcG : q ≤ cG) (hp : Pm n g) (hb : ¬ NoB (tO v) n g) :
    Calls Try.prog 31 #[.slice A k cA, .slice G q cG] w fun e w' => ∃ x Aa ca, e = .returned (.tuple #[.slice Aa n ca, .int .i64 0]) ∧ Ints w' Aa n (rowF x) ∧ Pm n (rN x) ∧ ((∀ i, i < n → owF (tO v i) n (rN x i) ≤ owF (tO v i) n (g i)) ∧ ∃ i, i < n ∧ owF (tO v i) n (rN x i) < owF (tO v i) n (g i)) ∧ Below w.heap.size w w' := by
  obtain ⟨h1, h2, h3, h4⟩ := okS_pm hok
  refine (BetterF h hk hok hG hq hcG hp).mono ?_
  rintro e w' (⟨x, v', hx, rfl, hv, hb'⟩ | ⟨hx, rfl, hb'⟩)
  · obtain ⟨Aa, ca, rfl, hI, -⟩ := hv.sl1
    exact ⟨x, Aa, ca, rfl, hI, (pm_of_mem (List.mem_of_find?_eq_some hx)).2, (btP_iff h1.2 h3).1 (List.find?_some hx), hb'⟩
  · exact absurd ((better_none h1.2 h3 hp).1 hx) hb
theorem OrderN (h : RowsK w A k (fun i => min (L i) 7) v) (hk : k = min n 7) (hok : okS n L v = true) (hG : Ints w G q (fun p => (g p : Int))) (hq : q = n) (hcG : q ≤ cG) (hp : Pm n g) (hb : ¬ NoB (tO v) n g) :
    Lr 33 #[.slice A k cA, .slice G q cG] w (.tuple #[.slice none 0 0, .int .i64 4]) := by
  obtain ⟨h1, h2, h3, h4⟩ := okS_pm hok
  refine (OrderF h hk hok hG hq hcG hp).mono ?_
  rintro e w' (⟨x, v', hx, rfl, hv, hb'⟩ | ⟨hx, rfl, hb'⟩)
  · rw [(order_none h1.2 h3 hp).2 hb] at hx
    cases hx
  · exact ⟨rfl, hb'⟩
theorem OrderS (h : RowsK w A k (fun i => min (L i) 7) v) (hk : k = min n 7) (hok : okS n L v = true) (hG : Ints w G q (fun p => (g p : Int))) (hq : q = n) (hcG : q ≤ cG) (hp : Pm n g) (hb : NoB (tO v) n g) :
    Calls Try.prog 33 #[.slice A k cA, .slice G q cG] w fun e w' => ∃ x Aa ca, e = .returned (.tuple #[.slice Aa n ca, .int .i64 0]) ∧ Ints w' Aa n (rowF x) ∧ n ≤ ca ∧ Pm n (rN x) ∧ (∀ i, i < n → chF (tO v) n (rN x) i = g i) ∧ Below w.heap.size w w' := by
  obtain ⟨h1, h2, h3, h4⟩ := okS_pm hok
  refine (OrderF h hk hok hG hq hcG hp).mono ?_
  rintro e w' (⟨x, v', hx, rfl, hv, hb'⟩ | ⟨hx, rfl, hb'⟩)
  · obtain ⟨Aa, ca, rfl, hI, hc⟩ := hv.sl1
    exact ⟨x, Aa, ca, rfl, hI, hc, (pm_of_mem (List.mem_of_find?_eq_some hx)).2, odP_iff.1 (List.find?_some hx), hb'⟩
  · exact absurd hb ((order_none h1.2 h3 hp).1 hx)
end
theorem trade_best {n : Nat} {L : Nat → Nat} {v : Nat → Nat → Int} (hok : okS n L v = true) : NoB (tO v) n (trV v n) := fun p hp hle i hi => by
  obtain ⟨h1, h2, h3, h4⟩ := okS_pm hok
  exact pareto0 h1.2 h3 hp hle i hi
theorem fine_any (A : Option Addr) (n c : Nat) (L : Nat → Nat) (v : Nat → Nat → Int) (C : Option Addr) (m d : Nat) (f : Nat → Int) (w : World) (h : ArgR w A n c L v) (ho : ArgI w C m d f) :
    Ro 38 #[.slice A n c, .slice C m d] w (.bool (okS n L v && ordB n m f)) := by
  have hn : n ≤ 17592186044416 := Nat.le_trans h.1 h.2.1
  have HV := Lib.hid (validR_any A n c L v w h)
  have HO := Lib.hid (fun w' (hd : Dn w w') => isOrderR_any C m d n f w' (ho.below (hd.below _)) (by omega))
  rw [ordR_eq] at HO
  clear h ho
  refine Ro.of ?_
  cases hok : okS n L v with
  | false =>
    rw [hok] at HV
    clear hok
    go_enter Try.func38, Try.ntmps38
    go_wp2_with fail
    refine HV.out.use fun w1 hd1 => ?_
    have HD := Lib.hid hd1
    clear hd1
    go_wp2
    go_ret
    exact ⟨rfl, HD.out⟩
  | true =>
    rw [hok] at HV
    clear hok
    go_enter Try.func38, Try.ntmps38
    go_wp2_with fail
    refine HV.out.use fun w1 hd1 => ?_
    have HD := Lib.hid hd1
    go_wp2_with fail
    refine (HO.out w1 hd1).use fun w2 hd2 => ?_
    have HD2 := Lib.hid (HD.out.trans hd2)
    clear hd1 hd2
    go_wp2
    go_ret
    exact ⟨ret_bool (by simp), HD2.out⟩
end Go.Proofs.Ytocfbafcplhmiaa
