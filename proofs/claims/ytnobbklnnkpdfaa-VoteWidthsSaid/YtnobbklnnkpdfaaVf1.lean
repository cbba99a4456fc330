/- Margins and Best of ballots that are not valid; what Few leaves of ballots. -/
import Derived.Test.YtnobbklnnkpdfaaMg
import Derived.Test.YtnobbklnnkpdfaaBt
namespace Go.Proofs.Ytnobbklnnkpdfaa
open Go.RowKit

theorem okBal_few (n : Nat) (L : Nat → Nat) (v : Nat → Nat → Int) : okBal (min n 11) (fun i => min (L i) 11) v = okBal n L v := by
  rw [Bool.eq_iff_iff, okBal_iff, okBal_iff]
  constructor
  · rintro ⟨h1, h2, h3⟩
    have h2' : 1 ≤ min (L 0) 11 ∧ min (L 0) 11 ≤ 5 := h2
    have e0 : min (L 0) 11 = L 0 := by omega
    have h3' : ∀ i, i < min n 11 → min (L i) 11 = min (L 0) 11 ∧ Ord (min (L 0) 11) (v i) := h3
    refine ⟨by omega, by omega, fun i hi => ?_⟩
    have h4 := h3' i (by omega)
    rw [e0] at h4
    exact ⟨by omega, h4.2⟩
  · rintro ⟨h1, h2, h3⟩
    have e0 : min (L 0) 11 = L 0 := by omega
    have hn : min n 11 = n := by omega
    refine ⟨by omega, by show 1 ≤ min (L 0) 11 ∧ min (L 0) 11 ≤ 5; omega, fun i hi => ?_⟩
    have h4 := h3 i (by omega)
    show min (L i) 11 = min (L 0) 11 ∧ Ord (min (L 0) 11) (v i)
    rw [e0]
    exact ⟨by omega, h4.2⟩

set_option maxHeartbeats 1000000 in
set_option maxRecDepth 1000000 in
theorem Margins_bad (A : Option Addr) (n cA : Nat) (L : Nat → Nat) (v : Nat → Nat → Int) (w : World) (h : RowsK w A n L v) (hok : okBal n L v = false) (hn : n ≤ 1000) (hL : ∀ i, i < n → L i ≤ 1000) :
    Lr 20 #[.slice A n cA] w (.tuple #[.slice none 0 0, .int .i64 2]) := by
  have HC := Lib.hid (count_bad A n cA L v w h hok hn hL)
  clear h hok hL
  show Calls _ _ _ _ _
  go_enter Try.func20, Try.ntmps20
  go_wp2_with fail
  refine HC.out.mono ?_
  rintro e w2 ⟨rfl, hb2⟩
  have HZ2 := Lib.hid (PollI.zero w2)
  have Hb3 := Lib.hid (hb2.trans ((zero_below w2).mono hb2.size))
  have hsz := hb2.size
  clear hb2 HC
  go_wp2_with fail
  rw [run_storePoll _ _ _ none 0 0 0 (fun _ => 0) HZ2.out]
  simp only [Result.andThen_ok]
  rw [Oper.upon_skip]
  have HB := Lib.hid (below_setCells (pollL none 0 0 0 (fun _ => 0)) 0 hsz Hb3.out)
  clear HZ2 Hb3
  generalize World.setCells _ w2.heap.size 0 (pollL none 0 0 0 (fun _ => 0)) = W3 at *
  go_wp2
  go_ret2
  exact ⟨rfl, HB.out⟩

set_option maxHeartbeats 1000000 in
set_option maxRecDepth 1000000 in
theorem Best_bad (A : Option Addr) (n cA : Nat) (L : Nat → Nat) (v : Nat → Nat → Int) (w : World) (h : RowsK w A n L v) (hok : okBal n L v = false) (hn : n ≤ 1000) (hL : ∀ i, i < n → L i ≤ 1000) :
    Lr 31 #[.slice A n cA] w (.tuple #[.int .i64 0, .int .i64 2]) := by
  have HC := Lib.hid (count_bad A n cA L v w h hok hn hL)
  clear h hok hL
  show Calls _ _ _ _ _
  go_enter Try.func31, Try.ntmps31
  go_wp2_with fail
  refine HC.out.mono ?_
  rintro e w2 ⟨rfl, hb2⟩
  have HZ2 := Lib.hid (PollI.zero w2)
  have Hb3 := Lib.hid (hb2.trans ((zero_below w2).mono hb2.size))
  have hsz := hb2.size
  clear hb2 HC
  go_wp2_with fail
  rw [run_storePoll _ _ _ none 0 0 0 (fun _ => 0) HZ2.out]
  simp only [Result.andThen_ok]
  rw [Oper.upon_skip]
  have HB := Lib.hid (below_setCells (pollL none 0 0 0 (fun _ => 0)) 0 hsz Hb3.out)
  clear HZ2 Hb3
  generalize World.setCells _ w2.heap.size 0 (pollL none 0 0 0 (fun _ => 0)) = W3 at *
  go_wp2
  go_ret2
  exact ⟨rfl, HB.out⟩
end Go.Proofs.Ytnobbklnnkpdfaa
