/- The reference's Trade and Rounds. -/
import Derived.Test.YtocfbafcplhmiaaUk
namespace Go.Proofs.Ytocfbafcplhmiaa
open Go.RowKit

set_option maxHeartbeats 1000000 in
set_option maxRecDepth 1000000 in
theorem refTrade_any (A : Option Addr) (n c : Nat) (t : Nat → Nat → Nat) (w : World) (h : Wis w A n t) (hn : n ≤ 5) (ht : ∀ i, i < n → Pm n (t i)) :
    Calls Try.prog 46 #[.slice A n c] w fun e w' => ∃ B, e = .returned (.slice (some ⟨B, 0, none⟩) n n) ∧ w.heap.size ≤ B ∧ RowI w' B n (fun p => (trF t n (owF (fun k => k) n) p : Int)) ∧ Below w.heap.size w w' := by
  have H := Lib.hid h
  have HT := Lib.hid ht
  clear h ht
  go_enter Try.func46, Try.ntmps46
  go_wp2_with fail
  refine (self_any n (by omega) w).mono ?_
  rintro e w1 ⟨x, rfl, hx, hb1⟩
  obtain ⟨A1, c1, rfl, hI⟩ := hx.sl0
  have HB1 := Lib.hid hb1
  have HI := Lib.hid hI
  clear hx hb1 hI
  go_wp2_with fail
  refine (tradedR_any A n c t A1 c1 (fun k => k) w1 (H.out.keep HB1.out) HI.out hn HT.out (pm_id n)).mono ?_
  rintro e w2 ⟨B1, B2, rfl, hq1, hq2, hq3, hq4, hq5, hb2⟩
  have HT1 := Lib.hid hq4
  have HT2 := Lib.hid hq5
  have hs1 := HB1.out.size
  have HB2 := Lib.hid (HB1.out.trans (hb2.mono HB1.out.size))
  clear hq4 hq5 hb2
  go_wp2
  go_ret
  exact ⟨_, rfl, by omega, HT1.out, HB2.out⟩

set_option maxHeartbeats 1000000 in
set_option maxRecDepth 1000000 in
theorem refRounds_any (A : Option Addr) (n c : Nat) (t : Nat → Nat → Nat) (w : World) (h : Wis w A n t) (hn : n ≤ 5) (ht : ∀ i, i < n → Pm n (t i)) :
    Calls Try.prog 47 #[.slice A n c] w fun e w' => ∃ B, e = .returned (.slice (some ⟨B, 0, none⟩) n n) ∧ w.heap.size ≤ B ∧ RowI w' B n (fun p => (rnF t n (owF (fun k => k) n) p : Int)) ∧ Below w.heap.size w w' := by
  have H := Lib.hid h
  have HT := Lib.hid ht
  clear h ht
  go_enter Try.func47, Try.ntmps47
  go_wp2_with fail
  refine (self_any n (by omega) w).mono ?_
  rintro e w1 ⟨x, rfl, hx, hb1⟩
  obtain ⟨A1, c1, rfl, hI⟩ := hx.sl0
  have HB1 := Lib.hid hb1
  have HI := Lib.hid hI
  clear hx hb1 hI
  go_wp2_with fail
  refine (tradedR_any A n c t A1 c1 (fun k => k) w1 (H.out.keep HB1.out) HI.out hn HT.out (pm_id n)).mono ?_
  rintro e w2 ⟨B1, B2, rfl, hq1, hq2, hq3, hq4, hq5, hb2⟩
  have HT1 := Lib.hid hq4
  have HT2 := Lib.hid hq5
  have hs1 := HB1.out.size
  have HB2 := Lib.hid (HB1.out.trans (hb2.mono HB1.out.size))
  clear hq4 hq5 hb2
  go_wp2
  go_ret
  exact ⟨_, rfl, by omega, HT2.out, HB2.out⟩
theorem eqB_self (n : Nat) (f : Nat → Int) : eqB n n f f = true := by
  unfold eqB
  rw [allB_t (fun k hk => by simp [eqP])]
  simp
end Go.Proofs.Ytocfbafcplhmiaa
