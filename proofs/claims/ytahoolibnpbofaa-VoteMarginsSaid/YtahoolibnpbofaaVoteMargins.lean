/- The law VoteMargins, walked. -/
import Derived.Test.YtahoolibnpbofaaVg
namespace Go.Proofs.Ytahoolibnpbofaa
open Go.RowKit

set_option maxHeartbeats 2000000 in
set_option maxRecDepth 1000000 in
theorem voteMargins_bad (A : Option Addr) (n c : Nat) (L : Nat → Nat) (v : Nat → Nat → Int) (w : World) (h : ArgR w A n c L v) (hok : okBal n L v = false) :
    Calls Try.prog 3 #[.slice A n c] w fun e w' => e = .returned (.bool true) ∧ Below w.heap.size w w' := by
  have H := Lib.hid h
  have HK := Lib.hid hok
  have Hb0 := Lib.hid (Below.refl w.heap.size w)
  clear h hok
  go_enter Try.func3, Try.ntmps3
  go_wp2_with fail
  refine (FewF A n c L v _ H.out).mono ?_
  rintro e w1 ⟨A1, k1, c1, rfl, hk1, hr1, hc1, hb1⟩
  have HM := Lib.hid (MarginsFbad (cA := c1) hr1 hk1 HK.out)
  have Hb1 := Lib.hid hb1
  clear hk1 hr1 hc1 hb1
  go_wp2_with fail
  refine Lr.use HM.out ?_
  intro w2 hb2
  have Hb2 := Lib.hid (Hb1.out.trans (hb2.mono Hb1.out.size))
  clear hb2 HM
  go_wp2_with fail
  refine (FewF A n c L v _ (H.out.below Hb2.out)).mono ?_
  rintro e w3 ⟨A3, k3, c3, rfl, hk3, hr3, hc3, hb3⟩
  have HM := Lib.hid (BestFbad (cA := c3) hr3 hk3 HK.out)
  have Hb3 := Lib.hid (Hb2.out.trans (hb3.mono Hb2.out.size))
  clear hk3 hr3 hc3 hb3
  go_wp2_with fail
  refine Lr.use HM.out ?_
  intro w4 hb4
  have Hb4 := Lib.hid (Hb3.out.trans (hb4.mono Hb3.out.size))
  clear hb4 HM
  have HV := Lib.hid (validR_any A n c L v w4 (H.out.below Hb4.out))
  rw [HK.out] at HV
  go_wp2_with fail
  refine Ro.use HV.out ?_
  intro w5 hd5
  have Hb5 := Lib.hid (Hb4.out.trans (hd5.below _))
  clear hd5 HV
  go_wp2_with fail
  refine Lr.use (awake_any _) ?_
  intro w6 hb6
  have Hb6 := Lib.hid (Hb5.out.trans (hb6.mono Hb5.out.size))
  clear hb6
  go_wp2
  go_ret
  exact ⟨rfl, Hb6.out⟩

set_option maxHeartbeats 2000000 in
set_option maxRecDepth 1000000 in
theorem voteMargins_fine (A : Option Addr) (n c : Nat) (L : Nat → Nat) (v : Nat → Nat → Int) (w : World) (h : ArgR w A n c L v) (hok : okBal n L v = true) :
    Calls Try.prog 3 #[.slice A n c] w fun e w' => e = .returned (.bool true) ∧ Below w.heap.size w w' := by
  have H := Lib.hid h
  have HK := Lib.hid hok
  obtain ⟨hB1, ⟨hB2, hB3⟩, hB4⟩ := okBal_iff.1 hok
  obtain ⟨s0, hs0⟩ := bst_exists (T := mAll v (L 0) n) hB2 hB3
  have HS := Lib.hid hs0
  have HT : Hid (∀ a b, a < L 0 → b < L 0 → mrg v (L 0) a b n = mAll v (L 0) n (5 * a + b)) := Lib.hid (fun a b ha hb => (mAll_at hB3 ha hb n (fun i hi => (hB4 i hi).2)).symm)
  have HAn := Lib.hid (mAll_anti hok)
  clear h hok hs0 hB1 hB4
  go_enter Try.func3, Try.ntmps3
  go_wp2_with fail
  refine (FewF A n c L v _ H.out).mono ?_
  rintro e w1 ⟨A1, k1, c1, rfl, hk1, hr1, hc1, hb1⟩
  have HM := Lib.hid (MarginsF (cA := c1) hr1 hk1 hc1 HK.out)
  have Hb1 := Lib.hid hb1
  clear hk1 hr1 hc1 hb1
  go_wp2_with fail
  refine HM.out.mono ?_
  rintro e w2 ⟨A2, c2, rfl, hr2, hb2⟩
  have HX2 := Lib.hid hr2
  have Hb2 := Lib.hid (Hb1.out.trans (hb2.mono Hb1.out.size))
  clear hb2 HM hr2
  go_wp2_with fail
  refine (FewF A n c L v _ (H.out.below Hb2.out)).mono ?_
  rintro e w3 ⟨A3, k3, c3, rfl, hk3, hr3, hc3, hb3⟩
  have HM := Lib.hid (BestF (cA := c3) hr3 hk3 hc3 HK.out HS.out)
  have HX3 := Lib.hid (HX2.out.keep hb3)
  have Hb3 := Lib.hid (Hb2.out.trans (hb3.mono Hb2.out.size))
  clear hk3 hr3 hc3 hb3
  go_wp2_with fail
  refine Lr.use HM.out ?_
  intro w4 hb4
  have HX4 := Lib.hid (HX3.out.keep hb4)
  have Hb4 := Lib.hid (Hb3.out.trans (hb4.mono Hb3.out.size))
  clear hb4 HM
  have HV := Lib.hid (validR_any A n c L v w4 (H.out.below Hb4.out))
  rw [HK.out] at HV
  go_wp2_with fail
  refine Ro.use HV.out ?_
  intro w5 hd5
  have HX5 := Lib.hid (HX4.out.dn hd5)
  have Hb5 := Lib.hid (Hb4.out.trans (hd5.below _))
  clear hd5 HV
  have HR := Lib.hid (rMargins_any A n c L v w5 (H.out.below Hb5.out) HK.out)
  go_wp2_with fail
  refine HR.out.mono ?_
  rintro e w6 ⟨x, rfl, hx, hb6⟩
  obtain ⟨A6, c6, rfl, hr6, -⟩ := hx.rows
  have HX6 := Lib.hid (HX5.out.keep hb6)
  have HY6 := Lib.hid hr6
  have Hb6 := Lib.hid (Hb5.out.trans (hb6.mono Hb5.out.size))
  clear hx hr6 hb6 HR
  have HE := Lib.hid (same_any A2 A6 (L 0) c2 c6 (fun _ => L 0) (fun a b => mrg v (L 0) a b n) w6 HX6.out HY6.out (by omega) (fun i hi => by show L 0 ≤ 10000; omega))
  go_wp2_with fail
  refine Ro.use HE.out ?_
  intro w7 hd7
  have Hb7 := Lib.hid (Hb6.out.trans (hd7.below _))
  clear hd7 HE HX6 HY6 HX5 HX4 HX3 HX2
  have HR := Lib.hid (rBest_any A n c s0 L v (mAll v (L 0) n) w7 (H.out.below Hb7.out) HK.out HT.out HAn.out HS.out)
  go_wp2_with fail
  refine Ro.use HR.out ?_
  intro w8 hd8
  have Hb8 := Lib.hid (Hb7.out.trans (hd8.below _))
  clear hd8 HR
  go_wp2_with fail
  refine Lr.use (awake_any _) ?_
  intro w9 hb9
  have Hb9 := Lib.hid (Hb8.out.trans (hb9.mono Hb8.out.size))
  clear hb9
  go_wp2
  go_ret
  exact ⟨rfl, Hb9.out⟩

theorem voteMargins_walk (A : Option Addr) (n c : Nat) (L : Nat → Nat) (v : Nat → Nat → Int) (w : World) (h : ArgR w A n c L v) :
    Calls Try.prog 3 #[.slice A n c] w fun e w' => e = .returned (.bool true) ∧ Below w.heap.size w w' := by
  cases hok : okBal n L v with
  | false => exact voteMargins_bad A n c L v w h hok
  | true => exact voteMargins_fine A n c L v w h hok
end Go.Proofs.Ytahoolibnpbofaa
