/- TurnsEnds, walked. -/
import Derived.Test.YtiigcjcolpmafaaYM
namespace Go.Proofs.Ytiigcjcolpmafaa
open Go.RowKit

set_option maxHeartbeats 4000000 in
set_option maxRecDepth 1000000 in
theorem turnsEnds_walk (AH AS AP : Option Addr) (cH cS cP : Nat) (p : PlanD) (w : World) (hp : PlanArg w AH AS AP cH cS cP p) :
    Calls Try.prog 15 #[.agg #[.slice AH p.nH cH, .slice AS p.nS cS, .slice AP p.nP cP]] w fun e w' => e = .returned (.bool true) ∧ Below w.heap.size w w' := by
  have Hb0 := Lib.hid (below_box w (.cells #[.slice AH p.nH cH, .slice AS p.nS cS, .slice AP p.nP cP] 25))
  have HB0 := Lib.hid (BoxP.newR w AH AS AP p.nH p.nS p.nP cH cS cP)
  have HP := Lib.hid hp
  clear hp
  go_enter Try.func15, Try.ntmps15
  go_wp2_with fail
  refine (of_any AH AS AP cH cS cP p _ (HP.out.keep Hb0.out)).mono ?_
  rintro e w1 ⟨BH, BdH, BS, BdS, BP, BdP, rfl, hpl, hb1⟩
  have Hb1 := Lib.hid (Hb0.out.trans (hb1.mono Hb0.out.size))
  have HPl1 := Lib.hid hpl
  have HBx1 := Lib.hid (HB0.out.keep hb1)
  clear hpl hb1
  cases hok : okPlan p with
  | false =>
    have HOf : Hid (okPlan (fewP p) = false) := Lib.hid (by rw [okPlan_few]; exact hok)
    have HOk := Lib.hid hok
    have HC2 := Lib.hid (First_bad BH BS BP BdH BdS BdP (fewP p) w1 HPl1.out HOf.out)
    clear hok
    go_wp2_with fail
    refine Lr.use HC2.out ?_
    intro w2 hb2
    have Hb2 := Lib.hid (Hb1.out.trans (hb2.mono Hb1.out.size))
    have HBx2 := Lib.hid (HBx1.out.keep hb2)
    clear hb2 HC2
    obtain ⟨q0, q1, q2⟩ := HBx2.out
    go_wp2_with fail
    refine (of_any AH AS AP cH cS cP p _ (HP.out.keep Hb2.out)).mono ?_
    rintro e w3 ⟨CH, CdH, CS, CdS, CP, CdP, rfl, hpl, hb3⟩
    have Hb3 := Lib.hid (Hb2.out.trans (hb3.mono Hb2.out.size))
    have HPl3 := Lib.hid hpl
    have HBx3 := Lib.hid (HBx2.out.keep hb3)
    clear hpl hb3 q0 q1 q2
    have HC4 := Lib.hid (Last_bad CH CS CP CdH CdS CdP (fewP p) w3 HPl3.out HOf.out)
    go_wp2_with fail
    refine Lr.use HC4.out ?_
    intro w4 hb4
    have Hb4 := Lib.hid (Hb3.out.trans (hb4.mono Hb3.out.size))
    have HBx4 := Lib.hid (HBx3.out.keep hb4)
    clear hb4 HC4
    obtain ⟨q0, q1, q2⟩ := HBx4.out
    have HC5 := Lib.hid (rValid_any AH AS AP cH cS cP p w4 (HP.out.keep Hb4.out))
    rw [HOk.out] at HC5
    go_wp2_with fail
    refine Lr.use HC5.out ?_
    intro w5 hb5
    have Hb5 := Lib.hid (Hb4.out.trans (hb5.mono Hb4.out.size))
    clear hb5 HC5 q0 q1 q2
    go_wp2_with fail
    refine (awake_any _).mono ?_
    rintro e w7 ⟨rfl, hb7⟩
    have Hb7 := Lib.hid (Hb5.out.trans (hb7.mono Hb5.out.size))
    clear hb7
    go_wp2
    go_ret
    exact ⟨rfl, Hb7.out⟩
  | true =>
    have HOk := Lib.hid hok
    have HOf : Hid (okPlan (fewP p) = true) := Lib.hid (by rw [okPlan_few]; exact hok)
    have HN := Lib.hid (few_n hok).1
    obtain ⟨⟨hn1, hn6, -, -, -⟩, -⟩ := okPlan_of hok
    have HC2 := Lib.hid (First_ok BH BS BP BdH BdS BdP (fewP p) w1 HPl1.out HOf.out)
    clear hok
    go_wp2_with fail
    refine HC2.out.mono ?_
    rintro e w2 ⟨g, m, a, rfl, hD, hE, hR, -, hb2⟩
    rw [HN.out] at hR ⊢
    have HM := Lib.hid (first_all HOk.out hD hE)
    have HR2 := Lib.hid hR.ints
    have Hb2 := Lib.hid (Hb1.out.trans (hb2.mono Hb1.out.size))
    have HBx2 := Lib.hid (HBx1.out.keep hb2)
    clear hD hE hR hb2 HC2
    obtain ⟨q0, q1, q2⟩ := HBx2.out
    go_wp2_with fail
    refine (of_any AH AS AP cH cS cP p _ (HP.out.keep Hb2.out)).mono ?_
    rintro e w3 ⟨CH, CdH, CS, CdS, CP, CdP, rfl, hpl, hb3⟩
    have Hb3 := Lib.hid (Hb2.out.trans (hb3.mono Hb2.out.size))
    have HPl3 := Lib.hid hpl
    have HBx3 := Lib.hid (HBx2.out.keep hb3)
    have HR3 := Lib.hid (HR2.out.keep hb3)
    clear hpl hb3 q0 q1 q2
    have HC4 := Lib.hid (Last_ok CH CS CP CdH CdS CdP (fewP p) w3 HPl3.out HOf.out)
    go_wp2_with fail
    refine HC4.out.mono ?_
    rintro e w4 ⟨g', rfl, hR, hb4⟩
    rw [HN.out] at hR ⊢
    have HL := Lib.hid (last_all HOk.out)
    revert hR
    generalize midG (fewP p) (kP (fewP p) - 1) = l at *
    intro hR
    have HS4 := Lib.hid hR.ints
    have Hb4 := Lib.hid (Hb3.out.trans (hb4.mono Hb3.out.size))
    have HBx4 := Lib.hid (HBx3.out.keep hb4)
    have HR4 := Lib.hid (HR3.out.keep hb4)
    clear hR hb4 HC4
    obtain ⟨q0, q1, q2⟩ := HBx4.out
    have HC5 := Lib.hid (rValid_any AH AS AP cH cS cP p w4 (HP.out.keep Hb4.out))
    rw [HOk.out] at HC5
    go_wp2_with fail
    refine Lr.use HC5.out ?_
    intro w5 hb5
    have Hb5 := Lib.hid (Hb4.out.trans (hb5.mono Hb4.out.size))
    have HBx5 := Lib.hid (HBx4.out.keep hb5)
    have HR5 := Lib.hid (HR4.out.keep hb5)
    have HS5 := Lib.hid (HS4.out.keep hb5)
    clear hb5 HC5 q0 q1 q2
    obtain ⟨q0, q1, q2⟩ := HBx5.out
    go_wp2_with fail
    refine (rFirst_any AH AS AP cH cS cP p m w5 (HP.out.keep Hb5.out) HOk.out HM.out.1 HM.out.2).mono ?_
    rintro e w6 ⟨A6, c6, rfl, hI6, hb6⟩
    have Hb6 := Lib.hid (Hb5.out.trans (hb6.mono Hb5.out.size))
    have HBx6 := Lib.hid (HBx5.out.keep hb6)
    have HR6 := Lib.hid (HR5.out.keep hb6)
    have HS6 := Lib.hid (HS5.out.keep hb6)
    have HI6 := Lib.hid hI6
    clear hb6 hI6 q0 q1 q2
    have HE := Lib.hid (equal_any (some ⟨g, 0, none⟩) A6 p.nH p.nH p.nH c6 m m w6 HR6.out HI6.out (by omega) (by omega))
    rw [eqB_id] at HE
    go_wp2_with fail
    refine Ro.use HE.out ?_
    intro w7 hd7
    have Hb7 := Lib.hid (Hb6.out.trans ((hd7.below _).mono Hb6.out.size))
    have HBx7 := Lib.hid (HBx6.out.keep (hd7.below _))
    have HS7 := Lib.hid (HS6.out.dn hd7)
    clear hd7 HE
    obtain ⟨q0, q1, q2⟩ := HBx7.out
    go_wp2_with fail
    refine (rLast_any AH AS AP cH cS cP p l w7 (HP.out.keep Hb7.out) HOk.out HL.out.1 HL.out.2).mono ?_
    rintro e w8 ⟨A8, c8, rfl, hI8, hb8⟩
    have Hb8 := Lib.hid (Hb7.out.trans (hb8.mono Hb7.out.size))
    have HS8 := Lib.hid (HS7.out.keep hb8)
    have HI8 := Lib.hid hI8
    clear hb8 hI8 q0 q1 q2
    have HE := Lib.hid (equal_any (some ⟨g', 0, none⟩) A8 p.nH p.nH p.nH c8 l l w8 HS8.out HI8.out (by omega) (by omega))
    rw [eqB_id] at HE
    go_wp2_with fail
    refine Ro.use HE.out ?_
    intro w9 hd9
    have Hb9 := Lib.hid (Hb8.out.trans ((hd9.below _).mono Hb8.out.size))
    clear hd9 HE
    go_wp2_with fail
    refine (awake_any _).mono ?_
    rintro e wz ⟨rfl, hbz⟩
    have Hbz := Lib.hid (Hb9.out.trans (hbz.mono Hb9.out.size))
    clear hbz
    go_wp2
    go_ret
    exact ⟨rfl, Hbz.out⟩
end Go.Proofs.Ytiigcjcolpmafaa

