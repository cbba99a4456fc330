/- TurnsCovers, walked. -/
import Derived.Test.YtiigcjcolpmafaaYM
namespace Go.Proofs.Ytiigcjcolpmafaa
open Go.RowKit

theorem cv_few {p : PlanD} (hok : okPlan p = true) : prAll (cvP (fewP p)) (kP (fewP p)) (kP (fewP p)) = prAll (cvR p) (kP p) (kP p) := by
  rw [few_kP hok]
  refine prAll_congr (fun i j hi hj => ?_)
  rw [← cv_eq hok hi hj]
  unfold cvP
  rw [few_mmP hok, few_kP hok, few_goB hok]
  rw [anyB_cg (P := btP (fewP p) i j) (Q := btP p i j) (fun c _ => by
    unfold btP
    rw [few_mmP hok, few_goB hok, few_goB hok])]
set_option maxHeartbeats 4000000 in
set_option maxRecDepth 1000000 in
theorem turnsCovers_walk (AH AS AP : Option Addr) (cH cS cP : Nat) (p : PlanD) (w : World) (hp : PlanArg w AH AS AP cH cS cP p) :
    Calls Try.prog 12 #[.agg #[.slice AH p.nH cH, .slice AS p.nS cS, .slice AP p.nP cP]] w fun e w' => e = .returned (.bool true) ∧ Below w.heap.size w w' := by
  have Hb0 := Lib.hid (below_box w (.cells #[.slice AH p.nH cH, .slice AS p.nS cS, .slice AP p.nP cP] 25))
  have HB0 := Lib.hid (BoxP.newR w AH AS AP p.nH p.nS p.nP cH cS cP)
  have HP := Lib.hid hp
  clear hp
  go_enter Try.func12, Try.ntmps12
  go_wp2_with fail
  refine (of_any AH AS AP cH cS cP p _ (HP.out.keep Hb0.out)).mono ?_
  rintro e w1 ⟨BH, BdH, BS, BdS, BP, BdP, rfl, hpl, hb1⟩
  have Hb1 := Lib.hid (Hb0.out.trans (hb1.mono Hb0.out.size))
  have HPl1 := Lib.hid hpl
  have HBx1 := Lib.hid (HB0.out.keep hb1)
  clear hpl hb1
  cases hok : okPlan p with
  | false =>
    have HOk := Lib.hid hok
    have HC2 := Lib.hid (Covers_bad BH BS BP BdH BdS BdP (fewP p) w1 HPl1.out (by rw [okPlan_few]; exact hok))
    clear hok
    go_wp2_with fail
    refine Lr.use HC2.out ?_
    intro w2 hb2
    have Hb2 := Lib.hid (Hb1.out.trans (hb2.mono Hb1.out.size))
    have HBx2 := Lib.hid (HBx1.out.keep hb2)
    clear hb2 HC2
    obtain ⟨q0, q1, q2⟩ := HBx2.out
    have HC3 := Lib.hid (rValid_any AH AS AP cH cS cP p w2 (HP.out.keep Hb2.out))
    rw [HOk.out] at HC3
    go_wp2_with fail
    refine Lr.use HC3.out ?_
    intro w3 hb3
    have Hb3 := Lib.hid (Hb2.out.trans (hb3.mono Hb2.out.size))
    clear hb3 HC3 q0 q1 q2
    go_wp2_with fail
    refine (awake_any _).mono ?_
    rintro e w7 ⟨rfl, hb7⟩
    have Hb7 := Lib.hid (Hb3.out.trans (hb7.mono Hb3.out.size))
    clear hb7
    go_wp2
    go_ret
    exact ⟨rfl, Hb7.out⟩
  | true =>
    have HOk := Lib.hid hok
    have HCf := Lib.hid (cv_few hok)
    have HC2 := Lib.hid (Covers_ok BH BS BP BdH BdS BdP (fewP p) w1 HPl1.out (by rw [okPlan_few]; exact hok))
    have HLn : Hid ((prAll (cvR p) (kP p) (kP p)).length ≤ 20000000000) := Lib.hid (by
      have h := kP_le hok
      have e1 := prAll_len (cvR p) (kP p) (kP p)
      have e3 : kP p * kP p ≤ 100000 * 100000 := Nat.mul_le_mul (by omega) (by omega)
      omega)
    clear hok
    go_wp2_with fail
    refine HC2.out.mono ?_
    rintro e w2 ⟨x2, rfl, hx2, hb2⟩
    rw [HCf.out] at hx2
    have HX2 := Lib.hid hx2
    obtain ⟨AX, cX, rfl, -⟩ := hx2.prs
    have Hb2 := Lib.hid (Hb1.out.trans (hb2.mono Hb1.out.size))
    have HBx2 := Lib.hid (HBx1.out.keep hb2)
    clear hx2 hb2 HC2
    obtain ⟨q0, q1, q2⟩ := HBx2.out
    have HC3 := Lib.hid (rValid_any AH AS AP cH cS cP p w2 (HP.out.keep Hb2.out))
    rw [HOk.out] at HC3
    go_wp2_with fail
    refine Lr.use HC3.out ?_
    intro w3 hb3
    have Hb3 := Lib.hid (Hb2.out.trans (hb3.mono Hb2.out.size))
    have HBx3 := Lib.hid (HBx2.out.keep hb3)
    have HX3 := Lib.hid (HX2.out.below hb3)
    clear hb3 HC3 q0 q1 q2
    obtain ⟨q0, q1, q2⟩ := HBx3.out
    go_wp2_with fail
    refine (rCovers_any AH AS AP cH cS cP p w3 (HP.out.keep Hb3.out) HOk.out).mono ?_
    rintro e w4 ⟨x4, rfl, hx4, hb4⟩
    have Hb4 := Lib.hid (Hb3.out.trans (hb4.mono Hb3.out.size))
    have HX4 := Lib.hid (HX3.out.below hb4)
    clear hb4 q0 q1 q2
    obtain ⟨A11, c11, e11, hp11⟩ := hx4.prs
    obtain ⟨A12, c12, e12, hp12⟩ := HX4.out.prs
    subst e11
    injection e12 with e12 e13 e14
    subst e12 e14
    have HE12 := Lib.hid (eqPrs_big AX A11 cX c11 (prAll (cvR p) (kP p) (kP p)) w4 hp12 hp11 HLn.out)
    clear hx4 hp11 hp12 e13
    go_wp2_with fail
    refine Ro.use HE12.out ?_
    intro w5 hd5
    have Hb5 := Lib.hid (Hb4.out.trans ((hd5.below _).mono Hb4.out.size))
    clear hd5 HE12
    go_wp2_with fail
    refine (awake_any _).mono ?_
    rintro e w7 ⟨rfl, hb7⟩
    have Hb7 := Lib.hid (Hb5.out.trans (hb7.mono Hb5.out.size))
    clear hb7
    go_wp2
    go_ret
    exact ⟨rfl, Hb7.out⟩
end Go.Proofs.Ytiigcjcolpmafaa

