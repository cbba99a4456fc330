import Derived.Test.YtkbliaonednpaaaSb
namespace Go.Proofs.Ytkbliaonednpaaa
open Go.RowKit

set_option maxHeartbeats 4000000 in
set_option maxRecDepth 1000000 in
theorem turnsBlocks_bad (AH AS AP D : Option Addr) (cH cS cP n c : Nat) (p : PlanD) (m : Nat → Int) (w : World) (hp : PlanArg w AH AS AP cH cS cP p) (hm : ArgI w D n c m) (hok : okPlan p = false) :
    Calls Try.prog 3 #[.agg #[.slice AH p.nH cH, .slice AS p.nS cS, .slice AP p.nP cP], .slice D n c] w fun e w' => e = .returned (.bool true) ∧ Below w.heap.size w w' := by
  have Hb0 := Lib.hid (below_box w (.cells #[.slice AH p.nH cH, .slice AS p.nS cS, .slice AP p.nP cP] 25))
  have HB0 := Lib.hid (BoxP.newR w AH AS AP p.nH p.nS p.nP cH cS cP)
  have HP := Lib.hid hp
  have HM := Lib.hid hm
  have HMat : Hid (okMat (fewP p) (min n 9) m = false) := Lib.hid (by rw [okMat_few]; unfold okMat; rw [hok]; rfl)
  have HOf : Hid (okPlan (fewP p) = false) := Lib.hid (by rw [okPlan_few]; exact hok)
  have HOk := Lib.hid hok
  clear hok
  clear hp hm
  go_enter Try.func3, Try.ntmps3
  go_wp2_with fail
  refine (of_any AH AS AP cH cS cP p _ (HP.out.keep Hb0.out)).mono ?_
  rintro e w1 ⟨BH, BdH, BS, BdS, BP, BdP, rfl, hpl, hb1⟩
  have Hb1 := Lib.hid (Hb0.out.trans (hb1.mono Hb0.out.size))
  have HPl1 := Lib.hid hpl
  have HBx1 := Lib.hid (HB0.out.keep hb1)
  clear hpl hb1
  go_wp2_with fail
  refine (list_any D n c m _ (HM.out.below Hb1.out)).mono ?_
  rintro e w2 ⟨x1, rfl, hx1, hb2⟩
  obtain ⟨A1, c1, rfl, hI1⟩ := hx1.shp (lst_len _ _)
  have HI2 := Lib.hid (hI1.congr (g := m) (fun q hq => lst_getD _ _ _ hq))
  have Hb2 := Lib.hid (Hb1.out.trans (hb2.mono Hb1.out.size))
  have HPl2 := Lib.hid (HPl1.out.keep hb2)
  have HBx2 := Lib.hid (HBx1.out.keep hb2)
  clear hI1 hx1 hb2
  have HC3 := Lib.hid (Blocks_bad BH BS BP A1 BdH BdS BdP (min n 9) c1 (fewP p) m w2 HPl2.out HI2.out (Nat.min_le_right _ _) HMat.out)
  go_wp2_with fail
  refine Lr.use HC3.out ?_
  intro w3 hb3
  have Hb3 := Lib.hid (Hb2.out.trans (hb3.mono Hb2.out.size))
  have HBx3 := Lib.hid (HBx2.out.keep hb3)
  clear hb3 HC3
  obtain ⟨q0, q1, q2⟩ := HBx3.out
  go_wp2_with fail
  refine (of_any AH AS AP cH cS cP p _ (HP.out.keep Hb3.out)).mono ?_
  rintro e w4 ⟨CH, CdH, CS, CdS, CP, CdP, rfl, hpl, hb4⟩
  have Hb4 := Lib.hid (Hb3.out.trans (hb4.mono Hb3.out.size))
  have HPl4 := Lib.hid hpl
  have HBx4 := Lib.hid (HBx3.out.keep hb4)
  clear hpl hb4
  clear q0 q1 q2
  have HC5 := Lib.hid (Stable_bad CH CS CP CdH CdS CdP (fewP p) w4 HPl4.out HOf.out)
  go_wp2_with fail
  refine Lr.use HC5.out ?_
  intro w5 hb5
  have Hb5 := Lib.hid (Hb4.out.trans (hb5.mono Hb4.out.size))
  have HBx5 := Lib.hid (HBx4.out.keep hb5)
  clear hb5 HC5
  obtain ⟨q0, q1, q2⟩ := HBx5.out
  have HC6 := Lib.hid (rValid_any AH AS AP cH cS cP p w5 (HP.out.keep Hb5.out))
  rw [HOk.out] at HC6
  go_wp2_with fail
  refine Lr.use HC6.out ?_
  intro w6 hb6
  have Hb6 := Lib.hid (Hb5.out.trans (hb6.mono Hb5.out.size))
  have HBx6 := Lib.hid (HBx5.out.keep hb6)
  clear hb6 HC6 q0 q1 q2
  go_wp2_with fail
  refine (awake_any _).mono ?_
  rintro e w7 ⟨rfl, hb7⟩
  have Hb7 := Lib.hid (Hb6.out.trans (hb7.mono Hb6.out.size))
  have HBx7 := Lib.hid (HBx6.out.keep hb7)
  clear hb7
  go_wp2
  go_ret
  exact ⟨rfl, Hb7.out⟩

set_option maxHeartbeats 4000000 in
set_option maxRecDepth 1000000 in
theorem turnsBlocks_mat (AH AS AP D : Option Addr) (cH cS cP n c : Nat) (p : PlanD) (m : Nat → Int) (w : World) (hp : PlanArg w AH AS AP cH cS cP p) (hm : ArgI w D n c m) (hok : okPlan p = true) (hmat : okMat p n m = false) :
    Calls Try.prog 3 #[.agg #[.slice AH p.nH cH, .slice AS p.nS cS, .slice AP p.nP cP], .slice D n c] w fun e w' => e = .returned (.bool true) ∧ Below w.heap.size w w' := by
  have Hb0 := Lib.hid (below_box w (.cells #[.slice AH p.nH cH, .slice AS p.nS cS, .slice AP p.nP cP] 25))
  have HB0 := Lib.hid (BoxP.newR w AH AS AP p.nH p.nS p.nP cH cS cP)
  have HP := Lib.hid hp
  have HM := Lib.hid hm
  have HMat : Hid (okMat (fewP p) (min n 9) m = false) := Lib.hid (by rw [okMat_few]; exact hmat)
  have HMt := Lib.hid hmat
  have HOf : Hid (okPlan (fewP p) = true) := Lib.hid (by rw [okPlan_few]; exact hok)
  have HOk := Lib.hid hok
  have HSt : Hid (stL (fewP p) (fewP p).nH 0 (fun _ => -1) = stL p p.nH 0 (fun _ => -1)) := Lib.hid (by rw [(few_n hok).1]; exact stL_few hok _ _ _ (by omega))
  have HLn : Hid ((stL p p.nH 0 (fun _ => -1)).length ≤ 100000) := Lib.hid (by
    obtain ⟨⟨a1, a2, a3, a4, -⟩, -⟩ := okPlan_of hok
    have h1 := stL_len p a4 p.nH 0 (fun _ => -1)
    have h2 : 5 ^ p.nH ≤ 5 ^ 6 := Nat.pow_le_pow_right (by omega) a2
    omega)
  have HLr : Hid (∀ i, i < (stL p p.nH 0 (fun _ => -1)).length → ((stL p p.nH 0 (fun _ => -1)).getD i []).length ≤ 10000) := Lib.hid (fun i hi => stL_rows hok hi)
  clear hok hmat
  clear hp hm
  go_enter Try.func3, Try.ntmps3
  go_wp2_with fail
  refine (of_any AH AS AP cH cS cP p _ (HP.out.keep Hb0.out)).mono ?_
  rintro e w1 ⟨BH, BdH, BS, BdS, BP, BdP, rfl, hpl, hb1⟩
  have Hb1 := Lib.hid (Hb0.out.trans (hb1.mono Hb0.out.size))
  have HPl1 := Lib.hid hpl
  have HBx1 := Lib.hid (HB0.out.keep hb1)
  clear hpl hb1
  go_wp2_with fail
  refine (list_any D n c m _ (HM.out.below Hb1.out)).mono ?_
  rintro e w2 ⟨x1, rfl, hx1, hb2⟩
  obtain ⟨A1, c1, rfl, hI1⟩ := hx1.shp (lst_len _ _)
  have HI2 := Lib.hid (hI1.congr (g := m) (fun q hq => lst_getD _ _ _ hq))
  have Hb2 := Lib.hid (Hb1.out.trans (hb2.mono Hb1.out.size))
  have HPl2 := Lib.hid (HPl1.out.keep hb2)
  have HBx2 := Lib.hid (HBx1.out.keep hb2)
  clear hI1 hx1 hb2
  have HC3 := Lib.hid (Blocks_bad BH BS BP A1 BdH BdS BdP (min n 9) c1 (fewP p) m w2 HPl2.out HI2.out (Nat.min_le_right _ _) HMat.out)
  go_wp2_with fail
  refine Lr.use HC3.out ?_
  intro w3 hb3
  have Hb3 := Lib.hid (Hb2.out.trans (hb3.mono Hb2.out.size))
  have HBx3 := Lib.hid (HBx2.out.keep hb3)
  clear hb3 HC3
  obtain ⟨q0, q1, q2⟩ := HBx3.out
  go_wp2_with fail
  refine (of_any AH AS AP cH cS cP p _ (HP.out.keep Hb3.out)).mono ?_
  rintro e w4 ⟨CH, CdH, CS, CdS, CP, CdP, rfl, hpl, hb4⟩
  have Hb4 := Lib.hid (Hb3.out.trans (hb4.mono Hb3.out.size))
  have HPl4 := Lib.hid hpl
  have HBx4 := Lib.hid (HBx3.out.keep hb4)
  clear hpl hb4
  clear q0 q1 q2
  have HC5 := Lib.hid (Stable_ok CH CS CP CdH CdS CdP (fewP p) w4 HPl4.out HOf.out)
  go_wp2_with fail
  refine HC5.out.mono ?_
  rintro e w5 ⟨x5, rfl, hx5, hb5⟩
  have Hb5 := Lib.hid (Hb4.out.trans (hb5.mono Hb4.out.size))
  have HBx5 := Lib.hid (HBx4.out.keep hb5)
  rw [HSt.out] at hx5
  have HY5 := Lib.hid hx5
  obtain ⟨AY, cY, rfl⟩ := hx5.form
  clear hx5
  clear hb5 HC5
  obtain ⟨q0, q1, q2⟩ := HBx5.out
  have HC6 := Lib.hid (rValid_any AH AS AP cH cS cP p w5 (HP.out.keep Hb5.out))
  rw [HOk.out] at HC6
  go_wp2_with fail
  refine Lr.use HC6.out ?_
  intro w6 hb6
  have Hb6 := Lib.hid (Hb5.out.trans (hb6.mono Hb5.out.size))
  have HBx6 := Lib.hid (HBx5.out.keep hb6)
  have HY6 := Lib.hid (HY5.out.below hb6)
  clear hb6 HC6 q0 q1 q2
  obtain ⟨q0, q1, q2⟩ := HBx6.out
  have HC7 := Lib.hid (rStable_any AH AS AP cH cS cP p HOk.out w6 (HP.out.keep Hb6.out))
  go_wp2_with fail
  refine HC7.out.mono ?_
  rintro e w7 ⟨x7, rfl, hx7, hb7⟩
  have Hb7 := Lib.hid (Hb6.out.trans (hb7.mono Hb6.out.size))
  have HBx7 := Lib.hid (HBx6.out.keep hb7)
  have HY7 := Lib.hid (HY6.out.below hb7)
  have HZ7 := Lib.hid hx7
  obtain ⟨AZ, cZ, rfl⟩ := hx7.form
  clear hx7 q0 q1 q2
  clear hb7 HC7
  have HE8 := Lib.hid (same_any _ _ _ _ _ w7 HY7.out HZ7.out HLn.out HLr.out)
  go_wp2_with fail
  refine Ro.use HE8.out ?_
  intro w8 hd8
  have Hb8 := Lib.hid (Hb7.out.trans ((hd8.below _).mono Hb7.out.size))
  have HBx8 := Lib.hid (HBx7.out.keep (hd8.below _))
  clear hd8 HE8
  go_wp2_with fail
  refine (awake_any _).mono ?_
  rintro e w9 ⟨rfl, hb9⟩
  have Hb9 := Lib.hid (Hb8.out.trans (hb9.mono Hb8.out.size))
  have HBx9 := Lib.hid (HBx8.out.keep hb9)
  clear hb9
  obtain ⟨q0, q1, q2⟩ := HBx9.out
  have HC10 := Lib.hid (rMatching_any AH AS AP D cH cS cP n c p m w9 (HP.out.keep Hb9.out) (HM.out.below Hb9.out) HOk.out)
  rw [HMt.out] at HC10
  go_wp2_with fail
  refine Lr.use HC10.out ?_
  intro w10 hb10
  have Hb10 := Lib.hid (Hb9.out.trans (hb10.mono Hb9.out.size))
  have HBx10 := Lib.hid (HBx9.out.keep hb10)
  clear hb10 HC10 q0 q1 q2
  go_wp2
  go_ret
  exact ⟨rfl, Hb10.out⟩

set_option maxHeartbeats 4000000 in
set_option maxRecDepth 1000000 in
theorem turnsBlocks_fine (AH AS AP D : Option Addr) (cH cS cP n c : Nat) (p : PlanD) (m : Nat → Int) (w : World) (hp : PlanArg w AH AS AP cH cS cP p) (hm : ArgI w D n c m) (hok : okPlan p = true) (hmat : okMat p n m = true) :
    Calls Try.prog 3 #[.agg #[.slice AH p.nH cH, .slice AS p.nS cS, .slice AP p.nP cP], .slice D n c] w fun e w' => e = .returned (.bool true) ∧ Below w.heap.size w w' := by
  have Hb0 := Lib.hid (below_box w (.cells #[.slice AH p.nH cH, .slice AS p.nS cS, .slice AP p.nP cP] 25))
  have HB0 := Lib.hid (BoxP.newR w AH AS AP p.nH p.nS p.nP cH cS cP)
  have HP := Lib.hid hp
  have HM := Lib.hid hm
  have HMat : Hid (okMat (fewP p) (min n 9) m = true) := Lib.hid (by rw [okMat_few]; exact hmat)
  have HMt := Lib.hid hmat
  have HOf : Hid (okPlan (fewP p) = true) := Lib.hid (by rw [okPlan_few]; exact hok)
  have HOk := Lib.hid hok
  have HSt : Hid (stL (fewP p) (fewP p).nH 0 (fun _ => -1) = stL p p.nH 0 (fun _ => -1)) := Lib.hid (by rw [(few_n hok).1]; exact stL_few hok _ _ _ (by omega))
  have HLn : Hid ((stL p p.nH 0 (fun _ => -1)).length ≤ 100000) := Lib.hid (by
    obtain ⟨⟨a1, a2, a3, a4, -⟩, -⟩ := okPlan_of hok
    have h1 := stL_len p a4 p.nH 0 (fun _ => -1)
    have h2 : 5 ^ p.nH ≤ 5 ^ 6 := Nat.pow_le_pow_right (by omega) a2
    omega)
  have HLr : Hid (∀ i, i < (stL p p.nH 0 (fun _ => -1)).length → ((stL p p.nH 0 (fun _ => -1)).getD i []).length ≤ 10000) := Lib.hid (fun i hi => stL_rows hok hi)
  have HNn : Hid (n = p.nH) := Lib.hid (okMat_n hmat)
  have HN2 : Hid (min n 9 = (fewP p).nH) := Lib.hid (by
    obtain ⟨⟨a1, a2, -⟩, -⟩ := okPlan_of hok
    have := okMat_n hmat
    rw [(few_n hok).1]
    omega)
  have HPr := Lib.hid (prAll_few hok m)
  have HLs := Lib.hid (okMat_lstd hmat)
  have HHs := Lib.hid (okMat_has hmat)
  have HPn : Hid ((prAll (blkB p m) p.nS p.nH).length ≤ 1000) := Lib.hid (by
    obtain ⟨⟨a1, a2, a3, a4, -⟩, -⟩ := okPlan_of hok
    have h1 := prAll_len (blkB p m) p.nS p.nH
    have h2 : p.nH * p.nS ≤ 6 * 4 := Nat.mul_le_mul a2 a4
    omega)
  clear hok hmat
  clear hp hm
  go_enter Try.func3, Try.ntmps3
  go_wp2_with fail
  refine (of_any AH AS AP cH cS cP p _ (HP.out.keep Hb0.out)).mono ?_
  rintro e w1 ⟨BH, BdH, BS, BdS, BP, BdP, rfl, hpl, hb1⟩
  have Hb1 := Lib.hid (Hb0.out.trans (hb1.mono Hb0.out.size))
  have HPl1 := Lib.hid hpl
  have HBx1 := Lib.hid (HB0.out.keep hb1)
  clear hpl hb1
  go_wp2_with fail
  refine (list_any D n c m _ (HM.out.below Hb1.out)).mono ?_
  rintro e w2 ⟨x1, rfl, hx1, hb2⟩
  obtain ⟨A1, c1, rfl, hI1⟩ := hx1.shp (lst_len _ _)
  have HI2 := Lib.hid (hI1.congr (g := m) (fun q hq => lst_getD _ _ _ hq))
  have Hb2 := Lib.hid (Hb1.out.trans (hb2.mono Hb1.out.size))
  have HPl2 := Lib.hid (HPl1.out.keep hb2)
  have HBx2 := Lib.hid (HBx1.out.keep hb2)
  clear hI1 hx1 hb2
  have HC3 := Lib.hid (Blocks_ok BH BS BP A1 BdH BdS BdP (min n 9) c1 (fewP p) m w2 HPl2.out HI2.out HN2.out HOf.out HMat.out)
  go_wp2_with fail
  refine HC3.out.mono ?_
  rintro e w3 ⟨x3, rfl, hx3, hb3⟩
  have Hb3 := Lib.hid (Hb2.out.trans (hb3.mono Hb2.out.size))
  have HBx3 := Lib.hid (HBx2.out.keep hb3)
  rw [HPr.out] at hx3
  have HX3 := Lib.hid hx3
  obtain ⟨AX, cX, rfl, -⟩ := hx3.prs
  clear hx3
  clear hb3 HC3
  obtain ⟨q0, q1, q2⟩ := HBx3.out
  go_wp2_with fail
  refine (of_any AH AS AP cH cS cP p _ (HP.out.keep Hb3.out)).mono ?_
  rintro e w4 ⟨CH, CdH, CS, CdS, CP, CdP, rfl, hpl, hb4⟩
  have Hb4 := Lib.hid (Hb3.out.trans (hb4.mono Hb3.out.size))
  have HPl4 := Lib.hid hpl
  have HBx4 := Lib.hid (HBx3.out.keep hb4)
  have HX4 := Lib.hid (HX3.out.below hb4)
  clear hpl hb4
  clear q0 q1 q2
  have HC5 := Lib.hid (Stable_ok CH CS CP CdH CdS CdP (fewP p) w4 HPl4.out HOf.out)
  go_wp2_with fail
  refine HC5.out.mono ?_
  rintro e w5 ⟨x5, rfl, hx5, hb5⟩
  have Hb5 := Lib.hid (Hb4.out.trans (hb5.mono Hb4.out.size))
  have HBx5 := Lib.hid (HBx4.out.keep hb5)
  have HX5 := Lib.hid (HX4.out.below hb5)
  rw [HSt.out] at hx5
  have HY5 := Lib.hid hx5
  obtain ⟨AY, cY, rfl⟩ := hx5.form
  clear hx5
  clear hb5 HC5
  obtain ⟨q0, q1, q2⟩ := HBx5.out
  have HC6 := Lib.hid (rValid_any AH AS AP cH cS cP p w5 (HP.out.keep Hb5.out))
  rw [HOk.out] at HC6
  go_wp2_with fail
  refine Lr.use HC6.out ?_
  intro w6 hb6
  have Hb6 := Lib.hid (Hb5.out.trans (hb6.mono Hb5.out.size))
  have HBx6 := Lib.hid (HBx5.out.keep hb6)
  have HY6 := Lib.hid (HY5.out.below hb6)
  have HX6 := Lib.hid (HX5.out.below hb6)
  clear hb6 HC6 q0 q1 q2
  obtain ⟨q0, q1, q2⟩ := HBx6.out
  have HC7 := Lib.hid (rStable_any AH AS AP cH cS cP p HOk.out w6 (HP.out.keep Hb6.out))
  go_wp2_with fail
  refine HC7.out.mono ?_
  rintro e w7 ⟨x7, rfl, hx7, hb7⟩
  have Hb7 := Lib.hid (Hb6.out.trans (hb7.mono Hb6.out.size))
  have HBx7 := Lib.hid (HBx6.out.keep hb7)
  have HX7 := Lib.hid (HX6.out.below hb7)
  have HY7 := Lib.hid (HY6.out.below hb7)
  have HZ7 := Lib.hid hx7
  obtain ⟨AZ, cZ, rfl⟩ := hx7.form
  clear hx7 q0 q1 q2
  clear hb7 HC7
  have HE8 := Lib.hid (same_any _ _ _ _ _ w7 HY7.out HZ7.out HLn.out HLr.out)
  go_wp2_with fail
  refine Ro.use HE8.out ?_
  intro w8 hd8
  have Hb8 := Lib.hid (Hb7.out.trans ((hd8.below _).mono Hb7.out.size))
  have HBx8 := Lib.hid (HBx7.out.keep (hd8.below _))
  have HX8 := Lib.hid (HX7.out.below (hd8.below _))
  clear hd8 HE8
  go_wp2_with fail
  refine (awake_any _).mono ?_
  rintro e w9 ⟨rfl, hb9⟩
  have Hb9 := Lib.hid (Hb8.out.trans (hb9.mono Hb8.out.size))
  have HBx9 := Lib.hid (HBx8.out.keep hb9)
  have HX9 := Lib.hid (HX8.out.below hb9)
  clear hb9
  obtain ⟨q0, q1, q2⟩ := HBx9.out
  have HC10 := Lib.hid (rMatching_any AH AS AP D cH cS cP n c p m w9 (HP.out.keep Hb9.out) (HM.out.below Hb9.out) HOk.out)
  rw [HMt.out] at HC10
  go_wp2_with fail
  refine Lr.use HC10.out ?_
  intro w10 hb10
  have Hb10 := Lib.hid (Hb9.out.trans (hb10.mono Hb9.out.size))
  have HBx10 := Lib.hid (HBx9.out.keep hb10)
  have HX10 := Lib.hid (HX9.out.below hb10)
  clear hb10 HC10 q0 q1 q2
  obtain ⟨q0, q1, q2⟩ := HBx10.out
  have HC11 := Lib.hid (rBlocks_any AH AS AP D cH cS cP n c p m w10 (HP.out.keep Hb10.out) (HM.out.below Hb10.out).2.2.2 HNn.out HOk.out HLs.out HHs.out)
  go_wp2_with fail
  refine HC11.out.mono ?_
  rintro e w11 ⟨x11, rfl, hx11, hb11⟩
  have Hb11 := Lib.hid (Hb10.out.trans (hb11.mono Hb10.out.size))
  have HX11 := Lib.hid (HX10.out.below hb11)
  clear hb11 HC11 q0 q1 q2
  obtain ⟨A11, c11, e11, hp11⟩ := hx11.prs
  obtain ⟨A12, c12, e12, hp12⟩ := HX11.out.prs
  subst e11
  injection e12 with e12 e13 e14
  subst e12 e14
  have HE12 := Lib.hid (eqPrs_any AX A11 cX c11 (prAll (blkB p m) p.nS p.nH) w11 hp12 hp11 HPn.out)
  clear hx11 hp11 hp12 e13
  go_wp2_with fail
  refine Ro.use HE12.out ?_
  intro w12 hd12
  have Hb12 := Lib.hid (Hb11.out.trans ((hd12.below _).mono Hb11.out.size))
  clear hd12 HE12
  go_wp2
  go_ret
  exact ⟨rfl, Hb12.out⟩

theorem turnsBlocks_walk (AH AS AP : Option Addr) (cH cS cP : Nat) (p : PlanD) (D : Option Addr) (n c : Nat) (m : Nat → Int) (w : World) (hp : PlanArg w AH AS AP cH cS cP p) (hm : ArgI w D n c m) :
    Calls Try.prog 3 #[.agg #[.slice AH p.nH cH, .slice AS p.nS cS, .slice AP p.nP cP], .slice D n c] w fun e w' => e = .returned (.bool true) ∧ Below w.heap.size w w' := by
  cases hok : okPlan p with
  | false => exact turnsBlocks_bad AH AS AP D cH cS cP n c p m w hp hm hok
  | true => cases hmat : okMat p n m with
    | false => exact turnsBlocks_mat AH AS AP D cH cS cP n c p m w hp hm hok hmat
    | true => exact turnsBlocks_fine AH AS AP D cH cS cP n c p m w hp hm hok hmat
end Go.Proofs.Ytkbliaonednpaaa
