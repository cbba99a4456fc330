/- TurnsStable, walked. -/
import Derived.Test.YtiigcjcolpmafaaYM
namespace Go.Proofs.Ytiigcjcolpmafaa
open Go.RowKit

set_option maxHeartbeats 8000000 in
set_option maxRecDepth 1000000 in
theorem turnsStable_walk (AH AS AP : Option Addr) (cH cS cP : Nat) (p : PlanD) (D : Option Addr) (n c : Nat) (m : Nat → Int) (w : World) (hp : PlanArg w AH AS AP cH cS cP p) (hm : ArgI w D n c m) :
    Calls Try.prog 10 #[.agg #[.slice AH p.nH cH, .slice AS p.nS cS, .slice AP p.nP cP], .slice D n c] w fun e w' => e = .returned (.bool true) ∧ Below w.heap.size w w' := by
  have Hb0 := Lib.hid (below_box w (.cells #[.slice AH p.nH cH, .slice AS p.nS cS, .slice AP p.nP cP] 25))
  have HB0 := Lib.hid (BoxP.newR w AH AS AP p.nH p.nS p.nP cH cS cP)
  have HP := Lib.hid hp
  have HD := Lib.hid hm
  clear hp hm
  go_enter Try.func10, Try.ntmps10
  go_wp2_with fail
  refine (of_any AH AS AP cH cS cP p _ (HP.out.keep Hb0.out)).mono ?_
  rintro e w1 ⟨BH, BdH, BS, BdS, BP, BdP, rfl, hpl, hb1⟩
  have Hb1 := Lib.hid (Hb0.out.trans (hb1.mono Hb0.out.size))
  have HPl1 := Lib.hid hpl
  have HBx1 := Lib.hid (HB0.out.keep hb1)
  clear hpl hb1
  cases hok : okPlan p with
  | false =>
    have HOf : Hid (okPlan (fewP p) = false) := Lib.hid (by rw [okPlan_few]; exact hok)
    clear hok
    have HC := Lib.hid (Stable_bad BH BS BP BdH BdS BdP (fewP p) w1 HPl1.out HOf.out)
    go_wp2_with fail
    refine Lr.use HC.out ?_
    intro w2 hb2
    have Hb2 := Lib.hid (Hb1.out.trans (hb2.mono Hb1.out.size))
    have HBx2 := Lib.hid (HBx1.out.keep hb2)
    clear hb2 HC
    obtain ⟨q0, q1, q2⟩ := HBx2.out.keep (below_box w2 (.cells #[.slice none 0 0] 22))
    obtain ⟨w3, hw⟩ : ∃ z, z = w2.alloc (.cells #[.slice none 0 0] 22) := ⟨_, rfl⟩
    have hb3 : Below w2.heap.size w2 w3 := by rw [hw]; exact below_box _ _
    have q5 : w3.cell? ⟨w2.heap.size, 0, none⟩ = some (.slice none 0 0) := by rw [hw]; simp [World.cell?_alloc_at]
    have HWW := Lib.hid hw.symm
    clear hw
    have Hb3 := Lib.hid (Hb2.out.trans (hb3.mono Hb2.out.size))
    have HBx3 := Lib.hid (HBx2.out.keep hb3)
    have HQ3 := Lib.hid q5
    clear q5 hb3
    go_wp2_with fail
    rw [HWW.out]
    clear HWW
    refine (of_any AH AS AP cH cS cP p _ (HP.out.keep Hb3.out)).mono ?_
    rintro e w4 ⟨CH, CdH, CS, CdS, CP, CdP, rfl, hpl, hb4⟩
    have Hb4 := Lib.hid (Hb3.out.trans (hb4.mono Hb3.out.size))
    have HBx4 := Lib.hid (HBx3.out.keep hb4)
    have HPl4 := Lib.hid hpl
    clear hpl hb4 q0 q1 q2
    have HC := Lib.hid (First_bad CH CS CP CdH CdS CdP (fewP p) w4 HPl4.out HOf.out)
    go_wp2_with fail
    refine Lr.use HC.out ?_
    intro w5 hb5
    have Hb5 := Lib.hid (Hb4.out.trans (hb5.mono Hb4.out.size))
    have HBx5 := Lib.hid (HBx4.out.keep hb5)
    clear hb5 HC
    obtain ⟨q0, q1, q2⟩ := HBx5.out
    go_wp2_with fail
    refine (of_any AH AS AP cH cS cP p _ (HP.out.keep Hb5.out)).mono ?_
    rintro e w6 ⟨EH, EdH, ES, EdS, EP, EdP, rfl, hpl, hb6⟩
    have Hb6 := Lib.hid (Hb5.out.trans (hb6.mono Hb5.out.size))
    have HBx6 := Lib.hid (HBx5.out.keep hb6)
    have HPl6 := Lib.hid hpl
    clear hpl hb6 q0 q1 q2
    have HC := Lib.hid (Last_bad EH ES EP EdH EdS EdP (fewP p) w6 HPl6.out HOf.out)
    go_wp2_with fail
    refine Lr.use HC.out ?_
    intro w7 hb7
    have Hb7 := Lib.hid (Hb6.out.trans (hb7.mono Hb6.out.size))
    have HBx7 := Lib.hid (HBx6.out.keep hb7)
    clear hb7 HC
    go_wp2_with fail
    refine (awake_any _).mono ?_
    rintro e wz ⟨rfl, hbz⟩
    have Hbz := Lib.hid (Hb7.out.trans (hbz.mono Hb7.out.size))
    clear hbz
    go_wp2
    go_ret
    exact ⟨rfl, Hbz.out⟩
  | true =>
    have HOk := Lib.hid hok
    have HOf : Hid (okPlan (fewP p) = true) := Lib.hid (by rw [okPlan_few]; exact hok)
    have HN := Lib.hid (few_n hok).1
    have HLs := Lib.hid (few_LsP hok)
    have HC2 := Lib.hid (Stable_ok BH BS BP BdH BdS BdP (fewP p) w1 HPl1.out HOf.out)
    have hkk := kP_pos hok
    have HSb := Lib.hid (fun i (hi : i < kP p) => mm_stb hok hi)
    have HMl := Lib.hid (fun i (hi : i < kP p) => mm_len hok hi)
    have hkl := kP_le hok
    have hkl2 : ((kP p : Nat) : Int) ≤ 100000 := by omega
    obtain ⟨⟨hn1, hn6, -, -, -⟩, -⟩ := okPlan_of hok
    clear hok
    go_wp2_with fail
    refine HC2.out.mono ?_
    rintro e w2 ⟨x2, rfl, hx2, hb2⟩
    rw [HLs.out] at hx2
    obtain ⟨AY, cY, rfl, hrw⟩ := hx2.rows
    have hM : Mat w2 AY (kP p) p.nH (mmP p) := Mat.of hrw (fun i hi => HMl.out i hi)
    obtain ⟨bY, oY, A0, d0, rfl, -, -⟩ := hM.at hkk
    have hK : (stL p p.nH 0 (fun _ => -1)).length = kP p := rfl
    rw [hK]
    have HM2 := Lib.hid hM
    have Hb2 := Lib.hid (Hb1.out.trans (hb2.mono Hb1.out.size))
    have HBx2 := Lib.hid (HBx1.out.keep hb2)
    clear hx2 hrw hM hb2 HC2 hK HLs HMl
    have hkz := beq_f (show ¬ ((kP p : Nat) : Int) = 0 by omega)
    obtain ⟨q0, q1, q2⟩ := HBx2.out.keep (below_box w2 (.cells #[.slice (some ⟨bY, oY, none⟩) (kP p) cY] 22))
    obtain ⟨w3, hw⟩ : ∃ z, z = w2.alloc (.cells #[.slice (some ⟨bY, oY, none⟩) (kP p) cY] 22) := ⟨_, rfl⟩
    have hb3 : Below w2.heap.size w2 w3 := by rw [hw]; exact below_box _ _
    have q5 : w3.cell? ⟨w2.heap.size, 0, none⟩ = some (.slice (some ⟨bY, oY, none⟩) (kP p) cY) := by rw [hw]; simp [World.cell?_alloc_at]
    have HWW := Lib.hid hw.symm
    clear hw
    have Hb3 := Lib.hid (Hb2.out.trans (hb3.mono Hb2.out.size))
    have HBx3 := Lib.hid (HBx2.out.keep hb3)
    have HM3 := Lib.hid (HM2.out.keep hb3)
    have HQ3 := Lib.hid q5
    clear q5 hb3
    have HQk : Hid (∀ W, Below w3.heap.size w3 W → W.cell? ⟨w2.heap.size, 0, none⟩ = some (.slice (some ⟨bY, oY, none⟩) (kP p) cY)) := Lib.hid (fun W hb => old_cell HQ3.out hb)
    have Hs3 := Lib.hid (Below.refl w3.heap.size w3)
    go_wp2_with fail
    rw [HWW.out]
    clear HWW
    refine (of_any AH AS AP cH cS cP p _ (HP.out.keep Hb3.out)).mono ?_
    rintro e w4 ⟨CH, CdH, CS, CdS, CP, CdP, rfl, hpl, hb4⟩
    have Hb4 := Lib.hid (Hb3.out.trans (hb4.mono Hb3.out.size))
    have HBx4 := Lib.hid (HBx3.out.keep hb4)
    have HM4 := Lib.hid (HM3.out.keep hb4)
    have Hs4 := Lib.hid (Hs3.out.trans (hb4.mono Hs3.out.size))
    have HPl4 := Lib.hid hpl
    clear hpl hb4 q0 q1 q2
    have HC := Lib.hid (First_ok CH CS CP CdH CdS CdP (fewP p) w4 HPl4.out HOf.out)
    go_wp2_with fail
    refine HC.out.mono ?_
    rintro e w5 ⟨gf, a, a0, rfl, hD, hE, hR, -, hb5⟩
    rw [HN.out] at hR ⊢
    have HF := Lib.hid (first_all HOk.out hD hE)
    have HR5 := Lib.hid hR.ints
    have Hb5 := Lib.hid (Hb4.out.trans (hb5.mono Hb4.out.size))
    have HBx5 := Lib.hid (HBx4.out.keep hb5)
    have HM5 := Lib.hid (HM4.out.keep hb5)
    have Hs5 := Lib.hid (Hs4.out.trans (hb5.mono Hs4.out.size))
    clear hD hE hR hb5 HC
    obtain ⟨q0, q1, q2⟩ := HBx5.out
    go_wp2_with fail
    refine (of_any AH AS AP cH cS cP p _ (HP.out.keep Hb5.out)).mono ?_
    rintro e w6 ⟨EH, EdH, ES, EdS, EP, EdP, rfl, hpl, hb6⟩
    have Hb6 := Lib.hid (Hb5.out.trans (hb6.mono Hb5.out.size))
    have HBx6 := Lib.hid (HBx5.out.keep hb6)
    have HM6 := Lib.hid (HM5.out.keep hb6)
    have HR6 := Lib.hid (HR5.out.keep hb6)
    have Hs6 := Lib.hid (Hs5.out.trans (hb6.mono Hs5.out.size))
    have HPl6 := Lib.hid hpl
    clear hpl hb6 q0 q1 q2
    have HC := Lib.hid (Last_ok EH ES EP EdH EdS EdP (fewP p) w6 HPl6.out HOf.out)
    go_wp2_with fail
    refine HC.out.mono ?_
    rintro e w7 ⟨gl, rfl, hR, hb7⟩
    rw [HN.out] at hR ⊢
    have HL := Lib.hid (last_all HOk.out)
    obtain ⟨l, hl⟩ : ∃ l, l = midG (fewP p) (kP (fewP p) - 1) := ⟨_, rfl⟩
    rw [← hl] at hR HL
    clear hl
    have HS7 := Lib.hid hR.ints
    have Hb7 := Lib.hid (Hb6.out.trans (hb7.mono Hb6.out.size))
    have HBx7 := Lib.hid (HBx6.out.keep hb7)
    have HM7 := Lib.hid (HM6.out.keep hb7)
    have HR7 := Lib.hid (HR6.out.keep hb7)
    have Hs7 := Lib.hid (Hs6.out.trans (hb7.mono Hs6.out.size))
    clear hR hb7 HC
    have hq5 := HQk.out _ Hs7.out
    have HC := Lib.hid (has_any (some ⟨bY, oY, none⟩) (some ⟨gf, 0, none⟩) cY p.nH p.nH w2.heap.size p a w7 HOk.out hq5 HM7.out HR7.out (by omega))
    rw [any_stb HOk.out HF.out.1] at HC
    go_wp2_with fail
    refine Lr.use HC.out ?_
    intro w8 hb8
    have Hb8 := Lib.hid (Hb7.out.trans (hb8.mono Hb7.out.size))
    have HBx8 := Lib.hid (HBx7.out.keep hb8)
    have HM8 := Lib.hid (HM7.out.keep hb8)
    have HR8 := Lib.hid (HR7.out.keep hb8)
    have HS8 := Lib.hid (HS7.out.keep hb8)
    have Hs8 := Lib.hid (Hs7.out.trans (hb8.mono Hs7.out.size))
    clear hb8 HC
    clear hq5
    have hq5 := HQk.out _ Hs8.out
    have HC := Lib.hid (has_any (some ⟨bY, oY, none⟩) (some ⟨gl, 0, none⟩) cY p.nH p.nH w2.heap.size p l w8 HOk.out hq5 HM8.out HS8.out (by omega))
    rw [any_stb HOk.out HL.out.1] at HC
    go_wp2_with fail
    refine Lr.use HC.out ?_
    intro w9 hb9
    have Hb9 := Lib.hid (Hb8.out.trans (hb9.mono Hb8.out.size))
    have HBx9 := Lib.hid (HBx8.out.keep hb9)
    have HM9 := Lib.hid (HM8.out.keep hb9)
    have HR9 := Lib.hid (HR8.out.keep hb9)
    have HS9 := Lib.hid (HS8.out.keep hb9)
    have Hs9 := Lib.hid (Hs8.out.trans (hb9.mono Hs8.out.size))
    clear hb9 HC
    clear hq5
    have hq5 := HQk.out _ Hs9.out
    go_wp2
    clear hq5
    go_loopw [76] (fun i wr => ∃ k : Nat, k ≤ kP p ∧ i = .int .i64 k ∧ Below w9.heap.size w9 wr) (fun i _ => kP p - (intOf i).toNat)
    case atStart => exact ⟨0, Nat.zero_le _, rfl, Below.refl _ _⟩
    case round =>
      obtain ⟨k, hk, rfl, hB⟩ := hrel
      have HBk := Lib.hid hB
      clear hB
      have Hbk := Lib.hid (Hb9.out.trans (HBk.out.mono Hb9.out.size))
      by_cases hlt : k < kP p
      · obtain ⟨q0, q1, q2⟩ := HBx9.out.keep HBk.out
        obtain ⟨AI, cI, e1, hI⟩ := (HM9.out.keep HBk.out).cell hlt
        have HI := Lib.hid hI
        have HSk := Lib.hid (HSb.out k hlt)
        have HZ : Hid (okMat p p.nH (mmP p k) = true ∧ bkN p (mmP p k) = 0) := Lib.hid ⟨((stb_iff HOk.out).2 HSk.out).1, bkN_zero.2 ((stb_iff HOk.out).2 HSk.out).2⟩
        have hki : (k : Int) < (kP p : Nat) := by omega
        clear hI
        go_wp2_with fail
        refine (of_any AH AS AP cH cS cP p _ (HP.out.keep Hbk.out)).mono ?_
        rintro e wa ⟨GH, GdH, GS, GdS, GP, GdP, rfl, hpl, hba⟩
        have HBa := Lib.hid (HBk.out.trans (hba.mono HBk.out.size))
        have HC := Lib.hid (Blocks_few GH GS GP AI GdH GdS GdP p.nH cI p (mmP p k) wa hpl (HI.out.keep hba) rfl HOk.out HZ.out.1)
        rw [HZ.out.2] at HC
        clear hpl hba q0 q1 q2 e1
        go_wp2_with fail
        refine HC.out.mono ?_
        rintro e wb ⟨AB, cB, rfl, hbb⟩
        have HBb := Lib.hid (HBa.out.trans (hbb.mono HBa.out.size))
        clear hbb HC
        go_wp2
        go_roundw
        case rel => exact ⟨k + 1, by omega, by go_num, HBb.out⟩
        case measure => simp [intOf]; omega
      · obtain rfl : k = kP p := by omega
        rename World => w10
        have Hb10 := Lib.hid (Hb9.out.trans (HBk.out.mono Hb9.out.size))
        have HBx10 := Lib.hid (HBx9.out.keep HBk.out)
        have HM10 := Lib.hid (HM9.out.keep HBk.out)
        have Hs10 := Lib.hid (Hs9.out.trans (HBk.out.mono Hs9.out.size))
        obtain ⟨q0, q1, q2⟩ := HBx10.out
        go_wp2_with fail
        refine (of_any AH AS AP cH cS cP p _ (HP.out.keep Hb10.out)).mono ?_
        rintro e w11 ⟨KH, KdH, KS, KdS, KP, KdP, rfl, hpl, hb11⟩
        have Hb11 := Lib.hid (Hb10.out.trans (hb11.mono Hb10.out.size))
        have HBx11 := Lib.hid (HBx10.out.keep hb11)
        have HM11 := Lib.hid (HM10.out.keep hb11)
        have Hs11 := Lib.hid (Hs10.out.trans (hb11.mono Hs10.out.size))
        have HPl11 := Lib.hid hpl
        clear hpl hb11 q0 q1 q2
        go_wp2_with fail
        refine (list_any D n c m _ (HD.out.below Hb11.out)).mono ?_
        rintro e w12 ⟨x1, rfl, hx1, hb12⟩
        obtain ⟨A1, c1, rfl, hI1⟩ := hx1.shp (lst_len _ _)
        have HI12 := Lib.hid (hI1.congr (g := m) (fun q hq => lst_getD _ _ _ hq))
        have HPm12 := Lib.hid (HPl11.out.keep hb12)
        have Hb12 := Lib.hid (Hb11.out.trans (hb12.mono Hb11.out.size))
        have HBx12 := Lib.hid (HBx11.out.keep hb12)
        have HM12 := Lib.hid (HM11.out.keep hb12)
        have Hs12 := Lib.hid (Hs11.out.trans (hb12.mono Hs11.out.size))
        clear hI1 hx1 hb12
        cases hmat : okMat p n m with
        | false =>
          have HC := Lib.hid (Blocks_bad KH KS KP A1 KdH KdS KdP (min n 9) c1 (fewP p) m w12 HPm12.out HI12.out (Nat.min_le_right _ _) (by rw [okMat_few]; exact hmat))
          clear hmat
          go_wp2_with fail
          refine Lr.use HC.out ?_
          intro w13 hb13
          have Hb13 := Lib.hid (Hb12.out.trans (hb13.mono Hb12.out.size))
          have HBx13 := Lib.hid (HBx12.out.keep hb13)
          have HM13 := Lib.hid (HM12.out.keep hb13)
          have Hs13 := Lib.hid (Hs12.out.trans (hb13.mono Hs12.out.size))
          clear hb13 HC
          go_wp2_with fail
          refine (awake_any _).mono ?_
          rintro e wz ⟨rfl, hbz⟩
          have Hbz := Lib.hid (Hb13.out.trans (hbz.mono Hb13.out.size))
          clear hbz
          go_wp2
          go_ret
          exact ⟨rfl, Hbz.out⟩
        | true =>
          obtain ⟨r, hr⟩ : ∃ r, r = p.nH := ⟨_, rfl⟩
          have hnn := okMat_n hmat
          have HMt := Lib.hid hmat
          have HNn := Lib.hid hnn
          have hm9 : min n 9 = p.nH := by omega
          clear hmat hr
          have HC := Lib.hid (Blocks_few KH KS KP A1 KdH KdS KdP (min n 9) c1 p m w12 HPm12.out HI12.out hm9 HOk.out (by rw [← HNn.out]; exact HMt.out))
          clear hm9 hnn
          have hn10 : n ≤ 10000 := by have := HNn.out; omega
          have HZ := Lib.hid (bkN_zero (p := p) (m := m))
          have HV : Hid (anyB (fun i => eqB p.nH n (mmP p i) m) (kP p) = stabB p m) := Lib.hid (by rw [HNn.out]; exact any_mat HOk.out (by rw [← HNn.out]; exact HMt.out))
          go_wp2_with fail
          refine HC.out.mono ?_
          rintro e w13 ⟨AB, cB, rfl, hb13⟩
          have Hb13 := Lib.hid (Hb12.out.trans (hb13.mono Hb12.out.size))
          have HBx13 := Lib.hid (HBx12.out.keep hb13)
          have HM13 := Lib.hid (HM12.out.keep hb13)
          have Hs13 := Lib.hid (Hs12.out.trans (hb13.mono Hs12.out.size))
          clear hb13 HC
          have hq5 := HQk.out _ Hs13.out
          have HC := Lib.hid (has_any (some ⟨bY, oY, none⟩) D cY n c w2.heap.size p m w13 HOk.out hq5 HM13.out (HD.out.below Hb13.out).2.2.2 hn10)
          rw [HV.out] at HC
          generalize bkN p m = bk at *
          cases hst : stabB p m with
          | true =>
            rw [hst] at HC
            have hbk : bk = 0 := HZ.out.2 hst
            subst hbk
            clear hst HZ HV
            go_wp2_with fail
            refine Lr.use HC.out ?_
            intro w14 hb14
            have Hb14 := Lib.hid (Hb13.out.trans (hb14.mono Hb13.out.size))
            have HBx14 := Lib.hid (HBx13.out.keep hb14)
            have HM14 := Lib.hid (HM13.out.keep hb14)
            have Hs14 := Lib.hid (Hs13.out.trans (hb14.mono Hs13.out.size))
            clear hb14 HC
            clear hq5
            go_wp2_with fail
            refine (awake_any _).mono ?_
            rintro e wz ⟨rfl, hbz⟩
            have Hbz := Lib.hid (Hb14.out.trans (hbz.mono Hb14.out.size))
            clear hbz
            go_wp2
            go_ret
            exact ⟨rfl, Hbz.out⟩
          | false =>
            rw [hst] at HC
            have hbk : ¬ bk = 0 := fun e => by have := HZ.out.1 e; rw [hst] at this; cases this
            have hb0 := beq_f (show ¬ (bk : Int) = 0 by omega)
            clear hst HZ HV
            go_wp2_with fail
            refine Lr.use HC.out ?_
            intro w14 hb14
            have Hb14 := Lib.hid (Hb13.out.trans (hb14.mono Hb13.out.size))
            have HBx14 := Lib.hid (HBx13.out.keep hb14)
            have HM14 := Lib.hid (HM13.out.keep hb14)
            have Hs14 := Lib.hid (Hs13.out.trans (hb14.mono Hs13.out.size))
            clear hb14 HC
            clear hq5
            go_wp2_with fail
            refine (awake_any _).mono ?_
            rintro e wz ⟨rfl, hbz⟩
            have Hbz := Lib.hid (Hb14.out.trans (hbz.mono Hb14.out.size))
            clear hbz
            go_wp2
            go_ret
            exact ⟨rfl, Hbz.out⟩
end Go.Proofs.Ytiigcjcolpmafaa

