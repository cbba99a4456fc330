import Derived.Test.YthbahfmcmbjglaaQy
import Derived.Test.YthbahfmcmbjglaaQh
namespace Go.Proofs.Ythbahfmcmbjglaa
open Go.RowKit

theorem by_60 (q : Int) : ∃ u : Nat, u < 60 ∧ wrap64 ((IntKind.u64.wrap q).tmod 60) = (u : Int) := by
  rw [IntKind.wrap_u64]
  have h3 : 0 ≤ q % 18446744073709551616 := Int.emod_nonneg _ (by omega)
  rw [Int.tmod_eq_emod_of_nonneg h3]
  generalize q % 18446744073709551616 = x at *
  refine ⟨(x % 60).toNat, by omega, ?_⟩
  unfold wrap64
  omega
/-- The first k of the rows have their fields 1 and 2 moved. -/
def mvP (p : Nat → Nat → Int) (y : Int) (k : Nat) : Nat → Nat → Int := fun a i => if a < k ∧ (i = 1 ∨ i = 2) then p a i + y else p a i
theorem mvP_zero (p : Nat → Nat → Int) (y : Int) : mvP p y 0 = p := by
  funext a i
  simp [mvP]
theorem mvP_self (p : Nat → Nat → Int) (y : Int) (k i : Nat) : mvP p y k k i = p k i := by simp [mvP]
theorem mvP_put (p : Nat → Nat → Int) (y : Int) (k : Nat) : updK (updK (mvP p y k) k 1 (p k 1 + y)) k 2 (p k 2 + y) = mvP p y (k + 1) := by
  funext a i
  unfold mvP
  by_cases e : a = k ∧ i = 2
  · obtain ⟨rfl, rfl⟩ := e
    rw [updK_at]
    simp
  · rw [updK_ne _ _ (by omega)]
    by_cases e1 : a = k ∧ i = 1
    · obtain ⟨rfl, rfl⟩ := e1
      rw [updK_at]
      simp
    · rw [updK_ne _ _ (by omega)]
      by_cases h : a < k ∧ (i = 1 ∨ i = 2)
      · rw [if_pos h, if_pos ⟨by omega, h.2⟩]
      · rw [if_neg h, if_neg (by omega)]
theorem mvP_all (J : Nat → Nat → Int) (y : Int) {n k : Nat} (hk : k < n) (i : Nat) : mvP J y n k i = mvJ J y k i := by
  unfold mvP mvJ
  by_cases h : i = 1 ∨ i = 2
  · rw [if_pos ⟨hk, h⟩, if_pos h]
  · rw [if_neg (fun e => h e.2), if_neg h]

set_option maxHeartbeats 4000000 in
set_option maxRecDepth 1000000 in
theorem datesLater_walk (A : Option Addr) (n c : Nat) (J : Nat → Nat → Int) (q : Int) (W : World) (h : ArgK 4 W A n c J) (_ : (Lit.int .i64 q).wf = true) : TrueBelow 8 #[.slice A n c, .int .i64 q] W := by
  have hnm : n ≤ maxLen := Nat.le_trans h.1 h.2.1
  have H := Lib.hid h.2.2.2
  have Hn := Lib.hid hnm
  clear h hnm
  show Calls _ _ _ _ _
  go_enter Try.func8, Try.ntmps8
  go_wp2_with fail
  refine (of_any A n c J W H.out Hn.out).mono ?_
  rintro e w1 ⟨x, rfl, hx, hb1⟩
  obtain ⟨Ax, cx, rfl, -, hRx, -, hcx, hcm⟩ := hx.form
  have HX := Lib.hid hRx
  have HB1 := Lib.hid hb1
  have Hm10 := Lib.hid (show min n 10 ≤ maxLen by have := Hn.out; omega)
  have HMin := Lib.hid (okJ_min n J)
  clear hx hRx hb1 hcx hcm
  cases hok : okJ n J with
  | false =>
    have HOk := Lib.hid hok
    have HBad := Lib.hid (show okJ (min n 10) J = false by rw [HMin.out, HOk.out])
    clear hok
    go_wp2_with fail
    refine (plan_bad Ax (min n 10) cx J w1 HX.out Hm10.out HBad.out).use fun w2 hb2 => ?_
    have HB2 := Lib.hid (HB1.out.trans (hb2.mono HB1.out.size))
    clear hb2
    go_wp2_with fail
    refine (of_any A n c J w2 (H.out.keep HB2.out) Hn.out).mono ?_
    rintro e w3 ⟨x, rfl, hx, hb3⟩
    obtain ⟨Ay, cy, rfl, -, hRx, -, hcx, hcm⟩ := hx.form
    have HY := Lib.hid hRx
    have HB3 := Lib.hid (HB2.out.trans (hb3.mono HB2.out.size))
    clear hx hRx hb3 hcx hcm
    go_wp2_with fail
    refine (delay_bad Ay (min n 10) cy J w3 HY.out Hm10.out HBad.out).use fun w4 hb4 => ?_
    have HB4 := Lib.hid (HB3.out.trans (hb4.mono HB3.out.size))
    clear hb4
    go_wp2_with fail
    refine (awake_any w4).use fun w8 hb8 => ?_
    have HB8 := Lib.hid (HB4.out.trans (hb8.mono HB4.out.size))
    clear hb8
    go_wp2
    go_ret
    exact ⟨rfl, HB8.out⟩
  | true =>
    have HOk := Lib.hid hok
    have hn8 := (okJ_iff.1 hok).1
    have hmn : min n 10 = n := by omega
    rw [hmn] at HX ⊢
    have HMn := Lib.hid hmn
    have hn8' := hn8.2
    obtain ⟨y, hy, hU⟩ := by_60 q
    clear hok hmn Hm10 hn8
    go_wp2_with fail
    refine (plan_ok Ax n cx J w1 HX.out HOk.out).mono ?_
    rintro e w2 ⟨v, rfl, hv, hb2⟩
    have HB2 := Lib.hid (HB1.out.trans (hb2.mono HB1.out.size))
    obtain ⟨Av, cv, rfl, -, -, hvb, -⟩ := hv.form
    have HVb := Lib.hid hvb
    have HV := Lib.hid hv
    have Hbase := Lib.hid HB1.out.size
    clear hv hvb hb2
    have hm := plS_m 0 HOk.out
    go_wp2_with fail
    refine (of_any A n c J w2 (H.out.keep HB2.out) Hn.out).mono ?_
    rintro e w3 ⟨x, rfl, hx, hb3⟩
    rw [HMn.out] at hx
    obtain ⟨Ay, cy, rfl, -, hRx, -, hcx, hcm⟩ := hx.form
    have HY := Lib.hid hRx
    have HV3 := Lib.hid (HV.out.below hb3)
    have HS3 := Lib.hid hb3.size
    have HB3 := Lib.hid (HB2.out.trans (hb3.mono HB2.out.size))
    clear hx hRx hb3 hcx hcm
    go_wp2_with fail
    refine (delay_ok Ay n cy J w3 HY.out HOk.out).mono ?_
    rintro e w4 ⟨d, rfl, hd, hb4⟩
    have HV4 := Lib.hid (HV3.out.below hb4)
    have HS42 := Lib.hid (Nat.le_trans HS3.out hb4.size)
    have HB4 := Lib.hid (HB3.out.trans (hb4.mono HB3.out.size))
    have HD := Lib.hid hd
    clear hd hb4
    go_wp2_with fail
    refine (of_any A n c J w4 (H.out.keep HB4.out) Hn.out).mono ?_
    rintro e w5 ⟨x, rfl, hx, hb5⟩
    rw [HMn.out] at hx
    obtain ⟨Az, cz, rfl, -⟩ := hx.form
    have HZ := Lib.hid hx
    have HV5 := Lib.hid (HV4.out.below hb5)
    have HB54 := Lib.hid hb5
    have HS4 := Lib.hid HB4.out.size
    clear hx hb5
    go_wp2_with fail
    go_loopw [49] (fun i wr => ∃ k : Nat, k ≤ n ∧ i = .int .i64 k ∧ OwnK 4 67 wr w4.heap.size (.slice Az n cz) n (mvP J y k) ∧ Below w4.heap.size w4 wr) (fun i _ => n - (intOf i).toNat)
    case atStart => exact ⟨0, Nat.zero_le _, rfl, by rw [mvP_zero]; exact HZ.out, HB54.out⟩
    case round =>
      obtain ⟨k, hk, rfl, hO, hB⟩ := hrel
      have HO := Lib.hid hO
      have HBr := Lib.hid hB
      clear hO hB
      by_cases hlt : k < n
      · obtain ⟨G, cG, ev, hcs, hfr1, hbG, hGl, hmc2, hP1, -⟩ := HO.out.put (k := k) (i := 1) hlt (by omega) (J k 1 + y)
        injection ev with ev1 ev2 ev3
        subst ev1 ev3
        obtain ⟨G', cG', ev, hcs2, hfr2, -, -, -, hP2, -⟩ := hP1.put (k := k) (i := 2) hlt (by omega) (J k 2 + y)
        injection ev with ev1 ev2' ev3
        injection ev1 with ev1
        injection ev1 with ev1
        subst ev1
        have g1 := hcs 1 (by omega)
        have g2 := hcs2 2 (by omega)
        rw [updK_ne _ _ (.inr (by omega))] at g2
        rw [mvP_self] at g1 g2
        rw [mvP_put] at hP2
        have HP2 := Lib.hid hP2
        have hJ := (okJ_iff.1 HOk.out).2 k hlt
        obtain ⟨-, ⟨hJ1, hJ2⟩, ⟨hJ3, hJ4⟩, -⟩ := hJ
        clear hcs hcs2 ev2 ev2' ev3 hP1 hP2
        go_wp2
        go_roundw
        case rel => exact ⟨k + 1, by omega, by go_num, HP2.out, (HBr.out.setCell (p := ⟨G, k * 4 + 1, none⟩) hbG _).setCell (p := ⟨G, k * 4 + 2, none⟩) hbG _⟩
        case measure => simp [intOf]; omega
      · have hkn : n = k := by omega
        subst hkn
        have HL := Lib.hid (HO.out.congr (fun k hk i _ => mvP_all J y hk i))
        obtain ⟨A0, c0, e0, -, hRz, -⟩ := HL.out.form
        injection e0 with e1 e2 e3
        subst e1 e3
        have HR := Lib.hid hRz
        have HV6 := Lib.hid (HV4.out.below HBr.out)
        have HB6 := Lib.hid (HB4.out.trans (HBr.out.mono HB4.out.size))
        clear hRz e2
        cases hok2 : okJ n (mvJ J y) with
        | false =>
          have HBad := Lib.hid hok2
          clear hok2
          go_wp2_with fail
          refine (plan_bad Az n cz (mvJ J y) _ HR.out Hn.out HBad.out).use fun w7 hb7 => ?_
          have HB7 := Lib.hid (HB6.out.trans (hb7.mono HB6.out.size))
          have HR7 := Lib.hid (HR.out.keep hb7)
          clear hb7
          go_wp2_with fail
          refine (delay_bad Az n cz (mvJ J y) w7 HR7.out Hn.out HBad.out).use fun w8 hb8 => ?_
          have HB8 := Lib.hid (HB7.out.trans (hb8.mono HB7.out.size))
          clear hb8
          go_wp2_with fail
          refine (awake_any w8).use fun w9 hb9 => ?_
          have HB9 := Lib.hid (HB8.out.trans (hb9.mono HB8.out.size))
          clear hb9
          go_wp2
          go_ret
          exact ⟨rfl, HB9.out⟩
        | true =>
          have HOk2 := Lib.hid hok2
          clear hok2
          go_wp2_with fail
          refine (plan_ok Az n cz (mvJ J y) _ HR.out HOk2.out).mono ?_
          rintro e w7 ⟨vq, rfl, hvq, hb7⟩
          obtain ⟨Aq, cq, rfl, -⟩ := hvq.form
          have HQ7 := Lib.hid (hvq.rebase (show w4.heap.size ≤ wr.heap.size from HBr.out.size))
          have HV7 := Lib.hid (HV6.out.below (hb7.mono (by have := HV6.out; have := HBr.out.size; omega)))
          have HR7 := Lib.hid (HR.out.keep hb7)
          have HB7 := Lib.hid (HB6.out.trans (hb7.mono HB6.out.size))
          clear hvq hb7
          go_wp2_with fail
          refine (delay_ok Az n cz (mvJ J y) w7 HR7.out HOk2.out).mono ?_
          rintro e w8 ⟨d', rfl, hd', hb8⟩
          obtain rfl := dl_mv HOk.out HOk2.out HD.out hd'
          have HQ8 := Lib.hid (HQ7.out.below hb8)
          have HV8 := Lib.hid (HV7.out.below (hb8.mono (by omega)))
          have HB8 := Lib.hid (HB7.out.trans (hb8.mono HB7.out.size))
          clear hd' hb8
          have HMv := Lib.hid (plS_mv (y := y) HOk.out HOk2.out)
          have HRg := Lib.hid ((stF_inv (ru := 0) HOk.out 260).rng)
          have HPd : Hid (plS 0 n J = stF 0 n J 260) := Lib.hid rfl
          generalize stF 0 n J 260 = PS at *
          rw [HPd.out] at HV8 HMv hm ⊢
          generalize plS 0 n (mvJ J y) = QS at *
          generalize hpm : PS.m = pm at *
          have HPM := Lib.hid hpm
          clear hpm
          go_wp2_with fail
          go_loopw [94] (fun i wr => ∃ k : Nat, k ≤ pm ∧ i = .int .i64 k ∧ OwnK 3 65 wr w1.heap.size (.slice Av pm cv) pm (mvP PS.p y k) ∧ OwnK 3 65 wr w4.heap.size (.slice Aq QS.m cq) QS.m QS.p ∧ Below W.heap.size W wr) (fun i _ => pm - (intOf i).toNat)
          case atStart => exact ⟨0, Nat.zero_le _, rfl, by rw [mvP_zero]; exact HV8.out, HQ8.out, HB8.out⟩
          case round =>
            obtain ⟨k, hk, rfl, hO, hQ, hB⟩ := hrel
            have HO := Lib.hid hO
            have HQ := Lib.hid hQ
            have HBq := Lib.hid hB
            clear hO hQ hB
            by_cases hlt : k < pm
            · obtain ⟨G, cG, ev, hcs, hfr1, hbG, hGl, hmc2, hP1, hE1⟩ := HO.out.put (k := k) (i := 1) hlt (by omega) (PS.p k 1 + y)
              injection ev with ev1 ev2 ev3
              subst ev1 ev3
              obtain ⟨G', cG', ev, hcs2, hfr2, -, -, -, hP2, hE2⟩ := hP1.put (k := k) (i := 2) hlt (by omega) (PS.p k 2 + y)
              injection ev with ev1 ev2' ev3
              injection ev1 with ev1
              injection ev1 with ev1
              subst ev1
              have g1 := hcs 1 (by omega)
              have g2 := hcs2 2 (by omega)
              rw [updK_ne _ _ (.inr (by omega))] at g2
              rw [mvP_self] at g1 g2
              rw [mvP_put] at hP2
              have HP2 := Lib.hid hP2
              have hne : (Value.slice Aq QS.m cq).ownBlock = none ∨ (Value.slice Aq QS.m cq).ownBlock ≠ some G := .inr (fun h => by
                have h1 := (World.ownsRow.lt HQ.out G h).1
                have h2 := (HVb.out G 0 rfl).2.1
                have h3 := HS42.out
                omega)
              have HQ2 := Lib.hid ((HQ.out.exc hE1 hne).exc hE2 hne)
              have HGW := Lib.hid (Nat.le_trans Hbase.out hbG)
              obtain ⟨-, -, hr1, hr2, hr3⟩ := HRg.out k (by have := HPM.out; omega)
              have hr4 : PS.p k 2 ≤ 260 := hr3
              have hr5 : PS.p k 1 ≤ 260 := by omega
              have hr6 : 0 ≤ PS.p k 2 := by omega
              clear hcs hcs2 ev2 ev2' ev3 hP1 hP2 hE1 hE2 hne hr2 hr3
              generalize PS.p k 1 = z1 at *
              generalize PS.p k 2 = z2 at *
              go_wp2
              go_roundw
              case rel => exact ⟨k + 1, by omega, by go_num, HP2.out, HQ2.out, (HBq.out.setCell (p := ⟨G, k * 3 + 1, none⟩) HGW.out _).setCell (p := ⟨G, k * 3 + 2, none⟩) HGW.out _⟩
              case measure => simp [intOf]; omega
            · have hkn : pm = k := by omega
              subst hkn
              obtain ⟨A0, c0, e0, -, hRp, -⟩ := HO.out.form
              injection e0 with e1 e2 e3
              subst e1 e3
              obtain ⟨A0, c0, e0, -, hRq, -⟩ := HQ.out.form
              injection e0 with e1 e2 e3
              subst e1 e3
              have HRp := Lib.hid hRp
              have HRq := Lib.hid hRq
              have HQm := Lib.hid (show QS.m = pm by have := HMv.out.m; have := HPM.out; omega)
              have HEq := Lib.hid (show eqKB pm QS.m (mvP PS.p y pm) QS.p = true by
                unfold eqKB
                rw [HQm.out, allB_t (fun g hg => by
                  obtain ⟨h1, h2, h3⟩ := HMv.out.p g (by have := HPM.out; omega)
                  simp [eqKP, mvP, hg, h1, h2, h3])]
                simp)
              clear hRp hRq
              have hqm : QS.m ≤ 10000 := by have := HQm.out; omega
              have hpm : pm ≤ 10000 := by omega
              generalize QS.m = qm at *
              go_wp2_with fail
              refine (equalD_any _ _ pm qm cv cq _ _ wr HRp.out HRq.out hpm hqm).use fun wE hbE => ?_
              have HBE := Lib.hid (HBq.out.trans (hbE.mono HBq.out.size))
              clear hbE
              rw [HEq.out]
              go_wp2_with fail
              refine (awake_any wE).use fun wF hbF => ?_
              have HBF := Lib.hid (HBE.out.trans (hbF.mono HBE.out.size))
              clear hbF
              go_wp2
              go_ret
              exact ⟨rfl, HBF.out⟩
end Go.Proofs.Ythbahfmcmbjglaa
