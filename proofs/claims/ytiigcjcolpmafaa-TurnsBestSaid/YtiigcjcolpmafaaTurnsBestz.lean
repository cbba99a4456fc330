/- TurnsBest, walked. -/
import Derived.Test.YtiigcjcolpmafaaYM
import Derived.Test.YtiigcjcolpmafaaYN
namespace Go.Proofs.Ytiigcjcolpmafaa
open Go.RowKit

set_option maxHeartbeats 8000000 in
set_option maxRecDepth 1000000 in
theorem turnsBest_walk (AH AS AP : Option Addr) (cH cS cP : Nat) (p : PlanD) (w : World) (hp : PlanArg w AH AS AP cH cS cP p) :
    Calls Try.prog 4 #[.agg #[.slice AH p.nH cH, .slice AS p.nS cS, .slice AP p.nP cP]] w fun e w' => e = .returned (.bool true) ∧ Below w.heap.size w w' := by
  have Hb0 := Lib.hid (below_box w (.cells #[.slice AH p.nH cH, .slice AS p.nS cS, .slice AP p.nP cP] 25))
  have HB0 := Lib.hid (BoxP.newR w AH AS AP p.nH p.nS p.nP cH cS cP)
  have HP := Lib.hid hp
  clear hp
  go_enter Try.func4, Try.ntmps4
  go_wp2_with fail
  refine (of_any AH AS AP cH cS cP p _ (HP.out.keep Hb0.out)).mono ?_
  rintro e w1 ⟨BH, BdH, BS, BdS, BP, BdP, rfl, hpl, hb1⟩
  have Hb1 := Lib.hid (Hb0.out.trans (hb1.mono Hb0.out.size))
  have HPl1 := Lib.hid hpl
  have HBx1 := Lib.hid (HB0.out.keep hb1)
  clear hpl hb1
  cases hok : okPlan p with
  | false =>
    have HC2 := Lib.hid (First_bad BH BS BP BdH BdS BdP (fewP p) w1 HPl1.out (by rw [okPlan_few]; exact hok))
    clear hok
    go_wp2_with fail
    refine Lr.use HC2.out ?_
    intro w2 hb2
    have Hb2 := Lib.hid (Hb1.out.trans (hb2.mono Hb1.out.size))
    clear hb2 HC2
    go_wp2_with fail
    refine (awake_any _).mono ?_
    rintro e w7 ⟨rfl, hb7⟩
    have Hb7 := Lib.hid (Hb2.out.trans (hb7.mono Hb2.out.size))
    clear hb7
    go_wp2
    go_ret
    exact ⟨rfl, Hb7.out⟩
  | true =>
    have HOk := Lib.hid hok
    have HOf : Hid (okPlan (fewP p) = true) := Lib.hid (by rw [okPlan_few]; exact hok)
    have HN := Lib.hid (few_n hok).1
    have HLh := Lib.hid (okPlan_of hok).2.2.1
    have HLs := Lib.hid (okPlan_of hok).2.2.2
    have HPS := Lib.hid (okPlan_of hok).1.2.2.2.2
    obtain ⟨⟨hn1, hn6, -, hs4, -⟩, -⟩ := okPlan_of hok
    have HC2 := Lib.hid (First_ok BH BS BP BdH BdS BdP (fewP p) w1 HPl1.out HOf.out)
    clear hok
    go_wp2_with fail
    refine HC2.out.mono ?_
    rintro e w2 ⟨g, m, a, rfl, hD, hE, hR, -, hb2⟩
    rw [HN.out] at hR ⊢
    have HM := Lib.hid (first_all HOk.out hD hE)
    have HR2 := Lib.hid hR.ints
    have Hb2 := Lib.hid (Hb1.out.trans (hb2.mono Hb1.out.size))
    have HBx2 := Lib.hid (HBx1.out.keep hb2)
    clear hD hE hR hb2 HC2
    obtain ⟨q0, q1, q2⟩ := HBx2.out
    have HC3 := Lib.hid (rValid_any AH AS AP cH cS cP p w2 (HP.out.keep Hb2.out))
    rw [HOk.out] at HC3
    go_wp2_with fail
    refine Lr.use HC3.out ?_
    intro w3 hb3
    have Hb3 := Lib.hid (Hb2.out.trans (hb3.mono Hb2.out.size))
    have HBx3 := Lib.hid (HBx2.out.keep hb3)
    have HR3 := Lib.hid (HR2.out.keep hb3)
    clear hb3 HC3 q0 q1 q2
    have hnn := bne_f (rfl : (p.nH : Int) = p.nH)
    obtain ⟨q0, q1, q2⟩ := HBx3.out
    go_wp2
    clear q0 q1 q2
    go_loopw [42] (fun i wr => ∃ k : Nat, k ≤ p.nS ∧ i = .int .i64 k ∧ (∀ s, s < k → (p.LS s : Int) ≤ p.pl s) ∧ Below w3.heap.size w3 wr) (fun i _ => p.nS - (intOf i).toNat)
    case atStart => exact ⟨0, Nat.zero_le _, rfl, fun s hs => absurd hs (Nat.not_lt_zero _), Below.refl _ _⟩
    case round =>
      obtain ⟨k, hk, rfl, hA, hB⟩ := hrel
      have HB := Lib.hid hB
      have HA := Lib.hid hA
      clear hB hA
      have Hbr := Lib.hid (Hb3.out.trans (HB.out.mono Hb3.out.size))
      by_cases hlt : k < p.nS
      · obtain ⟨y0, y1, y2⟩ := HBx3.out.keep HB.out
        obtain ⟨bS, oS, AR, cR, rfl, hcS, -⟩ := (HP.out.keep Hbr.out).shifts.at hlt
        obtain ⟨bP, oP, rfl, cp⟩ := ((HP.out.keep Hbr.out).places.2.2.2).at (show k < p.nP by have := HPS.out; omega)
        have hki : (k : Int) < p.nS := by omega
        have hkp : (k : Int) < p.nP := by have := HPS.out; omega
        have HS : Hid ((p.LS k : Int) ≤ p.pl k → ∀ s, s < k + 1 → (p.LS s : Int) ≤ p.pl s) := Lib.hid (fun e s hs => by
          rcases Nat.lt_succ_iff_lt_or_eq.1 hs with x | x
          · exact HA.out s x
          · rw [x]; exact e)
        generalize p.pl k = v at *
        generalize p.LS k = L at *
        by_cases hv : v < (L : Int)
        · have d1 : decide (v < (L : Int)) = true := decide_eq_true hv
          go_wp2_with fail
          refine (awake_any _).mono ?_
          rintro e w7 ⟨rfl, hb7⟩
          have Hb7 := Lib.hid (Hbr.out.trans (hb7.mono Hbr.out.size))
          clear hb7
          go_wp2
          go_ret
          exact ⟨rfl, Hb7.out⟩
        · have d1 : decide (v < (L : Int)) = false := decide_eq_false hv
          have HS2 := Lib.hid (HS.out (by omega))
          go_wp2
          go_roundw
          case rel => exact ⟨k + 1, by omega, by go_num, HS2.out, HB.out⟩
          case measure => simp [intOf]; omega
      · obtain rfl : k = p.nS := by omega
        have HM2 : Hid (∀ h, h < p.nH → m h = fbH p h (p.LH h)) := Lib.hid (fun h hh => roomy HOk.out HM.out.1 HA.out hh)
        have HL2 : Hid (∀ h, h < p.nH → midG (fewP p) (kP (fewP p) - 1) h = fbH p h (p.LH h)) := Lib.hid (fun h hh => roomy HOk.out (last_all HOk.out).1 HA.out hh)
        have HBx4 := Lib.hid (HBx3.out.keep HB.out)
        have HR4 := Lib.hid (HR3.out.keep HB.out)
        obtain ⟨q0, q1, q2⟩ := HBx4.out
        clear HM HA
        go_wp2_with fail
        refine (of_any AH AS AP cH cS cP p _ (HP.out.keep Hbr.out)).mono ?_
        rintro e w5 ⟨CH, CdH, CS, CdS, CP, CdP, rfl, hpl, hb5⟩
        have Hb5 := Lib.hid (Hbr.out.trans (hb5.mono Hbr.out.size))
        have HPl5 := Lib.hid hpl
        have HBx5 := Lib.hid (HBx4.out.keep hb5)
        have HR5 := Lib.hid (HR4.out.keep hb5)
        clear hpl hb5 q0 q1 q2
        have HC6 := Lib.hid (Last_ok CH CS CP CdH CdS CdP (fewP p) w5 HPl5.out HOf.out)
        go_wp2_with fail
        refine HC6.out.mono ?_
        rintro e w6 ⟨g', rfl, hR, hb6⟩
        rw [HN.out] at hR ⊢
        revert hR HL2
        generalize midG (fewP p) (kP (fewP p) - 1) = l
        intro HL2 hR
        have HS6 := Lib.hid hR.ints
        have Hb6 := Lib.hid (Hb5.out.trans (hb6.mono Hb5.out.size))
        have HBx6 := Lib.hid (HBx5.out.keep hb6)
        have HR6 := Lib.hid (HR5.out.keep hb6)
        clear hR hb6 HC6
        obtain ⟨q0, q1, q2⟩ := HBx6.out
        go_wp2
        clear q0 q1 q2
        go_loopw [75] (fun i wr => ∃ k : Nat, k ≤ p.nH ∧ i = .int .i64 k ∧ Below w6.heap.size w6 wr) (fun i _ => p.nH - (intOf i).toNat)
        case atStart => exact ⟨0, Nat.zero_le _, rfl, Below.refl _ _⟩
        case round =>
          obtain ⟨h, hh, rfl, hB⟩ := hrel
          rename World => wo
          have HBh := Lib.hid hB
          clear hB
          have Hbh := Lib.hid (Hb6.out.trans (HBh.out.mono Hb6.out.size))
          have HBo := Lib.hid (HBx6.out.keep HBh.out)
          by_cases hhn : h < p.nH
          · obtain ⟨y0, y1, y2⟩ := HBo.out
            have HIH : Hid (∃ bH oH AR cR, AH = some ⟨bH, oH, none⟩ ∧ wo.cell? ⟨bH, oH + h, none⟩ = some (.slice AR (p.LH h) cR) ∧ Ints wo AR (p.LH h) (p.vH h)) := Lib.hid (by
              obtain ⟨bH, oH, AR, cR, e, hcH, hIH⟩ := (HP.out.keep Hbh.out).hands.at hhn
              exact ⟨bH, oH, AR, cR, e, hcH, hIH.2.2.2⟩)
            obtain ⟨bH, oH, AR, cR, rfl, hcH, hIH⟩ := HIH.out
            have HIR := Lib.hid hIH
            have hhi : (h : Int) < p.nH := by omega
            have HLo := Lib.hid (HLh.out h hhn)
            have hL4 : (p.LH h : Int) ≤ 4 := by have := (HLh.out h hhn).1; omega
            clear hIH HIH
            go_wp2
            clear hcH
            go_loopw [10, 82] (fun b j wr => ∃ k : Nat, k ≤ p.LH h ∧ j = .int .i64 k ∧ b = .int .i64 (fbH p h k) ∧ Below wo.heap.size wo wr) (fun _ j _ => p.LH h - (intOf j).toNat)
            case atStart => exact ⟨0, Nat.zero_le _, rfl, rfl, Below.refl _ _⟩
            case round =>
              obtain ⟨j, hj, rfl, rfl, hB⟩ := hrel
              have HBj := Lib.hid hB
              clear hB y0 y1 y2
              have Hbj := Lib.hid (Hbh.out.trans (HBj.out.mono Hbh.out.size))
              have HBw := Lib.hid (HBh.out.trans (HBj.out.mono HBh.out.size))
              by_cases hjl : j < p.LH h
              · obtain ⟨bI, oI, rfl, cI⟩ := (HIR.out.keep HBj.out).at hjl
                have hv := HLo.out.2 j hjl
                obtain ⟨s, hs⟩ : ∃ s : Nat, p.vH h j = s := ⟨(p.vH h j).toNat, by omega⟩
                have hsS : s < p.nS := by omega
                have hL9 : p.LS s ≤ 9 := by have := (HLs.out s hsS).1; omega
                have HF : Hid (fbH p h (j + 1) = if fbH p h j < 0 ∧ atF (p.vS s) (p.LS s) (h : Int) < 99 then (s : Int) else fbH p h j) := Lib.hid (by
                  show (if _ then _ else _) = _
                  rw [hs, Int.toNat_natCast]
                  by_cases e : 0 ≤ idxI (p.vS s) (h : Int) (p.LS s)
                  · have e2 := (atF_99 hL9).2 e
                    by_cases e3 : fbH p h j < 0
                    · rw [if_pos ⟨e3, e⟩, if_pos ⟨e3, e2⟩]
                    · rw [if_neg (fun x => e3 x.1), if_neg (fun x => e3 x.1)]
                  · have e2 := fun x => e ((atF_99 hL9).1 x)
                    rw [if_neg (fun x => e x.2), if_neg (fun x => e2 x.2)])
                obtain ⟨bS, oS, AR2, cR2, rfl, hcS, hIS⟩ := (HP.out.keep Hbj.out).shifts.at hsS
                have hA1 := Lib.hid (at_any AR2 (p.LS s) cR2 (p.vS s) (h : Int) wr hIS.2.2.2 hL9)
                obtain ⟨y0, y1, y2⟩ := HBo.out.keep HBj.out
                have hji : (j : Int) < p.LH h := by omega
                have hj4 : (j : Int) ≤ 4 := by omega
                have hsi : (s : Int) < p.nS := by omega
                rw [hs] at cI
                clear hv hIS
                generalize atF (p.vS s) (p.LS s) (h : Int) = r at *
                generalize fbH p h j = fb at *
                by_cases hf : fb < 0
                · have d0 : decide (fb < 0) = true := decide_eq_true hf
                  by_cases hr : r < 99
                  · have d1 : decide (r < 99) = true := decide_eq_true hr
                    have HF2 := Lib.hid (HF.out.trans (if_pos ⟨hf, hr⟩))
                    go_wp2_with fail
                    refine Lr.use hA1.out ?_
                    intro w8 hb8
                    have HB2 := Lib.hid (HBj.out.trans (hb8.mono HBj.out.size))
                    clear hb8 hA1
                    go_wp2
                    go_roundw
                    case rel => exact ⟨j + 1, by omega, by go_num, by rw [HF2.out], HB2.out⟩
                    case measure => simp [intOf]; omega
                  · have d1 : decide (r < 99) = false := decide_eq_false hr
                    have HF2 := Lib.hid (HF.out.trans (if_neg (fun x => hr x.2)))
                    go_wp2_with fail
                    refine Lr.use hA1.out ?_
                    intro w8 hb8
                    have HB2 := Lib.hid (HBj.out.trans (hb8.mono HBj.out.size))
                    clear hb8 hA1
                    go_wp2
                    go_roundw
                    case rel => exact ⟨j + 1, by omega, by go_num, by rw [HF2.out], HB2.out⟩
                    case measure => simp [intOf]; omega
                · have d0 : decide (fb < 0) = false := decide_eq_false hf
                  have HF2 := Lib.hid (HF.out.trans (if_neg (fun x => hf x.1)))
                  clear hA1
                  go_wp2
                  go_roundw
                  case rel => exact ⟨j + 1, by omega, by go_num, by rw [HF2.out], HBj.out⟩
                  case measure => simp [intOf]; omega
              · obtain rfl : j = p.LH h := by omega
                have c1 := (HR6.out.keep HBw.out).cell hhn
                have c2 := (HS6.out.keep HBw.out).cell hhn
                rw [HM2.out h hhn, Nat.zero_add] at c1
                rw [HL2.out h hhn, Nat.zero_add] at c2
                generalize fbH p h (p.LH h) = fb at *
                have b1 := bne_f (rfl : fb = fb)
                go_wp2
                clear c1 c2
                go_roundw
                case rel => exact ⟨h + 1, by omega, by go_num, HBw.out⟩
                case measure => simp [intOf]; omega
          · obtain rfl : h = p.nH := by omega
            go_wp2_with fail
            refine (awake_any _).mono ?_
            rintro e w7 ⟨rfl, hb7⟩
            have Hb7 := Lib.hid (Hbh.out.trans (hb7.mono Hbh.out.size))
            clear hb7
            go_wp2
            go_ret
            exact ⟨rfl, Hb7.out⟩
end Go.Proofs.Ytiigcjcolpmafaa

