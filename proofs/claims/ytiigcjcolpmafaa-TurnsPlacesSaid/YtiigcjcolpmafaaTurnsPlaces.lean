/- TurnsPlaces, walked. -/
import Derived.Test.YtiigcjcolpmafaaYg
namespace Go.Proofs.Ytiigcjcolpmafaa
open Go.RowKit

set_option maxHeartbeats 8000000 in
set_option maxRecDepth 1000000 in
theorem turnsPlaces_walk (AH AS AP : Option Addr) (cH cS cP : Nat) (p : PlanD) (w : World) (hp : PlanArg w AH AS AP cH cS cP p) :
    Calls Try.prog 8 #[.agg #[.slice AH p.nH cH, .slice AS p.nS cS, .slice AP p.nP cP]] w fun e w' => e = .returned (.bool true) ∧ Below w.heap.size w w' := by
  have Hb0 := Lib.hid (below_box w (.cells #[.slice AH p.nH cH, .slice AS p.nS cS, .slice AP p.nP cP] 25))
  have HB0 := Lib.hid (BoxP.newR w AH AS AP p.nH p.nS p.nP cH cS cP)
  have HP := Lib.hid hp
  clear hp
  go_enter Try.func8, Try.ntmps8
  go_wp2_with fail
  refine (of_any AH AS AP cH cS cP p _ (HP.out.keep Hb0.out)).mono ?_
  rintro e w1 ⟨BH, BdH, BS, BdS, BP, BdP, rfl, hpl, hb1⟩
  have Hb1 := Lib.hid (Hb0.out.trans (hb1.mono Hb0.out.size))
  have HPl1 := Lib.hid hpl
  have HBx1 := Lib.hid (HB0.out.keep hb1)
  clear hpl hb1
  cases hok : okPlan p with
  | false =>
    have HC2 := Lib.hid (Stable_bad BH BS BP BdH BdS BdP (fewP p) w1 HPl1.out (by rw [okPlan_few]; exact hok))
    clear hok
    go_wp2_with fail
    refine Lr.use HC2.out ?_
    intro w2 hb2
    have Hb2 := Lib.hid (Hb1.out.trans (hb2.mono Hb1.out.size))
    clear hb2 HC2
    go_wp2_with fail
    refine (awake_any _).mono ?_
    rintro e w7 ⟨rfl, hb7⟩
    have Hb7 := Lib.hid (Hb2.out.trans (hb7.mono Hb2.out.size))
    clear hb7
    go_wp2
    go_ret
    exact ⟨rfl, Hb7.out⟩
  | true =>
    have HOk := Lib.hid hok
    have HSt : Hid (stL (fewP p) (fewP p).nH 0 (fun _ => -1) = LsP p) := Lib.hid (by rw [(few_n hok).1]; exact stL_few hok _ _ _ (by omega))
    have HC2 := Lib.hid (Stable_ok BH BS BP BdH BdS BdP (fewP p) w1 HPl1.out (by rw [okPlan_few]; exact hok))
    have HKl : Hid (kP p ≤ 100000) := Lib.hid (by
      obtain ⟨⟨a1, a2, a3, a4, -⟩, -⟩ := okPlan_of hok
      have h1 := stL_len p a4 p.nH 0 (fun _ => -1)
      have h2 : 5 ^ p.nH ≤ 5 ^ 6 := Nat.pow_le_pow_right (by omega) a2
      unfold kP LsP
      omega)
    have hkk := kP_pos hok
    have HSb := Lib.hid (fun i (hi : i < kP p) => mm_stb hok hi)
    have HMl := Lib.hid (fun i (hi : i < kP p) => mm_len hok hi)
    have HPl := Lib.hid (okPlan_of hok).1
    have hn6 : p.nH ≤ 6 := (okPlan_of hok).1.2.1
    have hn1 : 1 ≤ p.nH := (okPlan_of hok).1.1
    clear hok
    go_wp2_with fail
    refine HC2.out.mono ?_
    rintro e w2 ⟨x2, rfl, hx2, hb2⟩
    rw [HSt.out] at hx2
    obtain ⟨AY, cY, rfl, hrw⟩ := hx2.rows
    have hM : Mat w2 AY (kP p) p.nH (mmP p) := Mat.of hrw (fun i hi => HMl.out i hi)
    obtain ⟨bY, oY, A0, d0, rfl, -, -⟩ := hM.at hkk
    have hK : (LsP p).length = kP p := rfl
    rw [hK]
    have HM := Lib.hid hM
    have Hb2 := Lib.hid (Hb1.out.trans (hb2.mono Hb1.out.size))
    have HBx2 := Lib.hid (HBx1.out.keep hb2)
    clear hx2 hrw hM hb2 HC2 hK
    obtain ⟨q0, q1, q2⟩ := HBx2.out
    have hkz := beq_f (show ¬ ((kP p : Nat) : Int) = 0 by omega)
    have hkkc : (0 : Int) < (kP p : Nat) := by omega
    have HC3 := Lib.hid (rValid_any AH AS AP cH cS cP p w2 (HP.out.keep Hb2.out))
    rw [HOk.out] at HC3
    go_wp2_with fail
    refine Lr.use HC3.out ?_
    intro w3 hb3
    have Hb3 := Lib.hid (Hb2.out.trans (hb3.mono Hb2.out.size))
    have HBx3 := Lib.hid (HBx2.out.keep hb3)
    have HM3 := Lib.hid (HM.out.keep hb3)
    clear hb3 HC3 q0 q1 q2
    have hnn := bne_f (rfl : (p.nH : Int) = p.nH)
    have hkl : kP p ≤ 100000 := HKl.out
    have hkl2 : ((kP p : Nat) : Int) ≤ 100000 := by omega
    obtain ⟨A0, c0, e00, h00⟩ := HM3.out.cell0 hkk
    have HE0 := Lib.hid e00
    have H00 := Lib.hid h00
    clear e00 h00
    go_wp2
    go_loopw [40] (fun i wr => ∃ k : Nat, k ≤ kP p ∧ i = .int .i64 k ∧ Below w3.heap.size w3 wr) (fun i _ => kP p - (intOf i).toNat)
    case atStart => exact ⟨0, Nat.zero_le _, rfl, Below.refl _ _⟩
    case round =>
      obtain ⟨i, hi, rfl, hB⟩ := hrel
      have HB := Lib.hid hB
      clear hB
      by_cases hik : i < kP p
      · obtain ⟨y0, y1, y2⟩ := HBx3.out.keep HB.out
        obtain ⟨AI, cI, eI, hII⟩ := HM3.out.cell hik
        have HII := Lib.hid hII
        have e1 := old_cell eI HB.out
        have HSi := Lib.hid (HSb.out i hik)
        have HS0 := Lib.hid (HSb.out 0 hkk)
        have hiki : (i : Int) < (kP p : Nat) := by omega
        clear hII eI
        go_wp2
        clear e1
        go_loopw [52] (fun j wr => ∃ k : Nat, k ≤ p.nH ∧ j = .int .i64 k ∧ Below w3.heap.size w3 wr) (fun j _ => p.nH - (intOf j).toNat)
        case atStart => exact ⟨0, Nat.zero_le _, rfl, HB.out⟩
        case round =>
          obtain ⟨h, hh, rfl, hBh⟩ := hrel
          have HBh := Lib.hid hBh
          clear hBh y0 y1 y2
          by_cases hhn : h < p.nH
          · obtain ⟨bi, oi, rfl, c1⟩ := (HII.out.keep HBh.out).at hhn
            obtain ⟨bz, oz, rfl, c2⟩ := (H00.out.keep HBh.out).at hhn
            have c3 := old_cell HE0.out HBh.out
            have hhi : (h : Int) < p.nH := by omega
            have hneg : (mmP p i h < 0) ↔ (mmP p 0 h < 0) := by
              have r1 := HSi.out.rng HOk.out hhn
              have r2 := HS0.out.rng HOk.out hhn
              constructor
              · intro e
                have := stb_none HOk.out HSi.out HS0.out hhn (by omega)
                omega
              · intro e
                have := stb_none HOk.out HS0.out HSi.out hhn (by omega)
                omega
            generalize mmP p i h = v1 at *
            generalize mmP p 0 h = v2 at *
            by_cases hv : v1 < 0
            · have d1 : decide (v1 < 0) = true := decide_eq_true hv
              have d2 : decide (v2 < 0) = true := decide_eq_true (hneg.1 hv)
              clear hneg
              go_wp2
              go_roundw
              case rel => exact ⟨h + 1, by omega, by go_num, HBh.out⟩
              case measure => simp [intOf]; omega
            · have d1 : decide (v1 < 0) = false := decide_eq_false hv
              have d2 : decide (v2 < 0) = false := decide_eq_false (fun e => hv (hneg.2 e))
              clear hneg
              go_wp2
              go_roundw
              case rel => exact ⟨h + 1, by omega, by go_num, HBh.out⟩
              case measure => simp [intOf]; omega
          · obtain rfl : h = p.nH := by omega
            obtain ⟨y0, y1, y2⟩ := HBx3.out.keep HBh.out
            go_wp2
            clear y0 y1 y2
            go_loopw [71] (fun j wr => ∃ k : Nat, k ≤ p.nP ∧ j = .int .i64 k ∧ Below w3.heap.size w3 wr) (fun j _ => p.nP - (intOf j).toNat)
            case atStart => exact ⟨0, Nat.zero_le _, rfl, HBh.out⟩
            case round =>
              obtain ⟨s, hs, rfl, hBs⟩ := hrel
              have HBs := Lib.hid hBs
              clear hBs
              by_cases hsn : s < p.nP
              · obtain ⟨bP, oP, rfl, cp⟩ := ((HP.out.keep (Hb3.out.trans (HBs.out.mono Hb3.out.size))).places.2.2.2).at hsn
                have hsS : s < p.nS := by have := HPl.out; omega
                have hsi : (s : Int) < p.nP := by omega
                have hs4 : (s : Int) ≤ 4 := by have := HPl.out; omega
                have HCn := Lib.hid (stb_cnt HOk.out HSi.out HS0.out hsS)
                have HFr := Lib.hid (fun (hf : (cnt (mmP p i) s p.nH : Int) < p.pl s) h (hh : h < p.nH) => (⟨fun e => stb_free HOk.out HSi.out HS0.out hsS hf hh e, fun e => stb_free HOk.out HS0.out HSi.out hsS (by rw [← HCn.out]; exact hf) hh e⟩ : mmP p i h = s ↔ mmP p 0 h = s))
                go_wp2
                clear cp
                go_loopw [11, 12, 13, 78] (fun n k al j wr => ∃ (h : Nat) (b : Bool), h ≤ p.nH ∧ j = .int .i64 h ∧ n = .int .i64 (cnt (mmP p i) s h : Nat) ∧ k = .int .i64 (cnt (mmP p 0) s h : Nat) ∧ al = .bool b ∧ (b = false → ∃ x, x < h ∧ ¬ (mmP p i x = s ↔ mmP p 0 x = s)) ∧ Below w3.heap.size w3 wr) (fun _ _ _ j _ => p.nH - (intOf j).toNat)
                case atStart => exact ⟨0, true, Nat.zero_le _, rfl, rfl, rfl, rfl, (fun e => by cases e), HBs.out⟩
                case round =>
                  obtain ⟨h, b, hh, rfl, rfl, rfl, rfl, hb, hBh⟩ := hrel
                  have HBq := Lib.hid hBh
                  have HBb := Lib.hid hb
                  clear hBh hb
                  have hc1 := cnt_le (mmP p i) (s : Int) h
                  have hc2 := cnt_le (mmP p 0) (s : Int) h
                  by_cases hhn : h < p.nH
                  · obtain ⟨bi, oi, rfl, c1⟩ := (HII.out.keep HBq.out).at hhn
                    obtain ⟨bz, oz, rfl, c2⟩ := (H00.out.keep HBq.out).at hhn
                    have c3 := old_cell HE0.out HBq.out
                    have hhi : (h : Int) < p.nH := by omega
                    have HS1 : Hid (cnt (mmP p i) s (h + 1) = if mmP p i h = s then cnt (mmP p i) s h + 1 else cnt (mmP p i) s h) := Lib.hid rfl
                    have HS2 : Hid (cnt (mmP p 0) s (h + 1) = if mmP p 0 h = s then cnt (mmP p 0) s h + 1 else cnt (mmP p 0) s h) := Lib.hid rfl
                    have HBn : Hid (∀ b', (b' = false → (b = false ∨ ¬ (mmP p i h = s ↔ mmP p 0 h = s))) → b' = false → ∃ x, x < h + 1 ∧ ¬ (mmP p i x = s ↔ mmP p 0 x = s)) := Lib.hid (fun b' h1 h2 => by
                      rcases h1 h2 with h3 | h3
                      · obtain ⟨x, hx, hx2⟩ := HBb.out h3
                        exact ⟨x, by omega, hx2⟩
                      · exact ⟨h, by omega, h3⟩)
                    generalize mmP p i h = v1 at *
                    generalize mmP p 0 h = v2 at *
                    generalize cnt (mmP p i) s h = k1 at *
                    generalize cnt (mmP p 0) s h = k2 at *
                    have hki1 : (k1 : Int) ≤ 6 := by omega
                    have hki2 : (k2 : Int) ≤ 6 := by omega
                    by_cases hv1 : v1 = s
                    · by_cases hv2 : v2 = s
                      · have b1 := beq_t hv1
                        have b2 := beq_t hv2
                        have HT1 := Lib.hid (HS1.out.trans (if_pos hv1))
                        have HT2 := Lib.hid (HS2.out.trans (if_pos hv2))
                        have HTb := Lib.hid (HBn.out b (fun e => .inl e))
                        clear hv1 hv2
                        cases b with
                        | false =>
                          go_wp2_with fail
                          go_quiet (fail)
                          rename_i nq
                          have HB2 := Lib.hid (HBq.out.trans (((Dn.refl wr).drewN nq).below _))
                          go_wp2
                          go_roundw
                          case rel => exact ⟨h + 1, false, by omega, by go_num, by rw [HT1.out]; go_num, by rw [HT2.out]; go_num, rfl, (by first | exact HTb.out | exact fun _ => HTb.out trivial | exact fun e => by cases e), HB2.out⟩
                          case measure => simp [intOf]; omega
                        | true =>
                          go_wp2_with fail
                          go_quiet (fail)
                          rename_i nq
                          have HB2 := Lib.hid (HBq.out.trans (((Dn.refl wr).drewN nq).below _))
                          go_wp2
                          go_roundw
                          case rel => exact ⟨h + 1, true, by omega, by go_num, by rw [HT1.out]; go_num, by rw [HT2.out]; go_num, rfl, (by first | exact HTb.out | exact fun _ => HTb.out trivial | exact fun e => by cases e), HB2.out⟩
                          case measure => simp [intOf]; omega
                      · have b1 := beq_t hv1
                        have b2 := beq_f hv2
                        have HT1 := Lib.hid (HS1.out.trans (if_pos hv1))
                        have HT2 := Lib.hid (HS2.out.trans (if_neg hv2))
                        have HTb := Lib.hid (HBn.out false (fun _ => .inr (fun h => hv2 (h.1 hv1))))
                        clear hv1 hv2
                        cases b with
                        | false =>
                          go_wp2_with fail
                          go_quiet (fail)
                          rename_i nq
                          have HB2 := Lib.hid (HBq.out.trans (((Dn.refl wr).drewN nq).below _))
                          go_wp2
                          go_roundw
                          case rel => exact ⟨h + 1, false, by omega, by go_num, by rw [HT1.out]; go_num, by rw [HT2.out], rfl, (by first | exact HTb.out | exact fun _ => HTb.out trivial | exact fun e => by cases e), HB2.out⟩
                          case measure => simp [intOf]; omega
                        | true =>
                          go_wp2_with fail
                          go_quiet (fail)
                          rename_i nq
                          have HB2 := Lib.hid (HBq.out.trans (((Dn.refl wr).drewN nq).below _))
                          go_wp2
                          go_roundw
                          case rel => exact ⟨h + 1, false, by omega, by go_num, by rw [HT1.out]; go_num, by rw [HT2.out], rfl, (by first | exact HTb.out | exact fun _ => HTb.out trivial | exact fun e => by cases e), HB2.out⟩
                          case measure => simp [intOf]; omega
                    · by_cases hv2 : v2 = s
                      · have b1 := beq_f hv1
                        have b2 := beq_t hv2
                        have HT1 := Lib.hid (HS1.out.trans (if_neg hv1))
                        have HT2 := Lib.hid (HS2.out.trans (if_pos hv2))
                        have HTb := Lib.hid (HBn.out false (fun _ => .inr (fun h => hv1 (h.2 hv2))))
                        clear hv1 hv2
                        cases b with
                        | false =>
                          go_wp2_with fail
                          go_quiet (fail)
                          rename_i nq
                          have HB2 := Lib.hid (HBq.out.trans (((Dn.refl wr).drewN nq).below _))
                          go_wp2
                          go_roundw
                          case rel => exact ⟨h + 1, false, by omega, by go_num, by rw [HT1.out], by rw [HT2.out]; go_num, rfl, (by first | exact HTb.out | exact fun _ => HTb.out trivial | exact fun e => by cases e), HB2.out⟩
                          case measure => simp [intOf]; omega
                        | true =>
                          go_wp2_with fail
                          go_quiet (fail)
                          rename_i nq
                          have HB2 := Lib.hid (HBq.out.trans (((Dn.refl wr).drewN nq).below _))
                          go_wp2
                          go_roundw
                          case rel => exact ⟨h + 1, false, by omega, by go_num, by rw [HT1.out], by rw [HT2.out]; go_num, rfl, (by first | exact HTb.out | exact fun _ => HTb.out trivial | exact fun e => by cases e), HB2.out⟩
                          case measure => simp [intOf]; omega
                      · have b1 := beq_f hv1
                        have b2 := beq_f hv2
                        have HT1 := Lib.hid (HS1.out.trans (if_neg hv1))
                        have HT2 := Lib.hid (HS2.out.trans (if_neg hv2))
                        have HTb := Lib.hid (HBn.out b (fun e => .inl e))
                        clear hv1 hv2
                        cases b with
                        | false =>
                          go_wp2_with fail
                          go_quiet (fail)
                          rename_i nq
                          have HB2 := Lib.hid (HBq.out.trans (((Dn.refl wr).drewN nq).below _))
                          go_wp2
                          go_roundw
                          case rel => exact ⟨h + 1, false, by omega, by go_num, by rw [HT1.out], by rw [HT2.out], rfl, (by first | exact HTb.out | exact fun _ => HTb.out trivial | exact fun e => by cases e), HB2.out⟩
                          case measure => simp [intOf]; omega
                        | true =>
                          go_wp2_with fail
                          go_quiet (fail)
                          rename_i nq
                          have HB2 := Lib.hid (HBq.out.trans (((Dn.refl wr).drewN nq).below _))
                          go_wp2
                          go_roundw
                          case rel => exact ⟨h + 1, true, by omega, by go_num, by rw [HT1.out], by rw [HT2.out], rfl, (by first | exact HTb.out | exact fun _ => HTb.out trivial | exact fun e => by cases e), HB2.out⟩
                          case measure => simp [intOf]; omega
                  · obtain rfl : h = p.nH := by omega
                    have HBt : Hid ((cnt (mmP p i) s p.nH : Int) < p.pl s → b = true) := Lib.hid (fun hf => by
                      cases b with
                      | true => rfl
                      | false =>
                        obtain ⟨x, hx, hne⟩ := HBb.out rfl
                        exact absurd (HFr.out hf x hx) hne)
                    have e12 := HCn.out
                    have hq : (((cnt (mmP p i) s p.nH : Nat) : Int) != (cnt (mmP p 0) s p.nH : Nat)) = false := bne_f (by rw [e12])
                    generalize cnt (mmP p i) s p.nH = k1 at *
                    generalize cnt (mmP p 0) s p.nH = k2 at *
                    generalize p.pl s = pls at *
                    clear e12
                    by_cases hf : (k1 : Int) < pls
                    · have d1 : decide ((k1 : Int) < pls) = true := decide_eq_true hf
                      obtain rfl := HBt.out hf
                      go_wp2
                      go_roundw
                      case rel => exact ⟨s + 1, by omega, by go_num, HBq.out⟩
                      case measure => simp [intOf]; omega
                    · have d1 : decide ((k1 : Int) < pls) = false := decide_eq_false hf
                      go_wp2
                      go_roundw
                      case rel => exact ⟨s + 1, by omega, by go_num, HBq.out⟩
                      case measure => simp [intOf]; omega
              · obtain rfl : s = p.nP := by omega
                go_wp2
                go_roundw
                case rel => exact ⟨i + 1, by omega, by go_num, HBs.out⟩
                case measure => simp [intOf]; omega
      · obtain rfl : i = kP p := by omega
        have Hbr := Lib.hid (Hb3.out.trans (HB.out.mono Hb3.out.size))
        go_wp2_with fail
        refine (awake_any _).mono ?_
        rintro e w7 ⟨rfl, hb7⟩
        have Hb7 := Lib.hid (Hbr.out.trans (hb7.mono Hbr.out.size))
        clear hb7
        go_wp2
        go_ret
        exact ⟨rfl, Hb7.out⟩
end Go.Proofs.Ytiigcjcolpmafaa
