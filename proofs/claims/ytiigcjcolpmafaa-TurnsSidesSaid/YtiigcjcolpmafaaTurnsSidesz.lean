/- TurnsSides, walked. -/
import Derived.Test.YtiigcjcolpmafaaYM
namespace Go.Proofs.Ytiigcjcolpmafaa
open Go.RowKit

theorem atF_rk {f : Nat → Int} {L : Nat} (hL : L ≤ 9) {x y : Int} (h : atF f L x ≤ atF f L y) : rkI f L x ≤ rkI f L y := by
  unfold atF at h
  have h1 := idxI_bd f x L
  have h2 := idxI_bd f y L
  have h3 := rkI_bd f L x
  by_cases e : 0 ≤ idxI f y L
  · rw [if_pos e] at h
    by_cases g : 0 ≤ idxI f x L
    · rw [if_pos g] at h
      rw [(rkI_sm2 e).1, (rkI_sm2 g).1]
      exact h
    · rw [if_neg g] at h
      omega
  · rw [rkI_nn2 (x := y) (by omega)]
    exact h3.2
theorem gd_go {p : PlanD} (hok : okPlan p = true) {a b : Nat → Int} (h : gdB p a b = true) : ∀ x, x < p.nH → rHd p x (a x) ≤ rHd p x (b x) := fun x hx => by
  have h1 := of_decide_eq_true (allB_iff.1 h x hx)
  have h2 := ((okPlan_of hok).2.2.1 x hx).1
  have h3 := (okPlan_of hok).1.2.2.2.1
  exact atF_rk (by omega) h1
theorem plL_le {p : PlanD} (hok : okPlan p = true) (s : Nat) (m : Nat → Int) {h : Nat} (hh : h ≤ p.nH) : (plL p s m h).length ≤ 6 := by
  have h1 := cnt_le m (s : Int) h
  have h2 := (okPlan_of hok).1.2.1
  rw [plL_len]
  omega

set_option maxHeartbeats 8000000 in
set_option maxRecDepth 1000000 in
theorem turnsSides_walk (AH AS AP : Option Addr) (cH cS cP : Nat) (p : PlanD) (w : World) (hp : PlanArg w AH AS AP cH cS cP p) :
    Calls Try.prog 7 #[.agg #[.slice AH p.nH cH, .slice AS p.nS cS, .slice AP p.nP cP]] w fun e w' => e = .returned (.bool true) ∧ Below w.heap.size w w' := by
  have Hb0 := Lib.hid (below_box w (.cells #[.slice AH p.nH cH, .slice AS p.nS cS, .slice AP p.nP cP] 25))
  have HB0 := Lib.hid (BoxP.newR w AH AS AP p.nH p.nS p.nP cH cS cP)
  have HP := Lib.hid hp
  clear hp
  go_enter Try.func7, Try.ntmps7
  go_wp2_with fail
  refine (of_any AH AS AP cH cS cP p _ (HP.out.keep Hb0.out)).mono ?_
  rintro e w1 ⟨BH, BdH, BS, BdS, BP, BdP, rfl, hpl, hb1⟩
  have Hb1 := Lib.hid (Hb0.out.trans (hb1.mono Hb0.out.size))
  have HPl1 := Lib.hid hpl
  have HBx1 := Lib.hid (HB0.out.keep hb1)
  clear hpl hb1
  cases hok : okPlan p with
  | false =>
    have HC2 := Lib.hid (Stable_bad BH BS BP BdH BdS BdP (fewP p) w1 HPl1.out (by rw [okPlan_few]; exact hok))
    clear hok
    go_wp2_with fail
    refine Lr.use HC2.out ?_
    intro w2 hb2
    have Hb2 := Lib.hid (Hb1.out.trans (hb2.mono Hb1.out.size))
    clear hb2 HC2
    go_wp2_with fail
    refine (awake_any _).mono ?_
    rintro e w7 ⟨rfl, hb7⟩
    have Hb7 := Lib.hid (Hb2.out.trans (hb7.mono Hb2.out.size))
    clear hb7
    go_wp2
    go_ret
    exact ⟨rfl, Hb7.out⟩
  | true =>
    have HOk := Lib.hid hok
    have HSt : Hid (stL (fewP p) (fewP p).nH 0 (fun _ => -1) = LsP p) := Lib.hid (by rw [(few_n hok).1]; exact stL_few hok _ _ _ (by omega))
    have HC2 := Lib.hid (Stable_ok BH BS BP BdH BdS BdP (fewP p) w1 HPl1.out (by rw [okPlan_few]; exact hok))
    have HKl : Hid (kP p ≤ 100000) := Lib.hid (by
      obtain ⟨⟨a1, a2, a3, a4, -⟩, -⟩ := okPlan_of hok
      have h1 := stL_len p a4 p.nH 0 (fun _ => -1)
      have h2 : 5 ^ p.nH ≤ 5 ^ 6 := Nat.pow_le_pow_right (by omega) a2
      unfold kP LsP
      omega)
    have hkk := kP_pos hok
    have HSb := Lib.hid (fun i (hi : i < kP p) => mm_stb hok hi)
    have HMl := Lib.hid (fun i (hi : i < kP p) => mm_len hok hi)
    have HPl := Lib.hid (okPlan_of hok).1
    have hn6 : p.nH ≤ 6 := (okPlan_of hok).1.2.1
    have hn1 : 1 ≤ p.nH := (okPlan_of hok).1.1
    clear hok
    go_wp2_with fail
    refine HC2.out.mono ?_
    rintro e w2 ⟨x2, rfl, hx2, hb2⟩
    rw [HSt.out] at hx2
    obtain ⟨AY, cY, rfl, hrw⟩ := hx2.rows
    have hM : Mat w2 AY (kP p) p.nH (mmP p) := Mat.of hrw (fun i hi => HMl.out i hi)
    obtain ⟨bY, oY, A0, d0, rfl, -, -⟩ := hM.at hkk
    have hK : (LsP p).length = kP p := rfl
    rw [hK]
    have HM := Lib.hid hM
    have Hb2 := Lib.hid (Hb1.out.trans (hb2.mono Hb1.out.size))
    have HBx2 := Lib.hid (HBx1.out.keep hb2)
    clear hx2 hrw hM hb2 HC2 hK
    obtain ⟨q0, q1, q2⟩ := HBx2.out
    have hkz := beq_f (show ¬ ((kP p : Nat) : Int) = 0 by omega)
    have hkkc : (0 : Int) < (kP p : Nat) := by omega
    have HC3 := Lib.hid (rValid_any AH AS AP cH cS cP p w2 (HP.out.keep Hb2.out))
    rw [HOk.out] at HC3
    go_wp2_with fail
    refine Lr.use HC3.out ?_
    intro w3 hb3
    have Hb3 := Lib.hid (Hb2.out.trans (hb3.mono Hb2.out.size))
    have HBx3 := Lib.hid (HBx2.out.keep hb3)
    have HM3 := Lib.hid (HM.out.keep hb3)
    clear hb3 HC3 q0 q1 q2
    have hnn := bne_f (rfl : (p.nH : Int) = p.nH)
    have hkl : kP p ≤ 100000 := HKl.out
    have hkl2 : ((kP p : Nat) : Int) ≤ 100000 := by omega
    have hsz3 : w.heap.size + 1 ≤ w3.heap.size := World.block_lt_of_cell? _ _ HBx3.out.1
    have hn6i : (p.nH : Int) ≤ 6 := by omega
    have HPa := Lib.hid (HP.out.keep Hb3.out)
    obtain ⟨q0, q1, q2⟩ := HBx3.out
    go_wp2
    clear q0 q1 q2
    go_loopw [34] (fun i wr => ∃ k : Nat, k ≤ kP p ∧ i = .int .i64 k ∧ Below w3.heap.size w3 wr) (fun i _ => kP p - (intOf i).toNat)
    case atStart => exact ⟨0, Nat.zero_le _, rfl, Below.refl _ _⟩
    case round =>
      obtain ⟨i, hi, rfl, hB⟩ := hrel
      have HB := Lib.hid hB
      clear hB
      by_cases hik : i < kP p
      · obtain ⟨AI, cI, eI, hII⟩ := HM3.out.cell hik
        have HII := Lib.hid hII
        have e1 := old_cell eI HB.out
        have HSi := Lib.hid (HSb.out i hik)
        have hiki : (i : Int) < (kP p : Nat) := by omega
        clear hII eI
        go_wp2
        clear e1
        rename World => wa
        go_loopw [40] (fun i wr => ∃ k : Nat, k ≤ kP p ∧ i = .int .i64 k ∧ Below w3.heap.size w3 wr) (fun i _ => kP p - (intOf i).toNat)
        case atStart => exact ⟨0, Nat.zero_le _, rfl, HB.out⟩
        case round =>
          obtain ⟨j, hj, rfl, hBj⟩ := hrel
          have HBj := Lib.hid hBj
          clear hBj
          by_cases hjk : j < kP p
          · obtain ⟨AJ, cJ, eJ, hJ⟩ := HM3.out.cell hjk
            have HJ := Lib.hid hJ
            have e1 := old_cell eJ HBj.out
            have HSj := Lib.hid (HSb.out j hjk)
            have hjkj : (j : Int) < (kP p : Nat) := by omega
            have HG := Lib.hid (good_any AH AS AP AI AJ cH cS cP cI p.nH cJ p (mmP p i) (mmP p j) wr (HPa.out.keep HBj.out) (HII.out.keep HBj.out) (HJ.out.keep HBj.out) rfl HOk.out)
            obtain ⟨q0, q1, q2⟩ := HBx3.out.keep HBj.out
            clear hJ eJ
            cases hg : gdB p (mmP p i) (mmP p j) with
            | false =>
              rw [hg] at HG
              clear hg
              go_wp2_with fail
              refine Lr.use HG.out ?_
              intro w5 hb5
              have HB5 := Lib.hid (HBj.out.trans (hb5.mono HBj.out.size))
              clear hb5 q0 q1 q2 HG e1
              go_wp2
              go_roundw
              case rel => exact ⟨j + 1, by omega, by go_num, HB5.out⟩
              case measure => simp [intOf]; omega
            | true =>
              have HGo := Lib.hid (gd_go HOk.out hg)
              rw [hg] at HG
              clear hg
              go_wp2_with fail
              refine Lr.use HG.out ?_
              intro w5 hb5
              have HB5 := Lib.hid (HBj.out.trans (hb5.mono HBj.out.size))
              clear hb5 q0 q1 q2 HG e1
              obtain ⟨q0, q1, q2⟩ := HBx3.out.keep HB5.out
              go_wp2
              clear q0 q1 q2
              go_loopw [65] (fun i wr => ∃ k : Nat, k ≤ p.nS ∧ i = .int .i64 k ∧ Below w3.heap.size w3 wr) (fun i _ => p.nS - (intOf i).toNat)
              case atStart => exact ⟨0, Nat.zero_le _, rfl, HB5.out⟩
              case round =>
                obtain ⟨s, hs, rfl, hBs⟩ := hrel
                have HBs := Lib.hid hBs
                clear hBs
                by_cases hsn : s < p.nS
                · have hL9 : p.LS s ≤ 9 := by have := ((okPlan_of HOk.out).2.2.2 s hsn).1; omega
                  have hsi : (s : Int) < p.nS := by omega
                  have hs4 : (s : Int) ≤ 4 := by have := HPl.out; omega
                  have HSh : Hid (∃ bS oS AR cR, AS = some ⟨bS, oS, none⟩ ∧ w3.cell? ⟨bS, oS + s, none⟩ = some (.slice AR (p.LS s) cR) ∧ Ints w3 AR (p.LS s) (p.vS s)) := Lib.hid (by
                    obtain ⟨bS, oS, AR, cR, e, hc, hI⟩ := HPa.out.shifts.at hsn
                    exact ⟨bS, oS, AR, cR, e, hc, hI.2.2.2⟩)
                  obtain ⟨bS, oS, AR, cR, rfl, hcS, hIS⟩ := HSh.out
                  have HcS := Lib.hid hcS
                  have HIS := Lib.hid hIS
                  have HAt := Lib.hid (fun h w' (hb : Below w3.heap.size w3 w') => at_any AR (p.LS s) cR (p.vS s) ((h : Nat) : Int) w' (hIS.keep hb) hL9)
                  have HLi := Lib.hid (fun m h (hh : h ≤ p.nH) => plL_le HOk.out s m hh)
                  clear hcS hIS HSh
                  go_wp2
                  go_loopw [10, 11, 70] (fun x y h wr => ∃ k : Nat, k ≤ p.nH ∧ h = .int .i64 k ∧ Two wr w3.heap.size x (plL p s (mmP p i) k) y (plL p s (mmP p j) k) ∧ Below w3.heap.size w3 wr) (fun _ _ h _ => p.nH - (intOf h).toNat)
                  case atStart => exact ⟨0, Nat.zero_le _, rfl, Two.nil _ _, HBs.out⟩
                  case round =>
                    obtain ⟨h, hh, rfl, hT, hBh⟩ := hrel
                    have HT := Lib.hid hT
                    have HBh := Lib.hid hBh
                    clear hT hBh
                    by_cases hhn : h < p.nH
                    · have hhi : (h : Int) < p.nH := by omega
                      have HX : Hid (plL p s (mmP p i) (h + 1) = if mmP p i h = (s : Int) then plL p s (mmP p i) h ++ [atF (p.vS s) (p.LS s) (h : Int)] else plL p s (mmP p i) h) := Lib.hid rfl
                      have HY : Hid (plL p s (mmP p j) (h + 1) = if mmP p j h = (s : Int) then plL p s (mmP p j) h ++ [atF (p.vS s) (p.LS s) (h : Int)] else plL p s (mmP p j) h) := Lib.hid rfl
                      have HLx := Lib.hid (HLi.out (mmP p i) h hh)
                      have HLy := Lib.hid (HLi.out (mmP p j) h hh)
                      obtain ⟨bi, oi, rfl, ca⟩ := (HII.out.keep HBh.out).at hhn
                      have HCb : Hid (∀ w', Below w3.heap.size w3 w' → ∃ bj oj, AJ = some ⟨bj, oj, none⟩ ∧ w'.cell? ⟨bj, oj + h, none⟩ = some (.int .i64 (mmP p j h))) := Lib.hid (fun w' hb => (HJ.out.keep hb).at hhn)
                      have HAh := Lib.hid (HAt.out h)
                      generalize atF (p.vS s) (p.LS s) (h : Int) = v at *
                      by_cases hv1 : mmP p i h = (s : Int)
                      · have b1 := beq_t hv1
                        have HX2 := Lib.hid (HX.out.trans (if_pos hv1))
                        clear hv1 HX
                        generalize mmP p i h = v1 at *
                        obtain ⟨q0, q1, q2⟩ := HBx3.out.keep HBh.out
                        have cS := old_cell HcS.out HBh.out
                        have HC := Lib.hid (HAh.out wr HBh.out)
                        go_wp2_with fail
                        refine Lr.use HC.out ?_
                        intro u1 hu1
                        have HBu1 := Lib.hid (HBh.out.trans (hu1.mono HBh.out.size))
                        have HTu1 := Lib.hid ((HT.out.below hu1).below (below_box u1 (.cells #[.int .i64 v] 3)))
                        have HBl1 := Lib.hid (HBu1.out.trans ((below_box u1 (.cells #[.int .i64 v] 3)).mono HBu1.out.size))
                        clear hu1 ca q0 q1 q2 cS HC
                        go_wp2_with (at_builtin; go_loud (refine wpList_append_way rfl _ _ rfl w3.heap.size _ _ rfl HTu1.out.ox ⟨u1.heap.size, 0, none⟩ rfl v (by simp [World.cell?_alloc_at]) (by have := HLx.out; omega) HBl1.out.size ?_))
                        intro g1 cap1 v1 hO hk
                        obtain ⟨hT, hb⟩ := Two.push HTu1.out HBl1.out.size hO (by rw [World.size_alloc]; exact hk)
                        have HTv1 := Lib.hid hT
                        have HBv1 := Lib.hid (HBl1.out.trans hb)
                        clear hO hk hT hb HTu1 HBl1
                        have HT1 := Lib.hid HTv1.out
                        have HB1 := Lib.hid HBv1.out
                        obtain ⟨bj, oj, rfl, cb⟩ := HCb.out _ HB1.out
                        by_cases hv2 : mmP p j h = (s : Int)
                        · have b2 := beq_t hv2
                          have HY2 := Lib.hid (HY.out.trans (if_pos hv2))
                          clear hv2 HY
                          generalize mmP p j h = z2 at *
                          obtain ⟨q0, q1, q2⟩ := HBx3.out.keep HB1.out
                          have cS := old_cell HcS.out HB1.out
                          have HC := Lib.hid (HAh.out _ HB1.out)
                          go_wp2_with fail
                          refine Lr.use HC.out ?_
                          intro u2 hu2
                          have HBu2 := Lib.hid (HB1.out.trans (hu2.mono HB1.out.size))
                          have HTu2 := Lib.hid ((HT1.out.below hu2).below (below_box u2 (.cells #[.int .i64 v] 3)))
                          have HBl2 := Lib.hid (HBu2.out.trans ((below_box u2 (.cells #[.int .i64 v] 3)).mono HBu2.out.size))
                          clear hu2 cb q0 q1 q2 cS HC
                          go_wp2_with (at_builtin; go_loud (refine wpList_append_way rfl _ _ rfl w3.heap.size _ _ rfl HTu2.out.symm.ox ⟨u2.heap.size, 0, none⟩ rfl v (by simp [World.cell?_alloc_at]) (by have := HLy.out; omega) HBl2.out.size ?_))
                          intro g2 cap2 v2 hO hk
                          obtain ⟨hT, hb⟩ := Two.push HTu2.out.symm HBl2.out.size hO (by rw [World.size_alloc]; exact hk)
                          have HTv2 := Lib.hid hT.symm
                          have HBv2 := Lib.hid (HBl2.out.trans hb)
                          clear hO hk hT hb HTu2 HBl2
                          have HT2 := Lib.hid HTv2.out
                          have HB2 := Lib.hid HBv2.out
                          go_wp2
                          go_roundw
                          case rel => exact ⟨h + 1, by omega, by go_num, by rw [HX2.out, HY2.out]; exact HT2.out, HB2.out⟩
                          case measure => simp [intOf]; omega
                        · have b2 := beq_f hv2
                          have HY2 := Lib.hid (HY.out.trans (if_neg hv2))
                          clear hv2 HY
                          generalize mmP p j h = z2 at *
                          have HT2 := Lib.hid HT1.out
                          have HB2 := Lib.hid HB1.out
                          go_wp2
                          go_roundw
                          case rel => exact ⟨h + 1, by omega, by go_num, by rw [HX2.out, HY2.out]; exact HT2.out, HB2.out⟩
                          case measure => simp [intOf]; omega
                      · have b1 := beq_f hv1
                        have HX2 := Lib.hid (HX.out.trans (if_neg hv1))
                        clear hv1 HX
                        generalize mmP p i h = v1 at *
                        have HT1 := Lib.hid HT.out
                        have HB1 := Lib.hid HBh.out
                        obtain ⟨bj, oj, rfl, cb⟩ := HCb.out _ HB1.out
                        by_cases hv2 : mmP p j h = (s : Int)
                        · have b2 := beq_t hv2
                          have HY2 := Lib.hid (HY.out.trans (if_pos hv2))
                          clear hv2 HY
                          generalize mmP p j h = z2 at *
                          obtain ⟨q0, q1, q2⟩ := HBx3.out.keep HB1.out
                          have cS := old_cell HcS.out HB1.out
                          have HC := Lib.hid (HAh.out _ HB1.out)
                          go_wp2_with fail
                          refine Lr.use HC.out ?_
                          intro u2 hu2
                          have HBu2 := Lib.hid (HB1.out.trans (hu2.mono HB1.out.size))
                          have HTu2 := Lib.hid ((HT1.out.below hu2).below (below_box u2 (.cells #[.int .i64 v] 3)))
                          have HBl2 := Lib.hid (HBu2.out.trans ((below_box u2 (.cells #[.int .i64 v] 3)).mono HBu2.out.size))
                          clear hu2 cb q0 q1 q2 cS HC
                          go_wp2_with (at_builtin; go_loud (refine wpList_append_way rfl _ _ rfl w3.heap.size _ _ rfl HTu2.out.symm.ox ⟨u2.heap.size, 0, none⟩ rfl v (by simp [World.cell?_alloc_at]) (by have := HLy.out; omega) HBl2.out.size ?_))
                          intro g2 cap2 v2 hO hk
                          obtain ⟨hT, hb⟩ := Two.push HTu2.out.symm HBl2.out.size hO (by rw [World.size_alloc]; exact hk)
                          have HTv2 := Lib.hid hT.symm
                          have HBv2 := Lib.hid (HBl2.out.trans hb)
                          clear hO hk hT hb HTu2 HBl2
                          have HT2 := Lib.hid HTv2.out
                          have HB2 := Lib.hid HBv2.out
                          go_wp2
                          go_roundw
                          case rel => exact ⟨h + 1, by omega, by go_num, by rw [HX2.out, HY2.out]; exact HT2.out, HB2.out⟩
                          case measure => simp [intOf]; omega
                        · have b2 := beq_f hv2
                          have HY2 := Lib.hid (HY.out.trans (if_neg hv2))
                          clear hv2 HY
                          generalize mmP p j h = z2 at *
                          have HT2 := Lib.hid HT1.out
                          have HB2 := Lib.hid HB1.out
                          go_wp2
                          go_roundw
                          case rel => exact ⟨h + 1, by omega, by go_num, by rw [HX2.out, HY2.out]; exact HT2.out, HB2.out⟩
                          case measure => simp [intOf]; omega
                    · obtain rfl : h = p.nH := by omega
                      have hz3 : w3.heap.size ≤ wr.heap.size := HBh.out.size
                      rename World => wd
                      have HLn : Hid ((plL p s (mmP p i) p.nH).length = (plL p s (mmP p j) p.nH).length) := Lib.hid (by rw [plL_len, plL_len]; exact stb_cnt HOk.out HSi.out HSj.out hsn)
                      have HOne := Lib.hid (fun F G (k : Nat) hF hG sF sG (t : Nat) ht => one_by_one (k := k) (F := F) (G := G) HOk.out HSi.out HSj.out HGo.out hsn hF hG sF sG (i := t) ht)
                      have HLx := Lib.hid (HLi.out (mmP p i) p.nH (Nat.le_refl _))
                      have HLy := Lib.hid (HLi.out (mmP p j) p.nH (Nat.le_refl _))
                      generalize plL p s (mmP p i) p.nH = X at *
                      generalize plL p s (mmP p j) p.nH = Y at *
                      have HS1 := Lib.hid (Two.sort HT.out hz3 (by have := HLx.out; omega))
                      go_wp2_with fail
                      refine HS1.out.mono ?_
                      rintro e w6 ⟨rfl, F, hT6, hPF, hSF, hb6⟩
                      have HB6 := Lib.hid (HBh.out.trans hb6)
                      have HT6 := Lib.hid hT6.symm
                      have HPF := Lib.hid hPF
                      have HSF := Lib.hid hSF
                      clear hT6 hPF hSF hb6 HS1
                      have HS2 := Lib.hid (Two.sort HT6.out HB6.out.size (by have := HLy.out; omega))
                      go_wp2_with fail
                      refine HS2.out.mono ?_
                      rintro e w7 ⟨rfl, G, hT7, hPG, hSG, hb7⟩
                      have HB7 := Lib.hid (HB6.out.trans hb7)
                      obtain ⟨AX, cX, rfl, -, hIX, -⟩ := OwnL.form hT7.oy
                      obtain ⟨AV, cV, rfl, -, hIV, -⟩ := OwnL.form hT7.ox
                      rw [lst_len] at hIX hIV ⊢
                      rw [lst_len]
                      obtain ⟨k, hk⟩ : ∃ k, k = X.length := ⟨_, rfl⟩
                      have hkY : Y.length = k := by rw [hk]; exact HLn.out.symm
                      rw [← hk] at hIX HPF HSF HLx ⊢
                      rw [hkY] at hIV hPG hSG ⊢
                      have HIX := Lib.hid (hIX.congr (g := F) (fun q hq => lst_getD _ _ _ hq))
                      have HIV := Lib.hid (hIV.congr (g := G) (fun q hq => lst_getD _ _ _ hq))
                      have HFin := Lib.hid (fun t ht => HOne.out F G k HPF.out hPG HSF.out hSG t ht)
                      have hkk2 := bne_f (rfl : (k : Int) = k)
                      have hk6 : (k : Int) ≤ 6 := by have := HLx.out; omega
                      clear hT7 hPG hSG hb7 HS2 hIX hIV hk hkY HPF HSF HOne HLx HLy HLn HT6 HT
                      go_wp2
                      go_loopw [117] (fun i wr => ∃ t : Nat, t ≤ k ∧ i = .int .i64 t ∧ Below w7.heap.size w7 wr) (fun i _ => k - (intOf i).toNat)
                      case atStart => exact ⟨0, Nat.zero_le _, rfl, Below.refl _ _⟩
                      case round =>
                        obtain ⟨t, ht, rfl, hBt⟩ := hrel
                        have HBt := Lib.hid hBt
                        clear hBt
                        by_cases htk : t < k
                        · obtain ⟨bx, ox, rfl, cx⟩ := (HIX.out.keep HBt.out).at htk
                          obtain ⟨bv, ov, rfl, cv⟩ := (HIV.out.keep HBt.out).at htk
                          have hti : (t : Int) < k := by omega
                          have hlt := HFin.out t htk
                          generalize F t = f at *
                          generalize G t = g at *
                          have d1 : decide (f < g) = false := decide_eq_false (by omega)
                          clear hlt
                          go_wp2_with fail
                          go_quiet (fail)
                          rename_i nq
                          have HB9 := Lib.hid (((Dn.refl wr).drewN nq).below wr.heap.size)
                          have HBt2 := Lib.hid (HBt.out.trans (HB9.out.mono HBt.out.size))
                          go_wp2
                          go_roundw
                          case rel => exact ⟨t + 1, by omega, by go_num, HBt2.out⟩
                          case measure => simp [intOf]; omega
                        · obtain rfl : t = k := by omega
                          have HBf := Lib.hid (HB7.out.trans (HBt.out.mono HB7.out.size))
                          go_wp2
                          go_roundw
                          case rel => exact ⟨s + 1, by omega, by go_num, HBf.out⟩
                          case measure => simp [intOf]; omega
                · obtain rfl : s = p.nS := by omega
                  go_wp2
                  go_roundw
                  case rel => exact ⟨j + 1, by omega, by go_num, HBs.out⟩
                  case measure => simp [intOf]; omega
          · obtain rfl : j = kP p := by omega
            go_wp2
            go_roundw
            case rel => exact ⟨i + 1, by omega, by go_num, HBj.out⟩
            case measure => simp [intOf]; omega
      · obtain rfl : i = kP p := by omega
        have Hbr := Lib.hid (Hb3.out.trans (HB.out.mono Hb3.out.size))
        go_wp2_with fail
        refine (awake_any _).mono ?_
        rintro e w7 ⟨rfl, hb7⟩
        have Hb7 := Lib.hid (Hbr.out.trans (hb7.mono Hbr.out.size))
        clear hb7
        go_wp2
        go_ret
        exact ⟨rfl, Hb7.out⟩
end Go.Proofs.Ytiigcjcolpmafaa

