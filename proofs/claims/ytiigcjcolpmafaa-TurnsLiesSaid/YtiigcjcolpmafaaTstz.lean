/- A part of the proof: Tstz. -/
import Derived.Test.YtiigcjcolpmafaaTrz
namespace Go.Proofs.Ytiigcjcolpmafaa
open Go.RowKit

theorem okPlan_t {p : PlanD} (a : 1 ≤ p.nH ∧ p.nH ≤ 6 ∧ 1 ≤ p.nS ∧ p.nS ≤ 4 ∧ p.nP = p.nS) (b : PlOk p.nP p.pl) : okPlan p = (decide (ListsOk p.nH p.LH p.vH p.nS) && decide (ListsOk p.nS p.LS p.vS p.nH)) := by
  unfold okPlan
  rw [Bool.eq_iff_iff]
  simp only [decide_eq_true_eq, Bool.and_eq_true]
  exact ⟨fun h => h.2.2, fun h => ⟨a, b, h⟩⟩

set_option maxHeartbeats 2000000 in
set_option maxRecDepth 1000000 in
theorem rValid_any (AH AS AP : Option Addr) (cH cS cP : Nat) (p : PlanD) (w : World) (h : PlanArg w AH AS AP cH cS cP p) :
    Lr 19 #[.agg #[.slice AH p.nH cH, .slice AS p.nS cS, .slice AP p.nP cP]] w (.bool (okPlan p)) := by
  have Hb0 := Lib.hid (below_box w (.cells #[.slice AH p.nH cH, .slice AS p.nS cS, .slice AP p.nP cP] 25))
  have HA := Lib.hid (h.keep Hb0.out)
  have HPl := Lib.hid HA.out.places.2.2.2
  have hmP : p.nP ≤ 9223372036854775807 := by
    have h0 := Nat.le_trans h.places.1 h.places.2.1
    unfold maxLen at h0
    omega
  have hmH : p.nH ≤ 9223372036854775807 := by
    have h0 := Nat.le_trans h.hands.1 h.hands.2.1
    unfold maxLen at h0
    omega
  have hmS : p.nS ≤ 9223372036854775807 := by
    have h0 := Nat.le_trans h.shifts.1 h.shifts.2.1
    unfold maxLen at h0
    omega
  have HHd := Lib.hid HA.out.hands
  have HSh := Lib.hid HA.out.shifts
  have HF := Lib.hid (okPlan_f (p := p))
  have HT := Lib.hid (okPlan_t (p := p))
  clear h HA
  show Calls _ _ _ _ _
  generalize p.nH = nH at *
  generalize p.nS = nS at *
  generalize p.nP = nP at *
  go_enter Try.func19, Try.ntmps19
  go_wp2
  go_loop [8] (fun x => ∃ j : Nat, j ≤ nP ∧ x = .int .i64 j ∧ PlOk j p.pl) (fun x => nP - (intOf x).toNat)
  case atStart => exact ⟨0, Nat.zero_le _, rfl, fun j hj => absurd hj (by omega)⟩
  case round =>
    obtain ⟨j, hj, rfl, hok⟩ := hrel
    have HOk := Lib.hid hok
    clear hok
    by_cases hlt : j < nP
    · obtain ⟨bP, oP, rfl, hc⟩ := HPl.out.at hlt
      by_cases e1 : 1 ≤ p.pl j
      · by_cases e2 : p.pl j ≤ 3
        · have HN : Hid (PlOk (j + 1) p.pl) := Lib.hid (fun j' hj' => by
            rcases Nat.lt_or_ge j' j with hl | hl
            · exact HOk.out j' hl
            · obtain rfl : j' = j := by omega
              exact ⟨e1, e2⟩)
          have e1' : ¬ p.pl j < 1 := by omega
          have e2' : ¬ 3 < p.pl j := by omega
          go_wp2
          go_round
          case rel => exact ⟨j + 1, by omega, by go_num, HN.out⟩
          case measure => simp [intOf]; omega
        · have HE := Lib.hid (HF.out (fun h => e2 (h.2.1 j hlt).2))
          have e1' : ¬ p.pl j < 1 := by omega
          have e2' : 3 < p.pl j := by omega
          go_wp2
          go_ret
          exact ⟨ret_bool HE.out.symm, Hb0.out⟩
      · have HE := Lib.hid (HF.out (fun h => e1 (h.2.1 j hlt).1))
        have e1' : p.pl j < 1 := by omega
        go_wp2
        go_ret
        exact ⟨ret_bool HE.out.symm, Hb0.out⟩
    · obtain rfl : nP = j := by omega
      by_cases a1 : 1 ≤ nH
      · by_cases a2 : nH ≤ 6
        · by_cases a3 : 1 ≤ nS
          · by_cases a4 : nS ≤ 4
            · by_cases a5 : nP = nS
              · have HT2 := Lib.hid (HT.out ⟨a1, a2, a3, a4, a5⟩ HOk.out)
                have a5' := beq_t (a := (nP : Int)) (b := (nS : Int)) (by omega)
                have HA5 := Lib.hid a5
                clear a5
                go_wp2_with fail
                refine (listed_any AH nH cH p.LH p.vH nS _ HHd.out a2).mono ?_
                rintro e w' ⟨rfl, rfl⟩
                cases hx : decide (ListsOk nH p.LH p.vH nS) with
                | false =>
                  have HE : Hid (okPlan p = false) := Lib.hid (by rw [HT2.out, hx]; rfl)
                  clear hx
                  go_wp2
                  go_ret
                  exact ⟨ret_bool HE.out.symm, Hb0.out⟩
                | true =>
                  have HE : Hid (okPlan p = decide (ListsOk nS p.LS p.vS nH)) := Lib.hid (by rw [HT2.out, hx]; rfl)
                  clear hx
                  go_wp2_with fail
                  refine (listed_any AS nS cS p.LS p.vS nH _ HSh.out (by omega)).mono ?_
                  rintro e w' ⟨rfl, rfl⟩
                  generalize decide (ListsOk nS p.LS p.vS nH) = y at *
                  go_wp2
                  go_ret
                  exact ⟨ret_bool HE.out.symm, Hb0.out⟩
              · have HE := Lib.hid (HF.out (fun h => a5 h.1.2.2.2.2))
                have a5' := beq_f (a := (nP : Int)) (b := (nS : Int)) (by omega)
                clear a5
                go_wp2
                go_ret
                exact ⟨ret_bool HE.out.symm, Hb0.out⟩
            · have HE := Lib.hid (HF.out (fun h => a4 h.1.2.2.2.1))
              go_wp2
              go_ret
              exact ⟨ret_bool HE.out.symm, Hb0.out⟩
          · have HE := Lib.hid (HF.out (fun h => a3 h.1.2.2.1))
            go_wp2
            go_ret
            exact ⟨ret_bool HE.out.symm, Hb0.out⟩
        · have HE := Lib.hid (HF.out (fun h => a2 h.1.2.1))
          go_wp2
          go_ret
          exact ⟨ret_bool HE.out.symm, Hb0.out⟩
      · have HE := Lib.hid (HF.out (fun h => a1 h.1.1))
        go_wp2
        go_ret
        exact ⟨ret_bool HE.out.symm, Hb0.out⟩

set_option maxHeartbeats 1000000 in
set_option maxRecDepth 1000000 in
theorem rpossible_any (AH AS AP : Option Addr) (cH cS cP : Nat) (p : PlanD) (h : Nat) (s : Int) (w : World) (hH : Rows2 w AH p.nH p.LH p.vH) (hS : Rows2 w AS p.nS p.LS p.vS) (hok : okPlan p = true) (hh : h < p.nH) :
    Lr 77 #[.agg #[.slice AH p.nH cH, .slice AS p.nS cS, .slice AP p.nP cP], .int .i64 h, .int .i64 s] w (.bool (possB p h s)) := by
  obtain ⟨⟨h1, h2, h3, h4, -⟩, -, h7, h8⟩ := okPlan_of hok
  obtain ⟨bH, oH, RH, kH, rfl, hcH, hIH⟩ := hH.at hh
  obtain ⟨bS, oS, RS0, kS0, rfl, -, -⟩ := hS.at (show 0 < p.nS by omega)
  have Hb0 := Lib.hid (below_box w (.cells #[.slice (some ⟨bH, oH, none⟩) p.nH cH, .slice (some ⟨bS, oS, none⟩) p.nS cS, .slice AP p.nP cP] 25))
  have hcH' := old_cell hcH Hb0.out
  have HIH := Lib.hid (hIH.keep Hb0.out)
  have hLH := (h7 h hh).1
  have hp : possB p h s = (decide (0 ≤ idxI (p.vH h) s (p.LH h)) && decide (0 ≤ idxI (p.vS s.toNat) (h : Int) (p.LS s.toNat))) := rfl
  show Calls _ _ _ _ _
  by_cases hx : 0 ≤ idxI (p.vH h) s (p.LH h)
  · obtain ⟨hs0, hs1⟩ := (h7 h hh).rng hx
    obtain ⟨t, ht⟩ : ∃ t : Nat, s = t := ⟨s.toNat, by omega⟩
    subst ht
    have htn : t < p.nS := by omega
    rw [Int.toNat_natCast, decide_eq_true hx, Bool.true_and] at hp
    have HP := Lib.hid hp
    obtain ⟨RS, kS, hcS, hIS⟩ := hS.cell htn
    have hcS' := old_cell hcS Hb0.out
    have HIS := Lib.hid (hIS.keep Hb0.out)
    have hLS := (h8 t htn).1
    clear hp h7 h8 hok hH hIH hcH hS hcS hIS
    go_enter Try.func77, Try.ntmps77
    go_wp2_with fail
    refine (rRank_any RH (p.LH h) kH (p.vH h) (t : Int) _ HIH.out (by omega)).mono ?_
    rintro e w' ⟨rfl, rfl⟩
    generalize idxI (p.vH h) (t : Int) (p.LH h) = i1 at *
    go_wp2_with fail
    refine (rRank_any RS (p.LS t) kS (p.vS t) (h : Int) _ HIS.out (by omega)).mono ?_
    rintro e w' ⟨rfl, rfl⟩
    generalize idxI (p.vS t) (h : Int) (p.LS t) = i2 at *
    go_wp2
    go_ret
    exact ⟨ret_bool HP.out.symm, Hb0.out⟩
  · have HP : Hid (possB p h s = false) := Lib.hid (by rw [hp, decide_eq_false hx]; rfl)
    clear hp h7 h8 hok hH hIH hcH hS
    go_enter Try.func77, Try.ntmps77
    go_wp2_with fail
    refine (rRank_any RH (p.LH h) kH (p.vH h) s _ HIH.out (by omega)).mono ?_
    rintro e w' ⟨rfl, rfl⟩
    generalize idxI (p.vH h) s (p.LH h) = i1 at *
    go_wp2
    go_ret
    exact ⟨ret_bool HP.out.symm, Hb0.out⟩
end Go.Proofs.Ytiigcjcolpmafaa

