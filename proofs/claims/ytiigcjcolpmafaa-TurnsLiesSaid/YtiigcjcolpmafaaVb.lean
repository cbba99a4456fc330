import Derived.Test.YtiigcjcolpmafaaVa
namespace Go.Proofs.Ytiigcjcolpmafaa
open Go.RowKit

/-- A plan as it lies in memory. -/
structure PlanIn (w : World) (AH AS AP : Option Addr) (p : PlanD) : Prop where
  hands : RowsC w AH p.nH p.LH p.vH
  shifts : RowsC w AS p.nS p.LS p.vS
  places : Ints w AP p.nP p.pl
  nH9 : p.nH ≤ 9
  nS9 : p.nS ≤ 9
  nP9 : p.nP ≤ 9
  sH : ShortL p.nH p.LH
  sS : ShortL p.nS p.LS
theorem PlanIn.keep {w w' : World} {AH AS AP : Option Addr} {p : PlanD} (h : PlanIn w AH AS AP p) (hb : Below w.heap.size w w') : PlanIn w' AH AS AP p :=
  ⟨h.hands.keep hb, h.shifts.keep hb, h.places.keep hb, h.nH9, h.nS9, h.nP9, h.sH, h.sS⟩
theorem okPlan_f {p : PlanD} (h : ¬ ((1 ≤ p.nH ∧ p.nH ≤ 6 ∧ 1 ≤ p.nS ∧ p.nS ≤ 4 ∧ p.nP = p.nS) ∧ PlOk p.nP p.pl ∧ ListsOk p.nH p.LH p.vH p.nS ∧ ListsOk p.nS p.LS p.vS p.nH)) : okPlan p = false := decide_eq_false h

set_option maxHeartbeats 2000000 in
set_option maxRecDepth 1000000 in
theorem valid_any (AH AS AP : Option Addr) (cH cS cP : Nat) (p : PlanD) (w : World) (h : PlanIn w AH AS AP p) :
    Lr 52 #[.agg #[.slice AH p.nH cH, .slice AS p.nS cS, .slice AP p.nP cP]] w (.bool (okPlan p)) := by
  have Hb0 := Lib.hid (below_box w (.cells #[.slice AH p.nH cH, .slice AS p.nS cS, .slice AP p.nP cP] 29))
  have HH := Lib.hid (h.hands.keep Hb0.out)
  have HS := Lib.hid (h.shifts.keep Hb0.out)
  have HP := Lib.hid (h.places.keep Hb0.out)
  obtain ⟨-, -, -, h1, h2, h3, h4, h5⟩ := h
  have HsH := Lib.hid h4
  have HsS := Lib.hid h5
  have HF := Lib.hid (okPlan_f (p := p))
  have HT : Hid ((1 ≤ p.nH ∧ p.nH ≤ 6 ∧ 1 ≤ p.nS ∧ p.nS ≤ 4 ∧ p.nP = p.nS) → PlOk p.nP p.pl → okPlan p = (decide (ListsOk p.nH p.LH p.vH p.nS) && decide (ListsOk p.nS p.LS p.vS p.nH))) := Lib.hid (fun a b => by
    unfold okPlan
    rw [Bool.eq_iff_iff]
    simp only [decide_eq_true_eq, Bool.and_eq_true]
    exact ⟨fun h => h.2.2, fun h => ⟨a, b, h⟩⟩)
  clear h4 h5
  show Calls _ _ _ _ _
  generalize p.nH = nH at *
  generalize p.nS = nS at *
  generalize p.nP = nP at *
  go_enter Try.func52, Try.ntmps52
  by_cases a1 : 1 ≤ nH
  · by_cases a2 : nH ≤ 6
    · by_cases a3 : 1 ≤ nS
      · by_cases a4 : nS ≤ 4
        · by_cases a5 : nP = nS
          · subst a5
            go_wp2_with fail
            go_quiet (fail)
            go_wp2
            have HPq := Lib.hid (HP.out.dn (⟨nq, rfl⟩ : Dn _ (World.drewN _ nq)))
            go_loop [37] (fun x => ∃ j : Nat, j ≤ nP ∧ x = .int .i64 j ∧ PlOk j p.pl) (fun x => nP - (intOf x).toNat)
            case atStart => exact ⟨0, Nat.zero_le _, rfl, fun j hj => absurd hj (by omega)⟩
            case round =>
              obtain ⟨j, hj, rfl, hok⟩ := hrel
              have HOk := Lib.hid hok
              clear hok
              by_cases hlt : j < nP
              · obtain ⟨bP, oP, rfl, hc⟩ := HPq.out.at hlt
                by_cases e1 : 1 ≤ p.pl j
                · by_cases e2 : p.pl j ≤ 3
                  · have HN : Hid (PlOk (j + 1) p.pl) := Lib.hid (fun j' hj' => by
                      rcases Nat.lt_or_ge j' j with hl | hl
                      · exact HOk.out j' hl
                      · obtain rfl : j' = j := by omega
                        exact ⟨e1, e2⟩)
                    have e1' : ¬ p.pl j < 1 := by omega
                    have e2' : ¬ 3 < p.pl j := by omega
                    go_wp2
                    go_round
                    case rel => exact ⟨j + 1, by omega, by go_num, HN.out⟩
                    case measure => simp [intOf]; omega
                  · have HE := Lib.hid (HF.out (fun h => e2 (h.2.1 j hlt).2))
                    have e1' : ¬ p.pl j < 1 := by omega
                    have e2' : 3 < p.pl j := by omega
                    go_wp2
                    go_ret
                    exact ⟨ret_bool HE.out.symm, Hb0.out.trans (((Dn.refl _).drewN _).below _)⟩
                · have HE := Lib.hid (HF.out (fun h => e1 (h.2.1 j hlt).1))
                  have e1' : p.pl j < 1 := by omega
                  go_wp2
                  go_ret
                  exact ⟨ret_bool HE.out.symm, Hb0.out.trans (((Dn.refl _).drewN _).below _)⟩
              · obtain rfl : nP = j := by omega
                have HT2 := Lib.hid (HT.out ⟨a1, a2, a3, a4, by trivial⟩ HOk.out)
                go_wp2_with fail
                refine (validLists_any AH nH cH p.LH p.vH nP _ (HH.out.keep (((Dn.refl _).drewN _).below _)) h1 HsH.out (by omega)).mono ?_
                rintro e w' ⟨rfl, rfl⟩
                cases hx : decide (ListsOk nH p.LH p.vH nP) with
                | false =>
                  have HE : Hid (okPlan p = false) := Lib.hid (by rw [HT2.out, hx]; rfl)
                  clear hx
                  go_wp2
                  go_ret
                  exact ⟨ret_bool HE.out.symm, Hb0.out.trans (((Dn.refl _).drewN _).below _)⟩
                | true =>
                  have HE : Hid (okPlan p = decide (ListsOk nP p.LS p.vS nH)) := Lib.hid (by rw [HT2.out, hx]; rfl)
                  clear hx
                  go_wp2_with fail
                  refine (validLists_any AS nP cS p.LS p.vS nH _ (HS.out.keep (((Dn.refl _).drewN _).below _)) h2 HsS.out (by omega)).mono ?_
                  rintro e w' ⟨rfl, rfl⟩
                  generalize decide (ListsOk nP p.LS p.vS nH) = y at *
                  go_wp2
                  go_ret
                  exact ⟨ret_bool HE.out.symm, Hb0.out.trans (((Dn.refl _).drewN _).below _)⟩
          · have HE := Lib.hid (HF.out (fun h => a5 h.1.2.2.2.2))
            have a5' := bne_t (a := (nP : Int)) (b := (nS : Int)) (by omega)
            clear a5
            go_wp2_with fail
            go_quiet (fail)
            go_wp2
            go_ret
            exact ⟨ret_bool HE.out.symm, Hb0.out.trans (((Dn.refl _).drewN _).below _)⟩
        · have HE := Lib.hid (HF.out (fun h => a4 h.1.2.2.2.1))
          go_wp2_with fail
          go_quiet (fail)
          go_wp2
          go_ret
          exact ⟨ret_bool HE.out.symm, Hb0.out.trans (((Dn.refl _).drewN _).below _)⟩
      · have HE := Lib.hid (HF.out (fun h => a3 h.1.2.2.1))
        go_wp2_with fail
        go_quiet (fail)
        go_wp2
        go_ret
        exact ⟨ret_bool HE.out.symm, Hb0.out.trans (((Dn.refl _).drewN _).below _)⟩
    · have HE := Lib.hid (HF.out (fun h => a2 h.1.2.1))
      go_wp2_with fail
      go_quiet (fail)
      go_wp2
      go_ret
      exact ⟨ret_bool HE.out.symm, Hb0.out.trans (((Dn.refl _).drewN _).below _)⟩
  · have HE := Lib.hid (HF.out (fun h => a1 h.1.1))
    go_wp2_with fail
    go_quiet (fail)
    go_wp2
    go_ret
    exact ⟨ret_bool HE.out.symm, Hb0.out.trans (((Dn.refl _).drewN _).below _)⟩
end Go.Proofs.Ytiigcjcolpmafaa
