import Derived.Test.YtiigcjcolpmafaaAy
namespace Go.Proofs.Ytiigcjcolpmafaa
open Go.RowKit

set_option maxHeartbeats 1000000 in
set_option maxRecDepth 1000000 in
theorem Stable_bad (AH AS AP : Option Addr) (cH cS cP : Nat) (p : PlanD) (w : World) (hp : PlanIn w AH AS AP p) (hok : okPlan p = false) :
    Lr 23 #[.agg #[.slice AH p.nH cH, .slice AS p.nS cS, .slice AP p.nP cP]] w (.tuple #[.slice none 0 0, .int .i64 2]) := by
  have Hb0 := Lib.hid (below_box w (.cells #[.slice AH p.nH cH, .slice AS p.nS cS, .slice AP p.nP cP] 29))
  have hv := valid_any AH AS AP cH cS cP p _ (hp.keep Hb0.out)
  rw [hok] at hv
  have HV := Lib.hid hv
  clear hp hv hok
  show Calls _ _ _ _ _
  go_enter Try.func23, Try.ntmps23
  go_wp2_with fail
  refine Lr.use HV.out ?_
  intro w1 hb1
  have Hb1 := Lib.hid (Hb0.out.trans (hb1.mono Hb0.out.size))
  clear hb1
  go_wp2
  go_ret2
  exact ⟨rfl, Hb1.out⟩

set_option maxHeartbeats 1000000 in
set_option maxRecDepth 1000000 in
theorem Stable_ok (AH AS AP : Option Addr) (cH cS cP : Nat) (p : PlanD) (w : World) (hp : PlanIn w AH AS AP p) (hok : okPlan p = true) :
    Calls Try.prog 23 #[.agg #[.slice AH p.nH cH, .slice AS p.nS cS, .slice AP p.nP cP]] w fun e w' => ∃ x, e = .returned (.tuple #[x, .int .i64 0]) ∧ OwnLL w' w.heap.size x (stL p p.nH 0 (fun _ => -1)) ∧ Below w.heap.size w w' := by
  have Hb0 := Lib.hid (below_box w (.cells #[.slice AH p.nH cH, .slice AS p.nS cS, .slice AP p.nP cP] 29))
  have hB0 := BoxP.new w AH AS AP p.nH p.nS p.nP cH cS cP
  have HB0 := Lib.hid hB0
  have hv := valid_any AH AS AP cH cS cP p _ (hp.keep Hb0.out)
  rw [hok] at hv
  have HV := Lib.hid hv
  have HA : Hid (∀ w', Below w.heap.size w w' → Calls Try.prog 57 #[.agg #[.slice AH p.nH cH, .slice AS p.nS cS, .slice AP p.nP cP]] w' fun e w'' => ∃ x, e = .returned x ∧ OwnLL w'' w'.heap.size x (stL p p.nH 0 (fun _ => -1)) ∧ Below w'.heap.size w' w'') := Lib.hid (fun w' hb => allStable_any AH AS AP cH cS cP p w' (hp.keep hb) hok)
  clear hp hv hok hB0
  go_enter Try.func23, Try.ntmps23
  go_wp2_with fail
  refine Lr.use HV.out ?_
  intro w1 hb1
  have Hb1 := Lib.hid (Hb0.out.trans (hb1.mono Hb0.out.size))
  obtain ⟨k0, k1, k2⟩ := HB0.out.keep hb1
  clear hb1
  go_wp2_with fail
  refine (HA.out _ Hb1.out).mono ?_
  rintro e w2 ⟨x, rfl, hx, hb2⟩
  have HX := Lib.hid (hx.rebase Hb1.out.size)
  have Hb2 := Lib.hid (Hb1.out.trans (hb2.mono Hb1.out.size))
  clear hx hb2 k0 k1 k2
  go_wp2
  go_ret2
  exact ⟨x, rfl, HX.out, Hb2.out⟩
end Go.Proofs.Ytiigcjcolpmafaa
