/- Part of the proof: AY. -/
import Derived.Test.YtiigcjcolpmafaaAuz
import Derived.Test.YtiigcjcolpmafaaRbz
import Derived.Deep.DeepCutAuto
import Derived.RegionTactic
import Derived.Laws.EntriesVeiled
namespace Go.Proofs.Ytiigcjcolpmafaa
open Go.RowKit

theorem PreM.start (p : PlanD) : PreM p 0 (fun _ => -1) := ⟨fun _ _ => rfl, fun x _ => by unfold matP; rw [decide_eq_true rfl]; rfl⟩

set_option maxHeartbeats 2000000 in
set_option maxRecDepth 1000000 in
theorem allStable_any (AH AS AP : Option Addr) (cH cS cP : Nat) (p : PlanD) (w : World) (hp : PlanIn w AH AS AP p) (hok : okPlan p = true) :
    Calls Try.prog 57 #[.agg #[.slice AH p.nH cH, .slice AS p.nS cS, .slice AP p.nP cP]] w fun e w' => ∃ x, e = .returned x ∧ OwnLL w' w.heap.size x (stL p p.nH 0 (fun _ => -1)) ∧ Below w.heap.size w w' := by
  obtain ⟨⟨a1, a2, -, -, -⟩, -, -, -⟩ := okPlan_of hok
  obtain ⟨W, hW⟩ : ∃ W, W = (w.alloc (.cells #[.slice AH p.nH cH, .slice AS p.nS cS, .slice AP p.nP cP] 29)).alloc (.cells #[.slice none 0 0] 22) := ⟨_, rfl⟩
  have hbW : Below w.heap.size w W := by
    rw [hW]
    exact (below_box w _).trans ((below_box _ _).mono (by simp))
  have hB0 : BoxP W w.heap.size AH AS AP p.nH p.nS p.nP cH cS cP := by
    rw [hW]
    exact (BoxP.new w AH AS AP p.nH p.nS p.nP cH cS cP).keep (below_box _ _)
  have hFd : Box W (w.heap.size + 1) 22 (.slice none 0 0) := by
    rw [hW]
    have := Box.new (w.alloc (.cells #[.slice AH p.nH cH, .slice AS p.nS cS, .slice AP p.nP cP] 29)) 22 (.slice none 0 0)
    simpa using this
  have hWs : W.heap.size = w.heap.size + 2 := by rw [hW]; simp
  have HU := Lib.hid (unm_any p.nH a1 a2 W)
  have HbW := Lib.hid hbW
  have HB0 := Lib.hid hB0
  have HFd := Lib.hid hFd
  have HWs := Lib.hid hWs
  have HPp := Lib.hid hp
  have HOk := Lib.hid hok
  obtain ⟨p0, p1, p2⟩ := hB0
  clear hbW hFd hWs hp hok
  go_enter Try.func57, Try.ntmps57
  go_wp2_with fail
  rw [← hW]
  clear hW
  refine HU.out.mono ?_
  rintro e w1 ⟨g, rfl, hrow, hg, hb1⟩
  have HRow := Lib.hid hrow
  have HG := Lib.hid hg
  have Hb1 := Lib.hid hb1
  clear hrow hg hb1 p0 p1 p2 HU
  go_upto_region 3 with fail
  have hg2 : w.heap.size + 2 ≤ g := by have := HG.out; have := HWs.out; omega
  have hgl := HRow.out.lt
  have hs1 : w.heap.size + 2 ≤ w1.heap.size := by omega
  obtain ⟨X, hX⟩ : ∃ X, X = w1.alloc (.cells #[.slice (some ⟨g, 0, none⟩) p.nH p.nH] 23) := ⟨_, rfl⟩
  rw [← hX]
  have hbX : Below w1.heap.size w1 X := by
    rw [hX]
    exact below_box w1 _
  have hXs : X.heap.size = w1.heap.size + 1 := by rw [hX]; simp
  have hm : Box X w1.heap.size 23 (.slice (some ⟨g, 0, none⟩) p.nH p.nH) := by
    rw [hX]
    exact Box.new w1 _ _
  clear hX
  obtain ⟨bg, hbg⟩ : ∃ bg, bg = X.heap.size := ⟨_, rfl⟩
  obtain ⟨fv, hfv⟩ : ∃ fv, fv = Value.func (.func 87) #[] (gvCaps w1.heap.size w.heap.size (w.heap.size + 1) bg) := ⟨_, rfl⟩
  have hbY : Below X.heap.size X (X.alloc (.cells #[fv] 90)) := below_box _ _
  have hgv : Box (X.alloc (.cells #[fv] 90)) bg 90 fv := by rw [hbg]; exact Box.new X _ _
  have hbW : Below w.heap.size w (X.alloc (.cells #[fv] 90)) := ((HbW.out.trans (Hb1.out.mono HbW.out.size)).trans (hbX.mono (by omega))).trans (hbY.mono (by omega))
  have hL : LayG w.heap.size (X.heap.size + 1) w1.heap.size w.heap.size (w.heap.size + 1) bg g :=
    ⟨by omega, by omega, by omega, by omega, by omega, by omega, by omega, by omega, by omega, by omega, by omega, by omega⟩
  have hAs : AsI w (X.heap.size + 1) w1.heap.size w.heap.size (w.heap.size + 1) bg g AH AS AP cH cS cP p (fun _ => -1) [] (X.alloc (.cells #[fv] 90)) := by
    refine ⟨hbW, by simp, ((HB0.out.keep Hb1.out).keep hbX).keep hbY, hm.keep hbY, ?_, (HRow.out.keep hbX).keep hbY, _, ((HFd.out.keep Hb1.out).keep hbX).keep hbY, OwnLL.nil_ _ _⟩
    have := hgv
    rw [hfv] at this ⊢
    exact this
  have hcall := give_any w (X.heap.size + 1) w1.heap.size w.heap.size (w.heap.size + 1) bg g hL AH AS AP cH cS cP p HPp.out HOk.out p.nH 0 (fun _ => -1) [] _ (by omega) (PreM.start p) (by
    have : 5 ^ p.nH ≤ 5 ^ 6 := Nat.pow_le_pow_right (by omega) a2
    simp only [List.length_nil]
    omega) hAs
  rw [gvL_eq p HOk.out p.nH 0 _ (by omega) (PreM.start p)] at hcall
  subst hbg
  rw [hfv] at hcall
  simp only [gvCaps, List.append_toArray, List.cons_append, List.nil_append] at hcall
  change Calls Try.prog _ #[.int .i64 0, _, _, _, _] _ _ at hcall
  have HCall := Lib.hid hcall
  have hle : w.heap.size ≤ X.heap.size + 1 := by omega
  have Hle := Lib.hid hle
  clear hcall hAs hL hgv hfv hbW hbY hm hXs hbX hle
  go_wp2_with fail
  refine HCall.out.mono ?_
  rintro e w2 ⟨rfl, hI2⟩
  obtain ⟨hb2, -, -, -, -, -, v, hv, ho⟩ := hI2
  have c3 := hv.cell
  have HO := Lib.hid (ho.rebase Hle.out)
  have Hb2 := Lib.hid hb2
  clear hb2 hv ho HCall
  go_wp2
  go_ret
  exact ⟨v, rfl, HO.out, Hb2.out⟩
end Go.Proofs.Ytiigcjcolpmafaa

namespace Go.Proofs.Ytiigcjcolpmafaa
open Go.RowKit

set_option maxHeartbeats 1000000 in
set_option maxRecDepth 1000000 in
theorem Stable_bad (AH AS AP : Option Addr) (cH cS cP : Nat) (p : PlanD) (w : World) (hp : PlanIn w AH AS AP p) (hok : okPlan p = false) :
    Lr 23 #[.agg #[.slice AH p.nH cH, .slice AS p.nS cS, .slice AP p.nP cP]] w (.tuple #[.slice none 0 0, .int .i64 2]) := by
  have Hb0 := Lib.hid (below_box w (.cells #[.slice AH p.nH cH, .slice AS p.nS cS, .slice AP p.nP cP] 29))
  have hv := valid_any AH AS AP cH cS cP p _ (hp.keep Hb0.out)
  rw [hok] at hv
  have HV := Lib.hid hv
  clear hp hv hok
  show Calls _ _ _ _ _
  go_enter Try.func23, Try.ntmps23
  go_wp2_with fail
  refine Lr.use HV.out ?_
  intro w1 hb1
  have Hb1 := Lib.hid (Hb0.out.trans (hb1.mono Hb0.out.size))
  clear hb1
  go_wp2
  go_ret2
  exact ⟨rfl, Hb1.out⟩

set_option maxHeartbeats 1000000 in
set_option maxRecDepth 1000000 in
theorem Stable_ok (AH AS AP : Option Addr) (cH cS cP : Nat) (p : PlanD) (w : World) (hp : PlanIn w AH AS AP p) (hok : okPlan p = true) :
    Calls Try.prog 23 #[.agg #[.slice AH p.nH cH, .slice AS p.nS cS, .slice AP p.nP cP]] w fun e w' => ∃ x, e = .returned (.tuple #[x, .int .i64 0]) ∧ OwnLL w' w.heap.size x (stL p p.nH 0 (fun _ => -1)) ∧ Below w.heap.size w w' := by
  have Hb0 := Lib.hid (below_box w (.cells #[.slice AH p.nH cH, .slice AS p.nS cS, .slice AP p.nP cP] 29))
  have hB0 := BoxP.new w AH AS AP p.nH p.nS p.nP cH cS cP
  have HB0 := Lib.hid hB0
  have hv := valid_any AH AS AP cH cS cP p _ (hp.keep Hb0.out)
  rw [hok] at hv
  have HV := Lib.hid hv
  have HA : Hid (∀ w', Below w.heap.size w w' → Calls Try.prog 57 #[.agg #[.slice AH p.nH cH, .slice AS p.nS cS, .slice AP p.nP cP]] w' fun e w'' => ∃ x, e = .returned x ∧ OwnLL w'' w'.heap.size x (stL p p.nH 0 (fun _ => -1)) ∧ Below w'.heap.size w' w'') := Lib.hid (fun w' hb => allStable_any AH AS AP cH cS cP p w' (hp.keep hb) hok)
  clear hp hv hok hB0
  go_enter Try.func23, Try.ntmps23
  go_wp2_with fail
  refine Lr.use HV.out ?_
  intro w1 hb1
  have Hb1 := Lib.hid (Hb0.out.trans (hb1.mono Hb0.out.size))
  obtain ⟨k0, k1, k2⟩ := HB0.out.keep hb1
  clear hb1
  go_wp2_with fail
  refine (HA.out _ Hb1.out).mono ?_
  rintro e w2 ⟨x, rfl, hx, hb2⟩
  have HX := Lib.hid (hx.rebase Hb1.out.size)
  have Hb2 := Lib.hid (Hb1.out.trans (hb2.mono Hb1.out.size))
  clear hx hb2 k0 k1 k2
  go_wp2
  go_ret2
  exact ⟨x, rfl, HX.out, Hb2.out⟩
end Go.Proofs.Ytiigcjcolpmafaa

