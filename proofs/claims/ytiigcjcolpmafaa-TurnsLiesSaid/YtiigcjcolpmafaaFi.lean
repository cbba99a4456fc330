import Derived.Test.YtiigcjcolpmafaaVe
import Derived.Test.YtiigcjcolpmafaaRpt
import Derived.Deep.LoopGhost
namespace Go.Proofs.Ytiigcjcolpmafaa
open Go.RowKit

/-- Hand h has none, and one left to ask. -/
def wtP (p : PlanD) (m a : Nat → Int) (h : Nat) : Bool := decide (m h = -1) && decide (a h < (p.LH h : Int))
/-- The first for whom P holds, of the first k; -1: nobody. -/
def fstI (P : Nat → Bool) : Nat → Int
  | 0 => -1
  | k + 1 => if fstI P k = -1 then (if P k then (k : Int) else -1) else fstI P k
theorem fstI_none {P : Nat → Bool} {k : Nat} (h : NoneLt P k) : fstI P k = -1 := by
  induction k with
  | zero => rfl
  | succ k ih => simp [fstI, ih (fun j hj => h j (by omega)), h k (by omega)]
theorem fstI_some {P : Nat → Bool} {k : Nat} (h : NoneLt P k) (hk : P k = true) : ∀ K, k < K → fstI P K = k := by
  intro K hK
  induction K with
  | zero => omega
  | succ K ih =>
    rcases Nat.lt_or_ge k K with hl | hl
    · have := ih hl
      simp only [fstI, this]
      rw [if_neg (by omega)]
    · obtain rfl : K = k := by omega
      simp [fstI, fstI_none h, hk]

set_option maxHeartbeats 2000000 in
set_option maxRecDepth 1000000 in
theorem waiting_any (AH AS AP D E : Option Addr) (cH cS cP n c c' : Nat) (p : PlanD) (m a : Nat → Int) (w : World) (hp : PlanIn w AH AS AP p) (hd : Ints w D n m) (he : Ints w E n a) (hn : n = p.nH) :
    Lr 84 #[.agg #[.slice AH p.nH cH, .slice AS p.nS cS, .slice AP p.nP cP], .slice D n c, .slice E n c'] w (.int .i64 (fstI (wtP p m a) n)) := by
  have Hb0 := Lib.hid (below_box w (.cells #[.slice AH p.nH cH, .slice AS p.nS cS, .slice AP p.nP cP] 29))
  have HB0 := Lib.hid (BoxP.new w AH AS AP p.nH p.nS p.nP cH cS cP)
  obtain ⟨W, hW⟩ : ∃ W, W = w.alloc (.cells #[.slice AH p.nH cH, .slice AS p.nS cS, .slice AP p.nP cP] 29) := ⟨_, rfl⟩
  rw [← hW] at Hb0 HB0
  have HHd := Lib.hid (hp.hands.keep Hb0.out)
  have HD := Lib.hid (hd.keep Hb0.out)
  have HE := Lib.hid (he.keep Hb0.out)
  have hn9 := hp.nH9
  have HN := Lib.hid hn
  obtain ⟨q0, -, -⟩ := HB0.out
  have hn9' : n ≤ 9 := by omega
  clear hp hd he hn
  show Calls _ _ _ _ _
  go_enter Try.func84, Try.ntmps84
  go_wp2
  rw [← hW]
  clear hW
  go_loopw [11] (fun x wr => ∃ k : Nat, k ≤ n ∧ x = .int .i64 k ∧ NoneLt (wtP p m a) k ∧ Dn W wr) (fun x _ => n - (intOf x).toNat)
  case atStart => exact ⟨0, Nat.zero_le _, rfl, NoneLt.zero, Dn.refl _⟩
  case round =>
    obtain ⟨k, hk, rfl, hN, hD⟩ := hrel
    have HNl := Lib.hid hN
    clear hN
    have HbD := Lib.hid (Hb0.out.trans (hD.below _))
    by_cases hlt : k < n
    · obtain ⟨bD, oD, rfl, hcD⟩ := (HD.out.dn hD).at hlt
      obtain ⟨bE, oE, rfl, hcE⟩ := (HE.out.dn hD).at hlt
      obtain ⟨bH, oH, RH, kH, rfl, hcH, -, -⟩ := (HHd.out.keep (hD.below _)).at (show k < p.nH by have := HN.out; omega)
      have hkH : (k : Int) < (p.nH : Int) := by have := HN.out; omega
      have q0' := old_cell q0 (hD.below _)
      by_cases e1 : m k = -1
      · have eB := beq_t e1
        by_cases e2 : a k < (p.LH k : Int)
        · have HE1 : Hid (fstI (wtP p m a) n = k) := Lib.hid (fstI_some HNl.out (by unfold wtP; rw [decide_eq_true e1, decide_eq_true e2]; rfl) n hlt)
          clear e1
          go_wp2_with fail
          go_quiet (fail)
          go_wp2
          go_ret
          exact ⟨ret_int HE1.out.symm, HbD.out.trans (((Dn.refl _).drewN _).below _)⟩
        · have HN2 := Lib.hid (HNl.out.succ (by unfold wtP; rw [decide_eq_false e2]; simp))
          clear e1
          go_wp2_with fail
          go_quiet (fail)
          go_wp2
          go_roundw
          case rel => exact ⟨k + 1, by omega, by go_num, HN2.out, hD.drewN _⟩
          case measure => simp [intOf]; omega
      · have eB := beq_f e1
        have HN2 := Lib.hid (HNl.out.succ (by unfold wtP; rw [decide_eq_false e1]; rfl))
        clear e1
        go_wp2_with fail
        go_quiet (fail)
        go_wp2
        go_roundw
        case rel => exact ⟨k + 1, by omega, by go_num, HN2.out, hD.drewN _⟩
        case measure => simp [intOf]; omega
    · obtain rfl : k = n := by omega
      go_wp2
      go_ret
      exact ⟨ret_int (fstI_none HNl.out).symm, HbD.out⟩

set_option maxHeartbeats 2000000 in
set_option maxRecDepth 1000000 in
theorem admit_take (AH AS AP : Option Addr) (cH cS cP n gm h s : Nat) (p : PlanD) (m : Nat → Int) (w : World) (hp : PlanIn w AH AS AP p) (hR : RowI w gm n m) (hn : n = p.nH) (hok : okPlan p = true) (hh : h < p.nH) (hs : s < p.nS) (hpo : possB p h (s : Int) = true) (hcnt : (cnt (upd m h (s : Int)) (s : Int) n : Int) ≤ p.pl s)
    (hgm : ∀ w' : World, Exc gm w w' → PlanIn w' AH AS AP p) :
    Calls Try.prog 85 #[.agg #[.slice AH p.nH cH, .slice AS p.nS cS, .slice AP p.nP cP], .slice (some ⟨gm, 0, none⟩) n n, .int .i64 h, .int .i64 s] w fun e w' => e = .returned (.tuple #[]) ∧ RowI w' gm n (upd m h (s : Int)) ∧ Exc gm w w' := by
  obtain ⟨⟨a1, a2, a3, a4, a5⟩, -, -, -⟩ := okPlan_of hok
  have Hb0 := Lib.hid (below_box w (.cells #[.slice AH p.nH cH, .slice AS p.nS cS, .slice AP p.nP cP] 29))
  have HB0 := Lib.hid (BoxP.new w AH AS AP p.nH p.nS p.nP cH cS cP)
  have hglt := hR.lt
  have hpos := possible_any AH AS AP cH cS cP p h (s : Int) _ (hp.keep Hb0.out).hands.rows (hp.keep Hb0.out).shifts.rows hok hh
  rw [hpo] at hpos
  have HPos := Lib.hid hpos
  have HR := Lib.hid hR
  have HGm := Lib.hid hgm
  have hhn : h < n := by omega
  have hsP : (s : Int) < (p.nP : Int) := by omega
  have hsP' : s < p.nP := by omega
  have hn9 : n ≤ 9 := by omega
  clear hp hR hpos hgm hn hpo hok a5
  go_enter Try.func85, Try.ntmps85
  go_wp2_with fail
  refine Lr.use HPos.out ?_
  intro w1 hb1
  have hbw := Hb0.out.trans (hb1.mono Hb0.out.size)
  have HB1 := Lib.hid (HB0.out.keep hb1)
  have hR1 := HR.out.keep hbw
  have hck := hR1.cell hhn
  have hfz := hR1.frozen h
  have hR2 := hR1.set h (s : Int)
  have hE2 : Exc gm w (w1.setCell ⟨gm, h, none⟩ (.int .i64 (s : Int))) := (Exc.of_below hbw).set h _
  obtain ⟨bP, oP, hAP, hcP⟩ := (HGm.out _ hE2).places.at hsP'
  subst hAP
  have HR2 := Lib.hid hR2
  have HE2 := Lib.hid hE2
  have HcP := Lib.hid hcP
  have hne : (⟨w.heap.size, 2, none⟩ : Addr).block ≠ gm := by simp only; omega
  have hq2 : (w1.setCell ⟨gm, h, none⟩ (.int .i64 (s : Int))).cell? ⟨w.heap.size, 2, none⟩ = some (.slice (some ⟨bP, oP, none⟩) p.nP cP) := by
    rw [World.cell?_setCell_far _ _ _ _ (fun e => hne e.symm)]
    exact HB1.out.2.2
  have HQ2 := Lib.hid hq2
  have HHo := Lib.hid (handsOf_any (some ⟨gm, 0, none⟩) n n (upd m h (s : Int)) (s : Int) _ hR2.ints (by omega))
  clear hb1 hbw hR1 hR2 hE2 hcP hq2 hne
  go_wp2_with fail
  refine HHo.out.mono ?_
  rintro e w3 ⟨x, rfl, hx, hb3⟩
  obtain ⟨A3, c3, rfl, -⟩ := hx.shp (hndL_len _ _ _)
  have q2 := old_cell HQ2.out hb3
  have g3 := old_cell HcP.out hb3
  have HR3 := Lib.hid (HR2.out.keep hb3)
  have HE3 := Lib.hid (HE2.out.trans (Exc.of_below hb3))
  generalize cnt (upd m h (s : Int)) (s : Int) n = ct at *
  have hgt : ¬ p.pl s < (ct : Int) := by omega
  clear hx hb3 HHo
  go_wp2
  go_returns
  exact ⟨rfl, HR3.out, HE3.out⟩

/-- The plan of 'awake'. -/
def p1 : PlanD := ⟨1, fun _ => 1, fun _ _ => 0, 1, fun _ => 1, fun _ _ => 0, 1, fun _ => 1⟩
theorem p1_ok : okPlan p1 = true := by decide

set_option maxHeartbeats 2000000 in
set_option maxRecDepth 1000000 in
theorem first_one (AH AS AP : Option Addr) (cH cS cP : Nat) (w : World) (hp : PlanIn w AH AS AP p1) :
    Calls Try.prog 53 #[.agg #[.slice AH 1 cH, .slice AS 1 cS, .slice AP 1 cP]] w fun e w' => ∃ g, e = .returned (.slice (some ⟨g, 0, none⟩) 1 1) ∧ RowI w' g 1 (fun _ => 0) ∧ Below w.heap.size w w' := by
  have hmk : ∀ w : World, (Instr.makeSlice 23 (.int .i64 1) (.int .i64 1)).run Try.prog w = .ok (.slice (some ⟨w.heap.size, 0, none⟩) 1 1) (w.alloc (.cells (madeCells #[.int .i64 0] 1) 3)) := mk_ints 1 (by omega)
  have Hb0 := Lib.hid (below_box w (.cells #[.slice AH 1 cH, .slice AS 1 cS, .slice AP 1 cP] 29))
  have HB0 := Lib.hid (BoxP.new w AH AS AP 1 1 1 cH cS cP)
  have HUn := Lib.hid (unm_one (w.alloc (.cells #[.slice AH 1 cH, .slice AS 1 cS, .slice AP 1 cP] 29)))
  have HP := Lib.hid hp
  have hw0 : w.heap.size < (w.alloc (.cells #[.slice AH 1 cH, .slice AS 1 cS, .slice AP 1 cP] 29)).heap.size := by simp
  have HW0 := Lib.hid hw0
  clear hp hw0
  go_enter Try.func53, Try.ntmps53
  go_wp2_with fail
  refine HUn.out.mono ?_
  rintro e w1 ⟨gm, rfl, hR, hgm, hb1⟩
  have HB1 := Lib.hid (HB0.out.keep hb1)
  have Hb1 := Lib.hid (Hb0.out.trans (hb1.mono Hb0.out.size))
  have HR1 := Lib.hid hR
  have hgw : w.heap.size < gm := Nat.lt_of_lt_of_le HW0.out hgm
  have hbm := below_box w1 (.cells (madeCells #[.int .i64 0] 1) 3)
  obtain ⟨ga, hga⟩ : ∃ ga, ga = w1.heap.size := ⟨_, rfl⟩
  have hRa : RowI (w1.alloc (.cells (madeCells #[.int .i64 0] 1) 3)) ga 1 (fun _ => 0) := by rw [hga]; exact RowI.made w1 1
  have hgag : gm < ga := by rw [hga]; exact hR.lt
  obtain ⟨W2, hW2⟩ : ∃ W2, W2 = w1.alloc (.cells (madeCells #[.int .i64 0] 1) 3) := ⟨_, rfl⟩
  rw [← hW2] at hbm hRa
  have HB2 := Lib.hid (HB1.out.keep hbm)
  have Hb2 := Lib.hid (Hb1.out.trans (hbm.mono Hb1.out.size))
  have HR2 := Lib.hid (HR1.out.keep hbm)
  have HRa := Lib.hid hRa
  have hwt := waiting_any AH AS AP (some ⟨gm, 0, none⟩) (some ⟨ga, 0, none⟩) cH cS cP 1 1 1 p1 (fun _ => -1) (fun _ => 0) W2 (HP.out.keep Hb2.out) HR2.out.ints HRa.out.ints rfl
  rw [show fstI (wtP p1 (fun _ => -1) (fun _ => 0)) 1 = 0 from by decide] at hwt
  have HWt := Lib.hid hwt
  obtain ⟨q0, q1, q2⟩ := HB1.out
  obtain ⟨r0, r1, r2⟩ := HB2.out
  have HW2 := Lib.hid hW2
  have HGa := Lib.hid hga
  rw [hW2] at r0 r1 r2
  clear hR hgm hb1 hbm hRa hwt hga hW2
  go_wp2_with fail
  rw [← HW2.out, ← HGa.out]
  refine Lr.use HWt.out ?_
  intro w3 hb3
  have HB3 := Lib.hid (HB2.out.keep hb3)
  have Hb3 := Lib.hid (Hb2.out.trans (hb3.mono Hb2.out.size))
  have HR3 := Lib.hid (HR2.out.keep hb3)
  have HRa3 := Lib.hid (HRa.out.keep hb3)
  clear hb3 q0 q1 q2 r0 r1 r2 hmk
  go_wp2
  go_loopg [5] 1 (fun gk x wr => ∃ (mm aa hh : Int), x = .int .i64 hh ∧ RowI wr gm 1 (fun _ => mm) ∧ RowI wr ga 1 (fun _ => aa) ∧ BoxP wr w.heap.size AH AS AP 1 1 1 cH cS cP ∧ Below w.heap.size w wr ∧ ((gk = 1 ∧ hh = 0 ∧ mm = -1 ∧ aa = 0) ∨ (gk = 0 ∧ hh = -1 ∧ mm = 0)))
  case atStart => exact ⟨-1, 0, 0, rfl, HR3.out, HRa3.out, HB3.out, Hb3.out, .inl ⟨rfl, rfl, rfl, rfl⟩⟩
  case round =>
    obtain ⟨mm, aa, hh, rfl, hRm, hRa, hBx, hbel, hst⟩ := hrel
    rcases hst with ⟨rfl, rfl, rfl, rfl⟩ | ⟨rfl, rfl, rfl⟩
    · have hPl := HP.out.keep hbel
      obtain ⟨bH, oH, RH, kH, hAH, hcH, -, hIH⟩ := hPl.hands.at (show 0 < p1.nH by decide)
      subst hAH
      obtain ⟨bR, oR, hRH, hcR⟩ := hIH.at (show 0 < p1.LH 0 by decide)
      subst hRH
      have hcH' : wr.cell? ⟨bH, oH, none⟩ = some (.slice (some ⟨bR, oR, none⟩) 1 kH) := hcH
      have hcR' : wr.cell? ⟨bR, oR, none⟩ = some (.int .i64 0) := hcR
      obtain ⟨q0, q1, q2⟩ := hBx
      have hca := hRa.cell (show 0 < 1 by omega)
      have hfa := hRa.frozen 0
      have HBx := Lib.hid (show BoxP wr w.heap.size (some ⟨bH, oH, none⟩) AS AP 1 1 1 cH cS cP from ⟨q0, q1, q2⟩)
      have Hbel := Lib.hid hbel
      have HRm := Lib.hid hRm
      have HRa := Lib.hid hRa
      clear hcH hcR hIH hPl hbel hRm hRa
      go_wp2_with fail
      go_quiet (fail)
      have HRa4 := Lib.hid ((HRa.out.dn ((Dn.refl wr).drewN nq)).set 0 1)
      have HRm4 := Lib.hid (((HRm.out.dn ((Dn.refl wr).drewN nq)).setOther (a := ⟨ga, 0, none⟩) (show gm ≠ ga by omega) (.int .i64 1)))
      have hbel4 : Below w.heap.size w ((wr.drewN nq).setCell ⟨ga, 0, none⟩ (.int .i64 1)) := (Hbel.out.trans (((Dn.refl wr).drewN nq).below _)).setCell (p := ⟨ga, 0, none⟩) (show w.heap.size ≤ ga by omega) _
      have Hbel4 := Lib.hid hbel4
      have HBx4 : Hid (BoxP ((wr.drewN nq).setCell ⟨ga, 0, none⟩ (.int .i64 1)) w.heap.size (some ⟨bH, oH, none⟩) AS AP 1 1 1 cH cS cP) := Lib.hid (by
        obtain ⟨q0, q1, q2⟩ := HBx.out
        refine ⟨?_, ?_, ?_⟩
        · rw [World.cell?_setCell_far _ _ _ _ (show ga ≠ w.heap.size by omega)]; exact q0
        · rw [World.cell?_setCell_far _ _ _ _ (show ga ≠ w.heap.size by omega)]; exact q1
        · rw [World.cell?_setCell_far _ _ _ _ (show ga ≠ w.heap.size by omega)]; exact q2)
      obtain ⟨s0, s1, s2⟩ := HBx4.out
      have had := admit_take (some ⟨bH, oH, none⟩) AS AP cH cS cP 1 gm 0 0 p1 (fun _ => -1) _ (HP.out.keep Hbel4.out) HRm4.out rfl p1_ok (by decide) (by decide) (by decide) (by decide) (fun w' he => HP.out.keep (Hbel4.out.trans (he.below (by omega) Hbel4.out.size)))
      have HAd : Hid (Calls Try.prog 85 #[.agg #[.slice (some ⟨bH, oH, none⟩) 1 cH, .slice AS 1 cS, .slice AP 1 cP], .slice (some ⟨gm, 0, none⟩) 1 1, .int .i64 0, .int .i64 0] ((wr.drewN nq).setCell ⟨ga, 0, none⟩ (.int .i64 1)) fun e w' => e = .returned (.tuple #[]) ∧ RowI w' gm 1 (upd (fun _ => -1) 0 0) ∧ Exc gm ((wr.drewN nq).setCell ⟨ga, 0, none⟩ (.int .i64 1)) w') := Lib.hid had
      clear had hbel4 q0 q1 q2
      go_wp2_with fail
      refine HAd.out.mono ?_
      rintro e w5 ⟨rfl, hR5, hE5⟩
      have HR5 := Lib.hid (hR5.congr (f' := fun _ => 0) (fun i hi => by
        obtain rfl : i = 0 := by omega
        rfl))
      have HRa5 := Lib.hid ((hE5.row HRa4.out (show ga ≠ gm by omega)).congr (f' := fun _ => 1) (fun i hi => by
        obtain rfl : i = 0 := by omega
        rfl))
      have hb5 := Hbel4.out.trans (hE5.below (show w.heap.size ≤ gm by omega) Hbel4.out.size)
      have Hb5 := Lib.hid hb5
      have HBx5 : Hid (BoxP w5 w.heap.size (some ⟨bH, oH, none⟩) AS AP 1 1 1 cH cS cP) := Lib.hid ⟨hE5.cell s0 (show w.heap.size ≠ gm by omega), hE5.cell s1 (show w.heap.size ≠ gm by omega), hE5.cell s2 (show w.heap.size ≠ gm by omega)⟩
      clear hR5 hE5 hb5 s0 s1 s2 hca hfa hcH' hcR'
      obtain ⟨q0, q1, q2⟩ := HBx5.out
      have hwt := waiting_any (some ⟨bH, oH, none⟩) AS AP (some ⟨gm, 0, none⟩) (some ⟨ga, 0, none⟩) cH cS cP 1 1 1 p1 (fun _ => 0) (fun _ => 1) w5 (HP.out.keep Hb5.out) HR5.out.ints HRa5.out.ints rfl
      rw [show fstI (wtP p1 (fun _ => 0) (fun _ => 1)) 1 = -1 from by decide] at hwt
      have HWt5 := Lib.hid hwt
      clear hwt
      go_wp2_with fail
      refine Lr.use HWt5.out ?_
      intro w6 hb6
      have HR6 := Lib.hid (HR5.out.keep hb6)
      have HRa6 := Lib.hid (HRa5.out.keep hb6)
      have HBx6 := Lib.hid (HBx5.out.keep hb6)
      have Hb6 := Lib.hid (Hb5.out.trans (hb6.mono Hb5.out.size))
      clear hb6 q0 q1 q2
      go_wp2
      go_roundg 0
      case rel => exact ⟨0, 1, -1, rfl, HR6.out, HRa6.out, HBx6.out, Hb6.out, .inr ⟨rfl, rfl, rfl⟩⟩
      case measure => omega
    · have HRm := Lib.hid hRm
      have Hbel := Lib.hid hbel
      clear hRm hRa hBx hbel
      go_wp2
      go_ret
      exact ⟨gm, rfl, HRm.out, Hbel.out⟩

set_option maxHeartbeats 1000000 in
set_option maxRecDepth 1000000 in
theorem First_one (AH AS AP : Option Addr) (cH cS cP : Nat) (w : World) (hp : PlanIn w AH AS AP p1) :
    Calls Try.prog 17 #[.agg #[.slice AH 1 cH, .slice AS 1 cS, .slice AP 1 cP]] w fun e w' => ∃ g, e = .returned (.tuple #[.slice (some ⟨g, 0, none⟩) 1 1, .int .i64 0]) ∧ RowI w' g 1 (fun _ => 0) ∧ Below w.heap.size w w' := by
  have Hb0 := Lib.hid (below_box w (.cells #[.slice AH 1 cH, .slice AS 1 cS, .slice AP 1 cP] 29))
  have HB0 := Lib.hid (BoxP.new w AH AS AP 1 1 1 cH cS cP)
  have hv := valid_any AH AS AP cH cS cP p1 _ (hp.keep Hb0.out)
  rw [p1_ok] at hv
  have HV := Lib.hid hv
  have HP := Lib.hid hp
  clear hv hp
  go_enter Try.func17, Try.ntmps17
  go_wp2_with fail
  refine Lr.use HV.out ?_
  intro w1 hb1
  have Hb1 := Lib.hid (Hb0.out.trans (hb1.mono Hb0.out.size))
  obtain ⟨q0, q1, q2⟩ := HB0.out.keep hb1
  have HF := Lib.hid (first_one AH AS AP cH cS cP w1 (HP.out.keep Hb1.out))
  clear hb1
  go_wp2_with fail
  refine HF.out.mono ?_
  rintro e w2 ⟨g, rfl, hR, hb2⟩
  have HR := Lib.hid hR
  have Hb2 := Lib.hid (Hb1.out.trans (hb2.mono Hb1.out.size))
  clear hR hb2 q0 q1 q2
  go_wp2
  go_ret2
  exact ⟨g, rfl, HR.out, Hb2.out⟩
end Go.Proofs.Ytiigcjcolpmafaa
