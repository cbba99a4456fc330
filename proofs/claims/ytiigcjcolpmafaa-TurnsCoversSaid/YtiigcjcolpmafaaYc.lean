/- The program's admit, whatever comes; first and First on a plan. -/
import Derived.Test.YtiigcjcolpmafaaYb
import Derived.Test.YtiigcjcolpmafaaRg
namespace Go.Proofs.Ytiigcjcolpmafaa
open Go.RowKit

set_option maxHeartbeats 2000000 in
set_option maxRecDepth 1000000 in
theorem admit_swap (AH AS AP : Option Addr) (cH cS cP n gm h s : Nat) (p : PlanD) (m : Nat → Int) (w : World) (hp : PlanIn w AH AS AP p) (hR : RowI w gm n m) (hn : n = p.nH) (hok : okPlan p = true) (hh : h < p.nH) (hs : s < p.nS) (hpo : possB p h (s : Int) = true) (hcnt : p.pl s < (cnt (upd m h (s : Int)) (s : Int) n : Int)) (hls : Lstd p (upd m h (s : Int)))
    (hgm : ∀ w' : World, Exc gm w w' → PlanIn w' AH AS AP p) :
    Calls Try.prog 85 #[.agg #[.slice AH p.nH cH, .slice AS p.nS cS, .slice AP p.nP cP], .slice (some ⟨gm, 0, none⟩) n n, .int .i64 h, .int .i64 s] w fun e w' => e = .returned (.tuple #[]) ∧
      ∃ z : Nat, z < n ∧ upd m h (s : Int) z = (s : Int) ∧ (∀ y, y < n → upd m h (s : Int) y = (s : Int) → rSd p s y ≤ rSd p s z) ∧ RowI w' gm n (upd (upd m h (s : Int)) z (-1)) ∧ Exc gm w w' := by
  obtain ⟨⟨a1, a2, a3, a4, a5⟩, a6, -, -⟩ := okPlan_of hok
  have hpl0 := (a6 s (by omega)).1
  have Hb0 := Lib.hid (below_box w (.cells #[.slice AH p.nH cH, .slice AS p.nS cS, .slice AP p.nP cP] 29))
  have HB0 := Lib.hid (BoxP.new w AH AS AP p.nH p.nS p.nP cH cS cP)
  have hglt := hR.lt
  have hpos := possible_any AH AS AP cH cS cP p h (s : Int) _ (hp.keep Hb0.out).hands.rows (hp.keep Hb0.out).shifts.rows hok hh
  rw [hpo] at hpos
  have HPos := Lib.hid hpos
  have HR := Lib.hid hR
  have HGm := Lib.hid hgm
  have HLs := Lib.hid hls
  have HN := Lib.hid hn
  have hhn : h < n := by omega
  have hsP : (s : Int) < (p.nP : Int) := by omega
  have hsP' : s < p.nP := by omega
  have hsS : (s : Int) < (p.nS : Int) := by omega
  have hn9 : n ≤ 6 := by omega
  have HLS := Lib.hid (hp.sS s hs)
  clear hp hR hpos hgm hls hn hpo hok a5 a6
  go_enter Try.func85, Try.ntmps85
  go_wp2_with fail
  refine Lr.use HPos.out ?_
  intro w1 hb1
  have hbw := Hb0.out.trans (hb1.mono Hb0.out.size)
  have HB1 := Lib.hid (HB0.out.keep hb1)
  have hR1 := HR.out.keep hbw
  have hck := hR1.cell hhn
  have hfz := hR1.frozen h
  have hR2 := hR1.set h (s : Int)
  have hE2 : Exc gm w (w1.setCell ⟨gm, h, none⟩ (.int .i64 (s : Int))) := (Exc.of_below hbw).set h _
  obtain ⟨bP, oP, hAP, hcP⟩ := (HGm.out _ hE2).places.at hsP'
  subst hAP
  have HR2 := Lib.hid hR2
  have HE2 := Lib.hid hE2
  have HcP := Lib.hid hcP
  have hne2 : (⟨w.heap.size, 2, none⟩ : Addr).block ≠ gm := by simp only; omega
  have hne1 : (⟨w.heap.size, 1, none⟩ : Addr).block ≠ gm := by simp only; omega
  have HQ2 : Hid ((w1.setCell ⟨gm, h, none⟩ (.int .i64 (s : Int))).cell? ⟨w.heap.size, 2, none⟩ = some (.slice (some ⟨bP, oP, none⟩) p.nP cP)) := Lib.hid (by
    rw [World.cell?_setCell_far _ _ _ _ (fun e => hne2 e.symm)]
    exact HB1.out.2.2)
  have HQ1 : Hid ((w1.setCell ⟨gm, h, none⟩ (.int .i64 (s : Int))).cell? ⟨w.heap.size, 1, none⟩ = some (.slice AS p.nS cS)) := Lib.hid (by
    rw [World.cell?_setCell_far _ _ _ _ (fun e => hne1 e.symm)]
    exact HB1.out.2.1)
  have HHo := Lib.hid (handsOf_any (some ⟨gm, 0, none⟩) n n (upd m h (s : Int)) (s : Int) _ hR2.ints (by omega))
  clear hb1 hbw hR1 hR2 hE2 hcP hne1 hne2
  go_wp2_with fail
  refine HHo.out.mono ?_
  rintro e w3 ⟨x, rfl, hx, hb3⟩
  obtain ⟨A3, c3, rfl, hI3⟩ := hx.shp (hndL_len _ _ _)
  have q2 := old_cell HQ2.out hb3
  have q1 := old_cell HQ1.out hb3
  have g3 := old_cell HcP.out hb3
  have HR3 := Lib.hid (HR2.out.keep hb3)
  have hE3 := HE2.out.trans (Exc.of_below hb3)
  obtain ⟨bS, oS, RS, kS, hAS, hcS, -, hIS⟩ := (HGm.out _ hE3).shifts.at hs
  subst hAS
  have HE3 := Lib.hid hE3
  have hlen := hndL_len (upd m h (s : Int)) (s : Int) n
  obtain ⟨k, hk⟩ : ∃ k, cnt (upd m h (s : Int)) (s : Int) n = k + 1 := ⟨cnt (upd m h (s : Int)) (s : Int) n - 1, by omega⟩
  have hof : lst (k + 1) (fun j => (hndL (upd m h (s : Int)) (s : Int) n).getD j 0) = hndL (upd m h (s : Int)) (s : Int) n := by
    have := lst_of (hndL (upd m h (s : Int)) (s : Int) n)
    rw [hlen, hk] at this
    exact this
  obtain ⟨x0, hx0, hm0⟩ := max_ex (rkI (p.vS s) (p.LS s)) (hndL (upd m h (s : Int)) (s : Int) n) (by
    intro e
    rw [e] at hlen
    simp at hlen
    omega)
  have hinj : ∀ y, y ∈ hndL (upd m h (s : Int)) (s : Int) n → rkI (p.vS s) (p.LS s) y = rkI (p.vS s) (p.LS s) x0 → y = x0 := fun y hy e => by
    obtain ⟨a, ha, ha2, rfl⟩ := hndL_mem.1 hy
    obtain ⟨b, hb, hb2, rfl⟩ := hndL_mem.1 hx0
    exact rkI_inj (HLs.out a s (by rw [← HN.out]; exact ha) ha2) (HLs.out b s (by rw [← HN.out]; exact hb) hb2) e
  obtain ⟨z, hz, hz2, hz3⟩ := hndL_mem.1 hx0
  have hct := cnt_le (upd m h (s : Int)) (s : Int) n
  have HCh := Lib.hid (choice_any RS A3 (p.LS s) kS (k + 1) c3 k (p.vS s) _ x0 w3 hIS (by rw [hk] at hI3; exact hI3) (by have := HLS.out; omega) (by omega) (by omega) (fun F hp hs => srt_last hp hs (by rw [hof]; exact hx0) (fun y hy => hm0 y (by rw [hof] at hy; exact hy)) (fun y hy => hinj y (by rw [hof] at hy; exact hy))))
  have HZ : Hid (z < n ∧ upd m h (s : Int) z = (s : Int) ∧ ∀ y, y < n → upd m h (s : Int) y = (s : Int) → rSd p s y ≤ rSd p s z) := Lib.hid ⟨hz, hz2, fun y hy e => by
    have := hm0 (y : Int) (hndL_mem.2 ⟨y, hy, e, rfl⟩)
    rw [hz3] at this
    exact this⟩
  rw [hz3] at HCh
  rw [hk] at hcnt hct ⊢
  generalize k + 1 = ct at *
  have hgt : p.pl s < (ct : Int) := hcnt
  clear hx hb3 HHo hI3 hx0 hm0 hinj hz3 hof hlen hk hE3 hck hfz hct hz2
  go_wp2_with fail
  refine Lr.use HCh.out ?_
  intro w4 hb4
  have hR4 := HR3.out.keep hb4
  have d1 := hR4.cell hz
  have d2 := hR4.frozen z
  have hzi : (z : Int) < n := by omega
  have HR5 := Lib.hid (hR4.set z (-1))
  have HE5 := Lib.hid ((HE3.out.trans (Exc.of_below hb4)).set z (.int .i64 (-1)))
  clear hR4 hb4 q1 q2 g3 hcS hIS
  go_wp2
  go_returns
  exact ⟨rfl, z, HZ.out.1, HZ.out.2.1, HZ.out.2.2, HR5.out, HE5.out⟩

/-- Whatever comes of an offer is a step of asking in turn. -/
theorem admit_any (AH AS AP : Option Addr) (cH cS cP n gm h : Nat) (p : PlanD) (m a : Nat → Int) (w : World) (hD : DaR p m a) (hp : PlanIn w AH AS AP p) (hR : RowI w gm n m) (hn : n = p.nH) (hok : okPlan p = true) (hh : h < p.nH) (hm : m h = -1) (ha : a h < p.LH h)
    (hgm : ∀ w' : World, Exc gm w w' → PlanIn w' AH AS AP p) :
    Calls Try.prog 85 #[.agg #[.slice AH p.nH cH, .slice AS p.nS cS, .slice AP p.nP cP], .slice (some ⟨gm, 0, none⟩) n n, .int .i64 h, .int .i64 (p.vH h (a h).toNat)] w fun e w' => e = .returned (.tuple #[]) ∧ ∃ m', DaR p m' (upd a h (a h + 1)) ∧ RowI w' gm n m' ∧ Exc gm w w' := by
  cases hpo : possB p h (p.vH h (a h).toNat) with
  | false =>
    refine (admit_skip AH AS AP cH cS cP n gm h _ p m w hp hR hok hh hpo).mono ?_
    rintro e w' ⟨rfl, h1, h2⟩
    exact ⟨rfl, m, hD.skip hh hm ha hpo, h1, h2⟩
  | true =>
    have hr := poss_rg2 hok hh hpo
    obtain ⟨s, hs⟩ : ∃ s : Nat, p.vH h (a h).toNat = s := ⟨(p.vH h (a h).toNat).toNat, by omega⟩
    rw [hs] at hpo ⊢
    subst hn
    rcases Int.lt_or_le (p.pl s) (cnt (upd m h (s : Int)) (s : Int) p.nH) with hc | hc
    · have hls : Lstd p (upd m h (s : Int)) := fun x t hx e => by
        unfold upd at e
        split at e
        · rename_i e2
          subst e2
          have : t = s := by omega
          subst this
          exact (poss_if2.1 hpo).2
        · exact hD.lstd x t hx e
      refine (admit_swap AH AS AP cH cS cP p.nH gm h s p m w hp hR rfl hok hh (by omega) hpo hc hls hgm).mono ?_
      rintro e w' ⟨rfl, z, h1, h2, h3, h4, h5⟩
      exact ⟨rfl, _, hD.swap hh hm ha hs hpo hc h1 h2 h3, h4, h5⟩
    · refine (admit_take AH AS AP cH cS cP p.nH gm h s p m w hp hR rfl hok hh (by omega) hpo hc hgm).mono ?_
      rintro e w' ⟨rfl, h1, h2⟩
      exact ⟨rfl, _, hD.take hh hm ha hs hpo hc, h1, h2⟩

theorem fstI_cases (P : Nat → Bool) (n : Nat) : (fstI P n = -1 ∧ NoneLt P n) ∨ ∃ k, k < n ∧ fstI P n = k ∧ P k = true := by
  induction n with
  | zero => exact .inl ⟨rfl, NoneLt.zero⟩
  | succ n ih =>
    rcases ih with ⟨e, h⟩ | ⟨k, hk, e, h⟩
    · cases hp : P n with
      | true => exact .inr ⟨n, by omega, by simp [fstI, e, hp], hp⟩
      | false => exact .inl ⟨by simp [fstI, e, hp], h.succ hp⟩
    · exact .inr ⟨k, by omega, by simp only [fstI, e]; rw [if_neg (by omega)], h⟩

set_option maxHeartbeats 4000000 in
set_option maxRecDepth 1000000 in
theorem first_any (AH AS AP : Option Addr) (cH cS cP : Nat) (p : PlanD) (w : World) (hp : PlanIn w AH AS AP p) (hok : okPlan p = true) :
    Calls Try.prog 53 #[.agg #[.slice AH p.nH cH, .slice AS p.nS cS, .slice AP p.nP cP]] w fun e w' => ∃ g m a, e = .returned (.slice (some ⟨g, 0, none⟩) p.nH p.nH) ∧ DaR p m a ∧ DaEnd p m a ∧ RowI w' g p.nH m ∧ w.heap.size ≤ g ∧ Below w.heap.size w w' := by
  obtain ⟨⟨a1, a2, -, -, -⟩, -, -, -⟩ := okPlan_of hok
  have hmk : ∀ w : World, _ := fun w => mk_ints p.nH (by omega) w
  have Hb0 := Lib.hid (below_box w (.cells #[.slice AH p.nH cH, .slice AS p.nS cS, .slice AP p.nP cP] 29))
  have HB0 := Lib.hid (BoxP.new w AH AS AP p.nH p.nS p.nP cH cS cP)
  have HUn := Lib.hid (unm_any p.nH a1 a2 (w.alloc (.cells #[.slice AH p.nH cH, .slice AS p.nS cS, .slice AP p.nP cP] 29)))
  have HP := Lib.hid hp
  have HOk := Lib.hid hok
  have hw0 : w.heap.size < (w.alloc (.cells #[.slice AH p.nH cH, .slice AS p.nS cS, .slice AP p.nP cP] 29)).heap.size := by simp
  have HW0 := Lib.hid hw0
  have hnp : (0 : Int) ≤ (p.nH : Int) := by omega
  clear hp hw0 hok
  go_enter Try.func53, Try.ntmps53
  go_wp2_with fail
  refine HUn.out.mono ?_
  rintro e w1 ⟨gm, rfl, hR, hgm, hb1⟩
  have HB1 := Lib.hid (HB0.out.keep hb1)
  have Hb1 := Lib.hid (Hb0.out.trans (hb1.mono Hb0.out.size))
  have HR1 := Lib.hid hR
  have hgw : w.heap.size < gm := Nat.lt_of_lt_of_le HW0.out hgm
  have hbm := below_box w1 (.cells (madeCells #[.int .i64 0] p.nH) 3)
  obtain ⟨ga, hga⟩ : ∃ ga, ga = w1.heap.size := ⟨_, rfl⟩
  have hRa : RowI (w1.alloc (.cells (madeCells #[.int .i64 0] p.nH) 3)) ga p.nH (fun _ => 0) := by rw [hga]; exact RowI.made w1 p.nH
  have hgag : gm < ga := by rw [hga]; exact hR.lt
  obtain ⟨W2, hW2⟩ : ∃ W2, W2 = w1.alloc (.cells (madeCells #[.int .i64 0] p.nH) 3) := ⟨_, rfl⟩
  rw [← hW2] at hbm hRa
  have HB2 := Lib.hid (HB1.out.keep hbm)
  have Hb2 := Lib.hid (Hb1.out.trans (hbm.mono Hb1.out.size))
  have HR2 := Lib.hid (HR1.out.keep hbm)
  have HRa := Lib.hid hRa
  have HWt := Lib.hid (fun (W : World) (m a : Nat → Int) (hb : Below w.heap.size w W) (h1 : RowI W gm p.nH m) (h2 : RowI W ga p.nH a) => by
    exact waiting_any AH AS AP (some ⟨gm, 0, none⟩) (some ⟨ga, 0, none⟩) cH cS cP p.nH p.nH p.nH p m a W (HP.out.keep hb) h1.ints h2.ints rfl)
  obtain ⟨q0, q1, q2⟩ := HB1.out
  obtain ⟨r0, r1, r2⟩ := HB2.out
  have HW2 := Lib.hid hW2
  have HGa := Lib.hid hga
  rw [hW2] at r0 r1 r2
  clear hR hgm hb1 hbm hRa hga hW2
  go_wp2_with fail
  rw [← HW2.out, ← HGa.out]
  refine Lr.use (HWt.out W2 _ _ Hb2.out HR2.out HRa.out) ?_
  intro w3 hb3
  have HB3 := Lib.hid (HB2.out.keep hb3)
  have Hb3 := Lib.hid (Hb2.out.trans (hb3.mono Hb2.out.size))
  have HR3 := Lib.hid (HR2.out.keep hb3)
  have HRa3 := Lib.hid (HRa.out.keep hb3)
  clear hb3 q0 q1 q2 r0 r1 r2 hmk
  go_wp2
  go_loopg [5] (msr p (fun _ => 0)) (fun gk x wr => ∃ (mm aa : Nat → Int), x = .int .i64 (fstI (wtP p mm aa) p.nH) ∧ DaR p mm aa ∧ gk = msr p aa ∧ RowI wr gm p.nH mm ∧ RowI wr ga p.nH aa ∧ BoxP wr w.heap.size AH AS AP p.nH p.nS p.nP cH cS cP ∧ Below w.heap.size w wr)
  case atStart => exact ⟨_, _, rfl, DaR.start, rfl, HR3.out, HRa3.out, HB3.out, Hb3.out⟩
  case round =>
    obtain ⟨mm, aa, rfl, hDa, hgk, hRm, hRa, hBx, hbel⟩ := hrel
    have HGk := Lib.hid hgk
    clear hgk
    rcases fstI_cases (wtP p mm aa) p.nH with ⟨hst, hno⟩ | ⟨h, hhn, hst, hwt⟩
    · have HRm := Lib.hid hRm
      have Hbel := Lib.hid hbel
      have HDa := Lib.hid hDa
      have HNo : Hid (DaEnd p mm aa) := Lib.hid hno
      clear hRm hRa hBx hbel hDa hno
      rw [hst]
      clear hst
      go_wp2
      go_ret
      exact ⟨gm, mm, aa, rfl, HDa.out, HNo.out, HRm.out, by omega, Hbel.out⟩
    · have hPl := HP.out.keep hbel
      unfold wtP at hwt
      rw [Bool.and_eq_true_iff, decide_eq_true_iff, decide_eq_true_iff] at hwt
      have hI := hDa.daI HOk.out
      have hhp : h < p.nH := hhn
      have ha0 := (hI.ask h hhp).1
      obtain ⟨j, hj⟩ : ∃ j : Nat, aa h = j := ⟨(aa h).toNat, by omega⟩
      have hjl : j < p.LH h := by omega
      have hjli : (j : Int) < p.LH h := by omega
      have hhni : (h : Int) < p.nH := by omega
      obtain ⟨bH, oH, RH, kH, hAH, hcH, -, hIH⟩ := hPl.hands.at hhp
      subst hAH
      obtain ⟨bR, oR, hRH, hcR⟩ := hIH.at hjl
      subst hRH
      have HMs := Lib.hid (msr_upd (p := p) (a := aa) hhp ha0 hwt.2)
      have HAd := Lib.hid (fun (W : World) (hb : Below w.heap.size w W) (hr : RowI W gm p.nH mm) => admit_any (some ⟨bH, oH, none⟩) AS AP cH cS cP p.nH gm h p mm aa W hDa (HP.out.keep hb) hr rfl HOk.out hhp hwt.1 hwt.2 (fun w' he => HP.out.keep (hb.trans (he.below (by omega) hb.size))))
      rw [hj, Int.toNat_natCast] at HAd
      rw [hj] at HMs
      have hja : (j : Int) ≤ 9 := by
        have := hPl.sH h hhp
        omega
      have hca := hRa.cell hhn
      rw [hj] at hca
      have hfa := hRa.frozen h
      obtain ⟨q0, q1, q2⟩ := hBx
      have HBx := Lib.hid (show BoxP wr w.heap.size (some ⟨bH, oH, none⟩) AS AP p.nH p.nS p.nP cH cS cP from ⟨q0, q1, q2⟩)
      have Hbel := Lib.hid hbel
      have HRm := Lib.hid hRm
      have HRa := Lib.hid hRa
      have hne1 : (((h : Int)) == -1) = false := beq_f (by omega)
      generalize p.vH h j = sv at *
      rw [hst]
      clear hIH hPl hbel hRm hRa hDa hwt hI ha0 hj hst
      go_wp2_with fail
      go_quiet (fail)
      have HRa4 := Lib.hid ((HRa.out.dn ((Dn.refl wr).drewN nq)).set h ((j : Int) + 1))
      have HRm4 := Lib.hid (((HRm.out.dn ((Dn.refl wr).drewN nq)).setOther (a := ⟨ga, h, none⟩) (show gm ≠ ga by omega) (.int .i64 ((j : Int) + 1))))
      have hbel4 : Below w.heap.size w ((wr.drewN nq).setCell ⟨ga, h, none⟩ (.int .i64 ((j : Int) + 1))) := (Hbel.out.trans (((Dn.refl wr).drewN nq).below _)).setCell (p := ⟨ga, h, none⟩) (show w.heap.size ≤ ga by omega) _
      have Hbel4 := Lib.hid hbel4
      have HBx4 : Hid (BoxP ((wr.drewN nq).setCell ⟨ga, h, none⟩ (.int .i64 ((j : Int) + 1))) w.heap.size (some ⟨bH, oH, none⟩) AS AP p.nH p.nS p.nP cH cS cP) := Lib.hid (by
        obtain ⟨q0, q1, q2⟩ := HBx.out
        refine ⟨?_, ?_, ?_⟩
        · rw [World.cell?_setCell_far _ _ _ _ (show ga ≠ w.heap.size by omega)]; exact q0
        · rw [World.cell?_setCell_far _ _ _ _ (show ga ≠ w.heap.size by omega)]; exact q1
        · rw [World.cell?_setCell_far _ _ _ _ (show ga ≠ w.heap.size by omega)]; exact q2)
      obtain ⟨s0, s1, s2⟩ := HBx4.out
      have HAd4 := Lib.hid (HAd.out _ Hbel4.out HRm4.out)
      clear hbel4 q0 q1 q2
      go_wp2_with fail
      refine HAd4.out.mono ?_
      rintro e w5 ⟨rfl, m', hD5, hR5, hE5⟩
      have HD5 := Lib.hid hD5
      have HR5 := Lib.hid hR5
      have HRa5 := Lib.hid (hE5.row HRa4.out (show ga ≠ gm by omega))
      have hb5 := Hbel4.out.trans (hE5.below (show w.heap.size ≤ gm by omega) Hbel4.out.size)
      have Hb5 := Lib.hid hb5
      have HBx5 : Hid (BoxP w5 w.heap.size (some ⟨bH, oH, none⟩) AS AP p.nH p.nS p.nP cH cS cP) := Lib.hid ⟨hE5.cell s0 (show w.heap.size ≠ gm by omega), hE5.cell s1 (show w.heap.size ≠ gm by omega), hE5.cell s2 (show w.heap.size ≠ gm by omega)⟩
      clear hR5 hE5 hb5 s0 s1 s2 hca hfa hcH hcR hD5 HAd
      obtain ⟨q0, q1, q2⟩ := HBx5.out
      have HWt5 := Lib.hid (HWt.out w5 _ _ Hb5.out HR5.out HRa5.out)
      go_wp2_with fail
      refine Lr.use HWt5.out ?_
      intro w6 hb6
      have HR6 := Lib.hid (HR5.out.keep hb6)
      have HRa6 := Lib.hid (HRa5.out.keep hb6)
      have HBx6 := Lib.hid (HBx5.out.keep hb6)
      have Hb6 := Lib.hid (Hb5.out.trans (hb6.mono Hb5.out.size))
      clear hb6 q0 q1 q2
      go_wp2
      go_roundg (msr p (upd aa h ((j : Int) + 1)))
      case rel => exact ⟨m', _, rfl, HD5.out, rfl, HR6.out, HRa6.out, HBx6.out, Hb6.out⟩
      case measure => rw [HGk.out]; exact HMs.out

set_option maxHeartbeats 1000000 in
set_option maxRecDepth 1000000 in
theorem First_ok (AH AS AP : Option Addr) (cH cS cP : Nat) (p : PlanD) (w : World) (hp : PlanIn w AH AS AP p) (hok : okPlan p = true) :
    Calls Try.prog 17 #[.agg #[.slice AH p.nH cH, .slice AS p.nS cS, .slice AP p.nP cP]] w fun e w' => ∃ g m a, e = .returned (.tuple #[.slice (some ⟨g, 0, none⟩) p.nH p.nH, .int .i64 0]) ∧ DaR p m a ∧ DaEnd p m a ∧ RowI w' g p.nH m ∧ w.heap.size ≤ g ∧ Below w.heap.size w w' := by
  have Hb0 := Lib.hid (below_box w (.cells #[.slice AH p.nH cH, .slice AS p.nS cS, .slice AP p.nP cP] 29))
  have HB0 := Lib.hid (BoxP.new w AH AS AP p.nH p.nS p.nP cH cS cP)
  have hv := valid_any AH AS AP cH cS cP p _ (hp.keep Hb0.out)
  rw [hok] at hv
  have HV := Lib.hid hv
  have HP := Lib.hid hp
  have HOk := Lib.hid hok
  clear hv hp hok
  go_enter Try.func17, Try.ntmps17
  go_wp2_with fail
  refine Lr.use HV.out ?_
  intro w1 hb1
  have Hb1 := Lib.hid (Hb0.out.trans (hb1.mono Hb0.out.size))
  obtain ⟨q0, q1, q2⟩ := HB0.out.keep hb1
  have HF := Lib.hid (first_any AH AS AP cH cS cP p w1 (HP.out.keep Hb1.out) HOk.out)
  clear hb1
  go_wp2_with fail
  refine HF.out.mono ?_
  rintro e w2 ⟨g, m, a, rfl, hD, hE, hR, hg, hb2⟩
  have HR := Lib.hid hR
  have HD := Lib.hid hD
  have HE := Lib.hid hE
  have HG : Hid (w.heap.size ≤ g) := Lib.hid (Nat.le_trans Hb1.out.size hg)
  have Hb2 := Lib.hid (Hb1.out.trans (hb2.mono Hb1.out.size))
  clear hR hb2 q0 q1 q2 hD hE hg
  go_wp2
  go_ret2
  exact ⟨g, m, a, rfl, HD.out, HE.out, HR.out, HG.out, Hb2.out⟩
set_option maxHeartbeats 1000000 in
set_option maxRecDepth 1000000 in
theorem First_bad (AH AS AP : Option Addr) (cH cS cP : Nat) (p : PlanD) (w : World) (hp : PlanIn w AH AS AP p) (hok : okPlan p = false) :
    Lr 17 #[.agg #[.slice AH p.nH cH, .slice AS p.nS cS, .slice AP p.nP cP]] w (.tuple #[.slice none 0 0, .int .i64 2]) := by
  unfold Lr
  have Hb0 := Lib.hid (below_box w (.cells #[.slice AH p.nH cH, .slice AS p.nS cS, .slice AP p.nP cP] 29))
  have hv := valid_any AH AS AP cH cS cP p _ (hp.keep Hb0.out)
  rw [hok] at hv
  have HV := Lib.hid hv
  clear hv hp hok
  go_enter Try.func17, Try.ntmps17
  go_wp2_with fail
  refine Lr.use HV.out ?_
  intro w1 hb1
  have Hb1 := Lib.hid (Hb0.out.trans (hb1.mono Hb0.out.size))
  clear hb1
  go_wp2
  go_returns
  exact ⟨rfl, Hb1.out⟩
end Go.Proofs.Ytiigcjcolpmafaa
