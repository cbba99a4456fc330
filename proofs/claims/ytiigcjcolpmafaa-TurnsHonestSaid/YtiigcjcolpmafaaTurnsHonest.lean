/- TurnsHonest, walked. -/
import Derived.Test.YtiigcjcolpmafaaTurnsMore
import Derived.Deep.RegionHeld3
namespace Go.Proofs.Ytiigcjcolpmafaa
open Go.RowKit

theorem OwnL.shpL {w : World} {base k : Nat} {v : Value} {f : Nat → Int} (h : OwnL w base v (lst k f)) : ∃ A c, v = .slice A k c ∧ Ints w A k f ∧ k ≤ c := by
  obtain ⟨A, c, rfl, -, hI, -, hc⟩ := h.form
  rw [lst_len] at hI hc ⊢
  exact ⟨A, c, rfl, hI.congr (fun b hb => lst_getD _ _ _ hb), hc⟩

set_option maxHeartbeats 4000000 in
set_option maxRecDepth 1000000 in
theorem turnsHonest_walk (AH AS AP : Option Addr) (cH cS cP : Nat) (p : PlanD) (q : Int) (D : Option Addr) (n c : Nat) (l : Nat → Int) (w : World) (hp : PlanArg w AH AS AP cH cS cP p) (_ : (Lit.int .i64 q).wf = true) (hl : ArgI w D n c l) :
    Calls Try.prog 6 #[.agg #[.slice AH p.nH cH, .slice AS p.nS cS, .slice AP p.nP cP], .int .i64 q, .slice D n c] w fun e w' => e = .returned (.bool true) ∧ Below w.heap.size w w' := by
  have Hb0 := Lib.hid (below_box w (.cells #[.slice AH p.nH cH, .slice AS p.nS cS, .slice AP p.nP cP] 25))
  have HB0 := Lib.hid (BoxP.newR w AH AS AP p.nH p.nS p.nP cH cS cP)
  have HP := Lib.hid hp
  have HLi := Lib.hid (fun w' (hb : Below w.heap.size w w') => hl.below hb)
  clear hp hl
  go_enter Try.func6, Try.ntmps6
  go_wp2_with fail
  refine (of_any AH AS AP cH cS cP p _ (HP.out.keep Hb0.out)).mono ?_
  rintro e w1 ⟨BH, BdH, BS, BdS, BP, BdP, rfl, hpl, hb1⟩
  have Hb1 := Lib.hid (Hb0.out.trans (hb1.mono Hb0.out.size))
  have HPl1 := Lib.hid hpl
  have HBx1 := Lib.hid (HB0.out.keep hb1)
  have Hb1w := Lib.hid hb1
  clear hpl hb1
  cases hok : okPlan p with
  | false =>
    have HC2 := Lib.hid (First_bad BH BS BP BdH BdS BdP (fewP p) w1 HPl1.out (by rw [okPlan_few]; exact hok))
    clear hok
    go_wp2_with fail
    refine Lr.use HC2.out ?_
    intro w2 hb2
    have Hb2 := Lib.hid (Hb1.out.trans (hb2.mono Hb1.out.size))
    clear hb2 HC2
    go_wp2_with fail
    refine (awake_any _).mono ?_
    rintro e w7 ⟨rfl, hb7⟩
    have Hb7 := Lib.hid (Hb2.out.trans (hb7.mono Hb2.out.size))
    clear hb7
    go_wp2
    go_ret
    exact ⟨rfl, Hb7.out⟩
  | true =>
    have HOk := Lib.hid hok
    have HOf : Hid (okPlan (fewP p) = true) := Lib.hid (by rw [okPlan_few]; exact hok)
    have HN := Lib.hid (few_n hok).1
    have HL := Lib.hid (fun i (hi : i < p.nH) => few_L hok hi)
    obtain ⟨⟨hn1, hn6, -, -, -⟩, -⟩ := okPlan_of hok
    have HC2 := Lib.hid (First_ok BH BS BP BdH BdS BdP (fewP p) w1 HPl1.out HOf.out)
    clear hok
    go_wp2_with fail
    refine HC2.out.mono ?_
    rintro e w2 ⟨g, m, a, rfl, hD, hE, hR, -, hb2⟩
    rw [HN.out] at hR ⊢
    have HD := Lib.hid hD
    have HE := Lib.hid hE
    have HR2 := Lib.hid hR
    have Hb2 := Lib.hid (Hb1.out.trans (hb2.mono Hb1.out.size))
    have HBx2 := Lib.hid (HBx1.out.keep hb2)
    have hb2w := Lib.hid hb2
    clear hD hE hR hb2 HC2
    obtain ⟨q0, q1, q2⟩ := HBx2.out
    have Hb2w := Lib.hid (Hb1w.out.trans (hb2w.out.mono Hb1w.out.size))
    obtain ⟨u, hu, hU⟩ := by_hand q (show 1 ≤ p.nH by omega) (by omega)
    have hnz : ¬ (p.nH : Int) = 0 := by omega
    have hn0 : (0 : Int) < p.nH := by omega
    have hnn := bne_f (rfl : (p.nH : Int) = p.nH)
    have hnb := beq_f hnz
    have huf : u < (fewP p).nH := by rw [HN.out]; exact hu
    obtain ⟨q0, q1, q2⟩ := HBx2.out
    go_wp2_with fail
    refine (of_own AH AS AP cH cS cP p _ (HP.out.keep Hb2.out)).mono ?_
    rintro e w4 ⟨CH, CdH, CS, CdS, CP, CdP, rfl, hpl, hrb, -, hb4⟩
    obtain ⟨b, rfl, hbk1, hbk2, hbf, hbs⟩ := hrb (show 0 < min p.nH 8 by omega)
    have Hb4 := Lib.hid (Hb2.out.trans (hb4.mono Hb2.out.size))
    have HBx4 := Lib.hid (HBx2.out.keep hb4)
    have HR4 := Lib.hid (HR2.out.keep hb4)
    have hbq := below_box w4 (.cells #[.slice (some ⟨b, 0, none⟩) (min p.nH 8) CdH, .slice CS (min p.nS 8) CdS, .slice CP (min p.nP 9) CdP] 29)
    have hpl5 := hpl.keep hbq
    have hs0 : w.heap.size + 1 ≤ w2.heap.size := by
      have h2 := Hb2w.out.size
      simpa using h2
    have hbw : b ≠ w.heap.size := by omega
    have hne : b ≠ w4.heap.size := by omega
    have y0 : (w4.alloc (.cells #[.slice (some ⟨b, 0, none⟩) (min p.nH 8) CdH, .slice CS (min p.nS 8) CdS, .slice CP (min p.nP 9) CdP] 29)).cell? ⟨w4.heap.size, 0, none⟩ = some (.slice (some ⟨b, 0, none⟩) (min p.nH 8) CdH) := by simp [World.cell?_alloc_at]
    have y1 : (w4.alloc (.cells #[.slice (some ⟨b, 0, none⟩) (min p.nH 8) CdH, .slice CS (min p.nS 8) CdS, .slice CP (min p.nP 9) CdP] 29)).cell? ⟨w4.heap.size, 1, none⟩ = some (.slice CS (min p.nS 8) CdS) := by simp [World.cell?_alloc_at]
    have y2 : (w4.alloc (.cells #[.slice (some ⟨b, 0, none⟩) (min p.nH 8) CdH, .slice CS (min p.nS 8) CdS, .slice CP (min p.nP 9) CdP] 29)).cell? ⟨w4.heap.size, 2, none⟩ = some (.slice CP (min p.nP 9) CdP) := by simp [World.cell?_alloc_at]
    have hbf5 : ∀ i, (w4.alloc (.cells #[.slice (some ⟨b, 0, none⟩) (min p.nH 8) CdH, .slice CS (min p.nS 8) CdS, .slice CP (min p.nP 9) CdP] 29)).frozen? ⟨b, i, none⟩ = false := fun i => by
      rw [hbq.frozen hbk2]
      exact hbf i
    obtain ⟨W5, hW5⟩ : ∃ W5, W5 = w4.alloc (.cells #[.slice (some ⟨b, 0, none⟩) (min p.nH 8) CdH, .slice CS (min p.nS 8) CdS, .slice CP (min p.nP 9) CdP] 29) := ⟨_, rfl⟩
    rw [← hW5] at hbq hpl5 y0 y1 y2 hbf5
    have Hb5 := Lib.hid (Hb4.out.trans (hbq.mono Hb4.out.size))
    obtain ⟨b0, o0, Ar, cr, e0, hcr, -, -⟩ := hpl5.hands.at huf
    injection e0 with e0
    injection e0 with e1 e2
    subst e1 e2
    rw [Nat.zero_add] at hcr
    have hbz : b < W5.heap.size := Nat.lt_of_lt_of_le hbk2 hbq.size
    have hum : (u : Int) < ((min p.nH 8 : Nat) : Int) := by omega
    go_wp2_with fail
    rw [← hW5]
    clear hU q0 q1 q2 hW5
    have hBc : Below W5.heap.size W5 W5.drew := (Dn.refl W5).drew.below _
    have z0 := old_cell y0 hBc
    go_region_held3 (fun w' => w'.cell? ⟨w4.heap.size, 0, none⟩ = some (.slice (some ⟨b, 0, none⟩) (min p.nH 8) CdH))
      (first | exact z0 | exact old_cell y0 hBc | (rw [World.cell?_setCell_far _ _ _ _ hne]; exact old_cell y0 hBc))
      (first
        | (go_at_call 29; refine (list_any D n c l _ (HLi.out _ (Hb5.out.trans (hBc.mono Hb5.out.size)))).mono ?_; rintro e wl ⟨xl, rfl, hxl, hbl⟩; obtain ⟨Al, cl, rfl, hIl, hll⟩ := hxl.shpL; have hBc := hBc.trans (hbl.mono hBc.size); have hfl := (hBc.frozen (p := ⟨b, u, none⟩) hbz).trans (hbf5 u); have hcl := old_cell hcr hBc)
        | fail)
    have HPq := Lib.hid ((hpl5.keep hBc).putH huf hbs hIl hll (Nat.min_le_right n 9))
    have Hb6 := Lib.hid ((Hb5.out.trans (hBc.mono Hb5.out.size)).setCell (p := ⟨b, u, none⟩) (show w.heap.size ≤ b by omega) (.slice Al (min n 9) cl))
    have HX6 := Lib.hid (((Exc.of_below (G := b) (hbq.trans (hBc.mono hbq.size)))).set u (.slice Al (min n 9) cl))
    have x0 : (wl.setCell ⟨b, u, none⟩ (.slice Al (min n 9) cl)).cell? ⟨w4.heap.size, 0, none⟩ = some (.slice (some ⟨b, 0, none⟩) (min p.nH 8) CdH) := by
      rw [World.cell?_setCell_far _ _ _ _ hne]
      exact old_cell y0 hBc
    have x1 : (wl.setCell ⟨b, u, none⟩ (.slice Al (min n 9) cl)).cell? ⟨w4.heap.size, 1, none⟩ = some (.slice CS (min p.nS 8) CdS) := by
      rw [World.cell?_setCell_far _ _ _ _ hne]
      exact old_cell y1 hBc
    have x2 : (wl.setCell ⟨b, u, none⟩ (.slice Al (min n 9) cl)).cell? ⟨w4.heap.size, 2, none⟩ = some (.slice CP (min p.nP 9) CdP) := by
      rw [World.cell?_setCell_far _ _ _ _ hne]
      exact old_cell y2 hBc
    clear hpl hrb hb4 hbq hpl5 hbf hbs hbk2 hfl hcl hIl hll hBc z0 y0 y1 y2 hbf5 hcr hbz hxl hbl
    generalize wl.setCell ⟨b, u, none⟩ (.slice Al (min n 9) cl) = W6 at *
    cases hokq : okPlan (setH (fewP p) u (min n 9) l) with
    | false =>
      have HC7 := Lib.hid (First_bad (some ⟨b, 0, none⟩) CS CP CdH CdS CdP (setH (fewP p) u (min n 9) l) W6 HPq.out hokq)
      clear hokq
      go_wp2_with fail
      refine Lr.use HC7.out ?_
      intro w7 hb7
      have Hb7 := Lib.hid (Hb6.out.trans (hb7.mono Hb6.out.size))
      clear hb7 HC7 x0 x1 x2
      go_wp2_with fail
      refine (awake_any _).mono ?_
      rintro e w9 ⟨rfl, hb9⟩
      have Hb9 := Lib.hid (Hb7.out.trans (hb9.mono Hb7.out.size))
      clear hb9
      go_wp2
      go_ret
      exact ⟨rfl, Hb9.out⟩
    | true =>
      have HQk := Lib.hid hokq
      clear hokq
      go_wp2_with fail
      refine (First_ok (some ⟨b, 0, none⟩) CS CP CdH CdS CdP (setH (fewP p) u (min n 9) l) W6 HPq.out HQk.out).mono ?_
      rintro e w7 ⟨g', m', a', rfl, hD', hE', hR', -, hb7⟩
      have HN2 : (setH (fewP p) u (min n 9) l).nH = p.nH := HN.out
      rw [HN2] at hR' ⊢
      have hl9 := (HL.out u hu).2
      have hle : atF (p.vH u) (p.LH u) (m u) ≤ atF (p.vH u) (p.LH u) (m' u) := atF_le hl9 (by
        have := honest HOf.out HQk.out huf HD.out HE.out hD' hE'
        unfold rHd at this
        rw [(HL.out u hu).1] at this
        exact this)
      have Hb7 := Lib.hid (Hb6.out.trans (hb7.mono Hb6.out.size))
      have hge : g ≠ b := by
        have := HR2.out.lt
        omega
      have cb := hR'.cell hu
      have ca := ((HX6.out.row HR4.out hge).keep hb7).cell hu
      obtain ⟨v0, v1, v2⟩ := HBx4.out
      have t0 := old_cell (HX6.out.cell v0 (fun e => hbw e.symm)) hb7
      obtain ⟨bA, oA, AR, cR, rfl, hcA, hIA⟩ := (HP.out.keep Hb7.out).hands.at hu
      have hA1 := Lib.hid (fun q : Later w7 => at_any AR (p.LH u) cR (p.vH u) (m' u) q.to (hIA.2.2.2.keep q.below) hl9)
      have hA2 := Lib.hid (fun q : Later w7 => at_any AR (p.LH u) cR (p.vH u) (m u) q.to (hIA.2.2.2.keep q.below) hl9)
      have HAw := Lib.hid (fun q : Later w7 => (show Lr 20 #[] q.to (.bool true) from awake_any q.to))
      generalize atF (p.vH u) (p.LH u) (m' u) = r1 at *
      generalize atF (p.vH u) (p.LH u) (m u) = r2 at *
      have hge2 : decide (r2 ≤ r1) = true := decide_eq_true hle
      have hui : (u : Int) < p.nH := by omega
      have hee := beq_t (rfl : (p.nH : Int) = p.nH)
      clear hIA hl9 hle hD' hE' hR' hb7 HN2 x0 x1 x2 v0 v1 v2 hge
      go_wp2_with fail
      refine wp_region_later (by kernel_rfl) (by kernel_rfl) ?_
      have k0 : ∀ q : Later w7, q.to.cell? ⟨w.heap.size, 0, none⟩ = some (.slice (some ⟨bA, oA, none⟩) p.nH cH) := fun q => q.cell t0
      have k1 : ∀ q : Later w7, q.to.cell? ⟨bA, oA + u, none⟩ = some (.slice AR (p.LH u) cR) := fun q => q.cell hcA
      have k2 : ∀ q : Later w7, q.to.cell? ⟨g', u, none⟩ = some (.int .i64 (m' u)) := fun q => q.cell cb
      have k3 : ∀ q : Later w7, q.to.cell? ⟨g, u, none⟩ = some (.int .i64 (m u)) := fun q => q.cell ca
      clear t0 hcA cb ca
      repeat
        (with_reducible refine wpQuiet_step ?_
         intro K hK
         go_simp
         first
           | (refine hK _ ?_; clear hK K)
           | (apply Exists.intro
              refine ⟨fun _ => ?_, hK _ ?_⟩
              (first
                | (go_at_call 20; exact Lr.later (HAw.out _))
                | (go_at_call_of 21 (m' u); exact Lr.later (hA1.out _))
                | (go_at_call 21; exact Lr.later (hA2.out _)))
              clear hK K))
      with_reducible refine wpQuiet_nil ?_
      intro _ hw'
      obtain ⟨q, rfl⟩ := hw'
      have HB2 := Lib.hid (Hb7.out.trans (q.below.mono Hb7.out.size))
      clear k0 k1 k2 k3
      generalize q.to = wy at *
      go_wp2
      go_ret
      exact ⟨rfl, HB2.out⟩
end Go.Proofs.Ytiigcjcolpmafaa
