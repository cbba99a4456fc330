/- TurnsMore, walked. -/
import Derived.Test.YtiigcjcolpmafaaYe
import Derived.Test.YtiigcjcolpmafaaYc
import Derived.Test.YtiigcjcolpmafaaSb
namespace Go.Proofs.Ytiigcjcolpmafaa
open Go.RowKit

theorem by_hand (q : Int) {n : Nat} (h1 : 1 ≤ n) (h2 : n ≤ 8) : ∃ u : Nat, u < n ∧ wrap64 ((IntKind.u64.wrap q).tmod (n : Int)) = (u : Int) := by
  rw [IntKind.wrap_u64]
  have h3 : 0 ≤ q % 18446744073709551616 := Int.emod_nonneg _ (by omega)
  rw [Int.tmod_eq_emod_of_nonneg h3]
  generalize q % 18446744073709551616 = x at *
  have h4 : 0 ≤ x % (n : Int) := Int.emod_nonneg _ (by omega)
  have h5 : x % (n : Int) < n := Int.emod_lt_of_pos _ (by omega)
  refine ⟨(x % (n : Int)).toNat, by omega, ?_⟩
  generalize x % (n : Int) = y at *
  unfold wrap64
  omega
theorem few_L {p : PlanD} (hok : okPlan p = true) {i : Nat} (hi : i < p.nH) : (fewP p).LH i = p.LH i ∧ p.LH i ≤ 9 := by
  obtain ⟨⟨a1, a2, a3, a4, -⟩, -, h3, -⟩ := okPlan_of hok
  have := (h3 i hi).1
  show min (p.LH i) 9 = p.LH i ∧ p.LH i ≤ 9
  omega

set_option maxHeartbeats 4000000 in
set_option maxRecDepth 1000000 in
theorem turnsMore_walk (AH AS AP : Option Addr) (cH cS cP : Nat) (p : PlanD) (q : Int) (w : World) (hp : PlanArg w AH AS AP cH cS cP p) (_ : (Lit.int .i64 q).wf = true) :
    Calls Try.prog 3 #[.agg #[.slice AH p.nH cH, .slice AS p.nS cS, .slice AP p.nP cP], .int .i64 q] w fun e w' => e = .returned (.bool true) ∧ Below w.heap.size w w' := by
  have Hb0 := Lib.hid (below_box w (.cells #[.slice AH p.nH cH, .slice AS p.nS cS, .slice AP p.nP cP] 25))
  have HB0 := Lib.hid (BoxP.newR w AH AS AP p.nH p.nS p.nP cH cS cP)
  have HP := Lib.hid hp
  clear hp
  go_enter Try.func3, Try.ntmps3
  go_wp2_with fail
  refine (of_any AH AS AP cH cS cP p _ (HP.out.keep Hb0.out)).mono ?_
  rintro e w1 ⟨BH, BdH, BS, BdS, BP, BdP, rfl, hpl, hb1⟩
  have Hb1 := Lib.hid (Hb0.out.trans (hb1.mono Hb0.out.size))
  have HPl1 := Lib.hid hpl
  have HBx1 := Lib.hid (HB0.out.keep hb1)
  have Hb1w := Lib.hid hb1
  clear hpl hb1
  cases hok : okPlan p with
  | false =>
    have HC2 := Lib.hid (First_bad BH BS BP BdH BdS BdP (fewP p) w1 HPl1.out (by rw [okPlan_few]; exact hok))
    clear hok
    go_wp2_with fail
    refine Lr.use HC2.out ?_
    intro w2 hb2
    have Hb2 := Lib.hid (Hb1.out.trans (hb2.mono Hb1.out.size))
    clear hb2 HC2
    go_wp2_with fail
    refine (awake_any _).mono ?_
    rintro e w7 ⟨rfl, hb7⟩
    have Hb7 := Lib.hid (Hb2.out.trans (hb7.mono Hb2.out.size))
    clear hb7
    go_wp2
    go_ret
    exact ⟨rfl, Hb7.out⟩
  | true =>
    have HOk := Lib.hid hok
    have HOf : Hid (okPlan (fewP p) = true) := Lib.hid (by rw [okPlan_few]; exact hok)
    have HN := Lib.hid (few_n hok).1
    have HL := Lib.hid (fun i (hi : i < p.nH) => few_L hok hi)
    obtain ⟨⟨hn1, hn6, -, -, -⟩, -⟩ := okPlan_of hok
    have HQk : Hid (∀ h, okPlan (setH (fewP p) h 0 (fun _ => 0)) = true) := Lib.hid (fun h => setH_ok HOf.out ⟨Nat.zero_le _, fun a ha => absurd ha (Nat.not_lt_zero _)⟩)
    have HC2 := Lib.hid (First_ok BH BS BP BdH BdS BdP (fewP p) w1 HPl1.out HOf.out)
    clear hok
    go_wp2_with fail
    refine HC2.out.mono ?_
    rintro e w2 ⟨g, m, a, rfl, hD, hE, hR, -, hb2⟩
    rw [HN.out] at hR ⊢
    have HD := Lib.hid hD
    have HE := Lib.hid hE
    have HR2 := Lib.hid hR
    have Hb2 := Lib.hid (Hb1.out.trans (hb2.mono Hb1.out.size))
    have HBx2 := Lib.hid (HBx1.out.keep hb2)
    have hb2w := Lib.hid hb2
    clear hD hE hR hb2 HC2
    obtain ⟨q0, q1, q2⟩ := HBx2.out
    have HC3 := Lib.hid (rValid_any AH AS AP cH cS cP p w2 (HP.out.keep Hb2.out))
    rw [HOk.out] at HC3
    go_wp2_with fail
    refine Lr.use HC3.out ?_
    intro w3 hb3
    have Hb3 := Lib.hid (Hb2.out.trans (hb3.mono Hb2.out.size))
    have Hb3w := Lib.hid (Hb1w.out.trans ((hb2w.out.trans (hb3.mono hb2w.out.size)).mono Hb1w.out.size))
    have HBx3 := Lib.hid (HBx2.out.keep hb3)
    have HR3 := Lib.hid (HR2.out.keep hb3)
    clear hb3 HC3 q0 q1 q2
    obtain ⟨u, hu, hU⟩ := by_hand q (show 1 ≤ p.nH by omega) (by omega)
    have hnz : ¬ (p.nH : Int) = 0 := by omega
    have hn0 : (0 : Int) < p.nH := by omega
    have hnn := bne_f (rfl : (p.nH : Int) = p.nH)
    have huf : u < (fewP p).nH := by rw [HN.out]; exact hu
    obtain ⟨q0, q1, q2⟩ := HBx3.out
    go_wp2_with fail
    refine (of_own AH AS AP cH cS cP p _ (HP.out.keep Hb3.out)).mono ?_
    rintro e w4 ⟨CH, CdH, CS, CdS, CP, CdP, rfl, hpl, hrb, -, hb4⟩
    obtain ⟨b, rfl, hbk1, hbk2, hbf, hbs⟩ := hrb (show 0 < min p.nH 8 by omega)
    have Hb4 := Lib.hid (Hb3.out.trans (hb4.mono Hb3.out.size))
    have HBx4 := Lib.hid (HBx3.out.keep hb4)
    have HR4 := Lib.hid (HR3.out.keep hb4)
    have hbq := below_box w4 (.cells #[.slice (some ⟨b, 0, none⟩) (min p.nH 8) CdH, .slice CS (min p.nS 8) CdS, .slice CP (min p.nP 9) CdP] 29)
    have hpl5 := hpl.keep hbq
    obtain ⟨b0, o0, Ar, cr, e0, hcr, -, -⟩ := hpl5.hands.at huf
    injection e0 with e0
    injection e0 with e1 e2
    subst e1 e2
    rw [Nat.zero_add] at hcr
    have hfr : (w4.alloc (.cells #[.slice (some ⟨b, 0, none⟩) (min p.nH 8) CdH, .slice CS (min p.nS 8) CdS, .slice CP (min p.nP 9) CdP] 29)).frozen? ⟨b, u, none⟩ = false := by
      rw [hbq.frozen hbk2]
      exact hbf u
    have HPq := Lib.hid (hpl5.putH huf hbs (Ints.zero (A := none) (f := fun _ => 0)) (Nat.le_refl 0) (by omega))
    have Hb5 : Hid (Below w.heap.size w ((w4.alloc (.cells #[.slice (some ⟨b, 0, none⟩) (min p.nH 8) CdH, .slice CS (min p.nS 8) CdS, .slice CP (min p.nP 9) CdP] 29)).setCell ⟨b, u, none⟩ (.slice none 0 0))) := Lib.hid ((Hb4.out.trans (hbq.mono Hb4.out.size)).setCell (p := ⟨b, u, none⟩) (show w.heap.size ≤ b by have := Hb3.out.size; omega) _)
    have HX5 : Hid (Exc b w4 ((w4.alloc (.cells #[.slice (some ⟨b, 0, none⟩) (min p.nH 8) CdH, .slice CS (min p.nS 8) CdS, .slice CP (min p.nP 9) CdP] 29)).setCell ⟨b, u, none⟩ (.slice none 0 0))) := Lib.hid ((Exc.of_below hbq).set u _)
    have hne : b ≠ w4.heap.size := by omega
    have z0 : ((w4.alloc (.cells #[.slice (some ⟨b, 0, none⟩) (min p.nH 8) CdH, .slice CS (min p.nS 8) CdS, .slice CP (min p.nP 9) CdP] 29)).setCell ⟨b, u, none⟩ (.slice none 0 0)).cell? ⟨w4.heap.size, 0, none⟩ = some (.slice (some ⟨b, 0, none⟩) (min p.nH 8) CdH) := by
      rw [World.cell?_setCell_far _ _ _ _ hne]
      simp [World.cell?_alloc_at]
    have z1 : ((w4.alloc (.cells #[.slice (some ⟨b, 0, none⟩) (min p.nH 8) CdH, .slice CS (min p.nS 8) CdS, .slice CP (min p.nP 9) CdP] 29)).setCell ⟨b, u, none⟩ (.slice none 0 0)).cell? ⟨w4.heap.size, 1, none⟩ = some (.slice CS (min p.nS 8) CdS) := by
      rw [World.cell?_setCell_far _ _ _ _ hne]
      simp [World.cell?_alloc_at]
    have z2 : ((w4.alloc (.cells #[.slice (some ⟨b, 0, none⟩) (min p.nH 8) CdH, .slice CS (min p.nS 8) CdS, .slice CP (min p.nP 9) CdP] 29)).setCell ⟨b, u, none⟩ (.slice none 0 0)).cell? ⟨w4.heap.size, 2, none⟩ = some (.slice CP (min p.nP 9) CdP) := by
      rw [World.cell?_setCell_far _ _ _ _ hne]
      simp [World.cell?_alloc_at]
    have hum : (u : Int) < ((min p.nH 8 : Nat) : Int) := by omega
    have hs0 : w.heap.size + 1 ≤ w3.heap.size := by
      have h2 := Hb3w.out.size
      simpa using h2
    have hbw : b ≠ w.heap.size := by omega
    clear hpl hrb hb4 hbq hpl5 hbf hbs hbk2
    rw [hU]
    clear hU q0 q1 q2
    go_wp2_with fail
    refine (First_ok (some ⟨b, 0, none⟩) CS CP CdH CdS CdP (setH (fewP p) u 0 (fun _ => 0)) _ HPq.out (HQk.out u)).mono ?_
    rintro e w6 ⟨g', m', a', rfl, hD', hE', hR', -, hb6⟩
    have HN2 : (setH (fewP p) u 0 (fun _ => 0)).nH = p.nH := HN.out
    rw [HN2] at hR' ⊢
    have HMn := Lib.hid (more_none (HQk.out u) hD' hE' huf)
    have HMl := Lib.hid (fun x (hx : x < (fewP p).nH) (hne : x ≠ u) => more_le HOf.out (HQk.out u) HD.out HE.out hD' hE' hx hne)
    have HR6 := Lib.hid hR'
    have Hb6 := Lib.hid (Hb5.out.trans (hb6.mono Hb5.out.size))
    have HG6 := Lib.hid ((HX5.out.row HR4.out (by have := HR2.out.lt; have := Hb3w.out.size; have := HR3.out.lt; omega)).keep hb6)
    have HBx6 : Hid (BoxP w6 w.heap.size AH AS AP p.nH p.nS p.nP cH cS cP) := Lib.hid (by
      obtain ⟨y0, y1, y2⟩ := HBx4.out
      refine ⟨?_, ?_, ?_⟩
      · exact old_cell (HX5.out.cell y0 (fun e => hbw e.symm)) hb6
      · exact old_cell (HX5.out.cell y1 (fun e => hbw e.symm)) hb6
      · exact old_cell (HX5.out.cell y2 (fun e => hbw e.symm)) hb6)
    clear hD' hE' hR' hb6 HN2 z0 z1 z2 hcr hfr hne
    have cu := HR6.out.cell hu
    rw [HMn.out] at cu
    have hui : (u : Int) < p.nH := by omega
    go_wp2
    clear cu
    go_loopw [73] (fun i wr => ∃ k : Nat, k ≤ p.nH ∧ i = .int .i64 k ∧ Below w6.heap.size w6 wr) (fun i _ => p.nH - (intOf i).toNat)
    case atStart => exact ⟨0, Nat.zero_le _, rfl, Below.refl _ _⟩
    case round =>
      obtain ⟨k, hk, rfl, hB⟩ := hrel
      have HB := Lib.hid hB
      clear hB
      have Hbr := Lib.hid (Hb6.out.trans (HB.out.mono Hb6.out.size))
      by_cases hlt : k < p.nH
      · by_cases hku : k = u
        · have hne : ((k : Int) != u) = false := bne_f (by omega)
          clear hku
          go_wp2_with fail
          go_quiet (fail)
          rename_i nq
          have HB2 := Lib.hid (HB.out.trans (((Dn.refl wr).drewN nq).below _))
          go_wp2
          go_roundw
          case rel => exact ⟨k + 1, by omega, by go_num, HB2.out⟩
          case measure => simp [intOf]; omega
        · have hne : ((k : Int) != u) = true := bne_t (by omega)
          obtain ⟨y0, -, -⟩ := HBx6.out.keep HB.out
          obtain ⟨bA, oA, AR, cR, rfl, hcA, hIA⟩ := (HP.out.keep Hbr.out).hands.at hlt
          have cb := (HR6.out.keep HB.out).cell hlt
          have ca := (HG6.out.keep HB.out).cell hlt
          have hl9 := (HL.out k hlt).2
          have hA1 := Lib.hid (fun q : Later wr => at_any AR (p.LH k) cR (p.vH k) (m' k) q.to (hIA.2.2.2.keep q.below) hl9)
          have hA2 := Lib.hid (fun q : Later wr => at_any AR (p.LH k) cR (p.vH k) (m k) q.to (hIA.2.2.2.keep q.below) hl9)
          have hle : atF (p.vH k) (p.LH k) (m' k) ≤ atF (p.vH k) (p.LH k) (m k) := atF_le hl9 (by
            have := HMl.out k (by rw [HN.out]; exact hlt) hku
            unfold rHd at this
            rw [(HL.out k hlt).1] at this
            exact this)
          generalize atF (p.vH k) (p.LH k) (m' k) = r1 at *
          generalize atF (p.vH k) (p.LH k) (m k) = r2 at *
          have hgt : decide (r2 < r1) = false := decide_eq_false (by omega)
          have hki : (k : Int) < p.nH := by omega
          clear hIA hl9 hle hku
          go_wp2_with fail
          refine wp_region_later (by kernel_rfl) (by kernel_rfl) ?_
          have k0 : ∀ q : Later wr, q.to.cell? ⟨w.heap.size, 0, none⟩ = some (.slice (some ⟨bA, oA, none⟩) p.nH cH) := fun q => q.cell y0
          have k1 : ∀ q : Later wr, q.to.cell? ⟨bA, oA + k, none⟩ = some (.slice AR (p.LH k) cR) := fun q => q.cell hcA
          have k2 : ∀ q : Later wr, q.to.cell? ⟨g', k, none⟩ = some (.int .i64 (m' k)) := fun q => q.cell cb
          have k3 : ∀ q : Later wr, q.to.cell? ⟨g, k, none⟩ = some (.int .i64 (m k)) := fun q => q.cell ca
          clear y0 hcA cb ca
          repeat
            (with_reducible refine wpQuiet_step ?_
             intro K hK
             go_simp
             first
               | (refine hK _ ?_; clear hK K)
               | (apply Exists.intro
                  refine ⟨fun _ => ?_, hK _ ?_⟩
                  (first
                    | (go_at_call_of 21 (m' k); exact Lr.later (hA1.out _))
                    | (go_at_call 21; exact Lr.later (hA2.out _)))
                  clear hK K))
          with_reducible refine wpQuiet_nil ?_
          intro _ hw'
          obtain ⟨q, rfl⟩ := hw'
          have HB2 := Lib.hid (HB.out.trans (q.below.mono HB.out.size))
          clear k0 k1 k2 k3
          generalize q.to = wy at *
          go_wp2
          first
            | exact ⟨⟨k + 1, by omega, by go_num, HB2.out⟩, by simp [intOf]; omega⟩
            | (go_roundw
               case rel => exact ⟨k + 1, by omega, by go_num, HB2.out⟩
               case measure => simp [intOf]; omega)
      · obtain rfl : k = p.nH := by omega
        go_wp2_with fail
        refine (awake_any _).mono ?_
        rintro e w7 ⟨rfl, hb7⟩
        have Hb7 := Lib.hid (Hbr.out.trans (hb7.mono Hbr.out.size))
        clear hb7
        go_wp2
        go_ret
        exact ⟨rfl, Hb7.out⟩
end Go.Proofs.Ytiigcjcolpmafaa
