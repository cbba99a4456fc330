/- TurnsLattice, walked. -/
import Derived.Test.YtiigcjcolpmafaaYM
namespace Go.Proofs.Ytiigcjcolpmafaa
open Go.RowKit

theorem by_idx (q : Int) {n : Nat} (h1 : 1 ≤ n) (h2 : n ≤ 100000) : ∃ u : Nat, u < n ∧ wrap64 ((IntKind.u64.wrap q).tmod (n : Int)) = (u : Int) := by
  rw [IntKind.wrap_u64]
  have h3 : 0 ≤ q % 18446744073709551616 := Int.emod_nonneg _ (by omega)
  rw [Int.tmod_eq_emod_of_nonneg h3]
  generalize q % 18446744073709551616 = x at *
  have h4 : 0 ≤ x % (n : Int) := Int.emod_nonneg _ (by omega)
  have h5 : x % (n : Int) < n := Int.emod_lt_of_pos _ (by omega)
  refine ⟨(x % (n : Int)).toNat, by omega, ?_⟩
  generalize x % (n : Int) = y at *
  unfold wrap64
  omega

set_option maxHeartbeats 8000000 in
set_option maxRecDepth 1000000 in
theorem turnsLattice_walk (AH AS AP : Option Addr) (cH cS cP : Nat) (p : PlanD) (i j q : Int) (w : World) (hp : PlanArg w AH AS AP cH cS cP p) (_ : (Lit.int .i64 i).wf = true) (_ : (Lit.int .i64 j).wf = true) (_ : (Lit.int .i64 q).wf = true) :
    Calls Try.prog 9 #[.agg #[.slice AH p.nH cH, .slice AS p.nS cS, .slice AP p.nP cP], .int .i64 i, .int .i64 j, .int .i64 q] w fun e w' => e = .returned (.bool true) ∧ Below w.heap.size w w' := by
  have Hb0 := Lib.hid (below_box w (.cells #[.slice AH p.nH cH, .slice AS p.nS cS, .slice AP p.nP cP] 25))
  have HB0 := Lib.hid (BoxP.newR w AH AS AP p.nH p.nS p.nP cH cS cP)
  have HP := Lib.hid hp
  clear hp
  go_enter Try.func9, Try.ntmps9
  go_wp2_with fail
  refine (of_any AH AS AP cH cS cP p _ (HP.out.keep Hb0.out)).mono ?_
  rintro e w1 ⟨BH, BdH, BS, BdS, BP, BdP, rfl, hpl, hb1⟩
  have Hb1 := Lib.hid (Hb0.out.trans (hb1.mono Hb0.out.size))
  have HPl1 := Lib.hid hpl
  have HBx1 := Lib.hid (HB0.out.keep hb1)
  clear hpl hb1
  cases hok : okPlan p with
  | false =>
    have HC2 := Lib.hid (Stable_bad BH BS BP BdH BdS BdP (fewP p) w1 HPl1.out (by rw [okPlan_few]; exact hok))
    clear hok
    go_wp2_with fail
    refine Lr.use HC2.out ?_
    intro w2 hb2
    have Hb2 := Lib.hid (Hb1.out.trans (hb2.mono Hb1.out.size))
    clear hb2 HC2
    go_wp2_with fail
    refine (awake_any _).mono ?_
    rintro e w7 ⟨rfl, hb7⟩
    have Hb7 := Lib.hid (Hb2.out.trans (hb7.mono Hb2.out.size))
    clear hb7
    go_wp2
    go_ret
    exact ⟨rfl, Hb7.out⟩
  | true =>
    have HOk := Lib.hid hok
    have HOf : Hid (okPlan (fewP p) = true) := Lib.hid (by rw [okPlan_few]; exact hok)
    have HN := Lib.hid (few_n hok).1
    have HLs := Lib.hid (few_LsP hok)
    have HC2 := Lib.hid (Stable_ok BH BS BP BdH BdS BdP (fewP p) w1 HPl1.out HOf.out)
    have hkk := kP_pos hok
    have HSb := Lib.hid (fun i (hi : i < kP p) => mm_stb hok hi)
    have HMl := Lib.hid (fun i (hi : i < kP p) => mm_len hok hi)
    have HKf := Lib.hid (few_kP hok)
    have hkl := kP_le hok
    have hkl2 : ((kP p : Nat) : Int) ≤ 100000 := by omega
    obtain ⟨⟨hn1, hn6, -, -, -⟩, -⟩ := okPlan_of hok
    clear hok
    go_wp2_with fail
    refine HC2.out.mono ?_
    rintro e w2 ⟨x2, rfl, hx2, hb2⟩
    rw [HLs.out] at hx2
    obtain ⟨AY, cY, rfl, hrw⟩ := hx2.rows
    have hM : Mat w2 AY (kP p) p.nH (mmP p) := Mat.of hrw (fun i hi => HMl.out i hi)
    obtain ⟨bY, oY, A0, d0, rfl, -, -⟩ := hM.at hkk
    have hK : (stL p p.nH 0 (fun _ => -1)).length = kP p := rfl
    rw [hK]
    have HM := Lib.hid hM
    have Hb2 := Lib.hid (Hb1.out.trans (hb2.mono Hb1.out.size))
    have HBx2 := Lib.hid (HBx1.out.keep hb2)
    clear hx2 hrw hM hb2 HC2 hK HLs HMl
    obtain ⟨q0, q1, q2⟩ := HBx2.out
    have hkz := beq_f (show ¬ ((kP p : Nat) : Int) = 0 by omega)
    have hkz2 : ¬ ((kP p : Nat) : Int) = 0 := by omega
    go_wp2_with fail
    refine (of_any AH AS AP cH cS cP p _ (HP.out.keep Hb2.out)).mono ?_
    rintro e w3 ⟨CH, CdH, CS, CdS, CP, CdP, rfl, hpl, hb3⟩
    have Hb3 := Lib.hid (Hb2.out.trans (hb3.mono Hb2.out.size))
    have HPl3 := Lib.hid hpl
    have HBx3 := Lib.hid (HBx2.out.keep hb3)
    have HM3 := Lib.hid (HM.out.keep hb3)
    clear hpl hb3 q0 q1 q2
    have HC4 := Lib.hid (First_ok CH CS CP CdH CdS CdP (fewP p) w3 HPl3.out HOf.out)
    go_wp2_with fail
    refine HC4.out.mono ?_
    rintro e w4 ⟨gf, m, a, rfl, hD, hE, hR, -, hb4⟩
    rw [HN.out] at hR ⊢
    have HF := Lib.hid (first_all HOk.out hD hE)
    have HR4 := Lib.hid hR.ints
    have Hb4 := Lib.hid (Hb3.out.trans (hb4.mono Hb3.out.size))
    have HBx4 := Lib.hid (HBx3.out.keep hb4)
    have HM4 := Lib.hid (HM3.out.keep hb4)
    clear hD hE hR hb4 HC4
    obtain ⟨q0, q1, q2⟩ := HBx4.out
    go_wp2_with fail
    refine (of_any AH AS AP cH cS cP p _ (HP.out.keep Hb4.out)).mono ?_
    rintro e w5 ⟨DH, DdH, DS, DdS, DP, DdP, rfl, hpl, hb5⟩
    have Hb5 := Lib.hid (Hb4.out.trans (hb5.mono Hb4.out.size))
    have HPl5 := Lib.hid hpl
    have HBx5 := Lib.hid (HBx4.out.keep hb5)
    have HM5 := Lib.hid (HM4.out.keep hb5)
    have HR5 := Lib.hid (HR4.out.keep hb5)
    clear hpl hb5 q0 q1 q2
    have HC6 := Lib.hid (Last_ok DH DS DP DdH DdS DdP (fewP p) w5 HPl5.out HOf.out)
    go_wp2_with fail
    refine HC6.out.mono ?_
    rintro e w6 ⟨gl, rfl, hR, hb6⟩
    rw [HN.out] at hR ⊢
    have HL := Lib.hid (last_all HOk.out)
    obtain ⟨l, hl⟩ : ∃ l, l = midG (fewP p) (kP (fewP p) - 1) := ⟨_, rfl⟩
    rw [← hl] at hR HL
    have HKl : Hid (l = midG (fewP p) (kP (fewP p) - 1)) := Lib.hid hl
    clear hl
    have HS6 := Lib.hid hR.ints
    have Hb6 := Lib.hid (Hb5.out.trans (hb6.mono Hb5.out.size))
    have HBx6 := Lib.hid (HBx5.out.keep hb6)
    have HM6 := Lib.hid (HM5.out.keep hb6)
    have HR6 := Lib.hid (HR5.out.keep hb6)
    clear hR hb6 HC6
    obtain ⟨u, hu, hU⟩ := by_idx i (show 1 ≤ kP p by omega) hkl
    obtain ⟨v, hv, hV⟩ := by_idx j (show 1 ≤ kP p by omega) hkl
    obtain ⟨x, hx, hX⟩ := by_idx q (show 1 ≤ kP p by omega) hkl
    obtain ⟨A1, c1, e1, h1⟩ := HM6.out.cell hu
    obtain ⟨A2, c2, e2, h2⟩ := HM6.out.cell hv
    have hui : (u : Int) < (kP p : Nat) := by omega
    have hvi : (v : Int) < (kP p : Nat) := by omega
    have HA := Lib.hid h1
    have HB := Lib.hid h2
    clear h1 h2
    go_wp2_with fail
    go_quiet (fail)
    rename_i nq
    have Hd := Lib.hid (((Dn.refl w6).drewN nq).below w6.heap.size)
    have Hb7 := Lib.hid (Hb6.out.trans (Hd.out.mono Hb6.out.size))
    have HBx7 := Lib.hid (HBx6.out.keep Hd.out)
    have HM7 := Lib.hid (HM6.out.keep Hd.out)
    have HR7 := Lib.hid (HR6.out.keep Hd.out)
    have HS7 := Lib.hid (HS6.out.keep Hd.out)
    have HA7 := Lib.hid (HA.out.keep Hd.out)
    have HB7 := Lib.hid (HB.out.keep Hd.out)
    have HSu := Lib.hid (HSb.out u hu)
    have HSv := Lib.hid (HSb.out v hv)
    clear Hd e1 e2 hU hV hui hvi
    generalize w6.drewN nq = w7 at *
    obtain ⟨q0, q1, q2⟩ := HBx7.out
    go_wp2_with fail
    refine (of_any AH AS AP cH cS cP p _ (HP.out.keep Hb7.out)).mono ?_
    rintro e w8 ⟨F7H, F7dH, F7S, F7dS, F7P, F7dP, rfl, hpl, hb8⟩
    have Hb8 := Lib.hid (Hb7.out.trans (hb8.mono Hb7.out.size))
    have HBx8 := Lib.hid (HBx7.out.keep hb8)
    have HM8 := Lib.hid (HM7.out.keep hb8)
    have HR8 := Lib.hid (HR7.out.keep hb8)
    have HS8 := Lib.hid (HS7.out.keep hb8)
    have HA8 := Lib.hid (HA7.out.keep hb8)
    have HB8 := Lib.hid (HB7.out.keep hb8)
    have HPl8 := Lib.hid hpl
    clear hpl hb8 q0 q1 q2
    have HC := Lib.hid (Join_few F7H F7S F7P A1 A2 F7dH F7dS F7dP c1 c2 p (mmP p u) (mmP p v) w8 HPl8.out HA8.out HB8.out HOk.out HSu.out HSv.out)
    go_wp2_with fail
    refine HC.out.mono ?_
    rintro e w9 ⟨gx, rfl, hR, hb9⟩
    clear HC
    have Hb9 := Lib.hid (Hb8.out.trans (hb9.mono Hb8.out.size))
    have HBx9 := Lib.hid (HBx8.out.keep hb9)
    have HM9 := Lib.hid (HM8.out.keep hb9)
    have HR9 := Lib.hid (HR8.out.keep hb9)
    have HS9 := Lib.hid (HS8.out.keep hb9)
    have HA9 := Lib.hid (HA8.out.keep hb9)
    have HB9 := Lib.hid (HB8.out.keep hb9)
    have HX9 := Lib.hid hR
    clear hR hb9
    obtain ⟨q0, q1, q2⟩ := HBx9.out
    go_wp2_with fail
    refine (of_any AH AS AP cH cS cP p _ (HP.out.keep Hb9.out)).mono ?_
    rintro e w10 ⟨F9H, F9dH, F9S, F9dS, F9P, F9dP, rfl, hpl, hb10⟩
    have Hb10 := Lib.hid (Hb9.out.trans (hb10.mono Hb9.out.size))
    have HBx10 := Lib.hid (HBx9.out.keep hb10)
    have HM10 := Lib.hid (HM9.out.keep hb10)
    have HR10 := Lib.hid (HR9.out.keep hb10)
    have HS10 := Lib.hid (HS9.out.keep hb10)
    have HA10 := Lib.hid (HA9.out.keep hb10)
    have HB10 := Lib.hid (HB9.out.keep hb10)
    have HX10 := Lib.hid (HX9.out.keep hb10)
    have HPl10 := Lib.hid hpl
    clear hpl hb10 q0 q1 q2
    have HC := Lib.hid (Meet_few F9H F9S F9P A1 A2 F9dH F9dS F9dP c1 c2 p (mmP p u) (mmP p v) w10 HPl10.out HA10.out HB10.out HOk.out HSu.out HSv.out)
    go_wp2_with fail
    refine HC.out.mono ?_
    rintro e w11 ⟨gy, rfl, hR, hb11⟩
    clear HC
    have Hb11 := Lib.hid (Hb10.out.trans (hb11.mono Hb10.out.size))
    have HBx11 := Lib.hid (HBx10.out.keep hb11)
    have HM11 := Lib.hid (HM10.out.keep hb11)
    have HR11 := Lib.hid (HR10.out.keep hb11)
    have HS11 := Lib.hid (HS10.out.keep hb11)
    have HA11 := Lib.hid (HA10.out.keep hb11)
    have HB11 := Lib.hid (HB10.out.keep hb11)
    have HX11 := Lib.hid (HX10.out.keep hb11)
    have HY11 := Lib.hid hR
    clear hR hb11
    go_wp2_with fail
    have hBc : Below w11.heap.size w11 w11.drew := (Dn.refl w11).drew.below _
    obtain ⟨q0, q1, q2⟩ := HBx11.out.keep hBc
    have hkz3 : ¬ kP p = 0 := by omega
    have hw64 : IntKind.u64.wrap ((kP p : Nat) : Int) = ((kP p : Nat) : Int) := by rw [IntKind.wrap_u64]; omega
    go_region_held3 (fun w' => w'.cell? ⟨w.heap.size, 0, none⟩ = some (.slice AH p.nH cH) ∧ w'.cell? ⟨w.heap.size, 1, none⟩ = some (.slice AS p.nS cS) ∧ w'.cell? ⟨w.heap.size, 2, none⟩ = some (.slice AP p.nP cP))
      (first | exact (HBx11.out.keep hBc))
      (first
        | (go_at_call 18; refine (of_any AH AS AP cH cS cP p _ (HP.out.keep (Hb11.out.trans (hBc.mono Hb11.out.size)))).mono ?_; rintro e wA ⟨EH, EdH, ES, EdS, EP, EdP, rfl, hplA, hbA⟩; have hBc := hBc.trans (hbA.mono hBc.size))
        | (go_at_call 33; refine (Middle_few EH ES EP EdH EdS EdP x _ p _ hplA HOk.out hx (midK hX hx hkl)).mono ?_; rintro e wB ⟨gz, rfl, hRz, hbB⟩; have hBc := hBc.trans (hbB.mono hBc.size))
        | fail)
    clear q0 q1 q2 hX hplA hbA
    have HZ12 := Lib.hid hRz
    clear hRz
    have Hb12 := Lib.hid (Hb11.out.trans (hBc.mono Hb11.out.size))
    have HBx12 := Lib.hid (HBx11.out.keep hBc)
    have HM12 := Lib.hid (HM11.out.keep hBc)
    have HR12 := Lib.hid (HR11.out.keep hBc)
    have HS12 := Lib.hid (HS11.out.keep hBc)
    have HA12 := Lib.hid (HA11.out.keep hBc)
    have HB12 := Lib.hid (HB11.out.keep hBc)
    have HX12 := Lib.hid (HX11.out.keep hBc)
    have HY12 := Lib.hid (HY11.out.keep hBc)
    clear hBc
    try clear hbB
    have HSx := Lib.hid (jn_stb HOk.out HSu.out HSv.out)
    have HSy := Lib.hid (mt_stb HOk.out HSu.out HSv.out)
    have HSz := Lib.hid (mid_few HOk.out hx)
    obtain ⟨W12, hW⟩ : ∃ z, z = wB.alloc (.cells #[.slice (some ⟨gx, 0, none⟩) p.nH p.nH, .slice (some ⟨gy, 0, none⟩) p.nH p.nH, .slice (some ⟨gz, 0, none⟩) p.nH p.nH] 23) := ⟨_, rfl⟩
    have hb12 : Below wB.heap.size wB W12 := by rw [hW]; exact below_box _ _
    have HZZ : Hid (∀ k, k < 3 → ∃ gm m', W12.cell? ⟨wB.heap.size, k, none⟩ = some (.slice (some ⟨gm, 0, none⟩) p.nH p.nH) ∧ Ints W12 (some ⟨gm, 0, none⟩) p.nH m' ∧ Stb p m') := Lib.hid (fun k hk => by
      rcases (show k = 0 ∨ k = 1 ∨ k = 2 by omega) with rfl | rfl | rfl
      · exact ⟨gx, _, by rw [hW]; simp [World.cell?_alloc_at], HX12.out.keep hb12, HSx.out⟩
      · exact ⟨gy, _, by rw [hW]; simp [World.cell?_alloc_at], HY12.out.keep hb12, HSy.out⟩
      · exact ⟨gz, _, by rw [hW]; simp [World.cell?_alloc_at], HZ12.out.keep hb12, HSz.out⟩)
    have HWW := Lib.hid hW.symm
    clear hW
    obtain ⟨w13, hw13⟩ : ∃ z, z = W12 := ⟨_, rfl⟩
    rw [← hw13] at hb12 HZZ HWW
    clear hw13
    have Hb13 := Lib.hid (Hb12.out.trans (hb12.mono Hb12.out.size))
    have HBx13 := Lib.hid (HBx12.out.keep hb12)
    have HM13 := Lib.hid (HM12.out.keep hb12)
    have HR13 := Lib.hid (HR12.out.keep hb12)
    have HS13 := Lib.hid (HS12.out.keep hb12)
    have HA13 := Lib.hid (HA12.out.keep hb12)
    have HB13 := Lib.hid (HB12.out.keep hb12)
    clear hb12
    go_wp2
    rw [HWW.out]
    clear HWW
    go_loopw [131] (fun i wr => ∃ k : Nat, k ≤ 3 ∧ i = .int .i64 k ∧ Below w13.heap.size w13 wr) (fun i _ => 3 - (intOf i).toNat)
    case atStart => exact ⟨0, Nat.zero_le _, rfl, Below.refl _ _⟩
    case round =>
      obtain ⟨k, hk, rfl, hB⟩ := hrel
      have HBk := Lib.hid hB
      clear hB
      have Hbk := Lib.hid (Hb13.out.trans (HBk.out.mono Hb13.out.size))
      by_cases hlt : k < 3
      · obtain ⟨gm, m', z0, hI, hS⟩ := HZZ.out k hlt
        have z0 := old_cell z0 HBk.out
        have HI := Lib.hid (hI.keep HBk.out)
        have HT := Lib.hid (any_stb HOk.out hS)
        have HMk := Lib.hid (HM13.out.keep HBk.out)
        clear hI hS
        have HL := Lib.hid (lat_has (some ⟨bY, oY, none⟩) (some ⟨gm, 0, none⟩) (kP p) cY p.nH p.nH p.nH wr.heap.size (mmP p) m' (wr.alloc (.cells #[.slice (some ⟨gm, 0, none⟩) p.nH p.nH] 23)) (HMk.out.keep (below_box _ _)) (by simp [World.cell?_alloc_at]) (HI.out.keep (below_box _ _)) (by omega) (by omega) (by omega))
        rw [HT.out] at HL
        have Hbw := Lib.hid (below_box wr (.cells #[.slice (some ⟨gm, 0, none⟩) p.nH p.nH] 23))
        go_wp2_with fail
        refine Lr.use HL.out ?_
        intro wc hbc
        have HBc := Lib.hid (HBk.out.trans ((Hbw.out.trans (hbc.mono Hbw.out.size)).mono HBk.out.size))
        clear hbc z0 HL Hbw
        go_wp2
        go_roundw
        case rel => exact ⟨k + 1, by omega, by go_num, HBc.out⟩
        case measure => simp [intOf]; omega
      · obtain rfl : k = 3 := by omega
        rename World => w14
        have Hb14 := Lib.hid (Hb13.out.trans (HBk.out.mono Hb13.out.size))
        have HBx14 := Lib.hid (HBx13.out.keep HBk.out)
        have HM14 := Lib.hid (HM13.out.keep HBk.out)
        have HR14 := Lib.hid (HR13.out.keep HBk.out)
        have HS14 := Lib.hid (HS13.out.keep HBk.out)
        have HA14 := Lib.hid (HA13.out.keep HBk.out)
        have HB14 := Lib.hid (HB13.out.keep HBk.out)
        obtain ⟨q0, q1, q2⟩ := HBx14.out
        go_wp2_with fail
        refine (of_any AH AS AP cH cS cP p _ (HP.out.keep Hb14.out)).mono ?_
        rintro e w15 ⟨F14H, F14dH, F14S, F14dS, F14P, F14dP, rfl, hpl, hb15⟩
        have Hb15 := Lib.hid (Hb14.out.trans (hb15.mono Hb14.out.size))
        have HBx15 := Lib.hid (HBx14.out.keep hb15)
        have HR15 := Lib.hid (HR14.out.keep hb15)
        have HS15 := Lib.hid (HS14.out.keep hb15)
        have HA15 := Lib.hid (HA14.out.keep hb15)
        have HPl15 := Lib.hid hpl
        clear hpl hb15 q0 q1 q2
        have HC := Lib.hid (Middle_few F14H F14S F14P F14dH F14dS F14dP 0 1 p w15 HPl15.out HOk.out hkk (by omega))
        go_wp2_with fail
        refine HC.out.mono ?_
        rintro e w16 ⟨gu, rfl, hR, hb16⟩
        clear HC
        have Hb16 := Lib.hid (Hb15.out.trans (hb16.mono Hb15.out.size))
        have HBx16 := Lib.hid (HBx15.out.keep hb16)
        have HR16 := Lib.hid (HR15.out.keep hb16)
        have HS16 := Lib.hid (HS15.out.keep hb16)
        have HA16 := Lib.hid (HA15.out.keep hb16)
        have HU16 := Lib.hid hR
        clear hR hb16
        obtain ⟨q0, q1, q2⟩ := HBx16.out
        go_wp2_with fail
        refine (of_any AH AS AP cH cS cP p _ (HP.out.keep Hb16.out)).mono ?_
        rintro e w17 ⟨F16H, F16dH, F16S, F16dS, F16P, F16dP, rfl, hpl, hb17⟩
        have Hb17 := Lib.hid (Hb16.out.trans (hb17.mono Hb16.out.size))
        have HBx17 := Lib.hid (HBx16.out.keep hb17)
        have HR17 := Lib.hid (HR16.out.keep hb17)
        have HS17 := Lib.hid (HS16.out.keep hb17)
        have HA17 := Lib.hid (HA16.out.keep hb17)
        have HU17 := Lib.hid (HU16.out.keep hb17)
        have HPl17 := Lib.hid hpl
        clear hpl hb17 q0 q1 q2
        have HC := Lib.hid (Middle_few F16H F16S F16P F16dH F16dS F16dP (kP p - 1) ((kP p : Nat) : Int) p w17 HPl17.out HOk.out (by omega) (by omega))
        go_wp2_with fail
        refine HC.out.mono ?_
        rintro e w18 ⟨gv, rfl, hR, hb18⟩
        clear HC
        have Hb18 := Lib.hid (Hb17.out.trans (hb18.mono Hb17.out.size))
        have HBx18 := Lib.hid (HBx17.out.keep hb18)
        have HR18 := Lib.hid (HR17.out.keep hb18)
        have HS18 := Lib.hid (HS17.out.keep hb18)
        have HA18 := Lib.hid (HA17.out.keep hb18)
        have HU18 := Lib.hid (HU17.out.keep hb18)
        have HV18 := Lib.hid hR
        clear hR hb18
        obtain ⟨q0, q1, q2⟩ := HBx18.out
        go_wp2_with fail
        refine (of_any AH AS AP cH cS cP p _ (HP.out.keep Hb18.out)).mono ?_
        rintro e w19 ⟨F18H, F18dH, F18S, F18dS, F18P, F18dP, rfl, hpl, hb19⟩
        have Hb19 := Lib.hid (Hb18.out.trans (hb19.mono Hb18.out.size))
        have HBx19 := Lib.hid (HBx18.out.keep hb19)
        have HR19 := Lib.hid (HR18.out.keep hb19)
        have HS19 := Lib.hid (HS18.out.keep hb19)
        have HA19 := Lib.hid (HA18.out.keep hb19)
        have HU19 := Lib.hid (HU18.out.keep hb19)
        have HV19 := Lib.hid (HV18.out.keep hb19)
        have HPl19 := Lib.hid hpl
        clear hpl hb19 q0 q1 q2
        have HC := Lib.hid (Join_few F18H F18S F18P (some ⟨gf, 0, none⟩) A1 F18dH F18dS F18dP p.nH c1 p m (mmP p u) w19 HPl19.out HR19.out HA19.out HOk.out HF.out.1 HSu.out)
        go_wp2_with fail
        refine HC.out.mono ?_
        rintro e w20 ⟨gs, rfl, hR, hb20⟩
        clear HC
        have Hb20 := Lib.hid (Hb19.out.trans (hb20.mono Hb19.out.size))
        have HBx20 := Lib.hid (HBx19.out.keep hb20)
        have HR20 := Lib.hid (HR19.out.keep hb20)
        have HS20 := Lib.hid (HS19.out.keep hb20)
        have HA20 := Lib.hid (HA19.out.keep hb20)
        have HU20 := Lib.hid (HU19.out.keep hb20)
        have HV20 := Lib.hid (HV19.out.keep hb20)
        have HP120 := Lib.hid hR
        clear hR hb20
        obtain ⟨q0, q1, q2⟩ := HBx20.out
        go_wp2_with fail
        refine (of_any AH AS AP cH cS cP p _ (HP.out.keep Hb20.out)).mono ?_
        rintro e w21 ⟨F20H, F20dH, F20S, F20dS, F20P, F20dP, rfl, hpl, hb21⟩
        have Hb21 := Lib.hid (Hb20.out.trans (hb21.mono Hb20.out.size))
        have HBx21 := Lib.hid (HBx20.out.keep hb21)
        have HR21 := Lib.hid (HR20.out.keep hb21)
        have HS21 := Lib.hid (HS20.out.keep hb21)
        have HA21 := Lib.hid (HA20.out.keep hb21)
        have HU21 := Lib.hid (HU20.out.keep hb21)
        have HV21 := Lib.hid (HV20.out.keep hb21)
        have HP121 := Lib.hid (HP120.out.keep hb21)
        have HPl21 := Lib.hid hpl
        clear hpl hb21 q0 q1 q2
        have HC := Lib.hid (Meet_few F20H F20S F20P (some ⟨gl, 0, none⟩) A1 F20dH F20dS F20dP p.nH c1 p l (mmP p u) w21 HPl21.out HS21.out HA21.out HOk.out HL.out.1 HSu.out)
        go_wp2_with fail
        refine HC.out.mono ?_
        rintro e w22 ⟨gt, rfl, hR, hb22⟩
        clear HC
        have Hb22 := Lib.hid (Hb21.out.trans (hb22.mono Hb21.out.size))
        have HBx22 := Lib.hid (HBx21.out.keep hb22)
        have HR22 := Lib.hid (HR21.out.keep hb22)
        have HS22 := Lib.hid (HS21.out.keep hb22)
        have HA22 := Lib.hid (HA21.out.keep hb22)
        have HU22 := Lib.hid (HU21.out.keep hb22)
        have HV22 := Lib.hid (HV21.out.keep hb22)
        have HP122 := Lib.hid (HP121.out.keep hb22)
        have HQ122 := Lib.hid hR
        clear hR hb22
        have HLq : Hid (midG (fewP p) (kP p - 1) = l) := Lib.hid (by rw [HKl.out, HKf.out])
        rw [HLq.out] at HV22
        have HE := Lib.hid (equal_any (some ⟨gu, 0, none⟩) (some ⟨gf, 0, none⟩) p.nH p.nH p.nH p.nH ((midG (fewP p) 0)) (m) w22 HU22.out HR22.out (by omega) (by omega))
        rw [eqB_cg (f := (midG (fewP p) 0)) (g := m) (mid_zero HOk.out HF.out.1 HF.out.2)] at HE
        go_wp2_with fail
        refine Ro.use HE.out ?_
        intro w23 hd
        have hb23 := hd.below w22.heap.size
        clear hd HE
        have Hb23 := Lib.hid (Hb22.out.trans (hb23.mono Hb22.out.size))
        have HR23 := Lib.hid (HR22.out.keep hb23)
        have HS23 := Lib.hid (HS22.out.keep hb23)
        have HU23 := Lib.hid (HU22.out.keep hb23)
        have HV23 := Lib.hid (HV22.out.keep hb23)
        have HP123 := Lib.hid (HP122.out.keep hb23)
        have HQ123 := Lib.hid (HQ122.out.keep hb23)
        clear hb23
        have HE := Lib.hid (equal_any (some ⟨gv, 0, none⟩) (some ⟨gl, 0, none⟩) p.nH p.nH p.nH p.nH (l) (l) w23 HV23.out HS23.out (by omega) (by omega))
        rw [eqB_cg (f := l) (g := l) (fun _ _ => rfl)] at HE
        go_wp2_with fail
        refine Ro.use HE.out ?_
        intro w24 hd
        have hb24 := hd.below w23.heap.size
        clear hd HE
        have Hb24 := Lib.hid (Hb23.out.trans (hb24.mono Hb23.out.size))
        have HR24 := Lib.hid (HR23.out.keep hb24)
        have HS24 := Lib.hid (HS23.out.keep hb24)
        have HU24 := Lib.hid (HU23.out.keep hb24)
        have HV24 := Lib.hid (HV23.out.keep hb24)
        have HP124 := Lib.hid (HP123.out.keep hb24)
        have HQ124 := Lib.hid (HQ123.out.keep hb24)
        clear hb24
        have HE := Lib.hid (equal_any (some ⟨gs, 0, none⟩) (some ⟨gf, 0, none⟩) p.nH p.nH p.nH p.nH ((jnM p m (mmP p u))) (m) w24 HP124.out HR24.out (by omega) (by omega))
        rw [eqB_cg (f := (jnM p m (mmP p u))) (g := m) (fun x hx => jn_top (HF.out.2 _ HSu.out x hx))] at HE
        go_wp2_with fail
        refine Ro.use HE.out ?_
        intro w25 hd
        have hb25 := hd.below w24.heap.size
        clear hd HE
        have Hb25 := Lib.hid (Hb24.out.trans (hb25.mono Hb24.out.size))
        have HR25 := Lib.hid (HR24.out.keep hb25)
        have HS25 := Lib.hid (HS24.out.keep hb25)
        have HU25 := Lib.hid (HU24.out.keep hb25)
        have HV25 := Lib.hid (HV24.out.keep hb25)
        have HP125 := Lib.hid (HP124.out.keep hb25)
        have HQ125 := Lib.hid (HQ124.out.keep hb25)
        clear hb25
        have HE := Lib.hid (equal_any (some ⟨gt, 0, none⟩) (some ⟨gl, 0, none⟩) p.nH p.nH p.nH p.nH ((mtM p l (mmP p u))) (l) w25 HQ125.out HS25.out (by omega) (by omega))
        rw [eqB_cg (f := (mtM p l (mmP p u))) (g := l) (fun x hx => mt_bot HOk.out HL.out.1 HSu.out hx (HL.out.2 _ HSu.out x hx))] at HE
        go_wp2_with fail
        refine Ro.use HE.out ?_
        intro w26 hd
        have hb26 := hd.below w25.heap.size
        clear hd HE
        have Hb26 := Lib.hid (Hb25.out.trans (hb26.mono Hb25.out.size))
        have HR26 := Lib.hid (HR25.out.keep hb26)
        have HS26 := Lib.hid (HS25.out.keep hb26)
        have HU26 := Lib.hid (HU25.out.keep hb26)
        have HV26 := Lib.hid (HV25.out.keep hb26)
        have HP126 := Lib.hid (HP125.out.keep hb26)
        have HQ126 := Lib.hid (HQ125.out.keep hb26)
        clear hb26
        go_wp2_with fail
        refine (awake_any _).mono ?_
        rintro e wz ⟨rfl, hbz⟩
        have Hbz := Lib.hid (Hb26.out.trans (hbz.mono Hb26.out.size))
        clear hbz
        go_wp2
        go_ret
        exact ⟨rfl, Hbz.out⟩
end Go.Proofs.Ytiigcjcolpmafaa

