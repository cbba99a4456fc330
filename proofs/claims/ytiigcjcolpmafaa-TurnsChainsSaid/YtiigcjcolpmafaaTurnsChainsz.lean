/- TurnsChains, walked. -/
import Derived.Test.YtiigcjcolpmafaaYcbz
import Derived.Test.YtiigcjcolpmafaaYD
import Derived.Test.YtiigcjcolpmafaaYL
import Derived.Deep.RegionHeld3
namespace Go.Proofs.Ytiigcjcolpmafaa
open Go.RowKit

theorem rkM_first {p : PlanD} {f : Nat} (hb : ∀ j, j < kP p → goB p (mmP p f) (mmP p j) = true) : rkM p f = 0 := by
  have h : cB (fun i => ovB p (mmP p i) (mmP p f)) (kP p) ≤ cB (fun _ => false) (kP p) := cB_le (fun i hi e => by
    have := (ovB_iff.1 e).2
    rw [hb i hi] at this
    cases this)
  have h0 : ∀ n, cB (fun _ => false) n = 0 := fun n => by
    induction n with
    | zero => rfl
    | succ n ih =>
      show cB (fun _ => false) n + (if false = true then 1 else 0) = 0
      rw [ih]
      rfl
  rw [h0] at h
  exact Nat.le_zero.1 h
theorem gd_go {p : PlanD} {a b : Nat → Int} (hok : okPlan p = true) : gdB p a b = goB p a b := by
  obtain ⟨⟨-, -, -, h4, -⟩, -, hL, -⟩ := okPlan_of hok
  rw [Bool.eq_iff_iff]
  unfold gdB goB
  rw [allB_iff, allB_iff]
  constructor
  · intro h k hk
    have h1 := of_decide_eq_true (h k hk)
    refine decide_eq_true ?_
    have h9 := (hL k hk).1
    rcases Int.lt_or_le (rHd p k (b k)) (rHd p k (a k)) with g | g
    · have := atF_lt (f := p.vH k) (L := p.LH k) (by omega) (x := b k) (y := a k) g
      omega
    · exact g
  · intro h k hk
    have h1 := of_decide_eq_true (h k hk)
    have h9 := (hL k hk).1
    exact decide_eq_true (atF_le (f := p.vH k) (L := p.LH k) (by omega) h1)
theorem cv_few {p : PlanD} (hok : okPlan p = true) : prAll (cvP (fewP p)) (kP (fewP p)) (kP (fewP p)) = prAll (cvR p) (kP p) (kP p) := by
  rw [few_kP hok]
  refine prAll_congr (fun i j hi hj => ?_)
  rw [← cv_eq hok hi hj]
  unfold cvP
  rw [few_mmP hok, few_kP hok, few_goB hok]
  rw [anyB_cg (P := btP (fewP p) i j) (Q := btP p i j) (fun c _ => by
    unfold btP
    rw [few_mmP hok, few_goB hok, few_goB hok])]
set_option maxHeartbeats 16000000 in
set_option maxRecDepth 1000000 in
theorem turnsChains_walk (AH AS AP : Option Addr) (cH cS cP : Nat) (p : PlanD) (q : Int) (w : World) (hp : PlanArg w AH AS AP cH cS cP p) (_ : (Lit.int .i64 q).wf = true) :
    Calls Try.prog 5 #[.agg #[.slice AH p.nH cH, .slice AS p.nS cS, .slice AP p.nP cP], .int .i64 q] w fun e w' => e = .returned (.bool true) ∧ Below w.heap.size w w' := by
  have Hb0 := Lib.hid (below_box w (.cells #[.slice AH p.nH cH, .slice AS p.nS cS, .slice AP p.nP cP] 25))
  have HB0 := Lib.hid (BoxP.newR w AH AS AP p.nH p.nS p.nP cH cS cP)
  have HP := Lib.hid hp
  clear hp
  go_enter Try.func5, Try.ntmps5
  go_wp2_with fail
  refine (of_any AH AS AP cH cS cP p _ (HP.out.keep Hb0.out)).mono ?_
  rintro e w1 ⟨BH, BdH, BS, BdS, BP, BdP, rfl, hpl, hb1⟩
  have Hb1 := Lib.hid (Hb0.out.trans (hb1.mono Hb0.out.size))
  have HPl1 := Lib.hid hpl
  have HBx1 := Lib.hid (HB0.out.keep hb1)
  clear hpl hb1
  cases hok : okPlan p with
  | false =>
    have HOf : Hid (okPlan (fewP p) = false) := Lib.hid (by rw [okPlan_few]; exact hok)
    clear hok
    have HC := Lib.hid (Stable_bad BH BS BP BdH BdS BdP (fewP p) w1 HPl1.out HOf.out)
    go_wp2_with fail
    refine Lr.use HC.out ?_
    intro w2 hb2
    have Hb2 := Lib.hid (Hb1.out.trans (hb2.mono Hb1.out.size))
    have HBx2 := Lib.hid (HBx1.out.keep hb2)
    clear hb2 HC
    obtain ⟨q0, q1, q2⟩ := HBx2.out
    go_wp2_with fail
    refine (of_any AH AS AP cH cS cP p _ (HP.out.keep Hb2.out)).mono ?_
    rintro e w4 ⟨CH, CdH, CS, CdS, CP, CdP, rfl, hpl, hb4⟩
    have Hb4 := Lib.hid (Hb2.out.trans (hb4.mono Hb2.out.size))
    have HBx4 := Lib.hid (HBx2.out.keep hb4)
    have HPl4 := Lib.hid hpl
    clear hpl hb4 q0 q1 q2
    have HC := Lib.hid (Covers_bad CH CS CP CdH CdS CdP (fewP p) w4 HPl4.out HOf.out)
    go_wp2_with fail
    refine Lr.use HC.out ?_
    intro w5 hb5
    have Hb5 := Lib.hid (Hb4.out.trans (hb5.mono Hb4.out.size))
    have HBx5 := Lib.hid (HBx4.out.keep hb5)
    clear hb5 HC
    obtain ⟨q0, q1, q2⟩ := HBx5.out
    go_wp2_with fail
    refine (of_any AH AS AP cH cS cP p _ (HP.out.keep Hb5.out)).mono ?_
    rintro e w6 ⟨EH, EdH, ES, EdS, EP, EdP, rfl, hpl, hb6⟩
    have Hb6 := Lib.hid (Hb5.out.trans (hb6.mono Hb5.out.size))
    have HBx6 := Lib.hid (HBx5.out.keep hb6)
    have HPl6 := Lib.hid hpl
    clear hpl hb6 q0 q1 q2
    have HC := Lib.hid (First_bad EH ES EP EdH EdS EdP (fewP p) w6 HPl6.out HOf.out)
    go_wp2_with fail
    refine Lr.use HC.out ?_
    intro w7 hb7
    have Hb7 := Lib.hid (Hb6.out.trans (hb7.mono Hb6.out.size))
    clear hb7 HC
    go_wp2_with fail
    refine (awake_any _).mono ?_
    rintro e wz ⟨rfl, hbz⟩
    have Hbz := Lib.hid (Hb7.out.trans (hbz.mono Hb7.out.size))
    clear hbz
    go_wp2
    go_ret
    exact ⟨rfl, Hbz.out⟩
  | true =>
    have HOk := Lib.hid hok
    have HOf : Hid (okPlan (fewP p) = true) := Lib.hid (by rw [okPlan_few]; exact hok)
    have HN := Lib.hid (few_n hok).1
    have HLs := Lib.hid (few_LsP hok)
    have HCf := Lib.hid (cv_few hok)
    have HC2 := Lib.hid (Stable_ok BH BS BP BdH BdS BdP (fewP p) w1 HPl1.out HOf.out)
    have hkk := kP_pos hok
    have HSb := Lib.hid (fun i (hi : i < kP p) => mm_stb hok hi)
    have HMl := Lib.hid (fun i (hi : i < kP p) => mm_len hok hi)
    have hkl := kP_le5 hok
    have hkl2 : ((kP p : Nat) : Int) ≤ 100000 := by omega
    obtain ⟨⟨hn1, hn6, hS1, hS4, -⟩, -⟩ := okPlan_of hok
    have hmk : ∀ w : World, _ := fun w => mk_bools (kP p) hkl w
    have HMem : Hid (∀ t, t < (prAll (cvR p) (kP p) (kP p)).length → ∃ i j : Nat, i < kP p ∧ j < kP p ∧ cvR p i j = true ∧ (prAll (cvR p) (kP p) (kP p)).getD t (0, 0) = ((i : Int), (j : Int))) := Lib.hid (fun t ht => by
      have h1 : (prAll (cvR p) (kP p) (kP p)).getD t (0, 0) ∈ prAll (cvR p) (kP p) (kP p) := by
        rw [List.getD_eq_getElem?_getD, List.getElem?_eq_getElem ht, Option.getD_some]
        exact List.getElem_mem _
      exact prAll_mem.1 h1)
    have HAll : Hid (∀ i j : Nat, i < kP p → j < kP p → cvR p i j = true → ∃ t, t < (prAll (cvR p) (kP p) (kP p)).length ∧ (prAll (cvR p) (kP p) (kP p)).getD t (0, 0) = ((i : Int), (j : Int))) := Lib.hid (fun i j hi hj h => by
      obtain ⟨t, ht, e⟩ := List.mem_iff_getElem.1 (prAll_mem.2 ⟨i, j, hi, hj, h, rfl⟩)
      exact ⟨t, ht, by rw [List.getD_eq_getElem?_getD, List.getElem?_eq_getElem ht, Option.getD_some, e]⟩)
    have HLn : Hid ((prAll (cvR p) (kP p) (kP p)).length ≤ 20000000000) := Lib.hid (by
      have e1 := prAll_len (cvR p) (kP p) (kP p)
      have e3 : kP p * kP p ≤ 100000 * 100000 := Nat.mul_le_mul (by omega) (by omega)
      omega)
    clear hok
    go_wp2_with fail
    refine HC2.out.mono ?_
    rintro e w2 ⟨x2, rfl, hx2, hb2⟩
    rw [HLs.out] at hx2
    obtain ⟨AY, cY, rfl, hrw⟩ := hx2.rows
    have hM : Mat w2 AY (kP p) p.nH (mmP p) := Mat.of hrw (fun i hi => HMl.out i hi)
    obtain ⟨bY, oY, A0, d0, rfl, -, -⟩ := hM.at hkk
    have hK : (stL p p.nH 0 (fun _ => -1)).length = kP p := rfl
    rw [hK]
    have HM2 := Lib.hid hM
    have Hb2 := Lib.hid (Hb1.out.trans (hb2.mono Hb1.out.size))
    have HBx2 := Lib.hid (HBx1.out.keep hb2)
    clear hx2 hrw hM hb2 HC2 hK HLs HMl
    obtain ⟨q0, q1, q2⟩ := HBx2.out
    go_wp2_with fail
    refine (of_any AH AS AP cH cS cP p _ (HP.out.keep Hb2.out)).mono ?_
    rintro e w3 ⟨CH, CdH, CS, CdS, CP, CdP, rfl, hpl, hb3⟩
    have Hb3 := Lib.hid (Hb2.out.trans (hb3.mono Hb2.out.size))
    have HBx3 := Lib.hid (HBx2.out.keep hb3)
    have HM3 := Lib.hid (HM2.out.keep hb3)
    have HC := Lib.hid (Covers_ok CH CS CP CdH CdS CdP (fewP p) w3 hpl HOf.out)
    clear hpl hb3 q0 q1 q2 HM2
    go_wp2_with fail
    refine HC.out.mono ?_
    rintro e w4 ⟨x4, rfl, hx4, hb4⟩
    rw [HCf.out] at hx4
    obtain ⟨AX, cX, rfl, hX⟩ := hx4.prs
    have HX4 := Lib.hid hX
    have Hb4 := Lib.hid (Hb3.out.trans (hb4.mono Hb3.out.size))
    have HBx4 := Lib.hid (HBx3.out.keep hb4)
    have HM4 := Lib.hid (HM3.out.keep hb4)
    clear hx4 hX hb4 HC HM3 HCf
    obtain ⟨q0, q1, q2⟩ := HBx4.out
    go_wp2_with fail
    refine (of_any AH AS AP cH cS cP p _ (HP.out.keep Hb4.out)).mono ?_
    rintro e w5 ⟨EH, EdH, ES, EdS, EP, EdP, rfl, hpl, hb5⟩
    have Hb5 := Lib.hid (Hb4.out.trans (hb5.mono Hb4.out.size))
    have HBx5 := Lib.hid (HBx4.out.keep hb5)
    have HM5 := Lib.hid (HM4.out.keep hb5)
    have HX5 := Lib.hid (HX4.out.keep hb5)
    have HC := Lib.hid (First_ok EH ES EP EdH EdS EdP (fewP p) w5 hpl HOf.out)
    clear hpl hb5 q0 q1 q2 HM4 HX4
    go_wp2_with fail
    refine HC.out.mono ?_
    rintro e w6 ⟨gf, m, a0, rfl, hD, hE, hR, -, hb6⟩
    rw [HN.out] at hR ⊢
    have HF := Lib.hid (first_all HOk.out hD hE)
    have HFr := Lib.hid (frM_eq HOf.out hD hE)
    have HR6 := Lib.hid hR.ints
    have Hb6 := Lib.hid (Hb5.out.trans (hb6.mono Hb5.out.size))
    have HBx6 := Lib.hid (HBx5.out.keep hb6)
    have HM6 := Lib.hid (HM5.out.keep hb6)
    have HX6 := Lib.hid (HX5.out.keep hb6)
    clear hD hE hR hb6 HC HM5 HX5
    obtain ⟨f0, hf0, hfe⟩ := mm_all HOk.out HF.out.1
    have HFe := Lib.hid hfe
    have HBest : Hid (∀ j, j < kP p → goB p (mmP p f0) (mmP p j) = true) := Lib.hid (fun j hj => goB_iff.2 (fun x hx => by rw [hfe x hx]; exact HF.out.2 _ (mm_stb HOk.out hj) x hx))
    clear hfe
    obtain ⟨q0, q1, q2⟩ := HBx6.out
    have HC3 := Lib.hid (rValid_any AH AS AP cH cS cP p w6 (HP.out.keep Hb6.out))
    rw [HOk.out] at HC3
    go_wp2_with fail
    refine Lr.use HC3.out ?_
    intro w7 hb7
    have Hb7 := Lib.hid (Hb6.out.trans (hb7.mono Hb6.out.size))
    have HBx7 := Lib.hid (HBx6.out.keep hb7)
    have HM7 := Lib.hid (HM6.out.keep hb7)
    have HX7 := Lib.hid (HX6.out.keep hb7)
    have HR7 := Lib.hid (HR6.out.keep hb7)
    clear hb7 HC3 q0 q1 q2 HM6 HX6 HR6
    have HRb := Lib.hid (RowB.made w7 (kP p))
    have HBm := Lib.hid (below_box w7 (.cells (madeCells #[.bool false] (kP p)) 4))
    obtain ⟨wm, hwm⟩ : ∃ z, z = w7.alloc (.cells (madeCells #[.bool false] (kP p)) 4) := ⟨_, rfl⟩
    rw [← hwm] at HRb HBm
    have HWm := Lib.hid hwm.symm
    clear hwm
    go_wp2_with fail
    rw [HWm.out]
    clear HWm hmk
    go_loopw [70] (fun x wr => ∃ (k : Nat) (F : Nat → Bool), k ≤ kP p ∧ x = .int .i64 k ∧ RowB wr w7.heap.size (kP p) F ∧ (f0 < k → F f0 = true) ∧ Below w7.heap.size w7 wr) (fun x _ => kP p - (intOf x).toNat)
    case atStart => exact ⟨0, _, Nat.zero_le _, rfl, HRb.out, fun h => absurd h (Nat.not_lt_zero _), HBm.out⟩
    case round =>
      obtain ⟨k, F, hk, rfl, hRB, hf, hbel⟩ := hrel
      have HRB := Lib.hid hRB
      have Hf := Lib.hid hf
      have Hbel := Lib.hid hbel
      clear hRB hf hbel
      by_cases hlt : k < kP p
      · obtain ⟨AJ, cJ, eJ, hJ⟩ := (HM7.out.keep Hbel.out).cell hlt
        have hki : (k : Int) < (kP p : Nat) := by omega
        have HEq := Lib.hid (equal_any AJ (some ⟨gf, 0, none⟩) p.nH p.nH cJ p.nH (mmP p k) m wr hJ (HR7.out.keep Hbel.out) (by omega) (by omega))
        have HEt : Hid (k = f0 → eqB p.nH p.nH (mmP p k) m = true) := Lib.hid (fun e => by rw [e]; exact eqB_iff.2 ⟨rfl, HFe.out⟩)
        generalize eqB p.nH p.nH (mmP p k) m = b at *
        clear hJ
        go_wp2_with fail
        refine Ro.use HEq.out ?_
        intro wq hdq
        have hRq := HRB.out.dn hdq
        have hfz := hRq.frozen k
        have hcq := hRq.cell hlt
        have HRs := Lib.hid (hRq.set k b)
        have HBs := Lib.hid ((Hbel.out.trans ((hdq.below _).mono Hbel.out.size)).setCell (p := ⟨w7.heap.size, k, none⟩) (Nat.le_refl _) (.bool b))
        have HFs : Hid (f0 < k + 1 → updB F k b f0 = true) := Lib.hid (fun h => by
          unfold updB
          by_cases e : f0 = k
          · rw [if_pos e]; exact HEt.out e.symm
          · rw [if_neg e]; exact Hf.out (by omega))
        clear hdq hRq eJ
        go_wp2
        go_roundw
        case rel => exact ⟨k + 1, _, by omega, by go_num, HRs.out, HFs.out, HBs.out⟩
        case measure => simp [intOf]; omega
      · have HFt := Lib.hid (Hf.out (by omega))
        clear HBm HRb Hf
        obtain ⟨n, hn⟩ : ∃ n, n = (prAll (cvR p) (kP p) (kP p)).length := ⟨_, rfl⟩
        rw [← hn] at HMem HAll HLn ⊢
        have HNn := Lib.hid hn
        have hn2 : (n : Int) ≤ 20000000000 := by have := HLn.out; omega
        clear hn
        have e9 : k = kP p := by omega
        subst e9
        go_wp2
        go_loopw [84] (fun x wi => ∃ t : Nat, t ≤ n ∧ x = .int .i64 t ∧ RowB wi w7.heap.size (kP p) F ∧ Below w7.heap.size w7 wi) (fun x _ => n - (intOf x).toNat)
        case atStart => exact ⟨0, Nat.zero_le _, rfl, HRB.out, Hbel.out⟩
        case round =>
          clear HRB Hbel
          obtain ⟨t, ht, rfl, hRB, hbel⟩ := hrel
          have HRB := Lib.hid hRB
          have Hbel := Lib.hid hbel
          clear hRB hbel
          by_cases hlt : t < n
          · obtain ⟨X, Y, hX, hY, hcv, ep⟩ := HMem.out t hlt
            have HOv := Lib.hid (show ovB p (mmP p X) (mmP p Y) = true by
              have h1 := hcv
              unfold cvR at h1
              rw [Bool.and_eq_true] at h1
              exact h1.1)
            obtain ⟨ba, eA, ha⟩ := (HX7.out.keep Hbel.out) (by have := HNn.out; omega)
            subst eA
            obtain ⟨x1, x2⟩ := ha t (by have := HNn.out; omega)
            rw [ep] at x1 x2
            have x1 : wr.cell? ⟨ba, t * 2, none⟩ = some (.int .i64 (X : Int)) := x1
            have x2 : wr.cell? ⟨ba, t * 2 + 1, none⟩ = some (.int .i64 (Y : Int)) := x2
            have hti : (t : Int) < n := by omega
            clear ha hcv ep
            go_wp2_with fail
            have hbz := below_box wr (.cells #[.int .i64 (X : Int), .int .i64 (Y : Int)] 43)
            have xc0 : (wr.alloc (.cells #[.int .i64 (X : Int), .int .i64 (Y : Int)] 43)).cell? ⟨wr.heap.size, 0, none⟩ = some (.int .i64 (X : Int)) := by simp [World.cell?_alloc_at]
            have xc1 : (wr.alloc (.cells #[.int .i64 (X : Int), .int .i64 (Y : Int)] 43)).cell? ⟨wr.heap.size, 1, none⟩ = some (.int .i64 (Y : Int)) := by simp [World.cell?_alloc_at]
            generalize wr.alloc (.cells #[.int .i64 (X : Int), .int .i64 (Y : Int)] 43) = wz at *
            have Hbz := Lib.hid (Hbel.out.trans (hbz.mono Hbel.out.size))
            have HRz := Lib.hid (HRB.out.keep hbz)
            obtain ⟨AJ, cJ, eJ, hJ⟩ := (HM7.out.keep Hbz.out).cell hX
            obtain ⟨AK, cK, eK, hK⟩ := (HM7.out.keep Hbz.out).cell hY
            have hov := ovB_iff.1 HOv.out
            have HA1 := Lib.hid (fun q : Later wz => (show Lr 26 #[.agg #[.slice AH p.nH cH, .slice AS p.nS cS, .slice AP p.nP cP], .slice AJ p.nH cJ, .slice AK p.nH cK] q.to (.bool true) from by
              have h1 := good_any AH AS AP AJ AK cH cS cP cJ p.nH cK p (mmP p X) (mmP p Y) q.to (HP.out.keep (Hb7.out.trans ((Hbz.out.trans (q.below.mono Hbz.out.size)).mono Hb7.out.size))) (hJ.keep q.below) (hK.keep q.below) rfl HOk.out
              rw [gd_go HOk.out, hov.1] at h1
              exact h1))
            have HA2 := Lib.hid (fun q : Later wz => (show Lr 26 #[.agg #[.slice AH p.nH cH, .slice AS p.nS cS, .slice AP p.nP cP], .slice AK p.nH cK, .slice AJ p.nH cJ] q.to (.bool false) from by
              have h1 := good_any AH AS AP AK AJ cH cS cP cK p.nH cJ p (mmP p Y) (mmP p X) q.to (HP.out.keep (Hb7.out.trans ((Hbz.out.trans (q.below.mono Hbz.out.size)).mono Hb7.out.size))) (hK.keep q.below) (hJ.keep q.below) rfl HOk.out
              rw [gd_go HOk.out, hov.2] at h1
              exact h1))
            obtain ⟨y0, y1, y2⟩ := HBx7.out.keep Hbz.out
            have k0 : ∀ q : Later wz, q.to.cell? ⟨w.heap.size, 0, none⟩ = some (.slice AH p.nH cH) := fun q => q.cell y0
            have k1 : ∀ q : Later wz, q.to.cell? ⟨w.heap.size, 1, none⟩ = some (.slice AS p.nS cS) := fun q => q.cell y1
            have k2 : ∀ q : Later wz, q.to.cell? ⟨w.heap.size, 2, none⟩ = some (.slice AP p.nP cP) := fun q => q.cell y2
            have k3 : ∀ q : Later wz, q.to.cell? ⟨wr.heap.size, 0, none⟩ = some (.int .i64 (X : Int)) := fun q => q.cell xc0
            have k4 : ∀ q : Later wz, q.to.cell? ⟨wr.heap.size, 1, none⟩ = some (.int .i64 (Y : Int)) := fun q => q.cell xc1
            have k5 : ∀ q : Later wz, q.to.cell? ⟨bY, oY + X, none⟩ = some (.slice AJ p.nH cJ) := fun q => q.cell eJ
            have k6 : ∀ q : Later wz, q.to.cell? ⟨bY, oY + Y, none⟩ = some (.slice AK p.nH cK) := fun q => q.cell eK
            have dX0 : decide ((X : Int) < 0) = false := decide_eq_false (by omega)
            have dY0 : decide ((Y : Int) < 0) = false := decide_eq_false (by omega)
            have dX1 : decide (((kP p : Nat) : Int) ≤ X) = false := decide_eq_false (by omega)
            have dY1 : decide (((kP p : Nat) : Int) ≤ Y) = false := decide_eq_false (by omega)
            have hXi : (X : Int) < (kP p : Nat) := by omega
            have hYi : (Y : Int) < (kP p : Nat) := by omega
            clear hbz xc0 xc1 y0 y1 y2 eJ eK hJ hK hov x1 x2
            refine wp_region_later (by kernel_rfl) (by kernel_rfl) ?_
            repeat
              (with_reducible refine wpQuiet_step ?_
               intro K' hK'
               go_simp
               first
                 | (refine hK' _ ?_; clear hK' K')
                 | (apply Exists.intro
                    refine ⟨fun _ => ?_, hK' _ ?_⟩
                    (first
                      | (go_at_call 26; with_reducible exact Lr.later (HA1.out _))
                      | (go_at_call 26; with_reducible exact Lr.later (HA2.out _)))
                    clear hK' K'))
            with_reducible refine wpQuiet_nil ?_
            intro _ hw'
            obtain ⟨q', rfl⟩ := hw'
            have Hbq := Lib.hid (Hbz.out.trans (q'.below.mono Hbz.out.size))
            have HRq := Lib.hid (HRz.out.keep q'.below)
            clear k0 k1 k2 k3 k4 k5 k6
            generalize q'.to = wy at *
            go_wp2
            go_roundw
            case rel => exact ⟨t + 1, by omega, by go_num, HRq.out, Hbq.out⟩
            case measure => simp [intOf]; omega
          · obtain rfl : t = n := by omega
            go_wp2
            go_loopw [142] (fun x wo => ∃ (r : Nat) (F : Nat → Bool), r ≤ kP p ∧ x = .int .i64 r ∧ RowB wo w7.heap.size (kP p) F ∧ (∀ j, j < kP p → rkM p j ≤ r → F j = true) ∧ Below w7.heap.size w7 wo) (fun x _ => kP p - (intOf x).toNat)
            case atStart =>
              refine ⟨0, F, Nat.zero_le _, rfl, HRB.out, fun j hj h => ?_, Hbel.out⟩
              by_cases e : j = f0
              · rw [e]; exact HFt.out
              · have := rkM_pos HOk.out hf0 hj (HBest.out j hj) e
                omega
            case round =>
              clear HRB Hbel HFt
              obtain ⟨r, F, hr, rfl, hRB, hF, hbel⟩ := hrel
              have HRB := Lib.hid hRB
              have Hbel := Lib.hid hbel
              have HFr2 := Lib.hid hF
              clear hRB hbel hF
              by_cases hlt : r < kP p
              · have hri : (r : Int) < (kP p : Nat) := by omega
                go_wp2
                go_loopw [146] (fun x wi => ∃ (t' : Nat) (G : Nat → Bool), t' ≤ t ∧ x = .int .i64 t' ∧ RowB wi w7.heap.size (kP p) G ∧ (∀ j, j < kP p → rkM p j ≤ r → G j = true) ∧ (∀ i X Y : Nat, i < t' → X < kP p → Y < kP p → (prAll (cvR p) (kP p) (kP p)).getD i (0, 0) = ((X : Int), (Y : Int)) → rkM p X ≤ r → G Y = true) ∧ Below w7.heap.size w7 wi) (fun x _ => t - (intOf x).toNat)
                case atStart => exact ⟨0, F, Nat.zero_le _, rfl, HRB.out, HFr2.out, fun i X Y h => absurd h (Nat.not_lt_zero _), Hbel.out⟩
                case round =>
                  clear HRB Hbel HFr2
                  obtain ⟨t', G, ht', rfl, hRB, hG, hG2, hbel⟩ := hrel
                  have HRB := Lib.hid hRB
                  have Hbel := Lib.hid hbel
                  have HG := Lib.hid hG
                  have HG2 := Lib.hid hG2
                  clear hRB hbel hG hG2
                  by_cases hlt2 : t' < t
                  · obtain ⟨X, Y, hX, hY, hcv, ep⟩ := HMem.out t' hlt2
                    obtain ⟨ba, eA, ha⟩ := (HX7.out.keep Hbel.out) (by have := HNn.out; omega)
                    subst eA
                    obtain ⟨x1, x2⟩ := ha t' (by have := HNn.out; omega)
                    rw [ep] at x1 x2
                    have x1 : wr.cell? ⟨ba, t' * 2, none⟩ = some (.int .i64 (X : Int)) := x1
                    have x2 : wr.cell? ⟨ba, t' * 2 + 1, none⟩ = some (.int .i64 (Y : Int)) := x2
                    have HEp := Lib.hid ep
                    have hti : (t' : Int) < t := by omega
                    clear ha hcv ep
                    go_wp2_with fail
                    have hbz := below_box wr (.cells #[.int .i64 (X : Int), .int .i64 (Y : Int)] 43)
                    have xc0 : (wr.alloc (.cells #[.int .i64 (X : Int), .int .i64 (Y : Int)] 43)).cell? ⟨wr.heap.size, 0, none⟩ = some (.int .i64 (X : Int)) := by simp [World.cell?_alloc_at]
                    have xc1 : (wr.alloc (.cells #[.int .i64 (X : Int), .int .i64 (Y : Int)] 43)).cell? ⟨wr.heap.size, 1, none⟩ = some (.int .i64 (Y : Int)) := by simp [World.cell?_alloc_at]
                    generalize wr.alloc (.cells #[.int .i64 (X : Int), .int .i64 (Y : Int)] 43) = wz at *
                    have Hbz := Lib.hid (Hbel.out.trans (hbz.mono Hbel.out.size))
                    have HRz := Lib.hid (HRB.out.keep hbz)
                    have hXi : (X : Int) < (kP p : Nat) := by omega
                    have hYi : (Y : Int) < (kP p : Nat) := by omega
                    clear hbz x1 x2
                    have mY := HRz.out.cell hY
                    have mX := HRz.out.cell hX
                    have mf := HRz.out.frozen Y
                    have HRs := Lib.hid (HRz.out.set Y (G Y || G X))
                    have HBs := Lib.hid (Hbz.out.setCell (p := ⟨w7.heap.size, Y, none⟩) (Nat.le_refl _) (.bool (G Y || G X)))
                    have HGs : Hid ((∀ j, j < kP p → rkM p j ≤ r → updB G Y (G Y || G X) j = true) ∧ (∀ i X1 Y1 : Nat, i < t' + 1 → X1 < kP p → Y1 < kP p → (prAll (cvR p) (kP p) (kP p)).getD i (0, 0) = ((X1 : Int), (Y1 : Int)) → rkM p X1 ≤ r → updB G Y (G Y || G X) Y1 = true)) := Lib.hid (by
                      refine ⟨fun j hj h => ?_, fun i X1 Y1 hi hX1 hY1 e h => ?_⟩
                      · unfold updB
                        by_cases ej : j = Y
                        · rw [if_pos ej, ← ej, HG.out j hj h]; rfl
                        · rw [if_neg ej]; exact HG.out j hj h
                      · rcases Nat.lt_succ_iff_lt_or_eq.1 hi with g | g
                        · have h2 := HG2.out i X1 Y1 g hX1 hY1 e h
                          unfold updB
                          by_cases ej : Y1 = Y
                          · rw [if_pos ej, ← ej, h2]; rfl
                          · rw [if_neg ej]; exact h2
                        · rw [g, HEp.out] at e
                          injection e with e1 e2
                          have e1 : X = X1 := by omega
                          have e2 : Y = Y1 := by omega
                          subst e1 e2
                          unfold updB
                          rw [if_pos rfl, HG.out X hX h, Bool.or_true])
                    cases hgY : G Y with
                    | true =>
                      rw [hgY] at mY HRs HBs HGs
                      rw [Bool.true_or] at HRs HBs HGs
                      clear hgY mX
                      go_region
                      have HRt := Lib.hid (HRs.out.dn ((Dn.refl _).drew))
                      have HBt := Lib.hid (HBs.out.trans (((Dn.refl _).drew.below _).mono HBs.out.size))
                      generalize (wz.setCell ⟨w7.heap.size, Y, none⟩ (.bool true)).drew = wy at *
                      go_wp2
                      go_roundw
                      case rel => exact ⟨t' + 1, _, by omega, by go_num, HRt.out, HGs.out.1, HGs.out.2, HBt.out⟩
                      case measure => simp [intOf]; omega
                    | false =>
                      rw [hgY] at mY HRs HBs HGs
                      rw [Bool.false_or] at HRs HBs HGs
                      clear hgY
                      generalize G X = gX at *
                      go_region
                      have HRt := Lib.hid (HRs.out.dn ((Dn.refl _).drew))
                      have HBt := Lib.hid (HBs.out.trans (((Dn.refl _).drew.below _).mono HBs.out.size))
                      generalize (wz.setCell ⟨w7.heap.size, Y, none⟩ (.bool gX)).drew = wy at *
                      go_wp2
                      go_roundw
                      case rel => exact ⟨t' + 1, _, by omega, by go_num, HRt.out, HGs.out.1, HGs.out.2, HBt.out⟩
                      case measure => simp [intOf]; omega
                  · obtain rfl : t' = t := by omega
                    have HGn : Hid (∀ j, j < kP p → rkM p j ≤ r + 1 → G j = true) := Lib.hid (fun j hj h => by
                      by_cases ef : j = f0
                      · exact HG.out j hj (by rw [ef, rkM_first HBest.out]; exact Nat.zero_le _)
                      · obtain ⟨i, hi, hc, hlt3⟩ := chain_step HOk.out hf0 hj (HBest.out j hj) ef
                        obtain ⟨t2, ht2, e2⟩ := HAll.out i j hi hj hc
                        exact HG2.out t2 i j ht2 hi hj e2 (by omega))
                    go_wp2
                    go_roundw
                    case rel => exact ⟨r + 1, _, by omega, by go_num, HRB.out, HGn.out, Hbel.out⟩
                    case measure => simp [intOf]; omega
              · obtain rfl : r = kP p := by omega
                have HAllT : Hid (∀ j, j < kP p → F j = true) := Lib.hid (fun j hj => HFr2.out j hj (rkM_bd p j))
                go_wp2_with fail
                refine Ro.use (containsB_all w7.heap.size (kP p) F wr HRB.out HAllT.out hkl) ?_
                intro w8 hd8
                have Hb8 := Lib.hid (Hb7.out.trans ((Hbel.out.trans ((hd8.below _).mono Hbel.out.size)).mono Hb7.out.size))
                have Hb8s := Lib.hid (Hbel.out.trans ((hd8.below _).mono Hbel.out.size))
                have HBx8 := Lib.hid (HBx7.out.keep Hb8s.out)
                have HR8 := Lib.hid (HR7.out.keep Hb8s.out)
                clear hd8 HRB Hbel HFr2 HAllT HMem HAll HX7 HM7
                obtain ⟨u, hu, hU⟩ := by_hand q (show 1 ≤ p.nS by omega) (by omega)
                have hnz : ¬ (p.nS : Int) = 0 := by omega
                have hn0 : (0 : Int) < p.nS := by omega
                have hnn := bne_f (rfl : (p.nS : Int) = p.nS)
                have hnb := beq_f hnz
                obtain ⟨q0, q1, q2⟩ := HBx8.out
                go_wp2_with fail
                refine (of_any AH AS AP cH cS cP p _ (HP.out.keep Hb8.out)).mono ?_
                rintro e w9 ⟨IH, IdH, IS, IdS, IP, IdP, rfl, hpl, hb9⟩
                have Hb9 := Lib.hid (Hb8.out.trans (hb9.mono Hb8.out.size))
                have HBx9 := Lib.hid (HBx8.out.keep hb9)
                have HR9 := Lib.hid (HR8.out.keep hb9)
                have HuS : Hid (u < (fewP p).nS) := Lib.hid (by rw [(few_n HOk.out).2.1]; exact hu)
                have HC := Lib.hid (Lie_ok IH IS IP IdH IdS IdP u (fewP p) w9 hpl HOf.out HuS.out)
                clear hpl hb9 q0 q1 q2
                go_wp2_with fail
                refine HC.out.mono ?_
                rintro e w10 ⟨la, lb, rfl, hL, hb10⟩
                have Hb10 := Lib.hid (Hb9.out.trans (hb10.mono Hb9.out.size))
                have HBx10 := Lib.hid (HBx9.out.keep hb10)
                have HR10 := Lib.hid (HR9.out.keep hb10)
                clear HC hb10
                cases hlie : lieP (fewP p) u with
                | none =>
                  rw [hlie] at hL
                  obtain ⟨rfl, rfl⟩ := hL
                  clear hlie
                  go_wp2_with fail
                  refine (awake_any _).mono ?_
                  rintro e wz ⟨rfl, hbz⟩
                  have Hbz := Lib.hid (Hb10.out.trans (hbz.mono Hb10.out.size))
                  clear hbz
                  go_wp2
                  go_ret
                  exact ⟨rfl, Hbz.out⟩
                | some x =>
                  rw [hlie] at hL
                  obtain ⟨Al, cl, rfl, rfl, hIl, hll⟩ := hL
                  obtain ⟨hlo, hgn⟩ := lfL_ok (p := fewP p) (s := u) (m := frM (fewP p)) _ _ _ (LstOk.nil _ _) hlie
                  have HLo := Lib.hid hlo
                  have HGn := Lib.hid hgn
                  clear hlie hgn
                  obtain ⟨q0, q1, q2⟩ := HBx10.out
                  go_wp2_with fail
                  refine (of_own AH AS AP cH cS cP p _ (HP.out.keep Hb10.out)).mono ?_
                  rintro e w11 ⟨JH, JdH, JS, JdS, JP, JdP, rfl, hpl, -, hrb, hb11⟩
                  obtain ⟨b, rfl, hbk1, hbk2, hbf, hbs⟩ := hrb (show 0 < min p.nS 8 by omega)
                  have Hb11 := Lib.hid (Hb10.out.trans (hb11.mono Hb10.out.size))
                  have HR11 := Lib.hid (HR10.out.keep hb11)
                  have hIl11 := hIl.keep hb11
                  have hl9 : x.length ≤ 9 := by have h1 := HLo.out.row.1; have h2 : (fewP p).nH = p.nH := HN.out; omega
                  obtain ⟨b0, o0, Ar, cr, e0, hcr, -, -⟩ := hpl.shifts.at HuS.out
                  injection e0 with e0
                  injection e0 with e1 e2
                  subst e1 e2
                  rw [Nat.zero_add] at hcr
                  have hfz : (w11.alloc (.cells #[.slice JH (min p.nH 8) JdH, .slice (some ⟨b, 0, none⟩) (min p.nS 8) JdS, .slice JP (min p.nP 9) JdP] 29)).frozen? ⟨b, u, none⟩ = false := ((below_box w11 (.cells #[.slice JH (min p.nH 8) JdH, .slice (some ⟨b, 0, none⟩) (min p.nS 8) JdS, .slice JP (min p.nP 9) JdP] 29)).frozen hbk2).trans (hbf u)
                  have hcr2 := old_cell hcr (below_box w11 (.cells #[.slice JH (min p.nH 8) JdH, .slice (some ⟨b, 0, none⟩) (min p.nS 8) JdS, .slice JP (min p.nP 9) JdP] 29))
                  have hum : (u : Int) < ((min p.nS 8 : Nat) : Int) := by omega
                  have hbq := below_box w11 (.cells #[.slice JH (min p.nH 8) JdH, .slice (some ⟨b, 0, none⟩) (min p.nS 8) JdS, .slice JP (min p.nP 9) JdP] 29)
                  have HPq : Hid (PlanIn ((w11.alloc (.cells #[.slice JH (min p.nH 8) JdH, .slice (some ⟨b, 0, none⟩) (min p.nS 8) JdS, .slice JP (min p.nP 9) JdP] 29)).setCell ⟨b, u, none⟩ (.slice Al x.length cl)) JH (some ⟨b, 0, none⟩) JP (setS (fewP p) u x.length (fun k => x.getD k 0))) := Lib.hid ((hpl.keep hbq).putS HuS.out hbs (hIl11.keep hbq) hll hl9)
                  have hsw : w.heap.size ≤ w10.heap.size := Hb10.out.size
                  have HB12 : Hid (Below w.heap.size w ((w11.alloc (.cells #[.slice JH (min p.nH 8) JdH, .slice (some ⟨b, 0, none⟩) (min p.nS 8) JdS, .slice JP (min p.nP 9) JdP] 29)).setCell ⟨b, u, none⟩ (.slice Al x.length cl))) := Lib.hid ((Hb11.out.trans (hbq.mono Hb11.out.size)).setCell (p := ⟨b, u, none⟩) (show w.heap.size ≤ b by omega) (.slice Al x.length cl))
                  have hgb : gf < w10.heap.size := by
                    obtain ⟨bq, oq, eq, hcq⟩ := HR10.out (by omega)
                    injection eq with eq
                    injection eq with eq1 eq2
                    subst eq1
                    have := World.block_lt_of_cell? _ _ (hcq 0 (by omega))
                    exact this
                  have HR12 : Hid (Ints ((w11.alloc (.cells #[.slice JH (min p.nH 8) JdH, .slice (some ⟨b, 0, none⟩) (min p.nS 8) JdS, .slice JP (min p.nP 9) JdP] 29)).setCell ⟨b, u, none⟩ (.slice Al x.length cl)) (some ⟨gf, 0, none⟩) p.nH m) := Lib.hid ((HR11.out.keep hbq).setS hcr2 _)
                  have hne : b ≠ w11.heap.size := by omega
                  have z0 : ((w11.alloc (.cells #[.slice JH (min p.nH 8) JdH, .slice (some ⟨b, 0, none⟩) (min p.nS 8) JdS, .slice JP (min p.nP 9) JdP] 29)).setCell ⟨b, u, none⟩ (.slice Al x.length cl)).cell? ⟨w11.heap.size, 0, none⟩ = some (.slice JH (min p.nH 8) JdH) := by rw [World.cell?_setCell_far _ _ _ _ hne]; simp [World.cell?_alloc_at]
                  have z1 : ((w11.alloc (.cells #[.slice JH (min p.nH 8) JdH, .slice (some ⟨b, 0, none⟩) (min p.nS 8) JdS, .slice JP (min p.nP 9) JdP] 29)).setCell ⟨b, u, none⟩ (.slice Al x.length cl)).cell? ⟨w11.heap.size, 1, none⟩ = some (.slice (some ⟨b, 0, none⟩) (min p.nS 8) JdS) := by rw [World.cell?_setCell_far _ _ _ _ hne]; simp [World.cell?_alloc_at]
                  have z2 : ((w11.alloc (.cells #[.slice JH (min p.nH 8) JdH, .slice (some ⟨b, 0, none⟩) (min p.nS 8) JdS, .slice JP (min p.nP 9) JdP] 29)).setCell ⟨b, u, none⟩ (.slice Al x.length cl)).cell? ⟨w11.heap.size, 2, none⟩ = some (.slice JP (min p.nP 9) JdP) := by rw [World.cell?_setCell_far _ _ _ _ hne]; simp [World.cell?_alloc_at]
                  clear hpl hrb hbk1 hbk2 hbf hbs hIl hIl11 hll hb11 hbq hsw hgb hne q0 q1 q2 hnz hn0 hnn hnb hU hl9
                  go_wp2_with fail
                  obtain ⟨W6, hW6⟩ : ∃ z, z = ((w11.alloc (.cells #[.slice JH (min p.nH 8) JdH, .slice (some ⟨b, 0, none⟩) (min p.nS 8) JdS, .slice JP (min p.nP 9) JdP] 29)).setCell ⟨b, u, none⟩ (.slice Al x.length cl)) := ⟨_, rfl⟩
                  rw [← hW6] at HPq HB12 HR12 ⊢
                  clear hW6 hcr hfz hcr2 z0 z1 z2
                  refine (First_ok JH (some ⟨b, 0, none⟩) JP JdH JdS JdP (setL (fewP p) u x) W6 HPq.out (HLo.out.ok HOf.out)).mono ?_
                  rintro e w13 ⟨g', m', a', rfl, hD', hE', hR', -, hb13⟩
                  have HN2 : (setL (fewP p) u x).nH = p.nH := HN.out
                  rw [HN2] at hR' ⊢
                  have HDf : Hid (eqB p.nH p.nH m m' = false) := Lib.hid (by
                    cases e : eqB p.nH p.nH m m' with
                    | false => rfl
                    | true =>
                      have h1 := (eqB_iff.1 e).2
                      have h2 := HGn.out
                      unfold gnL at h2
                      have hN : (fewP p).nH = p.nH := HN.out
                      rw [gnB_cg (a := m) (a' := m) HOf.out HuS.out (fun y hy => (HFr.out y hy).symm) (fun y hy => by
                        rw [hN] at hy
                        rw [← frM_eq (HLo.out.ok HOf.out) hD' hE' y (by rw [HN2]; exact hy), h1 y hy]), gnB_ne] at h2
                      cases h2)
                  have HEq := Lib.hid (equal_any (some ⟨gf, 0, none⟩) (some ⟨g', 0, none⟩) p.nH p.nH p.nH p.nH m m' w13 (HR12.out.keep hb13) hR'.ints (by omega) (by omega))
                  rw [HDf.out] at HEq
                  have Hb13 := Lib.hid (HB12.out.trans (hb13.mono HB12.out.size))
                  clear hD' hE' hR' hb13 HDf
                  go_wp2_with fail
                  refine Ro.use HEq.out ?_
                  intro w14 hd14
                  have Hb14 := Lib.hid (Hb13.out.trans ((hd14.below _).mono Hb13.out.size))
                  clear hd14 HEq
                  go_wp2_with fail
                  refine (awake_any _).mono ?_
                  rintro e wz ⟨rfl, hbz⟩
                  have Hbz := Lib.hid (Hb14.out.trans (hbz.mono Hb14.out.size))
                  clear hbz
                  go_wp2
                  go_ret
                  exact ⟨rfl, Hbz.out⟩
end Go.Proofs.Ytiigcjcolpmafaa

